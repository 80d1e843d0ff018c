/- BlobHolds' walk. -/
import Derived.Test.YtnfpbjioiiedeaaHd
import Derived.Test.YtnfpbjioiiedeaaBlo
import Derived.Test.YtnfpbjioiiedeaaAnd
namespace Go.Proofs.Ytnfpbjioiiedeaa
open Go.RowKit

/-- The law's store while its row is held i times. -/
def stB (bs : List Nat) (i : Nat) : BloN := if i = 0 then bareB 1000 0 1 else sole 1000 0 1 1 bs i
section
variable {bs : List Nat} {i : Nat}
theorem stB_some : stB bs (i + 1) = sole 1000 0 1 1 bs (i + 1) := if_neg (by omega)
theorem stB_none : stB bs 0 = bareB 1000 0 1 := rfl
theorem stB_at : atB (stB bs (i + 1)) 1 = some ⟨1, bs, i + 1⟩ := by rw [stB_some]; exact sole_at
theorem stB_used : usedB (stB bs (i + 1)) = bs.length := by rw [stB_some, sole_used]; omega
theorem stB_hold : holdB (stB bs (i + 1)) 1 = (stB bs (i + 2), true) := by rw [stB_some, stB_some]; exact sole_hold
theorem stB_holds : (holdsB (stB bs i) 1 : Int) = i := by
  cases i with
  | zero => rfl
  | succ i => rw [stB_some]; exact congrArg (fun x : Nat => (x : Int)) sole_holds
theorem stB_leave : leaveB (stB bs (i + 1)) 1 = (stB bs i, true) := by
  rw [stB_some]
  cases i with
  | zero => exact sole_last
  | succ i => rw [stB_some]; exact sole_leave (by omega)
end
theorem stB_again {bs : List Nat} (h : bs.length ≤ 300) : addB (stB bs 0) bs = (sole 1000 0 2 2 bs 1, some 2) := by
  rw [stB_none]
  exact bare_add (by omega)
theorem stB_gone {bs : List Nat} : holdB (sole 1000 0 2 2 bs 1) 1 = (sole 1000 0 2 2 bs 1, false) := sole_unheld (by decide)
set_option maxHeartbeats 16000000 in
set_option maxRecDepth 100000 in
theorem blholds_walk (a0 : Int) (A : Option Addr) (n c : Nat) (bs : List Nat) (w : World) (hr : Rds w w.heap.size A n (cells8 bs)) (hl : lt256 bs) : Calls Try.prog 3 #[.int .i64 a0, .slice A n c] w fun e w' => e = .returned (.bool true) ∧ Mod (fun _ => False) w w' := by
  have Hlen : Hid (bs.length = n) := Lib.hid (by have h := hr.1; rwa [cells8_length] at h)
  have Hr := Lib.hid hr; have Hlt := Lib.hid hl
  have F1 : Hid (FitI 1) := Lib.hid (fit_small (by omega) (by omega))
  clear hr hl
  by_cases hlong : (300 : Int) < (n : Int)
  · go_enter Try.func3, Try.ntmps3
    go_wp2_with fail
    refine (blAwake_any w).mono ?_
    rintro e w1 ⟨rfl, h2⟩
    have H2 := Lib.hid h2
    clear h2
    go_wp2_with fail
    go_ret
    exact ⟨rfl, H2.out⟩
  have Hn3 : Hid (n ≤ 300) := Lib.hid (by omega)
  go_enter Try.func3, Try.ntmps3
  obtain ⟨o0, ho0⟩ : ∃ x, a0 % 16 = x := ⟨_, rfl⟩
  obtain ⟨M, hM⟩ : ∃ M : Nat, o0 = (M : Int) := ⟨o0.toNat, by omega⟩
  have m0 : bits .and .i64 a0 15 = (M : Int) := by rw [← hM, ← ho0]; exact i64_mask a0 15 4 rfl (by omega)
  have hM15 : M ≤ 15 := by omega
  have HM15 := Lib.hid hM15
  clear ho0 hM
  go_wp2_with fail
  refine (blNew_any 1000 w).mono ?_
  rintro e w0 ⟨g, b, rfl, hc, hm0, hb0, hg0⟩
  have HB0 : Hid (BloV (fun _ => True) g b 0 w0 (bareB 1000 0 0)) := Lib.hid (by have h := hc w0 (Mod.refl _ _) (fun _ => True); rwa [bare_thousand] at h)
  have HM0 := Lib.hid hm0
  have HNew : Hid (w.heap.size ≤ g ∧ w.heap.size ≤ b) := Lib.hid ⟨hg0, hb0⟩
  have HRd : Hid (∀ w1, Mod (fun _ => False) w w1 → ∀ w', Mod (fun j => j = g ∨ j = b) w1 w' → Rds w' w'.heap.size A n (cells8 bs)) := Lib.hid (fun w1 h1 w' hm => (Hr.out.new (h1.trans hm (fun i hi h => by have := HNew.out; omega))).fit)
  clear hc hm0 hb0 hg0
  go_wp2_with fail
  refine (call_badd (o := some 1) (v := 1) (ok := true) (bare_add (b := bs) (by have := Hlen.out; have := Hn3.out; omega)) rfl rfl HB0.out (HRd.out w0 HM0.out) (by omega) (fun _ _ => trivial)).mono ?_
  rintro e w1 ⟨rfl, h1, h2⟩
  have HB1 : Hid (BloV (fun _ => True) g b 1 w1 (stB bs 1)) := Lib.hid h1
  have HM1 : Hid (Mod (fun _ => False) w w1) := Lib.hid (HM0.out.trans h2 (fun i hi h => by have := HNew.out; omega))
  clear h1 h2 HB0
  go_wp2_with fail
  go_loopg [8] M (fun gk s8 wr => ∃ i : Nat, i + gk = M ∧ s8 = .int .i64 (i : Int) ∧ BloV (fun _ => True) g b (i + 1) wr (stB bs (i + 1)) ∧ Mod (fun _ => False) w wr)
  case atStart => exact ⟨0, by omega, rfl, HB1.out, HM1.out⟩
  case round =>
    obtain ⟨i, hik, rfl, hb, hm⟩ := hrel
    obtain ⟨w2, rfl⟩ : ∃ w9, w9 = wr := ⟨_, rfl⟩
    have Hik := Lib.hid hik; have HB2 := Lib.hid hb; have HM2 := Lib.hid hm
    clear hik hb hm HB1 HM1
    by_cases hin : i < M
    · have hi1 : (i : Int) < (M : Int) := by omega
      have hi0 : (0 : Int) ≤ (i : Int) := by omega
      have hw2 : IntKind.i64.wrap ((i : Int) + 2) = (i : Int) + 2 := by rw [IntWalk.i64_in _ (by omega)]
      go_wp2_with fail
      refine (call_bhold (k := 1) (ok := true) stB_hold HB2.out F1.out (by omega)).mono ?_
      rintro e w3 ⟨rfl, h1, h2⟩
      have HB3 : Hid (BloV (fun _ => True) g b (i + 2) w3 (stB bs (i + 2))) := Lib.hid h1
      have HM3 : Hid (Mod (fun _ => False) w w3) := Lib.hid (HM2.out.trans h2 (fun i hi h => by have := HNew.out; omega))
      clear h1 h2
      go_wp2_with fail
      refine (call_bholds (k := 1) (u := (i : Int) + 2) (by rw [stB_holds]; omega) HB3.out F1.out).mono ?_
      rintro e w4 ⟨rfl, h1, h2⟩
      have HB4 : Hid (BloV (fun _ => True) g b (i + 2) w4 (stB bs (i + 2))) := Lib.hid h1
      have HM4 : Hid (Mod (fun _ => False) w w4) := Lib.hid (HM3.out.trans h2 (fun _ _ h => h))
      clear h1 h2
      go_wp2_with fail
      go_roundg (gk - 1)
      case measure => have := Hik.out; omega
      case rel => exact ⟨i + 1, by have := Hik.out; omega, by go_num, HB4.out, HM4.out⟩
    · obtain rfl : i = M := by have := Hik.out; omega
      clear hin Hik
      go_wp2_with fail
      go_loopg [9, 10, 11, 12] (i + 1) (fun gk s9 s10 s11 s12 wr => ∃ (j : Int) (N : Nat), s9 = .int .i64 j ∧ j + 1 = (gk : Int) ∧ N + gk = 2 * i + 2 ∧ BloV (fun _ => True) g b N wr (stB bs gk) ∧ Mod (fun _ => False) w wr)
      case atStart => exact ⟨(i : Int), i + 1, rfl, by omega, by omega, HB2.out, HM2.out⟩
      case round =>
        obtain ⟨j, N, rfl, hj, hN, hb, hm⟩ := hrel
        obtain ⟨w4, rfl⟩ : ∃ w9, w9 = wr := ⟨_, rfl⟩
        have Hj := Lib.hid hj; have HN := Lib.hid hN; have HB4 := Lib.hid hb; have HM4 := Lib.hid hm
        have HgB : Hid (g < w4.heap.size ∧ b < w4.heap.size) := Lib.hid hb.lt
        clear hj hN hb hm HB2 HM2
        by_cases hgk : 0 < gk
        · obtain ⟨k, rfl⟩ : ∃ k, gk = k + 1 := ⟨gk - 1, by omega⟩
          obtain rfl : j = (k : Int) := by have := Hj.out; omega
          have hk0 : (0 : Int) ≤ (k : Int) := by omega
          have Htg : Hid (BloV (fun j => j < w4.heap.size) g b N w4 (stB bs (k + 1))) := Lib.hid (HB4.out.tight.mono (fun k h => h.2))
          clear HB4 hgk
          have HB4 := Lib.hid Htg.out
          clear Htg
          go_wp2_with fail
          refine (call_bget (bs := bs) (L := n) (ok := true) stB_at rfl Hlen.out rfl HB4.out F1.out).mono ?_
          rintro e w5 ⟨A5, c5, rfl, hn5, hc5, h0, h1, h2⟩
          have HO5 : Hid (Own w4.heap.size w5 5 (.slice A5 n c5) (cells8 bs)) := Lib.hid h0
          have HB5 : Hid (BloV (fun j => j < w4.heap.size) g b (N) w5 (stB bs (k + 1))) := Lib.hid h1
          have Hn5 : Hid (Mod (fun _ => False) w4 w5) := Lib.hid h2
          have HM5 : Hid (Mod (fun _ => False) w w5) := Lib.hid (HM4.out.trans h2 (fun _ _ h => h))
          clear h0 h1 h2
          obtain ⟨s1, hs1⟩ : ∃ s1, strOf bs = s1 := ⟨_, rfl⟩
          have hcz : ∀ c, (convert 22 9 (.slice A5 n c)).run Try.prog w5 = .ok (.string s1) w5 := fun c => by
            have h := conv_rds (P := Try.prog) (c := c) Try.underlying22 Try.underlying5 Try.underlying9 w5 (Own.rds8 HO5.out Hlen.out) Hlt.out
            rwa [hs1] at h
          have hcb : ∀ c, (convert 22 9 (.slice A n c)).run Try.prog w5 = .ok (.string s1) w5 := fun c => by
            have h := conv_rds (P := Try.prog) (c := c) Try.underlying22 Try.underlying5 Try.underlying9 w5 (Hr.out.new HM5.out) Hlt.out
            rwa [hs1] at h
          have hq : (s1.toList != s1.toList) = false := by simp
          clear hs1
          go_wp2_with fail
          refine (call_bused (u := (n : Int)) (by rw [stB_used, Hlen.out]) HB5.out).mono ?_
          rintro e w6 ⟨rfl, h1, h2⟩
          have HB6 : Hid (BloV (fun j => j < w4.heap.size) g b (N) w6 (stB bs (k + 1))) := Lib.hid h1
          have HM6 : Hid (Mod (fun _ => False) w w6) := Lib.hid (HM5.out.trans h2 (fun _ _ h => h))
          have Hs6 : Hid (Mod (fun _ => False) w5 w6) := Lib.hid h2
          clear h1 h2
          clear hcz hcb hq
          go_wp2_with fail
          refine (call_bleave (k := 1) (ok := true) stB_leave HB6.out F1.out (by have := HN.out; have := HM15.out; omega)).mono ?_
          rintro e w7 ⟨rfl, h1, h2⟩
          have HB7 : Hid (BloV (fun j => j < w4.heap.size) g b (N + 1) w7 (stB bs k)) := Lib.hid h1
          have HM7 : Hid (Mod (fun _ => False) w w7) := Lib.hid (HM6.out.trans h2 (fun i hi h => by have := HNew.out; omega))
          have Hs7 : Hid (Mod (fun j => j = g ∨ j = b) w6 w7) := Lib.hid h2
          clear h1 h2
          go_wp2_with fail
          refine (call_bholds (k := 1) (u := (k : Int)) stB_holds HB7.out F1.out).mono ?_
          rintro e w8 ⟨rfl, h1, h2⟩
          have HB8 : Hid (BloV (fun j => j < w4.heap.size) g b (N + 1) w8 (stB bs k)) := Lib.hid h1
          have HM8 : Hid (Mod (fun _ => False) w w8) := Lib.hid (HM7.out.trans h2 (fun _ _ h => h))
          have Hs8 : Hid (Mod (fun _ => False) w7 w8) := Lib.hid h2
          clear h1 h2
          have HO8 : Hid (Own w4.heap.size w8 5 (.slice A5 n c5) (cells8 bs)) := Lib.hid (by
            have h6 : Mod (fun _ => False) w5 w6 := Hs6.out
            have h1 := HO5.out.mod h6
            have h2 : Own w4.heap.size w7 5 (.slice A5 n c5) (cells8 bs) := Hs7.out.owns h1 (fun k hk e => by have h3 := Own.block h1 k hk; have h4 := HgB.out; omega)
            exact Own.mod h2 Hs8.out)
          go_wp2_with fail
          go_loopg [12, 91] n (fun gz s12 s91 wr => ∃ (i : Nat) (ys : List Nat), i + gz = n ∧ s91 = .int .i64 (i : Int) ∧ ys.length = n ∧ Own w4.heap.size wr 5 (.slice A5 n c5) (cells8 ys) ∧ Mod (fun j => (Value.slice A5 n c5).ownBlock = some j) w8 wr)
          case atStart => exact ⟨0, bs, by omega, rfl, Hlen.out, HO8.out, Mod.refl _ _⟩
          case round =>
            obtain ⟨i, ys, hik, rfl, hly, hoy, hm⟩ := hrel
            have Hik := Lib.hid hik; have Hly := Lib.hid hly; have Hoy := Lib.hid hoy; have Hm := Lib.hid hm
            clear hik hly hoy hm
            by_cases hin : i < n
            · have hi0 : (0 : Int) ≤ (i : Int) := by omega
              have hii : (i : Int) < (n : Int) := by omega
              obtain ⟨gx, cap, hx1, hx2, hx3, hx4, hx5⟩ := own_some Hoy.out Hly.out.symm (by omega)
              injection hx1 with e1 e2 e3
              subst e1
              subst e3
              clear e2 hx2 hx3
              obtain ⟨z, hz, hcz⟩ := own_at Hoy.out Hly.out.symm hin
              obtain ⟨u, hu⟩ : ∃ u : Nat, u = (z + 1) % 256 := ⟨_, rfl⟩
              have hwx : IntKind.u8.wrap ((z : Int) + 1) = (u : Int) := by rw [IntKind.wrap_u8', hu]; omega
              obtain ⟨_, hf, hset⟩ := own_set (b := u) Hoy.out Hly.out.symm hin
              have Hset := Lib.hid hset
              clear hset hz hu
              go_wp2_with fail
              go_roundg (gk - 1)
              case measure => have := Hik.out; omega
              case rel => exact ⟨i + 1, ys.set i u, by have := Hik.out; omega, by go_num, by rw [List.length_set]; exact Hly.out, Hset.out, Hm.out.setCell (p := ⟨gx, i, none⟩) (fun _ => rfl) _⟩
            · obtain ⟨w9, rfl⟩ : ∃ w0 : World, w0 = wr := ⟨_, rfl⟩
              have HB9 : Hid (BloV (fun _ => True) g b (N + 1) w9 (stB bs k)) := Lib.hid ((HB8.out.modS Hm.out (fun h => by have h1 := Own.block HO8.out g h; have h2 := HgB.out; omega) (fun h => by have h1 := Own.block HO8.out b h; have h2 := HgB.out; omega) (fun j cs hj _ h => by have h1 := Own.block HO8.out j h; omega)).mono (fun _ _ => trivial))
              have HM9 : Hid (Mod (fun _ => False) w w9) := Lib.hid (HM8.out.trans Hm.out (fun i hi h => by have h1 := Own.block HO8.out i h; have h2 := HM4.out.size; omega))
              clear Hik Hly Hoy Hm
              have hwk : IntKind.i64.wrap ((k : Int) - 1) = (k : Int) - 1 := by rw [IntWalk.i64_in _ (by have := HN.out; have := HM15.out; omega)]
              go_wp2_with fail
              go_roundg k
              case measure => omega
              case rel => exact ⟨(k : Int) - 1, N + 1, rfl, by omega, by have := HN.out; omega, HB9.out, HM9.out⟩
        · obtain rfl : gk = 0 := by omega
          obtain rfl : j = -1 := by have := Hj.out; omega
          clear hgk
          go_wp2_with fail
          refine (call_bget (bs := []) (L := 0) (ok := false) (o := none) rfl rfl rfl rfl HB4.out F1.out).mono ?_
          rintro e w10 ⟨A10, c10, rfl, hn10, hc10, h0, h1, h2⟩
          have HO10 : Hid (Own w4.heap.size w10 5 (.slice A10 0 c10) (cells8 [])) := Lib.hid h0
          have HB10 : Hid (BloV (fun _ => True) g b (N) w10 (stB bs 0)) := Lib.hid h1
          have Hn10 : Hid (Mod (fun _ => False) w4 w10) := Lib.hid h2
          have HM10 : Hid (Mod (fun _ => False) w w10) := Lib.hid (HM4.out.trans h2 (fun _ _ h => h))
          clear h0 h1 h2
          go_wp2_with fail
          refine (call_badd (o := some 2) (v := 2) (ok := true) (stB_again (by have := Hlen.out; have := Hn3.out; omega)) rfl rfl HB10.out (HRd.out w10 HM10.out) (by have := HN.out; have := HM15.out; omega) (fun _ _ => trivial)).mono ?_
          rintro e w11 ⟨rfl, h1, h2⟩
          have HB11 : Hid (BloV (fun _ => True) g b (N + 1) w11 (sole 1000 0 2 2 bs 1)) := Lib.hid h1
          have HM11 : Hid (Mod (fun _ => False) w w11) := Lib.hid (HM10.out.trans h2 (fun i hi h => by have := HNew.out; omega))
          clear h1 h2
          go_wp2_with fail
          refine (call_bused (u := (n : Int)) (by rw [sole_used, Hlen.out]; omega) HB11.out).mono ?_
          rintro e w12 ⟨rfl, h1, h2⟩
          have HB12 : Hid (BloV (fun _ => True) g b (N + 1) w12 (sole 1000 0 2 2 bs 1)) := Lib.hid h1
          have HM12 : Hid (Mod (fun _ => False) w w12) := Lib.hid (HM11.out.trans h2 (fun _ _ h => h))
          clear h1 h2
          go_wp2_with fail
          refine (call_bhold (k := 1) (ok := false) stB_gone HB12.out F1.out (by have := HN.out; have := HM15.out; omega)).mono ?_
          rintro e w13 ⟨rfl, h1, h2⟩
          have HB13 : Hid (BloV (fun _ => True) g b (N + 2) w13 (sole 1000 0 2 2 bs 1)) := Lib.hid h1
          have HM13 : Hid (Mod (fun _ => False) w w13) := Lib.hid (HM12.out.trans h2 (fun i hi h => by have := HNew.out; omega))
          clear h1 h2
          go_wp2_with fail
          refine (blAwake_any w13).mono ?_
          rintro e w14 ⟨rfl, h2⟩
          have HM14 : Hid (Mod (fun _ => False) w w14) := Lib.hid (HM13.out.trans h2 (fun _ _ h => h))
          clear h2
          go_wp2_with fail
          go_ret
          exact ⟨rfl, HM14.out⟩
end Go.Proofs.Ytnfpbjioiiedeaa

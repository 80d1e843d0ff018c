/- BlobOwn's walk. -/
import Derived.Test.YtnfpbjioiiedeaaHd
import Derived.Test.YtnfpbjioiiedeaaBli
namespace Go.Proofs.Ytnfpbjioiiedeaa
open Go.RowKit

theorem bare_thousand : newB 1000 = bareB 1000 0 0 := by decide
set_option maxHeartbeats 8000000 in
set_option maxRecDepth 100000 in
theorem blown_walk (A : Option Addr) (n c : Nat) (bs : List Nat) (w : World) (hr : Rds w w.heap.size A n (cells8 bs)) (hl : lt256 bs) : Calls Try.prog 5 #[.slice A n c] w fun e w' => e = .returned (.bool true) ∧ Mod (fun _ => False) w w' := by
  have Hlen : Hid (bs.length = n) := Lib.hid (by have h := hr.1; rwa [cells8_length] at h)
  have Hr := Lib.hid hr; have Hlt := Lib.hid hl
  have F1 : Hid (FitI 1) := Lib.hid (fit_small (by omega) (by omega))
  clear hr hl
  by_cases hlong : (300 : Int) < (n : Int)
  · go_enter Try.func5, Try.ntmps5
    go_wp2_with fail
    refine (blAwake_any w).mono ?_
    rintro e w1 ⟨rfl, h2⟩
    have H2 := Lib.hid h2
    clear h2
    go_wp2_with fail
    go_ret
    exact ⟨rfl, H2.out⟩
  have Hn3 : Hid (n ≤ 300) := Lib.hid (by omega)
  go_enter Try.func5, Try.ntmps5
  have hr1 : ([] : List Value).length + n ≤ maxLen := by unfold maxLen; simp; omega
  have hr2 : (([] : List Value).length + n) * 1 ≤ 140737488355328 := by simp; omega
  go_wp2_with fail
  refine (blNew_any 1000 w).mono ?_
  rintro e w0 ⟨g, b, rfl, hc, hm0, hb0, hg0⟩
  have HC := Lib.hid hc; have HM0 := Lib.hid hm0
  have HNew : Hid (w.heap.size ≤ g ∧ w.heap.size ≤ b) := Lib.hid ⟨hg0, hb0⟩
  have HgB : Hid (g < w0.heap.size ∧ b < w0.heap.size) := Lib.hid (by have h := (hc w0 (Mod.refl _ _) (fun _ => True)).lt; exact h)
  clear hc hm0 hb0 hg0
  have h0m : (#[] : Array Value).size ≤ maxLen := by simp
  have Hrb : Hid (Rds w0 w0.heap.size A n (cells8 bs)) := Lib.hid (Hr.out.new HM0.out).fit
  have HX : Hid (∀ (v2 : Value) (w2 : World), Own w0.heap.size w2 5 v2 ([] ++ cells8 bs) → Below w0.heap.size (w0.alloc (.cells #[] 5)) w2 → ∃ A2 c2, v2 = .slice A2 n c2 ∧ n ≤ c2 ∧ c2 ≤ maxLen ∧ Own w0.heap.size w2 5 (.slice A2 n c2) (cells8 bs) ∧ Mod (fun _ => False) w0 w2) := Lib.hid (fun v2 w2 h1 h2 => by
    rw [List.nil_append] at h1
    obtain ⟨A2, c2, e, h3, h4, _⟩ := own_form8 h1
    rw [Hlen.out] at e h3
    subst e
    exact ⟨A2, c2, rfl, h3, h4, h1, ((Mod.refl (fun _ => False) w0).alloc (.cells #[] 5)).trans (Mod.of_below h2) (fun i hi h => by omega)⟩)
  go_upto_region 7 with (at_builtin; refine wpList_app rfl (.tmp 20) (.tmp 21) _ rfl elt8 rfl (Own.lit w0 5 #[] h0m) rfl (Hrb.out.alloc (Nat.le_refl _) _) (cells8_one bs) hr1 hr2 (le_alloc _ _) ?_; intro v2 w2 HO HBl HG; clear HG; obtain ⟨A2, c2, rfl, hn2, hc2, ho2, hm2⟩ := HX.out v2 w2 HO.out HBl.out; have HO2 := Lib.hid ho2; have Hm02 := Lib.hid hm2; clear ho2 hm2 HO HBl)
  clear h0m hr1 hr2
  obtain ⟨B1, hB1⟩ : ∃ B1, B1 = w2.heap.size := ⟨_, rfl⟩
  have HB2 : Hid (BloV (fun j => B1 ≤ j) g b 0 w2 (bareB 1000 0 0)) := Lib.hid (by have h := HC.out w2 Hm02.out (fun j => B1 ≤ j); rwa [bare_thousand] at h)
  have HM2 : Hid (Mod (fun _ => False) w w2) := Lib.hid (HM0.out.trans Hm02.out (fun _ _ h => h))
  have HS : Hid (∀ k, (Value.slice A2 n c2).ownBlock = some k → w0.heap.size ≤ k ∧ k < B1) := Lib.hid (fun k hk => by have h := Own.block HO2.out k hk; omega)
  have HB1 := Lib.hid hB1
  have HRd : Hid (∀ w', Mod (fun j => j = g ∨ j = b) w2 w' → Rds w' w'.heap.size A2 n (cells8 bs)) := Lib.hid (fun w' hm => Own.rds8 (hm.owns HO2.out (fun k hk e => by have h1 := HS.out k hk; have h2 := HgB.out; omega)) Hlen.out)
  have HOwn3 : Hid (∀ w', Mod (fun j => j = g ∨ j = b) w2 w' → Own w0.heap.size w' 5 (.slice A2 n c2) (cells8 bs)) := Lib.hid (fun w' hm => hm.owns HO2.out (fun k hk e => by have h1 := HS.out k hk; have h2 := HgB.out; omega))
  clear hB1
  go_wp2_with fail
  refine (call_badd (o := some 1) (v := 1) (ok := true) (bare_add (b := bs) (by have := Hlen.out; have := Hn3.out; omega)) rfl rfl HB2.out HRd.out (by omega) (fun k hk => by have := HB1.out; omega)).mono ?_
  rintro e w3 ⟨rfl, h1, h2⟩
  have HB3 : Hid (BloV (fun j => B1 ≤ j) g b 1 w3 (sole 1000 0 1 1 bs 1)) := Lib.hid h1
  have HM3 : Hid (Mod (fun _ => False) w w3) := Lib.hid (HM2.out.trans h2 (fun i hi h => by have := HNew.out; omega))
  have HO3 : Hid (Own w0.heap.size w3 5 (.slice A2 n c2) (cells8 bs)) := Lib.hid (HOwn3.out w3 h2)
  clear h1 h2 HRd HOwn3 HX
  go_wp2_with fail
  go_loopg [7, 31] n (fun gk s7 s31 wr => ∃ (i : Nat) (ys : List Nat), i + gk = n ∧ s31 = .int .i64 (i : Int) ∧ ys.length = n ∧ Own w0.heap.size wr 5 (.slice A2 n c2) (cells8 ys) ∧ Mod (fun j => (Value.slice A2 n c2).ownBlock = some j) w3 wr)
  case atStart => exact ⟨0, bs, by omega, rfl, Hlen.out, HO3.out, Mod.refl _ _⟩
  case round =>
    obtain ⟨i, ys, hik, rfl, hly, hoy, hm⟩ := hrel
    have Hik := Lib.hid hik; have Hly := Lib.hid hly; have Hoy := Lib.hid hoy; have Hm := Lib.hid hm
    clear hik hly hoy hm
    by_cases hin : i < n
    · have hi0 : (0 : Int) ≤ (i : Int) := by omega
      have hii : (i : Int) < (n : Int) := by omega
      obtain ⟨gx, cap, hx1, hx2, hx3, hx4, hx5⟩ := own_some Hoy.out Hly.out.symm (by omega)
      injection hx1 with e1 e2 e3
      subst e1
      subst e3
      clear e2 hx2 hx3
      obtain ⟨z, hz, hcz⟩ := own_at Hoy.out Hly.out.symm hin
      obtain ⟨u, hu⟩ : ∃ u : Nat, u = (z + 1) % 256 := ⟨_, rfl⟩
      have hwx : IntKind.u8.wrap ((z : Int) + 1) = (u : Int) := by rw [IntKind.wrap_u8', hu]; omega
      obtain ⟨_, hf, hset⟩ := own_set (b := u) Hoy.out Hly.out.symm hin
      have Hset := Lib.hid hset
      clear hset hz hu
      go_wp2_with fail
      go_roundg (gk - 1)
      case measure => have := Hik.out; omega
      case rel => exact ⟨i + 1, ys.set i u, by have := Hik.out; omega, by go_num, by rw [List.length_set]; exact Hly.out, Hset.out, Hm.out.setCell (p := ⟨gx, i, none⟩) (fun _ => rfl) _⟩
    · obtain ⟨w4, rfl⟩ : ∃ w4, w4 = wr := ⟨_, rfl⟩
      have HB4 : Hid (BloV (fun j => B1 ≤ j) g b 1 w4 (sole 1000 0 1 1 bs 1)) := Lib.hid (HB3.out.modS Hm.out (fun h => by have h1 := HS.out g h; have h2 := HgB.out; omega) (fun h => by have h1 := HS.out b h; have h2 := HgB.out; omega) (fun j cs hj _ h => by have h1 := HS.out j h; omega))
      have HM4 : Hid (Mod (fun _ => False) w w4) := Lib.hid (HM3.out.trans Hm.out (fun i hi h => by have h1 := HS.out i h; have h2 := HM0.out.size; omega))
      clear Hik Hly Hoy Hm HB3 HO3
      go_wp2_with fail
      refine (call_bget (bs := bs) (L := n) (ok := true) (o := some ⟨1, bs, 1⟩) sole_at rfl Hlen.out rfl HB4.out F1.out).mono ?_
      rintro e w5 ⟨A5, c5, rfl, hn5, hc5, h0, h1, h2⟩
      have HO5 : Hid (Own w4.heap.size w5 5 (.slice A5 n c5) (cells8 bs)) := Lib.hid h0
      have HB5 : Hid (BloV (fun j => B1 ≤ j) g b (1) w5 (sole 1000 0 1 1 bs 1)) := Lib.hid h1
      have Hn5 : Hid (Mod (fun _ => False) w4 w5) := Lib.hid h2
      have HM5 : Hid (Mod (fun _ => False) w w5) := Lib.hid (HM4.out.trans h2 (fun _ _ h => h))
      clear h0 h1 h2
      go_wp2_with fail
      go_loopg [10, 49] n (fun gk s10 s49 wr => ∃ (i : Nat) (ys : List Nat), i + gk = n ∧ s49 = .int .i64 (i : Int) ∧ ys.length = n ∧ Own w4.heap.size wr 5 (.slice A5 n c5) (cells8 ys) ∧ Mod (fun j => (Value.slice A5 n c5).ownBlock = some j) w5 wr)
      case atStart => exact ⟨0, bs, by omega, rfl, Hlen.out, HO5.out, Mod.refl _ _⟩
      case round =>
        obtain ⟨i, ys, hik, rfl, hly, hoy, hm⟩ := hrel
        have Hik := Lib.hid hik; have Hly := Lib.hid hly; have Hoy := Lib.hid hoy; have Hm := Lib.hid hm
        clear hik hly hoy hm
        by_cases hin : i < n
        · have hi0 : (0 : Int) ≤ (i : Int) := by omega
          have hii : (i : Int) < (n : Int) := by omega
          obtain ⟨gx, cap, hx1, hx2, hx3, hx4, hx5⟩ := own_some Hoy.out Hly.out.symm (by omega)
          injection hx1 with e1 e2 e3
          subst e1
          subst e3
          clear e2 hx2 hx3
          obtain ⟨z, hz, hcz⟩ := own_at Hoy.out Hly.out.symm hin
          obtain ⟨u, hu⟩ : ∃ u : Nat, u = (z + 1) % 256 := ⟨_, rfl⟩
          have hwx : IntKind.u8.wrap ((z : Int) + 1) = (u : Int) := by rw [IntKind.wrap_u8', hu]; omega
          obtain ⟨_, hf, hset⟩ := own_set (b := u) Hoy.out Hly.out.symm hin
          have Hset := Lib.hid hset
          clear hset hz hu
          go_wp2_with fail
          go_roundg (gk - 1)
          case measure => have := Hik.out; omega
          case rel => exact ⟨i + 1, ys.set i u, by have := Hik.out; omega, by go_num, by rw [List.length_set]; exact Hly.out, Hset.out, Hm.out.setCell (p := ⟨gx, i, none⟩) (fun _ => rfl) _⟩
        · obtain ⟨w6, rfl⟩ : ∃ w6, w6 = wr := ⟨_, rfl⟩
          have Hn6 : Hid (Mod (fun _ => False) w4 w6) := Lib.hid (Hn5.out.trans Hm.out (fun i hi h => by have h1 := Own.block HO5.out i h; omega))
          have HB6 : Hid (BloV (fun j => B1 ≤ j) g b 1 w6 (sole 1000 0 1 1 bs 1)) := Lib.hid (HB4.out.new Hn6.out)
          have HM6 : Hid (Mod (fun _ => False) w w6) := Lib.hid (HM4.out.trans Hn6.out (fun _ _ h => h))
          clear Hik Hly Hoy Hm HB5 HO5
          go_wp2_with fail
          refine (call_bget (bs := bs) (L := n) (ok := true) (o := some ⟨1, bs, 1⟩) sole_at rfl Hlen.out rfl HB6.out F1.out).mono ?_
          rintro e w7 ⟨A7, c7, rfl, hn7, hc7, h0, h1, h2⟩
          have HO7 : Hid (Own w6.heap.size w7 5 (.slice A7 n c7) (cells8 bs)) := Lib.hid h0
          have HB7 : Hid (BloV (fun j => B1 ≤ j) g b (1) w7 (sole 1000 0 1 1 bs 1)) := Lib.hid h1
          have Hn7 : Hid (Mod (fun _ => False) w6 w7) := Lib.hid h2
          have HM7 : Hid (Mod (fun _ => False) w w7) := Lib.hid (HM6.out.trans h2 (fun _ _ h => h))
          clear h0 h1 h2
          obtain ⟨s1, hs1⟩ : ∃ s1, strOf bs = s1 := ⟨_, rfl⟩
          have hcz : ∀ c, (convert 22 9 (.slice A7 n c)).run Try.prog w7 = .ok (.string s1) w7 := fun c => by
            have h := conv_rds (P := Try.prog) (c := c) Try.underlying22 Try.underlying5 Try.underlying9 w7 (Own.rds8 HO7.out Hlen.out) Hlt.out
            rwa [hs1] at h
          have hcb : ∀ c, (convert 22 9 (.slice A n c)).run Try.prog w7 = .ok (.string s1) w7 := fun c => by
            have h := conv_rds (P := Try.prog) (c := c) Try.underlying22 Try.underlying5 Try.underlying9 w7 (Hr.out.new HM7.out) Hlt.out
            rwa [hs1] at h
          have hq : (s1.toList == s1.toList) = true := beq_self_eq_true _
          clear hs1
          go_wp2_with fail
          refine (blAwake_any w7).mono ?_
          rintro e w8 ⟨rfl, h2⟩
          have HM8 : Hid (Mod (fun _ => False) w w8) := Lib.hid (HM7.out.trans h2 (fun _ _ h => h))
          clear h2 hcz hcb hq
          go_wp2_with fail
          go_ret
          exact ⟨rfl, HM8.out⟩
end Go.Proofs.Ytnfpbjioiiedeaa

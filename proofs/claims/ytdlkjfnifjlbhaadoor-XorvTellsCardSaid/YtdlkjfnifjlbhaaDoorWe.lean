/- Rows of values are told: Encode. -/
import Derived.Test.YtdlkjfnifjlbhaaDoorWp
namespace Go.Proofs.YtdlkjfnifjlbhaaDoor
open Go.RowKit

def cellsU (xs : List Nat) : List Value := xs.map fun (x : Nat) => Value.int .u64 (x : Int)
theorem cellsU_length (xs : List Nat) : (cellsU xs).length = xs.length := by simp [cellsU]
theorem cellsU_snoc (xs : List Nat) (x : Nat) : cellsU (xs ++ [x]) = cellsU xs ++ [.int .u64 (x : Int)] := by simp [cellsU]
theorem cellsU_get (xs : List Nat) (i : Nat) : (cellsU xs)[i]? = xs[i]?.map fun (x : Nat) => Value.int .u64 (x : Int) := by simp [cellsU]
theorem cellsU_take (xs : List Nat) (k : Nat) : (cellsU xs).take k = cellsU (xs.take k) := by simp [cellsU, List.map_take]
theorem Rds.at2 {w w' : World} {B n i : Nat} {A : Option Addr} {zs : List Nat} (h : Rds w B A n (cellsU zs)) (hi : i < n) (hB : B ≤ w.heap.size) {S : Nat → Prop} (hm : Mod S w w') (hS : ∀ ad, A = some ad → ¬ S ad.block) :
    ∃ ad x, A = some ad ∧ zs[i]? = some x ∧ w'.cell? (ad.add i) = some (.int .u64 (x : Int)) := by
  obtain ⟨ad, u, e, hb, hu, hc⟩ := h.at_ hi
  rw [cellsU_get] at hu
  obtain ⟨x, hx, rfl⟩ := Option.map_eq_some_iff.1 hu
  refine ⟨ad, x, e, hx, ?_⟩
  rw [hm.cell (a := ad.add i) (by rw [add_block]; omega) (by rw [add_block]; exact hS _ e)]
  exact hc
theorem drop_at' {zs : List Nat} {i : Nat} {x : Nat} (h : zs[i]? = some x) : zs.drop i = x :: zs.drop (i + 1) := by
  rw [List.getElem?_eq_some_iff] at h
  obtain ⟨hi, rfl⟩ := h
  exact List.drop_eq_getElem_cons hi
/-- What Encode has told of i values. -/
def XEnc (w wr : World) (g : Nat) (row : Option Nat) (N len : Nat) (zs : List Nat) (nb i prev : Nat) (win : Option (Nat × Nat)) : Prop :=
  ∃ fs, Wrote w wr g row N len fs ∧ Blk wr nb 56 #[.int .i64 (winA win : Int), .int .i64 (winS win : Int)] ∧ WinOk win ∧ prev < 2 ^ 64 ∧ (i = 0 → fs = [] ∧ prev = 0 ∧ win = none) ∧ (0 < i → fs ++ encX win prev (zs.drop i) = encVals zs)
set_option maxHeartbeats 4000000 in
set_option maxRecDepth 100000 in
theorem xenc_any (B g : Nat) (row : Option Nat) (N len n c : Nat) (A : Option Addr) (zs : List Nat) (w : World) (hs : Rds w B A n (cellsU zs)) (hz : ∀ x ∈ zs, x < 2 ^ 64) (hB : B ≤ w.heap.size) (hap : 0 < n → ∀ ad, A = some ad → ¬ (ad.block = g ∨ row = some ad.block)) (hg0 : g ≠ 0) (hr0 : row ≠ some 0)
    (hw : Wr w g row N len) (hdeb : Deb w) (hlen : len + (64 + 77 * n) ≤ 900000000) :
    Calls Tryd.prog 8 #[.pointer (some ⟨g, 0, none⟩), .slice A n c] w fun e w' => e = .returned (.tuple #[]) ∧ Wrote w w' g row N len (encVals zs) := by
  have hzl : zs.length = n := by have := hs.1; rwa [cellsU_length] at this
  have Hs := Lib.hid hs; have Hz := Lib.hid hz; have Hdeb := Lib.hid hdeb; have Hg := Lib.hid hg0; have Hr := Lib.hid hr0; have HS := Lib.hid hap
  obtain ⟨W, hW⟩ : ∃ W, W = w.alloc (.cells #[.int .i64 0, .int .i64 0] 56) := ⟨_, rfl⟩
  have hmW : Mod (fun _ => False) w W := by rw [hW]; exact (Mod.refl _ _).alloc _
  have H0 : Hid (XEnc w W g row N len zs w.heap.size 0 0 none) := Lib.hid ⟨[], (Wrote.refl hw).new hmW, by rw [hW]; exact Blk.new _ _ _, trivial, by decide, fun _ => ⟨rfl, rfl, rfl⟩, fun h => by omega⟩
  have Hgn : Hid (w.heap.size ≠ g) := Lib.hid (by have := hw.lt; omega)
  have Hzl := Lib.hid hzl; have HW := Lib.hid hW
  have Htot : Hid (len + flen (encVals zs) ≤ 900000000) := Lib.hid (by have := encVals_len zs; rw [hzl] at this; omega)
  clear hs hz hw hdeb hap hg0 hr0 hzl hW hmW
  go_enter Tryd.func8, Tryd.ntmps8
  go_wp2_with fail
  rw [← HW.out]
  go_loopg [4, 10] n (fun l s4 s10 wr => ∃ (i prev : Nat) (win : Option (Nat × Nat)), i + l = n ∧ s10 = .int .i64 (i : Int) ∧ s4 = .int .u64 (prev : Int) ∧ XEnc w wr g row N len zs w.heap.size i prev win)
  case atStart => exact ⟨0, 0, none, by omega, rfl, rfl, H0.out⟩
  case round =>
    obtain ⟨i, prev, win, hil, rfl, rfl, hE⟩ := hrel
    have HE := Lib.hid hE; have Hil := Lib.hid hil
    clear hE hil H0 HW
    by_cases hin : i < n
    · obtain ⟨fs, hwr, hb, hok, hp64, he0, he1⟩ := HE.out
      obtain ⟨ad, x, rfl, hx, hcx⟩ := Hs.out.at2 hin hB (by obtain ⟨_, _, a2, _⟩ := hwr; exact a2) (HS.out (by omega))
      have hxl := Lib.hid (Hz.out x (List.mem_of_getElem? hx))
      have Hdr := Lib.hid (drop_at' hx)
      have Hb := Lib.hid hb; have Hok := Lib.hid hok; have Hp64 := Lib.hid hp64
      clear hx hb hok hp64
      by_cases hi0 : i = 0
      · obtain ⟨rfl, rfl, rfl⟩ := he0 hi0
        subst hi0
        have Hwr := Lib.hid hwr
        have hcx0 : wr.cell? ad = some (.int .u64 (x : Int)) := by rw [← add_zero' ad]; exact hcx
        clear hwr he0 he1 HE
        go_wp2_with fail
        refine (put_kept w g row N len 64 [] x _ _ _ rfl rfl (by omega) hxl.out Hwr.out (by show len + 0 ≤ _; omega)).mono ?_
        rintro e w1 ⟨rfl, h1, hk1⟩
        have hd0 := Hdr.out
        rw [List.drop_zero] at hd0
        have H1 : Hid (XEnc w w1 g row N len zs w.heap.size 1 x none) := Lib.hid ⟨[(x, 64)], h1, hk1 _ _ _ Hb.out (by decide) Hgn.out, trivial, hxl.out, fun h => by omega, fun _ => by rw [hd0]; rfl⟩
        clear h1 hd0 Hwr hk1
        go_wp2_with fail
        go_roundg (gk - 1)
        case measure => have := Hil.out; omega
        case rel => exact ⟨1, x, none, by have := Hil.out; omega, rfl, rfl, H1.out⟩
      · have hb0 : ((i : Int) == 0) = false := by simp; omega
        have hE1 := he1 (by omega)
        have Hwr := Lib.hid hwr; have HE1 := Lib.hid hE1
        obtain ⟨y, hy⟩ : ∃ y : Nat, y = x ^^^ prev := ⟨_, rfl⟩
        have hxor : bits .xor .u64 (x : Int) (prev : Int) = (y : Int) := by rw [hy]; exact u64_xor_nat x prev hxl.out Hp64.out
        have hyl : Hid (Lt64 y) := Lib.hid (by rw [hy]; exact Nat.xor_lt_two_pow hxl.out Hp64.out)
        have Hy := Lib.hid hy
        have hc0 := Hb.out.cell 0
        have hc1 := Hb.out.cell 1
        simp at hc0 hc1
        have hl : Hid (len + flen fs ≤ 900000000) := Lib.hid (by have := Htot.out; rw [← HE1.out] at this; have := flen_le_app fs (encX win prev (zs.drop i)); omega)
        clear hwr he0 he1 HE hE1 hy
        go_wp2_with fail
        refine (xput_wrote w g row N len fs y win _ Hok.out hyl.out Hwr.out hl.out Hdeb.out Hg.out Hr.out).mono ?_
        rintro e w1 ⟨rfl, h1, hk1⟩
        have hb1 := hk1 _ _ _ Hb.out (by decide) Hgn.out
        rw [winV_eq]
        have hok1 := winX_ok Hok.out hyl.out
        obtain ⟨win', hwin'⟩ : ∃ win', win' = winX win y := ⟨_, rfl⟩
        rw [← hwin'] at hok1 ⊢
        have hd0 := hb1.cell 0
        have hd1 := hb1.cell 1
        have hf0 := hb1.frozen 0
        have hf1 := hb1.frozen 1
        simp at hd0 hd1
        have H1 : Hid (XEnc w ((w1.setCell ⟨w.heap.size, 0, none⟩ (.int .i64 (winA win' : Int))).setCell ⟨w.heap.size, 1, none⟩ (.int .i64 (winS win' : Int))) g row N len zs w.heap.size (i + 1) x win') :=
          Lib.hid ⟨_, h1.cell (b := w.heap.size) (((Mod.refl (fun i => i = w.heap.size) _).setCell (p := ⟨w.heap.size, 0, none⟩) (fun _ => rfl) _).setCell (p := ⟨w.heap.size, 1, none⟩) (fun _ => rfl) _) hb1 (by decide) Hgn.out (Nat.le_refl _), (hb1.two _ _).2.2, hok1, hxl.out, fun h => by omega, fun _ => by
            rw [← HE1.out, Hdr.out, List.append_assoc, hwin', Hy.out]; rfl⟩
        clear h1 hk1 hb1 hok1 hwin' hc0 hc1 Hb Hwr
        go_wp2_with fail
        go_roundg (gk - 1)
        case measure => have := Hil.out; omega
        case rel => exact ⟨i + 1, x, win', by have := Hil.out; omega, by go_num, rfl, H1.out⟩
    · go_wp2_with fail
      go_end0
      refine ⟨rfl, ?_⟩
      obtain ⟨fs, hwr, hb, hok, hp64, he0, he1⟩ := HE.out
      have hil := Hil.out
      have hzl := Hzl.out
      rcases Nat.eq_zero_or_pos i with h0 | h0
      · obtain ⟨rfl, _, _⟩ := he0 h0
        have : zs = [] := List.eq_nil_of_length_eq_zero (by omega)
        subst this
        exact hwr
      · have := he1 h0
        rw [List.drop_of_length_le (by omega)] at this
        have e : fs = encVals zs := by rw [← this]; show fs = fs ++ []; simp
        rw [← e]
        exact hwr
end Go.Proofs.YtdlkjfnifjlbhaaDoor

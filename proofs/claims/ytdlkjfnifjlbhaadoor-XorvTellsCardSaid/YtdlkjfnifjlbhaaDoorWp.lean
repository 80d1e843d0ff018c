/- A turn, and rows of values, are told: put, Encode. -/
import Derived.Test.YtdlkjfnifjlbhaaDoorWz
import Derived.Test.YtdlkjfnifjlbhaaDoorGw
import Derived.Deep.RegionHeldLaw
namespace Go.Proofs.YtdlkjfnifjlbhaaDoor
open Go.RowKit

theorem Wr.row_ne {w : World} {g b N len : Nat} {row : Option Nat} {t : TypeId} {cs : Array Value} (h : Wr w g row N len) (hb : Blk w b t cs) (ht : 5 ≠ t) : row ≠ some b := by
  obtain ⟨free, _, v, bs, hblk, hown, hrow, _⟩ := h
  rw [← hrow]
  exact own_blk_ne hown hb ht
/-- What stood in blocks that hold no bytes stands there still. -/
def Kept (g : Nat) (w w' : World) : Prop := ∀ (b : Nat) (t : TypeId) (cs : Array Value), Blk w b t cs → 5 ≠ t → b ≠ g → Blk w' b t cs
/-- Put adds one field, and leaves what holds no bytes. -/
theorem put_kept (w0 : World) (g : Nat) (row : Option Nat) (N len k : Nat) (fs : List (Nat × Nat)) (v : Nat) (V n : Int) (w : World) (hV : V = (v : Int)) (hn : n = (k : Int)) (hk : k ≤ 64) (hv : Lt64 v) (hw : Wrote w0 w g row N len fs) (hlen : len + flen fs ≤ 1000000000) :
    Calls Tryd.prog 20 #[.pointer (some ⟨g, 0, none⟩), .int .u64 V, .int .i64 n] w fun e w' => e = .returned (.tuple #[]) ∧ Wrote w0 w' g row N len (fs ++ [(v, k)]) ∧ Kept g w w' := by
  subst hV hn
  obtain ⟨row', a1, a2, a3⟩ := hw
  have hv' := hv.out
  refine (put_wr g row' _ _ k (v : Int) (k : Int) w ⟨by omega, by omega⟩ ⟨by omega, by omega⟩ (by omega) a1 hlen).mono ?_
  rintro e w' ⟨rfl, row2, b1, b2, b3⟩
  refine ⟨rfl, ⟨row2, ?_, a2.more a3 b2, a3.two a2.size b3⟩, fun b t cs hb ht hbg => b2.blk hb (fun h => h.elim hbg (a1.row_ne hb ht))⟩
  rw [Int.toNat_natCast] at b1
  have e1 : N * 2 ^ flen (fs ++ [(v, k)]) + fnum (fs ++ [(v, k)]) = (N * 2 ^ flen fs + fnum fs) * 2 ^ k + v % 2 ^ k := by
    rw [← num_snoc]
    show _ * 2 ^ (k + 0) + (v % 2 ^ k * 2 ^ 0 + 0) = _
    rw [Nat.add_zero, Nat.pow_zero, Nat.mul_one, Nat.add_zero]
  have e2 : len + flen (fs ++ [(v, k)]) = len + flen fs + k := by
    rw [flen_app]
    show len + (flen fs + (k + 0)) = _
    omega
  rw [e1, e2]
  exact b1
/-- What makes memory alone. -/
theorem Wrote.new {w0 w w' : World} {g N len : Nat} {row : Option Nat} {fs : List (Nat × Nat)} (h : Wrote w0 w g row N len fs) (hm : Mod (fun _ => False) w w') : Wrote w0 w' g row N len fs := by
  obtain ⟨row', a1, a2, a3⟩ := h
  exact ⟨row', a1.mod hm (fun h => h) (fun _ _ h => h), a2.trans hm (fun _ _ h => h.elim), a3⟩
/-- A cell of a block of its own is turned. -/
theorem Wrote.cell {w0 w w' : World} {g b N len : Nat} {row : Option Nat} {fs : List (Nat × Nat)} {t : TypeId} {cs : Array Value} (h : Wrote w0 w g row N len fs) (hm : Mod (fun i => i = b) w w') (hb : Blk w b t cs) (ht : 5 ≠ t) (hbg : b ≠ g) (h0 : w0.heap.size ≤ b) : Wrote w0 w' g row N len fs := by
  obtain ⟨row', a1, a2, a3⟩ := h
  refine ⟨row', a1.mod hm (fun e => hbg e.symm) (fun k hk e => a1.row_ne hb ht (e ▸ hk)), a2.trans hm (fun i hi e => ?_), a3⟩
  omega
theorem Wrote.deb {w0 w : World} {g N len : Nat} {row : Option Nat} {fs : List (Nat × Nat)} (h : Wrote w0 w g row N len fs) (hw : Deb w0) (hg : g ≠ 0) (hr : row ≠ some 0) : Deb w := by
  obtain ⟨row', a1, a2, a3⟩ := h
  exact hw.mod a2 (fun h => h.elim (fun e => hg e.symm) hr)
theorem Wrote.lt {w0 w : World} {g N len : Nat} {row : Option Nat} {fs : List (Nat × Nat)} (h : Wrote w0 w g row N len fs) : g < w.heap.size ∧ w0.heap.size ≤ w.heap.size := by
  obtain ⟨row', a1, a2, a3⟩ := h
  exact ⟨a1.lt, a2.size⟩
theorem behind_at (a s b : Nat) (w : World) (h : a + s + b = 64) : Calls Tryd.prog 35 #[.agg #[.int .i64 (a : Int), .int .i64 (s : Int)]] w fun e w' => e = .returned (.int .i64 (b : Int)) ∧ Mod (fun _ => False) w w' := by
  refine (behind_any a s w (by omega) (by omega)).mono ?_
  rintro e w' ⟨rfl, hm⟩
  exact ⟨ret_int (by omega), hm⟩
theorem winX_some {win : Option (Nat × Nat)} {x : Nat} (hw : WinOk win) (h0 : x ≠ 0) (hx : x < 2 ^ 64) : ∃ a b, winX win x = some (a, b) ∧ a ≤ 31 ∧ a + b ≤ 63 ∧ ((win = some (a, b) ∧ fieldsX win x = [(1, 1), (0, 1), (x / 2 ^ b, 64 - a - b)]) ∨ ((winA win ≠ a ∨ winS win ≠ 64 - a - b) ∧ fieldsX win x = [(1, 1), (1, 1), (a, 5), (63 - a - b, 6), (x / 2 ^ b, 64 - a - b)])) := by
  have hok := winX_ok hw hx
  by_cases hf : fitsX win x = true
  · cases win with
    | none => cases hf
    | some p =>
      obtain ⟨a, b⟩ := p
      refine ⟨a, b, by unfold winX; rw [if_neg h0, if_pos hf], hw.1, hw.2, .inl ⟨rfl, ?_⟩⟩
      unfold fieldsX
      rw [if_neg h0, if_pos hf]
      rfl
  · have e : winX win x = some (aheadN x, behindN x) := by unfold winX; rw [if_neg h0, if_neg hf]
    rw [e] at hok
    refine ⟨_, _, e, hok.1, hok.2, .inr ⟨?_, ?_⟩⟩
    · rcases Nat.decEq (winA win) (aheadN x) with h | h
      · exact .inl h
      · rcases Nat.decEq (winS win) (64 - aheadN x - behindN x) with h2 | h2
        · exact .inr h2
        · exfalso
          have := win_inj hw hok h h2
          rw [this] at hf
          exact hf (decide_eq_true ⟨Nat.le_refl _, Nat.le_refl _⟩)
    · unfold fieldsX
      rw [if_neg h0, if_neg hf]
      rfl
set_option maxHeartbeats 4000000 in
set_option maxRecDepth 100000 in
theorem xput_wrote (w0 : World) (g : Nat) (row : Option Nat) (N len : Nat) (fs : List (Nat × Nat)) (x : Nat) (win : Option (Nat × Nat)) (w : World) (hwin : WinOk win) (hx : Lt64 x) (hw : Wrote w0 w g row N len fs) (hlen : len + flen fs ≤ 900000000) (hdeb : Deb w0) (hg : g ≠ 0) (hr : row ≠ some 0) :
    Calls Tryd.prog 22 #[.pointer (some ⟨g, 0, none⟩), .int .u64 (x : Int), .agg #[.int .i64 (winA win : Int), .int .i64 (winS win : Int)]] w fun e w' => e = .returned (winV (winX win x)) ∧ Wrote w0 w' g row N len (fs ++ fieldsX win x) ∧ Kept g w w' := by
  have Hwin := Lib.hid hwin; have Hx := Lib.hid hx; have Hw := Lib.hid hw; have Hdeb := Lib.hid hdeb; have Hg := Lib.hid hg; have Hr := Lib.hid hr
  obtain ⟨A, hA⟩ : ∃ A, A = winA win := ⟨_, rfl⟩
  obtain ⟨S, hS⟩ : ∃ S, S = winS win := ⟨_, rfl⟩
  obtain ⟨hb1, hb2, hb3⟩ := win_bounds hwin
  rw [← hA] at hb1 hb3
  rw [← hS] at hb2 hb3
  rw [← hA, ← hS]
  obtain ⟨W, hW⟩ : ∃ W, W = (w.alloc (.cells #[.int .i64 (A : Int), .int .i64 (S : Int)] 56)).alloc (.cells #[.int .i64 0, .int .i64 0] 56) := ⟨_, rfl⟩
  have hmW : Mod (fun _ => False) w W := by rw [hW]; exact ((Mod.refl _ _).alloc _).alloc _
  have hbo : Blk W w.heap.size 56 #[.int .i64 (A : Int), .int .i64 (S : Int)] := by rw [hW]; exact (Blk.new _ _ _).alloc _
  have hbr : Blk W (w.heap.size + 1) 56 #[.int .i64 0, .int .i64 0] := by
    have h := Blk.new (w.alloc (.cells #[.int .i64 (A : Int), .int .i64 (S : Int)] 56)) 56 #[.int .i64 0, .int .i64 0]
    rw [hW]
    simpa using h
  have hgl := hw.lt
  have HW := Lib.hid hW; have HmW := Lib.hid hmW; have Hbo := Lib.hid hbo; have Hbr := Lib.hid hbr; have HwW := Lib.hid (hw.new hmW); have HA := Lib.hid hA; have HS := Lib.hid hS
  have Hgl : Hid (w.heap.size ≠ g ∧ w.heap.size + 1 ≠ g ∧ w0.heap.size ≤ w.heap.size) := Lib.hid ⟨by omega, by omega, by omega⟩
  clear hwin hx hw hdeb hg hr hW hmW hbo hbr hgl Hw hA hS
  by_cases hx0 : x = 0
  · subst hx0
    go_enter Tryd.func22, Tryd.ntmps22
    go_wp2_with fail
    rw [← HW.out]
    refine (put_kept w0 g row N len 1 fs 0 0 1 _ rfl rfl (by omega) (show (0 : Nat) < 18446744073709551616 by decide) HwW.out (by omega)).mono ?_
    rintro e w1 ⟨rfl, h1, hk1⟩
    have hbo1 := hk1 _ _ _ Hbo.out (by decide) Hgl.out.1
    have hbr1 := hk1 _ _ _ Hbr.out (by decide) Hgl.out.2.1
    have hc0 := hbo1.cell 0
    have hc1 := hbo1.cell 1
    have hf0 := hbr1.frozen 0
    have hf1 := hbr1.frozen 1
    have hd0 := hbr1.cell 0
    have hd1 := hbr1.cell 1
    simp at hc0 hc1 hd0 hd1
    have H1 := Lib.hid h1; have Hbr1 := Lib.hid hbr1; have Hk1 := Lib.hid hk1
    clear h1 hbo1 hbr1 hk1
    go_wp2_with fail
    refine bodyPost_ret (v := .agg #[.int .i64 (A : Int), .int .i64 (S : Int)]) (by have h := Hbr1.out.two (.int .i64 (A : Int)) (.int .i64 (S : Int)); simp [results, Tryd.results22, go_sem, h.1, h.2.1]) rfl ⟨?_, ?_, ?_⟩
    · rw [winV_eq, HA.out, HS.out]; rfl
    · exact H1.out.cell (b := w.heap.size + 1) (((Mod.refl (fun i => i = w.heap.size + 1) _).setCell (p := ⟨w.heap.size + 1, 0, none⟩) (fun _ => rfl) _).setCell (p := ⟨w.heap.size + 1, 1, none⟩) (fun _ => rfl) _) Hbr1.out (by decide) Hgl.out.2.1 (by have := Hgl.out.2.2; omega)
    · intro b t cs hb ht hbg
      have hbl := hb.lt
      have h2 := Hk1.out b t cs (HmW.out.blk hb (fun h => h)) ht hbg
      exact (h2.far (p := ⟨w.heap.size + 1, 0, none⟩) (by simp; omega) _).far (p := ⟨w.heap.size + 1, 1, none⟩) (by simp; omega) _
  · have hx0b : ((x : Int) == 0) = false := by simp; omega
    obtain ⟨a, b, hwx, ha, hab, hcase⟩ := winX_some Hwin.out hx0 Hx.out
    obtain ⟨s, hs⟩ : ∃ s, s = 64 - a - b := ⟨_, rfl⟩
    have hasb : a + s + b = 64 := by omega
    have hnv : winV (winX win x) = .agg #[.int .i64 (a : Int), .int .i64 (s : Int)] := by rw [hwx, hs]; rfl
    have Hwx := Lib.hid hwx; have Hs := Lib.hid hs; have Hcase := Lib.hid hcase; have Hnv := Lib.hid hnv
    clear hwx hs hcase hnv
    go_enter Tryd.func22, Tryd.ntmps22
    go_wp2_with fail
    rw [← HW.out]
    refine (put_kept w0 g row N len 1 fs 1 1 1 _ rfl rfl (by omega) (show (1 : Nat) < 18446744073709551616 by decide) HwW.out (by omega)).mono ?_
    rintro e w1 ⟨rfl, h1, hk1⟩
    have hbo1 := hk1 _ _ _ Hbo.out (by decide) Hgl.out.1
    have hbr1 := hk1 _ _ _ Hbr.out (by decide) Hgl.out.2.1
    have hc0 := hbo1.cell 0
    have hc1 := hbo1.cell 1
    simp at hc0 hc1
    have H1 := Lib.hid h1; have Hbo1 := Lib.hid hbo1; have Hbr1 := Lib.hid hbr1; have Hk1 := Lib.hid hk1
    clear h1 hbo1 hbr1 hk1
    go_wp2_with fail
    rw [HA.out, HS.out]
    refine (next_any win x _ Hwin.out hx0 Hx.out (H1.out.deb Hdeb.out Hg.out Hr.out)).mono ?_
    rintro e w2 ⟨rfl, hm2⟩
    rw [Hnv.out, ← HA.out, ← HS.out]
    obtain ⟨w3, hw3⟩ : ∃ w3, w3 = w2.alloc (.cells #[.int .i64 (a : Int), .int .i64 (s : Int)] 56) := ⟨_, rfl⟩
    have hm3 : Mod (fun _ => False) w1 w3 := by rw [hw3]; exact hm2.alloc _
    have hbo3 := hm3.blk Hbo1.out (fun h => h)
    have hbr3 := hm3.blk Hbr1.out (fun h => h)
    have hbn3 : Blk w3 w2.heap.size 56 #[.int .i64 (a : Int), .int .i64 (s : Int)] := by rw [hw3]; exact Blk.new _ _ _
    have H3 := Lib.hid (H1.out.new hm3)
    have hk3 : Hid (Kept g w w3) := Lib.hid (fun b' t cs hb ht hbg => hm3.blk (Hk1.out b' t cs (HmW.out.blk hb (fun h => h)) ht hbg) (fun h => h))
    have Hw3 := Lib.hid hw3
    have Hsz : Hid (w.heap.size + 1 < w2.heap.size) := Lib.hid (by have := hm2.size; have := Hbr1.out.lt; omega)
    have Hsz2 : Hid (w2.heap.size ≠ g ∧ w0.heap.size ≤ w2.heap.size) := Lib.hid ⟨by have := H1.out.lt; have := hm2.size; omega, by have := H1.out.lt; have := hm2.size; omega⟩
    clear hc0 hc1 hw3 hm2 hm3
    generalize hnb : w2.heap.size = nb at *
    have hc0 := hbo3.cell 0
    have hc1 := hbo3.cell 1
    have he0 := hbn3.cell 0
    have he1 := hbn3.cell 1
    simp at hc0 hc1 he0 he1
    have Hbr3 := Lib.hid hbr3; have Hbn3 := Lib.hid hbn3; have Hnb := Lib.hid hnb
    clear hbo3 hbr3 hbn3 hnb H1 Hbo1 Hbr1 Hk1 HwW Hbo Hbr
    rcases Hcase.out with ⟨hwe, hfe⟩ | ⟨hne, hfe⟩
    · obtain rfl : a = A := by rw [HA.out, hwe]; rfl
      obtain rfl : s = S := by rw [HS.out, hwe, Hs.out]; rfl
      have Hfe := Lib.hid hfe
      clear hwe hfe
      go_wp2_with (first | (rw [Hnb.out, ← Hw3.out]))
      refine (put_kept w0 g row N len 1 _ 0 0 1 _ rfl rfl (by omega) (show (0 : Nat) < 18446744073709551616 by decide) H3.out (by rw [flen_app]; show len + (flen fs + (1 + 0)) ≤ _; omega)).mono ?_
      rintro e w4 ⟨rfl, h4, hk4⟩
      have hbn := hk4 _ _ _ Hbn3.out (by decide) Hsz2.out.1
      have hbr := hk4 _ _ _ Hbr3.out (by decide) Hgl.out.2.1
      have hkk : Kept g w w4 := fun b' t cs hb ht hbg => hk4 _ _ _ (hk3.out _ _ _ hb ht hbg) ht hbg
      clear hc0 hc1 he0 he1 hk4 hk3 H3 Hbn3 Hbr3
      have h4d := h4.new ((Mod.refl (fun _ => False) w4).drew)
      have hbn4 : Blk w4.drew nb 56 #[.int .i64 (a : Int), .int .i64 (s : Int)] := hbn
      have hbr4 : Blk w4.drew (w.heap.size + 1) 56 #[.int .i64 0, .int .i64 0] := hbr
      have hk34 : Hid (Kept g w w4.drew) := Lib.hid hkk
      have H4 := Lib.hid h4d; have Hbn4 := Lib.hid hbn4; have Hbr4 := Lib.hid hbr4
      obtain ⟨y, hyv⟩ : ∃ y, y = x / 2 ^ b := ⟨_, rfl⟩
      have hy : (x : Int) / 2 ^ b = (y : Int) := by rw [hyv]; simp
      have hyl : Hid (Lt64 y) := Lib.hid (by have := Hx.out.out; have := Nat.div_le_self x (2 ^ b); unfold Lt64; omega)
      have Hyv := Lib.hid hyv
      clear hyv h4 h4d hbr4 hbn hbr hkk
      have he0 := hbn4.cell 0
      have he1 := hbn4.cell 1
      simp at he0 he1
      clear hbn4
      go_wp2_with fail
      go_region_held_law (fun w' => w'.cell? ⟨nb, 0, none⟩ = some (.int .i64 (a : Int)) ∧ w'.cell? ⟨nb, 1, none⟩ = some (.int .i64 (s : Int))) (first | exact S6.out | exact S5.out | exact ⟨he0, he1⟩)
        (first
          | (go_at_call 35; refine (behind_at a s b _ hasb).mono ?_; rintro e w5 ⟨rfl, hm5⟩; have H5 := Lib.hid (H4.out.new hm5); have Hbr5 := Lib.hid (hm5.blk Hbr4.out (fun h => h)); have Hbn5 := Lib.hid (hm5.blk Hbn4.out (fun h => h)); have S5 : Hid (w5.cell? ⟨nb, 0, none⟩ = some (.int .i64 (a : Int)) ∧ w5.cell? ⟨nb, 1, none⟩ = some (.int .i64 (s : Int))) := Lib.hid ⟨Hbn5.out.cell 0, Hbn5.out.cell 1⟩; have Hk5 : Hid (Kept g w w5) := Lib.hid (fun b' t cs hb ht hbg => hm5.blk (hk34.out _ _ _ hb ht hbg) (fun h => h)); clear hm5)
          | (go_at_call 20; refine (put_kept w0 g row N len s _ y _ _ _ rfl rfl (by omega) hyl.out H5.out (by rw [flen_app, flen_app]; show len + (flen fs + (1 + 0) + (1 + 0)) ≤ _; omega)).mono ?_; rintro e w6 ⟨rfl, h6, hk6⟩; have H6 := Lib.hid h6; have Hbn6 := Lib.hid (hk6 _ _ _ Hbn5.out (by decide) Hsz2.out.1); have Hbr6 := Lib.hid (hk6 _ _ _ Hbr5.out (by decide) Hgl.out.2.1); have S6 : Hid (w6.cell? ⟨nb, 0, none⟩ = some (.int .i64 (a : Int)) ∧ w6.cell? ⟨nb, 1, none⟩ = some (.int .i64 (s : Int))) := Lib.hid ⟨Hbn6.out.cell 0, Hbn6.out.cell 1⟩; have Hk6 : Hid (Kept g w w6) := Lib.hid (fun b' t cs hb ht hbg => hk6 _ _ _ (Hk5.out _ _ _ hb ht hbg) ht hbg); clear h6 hk6))
      have hf0 := Hbr6.out.frozen 0
      have hf1 := Hbr6.out.frozen 1
      have hd0 := Hbr6.out.cell 0
      have hd1 := Hbr6.out.cell 1
      simp at hd0 hd1
      obtain ⟨hq0, hq1⟩ := S6.out
      clear he0 he1
      go_wp2_with fail
      refine bodyPost_ret (v := .agg #[.int .i64 (a : Int), .int .i64 (s : Int)]) (by have h := Hbr6.out.two (.int .i64 (a : Int)) (.int .i64 (s : Int)); simp [results, Tryd.results22, go_sem, h.1, h.2.1]) rfl ⟨?_, ?_, ?_⟩
      · rw [Hnv.out]
      · have h := H6.out.cell (b := w.heap.size + 1) (((Mod.refl (fun i => i = w.heap.size + 1) _).setCell (p := ⟨w.heap.size + 1, 0, none⟩) (fun _ => rfl) (.int .i64 (a : Int))).setCell (p := ⟨w.heap.size + 1, 1, none⟩) (fun _ => rfl) (.int .i64 (s : Int))) Hbr6.out (by decide) Hgl.out.2.1 (by have := Hgl.out.2.2; omega)
        rw [Hyv.out] at h
        have e : fieldsX win x = _ := Hfe.out
        rw [e]
        simpa [Hs.out] using h
      · intro b' t cs hb ht hbg
        have hbl := hb.lt
        exact ((Hk6.out b' t cs hb ht hbg).far (p := ⟨w.heap.size + 1, 0, none⟩) (by simp; omega) _).far (p := ⟨w.heap.size + 1, 1, none⟩) (by simp; omega) _
    · obtain ⟨m, hm⟩ : ∃ m, m = 63 - a - b := ⟨_, rfl⟩
      have hm1 : (s : Int) - 1 = (m : Int) := by omega
      have hwa : IntKind.u64.wrap (a : Int) = (a : Int) := by rw [IntKind.wrap_u64]; omega
      have hwm : IntKind.u64.wrap (m : Int) = (m : Int) := by rw [IntKind.wrap_u64]; omega
      have Hfe := Lib.hid hfe; have Hm := Lib.hid hm
      have hcmp : (a = A ∧ ¬ (s : Int) = (S : Int)) ∨ ¬ (a : Int) = (A : Int) := by
        rw [← HA.out, ← HS.out, ← Hs.out] at hne
        omega
      clear hm hfe hne
      rcases hcmp with ⟨rfl, hq⟩ | hq
      all_goals
        go_wp2_with (first | (rw [Hnb.out, ← Hw3.out]))
        refine (put_kept w0 g row N len 1 _ 1 1 1 _ rfl rfl (by omega) (show (1 : Nat) < 18446744073709551616 by decide) H3.out (by rw [flen_app]; show len + (flen fs + (1 + 0)) ≤ _; omega)).mono ?_
        rintro e w4 ⟨rfl, h4, hk4⟩
        have hbn := hk4 _ _ _ Hbn3.out (by decide) Hsz2.out.1
        have hbr := hk4 _ _ _ Hbr3.out (by decide) Hgl.out.2.1
        have H4 := Lib.hid h4; have Hbn4 := Lib.hid hbn; have Hbr4 := Lib.hid hbr
        have hkk : Hid (Kept g w w4) := Lib.hid (fun b' t cs hb ht hbg => hk4 _ _ _ (hk3.out _ _ _ hb ht hbg) ht hbg)
        clear hc0 hc1 he0 he1 hk4 hk3 H3 Hbn3 Hbr3 h4 hbr hq
        have he0 := hbn.cell 0
        have he1 := hbn.cell 1
        simp at he0 he1
        clear hbn
        go_wp2_with fail
        refine (put_kept w0 g row N len 5 _ a _ 5 _ rfl rfl (by omega) (show a < 18446744073709551616 by omega) H4.out (by rw [flen_app, flen_app]; show len + (flen fs + (1 + 0) + (1 + 0)) ≤ _; omega)).mono ?_
        rintro e w5 ⟨rfl, h5, hk5⟩
        have hbn := hk5 _ _ _ Hbn4.out (by decide) Hsz2.out.1
        have hbr := hk5 _ _ _ Hbr4.out (by decide) Hgl.out.2.1
        have H5 := Lib.hid h5; have Hbn5 := Lib.hid hbn; have Hbr5 := Lib.hid hbr
        have hk5 : Hid (Kept g w w5) := Lib.hid (fun b' t cs hb ht hbg => hk5 _ _ _ (hkk.out _ _ _ hb ht hbg) ht hbg)
        clear he0 he1 hkk H4 Hbn4 Hbr4 h5 hbr
        have he0 := hbn.cell 0
        have he1 := hbn.cell 1
        simp at he0 he1
        clear hbn
        go_wp2_with fail
        refine (put_kept w0 g row N len 6 _ m _ 6 _ rfl rfl (by omega) (show m < 18446744073709551616 by omega) H5.out (by rw [flen_app, flen_app, flen_app]; show len + (flen fs + (1 + 0) + (1 + 0) + (5 + 0)) ≤ _; omega)).mono ?_
        rintro e w4 ⟨rfl, h4, hk4⟩
        have hbn := hk4 _ _ _ Hbn5.out (by decide) Hsz2.out.1
        have hbr := hk4 _ _ _ Hbr5.out (by decide) Hgl.out.2.1
        have hkk : Kept g w w4 := fun b' t cs hb ht hbg => hk4 _ _ _ (hk5.out _ _ _ hb ht hbg) ht hbg
        rw [Hm.out] at h4
        clear he0 he1 hk4 hk5 H5 Hbn5 Hbr5 hm1 hwa hwm
        have h4d := h4.new ((Mod.refl (fun _ => False) w4).drew)
        have hbn4 : Blk w4.drew nb 56 #[.int .i64 (a : Int), .int .i64 (s : Int)] := hbn
        have hbr4 : Blk w4.drew (w.heap.size + 1) 56 #[.int .i64 0, .int .i64 0] := hbr
        have hk34 : Hid (Kept g w w4.drew) := Lib.hid hkk
        have H4 := Lib.hid h4d; have Hbn4 := Lib.hid hbn4; have Hbr4 := Lib.hid hbr4
        obtain ⟨y, hyv⟩ : ∃ y, y = x / 2 ^ b := ⟨_, rfl⟩
        have hy : (x : Int) / 2 ^ b = (y : Int) := by rw [hyv]; simp
        have hyl : Hid (Lt64 y) := Lib.hid (by have := Hx.out.out; have := Nat.div_le_self x (2 ^ b); unfold Lt64; omega)
        have Hyv := Lib.hid hyv
        clear hyv h4 h4d hbr4 hbn hbr hkk
        have he0 := hbn4.cell 0
        have he1 := hbn4.cell 1
        simp at he0 he1
        clear hbn4
        go_wp2_with fail
        go_region_held_law (fun w' => w'.cell? ⟨nb, 0, none⟩ = some (.int .i64 (a : Int)) ∧ w'.cell? ⟨nb, 1, none⟩ = some (.int .i64 (s : Int))) (first | exact S6.out | exact S5.out | exact ⟨he0, he1⟩)
          (first
            | (go_at_call 35; refine (behind_at a s b _ hasb).mono ?_; rintro e w5 ⟨rfl, hm5⟩; have H5 := Lib.hid (H4.out.new hm5); have Hbr5 := Lib.hid (hm5.blk Hbr4.out (fun h => h)); have Hbn5 := Lib.hid (hm5.blk Hbn4.out (fun h => h)); have S5 : Hid (w5.cell? ⟨nb, 0, none⟩ = some (.int .i64 (a : Int)) ∧ w5.cell? ⟨nb, 1, none⟩ = some (.int .i64 (s : Int))) := Lib.hid ⟨Hbn5.out.cell 0, Hbn5.out.cell 1⟩; have Hk5 : Hid (Kept g w w5) := Lib.hid (fun b' t cs hb ht hbg => hm5.blk (hk34.out _ _ _ hb ht hbg) (fun h => h)); clear hm5)
            | (go_at_call 20; refine (put_kept w0 g row N len s _ y _ _ _ rfl rfl (by omega) hyl.out H5.out (by rw [flen_app, flen_app, flen_app, flen_app]; show len + (flen fs + (1 + 0) + (1 + 0) + (5 + 0) + (6 + 0)) ≤ _; omega)).mono ?_; rintro e w6 ⟨rfl, h6, hk6⟩; have H6 := Lib.hid h6; have Hbn6 := Lib.hid (hk6 _ _ _ Hbn5.out (by decide) Hsz2.out.1); have Hbr6 := Lib.hid (hk6 _ _ _ Hbr5.out (by decide) Hgl.out.2.1); have S6 : Hid (w6.cell? ⟨nb, 0, none⟩ = some (.int .i64 (a : Int)) ∧ w6.cell? ⟨nb, 1, none⟩ = some (.int .i64 (s : Int))) := Lib.hid ⟨Hbn6.out.cell 0, Hbn6.out.cell 1⟩; have Hk6 : Hid (Kept g w w6) := Lib.hid (fun b' t cs hb ht hbg => hk6 _ _ _ (Hk5.out _ _ _ hb ht hbg) ht hbg); clear h6 hk6))
        have hf0 := Hbr6.out.frozen 0
        have hf1 := Hbr6.out.frozen 1
        have hd0 := Hbr6.out.cell 0
        have hd1 := Hbr6.out.cell 1
        simp at hd0 hd1
        obtain ⟨hq0, hq1⟩ := S6.out
        clear he0 he1
        go_wp2_with fail
        refine bodyPost_ret (v := .agg #[.int .i64 (a : Int), .int .i64 (s : Int)]) (by have h := Hbr6.out.two (.int .i64 (a : Int)) (.int .i64 (s : Int)); simp [results, Tryd.results22, go_sem, h.1, h.2.1]) rfl ⟨?_, ?_, ?_⟩
        · rw [Hnv.out]
        · have h := H6.out.cell (b := w.heap.size + 1) (((Mod.refl (fun i => i = w.heap.size + 1) _).setCell (p := ⟨w.heap.size + 1, 0, none⟩) (fun _ => rfl) (.int .i64 (a : Int))).setCell (p := ⟨w.heap.size + 1, 1, none⟩) (fun _ => rfl) (.int .i64 (s : Int))) Hbr6.out (by decide) Hgl.out.2.1 (by have := Hgl.out.2.2; omega)
          rw [Hyv.out] at h
          have e : fieldsX win x = _ := Hfe.out
          rw [e]
          simpa [Hs.out] using h
        · intro b' t cs hb ht hbg
          have hbl := hb.lt
          exact ((Hk6.out b' t cs hb ht hbg).far (p := ⟨w.heap.size + 1, 0, none⟩) (by simp; omega) _).far (p := ⟨w.heap.size + 1, 1, none⟩) (by simp; omega) _
end Go.Proofs.YtdlkjfnifjlbhaaDoor

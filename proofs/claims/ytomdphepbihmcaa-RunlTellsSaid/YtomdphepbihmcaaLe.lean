/- A row of values is told by its runs: Encode. -/
import Derived.Test.YtomdphepbihmcaaLg
import Derived.Test.YtomdphepbihmcaaVp
import Derived.Test.YtomdphepbihmcaaUg
import Derived.Test.YtomdphepbihmcaaOw
namespace Go.Proofs.Ytomdphepbihmcaa
open Go.RowKit

theorem own_form8 {B : Nat} {w : World} {v : Value} {xs : List Nat} (h : Own B w 5 v (cells8 xs)) : ∃ A c, v = .slice A xs.length c ∧ xs.length ≤ c ∧ c ≤ maxLen ∧ Rds w w.heap.size A xs.length (cells8 xs) := by
  obtain ⟨A, c, e, _, hc, hm, hr⟩ := h.form
  rw [cells8_length] at e hr hc
  exact ⟨A, c, e, hc, hm, hr⟩
theorem own_formN8 {B : Nat} {w : World} {v : Value} {xs : List Nat} (h : Own B w 5 v (cells8 xs)) : ∃ A L c, v = .slice A L c ∧ Hid (xs.length = L) ∧ L ≤ c ∧ c ≤ maxLen ∧ Rds w w.heap.size A L (cells8 xs) := by
  obtain ⟨A, c, e, hc, hm, hr⟩ := own_form8 h
  exact ⟨A, xs.length, c, e, Lib.hid rfl, hc, hm, hr⟩
theorem u_formN8 {B n : Nat} {w : World} {v : Value} {bs : List Nat} (h : Own B w 5 v (cells8 bs)) (hn : bs.length = n) : ∃ A c, v = .slice A n c ∧ n ≤ c ∧ c ≤ maxLen ∧ (0 < n → ∃ g, A = some ⟨g, 0, none⟩ ∧ B ≤ g ∧ g < w.heap.size) := by
  subst hn
  obtain ⟨A, c, e, _, hc, hm, _⟩ := h.form
  rw [cells8_length] at e hc
  refine ⟨A, c, e, hc, hm, fun h0 => ?_⟩
  obtain ⟨g, cap, e2, hB, hg⟩ := h.form' (by rw [cells8_length]; exact h0)
  rw [e] at e2
  injection e2 with e2
  exact ⟨g, e2, hB, hg⟩
theorem Own.rds8 {B : Nat} {w : World} {A : Option Addr} {n c : Nat} {xs : List Nat} (h : Own B w 5 (.slice A n c) (cells8 xs)) (hn : xs.length = n) : Rds w w.heap.size A n (cells8 xs) := by
  obtain ⟨A', c', e, _, _, hr⟩ := own_form8 h
  injection e with e1 e2 e3
  subst e1 e2
  exact hr
theorem cells8_app (xs ys : List Nat) : cells8 xs ++ cells8 ys = cells8 (xs ++ ys) := by simp [cells8]
/-- What the loop has told of the first i values. -/
def LencTo (w wr : World) (us : List Nat) (i : Nat) (v : Value) : Prop :=
  ∃ done, Own w.heap.size wr 5 v (cells8 done) ∧ encR us = done ++ encR (us.drop i) ∧ done.length ≤ 20 * i ∧ Mod (fun _ => False) w wr
theorem lenc_step {us done : List Nat} {i x : Nat} (hx : (us.drop i)[0]? = some x) (h : encR us = done ++ encR (us.drop i)) :
    encR us = ((done ++ enc (lead x (us.drop i))) ++ enc x) ++ encR (us.drop (i + lead x (us.drop i))) := by
  rw [h, encR_at (by rw [List.getElem?_drop] at hx; simpa using hx), List.append_assoc, List.append_assoc]
set_option maxHeartbeats 4000000 in
set_option maxRecDepth 100000 in
theorem lenc_any (A : Option Addr) (n cap B : Nat) (us : List Nat) (w : World) (hs : Rds w B A n (cellsU us)) (hB : B ≤ w.heap.size) (hu : ∀ x ∈ us, x < 2 ^ 64) (hn : n ≤ 1000000) (hcap : n ≤ cap) :
    Calls Try.prog 7 #[.slice A n cap] w fun e w' => ∃ v, e = .returned v ∧ Own w.heap.size w' 5 v (cells8 (encR us)) ∧ Mod (fun _ => False) w w' := by
  have hul : us.length = n := by have := hs.1; rwa [cellsU_length] at this
  have H0 : Hid (LencTo w w us 0 (.slice none 0 0)) := Lib.hid ⟨[], Own.nil _ _ _, by rw [List.drop_zero]; rfl, Nat.zero_le _, Mod.refl _ _⟩
  have Hs := Lib.hid hs; have Hu := Lib.hid hu; have HB := Lib.hid hB; have Hul := Lib.hid hul
  clear hs hu hB hul
  go_enter Try.func7, Try.ntmps7
  go_wp2_with fail
  go_loopg [0, 3] n (fun l s0 s3 wr => ∃ (i : Nat) (Ai : Option Addr) (ci : Nat), i + l = n ∧ s0 = .slice Ai l ci ∧ l ≤ ci ∧ Rds wr B Ai l (cellsU (us.drop i)) ∧ LencTo w wr us i s3)
  case atStart => exact ⟨0, A, cap, by omega, rfl, hcap, by rw [List.drop_zero]; exact Hs.out, H0.out⟩
  case round =>
    obtain ⟨i, Ai, ci, hil, rfl, hci, hr, hE⟩ := hrel
    have Hil := Lib.hid hil; have Hr := Lib.hid hr; have HE := Lib.hid hE
    clear hil hr hE H0 Hs
    by_cases hg : 0 < gk
    · go_wp2_with fail
      obtain ⟨done, hown, henc, hdl, hm⟩ := HE.out
      have Hm := Lib.hid hm
      have Hown := Lib.hid hown; have Hdl := Lib.hid hdl; have Henc := Lib.hid henc
      have hBr : Hid (B ≤ wr.heap.size) := Lib.hid (Nat.le_trans HB.out hm.size)
      clear hm hown hdl henc
      refine (lfirst_any Ai gk ci B (us.drop i) wr Hr.out hBr.out (by have := Hil.out; omega) hg).mono ?_
      rintro e w1 ⟨x, hx, rfl, hm1⟩
      have hst := lenc_step hx Henc.out
      have hlp : 1 ≤ lead x (us.drop i) := by
        cases hd : us.drop i with
        | nil => rw [hd] at hx; cases hx
        | cons y ys => rw [hd] at hx; injection hx with hx; subst hx; exact lead_pos _ _
      have hll : lead x (us.drop i) ≤ gk := by
        have h := lead_le x (us.drop i)
        rw [List.length_drop, Hul.out] at h
        have := Hil.out
        omega
      obtain ⟨k, hk⟩ : ∃ k, lead x (us.drop i) = k := ⟨_, rfl⟩
      rw [hk] at hst hlp hll ⊢
      have hx64 : Lt64 x := by
        have h := Hu.out x (List.mem_of_mem_drop (List.mem_of_getElem? hx))
        unfold Lt64
        omega
      have hk64 : Lt64 k := by have := Hil.out; unfold Lt64; omega
      obtain ⟨W1, hW1⟩ : ∃ W1, W1 = w1.alloc (.cells #[.int .u64 (k : Int), .int .u64 (x : Int)] 39) := ⟨_, rfl⟩
      have hmW : Mod (fun _ => False) w1 W1 := by rw [hW1]; exact (Mod.refl _ _).alloc _
      have hbW : Blk W1 w1.heap.size 39 #[.int .u64 (k : Int), .int .u64 (x : Int)] := by rw [hW1]; exact Blk.new _ _ _
      have hmm := (Hm.out.trans hm1 (fun _ _ h => h)).trans hmW (fun _ _ h => h)
      have hownW := (Hown.out.mod hm1).mod hmW
      have hrW := (Hr.out.mod hm1 hBr.out (fun _ _ h => h)).mod hmW (Nat.le_trans hBr.out hm1.size) (fun _ _ h => h)
      have hd0 := hbW.cell 0
      have hd1 := hbW.cell 1
      simp at hd0 hd1
      have Hst := Lib.hid hst; have HW1 := Lib.hid hW1; have HbW := Lib.hid hbW; have Hmm := Lib.hid hmm; have HownW := Lib.hid hownW; have HrW := Lib.hid hrW; have Hx64 := Lib.hid hx64; have Hk64 := Lib.hid hk64
      have hBW : Hid (B ≤ W1.heap.size) := Lib.hid (Nat.le_trans hBr.out (Nat.le_trans hm1.size hmW.size))
      clear hx hk hst hW1 hmW hbW hm1 hmm hownW hrW Hr Hown hx64 hk64 HE
      go_wp2_with (first | (rw [← HW1.out]))
      refine (vput_any none 0 0 0 [] k W1 (Rds.nil _ _ _) (by omega) Hk64.out).mono ?_
      rintro e w2 ⟨v2, rfl, ho2, hb2⟩
      rw [List.nil_append] at ho2
      obtain ⟨A2, c2, rfl, _, _, hr2⟩ := own_form8 ho2
      have hq10 := enc_len10 Hk64.out.out
      have hq10' := enc_len10 Hx64.out.out
      have Hq := Lib.hid hq10; have Hq' := Lib.hid hq10'
      have Hown2 := Lib.hid (HownW.out.below hb2); have Hr2 := Lib.hid hr2
      have hb2b := HbW.out.below hb2 HbW.out.lt
      have Hb2b := Lib.hid hb2b
      have Hm2 := Lib.hid (Hmm.out.trans (mod_below hb2) (fun _ _ h => h))
      have Hrr2 := Lib.hid (HrW.out.mod (mod_below hb2) hBW.out (fun _ _ h => h))
      have hB2 : Hid (B ≤ w2.heap.size) := Lib.hid (Nat.le_trans hBW.out hb2.size)
      have hsz2 : w.heap.size ≤ w2.heap.size := Hm2.out.size
      have hR1 := Room.mk (cells8 done).length (enc k).length (by rw [cells8_length]; have := Hdl.out; have := Hil.out; omega)
      have HR1 := Lib.hid hR1
      have hone : Hid (∀ u ∈ cells8 (enc k), u.oneCell' = true) := Lib.hid (cells8_one _)
      have hone' : Hid (∀ u ∈ cells8 (enc x), u.oneCell' = true) := Lib.hid (cells8_one _)
      clear hq10 hq10' hb2 ho2 hr2 hb2b hR1 hd0 hd1 HownW HbW
      go_wp2_with (at_builtin; refine wpList_app rfl (.tmp 10) (.tmp 13) _ rfl elt8 rfl Hown2.out rfl Hr2.out hone.out HR1.out.1 HR1.out.2 hsz2 ?_; intro v3 w3 HO3 HBl3 HG3; have hb3 := Hb2b.out.app Hown2.out (by decide) HG3.out.1; have hd0 := hb3.cell 0; have hd1 := hb3.cell 1; simp at hd0 hd1; have Hb3 := Lib.hid hb3; clear hone HG3 hb3)
      have hO3 : Own w.heap.size w3 5 v3 (cells8 (done ++ enc k)) := by
        have h := HO3.out
        rwa [cells8_app] at h
      have HO3' := Lib.hid hO3
      have Hm3 := Lib.hid (Hm2.out.trans (Mod.of_below HBl3.out) (fun i hi h => by omega))
      have Hrr3 := Lib.hid (Hrr2.out.mod (Mod.of_below HBl3.out) hB2.out (fun j hj h => by have := HB.out; omega))
      clear hO3 HO3 HBl3 Hrr2 Hm2
      refine (vput_any none 0 0 0 [] x w3 (Rds.nil _ _ _) (by omega) Hx64.out).mono ?_
      rintro e w4 ⟨v4, rfl, ho4, hb4⟩
      rw [List.nil_append] at ho4
      obtain ⟨A4, c4, rfl, _, _, hr4⟩ := own_form8 ho4
      have Hown4 := Lib.hid (HO3'.out.below hb4); have Hr4 := Lib.hid hr4
      have Hb4b := Lib.hid (Hb3.out.below hb4 Hb3.out.lt)
      have Hm4 := Lib.hid (Hm3.out.trans (mod_below hb4) (fun _ _ h => h))
      have hB3 : Hid (B ≤ w3.heap.size) := Lib.hid (Nat.le_trans HB.out Hm3.out.size)
      have Hrr4 := Lib.hid (Hrr3.out.mod (mod_below hb4) hB3.out (fun _ _ h => h))
      have hsz4 : w.heap.size ≤ w4.heap.size := Hm4.out.size
      have hR2 := Room.mk (cells8 (done ++ enc k)).length (enc x).length (by rw [cells8_length, List.length_append]; have := Hdl.out; have := Hil.out; have := Hq.out; have := Hq'.out; omega)
      have HR2 := Lib.hid hR2
      obtain ⟨A5, hA5⟩ : ∃ A5, (if ci = k then Ai else Ai.map (·.add k)) = A5 := ⟨_, rfl⟩
      have Hr5 : Hid (Rds w4 B A5 (gk - k) ((cellsU (us.drop i)).drop k)) := Lib.hid (by rw [← hA5]; exact Hrr4.out.drop hll hci)
      have hkci : (k : Int) ≤ (ci : Int) := by omega
      have hkgi : (k : Int) ≤ (gk : Int) := by omega
      have hk0 : (0 : Int) ≤ (k : Int) := by omega
      clear hb4 ho4 hr4 hR2 hd0 hd1 HO3' Hb3 Hrr3 Hm3 Hown2 Hr2 Hb2b HR1
      go_wp2_with (at_builtin; refine wpList_app rfl (.tmp 15) (.tmp 18) _ rfl elt8 rfl Hown4.out rfl Hr4.out hone'.out HR2.out.1 HR2.out.2 hsz4 ?_; intro v5 w5 HO5 HBl5 HG5; have hb5 := Hb4b.out.app Hown4.out (by decide) HG5.out.1; have hd0 := hb5.cell 0; have hd1 := hb5.cell 1; simp at hd0 hd1; clear HG5 hb5)
      have hO5 : Own w.heap.size w5 5 v5 (cells8 ((done ++ enc k) ++ enc x)) := by
        have h := HO5.out
        rwa [cells8_app] at h
      have Hm5 := Lib.hid (Hm4.out.trans (Mod.of_below HBl5.out) (fun i hi h => by omega))
      have hB4 : B ≤ w4.heap.size := Nat.le_trans HB.out Hm4.out.size
      have Hr6 : Hid (Rds w5 B A5 (gk - k) (cellsU (us.drop (i + k)))) := Lib.hid (by
        have h := Hr5.out.mod (Mod.of_below HBl5.out) hB4 (fun j hj h => by have := HB.out; omega)
        rwa [show (cellsU (us.drop i)).drop k = cellsU (us.drop (i + k)) by simp [cellsU, ← List.map_drop]] at h)
      have HE5 : Hid (LencTo w w5 us (i + k) v5) := Lib.hid ⟨_, hO5, Hst.out, by rw [List.length_append, List.length_append]; have := Hdl.out; have := Hq.out; have := Hq'.out; omega, Hm5.out⟩
      clear hA5 hO5 HO5 HBl5 hB4 Hr5 Hrr4
      go_roundg (gk - k)
      case measure => omega
      case rel => exact ⟨i + k, A5, ci - k, by have := Hil.out; omega, rfl, by omega, Hr6.out, HE5.out⟩
    · go_wp2_with fail
      go_ret
      obtain ⟨done, hown, henc, hdl, hm⟩ := HE.out
      have e : encR us = done := by
        rw [henc, List.drop_of_length_le (by have := Hul.out; have := Hil.out; omega), encR_nil, List.append_nil]
      rw [e]
      exact ⟨_, rfl, hown, hm⟩
end Go.Proofs.Ytomdphepbihmcaa

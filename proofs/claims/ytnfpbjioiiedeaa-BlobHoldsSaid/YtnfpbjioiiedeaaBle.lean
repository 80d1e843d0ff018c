/- Add of the store. -/
import Derived.Test.YtnfpbjioiiedeaaHd
import Derived.Test.YtnfpbjioiiedeaaBlc
namespace Go.Proofs.Ytnfpbjioiiedeaa
open Go.RowKit Go.Maps

set_option maxHeartbeats 4000000 in
set_option maxRecDepth 100000 in
theorem blAdd_any {B : Nat → Prop} {g b N : Nat} {s : BloN} (A : Option Addr) (n c : Nat) (bs : List Nat) (w : World) (h : BloV B g b N w s) (hs : ∀ w2, Mod (fun j => j = g ∨ j = b) w w2 → Rds w2 w2.heap.size A n (cells8 bs)) (hN : N < 1000000) (hB : ∀ k, w.heap.size ≤ k → B k) :
    Calls Try.prog 8 #[.pointer (some ⟨g, 0, none⟩), .slice A n c] w fun e w' => e = .returned (.tuple #[.int .i64 (((addB s bs).2.getD 0 : Nat) : Int), .bool (addB s bs).2.isSome]) ∧ BloV B g b (N + 1) w' (addB s bs).1 ∧ Mod (fun j => j = g ∨ j = b) w w' := by
  obtain ⟨⟨h1, h2⟩, h3, h4⟩ := h.sizes
  have Hh := Lib.hid h
  have hlen : bs.length = n := by have h5 := (hs w (Mod.refl _ _)).1; rwa [cells8_length] at h5
  obtain ⟨Rm, hR⟩ : ∃ U, s.budget - usedB s = U := ⟨_, rfl⟩
  obtain ⟨L, hL⟩ : ∃ L, lenB s.rows = L := ⟨_, rfl⟩
  obtain ⟨X, hX⟩ : ∃ X, s.next = X := ⟨_, rfl⟩
  have hu : usedB s = s.charged + (L : Int) := by unfold usedB; rw [hL]
  have hX2 : X ≤ N := by rw [← hX]; exact h.next
  have hR0 : 0 ≤ Rm ∧ Rm ≤ 1073741824 := by omega
  have hL0 : L ≤ 1073741824 := by omega
  have HNO : Hid (Rm < (n : Int) → addB s bs = (s, none)) := Lib.hid (fun hx => by
    unfold addB
    rw [if_neg (by omega)])
  have HYES : Hid (¬ Rm < (n : Int) → usedB s + bs.length ≤ s.budget ∧ addB s bs = ({ s with next := s.next + 1, rows := s.rows ++ [⟨s.next + 1, bs, 1⟩] }, some (s.next + 1))) := Lib.hid (fun hx => by
    have h5 : usedB s + bs.length ≤ s.budget := by omega
    refine ⟨h5, ?_⟩
    unfold addB
    rw [if_pos h5])
  have HP : Hid (Calls Try.prog 15 #[.pointer (some ⟨g, 0, none⟩)] w fun e w' => e = .returned (.int .i64 Rm) ∧ Mod (fun _ => False) w w') := Lib.hid (by
    have h1 := blRoom_any w h
    rwa [hR] at h1)
  have HL := Lib.hid hL; have HX := Lib.hid hX; have Hs := Lib.hid hs; have HN := Lib.hid hN; have HB := Lib.hid hB; have Hlen := Lib.hid hlen
  clear h h1 h2 h3 h4 hR hL hX hu hs hlen hB
  obtain ⟨hR1, hR2⟩ := hR0
  go_enter Try.func8, Try.ntmps8
  go_wp2_with fail
  refine HP.out.mono ?_
  rintro e w1 ⟨rfl, hm1⟩
  have Hm1 := Lib.hid hm1
  have Hb1 := Lib.hid (hm1.blk Hh.out.box (fun h => h))
  clear hm1 HP
  by_cases hx : Rm < (n : Int)
  · have Hx := Lib.hid hx
    go_wp2_with fail
    go_ret2
    rw [HNO.out Hx.out]
    exact ⟨rfl, (Hh.out.new Hm1.out).more (Nat.le_succ _), Hm1.out.mono (fun _ _ h => h.elim)⟩
  · have Hx := Lib.hid hx
    obtain ⟨h9, hadd⟩ := HYES.out (by omega)
    have Hadd := Lib.hid hadd; have H9 := Lib.hid h9
    clear h9 hadd
    have hn9 : n ≤ 1073741824 := by omega
    have y1 := Hb1.out.cell 1
    have f1 := Hb1.out.frozen 1
    have y2 := Hb1.out.cell 2
    have f2 := Hb1.out.frozen 2
    have y4 := Hb1.out.cell 4
    simp [bloC] at y1 y2 y4
    rw [HX.out] at y1
    rw [HL.out] at y2
    obtain ⟨P, hP⟩ : ∃ P, P = X + 1 := ⟨_, rfl⟩
    obtain ⟨Q, hQ⟩ : ∃ Q, Q = L + n := ⟨_, rfl⟩
    have hw1 : IntKind.i64.wrap ((X : Int) + 1) = (P : Int) := by rw [IntWalk.i64_in _ (by omega), hP]; omega
    have hw2 : IntKind.i64.wrap ((L : Int) + (n : Int)) = (Q : Int) := by rw [IntWalk.i64_in _ (by omega), hQ]; omega
    obtain ⟨W, hW⟩ : ∃ W, W = (w1.setCell ⟨g, 1, none⟩ (.int .i64 (P : Int))).setCell ⟨g, 2, none⟩ (.int .i64 (Q : Int)) := ⟨_, rfl⟩
    have hbW : Blk W g 38 #[.int .i64 s.budget, .int .i64 (P : Int), .int .i64 (Q : Int), .int .i64 s.charged, .map (some b)] := by rw [hW]; exact (Blk.set5 Hb1.out _ _ (.int .i64 0)).1
    have hmW : Mod (fun j => j = g) w1 W := by rw [hW]; exact Mod.two_set _ _ _ _ _ _
    have HmW : Hid (Mod (fun j => j = g ∨ j = b) w W) := Lib.hid ((Hm1.out.mono (fun _ _ h => h.elim)).trans hmW (fun _ _ h => .inl h))
    have hmap : ∃ cm, MapG (KeptR B) W b N (atB s) cm := by
      obtain ⟨cm, h5⟩ := (Hh.out.new Hm1.out).map_
      exact ⟨cm, h5.mod hmW (fun e => Hh.out.ne e.symm) (fun v x hv => hv.mod hmW (fun j cs _ hj e => by subst e; exact Blk.ne_ hj Hb1.out (by decide) rfl))⟩
    have HbW := Lib.hid hbW; have HW := Lib.hid hW; have HP := Lib.hid hP; have HQ := Lib.hid hQ; have Hmap := Lib.hid hmap
    have HC : Hid (Calls Try.prog 16 #[.slice A n c] W.drew fun e w' => ∃ A9 n9 c9, e = .returned (.slice A9 n9 c9) ∧ Own W.heap.size w' 5 (.slice A9 n9 c9) (cells8 bs) ∧ Mod (fun _ => False) W.drew w') := Lib.hid ((blCopied_any A n c bs W.drew (Hs.out _ HmW.out.drew) (by omega)).mono (fun e w' h => by
      obtain ⟨v, rfl, h1, h2⟩ := h
      obtain ⟨A9, n9, c9, rfl, _⟩ := own_formN8 h1
      exact ⟨A9, n9, c9, rfl, h1, h2⟩))
    have v1 := hbW.cell 1
    have v4 := hbW.cell 4
    simp at v1 v4
    clear hbW hW hP hQ hmW hmap hX2 hR1 hR2 hL0
    go_upto_region 5 with fail
    rw [← HW.out]
    clear y1 y2 y4 f1 f2
    go_region_with (go_at_call 16; (with_reducible refine HC.out.mono ?_); rintro e w9 ⟨A9, n9, c9, rfl, ho9, hm9⟩; have Ho9 := Lib.hid ho9; have Hm9 : Hid (Mod (fun _ => False) W w9) := Lib.hid (((Mod.refl _ _).drew).trans hm9 (fun _ _ h => h)); obtain ⟨cm, hcm⟩ := Hmap.out; obtain ⟨w10, hup, hma10, hm10⟩ := kept_store (k := (P : Int)) (v := .agg #[.slice A9 n9 c9, .int .i64 1]) (x := ⟨P, bs, 1⟩) (hcm.mod Hm9.out id (fun v x hv => hv.mod Hm9.out (fun _ _ _ _ h => h))) (by have := HN.out; unfold maxLen; omega) ⟨by have := HP.out; omega, by have := HP.out; have := HX.out; have := Hh.out.next; have := HN.out; omega⟩ ⟨.slice A9 n9 c9, rfl, SliB.of_own ho9 (fun k hk => HB.out k (Nat.le_trans HmW.out.size hk))⟩; have Hma10 := Lib.hid hma10; have Hm10 := Lib.hid hm10; have hb9 := Hm9.out.blk HbW.out (fun h => h); have hb10 := hm10.blk hb9 (fun e => Hh.out.ne e); have u1 := hb9.cell 1; have u4 := hb9.cell 4; have t1 := hb10.cell 1; simp at u1 u4 t1; have Hb10 := Lib.hid hb10; clear ho9 hm9 hma10 hm10 hb9 hb10 hcm)
    all_goals (
      go_wp2_with fail
      go_ret2
      have hg := (good_add Hh.out.good bs).1
      have hat : ∀ id, atB (addB s bs).1 id = setG (atB s) (P : Int) (some ⟨P, bs, 1⟩) id := fun id => by
        rw [at_add Hh.out.good H9.out, HP.out, ← HX.out]
        rfl
      rw [Hadd.out] at hg hat ⊢
      have e1 : P = s.next + 1 := by rw [HP.out, HX.out]
      refine ⟨by rw [e1]; rfl, ⟨hg, ?_, ?_, by have := Hh.out.next; show s.next + 1 ≤ N + 1; omega, ?_⟩, ?_⟩
      · have h5 := Hb10.out
        have e2 : Q = lenB (s.rows ++ [⟨s.next + 1, bs, 1⟩]) := by rw [len_app, len_cons, HQ.out, HL.out, ← Hlen.out]; rfl
        rw [e1, e2] at h5
        exact h5
      · obtain ⟨c5, h5⟩ := Hma10.out
        refine ⟨c5, ?_⟩
        rw [funext hat]
        exact h5
      · intro r hr
        rcases List.mem_append.1 hr with hr | hr
        · have := Hh.out.held r hr; omega
        · rw [List.mem_singleton] at hr
          subst hr
          show 1 ≤ N + 1 + 1
          omega
      · exact (HmW.out.trans (Hm9.out.mono (fun _ _ h => h.elim)) (fun _ _ h => h)).trans (Hm10.out.mono (fun _ _ h => .inr h)) (fun _ _ h => h))
end Go.Proofs.Ytnfpbjioiiedeaa

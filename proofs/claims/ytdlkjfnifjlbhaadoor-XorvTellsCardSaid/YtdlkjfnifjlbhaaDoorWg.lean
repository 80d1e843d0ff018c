/- A turn is read: get. -/
import Derived.Test.YtdlkjfnifjlbhaaDoorWe
namespace Go.Proofs.YtdlkjfnifjlbhaaDoor
open Go.RowKit

/-- Behind the window's own bits: which window is told, and whether anew. -/
def Mid (win s : Option (Nat × Nat)) (a z : Nat) (fresh : Bool) (s' : Option (Nat × Nat)) : Prop :=
  (getO 1 s).1 ≠ 0 ∧ ((fresh = false ∧ (getO 1 (getO 1 s).2).1 = 0 ∧ a = winA win ∧ z = winS win ∧ s' = (getO 1 (getO 1 s).2).2) ∨
    (fresh = true ∧ (getO 1 (getO 1 s).2).1 ≠ 0 ∧ a = (getO 5 (getO 1 (getO 1 s).2).2).1 ∧ z = (getO 6 (getO 5 (getO 1 (getO 1 s).2).2).2).1 + 1 ∧ s' = (getO 6 (getO 5 (getO 1 (getO 1 s).2).2).2).2))
section
variable {win s s' : Option (Nat × Nat)} {a z : Nat} {fresh : Bool}
theorem Mid.bounds (h : Mid win s a z fresh s') (hs : SmallO s) (hw : WinOk win) : a ≤ 31 ∧ z ≤ 64 ∧ SmallO s' := by
  obtain ⟨_, ⟨_, _, h1, h2, h3⟩ | ⟨_, _, h1, h2, h3⟩⟩ := h
  · have := win_bounds hw
    exact ⟨by omega, by omega, h3 ▸ (hs.get 1).get 1⟩
  · have e1 := ((hs.get 1).get 1).lt 5
    have e2 := (((hs.get 1).get 1).get 5).lt 6
    exact ⟨by omega, by omega, h3 ▸ (((hs.get 1).get 1).get 5).get 6⟩
theorem Mid.far (h : Mid win s a z fresh s') (hw : WinOk win) (hf : 64 < a + z) : stO win s = none := by
  obtain ⟨h0, ⟨_, _, h1, h2, _⟩ | ⟨_, h1, h2, h3, _⟩⟩ := h
  · have := win_bounds hw
    omega
  · exact stO_far h0 h1 (by rw [← h2, ← h3]; exact hf)
/-- What the code's four tests say. -/
theorem Mid.fin {x : Nat} (h : Mid win s a z fresh s') (hs : SmallO s) (hw : WinOk win) (hf : ¬ 64 < a + z) (hx : x = (getO z s').1 * 2 ^ (64 - a - z)) :
    x < 2 ^ 64 ∧ (((getO z s').2 = none ∨ x = 0 ∨ ¬ (a = winA (winX win x) ∧ z = winS (winX win x)) ∨ fresh = decide (a = winA win ∧ z = winS win)) → stO win s = none) ∧
      (∀ R5 rem5, (getO z s').2 = some (R5, rem5) → x ≠ 0 → (a = winA (winX win x) ∧ z = winS (winX win x)) → fresh ≠ decide (a = winA win ∧ z = winS win) → stO win s = some (x, winX win x, R5, rem5)) := by
  obtain ⟨h0, ⟨rfl, h1, ha, hz, h3⟩ | ⟨rfl, h1, ha, hz, h3⟩⟩ := h
  · cases win with
    | none =>
      have hn := stO_in_none h0 h1
      have hz0 : z = 0 := hz
      subst hz0
      have hy := (((hs.get 1).get 1)).lt 0
      rw [← h3] at hy
      have hy0 : (getO 0 s').1 = 0 := by omega
      rw [hy0, Nat.zero_mul] at hx
      subst hx
      exact ⟨by decide, fun _ => hn, fun _ _ _ h => absurd rfl h⟩
    | some p =>
      obtain ⟨a', b'⟩ := p
      have ha' : a = a' := ha
      have hz' : z = 64 - a' - b' := hz
      obtain ⟨w1, w2⟩ := hw
      subst ha'
      have e1 : 64 - a - z = b' := by omega
      rw [e1] at hx
      subst hz'
      subst h3
      obtain ⟨g1, g2, g3⟩ := stO_in hs ⟨w1, w2⟩ h0 h1 hx rfl
      refine ⟨g2, fun hc => ?_, fun R5 rem5 h5 hx0 _ _ => ?_⟩
      · rw [g1]
        by_cases hx0 : x = 0
        · rw [if_pos hx0]
        · rw [if_neg hx0]
          rcases hc with hc | hc | hc | hc
          · rw [hc]; rfl
          · exact absurd hc hx0
          · exact absurd (by rw [g3 hx0]; exact ⟨rfl, rfl⟩) hc
          · rw [decide_eq_true (show a = winA (some (a, b')) ∧ 64 - a - b' = winS (some (a, b')) from ⟨rfl, rfl⟩)] at hc
            cases hc
      · rw [g1, if_neg hx0, h5, g3 hx0]
        rfl
  · obtain ⟨m, hm⟩ : ∃ m, m = (getO 6 (getO 5 (getO 1 (getO 1 s).2).2).2).1 := ⟨_, rfl⟩
    rw [← hm] at hz
    subst hz
    subst h3
    obtain ⟨g1, g2⟩ := stO_fresh hs hw h0 h1 ha hm hf hx rfl
    have hal := ((hs.get 1).get 1).lt 5
    rw [← ha] at hal
    have hkey : ∀ u, WinOk u → ((a = winA u ∧ m + 1 = winS u) ↔ u = some (a, 64 - a - (m + 1))) := by
      intro u hu
      constructor
      · rintro ⟨e1, e2⟩
        refine win_inj hu ⟨by omega, by omega⟩ e1.symm ?_
        rw [← e2]
        show m + 1 = 64 - a - (64 - a - (m + 1))
        omega
      · rintro rfl
        exact ⟨rfl, by show m + 1 = 64 - a - (64 - a - (m + 1)); omega⟩
    refine ⟨g2, fun hc => ?_, fun R5 rem5 h5 hx0 hn hfr => ?_⟩
    · rw [g1]
      by_cases hcond : x = 0 ∨ winX win x ≠ some (a, 64 - a - (m + 1)) ∨ win = some (a, 64 - a - (m + 1))
      · rw [if_pos hcond]
      · rw [if_neg hcond]
        rcases hc with hc | hc | hc | hc
        · rw [hc]; rfl
        · exact absurd (.inl hc) hcond
        · exact absurd (.inr (.inl (fun e => hc ((hkey _ (winX_ok hw g2)).2 e)))) hcond
        · exact absurd (.inr (.inr ((hkey _ hw).1 (of_decide_eq_true hc.symm)))) hcond
    · have e1 := (hkey _ (winX_ok hw g2)).1 hn
      rw [g1, if_neg, h5, e1]
      · rfl
      · rintro (e | e | e)
        · exact hx0 e
        · exact e e1
        · exact hfr (decide_eq_true ((hkey _ hw).2 e)).symm
end
/-- What get answers. -/
def GotX (w w' : World) (g row : Nat) (win s : Option (Nat × Nat)) (e : Ending) : Prop :=
  match stO win s with
  | some (x, win', R, rem) => e = .returned (.tuple #[.int .u64 (x : Int), .agg #[.int .i64 (winA win' : Int), .int .i64 (winS win' : Int)], .bool true]) ∧ RdrO w' g row (some (R, rem)) ∧ Mod (fun i => i = g) w w'
  | none => (∃ x p q : Int, e = .returned (.tuple #[.int .u64 x, .agg #[.int .i64 p, .int .i64 q], .bool false])) ∧ (∃ s', RdrO w' g row s') ∧ Mod (fun i => i = g) w w'
theorem GotX.none_ {w w' : World} {g row : Nat} {win s : Option (Nat × Nat)} {x p q : Int} {e : Ending} (hn : stO win s = none) (he : e = .returned (.tuple #[.int .u64 x, .agg #[.int .i64 p, .int .i64 q], .bool false])) (hr : ∃ s', RdrO w' g row s') (hm : Mod (fun i => i = g) w w') : GotX w w' g row win s e := by
  unfold GotX
  rw [hn]
  exact ⟨⟨x, p, q, he⟩, hr, hm⟩
theorem GotX.some_ {w w' : World} {g row x R rem : Nat} {win win' s : Option (Nat × Nat)} {e : Ending} (hn : stO win s = some (x, win', R, rem)) (he : e = .returned (.tuple #[.int .u64 (x : Int), .agg #[.int .i64 (winA win' : Int), .int .i64 (winS win' : Int)], .bool true])) (hr : RdrO w' g row (some (R, rem))) (hm : Mod (fun i => i = g) w w') : GotX w w' g row win s e := by
  unfold GotX
  rw [hn]
  exact ⟨he, hr, hm⟩
/-- The result's own block is turned. -/
theorem res_store {w W : World} {g row : Nat} {s : Option (Nat × Nat)} (u v : Value) (hgl : g < w.heap.size) (hrow : row < w.heap.size) (hr : RdrO W g row s) (hm : Mod (fun i => i = g) w W) :
    RdrO ((W.setCell ⟨w.heap.size + 1, 0, none⟩ u).setCell ⟨w.heap.size + 1, 1, none⟩ v) g row s ∧ Mod (fun i => i = g) w ((W.setCell ⟨w.heap.size + 1, 0, none⟩ u).setCell ⟨w.heap.size + 1, 1, none⟩ v) := by
  have h : Mod (fun i => i = w.heap.size + 1) W ((W.setCell ⟨w.heap.size + 1, 0, none⟩ u).setCell ⟨w.heap.size + 1, 1, none⟩ v) := ((Mod.refl (fun i => i = w.heap.size + 1) _).setCell (p := ⟨w.heap.size + 1, 0, none⟩) (fun _ => rfl) _).setCell (p := ⟨w.heap.size + 1, 1, none⟩) (fun _ => rfl) _
  exact ⟨hr.mod h (by omega) (fun _ => by omega), hm.trans h (fun i hi e => by omega)⟩
/-- Ahead of the window's own bits. -/
def CutG (w wc : World) (g row : Nat) (win s : Option (Nat × Nat)) (A S nt a z : Nat) (fresh : Bool) (s' : Option (Nat × Nat)) : Prop :=
  Mid win s a z fresh s' ∧ Blk wc w.heap.size 56 #[.int .i64 (A : Int), .int .i64 (S : Int)] ∧ Blk wc (w.heap.size + 1) 56 #[.int .i64 0, .int .i64 0] ∧ Blk wc nt 56 #[.int .i64 (a : Int), .int .i64 (z : Int)] ∧ RdrO wc g row s' ∧ Mod (fun i => i = g) w wc
/-- Behind the window's own bits. -/
def CutH (w wc : World) (g row : Nat) (A S nt a z : Nat) (s5 : Option (Nat × Nat)) : Prop :=
  Blk wc w.heap.size 56 #[.int .i64 (A : Int), .int .i64 (S : Int)] ∧ Blk wc (w.heap.size + 1) 56 #[.int .i64 0, .int .i64 0] ∧ Blk wc nt 56 #[.int .i64 (a : Int), .int .i64 (z : Int)] ∧ RdrO wc g row s5 ∧ Mod (fun i => i = g) w wc
theorem CutH.cells {w wc : World} {g row A S nt a z : Nat} {s5 : Option (Nat × Nat)} (h : CutH w wc g row A S nt a z s5) : wc.cell? ⟨nt, 0, none⟩ = some (.int .i64 (a : Int)) ∧ wc.cell? ⟨nt, 1, none⟩ = some (.int .i64 (z : Int)) := ⟨h.2.2.1.cell 0, h.2.2.1.cell 1⟩
theorem CutH.cells4 {w wc : World} {g row A S nt a z : Nat} {s5 : Option (Nat × Nat)} (h : CutH w wc g row A S nt a z s5) : (wc.cell? ⟨nt, 0, none⟩ = some (.int .i64 (a : Int)) ∧ wc.cell? ⟨nt, 1, none⟩ = some (.int .i64 (z : Int))) ∧ wc.cell? ⟨w.heap.size, 0, none⟩ = some (.int .i64 (A : Int)) ∧ wc.cell? ⟨w.heap.size, 1, none⟩ = some (.int .i64 (S : Int)) := ⟨h.cells, h.1.cell 0, h.1.cell 1⟩
theorem CutH.new {w wc w2 : World} {g row A S nt a z : Nat} {s5 : Option (Nat × Nat)} (h : CutH w wc g row A S nt a z s5) (hm : Mod (fun _ => False) wc w2) : CutH w w2 g row A S nt a z s5 :=
  ⟨hm.blk h.1 (fun h => h), hm.blk h.2.1 (fun h => h), hm.blk h.2.2.1 (fun h => h), h.2.2.2.1.mod hm (fun h => h) (fun _ h => h), h.2.2.2.2.trans hm (fun _ _ h => h.elim)⟩
/-- What the four tests together say. -/
def Fin11 (win s s5 : Option (Nat × Nat)) (x a z : Nat) (v : Bool) : Prop :=
  (v = true → stO win s = none) ∧ (v = false → a = winA (winX win x) ∧ z = winS (winX win x) ∧ ∃ R rem, s5 = some (R, rem) ∧ stO win s = some (x, winX win x, R, rem))
theorem ok_at (g row : Nat) (s : Option (Nat × Nat)) (v : Bool) (w : World) (hv : s.isSome = v) (h : RdrO w g row s) :
    Calls Tryd.prog 28 #[.pointer (some ⟨g, 0, none⟩)] w fun e w' => e = .returned (.bool v) ∧ w = w' := by
  subst hv
  exact ok_o g row s w h
theorem next_at (win : Option (Nat × Nat)) (x A S p q : Nat) (w : World) (hA : A = winA win) (hS : S = winS win) (hp : p = winA (winX win x)) (hq : q = winS (winX win x)) (hw : WinOk win) (h0 : x ≠ 0) (hx : Lt64 x) (hd : Deb w) :
    Calls Tryd.prog 34 #[.agg #[.int .i64 (A : Int), .int .i64 (S : Int)], .int .u64 (x : Int)] w fun e w' => e = .returned (.agg #[.int .i64 (p : Int), .int .i64 (q : Int)]) ∧ Mod (fun _ => False) w w' := by
  subst hA hS hp hq
  refine (next_any win x w hw h0 hx hd).mono ?_
  rintro e w' ⟨rfl, hm⟩
  exact ⟨by rw [winV_eq], hm⟩
theorem CutH.get {w wc w2 : World} {g row A S nt a z : Nat} {s5 s6 : Option (Nat × Nat)} (h : CutH w wc g row A S nt a z s5) (hgl : g < w.heap.size) (hnt : w.heap.size + 1 < nt) (hr : RdrO w2 g row s6) (hm : Mod (fun i => i = g) wc w2) : CutH w w2 g row A S nt a z s6 :=
  ⟨hm.blk h.1 (by omega), hm.blk h.2.1 (by omega), hm.blk h.2.2.1 (by omega), hr, h.2.2.2.2.trans hm (fun _ _ h => h)⟩
set_option maxHeartbeats 4000000 in
set_option maxRecDepth 100000 in
theorem xget_any (g row : Nat) (win s : Option (Nat × Nat)) (w : World) (hwin : WinOk win) (hr : RdrO w g row s) (hrow : row < w.heap.size) (hdeb : Deb w) (hg : g ≠ 0) :
    Calls Tryd.prog 27 #[.pointer (some ⟨g, 0, none⟩), .agg #[.int .i64 (winA win : Int), .int .i64 (winS win : Int)]] w fun e w' => GotX w w' g row win s e := by
  have hsm : SmallO s := hr.small
  have Hwin := Lib.hid hwin; have Hdeb := Lib.hid hdeb; have Hg := Lib.hid hg; have Hrow := Lib.hid hrow; have Hsm := Lib.hid hsm
  obtain ⟨A, hA⟩ : ∃ A, A = winA win := ⟨_, rfl⟩
  obtain ⟨S, hS⟩ : ∃ S, S = winS win := ⟨_, rfl⟩
  obtain ⟨hb1, hb2, hb3⟩ := win_bounds hwin
  rw [← hA] at hb1 hb3
  rw [← hS] at hb2 hb3
  rw [← hA, ← hS]
  obtain ⟨W, hW⟩ : ∃ W, W = (w.alloc (.cells #[.int .i64 (A : Int), .int .i64 (S : Int)] 56)).alloc (.cells #[.int .i64 0, .int .i64 0] 56) := ⟨_, rfl⟩
  have hmW : Mod (fun _ => False) w W := by rw [hW]; exact ((Mod.refl _ _).alloc _).alloc _
  have hbo : Blk W w.heap.size 56 #[.int .i64 (A : Int), .int .i64 (S : Int)] := by rw [hW]; exact (Blk.new _ _ _).alloc _
  have hbr : Blk W (w.heap.size + 1) 56 #[.int .i64 0, .int .i64 0] := by
    have h := Blk.new (w.alloc (.cells #[.int .i64 (A : Int), .int .i64 (S : Int)] 56)) 56 #[.int .i64 0, .int .i64 0]
    rw [hW]
    simpa using h
  have hgl := hr.lt
  have HW := Lib.hid hW; have HmW := Lib.hid (hmW.mono (S' := fun i => i = g) (fun _ _ h => h.elim)); have Hbo := Lib.hid hbo; have Hbr := Lib.hid hbr; have Hr := Lib.hid (hr.mod hmW (fun h => h) (fun _ h => h)); have HA := Lib.hid hA; have HS := Lib.hid hS
  have Hgl : Hid (w.heap.size ≠ g ∧ w.heap.size + 1 ≠ g ∧ w.heap.size ≠ row ∧ w.heap.size + 1 ≠ row ∧ g < w.heap.size) := Lib.hid ⟨by omega, by omega, by omega, by omega, hgl⟩
  clear hwin hr hdeb hg hrow hW hmW hbo hbr hgl hA hS hsm
  go_enter Tryd.func27, Tryd.ntmps27
  go_wp2_with fail
  rw [← HW.out]
  refine (get_o g row 1 1 s _ rfl (by decide) Hr.out).mono ?_
  rintro e w1 ⟨rfl, hr1, hm1⟩
  have Hbo1 := Lib.hid (hm1.blk Hbo.out Hgl.out.1)
  have Hbr1 := Lib.hid (hm1.blk Hbr.out Hgl.out.2.1)
  have Hr1 := Lib.hid hr1; have Hm1 := Lib.hid (HmW.out.trans hm1 (fun _ _ h => h))
  clear hr1 hm1 HW Hbo Hbr HmW Hr
  by_cases hc0 : (getO 1 s).1 = 0
  · have Hst := Lib.hid (stO_zero (win := win) Hsm.out hc0)
    rw [hc0]
    clear hc0
    have hc0 := Hbo1.out.cell 0
    have hc1 := Hbo1.out.cell 1
    have hf0 := Hbr1.out.frozen 0
    have hf1 := Hbr1.out.frozen 1
    have hd0 := Hbr1.out.cell 0
    have hd1 := Hbr1.out.cell 1
    simp at hc0 hc1 hd0 hd1
    have S1 : Hid (w1.cell? ⟨w.heap.size, 0, none⟩ = some (.int .i64 (A : Int)) ∧ w1.cell? ⟨w.heap.size, 1, none⟩ = some (.int .i64 (S : Int))) := Lib.hid ⟨hc0, hc1⟩
    obtain ⟨w2, hw2⟩ : ∃ w2, w2 = (w1.setCell ⟨w.heap.size + 1, 0, none⟩ (.int .i64 (A : Int))).setCell ⟨w.heap.size + 1, 1, none⟩ (.int .i64 (S : Int)) := ⟨_, rfl⟩
    have hm12 : Mod (fun i => i = w.heap.size + 1) w1 w2 := by rw [hw2]; exact ((Mod.refl (fun i => i = w.heap.size + 1) _).setCell (p := ⟨w.heap.size + 1, 0, none⟩) (fun _ => rfl) _).setCell (p := ⟨w.heap.size + 1, 1, none⟩) (fun _ => rfl) _
    have hbo2 := hm12.blk Hbo1.out (by omega)
    have S2 : Hid (w2.cell? ⟨w.heap.size, 0, none⟩ = some (.int .i64 (A : Int)) ∧ w2.cell? ⟨w.heap.size, 1, none⟩ = some (.int .i64 (S : Int))) := Lib.hid ⟨hbo2.cell 0, hbo2.cell 1⟩
    have Hr1d : Hid (RdrO w1.drew g row (getO 1 s).2) := Lib.hid (Hr1.out.mod (Mod.refl (fun _ => False) _).drew (fun h => h) (fun _ h => h))
    have Hr2d : Hid (RdrO w2.drew g row (getO 1 s).2) := Lib.hid (Hr1.out.mod hm12.drew (fun e => Hgl.out.2.1 e.symm) (fun _ e => Hgl.out.2.2.2.1 e.symm))
    have Hm2d : Hid (Mod (fun i => i = g) w w2.drew) := Lib.hid (Hm1.out.trans hm12.drew (fun i hi e => by omega))
    have hres := (Hbr1.out.two (.int .i64 (A : Int)) (.int .i64 (S : Int)))
    have hR0 : w2.drew.cell? ⟨w.heap.size + 1, 0, none⟩ = some (.int .i64 (A : Int)) := by rw [hw2]; exact hres.2.2.cell 0
    have hR1 : w2.drew.cell? ⟨w.heap.size + 1, 1, none⟩ = some (.int .i64 (S : Int)) := by rw [hw2]; exact hres.2.2.cell 1
    have HW2 := Lib.hid hw2; have HR0 := Lib.hid hR0; have HR1 := Lib.hid hR1
    have hfin : Hid (∀ w', w2.drew = w' → GotX w w' g row win s (.returned (.tuple #[.int .u64 0, .agg #[.int .i64 (A : Int), .int .i64 (S : Int)], .bool (getO 1 s).2.isSome]))) := Lib.hid (by
      rintro w' rfl
      cases hq : (getO 1 s).2 with
      | none =>
        have h := Hst.out
        rw [hq] at h
        exact GotX.none_ h rfl ⟨_, Hr2d.out⟩ Hm2d.out
      | some p =>
        obtain ⟨R1, rem1⟩ := p
        have h := Hst.out
        rw [hq] at h
        refine GotX.some_ h ?_ (hq ▸ Hr2d.out) Hm2d.out
        rw [← HA.out, ← HS.out]
        rfl)
    clear hw2 hm12 hbo2 hres hR0 hR1 hc0 hc1 Hst
    go_wp2_with fail
    go_region_held_law (fun w' => w'.cell? ⟨w.heap.size, 0, none⟩ = some (.int .i64 (A : Int)) ∧ w'.cell? ⟨w.heap.size, 1, none⟩ = some (.int .i64 (S : Int))) (first | exact S1.out | exact S2.out | (rw [← HW2.out]; exact S2.out))
      (first | (go_at_call 28; refine (ok_o g row (getO 1 s).2 _ (by first | exact Hr1d.out | (rw [← HW2.out]; exact Hr2d.out))).mono ?_; rintro e w3 ⟨rfl, rfl⟩))
    all_goals
      (try rw [← HW2.out])
      go_wp2_with fail
      refine bodyPost_ret (v := .tuple #[.int .u64 0, .agg #[.int .i64 (A : Int), .int .i64 (S : Int)], .bool (getO 1 s).2.isSome]) (by simp [results, Tryd.results27, go_sem, HR0.out, HR1.out]) rfl ?_
      exact hfin.out _ rfl
  · have hc0b : ((((getO 1 s).1 : Nat) : Int) == 0) = false := by simp; omega
    have Hc0 := Lib.hid hc0
    clear hc0
    have hc0 := Hbo1.out.cell 0
    have hc1 := Hbo1.out.cell 1
    simp at hc0 hc1
    obtain ⟨w2, hw2⟩ : ∃ w2, w2 = w1.alloc (.cells #[.int .i64 (A : Int), .int .i64 (S : Int)] 56) := ⟨_, rfl⟩
    obtain ⟨nt, hnt⟩ : ∃ nt, nt = w1.heap.size := ⟨_, rfl⟩
    have hm12 : Mod (fun _ => False) w1 w2 := by rw [hw2]; exact (Mod.refl _ _).alloc _
    have Hbo2 := Lib.hid (hm12.blk Hbo1.out (fun h => h))
    have Hbr2 := Lib.hid (hm12.blk Hbr1.out (fun h => h))
    have Hbt2 : Hid (Blk w2 nt 56 #[.int .i64 (A : Int), .int .i64 (S : Int)]) := Lib.hid (by rw [hw2, hnt]; exact Blk.new _ _ _)
    have Hr2 := Lib.hid (Hr1.out.mod hm12 (fun h => h) (fun _ h => h)); have Hm2 := Lib.hid (Hm1.out.trans hm12 (fun _ _ h => h.elim))
    have Hnt : Hid (w.heap.size + 1 < nt) := Lib.hid (by have := Hbr1.out.lt; omega)
    have HW2 := Lib.hid hw2; have HNT := Lib.hid hnt
    clear hw2 hm12 hnt
    go_wp2_with (first | (rw [← HNT.out, ← HW2.out]))
    refine (get_o g row 1 1 _ _ rfl (by decide) Hr2.out).mono ?_
    rintro e w3 ⟨rfl, hr3, hm3⟩
    have Hbo3 := Lib.hid (hm3.blk Hbo2.out Hgl.out.1)
    have Hbr3 := Lib.hid (hm3.blk Hbr2.out Hgl.out.2.1)
    have Hbt3 := Lib.hid (hm3.blk Hbt2.out (by have := Hnt.out; have := Hgl.out; omega))
    have Hr3 := Lib.hid hr3; have Hm3 := Lib.hid (Hm2.out.trans hm3 (fun _ _ h => h))
    clear hr3 hm3 Hbo2 Hbr2 Hbt2 Hr2 Hm2 hc0 hc1 HW2 HNT Hbo1 Hbr1 Hr1 Hm1 hc0b
    obtain ⟨c1, hc1⟩ : ∃ c1, c1 = (getO 1 (getO 1 s).2).1 := ⟨_, rfl⟩
    obtain ⟨fresh, hfr⟩ : ∃ fresh : Bool, (((c1 : Nat) : Int) == 1) = fresh := ⟨_, rfl⟩
    rw [← hc1]
    have hc1b : c1 = 0 ∨ c1 = 1 := by rw [hc1]; exact (Hsm.out.get 1).bit
    have Hc1 := Lib.hid hc1; have Hc1b := Lib.hid hc1b; have Hfr := Lib.hid hfr
    clear hc1 hc1b
    go_upto_if 20 with fail
    go_cut [8] (fun s8 wc => ∃ (a z : Nat) (s' : Option (Nat × Nat)), s8 = .bool fresh ∧ CutG w wc g row win s A S nt a z fresh s')
    case first =>
      rcases Hc1b.out with h1 | h1
      · obtain rfl : fresh = false := by rw [← Hfr.out, h1]; rfl
        have HC : Hid (CutG w w3 g row win s A S nt A S false (getO 1 (getO 1 s).2).2) := Lib.hid ⟨⟨Hc0.out, .inl ⟨rfl, by rw [← Hc1.out, h1], HA.out, HS.out, rfl⟩⟩, Hbo3.out, Hbr3.out, Hbt3.out, Hr3.out, Hm3.out⟩
        clear h1 hfr
        go_wp2_with fail
        go_meet
        case rel => exact ⟨A, S, _, rfl, HC.out⟩
      · obtain rfl : fresh = true := by rw [← Hfr.out, h1]; rfl
        have H1 := Lib.hid h1
        clear h1 hfr
        go_wp2_with fail
        refine (get_o g row 5 5 _ _ rfl (by decide) Hr3.out).mono ?_
        rintro e w4 ⟨rfl, hr4, hm4⟩
        have hbt4 := hm4.blk Hbt3.out (by have := Hnt.out; have := Hgl.out; omega)
        obtain ⟨a, ha⟩ : ∃ a, a = (getO 5 (getO 1 (getO 1 s).2).2).1 := ⟨_, rfl⟩
        have hal : a < 32 := by rw [ha]; exact ((Hsm.out.get 1).get 1).lt 5
        have hcv : wrap64 (a : Int) = (a : Int) := IntWalk.wrap64_in _ (by omega)
        rw [← ha]
        have hd0 := hbt4.cell 0
        have hf0 := hbt4.frozen 0
        simp at hd0
        obtain ⟨w5, hw5⟩ : ∃ w5, w5 = w4.setCell ⟨nt, 0, none⟩ (.int .i64 (a : Int)) := ⟨_, rfl⟩
        have hm45 : Mod (fun i => i = nt) w4 w5 := by rw [hw5]; exact (Mod.refl (fun i => i = nt) w4).setCell (p := ⟨nt, 0, none⟩) (fun _ => rfl) _
        have Hbo5 := Lib.hid (hm45.blk (hm4.blk Hbo3.out Hgl.out.1) (by have := Hnt.out; omega))
        have Hbr5 := Lib.hid (hm45.blk (hm4.blk Hbr3.out Hgl.out.2.1) (by have := Hnt.out; omega))
        have Hbt5 : Hid (Blk w5 nt 56 #[.int .i64 (a : Int), .int .i64 (S : Int)]) := Lib.hid (by rw [hw5]; simpa using hbt4.set_ 0 (.int .i64 (a : Int)))
        have Hr5 := Lib.hid (hr4.mod hm45 (by have := Hnt.out; have := Hgl.out; omega) (fun _ => by have := Hnt.out; have := Hrow.out; omega))
        have Hm5 := Lib.hid ((Hm3.out.trans hm4 (fun _ _ h => h)).trans hm45 (fun i hi e => by have := Hnt.out; omega))
        have Ha := Lib.hid ha; have HW5 := Lib.hid hw5
        clear hr4 hm4 hbt4 hw5 hm45 ha Hr3 Hm3 Hbo3 Hbr3 Hbt3
        go_wp2_with (first | (rw [← HW5.out]))
        refine (get_o g row 6 6 _ _ rfl (by decide) Hr5.out).mono ?_
        rintro e w6 ⟨rfl, hr6, hm6⟩
        have hbt6 := hm6.blk Hbt5.out (by have := Hnt.out; have := Hgl.out; omega)
        obtain ⟨m, hm⟩ : ∃ m, m = (getO 6 (getO 5 (getO 1 (getO 1 s).2).2).2).1 := ⟨_, rfl⟩
        have hml : m < 64 := by rw [hm]; exact (((Hsm.out.get 1).get 1).get 5).lt 6
        have hcm : wrap64 (m : Int) = (m : Int) := IntWalk.wrap64_in _ (by omega)
        obtain ⟨z, hz⟩ : ∃ z, z = m + 1 := ⟨_, rfl⟩
        have hz1 : (m : Int) + 1 = (z : Int) := by omega
        rw [← hm]
        clear hd0 hf0
        have hd1 := hbt6.cell 1
        have hf1 := hbt6.frozen 1
        simp at hd1
        obtain ⟨w7, hw7⟩ : ∃ w7, w7 = w6.setCell ⟨nt, 1, none⟩ (.int .i64 (z : Int)) := ⟨_, rfl⟩
        have hm67 : Mod (fun i => i = nt) w6 w7 := by rw [hw7]; exact (Mod.refl (fun i => i = nt) w6).setCell (p := ⟨nt, 1, none⟩) (fun _ => rfl) _
        have HC : Hid (CutG w w7 g row win s A S nt a z true (getO 6 (getO 5 (getO 1 (getO 1 s).2).2).2).2) := Lib.hid ⟨⟨Hc0.out, .inr ⟨rfl, by rw [← Hc1.out, H1.out]; decide, Ha.out, by rw [hz, hm], rfl⟩⟩,
          hm67.blk (hm6.blk Hbo5.out Hgl.out.1) (by have := Hnt.out; omega), hm67.blk (hm6.blk Hbr5.out Hgl.out.2.1) (by have := Hnt.out; omega), by rw [hw7]; simpa using hbt6.set_ 1 (.int .i64 (z : Int)),
          hr6.mod hm67 (by have := Hnt.out; have := Hgl.out; omega) (fun _ => by have := Hnt.out; have := Hrow.out; omega), (Hm5.out.trans hm6 (fun _ _ h => h)).trans hm67 (fun i hi e => by have := Hnt.out; omega)⟩
        have HW7 := Lib.hid hw7
        clear hr6 hm6 hbt6 hw7 hm67 hm hz Hr5 Hm5 Hbo5 Hbr5 Hbt5 hcv
        go_wp2_with (first | (rw [← HW7.out]))
        go_meet
        case rel => exact ⟨a, z, _, rfl, by first | exact HC.out | (rw [← HW7.out]; exact HC.out)⟩
    case rest =>
      obtain ⟨a, z, s', rfl, hM, hbo, hbr, hbt, hr, hm⟩ := hcut
      obtain ⟨ha31, hz64, hsm'⟩ := hM.bounds Hsm.out Hwin.out
      have HM := Lib.hid hM; have Hbo := Lib.hid hbo; have Hbr := Lib.hid hbr; have Hbt := Lib.hid hbt; have Hr := Lib.hid hr; have Hm := Lib.hid hm; have Hsm' := Lib.hid hsm'
      clear hM hbo hbr hbt hr hm hsm' Hbo3 Hbr3 Hbt3 Hr3 Hm3 hfr Hc0 Hc1 Hc1b Hfr
      have he0 := Hbt.out.cell 0
      have he1 := Hbt.out.cell 1
      simp at he0 he1
      by_cases hfar : 64 < a + z
      · have hn := HM.out.far Hwin.out hfar
        have Hn := Lib.hid hn
        clear hn
        go_wp2_with fail
        refine (behind_any a z _ (by omega) hz64).mono ?_
        rintro e w8 ⟨rfl, hm8⟩
        have hbr8 := hm8.blk Hbr.out (fun h => h)
        have hf0 := hbr8.frozen 0
        have hf1 := hbr8.frozen 1
        have hd0 := hbr8.cell 0
        have hd1 := hbr8.cell 1
        simp at hd0 hd1
        have Hbr8 := Lib.hid hbr8
        have hS := res_store (.int .i64 0) (.int .i64 0) Hgl.out.2.2.2.2 Hrow.out (Hr.out.mod hm8 (fun h => h) (fun _ h => h)) (Hm.out.trans hm8 (fun _ _ h => h.elim))
        have HS8 := Lib.hid hS
        clear hm8 hbr8 hS he0 he1
        go_wp2_with fail
        refine bodyPost_ret (v := .tuple #[.int .u64 0, .agg #[.int .i64 0, .int .i64 0], .bool false]) (by have h := Hbr8.out.two (.int .i64 0) (.int .i64 0); simp [results, Tryd.results27, go_sem, h.1, h.2.1]) rfl ?_
        exact GotX.none_ Hn.out rfl ⟨_, HS8.out.1⟩ HS8.out.2
      · obtain ⟨b, hb⟩ : ∃ b, b = 64 - a - z := ⟨_, rfl⟩
        have hab : a + z + b = 64 := by omega
        have Hb := Lib.hid hb
        clear hb
        go_wp2_with fail
        refine (behind_at a z b _ hab).mono ?_
        rintro e w8 ⟨rfl, hm8⟩
        have hd := hm8.drew
        have C8 : Hid (CutH w w8.drew g row A S nt a z s') := Lib.hid (CutH.new ⟨Hbo.out, Hbr.out, Hbt.out, Hr.out, Hm.out⟩ hd)
        clear hm8 hd he0 he1 Hbo Hbr Hbt Hr Hm
        have hb0 : (0 : Int) ≤ (b : Int) := by omega
        obtain ⟨y, hy⟩ : ∃ y, y = (getO z s').1 := ⟨_, rfl⟩
        obtain ⟨x, hx⟩ : ∃ x, x = y * 2 ^ b := ⟨_, rfl⟩
        have hfin := HM.out.fin (x := x) Hsm.out Hwin.out hfar (by rw [hx, hy, Hb.out])
        have hx64 := hfin.1
        have Hfin := Lib.hid hfin
        have hshl : IntKind.u64.wrap ((y : Int) * 2 ^ b) = (x : Int) := by
          rw [IntKind.wrap_u64, hx]
          have e1 : ((y : Int) * 2 ^ b) = ((y * 2 ^ b : Nat) : Int) := by simp
          rw [e1, ← hx]
          omega
        have Hy := Lib.hid hy; have Hx := Lib.hid hx; have Hx64 := Lib.hid hx64
        clear hfin hx64 hy hx
        go_upto_region 10 with fail
        go_cut [9] (fun s9 wc => s9 = .int .u64 (x : Int) ∧ CutH w wc g row A S nt a z (getO z s').2)
        case first =>
          go_region_held_law (fun w' => w'.cell? ⟨nt, 0, none⟩ = some (.int .i64 (a : Int)) ∧ w'.cell? ⟨nt, 1, none⟩ = some (.int .i64 (z : Int))) (first | exact C10.out.cells | exact C9.out.cells | exact C8.out.cells)
            (first
              | (go_at_call 35; refine (behind_at a z b _ hab).mono ?_; rintro e w9 ⟨rfl, hm9⟩; (first | (have C9 := Lib.hid (C10.out.new hm9)) | (have C9 := Lib.hid (C8.out.new hm9))); clear hm9)
              | (go_at_call 21; refine (get_o g row z _ s' _ rfl (by omega) (by first | exact C9.out.2.2.2.1 | exact C8.out.2.2.2.1)).mono ?_; rintro e w10 ⟨rfl, hr10, hm10⟩; rw [← Hy.out]; (first | (have C10 := Lib.hid (C9.out.get Hgl.out.2.2.2.2 Hnt.out hr10 hm10)) | (have C10 := Lib.hid (C8.out.get Hgl.out.2.2.2.2 Hnt.out hr10 hm10))); clear hr10 hm10))
          all_goals
            go_wp2_with fail
            go_meet
            first
              | exact ⟨rfl, C10.out⟩
              | exact ⟨rfl, C9.out⟩
        case rest =>
          obtain ⟨rfl, hC⟩ := hcut
          have C11 := Lib.hid (hC.new (Mod.refl (fun _ => False) _).drew)
          clear hC
          obtain ⟨s5, hs5⟩ : ∃ s5, s5 = (getO z s').2 := ⟨_, rfl⟩
          rw [← hs5] at C11
          have hfin := Hfin.out
          rw [← hs5] at hfin
          have HF := Lib.hid hfin
          obtain ⟨p, hp⟩ : ∃ p, p = winA (winX win x) := ⟨_, rfl⟩
          obtain ⟨q, hq⟩ : ∃ q, q = winS (winX win x) := ⟨_, rfl⟩
          have Hp := Lib.hid hp; have Hq := Lib.hid hq
          clear hs5 hfin hp hq Hfin hshl Hy Hx HM C8 hb0 Hsm'
          go_upto_region 11 with fail
          go_cut [61] (fun s61 wc => ∃ v : Bool, s61 = .bool v ∧ CutH w wc g row A S nt a z s5 ∧ Fin11 win s s5 x a z v)
          case first =>
            have hnC : ∀ W, CutH w W g row A S nt a z s5 → Deb W := fun W h => Hdeb.out.mod h.2.2.2.2 (fun e => Hg.out e.symm)
            have HnC := Lib.hid hnC
            clear hnC
            refine wp_region_class (fun W => CutH w W g row A S nt a z s5) (by kernel_rfl) (by kernel_rfl) C11.out ?_
            cases hso : s5.isSome with
            | false =>
              have Hs5 := Lib.hid hso
              have hn : stO win s = none := HF.out.2.1 (.inl (by cases s5 with | none => rfl | some p => cases hso))
              have HN : Hid (Fin11 win s s5 x a z true) := Lib.hid ⟨fun _ => hn, fun h => by cases h⟩
              clear hso hn
              iterate 1 quiet_step (exact fun _ => rfl)
              refine wpQuiet_step (fun K hK => ?_)
              go_simp
              refine ⟨.bool false, fun w2 h2 => (ok_at g row s5 false _ Hs5.out h2.2.2.2.1).mono ?_, hK _ ?_⟩
              · rintro e w3 ⟨rfl, rfl⟩
                exact ⟨rfl, h2⟩
              clear hK K
              iterate 2 quiet_step (exact fun _ => rfl)
              iterate 17 (first | quiet_step (exact fun _ => rfl) | ((with_reducible refine quiet_skip ?h ?_); (case h => kernel_rfl); (simp only [Act.put, List.setIfInBounds_toArray, List.set_cons_zero, List.set_cons_succ])))
              refine wpQuiet_nil ?_
              intro w4 h4
              have C12 := Lib.hid h4
              clear h4
              go_wp2_with fail
              go_meet
              case rel => exact ⟨true, rfl, C12.out, HN.out⟩
            | true =>
              have Hs5 := Lib.hid hso
              clear hso
              iterate 1 quiet_step (exact fun _ => rfl)
              refine wpQuiet_step (fun K hK => ?_)
              go_simp
              refine ⟨.bool true, fun w2 h2 => (ok_at g row s5 true _ Hs5.out h2.2.2.2.1).mono ?_, hK _ ?_⟩
              · rintro e w3 ⟨rfl, rfl⟩
                exact ⟨rfl, h2⟩
              clear hK K
              iterate 2 quiet_step (exact fun _ => rfl)
              by_cases hx0 : x = 0
              · have hx0b : ((x : Int) == 0) = true := by simp; omega
                have HN : Hid (Fin11 win s s5 x a z true) := Lib.hid ⟨fun _ => HF.out.2.1 (.inr (.inl hx0)), fun h => by cases h⟩
                clear hx0
                iterate 4 quiet_step (exact fun _ => rfl)
                iterate 13 (first | quiet_step (exact fun _ => rfl) | ((with_reducible refine quiet_skip ?h ?_); (case h => kernel_rfl); (simp only [Act.put, List.setIfInBounds_toArray, List.set_cons_zero, List.set_cons_succ])))
                refine wpQuiet_nil ?_
                intro w4 h4
                have C12 := Lib.hid h4
                clear h4
                go_wp2_with fail
                go_meet
                case rel => exact ⟨true, rfl, C12.out, HN.out⟩
              · have hx0b : ((x : Int) == 0) = false := by simp; omega
                iterate 4 quiet_step (exact fun _ => rfl)
                refine wpQuiet_step (fun K hK => ?_)
                go_simp
                refine ⟨.agg #[.int .i64 (a : Int), .int .i64 (z : Int)], fun w2 h2 => ?_, hK _ ?_⟩
                · simp only [(h2.cells4.1).1, (h2.cells4.1).2, Result.andThen_ok]
                  first | done | exact ⟨trivial, trivial⟩ | exact ⟨rfl, rfl⟩
                clear hK K
                refine wpQuiet_step (fun K hK => ?_)
                go_simp
                refine ⟨.agg #[.int .i64 (A : Int), .int .i64 (S : Int)], fun w2 h2 => ?_, hK _ ?_⟩
                · simp only [(h2.cells4.2).1, (h2.cells4.2).2, Result.andThen_ok]
                  first | done | exact ⟨trivial, trivial⟩ | exact ⟨rfl, rfl⟩
                clear hK K
                iterate 1 quiet_step (exact fun _ => rfl)
                refine wpQuiet_step (fun K hK => ?_)
                go_simp
                refine ⟨.agg #[.int .i64 (p : Int), .int .i64 (q : Int)], fun w2 h2 => (next_at win x A S p q _ HA.out HS.out Hp.out Hq.out Hwin.out hx0 Hx64.out (HnC.out _ h2)).mono ?_, hK _ ?_⟩
                · rintro e w3 ⟨rfl, hm3⟩
                  exact ⟨rfl, h2.new hm3⟩
                clear hK K
                clear hx0b
                by_cases htold : a = p ∧ z = q
                · obtain ⟨rfl, rfl⟩ := htold
                  obtain ⟨R5, rem5, hs5⟩ : ∃ R5 rem5, s5 = some (R5, rem5) := by
                    have := Hs5.out
                    cases s5 with
                    | none => cases this
                    | some p => exact ⟨_, _, rfl⟩
                  have HS5 := Lib.hid hs5
                  clear hs5
                  iterate 4 quiet_step (exact fun _ => rfl)
                  refine wpQuiet_step (fun K hK => ?_)
                  go_simp
                  refine ⟨.agg #[.int .i64 (a : Int), .int .i64 (z : Int)], fun w2 h2 => ?_, hK _ ?_⟩
                  · simp only [(h2.cells4.1).1, (h2.cells4.1).2, Result.andThen_ok]
                    first | done | exact ⟨trivial, trivial⟩ | exact ⟨rfl, rfl⟩
                  clear hK K
                  refine wpQuiet_step (fun K hK => ?_)
                  go_simp
                  refine ⟨.agg #[.int .i64 (A : Int), .int .i64 (S : Int)], fun w2 h2 => ?_, hK _ ?_⟩
                  · simp only [(h2.cells4.2).1, (h2.cells4.2).2, Result.andThen_ok]
                    first | done | exact ⟨trivial, trivial⟩ | exact ⟨rfl, rfl⟩
                  clear hK K
                  by_cases hsame : a = A ∧ z = S
                  · obtain ⟨rfl, rfl⟩ := hsame
                    cases fresh with
                    | false =>
                      have HN : Hid (Fin11 win s s5 x a z false) := Lib.hid ⟨fun h => (by cases h), fun _ => ⟨Hp.out, Hq.out, R5, rem5, HS5.out, HF.out.2.2 R5 rem5 HS5.out hx0 ⟨Hp.out, Hq.out⟩ (by rw [decide_eq_true ⟨HA.out, HS.out⟩]; decide)⟩⟩
                      iterate 3 quiet_step (exact fun _ => rfl)
                      refine wpQuiet_nil ?_
                      intro w4 h4
                      have C12 := Lib.hid h4
                      clear h4
                      go_wp2_with fail
                      go_meet
                      case rel => exact ⟨false, rfl, C12.out, HN.out⟩
                    | true =>
                      have HN : Hid (Fin11 win s s5 x a z true) := Lib.hid ⟨fun _ => HF.out.2.1 (.inr (.inr (.inr (by rw [decide_eq_true ⟨HA.out, HS.out⟩])))), fun h => by cases h⟩
                      iterate 3 quiet_step (exact fun _ => rfl)
                      refine wpQuiet_nil ?_
                      intro w4 h4
                      have C12 := Lib.hid h4
                      clear h4
                      go_wp2_with fail
                      go_meet
                      case rel => exact ⟨true, rfl, C12.out, HN.out⟩
                  · have hdec : Hid (decide (a = winA win ∧ z = winS win) = false) := Lib.hid (decide_eq_false (by rw [← HA.out, ← HS.out]; exact hsame))
                    have hcmp : (a = A ∧ ¬ (z : Int) = (S : Int)) ∨ ¬ (a : Int) = (A : Int) := by omega
                    clear hsame
                    rcases hcmp with ⟨rfl, hq0⟩ | hq0
                    all_goals
                      cases fresh with
                      | false =>
                        have HN : Hid (Fin11 win s s5 x a z true) := Lib.hid ⟨fun _ => HF.out.2.1 (.inr (.inr (.inr (by rw [hdec.out])))), fun h => by cases h⟩
                        iterate 3 quiet_step (exact fun _ => rfl)
                        refine wpQuiet_nil ?_
                        intro w4 h4
                        have C12 := Lib.hid h4
                        clear h4
                        go_wp2_with fail
                        go_meet
                        case rel => exact ⟨true, rfl, C12.out, HN.out⟩
                      | true =>
                        have HN : Hid (Fin11 win s s5 x a z false) := Lib.hid ⟨fun h => (by cases h), fun _ => ⟨Hp.out, Hq.out, R5, rem5, HS5.out, HF.out.2.2 R5 rem5 HS5.out hx0 ⟨Hp.out, Hq.out⟩ (by rw [hdec.out]; decide)⟩⟩
                        iterate 3 quiet_step (exact fun _ => rfl)
                        refine wpQuiet_nil ?_
                        intro w4 h4
                        have C12 := Lib.hid h4
                        clear h4
                        go_wp2_with fail
                        go_meet
                        case rel => exact ⟨false, rfl, C12.out, HN.out⟩
                · have HN : Hid (Fin11 win s s5 x a z true) := Lib.hid ⟨fun _ => HF.out.2.1 (.inr (.inr (.inl (by rw [← Hp.out, ← Hq.out]; exact htold)))), fun h => by cases h⟩
                  have hcmp : (a = p ∧ ¬ (z : Int) = (q : Int)) ∨ ¬ (a : Int) = (p : Int) := by omega
                  clear htold
                  rcases hcmp with ⟨rfl, hq0⟩ | hq0
                  all_goals
                    iterate 3 quiet_step (exact fun _ => rfl)
                    iterate 6 (first | quiet_step (exact fun _ => rfl) | ((with_reducible refine quiet_skip ?h ?_); (case h => kernel_rfl); (simp only [Act.put, List.setIfInBounds_toArray, List.set_cons_zero, List.set_cons_succ])))
                    refine wpQuiet_nil ?_
                    intro w4 h4
                    have C12 := Lib.hid h4
                    clear h4
                    go_wp2_with fail
                    go_meet
                    case rel => exact ⟨true, rfl, C12.out, HN.out⟩
          case rest =>
            obtain ⟨v, rfl, hC, hF⟩ := hcut
            have HC := Lib.hid hC; have HFin := Lib.hid hF
            obtain ⟨_, hbr, _, hr, hm⟩ := hC
            have hf0 := hbr.frozen 0
            have hf1 := hbr.frozen 1
            have hd0 := hbr.cell 0
            have hd1 := hbr.cell 1
            simp at hd0 hd1
            have Hbr := Lib.hid hbr; have Hr := Lib.hid hr; have Hm := Lib.hid hm
            clear hF hbr hr hm HF C11
            cases v with
            | true =>
              have Hn := Lib.hid (HFin.out.1 rfl)
              have HS8 := Lib.hid (res_store (.int .i64 0) (.int .i64 0) Hgl.out.2.2.2.2 Hrow.out Hr.out Hm.out)
              go_wp2_with fail
              refine bodyPost_ret (v := .tuple #[.int .u64 0, .agg #[.int .i64 0, .int .i64 0], .bool false]) (by have h := Hbr.out.two (.int .i64 0) (.int .i64 0); simp [results, Tryd.results27, go_sem, h.1, h.2.1]) rfl ?_
              exact GotX.none_ Hn.out rfl ⟨_, HS8.out.1⟩ HS8.out.2
            | false =>
              obtain ⟨ha, hz, R5, rem5, hs5, hst⟩ := HFin.out.2 rfl
              have Hst := Lib.hid hst; have Hs5 := Lib.hid hs5; have Ha := Lib.hid ha; have Hz := Lib.hid hz
              clear ha hz hs5 hst
              obtain ⟨w14, hw14⟩ : ∃ w14, w14 = (wc.setCell ⟨w.heap.size + 1, 0, none⟩ (.int .i64 (a : Int))).setCell ⟨w.heap.size + 1, 1, none⟩ (.int .i64 (z : Int)) := ⟨_, rfl⟩
              have hm14 : Mod (fun i => i = w.heap.size + 1) wc w14 := by rw [hw14]; exact ((Mod.refl (fun i => i = w.heap.size + 1) _).setCell (p := ⟨w.heap.size + 1, 0, none⟩) (fun _ => rfl) _).setCell (p := ⟨w.heap.size + 1, 1, none⟩) (fun _ => rfl) _
              have hbt14 := hm14.blk HC.out.2.2.1 (by have := Hnt.out; omega)
              have S14 : Hid (w14.cell? ⟨nt, 0, none⟩ = some (.int .i64 (a : Int)) ∧ w14.cell? ⟨nt, 1, none⟩ = some (.int .i64 (z : Int))) := Lib.hid ⟨hbt14.cell 0, hbt14.cell 1⟩
              have S13 : Hid (wc.cell? ⟨nt, 0, none⟩ = some (.int .i64 (a : Int)) ∧ wc.cell? ⟨nt, 1, none⟩ = some (.int .i64 (z : Int))) := Lib.hid HC.out.cells
              have hS := res_store (.int .i64 (a : Int)) (.int .i64 (z : Int)) Hgl.out.2.2.2.2 Hrow.out Hr.out Hm.out
              rw [← hw14] at hS
              have hS2 : RdrO w14.drew g row s5 ∧ Mod (fun i => i = g) w w14.drew := ⟨hS.1.mod (Mod.refl (fun _ => False) _).drew (fun h => h) (fun _ h => h), hS.2.drew⟩
              have hres := Hbr.out.two (.int .i64 (a : Int)) (.int .i64 (z : Int))
              have hR0 : w14.drew.cell? ⟨w.heap.size + 1, 0, none⟩ = some (.int .i64 (a : Int)) := by rw [hw14]; exact hres.2.2.cell 0
              have hR1 : w14.drew.cell? ⟨w.heap.size + 1, 1, none⟩ = some (.int .i64 (z : Int)) := by rw [hw14]; exact hres.2.2.cell 1
              have HS2 := Lib.hid hS2; have HW14 := Lib.hid hw14; have HR0 := Lib.hid hR0; have HR1 := Lib.hid hR1
              clear hw14 hm14 hbt14 hS hS2 hres hR0 hR1 HC
              go_wp2_with fail
              go_region_held_law (fun w' => w'.cell? ⟨nt, 0, none⟩ = some (.int .i64 (a : Int)) ∧ w'.cell? ⟨nt, 1, none⟩ = some (.int .i64 (z : Int))) (first | exact S13.out | exact S14.out | (rw [← HW14.out]; exact S14.out)) (first | fail "x" | fail "y")
              all_goals
                (try rw [← HW14.out])
                go_wp2_with fail
                refine bodyPost_ret (v := .tuple #[.int .u64 (x : Int), .agg #[.int .i64 (a : Int), .int .i64 (z : Int)], .bool true]) (by simp [results, Tryd.results27, go_sem, HR0.out, HR1.out]) rfl ?_
                exact GotX.some_ Hst.out (by rw [← Ha.out, ← Hz.out]) (by have h := HS2.out.1; rw [Hs5.out] at h; exact h) HS2.out.2
end Go.Proofs.YtdlkjfnifjlbhaaDoor

/- The document's own times are read: difference, GetTimes. -/
import Derived.Test.YtjphlbnbgpjfmaaDoorRu
import Derived.Test.YtjphlbnbgpjfmaaDoorTr
import Derived.Deep.CutBlock
namespace Go.Proofs.YtjphlbnbgpjfmaaDoor
open Go.RowKit

def RRdO (w : World) (g row : Nat) (bs : List Nat) : Option (Nat × Nat) → Prop
  | some (R, rem) => RRd w g row bs R rem true ∧ R < 2 ^ rem
  | none => RRd w g row bs 0 0 false
section
variable {w w' : World} {g row : Nat} {bs : List Nat} {s : Option (Nat × Nat)}
theorem RRdO.mod {S : Nat → Prop} (h : RRdO w g row bs s) (hm : Mod S w w') (h1 : ¬ S g) (h2 : row < w.heap.size → ¬ S row) : RRdO w' g row bs s := by
  cases s with
  | none => exact RRd.mod h hm h1 h2
  | some p => exact ⟨RRd.mod h.1 hm h1 h2, h.2⟩
theorem RRd.lt' {R rem : Nat} {ok : Bool} (h : RRd w g row bs R rem ok) : g < w.heap.size := by
  obtain ⟨A, n, c, a, hblk, _⟩ := h
  exact hblk.lt
theorem RRdO.lt (h : RRdO w g row bs s) : g < w.heap.size := by
  cases s with
  | none => exact RRd.lt' h
  | some p => exact RRd.lt' h.1
theorem RRdO.flag (h : RRdO w g row bs s) : w.cell? ⟨g, 2, none⟩ = some (.bool (!s.isSome)) := by
  cases s with
  | none => exact RRd.flag h
  | some p => exact RRd.flag h.1
theorem RRdO.small (h : RRdO w g row bs s) : ∀ R rem, s = some (R, rem) → R < 2 ^ rem := by
  rintro R rem rfl
  exact h.2
end
theorem rget_o (g row k : Nat) (N : Int) (bs : List Nat) (s : Option (Nat × Nat)) (w : World) (hN : N = (k : Int)) (hk : k ≤ 64) (h : RRdO w g row bs s) :
    Calls Tryd.prog 31 #[.pointer (some ⟨g, 0, none⟩), .int .i64 N] w fun e w' => e = .returned (.int .u64 ((getO k s).1 : Int)) ∧ RRdO w' g row bs (getO k s).2 ∧ Mod (fun i => i = g) w w' := by
  subst hN
  cases s with
  | none =>
    refine (rget_ans (k : Int) k (by omega) h).mono ?_
    rintro e w' ⟨rfl, h1, h2⟩
    exact ⟨rfl, h1, h2⟩
  | some p =>
    obtain ⟨R, rem⟩ := p
    refine (rget_ans (k : Int) k (by omega) h.1).mono ?_
    rintro e w' ⟨rfl, h1, h2⟩
    by_cases hkr : k ≤ rem
    · rw [ans_yes hkr] at h1 ⊢
      have e1 : getO k (some (R, rem)) = (R / 2 ^ (rem - k), some (R % 2 ^ (rem - k), rem - k)) := if_pos hkr
      rw [e1]
      exact ⟨rfl, ⟨h1, Nat.mod_lt _ (Nat.two_pow_pos _)⟩, h2⟩
    · rw [ans_no (fun h => hkr h.2)] at h1 ⊢
      have e1 : getO k (some (R, rem)) = (0, none) := if_neg hkr
      rw [e1]
      exact ⟨rfl, h1, h2⟩

def RMarkTo (w wr : World) (g row : Nat) (bs : List Nat) (s s' : Option (Nat × Nat)) (l f : Nat) : Prop := markO l f s' = markO 4 0 s ∧ RRdO wr g row bs s' ∧ Mod (fun i => i = g) w wr
def RMarkEnd (w wr : World) (g row : Nat) (bs : List Nat) (s : Option (Nat × Nat)) (f : Nat) : Prop := f = formO s ∧ RRdO wr g row bs (markO 4 0 s).2 ∧ Mod (fun i => i = g) w wr
theorem RMarkTo.stop {w wr w1 : World} {g row : Nat} {bs : List Nat} {s s' : Option (Nat × Nat)} {l f : Nat} (h : RMarkTo w wr g row bs s s' (l + 1) f) (hne : ¬ (getO 1 s').1 = 1) (h1 : RRdO w1 g row bs (getO 1 s').2) (hm : Mod (fun i => i = g) wr w1) : RMarkEnd w w1 g row bs s f := by
  have e : markO (l + 1) f s' = (f, (getO 1 s').2) := by
    show (if (getO 1 s').1 = 1 then markO l (f + 1) (getO 1 s').2 else (f, (getO 1 s').2)) = _
    rw [if_neg hne]
  have e2 := h.1
  rw [e] at e2
  refine ⟨?_, ?_, h.2.2.trans hm (fun _ _ h => h)⟩
  · unfold formO; rw [← e2]
  · rw [← e2]; exact h1
theorem RMarkTo.next {w wr w1 : World} {g row : Nat} {bs : List Nat} {s s' : Option (Nat × Nat)} {l f : Nat} (h : RMarkTo w wr g row bs s s' (l + 1) f) (hne : (getO 1 s').1 = 1) (h1 : RRdO w1 g row bs (getO 1 s').2) (hm : Mod (fun i => i = g) wr w1) : RMarkTo w w1 g row bs s (getO 1 s').2 l (f + 1) := by
  have e : markO (l + 1) f s' = markO l (f + 1) (getO 1 s').2 := by
    show (if (getO 1 s').1 = 1 then markO l (f + 1) (getO 1 s').2 else (f, (getO 1 s').2)) = _
    rw [if_pos hne]
  exact ⟨e ▸ h.1, h1, h.2.2.trans hm (fun _ _ h => h)⟩
theorem RMarkTo.full {w wr : World} {g row : Nat} {bs : List Nat} {s s' : Option (Nat × Nat)} {f : Nat} (h : RMarkTo w wr g row bs s s' 0 f) : RMarkEnd w wr g row bs s f := by
  have e2 : (f, s') = markO 4 0 s := h.1
  refine ⟨?_, ?_, h.2.2⟩
  · unfold formO; rw [← e2]
  · rw [← e2]; exact h.2.1
def RDiffEnd (w wr : World) (g row : Nat) (bs : List Nat) (s : Option (Nat × Nat)) (e : Ending) : Prop :=
  e = .returned (.tuple #[.int .i64 (diffO s), .bool (decide (kindN (diffO s) = sz (formO s)))]) ∧ RRdO wr g row bs (behindO s) ∧ Mod (fun i => i = g) w wr
theorem small_cast {u n : Nat} (h : u < n) (hn : n ≤ 4096) : wrap64 (u : Int) = (u : Int) := IntWalk.wrap64_in _ (by omega)
/-- What the last step tells. -/
theorem rdiff_end {w w1 w2 : World} {g row h : Nat} {bs : List Nat} {s : Option (Nat × Nat)} {d : Int} {b : Bool} (hd : diffO s = d) (hf : formO s = h) (hb : decide (kindN d = sz h) = b) (h1 : RRdO w2 g row bs (behindO s)) (hm : Mod (fun i => i = g) w w2) (hw : w2 = w1) :
    RDiffEnd w w1 g row bs s (.returned (.tuple #[.int .i64 d, .bool b])) := by
  subst hw
  refine ⟨?_, h1, hm⟩
  rw [hd, hf, hb]
set_option maxHeartbeats 4000000 in
set_option maxRecDepth 100000 in
theorem rdiff_o (g row : Nat) (bs : List Nat) (s : Option (Nat × Nat)) (w : World) (h : RRdO w g row bs s) :
    Calls Tryd.prog 32 #[.pointer (some ⟨g, 0, none⟩)] w fun e w' => RDiffEnd w w' g row bs s e := by
  have H0 : Hid (RMarkTo w w g row bs s s 4 0) := Lib.hid ⟨rfl, h, Mod.refl _ _⟩
  have Hlt := Lib.hid (bitsO_lt s h.small)
  clear h
  go_enter Tryd.func32, Tryd.ntmps32
  go_upto_block 0 with fail
  go_cut [4] (fun s4 wc => ∃ f : Nat, s4 = .int .i64 (f : Int) ∧ RMarkEnd w wc g row bs s f)
  case first =>
    go_wp2_with fail
    go_loopg [4] 4 (fun l s4 wr => ∃ f s', f + l = 4 ∧ s4 = .int .i64 (f : Int) ∧ RMarkTo w wr g row bs s s' l f)
    case atStart => exact ⟨0, s, rfl, rfl, H0.out⟩
    case round =>
      obtain ⟨f, s', hfl, rfl, hM⟩ := hrel
      have HM := Lib.hid hM; have Hfl := Lib.hid hfl
      clear hM hfl H0
      by_cases hl0 : gk = 0
      · have hf : ¬ f < 4 := by have := Hfl.out; omega
        subst hl0
        go_wp2_with fail
        go_meet
        case rel => exact ⟨f, rfl, HM.out.full⟩
      · obtain ⟨l, rfl⟩ : ∃ l, gk = l + 1 := ⟨gk - 1, by omega⟩
        have hf : f < 4 := by have := Hfl.out; omega
        clear hl0
        go_wp2_with fail
        refine (rget_o g row 1 1 bs s' _ rfl (by decide) HM.out.2.1).mono ?_
        rintro e w1 ⟨rfl, h1, hm⟩
        have H1 := Lib.hid h1; have Hm := Lib.hid hm
        clear h1 hm
        by_cases hb : (getO 1 s').1 = 1
        · have N1 := Lib.hid (HM.out.next hb H1.out Hm.out)
          rw [hb]
          clear hb H1 Hm HM
          go_wp2_with fail
          go_roundg l
          case measure => omega
          case rel => exact ⟨f + 1, _, by have := Hfl.out; omega, by go_num, N1.out⟩
        · have N1 := Lib.hid (HM.out.stop hb H1.out Hm.out)
          have hb2 : ((((getO 1 s').1 : Nat) : Int) == 1) = false := by simp; omega
          clear hb H1 Hm HM
          go_wp2_with fail
          go_meet
          case rel => exact ⟨f, rfl, N1.out⟩
  case rest =>
    obtain ⟨f, rfl, hf, h1, hm⟩ := hcut
    have hf4 := formO_le s
    rw [← hf] at hf4
    have Hf := Lib.hid hf.symm
    have hwA : Hid (Mod (fun _ => False) wc (wc.alloc (.cells #[.int .i64 0, .int .i64 7, .int .i64 9, .int .i64 12, .int .i64 64] 72))) := Lib.hid ((Mod.refl _ _).alloc _)
    have H1 := Lib.hid (h1.mod hwA.out (fun h => h) (fun _ h => h)); have Hm := Lib.hid (hm.trans hwA.out (fun _ _ h => h.elim))
    have hi : f = 0 ∨ f = 1 ∨ f = 2 ∨ f = 3 ∨ f = 4 := by omega
    clear hf h1 hm H0 hwA hf4
    rcases hi with rfl | rfl | rfl | rfl | rfl
    · go_wp2_with fail
      refine (rget_o g row 0 0 bs _ _ rfl (by decide) H1.out).mono ?_
      rintro e w2 ⟨rfl, h2, hm2⟩
      obtain ⟨u, hu⟩ : ∃ u, u = (getO 0 (markO 4 0 s).2).1 := ⟨_, rfl⟩
      rw [← hu]
      have hbit : bitsO s = getO 0 (markO 4 0 s).2 := by unfold bitsO; rw [Hf.out]; rfl
      have hul : u < 2 ^ 0 := by have := Hlt.out; rw [hbit, Hf.out] at this; rw [hu]; exact this
      have hdf : diffO s = sgn 0 u := by unfold diffO; rw [hbit, Hf.out, hu]; rfl
      have Hdf := Lib.hid hdf; have Hul := Lib.hid hul
      have H2 : Hid (RRdO w2 g row bs (behindO s)) := Lib.hid (by unfold behindO; rw [hbit]; exact h2)
      have Hm2 := Lib.hid (Hm.out.trans hm2 (fun _ _ h => h))
      clear hu hbit hdf h2 hm2 H1 Hm
      have hu0 : u = 0 := by omega
      subst hu0
      clear hul
      go_wp2_with fail
      refine (kind_any 0 _).mono ?_
      rintro e w3 ⟨rfl, rfl⟩
      by_cases hk : kindN 0 = 0
      · have hk2 : ((kindN 0 : Int) == 0) = true := by rw [hk]; rfl
        go_wp2_with fail
        go_ret2
        exact rdiff_end (Hdf.out.trans (by decide)) Hf.out (decide_eq_true hk) H2.out Hm2.out rfl
      · have hk2 : ((kindN 0 : Int) == 0) = false := by simp; omega
        go_wp2_with fail
        go_ret2
        exact rdiff_end (Hdf.out.trans (by decide)) Hf.out (decide_eq_false hk) H2.out Hm2.out rfl
    · go_wp2_with fail
      refine (rget_o g row 7 7 bs _ _ rfl (by decide) H1.out).mono ?_
      rintro e w2 ⟨rfl, h2, hm2⟩
      obtain ⟨u, hu⟩ : ∃ u, u = (getO 7 (markO 4 0 s).2).1 := ⟨_, rfl⟩
      rw [← hu]
      have hbit : bitsO s = getO 7 (markO 4 0 s).2 := by unfold bitsO; rw [Hf.out]; rfl
      have hul : u < 2 ^ 7 := by have := Hlt.out; rw [hbit, Hf.out] at this; rw [hu]; exact this
      have hdf : diffO s = sgn 7 u := by unfold diffO; rw [hbit, Hf.out, hu]; rfl
      have Hdf := Lib.hid hdf; have Hul := Lib.hid hul
      have H2 : Hid (RRdO w2 g row bs (behindO s)) := Lib.hid (by unfold behindO; rw [hbit]; exact h2)
      have Hm2 := Lib.hid (Hm.out.trans hm2 (fun _ _ h => h))
      clear hu hbit hdf h2 hm2 H1 Hm
      have hcv : wrap64 (u : Int) = (u : Int) := small_cast hul (by decide)
      have hul2 : u < 128 := hul
      by_cases hbit : 64 ≤ u
      · have hq : (u : Int) / 64 = 1 := by omega
        have Hd : Hid (sgn 7 u = (u : Int) - 128) := Lib.hid (by
          unfold sgn
          rw [if_neg (by decide), if_pos ⟨by decide, by show u / 64 % 2 = 1; omega⟩]
          rfl)
        have hneg : wrap64 ((u : Int) - 128) = (u : Int) - 128 := IntWalk.wrap64_in _ (by omega)
        obtain ⟨d, hd⟩ : ∃ d, (u : Int) - 128 = d := ⟨_, rfl⟩
        have Hd2 : Hid (diffO s = d) := Lib.hid (by rw [Hdf.out, Hd.out, hd])
        rw [hd] at hneg
        clear hul Hd Hdf
        go_wp2_with fail
        refine (kind_any d _).mono ?_
        rintro e w3 ⟨rfl, rfl⟩
        by_cases hk : kindN d = 7
        · have hk2 : ((kindN d : Int) == 7) = true := by rw [hk]; rfl
          go_wp2_with fail
          go_ret2
          exact rdiff_end Hd2.out Hf.out (decide_eq_true hk) H2.out Hm2.out rfl
        · have hk2 : ((kindN d : Int) == 7) = false := by simp; omega
          go_wp2_with fail
          go_ret2
          exact rdiff_end Hd2.out Hf.out (decide_eq_false hk) H2.out Hm2.out rfl

      · have hq : (u : Int) / 64 = 0 := by omega
        have Hd : Hid (diffO s = (u : Int)) := Lib.hid (by
          rw [Hdf.out]
          unfold sgn
          rw [if_neg (by decide), if_neg (fun h => by have h2 : u / 64 % 2 = 1 := h.2; omega)])
        clear hul Hdf
        go_wp2_with fail
        refine (kind_any (u : Int) _).mono ?_
        rintro e w3 ⟨rfl, rfl⟩
        by_cases hk : kindN (u : Int) = 7
        · have hk2 : ((kindN (u : Int) : Int) == 7) = true := by rw [hk]; rfl
          go_wp2_with fail
          go_ret2
          exact rdiff_end Hd.out Hf.out (decide_eq_true hk) H2.out Hm2.out rfl
        · have hk2 : ((kindN (u : Int) : Int) == 7) = false := by simp; omega
          go_wp2_with fail
          go_ret2
          exact rdiff_end Hd.out Hf.out (decide_eq_false hk) H2.out Hm2.out rfl
    · go_wp2_with fail
      refine (rget_o g row 9 9 bs _ _ rfl (by decide) H1.out).mono ?_
      rintro e w2 ⟨rfl, h2, hm2⟩
      obtain ⟨u, hu⟩ : ∃ u, u = (getO 9 (markO 4 0 s).2).1 := ⟨_, rfl⟩
      rw [← hu]
      have hbit : bitsO s = getO 9 (markO 4 0 s).2 := by unfold bitsO; rw [Hf.out]; rfl
      have hul : u < 2 ^ 9 := by have := Hlt.out; rw [hbit, Hf.out] at this; rw [hu]; exact this
      have hdf : diffO s = sgn 9 u := by unfold diffO; rw [hbit, Hf.out, hu]; rfl
      have Hdf := Lib.hid hdf; have Hul := Lib.hid hul
      have H2 : Hid (RRdO w2 g row bs (behindO s)) := Lib.hid (by unfold behindO; rw [hbit]; exact h2)
      have Hm2 := Lib.hid (Hm.out.trans hm2 (fun _ _ h => h))
      clear hu hbit hdf h2 hm2 H1 Hm
      have hcv : wrap64 (u : Int) = (u : Int) := small_cast hul (by decide)
      have hul2 : u < 512 := hul
      by_cases hbit : 256 ≤ u
      · have hq : (u : Int) / 256 = 1 := by omega
        have Hd : Hid (sgn 9 u = (u : Int) - 512) := Lib.hid (by
          unfold sgn
          rw [if_neg (by decide), if_pos ⟨by decide, by show u / 256 % 2 = 1; omega⟩]
          rfl)
        have hneg : wrap64 ((u : Int) - 512) = (u : Int) - 512 := IntWalk.wrap64_in _ (by omega)
        obtain ⟨d, hd⟩ : ∃ d, (u : Int) - 512 = d := ⟨_, rfl⟩
        have Hd2 : Hid (diffO s = d) := Lib.hid (by rw [Hdf.out, Hd.out, hd])
        rw [hd] at hneg
        clear hul Hd Hdf
        go_wp2_with fail
        refine (kind_any d _).mono ?_
        rintro e w3 ⟨rfl, rfl⟩
        by_cases hk : kindN d = 9
        · have hk2 : ((kindN d : Int) == 9) = true := by rw [hk]; rfl
          go_wp2_with fail
          go_ret2
          exact rdiff_end Hd2.out Hf.out (decide_eq_true hk) H2.out Hm2.out rfl
        · have hk2 : ((kindN d : Int) == 9) = false := by simp; omega
          go_wp2_with fail
          go_ret2
          exact rdiff_end Hd2.out Hf.out (decide_eq_false hk) H2.out Hm2.out rfl

      · have hq : (u : Int) / 256 = 0 := by omega
        have Hd : Hid (diffO s = (u : Int)) := Lib.hid (by
          rw [Hdf.out]
          unfold sgn
          rw [if_neg (by decide), if_neg (fun h => by have h2 : u / 256 % 2 = 1 := h.2; omega)])
        clear hul Hdf
        go_wp2_with fail
        refine (kind_any (u : Int) _).mono ?_
        rintro e w3 ⟨rfl, rfl⟩
        by_cases hk : kindN (u : Int) = 9
        · have hk2 : ((kindN (u : Int) : Int) == 9) = true := by rw [hk]; rfl
          go_wp2_with fail
          go_ret2
          exact rdiff_end Hd.out Hf.out (decide_eq_true hk) H2.out Hm2.out rfl
        · have hk2 : ((kindN (u : Int) : Int) == 9) = false := by simp; omega
          go_wp2_with fail
          go_ret2
          exact rdiff_end Hd.out Hf.out (decide_eq_false hk) H2.out Hm2.out rfl
    · go_wp2_with fail
      refine (rget_o g row 12 12 bs _ _ rfl (by decide) H1.out).mono ?_
      rintro e w2 ⟨rfl, h2, hm2⟩
      obtain ⟨u, hu⟩ : ∃ u, u = (getO 12 (markO 4 0 s).2).1 := ⟨_, rfl⟩
      rw [← hu]
      have hbit : bitsO s = getO 12 (markO 4 0 s).2 := by unfold bitsO; rw [Hf.out]; rfl
      have hul : u < 2 ^ 12 := by have := Hlt.out; rw [hbit, Hf.out] at this; rw [hu]; exact this
      have hdf : diffO s = sgn 12 u := by unfold diffO; rw [hbit, Hf.out, hu]; rfl
      have Hdf := Lib.hid hdf; have Hul := Lib.hid hul
      have H2 : Hid (RRdO w2 g row bs (behindO s)) := Lib.hid (by unfold behindO; rw [hbit]; exact h2)
      have Hm2 := Lib.hid (Hm.out.trans hm2 (fun _ _ h => h))
      clear hu hbit hdf h2 hm2 H1 Hm
      have hcv : wrap64 (u : Int) = (u : Int) := small_cast hul (by decide)
      have hul2 : u < 4096 := hul
      by_cases hbit : 2048 ≤ u
      · have hq : (u : Int) / 2048 = 1 := by omega
        have Hd : Hid (sgn 12 u = (u : Int) - 4096) := Lib.hid (by
          unfold sgn
          rw [if_neg (by decide), if_pos ⟨by decide, by show u / 2048 % 2 = 1; omega⟩]
          rfl)
        have hneg : wrap64 ((u : Int) - 4096) = (u : Int) - 4096 := IntWalk.wrap64_in _ (by omega)
        obtain ⟨d, hd⟩ : ∃ d, (u : Int) - 4096 = d := ⟨_, rfl⟩
        have Hd2 : Hid (diffO s = d) := Lib.hid (by rw [Hdf.out, Hd.out, hd])
        rw [hd] at hneg
        clear hul Hd Hdf
        go_wp2_with fail
        refine (kind_any d _).mono ?_
        rintro e w3 ⟨rfl, rfl⟩
        by_cases hk : kindN d = 12
        · have hk2 : ((kindN d : Int) == 12) = true := by rw [hk]; rfl
          go_wp2_with fail
          go_ret2
          exact rdiff_end Hd2.out Hf.out (decide_eq_true hk) H2.out Hm2.out rfl
        · have hk2 : ((kindN d : Int) == 12) = false := by simp; omega
          go_wp2_with fail
          go_ret2
          exact rdiff_end Hd2.out Hf.out (decide_eq_false hk) H2.out Hm2.out rfl

      · have hq : (u : Int) / 2048 = 0 := by omega
        have Hd : Hid (diffO s = (u : Int)) := Lib.hid (by
          rw [Hdf.out]
          unfold sgn
          rw [if_neg (by decide), if_neg (fun h => by have h2 : u / 2048 % 2 = 1 := h.2; omega)])
        clear hul Hdf
        go_wp2_with fail
        refine (kind_any (u : Int) _).mono ?_
        rintro e w3 ⟨rfl, rfl⟩
        by_cases hk : kindN (u : Int) = 12
        · have hk2 : ((kindN (u : Int) : Int) == 12) = true := by rw [hk]; rfl
          go_wp2_with fail
          go_ret2
          exact rdiff_end Hd.out Hf.out (decide_eq_true hk) H2.out Hm2.out rfl
        · have hk2 : ((kindN (u : Int) : Int) == 12) = false := by simp; omega
          go_wp2_with fail
          go_ret2
          exact rdiff_end Hd.out Hf.out (decide_eq_false hk) H2.out Hm2.out rfl
    · go_wp2_with fail
      refine (rget_o g row 64 64 bs _ _ rfl (by decide) H1.out).mono ?_
      rintro e w2 ⟨rfl, h2, hm2⟩
      obtain ⟨u, hu⟩ : ∃ u, u = (getO 64 (markO 4 0 s).2).1 := ⟨_, rfl⟩
      rw [← hu]
      have hbit : bitsO s = getO 64 (markO 4 0 s).2 := by unfold bitsO; rw [Hf.out]; rfl
      have hul : u < 2 ^ 64 := by have := Hlt.out; rw [hbit, Hf.out] at this; rw [hu]; exact this
      have hdf : diffO s = sgn 64 u := by unfold diffO; rw [hbit, Hf.out, hu]; rfl
      have Hdf := Lib.hid hdf; have Hul := Lib.hid hul
      have H2 : Hid (RRdO w2 g row bs (behindO s)) := Lib.hid (by unfold behindO; rw [hbit]; exact h2)
      have Hm2 := Lib.hid (Hm.out.trans hm2 (fun _ _ h => h))
      clear hu hbit hdf h2 hm2 H1 Hm
      have hcv : wrap64 (u : Int) = sg u := by rw [wrap_sg, un_nat (by rw [M64_pow]; exact hul)]
      obtain ⟨d, hd⟩ : ∃ d, d = sg u := ⟨_, rfl⟩
      rw [← hd] at hcv
      have Hd := Lib.hid hd
      clear hul hd
      go_wp2_with fail
      refine (kind_any d _).mono ?_
      rintro e w3 ⟨rfl, rfl⟩
      by_cases hk : kindN d = 64
      · have hk2 : ((kindN d : Int) == 64) = true := by rw [hk]; rfl
        go_wp2_with fail
        go_ret2
        exact rdiff_end (Hdf.out.trans (by rw [Hd.out]; rfl)) Hf.out (decide_eq_true hk) H2.out Hm2.out rfl
      · have hk2 : ((kindN d : Int) == 64) = false := by simp; omega
        go_wp2_with fail
        go_ret2
        exact rdiff_end (Hdf.out.trans (by rw [Hd.out]; rfl)) Hf.out (decide_eq_false hk) H2.out Hm2.out rfl
end Go.Proofs.YtjphlbnbgpjfmaaDoor

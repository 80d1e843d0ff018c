/- A reader in whatever state; a difference is read: mark, get. -/
import Derived.Test.YtjphlbnbgpjfmaaDoorTw
import Derived.BigQuiet
import Derived.Deep.RegionHeldLaw
import Derived.Deep.RegionWith
namespace Go.Proofs.YtjphlbnbgpjfmaaDoor
open Go.RowKit

def RdrO (w : World) (g row : Nat) : Option (Nat × Nat) → Prop
  | some (R, rem) => Rdr w g row R rem true ∧ rem ≤ 8000000
  | none => Rdr w g row 0 0 false
section
variable {w w' : World} {g row : Nat} {s : Option (Nat × Nat)}
theorem RdrO.mod {S : Nat → Prop} (h : RdrO w g row s) (hm : Mod S w w') (h1 : ¬ S g) (h2 : row < w.heap.size → ¬ S row) : RdrO w' g row s := by
  cases s with
  | none => exact Rdr.mod h hm h1 h2
  | some p => exact ⟨Rdr.mod h.1 hm h1 h2, h.2⟩
theorem RdrO.lt (h : RdrO w g row s) : g < w.heap.size := by
  cases s with
  | none => exact Rdr.lt h
  | some p => exact Rdr.lt h.1
theorem RdrO.ne (h : RdrO w g row s) : row ≠ g := by
  cases s with
  | none => obtain ⟨A, n, c, bs, used, _, _, _, h, _⟩ := h; exact h
  | some p => obtain ⟨⟨A, n, c, bs, used, _, _, _, h, _⟩, _⟩ := h; exact h
end
theorem ok_o (g row : Nat) (s : Option (Nat × Nat)) (w : World) (h : RdrO w g row s) :
    Calls Tryd.prog 26 #[.pointer (some ⟨g, 0, none⟩)] w fun e w' => e = .returned (.bool s.isSome) ∧ w = w' := by
  cases s with
  | none => exact (ok_any g row 0 0 false w h).mono fun _ _ ⟨h1, h2⟩ => ⟨h1, h2⟩
  | some p => exact (ok_any g row p.1 p.2 true w h.1).mono fun _ _ ⟨h1, h2⟩ => ⟨h1, h2⟩
theorem get_o (g row k : Nat) (N : Int) (s : Option (Nat × Nat)) (w : World) (hN : N = (k : Int)) (hk : k ≤ 64) (h : RdrO w g row s) :
    Calls Tryd.prog 21 #[.pointer (some ⟨g, 0, none⟩), .int .i64 N] w fun e w' => e = .returned (.int .u64 ((getO k s).1 : Int)) ∧ RdrO w' g row (getO k s).2 ∧ Mod (fun i => i = g) w w' := by
  subst hN
  cases s with
  | none =>
    refine (get_ans (k : Int) k ⟨by omega, by omega⟩ (by omega) h (by omega)).mono ?_
    rintro e w' ⟨rfl, h1, h2⟩
    exact ⟨rfl, h1, h2⟩
  | some p =>
    obtain ⟨R, rem⟩ := p
    refine (get_ans (k : Int) k ⟨by omega, by omega⟩ (by omega) h.1 h.2).mono ?_
    rintro e w' ⟨rfl, h1, h2⟩
    by_cases hkr : k ≤ rem
    · rw [ans_yes hkr] at h1 ⊢
      have e1 : getO k (some (R, rem)) = (R / 2 ^ (rem - k), some (R % 2 ^ (rem - k), rem - k)) := if_pos hkr
      rw [e1]
      exact ⟨rfl, ⟨h1, by have := h.2; show rem - k ≤ 8000000; omega⟩, h2⟩
    · rw [ans_no (fun h => hkr h.2)] at h1 ⊢
      have e1 : getO k (some (R, rem)) = (0, none) := if_neg hkr
      rw [e1]
      exact ⟨rfl, h1, h2⟩

def MarkTo (w wr : World) (g row : Nat) (s s' : Option (Nat × Nat)) (l f : Nat) : Prop := markO l f s' = markO 4 0 s ∧ RdrO wr g row s' ∧ Mod (fun i => i = g) w wr
def MarkEnd (w wr : World) (g row : Nat) (s : Option (Nat × Nat)) (e : Ending) : Prop := e = .returned (.int .i64 (formO s : Nat)) ∧ RdrO wr g row (markO 4 0 s).2 ∧ Mod (fun i => i = g) w wr
theorem MarkTo.stop {w wr w1 : World} {g row : Nat} {s s' : Option (Nat × Nat)} {l f : Nat} (h : MarkTo w wr g row s s' (l + 1) f) (hne : ¬ (getO 1 s').1 = 1) (h1 : RdrO w1 g row (getO 1 s').2) (hm : Mod (fun i => i = g) wr w1) :
    MarkEnd w w1 g row s (.returned (.int .i64 (f : Nat))) := by
  have e : markO (l + 1) f s' = (f, (getO 1 s').2) := by
    show (if (getO 1 s').1 = 1 then markO l (f + 1) (getO 1 s').2 else (f, (getO 1 s').2)) = _
    rw [if_neg hne]
  have e2 := h.1
  rw [e] at e2
  refine ⟨?_, ?_, h.2.2.trans hm (fun _ _ h => h)⟩
  · unfold formO; rw [← e2]
  · rw [← e2]; exact h1
theorem MarkTo.next {w wr w1 : World} {g row : Nat} {s s' : Option (Nat × Nat)} {l f : Nat} (h : MarkTo w wr g row s s' (l + 1) f) (hne : (getO 1 s').1 = 1) (h1 : RdrO w1 g row (getO 1 s').2) (hm : Mod (fun i => i = g) wr w1) :
    MarkTo w w1 g row s (getO 1 s').2 l (f + 1) := by
  have e : markO (l + 1) f s' = markO l (f + 1) (getO 1 s').2 := by
    show (if (getO 1 s').1 = 1 then markO l (f + 1) (getO 1 s').2 else (f, (getO 1 s').2)) = _
    rw [if_pos hne]
  exact ⟨e ▸ h.1, h1, h.2.2.trans hm (fun _ _ h => h)⟩
theorem mark_o (g row : Nat) (s : Option (Nat × Nat)) (w : World) (h : RdrO w g row s) :
    Calls Tryd.prog 34 #[.pointer (some ⟨g, 0, none⟩)] w fun e w' => MarkEnd w w' g row s e := by
  have H0 : Hid (MarkTo w w g row s s 4 0) := Lib.hid ⟨rfl, h, Mod.refl _ _⟩
  clear h
  go_enter Tryd.func34, Tryd.ntmps34
  go_wp2_with fail
  go_loopg [3] 4 (fun l s3 wr => ∃ f s', f + l = 4 ∧ s3 = .int .i64 (f : Int) ∧ MarkTo w wr g row s s' l f)
  case atStart => exact ⟨0, s, rfl, rfl, H0.out⟩
  case round =>
    obtain ⟨f, s', hfl, rfl, hM⟩ := hrel
    have HM := Lib.hid hM; have Hfl := Lib.hid hfl
    clear hM hfl H0
    by_cases hl0 : gk = 0
    · have hf : ¬ f < 4 := by have := Hfl.out; omega
      subst hl0
      go_wp2_with fail
      go_ret
      have hM := HM.out
      have e2 : (f, s') = markO 4 0 s := hM.1
      refine ⟨?_, ?_, hM.2.2⟩
      · unfold formO; rw [← e2]; rfl
      · rw [← e2]; exact hM.2.1
    · obtain ⟨l, rfl⟩ : ∃ l, gk = l + 1 := ⟨gk - 1, by omega⟩
      have hf : f < 4 := by have := Hfl.out; omega
      clear hl0
      go_wp2_with fail
      refine (get_o g row 1 1 s' _ rfl (by decide) HM.out.2.1).mono ?_
      rintro e w1 ⟨rfl, h1, hm⟩
      have H1 := Lib.hid h1; have Hm := Lib.hid hm
      clear h1 hm
      by_cases hb : (getO 1 s').1 = 1
      · have N1 := Lib.hid (HM.out.next hb H1.out Hm.out)
        rw [hb]
        clear hb H1 Hm HM
        go_wp2_with fail
        go_roundg l
        case measure => omega
        case rel => exact ⟨f + 1, _, by have := Hfl.out; omega, by go_num, N1.out⟩
      · have N1 := Lib.hid (HM.out.stop hb H1.out Hm.out)
        have hb2 : ((((getO 1 s').1 : Nat) : Int) == 1) = false := by simp; omega
        clear hb H1 Hm HM
        go_wp2_with fail
        go_ret
        exact N1.out

theorem sz_at {w : World} (hw : Wid w) {k : Nat} (hk : k ≤ 4) : w.cell? ⟨0, k, none⟩ = some (.int .i64 (sz k : Nat)) := hw.2 k (by omega)
theorem bitsO_lt (s : Option (Nat × Nat)) (hs : ∀ R rem, s = some (R, rem) → R < 2 ^ rem) : (bitsO s).1 < 2 ^ sz (formO s) := by
  have hp := Nat.two_pow_pos (sz (formO s))
  have key : ∀ (s' : Option (Nat × Nat)) (k : Nat), (∀ R rem, s' = some (R, rem) → R < 2 ^ rem) → (getO k s').1 < 2 ^ k ∧ ∀ R rem, (getO k s').2 = some (R, rem) → R < 2 ^ rem := by
    intro s' k h
    cases s' with
    | none => exact ⟨Nat.two_pow_pos k, fun _ _ h => by cases h⟩
    | some p =>
      obtain ⟨R, rem⟩ := p
      by_cases hk : k ≤ rem
      · have e : getO k (some (R, rem)) = (R / 2 ^ (rem - k), some (R % 2 ^ (rem - k), rem - k)) := if_pos hk
        rw [e]
        refine ⟨?_, fun R' rem' h' => ?_⟩
        · show R / 2 ^ (rem - k) < 2 ^ k
          rw [Nat.div_lt_iff_lt_mul (Nat.two_pow_pos _), ← Nat.pow_add, show k + (rem - k) = rem by omega]
          exact h R rem rfl
        · injection h' with h'
          injection h' with h1 h2
          subst h1 h2
          exact Nat.mod_lt _ (Nat.two_pow_pos _)
      · have e : getO k (some (R, rem)) = (0, none) := if_neg hk
        rw [e]
        exact ⟨Nat.two_pow_pos k, fun _ _ h => by cases h⟩
  have mk : ∀ (f h : Nat) (s' : Option (Nat × Nat)), (∀ R rem, s' = some (R, rem) → R < 2 ^ rem) → ∀ R rem, (markO f h s').2 = some (R, rem) → R < 2 ^ rem := by
    intro f
    induction f with
    | zero => exact fun h s' hs => hs
    | succ f ih =>
      intro h s' hs
      have e : markO (f + 1) h s' = if (getO 1 s').1 = 1 then markO f (h + 1) (getO 1 s').2 else (h, (getO 1 s').2) := rfl
      rw [e]
      by_cases hb : (getO 1 s').1 = 1
      · rw [if_pos hb]; exact ih _ _ (key s' 1 hs).2
      · rw [if_neg hb]; exact (key s' 1 hs).2
  exact (key _ _ (mk 4 0 s hs)).1
theorem RdrO.small {w : World} {g row : Nat} {s : Option (Nat × Nat)} (h : RdrO w g row s) : ∀ R rem, s = some (R, rem) → R < 2 ^ rem := by
  rintro R rem rfl
  exact h.1.small

def GetEnd (w wr : World) (g row : Nat) (s : Option (Nat × Nat)) (e : Ending) : Prop :=
  e = .returned (.tuple #[.int .i64 (diffO s), .bool ((behindO s).isSome && decide (formO s = hd (diffO s)))]) ∧ RdrO wr g row (behindO s) ∧ Mod (fun i => i = g) w wr
theorem diffO_fits (s : Option (Nat × Nat)) (hs : ∀ R rem, s = some (R, rem) → R < 2 ^ rem) : Fits (diffO s) := by
  have hb := bitsO_lt s hs
  have hf := formO_le s
  have hh : (H63 : Int) = 9223372036854775808 := rfl
  unfold diffO
  generalize (bitsO s).1 = u at *
  have hk' : formO s = 0 ∨ formO s = 1 ∨ formO s = 2 ∨ formO s = 3 ∨ formO s = 4 := by omega
  rcases hk' with e | e | e | e | e <;> rw [e] at hb ⊢
  · have hb' : u < 2 ^ 0 := hb
    have : u = 0 := by omega
    subst this
    exact ⟨by decide, by decide⟩
  · have := sgn_range (n := 7) (by decide) (by decide) hb
    exact ⟨by show -(H63 : Int) ≤ sgn 7 u; omega, by show sgn 7 u < (H63 : Int); omega⟩
  · have := sgn_range (n := 9) (by decide) (by decide) hb
    exact ⟨by show -(H63 : Int) ≤ sgn 9 u; omega, by show sgn 9 u < (H63 : Int); omega⟩
  · have := sgn_range (n := 12) (by decide) (by decide) hb
    exact ⟨by show -(H63 : Int) ≤ sgn 12 u; omega, by show sgn 12 u < (H63 : Int); omega⟩
  · exact sg_fits (by rw [M64_pow]; exact hb)
set_option maxHeartbeats 1000000 in
theorem dget_o (g row : Nat) (s : Option (Nat × Nat)) (w : World) (h : RdrO w g row s) (hw : Wid w) (hg : g ≠ 0) :
    Calls Tryd.prog 25 #[.pointer (some ⟨g, 0, none⟩)] w fun e w' => GetEnd w w' g row s e := by
  have hf := formO_le s
  have hlt := bitsO_lt s h.small
  have hfit := Lib.hid (diffO_fits s h.small)
  have H := Lib.hid h; have Hw := Lib.hid hw; have Hg := Lib.hid hg; have Hlt := Lib.hid hlt
  clear h hw hg hlt
  go_enter Tryd.func25, Tryd.ntmps25
  go_wp2_with fail
  refine (mark_o g row s _ H.out).mono ?_
  rintro e w1 ⟨rfl, h1, hm1⟩
  have Hw1 := Lib.hid (Hw.out.mod hm1 (fun e => Hg.out e.symm))
  have hc1 := sz_at Hw1.out hf
  have H1 := Lib.hid h1; have Hm1 := Lib.hid hm1
  clear h1 hm1
  have h64 := sz_le (formO s)
  have hf5 : (formO s : Int) < 5 := by omega
  have hf0 : (0 : Int) ≤ formO s := by omega
  go_upto_region 2 with fail
  go_cut [5] (fun s5 wc => s5 = .int .i64 (diffO s) ∧ RdrO wc g row (behindO s) ∧ Mod (fun i => i = g) w wc)
  case first =>
    have H1d : Hid (RdrO w1.drew g row (markO 4 0 s).2) := Lib.hid (H1.out.mod (Mod.refl (fun _ => False) w1).drew (fun h => h) (fun _ h => h))
    have Hw1d : Hid (Wid w1.drew) := Lib.hid (Hw1.out.mod (Mod.refl (fun _ => False) w1).drew (fun h => h))
    have Hm1d : Hid (Mod (fun i => i = g) w w1.drew) := Lib.hid Hm1.out.drew
    have hr : Hid (sgn (sz (formO s)) ((bitsO s).1 % 2 ^ sz (formO s)) = diffO s) := Lib.hid (by rw [Nat.mod_eq_of_lt Hlt.out]; rfl)
    have hl64 : Hid (Lt64 (bitsO s).1) := Lib.hid (by
      have h1 := Hlt.out
      have h2 := Nat.pow_le_pow_right (n := 2) (by omega) h64
      unfold Lt64
      have h3 : (2 : Nat) ^ 64 = 18446744073709551616 := by decide
      omega)
    have hcd : w1.drew.cell? ⟨0, formO s, none⟩ = some (.int .i64 (sz (formO s) : Nat)) := hc1
    clear H1 Hw1 Hm1
    first
      | (go_region_held_law (fun w' => w'.cell? ⟨0, formO s, none⟩ = some (.int .i64 (sz (formO s) : Nat))) (assumption)
          (first
            | (go_at_call 21; refine (get_o g row (sz (formO s)) _ (markO 4 0 s).2 _ rfl h64 H1d.out).mono ?_; rintro e w2 ⟨rfl, h2, hm2⟩; have hc2 := sz_at (Hw1d.out.mod hm2 (fun e => Hg.out e.symm)) hf; have H2 : Hid (RdrO w2 g row (behindO s)) := Lib.hid h2; have Hm2 := Lib.hid (Hm1d.out.trans hm2 (fun _ _ h => h)); clear h2 hm2)
            | (go_at_call 35; refine (signed_is (bitsO s).1 (sz (formO s)) _ (diffO s) _ rfl hl64.out h64 hr.out).mono ?_; rintro e w3 ⟨rfl, rfl⟩)))
      | fail "held"
    all_goals
      go_wp2
      go_meet
      exact ⟨rfl, H2.out, Hm2.out⟩
  case rest =>
    obtain ⟨rfl, h2, hm2⟩ := hcut
    have H2 := Lib.hid h2; have Hm2 := Lib.hid hm2
    have Hw2 := Lib.hid (Hw.out.mod hm2 (fun e => Hg.out e.symm))
    clear h2 hm2 H1 Hm1 Hw1 hc1
    go_wp2_with fail
    refine (ok_o g row (behindO s) _ H2.out).mono ?_
    rintro e w3 ⟨rfl, rfl⟩
    by_cases hs : (behindO s).isSome = true
    · rw [hs]
      go_wp2_with fail
      refine (shortest_any (diffO s) _ hfit.out Hw2.out).mono ?_
      rintro e w4 ⟨rfl, rfl⟩
      by_cases he : formO s = hd (diffO s)
      · have he2 : ((formO s : Int) == (hd (diffO s) : Int)) = true := by rw [he]; simp
        go_wp2_with fail
        go_ret2
        refine ⟨?_, H2.out, Hm2.out⟩
        rw [hs, decide_eq_true he]
        rfl
      · have he2 : ((formO s : Int) == (hd (diffO s) : Int)) = false := by simp; omega
        go_wp2_with fail
        go_ret2
        refine ⟨?_, H2.out, Hm2.out⟩
        rw [hs, decide_eq_false he]
        rfl
    · have hs2 : (behindO s).isSome = false := by simpa using hs
      rw [hs2]
      go_wp2_with fail
      go_ret2
      refine ⟨?_, H2.out, Hm2.out⟩
      rw [hs2]
      rfl
end Go.Proofs.YtjphlbnbgpjfmaaDoor

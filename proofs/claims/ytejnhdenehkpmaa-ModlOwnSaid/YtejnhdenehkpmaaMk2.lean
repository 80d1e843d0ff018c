/- The texts Bit0, Bitp, Bitq, Bitg, Bitw, Refw, Refb, Two, Refr, Play0, Conv, All4, Go, Xs, Xo, Sx, Yt, Yx, Oa, Ob, Of, Cx, Cy, Kr, Ja, Bq, Jc, Te, Tw, Bok, Gok, Tg, Gw, Tp, Tr, Kp, Jd, Pn, Kt, De, Pe, Wz, Wp, We, Kv, Kw, Ke, Ku, Pp, Dr, Pr, Wg, Wd, Ky, Kz, Kd, Jf, Za, Am, Jb, Aa, Og, Oh, Oi, Oc, Rkg, Os, Ks, Ou, Ov, Yy, Yg, Mdh, Ozp, Ozr, Ozq, Ozs, one behind the other. -/
import Derived.Test.YtejnhdenehkpmaaMk1
import Derived.Test.YtejnhdenehkpmaaRows
namespace Go.Proofs.Ytejnhdenehkpmaa
open Go.RowKit

end Go.Proofs.Ytejnhdenehkpmaa

namespace Go.Proofs.Ytejnhdenehkpmaa
open Go.RowKit

def RowTo (w : World) (row row' : Option Nat) : Prop := row' = row ∨ ∃ r, row' = some r ∧ w.heap.size ≤ r

theorem RowTo.trans {w : World} {row row' row2 : Option Nat} {B : Nat} (h : RowTo w row row') (hB : w.heap.size ≤ B) (h2 : row2 = row' ∨ ∃ r, row2 = some r ∧ B ≤ r) : RowTo w row row2 := by
  rcases h2 with rfl | ⟨r, rfl, hr⟩
  · exact h
  · exact .inr ⟨r, rfl, by omega⟩
theorem RowTo.in_ {w : World} {row row' : Option Nat} (h : RowTo w row row') {k : Nat} (hk : row' = some k) (hlt : k < w.heap.size) : row = some k := by
  rcases h with rfl | ⟨r, rfl, hr⟩
  · exact hk
  · injection hk with hk; omega

end Go.Proofs.Ytejnhdenehkpmaa

namespace Go.Proofs.Ytejnhdenehkpmaa
open Go.RowKit

/-- What a call answers that makes a row of its own. -/
def NewRow (w w' : World) (v : Value) (n : Nat) (xs : List Value) : Prop :=
  w'.ownsRow 0 5 1 v n xs ∧ Mod (fun _ => False) w w' ∧ ((v.ownBlock = none) ∨ ∃ r, v.ownBlock = some r ∧ w.heap.size ≤ r)

def Packed (bs : List Nat) (N len : Nat) : Prop := lt256 bs ∧ ∃ free, free < 8 ∧ len + free = 8 * bs.length ∧ val bs = N * 2 ^ free

theorem NewRow.form {w w1 : World} {v : Value} {n : Nat} {bs : List Nat} (h : NewRow w w1 v n (cells8 bs)) :
    ∃ A c row, v = .slice A n c ∧ n ≤ c ∧ (A = none → c = 0) ∧ w.heap.size ≤ row ∧ row ≠ w1.heap.size ∧ Sees w1 row A n (cells8 bs) := by
  obtain ⟨hown, hmod, hrow⟩ := h
  rcases hown.2 with ⟨h1, h2⟩ | ⟨g', cap, cur, h1, _, hg, hnc, _⟩
  · subst h2
    refine ⟨none, 0, w1.heap.size + 1, h1, Nat.le_refl _, fun _ => rfl, by have := hmod.size; omega, by omega, ⟨?_, fun h => by omega⟩⟩
    simpa using hown.1
  · have hl := (Array.getElem?_eq_some_iff.1 hg).1
    refine ⟨_, cap, g', h1, hnc, (fun h => by cases h), ?_, by omega, Sees.of_own (h1 ▸ hown) (fun _ => rfl)⟩
    rw [h1] at hrow
    rcases hrow with hr | ⟨r, hr, hle⟩
    · cases hr
    · simp [Value.ownBlock] at hr
      omega

end Go.Proofs.Ytejnhdenehkpmaa

namespace Go.Proofs.Ytejnhdenehkpmaa
open Go.RowKit

end Go.Proofs.Ytejnhdenehkpmaa

namespace Go.Proofs.Ytejnhdenehkpmaa
open Go.RowKit

end Go.Proofs.Ytejnhdenehkpmaa

namespace Go.Proofs.Ytejnhdenehkpmaa
open Go.RowKit

end Go.Proofs.Ytejnhdenehkpmaa

namespace Go.Proofs.Ytejnhdenehkpmaa
open Go.RowKit

end Go.Proofs.Ytejnhdenehkpmaa

/- Two writers that share nothing. -/
namespace Go.Proofs.Ytejnhdenehkpmaa
open Go.RowKit

def Apart (g : Nat) (row : Option Nat) (g2 : Nat) (row2 : Option Nat) : Prop := g ≠ g2 ∧ row ≠ some g2 ∧ row2 ≠ some g ∧ ∀ k, row = some k → row2 ≠ some k
theorem Apart.symm {g g2 : Nat} {row row2 : Option Nat} (h : Apart g row g2 row2) : Apart g2 row2 g row := ⟨fun e => h.1 e.symm, h.2.2.1, h.2.1, fun k hk e => h.2.2.2 k e hk⟩
section
variable {w w1 : World} {row n : Nat} {A : Option Addr} {xs : List Value}
end
theorem RowTo.low {B : Nat} {w : World} {row row' : Option Nat} (h : RowTo w row row') (hr : ∀ k, row = some k → B ≤ k) (hB : B ≤ w.heap.size) : ∀ k, row' = some k → B ≤ k := by
  intro k hk
  rcases h with rfl | ⟨r, rfl, hr'⟩
  · exact hr k hk
  · injection hk with hk; omega

/-- The call's own blocks alone have turned, a writer's that it made among them. -/
theorem Mod.put {w w' w0 : World} {g : Nat} {row : Option Nat} (h : Mod (fun _ => False) w0 w) (hm : Mod (fun i => i = g ∨ row = some i) w w') (hg : w0.heap.size ≤ g) (hr : ∀ k, row = some k → w0.heap.size ≤ k) : Mod (fun _ => False) w0 w' :=
  h.trans hm (fun i hi h => h.elim (fun e => by omega) (fun e => by have := hr i e; omega))
section
variable {w0 w w' : World} {a Na la b Nb lb : Nat} {ra rb : Option Nat}
end
end Go.Proofs.Ytejnhdenehkpmaa

namespace Go.Proofs.Ytejnhdenehkpmaa
open Go.RowKit

end Go.Proofs.Ytejnhdenehkpmaa

/- Two readers of one row of bytes: the project's, and the document's own. -/
namespace Go.Proofs.Ytejnhdenehkpmaa
open Go.RowKit

section
variable {w0 w w' : World} {g rg h rh : Nat} {bs : List Nat} {R rem R' rem' : Nat} {ok ok' : Bool}
end
end Go.Proofs.Ytejnhdenehkpmaa

namespace Go.Proofs.Ytejnhdenehkpmaa
open Go.RowKit

end Go.Proofs.Ytejnhdenehkpmaa

/- All that layer 4 stands on, together. -/

/- Readers in whatever state, the project's and the document's own: what is left, or nothing. -/
namespace Go.Proofs.Ytejnhdenehkpmaa
open Go.RowKit

/-- A reader's state: what is left, or nothing. -/
def getO (k : Nat) : Option (Nat × Nat) → Nat × Option (Nat × Nat)
  | some (R, rem) => if k ≤ rem then (R / 2 ^ (rem - k), some (R % 2 ^ (rem - k), rem - k)) else (0, none)
  | none => (0, none)
theorem getO_take (k R rem : Nat) : getO k (some (R, rem)) = match takeB k R rem with | some (b, R1, rem1) => (b, some (R1, rem1)) | none => (0, none) := by
  unfold getO takeB
  by_cases h : k ≤ rem
  · simp [h]
  · simp [h]
theorem getO_lt {R rem : Nat} (h : R < 2 ^ rem) (k : Nat) : (getO k (some (R, rem))).1 < 2 ^ k := by
  unfold getO
  by_cases hk : k ≤ rem
  · simp only [hk, if_true]
    rw [Nat.div_lt_iff_lt_mul (Nat.two_pow_pos _), ← Nat.pow_add, show k + (rem - k) = rem by omega]
    exact h
  · simp only [hk, if_false]
    exact Nat.two_pow_pos k
section
variable {w w' : World} {g row : Nat} {s : Option (Nat × Nat)}
end
section
variable {w w' : World} {g row : Nat} {bs : List Nat} {s : Option (Nat × Nat)}
end
end Go.Proofs.Ytejnhdenehkpmaa

/- Plain mathematics of values by what turns, the second part: a row that is read step by step, and told again, is the same row. -/
namespace Go.Proofs.Ytejnhdenehkpmaa

/-- Fields were taken off what a reader had. -/
def Took (fs : List (Nat × Nat)) (R rem R1 rem1 : Nat) : Prop := R = fnum fs * 2 ^ rem1 + R1 ∧ R1 < 2 ^ rem1 ∧ rem = flen fs + rem1
theorem Took.nil {R rem : Nat} (h : R < 2 ^ rem) : Took [] R rem R rem := ⟨by show R = 0 * _ + R; omega, h, by show rem = 0 + rem; omega⟩
theorem Took.app {fs gs : List (Nat × Nat)} {R rem R1 rem1 R2 rem2 : Nat} (h : Took fs R rem R1 rem1) (h2 : Took gs R1 rem1 R2 rem2) : Took (fs ++ gs) R rem R2 rem2 := by
  obtain ⟨a1, _, a3⟩ := h
  obtain ⟨b1, b2, b3⟩ := h2
  refine ⟨?_, b2, by rw [flen_app, a3, b3, Nat.add_assoc]⟩
  rw [a1, b1, b3, fnum_app, Nat.pow_add, Nat.add_mul, Nat.mul_assoc, Nat.add_assoc]
theorem took_take {k R rem v R1 rem1 : Nat} (h : takeB k R rem = some (v, R1, rem1)) (hR : R < 2 ^ rem) : Took [(v, k)] R rem R1 rem1 ∧ v < 2 ^ k := by
  obtain ⟨h1, h2, h3⟩ := takeB_some h hR
  unfold takeB at h
  split at h
  · rename_i hk
    injection h with h
    injection h with e1 h
    injection h with e2 e3
    subst e3
    have hv : v < 2 ^ k := h1
    refine ⟨⟨?_, h2, by show rem = (k + 0) + (rem - k); omega⟩, hv⟩
    show R = (v % 2 ^ k * 2 ^ 0 + 0) * 2 ^ (rem - k) + R1
    rw [Nat.mod_eq_of_lt hv, Nat.pow_zero, Nat.mul_one, Nat.add_zero, ← e1, ← e2, Nat.mul_comm, Nat.div_add_mod]
  · cases h
theorem Took.snoc {fs : List (Nat × Nat)} {R rem R1 rem1 k v R2 rem2 : Nat} (h : Took fs R rem R1 rem1) (ht : takeB k R1 rem1 = some (v, R2, rem2)) : Took (fs ++ [(v, k)]) R rem R2 rem2 := h.app (took_take ht h.2.1).1
theorem Took.same {fs gs : List (Nat × Nat)} {R rem R1 rem1 : Nat} (h : Took fs R rem R1 rem1) : (flen gs + rem1 = rem ∧ fnum gs = R / 2 ^ rem1) ↔ (flen gs = flen fs ∧ fnum gs = fnum fs) := by
  obtain ⟨a1, a2, a3⟩ := h
  have e : R / 2 ^ rem1 = fnum fs := by rw [a1, Nat.mul_comm, Nat.mul_add_div (Nat.two_pow_pos _), Nat.div_eq_of_lt a2, Nat.add_zero]
  rw [e]
  constructor
  · rintro ⟨h1, h2⟩; exact ⟨by omega, h2⟩
  · rintro ⟨h1, h2⟩; exact ⟨by omega, h2⟩
theorem Took.to {fs gs : List (Nat × Nat)} {R rem R1 rem1 : Nat} (h : Took fs R rem R1 rem1) (h1 : flen gs = flen fs) (h2 : fnum gs = fnum fs) : Took gs R rem R1 rem1 := ⟨by rw [h2]; exact h.1, h.2.1, by rw [h1]; exact h.2.2⟩

/-- What a turn's fields were. -/
def Shape (win : Option (Nat × Nat)) (x : Nat) (win' : Option (Nat × Nat)) (fs : List (Nat × Nat)) : Prop :=
  (fs = [(0, 1)] ∧ x = 0 ∧ win' = win) ∨
  (∃ a b y, win = some (a, b) ∧ fs = [(1, 1), (0, 1), (y, 64 - a - b)] ∧ y < 2 ^ (64 - a - b) ∧ x = y * 2 ^ b ∧ win' = win) ∨
  (∃ a m y, a < 32 ∧ m < 64 ∧ a + (m + 1) ≤ 64 ∧ fs = [(1, 1), (1, 1), (a, 5), (m, 6), (y, m + 1)] ∧ y < 2 ^ (m + 1) ∧ x = y * 2 ^ (64 - a - (m + 1)) ∧ win' = some (a, 64 - a - (m + 1)))
theorem Shape.lt {win win' : Option (Nat × Nat)} {x : Nat} {fs : List (Nat × Nat)} (h : Shape win x win' fs) (hw : WinOk win) : x < 2 ^ 64 := by
  rcases h with ⟨_, rfl, _⟩ | ⟨a, b, y, rfl, _, hy, rfl, _⟩ | ⟨a, m, y, ha, hm, hab, _, hy, rfl, _⟩
  · decide
  · obtain ⟨w1, w2⟩ := hw
    have := Nat.mul_lt_mul_of_pos_right hy (Nat.two_pow_pos b)
    rw [← Nat.pow_add] at this
    exact Nat.lt_of_lt_of_le this (Nat.pow_le_pow_right (by omega) (by omega))
  · have := Nat.mul_lt_mul_of_pos_right hy (Nat.two_pow_pos (64 - a - (m + 1)))
    rw [← Nat.pow_add] at this
    exact Nat.lt_of_lt_of_le this (Nat.pow_le_pow_right (by omega) (by omega))
theorem Shape.ok {win win' : Option (Nat × Nat)} {x : Nat} {fs : List (Nat × Nat)} (h : Shape win x win' fs) (hw : WinOk win) : WinOk win' := by
  rcases h with ⟨_, _, rfl⟩ | ⟨a, b, y, _, _, _, _, rfl⟩ | ⟨a, m, y, ha, hm, hab, _, _, _, rfl⟩
  · exact hw
  · exact hw
  · exact ⟨by omega, by omega⟩
/-- A turn is read, and told again in these bits. -/
def stX (win : Option (Nat × Nat)) (R rem : Nat) : Option (Nat × Option (Nat × Nat) × Nat × Nat) :=
  match rdX win R rem with
  | none => none
  | some (x, _, R1, rem1) => if flen (fieldsX win x) + rem1 = rem ∧ fnum (fieldsX win x) = R / 2 ^ rem1 then some (x, winX win x, R1, rem1) else none
end Go.Proofs.Ytejnhdenehkpmaa

/- A turn is read, as states of a reader: loosely, and as it is told; what values cost. -/
namespace Go.Proofs.Ytejnhdenehkpmaa

def SmallO (s : Option (Nat × Nat)) : Prop := ∀ R rem, s = some (R, rem) → R < 2 ^ rem
theorem getO_some {k R1 rem1 : Nat} {s : Option (Nat × Nat)} (h : (getO k s).2 = some (R1, rem1)) : ∃ R rem, s = some (R, rem) ∧ takeB k R rem = some ((getO k s).1, R1, rem1) := by
  cases s with
  | none => cases h
  | some p =>
    obtain ⟨R, rem⟩ := p
    refine ⟨R, rem, rfl, ?_⟩
    rw [getO_take] at h ⊢
    cases ht : takeB k R rem with
    | none => rw [ht] at h; cases h
    | some q =>
      obtain ⟨v, R2, rem2⟩ := q
      rw [ht] at h
      have h2 : some (R2, rem2) = some (R1, rem1) := h
      injection h2 with h2
      injection h2 with e1 e2
      subst e1 e2
      rfl
theorem getO_bad {k R rem : Nat} (h : (getO k (some (R, rem))).2 = none) : takeB k R rem = none := by
  rw [getO_take] at h
  cases ht : takeB k R rem with
  | none => rfl
  | some q => rw [ht] at h; cases h
theorem getO_bad0 {k : Nat} {s : Option (Nat × Nat)} (h : (getO k s).2 = none) : (getO k s).1 = 0 := by
  cases s with
  | none => rfl
  | some p =>
    obtain ⟨R, rem⟩ := p
    have := getO_bad h
    rw [getO_take, this]
theorem SmallO.get {s : Option (Nat × Nat)} (h : SmallO s) (k : Nat) : SmallO (getO k s).2 := by
  intro R1 rem1 h1
  obtain ⟨R, rem, rfl, ht⟩ := getO_some h1
  exact (took_take ht (h _ _ rfl)).1.2.1
theorem SmallO.lt {s : Option (Nat × Nat)} (h : SmallO s) (k : Nat) : (getO k s).1 < 2 ^ k := by
  cases s with
  | none => exact Nat.two_pow_pos k
  | some p => exact getO_lt (h _ _ rfl) k
def rdO (win : Option (Nat × Nat)) : Option (Nat × Nat) → Option (Nat × Option (Nat × Nat) × Nat × Nat)
  | none => none
  | some (R, rem) => rdX win R rem
def stO (win : Option (Nat × Nat)) : Option (Nat × Nat) → Option (Nat × Option (Nat × Nat) × Nat × Nat)
  | none => none
  | some (R, rem) => stX win R rem
/-- Fields were taken off a state. -/
def TookO (fs : List (Nat × Nat)) (s : Option (Nat × Nat)) (R1 rem1 : Nat) : Prop := ∃ R rem, s = some (R, rem) ∧ Took fs R rem R1 rem1
theorem TookO.snoc {k R1 rem1 : Nat} {fs : List (Nat × Nat)} {s s' : Option (Nat × Nat)} (h : (getO k s').2 = some (R1, rem1)) (h0 : ∀ R2 rem2, s' = some (R2, rem2) → TookO fs s R2 rem2) : TookO (fs ++ [((getO k s').1, k)]) s R1 rem1 := by
  obtain ⟨R2, rem2, e, ht⟩ := getO_some h
  obtain ⟨R, rem, e0, ht0⟩ := h0 R2 rem2 e
  exact ⟨R, rem, e0, ht0.snoc ht⟩
theorem stO_none {win : Option (Nat × Nat)} {s : Option (Nat × Nat)} (hr : rdO win s = none) : stO win s = none := by
  cases s with
  | none => rfl
  | some p =>
    obtain ⟨R, rem⟩ := p
    have hr' : rdX win R rem = none := hr
    show stX win R rem = none
    unfold stX
    rw [hr']
section
variable {win : Option (Nat × Nat)} {s : Option (Nat × Nat)}
theorem rdO_one (h0 : (getO 1 s).1 ≠ 0) : ∃ R rem R1 rem1, s = some (R, rem) ∧ takeB 1 R rem = some ((getO 1 s).1, R1, rem1) ∧ (getO 1 s).2 = some (R1, rem1) := by
  cases h : (getO 1 s).2 with
  | none => exact absurd (getO_bad0 h) h0
  | some p =>
    obtain ⟨R, rem, e, ht⟩ := getO_some (R1 := p.1) (rem1 := p.2) h
    exact ⟨R, rem, _, _, e, ht, rfl⟩
theorem rdO_far (h0 : (getO 1 s).1 ≠ 0) (h1 : (getO 1 (getO 1 s).2).1 ≠ 0)
    (hf : 64 < (getO 5 (getO 1 (getO 1 s).2).2).1 + ((getO 6 (getO 5 (getO 1 (getO 1 s).2).2).2).1 + 1)) : rdO win s = none := by
  obtain ⟨R, rem, R1, rem1, rfl, ht, e1⟩ := rdO_one h0
  rw [e1] at h1 hf
  obtain ⟨R1', rem1', R2, rem2, e1', ht1, e2⟩ := rdO_one h1
  injection e1' with e1'
  injection e1' with x1 x2
  subst x1 x2
  rw [e2] at hf
  show rdX win R rem = none
  unfold rdX
  rw [ht]
  simp only
  rw [if_neg h0, ht1]
  simp only
  rw [if_neg h1]
  rw [getO_take] at hf
  cases ht2 : takeB 5 R2 rem2 with
  | none => rfl
  | some q =>
    obtain ⟨a, R3, rem3⟩ := q
    rw [ht2] at hf
    simp only at hf ⊢
    rw [getO_take] at hf
    cases ht3 : takeB 6 R3 rem3 with
    | none => rfl
    | some q =>
      obtain ⟨m, R4, rem4⟩ := q
      rw [ht3] at hf
      simp only at hf ⊢
      rw [if_pos hf]
theorem stO_far (h0 : (getO 1 s).1 ≠ 0) (h1 : (getO 1 (getO 1 s).2).1 ≠ 0)
    (hf : 64 < (getO 5 (getO 1 (getO 1 s).2).2).1 + ((getO 6 (getO 5 (getO 1 (getO 1 s).2).2).2).1 + 1)) : stO win s = none := stO_none (rdO_far h0 h1 hf)
end
end Go.Proofs.Ytejnhdenehkpmaa

/- Plain mathematics of all codecs: what a row of samples is told in, in each of the six; that it is read back, and nothing else is; the one that takes the fewest bytes. -/
namespace Go.Proofs.Ytejnhdenehkpmaa

/-- Fields as bytes. -/
def packF (fs : List (Nat × Nat)) : List Nat := packB (fnum fs) (flen fs)
/-- Of values: how each differs from the one ahead, going round; as numbers without a sign. -/
def stepU (last x : Nat) : Nat := (zig (sg ((x + M64 - last) % M64))).toNat
def stepsU : Nat → List Nat → List Nat
  | _, [] => []
  | last, x :: xs => stepU last x :: stepsU x xs
def backU (last u : Nat) : Nat := (last + un (zag (u : Int))) % M64
def unstepsU : Nat → List Nat → List Nat
  | _, [] => []
  | last, u :: us => backU last u :: unstepsU (backU last u) us
theorem backU_lt (last u : Nat) : backU last u < 2 ^ 64 := by
  unfold backU
  rw [← M64_pow]
  exact Nat.mod_lt _ (by decide)
theorem step_sg (last x : Nat) : -9223372036854775808 ≤ sg ((x + M64 - last) % M64) ∧ sg ((x + M64 - last) % M64) ≤ 9223372036854775807 := by
  have h := sg_fits (u := (x + M64 - last) % M64) (Nat.mod_lt _ (by decide))
  have e : H63 = 9223372036854775808 := rfl
  obtain ⟨h1, h2⟩ := h
  omega
theorem stepU_int (last x : Nat) : (stepU last x : Int) = zig (sg ((x + M64 - last) % M64)) := by
  have h := step_sg last x
  have h2 := zig_fit h.1 h.2
  unfold stepU
  omega
theorem unstepsU_len (v : List Nat) : ∀ last, (unstepsU last v).length = v.length := by
  induction v with
  | nil => intro _; rfl
  | cons x xs ih => intro last; show (unstepsU _ xs).length + 1 = xs.length + 1; rw [ih]
theorem stepsU_snoc (v : List Nat) (x : Nat) : ∀ last, stepsU last (v ++ [x]) = stepsU last v ++ [stepU (v.getLast?.getD last) x] := by
  induction v with
  | nil => intro last; rfl
  | cons y ys ih =>
    intro last
    show stepU last y :: stepsU y (ys ++ [x]) = stepU last y :: (stepsU y ys ++ _)
    rw [ih y, List.getLast?_cons]
    rfl
theorem unstepsU_snoc (v : List Nat) (x : Nat) : ∀ last, unstepsU last (v ++ [x]) = unstepsU last v ++ [backU ((unstepsU last v).getLast?.getD last) x] := by
  induction v with
  | nil => intro last; rfl
  | cons y ys ih =>
    intro last
    show backU last y :: unstepsU (backU last y) (ys ++ [x]) = backU last y :: (unstepsU (backU last y) ys ++ [backU ((backU last y :: unstepsU (backU last y) ys).getLast?.getD last) x])
    rw [ih, List.getLast?_cons]
    rfl
/-- Words as bytes, the highest first. -/
def w8 (w : Nat) : List Nat := [w / 2 ^ 56 % 256, w / 2 ^ 48 % 256, w / 2 ^ 40 % 256, w / 2 ^ 32 % 256, w / 2 ^ 24 % 256, w / 2 ^ 16 % 256, w / 2 ^ 8 % 256, w % 256]
def words8 : List Nat → List Nat
  | [] => []
  | w :: ws => w8 w ++ words8 ws
/-- Values told in a codec. -/
def toldK (tag : Int) (v : List Nat) : Option (List Nat) :=
  if tag = 1 then some (packF (encVals v))
  else if tag = 2 then (encS (stepsU 0 v)).map words8
  else if tag = 3 then some (encR v)
  else if tag = 4 then some (encP v)
  else if tag = 5 then encD v
  else if tag = 6 then (if v = [] then some [] else if v.all (fun x => x == v.getD 0 0) then some (enc (v.getD 0 0)) else none)
  else none
/-- A row of samples: its times and its values; it rises. -/
def tsOf (l : List (Int × Nat)) : List Int := l.map (·.1)
def vsOf (l : List (Int × Nat)) : List Nat := l.map (·.2)
def GoodS (l : List (Int × Nat)) : Prop := ∀ p ∈ l, Fits p.1 ∧ p.2 < 2 ^ 64
theorem tsOf_len (l : List (Int × Nat)) : (tsOf l).length = l.length := by simp [tsOf]
theorem vsOf_len (l : List (Int × Nat)) : (vsOf l).length = l.length := by simp [vsOf]
theorem GoodS.ts {l : List (Int × Nat)} (h : GoodS l) : ∀ x ∈ tsOf l, Fits x := fun x hx => by
  obtain ⟨p, hp, rfl⟩ := List.mem_map.1 hx
  exact (h p hp).1
theorem GoodS.vs {l : List (Int × Nat)} (h : GoodS l) : ∀ x ∈ vsOf l, x < 2 ^ 64 := fun x hx => by
  obtain ⟨p, hp, rfl⟩ := List.mem_map.1 hx
  exact (h p hp).2
def ascB : List Int → Bool
  | a :: b :: r => decide (a < b) && ascB (b :: r)
  | _ => true
def riseB (l : List (Int × Nat)) : Bool := ascB (tsOf l) && decide (l.length ≤ 65535)
/-- The bytes of its times. -/
def tbK (l : List (Int × Nat)) : List Nat := packF (encRow (tsOf l))
/-- A row told in a codec. -/
def encK (tag : Int) (l : List (Int × Nat)) : Option (List Nat) :=
  if riseB l then (toldK tag (vsOf l)).map fun b => enc (tbK l).length ++ (tbK l ++ b) else none
end Go.Proofs.Ytejnhdenehkpmaa

/- The model goes on: how long rows are, what numbers are; what an iterator has stays, whatever others do. -/
namespace Go.Proofs.Ytejnhdenehkpmaa

/-- Rows of at most k samples, all of them numbers that fit. -/
def LenM (m : ModN) (k : Nat) : Prop := (∀ s ∈ m.ser, s.l.length ≤ k ∧ GoodS s.l ∧ Fits s.last) ∧ (∀ i ∈ m.ite, i.rest.length ≤ k ∧ GoodS i.rest)
theorem LenM.nil (k : Nat) : LenM .nil k := ⟨fun _ h => (by cases h), fun _ h => (by cases h)⟩
theorem LenM.more {m : ModN} {k k' : Nat} (h : LenM m k) (hk : k ≤ k') : LenM m k' :=
  ⟨fun s hs => ⟨Nat.le_trans (h.1 s hs).1 hk, (h.1 s hs).2⟩, fun s hs => ⟨Nat.le_trans (h.2 s hs).1 hk, (h.2 s hs).2⟩⟩
theorem spanN_len (f t : Int) (l : List (Int × Nat)) : (spanN f t l).length ≤ l.length := List.length_filter_le _ _
theorem goodS_span {f t : Int} {l : List (Int × Nat)} (h : GoodS l) : GoodS (spanN f t l) := fun p hp => h p (List.mem_filter.1 hp).1
theorem goodS_nil : GoodS [] := fun p h => by cases h
theorem fits_0 : Fits 0 := by unfold Fits; have : H63 = 9223372036854775808 := rfl; omega
/-- One op makes rows by one sample longer at most; what it tells is no longer than what was there. -/
theorem doN_len {m : ModN} {k : Nat} (h : LenM m k) {o : OpN} (h1 : Fits o.t) (h2 : o.v < 2 ^ 64) : LenM (doN m o).1 (k + 1) ∧ (doN m o).2.l.length ≤ k ∧ GoodS (doN m o).2.l := by
  have hm : LenM m (k + 1) := h.more (Nat.le_succ _)
  have happ : LenM { m with ser := (begunS o.series m.ser).modify (cutS o.series m.ser) (fun s => s.put o.t o.v) } (k + 1) := by
    have key : ∀ q ∈ begunS o.series m.ser, q.l.length ≤ k ∧ GoodS q.l ∧ Fits q.last := fun q hq => by
      rcases begunS_mem hq with hq | rfl
      · exact h.1 q hq
      · exact ⟨Nat.zero_le _, goodS_nil, fits_0⟩
    refine ⟨fun s hs => ?_, hm.2⟩
    rcases mem_modify hs with hs | ⟨q, hq, rfl⟩
    · have := key s hs
      exact ⟨by omega, this.2⟩
    · have := key q hq
      refine ⟨by show (q.l ++ [(o.t, o.v)]).length ≤ k + 1; simp; omega, ?_, h1⟩
      intro p hp
      rcases List.mem_append.1 (show p ∈ q.l ++ [(o.t, o.v)] from hp) with hp | hp
      · exact this.2.1 p hp
      · rw [List.mem_singleton.1 hp]; exact ⟨h1, h2⟩
  have hof : ∀ e, (ResN.of e).l.length ≤ k ∧ GoodS (ResN.of e).l := fun e => ⟨Nat.zero_le _, goodS_nil⟩
  unfold doN
  split
  · split
    · exact ⟨hm, hof _⟩
    · split
      · split
        · exact ⟨happ, hof _⟩
        · exact ⟨hm, hof _⟩
      · rename_i j hj
        obtain ⟨s, hs, _⟩ := atS_some hj
        have hsm := h.1 s (List.mem_of_getElem? hs)
        rw [hs]
        simp only
        split
        · split
          · exact ⟨hm, hof _⟩
          · split
            · exact ⟨hm, hof _⟩
            · exact ⟨happ, hof _⟩
        · split
          · exact ⟨hm, Nat.le_trans (spanN_len _ _ _) hsm.1, goodS_span hsm.2.1⟩
          · split
            · split
              · exact ⟨hm, hof _⟩
              · refine ⟨⟨fun q hq => ?_, hm.2⟩, hof _⟩
                rcases List.mem_or_eq_of_mem_set hq with hq | rfl
                · exact hm.1 q hq
                · exact ⟨by show s.l.length ≤ k + 1; omega, hsm.2⟩
            · split
              · refine ⟨⟨fun q hq => ?_, hm.2⟩, hof _⟩
                rcases List.mem_append.1 hq with hq | hq
                · exact hm.1 q (List.mem_of_mem_take hq)
                · exact hm.1 q (List.mem_of_mem_drop hq)
              · split
                · exact ⟨hm, hof _⟩
                · refine ⟨⟨hm.1, fun q hq => ?_⟩, Nat.zero_le _, goodS_nil⟩
                  rcases List.mem_append.1 hq with hq | hq
                  · exact hm.2 q hq
                  · rw [List.mem_singleton.1 hq]
                    exact ⟨Nat.le_trans (spanN_len _ _ _) (by omega), goodS_span hsm.2.1⟩
  · split
    · split
      · exact ⟨hm, hof _⟩
      · rename_i j hj
        obtain ⟨s, hs, _⟩ := atI_some hj
        have hsm := h.2 s (List.mem_of_getElem? hs)
        rw [hs]
        simp only
        split
        · refine ⟨⟨hm.1, fun q hq => ?_⟩, by rw [List.length_take]; omega, fun p hp => hsm.2 p (List.mem_of_mem_take hp)⟩
          rcases List.mem_or_eq_of_mem_set hq with hq | rfl
          · exact hm.2 q hq
          · exact ⟨by show (s.rest.drop _).length ≤ k + 1; rw [List.length_drop]; omega, fun p hp => hsm.2 p (List.mem_of_mem_drop hp)⟩
        · refine ⟨⟨hm.1, fun q hq => ?_⟩, hof _⟩
          rcases List.mem_append.1 hq with hq | hq
          · exact hm.2 q (List.mem_of_mem_take hq)
          · exact hm.2 q (List.mem_of_mem_drop hq)
    · exact ⟨hm, hof _⟩
/-- What an iterator has left. -/
def restN (id : Int) (m : ModN) : Option (List (Int × Nat)) := (m.ite.find? fun i => i.id == id).map (·.rest)
theorem find_cut {l : List IteN} {p : IteN → Bool} {k : Nat} {i : IteN} (h : l[k]? = some i) (hp : p i = false) : (l.take k ++ l.drop (k + 1)).find? p = l.find? p := by
  obtain ⟨hk, e⟩ := List.getElem?_eq_some_iff.1 h
  have hspl : l = l.take k ++ i :: l.drop (k + 1) := by rw [← e, List.getElem_cons_drop, List.take_append_drop]
  conv => rhs; rw [hspl]
  rw [List.find?_append, List.find?_append, List.find?_cons_of_neg (by simp [hp])]
theorem find_set {l : List IteN} {p : IteN → Bool} {k : Nat} {i x : IteN} (h : l[k]? = some i) (hp : p i = false) (hx : p x = false) : (l.set k x).find? p = l.find? p := by
  obtain ⟨hk, e⟩ := List.getElem?_eq_some_iff.1 h
  have hspl : l = l.take k ++ i :: l.drop (k + 1) := by rw [← e, List.getElem_cons_drop, List.take_append_drop]
  have hset : l.set k x = l.take k ++ x :: l.drop (k + 1) := by rw [List.set_eq_take_append_cons_drop, if_pos hk]
  rw [hset]
  conv => rhs; rw [hspl]
  rw [List.find?_append, List.find?_append, List.find?_cons_of_neg (by simp [hx]), List.find?_cons_of_neg (by simp [hp])]
theorem find_at {l : List IteN} {id : Int} {k : Nat} {i : IteN} (h : atI id l = some k) (hk : l[k]? = some i) : (l.find? fun i => i.id == id) = some i ∧ ∀ x : IteN, x.id = id → ((l.set k x).find? fun i => i.id == id) = some x := by
  unfold atI at h
  obtain ⟨hlt, h1, h2⟩ := List.findIdx?_eq_some_iff_getElem.1 h
  obtain ⟨_, e⟩ := List.getElem?_eq_some_iff.1 hk
  have hspl : l = l.take k ++ i :: l.drop (k + 1) := by rw [← e, List.getElem_cons_drop, List.take_append_drop]
  have hset : ∀ x, l.set k x = l.take k ++ x :: l.drop (k + 1) := fun x => by rw [List.set_eq_take_append_cons_drop, if_pos hlt]
  have hno : ((l.take k).find? fun i => i.id == id) = none := by
    rw [List.find?_eq_none]
    intro q hq
    obtain ⟨j, hj, rfl⟩ := List.mem_iff_getElem.1 hq
    rw [List.length_take] at hj
    rw [List.getElem_take]
    have := h2 j (by omega)
    simpa using this
  have hi : (i.id == id) = true := by rw [← e]; exact h1
  refine ⟨?_, fun x hx => ?_⟩
  · conv => lhs; rw [hspl]
    rw [List.find?_append, hno, List.find?_cons_of_pos (by exact hi)]
    rfl
  · rw [hset, List.find?_append, hno, List.find?_cons_of_pos (by simpa using hx)]
    rfl
/-- What an iterator has stays, whatever is done but by itself. -/
theorem rest_other {m : ModN} {id : Int} (hid : id ≤ m.next) {o : OpN} (ho : ¬ ((o.kind = 6 ∨ o.kind = 7) ∧ o.iter = id)) : restN id (doN m o).1 = restN id m := by
  unfold doN
  split
  · split
    · rfl
    · split
      · split <;> rfl
      · rename_i j hj
        obtain ⟨s, hs, _⟩ := atS_some hj
        rw [hs]
        simp only
        split
        · split
          · rfl
          · split <;> rfl
        · split
          · rfl
          · split
            · split <;> rfl
            · split
              · rfl
              · split
                · rfl
                · unfold restN
                  show ((m.ite ++ [(⟨m.next + 1, spanN o.from_ o.to_ s.l⟩ : IteN)]).find? fun i => i.id == id).map (fun i => i.rest) = _
                  rw [List.find?_append]
                  rw [List.find?_cons_of_neg (by simp; omega)]
                  simp
  · split
    · rename_i hk
      split
      · rfl
      · rename_i j hj
        obtain ⟨s, hs, hsi⟩ := atI_some hj
        have hne : (s.id == id) = false := by
          have : ¬ o.iter = id := fun e => ho ⟨hk, e⟩
          simp
          omega
        rw [hs]
        simp only
        split
        · unfold restN
          show ((m.ite.set j _).find? _).map _ = _
          rw [find_set hs hne (by exact hne)]
        · unfold restN
          show ((m.ite.take j ++ m.ite.drop (j + 1)).find? _).map _ = _
          rw [find_cut hs hne]
    · rfl
/-- What it tells is the beginning of what it has; the rest it has then. -/
theorem rest_next {m : ModN} {id : Int} {r : List (Int × Nat)} (h : restN id m = some r) {o : OpN} (hk : o.kind = 6) (ho : o.iter = id) :
    (doN m o).2 = ⟨0, 0, r.take (manyN o.n r.length)⟩ ∧ restN id (doN m o).1 = some (r.drop (manyN o.n r.length)) ∧ (doN m o).1.next = m.next := by
  cases hj : atI id m.ite with
  | none =>
    exfalso
    unfold restN at h
    have hno : (m.ite.find? fun i => i.id == id) = none := by
      rw [List.find?_eq_none]
      intro q hq
      have := atI_none hj q hq
      simpa using this
    rw [hno] at h
    cases h
  | some k =>
    obtain ⟨i, hi, hid⟩ := atI_some hj
    obtain ⟨h1, h2⟩ := find_at hj hi
    have hr : i.rest = r := by
      unfold restN at h
      rw [h1] at h
      simpa using h
    unfold doN
    rw [if_neg (by omega), if_pos (.inl hk), ho, hj]
    simp only [hi]
    rw [if_pos hk, hr]
    refine ⟨rfl, ?_, rfl⟩
    exact congrArg (Option.map (fun i : IteN => i.rest)) (h2 ⟨i.id, r.drop (manyN o.n r.length)⟩ hid)
/-- An iterator that is opened has what a read would tell. -/
theorem rest_open {m : ModN} (h : KeepM m) {o : OpN} (hk : o.kind = 5) (he : (doN m o).2.err = 0) :
    (doN m o).2.iter = m.next + 1 ∧ (doN m o).1.next = m.next + 1 ∧ ∃ l, restN (m.next + 1) (doN m o).1 = some l ∧ (doN m { o with kind := 2 }).2 = ⟨0, 0, l⟩ := by
  have e1 : ¬ (o.series < 0 ∨ 15 < o.series) := fun e => by
    unfold doN at he
    rw [if_pos (by omega), if_pos e] at he
    cases he
  cases hj : atS o.series m.ser with
  | none =>
    exfalso
    unfold doN at he
    rw [if_pos (by omega), if_neg e1, hj] at he
    simp only [] at he
    rw [if_neg (by omega)] at he
    cases he
  | some k =>
    obtain ⟨s, hs, _⟩ := atS_some hj
    have e8 : ¬ 8 ≤ m.ite.length := fun e => by
      unfold doN at he
      rw [if_pos (by omega), if_neg e1, hj] at he
      simp only [hs] at he
      rw [if_neg (by omega), if_neg (by omega), if_neg (by omega), if_neg (by omega), if_pos e] at he
      cases he
    have hd : doN m o = ({ m with next := m.next + 1, ite := m.ite ++ [⟨m.next + 1, spanN o.from_ o.to_ s.l⟩] }, ⟨0, m.next + 1, []⟩) := by
      unfold doN
      rw [if_pos (by omega), if_neg e1, hj]
      simp only [hs]
      rw [if_neg (by omega), if_neg (by omega), if_neg (by omega), if_neg (by omega), if_neg e8]
    have hd2 : doN m { o with kind := 2 } = (m, ⟨0, 0, spanN o.from_ o.to_ s.l⟩) := by
      unfold doN
      show (if (1 : Int) ≤ 2 ∧ (2 : Int) ≤ 5 then _ else _) = _
      rw [if_pos (by omega), if_neg e1]
      show (match atS o.series m.ser with | none => _ | some k => _) = _
      rw [hj]
      simp only [hs]
      rfl
    rw [hd, hd2]
    refine ⟨rfl, rfl, spanN o.from_ o.to_ s.l, ?_, rfl⟩
    unfold restN
    show ((m.ite ++ [(⟨m.next + 1, spanN o.from_ o.to_ s.l⟩ : IteN)]).find? fun i => i.id == m.next + 1).map (fun i => i.rest) = _
    rw [List.find?_append]
    have hno : (m.ite.find? fun i => i.id == m.next + 1) = none := by
      rw [List.find?_eq_none]
      intro q hq
      have := (h.2.1 q hq).2
      simp
      omega
    rw [hno, List.find?_cons_of_pos (by simp)]
    rfl
end Go.Proofs.Ytejnhdenehkpmaa

/- Models in memory: one cell of one element written, one element more, what else turns; a struct of five cells; the op of a number. -/
namespace Go.Proofs.Ytejnhdenehkpmaa
open Go.RowKit

section
variable {w w' : World} {B B' g n cap i j : Nat} {e : TypeId} {v : Value}
/-- What is done to a row whose elements are of another type leaves samples alone. -/
theorem OwnS.besides {K : Nat} {u : Value} {l : List (Int × Nat)} {rows : List (List Value)} (h : OwnS B w u l) (hv : OwnK K B' w e v rows) (hne : e ≠ 48) (hm : Mod (fun k => v.ownBlock = some k) w w') : OwnS B w' u l :=
  hm.owns h (fun k hk hk' => owns_apart hv.2 h hne k hk' hk)
theorem OwnSer.put {ps qs : List (SerN × Value)} (h : OwnSer B w e v ps) (hm : Mod (fun k => v.ownBlock = some k) w w') (hne : e ≠ 48) {v' : Value} (hK : OwnK 5 B w' e v' (qs.map serC)) (hq : ∀ p ∈ qs, p ∈ ps ∨ OwnS B w p.2 p.1.l) : OwnSer B w' e v' qs :=
  ⟨hK, fun p hp => (((hq p hp).elim (fun h1 => h.2 p h1) (fun h1 => h1)).besides h.1 hne hm)⟩
theorem OwnIte.put {ps qs : List (IteN × Value)} (h : OwnIte B w e v ps) (hm : Mod (fun k => v.ownBlock = some k) w w') (hne : e ≠ 48) {v' : Value} (hK : OwnK 2 B w' e v' (qs.map iteC)) (hq : ∀ p ∈ qs, p ∈ ps ∨ OwnS B w p.2 p.1.rest) : OwnIte B w' e v' qs :=
  ⟨hK, fun p hp => (((hq p hp).elim (fun h1 => h.2 p h1) (fun h1 => h1)).besides h.1 hne hm)⟩
/-- A struct of five cells is written. -/
theorem Blk.five {t : TypeId} {c0 c1 c2 c3 c4 : Value} (h : Blk w g t #[c0, c1, c2, c3, c4]) (a b c d f : Value) :
    let W := ((((w.setCell ⟨g, 0, none⟩ a).setCell ⟨g, 1, none⟩ b).setCell ⟨g, 2, none⟩ c).setCell ⟨g, 3, none⟩ d).setCell ⟨g, 4, none⟩ f
    W.cell? ⟨g, 0, none⟩ = some a ∧ W.cell? ⟨g, 1, none⟩ = some b ∧ W.cell? ⟨g, 2, none⟩ = some c ∧ W.cell? ⟨g, 3, none⟩ = some d ∧ W.cell? ⟨g, 4, none⟩ = some f ∧ Blk W g t #[a, b, c, d, f] := by
  have h3 := ((((h.set_ 0 a).set_ 1 b).set_ 2 c).set_ 3 d).set_ 4 f
  have h4 : Blk (((((w.setCell ⟨g, 0, none⟩ a).setCell ⟨g, 1, none⟩ b).setCell ⟨g, 2, none⟩ c).setCell ⟨g, 3, none⟩ d).setCell ⟨g, 4, none⟩ f) g t #[a, b, c, d, f] := by simpa using h3
  refine ⟨?_, ?_, ?_, ?_, ?_, h4⟩
  · have := h4.cell 0; simpa using this
  · have := h4.cell 1; simpa using this
  · have := h4.cell 2; simpa using this
  · have := h4.cell 3; simpa using this
  · have := h4.cell 4; simpa using this
end

/-- The op of a number, as the laws of layer 14 make it. -/
def opN (n at_ : Int) : OpN :=
  let k := n % 64
  let s := n / 64 % 4
  let o : OpN := ⟨0, s, n / 256 % 8, at_ + n / 2048 % 4, (n / 8192 % 256).toNat, at_ - n / 8192 % 64, at_ + n / 524288 % 16 - 4, n / 8388608 % 16⟩
  if k < 34 then { o with kind := 1, v := if n / 2097152 % 8 = 0 then ((n % 18446744073709551616) * 11400714819323198485 % 18446744073709551616).toNat else o.v }
  else if k < 44 then { o with kind := 2 }
  else if k < 46 then { o with kind := if 0 < n / 8388608 % 4 then 2 else 3 }
  else if k < 48 then { o with kind := if 0 < n / 8388608 % 4 then 1 else 4 }
  else if k < 53 then { o with kind := 5 }
  else if k < 60 then { o with kind := 6 }
  else if k < 62 then { o with kind := 7 }
  else { o with kind := n / 64 % 16, series := n / 1024 % 32 - 5 }
/-- Its time and value fit, wherever it stands. -/
theorem opN_good (n at_ : Int) (h : -1000000 ≤ at_ ∧ at_ ≤ 1000000) : Fits (opN n at_).t ∧ (opN n at_).v < 2 ^ 64 := by
  have h63 : H63 = 9223372036854775808 := rfl
  have h64 : (2 : Nat) ^ 64 = 18446744073709551616 := rfl
  have ht : Fits (at_ + n / 2048 % 4) := by unfold Fits; omega
  have hv : (n / 8192 % 256).toNat < 2 ^ 64 := by omega
  have hv2 : (n % 18446744073709551616 * 11400714819323198485 % 18446744073709551616).toNat < 2 ^ 64 := by omega
  unfold opN
  simp only
  repeat' split
  all_goals first
    | exact ⟨ht, hv⟩
    | exact ⟨ht, hv2⟩
end Go.Proofs.Ytejnhdenehkpmaa

/- Rows of the call's own written in place: runs of cells stored; append with room, copy, clear, of elements of K cells. -/
namespace Go.Proofs.Ytejnhdenehkpmaa
open Go.RowKit

/-- A run of cells laid over a row. -/
def over (cs : List Value) (o : Nat) (vs : List Value) : List Value := cs.take o ++ vs ++ cs.drop (o + vs.length)
theorem over_len {cs vs : List Value} {o : Nat} (h : o + vs.length ≤ cs.length) : (over cs o vs).length = cs.length := by
  simp only [over, List.length_append, List.length_take, List.length_drop]
  omega
theorem over_take {cs vs : List Value} {o n : Nat} (h : o + vs.length ≤ n) (hn : n ≤ cs.length) : (over cs o vs).take n = over (cs.take n) o vs := by
  unfold over
  rw [List.take_append, List.take_append, List.take_of_length_le (by rw [List.length_take]; omega), List.take_of_length_le (l := vs) (by rw [List.length_take]; omega), List.take_take, Nat.min_eq_left (by omega), List.drop_take]
  congr 2
  rw [List.length_append, List.length_take]
  omega
section
variable {w w' : World} {g o : Nat} {t : TypeId} {cs : Array Value}
theorem Blk.setCells : ∀ {vs : List Value} {o : Nat} {w : World} {cs : Array Value}, Blk w g t cs → o + vs.length ≤ cs.size → Blk (w.setCells g o vs) g t (over cs.toList o vs).toArray := by
  intro vs
  induction vs with
  | nil =>
    intro o w cs h _
    have e : (over cs.toList o []).toArray = cs := by simp [over]
    rw [e]
    exact h
  | cons v r ih =>
    intro o w cs h hl
    have h2 := ih (h.set_ o v) (o := o + 1) (by simp at hl ⊢; omega)
    have e : over (cs.setIfInBounds o v).toList (o + 1) r = over cs.toList o (v :: r) := by
      unfold over
      have hk : o + (r.length + 1) ≤ cs.toList.length := by simp at hl ⊢; omega
      have h3 := list_seg_step cs.toList o v r hk
      rw [Array.toList_setIfInBounds]
      simpa using h3
    rw [e] at h2
    exact h2
theorem mod_setCells (w : World) (g : Nat) : ∀ (vs : List Value) (o : Nat) (w1 : World), Mod (fun k => k = g) w w1 → Mod (fun k => k = g) w (w1.setCells g o vs) := by
  intro vs
  induction vs with
  | nil => intro o w1 h; exact h
  | cons v r ih => intro o w1 h; exact ih (o + 1) _ (h.setCell (p := ⟨g, o, none⟩) (fun _ => rfl) v)
theorem Mod.setCells (w : World) (g o : Nat) (vs : List Value) : Mod (fun k => k = g) w (w.setCells g o vs) := mod_setCells w g vs o w (Mod.refl _ _)
theorem Blk.some_ (h : Blk w g t cs) {i : Nat} (hi : i < cs.size) : (w.cell? ⟨g, i, none⟩).isSome = true := by
  rw [h.cell i, Array.getElem?_eq_getElem hi]
  rfl
end
section
variable {K B : Nat} {w w' : World} {e : TypeId} {v : Value} {rows news : List (List Value)} {g n cap : Nat}
/-- The block behind a row of the call's own. -/
theorem OwnK.blk (h : OwnK K B w e (.slice (some ⟨g, 0, none⟩) n cap) rows) : ∃ cur, Blk w g e cur ∧ B ≤ g ∧ rows.length = n ∧ n ≤ cap ∧ cap ≤ maxLen ∧ cur.size = cap * K ∧ cur.toList.take (n * K) = rows.flatten := by
  rcases h.2.2 with ⟨h1, _⟩ | ⟨g', cap', cur, h1, hB, hgg, hnc, hcm, hcs, htk⟩
  · cases h1
  · injection h1 with h1 h2 h3
    injection h1 with h1
    injection h1 with h1
    subst h1 h3
    refine ⟨cur, hgg, hB, h2.symm, ?_, hcm, hcs, ?_⟩
    · rw [h2]; exact hnc
    · rw [h2]; exact htk
theorem OwnK.of_blk {cur : Array Value} (hb : Blk w g e cur) (hB : B ≤ g) (hr : rows.length = n) (hn : n ≤ cap) (hc : cap ≤ maxLen) (hs : cur.size = cap * K) (ha : AllK K rows) (ht : cur.toList.take (n * K) = rows.flatten) : OwnK K B w e (.slice (some ⟨g, 0, none⟩) n cap) rows := by
  refine ⟨ha, flat_len ha, .inr ⟨g, cap, cur, by rw [hr], hB, hb, by omega, hc, hs, by rw [hr]; exact ht⟩⟩
/-- s[:k] -/
theorem OwnK.cut {k : Nat} (h : OwnK K B w e (.slice (some ⟨g, 0, none⟩) n cap) rows) (hk : k ≤ n) : OwnK K B w e (.slice (some ⟨g, 0, none⟩) k cap) (rows.take k) := by
  obtain ⟨cur, hb, hB, hr, hn, hc, hs, ht⟩ := h.blk
  refine OwnK.of_blk hb hB (by rw [List.length_take]; omega) (by omega) hc hs (h.1.take k) ?_
  rw [← flat_take k h.1, ← ht, List.take_take, Nat.min_eq_left (Nat.mul_le_mul_right K hk)]
/-- Whole elements laid over a row, from its p-th on. -/
theorem over_rows {p : Nat} (ha : AllK K rows) (hn : AllK K news) : over rows.flatten (p * K) news.flatten = (rows.take p ++ news ++ rows.drop (p + news.length)).flatten := by
  unfold over
  rw [flat_len hn, ← Nat.add_mul, flat_take p ha, flat_drop (p + news.length) ha, List.flatten_append, List.flatten_append]
theorem OwnK.laid {p : Nat} (h : OwnK K B w e (.slice (some ⟨g, 0, none⟩) n cap) rows) (hn : AllK K news) (hp : p + news.length ≤ n) :
    OwnK K B (w.setCells g (p * K) news.flatten) e (.slice (some ⟨g, 0, none⟩) n cap) (rows.take p ++ news ++ rows.drop (p + news.length)) := by
  obtain ⟨cur, hb, hB, hr, hnc, hc, hs, ht⟩ := h.blk
  have hfl := flat_len hn
  have h1 : p * K + news.flatten.length ≤ n * K := by rw [hfl, ← Nat.add_mul]; exact Nat.mul_le_mul_right K hp
  have h2 : n * K ≤ cap * K := Nat.mul_le_mul_right K hnc
  have hsz : cur.toList.length = cap * K := by simpa using hs
  refine OwnK.of_blk (hb.setCells (by omega)) hB ?_ hnc hc ?_ ?_ ?_
  · simp only [List.length_append, List.length_take, List.length_drop]; omega
  · rw [List.size_toArray, over_len (by omega), hsz]
  · exact ((h.1.take p).app hn).app (h.1.drop _)
  · show (over cur.toList (p * K) news.flatten).take (n * K) = _
    rw [over_take h1 (by omega), ht, over_rows h.1 hn]
/-- .. and what lies behind the row is written: s = s[:k] after its spare cells took them. -/
theorem OwnK.grown {m : Nat} (h : OwnK K B w e (.slice (some ⟨g, 0, none⟩) n cap) rows) (hn : AllK K news) (hm : news.length = m) (hp : n + m ≤ cap) :
    OwnK K B (w.setCells g (n * K) news.flatten) e (.slice (some ⟨g, 0, none⟩) (n + m) cap) (rows ++ news) := by
  obtain ⟨cur, hb, hB, hr, hnc, hc, hs, ht⟩ := h.blk
  have hfl := flat_len hn
  have h1 : n * K + news.flatten.length = (n + m) * K := by rw [hfl, hm, ← Nat.add_mul]
  have h2 : (n + m) * K ≤ cap * K := Nat.mul_le_mul_right K hp
  have hsz : cur.toList.length = cap * K := by simpa using hs
  refine OwnK.of_blk (hb.setCells (by omega)) hB ?_ hp hc ?_ (h.1.app hn) ?_
  · rw [List.length_append]; omega
  · rw [List.size_toArray, over_len (by omega), hsz]
  · show (over cur.toList (n * K) news.flatten).take ((n + m) * K) = _
    rw [over_take (by omega) (by omega)]
    unfold over
    rw [List.take_take, Nat.min_eq_left (by omega), ht, List.drop_of_length_le (by rw [List.length_take]; omega), List.append_nil, List.flatten_append]
/-- What lies behind the row is written. -/
theorem OwnK.behind {o : Nat} {vs : List Value} (h : OwnK K B w e (.slice (some ⟨g, 0, none⟩) n cap) rows) (ho : n * K ≤ o) (hl : o + vs.length ≤ cap * K) : OwnK K B (w.setCells g o vs) e (.slice (some ⟨g, 0, none⟩) n cap) rows := by
  obtain ⟨cur, hb, hB, hr, hnc, hc, hs, ht⟩ := h.blk
  have hsz : cur.toList.length = cap * K := by simpa using hs
  refine OwnK.of_blk (hb.setCells (by omega)) hB hr hnc hc ?_ h.1 ?_
  · rw [List.size_toArray, over_len (by omega), hsz]
  · show (over cur.toList o vs).take (n * K) = _
    unfold over
    rw [List.append_assoc, List.take_append_of_le_length (by rw [List.length_take]; omega), List.take_take, Nat.min_eq_left ho, ht]
/-- A row's cells may be written. -/
theorem OwnK.open_ (h : OwnK K B w e (.slice (some ⟨g, 0, none⟩) n cap) rows) {i : Nat} (hi : i < cap * K) : (w.cell? ⟨g, i, none⟩).isSome = true ∧ w.frozen? ⟨g, i, none⟩ = false := by
  obtain ⟨cur, hb, _, _, _, _, hs, _⟩ := h.blk
  exact ⟨hb.some_ (by omega), hb.frozen i⟩
end
section
variable {P : Program} {w : World} {t e : TypeId} {z : Value} {K bytes B : Nat}
/-- append(s[:n], x..) with room: in place, wherever x lies. -/
theorem run_append_in (hE : EltK P t e z K bytes) {g n cap m c : Nat} {news : List (List Value)} {N : Nat} {all : List (List Value)} (h : OwnK K B w e (.slice (some ⟨g, 0, none⟩) N cap) all) {A : Option Addr} (hA : A ≠ none) (hr : ∃ B2, RdsK K w B2 A m news) (h1 : ∀ u ∈ news.flatten, u.oneCell' = true) (hroom : n + m ≤ cap) (ty : TypeId) :
    (Builtin.append_ #[t, t] ty #[.slice (some ⟨g, 0, none⟩) n cap, .slice A m c]).run P w = .ok (.slice (some ⟨g, 0, none⟩) (n + m) cap) (w.setCells g (n * K) news.flatten) := by
  obtain ⟨ht, ⟨i, hi, hz, hsize, hby⟩, hzs, hK⟩ := hE
  obtain ⟨B2, hr1, hr2, hr3⟩ := hr
  have hfl := flat_len hr2
  rcases A with _ | ad
  · exact absurd rfl hA
  · have hcells : ∀ j u, news.flatten[j]? = some u → w.cell? (ad.add j) = some u := by
      intro j u hu
      rcases Nat.eq_zero_or_pos m with h0 | h0
      · subst h0
        obtain rfl : news = [] := List.eq_nil_of_length_eq_zero hr1
        simp at hu
      · obtain ⟨ad', h, _, hc⟩ := hr3.2 (Nat.mul_pos h0 hK)
        injection h with h
        subst h
        exact hc j u hu
    have hlt : n * K + news.flatten.length ≤ cap * K := by rw [hfl, hr1, ← Nat.add_mul]; exact Nat.mul_le_mul_right K hroom
    have h2 := run_append_room_cells (P := P) w t ty e i ht hi g 0 n cap ad m c news.flatten (by rw [hfl, hr1, hsize]) hcells h1 hroom (fun j hj => (h.open_ (by rw [hsize]; omega)).1) (fun j hj => (h.open_ (by rw [hsize]; omega)).2)
    rw [Nat.zero_add, hsize] at h2
    exact h2
/-- copy(d, s): all is read ahead. -/
theorem run_copyK (hE : EltK P t e z K bytes) {b o dLen dCap sLen sCap m : Nat} {a : Addr} {cs : List Value} (hm : Nat.min sLen dLen = m) (hn : cs.length = m * K)
    (hsrc : ∀ j v, cs[j]? = some v → w.cell? (a.add j) = some v) (hc : ∀ j, j < cs.length → (w.cell? ⟨b, o + j, none⟩).isSome = true) (hf : ∀ j, j < cs.length → w.frozen? ⟨b, o + j, none⟩ = false) (h1 : ∀ v ∈ cs, v.oneCell' = true) (ty : TypeId) :
    (Builtin.copy_ #[t, t] ty #[.slice (some ⟨b, o, none⟩) dLen dCap, .slice (some a) sLen sCap]).run P w = .ok (goInt m) (w.setCells b o cs) := by
  obtain ⟨ht, ⟨i, hi, hz, hsize, hby⟩, hzs, hK⟩ := hE
  have hl := run_loadCells_list (P := P) w a cs hsrc
  have hst := run_storeCells_cells (P := P) b o cs 0 w (by simpa using hc) (by simpa using hf) h1
  rw [hn] at hl
  simp [Builtin.copy_, run_underlying ht, Builtin.lenOf, Builtin.firstCells, sizeOf, typeInfo, hi, hsize, hm, hl, hst]
/-- clear(s) -/
theorem run_clearK (hE : EltK P t e z K bytes) (hv : ∀ w, (zeroValue e).run P w = .ok z w) (h1 : ∀ u ∈ z.cells, u.oneCell' = true) {b o n : Nat} (hn : 0 < n)
    (hc : ∀ j, j < n * K → (w.cell? ⟨b, o + j, none⟩).isSome = true) (hf : ∀ j, j < n * K → w.frozen? ⟨b, o + j, none⟩ = false) :
    ∃ vs : List Value, vs.length = n * K ∧ ∀ ty c, (Builtin.clear_ #[t] ty #[.slice (some ⟨b, o, none⟩) n c]).run P w = .ok (.tuple #[]) (w.setCells b o vs) := by
  obtain ⟨ht, ⟨i, hi, hz, hsize, hby⟩, hzs, hK⟩ := hE
  have hl : (Builtin.zeroCells z.cells n).toList.length = n * K := by simp [Builtin.zeroCells, hzs]
  refine ⟨(Builtin.zeroCells z.cells n).toList, hl, fun ty c => ?_⟩
  have hst := run_storeCells_cells (P := P) b o (Builtin.zeroCells z.cells n).toList 0 w (by rw [hl]; simpa using hc) (by rw [hl]; simpa using hf) (by
    intro u hu
    simp only [Builtin.zeroCells, Array.toList_map, List.mem_map] at hu
    obtain ⟨j, _, rfl⟩ := hu
    have hlt : j % z.cells.size < z.cells.size := Nat.mod_lt _ (by omega)
    rw [getElem!_pos z.cells _ hlt]
    exact h1 _ (Array.getElem_mem hlt))
  simp only [Nat.add_zero] at hst
  obtain ⟨m, rfl⟩ : ∃ m, n = m + 1 := ⟨n - 1, by omega⟩
  simp [Builtin.clear_, run_underlying ht, hv, hst]
end
section
variable {P : Program} {w : World}
theorem step_copy_run {ops : Array Oper} {o : Oper} {a : Act} {K : Act → World → Prop} {Q : Exit → Act → World → Prop} {E : Prop} (hgd : o.guard = none) (d s : Operand) (t : TypeId)
    (ho : o.op = .call { callee := .builtin .copy, args := #[d, s], argTypes := #[t, t] }) {v u : Value} (hd : a.eval d = v) (hs : a.eval s = u) {v' : Value} {w' : World}
    (hr : (Builtin.copy_ #[t, t] o.type #[v, u]).run P w = .ok v' w') (h : K (a.put o.dst v') w') : if Region.wanted o (yielded ops a.tmps) = true then Oper.wp P o a w K Q else E := by
  have hw : Region.wanted o (yielded ops a.tmps) = true := by simp [Region.wanted, hgd]
  rw [if_pos hw]
  unfold Oper.wp execOp
  simp only [ho, resolve, invoke, builtin, Sem.run_bind, Sem.run_pure, Result.andThen_ok, List.map_toArray, List.map_cons, List.map_nil, hd, hs, hr]
  exact h
theorem step_append_run {ops : Array Oper} {o : Oper} {a : Act} {K : Act → World → Prop} {Q : Exit → Act → World → Prop} {E : Prop} (hgd : o.guard = none) (d s : Operand) (t : TypeId)
    (ho : o.op = .call { callee := .builtin .append, args := #[d, s], argTypes := #[t, t] }) {v u : Value} (hd : a.eval d = v) (hs : a.eval s = u) {v' : Value} {w' : World}
    (hr : (Builtin.append_ #[t, t] o.type #[v, u]).run P w = .ok v' w') (h : K (a.put o.dst v') w') : if Region.wanted o (yielded ops a.tmps) = true then Oper.wp P o a w K Q else E := by
  have hw : Region.wanted o (yielded ops a.tmps) = true := by simp [Region.wanted, hgd]
  rw [if_pos hw]
  unfold Oper.wp execOp
  simp only [ho, resolve, invoke, builtin, Sem.run_bind, Sem.run_pure, Result.andThen_ok, List.map_toArray, List.map_cons, List.map_nil, hd, hs, hr]
  exact h
end
end Go.Proofs.Ytejnhdenehkpmaa

/- What a model has in memory of the call's own: its rows, and its rows of samples anywhere in blocks of samples of the call's own. -/
namespace Go.Proofs.Ytejnhdenehkpmaa
open Go.RowKit

def zeroSer : Value := .agg #[.int .i64 0, .bool false, .bool false, .int .i64 0, .slice none 0 0]
def zeroIte : Value := .agg #[.int .i64 0, .slice none 0 0]
theorem eltSer : EltK Try.prog 28 43 zeroSer 5 48 := EltK.mk Try.underlying28 (by kernel_rfl) rfl (by decide)
theorem eltIte : EltK Try.prog 29 50 zeroIte 2 32 := EltK.mk Try.underlying29 (by kernel_rfl) rfl (by decide)
theorem cellsS_drop (l : List (Int × Nat)) : ∀ k, (cellsS l).drop (k * 2) = cellsS (l.drop k) := by
  induction l with
  | nil => intro k; simp [cellsS]
  | cons p l ih =>
    intro k
    cases k with
    | zero => rfl
    | succ k =>
      rw [cellsS_cons, show (k + 1) * 2 = k * 2 + 1 + 1 by omega, List.drop_succ_cons, List.drop_succ_cons, ih]
      rfl
/-- The slice v reads as l; it lies in a block of samples, from block B on. -/
def SliH (B : Nat) (w : World) (v : Value) (l : List (Int × Nat)) : Prop :=
  ∃ A n c, v = .slice A n c ∧ l.length = n ∧ n ≤ c ∧ c ≤ maxLen ∧ (0 < n → ∃ g o cs, A = some ⟨g, o, none⟩ ∧ B ≤ g ∧ Blk w g 48 cs ∧ ∀ j u, (cellsS l)[j]? = some u → cs[o + j]? = some u)
section
variable {w w' : World} {B B' : Nat} {v : Value} {l : List (Int × Nat)}
theorem SliH.nil (B : Nat) (w : World) : SliH B w (.slice none 0 0) [] := ⟨none, 0, 0, rfl, rfl, Nat.le_refl _, Nat.zero_le _, fun h => absurd h (by decide)⟩
theorem SliH.form (h : SliH B w v l) : ∃ A n c, v = .slice A n c ∧ Hid (l.length = n) ∧ n ≤ c ∧ c ≤ maxLen ∧ RdsS w w.heap.size A n l := by
  obtain ⟨A, n, c, e, h1, h2, h3, h4⟩ := h
  refine ⟨A, n, c, e, Lib.hid h1, h2, h3, h1, by rw [cellsS_len, h1], fun h0 => ?_⟩
  obtain ⟨g, o, cs, rfl, _, hb, hc⟩ := h4 (by omega)
  exact ⟨_, rfl, hb.lt, fun j u hu => by rw [add_addr, hb.cell]; exact hc j u hu⟩
theorem SliH.sli (h : SliH B w v l) : SliS w w.heap.size v l := by
  obtain ⟨A, n, c, e, h1, h2, h3, h4⟩ := h.form
  exact ⟨A, n, c, e, h4, h2, h3⟩
theorem SliH.rds {A : Option Addr} {n c : Nat} (h : SliH B w (.slice A n c) l) : l.length = n ∧ n ≤ c ∧ c ≤ maxLen ∧ RdsS w w.heap.size A n l := by
  obtain ⟨A', n', c', e, h1, h2, h3, h4⟩ := h.form
  injection e with e1 e2 e3
  subst e1 e2 e3
  exact ⟨h1.out, h2, h3, h4⟩
theorem SliH.mod {S : Nat → Prop} (h : SliH B w v l) (hm : Mod S w w') (hS : ∀ k cs, B ≤ k → Blk w k 48 cs → ¬ S k) : SliH B w' v l := by
  obtain ⟨A, n, c, e, h1, h2, h3, h4⟩ := h
  refine ⟨A, n, c, e, h1, h2, h3, fun h0 => ?_⟩
  obtain ⟨g, o, cs, e1, hB, hb, hc⟩ := h4 h0
  exact ⟨g, o, cs, e1, hB, hm.blk hb (hS g cs hB hb), hc⟩
theorem SliH.new (h : SliH B w v l) (hm : Mod (fun _ => False) w w') : SliH B w' v l := h.mod hm (fun _ _ _ _ h => h)
theorem SliH.mono (h : SliH B w v l) (hB : B' ≤ B) : SliH B' w v l := by
  obtain ⟨A, n, c, e, h1, h2, h3, h4⟩ := h
  refine ⟨A, n, c, e, h1, h2, h3, fun h0 => ?_⟩
  obtain ⟨g, o, cs, e1, hB2, hb, hc⟩ := h4 h0
  exact ⟨g, o, cs, e1, by omega, hb, hc⟩
theorem SliH.of_own (h : OwnS B w v l) : SliH B w v l := by
  rcases h.2 with ⟨rfl, h0⟩ | ⟨g, cap, cur, rfl, hB, hgg, hnc, hcm, hcs, htk⟩
  · obtain rfl : l = [] := List.eq_nil_of_length_eq_zero h0
    exact SliH.nil _ _
  · refine ⟨_, _, _, rfl, rfl, hnc, hcm, fun _ => ⟨g, 0, cur, rfl, hB, hgg, fun j u hu => ?_⟩⟩
    rw [← htk, List.getElem?_take] at hu
    split at hu
    · rw [Nat.zero_add]; simpa using hu
    · cases hu
/-- v[k:] -/
theorem SliH.drop {A : Option Addr} {n c k : Nat} (h : SliH B w (.slice A n c) l) (hk : k ≤ n) : SliH B w (.slice (if c = k then A else A.map (·.add (k * 2))) (n - k) (c - k)) (l.drop k) := by
  obtain ⟨A', n', c', e, h1, h2, h3, h4⟩ := h
  injection e with e1 e2 e3
  subst e1 e2 e3
  refine ⟨_, _, _, rfl, by rw [List.length_drop, h1], by omega, by omega, fun h0 => ?_⟩
  obtain ⟨g, o, cs, rfl, hB, hb, hc⟩ := h4 (by omega)
  refine ⟨g, o + k * 2, cs, ?_, hB, hb, fun j u hu => ?_⟩
  · rw [if_neg (by omega), Option.map_some, add_addr]
  · rw [← cellsS_drop, List.getElem?_drop] at hu
    rw [Nat.add_assoc]
    exact hc _ _ hu
end
/-- Rows of the call's own, and each element's row. -/
def HavSer (B : Nat) (w : World) (v : Value) (ps : List (SerN × Value)) : Prop := OwnK 5 B w 43 v (ps.map serC) ∧ ∀ p ∈ ps, SliH B w p.2 p.1.l
def HavIte (B : Nat) (w : World) (v : Value) (qs : List (IteN × Value)) : Prop := OwnK 2 B w 50 v (qs.map iteC) ∧ ∀ p ∈ qs, SliH B w p.2 p.1.rest
def HavM (B : Nat) (w : World) (v v2 : Value) (m : ModN) : Prop := ∃ (ps : List (SerN × Value)) (qs : List (IteN × Value)), ps.map (·.1) = m.ser ∧ qs.map (·.1) = m.ite ∧ HavSer B w v ps ∧ HavIte B w v2 qs
/-- What is done leaves blocks of these types alone. -/
def Far (S : Nat → Prop) (w : World) : Prop := ∀ k t cs, Blk w k t cs → t = 43 ∨ t = 50 ∨ t = 48 → ¬ S k
section
variable {w w' : World} {B B' : Nat} {v v2 : Value} {m : ModN} {ps : List (SerN × Value)} {qs : List (IteN × Value)}
theorem Far.one {g : Nat} {t : TypeId} {cs : Array Value} (h : Blk w g t cs) (h1 : t ≠ 43) (h2 : t ≠ 50) (h3 : t ≠ 48) : Far (fun k => k = g) w := by
  rintro k t' cs' hk ht rfl
  rcases ht with rfl | rfl | rfl
  · exact Blk.ne_ h hk h1 rfl
  · exact Blk.ne_ h hk h2 rfl
  · exact Blk.ne_ h hk h3 rfl
theorem Far.none_ (w : World) : Far (fun _ => False) w := fun _ _ _ _ _ h => h
theorem own_blk {K : Nat} {e : TypeId} {rows : List (List Value)} (h : OwnK K B w e v rows) : ∀ k, v.ownBlock = some k → ∃ cs, Blk w k e cs := by
  intro k hk
  rcases h.2.2 with ⟨rfl, _⟩ | ⟨g, cap, cur, rfl, _, hg, _⟩
  · simp [Value.ownBlock] at hk
  · have : g = k := by simpa [Value.ownBlock] using hk
    subst this
    exact ⟨cur, hg⟩
theorem HavSer.far {S : Nat → Prop} (h : HavSer B w v ps) (hm : Mod S w w') (hS : Far S w) : HavSer B w' v ps :=
  ⟨h.1.modS hm (fun k hk => by obtain ⟨cs, hb⟩ := own_blk h.1 k hk; exact hS k _ cs hb (.inl rfl)), fun p hp => (h.2 p hp).mod hm (fun k cs _ hb => hS k _ cs hb (.inr (.inr rfl)))⟩
theorem HavIte.far {S : Nat → Prop} (h : HavIte B w v qs) (hm : Mod S w w') (hS : Far S w) : HavIte B w' v qs :=
  ⟨h.1.modS hm (fun k hk => by obtain ⟨cs, hb⟩ := own_blk h.1 k hk; exact hS k _ cs hb (.inr (.inl rfl))), fun p hp => (h.2 p hp).mod hm (fun k cs _ hb => hS k _ cs hb (.inr (.inr rfl)))⟩
theorem HavM.far {S : Nat → Prop} (h : HavM B w v v2 m) (hm : Mod S w w') (hS : Far S w) : HavM B w' v v2 m := by
  obtain ⟨ps, qs, h1, h2, h3, h4⟩ := h
  exact ⟨ps, qs, h1, h2, h3.far hm hS, h4.far hm hS⟩
theorem HavM.new (h : HavM B w v v2 m) (hm : Mod (fun _ => False) w w') : HavM B w' v v2 m := h.far hm (Far.none_ w)
theorem HavM.mono (h : HavM B w v v2 m) (hB : B' ≤ B) : HavM B' w v v2 m := by
  obtain ⟨ps, qs, h1, h2, h3, h4⟩ := h
  exact ⟨ps, qs, h1, h2, ⟨h3.1.mono hB, fun p hp => (h3.2 p hp).mono hB⟩, ⟨h4.1.mono hB, fun p hp => (h4.2 p hp).mono hB⟩⟩
theorem HavSer.form (h : HavSer B w v ps) : ∃ A c, v = .slice A ps.length c ∧ ps.length ≤ c ∧ c ≤ maxLen ∧ RdsSer w w.heap.size A ps.length ps := by
  obtain ⟨A, c, h1, _, h2, h3, h4⟩ := h.1.form
  rw [List.length_map] at h1 h2 h4
  exact ⟨A, c, h1, h2, h3, h4, fun p hp => (h.2 p hp).sli⟩
theorem HavIte.form (h : HavIte B w v qs) : ∃ A c, v = .slice A qs.length c ∧ qs.length ≤ c ∧ c ≤ maxLen ∧ RdsIte w w.heap.size A qs.length qs := by
  obtain ⟨A, c, h1, _, h2, h3, h4⟩ := h.1.form
  rw [List.length_map] at h1 h2 h4
  exact ⟨A, c, h1, h2, h3, h4, fun p hp => (h.2 p hp).sli⟩
/-- It reads as the model. -/
theorem HavM.rds (h : HavM B w v v2 m) : ∃ A n c A2 n2 c2, v = .slice A n c ∧ v2 = .slice A2 n2 c2 ∧ RdsM w w.heap.size A n c A2 n2 c2 m := by
  obtain ⟨ps, qs, h1, h2, h3, h4⟩ := h
  obtain ⟨A, c, e1, k1, k2, k3⟩ := h3.form
  obtain ⟨A2, c2, e2, j1, j2, j3⟩ := h4.form
  exact ⟨A, _, c, A2, _, c2, e1, e2, ps, qs, h1, h2, k3, j3, k1, k2, j1, j2⟩
/-- The series' row, and what comes of the model when it is made anew. -/
theorem HavM.ser (h : HavM B w v v2 m) : ∃ ps, ps.map (·.1) = m.ser ∧ HavSer B w v ps ∧ ∀ (w' : World) (v' : Value) (qs : List (SerN × Value)) (m' : ModN), Mod (fun k => v.ownBlock = some k) w w' → OwnK 5 B w' 43 v' (qs.map serC) →
    (∀ p ∈ qs, p ∈ ps ∨ SliH B w p.2 p.1.l) → m'.ser = qs.map (·.1) → m'.ite = m.ite → HavM B w' v' v2 m' := by
  obtain ⟨ps, is, h1, h2, h3, h4⟩ := h
  refine ⟨ps, h1, h3, fun w' v' qs m' hm hK hq e1 e2 => ⟨qs, is, e1.symm, h2.trans e2.symm, ⟨hK, fun p hp => ?_⟩, h4.1.modS hm (fun k hk hv => ?_), fun p hp => (h4.2 p hp).mod hm (fun k cs _ hb hv => ?_)⟩⟩
  · have hs : SliH B w p.2 p.1.l := (hq p hp).elim (fun h1 => h3.2 p h1) (fun h1 => h1)
    refine hs.mod hm (fun k cs _ hb hv => ?_)
    obtain ⟨cs', hb'⟩ := own_blk h3.1 k hv
    exact Blk.ne_ hb hb' (by decide) rfl
  · obtain ⟨cs', hb'⟩ := own_blk h3.1 k hv
    obtain ⟨cs2, hb2⟩ := own_blk h4.1 k hk
    exact Blk.ne_ hb2 hb' (by decide) rfl
  · obtain ⟨cs', hb'⟩ := own_blk h3.1 k hv
    exact Blk.ne_ hb hb' (by decide) rfl
theorem HavM.ite (h : HavM B w v v2 m) : ∃ ps, ps.map (·.1) = m.ite ∧ HavIte B w v2 ps ∧ ∀ (w' : World) (v' : Value) (qs : List (IteN × Value)) (m' : ModN), Mod (fun k => v2.ownBlock = some k) w w' → OwnK 2 B w' 50 v' (qs.map iteC) →
    (∀ p ∈ qs, p ∈ ps ∨ SliH B w p.2 p.1.rest) → m'.ite = qs.map (·.1) → m'.ser = m.ser → HavM B w' v v' m' := by
  obtain ⟨ss, ps, h1, h2, h3, h4⟩ := h
  refine ⟨ps, h2, h4, fun w' v' qs m' hm hK hq e1 e2 => ⟨ss, qs, h1.trans e2.symm, e1.symm, ⟨h3.1.modS hm (fun k hk hv => ?_), fun p hp => (h3.2 p hp).mod hm (fun k cs _ hb hv => ?_)⟩, hK, fun p hp => ?_⟩⟩
  · obtain ⟨cs', hb'⟩ := own_blk h4.1 k hv
    obtain ⟨cs2, hb2⟩ := own_blk h3.1 k hk
    exact Blk.ne_ hb2 hb' (by decide) rfl
  · obtain ⟨cs', hb'⟩ := own_blk h4.1 k hv
    exact Blk.ne_ hb hb' (by decide) rfl
  · have hs : SliH B w p.2 p.1.rest := (hq p hp).elim (fun h1 => h4.2 p h1) (fun h1 => h1)
    refine hs.mod hm (fun k cs _ hb hv => ?_)
    obtain ⟨cs', hb'⟩ := own_blk h4.1 k hv
    exact Blk.ne_ hb hb' (by decide) rfl
/-- Elements are of one cell each. -/
theorem serC_one {B2 : Nat} (h : ∀ p ∈ ps, SliH B2 w p.2 p.1.l) : ∀ u ∈ (ps.map serC).flatten, u.oneCell' = true := by
  intro u hu
  obtain ⟨r, hr, hu⟩ := List.mem_flatten.1 hu
  obtain ⟨p, hp, rfl⟩ := List.mem_map.1 hr
  obtain ⟨A, n, c, e, _⟩ := h p hp
  simp only [serC, e, List.mem_cons, List.not_mem_nil, or_false] at hu
  rcases hu with rfl | rfl | rfl | rfl | rfl <;> rfl
theorem iteC_one {B2 : Nat} (h : ∀ p ∈ qs, SliH B2 w p.2 p.1.rest) : ∀ u ∈ (qs.map iteC).flatten, u.oneCell' = true := by
  intro u hu
  obtain ⟨r, hr, hu⟩ := List.mem_flatten.1 hu
  obtain ⟨p, hp, rfl⟩ := List.mem_map.1 hr
  obtain ⟨A, n, c, e, _⟩ := h p hp
  simp only [iteC, e, List.mem_cons, List.not_mem_nil, or_false] at hu
  rcases hu with rfl | rfl <;> rfl
end
end Go.Proofs.Ytejnhdenehkpmaa

/- The samples of a span, of the code and as the document has it. -/
namespace Go.Proofs.Ytejnhdenehkpmaa
open Go.RowKit

theorem spanN_take (f t : Int) {l : List (Int × Nat)} {i : Nat} {p : Int × Nat} (h : l[i]? = some p) : spanN f t (l.take (i + 1)) = if f ≤ p.1 ∧ p.1 ≤ t then spanN f t (l.take i) ++ [p] else spanN f t (l.take i) := by
  obtain ⟨hi, e⟩ := List.getElem?_eq_some_iff.1 h
  rw [List.take_succ_eq_append_getElem hi, e, spanN_snoc]
theorem Blk.box (w : World) (t : TypeId) (cs : Array Value) : ∃ W, W = w.alloc (.cells cs t) ∧ Mod (fun _ => False) w W ∧ Blk W w.heap.size t cs ∧ W.heap.size = w.heap.size + 1 := ⟨_, rfl, (Mod.refl _ _).alloc _, Blk.new _ _ _, by simp⟩
set_option maxHeartbeats 1000000 in
set_option maxRecDepth 100000 in
theorem within_any (A : Option Addr) (n c : Nat) (l : List (Int × Nat)) (o : OpN) (w : World) (hs : RdsS w w.heap.size A n l) (hn : n ≤ 1000000) :
    Calls Try.prog 44 #[.slice A n c, .agg #[.int .i64 o.kind, .int .i64 o.series, .int .i64 o.iter, .int .i64 o.t, .int .u64 (o.v : Int), .int .i64 o.from_, .int .i64 o.to_, .int .i64 o.n]] w fun e w' =>
      ∃ v, e = .returned v ∧ OwnS w.heap.size w' v (spanN o.from_ o.to_ l) ∧ Mod (fun _ => False) w w' := by
  obtain ⟨ok, os, oi, ot, ov, of_, to_, on⟩ := o
  dsimp only
  obtain ⟨W, hW, hmW, hbW, hzW⟩ := Blk.box w 24 #[.int .i64 ok, .int .i64 os, .int .i64 oi, .int .i64 ot, .int .u64 (ov : Int), .int .i64 of_, .int .i64 to_, .int .i64 on]
  obtain ⟨g, hg⟩ : ∃ g, g = w.heap.size := ⟨_, rfl⟩
  rw [← hg] at hbW
  have H0 : Hid (OwnS W.heap.size W (.slice none 0 0) (spanN of_ to_ (l.take 0))) := Lib.hid (by rw [List.take_zero]; exact OwnS.nil _ _)
  have hcs : Try.prog.cellsOf 48 = 2 := by kernel_rfl
  have Hs := Lib.hid (hs.new hmW); have Hl := Lib.hid hs.1
  have HW := Lib.hid hW; have HmW := Lib.hid hmW; have HbW := Lib.hid hbW; have Hg := Lib.hid hg; have HzW := Lib.hid hzW
  clear hs hW hmW hbW hg hzW
  go_enter Try.func44, Try.ntmps44
  go_upto_region 1 with fail
  rw [← HW.out, ← Hg.out]
  go_wp2_with fail
  go_loopg [5, 10] n (fun k s5 s10 wr => ∃ i : Nat, i + k = n ∧ s10 = .int .i64 (i : Int) ∧ OwnS W.heap.size wr s5 (spanN of_ to_ (l.take i)) ∧ Mod (fun _ => False) W wr)
  case atStart => exact ⟨0, by omega, rfl, H0.out, Mod.refl _ _⟩
  case round =>
    obtain ⟨i, hik, rfl, ho, hm⟩ := hrel
    obtain ⟨A5, L5, c5, rfl, HL5, _, _, _⟩ := ho.formN
    have Hik := Lib.hid hik; have Ho := Lib.hid ho; have Hm := Lib.hid hm
    clear hik ho hm H0
    by_cases hin : i < n
    · obtain ⟨ad, ⟨T, V⟩, rfl, hadb, hp, hc0, hc1⟩ := Hs.out.at2 hin (by have := HzW.out; omega) Hm.out (fun _ _ h => h)
      have hc1' := cell_whole hc1
      have Hp := Lib.hid hp
      have hin' : (i : Int) < (n : Int) := by omega
      obtain ⟨W1, hW1, hm1, hb1, hz1⟩ := Blk.box wr 48 #[.int .i64 T, .int .u64 (V : Int)]
      obtain ⟨g1, hg1⟩ : ∃ g, g = wr.heap.size := ⟨_, rfl⟩
      rw [← hg1] at hb1
      have hob := hm1.blk (Hm.out.blk HbW.out (fun h => h)) (fun h => h)
      have y0 := hb1.cell 0
      have y1 := hb1.cell 1
      have z5 := hob.cell 5
      have z6 := hob.cell 6
      simp at y0 y1 z5 z6
      have Ho1 := Lib.hid (Ho.out.mod hm1)
      have HmW1 := Lib.hid (Hm.out.trans hm1 (fun _ _ h => h))
      have HW1 := Lib.hid hW1; have Hg1 := Lib.hid hg1
      have hr1 : (spanN of_ to_ (l.take i)).length + 1 ≤ maxLen := by have := spanN_len of_ to_ (l.take i); rw [List.length_take] at this; unfold maxLen; omega
      have hr2 : ((spanN of_ to_ (l.take i)).length + 1) * 16 ≤ 140737488355328 := by have := spanN_len of_ to_ (l.take i); rw [List.length_take] at this; omega
      have hszB : W.heap.size ≤ W1.heap.size := HmW1.out.size
      clear hc1 hp hW1 hm1 hb1 hz1 hg1 hob
      by_cases h1 : of_ ≤ T
      · by_cases h2 : T ≤ to_
        · have Hsp : Hid (spanN of_ to_ (l.take (i + 1)) = spanN of_ to_ (l.take i) ++ [(T, V)]) := Lib.hid (by rw [spanN_take of_ to_ Hp.out, if_pos ⟨h1, h2⟩])
          go_upto_region 5 with fail
          rw [← HW1.out, ← Hg1.out]
          go_wp2_with (at_builtin; refine wpList_appS (p := (T, V)) (l := spanN of_ to_ (l.take i)) rfl (.tmp 26) (.tmp 28) rfl rfl Ho1.out rfl rfl hr1 hr2 hszB ?_; intro v6 w6 HO6 HB6)
          go_roundg (gk - 1)
          case measure => have := Hik.out; omega
          case rel => exact ⟨i + 1, by have := Hik.out; omega, by go_num, by rw [Hsp.out]; exact HO6.out, HmW1.out.trans (Mod.of_below HB6.out) (fun j hj h => by omega)⟩
        · have Hsp : Hid (spanN of_ to_ (l.take (i + 1)) = spanN of_ to_ (l.take i)) := Lib.hid (by rw [spanN_take of_ to_ Hp.out, if_neg (fun h => h2 h.2)])
          go_upto_region 5 with fail
          rw [← HW1.out, ← Hg1.out]
          go_wp2_with fail
          go_roundg (gk - 1)
          case measure => have := Hik.out; omega
          case rel => exact ⟨i + 1, by have := Hik.out; omega, by go_num, by rw [Hsp.out]; exact Ho1.out, HmW1.out⟩
      · have Hsp : Hid (spanN of_ to_ (l.take (i + 1)) = spanN of_ to_ (l.take i)) := Lib.hid (by rw [spanN_take of_ to_ Hp.out, if_neg (fun h => h1 h.1)])
        go_upto_region 5 with fail
        rw [← HW1.out, ← Hg1.out]
        go_wp2_with fail
        go_roundg (gk - 1)
        case measure => have := Hik.out; omega
        case rel => exact ⟨i + 1, by have := Hik.out; omega, by go_num, by rw [Hsp.out]; exact Ho1.out, HmW1.out⟩
    · have hin' : ¬ (i : Int) < (n : Int) := by omega
      go_wp2_with fail
      go_ret
      refine ⟨_, rfl, ?_, HmW.out.trans Hm.out (fun _ _ h => h)⟩
      have h := Ho.out
      rw [List.take_of_length_le (by have := Hl.out; have := Hik.out; omega)] at h
      exact h.mono (by have := HzW.out; omega)
end Go.Proofs.Ytejnhdenehkpmaa

/- Chunks: the mathematics. -/
namespace Go.Proofs.Ytejnhdenehkpmaa

/-- The first and the last time of a row. -/
def fstT (l : List (Int × Nat)) : Int := (tsOf l).headD 0
def lstT (l : List (Int × Nat)) : Int := (tsOf l).getLastD 0
/-- A number of 32 bits in four bytes, the highest first. -/
def sum4 (s : Nat) : List Nat := [s / 16777216 % 256, s / 65536 % 256, s / 256 % 256, s % 256]
/-- What stands ahead of the samples. -/
def headC (t n : Nat) (f g : Int) : List Nat := t :: (enc n ++ (enc (zig f).toNat ++ enc (zig g).toNat))
def headR (tag : Int) (l : List (Int × Nat)) : List Nat := headC tag.toNat l.length (fstT l) (lstT l)
/-- A chunk. -/
def makeC (tag : Int) (l : List (Int × Nat)) : Option (List Nat) :=
  if l = [] then none else (encK tag l).map fun b => headR tag l ++ b ++ sum4 (sumN ent (headR tag l ++ b))
end Go.Proofs.Ytejnhdenehkpmaa

/- Chunks: what the code asks of a chunk, and what the document asks, is one. -/
namespace Go.Proofs.Ytejnhdenehkpmaa

/-- Where the numbers of a head stand, and what they are. -/
def hp (bs : List Nat) : Nat → Nat
  | 0 => 1
  | i + 1 => hp bs i + (dec (bs.drop (hp bs i))).2
def hx (bs : List Nat) (i : Nat) : Nat := (dec (bs.drop (hp bs i))).1
def hq (bs : List Nat) (i : Nat) : Nat := (dec (bs.drop (hp bs i))).2
end Go.Proofs.Ytejnhdenehkpmaa

/- Rising. -/
namespace Go.Proofs.Ytejnhdenehkpmaa
open Go.RowKit

theorem ts_get {l : List (Int × Nat)} {i : Nat} {p : Int × Nat} (h : l[i]? = some p) : (tsOf l)[i]? = some p.1 := by
  unfold tsOf
  rw [List.getElem?_map, h]
  rfl
theorem vs_get {l : List (Int × Nat)} {i : Nat} {p : Int × Nat} (h : l[i]? = some p) : (vsOf l)[i]? = some p.2 := by
  unfold vsOf
  rw [List.getElem?_map, h]
  rfl
/-- The first i rise. -/
def RiseTo (l : List (Int × Nat)) (i : Nat) : Prop := ∀ j a b, j + 1 < i → (tsOf l)[j]? = some a → (tsOf l)[j + 1]? = some b → a < b
theorem RiseTo.more {l : List (Int × Nat)} {j : Nat} {p q : Int × Nat} (h : RiseTo l (j + 1)) (hp : l[j]? = some p) (hq : l[j + 1]? = some q) (hlt : p.1 < q.1) : RiseTo l (j + 1 + 1) := by
  intro k a b hk ha hb
  rcases Nat.lt_or_ge (k + 1) (j + 1) with h1 | h1
  · exact h k a b h1 ha hb
  · obtain rfl : k = j := by omega
    rw [ts_get hp] at ha
    rw [ts_get hq] at hb
    injection ha with ha
    injection hb with hb
    subst ha hb
    exact hlt
end Go.Proofs.Ytejnhdenehkpmaa

/- Chunks, of the code: the sum in four bytes, the head of a row, and how it is told. -/
namespace Go.Proofs.Ytejnhdenehkpmaa
open Go.RowKit

/-- A struct of four cells is written. -/
theorem Blk.four {w : World} {g : Nat} {t : TypeId} {c0 c1 c2 c3 : Value} (h : Blk w g t #[c0, c1, c2, c3]) (a b c d : Value) :
    (w.setCell ⟨g, 0, none⟩ a).cell? ⟨g, 0, none⟩ = some a ∧ ((w.setCell ⟨g, 0, none⟩ a).setCell ⟨g, 1, none⟩ b).cell? ⟨g, 1, none⟩ = some b ∧
    (((w.setCell ⟨g, 0, none⟩ a).setCell ⟨g, 1, none⟩ b).setCell ⟨g, 2, none⟩ c).cell? ⟨g, 2, none⟩ = some c ∧
    ((((w.setCell ⟨g, 0, none⟩ a).setCell ⟨g, 1, none⟩ b).setCell ⟨g, 2, none⟩ c).setCell ⟨g, 3, none⟩ d).cell? ⟨g, 3, none⟩ = some d ∧
    Blk ((((w.setCell ⟨g, 0, none⟩ a).setCell ⟨g, 1, none⟩ b).setCell ⟨g, 2, none⟩ c).setCell ⟨g, 3, none⟩ d) g t #[a, b, c, d] := by
  have h1 := h.set_ 0 a
  have h2 := h1.set_ 1 b
  have h3 := h2.set_ 2 c
  have h4 := h3.set_ 3 d
  refine ⟨?_, ?_, ?_, ?_, ?_⟩
  · have := h1.cell 0; simpa using this
  · have := h2.cell 1; simpa using this
  · have := h3.cell 2; simpa using this
  · have := h4.cell 3; simpa using this
  · simpa using h4
end Go.Proofs.Ytejnhdenehkpmaa

/- Get with a size that may be too great; bytes.Equal (parted from layer 8's Decode). -/
namespace Go.Proofs.Ytejnhdenehkpmaa
open Go.RowKit

end Go.Proofs.Ytejnhdenehkpmaa

/- Chunks, of the code: whether the sum stands behind. -/
namespace Go.Proofs.Ytejnhdenehkpmaa
open Go.RowKit

end Go.Proofs.Ytejnhdenehkpmaa

/- Times: wrapping of 64 bits, by sg and un; a reader's states, bad ones too. -/
namespace Go.Proofs.Ytejnhdenehkpmaa
open Go.RowKit

end Go.Proofs.Ytejnhdenehkpmaa

/- The widths' table, and what reads it: signed, shortest. -/
namespace Go.Proofs.Ytejnhdenehkpmaa
open Go.RowKit

end Go.Proofs.Ytejnhdenehkpmaa

/- A reader tells whether it is well. -/
namespace Go.Proofs.Ytejnhdenehkpmaa
open Go.RowKit

end Go.Proofs.Ytejnhdenehkpmaa

/- Ok of a reader in whatever state. -/
namespace Go.Proofs.Ytejnhdenehkpmaa
open Go.RowKit

end Go.Proofs.Ytejnhdenehkpmaa

/- A reader in whatever state; a difference is read: mark, get. -/
namespace Go.Proofs.Ytejnhdenehkpmaa
open Go.RowKit

end Go.Proofs.Ytejnhdenehkpmaa

/- Fields are told: the project's writer, and the document's own. -/
namespace Go.Proofs.Ytejnhdenehkpmaa
open Go.RowKit

section
variable {w0 w w' : World} {g N len : Nat} {row : Option Nat} {fs bs : List (Nat × Nat)}
theorem Mod.more {row row' : Option Nat} {w2 : World} (h : Mod (fun i => i = g ∨ row = some i) w0 w) (hr : RowTo w0 row row') (h2 : Mod (fun i => i = g ∨ row' = some i) w w2) : Mod (fun i => i = g ∨ row = some i) w0 w2 :=
  h.trans h2 (fun _ hi h => h.elim .inl (fun e => .inr (hr.in_ e hi)))
theorem RowTo.two {row row' row2 : Option Nat} (h : RowTo w0 row row') (hs : w0.heap.size ≤ w.heap.size) (h2 : RowTo w row' row2) : RowTo w0 row row2 := by
  rcases h2 with rfl | ⟨r, rfl, hr⟩
  · exact h
  · exact .inr ⟨r, rfl, by omega⟩
end
theorem SeesI.at2 {k : IntKind} {w w' : World} {B n i : Nat} {A : Option Addr} {zs : List Int} (h : SeesI k w B A n zs) (hi : i < n) (hB : B ≤ w.heap.size) {S : Nat → Prop} (hm : Mod S w w') (hS : ∀ ad, A = some ad → ¬ S ad.block) :
    ∃ ad x, A = some ad ∧ zs[i]? = some x ∧ w'.cell? (ad.add i) = some (.int k x) := by
  obtain ⟨ad, e, hb, hc⟩ := h.2 (by omega)
  have hl : i < zs.length := by have := h.1; omega
  refine ⟨ad, zs[i], e, List.getElem?_eq_getElem hl, ?_⟩
  rw [hm.cell (a := ad.add i) (by rw [addr_block]; omega) (by rw [addr_block]; exact hS _ e)]
  exact hc i _ (List.getElem?_eq_getElem hl)
section
variable {w0 w w' : World} {g N len : Nat} {row : Option Nat} {fs bs : List (Nat × Nat)}
end
end Go.Proofs.Ytejnhdenehkpmaa

/- Differences, and rows of times, are told: put, Encode. -/
namespace Go.Proofs.Ytejnhdenehkpmaa
open Go.RowKit

end Go.Proofs.Ytejnhdenehkpmaa

/- Rows of times are read: Decode. -/
namespace Go.Proofs.Ytejnhdenehkpmaa
open Go.RowKit

def cellsI (xs : List Int) : List Value := xs.map fun x => Value.int .i64 x
theorem cellsI_length (xs : List Int) : (cellsI xs).length = xs.length := by simp [cellsI]
theorem cellsI_get (xs : List Int) (i : Nat) : (cellsI xs)[i]? = xs[i]?.map fun x => Value.int .i64 x := by simp [cellsI]
end Go.Proofs.Ytejnhdenehkpmaa

/- A row of samples as its times and its values: parted; and joined again. -/
namespace Go.Proofs.Ytejnhdenehkpmaa
open Go.RowKit

theorem Own.at_set {B g n cap k : Nat} {w : World} {e : TypeId} {xs : List Value} (h : Own B w e (.slice (some ⟨g, 0, none⟩) n cap) xs) (hn : n = xs.length) (hk : k < n) (u : Value) :
    (∃ u, w.cell? ⟨g, k, none⟩ = some u) ∧ w.frozen? ⟨g, k, none⟩ = false ∧ Own B (w.setCell ⟨g, k, none⟩ u) e (.slice (some ⟨g, 0, none⟩) n cap) (xs.set k u) := by
  have h' : w.ownsRow B e 1 (.slice (some ⟨g, 0, none⟩) n cap) n xs := by have := h; unfold Own at this; rwa [← hn] at this
  refine ⟨⟨xs[k]'(by omega), ?_⟩, h'.frozenAt k, ?_⟩
  · rw [h'.cellAt k (by omega), List.getElem?_eq_getElem (by omega)]
  · have h2 := (h'.stored k u).1
    unfold Own
    rw [List.length_set, ← hn]
    exact h2
theorem Own.other {B g n cap : Nat} {w : World} {e : TypeId} {xs : List Value} (h : Own B w e (.slice (some ⟨g, 0, none⟩) n cap) xs) {p : Addr} (hp : p.block ≠ g) (u : Value) : Own B (w.setCell p u) e (.slice (some ⟨g, 0, none⟩) n cap) xs :=
  ((Mod.refl (fun i => i = p.block) w).setCell (fun _ => rfl) u).owns h (fun k hk e' => by
    have : g = k := by simpa [Value.ownBlock] using hk
    exact hp (by rw [← e', this]))
theorem SeesI.rds {w : World} {B n : Nat} {A : Option Addr} {zs : List Int} (h : SeesI .i64 w B A n zs) : Rds w B A n (cellsI zs) := by
  refine ⟨by rw [cellsI_length]; exact h.1, fun hn => ?_⟩
  obtain ⟨ad, e, hb, hc⟩ := h.2 hn
  refine ⟨ad, e, hb, fun j u hu => ?_⟩
  rw [cellsI_get] at hu
  cases hz : zs[j]? with
  | none => rw [hz] at hu; cases hu
  | some z =>
    rw [hz] at hu
    have : u = .int .i64 z := by simpa using hu.symm
    rw [this]
    exact hc j z hz
/-- The first i times and values are laid. -/
def PartTo (w wr : World) (l : List (Int × Nat)) (n g1 g2 i : Nat) : Prop :=
  ∃ (ts : List Int) (us : List Nat), Own w.heap.size wr 2 (.slice (some ⟨g1, 0, none⟩) n n) (cellsI ts) ∧ Own w.heap.size wr 22 (.slice (some ⟨g2, 0, none⟩) n n) (cellsU us) ∧
    ts.length = n ∧ us.length = n ∧ (∀ j, j < i → ts[j]? = (tsOf l)[j]?) ∧ (∀ j, j < i → us[j]? = (vsOf l)[j]?) ∧ Mod (fun _ => False) w wr
theorem mod_new {w wr : World} {p : Addr} (h : Mod (fun _ => False) w wr) (hp : w.heap.size ≤ p.block) (u : Value) : Mod (fun _ => False) w (wr.setCell p u) := h.setCell (fun hlt => by omega) u
theorem PartTo.step {w wr : World} {l : List (Int × Nat)} {n g1 g2 i : Nat} {T : Int} {V : Nat} (h : PartTo w wr l n g1 g2 i) (hg : g1 ≠ g2) (hi : i < n) (hp : l[i]? = some (T, V)) {W : World} (hW : ∃ o, W = wr.alloc o) :
    (∃ u, W.cell? ⟨g1, i, none⟩ = some u) ∧ (∃ u, W.cell? ⟨g2, i, none⟩ = some u) ∧ W.frozen? ⟨g1, i, none⟩ = false ∧ W.frozen? ⟨g2, i, none⟩ = false ∧ g1 < wr.heap.size ∧ g2 < wr.heap.size ∧
      PartTo w ((W.setCell ⟨g1, i, none⟩ (.int .i64 T)).setCell ⟨g2, i, none⟩ (.int .u64 (V : Int))) l n g1 g2 (i + 1) := by
  obtain ⟨ts, us, h1, h2, h3, h4, h5, h6, hm⟩ := h
  obtain ⟨o, rfl⟩ := hW
  have k1 := h1.alloc o
  have k2 := h2.alloc o
  have b1 := (h1.block g1 (by simp [Value.ownBlock]))
  have b2 := (h2.block g2 (by simp [Value.ownBlock]))
  obtain ⟨a1, a2, a3⟩ := k1.at_set (k := i) (by rw [cellsI_length, h3]) hi (.int .i64 T)
  obtain ⟨c1, c2, _⟩ := k2.at_set (k := i) (by rw [cellsU_length, h4]) hi (.int .u64 (V : Int))
  refine ⟨a1, c1, a2, c2, b1.2, b2.2, ⟨ts.set i T, us.set i V, ?_, ?_, by rw [List.length_set]; exact h3, by rw [List.length_set]; exact h4, ?_, ?_, ?_⟩⟩
  · have e : cellsI (ts.set i T) = (cellsI ts).set i (.int .i64 T) := by simp [cellsI, List.map_set]
    rw [e]
    have a4 : Own w.heap.size ((wr.alloc o).setCell ⟨g1, i, none⟩ (.int .i64 T)) 2 (.slice (some ⟨g1, 0, none⟩) n n) ((cellsI ts).set i (.int .i64 T)) := a3
    exact a4.other (p := ⟨g2, i, none⟩) (fun e => hg e.symm) _
  · have e : cellsU (us.set i V) = (cellsU us).set i (.int .u64 (V : Int)) := by simp [cellsU, List.map_set]
    rw [e]
    have k3 : Own w.heap.size ((wr.alloc o).setCell ⟨g1, i, none⟩ (.int .i64 T)) 22 (.slice (some ⟨g2, 0, none⟩) n n) (cellsU us) := k2.other (p := ⟨g1, i, none⟩) hg _
    exact (k3.at_set (k := i) (by rw [cellsU_length, h4]) hi (.int .u64 (V : Int))).2.2
  · intro j hj
    rcases Nat.lt_or_ge j i with h | h
    · rw [List.getElem?_set_ne (by omega)]
      exact h5 j h
    · obtain rfl : j = i := by omega
      rw [List.getElem?_set_self (by omega), ts_get hp]
  · intro j hj
    rcases Nat.lt_or_ge j i with h | h
    · rw [List.getElem?_set_ne (by omega)]
      exact h6 j h
    · obtain rfl : j = i := by omega
      rw [List.getElem?_set_self (by omega), vs_get hp]
  · exact mod_new (mod_new (hm.alloc o) b1.1 _) b2.1 _
theorem PartTo.drew {w wr : World} {l : List (Int × Nat)} {n g1 g2 i : Nat} (h : PartTo w wr l n g1 g2 i) : PartTo w wr.drew l n g1 g2 i := by
  obtain ⟨ts, us, h1, h2, h3, h4, h5, h6, hm⟩ := h
  exact ⟨ts, us, h1, h2, h3, h4, h5, h6, hm.drew⟩
theorem PartTo.done {w wr : World} {l : List (Int × Nat)} {n g1 g2 : Nat} (h : PartTo w wr l n g1 g2 n) (hl : l.length = n) :
    Rds wr wr.heap.size (some ⟨g1, 0, none⟩) n (cellsI (tsOf l)) ∧ Rds wr wr.heap.size (some ⟨g2, 0, none⟩) n (cellsU (vsOf l)) ∧ w.heap.size ≤ g1 ∧ w.heap.size ≤ g2 ∧ Mod (fun _ => False) w wr := by
  obtain ⟨ts, us, h1, h2, h3, h4, h5, h6, hm⟩ := h
  have e1 : ts = tsOf l := List.ext_getElem? fun j => by
    rcases Nat.lt_or_ge j n with h | h
    · exact h5 j h
    · rw [List.getElem?_eq_none (by omega), List.getElem?_eq_none (by rw [tsOf_len]; omega)]
  have e2 : us = vsOf l := List.ext_getElem? fun j => by
    rcases Nat.lt_or_ge j n with h | h
    · exact h6 j h
    · rw [List.getElem?_eq_none (by omega), List.getElem?_eq_none (by rw [vsOf_len]; omega)]
  subst e1 e2
  have b1 := (h1.block g1 (by simp [Value.ownBlock]))
  have b2 := (h2.block g2 (by simp [Value.ownBlock]))
  have r1 := h1.form
  have r2 := h2.form
  obtain ⟨A, c, e, _, _, _, r⟩ := r1
  obtain ⟨A', c', e', _, _, _, r'⟩ := r2
  injection e with x1 x2 x3
  injection e' with y1 y2 y3
  subst x1 y1
  rw [← x2] at r
  rw [← y2] at r'
  exact ⟨r, r', b1.1, b2.1, hm⟩
/-- The first i samples are laid. -/
def JoinTo (w wr : World) (ts : List Int) (us : List Nat) (n g i : Nat) : Prop :=
  ∃ l : List (Int × Nat), OwnS w.heap.size wr (.slice (some ⟨g, 0, none⟩) n n) l ∧ l.length = n ∧ (∀ j, j < i → l[j]? = (ts.zip us)[j]?) ∧ Mod (fun _ => False) w wr
theorem JoinTo.step {w wr : World} {ts : List Int} {us : List Nat} {n g i : Nat} {T : Int} {V : Nat} (h : JoinTo w wr ts us n g i) (hi : i < n) (h1 : ts[i]? = some T) (h2 : us[i]? = some V) :
    (∃ u, wr.cell? ⟨g, i * 2, none⟩ = some u) ∧ (∃ u, wr.cell? ⟨g, i * 2 + 1, none⟩ = some u) ∧ wr.frozen? ⟨g, i * 2, none⟩ = false ∧ wr.frozen? ⟨g, i * 2 + 1, none⟩ = false ∧ w.heap.size ≤ g ∧ g < wr.heap.size ∧
      JoinTo w ((wr.setCell ⟨g, i * 2, none⟩ (.int .i64 T)).setCell ⟨g, i * 2 + 1, none⟩ (.int .u64 (V : Int))) ts us n g (i + 1) := by
  obtain ⟨l, k1, k2, k3, hm⟩ := h
  have b1 := k1.block g (by simp [Value.ownBlock])
  obtain ⟨a1, a2, a3, a4, a5⟩ := k1.set_ (k := i) k2.symm hi (T, V)
  refine ⟨a1, a2, a3, a4, b1.1, b1.2, l.set i (T, V), a5, by rw [List.length_set]; exact k2, ?_, mod_new (mod_new hm b1.1 _) b1.1 _⟩
  intro j hj
  rcases Nat.lt_or_ge j i with h | h
  · rw [List.getElem?_set_ne (by omega)]
    exact k3 j h
  · obtain rfl : j = i := by omega
    rw [List.getElem?_set_self (by omega), (List.getElem?_zip_eq_some (z := (T, V))).2 ⟨h1, h2⟩]
theorem JoinTo.drew {w wr : World} {ts : List Int} {us : List Nat} {n g i : Nat} (h : JoinTo w wr ts us n g i) : JoinTo w wr.drew ts us n g i := by
  obtain ⟨l, h1, h2, h3, hm⟩ := h
  exact ⟨l, h1, h2, h3, hm.drew⟩
theorem JoinTo.done {w wr : World} {ts : List Int} {us : List Nat} {n g : Nat} (h : JoinTo w wr ts us n g n) (h1 : ts.length = n) (h2 : us.length = n) :
    OwnS w.heap.size wr (.slice (some ⟨g, 0, none⟩) n n) (ts.zip us) ∧ Mod (fun _ => False) w wr := by
  obtain ⟨l, k1, k2, k3, hm⟩ := h
  have e1 : l = ts.zip us := List.ext_getElem? fun j => by
    rcases Nat.lt_or_ge j n with h | h
    · exact k3 j h
    · rw [List.getElem?_eq_none (by omega), List.getElem?_eq_none (by rw [List.length_zip]; omega)]
  subst e1
  exact ⟨k1, hm⟩
end Go.Proofs.Ytejnhdenehkpmaa

/- Chunks, of the code: getHead. -/
namespace Go.Proofs.Ytejnhdenehkpmaa
open Go.RowKit

end Go.Proofs.Ytejnhdenehkpmaa

/- Rows of numbers of so many bits each: what a writer of its own has been told of them; what Bytes makes of it (parted from Encode of layer 8). -/
namespace Go.Proofs.Ytejnhdenehkpmaa
open Go.RowKit

/-- A row that another call has made, as bytes that read. -/
theorem NewRow.rds {w w1 : World} {v : Value} {n : Nat} {bs : List Nat} (h : NewRow w w1 v n (cells8 bs)) : ∃ A c, v = .slice A n c ∧ Rds w1 w1.heap.size A n (cells8 bs) ∧ Mod (fun _ => False) w w1 := by
  obtain ⟨hown, hm, _⟩ := h
  have hn : bs.length = n := by have := hown.1; rw [cells8_length] at this; omega
  have ho : Own 0 w1 5 v (cells8 bs) := by unfold Own; rw [cells8_length, hn]; exact hown
  obtain ⟨A, c, e, _, _, hr⟩ := own_form8 ho
  rw [hn] at e hr
  exact ⟨A, c, e, hr, hm⟩
theorem Packed.packW {bs : List Nat} {S : Nat} {l : List Nat} (h : Packed bs (fnum (flds S l)) (flen (flds S l))) : bs = packW S l := by
  obtain ⟨hlt, free, hf, hl, hv⟩ := h
  exact packW_one hlt hf hl hv
end Go.Proofs.Ytejnhdenehkpmaa

/- The times of a row, as bytes behind how many these are: putTimes. -/
namespace Go.Proofs.Ytejnhdenehkpmaa
open Go.RowKit

theorem Packed.packF {bs : List Nat} {fs : List (Nat × Nat)} (h : Packed bs (fnum fs) (flen fs)) : bs = packF fs := by
  obtain ⟨hlt, free, hf, hl, hv⟩ := h
  exact packB_one (fnum_lt fs) hlt hf hl hv
end Go.Proofs.Ytejnhdenehkpmaa

/- Values are told by a list of those that are unlike: putList, Encode. -/
namespace Go.Proofs.Ytejnhdenehkpmaa
open Go.RowKit Go.Maps

end Go.Proofs.Ytejnhdenehkpmaa

/- Values are told by their least: Encode. -/
namespace Go.Proofs.Ytejnhdenehkpmaa
open Go.RowKit

end Go.Proofs.Ytejnhdenehkpmaa

/- How many 0s a number has ahead and behind, as math/bits tells it; the window's own calls. -/
namespace Go.Proofs.Ytejnhdenehkpmaa
open Go.RowKit

def winA : Option (Nat × Nat) → Nat
  | none => 0
  | some (a, _) => a
def winS : Option (Nat × Nat) → Nat
  | none => 0
  | some (a, b) => 64 - a - b
theorem win_bounds {win : Option (Nat × Nat)} (h : WinOk win) : winA win ≤ 31 ∧ winS win ≤ 64 ∧ winA win + winS win ≤ 64 := by
  cases win with
  | none => exact ⟨Nat.zero_le _, Nat.zero_le _, Nat.zero_le _⟩
  | some p =>
    obtain ⟨a, b⟩ := p
    obtain ⟨h1, h2⟩ := h
    refine ⟨h1, ?_, ?_⟩
    · show 64 - a - b ≤ 64; omega
    · show a + (64 - a - b) ≤ 64; omega
end Go.Proofs.Ytejnhdenehkpmaa

/- A turn, and rows of values, are told: put, Encode. -/
namespace Go.Proofs.Ytejnhdenehkpmaa
open Go.RowKit

end Go.Proofs.Ytejnhdenehkpmaa

/- Rows of values are told: Encode. -/
namespace Go.Proofs.Ytejnhdenehkpmaa
open Go.RowKit

end Go.Proofs.Ytejnhdenehkpmaa

/- Values told in each codec: putSimple, putSame, putValues. -/
namespace Go.Proofs.Ytejnhdenehkpmaa
open Go.RowKit

theorem last_take {us : List Nat} {i x : Nat} (h : us[i]? = some x) : (us.take (i + 1)).getLast?.getD 0 = x := by
  rw [take_succ_of h, List.getLast?_concat]
  rfl
theorem NewRow.own {w w1 : World} {v : Value} {bs : List Nat} (h : NewRow w w1 v bs.length (cells8 bs)) : Own w.heap.size w1 5 v (cells8 bs) := by
  obtain ⟨h1, _, h3⟩ := h
  unfold Own
  rw [cells8_length]
  refine ⟨h1.1, ?_⟩
  rcases h1.2 with hn | ⟨g, cap, cur, rfl, _, rest⟩
  · exact .inl hn
  · refine .inr ⟨g, cap, cur, rfl, ?_, rest⟩
    rcases h3 with h3 | ⟨r, h3, hr⟩
    · simp [Value.ownBlock] at h3
    · have : g = r := by simpa [Value.ownBlock] using h3
      omega
/-- The first i differences. -/
def StepTo (w wr : World) (us : List Nat) (i : Nat) (v : Value) (last : Nat) : Prop :=
  Own w.heap.size wr 22 v (cellsU (stepsU 0 (us.take i))) ∧ last = (us.take i).getLast?.getD 0 ∧ last < 2 ^ 64 ∧ Mod (fun _ => False) w wr
theorem StepTo.step {w wr w2 : World} {us : List Nat} {i x last : Nat} {v v2 : Value} {z : Int} (h : StepTo w wr us i v last) (hx : us[i]? = some x) (hx64 : x < 2 ^ 64) (hz : z = zig (sg ((x + M64 - last) % M64)))
    (ho : Own w.heap.size w2 22 v2 (cellsU (stepsU 0 (us.take i)) ++ [.int .u64 z])) (hb : Below w.heap.size wr w2) : StepTo w w2 us (i + 1) v2 x := by
  obtain ⟨_, h2, _, h4⟩ := h
  refine ⟨?_, (last_take hx).symm, hx64, h4.trans (Mod.of_below hb) (fun i hi h => by omega)⟩
  rw [take_succ_of hx, stepsU_snoc, ← h2, cellsU_snoc, stepU_int, ← hz]
  exact ho
end Go.Proofs.Ytejnhdenehkpmaa

/- Values told in a codec: putValues. -/
namespace Go.Proofs.Ytejnhdenehkpmaa
open Go.RowKit

theorem EncB.of_own {w w' : World} {bs : List Nat} {v : Value} (h : Own w.heap.size w' 5 v (cells8 bs)) (hm : Mod (fun _ => False) w w') : EncB w w' (some bs) (.returned (.tuple #[v, .bool true])) := ⟨v, rfl, h, hm⟩
end Go.Proofs.Ytejnhdenehkpmaa

/- A row of samples told in a codec: Encode. -/
namespace Go.Proofs.Ytejnhdenehkpmaa
open Go.RowKit

end Go.Proofs.Ytejnhdenehkpmaa

/- The times that bytes begin with, and what is behind them: getTimes. -/
namespace Go.Proofs.Ytejnhdenehkpmaa
open Go.RowKit

def GetT (w w' : World) (o : Option (List Int × List Nat)) (e : Ending) : Prop :=
  match o with
  | some (ts, rest) => ∃ A1 c1 A2 c2, e = .returned (.tuple #[.slice A1 ts.length c1, .slice A2 rest.length c2, .bool true]) ∧ A2 ≠ none ∧ rest.length ≤ c2 ∧ c2 ≤ maxLen ∧ Rds w' w'.heap.size A1 ts.length (cellsI ts) ∧ Rds w' w.heap.size A2 rest.length (cells8 rest) ∧ Mod (fun _ => False) w w'
  | none => ∃ v1 v2, e = .returned (.tuple #[v1, v2, .bool false]) ∧ Mod (fun _ => False) w w'
theorem GetT.some_ {w w' : World} {o : Option (List Int × List Nat)} {ts : List Int} {rest : List Nat} {e : Ending} (h : GetT w w' o e) (ho : o = some (ts, rest)) :
    ∃ A1 c1 A2 c2, e = .returned (.tuple #[.slice A1 ts.length c1, .slice A2 rest.length c2, .bool true]) ∧ A2 ≠ none ∧ rest.length ≤ c2 ∧ c2 ≤ maxLen ∧ Rds w' w'.heap.size A1 ts.length (cellsI ts) ∧ Rds w' w.heap.size A2 rest.length (cells8 rest) ∧ Mod (fun _ => False) w w' := by
  subst ho
  exact h
theorem GetT.none_ {w w' : World} {o : Option (List Int × List Nat)} {e : Ending} (h : GetT w w' o e) (ho : o = none) : ∃ v1 v2, e = .returned (.tuple #[v1, v2, .bool false]) ∧ Mod (fun _ => False) w w' := by
  subst ho
  exact h
end Go.Proofs.Ytejnhdenehkpmaa

/- The document's own: numbers of so many bits each are packed behind bytes, and unpacked. -/
namespace Go.Proofs.Ytejnhdenehkpmaa
open Go.RowKit

end Go.Proofs.Ytejnhdenehkpmaa

/- Bytes are read as values by their list: read, Decode. -/
namespace Go.Proofs.Ytejnhdenehkpmaa
open Go.RowKit Go.Maps

end Go.Proofs.Ytejnhdenehkpmaa

/- Bytes are read as values by their least: read, Decode. -/
namespace Go.Proofs.Ytejnhdenehkpmaa
open Go.RowKit

end Go.Proofs.Ytejnhdenehkpmaa

/- A turn is read: get. -/
namespace Go.Proofs.Ytejnhdenehkpmaa
open Go.RowKit

/-- Behind the window's own bits: which window is told, and whether anew. -/
def Mid (win s : Option (Nat × Nat)) (a z : Nat) (fresh : Bool) (s' : Option (Nat × Nat)) : Prop :=
  (getO 1 s).1 ≠ 0 ∧ ((fresh = false ∧ (getO 1 (getO 1 s).2).1 = 0 ∧ a = winA win ∧ z = winS win ∧ s' = (getO 1 (getO 1 s).2).2) ∨
    (fresh = true ∧ (getO 1 (getO 1 s).2).1 ≠ 0 ∧ a = (getO 5 (getO 1 (getO 1 s).2).2).1 ∧ z = (getO 6 (getO 5 (getO 1 (getO 1 s).2).2).2).1 + 1 ∧ s' = (getO 6 (getO 5 (getO 1 (getO 1 s).2).2).2).2))
section
variable {win s s' : Option (Nat × Nat)} {a z : Nat} {fresh : Bool}
theorem Mid.bounds (h : Mid win s a z fresh s') (hs : SmallO s) (hw : WinOk win) : a ≤ 31 ∧ z ≤ 64 ∧ SmallO s' := by
  obtain ⟨_, ⟨_, _, h1, h2, h3⟩ | ⟨_, _, h1, h2, h3⟩⟩ := h
  · have := win_bounds hw
    exact ⟨by omega, by omega, h3 ▸ (hs.get 1).get 1⟩
  · have e1 := ((hs.get 1).get 1).lt 5
    have e2 := (((hs.get 1).get 1).get 5).lt 6
    exact ⟨by omega, by omega, h3 ▸ (((hs.get 1).get 1).get 5).get 6⟩
theorem Mid.far (h : Mid win s a z fresh s') (hw : WinOk win) (hf : 64 < a + z) : stO win s = none := by
  obtain ⟨h0, ⟨_, _, h1, h2, _⟩ | ⟨_, h1, h2, h3, _⟩⟩ := h
  · have := win_bounds hw
    omega
  · exact stO_far h0 h1 (by rw [← h2, ← h3]; exact hf)
end
end Go.Proofs.Ytejnhdenehkpmaa

/- Rows of values are read: Decode. -/
namespace Go.Proofs.Ytejnhdenehkpmaa
open Go.RowKit

end Go.Proofs.Ytejnhdenehkpmaa

/- Values read in each codec: getSimple, getSame, getValues. -/
namespace Go.Proofs.Ytejnhdenehkpmaa
open Go.RowKit

/-- Differences turned into values, as far as i. -/
def BackTo (w wr : World) (us : List Nat) (A : Option Addr) (L c i last : Nat) : Prop :=
  Own w.heap.size wr 22 (.slice A L c) (cellsU (unstepsU 0 (us.take i) ++ us.drop i)) ∧ last = (unstepsU 0 (us.take i)).getLast?.getD 0 ∧ last < 2 ^ 64 ∧ Mod (fun _ => False) w wr
theorem BackTo.step {w wr : World} {us : List Nat} {A : Option Addr} {L c i last u : Nat} (h : BackTo w wr us A L c i last) (hL : us.length = L) (hi : i < L) (hu : us[i]? = some u) :
    ∃ g, A = some ⟨g, 0, none⟩ ∧ w.heap.size ≤ g ∧ wr.cell? ⟨g, i, none⟩ = some (.int .u64 (u : Int)) ∧ wr.frozen? ⟨g, i, none⟩ = false ∧ BackTo w (wr.setCell ⟨g, i, none⟩ (.int .u64 (backU last u : Int))) us A L c (i + 1) (backU last u) := by
  obtain ⟨h1, h2, h3, h4⟩ := h
  have hlen : (unstepsU 0 (us.take i) ++ us.drop i).length = L := by rw [List.length_append, unstepsU_len, List.length_take, List.length_drop]; omega
  obtain ⟨g, cap, hv, hgB, _⟩ := h1.form' (by rw [cellsU_length, hlen]; omega)
  have hA : A = some ⟨g, 0, none⟩ := by injection hv
  subst hA
  have ht : (us.take i).length = i := by rw [List.length_take]; omega
  obtain ⟨a1, a2, a3⟩ := own_setU (k := i) (b := backU last u) h1 hlen.symm hi
  have hc := h1.cell' rfl i (by rw [cellsU_length, hlen]; exact hi)
  have hget : (unstepsU 0 (us.take i) ++ us.drop i)[i]? = some u := by
    rw [List.getElem?_append_right (by rw [unstepsU_len]; omega), unstepsU_len, ht, Nat.sub_self, List.getElem?_drop, Nat.add_zero]
    exact hu
  refine ⟨g, rfl, hgB, ?_, a2, ?_, ?_, backU_lt _ _, mod_new h4 hgB _⟩
  · rw [hc, cellsU_get, hget]
    rfl
  · have e : (unstepsU 0 (us.take i) ++ us.drop i).set i (backU last u) = unstepsU 0 (us.take (i + 1)) ++ us.drop (i + 1) := by
      rw [List.set_append_right _ _ (by rw [unstepsU_len]; omega), unstepsU_len, ht, Nat.sub_self, drop_at' hu, List.set_cons_zero, take_succ_of hu, unstepsU_snoc, ← h2, List.append_assoc]
      rfl
    rw [e] at a3
    exact a3
  · rw [take_succ_of hu, unstepsU_snoc, ← h2, List.getLast?_concat]
    rfl
theorem EncE.of_own {w w' : World} {us : List Nat} {v : Value} (h : Own w.heap.size w' 22 v (cellsU us)) (hm : Mod (fun _ => False) w w') : EncE w w' (some us) (.returned (.tuple #[v, .bool true])) := ⟨v, rfl, h, hm⟩
end Go.Proofs.Ytejnhdenehkpmaa

/- Values read in a codec: getSame, getValues. -/
namespace Go.Proofs.Ytejnhdenehkpmaa
open Go.RowKit

end Go.Proofs.Ytejnhdenehkpmaa

/- A row of samples read in a codec: read, Decode. -/
namespace Go.Proofs.Ytejnhdenehkpmaa
open Go.RowKit

/-- A row of samples and true, or nil and false. -/
def EncS (w w' : World) (o : Option (List (Int × Nat))) (e : Ending) : Prop :=
  match o with
  | some l => ∃ v, e = .returned (.tuple #[v, .bool true]) ∧ OwnS w.heap.size w' v l ∧ Mod (fun _ => False) w w'
  | none => e = .returned (.tuple #[.slice none 0 0, .bool false]) ∧ Mod (fun _ => False) w w'
theorem EncS.some_ {w w' : World} {o : Option (List (Int × Nat))} {l : List (Int × Nat)} {e : Ending} (h : EncS w w' o e) (ho : o = some l) : ∃ v, e = .returned (.tuple #[v, .bool true]) ∧ OwnS w.heap.size w' v l ∧ Mod (fun _ => False) w w' := by
  subst ho
  exact h
theorem EncS.none_ {w w' : World} {o : Option (List (Int × Nat))} {e : Ending} (h : EncS w w' o e) (ho : o = none) : e = .returned (.tuple #[.slice none 0 0, .bool false]) ∧ Mod (fun _ => False) w w' := by
  subst ho
  exact h
/-- As a row and a bool. -/
theorem EncS.any {w w' : World} {o : Option (List (Int × Nat))} {e : Ending} (h : EncS w w' o e) : ∃ (A : Option Addr) (c : Nat), e = .returned (.tuple #[.slice A (o.getD []).length c, .bool o.isSome]) ∧ RdsS w' w'.heap.size A (o.getD []).length (o.getD []) ∧ Mod (fun _ => False) w w' := by
  cases o with
  | none => obtain ⟨rfl, hm⟩ := h; exact ⟨none, 0, rfl, RdsS.nil _ _ _, hm⟩
  | some l =>
    obtain ⟨v, rfl, ho, hm⟩ := h
    obtain ⟨A, c, rfl, _, _, hr⟩ := ho.form
    exact ⟨A, c, rfl, hr, hm⟩
end Go.Proofs.Ytejnhdenehkpmaa

/- Chunks, of the code: Open. -/
namespace Go.Proofs.Ytejnhdenehkpmaa
open Go.RowKit

/-- What Open answers. -/
def EncO (w w' : World) (o : Option (List (Int × Nat) × Nat)) (e : Ending) : Prop :=
  match o with
  | some (l, t) => ∃ v, e = .returned (.tuple #[v, .int .i64 (t : Int), .bool true]) ∧ OwnS w.heap.size w' v l ∧ Mod (fun _ => False) w w'
  | none => e = .returned (.tuple #[.slice none 0 0, .int .i64 0, .bool false]) ∧ Mod (fun _ => False) w w'
theorem EncO.some_ {w w' : World} {o : Option (List (Int × Nat) × Nat)} {l : List (Int × Nat)} {t : Nat} {e : Ending} (h : EncO w w' o e) (ho : o = some (l, t)) : ∃ v, e = .returned (.tuple #[v, .int .i64 (t : Int), .bool true]) ∧ OwnS w.heap.size w' v l ∧ Mod (fun _ => False) w w' := by
  rw [ho] at h
  exact h
theorem EncO.none_ {w w' : World} {o : Option (List (Int × Nat) × Nat)} {e : Ending} (h : EncO w w' o e) (ho : o = none) : e = .returned (.tuple #[.slice none 0 0, .int .i64 0, .bool false]) ∧ Mod (fun _ => False) w w' := by
  rw [ho] at h
  exact h
theorem EncO.any {w w' : World} {o : Option (List (Int × Nat) × Nat)} {e : Ending} (h : EncO w w' o e) : ∃ (A : Option Addr) (c : Nat), e = .returned (.tuple #[.slice A ((o.map (·.1)).getD []).length c, .int .i64 (((o.map (·.2)).getD 0 : Nat) : Int), .bool o.isSome]) ∧ RdsS w' w'.heap.size A ((o.map (·.1)).getD []).length ((o.map (·.1)).getD []) ∧ Mod (fun _ => False) w w' := by
  cases o with
  | none =>
    obtain ⟨rfl, hm⟩ := h
    exact ⟨none, 0, rfl, RdsS.nil _ _ _, hm⟩
  | some p =>
    obtain ⟨v, rfl, ho, hm⟩ := h
    obtain ⟨A, c, rfl, _, _, hr⟩ := ho.form
    exact ⟨A, c, rfl, hr, hm⟩
end Go.Proofs.Ytejnhdenehkpmaa

/- Work by steps, of the code: what a task is in memory; a row copied; newTask, step, done, bad. -/
namespace Go.Proofs.Ytejnhdenehkpmaa
open Go.RowKit

/-- Samples as elements of two cells. -/
def rowsS (l : List (Int × Nat)) : List (List Value) := l.map fun p => [Value.int .i64 p.1, Value.int .u64 (p.2 : Int)]
theorem rowsS_flat (l : List (Int × Nat)) : (rowsS l).flatten = cellsS l := by simp [rowsS, cellsS, List.flatMap_def]
theorem rowsS_len (l : List (Int × Nat)) : (rowsS l).length = l.length := by simp [rowsS]
theorem rowsS_all (l : List (Int × Nat)) : AllK 2 (rowsS l) := by
  intro r hr
  simp only [rowsS, List.mem_map] at hr
  obtain ⟨p, _, rfl⟩ := hr
  rfl
theorem RdsS.toK {w : World} {B n : Nat} {A : Option Addr} {l : List (Int × Nat)} (h : RdsS w B A n l) : RdsK 2 w B A n (rowsS l) := ⟨by rw [rowsS_len, h.1], rowsS_all l, by rw [rowsS_flat]; exact h.2⟩
theorem OwnK.toS {w : World} {B : Nat} {v : Value} {l : List (Int × Nat)} (h : OwnK 2 B w 48 v (rowsS l)) : OwnS B w v l := by
  have := h.2
  rw [rowsS_len, rowsS_flat] at this
  exact this
theorem eltS2 : EltK Try.prog 32 48 (.agg #[.int .i64 0, .int .u64 0]) 2 16 := EltK.mk Try.underlying32 infoS rfl (by decide)
theorem own_litK {K B : Nat} {w : World} {e : TypeId} (hB : B ≤ w.heap.size) : OwnK K B (w.alloc (.cells #[] e)) e (.slice (some ⟨w.heap.size, 0, none⟩) 0 0) [] := by
  refine ⟨AllK.nil K, ?_⟩
  refine ⟨by simp, .inr ⟨w.heap.size, 0, #[], rfl, hB, heap_alloc_new w _, Nat.le_refl _, Nat.zero_le _, by simp, by simp⟩⟩

/-- A struct of three cells is written. -/
theorem Blk.three {w : World} {g : Nat} {t : TypeId} {c0 c1 c2 : Value} (h : Blk w g t #[c0, c1, c2]) (a b c : Value) :
    (((w.setCell ⟨g, 0, none⟩ a).setCell ⟨g, 1, none⟩ b).setCell ⟨g, 2, none⟩ c).cell? ⟨g, 0, none⟩ = some a ∧ (((w.setCell ⟨g, 0, none⟩ a).setCell ⟨g, 1, none⟩ b).setCell ⟨g, 2, none⟩ c).cell? ⟨g, 1, none⟩ = some b ∧
    (((w.setCell ⟨g, 0, none⟩ a).setCell ⟨g, 1, none⟩ b).setCell ⟨g, 2, none⟩ c).cell? ⟨g, 2, none⟩ = some c ∧
    Blk (((w.setCell ⟨g, 0, none⟩ a).setCell ⟨g, 1, none⟩ b).setCell ⟨g, 2, none⟩ c) g t #[a, b, c] := by
  have h3 : Blk (((w.setCell ⟨g, 0, none⟩ a).setCell ⟨g, 1, none⟩ b).setCell ⟨g, 2, none⟩ c) g t #[a, b, c] := by
    have := ((h.set_ 0 a).set_ 1 b).set_ 2 c
    simpa using this
  refine ⟨?_, ?_, ?_, h3⟩
  · have := h3.cell 0; simpa using this
  · have := h3.cell 1; simpa using this
  · have := h3.cell 2; simpa using this
theorem Mod.three_new {w w' : World} {g : Nat} (h : Mod (fun _ => False) w w') (hg : w.heap.size ≤ g) (a b c : Value) : Mod (fun _ => False) w (((w'.setCell ⟨g, 0, none⟩ a).setCell ⟨g, 1, none⟩ b).setCell ⟨g, 2, none⟩ c) :=
  ((h.setCell (fun hlt => absurd hlt (by simp; omega)) a).setCell (fun hlt => absurd hlt (by simp; omega)) b).setCell (fun hlt => absurd hlt (by simp; omega)) c

end Go.Proofs.Ytejnhdenehkpmaa

/- Samples that come (13.1): what an open list is, and what comes of it; rows of samples copied. -/
namespace Go.Proofs.Ytejnhdenehkpmaa
open Go.RowKit

/-- Whether one has ever come, the last one's time, those that are in no chunk yet. -/
structure OpnN where
  any : Bool
  last : Int
  list : List (Int × Nat)
/-- Is p refused? -/
def noN (o : OpnN) (p : Int × Nat) : Bool := o.any && decide (p.1 ≤ o.last)
def addN (o : OpnN) (p : Int × Nat) : OpnN := if noN o p then o else ⟨true, p.1, o.list ++ [p]⟩
def errN (o : OpnN) (p : Int × Nat) : Int := if noN o p then 1 else 0
theorem noN_true {t T : Int} {l : List (Int × Nat)} {V : Nat} (h : T ≤ t) : noN ⟨true, t, l⟩ (T, V) = true := by simp [noN, h]
theorem noN_false {b : Bool} {t T : Int} {l : List (Int × Nat)} {V : Nat} (h : b = true → t < T) : noN ⟨b, t, l⟩ (T, V) = false := by
  cases b with
  | false => rfl
  | true => have := h rfl; simp [noN]; omega
theorem addN_no {o : OpnN} {p : Int × Nat} (h : noN o p = true) : addN o p = o := by simp [addN, h]
theorem addN_yes {o : OpnN} {p : Int × Nat} (h : noN o p = false) : addN o p = ⟨true, p.1, o.list ++ [p]⟩ := by simp [addN, h]
theorem errN_no {o : OpnN} {p : Int × Nat} (h : noN o p = true) : errN o p = 1 := by simp [errN, h]
theorem errN_yes {o : OpnN} {p : Int × Nat} (h : noN o p = false) : errN o p = 0 := by simp [errN, h]

/-- The chunk that an open list is closed to; nothing of none. -/
def chkN (o : OpnN) : List Nat := (makeC 1 o.list).getD []
/-- What is answered: an open list whose row is the call's own, and an error. -/
def OpnEnd (w w' : World) (o : OpnN) (x : Int) (e : Ending) : Prop := ∃ v, e = .returned (.tuple #[.agg #[.bool o.any, .int .i64 o.last, v], .int .i64 x]) ∧ OwnS w.heap.size w' v o.list ∧ Mod (fun _ => False) w w'

theorem OpnEnd.no {w w' : World} {b : Bool} {t T : Int} {l : List (Int × Nat)} {V : Nat} {e : Ending} (h : OpnEnd w w' (addN ⟨b, t, l⟩ (T, V)) (errN ⟨b, t, l⟩ (T, V)) e) (hno : noN ⟨b, t, l⟩ (T, V) = true) :
    ∃ v, e = .returned (.tuple #[.agg #[.bool b, .int .i64 t, v], .int .i64 1]) ∧ OwnS w.heap.size w' v l ∧ Mod (fun _ => False) w w' := by
  rw [addN_no hno, errN_no hno] at h
  exact h
/-- .. bytes of the call's own, and the open list without its row. -/
def ShutEnd (w w' : World) (o : OpnN) (e : Ending) : Prop := ∃ v, e = .returned (.tuple #[v, .agg #[.bool o.any, .int .i64 o.last, .slice none 0 0]]) ∧ Own w.heap.size w' 5 v (cells8 (chkN o)) ∧ Mod (fun _ => False) w w'
theorem ShutEnd.drew {w w' : World} {o : OpnN} {e : Ending} (h : ShutEnd w w' o e) : ShutEnd w w'.drew o e := by
  obtain ⟨v, e1, h1, h2⟩ := h
  exact ⟨v, e1, h1.drew, h2.drew⟩
theorem EncB.bytes {w w' : World} {o : Option (List Nat)} {e : Ending} (h : EncB w w' o e) : ∃ v b, e = .returned (.tuple #[v, .bool b]) ∧ Own w.heap.size w' 5 v (cells8 (o.getD [])) ∧ Mod (fun _ => False) w w' := by
  cases ho : o with
  | none =>
    obtain ⟨rfl, hm⟩ := EncB.none_ h ho
    exact ⟨_, _, rfl, Own.nil _ _ _, hm⟩
  | some bs =>
    obtain ⟨v, rfl, hown, hm⟩ := EncB.some_ h ho
    exact ⟨v, _, rfl, hown, hm⟩
theorem OwnS.modK {S : Nat → Prop} {w w' : World} {B : Nat} {v : Value} {l : List (Int × Nat)} (h : OwnS B w v l) (hm : Mod S w w') (hS : ∀ k, B ≤ k → ¬ S k) : OwnS B w' v l :=
  hm.owns h (fun k hk hs => hS k (h.block k hk).1 hs)
theorem Mod.three_one (w : World) (g : Nat) (a b c : Value) : Mod (fun k => k = g) w (((w.setCell ⟨g, 0, none⟩ a).setCell ⟨g, 1, none⟩ b).setCell ⟨g, 2, none⟩ c) :=
  ((((Mod.refl (fun k => k = g) w).setCell (p := ⟨g, 0, none⟩) (fun _ => rfl) a).setCell (p := ⟨g, 1, none⟩) (fun _ => rfl) b).setCell (p := ⟨g, 2, none⟩) (fun _ => rfl) c)
/-- append([]api.Sample(nil), l..) and append([]api.Sample{}, l..) -/
theorem oneS (l : List (Int × Nat)) : ∀ u ∈ (rowsS l).flatten, u.oneCell' = true := by rw [rowsS_flat]; exact cellsS_one _
theorem OwnK.nilS (B : Nat) (w : World) : OwnK 2 B w 48 (.slice none 0 0) [] := OwnK.nil _ _ _ _
end Go.Proofs.Ytejnhdenehkpmaa

/- Chunks, of the code: Make. -/
namespace Go.Proofs.Ytejnhdenehkpmaa
open Go.RowKit

end Go.Proofs.Ytejnhdenehkpmaa

/- Samples that come, of the code: copied, Add, Full, Size, Close. -/
namespace Go.Proofs.Ytejnhdenehkpmaa
open Go.RowKit

set_option maxHeartbeats 1000000 in
set_option maxRecDepth 100000 in
theorem copied_any (A : Option Addr) (n c : Nat) (l : List (Int × Nat)) (w : World) (hs : RdsS w w.heap.size A n l) (hm : n ≤ 1000000) :
    Calls Try.prog 58 #[.slice A n c] w fun e w' => ∃ v, e = .returned v ∧ OwnS w.heap.size w' v l ∧ Mod (fun _ => False) w w' := by
  have Hown : Hid (OwnK 2 w.heap.size w 48 (.slice none 0 0) []) := Lib.hid (OwnK.nilS _ _)
  have Hr := Lib.hid hs.toK
  have Hone := Lib.hid (oneS l)
  have hr1 : ([] : List (List Value)).length + n ≤ maxLen := by unfold maxLen; simp; omega
  have hr2 : (([] : List (List Value)).length + n) * 16 ≤ 140737488355328 := by simp; omega
  clear hs
  go_enter Try.func58, Try.ntmps58
  go_wp2_with (at_builtin; refine wpList_appK rfl (.const (.slice none 0 0)) (.tmp 3) _ rfl eltS2 rfl Hown.out rfl Hr.out Hone.out hr1 hr2 (Nat.le_refl _) ?_; intro v4 w4 HO HB HG; clear HG)
  go_ret
  exact ⟨_, rfl, by have := HO.out; rw [List.nil_append] at this; exact this.toS, (Mod.of_below HB.out).mono (fun i hi h => by omega)⟩

set_option maxHeartbeats 1000000 in
set_option maxRecDepth 100000 in
theorem add_any (b : Bool) (t : Int) (A : Option Addr) (n c : Nat) (l : List (Int × Nat)) (T : Int) (V : Nat) (w : World) (hs : RdsS w w.heap.size A n l) (hn : n ≤ 1000000) :
    Calls Try.prog 52 #[.agg #[.bool b, .int .i64 t, .slice A n c], .agg #[.int .i64 T, .int .u64 (V : Int)]] w fun e w' =>
      OpnEnd w w' (addN ⟨b, t, l⟩ (T, V)) (errN ⟨b, t, l⟩ (T, V)) e := by
  obtain ⟨W, hW⟩ : ∃ W, W = ((w.alloc (.cells #[.bool b, .int .i64 t, .slice A n c] 89)).alloc (.cells #[.int .i64 T, .int .u64 (V : Int)] 48)).alloc (.cells #[.bool false, .int .i64 0, .slice none 0 0] 89) := ⟨_, rfl⟩
  obtain ⟨g0, hg0⟩ : ∃ g, g = w.heap.size := ⟨_, rfl⟩
  obtain ⟨g1, hg1⟩ : ∃ g, g = w.heap.size + 1 := ⟨_, rfl⟩
  obtain ⟨g2, hg2⟩ : ∃ g, g = w.heap.size + 1 + 1 := ⟨_, rfl⟩
  have hmW : Mod (fun _ => False) w W := by rw [hW]; exact (((Mod.refl _ _).alloc _).alloc _).alloc _
  have hsz : W.heap.size = g2 + 1 := by rw [hW, hg2]; simp
  have hb0 : Blk W g0 89 #[.bool b, .int .i64 t, .slice A n c] := by rw [hW, hg0]; exact ((Blk.new _ _ _).alloc _).alloc _
  have hb1 : Blk W g1 48 #[.int .i64 T, .int .u64 (V : Int)] := by
    rw [hW, hg1]
    have h := (Blk.new (w.alloc (.cells #[.bool b, .int .i64 t, .slice A n c] 89)) 48 #[.int .i64 T, .int .u64 (V : Int)]).alloc (.cells #[.bool false, .int .i64 0, .slice none 0 0] 89)
    simpa using h
  have hb2 : Blk W g2 89 #[.bool false, .int .i64 0, .slice none 0 0] := by
    rw [hW, hg2]
    have h := Blk.new ((w.alloc (.cells #[.bool b, .int .i64 t, .slice A n c] 89)).alloc (.cells #[.int .i64 T, .int .u64 (V : Int)] 48)) 89 #[.bool false, .int .i64 0, .slice none 0 0]
    simpa using h
  have Hg0 := Lib.hid hg0
  have z0 := hb0.cell 0
  have z1 := hb0.cell 1
  have z2 := hb0.cell 2
  simp at z0 z1 z2
  have Hs := Lib.hid (hs.new hmW).fit; have Hll := Lib.hid hs.1
  have HW := Lib.hid hW; have HmW := Lib.hid hmW; have Hsz := Lib.hid hsz; have Hb0 := Lib.hid hb0; have Hb1 := Lib.hid hb1; have Hb2 := Lib.hid hb2
  have Hg1 := Lib.hid hg1; have Hg2 := Lib.hid hg2
  clear hs hW hmW hsz hb0 hb1 hb2 hg0 hg1 hg2
  go_enter Try.func52, Try.ntmps52
  go_upto_region 1 with fail
  rw [← HW.out, ← Hg2.out, ← Hg1.out, ← Hg0.out]
  go_wp2_with fail
  refine (copied_any A n c l W Hs.out hn).mono ?_
  rintro e w1 ⟨v1, rfl, ho1, hm1⟩
  obtain ⟨A1, L1, c1, rfl, HL1, _, _, _⟩ := ho1.formN
  have hb0 := hm1.blk Hb0.out (fun h => h)
  have hb1 := hm1.blk Hb1.out (fun h => h)
  have hb2 := hm1.blk Hb2.out (fun h => h)
  have y0 := hb0.cell 0
  have y1 := hb0.cell 1
  have x0 := hb1.cell 0
  have x1 := hb1.cell 1
  simp at y0 y1 x0 x1
  have Hm1 := Lib.hid (HmW.out.trans hm1 (fun _ _ h => h)); have Ho1 := Lib.hid ho1; have Hb21 := Lib.hid hb2; have Hb11 := Lib.hid hb1; have Hsz1 := Lib.hid hm1.size
  clear hm1 ho1 hb0 hb1 hb2 z0 z1 z2 Hb0 Hb1 Hb2 Hs HW HmW
  by_cases hno : b = true ∧ T ≤ t
  · obtain ⟨rfl, hTt⟩ := hno
    have r0 := Hb21.out.cell 0
    have r1 := Hb21.out.cell 1
    have r2 := Hb21.out.cell 2
    have f0 := Hb21.out.frozen 0
    have f1 := Hb21.out.frozen 1
    have f2 := Hb21.out.frozen 2
    simp at r0 r1 r2
    have Hno := Lib.hid (noN_true (l := l) (V := V) hTt)
    go_wp2_with fail
    refine bodyPost_ret (v := .tuple #[.agg #[.bool true, .int .i64 t, .slice A1 L1 c1], .int .i64 1]) (by have h := Hb21.out.three (.bool true) (.int .i64 t) (.slice A1 L1 c1); simp [results, Try.results52, go_sem, h.1, h.2.1, h.2.2.1]) rfl ?_
    rw [addN_no Hno.out, errN_no Hno.out]
    exact ⟨_, rfl, (Ho1.out.modK (Mod.three_one _ _ _ _ _) (fun k hk h => by have := Hsz.out; omega)).mono (by have := Hsz.out; have := Hg2.out; omega), Hm1.out.three_new (by have := Hg2.out; omega) _ _ _⟩
  · have hTt : b = true → t < T := fun h => by
      rcases Int.lt_or_le t T with h1 | h1
      · exact h1
      · exact absurd ⟨h, h1⟩ hno
    have Hno := Lib.hid (noN_false (l := l) (V := V) hTt)
    have hcs : Try.prog.cellsOf 48 = 2 := by kernel_rfl
    clear hno
    have HR1 : Hid (l.length + 1 ≤ maxLen ∧ (l.length + 1) * 16 ≤ 140737488355328) := Lib.hid (by have := Hll.out; unfold maxLen; omega)
    have HOd : Hid (OwnS W.heap.size w1.drew (.slice A1 L1 c1) l) := Lib.hid Ho1.out
    have hszd : W.heap.size ≤ w1.drew.heap.size := Hsz1.out
    have Hfin : Hid (∀ (A6 : Option Addr) (L6 c6 : Nat) (w6 : World), OwnS W.heap.size w6 (.slice A6 L6 c6) (l ++ [(T, V)]) → Below W.heap.size w1.drew w6 →
        OpnEnd w (((w6.setCell ⟨g2, 0, none⟩ (.bool true)).setCell ⟨g2, 1, none⟩ (.int .i64 T)).setCell ⟨g2, 2, none⟩ (.slice A6 L6 c6)) (addN ⟨b, t, l⟩ (T, V)) (errN ⟨b, t, l⟩ (T, V)) (.returned (.tuple #[.agg #[.bool true, .int .i64 T, .slice A6 L6 c6], .int .i64 0]))) := Lib.hid (by
      intro A6 L6 c6 w6 ho6 hb6
      rw [addN_yes Hno.out, errN_yes Hno.out]
      exact ⟨_, rfl, (ho6.modK (Mod.three_one _ _ _ _ _) (fun k hk h => by have := Hsz.out; omega)).mono (by have := Hsz.out; have := Hg2.out; omega), ((Hm1.out.drew.trans (Mod.of_below hb6) (fun i hi h => by have := Hsz.out; have := Hg2.out; omega))).three_new (by have := Hg2.out; omega) _ _ _⟩)
    have Hbl : Hid (∀ w6 : World, Below W.heap.size w1.drew w6 → Blk w6 g2 89 #[.bool false, .int .i64 0, .slice none 0 0]) := Lib.hid (fun w6 hb6 => Blk.below (w := w1.drew) Hb21.out hb6 (by have := Hsz.out; omega))
    have Hbs : Hid (∀ w6 : World, Below W.heap.size w1.drew w6 → Blk w6 g1 48 #[.int .i64 T, .int .u64 (V : Int)]) := Lib.hid (fun w6 hb6 => Blk.below (w := w1.drew) Hb11.out hb6 (by have := Hsz.out; have := Hg1.out; have := Hg2.out; omega))
    have x0a : ∀ o, (w1.alloc o).cell? ⟨g1, 0, none⟩ = some (.int .i64 T) := fun o => by have := (Hb11.out.alloc o).cell 0; simpa using this
    clear Hno Ho1 Hm1 Hb21 Hsz1 Hg0 Hg1 Hg2 Hsz Hb11
    cases b with
    | false =>
      clear hTt
      go_upto_region 4 with fail
      go_region_law ((refine step_appS (p := (T, V)) rfl (.tmp 25) (.tmp 27) rfl rfl HOd.out rfl rfl HR1.out.1 HR1.out.2 hszd ?_; intro v6 w6 HO6 HB6; obtain ⟨A6, L6, c6, rfl, HL6, _, _, _⟩ := HO6.out.formN; have r0 := (Hbl.out w6 HB6.out).cell 0; have r1 := (Hbl.out w6 HB6.out).cell 1; have r2 := (Hbl.out w6 HB6.out).cell 2; have f0 := (Hbl.out w6 HB6.out).frozen 0; have f1 := (Hbl.out w6 HB6.out).frozen 1; have f2 := (Hbl.out w6 HB6.out).frozen 2; have q0 := (Hbs.out w6 HB6.out).cell 0; simp at r0 r1 r2 q0))
      all_goals (
        simp only [Act.put, List.getElem_toArray, List.getElem_cons_succ, List.getElem_cons_zero, List.setIfInBounds_toArray, List.set_cons_succ, List.set_cons_zero]
        go_wp2_with fail
        exact bodyPost_ret (v := .tuple #[.agg #[.bool true, .int .i64 T, .slice A6 L6 c6], .int .i64 0]) (by have h := (Hbl.out w6 HB6.out).three (.bool true) (.int .i64 T) (.slice A6 L6 c6); simp [results, Try.results52, go_sem, h.1, h.2.1, h.2.2.1]) rfl (Hfin.out A6 L6 c6 w6 HO6.out HB6.out))
    | true =>
      have hTi : ¬ T ≤ t := by have := hTt rfl; omega
      clear hTt
      go_upto_region 4 with fail
      go_region_law ((refine step_appS (p := (T, V)) rfl (.tmp 25) (.tmp 27) rfl rfl HOd.out rfl rfl HR1.out.1 HR1.out.2 hszd ?_; intro v6 w6 HO6 HB6; obtain ⟨A6, L6, c6, rfl, HL6, _, _, _⟩ := HO6.out.formN; have r0 := (Hbl.out w6 HB6.out).cell 0; have r1 := (Hbl.out w6 HB6.out).cell 1; have r2 := (Hbl.out w6 HB6.out).cell 2; have f0 := (Hbl.out w6 HB6.out).frozen 0; have f1 := (Hbl.out w6 HB6.out).frozen 1; have f2 := (Hbl.out w6 HB6.out).frozen 2; have q0 := (Hbs.out w6 HB6.out).cell 0; simp at r0 r1 r2 q0))
      all_goals (
        simp only [Act.put, List.getElem_toArray, List.getElem_cons_succ, List.getElem_cons_zero, List.setIfInBounds_toArray, List.set_cons_succ, List.set_cons_zero]
        go_wp2_with fail
        exact bodyPost_ret (v := .tuple #[.agg #[.bool true, .int .i64 T, .slice A6 L6 c6], .int .i64 0]) (by have h := (Hbl.out w6 HB6.out).three (.bool true) (.int .i64 T) (.slice A6 L6 c6); simp [results, Try.results52, go_sem, h.1, h.2.1, h.2.2.1]) rfl (Hfin.out A6 L6 c6 w6 HO6.out HB6.out))

end Go.Proofs.Ytejnhdenehkpmaa

/- The code's smaller steps: copies, a refusal, seal, tell. -/
namespace Go.Proofs.Ytejnhdenehkpmaa
open Go.RowKit

set_option maxHeartbeats 1000000 in
set_option maxRecDepth 100000 in
theorem copyS_any (A : Option Addr) (n c : Nat) (l : List (Int × Nat)) (w : World) (hs : RdsS w w.heap.size A n l) (hm : n ≤ 1000000) :
    Calls Try.prog 33 #[.slice A n c] w fun e w' => ∃ v, e = .returned v ∧ OwnS w.heap.size w' v l ∧ Mod (fun _ => False) w w' := by
  have Hown : Hid (OwnK 2 w.heap.size w 48 (.slice none 0 0) []) := Lib.hid (OwnK.nilS _ _)
  have Hr := Lib.hid hs.toK
  have Hone := Lib.hid (oneS l)
  have hr1 : ([] : List (List Value)).length + n ≤ maxLen := by unfold maxLen; simp; omega
  have hr2 : (([] : List (List Value)).length + n) * 16 ≤ 140737488355328 := by simp; omega
  clear hs
  go_enter Try.func33, Try.ntmps33
  go_wp2_with (at_builtin; refine wpList_appK rfl (.const (.slice none 0 0)) (.tmp 3) _ rfl eltS2 rfl Hown.out rfl Hr.out Hone.out hr1 hr2 (Nat.le_refl _) ?_; intro v4 w4 HO HB HG; clear HG)
  go_ret
  exact ⟨_, rfl, by have := HO.out; rw [List.nil_append] at this; exact this.toS, (Mod.of_below HB.out).mono (fun i hi h => by omega)⟩
set_option maxHeartbeats 1000000 in
set_option maxRecDepth 100000 in
theorem copySer_any (A : Option Addr) (n c B : Nat) (rows : List (List Value)) (w : World) (hs : RdsK 5 w B A n rows) (hone : ∀ u ∈ rows.flatten, u.oneCell' = true) (hm : n ≤ 1000000) :
    Calls Try.prog 31 #[.slice A n c] w fun e w' => ∃ v, e = .returned v ∧ OwnK 5 w.heap.size w' 43 v rows ∧ Mod (fun _ => False) w w' := by
  have Hown : Hid (OwnK 5 w.heap.size w 43 (.slice none 0 0) []) := Lib.hid (OwnK.nil _ _ _ _)
  have Hr := Lib.hid hs
  have Hone := Lib.hid hone
  have hr1 : ([] : List (List Value)).length + n ≤ maxLen := by unfold maxLen; simp; omega
  have hr2 : (([] : List (List Value)).length + n) * 48 ≤ 140737488355328 := by simp; omega
  clear hs hone
  go_enter Try.func31, Try.ntmps31
  go_wp2_with (at_builtin; refine wpList_appK rfl (.const (.slice none 0 0)) (.tmp 3) _ rfl eltSer rfl Hown.out rfl Hr.out Hone.out hr1 hr2 (Nat.le_refl _) ?_; intro v4 w4 HO HB HG; clear HG)
  go_ret
  exact ⟨_, rfl, by have := HO.out; rw [List.nil_append] at this; exact this, (Mod.of_below HB.out).mono (fun i hi h => by omega)⟩
set_option maxHeartbeats 1000000 in
set_option maxRecDepth 100000 in
theorem copyIte_any (A : Option Addr) (n c B : Nat) (rows : List (List Value)) (w : World) (hs : RdsK 2 w B A n rows) (hone : ∀ u ∈ rows.flatten, u.oneCell' = true) (hm : n ≤ 1000000) :
    Calls Try.prog 32 #[.slice A n c] w fun e w' => ∃ v, e = .returned v ∧ OwnK 2 w.heap.size w' 50 v rows ∧ Mod (fun _ => False) w w' := by
  have Hown : Hid (OwnK 2 w.heap.size w 50 (.slice none 0 0) []) := Lib.hid (OwnK.nil _ _ _ _)
  have Hr := Lib.hid hs
  have Hone := Lib.hid hone
  have hr1 : ([] : List (List Value)).length + n ≤ maxLen := by unfold maxLen; simp; omega
  have hr2 : (([] : List (List Value)).length + n) * 32 ≤ 140737488355328 := by simp; omega
  clear hs hone
  go_enter Try.func32, Try.ntmps32
  go_wp2_with (at_builtin; refine wpList_appK rfl (.const (.slice none 0 0)) (.tmp 3) _ rfl eltIte rfl Hown.out rfl Hr.out Hone.out hr1 hr2 (Nat.le_refl _) ?_; intro v4 w4 HO HB HG; clear HG)
  go_ret
  exact ⟨_, rfl, by have := HO.out; rw [List.nil_append] at this; exact this, (Mod.of_below HB.out).mono (fun i hi h => by omega)⟩

set_option maxRecDepth 100000 in
theorem failed_any (x : Int) (w : World) : Calls Try.prog 34 #[.int .i64 x] w fun e w' => e = .returned (.agg #[.int .i64 x, .int .i64 0, .slice none 0 0]) ∧ Mod (fun _ => False) w w' := by
  obtain ⟨W, hW, hmW, hbW, hzW⟩ := Blk.box w 34 #[.int .i64 0, .int .i64 0, .slice none 0 0]
  obtain ⟨g, hg⟩ : ∃ g, g = w.heap.size := ⟨_, rfl⟩
  rw [← hg] at hbW
  have r0 := hbW.cell 0
  have r1 := hbW.cell 1
  have r2 := hbW.cell 2
  have f0 := hbW.frozen 0
  have f1 := hbW.frozen 1
  have f2 := hbW.frozen 2
  simp at r0 r1 r2
  have HW := Lib.hid hW; have HmW := Lib.hid hmW; have HbW := Lib.hid hbW; have Hg := Lib.hid hg
  clear hW hmW hbW hg hzW
  go_enter Try.func34, Try.ntmps34
  go_upto_region 1 with fail
  rw [← HW.out, ← Hg.out]
  go_wp2_with fail
  refine bodyPost_ret (v := .agg #[.int .i64 x, .int .i64 0, .slice none 0 0]) (by have h := HbW.out.three (.int .i64 x) (.int .i64 0) (.slice none 0 0); simp [results, Try.results34, go_sem, h.1, h.2.1, h.2.2.1]) rfl ?_
  exact ⟨rfl, HmW.out.three_new (by have := Hg.out; omega) _ _ _⟩

/-- A store, and what is new. -/
def Puts (w w' : World) (p : Addr) (u : Value) : Prop := ∃ w1 G cs, Mod (fun _ => False) w w1 ∧ w.heap.size ≤ G ∧ Blk w1 G 34 cs ∧ Mod (fun k => k = G) (w1.setCell p u) w'
def SealEnd (w w' : World) (p : Addr) (b : Bool) (e : Ending) : Prop :=
  (b = true ∧ e = .returned (.agg #[.int .i64 2, .int .i64 0, .slice none 0 0]) ∧ Mod (fun _ => False) w w') ∨ (b = false ∧ e = .returned (.agg #[.int .i64 0, .int .i64 0, .slice none 0 0]) ∧ Puts w w' p (.bool true))
theorem frozen_mod {w w' : World} {S : Nat → Prop} (hm : Mod S w w') {g o : Nat} (hg : g < w.heap.size) (hS : ¬ S g) (hf : w.frozen? ⟨g, o, none⟩ = false) : w'.frozen? ⟨g, o, none⟩ = false := by
  have h1 := hm.block g hg hS
  unfold World.frozen? at hf ⊢
  simp only [h1]
  exact hf
theorem Mod.three_up {S : Nat → Prop} {w w' : World} {g : Nat} (h : Mod S w w') (hg : S g) (a b c : Value) : Mod S w (((w'.setCell ⟨g, 0, none⟩ a).setCell ⟨g, 1, none⟩ b).setCell ⟨g, 2, none⟩ c) :=
  ((h.setCell (p := ⟨g, 0, none⟩) (fun _ => hg) a).setCell (p := ⟨g, 1, none⟩) (fun _ => hg) b).setCell (p := ⟨g, 2, none⟩) (fun _ => hg) c
set_option maxHeartbeats 1000000 in
set_option maxRecDepth 100000 in
theorem seal_any (g o : Nat) (b : Bool) (w : World) (hc : w.cell? ⟨g, o + 1, none⟩ = some (.bool b)) (hf : w.frozen? ⟨g, o + 1, none⟩ = false) :
    Calls Try.prog 41 #[.pointer (some ⟨g, o, none⟩)] w fun e w' => SealEnd w w' ⟨g, o + 1, none⟩ b e := by
  obtain ⟨W, hW, hmW, hbW, hzW⟩ := Blk.box w 34 #[.int .i64 0, .int .i64 0, .slice none 0 0]
  obtain ⟨G, hG⟩ : ∃ g, g = w.heap.size := ⟨_, rfl⟩
  rw [← hG] at hbW
  have hg : g < w.heap.size := World.block_lt_of_cell? w _ hc
  have hcW : W.cell? ⟨g, o + 1, none⟩ = some (.bool b) := (hmW.cell (a := ⟨g, o + 1, none⟩) hg (fun h => h)).trans hc
  have hfW : W.frozen? ⟨g, o + 1, none⟩ = false := frozen_mod hmW hg (fun h => h) hf
  have hne : ¬ G = g := by omega
  have HW := Lib.hid hW; have HmW := Lib.hid hmW; have HbW := Lib.hid hbW; have HG := Lib.hid hG; have HzW := Lib.hid hzW; have Hg := Lib.hid hg
  clear hW hmW hbW hG hzW hc hf hg
  go_enter Try.func41, Try.ntmps41
  cases b with
  | true =>
    go_upto_region 1 with fail
    rw [← HW.out, ← HG.out]
    go_wp2_with fail
    refine (failed_any 2 W).mono ?_
    rintro e w1 ⟨rfl, hm1⟩
    have hb1 := hm1.blk HbW.out (fun h => h)
    have r0 := hb1.cell 0
    have r1 := hb1.cell 1
    have r2 := hb1.cell 2
    have f0 := hb1.frozen 0
    have f1 := hb1.frozen 1
    have f2 := hb1.frozen 2
    simp at r0 r1 r2
    have Hb1 := Lib.hid hb1; have Hm1 := Lib.hid (HmW.out.trans hm1 (fun _ _ h => h))
    clear hb1 hm1
    go_wp2_with fail
    refine bodyPost_ret (v := .agg #[.int .i64 2, .int .i64 0, .slice none 0 0]) (by have h := Hb1.out.three (.int .i64 2) (.int .i64 0) (.slice none 0 0); simp [results, Try.results41, go_sem, h.1, h.2.1, h.2.2.1]) rfl ?_
    exact .inl ⟨rfl, rfl, Hm1.out.three_new (by have := HG.out; omega) _ _ _⟩
  | false =>
    obtain ⟨W2, hW2⟩ : ∃ W2, W2 = W.setCell ⟨g, o + 1, none⟩ (.bool true) := ⟨_, rfl⟩
    have hb2 : Blk W2 G 34 #[.int .i64 0, .int .i64 0, .slice none 0 0] := by rw [hW2]; exact HbW.out.far (p := ⟨g, o + 1, none⟩) hne _
    have r0 := hb2.cell 0
    have r1 := hb2.cell 1
    have r2 := hb2.cell 2
    have f0 := hb2.frozen 0
    have f1 := hb2.frozen 1
    have f2 := hb2.frozen 2
    simp at r0 r1 r2
    have HW2 := Lib.hid hW2; have Hb2 := Lib.hid hb2
    clear hW2 hb2
    go_upto_region 1 with fail
    rw [← HW.out, ← HG.out]
    go_upto_region 4 with fail
    rw [← HW2.out]
    go_wp2_with fail
    refine bodyPost_ret (v := .agg #[.int .i64 0, .int .i64 0, .slice none 0 0]) (by have h := Hb2.out.three (.int .i64 0) (.int .i64 0) (.slice none 0 0); simp [results, Try.results41, go_sem, h.1, h.2.1, h.2.2.1]) rfl ?_
    refine .inr ⟨rfl, rfl, W, G, _, HmW.out, (by have := HG.out; omega), HbW.out, ?_⟩
    rw [← HW2.out]
    exact Mod.three_one _ _ _ _ _
end Go.Proofs.Ytejnhdenehkpmaa

/- tell: the first samples of what an iterator has yet to tell. -/
namespace Go.Proofs.Ytejnhdenehkpmaa
open Go.RowKit

theorem minI3_is {P : Program} {t ty : TypeId} {n1 n2 n3 m : Int} (h : min (min n1 n2) n3 = m) : ∀ w, (Builtin.min_ #[t, t, t] ty #[.int .i64 n1, .int .i64 n2, .int .i64 n3]).run P w = .ok (.int .i64 m) w := by
  intro w
  obtain ⟨x, hx⟩ : ∃ x, (if n2 < n1 then n2 else n1) = x := ⟨_, rfl⟩
  have hy : (if n3 < x then n3 else x) = m := by
    rw [← hx]
    split <;> split <;> omega
  simp only [Builtin.min_, List.foldlM, Builtin.min2, Sem.run_bind, Sem.run_pure, Result.andThen_ok, hx, hy]
theorem manyN_le (N : Int) (n : Nat) : manyN N n ≤ n := by unfold manyN; omega
theorem manyN_int (N : Int) (n : Nat) : ((manyN N n : Nat) : Int) = min (min (max 0 N) 1000) (n : Int) := by unfold manyN; omega
/-- v[k:] -/
def restV (A : Option Addr) (n c k : Nat) : Value := .slice (if c = k then A else A.map (·.add (k * 2))) (n - k) (c - k)
def TellEnd (w w' : World) (p : Addr) (A : Option Addr) (n c : Nat) (l : List (Int × Nat)) (N : Int) (e : Ending) : Prop :=
  ∃ v, e = .returned (.agg #[.int .i64 0, .int .i64 0, v]) ∧ OwnS w.heap.size w' v (l.take (manyN N n)) ∧ Puts w w' p (restV A n c (manyN N n))
set_option maxHeartbeats 1000000 in
set_option maxRecDepth 100000 in
theorem tell_any (g o : Nat) (A : Option Addr) (n c : Nat) (l : List (Int × Nat)) (N : Int) (w : World) (hc : w.cell? ⟨g, o + 1, none⟩ = some (.slice A n c)) (hf : w.frozen? ⟨g, o + 1, none⟩ = false) (hs : RdsS w w.heap.size A n l) (hnc : n ≤ c) (hn : n ≤ 1000000) :
    Calls Try.prog 47 #[.pointer (some ⟨g, o, none⟩), .int .i64 N] w fun e w' => TellEnd w w' ⟨g, o + 1, none⟩ A n c l N e := by
  obtain ⟨W, hW, hmW, hbW, hzW⟩ := Blk.box w 34 #[.int .i64 0, .int .i64 0, .slice none 0 0]
  obtain ⟨G, hG⟩ : ∃ g, g = w.heap.size := ⟨_, rfl⟩
  rw [← hG] at hbW
  have hg : g < w.heap.size := World.block_lt_of_cell? w _ hc
  have hcW : W.cell? ⟨g, o + 1, none⟩ = some (.slice A n c) := (hmW.cell (a := ⟨g, o + 1, none⟩) hg (fun h => h)).trans hc
  have hne : ¬ G = g := by omega
  obtain ⟨x, hx⟩ : ∃ x, max 0 N = x := ⟨_, rfl⟩
  obtain ⟨k, hk⟩ : ∃ k, manyN N n = k := ⟨_, rfl⟩
  have hkn : k ≤ n := by rw [← hk]; exact manyN_le N n
  have hki := manyN_int N n
  rw [hk, hx] at hki
  have hmax := fun (ty : TypeId) => maxI_is (P := Try.prog) (t := 3) (ty := ty) hx
  have hmin := fun (ty : TypeId) => minI3_is (P := Try.prog) (t := 3) (ty := ty) hki.symm
  obtain ⟨A1, hA1⟩ : ∃ A1, (if c = k then A else A.map (·.add (k * 2))) = A1 := ⟨_, rfl⟩
  have Hrs : Hid (RdsS W W.heap.size A k (l.take k)) := Lib.hid (by
    have h2 := (hs.toK.take (k := k) hkn)
    refine ⟨by rw [List.length_take, hs.1]; omega, ?_⟩
    have h3 := ((hs.new hmW).fit).2.take (k := k * 2) (by omega)
    have e : (cellsS l).take (k * 2) = cellsS (l.take k) := by
      have h4 := cellsS_app (l.take k) (l.drop k)
      rw [List.take_append_drop] at h4
      rw [h4]
      have h5 : (cellsS (l.take k)).length = k * 2 := by rw [cellsS_len, List.length_take, hs.1]; omega
      rw [← h5, List.take_left]
    rw [e] at h3
    exact h3)
  have HW := Lib.hid hW; have HmW := Lib.hid hmW; have HbW := Lib.hid hbW; have HG := Lib.hid hG; have HzW := Lib.hid hzW; have Hg := Lib.hid hg; have Hk := Lib.hid hk; have HA1 := Lib.hid hA1
  have Hf := Lib.hid (frozen_mod hmW hg (fun h => h) hf)
  have b0 : (0 : Int) ≤ (k : Int) := by omega
  have b1 : (k : Int) ≤ (n : Int) := by omega
  have b2 : (n : Int) ≤ (c : Int) := by omega
  have b3 : (k : Int) ≤ (c : Int) := by omega
  have b4 : k ≤ 1000000 := by omega
  clear hW hmW hbW hG hzW hc hf hg hs hx hk hki hkn hnc
  go_enter Try.func47, Try.ntmps47
  go_upto_region 1 with fail
  rw [← HW.out, ← HG.out]
  go_wp2_with fail
  refine (copyS_any A k c (l.take k) W Hrs.out b4).mono ?_
  rintro e w1 ⟨v1, rfl, ho1, hm1⟩
  obtain ⟨A2, L2, c2, rfl, HL2, _, _, _⟩ := ho1.formN
  have hc1 : w1.cell? ⟨g, o + 1, none⟩ = some (.slice A n c) := (hm1.cell (a := ⟨g, o + 1, none⟩) (by show g < W.heap.size; have := Hg.out; have := HzW.out; omega) (fun h => h)).trans hcW
  have hf1 : w1.frozen? ⟨g, o + 1, none⟩ = false := frozen_mod hm1 (by have := Hg.out; have := HzW.out; omega) (fun h => h) Hf.out
  obtain ⟨W2, hW2⟩ : ∃ W2, W2 = w1.setCell ⟨g, o + 1, none⟩ (.slice A1 (n - k) (c - k)) := ⟨_, rfl⟩
  have hb2 : Blk W2 G 34 #[.int .i64 0, .int .i64 0, .slice none 0 0] := by rw [hW2]; exact (hm1.blk HbW.out (fun h => h)).far (p := ⟨g, o + 1, none⟩) hne _
  have r0 := hb2.cell 0
  have r1 := hb2.cell 1
  have r2 := hb2.cell 2
  have f0 := hb2.frozen 0
  have f1 := hb2.frozen 1
  have f2 := hb2.frozen 2
  simp at r0 r1 r2
  have HW2 := Lib.hid hW2; have Hb2 := Lib.hid hb2; have Ho1 := Lib.hid ho1; have Hm1 := Lib.hid hm1; have Hb1 := Lib.hid (hm1.blk HbW.out (fun h => h))
  clear hW2 hb2 ho1 hm1
  go_upto_region 4 with fail
  rw [← HW2.out]
  go_wp2_with fail
  refine bodyPost_ret (v := .agg #[.int .i64 0, .int .i64 0, .slice A2 L2 c2]) (by have h := Hb2.out.three (.int .i64 0) (.int .i64 0) (.slice A2 L2 c2); simp [results, Try.results47, go_sem, h.1, h.2.1, h.2.2.1]) rfl ?_
  have hmm : Mod (fun j => j < W.heap.size) w1 (((W2.setCell ⟨G, 0, none⟩ (.int .i64 0)).setCell ⟨G, 1, none⟩ (.int .i64 0)).setCell ⟨G, 2, none⟩ (.slice A2 L2 c2)) := by
    rw [HW2.out]
    exact Mod.three_up ((Mod.refl _ w1).setCell (p := ⟨g, o + 1, none⟩) (fun _ => by show g < W.heap.size; have := Hg.out; have := HzW.out; omega) _) (by have := HG.out; have := HzW.out; omega) _ _ _
  refine ⟨_, rfl, ?_, w1, G, _, HmW.out.trans Hm1.out (fun _ _ h => h), (by have := HG.out; omega), Hb1.out, ?_⟩
  · rw [Hk.out]
    exact (Ho1.out.modK hmm (fun j h1 h2 => by omega)).mono (by have := HzW.out; omega)
  · have e : restV A n c (manyN N n) = .slice A1 (n - k) (c - k) := by unfold restV; rw [Hk.out, HA1.out]
    rw [e, ← HW2.out]
    exact Mod.three_one _ _ _ _ _
end Go.Proofs.Ytejnhdenehkpmaa

/- add: a sample comes to a series. -/
namespace Go.Proofs.Ytejnhdenehkpmaa
open Go.RowKit

/-- Refused, or put: three cells of the series are written. -/
def AddEnd (w w' : World) (g o : Nat) (sea any_ : Bool) (last : Int) (l : List (Int × Nat)) (T : Int) (V : Nat) (e : Ending) : Prop :=
  (sea = true ∧ e = .returned (.agg #[.int .i64 2, .int .i64 0, .slice none 0 0]) ∧ Mod (fun _ => False) w w') ∨
  (sea = false ∧ (any_ = true ∧ T ≤ last) ∧ e = .returned (.agg #[.int .i64 1, .int .i64 0, .slice none 0 0]) ∧ Mod (fun _ => False) w w') ∨
  (sea = false ∧ ¬ (any_ = true ∧ T ≤ last) ∧ e = .returned (.agg #[.int .i64 0, .int .i64 0, .slice none 0 0]) ∧ ∃ w1 v G cs, Mod (fun _ => False) w w1 ∧ OwnS w.heap.size w1 v (l ++ [(T, V)]) ∧
    w.heap.size ≤ G ∧ Blk w1 G 34 cs ∧ Mod (fun k => k = G) (((w1.setCell ⟨g, o + 2, none⟩ (.bool true)).setCell ⟨g, o + 3, none⟩ (.int .i64 T)).setCell ⟨g, o + 4, none⟩ v) w')
set_option maxHeartbeats 2000000 in
set_option maxRecDepth 100000 in
theorem madd_any (g o : Nat) (sea any_ : Bool) (last : Int) (A : Option Addr) (n c : Nat) (l : List (Int × Nat)) (q : OpN) (w : World)
    (hc1 : w.cell? ⟨g, o + 1, none⟩ = some (.bool sea)) (hc2 : w.cell? ⟨g, o + 2, none⟩ = some (.bool any_)) (hc3 : w.cell? ⟨g, o + 3, none⟩ = some (.int .i64 last)) (hc4 : w.cell? ⟨g, o + 4, none⟩ = some (.slice A n c))
    (hf : ∀ j, w.frozen? ⟨g, o + j, none⟩ = false) (hs : RdsS w w.heap.size A n l) (hn : n ≤ 1000000) :
    Calls Try.prog 40 #[.pointer (some ⟨g, o, none⟩), .agg #[.int .i64 q.kind, .int .i64 q.series, .int .i64 q.iter, .int .i64 q.t, .int .u64 (q.v : Int), .int .i64 q.from_, .int .i64 q.to_, .int .i64 q.n]] w fun e w' =>
      AddEnd w w' g o sea any_ last l q.t q.v e := by
  obtain ⟨qk, qs, qi, T, V, qf, qt, qn⟩ := q
  dsimp only
  have hg : g < w.heap.size := World.block_lt_of_cell? w _ hc1
  obtain ⟨W, hW⟩ : ∃ W, W = (w.alloc (.cells #[.int .i64 qk, .int .i64 qs, .int .i64 qi, .int .i64 T, .int .u64 (V : Int), .int .i64 qf, .int .i64 qt, .int .i64 qn] 24)).alloc (.cells #[.int .i64 0, .int .i64 0, .slice none 0 0] 34) := ⟨_, rfl⟩
  obtain ⟨G0, hG0⟩ : ∃ g, g = w.heap.size := ⟨_, rfl⟩
  obtain ⟨G, hG⟩ : ∃ g, g = w.heap.size + 1 := ⟨_, rfl⟩
  have hmW : Mod (fun _ => False) w W := by rw [hW]; exact ((Mod.refl _ _).alloc _).alloc _
  have hzW : W.heap.size = G + 1 := by rw [hW, hG]; simp
  have hb0 : Blk W G0 24 #[.int .i64 qk, .int .i64 qs, .int .i64 qi, .int .i64 T, .int .u64 (V : Int), .int .i64 qf, .int .i64 qt, .int .i64 qn] := by rw [hW, hG0]; exact (Blk.new _ _ _).alloc _
  have hbW : Blk W G 34 #[.int .i64 0, .int .i64 0, .slice none 0 0] := by
    rw [hW, hG]
    have h := Blk.new (w.alloc (.cells #[.int .i64 qk, .int .i64 qs, .int .i64 qi, .int .i64 T, .int .u64 (V : Int), .int .i64 qf, .int .i64 qt, .int .i64 qn] 24)) 34 #[.int .i64 0, .int .i64 0, .slice none 0 0]
    simpa using h
  have hneG : ¬ G = g := by omega
  have hX : ∀ W', Mod (fun _ => False) W W' → Mod (fun _ => False) W W' ∧ W'.cell? ⟨g, o + 2, none⟩ = some (.bool any_) ∧ W'.cell? ⟨g, o + 3, none⟩ = some (.int .i64 last) ∧ W'.cell? ⟨g, o + 4, none⟩ = some (.slice A n c) ∧ W'.cell? ⟨G0, 3, none⟩ = some (.int .i64 T) ∧ W'.cell? ⟨G0, 4, none⟩ = some (.int .u64 (V : Int)) := fun W' h =>
    ⟨h, ((hmW.trans h (fun _ _ h => h)).cell (a := ⟨g, o + 2, none⟩) hg (fun h => h)).trans hc2, ((hmW.trans h (fun _ _ h => h)).cell (a := ⟨g, o + 3, none⟩) hg (fun h => h)).trans hc3, ((hmW.trans h (fun _ _ h => h)).cell (a := ⟨g, o + 4, none⟩) hg (fun h => h)).trans hc4, (h.blk hb0 (fun h => h)).cell 3, (h.blk hb0 (fun h => h)).cell 4⟩
  have hcW : W.cell? ⟨g, o + 1, none⟩ = some (.bool sea) := (hmW.cell (a := ⟨g, o + 1, none⟩) hg (fun h => h)).trans hc1
  have Hs := Lib.hid (hs.new hmW).fit
  have HW := Lib.hid hW; have HmW := Lib.hid hmW; have HbW := Lib.hid hbW; have HG0 := Lib.hid hG0; have HG := Lib.hid hG; have HzW := Lib.hid hzW; have Hg := Lib.hid hg; have HX := Lib.hid hX; have Hf := Lib.hid hf
  clear hW hmW hbW hb0 hG0 hG hzW hc1 hc2 hc3 hc4 hg hs hf hX
  go_enter Try.func40, Try.ntmps40
  cases sea with
  | true =>
    go_upto_region 1 with fail
    rw [← HW.out, ← HG.out, ← HG0.out]
    go_wp2_with fail
    refine (failed_any 2 W).mono ?_
    rintro e w1 ⟨rfl, hm1⟩
    have hb1 := hm1.blk HbW.out (fun h => h)
    have r0 := hb1.cell 0
    have r1 := hb1.cell 1
    have r2 := hb1.cell 2
    have f0 := hb1.frozen 0
    have f1 := hb1.frozen 1
    have f2 := hb1.frozen 2
    simp at r0 r1 r2
    have Hb1 := Lib.hid hb1; have Hm1 := Lib.hid (HmW.out.trans hm1 (fun _ _ h => h))
    clear hb1 hm1
    go_wp2_with fail
    refine bodyPost_ret (v := .agg #[.int .i64 2, .int .i64 0, .slice none 0 0]) (by have h := Hb1.out.three (.int .i64 2) (.int .i64 0) (.slice none 0 0); simp [results, Try.results40, go_sem, h.1, h.2.1, h.2.2.1]) rfl ?_
    exact .inl ⟨rfl, rfl, Hm1.out.three_new (by have := HG.out; omega) _ _ _⟩
  | false =>
    go_upto_region 1 with fail
    rw [← HW.out, ← HG.out, ← HG0.out]
    obtain ⟨b5, hb5⟩ : ∃ b, (addN ⟨any_, last, l⟩ (T, V)).any = b := ⟨_, rfl⟩
    obtain ⟨t5, ht5⟩ : ∃ b, (addN ⟨any_, last, l⟩ (T, V)).last = b := ⟨_, rfl⟩
    obtain ⟨l5, hl5⟩ : ∃ b, (addN ⟨any_, last, l⟩ (T, V)).list = b := ⟨_, rfl⟩
    obtain ⟨e5, he5⟩ : ∃ b, errN ⟨any_, last, l⟩ (T, V) = b := ⟨_, rfl⟩
    have Hadd : Hid (∀ w' e, OpnEnd W.drew w' (addN ⟨any_, last, l⟩ (T, V)) (errN ⟨any_, last, l⟩ (T, V)) e → ∃ v, e = .returned (.tuple #[.agg #[.bool b5, .int .i64 t5, v], .int .i64 e5]) ∧ OwnS W.heap.size w' v l5 ∧ Mod (fun _ => False) W w') := Lib.hid (by
      rintro w' e ⟨v, h1, h2, h3⟩
      rw [hb5, ht5, he5] at h1
      rw [hl5] at h2
      exact ⟨v, h1, h2, (Mod.refl _ W).drew.trans h3 (fun _ _ h => h)⟩)
    have Hadd2 : Hid (∀ o w' e, OpnEnd (W.alloc o).drew w' (addN ⟨any_, last, l⟩ (T, V)) (errN ⟨any_, last, l⟩ (T, V)) e → ∃ v, e = .returned (.tuple #[.agg #[.bool b5, .int .i64 t5, v], .int .i64 e5]) ∧ OwnS (W.heap.size + 1) w' v l5 ∧ Mod (fun _ => False) W w' ∧ Mod (fun _ => False) (W.alloc o).drew w') := Lib.hid (by
      rintro o w' e ⟨v, h1, h2, h3⟩
      rw [hb5, ht5, he5] at h1
      rw [hl5] at h2
      exact ⟨v, h1, h2.mono (by simp), ((Mod.refl _ W).alloc o).drew.trans h3 (fun _ _ h => h), h3⟩)
    have Hl5 := Lib.hid (And.intro hb5 (And.intro ht5 (And.intro hl5 he5)))
    clear hb5 ht5 hl5 he5
    go_upto_region 3 with fail
    go_cut [5, 6] (fun s5 s6 wx => ∃ G5 A5 L5 c5, s5 = .pointer (some ⟨G5, 0, none⟩) ∧ s6 = .int .i64 e5 ∧ Blk wx G5 89 #[.bool b5, .int .i64 t5, .slice A5 L5 c5] ∧ OwnS W.heap.size wx (.slice A5 L5 c5) l5 ∧ Mod (fun _ => False) W wx ∧ W.heap.size ≤ G5)
    case first =>
      have S0 := Lib.hid (HX.out _ ((Mod.refl _ W).drew))
      go_region_held_law (fun W' => Mod (fun _ => False) W W' ∧ W'.cell? ⟨g, o + 2, none⟩ = some (.bool any_) ∧ W'.cell? ⟨g, o + 3, none⟩ = some (.int .i64 last) ∧ W'.cell? ⟨g, o + 4, none⟩ = some (.slice A n c) ∧ W'.cell? ⟨G0, 3, none⟩ = some (.int .i64 T) ∧ W'.cell? ⟨G0, 4, none⟩ = some (.int .u64 (V : Int)))
        (first
          | (with_reducible exact S0.out)
          | (with_reducible exact S2.out)
          | exact HX.out _ (((Mod.refl _ W).alloc _).drew)
          | exact HX.out _ (Hm1.out.alloc _)
          | exact HX.out _ (Hm1.out.three_new (Nat.le_refl _) _ _ _))
        (first
          | (go_at_call 52; refine (add_any any_ last A n c l T V W.drew Hs.out hn).mono ?_; intro e w1 he; obtain ⟨v1, rfl, ho1, hm1⟩ := Hadd.out _ _ he; obtain ⟨A1, L1, c1, rfl, HL1, _, _, _⟩ := ho1.formN; have Hm1 := Lib.hid hm1; have Ho1 := Lib.hid ho1; have S2 := Lib.hid (HX.out _ hm1); clear he hm1 ho1)
          | (go_at_call 52; refine (add_any any_ last A n c l T V (W.alloc (.cells #[.bool false, .int .i64 0, .slice none 0 0] 89)).drew (Hs.out.alloc (Nat.le_refl _) _).fit hn).mono ?_; intro e w1 he; obtain ⟨v1, rfl, ho1, hm1, hm2⟩ := Hadd2.out _ _ _ he; obtain ⟨A1, L1, c1, rfl, HL1, _, _, _⟩ := ho1.formN; have hb1 := hm2.blk (Blk.drew (Blk.new W 89 #[.bool false, .int .i64 0, .slice none 0 0])) (fun h => h); have Hb1 := Lib.hid hb1; have r0 := hb1.cell 0; have r1 := hb1.cell 1; have r2 := hb1.cell 2; have f0 := hb1.frozen 0; have f1 := hb1.frozen 1; have f2 := hb1.frozen 2; simp at r0 r1 r2; have Hm1 := Lib.hid hm1; have Ho1 := Lib.hid ho1; have S2 := Lib.hid (HX.out _ hm1); clear he hm1 hm2 ho1 hb1))
      all_goals (
        go_wp2_with fail
        go_meet
        first
          | exact ⟨_, _, _, _, rfl, rfl, Blk.new w1 _ _, Ho1.out.alloc _, Hm1.out.alloc _, Hm1.out.size⟩
          | exact ⟨_, _, _, _, rfl, rfl, (Hb1.out.three _ _ _).2.2.2, (Ho1.out.modK (Mod.three_one _ _ _ _ _) (fun k hk h => by omega)).mono (Nat.le_succ _), Hm1.out.three_new (Nat.le_refl _) _ _ _, Nat.le_refl _⟩)
    case rest =>
      obtain ⟨G5, A5, L5, c5, rfl, rfl, hb5, ho5, hm5, hG5⟩ := hcut
      have hmw := HmW.out.trans hm5 (fun _ _ h => h)
      have hbr := hm5.blk HbW.out (fun h => h)
      have Ho5 := Lib.hid ho5; have Hmw := Lib.hid hmw; have HG5 := Lib.hid hG5
      obtain ⟨k1, k2, k3, k4⟩ := Hl5.out
      by_cases hno : any_ = true ∧ T ≤ last
      · obtain ⟨rfl, hTt⟩ := hno
        have h1 := noN_true (l := l) (V := V) hTt
        rw [errN_no h1] at k4
        subst k4
        have HT := Lib.hid hTt
        have Hbr := Lib.hid hbr
        clear k1 k2 k3 h1 hb5 ho5 hm5 hG5 hmw hbr hTt
        go_wp2_with fail
        refine (failed_any 1 _).mono ?_
        rintro e w1 ⟨rfl, hm1⟩
        have hb1 := hm1.blk Hbr.out (fun h => h)
        have r0 := hb1.cell 0
        have r1 := hb1.cell 1
        have r2 := hb1.cell 2
        have f0 := hb1.frozen 0
        have f1 := hb1.frozen 1
        have f2 := hb1.frozen 2
        simp at r0 r1 r2
        have Hb1 := Lib.hid hb1; have Hm1 := Lib.hid (Hmw.out.trans hm1 (fun _ _ h => h))
        clear hb1 hm1
        go_wp2_with fail
        refine bodyPost_ret (v := .agg #[.int .i64 1, .int .i64 0, .slice none 0 0]) (by have h := Hb1.out.three (.int .i64 1) (.int .i64 0) (.slice none 0 0); simp [results, Try.results40, go_sem, h.1, h.2.1, h.2.2.1]) rfl ?_
        exact .inr (.inl ⟨rfl, ⟨rfl, HT.out⟩, rfl, Hm1.out.three_new (by have := HG.out; omega) _ _ _⟩)
      · have h1 : noN ⟨any_, last, l⟩ (T, V) = false := noN_false (fun h => by
          rcases Int.lt_or_le last T with h2 | h2
          · exact h2
          · exact absurd ⟨h, h2⟩ hno)
        rw [errN_yes h1] at k4
        rw [addN_yes h1] at k1 k2 k3
        subst k4
        simp only at k1 k2 k3
        subst k1 k2 k3
        have Hno := Lib.hid hno
        have y0 := hb5.cell 0
        have y1 := hb5.cell 1
        have y2 := hb5.cell 2
        simp at y0 y1 y2
        have hne5 : ¬ G5 = g := by have := Hg.out; have := HzW.out; have := HG.out; omega
        have hX5 := HX.out _ hm5
        obtain ⟨_, s2, s3, s4, _, _⟩ := hX5
        have q2 := frozen_mod hmw Hg.out (fun h => h) (Hf.out 2)
        have q3 := frozen_mod hmw Hg.out (fun h => h) (Hf.out 3)
        have q4 := frozen_mod hmw Hg.out (fun h => h) (Hf.out 4)
        have Hbr := Lib.hid hbr
        clear h1 hb5 ho5 hm5 hG5 hmw hbr hno
        go_upto_region 6 with fail
        go_region
        obtain ⟨W3, hW3⟩ : ∃ W3, W3 = (((wc.setCell ⟨g, o + 2, none⟩ (.bool true)).setCell ⟨g, o + 3, none⟩ (.int .i64 T)).setCell ⟨g, o + 4, none⟩ (.slice A5 L5 c5)).drew := ⟨_, rfl⟩
        have hb3 : Blk W3 G 34 #[.int .i64 0, .int .i64 0, .slice none 0 0] := by
          rw [hW3]
          exact (((Hbr.out.far (p := ⟨g, o + 2, none⟩) hneG _).far (p := ⟨g, o + 3, none⟩) hneG _).far (p := ⟨g, o + 4, none⟩) hneG _).drew
        have r0 := hb3.cell 0
        have r1 := hb3.cell 1
        have r2 := hb3.cell 2
        have f0 := hb3.frozen 0
        have f1 := hb3.frozen 1
        have f2 := hb3.frozen 2
        simp at r0 r1 r2
        have HW3 := Lib.hid hW3; have Hb3 := Lib.hid hb3
        clear hW3 hb3
        rw [← HW3.out]
        go_wp2_with fail
        refine bodyPost_ret (v := .agg #[.int .i64 0, .int .i64 0, .slice none 0 0]) (by have h := Hb3.out.three (.int .i64 0) (.int .i64 0) (.slice none 0 0); simp [results, Try.results40, go_sem, h.1, h.2.1, h.2.2.1]) rfl ?_
        refine .inr (.inr ⟨rfl, Hno.out, rfl, wc, _, G, _, Hmw.out, Ho5.out.mono (by have := HzW.out; have := HG.out; omega), (by have := HG.out; omega), Hbr.out, ?_⟩)
        have h6 : Mod (fun k => k = G) (((wc.setCell ⟨g, o + 2, none⟩ (.bool true)).setCell ⟨g, o + 3, none⟩ (.int .i64 T)).setCell ⟨g, o + 4, none⟩ (.slice A5 L5 c5)) W3 := by
          rw [HW3.out]
          exact (Mod.refl _ _).drew
        exact h6.three_up rfl _ _ _
end Go.Proofs.Ytejnhdenehkpmaa

/- slices.Delete of one element, at series and at iterators. -/
namespace Go.Proofs.Ytejnhdenehkpmaa
open Go.RowKit

set_option maxHeartbeats 1000000 in
set_option maxRecDepth 100000 in
theorem delS_any (B g n cap i j q : Nat) (rows : List (List Value)) (w : World) (h : OwnK 5 B w 43 (.slice (some ⟨g, 0, none⟩) n cap) rows) (hone : ∀ u ∈ rows.flatten, u.oneCell' = true) (hj : i + 1 = j) (hi : j ≤ n) (hq : q + 1 = n) (hn : n ≤ 1000000) :
    Calls Try.prog 42 #[.slice (some ⟨g, 0, none⟩) n cap, .int .i64 (i : Int), .int .i64 (j : Int)] w fun e w' =>
      e = .returned (.slice (some ⟨g, 0, none⟩) q cap) ∧ OwnK 5 B w' 43 (.slice (some ⟨g, 0, none⟩) q cap) (rows.take i ++ rows.drop j) ∧ Mod (fun k => k = g) w w' := by
  obtain ⟨cur, hb, hB, hr, hnc, hc, hs, ht⟩ := h.blk
  obtain ⟨A, hA⟩ : ∃ A, some (⟨g, 0, none⟩ : Addr) = A := ⟨_, rfl⟩
  obtain ⟨A1, hA1⟩ : ∃ A1, (if cap = j then A else A.map (·.add (j * 5))) = A1 := ⟨_, rfl⟩
  obtain ⟨A2, hA2⟩ : ∃ A2, (if cap = q then A else A.map (·.add (q * 5))) = A2 := ⟨_, rfl⟩
  have hne : A1 ≠ none := by rw [← hA1, ← hA]; split <;> simp
  have hA2' : A2 = some ⟨g, q * 5, none⟩ := by rw [← hA2, ← hA, if_neg (by omega), Option.map_some, add_addr, Nat.zero_add]
  have hR : RdsK 5 w w.heap.size A1 (n - j) (rows.drop j) := by rw [← hA1, ← hA]; exact (h.rds hr).drop (by omega) hnc (by decide)
  have h1c : ∀ u ∈ (rows.drop j).flatten, u.oneCell' = true := fun u hu => by
    obtain ⟨r, hr, hu⟩ := List.mem_flatten.1 hu
    exact hone u (List.mem_flatten.2 ⟨r, List.mem_of_mem_drop hr, hu⟩)
  obtain ⟨W1, hW1⟩ : ∃ W1, W1 = w.drew.setCells g (i * 5) (rows.drop j).flatten := ⟨_, rfl⟩
  have run1 : ∀ ty c, (Builtin.append_ #[28, 28] ty #[.slice A i cap, .slice A1 (n - j) c]).run Try.prog w.drew = .ok (.slice A q cap) W1 := by
    intro ty c
    have h2 := run_append_in (w := w.drew) (c := c) eltSer (n := i) h.drew hne ⟨_, hR.drew⟩ h1c (by omega) ty
    rw [show i + (n - j) = q by omega] at h2
    rw [hW1, ← hA]
    exact h2
  have hO1 : OwnK 5 B W1 43 (.slice (some ⟨g, 0, none⟩) q cap) (rows.take i ++ rows.drop j) := by
    have h2 := (h.drew.cut (k := i) (by omega)).grown (news := rows.drop j) (m := n - j) (h.1.drop j) (by rw [List.length_drop]; omega) (by omega)
    rw [show i + (n - j) = q by omega] at h2
    rw [hW1]
    exact h2
  have hM1 : Mod (fun k => k = g) w W1 := by rw [hW1]; exact mod_setCells _ _ _ _ _ (Mod.refl _ w).drew
  obtain ⟨vs, hvl, hcl⟩ := run_clearK (P := Try.prog) (w := W1) eltSer Try.zeroValue43 (by decide) (b := g) (o := q * 5) (n := n - q) (by omega) (fun j hj => (hO1.open_ (by omega)).1) (fun j hj => (hO1.open_ (by omega)).2)
  have hfin : OwnK 5 B (W1.setCells g (q * 5) vs) 43 (.slice (some ⟨g, 0, none⟩) q cap) (rows.take i ++ rows.drop j) ∧ Mod (fun k => k = g) w (W1.setCells g (q * 5) vs) :=
    ⟨hO1.behind (Nat.le_refl _) (by rw [hvl]; omega), mod_setCells _ _ _ _ _ hM1⟩
  have Hcl : Hid (∀ ty c, (Builtin.clear_ #[28] ty #[.slice A2 (n - q) c]).run Try.prog W1 = .ok (.tuple #[]) (W1.setCells g (q * 5) vs)) := Lib.hid (by rw [hA2']; exact hcl)
  have Hrun1 := Lib.hid run1
  have Hfin := Lib.hid hfin
  have HA := Lib.hid hA
  have b1 : (i : Int) ≤ (j : Int) := by omega
  have b2 : (j : Int) ≤ (n : Int) := by omega
  have b3 : (n : Int) ≤ (cap : Int) := by omega
  have b4 : ¬ (i : Int) = (j : Int) := by omega
  have b5 : (q : Int) ≤ (n : Int) := by omega
  have b6 : (i : Int) ≤ (cap : Int) := by omega
  have b7 : (n : Int) ≤ 1000000 := by omega
  rw [hA]
  clear h hone hj hi hq hn hb hB hr hnc hc hs ht hne hA2' hR h1c hW1 run1 hO1 hM1 hvl hcl hfin hA
  go_enter Try.func42, Try.ntmps42
  go_wp2_with fail
  go_region_law (refine step_append_run (v := .slice A i cap) (u := .slice A1 (n - j) (cap - j)) rfl (.tmp 22) (.tmp 25) _ rfl (by kernel_rfl) (by kernel_rfl) (Hrun1.out _ _) ?_)
  all_goals (
    have hcl := Hcl.out
    go_wp2_with fail
    go_ret
    have h := Hfin.out
    rw [HA.out] at h
    exact ⟨rfl, h⟩)
set_option maxHeartbeats 1000000 in
set_option maxRecDepth 100000 in
theorem delI_any (B g n cap i j q : Nat) (rows : List (List Value)) (w : World) (h : OwnK 2 B w 50 (.slice (some ⟨g, 0, none⟩) n cap) rows) (hone : ∀ u ∈ rows.flatten, u.oneCell' = true) (hj : i + 1 = j) (hi : j ≤ n) (hq : q + 1 = n) (hn : n ≤ 1000000) :
    Calls Try.prog 48 #[.slice (some ⟨g, 0, none⟩) n cap, .int .i64 (i : Int), .int .i64 (j : Int)] w fun e w' =>
      e = .returned (.slice (some ⟨g, 0, none⟩) q cap) ∧ OwnK 2 B w' 50 (.slice (some ⟨g, 0, none⟩) q cap) (rows.take i ++ rows.drop j) ∧ Mod (fun k => k = g) w w' := by
  obtain ⟨cur, hb, hB, hr, hnc, hc, hs, ht⟩ := h.blk
  obtain ⟨A, hA⟩ : ∃ A, some (⟨g, 0, none⟩ : Addr) = A := ⟨_, rfl⟩
  obtain ⟨A1, hA1⟩ : ∃ A1, (if cap = j then A else A.map (·.add (j * 2))) = A1 := ⟨_, rfl⟩
  obtain ⟨A2, hA2⟩ : ∃ A2, (if cap = q then A else A.map (·.add (q * 2))) = A2 := ⟨_, rfl⟩
  have hne : A1 ≠ none := by rw [← hA1, ← hA]; split <;> simp
  have hA2' : A2 = some ⟨g, q * 2, none⟩ := by rw [← hA2, ← hA, if_neg (by omega), Option.map_some, add_addr, Nat.zero_add]
  have hR : RdsK 2 w w.heap.size A1 (n - j) (rows.drop j) := by rw [← hA1, ← hA]; exact (h.rds hr).drop (by omega) hnc (by decide)
  have h1c : ∀ u ∈ (rows.drop j).flatten, u.oneCell' = true := fun u hu => by
    obtain ⟨r, hr, hu⟩ := List.mem_flatten.1 hu
    exact hone u (List.mem_flatten.2 ⟨r, List.mem_of_mem_drop hr, hu⟩)
  obtain ⟨W1, hW1⟩ : ∃ W1, W1 = w.drew.setCells g (i * 2) (rows.drop j).flatten := ⟨_, rfl⟩
  have run1 : ∀ ty c, (Builtin.append_ #[29, 29] ty #[.slice A i cap, .slice A1 (n - j) c]).run Try.prog w.drew = .ok (.slice A q cap) W1 := by
    intro ty c
    have h2 := run_append_in (w := w.drew) (c := c) eltIte (n := i) h.drew hne ⟨_, hR.drew⟩ h1c (by omega) ty
    rw [show i + (n - j) = q by omega] at h2
    rw [hW1, ← hA]
    exact h2
  have hO1 : OwnK 2 B W1 50 (.slice (some ⟨g, 0, none⟩) q cap) (rows.take i ++ rows.drop j) := by
    have h2 := (h.drew.cut (k := i) (by omega)).grown (news := rows.drop j) (m := n - j) (h.1.drop j) (by rw [List.length_drop]; omega) (by omega)
    rw [show i + (n - j) = q by omega] at h2
    rw [hW1]
    exact h2
  have hM1 : Mod (fun k => k = g) w W1 := by rw [hW1]; exact mod_setCells _ _ _ _ _ (Mod.refl _ w).drew
  obtain ⟨vs, hvl, hcl⟩ := run_clearK (P := Try.prog) (w := W1) eltIte Try.zeroValue50 (by decide) (b := g) (o := q * 2) (n := n - q) (by omega) (fun j hj => (hO1.open_ (by omega)).1) (fun j hj => (hO1.open_ (by omega)).2)
  have hfin : OwnK 2 B (W1.setCells g (q * 2) vs) 50 (.slice (some ⟨g, 0, none⟩) q cap) (rows.take i ++ rows.drop j) ∧ Mod (fun k => k = g) w (W1.setCells g (q * 2) vs) :=
    ⟨hO1.behind (Nat.le_refl _) (by rw [hvl]; omega), mod_setCells _ _ _ _ _ hM1⟩
  have Hcl : Hid (∀ ty c, (Builtin.clear_ #[29] ty #[.slice A2 (n - q) c]).run Try.prog W1 = .ok (.tuple #[]) (W1.setCells g (q * 2) vs)) := Lib.hid (by rw [hA2']; exact hcl)
  have Hrun1 := Lib.hid run1
  have Hfin := Lib.hid hfin
  have HA := Lib.hid hA
  have b1 : (i : Int) ≤ (j : Int) := by omega
  have b2 : (j : Int) ≤ (n : Int) := by omega
  have b3 : (n : Int) ≤ (cap : Int) := by omega
  have b4 : ¬ (i : Int) = (j : Int) := by omega
  have b5 : (q : Int) ≤ (n : Int) := by omega
  have b6 : (i : Int) ≤ (cap : Int) := by omega
  have b7 : (n : Int) ≤ 1000000 := by omega
  rw [hA]
  clear h hone hj hi hq hn hb hB hr hnc hc hs ht hne hA2' hR h1c hW1 run1 hO1 hM1 hvl hcl hfin hA
  go_enter Try.func48, Try.ntmps48
  go_wp2_with fail
  go_region_law (refine step_append_run (v := .slice A i cap) (u := .slice A1 (n - j) (cap - j)) rfl (.tmp 22) (.tmp 25) _ rfl (by kernel_rfl) (by kernel_rfl) (Hrun1.out _ _) ?_)
  all_goals (
    have hcl := Hcl.out
    go_wp2_with fail
    go_ret
    have h := Hfin.out
    rw [HA.out] at h
    exact ⟨rfl, h⟩)
end Go.Proofs.Ytejnhdenehkpmaa

/- append of one element of K cells, with what else turns; rows of samples. -/
namespace Go.Proofs.Ytejnhdenehkpmaa
open Go.RowKit
section
variable {P : Program} {w : World}
theorem wpList_appK1g {ops : Array Oper} {rest : List Oper} {o : Oper} {a : Act} {Q : Exit → Act → World → Prop} (hgd : o.guard = none) (s x : Operand) (t : TypeId)
    (ho : o.op = .call { callee := .builtin .append, args := #[s, x], argTypes := #[t, t] }) {e : TypeId} {z : Value} {K bytes : Nat} (hE : EltK P t e z K bytes)
    {B H : Nat} {v : Value} {rows : List (List Value)} {r : List Value} {te : TypeId} (hs : a.eval s = v) (hown : OwnK K B w e v rows) (hx : a.eval x = .slice (some ⟨H, 0, none⟩) 1 1) (hH : w.heap.size = H) (hrK : r.length = K) (h1 : ∀ u ∈ r, u.oneCell' = true)
    (hm : rows.length + 1 ≤ maxLen) (hb : (rows.length + 1) * bytes ≤ 140737488355328) (hB : B ≤ w.heap.size)
    (h : ∀ v' w', Hid (OwnK K B w' e v' (rows ++ [r])) → Hid (Mod (fun k => v.ownBlock = some k) w w') → Hid (v'.ownBlock = v.ownBlock ∨ ∃ k, v'.ownBlock = some k ∧ w.heap.size ≤ k) → wpList P ops Q rest (a.put o.dst v') w') : wpList P ops Q (o :: rest) a (w.alloc (.cells r.toArray te)) := by
  subst hH hrK
  refine wpList_appK hgd s x t ho hE hs (hown.alloc _) hx (RdsK.lit1 w te r) (by simpa using h1) hm hb (by simp; omega) ?_
  intro v' w' h2 _ h4
  refine h v' w' h2 (Lib.hid (((Mod.refl _ w).alloc _).grown h4.out.1 (fun k hk _ => hk))) (Lib.hid ?_)
  rcases h4.out.2 with h5 | h5
  · exact .inl h5
  · exact .inr ⟨_, h5, by simp⟩
end
theorem OwnS.toK {w : World} {B : Nat} {v : Value} {l : List (Int × Nat)} (h : OwnS B w v l) : OwnK 2 B w 48 v (rowsS l) := ⟨rowsS_all l, by rw [rowsS_len, rowsS_flat]; exact h⟩
theorem rowsS_snoc (l : List (Int × Nat)) (p : Int × Nat) : rowsS l ++ [[Value.int .i64 p.1, Value.int .u64 (p.2 : Int)]] = rowsS (l ++ [p]) := by simp [rowsS]
end Go.Proofs.Ytejnhdenehkpmaa

/- copied, Do: any op, done by one hand alone. -/
namespace Go.Proofs.Ytejnhdenehkpmaa
open Go.RowKit

/-- The first i series have rows of their own, the others those that they had. -/
def CopyTo (w0 w : World) (ps qs : List (SerN × Value)) (i : Nat) : Prop := qs.map (·.1) = ps.map (·.1) ∧ (∀ j p, i ≤ j → qs[j]? = some p → ps[j]? = some p) ∧ (∀ j p, j < i → qs[j]? = some p → OwnS w0.heap.size w p.2 p.1.l)
def CopyIt (w0 w : World) (ps qs : List (IteN × Value)) (i : Nat) : Prop := qs.map (·.1) = ps.map (·.1) ∧ (∀ j p, i ≤ j → qs[j]? = some p → ps[j]? = some p) ∧ (∀ j p, j < i → qs[j]? = some p → OwnS w0.heap.size w p.2 p.1.rest)
theorem map_set_same {α β : Type} {l : List α} {i : Nat} {x y : α} (f : α → β) (h : l[i]? = some x) (hf : f y = f x) : (l.set i y).map f = l.map f := by
  rw [List.map_set, hf]
  have h2 : (l.map f)[i]? = some (f x) := by rw [List.getElem?_map, h]; rfl
  obtain ⟨hk, e⟩ := List.getElem?_eq_some_iff.1 h2
  rw [← e]
  exact List.set_getElem_self hk
theorem OwnK.besideB {K B g : Nat} {w w' : World} {e t : TypeId} {v : Value} {rows : List (List Value)} {cs : Array Value} (h : OwnK K B w e v rows) (hb : Blk w g t cs) (hne : e ≠ t) (hm : Mod (fun k => k = g) w w') : OwnK K B w' e v rows :=
  h.modS hm (fun k hk e' => by
    obtain ⟨cs', hcs⟩ := own_blk h k hk
    rw [e'] at hcs
    exact Blk.ne_ hcs hb hne rfl)
theorem OwnS.besideB {B g : Nat} {w w' : World} {t : TypeId} {v : Value} {l : List (Int × Nat)} {cs : Array Value} (h : OwnS B w v l) (hb : Blk w g t cs) (hne : 48 ≠ t) (hm : Mod (fun k => k = g) w w') : OwnS B w' v l :=
  (OwnK.besideB h.toK hb hne hm).toS
theorem CopyTo.step {w0 w w' : World} {ps qs : List (SerN × Value)} {i g : Nat} {s : SerN} {u4 v5 : Value} {cs : Array Value} (h : CopyTo w0 w ps qs i) (hq : qs[i]? = some (s, u4)) (hb : Blk w g 43 cs) (hm : Mod (fun k => k = g) w w') (ho : OwnS w0.heap.size w' v5 s.l) : CopyTo w0 w' ps (qs.set i (s, v5)) (i + 1) := by
  have hil := (List.getElem?_eq_some_iff.1 hq).1
  refine ⟨by rw [map_set_same (y := (s, v5)) (·.1) hq rfl]; exact h.1, fun j p hj hp => ?_, fun j p hj hp => ?_⟩
  · rw [List.getElem?_set_ne (by omega)] at hp
    exact h.2.1 j p (by omega) hp
  · by_cases hji : j = i
    · subst hji
      rw [List.getElem?_set_self hil] at hp
      injection hp with hp
      subst hp
      exact ho
    · rw [List.getElem?_set_ne (fun e => hji e.symm)] at hp
      exact (h.2.2 j p (by omega) hp).besideB hb (by decide) hm
theorem CopyIt.step {w0 w w' : World} {ps qs : List (IteN × Value)} {i g : Nat} {s : IteN} {u4 v5 : Value} {cs : Array Value} (h : CopyIt w0 w ps qs i) (hq : qs[i]? = some (s, u4)) (hb : Blk w g 50 cs) (hm : Mod (fun k => k = g) w w') (ho : OwnS w0.heap.size w' v5 s.rest) : CopyIt w0 w' ps (qs.set i (s, v5)) (i + 1) := by
  have hil := (List.getElem?_eq_some_iff.1 hq).1
  refine ⟨by rw [map_set_same (y := (s, v5)) (·.1) hq rfl]; exact h.1, fun j p hj hp => ?_, fun j p hj hp => ?_⟩
  · rw [List.getElem?_set_ne (by omega)] at hp
    exact h.2.1 j p (by omega) hp
  · by_cases hji : j = i
    · subst hji
      rw [List.getElem?_set_self hil] at hp
      injection hp with hp
      subst hp
      exact ho
    · rw [List.getElem?_set_ne (fun e => hji e.symm)] at hp
      exact (h.2.2 j p (by omega) hp).besideB hb (by decide) hm
theorem CopyTo.new {w0 w w' : World} {ps qs : List (SerN × Value)} {i : Nat} (h : CopyTo w0 w ps qs i) (hm : Mod (fun _ => False) w w') : CopyTo w0 w' ps qs i := ⟨h.1, h.2.1, fun j p hj hp => (h.2.2 j p hj hp).mod hm⟩
theorem CopyIt.new {w0 w w' : World} {ps qs : List (IteN × Value)} {i : Nat} (h : CopyIt w0 w ps qs i) (hm : Mod (fun _ => False) w w') : CopyIt w0 w' ps qs i := ⟨h.1, h.2.1, fun j p hj hp => (h.2.2 j p hj hp).mod hm⟩
set_option maxHeartbeats 1000000 in
set_option maxRecDepth 100000 in
theorem mcopied_any (A : Option Addr) (n c : Nat) (A2 : Option Addr) (n2 c2 : Nat) (m : ModN) (w : World) (h : RdsM w w.heap.size A n c A2 n2 c2 m) (hL : LenM m 100000) (hn : n ≤ 1000) (hn2 : n2 ≤ 1000) :
    Calls Try.prog 18 #[.agg #[.slice A n c, .slice A2 n2 c2, .int .i64 m.next]] w fun e w' => ∃ v v2, e = .returned (.agg #[v, v2, .int .i64 m.next]) ∧ HavM w.heap.size w' v v2 m ∧ Mod (fun _ => False) w w' := by
  obtain ⟨ps, is, hps, his, hR, hR2, hnc, hcm, hnc2, hcm2⟩ := h
  obtain ⟨W, hW⟩ : ∃ W, W = (w.alloc (.cells #[.slice A n c, .slice A2 n2 c2, .int .i64 m.next] 31)).alloc (.cells #[.slice none 0 0, .slice none 0 0, .int .i64 0] 31) := ⟨_, rfl⟩
  obtain ⟨G0, hG0⟩ : ∃ g, g = w.heap.size := ⟨_, rfl⟩
  obtain ⟨G, hG⟩ : ∃ g, g = w.heap.size + 1 := ⟨_, rfl⟩
  obtain ⟨N, hN⟩ : ∃ N, N = m.next := ⟨_, rfl⟩
  rw [← hN] at hW ⊢
  have hmW : Mod (fun _ => False) w W := by rw [hW]; exact ((Mod.refl _ _).alloc _).alloc _
  have hb0 : Blk W G0 31 #[.slice A n c, .slice A2 n2 c2, .int .i64 N] := by rw [hW, hG0]; exact (Blk.new _ _ _).alloc _
  have hbW : Blk W G 31 #[.slice none 0 0, .slice none 0 0, .int .i64 0] := by
    rw [hW, hG]
    have h := Blk.new (w.alloc (.cells #[.slice A n c, .slice A2 n2 c2, .int .i64 N] 31)) 31 #[.slice none 0 0, .slice none 0 0, .int .i64 0]
    simpa using h
  have hzW : W.heap.size = G + 1 := by rw [hW, hG]; simp
  have hone1 : ∀ u ∈ (ps.map serC).flatten, u.oneCell' = true := by
    intro u hu
    obtain ⟨r, hr, hu⟩ := List.mem_flatten.1 hu
    obtain ⟨p, hp, rfl⟩ := List.mem_map.1 hr
    obtain ⟨A, n, c, e, _⟩ := hR.2 p hp
    simp only [serC, e, List.mem_cons, List.not_mem_nil, or_false] at hu
    rcases hu with rfl | rfl | rfl | rfl | rfl <;> rfl
  have hone2 : ∀ u ∈ (is.map iteC).flatten, u.oneCell' = true := by
    intro u hu
    obtain ⟨r, hr, hu⟩ := List.mem_flatten.1 hu
    obtain ⟨p, hp, rfl⟩ := List.mem_map.1 hr
    obtain ⟨A, n, c, e, _⟩ := hR2.2 p hp
    simp only [iteC, e, List.mem_cons, List.not_mem_nil, or_false] at hu
    rcases hu with rfl | rfl <;> rfl
  have Hone1 := Lib.hid hone1; have Hone2 := Lib.hid hone2
  have hX : ∀ W', Mod (fun _ => False) W W' → Mod (fun _ => False) W W' ∧ W'.cell? ⟨G0, 0, none⟩ = some (.slice A n c) ∧ W'.cell? ⟨G0, 1, none⟩ = some (.slice A2 n2 c2) ∧ W'.cell? ⟨G0, 2, none⟩ = some (.int .i64 N) := fun W' h =>
    ⟨h, (h.blk hb0 (fun h => h)).cell 0, (h.blk hb0 (fun h => h)).cell 1, (h.blk hb0 (fun h => h)).cell 2⟩
  have Hps := Lib.hid hps; have His := Lib.hid his; have HR := Lib.hid (hR.new hmW); have HR2 := Lib.hid (hR2.new hmW); have HL := Lib.hid hL
  have HW := Lib.hid hW; have HG0 := Lib.hid hG0; have HG := Lib.hid hG; have HmW := Lib.hid hmW; have HbW := Lib.hid hbW; have HzW := Lib.hid hzW; have HX := Lib.hid hX
  have HN := Lib.hid hN
  have hn1 : n ≤ 1000000 := by omega
  have hn3 : n2 ≤ 1000000 := by omega
  clear hps his hR hR2 hnc hcm hnc2 hcm2 hL hW hG0 hG hN hmW hb0 hbW hzW hone1 hone2 hX
  go_enter Try.func18, Try.ntmps18
  go_upto_region 1 with fail
  rw [← HW.out, ← HG.out, ← HG0.out]
  go_cut [3] (fun s3 wx => ∃ G3 Av cv Aw cw, s3 = .pointer (some ⟨G3, 0, none⟩) ∧ Blk wx G3 31 #[.slice Av n cv, .slice Aw n2 cw, .int .i64 N] ∧ OwnK 5 W.heap.size wx 43 (.slice Av n cv) (ps.map serC) ∧ OwnK 2 W.heap.size wx 50 (.slice Aw n2 cw) (is.map iteC) ∧ Mod (fun _ => False) W wx ∧ W.heap.size ≤ G3)
  case first =>
    have S0 := Lib.hid (HX.out _ ((Mod.refl _ W).drew))
    have Hc1 : Hid (∀ w0 : World, Mod (fun _ => False) W w0 → W.heap.size ≤ w0.heap.size → Calls Try.prog 31 #[.slice A n c] w0 fun e w' => ∃ Av cv, e = .returned (.slice Av n cv) ∧ OwnK 5 w0.heap.size w' 43 (.slice Av n cv) (ps.map serC) ∧ Mod (fun _ => False) w0 w') := Lib.hid (by
      intro w0 hm _
      refine (copySer_any A n c _ (ps.map serC) w0 (HR.out.mod hm (by have := HmW.out.size; omega) (fun _ _ h => h)).1 Hone1.out hn1).mono ?_
      rintro e w' ⟨v, rfl, h1, h2⟩
      obtain ⟨Av, cv, e1, _⟩ := h1.form
      rw [List.length_map, HR.out.len] at e1
      subst e1
      exact ⟨Av, cv, rfl, h1, h2⟩)
    have Hc2 : Hid (∀ w0 : World, Mod (fun _ => False) W w0 → W.heap.size ≤ w0.heap.size → Calls Try.prog 32 #[.slice A2 n2 c2] w0 fun e w' => ∃ Av cv, e = .returned (.slice Av n2 cv) ∧ OwnK 2 w0.heap.size w' 50 (.slice Av n2 cv) (is.map iteC) ∧ Mod (fun _ => False) w0 w') := Lib.hid (by
      intro w0 hm _
      refine (copyIte_any A2 n2 c2 _ (is.map iteC) w0 (HR2.out.mod hm (by have := HmW.out.size; omega) (fun _ _ h => h)).1 Hone2.out hn3).mono ?_
      rintro e w' ⟨v, rfl, h1, h2⟩
      obtain ⟨Av, cv, e1, _⟩ := h1.form
      rw [List.length_map, HR2.out.len] at e1
      subst e1
      exact ⟨Av, cv, rfl, h1, h2⟩)
    have hle0 : W.heap.size ≤ W.drew.heap.size := Nat.le_refl _
    have hle1 : W.heap.size ≤ (W.alloc (.cells #[.slice none 0 0, .slice none 0 0, .int .i64 0] 31)).drew.heap.size := le_alloc W _
    have Hd0 := Lib.hid (Hc1.out W.drew (Mod.refl _ W).drew hle0)
    have Hd1 := Lib.hid (Hc1.out (W.alloc (.cells #[.slice none 0 0, .slice none 0 0, .int .i64 0] 31)).drew (((Mod.refl _ W).alloc _).drew) hle1)
    go_region_held_law (fun W' => Mod (fun _ => False) W W' ∧ W'.cell? ⟨G0, 0, none⟩ = some (.slice A n c) ∧ W'.cell? ⟨G0, 1, none⟩ = some (.slice A2 n2 c2) ∧ W'.cell? ⟨G0, 2, none⟩ = some (.int .i64 N))
      (first
        | (with_reducible exact S0.out)
        | (with_reducible exact S2.out)
        | (with_reducible exact S3.out)
        | exact HX.out _ (((Mod.refl _ W).alloc _).drew)
        | exact HX.out _ (Hm2.out.alloc _)
        | exact HX.out _ (Hm1.out.alloc _)
        | exact HX.out _ (Hm2.out.three_new (Nat.le_refl _) _ _ _)
        | exact HX.out _ (Hm2.out.three_new Hm1.out.size _ _ _))
      (first
        | (go_at_call 32; (with_reducible refine Hf0.out.mono ?_); rintro e w2 ⟨Aw, cw, rfl, ho2, hm2⟩; have hb2 := hm2.blk Hb1.out (fun h => h); have Hb2 := Lib.hid hb2; have r0 := hb2.cell 0; have r1 := hb2.cell 1; have r2 := hb2.cell 2; have f0 := hb2.frozen 0; have f1 := hb2.frozen 1; have f2 := hb2.frozen 2; simp at r0 r1 r2; have Hm2 := Lib.hid (Hm1.out.trans hm2 (fun _ _ h => h)); have Ho1 := Lib.hid (Ho0.out.mod hm2); have Ho2 := Lib.hid (ho2.mono Hm1.out.size); have S3 := Lib.hid (HX.out _ Hm2.out); clear ho2 hm2 hb2)
        | (go_at_call 32; (with_reducible refine He0.out.mono ?_); rintro e w2 ⟨Aw, cw, rfl, ho2, hm2⟩; have Hm2 := Lib.hid (Hm1.out.trans hm2 (fun _ _ h => h)); have Ho1 := Lib.hid (Ho0.out.mod hm2); have Ho2 := Lib.hid (ho2.mono Hm1.out.size); have S3 := Lib.hid (HX.out _ Hm2.out); clear ho2 hm2)
        | (go_at_call 32; (with_reducible refine He1.out.mono ?_); rintro e w2 ⟨Aw, cw, rfl, ho2, hm2⟩; have hb2 := hm2.blk (Blk.new w1 31 #[.slice none 0 0, .slice none 0 0, .int .i64 0]) (fun h => h); have Hb2 := Lib.hid hb2; have r0 := hb2.cell 0; have r1 := hb2.cell 1; have r2 := hb2.cell 2; have f0 := hb2.frozen 0; have f1 := hb2.frozen 1; have f2 := hb2.frozen 2; simp at r0 r1 r2; have Hm2 := Lib.hid ((Hm1.out.alloc _).trans hm2 (fun _ _ h => h)); have Ho1 := Lib.hid ((Ho0.out.alloc _).mod hm2); have Ho2 := Lib.hid (ho2.mono (Nat.le_trans Hm1.out.size (le_alloc w1 _))); have S3 := Lib.hid (HX.out _ Hm2.out); clear ho2 hm2 hb2)
        | (go_at_call 31; (with_reducible refine Hd0.out.mono ?_); rintro e w1 ⟨Av, cv, rfl, ho1, hm1⟩; have Hm1 := Lib.hid ((Mod.refl _ W).drew.trans hm1 (fun _ _ h => h)); have Ho0 : Hid (OwnK 5 W.heap.size w1 43 (.slice Av n cv) (ps.map serC)) := Lib.hid ho1; have S2 := Lib.hid (HX.out _ Hm1.out); have He0 := Lib.hid (Hc2.out w1 Hm1.out Hm1.out.size); have He1 := Lib.hid (Hc2.out (w1.alloc (.cells #[.slice none 0 0, .slice none 0 0, .int .i64 0] 31)) (Hm1.out.alloc _) (Nat.le_trans Hm1.out.size (le_alloc w1 _))); clear ho1 hm1)
        | (go_at_call 31; (with_reducible refine Hd1.out.mono ?_); rintro e w1 ⟨Av, cv, rfl, ho1, hm1⟩; have Hm1 := Lib.hid (((Mod.refl _ W).alloc _).drew.trans hm1 (fun _ _ h => h)); have Ho0 : Hid (OwnK 5 W.heap.size w1 43 (.slice Av n cv) (ps.map serC)) := Lib.hid (ho1.mono hle1); have S2 := Lib.hid (HX.out _ Hm1.out); have Hf0 := Lib.hid (Hc2.out w1 Hm1.out Hm1.out.size); have Hb1 := Lib.hid (hm1.blk (Blk.drew (Blk.new W 31 #[.slice none 0 0, .slice none 0 0, .int .i64 0])) (fun h => h)); clear ho1 hm1))
    all_goals (
      go_wp2_with fail
      go_meet
      first
        | exact ⟨_, _, _, _, _, rfl, Blk.new w2 _ _, Ho1.out.alloc _, Ho2.out.alloc _, Hm2.out.alloc _, Hm2.out.size⟩
        | exact ⟨_, _, _, _, _, rfl, (Hb2.out.three _ _ _).2.2.2, Ho1.out.besideB Hb2.out (by decide) (Mod.three_one _ _ _ _ _), Ho2.out.besideB Hb2.out (by decide) (Mod.three_one _ _ _ _ _), Hm2.out.three_new (Nat.le_refl _) _ _ _, Nat.le_refl _⟩
        | exact ⟨_, _, _, _, _, rfl, (Hb2.out.three _ _ _).2.2.2, Ho1.out.besideB Hb2.out (by decide) (Mod.three_one _ _ _ _ _), Ho2.out.besideB Hb2.out (by decide) (Mod.three_one _ _ _ _ _), Hm2.out.three_new Hm1.out.size _ _ _, Hm1.out.size⟩)
  case rest =>
    obtain ⟨G3, Av, cv, Aw, cw, rfl, hb3, hO1, hO2, hm3, hG3⟩ := hcut
    obtain ⟨wA, rfl⟩ : ∃ wA : World, wA = wc := ⟨_, rfl⟩
    have c0 := hb3.cell 0
    have c1 := hb3.cell 1
    simp at c0 c1
    have HmX : Hid (Mod (fun j => W.heap.size ≤ j) W wA) := Lib.hid (hm3.mono (fun _ _ h => h.elim))
    have HO1 := Lib.hid hO1; have HO2 := Lib.hid hO2; have Hb3 := Lib.hid hb3; have HG3 := Lib.hid hG3
    have Hrb := Lib.hid (hm3.blk HbW.out (fun h => h))
    clear hO1 hO2 hb3 hm3 hG3
    go_wp2_with fail
    go_loopg [18] n (fun k s18 wr => ∃ (i : Nat) (qs : List _), i + k = n ∧ s18 = .int .i64 (i : Int) ∧ CopyTo W wr ps qs i ∧ OwnK 5 W.heap.size wr 43 (.slice Av n cv) (qs.map serC) ∧ Mod (fun j => (Value.slice Av n cv).ownBlock = some j) wA wr)
    case atStart => exact ⟨0, ps, by omega, rfl, ⟨rfl, fun j p _ h => h, fun j p h _ => by omega⟩, HO1.out, Mod.refl _ _⟩
    case round =>
      obtain ⟨i, qs, hik, rfl, hC, hO, hm⟩ := hrel
      have Hik := Lib.hid hik; have HC := Lib.hid hC; have HO := Lib.hid hO; have Hm := Lib.hid hm
      clear hik hC hO hm
      by_cases hin : i < n
      · have hlq : qs.length = n := by
          have h1 := HC.out.1
          have h2 := congrArg List.length h1
          rw [List.length_map, List.length_map, HR.out.len] at h2
          exact h2
        obtain ⟨⟨s, u4⟩, hq⟩ : ∃ p, qs[i]? = some p := ⟨_, List.getElem?_eq_getElem (by omega)⟩
        have hp := HC.out.2.1 i _ (Nat.le_refl _) hq
        obtain ⟨A4, n4, c4, hu4, hrd, _, _⟩ := HR.out.2 _ (List.mem_of_getElem? hp)
        simp only at hu4
        subst hu4
        obtain ⟨gS, c', e1, _, _, hgB, hgl⟩ := HO.out.form' (by rw [List.length_map]; omega)
        rw [List.length_map, hlq] at e1
        injection e1 with e1 _ e3
        subst e1 e3
        obtain ⟨cs, hcs⟩ := own_blk HO.out gS (by simp [Value.ownBlock])
        have hmg : Mod (fun j => j = gS) wA wr := Hm.out.mono (fun j _ e => by simpa [Value.ownBlock] using e.symm)
        have hmW2 : Mod (fun j => W.heap.size ≤ j) W wr := (HmX.out.mono (fun _ _ h => h)).trans hmg (fun j _ e => by omega)
        have hb3 := hmg.blk Hb3.out (fun e => by
          obtain ⟨cs', hcs'⟩ := own_blk HO1.out gS (by simp [Value.ownBlock])
          rw [← e] at hcs'
          exact Blk.ne_ Hb3.out hcs' (by decide) rfl)
        have hrw : RdsS wr wr.heap.size A4 n4 s.l := ((hrd.more (Nat.le_trans HmW.out.size (Nat.le_refl _))).mod hmW2 (Nat.le_refl _) (fun j h1 h2 => by omega)).fit
        have hn4 : n4 ≤ 1000000 := by
          have h1 := (HL.out.1 s (by rw [← Hps.out]; exact List.mem_map.2 ⟨_, List.mem_of_getElem? hp, rfl⟩)).1
          have h2 := hrd.1
          simp only at h2
          omega
        obtain ⟨⟨x, hx1, hx2⟩, hxf, _⟩ := HO.out.set_ (i := i) (j := 4) (by rw [List.length_map]; exact hlq) (by rw [List.getElem?_map, hq]; rfl) (by decide) (.bool true)
        have hx3 : x = .slice A4 n4 c4 := by
          have h1 : (serC (s, Value.slice A4 n4 c4))[4]? = some (.slice A4 n4 c4) := rfl
          rw [h1] at hx1
          injection hx1 with hx1
          exact hx1.symm
        subst hx3
        have hat5 : (⟨gS, 0, none⟩ : Addr).add (i * 5) = ⟨gS, i * 5, none⟩ := by rw [add_addr, Nat.zero_add]
        have HY : Hid (∀ W', Mod (fun j => j = gS) wr W' → W'.cell? ⟨G3, 0, none⟩ = some (.slice (some ⟨gS, 0, none⟩) n cv)) := Lib.hid (fun W' h => (h.blk hb3 (fun e => by rw [e] at hb3; exact Blk.ne_ hb3 hcs (by decide) rfl)).cell 0)
        have Hcall : Hid (Calls Try.prog 33 #[.slice A4 n4 c4] wr.drew fun e w' => ∃ A5 n5 c5, e = .returned (.slice A5 n5 c5) ∧ OwnS W.heap.size w' (.slice A5 n5 c5) s.l ∧ Mod (fun _ => False) wr w' ∧ w'.cell? ⟨gS, i * 5 + 4, none⟩ = some (.slice A4 n4 c4) ∧ w'.frozen? ⟨gS, i * 5 + 4, none⟩ = false) := Lib.hid (by
          refine (copyS_any A4 n4 c4 s.l wr.drew hrw hn4).mono ?_
          rintro e w' ⟨v5, rfl, h1, h2⟩
          obtain ⟨A5, n5, c5, rfl, _⟩ := h1.formN
          have h3 : Mod (fun _ => False) wr w' := (Mod.refl _ wr).drew.trans h2 (fun _ _ h => h)
          exact ⟨A5, n5, c5, rfl, h1.mono hmW2.size, h3, (h3.cell (a := ⟨gS, i * 5 + 4, none⟩) hgl (fun h => h)).trans hx2, frozen_mod h3 hgl (fun h => h) hxf⟩)
        have S0 := Lib.hid (HY.out _ (Mod.refl _ wr).drew)
        have Hq := Lib.hid hq; have Hcs := Lib.hid hcs; have Hlq := Lib.hid hlq
        have hin0 : (0 : Int) ≤ (i : Int) := by omega
        have hin1 : (i : Int) < (n : Int) := by omega
        clear hq hp hrd hcs hmg hmW2 hb3 hrw hxf hlq hx1 hgB hgl
        go_upto_region 5 with fail
        have s0 := HY.out _ (Mod.refl _ wr)
        go_region_with (first
          | (go_at_call 33; refine Hcall.out.mono ?_; rintro e w1 ⟨A5, n5, c5, rfl, ho1, hm1, t1, t2⟩; have Hm1 := Lib.hid (hm1.mono (fun _ _ h => h.elim) : Mod (fun j => j = gS) wr w1); have s2 := HY.out _ Hm1.out; have Ho1 := Lib.hid ho1; have Hm0 := Lib.hid hm1; clear ho1 hm1))
        all_goals (
          go_wp2_with fail
          go_roundg (gk - 1)
          case measure => have := Hik.out; omega
          case rel =>
            have hO1 := (HO.out.mod Hm0.out).set_ (i := i) (j := 4) (by rw [List.length_map]; exact Hlq.out) (by rw [List.getElem?_map, Hq.out]; rfl) (by decide) (.slice A5 n5 c5)
            have e2 : ((qs.map serC).set i ((serC (s, Value.slice A4 n4 c4)).set 4 (.slice A5 n5 c5))) = (qs.set i (s, .slice A5 n5 c5)).map serC := by rw [List.map_set]; rfl
            have hO2 := hO1.2.2
            rw [e2] at hO2
            have hmf : Mod (fun j => j = gS) w1 (w1.setCell ⟨gS, i * 5 + 4, none⟩ (.slice A5 n5 c5)) := (Mod.refl (fun j => j = gS) w1).setCell (p := ⟨gS, i * 5 + 4, none⟩) (fun _ => rfl) _
            have hcs1 := Hm0.out.blk Hcs.out (fun h => h)
            exact ⟨i + 1, _, by have := Hik.out; omega, by go_num, (HC.out.new Hm0.out).step Hq.out hcs1 hmf (Ho1.out.besideB hcs1 (by decide) hmf), hO2, Hm.out.trans (Hm1.out.setCell (p := ⟨gS, i * 5 + 4, none⟩) (fun _ => rfl) _) (fun j _ e => by simp [Value.ownBlock, e])⟩)
      · have hin' : ¬ (i : Int) < (n : Int) := by omega
        have hi : i = n := by have := Hik.out; omega
        subst hi
        obtain ⟨wB, rfl⟩ : ∃ wB : World, wB = wr := ⟨_, rfl⟩
        have hne : ∀ {k : Nat} {t : TypeId} {cs : Array Value}, Blk wA k t cs → t ≠ 43 → ¬ ((Value.slice Av i cv).ownBlock = some k) := fun {k t cs} hb h1 e => by
          obtain ⟨cs', hcs'⟩ := own_blk HO1.out k e
          exact Blk.ne_ hb hcs' h1 rfl
        have Hb3' := Lib.hid (Hm.out.blk Hb3.out (hne Hb3.out (by decide)))
        have Hrb' := Lib.hid (Hm.out.blk Hrb.out (hne Hrb.out (by decide)))
        have HO2' : Hid (OwnK 2 W.heap.size wB 50 (.slice Aw n2 cw) (is.map iteC)) := Lib.hid (HO2.out.modS Hm.out (fun k hk e => by
          obtain ⟨cs', hcs'⟩ := own_blk HO2.out k hk
          exact hne hcs' (by decide) e))
        have HmX' : Hid (Mod (fun j => W.heap.size ≤ j) W wB) := Lib.hid (HmX.out.trans Hm.out (fun j _ e => (HO1.out.block j e).1))
        have HS1 : Hid (HavSer W.heap.size wB (.slice Av i cv) qs) := Lib.hid ⟨HO.out, fun p hp => by
          obtain ⟨j, hj, e⟩ := List.mem_iff_getElem.1 hp
          have hlq : qs.length = i := by
            have h2 := congrArg List.length HC.out.1
            rw [List.length_map, List.length_map, HR.out.len] at h2
            exact h2
          exact SliH.of_own (HC.out.2.2 j p (by omega) (by rw [← e]; exact List.getElem?_eq_getElem hj))⟩
        have Hq1 := Lib.hid HC.out.1
        clear Hb3 Hrb HO2 HmX hne
        have Hb3 := Hb3'; have Hrb := Hrb'; have HO2 := HO2'; have HmX := HmX'
        clear Hb3' Hrb' HO2' HmX' Hm HO HC
        have c1' := Hb3.out.cell 1
        simp at c1'
        clear c0 c1
        go_wp2_with fail
        go_loopg [37] n2 (fun k s37 wr => ∃ (i : Nat) (qs : List _), i + k = n2 ∧ s37 = .int .i64 (i : Int) ∧ CopyIt W wr is qs i ∧ OwnK 2 W.heap.size wr 50 (.slice Aw n2 cw) (qs.map iteC) ∧ Mod (fun j => (Value.slice Aw n2 cw).ownBlock = some j) wB wr)
        case atStart => exact ⟨0, is, by omega, rfl, ⟨rfl, fun j p _ h => h, fun j p h _ => by omega⟩, HO2.out, Mod.refl _ _⟩
        case round =>
          obtain ⟨i2, qs2, hik, rfl, hC, hO, hm⟩ := hrel
          have Hik := Lib.hid hik; have HC := Lib.hid hC; have HO := Lib.hid hO; have Hm := Lib.hid hm
          clear hik hC hO hm
          by_cases hin : i2 < n2
          · have hlq : qs2.length = n2 := by
              have h1 := HC.out.1
              have h2 := congrArg List.length h1
              rw [List.length_map, List.length_map, HR2.out.len] at h2
              exact h2
            obtain ⟨⟨s, u4⟩, hq⟩ : ∃ p, qs2[i2]? = some p := ⟨_, List.getElem?_eq_getElem (by omega)⟩
            have hp := HC.out.2.1 i2 _ (Nat.le_refl _) hq
            obtain ⟨A4, n4, c4, hu4, hrd, _, _⟩ := HR2.out.2 _ (List.mem_of_getElem? hp)
            simp only at hu4
            subst hu4
            obtain ⟨gI, c', e1, _, _, hgB, hgl⟩ := HO.out.form' (by rw [List.length_map]; omega)
            rw [List.length_map, hlq] at e1
            injection e1 with e1 _ e3
            subst e1 e3
            obtain ⟨cs, hcs⟩ := own_blk HO.out gI (by simp [Value.ownBlock])
            have hmg : Mod (fun j => j = gI) wB wr := Hm.out.mono (fun j _ e => by simpa [Value.ownBlock] using e.symm)
            have hmW2 : Mod (fun j => W.heap.size ≤ j) W wr := (HmX.out.mono (fun _ _ h => h)).trans hmg (fun j _ e => by omega)
            have hb3 := hmg.blk Hb3.out (fun e => by
              obtain ⟨cs', hcs'⟩ := own_blk HO2.out gI (by simp [Value.ownBlock])
              rw [← e] at hcs'
              exact Blk.ne_ Hb3.out hcs' (by decide) rfl)
            have hrw : RdsS wr wr.heap.size A4 n4 s.rest := ((hrd.more (Nat.le_trans HmW.out.size (Nat.le_refl _))).mod hmW2 (Nat.le_refl _) (fun j h1 h2 => by omega)).fit
            have hn4 : n4 ≤ 1000000 := by
              have h1 := (HL.out.2 s (by rw [← His.out]; exact List.mem_map.2 ⟨_, List.mem_of_getElem? hp, rfl⟩)).1
              have h2 := hrd.1
              simp only at h2
              omega
            obtain ⟨⟨x, hx1, hx2⟩, hxf, _⟩ := HO.out.set_ (i := i2) (j := 1) (by rw [List.length_map]; exact hlq) (by rw [List.getElem?_map, hq]; rfl) (by decide) (.bool true)
            have hx3 : x = .slice A4 n4 c4 := by
              have h1 : (iteC (s, Value.slice A4 n4 c4))[1]? = some (.slice A4 n4 c4) := rfl
              rw [h1] at hx1
              injection hx1 with hx1
              exact hx1.symm
            subst hx3
            have hat5 : (⟨gI, 0, none⟩ : Addr).add (i2 * 2) = ⟨gI, i2 * 2, none⟩ := by rw [add_addr, Nat.zero_add]
            have HY : Hid (∀ W', Mod (fun j => j = gI) wr W' → W'.cell? ⟨G3, 1, none⟩ = some (.slice (some ⟨gI, 0, none⟩) n2 cw)) := Lib.hid (fun W' h => (h.blk hb3 (fun e => by rw [e] at hb3; exact Blk.ne_ hb3 hcs (by decide) rfl)).cell 1)
            have Hcall : Hid (Calls Try.prog 33 #[.slice A4 n4 c4] wr.drew fun e w' => ∃ A5 n5 c5, e = .returned (.slice A5 n5 c5) ∧ OwnS W.heap.size w' (.slice A5 n5 c5) s.rest ∧ Mod (fun _ => False) wr w' ∧ w'.cell? ⟨gI, i2 * 2 + 1, none⟩ = some (.slice A4 n4 c4) ∧ w'.frozen? ⟨gI, i2 * 2 + 1, none⟩ = false) := Lib.hid (by
              refine (copyS_any A4 n4 c4 s.rest wr.drew hrw hn4).mono ?_
              rintro e w' ⟨v5, rfl, h1, h2⟩
              obtain ⟨A5, n5, c5, rfl, _⟩ := h1.formN
              have h3 : Mod (fun _ => False) wr w' := (Mod.refl _ wr).drew.trans h2 (fun _ _ h => h)
              exact ⟨A5, n5, c5, rfl, h1.mono hmW2.size, h3, (h3.cell (a := ⟨gI, i2 * 2 + 1, none⟩) hgl (fun h => h)).trans hx2, frozen_mod h3 hgl (fun h => h) hxf⟩)
            have S0 := Lib.hid (HY.out _ (Mod.refl _ wr).drew)
            have Hq := Lib.hid hq; have Hcs := Lib.hid hcs; have Hlq := Lib.hid hlq
            have hin0 : (0 : Int) ≤ (i2 : Int) := by omega
            have hin1 : (i2 : Int) < (n2 : Int) := by omega
            clear hq hp hrd hcs hmg hmW2 hb3 hrw hxf hlq hx1 hgB hgl
            go_upto_region 10 with fail
            have s0 := HY.out _ (Mod.refl _ wr)
            go_region_with (first
              | (go_at_call 33; refine Hcall.out.mono ?_; rintro e w1 ⟨A5, n5, c5, rfl, ho1, hm1, t1, t2⟩; have Hm1 := Lib.hid (hm1.mono (fun _ _ h => h.elim) : Mod (fun j => j = gI) wr w1); have s2 := HY.out _ Hm1.out; have Ho1 := Lib.hid ho1; have Hm0 := Lib.hid hm1; clear ho1 hm1))
            all_goals (
              go_wp2_with fail
              go_roundg (gk - 1)
              case measure => have := Hik.out; omega
              case rel =>
                have hO1 := (HO.out.mod Hm0.out).set_ (i := i2) (j := 1) (by rw [List.length_map]; exact Hlq.out) (by rw [List.getElem?_map, Hq.out]; rfl) (by decide) (.slice A5 n5 c5)
                have e2 : ((qs2.map iteC).set i2 ((iteC (s, Value.slice A4 n4 c4)).set 1 (.slice A5 n5 c5))) = (qs2.set i2 (s, .slice A5 n5 c5)).map iteC := by rw [List.map_set]; rfl
                have hO2 := hO1.2.2
                rw [e2] at hO2
                have hmf : Mod (fun j => j = gI) w1 (w1.setCell ⟨gI, i2 * 2 + 1, none⟩ (.slice A5 n5 c5)) := (Mod.refl (fun j => j = gI) w1).setCell (p := ⟨gI, i2 * 2 + 1, none⟩) (fun _ => rfl) _
                have hcs1 := Hm0.out.blk Hcs.out (fun h => h)
                exact ⟨i2 + 1, _, by have := Hik.out; omega, by go_num, (HC.out.new Hm0.out).step Hq.out hcs1 hmf (Ho1.out.besideB hcs1 (by decide) hmf), hO2, Hm.out.trans (Hm1.out.setCell (p := ⟨gI, i2 * 2 + 1, none⟩) (fun _ => rfl) _) (fun j _ e => by simp [Value.ownBlock, e])⟩)
          · have hin2 : ¬ (i2 : Int) < (n2 : Int) := by omega
            have hi2 : i2 = n2 := by have := Hik.out; omega
            subst hi2
            have hne : ∀ {k : Nat} {t : TypeId} {cs : Array Value}, Blk wB k t cs → t ≠ 50 → ¬ ((Value.slice Aw i2 cw).ownBlock = some k) := fun {k t cs} hb h1 e => by
              obtain ⟨cs', hcs'⟩ := own_blk HO2.out k e
              exact Blk.ne_ hb hcs' h1 rfl
            have hb4 := Hm.out.blk Hb3.out (hne Hb3.out (by decide))
            have hrb := Hm.out.blk Hrb.out (hne Hrb.out (by decide))
            have c0 := hb4.cell 0
            have c1 := hb4.cell 1
            have c2 := hb4.cell 2
            have r0 := hrb.cell 0
            have r1 := hrb.cell 1
            have r2 := hrb.cell 2
            have f0 := hrb.frozen 0
            have f1 := hrb.frozen 1
            have f2 := hrb.frozen 2
            simp at c0 c1 c2 r0 r1 r2
            have Hrb2 := Lib.hid hrb
            have hS2 : HavSer W.heap.size wr (.slice Av i cv) qs := ⟨HS1.out.1.modS Hm.out (fun k hk e => by
              obtain ⟨cs', hcs'⟩ := own_blk HS1.out.1 k hk
              exact hne hcs' (by decide) e), fun p hp => (HS1.out.2 p hp).mod Hm.out (fun k cs' _ hb e => hne hb (by decide) e)⟩
            have hI2 : HavIte W.heap.size wr (.slice Aw i2 cw) qs2 := ⟨HO.out, fun p hp => by
              obtain ⟨j, hj, e⟩ := List.mem_iff_getElem.1 hp
              have hlq : qs2.length = i2 := by
                have h2 := congrArg List.length HC.out.1
                rw [List.length_map, List.length_map, HR2.out.len] at h2
                exact h2
              exact SliH.of_own (HC.out.2.2 j p (by omega) (by rw [← e]; exact List.getElem?_eq_getElem hj))⟩
            have Hfin : Hid (HavM W.heap.size wr (.slice Av i cv) (.slice Aw i2 cw) m ∧ Mod (fun j => W.heap.size ≤ j) W wr) := Lib.hid ⟨⟨qs, qs2, by rw [Hq1.out, Hps.out], by rw [HC.out.1, His.out], hS2, hI2⟩, HmX.out.trans Hm.out (fun j _ e => (HO2.out.block j e).1)⟩
            clear hne hb4 hrb hS2 hI2
            go_wp2_with fail
            refine bodyPost_ret (v := .agg #[.slice Av i cv, .slice Aw i2 cw, .int .i64 N]) (by have h := Hrb2.out.three (.slice Av i cv) (.slice Aw i2 cw) (.int .i64 N); simp [results, Try.results18, go_sem, h.1, h.2.1, h.2.2.1]) rfl ?_
            have h3 := Mod.three_one wr G (.slice Av i cv) (.slice Aw i2 cw) (.int .i64 N)
            refine ⟨_, _, rfl, (Hfin.out.1.far h3 (Far.one Hrb2.out (by decide) (by decide) (by decide))).mono HmW.out.size, ?_⟩
            have h2 : Mod (fun j => w.heap.size ≤ j) W wr := Hfin.out.2.mono (fun j _ h => by have := HmW.out.size; omega)
            have h4 := ((HmW.out.mono (fun _ _ h => h.elim) : Mod (fun j => w.heap.size ≤ j) w W).trans h2 (fun _ _ h => h)).trans h3 (fun j _ e => by have := HG.out; omega)
            exact h4.mono (fun j hj h => by omega)
end Go.Proofs.Ytejnhdenehkpmaa

/- Two rows of samples compared: the document's Same. -/
namespace Go.Proofs.Ytejnhdenehkpmaa
open Go.RowKit

/-- The first i are alike. -/
def SameTo (l1 l2 : List (Int × Nat)) (i : Nat) : Prop := ∀ j, j < i → l1[j]? = l2[j]?
theorem SameTo.done {l1 l2 : List (Int × Nat)} {n : Nat} (h : SameTo l1 l2 n) (h1 : l1.length = n) (h2 : l2.length = n) : l1 = l2 := List.ext_getElem? fun j => by
  rcases Nat.lt_or_ge j n with hj | hj
  · exact h j hj
  · rw [List.getElem?_eq_none (by omega), List.getElem?_eq_none (by omega)]
set_option maxHeartbeats 1000000 in
set_option maxRecDepth 100000 in
theorem sameS_any (A1 A2 : Option Addr) (n1 n2 c1 c2 B1 B2 : Nat) (l1 l2 : List (Int × Nat)) (b : Bool) (w : World) (hs1 : RdsS w B1 A1 n1 l1) (hs2 : RdsS w B2 A2 n2 l2) (hn : n1 ≤ 1000000) (hb : decide (l1 = l2) = b) :
    Calls Try.prog 17 #[.slice A1 n1 c1, .slice A2 n2 c2] w fun e w' => e = .returned (.bool b) ∧ Mod (fun _ => False) w w' := by
  have Hs1 := Lib.hid hs1.fit; have Hs2 := Lib.hid hs2.fit; have Hl1 := Lib.hid hs1.1; have Hl2 := Lib.hid hs2.1; have Hb := Lib.hid hb
  have hcs : Try.prog.cellsOf 48 = 2 := by kernel_rfl
  clear hs1 hs2 hb
  by_cases hnn : n1 = n2
  · subst hnn
    go_enter Try.func17, Try.ntmps17
    go_wp2_with fail
    go_loopg [5] n1 (fun k s5 wr => ∃ i : Nat, i + k = n1 ∧ s5 = .int .i64 (i : Int) ∧ SameTo l1 l2 i ∧ Mod (fun _ => False) w wr)
    case atStart => exact ⟨0, by omega, rfl, (fun j h => by omega), Mod.refl _ _⟩
    case round =>
      obtain ⟨i, hik, rfl, hr, hm⟩ := hrel
      have Hik := Lib.hid hik; have Hr := Lib.hid hr; have Hm := Lib.hid hm
      clear hik hr hm
      by_cases hin : i < n1
      · obtain ⟨a1, ⟨T, V⟩, rfl, _, hp, hc0, hc1⟩ := Hs1.out.at2 hin (Nat.le_refl _) Hm.out (fun _ _ h => h)
        obtain ⟨a2, ⟨S, U⟩, rfl, _, hq, hd0, hd1⟩ := Hs2.out.at2 hin (Nat.le_refl _) Hm.out (fun _ _ h => h)
        have hc1' := cell_whole hc1
        have hd1' := cell_whole hd1
        have Hp := Lib.hid hp; have Hq := Lib.hid hq
        clear hp hq hc1 hd1
        have hin' : (i : Int) < (n1 : Int) := by omega
        by_cases hT : T = S
        · subst hT
          by_cases hV : V = U
          · subst hV
            go_upto_region 6 with fail
            go_quiet (fail)
            go_wp2_with fail
            go_roundg (gk - 1)
            case measure => have := Hik.out; omega
            case rel => exact ⟨i + 1, by have := Hik.out; omega, by go_num, (fun j hj => by
              rcases Nat.lt_or_ge j i with h | h
              · exact Hr.out j h
              · obtain rfl : j = i := by omega
                rw [Hp.out, Hq.out]), Hm.out.drewN _⟩
          · have hVi : ¬ (V : Int) = (U : Int) := by omega
            have hVb : ((V : Int) == (U : Int)) = false := by simp; omega
            have Hno : Hid (b = false) := Lib.hid (by
              rw [← Hb.out, decide_eq_false_iff_not]
              intro e
              have h1 := Hp.out
              rw [e, Hq.out] at h1
              injection h1 with h1
              injection h1 with _ h1
              exact hV h1.symm)
            clear hV
            go_upto_region 6 with fail
            go_quiet (fail)
            go_wp2_with fail
            go_ret
            exact ⟨by rw [Hno.out]; rfl, Hm.out.drewN _⟩
        · have hTb : (T == S) = false := by simp [hT]
          have Hno : Hid (b = false) := Lib.hid (by
            rw [← Hb.out, decide_eq_false_iff_not]
            intro e
            have h1 := Hp.out
            rw [e, Hq.out] at h1
            injection h1 with h1
            injection h1 with h1 _
            exact hT h1.symm)
          go_upto_region 6 with fail
          go_quiet (fail)
          go_wp2_with fail
          go_ret
          exact ⟨by rw [Hno.out]; rfl, Hm.out.drewN _⟩
      · have hi : i = n1 := by have := Hik.out; omega
        have Hyes : Hid (b = true) := Lib.hid (by
          rw [← Hb.out, decide_eq_true_iff]
          exact SameTo.done (by rw [← hi]; exact Hr.out) Hl1.out Hl2.out)
        clear hi
        go_wp2_with fail
        go_ret
        exact ⟨by rw [Hyes.out]; rfl, Hm.out⟩
  · have hni : ((n1 : Int) == (n2 : Int)) = false := by simp; omega
    have hni2 : ((n1 : Int) != (n2 : Int)) = true := by simp; omega
    have Hno : Hid (b = false) := Lib.hid (by
      rw [← Hb.out, decide_eq_false_iff_not]
      intro e
      apply hnn
      rw [← Hl1.out, ← Hl2.out, e])
    clear hnn
    go_enter Try.func17, Try.ntmps17
    go_wp2_with fail
    go_ret
    exact ⟨by rw [Hno.out]; rfl, Mod.refl _ _⟩
end Go.Proofs.Ytejnhdenehkpmaa

/- Models and results compared, of the code. -/
namespace Go.Proofs.Ytejnhdenehkpmaa
open Go.RowKit

/-- Whether it is so. -/
def CmpEnd (w w' : World) (p : Prop) (e : Ending) : Prop := ∃ b, e = .returned (.bool b) ∧ (b = true ↔ p) ∧ Mod (fun _ => False) w w'
set_option maxHeartbeats 1000000 in
set_option maxRecDepth 100000 in
theorem equalS_any (A1 A2 : Option Addr) (n1 n2 c1 c2 B1 B2 : Nat) (l1 l2 : List (Int × Nat)) (b : Bool) (w : World) (hs1 : RdsS w B1 A1 n1 l1) (hs2 : RdsS w B2 A2 n2 l2) (hn : n1 ≤ 1000000) (hb : decide (l1 = l2) = b) :
    Calls Try.prog 30 #[.slice A1 n1 c1, .slice A2 n2 c2] w fun e w' => e = .returned (.bool b) ∧ Mod (fun _ => False) w w' := by
  have Hs1 := Lib.hid hs1.fit; have Hs2 := Lib.hid hs2.fit; have Hl1 := Lib.hid hs1.1; have Hl2 := Lib.hid hs2.1; have Hb := Lib.hid hb
  have hcs : Try.prog.cellsOf 48 = 2 := by kernel_rfl
  clear hs1 hs2 hb
  by_cases hnn : n1 = n2
  · subst hnn
    go_enter Try.func30, Try.ntmps30
    go_wp2_with fail
    go_loopg [13] n1 (fun k s13 wr => ∃ i : Nat, i + k = n1 ∧ s13 = .int .i64 (i : Int) ∧ SameTo l1 l2 i ∧ Mod (fun _ => False) w wr)
    case atStart => exact ⟨0, by omega, rfl, (fun j h => by omega), Mod.refl _ _⟩
    case round =>
      obtain ⟨i, hik, rfl, hr, hm⟩ := hrel
      have Hik := Lib.hid hik; have Hr := Lib.hid hr; have Hm := Lib.hid hm
      clear hik hr hm
      by_cases hin : i < n1
      · obtain ⟨a1, ⟨T, V⟩, rfl, _, hp, hc0, hc1⟩ := Hs1.out.at2 hin (Nat.le_refl _) Hm.out (fun _ _ h => h)
        obtain ⟨a2, ⟨S, U⟩, rfl, _, hq, hd0, hd1⟩ := Hs2.out.at2 hin (Nat.le_refl _) Hm.out (fun _ _ h => h)
        have hc1' := cell_whole hc1
        have hd1' := cell_whole hd1
        have Hp := Lib.hid hp; have Hq := Lib.hid hq
        clear hp hq hc1 hd1
        have hin' : (i : Int) < (n1 : Int) := by omega
        by_cases hT : T = S
        · subst hT
          by_cases hV : V = U
          · subst hV
            go_upto_region 6 with fail
            go_quiet (fail)
            go_wp2_with fail
            go_roundg (gk - 1)
            case measure => have := Hik.out; omega
            case rel => exact ⟨i + 1, by have := Hik.out; omega, by go_num, (fun j hj => by
              rcases Nat.lt_or_ge j i with h | h
              · exact Hr.out j h
              · obtain rfl : j = i := by omega
                rw [Hp.out, Hq.out]), Hm.out.drewN _⟩
          · have hVi : ¬ (V : Int) = (U : Int) := by omega
            have hVb : ((V : Int) == (U : Int)) = false := by simp; omega
            have Hno : Hid (b = false) := Lib.hid (by
              rw [← Hb.out, decide_eq_false_iff_not]
              intro e
              have h1 := Hp.out
              rw [e, Hq.out] at h1
              injection h1 with h1
              injection h1 with _ h1
              exact hV h1.symm)
            clear hV
            go_upto_region 6 with fail
            go_quiet (fail)
            go_wp2_with fail
            go_ret
            exact ⟨by rw [Hno.out]; rfl, Hm.out.drewN _⟩
        · have hTb : (T == S) = false := by simp [hT]
          have Hno : Hid (b = false) := Lib.hid (by
            rw [← Hb.out, decide_eq_false_iff_not]
            intro e
            have h1 := Hp.out
            rw [e, Hq.out] at h1
            injection h1 with h1
            injection h1 with h1 _
            exact hT h1.symm)
          go_upto_region 6 with fail
          go_quiet (fail)
          go_wp2_with fail
          go_ret
          exact ⟨by rw [Hno.out]; rfl, Hm.out.drewN _⟩
      · have hi : i = n1 := by have := Hik.out; omega
        have Hyes : Hid (b = true) := Lib.hid (by
          rw [← Hb.out, decide_eq_true_iff]
          exact SameTo.done (by rw [← hi]; exact Hr.out) Hl1.out Hl2.out)
        clear hi
        go_wp2_with fail
        go_ret
        exact ⟨by rw [Hyes.out]; rfl, Hm.out⟩
  · have hni : ((n1 : Int) == (n2 : Int)) = false := by simp; omega
    have hni2 : ((n1 : Int) != (n2 : Int)) = true := by simp; omega
    have Hno : Hid (b = false) := Lib.hid (by
      rw [← Hb.out, decide_eq_false_iff_not]
      intro e
      apply hnn
      rw [← Hl1.out, ← Hl2.out, e])
    clear hnn
    go_enter Try.func30, Try.ntmps30
    go_wp2_with fail
    go_ret
    exact ⟨by rw [Hno.out]; rfl, Mod.refl _ _⟩
set_option maxHeartbeats 1000000 in
set_option maxRecDepth 100000 in
theorem sameSer_any (s q : SerN) (A A2 : Option Addr) (n c n2 c2 B B2 : Nat) (w : World) (h1 : RdsS w B A n s.l) (h2 : RdsS w B2 A2 n2 q.l) (hn : n ≤ 1000000) :
    Calls Try.prog 27 #[.agg #[.int .i64 s.id, .bool s.sea, .bool s.any, .int .i64 s.last, .slice A n c], .agg #[.int .i64 q.id, .bool q.sea, .bool q.any, .int .i64 q.last, .slice A2 n2 c2]] w fun e w' => CmpEnd w w' (s = q) e := by
  obtain ⟨W, hW⟩ : ∃ W, W = (w.alloc (.cells #[.int .i64 s.id, .bool s.sea, .bool s.any, .int .i64 s.last, .slice A n c] 43)).alloc (.cells #[.int .i64 q.id, .bool q.sea, .bool q.any, .int .i64 q.last, .slice A2 n2 c2] 43) := ⟨_, rfl⟩
  obtain ⟨G0, hG0⟩ : ∃ g, g = w.heap.size := ⟨_, rfl⟩
  obtain ⟨G, hG⟩ : ∃ g, g = w.heap.size + 1 := ⟨_, rfl⟩
  have hmW : Mod (fun _ => False) w W := by rw [hW]; exact ((Mod.refl _ _).alloc _).alloc _
  have hb0 : Blk W G0 43 #[.int .i64 s.id, .bool s.sea, .bool s.any, .int .i64 s.last, .slice A n c] := by rw [hW, hG0]; exact (Blk.new _ _ _).alloc _
  have hb1 : Blk W G 43 #[.int .i64 q.id, .bool q.sea, .bool q.any, .int .i64 q.last, .slice A2 n2 c2] := by
    rw [hW, hG]
    have h := Blk.new (w.alloc (.cells #[.int .i64 s.id, .bool s.sea, .bool s.any, .int .i64 s.last, .slice A n c] 43)) 43 #[.int .i64 q.id, .bool q.sea, .bool q.any, .int .i64 q.last, .slice A2 n2 c2]
    simpa using h
  have x0 := hb0.cell 0
  have y0 := hb1.cell 0
  have x1 := hb0.cell 1
  have y1 := hb1.cell 1
  have x2 := hb0.cell 2
  have y2 := hb1.cell 2
  have x3 := hb0.cell 3
  have y3 := hb1.cell 3
  have x4 := hb0.cell 4
  have y4 := hb1.cell 4
  simp at x0 y0 x1 y1 x2 y2 x3 y3 x4 y4
  have H1 := Lib.hid (h1.fit.new hmW); have H2 := Lib.hid (h2.fit.new hmW)
  have HW := Lib.hid hW; have HG0 := Lib.hid hG0; have HG := Lib.hid hG; have HmW := Lib.hid hmW
  clear hW hG0 hG hmW hb0 hb1 h1 h2
  go_enter Try.func27, Try.ntmps27
  go_upto_region 1 with fail
  rw [← HW.out, ← HG.out, ← HG0.out]
  by_cases hid : s.id = q.id
  case neg =>
    have k0 : ((s.id : Int) == q.id) = false := by simp [hid]
    have Hno : Hid (¬ s = q) := Lib.hid (fun e => hid (by rw [e]))
    clear hid
    go_wp2_with fail
    go_ret
    exact ⟨_, rfl, by simpa using Hno.out, HmW.out⟩
  have k0 : ((s.id : Int) == q.id) = true := by simp [hid]
  by_cases hsea : s.sea = q.sea
  case neg =>
    have k1 : (s.sea == q.sea) = false := by simp [hsea]
    have Hno : Hid (¬ s = q) := Lib.hid (fun e => hsea (by rw [e]))
    clear hsea
    go_wp2_with fail
    go_ret
    exact ⟨_, rfl, by simpa using Hno.out, HmW.out⟩
  have k1 : (s.sea == q.sea) = true := by simp [hsea]
  by_cases hany : s.any = q.any
  case neg =>
    have k2 : (s.any == q.any) = false := by simp [hany]
    have Hno : Hid (¬ s = q) := Lib.hid (fun e => hany (by rw [e]))
    clear hany
    go_wp2_with fail
    go_ret
    exact ⟨_, rfl, by simpa using Hno.out, HmW.out⟩
  have k2 : (s.any == q.any) = true := by simp [hany]
  by_cases hlast : s.last = q.last
  case neg =>
    have k3 : ((s.last : Int) == q.last) = false := by simp [hlast]
    have Hno : Hid (¬ s = q) := Lib.hid (fun e => hlast (by rw [e]))
    clear hlast
    go_wp2_with fail
    go_ret
    exact ⟨_, rfl, by simpa using Hno.out, HmW.out⟩
  have k3 : ((s.last : Int) == q.last) = true := by simp [hlast]
  have Qid := Lib.hid hid; have Qsea := Lib.hid hsea; have Qany := Lib.hid hany; have Qlast := Lib.hid hlast
  clear hid hsea hany hlast
  go_wp2_with fail
  refine (equalS_any A A2 n n2 c c2 w.heap.size w.heap.size s.l q.l (decide (s.l = q.l)) W H1.out H2.out hn rfl).mono ?_
  rintro e w1 ⟨rfl, hm1⟩
  have Hm1 := Lib.hid (HmW.out.trans hm1 (fun _ _ h => h))
  have Hb : Hid (decide (s.l = q.l) = true ↔ s = q) := Lib.hid (by
    rw [decide_eq_true_iff]
    refine ⟨fun h => ?_, fun h => by rw [h]⟩
    have e0 := And.intro h (And.intro Qid.out True.intro)
    cases s
    cases q
    simp only at h Qid Qsea Qany Qlast
    simp only [SerN.mk.injEq]
    exact ⟨Qid.out, Qsea.out, Qany.out, Qlast.out, h⟩)
  obtain ⟨b, hb⟩ : ∃ b, decide (s.l = q.l) = b := ⟨_, rfl⟩
  rw [hb]
  rw [hb] at Hb
  clear hm1 hb
  go_wp2_with fail
  go_ret
  exact ⟨_, rfl, Hb.out, Hm1.out⟩
set_option maxHeartbeats 1000000 in
set_option maxRecDepth 100000 in
theorem sameIte_any (s q : IteN) (A A2 : Option Addr) (n c n2 c2 B B2 : Nat) (w : World) (h1 : RdsS w B A n s.rest) (h2 : RdsS w B2 A2 n2 q.rest) (hn : n ≤ 1000000) :
    Calls Try.prog 29 #[.agg #[.int .i64 s.id, .slice A n c], .agg #[.int .i64 q.id, .slice A2 n2 c2]] w fun e w' => CmpEnd w w' (s = q) e := by
  obtain ⟨W, hW⟩ : ∃ W, W = (w.alloc (.cells #[.int .i64 s.id, .slice A n c] 50)).alloc (.cells #[.int .i64 q.id, .slice A2 n2 c2] 50) := ⟨_, rfl⟩
  obtain ⟨G0, hG0⟩ : ∃ g, g = w.heap.size := ⟨_, rfl⟩
  obtain ⟨G, hG⟩ : ∃ g, g = w.heap.size + 1 := ⟨_, rfl⟩
  have hmW : Mod (fun _ => False) w W := by rw [hW]; exact ((Mod.refl _ _).alloc _).alloc _
  have hb0 : Blk W G0 50 #[.int .i64 s.id, .slice A n c] := by rw [hW, hG0]; exact (Blk.new _ _ _).alloc _
  have hb1 : Blk W G 50 #[.int .i64 q.id, .slice A2 n2 c2] := by
    rw [hW, hG]
    have h := Blk.new (w.alloc (.cells #[.int .i64 s.id, .slice A n c] 50)) 50 #[.int .i64 q.id, .slice A2 n2 c2]
    simpa using h
  have x0 := hb0.cell 0
  have y0 := hb1.cell 0
  have x1 := hb0.cell 1
  have y1 := hb1.cell 1
  simp at x0 y0 x1 y1
  have H1 := Lib.hid (h1.fit.new hmW); have H2 := Lib.hid (h2.fit.new hmW)
  have HW := Lib.hid hW; have HG0 := Lib.hid hG0; have HG := Lib.hid hG; have HmW := Lib.hid hmW
  clear hW hG0 hG hmW hb0 hb1 h1 h2
  go_enter Try.func29, Try.ntmps29
  go_upto_region 1 with fail
  rw [← HW.out, ← HG.out, ← HG0.out]
  by_cases hid : s.id = q.id
  case neg =>
    have k0 : ((s.id : Int) == q.id) = false := by simp [hid]
    have Hno : Hid (¬ s = q) := Lib.hid (fun e => hid (by rw [e]))
    clear hid
    go_wp2_with fail
    go_ret
    exact ⟨_, rfl, by simpa using Hno.out, HmW.out⟩
  have k0 : ((s.id : Int) == q.id) = true := by simp [hid]
  have Qid := Lib.hid hid
  clear hid
  go_wp2_with fail
  refine (equalS_any A A2 n n2 c c2 w.heap.size w.heap.size s.rest q.rest (decide (s.rest = q.rest)) W H1.out H2.out hn rfl).mono ?_
  rintro e w1 ⟨rfl, hm1⟩
  have Hm1 := Lib.hid (HmW.out.trans hm1 (fun _ _ h => h))
  have Hb : Hid (decide (s.rest = q.rest) = true ↔ s = q) := Lib.hid (by
    rw [decide_eq_true_iff]
    refine ⟨fun h => ?_, fun h => by rw [h]⟩
    have e0 := And.intro h (And.intro Qid.out True.intro)
    cases s
    cases q
    simp only at h Qid
    simp only [IteN.mk.injEq]
    exact ⟨Qid.out, h⟩)
  obtain ⟨b, hb⟩ : ∃ b, decide (s.rest = q.rest) = b := ⟨_, rfl⟩
  rw [hb]
  rw [hb] at Hb
  clear hm1 hb
  go_wp2_with fail
  go_ret
  exact ⟨_, rfl, Hb.out, Hm1.out⟩
set_option maxHeartbeats 1000000 in
set_option maxRecDepth 100000 in
theorem eqSer_any (A A2 : Option Addr) (n n2 c c2 B B2 : Nat) (ps qs : List (SerN × Value)) (w : World) (h1 : RdsSer w B A n ps) (h2 : RdsSer w B2 A2 n2 qs) (hn : n ≤ 1000) (hL : ∀ p ∈ ps, p.1.l.length ≤ 1000000) :
    Calls Try.prog 26 #[.slice A n c, .slice A2 n2 c2, .func (.func 27) #[] #[]] w fun e w' => CmpEnd w w' (ps.map (·.1) = qs.map (·.1)) e := by
  have hl1 := h1.len
  have hl2 := h2.len
  have H1 := Lib.hid h1.fit; have H2 := Lib.hid h2.fit; have Hl1 := Lib.hid hl1; have Hl2 := Lib.hid hl2; have HL := Lib.hid hL
  clear h1 h2 hL hl1 hl2
  by_cases hnn : n = n2
  case neg =>
    have Hno : Hid (¬ ps.map (·.1) = qs.map (·.1)) := Lib.hid (fun e => hnn (by have h := congrArg List.length e; rw [List.length_map, List.length_map, Hl1.out, Hl2.out] at h; exact h))
    have hni : ¬ (n : Int) = (n2 : Int) := by omega
    go_enter Try.func26, Try.ntmps26
    go_wp2_with fail
    go_ret
    exact ⟨_, rfl, by simpa using Hno.out, Mod.refl _ _⟩
  subst hnn
  go_enter Try.func26, Try.ntmps26
  go_wp2_with fail
  go_loopg [17] n (fun k s17 wr => ∃ i : Nat, i + k = n ∧ s17 = .int .i64 (i : Int) ∧ (∀ j : Nat, j < i → (ps.map (·.1))[j]? = (qs.map (·.1))[j]?) ∧ Mod (fun _ => False) w wr)
  case atStart => exact ⟨0, by omega, rfl, (fun j h => by omega), Mod.refl _ _⟩
  case round =>
    obtain ⟨i, hik, rfl, hr, hm⟩ := hrel
    have Hik := Lib.hid hik; have Hr := Lib.hid hr; have Hm := Lib.hid hm
    clear hik hr hm
    by_cases hin : i < n
    · obtain ⟨ad, s, A5, n5, c5, rfl, _, hp, hr5, _, _, x0, x1, x2, x3, x4⟩ := (H1.out.new Hm.out).at_ hin
      obtain ⟨ad2, q, A6, n6, c6, rfl, _, hq, hr6, _, _, y0, y1, y2, y3, y4⟩ := (H2.out.new Hm.out).at_ hin
      have Hp : Hid ((ps.map (·.1))[i]? = some s) := Lib.hid (by rw [List.getElem?_map, hp]; rfl)
      have Hq : Hid ((qs.map (·.1))[i]? = some q) := Lib.hid (by rw [List.getElem?_map, hq]; rfl)
      have hn5 : n5 ≤ 1000000 := by have h := HL.out _ (List.mem_of_getElem? hp); have := hr5.1; simp only at h; omega
      obtain ⟨W1, hW1, hm1, hb1, hz1⟩ := Blk.box wr 43 #[.int .i64 s.id, .bool s.sea, .bool s.any, .int .i64 s.last, .slice A5 n5 c5]
      obtain ⟨g1, hg1⟩ : ∃ g, g = wr.heap.size := ⟨_, rfl⟩
      rw [← hg1] at hb1
      obtain ⟨ad3, s3, A7, n7, c7, e3, _, hq3, _, _, _, v0, v1, v2, v3, v4⟩ := (H2.out.new (Hm.out.trans hm1 (fun _ _ h => h))).at_ hin
      injection e3 with e3
      subst e3
      rw [hq] at hq3
      injection hq3 with hq3
      injection hq3 with hq3 hq4
      injection hq4 with hq5 hq6 hq7
      subst hq3 hq5 hq6 hq7
      obtain ⟨W2, hW2, hm2, hb2, hz2⟩ := Blk.box W1 43 #[.int .i64 q.id, .bool q.sea, .bool q.any, .int .i64 q.last, .slice A6 n6 c6]
      obtain ⟨g2, hg2⟩ : ∃ g, g = W1.heap.size := ⟨_, rfl⟩
      rw [← hg2] at hb2
      have hb1' := hm2.blk hb1 (fun h => h)
      have t0 := hb1'.cell 0
      have t1 := hb1'.cell 1
      have t2 := hb1'.cell 2
      have t3 := hb1'.cell 3
      have t4 := hb1'.cell 4
      have u0 := hb2.cell 0
      have u1 := hb2.cell 1
      have u2 := hb2.cell 2
      have u3 := hb2.cell 3
      have u4 := hb2.cell 4
      simp at t0 u0 t1 u1 t2 u2 t3 u3 t4 u4
      have hin' : (i : Int) < (n : Int) := by omega
      have hm12 := hm1.trans hm2 (fun _ _ h => h)
      have H5 := Lib.hid (hr5.new hm12); have H6 := Lib.hid (hr6.new hm12)
      have HW1 := Lib.hid hW1; have Hg1 := Lib.hid hg1; have HW2 := Lib.hid hW2; have Hg2 := Lib.hid hg2; have Hm12 := Lib.hid (Hm.out.trans hm12 (fun _ _ h => h))
      clear hW1 hg1 hW2 hg2 hm1 hm2 hb1 hb2 hb1' hz1 hz2 hp hq hr5 hr6 hm12
      go_upto_region 6 with fail
      rw [← HW1.out, ← Hg1.out]
      go_upto_region 7 with fail
      rw [← HW2.out, ← Hg2.out]
      go_wp2_with fail
      refine (sameSer_any s q A5 A6 n5 c5 n6 c6 _ _ W2 H5.out H6.out hn5).mono ?_
      rintro e w1 ⟨b, rfl, hb, hm3⟩
      have Hb := Lib.hid hb; have Hm3 := Lib.hid (Hm12.out.trans hm3 (fun _ _ h => h))
      clear hb hm3
      cases b with
      | true =>
        go_wp2_with fail
        go_roundg (gk - 1)
        case measure => have := Hik.out; omega
        case rel => exact ⟨i + 1, by have := Hik.out; omega, by go_num, (fun j hj => by
          rcases Nat.lt_or_ge j i with h | h
          · exact Hr.out j h
          · obtain rfl : j = i := by omega
            have h9 : s = q := by have h := Hb.out; simpa using h
            rw [Hp.out, Hq.out, h9]), Hm3.out⟩
      | false =>
        have Hno : Hid (¬ ps.map (·.1) = qs.map (·.1)) := Lib.hid (fun e => by
          have h1 := Hp.out
          rw [e, Hq.out] at h1
          injection h1 with h1
          have h2 : ¬ s = q := by have h := Hb.out; simpa using h
          exact h2 h1.symm)
        go_wp2_with fail
        go_ret
        exact ⟨_, rfl, by simpa using Hno.out, Hm3.out⟩
    · have hin' : ¬ (i : Int) < (n : Int) := by omega
      have Hyes : Hid (ps.map (·.1) = qs.map (·.1)) := Lib.hid (List.ext_getElem? fun j => by
        have h1 := Hik.out
        rcases Nat.lt_or_ge j i with h | h
        · exact Hr.out j h
        · rw [List.getElem?_eq_none (by rw [List.length_map, Hl1.out]; omega), List.getElem?_eq_none (by rw [List.length_map, Hl2.out]; omega)])
      go_wp2_with fail
      go_ret
      exact ⟨_, rfl, by simpa using Hyes.out, Hm.out⟩
set_option maxHeartbeats 1000000 in
set_option maxRecDepth 100000 in
theorem eqIte_any (A A2 : Option Addr) (n n2 c c2 B B2 : Nat) (ps qs : List (IteN × Value)) (w : World) (h1 : RdsIte w B A n ps) (h2 : RdsIte w B2 A2 n2 qs) (hn : n ≤ 1000) (hL : ∀ p ∈ ps, p.1.rest.length ≤ 1000000) :
    Calls Try.prog 28 #[.slice A n c, .slice A2 n2 c2, .func (.func 29) #[] #[]] w fun e w' => CmpEnd w w' (ps.map (·.1) = qs.map (·.1)) e := by
  have hl1 := h1.len
  have hl2 := h2.len
  have H1 := Lib.hid h1.fit; have H2 := Lib.hid h2.fit; have Hl1 := Lib.hid hl1; have Hl2 := Lib.hid hl2; have HL := Lib.hid hL
  clear h1 h2 hL hl1 hl2
  by_cases hnn : n = n2
  case neg =>
    have Hno : Hid (¬ ps.map (·.1) = qs.map (·.1)) := Lib.hid (fun e => hnn (by have h := congrArg List.length e; rw [List.length_map, List.length_map, Hl1.out, Hl2.out] at h; exact h))
    have hni : ¬ (n : Int) = (n2 : Int) := by omega
    go_enter Try.func28, Try.ntmps28
    go_wp2_with fail
    go_ret
    exact ⟨_, rfl, by simpa using Hno.out, Mod.refl _ _⟩
  subst hnn
  go_enter Try.func28, Try.ntmps28
  go_wp2_with fail
  go_loopg [17] n (fun k s17 wr => ∃ i : Nat, i + k = n ∧ s17 = .int .i64 (i : Int) ∧ (∀ j : Nat, j < i → (ps.map (·.1))[j]? = (qs.map (·.1))[j]?) ∧ Mod (fun _ => False) w wr)
  case atStart => exact ⟨0, by omega, rfl, (fun j h => by omega), Mod.refl _ _⟩
  case round =>
    obtain ⟨i, hik, rfl, hr, hm⟩ := hrel
    have Hik := Lib.hid hik; have Hr := Lib.hid hr; have Hm := Lib.hid hm
    clear hik hr hm
    by_cases hin : i < n
    · obtain ⟨ad, s, A5, n5, c5, rfl, _, hp, hr5, _, _, x0, x1⟩ := (H1.out.new Hm.out).at_ hin
      obtain ⟨ad2, q, A6, n6, c6, rfl, _, hq, hr6, _, _, y0, y1⟩ := (H2.out.new Hm.out).at_ hin
      have Hp : Hid ((ps.map (·.1))[i]? = some s) := Lib.hid (by rw [List.getElem?_map, hp]; rfl)
      have Hq : Hid ((qs.map (·.1))[i]? = some q) := Lib.hid (by rw [List.getElem?_map, hq]; rfl)
      have hn5 : n5 ≤ 1000000 := by have h := HL.out _ (List.mem_of_getElem? hp); have := hr5.1; simp only at h; omega
      obtain ⟨W1, hW1, hm1, hb1, hz1⟩ := Blk.box wr 50 #[.int .i64 s.id, .slice A5 n5 c5]
      obtain ⟨g1, hg1⟩ : ∃ g, g = wr.heap.size := ⟨_, rfl⟩
      rw [← hg1] at hb1
      obtain ⟨ad3, s3, A7, n7, c7, e3, _, hq3, _, _, _, v0, v1⟩ := (H2.out.new (Hm.out.trans hm1 (fun _ _ h => h))).at_ hin
      injection e3 with e3
      subst e3
      rw [hq] at hq3
      injection hq3 with hq3
      injection hq3 with hq3 hq4
      injection hq4 with hq5 hq6 hq7
      subst hq3 hq5 hq6 hq7
      obtain ⟨W2, hW2, hm2, hb2, hz2⟩ := Blk.box W1 50 #[.int .i64 q.id, .slice A6 n6 c6]
      obtain ⟨g2, hg2⟩ : ∃ g, g = W1.heap.size := ⟨_, rfl⟩
      rw [← hg2] at hb2
      have hb1' := hm2.blk hb1 (fun h => h)
      have t0 := hb1'.cell 0
      have t1 := hb1'.cell 1
      have u0 := hb2.cell 0
      have u1 := hb2.cell 1
      simp at t0 u0 t1 u1
      have hin' : (i : Int) < (n : Int) := by omega
      have hm12 := hm1.trans hm2 (fun _ _ h => h)
      have H5 := Lib.hid (hr5.new hm12); have H6 := Lib.hid (hr6.new hm12)
      have HW1 := Lib.hid hW1; have Hg1 := Lib.hid hg1; have HW2 := Lib.hid hW2; have Hg2 := Lib.hid hg2; have Hm12 := Lib.hid (Hm.out.trans hm12 (fun _ _ h => h))
      clear hW1 hg1 hW2 hg2 hm1 hm2 hb1 hb2 hb1' hz1 hz2 hp hq hr5 hr6 hm12
      go_upto_region 6 with fail
      rw [← HW1.out, ← Hg1.out]
      go_upto_region 7 with fail
      rw [← HW2.out, ← Hg2.out]
      go_wp2_with fail
      refine (sameIte_any s q A5 A6 n5 c5 n6 c6 _ _ W2 H5.out H6.out hn5).mono ?_
      rintro e w1 ⟨b, rfl, hb, hm3⟩
      have Hb := Lib.hid hb; have Hm3 := Lib.hid (Hm12.out.trans hm3 (fun _ _ h => h))
      clear hb hm3
      cases b with
      | true =>
        go_wp2_with fail
        go_roundg (gk - 1)
        case measure => have := Hik.out; omega
        case rel => exact ⟨i + 1, by have := Hik.out; omega, by go_num, (fun j hj => by
          rcases Nat.lt_or_ge j i with h | h
          · exact Hr.out j h
          · obtain rfl : j = i := by omega
            have h9 : s = q := by have h := Hb.out; simpa using h
            rw [Hp.out, Hq.out, h9]), Hm3.out⟩
      | false =>
        have Hno : Hid (¬ ps.map (·.1) = qs.map (·.1)) := Lib.hid (fun e => by
          have h1 := Hp.out
          rw [e, Hq.out] at h1
          injection h1 with h1
          have h2 : ¬ s = q := by have h := Hb.out; simpa using h
          exact h2 h1.symm)
        go_wp2_with fail
        go_ret
        exact ⟨_, rfl, by simpa using Hno.out, Hm3.out⟩
    · have hin' : ¬ (i : Int) < (n : Int) := by omega
      have Hyes : Hid (ps.map (·.1) = qs.map (·.1)) := Lib.hid (List.ext_getElem? fun j => by
        have h1 := Hik.out
        rcases Nat.lt_or_ge j i with h | h
        · exact Hr.out j h
        · rw [List.getElem?_eq_none (by rw [List.length_map, Hl1.out]; omega), List.getElem?_eq_none (by rw [List.length_map, Hl2.out]; omega)])
      go_wp2_with fail
      go_ret
      exact ⟨_, rfl, by simpa using Hyes.out, Hm.out⟩
end Go.Proofs.Ytejnhdenehkpmaa

/- Models and results compared, of the code; results, as the document has it. -/
namespace Go.Proofs.Ytejnhdenehkpmaa
open Go.RowKit

set_option maxHeartbeats 1000000 in
set_option maxRecDepth 100000 in
theorem msameR_any (r q : ResN) (A A2 : Option Addr) (n c n2 c2 B B2 : Nat) (w : World) (h1 : RdsS w B A n r.l) (h2 : RdsS w B2 A2 n2 q.l) (hn : n ≤ 1000000) :
    Calls Try.prog 16 #[.agg #[.int .i64 r.err, .int .i64 r.iter, .slice A n c], .agg #[.int .i64 q.err, .int .i64 q.iter, .slice A2 n2 c2]] w fun e w' => CmpEnd w w' (r = q) e := by
  obtain ⟨W, hW⟩ : ∃ W, W = (w.alloc (.cells #[.int .i64 r.err, .int .i64 r.iter, .slice A n c] 34)).alloc (.cells #[.int .i64 q.err, .int .i64 q.iter, .slice A2 n2 c2] 34) := ⟨_, rfl⟩
  obtain ⟨G0, hG0⟩ : ∃ g, g = w.heap.size := ⟨_, rfl⟩
  obtain ⟨G, hG⟩ : ∃ g, g = w.heap.size + 1 := ⟨_, rfl⟩
  have hmW : Mod (fun _ => False) w W := by rw [hW]; exact ((Mod.refl _ _).alloc _).alloc _
  have hb0 : Blk W G0 34 #[.int .i64 r.err, .int .i64 r.iter, .slice A n c] := by rw [hW, hG0]; exact (Blk.new _ _ _).alloc _
  have hb1 : Blk W G 34 #[.int .i64 q.err, .int .i64 q.iter, .slice A2 n2 c2] := by
    rw [hW, hG]
    have h := Blk.new (w.alloc (.cells #[.int .i64 r.err, .int .i64 r.iter, .slice A n c] 34)) 34 #[.int .i64 q.err, .int .i64 q.iter, .slice A2 n2 c2]
    simpa using h
  have x0 := hb0.cell 0
  have x1 := hb0.cell 1
  have x2 := hb0.cell 2
  have y0 := hb1.cell 0
  have y1 := hb1.cell 1
  have y2 := hb1.cell 2
  simp at x0 x1 x2 y0 y1 y2
  have H1 := Lib.hid (h1.fit.new hmW); have H2 := Lib.hid (h2.fit.new hmW)
  have HW := Lib.hid hW; have HG0 := Lib.hid hG0; have HG := Lib.hid hG; have HmW := Lib.hid hmW
  clear hW hG0 hG hmW hb0 hb1 h1 h2
  go_enter Try.func16, Try.ntmps16
  go_upto_region 1 with fail
  rw [← HW.out, ← HG.out, ← HG0.out]
  by_cases herr : r.err = q.err
  case neg =>
    have kerr : ((r.err : Int) == q.err) = false := by simp [herr]
    have Hno : Hid (¬ r = q) := Lib.hid (fun e => herr (by rw [e]))
    clear herr
    go_wp2_with fail
    go_ret
    exact ⟨_, rfl, by simpa using Hno.out, HmW.out⟩
  have kerr : ((r.err : Int) == q.err) = true := by simp [herr]
  by_cases hiter : r.iter = q.iter
  case neg =>
    have kiter : ((r.iter : Int) == q.iter) = false := by simp [hiter]
    have Hno : Hid (¬ r = q) := Lib.hid (fun e => hiter (by rw [e]))
    clear hiter
    go_wp2_with fail
    go_ret
    exact ⟨_, rfl, by simpa using Hno.out, HmW.out⟩
  have kiter : ((r.iter : Int) == q.iter) = true := by simp [hiter]
  have Qerr := Lib.hid herr; have Qiter := Lib.hid hiter
  clear herr hiter
  obtain ⟨b, hb⟩ : ∃ b, decide (r.l = q.l) = b := ⟨_, rfl⟩
  go_wp2_with fail
  refine (equalS_any A A2 n n2 c c2 w.heap.size w.heap.size r.l q.l b W H1.out H2.out hn hb).mono ?_
  rintro e w1 ⟨rfl, hm1⟩
  have Hm1 := Lib.hid (HmW.out.trans hm1 (fun _ _ h => h))
  have Hb : Hid (b = true ↔ r = q) := Lib.hid (by
    rw [← hb, decide_eq_true_iff]
    refine ⟨fun h => ?_, fun h => by rw [h]⟩
    cases r
    cases q
    simp only at h Qerr Qiter
    simp only [ResN.mk.injEq]
    exact ⟨Qerr.out, Qiter.out, h⟩)
  clear hm1 hb
  go_wp2_with fail
  go_ret
  exact ⟨_, rfl, Hb.out, Hm1.out⟩
set_option maxHeartbeats 1000000 in
set_option maxRecDepth 100000 in
theorem rsameR_any (r q : ResN) (A A2 : Option Addr) (n c n2 c2 B B2 : Nat) (w : World) (h1 : RdsS w B A n r.l) (h2 : RdsS w B2 A2 n2 q.l) (hn : n ≤ 1000000) :
    Calls Try.prog 14 #[.agg #[.int .i64 r.err, .int .i64 r.iter, .slice A n c], .agg #[.int .i64 q.err, .int .i64 q.iter, .slice A2 n2 c2]] w fun e w' => CmpEnd w w' (r = q) e := by
  obtain ⟨W, hW⟩ : ∃ W, W = (w.alloc (.cells #[.int .i64 r.err, .int .i64 r.iter, .slice A n c] 34)).alloc (.cells #[.int .i64 q.err, .int .i64 q.iter, .slice A2 n2 c2] 34) := ⟨_, rfl⟩
  obtain ⟨G0, hG0⟩ : ∃ g, g = w.heap.size := ⟨_, rfl⟩
  obtain ⟨G, hG⟩ : ∃ g, g = w.heap.size + 1 := ⟨_, rfl⟩
  have hmW : Mod (fun _ => False) w W := by rw [hW]; exact ((Mod.refl _ _).alloc _).alloc _
  have hb0 : Blk W G0 34 #[.int .i64 r.err, .int .i64 r.iter, .slice A n c] := by rw [hW, hG0]; exact (Blk.new _ _ _).alloc _
  have hb1 : Blk W G 34 #[.int .i64 q.err, .int .i64 q.iter, .slice A2 n2 c2] := by
    rw [hW, hG]
    have h := Blk.new (w.alloc (.cells #[.int .i64 r.err, .int .i64 r.iter, .slice A n c] 34)) 34 #[.int .i64 q.err, .int .i64 q.iter, .slice A2 n2 c2]
    simpa using h
  have x0 := hb0.cell 0
  have x1 := hb0.cell 1
  have x2 := hb0.cell 2
  have y0 := hb1.cell 0
  have y1 := hb1.cell 1
  have y2 := hb1.cell 2
  simp at x0 x1 x2 y0 y1 y2
  have H1 := Lib.hid (h1.fit.new hmW); have H2 := Lib.hid (h2.fit.new hmW)
  have HW := Lib.hid hW; have HG0 := Lib.hid hG0; have HG := Lib.hid hG; have HmW := Lib.hid hmW
  clear hW hG0 hG hmW hb0 hb1 h1 h2
  go_enter Try.func14, Try.ntmps14
  go_upto_region 1 with fail
  rw [← HW.out, ← HG.out, ← HG0.out]
  by_cases herr : r.err = q.err
  case neg =>
    have kerr : ((r.err : Int) == q.err) = false := by simp [herr]
    have Hno : Hid (¬ r = q) := Lib.hid (fun e => herr (by rw [e]))
    clear herr
    go_wp2_with fail
    go_ret
    exact ⟨_, rfl, by simpa using Hno.out, HmW.out⟩
  have kerr : ((r.err : Int) == q.err) = true := by simp [herr]
  by_cases hiter : r.iter = q.iter
  case neg =>
    have kiter : ((r.iter : Int) == q.iter) = false := by simp [hiter]
    have Hno : Hid (¬ r = q) := Lib.hid (fun e => hiter (by rw [e]))
    clear hiter
    go_wp2_with fail
    go_ret
    exact ⟨_, rfl, by simpa using Hno.out, HmW.out⟩
  have kiter : ((r.iter : Int) == q.iter) = true := by simp [hiter]
  have Qerr := Lib.hid herr; have Qiter := Lib.hid hiter
  clear herr hiter
  obtain ⟨b, hb⟩ : ∃ b, decide (r.l = q.l) = b := ⟨_, rfl⟩
  go_wp2_with fail
  refine (sameS_any A A2 n n2 c c2 w.heap.size w.heap.size r.l q.l b W H1.out H2.out hn hb).mono ?_
  rintro e w1 ⟨rfl, hm1⟩
  have Hm1 := Lib.hid (HmW.out.trans hm1 (fun _ _ h => h))
  have Hb : Hid (b = true ↔ r = q) := Lib.hid (by
    rw [← hb, decide_eq_true_iff]
    refine ⟨fun h => ?_, fun h => by rw [h]⟩
    cases r
    cases q
    simp only at h Qerr Qiter
    simp only [ResN.mk.injEq]
    exact ⟨Qerr.out, Qiter.out, h⟩)
  clear hm1 hb
  go_wp2_with fail
  go_ret
  exact ⟨_, rfl, Hb.out, Hm1.out⟩
set_option maxHeartbeats 1000000 in
set_option maxRecDepth 100000 in
theorem msame_any (m q : ModN) (A A2 E E2 : Option Addr) (n c n2 c2 k d k2 d2 B B2 : Nat) (w : World) (h1 : RdsM w B A n c A2 n2 c2 m) (h2 : RdsM w B2 E k d E2 k2 d2 q) (hn : n ≤ 1000) (hn2 : n2 ≤ 1000) (hL : LenM m 100000) :
    Calls Try.prog 15 #[.agg #[.slice A n c, .slice A2 n2 c2, .int .i64 m.next], .agg #[.slice E k d, .slice E2 k2 d2, .int .i64 q.next]] w fun e w' => CmpEnd w w' (m = q) e := by
  obtain ⟨ps, is, hps, his, hR, hR2, _⟩ := h1
  obtain ⟨qs, js, hqs, hjs, hS, hS2, _⟩ := h2
  obtain ⟨W, hW⟩ : ∃ W, W = (w.alloc (.cells #[.slice A n c, .slice A2 n2 c2, .int .i64 m.next] 31)).alloc (.cells #[.slice E k d, .slice E2 k2 d2, .int .i64 q.next] 31) := ⟨_, rfl⟩
  obtain ⟨G0, hG0⟩ : ∃ g, g = w.heap.size := ⟨_, rfl⟩
  obtain ⟨G, hG⟩ : ∃ g, g = w.heap.size + 1 := ⟨_, rfl⟩
  have hmW : Mod (fun _ => False) w W := by rw [hW]; exact ((Mod.refl _ _).alloc _).alloc _
  have hb0 : Blk W G0 31 #[.slice A n c, .slice A2 n2 c2, .int .i64 m.next] := by rw [hW, hG0]; exact (Blk.new _ _ _).alloc _
  have hb1 : Blk W G 31 #[.slice E k d, .slice E2 k2 d2, .int .i64 q.next] := by
    rw [hW, hG]
    have h := Blk.new (w.alloc (.cells #[.slice A n c, .slice A2 n2 c2, .int .i64 m.next] 31)) 31 #[.slice E k d, .slice E2 k2 d2, .int .i64 q.next]
    simpa using h
  have x0 := hb0.cell 0
  have x2 := hb0.cell 2
  have y0 := hb1.cell 0
  have y2 := hb1.cell 2
  simp at x0 x2 y0 y2
  have hL1 : ∀ p ∈ ps, p.1.l.length ≤ 1000000 := fun p hp => by have := (hL.1 p.1 (by rw [← hps]; exact List.mem_map.2 ⟨p, hp, rfl⟩)).1; omega
  have hL2 : ∀ p ∈ is, p.1.rest.length ≤ 1000000 := fun p hp => by have := (hL.2 p.1 (by rw [← his]; exact List.mem_map.2 ⟨p, hp, rfl⟩)).1; omega
  have HR := Lib.hid (hR.new hmW); have HR2 := Lib.hid (hR2.new hmW); have HS := Lib.hid (hS.new hmW); have HS2 := Lib.hid (hS2.new hmW)
  have Hps := Lib.hid hps; have His := Lib.hid his; have Hqs := Lib.hid hqs; have Hjs := Lib.hid hjs; have HL1 := Lib.hid hL1; have HL2 := Lib.hid hL2
  have HW := Lib.hid hW; have HG0 := Lib.hid hG0; have HG := Lib.hid hG; have HmW := Lib.hid hmW; have Hb0 := Lib.hid hb0; have Hb1 := Lib.hid hb1
  clear hW hG0 hG hmW hb0 hb1 hR hR2 hS hS2 hps his hqs hjs hL hL1 hL2
  go_enter Try.func15, Try.ntmps15
  go_upto_region 1 with fail
  rw [← HW.out, ← HG.out, ← HG0.out]
  by_cases hnx : m.next = q.next
  case neg =>
    have kn : ((m.next : Int) == q.next) = false := by simp [hnx]
    have Hno : Hid (¬ m = q) := Lib.hid (fun e => hnx (by rw [e]))
    clear hnx
    go_wp2_with fail
    go_ret
    exact ⟨_, rfl, by simpa using Hno.out, HmW.out⟩
  have kn : ((m.next : Int) == q.next) = true := by simp [hnx]
  have Qn := Lib.hid hnx
  clear hnx
  go_wp2_with fail
  refine (eqSer_any A E n k c d _ _ ps qs W HR.out HS.out hn HL1.out).mono ?_
  rintro e w1 ⟨b, rfl, hb, hm1⟩
  rw [Hps.out, Hqs.out] at hb
  have Hb := Lib.hid hb; have Hm1 := Lib.hid hm1
  have x1 := (hm1.blk Hb0.out (fun h => h)).cell 1
  have y1 := (hm1.blk Hb1.out (fun h => h)).cell 1
  simp at x1 y1
  clear hb hm1 x0 x2 y0 y2
  cases b with
  | false =>
    have Hno : Hid (¬ m = q) := Lib.hid (fun e => by
      have h := Hb.out
      have h2 : ¬ m.ser = q.ser := by simpa using h
      exact h2 (by rw [e]))
    clear x1 y1
    go_wp2_with fail
    go_ret
    exact ⟨_, rfl, by simpa using Hno.out, HmW.out.trans Hm1.out (fun _ _ h => h)⟩
  | true =>
    go_wp2_with fail
    refine (eqIte_any A2 E2 n2 k2 c2 d2 _ _ is js w1 (HR2.out.new Hm1.out) (HS2.out.new Hm1.out) hn2 HL2.out).mono ?_
    rintro e w2 ⟨b2, rfl, hb2, hm2⟩
    rw [His.out, Hjs.out] at hb2
    have Hb2 : Hid (b2 = true ↔ m = q) := Lib.hid (by
      rw [hb2]
      have h := Hb.out
      have h2 : m.ser = q.ser := by simpa using h
      have h3 := Qn.out
      constructor
      · intro h4
        cases m
        cases q
        simp only at h2 h3 h4
        simp only [ModN.mk.injEq]
        exact ⟨h2, h4, h3⟩
      · intro h4
        rw [h4])
    have Hm2 := Lib.hid ((HmW.out.trans Hm1.out (fun _ _ h => h)).trans hm2 (fun _ _ h => h))
    clear hb2 hm2 x1 y1
    go_wp2_with fail
    go_ret
    exact ⟨_, rfl, Hb2.out, Hm2.out⟩
end Go.Proofs.Ytejnhdenehkpmaa

/- The laws of layer 14, in the model's words: what an iterator tells bit by bit; iterators as many as may be. -/
namespace Go.Proofs.Ytejnhdenehkpmaa

theorem doN_next {m : ModN} {o : OpN} : m.next ≤ (doN m o).1.next ∧ (doN m o).1.next ≤ m.next + 1 := by
  have h0 : m.next ≤ m.next ∧ m.next ≤ m.next + 1 := ⟨Int.le_refl _, by omega⟩
  unfold doN
  split
  · split
    · exact h0
    · split
      · split <;> exact h0
      · rename_i j hj
        obtain ⟨s, hs, _⟩ := atS_some hj
        rw [hs]
        simp only
        split
        · split
          · exact h0
          · split <;> exact h0
        · split
          · exact h0
          · split
            · split <;> exact h0
            · split
              · exact h0
              · split
                · exact h0
                · exact ⟨by show m.next ≤ m.next + 1; omega, Int.le_refl _⟩
  · split
    · split
      · exact h0
      · rename_i j hj
        obtain ⟨s, hs, _⟩ := atI_some hj
        rw [hs]
        simp only
        split <;> exact h0
    · exact h0
/-- An iterator that has told so much, and has the rest. -/
def TellN (id : Int) (l : List (Int × Nat)) (m : ModN) (told : List (Int × Nat)) (i : Nat) : Prop :=
  KeepM m ∧ id ≤ m.next ∧ ∃ k, told = l.take k ∧ restN id m = some (l.drop k) ∧ min i l.length ≤ k ∧ k ≤ l.length
theorem TellN.begin {id : Int} {l : List (Int × Nat)} {m : ModN} (h : KeepM m) (hid : id ≤ m.next) (hr : restN id m = some l) : TellN id l m [] 0 := ⟨h, hid, 0, rfl, hr, Nat.min_le_left .., Nat.zero_le _⟩
theorem TellN.other {id : Int} {l told : List (Int × Nat)} {m : ModN} {i : Nat} (h : TellN id l m told i) {o : OpN} (ho : o.iter ≠ id) : TellN id l (doN m o).1 told i := by
  obtain ⟨h1, h2, k, h3, h4, h5⟩ := h
  exact ⟨doN_keep h1 o, Int.le_trans h2 doN_next.1, k, h3, by rw [rest_other h2 (fun e => ho e.2)]; exact h4, h5⟩
theorem TellN.next {id : Int} {l told : List (Int × Nat)} {m : ModN} {i : Nat} (h : TellN id l m told i) {o : OpN} (hk : o.kind = 6) (ho : o.iter = id) (hn : 1 ≤ o.n ∧ o.n ≤ 1000) :
    (doN m o).2.err = 0 ∧ ((doN m o).2.l.length : Int) ≤ o.n ∧ TellN id l (doN m o).1 (told ++ (doN m o).2.l) (i + 1) := by
  obtain ⟨h1, h2, k, h3, h4, h5, h6⟩ := h
  obtain ⟨e1, e2, e3⟩ := rest_next h4 hk ho
  have hdl : (l.drop k).length = l.length - k := List.length_drop
  obtain ⟨c, hc⟩ : ∃ c, c = manyN o.n (l.drop k).length := ⟨_, rfl⟩
  have hc1 : c ≤ l.length - k ∧ (c : Int) ≤ o.n ∧ (1 ≤ c ∨ l.length - k = 0) := by
    rw [hc, hdl]
    unfold manyN
    omega
  rw [← hc] at e1 e2
  rw [e1]
  refine ⟨rfl, ?_, doN_keep h1 o, by rw [e3]; exact h2, k + c, ?_, ?_, by omega, by omega⟩
  · show (((l.drop k).take c).length : Int) ≤ o.n
    rw [List.length_take, hdl]
    omega
  · show told ++ (l.drop k).take c = l.take (k + c)
    rw [h3, List.take_add]
  · rw [e2, List.drop_drop]
theorem TellN.done {id : Int} {l told : List (Int × Nat)} {m : ModN} {i : Nat} (h : TellN id l m told i) (hi : l.length ≤ i) : told = l := by
  obtain ⟨_, _, k, h3, _, h5, h6⟩ := h
  rw [h3]
  exact List.take_of_length_le (by omega)
/-- Where none is opened, a read is refused alike, or there are too many. -/
theorem open_err {m : ModN} {o : OpN} (hk : o.kind = 5) : (doN m o).2.err = 0 ∨ (doN m o).2.err = (doN m { o with kind := 2 }).2.err ∨ (doN m o).2.err = 5 := by
  unfold doN
  rw [if_pos (by omega : (1 : Int) ≤ o.kind ∧ o.kind ≤ 5)]
  show _ ∨ _ = (if (1 : Int) ≤ 2 ∧ (2 : Int) ≤ 5 then _ else _ : ModN × ResN).2.err ∨ _
  rw [if_pos (by omega : (1 : Int) ≤ 2 ∧ (2 : Int) ≤ 5)]
  by_cases e : o.series < 0 ∨ 15 < o.series
  · rw [if_pos e, if_pos e]
    exact .inr (.inl rfl)
  · rw [if_neg e, if_neg e]
    cases hj : atS o.series m.ser with
    | none =>
      simp only []
      rw [if_neg (by omega)]
      exact .inr (.inl rfl)
    | some k =>
      obtain ⟨s, hs, _⟩ := atS_some hj
      simp only [hs]
      rw [if_neg (by omega), if_neg (by omega), if_neg (by omega), if_neg (by omega)]
      by_cases e8 : 8 ≤ m.ite.length
      · rw [if_pos e8]; exact .inr (.inr rfl)
      · rw [if_neg e8]; exact .inl rfl
end Go.Proofs.Ytejnhdenehkpmaa

/- ModlEdges, in the model's words. -/
namespace Go.Proofs.Ytejnhdenehkpmaa

section
variable {m : ModN} {t : Int} {o : OpN}
end
end Go.Proofs.Ytejnhdenehkpmaa

/- Rows of series and of iterators: one element more; what is done to the one leaves the other. -/
namespace Go.Proofs.Ytejnhdenehkpmaa
open Go.RowKit

section
variable {w w' : World} {B : Nat} {v v' : Value} {ps : List (SerN × Value)} {qs : List (IteN × Value)}
theorem HavSer.snoc {s : SerN} {u : Value} (h : HavSer B w v ps) (hO : OwnK 5 B w' 43 v' (ps.map serC ++ [serC (s, u)])) (hm : Mod (fun k => v.ownBlock = some k) w w') (hu : SliH B w u s.l) : HavSer B w' v' (ps ++ [(s, u)]) := by
  have hS : ∀ k cs, B ≤ k → Blk w k 48 cs → ¬ v.ownBlock = some k := fun k cs _ hb e => by
    obtain ⟨cs', hcs⟩ := own_blk h.1 k e
    exact Blk.ne_ hb hcs (by decide) rfl
  refine ⟨by rw [List.map_append]; exact hO, fun p hp => ?_⟩
  rcases List.mem_append.1 hp with hp | hp
  · exact (h.2 p hp).mod hm hS
  · rw [List.mem_singleton.1 hp]
    exact hu.mod hm hS
theorem HavIte.snoc {s : IteN} {u : Value} (h : HavIte B w v qs) (hO : OwnK 2 B w' 50 v' (qs.map iteC ++ [iteC (s, u)])) (hm : Mod (fun k => v.ownBlock = some k) w w') (hu : SliH B w u s.rest) : HavIte B w' v' (qs ++ [(s, u)]) := by
  have hS : ∀ k cs, B ≤ k → Blk w k 48 cs → ¬ v.ownBlock = some k := fun k cs _ hb e => by
    obtain ⟨cs', hcs⟩ := own_blk h.1 k e
    exact Blk.ne_ hb hcs (by decide) rfl
  refine ⟨by rw [List.map_append]; exact hO, fun p hp => ?_⟩
  rcases List.mem_append.1 hp with hp | hp
  · exact (h.2 p hp).mod hm hS
  · rw [List.mem_singleton.1 hp]
    exact hu.mod hm hS
/-- What is done to blocks that are not of these types. -/
theorem HavSer.modT {S : Nat → Prop} (h : HavSer B w v ps) (hm : Mod S w w') (h1 : ∀ k cs, Blk w k 43 cs → ¬ S k) (h2 : ∀ k cs, Blk w k 48 cs → ¬ S k) : HavSer B w' v ps :=
  ⟨h.1.modS hm (fun k hk => by obtain ⟨cs, hb⟩ := own_blk h.1 k hk; exact h1 k cs hb), fun p hp => (h.2 p hp).mod hm (fun k cs _ hb => h2 k cs hb)⟩
theorem HavIte.modT {S : Nat → Prop} (h : HavIte B w v qs) (hm : Mod S w w') (h1 : ∀ k cs, Blk w k 50 cs → ¬ S k) (h2 : ∀ k cs, Blk w k 48 cs → ¬ S k) : HavIte B w' v qs :=
  ⟨h.1.modS hm (fun k hk => by obtain ⟨cs, hb⟩ := own_blk h.1 k hk; exact h1 k cs hb), fun p hp => (h.2 p hp).mod hm (fun k cs _ hb => h2 k cs hb)⟩
theorem HavSer.new (h : HavSer B w v ps) (hm : Mod (fun _ => False) w w') : HavSer B w' v ps := h.far hm (Far.none_ w)
theorem HavIte.new (h : HavIte B w v qs) (hm : Mod (fun _ => False) w w') : HavIte B w' v qs := h.far hm (Far.none_ w)
theorem HavSer.mono {B' : Nat} (h : HavSer B w v ps) (hB : B' ≤ B) : HavSer B' w v ps := ⟨h.1.mono hB, fun p hp => (h.2 p hp).mono hB⟩
theorem HavIte.mono {B' : Nat} (h : HavIte B w v qs) (hB : B' ≤ B) : HavIte B' w v qs := ⟨h.1.mono hB, fun p hp => (h.2 p hp).mono hB⟩
theorem HavSer.nil (B : Nat) (w : World) : HavSer B w (.slice none 0 0) [] := ⟨OwnK.nil _ _ _ _, fun _ h => by cases h⟩
theorem HavIte.nil (B : Nat) (w : World) : HavIte B w (.slice none 0 0) [] := ⟨OwnK.nil _ _ _ _, fun _ h => by cases h⟩
/-- An own block is none of another type. -/
theorem ownK_ne {K g : Nat} {e t : TypeId} {rows : List (List Value)} {cs : Array Value} (h : OwnK K B w e v rows) (hb : Blk w g t cs) (hne : e ≠ t) : ¬ v.ownBlock = some g := fun e' => by
  obtain ⟨cs', hcs⟩ := own_blk h g e'
  exact Blk.ne_ hcs hb hne rfl
theorem serC_cells (s : SerN) (u : Value) (h : ∃ A n c, u = .slice A n c) : ∀ x ∈ serC (s, u), x.oneCell' = true := by
  obtain ⟨A, n, c, rfl⟩ := h
  intro x hx
  simp only [serC, List.mem_cons, List.not_mem_nil, or_false] at hx
  rcases hx with rfl | rfl | rfl | rfl | rfl <;> rfl
theorem iteC_cells (s : IteN) (u : Value) (h : ∃ A n c, u = .slice A n c) : ∀ x ∈ iteC (s, u), x.oneCell' = true := by
  obtain ⟨A, n, c, rfl⟩ := h
  intro x hx
  simp only [iteC, List.mem_cons, List.not_mem_nil, or_false] at hx
  rcases hx with rfl | rfl <;> rfl
end
theorem take_succ_map {α β : Type} {l : List α} {i : Nat} {x : α} (f : α → β) (h : l[i]? = some x) : (l.map f).take (i + 1) = (l.map f).take i ++ [f x] := by
  have h2 : (l.map f)[i]? = some (f x) := by rw [List.getElem?_map, h]; rfl
  obtain ⟨hk, e⟩ := List.getElem?_eq_some_iff.1 h2
  rw [List.take_add_one, h2]
  rfl
end Go.Proofs.Ytejnhdenehkpmaa

/- own: samples of one's own, as the document has it (a seat without Jm). -/
namespace Go.Proofs.Ytejnhdenehkpmaa
open Go.RowKit

set_option maxHeartbeats 1000000 in
set_option maxRecDepth 100000 in
theorem own14_any (A : Option Addr) (n c : Nat) (l : List (Int × Nat)) (w : World) (hs : RdsS w w.heap.size A n l) (hm : n ≤ 1000000) :
    Calls Try.prog 24 #[.slice A n c] w fun e w' => ∃ v, e = .returned v ∧ OwnS w.heap.size w' v l ∧ Mod (fun _ => False) w w' := by
  have Hown : Hid (OwnK 2 w.heap.size (w.alloc (.cells #[] 48)) 48 (.slice (some ⟨w.heap.size, 0, none⟩) 0 0) []) := Lib.hid (own_litK (Nat.le_refl _))
  have Hr := Lib.hid (hs.alloc (Nat.le_refl _) (.cells #[] 48)).toK
  have Hone := Lib.hid (oneS l)
  have hr1 : ([] : List (List Value)).length + n ≤ maxLen := by unfold maxLen; simp; omega
  have hr2 : (([] : List (List Value)).length + n) * 16 ≤ 140737488355328 := by simp; omega
  have hsz : w.heap.size ≤ (w.alloc (.cells #[] 48)).heap.size := by simp
  clear hs
  go_enter Try.func24, Try.ntmps24
  go_wp2_with (at_builtin; refine wpList_appK rfl (.tmp 3) (.tmp 4) _ rfl eltS2 rfl Hown.out rfl Hr.out Hone.out hr1 hr2 hsz ?_; intro v4 w4 HO HB HG; clear HG)
  go_ret
  exact ⟨_, rfl, by have := HO.out; rw [List.nil_append] at this; exact this.toS, ((Mod.refl (fun _ => False) w).alloc _).trans (Mod.of_below HB.out) (fun i hi h => by omega)⟩
end Go.Proofs.Ytejnhdenehkpmaa

/- at, iter: where a series, an iterator stands, as the document has it. -/
namespace Go.Proofs.Ytejnhdenehkpmaa
open Go.RowKit

set_option maxHeartbeats 1000000 in
set_option maxRecDepth 100000 in
theorem rat_any (m : ModN) (A A2 : Option Addr) (n c n2 c2 B : Nat) (S : Int) (w : World) (h1 : RdsM w B A n c A2 n2 c2 m) (hn : n ≤ 1000000) :
    Calls Try.prog 21 #[.agg #[.slice A n c, .slice A2 n2 c2, .int .i64 m.next], .int .i64 S] w fun e w' => ∃ k : Int, e = .returned (.int .i64 k) ∧ FstN (fun q => q.id = S) m.ser k ∧ Mod (fun _ => False) w w' := by
  obtain ⟨ps, is, hps, his, hR, hR2, _⟩ := h1
  obtain ⟨W, hW, hmW, hbW, hzW⟩ := Blk.box w 31 #[.slice A n c, .slice A2 n2 c2, .int .i64 m.next]
  obtain ⟨g, hg⟩ : ∃ g, g = w.heap.size := ⟨_, rfl⟩
  rw [← hg] at hbW
  have hl : (ps.map (·.1)).length = n := by rw [List.length_map]; exact hR.len
  rw [← hps]
  have Hs := Lib.hid (hR.new hmW); have Hl := Lib.hid hl; have HW := Lib.hid hW; have HmW := Lib.hid hmW; have HbW := Lib.hid hbW; have Hg := Lib.hid hg
  clear hl hW hmW hbW hzW hg hR hR2 hps his
  go_enter Try.func21, Try.ntmps21
  go_upto_region 1 with fail
  rw [← HW.out, ← Hg.out]
  go_wp2_with fail
  go_loopg [5] n (fun k s5 wr => ∃ i : Nat, i + k = n ∧ s5 = .int .i64 (i : Int) ∧ (∀ (j : Nat) (q : SerN), j < i → (ps.map (·.1))[j]? = some q → ¬ (q.id = S)) ∧ Mod (fun _ => False) W wr)
  case atStart => exact ⟨0, by omega, rfl, (fun j q h => by omega), Mod.refl _ _⟩
  case round =>
    obtain ⟨i, hik, rfl, hr, hm⟩ := hrel
    have x0 := (hm.blk HbW.out (fun h => h)).cell 0
    simp at x0
    have Hik := Lib.hid hik; have Hr := Lib.hid hr; have Hm := Lib.hid hm
    clear hik hr hm
    by_cases hin : i < n
    · obtain ⟨ad, s, A5, n5, c5, rfl, _, hp, _, _, _, hc0, hc1, hc2, hc3, hc4⟩ := (Hs.out.new Hm.out).at_ hin
      have Hp : Hid ((ps.map (·.1))[i]? = some s) := Lib.hid (by rw [List.getElem?_map, hp]; rfl)
      have hin' : (i : Int) < (n : Int) := by omega
      clear hp
      by_cases he : s.id = S
      · have ke : ((s.id : Int) == S) = true := by simp [he]
        have He := Lib.hid he
        clear he
        go_wp2_with fail
        go_ret
        exact ⟨_, rfl, .inl ⟨i, rfl, s, Hp.out, He.out, Hr.out⟩, HmW.out.trans Hm.out (fun _ _ h => h)⟩
      · have ke : ((s.id : Int) == S) = false := by simp [he]
        have He := Lib.hid he
        clear he
        go_wp2_with fail
        go_roundg (gk - 1)
        case measure => have := Hik.out; omega
        case rel => exact ⟨i + 1, by have := Hik.out; omega, by go_num, (fun j q hj hq => by
          rcases Nat.lt_or_ge j i with h | h
          · exact Hr.out j q h hq
          · obtain rfl : j = i := by omega
            rw [Hp.out] at hq
            rw [← Option.some.inj hq]
            exact He.out), Hm.out⟩
    · have hin' : ¬ (i : Int) < (n : Int) := by omega
      go_wp2_with fail
      go_ret
      refine ⟨_, rfl, .inr ⟨rfl, fun j q hq => Hr.out j q ?_ hq⟩, HmW.out.trans Hm.out (fun _ _ h => h)⟩
      have h1 := (List.getElem?_eq_some_iff.1 hq).1
      have := Hl.out
      have := Hik.out
      omega
set_option maxHeartbeats 1000000 in
set_option maxRecDepth 100000 in
theorem riter_any (m : ModN) (A A2 : Option Addr) (n c n2 c2 B : Nat) (S : Int) (w : World) (h1 : RdsM w B A n c A2 n2 c2 m) (hn : n2 ≤ 1000000) :
    Calls Try.prog 22 #[.agg #[.slice A n c, .slice A2 n2 c2, .int .i64 m.next], .int .i64 S] w fun e w' => ∃ k : Int, e = .returned (.int .i64 k) ∧ FstN (fun q => q.id = S) m.ite k ∧ Mod (fun _ => False) w w' := by
  obtain ⟨ps, is, hps, his, hR, hR2, _⟩ := h1
  obtain ⟨W, hW, hmW, hbW, hzW⟩ := Blk.box w 31 #[.slice A n c, .slice A2 n2 c2, .int .i64 m.next]
  obtain ⟨g, hg⟩ : ∃ g, g = w.heap.size := ⟨_, rfl⟩
  rw [← hg] at hbW
  have hl : (is.map (·.1)).length = n2 := by rw [List.length_map]; exact hR2.len
  rw [← his]
  have Hs := Lib.hid (hR2.new hmW); have Hl := Lib.hid hl; have HW := Lib.hid hW; have HmW := Lib.hid hmW; have HbW := Lib.hid hbW; have Hg := Lib.hid hg
  clear hl hW hmW hbW hzW hg hR hR2 hps his
  go_enter Try.func22, Try.ntmps22
  go_upto_region 1 with fail
  rw [← HW.out, ← Hg.out]
  go_wp2_with fail
  go_loopg [5] n2 (fun k s5 wr => ∃ i : Nat, i + k = n2 ∧ s5 = .int .i64 (i : Int) ∧ (∀ (j : Nat) (q : IteN), j < i → (is.map (·.1))[j]? = some q → ¬ (q.id = S)) ∧ Mod (fun _ => False) W wr)
  case atStart => exact ⟨0, by omega, rfl, (fun j q h => by omega), Mod.refl _ _⟩
  case round =>
    obtain ⟨i, hik, rfl, hr, hm⟩ := hrel
    have x0 := (hm.blk HbW.out (fun h => h)).cell 1
    simp at x0
    have Hik := Lib.hid hik; have Hr := Lib.hid hr; have Hm := Lib.hid hm
    clear hik hr hm
    by_cases hin : i < n2
    · obtain ⟨ad, s, A5, n5, c5, rfl, _, hp, _, _, _, hc0, hc1⟩ := (Hs.out.new Hm.out).at_ hin
      have Hp : Hid ((is.map (·.1))[i]? = some s) := Lib.hid (by rw [List.getElem?_map, hp]; rfl)
      have hin' : (i : Int) < (n2 : Int) := by omega
      clear hp
      by_cases he : s.id = S
      · have ke : ((s.id : Int) == S) = true := by simp [he]
        have He := Lib.hid he
        clear he
        go_wp2_with fail
        go_ret
        exact ⟨_, rfl, .inl ⟨i, rfl, s, Hp.out, He.out, Hr.out⟩, HmW.out.trans Hm.out (fun _ _ h => h)⟩
      · have ke : ((s.id : Int) == S) = false := by simp [he]
        have He := Lib.hid he
        clear he
        go_wp2_with fail
        go_roundg (gk - 1)
        case measure => have := Hik.out; omega
        case rel => exact ⟨i + 1, by have := Hik.out; omega, by go_num, (fun j q hj hq => by
          rcases Nat.lt_or_ge j i with h | h
          · exact Hr.out j q h hq
          · obtain rfl : j = i := by omega
            rw [Hp.out] at hq
            rw [← Option.some.inj hq]
            exact He.out), Hm.out⟩
    · have hin' : ¬ (i : Int) < (n2 : Int) := by omega
      go_wp2_with fail
      go_ret
      refine ⟨_, rfl, .inr ⟨rfl, fun j q hq => Hr.out j q ?_ hq⟩, HmW.out.trans Hm.out (fun _ _ h => h)⟩
      have h1 := (List.getElem?_eq_some_iff.1 hq).1
      have := Hl.out
      have := Hik.out
      omega
end Go.Proofs.Ytejnhdenehkpmaa

/- within, as the document has it. -/
namespace Go.Proofs.Ytejnhdenehkpmaa
open Go.RowKit

set_option maxHeartbeats 1000000 in
set_option maxRecDepth 100000 in
theorem rwithin_any (A : Option Addr) (n c : Nat) (l : List (Int × Nat)) (of_ to_ : Int) (w : World) (hs : RdsS w w.heap.size A n l) (hn : n ≤ 1000000) :
    Calls Try.prog 25 #[.slice A n c, .int .i64 of_, .int .i64 to_] w fun e w' =>
      ∃ v, e = .returned v ∧ OwnS w.heap.size w' v (spanN of_ to_ l) ∧ Mod (fun _ => False) w w' := by
  have H0 : Hid (OwnS w.heap.size w (.slice none 0 0) (spanN of_ to_ (l.take 0))) := Lib.hid (by rw [List.take_zero]; exact OwnS.nil _ _)
  have hcs : Try.prog.cellsOf 48 = 2 := by kernel_rfl
  have Hs := Lib.hid hs; have Hl := Lib.hid hs.1
  clear hs
  go_enter Try.func25, Try.ntmps25
  go_wp2_with fail
  go_loopg [7, 8] n (fun k s7 s8 wr => ∃ i : Nat, i + k = n ∧ s8 = .int .i64 (i : Int) ∧ OwnS w.heap.size wr s7 (spanN of_ to_ (l.take i)) ∧ Mod (fun _ => False) w wr)
  case atStart => exact ⟨0, by omega, rfl, H0.out, Mod.refl _ _⟩
  case round =>
    obtain ⟨i, hik, rfl, ho, hm⟩ := hrel
    obtain ⟨A5, L5, c5, rfl, HL5, _, _, _⟩ := ho.formN
    have Hik := Lib.hid hik; have Ho := Lib.hid ho; have Hm := Lib.hid hm
    clear hik ho hm H0
    by_cases hin : i < n
    · obtain ⟨ad, ⟨T, V⟩, rfl, hadb, hp, hc0, hc1⟩ := Hs.out.at2 hin (Nat.le_refl _) Hm.out (fun _ _ h => h)
      have hc1' := cell_whole hc1
      have Hp := Lib.hid hp
      have hin' : (i : Int) < (n : Int) := by omega
      have hr1 : (spanN of_ to_ (l.take i)).length + 1 ≤ maxLen := by have := spanN_len of_ to_ (l.take i); rw [List.length_take] at this; unfold maxLen; omega
      have hr2 : ((spanN of_ to_ (l.take i)).length + 1) * 16 ≤ 140737488355328 := by have := spanN_len of_ to_ (l.take i); rw [List.length_take] at this; omega
      have hszB : w.heap.size ≤ wr.heap.size := Hm.out.size
      clear hc1 hp
      by_cases h1 : of_ ≤ T
      · have h1' : T ≥ of_ := h1
        by_cases h2 : T ≤ to_
        · have Hsp : Hid (spanN of_ to_ (l.take (i + 1)) = spanN of_ to_ (l.take i) ++ [(T, V)]) := Lib.hid (by rw [spanN_take of_ to_ Hp.out, if_pos ⟨h1, h2⟩])
          go_wp2_with (at_builtin; refine wpList_appS (p := (T, V)) (l := spanN of_ to_ (l.take i)) rfl (.tmp 31) (.tmp 36) rfl rfl Ho.out rfl rfl hr1 hr2 hszB ?_; intro v6 w6 HO6 HB6)
          go_roundg (gk - 1)
          case measure => have := Hik.out; omega
          case rel => exact ⟨i + 1, by have := Hik.out; omega, by go_num, by rw [Hsp.out]; exact HO6.out, Hm.out.trans (Mod.of_below HB6.out) (fun j hj h => by omega)⟩
        · have Hsp : Hid (spanN of_ to_ (l.take (i + 1)) = spanN of_ to_ (l.take i)) := Lib.hid (by rw [spanN_take of_ to_ Hp.out, if_neg (fun h => h2 h.2)])
          go_wp2_with fail
          go_roundg (gk - 1)
          case measure => have := Hik.out; omega
          case rel => exact ⟨i + 1, by have := Hik.out; omega, by go_num, by rw [Hsp.out]; exact Ho.out, Hm.out⟩
      · have h1' : ¬ T ≥ of_ := h1
        have Hsp : Hid (spanN of_ to_ (l.take (i + 1)) = spanN of_ to_ (l.take i)) := Lib.hid (by rw [spanN_take of_ to_ Hp.out, if_neg (fun h => h1 h.1)])
        go_wp2_with fail
        go_roundg (gk - 1)
        case measure => have := Hik.out; omega
        case rel => exact ⟨i + 1, by have := Hik.out; omega, by go_num, by rw [Hsp.out]; exact Ho.out, Hm.out⟩
    · have hin' : ¬ (i : Int) < (n : Int) := by omega
      go_wp2_with fail
      go_ret
      refine ⟨_, rfl, ?_, Hm.out⟩
      have h := Ho.out
      rw [List.take_of_length_le (by have := Hl.out; have := Hik.out; omega)] at h
      exact h
end Go.Proofs.Ytejnhdenehkpmaa

/- The document's 'Same'. -/
namespace Go.Proofs.Ytejnhdenehkpmaa
open Go.RowKit

theorem Blk.newAt {w : World} {t : TypeId} {cs : Array Value} {g : Nat} (hg : g = w.heap.size) : Blk (w.alloc (.cells cs t)) g t cs := by subst hg; exact Blk.new _ _ _
set_option maxHeartbeats 2000000 in
set_option maxRecDepth 100000 in
theorem rsame_any (m q : ModN) (A A2 E E2 : Option Addr) (n c n2 c2 k d k2 d2 B B2 : Nat) (w : World) (h1 : RdsM w B A n c A2 n2 c2 m) (h2 : RdsM w B2 E k d E2 k2 d2 q) (hn : n ≤ 1000) (hn2 : n2 ≤ 1000) (hL : LenM m 100000) :
    Calls Try.prog 9 #[.agg #[.slice A n c, .slice A2 n2 c2, .int .i64 m.next], .agg #[.slice E k d, .slice E2 k2 d2, .int .i64 q.next]] w fun e w' => CmpEnd w w' (m = q) e := by
  obtain ⟨ps, is, hps, his, hR, hR2, _⟩ := h1
  obtain ⟨qs, js, hqs, hjs, hS, hS2, _⟩ := h2
  obtain ⟨W, hW⟩ : ∃ W, W = (w.alloc (.cells #[.slice A n c, .slice A2 n2 c2, .int .i64 m.next] 31)).alloc (.cells #[.slice E k d, .slice E2 k2 d2, .int .i64 q.next] 31) := ⟨_, rfl⟩
  obtain ⟨G0, hG0⟩ : ∃ g, g = w.heap.size := ⟨_, rfl⟩
  obtain ⟨G, hG⟩ : ∃ g, g = w.heap.size + 1 := ⟨_, rfl⟩
  have hmW : Mod (fun _ => False) w W := by rw [hW]; exact ((Mod.refl _ _).alloc _).alloc _
  have hb0 : Blk W G0 31 #[.slice A n c, .slice A2 n2 c2, .int .i64 m.next] := by rw [hW, hG0]; exact (Blk.new _ _ _).alloc _
  have hb1 : Blk W G 31 #[.slice E k d, .slice E2 k2 d2, .int .i64 q.next] := by
    rw [hW, hG]
    have h := Blk.new (w.alloc (.cells #[.slice A n c, .slice A2 n2 c2, .int .i64 m.next] 31)) 31 #[.slice E k d, .slice E2 k2 d2, .int .i64 q.next]
    simpa using h
  have x0 := hb0.cell 0
  have y0 := hb1.cell 0
  have x1 := hb0.cell 1
  have y1 := hb1.cell 1
  have x2 := hb0.cell 2
  have y2 := hb1.cell 2
  simp at x0 x1 x2 y0 y1 y2
  have hL1 : ∀ p ∈ ps, p.1.l.length ≤ 1000000 := fun p hp => by have := (hL.1 p.1 (by rw [← hps]; exact List.mem_map.2 ⟨p, hp, rfl⟩)).1; omega
  have hL2 : ∀ p ∈ is, p.1.rest.length ≤ 1000000 := fun p hp => by have := (hL.2 p.1 (by rw [← his]; exact List.mem_map.2 ⟨p, hp, rfl⟩)).1; omega
  have hln : m.ser.length = n := by rw [← hps, List.length_map]; exact hR.len
  have hln2 : m.ite.length = n2 := by rw [← his, List.length_map]; exact hR2.len
  have hlk : q.ser.length = k := by rw [← hqs, List.length_map]; exact hS.len
  have hlk2 : q.ite.length = k2 := by rw [← hjs, List.length_map]; exact hS2.len
  have HR := Lib.hid (hR.new hmW); have HR2 := Lib.hid (hR2.new hmW); have HS := Lib.hid (hS.new hmW); have HS2 := Lib.hid (hS2.new hmW)
  have Hps := Lib.hid hps; have His := Lib.hid his; have Hqs := Lib.hid hqs; have Hjs := Lib.hid hjs; have HL1 := Lib.hid hL1; have HL2 := Lib.hid hL2
  have Hln := Lib.hid hln; have Hln2 := Lib.hid hln2; have Hlk := Lib.hid hlk; have Hlk2 := Lib.hid hlk2
  have HW := Lib.hid hW; have HG0 := Lib.hid hG0; have HG := Lib.hid hG; have HmW := Lib.hid hmW; have Hb0 := Lib.hid hb0; have Hb1 := Lib.hid hb1
  clear hW hG0 hG hmW hb0 hb1 hR hR2 hS hS2 hps his hqs hjs hL hL1 hL2 hln hln2 hlk hlk2
  go_enter Try.func9, Try.ntmps9
  go_upto_region 1 with fail
  rw [← HW.out, ← HG.out, ← HG0.out]
  by_cases hnx : m.next = q.next
  case neg =>
    have khnx : ((m.next : Int) != q.next) = true := by simp [hnx]
    have Hno : Hid (¬ m = q) := Lib.hid (fun e => hnx (by rw [e]))
    clear hnx
    go_wp2_with fail
    go_ret
    exact ⟨_, rfl, by simpa using Hno.out, HmW.out⟩
  have khnx : ((m.next : Int) != q.next) = false := by simp [hnx]
  have Qn := Lib.hid hnx
  clear hnx
  by_cases hnn : n = k
  case neg =>
    have khnn : ((n : Int) != (k : Int)) = true := by simp; omega
    have Hno : Hid (¬ m = q) := Lib.hid (fun e => hnn (by rw [← Hln.out, ← Hlk.out, e]))
    clear hnn
    go_wp2_with fail
    go_ret
    exact ⟨_, rfl, by simpa using Hno.out, HmW.out⟩
  have khnn : ((n : Int) != (k : Int)) = false := by simp; omega
  by_cases hnn2 : n2 = k2
  case neg =>
    have khnn2 : ((n2 : Int) != (k2 : Int)) = true := by simp; omega
    have Hno : Hid (¬ m = q) := Lib.hid (fun e => hnn2 (by rw [← Hln2.out, ← Hlk2.out, e]))
    clear hnn2
    go_wp2_with fail
    go_ret
    exact ⟨_, rfl, by simpa using Hno.out, HmW.out⟩
  have khnn2 : ((n2 : Int) != (k2 : Int)) = false := by simp; omega
  subst hnn
  subst hnn2
  go_wp2_with fail
  go_loopg [5] n (fun gk s5 wr => ∃ i : Nat, i + gk = n ∧ s5 = .int .i64 (i : Int) ∧ (∀ j : Nat, j < i → (ps.map (·.1))[j]? = (qs.map (·.1))[j]?) ∧ Mod (fun _ => False) W wr)
  case atStart => exact ⟨0, by omega, rfl, (fun j h => by omega), Mod.refl _ _⟩
  case round =>
    obtain ⟨i, hik, rfl, hr, hm⟩ := hrel
    have x0 := (hm.blk Hb0.out (fun h => h)).cell 0
    have y0 := (hm.blk Hb1.out (fun h => h)).cell 0
    simp at x0 y0
    have Hik := Lib.hid hik; have Hr := Lib.hid hr; have Hm := Lib.hid hm
    clear hik hr hm
    by_cases hin : i < n
    · obtain ⟨ad, s, A5, n5, c5, rfl, had, hp, hr5, _, _, z0, z1, z2, z3, z4⟩ := (HR.out.new Hm.out).at_ hin
      obtain ⟨ad2, t, A6, n6, c6, rfl, had2, hq, hr6, _, _, v0, v1, v2, v3, v4⟩ := (HS.out.new Hm.out).at_ hin
      have Hp : Hid ((ps.map (·.1))[i]? = some s) := Lib.hid (by rw [List.getElem?_map, hp]; rfl)
      have Hq : Hid ((qs.map (·.1))[i]? = some t) := Lib.hid (by rw [List.getElem?_map, hq]; rfl)
      have hn5 : n5 ≤ 1000000 := by have h := HL1.out _ (List.mem_of_getElem? hp); have := hr5.1; simp only at h; omega
      have hin' : (i : Int) < (n : Int) := by omega
      have hi0 : (0 : Int) ≤ (i : Int) := by omega
      have Hr5 := Lib.hid hr5; have Hr6 := Lib.hid hr6
      clear hp hq hr5 hr6
      have hWr := Hm.out.size
      have hb0 := Hm.out.blk Hb0.out (fun h => h)
      have hb1 := Hm.out.blk Hb1.out (fun h => h)
      have HX : Hid (∀ W' : World, Mod (fun _ => False) wr W' → Mod (fun _ => False) wr W' ∧ W'.cell? ⟨G0, 0, none⟩ = some (.slice (some ad) n c) ∧ W'.cell? ⟨G, 0, none⟩ = some (.slice (some ad2) n d) ∧ W'.cell? (ad.add (i * 5)) = some (.int .i64 s.id) ∧ W'.cell? ⟨(ad.add (i * 5)).block, (ad.add (i * 5)).off + 1, none⟩ = some (.bool s.sea) ∧ W'.cell? ⟨(ad.add (i * 5)).block, (ad.add (i * 5)).off + 2, none⟩ = some (.bool s.any) ∧ W'.cell? ⟨(ad.add (i * 5)).block, (ad.add (i * 5)).off + 3, none⟩ = some (.int .i64 s.last) ∧ W'.cell? ⟨(ad.add (i * 5)).block, (ad.add (i * 5)).off + 4, none⟩ = some (.slice A5 n5 c5) ∧ W'.cell? (ad2.add (i * 5)) = some (.int .i64 t.id) ∧ W'.cell? ⟨(ad2.add (i * 5)).block, (ad2.add (i * 5)).off + 1, none⟩ = some (.bool t.sea) ∧ W'.cell? ⟨(ad2.add (i * 5)).block, (ad2.add (i * 5)).off + 2, none⟩ = some (.bool t.any) ∧ W'.cell? ⟨(ad2.add (i * 5)).block, (ad2.add (i * 5)).off + 3, none⟩ = some (.int .i64 t.last) ∧ W'.cell? ⟨(ad2.add (i * 5)).block, (ad2.add (i * 5)).off + 4, none⟩ = some (.slice A6 n6 c6)) := Lib.hid (fun W' h => ⟨h, (h.blk hb0 (fun h => h)).cell 0 |>.trans (by simp), (h.blk hb1 (fun h => h)).cell 0 |>.trans (by simp), (h.cell (by show (Addr.add _ _).block < _; rw [add_block]; exact Nat.lt_of_lt_of_le had hWr) (fun h => h)).trans z0, (h.cell (by show (Addr.add _ _).block < _; rw [add_block]; exact Nat.lt_of_lt_of_le had hWr) (fun h => h)).trans z1, (h.cell (by show (Addr.add _ _).block < _; rw [add_block]; exact Nat.lt_of_lt_of_le had hWr) (fun h => h)).trans z2, (h.cell (by show (Addr.add _ _).block < _; rw [add_block]; exact Nat.lt_of_lt_of_le had hWr) (fun h => h)).trans z3, (h.cell (by show (Addr.add _ _).block < _; rw [add_block]; exact Nat.lt_of_lt_of_le had hWr) (fun h => h)).trans z4, (h.cell (by show (Addr.add _ _).block < _; rw [add_block]; exact Nat.lt_of_lt_of_le had2 hWr) (fun h => h)).trans v0, (h.cell (by show (Addr.add _ _).block < _; rw [add_block]; exact Nat.lt_of_lt_of_le had2 hWr) (fun h => h)).trans v1, (h.cell (by show (Addr.add _ _).block < _; rw [add_block]; exact Nat.lt_of_lt_of_le had2 hWr) (fun h => h)).trans v2, (h.cell (by show (Addr.add _ _).block < _; rw [add_block]; exact Nat.lt_of_lt_of_le had2 hWr) (fun h => h)).trans v3, (h.cell (by show (Addr.add _ _).block < _; rw [add_block]; exact Nat.lt_of_lt_of_le had2 hWr) (fun h => h)).trans v4⟩)
      have hcs : Try.prog.cellsOf 43 = 5 := by kernel_rfl
      clear hb0 hb1
      go_upto_region 6 with fail
      go_cut [6, 7] (fun s6 s7 wc => ∃ g6 g7 : Nat, s6 = .pointer (some ⟨g6, 0, none⟩) ∧ s7 = .pointer (some ⟨g7, 0, none⟩) ∧ Blk wc g6 43 #[.int .i64 s.id, .bool s.sea, .bool s.any, .int .i64 s.last, .slice A5 n5 c5] ∧ Blk wc g7 43 #[.int .i64 t.id, .bool t.sea, .bool t.any, .int .i64 t.last, .slice A6 n6 c6] ∧ Mod (fun _ => False) wr wc)
      case first =>
        clear x0 y0 z0 z1 z2 z3 z4 v0 v1 v2 v3 v4
        go_region_held (fun W' => Mod (fun _ => False) wr W' ∧ W'.cell? ⟨G0, 0, none⟩ = some (.slice (some ad) n c) ∧ W'.cell? ⟨G, 0, none⟩ = some (.slice (some ad2) n d) ∧ W'.cell? (ad.add (i * 5)) = some (.int .i64 s.id) ∧ W'.cell? ⟨(ad.add (i * 5)).block, (ad.add (i * 5)).off + 1, none⟩ = some (.bool s.sea) ∧ W'.cell? ⟨(ad.add (i * 5)).block, (ad.add (i * 5)).off + 2, none⟩ = some (.bool s.any) ∧ W'.cell? ⟨(ad.add (i * 5)).block, (ad.add (i * 5)).off + 3, none⟩ = some (.int .i64 s.last) ∧ W'.cell? ⟨(ad.add (i * 5)).block, (ad.add (i * 5)).off + 4, none⟩ = some (.slice A5 n5 c5) ∧ W'.cell? (ad2.add (i * 5)) = some (.int .i64 t.id) ∧ W'.cell? ⟨(ad2.add (i * 5)).block, (ad2.add (i * 5)).off + 1, none⟩ = some (.bool t.sea) ∧ W'.cell? ⟨(ad2.add (i * 5)).block, (ad2.add (i * 5)).off + 2, none⟩ = some (.bool t.any) ∧ W'.cell? ⟨(ad2.add (i * 5)).block, (ad2.add (i * 5)).off + 3, none⟩ = some (.int .i64 t.last) ∧ W'.cell? ⟨(ad2.add (i * 5)).block, (ad2.add (i * 5)).off + 4, none⟩ = some (.slice A6 n6 c6)) (exact HX.out _ (by (repeat (first | (with_reducible exact Mod.refl _ _) | (with_reducible refine Mod.setCell ?_ (fun hlt => absurd hlt (by simp)) _) | (with_reducible refine Mod.alloc ?_ _) | (with_reducible refine Mod.drew ?_))))) (fail)
        all_goals (
          go_wp2_with fail
          go_meet
          case rel => exact ⟨_, _, rfl, rfl, (by first | exact (Blk.newAt (by simp)).alloc _ | exact Blk.newAt (by simp)), (by first | exact (Blk.newAt (by simp)).alloc _ | exact Blk.newAt (by simp)), (((Mod.refl _ _).alloc _).alloc _).drew⟩)
      case rest =>
        obtain ⟨g6, g7, rfl, rfl, hb6, hb7, hmx⟩ := hcut
        have t0 := hb6.cell 0
        have t1 := hb6.cell 1
        have t2 := hb6.cell 2
        have t3 := hb6.cell 3
        have t4 := hb6.cell 4
        have u0 := hb7.cell 0
        have u1 := hb7.cell 1
        have u2 := hb7.cell 2
        have u3 := hb7.cell 3
        have u4 := hb7.cell 4
        simp at t0 t1 t2 t3 t4 u0 u1 u2 u3 u4
        have H5 := Lib.hid (Hr5.out.new hmx); have H6 := Lib.hid (Hr6.out.new hmx); have Hmx := Lib.hid (Hm.out.trans hmx (fun _ _ h => h))
        clear hmx hb6 hb7 z0 z1 z2 z3 z4 v0 v1 v2 v3 v4 had had2 x0 y0 HX hcs
        by_cases hid : s.id = t.id
        case neg =>
          have kid : ((s.id : Int) != t.id) = true := by simp [hid]
          have lid : ((s.id : Int) == t.id) = false := by simp [hid]
          have Hno : Hid (¬ m = q) := Lib.hid (fun e => by
            have h1 := Hp.out
            rw [Hps.out, e, ← Hqs.out, Hq.out] at h1
            injection h1 with h1
            exact hid (by rw [h1]))
          clear hid
          go_wp2_with fail
          go_ret
          exact ⟨_, rfl, by simpa using Hno.out, HmW.out.trans Hmx.out (fun _ _ h => h)⟩
        have kid : ((s.id : Int) != t.id) = false := by simp [hid]
        have lid : ((s.id : Int) == t.id) = true := by simp [hid]
        have Qid := Lib.hid hid
        clear hid
        by_cases hsea : s.sea = t.sea
        case neg =>
          have ksea : (s.sea != t.sea) = true := by simp [hsea]
          have lsea : (s.sea == t.sea) = false := by simp [hsea]
          have Hno : Hid (¬ m = q) := Lib.hid (fun e => by
            have h1 := Hp.out
            rw [Hps.out, e, ← Hqs.out, Hq.out] at h1
            injection h1 with h1
            exact hsea (by rw [h1]))
          clear hsea
          go_wp2_with fail
          go_ret
          exact ⟨_, rfl, by simpa using Hno.out, HmW.out.trans Hmx.out (fun _ _ h => h)⟩
        have ksea : (s.sea != t.sea) = false := by simp [hsea]
        have lsea : (s.sea == t.sea) = true := by simp [hsea]
        have Qsea := Lib.hid hsea
        clear hsea
        by_cases hany : s.any = t.any
        case neg =>
          have kany : (s.any != t.any) = true := by simp [hany]
          have lany : (s.any == t.any) = false := by simp [hany]
          have Hno : Hid (¬ m = q) := Lib.hid (fun e => by
            have h1 := Hp.out
            rw [Hps.out, e, ← Hqs.out, Hq.out] at h1
            injection h1 with h1
            exact hany (by rw [h1]))
          clear hany
          go_wp2_with fail
          go_ret
          exact ⟨_, rfl, by simpa using Hno.out, HmW.out.trans Hmx.out (fun _ _ h => h)⟩
        have kany : (s.any != t.any) = false := by simp [hany]
        have lany : (s.any == t.any) = true := by simp [hany]
        have Qany := Lib.hid hany
        clear hany
        by_cases hlast : s.last = t.last
        case neg =>
          have klast : ((s.last : Int) != t.last) = true := by simp [hlast]
          have llast : ((s.last : Int) == t.last) = false := by simp [hlast]
          have Hno : Hid (¬ m = q) := Lib.hid (fun e => by
            have h1 := Hp.out
            rw [Hps.out, e, ← Hqs.out, Hq.out] at h1
            injection h1 with h1
            exact hlast (by rw [h1]))
          clear hlast
          go_wp2_with fail
          go_ret
          exact ⟨_, rfl, by simpa using Hno.out, HmW.out.trans Hmx.out (fun _ _ h => h)⟩
        have klast : ((s.last : Int) != t.last) = false := by simp [hlast]
        have llast : ((s.last : Int) == t.last) = true := by simp [hlast]
        have Qlast := Lib.hid hlast
        clear hlast
        obtain ⟨b, hb⟩ : ∃ b, decide (s.l = t.l) = b := ⟨_, rfl⟩
        have Hcall := Lib.hid (sameS_any A5 A6 n5 n6 c5 c6 _ _ s.l t.l b wc H5.out H6.out hn5 hb)
        have Hb : Hid (b = true ↔ s = t) := Lib.hid (by
          rw [← hb, decide_eq_true_iff]
          refine ⟨fun h => ?_, fun h => by rw [h]⟩
          cases s
          cases t
          simp only at h Qid Qsea Qany Qlast
          simp only [SerN.mk.injEq]
          exact ⟨Qid.out, Qsea.out, Qany.out, Qlast.out, h⟩)
        clear hb
        cases b with
        | true =>
          go_wp2_with fail
          refine Hcall.out.mono ?_
          rintro e w1 ⟨rfl, hm3⟩
          have Hm3 := Lib.hid (Hmx.out.trans hm3 (fun _ _ h => h))
          clear hm3
          go_wp2_with fail
          go_roundg (gk - 1)
          case measure => have := Hik.out; omega
          case rel => exact ⟨i + 1, by have := Hik.out; omega, by go_num, (fun j hj => by
            rcases Nat.lt_or_ge j i with h | h
            · exact Hr.out j h
            · obtain rfl : j = i := by omega
              have h9 : s = t := by have h := Hb.out; simpa using h
              rw [Hp.out, Hq.out, h9]), Hm3.out⟩
        | false =>
          have Hno : Hid (¬ m = q) := Lib.hid (fun e => by
            have h1 := Hp.out
            rw [Hps.out, e, ← Hqs.out, Hq.out] at h1
            injection h1 with h1
            have h2 : ¬ s = t := by have h := Hb.out; simpa using h
            exact h2 h1.symm)
          go_wp2_with fail
          refine Hcall.out.mono ?_
          rintro e w1 ⟨rfl, hm3⟩
          have Hm3 := Lib.hid (Hmx.out.trans hm3 (fun _ _ h => h))
          clear hm3
          go_wp2_with fail
          go_ret
          exact ⟨_, rfl, by simpa using Hno.out, HmW.out.trans Hm3.out (fun _ _ h => h)⟩
    · have hin' : ¬ (i : Int) < (n : Int) := by omega
      have Hyes : Hid (m.ser = q.ser) := Lib.hid (by
        rw [← Hps.out, ← Hqs.out]
        refine List.ext_getElem? fun j => ?_
        have h1 := Hik.out
        rcases Nat.lt_or_ge j i with h | h
        · exact Hr.out j h
        · rw [List.getElem?_eq_none (by rw [List.length_map, HR.out.len]; omega), List.getElem?_eq_none (by rw [List.length_map, HS.out.len]; omega)])
      have HmA := Lib.hid Hm.out
      clear Hm Hr Hik hin
      go_wp2_with fail
      clear x0 y0
      go_loopg [8] n2 (fun gk s8 wr => ∃ i : Nat, i + gk = n2 ∧ s8 = .int .i64 (i : Int) ∧ (∀ j : Nat, j < i → (is.map (·.1))[j]? = (js.map (·.1))[j]?) ∧ Mod (fun _ => False) W wr)
      case atStart => exact ⟨0, by omega, rfl, (fun j h => by omega), HmA.out⟩
      case round =>
        obtain ⟨a, hak, rfl, hr, hm⟩ := hrel
        have x1 := (hm.blk Hb0.out (fun h => h)).cell 1
        have y1 := (hm.blk Hb1.out (fun h => h)).cell 1
        simp at x1 y1
        have Hak := Lib.hid hak; have Hr := Lib.hid hr; have Hm := Lib.hid hm
        clear hak hr hm
        by_cases han : a < n2
        · obtain ⟨ad, s, A5, n5, c5, rfl, had, hp, hr5, _, _, z0, z1⟩ := (HR2.out.new Hm.out).at_ han
          obtain ⟨ad2, t, A6, n6, c6, rfl, had2, hq, hr6, _, _, v0, v1⟩ := (HS2.out.new Hm.out).at_ han
          have Hp : Hid ((is.map (·.1))[a]? = some s) := Lib.hid (by rw [List.getElem?_map, hp]; rfl)
          have Hq : Hid ((js.map (·.1))[a]? = some t) := Lib.hid (by rw [List.getElem?_map, hq]; rfl)
          have hn5 : n5 ≤ 1000000 := by have h := HL2.out _ (List.mem_of_getElem? hp); have := hr5.1; simp only at h; omega
          have han' : (a : Int) < (n2 : Int) := by omega
          have ha0 : (0 : Int) ≤ (a : Int) := by omega
          obtain ⟨b, hb⟩ : ∃ b, decide (s.rest = t.rest) = b := ⟨_, rfl⟩
          have Hcall : Hid (∀ W' : World, Mod (fun _ => False) wr W' → Calls Try.prog 17 #[.slice A5 n5 c5, .slice A6 n6 c6] W' fun e w' => e = .returned (.bool b) ∧ Mod (fun _ => False) W' w') := Lib.hid (fun W' h => sameS_any A5 A6 n5 n6 c5 c6 _ _ s.rest t.rest b W' (hr5.new h) (hr6.new h) hn5 hb)
          have Hb : Hid (s.id = t.id → (b = true ↔ s = t)) := Lib.hid (fun h0 => by
            rw [← hb, decide_eq_true_iff]
            refine ⟨fun h => ?_, fun h => by rw [h]⟩
            cases s
            cases t
            simp only at h h0
            simp only [IteN.mk.injEq]
            exact ⟨h0, h⟩)
          clear hp hq hr5 hr6 hb
          by_cases hid : s.id = t.id
          case neg =>
            have kid : ((s.id : Int) != t.id) = true := by simp [hid]
            have Hno : Hid (¬ m = q) := Lib.hid (fun e => by
              have h1 := Hp.out
              rw [His.out, e, ← Hjs.out, Hq.out] at h1
              injection h1 with h1
              exact hid (by rw [h1]))
            have lid : (s.id = t.id) = False := by simp [hid]
            clear hid
            go_upto_region 12 with fail
            go_quiet (fail)
            go_wp2_with fail
            go_ret
            exact ⟨_, rfl, by simpa using Hno.out, (HmW.out.trans Hm.out (fun _ _ h => h)).drewN _⟩
          have kid : ((s.id : Int) != t.id) = false := by simp [hid]
          have HbE := Lib.hid (Hb.out hid)
          have hWr := Hm.out.size
          have hb0 := Hm.out.blk Hb0.out (fun h => h)
          have hb1 := Hm.out.blk Hb1.out (fun h => h)
          have HX : Hid (∀ W' : World, Mod (fun _ => False) wr W' → Mod (fun _ => False) wr W' ∧ W'.cell? ⟨G0, 1, none⟩ = some (.slice (some ad) n2 c2) ∧ W'.cell? ⟨G, 1, none⟩ = some (.slice (some ad2) n2 d2) ∧ W'.cell? (ad.add (a * 2)) = some (.int .i64 s.id) ∧ W'.cell? ⟨(ad.add (a * 2)).block, (ad.add (a * 2)).off + 1, none⟩ = some (.slice A5 n5 c5) ∧ W'.cell? (ad2.add (a * 2)) = some (.int .i64 t.id) ∧ W'.cell? ⟨(ad2.add (a * 2)).block, (ad2.add (a * 2)).off + 1, none⟩ = some (.slice A6 n6 c6)) := Lib.hid (fun W' h => ⟨h, (h.blk hb0 (fun h => h)).cell 1 |>.trans (by simp), (h.blk hb1 (fun h => h)).cell 1 |>.trans (by simp), (h.cell (by show (Addr.add _ _).block < _; rw [add_block]; exact Nat.lt_of_lt_of_le had hWr) (fun h => h)).trans z0, (h.cell (by show (Addr.add _ _).block < _; rw [add_block]; exact Nat.lt_of_lt_of_le had hWr) (fun h => h)).trans z1, (h.cell (by show (Addr.add _ _).block < _; rw [add_block]; exact Nat.lt_of_lt_of_le had2 hWr) (fun h => h)).trans v0, (h.cell (by show (Addr.add _ _).block < _; rw [add_block]; exact Nat.lt_of_lt_of_le had2 hWr) (fun h => h)).trans v1⟩)
          clear hb0 hb1 had had2 hWr hid
          cases b with
          | true =>
            go_upto_region 12 with fail
            go_region_held (fun W' => Mod (fun _ => False) wr W' ∧ W'.cell? ⟨G0, 1, none⟩ = some (.slice (some ad) n2 c2) ∧ W'.cell? ⟨G, 1, none⟩ = some (.slice (some ad2) n2 d2) ∧ W'.cell? (ad.add (a * 2)) = some (.int .i64 s.id) ∧ W'.cell? ⟨(ad.add (a * 2)).block, (ad.add (a * 2)).off + 1, none⟩ = some (.slice A5 n5 c5) ∧ W'.cell? (ad2.add (a * 2)) = some (.int .i64 t.id) ∧ W'.cell? ⟨(ad2.add (a * 2)).block, (ad2.add (a * 2)).off + 1, none⟩ = some (.slice A6 n6 c6)) (first | exact HX.out _ (Mod.refl _ _) | exact HX.out _ (Mod.refl _ _).drew | exact HX.out _ Hm3.out | exact HX.out _ Hm3.out.drew) ((go_at_call 17; refine (Hcall.out _ (Mod.refl (fun _ => False) wr).drew).mono ?_; rintro e w3 ⟨rfl, hm3⟩; have Hm3 := Lib.hid ((Mod.refl (fun _ => False) wr).drew.trans hm3 (fun _ _ h => h)); clear hm3))
            all_goals (
              go_wp2_with fail
              go_roundg (gk - 1)
              case measure => have := Hak.out; omega
              case rel => exact ⟨a + 1, by have := Hak.out; omega, by go_num, (fun j hj => by
                rcases Nat.lt_or_ge j a with h | h
                · exact Hr.out j h
                · obtain rfl : j = a := by omega
                  have h9 : s = t := by have h := HbE.out; simpa using h
                  rw [Hp.out, Hq.out, h9]), Hm.out.trans Hm3.out (fun _ _ h => h)⟩)
          | false =>
            have Hno : Hid (¬ m = q) := Lib.hid (fun e => by
              have h1 := Hp.out
              rw [His.out, e, ← Hjs.out, Hq.out] at h1
              injection h1 with h1
              have h2 : ¬ s = t := by have h := HbE.out; simpa using h
              exact h2 h1.symm)
            go_upto_region 12 with fail
            go_region_held (fun W' => Mod (fun _ => False) wr W' ∧ W'.cell? ⟨G0, 1, none⟩ = some (.slice (some ad) n2 c2) ∧ W'.cell? ⟨G, 1, none⟩ = some (.slice (some ad2) n2 d2) ∧ W'.cell? (ad.add (a * 2)) = some (.int .i64 s.id) ∧ W'.cell? ⟨(ad.add (a * 2)).block, (ad.add (a * 2)).off + 1, none⟩ = some (.slice A5 n5 c5) ∧ W'.cell? (ad2.add (a * 2)) = some (.int .i64 t.id) ∧ W'.cell? ⟨(ad2.add (a * 2)).block, (ad2.add (a * 2)).off + 1, none⟩ = some (.slice A6 n6 c6)) (first | exact HX.out _ (Mod.refl _ _) | exact HX.out _ (Mod.refl _ _).drew | exact HX.out _ Hm3.out | exact HX.out _ Hm3.out.drew) ((go_at_call 17; refine (Hcall.out _ (Mod.refl (fun _ => False) wr).drew).mono ?_; rintro e w3 ⟨rfl, hm3⟩; have Hm3 := Lib.hid ((Mod.refl (fun _ => False) wr).drew.trans hm3 (fun _ _ h => h)); clear hm3))
            all_goals (
              go_wp2_with fail
              go_ret
              exact ⟨_, rfl, by simpa using Hno.out, HmW.out.trans (Hm.out.trans Hm3.out (fun _ _ h => h)) (fun _ _ h => h)⟩)
        · have han' : ¬ (a : Int) < (n2 : Int) := by omega
          have Hyes2 : Hid (m = q) := Lib.hid (by
            have h3 : m.ite = q.ite := by
              rw [← His.out, ← Hjs.out]
              refine List.ext_getElem? fun j => ?_
              have h1 := Hak.out
              rcases Nat.lt_or_ge j a with h | h
              · exact Hr.out j h
              · rw [List.getElem?_eq_none (by rw [List.length_map, HR2.out.len]; omega), List.getElem?_eq_none (by rw [List.length_map, HS2.out.len]; omega)]
            have h1 := Hyes.out
            have h2 := Qn.out
            cases m
            cases q
            simp only at h1 h2 h3
            simp only [ModN.mk.injEq]
            exact ⟨h1, h3, h2⟩)
          go_wp2_with fail
          go_ret
          exact ⟨_, rfl, by simpa using Hyes2.out, HmW.out.trans Hm.out (fun _ _ h => h)⟩
end Go.Proofs.Ytejnhdenehkpmaa

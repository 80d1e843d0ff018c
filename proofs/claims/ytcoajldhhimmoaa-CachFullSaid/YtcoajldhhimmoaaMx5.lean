/- The texts Bit0, Bitp, Bitq, Bitg, Bitw, Refw, Refb, Two, Refr, Play0, Conv, All4, Go, Xs, Xo, Sx, Yt, Yx, Oa, Ob, Cx, Cy, Kr, Ja, Bq, Jc, Te, Tw, Bok, Gok, Tg, Gw, Tp, Tr, Kp, Jd, Pn, Kt, De, Pe, Wz, Wp, We, Kv, Kw, Ke, Ku, Pp, Dr, Pr, Wg, Wd, Ky, Kz, Kd, Jf, Za, Am, Rkg, one behind the other. -/
import Derived.Test.YtcoajldhhimmoaaMx1
import Derived.Test.YtcoajldhhimmoaaRows
import Derived.Test.YtcoajldhhimmoaaMx4
import Derived.Test.YtcoajldhhimmoaaMx3
namespace Go.Proofs.Ytcoajldhhimmoaa
open Go.RowKit

end Go.Proofs.Ytcoajldhhimmoaa

namespace Go.Proofs.Ytcoajldhhimmoaa
open Go.RowKit

def RowTo (w : World) (row row' : Option Nat) : Prop := row' = row ∨ ∃ r, row' = some r ∧ w.heap.size ≤ r

theorem RowTo.trans {w : World} {row row' row2 : Option Nat} {B : Nat} (h : RowTo w row row') (hB : w.heap.size ≤ B) (h2 : row2 = row' ∨ ∃ r, row2 = some r ∧ B ≤ r) : RowTo w row row2 := by
  rcases h2 with rfl | ⟨r, rfl, hr⟩
  · exact h
  · exact .inr ⟨r, rfl, by omega⟩
theorem RowTo.in_ {w : World} {row row' : Option Nat} (h : RowTo w row row') {k : Nat} (hk : row' = some k) (hlt : k < w.heap.size) : row = some k := by
  rcases h with rfl | ⟨r, rfl, hr⟩
  · exact hk
  · injection hk with hk; omega

end Go.Proofs.Ytcoajldhhimmoaa

namespace Go.Proofs.Ytcoajldhhimmoaa
open Go.RowKit

/-- What a call answers that makes a row of its own. -/
def NewRow (w w' : World) (v : Value) (n : Nat) (xs : List Value) : Prop :=
  w'.ownsRow 0 5 1 v n xs ∧ Mod (fun _ => False) w w' ∧ ((v.ownBlock = none) ∨ ∃ r, v.ownBlock = some r ∧ w.heap.size ≤ r)

def Packed (bs : List Nat) (N len : Nat) : Prop := lt256 bs ∧ ∃ free, free < 8 ∧ len + free = 8 * bs.length ∧ val bs = N * 2 ^ free

theorem NewRow.form {w w1 : World} {v : Value} {n : Nat} {bs : List Nat} (h : NewRow w w1 v n (cells8 bs)) :
    ∃ A c row, v = .slice A n c ∧ n ≤ c ∧ (A = none → c = 0) ∧ w.heap.size ≤ row ∧ row ≠ w1.heap.size ∧ Sees w1 row A n (cells8 bs) := by
  obtain ⟨hown, hmod, hrow⟩ := h
  rcases hown.2 with ⟨h1, h2⟩ | ⟨g', cap, cur, h1, _, hg, hnc, _⟩
  · subst h2
    refine ⟨none, 0, w1.heap.size + 1, h1, Nat.le_refl _, fun _ => rfl, by have := hmod.size; omega, by omega, ⟨?_, fun h => by omega⟩⟩
    simpa using hown.1
  · have hl := (Array.getElem?_eq_some_iff.1 hg).1
    refine ⟨_, cap, g', h1, hnc, (fun h => by cases h), ?_, by omega, Sees.of_own (h1 ▸ hown) (fun _ => rfl)⟩
    rw [h1] at hrow
    rcases hrow with hr | ⟨r, hr, hle⟩
    · cases hr
    · simp [Value.ownBlock] at hr
      omega

end Go.Proofs.Ytcoajldhhimmoaa

namespace Go.Proofs.Ytcoajldhhimmoaa
open Go.RowKit

end Go.Proofs.Ytcoajldhhimmoaa

namespace Go.Proofs.Ytcoajldhhimmoaa
open Go.RowKit

end Go.Proofs.Ytcoajldhhimmoaa

namespace Go.Proofs.Ytcoajldhhimmoaa
open Go.RowKit

end Go.Proofs.Ytcoajldhhimmoaa

namespace Go.Proofs.Ytcoajldhhimmoaa
open Go.RowKit

end Go.Proofs.Ytcoajldhhimmoaa

/- Two writers that share nothing. -/
namespace Go.Proofs.Ytcoajldhhimmoaa
open Go.RowKit

def Apart (g : Nat) (row : Option Nat) (g2 : Nat) (row2 : Option Nat) : Prop := g ≠ g2 ∧ row ≠ some g2 ∧ row2 ≠ some g ∧ ∀ k, row = some k → row2 ≠ some k
theorem Apart.symm {g g2 : Nat} {row row2 : Option Nat} (h : Apart g row g2 row2) : Apart g2 row2 g row := ⟨fun e => h.1 e.symm, h.2.2.1, h.2.1, fun k hk e => h.2.2.2 k e hk⟩
section
variable {w w1 : World} {row n : Nat} {A : Option Addr} {xs : List Value}
end
theorem RowTo.low {B : Nat} {w : World} {row row' : Option Nat} (h : RowTo w row row') (hr : ∀ k, row = some k → B ≤ k) (hB : B ≤ w.heap.size) : ∀ k, row' = some k → B ≤ k := by
  intro k hk
  rcases h with rfl | ⟨r, rfl, hr'⟩
  · exact hr k hk
  · injection hk with hk; omega

/-- The call's own blocks alone have turned, a writer's that it made among them. -/
theorem Mod.put {w w' w0 : World} {g : Nat} {row : Option Nat} (h : Mod (fun _ => False) w0 w) (hm : Mod (fun i => i = g ∨ row = some i) w w') (hg : w0.heap.size ≤ g) (hr : ∀ k, row = some k → w0.heap.size ≤ k) : Mod (fun _ => False) w0 w' :=
  h.trans hm (fun i hi h => h.elim (fun e => by omega) (fun e => by have := hr i e; omega))
section
variable {w0 w w' : World} {a Na la b Nb lb : Nat} {ra rb : Option Nat}
end
end Go.Proofs.Ytcoajldhhimmoaa

namespace Go.Proofs.Ytcoajldhhimmoaa
open Go.RowKit

end Go.Proofs.Ytcoajldhhimmoaa

/- Two readers of one row of bytes: the project's, and the document's own. -/
namespace Go.Proofs.Ytcoajldhhimmoaa
open Go.RowKit

section
variable {w0 w w' : World} {g rg h rh : Nat} {bs : List Nat} {R rem R' rem' : Nat} {ok ok' : Bool}
end
end Go.Proofs.Ytcoajldhhimmoaa

namespace Go.Proofs.Ytcoajldhhimmoaa
open Go.RowKit

end Go.Proofs.Ytcoajldhhimmoaa

/- All that layer 4 stands on, together. -/

/- Readers in whatever state, the project's and the document's own: what is left, or nothing. -/
namespace Go.Proofs.Ytcoajldhhimmoaa
open Go.RowKit

/-- A reader's state: what is left, or nothing. -/
def getO (k : Nat) : Option (Nat × Nat) → Nat × Option (Nat × Nat)
  | some (R, rem) => if k ≤ rem then (R / 2 ^ (rem - k), some (R % 2 ^ (rem - k), rem - k)) else (0, none)
  | none => (0, none)
theorem getO_take (k R rem : Nat) : getO k (some (R, rem)) = match takeB k R rem with | some (b, R1, rem1) => (b, some (R1, rem1)) | none => (0, none) := by
  unfold getO takeB
  by_cases h : k ≤ rem
  · simp [h]
  · simp [h]
theorem getO_lt {R rem : Nat} (h : R < 2 ^ rem) (k : Nat) : (getO k (some (R, rem))).1 < 2 ^ k := by
  unfold getO
  by_cases hk : k ≤ rem
  · simp only [hk, if_true]
    rw [Nat.div_lt_iff_lt_mul (Nat.two_pow_pos _), ← Nat.pow_add, show k + (rem - k) = rem by omega]
    exact h
  · simp only [hk, if_false]
    exact Nat.two_pow_pos k
section
variable {w w' : World} {g row : Nat} {s : Option (Nat × Nat)}
end
section
variable {w w' : World} {g row : Nat} {bs : List Nat} {s : Option (Nat × Nat)}
end
end Go.Proofs.Ytcoajldhhimmoaa

/- Plain mathematics of values by what turns, the second part: a row that is read step by step, and told again, is the same row. -/
namespace Go.Proofs.Ytcoajldhhimmoaa

/-- Fields were taken off what a reader had. -/
def Took (fs : List (Nat × Nat)) (R rem R1 rem1 : Nat) : Prop := R = fnum fs * 2 ^ rem1 + R1 ∧ R1 < 2 ^ rem1 ∧ rem = flen fs + rem1
theorem Took.nil {R rem : Nat} (h : R < 2 ^ rem) : Took [] R rem R rem := ⟨by show R = 0 * _ + R; omega, h, by show rem = 0 + rem; omega⟩
theorem Took.app {fs gs : List (Nat × Nat)} {R rem R1 rem1 R2 rem2 : Nat} (h : Took fs R rem R1 rem1) (h2 : Took gs R1 rem1 R2 rem2) : Took (fs ++ gs) R rem R2 rem2 := by
  obtain ⟨a1, _, a3⟩ := h
  obtain ⟨b1, b2, b3⟩ := h2
  refine ⟨?_, b2, by rw [flen_app, a3, b3, Nat.add_assoc]⟩
  rw [a1, b1, b3, fnum_app, Nat.pow_add, Nat.add_mul, Nat.mul_assoc, Nat.add_assoc]
theorem took_take {k R rem v R1 rem1 : Nat} (h : takeB k R rem = some (v, R1, rem1)) (hR : R < 2 ^ rem) : Took [(v, k)] R rem R1 rem1 ∧ v < 2 ^ k := by
  obtain ⟨h1, h2, h3⟩ := takeB_some h hR
  unfold takeB at h
  split at h
  · rename_i hk
    injection h with h
    injection h with e1 h
    injection h with e2 e3
    subst e3
    have hv : v < 2 ^ k := h1
    refine ⟨⟨?_, h2, by show rem = (k + 0) + (rem - k); omega⟩, hv⟩
    show R = (v % 2 ^ k * 2 ^ 0 + 0) * 2 ^ (rem - k) + R1
    rw [Nat.mod_eq_of_lt hv, Nat.pow_zero, Nat.mul_one, Nat.add_zero, ← e1, ← e2, Nat.mul_comm, Nat.div_add_mod]
  · cases h
theorem Took.same {fs gs : List (Nat × Nat)} {R rem R1 rem1 : Nat} (h : Took fs R rem R1 rem1) : (flen gs + rem1 = rem ∧ fnum gs = R / 2 ^ rem1) ↔ (flen gs = flen fs ∧ fnum gs = fnum fs) := by
  obtain ⟨a1, a2, a3⟩ := h
  have e : R / 2 ^ rem1 = fnum fs := by rw [a1, Nat.mul_comm, Nat.mul_add_div (Nat.two_pow_pos _), Nat.div_eq_of_lt a2, Nat.add_zero]
  rw [e]
  constructor
  · rintro ⟨h1, h2⟩; exact ⟨by omega, h2⟩
  · rintro ⟨h1, h2⟩; exact ⟨by omega, h2⟩
theorem Took.to {fs gs : List (Nat × Nat)} {R rem R1 rem1 : Nat} (h : Took fs R rem R1 rem1) (h1 : flen gs = flen fs) (h2 : fnum gs = fnum fs) : Took gs R rem R1 rem1 := ⟨by rw [h2]; exact h.1, h.2.1, by rw [h1]; exact h.2.2⟩

/-- What a turn's fields were. -/
def Shape (win : Option (Nat × Nat)) (x : Nat) (win' : Option (Nat × Nat)) (fs : List (Nat × Nat)) : Prop :=
  (fs = [(0, 1)] ∧ x = 0 ∧ win' = win) ∨
  (∃ a b y, win = some (a, b) ∧ fs = [(1, 1), (0, 1), (y, 64 - a - b)] ∧ y < 2 ^ (64 - a - b) ∧ x = y * 2 ^ b ∧ win' = win) ∨
  (∃ a m y, a < 32 ∧ m < 64 ∧ a + (m + 1) ≤ 64 ∧ fs = [(1, 1), (1, 1), (a, 5), (m, 6), (y, m + 1)] ∧ y < 2 ^ (m + 1) ∧ x = y * 2 ^ (64 - a - (m + 1)) ∧ win' = some (a, 64 - a - (m + 1)))
theorem Shape.lt {win win' : Option (Nat × Nat)} {x : Nat} {fs : List (Nat × Nat)} (h : Shape win x win' fs) (hw : WinOk win) : x < 2 ^ 64 := by
  rcases h with ⟨_, rfl, _⟩ | ⟨a, b, y, rfl, _, hy, rfl, _⟩ | ⟨a, m, y, ha, hm, hab, _, hy, rfl, _⟩
  · decide
  · obtain ⟨w1, w2⟩ := hw
    have := Nat.mul_lt_mul_of_pos_right hy (Nat.two_pow_pos b)
    rw [← Nat.pow_add] at this
    exact Nat.lt_of_lt_of_le this (Nat.pow_le_pow_right (by omega) (by omega))
  · have := Nat.mul_lt_mul_of_pos_right hy (Nat.two_pow_pos (64 - a - (m + 1)))
    rw [← Nat.pow_add] at this
    exact Nat.lt_of_lt_of_le this (Nat.pow_le_pow_right (by omega) (by omega))
theorem Shape.ok {win win' : Option (Nat × Nat)} {x : Nat} {fs : List (Nat × Nat)} (h : Shape win x win' fs) (hw : WinOk win) : WinOk win' := by
  rcases h with ⟨_, _, rfl⟩ | ⟨a, b, y, _, _, _, _, rfl⟩ | ⟨a, m, y, ha, hm, hab, _, _, _, rfl⟩
  · exact hw
  · exact hw
  · exact ⟨by omega, by omega⟩
/-- A turn is read, and told again in these bits. -/
def stX (win : Option (Nat × Nat)) (R rem : Nat) : Option (Nat × Option (Nat × Nat) × Nat × Nat) :=
  match rdX win R rem with
  | none => none
  | some (x, _, R1, rem1) => if flen (fieldsX win x) + rem1 = rem ∧ fnum (fieldsX win x) = R / 2 ^ rem1 then some (x, winX win x, R1, rem1) else none
end Go.Proofs.Ytcoajldhhimmoaa

/- A turn is read, as states of a reader: loosely, and as it is told; what values cost. -/
namespace Go.Proofs.Ytcoajldhhimmoaa

def SmallO (s : Option (Nat × Nat)) : Prop := ∀ R rem, s = some (R, rem) → R < 2 ^ rem
theorem getO_some {k R1 rem1 : Nat} {s : Option (Nat × Nat)} (h : (getO k s).2 = some (R1, rem1)) : ∃ R rem, s = some (R, rem) ∧ takeB k R rem = some ((getO k s).1, R1, rem1) := by
  cases s with
  | none => cases h
  | some p =>
    obtain ⟨R, rem⟩ := p
    refine ⟨R, rem, rfl, ?_⟩
    rw [getO_take] at h ⊢
    cases ht : takeB k R rem with
    | none => rw [ht] at h; cases h
    | some q =>
      obtain ⟨v, R2, rem2⟩ := q
      rw [ht] at h
      have h2 : some (R2, rem2) = some (R1, rem1) := h
      injection h2 with h2
      injection h2 with e1 e2
      subst e1 e2
      rfl
theorem getO_bad {k R rem : Nat} (h : (getO k (some (R, rem))).2 = none) : takeB k R rem = none := by
  rw [getO_take] at h
  cases ht : takeB k R rem with
  | none => rfl
  | some q => rw [ht] at h; cases h
theorem getO_bad0 {k : Nat} {s : Option (Nat × Nat)} (h : (getO k s).2 = none) : (getO k s).1 = 0 := by
  cases s with
  | none => rfl
  | some p =>
    obtain ⟨R, rem⟩ := p
    have := getO_bad h
    rw [getO_take, this]
theorem SmallO.get {s : Option (Nat × Nat)} (h : SmallO s) (k : Nat) : SmallO (getO k s).2 := by
  intro R1 rem1 h1
  obtain ⟨R, rem, rfl, ht⟩ := getO_some h1
  exact (took_take ht (h _ _ rfl)).1.2.1
theorem SmallO.lt {s : Option (Nat × Nat)} (h : SmallO s) (k : Nat) : (getO k s).1 < 2 ^ k := by
  cases s with
  | none => exact Nat.two_pow_pos k
  | some p => exact getO_lt (h _ _ rfl) k
def rdO (win : Option (Nat × Nat)) : Option (Nat × Nat) → Option (Nat × Option (Nat × Nat) × Nat × Nat)
  | none => none
  | some (R, rem) => rdX win R rem
def stO (win : Option (Nat × Nat)) : Option (Nat × Nat) → Option (Nat × Option (Nat × Nat) × Nat × Nat)
  | none => none
  | some (R, rem) => stX win R rem
theorem stO_none {win : Option (Nat × Nat)} {s : Option (Nat × Nat)} (hr : rdO win s = none) : stO win s = none := by
  cases s with
  | none => rfl
  | some p =>
    obtain ⟨R, rem⟩ := p
    have hr' : rdX win R rem = none := hr
    show stX win R rem = none
    unfold stX
    rw [hr']
section
variable {win : Option (Nat × Nat)} {s : Option (Nat × Nat)}
theorem rdO_one (h0 : (getO 1 s).1 ≠ 0) : ∃ R rem R1 rem1, s = some (R, rem) ∧ takeB 1 R rem = some ((getO 1 s).1, R1, rem1) ∧ (getO 1 s).2 = some (R1, rem1) := by
  cases h : (getO 1 s).2 with
  | none => exact absurd (getO_bad0 h) h0
  | some p =>
    obtain ⟨R, rem, e, ht⟩ := getO_some (R1 := p.1) (rem1 := p.2) h
    exact ⟨R, rem, _, _, e, ht, rfl⟩
theorem rdO_far (h0 : (getO 1 s).1 ≠ 0) (h1 : (getO 1 (getO 1 s).2).1 ≠ 0)
    (hf : 64 < (getO 5 (getO 1 (getO 1 s).2).2).1 + ((getO 6 (getO 5 (getO 1 (getO 1 s).2).2).2).1 + 1)) : rdO win s = none := by
  obtain ⟨R, rem, R1, rem1, rfl, ht, e1⟩ := rdO_one h0
  rw [e1] at h1 hf
  obtain ⟨R1', rem1', R2, rem2, e1', ht1, e2⟩ := rdO_one h1
  injection e1' with e1'
  injection e1' with x1 x2
  subst x1 x2
  rw [e2] at hf
  show rdX win R rem = none
  unfold rdX
  rw [ht]
  simp only
  rw [if_neg h0, ht1]
  simp only
  rw [if_neg h1]
  rw [getO_take] at hf
  cases ht2 : takeB 5 R2 rem2 with
  | none => rfl
  | some q =>
    obtain ⟨a, R3, rem3⟩ := q
    rw [ht2] at hf
    simp only at hf ⊢
    rw [getO_take] at hf
    cases ht3 : takeB 6 R3 rem3 with
    | none => rfl
    | some q =>
      obtain ⟨m, R4, rem4⟩ := q
      rw [ht3] at hf
      simp only at hf ⊢
      rw [if_pos hf]
theorem stO_far (h0 : (getO 1 s).1 ≠ 0) (h1 : (getO 1 (getO 1 s).2).1 ≠ 0)
    (hf : 64 < (getO 5 (getO 1 (getO 1 s).2).2).1 + ((getO 6 (getO 5 (getO 1 (getO 1 s).2).2).2).1 + 1)) : stO win s = none := stO_none (rdO_far h0 h1 hf)
end
end Go.Proofs.Ytcoajldhhimmoaa

/- Plain mathematics of all codecs: what a row of samples is told in, in each of the six; that it is read back, and nothing else is; the one that takes the fewest bytes. -/
namespace Go.Proofs.Ytcoajldhhimmoaa

/-- Fields as bytes. -/
def packF (fs : List (Nat × Nat)) : List Nat := packB (fnum fs) (flen fs)
/-- Of values: how each differs from the one ahead, going round; as numbers without a sign. -/
def stepU (last x : Nat) : Nat := (zig (sg ((x + M64 - last) % M64))).toNat
def stepsU : Nat → List Nat → List Nat
  | _, [] => []
  | last, x :: xs => stepU last x :: stepsU x xs
def backU (last u : Nat) : Nat := (last + un (zag (u : Int))) % M64
def unstepsU : Nat → List Nat → List Nat
  | _, [] => []
  | last, u :: us => backU last u :: unstepsU (backU last u) us
theorem backU_lt (last u : Nat) : backU last u < 2 ^ 64 := by
  unfold backU
  rw [← M64_pow]
  exact Nat.mod_lt _ (by decide)
theorem step_sg (last x : Nat) : -9223372036854775808 ≤ sg ((x + M64 - last) % M64) ∧ sg ((x + M64 - last) % M64) ≤ 9223372036854775807 := by
  have h := sg_fits (u := (x + M64 - last) % M64) (Nat.mod_lt _ (by decide))
  have e : H63 = 9223372036854775808 := rfl
  obtain ⟨h1, h2⟩ := h
  omega
theorem stepU_int (last x : Nat) : (stepU last x : Int) = zig (sg ((x + M64 - last) % M64)) := by
  have h := step_sg last x
  have h2 := zig_fit h.1 h.2
  unfold stepU
  omega
theorem unstepsU_len (v : List Nat) : ∀ last, (unstepsU last v).length = v.length := by
  induction v with
  | nil => intro _; rfl
  | cons x xs ih => intro last; show (unstepsU _ xs).length + 1 = xs.length + 1; rw [ih]
theorem stepsU_snoc (v : List Nat) (x : Nat) : ∀ last, stepsU last (v ++ [x]) = stepsU last v ++ [stepU (v.getLast?.getD last) x] := by
  induction v with
  | nil => intro last; rfl
  | cons y ys ih =>
    intro last
    show stepU last y :: stepsU y (ys ++ [x]) = stepU last y :: (stepsU y ys ++ _)
    rw [ih y, List.getLast?_cons]
    rfl
theorem unstepsU_snoc (v : List Nat) (x : Nat) : ∀ last, unstepsU last (v ++ [x]) = unstepsU last v ++ [backU ((unstepsU last v).getLast?.getD last) x] := by
  induction v with
  | nil => intro last; rfl
  | cons y ys ih =>
    intro last
    show backU last y :: unstepsU (backU last y) (ys ++ [x]) = backU last y :: (unstepsU (backU last y) ys ++ [backU ((backU last y :: unstepsU (backU last y) ys).getLast?.getD last) x])
    rw [ih, List.getLast?_cons]
    rfl
/-- Words as bytes, the highest first. -/
def w8 (w : Nat) : List Nat := [w / 2 ^ 56 % 256, w / 2 ^ 48 % 256, w / 2 ^ 40 % 256, w / 2 ^ 32 % 256, w / 2 ^ 24 % 256, w / 2 ^ 16 % 256, w / 2 ^ 8 % 256, w % 256]
def words8 : List Nat → List Nat
  | [] => []
  | w :: ws => w8 w ++ words8 ws
/-- Values told in a codec. -/
def toldK (tag : Int) (v : List Nat) : Option (List Nat) :=
  if tag = 1 then some (packF (encVals v))
  else if tag = 2 then (encS (stepsU 0 v)).map words8
  else if tag = 3 then some (encR v)
  else if tag = 4 then some (encP v)
  else if tag = 5 then encD v
  else if tag = 6 then (if v = [] then some [] else if v.all (fun x => x == v.getD 0 0) then some (enc (v.getD 0 0)) else none)
  else none
/-- A row of samples: its times and its values; it rises. -/
def tsOf (l : List (Int × Nat)) : List Int := l.map (·.1)
def vsOf (l : List (Int × Nat)) : List Nat := l.map (·.2)
def GoodS (l : List (Int × Nat)) : Prop := ∀ p ∈ l, Fits p.1 ∧ p.2 < 2 ^ 64
theorem tsOf_len (l : List (Int × Nat)) : (tsOf l).length = l.length := by simp [tsOf]
theorem vsOf_len (l : List (Int × Nat)) : (vsOf l).length = l.length := by simp [vsOf]
theorem GoodS.ts {l : List (Int × Nat)} (h : GoodS l) : ∀ x ∈ tsOf l, Fits x := fun x hx => by
  obtain ⟨p, hp, rfl⟩ := List.mem_map.1 hx
  exact (h p hp).1
theorem GoodS.vs {l : List (Int × Nat)} (h : GoodS l) : ∀ x ∈ vsOf l, x < 2 ^ 64 := fun x hx => by
  obtain ⟨p, hp, rfl⟩ := List.mem_map.1 hx
  exact (h p hp).2
def ascB : List Int → Bool
  | a :: b :: r => decide (a < b) && ascB (b :: r)
  | _ => true
def riseB (l : List (Int × Nat)) : Bool := ascB (tsOf l) && decide (l.length ≤ 65535)
/-- The bytes of its times. -/
def tbK (l : List (Int × Nat)) : List Nat := packF (encRow (tsOf l))
/-- A row told in a codec. -/
def encK (tag : Int) (l : List (Int × Nat)) : Option (List Nat) :=
  if riseB l then (toldK tag (vsOf l)).map fun b => enc (tbK l).length ++ (tbK l ++ b) else none
end Go.Proofs.Ytcoajldhhimmoaa

/- The model goes on: how long rows are, what numbers are; what an iterator has stays, whatever others do. -/
namespace Go.Proofs.Ytcoajldhhimmoaa

/-- Rows of at most k samples, all of them numbers that fit. -/
def LenM (m : ModN) (k : Nat) : Prop := (∀ s ∈ m.ser, s.l.length ≤ k ∧ GoodS s.l ∧ Fits s.last) ∧ (∀ i ∈ m.ite, i.rest.length ≤ k ∧ GoodS i.rest)
theorem LenM.nil (k : Nat) : LenM .nil k := ⟨fun _ h => (by cases h), fun _ h => (by cases h)⟩
theorem LenM.more {m : ModN} {k k' : Nat} (h : LenM m k) (hk : k ≤ k') : LenM m k' :=
  ⟨fun s hs => ⟨Nat.le_trans (h.1 s hs).1 hk, (h.1 s hs).2⟩, fun s hs => ⟨Nat.le_trans (h.2 s hs).1 hk, (h.2 s hs).2⟩⟩
end Go.Proofs.Ytcoajldhhimmoaa

/- Models in memory: one cell of one element written, one element more, what else turns; a struct of five cells; the op of a number. -/
namespace Go.Proofs.Ytcoajldhhimmoaa
open Go.RowKit

section
variable {w w' : World} {B B' g n cap i j : Nat} {e : TypeId} {v : Value}
theorem serC_set {ps : List (SerN × Value)} {p' : SerN × Value} : (ps.set i p').map serC = (ps.map serC).set i (serC p') := by rw [List.map_set]
theorem iteC_set {ps : List (IteN × Value)} {p' : IteN × Value} : (ps.set i p').map iteC = (ps.map iteC).set i (iteC p') := by rw [List.map_set]
/-- One cell of the i-th series is written: p becomes p'. -/
theorem OwnSer.put_ {ps : List (SerN × Value)} {p p' : SerN × Value} {u : Value} (h : OwnSer B w e (.slice (some ⟨g, 0, none⟩) n cap) ps) (hn : ps.length = n) (hp : ps[i]? = some p) (hj : j < 5) (hu : (serC p).set j u = serC p') (ho : OwnS B w p'.2 p'.1.l) (hne : e ≠ 31) :
    (∃ x, (serC p)[j]? = some x ∧ w.cell? ⟨g, i * 5 + j, none⟩ = some x) ∧ w.frozen? ⟨g, i * 5 + j, none⟩ = false ∧ OwnSer B (w.setCell ⟨g, i * 5 + j, none⟩ u) e (.slice (some ⟨g, 0, none⟩) n cap) (ps.set i p') := by
  have hr : (ps.map serC)[i]? = some (serC p) := by rw [List.getElem?_map, hp]; rfl
  obtain ⟨h1, h2, h3⟩ := h.1.set_ (by rw [List.length_map]; exact hn) hr hj u
  have hk := ((Mod.refl (fun k => k = g) w).setCell (p := ⟨g, i * 5 + j, none⟩) (fun _ => rfl) u)
  refine ⟨h1, h2, ?_, fun q hq => ?_⟩
  · rw [serC_set, ← hu]; exact h3
  · rcases List.mem_or_eq_of_mem_set hq with hq | rfl
    · exact h.keep hne q hq
    · exact hk.owns ho (fun k hk e' => owns_apart h.1.2 ho hne k (by simp [Value.ownBlock, e']) hk)
theorem OwnIte.put_ {ps : List (IteN × Value)} {p p' : IteN × Value} {u : Value} (h : OwnIte B w e (.slice (some ⟨g, 0, none⟩) n cap) ps) (hn : ps.length = n) (hp : ps[i]? = some p) (hj : j < 2) (hu : (iteC p).set j u = iteC p') (ho : OwnS B w p'.2 p'.1.rest) (hne : e ≠ 31) :
    (∃ x, (iteC p)[j]? = some x ∧ w.cell? ⟨g, i * 2 + j, none⟩ = some x) ∧ w.frozen? ⟨g, i * 2 + j, none⟩ = false ∧ OwnIte B (w.setCell ⟨g, i * 2 + j, none⟩ u) e (.slice (some ⟨g, 0, none⟩) n cap) (ps.set i p') := by
  have hr : (ps.map iteC)[i]? = some (iteC p) := by rw [List.getElem?_map, hp]; rfl
  obtain ⟨h1, h2, h3⟩ := h.1.set_ (by rw [List.length_map]; exact hn) hr hj u
  have hk := ((Mod.refl (fun k => k = g) w).setCell (p := ⟨g, i * 2 + j, none⟩) (fun _ => rfl) u)
  refine ⟨h1, h2, ?_, fun q hq => ?_⟩
  · rw [iteC_set, ← hu]; exact h3
  · rcases List.mem_or_eq_of_mem_set hq with hq | rfl
    · exact h.keep hne q hq
    · exact hk.owns ho (fun k hk e' => owns_apart h.1.2 ho hne k (by simp [Value.ownBlock, e']) hk)
/-- What is done to a row whose elements are of another type leaves samples alone. -/
theorem OwnS.besides {K : Nat} {u : Value} {l : List (Int × Nat)} {rows : List (List Value)} (h : OwnS B w u l) (hv : OwnK K B' w e v rows) (hne : e ≠ 31) (hm : Mod (fun k => v.ownBlock = some k) w w') : OwnS B w' u l :=
  hm.owns h (fun k hk hk' => owns_apart hv.2 h hne k hk' hk)
theorem OwnSer.put {ps qs : List (SerN × Value)} (h : OwnSer B w e v ps) (hm : Mod (fun k => v.ownBlock = some k) w w') (hne : e ≠ 31) {v' : Value} (hK : OwnK 5 B w' e v' (qs.map serC)) (hq : ∀ p ∈ qs, p ∈ ps ∨ OwnS B w p.2 p.1.l) : OwnSer B w' e v' qs :=
  ⟨hK, fun p hp => (((hq p hp).elim (fun h1 => h.2 p h1) (fun h1 => h1)).besides h.1 hne hm)⟩
theorem OwnIte.put {ps qs : List (IteN × Value)} (h : OwnIte B w e v ps) (hm : Mod (fun k => v.ownBlock = some k) w w') (hne : e ≠ 31) {v' : Value} (hK : OwnK 2 B w' e v' (qs.map iteC)) (hq : ∀ p ∈ qs, p ∈ ps ∨ OwnS B w p.2 p.1.rest) : OwnIte B w' e v' qs :=
  ⟨hK, fun p hp => (((hq p hp).elim (fun h1 => h.2 p h1) (fun h1 => h1)).besides h.1 hne hm)⟩
/-- A struct of five cells is written. -/
theorem Blk.five {t : TypeId} {c0 c1 c2 c3 c4 : Value} (h : Blk w g t #[c0, c1, c2, c3, c4]) (a b c d f : Value) :
    let W := ((((w.setCell ⟨g, 0, none⟩ a).setCell ⟨g, 1, none⟩ b).setCell ⟨g, 2, none⟩ c).setCell ⟨g, 3, none⟩ d).setCell ⟨g, 4, none⟩ f
    W.cell? ⟨g, 0, none⟩ = some a ∧ W.cell? ⟨g, 1, none⟩ = some b ∧ W.cell? ⟨g, 2, none⟩ = some c ∧ W.cell? ⟨g, 3, none⟩ = some d ∧ W.cell? ⟨g, 4, none⟩ = some f ∧ Blk W g t #[a, b, c, d, f] := by
  have h3 := ((((h.set_ 0 a).set_ 1 b).set_ 2 c).set_ 3 d).set_ 4 f
  have h4 : Blk (((((w.setCell ⟨g, 0, none⟩ a).setCell ⟨g, 1, none⟩ b).setCell ⟨g, 2, none⟩ c).setCell ⟨g, 3, none⟩ d).setCell ⟨g, 4, none⟩ f) g t #[a, b, c, d, f] := by simpa using h3
  refine ⟨?_, ?_, ?_, ?_, ?_, h4⟩
  · have := h4.cell 0; simpa using this
  · have := h4.cell 1; simpa using this
  · have := h4.cell 2; simpa using this
  · have := h4.cell 3; simpa using this
  · have := h4.cell 4; simpa using this
end

end Go.Proofs.Ytcoajldhhimmoaa

/- Rows of the call's own written in place: runs of cells stored; append with room, copy, clear, of elements of K cells. -/
namespace Go.Proofs.Ytcoajldhhimmoaa
open Go.RowKit

/-- A run of cells laid over a row. -/
def over (cs : List Value) (o : Nat) (vs : List Value) : List Value := cs.take o ++ vs ++ cs.drop (o + vs.length)
theorem over_len {cs vs : List Value} {o : Nat} (h : o + vs.length ≤ cs.length) : (over cs o vs).length = cs.length := by
  simp only [over, List.length_append, List.length_take, List.length_drop]
  omega
theorem over_take {cs vs : List Value} {o n : Nat} (h : o + vs.length ≤ n) (hn : n ≤ cs.length) : (over cs o vs).take n = over (cs.take n) o vs := by
  unfold over
  rw [List.take_append, List.take_append, List.take_of_length_le (by rw [List.length_take]; omega), List.take_of_length_le (l := vs) (by rw [List.length_take]; omega), List.take_take, Nat.min_eq_left (by omega), List.drop_take]
  congr 2
  rw [List.length_append, List.length_take]
  omega
section
variable {w w' : World} {g o : Nat} {t : TypeId} {cs : Array Value}
theorem Blk.setCells : ∀ {vs : List Value} {o : Nat} {w : World} {cs : Array Value}, Blk w g t cs → o + vs.length ≤ cs.size → Blk (w.setCells g o vs) g t (over cs.toList o vs).toArray := by
  intro vs
  induction vs with
  | nil =>
    intro o w cs h _
    have e : (over cs.toList o []).toArray = cs := by simp [over]
    rw [e]
    exact h
  | cons v r ih =>
    intro o w cs h hl
    have h2 := ih (h.set_ o v) (o := o + 1) (by simp at hl ⊢; omega)
    have e : over (cs.setIfInBounds o v).toList (o + 1) r = over cs.toList o (v :: r) := by
      unfold over
      have hk : o + (r.length + 1) ≤ cs.toList.length := by simp at hl ⊢; omega
      have h3 := list_seg_step cs.toList o v r hk
      rw [Array.toList_setIfInBounds]
      simpa using h3
    rw [e] at h2
    exact h2
theorem mod_setCells (w : World) (g : Nat) : ∀ (vs : List Value) (o : Nat) (w1 : World), Mod (fun k => k = g) w w1 → Mod (fun k => k = g) w (w1.setCells g o vs) := by
  intro vs
  induction vs with
  | nil => intro o w1 h; exact h
  | cons v r ih => intro o w1 h; exact ih (o + 1) _ (h.setCell (p := ⟨g, o, none⟩) (fun _ => rfl) v)
theorem Mod.setCells (w : World) (g o : Nat) (vs : List Value) : Mod (fun k => k = g) w (w.setCells g o vs) := mod_setCells w g vs o w (Mod.refl _ _)
theorem Blk.some_ (h : Blk w g t cs) {i : Nat} (hi : i < cs.size) : (w.cell? ⟨g, i, none⟩).isSome = true := by
  rw [h.cell i, Array.getElem?_eq_getElem hi]
  rfl
end
section
variable {K B : Nat} {w w' : World} {e : TypeId} {v : Value} {rows news : List (List Value)} {g n cap : Nat}
/-- The block behind a row of the call's own. -/
theorem OwnK.blk (h : OwnK K B w e (.slice (some ⟨g, 0, none⟩) n cap) rows) : ∃ cur, Blk w g e cur ∧ B ≤ g ∧ rows.length = n ∧ n ≤ cap ∧ cap ≤ maxLen ∧ cur.size = cap * K ∧ cur.toList.take (n * K) = rows.flatten := by
  rcases h.2.2 with ⟨h1, _⟩ | ⟨g', cap', cur, h1, hB, hgg, hnc, hcm, hcs, htk⟩
  · cases h1
  · injection h1 with h1 h2 h3
    injection h1 with h1
    injection h1 with h1
    subst h1 h3
    refine ⟨cur, hgg, hB, h2.symm, ?_, hcm, hcs, ?_⟩
    · rw [h2]; exact hnc
    · rw [h2]; exact htk
theorem OwnK.of_blk {cur : Array Value} (hb : Blk w g e cur) (hB : B ≤ g) (hr : rows.length = n) (hn : n ≤ cap) (hc : cap ≤ maxLen) (hs : cur.size = cap * K) (ha : AllK K rows) (ht : cur.toList.take (n * K) = rows.flatten) : OwnK K B w e (.slice (some ⟨g, 0, none⟩) n cap) rows := by
  refine ⟨ha, flat_len ha, .inr ⟨g, cap, cur, by rw [hr], hB, hb, by omega, hc, hs, by rw [hr]; exact ht⟩⟩
/-- s[:k] -/
theorem OwnK.cut {k : Nat} (h : OwnK K B w e (.slice (some ⟨g, 0, none⟩) n cap) rows) (hk : k ≤ n) : OwnK K B w e (.slice (some ⟨g, 0, none⟩) k cap) (rows.take k) := by
  obtain ⟨cur, hb, hB, hr, hn, hc, hs, ht⟩ := h.blk
  refine OwnK.of_blk hb hB (by rw [List.length_take]; omega) (by omega) hc hs (h.1.take k) ?_
  rw [← flat_take k h.1, ← ht, List.take_take, Nat.min_eq_left (Nat.mul_le_mul_right K hk)]
/-- Whole elements laid over a row, from its p-th on. -/
theorem over_rows {p : Nat} (ha : AllK K rows) (hn : AllK K news) : over rows.flatten (p * K) news.flatten = (rows.take p ++ news ++ rows.drop (p + news.length)).flatten := by
  unfold over
  rw [flat_len hn, ← Nat.add_mul, flat_take p ha, flat_drop (p + news.length) ha, List.flatten_append, List.flatten_append]
theorem OwnK.laid {p : Nat} (h : OwnK K B w e (.slice (some ⟨g, 0, none⟩) n cap) rows) (hn : AllK K news) (hp : p + news.length ≤ n) :
    OwnK K B (w.setCells g (p * K) news.flatten) e (.slice (some ⟨g, 0, none⟩) n cap) (rows.take p ++ news ++ rows.drop (p + news.length)) := by
  obtain ⟨cur, hb, hB, hr, hnc, hc, hs, ht⟩ := h.blk
  have hfl := flat_len hn
  have h1 : p * K + news.flatten.length ≤ n * K := by rw [hfl, ← Nat.add_mul]; exact Nat.mul_le_mul_right K hp
  have h2 : n * K ≤ cap * K := Nat.mul_le_mul_right K hnc
  have hsz : cur.toList.length = cap * K := by simpa using hs
  refine OwnK.of_blk (hb.setCells (by omega)) hB ?_ hnc hc ?_ ?_ ?_
  · simp only [List.length_append, List.length_take, List.length_drop]; omega
  · rw [List.size_toArray, over_len (by omega), hsz]
  · exact ((h.1.take p).app hn).app (h.1.drop _)
  · show (over cur.toList (p * K) news.flatten).take (n * K) = _
    rw [over_take h1 (by omega), ht, over_rows h.1 hn]
/-- .. and what lies behind the row is written: s = s[:k] after its spare cells took them. -/
theorem OwnK.grown {m : Nat} (h : OwnK K B w e (.slice (some ⟨g, 0, none⟩) n cap) rows) (hn : AllK K news) (hm : news.length = m) (hp : n + m ≤ cap) :
    OwnK K B (w.setCells g (n * K) news.flatten) e (.slice (some ⟨g, 0, none⟩) (n + m) cap) (rows ++ news) := by
  obtain ⟨cur, hb, hB, hr, hnc, hc, hs, ht⟩ := h.blk
  have hfl := flat_len hn
  have h1 : n * K + news.flatten.length = (n + m) * K := by rw [hfl, hm, ← Nat.add_mul]
  have h2 : (n + m) * K ≤ cap * K := Nat.mul_le_mul_right K hp
  have hsz : cur.toList.length = cap * K := by simpa using hs
  refine OwnK.of_blk (hb.setCells (by omega)) hB ?_ hp hc ?_ (h.1.app hn) ?_
  · rw [List.length_append]; omega
  · rw [List.size_toArray, over_len (by omega), hsz]
  · show (over cur.toList (n * K) news.flatten).take ((n + m) * K) = _
    rw [over_take (by omega) (by omega)]
    unfold over
    rw [List.take_take, Nat.min_eq_left (by omega), ht, List.drop_of_length_le (by rw [List.length_take]; omega), List.append_nil, List.flatten_append]
/-- What lies behind the row is written. -/
theorem OwnK.behind {o : Nat} {vs : List Value} (h : OwnK K B w e (.slice (some ⟨g, 0, none⟩) n cap) rows) (ho : n * K ≤ o) (hl : o + vs.length ≤ cap * K) : OwnK K B (w.setCells g o vs) e (.slice (some ⟨g, 0, none⟩) n cap) rows := by
  obtain ⟨cur, hb, hB, hr, hnc, hc, hs, ht⟩ := h.blk
  have hsz : cur.toList.length = cap * K := by simpa using hs
  refine OwnK.of_blk (hb.setCells (by omega)) hB hr hnc hc ?_ h.1 ?_
  · rw [List.size_toArray, over_len (by omega), hsz]
  · show (over cur.toList o vs).take (n * K) = _
    unfold over
    rw [List.append_assoc, List.take_append_of_le_length (by rw [List.length_take]; omega), List.take_take, Nat.min_eq_left ho, ht]
/-- A row's cells may be written. -/
theorem OwnK.open_ (h : OwnK K B w e (.slice (some ⟨g, 0, none⟩) n cap) rows) {i : Nat} (hi : i < cap * K) : (w.cell? ⟨g, i, none⟩).isSome = true ∧ w.frozen? ⟨g, i, none⟩ = false := by
  obtain ⟨cur, hb, _, _, _, _, hs, _⟩ := h.blk
  exact ⟨hb.some_ (by omega), hb.frozen i⟩
end
section
variable {P : Program} {w : World} {t e : TypeId} {z : Value} {K bytes B : Nat}
/-- append(s[:n], x..) with room: in place, wherever x lies. -/
theorem run_append_in (hE : EltK P t e z K bytes) {g n cap m c : Nat} {news : List (List Value)} {N : Nat} {all : List (List Value)} (h : OwnK K B w e (.slice (some ⟨g, 0, none⟩) N cap) all) {A : Option Addr} (hA : A ≠ none) (hr : ∃ B2, RdsK K w B2 A m news) (h1 : ∀ u ∈ news.flatten, u.oneCell' = true) (hroom : n + m ≤ cap) (ty : TypeId) :
    (Builtin.append_ #[t, t] ty #[.slice (some ⟨g, 0, none⟩) n cap, .slice A m c]).run P w = .ok (.slice (some ⟨g, 0, none⟩) (n + m) cap) (w.setCells g (n * K) news.flatten) := by
  obtain ⟨ht, ⟨i, hi, hz, hsize, hby⟩, hzs, hK⟩ := hE
  obtain ⟨B2, hr1, hr2, hr3⟩ := hr
  have hfl := flat_len hr2
  rcases A with _ | ad
  · exact absurd rfl hA
  · have hcells : ∀ j u, news.flatten[j]? = some u → w.cell? (ad.add j) = some u := by
      intro j u hu
      rcases Nat.eq_zero_or_pos m with h0 | h0
      · subst h0
        obtain rfl : news = [] := List.eq_nil_of_length_eq_zero hr1
        simp at hu
      · obtain ⟨ad', h, _, hc⟩ := hr3.2 (Nat.mul_pos h0 hK)
        injection h with h
        subst h
        exact hc j u hu
    have hlt : n * K + news.flatten.length ≤ cap * K := by rw [hfl, hr1, ← Nat.add_mul]; exact Nat.mul_le_mul_right K hroom
    have h2 := run_append_room_cells (P := P) w t ty e i ht hi g 0 n cap ad m c news.flatten (by rw [hfl, hr1, hsize]) hcells h1 hroom (fun j hj => (h.open_ (by rw [hsize]; omega)).1) (fun j hj => (h.open_ (by rw [hsize]; omega)).2)
    rw [Nat.zero_add, hsize] at h2
    exact h2
/-- copy(d, s): all is read ahead. -/
theorem run_copyK (hE : EltK P t e z K bytes) {b o dLen dCap sLen sCap m : Nat} {a : Addr} {cs : List Value} (hm : Nat.min sLen dLen = m) (hn : cs.length = m * K)
    (hsrc : ∀ j v, cs[j]? = some v → w.cell? (a.add j) = some v) (hc : ∀ j, j < cs.length → (w.cell? ⟨b, o + j, none⟩).isSome = true) (hf : ∀ j, j < cs.length → w.frozen? ⟨b, o + j, none⟩ = false) (h1 : ∀ v ∈ cs, v.oneCell' = true) (ty : TypeId) :
    (Builtin.copy_ #[t, t] ty #[.slice (some ⟨b, o, none⟩) dLen dCap, .slice (some a) sLen sCap]).run P w = .ok (goInt m) (w.setCells b o cs) := by
  obtain ⟨ht, ⟨i, hi, hz, hsize, hby⟩, hzs, hK⟩ := hE
  have hl := run_loadCells_list (P := P) w a cs hsrc
  have hst := run_storeCells_cells (P := P) b o cs 0 w (by simpa using hc) (by simpa using hf) h1
  rw [hn] at hl
  simp [Builtin.copy_, run_underlying ht, Builtin.lenOf, Builtin.firstCells, sizeOf, typeInfo, hi, hsize, hm, hl, hst]
/-- clear(s) -/
theorem run_clearK (hE : EltK P t e z K bytes) (hv : ∀ w, (zeroValue e).run P w = .ok z w) (h1 : ∀ u ∈ z.cells, u.oneCell' = true) {b o n : Nat} (hn : 0 < n)
    (hc : ∀ j, j < n * K → (w.cell? ⟨b, o + j, none⟩).isSome = true) (hf : ∀ j, j < n * K → w.frozen? ⟨b, o + j, none⟩ = false) :
    ∃ vs : List Value, vs.length = n * K ∧ ∀ ty c, (Builtin.clear_ #[t] ty #[.slice (some ⟨b, o, none⟩) n c]).run P w = .ok (.tuple #[]) (w.setCells b o vs) := by
  obtain ⟨ht, ⟨i, hi, hz, hsize, hby⟩, hzs, hK⟩ := hE
  have hl : (Builtin.zeroCells z.cells n).toList.length = n * K := by simp [Builtin.zeroCells, hzs]
  refine ⟨(Builtin.zeroCells z.cells n).toList, hl, fun ty c => ?_⟩
  have hst := run_storeCells_cells (P := P) b o (Builtin.zeroCells z.cells n).toList 0 w (by rw [hl]; simpa using hc) (by rw [hl]; simpa using hf) (by
    intro u hu
    simp only [Builtin.zeroCells, Array.toList_map, List.mem_map] at hu
    obtain ⟨j, _, rfl⟩ := hu
    have hlt : j % z.cells.size < z.cells.size := Nat.mod_lt _ (by omega)
    rw [getElem!_pos z.cells _ hlt]
    exact h1 _ (Array.getElem_mem hlt))
  simp only [Nat.add_zero] at hst
  obtain ⟨m, rfl⟩ : ∃ m, n = m + 1 := ⟨n - 1, by omega⟩
  simp [Builtin.clear_, run_underlying ht, hv, hst]
end
section
variable {P : Program} {w : World}
theorem step_copy_run {ops : Array Oper} {o : Oper} {a : Act} {K : Act → World → Prop} {Q : Exit → Act → World → Prop} {E : Prop} (hgd : o.guard = none) (d s : Operand) (t : TypeId)
    (ho : o.op = .call { callee := .builtin .copy, args := #[d, s], argTypes := #[t, t] }) {v u : Value} (hd : a.eval d = v) (hs : a.eval s = u) {v' : Value} {w' : World}
    (hr : (Builtin.copy_ #[t, t] o.type #[v, u]).run P w = .ok v' w') (h : K (a.put o.dst v') w') : if Region.wanted o (yielded ops a.tmps) = true then Oper.wp P o a w K Q else E := by
  have hw : Region.wanted o (yielded ops a.tmps) = true := by simp [Region.wanted, hgd]
  rw [if_pos hw]
  unfold Oper.wp execOp
  simp only [ho, resolve, invoke, builtin, Sem.run_bind, Sem.run_pure, Result.andThen_ok, List.map_toArray, List.map_cons, List.map_nil, hd, hs, hr]
  exact h
theorem step_append_run {ops : Array Oper} {o : Oper} {a : Act} {K : Act → World → Prop} {Q : Exit → Act → World → Prop} {E : Prop} (hgd : o.guard = none) (d s : Operand) (t : TypeId)
    (ho : o.op = .call { callee := .builtin .append, args := #[d, s], argTypes := #[t, t] }) {v u : Value} (hd : a.eval d = v) (hs : a.eval s = u) {v' : Value} {w' : World}
    (hr : (Builtin.append_ #[t, t] o.type #[v, u]).run P w = .ok v' w') (h : K (a.put o.dst v') w') : if Region.wanted o (yielded ops a.tmps) = true then Oper.wp P o a w K Q else E := by
  have hw : Region.wanted o (yielded ops a.tmps) = true := by simp [Region.wanted, hgd]
  rw [if_pos hw]
  unfold Oper.wp execOp
  simp only [ho, resolve, invoke, builtin, Sem.run_bind, Sem.run_pure, Result.andThen_ok, List.map_toArray, List.map_cons, List.map_nil, hd, hs, hr]
  exact h
end
end Go.Proofs.Ytcoajldhhimmoaa

/- What a model has in memory of the call's own: its rows, and its rows of samples anywhere in blocks of samples of the call's own. -/
namespace Go.Proofs.Ytcoajldhhimmoaa
open Go.RowKit

theorem cellsS_drop (l : List (Int × Nat)) : ∀ k, (cellsS l).drop (k * 2) = cellsS (l.drop k) := by
  induction l with
  | nil => intro k; simp [cellsS]
  | cons p l ih =>
    intro k
    cases k with
    | zero => rfl
    | succ k =>
      rw [cellsS_cons, show (k + 1) * 2 = k * 2 + 1 + 1 by omega, List.drop_succ_cons, List.drop_succ_cons, ih]
      rfl
/-- The slice v reads as l; it lies in a block of samples, from block B on. -/
def SliH (B : Nat) (w : World) (v : Value) (l : List (Int × Nat)) : Prop :=
  ∃ A n c, v = .slice A n c ∧ l.length = n ∧ n ≤ c ∧ c ≤ maxLen ∧ (0 < n → ∃ g o cs, A = some ⟨g, o, none⟩ ∧ B ≤ g ∧ Blk w g 31 cs ∧ ∀ j u, (cellsS l)[j]? = some u → cs[o + j]? = some u)
section
variable {w w' : World} {B B' : Nat} {v : Value} {l : List (Int × Nat)}
theorem SliH.nil (B : Nat) (w : World) : SliH B w (.slice none 0 0) [] := ⟨none, 0, 0, rfl, rfl, Nat.le_refl _, Nat.zero_le _, fun h => absurd h (by decide)⟩
theorem SliH.form (h : SliH B w v l) : ∃ A n c, v = .slice A n c ∧ Hid (l.length = n) ∧ n ≤ c ∧ c ≤ maxLen ∧ RdsS w w.heap.size A n l := by
  obtain ⟨A, n, c, e, h1, h2, h3, h4⟩ := h
  refine ⟨A, n, c, e, Lib.hid h1, h2, h3, h1, by rw [cellsS_len, h1], fun h0 => ?_⟩
  obtain ⟨g, o, cs, rfl, _, hb, hc⟩ := h4 (by omega)
  exact ⟨_, rfl, hb.lt, fun j u hu => by rw [add_addr, hb.cell]; exact hc j u hu⟩
theorem SliH.rds {A : Option Addr} {n c : Nat} (h : SliH B w (.slice A n c) l) : l.length = n ∧ n ≤ c ∧ c ≤ maxLen ∧ RdsS w w.heap.size A n l := by
  obtain ⟨A', n', c', e, h1, h2, h3, h4⟩ := h.form
  injection e with e1 e2 e3
  subst e1 e2 e3
  exact ⟨h1.out, h2, h3, h4⟩
theorem SliH.mod {S : Nat → Prop} (h : SliH B w v l) (hm : Mod S w w') (hS : ∀ k cs, B ≤ k → Blk w k 31 cs → ¬ S k) : SliH B w' v l := by
  obtain ⟨A, n, c, e, h1, h2, h3, h4⟩ := h
  refine ⟨A, n, c, e, h1, h2, h3, fun h0 => ?_⟩
  obtain ⟨g, o, cs, e1, hB, hb, hc⟩ := h4 h0
  exact ⟨g, o, cs, e1, hB, hm.blk hb (hS g cs hB hb), hc⟩
theorem SliH.new (h : SliH B w v l) (hm : Mod (fun _ => False) w w') : SliH B w' v l := h.mod hm (fun _ _ _ _ h => h)
theorem SliH.mono (h : SliH B w v l) (hB : B' ≤ B) : SliH B' w v l := by
  obtain ⟨A, n, c, e, h1, h2, h3, h4⟩ := h
  refine ⟨A, n, c, e, h1, h2, h3, fun h0 => ?_⟩
  obtain ⟨g, o, cs, e1, hB2, hb, hc⟩ := h4 h0
  exact ⟨g, o, cs, e1, by omega, hb, hc⟩
theorem SliH.of_own (h : OwnS B w v l) : SliH B w v l := by
  rcases h.2 with ⟨rfl, h0⟩ | ⟨g, cap, cur, rfl, hB, hgg, hnc, hcm, hcs, htk⟩
  · obtain rfl : l = [] := List.eq_nil_of_length_eq_zero h0
    exact SliH.nil _ _
  · refine ⟨_, _, _, rfl, rfl, hnc, hcm, fun _ => ⟨g, 0, cur, rfl, hB, hgg, fun j u hu => ?_⟩⟩
    rw [← htk, List.getElem?_take] at hu
    split at hu
    · rw [Nat.zero_add]; simpa using hu
    · cases hu
/-- v[k:] -/
theorem SliH.drop {A : Option Addr} {n c k : Nat} (h : SliH B w (.slice A n c) l) (hk : k ≤ n) : SliH B w (.slice (if c = k then A else A.map (·.add (k * 2))) (n - k) (c - k)) (l.drop k) := by
  obtain ⟨A', n', c', e, h1, h2, h3, h4⟩ := h
  injection e with e1 e2 e3
  subst e1 e2 e3
  refine ⟨_, _, _, rfl, by rw [List.length_drop, h1], by omega, by omega, fun h0 => ?_⟩
  obtain ⟨g, o, cs, rfl, hB, hb, hc⟩ := h4 (by omega)
  refine ⟨g, o + k * 2, cs, ?_, hB, hb, fun j u hu => ?_⟩
  · rw [if_neg (by omega), Option.map_some, add_addr]
  · rw [← cellsS_drop, List.getElem?_drop] at hu
    rw [Nat.add_assoc]
    exact hc _ _ hu
end
section
variable {w w' : World} {B B' : Nat} {v v2 : Value} {m : ModN} {ps : List (SerN × Value)} {qs : List (IteN × Value)}
theorem own_blk {K : Nat} {e : TypeId} {rows : List (List Value)} (h : OwnK K B w e v rows) : ∀ k, v.ownBlock = some k → ∃ cs, Blk w k e cs := by
  intro k hk
  rcases h.2.2 with ⟨rfl, _⟩ | ⟨g, cap, cur, rfl, _, hg, _⟩
  · simp [Value.ownBlock] at hk
  · have : g = k := by simpa [Value.ownBlock] using hk
    subst this
    exact ⟨cur, hg⟩
end
end Go.Proofs.Ytcoajldhhimmoaa

/- Chunks: the mathematics. -/
namespace Go.Proofs.Ytcoajldhhimmoaa

/-- The first and the last time of a row. -/
def fstT (l : List (Int × Nat)) : Int := (tsOf l).headD 0
def lstT (l : List (Int × Nat)) : Int := (tsOf l).getLastD 0
/-- A number of 32 bits in four bytes, the highest first. -/
def sum4 (s : Nat) : List Nat := [s / 16777216 % 256, s / 65536 % 256, s / 256 % 256, s % 256]
/-- What stands ahead of the samples. -/
def headC (t n : Nat) (f g : Int) : List Nat := t :: (enc n ++ (enc (zig f).toNat ++ enc (zig g).toNat))
def headR (tag : Int) (l : List (Int × Nat)) : List Nat := headC tag.toNat l.length (fstT l) (lstT l)
/-- A chunk. -/
def makeC (tag : Int) (l : List (Int × Nat)) : Option (List Nat) :=
  if l = [] then none else (encK tag l).map fun b => headR tag l ++ b ++ sum4 (sumN ent (headR tag l ++ b))
end Go.Proofs.Ytcoajldhhimmoaa

/- Chunks: what the code asks of a chunk, and what the document asks, is one. -/
namespace Go.Proofs.Ytcoajldhhimmoaa

/-- Where the numbers of a head stand, and what they are. -/
def hp (bs : List Nat) : Nat → Nat
  | 0 => 1
  | i + 1 => hp bs i + (dec (bs.drop (hp bs i))).2
def hx (bs : List Nat) (i : Nat) : Nat := (dec (bs.drop (hp bs i))).1
def hq (bs : List Nat) (i : Nat) : Nat := (dec (bs.drop (hp bs i))).2
end Go.Proofs.Ytcoajldhhimmoaa

/- Rising. -/
namespace Go.Proofs.Ytcoajldhhimmoaa
open Go.RowKit

theorem ts_get {l : List (Int × Nat)} {i : Nat} {p : Int × Nat} (h : l[i]? = some p) : (tsOf l)[i]? = some p.1 := by
  unfold tsOf
  rw [List.getElem?_map, h]
  rfl
theorem vs_get {l : List (Int × Nat)} {i : Nat} {p : Int × Nat} (h : l[i]? = some p) : (vsOf l)[i]? = some p.2 := by
  unfold vsOf
  rw [List.getElem?_map, h]
  rfl
/-- The first i rise. -/
def RiseTo (l : List (Int × Nat)) (i : Nat) : Prop := ∀ j a b, j + 1 < i → (tsOf l)[j]? = some a → (tsOf l)[j + 1]? = some b → a < b
theorem RiseTo.more {l : List (Int × Nat)} {j : Nat} {p q : Int × Nat} (h : RiseTo l (j + 1)) (hp : l[j]? = some p) (hq : l[j + 1]? = some q) (hlt : p.1 < q.1) : RiseTo l (j + 1 + 1) := by
  intro k a b hk ha hb
  rcases Nat.lt_or_ge (k + 1) (j + 1) with h1 | h1
  · exact h k a b h1 ha hb
  · obtain rfl : k = j := by omega
    rw [ts_get hp] at ha
    rw [ts_get hq] at hb
    injection ha with ha
    injection hb with hb
    subst ha hb
    exact hlt
end Go.Proofs.Ytcoajldhhimmoaa

/- Chunks, of the code: the sum in four bytes, the head of a row, and how it is told. -/
namespace Go.Proofs.Ytcoajldhhimmoaa
open Go.RowKit

/-- A struct of four cells is written. -/
theorem Blk.four {w : World} {g : Nat} {t : TypeId} {c0 c1 c2 c3 : Value} (h : Blk w g t #[c0, c1, c2, c3]) (a b c d : Value) :
    (w.setCell ⟨g, 0, none⟩ a).cell? ⟨g, 0, none⟩ = some a ∧ ((w.setCell ⟨g, 0, none⟩ a).setCell ⟨g, 1, none⟩ b).cell? ⟨g, 1, none⟩ = some b ∧
    (((w.setCell ⟨g, 0, none⟩ a).setCell ⟨g, 1, none⟩ b).setCell ⟨g, 2, none⟩ c).cell? ⟨g, 2, none⟩ = some c ∧
    ((((w.setCell ⟨g, 0, none⟩ a).setCell ⟨g, 1, none⟩ b).setCell ⟨g, 2, none⟩ c).setCell ⟨g, 3, none⟩ d).cell? ⟨g, 3, none⟩ = some d ∧
    Blk ((((w.setCell ⟨g, 0, none⟩ a).setCell ⟨g, 1, none⟩ b).setCell ⟨g, 2, none⟩ c).setCell ⟨g, 3, none⟩ d) g t #[a, b, c, d] := by
  have h1 := h.set_ 0 a
  have h2 := h1.set_ 1 b
  have h3 := h2.set_ 2 c
  have h4 := h3.set_ 3 d
  refine ⟨?_, ?_, ?_, ?_, ?_⟩
  · have := h1.cell 0; simpa using this
  · have := h2.cell 1; simpa using this
  · have := h3.cell 2; simpa using this
  · have := h4.cell 3; simpa using this
  · simpa using h4
end Go.Proofs.Ytcoajldhhimmoaa

/- Get with a size that may be too great; bytes.Equal (parted from layer 8's Decode). -/
namespace Go.Proofs.Ytcoajldhhimmoaa
open Go.RowKit

end Go.Proofs.Ytcoajldhhimmoaa

/- Chunks, of the code: whether the sum stands behind. -/
namespace Go.Proofs.Ytcoajldhhimmoaa
open Go.RowKit

end Go.Proofs.Ytcoajldhhimmoaa

/- Times: wrapping of 64 bits, by sg and un; a reader's states, bad ones too. -/
namespace Go.Proofs.Ytcoajldhhimmoaa
open Go.RowKit

end Go.Proofs.Ytcoajldhhimmoaa

/- The widths' table, and what reads it: signed, shortest. -/
namespace Go.Proofs.Ytcoajldhhimmoaa
open Go.RowKit

end Go.Proofs.Ytcoajldhhimmoaa

/- A reader tells whether it is well. -/
namespace Go.Proofs.Ytcoajldhhimmoaa
open Go.RowKit

end Go.Proofs.Ytcoajldhhimmoaa

/- Ok of a reader in whatever state. -/
namespace Go.Proofs.Ytcoajldhhimmoaa
open Go.RowKit

end Go.Proofs.Ytcoajldhhimmoaa

/- A reader in whatever state; a difference is read: mark, get. -/
namespace Go.Proofs.Ytcoajldhhimmoaa
open Go.RowKit

end Go.Proofs.Ytcoajldhhimmoaa

/- Fields are told: the project's writer, and the document's own. -/
namespace Go.Proofs.Ytcoajldhhimmoaa
open Go.RowKit

section
variable {w0 w w' : World} {g N len : Nat} {row : Option Nat} {fs bs : List (Nat × Nat)}
theorem Mod.more {row row' : Option Nat} {w2 : World} (h : Mod (fun i => i = g ∨ row = some i) w0 w) (hr : RowTo w0 row row') (h2 : Mod (fun i => i = g ∨ row' = some i) w w2) : Mod (fun i => i = g ∨ row = some i) w0 w2 :=
  h.trans h2 (fun _ hi h => h.elim .inl (fun e => .inr (hr.in_ e hi)))
theorem RowTo.two {row row' row2 : Option Nat} (h : RowTo w0 row row') (hs : w0.heap.size ≤ w.heap.size) (h2 : RowTo w row' row2) : RowTo w0 row row2 := by
  rcases h2 with rfl | ⟨r, rfl, hr⟩
  · exact h
  · exact .inr ⟨r, rfl, by omega⟩
end
theorem SeesI.at2 {k : IntKind} {w w' : World} {B n i : Nat} {A : Option Addr} {zs : List Int} (h : SeesI k w B A n zs) (hi : i < n) (hB : B ≤ w.heap.size) {S : Nat → Prop} (hm : Mod S w w') (hS : ∀ ad, A = some ad → ¬ S ad.block) :
    ∃ ad x, A = some ad ∧ zs[i]? = some x ∧ w'.cell? (ad.add i) = some (.int k x) := by
  obtain ⟨ad, e, hb, hc⟩ := h.2 (by omega)
  have hl : i < zs.length := by have := h.1; omega
  refine ⟨ad, zs[i], e, List.getElem?_eq_getElem hl, ?_⟩
  rw [hm.cell (a := ad.add i) (by rw [addr_block]; omega) (by rw [addr_block]; exact hS _ e)]
  exact hc i _ (List.getElem?_eq_getElem hl)
section
variable {w0 w w' : World} {g N len : Nat} {row : Option Nat} {fs bs : List (Nat × Nat)}
end
end Go.Proofs.Ytcoajldhhimmoaa

/- Differences, and rows of times, are told: put, Encode. -/
namespace Go.Proofs.Ytcoajldhhimmoaa
open Go.RowKit

end Go.Proofs.Ytcoajldhhimmoaa

/- Rows of times are read: Decode. -/
namespace Go.Proofs.Ytcoajldhhimmoaa
open Go.RowKit

def cellsI (xs : List Int) : List Value := xs.map fun x => Value.int .i64 x
theorem cellsI_length (xs : List Int) : (cellsI xs).length = xs.length := by simp [cellsI]
theorem cellsI_get (xs : List Int) (i : Nat) : (cellsI xs)[i]? = xs[i]?.map fun x => Value.int .i64 x := by simp [cellsI]
end Go.Proofs.Ytcoajldhhimmoaa

/- A row of samples as its times and its values: parted; and joined again. -/
namespace Go.Proofs.Ytcoajldhhimmoaa
open Go.RowKit

theorem Own.at_set {B g n cap k : Nat} {w : World} {e : TypeId} {xs : List Value} (h : Own B w e (.slice (some ⟨g, 0, none⟩) n cap) xs) (hn : n = xs.length) (hk : k < n) (u : Value) :
    (∃ u, w.cell? ⟨g, k, none⟩ = some u) ∧ w.frozen? ⟨g, k, none⟩ = false ∧ Own B (w.setCell ⟨g, k, none⟩ u) e (.slice (some ⟨g, 0, none⟩) n cap) (xs.set k u) := by
  have h' : w.ownsRow B e 1 (.slice (some ⟨g, 0, none⟩) n cap) n xs := by have := h; unfold Own at this; rwa [← hn] at this
  refine ⟨⟨xs[k]'(by omega), ?_⟩, h'.frozenAt k, ?_⟩
  · rw [h'.cellAt k (by omega), List.getElem?_eq_getElem (by omega)]
  · have h2 := (h'.stored k u).1
    unfold Own
    rw [List.length_set, ← hn]
    exact h2
theorem Own.other {B g n cap : Nat} {w : World} {e : TypeId} {xs : List Value} (h : Own B w e (.slice (some ⟨g, 0, none⟩) n cap) xs) {p : Addr} (hp : p.block ≠ g) (u : Value) : Own B (w.setCell p u) e (.slice (some ⟨g, 0, none⟩) n cap) xs :=
  ((Mod.refl (fun i => i = p.block) w).setCell (fun _ => rfl) u).owns h (fun k hk e' => by
    have : g = k := by simpa [Value.ownBlock] using hk
    exact hp (by rw [← e', this]))
theorem SeesI.rds {w : World} {B n : Nat} {A : Option Addr} {zs : List Int} (h : SeesI .i64 w B A n zs) : Rds w B A n (cellsI zs) := by
  refine ⟨by rw [cellsI_length]; exact h.1, fun hn => ?_⟩
  obtain ⟨ad, e, hb, hc⟩ := h.2 hn
  refine ⟨ad, e, hb, fun j u hu => ?_⟩
  rw [cellsI_get] at hu
  cases hz : zs[j]? with
  | none => rw [hz] at hu; cases hu
  | some z =>
    rw [hz] at hu
    have : u = .int .i64 z := by simpa using hu.symm
    rw [this]
    exact hc j z hz
/-- The first i times and values are laid. -/
def PartTo (w wr : World) (l : List (Int × Nat)) (n g1 g2 i : Nat) : Prop :=
  ∃ (ts : List Int) (us : List Nat), Own w.heap.size wr 2 (.slice (some ⟨g1, 0, none⟩) n n) (cellsI ts) ∧ Own w.heap.size wr 29 (.slice (some ⟨g2, 0, none⟩) n n) (cellsU us) ∧
    ts.length = n ∧ us.length = n ∧ (∀ j, j < i → ts[j]? = (tsOf l)[j]?) ∧ (∀ j, j < i → us[j]? = (vsOf l)[j]?) ∧ Mod (fun _ => False) w wr
theorem mod_new {w wr : World} {p : Addr} (h : Mod (fun _ => False) w wr) (hp : w.heap.size ≤ p.block) (u : Value) : Mod (fun _ => False) w (wr.setCell p u) := h.setCell (fun hlt => by omega) u
theorem PartTo.step {w wr : World} {l : List (Int × Nat)} {n g1 g2 i : Nat} {T : Int} {V : Nat} (h : PartTo w wr l n g1 g2 i) (hg : g1 ≠ g2) (hi : i < n) (hp : l[i]? = some (T, V)) {W : World} (hW : ∃ o, W = wr.alloc o) :
    (∃ u, W.cell? ⟨g1, i, none⟩ = some u) ∧ (∃ u, W.cell? ⟨g2, i, none⟩ = some u) ∧ W.frozen? ⟨g1, i, none⟩ = false ∧ W.frozen? ⟨g2, i, none⟩ = false ∧ g1 < wr.heap.size ∧ g2 < wr.heap.size ∧
      PartTo w ((W.setCell ⟨g1, i, none⟩ (.int .i64 T)).setCell ⟨g2, i, none⟩ (.int .u64 (V : Int))) l n g1 g2 (i + 1) := by
  obtain ⟨ts, us, h1, h2, h3, h4, h5, h6, hm⟩ := h
  obtain ⟨o, rfl⟩ := hW
  have k1 := h1.alloc o
  have k2 := h2.alloc o
  have b1 := (h1.block g1 (by simp [Value.ownBlock]))
  have b2 := (h2.block g2 (by simp [Value.ownBlock]))
  obtain ⟨a1, a2, a3⟩ := k1.at_set (k := i) (by rw [cellsI_length, h3]) hi (.int .i64 T)
  obtain ⟨c1, c2, _⟩ := k2.at_set (k := i) (by rw [cellsU_length, h4]) hi (.int .u64 (V : Int))
  refine ⟨a1, c1, a2, c2, b1.2, b2.2, ⟨ts.set i T, us.set i V, ?_, ?_, by rw [List.length_set]; exact h3, by rw [List.length_set]; exact h4, ?_, ?_, ?_⟩⟩
  · have e : cellsI (ts.set i T) = (cellsI ts).set i (.int .i64 T) := by simp [cellsI, List.map_set]
    rw [e]
    have a4 : Own w.heap.size ((wr.alloc o).setCell ⟨g1, i, none⟩ (.int .i64 T)) 2 (.slice (some ⟨g1, 0, none⟩) n n) ((cellsI ts).set i (.int .i64 T)) := a3
    exact a4.other (p := ⟨g2, i, none⟩) (fun e => hg e.symm) _
  · have e : cellsU (us.set i V) = (cellsU us).set i (.int .u64 (V : Int)) := by simp [cellsU, List.map_set]
    rw [e]
    have k3 : Own w.heap.size ((wr.alloc o).setCell ⟨g1, i, none⟩ (.int .i64 T)) 29 (.slice (some ⟨g2, 0, none⟩) n n) (cellsU us) := k2.other (p := ⟨g1, i, none⟩) hg _
    exact (k3.at_set (k := i) (by rw [cellsU_length, h4]) hi (.int .u64 (V : Int))).2.2
  · intro j hj
    rcases Nat.lt_or_ge j i with h | h
    · rw [List.getElem?_set_ne (by omega)]
      exact h5 j h
    · obtain rfl : j = i := by omega
      rw [List.getElem?_set_self (by omega), ts_get hp]
  · intro j hj
    rcases Nat.lt_or_ge j i with h | h
    · rw [List.getElem?_set_ne (by omega)]
      exact h6 j h
    · obtain rfl : j = i := by omega
      rw [List.getElem?_set_self (by omega), vs_get hp]
  · exact mod_new (mod_new (hm.alloc o) b1.1 _) b2.1 _
theorem PartTo.drew {w wr : World} {l : List (Int × Nat)} {n g1 g2 i : Nat} (h : PartTo w wr l n g1 g2 i) : PartTo w wr.drew l n g1 g2 i := by
  obtain ⟨ts, us, h1, h2, h3, h4, h5, h6, hm⟩ := h
  exact ⟨ts, us, h1, h2, h3, h4, h5, h6, hm.drew⟩
theorem PartTo.done {w wr : World} {l : List (Int × Nat)} {n g1 g2 : Nat} (h : PartTo w wr l n g1 g2 n) (hl : l.length = n) :
    Rds wr wr.heap.size (some ⟨g1, 0, none⟩) n (cellsI (tsOf l)) ∧ Rds wr wr.heap.size (some ⟨g2, 0, none⟩) n (cellsU (vsOf l)) ∧ w.heap.size ≤ g1 ∧ w.heap.size ≤ g2 ∧ Mod (fun _ => False) w wr := by
  obtain ⟨ts, us, h1, h2, h3, h4, h5, h6, hm⟩ := h
  have e1 : ts = tsOf l := List.ext_getElem? fun j => by
    rcases Nat.lt_or_ge j n with h | h
    · exact h5 j h
    · rw [List.getElem?_eq_none (by omega), List.getElem?_eq_none (by rw [tsOf_len]; omega)]
  have e2 : us = vsOf l := List.ext_getElem? fun j => by
    rcases Nat.lt_or_ge j n with h | h
    · exact h6 j h
    · rw [List.getElem?_eq_none (by omega), List.getElem?_eq_none (by rw [vsOf_len]; omega)]
  subst e1 e2
  have b1 := (h1.block g1 (by simp [Value.ownBlock]))
  have b2 := (h2.block g2 (by simp [Value.ownBlock]))
  have r1 := h1.form
  have r2 := h2.form
  obtain ⟨A, c, e, _, _, _, r⟩ := r1
  obtain ⟨A', c', e', _, _, _, r'⟩ := r2
  injection e with x1 x2 x3
  injection e' with y1 y2 y3
  subst x1 y1
  rw [← x2] at r
  rw [← y2] at r'
  exact ⟨r, r', b1.1, b2.1, hm⟩
/-- The first i samples are laid. -/
def JoinTo (w wr : World) (ts : List Int) (us : List Nat) (n g i : Nat) : Prop :=
  ∃ l : List (Int × Nat), OwnS w.heap.size wr (.slice (some ⟨g, 0, none⟩) n n) l ∧ l.length = n ∧ (∀ j, j < i → l[j]? = (ts.zip us)[j]?) ∧ Mod (fun _ => False) w wr
theorem JoinTo.step {w wr : World} {ts : List Int} {us : List Nat} {n g i : Nat} {T : Int} {V : Nat} (h : JoinTo w wr ts us n g i) (hi : i < n) (h1 : ts[i]? = some T) (h2 : us[i]? = some V) :
    (∃ u, wr.cell? ⟨g, i * 2, none⟩ = some u) ∧ (∃ u, wr.cell? ⟨g, i * 2 + 1, none⟩ = some u) ∧ wr.frozen? ⟨g, i * 2, none⟩ = false ∧ wr.frozen? ⟨g, i * 2 + 1, none⟩ = false ∧ w.heap.size ≤ g ∧ g < wr.heap.size ∧
      JoinTo w ((wr.setCell ⟨g, i * 2, none⟩ (.int .i64 T)).setCell ⟨g, i * 2 + 1, none⟩ (.int .u64 (V : Int))) ts us n g (i + 1) := by
  obtain ⟨l, k1, k2, k3, hm⟩ := h
  have b1 := k1.block g (by simp [Value.ownBlock])
  obtain ⟨a1, a2, a3, a4, a5⟩ := k1.set_ (k := i) k2.symm hi (T, V)
  refine ⟨a1, a2, a3, a4, b1.1, b1.2, l.set i (T, V), a5, by rw [List.length_set]; exact k2, ?_, mod_new (mod_new hm b1.1 _) b1.1 _⟩
  intro j hj
  rcases Nat.lt_or_ge j i with h | h
  · rw [List.getElem?_set_ne (by omega)]
    exact k3 j h
  · obtain rfl : j = i := by omega
    rw [List.getElem?_set_self (by omega), (List.getElem?_zip_eq_some (z := (T, V))).2 ⟨h1, h2⟩]
theorem JoinTo.drew {w wr : World} {ts : List Int} {us : List Nat} {n g i : Nat} (h : JoinTo w wr ts us n g i) : JoinTo w wr.drew ts us n g i := by
  obtain ⟨l, h1, h2, h3, hm⟩ := h
  exact ⟨l, h1, h2, h3, hm.drew⟩
theorem JoinTo.done {w wr : World} {ts : List Int} {us : List Nat} {n g : Nat} (h : JoinTo w wr ts us n g n) (h1 : ts.length = n) (h2 : us.length = n) :
    OwnS w.heap.size wr (.slice (some ⟨g, 0, none⟩) n n) (ts.zip us) ∧ Mod (fun _ => False) w wr := by
  obtain ⟨l, k1, k2, k3, hm⟩ := h
  have e1 : l = ts.zip us := List.ext_getElem? fun j => by
    rcases Nat.lt_or_ge j n with h | h
    · exact k3 j h
    · rw [List.getElem?_eq_none (by omega), List.getElem?_eq_none (by rw [List.length_zip]; omega)]
  subst e1
  exact ⟨k1, hm⟩
end Go.Proofs.Ytcoajldhhimmoaa

/- Chunks, of the code: getHead. -/
namespace Go.Proofs.Ytcoajldhhimmoaa
open Go.RowKit

end Go.Proofs.Ytcoajldhhimmoaa

/- Rows of numbers of so many bits each: what a writer of its own has been told of them; what Bytes makes of it (parted from Encode of layer 8). -/
namespace Go.Proofs.Ytcoajldhhimmoaa
open Go.RowKit

/-- A row that another call has made, as bytes that read. -/
theorem NewRow.rds {w w1 : World} {v : Value} {n : Nat} {bs : List Nat} (h : NewRow w w1 v n (cells8 bs)) : ∃ A c, v = .slice A n c ∧ Rds w1 w1.heap.size A n (cells8 bs) ∧ Mod (fun _ => False) w w1 := by
  obtain ⟨hown, hm, _⟩ := h
  have hn : bs.length = n := by have := hown.1; rw [cells8_length] at this; omega
  have ho : Own 0 w1 5 v (cells8 bs) := by unfold Own; rw [cells8_length, hn]; exact hown
  obtain ⟨A, c, e, _, _, hr⟩ := own_form8 ho
  rw [hn] at e hr
  exact ⟨A, c, e, hr, hm⟩
theorem Packed.packW {bs : List Nat} {S : Nat} {l : List Nat} (h : Packed bs (fnum (flds S l)) (flen (flds S l))) : bs = packW S l := by
  obtain ⟨hlt, free, hf, hl, hv⟩ := h
  exact packW_one hlt hf hl hv
end Go.Proofs.Ytcoajldhhimmoaa

/- The times of a row, as bytes behind how many these are: putTimes. -/
namespace Go.Proofs.Ytcoajldhhimmoaa
open Go.RowKit

theorem Packed.packF {bs : List Nat} {fs : List (Nat × Nat)} (h : Packed bs (fnum fs) (flen fs)) : bs = packF fs := by
  obtain ⟨hlt, free, hf, hl, hv⟩ := h
  exact packB_one (fnum_lt fs) hlt hf hl hv
end Go.Proofs.Ytcoajldhhimmoaa

/- Values are told by a list of those that are unlike: putList, Encode. -/
namespace Go.Proofs.Ytcoajldhhimmoaa
open Go.RowKit Go.Maps

end Go.Proofs.Ytcoajldhhimmoaa

/- Values are told by their least: Encode. -/
namespace Go.Proofs.Ytcoajldhhimmoaa
open Go.RowKit

end Go.Proofs.Ytcoajldhhimmoaa

/- How many 0s a number has ahead and behind, as math/bits tells it; the window's own calls. -/
namespace Go.Proofs.Ytcoajldhhimmoaa
open Go.RowKit

def winA : Option (Nat × Nat) → Nat
  | none => 0
  | some (a, _) => a
def winS : Option (Nat × Nat) → Nat
  | none => 0
  | some (a, b) => 64 - a - b
theorem win_bounds {win : Option (Nat × Nat)} (h : WinOk win) : winA win ≤ 31 ∧ winS win ≤ 64 ∧ winA win + winS win ≤ 64 := by
  cases win with
  | none => exact ⟨Nat.zero_le _, Nat.zero_le _, Nat.zero_le _⟩
  | some p =>
    obtain ⟨a, b⟩ := p
    obtain ⟨h1, h2⟩ := h
    refine ⟨h1, ?_, ?_⟩
    · show 64 - a - b ≤ 64; omega
    · show a + (64 - a - b) ≤ 64; omega
end Go.Proofs.Ytcoajldhhimmoaa

/- A turn, and rows of values, are told: put, Encode. -/
namespace Go.Proofs.Ytcoajldhhimmoaa
open Go.RowKit

end Go.Proofs.Ytcoajldhhimmoaa

/- Rows of values are told: Encode. -/
namespace Go.Proofs.Ytcoajldhhimmoaa
open Go.RowKit

end Go.Proofs.Ytcoajldhhimmoaa

/- Values told in each codec: putSimple, putSame, putValues. -/
namespace Go.Proofs.Ytcoajldhhimmoaa
open Go.RowKit

theorem last_take {us : List Nat} {i x : Nat} (h : us[i]? = some x) : (us.take (i + 1)).getLast?.getD 0 = x := by
  rw [take_succ_of h, List.getLast?_concat]
  rfl
theorem NewRow.own {w w1 : World} {v : Value} {bs : List Nat} (h : NewRow w w1 v bs.length (cells8 bs)) : Own w.heap.size w1 5 v (cells8 bs) := by
  obtain ⟨h1, _, h3⟩ := h
  unfold Own
  rw [cells8_length]
  refine ⟨h1.1, ?_⟩
  rcases h1.2 with hn | ⟨g, cap, cur, rfl, _, rest⟩
  · exact .inl hn
  · refine .inr ⟨g, cap, cur, rfl, ?_, rest⟩
    rcases h3 with h3 | ⟨r, h3, hr⟩
    · simp [Value.ownBlock] at h3
    · have : g = r := by simpa [Value.ownBlock] using h3
      omega
/-- The first i differences. -/
def StepTo (w wr : World) (us : List Nat) (i : Nat) (v : Value) (last : Nat) : Prop :=
  Own w.heap.size wr 29 v (cellsU (stepsU 0 (us.take i))) ∧ last = (us.take i).getLast?.getD 0 ∧ last < 2 ^ 64 ∧ Mod (fun _ => False) w wr
theorem StepTo.step {w wr w2 : World} {us : List Nat} {i x last : Nat} {v v2 : Value} {z : Int} (h : StepTo w wr us i v last) (hx : us[i]? = some x) (hx64 : x < 2 ^ 64) (hz : z = zig (sg ((x + M64 - last) % M64)))
    (ho : Own w.heap.size w2 29 v2 (cellsU (stepsU 0 (us.take i)) ++ [.int .u64 z])) (hb : Below w.heap.size wr w2) : StepTo w w2 us (i + 1) v2 x := by
  obtain ⟨_, h2, _, h4⟩ := h
  refine ⟨?_, (last_take hx).symm, hx64, h4.trans (Mod.of_below hb) (fun i hi h => by omega)⟩
  rw [take_succ_of hx, stepsU_snoc, ← h2, cellsU_snoc, stepU_int, ← hz]
  exact ho
end Go.Proofs.Ytcoajldhhimmoaa

/- Values told in a codec: putValues. -/
namespace Go.Proofs.Ytcoajldhhimmoaa
open Go.RowKit

theorem EncB.of_own {w w' : World} {bs : List Nat} {v : Value} (h : Own w.heap.size w' 5 v (cells8 bs)) (hm : Mod (fun _ => False) w w') : EncB w w' (some bs) (.returned (.tuple #[v, .bool true])) := ⟨v, rfl, h, hm⟩
end Go.Proofs.Ytcoajldhhimmoaa

/- A row of samples told in a codec: Encode. -/
namespace Go.Proofs.Ytcoajldhhimmoaa
open Go.RowKit

end Go.Proofs.Ytcoajldhhimmoaa

/- The times that bytes begin with, and what is behind them: getTimes. -/
namespace Go.Proofs.Ytcoajldhhimmoaa
open Go.RowKit

def GetT (w w' : World) (o : Option (List Int × List Nat)) (e : Ending) : Prop :=
  match o with
  | some (ts, rest) => ∃ A1 c1 A2 c2, e = .returned (.tuple #[.slice A1 ts.length c1, .slice A2 rest.length c2, .bool true]) ∧ A2 ≠ none ∧ rest.length ≤ c2 ∧ c2 ≤ maxLen ∧ Rds w' w'.heap.size A1 ts.length (cellsI ts) ∧ Rds w' w.heap.size A2 rest.length (cells8 rest) ∧ Mod (fun _ => False) w w'
  | none => ∃ v1 v2, e = .returned (.tuple #[v1, v2, .bool false]) ∧ Mod (fun _ => False) w w'
theorem GetT.some_ {w w' : World} {o : Option (List Int × List Nat)} {ts : List Int} {rest : List Nat} {e : Ending} (h : GetT w w' o e) (ho : o = some (ts, rest)) :
    ∃ A1 c1 A2 c2, e = .returned (.tuple #[.slice A1 ts.length c1, .slice A2 rest.length c2, .bool true]) ∧ A2 ≠ none ∧ rest.length ≤ c2 ∧ c2 ≤ maxLen ∧ Rds w' w'.heap.size A1 ts.length (cellsI ts) ∧ Rds w' w.heap.size A2 rest.length (cells8 rest) ∧ Mod (fun _ => False) w w' := by
  subst ho
  exact h
theorem GetT.none_ {w w' : World} {o : Option (List Int × List Nat)} {e : Ending} (h : GetT w w' o e) (ho : o = none) : ∃ v1 v2, e = .returned (.tuple #[v1, v2, .bool false]) ∧ Mod (fun _ => False) w w' := by
  subst ho
  exact h
end Go.Proofs.Ytcoajldhhimmoaa

/- The document's own: numbers of so many bits each are packed behind bytes, and unpacked. -/
namespace Go.Proofs.Ytcoajldhhimmoaa
open Go.RowKit

end Go.Proofs.Ytcoajldhhimmoaa

/- Bytes are read as values by their list: read, Decode. -/
namespace Go.Proofs.Ytcoajldhhimmoaa
open Go.RowKit Go.Maps

end Go.Proofs.Ytcoajldhhimmoaa

/- Bytes are read as values by their least: read, Decode. -/
namespace Go.Proofs.Ytcoajldhhimmoaa
open Go.RowKit

end Go.Proofs.Ytcoajldhhimmoaa

/- A turn is read: get. -/
namespace Go.Proofs.Ytcoajldhhimmoaa
open Go.RowKit

/-- Behind the window's own bits: which window is told, and whether anew. -/
def Mid (win s : Option (Nat × Nat)) (a z : Nat) (fresh : Bool) (s' : Option (Nat × Nat)) : Prop :=
  (getO 1 s).1 ≠ 0 ∧ ((fresh = false ∧ (getO 1 (getO 1 s).2).1 = 0 ∧ a = winA win ∧ z = winS win ∧ s' = (getO 1 (getO 1 s).2).2) ∨
    (fresh = true ∧ (getO 1 (getO 1 s).2).1 ≠ 0 ∧ a = (getO 5 (getO 1 (getO 1 s).2).2).1 ∧ z = (getO 6 (getO 5 (getO 1 (getO 1 s).2).2).2).1 + 1 ∧ s' = (getO 6 (getO 5 (getO 1 (getO 1 s).2).2).2).2))
section
variable {win s s' : Option (Nat × Nat)} {a z : Nat} {fresh : Bool}
theorem Mid.bounds (h : Mid win s a z fresh s') (hs : SmallO s) (hw : WinOk win) : a ≤ 31 ∧ z ≤ 64 ∧ SmallO s' := by
  obtain ⟨_, ⟨_, _, h1, h2, h3⟩ | ⟨_, _, h1, h2, h3⟩⟩ := h
  · have := win_bounds hw
    exact ⟨by omega, by omega, h3 ▸ (hs.get 1).get 1⟩
  · have e1 := ((hs.get 1).get 1).lt 5
    have e2 := (((hs.get 1).get 1).get 5).lt 6
    exact ⟨by omega, by omega, h3 ▸ (((hs.get 1).get 1).get 5).get 6⟩
theorem Mid.far (h : Mid win s a z fresh s') (hw : WinOk win) (hf : 64 < a + z) : stO win s = none := by
  obtain ⟨h0, ⟨_, _, h1, h2, _⟩ | ⟨_, h1, h2, h3, _⟩⟩ := h
  · have := win_bounds hw
    omega
  · exact stO_far h0 h1 (by rw [← h2, ← h3]; exact hf)
end
end Go.Proofs.Ytcoajldhhimmoaa

/- Rows of values are read: Decode. -/
namespace Go.Proofs.Ytcoajldhhimmoaa
open Go.RowKit

end Go.Proofs.Ytcoajldhhimmoaa

/- Values read in each codec: getSimple, getSame, getValues. -/
namespace Go.Proofs.Ytcoajldhhimmoaa
open Go.RowKit

/-- Differences turned into values, as far as i. -/
def BackTo (w wr : World) (us : List Nat) (A : Option Addr) (L c i last : Nat) : Prop :=
  Own w.heap.size wr 29 (.slice A L c) (cellsU (unstepsU 0 (us.take i) ++ us.drop i)) ∧ last = (unstepsU 0 (us.take i)).getLast?.getD 0 ∧ last < 2 ^ 64 ∧ Mod (fun _ => False) w wr
theorem BackTo.step {w wr : World} {us : List Nat} {A : Option Addr} {L c i last u : Nat} (h : BackTo w wr us A L c i last) (hL : us.length = L) (hi : i < L) (hu : us[i]? = some u) :
    ∃ g, A = some ⟨g, 0, none⟩ ∧ w.heap.size ≤ g ∧ wr.cell? ⟨g, i, none⟩ = some (.int .u64 (u : Int)) ∧ wr.frozen? ⟨g, i, none⟩ = false ∧ BackTo w (wr.setCell ⟨g, i, none⟩ (.int .u64 (backU last u : Int))) us A L c (i + 1) (backU last u) := by
  obtain ⟨h1, h2, h3, h4⟩ := h
  have hlen : (unstepsU 0 (us.take i) ++ us.drop i).length = L := by rw [List.length_append, unstepsU_len, List.length_take, List.length_drop]; omega
  obtain ⟨g, cap, hv, hgB, _⟩ := h1.form' (by rw [cellsU_length, hlen]; omega)
  have hA : A = some ⟨g, 0, none⟩ := by injection hv
  subst hA
  have ht : (us.take i).length = i := by rw [List.length_take]; omega
  obtain ⟨a1, a2, a3⟩ := own_setU (k := i) (b := backU last u) h1 hlen.symm hi
  have hc := h1.cell' rfl i (by rw [cellsU_length, hlen]; exact hi)
  have hget : (unstepsU 0 (us.take i) ++ us.drop i)[i]? = some u := by
    rw [List.getElem?_append_right (by rw [unstepsU_len]; omega), unstepsU_len, ht, Nat.sub_self, List.getElem?_drop, Nat.add_zero]
    exact hu
  refine ⟨g, rfl, hgB, ?_, a2, ?_, ?_, backU_lt _ _, mod_new h4 hgB _⟩
  · rw [hc, cellsU_get, hget]
    rfl
  · have e : (unstepsU 0 (us.take i) ++ us.drop i).set i (backU last u) = unstepsU 0 (us.take (i + 1)) ++ us.drop (i + 1) := by
      rw [List.set_append_right _ _ (by rw [unstepsU_len]; omega), unstepsU_len, ht, Nat.sub_self, drop_at' hu, List.set_cons_zero, take_succ_of hu, unstepsU_snoc, ← h2, List.append_assoc]
      rfl
    rw [e] at a3
    exact a3
  · rw [take_succ_of hu, unstepsU_snoc, ← h2, List.getLast?_concat]
    rfl
theorem EncE.of_own {w w' : World} {us : List Nat} {v : Value} (h : Own w.heap.size w' 29 v (cellsU us)) (hm : Mod (fun _ => False) w w') : EncE w w' (some us) (.returned (.tuple #[v, .bool true])) := ⟨v, rfl, h, hm⟩
end Go.Proofs.Ytcoajldhhimmoaa

/- Values read in a codec: getSame, getValues. -/
namespace Go.Proofs.Ytcoajldhhimmoaa
open Go.RowKit

end Go.Proofs.Ytcoajldhhimmoaa

/- A row of samples read in a codec: read, Decode. -/
namespace Go.Proofs.Ytcoajldhhimmoaa
open Go.RowKit

/-- A row of samples and true, or nil and false. -/
def EncS (w w' : World) (o : Option (List (Int × Nat))) (e : Ending) : Prop :=
  match o with
  | some l => ∃ v, e = .returned (.tuple #[v, .bool true]) ∧ OwnS w.heap.size w' v l ∧ Mod (fun _ => False) w w'
  | none => e = .returned (.tuple #[.slice none 0 0, .bool false]) ∧ Mod (fun _ => False) w w'
theorem EncS.some_ {w w' : World} {o : Option (List (Int × Nat))} {l : List (Int × Nat)} {e : Ending} (h : EncS w w' o e) (ho : o = some l) : ∃ v, e = .returned (.tuple #[v, .bool true]) ∧ OwnS w.heap.size w' v l ∧ Mod (fun _ => False) w w' := by
  subst ho
  exact h
theorem EncS.none_ {w w' : World} {o : Option (List (Int × Nat))} {e : Ending} (h : EncS w w' o e) (ho : o = none) : e = .returned (.tuple #[.slice none 0 0, .bool false]) ∧ Mod (fun _ => False) w w' := by
  subst ho
  exact h
/-- As a row and a bool. -/
theorem EncS.any {w w' : World} {o : Option (List (Int × Nat))} {e : Ending} (h : EncS w w' o e) : ∃ (A : Option Addr) (c : Nat), e = .returned (.tuple #[.slice A (o.getD []).length c, .bool o.isSome]) ∧ RdsS w' w'.heap.size A (o.getD []).length (o.getD []) ∧ Mod (fun _ => False) w w' := by
  cases o with
  | none => obtain ⟨rfl, hm⟩ := h; exact ⟨none, 0, rfl, RdsS.nil _ _ _, hm⟩
  | some l =>
    obtain ⟨v, rfl, ho, hm⟩ := h
    obtain ⟨A, c, rfl, _, _, hr⟩ := ho.form
    exact ⟨A, c, rfl, hr, hm⟩
end Go.Proofs.Ytcoajldhhimmoaa

/- Chunks, of the code: Open. -/
namespace Go.Proofs.Ytcoajldhhimmoaa
open Go.RowKit

/-- What Open answers. -/
def EncO (w w' : World) (o : Option (List (Int × Nat) × Nat)) (e : Ending) : Prop :=
  match o with
  | some (l, t) => ∃ v, e = .returned (.tuple #[v, .int .i64 (t : Int), .bool true]) ∧ OwnS w.heap.size w' v l ∧ Mod (fun _ => False) w w'
  | none => e = .returned (.tuple #[.slice none 0 0, .int .i64 0, .bool false]) ∧ Mod (fun _ => False) w w'
theorem EncO.some_ {w w' : World} {o : Option (List (Int × Nat) × Nat)} {l : List (Int × Nat)} {t : Nat} {e : Ending} (h : EncO w w' o e) (ho : o = some (l, t)) : ∃ v, e = .returned (.tuple #[v, .int .i64 (t : Int), .bool true]) ∧ OwnS w.heap.size w' v l ∧ Mod (fun _ => False) w w' := by
  rw [ho] at h
  exact h
theorem EncO.none_ {w w' : World} {o : Option (List (Int × Nat) × Nat)} {e : Ending} (h : EncO w w' o e) (ho : o = none) : e = .returned (.tuple #[.slice none 0 0, .int .i64 0, .bool false]) ∧ Mod (fun _ => False) w w' := by
  rw [ho] at h
  exact h
theorem EncO.any {w w' : World} {o : Option (List (Int × Nat) × Nat)} {e : Ending} (h : EncO w w' o e) : ∃ (A : Option Addr) (c : Nat), e = .returned (.tuple #[.slice A ((o.map (·.1)).getD []).length c, .int .i64 (((o.map (·.2)).getD 0 : Nat) : Int), .bool o.isSome]) ∧ RdsS w' w'.heap.size A ((o.map (·.1)).getD []).length ((o.map (·.1)).getD []) ∧ Mod (fun _ => False) w w' := by
  cases o with
  | none =>
    obtain ⟨rfl, hm⟩ := h
    exact ⟨none, 0, rfl, RdsS.nil _ _ _, hm⟩
  | some p =>
    obtain ⟨v, rfl, ho, hm⟩ := h
    obtain ⟨A, c, rfl, _, _, hr⟩ := ho.form
    exact ⟨A, c, rfl, hr, hm⟩
end Go.Proofs.Ytcoajldhhimmoaa

/- Work by steps, of the code: what a task is in memory; a row copied; newTask, step, done, bad. -/
namespace Go.Proofs.Ytcoajldhhimmoaa
open Go.RowKit

/-- Samples as elements of two cells. -/
def rowsS (l : List (Int × Nat)) : List (List Value) := l.map fun p => [Value.int .i64 p.1, Value.int .u64 (p.2 : Int)]
theorem rowsS_flat (l : List (Int × Nat)) : (rowsS l).flatten = cellsS l := by simp [rowsS, cellsS, List.flatMap_def]
theorem rowsS_len (l : List (Int × Nat)) : (rowsS l).length = l.length := by simp [rowsS]
theorem rowsS_all (l : List (Int × Nat)) : AllK 2 (rowsS l) := by
  intro r hr
  simp only [rowsS, List.mem_map] at hr
  obtain ⟨p, _, rfl⟩ := hr
  rfl
theorem RdsS.toK {w : World} {B n : Nat} {A : Option Addr} {l : List (Int × Nat)} (h : RdsS w B A n l) : RdsK 2 w B A n (rowsS l) := ⟨by rw [rowsS_len, h.1], rowsS_all l, by rw [rowsS_flat]; exact h.2⟩
theorem OwnK.toS {w : World} {B : Nat} {v : Value} {l : List (Int × Nat)} (h : OwnK 2 B w 31 v (rowsS l)) : OwnS B w v l := by
  have := h.2
  rw [rowsS_len, rowsS_flat] at this
  exact this
theorem eltS2 : EltK Try.prog 22 31 (.agg #[.int .i64 0, .int .u64 0]) 2 16 := EltK.mk Try.underlying22 infoS rfl (by decide)
theorem own_litK {K B : Nat} {w : World} {e : TypeId} (hB : B ≤ w.heap.size) : OwnK K B (w.alloc (.cells #[] e)) e (.slice (some ⟨w.heap.size, 0, none⟩) 0 0) [] := by
  refine ⟨AllK.nil K, ?_⟩
  refine ⟨by simp, .inr ⟨w.heap.size, 0, #[], rfl, hB, heap_alloc_new w _, Nat.le_refl _, Nat.zero_le _, by simp, by simp⟩⟩

/-- A struct of three cells is written. -/
theorem Blk.three {w : World} {g : Nat} {t : TypeId} {c0 c1 c2 : Value} (h : Blk w g t #[c0, c1, c2]) (a b c : Value) :
    (((w.setCell ⟨g, 0, none⟩ a).setCell ⟨g, 1, none⟩ b).setCell ⟨g, 2, none⟩ c).cell? ⟨g, 0, none⟩ = some a ∧ (((w.setCell ⟨g, 0, none⟩ a).setCell ⟨g, 1, none⟩ b).setCell ⟨g, 2, none⟩ c).cell? ⟨g, 1, none⟩ = some b ∧
    (((w.setCell ⟨g, 0, none⟩ a).setCell ⟨g, 1, none⟩ b).setCell ⟨g, 2, none⟩ c).cell? ⟨g, 2, none⟩ = some c ∧
    Blk (((w.setCell ⟨g, 0, none⟩ a).setCell ⟨g, 1, none⟩ b).setCell ⟨g, 2, none⟩ c) g t #[a, b, c] := by
  have h3 : Blk (((w.setCell ⟨g, 0, none⟩ a).setCell ⟨g, 1, none⟩ b).setCell ⟨g, 2, none⟩ c) g t #[a, b, c] := by
    have := ((h.set_ 0 a).set_ 1 b).set_ 2 c
    simpa using this
  refine ⟨?_, ?_, ?_, h3⟩
  · have := h3.cell 0; simpa using this
  · have := h3.cell 1; simpa using this
  · have := h3.cell 2; simpa using this
theorem Mod.three_new {w w' : World} {g : Nat} (h : Mod (fun _ => False) w w') (hg : w.heap.size ≤ g) (a b c : Value) : Mod (fun _ => False) w (((w'.setCell ⟨g, 0, none⟩ a).setCell ⟨g, 1, none⟩ b).setCell ⟨g, 2, none⟩ c) :=
  ((h.setCell (fun hlt => absurd hlt (by simp; omega)) a).setCell (fun hlt => absurd hlt (by simp; omega)) b).setCell (fun hlt => absurd hlt (by simp; omega)) c

end Go.Proofs.Ytcoajldhhimmoaa

/- Samples that come (13.1): what an open list is, and what comes of it; rows of samples copied. -/
namespace Go.Proofs.Ytcoajldhhimmoaa
open Go.RowKit

/-- Whether one has ever come, the last one's time, those that are in no chunk yet. -/
structure OpnN where
  any : Bool
  last : Int
  list : List (Int × Nat)
/-- Is p refused? -/
def noN (o : OpnN) (p : Int × Nat) : Bool := o.any && decide (p.1 ≤ o.last)
def addN (o : OpnN) (p : Int × Nat) : OpnN := if noN o p then o else ⟨true, p.1, o.list ++ [p]⟩
def errN (o : OpnN) (p : Int × Nat) : Int := if noN o p then 1 else 0
theorem addN_no {o : OpnN} {p : Int × Nat} (h : noN o p = true) : addN o p = o := by simp [addN, h]
theorem errN_no {o : OpnN} {p : Int × Nat} (h : noN o p = true) : errN o p = 1 := by simp [errN, h]
/-- The chunk that an open list is closed to; nothing of none. -/
def chkN (o : OpnN) : List Nat := (makeC 1 o.list).getD []
/-- What is answered: an open list whose row is the call's own, and an error. -/
def OpnEnd (w w' : World) (o : OpnN) (x : Int) (e : Ending) : Prop := ∃ v, e = .returned (.tuple #[.agg #[.bool o.any, .int .i64 o.last, v], .int .i64 x]) ∧ OwnS w.heap.size w' v o.list ∧ Mod (fun _ => False) w w'

theorem OpnEnd.no {w w' : World} {b : Bool} {t T : Int} {l : List (Int × Nat)} {V : Nat} {e : Ending} (h : OpnEnd w w' (addN ⟨b, t, l⟩ (T, V)) (errN ⟨b, t, l⟩ (T, V)) e) (hno : noN ⟨b, t, l⟩ (T, V) = true) :
    ∃ v, e = .returned (.tuple #[.agg #[.bool b, .int .i64 t, v], .int .i64 1]) ∧ OwnS w.heap.size w' v l ∧ Mod (fun _ => False) w w' := by
  rw [addN_no hno, errN_no hno] at h
  exact h
/-- .. bytes of the call's own, and the open list without its row. -/
def ShutEnd (w w' : World) (o : OpnN) (e : Ending) : Prop := ∃ v, e = .returned (.tuple #[v, .agg #[.bool o.any, .int .i64 o.last, .slice none 0 0]]) ∧ Own w.heap.size w' 5 v (cells8 (chkN o)) ∧ Mod (fun _ => False) w w'
theorem ShutEnd.drew {w w' : World} {o : OpnN} {e : Ending} (h : ShutEnd w w' o e) : ShutEnd w w'.drew o e := by
  obtain ⟨v, e1, h1, h2⟩ := h
  exact ⟨v, e1, h1.drew, h2.drew⟩
theorem EncB.bytes {w w' : World} {o : Option (List Nat)} {e : Ending} (h : EncB w w' o e) : ∃ v b, e = .returned (.tuple #[v, .bool b]) ∧ Own w.heap.size w' 5 v (cells8 (o.getD [])) ∧ Mod (fun _ => False) w w' := by
  cases ho : o with
  | none =>
    obtain ⟨rfl, hm⟩ := EncB.none_ h ho
    exact ⟨_, _, rfl, Own.nil _ _ _, hm⟩
  | some bs =>
    obtain ⟨v, rfl, hown, hm⟩ := EncB.some_ h ho
    exact ⟨v, _, rfl, hown, hm⟩
/-- append([]api.Sample(nil), l..) and append([]api.Sample{}, l..) -/
theorem oneS (l : List (Int × Nat)) : ∀ u ∈ (rowsS l).flatten, u.oneCell' = true := by rw [rowsS_flat]; exact cellsS_one _
theorem OwnK.nilS (B : Nat) (w : World) : OwnK 2 B w 31 (.slice none 0 0) [] := OwnK.nil _ _ _ _
end Go.Proofs.Ytcoajldhhimmoaa

/- append of one element of K cells, with what else turns; rows of samples. -/
namespace Go.Proofs.Ytcoajldhhimmoaa
open Go.RowKit
section
variable {P : Program} {w : World}
theorem wpList_appK1g {ops : Array Oper} {rest : List Oper} {o : Oper} {a : Act} {Q : Exit → Act → World → Prop} (hgd : o.guard = none) (s x : Operand) (t : TypeId)
    (ho : o.op = .call { callee := .builtin .append, args := #[s, x], argTypes := #[t, t] }) {e : TypeId} {z : Value} {K bytes : Nat} (hE : EltK P t e z K bytes)
    {B H : Nat} {v : Value} {rows : List (List Value)} {r : List Value} {te : TypeId} (hs : a.eval s = v) (hown : OwnK K B w e v rows) (hx : a.eval x = .slice (some ⟨H, 0, none⟩) 1 1) (hH : w.heap.size = H) (hrK : r.length = K) (h1 : ∀ u ∈ r, u.oneCell' = true)
    (hm : rows.length + 1 ≤ maxLen) (hb : (rows.length + 1) * bytes ≤ 140737488355328) (hB : B ≤ w.heap.size)
    (h : ∀ v' w', Hid (OwnK K B w' e v' (rows ++ [r])) → Hid (Mod (fun k => v.ownBlock = some k) w w') → Hid (v'.ownBlock = v.ownBlock ∨ ∃ k, v'.ownBlock = some k ∧ w.heap.size ≤ k) → wpList P ops Q rest (a.put o.dst v') w') : wpList P ops Q (o :: rest) a (w.alloc (.cells r.toArray te)) := by
  subst hH hrK
  refine wpList_appK hgd s x t ho hE hs (hown.alloc _) hx (RdsK.lit1 w te r) (by simpa using h1) hm hb (by simp; omega) ?_
  intro v' w' h2 _ h4
  refine h v' w' h2 (Lib.hid (((Mod.refl _ w).alloc _).grown h4.out.1 (fun k hk _ => hk))) (Lib.hid ?_)
  rcases h4.out.2 with h5 | h5
  · exact .inl h5
  · exact .inr ⟨_, h5, by simp⟩
end
theorem OwnS.toK {w : World} {B : Nat} {v : Value} {l : List (Int × Nat)} (h : OwnS B w v l) : OwnK 2 B w 31 v (rowsS l) := ⟨rowsS_all l, by rw [rowsS_len, rowsS_flat]; exact h⟩
end Go.Proofs.Ytcoajldhhimmoaa

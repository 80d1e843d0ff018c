/- The texts Bit0, Bitp, Bitq, Bitg, Bitw, Refw, Refb, Two, Refr, Play0, Conv, All4, Go, Xs, Xo, Sx, Cx, Cy, Kr, Ja, Bq, Jc, Te, Tw, Bok, Gok, Tg, Gw, Tp, Tr, Kp, Jd, Pn, Kt, De, Pe, Wz, Wp, We, Kv, Kw, Ke, Ku, Pp, Dr, Pr, Wg, Wd, Ky, Kz, Kd, Jf, Za, Am, Yda, Ydb, Yea, Yga, Yt, Yx, Oa, Seg, Dia, Dib, Dic, Did, Die, Dif, Dih, Diq, Dii, Dim, Ks, Ksb, Sopb, Dig, one behind the other. -/
import Derived.Test.YteegdbbmamabiaaMw1
import Derived.Test.YteegdbbmamabiaaRows
namespace Go.Proofs.Yteegdbbmamabiaa
open Go.RowKit

end Go.Proofs.Yteegdbbmamabiaa

namespace Go.Proofs.Yteegdbbmamabiaa
open Go.RowKit

def RowTo (w : World) (row row' : Option Nat) : Prop := row' = row ∨ ∃ r, row' = some r ∧ w.heap.size ≤ r

theorem RowTo.trans {w : World} {row row' row2 : Option Nat} {B : Nat} (h : RowTo w row row') (hB : w.heap.size ≤ B) (h2 : row2 = row' ∨ ∃ r, row2 = some r ∧ B ≤ r) : RowTo w row row2 := by
  rcases h2 with rfl | ⟨r, rfl, hr⟩
  · exact h
  · exact .inr ⟨r, rfl, by omega⟩
theorem RowTo.in_ {w : World} {row row' : Option Nat} (h : RowTo w row row') {k : Nat} (hk : row' = some k) (hlt : k < w.heap.size) : row = some k := by
  rcases h with rfl | ⟨r, rfl, hr⟩
  · exact hk
  · injection hk with hk; omega

end Go.Proofs.Yteegdbbmamabiaa

namespace Go.Proofs.Yteegdbbmamabiaa
open Go.RowKit

/-- What a call answers that makes a row of its own. -/
def NewRow (w w' : World) (v : Value) (n : Nat) (xs : List Value) : Prop :=
  w'.ownsRow 0 5 1 v n xs ∧ Mod (fun _ => False) w w' ∧ ((v.ownBlock = none) ∨ ∃ r, v.ownBlock = some r ∧ w.heap.size ≤ r)

def Packed (bs : List Nat) (N len : Nat) : Prop := lt256 bs ∧ ∃ free, free < 8 ∧ len + free = 8 * bs.length ∧ val bs = N * 2 ^ free

theorem NewRow.form {w w1 : World} {v : Value} {n : Nat} {bs : List Nat} (h : NewRow w w1 v n (cells8 bs)) :
    ∃ A c row, v = .slice A n c ∧ n ≤ c ∧ (A = none → c = 0) ∧ w.heap.size ≤ row ∧ row ≠ w1.heap.size ∧ Sees w1 row A n (cells8 bs) := by
  obtain ⟨hown, hmod, hrow⟩ := h
  rcases hown.2 with ⟨h1, h2⟩ | ⟨g', cap, cur, h1, _, hg, hnc, _⟩
  · subst h2
    refine ⟨none, 0, w1.heap.size + 1, h1, Nat.le_refl _, fun _ => rfl, by have := hmod.size; omega, by omega, ⟨?_, fun h => by omega⟩⟩
    simpa using hown.1
  · have hl := (Array.getElem?_eq_some_iff.1 hg).1
    refine ⟨_, cap, g', h1, hnc, (fun h => by cases h), ?_, by omega, Sees.of_own (h1 ▸ hown) (fun _ => rfl)⟩
    rw [h1] at hrow
    rcases hrow with hr | ⟨r, hr, hle⟩
    · cases hr
    · simp [Value.ownBlock] at hr
      omega

end Go.Proofs.Yteegdbbmamabiaa

namespace Go.Proofs.Yteegdbbmamabiaa
open Go.RowKit

end Go.Proofs.Yteegdbbmamabiaa

namespace Go.Proofs.Yteegdbbmamabiaa
open Go.RowKit

end Go.Proofs.Yteegdbbmamabiaa

namespace Go.Proofs.Yteegdbbmamabiaa
open Go.RowKit

end Go.Proofs.Yteegdbbmamabiaa

namespace Go.Proofs.Yteegdbbmamabiaa
open Go.RowKit

end Go.Proofs.Yteegdbbmamabiaa

/- Two writers that share nothing. -/
namespace Go.Proofs.Yteegdbbmamabiaa
open Go.RowKit

def Apart (g : Nat) (row : Option Nat) (g2 : Nat) (row2 : Option Nat) : Prop := g ≠ g2 ∧ row ≠ some g2 ∧ row2 ≠ some g ∧ ∀ k, row = some k → row2 ≠ some k
theorem Apart.symm {g g2 : Nat} {row row2 : Option Nat} (h : Apart g row g2 row2) : Apart g2 row2 g row := ⟨fun e => h.1 e.symm, h.2.2.1, h.2.1, fun k hk e => h.2.2.2 k e hk⟩
section
variable {w w1 : World} {row n : Nat} {A : Option Addr} {xs : List Value}
end
/-- The call's own blocks alone have turned, a writer's that it made among them. -/
theorem Mod.put {w w' w0 : World} {g : Nat} {row : Option Nat} (h : Mod (fun _ => False) w0 w) (hm : Mod (fun i => i = g ∨ row = some i) w w') (hg : w0.heap.size ≤ g) (hr : ∀ k, row = some k → w0.heap.size ≤ k) : Mod (fun _ => False) w0 w' :=
  h.trans hm (fun i hi h => h.elim (fun e => by omega) (fun e => by have := hr i e; omega))
section
variable {w0 w w' : World} {a Na la b Nb lb : Nat} {ra rb : Option Nat}
end
end Go.Proofs.Yteegdbbmamabiaa

namespace Go.Proofs.Yteegdbbmamabiaa
open Go.RowKit

end Go.Proofs.Yteegdbbmamabiaa

/- Two readers of one row of bytes: the project's, and the document's own. -/
namespace Go.Proofs.Yteegdbbmamabiaa
open Go.RowKit

section
variable {w0 w w' : World} {g rg h rh : Nat} {bs : List Nat} {R rem R' rem' : Nat} {ok ok' : Bool}
end
end Go.Proofs.Yteegdbbmamabiaa

namespace Go.Proofs.Yteegdbbmamabiaa
open Go.RowKit

end Go.Proofs.Yteegdbbmamabiaa

/- All that layer 4 stands on, together. -/

/- Readers in whatever state, the project's and the document's own: what is left, or nothing. -/
namespace Go.Proofs.Yteegdbbmamabiaa
open Go.RowKit

/-- A reader's state: what is left, or nothing. -/
def getO (k : Nat) : Option (Nat × Nat) → Nat × Option (Nat × Nat)
  | some (R, rem) => if k ≤ rem then (R / 2 ^ (rem - k), some (R % 2 ^ (rem - k), rem - k)) else (0, none)
  | none => (0, none)
theorem getO_take (k R rem : Nat) : getO k (some (R, rem)) = match takeB k R rem with | some (b, R1, rem1) => (b, some (R1, rem1)) | none => (0, none) := by
  unfold getO takeB
  by_cases h : k ≤ rem
  · simp [h]
  · simp [h]
theorem getO_lt {R rem : Nat} (h : R < 2 ^ rem) (k : Nat) : (getO k (some (R, rem))).1 < 2 ^ k := by
  unfold getO
  by_cases hk : k ≤ rem
  · simp only [hk, if_true]
    rw [Nat.div_lt_iff_lt_mul (Nat.two_pow_pos _), ← Nat.pow_add, show k + (rem - k) = rem by omega]
    exact h
  · simp only [hk, if_false]
    exact Nat.two_pow_pos k
section
variable {w w' : World} {g row : Nat} {s : Option (Nat × Nat)}
end
section
variable {w w' : World} {g row : Nat} {bs : List Nat} {s : Option (Nat × Nat)}
end
end Go.Proofs.Yteegdbbmamabiaa

/- Plain mathematics of values by what turns, the second part: a row that is read step by step, and told again, is the same row. -/
namespace Go.Proofs.Yteegdbbmamabiaa

/-- Fields were taken off what a reader had. -/
def Took (fs : List (Nat × Nat)) (R rem R1 rem1 : Nat) : Prop := R = fnum fs * 2 ^ rem1 + R1 ∧ R1 < 2 ^ rem1 ∧ rem = flen fs + rem1
theorem Took.nil {R rem : Nat} (h : R < 2 ^ rem) : Took [] R rem R rem := ⟨by show R = 0 * _ + R; omega, h, by show rem = 0 + rem; omega⟩
theorem Took.app {fs gs : List (Nat × Nat)} {R rem R1 rem1 R2 rem2 : Nat} (h : Took fs R rem R1 rem1) (h2 : Took gs R1 rem1 R2 rem2) : Took (fs ++ gs) R rem R2 rem2 := by
  obtain ⟨a1, _, a3⟩ := h
  obtain ⟨b1, b2, b3⟩ := h2
  refine ⟨?_, b2, by rw [flen_app, a3, b3, Nat.add_assoc]⟩
  rw [a1, b1, b3, fnum_app, Nat.pow_add, Nat.add_mul, Nat.mul_assoc, Nat.add_assoc]
theorem took_take {k R rem v R1 rem1 : Nat} (h : takeB k R rem = some (v, R1, rem1)) (hR : R < 2 ^ rem) : Took [(v, k)] R rem R1 rem1 ∧ v < 2 ^ k := by
  obtain ⟨h1, h2, h3⟩ := takeB_some h hR
  unfold takeB at h
  split at h
  · rename_i hk
    injection h with h
    injection h with e1 h
    injection h with e2 e3
    subst e3
    have hv : v < 2 ^ k := h1
    refine ⟨⟨?_, h2, by show rem = (k + 0) + (rem - k); omega⟩, hv⟩
    show R = (v % 2 ^ k * 2 ^ 0 + 0) * 2 ^ (rem - k) + R1
    rw [Nat.mod_eq_of_lt hv, Nat.pow_zero, Nat.mul_one, Nat.add_zero, ← e1, ← e2, Nat.mul_comm, Nat.div_add_mod]
  · cases h
theorem Took.same {fs gs : List (Nat × Nat)} {R rem R1 rem1 : Nat} (h : Took fs R rem R1 rem1) : (flen gs + rem1 = rem ∧ fnum gs = R / 2 ^ rem1) ↔ (flen gs = flen fs ∧ fnum gs = fnum fs) := by
  obtain ⟨a1, a2, a3⟩ := h
  have e : R / 2 ^ rem1 = fnum fs := by rw [a1, Nat.mul_comm, Nat.mul_add_div (Nat.two_pow_pos _), Nat.div_eq_of_lt a2, Nat.add_zero]
  rw [e]
  constructor
  · rintro ⟨h1, h2⟩; exact ⟨by omega, h2⟩
  · rintro ⟨h1, h2⟩; exact ⟨by omega, h2⟩
theorem Took.to {fs gs : List (Nat × Nat)} {R rem R1 rem1 : Nat} (h : Took fs R rem R1 rem1) (h1 : flen gs = flen fs) (h2 : fnum gs = fnum fs) : Took gs R rem R1 rem1 := ⟨by rw [h2]; exact h.1, h.2.1, by rw [h1]; exact h.2.2⟩

/-- What a turn's fields were. -/
def Shape (win : Option (Nat × Nat)) (x : Nat) (win' : Option (Nat × Nat)) (fs : List (Nat × Nat)) : Prop :=
  (fs = [(0, 1)] ∧ x = 0 ∧ win' = win) ∨
  (∃ a b y, win = some (a, b) ∧ fs = [(1, 1), (0, 1), (y, 64 - a - b)] ∧ y < 2 ^ (64 - a - b) ∧ x = y * 2 ^ b ∧ win' = win) ∨
  (∃ a m y, a < 32 ∧ m < 64 ∧ a + (m + 1) ≤ 64 ∧ fs = [(1, 1), (1, 1), (a, 5), (m, 6), (y, m + 1)] ∧ y < 2 ^ (m + 1) ∧ x = y * 2 ^ (64 - a - (m + 1)) ∧ win' = some (a, 64 - a - (m + 1)))
theorem Shape.lt {win win' : Option (Nat × Nat)} {x : Nat} {fs : List (Nat × Nat)} (h : Shape win x win' fs) (hw : WinOk win) : x < 2 ^ 64 := by
  rcases h with ⟨_, rfl, _⟩ | ⟨a, b, y, rfl, _, hy, rfl, _⟩ | ⟨a, m, y, ha, hm, hab, _, hy, rfl, _⟩
  · decide
  · obtain ⟨w1, w2⟩ := hw
    have := Nat.mul_lt_mul_of_pos_right hy (Nat.two_pow_pos b)
    rw [← Nat.pow_add] at this
    exact Nat.lt_of_lt_of_le this (Nat.pow_le_pow_right (by omega) (by omega))
  · have := Nat.mul_lt_mul_of_pos_right hy (Nat.two_pow_pos (64 - a - (m + 1)))
    rw [← Nat.pow_add] at this
    exact Nat.lt_of_lt_of_le this (Nat.pow_le_pow_right (by omega) (by omega))
theorem Shape.ok {win win' : Option (Nat × Nat)} {x : Nat} {fs : List (Nat × Nat)} (h : Shape win x win' fs) (hw : WinOk win) : WinOk win' := by
  rcases h with ⟨_, _, rfl⟩ | ⟨a, b, y, _, _, _, _, rfl⟩ | ⟨a, m, y, ha, hm, hab, _, _, _, rfl⟩
  · exact hw
  · exact hw
  · exact ⟨by omega, by omega⟩
/-- A turn is read, and told again in these bits. -/
def stX (win : Option (Nat × Nat)) (R rem : Nat) : Option (Nat × Option (Nat × Nat) × Nat × Nat) :=
  match rdX win R rem with
  | none => none
  | some (x, _, R1, rem1) => if flen (fieldsX win x) + rem1 = rem ∧ fnum (fieldsX win x) = R / 2 ^ rem1 then some (x, winX win x, R1, rem1) else none
end Go.Proofs.Yteegdbbmamabiaa

/- A turn is read, as states of a reader: loosely, and as it is told; what values cost. -/
namespace Go.Proofs.Yteegdbbmamabiaa

def SmallO (s : Option (Nat × Nat)) : Prop := ∀ R rem, s = some (R, rem) → R < 2 ^ rem
theorem getO_some {k R1 rem1 : Nat} {s : Option (Nat × Nat)} (h : (getO k s).2 = some (R1, rem1)) : ∃ R rem, s = some (R, rem) ∧ takeB k R rem = some ((getO k s).1, R1, rem1) := by
  cases s with
  | none => cases h
  | some p =>
    obtain ⟨R, rem⟩ := p
    refine ⟨R, rem, rfl, ?_⟩
    rw [getO_take] at h ⊢
    cases ht : takeB k R rem with
    | none => rw [ht] at h; cases h
    | some q =>
      obtain ⟨v, R2, rem2⟩ := q
      rw [ht] at h
      have h2 : some (R2, rem2) = some (R1, rem1) := h
      injection h2 with h2
      injection h2 with e1 e2
      subst e1 e2
      rfl
theorem getO_bad {k R rem : Nat} (h : (getO k (some (R, rem))).2 = none) : takeB k R rem = none := by
  rw [getO_take] at h
  cases ht : takeB k R rem with
  | none => rfl
  | some q => rw [ht] at h; cases h
theorem getO_bad0 {k : Nat} {s : Option (Nat × Nat)} (h : (getO k s).2 = none) : (getO k s).1 = 0 := by
  cases s with
  | none => rfl
  | some p =>
    obtain ⟨R, rem⟩ := p
    have := getO_bad h
    rw [getO_take, this]
theorem SmallO.get {s : Option (Nat × Nat)} (h : SmallO s) (k : Nat) : SmallO (getO k s).2 := by
  intro R1 rem1 h1
  obtain ⟨R, rem, rfl, ht⟩ := getO_some h1
  exact (took_take ht (h _ _ rfl)).1.2.1
theorem SmallO.lt {s : Option (Nat × Nat)} (h : SmallO s) (k : Nat) : (getO k s).1 < 2 ^ k := by
  cases s with
  | none => exact Nat.two_pow_pos k
  | some p => exact getO_lt (h _ _ rfl) k
def rdO (win : Option (Nat × Nat)) : Option (Nat × Nat) → Option (Nat × Option (Nat × Nat) × Nat × Nat)
  | none => none
  | some (R, rem) => rdX win R rem
def stO (win : Option (Nat × Nat)) : Option (Nat × Nat) → Option (Nat × Option (Nat × Nat) × Nat × Nat)
  | none => none
  | some (R, rem) => stX win R rem
theorem stO_none {win : Option (Nat × Nat)} {s : Option (Nat × Nat)} (hr : rdO win s = none) : stO win s = none := by
  cases s with
  | none => rfl
  | some p =>
    obtain ⟨R, rem⟩ := p
    have hr' : rdX win R rem = none := hr
    show stX win R rem = none
    unfold stX
    rw [hr']
section
variable {win : Option (Nat × Nat)} {s : Option (Nat × Nat)}
theorem rdO_one (h0 : (getO 1 s).1 ≠ 0) : ∃ R rem R1 rem1, s = some (R, rem) ∧ takeB 1 R rem = some ((getO 1 s).1, R1, rem1) ∧ (getO 1 s).2 = some (R1, rem1) := by
  cases h : (getO 1 s).2 with
  | none => exact absurd (getO_bad0 h) h0
  | some p =>
    obtain ⟨R, rem, e, ht⟩ := getO_some (R1 := p.1) (rem1 := p.2) h
    exact ⟨R, rem, _, _, e, ht, rfl⟩
theorem rdO_far (h0 : (getO 1 s).1 ≠ 0) (h1 : (getO 1 (getO 1 s).2).1 ≠ 0)
    (hf : 64 < (getO 5 (getO 1 (getO 1 s).2).2).1 + ((getO 6 (getO 5 (getO 1 (getO 1 s).2).2).2).1 + 1)) : rdO win s = none := by
  obtain ⟨R, rem, R1, rem1, rfl, ht, e1⟩ := rdO_one h0
  rw [e1] at h1 hf
  obtain ⟨R1', rem1', R2, rem2, e1', ht1, e2⟩ := rdO_one h1
  injection e1' with e1'
  injection e1' with x1 x2
  subst x1 x2
  rw [e2] at hf
  show rdX win R rem = none
  unfold rdX
  rw [ht]
  simp only
  rw [if_neg h0, ht1]
  simp only
  rw [if_neg h1]
  rw [getO_take] at hf
  cases ht2 : takeB 5 R2 rem2 with
  | none => rfl
  | some q =>
    obtain ⟨a, R3, rem3⟩ := q
    rw [ht2] at hf
    simp only at hf ⊢
    rw [getO_take] at hf
    cases ht3 : takeB 6 R3 rem3 with
    | none => rfl
    | some q =>
      obtain ⟨m, R4, rem4⟩ := q
      rw [ht3] at hf
      simp only at hf ⊢
      rw [if_pos hf]
theorem stO_far (h0 : (getO 1 s).1 ≠ 0) (h1 : (getO 1 (getO 1 s).2).1 ≠ 0)
    (hf : 64 < (getO 5 (getO 1 (getO 1 s).2).2).1 + ((getO 6 (getO 5 (getO 1 (getO 1 s).2).2).2).1 + 1)) : stO win s = none := stO_none (rdO_far h0 h1 hf)
end
end Go.Proofs.Yteegdbbmamabiaa

/- Plain mathematics of all codecs: what a row of samples is told in, in each of the six; that it is read back, and nothing else is; the one that takes the fewest bytes. -/
namespace Go.Proofs.Yteegdbbmamabiaa

/-- Fields as bytes. -/
def packF (fs : List (Nat × Nat)) : List Nat := packB (fnum fs) (flen fs)
/-- Of values: how each differs from the one ahead, going round; as numbers without a sign. -/
def stepU (last x : Nat) : Nat := (zig (sg ((x + M64 - last) % M64))).toNat
def stepsU : Nat → List Nat → List Nat
  | _, [] => []
  | last, x :: xs => stepU last x :: stepsU x xs
def backU (last u : Nat) : Nat := (last + un (zag (u : Int))) % M64
def unstepsU : Nat → List Nat → List Nat
  | _, [] => []
  | last, u :: us => backU last u :: unstepsU (backU last u) us
theorem backU_lt (last u : Nat) : backU last u < 2 ^ 64 := by
  unfold backU
  rw [← M64_pow]
  exact Nat.mod_lt _ (by decide)
theorem step_sg (last x : Nat) : -9223372036854775808 ≤ sg ((x + M64 - last) % M64) ∧ sg ((x + M64 - last) % M64) ≤ 9223372036854775807 := by
  have h := sg_fits (u := (x + M64 - last) % M64) (Nat.mod_lt _ (by decide))
  have e : H63 = 9223372036854775808 := rfl
  obtain ⟨h1, h2⟩ := h
  omega
theorem stepU_int (last x : Nat) : (stepU last x : Int) = zig (sg ((x + M64 - last) % M64)) := by
  have h := step_sg last x
  have h2 := zig_fit h.1 h.2
  unfold stepU
  omega
theorem unstepsU_len (v : List Nat) : ∀ last, (unstepsU last v).length = v.length := by
  induction v with
  | nil => intro _; rfl
  | cons x xs ih => intro last; show (unstepsU _ xs).length + 1 = xs.length + 1; rw [ih]
theorem stepsU_snoc (v : List Nat) (x : Nat) : ∀ last, stepsU last (v ++ [x]) = stepsU last v ++ [stepU (v.getLast?.getD last) x] := by
  induction v with
  | nil => intro last; rfl
  | cons y ys ih =>
    intro last
    show stepU last y :: stepsU y (ys ++ [x]) = stepU last y :: (stepsU y ys ++ _)
    rw [ih y, List.getLast?_cons]
    rfl
theorem unstepsU_snoc (v : List Nat) (x : Nat) : ∀ last, unstepsU last (v ++ [x]) = unstepsU last v ++ [backU ((unstepsU last v).getLast?.getD last) x] := by
  induction v with
  | nil => intro last; rfl
  | cons y ys ih =>
    intro last
    show backU last y :: unstepsU (backU last y) (ys ++ [x]) = backU last y :: (unstepsU (backU last y) ys ++ [backU ((backU last y :: unstepsU (backU last y) ys).getLast?.getD last) x])
    rw [ih, List.getLast?_cons]
    rfl
/-- Words as bytes, the highest first. -/
def w8 (w : Nat) : List Nat := [w / 2 ^ 56 % 256, w / 2 ^ 48 % 256, w / 2 ^ 40 % 256, w / 2 ^ 32 % 256, w / 2 ^ 24 % 256, w / 2 ^ 16 % 256, w / 2 ^ 8 % 256, w % 256]
def words8 : List Nat → List Nat
  | [] => []
  | w :: ws => w8 w ++ words8 ws
/-- Values told in a codec. -/
def toldK (tag : Int) (v : List Nat) : Option (List Nat) :=
  if tag = 1 then some (packF (encVals v))
  else if tag = 2 then (encS (stepsU 0 v)).map words8
  else if tag = 3 then some (encR v)
  else if tag = 4 then some (encP v)
  else if tag = 5 then encD v
  else if tag = 6 then (if v = [] then some [] else if v.all (fun x => x == v.getD 0 0) then some (enc (v.getD 0 0)) else none)
  else none
/-- A row of samples: its times and its values; it rises. -/
def tsOf (l : List (Int × Nat)) : List Int := l.map (·.1)
def vsOf (l : List (Int × Nat)) : List Nat := l.map (·.2)
def GoodS (l : List (Int × Nat)) : Prop := ∀ p ∈ l, Fits p.1 ∧ p.2 < 2 ^ 64
theorem tsOf_len (l : List (Int × Nat)) : (tsOf l).length = l.length := by simp [tsOf]
theorem vsOf_len (l : List (Int × Nat)) : (vsOf l).length = l.length := by simp [vsOf]
theorem GoodS.ts {l : List (Int × Nat)} (h : GoodS l) : ∀ x ∈ tsOf l, Fits x := fun x hx => by
  obtain ⟨p, hp, rfl⟩ := List.mem_map.1 hx
  exact (h p hp).1
theorem GoodS.vs {l : List (Int × Nat)} (h : GoodS l) : ∀ x ∈ vsOf l, x < 2 ^ 64 := fun x hx => by
  obtain ⟨p, hp, rfl⟩ := List.mem_map.1 hx
  exact (h p hp).2
def ascB : List Int → Bool
  | a :: b :: r => decide (a < b) && ascB (b :: r)
  | _ => true
def riseB (l : List (Int × Nat)) : Bool := ascB (tsOf l) && decide (l.length ≤ 65535)
/-- The bytes of its times. -/
def tbK (l : List (Int × Nat)) : List Nat := packF (encRow (tsOf l))
/-- A row told in a codec. -/
def encK (tag : Int) (l : List (Int × Nat)) : Option (List Nat) :=
  if riseB l then (toldK tag (vsOf l)).map fun b => enc (tbK l).length ++ (tbK l ++ b) else none
end Go.Proofs.Yteegdbbmamabiaa

/- Chunks: the mathematics. -/
namespace Go.Proofs.Yteegdbbmamabiaa

/-- The first and the last time of a row. -/
def fstT (l : List (Int × Nat)) : Int := (tsOf l).headD 0
def lstT (l : List (Int × Nat)) : Int := (tsOf l).getLastD 0
/-- A number of 32 bits in four bytes, the highest first. -/
def sum4 (s : Nat) : List Nat := [s / 16777216 % 256, s / 65536 % 256, s / 256 % 256, s % 256]
/-- What stands ahead of the samples. -/
def headC (t n : Nat) (f g : Int) : List Nat := t :: (enc n ++ (enc (zig f).toNat ++ enc (zig g).toNat))
def headR (tag : Int) (l : List (Int × Nat)) : List Nat := headC tag.toNat l.length (fstT l) (lstT l)
/-- A chunk. -/
def makeC (tag : Int) (l : List (Int × Nat)) : Option (List Nat) :=
  if l = [] then none else (encK tag l).map fun b => headR tag l ++ b ++ sum4 (sumN ent (headR tag l ++ b))
end Go.Proofs.Yteegdbbmamabiaa

/- Chunks: what the code asks of a chunk, and what the document asks, is one. -/
namespace Go.Proofs.Yteegdbbmamabiaa

/-- Where the numbers of a head stand, and what they are. -/
def hp (bs : List Nat) : Nat → Nat
  | 0 => 1
  | i + 1 => hp bs i + (dec (bs.drop (hp bs i))).2
def hx (bs : List Nat) (i : Nat) : Nat := (dec (bs.drop (hp bs i))).1
def hq (bs : List Nat) (i : Nat) : Nat := (dec (bs.drop (hp bs i))).2
end Go.Proofs.Yteegdbbmamabiaa

/- Rising. -/
namespace Go.Proofs.Yteegdbbmamabiaa
open Go.RowKit

theorem ts_get {l : List (Int × Nat)} {i : Nat} {p : Int × Nat} (h : l[i]? = some p) : (tsOf l)[i]? = some p.1 := by
  unfold tsOf
  rw [List.getElem?_map, h]
  rfl
theorem vs_get {l : List (Int × Nat)} {i : Nat} {p : Int × Nat} (h : l[i]? = some p) : (vsOf l)[i]? = some p.2 := by
  unfold vsOf
  rw [List.getElem?_map, h]
  rfl
/-- The first i rise. -/
def RiseTo (l : List (Int × Nat)) (i : Nat) : Prop := ∀ j a b, j + 1 < i → (tsOf l)[j]? = some a → (tsOf l)[j + 1]? = some b → a < b
theorem RiseTo.more {l : List (Int × Nat)} {j : Nat} {p q : Int × Nat} (h : RiseTo l (j + 1)) (hp : l[j]? = some p) (hq : l[j + 1]? = some q) (hlt : p.1 < q.1) : RiseTo l (j + 1 + 1) := by
  intro k a b hk ha hb
  rcases Nat.lt_or_ge (k + 1) (j + 1) with h1 | h1
  · exact h k a b h1 ha hb
  · obtain rfl : k = j := by omega
    rw [ts_get hp] at ha
    rw [ts_get hq] at hb
    injection ha with ha
    injection hb with hb
    subst ha hb
    exact hlt
end Go.Proofs.Yteegdbbmamabiaa

/- Chunks, of the code: the sum in four bytes, the head of a row, and how it is told. -/
namespace Go.Proofs.Yteegdbbmamabiaa
open Go.RowKit

/-- A struct of four cells is written. -/
theorem Blk.four {w : World} {g : Nat} {t : TypeId} {c0 c1 c2 c3 : Value} (h : Blk w g t #[c0, c1, c2, c3]) (a b c d : Value) :
    (w.setCell ⟨g, 0, none⟩ a).cell? ⟨g, 0, none⟩ = some a ∧ ((w.setCell ⟨g, 0, none⟩ a).setCell ⟨g, 1, none⟩ b).cell? ⟨g, 1, none⟩ = some b ∧
    (((w.setCell ⟨g, 0, none⟩ a).setCell ⟨g, 1, none⟩ b).setCell ⟨g, 2, none⟩ c).cell? ⟨g, 2, none⟩ = some c ∧
    ((((w.setCell ⟨g, 0, none⟩ a).setCell ⟨g, 1, none⟩ b).setCell ⟨g, 2, none⟩ c).setCell ⟨g, 3, none⟩ d).cell? ⟨g, 3, none⟩ = some d ∧
    Blk ((((w.setCell ⟨g, 0, none⟩ a).setCell ⟨g, 1, none⟩ b).setCell ⟨g, 2, none⟩ c).setCell ⟨g, 3, none⟩ d) g t #[a, b, c, d] := by
  have h1 := h.set_ 0 a
  have h2 := h1.set_ 1 b
  have h3 := h2.set_ 2 c
  have h4 := h3.set_ 3 d
  refine ⟨?_, ?_, ?_, ?_, ?_⟩
  · have := h1.cell 0; simpa using this
  · have := h2.cell 1; simpa using this
  · have := h3.cell 2; simpa using this
  · have := h4.cell 3; simpa using this
  · simpa using h4
end Go.Proofs.Yteegdbbmamabiaa

/- Get with a size that may be too great; bytes.Equal (parted from layer 8's Decode). -/
namespace Go.Proofs.Yteegdbbmamabiaa
open Go.RowKit

end Go.Proofs.Yteegdbbmamabiaa

/- Chunks, of the code: whether the sum stands behind. -/
namespace Go.Proofs.Yteegdbbmamabiaa
open Go.RowKit

end Go.Proofs.Yteegdbbmamabiaa

/- Times: wrapping of 64 bits, by sg and un; a reader's states, bad ones too. -/
namespace Go.Proofs.Yteegdbbmamabiaa
open Go.RowKit

end Go.Proofs.Yteegdbbmamabiaa

/- The widths' table, and what reads it: signed, shortest. -/
namespace Go.Proofs.Yteegdbbmamabiaa
open Go.RowKit

end Go.Proofs.Yteegdbbmamabiaa

/- A reader tells whether it is well. -/
namespace Go.Proofs.Yteegdbbmamabiaa
open Go.RowKit

end Go.Proofs.Yteegdbbmamabiaa

/- Ok of a reader in whatever state. -/
namespace Go.Proofs.Yteegdbbmamabiaa
open Go.RowKit

end Go.Proofs.Yteegdbbmamabiaa

/- A reader in whatever state; a difference is read: mark, get. -/
namespace Go.Proofs.Yteegdbbmamabiaa
open Go.RowKit

end Go.Proofs.Yteegdbbmamabiaa

/- Fields are told: the project's writer, and the document's own. -/
namespace Go.Proofs.Yteegdbbmamabiaa
open Go.RowKit

section
variable {w0 w w' : World} {g N len : Nat} {row : Option Nat} {fs bs : List (Nat × Nat)}
theorem Mod.more {row row' : Option Nat} {w2 : World} (h : Mod (fun i => i = g ∨ row = some i) w0 w) (hr : RowTo w0 row row') (h2 : Mod (fun i => i = g ∨ row' = some i) w w2) : Mod (fun i => i = g ∨ row = some i) w0 w2 :=
  h.trans h2 (fun _ hi h => h.elim .inl (fun e => .inr (hr.in_ e hi)))
theorem RowTo.two {row row' row2 : Option Nat} (h : RowTo w0 row row') (hs : w0.heap.size ≤ w.heap.size) (h2 : RowTo w row' row2) : RowTo w0 row row2 := by
  rcases h2 with rfl | ⟨r, rfl, hr⟩
  · exact h
  · exact .inr ⟨r, rfl, by omega⟩
end
theorem SeesI.at2 {k : IntKind} {w w' : World} {B n i : Nat} {A : Option Addr} {zs : List Int} (h : SeesI k w B A n zs) (hi : i < n) (hB : B ≤ w.heap.size) {S : Nat → Prop} (hm : Mod S w w') (hS : ∀ ad, A = some ad → ¬ S ad.block) :
    ∃ ad x, A = some ad ∧ zs[i]? = some x ∧ w'.cell? (ad.add i) = some (.int k x) := by
  obtain ⟨ad, e, hb, hc⟩ := h.2 (by omega)
  have hl : i < zs.length := by have := h.1; omega
  refine ⟨ad, zs[i], e, List.getElem?_eq_getElem hl, ?_⟩
  rw [hm.cell (a := ad.add i) (by rw [addr_block]; omega) (by rw [addr_block]; exact hS _ e)]
  exact hc i _ (List.getElem?_eq_getElem hl)
section
variable {w0 w w' : World} {g N len : Nat} {row : Option Nat} {fs bs : List (Nat × Nat)}
end
end Go.Proofs.Yteegdbbmamabiaa

/- Differences, and rows of times, are told: put, Encode. -/
namespace Go.Proofs.Yteegdbbmamabiaa
open Go.RowKit

end Go.Proofs.Yteegdbbmamabiaa

/- Rows of times are read: Decode. -/
namespace Go.Proofs.Yteegdbbmamabiaa
open Go.RowKit

def cellsI (xs : List Int) : List Value := xs.map fun x => Value.int .i64 x
theorem cellsI_length (xs : List Int) : (cellsI xs).length = xs.length := by simp [cellsI]
theorem cellsI_get (xs : List Int) (i : Nat) : (cellsI xs)[i]? = xs[i]?.map fun x => Value.int .i64 x := by simp [cellsI]
end Go.Proofs.Yteegdbbmamabiaa

/- A row of samples as its times and its values: parted; and joined again. -/
namespace Go.Proofs.Yteegdbbmamabiaa
open Go.RowKit

theorem Own.at_set {B g n cap k : Nat} {w : World} {e : TypeId} {xs : List Value} (h : Own B w e (.slice (some ⟨g, 0, none⟩) n cap) xs) (hn : n = xs.length) (hk : k < n) (u : Value) :
    (∃ u, w.cell? ⟨g, k, none⟩ = some u) ∧ w.frozen? ⟨g, k, none⟩ = false ∧ Own B (w.setCell ⟨g, k, none⟩ u) e (.slice (some ⟨g, 0, none⟩) n cap) (xs.set k u) := by
  have h' : w.ownsRow B e 1 (.slice (some ⟨g, 0, none⟩) n cap) n xs := by have := h; unfold Own at this; rwa [← hn] at this
  refine ⟨⟨xs[k]'(by omega), ?_⟩, h'.frozenAt k, ?_⟩
  · rw [h'.cellAt k (by omega), List.getElem?_eq_getElem (by omega)]
  · have h2 := (h'.stored k u).1
    unfold Own
    rw [List.length_set, ← hn]
    exact h2
theorem Own.other {B g n cap : Nat} {w : World} {e : TypeId} {xs : List Value} (h : Own B w e (.slice (some ⟨g, 0, none⟩) n cap) xs) {p : Addr} (hp : p.block ≠ g) (u : Value) : Own B (w.setCell p u) e (.slice (some ⟨g, 0, none⟩) n cap) xs :=
  ((Mod.refl (fun i => i = p.block) w).setCell (fun _ => rfl) u).owns h (fun k hk e' => by
    have : g = k := by simpa [Value.ownBlock] using hk
    exact hp (by rw [← e', this]))
theorem SeesI.rds {w : World} {B n : Nat} {A : Option Addr} {zs : List Int} (h : SeesI .i64 w B A n zs) : Rds w B A n (cellsI zs) := by
  refine ⟨by rw [cellsI_length]; exact h.1, fun hn => ?_⟩
  obtain ⟨ad, e, hb, hc⟩ := h.2 hn
  refine ⟨ad, e, hb, fun j u hu => ?_⟩
  rw [cellsI_get] at hu
  cases hz : zs[j]? with
  | none => rw [hz] at hu; cases hu
  | some z =>
    rw [hz] at hu
    have : u = .int .i64 z := by simpa using hu.symm
    rw [this]
    exact hc j z hz
/-- The first i times and values are laid. -/
def PartTo (w wr : World) (l : List (Int × Nat)) (n g1 g2 i : Nat) : Prop :=
  ∃ (ts : List Int) (us : List Nat), Own w.heap.size wr 2 (.slice (some ⟨g1, 0, none⟩) n n) (cellsI ts) ∧ Own w.heap.size wr 41 (.slice (some ⟨g2, 0, none⟩) n n) (cellsU us) ∧
    ts.length = n ∧ us.length = n ∧ (∀ j, j < i → ts[j]? = (tsOf l)[j]?) ∧ (∀ j, j < i → us[j]? = (vsOf l)[j]?) ∧ Mod (fun _ => False) w wr
theorem mod_new {w wr : World} {p : Addr} (h : Mod (fun _ => False) w wr) (hp : w.heap.size ≤ p.block) (u : Value) : Mod (fun _ => False) w (wr.setCell p u) := h.setCell (fun hlt => by omega) u
theorem PartTo.step {w wr : World} {l : List (Int × Nat)} {n g1 g2 i : Nat} {T : Int} {V : Nat} (h : PartTo w wr l n g1 g2 i) (hg : g1 ≠ g2) (hi : i < n) (hp : l[i]? = some (T, V)) {W : World} (hW : ∃ o, W = wr.alloc o) :
    (∃ u, W.cell? ⟨g1, i, none⟩ = some u) ∧ (∃ u, W.cell? ⟨g2, i, none⟩ = some u) ∧ W.frozen? ⟨g1, i, none⟩ = false ∧ W.frozen? ⟨g2, i, none⟩ = false ∧ g1 < wr.heap.size ∧ g2 < wr.heap.size ∧
      PartTo w ((W.setCell ⟨g1, i, none⟩ (.int .i64 T)).setCell ⟨g2, i, none⟩ (.int .u64 (V : Int))) l n g1 g2 (i + 1) := by
  obtain ⟨ts, us, h1, h2, h3, h4, h5, h6, hm⟩ := h
  obtain ⟨o, rfl⟩ := hW
  have k1 := h1.alloc o
  have k2 := h2.alloc o
  have b1 := (h1.block g1 (by simp [Value.ownBlock]))
  have b2 := (h2.block g2 (by simp [Value.ownBlock]))
  obtain ⟨a1, a2, a3⟩ := k1.at_set (k := i) (by rw [cellsI_length, h3]) hi (.int .i64 T)
  obtain ⟨c1, c2, _⟩ := k2.at_set (k := i) (by rw [cellsU_length, h4]) hi (.int .u64 (V : Int))
  refine ⟨a1, c1, a2, c2, b1.2, b2.2, ⟨ts.set i T, us.set i V, ?_, ?_, by rw [List.length_set]; exact h3, by rw [List.length_set]; exact h4, ?_, ?_, ?_⟩⟩
  · have e : cellsI (ts.set i T) = (cellsI ts).set i (.int .i64 T) := by simp [cellsI, List.map_set]
    rw [e]
    have a4 : Own w.heap.size ((wr.alloc o).setCell ⟨g1, i, none⟩ (.int .i64 T)) 2 (.slice (some ⟨g1, 0, none⟩) n n) ((cellsI ts).set i (.int .i64 T)) := a3
    exact a4.other (p := ⟨g2, i, none⟩) (fun e => hg e.symm) _
  · have e : cellsU (us.set i V) = (cellsU us).set i (.int .u64 (V : Int)) := by simp [cellsU, List.map_set]
    rw [e]
    have k3 : Own w.heap.size ((wr.alloc o).setCell ⟨g1, i, none⟩ (.int .i64 T)) 41 (.slice (some ⟨g2, 0, none⟩) n n) (cellsU us) := k2.other (p := ⟨g1, i, none⟩) hg _
    exact (k3.at_set (k := i) (by rw [cellsU_length, h4]) hi (.int .u64 (V : Int))).2.2
  · intro j hj
    rcases Nat.lt_or_ge j i with h | h
    · rw [List.getElem?_set_ne (by omega)]
      exact h5 j h
    · obtain rfl : j = i := by omega
      rw [List.getElem?_set_self (by omega), ts_get hp]
  · intro j hj
    rcases Nat.lt_or_ge j i with h | h
    · rw [List.getElem?_set_ne (by omega)]
      exact h6 j h
    · obtain rfl : j = i := by omega
      rw [List.getElem?_set_self (by omega), vs_get hp]
  · exact mod_new (mod_new (hm.alloc o) b1.1 _) b2.1 _
theorem PartTo.drew {w wr : World} {l : List (Int × Nat)} {n g1 g2 i : Nat} (h : PartTo w wr l n g1 g2 i) : PartTo w wr.drew l n g1 g2 i := by
  obtain ⟨ts, us, h1, h2, h3, h4, h5, h6, hm⟩ := h
  exact ⟨ts, us, h1, h2, h3, h4, h5, h6, hm.drew⟩
theorem PartTo.done {w wr : World} {l : List (Int × Nat)} {n g1 g2 : Nat} (h : PartTo w wr l n g1 g2 n) (hl : l.length = n) :
    Rds wr wr.heap.size (some ⟨g1, 0, none⟩) n (cellsI (tsOf l)) ∧ Rds wr wr.heap.size (some ⟨g2, 0, none⟩) n (cellsU (vsOf l)) ∧ w.heap.size ≤ g1 ∧ w.heap.size ≤ g2 ∧ Mod (fun _ => False) w wr := by
  obtain ⟨ts, us, h1, h2, h3, h4, h5, h6, hm⟩ := h
  have e1 : ts = tsOf l := List.ext_getElem? fun j => by
    rcases Nat.lt_or_ge j n with h | h
    · exact h5 j h
    · rw [List.getElem?_eq_none (by omega), List.getElem?_eq_none (by rw [tsOf_len]; omega)]
  have e2 : us = vsOf l := List.ext_getElem? fun j => by
    rcases Nat.lt_or_ge j n with h | h
    · exact h6 j h
    · rw [List.getElem?_eq_none (by omega), List.getElem?_eq_none (by rw [vsOf_len]; omega)]
  subst e1 e2
  have b1 := (h1.block g1 (by simp [Value.ownBlock]))
  have b2 := (h2.block g2 (by simp [Value.ownBlock]))
  have r1 := h1.form
  have r2 := h2.form
  obtain ⟨A, c, e, _, _, _, r⟩ := r1
  obtain ⟨A', c', e', _, _, _, r'⟩ := r2
  injection e with x1 x2 x3
  injection e' with y1 y2 y3
  subst x1 y1
  rw [← x2] at r
  rw [← y2] at r'
  exact ⟨r, r', b1.1, b2.1, hm⟩
/-- The first i samples are laid. -/
def JoinTo (w wr : World) (ts : List Int) (us : List Nat) (n g i : Nat) : Prop :=
  ∃ l : List (Int × Nat), OwnS w.heap.size wr (.slice (some ⟨g, 0, none⟩) n n) l ∧ l.length = n ∧ (∀ j, j < i → l[j]? = (ts.zip us)[j]?) ∧ Mod (fun _ => False) w wr
theorem JoinTo.step {w wr : World} {ts : List Int} {us : List Nat} {n g i : Nat} {T : Int} {V : Nat} (h : JoinTo w wr ts us n g i) (hi : i < n) (h1 : ts[i]? = some T) (h2 : us[i]? = some V) :
    (∃ u, wr.cell? ⟨g, i * 2, none⟩ = some u) ∧ (∃ u, wr.cell? ⟨g, i * 2 + 1, none⟩ = some u) ∧ wr.frozen? ⟨g, i * 2, none⟩ = false ∧ wr.frozen? ⟨g, i * 2 + 1, none⟩ = false ∧ w.heap.size ≤ g ∧ g < wr.heap.size ∧
      JoinTo w ((wr.setCell ⟨g, i * 2, none⟩ (.int .i64 T)).setCell ⟨g, i * 2 + 1, none⟩ (.int .u64 (V : Int))) ts us n g (i + 1) := by
  obtain ⟨l, k1, k2, k3, hm⟩ := h
  have b1 := k1.block g (by simp [Value.ownBlock])
  obtain ⟨a1, a2, a3, a4, a5⟩ := k1.set_ (k := i) k2.symm hi (T, V)
  refine ⟨a1, a2, a3, a4, b1.1, b1.2, l.set i (T, V), a5, by rw [List.length_set]; exact k2, ?_, mod_new (mod_new hm b1.1 _) b1.1 _⟩
  intro j hj
  rcases Nat.lt_or_ge j i with h | h
  · rw [List.getElem?_set_ne (by omega)]
    exact k3 j h
  · obtain rfl : j = i := by omega
    rw [List.getElem?_set_self (by omega), (List.getElem?_zip_eq_some (z := (T, V))).2 ⟨h1, h2⟩]
theorem JoinTo.drew {w wr : World} {ts : List Int} {us : List Nat} {n g i : Nat} (h : JoinTo w wr ts us n g i) : JoinTo w wr.drew ts us n g i := by
  obtain ⟨l, h1, h2, h3, hm⟩ := h
  exact ⟨l, h1, h2, h3, hm.drew⟩
theorem JoinTo.done {w wr : World} {ts : List Int} {us : List Nat} {n g : Nat} (h : JoinTo w wr ts us n g n) (h1 : ts.length = n) (h2 : us.length = n) :
    OwnS w.heap.size wr (.slice (some ⟨g, 0, none⟩) n n) (ts.zip us) ∧ Mod (fun _ => False) w wr := by
  obtain ⟨l, k1, k2, k3, hm⟩ := h
  have e1 : l = ts.zip us := List.ext_getElem? fun j => by
    rcases Nat.lt_or_ge j n with h | h
    · exact k3 j h
    · rw [List.getElem?_eq_none (by omega), List.getElem?_eq_none (by rw [List.length_zip]; omega)]
  subst e1
  exact ⟨k1, hm⟩
end Go.Proofs.Yteegdbbmamabiaa

/- Chunks, of the code: getHead. -/
namespace Go.Proofs.Yteegdbbmamabiaa
open Go.RowKit

end Go.Proofs.Yteegdbbmamabiaa

/- Rows of numbers of so many bits each: what a writer of its own has been told of them; what Bytes makes of it (parted from Encode of layer 8). -/
namespace Go.Proofs.Yteegdbbmamabiaa
open Go.RowKit

/-- A row that another call has made, as bytes that read. -/
theorem NewRow.rds {w w1 : World} {v : Value} {n : Nat} {bs : List Nat} (h : NewRow w w1 v n (cells8 bs)) : ∃ A c, v = .slice A n c ∧ Rds w1 w1.heap.size A n (cells8 bs) ∧ Mod (fun _ => False) w w1 := by
  obtain ⟨hown, hm, _⟩ := h
  have hn : bs.length = n := by have := hown.1; rw [cells8_length] at this; omega
  have ho : Own 0 w1 5 v (cells8 bs) := by unfold Own; rw [cells8_length, hn]; exact hown
  obtain ⟨A, c, e, _, _, hr⟩ := own_form8 ho
  rw [hn] at e hr
  exact ⟨A, c, e, hr, hm⟩
theorem Packed.packW {bs : List Nat} {S : Nat} {l : List Nat} (h : Packed bs (fnum (flds S l)) (flen (flds S l))) : bs = packW S l := by
  obtain ⟨hlt, free, hf, hl, hv⟩ := h
  exact packW_one hlt hf hl hv
end Go.Proofs.Yteegdbbmamabiaa

/- The times of a row, as bytes behind how many these are: putTimes. -/
namespace Go.Proofs.Yteegdbbmamabiaa
open Go.RowKit

theorem Packed.packF {bs : List Nat} {fs : List (Nat × Nat)} (h : Packed bs (fnum fs) (flen fs)) : bs = packF fs := by
  obtain ⟨hlt, free, hf, hl, hv⟩ := h
  exact packB_one (fnum_lt fs) hlt hf hl hv
end Go.Proofs.Yteegdbbmamabiaa

/- Values are told by a list of those that are unlike: putList, Encode. -/
namespace Go.Proofs.Yteegdbbmamabiaa
open Go.RowKit Go.Maps

end Go.Proofs.Yteegdbbmamabiaa

/- Values are told by their least: Encode. -/
namespace Go.Proofs.Yteegdbbmamabiaa
open Go.RowKit

end Go.Proofs.Yteegdbbmamabiaa

/- How many 0s a number has ahead and behind, as math/bits tells it; the window's own calls. -/
namespace Go.Proofs.Yteegdbbmamabiaa
open Go.RowKit

def winA : Option (Nat × Nat) → Nat
  | none => 0
  | some (a, _) => a
def winS : Option (Nat × Nat) → Nat
  | none => 0
  | some (a, b) => 64 - a - b
theorem win_bounds {win : Option (Nat × Nat)} (h : WinOk win) : winA win ≤ 31 ∧ winS win ≤ 64 ∧ winA win + winS win ≤ 64 := by
  cases win with
  | none => exact ⟨Nat.zero_le _, Nat.zero_le _, Nat.zero_le _⟩
  | some p =>
    obtain ⟨a, b⟩ := p
    obtain ⟨h1, h2⟩ := h
    refine ⟨h1, ?_, ?_⟩
    · show 64 - a - b ≤ 64; omega
    · show a + (64 - a - b) ≤ 64; omega
end Go.Proofs.Yteegdbbmamabiaa

/- A turn, and rows of values, are told: put, Encode. -/
namespace Go.Proofs.Yteegdbbmamabiaa
open Go.RowKit

end Go.Proofs.Yteegdbbmamabiaa

/- Rows of values are told: Encode. -/
namespace Go.Proofs.Yteegdbbmamabiaa
open Go.RowKit

end Go.Proofs.Yteegdbbmamabiaa

/- Values told in each codec: putSimple, putSame, putValues. -/
namespace Go.Proofs.Yteegdbbmamabiaa
open Go.RowKit

theorem last_take {us : List Nat} {i x : Nat} (h : us[i]? = some x) : (us.take (i + 1)).getLast?.getD 0 = x := by
  rw [take_succ_of h, List.getLast?_concat]
  rfl
theorem NewRow.own {w w1 : World} {v : Value} {bs : List Nat} (h : NewRow w w1 v bs.length (cells8 bs)) : Own w.heap.size w1 5 v (cells8 bs) := by
  obtain ⟨h1, _, h3⟩ := h
  unfold Own
  rw [cells8_length]
  refine ⟨h1.1, ?_⟩
  rcases h1.2 with hn | ⟨g, cap, cur, rfl, _, rest⟩
  · exact .inl hn
  · refine .inr ⟨g, cap, cur, rfl, ?_, rest⟩
    rcases h3 with h3 | ⟨r, h3, hr⟩
    · simp [Value.ownBlock] at h3
    · have : g = r := by simpa [Value.ownBlock] using h3
      omega
/-- The first i differences. -/
def StepTo (w wr : World) (us : List Nat) (i : Nat) (v : Value) (last : Nat) : Prop :=
  Own w.heap.size wr 41 v (cellsU (stepsU 0 (us.take i))) ∧ last = (us.take i).getLast?.getD 0 ∧ last < 2 ^ 64 ∧ Mod (fun _ => False) w wr
theorem StepTo.step {w wr w2 : World} {us : List Nat} {i x last : Nat} {v v2 : Value} {z : Int} (h : StepTo w wr us i v last) (hx : us[i]? = some x) (hx64 : x < 2 ^ 64) (hz : z = zig (sg ((x + M64 - last) % M64)))
    (ho : Own w.heap.size w2 41 v2 (cellsU (stepsU 0 (us.take i)) ++ [.int .u64 z])) (hb : Below w.heap.size wr w2) : StepTo w w2 us (i + 1) v2 x := by
  obtain ⟨_, h2, _, h4⟩ := h
  refine ⟨?_, (last_take hx).symm, hx64, h4.trans (Mod.of_below hb) (fun i hi h => by omega)⟩
  rw [take_succ_of hx, stepsU_snoc, ← h2, cellsU_snoc, stepU_int, ← hz]
  exact ho
end Go.Proofs.Yteegdbbmamabiaa

/- Values told in a codec: putValues. -/
namespace Go.Proofs.Yteegdbbmamabiaa
open Go.RowKit

theorem EncB.of_own {w w' : World} {bs : List Nat} {v : Value} (h : Own w.heap.size w' 5 v (cells8 bs)) (hm : Mod (fun _ => False) w w') : EncB w w' (some bs) (.returned (.tuple #[v, .bool true])) := ⟨v, rfl, h, hm⟩
theorem EncB.parts {w w' : World} {o : Option (List Nat)} {e : Ending} (h : EncB w w' o e) : ∃ v, e = .returned (.tuple #[v, .bool o.isSome]) ∧ EncB w w' o (.returned (.tuple #[v, .bool o.isSome])) := by
  cases o with
  | none => obtain ⟨rfl, hm⟩ := h; exact ⟨_, rfl, rfl, hm⟩
  | some bs => obtain ⟨v, rfl, h1, h2⟩ := h; exact ⟨v, rfl, v, rfl, h1, h2⟩
end Go.Proofs.Yteegdbbmamabiaa

/- A row of samples told in a codec: Encode. -/
namespace Go.Proofs.Yteegdbbmamabiaa
open Go.RowKit

end Go.Proofs.Yteegdbbmamabiaa

/- The times that bytes begin with, and what is behind them: getTimes. -/
namespace Go.Proofs.Yteegdbbmamabiaa
open Go.RowKit

def GetT (w w' : World) (o : Option (List Int × List Nat)) (e : Ending) : Prop :=
  match o with
  | some (ts, rest) => ∃ A1 c1 A2 c2, e = .returned (.tuple #[.slice A1 ts.length c1, .slice A2 rest.length c2, .bool true]) ∧ A2 ≠ none ∧ rest.length ≤ c2 ∧ c2 ≤ maxLen ∧ Rds w' w'.heap.size A1 ts.length (cellsI ts) ∧ Rds w' w.heap.size A2 rest.length (cells8 rest) ∧ Mod (fun _ => False) w w'
  | none => ∃ v1 v2, e = .returned (.tuple #[v1, v2, .bool false]) ∧ Mod (fun _ => False) w w'
theorem GetT.some_ {w w' : World} {o : Option (List Int × List Nat)} {ts : List Int} {rest : List Nat} {e : Ending} (h : GetT w w' o e) (ho : o = some (ts, rest)) :
    ∃ A1 c1 A2 c2, e = .returned (.tuple #[.slice A1 ts.length c1, .slice A2 rest.length c2, .bool true]) ∧ A2 ≠ none ∧ rest.length ≤ c2 ∧ c2 ≤ maxLen ∧ Rds w' w'.heap.size A1 ts.length (cellsI ts) ∧ Rds w' w.heap.size A2 rest.length (cells8 rest) ∧ Mod (fun _ => False) w w' := by
  subst ho
  exact h
theorem GetT.none_ {w w' : World} {o : Option (List Int × List Nat)} {e : Ending} (h : GetT w w' o e) (ho : o = none) : ∃ v1 v2, e = .returned (.tuple #[v1, v2, .bool false]) ∧ Mod (fun _ => False) w w' := by
  subst ho
  exact h
end Go.Proofs.Yteegdbbmamabiaa

/- The document's own: numbers of so many bits each are packed behind bytes, and unpacked. -/
namespace Go.Proofs.Yteegdbbmamabiaa
open Go.RowKit

end Go.Proofs.Yteegdbbmamabiaa

/- Bytes are read as values by their list: read, Decode. -/
namespace Go.Proofs.Yteegdbbmamabiaa
open Go.RowKit Go.Maps

end Go.Proofs.Yteegdbbmamabiaa

/- Bytes are read as values by their least: read, Decode. -/
namespace Go.Proofs.Yteegdbbmamabiaa
open Go.RowKit

end Go.Proofs.Yteegdbbmamabiaa

/- A turn is read: get. -/
namespace Go.Proofs.Yteegdbbmamabiaa
open Go.RowKit

/-- Behind the window's own bits: which window is told, and whether anew. -/
def Mid (win s : Option (Nat × Nat)) (a z : Nat) (fresh : Bool) (s' : Option (Nat × Nat)) : Prop :=
  (getO 1 s).1 ≠ 0 ∧ ((fresh = false ∧ (getO 1 (getO 1 s).2).1 = 0 ∧ a = winA win ∧ z = winS win ∧ s' = (getO 1 (getO 1 s).2).2) ∨
    (fresh = true ∧ (getO 1 (getO 1 s).2).1 ≠ 0 ∧ a = (getO 5 (getO 1 (getO 1 s).2).2).1 ∧ z = (getO 6 (getO 5 (getO 1 (getO 1 s).2).2).2).1 + 1 ∧ s' = (getO 6 (getO 5 (getO 1 (getO 1 s).2).2).2).2))
section
variable {win s s' : Option (Nat × Nat)} {a z : Nat} {fresh : Bool}
theorem Mid.bounds (h : Mid win s a z fresh s') (hs : SmallO s) (hw : WinOk win) : a ≤ 31 ∧ z ≤ 64 ∧ SmallO s' := by
  obtain ⟨_, ⟨_, _, h1, h2, h3⟩ | ⟨_, _, h1, h2, h3⟩⟩ := h
  · have := win_bounds hw
    exact ⟨by omega, by omega, h3 ▸ (hs.get 1).get 1⟩
  · have e1 := ((hs.get 1).get 1).lt 5
    have e2 := (((hs.get 1).get 1).get 5).lt 6
    exact ⟨by omega, by omega, h3 ▸ (((hs.get 1).get 1).get 5).get 6⟩
theorem Mid.far (h : Mid win s a z fresh s') (hw : WinOk win) (hf : 64 < a + z) : stO win s = none := by
  obtain ⟨h0, ⟨_, _, h1, h2, _⟩ | ⟨_, h1, h2, h3, _⟩⟩ := h
  · have := win_bounds hw
    omega
  · exact stO_far h0 h1 (by rw [← h2, ← h3]; exact hf)
end
end Go.Proofs.Yteegdbbmamabiaa

/- Rows of values are read: Decode. -/
namespace Go.Proofs.Yteegdbbmamabiaa
open Go.RowKit

end Go.Proofs.Yteegdbbmamabiaa

/- Values read in each codec: getSimple, getSame, getValues. -/
namespace Go.Proofs.Yteegdbbmamabiaa
open Go.RowKit

/-- Differences turned into values, as far as i. -/
def BackTo (w wr : World) (us : List Nat) (A : Option Addr) (L c i last : Nat) : Prop :=
  Own w.heap.size wr 41 (.slice A L c) (cellsU (unstepsU 0 (us.take i) ++ us.drop i)) ∧ last = (unstepsU 0 (us.take i)).getLast?.getD 0 ∧ last < 2 ^ 64 ∧ Mod (fun _ => False) w wr
theorem BackTo.step {w wr : World} {us : List Nat} {A : Option Addr} {L c i last u : Nat} (h : BackTo w wr us A L c i last) (hL : us.length = L) (hi : i < L) (hu : us[i]? = some u) :
    ∃ g, A = some ⟨g, 0, none⟩ ∧ w.heap.size ≤ g ∧ wr.cell? ⟨g, i, none⟩ = some (.int .u64 (u : Int)) ∧ wr.frozen? ⟨g, i, none⟩ = false ∧ BackTo w (wr.setCell ⟨g, i, none⟩ (.int .u64 (backU last u : Int))) us A L c (i + 1) (backU last u) := by
  obtain ⟨h1, h2, h3, h4⟩ := h
  have hlen : (unstepsU 0 (us.take i) ++ us.drop i).length = L := by rw [List.length_append, unstepsU_len, List.length_take, List.length_drop]; omega
  obtain ⟨g, cap, hv, hgB, _⟩ := h1.form' (by rw [cellsU_length, hlen]; omega)
  have hA : A = some ⟨g, 0, none⟩ := by injection hv
  subst hA
  have ht : (us.take i).length = i := by rw [List.length_take]; omega
  obtain ⟨a1, a2, a3⟩ := own_setU (k := i) (b := backU last u) h1 hlen.symm hi
  have hc := h1.cell' rfl i (by rw [cellsU_length, hlen]; exact hi)
  have hget : (unstepsU 0 (us.take i) ++ us.drop i)[i]? = some u := by
    rw [List.getElem?_append_right (by rw [unstepsU_len]; omega), unstepsU_len, ht, Nat.sub_self, List.getElem?_drop, Nat.add_zero]
    exact hu
  refine ⟨g, rfl, hgB, ?_, a2, ?_, ?_, backU_lt _ _, mod_new h4 hgB _⟩
  · rw [hc, cellsU_get, hget]
    rfl
  · have e : (unstepsU 0 (us.take i) ++ us.drop i).set i (backU last u) = unstepsU 0 (us.take (i + 1)) ++ us.drop (i + 1) := by
      rw [List.set_append_right _ _ (by rw [unstepsU_len]; omega), unstepsU_len, ht, Nat.sub_self, drop_at' hu, List.set_cons_zero, take_succ_of hu, unstepsU_snoc, ← h2, List.append_assoc]
      rfl
    rw [e] at a3
    exact a3
  · rw [take_succ_of hu, unstepsU_snoc, ← h2, List.getLast?_concat]
    rfl
theorem EncE.of_own {w w' : World} {us : List Nat} {v : Value} (h : Own w.heap.size w' 41 v (cellsU us)) (hm : Mod (fun _ => False) w w') : EncE w w' (some us) (.returned (.tuple #[v, .bool true])) := ⟨v, rfl, h, hm⟩
theorem EncE.parts {w w' : World} {o : Option (List Nat)} {e : Ending} (h : EncE w w' o e) : ∃ v, e = .returned (.tuple #[v, .bool o.isSome]) ∧ EncE w w' o (.returned (.tuple #[v, .bool o.isSome])) := by
  cases o with
  | none => obtain ⟨rfl, hm⟩ := h; exact ⟨_, rfl, rfl, hm⟩
  | some bs => obtain ⟨v, rfl, h1, h2⟩ := h; exact ⟨v, rfl, v, rfl, h1, h2⟩
end Go.Proofs.Yteegdbbmamabiaa

/- Values read in a codec: getSame, getValues. -/
namespace Go.Proofs.Yteegdbbmamabiaa
open Go.RowKit

end Go.Proofs.Yteegdbbmamabiaa

/- A row of samples read in a codec: read, Decode. -/
namespace Go.Proofs.Yteegdbbmamabiaa
open Go.RowKit

/-- A row of samples and true, or nil and false. -/
def EncS (w w' : World) (o : Option (List (Int × Nat))) (e : Ending) : Prop :=
  match o with
  | some l => ∃ v, e = .returned (.tuple #[v, .bool true]) ∧ OwnS w.heap.size w' v l ∧ Mod (fun _ => False) w w'
  | none => e = .returned (.tuple #[.slice none 0 0, .bool false]) ∧ Mod (fun _ => False) w w'
theorem EncS.some_ {w w' : World} {o : Option (List (Int × Nat))} {l : List (Int × Nat)} {e : Ending} (h : EncS w w' o e) (ho : o = some l) : ∃ v, e = .returned (.tuple #[v, .bool true]) ∧ OwnS w.heap.size w' v l ∧ Mod (fun _ => False) w w' := by
  subst ho
  exact h
theorem EncS.none_ {w w' : World} {o : Option (List (Int × Nat))} {e : Ending} (h : EncS w w' o e) (ho : o = none) : e = .returned (.tuple #[.slice none 0 0, .bool false]) ∧ Mod (fun _ => False) w w' := by
  subst ho
  exact h
/-- As a row and a bool. -/
theorem EncS.any {w w' : World} {o : Option (List (Int × Nat))} {e : Ending} (h : EncS w w' o e) : ∃ (A : Option Addr) (c : Nat), e = .returned (.tuple #[.slice A (o.getD []).length c, .bool o.isSome]) ∧ RdsS w' w'.heap.size A (o.getD []).length (o.getD []) ∧ Mod (fun _ => False) w w' := by
  cases o with
  | none => obtain ⟨rfl, hm⟩ := h; exact ⟨none, 0, rfl, RdsS.nil _ _ _, hm⟩
  | some l =>
    obtain ⟨v, rfl, ho, hm⟩ := h
    obtain ⟨A, c, rfl, _, _, hr⟩ := ho.form
    exact ⟨A, c, rfl, hr, hm⟩
end Go.Proofs.Yteegdbbmamabiaa

/- Chunks, of the code: Open. -/
namespace Go.Proofs.Yteegdbbmamabiaa
open Go.RowKit

/-- What Open answers. -/
def EncO (w w' : World) (o : Option (List (Int × Nat) × Nat)) (e : Ending) : Prop :=
  match o with
  | some (l, t) => ∃ v, e = .returned (.tuple #[v, .int .i64 (t : Int), .bool true]) ∧ OwnS w.heap.size w' v l ∧ Mod (fun _ => False) w w'
  | none => e = .returned (.tuple #[.slice none 0 0, .int .i64 0, .bool false]) ∧ Mod (fun _ => False) w w'
theorem EncO.some_ {w w' : World} {o : Option (List (Int × Nat) × Nat)} {l : List (Int × Nat)} {t : Nat} {e : Ending} (h : EncO w w' o e) (ho : o = some (l, t)) : ∃ v, e = .returned (.tuple #[v, .int .i64 (t : Int), .bool true]) ∧ OwnS w.heap.size w' v l ∧ Mod (fun _ => False) w w' := by
  rw [ho] at h
  exact h
theorem EncO.none_ {w w' : World} {o : Option (List (Int × Nat) × Nat)} {e : Ending} (h : EncO w w' o e) (ho : o = none) : e = .returned (.tuple #[.slice none 0 0, .int .i64 0, .bool false]) ∧ Mod (fun _ => False) w w' := by
  rw [ho] at h
  exact h
theorem EncO.any {w w' : World} {o : Option (List (Int × Nat) × Nat)} {e : Ending} (h : EncO w w' o e) : ∃ (A : Option Addr) (c : Nat), e = .returned (.tuple #[.slice A ((o.map (·.1)).getD []).length c, .int .i64 (((o.map (·.2)).getD 0 : Nat) : Int), .bool o.isSome]) ∧ RdsS w' w'.heap.size A ((o.map (·.1)).getD []).length ((o.map (·.1)).getD []) ∧ Mod (fun _ => False) w w' := by
  cases o with
  | none =>
    obtain ⟨rfl, hm⟩ := h
    exact ⟨none, 0, rfl, RdsS.nil _ _ _, hm⟩
  | some p =>
    obtain ⟨v, rfl, ho, hm⟩ := h
    obtain ⟨A, c, rfl, _, _, hr⟩ := ho.form
    exact ⟨A, c, rfl, hr, hm⟩
end Go.Proofs.Yteegdbbmamabiaa

/- Work by steps, of the code: what a task is in memory; a row copied; newTask, step, done, bad. -/
namespace Go.Proofs.Yteegdbbmamabiaa
open Go.RowKit

/-- Samples as elements of two cells. -/
def rowsS (l : List (Int × Nat)) : List (List Value) := l.map fun p => [Value.int .i64 p.1, Value.int .u64 (p.2 : Int)]
theorem rowsS_flat (l : List (Int × Nat)) : (rowsS l).flatten = cellsS l := by simp [rowsS, cellsS, List.flatMap_def]
theorem rowsS_len (l : List (Int × Nat)) : (rowsS l).length = l.length := by simp [rowsS]
theorem rowsS_all (l : List (Int × Nat)) : AllK 2 (rowsS l) := by
  intro r hr
  simp only [rowsS, List.mem_map] at hr
  obtain ⟨p, _, rfl⟩ := hr
  rfl
theorem RdsS.toK {w : World} {B n : Nat} {A : Option Addr} {l : List (Int × Nat)} (h : RdsS w B A n l) : RdsK 2 w B A n (rowsS l) := ⟨by rw [rowsS_len, h.1], rowsS_all l, by rw [rowsS_flat]; exact h.2⟩
theorem OwnK.toS {w : World} {B : Nat} {v : Value} {l : List (Int × Nat)} (h : OwnK 2 B w 43 v (rowsS l)) : OwnS B w v l := by
  have := h.2
  rw [rowsS_len, rowsS_flat] at this
  exact this
theorem eltS2 : EltK Try.prog 27 43 (.agg #[.int .i64 0, .int .u64 0]) 2 16 := EltK.mk Try.underlying27 infoS rfl (by decide)
/-- A struct of three cells is written. -/
theorem Blk.three {w : World} {g : Nat} {t : TypeId} {c0 c1 c2 : Value} (h : Blk w g t #[c0, c1, c2]) (a b c : Value) :
    (((w.setCell ⟨g, 0, none⟩ a).setCell ⟨g, 1, none⟩ b).setCell ⟨g, 2, none⟩ c).cell? ⟨g, 0, none⟩ = some a ∧ (((w.setCell ⟨g, 0, none⟩ a).setCell ⟨g, 1, none⟩ b).setCell ⟨g, 2, none⟩ c).cell? ⟨g, 1, none⟩ = some b ∧
    (((w.setCell ⟨g, 0, none⟩ a).setCell ⟨g, 1, none⟩ b).setCell ⟨g, 2, none⟩ c).cell? ⟨g, 2, none⟩ = some c ∧
    Blk (((w.setCell ⟨g, 0, none⟩ a).setCell ⟨g, 1, none⟩ b).setCell ⟨g, 2, none⟩ c) g t #[a, b, c] := by
  have h3 : Blk (((w.setCell ⟨g, 0, none⟩ a).setCell ⟨g, 1, none⟩ b).setCell ⟨g, 2, none⟩ c) g t #[a, b, c] := by
    have := ((h.set_ 0 a).set_ 1 b).set_ 2 c
    simpa using this
  refine ⟨?_, ?_, ?_, h3⟩
  · have := h3.cell 0; simpa using this
  · have := h3.cell 1; simpa using this
  · have := h3.cell 2; simpa using this
end Go.Proofs.Yteegdbbmamabiaa

/- Samples that come (13.1): what an open list is, and what comes of it; rows of samples copied. -/
namespace Go.Proofs.Yteegdbbmamabiaa
open Go.RowKit

/-- Whether one has ever come, the last one's time, those that are in no chunk yet. -/
structure OpnN where
  any : Bool
  last : Int
  list : List (Int × Nat)
/-- Is p refused? -/
def noN (o : OpnN) (p : Int × Nat) : Bool := o.any && decide (p.1 ≤ o.last)
def addN (o : OpnN) (p : Int × Nat) : OpnN := if noN o p then o else ⟨true, p.1, o.list ++ [p]⟩
def errN (o : OpnN) (p : Int × Nat) : Int := if noN o p then 1 else 0
theorem addN_no {o : OpnN} {p : Int × Nat} (h : noN o p = true) : addN o p = o := by simp [addN, h]
theorem errN_no {o : OpnN} {p : Int × Nat} (h : noN o p = true) : errN o p = 1 := by simp [errN, h]
/-- The chunk that an open list is closed to; nothing of none. -/
def chkN (o : OpnN) : List Nat := (makeC 1 o.list).getD []
/-- What is answered: an open list whose row is the call's own, and an error. -/
def OpnEnd (w w' : World) (o : OpnN) (x : Int) (e : Ending) : Prop := ∃ v, e = .returned (.tuple #[.agg #[.bool o.any, .int .i64 o.last, v], .int .i64 x]) ∧ OwnS w.heap.size w' v o.list ∧ Mod (fun _ => False) w w'

theorem OpnEnd.no {w w' : World} {b : Bool} {t T : Int} {l : List (Int × Nat)} {V : Nat} {e : Ending} (h : OpnEnd w w' (addN ⟨b, t, l⟩ (T, V)) (errN ⟨b, t, l⟩ (T, V)) e) (hno : noN ⟨b, t, l⟩ (T, V) = true) :
    ∃ v, e = .returned (.tuple #[.agg #[.bool b, .int .i64 t, v], .int .i64 1]) ∧ OwnS w.heap.size w' v l ∧ Mod (fun _ => False) w w' := by
  rw [addN_no hno, errN_no hno] at h
  exact h
/-- .. bytes of the call's own, and the open list without its row. -/
def ShutEnd (w w' : World) (o : OpnN) (e : Ending) : Prop := ∃ v, e = .returned (.tuple #[v, .agg #[.bool o.any, .int .i64 o.last, .slice none 0 0]]) ∧ Own w.heap.size w' 5 v (cells8 (chkN o)) ∧ Mod (fun _ => False) w w'
theorem ShutEnd.drew {w w' : World} {o : OpnN} {e : Ending} (h : ShutEnd w w' o e) : ShutEnd w w'.drew o e := by
  obtain ⟨v, e1, h1, h2⟩ := h
  exact ⟨v, e1, h1.drew, h2.drew⟩
theorem EncB.bytes {w w' : World} {o : Option (List Nat)} {e : Ending} (h : EncB w w' o e) : ∃ v b, e = .returned (.tuple #[v, .bool b]) ∧ Own w.heap.size w' 5 v (cells8 (o.getD [])) ∧ Mod (fun _ => False) w w' := by
  cases ho : o with
  | none =>
    obtain ⟨rfl, hm⟩ := EncB.none_ h ho
    exact ⟨_, _, rfl, Own.nil _ _ _, hm⟩
  | some bs =>
    obtain ⟨v, rfl, hown, hm⟩ := EncB.some_ h ho
    exact ⟨v, _, rfl, hown, hm⟩
/-- append([]api.Sample(nil), l..) and append([]api.Sample{}, l..) -/
theorem oneS (l : List (Int × Nat)) : ∀ u ∈ (rowsS l).flatten, u.oneCell' = true := by rw [rowsS_flat]; exact cellsS_one _
theorem OwnK.nilS (B : Nat) (w : World) : OwnK 2 B w 43 (.slice none 0 0) [] := OwnK.nil _ _ _ _
end Go.Proofs.Yteegdbbmamabiaa

/- Where series are: the mathematics of the directory (chapter 18): sixteen slots, each with a flag. -/
namespace Go.Proofs.Yteegdbbmamabiaa

structure PartN where
  blob : Int
  tag : Int
  count : Int
  from_ : Int
  to_ : Int
structure SlotN where
  there : Bool
  shut : Bool
  life : Int
  ver : Int
  opn : OpnN
  chunks : List PartN
structure DirN where
  slot : Nat → SlotN
  flag : Nat → Option Int
def zeroSlot : SlotN := ⟨false, false, 0, 0, ⟨false, 0, []⟩, []⟩
def newD : DirN := ⟨fun _ => zeroSlot, fun _ => none⟩
def inD (id : Int) : Prop := 0 ≤ id ∧ id < 16
instance (id : Int) : Decidable (inD id) := by unfold inD; infer_instance
def lookD (d : DirN) (id : Int) : Option SlotN := if inD id ∧ (d.slot id.toNat).ver % 2 = 0 then some (d.slot id.toNat) else none
def putD (d : DirN) (i : Nat) (s : SlotN) (f : Option Int) : DirN := ⟨fun j => if j = i then s else d.slot j, fun j => if j = i then f else d.flag j⟩
def takeD (d : DirN) (id who : Int) : DirN × Bool :=
  if inD id ∧ d.flag id.toNat = none then (putD d id.toNat { d.slot id.toNat with ver := (d.slot id.toNat).ver + 1 } (some who), true) else (d, false)
def leaveD (d : DirN) (id who : Int) (s : SlotN) : DirN × Bool :=
  if inD id ∧ d.flag id.toNat = some who then (putD d id.toNat { s with ver := (d.slot id.toNat).ver + 1 } none, true) else (d, false)
def flagD (d : DirN) (id : Int) : Option Int := if inD id then d.flag id.toNat else none
/-- A version is odd just where somebody has the flag; none is more than m. -/
structure GoodD (m : Int) (d : DirN) : Prop where
  ver : ∀ i, 0 ≤ (d.slot i).ver ∧ (d.slot i).ver ≤ m
  odd : ∀ i, (d.slot i).ver % 2 = 0 ↔ d.flag i = none
section
variable {d : DirN} {m id who : Int} {s : SlotN}
theorem goodD_new : GoodD 0 newD := ⟨fun _ => ⟨Int.le_refl _, Int.le_refl _⟩, fun _ => ⟨fun _ => rfl, fun _ => rfl⟩⟩
theorem GoodD.mono {m' : Int} (h : GoodD m d) (hm : m ≤ m') : GoodD m' d := ⟨fun i => ⟨(h.ver i).1, Int.le_trans (h.ver i).2 hm⟩, h.odd⟩
theorem put_at (d : DirN) (i : Nat) (s : SlotN) (f : Option Int) : (putD d i s f).slot i = s ∧ (putD d i s f).flag i = f := ⟨if_pos rfl, if_pos rfl⟩
theorem put_other {i j : Nat} (h : j ≠ i) (d : DirN) (s : SlotN) (f : Option Int) : (putD d i s f).slot j = d.slot j ∧ (putD d i s f).flag j = d.flag j := ⟨if_neg h, if_neg h⟩
theorem good_take (h : GoodD m d) (id who : Int) : GoodD (m + 1) (takeD d id who).1 := by
  unfold takeD
  by_cases hc : inD id ∧ d.flag id.toNat = none
  · rw [if_pos hc]
    refine ⟨fun i => ?_, fun i => ?_⟩
    · by_cases hi : i = id.toNat
      · subst hi
        rw [(put_at _ _ _ _).1]
        have := h.ver id.toNat
        exact ⟨by show 0 ≤ _ + 1; omega, by show _ + 1 ≤ _; omega⟩
      · rw [(put_other hi _ _ _).1]
        have := h.ver i
        omega
    · by_cases hi : i = id.toNat
      · subst hi
        rw [(put_at _ _ _ _).1, (put_at _ _ _ _).2]
        have := (h.odd id.toNat).2 hc.2
        constructor
        · intro e
          have e : ((d.slot id.toNat).ver + 1) % 2 = 0 := e
          omega
        · intro e; cases e
      · rw [(put_other hi _ _ _).1, (put_other hi _ _ _).2]
        exact h.odd i
  · rw [if_neg hc]
    exact h.mono (by omega)
theorem good_leaveD (h : GoodD m d) (id who : Int) (s : SlotN) : GoodD (m + 1) (leaveD d id who s).1 := by
  unfold leaveD
  by_cases hc : inD id ∧ d.flag id.toNat = some who
  · rw [if_pos hc]
    refine ⟨fun i => ?_, fun i => ?_⟩
    · by_cases hi : i = id.toNat
      · subst hi
        rw [(put_at _ _ _ _).1]
        have := h.ver id.toNat
        exact ⟨by show 0 ≤ _ + 1; omega, by show _ + 1 ≤ _; omega⟩
      · rw [(put_other hi _ _ _).1]
        have := h.ver i
        omega
    · by_cases hi : i = id.toNat
      · subst hi
        rw [(put_at _ _ _ _).1, (put_at _ _ _ _).2]
        have hne : ¬ (d.slot id.toNat).ver % 2 = 0 := fun e => by have := (h.odd id.toNat).1 e; rw [hc.2] at this; cases this
        constructor
        · intro _; rfl
        · intro _; show ((d.slot id.toNat).ver + 1) % 2 = 0; omega
      · rw [(put_other hi _ _ _).1, (put_other hi _ _ _).2]
        exact h.odd i
  · rw [if_neg hc]
    exact h.mono (by omega)
/-- It is looked at just where nobody has the flag. -/
theorem look_free (h : GoodD m d) (id : Int) : lookD d id = if inD id ∧ d.flag id.toNat = none then some (d.slot id.toNat) else none := by
  unfold lookD
  by_cases hc : inD id ∧ (d.slot id.toNat).ver % 2 = 0
  · rw [if_pos hc, if_pos ⟨hc.1, (h.odd _).1 hc.2⟩]
  · rw [if_neg hc, if_neg (fun hc' => hc ⟨hc'.1, (h.odd _).2 hc'.2⟩)]
theorem take_yes (hi : inD id) (hf : d.flag id.toNat = none) : takeD d id who = (putD d id.toNat { d.slot id.toNat with ver := (d.slot id.toNat).ver + 1 } (some who), true) := if_pos ⟨hi, hf⟩
theorem take_no (h : ¬ (inD id ∧ d.flag id.toNat = none)) : takeD d id who = (d, false) := if_neg h
theorem leave_yes (hi : inD id) (hf : d.flag id.toNat = some who) : leaveD d id who s = (putD d id.toNat { s with ver := (d.slot id.toNat).ver + 1 } none, true) := if_pos ⟨hi, hf⟩
theorem leave_no (h : ¬ (inD id ∧ d.flag id.toNat = some who)) : leaveD d id who s = (d, false) := if_neg h
end
end Go.Proofs.Yteegdbbmamabiaa

/- The directory's scripts: what the calls of DireVers, DireMany, DireOwn and of the law's awake come to. -/
namespace Go.Proofs.Yteegdbbmamabiaa

theorem inD_nat {i : Nat} (h : i < 16) : inD (i : Int) := ⟨by omega, by omega⟩
section
variable {d : DirN} {m who : Int} {i : Nat} {s s0 : SlotN}
/-- One takes a free slot, and leaves s: nobody else may meanwhile, nor twice. -/
theorem trip (hi : i < 16) (hg : GoodD m d) (hf : d.flag i = none) (s s0 : SlotN) (who : Int) : ∃ d1 d2, lookD d (i : Int) = some (d.slot i) ∧ takeD d (i : Int) who = (d1, true) ∧ (∀ k, takeD d1 (i : Int) k = (d1, false)) ∧ flagD d1 (i : Int) = some who ∧ flagD d2 (i : Int) = none ∧ (∀ k, k ≠ who → leaveD d1 (i : Int) k s0 = (d1, false)) ∧ lookD d1 (i : Int) = none ∧
    leaveD d1 (i : Int) who s = (d2, true) ∧ (∀ s1, leaveD d2 (i : Int) who s1 = (d2, false)) ∧ GoodD (m + 1) d1 ∧ GoodD (m + 2) d2 ∧ d2.slot i = { s with ver := (d.slot i).ver + 2 } ∧ (∀ j, d2.flag j = d.flag j) ∧ (∀ j, j ≠ i → d2.slot j = d.slot j) ∧ lookD d2 (i : Int) = some { s with ver := (d.slot i).ver + 2 } := by
  have hin := inD_nat hi
  have ht : (i : Int).toNat = i := by omega
  have e1 := take_yes (d := d) (who := who) hin (by rw [ht]; exact hf)
  have g1 := good_take hg (i : Int) who
  rw [e1] at g1
  obtain ⟨d1, hd1⟩ : ∃ d1, putD d (i : Int).toNat { d.slot (i : Int).toNat with ver := (d.slot (i : Int).toNat).ver + 1 } (some who) = d1 := ⟨_, rfl⟩
  have f1 : d1.flag i = some who := by rw [← hd1, ht]; exact (put_at _ _ _ _).2
  have s1 : d1.slot i = { d.slot i with ver := (d.slot i).ver + 1 } := by rw [← hd1, ht]; exact (put_at _ _ _ _).1
  have o1 : ∀ j, j ≠ i → d1.slot j = d.slot j ∧ d1.flag j = d.flag j := fun j hj => by rw [← hd1, ht]; exact put_other hj _ _ _
  rw [hd1] at e1 g1
  have e2 := leave_yes (d := d1) (who := who) (s := s) hin (by rw [ht]; exact f1)
  have g2 := good_leaveD g1 (i : Int) who s
  rw [e2] at g2
  obtain ⟨d2, hd2⟩ : ∃ d2, putD d1 (i : Int).toNat { s with ver := (d1.slot (i : Int).toNat).ver + 1 } none = d2 := ⟨_, rfl⟩
  have f2 : d2.flag i = none := by rw [← hd2, ht]; exact (put_at _ _ _ _).2
  have s2 : d2.slot i = { s with ver := (d.slot i).ver + 2 } := by
    rw [← hd2, ht, (put_at _ _ _ _).1, s1]
    show ({ s with ver := (d.slot i).ver + 1 + 1 } : SlotN) = _
    rw [show (d.slot i).ver + 1 + 1 = (d.slot i).ver + 2 by omega]
  have o2 : ∀ j, j ≠ i → d2.slot j = d1.slot j ∧ d2.flag j = d1.flag j := fun j hj => by rw [← hd2, ht]; exact put_other hj _ _ _
  rw [hd2] at e2 g2
  refine ⟨d1, d2, ?_, e1, fun k => take_no (by rw [ht, f1]; intro h; cases h.2), by unfold flagD; rw [if_pos hin, ht, f1], by unfold flagD; rw [if_pos hin, ht, f2], fun k hk => leave_no (by rw [ht, f1]; intro h; injection h.2 with h; exact hk h.symm), ?_, e2, fun s1 => leave_no (by rw [ht, f2]; intro h; cases h.2), g1, by have := g2; rwa [show m + 1 + 1 = m + 2 by omega] at this, s2, fun j => ?_, fun j hj => ?_, ?_⟩
  · rw [look_free hg, ht, if_pos ⟨hin, hf⟩]
  · rw [look_free g1, ht, f1, if_neg (by intro h; cases h.2)]
  · by_cases hj : j = i
    · rw [hj, f2, hf]
    · rw [(o2 j hj).2, (o1 j hj).2]
  · rw [(o2 j hj).1, (o1 j hj).1]
  · rw [look_free g2, ht, f2, if_pos ⟨hin, rfl⟩, s2]
end
/-- DireVers: nobody has a flag; these are the versions and the lives. -/
structure VersD (d : DirN) (vs ls : List Int) : Prop where
  free : ∀ i, i < 16 → d.flag i = none
  ver : ∀ i, i < 16 → vs[i]? = some (d.slot i).ver
  life : ∀ i, i < 16 → ls[i]? = some (d.slot i).life
theorem VersD.step {d d2 : DirN} {vs ls : List Int} {i : Nat} {s : SlotN} (h : VersD d vs ls) (hi : i < 16) (h1 : d2.slot i = { s with ver := (d.slot i).ver + 2 }) (h2 : ∀ j, d2.flag j = d.flag j) (h3 : ∀ j, j ≠ i → d2.slot j = d.slot j) : VersD d2 (vs.set i ((d.slot i).ver + 2)) (ls.set i s.life) := by
  refine ⟨fun j hj => by rw [h2]; exact h.free j hj, fun j hj => ?_, fun j hj => ?_⟩
  · by_cases e : i = j
    · subst e
      rw [h1, List.getElem?_set_self (by have := (List.getElem?_eq_some_iff.1 (h.ver i hi)).1; exact this)]
    · rw [List.getElem?_set_ne e, h3 j (fun x => e x.symm)]
      exact h.ver j hj
  · by_cases e : i = j
    · subst e
      rw [h1, List.getElem?_set_self (by have := (List.getElem?_eq_some_iff.1 (h.life i hi)).1; exact this)]
    · rw [List.getElem?_set_ne e, h3 j (fun x => e x.symm)]
      exact h.life j hj
end Go.Proofs.Yteegdbbmamabiaa

/- A series at one moment: the mathematics of snaps (chapter 19): which parts and samples a span meets; parts held once more each, or none. -/
namespace Go.Proofs.Yteegdbbmamabiaa

section
variable {s : BloN} {id k : Int}
end
end Go.Proofs.Yteegdbbmamabiaa

/- Slots and snaps in memory: rows of parts (five cells each); a slot's eight cells, with its open list and its parts. -/
namespace Go.Proofs.Yteegdbbmamabiaa
open Go.RowKit

def partC (p : PartN) : List Value := [.int .i64 p.blob, .int .i64 p.tag, .int .i64 p.count, .int .i64 p.from_, .int .i64 p.to_]
theorem partC_all (ps : List PartN) : AllK 5 (ps.map partC) := by
  intro r hr
  obtain ⟨p, _, rfl⟩ := List.mem_map.1 hr
  rfl
theorem partC_one (ps : List PartN) : ∀ u ∈ (ps.map partC).flatten, u.oneCell' = true := by
  intro u hu
  obtain ⟨r, hr, hu⟩ := List.mem_flatten.1 hu
  obtain ⟨p, _, rfl⟩ := List.mem_map.1 hr
  simp only [partC, List.mem_cons, List.not_mem_nil, or_false] at hu
  rcases hu with rfl | rfl | rfl | rfl | rfl <;> rfl
/-- The slice at A reads as these parts, below block B; a row of them of the call's own. -/
def RdsPt (w : World) (B : Nat) (A : Option Addr) (n : Nat) (ps : List PartN) : Prop := RdsK 5 w B A n (ps.map partC)
def OwnPt (B : Nat) (w : World) (e : TypeId) (v : Value) (ps : List PartN) : Prop := OwnK 5 B w e v (ps.map partC)
section
variable {w w' : World} {B B' n i : Nat} {A : Option Addr} {v : Value} {e : TypeId} {ps : List PartN}
theorem RdsPt.nil (w : World) (B : Nat) (A : Option Addr) : RdsPt w B A 0 [] := RdsK.nil _ _ _ _
theorem RdsPt.fit (h : RdsPt w B A n ps) : RdsPt w w.heap.size A n ps := RdsK.fit h
theorem RdsPt.new (h : RdsPt w B A n ps) (hm : Mod (fun _ => False) w w') : RdsPt w' w.heap.size A n ps := RdsK.new h hm
theorem RdsPt.mod {S : Nat → Prop} (h : RdsPt w B A n ps) (hm : Mod S w w') (hB : B ≤ w.heap.size) (hS : ∀ j, j < B → ¬ S j) : RdsPt w' B A n ps := RdsK.mod h hm hB hS
theorem RdsPt.more (h : RdsPt w B A n ps) (hB : B ≤ B') : RdsPt w B' A n ps := RdsK.more h hB
theorem RdsPt.len (h : RdsPt w B A n ps) : ps.length = n := by have := h.1; rwa [List.length_map] at this
/-- The i-th part: its cells as the model's loads spell them. -/
theorem RdsPt.at_ (h : RdsPt w B A n ps) (hi : i < n) : ∃ ad p, A = some ad ∧ ad.block < B ∧ ps[i]? = some p ∧
    w.cell? (ad.add (i * 5)) = some (.int .i64 p.blob) ∧ w.cell? ⟨(ad.add (i * 5)).block, (ad.add (i * 5)).off + 1, none⟩ = some (.int .i64 p.tag) ∧ w.cell? ⟨(ad.add (i * 5)).block, (ad.add (i * 5)).off + 2, none⟩ = some (.int .i64 p.count) ∧
    w.cell? ⟨(ad.add (i * 5)).block, (ad.add (i * 5)).off + 3, none⟩ = some (.int .i64 p.from_) ∧ w.cell? ⟨(ad.add (i * 5)).block, (ad.add (i * 5)).off + 4, none⟩ = some (.int .i64 p.to_) := by
  obtain ⟨ad, r, e, hb, hr, hl, hc⟩ := RdsK.at_ h hi (by decide)
  rw [List.getElem?_map] at hr
  obtain ⟨p, hp, rfl⟩ := Option.map_eq_some_iff.1 hr
  refine ⟨ad, p, e, hb, hp, hc 0 _ rfl, ?_, ?_, ?_, ?_⟩
  · rw [add_cellK 5 _ _ _ (by decide)]; exact hc 1 _ rfl
  · rw [add_cellK 5 _ _ _ (by decide)]; exact hc 2 _ rfl
  · rw [add_cellK 5 _ _ _ (by decide)]; exact hc 3 _ rfl
  · rw [add_cellK 5 _ _ _ (by decide)]; exact hc 4 _ rfl
theorem OwnPt.nil (B : Nat) (w : World) (e : TypeId) : OwnPt B w e (.slice none 0 0) [] := OwnK.nil _ _ _ _
theorem OwnPt.mod (h : OwnPt B w e v ps) (hm : Mod (fun _ => False) w w') : OwnPt B w' e v ps := OwnK.mod h hm
theorem OwnPt.mono (h : OwnPt B w e v ps) (hB : B' ≤ B) : OwnPt B' w e v ps := OwnK.mono h hB
theorem OwnPt.block (h : OwnPt B w e v ps) : ∀ k, v.ownBlock = some k → B ≤ k ∧ k < w.heap.size := OwnK.block h
theorem OwnPt.formN (h : OwnPt B w e v ps) : ∃ A L c, v = .slice A L c ∧ Hid (ps.length = L) ∧ L ≤ c ∧ c ≤ maxLen ∧ RdsPt w w.heap.size A L ps := by
  obtain ⟨A, L, c, h1, h2, h3⟩ := OwnK.formN h
  exact ⟨A, L, c, h1, Lib.hid (by have := h2.out; rwa [List.length_map] at this), h3⟩
end
/-- A slot's eight cells, its open list at vl, its parts at vc. -/
def slotC (s : SlotN) (vl vc : Value) : List Value := [.bool s.there, .bool s.shut, .int .i64 s.life, .int .i64 s.ver, .bool s.opn.any, .int .i64 s.opn.last, vl, vc]
/-- What lies behind these two. -/
def SlotR (w : World) (B : Nat) (s : SlotN) (vl vc : Value) : Prop := SliS w B vl s.opn.list ∧ ∃ A n c, vc = .slice A n c ∧ n ≤ c ∧ c ≤ maxLen ∧ RdsPt w B A n s.chunks
section
variable {w w' : World} {B B' : Nat} {s : SlotN} {vl vc : Value}
theorem SlotR.mod {S : Nat → Prop} (h : SlotR w B s vl vc) (hm : Mod S w w') (hB : B ≤ w.heap.size) (hS : ∀ j, j < B → ¬ S j) : SlotR w' B s vl vc := by
  obtain ⟨h1, A, n, c, h2, h3, h4, h5⟩ := h
  exact ⟨h1.mod hm hB hS, A, n, c, h2, h3, h4, h5.mod hm hB hS⟩
theorem SlotR.new (h : SlotR w B s vl vc) (hm : Mod (fun _ => False) w w') : SlotR w' w.heap.size s vl vc := by
  obtain ⟨h1, A, n, c, h2, h3, h4, h5⟩ := h
  exact ⟨h1.new hm, A, n, c, h2, h3, h4, h5.new hm⟩
theorem SlotR.more (h : SlotR w B s vl vc) (hB : B ≤ B') : SlotR w B' s vl vc := by
  obtain ⟨h1, A, n, c, h2, h3, h4, h5⟩ := h
  exact ⟨h1.more hB, A, n, c, h2, h3, h4, h5.more hB⟩
theorem SlotR.fit (h : SlotR w B s vl vc) : SlotR w w.heap.size s vl vc := by
  obtain ⟨h1, A, n, c, h2, h3, h4, h5⟩ := h
  exact ⟨h1.fit, A, n, c, h2, h3, h4, h5.fit⟩
theorem SlotR.zero (w : World) (B : Nat) : SlotR w B zeroSlot (.slice none 0 0) (.slice none 0 0) := ⟨SliS.nil _ _, none, 0, 0, rfl, Nat.le_refl _, Nat.zero_le _, RdsPt.nil _ _ _⟩
/-- The version alone is another one. -/
theorem SlotR.ver (h : SlotR w B s vl vc) (v : Int) : SlotR w B { s with ver := v } vl vc := h
end
end Go.Proofs.Yteegdbbmamabiaa

/- The model goes on: how long rows are, what numbers are; what an iterator has stays, whatever others do. -/
namespace Go.Proofs.Yteegdbbmamabiaa

/-- Rows of at most k samples, all of them numbers that fit. -/
def LenM (m : ModN) (k : Nat) : Prop := (∀ s ∈ m.ser, s.l.length ≤ k ∧ GoodS s.l ∧ Fits s.last) ∧ (∀ i ∈ m.ite, i.rest.length ≤ k ∧ GoodS i.rest)
theorem LenM.nil (k : Nat) : LenM .nil k := ⟨fun _ h => (by cases h), fun _ h => (by cases h)⟩
theorem LenM.more {m : ModN} {k k' : Nat} (h : LenM m k) (hk : k ≤ k') : LenM m k' :=
  ⟨fun s hs => ⟨Nat.le_trans (h.1 s hs).1 hk, (h.1 s hs).2⟩, fun s hs => ⟨Nat.le_trans (h.2 s hs).1 hk, (h.2 s hs).2⟩⟩
end Go.Proofs.Yteegdbbmamabiaa

/- Models in memory: one cell of one element written, one element more, what else turns; a struct of five cells; the op of a number. -/
namespace Go.Proofs.Yteegdbbmamabiaa
open Go.RowKit

section
variable {w w' : World} {B B' g n cap i j : Nat} {e : TypeId} {v : Value}
/-- What is done to a row whose elements are of another type leaves samples alone. -/
theorem OwnS.besides {K : Nat} {u : Value} {l : List (Int × Nat)} {rows : List (List Value)} (h : OwnS B w u l) (hv : OwnK K B' w e v rows) (hne : e ≠ 43) (hm : Mod (fun k => v.ownBlock = some k) w w') : OwnS B w' u l :=
  hm.owns h (fun k hk hk' => owns_apart hv.2 h hne k hk' hk)
theorem OwnSer.put {ps qs : List (SerN × Value)} (h : OwnSer B w e v ps) (hm : Mod (fun k => v.ownBlock = some k) w w') (hne : e ≠ 43) {v' : Value} (hK : OwnK 5 B w' e v' (qs.map serC)) (hq : ∀ p ∈ qs, p ∈ ps ∨ OwnS B w p.2 p.1.l) : OwnSer B w' e v' qs :=
  ⟨hK, fun p hp => (((hq p hp).elim (fun h1 => h.2 p h1) (fun h1 => h1)).besides h.1 hne hm)⟩
theorem OwnIte.put {ps qs : List (IteN × Value)} (h : OwnIte B w e v ps) (hm : Mod (fun k => v.ownBlock = some k) w w') (hne : e ≠ 43) {v' : Value} (hK : OwnK 2 B w' e v' (qs.map iteC)) (hq : ∀ p ∈ qs, p ∈ ps ∨ OwnS B w p.2 p.1.rest) : OwnIte B w' e v' qs :=
  ⟨hK, fun p hp => (((hq p hp).elim (fun h1 => h.2 p h1) (fun h1 => h1)).besides h.1 hne hm)⟩
/-- A struct of five cells is written. -/
theorem Blk.five {t : TypeId} {c0 c1 c2 c3 c4 : Value} (h : Blk w g t #[c0, c1, c2, c3, c4]) (a b c d f : Value) :
    let W := ((((w.setCell ⟨g, 0, none⟩ a).setCell ⟨g, 1, none⟩ b).setCell ⟨g, 2, none⟩ c).setCell ⟨g, 3, none⟩ d).setCell ⟨g, 4, none⟩ f
    W.cell? ⟨g, 0, none⟩ = some a ∧ W.cell? ⟨g, 1, none⟩ = some b ∧ W.cell? ⟨g, 2, none⟩ = some c ∧ W.cell? ⟨g, 3, none⟩ = some d ∧ W.cell? ⟨g, 4, none⟩ = some f ∧ Blk W g t #[a, b, c, d, f] := by
  have h3 := ((((h.set_ 0 a).set_ 1 b).set_ 2 c).set_ 3 d).set_ 4 f
  have h4 : Blk (((((w.setCell ⟨g, 0, none⟩ a).setCell ⟨g, 1, none⟩ b).setCell ⟨g, 2, none⟩ c).setCell ⟨g, 3, none⟩ d).setCell ⟨g, 4, none⟩ f) g t #[a, b, c, d, f] := by simpa using h3
  refine ⟨?_, ?_, ?_, ?_, ?_, h4⟩
  · have := h4.cell 0; simpa using this
  · have := h4.cell 1; simpa using this
  · have := h4.cell 2; simpa using this
  · have := h4.cell 3; simpa using this
  · have := h4.cell 4; simpa using this
end

end Go.Proofs.Yteegdbbmamabiaa

/- Rows of the call's own written in place: runs of cells stored; append with room, copy, clear, of elements of K cells. -/
namespace Go.Proofs.Yteegdbbmamabiaa
open Go.RowKit

/-- A run of cells laid over a row. -/
def over (cs : List Value) (o : Nat) (vs : List Value) : List Value := cs.take o ++ vs ++ cs.drop (o + vs.length)
theorem over_len {cs vs : List Value} {o : Nat} (h : o + vs.length ≤ cs.length) : (over cs o vs).length = cs.length := by
  simp only [over, List.length_append, List.length_take, List.length_drop]
  omega
theorem over_take {cs vs : List Value} {o n : Nat} (h : o + vs.length ≤ n) (hn : n ≤ cs.length) : (over cs o vs).take n = over (cs.take n) o vs := by
  unfold over
  rw [List.take_append, List.take_append, List.take_of_length_le (by rw [List.length_take]; omega), List.take_of_length_le (l := vs) (by rw [List.length_take]; omega), List.take_take, Nat.min_eq_left (by omega), List.drop_take]
  congr 2
  rw [List.length_append, List.length_take]
  omega
section
variable {w w' : World} {g o : Nat} {t : TypeId} {cs : Array Value}
theorem Blk.setCells : ∀ {vs : List Value} {o : Nat} {w : World} {cs : Array Value}, Blk w g t cs → o + vs.length ≤ cs.size → Blk (w.setCells g o vs) g t (over cs.toList o vs).toArray := by
  intro vs
  induction vs with
  | nil =>
    intro o w cs h _
    have e : (over cs.toList o []).toArray = cs := by simp [over]
    rw [e]
    exact h
  | cons v r ih =>
    intro o w cs h hl
    have h2 := ih (h.set_ o v) (o := o + 1) (by simp at hl ⊢; omega)
    have e : over (cs.setIfInBounds o v).toList (o + 1) r = over cs.toList o (v :: r) := by
      unfold over
      have hk : o + (r.length + 1) ≤ cs.toList.length := by simp at hl ⊢; omega
      have h3 := list_seg_step cs.toList o v r hk
      rw [Array.toList_setIfInBounds]
      simpa using h3
    rw [e] at h2
    exact h2
theorem mod_setCells (w : World) (g : Nat) : ∀ (vs : List Value) (o : Nat) (w1 : World), Mod (fun k => k = g) w w1 → Mod (fun k => k = g) w (w1.setCells g o vs) := by
  intro vs
  induction vs with
  | nil => intro o w1 h; exact h
  | cons v r ih => intro o w1 h; exact ih (o + 1) _ (h.setCell (p := ⟨g, o, none⟩) (fun _ => rfl) v)
theorem Mod.setCells (w : World) (g o : Nat) (vs : List Value) : Mod (fun k => k = g) w (w.setCells g o vs) := mod_setCells w g vs o w (Mod.refl _ _)
theorem Blk.some_ (h : Blk w g t cs) {i : Nat} (hi : i < cs.size) : (w.cell? ⟨g, i, none⟩).isSome = true := by
  rw [h.cell i, Array.getElem?_eq_getElem hi]
  rfl
end
section
variable {K B : Nat} {w w' : World} {e : TypeId} {v : Value} {rows news : List (List Value)} {g n cap : Nat}
/-- The block behind a row of the call's own. -/
theorem OwnK.blk (h : OwnK K B w e (.slice (some ⟨g, 0, none⟩) n cap) rows) : ∃ cur, Blk w g e cur ∧ B ≤ g ∧ rows.length = n ∧ n ≤ cap ∧ cap ≤ maxLen ∧ cur.size = cap * K ∧ cur.toList.take (n * K) = rows.flatten := by
  rcases h.2.2 with ⟨h1, _⟩ | ⟨g', cap', cur, h1, hB, hgg, hnc, hcm, hcs, htk⟩
  · cases h1
  · injection h1 with h1 h2 h3
    injection h1 with h1
    injection h1 with h1
    subst h1 h3
    refine ⟨cur, hgg, hB, h2.symm, ?_, hcm, hcs, ?_⟩
    · rw [h2]; exact hnc
    · rw [h2]; exact htk
theorem OwnK.of_blk {cur : Array Value} (hb : Blk w g e cur) (hB : B ≤ g) (hr : rows.length = n) (hn : n ≤ cap) (hc : cap ≤ maxLen) (hs : cur.size = cap * K) (ha : AllK K rows) (ht : cur.toList.take (n * K) = rows.flatten) : OwnK K B w e (.slice (some ⟨g, 0, none⟩) n cap) rows := by
  refine ⟨ha, flat_len ha, .inr ⟨g, cap, cur, by rw [hr], hB, hb, by omega, hc, hs, by rw [hr]; exact ht⟩⟩
/-- Whole elements laid over a row, from its p-th on. -/
theorem over_rows {p : Nat} (ha : AllK K rows) (hn : AllK K news) : over rows.flatten (p * K) news.flatten = (rows.take p ++ news ++ rows.drop (p + news.length)).flatten := by
  unfold over
  rw [flat_len hn, ← Nat.add_mul, flat_take p ha, flat_drop (p + news.length) ha, List.flatten_append, List.flatten_append]
theorem OwnK.laid {p : Nat} (h : OwnK K B w e (.slice (some ⟨g, 0, none⟩) n cap) rows) (hn : AllK K news) (hp : p + news.length ≤ n) :
    OwnK K B (w.setCells g (p * K) news.flatten) e (.slice (some ⟨g, 0, none⟩) n cap) (rows.take p ++ news ++ rows.drop (p + news.length)) := by
  obtain ⟨cur, hb, hB, hr, hnc, hc, hs, ht⟩ := h.blk
  have hfl := flat_len hn
  have h1 : p * K + news.flatten.length ≤ n * K := by rw [hfl, ← Nat.add_mul]; exact Nat.mul_le_mul_right K hp
  have h2 : n * K ≤ cap * K := Nat.mul_le_mul_right K hnc
  have hsz : cur.toList.length = cap * K := by simpa using hs
  refine OwnK.of_blk (hb.setCells (by omega)) hB ?_ hnc hc ?_ ?_ ?_
  · simp only [List.length_append, List.length_take, List.length_drop]; omega
  · rw [List.size_toArray, over_len (by omega), hsz]
  · exact ((h.1.take p).app hn).app (h.1.drop _)
  · show (over cur.toList (p * K) news.flatten).take (n * K) = _
    rw [over_take h1 (by omega), ht, over_rows h.1 hn]
/-- .. and what lies behind the row is written: s = s[:k] after its spare cells took them. -/
theorem OwnK.grown {m : Nat} (h : OwnK K B w e (.slice (some ⟨g, 0, none⟩) n cap) rows) (hn : AllK K news) (hm : news.length = m) (hp : n + m ≤ cap) :
    OwnK K B (w.setCells g (n * K) news.flatten) e (.slice (some ⟨g, 0, none⟩) (n + m) cap) (rows ++ news) := by
  obtain ⟨cur, hb, hB, hr, hnc, hc, hs, ht⟩ := h.blk
  have hfl := flat_len hn
  have h1 : n * K + news.flatten.length = (n + m) * K := by rw [hfl, hm, ← Nat.add_mul]
  have h2 : (n + m) * K ≤ cap * K := Nat.mul_le_mul_right K hp
  have hsz : cur.toList.length = cap * K := by simpa using hs
  refine OwnK.of_blk (hb.setCells (by omega)) hB ?_ hp hc ?_ (h.1.app hn) ?_
  · rw [List.length_append]; omega
  · rw [List.size_toArray, over_len (by omega), hsz]
  · show (over cur.toList (n * K) news.flatten).take ((n + m) * K) = _
    rw [over_take (by omega) (by omega)]
    unfold over
    rw [List.take_take, Nat.min_eq_left (by omega), ht, List.drop_of_length_le (by rw [List.length_take]; omega), List.append_nil, List.flatten_append]
/-- What lies behind the row is written. -/
theorem OwnK.behind {o : Nat} {vs : List Value} (h : OwnK K B w e (.slice (some ⟨g, 0, none⟩) n cap) rows) (ho : n * K ≤ o) (hl : o + vs.length ≤ cap * K) : OwnK K B (w.setCells g o vs) e (.slice (some ⟨g, 0, none⟩) n cap) rows := by
  obtain ⟨cur, hb, hB, hr, hnc, hc, hs, ht⟩ := h.blk
  have hsz : cur.toList.length = cap * K := by simpa using hs
  refine OwnK.of_blk (hb.setCells (by omega)) hB hr hnc hc ?_ h.1 ?_
  · rw [List.size_toArray, over_len (by omega), hsz]
  · show (over cur.toList o vs).take (n * K) = _
    unfold over
    rw [List.append_assoc, List.take_append_of_le_length (by rw [List.length_take]; omega), List.take_take, Nat.min_eq_left ho, ht]
end
section
variable {P : Program} {w : World} {t e : TypeId} {z : Value} {K bytes B : Nat}
end
section
variable {P : Program} {w : World}
end
end Go.Proofs.Yteegdbbmamabiaa

/- Arrays in memory: rows of K cells inside a block, with other cells ahead of them and behind; arrays of whole numbers. -/
namespace Go.Proofs.Yteegdbbmamabiaa
open Go.RowKit

/-- Block g is A, then these rows of K cells each, then C. -/
def SegK (K : Nat) (w : World) (g : Nat) (t : TypeId) (A : List Value) (rows : List (List Value)) (C : List Value) : Prop := AllK K rows ∧ Blk w g t (A ++ (rows.flatten ++ C)).toArray
section
variable {K g i j o : Nat} {w w' : World} {t : TypeId} {A C r : List Value} {rows : List (List Value)} {u : Value}
theorem SegK.lt (h : SegK K w g t A rows C) : g < w.heap.size := h.2.lt
theorem SegK.mod {S : Nat → Prop} (h : SegK K w g t A rows C) (hm : Mod S w w') (hS : ¬ S g) : SegK K w' g t A rows C := ⟨h.1, hm.blk h.2 hS⟩
theorem seg_get (ha : AllK K rows) (hr : rows[i]? = some r) (hj : j < K) (ho : o = A.length + (i * K + j)) : (A ++ (rows.flatten ++ C))[o]? = r[j]? := by
  have hi : i < rows.length := (List.getElem?_eq_some_iff.1 hr).1
  have h1 : i * K + K ≤ rows.length * K := by
    have := Nat.mul_le_mul_right K hi
    rwa [Nat.succ_mul] at this
  rw [ho, List.getElem?_append_right (by omega), show A.length + (i * K + j) - A.length = i * K + j by omega, List.getElem?_append_left (by rw [flat_len ha]; omega)]
  exact flat_get ha hr hj
/-- A cell of the i-th row. -/
theorem SegK.cell (h : SegK K w g t A rows C) (hr : rows[i]? = some r) (hu : r[j]? = some u) (ho : o = A.length + (i * K + j)) : w.cell? ⟨g, o, none⟩ = some u := by
  have hj : j < K := by
    have := (List.getElem?_eq_some_iff.1 hu).1
    rwa [h.1 r (List.mem_of_getElem? hr)] at this
  rw [h.2.cell o]
  simp only [List.getElem?_toArray]
  rw [seg_get h.1 hr hj ho, hu]
theorem SegK.frozen (h : SegK K w g t A rows C) (o : Nat) : w.frozen? ⟨g, o, none⟩ = false := h.2.frozen o
/-- One cell of the i-th row written. -/
theorem SegK.set_ (h : SegK K w g t A rows C) (hr : rows[i]? = some r) (hj : j < K) (ho : o = A.length + (i * K + j)) (u : Value) : SegK K (w.setCell ⟨g, o, none⟩ u) g t A (rows.set i (r.set j u)) C := by
  have hi : i < rows.length := (List.getElem?_eq_some_iff.1 hr).1
  have h1 : i * K + K ≤ rows.length * K := by
    have := Nat.mul_le_mul_right K hi
    rwa [Nat.succ_mul] at this
  refine ⟨h.1.set_ i (by rw [List.length_set]; exact h.1 r (List.mem_of_getElem? hr)), ?_⟩
  have h2 := h.2.set_ o u
  have e : (A ++ (rows.flatten ++ C)).toArray.setIfInBounds o u = (A ++ ((rows.set i (r.set j u)).flatten ++ C)).toArray := by
    rw [List.setIfInBounds_toArray, ho, List.set_append_right _ _ (by omega), show A.length + (i * K + j) - A.length = i * K + j by omega, List.set_append_left _ _ (by rw [flat_len h.1]; omega), flat_set u h.1 hr hj]
  rw [e] at h2
  exact h2
theorem SegK.post (h : SegK K w g t A rows C) (hu : C[j]? = some u) (ho : o = A.length + (rows.length * K + j)) : w.cell? ⟨g, o, none⟩ = some u := by
  rw [h.2.cell o]
  simp only [List.getElem?_toArray]
  rw [ho, List.getElem?_append_right (by omega), show A.length + (rows.length * K + j) - A.length = rows.length * K + j by omega, List.getElem?_append_right (by rw [flat_len h.1]; omega), flat_len h.1, show rows.length * K + j - rows.length * K = j by omega, hu]
/-- A whole row written. -/
theorem seg_over {r' : List Value} (ha : AllK K rows) (hi : i < rows.length) (hr : r'.length = K) (ho : o = A.length + i * K) : over (A ++ (rows.flatten ++ C)) o r' = A ++ ((rows.set i r').flatten ++ C) := by
  have h1 : i * K + K ≤ rows.length * K := by
    have := Nat.mul_le_mul_right K hi
    rwa [Nat.succ_mul] at this
  have e : rows.set i r' = rows.take i ++ r' :: rows.drop (i + 1) := by rw [List.set_eq_take_append_cons_drop, if_pos hi]
  unfold over
  rw [ho, List.take_append, List.take_of_length_le (by omega), show A.length + i * K - A.length = i * K by omega, List.take_append_of_le_length (by rw [flat_len ha]; omega), flat_take i ha, hr, List.drop_append, List.drop_eq_nil_of_le (by omega), List.nil_append, show A.length + i * K + K - A.length = (i + 1) * K by rw [Nat.succ_mul]; omega, List.drop_append_of_le_length (by rw [flat_len ha, Nat.succ_mul]; omega), flat_drop (i + 1) ha, e, List.flatten_append, List.flatten_cons]
  simp only [List.append_assoc]
theorem SegK.put {r' : List Value} (h : SegK K w g t A rows C) (hi : i < rows.length) (hr : r'.length = K) (ho : o = A.length + i * K) : SegK K (w.setCells g o r') g t A (rows.set i r') C := by
  have h1 : i * K + K ≤ rows.length * K := by
    have := Nat.mul_le_mul_right K hi
    rwa [Nat.succ_mul] at this
  refine ⟨h.1.set_ i hr, ?_⟩
  have h2 := h.2.setCells (o := o) (vs := r') (by rw [ho, hr]; simp only [List.size_toArray, List.length_append]; rw [flat_len h.1]; omega)
  rw [List.toList_toArray, seg_over h.1 hi hr ho] at h2
  exact h2
end
/-- An array of whole numbers. -/
def ArrI (w : World) (g : Nat) (t : TypeId) (zs : List Int) : Prop := Blk w g t (zs.map fun z => Value.int .i64 z).toArray
section
variable {g i : Nat} {w w' : World} {t : TypeId} {zs : List Int} {z : Int}
theorem ArrI.lt (h : ArrI w g t zs) : g < w.heap.size := Blk.lt h
theorem ArrI.mod {S : Nat → Prop} (h : ArrI w g t zs) (hm : Mod S w w') (hS : ¬ S g) : ArrI w' g t zs := hm.blk h hS
theorem ArrI.cell (h : ArrI w g t zs) (hz : zs[i]? = some z) : w.cell? ⟨g, i, none⟩ = some (.int .i64 z) := by
  rw [Blk.cell h i]
  simp only [List.getElem?_toArray, List.getElem?_map]
  rw [hz]
  rfl
theorem ArrI.frozen (h : ArrI w g t zs) (i : Nat) : w.frozen? ⟨g, i, none⟩ = false := Blk.frozen h i
theorem ArrI.set_ (h : ArrI w g t zs) (i : Nat) (z : Int) : ArrI (w.setCell ⟨g, i, none⟩ (.int .i64 z)) g t (zs.set i z) := by
  have h1 := Blk.set_ h i (.int .i64 z)
  unfold ArrI
  have e : (zs.map fun z => Value.int .i64 z).toArray.setIfInBounds i (.int .i64 z) = ((zs.set i z).map fun z => Value.int .i64 z).toArray := by
    rw [List.setIfInBounds_toArray, List.map_set]
  rw [e] at h1
  exact h1
end
end Go.Proofs.Yteegdbbmamabiaa

/- The directory in memory: rows of samples and of parts in blocks that a predicate names; sixteen places of nine cells each. -/
namespace Go.Proofs.Yteegdbbmamabiaa
open Go.RowKit

/-- The slice v reads as these elements of K cells; it lies in a block of them that B says may be. -/
def SliP (K : Nat) (t : TypeId) (B : Nat → Prop) (w : World) (v : Value) (rows : List (List Value)) : Prop :=
  ∃ A n c, v = .slice A n c ∧ rows.length = n ∧ AllK K rows ∧ n ≤ c ∧ c ≤ maxLen ∧ (0 < n → ∃ g o cs, A = some ⟨g, o, none⟩ ∧ B g ∧ Blk w g t cs ∧ ∀ j u, rows.flatten[j]? = some u → cs[o + j]? = some u)
section
variable {K : Nat} {t : TypeId} {w w' : World} {B B' : Nat → Prop} {v : Value} {rows : List (List Value)}
theorem SliP.nil (K : Nat) (t : TypeId) (B : Nat → Prop) (w : World) : SliP K t B w (.slice none 0 0) [] := ⟨none, 0, 0, rfl, rfl, AllK.nil _, Nat.le_refl _, Nat.zero_le _, fun h => absurd h (by decide)⟩
theorem SliP.form (h : SliP K t B w v rows) : ∃ A n c, v = .slice A n c ∧ Hid (rows.length = n) ∧ n ≤ c ∧ c ≤ maxLen ∧ RdsK K w w.heap.size A n rows := by
  obtain ⟨A, n, c, e, h1, h2, h3, h4, h5⟩ := h
  refine ⟨A, n, c, e, Lib.hid h1, h3, h4, h1, h2, by rw [flat_len h2, h1], fun h0 => ?_⟩
  obtain ⟨g, o, cs, rfl, _, hb, hc⟩ := h5 (Nat.pos_of_ne_zero (fun e => by subst e; simp at h0))
  exact ⟨_, rfl, hb.lt, fun j u hu => by rw [add_addr, hb.cell]; exact hc j u hu⟩
theorem SliP.rds {A : Option Addr} {n c : Nat} (h : SliP K t B w (.slice A n c) rows) : rows.length = n ∧ n ≤ c ∧ c ≤ maxLen ∧ RdsK K w w.heap.size A n rows := by
  obtain ⟨A', n', c', e, h1, h2, h3, h4⟩ := h.form
  injection e with e1 e2 e3
  subst e1 e2 e3
  exact ⟨h1.out, h2, h3, h4⟩
theorem SliP.mod {S : Nat → Prop} (h : SliP K t B w v rows) (hm : Mod S w w') (hS : ∀ k cs, B k → Blk w k t cs → ¬ S k) : SliP K t B w' v rows := by
  obtain ⟨A, n, c, e, h1, h2, h3, h4, h5⟩ := h
  refine ⟨A, n, c, e, h1, h2, h3, h4, fun h0 => ?_⟩
  obtain ⟨g, o, cs, e1, hB, hb, hc⟩ := h5 h0
  exact ⟨g, o, cs, e1, hB, hm.blk hb (hS g cs hB hb), hc⟩
theorem SliP.new (h : SliP K t B w v rows) (hm : Mod (fun _ => False) w w') : SliP K t B w' v rows := h.mod hm (fun _ _ _ _ h => h)
theorem SliP.mono (h : SliP K t B w v rows) (hB : ∀ k, B k → B' k) : SliP K t B' w v rows := by
  obtain ⟨A, n, c, e, h1, h2, h3, h4, h5⟩ := h
  refine ⟨A, n, c, e, h1, h2, h3, h4, fun h0 => ?_⟩
  obtain ⟨g, o, cs, e1, hB2, hb, hc⟩ := h5 h0
  exact ⟨g, o, cs, e1, hB g hB2, hb, hc⟩
theorem SliP.of_own {B0 : Nat} (h : OwnK K B0 w t v rows) (hB0 : ∀ k, B0 ≤ k → B k) : SliP K t B w v rows := by
  rcases h.2.2 with ⟨rfl, h0⟩ | ⟨g, cap, cur, rfl, hB, hgg, hnc, hcm, hcs, htk⟩
  · obtain rfl : rows = [] := List.eq_nil_of_length_eq_zero h0
    exact SliP.nil _ _ _ _
  · refine ⟨_, _, _, rfl, rfl, h.1, hnc, hcm, fun _ => ⟨g, 0, cur, rfl, hB0 g hB, hgg, fun j u hu => ?_⟩⟩
    rw [← htk, List.getElem?_take] at hu
    split at hu
    · rw [Nat.zero_add]; simpa using hu
    · cases hu
end
theorem RdsK.toS {w : World} {B n : Nat} {A : Option Addr} {l : List (Int × Nat)} (h : RdsK 2 w B A n (rowsS l)) : RdsS w B A n l := by
  obtain ⟨h1, _, h2⟩ := h
  rw [rowsS_len] at h1
  rw [rowsS_flat] at h2
  exact ⟨h1, h2⟩
theorem OwnS.toK {w : World} {B : Nat} {v : Value} {l : List (Int × Nat)} (h : OwnS B w v l) : OwnK 2 B w 43 v (rowsS l) := by
  refine ⟨rowsS_all l, ?_⟩
  rw [rowsS_len, rowsS_flat]
  exact h
theorem eltPt : EltK Try.prog 30 40 (.agg #[.int .i64 0, .int .i64 0, .int .i64 0, .int .i64 0, .int .i64 0]) 5 40 := EltK.mk Try.underlying30 (by kernel_rfl) rfl (by decide)
/-- What lies behind a slot's two rows: in blocks that B says may be. -/
def SlotP (B : Nat → Prop) (w : World) (s : SlotN) (vl vc : Value) : Prop :=
  SliP 2 43 B w vl (rowsS s.opn.list) ∧ SliP 5 40 B w vc (s.chunks.map partC) ∧ s.opn.list.length ≤ 8796093022208 ∧ s.chunks.length ≤ 1000000
section
variable {w w' : World} {B B' : Nat → Prop} {s : SlotN} {vl vc : Value}
theorem SlotP.mod {S : Nat → Prop} (h : SlotP B w s vl vc) (hm : Mod S w w') (hS : ∀ k t cs, B k → Blk w k t cs → t = 43 ∨ t = 40 → ¬ S k) : SlotP B w' s vl vc :=
  ⟨h.1.mod hm (fun k cs hB hb => hS k _ cs hB hb (.inl rfl)), h.2.1.mod hm (fun k cs hB hb => hS k _ cs hB hb (.inr rfl)), h.2.2⟩
theorem SlotP.new (h : SlotP B w s vl vc) (hm : Mod (fun _ => False) w w') : SlotP B w' s vl vc := h.mod hm (fun _ _ _ _ _ _ h => h)
theorem SlotP.mono (h : SlotP B w s vl vc) (hB : ∀ k, B k → B' k) : SlotP B' w s vl vc := ⟨h.1.mono hB, h.2.1.mono hB, h.2.2⟩
theorem SlotP.zero (B : Nat → Prop) (w : World) : SlotP B w zeroSlot (.slice none 0 0) (.slice none 0 0) := ⟨SliP.nil _ _ _ _, SliP.nil _ _ _ _, Nat.zero_le _, Nat.zero_le _⟩
theorem SlotP.ver (h : SlotP B w s vl vc) (v : Int) : SlotP B w { s with ver := v } vl vc := h
end
/-- A place's nine cells: a slot's eight, and whose flag it has. -/
def placeC (s : SlotN) (vl vc : Value) (o : Int) : List Value := slotC s vl vc ++ [.int .i64 o]
/-- The i-th place. -/
def PlcV (B : Nat → Prop) (w : World) (d : DirN) (i : Nat) (r : List Value) : Prop := ∃ vl vc o, r = placeC (d.slot i) vl vc o ∧ SlotP B w (d.slot i) vl vc ∧ ∀ who, d.flag i = some who → o = who
/-- A directory at block g: rows in blocks that B says may be; no version is more than N. -/
structure DirV (B : Nat → Prop) (g N : Nat) (w : World) (d : DirN) : Prop where
  good : GoodD (N : Int) d
  rows : ∃ rows, SegK 9 w g 58 [] rows [] ∧ rows.length = 16 ∧ ∀ i, i < 16 → ∃ r, rows[i]? = some r ∧ PlcV B w d i r
section
variable {w w' : World} {B B' : Nat → Prop} {g N i : Nat} {d : DirN} {r : List Value}
theorem PlcV.mod {S : Nat → Prop} (h : PlcV B w d i r) (hm : Mod S w w') (hS : ∀ k t cs, B k → Blk w k t cs → t = 43 ∨ t = 40 → ¬ S k) : PlcV B w' d i r := by
  obtain ⟨vl, vc, o, h1, h2, h3⟩ := h
  exact ⟨vl, vc, o, h1, h2.mod hm hS, h3⟩
theorem PlcV.mono (h : PlcV B w d i r) (hB : ∀ k, B k → B' k) : PlcV B' w d i r := by
  obtain ⟨vl, vc, o, h1, h2, h3⟩ := h
  exact ⟨vl, vc, o, h1, h2.mono hB, h3⟩
theorem DirV.lt (h : DirV B g N w d) : g < w.heap.size := by
  obtain ⟨rows, h1, _⟩ := h.rows
  exact h1.lt
theorem DirV.modS {S : Nat → Prop} (h : DirV B g N w d) (hm : Mod S w w') (hg : ¬ S g) (hS : ∀ k t cs, B k → Blk w k t cs → t = 43 ∨ t = 40 → ¬ S k) : DirV B g N w' d := by
  obtain ⟨h0, rows, h1, h2, h3⟩ := h
  refine ⟨h0, rows, h1.mod hm hg, h2, fun i hi => ?_⟩
  obtain ⟨r, h4, h5⟩ := h3 i hi
  exact ⟨r, h4, h5.mod hm hS⟩
theorem DirV.new (h : DirV B g N w d) (hm : Mod (fun _ => False) w w') : DirV B g N w' d := h.modS hm id (fun _ _ _ _ _ _ h => h)
theorem DirV.mono (h : DirV B g N w d) (hB : ∀ k, B k → B' k) : DirV B' g N w d := by
  obtain ⟨h0, rows, h1, h2, h3⟩ := h
  refine ⟨h0, rows, h1, h2, fun i hi => ?_⟩
  obtain ⟨r, h4, h5⟩ := h3 i hi
  exact ⟨r, h4, h5.mono hB⟩
theorem DirV.more {N' : Nat} (h : DirV B g N w d) (hN : N ≤ N') : DirV B g N' w d := ⟨h.good.mono (by omega), h.rows⟩
/-- The i-th place's cells. -/
theorem DirV.at_ (h : DirV B g N w d) (hi : i < 16) : ∃ vl vc o, SlotP B w (d.slot i) vl vc ∧ (∀ who, d.flag i = some who → o = who) ∧ (∀ j, w.frozen? ⟨g, j, none⟩ = false) ∧
    w.cell? ⟨g, i * 9, none⟩ = some (.bool (d.slot i).there) ∧ w.cell? ⟨g, i * 9 + 1, none⟩ = some (.bool (d.slot i).shut) ∧ w.cell? ⟨g, i * 9 + 2, none⟩ = some (.int .i64 (d.slot i).life) ∧ w.cell? ⟨g, i * 9 + 3, none⟩ = some (.int .i64 (d.slot i).ver) ∧
    w.cell? ⟨g, i * 9 + 4, none⟩ = some (.bool (d.slot i).opn.any) ∧ w.cell? ⟨g, i * 9 + 5, none⟩ = some (.int .i64 (d.slot i).opn.last) ∧ w.cell? ⟨g, i * 9 + 6, none⟩ = some vl ∧ w.cell? ⟨g, i * 9 + 7, none⟩ = some vc ∧ w.cell? ⟨g, i * 9 + 8, none⟩ = some (.int .i64 o) := by
  obtain ⟨h0, rows, h1, h2, h3⟩ := h
  obtain ⟨r, h4, vl, vc, o, rfl, h5, h6⟩ := h3 i hi
  have hc : ∀ j u, (placeC (d.slot i) vl vc o)[j]? = some u → w.cell? ⟨g, i * 9 + j, none⟩ = some u := fun j u hu => h1.cell h4 hu (by simp)
  exact ⟨vl, vc, o, h5, h6, h1.frozen, hc 0 _ rfl, hc 1 _ rfl, hc 2 _ rfl, hc 3 _ rfl, hc 4 _ rfl, hc 5 _ rfl, hc 6 _ rfl, hc 7 _ rfl, hc 8 _ rfl⟩
/-- One place's cells are others. -/
theorem DirV.put (h : DirV B g N w d) (hi : i < 16) (hm : Mod (fun k => k = g) w w') {s : SlotN} {f : Option Int} {vl vc : Value} {o : Int} (hs : SlotP B w' s vl vc) (hf : ∀ who, f = some who → o = who)
    (hw : ∀ rows, SegK 9 w g 58 [] rows [] → (∃ vl vc o, rows[i]? = some (placeC (d.slot i) vl vc o)) → SegK 9 w' g 58 [] (rows.set i (placeC s vl vc o)) []) (hne : ∀ k t cs, B k → Blk w k t cs → t = 43 ∨ t = 40 → k ≠ g) {N' : Nat} (hg : GoodD (N' : Int) (putD d i s f)) :
    DirV B g N' w' (putD d i s f) := by
  obtain ⟨h0, rows, h1, h2, h3⟩ := h
  obtain ⟨r, h4, vl0, vc0, o0, rfl, h5, h6⟩ := h3 i hi
  refine ⟨hg, _, hw rows h1 ⟨_, _, _, h4⟩, by rw [List.length_set, h2], fun j hj => ?_⟩
  by_cases e : i = j
  · subst e
    refine ⟨_, List.getElem?_set_self (by omega), vl, vc, o, by rw [(put_at _ _ _ _).1], by rw [(put_at _ _ _ _).1]; exact hs, by rw [(put_at _ _ _ _).2]; exact hf⟩
  · obtain ⟨r, h7, vl1, vc1, o1, rfl, h8, h9⟩ := h3 j hj
    have e2 : j ≠ i := fun x => e x.symm
    exact ⟨_, by rw [List.getElem?_set_ne e]; exact h7, vl1, vc1, o1, by rw [(put_other e2 _ _ _).1], by rw [(put_other e2 _ _ _).1]; exact h8.mod hm hne, by rw [(put_other e2 _ _ _).2]; exact h9⟩
/-- Blocks of rows are not the directory's. -/
theorem DirV.ne (h : DirV B g N w d) {k : Nat} {t : TypeId} {cs : Array Value} (hb : Blk w k t cs) (ht : t = 43 ∨ t = 40) : k ≠ g := by
  obtain ⟨_, rows, h1, _⟩ := h
  intro e
  subst e
  rcases ht with rfl | rfl
  · exact Blk.ne_ hb h1.2 (by decide) rfl
  · exact Blk.ne_ hb h1.2 (by decide) rfl
end
end Go.Proofs.Yteegdbbmamabiaa

/- The directory's copied: a slot whose rows lie in new memory; isSlot, isTaken. -/
namespace Go.Proofs.Yteegdbbmamabiaa
open Go.RowKit

/-- Eight cells written over. -/
theorem lay8 {w : World} {g : Nat} {t : TypeId} {c0 c1 c2 c3 c4 c5 c6 c7 : Value} (hb : Blk w g t #[c0, c1, c2, c3, c4, c5, c6, c7]) (u0 u1 u2 u3 u4 u5 u6 u7 : Value) :
    ∃ W, W = ((((((((w.setCell ⟨g, 0, none⟩ u0).setCell ⟨g, 1, none⟩ u1).setCell ⟨g, 2, none⟩ u2).setCell ⟨g, 3, none⟩ u3).setCell ⟨g, 4, none⟩ u4).setCell ⟨g, 5, none⟩ u5).setCell ⟨g, 6, none⟩ u6).setCell ⟨g, 7, none⟩ u7) ∧ Blk W g t #[u0, u1, u2, u3, u4, u5, u6, u7] ∧ Mod (fun j => j = g) w W := by
  have h := ((((((((hb.set_ 0 u0).set_ 1 u1).set_ 2 u2).set_ 3 u3).set_ 4 u4).set_ 5 u5).set_ 6 u6).set_ 7 u7)
  exact ⟨_, rfl, by simpa using h, (((((((((Mod.refl (fun j => j = g) w).setCell (p := ⟨g, 0, none⟩) (fun _ => rfl) u0).setCell (p := ⟨g, 1, none⟩) (fun _ => rfl) u1).setCell (p := ⟨g, 2, none⟩) (fun _ => rfl) u2).setCell (p := ⟨g, 3, none⟩) (fun _ => rfl) u3).setCell (p := ⟨g, 4, none⟩) (fun _ => rfl) u4).setCell (p := ⟨g, 5, none⟩) (fun _ => rfl) u5).setCell (p := ⟨g, 6, none⟩) (fun _ => rfl) u6).setCell (p := ⟨g, 7, none⟩) (fun _ => rfl) u7)⟩
set_option maxHeartbeats 1000000 in
set_option maxRecDepth 100000 in
theorem diCopied_any {bt bs ba : Bool} {li ve la : Int} {A A2 : Option Addr} {n c n2 c2 : Nat} {l : List (Int × Nat)} {ps : List PartN} (w : World) (hs : RdsS w w.heap.size A n l) (hp : RdsPt w w.heap.size A2 n2 ps) (hn : n ≤ 8796093022208) (hn2 : n2 ≤ 1000000) :
    Calls Try.prog 17 #[.agg #[.bool bt, .bool bs, .int .i64 li, .int .i64 ve, .bool ba, .int .i64 la, .slice A n c, .slice A2 n2 c2]] w fun e w' => ∃ A3 L3 c3 A4 L4 c4, e = .returned (.agg #[.bool bt, .bool bs, .int .i64 li, .int .i64 ve, .bool ba, .int .i64 la, .slice A3 L3 c3, .slice A4 L4 c4]) ∧ OwnS w.heap.size w' (.slice A3 L3 c3) l ∧ OwnPt w.heap.size w' 40 (.slice A4 L4 c4) ps ∧ Mod (fun _ => False) w w' := by
  obtain ⟨W, hW⟩ : ∃ W, W = (w.alloc (.cells #[.bool bt, .bool bs, .int .i64 li, .int .i64 ve, .bool ba, .int .i64 la, .slice A n c, .slice A2 n2 c2] 32)).alloc (.cells #[.bool false, .bool false, .int .i64 0, .int .i64 0, .bool false, .int .i64 0, .slice none 0 0, .slice none 0 0] 32) := ⟨_, rfl⟩
  obtain ⟨g0, hg0⟩ : ∃ g, g = w.heap.size := ⟨_, rfl⟩
  obtain ⟨g1, hg1⟩ : ∃ g, g = w.heap.size + 1 := ⟨_, rfl⟩
  have hmW : Mod (fun _ => False) w W := by rw [hW]; exact ((Mod.refl _ _).alloc _).alloc _
  have hsz : W.heap.size = g1 + 1 := by rw [hW, hg1]; simp
  have hb0 : Blk W g0 32 #[.bool bt, .bool bs, .int .i64 li, .int .i64 ve, .bool ba, .int .i64 la, .slice A n c, .slice A2 n2 c2] := by rw [hW, hg0]; exact (Blk.new _ _ _).alloc _
  have hb1 : Blk W g1 32 #[.bool false, .bool false, .int .i64 0, .int .i64 0, .bool false, .int .i64 0, .slice none 0 0, .slice none 0 0] := by
    rw [hW, hg1]
    have h := Blk.new (w.alloc (.cells #[.bool bt, .bool bs, .int .i64 li, .int .i64 ve, .bool ba, .int .i64 la, .slice A n c, .slice A2 n2 c2] 32)) 32 #[.bool false, .bool false, .int .i64 0, .int .i64 0, .bool false, .int .i64 0, .slice none 0 0, .slice none 0 0]
    simpa using h
  have hmap : (ps.map partC).length = n2 := by rw [List.length_map]; exact hp.len
  have Hs := Lib.hid (hs.new hmW).fit.toK; have Hp := Lib.hid (hp.new hmW); have Hone := Lib.hid (oneS l); have Hone2 := Lib.hid (partC_one ps)
  have HO0 : Hid (OwnK 2 W.heap.size W 43 (.slice none 0 0) []) := Lib.hid (OwnK.nilS _ _)
  have hr1 : ([] : List (List Value)).length + n ≤ maxLen := by unfold maxLen; simp; omega
  have hr2 : (([] : List (List Value)).length + n) * 16 ≤ 140737488355328 := by simp; omega
  have hr3 : ([] : List (List Value)).length + n2 ≤ maxLen := by unfold maxLen; simp; omega
  have hr4 : (([] : List (List Value)).length + n2) * 40 ≤ 140737488355328 := by simp; omega
  have HR := Lib.hid hr1; have HR2 := Lib.hid hr2; have HR3 := Lib.hid hr3; have HR4 := Lib.hid hr4; have Hn := Lib.hid hn; have Hn2 := Lib.hid hn2
  have z0 := (hb0).cell 0
  have z1 := (hb0).cell 1
  have z2 := (hb0).cell 2
  have z3 := (hb0).cell 3
  have z4 := (hb0).cell 4
  have z5 := (hb0).cell 5
  have z6 := (hb0).cell 6
  have z7 := (hb0).cell 7
  simp at z0 z1 z2 z3 z4 z5 z6 z7
  have Hb0 := Lib.hid hb0; have Hb1 := Lib.hid hb1; have HW := Lib.hid hW; have HmW := Lib.hid hmW; have Hsz := Lib.hid hsz; have Hg0 := Lib.hid hg0; have Hg1 := Lib.hid hg1
  clear hs hp hn hn2 hmap hr1 hr2 hr3 hr4 hb0 hb1 hW hmW hsz hg0 hg1
  go_enter Try.func17, Try.ntmps17
  go_upto_region 1 with fail
  rw [← HW.out, ← Hg1.out, ← Hg0.out]
  go_upto_region 2 with (at_builtin; refine wpList_appK rfl (.const (.slice none 0 0)) (.tmp 5) _ rfl eltS2 rfl HO0.out rfl Hs.out Hone.out HR.out HR2.out (Nat.le_refl _) ?_; intro v4 w4 HO HB HG; clear HG; obtain ⟨A3, L3, c3, rfl, HL3, _, _, _⟩ := HO.out.formN; have Hb4 := Lib.hid (Hb0.out.below HB.out (by have := Hsz.out; have := Hg0.out; have := Hg1.out; omega)); have y6 := Hb4.out.cell 6; have f6 := Hb4.out.frozen 6; simp at y6)
  obtain ⟨W5, hW5⟩ : ∃ W5, W5 = w4.setCell ⟨g0, 6, none⟩ (.slice A3 L3 c3) := ⟨_, rfl⟩
  have hm5 : Mod (fun j => j = g0) w4 W5 := by rw [hW5]; exact one_cell _ _ _ _
  have hb5 : Blk W5 g0 32 #[.bool bt, .bool bs, .int .i64 li, .int .i64 ve, .bool ba, .int .i64 la, .slice A3 L3 c3, .slice A2 n2 c2] := by rw [hW5]; have h := Hb4.out.set_ 6 (.slice A3 L3 c3); simpa using h
  have hmm5 : Mod (fun j => w.heap.size ≤ j) w W5 := ((HmW.out.mono (fun _ _ h => h.elim)).trans (Mod.of_below HB.out) (fun i hi h => by have := HmW.out.size; omega)).trans hm5 (fun i hi h => by have := Hg0.out; omega)
  have ho5 : OwnK 2 W.heap.size W5 43 (.slice A3 L3 c3) ([] ++ rowsS l) := OwnK.modS HO.out hm5 (fun k hk e => by have h1 := (OwnK.block HO.out k hk).1; have := Hsz.out; have := Hg1.out; have := Hg0.out; omega)
  have hb51 : Blk W5 g1 32 #[.bool false, .bool false, .int .i64 0, .int .i64 0, .bool false, .int .i64 0, .slice none 0 0, .slice none 0 0] := hm5.blk (Hb1.out.below HB.out (by have := Hsz.out; omega)) (by have := Hg1.out; have := Hg0.out; omega)
  have hz5 : W.heap.size ≤ W5.heap.size := Nat.le_trans HB.out.size hm5.size
  have hm5x : Mod (fun j => j = g0 ∨ W.heap.size ≤ j) W W5 := ((Mod.of_below HB.out).mono (fun _ _ h => Or.inr h)).trans hm5 (fun i hi h => Or.inl h)
  have hp5 : RdsPt W5 W5.heap.size A2 n2 ps := ((Hp.out.mod (hm5x) HmW.out.size (fun j hj e => by have := HmW.out.size; have := Hg0.out; omega)).fit)
  have HP5 := Lib.hid hp5
  have HO5 : Hid (OwnK 5 W5.heap.size W5 40 (.slice none 0 0) []) := Lib.hid (OwnK.nil _ _ _ _)
  have u7 := hb5.cell 7
  simp at u7
  have HW5 := Lib.hid hW5; have Hm5 := Lib.hid hm5; have Hb5 := Lib.hid hb5; have Hmm5 := Lib.hid hmm5; have Ho5 := Lib.hid ho5; have Hb51 := Lib.hid hb51; have Hz5 := Lib.hid hz5
  clear hW5 hm5 hb5 hmm5 ho5 hb51 hz5 hp5 z0 z1 z2 z3 z4 z5 z6 z7 y6 f6
  rw [← HW5.out]
  go_upto_region 3 with (at_builtin; refine wpList_appK rfl (.const (.slice none 0 0)) (.tmp 10) _ rfl eltPt rfl HO5.out rfl HP5.out Hone2.out HR3.out HR4.out (Nat.le_refl _) ?_; intro v6 w6 HO6 HB6 HG; clear HG; obtain ⟨A4, L4, c4, rfl, HL4, _, _, _⟩ := HO6.out.formN; have Hb6 := Lib.hid (Hb5.out.below HB6.out (by have := Hsz.out; have := Hg0.out; have := Hg1.out; have := Hz5.out; omega)); have y7 := Hb6.out.cell 7; have f7 := Hb6.out.frozen 7; simp at y7)
  obtain ⟨W7, hW7⟩ : ∃ W7, W7 = w6.setCell ⟨g0, 7, none⟩ (.slice A4 L4 c4) := ⟨_, rfl⟩
  have hm7 : Mod (fun j => j = g0) w6 W7 := by rw [hW7]; exact one_cell _ _ _ _
  have hb7 : Blk W7 g0 32 #[.bool bt, .bool bs, .int .i64 li, .int .i64 ve, .bool ba, .int .i64 la, .slice A3 L3 c3, .slice A4 L4 c4] := by rw [hW7]; have h := Hb6.out.set_ 7 (.slice A4 L4 c4); simpa using h
  have hb71 : Blk W7 g1 32 #[.bool false, .bool false, .int .i64 0, .int .i64 0, .bool false, .int .i64 0, .slice none 0 0, .slice none 0 0] := hm7.blk (Hb51.out.below HB6.out (by have := Hsz.out; have := Hz5.out; omega)) (by have := Hg1.out; have := Hg0.out; omega)
  have h57 : Mod (fun j => j = g0 ∨ W5.heap.size ≤ j) W5 W7 := ((Mod.of_below HB6.out).mono (fun _ _ h => Or.inr h)).trans hm7 (fun i hi h => Or.inl h)
  obtain ⟨W8, hW8, hb8, hm8⟩ := lay8 hb71 (.bool bt) (.bool bs) (.int .i64 li) (.int .i64 ve) (.bool ba) (.int .i64 la) (.slice A3 L3 c3) (.slice A4 L4 c4)
  have ho7 : OwnS w.heap.size W8 (.slice A3 L3 c3) l := by
    have h1 : OwnK 2 W.heap.size W8 43 (.slice A3 L3 c3) ([] ++ rowsS l) := OwnK.modS (OwnK.modS Ho5.out h57 (fun k hk e => by have h1 := OwnK.block Ho5.out k hk; have := Hsz.out; have := Hg1.out; have := Hg0.out; omega)) hm8 (fun k hk e => by have h1 := (OwnK.block Ho5.out k hk).1; have := Hsz.out; omega)
    rw [List.nil_append] at h1
    exact (h1.mono (by have := HmW.out.size; omega)).toS
  have ho8 : OwnPt w.heap.size W8 40 (.slice A4 L4 c4) ps := by
    have h1 : OwnK 5 W5.heap.size W8 40 (.slice A4 L4 c4) ([] ++ ps.map partC) := OwnK.modS (OwnK.modS HO6.out hm7 (fun k hk e => by have h1 := OwnK.block HO6.out k hk; have := Hsz.out; have := Hg1.out; have := Hg0.out; have := Hz5.out; omega)) hm8 (fun k hk e => by have h1 := (OwnK.block HO6.out k hk).1; have := Hsz.out; have := Hz5.out; omega)
    rw [List.nil_append] at h1
    exact h1.mono (by have := HmW.out.size; have := Hz5.out; omega)
  have hmf : Mod (fun _ => False) w W8 := by
    have h1 := (Hmm5.out.trans h57 (fun i hi h => by have := Hz5.out; have := HmW.out.size; have := Hg0.out; omega)).trans hm8 (fun i hi h => by have := Hg1.out; omega)
    exact h1.mono (fun i hi h => by omega)
  have Ho7 := Lib.hid ho7; have Ho8 := Lib.hid ho8; have Hmf := Lib.hid hmf; have HW7 := Lib.hid hW7; have HW8 := Lib.hid hW8; have Hb8 := Lib.hid hb8
  have p0 := (hb7).cell 0
  have p1 := (hb7).cell 1
  have p2 := (hb7).cell 2
  have p3 := (hb7).cell 3
  have p4 := (hb7).cell 4
  have p5 := (hb7).cell 5
  have p6 := (hb7).cell 6
  have p7 := (hb7).cell 7
  simp at p0 p1 p2 p3 p4 p5 p6 p7
  have q0 := (hb71).cell 0
  have q1 := (hb71).cell 1
  have q2 := (hb71).cell 2
  have q3 := (hb71).cell 3
  have q4 := (hb71).cell 4
  have q5 := (hb71).cell 5
  have q6 := (hb71).cell 6
  have q7 := (hb71).cell 7
  simp at q0 q1 q2 q3 q4 q5 q6 q7
  have r0 := (hb71).frozen 0
  have r1 := (hb71).frozen 1
  have r2 := (hb71).frozen 2
  have r3 := (hb71).frozen 3
  have r4 := (hb71).frozen 4
  have r5 := (hb71).frozen 5
  have r6 := (hb71).frozen 6
  have r7 := (hb71).frozen 7
  clear hW7 hm7 hb7 hb71 h57 hW8 hb8 hm8 ho7 ho8 hmf y7 f7 u7
  rw [← HW7.out]
  go_wp2_with fail
  rw [← HW8.out]
  refine bodyPost_ret (v := .agg #[.bool bt, .bool bs, .int .i64 li, .int .i64 ve, .bool ba, .int .i64 la, .slice A3 L3 c3, .slice A4 L4 c4]) (by simp [results, Try.results17, go_sem, Hb8.out.cell 0, Hb8.out.cell 1, Hb8.out.cell 2, Hb8.out.cell 3, Hb8.out.cell 4, Hb8.out.cell 5, Hb8.out.cell 6, Hb8.out.cell 7]) rfl ?_
  exact ⟨A3, L3, c3, A4, L4, c4, rfl, Ho7.out, Ho8.out, Hmf.out⟩
end Go.Proofs.Yteegdbbmamabiaa

/- isSlot, isTaken, New of the directory. -/
namespace Go.Proofs.Yteegdbbmamabiaa
open Go.RowKit

theorem diSlot_any (id : Int) (w : World) : Calls Try.prog 15 #[.int .i64 id] w fun e w' => e = .returned (.bool (decide (inD id))) ∧ Mod (fun _ => False) w w' := by
  by_cases h0 : 0 ≤ id
  · by_cases h1 : id < 16
    · have hd : decide (inD id) = true := decide_eq_true ⟨h0, h1⟩
      rw [hd]
      clear hd
      go_enter Try.func15, Try.ntmps15
      go_wp2_with fail
      go_ret
      exact ⟨rfl, Mod.refl _ _⟩
    · have hd : decide (inD id) = false := decide_eq_false (fun h => h1 h.2)
      rw [hd]
      clear hd
      go_enter Try.func15, Try.ntmps15
      go_wp2_with fail
      go_ret
      exact ⟨rfl, Mod.refl _ _⟩
  · have hd : decide (inD id) = false := decide_eq_false (fun h => h0 h.1)
    rw [hd]
    clear hd
    go_enter Try.func15, Try.ntmps15
    go_wp2_with fail
    go_ret
    exact ⟨rfl, Mod.refl _ _⟩
theorem diTaken_any {g o : Nat} {v : Int} {b : Bool} (w : World) (hc : w.cell? ⟨g, o + 3, none⟩ = some (.int .i64 v)) (h0 : 0 ≤ v) (h1 : v ≤ 2000000) (hb : (v % 2 != 0) = b) : Calls Try.prog 16 #[.pointer (some ⟨g, o, none⟩)] w fun e w' => e = .returned (.bool b) ∧ Mod (fun _ => False) w w' := by
  have Hb := Lib.hid hb
  clear hb
  go_enter Try.func16, Try.ntmps16
  go_wp2_with fail
  go_ret
  rw [← Hb.out]
  exact ⟨rfl, Mod.refl _ _⟩
/-- A new directory's cells. -/
def zeroRows : List (List Value) := List.replicate 16 (placeC zeroSlot (.slice none 0 0) (.slice none 0 0) 0)
theorem zero_dir (w : World) : (zeroValue 58).run Try.prog w = .ok (.agg ([] ++ (zeroRows.flatten ++ [])).toArray) w := by kernel_rfl
theorem diNew_any (w : World) : Calls Try.prog 7 #[] w fun e w' => ∃ g, e = .returned (.pointer (some ⟨g, 0, none⟩)) ∧ (∀ B, DirV B g 0 w' newD) ∧ Mod (fun _ => False) w w' ∧ w.heap.size ≤ g := by
  have hz := zero_dir w
  obtain ⟨Z, hZ⟩ : ∃ Z, Z = ([] ++ (zeroRows.flatten ++ [])).toArray := ⟨_, rfl⟩
  obtain ⟨W, hW, hm, hb, hs⟩ := new_box w 58 Z
  rw [← hZ] at hz
  have HW := Lib.hid hW; have HZ := Lib.hid hZ; have Hb := Lib.hid hb; have Hm := Lib.hid hm
  clear hW hZ hb hm hs
  go_enter Try.func7, Try.ntmps7
  go_wp2_with fail
  go_ret
  rw [← HW.out]
  refine ⟨w.heap.size, rfl, fun B => ⟨goodD_new, zeroRows, ⟨?_, ?_⟩, by unfold zeroRows; exact List.length_replicate .., fun i hi => ⟨placeC zeroSlot (.slice none 0 0) (.slice none 0 0) 0, ?_, .slice none 0 0, .slice none 0 0, 0, rfl, SlotP.zero _ _, fun who h => (by cases h)⟩⟩, Hm.out, Nat.le_refl _⟩
  · intro r hr
    rw [List.eq_of_mem_replicate hr]
    rfl
  · rw [← HZ.out]
    exact Hb.out
  · unfold zeroRows
    rw [List.getElem?_replicate, if_pos hi]
/-- What a number that is a slot is. -/
theorem inD_some {id : Int} (h : inD id) : ∃ i : Nat, id = (i : Int) ∧ i < 16 := ⟨id.toNat, by have := h.1; omega, by have := h.1; have := h.2; omega⟩
theorem diSlot_yes {i : Nat} (hi : i < 16) (w : World) : Calls Try.prog 15 #[.int .i64 (i : Int)] w fun e w' => e = .returned (.bool true) ∧ Mod (fun _ => False) w w' := by
  have h := diSlot_any (i : Int) w
  rwa [decide_eq_true (inD_nat hi)] at h
theorem diSlot_no {id : Int} (hi : ¬ inD id) (w : World) : Calls Try.prog 15 #[.int .i64 id] w fun e w' => e = .returned (.bool false) ∧ Mod (fun _ => False) w w' := by
  have h := diSlot_any id w
  rwa [decide_eq_false hi] at h
end Go.Proofs.Yteegdbbmamabiaa

/- Flag and Take of the directory. -/
namespace Go.Proofs.Yteegdbbmamabiaa
open Go.RowKit

theorem cell_new {w w' : World} (hm : Mod (fun _ => False) w w') {a : Addr} {u : Value} (h : w.cell? a = some u) : w'.cell? a = some u := (hm.cell (World.block_lt_of_cell? w _ h) (fun h => h)).trans h
theorem odd_flag {v : Int} {f : Option Int} (h : v % 2 = 0 ↔ f = none) : (v % 2 != 0) = f.isSome := by
  cases f with
  | none => have := h.2 rfl; simp [this]
  | some x =>
    have : ¬ v % 2 = 0 := fun e => by have := h.1 e; cases this
    simp [this]
set_option maxHeartbeats 1000000 in
theorem diFlag_any {B : Nat → Prop} {g N : Nat} {d : DirN} (id : Int) (w : World) (h : DirV B g N w d) (hN : N ≤ 1000000) : Calls Try.prog 14 #[.pointer (some ⟨g, 0, none⟩), .int .i64 id] w fun e w' => e = .returned (.tuple #[.int .i64 ((flagD d id).getD 0), .bool (flagD d id).isSome]) ∧ Mod (fun _ => False) w w' := by
  by_cases hin : inD id
  · obtain ⟨i, rfl, hi⟩ := inD_some hin
    have hs := diSlot_yes hi w
    have hfl : flagD d (i : Int) = d.flag i := by unfold flagD; rw [if_pos hin]; rfl
    rw [hfl]
    obtain ⟨vl, vc, o, hsp, ho, hfr, z0, z1, z2, y3, z4, z5, z6, z7, y8⟩ := h.at_ hi
    obtain ⟨v, hv⟩ : ∃ v, (d.slot i).ver = v := ⟨_, rfl⟩
    have hgv := h.good.ver i
    have hgo := h.good.odd i
    rw [hv] at y3 hgv hgo
    obtain ⟨f, hf⟩ : ∃ f, d.flag i = f := ⟨_, rfl⟩
    rw [hf] at hgo ho ⊢
    have hi0 : (0 : Int) ≤ (i : Int) := by omega
    have hi1 : (i : Int) < 16 := by omega
    obtain ⟨b, hb⟩ : ∃ b, (v % 2 != 0) = b := ⟨_, rfl⟩
    have hbf : b = f.isSome := by rw [← hb]; exact odd_flag hgo
    have Hs := Lib.hid hs; have Ho := Lib.hid ho; have Hy3 := Lib.hid y3; have Hy8 := Lib.hid y8; have Hbf := Lib.hid hbf
    have HT : Hid (∀ w1, Mod (fun _ => False) w w1 → Calls Try.prog 16 #[.pointer (some ⟨g, i * 9, none⟩)] w1 fun e w' => e = .returned (.bool b) ∧ Mod (fun _ => False) w1 w') := Lib.hid (fun w1 h1 => diTaken_any w1 (cell_new h1 Hy3.out) hgv.1 (by have := hgv.2; omega) hb)
    clear hs ho hfr hfl hin h hsp z0 z1 z2 y3 z4 z5 z6 z7 y8 hgv hgo hb hbf hv hf hN
    go_enter Try.func14, Try.ntmps14
    go_wp2_with fail
    refine Hs.out.mono ?_
    rintro e w1 ⟨rfl, hm1⟩
    have Hm1 := Lib.hid hm1
    clear hm1
    go_wp2_with fail
    refine (HT.out w1 Hm1.out).mono ?_
    rintro e w2 ⟨rfl, hm2⟩
    have Hm2 := Lib.hid (Hm1.out.trans hm2 (fun _ _ h => h))
    clear hm2
    have x8 := cell_new Hm2.out Hy8.out
    cases f with
    | none =>
      have e1 := Hbf.out
      simp only [Option.isSome_none] at e1
      subst e1
      go_wp2_with fail
      go_ret2
      exact ⟨rfl, Hm2.out⟩
    | some k =>
      have e1 := Hbf.out
      simp only [Option.isSome_some] at e1
      subst e1
      have e2 := Ho.out k rfl
      subst e2
      go_wp2_with fail
      go_ret2
      exact ⟨rfl, Hm2.out⟩
  · have hfl : flagD d id = none := by unfold flagD; rw [if_neg hin]
    rw [hfl]
    have Hs := Lib.hid (diSlot_no hin w)
    clear h hfl hin hN
    go_enter Try.func14, Try.ntmps14
    go_wp2_with fail
    refine Hs.out.mono ?_
    rintro e w1 ⟨rfl, hm1⟩
    have Hm1 := Lib.hid hm1
    clear hm1
    go_wp2_with fail
    go_ret2
    exact ⟨rfl, Hm1.out⟩
/-- One cell more of the same row written. -/
theorem SegK.set2 {K g i j o : Nat} {w : World} {t : TypeId} {A C r : List Value} {rows : List (List Value)} (h : SegK K w g t A (rows.set i r) C) (hi : i < rows.length) (hj : j < K) (ho : o = A.length + (i * K + j)) (u : Value) : SegK K (w.setCell ⟨g, o, none⟩ u) g t A (rows.set i (r.set j u)) C := by
  have h1 := h.set_ (List.getElem?_set_self hi) hj ho u
  rwa [List.set_set] at h1
theorem set_self {α : Type} {l : List α} {i : Nat} {x : α} (h : l[i]? = some x) : l.set i x = l := by
  obtain ⟨hi, rfl⟩ := List.getElem?_eq_some_iff.1 h
  exact List.set_getElem_self hi
set_option maxHeartbeats 1000000 in
theorem diTake_any {B : Nat → Prop} {g N : Nat} {d : DirN} (id who : Int) (w : World) (h : DirV B g N w d) (hN : N < 1000000) : Calls Try.prog 9 #[.pointer (some ⟨g, 0, none⟩), .int .i64 id, .int .i64 who] w fun e w' => e = .returned (.bool (takeD d id who).2) ∧ DirV B g (N + 1) w' (takeD d id who).1 ∧ Mod (fun j => j = g) w w' := by
  by_cases hin : inD id
  · have hgood := good_take h.good id who
    obtain ⟨i, rfl, hi⟩ := inD_some hin
    have hs := diSlot_yes hi w
    have htn : ((i : Nat) : Int).toNat = i := Int.toNat_natCast i
    have Hh := Lib.hid h
    obtain ⟨vl, vc, o, hsp, ho, hfr, z0, z1, z2, y3, z4, z5, z6, z7, y8⟩ := h.at_ hi
    obtain ⟨v, hv⟩ : ∃ v, (d.slot i).ver = v := ⟨_, rfl⟩
    have hgv := h.good.ver i
    have hgo := h.good.odd i
    rw [hv] at y3 hgv hgo
    have hi0 : (0 : Int) ≤ (i : Int) := by omega
    have hi1 : (i : Int) < 16 := by omega
    obtain ⟨b, hb⟩ : ∃ b, (v % 2 != 0) = b := ⟨_, rfl⟩
    have hbf : b = (d.flag i).isSome := by rw [← hb]; exact odd_flag hgo
    have HYES : Hid (d.flag i = none → takeD d (i : Int) who = (putD d i { d.slot i with ver := v + 1 } (some who), true)) := Lib.hid (fun e => by have h1 := take_yes (who := who) hin (by rw [htn]; exact e); rw [htn, hv] at h1; exact h1)
    have HNO : Hid (¬ d.flag i = none → takeD d (i : Int) who = (d, false)) := Lib.hid (fun e => take_no (fun h1 => e (by have h2 := h1.2; rwa [htn] at h2)))
    have Hs := Lib.hid hs; have Hy3 := Lib.hid y3; have Hy8 := Lib.hid y8; have Hbf := Lib.hid hbf; have Hg := Lib.hid hgood; have Hsp := Lib.hid hsp; have Hv := Lib.hid hv; have Hi := Lib.hid hi; have HNs := Lib.hid hN
    have HT : Hid (∀ w1, Mod (fun _ => False) w w1 → Calls Try.prog 16 #[.pointer (some ⟨g, i * 9, none⟩)] w1 fun e w' => e = .returned (.bool b) ∧ Mod (fun _ => False) w1 w') := Lib.hid (fun w1 h1 => diTaken_any w1 (cell_new h1 Hy3.out) hgv.1 (by have := hgv.2; omega) hb)
    have hw1 : IntKind.i64.wrap (v + 1) = v + 1 := IntWalk.i64_in _ (by have := hgv.1; have := hgv.2; omega)
    clear hs ho hfr hin h hsp z0 z1 z2 y3 z4 z5 z6 z7 y8 hgv hgo hb hbf hv hN hgood htn hi
    go_enter Try.func9, Try.ntmps9
    go_wp2_with fail
    refine Hs.out.mono ?_
    rintro e w1 ⟨rfl, hm1⟩
    have Hm1 := Lib.hid hm1
    clear hm1
    go_wp2_with fail
    refine (HT.out w1 Hm1.out).mono ?_
    rintro e w2 ⟨rfl, hm2⟩
    have Hm2 := Lib.hid (Hm1.out.trans hm2 (fun _ _ h => h))
    clear hm2
    have Hh2 := Lib.hid (Hh.out.new Hm2.out)
    by_cases hf : d.flag i = none
    · have e1 : b = false := by rw [Hbf.out, hf]; rfl
      subst e1
      obtain ⟨vl2, vc2, o2, hsp2, ho2, hfr2, _, _, _, x3, _, _, _, _, x8⟩ := Hh2.out.at_ Hi.out
      rw [Hv.out] at x3
      have f3 := hfr2 (i * 9 + 3)
      have f8 := hfr2 (i * 9 + 8)
      have Hf := Lib.hid hf
      have Hsp2 := Lib.hid hsp2
      obtain ⟨W, hW⟩ : ∃ W, W = (w2.setCell ⟨g, i * 9 + 8, none⟩ (.int .i64 who)).setCell ⟨g, i * 9 + 3, none⟩ (.int .i64 (v + 1)) := ⟨_, rfl⟩
      have HW := Lib.hid hW
      clear hsp2 ho2 hfr2 hf hW
      go_wp2_with fail
      rw [← HW.out]
      go_ret
      rw [HYES.out Hf.out]
      refine ⟨rfl, ?_, ?_⟩
      · have hmW : Mod (fun j => j = g) w2 W := by rw [HW.out]; exact Mod.two_set _ _ _ _ _ _
        have hg2 : GoodD ((N + 1 : Nat) : Int) (putD d i { d.slot i with ver := v + 1 } (some who)) := by
          have h1 := Hg.out
          rw [HYES.out Hf.out] at h1
          exact h1
        obtain ⟨h0, rows, h1, h2, h3⟩ := Hh2.out
        obtain ⟨r, h4, vl3, vc3, o3, rfl, h5, h6⟩ := h3 i Hi.out
        have hne : ∀ k t cs, B k → Blk w2 k t cs → t = 43 ∨ t = 40 → ¬ k = g := fun k t cs _ hb ht => Hh2.out.ne hb ht
        refine ⟨hg2, rows.set i (placeC { d.slot i with ver := v + 1 } vl3 vc3 who), ?_, by rw [List.length_set, h2], fun j hj => ?_⟩
        · rw [HW.out]
          have hlt : i < rows.length := by have := Hi.out; omega
          have k0 : SegK 9 w2 g 58 [] (rows.set i (placeC (d.slot i) vl3 vc3 o3)) [] := by rw [set_self h4]; exact h1
          have k1 := k0.set2 (o := i * 9 + 8) (j := 8) hlt (by decide) (by simp) (.int .i64 who)
          have k2 := k1.set2 (o := i * 9 + 3) (j := 3) hlt (by decide) (by simp) (.int .i64 (v + 1))
          exact k2
        · by_cases e : i = j
          · subst e
            refine ⟨_, List.getElem?_set_self (by omega), vl3, vc3, who, by rw [(put_at _ _ _ _).1], by rw [(put_at _ _ _ _).1]; exact (h5.mod hmW hne).ver _, by rw [(put_at _ _ _ _).2]; exact fun x hx => by injection hx⟩
          · obtain ⟨r, h7, vl1, vc1, o1, rfl, h8, h9⟩ := h3 j hj
            have e2 : j ≠ i := fun x => e x.symm
            exact ⟨_, by rw [List.getElem?_set_ne e]; exact h7, vl1, vc1, o1, by rw [(put_other e2 _ _ _).1], by rw [(put_other e2 _ _ _).1]; exact h8.mod hmW hne, by rw [(put_other e2 _ _ _).2]; exact h9⟩
      · exact (Hm2.out.mono (fun _ _ h => h.elim)).trans (by rw [HW.out]; exact Mod.two_set _ _ _ _ _ _) (fun _ _ h => h)
    · have e1 : b = true := by
        rw [Hbf.out]
        cases hx : d.flag i with
        | none => exact absurd hx hf
        | some _ => rfl
      subst e1
      have Hf := Lib.hid hf
      clear hf
      go_wp2_with fail
      go_ret
      rw [HNO.out Hf.out]
      exact ⟨rfl, Hh2.out.more (Nat.le_succ _), Hm2.out.mono (fun _ _ h => h.elim)⟩
  · have ht : takeD d id who = (d, false) := take_no (fun h1 => hin h1.1)
    rw [ht]
    have Hs := Lib.hid (diSlot_no hin w); have Hh := Lib.hid h
    clear h ht hin hN
    go_enter Try.func9, Try.ntmps9
    go_wp2_with fail
    refine Hs.out.mono ?_
    rintro e w1 ⟨rfl, hm1⟩
    have Hm1 := Lib.hid hm1
    clear hm1
    go_wp2_with fail
    go_ret
    exact ⟨rfl, (Hh.out.new Hm1.out).more (Nat.le_succ _), Hm1.out.mono (fun _ _ h => h.elim)⟩
end Go.Proofs.Yteegdbbmamabiaa

/- Look of the directory. -/
namespace Go.Proofs.Yteegdbbmamabiaa
open Go.RowKit

theorem SliP.rdsS {B : Nat → Prop} {w : World} {v : Value} {l : List (Int × Nat)} (h : SliP 2 43 B w v (rowsS l)) : ∃ A n c, v = .slice A n c ∧ Hid (l.length = n) ∧ n ≤ c ∧ c ≤ maxLen ∧ RdsS w w.heap.size A n l := by
  obtain ⟨A, n, c, e, h1, h2, h3, h4⟩ := h.form
  exact ⟨A, n, c, e, Lib.hid (by have := h1.out; rwa [rowsS_len] at this), h2, h3, h4.toS⟩
theorem SliP.rdsPt {B : Nat → Prop} {w : World} {v : Value} {ps : List PartN} (h : SliP 5 40 B w v (ps.map partC)) : ∃ A n c, v = .slice A n c ∧ Hid (ps.length = n) ∧ n ≤ c ∧ c ≤ maxLen ∧ RdsPt w w.heap.size A n ps := by
  obtain ⟨A, n, c, e, h1, h2, h3, h4⟩ := h.form
  exact ⟨A, n, c, e, Lib.hid (by have := h1.out; rwa [List.length_map] at this), h2, h3, h4⟩
set_option maxHeartbeats 2000000 in
set_option maxRecDepth 100000 in
theorem diLook_any {B : Nat → Prop} {g N : Nat} {d : DirN} (id : Int) (w : World) (h : DirV B g N w d) (hN : N ≤ 1000000) : Calls Try.prog 8 #[.pointer (some ⟨g, 0, none⟩), .int .i64 id] w fun e w' => ∃ A3 L3 c3 A4 L4 c4, e = .returned (.tuple #[.agg #[.bool ((lookD d id).getD zeroSlot).there, .bool ((lookD d id).getD zeroSlot).shut, .int .i64 ((lookD d id).getD zeroSlot).life, .int .i64 ((lookD d id).getD zeroSlot).ver, .bool ((lookD d id).getD zeroSlot).opn.any, .int .i64 ((lookD d id).getD zeroSlot).opn.last, .slice A3 L3 c3, .slice A4 L4 c4], .bool (lookD d id).isSome]) ∧
    OwnS w.heap.size w' (.slice A3 L3 c3) ((lookD d id).getD zeroSlot).opn.list ∧ OwnPt w.heap.size w' 40 (.slice A4 L4 c4) ((lookD d id).getD zeroSlot).chunks ∧ Mod (fun _ => False) w w' := by
  obtain ⟨W, hW, hmW, hbW, hzW⟩ := new_box w 32 #[.bool false, .bool false, .int .i64 0, .int .i64 0, .bool false, .int .i64 0, .slice none 0 0, .slice none 0 0]
  obtain ⟨g4, hg4⟩ : ∃ x, x = w.heap.size := ⟨_, rfl⟩
  rw [← hg4] at hbW hzW
  have HW := Lib.hid hW; have HmW := Lib.hid hmW; have Hg4 := Lib.hid hg4; have HbW := Lib.hid hbW; have HzW := Lib.hid hzW
  have HZERO : Hid (∀ w1, Mod (fun _ => False) w w1 → Blk w1 g4 32 #[.bool false, .bool false, .int .i64 0, .int .i64 0, .bool false, .int .i64 0, .slice none 0 0, .slice none 0 0] → ∀ id2, lookD d id2 = none → ∃ W8, W8 = ((((((((w1.setCell ⟨g4, 0, none⟩ (.bool false)).setCell ⟨g4, 1, none⟩ (.bool false)).setCell ⟨g4, 2, none⟩ (.int .i64 0)).setCell ⟨g4, 3, none⟩ (.int .i64 0)).setCell ⟨g4, 4, none⟩ (.bool false)).setCell ⟨g4, 5, none⟩ (.int .i64 0)).setCell ⟨g4, 6, none⟩ (.slice none 0 0)).setCell ⟨g4, 7, none⟩ (.slice none 0 0)) ∧ Blk W8 g4 32 #[.bool false, .bool false, .int .i64 0, .int .i64 0, .bool false, .int .i64 0, .slice none 0 0, .slice none 0 0] ∧ Mod (fun _ => False) w W8) := Lib.hid (fun w1 h1 hb id2 _ => by
    obtain ⟨W8, e, hb8, hm8⟩ := lay8 hb (.bool false) (.bool false) (.int .i64 0) (.int .i64 0) (.bool false) (.int .i64 0) (.slice none 0 0) (.slice none 0 0)
    exact ⟨W8, e, hb8, (h1.trans hm8 (fun i hi h => by have := Hg4.out; omega)).mono (fun i hi h => h)⟩)
  clear hW hmW hg4 hbW hzW
  by_cases hin : inD id
  · obtain ⟨i, rfl, hi⟩ := inD_some hin
    have hs := diSlot_yes hi W
    have htn : ((i : Nat) : Int).toNat = i := Int.toNat_natCast i
    have Hh := Lib.hid (h.new HmW.out)
    obtain ⟨vl, vc, o, hsp, ho, hfr, z0, z1, z2, z3, z4, z5, z6, z7, z8⟩ := Hh.out.at_ hi
    have hgv := h.good.ver i
    have hlf := look_free h.good (i : Int)
    have hgo := h.good.odd i
    rw [htn] at hlf
    obtain ⟨s, hv⟩ : ∃ s, d.slot i = s := ⟨_, rfl⟩
    rw [hv] at hsp z0 z1 z2 z3 z4 z5 hgv hgo hlf
    have hi0 : (0 : Int) ≤ (i : Int) := by omega
    have hi1 : (i : Int) < 16 := by omega
    obtain ⟨b, hb⟩ : ∃ b, (s.ver % 2 != 0) = b := ⟨_, rfl⟩
    have hbf : b = (d.flag i).isSome := by rw [← hb]; exact odd_flag hgo
    have Hs := Lib.hid hs; have Hbf := Lib.hid hbf; have Hsp := Lib.hid hsp; have Hlf := Lib.hid hlf; have Hin := Lib.hid hin
    have HZ : Hid (∀ w1, Mod (fun _ => False) W w1 → w1.cell? ⟨g, i * 9, none⟩ = some (.bool s.there) ∧ w1.cell? ⟨g, i * 9 + 1, none⟩ = some (.bool s.shut) ∧ w1.cell? ⟨g, i * 9 + 2, none⟩ = some (.int .i64 s.life) ∧ w1.cell? ⟨g, i * 9 + 3, none⟩ = some (.int .i64 s.ver) ∧ w1.cell? ⟨g, i * 9 + 4, none⟩ = some (.bool s.opn.any) ∧ w1.cell? ⟨g, i * 9 + 5, none⟩ = some (.int .i64 s.opn.last) ∧ w1.cell? ⟨g, i * 9 + 6, none⟩ = some (vl) ∧ w1.cell? ⟨g, i * 9 + 7, none⟩ = some (vc)) := Lib.hid (fun w1 h1 => ⟨cell_new h1 z0, cell_new h1 z1, cell_new h1 z2, cell_new h1 z3, cell_new h1 z4, cell_new h1 z5, cell_new h1 z6, cell_new h1 z7⟩)
    have HT : Hid (∀ w1, Mod (fun _ => False) W w1 → Calls Try.prog 16 #[.pointer (some ⟨g, i * 9, none⟩)] w1 fun e w' => e = .returned (.bool b) ∧ Mod (fun _ => False) w1 w') := Lib.hid (fun w1 h1 => diTaken_any w1 (HZ.out w1 h1).2.2.2.1 hgv.1 (by have := hgv.2; omega) hb)
    clear hs ho hfr hin h hsp z0 z1 z2 z3 z4 z5 z6 z7 z8 hgv hgo hb hbf hv hN htn hi hlf
    go_enter Try.func8, Try.ntmps8
    go_upto_region 1 with fail
    rw [← HW.out, ← Hg4.out]
    go_wp2_with fail
    refine Hs.out.mono ?_
    rintro e w1 ⟨rfl, hm1⟩
    have Hm1 := Lib.hid hm1
    clear hm1
    go_wp2_with fail
    refine (HT.out w1 Hm1.out).mono ?_
    rintro e w2 ⟨rfl, hm2⟩
    have Hm2 := Lib.hid (Hm1.out.trans hm2 (fun _ _ h => h))
    clear hm2
    cases hf : d.flag i with
    | none =>
      have Hf := Lib.hid hf
      have e1 : b = false := by rw [Hbf.out, hf]; rfl
      subst e1
      have hlk : lookD d (i : Int) = some s := by rw [Hlf.out, if_pos ⟨Hin.out, hf⟩]
      have Hlk := Lib.hid hlk
      have hsp2 := Hsp.out.new Hm2.out
      obtain ⟨A, n, c, rfl, hn, hn1, hn2, hrs⟩ := SliP.rdsS hsp2.1
      obtain ⟨A2, n2, c2, rfl, hm, hm1, hm2, hrp⟩ := SliP.rdsPt hsp2.2.1
      have hl1 := hsp2.2.2.1
      have hl2 := hsp2.2.2.2
      have HC := Lib.hid (diCopied_any (bt := s.there) (bs := s.shut) (ba := s.opn.any) (li := s.life) (ve := s.ver) (la := s.opn.last) (c := c) (c2 := c2) w2 hrs hrp (by have := hn.out; omega) (by have := hm.out; omega))
      obtain ⟨x0, x1, x2, x3, x4, x5, x6, x7⟩ := HZ.out w2 Hm2.out
      clear hsp2 hn hn1 hn2 hrs hm hm1 hm2 hrp hl1 hl2 hlk hf
      go_wp2_with fail
      refine HC.out.mono ?_
      rintro e w3 ⟨A3, L3, c3, A4, L4, c4, rfl, ho3, ho4, hm3⟩
      have hb3 := (Hm2.out.trans hm3 (fun _ _ h => h)).blk HbW.out (fun h => h)
      obtain ⟨W8, hW8, hb8, hm8⟩ := lay8 hb3 (.bool s.there) (.bool s.shut) (.int .i64 s.life) (.int .i64 s.ver) (.bool s.opn.any) (.int .i64 s.opn.last) (.slice A3 L3 c3) (.slice A4 L4 c4)
      have q0 := (hb3).cell 0
      have q1 := (hb3).cell 1
      have q2 := (hb3).cell 2
      have q3 := (hb3).cell 3
      have q4 := (hb3).cell 4
      have q5 := (hb3).cell 5
      have q6 := (hb3).cell 6
      have q7 := (hb3).cell 7
      simp at q0 q1 q2 q3 q4 q5 q6 q7
      have r0 := (hb3).frozen 0
      have r1 := (hb3).frozen 1
      have r2 := (hb3).frozen 2
      have r3 := (hb3).frozen 3
      have r4 := (hb3).frozen 4
      have r5 := (hb3).frozen 5
      have r6 := (hb3).frozen 6
      have r7 := (hb3).frozen 7
      have hsz2 : w.heap.size < w2.heap.size := by have := Hm2.out.size; have := HzW.out; have := Hg4.out; omega
      have Ho3 : Hid (OwnS w.heap.size W8 (.slice A3 L3 c3) s.opn.list) := Lib.hid ((((OwnS.toK ho3).modS hm8 (fun k hk e => by have h1 := (OwnK.block (OwnS.toK ho3) k hk).1; have := Hg4.out; omega)).mono (by omega)).toS)
      have Ho4 : Hid (OwnPt w.heap.size W8 40 (.slice A4 L4 c4) s.chunks) := Lib.hid ((OwnK.modS ho4 hm8 (fun k hk e => by have h1 := (OwnK.block ho4 k hk).1; have := Hg4.out; omega)).mono (by omega))
      have Hmf : Hid (Mod (fun _ => False) w W8) := Lib.hid ((((HmW.out.trans Hm2.out (fun _ _ h => h)).trans hm3 (fun _ _ h => h)).trans hm8 (fun i hi h => by have := Hg4.out; omega)).mono (fun i hi h => h))
      have Hb8 := Lib.hid hb8; have HW8 := Lib.hid hW8
      clear hb8 hW8 hm8 hb3 ho3 ho4 hm3 hsz2
      go_wp2_with fail
      rw [← HW8.out]
      refine bodyPost_ret (v := .tuple #[.agg #[.bool s.there, .bool s.shut, .int .i64 s.life, .int .i64 s.ver, .bool s.opn.any, .int .i64 s.opn.last, .slice A3 L3 c3, .slice A4 L4 c4], .bool true]) (by simp [results, Try.results8, go_sem, Hb8.out.cell 0, Hb8.out.cell 1, Hb8.out.cell 2, Hb8.out.cell 3, Hb8.out.cell 4, Hb8.out.cell 5, Hb8.out.cell 6, Hb8.out.cell 7]) rfl ?_
      rw [Hlk.out]
      exact ⟨A3, L3, c3, A4, L4, c4, rfl, Ho3.out, Ho4.out, Hmf.out⟩
    | some k =>
      have e1 : b = true := by rw [Hbf.out, hf]; rfl
      subst e1
      have hlk : lookD d (i : Int) = none := by rw [Hlf.out, hf, if_neg (by intro h; cases h.2)]
      have hb2 := Hm2.out.blk HbW.out (fun h => h)
      obtain ⟨W8, hW8, hb8, hm8⟩ := HZERO.out w2 (HmW.out.trans Hm2.out (fun _ _ h => h)) hb2 _ hlk
      have Hlk := Lib.hid hlk
      have q0 := (hb2).cell 0
      have q1 := (hb2).cell 1
      have q2 := (hb2).cell 2
      have q3 := (hb2).cell 3
      have q4 := (hb2).cell 4
      have q5 := (hb2).cell 5
      have q6 := (hb2).cell 6
      have q7 := (hb2).cell 7
      simp at q0 q1 q2 q3 q4 q5 q6 q7
      have r0 := (hb2).frozen 0
      have r1 := (hb2).frozen 1
      have r2 := (hb2).frozen 2
      have r3 := (hb2).frozen 3
      have r4 := (hb2).frozen 4
      have r5 := (hb2).frozen 5
      have r6 := (hb2).frozen 6
      have r7 := (hb2).frozen 7
      have Hb8 := Lib.hid hb8; have HW8 := Lib.hid hW8; have Hm8 := Lib.hid hm8
      clear hb8 hW8 hm8 hb2 hlk hf
      go_wp2_with fail
      rw [← HW8.out]
      refine bodyPost_ret (v := .tuple #[.agg #[.bool false, .bool false, .int .i64 0, .int .i64 0, .bool false, .int .i64 0, .slice none 0 0, .slice none 0 0], .bool false]) (by simp [results, Try.results8, go_sem, Hb8.out.cell 0, Hb8.out.cell 1, Hb8.out.cell 2, Hb8.out.cell 3, Hb8.out.cell 4, Hb8.out.cell 5, Hb8.out.cell 6, Hb8.out.cell 7]) rfl ?_
      rw [Hlk.out]
      exact ⟨none, 0, 0, none, 0, 0, rfl, OwnS.nil _ _, OwnPt.nil _ _ _, Hm8.out⟩
  · have hlk : lookD d id = none := by unfold lookD; rw [if_neg (fun h1 => hin h1.1)]
    have Hlk := Lib.hid hlk
    have Hs := Lib.hid (diSlot_no hin W)
    clear h hlk hin hN
    go_enter Try.func8, Try.ntmps8
    go_upto_region 1 with fail
    rw [← HW.out, ← Hg4.out]
    go_wp2_with fail
    refine Hs.out.mono ?_
    rintro e w1 ⟨rfl, hm1⟩
    have hb2 := hm1.blk HbW.out (fun h => h)
    obtain ⟨W8, hW8, hb8, hm8⟩ := HZERO.out w1 (HmW.out.trans hm1 (fun _ _ h => h)) hb2 _ Hlk.out
    have q0 := (hb2).cell 0
    have q1 := (hb2).cell 1
    have q2 := (hb2).cell 2
    have q3 := (hb2).cell 3
    have q4 := (hb2).cell 4
    have q5 := (hb2).cell 5
    have q6 := (hb2).cell 6
    have q7 := (hb2).cell 7
    simp at q0 q1 q2 q3 q4 q5 q6 q7
    have r0 := (hb2).frozen 0
    have r1 := (hb2).frozen 1
    have r2 := (hb2).frozen 2
    have r3 := (hb2).frozen 3
    have r4 := (hb2).frozen 4
    have r5 := (hb2).frozen 5
    have r6 := (hb2).frozen 6
    have r7 := (hb2).frozen 7
    have Hb8 := Lib.hid hb8; have HW8 := Lib.hid hW8; have Hm8 := Lib.hid hm8
    clear hb8 hW8 hm8 hb2 hm1
    go_wp2_with fail
    rw [← HW8.out]
    refine bodyPost_ret (v := .tuple #[.agg #[.bool false, .bool false, .int .i64 0, .int .i64 0, .bool false, .int .i64 0, .slice none 0 0, .slice none 0 0], .bool false]) (by simp [results, Try.results8, go_sem, Hb8.out.cell 0, Hb8.out.cell 1, Hb8.out.cell 2, Hb8.out.cell 3, Hb8.out.cell 4, Hb8.out.cell 5, Hb8.out.cell 6, Hb8.out.cell 7]) rfl ?_
    rw [Hlk.out]
    exact ⟨none, 0, 0, none, 0, 0, rfl, OwnS.nil _ _, OwnPt.nil _ _ _, Hm8.out⟩
end Go.Proofs.Yteegdbbmamabiaa

/- Leave of the directory. -/
namespace Go.Proofs.Yteegdbbmamabiaa
open Go.RowKit

theorem lay_leave (w3 : World) (g i : Nat) (v : Int) (s : SlotN) (A3 A4 : Option Addr) (L3 c3 L4 c4 : Nat) : ∃ W, W = (((((((((w3.setCell ⟨g, i * 9, none⟩ (.bool s.there)).setCell ⟨g, i * 9 + 1, none⟩ (.bool s.shut)).setCell ⟨g, i * 9 + 2, none⟩ (.int .i64 s.life)).setCell ⟨g, i * 9 + 3, none⟩ (.int .i64 s.ver)).setCell ⟨g, i * 9 + 4, none⟩ (.bool s.opn.any)).setCell ⟨g, i * 9 + 5, none⟩ (.int .i64 s.opn.last)).setCell ⟨g, i * 9 + 6, none⟩ (.slice A3 L3 c3)).setCell ⟨g, i * 9 + 7, none⟩ (.slice A4 L4 c4)).setCell ⟨g, i * 9 + 3, none⟩ (.int .i64 (v + 1))) ∧ Mod (fun j => j = g) w3 W := ⟨_, rfl, ((((((((((Mod.refl (fun j => j = g) w3).setCell (p := ⟨g, i * 9, none⟩) (fun _ => rfl) (.bool s.there)).setCell (p := ⟨g, i * 9 + 1, none⟩) (fun _ => rfl) (.bool s.shut)).setCell (p := ⟨g, i * 9 + 2, none⟩) (fun _ => rfl) (.int .i64 s.life)).setCell (p := ⟨g, i * 9 + 3, none⟩) (fun _ => rfl) (.int .i64 s.ver)).setCell (p := ⟨g, i * 9 + 4, none⟩) (fun _ => rfl) (.bool s.opn.any)).setCell (p := ⟨g, i * 9 + 5, none⟩) (fun _ => rfl) (.int .i64 s.opn.last)).setCell (p := ⟨g, i * 9 + 6, none⟩) (fun _ => rfl) (.slice A3 L3 c3)).setCell (p := ⟨g, i * 9 + 7, none⟩) (fun _ => rfl) (.slice A4 L4 c4)).setCell (p := ⟨g, i * 9 + 3, none⟩) (fun _ => rfl) (.int .i64 (v + 1)))⟩
set_option maxHeartbeats 2000000 in
set_option maxRecDepth 100000 in
theorem diLeave_any {B : Nat → Prop} {g N : Nat} {d : DirN} (id who : Int) (s : SlotN) {A A2 : Option Addr} {n c n2 c2 : Nat} (w : World) (h : DirV B g N w d) (hN : N < 1000000) (hs : RdsS w w.heap.size A n s.opn.list) (hp : RdsPt w w.heap.size A2 n2 s.chunks) (hn : n ≤ 8796093022208) (hn2 : n2 ≤ 1000000) (hB : ∀ k, w.heap.size ≤ k → B k) :
    Calls Try.prog 10 #[.pointer (some ⟨g, 0, none⟩), .int .i64 id, .int .i64 who, .agg #[.bool s.there, .bool s.shut, .int .i64 s.life, .int .i64 s.ver, .bool s.opn.any, .int .i64 s.opn.last, .slice A n c, .slice A2 n2 c2]] w fun e w' => e = .returned (.bool (leaveD d id who s).2) ∧ DirV B g (N + 1) w' (leaveD d id who s).1 ∧ Mod (fun j => j = g) w w' := by
  obtain ⟨W, hW, hmW, hbW, hzW⟩ := new_box w 32 #[.bool s.there, .bool s.shut, .int .i64 s.life, .int .i64 s.ver, .bool s.opn.any, .int .i64 s.opn.last, .slice A n c, .slice A2 n2 c2]
  obtain ⟨g7, hg7⟩ : ∃ x, x = w.heap.size := ⟨_, rfl⟩
  rw [← hg7] at hbW hzW
  have HW := Lib.hid hW; have HmW := Lib.hid hmW; have Hg7 := Lib.hid hg7; have HbW := Lib.hid hbW; have HzW := Lib.hid hzW
  have hgood := good_leaveD h.good id who s
  have Hg := Lib.hid hgood; have HN := Lib.hid hN; have HBB := Lib.hid hB; have Hn := Lib.hid hn; have Hn2 := Lib.hid hn2
  have Hh := Lib.hid (h.new hmW)
  have HF := Lib.hid (diFlag_any id W (h.new hmW) (by omega))
  have Hs := Lib.hid (hs.new hmW); have Hp := Lib.hid (hp.new hmW)
  have hll := hs.1
  have hlp := hp.len
  have Hll := Lib.hid hll; have Hlp := Lib.hid hlp
  clear hW hmW hg7 hbW hzW hgood hB hs hp hll hlp
  by_cases hc : inD id ∧ d.flag id.toNat = some who
  · obtain ⟨hin, hf⟩ := hc
    obtain ⟨i, rfl, hi⟩ := inD_some hin
    have htn : ((i : Nat) : Int).toNat = i := Int.toNat_natCast i
    rw [htn] at hf
    have hfl : flagD d (i : Int) = some who := by unfold flagD; rw [if_pos hin, htn, hf]
    rw [hfl] at HF
    obtain ⟨v, hv⟩ : ∃ v, (d.slot i).ver = v := ⟨_, rfl⟩
    have hgv := h.good.ver i
    rw [hv] at hgv
    have HYES : Hid (leaveD d (i : Int) who s = (putD d i { s with ver := v + 1 } none, true)) := Lib.hid (by have h1 := leave_yes (s := s) hin (by rw [htn]; exact hf); rw [htn, hv] at h1; exact h1)
    have hi0 : (0 : Int) ≤ (i : Int) := by omega
    have hi1 : (i : Int) < 16 := by omega
    have hw1 : IntKind.i64.wrap (v + 1) = v + 1 := IntWalk.i64_in _ (by have := hgv.1; have := hgv.2; omega)
    have Hi := Lib.hid hi; have Hv := Lib.hid hv
    clear h hn hn2 hN hin hf hfl htn hgv hv hi
    go_enter Try.func10, Try.ntmps10
    go_upto_region 1 with fail
    rw [← HW.out, ← Hg7.out]
    go_wp2_with fail
    refine HF.out.mono ?_
    rintro e w1 ⟨rfl, hm1⟩
    have Hm1 := Lib.hid hm1
    have hh1 := Hh.out.new hm1
    obtain ⟨vl, vc, o, hsp, ho, hfr, z0, z1, z2, z3, z4, z5, z6, z7, z8⟩ := hh1.at_ Hi.out
    rw [Hv.out] at z3
    have hb1 := hm1.blk HbW.out (fun h => h)
    have q0 := (hb1).cell 0
    have q1 := (hb1).cell 1
    have q2 := (hb1).cell 2
    have q3 := (hb1).cell 3
    have q4 := (hb1).cell 4
    have q5 := (hb1).cell 5
    have q6 := (hb1).cell 6
    have q7 := (hb1).cell 7
    simp at q0 q1 q2 q3 q4 q5 q6 q7
    have HC := Lib.hid (diCopied_any (bt := s.there) (bs := s.shut) (ba := s.opn.any) (li := s.life) (ve := s.ver) (la := s.opn.last) (c := c) (c2 := c2) w1 (Hs.out.mod (hm1) HmW.out.size (fun _ _ h => h)).fit (Hp.out.mod (hm1) HmW.out.size (fun _ _ h => h)).fit Hn.out Hn2.out)
    clear hm1 hh1 hsp ho hfr z0 z1 z2 z4 z5 z6 z7 z8 hb1
    go_wp2_with fail
    refine HC.out.mono ?_
    rintro e w3 ⟨A3, L3, c3, A4, L4, c4, rfl, ho3, ho4, hm3⟩
    have Hm3 := Lib.hid (Hm1.out.trans hm3 (fun _ _ h => h))
    have Hh3 := Lib.hid (Hh.out.new Hm3.out)
    obtain ⟨vl, vc, o, hsp, ho, hfr, x0, x1, x2, x3, x4, x5, x6, x7, x8⟩ := Hh3.out.at_ Hi.out
    obtain ⟨W9, hW9, hm9⟩ := lay_leave w3 g i v s A3 A4 L3 c3 L4 c4
    have f0 := hfr (i * 9)
    have f1 := hfr (i * 9 + 1)
    have f2 := hfr (i * 9 + 2)
    have f3 := hfr (i * 9 + 3)
    have f4 := hfr (i * 9 + 4)
    have f5 := hfr (i * 9 + 5)
    have f6 := hfr (i * 9 + 6)
    have f7 := hfr (i * 9 + 7)
    have hgw : g < w.heap.size := by
      have h1 := Hh.out.lt
      have h2 := HzW.out
      have h3 := Hg7.out
      rcases Nat.lt_or_ge g w.heap.size with h4 | h4
      · exact h4
      · exfalso
        have h5 : g = g7 := by omega
        obtain ⟨_, rows, h6, _⟩ := Hh.out
        exact Blk.ne_ h6.2 HbW.out (by decide) h5
    have hw13 : w.heap.size ≤ w1.heap.size := Nat.le_trans HmW.out.size Hm1.out.size
    have Ho3 := Lib.hid ho3; have Ho4 := Lib.hid ho4; have HW9 := Lib.hid hW9; have Hm9 := Lib.hid hm9; have Hgw := Lib.hid hgw; have Hw13 := Lib.hid hw13
    clear ho3 ho4 hm3 hW9 hm9 hsp ho hfr z3 q0 q1 q2 q3 q4 q5 q6 q7 x8 hgw hw13
    go_wp2_with fail
    rw [← HW9.out]
    go_ret
    rw [HYES.out]
    have hg2 : GoodD ((N + 1 : Nat) : Int) (putD d i { s with ver := v + 1 } none) := by
      have h1 := Hg.out
      rw [HYES.out] at h1
      exact h1
    refine ⟨rfl, ?_, ((HmW.out.trans Hm3.out (fun _ _ h => h)).mono (fun _ _ h => h.elim)).trans Hm9.out (fun _ _ h => h)⟩
    have hnew : SlotP B W9 { s with ver := v + 1 } (.slice A3 L3 c3) (.slice A4 L4 c4) := by
      refine ⟨SliP.of_own (B0 := w1.heap.size) ((OwnS.toK Ho3.out).modS Hm9.out (fun k hk e => by have h1 := (OwnK.block (OwnS.toK Ho3.out) k hk).1; have := Hgw.out; have := Hw13.out; omega)) (fun k hk => HBB.out k (by have := Hw13.out; omega)), SliP.of_own (B0 := w1.heap.size) (OwnK.modS Ho4.out Hm9.out (fun k hk e => by have h1 := (OwnK.block Ho4.out k hk).1; have := Hgw.out; have := Hw13.out; omega)) (fun k hk => HBB.out k (by have := Hw13.out; omega)), ?_, ?_⟩
      · show s.opn.list.length ≤ 8796093022208
        have := Hll.out; have := Hn.out; omega
      · show s.chunks.length ≤ 1000000
        have := Hlp.out; have := Hn2.out; omega
    obtain ⟨h0, rows, h1, h2, h3⟩ := Hh3.out
    obtain ⟨r, h4, vl3, vc3, o3, rfl, h5, h6⟩ := h3 i Hi.out
    have hne : ∀ k t cs, B k → Blk w3 k t cs → t = 43 ∨ t = 40 → ¬ k = g := fun k t cs _ hb ht => Hh3.out.ne hb ht
    refine ⟨hg2, rows.set i (placeC { s with ver := v + 1 } (.slice A3 L3 c3) (.slice A4 L4 c4) o3), ?_, by rw [List.length_set, h2], fun j hj => ?_⟩
    · rw [HW9.out]
      have hlt : i < rows.length := by have := Hi.out; omega
      have k0 : SegK 9 w3 g 58 [] (rows.set i (placeC (d.slot i) vl3 vc3 o3)) [] := by rw [set_self h4]; exact h1
      have k1 := k0.set2 (o := i * 9) (j := 0) hlt (by decide) (by simp) (.bool s.there)
      have k2 := k1.set2 (o := i * 9 + 1) (j := 1) hlt (by decide) (by simp) (.bool s.shut)
      have k3 := k2.set2 (o := i * 9 + 2) (j := 2) hlt (by decide) (by simp) (.int .i64 s.life)
      have k4 := k3.set2 (o := i * 9 + 3) (j := 3) hlt (by decide) (by simp) (.int .i64 s.ver)
      have k5 := k4.set2 (o := i * 9 + 4) (j := 4) hlt (by decide) (by simp) (.bool s.opn.any)
      have k6 := k5.set2 (o := i * 9 + 5) (j := 5) hlt (by decide) (by simp) (.int .i64 s.opn.last)
      have k7 := k6.set2 (o := i * 9 + 6) (j := 6) hlt (by decide) (by simp) (.slice A3 L3 c3)
      have k8 := k7.set2 (o := i * 9 + 7) (j := 7) hlt (by decide) (by simp) (.slice A4 L4 c4)
      have k9 := k8.set2 (o := i * 9 + 3) (j := 3) hlt (by decide) (by simp) (.int .i64 (v + 1))
      exact k9
    · by_cases e : i = j
      · subst e
        refine ⟨_, List.getElem?_set_self (by omega), _, _, o3, by rw [(put_at _ _ _ _).1], by rw [(put_at _ _ _ _).1]; exact hnew, by rw [(put_at _ _ _ _).2]; exact fun x hx => by cases hx⟩
      · obtain ⟨r, h7, vl1, vc1, o1, rfl, h8, h9⟩ := h3 j hj
        have e2 : j ≠ i := fun x => e x.symm
        exact ⟨_, by rw [List.getElem?_set_ne e]; exact h7, vl1, vc1, o1, by rw [(put_other e2 _ _ _).1], by rw [(put_other e2 _ _ _).1]; exact h8.mod Hm9.out hne, by rw [(put_other e2 _ _ _).2]; exact h9⟩
  · have HNO : Hid (leaveD d id who s = (d, false)) := Lib.hid (leave_no hc)
    obtain ⟨f, hf⟩ : ∃ f, flagD d id = f := ⟨_, rfl⟩
    have hfw : f ≠ some who := by
      intro e
      rw [e] at hf
      unfold flagD at hf
      split at hf
      · exact hc ⟨by assumption, hf⟩
      · cases hf
    rw [hf] at HF
    clear h hn hn2 hN hf hc
    cases f with
    | none =>
      clear hfw
      go_enter Try.func10, Try.ntmps10
      go_upto_region 1 with fail
      rw [← HW.out, ← Hg7.out]
      go_wp2_with fail
      refine HF.out.mono ?_
      rintro e w1 ⟨rfl, hm1⟩
      have Hm1 := Lib.hid hm1
      clear hm1
      go_wp2_with fail
      go_ret
      rw [HNO.out]
      exact ⟨rfl, (Hh.out.new Hm1.out).more (Nat.le_succ _), (HmW.out.trans Hm1.out (fun _ _ h => h)).mono (fun _ _ h => h.elim)⟩
    | some k =>
      have hkw : ¬ k = who := fun e => hfw (by rw [e])
      clear hfw
      go_enter Try.func10, Try.ntmps10
      go_upto_region 1 with fail
      rw [← HW.out, ← Hg7.out]
      go_wp2_with fail
      refine HF.out.mono ?_
      rintro e w1 ⟨rfl, hm1⟩
      have Hm1 := Lib.hid hm1
      clear hm1
      go_wp2_with fail
      go_ret
      rw [HNO.out]
      exact ⟨rfl, (Hh.out.new Hm1.out).more (Nat.le_succ _), (HmW.out.trans Hm1.out (fun _ _ h => h)).mono (fun _ _ h => h.elim)⟩
end Go.Proofs.Yteegdbbmamabiaa

/- The directory's calls by equations: what each comes to is named. -/
namespace Go.Proofs.Yteegdbbmamabiaa
open Go.RowKit

section
variable {B : Nat → Prop} {g N : Nat} {w : World} {d d' : DirN} {id who : Int} {ok : Bool}
theorem call_dtake (e : takeD d id who = (d', ok)) (h : DirV B g N w d) (hN : N < 1000000) :
    Calls Try.prog 9 #[.pointer (some ⟨g, 0, none⟩), .int .i64 id, .int .i64 who] w fun e w' => e = .returned (.bool ok) ∧ DirV B g (N + 1) w' d' ∧ Mod (fun j => j = g) w w' := by
  refine (diTake_any id who w h hN).mono ?_
  rw [e]
  exact fun _ _ h => h
/-- The rows of a slot that is handed in, wherever they lie. -/
def RdsSlot (w : World) (s : SlotN) (A : Option Addr) (n : Nat) (A2 : Option Addr) (n2 : Nat) : Prop := RdsS w w.heap.size A n s.opn.list ∧ RdsPt w w.heap.size A2 n2 s.chunks ∧ n ≤ 8796093022208 ∧ n2 ≤ 1000000
theorem call_dleave {s : SlotN} {A A2 : Option Addr} {n c n2 c2 : Nat} (e : leaveD d id who s = (d', ok)) (h : DirV B g N w d) (hN : N < 1000000) (hs : RdsSlot w s A n A2 n2) (hB : ∀ k, w.heap.size ≤ k → B k) :
    Calls Try.prog 10 #[.pointer (some ⟨g, 0, none⟩), .int .i64 id, .int .i64 who, .agg #[.bool s.there, .bool s.shut, .int .i64 s.life, .int .i64 s.ver, .bool s.opn.any, .int .i64 s.opn.last, .slice A n c, .slice A2 n2 c2]] w fun e w' => e = .returned (.bool ok) ∧ DirV B g (N + 1) w' d' ∧ Mod (fun j => j = g) w w' := by
  refine (diLeave_any id who s w h hN hs.1 hs.2.1 hs.2.2.1 hs.2.2.2 hB).mono ?_
  rw [e]
  exact fun _ _ h => h
theorem call_dflag {o : Option Int} {v : Int} (e : flagD d id = o) (hv : o.getD 0 = v) (ho : o.isSome = ok) (h : DirV B g N w d) (hN : N ≤ 1000000) :
    Calls Try.prog 14 #[.pointer (some ⟨g, 0, none⟩), .int .i64 id] w fun e w' => e = .returned (.tuple #[.int .i64 v, .bool ok]) ∧ DirV B g N w' d ∧ Mod (fun _ => False) w w' := by
  refine (diFlag_any id w h hN).mono ?_
  rw [e, hv, ho]
  exact fun _ _ h' => ⟨h'.1, h.new h'.2, h'.2⟩
/-- A slot that is answered: its rows lie in new memory. -/
theorem call_dlook {o : Option SlotN} {s : SlotN} (e : lookD d id = o) (hs : o.getD zeroSlot = s) (ho : o.isSome = ok) (h : DirV B g N w d) (hN : N ≤ 1000000) :
    Calls Try.prog 8 #[.pointer (some ⟨g, 0, none⟩), .int .i64 id] w fun e w' => ∃ A n c A2 n2 c2, e = .returned (.tuple #[.agg #[.bool s.there, .bool s.shut, .int .i64 s.life, .int .i64 s.ver, .bool s.opn.any, .int .i64 s.opn.last, .slice A n c, .slice A2 n2 c2], .bool ok]) ∧
      (Hid (s.opn.list.length = n) ∧ n ≤ c ∧ c ≤ maxLen ∧ Hid (s.chunks.length = n2) ∧ n2 ≤ c2 ∧ c2 ≤ maxLen) ∧ OwnS w.heap.size w' (.slice A n c) s.opn.list ∧ OwnPt w.heap.size w' 40 (.slice A2 n2 c2) s.chunks ∧ DirV B g N w' d ∧ Mod (fun _ => False) w w' := by
  refine (diLook_any id w h hN).mono ?_
  rw [e, hs, ho]
  rintro e1 w' ⟨A, n, c, A2, n2, c2, rfl, h1, h2, h3⟩
  obtain ⟨A', n', c', e1, k1, k2, k3, _⟩ := h1.formN
  injection e1 with e1 e2 e3
  subst e1 e2 e3
  obtain ⟨A', n', c', e1, m1, m2, m3, _⟩ := h2.formN
  injection e1 with e1 e2 e3
  subst e1 e2 e3
  exact ⟨A, n, c, A2, n2, c2, rfl, ⟨k1, k2, k3, m1, m2, m3⟩, h1, h2, h.new h3, h3⟩
end
/-- Rows of the call's own, as a slot's. -/
theorem RdsSlot.of_own {w : World} {B : Nat} {s : SlotN} {A A2 : Option Addr} {n c n2 c2 : Nat} (h1 : OwnS B w (.slice A n c) s.opn.list) (h2 : OwnPt B w 40 (.slice A2 n2 c2) s.chunks) (hn : s.opn.list.length = n) (hn2 : s.chunks.length = n2) (hl : n ≤ 8796093022208) (hl2 : n2 ≤ 1000000) : RdsSlot w s A n A2 n2 :=
  ⟨h1.rds hn, OwnK.rds h2 (by rw [List.length_map]; exact hn2), hl, hl2⟩
theorem RdsSlot.mod {S : Nat → Prop} {w w' : World} {s : SlotN} {A A2 : Option Addr} {n n2 B : Nat} (h1 : RdsS w B A n s.opn.list) (h2 : RdsPt w B A2 n2 s.chunks) (hm : Mod S w w') (hB : B ≤ w.heap.size) (hS : ∀ j, j < B → ¬ S j) (hl : n ≤ 8796093022208) (hl2 : n2 ≤ 1000000) : RdsSlot w' s A n A2 n2 :=
  ⟨(h1.mod hm hB hS).fit, (h2.mod hm hB hS).fit, hl, hl2⟩
end Go.Proofs.Yteegdbbmamabiaa

/- Words for the directory's laws: arrays of numbers, masks, how long a slot's rows are. -/
namespace Go.Proofs.Yteegdbbmamabiaa
open Go.RowKit

theorem and_at {x m : Int} (i : Nat) (hm : m = ((2 ^ i - 1 : Nat) : Int)) (hi : i ≤ 62) : ∃ q : Nat, bits .and .i64 x m = (q : Int) ∧ q < 2 ^ i ∧ (q : Int) = x % ((2 ^ i : Nat) : Int) := by
  have hp : (0 : Int) < ((2 ^ i : Nat) : Int) := by have := Nat.two_pow_pos i; omega
  have h := i64_mask x (2 ^ i - 1) i rfl hi
  have h1 := Int.emod_nonneg x (show ((2 ^ i : Nat) : Int) ≠ 0 by omega)
  have h2 := Int.emod_lt_of_pos x hp
  rw [hm]
  exact ⟨(x % ((2 ^ i : Nat) : Int)).toNat, by rw [h]; omega, by omega, by omega⟩
/-- What is written is no row of the directory's. -/
theorem DirV.other {B : Nat → Prop} {g N k : Nat} {w w' : World} {d : DirN} {t : TypeId} {cs : Array Value} (h : DirV B g N w d) (hm : Mod (fun j => j = k) w w') (hk : k ≠ g) (hb : Blk w k t cs) (h1 : t ≠ 43) (h2 : t ≠ 40) : DirV B g N w' d :=
  h.modS hm (fun e => hk e.symm) (fun j t2 cs2 _ hb2 ht e => by
    subst e
    rcases ht with rfl | rfl
    · exact Blk.ne_ hb hb2 h1 rfl
    · exact Blk.ne_ hb hb2 h2 rfl)
end Go.Proofs.Yteegdbbmamabiaa

/- Law 18's awake. -/
namespace Go.Proofs.Yteegdbbmamabiaa
open Go.RowKit

/-- Rows of the call's own are read as they were, whatever was done with a directory. -/
theorem reads_own {w W' : World} {B g n n2 c c2 : Nat} {A A2 : Option Addr} {s : SlotN} (h1 : OwnS B w (.slice A n c) s.opn.list) (h2 : OwnPt B w 40 (.slice A2 n2 c2) s.chunks) (hn : s.opn.list.length = n) (hn2 : s.chunks.length = n2) (hl : n ≤ 8796093022208) (hl2 : n2 ≤ 1000000) (hg : g < B) (hm : Mod (fun j => j = g) w W') : RdsSlot W' s A n A2 n2 :=
  RdsSlot.of_own ((OwnS.toK h1).modS hm (fun k hk e => by have h3 := (OwnK.block (OwnS.toK h1) k hk).1; omega)).toS (OwnK.modS h2 hm (fun k hk e => by have h3 := (OwnK.block h2 k hk).1; omega)) hn hn2 hl hl2
set_option maxHeartbeats 8000000 in
set_option maxRecDepth 100000 in
theorem diAwake_any (w : World) : Calls Try.prog 11 #[] w fun e w' => e = .returned (.bool true) ∧ Mod (fun _ => False) w w' := by
  obtain ⟨d1, d2, e1, e2, e3, e4, e5, e6, e7, e8, e9, q1, q2, q3, q4, q5, e10⟩ := trip (i := 3) (by omega) goodD_new rfl { zeroSlot with there := true, ver := 99 } { zeroSlot with there := true, ver := 99 } 7
  have E1 := Lib.hid e1; have E2 := Lib.hid e2; have E3 := Lib.hid (e3 8); have E4 := Lib.hid e4; have E6 := Lib.hid (e6 8 (by decide)); have E7 := Lib.hid e7; have E8 := Lib.hid e8; have E10 := Lib.hid e10
  have E16 : Hid (lookD d2 16 = none) := Lib.hid (by unfold lookD; rw [if_neg]; intro h; exact absurd h.1.2 (by decide))
  clear e1 e2 e3 e4 e5 e6 e7 e8 e9 e10 q1 q2 q3 q4 q5
  go_enter Try.func11, Try.ntmps11
  go_wp2_with fail
  refine (diNew_any w).mono ?_
  rintro e w0 ⟨g, rfl, hc, hm0, hg0⟩
  have HD0 : Hid (DirV (fun _ => True) g 0 w0 newD) := Lib.hid (hc _)
  have HM0 := Lib.hid hm0
  have HNew : Hid (w.heap.size ≤ g) := Lib.hid hg0
  clear hc hm0 hg0
  go_wp2_with fail
  refine (call_dlook (s := zeroSlot) (o := some zeroSlot) (ok := true) E1.out rfl rfl HD0.out (by omega)).mono ?_
  rintro e v1 ⟨A1, n1, c1, P1, m1, x1, rfl, hz, ho, hp, hd, hm⟩
  obtain ⟨w1, hW, hmW, hbW, hzW⟩ := new_box v1 32 #[.bool zeroSlot.there, .bool zeroSlot.shut, .int .i64 zeroSlot.life, .int .i64 zeroSlot.ver, .bool zeroSlot.opn.any, .int .i64 zeroSlot.opn.last, .slice A1 n1 c1, .slice P1 m1 x1]
  obtain ⟨g1, hg⟩ : ∃ x, x = v1.heap.size := ⟨_, rfl⟩
  rw [← hg] at hbW hzW
  have HD1 : Hid (DirV (fun _ => True) g (0) w1 (newD)) := Lib.hid (hd.new hmW)
  have HM1 : Hid (Mod (fun _ => False) w w1) := Lib.hid (HM0.out.trans (hm.trans hmW (fun _ _ h => h)) (fun _ _ h => h))
  have HS1 : Hid (Mod (fun j => j = g) w0 w1) := Lib.hid ((hm.trans hmW (fun _ _ h => h)).mono (fun _ _ h => h.elim))
  have HO1 : Hid (OwnS w0.heap.size w1 (.slice A1 n1 c1) (zeroSlot).opn.list) := Lib.hid (hmW.owns ho (fun _ _ h => h))
  have HP1 : Hid (OwnPt w0.heap.size w1 40 (.slice P1 m1 x1) (zeroSlot).chunks) := Lib.hid (OwnPt.mod hp hmW)
  have HZ1 := Lib.hid hz
  have Hlt1 : Hid (g < w0.heap.size ∧ w0.heap.size ≤ g1 ∧ g1 < w1.heap.size) := Lib.hid ⟨HD0.out.lt, by have := hm.size; omega, by omega⟩
  have HB1 : Hid (∀ W', Mod (fun j => j = g) w1 W' → Blk W' g1 32 #[.bool zeroSlot.there, .bool zeroSlot.shut, .int .i64 zeroSlot.life, .int .i64 zeroSlot.ver, .bool zeroSlot.opn.any, .int .i64 zeroSlot.opn.last, .slice A1 n1 c1, .slice P1 m1 x1]) := Lib.hid (fun W' h => h.blk hbW (fun e => by have := Hlt1.out; omega))
  have HW := Lib.hid hW; have Hg := Lib.hid hg
  clear hz ho hp hd hm hW hmW hbW hzW hg
  go_upto_region 5 with fail
  rw [← HW.out, ← Hg.out]
  clear HW Hg
  go_wp2_with fail
  refine (call_dtake (ok := true) E2.out HD1.out (by omega)).mono ?_
  rintro e w2 ⟨rfl, h1, h2⟩
  have HD2 : Hid (DirV (fun _ => True) g (0 + 1) w2 (d1)) := Lib.hid h1
  have HM2 : Hid (Mod (fun _ => False) w w2) := Lib.hid (HM1.out.trans h2 (fun i hi h => by have := HNew.out; omega))
  have HS2 : Hid (Mod (fun j => j = g) w1 w2) := Lib.hid (h2)
  clear h1 h2
  go_wp2_with fail
  refine (call_dtake (ok := false) E3.out HD2.out (by omega)).mono ?_
  rintro e w3 ⟨rfl, h1, h2⟩
  have HD3 : Hid (DirV (fun _ => True) g (0 + 1 + 1) w3 (d1)) := Lib.hid h1
  have HM3 : Hid (Mod (fun _ => False) w w3) := Lib.hid (HM2.out.trans h2 (fun i hi h => by have := HNew.out; omega))
  have HS3 : Hid (Mod (fun j => j = g) w2 w3) := Lib.hid (h2)
  clear h1 h2
  go_wp2_with fail
  refine (call_dlook (s := zeroSlot) (o := none) (ok := false) E7.out rfl rfl HD3.out (by omega)).mono ?_
  rintro e v4 ⟨A4, n4, c4, P4, m4, d4, rfl, hz, ho, hp, hd, hm⟩
  obtain ⟨w4, hW, hmW, hbW, hzW⟩ := new_box v4 32 #[.bool zeroSlot.there, .bool zeroSlot.shut, .int .i64 zeroSlot.life, .int .i64 zeroSlot.ver, .bool zeroSlot.opn.any, .int .i64 zeroSlot.opn.last, .slice A4 n4 c4, .slice P4 m4 d4]
  obtain ⟨g4, hg⟩ : ∃ x, x = v4.heap.size := ⟨_, rfl⟩
  rw [← hg] at hbW hzW
  have HD4 : Hid (DirV (fun _ => True) g (0 + 1 + 1) w4 (d1)) := Lib.hid (hd.new hmW)
  have HM4 : Hid (Mod (fun _ => False) w w4) := Lib.hid (HM3.out.trans (hm.trans hmW (fun _ _ h => h)) (fun _ _ h => h))
  have HS4 : Hid (Mod (fun j => j = g) w3 w4) := Lib.hid ((hm.trans hmW (fun _ _ h => h)).mono (fun _ _ h => h.elim))
  have HO4 : Hid (OwnS w3.heap.size w4 (.slice A4 n4 c4) (zeroSlot).opn.list) := Lib.hid (hmW.owns ho (fun _ _ h => h))
  have HP4 : Hid (OwnPt w3.heap.size w4 40 (.slice P4 m4 d4) (zeroSlot).chunks) := Lib.hid (OwnPt.mod hp hmW)
  have HZ4 := Lib.hid hz
  have Hlt4 : Hid (g < w3.heap.size ∧ w3.heap.size ≤ g4 ∧ g4 < w4.heap.size) := Lib.hid ⟨HD3.out.lt, by have := hm.size; omega, by omega⟩
  have HB4 : Hid (∀ W', Mod (fun j => j = g) w4 W' → Blk W' g4 32 #[.bool zeroSlot.there, .bool zeroSlot.shut, .int .i64 zeroSlot.life, .int .i64 zeroSlot.ver, .bool zeroSlot.opn.any, .int .i64 zeroSlot.opn.last, .slice A4 n4 c4, .slice P4 m4 d4]) := Lib.hid (fun W' h => h.blk hbW (fun e => by have := Hlt4.out; omega))
  have HW := Lib.hid hW; have Hg := Lib.hid hg
  clear hz ho hp hd hm hW hmW hbW hzW hg
  go_upto_region 7 with fail
  rw [← HW.out, ← Hg.out]
  clear HW Hg
  go_wp2_with fail
  refine (call_dflag (o := some 7) (v := 7) (ok := true) E4.out rfl rfl HD4.out (by omega)).mono ?_
  rintro e w5 ⟨rfl, h1, h2⟩
  have HD5 : Hid (DirV (fun _ => True) g (0 + 1 + 1) w5 (d1)) := Lib.hid h1
  have HM5 : Hid (Mod (fun _ => False) w w5) := Lib.hid (HM4.out.trans h2 (fun _ _ h => h))
  have HS5 : Hid (Mod (fun j => j = g) w4 w5) := Lib.hid (h2.mono (fun _ _ h => h.elim))
  clear h1 h2
  have hS15 : Mod (fun j => j = g) w1 w5 := ((HS2.out.trans HS3.out (fun _ _ h => h)).trans HS4.out (fun _ _ h => h)).trans HS5.out (fun _ _ h => h)
  have hb := HB1.out w5 hS15
  have y0 := hb.cell 0
  have y3 := hb.cell 3
  have f0 := hb.frozen 0
  have f3 := hb.frozen 3
  simp at y0 y3
  obtain ⟨w6, hW⟩ : ∃ W, W = (w5.setCell ⟨g1, 0, none⟩ (.bool true)).setCell ⟨g1, 3, none⟩ (.int .i64 99) := ⟨_, rfl⟩
  have hm6 : Mod (fun j => j = g1) w5 w6 := by rw [hW]; exact Mod.two_set _ _ _ _ _ _
  have hb6 : Blk w6 g1 32 #[.bool true, .bool false, .int .i64 0, .int .i64 99, .bool false, .int .i64 0, .slice A1 n1 c1, .slice P1 m1 x1] := by
    rw [hW]
    have h := (hb.set_ 0 (.bool true)).set_ 3 (.int .i64 99)
    simpa [zeroSlot] using h
  have HD6 : Hid (DirV (fun _ => True) g (0 + 1 + 1) w6 d1) := Lib.hid (HD5.out.modS hm6 (by have := Hlt1.out; omega) (fun k t cs _ hb2 ht e => by subst e; rcases ht with rfl | rfl <;> exact Blk.ne_ hb2 hb (by decide) rfl))
  have HM6 : Hid (Mod (fun _ => False) w w6) := Lib.hid (HM5.out.trans hm6 (fun i hi h => by have := Hlt1.out; have := HM0.out.size; omega))
  have HB6 : Hid (∀ W', Mod (fun j => j = g) w6 W' → Blk W' g1 32 #[.bool true, .bool false, .int .i64 0, .int .i64 99, .bool false, .int .i64 0, .slice A1 n1 c1, .slice P1 m1 x1]) := Lib.hid (fun W' h => h.blk hb6 (fun e => by have := Hlt1.out; omega))
  have HR6 : Hid (∀ W', Mod (fun j => j = g) w6 W' → RdsSlot W' { zeroSlot with there := true, ver := 99 } A1 n1 P1 m1) := Lib.hid (fun W' h => by
    have k1 : OwnS w0.heap.size w6 (.slice A1 n1 c1) zeroSlot.opn.list := ((((OwnS.toK HO1.out).modS hS15 (fun k hk e => by have h3 := (OwnK.block (OwnS.toK HO1.out) k hk).1; have := Hlt1.out; omega)).modS hm6 (fun k hk e => by subst e; exact own_blk_ne (OwnS.toK HO1.out).2 (HB1.out w1 (Mod.refl _ _)) (by decide) hk)).toS)
    have k2 : OwnPt w0.heap.size w6 40 (.slice P1 m1 x1) zeroSlot.chunks := OwnK.modS (OwnK.modS HP1.out hS15 (fun k hk e => by have h3 := (OwnK.block HP1.out k hk).1; have := Hlt1.out; omega)) hm6 (fun k hk e => by subst e; exact own_blk_ne HP1.out.2 (HB1.out w1 (Mod.refl _ _)) (by decide) hk)
    obtain ⟨z1, _, _, z2, _, _⟩ := HZ1.out
    exact reads_own (s := { zeroSlot with there := true, ver := 99 }) k1 k2 z1.out z2.out (by have h1 : 0 = n1 := z1.out; omega) (by have h1 : 0 = m1 := z2.out; omega) Hlt1.out.1 h)
  have HW := Lib.hid hW
  clear hS15 hb hW hm6 hb6
  go_upto_region 9 with fail
  rw [← HW.out]
  clear HW
  have z0 := (HB6.out w6 (Mod.refl _ _)).cell 0
  have z1 := (HB6.out w6 (Mod.refl _ _)).cell 1
  have z2 := (HB6.out w6 (Mod.refl _ _)).cell 2
  have z3 := (HB6.out w6 (Mod.refl _ _)).cell 3
  have z4 := (HB6.out w6 (Mod.refl _ _)).cell 4
  have z5 := (HB6.out w6 (Mod.refl _ _)).cell 5
  have z6 := (HB6.out w6 (Mod.refl _ _)).cell 6
  have z7 := (HB6.out w6 (Mod.refl _ _)).cell 7
  simp at z0 z1 z2 z3 z4 z5 z6 z7
  have HL7 : Hid (∀ W', DirV (fun _ => True) g (0 + 1 + 1) W' d1 → Mod (fun j => j = g) w6 W' → Calls Try.prog 10 #[.pointer (some ⟨g, 0, none⟩), .int .i64 3, .int .i64 8, .agg #[.bool true, .bool false, .int .i64 0, .int .i64 99, .bool false, .int .i64 0, .slice A1 n1 c1, .slice P1 m1 x1]] W' fun e w' => e = .returned (.bool false) ∧ DirV (fun _ => True) g (0 + 1 + 1 + 1) w' d1 ∧ Mod (fun j => j = g) W' w') := Lib.hid (fun W' h1 h2 => call_dleave (s := { zeroSlot with there := true, ver := 99 }) (c := c1) (c2 := x1) (ok := false) E6.out h1 (by omega) (HR6.out _ h2) (fun _ _ => trivial))
  have HL8 : Hid (∀ W', DirV (fun _ => True) g (0 + 1 + 1 + 1) W' d1 → Mod (fun j => j = g) w6 W' → Calls Try.prog 10 #[.pointer (some ⟨g, 0, none⟩), .int .i64 3, .int .i64 7, .agg #[.bool true, .bool false, .int .i64 0, .int .i64 99, .bool false, .int .i64 0, .slice A1 n1 c1, .slice P1 m1 x1]] W' fun e w' => e = .returned (.bool true) ∧ DirV (fun _ => True) g (0 + 1 + 1 + 1 + 1) w' d2 ∧ Mod (fun j => j = g) W' w') := Lib.hid (fun W' h1 h2 => call_dleave (s := { zeroSlot with there := true, ver := 99 }) (c := c1) (c2 := x1) (ok := true) E8.out h1 (by omega) (HR6.out _ h2) (fun _ _ => trivial))
  go_region_with (first
    | (go_at_call 10; (with_reducible refine (HL7.out _ (HD6.out.new (Mod.refl _ _).drew) ((Mod.refl (fun j => j = g) w6).drew)).mono ?_); rintro e w7 ⟨rfl, h1, h2⟩; have HD7 : Hid (DirV (fun _ => True) g (0 + 1 + 1 + 1) w7 (d1)) := Lib.hid h1; have HS7 : Hid (Mod (fun j => j = g) w6 w7) := Lib.hid (((Mod.refl (fun j => j = g) w6).drew).trans h2 (fun _ _ h => h)); have u70 := (HB6.out w7 HS7.out).cell 0; have u71 := (HB6.out w7 HS7.out).cell 1; have u72 := (HB6.out w7 HS7.out).cell 2; have u73 := (HB6.out w7 HS7.out).cell 3; have u74 := (HB6.out w7 HS7.out).cell 4; have u75 := (HB6.out w7 HS7.out).cell 5; have u76 := (HB6.out w7 HS7.out).cell 6; have u77 := (HB6.out w7 HS7.out).cell 7; simp at u70 u71 u72 u73 u74 u75 u76 u77; clear h1 h2)
    | (go_at_call 10; (with_reducible refine (HL8.out _ (HD7.out) (HS7.out)).mono ?_); rintro e w8 ⟨rfl, h1, h2⟩; have HD8 : Hid (DirV (fun _ => True) g (0 + 1 + 1 + 1 + 1) w8 (d2)) := Lib.hid h1; have HS8 : Hid (Mod (fun j => j = g) w6 w8) := Lib.hid ((HS7.out).trans h2 (fun _ _ h => h)); have u80 := (HB6.out w8 HS8.out).cell 0; have u81 := (HB6.out w8 HS8.out).cell 1; have u82 := (HB6.out w8 HS8.out).cell 2; have u83 := (HB6.out w8 HS8.out).cell 3; have u84 := (HB6.out w8 HS8.out).cell 4; have u85 := (HB6.out w8 HS8.out).cell 5; have u86 := (HB6.out w8 HS8.out).cell 6; have u87 := (HB6.out w8 HS8.out).cell 7; simp at u80 u81 u82 u83 u84 u85 u86 u87; clear h1 h2))
  all_goals (
    have HM8 : Hid (Mod (fun _ => False) w w8) := Lib.hid (HM6.out.trans HS8.out (fun i hi h => by have := HNew.out; omega))
    go_wp2_with fail
    refine (call_dlook (s := ({ zeroSlot with there := true, ver := (newD.slot 3).ver + 2 } : SlotN)) (o := some { zeroSlot with there := true, ver := (newD.slot 3).ver + 2 }) (ok := true) E10.out rfl rfl HD8.out (by omega)).mono ?_
    rintro e v9 ⟨A9, n9, c9, P9, m9, d9, rfl, hz, ho, hp, hd, hm⟩
    obtain ⟨w9, hW, hmW, hbW, hzW⟩ := new_box v9 32 #[.bool ({ zeroSlot with there := true, ver := (newD.slot 3).ver + 2 } : SlotN).there, .bool ({ zeroSlot with there := true, ver := (newD.slot 3).ver + 2 } : SlotN).shut, .int .i64 ({ zeroSlot with there := true, ver := (newD.slot 3).ver + 2 } : SlotN).life, .int .i64 ({ zeroSlot with there := true, ver := (newD.slot 3).ver + 2 } : SlotN).ver, .bool ({ zeroSlot with there := true, ver := (newD.slot 3).ver + 2 } : SlotN).opn.any, .int .i64 ({ zeroSlot with there := true, ver := (newD.slot 3).ver + 2 } : SlotN).opn.last, .slice A9 n9 c9, .slice P9 m9 d9]
    obtain ⟨g9, hg⟩ : ∃ x, x = v9.heap.size := ⟨_, rfl⟩
    rw [← hg] at hbW hzW
    have HD9 : Hid (DirV (fun _ => True) g (0 + 1 + 1 + 1 + 1) w9 (d2)) := Lib.hid (hd.new hmW)
    have HM9 : Hid (Mod (fun _ => False) w w9) := Lib.hid (HM8.out.trans (hm.trans hmW (fun _ _ h => h)) (fun _ _ h => h))
    have HS9 : Hid (Mod (fun j => j = g) w8 w9) := Lib.hid ((hm.trans hmW (fun _ _ h => h)).mono (fun _ _ h => h.elim))
    have HO9 : Hid (OwnS w8.heap.size w9 (.slice A9 n9 c9) (({ zeroSlot with there := true, ver := (newD.slot 3).ver + 2 } : SlotN)).opn.list) := Lib.hid (hmW.owns ho (fun _ _ h => h))
    have HP9 : Hid (OwnPt w8.heap.size w9 40 (.slice P9 m9 d9) (({ zeroSlot with there := true, ver := (newD.slot 3).ver + 2 } : SlotN)).chunks) := Lib.hid (OwnPt.mod hp hmW)
    have HZ9 := Lib.hid hz
    have Hlt9 : Hid (g < w8.heap.size ∧ w8.heap.size ≤ g9 ∧ g9 < w9.heap.size) := Lib.hid ⟨HD8.out.lt, by have := hm.size; omega, by omega⟩
    have HB9 : Hid (∀ W', Mod (fun j => j = g) w9 W' → Blk W' g9 32 #[.bool ({ zeroSlot with there := true, ver := (newD.slot 3).ver + 2 } : SlotN).there, .bool ({ zeroSlot with there := true, ver := (newD.slot 3).ver + 2 } : SlotN).shut, .int .i64 ({ zeroSlot with there := true, ver := (newD.slot 3).ver + 2 } : SlotN).life, .int .i64 ({ zeroSlot with there := true, ver := (newD.slot 3).ver + 2 } : SlotN).ver, .bool ({ zeroSlot with there := true, ver := (newD.slot 3).ver + 2 } : SlotN).opn.any, .int .i64 ({ zeroSlot with there := true, ver := (newD.slot 3).ver + 2 } : SlotN).opn.last, .slice A9 n9 c9, .slice P9 m9 d9]) := Lib.hid (fun W' h => h.blk hbW (fun e => by have := Hlt9.out; omega))
    have HW := Lib.hid hW; have Hg := Lib.hid hg
    clear hz ho hp hd hm hW hmW hbW hzW hg
    go_upto_region 11 with fail
    rw [← HW.out, ← Hg.out]
    clear HW Hg
    go_wp2_with fail
    refine (call_dlook (s := zeroSlot) (o := none) (ok := false) E16.out rfl rfl HD9.out (by omega)).mono ?_
    rintro e v10 ⟨A10, n10, c10, P10, m10, d10, rfl, hz, ho, hp, hd, hm⟩
    obtain ⟨w10, hW, hmW, hbW, hzW⟩ := new_box v10 32 #[.bool zeroSlot.there, .bool zeroSlot.shut, .int .i64 zeroSlot.life, .int .i64 zeroSlot.ver, .bool zeroSlot.opn.any, .int .i64 zeroSlot.opn.last, .slice A10 n10 c10, .slice P10 m10 d10]
    obtain ⟨g10, hg⟩ : ∃ x, x = v10.heap.size := ⟨_, rfl⟩
    rw [← hg] at hbW hzW
    have HD10 : Hid (DirV (fun _ => True) g (0 + 1 + 1 + 1 + 1) w10 (d2)) := Lib.hid (hd.new hmW)
    have HM10 : Hid (Mod (fun _ => False) w w10) := Lib.hid (HM9.out.trans (hm.trans hmW (fun _ _ h => h)) (fun _ _ h => h))
    have HS10 : Hid (Mod (fun j => j = g) w9 w10) := Lib.hid ((hm.trans hmW (fun _ _ h => h)).mono (fun _ _ h => h.elim))
    have HO10 : Hid (OwnS w9.heap.size w10 (.slice A10 n10 c10) (zeroSlot).opn.list) := Lib.hid (hmW.owns ho (fun _ _ h => h))
    have HP10 : Hid (OwnPt w9.heap.size w10 40 (.slice P10 m10 d10) (zeroSlot).chunks) := Lib.hid (OwnPt.mod hp hmW)
    have HZ10 := Lib.hid hz
    have Hlt10 : Hid (g < w9.heap.size ∧ w9.heap.size ≤ g10 ∧ g10 < w10.heap.size) := Lib.hid ⟨HD9.out.lt, by have := hm.size; omega, by omega⟩
    have HB10 : Hid (∀ W', Mod (fun j => j = g) w10 W' → Blk W' g10 32 #[.bool zeroSlot.there, .bool zeroSlot.shut, .int .i64 zeroSlot.life, .int .i64 zeroSlot.ver, .bool zeroSlot.opn.any, .int .i64 zeroSlot.opn.last, .slice A10 n10 c10, .slice P10 m10 d10]) := Lib.hid (fun W' h => h.blk hbW (fun e => by have := Hlt10.out; omega))
    have HW := Lib.hid hW; have Hg := Lib.hid hg
    clear hz ho hp hd hm hW hmW hbW hzW hg
    go_upto_region 12 with fail
    rw [← HW.out, ← Hg.out]
    clear HW Hg
    have t0 := (HB9.out w10 HS10.out).cell 0
    have t3 := (HB9.out w10 HS10.out).cell 3
    simp at t0 t3
    go_wp2_with fail
    go_ret
    exact ⟨rfl, HM10.out⟩)
end Go.Proofs.Yteegdbbmamabiaa

/- DirePlays: what the law keeps beside the directory: sixteen slots in an array, a map of flags. -/
namespace Go.Proofs.Yteegdbbmamabiaa
open Go.RowKit

/-- What lies behind a kept slot's two rows: samples that came in, parts of the law's own. -/
def LocR (w wr : World) (s : SlotN) (vl vc : Value) : Prop :=
  (∃ A n c, vl = .slice A n c ∧ n ≤ 8796093022208 ∧ RdsS w w.heap.size A n s.opn.list) ∧ SliP 5 40 (fun _ => True) wr vc (s.chunks.map partC) ∧ s.chunks.length ≤ 1000000
def LocS (w : World) (gs : Nat) (wr : World) (d : DirN) : Prop := ∃ rows, SegK 8 wr gs 51 [] rows [] ∧ rows.length = 16 ∧ ∀ j, j < 16 → ∃ vl vc, rows[j]? = some (slotC (d.slot j) vl vc) ∧ LocR w wr (d.slot j) vl vc
def flagF (d : DirN) : Int → Option Value := fun k => (flagD d k).map fun x => .int .i64 x
structure StD (w : World) (g gs gm N : Nat) (wr : World) (d : DirN) : Prop where
  dir : DirV (fun _ => True) g N wr d
  loc : LocS w gs wr d
  map_ : ∃ c, MapZ wr gm N (flagF d) c
  mod : Mod (fun _ => False) w wr
  ne : g ≠ gs ∧ w.heap.size ≤ g ∧ w.heap.size ≤ gs ∧ w.heap.size ≤ gm
section
variable {w wr wr' : World} {g gs gm N k : Nat} {d : DirN} {s : SlotN} {vl vc : Value}
theorem LocR.modS {S : Nat → Prop} (h : LocR w wr s vl vc) (hm : Mod S wr wr') (hS : ∀ k cs, Blk wr k 40 cs → ¬ S k) : LocR w wr' s vl vc := ⟨h.1, h.2.1.mod hm (fun k cs _ hb => hS k cs hb), h.2.2⟩
theorem LocS.modS {S : Nat → Prop} (h : LocS w gs wr d) (hm : Mod S wr wr') (hg : ¬ S gs) (hS : ∀ k cs, Blk wr k 40 cs → ¬ S k) : LocS w gs wr' d := by
  obtain ⟨rows, h1, h2, h3⟩ := h
  refine ⟨rows, h1.mod hm hg, h2, fun j hj => ?_⟩
  obtain ⟨vl, vc, h4, h5⟩ := h3 j hj
  exact ⟨vl, vc, h4, h5.modS hm hS⟩
theorem LocS.lt (h : LocS w gs wr d) : gs < wr.heap.size := by obtain ⟨rows, h1, _⟩ := h; exact h1.lt
/-- New memory, or a box of whatever other type. -/
theorem StD.new (h : StD w g gs gm N wr d) (hm : Mod (fun _ => False) wr wr') : StD w g gs gm N wr' d := by
  obtain ⟨h1, h2, ⟨c, h3⟩, h4, h5⟩ := h
  exact ⟨h1.new hm, h2.modS hm id (fun _ _ _ h => h), ⟨c, h3.mod hm id⟩, h4.trans hm (fun _ _ h => h), h5⟩
theorem StD.box (h : StD w g gs gm N wr d) {k : Nat} {t : TypeId} {cs : Array Value} (hb : Blk wr k t cs) (hm : Mod (fun j => j = k) wr wr') (hk : w.heap.size ≤ k) (h1 : t ≠ 43) (h2 : t ≠ 40) (h3 : t ≠ 58) (h4 : t ≠ 51) : StD w g gs gm N wr' d := by
  obtain ⟨k1, k2, ⟨c, k3⟩, k4, k5⟩ := h
  have hg : k ≠ g := fun e => by subst e; obtain ⟨_, rows, h6, _⟩ := k1; exact Blk.ne_ hb h6.2 h3 rfl
  have hgs : k ≠ gs := fun e => by subst e; obtain ⟨rows, h6, _⟩ := k2; exact Blk.ne_ hb h6.2 h4 rfl
  exact ⟨k1.other hm hg hb h1 h2, k2.modS hm (fun e => hgs e.symm) (fun j cs2 hb2 e => by subst e; exact Blk.ne_ hb hb2 h2 rfl), ⟨c, k3.mod hm (fun e => by subst e; exact k3.not_cells hb)⟩, k4.trans hm (fun i hi h => by omega), k5⟩
theorem StD.more {N' : Nat} (h : StD w g gs gm N wr d) (hN : N ≤ N') : StD w g gs gm N' wr d := by
  obtain ⟨h1, h2, ⟨c, h3⟩, h4, h5⟩ := h
  exact ⟨h1.more hN, h2, ⟨c, h3.more hN⟩, h4, h5⟩
theorem flag_put {i : Nat} (hi : i < 16) (s : SlotN) (f : Option Int) (k : Int) : flagD (putD d i s f) k = if k = (i : Int) then f else flagD d k := by
  unfold flagD
  by_cases hk : k = (i : Int)
  · subst hk
    rw [if_pos (inD_nat hi), if_pos rfl, Int.toNat_natCast, (put_at _ _ _ _).2]
  · rw [if_neg hk]
    by_cases hin : inD k
    · rw [if_pos hin, if_pos hin, (put_other (by have := hin.1; omega) _ _ _).2]
    · rw [if_neg hin, if_neg hin]
theorem flagF_put {i : Nat} (hi : i < 16) (s : SlotN) (f : Option Int) : flagF (putD d i s f) = setZ (flagF d) (i : Int) (f.map fun x => .int .i64 x) := by
  funext k
  unfold flagF setZ
  rw [flag_put hi]
  by_cases hk : k = (i : Int)
  · rw [if_pos hk, if_pos hk]
  · rw [if_neg hk, if_neg hk]
theorem mapFl : Try.prog.underlying 52 = some (.map 3 3) := Try.underlying52
theorem zero_fl (w : World) : (zeroValue 3).run Try.prog w = .ok (.int .i64 0) w := by kernel_rfl
/-- has, taken := flag[id] -/
theorem StD.look (h : StD w g gs gm N wr d) {id : Int} (hid : FitI id) : (Instr.lookup 52 (.map (some gm)) (.int .i64 id) true).run Try.prog wr = .ok (.tuple #[.int .i64 ((flagD d id).getD 0), .bool (flagD d id).isSome]) wr := by
  obtain ⟨c, h1⟩ := h.map_
  have h2 := h1.look_ok mapFl (zero_fl wr) hid
  unfold flagF at h2
  cases hf : flagD d id with
  | none => rw [hf] at h2; exact h2
  | some x => rw [hf] at h2; exact h2
/-- flag[id] = who, behind a Take. -/
theorem StD.store (h : StD w g gs gm N wr d) {w3 : World} (hm3 : Mod (fun j => j = g) wr w3) {id who : Int} (hid : FitI id) (hN : N < 1000) : ∃ w4, (Instr.mapUpdate 52 (.map (some gm)) (.int .i64 id) (.int .i64 who)).run Try.prog w3 = .ok () w4 ∧ (∃ c, MapZ w4 gm (N + 1) (setZ (flagF d) id (some (.int .i64 who))) c) ∧ Mod (fun j => j = gm) w3 w4 := by
  obtain ⟨c, h1⟩ := h.map_
  have hg : ¬ gm = g := fun e => by subst e; obtain ⟨_, rows, h6, _⟩ := h.dir; exact h1.not_cells h6.2
  obtain ⟨w4, h2, h3, h4⟩ := (h1.mod hm3 hg).store mapFl (by unfold maxLen; omega) hid (.int .i64 who)
  exact ⟨w4, h2, ⟨_, h3⟩, h4⟩
/-- The cells of the i-th slot that is kept. -/
theorem LocS.at_ (h : LocS w gs wr d) {i : Nat} (hi : i < 16) : ∃ vl vc, LocR w wr (d.slot i) vl vc ∧ (∀ j, wr.frozen? ⟨gs, j, none⟩ = false) ∧
    wr.cell? ⟨gs, i * 8, none⟩ = some (.bool (d.slot i).there) ∧ wr.cell? ⟨gs, i * 8 + 1, none⟩ = some (.bool (d.slot i).shut) ∧ wr.cell? ⟨gs, i * 8 + 2, none⟩ = some (.int .i64 (d.slot i).life) ∧ wr.cell? ⟨gs, i * 8 + 3, none⟩ = some (.int .i64 (d.slot i).ver) ∧
    wr.cell? ⟨gs, i * 8 + 4, none⟩ = some (.bool (d.slot i).opn.any) ∧ wr.cell? ⟨gs, i * 8 + 5, none⟩ = some (.int .i64 (d.slot i).opn.last) ∧ wr.cell? ⟨gs, i * 8 + 6, none⟩ = some vl ∧ wr.cell? ⟨gs, i * 8 + 7, none⟩ = some vc := by
  obtain ⟨rows, h1, h2, h3⟩ := h
  obtain ⟨vl, vc, h4, h5⟩ := h3 i hi
  have hc : ∀ j u, (slotC (d.slot i) vl vc)[j]? = some u → wr.cell? ⟨gs, i * 8 + j, none⟩ = some u := fun j u hu => h1.cell h4 hu (by simp)
  exact ⟨vl, vc, h5, h1.frozen, hc 0 _ rfl, hc 1 _ rfl, hc 2 _ rfl, hc 3 _ rfl, hc 4 _ rfl, hc 5 _ rfl, hc 6 _ rfl, hc 7 _ rfl⟩
theorem not_g (h : StD w g gs gm N wr d) : gm ≠ g ∧ gm ≠ gs := by
  obtain ⟨c, h1⟩ := h.map_
  refine ⟨fun e => ?_, fun e => ?_⟩
  · subst e; obtain ⟨_, rows, h6, _⟩ := h.dir; exact h1.not_cells h6.2
  · subst e; obtain ⟨rows, h6, _⟩ := h.loc; exact h1.not_cells h6.2
theorem part_not {w3 : World} {t : TypeId} {cs cs2 : Array Value} (hb : Blk w3 k t cs) (ht : t ≠ 40) {j : Nat} (hj : Blk w3 j 40 cs2) : ¬ j = k := fun e => by subst e; exact Blk.ne_ hb hj ht rfl
/-- Nothing was done but to look. -/
theorem StD.only (h : StD w g gs gm N wr d) {w3 : World} (h3 : DirV (fun _ => True) g (N + 1) w3 d) (hm3 : Mod (fun j => j = g) wr w3) : StD w g gs gm (N + 1) w3 d := by
  obtain ⟨n1, n2⟩ := not_g h
  obtain ⟨_, drows, hdb, _⟩ := h.dir
  obtain ⟨c3, hmz⟩ := h.map_
  exact ⟨h3, h.loc.modS hm3 (fun e => h.ne.1 e.symm) (fun j cs2 hb2 e => part_not hdb.2 (by decide) hb2 e), ⟨c3, (hmz.mod hm3 n1).more (Nat.le_succ _)⟩, h.mod.trans hm3 (fun i hi e => by have := h.ne; omega), h.ne⟩
/-- Taken: the directory, the map, the version that is kept. -/
theorem StD.took (h : StD w g gs gm N wr d) {q : Nat} (hq : q < 16) {who : Int} {w3 w4 : World} (h3 : DirV (fun _ => True) g (N + 1) w3 (putD d q { d.slot q with ver := (d.slot q).ver + 1 } (some who))) (hm3 : Mod (fun j => j = g) wr w3)
    (h4 : ∃ c, MapZ w4 gm (N + 1) (setZ (flagF d) (q : Int) (some (.int .i64 who))) c) (hm4 : Mod (fun j => j = gm) w3 w4) :
    (∃ u, w4.cell? ⟨gs, q * 8 + 3, none⟩ = some (.int .i64 (d.slot q).ver) ∧ w4.frozen? ⟨gs, q * 8 + 3, none⟩ = u ∧ u = false) ∧
    StD w g gs gm (N + 1) (w4.setCell ⟨gs, q * 8 + 3, none⟩ (.int .i64 ((d.slot q).ver + 1))) (putD d q { d.slot q with ver := (d.slot q).ver + 1 } (some who)) := by
  obtain ⟨n1, n2⟩ := not_g h
  obtain ⟨_, drows, hdb, _⟩ := h.dir
  have hl3 : LocS w gs w3 d := h.loc.modS hm3 (fun e => h.ne.1 e.symm) (fun j cs2 hb2 e => part_not hdb.2 (by decide) hb2 e)
  obtain ⟨c3, hmz⟩ := h.map_
  have hmz3 := hmz.mod hm3 n1
  have hl4 : LocS w gs w4 d := hl3.modS hm4 (fun e => n2 e.symm) (fun j cs2 hb2 e => by subst e; exact hmz3.not_cells hb2)
  have hd4 : DirV (fun _ => True) g (N + 1) w4 (putD d q { d.slot q with ver := (d.slot q).ver + 1 } (some who)) := h3.modS hm4 (fun e => n1 e.symm) (fun j t cs _ hb ht e => by subst e; exact hmz3.not_cells hb)
  obtain ⟨rows, r1, r2, r3⟩ := hl4
  obtain ⟨vl, vc, r4, r5⟩ := r3 q hq
  have hlt : q < rows.length := by omega
  have hms := one_cell w4 gs (q * 8 + 3) (.int .i64 ((d.slot q).ver + 1))
  refine ⟨⟨false, r1.cell (j := 3) r4 rfl (by simp), r1.frozen _, rfl⟩, hd4.other hms (fun e => h.ne.1 e.symm) r1.2 (by decide) (by decide), ?_, ?_, ((h.mod.trans hm3 (fun i hi e => by have := h.ne; omega)).trans hm4 (fun i hi e => by have := h.ne; omega)).trans hms (fun i hi e => by have := h.ne; omega), h.ne⟩
  · refine ⟨rows.set q (slotC { d.slot q with ver := (d.slot q).ver + 1 } vl vc), ?_, by rw [List.length_set, r2], fun j hj => ?_⟩
    · have k0 : SegK 8 w4 gs 51 [] (rows.set q (slotC (d.slot q) vl vc)) [] := by rw [set_self r4]; exact r1
      exact k0.set2 (o := q * 8 + 3) (j := 3) hlt (by decide) (by simp) _
    · by_cases e : q = j
      · subst e
        exact ⟨vl, vc, by rw [(put_at _ _ _ _).1]; exact List.getElem?_set_self hlt, by rw [(put_at _ _ _ _).1]; exact r5.modS hms (fun j cs2 hb2 e => part_not r1.2 (by decide) hb2 e)⟩
      · obtain ⟨vl1, vc1, h7, h8⟩ := r3 j hj
        have e2 : j ≠ q := fun x => e x.symm
        exact ⟨vl1, vc1, by rw [List.getElem?_set_ne e, (put_other e2 _ _ _).1]; exact h7, by rw [(put_other e2 _ _ _).1]; exact h8.modS hms (fun j cs2 hb2 e => part_not r1.2 (by decide) hb2 e)⟩
  · obtain ⟨c4, h5⟩ := h4
    rw [flagF_put hq]
    exact ⟨c4, h5.mod hms n2⟩
end
/-- The eight cells of a slot, written at the i-th place of the array. -/
def setSlot (wr : World) (gs q : Nat) (s : SlotN) (vl vc : Value) : World := wr.setCells gs (q * 8) (slotC s vl vc)
theorem setSlot_mod (wr : World) (gs q : Nat) (s : SlotN) (vl vc : Value) : Mod (fun j => j = gs) wr (setSlot wr gs q s vl vc) := Mod.setCells _ _ _ _
theorem setSlot_seg {wr : World} {gs q : Nat} {rows : List (List Value)} {s0 s : SlotN} {vl0 vc0 vl vc : Value} (h : SegK 8 wr gs 51 [] rows []) (hr : rows[q]? = some (slotC s0 vl0 vc0)) : SegK 8 (setSlot wr gs q s vl vc) gs 51 [] (rows.set q (slotC s vl vc)) [] :=
  h.put (List.getElem?_eq_some_iff.1 hr).1 rfl (by simp)
theorem LocS.there {w wr : World} {gs q : Nat} {d : DirN} (h : LocS w gs wr d) (hq : q < 16) : wr.there gs (q * 8) 8 := by
  obtain ⟨rows, h1, h2, h3⟩ := h
  intro j hj
  obtain ⟨vl, vc, h4, _⟩ := h3 q hq
  have hl : j < (slotC (d.slot q) vl vc).length := hj
  have h5 := h1.cell (j := j) (o := q * 8 + j) h4 (List.getElem?_eq_getElem hl) (by simp)
  exact ⟨by rw [h5]; rfl, h1.frozen _⟩
section
variable {w wr wr' : World} {g gs gm N : Nat} {d : DirN}
/-- Left: the directory first, then the kept slot, then the map. -/
theorem StD.left1 (h : StD w g gs gm N wr d) {q : Nat} (hq : q < 16) {s : SlotN} {w3 : World} {vl vc : Value} (h3 : DirV (fun _ => True) g (N + 1) w3 (putD d q { s with ver := (d.slot q).ver + 1 } none)) (hl : LocS w gs w3 d) (hmp : ∃ c, MapZ w3 gm (N + 1) (flagF d) c) (hm : Mod (fun _ => False) w w3) (hr : LocR w w3 { s with ver := (d.slot q).ver + 1 } vl vc) :
    ∃ w5, (Builtin.delete_ #[52, 3] 0 #[.map (some gm), .int .i64 (q : Int)]).run Try.prog (setSlot w3 gs q { s with ver := (d.slot q).ver + 1 } vl vc) = .ok (.tuple #[]) w5 ∧ StD w g gs gm (N + 1) w5 (putD d q { s with ver := (d.slot q).ver + 1 } none) := by
  obtain ⟨n1, n2⟩ := not_g h
  obtain ⟨rows, r1, r2, r3⟩ := hl
  obtain ⟨vl0, vc0, r4, r5⟩ := r3 q hq
  have hlt : q < rows.length := by omega
  have hms := setSlot_mod w3 gs q { s with ver := (d.slot q).ver + 1 } vl vc
  obtain ⟨c, hmz⟩ := hmp
  have hmz4 := hmz.mod hms n2
  have hseg := setSlot_seg (s := { s with ver := (d.slot q).ver + 1 }) (vl := vl) (vc := vc) r1 r4
  obtain ⟨w5, e1, e2, e3⟩ := hmz4.drop mapFl (show FitI (q : Int) from ⟨by omega, by omega⟩) 0
  have hd4 := h3.other hms (fun e => h.ne.1 e.symm) r1.2 (by decide) (by decide)
  refine ⟨w5, e1, hd4.modS e3 (fun e => n1 e.symm) (fun j t cs _ hb ht e => by subst e; exact hmz4.not_cells hb), ?_, ?_, (hm.trans hms (fun i hi e => by have := h.ne; omega)).trans e3 (fun i hi e => by have := h.ne; omega), h.ne⟩
  · have hp : ∀ (s1 : SlotN) (vl1 vc1 : Value), LocR w w3 s1 vl1 vc1 → LocR w w5 s1 vl1 vc1 := fun s1 vl1 vc1 hx => (hx.modS hms (fun j cs2 hb2 e => part_not r1.2 (by decide) hb2 e)).modS e3 (fun j cs2 hb2 e => by subst e; exact hmz4.not_cells hb2)
    refine ⟨_, hseg.mod e3 (fun e => n2 e.symm), by rw [List.length_set, r2], fun j hj => ?_⟩
    by_cases e : q = j
    · subst e
      exact ⟨vl, vc, by rw [(put_at _ _ _ _).1]; exact List.getElem?_set_self hlt, by rw [(put_at _ _ _ _).1]; exact hp _ _ _ hr⟩
    · obtain ⟨vl1, vc1, h7, h8⟩ := r3 j hj
      have e4 : j ≠ q := fun x => e x.symm
      exact ⟨vl1, vc1, by rw [List.getElem?_set_ne e, (put_other e4 _ _ _).1]; exact h7, by rw [(put_other e4 _ _ _).1]; exact hp _ _ _ h8⟩
  · rw [flagF_put hq]
    exact ⟨_, e2⟩
end
theorem rds_litI {w : World} {g : Nat} {t : TypeId} {x : Int} (hb : Blk w g t #[.int .i64 x, .int .i64 0, .int .i64 0, .int .i64 0, .int .i64 0]) : RdsPt w w.heap.size (some ⟨g, 0, none⟩) 1 [⟨x, 0, 0, 0, 0⟩] := by
  refine ⟨rfl, partC_all _, rfl, fun _ => ⟨_, rfl, hb.lt, fun j u hu => ?_⟩⟩
  rw [add_addr, Nat.zero_add, hb.cell j]
  have e : ([⟨x, 0, 0, 0, 0⟩] : List PartN).map partC = [[.int .i64 x, .int .i64 0, .int .i64 0, .int .i64 0, .int .i64 0]] := rfl
  rw [e] at hu
  simpa using hu
theorem slip_one {w : World} {g : Nat} {x : Int} (hb : Blk w g 40 #[.int .i64 x, .int .i64 0, .int .i64 0, .int .i64 0, .int .i64 0]) : SliP 5 40 (fun _ => True) w (.slice (some ⟨g, 0, none⟩) 1 1) (([⟨x, 0, 0, 0, 0⟩] : List PartN).map partC) := by
  refine ⟨_, 1, 1, rfl, rfl, partC_all _, Nat.le_refl _, by unfold maxLen; omega, fun _ => ⟨g, 0, _, rfl, trivial, hb, fun j u hu => ?_⟩⟩
  rw [Nat.zero_add]
  have e : ([⟨x, 0, 0, 0, 0⟩] : List PartN).map partC = [[.int .i64 x, .int .i64 0, .int .i64 0, .int .i64 0, .int .i64 0]] := rfl
  rw [e] at hu
  simpa using hu
theorem wpList_delete_run {P : Program} {w : World} {ops : Array Oper} {rest : List Oper} {o : Oper} {a : Act} {Q : Exit → Act → World → Prop} (hgd : o.guard = none) (m x : Operand) (t k : TypeId)
    (ho : o.op = .call { callee := .builtin .delete, args := #[m, x], argTypes := #[t, k] }) {v u : Value} (hm : a.eval m = v) (hx : a.eval x = u) {v' : Value} {w' : World}
    (hr : (Builtin.delete_ #[t, k] o.type #[v, u]).run P w = .ok v' w') (h : wpList P ops Q rest (a.put o.dst v') w') : wpList P ops Q (o :: rest) a w := by
  refine wpList_plain hgd fun _ hK => ?_
  unfold Oper.wp execOp
  simp only [ho, resolve, invoke, builtin, Sem.run_bind, Sem.run_pure, Result.andThen_ok, List.map_toArray, List.map_cons, List.map_nil, hm, hx, hr]
  exact hK _ _ h
theorem two_boxesB (w : World) (t1 t2 : TypeId) (c1 c2 : Array Value) : Blk ((w.alloc (.cells c1 t1)).alloc (.cells c2 t2)) w.heap.size t1 c1 ∧ Blk ((w.alloc (.cells c1 t1)).alloc (.cells c2 t2)) (w.heap.size + 1) t2 c2 ∧ Mod (fun _ => False) w ((w.alloc (.cells c1 t1)).alloc (.cells c2 t2)) := by
  refine ⟨(Blk.new _ _ _).alloc _, ?_, ((Mod.refl _ _).alloc _).alloc _⟩
  have h := Blk.new (w.alloc (.cells c1 t1)) t2 c2
  simpa using h
theorem zero_slot (w : World) : (zeroValue 32).run Try.prog w = .ok (.agg #[.bool false, .bool false, .int .i64 0, .int .i64 0, .bool false, .int .i64 0, .slice none 0 0, .slice none 0 0]) w := by kernel_rfl
/-- The law's slots, all zero. -/
def zeroSlots : List (List Value) := List.replicate 16 (slotC zeroSlot (.slice none 0 0) (.slice none 0 0))
theorem zero_slots (w : World) : (zeroValue 51).run Try.prog w = .ok (.agg ([] ++ (zeroSlots.flatten ++ [])).toArray) w := by kernel_rfl
theorem loc_new {w wr : World} {gs : Nat} (h : Blk wr gs 51 ([] ++ (zeroSlots.flatten ++ [])).toArray) : LocS w gs wr newD := by
  refine ⟨zeroSlots, ⟨fun r hr => ?_, h⟩, by unfold zeroSlots; exact List.length_replicate .., fun j hj => ⟨.slice none 0 0, .slice none 0 0, ?_, ⟨none, 0, 0, rfl, by omega, RdsS.nil _ _ _⟩, SliP.nil _ _ _ _, Nat.zero_le _⟩⟩
  · unfold zeroSlots at hr
    rw [List.eq_of_mem_replicate hr]
    rfl
  · unfold zeroSlots
    rw [List.getElem?_replicate, if_pos hj]
    rfl
end Go.Proofs.Yteegdbbmamabiaa

/- Two rows of samples compared: the document's Same. -/
namespace Go.Proofs.Yteegdbbmamabiaa
open Go.RowKit

/-- The first i are alike. -/
def SameTo (l1 l2 : List (Int × Nat)) (i : Nat) : Prop := ∀ j, j < i → l1[j]? = l2[j]?
theorem SameTo.done {l1 l2 : List (Int × Nat)} {n : Nat} (h : SameTo l1 l2 n) (h1 : l1.length = n) (h2 : l2.length = n) : l1 = l2 := List.ext_getElem? fun j => by
  rcases Nat.lt_or_ge j n with hj | hj
  · exact h j hj
  · rw [List.getElem?_eq_none (by omega), List.getElem?_eq_none (by omega)]
end Go.Proofs.Yteegdbbmamabiaa

/- Two rows of samples compared: the document's Same, of rows as long as may be. -/
namespace Go.Proofs.Yteegdbbmamabiaa
open Go.RowKit

set_option maxHeartbeats 1000000 in
set_option maxRecDepth 100000 in
theorem sameSB_any (A1 A2 : Option Addr) (n1 n2 c1 c2 B1 B2 : Nat) (l1 l2 : List (Int × Nat)) (b : Bool) (w : World) (hs1 : RdsS w B1 A1 n1 l1) (hs2 : RdsS w B2 A2 n2 l2) (hn : n1 ≤ 8796093022208) (hb : decide (l1 = l2) = b) :
    Calls Try.prog 19 #[.slice A1 n1 c1, .slice A2 n2 c2] w fun e w' => e = .returned (.bool b) ∧ Mod (fun _ => False) w w' := by
  have Hs1 := Lib.hid hs1.fit; have Hs2 := Lib.hid hs2.fit; have Hl1 := Lib.hid hs1.1; have Hl2 := Lib.hid hs2.1; have Hb := Lib.hid hb
  have hcs : Try.prog.cellsOf 43 = 2 := by kernel_rfl
  clear hs1 hs2 hb
  by_cases hnn : n1 = n2
  · subst hnn
    go_enter Try.func19, Try.ntmps19
    go_wp2_with fail
    go_loopg [5] n1 (fun k s5 wr => ∃ i : Nat, i + k = n1 ∧ s5 = .int .i64 (i : Int) ∧ SameTo l1 l2 i ∧ Mod (fun _ => False) w wr)
    case atStart => exact ⟨0, by omega, rfl, (fun j h => by omega), Mod.refl _ _⟩
    case round =>
      obtain ⟨i, hik, rfl, hr, hm⟩ := hrel
      have Hik := Lib.hid hik; have Hr := Lib.hid hr; have Hm := Lib.hid hm
      clear hik hr hm
      by_cases hin : i < n1
      · obtain ⟨a1, ⟨T, V⟩, rfl, _, hp, hc0, hc1⟩ := Hs1.out.at2 hin (Nat.le_refl _) Hm.out (fun _ _ h => h)
        obtain ⟨a2, ⟨S, U⟩, rfl, _, hq, hd0, hd1⟩ := Hs2.out.at2 hin (Nat.le_refl _) Hm.out (fun _ _ h => h)
        have hc1' := cell_whole hc1
        have hd1' := cell_whole hd1
        have Hp := Lib.hid hp; have Hq := Lib.hid hq
        clear hp hq hc1 hd1
        have hin' : (i : Int) < (n1 : Int) := by omega
        by_cases hT : T = S
        · subst hT
          by_cases hV : V = U
          · subst hV
            go_upto_region 6 with fail
            go_quiet (fail)
            go_wp2_with fail
            go_roundg (gk - 1)
            case measure => have := Hik.out; omega
            case rel => exact ⟨i + 1, by have := Hik.out; omega, by go_num, (fun j hj => by
              rcases Nat.lt_or_ge j i with h | h
              · exact Hr.out j h
              · obtain rfl : j = i := by omega
                rw [Hp.out, Hq.out]), Hm.out.drewN _⟩
          · have hVi : ¬ (V : Int) = (U : Int) := by omega
            have hVb : ((V : Int) == (U : Int)) = false := by simp; omega
            have Hno : Hid (b = false) := Lib.hid (by
              rw [← Hb.out, decide_eq_false_iff_not]
              intro e
              have h1 := Hp.out
              rw [e, Hq.out] at h1
              injection h1 with h1
              injection h1 with _ h1
              exact hV h1.symm)
            clear hV
            go_upto_region 6 with fail
            go_quiet (fail)
            go_wp2_with fail
            go_ret
            exact ⟨by rw [Hno.out]; rfl, Hm.out.drewN _⟩
        · have hTb : (T == S) = false := by simp [hT]
          have Hno : Hid (b = false) := Lib.hid (by
            rw [← Hb.out, decide_eq_false_iff_not]
            intro e
            have h1 := Hp.out
            rw [e, Hq.out] at h1
            injection h1 with h1
            injection h1 with h1 _
            exact hT h1.symm)
          go_upto_region 6 with fail
          go_quiet (fail)
          go_wp2_with fail
          go_ret
          exact ⟨by rw [Hno.out]; rfl, Hm.out.drewN _⟩
      · have hi : i = n1 := by have := Hik.out; omega
        have Hyes : Hid (b = true) := Lib.hid (by
          rw [← Hb.out, decide_eq_true_iff]
          exact SameTo.done (by rw [← hi]; exact Hr.out) Hl1.out Hl2.out)
        clear hi
        go_wp2_with fail
        go_ret
        exact ⟨by rw [Hyes.out]; rfl, Hm.out⟩
  · have hni : ((n1 : Int) == (n2 : Int)) = false := by simp; omega
    have hni2 : ((n1 : Int) != (n2 : Int)) = true := by simp; omega
    have Hno : Hid (b = false) := Lib.hid (by
      rw [← Hb.out, decide_eq_false_iff_not]
      intro e
      apply hnn
      rw [← Hl1.out, ← Hl2.out, e])
    clear hnn
    go_enter Try.func19, Try.ntmps19
    go_wp2_with fail
    go_ret
    exact ⟨by rw [Hno.out]; rfl, Mod.refl _ _⟩
end Go.Proofs.Yteegdbbmamabiaa

/- SameOpen of two that are alike, of rows as long as may be. -/
namespace Go.Proofs.Yteegdbbmamabiaa
open Go.RowKit

set_option maxHeartbeats 1000000 in
set_option maxRecDepth 100000 in
theorem sameOpenB_any (b : Bool) (t : Int) (A A2 : Option Addr) (n c c2 B B2 : Nat) (l : List (Int × Nat)) (w : World) (hs : RdsS w B A n l) (hs2 : RdsS w B2 A2 n l) (hn : n ≤ 8796093022208) :
    Calls Try.prog 18 #[.agg #[.bool b, .int .i64 t, .slice A n c], .agg #[.bool b, .int .i64 t, .slice A2 n c2]] w fun e w' => e = .returned (.bool true) ∧ Mod (fun _ => False) w w' := by
  obtain ⟨W, hW⟩ : ∃ W, W = (w.alloc (.cells #[.bool b, .int .i64 t, .slice A n c] 29)).alloc (.cells #[.bool b, .int .i64 t, .slice A2 n c2] 29) := ⟨_, rfl⟩
  obtain ⟨g0, hg0⟩ : ∃ g, g = w.heap.size := ⟨_, rfl⟩
  obtain ⟨g1, hg1⟩ : ∃ g, g = w.heap.size + 1 := ⟨_, rfl⟩
  have hmW : Mod (fun _ => False) w W := by rw [hW]; exact ((Mod.refl _ _).alloc _).alloc _
  have hb0 : Blk W g0 29 #[.bool b, .int .i64 t, .slice A n c] := by rw [hW, hg0]; exact (Blk.new _ _ _).alloc _
  have hb1 : Blk W g1 29 #[.bool b, .int .i64 t, .slice A2 n c2] := by
    rw [hW, hg1]
    have h := Blk.new (w.alloc (.cells #[.bool b, .int .i64 t, .slice A n c] 29)) 29 #[.bool b, .int .i64 t, .slice A2 n c2]
    simpa using h
  have z0 := hb0.cell 0
  have z1 := hb0.cell 1
  have z2 := hb0.cell 2
  have y0 := hb1.cell 0
  have y1 := hb1.cell 1
  have y2 := hb1.cell 2
  simp at z0 z1 z2 y0 y1 y2
  have Hs := Lib.hid (hs.fit.new hmW); have Hs2 := Lib.hid (hs2.fit.new hmW); have HW := Lib.hid hW; have HmW := Lib.hid hmW; have Hg0 := Lib.hid hg0; have Hg1 := Lib.hid hg1
  clear hs hs2 hW hmW hb0 hb1 hg0 hg1
  cases b with
  | false =>
    go_enter Try.func18, Try.ntmps18
    go_upto_region 1 with fail
    rw [← HW.out, ← Hg1.out, ← Hg0.out]
    go_wp2_with fail
    refine (sameSB_any A A2 n n c c2 _ _ l l true W Hs.out Hs2.out hn (by simp)).mono ?_
    rintro e w1 ⟨rfl, hm1⟩
    have Hm1 := Lib.hid (HmW.out.trans hm1 (fun _ _ h => h))
    clear hm1 z0 z1 z2 y0 y1 y2
    go_wp2_with fail
    go_ret
    exact ⟨rfl, Hm1.out⟩
  | true =>
    go_enter Try.func18, Try.ntmps18
    go_upto_region 1 with fail
    rw [← HW.out, ← Hg1.out, ← Hg0.out]
    go_wp2_with fail
    refine (sameSB_any A A2 n n c c2 _ _ l l true W Hs.out Hs2.out hn (by simp)).mono ?_
    rintro e w1 ⟨rfl, hm1⟩
    have Hm1 := Lib.hid (HmW.out.trans hm1 (fun _ _ h => h))
    clear hm1 z0 z1 z2 y0 y1 y2
    go_wp2_with fail
    go_ret
    exact ⟨rfl, Hm1.out⟩
end Go.Proofs.Yteegdbbmamabiaa

/- The directory's laws: two slots that are alike. -/
namespace Go.Proofs.Yteegdbbmamabiaa
open Go.RowKit

set_option maxHeartbeats 2000000 in
set_option maxRecDepth 100000 in
theorem sameSlot_any {A A2 P P2 : Option Addr} {n c c2 m d d2 : Nat} (s : SlotN) (w : World) (hs : RdsS w w.heap.size A n s.opn.list) (hs2 : RdsS w w.heap.size A2 n s.opn.list) (hp : RdsPt w w.heap.size P m s.chunks) (hp2 : RdsPt w w.heap.size P2 m s.chunks) (hn : n ≤ 8796093022208) (hm : m ≤ 1000000) :
    Calls Try.prog 12 #[.agg #[.bool s.there, .bool s.shut, .int .i64 s.life, .int .i64 s.ver, .bool s.opn.any, .int .i64 s.opn.last, .slice A n c, .slice P m d], .agg #[.bool s.there, .bool s.shut, .int .i64 s.life, .int .i64 s.ver, .bool s.opn.any, .int .i64 s.opn.last, .slice A2 n c2, .slice P2 m d2]] w fun e w' => e = .returned (.bool true) ∧ Mod (fun _ => False) w w' := by
  obtain ⟨W0, hW0, hmW0, hb0, hz0⟩ := new_box w 32 #[.bool s.there, .bool s.shut, .int .i64 s.life, .int .i64 s.ver, .bool s.opn.any, .int .i64 s.opn.last, .slice A n c, .slice P m d]
  obtain ⟨W, hW, hmW1, hb1, hz1⟩ := new_box W0 32 #[.bool s.there, .bool s.shut, .int .i64 s.life, .int .i64 s.ver, .bool s.opn.any, .int .i64 s.opn.last, .slice A2 n c2, .slice P2 m d2]
  obtain ⟨g0, hg0⟩ : ∃ x, x = w.heap.size := ⟨_, rfl⟩
  obtain ⟨g1, hg1⟩ : ∃ x, x = w.heap.size + 1 := ⟨_, rfl⟩
  rw [hz0, ← hg1] at hb1
  rw [← hg0] at hb0
  rw [hW0] at hW
  have hmW := hmW0.trans hmW1 (fun _ _ h => h)
  have HW := Lib.hid hW; have HmW := Lib.hid hmW; have Hg0 := Lib.hid hg0; have Hg1 := Lib.hid hg1; have Hb0 := Lib.hid (hmW1.blk hb0 (fun h => h)); have Hb1 := Lib.hid hb1
  have Hso := Lib.hid (sameOpenB_any s.opn.any s.opn.last A A2 n c c2 w.heap.size w.heap.size s.opn.list W (hs.mod hmW (Nat.le_refl _) (fun _ _ h => h)) (hs2.mod hmW (Nat.le_refl _) (fun _ _ h => h)) hn)
  have Hp := Lib.hid (hp.new hmW).fit; have Hp2 := Lib.hid (hp2.new hmW).fit
  have hcs : Try.prog.cellsOf 40 = 5 := by kernel_rfl
  have z0 := (Hb0.out).cell 0
  have z1 := (Hb0.out).cell 1
  have z2 := (Hb0.out).cell 2
  have z3 := (Hb0.out).cell 3
  have z4 := (Hb0.out).cell 4
  have z5 := (Hb0.out).cell 5
  have z6 := (Hb0.out).cell 6
  have z7 := (Hb0.out).cell 7
  simp at z0 z1 z2 z3 z4 z5 z6 z7
  have y0 := (Hb1.out).cell 0
  have y1 := (Hb1.out).cell 1
  have y2 := (Hb1.out).cell 2
  have y3 := (Hb1.out).cell 3
  have y4 := (Hb1.out).cell 4
  have y5 := (Hb1.out).cell 5
  have y6 := (Hb1.out).cell 6
  have y7 := (Hb1.out).cell 7
  simp at y0 y1 y2 y3 y4 y5 y6 y7
  clear hW0 hmW0 hb0 hz0 hW hmW1 hb1 hz1 hg0 hg1 hmW hs hs2 hp hp2
  go_enter Try.func12, Try.ntmps12
  go_upto_region 1 with fail
  rw [← HW.out, ← Hg1.out, ← Hg0.out]
  go_wp2_with fail
  refine Hso.out.mono ?_
  rintro e w1 ⟨rfl, hm1⟩
  have Hm1 := Lib.hid hm1
  have hb0 := hm1.blk Hb0.out (fun h => h)
  have hb1 := hm1.blk Hb1.out (fun h => h)
  have x7 := hb0.cell 7
  have v7 := hb1.cell 7
  simp at x7 v7
  have Hc0 := Lib.hid hb0; have Hc1 := Lib.hid hb1
  clear hm1 hb0 hb1 z0 z1 z2 z3 z4 z5 z6 z7 y0 y1 y2 y3 y4 y5 y6 y7
  go_upto_region 2 with fail
  go_loopg [5, 52] m (fun gk s5 s52 wr => ∃ i : Nat, i + gk = m ∧ s52 = .int .i64 (i : Int) ∧ Mod (fun _ => False) w1 wr)
  case atStart => exact ⟨0, by omega, rfl, Mod.refl _ _⟩
  case round =>
    obtain ⟨i, hik, rfl, hmr⟩ := hrel
    have Hik := Lib.hid hik; have Hmr := Lib.hid hmr
    clear hik hmr
    by_cases hin : i < m
    · have hin' : (i : Int) < (m : Int) := by omega
      obtain ⟨ad, p, rfl, _, hp, p0, p1, p2, p3, p4⟩ := ((Hp.out.new (Hm1.out.trans Hmr.out (fun _ _ h => h)))).at_ hin
      obtain ⟨ad2, p', rfl, _, hp2, r0, r1, r2, r3, r4⟩ := ((Hp2.out.new (Hm1.out.trans Hmr.out (fun _ _ h => h)))).at_ hin
      obtain rfl : p = p' := by rw [hp] at hp2; injection hp2
      have x7 := cell_new Hmr.out x7
      have v7 := cell_new Hmr.out v7
      clear hp hp2
      go_upto_region 6 with fail
      go_quiet (fail)
      go_wp2_with fail
      go_roundg (gk - 1)
      case measure => have := Hik.out; omega
      case rel => exact ⟨i + 1, by have := Hik.out; omega, by go_num, Hmr.out.drewN _⟩
    · have hi : i = m := by have := Hik.out; omega
      subst hi
      go_wp2_with fail
      go_ret
      exact ⟨rfl, (HmW.out.trans Hm1.out (fun _ _ h => h)).trans Hmr.out (fun _ _ h => h)⟩
end Go.Proofs.Yteegdbbmamabiaa

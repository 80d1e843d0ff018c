/- The texts Bit0, Bitp, Bitq, Bitg, Bitw, Refw, Refb, Two, Refr, Play0, Conv, All4, Go, Xs, Xo, Sx, Yt, Yx, Oa, Qa, Odg, Qb, Qd, Cx, Cy, Kr, Ja, Bq, Jc, Te, Tw, Bok, Gok, Tg, Gw, Tp, Tr, Kp, Pn, Kt, Wz, Wp, We, Ku, Pp, Wg, Wd, one behind the other. -/
import Derived.Test.YthogflfjdfcpeaaMq1
import Derived.Test.YthogflfjdfcpeaaRows
import Derived.Test.YthogflfjdfcpeaaMq2
namespace Go.Proofs.Ythogflfjdfcpeaa
open Go.RowKit

end Go.Proofs.Ythogflfjdfcpeaa

namespace Go.Proofs.Ythogflfjdfcpeaa
open Go.RowKit

def RowTo (w : World) (row row' : Option Nat) : Prop := row' = row ∨ ∃ r, row' = some r ∧ w.heap.size ≤ r

theorem RowTo.trans {w : World} {row row' row2 : Option Nat} {B : Nat} (h : RowTo w row row') (hB : w.heap.size ≤ B) (h2 : row2 = row' ∨ ∃ r, row2 = some r ∧ B ≤ r) : RowTo w row row2 := by
  rcases h2 with rfl | ⟨r, rfl, hr⟩
  · exact h
  · exact .inr ⟨r, rfl, by omega⟩
theorem RowTo.in_ {w : World} {row row' : Option Nat} (h : RowTo w row row') {k : Nat} (hk : row' = some k) (hlt : k < w.heap.size) : row = some k := by
  rcases h with rfl | ⟨r, rfl, hr⟩
  · exact hk
  · injection hk with hk; omega

end Go.Proofs.Ythogflfjdfcpeaa

namespace Go.Proofs.Ythogflfjdfcpeaa
open Go.RowKit

/-- What a call answers that makes a row of its own. -/
def NewRow (w w' : World) (v : Value) (n : Nat) (xs : List Value) : Prop :=
  w'.ownsRow 0 5 1 v n xs ∧ Mod (fun _ => False) w w' ∧ ((v.ownBlock = none) ∨ ∃ r, v.ownBlock = some r ∧ w.heap.size ≤ r)

theorem NewRow.form {w w1 : World} {v : Value} {n : Nat} {bs : List Nat} (h : NewRow w w1 v n (cells8 bs)) :
    ∃ A c row, v = .slice A n c ∧ n ≤ c ∧ (A = none → c = 0) ∧ w.heap.size ≤ row ∧ row ≠ w1.heap.size ∧ Sees w1 row A n (cells8 bs) := by
  obtain ⟨hown, hmod, hrow⟩ := h
  rcases hown.2 with ⟨h1, h2⟩ | ⟨g', cap, cur, h1, _, hg, hnc, _⟩
  · subst h2
    refine ⟨none, 0, w1.heap.size + 1, h1, Nat.le_refl _, fun _ => rfl, by have := hmod.size; omega, by omega, ⟨?_, fun h => by omega⟩⟩
    simpa using hown.1
  · have hl := (Array.getElem?_eq_some_iff.1 hg).1
    refine ⟨_, cap, g', h1, hnc, (fun h => by cases h), ?_, by omega, Sees.of_own (h1 ▸ hown) (fun _ => rfl)⟩
    rw [h1] at hrow
    rcases hrow with hr | ⟨r, hr, hle⟩
    · cases hr
    · simp [Value.ownBlock] at hr
      omega

end Go.Proofs.Ythogflfjdfcpeaa

namespace Go.Proofs.Ythogflfjdfcpeaa
open Go.RowKit

end Go.Proofs.Ythogflfjdfcpeaa

namespace Go.Proofs.Ythogflfjdfcpeaa
open Go.RowKit

end Go.Proofs.Ythogflfjdfcpeaa

namespace Go.Proofs.Ythogflfjdfcpeaa
open Go.RowKit

end Go.Proofs.Ythogflfjdfcpeaa

namespace Go.Proofs.Ythogflfjdfcpeaa
open Go.RowKit

end Go.Proofs.Ythogflfjdfcpeaa

/- Two writers that share nothing. -/
namespace Go.Proofs.Ythogflfjdfcpeaa
open Go.RowKit

def Apart (g : Nat) (row : Option Nat) (g2 : Nat) (row2 : Option Nat) : Prop := g ≠ g2 ∧ row ≠ some g2 ∧ row2 ≠ some g ∧ ∀ k, row = some k → row2 ≠ some k
theorem Apart.symm {g g2 : Nat} {row row2 : Option Nat} (h : Apart g row g2 row2) : Apart g2 row2 g row := ⟨fun e => h.1 e.symm, h.2.2.1, h.2.1, fun k hk e => h.2.2.2 k e hk⟩
section
variable {w w1 : World} {row n : Nat} {A : Option Addr} {xs : List Value}
end
theorem RowTo.low {B : Nat} {w : World} {row row' : Option Nat} (h : RowTo w row row') (hr : ∀ k, row = some k → B ≤ k) (hB : B ≤ w.heap.size) : ∀ k, row' = some k → B ≤ k := by
  intro k hk
  rcases h with rfl | ⟨r, rfl, hr'⟩
  · exact hr k hk
  · injection hk with hk; omega

/-- The call's own blocks alone have turned, a writer's that it made among them. -/
theorem Mod.put {w w' w0 : World} {g : Nat} {row : Option Nat} (h : Mod (fun _ => False) w0 w) (hm : Mod (fun i => i = g ∨ row = some i) w w') (hg : w0.heap.size ≤ g) (hr : ∀ k, row = some k → w0.heap.size ≤ k) : Mod (fun _ => False) w0 w' :=
  h.trans hm (fun i hi h => h.elim (fun e => by omega) (fun e => by have := hr i e; omega))
section
variable {w0 w w' : World} {a Na la b Nb lb : Nat} {ra rb : Option Nat}
end
end Go.Proofs.Ythogflfjdfcpeaa

namespace Go.Proofs.Ythogflfjdfcpeaa
open Go.RowKit

end Go.Proofs.Ythogflfjdfcpeaa

/- Two readers of one row of bytes: the project's, and the document's own. -/
namespace Go.Proofs.Ythogflfjdfcpeaa
open Go.RowKit

section
variable {w0 w w' : World} {g rg h rh : Nat} {bs : List Nat} {R rem R' rem' : Nat} {ok ok' : Bool}
end
end Go.Proofs.Ythogflfjdfcpeaa

namespace Go.Proofs.Ythogflfjdfcpeaa
open Go.RowKit

end Go.Proofs.Ythogflfjdfcpeaa

/- All that layer 4 stands on, together. -/

/- Readers in whatever state, the project's and the document's own: what is left, or nothing. -/
namespace Go.Proofs.Ythogflfjdfcpeaa
open Go.RowKit

/-- A reader's state: what is left, or nothing. -/
def getO (k : Nat) : Option (Nat × Nat) → Nat × Option (Nat × Nat)
  | some (R, rem) => if k ≤ rem then (R / 2 ^ (rem - k), some (R % 2 ^ (rem - k), rem - k)) else (0, none)
  | none => (0, none)
theorem getO_take (k R rem : Nat) : getO k (some (R, rem)) = match takeB k R rem with | some (b, R1, rem1) => (b, some (R1, rem1)) | none => (0, none) := by
  unfold getO takeB
  by_cases h : k ≤ rem
  · simp [h]
  · simp [h]
theorem getO_lt {R rem : Nat} (h : R < 2 ^ rem) (k : Nat) : (getO k (some (R, rem))).1 < 2 ^ k := by
  unfold getO
  by_cases hk : k ≤ rem
  · simp only [hk, if_true]
    rw [Nat.div_lt_iff_lt_mul (Nat.two_pow_pos _), ← Nat.pow_add, show k + (rem - k) = rem by omega]
    exact h
  · simp only [hk, if_false]
    exact Nat.two_pow_pos k
section
variable {w w' : World} {g row : Nat} {s : Option (Nat × Nat)}
end
section
variable {w w' : World} {g row : Nat} {bs : List Nat} {s : Option (Nat × Nat)}
end
end Go.Proofs.Ythogflfjdfcpeaa

/- Plain mathematics of values by what turns, the second part: a row that is read step by step, and told again, is the same row. -/
namespace Go.Proofs.Ythogflfjdfcpeaa

/-- Fields were taken off what a reader had. -/
def Took (fs : List (Nat × Nat)) (R rem R1 rem1 : Nat) : Prop := R = fnum fs * 2 ^ rem1 + R1 ∧ R1 < 2 ^ rem1 ∧ rem = flen fs + rem1
theorem Took.nil {R rem : Nat} (h : R < 2 ^ rem) : Took [] R rem R rem := ⟨by show R = 0 * _ + R; omega, h, by show rem = 0 + rem; omega⟩
theorem Took.app {fs gs : List (Nat × Nat)} {R rem R1 rem1 R2 rem2 : Nat} (h : Took fs R rem R1 rem1) (h2 : Took gs R1 rem1 R2 rem2) : Took (fs ++ gs) R rem R2 rem2 := by
  obtain ⟨a1, _, a3⟩ := h
  obtain ⟨b1, b2, b3⟩ := h2
  refine ⟨?_, b2, by rw [flen_app, a3, b3, Nat.add_assoc]⟩
  rw [a1, b1, b3, fnum_app, Nat.pow_add, Nat.add_mul, Nat.mul_assoc, Nat.add_assoc]
theorem took_take {k R rem v R1 rem1 : Nat} (h : takeB k R rem = some (v, R1, rem1)) (hR : R < 2 ^ rem) : Took [(v, k)] R rem R1 rem1 ∧ v < 2 ^ k := by
  obtain ⟨h1, h2, h3⟩ := takeB_some h hR
  unfold takeB at h
  split at h
  · rename_i hk
    injection h with h
    injection h with e1 h
    injection h with e2 e3
    subst e3
    have hv : v < 2 ^ k := h1
    refine ⟨⟨?_, h2, by show rem = (k + 0) + (rem - k); omega⟩, hv⟩
    show R = (v % 2 ^ k * 2 ^ 0 + 0) * 2 ^ (rem - k) + R1
    rw [Nat.mod_eq_of_lt hv, Nat.pow_zero, Nat.mul_one, Nat.add_zero, ← e1, ← e2, Nat.mul_comm, Nat.div_add_mod]
  · cases h
theorem Took.to {fs gs : List (Nat × Nat)} {R rem R1 rem1 : Nat} (h : Took fs R rem R1 rem1) (h1 : flen gs = flen fs) (h2 : fnum gs = fnum fs) : Took gs R rem R1 rem1 := ⟨by rw [h2]; exact h.1, h.2.1, by rw [h1]; exact h.2.2⟩

/-- What a turn's fields were. -/
def Shape (win : Option (Nat × Nat)) (x : Nat) (win' : Option (Nat × Nat)) (fs : List (Nat × Nat)) : Prop :=
  (fs = [(0, 1)] ∧ x = 0 ∧ win' = win) ∨
  (∃ a b y, win = some (a, b) ∧ fs = [(1, 1), (0, 1), (y, 64 - a - b)] ∧ y < 2 ^ (64 - a - b) ∧ x = y * 2 ^ b ∧ win' = win) ∨
  (∃ a m y, a < 32 ∧ m < 64 ∧ a + (m + 1) ≤ 64 ∧ fs = [(1, 1), (1, 1), (a, 5), (m, 6), (y, m + 1)] ∧ y < 2 ^ (m + 1) ∧ x = y * 2 ^ (64 - a - (m + 1)) ∧ win' = some (a, 64 - a - (m + 1)))
theorem Shape.lt {win win' : Option (Nat × Nat)} {x : Nat} {fs : List (Nat × Nat)} (h : Shape win x win' fs) (hw : WinOk win) : x < 2 ^ 64 := by
  rcases h with ⟨_, rfl, _⟩ | ⟨a, b, y, rfl, _, hy, rfl, _⟩ | ⟨a, m, y, ha, hm, hab, _, hy, rfl, _⟩
  · decide
  · obtain ⟨w1, w2⟩ := hw
    have := Nat.mul_lt_mul_of_pos_right hy (Nat.two_pow_pos b)
    rw [← Nat.pow_add] at this
    exact Nat.lt_of_lt_of_le this (Nat.pow_le_pow_right (by omega) (by omega))
  · have := Nat.mul_lt_mul_of_pos_right hy (Nat.two_pow_pos (64 - a - (m + 1)))
    rw [← Nat.pow_add] at this
    exact Nat.lt_of_lt_of_le this (Nat.pow_le_pow_right (by omega) (by omega))
theorem Shape.ok {win win' : Option (Nat × Nat)} {x : Nat} {fs : List (Nat × Nat)} (h : Shape win x win' fs) (hw : WinOk win) : WinOk win' := by
  rcases h with ⟨_, _, rfl⟩ | ⟨a, b, y, _, _, _, _, rfl⟩ | ⟨a, m, y, ha, hm, hab, _, _, _, rfl⟩
  · exact hw
  · exact hw
  · exact ⟨by omega, by omega⟩
/-- A turn is read, and told again in these bits. -/
def stX (win : Option (Nat × Nat)) (R rem : Nat) : Option (Nat × Option (Nat × Nat) × Nat × Nat) :=
  match rdX win R rem with
  | none => none
  | some (x, _, R1, rem1) => if flen (fieldsX win x) + rem1 = rem ∧ fnum (fieldsX win x) = R / 2 ^ rem1 then some (x, winX win x, R1, rem1) else none
end Go.Proofs.Ythogflfjdfcpeaa

/- A turn is read, as states of a reader: loosely, and as it is told; what values cost. -/
namespace Go.Proofs.Ythogflfjdfcpeaa

def SmallO (s : Option (Nat × Nat)) : Prop := ∀ R rem, s = some (R, rem) → R < 2 ^ rem
theorem getO_some {k R1 rem1 : Nat} {s : Option (Nat × Nat)} (h : (getO k s).2 = some (R1, rem1)) : ∃ R rem, s = some (R, rem) ∧ takeB k R rem = some ((getO k s).1, R1, rem1) := by
  cases s with
  | none => cases h
  | some p =>
    obtain ⟨R, rem⟩ := p
    refine ⟨R, rem, rfl, ?_⟩
    rw [getO_take] at h ⊢
    cases ht : takeB k R rem with
    | none => rw [ht] at h; cases h
    | some q =>
      obtain ⟨v, R2, rem2⟩ := q
      rw [ht] at h
      have h2 : some (R2, rem2) = some (R1, rem1) := h
      injection h2 with h2
      injection h2 with e1 e2
      subst e1 e2
      rfl
theorem getO_bad {k R rem : Nat} (h : (getO k (some (R, rem))).2 = none) : takeB k R rem = none := by
  rw [getO_take] at h
  cases ht : takeB k R rem with
  | none => rfl
  | some q => rw [ht] at h; cases h
theorem getO_bad0 {k : Nat} {s : Option (Nat × Nat)} (h : (getO k s).2 = none) : (getO k s).1 = 0 := by
  cases s with
  | none => rfl
  | some p =>
    obtain ⟨R, rem⟩ := p
    have := getO_bad h
    rw [getO_take, this]
theorem SmallO.get {s : Option (Nat × Nat)} (h : SmallO s) (k : Nat) : SmallO (getO k s).2 := by
  intro R1 rem1 h1
  obtain ⟨R, rem, rfl, ht⟩ := getO_some h1
  exact (took_take ht (h _ _ rfl)).1.2.1
theorem SmallO.lt {s : Option (Nat × Nat)} (h : SmallO s) (k : Nat) : (getO k s).1 < 2 ^ k := by
  cases s with
  | none => exact Nat.two_pow_pos k
  | some p => exact getO_lt (h _ _ rfl) k
def rdO (win : Option (Nat × Nat)) : Option (Nat × Nat) → Option (Nat × Option (Nat × Nat) × Nat × Nat)
  | none => none
  | some (R, rem) => rdX win R rem
def stO (win : Option (Nat × Nat)) : Option (Nat × Nat) → Option (Nat × Option (Nat × Nat) × Nat × Nat)
  | none => none
  | some (R, rem) => stX win R rem
theorem stO_none {win : Option (Nat × Nat)} {s : Option (Nat × Nat)} (hr : rdO win s = none) : stO win s = none := by
  cases s with
  | none => rfl
  | some p =>
    obtain ⟨R, rem⟩ := p
    have hr' : rdX win R rem = none := hr
    show stX win R rem = none
    unfold stX
    rw [hr']
section
variable {win : Option (Nat × Nat)} {s : Option (Nat × Nat)}
theorem rdO_one (h0 : (getO 1 s).1 ≠ 0) : ∃ R rem R1 rem1, s = some (R, rem) ∧ takeB 1 R rem = some ((getO 1 s).1, R1, rem1) ∧ (getO 1 s).2 = some (R1, rem1) := by
  cases h : (getO 1 s).2 with
  | none => exact absurd (getO_bad0 h) h0
  | some p =>
    obtain ⟨R, rem, e, ht⟩ := getO_some (R1 := p.1) (rem1 := p.2) h
    exact ⟨R, rem, _, _, e, ht, rfl⟩
theorem rdO_far (h0 : (getO 1 s).1 ≠ 0) (h1 : (getO 1 (getO 1 s).2).1 ≠ 0)
    (hf : 64 < (getO 5 (getO 1 (getO 1 s).2).2).1 + ((getO 6 (getO 5 (getO 1 (getO 1 s).2).2).2).1 + 1)) : rdO win s = none := by
  obtain ⟨R, rem, R1, rem1, rfl, ht, e1⟩ := rdO_one h0
  rw [e1] at h1 hf
  obtain ⟨R1', rem1', R2, rem2, e1', ht1, e2⟩ := rdO_one h1
  injection e1' with e1'
  injection e1' with x1 x2
  subst x1 x2
  rw [e2] at hf
  show rdX win R rem = none
  unfold rdX
  rw [ht]
  simp only
  rw [if_neg h0, ht1]
  simp only
  rw [if_neg h1]
  rw [getO_take] at hf
  cases ht2 : takeB 5 R2 rem2 with
  | none => rfl
  | some q =>
    obtain ⟨a, R3, rem3⟩ := q
    rw [ht2] at hf
    simp only at hf ⊢
    rw [getO_take] at hf
    cases ht3 : takeB 6 R3 rem3 with
    | none => rfl
    | some q =>
      obtain ⟨m, R4, rem4⟩ := q
      rw [ht3] at hf
      simp only at hf ⊢
      rw [if_pos hf]
theorem stO_far (h0 : (getO 1 s).1 ≠ 0) (h1 : (getO 1 (getO 1 s).2).1 ≠ 0)
    (hf : 64 < (getO 5 (getO 1 (getO 1 s).2).2).1 + ((getO 6 (getO 5 (getO 1 (getO 1 s).2).2).2).1 + 1)) : stO win s = none := stO_none (rdO_far h0 h1 hf)
end
end Go.Proofs.Ythogflfjdfcpeaa

/- Plain mathematics of all codecs: what a row of samples is told in, in each of the six; that it is read back, and nothing else is; the one that takes the fewest bytes. -/
namespace Go.Proofs.Ythogflfjdfcpeaa

/-- Words as bytes, the highest first. -/
def w8 (w : Nat) : List Nat := [w / 2 ^ 56 % 256, w / 2 ^ 48 % 256, w / 2 ^ 40 % 256, w / 2 ^ 32 % 256, w / 2 ^ 24 % 256, w / 2 ^ 16 % 256, w / 2 ^ 8 % 256, w % 256]
/-- A row of samples: its times and its values; it rises. -/
def tsOf (l : List (Int × Nat)) : List Int := l.map (·.1)
def vsOf (l : List (Int × Nat)) : List Nat := l.map (·.2)
def GoodS (l : List (Int × Nat)) : Prop := ∀ p ∈ l, Fits p.1 ∧ p.2 < 2 ^ 64
theorem GoodS.ts {l : List (Int × Nat)} (h : GoodS l) : ∀ x ∈ tsOf l, Fits x := fun x hx => by
  obtain ⟨p, hp, rfl⟩ := List.mem_map.1 hx
  exact (h p hp).1
theorem GoodS.vs {l : List (Int × Nat)} (h : GoodS l) : ∀ x ∈ vsOf l, x < 2 ^ 64 := fun x hx => by
  obtain ⟨p, hp, rfl⟩ := List.mem_map.1 hx
  exact (h p hp).2
end Go.Proofs.Ythogflfjdfcpeaa

/- The model goes on: how long rows are, what numbers are; what an iterator has stays, whatever others do. -/
namespace Go.Proofs.Ythogflfjdfcpeaa

/-- Rows of at most k samples, all of them numbers that fit. -/
def LenM (m : ModN) (k : Nat) : Prop := (∀ s ∈ m.ser, s.l.length ≤ k ∧ GoodS s.l ∧ Fits s.last) ∧ (∀ i ∈ m.ite, i.rest.length ≤ k ∧ GoodS i.rest)
theorem LenM.nil (k : Nat) : LenM .nil k := ⟨fun _ h => (by cases h), fun _ h => (by cases h)⟩
theorem LenM.more {m : ModN} {k k' : Nat} (h : LenM m k) (hk : k ≤ k') : LenM m k' :=
  ⟨fun s hs => ⟨Nat.le_trans (h.1 s hs).1 hk, (h.1 s hs).2⟩, fun s hs => ⟨Nat.le_trans (h.2 s hs).1 hk, (h.2 s hs).2⟩⟩
end Go.Proofs.Ythogflfjdfcpeaa

/- Models in memory: one cell of one element written, one element more, what else turns; a struct of five cells; the op of a number. -/
namespace Go.Proofs.Ythogflfjdfcpeaa
open Go.RowKit

section
variable {w w' : World} {B B' g n cap i j : Nat} {e : TypeId} {v : Value}
/-- A struct of five cells is written. -/
theorem Blk.five {t : TypeId} {c0 c1 c2 c3 c4 : Value} (h : Blk w g t #[c0, c1, c2, c3, c4]) (a b c d f : Value) :
    let W := ((((w.setCell ⟨g, 0, none⟩ a).setCell ⟨g, 1, none⟩ b).setCell ⟨g, 2, none⟩ c).setCell ⟨g, 3, none⟩ d).setCell ⟨g, 4, none⟩ f
    W.cell? ⟨g, 0, none⟩ = some a ∧ W.cell? ⟨g, 1, none⟩ = some b ∧ W.cell? ⟨g, 2, none⟩ = some c ∧ W.cell? ⟨g, 3, none⟩ = some d ∧ W.cell? ⟨g, 4, none⟩ = some f ∧ Blk W g t #[a, b, c, d, f] := by
  have h3 := ((((h.set_ 0 a).set_ 1 b).set_ 2 c).set_ 3 d).set_ 4 f
  have h4 : Blk (((((w.setCell ⟨g, 0, none⟩ a).setCell ⟨g, 1, none⟩ b).setCell ⟨g, 2, none⟩ c).setCell ⟨g, 3, none⟩ d).setCell ⟨g, 4, none⟩ f) g t #[a, b, c, d, f] := by simpa using h3
  refine ⟨?_, ?_, ?_, ?_, ?_, h4⟩
  · have := h4.cell 0; simpa using this
  · have := h4.cell 1; simpa using this
  · have := h4.cell 2; simpa using this
  · have := h4.cell 3; simpa using this
  · have := h4.cell 4; simpa using this
end

end Go.Proofs.Ythogflfjdfcpeaa

/- Rows of the call's own written in place: runs of cells stored; append with room, copy, clear, of elements of K cells. -/
namespace Go.Proofs.Ythogflfjdfcpeaa
open Go.RowKit

/-- A run of cells laid over a row. -/
def over (cs : List Value) (o : Nat) (vs : List Value) : List Value := cs.take o ++ vs ++ cs.drop (o + vs.length)
theorem over_len {cs vs : List Value} {o : Nat} (h : o + vs.length ≤ cs.length) : (over cs o vs).length = cs.length := by
  simp only [over, List.length_append, List.length_take, List.length_drop]
  omega
theorem over_take {cs vs : List Value} {o n : Nat} (h : o + vs.length ≤ n) (hn : n ≤ cs.length) : (over cs o vs).take n = over (cs.take n) o vs := by
  unfold over
  rw [List.take_append, List.take_append, List.take_of_length_le (by rw [List.length_take]; omega), List.take_of_length_le (l := vs) (by rw [List.length_take]; omega), List.take_take, Nat.min_eq_left (by omega), List.drop_take]
  congr 2
  rw [List.length_append, List.length_take]
  omega
section
variable {w w' : World} {g o : Nat} {t : TypeId} {cs : Array Value}
theorem Blk.setCells : ∀ {vs : List Value} {o : Nat} {w : World} {cs : Array Value}, Blk w g t cs → o + vs.length ≤ cs.size → Blk (w.setCells g o vs) g t (over cs.toList o vs).toArray := by
  intro vs
  induction vs with
  | nil =>
    intro o w cs h _
    have e : (over cs.toList o []).toArray = cs := by simp [over]
    rw [e]
    exact h
  | cons v r ih =>
    intro o w cs h hl
    have h2 := ih (h.set_ o v) (o := o + 1) (by simp at hl ⊢; omega)
    have e : over (cs.setIfInBounds o v).toList (o + 1) r = over cs.toList o (v :: r) := by
      unfold over
      have hk : o + (r.length + 1) ≤ cs.toList.length := by simp at hl ⊢; omega
      have h3 := list_seg_step cs.toList o v r hk
      rw [Array.toList_setIfInBounds]
      simpa using h3
    rw [e] at h2
    exact h2
theorem mod_setCells (w : World) (g : Nat) : ∀ (vs : List Value) (o : Nat) (w1 : World), Mod (fun k => k = g) w w1 → Mod (fun k => k = g) w (w1.setCells g o vs) := by
  intro vs
  induction vs with
  | nil => intro o w1 h; exact h
  | cons v r ih => intro o w1 h; exact ih (o + 1) _ (h.setCell (p := ⟨g, o, none⟩) (fun _ => rfl) v)
theorem Mod.setCells (w : World) (g o : Nat) (vs : List Value) : Mod (fun k => k = g) w (w.setCells g o vs) := mod_setCells w g vs o w (Mod.refl _ _)
theorem Blk.some_ (h : Blk w g t cs) {i : Nat} (hi : i < cs.size) : (w.cell? ⟨g, i, none⟩).isSome = true := by
  rw [h.cell i, Array.getElem?_eq_getElem hi]
  rfl
end
section
variable {K B : Nat} {w w' : World} {e : TypeId} {v : Value} {rows news : List (List Value)} {g n cap : Nat}
/-- The block behind a row of the call's own. -/
theorem OwnK.blk (h : OwnK K B w e (.slice (some ⟨g, 0, none⟩) n cap) rows) : ∃ cur, Blk w g e cur ∧ B ≤ g ∧ rows.length = n ∧ n ≤ cap ∧ cap ≤ maxLen ∧ cur.size = cap * K ∧ cur.toList.take (n * K) = rows.flatten := by
  rcases h.2.2 with ⟨h1, _⟩ | ⟨g', cap', cur, h1, hB, hgg, hnc, hcm, hcs, htk⟩
  · cases h1
  · injection h1 with h1 h2 h3
    injection h1 with h1
    injection h1 with h1
    subst h1 h3
    refine ⟨cur, hgg, hB, h2.symm, ?_, hcm, hcs, ?_⟩
    · rw [h2]; exact hnc
    · rw [h2]; exact htk
theorem OwnK.of_blk {cur : Array Value} (hb : Blk w g e cur) (hB : B ≤ g) (hr : rows.length = n) (hn : n ≤ cap) (hc : cap ≤ maxLen) (hs : cur.size = cap * K) (ha : AllK K rows) (ht : cur.toList.take (n * K) = rows.flatten) : OwnK K B w e (.slice (some ⟨g, 0, none⟩) n cap) rows := by
  refine ⟨ha, flat_len ha, .inr ⟨g, cap, cur, by rw [hr], hB, hb, by omega, hc, hs, by rw [hr]; exact ht⟩⟩
/-- s[:k] -/
theorem OwnK.cut {k : Nat} (h : OwnK K B w e (.slice (some ⟨g, 0, none⟩) n cap) rows) (hk : k ≤ n) : OwnK K B w e (.slice (some ⟨g, 0, none⟩) k cap) (rows.take k) := by
  obtain ⟨cur, hb, hB, hr, hn, hc, hs, ht⟩ := h.blk
  refine OwnK.of_blk hb hB (by rw [List.length_take]; omega) (by omega) hc hs (h.1.take k) ?_
  rw [← flat_take k h.1, ← ht, List.take_take, Nat.min_eq_left (Nat.mul_le_mul_right K hk)]
/-- Whole elements laid over a row, from its p-th on. -/
theorem over_rows {p : Nat} (ha : AllK K rows) (hn : AllK K news) : over rows.flatten (p * K) news.flatten = (rows.take p ++ news ++ rows.drop (p + news.length)).flatten := by
  unfold over
  rw [flat_len hn, ← Nat.add_mul, flat_take p ha, flat_drop (p + news.length) ha, List.flatten_append, List.flatten_append]
theorem OwnK.laid {p : Nat} (h : OwnK K B w e (.slice (some ⟨g, 0, none⟩) n cap) rows) (hn : AllK K news) (hp : p + news.length ≤ n) :
    OwnK K B (w.setCells g (p * K) news.flatten) e (.slice (some ⟨g, 0, none⟩) n cap) (rows.take p ++ news ++ rows.drop (p + news.length)) := by
  obtain ⟨cur, hb, hB, hr, hnc, hc, hs, ht⟩ := h.blk
  have hfl := flat_len hn
  have h1 : p * K + news.flatten.length ≤ n * K := by rw [hfl, ← Nat.add_mul]; exact Nat.mul_le_mul_right K hp
  have h2 : n * K ≤ cap * K := Nat.mul_le_mul_right K hnc
  have hsz : cur.toList.length = cap * K := by simpa using hs
  refine OwnK.of_blk (hb.setCells (by omega)) hB ?_ hnc hc ?_ ?_ ?_
  · simp only [List.length_append, List.length_take, List.length_drop]; omega
  · rw [List.size_toArray, over_len (by omega), hsz]
  · exact ((h.1.take p).app hn).app (h.1.drop _)
  · show (over cur.toList (p * K) news.flatten).take (n * K) = _
    rw [over_take h1 (by omega), ht, over_rows h.1 hn]
/-- .. and what lies behind the row is written: s = s[:k] after its spare cells took them. -/
theorem OwnK.grown {m : Nat} (h : OwnK K B w e (.slice (some ⟨g, 0, none⟩) n cap) rows) (hn : AllK K news) (hm : news.length = m) (hp : n + m ≤ cap) :
    OwnK K B (w.setCells g (n * K) news.flatten) e (.slice (some ⟨g, 0, none⟩) (n + m) cap) (rows ++ news) := by
  obtain ⟨cur, hb, hB, hr, hnc, hc, hs, ht⟩ := h.blk
  have hfl := flat_len hn
  have h1 : n * K + news.flatten.length = (n + m) * K := by rw [hfl, hm, ← Nat.add_mul]
  have h2 : (n + m) * K ≤ cap * K := Nat.mul_le_mul_right K hp
  have hsz : cur.toList.length = cap * K := by simpa using hs
  refine OwnK.of_blk (hb.setCells (by omega)) hB ?_ hp hc ?_ (h.1.app hn) ?_
  · rw [List.length_append]; omega
  · rw [List.size_toArray, over_len (by omega), hsz]
  · show (over cur.toList (n * K) news.flatten).take ((n + m) * K) = _
    rw [over_take (by omega) (by omega)]
    unfold over
    rw [List.take_take, Nat.min_eq_left (by omega), ht, List.drop_of_length_le (by rw [List.length_take]; omega), List.append_nil, List.flatten_append]
/-- What lies behind the row is written. -/
theorem OwnK.behind {o : Nat} {vs : List Value} (h : OwnK K B w e (.slice (some ⟨g, 0, none⟩) n cap) rows) (ho : n * K ≤ o) (hl : o + vs.length ≤ cap * K) : OwnK K B (w.setCells g o vs) e (.slice (some ⟨g, 0, none⟩) n cap) rows := by
  obtain ⟨cur, hb, hB, hr, hnc, hc, hs, ht⟩ := h.blk
  have hsz : cur.toList.length = cap * K := by simpa using hs
  refine OwnK.of_blk (hb.setCells (by omega)) hB hr hnc hc ?_ h.1 ?_
  · rw [List.size_toArray, over_len (by omega), hsz]
  · show (over cur.toList o vs).take (n * K) = _
    unfold over
    rw [List.append_assoc, List.take_append_of_le_length (by rw [List.length_take]; omega), List.take_take, Nat.min_eq_left ho, ht]
/-- A row's cells may be written. -/
theorem OwnK.open_ (h : OwnK K B w e (.slice (some ⟨g, 0, none⟩) n cap) rows) {i : Nat} (hi : i < cap * K) : (w.cell? ⟨g, i, none⟩).isSome = true ∧ w.frozen? ⟨g, i, none⟩ = false := by
  obtain ⟨cur, hb, _, _, _, _, hs, _⟩ := h.blk
  exact ⟨hb.some_ (by omega), hb.frozen i⟩
end
section
variable {P : Program} {w : World} {t e : TypeId} {z : Value} {K bytes B : Nat}
/-- append(s[:n], x..) with room: in place, wherever x lies. -/
theorem run_append_in (hE : EltK P t e z K bytes) {g n cap m c : Nat} {news : List (List Value)} {N : Nat} {all : List (List Value)} (h : OwnK K B w e (.slice (some ⟨g, 0, none⟩) N cap) all) {A : Option Addr} (hA : A ≠ none) (hr : ∃ B2, RdsK K w B2 A m news) (h1 : ∀ u ∈ news.flatten, u.oneCell' = true) (hroom : n + m ≤ cap) (ty : TypeId) :
    (Builtin.append_ #[t, t] ty #[.slice (some ⟨g, 0, none⟩) n cap, .slice A m c]).run P w = .ok (.slice (some ⟨g, 0, none⟩) (n + m) cap) (w.setCells g (n * K) news.flatten) := by
  obtain ⟨ht, ⟨i, hi, hz, hsize, hby⟩, hzs, hK⟩ := hE
  obtain ⟨B2, hr1, hr2, hr3⟩ := hr
  have hfl := flat_len hr2
  rcases A with _ | ad
  · exact absurd rfl hA
  · have hcells : ∀ j u, news.flatten[j]? = some u → w.cell? (ad.add j) = some u := by
      intro j u hu
      rcases Nat.eq_zero_or_pos m with h0 | h0
      · subst h0
        obtain rfl : news = [] := List.eq_nil_of_length_eq_zero hr1
        simp at hu
      · obtain ⟨ad', h, _, hc⟩ := hr3.2 (Nat.mul_pos h0 hK)
        injection h with h
        subst h
        exact hc j u hu
    have hlt : n * K + news.flatten.length ≤ cap * K := by rw [hfl, hr1, ← Nat.add_mul]; exact Nat.mul_le_mul_right K hroom
    have h2 := run_append_room_cells (P := P) w t ty e i ht hi g 0 n cap ad m c news.flatten (by rw [hfl, hr1, hsize]) hcells h1 hroom (fun j hj => (h.open_ (by rw [hsize]; omega)).1) (fun j hj => (h.open_ (by rw [hsize]; omega)).2)
    rw [Nat.zero_add, hsize] at h2
    exact h2
/-- copy(d, s): all is read ahead. -/
theorem run_copyK (hE : EltK P t e z K bytes) {b o dLen dCap sLen sCap m : Nat} {a : Addr} {cs : List Value} (hm : Nat.min sLen dLen = m) (hn : cs.length = m * K)
    (hsrc : ∀ j v, cs[j]? = some v → w.cell? (a.add j) = some v) (hc : ∀ j, j < cs.length → (w.cell? ⟨b, o + j, none⟩).isSome = true) (hf : ∀ j, j < cs.length → w.frozen? ⟨b, o + j, none⟩ = false) (h1 : ∀ v ∈ cs, v.oneCell' = true) (ty : TypeId) :
    (Builtin.copy_ #[t, t] ty #[.slice (some ⟨b, o, none⟩) dLen dCap, .slice (some a) sLen sCap]).run P w = .ok (goInt m) (w.setCells b o cs) := by
  obtain ⟨ht, ⟨i, hi, hz, hsize, hby⟩, hzs, hK⟩ := hE
  have hl := run_loadCells_list (P := P) w a cs hsrc
  have hst := run_storeCells_cells (P := P) b o cs 0 w (by simpa using hc) (by simpa using hf) h1
  rw [hn] at hl
  simp [Builtin.copy_, run_underlying ht, Builtin.lenOf, Builtin.firstCells, sizeOf, typeInfo, hi, hsize, hm, hl, hst]
/-- clear(s) -/
theorem run_clearK (hE : EltK P t e z K bytes) (hv : ∀ w, (zeroValue e).run P w = .ok z w) (h1 : ∀ u ∈ z.cells, u.oneCell' = true) {b o n : Nat} (hn : 0 < n)
    (hc : ∀ j, j < n * K → (w.cell? ⟨b, o + j, none⟩).isSome = true) (hf : ∀ j, j < n * K → w.frozen? ⟨b, o + j, none⟩ = false) :
    ∃ vs : List Value, vs.length = n * K ∧ ∀ ty c, (Builtin.clear_ #[t] ty #[.slice (some ⟨b, o, none⟩) n c]).run P w = .ok (.tuple #[]) (w.setCells b o vs) := by
  obtain ⟨ht, ⟨i, hi, hz, hsize, hby⟩, hzs, hK⟩ := hE
  have hl : (Builtin.zeroCells z.cells n).toList.length = n * K := by simp [Builtin.zeroCells, hzs]
  refine ⟨(Builtin.zeroCells z.cells n).toList, hl, fun ty c => ?_⟩
  have hst := run_storeCells_cells (P := P) b o (Builtin.zeroCells z.cells n).toList 0 w (by rw [hl]; simpa using hc) (by rw [hl]; simpa using hf) (by
    intro u hu
    simp only [Builtin.zeroCells, Array.toList_map, List.mem_map] at hu
    obtain ⟨j, _, rfl⟩ := hu
    have hlt : j % z.cells.size < z.cells.size := Nat.mod_lt _ (by omega)
    rw [getElem!_pos z.cells _ hlt]
    exact h1 _ (Array.getElem_mem hlt))
  simp only [Nat.add_zero] at hst
  obtain ⟨m, rfl⟩ : ∃ m, n = m + 1 := ⟨n - 1, by omega⟩
  simp [Builtin.clear_, run_underlying ht, hv, hst]
end
section
variable {P : Program} {w : World}
theorem step_copy_run {ops : Array Oper} {o : Oper} {a : Act} {K : Act → World → Prop} {Q : Exit → Act → World → Prop} {E : Prop} (hgd : o.guard = none) (d s : Operand) (t : TypeId)
    (ho : o.op = .call { callee := .builtin .copy, args := #[d, s], argTypes := #[t, t] }) {v u : Value} (hd : a.eval d = v) (hs : a.eval s = u) {v' : Value} {w' : World}
    (hr : (Builtin.copy_ #[t, t] o.type #[v, u]).run P w = .ok v' w') (h : K (a.put o.dst v') w') : if Region.wanted o (yielded ops a.tmps) = true then Oper.wp P o a w K Q else E := by
  have hw : Region.wanted o (yielded ops a.tmps) = true := by simp [Region.wanted, hgd]
  rw [if_pos hw]
  unfold Oper.wp execOp
  simp only [ho, resolve, invoke, builtin, Sem.run_bind, Sem.run_pure, Result.andThen_ok, List.map_toArray, List.map_cons, List.map_nil, hd, hs, hr]
  exact h
theorem step_append_run {ops : Array Oper} {o : Oper} {a : Act} {K : Act → World → Prop} {Q : Exit → Act → World → Prop} {E : Prop} (hgd : o.guard = none) (d s : Operand) (t : TypeId)
    (ho : o.op = .call { callee := .builtin .append, args := #[d, s], argTypes := #[t, t] }) {v u : Value} (hd : a.eval d = v) (hs : a.eval s = u) {v' : Value} {w' : World}
    (hr : (Builtin.append_ #[t, t] o.type #[v, u]).run P w = .ok v' w') (h : K (a.put o.dst v') w') : if Region.wanted o (yielded ops a.tmps) = true then Oper.wp P o a w K Q else E := by
  have hw : Region.wanted o (yielded ops a.tmps) = true := by simp [Region.wanted, hgd]
  rw [if_pos hw]
  unfold Oper.wp execOp
  simp only [ho, resolve, invoke, builtin, Sem.run_bind, Sem.run_pure, Result.andThen_ok, List.map_toArray, List.map_cons, List.map_nil, hd, hs, hr]
  exact h
end
end Go.Proofs.Ythogflfjdfcpeaa

/- The clock that the code turns, in memory: six cells, and its pages. -/
namespace Go.Proofs.Ythogflfjdfcpeaa
open Go.RowKit

def clkC (c : ClkN) (vp : Value) : Array Value := #[.int .i64 c.most, .int .i64 c.target, vp, .int .i64 c.hot, .int .i64 c.cold, .int .i64 c.test]
def pagV (p : PagN) : Value := .agg #[.int .i64 p.key.s, .int .i64 p.key.l, .int .i64 p.key.b, .int .i64 p.kind, .bool p.ref, .bool p.trial, .int .i64 p.pins]
def keyV (k : KeyN) : Value := .agg #[.int .i64 k.s, .int .i64 k.l, .int .i64 k.b]
def zeroPag : Value := .agg #[.int .i64 0, .int .i64 0, .int .i64 0, .int .i64 0, .bool false, .bool false, .int .i64 0]
def zeroKey : Value := .agg #[.int .i64 0, .int .i64 0, .int .i64 0]
theorem eltPag : EltK Try.prog 23 30 zeroPag 7 48 := EltK.mk Try.underlying23 (by kernel_rfl) rfl (by decide)
theorem eltKey : EltK Try.prog 33 28 zeroKey 3 24 := EltK.mk Try.underlying33 (by kernel_rfl) rfl (by decide)
theorem pagC_one (ps : List PagN) : ∀ u ∈ (ps.map pagC).flatten, u.oneCell' = true := by
  intro u hu
  obtain ⟨r, hr, hu⟩ := List.mem_flatten.1 hu
  obtain ⟨p, _, rfl⟩ := List.mem_map.1 hr
  simp only [pagC, List.mem_cons, List.not_mem_nil, or_false] at hu
  rcases hu with rfl | rfl | rfl | rfl | rfl | rfl | rfl <;> rfl
/-- One object laid into new memory, named. -/
theorem Blk.boxed (w : World) (t : TypeId) (cs : Array Value) : ∃ W, W = w.alloc (.cells cs t) ∧ Mod (fun _ => False) w W ∧ Blk W w.heap.size t cs ∧ W.heap.size = w.heap.size + 1 := ⟨_, rfl, (Mod.refl _ _).alloc _, Blk.new _ _ _, by simp⟩
/-- It lies at g; its pages are a row of the call's own. -/
structure ClkV (B g : Nat) (w : World) (vp : Value) (c : ClkN) : Prop where
  blk : Blk w g 25 (clkC c vp)
  ps : OwnP B w 30 vp c.ps
/-- What turning it may turn. -/
def ClkS (g : Nat) (vp : Value) (k : Nat) : Prop := k = g ∨ vp.ownBlock = some k
/-- It was turned: it is c now. -/
def ClkTo (B g : Nat) (w w' : World) (vp : Value) (c : ClkN) : Prop := ∃ vp', ClkV B g w' vp' c ∧ Mod (ClkS g vp) w w' ∧ ∀ k, vp'.ownBlock = some k → vp.ownBlock = some k ∨ w.heap.size ≤ k
section
variable {B g : Nat} {w w' w1 w2 : World} {vp vp1 : Value} {c c' : ClkN}
theorem ClkV.ne (h : ClkV B g w vp c) : vp.ownBlock ≠ some g := own_blk_ne h.ps.2 h.blk (by decide)
theorem ClkV.lt (h : ClkV B g w vp c) : ∀ k, vp.ownBlock = some k → B ≤ k ∧ k < w.heap.size := OwnK.block h.ps
theorem ClkV.new (h : ClkV B g w vp c) (hm : Mod (fun _ => False) w w') : ClkV B g w' vp c := ⟨hm.blk h.blk id, h.ps.mod hm⟩
theorem ClkV.drew (h : ClkV B g w vp c) : ClkV B g w.drew vp c := ⟨h.blk, h.ps⟩
theorem ClkV.drewN (h : ClkV B g w vp c) (n : Nat) : ClkV B g (w.drewN n) vp c := ⟨h.blk, h.ps⟩
theorem ClkV.modS {S : Nat → Prop} (h : ClkV B g w vp c) (hm : Mod S w w') (hS : ∀ k, ClkS g vp k → ¬ S k) : ClkV B g w' vp c :=
  ⟨hm.blk h.blk (hS g (.inl rfl)), OwnK.modS h.ps hm (fun k hk => hS k (.inr hk))⟩
theorem ClkV.mono {B' : Nat} (h : ClkV B g w vp c) (hB : B' ≤ B) : ClkV B' g w vp c := ⟨h.blk, h.ps.mono hB⟩
theorem ClkTo.mono {B' : Nat} (h : ClkTo B g w w' vp c) (hB : B' ≤ B) : ClkTo B' g w w' vp c := by
  obtain ⟨vp', h1, h2, h3⟩ := h
  exact ⟨vp', h1.mono hB, h2, h3⟩
theorem ClkTo.refl (h : ClkV B g w vp c) : ClkTo B g w w vp c := ⟨vp, h, Mod.refl _ _, fun _ h => .inl h⟩
/-- New memory ahead of it, or behind it. -/
theorem ClkTo.after (hm : Mod (fun _ => False) w w1) (h : ClkTo B g w1 w2 vp c) : ClkTo B g w w2 vp c := by
  obtain ⟨vp', h1, h2, h3⟩ := h
  exact ⟨vp', h1, (hm.mono (fun _ _ h => h.elim)).trans h2 (fun _ _ h => h), fun k hk => (h3 k hk).imp id (fun h => Nat.le_trans hm.size h)⟩
theorem ClkTo.then_ (h : ClkTo B g w w1 vp c) (hm : Mod (fun _ => False) w1 w2) : ClkTo B g w w2 vp c := by
  obtain ⟨vp', h1, h2, h3⟩ := h
  exact ⟨vp', h1.new hm, h2.trans hm (fun _ _ h => h.elim), h3⟩
/-- One turn behind another one. -/
theorem ClkTo.step (hm : Mod (ClkS g vp) w w1) (ho : ∀ k, vp1.ownBlock = some k → vp.ownBlock = some k ∨ w.heap.size ≤ k) (h : ClkTo B g w1 w2 vp1 c) : ClkTo B g w w2 vp c := by
  obtain ⟨vp', h1, h2, h3⟩ := h
  refine ⟨vp', h1, hm.trans h2 (fun i hi hs => ?_), fun k hk => ?_⟩
  · rcases hs with hs | hs
    · exact .inl hs
    · rcases ho i hs with h | h
      · exact .inr h
      · omega
  · rcases h3 k hk with h | h
    · exact ho k h
    · exact .inr (Nat.le_trans hm.size h)
theorem ClkTo.trans (h1 : ClkTo B g w w1 vp c) (h2 : ∀ vp1, ClkV B g w1 vp1 c → ClkTo B g w1 w2 vp1 c') : ClkTo B g w w2 vp c' := by
  obtain ⟨vp1, k1, k2, k3⟩ := h1
  exact ClkTo.step k2 k3 (h2 vp1 k1)
/-- Its cells. -/
theorem ClkV.cells (h : ClkV B g w vp c) : w.cell? ⟨g, 0, none⟩ = some (.int .i64 c.most) ∧ w.cell? ⟨g, 1, none⟩ = some (.int .i64 c.target) ∧ w.cell? ⟨g, 2, none⟩ = some vp ∧ w.cell? ⟨g, 3, none⟩ = some (.int .i64 c.hot) ∧ w.cell? ⟨g, 4, none⟩ = some (.int .i64 c.cold) ∧ w.cell? ⟨g, 5, none⟩ = some (.int .i64 c.test) := by
  refine ⟨?_, ?_, ?_, ?_, ?_, ?_⟩
  · exact (h.blk.cell 0).trans rfl
  · exact (h.blk.cell 1).trans rfl
  · exact (h.blk.cell 2).trans rfl
  · exact (h.blk.cell 3).trans rfl
  · exact (h.blk.cell 4).trans rfl
  · exact (h.blk.cell 5).trans rfl
theorem ClkV.frozen (h : ClkV B g w vp c) (i : Nat) : w.frozen? ⟨g, i, none⟩ = false := h.blk.frozen i
/-- Its pages' value. -/
theorem ClkV.form (h : ClkV B g w vp c) : ∃ A n cap, vp = .slice A n cap ∧ Hid (c.ps.length = n) ∧ n ≤ cap ∧ cap ≤ maxLen ∧ RdsP w w.heap.size A n c.ps := by
  obtain ⟨A, cap, h1, h2, h3, h4⟩ := OwnP.form h.ps
  exact ⟨A, _, cap, h1, Lib.hid rfl, h2, h3, h4⟩
/-- One number of it is written. -/
theorem ClkV.num (h : ClkV B g w vp c) (i : Nat) (u : Value) (hc : (clkC c vp).setIfInBounds i u = clkC c' vp) (hp : c'.ps = c.ps) : ClkV B g (w.setCell ⟨g, i, none⟩ u) vp c' := by
  have hm : Mod (fun k => k = g) w (w.setCell ⟨g, i, none⟩ u) := mod_oneCell _ _ _ _
  refine ⟨by rw [← hc]; exact h.blk.set_ i u, ?_⟩
  rw [hp]
  exact OwnK.modS h.ps hm (fun k hk e => h.ne (by rw [hk, e]))
theorem ClkTo.num (h : ClkV B g w vp c) (i : Nat) (u : Value) (hc : (clkC c vp).setIfInBounds i u = clkC c' vp) (hp : c'.ps = c.ps) : ClkTo B g w (w.setCell ⟨g, i, none⟩ u) vp c' :=
  ⟨vp, h.num i u hc hp, (mod_oneCell _ _ _ _).mono (fun _ _ h => .inl h), fun _ h => .inl h⟩
/-- One cell of one page is written. -/
theorem ClkV.field {pg n cap i j : Nat} {p q : PagN} {u : Value} (h : ClkV B g w (.slice (some ⟨pg, 0, none⟩) n cap) c) (hn : c.ps.length = n) (hp : c.ps[i]? = some p) (hj : j < 7) (hu : (pagC p).set j u = pagC q) :
    ClkV B g (w.setCell ⟨pg, i * 7 + j, none⟩ u) (.slice (some ⟨pg, 0, none⟩) n cap) { c with ps := c.ps.set i q } := by
  have hne : pg ≠ g := fun e => h.ne (by simp [Value.ownBlock, e])
  obtain ⟨_, h2, h3⟩ := OwnP.put_ h.ps hn hp hj hu
  exact ⟨h.blk.far (p := ⟨pg, i * 7 + j, none⟩) (fun e => hne e.symm) _, h3⟩
theorem ClkTo.field {pg n cap i j : Nat} {p q : PagN} {u : Value} (h : ClkV B g w (.slice (some ⟨pg, 0, none⟩) n cap) c) (hn : c.ps.length = n) (hp : c.ps[i]? = some p) (hj : j < 7) (hu : (pagC p).set j u = pagC q) :
    ClkTo B g w (w.setCell ⟨pg, i * 7 + j, none⟩ u) (.slice (some ⟨pg, 0, none⟩) n cap) { c with ps := c.ps.set i q } :=
  ⟨_, h.field hn hp hj hu, (mod_oneCell w pg (i * 7 + j) u).mono (fun k _ e => .inr (by rw [e]; simp [Value.ownBlock])), fun _ h => .inl h⟩
/-- Another row of pages is its own from now on: it lies where the old one did, or in new memory. -/
theorem ClkV.rows {vp' : Value} {ps' : List PagN} (h : Blk w g 25 (clkC c vp)) (hp : OwnP B w 30 vp' ps') : ClkV B g (w.setCell ⟨g, 2, none⟩ vp') vp' { c with ps := ps' } := by
  have hm : Mod (fun k => k = g) w (w.setCell ⟨g, 2, none⟩ vp') := mod_oneCell _ _ _ _
  exact ⟨h.set_ 2 vp', OwnK.modS hp hm (fun k hk e => own_blk_ne hp.2 h (by decide) (by rw [hk, e]))⟩
/-- The i-th page, where it lies. -/
theorem ClkV.at_ (h : ClkV B g w vp c) {i : Nat} {p : PagN} (hp : c.ps[i]? = some p) : ∃ pg n cap, vp = .slice (some ⟨pg, 0, none⟩) n cap ∧ Hid (c.ps.length = n) ∧ n ≤ cap ∧ cap ≤ maxLen ∧ i < n ∧ Hid (B ≤ pg ∧ pg < w.heap.size) ∧ pg ≠ g ∧
    w.cell? ⟨pg, i * 7, none⟩ = some (.int .i64 p.key.s) ∧ w.cell? ⟨pg, i * 7 + 1, none⟩ = some (.int .i64 p.key.l) ∧ w.cell? ⟨pg, i * 7 + 2, none⟩ = some (.int .i64 p.key.b) ∧ w.cell? ⟨pg, i * 7 + 3, none⟩ = some (.int .i64 p.kind) ∧
    w.cell? ⟨pg, i * 7 + 4, none⟩ = some (.bool p.ref) ∧ w.cell? ⟨pg, i * 7 + 5, none⟩ = some (.bool p.trial) ∧ w.cell? ⟨pg, i * 7 + 6, none⟩ = some (.int .i64 p.pins) ∧ ∀ j, w.frozen? ⟨pg, j, none⟩ = false := by
  have hi := (List.getElem?_eq_some_iff.1 hp).1
  obtain ⟨pg, cap, rfl, h1, h2, h3, h4⟩ := OwnP.form' h.ps (by omega)
  have hne : pg ≠ g := fun e => h.ne (by simp [Value.ownBlock, e])
  obtain ⟨cur, hb, _⟩ := OwnK.blk (by rw [← List.length_map (f := pagC)] at h; exact h.ps)
  have hrd := OwnK.rds (n := c.ps.length) h.ps (by rw [List.length_map])
  obtain ⟨ad, q, e1, _, hq, c0, c1, c2, c3, c4, c5, c6⟩ := RdsP.at_ (i := i) hrd hi
  injection e1 with e1
  subst e1
  rw [hp] at hq
  injection hq with hq
  subst hq
  simp only [add_addr, Nat.zero_add] at c0 c1 c2 c3 c4 c5 c6
  exact ⟨pg, _, cap, rfl, Lib.hid rfl, h1, h2, hi, Lib.hid ⟨h3, h4⟩, hne, c0, c1, c2, c3, c4, c5, c6, fun j => hb.frozen j⟩
end
end Go.Proofs.Ythogflfjdfcpeaa

/- Rows grown by zeros, one element laid in: what slices.Insert comes to, whatever the type. -/
namespace Go.Proofs.Ythogflfjdfcpeaa
open Go.RowKit

section
variable {w : World} {g n cap K B : Nat} {e : TypeId} {rows : List (List Value)}
theorem Blk.shape_ {t : TypeId} {cs : Array Value} (h : Blk w g t cs) : w.shape? g = some (t, cs.size) := by
  unfold Blk at h
  simp [World.shape?, h]
/-- The spare room's first element, as it is. -/
theorem OwnK.extend (h : OwnK K B w e (.slice (some ⟨g, 0, none⟩) n cap) rows) (hp : n + 1 ≤ cap) : ∃ x, OwnK K B w e (.slice (some ⟨g, 0, none⟩) (n + 1) cap) (rows ++ [x]) := by
  obtain ⟨cur, hb, hB, hr, hnc, hc, hs, ht⟩ := h.blk
  have h2 : (n + 1) * K ≤ cap * K := Nat.mul_le_mul_right K hp
  have h3 : (n + 1) * K = n * K + K := by rw [Nat.add_mul, Nat.one_mul]
  have hsz : cur.toList.length = cap * K := by simpa using hs
  refine ⟨(cur.toList.drop (n * K)).take K, OwnK.of_blk hb hB (by simp [hr]) hp hc hs (h.1.app (AllK.cons (by rw [List.length_take, List.length_drop]; omega) (AllK.nil K))) ?_⟩
  rw [h3, List.take_add, ht, List.flatten_append]
  simp
theorem zeroCells_flat {z : Array Value} {K : Nat} (hz : z.size = K) (hK : 0 < K) (k : Nat) : (Builtin.zeroCells z k).toList = (List.replicate k z.toList).flatten := by
  have ha : AllK K (List.replicate k z.toList) := fun r hr => by rw [List.eq_of_mem_replicate hr]; simpa using hz
  have hl := flat_len ha
  rw [List.length_replicate] at hl
  apply List.ext_getElem?
  intro x
  by_cases hx : x < k * K
  · have hq : x / K < k := Nat.div_lt_of_lt_mul (by rw [Nat.mul_comm]; exact hx)
    have h1 := flat_get ha (i := x / K) (j := x % K) (r := z.toList) (by simp [hq]) (Nat.mod_lt _ hK)
    have h2 : x / K * K + x % K = x := by rw [Nat.mul_comm]; exact Nat.div_add_mod x K
    rw [h2] at h1
    rw [h1]
    have hm : x % K < z.size := by rw [hz]; exact Nat.mod_lt _ hK
    simp only [Builtin.zeroCells, Array.toList_map, List.getElem?_map, Array.toList_range, hz]
    rw [List.getElem?_range hx]
    simp [hm]
  · rw [List.getElem?_eq_none (by simp [Builtin.zeroCells, hz]; omega), List.getElem?_eq_none (by omega)]
/-- append(s[:p], make([]T, k)..) without room. -/
theorem run_grow_zeros {P : Program} {t tn : TypeId} {kn : IntKind} {z : Value} {bytes p k : Nat} (hE : EltK P t e z K bytes) (htn : P.underlying tn = some (.int kn)) (h : OwnK K B w e (.slice (some ⟨g, 0, none⟩) n cap) rows) (hp : p ≤ n) (hk : 0 < k) (hg : cap < p + k)
    (hm : p + k ≤ maxLen) (hb : (p + k) * bytes ≤ 140737488355328) :
    ∃ C W1, p + k ≤ C ∧ C ≤ maxLen ∧ (∀ ty, (Builtin.append_ #[t, tn] ty #[.slice (some ⟨g, 0, none⟩) p cap, .int .i64 (k : Int)]).run P w = .ok (.slice (some ⟨w.heap.size, 0, none⟩) (p + k) C) W1) ∧
      OwnK K w.heap.size W1 e (.slice (some ⟨w.heap.size, 0, none⟩) (p + k) C) (rows.take p ++ List.replicate k z.cells.toList) ∧ Mod (fun _ => False) w W1 := by
  obtain ⟨ht, ⟨i, hi, hz, hsize, hby⟩, hzs, hK⟩ := hE
  have hcut := h.cut hp
  have hfl := flat_len hcut.1
  have hlen : (rows.take p).length = p := by obtain ⟨_, _, _, hr, _⟩ := h.blk; rw [List.length_take]; omega
  have hold : (Builtin.firstCells i.size p (.slice (some ⟨g, 0, none⟩) p cap)).run P w.drew = .ok (rows.take p).flatten.toArray w.drew := by
    refine run_firstCells_some (P := P) w.drew i.size p ⟨g, 0, none⟩ p cap (rows.take p).flatten (by rw [hfl, hlen, hsize]) (fun j u hu => ?_)
    have h3 : w.ownsRow B e K (.slice (some ⟨g, 0, none⟩) p cap) (rows.take p).length (rows.take p).flatten := hcut.2
    exact h3.cells (g := g) rfl j u hu
  have hm' : ((p + k : Nat) : Int) ≤ 9223372036854775807 := by unfold maxLen at hm; omega
  have hkb : k * i.bytes ≤ 281474976710656 := by
    rw [hby]
    have := Nat.mul_le_mul_right bytes (Nat.le_add_left k p)
    omega
  have hge := grownCap_ge w (p + k) cap e
  have hcm := grownCap_le_maxLen w (p + k) cap e hm
  have hall : AllK K (rows.take p ++ List.replicate k z.cells.toList) := hcut.1.app (fun r hr => by rw [List.eq_of_mem_replicate hr]; simpa using hzs)
  refine ⟨_, _, hge, hcm, fun ty => Lib.run_append_grow_zeros (P := P) w t tn ty e i z .i64 kn ht htn hi hz (some ⟨g, 0, none⟩) p cap _ hold k hk (by omega) hg hm' hkb (by rw [hby]; exact growslice_fits (by omega) hb), ?_, ((Mod.refl _ w).drew).alloc _⟩
  refine OwnK.of_blk (heap_alloc_new w.drew _) (Nat.le_refl _) (by simp [hlen]) hge hcm ?_ hall ?_
  · simp only [Array.size_append, List.size_toArray, size_zeroCells, hzs, hfl, hlen, ← Nat.add_mul]
    congr 1
    omega
  · rw [Array.toList_append, Array.toList_append, zeroCells_flat hzs hK k, List.append_assoc, ← List.append_assoc, List.flatten_append]
    have h5 : (p + k) * K = ((rows.take p).flatten ++ (List.replicate k z.cells.toList).flatten).length := by
      rw [← List.flatten_append, flat_len hall]
      simp [hlen]
    rw [h5]
    exact List.take_left
end
/-- One laid in. -/
theorem insert_at {α : Type} (rows : List α) (x r : α) {p n : Nat} (hn : rows.length = n) (hp : p ≤ n) :
    ((((rows ++ [x]).take (p + 1) ++ rows.drop p ++ (rows ++ [x]).drop (p + 1 + (rows.drop p).length)).take p) ++ [r]) ++ ((((rows ++ [x]).take (p + 1) ++ rows.drop p ++ (rows ++ [x]).drop (p + 1 + (rows.drop p).length))).drop (p + [r].length)) = rows.take p ++ [r] ++ rows.drop p := by
  have hl : ((rows ++ [x]).take (p + 1)).length = p + 1 := by simp; omega
  have h1 : (rows ++ [x]).drop (p + 1 + (rows.drop p).length) = [] := List.drop_eq_nil_of_le (by simp; omega)
  rw [h1, List.append_nil, List.take_append_of_le_length (by omega), List.take_take, Nat.min_eq_left (by omega), List.take_append_of_le_length (by omega)]
  congr 1
  rw [show p + [r].length = ((rows ++ [x]).take (p + 1)).length by rw [hl]; rfl, List.drop_left]
theorem insert_grown {α : Type} (rows : List α) (z r : α) {p n : Nat} (hn : rows.length = n) (hp : p ≤ n) :
    (((rows.take p ++ List.replicate (n + 1 - p) z).take p ++ [r] ++ (rows.take p ++ List.replicate (n + 1 - p) z).drop (p + [r].length)).take (p + 1) ++ rows.drop p ++
      ((rows.take p ++ List.replicate (n + 1 - p) z).take p ++ [r] ++ (rows.take p ++ List.replicate (n + 1 - p) z).drop (p + [r].length)).drop (p + 1 + (rows.drop p).length)) = rows.take p ++ [r] ++ rows.drop p := by
  have hl : (rows.take p).length = p := by simp; omega
  have e1 : (rows.take p ++ List.replicate (n + 1 - p) z).take p = rows.take p := by rw [List.take_append_of_le_length (by omega), List.take_of_length_le (by omega)]
  rw [e1]
  generalize ht : (rows.take p ++ List.replicate (n + 1 - p) z).drop (p + [r].length) = tail
  have htl : tail.length = n - p := by
    rw [← ht, List.length_drop, List.length_append, List.length_replicate, hl, List.length_singleton]
    omega
  have h2 : (rows.take p ++ [r]).length = p + 1 := by simp [hl]
  have h3 : (rows.take p ++ [r] ++ tail).take (p + 1) = rows.take p ++ [r] := by rw [← h2, List.take_left]
  have h4 : (rows.take p ++ [r] ++ tail).drop (p + 1 + (rows.drop p).length) = [] := List.drop_eq_nil_of_le (by rw [List.length_append, h2, htl, List.length_drop]; omega)
  rw [h3, h4, List.append_nil]
end Go.Proofs.Ythogflfjdfcpeaa

/- The code's words on one page; counting pages, looking for one. -/
namespace Go.Proofs.Ythogflfjdfcpeaa
open Go.RowKit

def isPin (p : PagN) : Bool := p.resi && decide (0 < p.pins)
def isFreeC (p : PagN) : Bool := p.kind == 2 && decide (p.pins ≤ 0)
theorem isFreeC_loose {p : PagN} (h : OkP p) : isFreeC p = isLoose p := by
  unfold isFreeC isLoose
  have := h.2.1
  by_cases h0 : p.pins = 0
  · simp [h0]
  · have h1 : ¬ p.pins ≤ 0 := by omega
    simp [h0, h1]
set_option maxRecDepth 100000 in
theorem isHot_any (p : PagN) (w : World) : Calls Try.prog 47 #[pagV p] w fun e w' => e = .returned (.bool (isHot p)) ∧ Mod (fun _ => False) w w' := by
  obtain ⟨⟨s, l, b⟩, kd, rf, tr, pn⟩ := p
  unfold pagV
  dsimp only
  obtain ⟨W, hW, hmW, hbW, hzW⟩ := Blk.boxed w 30 #[.int .i64 s, .int .i64 l, .int .i64 b, .int .i64 kd, .bool rf, .bool tr, .int .i64 pn]
  obtain ⟨g, hg⟩ : ∃ g, g = w.heap.size := ⟨_, rfl⟩
  rw [← hg] at hbW
  have y0 := hbW.cell 0
  have y1 := hbW.cell 1
  have y2 := hbW.cell 2
  have y3 := hbW.cell 3
  have y4 := hbW.cell 4
  have y5 := hbW.cell 5
  have y6 := hbW.cell 6
  simp at y0 y1 y2 y3 y4 y5 y6
  have HW := Lib.hid hW; have HmW := Lib.hid hmW; have Hg := Lib.hid hg
  clear hW hmW hg hbW hzW
  go_enter Try.func47, Try.ntmps47
  go_upto_region 1 with fail
  rw [← HW.out, ← Hg.out]
  go_wp2_with fail
  go_ret
  exact ⟨by simp [isHot], HmW.out⟩
set_option maxRecDepth 100000 in
theorem isTest_any (p : PagN) (w : World) : Calls Try.prog 44 #[pagV p] w fun e w' => e = .returned (.bool (isTest p)) ∧ Mod (fun _ => False) w w' := by
  obtain ⟨⟨s, l, b⟩, kd, rf, tr, pn⟩ := p
  unfold pagV
  dsimp only
  obtain ⟨W, hW, hmW, hbW, hzW⟩ := Blk.boxed w 30 #[.int .i64 s, .int .i64 l, .int .i64 b, .int .i64 kd, .bool rf, .bool tr, .int .i64 pn]
  obtain ⟨g, hg⟩ : ∃ g, g = w.heap.size := ⟨_, rfl⟩
  rw [← hg] at hbW
  have y0 := hbW.cell 0
  have y1 := hbW.cell 1
  have y2 := hbW.cell 2
  have y3 := hbW.cell 3
  have y4 := hbW.cell 4
  have y5 := hbW.cell 5
  have y6 := hbW.cell 6
  simp at y0 y1 y2 y3 y4 y5 y6
  have HW := Lib.hid hW; have HmW := Lib.hid hmW; have Hg := Lib.hid hg
  clear hW hmW hg hbW hzW
  go_enter Try.func44, Try.ntmps44
  go_upto_region 1 with fail
  rw [← HW.out, ← Hg.out]
  go_wp2_with fail
  go_ret
  exact ⟨by simp [isTest], HmW.out⟩
set_option maxRecDepth 100000 in
theorem isRes_any (p : PagN) (w : World) : Calls Try.prog 40 #[pagV p] w fun e w' => e = .returned (.bool (PagN.resi p)) ∧ Mod (fun _ => False) w w' := by
  obtain ⟨⟨s, l, b⟩, kd, rf, tr, pn⟩ := p
  unfold pagV
  dsimp only
  obtain ⟨W, hW, hmW, hbW, hzW⟩ := Blk.boxed w 30 #[.int .i64 s, .int .i64 l, .int .i64 b, .int .i64 kd, .bool rf, .bool tr, .int .i64 pn]
  obtain ⟨g, hg⟩ : ∃ g, g = w.heap.size := ⟨_, rfl⟩
  rw [← hg] at hbW
  have y0 := hbW.cell 0
  have y1 := hbW.cell 1
  have y2 := hbW.cell 2
  have y3 := hbW.cell 3
  have y4 := hbW.cell 4
  have y5 := hbW.cell 5
  have y6 := hbW.cell 6
  simp at y0 y1 y2 y3 y4 y5 y6
  have HW := Lib.hid hW; have HmW := Lib.hid hmW; have Hg := Lib.hid hg
  clear hW hmW hg hbW hzW
  go_enter Try.func40, Try.ntmps40
  go_upto_region 1 with fail
  rw [← HW.out, ← Hg.out]
  by_cases h1 : kd = 1
  · have hb : ((kd : Int) == 1) = true := by simp [h1]
    have H1 := Lib.hid h1
    clear h1
    go_wp2_with fail
    go_ret
    exact ⟨by simp [PagN.resi, H1.out], HmW.out⟩
  · have hb : ((kd : Int) == 1) = false := by simp [h1]
    go_wp2_with fail
    go_ret
    exact ⟨by simp [PagN.resi, h1], HmW.out⟩
set_option maxRecDepth 100000 in
theorem rres_any (p : PagN) (w : World) : Calls Try.prog 51 #[pagV p] w fun e w' => e = .returned (.bool (PagN.resi p)) ∧ Mod (fun _ => False) w w' := by
  obtain ⟨⟨s, l, b⟩, kd, rf, tr, pn⟩ := p
  unfold pagV
  dsimp only
  obtain ⟨W, hW, hmW, hbW, hzW⟩ := Blk.boxed w 30 #[.int .i64 s, .int .i64 l, .int .i64 b, .int .i64 kd, .bool rf, .bool tr, .int .i64 pn]
  obtain ⟨g, hg⟩ : ∃ g, g = w.heap.size := ⟨_, rfl⟩
  rw [← hg] at hbW
  have y0 := hbW.cell 0
  have y1 := hbW.cell 1
  have y2 := hbW.cell 2
  have y3 := hbW.cell 3
  have y4 := hbW.cell 4
  have y5 := hbW.cell 5
  have y6 := hbW.cell 6
  simp at y0 y1 y2 y3 y4 y5 y6
  have HW := Lib.hid hW; have HmW := Lib.hid hmW; have Hg := Lib.hid hg
  clear hW hmW hg hbW hzW
  go_enter Try.func51, Try.ntmps51
  go_upto_region 1 with fail
  rw [← HW.out, ← Hg.out]
  by_cases h1 : kd = 1
  · have hb : ((kd : Int) == 1) = true := by simp [h1]
    have H1 := Lib.hid h1
    clear h1
    go_wp2_with fail
    go_ret
    exact ⟨by simp [PagN.resi, H1.out], HmW.out⟩
  · have hb : ((kd : Int) == 1) = false := by simp [h1]
    go_wp2_with fail
    go_ret
    exact ⟨by simp [PagN.resi, h1], HmW.out⟩
set_option maxRecDepth 100000 in
theorem isFreeC_any (p : PagN) (w : World) : Calls Try.prog 70 #[pagV p] w fun e w' => e = .returned (.bool (isFreeC p)) ∧ Mod (fun _ => False) w w' := by
  obtain ⟨⟨s, l, b⟩, kd, rf, tr, pn⟩ := p
  unfold pagV
  dsimp only
  obtain ⟨W, hW, hmW, hbW, hzW⟩ := Blk.boxed w 30 #[.int .i64 s, .int .i64 l, .int .i64 b, .int .i64 kd, .bool rf, .bool tr, .int .i64 pn]
  obtain ⟨g, hg⟩ : ∃ g, g = w.heap.size := ⟨_, rfl⟩
  rw [← hg] at hbW
  have y0 := hbW.cell 0
  have y1 := hbW.cell 1
  have y2 := hbW.cell 2
  have y3 := hbW.cell 3
  have y4 := hbW.cell 4
  have y5 := hbW.cell 5
  have y6 := hbW.cell 6
  simp at y0 y1 y2 y3 y4 y5 y6
  have HW := Lib.hid hW; have HmW := Lib.hid hmW; have Hg := Lib.hid hg
  clear hW hmW hg hbW hzW
  go_enter Try.func70, Try.ntmps70
  go_upto_region 1 with fail
  rw [← HW.out, ← Hg.out]
  by_cases h1 : kd = 2
  · have hb : ((kd : Int) == 2) = true := by simp [h1]
    have H1 := Lib.hid h1
    clear h1
    go_wp2_with fail
    go_ret
    exact ⟨by simp [isFreeC, H1.out], HmW.out⟩
  · have hb : ((kd : Int) == 2) = false := by simp [h1]
    go_wp2_with fail
    go_ret
    exact ⟨by simp [isFreeC, h1], HmW.out⟩
set_option maxRecDepth 100000 in
theorem isPin_any (p : PagN) (w : World) : Calls Try.prog 26 #[pagV p] w fun e w' => e = .returned (.bool (isPin p)) ∧ Mod (fun _ => False) w w' := by
  obtain ⟨⟨s, l, b⟩, kd, rf, tr, pn⟩ := p
  unfold pagV
  dsimp only
  obtain ⟨W, hW, hmW, hbW, hzW⟩ := Blk.boxed w 30 #[.int .i64 s, .int .i64 l, .int .i64 b, .int .i64 kd, .bool rf, .bool tr, .int .i64 pn]
  obtain ⟨g, hg⟩ : ∃ g, g = w.heap.size := ⟨_, rfl⟩
  rw [← hg] at hbW
  have y0 := hbW.cell 0
  have y1 := hbW.cell 1
  have y2 := hbW.cell 2
  have y3 := hbW.cell 3
  have y4 := hbW.cell 4
  have y5 := hbW.cell 5
  have y6 := hbW.cell 6
  simp at y0 y1 y2 y3 y4 y5 y6
  have HW := Lib.hid hW; have HmW := Lib.hid hmW; have Hg := Lib.hid hg
  clear hW hmW hg hbW hzW
  go_enter Try.func26, Try.ntmps26
  go_upto_region 1 with fail
  rw [← HW.out, ← Hg.out]
  have HbW : Hid (∀ w1, Mod (fun _ => False) W w1 → w1.cell? ⟨g, 6, none⟩ = some (.int .i64 pn)) := Lib.hid (fun w1 h => ((h.cell (a := ⟨g, 6, none⟩) (World.block_lt_of_cell? W _ y6) (fun h => h)).trans y6))
  go_wp2_with fail
  refine (isRes_any ⟨⟨s, l, b⟩, kd, rf, tr, pn⟩ W).mono ?_
  rintro e w1 ⟨rfl, hm1⟩
  have z6 := HbW.out w1 hm1
  have Hm1 := Lib.hid (HmW.out.trans hm1 (fun _ _ h => h))
  obtain ⟨r, hr⟩ : ∃ r, PagN.resi ⟨⟨s, l, b⟩, kd, rf, tr, pn⟩ = r := ⟨_, rfl⟩
  have Hr := Lib.hid hr
  rw [hr]
  clear hm1 hr
  cases r with
  | true =>
    go_wp2_with fail
    go_ret
    exact ⟨by simp [isPin, Hr.out], Hm1.out⟩
  | false =>
    go_wp2_with fail
    go_ret
    exact ⟨by simp [isPin, Hr.out], Hm1.out⟩
end Go.Proofs.Ythogflfjdfcpeaa

/- Pages counted; the first that is such. -/
namespace Go.Proofs.Ythogflfjdfcpeaa
open Go.RowKit

theorem count_take (P : PagN → Bool) {ps : List PagN} {i : Nat} {p : PagN} (h : ps[i]? = some p) : (ps.take (i + 1)).countP P = (ps.take i).countP P + if P p then 1 else 0 := by
  rw [take_one h, List.countP_append, List.countP_singleton]
/-- What a predicate of the code's answers. -/
def Says (F : Nat) (cap : List Value) (C : World → Prop) (P : PagN → Bool) : Prop := (∀ a w, (callFunc F a).run Try.prog w = .ok (.enter F a) w) ∧ ∀ (p : PagN) (w : World), C w → Calls Try.prog F (pagV p :: cap).toArray w fun e w' => e = .returned (.bool (P p)) ∧ Mod (fun _ => False) w w'
theorem enters {f : FuncId} {fn : Func} (hf : Try.prog.funcs[f]? = some fn) (hname : (fn.name == "runtime.NumGoroutine") = false) (hb : fn.body.isSome = true) (args : Array Value) (w : World) : (callFunc f args).run Try.prog w = .ok (.enter f args) w := by
  obtain ⟨c, hc⟩ := Option.isSome_iff_exists.1 hb
  have h1 : fn.name ≠ "runtime.NumGoroutine" := by simpa using hname
  simp [callFunc, hf, h1, hc]
theorem says_hot : Says 47 [] (fun _ => True) isHot := ⟨enters Try.func47 (by kernel_rfl) (by kernel_rfl), fun p w _ => isHot_any p w⟩
theorem says_test : Says 44 [] (fun _ => True) isTest := ⟨enters Try.func44 (by kernel_rfl) (by kernel_rfl), fun p w _ => isTest_any p w⟩
theorem says_res : Says 40 [] (fun _ => True) PagN.resi := ⟨enters Try.func40 (by kernel_rfl) (by kernel_rfl), fun p w _ => isRes_any p w⟩
theorem says_pin : Says 26 [] (fun _ => True) isPin := ⟨enters Try.func26 (by kernel_rfl) (by kernel_rfl), fun p w _ => isPin_any p w⟩
theorem says_free : Says 70 [] (fun _ => True) isFreeC := ⟨enters Try.func70 (by kernel_rfl) (by kernel_rfl), fun p w _ => isFreeC_any p w⟩
set_option maxHeartbeats 1000000 in
set_option maxRecDepth 100000 in
theorem count_any (F : Nat) (P : PagN → Bool) (HP : Hid (Says F [] (fun _ => True) P)) (m t h cl ts : Int) (A : Option Addr) (n cap : Nat) (ps : List PagN) (w : World) (hs : RdsP w w.heap.size A n ps) (hn : n ≤ 1000000) :
    Calls Try.prog 25 #[.agg #[.int .i64 m, .int .i64 t, .slice A n cap, .int .i64 h, .int .i64 cl, .int .i64 ts], .func (.func F) #[] #[]] w fun e w' => e = .returned (.int .i64 (ps.countP P : Int)) ∧ Mod (fun _ => False) w w' := by
  obtain ⟨W, hW, hmW, hbW, hzW⟩ := Blk.boxed w 25 #[.int .i64 m, .int .i64 t, .slice A n cap, .int .i64 h, .int .i64 cl, .int .i64 ts]
  obtain ⟨g, hg⟩ : ∃ g, g = w.heap.size := ⟨_, rfl⟩
  rw [← hg] at hbW
  have y2 := hbW.cell 2
  simp at y2
  have hF := HP.out.1
  have Hl := Lib.hid hs.len
  have Hs := Lib.hid (hs.new hmW).fit
  have HW := Lib.hid hW; have HmW := Lib.hid hmW; have Hg := Lib.hid hg
  clear hW hmW hg hbW hzW hs
  go_enter Try.func25, Try.ntmps25
  go_upto_region 1 with fail
  rw [← HW.out, ← Hg.out]
  go_wp2_with fail
  go_loopg [5, 11] n (fun k s5 s11 wr => ∃ i : Nat, i + k = n ∧ s11 = .int .i64 (i : Int) ∧ s5 = .int .i64 (((ps.take i).countP P : Nat) : Int) ∧ Mod (fun _ => False) W wr)
  case atStart => exact ⟨0, by omega, rfl, by simp, Mod.refl _ _⟩
  case round =>
    obtain ⟨i, hik, rfl, rfl, hm⟩ := hrel
    have Hik := Lib.hid hik; have Hm := Lib.hid hm
    clear hik hm
    by_cases hin : i < n
    · obtain ⟨ad, p, rfl, _, hp, c0, c1, c2, c3, c4, c5, c6⟩ := (Hs.out.new Hm.out).at_ hin
      have Hct := Lib.hid (count_take P hp)
      obtain ⟨⟨s, l, b⟩, kd, rf, tr, pn⟩ := p
      simp only at c0 c1 c2 c3 c4 c5 c6
      have hin' : (i : Int) < (n : Int) := by omega
      obtain ⟨W1, hW1, hm1, hb1, hz1⟩ := Blk.boxed wr 30 #[.int .i64 s, .int .i64 l, .int .i64 b, .int .i64 kd, .bool rf, .bool tr, .int .i64 pn]
      obtain ⟨g1, hg1⟩ : ∃ g, g = wr.heap.size := ⟨_, rfl⟩
      rw [← hg1] at hb1
      have y0 := hb1.cell 0
      have y1 := hb1.cell 1
      have y2 := hb1.cell 2
      have y3 := hb1.cell 3
      have y4 := hb1.cell 4
      have y5 := hb1.cell 5
      have y6 := hb1.cell 6
      simp at y0 y1 y2 y3 y4 y5 y6
      obtain ⟨q, hq⟩ : ∃ q, (ps.take i).countP P = q := ⟨_, rfl⟩
      have hqb : q ≤ 1000000 := by rw [← hq]; have := List.countP_le_length (p := P) (l := ps.take i); rw [List.length_take] at this; have := Hl.out; omega
      have hqb' : (q : Int) ≤ 1000000 := by omega
      have HmW1 := Lib.hid (Hm.out.trans hm1 (fun _ _ h => h))
      have HW1 := Lib.hid hW1; have Hg1 := Lib.hid hg1
      have Hq := Lib.hid hq
      rw [hq]
      clear hW1 hm1 hb1 hz1 hg1 hp hq
      go_upto_region 5 with fail
      rw [← HW1.out, ← Hg1.out]
      go_wp2_with fail
      refine (HP.out.2 ⟨⟨s, l, b⟩, kd, rf, tr, pn⟩ W1 trivial).mono ?_
      rintro e w2 ⟨rfl, hm2⟩
      have Hm2 := Lib.hid (HmW1.out.trans hm2 (fun _ _ h => h))
      obtain ⟨r, hr⟩ : ∃ r, P ⟨⟨s, l, b⟩, kd, rf, tr, pn⟩ = r := ⟨_, rfl⟩
      have Hr := Lib.hid hr
      rw [hr]
      clear hm2 hr
      cases r with
      | true =>
        go_wp2_with fail
        go_roundg (gk - 1)
        case measure => have := Hik.out; omega
        case rel => exact ⟨i + 1, by have := Hik.out; omega, by go_num, by rw [Hct.out, Hr.out, Hq.out]; simp, Hm2.out⟩
      | false =>
        go_wp2_with fail
        go_roundg (gk - 1)
        case measure => have := Hik.out; omega
        case rel => exact ⟨i + 1, by have := Hik.out; omega, by go_num, by rw [Hct.out, Hr.out, Hq.out]; simp, Hm2.out⟩
    · have hin' : ¬ (i : Int) < (n : Int) := by omega
      rw [List.take_of_length_le (by have := Hl.out; have := Hik.out; omega)]
      go_wp2_with fail
      go_ret
      exact ⟨rfl, HmW.out.trans Hm.out (fun _ _ h => h)⟩
/-- The place of the first that is such, or -1. -/
def fstI (P : PagN → Bool) (ps : List PagN) : Int := match ps.findIdx? P with
  | none => -1
  | some i => (i : Int)
theorem fst_on {P : PagN → Bool} {ps : List PagN} {i : Nat} {p : PagN} (h0 : (ps.take i).findIdx? P = none) (h : ps[i]? = some p) (hp : P p = false) : (ps.take (i + 1)).findIdx? P = none := by
  rw [take_one h, List.findIdx?_append, h0]
  simp [hp]
theorem fst_here {P : PagN → Bool} {ps : List PagN} {i : Nat} {p : PagN} (h0 : (ps.take i).findIdx? P = none) (h : ps[i]? = some p) (hp : P p = true) : ps.findIdx? P = some i := by
  obtain ⟨hi, e⟩ := List.getElem?_eq_some_iff.1 h
  refine List.findIdx?_eq_some_iff_getElem.2 ⟨hi, by rw [e]; exact hp, fun j hj => ?_⟩
  rw [List.findIdx?_eq_none_iff] at h0
  have := h0 (ps[j]'(by omega)) (by rw [List.mem_take_iff_getElem]; exact ⟨j, by omega, rfl⟩)
  simpa using this
set_option maxHeartbeats 1000000 in
set_option maxRecDepth 100000 in
theorem index_any (F : Nat) (caps : List Value) (C : World → Prop) (hC : ∀ w w', C w → Mod (fun _ => False) w w' → C w') (P : PagN → Bool) (HP : Hid (Says F caps C P)) (A : Option Addr) (n cap : Nat) (ps : List PagN) (w : World) (hs : RdsP w w.heap.size A n ps) (hw : C w) (hn : n ≤ 1000000) :
    Calls Try.prog 32 #[.slice A n cap, .func (.func F) #[] caps.toArray] w fun e w' => e = .returned (.int .i64 (fstI P ps)) ∧ Mod (fun _ => False) w w' := by
  have hF := HP.out.1
  have Hs := Lib.hid hs; have Hl := Lib.hid hs.len; have Hw := Lib.hid hw; have HC := Lib.hid hC
  clear hs hw hC
  go_enter Try.func32, Try.ntmps32
  go_wp2_with fail
  go_loopg [8] n (fun k s8 wr => ∃ i : Nat, i + k = n ∧ s8 = .int .i64 (i : Int) ∧ (ps.take i).findIdx? P = none ∧ Mod (fun _ => False) w wr)
  case atStart => exact ⟨0, by omega, rfl, by simp, Mod.refl _ _⟩
  case round =>
    obtain ⟨i, hik, rfl, hr, hm⟩ := hrel
    have Hik := Lib.hid hik; have Hr := Lib.hid hr; have Hm := Lib.hid hm
    clear hik hr hm
    by_cases hin : i < n
    · obtain ⟨ad, p, rfl, _, hp, c0, c1, c2, c3, c4, c5, c6⟩ := (Hs.out.new Hm.out).at_ hin
      have Hp := Lib.hid hp
      obtain ⟨⟨s, l, b⟩, kd, rf, tr, pn⟩ := p
      simp only at c0 c1 c2 c3 c4 c5 c6
      have hin' : (i : Int) < (n : Int) := by omega
      clear hp
      go_wp2_with fail
      refine (HP.out.2 ⟨⟨s, l, b⟩, kd, rf, tr, pn⟩ wr (HC.out _ _ Hw.out Hm.out)).mono ?_
      rintro e w1 ⟨rfl, hm1⟩
      have Hm1 := Lib.hid (Hm.out.trans hm1 (fun _ _ h => h))
      obtain ⟨r, hb⟩ : ∃ r, P ⟨⟨s, l, b⟩, kd, rf, tr, pn⟩ = r := ⟨_, rfl⟩
      have Hb := Lib.hid hb
      rw [hb]
      clear hm1 hb
      cases r with
      | false =>
        go_wp2_with fail
        go_roundg (gk - 1)
        case measure => have := Hik.out; omega
        case rel => exact ⟨i + 1, by have := Hik.out; omega, by go_num, fst_on Hr.out Hp.out Hb.out, Hm1.out⟩
      | true =>
        go_wp2_with fail
        go_ret
        exact ⟨by unfold fstI; rw [fst_here Hr.out Hp.out Hb.out]; rfl, Hm1.out⟩
    · have hin' : ¬ (i : Int) < (n : Int) := by omega
      go_wp2_with fail
      go_ret
      exact ⟨by have h := Hr.out; rw [List.take_of_length_le (by have := Hl.out; have := Hik.out; omega)] at h; unfold fstI; rw [h]; rfl, Hm.out⟩
set_option maxRecDepth 100000 in
/-- The code's Find: what its closure holds. -/
theorem cloKey (p : PagN) (g : Nat) (k : KeyN) (w : World) (hc : Blk w g 28 #[.int .i64 k.s, .int .i64 k.l, .int .i64 k.b]) :
    Calls Try.prog 33 #[pagV p, .pointer (some ⟨g, 0, none⟩)] w fun e w' => e = .returned (.bool (p.key == k)) ∧ Mod (fun _ => False) w w' := by
  obtain ⟨⟨s, l, b⟩, kd, rf, tr, pn⟩ := p
  obtain ⟨ks, kl, kb⟩ := k
  unfold pagV
  dsimp only at hc ⊢
  obtain ⟨W, hW, hmW, hbW, hzW⟩ := Blk.boxed w 30 #[.int .i64 s, .int .i64 l, .int .i64 b, .int .i64 kd, .bool rf, .bool tr, .int .i64 pn]
  obtain ⟨G, hG⟩ : ∃ g, g = w.heap.size := ⟨_, rfl⟩
  rw [← hG] at hbW
  have y0 := hbW.cell 0
  have y1 := hbW.cell 1
  have y2 := hbW.cell 2
  have hcW := hmW.blk hc (fun h => h)
  have z0 := hcW.cell 0
  have z1 := hcW.cell 1
  have z2 := hcW.cell 2
  simp at y0 y1 y2 z0 z1 z2
  have HW := Lib.hid hW; have HmW := Lib.hid hmW; have HG := Lib.hid hG
  clear hW hmW hG hbW hzW hc hcW
  go_enter Try.func33, Try.ntmps33
  go_upto_region 1 with fail
  rw [← HW.out, ← HG.out]
  by_cases h1 : s = ks
  · by_cases h2 : l = kl
    · by_cases h3 : b = kb
      · subst h1 h2 h3
        go_wp2_with fail
        go_ret
        exact ⟨by simp, HmW.out⟩
      · subst h1 h2
        go_wp2_with fail
        go_ret
        exact ⟨by simp [h3], HmW.out⟩
    · subst h1
      go_wp2_with fail
      go_ret
      exact ⟨by simp [h2], HmW.out⟩
  · go_wp2_with fail
    go_ret
    exact ⟨by simp [h1], HmW.out⟩
theorem says_key (g : Nat) (k : KeyN) : Says 33 [.pointer (some ⟨g, 0, none⟩)] (fun w => Blk w g 28 #[.int .i64 k.s, .int .i64 k.l, .int .i64 k.b]) (fun p => p.key == k) := ⟨enters Try.func33 (by kernel_rfl) (by kernel_rfl), fun p w h => cloKey p g k w h⟩
/-- The place of a name. -/
def placeK (k : KeyN) (ps : List PagN) : Int := match findK k ps with
  | none => -1
  | some i => (i : Int)
theorem fst_key (k : KeyN) (ps : List PagN) : fstI (fun p => p.key == k) ps = placeK k ps := rfl
set_option maxHeartbeats 1000000 in
set_option maxRecDepth 100000 in
theorem find_any (c : ClkN) (k : KeyN) (A : Option Addr) (n cap : Nat) (w : World) (hs : RdsP w w.heap.size A n c.ps) (hn : n ≤ 1000000) :
    Calls Try.prog 10 #[.agg (clkC c (.slice A n cap)), keyV k] w fun e w' => e = .returned (.int .i64 (placeK k c.ps)) ∧ Mod (fun _ => False) w w' := by
  obtain ⟨m, t, ps, h, cl, ts⟩ := c
  obtain ⟨ks, kl, kb⟩ := k
  unfold clkC keyV
  dsimp only at hs ⊢
  obtain ⟨W, hW⟩ : ∃ W, W = (w.alloc (.cells #[.int .i64 m, .int .i64 t, .slice A n cap, .int .i64 (h : Int), .int .i64 (cl : Int), .int .i64 (ts : Int)] 25)).alloc (.cells #[.int .i64 ks, .int .i64 kl, .int .i64 kb] 28) := ⟨_, rfl⟩
  obtain ⟨g, hg⟩ : ∃ g, g = w.heap.size := ⟨_, rfl⟩
  obtain ⟨g2, hg2⟩ : ∃ g, g = w.heap.size + 1 := ⟨_, rfl⟩
  have hmW : Mod (fun _ => False) w W := by rw [hW]; exact ((Mod.refl _ _).alloc _).alloc _
  have hbW : Blk W g 25 #[.int .i64 m, .int .i64 t, .slice A n cap, .int .i64 (h : Int), .int .i64 (cl : Int), .int .i64 (ts : Int)] := by rw [hW, hg]; exact (Blk.new _ _ _).alloc _
  have hkW : Blk W g2 28 #[.int .i64 ks, .int .i64 kl, .int .i64 kb] := by
    rw [hW, hg2]
    have h := Blk.new (w.alloc (.cells #[.int .i64 m, .int .i64 t, .slice A n cap, .int .i64 (h : Int), .int .i64 (cl : Int), .int .i64 (ts : Int)] 25)) 28 #[.int .i64 ks, .int .i64 kl, .int .i64 kb]
    simpa using h
  have y2 := hbW.cell 2
  simp at y2
  have Hs := Lib.hid (hs.new hmW).fit
  have Hk := Lib.hid hkW
  have HW := Lib.hid hW; have HmW := Lib.hid hmW; have Hg := Lib.hid hg; have Hg2 := Lib.hid hg2
  clear hW hmW hg hg2 hbW hkW hs
  go_enter Try.func10, Try.ntmps10
  go_upto_region 1 with fail
  rw [← HW.out, ← Hg2.out, ← Hg.out]
  go_wp2_with fail
  refine (index_any 33 [.pointer (some ⟨g2, 0, none⟩)] _ (fun w w' h1 h2 => h2.blk h1 (fun h => h)) (fun p => p.key == ⟨ks, kl, kb⟩) (Lib.hid (says_key g2 ⟨ks, kl, kb⟩)) A n cap ps W Hs.out Hk.out hn).mono ?_
  rintro e w1 ⟨rfl, hm1⟩
  have Hm1 := Lib.hid hm1
  clear hm1
  go_wp2_with fail
  go_ret
  exact ⟨by rw [fst_key]; rfl, HmW.out.trans Hm1.out (fun _ _ h => h)⟩
theorem fst_has (P : PagN → Bool) (ps : List PagN) : (decide (0 ≤ fstI P ps)) = ps.any P := by
  unfold fstI
  cases h : ps.findIdx? P with
  | none =>
    rw [List.findIdx?_eq_none_iff] at h
    have : ps.any P = false := List.any_eq_false.2 (fun x hx => by rw [h x hx]; decide)
    rw [this]
    rfl
  | some i =>
    obtain ⟨hi, h1, _⟩ := List.findIdx?_eq_some_iff_getElem.1 h
    have : ps.any P = true := List.any_eq_true.2 ⟨_, List.getElem_mem hi, h1⟩
    rw [this]
    simp
set_option maxHeartbeats 1000000 in
set_option maxRecDepth 100000 in
theorem contains_any (F : Nat) (P : PagN → Bool) (HP : Hid (Says F [] (fun _ => True) P)) (A : Option Addr) (n cap : Nat) (ps : List PagN) (w : World) (hs : RdsP w w.heap.size A n ps) (hn : n ≤ 1000000) :
    Calls Try.prog 69 #[.slice A n cap, .func (.func F) #[] #[]] w fun e w' => e = .returned (.bool (ps.any P)) ∧ Mod (fun _ => False) w w' := by
  have Hs := Lib.hid hs
  clear hs
  go_enter Try.func69, Try.ntmps69
  go_wp2_with fail
  refine (index_any F [] (fun _ => True) (fun _ _ _ _ => trivial) P HP A n cap ps w Hs.out trivial hn).mono ?_
  rintro e w1 ⟨rfl, hm1⟩
  have Hm1 := Lib.hid hm1
  clear hm1
  go_wp2_with fail
  go_ret
  exact ⟨by rw [← fst_has]; rfl, Hm1.out⟩
end Go.Proofs.Ythogflfjdfcpeaa

/- Chunks: the mathematics. -/
namespace Go.Proofs.Ythogflfjdfcpeaa

end Go.Proofs.Ythogflfjdfcpeaa

/- Chunks: what the code asks of a chunk, and what the document asks, is one. -/
namespace Go.Proofs.Ythogflfjdfcpeaa

/-- Where the numbers of a head stand, and what they are. -/
def hp (bs : List Nat) : Nat → Nat
  | 0 => 1
  | i + 1 => hp bs i + (dec (bs.drop (hp bs i))).2
def hx (bs : List Nat) (i : Nat) : Nat := (dec (bs.drop (hp bs i))).1
def hq (bs : List Nat) (i : Nat) : Nat := (dec (bs.drop (hp bs i))).2
end Go.Proofs.Ythogflfjdfcpeaa

/- Rising. -/
namespace Go.Proofs.Ythogflfjdfcpeaa
open Go.RowKit

theorem ts_get {l : List (Int × Nat)} {i : Nat} {p : Int × Nat} (h : l[i]? = some p) : (tsOf l)[i]? = some p.1 := by
  unfold tsOf
  rw [List.getElem?_map, h]
  rfl
/-- The first i rise. -/
def RiseTo (l : List (Int × Nat)) (i : Nat) : Prop := ∀ j a b, j + 1 < i → (tsOf l)[j]? = some a → (tsOf l)[j + 1]? = some b → a < b
theorem RiseTo.more {l : List (Int × Nat)} {j : Nat} {p q : Int × Nat} (h : RiseTo l (j + 1)) (hp : l[j]? = some p) (hq : l[j + 1]? = some q) (hlt : p.1 < q.1) : RiseTo l (j + 1 + 1) := by
  intro k a b hk ha hb
  rcases Nat.lt_or_ge (k + 1) (j + 1) with h1 | h1
  · exact h k a b h1 ha hb
  · obtain rfl : k = j := by omega
    rw [ts_get hp] at ha
    rw [ts_get hq] at hb
    injection ha with ha
    injection hb with hb
    subst ha hb
    exact hlt
end Go.Proofs.Ythogflfjdfcpeaa

/- Chunks, of the code: the sum in four bytes, the head of a row, and how it is told. -/
namespace Go.Proofs.Ythogflfjdfcpeaa
open Go.RowKit

end Go.Proofs.Ythogflfjdfcpeaa

/- Get with a size that may be too great; bytes.Equal (parted from layer 8's Decode). -/
namespace Go.Proofs.Ythogflfjdfcpeaa
open Go.RowKit

end Go.Proofs.Ythogflfjdfcpeaa

/- Chunks, of the code: whether the sum stands behind. -/
namespace Go.Proofs.Ythogflfjdfcpeaa
open Go.RowKit

end Go.Proofs.Ythogflfjdfcpeaa

/- Times: wrapping of 64 bits, by sg and un; a reader's states, bad ones too. -/
namespace Go.Proofs.Ythogflfjdfcpeaa
open Go.RowKit

end Go.Proofs.Ythogflfjdfcpeaa

/- The widths' table, and what reads it: signed, shortest. -/
namespace Go.Proofs.Ythogflfjdfcpeaa
open Go.RowKit

end Go.Proofs.Ythogflfjdfcpeaa

/- A reader tells whether it is well. -/
namespace Go.Proofs.Ythogflfjdfcpeaa
open Go.RowKit

end Go.Proofs.Ythogflfjdfcpeaa

/- Ok of a reader in whatever state. -/
namespace Go.Proofs.Ythogflfjdfcpeaa
open Go.RowKit

end Go.Proofs.Ythogflfjdfcpeaa

/- A reader in whatever state; a difference is read: mark, get. -/
namespace Go.Proofs.Ythogflfjdfcpeaa
open Go.RowKit

end Go.Proofs.Ythogflfjdfcpeaa

/- Fields are told: the project's writer, and the document's own. -/
namespace Go.Proofs.Ythogflfjdfcpeaa
open Go.RowKit

section
variable {w0 w w' : World} {g N len : Nat} {row : Option Nat} {fs bs : List (Nat × Nat)}
theorem Mod.more {row row' : Option Nat} {w2 : World} (h : Mod (fun i => i = g ∨ row = some i) w0 w) (hr : RowTo w0 row row') (h2 : Mod (fun i => i = g ∨ row' = some i) w w2) : Mod (fun i => i = g ∨ row = some i) w0 w2 :=
  h.trans h2 (fun _ hi h => h.elim .inl (fun e => .inr (hr.in_ e hi)))
theorem RowTo.two {row row' row2 : Option Nat} (h : RowTo w0 row row') (hs : w0.heap.size ≤ w.heap.size) (h2 : RowTo w row' row2) : RowTo w0 row row2 := by
  rcases h2 with rfl | ⟨r, rfl, hr⟩
  · exact h
  · exact .inr ⟨r, rfl, by omega⟩
end
section
variable {w0 w w' : World} {g N len : Nat} {row : Option Nat} {fs bs : List (Nat × Nat)}
end
end Go.Proofs.Ythogflfjdfcpeaa

/- Differences, and rows of times, are told: put, Encode. -/
namespace Go.Proofs.Ythogflfjdfcpeaa
open Go.RowKit

end Go.Proofs.Ythogflfjdfcpeaa

/- Rows of times are read: Decode. -/
namespace Go.Proofs.Ythogflfjdfcpeaa
open Go.RowKit

def cellsI (xs : List Int) : List Value := xs.map fun x => Value.int .i64 x
theorem cellsI_length (xs : List Int) : (cellsI xs).length = xs.length := by simp [cellsI]
theorem cellsI_get (xs : List Int) (i : Nat) : (cellsI xs)[i]? = xs[i]?.map fun x => Value.int .i64 x := by simp [cellsI]
end Go.Proofs.Ythogflfjdfcpeaa

/- A row of samples as its times and its values: parted; and joined again. -/
namespace Go.Proofs.Ythogflfjdfcpeaa
open Go.RowKit

theorem Own.other {B g n cap : Nat} {w : World} {e : TypeId} {xs : List Value} (h : Own B w e (.slice (some ⟨g, 0, none⟩) n cap) xs) {p : Addr} (hp : p.block ≠ g) (u : Value) : Own B (w.setCell p u) e (.slice (some ⟨g, 0, none⟩) n cap) xs :=
  ((Mod.refl (fun i => i = p.block) w).setCell (fun _ => rfl) u).owns h (fun k hk e' => by
    have : g = k := by simpa [Value.ownBlock] using hk
    exact hp (by rw [← e', this]))
theorem SeesI.rds {w : World} {B n : Nat} {A : Option Addr} {zs : List Int} (h : SeesI .i64 w B A n zs) : Rds w B A n (cellsI zs) := by
  refine ⟨by rw [cellsI_length]; exact h.1, fun hn => ?_⟩
  obtain ⟨ad, e, hb, hc⟩ := h.2 hn
  refine ⟨ad, e, hb, fun j u hu => ?_⟩
  rw [cellsI_get] at hu
  cases hz : zs[j]? with
  | none => rw [hz] at hu; cases hu
  | some z =>
    rw [hz] at hu
    have : u = .int .i64 z := by simpa using hu.symm
    rw [this]
    exact hc j z hz
end Go.Proofs.Ythogflfjdfcpeaa

/- Rows of numbers of so many bits each: what a writer of its own has been told of them; what Bytes makes of it (parted from Encode of layer 8). -/
namespace Go.Proofs.Ythogflfjdfcpeaa
open Go.RowKit

/-- A row that another call has made, as bytes that read. -/
theorem NewRow.rds {w w1 : World} {v : Value} {n : Nat} {bs : List Nat} (h : NewRow w w1 v n (cells8 bs)) : ∃ A c, v = .slice A n c ∧ Rds w1 w1.heap.size A n (cells8 bs) ∧ Mod (fun _ => False) w w1 := by
  obtain ⟨hown, hm, _⟩ := h
  have hn : bs.length = n := by have := hown.1; rw [cells8_length] at this; omega
  have ho : Own 0 w1 5 v (cells8 bs) := by unfold Own; rw [cells8_length, hn]; exact hown
  obtain ⟨A, c, e, _, _, hr⟩ := own_form8 ho
  rw [hn] at e hr
  exact ⟨A, c, e, hr, hm⟩
end Go.Proofs.Ythogflfjdfcpeaa

/- The times of a row, as bytes behind how many these are: putTimes. -/
namespace Go.Proofs.Ythogflfjdfcpeaa
open Go.RowKit

end Go.Proofs.Ythogflfjdfcpeaa

/- How many 0s a number has ahead and behind, as math/bits tells it; the window's own calls. -/
namespace Go.Proofs.Ythogflfjdfcpeaa
open Go.RowKit

def winA : Option (Nat × Nat) → Nat
  | none => 0
  | some (a, _) => a
def winS : Option (Nat × Nat) → Nat
  | none => 0
  | some (a, b) => 64 - a - b
theorem win_bounds {win : Option (Nat × Nat)} (h : WinOk win) : winA win ≤ 31 ∧ winS win ≤ 64 ∧ winA win + winS win ≤ 64 := by
  cases win with
  | none => exact ⟨Nat.zero_le _, Nat.zero_le _, Nat.zero_le _⟩
  | some p =>
    obtain ⟨a, b⟩ := p
    obtain ⟨h1, h2⟩ := h
    refine ⟨h1, ?_, ?_⟩
    · show 64 - a - b ≤ 64; omega
    · show a + (64 - a - b) ≤ 64; omega
end Go.Proofs.Ythogflfjdfcpeaa

/- A turn, and rows of values, are told: put, Encode. -/
namespace Go.Proofs.Ythogflfjdfcpeaa
open Go.RowKit

end Go.Proofs.Ythogflfjdfcpeaa

/- Rows of values are told: Encode. -/
namespace Go.Proofs.Ythogflfjdfcpeaa
open Go.RowKit

end Go.Proofs.Ythogflfjdfcpeaa

/- The times that bytes begin with, and what is behind them: getTimes. -/
namespace Go.Proofs.Ythogflfjdfcpeaa
open Go.RowKit

def GetT (w w' : World) (o : Option (List Int × List Nat)) (e : Ending) : Prop :=
  match o with
  | some (ts, rest) => ∃ A1 c1 A2 c2, e = .returned (.tuple #[.slice A1 ts.length c1, .slice A2 rest.length c2, .bool true]) ∧ A2 ≠ none ∧ rest.length ≤ c2 ∧ c2 ≤ maxLen ∧ Rds w' w'.heap.size A1 ts.length (cellsI ts) ∧ Rds w' w.heap.size A2 rest.length (cells8 rest) ∧ Mod (fun _ => False) w w'
  | none => ∃ v1 v2, e = .returned (.tuple #[v1, v2, .bool false]) ∧ Mod (fun _ => False) w w'
theorem GetT.some_ {w w' : World} {o : Option (List Int × List Nat)} {ts : List Int} {rest : List Nat} {e : Ending} (h : GetT w w' o e) (ho : o = some (ts, rest)) :
    ∃ A1 c1 A2 c2, e = .returned (.tuple #[.slice A1 ts.length c1, .slice A2 rest.length c2, .bool true]) ∧ A2 ≠ none ∧ rest.length ≤ c2 ∧ c2 ≤ maxLen ∧ Rds w' w'.heap.size A1 ts.length (cellsI ts) ∧ Rds w' w.heap.size A2 rest.length (cells8 rest) ∧ Mod (fun _ => False) w w' := by
  subst ho
  exact h
theorem GetT.none_ {w w' : World} {o : Option (List Int × List Nat)} {e : Ending} (h : GetT w w' o e) (ho : o = none) : ∃ v1 v2, e = .returned (.tuple #[v1, v2, .bool false]) ∧ Mod (fun _ => False) w w' := by
  subst ho
  exact h
end Go.Proofs.Ythogflfjdfcpeaa

/- The document's own: numbers of so many bits each are packed behind bytes, and unpacked. -/
namespace Go.Proofs.Ythogflfjdfcpeaa
open Go.RowKit

end Go.Proofs.Ythogflfjdfcpeaa

/- A turn is read: get. -/
namespace Go.Proofs.Ythogflfjdfcpeaa
open Go.RowKit

/-- Behind the window's own bits: which window is told, and whether anew. -/
def Mid (win s : Option (Nat × Nat)) (a z : Nat) (fresh : Bool) (s' : Option (Nat × Nat)) : Prop :=
  (getO 1 s).1 ≠ 0 ∧ ((fresh = false ∧ (getO 1 (getO 1 s).2).1 = 0 ∧ a = winA win ∧ z = winS win ∧ s' = (getO 1 (getO 1 s).2).2) ∨
    (fresh = true ∧ (getO 1 (getO 1 s).2).1 ≠ 0 ∧ a = (getO 5 (getO 1 (getO 1 s).2).2).1 ∧ z = (getO 6 (getO 5 (getO 1 (getO 1 s).2).2).2).1 + 1 ∧ s' = (getO 6 (getO 5 (getO 1 (getO 1 s).2).2).2).2))
section
variable {win s s' : Option (Nat × Nat)} {a z : Nat} {fresh : Bool}
theorem Mid.bounds (h : Mid win s a z fresh s') (hs : SmallO s) (hw : WinOk win) : a ≤ 31 ∧ z ≤ 64 ∧ SmallO s' := by
  obtain ⟨_, ⟨_, _, h1, h2, h3⟩ | ⟨_, _, h1, h2, h3⟩⟩ := h
  · have := win_bounds hw
    exact ⟨by omega, by omega, h3 ▸ (hs.get 1).get 1⟩
  · have e1 := ((hs.get 1).get 1).lt 5
    have e2 := (((hs.get 1).get 1).get 5).lt 6
    exact ⟨by omega, by omega, h3 ▸ (((hs.get 1).get 1).get 5).get 6⟩
theorem Mid.far (h : Mid win s a z fresh s') (hw : WinOk win) (hf : 64 < a + z) : stO win s = none := by
  obtain ⟨h0, ⟨_, _, h1, h2, _⟩ | ⟨_, h1, h2, h3, _⟩⟩ := h
  · have := win_bounds hw
    omega
  · exact stO_far h0 h1 (by rw [← h2, ← h3]; exact hf)
end
end Go.Proofs.Ythogflfjdfcpeaa

/- Rows of values are read: Decode. -/
namespace Go.Proofs.Ythogflfjdfcpeaa
open Go.RowKit

end Go.Proofs.Ythogflfjdfcpeaa

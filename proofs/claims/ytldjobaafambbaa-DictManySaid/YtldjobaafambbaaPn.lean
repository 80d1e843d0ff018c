/- Rows of numbers of so many bits each: what a writer of its own has been told of them; what Bytes makes of it (parted from Encode of layer 8). -/
import Derived.Test.YtldjobaafambbaaPk
import Derived.Test.YtldjobaafambbaaOz
import Derived.Test.YtldjobaafambbaaGw
namespace Go.Proofs.Ytldjobaafambbaa
open Go.RowKit

/-- A row that another call has made, as bytes that read. -/
theorem NewRow.rds {w w1 : World} {v : Value} {n : Nat} {bs : List Nat} (h : NewRow w w1 v n (cells8 bs)) : ∃ A c, v = .slice A n c ∧ Rds w1 w1.heap.size A n (cells8 bs) ∧ Mod (fun _ => False) w w1 := by
  obtain ⟨hown, hm, _⟩ := h
  have hn : bs.length = n := by have := hown.1; rw [cells8_length] at this; omega
  have ho : Own 0 w1 5 v (cells8 bs) := by unfold Own; rw [cells8_length, hn]; exact hown
  obtain ⟨A, c, e, _, _, hr⟩ := own_form8 ho
  rw [hn] at e hr
  exact ⟨A, c, e, hr, hm⟩
/-- What a writer of its own has been told of i numbers of S bits. -/
def FldTo (w0 w1 wr : World) (g S : Nat) (l : List Nat) (i : Nat) : Prop := Wrote w1 wr g none 0 0 (flds S (l.take i)) ∧ Mod (fun _ => False) w0 wr
theorem FldTo.step {w0 w1 wr w2 : World} {g S i x : Nat} {l : List Nat} (hx : l[i]? = some x) (_h : FldTo w0 w1 wr g S l i) (hg : w0.heap.size ≤ g) (hm : Mod (fun _ => False) w0 w1) (h2 : Wrote w1 w2 g none 0 0 (flds S (l.take i) ++ [(x, S)])) : FldTo w0 w1 w2 g S l (i + 1) := by
  refine ⟨?_, ?_⟩
  · rw [take_succ_of hx, flds_app]
    exact h2
  · obtain ⟨row', _, a2, _⟩ := h2
    exact hm.trans a2 (fun i hi h => h.elim (fun e => by omega) (fun e => by cases e))
theorem FldTo.wr {w0 w1 wr : World} {g S i n : Nat} {l : List Nat} (h : FldTo w0 w1 wr g S l i) (hn : l.length = n) (hi : i = n) : ∃ row, Wr wr g row (fnum (flds S l)) (flen (flds S l)) := by
  obtain ⟨⟨row', a1, _, _⟩, _⟩ := h
  rw [List.take_of_length_le (by omega), Nat.zero_mul, Nat.zero_add, Nat.zero_add] at a1
  exact ⟨row', a1⟩
theorem Packed.packW {bs : List Nat} {S : Nat} {l : List Nat} (h : Packed bs (fnum (flds S l)) (flen (flds S l))) : bs = packW S l := by
  obtain ⟨hlt, free, hf, hl, hv⟩ := h
  exact packW_one hlt hf hl hv
theorem flds_small {S n i : Nat} {l : List Nat} (hS : S ≤ 64) (hn : l.length ≤ n) (hn2 : n ≤ 1000000) : flen (flds S (l.take i)) ≤ 64000000 := by
  rw [flds_len]
  have h1 : (l.take i).length ≤ 1000000 := by rw [List.length_take]; omega
  have := Nat.mul_le_mul hS h1
  omega
end Go.Proofs.Ytldjobaafambbaa

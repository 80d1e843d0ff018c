/- The store's scripts: one row held and left (BlobHolds, BlobOwn, the law's awake); a budget to its last byte (BlobBudget). -/
import Derived.Test.YtnfpbjioiiedeaaHd
import Derived.Test.YtnfpbjioiiedeaaYb
namespace Go.Proofs.Ytnfpbjioiiedeaa

/-- A store with one row; one without any. -/
def sole (bud ch : Int) (nx id : Nat) (b : List Nat) (n : Nat) : BloN := ⟨bud, ch, nx, [⟨id, b, n⟩]⟩
def bareB (bud ch : Int) (nx : Nat) : BloN := ⟨bud, ch, nx, []⟩
section
variable {bud ch : Int} {nx id n : Nat} {b : List Nat}
theorem bare_new (x : Int) : newB x = bareB (min (max x 0) 1073741824) 0 0 := rfl
theorem bare_used : usedB (bareB bud ch nx) = ch := by simp [usedB, bareB, lenB]
theorem sole_used : usedB (sole bud ch nx id b n) = ch + b.length := by simp [usedB, sole, lenB]
theorem bare_at (k : Int) : atB (bareB bud ch nx) k = none := rfl
theorem sole_at : atB (sole bud ch nx id b n) id = some ⟨id, b, n⟩ := by simp [atB, sole]
theorem sole_not {k : Int} (h : (id : Int) ≠ k) : atB (sole bud ch nx id b n) k = none := by simp [atB, sole, h]
theorem bare_add (h : ch + b.length ≤ bud) : addB (bareB bud ch nx) b = (sole bud ch (nx + 1) (nx + 1) b 1, some (nx + 1)) := by
  unfold addB
  rw [bare_used, if_pos (show ch + (b.length : Int) ≤ (bareB bud ch nx).budget from h)]
  rfl
theorem bare_full (h : ¬ ch + b.length ≤ bud) : addB (bareB bud ch nx) b = (bareB bud ch nx, none) := by
  unfold addB
  rw [bare_used, if_neg (show ¬ ch + (b.length : Int) ≤ (bareB bud ch nx).budget from h)]
theorem sole_full {b2 : List Nat} (h : ¬ ch + b.length + b2.length ≤ bud) : addB (sole bud ch nx id b n) b2 = (sole bud ch nx id b n, none) := by
  unfold addB
  rw [sole_used, if_neg (show ¬ ch + (b.length : Int) + (b2.length : Int) ≤ (sole bud ch nx id b n).budget from h)]
theorem sole_hold : holdB (sole bud ch nx id b n) id = (sole bud ch nx id b (n + 1), true) := by
  unfold holdB
  rw [sole_at]
  simp [sole, turnB]
theorem sole_unheld {k : Int} (h : (id : Int) ≠ k) : holdB (sole bud ch nx id b n) k = (sole bud ch nx id b n, false) := by
  unfold holdB
  rw [sole_not h]
theorem sole_leave (h : 1 ≤ n) : leaveB (sole bud ch nx id b (n + 1)) id = (sole bud ch nx id b n, true) := by
  unfold leaveB
  rw [sole_at]
  simp only
  rw [if_neg (by omega)]
  simp [sole, turnB]
theorem sole_last : leaveB (sole bud ch nx id b 1) id = (bareB bud ch nx, true) := by
  unfold leaveB
  rw [sole_at]
  simp [sole, bareB]
theorem bare_leave (k : Int) : leaveB (bareB bud ch nx) k = (bareB bud ch nx, false) := rfl
theorem bare_hold (k : Int) : holdB (bareB bud ch nx) k = (bareB bud ch nx, false) := rfl
theorem sole_holds : holdsB (sole bud ch nx id b n) id = n := by unfold holdsB; rw [sole_at]
theorem bare_holds (k : Int) : holdsB (bareB bud ch nx) k = 0 := rfl
theorem bare_charge {m : Int} (h : m ≤ 0 ∨ ch + m ≤ bud) : chargeB (bareB bud ch nx) m = (bareB bud (max (ch + m) 0) nx, true) := by
  unfold chargeB
  rw [bare_used, if_neg (show ¬ (0 < m ∧ (bareB bud ch nx).budget < ch + m) by show ¬ (0 < m ∧ bud < ch + m); omega)]
  rfl
theorem bare_over {m : Int} (h0 : 0 < m) (h : bud < ch + m) : chargeB (bareB bud ch nx) m = (bareB bud ch nx, false) := by
  unfold chargeB
  rw [bare_used, if_pos (show 0 < m ∧ (bareB bud ch nx).budget < ch + m from ⟨h0, h⟩)]
theorem sole_charge {m : Int} (h : m ≤ 0 ∨ ch + b.length + m ≤ bud) : chargeB (sole bud ch nx id b n) m = (sole bud (max (ch + m) 0) nx id b n, true) := by
  unfold chargeB
  rw [sole_used, if_neg (show ¬ (0 < m ∧ (sole bud ch nx id b n).budget < ch + b.length + m) by show ¬ (0 < m ∧ bud < ch + b.length + m); omega)]
  rfl
theorem sole_over {m : Int} (h0 : 0 < m) (h : bud < ch + b.length + m) : chargeB (sole bud ch nx id b n) m = (sole bud ch nx id b n, false) := by
  unfold chargeB
  rw [sole_used, if_pos (show 0 < m ∧ (sole bud ch nx id b n).budget < ch + b.length + m from ⟨h0, h⟩)]
end
end Go.Proofs.Ytnfpbjioiiedeaa

/- Five rows of bytes in a literal. -/
import Derived.Test.YtliaehfknppnaaaUg
namespace Go.Proofs.Ytliaehfknppnaaa
open Go.RowKit

theorem cells8_cut (bs : List Nat) (k : Nat) : (cells8 bs).take k = cells8 (bs.take k) := by simp [cells8, List.map_take]
theorem bytes_cut {bs : List Nat} (h : ∀ b ∈ bs, b < 256) (k : Nat) : ∀ b ∈ bs.take k, b < 256 := fun b hb => h b (List.mem_of_mem_take hb)
/-- The literal at lit holds five rows of bytes, each no longer than m, none of which lies beyond its slice. -/
def Rows5b (w : World) (m lit : Nat) : Prop := lit < w.heap.size ∧ ∀ j, j < 5 → ∃ (A : Option Addr) (n c : Nat) (cs : List Nat), w.cell? ⟨lit, j, none⟩ = some (.slice A n c) ∧ Rds w w.heap.size A n (cells8 cs) ∧ n ≤ m ∧ n ≤ c ∧ c ≤ maxLen ∧ ∀ b ∈ cs, b < 256
theorem Rows5b.mod {w w' : World} {m lit : Nat} (h : Rows5b w m lit) (hm : Mod (fun _ => False) w w') : Rows5b w' m lit := by
  refine ⟨Nat.lt_of_lt_of_le h.1 hm.size, fun j hj => ?_⟩
  obtain ⟨A, n, c, cs, h1, h2, h3⟩ := h.2 j hj
  exact ⟨A, n, c, cs, (hm.cell (a := ⟨lit, j, none⟩) h.1 (fun h => h)).trans h1, (h2.new hm).fit, h3⟩
theorem rows5b_new {w : World} {e : TypeId} {A0 A1 A2 A3 : Option Addr} {n0 c0 n1 c1 c2 k n3 c3 m : Nat} {b0 b1 b2 b3 : List Nat} (h0 : Rds w w.heap.size A0 n0 (cells8 b0)) (l0 : n0 ≤ m) (k0 : n0 ≤ c0 ∧ c0 ≤ maxLen) (t0 : ∀ x ∈ b0, x < 256)
    (h1 : Rds w w.heap.size A1 n1 (cells8 b1)) (l1 : n1 ≤ m) (k1 : n1 ≤ c1 ∧ c1 ≤ maxLen) (t1 : ∀ x ∈ b1, x < 256) (h2 : Rds w w.heap.size A2 n1 (cells8 b2)) (k2 : n1 ≤ c2 ∧ c2 ≤ maxLen) (t2 : ∀ x ∈ b2, x < 256) (hk : k ≤ n1)
    (h3 : Rds w w.heap.size A3 n3 (cells8 b3)) (l3 : n3 ≤ m) (k3 : n3 ≤ c3 ∧ c3 ≤ maxLen) (t3 : ∀ x ∈ b3, x < 256) :
    Rows5b (w.alloc (.cells #[.slice A0 n0 c0, .slice A1 n1 c1, .slice A2 n1 c2, .slice A1 k c1, .slice A3 n3 c3] e)) m w.heap.size := by
  have hb := Blk.new w e #[.slice A0 n0 c0, .slice A1 n1 c1, .slice A2 n1 c2, .slice A1 k c1, .slice A3 n3 c3]
  have hal : ∀ {A : Option Addr} {n : Nat} {b : List Nat}, Rds w w.heap.size A n (cells8 b) → Rds (w.alloc (.cells #[.slice A0 n0 c0, .slice A1 n1 c1, .slice A2 n1 c2, .slice A1 k c1, .slice A3 n3 c3] e)) (w.alloc (.cells #[.slice A0 n0 c0, .slice A1 n1 c1, .slice A2 n1 c2, .slice A1 k c1, .slice A3 n3 c3] e)).heap.size A n (cells8 b) := fun h => (h.alloc (Nat.le_refl _) _).fit
  refine ⟨hb.lt, fun j hj => ?_⟩
  have hj' : j = 0 ∨ j = 1 ∨ j = 2 ∨ j = 3 ∨ j = 4 := by omega
  rcases hj' with rfl | rfl | rfl | rfl | rfl
  · exact ⟨A0, n0, c0, b0, hb.cell 0, hal h0, l0, k0.1, k0.2, t0⟩
  · exact ⟨A1, n1, c1, b1, hb.cell 1, hal h1, l1, k1.1, k1.2, t1⟩
  · exact ⟨A2, n1, c2, b2, hb.cell 2, hal h2, l1, k2.1, k2.2, t2⟩
  · exact ⟨A1, k, c1, b1.take k, hb.cell 3, hal (by rw [← cells8_cut]; exact h1.take hk), by omega, by omega, k1.2, bytes_cut t1 k⟩
  · exact ⟨A3, n3, c3, b3, hb.cell 4, hal h3, l3, k3.1, k3.2, t3⟩
end Go.Proofs.Ytliaehfknppnaaa

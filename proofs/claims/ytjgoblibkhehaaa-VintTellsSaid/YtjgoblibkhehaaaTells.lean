import Derived.Test.YtjgoblibkhehaaaVa
import Derived.Test.YtjgoblibkhehaaaRow2
import Derived.Deep.RegionHeldLaw
import Derived.StillTailTactics
import Derived.Deep.DeepCutAuto
import Derived.Deep.CutBlock
namespace Go.Proofs.Ytjgoblibkhehaaa
open Go.RowKit

theorem below_alloc {B : Nat} {w0 W : World} (h : Below B w0 W) (hB : B ≤ w0.heap.size) (o : Obj) : Below B w0 (W.alloc o) := h.alloc (Nat.le_trans hB h.size) o
theorem has_nil (w : World) (H : Nat) : Has w H [] := fun j u h => by simp at h

/-- Six slices of bytes in a row. -/
def Six (w : World) (g : Nat) : Prop := ∀ i, i < 6 → ∃ A n c bs, w.cell? ⟨g, i, none⟩ = some (.slice A n c) ∧ Rds w w.heap.size A n (cells8 bs) ∧ lt256 bs ∧ n ≤ c ∧ c ≤ maxLen
theorem own_seen {B : Nat} {X : World} {v : Value} {bs : List Nat} (h : Own B X 5 v (cells8 bs)) : ∃ A n c, v = .slice A n c ∧ Rds X X.heap.size A n (cells8 bs) ∧ n ≤ c ∧ c ≤ maxLen := by
  obtain ⟨A, c, rfl, _, h1, h2, h3⟩ := h.form
  exact ⟨A, _, c, rfl, h3, h1, h2⟩
theorem six_mk {w3 X : World} {B5 B6 g u k by_ l c nt ct cx gx : Nat} {A At : Option Addr} {raw : List Nat} {v5 v6 : Value} (hX : Below w3.heap.size w3 X) (hg : X.heap.size = g)
    (hraw : Rds w3 w3.heap.size A l (cells8 raw)) (hrl : lt256 raw) (hlc : l ≤ c) (hc : c ≤ maxLen) (ht : Rds w3 w3.heap.size At nt (cells8 (enc u))) (htc : nt ≤ ct) (hct : ct ≤ maxLen) (hk : k < nt)
    (hx : Rds w3 w3.heap.size (some ⟨gx, 0, none⟩) nt (cells8 ((enc u).set k by_))) (hcx : nt ≤ cx) (hcx2 : cx ≤ maxLen) (hby : by_ < 256)
    (h5 : Own B5 X 5 v5 (cells8 (enc u) ++ [.int .u8 (by_ : Int)])) (h6 : Own B6 X 5 v6 ([.int .u8 128] ++ cells8 (enc u))) :
    Six (X.alloc (.cells #[.slice A l c, .slice At nt ct, .slice (some ⟨gx, 0, none⟩) nt cx, .slice At k ct, v5, v6] 27)) g := by
  subst hg
  have hcell := fun i => (Blk.new X 27 #[.slice A l c, .slice At nt ct, .slice (some ⟨gx, 0, none⟩) nt cx, .slice At k ct, v5, v6]).cell i
  have up : ∀ {A' : Option Addr} {n' : Nat} {xs : List Value}, Rds w3 w3.heap.size A' n' xs → Rds (X.alloc (.cells #[.slice A l c, .slice At nt ct, .slice (some ⟨gx, 0, none⟩) nt cx, .slice At k ct, v5, v6] 27)) (X.alloc (.cells #[.slice A l c, .slice At nt ct, .slice (some ⟨gx, 0, none⟩) nt cx, .slice At k ct, v5, v6] 27)).heap.size A' n' xs :=
    fun h => ((h.below hX).alloc hX.size _).fit
  have up2 : ∀ {A' : Option Addr} {n' : Nat} {xs : List Value}, Rds X X.heap.size A' n' xs → Rds (X.alloc (.cells #[.slice A l c, .slice At nt ct, .slice (some ⟨gx, 0, none⟩) nt cx, .slice At k ct, v5, v6] 27)) (X.alloc (.cells #[.slice A l c, .slice At nt ct, .slice (some ⟨gx, 0, none⟩) nt cx, .slice At k ct, v5, v6] 27)).heap.size A' n' xs :=
    fun h => (h.alloc (Nat.le_refl _) _).fit
  have e5 : cells8 (enc u) ++ [.int .u8 (by_ : Int)] = cells8 (enc u ++ [by_]) := (cells8_snoc _ _).symm
  have e6 : [.int .u8 128] ++ cells8 (enc u) = cells8 (128 :: enc u) := rfl
  rw [e5] at h5
  rw [e6] at h6
  obtain ⟨A5, n5, c5, rfl, r5, l5, m5⟩ := own_seen h5
  obtain ⟨A6, n6, c6, rfl, r6, l6, m6⟩ := own_seen h6
  intro i hi
  have hi' : i = 0 ∨ i = 1 ∨ i = 2 ∨ i = 3 ∨ i = 4 ∨ i = 5 := by omega
  rcases hi' with rfl | rfl | rfl | rfl | rfl | rfl
  · exact ⟨A, l, c, raw, hcell 0, up hraw, hrl, hlc, hc⟩
  · exact ⟨At, nt, ct, enc u, hcell 1, up ht, enc_256 u, htc, hct⟩
  · refine ⟨_, nt, cx, (enc u).set k by_, hcell 2, up hx, ?_, hcx, hcx2⟩
    intro b hb
    rcases List.mem_or_eq_of_mem_set hb with hb | rfl
    · exact enc_256 u b hb
    · exact hby
  · refine ⟨At, k, ct, (enc u).take k, hcell 3, ?_, fun b hb => enc_256 u b (List.mem_of_mem_take hb), by omega, hct⟩
    have := up (ht.take (k := k) (by omega))
    rwa [show (cells8 (enc u)).take k = cells8 ((enc u).take k) by simp [cells8, List.map_take]] at this
  · refine ⟨A5, n5, c5, enc u ++ [by_], hcell 4, up2 r5, ?_, l5, m5⟩
    intro b hb
    rw [List.mem_append] at hb
    rcases hb with hb | hb
    · exact enc_256 u b hb
    · simp at hb; omega
  · refine ⟨A6, n6, c6, 128 :: enc u, hcell 5, up2 r6, ?_, l6, m6⟩
    intro b hb
    rw [List.mem_cons] at hb
    rcases hb with rfl | hb
    · omega
    · exact enc_256 u b hb
end Go.Proofs.Ytjgoblibkhehaaa

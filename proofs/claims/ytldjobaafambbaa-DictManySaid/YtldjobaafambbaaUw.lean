/- Rows of values of 64 bits: as cells, of the call's own, one cell of such, one cell written; numbers of 64 bits that operations give. -/
import Derived.Test.YtldjobaafambbaaUg
import Derived.Test.YtldjobaafambbaaProg
namespace Go.Proofs.Ytldjobaafambbaa
open Go.RowKit

def cellsU (xs : List Nat) : List Value := xs.map fun (x : Nat) => Value.int .u64 (x : Int)
theorem cellsU_length (xs : List Nat) : (cellsU xs).length = xs.length := by simp [cellsU]
theorem cellsU_snoc (xs : List Nat) (x : Nat) : cellsU (xs ++ [x]) = cellsU xs ++ [.int .u64 (x : Int)] := by simp [cellsU]
theorem cellsU_get (xs : List Nat) (i : Nat) : (cellsU xs)[i]? = xs[i]?.map fun (x : Nat) => Value.int .u64 (x : Int) := by simp [cellsU]
theorem cellsU_app (a b : List Nat) : cellsU a ++ cellsU b = cellsU (a ++ b) := by simp [cellsU]
theorem cellsU_one (bs : List Nat) : ∀ u ∈ cellsU bs, u.oneCell' = true := by
  intro u hu
  simp only [cellsU, List.mem_map] at hu
  obtain ⟨b, _, rfl⟩ := hu
  rfl
theorem cellsU_take (xs : List Nat) (k : Nat) : (cellsU xs).take k = cellsU (xs.take k) := by simp [cellsU, List.map_take]
theorem Rds.at2 {w w' : World} {B n i : Nat} {A : Option Addr} {zs : List Nat} (h : Rds w B A n (cellsU zs)) (hi : i < n) (hB : B ≤ w.heap.size) {S : Nat → Prop} (hm : Mod S w w') (hS : ∀ ad, A = some ad → ¬ S ad.block) :
    ∃ ad x, A = some ad ∧ zs[i]? = some x ∧ w'.cell? (ad.add i) = some (.int .u64 (x : Int)) := by
  obtain ⟨ad, u, e, hb, hu, hc⟩ := h.at_ hi
  rw [cellsU_get] at hu
  obtain ⟨x, hx, rfl⟩ := Option.map_eq_some_iff.1 hu
  refine ⟨ad, x, e, hx, ?_⟩
  rw [hm.cell (a := ad.add i) (by rw [add_block]; omega) (by rw [add_block]; exact hS _ e)]
  exact hc
theorem drop_at' {zs : List Nat} {i : Nat} {x : Nat} (h : zs[i]? = some x) : zs.drop i = x :: zs.drop (i + 1) := by
  rw [List.getElem?_eq_some_iff] at h
  obtain ⟨hi, rfl⟩ := h
  exact List.drop_eq_getElem_cons hi
theorem eltU : Elt Try.prog 24 32 (.int .u64 0) 8 := Elt.mk Try.underlying24 (by kernel_rfl) rfl
theorem own_formU {B : Nat} {w : World} {v : Value} {xs : List Nat} (h : Own B w 32 v (cellsU xs)) : ∃ A c, v = .slice A xs.length c ∧ xs.length ≤ c ∧ Rds w w.heap.size A xs.length (cellsU xs) := by
  obtain ⟨A, c, e, _, hc, _, hr⟩ := h.form
  rw [cellsU_length] at e hr hc
  exact ⟨A, c, e, hc, hr⟩
theorem own_formUN {B : Nat} {w : World} {v : Value} {xs : List Nat} (h : Own B w 32 v (cellsU xs)) : ∃ A L c, v = .slice A L c ∧ Hid (xs.length = L) ∧ L ≤ c ∧ Rds w w.heap.size A L (cellsU xs) := by
  obtain ⟨A, c, e, hc, hr⟩ := own_formU h
  exact ⟨A, xs.length, c, e, Lib.hid rfl, hc, hr⟩
/-- x[k] = b -/
theorem own_setU {B g nb cap k b : Nat} {w : World} {bs : List Nat} (h : Own B w 32 (.slice (some ⟨g, 0, none⟩) nb cap) (cellsU bs)) (hn : nb = bs.length) (hk : k < nb) :
    (∃ u, w.cell? ⟨g, k, none⟩ = some u) ∧ w.frozen? ⟨g, k, none⟩ = false ∧ Own B (w.setCell ⟨g, k, none⟩ (.int .u64 (b : Int))) 32 (.slice (some ⟨g, 0, none⟩) nb cap) (cellsU (bs.set k b)) := by
  have h' : w.ownsRow B 32 1 (.slice (some ⟨g, 0, none⟩) nb cap) nb (cellsU bs) := by
    have := h; unfold Own at this; rwa [cellsU_length, ← hn] at this
  refine ⟨⟨.int .u64 (bs[k]'(by omega)), ?_⟩, h'.frozenAt k, ?_⟩
  · rw [h'.cellAt k (by omega), cellsU_get, List.getElem?_eq_getElem (by omega)]
    rfl
  · have h2 := (h'.stored k (.int .u64 (b : Int))).1
    have e : (cellsU bs).set k (.int .u64 (b : Int)) = cellsU (bs.set k b) := by simp [cellsU, List.map_set]
    rw [e] at h2
    unfold Own
    rw [cellsU_length, List.length_set, ← hn]
    exact h2
/-- A row of which i cells bear b, the rest 0. -/
def part (i m b : Nat) : List Nat := List.replicate i b ++ List.replicate (m - i) 0
theorem part_len {i m b : Nat} (h : i ≤ m) : (part i m b).length = m := by simp [part]; omega
theorem part_set {i m b : Nat} (h : i < m) : (part i m b).set i b = part (i + 1) m b := by
  unfold part
  obtain ⟨j, hj⟩ : ∃ j, m - i = j + 1 := ⟨m - i - 1, by omega⟩
  rw [hj, show m - (i + 1) = j by omega, List.replicate_succ, List.set_append_right _ _ (by simp), List.length_replicate, Nat.sub_self, List.set_cons_zero, List.replicate_succ']
  simp
theorem part_zero (m b : Nat) : part 0 m b = List.replicate m 0 := by simp [part]
theorem part_all (m b : Nat) : part m m b = List.replicate m b := by simp [part]
theorem Own.rds {B : Nat} {w : World} {A : Option Addr} {n c : Nat} {xs : List Nat} (h : Own B w 32 (.slice A n c) (cellsU xs)) (hn : xs.length = n) : Rds w w.heap.size A n (cellsU xs) := by
  obtain ⟨A', c', e, _, hr⟩ := own_formU h
  injection e with e1 e2 e3
  subst e1 e2
  exact hr

theorem wrapU_ex (z : Int) : ∃ y : Nat, IntKind.u64.wrap z = (y : Int) ∧ y < 2 ^ 64 := by
  rw [IntKind.wrap_u64]
  exact ⟨(z % 18446744073709551616).toNat, by omega, by omega⟩
theorem andU_ex (x m : Nat) (hx : x < 2 ^ 64) (hm : m < 2 ^ 64) : ∃ y : Nat, bits .and .u64 (x : Int) (m : Int) = (y : Int) ∧ y ≤ m :=
  ⟨x &&& m, u64_and_nat x m hx hm, Nat.and_le_right⟩
theorem xorU_ex (x m : Nat) (hx : x < 2 ^ 64) (hm : m < 2 ^ 64) : ∃ y : Nat, bits .xor .u64 (x : Int) (m : Int) = (y : Int) ∧ y < 2 ^ 64 :=
  ⟨x ^^^ m, u64_xor_nat x m hx hm, Nat.xor_lt_two_pow hx hm⟩
end Go.Proofs.Ytldjobaafambbaa

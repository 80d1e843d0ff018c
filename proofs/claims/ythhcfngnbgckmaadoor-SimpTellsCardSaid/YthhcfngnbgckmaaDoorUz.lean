/- append(s, make([]T, k)..), s a row of the call's own. -/
import Derived.Test.YthhcfngnbgckmaaDoorRow
import Derived.Lib.AppendZerosOnto
namespace Go.Proofs.YthhcfngnbgckmaaDoor
open Go.RowKit

theorem zeroCells_one (z : Value) (hz : z.cells = #[z]) (n : Nat) : Builtin.zeroCells z.cells n = (List.replicate n z).toArray := by
  rw [hz]
  apply Array.ext
  · simp [Builtin.zeroCells]
  · intro i h1 h2
    simp [Builtin.zeroCells, Nat.mod_one]
section
variable {P : Program} {w : World}
theorem run_zeros_room (t tn ty e : TypeId) (i : TypeInfo) (z : Value) (kq kn : IntKind) (ht : P.underlying t = some (.slice e)) (htn : P.underlying tn = some (.int kn)) (hi : P.info? e = some i) (hz : i.zero = some z) (hs1 : i.size = 1) (hz1 : z.cells = #[z]) (ho : z.oneCell' = true)
    (g sLen sCap : Nat) (cur : Array Value) (hg : w.heap[g]? = some (.cells cur e (0, 0))) (k : Nat) (h0 : 0 < k) (hroom : sLen + k ≤ sCap) (hfit : sLen + k ≤ cur.size) (hk63 : (k : Int) ≤ 9223372036854775807) (h48 : k * i.bytes ≤ 281474976710656) :
    (Builtin.append_ #[t, tn] ty #[.slice (some ⟨g, 0, none⟩) sLen sCap, .int kq k]).run P w =
      .ok (.slice (some ⟨g, 0, none⟩) (sLen + k) sCap) (w.setRow g (cur.toList.take sLen ++ List.replicate k z ++ cur.toList.drop (sLen + k)).toArray) := by
  have hst := run_storeCells_at P g sLen e (List.replicate k z) 0 cur w hg (by simpa using hfit) (fun v hv => by rw [List.eq_of_mem_replicate hv]; exact ho)
  simp only [Nat.add_zero, List.length_replicate] at hst
  have hk : k ≠ 0 := by omega
  have hw : IntKind.i64.wrap (k : Int) = k := by rw [IntKind.wrap_i64]; omega
  have hneg : ¬ ((k : Int) < 0) := by omega
  have h48i : ¬ (281474976710656 < (k : Int) * (i.bytes : Int)) := by
    rw [← Int.natCast_mul]
    omega
  have hzc := zeroCells_one z hz1 k
  simp [Builtin.append_, run_underlying ht, run_underlying htn, sizeOf, typeInfo, zeroValue, hi, hz, asInt, asIntOf, hw, hneg, h48i, hs1, hk, hroom, hzc, Addr.add_lit, hst]
theorem run_app_zeros {t tn ty e : TypeId} {z : Value} {bytes B k : Nat} {kq kn : IntKind} {v : Value} {xs : List Value} (hE : Elt P t e z bytes) (htn : P.underlying tn = some (.int kn)) (hz1 : z.cells = #[z]) (ho : z.oneCell' = true) (hown : Own B w e v xs)
    (hm : xs.length + k ≤ maxLen) (hb : (xs.length + k) * bytes ≤ 140737488355328) (hB : B ≤ w.heap.size) :
    ∃ v' w', (Builtin.append_ #[t, tn] ty #[v, .int kq (k : Int)]).run P w = .ok v' w' ∧ Own B w' e v' (xs ++ List.replicate k z) ∧ Below B w w' := by
  obtain ⟨ht, ⟨i, hi, hz, hsize, hby⟩, hzs⟩ := hE
  have hm' : xs.length + k ≤ 9223372036854775807 := by unfold maxLen at hm; omega
  have hkb : k * i.bytes ≤ 281474976710656 := by
    rw [hby]
    have := Nat.mul_le_mul_right bytes (Nat.le_add_left k xs.length)
    omega
  have hzc := zeroCells_one z hz1
  have fresh : ∀ (old : Nat), old < xs.length + k →
      Own B (w.drew.alloc (.cells (xs.toArray ++ Builtin.zeroCells z.cells k ++ Builtin.zeroCells z.cells (grownCap w (xs.length + k) old e - (xs.length + k))) e)) e (.slice (some ⟨w.heap.size, 0, none⟩) (xs.length + k) (grownCap w (xs.length + k) old e)) (xs ++ List.replicate k z) := by
    intro old hold
    have hge := grownCap_ge w (xs.length + k) old e
    have hcm := grownCap_le_maxLen w (xs.length + k) old e hm
    have hl : (xs ++ List.replicate k z).length = xs.length + k := by simp
    unfold Own
    rw [hl]
    refine ⟨by simp, .inr ⟨w.heap.size, _, _, rfl, hB, heap_alloc_new w.drew _, hge, hcm, ?_, ?_⟩⟩
    · simp only [Array.size_append, List.size_toArray, size_zeroCells, hzs]
      omega
    · rw [hzc k]
      simp only [Array.toList_append]
      rw [Nat.mul_one, ← hl]
      exact List.take_left
  rcases Nat.eq_zero_or_pos k with hk0 | hk0
  · subst hk0
    refine ⟨v, w, ?_, by simpa using hown, Below.refl _ _⟩
    rcases hown.2 with ⟨rfl, h0⟩ | ⟨g, cap, cur, rfl, _, _, hnc, _⟩
    · simp [Builtin.append_, run_underlying ht, run_underlying htn, sizeOf, typeInfo, hi, asInt, asIntOf, IntKind.wrap_i64]
    · simp [Builtin.append_, run_underlying ht, run_underlying htn, sizeOf, typeInfo, hi, asInt, asIntOf, IntKind.wrap_i64, hnc, storeCells]
  · rcases hown.2 with ⟨rfl, h0⟩ | ⟨g, cap, cur, rfl, hBg, hgg, hnc, hcm, hcs, htk⟩
    · have hx : xs = [] := List.eq_nil_of_length_eq_zero h0
      subst hx
      have hrun := Lib.run_append_nil_zeros (P := P) w t tn ty e i z kq kn ht htn hi hz k hk0 (by omega) (by simp at hm'; omega) hkb
      have hf := fresh 0 (by simp; omega)
      simp only [List.length_nil, Nat.zero_add, Array.empty_append] at hf
      exact ⟨_, _, hrun, hf, (Below.refl _ _).drew.alloc (by simpa using hB) _⟩
    · rw [Nat.mul_one] at htk
      by_cases hroom : xs.length + k ≤ cap
      · have hrun := run_zeros_room (P := P) (w := w) t tn ty e i z kq kn ht htn hi hz hsize hz1 ho g xs.length cap cur hgg k hk0 hroom (by omega) (by omega) hkb
        refine ⟨_, _, hrun, ?_, ?_⟩
        · unfold Own
          have hl : (xs ++ List.replicate k z).length = xs.length + k := by simp
          rw [hl]
          refine ⟨by simp, .inr ⟨g, cap, _, rfl, hBg, setRow_heap w g cur _ e _ hgg, hroom, hcm, ?_, ?_⟩⟩
          · simp only [List.size_toArray, List.length_append, List.length_take, List.length_drop, Array.length_toList, List.length_replicate]
            omega
          · rw [htk, Nat.mul_one, ← hl]
            exact List.take_left
        · exact (Below.refl B w).grown (row := some g) ⟨rfl, rfl, rfl, by simp, fun k _ hk => setRow_other w g k _ (fun e => hk (by simp [e]))⟩ hB (fun k hk => by injection hk with hk; omega)
      · have holds : (Builtin.firstCells i.size xs.length (.slice (some ⟨g, 0, none⟩) xs.length cap)).run P w.drew = .ok xs.toArray w.drew := by
          have h' : w.ownsRow B e 1 (.slice (some ⟨g, 0, none⟩) xs.length cap) xs.length xs := hown
          have h2 := run_firstCells_some (P := P) w.drew i.size xs.length ⟨g, 0, none⟩ xs.length cap xs (by rw [hsize]; omega) (fun j u hu => h'.cells (g := g) rfl j u hu)
          exact h2
        have hrun := Lib.run_append_grow_zeros (P := P) w t tn ty e i z kq kn ht htn hi hz (some ⟨g, 0, none⟩) xs.length cap xs holds k hk0 (by omega) (by omega) (by omega) hkb (by rw [hby]; exact growslice_fits (by omega) hb)
        exact ⟨_, _, hrun, fresh cap (by omega), (Below.refl _ _).drew.alloc (by simpa using hB) _⟩
theorem wpList_zeros {ops : Array Oper} {rest : List Oper} {o : Oper} {a : Act} {Q : Exit → Act → World → Prop} (hgd : o.guard = none) (s x : Operand) (t tn : TypeId)
    (hop : o.op = .call { callee := .builtin .append, args := #[s, x], argTypes := #[t, tn] }) {e : TypeId} {z : Value} {bytes B k : Nat} {kq kn : IntKind} {v : Value} {xs : List Value} (hE : Elt P t e z bytes) (htn : P.underlying tn = some (.int kn)) (hz1 : z.cells = #[z]) (ho : z.oneCell' = true)
    (hs : a.eval s = v) (hown : Own B w e v xs) (hx : a.eval x = .int kq (k : Int)) (hm : xs.length + k ≤ maxLen) (hb : (xs.length + k) * bytes ≤ 140737488355328) (hB : B ≤ w.heap.size)
    (h : ∀ v' w', Hid (Own B w' e v' (xs ++ List.replicate k z)) → Hid (Below B w w') → wpList P ops Q rest (a.put o.dst v') w') : wpList P ops Q (o :: rest) a w := by
  obtain ⟨v', w', hrun, h2, h3⟩ := run_app_zeros (ty := o.type) (kq := kq) hE htn hz1 ho hown hm hb hB
  exact Lib.wpList_append_run w hgd s x t tn hop _ _ hs hx v' w' hrun (h v' w' h2 h3)
end
end Go.Proofs.YthhcfngnbgckmaaDoor

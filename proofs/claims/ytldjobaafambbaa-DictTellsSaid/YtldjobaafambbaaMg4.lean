/- The texts Uw, Ow, Oz, Ea, Gr, one behind the other. -/
import Derived.Test.YtldjobaafambbaaMg3
import Derived.Test.YtldjobaafambbaaProg
/- Rows of values of 64 bits: as cells, of the call's own, one cell of such, one cell written; numbers of 64 bits that operations give. -/
namespace Go.Proofs.Ytldjobaafambbaa
open Go.RowKit

def cellsU (xs : List Nat) : List Value := xs.map fun (x : Nat) => Value.int .u64 (x : Int)
theorem cellsU_length (xs : List Nat) : (cellsU xs).length = xs.length := by simp [cellsU]
theorem cellsU_snoc (xs : List Nat) (x : Nat) : cellsU (xs ++ [x]) = cellsU xs ++ [.int .u64 (x : Int)] := by simp [cellsU]
theorem cellsU_get (xs : List Nat) (i : Nat) : (cellsU xs)[i]? = xs[i]?.map fun (x : Nat) => Value.int .u64 (x : Int) := by simp [cellsU]
theorem cellsU_app (a b : List Nat) : cellsU a ++ cellsU b = cellsU (a ++ b) := by simp [cellsU]
theorem cellsU_one (bs : List Nat) : ∀ u ∈ cellsU bs, u.oneCell' = true := by
  intro u hu
  simp only [cellsU, List.mem_map] at hu
  obtain ⟨b, _, rfl⟩ := hu
  rfl
theorem cellsU_take (xs : List Nat) (k : Nat) : (cellsU xs).take k = cellsU (xs.take k) := by simp [cellsU, List.map_take]
theorem Rds.at2 {w w' : World} {B n i : Nat} {A : Option Addr} {zs : List Nat} (h : Rds w B A n (cellsU zs)) (hi : i < n) (hB : B ≤ w.heap.size) {S : Nat → Prop} (hm : Mod S w w') (hS : ∀ ad, A = some ad → ¬ S ad.block) :
    ∃ ad x, A = some ad ∧ zs[i]? = some x ∧ w'.cell? (ad.add i) = some (.int .u64 (x : Int)) := by
  obtain ⟨ad, u, e, hb, hu, hc⟩ := h.at_ hi
  rw [cellsU_get] at hu
  obtain ⟨x, hx, rfl⟩ := Option.map_eq_some_iff.1 hu
  refine ⟨ad, x, e, hx, ?_⟩
  rw [hm.cell (a := ad.add i) (by rw [add_block]; omega) (by rw [add_block]; exact hS _ e)]
  exact hc
theorem drop_at' {zs : List Nat} {i : Nat} {x : Nat} (h : zs[i]? = some x) : zs.drop i = x :: zs.drop (i + 1) := by
  rw [List.getElem?_eq_some_iff] at h
  obtain ⟨hi, rfl⟩ := h
  exact List.drop_eq_getElem_cons hi
theorem eltU : Elt Try.prog 24 32 (.int .u64 0) 8 := Elt.mk Try.underlying24 (by kernel_rfl) rfl
theorem own_formU {B : Nat} {w : World} {v : Value} {xs : List Nat} (h : Own B w 32 v (cellsU xs)) : ∃ A c, v = .slice A xs.length c ∧ xs.length ≤ c ∧ Rds w w.heap.size A xs.length (cellsU xs) := by
  obtain ⟨A, c, e, _, hc, _, hr⟩ := h.form
  rw [cellsU_length] at e hr hc
  exact ⟨A, c, e, hc, hr⟩
theorem own_formUN {B : Nat} {w : World} {v : Value} {xs : List Nat} (h : Own B w 32 v (cellsU xs)) : ∃ A L c, v = .slice A L c ∧ Hid (xs.length = L) ∧ L ≤ c ∧ Rds w w.heap.size A L (cellsU xs) := by
  obtain ⟨A, c, e, hc, hr⟩ := own_formU h
  exact ⟨A, xs.length, c, e, Lib.hid rfl, hc, hr⟩
/-- x[k] = b -/
theorem own_setU {B g nb cap k b : Nat} {w : World} {bs : List Nat} (h : Own B w 32 (.slice (some ⟨g, 0, none⟩) nb cap) (cellsU bs)) (hn : nb = bs.length) (hk : k < nb) :
    (∃ u, w.cell? ⟨g, k, none⟩ = some u) ∧ w.frozen? ⟨g, k, none⟩ = false ∧ Own B (w.setCell ⟨g, k, none⟩ (.int .u64 (b : Int))) 32 (.slice (some ⟨g, 0, none⟩) nb cap) (cellsU (bs.set k b)) := by
  have h' : w.ownsRow B 32 1 (.slice (some ⟨g, 0, none⟩) nb cap) nb (cellsU bs) := by
    have := h; unfold Own at this; rwa [cellsU_length, ← hn] at this
  refine ⟨⟨.int .u64 (bs[k]'(by omega)), ?_⟩, h'.frozenAt k, ?_⟩
  · rw [h'.cellAt k (by omega), cellsU_get, List.getElem?_eq_getElem (by omega)]
    rfl
  · have h2 := (h'.stored k (.int .u64 (b : Int))).1
    have e : (cellsU bs).set k (.int .u64 (b : Int)) = cellsU (bs.set k b) := by simp [cellsU, List.map_set]
    rw [e] at h2
    unfold Own
    rw [cellsU_length, List.length_set, ← hn]
    exact h2
/-- A row of which i cells bear b, the rest 0. -/
def part (i m b : Nat) : List Nat := List.replicate i b ++ List.replicate (m - i) 0
theorem part_len {i m b : Nat} (h : i ≤ m) : (part i m b).length = m := by simp [part]; omega
theorem part_set {i m b : Nat} (h : i < m) : (part i m b).set i b = part (i + 1) m b := by
  unfold part
  obtain ⟨j, hj⟩ : ∃ j, m - i = j + 1 := ⟨m - i - 1, by omega⟩
  rw [hj, show m - (i + 1) = j by omega, List.replicate_succ, List.set_append_right _ _ (by simp), List.length_replicate, Nat.sub_self, List.set_cons_zero, List.replicate_succ']
  simp
theorem part_zero (m b : Nat) : part 0 m b = List.replicate m 0 := by simp [part]
theorem part_all (m b : Nat) : part m m b = List.replicate m b := by simp [part]
theorem Own.rds {B : Nat} {w : World} {A : Option Addr} {n c : Nat} {xs : List Nat} (h : Own B w 32 (.slice A n c) (cellsU xs)) (hn : xs.length = n) : Rds w w.heap.size A n (cellsU xs) := by
  obtain ⟨A', c', e, _, hr⟩ := own_formU h
  injection e with e1 e2 e3
  subst e1 e2
  exact hr

theorem wrapU_ex (z : Int) : ∃ y : Nat, IntKind.u64.wrap z = (y : Int) ∧ y < 2 ^ 64 := by
  rw [IntKind.wrap_u64]
  exact ⟨(z % 18446744073709551616).toNat, by omega, by omega⟩
theorem andU_ex (x m : Nat) (hx : x < 2 ^ 64) (hm : m < 2 ^ 64) : ∃ y : Nat, bits .and .u64 (x : Int) (m : Int) = (y : Int) ∧ y ≤ m :=
  ⟨x &&& m, u64_and_nat x m hx hm, Nat.and_le_right⟩
theorem xorU_ex (x m : Nat) (hx : x < 2 ^ 64) (hm : m < 2 ^ 64) : ∃ y : Nat, bits .xor .u64 (x : Int) (m : Int) = (y : Int) ∧ y < 2 ^ 64 :=
  ⟨x ^^^ m, u64_xor_nat x m hx hm, Nat.xor_lt_two_pow hx hm⟩
end Go.Proofs.Ytldjobaafambbaa

/- Rows of bytes of the call's own: an append's result, one cell of such, one cell written. -/
namespace Go.Proofs.Ytldjobaafambbaa
open Go.RowKit

theorem elt8 : Elt Try.prog 27 5 (.int .u8 0) 1 := Elt.mk Try.underlying27 (by kernel_rfl) rfl
/-- x[k] = b -/
theorem own_set {B g nb cap k b : Nat} {w : World} {bs : List Nat} (h : Own B w 5 (.slice (some ⟨g, 0, none⟩) nb cap) (cells8 bs)) (hn : nb = bs.length) (hk : k < nb) :
    (∃ u, w.cell? ⟨g, k, none⟩ = some u) ∧ w.frozen? ⟨g, k, none⟩ = false ∧ Own B (w.setCell ⟨g, k, none⟩ (.int .u8 (b : Int))) 5 (.slice (some ⟨g, 0, none⟩) nb cap) (cells8 (bs.set k b)) := by
  have h' : w.ownsRow B 5 1 (.slice (some ⟨g, 0, none⟩) nb cap) nb (cells8 bs) := by
    have := h; unfold Own at this; rwa [cells8_length, ← hn] at this
  refine ⟨⟨.int .u8 (bs[k]'(by omega)), ?_⟩, h'.frozenAt k, ?_⟩
  · rw [h'.cellAt k (by omega), cells8_get, List.getElem?_eq_getElem (by omega)]
    rfl
  · have h2 := (h'.stored k (.int .u8 (b : Int))).1
    rw [cells8_set] at h2
    unfold Own
    rw [cells8_length, List.length_set, ← hn]
    exact h2

theorem own_at {B g nb cap k : Nat} {w : World} {bs : List Nat} (h : Own B w 5 (.slice (some ⟨g, 0, none⟩) nb cap) (cells8 bs)) (hn : nb = bs.length) (hk : k < nb) :
    ∃ x, bs[k]? = some x ∧ w.cell? ⟨g, k, none⟩ = some (.int .u8 (x : Int)) := by
  have h' : w.ownsRow B 5 1 (.slice (some ⟨g, 0, none⟩) nb cap) nb (cells8 bs) := by
    have := h; unfold Own at this; rwa [cells8_length, ← hn] at this
  refine ⟨bs[k]'(by omega), List.getElem?_eq_getElem (by omega), ?_⟩
  rw [h'.cellAt k (by omega), cells8_get, List.getElem?_eq_getElem (by omega)]
  rfl

theorem own_some {B : Nat} {w : World} {v : Value} {bs : List Nat} {nb : Nat} (h : Own B w 5 v (cells8 bs)) (hn : nb = bs.length) (h0 : 0 < nb) :
    ∃ g cap, v = .slice (some ⟨g, 0, none⟩) nb cap ∧ B ≤ g ∧ g < w.heap.size ∧ nb ≤ cap ∧ cap ≤ maxLen := by
  rcases h.2 with ⟨rfl, h1⟩ | ⟨g, cap, cur, rfl, hb, hg, hnc, hcm, _⟩
  · rw [cells8_length] at h1; omega
  · rw [cells8_length] at hnc ⊢
    subst hn
    exact ⟨g, cap, rfl, hb, (Array.getElem?_eq_some_iff.1 hg).1, hnc, hcm⟩

theorem lt256_app {cs bs : List Nat} (h1 : lt256 cs) (h2 : lt256 bs) : lt256 (cs ++ bs) := fun b hb => by
  rw [List.mem_append] at hb
  rcases hb with hb | hb
  · exact h1 b hb
  · exact h2 b hb
theorem getD_lt {bs : List Nat} (h : lt256 bs) (j : Nat) : bs.getD j 0 < 256 := by
  rw [List.getD_eq_getElem?_getD]
  cases hb : bs[j]? with
  | none => decide
  | some x => exact h x (List.mem_of_getElem? hb)
theorem getD_of {bs : List Nat} {j x : Nat} (h : bs[j]? = some x) : bs.getD j 0 = x := by rw [List.getD_eq_getElem?_getD, h]; rfl
theorem lt256_take {bs : List Nat} (h : lt256 bs) (k : Nat) : lt256 (bs.take k) := fun b hb => h b (List.mem_of_mem_take hb)
theorem cells8_take (bs : List Nat) (k : Nat) : cells8 (bs.take k) = (cells8 bs).take k := by simp [cells8, List.map_take]

end Go.Proofs.Ytldjobaafambbaa

/- Rows of bytes: what their slices look like. -/
namespace Go.Proofs.Ytldjobaafambbaa
open Go.RowKit

theorem own_form8 {B : Nat} {w : World} {v : Value} {xs : List Nat} (h : Own B w 5 v (cells8 xs)) : ∃ A c, v = .slice A xs.length c ∧ xs.length ≤ c ∧ c ≤ maxLen ∧ Rds w w.heap.size A xs.length (cells8 xs) := by
  obtain ⟨A, c, e, _, hc, hm, hr⟩ := h.form
  rw [cells8_length] at e hr hc
  exact ⟨A, c, e, hc, hm, hr⟩
theorem own_formN8 {B : Nat} {w : World} {v : Value} {xs : List Nat} (h : Own B w 5 v (cells8 xs)) : ∃ A L c, v = .slice A L c ∧ Hid (xs.length = L) ∧ L ≤ c ∧ c ≤ maxLen ∧ Rds w w.heap.size A L (cells8 xs) := by
  obtain ⟨A, c, e, hc, hm, hr⟩ := own_form8 h
  exact ⟨A, xs.length, c, e, Lib.hid rfl, hc, hm, hr⟩
theorem u_formN8 {B n : Nat} {w : World} {v : Value} {bs : List Nat} (h : Own B w 5 v (cells8 bs)) (hn : bs.length = n) : ∃ A c, v = .slice A n c ∧ n ≤ c ∧ c ≤ maxLen ∧ (0 < n → ∃ g, A = some ⟨g, 0, none⟩ ∧ B ≤ g ∧ g < w.heap.size) := by
  subst hn
  obtain ⟨A, c, e, _, hc, hm, _⟩ := h.form
  rw [cells8_length] at e hc
  refine ⟨A, c, e, hc, hm, fun h0 => ?_⟩
  obtain ⟨g, cap, e2, hB, hg⟩ := h.form' (by rw [cells8_length]; exact h0)
  rw [e] at e2
  injection e2 with e2
  exact ⟨g, e2, hB, hg⟩
theorem Own.rds8 {B : Nat} {w : World} {A : Option Addr} {n c : Nat} {xs : List Nat} (h : Own B w 5 (.slice A n c) (cells8 xs)) (hn : xs.length = n) : Rds w w.heap.size A n (cells8 xs) := by
  obtain ⟨A', c', e, _, _, hr⟩ := own_form8 h
  injection e with e1 e2 e3
  subst e1 e2
  exact hr
theorem cells8_app (xs ys : List Nat) : cells8 xs ++ cells8 ys = cells8 (xs ++ ys) := by simp [cells8]
/-- A row of bytes, where it lies. -/
theorem Rds.sees {w : World} {A : Option Addr} {n : Nat} {bs : List Nat} (h : Rds w w.heap.size A n (cells8 bs)) (hw : 0 < w.heap.size) : ∃ row, Sees w row A n (cells8 bs) ∧ row < w.heap.size := by
  rcases Nat.eq_zero_or_pos n with h0 | h0
  · subst h0
    exact ⟨0, ⟨h.1, fun h => absurd h (by omega)⟩, hw⟩
  · obtain ⟨x, rfl, hlt, hc⟩ := h.2 h0
    have hl : 0 < (cells8 bs).length := by have := h.1; omega
    have hc0 := hc 0 _ (List.getElem?_eq_getElem hl)
    obtain ⟨b, o, sp⟩ := x
    have hsp : sp = none := by simpa [Addr.add] using World.cell?_spot hc0
    subst hsp
    refine ⟨b, ⟨h.1, fun _ => ⟨o, rfl, hlt, fun j u hu => ?_⟩⟩, hlt⟩
    have := hc j u hu
    rwa [add_addr] at this
/-- Whoever has a row that is not empty has memory. -/
theorem Rds.some_mem {w : World} {B n : Nat} {A : Option Addr} {xs : List Value} (h : Rds w B A n xs) (hB : B ≤ w.heap.size) (hn : 0 < n) : 0 < w.heap.size ∧ A ≠ none := by
  obtain ⟨x, rfl, hlt, _⟩ := h.2 hn
  exact ⟨by omega, by simp⟩
end Go.Proofs.Ytldjobaafambbaa

/- What a function answers that tells a row of values of 64 bits, or nil and false. -/
namespace Go.Proofs.Ytldjobaafambbaa
open Go.RowKit

/-- A row and true, or nil and false. -/
def EncE (w w' : World) (o : Option (List Nat)) (e : Ending) : Prop :=
  match o with
  | some ws => ∃ v, e = .returned (.tuple #[v, .bool true]) ∧ Own w.heap.size w' 32 v (cellsU ws) ∧ Mod (fun _ => False) w w'
  | none => e = .returned (.tuple #[.slice none 0 0, .bool false]) ∧ Mod (fun _ => False) w w'
theorem EncE.some_ {w w' : World} {o : Option (List Nat)} {ws : List Nat} {e : Ending} (h : EncE w w' o e) (ho : o = some ws) : ∃ v, e = .returned (.tuple #[v, .bool true]) ∧ Own w.heap.size w' 32 v (cellsU ws) ∧ Mod (fun _ => False) w w' := by
  rw [ho] at h
  exact h
theorem EncE.none_ {w w' : World} {o : Option (List Nat)} {e : Ending} (h : EncE w w' o e) (ho : o = none) : e = .returned (.tuple #[.slice none 0 0, .bool false]) ∧ Mod (fun _ => False) w w' := by
  rw [ho] at h
  exact h
/-- An answer as a row: none is nil. -/
theorem EncE.any {w w' : World} {o : Option (List Nat)} {e : Ending} (h : EncE w w' o e) : ∃ (A : Option Addr) (c : Nat), e = .returned (.tuple #[.slice A (o.getD []).length c, .bool o.isSome]) ∧ (o.getD []).length ≤ c ∧ Rds w' w'.heap.size A (o.getD []).length (cellsU (o.getD [])) ∧ Mod (fun _ => False) w w' := by
  cases o with
  | none =>
    obtain ⟨rfl, hm⟩ := h.none_ rfl
    exact ⟨none, 0, rfl, Nat.le_refl _, Rds.nil _ _ _, hm⟩
  | some ws =>
    obtain ⟨v, rfl, ho, hm⟩ := h.some_ rfl
    obtain ⟨A, c, rfl, hc, hr⟩ := own_formU ho
    exact ⟨A, c, rfl, hc, hr, hm⟩
/-- A row that both told may be cut. -/
theorem getD_fit {o : Option (List Nat)} {n : Nat} (h : ∀ ws, o = some ws → ws.length ≤ n ∧ ∀ x ∈ ws, x < 2 ^ 64) : (o.getD []).length ≤ n ∧ ∀ x ∈ o.getD [], x < 2 ^ 64 := by
  cases o with
  | none => exact ⟨Nat.zero_le _, fun _ h => by cases h⟩
  | some ws => exact h ws rfl
end Go.Proofs.Ytldjobaafambbaa

/- append of one element, with what else turns: only the row's own block. -/
namespace Go.Proofs.Ytldjobaafambbaa
open Go.RowKit
section
variable {P : Program} {w : World}
theorem wpList_app1g {ops : Array Oper} {rest : List Oper} {o : Oper} {a : Act} {Q : Exit → Act → World → Prop} (hgd : o.guard = none) (s x : Operand) (t : TypeId)
    (ho : o.op = .call { callee := .builtin .append, args := #[s, x], argTypes := #[t, t] }) {e : TypeId} {z : Value} {bytes : Nat} (hE : Elt P t e z bytes)
    {B H : Nat} {v u : Value} {xs : List Value} {te : TypeId} (hs : a.eval s = v) (hown : Own B w e v xs) (hx : a.eval x = .slice (some ⟨H, 0, none⟩) 1 1) (hH : w.heap.size = H) (h1 : u.oneCell' = true)
    (hm : xs.length + 1 ≤ maxLen) (hb : (xs.length + 1) * bytes ≤ 140737488355328) (hB : B ≤ w.heap.size)
    (h : ∀ v' w', Hid (Own B w' e v' (xs ++ [u])) → Hid (Below B w w') → Hid (Mod (fun k => v.ownBlock = some k) w w' ∧ (v'.ownBlock = v.ownBlock ∨ ∃ k, v'.ownBlock = some k ∧ w.heap.size ≤ k)) → wpList P ops Q rest (a.put o.dst v') w') : wpList P ops Q (o :: rest) a (w.alloc (.cells #[u] te)) := by
  subst hH
  refine wpList_app hgd s x t ho hE hs (hown.alloc _) hx (Rds.lit w te #[u]) (by simpa using h1) hm hb (by simp; omega) ?_
  intro v' w' h2 h3 h4
  refine h v' w' h2 (((Below.refl B w).alloc hB _).trans h3) ⟨(((Mod.refl _ w).alloc _).grown h4.out.1 (fun k hk _ => hk)), ?_⟩
  rcases h4.out.2 with h5 | h5
  · exact .inl h5
  · exact .inr ⟨_, h5, by simp⟩
end
/-- Two rows of the call's own that share nothing. -/
def Twain (v u : Value) : Prop := ∀ k, v.ownBlock = some k → u.ownBlock ≠ some k
theorem Twain.symm {v u : Value} (h : Twain v u) : Twain u v := fun k hk e => h k e hk
theorem Twain.step {B : Nat} {w : World} {e : TypeId} {v v' u : Value} {xs : List Value} (h : Twain v u) (ho : Own B w e u xs) (hv : v'.ownBlock = v.ownBlock ∨ ∃ k, v'.ownBlock = some k ∧ w.heap.size ≤ k) : Twain v' u := by
  intro k hk e'
  rcases hv with h1 | ⟨j, h1, h2⟩
  · exact h k (by rw [← h1]; exact hk) e'
  · rw [h1] at hk
    injection hk with hk
    have := (ho.block k e').2
    omega
end Go.Proofs.Ytldjobaafambbaa

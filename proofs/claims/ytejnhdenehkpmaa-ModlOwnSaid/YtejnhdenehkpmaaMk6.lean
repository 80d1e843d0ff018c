/- The texts Pao, Mop, one behind the other. -/
import Derived.Test.YtejnhdenehkpmaaMk1
import Derived.Test.YtejnhdenehkpmaaMk2
import Derived.Deep.SlicePairs
import Derived.ChangeArms
import Derived.ProofKit
import Derived.OpenShut
import Derived.WalkKit
/- A row of ops that came in (structs of whole numbers), as the walks read it. -/
namespace Go.Proofs.Ytejnhdenehkpmaa
open Go.RowKit Go.ChangeShapes Go.WideShapes Go.ChangeAt Go.Deep

section
variable {H : Type} {enc : TypeId × Value → H} {P : Program} {w : World} {base : Nat} {spare : Nat → Bool} {held : Bool}
/-- A struct of whole numbers: each cell is one. -/
theorem ints_struct {e : TypeId} {fs : Array Field} {fuel : Nat} {cs : List Value} {x : DataW H × List MemPlace} (he : P.underlying e = some (.struct fs)) (ks : List IntKind)
    (hf : ∀ (i : Nat) (k : IntKind), ks[i]? = some k → ∃ f : Field, fs[i]? = some f ∧ f.offset = i ∧ P.cellsOf f.type = 1 ∧ P.underlying f.type = some (.int k)) (h : DataW.trod enc P w base spare held fuel e cs = some x) :
    cs.length = P.cellsOf e ∧ ∀ (i : Nat) (k : IntKind), ks[i]? = some k → ∃ n, cs[i]? = some (Value.int k n) ∧ (Lit.int k n).wf = true := by
  obtain ⟨xs, n, _, _, hl, hxl, hx⟩ := DataW.trod_struct he h
  refine ⟨hl, fun i k hk => ?_⟩
  obtain ⟨f, h1, h2, h3, h4⟩ := hf i k hk
  have h5 := hx i f h1
  rw [h2, h3] at h5
  have hi : i < xs.length := by rw [hxl]; exact (Array.getElem?_eq_some_iff.1 h1).1
  rw [List.getElem?_eq_getElem hi] at h5
  obtain ⟨z, e1, _, hw⟩ := DataW.trod_int h4 h5
  refine ⟨z, ?_, hw⟩
  have : ((cs.drop i).take 1)[0]? = some (Value.int k z) := by rw [e1]; rfl
  rw [List.getElem?_take_of_lt (by decide), List.getElem?_drop] at this
  simpa using this
end

def opC (o : OpN) : List Value := [.int .i64 o.kind, .int .i64 o.series, .int .i64 o.iter, .int .i64 o.t, .int .u64 (o.v : Int), .int .i64 o.from_, .int .i64 o.to_, .int .i64 o.n]
def opKs : List IntKind := [.i64, .i64, .i64, .i64, .u64, .i64, .i64, .i64]
theorem opC_all (l : List OpN) : AllK 8 (l.map opC) := by
  intro r hr
  obtain ⟨p, _, rfl⟩ := List.mem_map.1 hr
  rfl
/-- Numbers that fit. -/
def GoodO (o : OpN) : Prop := Fits o.t ∧ o.v < 2 ^ 64 ∧ FitI o.kind ∧ FitI o.series ∧ FitI o.iter ∧ FitI o.from_ ∧ FitI o.to_ ∧ FitI o.n
def IsOps (w : World) (a : Option Addr) (n : Nat) : Prop := ∃ l : List OpN, RdsK 8 w w.heap.size a n (l.map opC) ∧ ∀ o ∈ l, GoodO o
theorem ops_of {H : Type} {enc : TypeId × Value → H} {P : Program} {w : World} {base fuel n c : Nat} {spare : Nat → Bool} {held : Bool} {A : Option Addr} {x : DataW H × List MemPlace} {t e : TypeId} {fs : Array Field}
    (ht : P.underlying t = some (.slice e)) (he : P.underlying e = some (.struct fs)) (ce : P.cellsOf e = 8)
    (hf : ∀ (i : Nat) (k : IntKind), opKs[i]? = some k → ∃ f : Field, fs[i]? = some f ∧ f.offset = i ∧ P.cellsOf f.type = 1 ∧ P.underlying f.type = some (.int k))
    (h : DataW.trod enc P w base spare held fuel t [.slice A n c] = some x) : IsOps w A n := by
  rcases open_slice ht h with ⟨h0, _⟩ | ⟨a, len, cap, m, k, D, Pl, h0, hb, hlc, hcm, hm, hx, hc⟩
  · simp only [List.cons.injEq, Value.slice.injEq, and_true] at h0
    obtain ⟨rfl, rfl, rfl⟩ := h0
    exact ⟨[], RdsK.nil _ _ _ _, fun p hp => by simp at hp⟩
  · simp only [List.cons.injEq, Value.slice.injEq, and_true] at h0
    obtain ⟨rfl, rfl, rfl⟩ := h0
    have hnm : n ≤ m := by rw [hm]; split <;> omega
    have hI : ∀ i, i < n → ∃ o : OpN, (∀ j u, (opC o)[j]? = some u → w.cell? (a.add (i * 8 + j)) = some u) ∧ GoodO o := by
      intro i hi
      obtain ⟨cs, h1, h2⟩ := hc i (by omega)
      rw [ce] at h1
      obtain ⟨_, hl, hcell⟩ := World.cells?_some h1
      obtain ⟨_, hz⟩ := ints_struct he opKs hf h2
      obtain ⟨z0, c0, f0⟩ := hz 0 .i64 rfl
      obtain ⟨z1, c1, f1⟩ := hz 1 .i64 rfl
      obtain ⟨z2, c2, f2⟩ := hz 2 .i64 rfl
      obtain ⟨z3, c3, f3⟩ := hz 3 .i64 rfl
      obtain ⟨z4, c4, f4⟩ := hz 4 .u64 rfl
      obtain ⟨z5, c5, f5⟩ := hz 5 .i64 rfl
      obtain ⟨z6, c6, f6⟩ := hz 6 .i64 rfl
      obtain ⟨z7, c7, f7⟩ := hz 7 .i64 rfl
      have b0 := bounds_i64 f0
      have b1 := bounds_i64 f1
      have b2 := bounds_i64 f2
      have b3 := bounds_i64 f3
      have b4 := bounds_u64 f4
      have b5 := bounds_i64 f5
      have b6 := bounds_i64 f6
      have b7 := bounds_i64 f7
      have hH : (H63 : Int) = 9223372036854775808 := by decide
      have hv : ((z4.toNat : Nat) : Int) = z4 := Int.toNat_of_nonneg (by omega)
      refine ⟨⟨z0, z1, z2, z3, z4.toNat, z5, z6, z7⟩, ?_, ⟨by show -(H63 : Int) ≤ z3; omega, by show z3 < (H63 : Int); omega⟩, by show z4.toNat < 2 ^ 64; omega, ?_, ?_, ?_, ?_, ?_, ?_⟩
      · intro j u hu
        have hj : j < 8 := (List.getElem?_eq_some_iff.1 hu).1
        rw [← add_add, hcell j hj]
        match j, hj with
        | 0, _ => rw [c0]; exact hu
        | 1, _ => rw [c1]; exact hu
        | 2, _ => rw [c2]; exact hu
        | 3, _ => rw [c3]; exact hu
        | 4, _ =>
          rw [c4, ← hv]
          exact hu
        | 5, _ => rw [c5]; exact hu
        | 6, _ => rw [c6]; exact hu
        | 7, _ => rw [c7]; exact hu
      all_goals (unfold FitI; dsimp only; omega)
    have hp : ∃ f : Nat → OpN, ∀ i, i < n → (∀ j u, (opC (f i))[j]? = some u → w.cell? (a.add (i * 8 + j)) = some u) ∧ GoodO (f i) := by
      refine ⟨fun i => if h : i < n then (hI i h).choose else ⟨0, 0, 0, 0, 0, 0, 0, 0⟩, fun i hi => ?_⟩
      simp only [hi, dif_pos]
      exact (hI i hi).choose_spec
    obtain ⟨f, hf2⟩ := hp
    refine ⟨(List.range n).map f, ⟨by simp, opC_all _, ?_⟩, fun o ho => ?_⟩
    · have hfl := flat_len (opC_all ((List.range n).map f))
      rw [List.length_map, List.length_map, List.length_range] at hfl
      refine ⟨hfl, fun h0 => ⟨a, rfl, ?_, fun j u hu => ?_⟩⟩
      · have h1 := (hf2 0 (by omega)).1 0 _ rfl
        have := World.block_lt_of_cell? w _ h1
        rwa [addr_block] at this
      · have hj : j < n * 8 := by
          have := (List.getElem?_eq_some_iff.1 hu).1
          rwa [hfl] at this
        have hi : j / 8 < n := by omega
        have hr : (((List.range n).map f).map opC)[j / 8]? = some (opC (f (j / 8))) := by simp [hi]
        have h3 := flat_get (opC_all ((List.range n).map f)) hr (show j % 8 < 8 by omega)
        rw [show j / 8 * 8 + j % 8 = j by omega] at h3
        rw [h3] at hu
        have := (hf2 (j / 8) hi).1 (j % 8) u hu
        rwa [show j / 8 * 8 + j % 8 = j by omega] at this
    · obtain ⟨i, hi, rfl⟩ := List.mem_map.1 ho
      exact (hf2 i (List.mem_range.1 hi)).2
end Go.Proofs.Ytejnhdenehkpmaa

/- A row of ops that came in, at this seat's types. -/
namespace Go.Proofs.Ytejnhdenehkpmaa
open Go.RowKit Go.ChangeShapes Go.WideShapes Go.ChangeAt Go.Deep

theorem ops_in {H : Type} {enc : TypeId × Value → H} {w : World} {base fuel n c : Nat} {spare : Nat → Bool} {held : Bool} {A : Option Addr} {x : DataW H × List MemPlace}
    (h : DataW.trod enc Try.prog w base spare held fuel 52 [.slice A n c] = some x) : IsOps w A n :=
  ops_of Try.underlying52 Try.underlying24 (by kernel_rfl) (fun i k hk => by
    match i, hk with
    | 0, hk => injection hk with hk; subst hk; exact ⟨_, rfl, rfl, by kernel_rfl, by kernel_rfl⟩
    | 1, hk => injection hk with hk; subst hk; exact ⟨_, rfl, rfl, by kernel_rfl, by kernel_rfl⟩
    | 2, hk => injection hk with hk; subst hk; exact ⟨_, rfl, rfl, by kernel_rfl, by kernel_rfl⟩
    | 3, hk => injection hk with hk; subst hk; exact ⟨_, rfl, rfl, by kernel_rfl, by kernel_rfl⟩
    | 4, hk => injection hk with hk; subst hk; exact ⟨_, rfl, rfl, by kernel_rfl, by kernel_rfl⟩
    | 5, hk => injection hk with hk; subst hk; exact ⟨_, rfl, rfl, by kernel_rfl, by kernel_rfl⟩
    | 6, hk => injection hk with hk; subst hk; exact ⟨_, rfl, rfl, by kernel_rfl, by kernel_rfl⟩
    | 7, hk => injection hk with hk; subst hk; exact ⟨_, rfl, rfl, by kernel_rfl, by kernel_rfl⟩
    | n + 8, hk => cases hk) h
end Go.Proofs.Ytejnhdenehkpmaa

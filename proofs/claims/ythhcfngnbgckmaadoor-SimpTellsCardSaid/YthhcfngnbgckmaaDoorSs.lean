/- What SimpTells has at hand: the answers of both as rows; a made row; rows and numbers in literals. -/
import Derived.Test.YthhcfngnbgckmaaDoorSa
import Derived.Test.YthhcfngnbgckmaaDoorUz
import Derived.Test.YthhcfngnbgckmaaDoorRow2
namespace Go.Proofs.YthhcfngnbgckmaaDoor
open Go.RowKit

theorem below_alloc {B : Nat} {w0 W : World} (h : Below B w0 W) (hB : B ≤ w0.heap.size) (o : Obj) : Below B w0 (W.alloc o) := h.alloc (Nat.le_trans hB h.size) o
theorem own_ne {H H' n cap : Nat} (h : H ≠ H') : (Value.slice (some ⟨H, 0, none⟩) n cap).ownBlock ≠ some H' := by
  simp [Value.ownBlock]
  exact h
theorem own_lit0 {B H : Nat} {X : World} {e : TypeId} (h : X.heap.size = H) (hB : B ≤ H) : Own B (X.alloc (.cells #[] e)) e (.slice (some ⟨H, 0, none⟩) 0 0) [] := by
  subst h
  exact (Own.lit X e #[] (Nat.zero_le _)).mono hB
/-- An answer as a row: none is nil. -/
theorem EncE.any {w w' : World} {o : Option (List Nat)} {e : Ending} (h : EncE w w' o e) : ∃ (A : Option Addr) (c : Nat), e = .returned (.tuple #[.slice A (o.getD []).length c, .bool o.isSome]) ∧ (o.getD []).length ≤ c ∧ Rds w' w'.heap.size A (o.getD []).length (cellsU (o.getD [])) ∧ Mod (fun _ => False) w w' := by
  cases o with
  | none =>
    obtain ⟨rfl, hm⟩ := h.none_ rfl
    exact ⟨none, 0, rfl, Nat.le_refl _, Rds.nil _ _ _, hm⟩
  | some ws =>
    obtain ⟨v, rfl, ho, hm⟩ := h.some_ rfl
    obtain ⟨A, c, rfl, hc, hr⟩ := own_formU ho
    exact ⟨A, c, rfl, hc, hr, hm⟩
theorem mk_run {P : Program} {t e : TypeId} {z : Value} {bytes k : Nat} (hE : Elt P t e z bytes) (hz1 : z.cells = #[z]) (hb : bytes * k ≤ 281474976710656) (hm : k ≤ maxLen) :
    ∀ w : World, (Instr.makeSlice t (.int .i64 (k : Int)) (.int .i64 (k : Int))).run P w = .ok (.slice (some ⟨w.heap.size, 0, none⟩) k k) (w.alloc (.cells (List.replicate k z).toArray e)) := by
  intro w
  obtain ⟨ht, ⟨i, hi, hz, hsize, hby⟩, hzs⟩ := hE
  have h63 : (k : Int) ≤ 9223372036854775807 := by unfold maxLen at hm; omega
  have hbb : (i.bytes : Int) * (k : Int) ≤ 281474976710656 := by
    rw [hby]
    have : ((bytes * k : Nat) : Int) ≤ 281474976710656 := by omega
    rwa [Int.natCast_mul] at this
  have hrun := run_make (P := P) w t e i z ht hi hz .i64 .i64 k k (by omega) (by omega) hbb h63
  rw [Int.toNat_natCast, hsize, Nat.mul_one, madeCells_one z hz1] at hrun
  exact hrun
/-- A made row. -/
theorem own_made (w : World) (e : TypeId) (z : Value) (k : Nat) (hm : k ≤ maxLen) : Own w.heap.size (w.alloc (.cells (List.replicate k z).toArray e)) e (.slice (some ⟨w.heap.size, 0, none⟩) k k) (List.replicate k z) := by
  have h := Own.lit w e (List.replicate k z).toArray (by simpa using hm)
  simpa using h
/-- A row that both told may be cut. -/
theorem getD_fit {o : Option (List Nat)} {n : Nat} (h : ∀ ws, o = some ws → ws.length ≤ n ∧ ∀ x ∈ ws, x < 2 ^ 64) : (o.getD []).length ≤ n ∧ ∀ x ∈ o.getD [], x < 2 ^ 64 := by
  cases o with
  | none => exact ⟨Nat.zero_le _, fun _ h => by cases h⟩
  | some ws => exact h ws rfl

/-- Five rows of words in a literal. -/
def Rows5 (w : World) (lit : Nat) : Prop := lit < w.heap.size ∧ ∀ j, j < 5 → ∃ (A : Option Addr) (n c : Nat) (cs : List Nat), w.cell? ⟨lit, j, none⟩ = some (.slice A n c) ∧ Rds w w.heap.size A n (cellsU cs) ∧ ∀ x ∈ cs, x < 2 ^ 64
theorem Rows5.mod {w w' : World} {lit : Nat} (h : Rows5 w lit) (hm : Mod (fun _ => False) w w') : Rows5 w' lit := by
  refine ⟨Nat.lt_of_lt_of_le h.1 hm.size, fun j hj => ?_⟩
  obtain ⟨A, n, c, cs, h1, h2, h3⟩ := h.2 j hj
  exact ⟨A, n, c, cs, (hm.cell (a := ⟨lit, j, none⟩) h.1 (fun h => h)).trans h1, (h2.new hm).fit, h3⟩
theorem rows5_new {w : World} {e : TypeId} {A0 A1 A2 A3 : Option Addr} {n0 c0 n1 c1 c2 k n3 c3 : Nat} {b0 b1 b2 b3 : List Nat} (h0 : Rds w w.heap.size A0 n0 (cellsU b0)) (t0 : ∀ x ∈ b0, x < 2 ^ 64)
    (h1 : Rds w w.heap.size A1 n1 (cellsU b1)) (t1 : ∀ x ∈ b1, x < 2 ^ 64) (h2 : Rds w w.heap.size A2 n1 (cellsU b2)) (t2 : ∀ x ∈ b2, x < 2 ^ 64) (hk : k ≤ n1)
    (h3 : Rds w w.heap.size A3 n3 (cellsU b3)) (t3 : ∀ x ∈ b3, x < 2 ^ 64) :
    Rows5 (w.alloc (.cells #[.slice A0 n0 c0, .slice A1 n1 c1, .slice A2 n1 c2, .slice A1 k c1, .slice A3 n3 c3] e)) w.heap.size := by
  have hb := Blk.new w e #[.slice A0 n0 c0, .slice A1 n1 c1, .slice A2 n1 c2, .slice A1 k c1, .slice A3 n3 c3]
  have hal : ∀ {A : Option Addr} {n : Nat} {b : List Nat}, Rds w w.heap.size A n (cellsU b) → Rds (w.alloc (.cells #[.slice A0 n0 c0, .slice A1 n1 c1, .slice A2 n1 c2, .slice A1 k c1, .slice A3 n3 c3] e)) (w.alloc (.cells #[.slice A0 n0 c0, .slice A1 n1 c1, .slice A2 n1 c2, .slice A1 k c1, .slice A3 n3 c3] e)).heap.size A n (cellsU b) := fun h => (h.alloc (Nat.le_refl _) _).fit
  refine ⟨hb.lt, fun j hj => ?_⟩
  have hj' : j = 0 ∨ j = 1 ∨ j = 2 ∨ j = 3 ∨ j = 4 := by omega
  rcases hj' with rfl | rfl | rfl | rfl | rfl
  · exact ⟨A0, n0, c0, b0, hb.cell 0, hal h0, t0⟩
  · exact ⟨A1, n1, c1, b1, hb.cell 1, hal h1, t1⟩
  · exact ⟨A2, n1, c2, b2, hb.cell 2, hal h2, t2⟩
  · exact ⟨A1, k, c1, b1.take k, hb.cell 3, hal (by rw [← cellsU_take]; exact h1.take hk), fun x hx => t1 x (List.mem_of_mem_take hx)⟩
  · exact ⟨A3, n3, c3, b3, hb.cell 4, hal h3, t3⟩
/-- Four numbers in a literal. -/
def Nums4 (w : World) (lit : Nat) : Prop := lit < w.heap.size ∧ ∀ j, j < 4 → ∃ m : Int, FitI m ∧ w.cell? ⟨lit, j, none⟩ = some (.int .i64 m)
theorem Nums4.mod {w w' : World} {lit : Nat} (h : Nums4 w lit) (hm : Mod (fun _ => False) w w') : Nums4 w' lit := by
  refine ⟨Nat.lt_of_lt_of_le h.1 hm.size, fun j hj => ?_⟩
  obtain ⟨m, h1, h2⟩ := h.2 j hj
  exact ⟨m, h1, (hm.cell (a := ⟨lit, j, none⟩) h.1 (fun h => h)).trans h2⟩
theorem nums4_new {w : World} {e : TypeId} {m0 m1 m2 m3 : Int} (h0 : FitI m0) (h1 : FitI m1) (h2 : FitI m2) (h3 : FitI m3) : Nums4 (w.alloc (.cells #[.int .i64 m0, .int .i64 m1, .int .i64 m2, .int .i64 m3] e)) w.heap.size := by
  have hb := Blk.new w e #[.int .i64 m0, .int .i64 m1, .int .i64 m2, .int .i64 m3]
  refine ⟨hb.lt, fun j hj => ?_⟩
  have hj' : j = 0 ∨ j = 1 ∨ j = 2 ∨ j = 3 := by omega
  rcases hj' with rfl | rfl | rfl | rfl
  · exact ⟨m0, h0, hb.cell 0⟩
  · exact ⟨m1, h1, hb.cell 1⟩
  · exact ⟨m2, h2, hb.cell 2⟩
  · exact ⟨m3, h3, hb.cell 3⟩
/-- A row of the call's own of numbers of 64 bits, no longer than n. -/
def OwnN (B : Nat) (w : World) (v : Value) (n : Nat) : Prop := ∃ ts : List Nat, Own B w 23 v (cellsU ts) ∧ ts.length ≤ n ∧ ∀ x ∈ ts, x < 2 ^ 64
theorem OwnN.form {B n : Nat} {w : World} {v : Value} (h : OwnN B w v n) : ∃ (A : Option Addr) (l c : Nat) (ts : List Nat), v = .slice A l c ∧ l ≤ c ∧ ts.length = l ∧ l ≤ n ∧ Own B w 23 (.slice A l c) (cellsU ts) ∧ ∀ x ∈ ts, x < 2 ^ 64 := by
  obtain ⟨ts, ho, hl, hx⟩ := h
  obtain ⟨A, c, rfl, hc, _⟩ := own_formU ho
  exact ⟨A, ts.length, c, ts, rfl, hc, rfl, hl, ho, hx⟩
theorem u_formU {B : Nat} {w : World} {v : Value} {bs : List Nat} (h : Own B w 23 v (cellsU bs)) : ∃ A c, v = .slice A bs.length c ∧ (A = none → c = 0) ∧ bs.length ≤ c ∧ (0 < bs.length → ∃ g, A = some ⟨g, 0, none⟩ ∧ B ≤ g ∧ g < w.heap.size) := by
  obtain ⟨A, c, e, hA, hc, _, _⟩ := h.form
  rw [cellsU_length] at e hc
  refine ⟨A, c, e, hA, hc, fun h0 => ?_⟩
  obtain ⟨g, cap, e2, hB, hg⟩ := h.form' (by rw [cellsU_length]; exact h0)
  rw [e] at e2
  injection e2 with e2
  exact ⟨g, e2, hB, hg⟩
theorem u_formN {B n : Nat} {w : World} {v : Value} {bs : List Nat} (h : Own B w 23 v (cellsU bs)) (hn : bs.length = n) : ∃ A c, v = .slice A n c ∧ (A = none → c = 0) ∧ n ≤ c ∧ (0 < n → ∃ g, A = some ⟨g, 0, none⟩ ∧ B ≤ g ∧ g < w.heap.size) := by
  subst hn
  exact u_formU h
end Go.Proofs.YthhcfngnbgckmaaDoor

/- Rows, literals of rows, two writers: what statements that tell and read have at hand. -/
import Derived.Test.YtdlkjfnifjlbhaaDoorGo
import Derived.Test.YtdlkjfnifjlbhaaDoorGw
import Derived.Test.YtdlkjfnifjlbhaaDoorOw
namespace Go.Proofs.YtdlkjfnifjlbhaaDoor
open Go.RowKit

theorem Rds.mod {w w' : World} {B n : Nat} {A : Option Addr} {xs : List Value} {S : Nat → Prop} (h : Rds w B A n xs) (hm : Mod S w w') (hB : B ≤ w.heap.size) (hS : ∀ j, j < B → ¬ S j) : Rds w' B A n xs :=
  h.keep fun _ hp => hm.cell (Nat.lt_of_lt_of_le hp hB) (hS _ hp)
theorem Rds.new {w w' : World} {B n : Nat} {A : Option Addr} {xs : List Value} (h : Rds w B A n xs) (hm : Mod (fun _ => False) w w') : Rds w' w.heap.size A n xs :=
  h.fit.mod hm (Nat.le_refl _) (fun _ _ h => h)
/-- A row of the call's own that is not empty: where it lies; its cells. -/
theorem Own.form' {B : Nat} {w : World} {e : TypeId} {v : Value} {xs : List Value} (h : Own B w e v xs) (hn : 0 < xs.length) : ∃ g cap, v = .slice (some ⟨g, 0, none⟩) xs.length cap ∧ B ≤ g ∧ g < w.heap.size := World.ownsRow.form h hn
theorem Own.cell' {B g cap n : Nat} {w : World} {e : TypeId} {v : Value} {xs : List Value} (h : Own B w e v xs) (hv : v = .slice (some ⟨g, 0, none⟩) n cap) (j : Nat) (hj : j < xs.length) : w.cell? ⟨g, j, none⟩ = xs[j]? := by
  subst hv
  rcases h.2 with ⟨h1, _⟩ | ⟨g', cap', cur, h1, _⟩
  · cases h1
  · injection h1 with h1 h2 h3
    subst h2
    exact World.ownsRow.cellAt h j (by omega)
theorem Wr.packed {w : World} {g N L : Nat} {row : Option Nat} (h : Wr w g row N L) : ∃ bs, Packed bs N L := by
  obtain ⟨free, hf, v, bs, _, _, _, hlt, hl, hv, _⟩ := h
  exact ⟨bs, hlt, free, hf, hl, hv⟩
theorem u_form {B : Nat} {w : World} {v : Value} {bs : List Nat} (h : Own B w 5 v (cells8 bs)) : ∃ A c, v = .slice A bs.length c ∧ (A = none → c = 0) ∧ bs.length ≤ c ∧ (0 < bs.length → ∃ g, A = some ⟨g, 0, none⟩ ∧ B ≤ g ∧ g < w.heap.size) := by
  obtain ⟨A, c, e, hA, hc, _, _⟩ := h.form
  rw [cells8_length] at e hc
  refine ⟨A, c, e, hA, hc, fun h0 => ?_⟩
  obtain ⟨g, cap, e2, hB, hg⟩ := h.form' (by rw [cells8_length]; exact h0)
  rw [e] at e2
  injection e2 with e2
  exact ⟨g, e2, hB, hg⟩
/-- The two writers at the same bits. -/
structure Both (w0 w : World) (a : Nat) (ra : Option Nat) (b : Nat) (rb : Option Nat) (N L : Nat) : Prop where
  wa : Wr w a ra N L
  wb : RWr w b rb N L
  mod : Mod (fun _ => False) w0 w
theorem Both.new {w0 w w' : World} {a b N L : Nat} {ra rb : Option Nat} (h : Both w0 w a ra b rb N L) (hm : Mod (fun _ => False) w w') : Both w0 w' a ra b rb N L :=
  ⟨h.wa.mod hm (fun h => h) (fun _ _ h => h), h.wb.mod hm (fun h => h) (fun _ _ h => h), h.mod.trans hm (fun _ _ h => h)⟩
theorem RWr.len {w : World} {g N L : Nat} {row : Option Nat} (h : RWr w g row N L) : ∃ Ax cx, w.cell? ⟨g, 0, none⟩ = some (.slice Ax L cx) := by
  obtain ⟨sv, l, hblk, hown, _, _, hL, _⟩ := h
  have hc0 := hblk.cell 0
  simp at hc0
  rcases hown.2 with ⟨h1, h2⟩ | ⟨g', cap, cur, h1, _⟩
  · exact ⟨none, 0, by rw [hc0, h1, ← hL, h2]⟩
  · exact ⟨_, cap, by rw [hc0, h1, hL]⟩
theorem Sees.take {w : World} {row n k : Nat} {A : Option Addr} {bs : List Nat} (h : Sees w row A n (cells8 bs)) (hk : k ≤ n) : Sees w row A k (cells8 (bs.take k)) := by
  have hl := h.1
  rw [cells8_length] at hl
  refine ⟨by rw [cells8_length, List.length_take]; omega, fun h0 => ?_⟩
  obtain ⟨o, e, hlt, hc⟩ := h.2 (by omega)
  refine ⟨o, e, hlt, fun j u hu => hc j u ?_⟩
  rw [cells8_take, List.getElem?_take] at hu
  split at hu
  · exact hu
  · cases hu
/-- Four rows of bytes in a literal. -/
def Rows4 (w : World) (lit : Nat) : Prop := lit < w.heap.size ∧ ∀ j, j < 4 → ∃ (A : Option Addr) (n c row : Nat) (cs : List Nat), w.cell? ⟨lit, j, none⟩ = some (.slice A n c) ∧ Sees w row A n (cells8 cs) ∧ (A = none → c = 0) ∧ n ≤ 1000 ∧ lt256 cs
theorem Rows4.mod {w w' : World} {lit : Nat} (h : Rows4 w lit) (hm : Mod (fun _ => False) w w') : Rows4 w' lit := by
  refine ⟨Nat.lt_of_lt_of_le h.1 hm.size, fun j hj => ?_⟩
  obtain ⟨A, n, c, row, cs, h1, h2, h3⟩ := h.2 j hj
  exact ⟨A, n, c, row, cs, (hm.cell (a := ⟨lit, j, none⟩) h.1 (fun h => h)).trans h1, h2.mod hm (fun _ h => h), h3⟩
/-- Four numbers in a literal. -/
def Nums4 (w : World) (lit : Nat) : Prop := lit < w.heap.size ∧ ∀ j, j < 4 → ∃ m : Int, FitI m ∧ w.cell? ⟨lit, j, none⟩ = some (.int .i64 m)
theorem Nums4.mod {w w' : World} {lit : Nat} (h : Nums4 w lit) (hm : Mod (fun _ => False) w w') : Nums4 w' lit := by
  refine ⟨Nat.lt_of_lt_of_le h.1 hm.size, fun j hj => ?_⟩
  obtain ⟨m, h1, h2⟩ := h.2 j hj
  exact ⟨m, h1, (hm.cell (a := ⟨lit, j, none⟩) h.1 (fun h => h)).trans h2⟩
theorem rows4_new {w : World} {e : TypeId} {A0 A1 A2 : Option Addr} {n0 c0 r0 n1 c1 r1 c2 r2 k : Nat} {b0 b1 b2 : List Nat} (h0 : Sees w r0 A0 n0 (cells8 b0)) (a0 : A0 = none → c0 = 0) (l0 : n0 ≤ 1000) (t0 : lt256 b0)
    (h1 : Sees w r1 A1 n1 (cells8 b1)) (a1 : A1 = none → c1 = 0) (l1 : n1 ≤ 1000) (t1 : lt256 b1) (h2 : Sees w r2 A2 n1 (cells8 b2)) (a2 : A2 = none → c2 = 0) (t2 : lt256 b2) (hk : k ≤ n1) :
    Rows4 (w.alloc (.cells #[.slice A0 n0 c0, .slice A1 n1 c1, .slice A2 n1 c2, .slice A1 k c1] e)) w.heap.size := by
  have hm : Mod (fun _ => False) w (w.alloc (.cells #[.slice A0 n0 c0, .slice A1 n1 c1, .slice A2 n1 c2, .slice A1 k c1] e)) := (Mod.refl _ _).alloc _
  have hb := Blk.new w e #[.slice A0 n0 c0, .slice A1 n1 c1, .slice A2 n1 c2, .slice A1 k c1]
  refine ⟨hb.lt, fun j hj => ?_⟩
  have hj' : j = 0 ∨ j = 1 ∨ j = 2 ∨ j = 3 := by omega
  rcases hj' with rfl | rfl | rfl | rfl
  · exact ⟨A0, n0, c0, r0, b0, hb.cell 0, h0.mod hm (fun _ h => h), a0, l0, t0⟩
  · exact ⟨A1, n1, c1, r1, b1, hb.cell 1, h1.mod hm (fun _ h => h), a1, l1, t1⟩
  · exact ⟨A2, n1, c2, r2, b2, hb.cell 2, h2.mod hm (fun _ h => h), a2, l1, t2⟩
  · exact ⟨A1, k, c1, r1, b1.take k, hb.cell 3, (h1.take hk).mod hm (fun _ h => h), a1, by omega, lt256_take t1 k⟩
theorem nums4_new {w : World} {e : TypeId} {m0 m1 m2 m3 : Int} (h0 : FitI m0) (h1 : FitI m1) (h2 : FitI m2) (h3 : FitI m3) : Nums4 (w.alloc (.cells #[.int .i64 m0, .int .i64 m1, .int .i64 m2, .int .i64 m3] e)) w.heap.size := by
  have hb := Blk.new w e #[.int .i64 m0, .int .i64 m1, .int .i64 m2, .int .i64 m3]
  refine ⟨hb.lt, fun j hj => ?_⟩
  have hj' : j = 0 ∨ j = 1 ∨ j = 2 ∨ j = 3 := by omega
  rcases hj' with rfl | rfl | rfl | rfl
  · exact ⟨m0, h0, hb.cell 0⟩
  · exact ⟨m1, h1, hb.cell 1⟩
  · exact ⟨m2, h2, hb.cell 2⟩
  · exact ⟨m3, h3, hb.cell 3⟩
theorem sees_own {B : Nat} {w : World} {A : Option Addr} {n c : Nat} {bs : List Nat} (h : Own B w 5 (.slice A n c) (cells8 bs)) (hn : bs.length = n) : ∃ row, Sees w row A n (cells8 bs) := by
  have h' : w.ownsRow B 5 1 (.slice A n c) n (cells8 bs) := by
    have := h; unfold Own at this; rwa [cells8_length, hn] at this
  rcases Nat.eq_zero_or_pos n with h0 | h0
  · subst h0
    exact ⟨0, by rw [cells8_length]; exact hn, fun h => by omega⟩
  · obtain ⟨g, cap, e, _, _⟩ := h.form' (by rw [cells8_length]; omega)
    injection e with e1 e2 e3
    subst e1
    exact ⟨g, Sees.of_own h' (fun _ => rfl)⟩
end Go.Proofs.YtdlkjfnifjlbhaaDoor

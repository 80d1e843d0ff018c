/- The store's calls by equations: what each comes to is named. -/
import Derived.Test.YtnfpbjioiiedeaaHd
import Derived.Test.YtnfpbjioiiedeaaBld
import Derived.Test.YtnfpbjioiiedeaaBle
import Derived.Test.YtnfpbjioiiedeaaBlf
import Derived.Test.YtnfpbjioiiedeaaBlg
namespace Go.Proofs.Ytnfpbjioiiedeaa
open Go.RowKit

section
variable {B : Nat → Prop} {g b N : Nat} {w : World} {s s' : BloN} {k n : Int} {ok : Bool}
theorem call_badd {A : Option Addr} {n c : Nat} {bs : List Nat} {o : Option Nat} {v : Int} (e : addB s bs = (s', o)) (hv : ((o.getD 0 : Nat) : Int) = v) (ho : o.isSome = ok) (h : BloV B g b N w s) (hs : ∀ w2, Mod (fun j => j = g ∨ j = b) w w2 → Rds w2 w2.heap.size A n (cells8 bs)) (hN : N < 1000000) (hB : ∀ k, w.heap.size ≤ k → B k) :
    Calls Try.prog 8 #[.pointer (some ⟨g, 0, none⟩), .slice A n c] w fun e w' => e = .returned (.tuple #[.int .i64 v, .bool ok]) ∧ BloV B g b (N + 1) w' s' ∧ Mod (fun j => j = g ∨ j = b) w w' := by
  refine (blAdd_any A n c bs w h hs hN hB).mono ?_
  rw [e]
  rw [← hv, ← ho]
  exact fun _ _ h => h
theorem call_bhold (e : holdB s k = (s', ok)) (h : BloV B g b N w s) (hk : FitI k) (hN : N < 1000000) :
    Calls Try.prog 9 #[.pointer (some ⟨g, 0, none⟩), .int .i64 k] w fun e w' => e = .returned (.bool ok) ∧ BloV B g b (N + 1) w' s' ∧ Mod (fun j => j = g ∨ j = b) w w' := by
  refine (blHold_any k w h hk hN).mono ?_
  rw [e]
  exact fun _ _ h => h
theorem call_bleave (e : leaveB s k = (s', ok)) (h : BloV B g b N w s) (hk : FitI k) (hN : N < 1000000) :
    Calls Try.prog 13 #[.pointer (some ⟨g, 0, none⟩), .int .i64 k] w fun e w' => e = .returned (.bool ok) ∧ BloV B g b (N + 1) w' s' ∧ Mod (fun j => j = g ∨ j = b) w w' := by
  refine (blLeave_any k w h hk hN).mono ?_
  rw [e]
  exact fun _ _ h => h
theorem call_bcharge (e : chargeB s n = (s', ok)) (h : BloV B g b N w s) (hn : FitI n) :
    Calls Try.prog 14 #[.pointer (some ⟨g, 0, none⟩), .int .i64 n] w fun e w' => e = .returned (.bool ok) ∧ BloV B g b N w' s' ∧ Mod (fun j => j = g ∨ j = b) w w' := by
  refine (blCharge_any n w h hn).mono ?_
  rw [e]
  exact fun _ _ h => ⟨h.1, h.2.1, h.2.2.mono (fun _ _ h => .inl h)⟩
theorem call_bget {o : Option RowB} {bs : List Nat} {L : Nat} (e : atB s k = o) (eb : (o.map (·.bs)).getD [] = bs) (hL : bs.length = L) (ho : o.isSome = ok) (h : BloV B g b N w s) (hk : FitI k) :
    Calls Try.prog 11 #[.pointer (some ⟨g, 0, none⟩), .int .i64 k] w fun e w' => ∃ A c, e = .returned (.tuple #[.slice A L c, .bool ok]) ∧ L ≤ c ∧ c ≤ maxLen ∧ Own w.heap.size w' 5 (.slice A L c) (cells8 bs) ∧ BloV B g b N w' s ∧ Mod (fun _ => False) w w' := by
  refine (blGet_any k w h hk).mono ?_
  rintro e1 w' ⟨v, rfl, h1, h2⟩
  have e3 : bytesB s k = bs := by unfold bytesB; rw [e]; exact eb
  rw [e3] at h1
  obtain ⟨A, L', c, rfl, h3, h4, h5, _⟩ := own_formN8 h1
  have h6 := h3.out
  obtain rfl : L' = L := by omega
  rw [e, ho]
  exact ⟨A, c, rfl, h4, h5, h1, h.new h2, h2⟩
theorem call_bused {u : Int} (e : usedB s = u) (h : BloV B g b N w s) :
    Calls Try.prog 12 #[.pointer (some ⟨g, 0, none⟩)] w fun e w' => e = .returned (.int .i64 u) ∧ BloV B g b N w' s ∧ Mod (fun _ => False) w w' := by
  refine (blUsed_any w h).mono ?_
  rw [e]
  exact fun _ _ h' => ⟨h'.1, h.new h'.2, h'.2⟩
theorem call_bholds {u : Int} (e : (holdsB s k : Int) = u) (h : BloV B g b N w s) (hk : FitI k) :
    Calls Try.prog 10 #[.pointer (some ⟨g, 0, none⟩), .int .i64 k] w fun e w' => e = .returned (.int .i64 u) ∧ BloV B g b N w' s ∧ Mod (fun _ => False) w w' := by
  refine (blHolds_any k w h hk).mono ?_
  rw [e]
  exact fun _ _ h' => ⟨h'.1, h.new h'.2, h'.2⟩
end
theorem fit_small {k : Int} (h0 : -1000000 ≤ k) (h1 : k ≤ 1000000) : FitI k := ⟨by omega, by omega⟩
/-- Bytes in a block of their own. -/
theorem rds_blk {w : World} {H : Nat} {t : TypeId} {cs : Array Value} {bs : List Nat} {n : Nat} (hb : Blk w H t cs) (e : cs = (cells8 bs).toArray) (hn : bs.length = n) : Rds w w.heap.size (some ⟨H, 0, none⟩) n (cells8 bs) := by
  subst e hn
  refine ⟨cells8_length bs, fun _ => ⟨_, rfl, hb.lt, fun j u hu => ?_⟩⟩
  rw [add_addr, Nat.zero_add, hb.cell j]
  simpa using hu
theorem read_blk {w : World} {g b H : Nat} {t : TypeId} {cs : Array Value} {bs : List Nat} {n : Nat} (hb : Blk w H t cs) (hg : H ≠ g) (hb2 : H ≠ b) (e : cs = (cells8 bs).toArray) (hn : bs.length = n) : ∀ w2, Mod (fun j => j = g ∨ j = b) w w2 → Rds w2 w2.heap.size (some ⟨H, 0, none⟩) n (cells8 bs) :=
  fun _ hm => rds_blk (hm.blk hb (fun e => e.elim hg hb2)) e hn
/-- The same by its cells. -/
theorem read_at {w : World} {g b H : Nat} {bs : List Nat} {n : Nat} (hlt : H < w.heap.size) (hc : ∀ j u, (cells8 bs)[j]? = some u → w.cell? ⟨H, j, none⟩ = some u) (hg : H ≠ g) (hb : H ≠ b) (hn : bs.length = n) : ∀ w2, Mod (fun j => j = g ∨ j = b) w w2 → Rds w2 w2.heap.size (some ⟨H, 0, none⟩) n (cells8 bs) := by
  intro w2 hm
  refine ⟨by rw [cells8_length]; exact hn, fun _ => ⟨_, rfl, Nat.lt_of_lt_of_le hlt hm.size, fun j u hu => ?_⟩⟩
  rw [add_addr, Nat.zero_add]
  exact (hm.cell (a := ⟨H, j, none⟩) hlt (fun e => e.elim hg hb)).trans (hc j u hu)
/-- A literal string's bytes, converted. -/
theorem conv_blit (w : World) (C : Array Value) (n c : Nat) : (convert 22 22 (.slice (some ⟨w.heap.size, 0, none⟩) n c)).run Try.prog (w.alloc (.cells C 5)) = .ok (.slice (some ⟨w.heap.size, 0, none⟩) n c) (w.alloc (.cells C 5 (C.size, C.size + 1))) :=
  Lib.run_convert_bytes_const (P := Try.prog) w 22 5 C n c Try.underlying22 Try.underlying5
theorem marked (w : World) (bs : List Nat) (t : TypeId) (C : Array Value) (fr : Nat × Nat) (e : C = (cells8 bs).toArray) : ∃ W, W = w.alloc (.cells C t fr) ∧ Mod (fun _ => False) w W ∧ w.heap.size < W.heap.size ∧ ∀ j u, (cells8 bs)[j]? = some u → W.cell? ⟨w.heap.size, j, none⟩ = some u := by
  subst e
  refine ⟨_, rfl, (Mod.refl _ _).alloc _, by simp, fun j u hu => ?_⟩
  refine (World.cell?_alloc_mark w _ t fr j).trans ?_
  simpa using hu
theorem bare_five : newB 5 = bareB 5 0 0 := by decide
end Go.Proofs.Ytnfpbjioiiedeaa

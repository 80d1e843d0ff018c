/- The store of chunks in memory: its five cells, its map, the bytes that lie in it. -/
import Derived.Test.YtnfpbjioiiedeaaHd
import Derived.Test.YtnfpbjioiiedeaaMkg
import Derived.Test.YtnfpbjioiiedeaaYbb
import Derived.Test.YtnfpbjioiiedeaaOz
namespace Go.Proofs.Ytnfpbjioiiedeaa
open Go.RowKit Go.Maps

theorem mapBl : Try.prog.underlying 36 = some (.map 3 41) := Try.underlying36
theorem zero_kept (w : World) : (zeroValue 41).run Try.prog w = .ok (.agg #[.slice none 0 0, .int .i64 0]) w := by kernel_rfl
/-- A chunk that is kept: its bytes, and how often it is held. -/
def KeptR (B : Nat → Prop) (w : World) (v : Value) (r : RowB) : Prop := ∃ vb, v = .agg #[vb, .int .i64 (r.n : Int)] ∧ SliB B w vb r.bs
theorem KeptR.mod {w w' : World} {B : Nat → Prop} {v : Value} {r : RowB} {S : Nat → Prop} (h : KeptR B w v r) (hm : Mod S w w') (hS : ∀ k cs, B k → Blk w k 5 cs → ¬ S k) : KeptR B w' v r := by
  obtain ⟨vb, e, h1⟩ := h
  exact ⟨vb, e, h1.mod hm hS⟩
theorem one_cell (w : World) (g i : Nat) (u : Value) : Mod (fun k => k = g) w (w.setCell ⟨g, i, none⟩ u) := (Mod.refl (fun k => k = g) w).setCell (p := ⟨g, i, none⟩) (fun _ => rfl) u
theorem new_box (w : World) (t : TypeId) (cs : Array Value) : ∃ W, W = w.alloc (.cells cs t) ∧ Mod (fun _ => False) w W ∧ Blk W w.heap.size t cs ∧ W.heap.size = w.heap.size + 1 := ⟨_, rfl, (Mod.refl _ _).alloc _, Blk.new _ _ _, by simp⟩
theorem row_len {rows : List RowB} {r : RowB} (h : r ∈ rows) : r.bs.length ≤ lenB rows := by
  induction rows with
  | nil => cases h
  | cons x rows ih =>
    rw [len_cons]
    rcases List.mem_cons.1 h with rfl | h
    · omega
    · have := ih h; omega
/-- Its five cells. -/
def bloC (s : BloN) (b : Nat) : Array Value := #[.int .i64 s.budget, .int .i64 (s.next : Int), .int .i64 (lenB s.rows : Int), .int .i64 s.charged, .map (some b)]
/-- A store at block g, its map at block b: bytes in blocks that B says may be; N bounds what was given and how often each is held. -/
structure BloV (B : Nat → Prop) (g b N : Nat) (w : World) (s : BloN) : Prop where
  good : GoodB s
  box : Blk w g 38 (bloC s b)
  map_ : ∃ c, MapG (KeptR B) w b N (atB s) c
  next : s.next ≤ N
  held : ∀ r ∈ s.rows, r.n ≤ N + 1
section
variable {w w' : World} {B B' : Nat → Prop} {g b N : Nat} {s : BloN}
theorem BloV.ne (h : BloV B g b N w s) : g ≠ b := fun e => by
  obtain ⟨c, h1⟩ := h.map_
  subst e
  exact h1.not_cells h.box
theorem BloV.lt (h : BloV B g b N w s) : g < w.heap.size ∧ b < w.heap.size := by
  obtain ⟨c, h1⟩ := h.map_
  exact ⟨h.box.lt, h1.lt⟩
theorem BloV.modS {S : Nat → Prop} (h : BloV B g b N w s) (hm : Mod S w w') (hg : ¬ S g) (hb : ¬ S b) (hs : ∀ j cs, B j → Blk w j 5 cs → ¬ S j) : BloV B g b N w' s := by
  obtain ⟨h1, h2, ⟨c, h3⟩, h4, h5⟩ := h
  exact ⟨h1, hm.blk h2 hg, ⟨c, h3.mod hm hb (fun v x hv => hv.mod hm hs)⟩, h4, h5⟩
theorem BloV.new (h : BloV B g b N w s) (hm : Mod (fun _ => False) w w') : BloV B g b N w' s := h.modS hm id id (fun _ _ _ _ h => h)
theorem BloV.more {N' : Nat} (h : BloV B g b N w s) (hN : N ≤ N') : BloV B g b N' w s := by
  obtain ⟨h1, h2, ⟨c, h3⟩, h4, h5⟩ := h
  exact ⟨h1, h2, ⟨c, h3.more hN⟩, by omega, fun r hr => by have := h5 r hr; omega⟩
theorem BloV.mono (h : BloV B g b N w s) (hB : ∀ k, B k → B' k) : BloV B' g b N w s := by
  obtain ⟨h1, h2, ⟨c, h3⟩, h4, h5⟩ := h
  exact ⟨h1, h2, ⟨c, h3.mono (fun v x hv => by obtain ⟨vb, e, h6⟩ := hv; exact ⟨vb, e, h6.mono hB⟩)⟩, h4, h5⟩
/-- Its bytes lie in blocks that there are. -/
theorem BloV.tight (h : BloV B g b N w s) : BloV (fun k => B k ∧ k < w.heap.size) g b N w s := by
  obtain ⟨h1, h2, ⟨c, h3⟩, h4, h5⟩ := h
  exact ⟨h1, h2, ⟨c, h3.mono (fun v x hv => by obtain ⟨vb, e, h6⟩ := hv; exact ⟨vb, e, h6.tight⟩)⟩, h4, h5⟩
/-- How great its numbers are. -/
theorem BloV.sizes (h : BloV B g b N w s) : (0 ≤ s.budget ∧ s.budget ≤ 1073741824) ∧ (0 ≤ s.charged ∧ s.charged + (lenB s.rows : Int) ≤ s.budget) := by
  have h1 := h.good.used
  unfold usedB at h1
  exact ⟨h.good.budget, h.good.charged, h1⟩
end
theorem Blk.set5 {w : World} {g : Nat} {t : TypeId} {c0 c1 c2 c3 c4 : Value} (h : Blk w g t #[c0, c1, c2, c3, c4]) (u v x : Value) :
    Blk ((w.setCell ⟨g, 1, none⟩ u).setCell ⟨g, 2, none⟩ v) g t #[c0, u, v, c3, c4] ∧ Blk (w.setCell ⟨g, 3, none⟩ x) g t #[c0, c1, c2, x, c4] ∧ Blk (w.setCell ⟨g, 2, none⟩ v) g t #[c0, c1, v, c3, c4] := by
  have h1 := (h.set_ 1 u).set_ 2 v
  have h2 := h.set_ 3 x
  have h3 := h.set_ 2 v
  exact ⟨by simpa using h1, by simpa using h2, by simpa using h3⟩
theorem Mod.two_set (w : World) (g i j : Nat) (u v : Value) : Mod (fun k => k = g) w ((w.setCell ⟨g, i, none⟩ u).setCell ⟨g, j, none⟩ v) := ((Mod.refl (fun k => k = g) w).setCell (p := ⟨g, i, none⟩) (fun _ => rfl) u).setCell (p := ⟨g, j, none⟩) (fun _ => rfl) v
/-- Its cells alone have turned. -/
theorem BloV.boxed {w w' : World} {B : Nat → Prop} {g b N : Nat} {s s' : BloN} (h : BloV B g b N w s) (hm : Mod (fun j => j = g) w w') (hb : Blk w' g 38 (bloC s' b)) (hg : GoodB s') (hr : s'.rows = s.rows) (hn : s'.next ≤ N) : BloV B g b N w' s' := by
  obtain ⟨c, h1⟩ := h.map_
  have e : atB s' = atB s := by funext x; unfold atB; rw [hr]
  refine ⟨hg, hb, ⟨c, ?_⟩, hn, by rw [hr]; exact h.held⟩
  rw [e]
  exact h1.mod hm (fun e => h.ne e.symm) (fun v x hv => hv.mod hm (fun j cs _ hj e => by subst e; exact Blk.ne_ hj h.box (by decide) rfl))
theorem kept_store {w : World} {B : Nat → Prop} {b n c : Nat} {F : Int → Option RowB} {k : Int} (h : MapG (KeptR B) w b n F c) (hn : n < maxLen) (hk : FitI k) {v : Value} {x : RowB} (hv : KeptR B w v x) :
    ∃ w', (Instr.mapUpdate 36 (.map (some b)) (.int .i64 k) v).run Try.prog w = .ok () w' ∧ (∃ c', MapG (KeptR B) w' b (n + 1) (setG F k (some x)) c') ∧ Mod (fun j => j = b) w w' := by
  obtain ⟨w', h1, h2, h3⟩ := h.store mapBl hn hk (fun w' v x hm hv => hv.mod hm (fun j cs _ hj e => by subst e; exact h.not_cells hj)) hv
  exact ⟨w', h1, ⟨_, h2⟩, h3⟩
theorem kept_drop {w : World} {B : Nat → Prop} {b n c : Nat} {F : Int → Option RowB} {k : Int} (h : MapG (KeptR B) w b n F c) (hk : FitI k) (ty : TypeId) :
    ∃ w', (Builtin.delete_ #[36, 3] ty #[.map (some b), .int .i64 k]).run Try.prog w = .ok (.tuple #[]) w' ∧ (∃ c', MapG (KeptR B) w' b n (setG F k none) c') ∧ Mod (fun j => j = b) w w' := by
  obtain ⟨w', h1, h2, h3⟩ := h.drop mapBl hk (fun w' v x hm hv => hv.mod hm (fun j cs _ hj e => by subst e; exact h.not_cells hj)) ty
  exact ⟨w', h1, ⟨_, h2⟩, h3⟩
def bytesB (s : BloN) (k : Int) : List Nat := ((atB s k).map (·.bs)).getD []
/-- v, ok := s.blobs[k]. -/
theorem look_row {w : World} {B : Nat → Prop} {g b N : Nat} {s : BloN} {k : Int} (h : BloV B g b N w s) (hk : FitI k) : ∃ A n c, (Instr.lookup 36 (.map (some b)) (.int .i64 k) true).run Try.prog w = .ok (.tuple #[.agg #[.slice A n c, .int .i64 (holdsB s k : Int)], .bool (atB s k).isSome]) w ∧ SliB B w (.slice A n c) (bytesB s k) ∧ n ≤ 1073741824 ∧ n ≤ c ∧ c ≤ maxLen := by
  obtain ⟨c, hm⟩ := h.map_
  obtain ⟨v, hrun, hn, hs⟩ := hm.look_ok mapBl (zero_kept w) hk
  unfold holdsB bytesB
  cases hf : atB s k with
  | none =>
    rw [hn hf, hf] at hrun
    exact ⟨none, 0, 0, hrun, SliB.nil _ _, by omega, by omega, by unfold maxLen; omega⟩
  | some r =>
    obtain ⟨vb, e, h1⟩ := hs r hf
    obtain ⟨A, n, c, rfl, h2, h3, h4, _⟩ := h1.form
    rw [e, hf] at hrun
    refine ⟨A, n, c, hrun, h1, ?_, h3, h4⟩
    have h5 := row_len (atB_some hf).1
    have h6 := h.sizes
    have h7 := h2.out
    omega
/-- b in new memory. -/
theorem blCopied_any (A : Option Addr) (n c : Nat) (bs : List Nat) (w : World) (hs : Rds w w.heap.size A n (cells8 bs)) (hm : n ≤ 2000000000) :
    Calls Try.prog 16 #[.slice A n c] w fun e w' => ∃ v, e = .returned v ∧ Own w.heap.size w' 5 v (cells8 bs) ∧ Mod (fun _ => False) w w' := by
  have Hown : Hid (Own w.heap.size w 5 (.slice none 0 0) []) := Lib.hid (Own.nil _ _ _)
  have Hr := Lib.hid hs
  have hr1 : ([] : List Value).length + n ≤ maxLen := by unfold maxLen; simp; omega
  have hr2 : (([] : List Value).length + n) * 1 ≤ 140737488355328 := by simp; omega
  clear hs
  go_enter Try.func16, Try.ntmps16
  go_wp2_with (at_builtin; refine wpList_app rfl (.const (.slice none 0 0)) (.tmp 3) _ rfl elt8 rfl Hown.out rfl Hr.out (cells8_one bs) hr1 hr2 (Nat.le_refl _) ?_; intro v4 w4 HO HB HG; clear HG)
  go_ret
  exact ⟨_, rfl, by have := HO.out; rwa [List.nil_append] at this, (Mod.of_below HB.out).mono (fun i hi h => by omega)⟩
end Go.Proofs.Ytnfpbjioiiedeaa

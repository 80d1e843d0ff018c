/- The texts Hd, Mem, Bitm, Row, Row2, Ug, Rk, Yk, Rkw, Yp, Ka, Ym, one behind the other. -/
import Derived.Below
import Derived.BigQuiet
import Derived.BigRegion
import Derived.ChangeSame
import Derived.Deep.AppendLies
import Derived.Deep.CutBlock
import Derived.Deep.DeepCutAuto
import Derived.Deep.DeepFit
import Derived.Deep.DeepHandedRow
import Derived.Deep.Draws
import Derived.Deep.LoopGhost
import Derived.Deep.MidRow
import Derived.Deep.QuietTactic
import Derived.Deep.RegionHeld
import Derived.Deep.RegionHeld3
import Derived.Deep.RegionHeldLaw
import Derived.Deep.RegionLaw
import Derived.Deep.RegionWith
import Derived.Deep.WholeRow
import Derived.IntWalk
import Derived.Laws.Bits64
import Derived.Laws.BitsAllLaws
import Derived.Laws.BitsLemmas
import Derived.Laws.CopyOwn
import Derived.Laws.IdiomStrings
import Derived.Laws.OwnMore
import Derived.Laws.ResultCell
import Derived.Laws.Rows
import Derived.Laws.StructEq
import Derived.Lib.AppendZerosOnto
import Derived.Lib.BitFns
import Derived.Lib.Hide
import Derived.Lib.LaidTab
import Derived.Lib.SlBytesConst
import Derived.Lib.Slices
import Derived.Lib.Small
import Derived.Lib.Strings
import Derived.Maps.AppendAt
import Derived.Maps.OwnSet
import Derived.OpenShut
import Derived.Outline
import Derived.OwnWalk
import Derived.ProofKit
import Derived.StillTailTactics
import Derived.WalkArith
import Derived.WalkKit
import Derived.WalkLawsBesides
import Derived.WalkSpells
import Derived.Test.YthogflfjdfcpeaaProg
/- What these texts see of the kit. -/

/- Words for memory: a block known whole, a world in which only some blocks have turned. -/
namespace Go.Proofs.Ythogflfjdfcpeaa
open Go.RowKit

theorem add_addr (g o j : Nat) : (⟨g, o, none⟩ : Addr).add j = ⟨g, o + j, none⟩ := by
  unfold Addr.add
  by_cases h : j = 0 <;> simp [h]
theorem add_block (a : Addr) (j : Nat) : (a.add j).block = a.block := by
  unfold Addr.add
  split <;> rfl
/-- A uint64's bound, behind a name: a numeral of that size among the hypotheses, even a hidden one, ends a walk in 'maximum recursion depth'. -/
def Lt64 (v : Nat) : Prop := v < 18446744073709551616
def Fit64 (v : Int) : Prop := 0 ≤ v ∧ v < 18446744073709551616
def FitI (n : Int) : Prop := -9223372036854775808 ≤ n ∧ n ≤ 9223372036854775807
theorem Lt64.out {v : Nat} (h : Lt64 v) : v < 18446744073709551616 := h
theorem Fit64.out {v : Int} (h : Fit64 v) : 0 ≤ v ∧ v < 18446744073709551616 := h
theorem FitI.out {v : Int} (h : FitI v) : -9223372036854775808 ≤ v ∧ v ≤ 9223372036854775807 := h
/-- An append's two bounds. -/
def Room (n m : Nat) : Prop := n + m ≤ maxLen ∧ (n + m) * 1 ≤ 140737488355328
theorem Room.mk (n m : Nat) (h : n + m ≤ 140737488355328) : Room n m := ⟨by unfold maxLen; omega, by omega⟩

/-- Block g is just these cells, none frozen. -/
def Blk (w : World) (g : Nat) (t : TypeId) (cs : Array Value) : Prop := w.heap[g]? = some (.cells cs t (0, 0))

section
variable {w w' : World} {g : Nat} {t : TypeId} {cs : Array Value}
theorem Blk.lt (h : Blk w g t cs) : g < w.heap.size := by
  rcases Nat.lt_or_ge g w.heap.size with hlt | hge
  · exact hlt
  · unfold Blk at h; rw [Array.getElem?_eq_none hge] at h; cases h
theorem Blk.cell (h : Blk w g t cs) (i : Nat) : w.cell? ⟨g, i, none⟩ = cs[i]? := cell_of_row w g i cs t (0, 0) h
theorem Blk.frozen (h : Blk w g t cs) (i : Nat) : w.frozen? ⟨g, i, none⟩ = false := by
  unfold Blk at h
  simp [World.frozen?, h]
theorem Blk.new (w : World) (t : TypeId) (cs : Array Value) : Blk (w.alloc (.cells cs t)) w.heap.size t cs := heap_alloc_new w _
theorem Blk.drew (h : Blk w g t cs) : Blk w.drew g t cs := h
theorem Blk.drewN (h : Blk w g t cs) (n : Nat) : Blk (w.drewN n) g t cs := h
theorem Blk.alloc (h : Blk w g t cs) (o : Obj) : Blk (w.alloc o) g t cs := (Below.heap_alloc w o g h.lt).trans h
theorem Blk.set_ (h : Blk w g t cs) (i : Nat) (u : Value) : Blk (w.setCell ⟨g, i, none⟩ u) g t (cs.setIfInBounds i u) := by
  unfold Blk at h ⊢
  simp [World.setCell, Array.getElem?_modify, h]
theorem Blk.far (h : Blk w g t cs) {p : Addr} (hp : g ≠ p.block) (u : Value) : Blk (w.setCell p u) g t cs := (Below.heap_setCell w p u g hp).trans h
theorem Blk.below {B : Nat} (h : Blk w g t cs) (hb : Below B w w') (hg : g < B) : Blk w' g t cs := (hb.block g hg).trans h
theorem Blk.grown {row : Option Nat} (h : Blk w g t cs) (hb : w.grownBy w' row) (hg : some g ≠ row) : Blk w' g t cs := (hb.block g h.lt hg).trans h
theorem Blk.ne_ {g' : Nat} {t' : TypeId} {cs' : Array Value} (h : Blk w g t cs) (h' : Blk w g' t' cs') (hne : t ≠ t') : g ≠ g' := by
  rintro rfl
  unfold Blk at h h'
  rw [h] at h'
  injection h' with h'
  injection h' with _ ht
  exact hne ht
theorem own_blk_ne {base : Nat} {e : TypeId} {size n : Nat} {v : Value} {xs : List Value} (h : w.ownsRow base e size v n xs) (hg : Blk w g t cs) (hne : e ≠ t) : v.ownBlock ≠ some g := by
  rcases h.2 with ⟨rfl, _⟩ | ⟨g', cap, cur, rfl, _, hh, _⟩
  · simp [Value.ownBlock]
  · intro he
    have : g' = g := by simpa [Value.ownBlock] using he
    subst this
    exact Blk.ne_ (t := e) hh hg hne rfl
end

theorem Blk.two {w : World} {g : Nat} {t : TypeId} {c0 c1 : Value} (h : Blk w g t #[c0, c1]) (u v : Value) :
    (w.setCell ⟨g, 0, none⟩ u).cell? ⟨g, 0, none⟩ = some u ∧ ((w.setCell ⟨g, 0, none⟩ u).setCell ⟨g, 1, none⟩ v).cell? ⟨g, 1, none⟩ = some v ∧ Blk ((w.setCell ⟨g, 0, none⟩ u).setCell ⟨g, 1, none⟩ v) g t #[u, v] := by
  have h1 := h.set_ 0 u
  have h2 := h1.set_ 1 v
  refine ⟨?_, ?_, ?_⟩
  · have := h1.cell 0; simpa using this
  · have := h2.cell 1; simpa using this
  · simpa using h2

/-- Only the blocks of S, and new ones, have turned. -/
structure Mod (S : Nat → Prop) (w w' : World) : Prop where
  os : w'.os = w.os
  tape : w'.tape = w.tape
  output : w'.output = w.output
  size : w.heap.size ≤ w'.heap.size
  block : ∀ k, k < w.heap.size → ¬ S k → w'.heap[k]? = w.heap[k]?

section
variable {S S' : Nat → Prop} {w w1 w2 : World}
theorem Mod.refl (S : Nat → Prop) (w : World) : Mod S w w := ⟨rfl, rfl, rfl, Nat.le_refl _, fun _ _ _ => rfl⟩
theorem Mod.trans (h : Mod S w w1) (k : Mod S' w1 w2) (hs : ∀ i, i < w.heap.size → S' i → S i) : Mod S w w2 :=
  ⟨k.os.trans h.os, k.tape.trans h.tape, k.output.trans h.output, Nat.le_trans h.size k.size, fun i hi hn =>
    (k.block i (Nat.lt_of_lt_of_le hi h.size) (fun hk => hn (hs i hi hk))).trans (h.block i hi hn)⟩
theorem Mod.mono (h : Mod S w w1) (hs : ∀ i, i < w.heap.size → S i → S' i) : Mod S' w w1 :=
  ⟨h.os, h.tape, h.output, h.size, fun i hi hn => h.block i hi (fun hk => hn (hs i hi hk))⟩
theorem Mod.drew (h : Mod S w w1) : Mod S w w1.drew := ⟨h.os, h.tape, h.output, h.size, h.block⟩
theorem Mod.drewN (h : Mod S w w1) (n : Nat) : Mod S w (w1.drewN n) := ⟨h.os, h.tape, h.output, h.size, h.block⟩
theorem Mod.alloc (h : Mod S w w1) (o : Obj) : Mod S w (w1.alloc o) :=
  h.trans (S' := fun _ => False) ⟨rfl, rfl, rfl, by simp, fun k hk _ => Below.heap_alloc _ _ _ hk⟩ (fun _ _ h => h.elim)
theorem Mod.setCell (h : Mod S w w1) {p : Addr} (hp : p.block < w.heap.size → S p.block) (u : Value) : Mod S w (w1.setCell p u) :=
  h.trans (S' := fun i => i = p.block) ⟨rfl, rfl, rfl, by simp [World.setCell], fun k hk hn => Below.heap_setCell _ _ _ _ hn⟩ (fun i hi h => by subst h; exact hp hi)
theorem Mod.grown {row : Option Nat} (h : Mod S w w1) (hg : w1.grownBy w2 row) (hr : ∀ k, row = some k → k < w.heap.size → S k) : Mod S w w2 :=
  h.trans (S' := fun i => row = some i) ⟨hg.os, hg.tape, hg.output, hg.size, fun k hk hn => hg.block k hk (fun e => hn e.symm)⟩ (fun i hi h => hr i h hi)
theorem Mod.below {B : Nat} (h : Mod S w w1) (hB : B ≤ w.heap.size) (hs : ∀ i, S i → B ≤ i) : Below B w w1 :=
  ⟨h.os, h.tape, h.output, h.size, fun i hi => h.block i (by omega) (fun hk => by have := hs i hk; omega)⟩
theorem Mod.of_below {B : Nat} (h : Below B w w1) : Mod (fun i => B ≤ i) w w1 := ⟨h.os, h.tape, h.output, h.size, fun i _ hn => h.block i (by omega)⟩
theorem Mod.blk {g : Nat} {t : TypeId} {cs : Array Value} (h : Mod S w w1) (hb : Blk w g t cs) (hn : ¬ S g) : Blk w1 g t cs := (h.block g hb.lt hn).trans hb
theorem Mod.cell (h : Mod S w w1) {a : Addr} (ha : a.block < w.heap.size) (hn : ¬ S a.block) : w1.cell? a = w.cell? a := World.cell?_of_block (h.block _ ha hn)
theorem Mod.owns {base : Nat} {e : TypeId} {size n : Nat} {v : Value} {xs : List Value} (h : Mod S w w1) (ho : w.ownsRow base e size v n xs) (hn : ∀ k, v.ownBlock = some k → ¬ S k) : w1.ownsRow base e size v n xs := by
  refine ⟨ho.1, ?_⟩
  rcases ho.2 with hl | ⟨g, cap, cur, rfl, hb, hgg, rest⟩
  · exact .inl hl
  · refine .inr ⟨g, cap, cur, rfl, hb, ?_, rest⟩
    rw [h.block g (Array.getElem?_eq_some_iff.1 hgg).1 (hn g (by simp [Value.ownBlock]))]
    exact hgg
end

/-- Bytes as cells. -/
def cells8 (bs : List Nat) : List Value := bs.map fun (b : Nat) => Value.int .u8 (b : Int)
theorem cells8_length (bs : List Nat) : (cells8 bs).length = bs.length := by simp [cells8]
/-- A slice at A, n long, reads as xs; its cells lie in block 'row'. -/
def Sees (w : World) (row : Nat) (A : Option Addr) (n : Nat) (xs : List Value) : Prop :=
  xs.length = n ∧ (0 < n → ∃ o, A = some ⟨row, o, none⟩ ∧ row < w.heap.size ∧ ∀ j u, xs[j]? = some u → w.cell? ⟨row, o + j, none⟩ = some u)
section
variable {w w1 : World} {row n : Nat} {A : Option Addr} {xs : List Value}
theorem Sees.mod {S : Nat → Prop} (h : Sees w row A n xs) (hm : Mod S w w1) (hn : row < w.heap.size → ¬ S row) : Sees w1 row A n xs :=
  ⟨h.1, fun h0 => by
    obtain ⟨o, e, hl, hc⟩ := h.2 h0
    exact ⟨o, e, Nat.lt_of_lt_of_le hl hm.size, fun j u hu => (hm.cell hl (hn hl)).trans (hc j u hu)⟩⟩
theorem Sees.of_own {base : Nat} {e : TypeId} {c : Nat} (h : w.ownsRow base e 1 (.slice A n c) n xs) (hr : 0 < n → (Value.slice A n c).ownBlock = some row) : Sees w row A n xs := by
  refine ⟨by simpa using h.1, fun hn => ?_⟩
  rcases h.2 with ⟨_, h0⟩ | ⟨g, cap, cur, e1, _, hg, _⟩
  · omega
  · have hr := hr hn
    injection e1 with eA en ec
    subst eA
    have : g = row := by simpa [Value.ownBlock] using hr
    subst this
    refine ⟨0, rfl, (Array.getElem?_eq_some_iff.1 hg).1, fun j u hu => ?_⟩
    have hj : j < xs.length := (List.getElem?_eq_some_iff.1 hu).1
    have h1 := h.1
    subst ec
    rw [Nat.zero_add, h.cellAt j (by omega)]
    exact hu
end
end Go.Proofs.Ythogflfjdfcpeaa

/- Plain mathematics of bits: a row of bytes as a number. -/
namespace Go.Proofs.Ythogflfjdfcpeaa

end Go.Proofs.Ythogflfjdfcpeaa

/- Rows in memory: what a slice reads as; a row of the call's own; append, make and copy, and string(b) on such. -/
namespace Go.Proofs.Ythogflfjdfcpeaa
open Go.RowKit

theorem add_add (a : Addr) (i j : Nat) : (a.add i).add j = a.add (i + j) := by
  unfold Addr.add
  by_cases hi : i = 0 <;> by_cases hj : j = 0 <;> simp [hi, hj, Nat.add_assoc]

/-- The slice at A, n long, reads as xs, below block B. -/
def Rds (w : World) (B : Nat) (A : Option Addr) (n : Nat) (xs : List Value) : Prop :=
  xs.length = n ∧ (0 < n → ∃ ad, A = some ad ∧ ad.block < B ∧ ∀ j u, xs[j]? = some u → w.cell? (ad.add j) = some u)
section
variable {w w' : World} {B B' n : Nat} {A : Option Addr} {xs : List Value}
theorem Rds.nil (w : World) (B : Nat) (A : Option Addr) : Rds w B A 0 [] := ⟨rfl, fun h => absurd h (by omega)⟩
theorem Rds.at_ {k : Nat} (h : Rds w B A n xs) (hk : k < n) : ∃ ad u, A = some ad ∧ ad.block < B ∧ xs[k]? = some u ∧ w.cell? (ad.add k) = some u := by
  obtain ⟨ad, e, hb, hc⟩ := h.2 (by omega)
  have hl : k < xs.length := by have := h.1; omega
  exact ⟨ad, xs[k], e, hb, List.getElem?_eq_getElem hl, hc k _ (List.getElem?_eq_getElem hl)⟩
theorem Rds.keep (h : Rds w B A n xs) (hk : ∀ p : Addr, p.block < B → w'.cell? p = w.cell? p) : Rds w' B A n xs :=
  ⟨h.1, fun hn => by
    obtain ⟨ad, e, hb, hc⟩ := h.2 hn
    exact ⟨ad, e, hb, fun j u hu => (hk _ (by rw [add_block]; exact hb)).trans (hc j u hu)⟩⟩
theorem Rds.more (h : Rds w B A n xs) (hB : B ≤ B') : Rds w B' A n xs :=
  ⟨h.1, fun hn => by
    obtain ⟨ad, e, hb, hc⟩ := h.2 hn
    exact ⟨ad, e, by omega, hc⟩⟩
theorem Rds.below (h : Rds w B A n xs) (hb : Below B w w') : Rds w' B A n xs := h.keep fun _ hp => hb.cell hp
theorem Rds.drew (h : Rds w B A n xs) : Rds w.drew B A n xs := h
theorem Rds.alloc (h : Rds w B A n xs) (hB : B ≤ w.heap.size) (o : Obj) : Rds (w.alloc o) B A n xs := h.keep fun p hp => World.cell?_alloc_lt w o p (by omega)
theorem Rds.setCell (h : Rds w B A n xs) {p : Addr} (hB : B ≤ p.block) (u : Value) : Rds (w.setCell p u) B A n xs :=
  h.keep fun q hq => World.cell?_setCell_other w p q u (fun e => by subst e; omega)
theorem Rds.fit (h : Rds w B A n xs) : Rds w w.heap.size A n xs :=
  ⟨h.1, fun hn => by
    obtain ⟨ad, e, _, hc⟩ := h.2 hn
    refine ⟨ad, e, ?_, hc⟩
    have hl : 0 < xs.length := by have := h.1; omega
    have := World.block_lt_of_cell? w _ (hc 0 _ (List.getElem?_eq_getElem hl))
    rwa [add_block] at this⟩
/-- s[:k] -/
theorem Rds.take (h : Rds w B A n xs) {k : Nat} (hk : k ≤ n) : Rds w B A k (xs.take k) :=
  ⟨by rw [List.length_take, h.1]; omega, fun hn => by
    obtain ⟨ad, e, hb, hc⟩ := h.2 (by omega)
    refine ⟨ad, e, hb, fun j u hu => hc j u ?_⟩
    rw [List.getElem?_take] at hu
    split at hu
    · exact hu
    · cases hu⟩
/-- s[k:] -/
theorem Rds.drop (h : Rds w B A n xs) {k cap : Nat} (hk : k ≤ n) (hc : n ≤ cap) : Rds w B (if cap = k then A else A.map (·.add k)) (n - k) (xs.drop k) := by
  refine ⟨by rw [List.length_drop, h.1], fun hn => ?_⟩
  obtain ⟨ad, rfl, hb, hcell⟩ := h.2 (by omega)
  rw [if_neg (by omega)]
  refine ⟨ad.add k, rfl, by rw [add_block]; exact hb, fun j u hu => ?_⟩
  rw [add_add]
  exact hcell _ u (by rw [← hu, List.getElem?_drop])
theorem Rds.of_own {base : Nat} {e : TypeId} {c : Nat} (h : w.ownsRow base e 1 (.slice A n c) n xs) : Rds w w.heap.size A n xs := by
  refine ⟨by simpa using h.1, fun hn => ?_⟩
  obtain ⟨g, cap, hv, _, hlt⟩ := h.form hn
  have hA : A = some ⟨g, 0, none⟩ := by injection hv
  subst hA
  exact ⟨_, rfl, hlt, h.cells (g := g) rfl⟩
/-- A slice literal's block. -/
theorem Rds.lit (w : World) (t : TypeId) (cs : Array Value) : Rds (w.alloc (.cells cs t)) (w.heap.size + 1) (some ⟨w.heap.size, 0, none⟩) cs.size cs.toList := by
  refine ⟨by simp, fun hn => ⟨_, rfl, by simp, fun j u hu => ?_⟩⟩
  rw [add_addr, Nat.zero_add, (Blk.new w t cs).cell j]
  simpa using hu
end

/-- A row of the call's own: all that it has lies from block B on. -/
def Own (B : Nat) (w : World) (e : TypeId) (v : Value) (xs : List Value) : Prop := w.ownsRow B e 1 v xs.length xs
section
variable {w w' : World} {B B' : Nat} {e : TypeId} {v : Value} {xs : List Value}
theorem Own.nil (B : Nat) (w : World) (e : TypeId) : Own B w e (.slice none 0 0) [] := World.ownsRow_nil _ _ _ _
theorem Own.below (h : Own B w e v xs) (hb : Below w.heap.size w w') : Own B w' e v xs := by
  refine ⟨h.1, ?_⟩
  rcases h.2 with hn | ⟨g, cap, cur, rfl, hB, hgg, rest⟩
  · exact .inl hn
  · refine .inr ⟨g, cap, cur, rfl, hB, ?_, rest⟩
    rw [hb.block g (Array.getElem?_eq_some_iff.1 hgg).1]
    exact hgg
theorem Own.drew (h : Own B w e v xs) : Own B w.drew e v xs := h
theorem Own.alloc (h : Own B w e v xs) (o : Obj) : Own B (w.alloc o) e v xs := World.ownsRow.alloc h o
theorem Own.mono (h : Own B w e v xs) (hB : B' ≤ B) : Own B' w e v xs := by
  refine ⟨h.1, ?_⟩
  rcases h.2 with hn | ⟨g, cap, cur, rfl, hb, rest⟩
  · exact .inl hn
  · exact .inr ⟨g, cap, cur, rfl, by omega, rest⟩
/-- What its value looks like. -/
theorem Own.form (h : Own B w e v xs) : ∃ A c, v = .slice A xs.length c ∧ (A = none → c = 0) ∧ xs.length ≤ c ∧ c ≤ maxLen ∧ Rds w w.heap.size A xs.length xs := by
  have h' := h
  rcases h.2 with ⟨rfl, h0⟩ | ⟨g, cap, cur, rfl, hB, hgg, hnc, hcm, _⟩
  · exact ⟨none, 0, by rw [h0], fun _ => rfl, by omega, Nat.zero_le _, by rw [h0, List.eq_nil_of_length_eq_zero h0]; exact Rds.nil _ _ _⟩
  · exact ⟨_, cap, rfl, (fun h => by cases h), hnc, hcm, Rds.of_own h'⟩
theorem Own.block (h : Own B w e v xs) : ∀ k, v.ownBlock = some k → B ≤ k ∧ k < w.heap.size := World.ownsRow.lt h
/-- A slice literal. -/
theorem Own.lit (w : World) (e : TypeId) (cs : Array Value) (hm : cs.size ≤ maxLen) : Own w.heap.size (w.alloc (.cells cs e)) e (.slice (some ⟨w.heap.size, 0, none⟩) cs.size cs.size) cs.toList := by
  refine ⟨by simp, .inr ⟨w.heap.size, cs.size, cs, by simp, Nat.le_refl _, Blk.new w e cs, by simp, hm, by simp, ?_⟩⟩
  rw [List.take_of_length_le (by simp)]
end

/-- A slice type's element: its row of the table. -/
def Elt (P : Program) (t e : TypeId) (z : Value) (bytes : Nat) : Prop := P.underlying t = some (.slice e) ∧ (∃ i, P.info? e = some i ∧ i.zero = some z ∧ i.size = 1 ∧ i.bytes = bytes) ∧ z.cells.size = 1
theorem Elt.mk {P : Program} {t e : TypeId} {z : Value} {bytes : Nat} (h1 : P.underlying t = some (.slice e)) (h2 : (P.info? e).map (fun i => (i.zero, i.size, i.bytes)) = some (some z, 1, bytes)) (h3 : z.cells.size = 1) : Elt P t e z bytes :=
  ⟨h1, info_parts h2, h3⟩

section
variable {P : Program} {w : World}
end

section
variable {P : Program} {w : World}
end
end Go.Proofs.Ythogflfjdfcpeaa

/- Rows in memory, for regions that draw their order: facts that are carried over whatever was done between. -/
namespace Go.Proofs.Ythogflfjdfcpeaa
open Go.RowKit

/-- Block H begins with these cells. -/
def Has (w : World) (H : Nat) (xs : List Value) : Prop := ∀ j u, xs[j]? = some u → w.cell? ⟨H, j, none⟩ = some u
section
variable {w w' : World} {H B : Nat} {xs : List Value} {e : TypeId} {v v' : Value}
theorem Has.drew (h : Has w H xs) : Has w.drew H xs := h
theorem Has.alloc (h : Has w H xs) (o : Obj) : Has (w.alloc o) H xs := fun j u hu => by
  have hc := h j u hu
  rw [World.cell?_alloc_lt w o _ (World.block_lt_of_cell? w _ hc)]
  exact hc
theorem Has.below (h : Has w H xs) (hb : Below w.heap.size w w') : Has w' H xs := fun j u hu => by
  have hc := h j u hu
  rw [hb.cell (p := ⟨H, j, none⟩) (World.block_lt_of_cell? w _ hc)]
  exact hc
/-- Behind an append onto another row. -/
theorem Has.far {row : Option Nat} (h : Has w H xs) (hg : w.grownBy w' row) (hne : row ≠ some H) : Has w' H xs := fun j u hu => hg.cell (h j u hu) (fun e => hne e.symm)
theorem Has.rds (h : Has w H xs) : Rds w w.heap.size (some ⟨H, 0, none⟩) xs.length xs := by
  refine Rds.fit (B := H + 1) ⟨rfl, fun _ => ⟨_, rfl, Nat.lt_succ_self _, fun j u hu => ?_⟩⟩
  rw [add_addr, Nat.zero_add]
  exact h j u hu
theorem Own.far {row : Option Nat} (h : Own B w e v xs) (hg : w.grownBy w' row) (hne : row ≠ v.ownBlock) : Own B w' e v xs :=
  World.ownsRow.kept h hg (Or.inr (fun e => hne e.symm))
end

section
variable {P : Program} {w : World}
end
end Go.Proofs.Ythogflfjdfcpeaa

/- Rows carried over what was done; a row of the call's own that is not empty. -/
namespace Go.Proofs.Ythogflfjdfcpeaa
open Go.RowKit

theorem Rds.mod {w w' : World} {B n : Nat} {A : Option Addr} {xs : List Value} {S : Nat → Prop} (h : Rds w B A n xs) (hm : Mod S w w') (hB : B ≤ w.heap.size) (hS : ∀ j, j < B → ¬ S j) : Rds w' B A n xs :=
  h.keep fun _ hp => hm.cell (Nat.lt_of_lt_of_le hp hB) (hS _ hp)
theorem Rds.new {w w' : World} {B n : Nat} {A : Option Addr} {xs : List Value} (h : Rds w B A n xs) (hm : Mod (fun _ => False) w w') : Rds w' w.heap.size A n xs :=
  h.fit.mod hm (Nat.le_refl _) (fun _ _ h => h)
/-- A row of the call's own that is not empty: where it lies; its cells. -/
theorem Own.form' {B : Nat} {w : World} {e : TypeId} {v : Value} {xs : List Value} (h : Own B w e v xs) (hn : 0 < xs.length) : ∃ g cap, v = .slice (some ⟨g, 0, none⟩) xs.length cap ∧ B ≤ g ∧ g < w.heap.size := World.ownsRow.form h hn
theorem Own.mod {B : Nat} {w w' : World} {e : TypeId} {v : Value} {xs : List Value} (h : Own B w e v xs) (hm : Mod (fun _ => False) w w') : Own B w' e v xs := hm.owns h (fun _ _ h => h)
/-- A block of other cells stands behind an append as it was. -/
theorem Blk.app {B g : Nat} {w w' : World} {e t : TypeId} {v : Value} {xs : List Value} {cs : Array Value} (h : Blk w g t cs) (ho : Own B w e v xs) (hne : e ≠ t) (hg : w.grownBy w' v.ownBlock) : Blk w' g t cs := h.grown hg (fun e' => own_blk_ne ho h hne e'.symm)
end Go.Proofs.Ythogflfjdfcpeaa

/- Rows of elements of K cells each, of whatever type: what a slice reads as; a row of the call's own; append; one cell of one element read and written. -/
namespace Go.Proofs.Ythogflfjdfcpeaa
open Go.RowKit

/-- Each element has K cells. -/
def AllK (K : Nat) (rows : List (List Value)) : Prop := ∀ r ∈ rows, r.length = K
theorem AllK.nil (K : Nat) : AllK K [] := fun _ h => by cases h
theorem AllK.cons {K : Nat} {r : List Value} {rows : List (List Value)} (h : r.length = K) (hr : AllK K rows) : AllK K (r :: rows) := fun x hx => by
  rcases List.mem_cons.1 hx with rfl | hx
  · exact h
  · exact hr x hx
theorem AllK.app {K : Nat} {a b : List (List Value)} (ha : AllK K a) (hb : AllK K b) : AllK K (a ++ b) := fun x hx => by
  rcases List.mem_append.1 hx with hx | hx
  · exact ha x hx
  · exact hb x hx
theorem AllK.take {K : Nat} {a : List (List Value)} (ha : AllK K a) (i : Nat) : AllK K (a.take i) := fun x hx => ha x (List.mem_of_mem_take hx)
theorem AllK.drop {K : Nat} {a : List (List Value)} (ha : AllK K a) (i : Nat) : AllK K (a.drop i) := fun x hx => ha x (List.mem_of_mem_drop hx)
theorem AllK.set_ {K : Nat} {a : List (List Value)} (ha : AllK K a) (i : Nat) {r : List Value} (hr : r.length = K) : AllK K (a.set i r) := fun x hx => by
  rcases List.mem_or_eq_of_mem_set hx with h | h
  · exact ha x h
  · rw [h]; exact hr
theorem flat_len {K : Nat} : ∀ {rows : List (List Value)}, AllK K rows → rows.flatten.length = rows.length * K := by
  intro rows
  induction rows with
  | nil => intro _; simp
  | cons r rows ih =>
    intro h
    rw [List.flatten_cons, List.length_append, ih (fun x hx => h x (List.mem_cons_of_mem _ hx)), h r (List.mem_cons_self ..), List.length_cons, Nat.add_mul]
    omega
theorem flat_get {K : Nat} : ∀ {rows : List (List Value)} {i j : Nat} {r : List Value}, AllK K rows → rows[i]? = some r → j < K → rows.flatten[i * K + j]? = r[j]? := by
  intro rows
  induction rows with
  | nil => intro i j r _ h; simp at h
  | cons q rows ih =>
    intro i j r ha h hj
    have hq := ha q (List.mem_cons_self ..)
    cases i with
    | zero =>
      rw [List.getElem?_cons_zero] at h
      injection h with h
      subst h
      rw [List.flatten_cons, Nat.zero_mul, Nat.zero_add, List.getElem?_append_left (by omega)]
    | succ i =>
      rw [List.getElem?_cons_succ] at h
      rw [List.flatten_cons, List.getElem?_append_right (by rw [hq, Nat.add_mul]; omega), hq, show (i + 1) * K + j - K = i * K + j by rw [Nat.add_mul]; omega]
      exact ih (fun x hx => ha x (List.mem_cons_of_mem _ hx)) h hj
theorem flat_set {K : Nat} : ∀ {rows : List (List Value)} {i j : Nat} {r : List Value} (u : Value), AllK K rows → rows[i]? = some r → j < K → rows.flatten.set (i * K + j) u = (rows.set i (r.set j u)).flatten := by
  intro rows
  induction rows with
  | nil => intro i j r u _ h; simp at h
  | cons q rows ih =>
    intro i j r u ha h hj
    have hq := ha q (List.mem_cons_self ..)
    cases i with
    | zero =>
      rw [List.getElem?_cons_zero] at h
      injection h with h
      subst h
      rw [List.flatten_cons, Nat.zero_mul, Nat.zero_add, List.set_append_left _ _ (by omega), List.set_cons_zero, List.flatten_cons]
    | succ i =>
      rw [List.getElem?_cons_succ] at h
      rw [List.flatten_cons, List.set_append_right _ _ (by rw [hq, Nat.add_mul]; omega), hq, show (i + 1) * K + j - K = i * K + j by rw [Nat.add_mul]; omega, ih u (fun x hx => ha x (List.mem_cons_of_mem _ hx)) h hj, List.set_cons_succ, List.flatten_cons]
theorem flat_take {K : Nat} : ∀ {rows : List (List Value)} (i : Nat), AllK K rows → rows.flatten.take (i * K) = (rows.take i).flatten := by
  intro rows
  induction rows with
  | nil => intro i _; simp
  | cons q rows ih =>
    intro i ha
    have hq := ha q (List.mem_cons_self ..)
    cases i with
    | zero => simp
    | succ i => rw [List.flatten_cons, List.take_succ_cons, List.flatten_cons, ← ih i (fun x hx => ha x (List.mem_cons_of_mem _ hx)), List.take_append, List.take_of_length_le (by rw [hq, Nat.add_mul]; omega), hq, show (i + 1) * K - K = i * K by rw [Nat.add_mul]; omega]
theorem flat_drop {K : Nat} : ∀ {rows : List (List Value)} (i : Nat), AllK K rows → rows.flatten.drop (i * K) = (rows.drop i).flatten := by
  intro rows
  induction rows with
  | nil => intro i _; simp
  | cons q rows ih =>
    intro i ha
    have hq := ha q (List.mem_cons_self ..)
    cases i with
    | zero => simp
    | succ i => rw [List.flatten_cons, List.drop_succ_cons, ← ih i (fun x hx => ha x (List.mem_cons_of_mem _ hx)), List.drop_append, List.drop_eq_nil_of_le (by rw [hq, Nat.add_mul]; omega), hq, show (i + 1) * K - K = i * K by rw [Nat.add_mul]; omega, List.nil_append]
/-- The slice at A, n elements of K cells long, reads as these, below block B. -/
def RdsK (K : Nat) (w : World) (B : Nat) (A : Option Addr) (n : Nat) (rows : List (List Value)) : Prop := rows.length = n ∧ AllK K rows ∧ Rds w B A (n * K) rows.flatten
section
variable {K : Nat} {w w' : World} {B B' n : Nat} {A : Option Addr} {rows : List (List Value)}
theorem RdsK.nil (K : Nat) (w : World) (B : Nat) (A : Option Addr) : RdsK K w B A 0 [] := ⟨rfl, AllK.nil K, by rw [Nat.zero_mul]; exact Rds.nil _ _ _⟩
theorem RdsK.more (h : RdsK K w B A n rows) (hB : B ≤ B') : RdsK K w B' A n rows := ⟨h.1, h.2.1, h.2.2.more hB⟩
theorem RdsK.drew (h : RdsK K w B A n rows) : RdsK K w.drew B A n rows := h
theorem RdsK.alloc (h : RdsK K w B A n rows) (hB : B ≤ w.heap.size) (o : Obj) : RdsK K (w.alloc o) B A n rows := ⟨h.1, h.2.1, h.2.2.alloc hB o⟩
theorem RdsK.fit (h : RdsK K w B A n rows) : RdsK K w w.heap.size A n rows := ⟨h.1, h.2.1, h.2.2.fit⟩
theorem RdsK.mod {S : Nat → Prop} (h : RdsK K w B A n rows) (hm : Mod S w w') (hB : B ≤ w.heap.size) (hS : ∀ j, j < B → ¬ S j) : RdsK K w' B A n rows := ⟨h.1, h.2.1, h.2.2.mod hm hB hS⟩
theorem RdsK.new (h : RdsK K w B A n rows) (hm : Mod (fun _ => False) w w') : RdsK K w' w.heap.size A n rows := ⟨h.1, h.2.1, h.2.2.new hm⟩
theorem RdsK.below (h : RdsK K w B A n rows) (hb : Below B w w') : RdsK K w' B A n rows := ⟨h.1, h.2.1, h.2.2.below hb⟩
/-- One element: where it lies, and its cells. -/
theorem RdsK.at_ (h : RdsK K w B A n rows) {i : Nat} (hi : i < n) (hK : 0 < K) : ∃ ad r, A = some ad ∧ ad.block < B ∧ rows[i]? = some r ∧ r.length = K ∧ ∀ j u, r[j]? = some u → w.cell? (ad.add (i * K + j)) = some u := by
  have hl := h.1
  have hir : i < rows.length := by omega
  obtain ⟨ad, e, hb, hc⟩ := h.2.2.2 (Nat.mul_pos (by omega) hK)
  refine ⟨ad, rows[i], e, hb, List.getElem?_eq_getElem hir, h.2.1 _ (List.getElem_mem hir), fun j u hu => hc _ _ ?_⟩
  have hj : j < K := by
    have h1 := (List.getElem?_eq_some_iff.1 hu).1
    have h2 := h.2.1 _ (List.getElem_mem hir)
    omega
  rw [flat_get h.2.1 (List.getElem?_eq_getElem hir) hj]
  exact hu
/-- s[:k] -/
theorem RdsK.take (h : RdsK K w B A n rows) {k : Nat} (hk : k ≤ n) : RdsK K w B A k (rows.take k) := by
  refine ⟨by rw [List.length_take, h.1]; omega, h.2.1.take k, ?_⟩
  rw [← flat_take k h.2.1]
  exact h.2.2.take (Nat.mul_le_mul_right K hk)
/-- s[k:] -/
theorem RdsK.drop (h : RdsK K w B A n rows) {k cap : Nat} (hk : k ≤ n) (hc : n ≤ cap) (hK : 0 < K) : RdsK K w B (if cap = k then A else A.map (·.add (k * K))) (n - k) (rows.drop k) := by
  refine ⟨by rw [List.length_drop, h.1], h.2.1.drop k, ?_⟩
  have h2 := h.2.2.drop (k := k * K) (cap := cap * K) (Nat.mul_le_mul_right K hk) (Nat.mul_le_mul_right K hc)
  rw [flat_drop k h.2.1, ← Nat.sub_mul] at h2
  by_cases e : cap = k
  · rw [if_pos (by rw [e])] at h2
    rw [if_pos e]
    exact h2
  · rw [if_neg (fun e2 => e (Nat.eq_of_mul_eq_mul_right hK e2))] at h2
    rw [if_neg e]
    exact h2
end
/-- A row of the call's own of such elements: all that it has lies from block B on. -/
def OwnK (K B : Nat) (w : World) (e : TypeId) (v : Value) (rows : List (List Value)) : Prop := AllK K rows ∧ w.ownsRow B e K v rows.length rows.flatten
section
variable {K : Nat} {w w' : World} {B B' : Nat} {e : TypeId} {v : Value} {rows : List (List Value)}
theorem OwnK.nil (K B : Nat) (w : World) (e : TypeId) : OwnK K B w e (.slice none 0 0) [] := ⟨AllK.nil K, World.ownsRow_nil _ _ _ _⟩
theorem OwnK.drew (h : OwnK K B w e v rows) : OwnK K B w.drew e v rows := h
theorem OwnK.alloc (h : OwnK K B w e v rows) (o : Obj) : OwnK K B (w.alloc o) e v rows := ⟨h.1, World.ownsRow.alloc h.2 o⟩
theorem OwnK.mono (h : OwnK K B w e v rows) (hB : B' ≤ B) : OwnK K B' w e v rows := by
  refine ⟨h.1, h.2.1, ?_⟩
  rcases h.2.2 with hn | ⟨g, cap, cur, rfl, hb, rest⟩
  · exact .inl hn
  · exact .inr ⟨g, cap, cur, rfl, by omega, rest⟩
theorem OwnK.below (h : OwnK K B w e v rows) (hb : Below w.heap.size w w') : OwnK K B w' e v rows := by
  refine ⟨h.1, h.2.1, ?_⟩
  rcases h.2.2 with hn | ⟨g, cap, cur, rfl, hB, hgg, rest⟩
  · exact .inl hn
  · refine .inr ⟨g, cap, cur, rfl, hB, ?_, rest⟩
    rw [hb.block g (Array.getElem?_eq_some_iff.1 hgg).1]
    exact hgg
theorem OwnK.mod (h : OwnK K B w e v rows) (hm : Mod (fun _ => False) w w') : OwnK K B w' e v rows := ⟨h.1, hm.owns h.2 (fun _ _ h => h)⟩
theorem OwnK.modS {S : Nat → Prop} (h : OwnK K B w e v rows) (hm : Mod S w w') (hS : ∀ k, v.ownBlock = some k → ¬ S k) : OwnK K B w' e v rows := ⟨h.1, hm.owns h.2 hS⟩
theorem OwnK.block (h : OwnK K B w e v rows) : ∀ k, v.ownBlock = some k → B ≤ k ∧ k < w.heap.size := World.ownsRow.lt h.2
/-- What its value looks like. -/
theorem OwnK.form (h : OwnK K B w e v rows) : ∃ A c, v = .slice A rows.length c ∧ (A = none → c = 0) ∧ rows.length ≤ c ∧ c ≤ maxLen ∧ RdsK K w w.heap.size A rows.length rows := by
  obtain ⟨hK, ho⟩ := h
  have hl := flat_len hK
  rcases ho.2 with ⟨rfl, h0⟩ | ⟨g, cap, cur, rfl, hB, hgg, hnc, hcm, hcs, htk⟩
  · obtain rfl : rows = [] := List.eq_nil_of_length_eq_zero h0
    exact ⟨none, 0, rfl, fun _ => rfl, Nat.le_refl _, Nat.zero_le _, RdsK.nil _ _ _ _⟩
  · exact ⟨_, cap, rfl, (fun h => by cases h), hnc, hcm, rfl, hK, hl, fun _ => ⟨_, rfl, (Array.getElem?_eq_some_iff.1 hgg).1, World.ownsRow.cells ho (g := g) rfl⟩⟩
theorem OwnK.formN (h : OwnK K B w e v rows) : ∃ A L c, v = .slice A L c ∧ Hid (rows.length = L) ∧ L ≤ c ∧ c ≤ maxLen ∧ RdsK K w w.heap.size A L rows := by
  obtain ⟨A, c, e, _, h1, h2, h3⟩ := h.form
  exact ⟨A, rows.length, c, e, Lib.hid rfl, h1, h2, h3⟩
theorem OwnK.rds {A : Option Addr} {n c : Nat} (h : OwnK K B w e (.slice A n c) rows) (hn : rows.length = n) : RdsK K w w.heap.size A n rows := by
  obtain ⟨A', c', e, _, _, _, hr⟩ := h.form
  injection e with e1 e2 e3
  subst e1 e2
  exact hr
/-- Where it lies, if it is not empty. -/
theorem OwnK.form' (h : OwnK K B w e v rows) (hn : 0 < rows.length) : ∃ g cap, v = .slice (some ⟨g, 0, none⟩) rows.length cap ∧ rows.length ≤ cap ∧ cap ≤ maxLen ∧ B ≤ g ∧ g < w.heap.size := by
  rcases h.2.2 with ⟨rfl, h0⟩ | ⟨g, cap, cur, rfl, hB, hgg, hnc, hcm, _⟩
  · omega
  · exact ⟨g, cap, rfl, hnc, hcm, hB, (Array.getElem?_eq_some_iff.1 hgg).1⟩
/-- One cell of one element written: s[i].f = u. -/
theorem OwnK.set_ {g n cap i j : Nat} {r : List Value} (h : OwnK K B w e (.slice (some ⟨g, 0, none⟩) n cap) rows) (hn : rows.length = n) (hr : rows[i]? = some r) (hj : j < K) (u : Value) :
    (∃ x, r[j]? = some x ∧ w.cell? ⟨g, i * K + j, none⟩ = some x) ∧ w.frozen? ⟨g, i * K + j, none⟩ = false ∧ OwnK K B (w.setCell ⟨g, i * K + j, none⟩ u) e (.slice (some ⟨g, 0, none⟩) n cap) (rows.set i (r.set j u)) := by
  obtain ⟨hK, ho⟩ := h
  have hir := (List.getElem?_eq_some_iff.1 hr).1
  have hrl : r.length = K := hK r (List.mem_of_getElem? hr)
  have hl := flat_len hK
  have hlt : i * K + j < rows.length * K := by
    have := Nat.mul_le_mul_right K hir
    rw [Nat.succ_mul] at this
    omega
  rw [hn] at ho
  refine ⟨⟨r[j]'(by omega), List.getElem?_eq_getElem (by omega), ?_⟩, ho.frozenAt _, hK.set_ i (by rw [List.length_set]; exact hrl), ?_⟩
  · rw [ho.cellAt _ (by rw [← hn]; exact hlt), flat_get hK hr hj, List.getElem?_eq_getElem (by omega)]
  · have h2 := (ho.stored (i * K + j) u).1
    rw [flat_set u hK hr hj] at h2
    rw [List.length_set, hn]
    exact h2
end
/-- A slice type's element of K cells: its row of the table. -/
def EltK (P : Program) (t e : TypeId) (z : Value) (K bytes : Nat) : Prop := P.underlying t = some (.slice e) ∧ (∃ i, P.info? e = some i ∧ i.zero = some z ∧ i.size = K ∧ i.bytes = bytes) ∧ z.cells.size = K ∧ 0 < K
theorem EltK.mk {P : Program} {t e : TypeId} {z : Value} {K bytes : Nat} (h1 : P.underlying t = some (.slice e)) (h2 : (P.info? e).map (fun i => (i.zero, i.size, i.bytes)) = some (some z, K, bytes)) (h3 : z.cells.size = K) (h4 : 0 < K) : EltK P t e z K bytes :=
  ⟨h1, info_parts h2, h3, h4⟩
section
variable {P : Program} {w : World}
theorem run_append_nilK (t ty e : TypeId) (i : TypeInfo) (ht : P.underlying t = some (.slice e)) (hi : P.info? e = some i) {K B : Nat} {v : Value} {rows : List (List Value)} (hown : OwnK K B w e v rows) (c : Nat) :
    (Builtin.append_ #[t, t] ty #[v, .slice none 0 c]).run P w = .ok v w := by
  rcases hown.2.2 with ⟨rfl, h0⟩ | ⟨g, cap, cur, rfl, _, _, hnc, _⟩
  · simp [Builtin.append_, run_underlying ht, sizeOf, typeInfo, hi, Builtin.lenOf, Builtin.firstCells]
  · simp [Builtin.append_, run_underlying ht, sizeOf, typeInfo, hi, Builtin.lenOf, Builtin.firstCells, hnc, storeCells]
theorem run_appK {t ty e : TypeId} {z : Value} {K bytes B B2 m c : Nat} {v : Value} {rows news : List (List Value)} {A : Option Addr} (hE : EltK P t e z K bytes) (hown : OwnK K B w e v rows) (hr : RdsK K w B2 A m news) (h1 : ∀ u ∈ news.flatten, u.oneCell' = true)
    (hm : rows.length + m ≤ maxLen) (hb : (rows.length + m) * bytes ≤ 140737488355328) (hB : B ≤ w.heap.size) :
    ∃ v' w', (Builtin.append_ #[t, t] ty #[v, .slice A m c]).run P w = .ok v' w' ∧ OwnK K B w' e v' (rows ++ news) ∧ w.grownBy w' v.ownBlock ∧ (v'.ownBlock = v.ownBlock ∨ v'.ownBlock = some w.heap.size) := by
  obtain ⟨ht, ⟨i, hi, hz, hsize, hby⟩, hzs, hK⟩ := hE
  have hrl := hr.1
  have hfl := flat_len hr.2.1
  rcases A with _ | ad
  · have hm0 : m = 0 := by
      rcases Nat.eq_zero_or_pos m with h0 | h0
      · exact h0
      · obtain ⟨ad, h, _⟩ := hr.2.2.2 (Nat.mul_pos h0 hK)
        cases h
    subst hm0
    obtain rfl : news = [] := List.eq_nil_of_length_eq_zero hrl
    exact ⟨v, w, run_append_nilK t ty e i ht hi hown c, by simpa using hown, World.grownBy.refl w _, .inl rfl⟩
  · have hcells : ∀ j u, news.flatten[j]? = some u → w.cell? (ad.add j) = some u := by
      intro j u hu
      rcases Nat.eq_zero_or_pos m with h0 | h0
      · subst h0
        obtain rfl : news = [] := List.eq_nil_of_length_eq_zero hrl
        simp at hu
      · obtain ⟨ad', h, _, hc⟩ := hr.2.2.2 (Nat.mul_pos h0 hK)
        injection h with h
        subst h
        exact hc j u hu
    obtain ⟨v', w', hrun, h2, h3, _, h5⟩ := run_append_own_at (P := P) w B t ty e i z K bytes ht hi hz hsize hby hzs hK v rows.length rows.flatten hown.2 ad m c news.flatten (by rw [hfl, hrl]) hcells h1 hm hb hB
    refine ⟨v', w', hrun, ⟨hown.1.app hr.2.1, ?_⟩, h3, h5⟩
    rw [List.length_append, hrl, List.flatten_append]
    exact h2
/-- append(s, x..), s a row of the call's own. -/
theorem wpList_appK {ops : Array Oper} {rest : List Oper} {o : Oper} {a : Act} {Q : Exit → Act → World → Prop} (hgd : o.guard = none) (s x : Operand) (t : TypeId)
    (ho : o.op = .call { callee := .builtin .append, args := #[s, x], argTypes := #[t, t] }) {e : TypeId} {z : Value} {K bytes : Nat} (hE : EltK P t e z K bytes)
    {B : Nat} {v : Value} {rows : List (List Value)} (hs : a.eval s = v) (hown : OwnK K B w e v rows) {B2 m c : Nat} {A : Option Addr} {news : List (List Value)} (hx : a.eval x = .slice A m c) (hr : RdsK K w B2 A m news) (h1 : ∀ u ∈ news.flatten, u.oneCell' = true)
    (hm : rows.length + m ≤ maxLen) (hb : (rows.length + m) * bytes ≤ 140737488355328) (hB : B ≤ w.heap.size)
    (h : ∀ v' w', Hid (OwnK K B w' e v' (rows ++ news)) → Hid (Below B w w') → Hid (w.grownBy w' v.ownBlock ∧ (v'.ownBlock = v.ownBlock ∨ v'.ownBlock = some w.heap.size)) → wpList P ops Q rest (a.put o.dst v') w') : wpList P ops Q (o :: rest) a w := by
  refine wpList_plain hgd fun _ hK => ?_
  obtain ⟨v', w', hrun, h2, h3, h4⟩ := run_appK (ty := o.type) (c := c) hE hown hr h1 hm hb hB
  unfold Oper.wp execOp
  simp only [ho, resolve, invoke, builtin, Sem.run_bind, Sem.run_pure, Result.andThen_ok, List.map_toArray, List.map_cons, List.map_nil, hs, hx, hrun]
  exact hK _ _ (h v' w' (Lib.hid h2) (Lib.hid ((Below.refl B w).grown h3 hB fun k hk => (hown.block k hk).1)) (Lib.hid ⟨h3, h4⟩))
/-- A literal of one element. -/
theorem RdsK.lit1 (w : World) (t : TypeId) (r : List Value) : RdsK r.length (w.alloc (.cells r.toArray t)) (w.heap.size + 1) (some ⟨w.heap.size, 0, none⟩) 1 [r] := by
  refine ⟨rfl, AllK.cons rfl (AllK.nil _), ?_⟩
  have h := Rds.lit w t r.toArray
  simpa using h
end
end Go.Proofs.Ythogflfjdfcpeaa

/- Which pages stay: the mathematics of the clock, as chapter 15 tells it. -/
namespace Go.Proofs.Ythogflfjdfcpeaa

/-- A loop's rounds, till there is none more. -/
def runF {σ : Type} (f : σ → Option σ) : Nat → σ → σ
  | 0, s => s
  | n + 1, s => match f s with
    | none => s
    | some s' => runF f n s'
/-- After k rounds it ends at t. -/
def Ends {σ : Type} (f : σ → Option σ) : Nat → σ → σ → Prop
  | 0, s, t => f s = none ∧ s = t
  | k + 1, s, t => ∃ s', f s = some s' ∧ Ends f k s' t
theorem Ends.last {σ : Type} {f : σ → Option σ} : ∀ {k : Nat} {s t : σ}, Ends f k s t → f t = none
  | 0, _, _, h => h.2 ▸ h.1
  | k + 1, _, _, ⟨_, _, h⟩ => Ends.last (k := k) h
theorem Ends.run {σ : Type} {f : σ → Option σ} : ∀ {k : Nat} {s t : σ}, Ends f k s t → ∀ {n : Nat}, k ≤ n → runF f n s = t
  | 0, s, t, h, n, _ => by
    cases n with
    | zero => exact h.2
    | succ n => unfold runF; rw [h.1]; exact h.2
  | k + 1, s, t, ⟨s', h1, h2⟩, n, hn => by
    cases n with
    | zero => omega
    | succ n => unfold runF; rw [h1]; exact Ends.run (k := k) h2 (by omega)
theorem ends_run {σ : Type} {f : σ → Option σ} (I : σ → Prop) (μ : σ → Nat) (hI : ∀ s s', I s → f s = some s' → I s' ∧ μ s' < μ s) : ∀ (n : Nat) (s : σ), I s → μ s ≤ n → ∃ k, k ≤ n ∧ Ends f k s (runF f n s) ∧ I (runF f n s) := by
  intro n
  induction n with
  | zero =>
    intro s hs hn
    cases h : f s with
    | none => exact ⟨0, Nat.le_refl _, ⟨h, rfl⟩, hs⟩
    | some s' => have := (hI s s' hs h).2; omega
  | succ n ih =>
    intro s hs hn
    cases h : f s with
    | none => exact ⟨0, Nat.zero_le _, by unfold runF; rw [h]; exact ⟨h, rfl⟩, by unfold runF; rw [h]; exact hs⟩
    | some s' =>
      obtain ⟨h1, h2⟩ := hI s s' hs h
      obtain ⟨k, h3, h4, h5⟩ := ih s' h1 (by omega)
      exact ⟨k + 1, by omega, by unfold runF; rw [h]; exact ⟨s', h, h4⟩, by unfold runF; rw [h]; exact h5⟩
/-- What each round keeps is kept. -/
theorem Ends.keep {σ : Type} {f : σ → Option σ} (P : σ → Prop) (hP : ∀ s s', P s → f s = some s' → P s') : ∀ {k : Nat} {s t : σ}, Ends f k s t → P s → P t
  | 0, _, _, h, hs => h.2 ▸ hs
  | k + 1, _, _, ⟨s', h1, h2⟩, hs => Ends.keep P hP (k := k) h2 (hP _ s' hs h1)

structure KeyN where
  s : Int
  l : Int
  b : Int
deriving DecidableEq, Repr
structure PagN where
  key : KeyN
  kind : Int
  ref : Bool
  trial : Bool
  pins : Int
deriving DecidableEq, Repr
structure ClkN where
  most : Int
  target : Int
  ps : List PagN
  hot : Nat
  cold : Nat
  test : Nat
deriving DecidableEq, Repr
def newK (most : Int) : ClkN := ⟨min (max most 1) 1000, 1, [], 0, 0, 0⟩
def findK (k : KeyN) (ps : List PagN) : Option Nat := ps.findIdx? fun p => p.key == k
def cntK (kind : Int) (ps : List PagN) : Nat := ps.countP fun p => p.kind == kind
def PagN.resi (p : PagN) : Bool := p.kind == 1 || p.kind == 2
def aimK (c : ClkN) (n : Int) : ClkN := { c with target := min (max (c.target + n) 1) c.most }
def onK (len i : Nat) : Nat := if len ≤ i + 1 then 0 else i + 1
def goneK (len hand i : Nat) : Nat := if i < hand then hand - 1 else if len ≤ hand then 0 else hand
def strikeK (ps : List PagN) (i : Nat) : List PagN := ps.take i ++ ps.drop (i + 1)
def goesK (c : ClkN) (i : Nat) : ClkN :=
  { c with ps := strikeK c.ps i, hot := goneK (strikeK c.ps i).length c.hot i, cold := goneK (strikeK c.ps i).length c.cold i, test := goneK (strikeK c.ps i).length c.test i }
def comeK (c : ClkN) (p : PagN) : ClkN :=
  if c.ps = [] then { c with ps := [p], hot := 0, cold := 0, test := 0 }
  else { c with ps := c.ps.take c.hot ++ p :: c.ps.drop c.hot, hot := c.hot + 1, cold := if c.hot ≤ c.cold then c.cold + 1 else c.cold, test := if c.hot ≤ c.test then c.test + 1 else c.test }
/-- The hand Hot: one look. -/
def hotF (x : ClkN × Bool) : Option (ClkN × Bool) :=
  if x.2 then none
  else if cntK 1 x.1.ps = 0 then none
  else match x.1.ps[x.1.hot]? with
    | none => none
    | some p =>
      if p.kind = 1 then
        if p.ref then some ({ x.1 with ps := x.1.ps.set x.1.hot { p with ref := false }, hot := onK x.1.ps.length x.1.hot }, false)
        else some ({ x.1 with ps := x.1.ps.set x.1.hot { p with kind := 2, ref := false, trial := false }, hot := onK x.1.ps.length x.1.hot }, true)
      else if p.kind = 2 then some ({ x.1 with ps := x.1.ps.set x.1.hot { p with trial := false }, hot := onK x.1.ps.length x.1.hot }, false)
      else some (aimK (goesK x.1 x.1.hot) (-1), false)
/-- A ring, from a place on. -/
def rotK (ps : List PagN) (i : Nat) : List PagN := ps.drop i ++ ps.take i
def isHot (p : PagN) : Bool := p.kind == 1
def isTest (p : PagN) : Bool := p.kind == 3
def isLoose (p : PagN) : Bool := p.kind == 2 && p.pins == 0
def hotRefs (ps : List PagN) : Nat := ps.countP fun p => p.kind == 1 && p.ref
def muH (K : Nat) (x : ClkN × Bool) : Nat := if x.2 then 0 else 1 + ((hotRefs x.1.ps + x.1.ps.length) * K + (rotK x.1.ps x.1.hot).findIdx isHot)
def turnHotK (c : ClkN) : ClkN := (runF hotF (muH (c.ps.length + 1) (c, false)) (c, false)).1
/-- The hand Test: one look. -/
def testF (x : ClkN × Bool) : Option (ClkN × Bool) :=
  if x.2 then none
  else if cntK 3 x.1.ps = 0 then none
  else match x.1.ps[x.1.test]? with
    | none => none
    | some p =>
      if p.kind = 3 then some (aimK (goesK x.1 x.1.test) (-1), true)
      else if p.kind = 2 ∧ p.trial = true then some (aimK { x.1 with ps := x.1.ps.set x.1.test { p with trial := false }, test := onK x.1.ps.length x.1.test } (-1), false)
      else some ({ x.1 with test := onK x.1.ps.length x.1.test }, false)
def muT (x : ClkN × Bool) : Nat := if x.2 then 0 else 1 + (rotK x.1.ps x.1.test).findIdx isTest
def turnTestK (c : ClkN) : ClkN := (runF testF (muT (c, false)) (c, false)).1
/-- As long as there are too many hot ones. -/
def coolF (c : ClkN) : Option ClkN := if c.most - c.target < (cntK 1 c.ps : Int) then some (turnHotK c) else none
def coolK (c : ClkN) : ClkN := runF coolF (cntK 1 c.ps) c
/-- As long as there are too many on trial. -/
def trimF (c : ClkN) : Option ClkN := if c.most < (cntK 3 c.ps : Int) then some (turnTestK c) else none
def trimK (c : ClkN) : ClkN := runF trimF (cntK 3 c.ps) c
/-- As long as no cold one is loose. -/
def warmF (c : ClkN) : Option ClkN := if c.ps.any isLoose then none else some (turnHotK c)
def warmK (c : ClkN) : ClkN := runF warmF (cntK 1 c.ps) c
def isFree (p : PagN) : Bool := p.resi && p.pins == 0
/-- The hand Cold: one look. -/
def coldF (x : ClkN × List KeyN × Bool) : Option (ClkN × List KeyN × Bool) :=
  if x.2.2 then none
  else if x.1.ps.any isFree = false then none
  else
    let c := warmK x.1
    match c.ps[c.cold]? with
    | none => none
    | some p =>
      if p.kind ≠ 2 ∨ 0 < p.pins then some ({ c with cold := onK c.ps.length c.cold }, x.2.1, false)
      else if p.ref then
        if p.trial then some (coolK { c with ps := c.ps.set c.cold { p with kind := 1, trial := false, ref := false }, cold := onK c.ps.length c.cold }, x.2.1, false)
        else some ({ c with ps := c.ps.set c.cold { p with trial := true, ref := false }, cold := onK c.ps.length c.cold }, x.2.1, false)
      else if p.trial then some (trimK { c with ps := c.ps.set c.cold { p with kind := 3 }, cold := onK c.ps.length c.cold }, x.2.1 ++ [p.key], true)
      else some (trimK (goesK c c.cold), x.2.1 ++ [p.key], true)
def refsK (ps : List PagN) : Nat := ps.countP fun p => p.ref
def muC (K : Nat) (x : ClkN × List KeyN × Bool) : Nat := if x.2.2 then 0 else 1 + (refsK x.1.ps * (K + 2) + if x.1.ps.any isLoose then (rotK x.1.ps x.1.cold).findIdx isLoose else K + 1)
def turnColdK (c : ClkN) (out : List KeyN) : ClkN × List KeyN :=
  let x := runF coldF (muC c.ps.length (c, out, false)) (c, out, false)
  (x.1, x.2.1)
/-- As long as there is no room. -/
def roomF (x : ClkN × List KeyN) : Option (ClkN × List KeyN) := if x.1.most ≤ (cntK 1 x.1.ps + cntK 2 x.1.ps : Nat) then some (turnColdK x.1 x.2) else none
def roomK (c : ClkN) : ClkN × List KeyN := runF roomF (cntK 1 c.ps + cntK 2 c.ps) (c, [])
def touchK (c : ClkN) (k : KeyN) : ClkN × Bool := match findK k c.ps with
  | none => (c, false)
  | some i => match c.ps[i]? with
    | none => (c, false)
    | some p => if p.resi then ({ c with ps := c.ps.set i { p with ref := true } }, true) else (c, false)
def pinK (c : ClkN) (k : KeyN) (n : Int) : ClkN × Bool := match findK k c.ps with
  | none => (c, false)
  | some i => match c.ps[i]? with
    | none => (c, false)
    | some p => if p.resi then ({ c with ps := c.ps.set i { p with pins := max (p.pins + n) 0 } }, true) else (c, false)
def dropK (c : ClkN) (k : KeyN) : ClkN × Bool := match findK k c.ps with
  | none => (c, false)
  | some i => (goesK c i, true)
/-- Is it resident? What is cleared for it; as what it comes. -/
def resAt (c : ClkN) (k : KeyN) : Bool := match findK k c.ps with
  | none => false
  | some i => match c.ps[i]? with
    | none => false
    | some p => p.resi
def clearK (c : ClkN) (k : KeyN) : ClkN := match findK k c.ps with
  | none => c
  | some i => aimK (goesK c i) 1
def pageK (c : ClkN) (k : KeyN) : PagN := match findK k c.ps with
  | none => ⟨k, 2, false, true, 0⟩
  | some _ => ⟨k, 1, false, false, 0⟩
def admitK (c : ClkN) (k : KeyN) : ClkN × List KeyN × Bool :=
  if resAt c k then ((touchK c k).1, [], (touchK c k).2)
  else if c.most ≤ (cntK 1 c.ps + cntK 2 c.ps : Nat) ∧ c.ps.any isFree = false then (c, [], false)
  else (coolK (comeK (roomK (clearK c k)).1 (pageK c k)), (roomK (clearK c k)).2, true)

/-! What stays so. -/
def OkP (p : PagN) : Prop := (p.kind = 1 ∨ p.kind = 2 ∨ p.kind = 3) ∧ 0 ≤ p.pins ∧ (p.kind = 3 → p.pins = 0)
def PgsK (ps : List PagN) : Prop := (∀ p ∈ ps, OkP p) ∧ (ps.map (·.key)).Nodup
/-- Its hands are places (0, where there are none), its target is no more than may be, its pages are what they should be. -/
structure BaseK (c : ClkN) : Prop where
  most : 1 ≤ c.most ∧ c.most ≤ 1000
  target : 1 ≤ c.target ∧ c.target ≤ c.most
  pgs : PgsK c.ps
  hot : c.hot < max c.ps.length 1
  cold : c.cold < max c.ps.length 1
  test : c.test < max c.ps.length 1
/-- Who is resident, and the pins. -/
def resL (ps : List PagN) : List (KeyN × Int) := (ps.filter PagN.resi).map fun p => (p.key, p.pins)
theorem resL_app (a b : List PagN) : resL (a ++ b) = resL a ++ resL b := by simp [resL]
theorem resL_cons (p : PagN) (b : List PagN) : resL (p :: b) = (if p.resi then [(p.key, p.pins)] else []) ++ resL b := by
  unfold resL
  by_cases h : p.resi = true <;> simp [h]
theorem resi_of {p : PagN} (h : OkP p) : p.resi = true ↔ p.kind ≠ 3 := by
  unfold PagN.resi
  rcases h.1 with e | e | e <;> simp [e]
theorem split_at {ps : List PagN} {i : Nat} {p : PagN} (h : ps[i]? = some p) : ∃ A B, ps = A ++ p :: B ∧ A.length = i := by
  obtain ⟨hl, e⟩ := List.getElem?_eq_some_iff.1 h
  refine ⟨ps.take i, ps.drop (i + 1), ?_, by rw [List.length_take]; omega⟩
  rw [← e, List.getElem_cons_drop, List.take_append_drop]
theorem set_split (A B : List PagN) (p q : PagN) : (A ++ p :: B).set A.length q = A ++ q :: B := by simp
theorem strike_split (A B : List PagN) (p : PagN) : strikeK (A ++ p :: B) A.length = A ++ B := by
  unfold strikeK
  rw [List.take_left' rfl, ← List.drop_drop, List.drop_left' rfl]
  rfl
theorem onK_lt {n i : Nat} (h : i < max n 1) : onK n i < max n 1 := by unfold onK; split <;> omega
theorem goneK_lt {n h i : Nat} (hh : h < n + 1) (hi : i < n + 1) : goneK n h i < max n 1 := by
  unfold goneK
  split
  · omega
  · split <;> omega
theorem rot_on (A B : List PagN) (q : PagN) (n : Nat) (hn : n = A.length + 1 + B.length) : rotK (A ++ q :: B) (onK n A.length) = B ++ A ++ [q] := by
  subst hn
  unfold onK rotK
  by_cases h : B = []
  · subst h
    simp
  · have : ¬ A.length + 1 + B.length ≤ A.length + 1 := by
      have := List.length_pos_iff.2 h
      omega
    rw [if_neg this]
    have e : A ++ q :: B = (A ++ [q]) ++ B := by simp
    rw [e, List.drop_left' (by simp), List.take_left' (by simp)]
    simp
theorem rot_gone (A B : List PagN) : rotK (A ++ B) (goneK (A ++ B).length A.length A.length) = B ++ A := by
  unfold goneK rotK
  rw [if_neg (by omega)]
  by_cases h : B = []
  · subst h
    simp
  · have : ¬ (A ++ B).length ≤ A.length := by
      have := List.length_pos_iff.2 h
      rw [List.length_append]
      omega
    rw [if_neg this, List.drop_left' rfl, List.take_left' rfl]
theorem rot_at (A B : List PagN) (p : PagN) : rotK (A ++ p :: B) A.length = p :: (B ++ A) := by
  unfold rotK
  rw [List.drop_left' rfl, List.take_left' rfl]
  rfl
/-- One that is looked for comes nearer. -/
theorem find_near {f : PagN → Bool} {p q : PagN} {A B : List PagN} (hp : f p = false) (he : ∃ x, x ∈ B ++ A ∧ f x = true) : (B ++ A ++ [q]).findIdx f + 1 = (p :: (B ++ A)).findIdx f := by
  rw [List.findIdx_append, if_pos (List.findIdx_lt_length.2 (by obtain ⟨x, h1, h2⟩ := he; exact ⟨x, h1, h2⟩)), List.findIdx_cons, hp]
  rfl
theorem find_near0 {f : PagN → Bool} {p : PagN} {A B : List PagN} (hp : f p = false) : (B ++ A).findIdx f + 1 = (p :: (B ++ A)).findIdx f := by
  rw [List.findIdx_cons, hp]
  rfl
theorem pgs_set {A B : List PagN} {p q : PagN} (h : PgsK (A ++ p :: B)) (hk : q.key = p.key) (hq : OkP q) : PgsK (A ++ q :: B) := by
  refine ⟨fun x hx => ?_, ?_⟩
  · rcases List.mem_append.1 hx with hx | hx
    · exact h.1 x (List.mem_append_left _ hx)
    rcases List.mem_cons.1 hx with rfl | hx
    · exact hq
    · exact h.1 x (List.mem_append_right _ (List.mem_cons_of_mem _ hx))
  · have := h.2
    simpa [hk] using this
theorem keys_strike (A B : List PagN) (p : PagN) : ((A ++ B).map (·.key)).Sublist ((A ++ p :: B).map (·.key)) := by
  refine List.Sublist.map _ ?_
  exact List.Sublist.append (List.Sublist.refl A) (List.sublist_cons_self p B)
theorem pgs_strike {A B : List PagN} {p : PagN} (h : PgsK (A ++ p :: B)) : PgsK (A ++ B) := by
  refine ⟨fun x hx => ?_, h.2.sublist (keys_strike A B p)⟩
  rcases List.mem_append.1 hx with hx | hx
  · exact h.1 x (List.mem_append_left _ hx)
  · exact h.1 x (List.mem_append_right _ (List.mem_cons_of_mem _ hx))
theorem BaseK.ok_at {c : ClkN} (h : BaseK c) {i : Nat} {p : PagN} (hp : c.ps[i]? = some p) : OkP p := h.pgs.1 p (List.mem_of_getElem? hp)
/-- Who is resident stays so, and all else is less. -/
structure Turn (c c' : ClkN) : Prop where
  base : BaseK c'
  most : c'.most = c.most
  target : c'.target ≤ c.target
  res : resL c'.ps = resL c.ps
  keys : (c'.ps.map (·.key)).Sublist (c.ps.map (·.key))
  tests : cntK 3 c'.ps ≤ cntK 3 c.ps
  refs : refsK c'.ps ≤ refsK c.ps
  len : c'.ps.length ≤ c.ps.length
theorem Turn.refl {c : ClkN} (h : BaseK c) : Turn c c := ⟨h, rfl, Int.le_refl _, rfl, List.Sublist.refl _, Nat.le_refl _, Nat.le_refl _, Nat.le_refl _⟩
theorem Turn.trans {a b c : ClkN} (h : Turn a b) (k : Turn b c) : Turn a c :=
  ⟨k.base, k.most.trans h.most, Int.le_trans k.target h.target, k.res.trans h.res, k.keys.trans h.keys, Nat.le_trans k.tests h.tests, Nat.le_trans k.refs h.refs, Nat.le_trans k.len h.len⟩
theorem aim_base {c : ClkN} (h : BaseK c) (n : Int) : BaseK (aimK c n) := ⟨h.most, by have := h.target; have := h.most; show 1 ≤ min (max (c.target + n) 1) c.most ∧ min (max (c.target + n) 1) c.most ≤ c.most; omega, h.pgs, h.hot, h.cold, h.test⟩
theorem aim_less {c : ClkN} (h : BaseK c) : (aimK c (-1)).target ≤ c.target := by
  have := h.target
  show min (max (c.target + -1) 1) c.most ≤ c.target
  omega
theorem Turn.aim {c c' : ClkN} (h : Turn c c') : Turn c (aimK c' (-1)) := ⟨aim_base h.base _, h.most, Int.le_trans (aim_less h.base) h.target, h.res, h.keys, h.tests, h.refs, h.len⟩
/-- One page is written: it stays whom it is. -/
theorem turn_set {c : ClkN} (h : BaseK c) {i : Nat} {p q : PagN} (hp : c.ps[i]? = some p) (hk : q.key = p.key) (hpin : q.pins = p.pins) (hr : q.resi = p.resi) (hq : OkP q) (ht : q.kind = 3 → p.kind = 3) (href : q.ref = true → p.ref = true)
    (c' : ClkN) (hm : c'.most = c.most) (htg : c'.target = c.target) (hps : c'.ps = c.ps.set i q) (h1 : c'.hot < max c.ps.length 1) (h2 : c'.cold < max c.ps.length 1) (h3 : c'.test < max c.ps.length 1) : Turn c c' := by
  have hlen : (c.ps.set i q).length = c.ps.length := List.length_set ..
  obtain ⟨A, B, e, rfl⟩ := split_at hp
  have hpg := h.pgs
  rw [e] at hpg
  have es : c'.ps = A ++ q :: B := by rw [hps, e, set_split]
  refine ⟨⟨by rw [hm]; exact h.most, by rw [hm, htg]; exact h.target, by rw [es]; exact pgs_set hpg hk hq, ?_, ?_, ?_⟩, hm, by rw [htg]; exact Int.le_refl _, ?_, ?_, ?_, ?_, ?_⟩
  · rw [hps, hlen]; exact h1
  · rw [hps, hlen]; exact h2
  · rw [hps, hlen]; exact h3
  · rw [es, e, resL_app, resL_app, resL_cons, resL_cons, hk, hpin, hr]
  · rw [es, e]
    simp [hk]
  · rw [es, e]
    unfold cntK
    simp only [List.countP_append, List.countP_cons]
    by_cases hq3 : q.kind = 3
    · simp [hq3, ht hq3]
    · simp [hq3]
  · rw [es, e]
    unfold refsK
    simp only [List.countP_append, List.countP_cons]
    by_cases hqr : q.ref = true
    · simp [hqr, href hqr]
    · simp [hqr]
  · rw [hps, hlen]
    exact Nat.le_refl _
/-- One on trial goes. -/
theorem turn_goes {c : ClkN} (h : BaseK c) {i : Nat} {p : PagN} (hp : c.ps[i]? = some p) (hk : p.kind = 3) : Turn c (goesK c i) ∧ cntK 3 (goesK c i).ps + 1 = cntK 3 c.ps ∧ (goesK c i).ps.length + 1 = c.ps.length ∧ cntK 1 (goesK c i).ps = cntK 1 c.ps := by
  obtain ⟨A, B, e, rfl⟩ := split_at hp
  have hpg := h.pgs
  have hok := h.ok_at hp
  rw [e] at hpg
  have es : strikeK c.ps A.length = A ++ B := by rw [e, strike_split]
  have eg : (goesK c A.length).ps = A ++ B := es
  have hl : c.ps.length = (A ++ B).length + 1 := by rw [e]; simp; omega
  have hr : p.resi = false := by
    have := (not_congr (resi_of hok)).2 (by simp [hk])
    simpa using this
  refine ⟨⟨⟨h.most, h.target, by rw [eg]; exact pgs_strike hpg, ?_, ?_, ?_⟩, rfl, Int.le_refl _, ?_, ?_, ?_, ?_, ?_⟩, ?_, ?_, ?_⟩
  · rw [eg]; show goneK (strikeK c.ps A.length).length c.hot A.length < _; rw [es]; exact goneK_lt (by have := h.hot; omega) (by rw [List.length_append]; omega)
  · rw [eg]; show goneK (strikeK c.ps A.length).length c.cold A.length < _; rw [es]; exact goneK_lt (by have := h.cold; omega) (by rw [List.length_append]; omega)
  · rw [eg]; show goneK (strikeK c.ps A.length).length c.test A.length < _; rw [es]; exact goneK_lt (by have := h.test; omega) (by rw [List.length_append]; omega)
  · rw [eg, e, resL_app, resL_app, resL_cons, hr]; rfl
  · rw [eg, e]; exact keys_strike A B p
  · rw [eg, e]; unfold cntK; simp only [List.countP_append, List.countP_cons]; omega
  · rw [eg, e]; unfold refsK; simp only [List.countP_append, List.countP_cons]; omega
  · rw [eg, hl]; omega
  · rw [eg, e]; unfold cntK; simp only [List.countP_append, List.countP_cons]; simp [hk]; omega
  · rw [eg, hl]
  · rw [eg, e]; unfold cntK; simp only [List.countP_append, List.countP_cons]; simp [hk]

theorem cnt_pos {k : Int} {ps : List PagN} (h : cntK k ps ≠ 0) : ∃ x, x ∈ ps ∧ x.kind = k := by
  unfold cntK at h
  obtain ⟨x, h1, h2⟩ := List.countP_pos_iff.1 (Nat.pos_of_ne_zero h)
  exact ⟨x, h1, by simpa using h2⟩
theorem hand_at {ps : List PagN} {h : Nat} (hh : h < max ps.length 1) (hne : ps ≠ []) : ∃ p, ps[h]? = some p := by
  have := List.length_pos_iff.2 hne
  exact ⟨ps[h]'(by omega), List.getElem?_eq_getElem _⟩
/-- One look of the hand Hot. -/
theorem hotF_step {K : Nat} {c c' : ClkN} {b : Bool} (h : BaseK c) (hK : c.ps.length < K) (e : hotF (c, false) = some (c', b)) :
    Turn c c' ∧ cntK 1 c'.ps + (if b then 1 else 0) = cntK 1 c.ps ∧ muH K (c', b) < muH K (c, false) := by
  unfold hotF at e
  simp only [Bool.false_eq_true, if_false] at e
  split at e
  · cases e
  · rename_i hc
    obtain ⟨x, hx1, hx2⟩ := cnt_pos hc
    cases hp : c.ps[c.hot]? with
    | none => rw [hp] at e; cases e
    | some p =>
      rw [hp] at e
      simp only at e
      have hok := h.ok_at hp
      obtain ⟨A, B, es, hA⟩ := split_at hp
      have hln : c.ps.length = A.length + 1 + B.length := by rw [es]; simp; omega
      have hhot : c.hot = A.length := hA.symm
      have hrot : rotK c.ps c.hot = p :: (B ++ A) := by rw [es, hhot, rot_at]
      split at e
      · rename_i h1
        split at e
        · rename_i hr
          injection e with e
          injection e with e1 e2
          subst e1 e2
          refine ⟨turn_set (q := { p with ref := false }) h hp rfl rfl (by unfold PagN.resi; rfl) ⟨.inl h1, hok.2.1, fun h3 => hok.2.2 h3⟩ (fun h3 => h3) (fun h3 => by simp at h3) _ rfl rfl rfl (onK_lt h.hot) h.cold h.test, ?_, ?_⟩
          · show cntK 1 (c.ps.set c.hot _) + 0 = _
            rw [es, hhot, set_split]
            unfold cntK
            simp only [List.countP_append, List.countP_cons]
            omega
          · show 1 + ((hotRefs (c.ps.set c.hot { p with ref := false }) + (c.ps.set c.hot { p with ref := false }).length) * K + (rotK (c.ps.set c.hot { p with ref := false }) (onK c.ps.length c.hot)).findIdx isHot) < 1 + ((hotRefs c.ps + c.ps.length) * K + (rotK c.ps c.hot).findIdx isHot)
            rw [List.length_set]
            have hrefs : hotRefs (c.ps.set c.hot { p with ref := false }) + 1 = hotRefs c.ps := by
              rw [es, hhot, set_split]
              unfold hotRefs
              simp only [List.countP_append, List.countP_cons]
              simp [h1, hr]
              omega
            have hle : (rotK (c.ps.set c.hot { p with ref := false }) (onK c.ps.length c.hot)).findIdx isHot ≤ c.ps.length := by
              refine Nat.le_trans List.findIdx_le_length ?_
              unfold rotK
              rw [List.length_append, List.length_drop, List.length_take, List.length_set]
              omega
            have hmul : (hotRefs c.ps + c.ps.length) * K = (hotRefs (c.ps.set c.hot { p with ref := false }) + c.ps.length) * K + K := by
              rw [← hrefs, show hotRefs (c.ps.set c.hot { p with ref := false }) + 1 + c.ps.length = (hotRefs (c.ps.set c.hot { p with ref := false }) + c.ps.length) + 1 by omega, Nat.add_mul, Nat.one_mul]
            omega
        · injection e with e
          injection e with e1 e2
          subst e1 e2
          refine ⟨turn_set (q := { p with kind := 2, ref := false, trial := false }) h hp rfl rfl (by unfold PagN.resi; simp [h1]) ⟨.inr (.inl rfl), hok.2.1, fun h3 => by simp at h3⟩ (fun h3 => by simp at h3) (fun h3 => by simp at h3) _ rfl rfl rfl (onK_lt h.hot) h.cold h.test, ?_, ?_⟩
          · show cntK 1 (c.ps.set c.hot _) + 1 = _
            rw [es, hhot, set_split]
            unfold cntK
            simp only [List.countP_append, List.countP_cons]
            simp [h1]
            omega
          · show 0 < 1 + _
            omega
      · rename_i h1
        have hnh : isHot p = false := by unfold isHot; simp [h1]
        have hex : ∃ y, y ∈ B ++ A ∧ isHot y = true := by
          refine ⟨x, ?_, by unfold isHot; simp [hx2]⟩
          rw [es] at hx1
          rcases List.mem_append.1 hx1 with hx1 | hx1
          · exact List.mem_append_right _ hx1
          rcases List.mem_cons.1 hx1 with rfl | hx1
          · exact absurd hx2 h1
          · exact List.mem_append_left _ hx1
        split at e
        · rename_i h2
          injection e with e
          injection e with e1 e2
          subst e1 e2
          refine ⟨turn_set (q := { p with trial := false }) h hp rfl rfl (by unfold PagN.resi; rfl) ⟨.inr (.inl h2), hok.2.1, fun h3 => hok.2.2 h3⟩ (fun h3 => h3) (fun h3 => h3) _ rfl rfl rfl (onK_lt h.hot) h.cold h.test, ?_, ?_⟩
          · show cntK 1 (c.ps.set c.hot _) + 0 = _
            rw [es, hhot, set_split]
            unfold cntK
            simp only [List.countP_append, List.countP_cons]
            omega
          · show 1 + ((hotRefs (c.ps.set c.hot _) + (c.ps.set c.hot _).length) * K + _) < 1 + ((hotRefs c.ps + c.ps.length) * K + (rotK c.ps c.hot).findIdx isHot)
            rw [List.length_set, hrot]
            have hrefs : hotRefs (c.ps.set c.hot { p with trial := false }) = hotRefs c.ps := by
              rw [es, hhot, set_split]
              unfold hotRefs
              simp only [List.countP_append, List.countP_cons]
            have hnew : rotK (c.ps.set c.hot { p with trial := false }) (onK c.ps.length c.hot) = B ++ A ++ [{ p with trial := false }] := by
              rw [hhot]
              have : c.ps.set A.length { p with trial := false } = A ++ { p with trial := false } :: B := by rw [es, set_split]
              rw [this, rot_on A B _ _ hln]
            have := find_near (q := { p with trial := false }) hnh hex
            show 1 + ((hotRefs (c.ps.set c.hot _) + c.ps.length) * K + (rotK (c.ps.set c.hot _) (onK c.ps.length c.hot)).findIdx isHot) < _
            rw [hrefs, hnew]
            omega
        · rename_i h2
          have h3 : p.kind = 3 := by rcases hok.1 with h | h | h <;> first | exact absurd h h1 | exact absurd h h2 | exact h
          injection e with e
          injection e with e1 e2
          subst e1 e2
          obtain ⟨t1, t2, t3, t4⟩ := turn_goes h hp h3
          refine ⟨t1.aim, by show cntK 1 (goesK c c.hot).ps + 0 = _; omega, ?_⟩
          show 1 + ((hotRefs (goesK c c.hot).ps + (goesK c c.hot).ps.length) * K + (rotK (goesK c c.hot).ps (goesK c c.hot).hot).findIdx isHot) < 1 + ((hotRefs c.ps + c.ps.length) * K + (rotK c.ps c.hot).findIdx isHot)
          have hrot2 : rotK (goesK c c.hot).ps (goesK c c.hot).hot = B ++ A := by
            have : strikeK c.ps c.hot = A ++ B := by rw [es, hhot, strike_split]
            show rotK (strikeK c.ps c.hot) (goneK (strikeK c.ps c.hot).length c.hot c.hot) = _
            rw [this, hhot, rot_gone]
          have hrefs : hotRefs (goesK c c.hot).ps = hotRefs c.ps := by
            have : (goesK c c.hot).ps = A ++ B := by show strikeK c.ps c.hot = _; rw [es, hhot, strike_split]
            rw [this, es]
            unfold hotRefs
            simp only [List.countP_append, List.countP_cons]
            simp [h1]
          rw [hrot, hrot2, hrefs]
          have h5 := find_near0 (A := A) (B := B) hnh
          have h6 : (hotRefs c.ps + (goesK c c.hot).ps.length) * K ≤ (hotRefs c.ps + c.ps.length) * K := Nat.mul_le_mul_right K (by omega)
          omega
/-- The hand Hot turns: it ends; one that was hot is cold, and whoever is resident stays so. -/
theorem hot_ends {c : ClkN} (h : BaseK c) : Turn c (turnHotK c) ∧ (cntK 1 c.ps ≠ 0 → cntK 1 (turnHotK c).ps + 1 = cntK 1 c.ps) ∧ (cntK 1 c.ps = 0 → turnHotK c = c) ∧ ∃ k b, Ends hotF k (c, false) (turnHotK c, b) := by
  obtain ⟨k, _, h2, h3⟩ := ends_run (f := hotF) (fun x => Turn c x.1 ∧ cntK 1 x.1.ps + (if x.2 then 1 else 0) = cntK 1 c.ps) (muH (c.ps.length + 1)) (by
    rintro ⟨d, b⟩ ⟨d', b'⟩ ⟨h1, h2⟩ e
    cases b with
    | true => cases e
    | false =>
      obtain ⟨g1, g2, g3⟩ := hotF_step (K := c.ps.length + 1) h1.base (Nat.lt_succ_of_le h1.len) e
      have h2' : cntK 1 d.ps = cntK 1 c.ps := by simpa using h2
      exact ⟨⟨h1.trans g1, by rw [← h2']; exact g2⟩, g3⟩) (muH (c.ps.length + 1) (c, false)) (c, false) ⟨Turn.refl h, by simp⟩ (Nat.le_refl _)
  have hlast := h2.last
  obtain ⟨x, hx⟩ : ∃ x, x = runF hotF (muH (c.ps.length + 1) (c, false)) (c, false) := ⟨_, rfl⟩
  have hturn : turnHotK c = x.1 := by rw [hx]; rfl
  rw [← hx] at h2 h3 hlast
  refine ⟨by rw [hturn]; exact h3.1, fun hc => ?_, fun hc => ?_, k, x.2, by rw [hturn]; exact h2⟩
  · rw [hturn]
    obtain ⟨d, b⟩ := x
    cases b with
    | true => exact h3.2
    | false =>
      exfalso
      have h31 : cntK 1 d.ps = cntK 1 c.ps := by have := h3.2; simpa using this
      have hb : BaseK d := h3.1.base
      unfold hotF at hlast
      simp only [Bool.false_eq_true, if_false] at hlast
      rw [if_neg (by rw [h31]; exact hc)] at hlast
      obtain ⟨y, hy, _⟩ := cnt_pos (k := 1) (ps := d.ps) (by rw [h31]; exact hc)
      obtain ⟨p, hp⟩ := hand_at hb.hot (by rintro e; rw [e] at hy; cases hy)
      rw [hp] at hlast
      simp only at hlast
      split at hlast
      · split at hlast <;> cases hlast
      · split at hlast <;> cases hlast
  · have : hotF (c, false) = none := by
      unfold hotF
      simp [hc]
    have h4 : Ends hotF 0 (c, false) (c, false) := ⟨this, rfl⟩
    have := h4.run (n := muH (c.ps.length + 1) (c, false)) (Nat.zero_le _)
    rw [hturn, hx, this]

theorem turn_hands {c : ClkN} (h : BaseK c) {a b t : Nat} (ha : a < max c.ps.length 1) (hb : b < max c.ps.length 1) (ht : t < max c.ps.length 1) : Turn c { c with hot := a, cold := b, test := t } :=
  ⟨⟨h.most, h.target, h.pgs, ha, hb, ht⟩, rfl, Int.le_refl _, rfl, List.Sublist.refl _, Nat.le_refl _, Nat.le_refl _, Nat.le_refl _⟩
/-- One look of the hand Test. -/
theorem testF_step {c c' : ClkN} {b : Bool} (h : BaseK c) (e : testF (c, false) = some (c', b)) :
    Turn c c' ∧ cntK 3 c'.ps + (if b then 1 else 0) = cntK 3 c.ps ∧ cntK 1 c'.ps = cntK 1 c.ps ∧ muT (c', b) < muT (c, false) := by
  unfold testF at e
  simp only [Bool.false_eq_true, if_false] at e
  split at e
  · cases e
  · rename_i hc
    obtain ⟨x, hx1, hx2⟩ := cnt_pos hc
    cases hp : c.ps[c.test]? with
    | none => rw [hp] at e; cases e
    | some p =>
      rw [hp] at e
      simp only at e
      have hok := h.ok_at hp
      obtain ⟨A, B, es, hA⟩ := split_at hp
      have hln : c.ps.length = A.length + 1 + B.length := by rw [es]; simp; omega
      have hhot : c.test = A.length := hA.symm
      have hrot : rotK c.ps c.test = p :: (B ++ A) := by rw [es, hhot, rot_at]
      split at e
      · rename_i h3
        injection e with e
        injection e with e1 e2
        subst e1 e2
        obtain ⟨t1, t2, t3, t4⟩ := turn_goes h hp h3
        exact ⟨t1.aim, t2, t4, by show 0 < 1 + _; omega⟩
      · rename_i h3
        have hnh : isTest p = false := by unfold isTest; simp [h3]
        have hex : ∃ y, y ∈ B ++ A ∧ isTest y = true := by
          refine ⟨x, ?_, by unfold isTest; simp [hx2]⟩
          rw [es] at hx1
          rcases List.mem_append.1 hx1 with hx1 | hx1
          · exact List.mem_append_right _ hx1
          rcases List.mem_cons.1 hx1 with rfl | hx1
          · exact absurd hx2 h3
          · exact List.mem_append_left _ hx1
        split at e
        · rename_i h2
          injection e with e
          injection e with e1 e2
          subst e1 e2
          have hcnt : ∀ k, cntK k (c.ps.set c.test { p with trial := false }) = cntK k c.ps := fun k => by
            rw [es, hhot, set_split]
            unfold cntK
            simp only [List.countP_append, List.countP_cons]
          refine ⟨(turn_set (q := { p with trial := false }) h hp rfl rfl (by unfold PagN.resi; rfl) ⟨.inr (.inl h2.1), hok.2.1, fun h3 => hok.2.2 h3⟩ (fun h3 => h3) (fun h3 => h3) { c with ps := c.ps.set c.test { p with trial := false }, test := onK c.ps.length c.test } rfl rfl rfl h.hot h.cold (onK_lt h.test)).aim, hcnt 3, hcnt 1, ?_⟩
          show 1 + (rotK (c.ps.set c.test { p with trial := false }) (onK c.ps.length c.test)).findIdx isTest < 1 + (rotK c.ps c.test).findIdx isTest
          have hnew : rotK (c.ps.set c.test { p with trial := false }) (onK c.ps.length c.test) = B ++ A ++ [{ p with trial := false }] := by
            rw [hhot]
            have : c.ps.set A.length { p with trial := false } = A ++ { p with trial := false } :: B := by rw [es, set_split]
            rw [this, rot_on A B _ _ hln]
          have := find_near (q := { p with trial := false }) hnh hex
          rw [hnew, hrot]
          omega
        · injection e with e
          injection e with e1 e2
          subst e1 e2
          refine ⟨turn_hands h h.hot h.cold (onK_lt h.test), rfl, rfl, ?_⟩
          show 1 + (rotK c.ps (onK c.ps.length c.test)).findIdx isTest < 1 + (rotK c.ps c.test).findIdx isTest
          have hnew : rotK c.ps (onK c.ps.length c.test) = B ++ A ++ [p] := by
            rw [hhot]
            have : rotK c.ps (onK c.ps.length A.length) = rotK (A ++ p :: B) (onK c.ps.length A.length) := by rw [← es]
            rw [this, rot_on A B _ _ hln]
          have := find_near (q := p) hnh hex
          rw [hnew, hrot]
          omega
/-- The hand Test turns: it ends; one that was on trial has gone. -/
theorem test_ends {c : ClkN} (h : BaseK c) : Turn c (turnTestK c) ∧ (cntK 3 c.ps ≠ 0 → cntK 3 (turnTestK c).ps + 1 = cntK 3 c.ps) ∧ cntK 1 (turnTestK c).ps = cntK 1 c.ps ∧ ∃ k b, Ends testF k (c, false) (turnTestK c, b) := by
  obtain ⟨k, _, h2, h3⟩ := ends_run (f := testF) (fun x => Turn c x.1 ∧ cntK 3 x.1.ps + (if x.2 then 1 else 0) = cntK 3 c.ps ∧ cntK 1 x.1.ps = cntK 1 c.ps) muT (by
    rintro ⟨d, b⟩ ⟨d', b'⟩ ⟨h1, h2, h3⟩ e
    cases b with
    | true => cases e
    | false =>
      obtain ⟨g1, g2, g3, g4⟩ := testF_step h1.base e
      have h2' : cntK 3 d.ps = cntK 3 c.ps := by simpa using h2
      exact ⟨⟨h1.trans g1, by rw [← h2']; exact g2, g3.trans h3⟩, g4⟩) (muT (c, false)) (c, false) ⟨Turn.refl h, by simp, rfl⟩ (Nat.le_refl _)
  have hlast := h2.last
  obtain ⟨x, hx⟩ : ∃ x, x = runF testF (muT (c, false)) (c, false) := ⟨_, rfl⟩
  have hturn : turnTestK c = x.1 := by rw [hx]; rfl
  rw [← hx] at h2 h3 hlast
  refine ⟨by rw [hturn]; exact h3.1, fun hc => ?_, by rw [hturn]; exact h3.2.2, k, x.2, by rw [hturn]; exact h2⟩
  rw [hturn]
  obtain ⟨d, b⟩ := x
  cases b with
  | true => exact h3.2.1
  | false =>
    exfalso
    have h31 : cntK 3 d.ps = cntK 3 c.ps := by have := h3.2.1; simpa using this
    have hb : BaseK d := h3.1.base
    unfold testF at hlast
    simp only [Bool.false_eq_true, if_false] at hlast
    rw [if_neg (by rw [h31]; exact hc)] at hlast
    obtain ⟨y, hy, _⟩ := cnt_pos (k := 3) (ps := d.ps) (by rw [h31]; exact hc)
    obtain ⟨p, hp⟩ := hand_at hb.test (by rintro e; rw [e] at hy; cases hy)
    rw [hp] at hlast
    simp only at hlast
    split at hlast
    · cases hlast
    · split at hlast <;> cases hlast
/-- As long as there are too many hot ones. -/
theorem cool_ends {c : ClkN} (h : BaseK c) : Turn c (coolK c) ∧ (cntK 1 (coolK c).ps : Int) ≤ (coolK c).most - (coolK c).target ∧ ∃ k, Ends coolF k c (coolK c) := by
  obtain ⟨k, _, h2, h3⟩ := ends_run (f := coolF) (fun x => Turn c x) (fun x => cntK 1 x.ps) (by
    intro d d' h1 e
    unfold coolF at e
    split at e
    · rename_i hd
      injection e with e
      subst e
      have hb := h1.base
      obtain ⟨g1, g2, _, _⟩ := hot_ends hb
      have := g2 (by have := hb.target; omega)
      exact ⟨h1.trans g1, by show cntK 1 (turnHotK d).ps < cntK 1 d.ps; omega⟩
    · cases e) (cntK 1 c.ps) c (Turn.refl h) (Nat.le_refl _)
  refine ⟨h3, ?_, k, h2⟩
  have hl := h2.last
  unfold coolF at hl
  split at hl
  · cases hl
  · rename_i hd
    have : ¬ (coolK c).most - (coolK c).target < (cntK 1 (coolK c).ps : Int) := hd
    omega
/-- As long as there are too many on trial. -/
theorem trim_ends {c : ClkN} (h : BaseK c) : Turn c (trimK c) ∧ cntK 1 (trimK c).ps = cntK 1 c.ps ∧ (cntK 3 (trimK c).ps : Int) ≤ (trimK c).most ∧ ∃ k, Ends trimF k c (trimK c) := by
  obtain ⟨k, _, h2, h3⟩ := ends_run (f := trimF) (fun x => Turn c x ∧ cntK 1 x.ps = cntK 1 c.ps) (fun x => cntK 3 x.ps) (by
    intro d d' ⟨h1, h1'⟩ e
    unfold trimF at e
    split at e
    · rename_i hd
      injection e with e
      subst e
      have hb := h1.base
      obtain ⟨g1, g2, g3, _⟩ := test_ends hb
      have := g2 (by have := hb.most; omega)
      exact ⟨⟨h1.trans g1, g3.trans h1'⟩, by show cntK 3 (turnTestK d).ps < cntK 3 d.ps; omega⟩
    · cases e) (cntK 3 c.ps) c ⟨Turn.refl h, rfl⟩ (Nat.le_refl _)
  refine ⟨h3.1, h3.2, ?_, k, h2⟩
  have hl := h2.last
  unfold trimF at hl
  split at hl
  · cases hl
  · rename_i hd
    have : ¬ (trimK c).most < (cntK 3 (trimK c).ps : Int) := hd
    omega
theorem free_res (ps : List PagN) : ps.any isFree = (resL ps).any (fun x => x.2 == 0) := by
  induction ps with
  | nil => rfl
  | cons p ps ih =>
    rw [resL_cons, List.any_append, List.any_cons, ih]
    unfold isFree
    by_cases h : p.resi = true
    · simp [h]
    · simp [h]
theorem loose_free {ps : List PagN} (h : ∀ p ∈ ps, OkP p) (hf : ps.any isFree = true) (hn : ps.any isLoose = false) : cntK 1 ps ≠ 0 := by
  obtain ⟨p, hp, hfp⟩ := List.any_eq_true.1 hf
  have hnl : isLoose p = false := by
    have := List.any_eq_false.1 hn p hp
    simpa using this
  unfold isFree at hfp
  unfold isLoose at hnl
  simp only [Bool.and_eq_true] at hfp
  have hk : p.kind = 1 := by
    have h2 : ¬ p.kind = 2 := by
      intro e
      rw [e, hfp.2] at hnl
      simp at hnl
    have := (resi_of (h p hp)).1 hfp.1
    rcases (h p hp).1 with e | e | e
    · exact e
    · exact absurd e h2
    · exact absurd e this
  unfold cntK
  have : 0 < ps.countP fun p => p.kind == 1 := List.countP_pos_iff.2 ⟨p, hp, by simp [hk]⟩
  omega
/-- As long as no cold one is loose. -/
theorem warm_ends {c : ClkN} (h : BaseK c) (hf : c.ps.any isFree = true) : Turn c (warmK c) ∧ (warmK c).ps.any isLoose = true ∧ cntK 1 (warmK c).ps ≤ cntK 1 c.ps ∧ (c.ps.any isLoose = true → warmK c = c) ∧ ∃ k, Ends warmF k c (warmK c) := by
  obtain ⟨k, hk, h2, h3⟩ := ends_run (f := warmF) (fun x => Turn c x ∧ cntK 1 x.ps ≤ cntK 1 c.ps) (fun x => cntK 1 x.ps) (by
    intro d d' ⟨h1, h1'⟩ e
    unfold warmF at e
    split at e
    · cases e
    · rename_i hd
      injection e with e
      subst e
      have hb := h1.base
      obtain ⟨g1, g2, _, _⟩ := hot_ends hb
      have := g2 (loose_free hb.pgs.1 (by rw [free_res, h1.res, ← free_res]; exact hf) (by simpa using hd))
      exact ⟨⟨h1.trans g1, by omega⟩, by show cntK 1 (turnHotK d).ps < cntK 1 d.ps; omega⟩) (cntK 1 c.ps) c ⟨Turn.refl h, Nat.le_refl _⟩ (Nat.le_refl _)
  refine ⟨h3.1, ?_, h3.2, fun hl => ?_, k, h2⟩
  · have hl := h2.last
    unfold warmF at hl
    split at hl
    · rename_i hd
      exact hd
    · cases hl
  · have h0 : warmF c = none := by unfold warmF; rw [if_pos hl]
    have h4 : Ends warmF 0 c c := ⟨h0, rfl⟩
    exact h4.run (n := cntK 1 c.ps) (Nat.zero_le _)
end Go.Proofs.Ythogflfjdfcpeaa

/- A whole element of a row of the call's own is written, cell by cell. -/
namespace Go.Proofs.Ythogflfjdfcpeaa
open Go.RowKit

section
variable {w : World} {B K g n cap i : Nat} {e : TypeId} {rows : List (List Value)} {r : List Value}
/-- A whole element is written, cell by cell: so far j of them. -/
def cellsTo (w : World) (g o : Nat) : Nat → List Value → World
  | _, [] => w
  | j, u :: us => cellsTo (w.setCell ⟨g, o + j, none⟩ u) g o (j + 1) us
theorem OwnK.cellsTo_ : ∀ (us : List Value) {w : World} {j : Nat} {rows : List (List Value)} {r : List Value}, OwnK K B w e (.slice (some ⟨g, 0, none⟩) n cap) rows → rows.length = n → rows[i]? = some r → j + us.length ≤ K → OwnK K B (cellsTo w g (i * K) j us) e (.slice (some ⟨g, 0, none⟩) n cap) (rows.set i (r.take j ++ us ++ r.drop (j + us.length)))
  | [], w, j, rows, r, h, hn, hr, _ => by
    obtain ⟨hi, er⟩ := List.getElem?_eq_some_iff.1 hr
    rw [List.append_nil, List.length_nil, Nat.add_zero, List.take_append_drop, ← er, List.set_getElem_self hi]
    exact h
  | u :: us, w, j, rows, r, h, hn, hr, hj => by
    rw [List.length_cons] at hj
    obtain ⟨_, _, h3⟩ := h.set_ hn hr (show j < K by omega) u
    have hrl : r.length = K := h.1 r (List.mem_of_getElem? hr)
    have hi := (List.getElem?_eq_some_iff.1 hr).1
    have h4 := OwnK.cellsTo_ us (j := j + 1) h3 (by rw [List.length_set]; exact hn) (r := r.set j u) (by rw [List.getElem?_set_self hi]) (by omega)
    rw [List.set_set] at h4
    have e1 : (r.set j u).take (j + 1) = r.take j ++ [u] := by
      rw [List.take_add_one, List.getElem?_set_self (by omega), List.take_set_of_le (Nat.le_refl _)]
      rfl
    have e2 : (r.set j u).drop (j + 1 + us.length) = r.drop (j + (us.length + 1)) := by
      rw [List.drop_set_of_lt (by omega)]
      congr 1
      omega
    rw [e1, e2] at h4
    rw [List.length_cons]
    have e3 : r.take j ++ u :: us ++ r.drop (j + (us.length + 1)) = r.take j ++ [u] ++ us ++ r.drop (j + (us.length + 1)) := by simp
    rw [e3]
    exact h4
/-- .. all of them. -/
theorem OwnK.whole {us : List Value} (h : OwnK K B w e (.slice (some ⟨g, 0, none⟩) n cap) rows) (hn : rows.length = n) (hr : rows[i]? = some r) (hu : us.length = K) : OwnK K B (cellsTo w g (i * K) 0 us) e (.slice (some ⟨g, 0, none⟩) n cap) (rows.set i us) := by
  have h1 := OwnK.cellsTo_ us (j := 0) h hn hr (by omega)
  have hrl : r.length = K := h.1 r (List.mem_of_getElem? hr)
  rw [List.take_zero, List.nil_append, Nat.zero_add, hu, List.drop_of_length_le (by omega), List.append_nil] at h1
  exact h1
theorem mod_cellsTo : ∀ (us : List Value) (w : World) (g o j : Nat), Mod (fun k => k = g) w (cellsTo w g o j us)
  | [], w, _, _, _ => Mod.refl _ w
  | u :: us, w, g, o, j => ((Mod.refl (fun k => k = g) w).setCell (p := ⟨g, o + j, none⟩) (fun _ => rfl) u).trans (mod_cellsTo us _ g o (j + 1)) (fun _ _ h => h)
end
end Go.Proofs.Ythogflfjdfcpeaa

/- Clocks in memory: rows of pages, seven cells each. -/
namespace Go.Proofs.Ythogflfjdfcpeaa
open Go.RowKit

def pagC (p : PagN) : List Value := [.int .i64 p.key.s, .int .i64 p.key.l, .int .i64 p.key.b, .int .i64 p.kind, .bool p.ref, .bool p.trial, .int .i64 p.pins]
/-- A row of pages reads so; a row of pages of the call's own. -/
def RdsP (w : World) (B : Nat) (A : Option Addr) (n : Nat) (ps : List PagN) : Prop := RdsK 7 w B A n (ps.map pagC)
def OwnP (B : Nat) (w : World) (e : TypeId) (v : Value) (ps : List PagN) : Prop := OwnK 7 B w e v (ps.map pagC)
theorem add_cellK (K : Nat) (a : Addr) (i j : Nat) (hj : 0 < j) : (⟨(a.add (i * K)).block, (a.add (i * K)).off + j, none⟩ : Addr) = a.add (i * K + j) := by
  rw [← add_add]
  have : ¬ j = 0 := by omega
  simp [Addr.add, this]
section
variable {w w' : World} {B B' n : Nat} {A : Option Addr} {e : TypeId} {v : Value} {ps : List PagN}
theorem RdsP.nil (w : World) (B : Nat) (A : Option Addr) : RdsP w B A 0 [] := RdsK.nil _ _ _ _
theorem RdsP.mod {S : Nat → Prop} (h : RdsP w B A n ps) (hm : Mod S w w') (hB : B ≤ w.heap.size) (hS : ∀ j, j < B → ¬ S j) : RdsP w' B A n ps := RdsK.mod h hm hB hS
theorem RdsP.new (h : RdsP w B A n ps) (hm : Mod (fun _ => False) w w') : RdsP w' w.heap.size A n ps := RdsK.new h hm
theorem RdsP.fit (h : RdsP w B A n ps) : RdsP w w.heap.size A n ps := RdsK.fit h
theorem RdsP.more (h : RdsP w B A n ps) (hB : B ≤ B') : RdsP w B' A n ps := RdsK.more h hB
theorem RdsP.len (h : RdsP w B A n ps) : ps.length = n := by have := h.1; rwa [List.length_map] at this
theorem RdsP.take {k : Nat} (h : RdsP w B A n ps) (hk : k ≤ n) : RdsP w B A k (ps.take k) := by unfold RdsP; rw [List.map_take]; exact RdsK.take h hk
theorem RdsP.drop {k c : Nat} (h : RdsP w B A n ps) (hk : k ≤ n) (hc : n ≤ c) : RdsP w B (if c = k then A else A.map (·.add (k * 7))) (n - k) (ps.drop k) := by unfold RdsP; rw [List.map_drop]; exact RdsK.drop h hk hc (by decide)
/-- The i-th page: its seven cells, as the model's loads spell them. -/
theorem RdsP.at_ {i : Nat} (h : RdsP w B A n ps) (hi : i < n) : ∃ ad p, A = some ad ∧ ad.block < B ∧ ps[i]? = some p ∧
    w.cell? (ad.add (i * 7)) = some (.int .i64 p.key.s) ∧ w.cell? ⟨(ad.add (i * 7)).block, (ad.add (i * 7)).off + 1, none⟩ = some (.int .i64 p.key.l) ∧ w.cell? ⟨(ad.add (i * 7)).block, (ad.add (i * 7)).off + 2, none⟩ = some (.int .i64 p.key.b) ∧
    w.cell? ⟨(ad.add (i * 7)).block, (ad.add (i * 7)).off + 3, none⟩ = some (.int .i64 p.kind) ∧ w.cell? ⟨(ad.add (i * 7)).block, (ad.add (i * 7)).off + 4, none⟩ = some (.bool p.ref) ∧
    w.cell? ⟨(ad.add (i * 7)).block, (ad.add (i * 7)).off + 5, none⟩ = some (.bool p.trial) ∧ w.cell? ⟨(ad.add (i * 7)).block, (ad.add (i * 7)).off + 6, none⟩ = some (.int .i64 p.pins) := by
  obtain ⟨ad, r, e, hb, hr, hl, hc⟩ := RdsK.at_ h hi (by decide)
  rw [List.getElem?_map] at hr
  obtain ⟨p, hp, rfl⟩ := Option.map_eq_some_iff.1 hr
  refine ⟨ad, p, e, hb, hp, hc 0 _ rfl, ?_, ?_, ?_, ?_, ?_, ?_⟩
  · rw [add_cellK 7 _ _ _ (by decide)]; exact hc 1 _ rfl
  · rw [add_cellK 7 _ _ _ (by decide)]; exact hc 2 _ rfl
  · rw [add_cellK 7 _ _ _ (by decide)]; exact hc 3 _ rfl
  · rw [add_cellK 7 _ _ _ (by decide)]; exact hc 4 _ rfl
  · rw [add_cellK 7 _ _ _ (by decide)]; exact hc 5 _ rfl
  · rw [add_cellK 7 _ _ _ (by decide)]; exact hc 6 _ rfl
theorem OwnP.nil (B : Nat) (w : World) (e : TypeId) : OwnP B w e (.slice none 0 0) [] := OwnK.nil _ _ _ _
theorem OwnP.mod (h : OwnP B w e v ps) (hm : Mod (fun _ => False) w w') : OwnP B w' e v ps := OwnK.mod h hm
theorem OwnP.modS {S : Nat → Prop} (h : OwnP B w e v ps) (hm : Mod S w w') (hS : ∀ k, B ≤ k → ¬ S k) : OwnP B w' e v ps := OwnK.modS h hm (fun k hk => hS k (OwnK.block h k hk).1)
theorem OwnP.mono (h : OwnP B w e v ps) (hB : B' ≤ B) : OwnP B' w e v ps := OwnK.mono h hB
theorem OwnP.form (h : OwnP B w e v ps) : ∃ A c, v = .slice A ps.length c ∧ ps.length ≤ c ∧ c ≤ maxLen ∧ RdsP w w.heap.size A ps.length ps := by
  obtain ⟨A, c, h1, _, h2, h3, h4⟩ := OwnK.form h
  rw [List.length_map] at h1 h2 h4
  exact ⟨A, c, h1, h2, h3, h4⟩
theorem OwnP.form' (h : OwnP B w e v ps) (hn : 0 < ps.length) : ∃ g cap, v = .slice (some ⟨g, 0, none⟩) ps.length cap ∧ ps.length ≤ cap ∧ cap ≤ maxLen ∧ B ≤ g ∧ g < w.heap.size := by
  have := OwnK.form' h (by rw [List.length_map]; exact hn)
  rwa [List.length_map] at this
/-- One cell of one page is written. -/
theorem OwnP.put_ {g n cap i j : Nat} {p q : PagN} {u : Value} (h : OwnP B w e (.slice (some ⟨g, 0, none⟩) n cap) ps) (hn : ps.length = n) (hp : ps[i]? = some p) (hj : j < 7) (hu : (pagC p).set j u = pagC q) :
    (∃ x, (pagC p)[j]? = some x ∧ w.cell? ⟨g, i * 7 + j, none⟩ = some x) ∧ w.frozen? ⟨g, i * 7 + j, none⟩ = false ∧ OwnP B (w.setCell ⟨g, i * 7 + j, none⟩ u) e (.slice (some ⟨g, 0, none⟩) n cap) (ps.set i q) := by
  have hr : (ps.map pagC)[i]? = some (pagC p) := by rw [List.getElem?_map, hp]; rfl
  obtain ⟨h1, h2, h3⟩ := OwnK.set_ h (by rw [List.length_map]; exact hn) hr hj u
  refine ⟨h1, h2, ?_⟩
  unfold OwnP
  rw [List.map_set, ← hu]
  exact h3
end
end Go.Proofs.Ythogflfjdfcpeaa

/- Rows of samples in memory, two cells a sample: what a slice reads as; a row of the call's own; append of one, make, and one sample written. -/
namespace Go.Proofs.Ythogflfjdfcpeaa
open Go.RowKit

def cellsS (l : List (Int × Nat)) : List Value := l.flatMap fun p => [Value.int .i64 p.1, Value.int .u64 (p.2 : Int)]
theorem cellsS_cons (p : Int × Nat) (l : List (Int × Nat)) : cellsS (p :: l) = .int .i64 p.1 :: .int .u64 (p.2 : Int) :: cellsS l := rfl
theorem cellsS_get {l : List (Int × Nat)} : ∀ {i : Nat} {p : Int × Nat}, l[i]? = some p → (cellsS l)[i * 2]? = some (.int .i64 p.1) ∧ (cellsS l)[i * 2 + 1]? = some (.int .u64 (p.2 : Int)) := by
  induction l with
  | nil => intro i p h; simp at h
  | cons q l ih =>
    intro i p h
    cases i with
    | zero =>
      rw [List.getElem?_cons_zero] at h
      injection h with h
      subst h
      exact ⟨rfl, rfl⟩
    | succ i =>
      rw [List.getElem?_cons_succ] at h
      obtain ⟨h1, h2⟩ := ih h
      rw [cellsS_cons, show (i + 1) * 2 = i * 2 + 1 + 1 by omega]
      exact ⟨by rw [List.getElem?_cons_succ, List.getElem?_cons_succ]; exact h1, by rw [List.getElem?_cons_succ, List.getElem?_cons_succ]; exact h2⟩
theorem add_one_cell (a : Addr) (i : Nat) : (⟨(a.add (i * 2)).block, (a.add (i * 2)).off + 1, none⟩ : Addr) = a.add (i * 2 + 1) := by
  rw [← add_add]
  simp [Addr.add]
/-- The slice at A, n samples long, reads as l, below block B. -/
def RdsS (w : World) (B : Nat) (A : Option Addr) (n : Nat) (l : List (Int × Nat)) : Prop := l.length = n ∧ Rds w B A (n * 2) (cellsS l)
section
variable {w w' : World} {B B' n : Nat} {A : Option Addr} {l : List (Int × Nat)}
theorem RdsS.nil (w : World) (B : Nat) (A : Option Addr) : RdsS w B A 0 [] := ⟨rfl, Rds.nil _ _ _⟩
theorem RdsS.more (h : RdsS w B A n l) (hB : B ≤ B') : RdsS w B' A n l := ⟨h.1, h.2.more hB⟩
theorem RdsS.below (h : RdsS w B A n l) (hb : Below B w w') : RdsS w' B A n l := ⟨h.1, h.2.below hb⟩
theorem RdsS.drew (h : RdsS w B A n l) : RdsS w.drew B A n l := h
theorem RdsS.alloc (h : RdsS w B A n l) (hB : B ≤ w.heap.size) (o : Obj) : RdsS (w.alloc o) B A n l := ⟨h.1, h.2.alloc hB o⟩
theorem RdsS.fit (h : RdsS w B A n l) : RdsS w w.heap.size A n l := ⟨h.1, h.2.fit⟩
theorem RdsS.mod {S : Nat → Prop} (h : RdsS w B A n l) (hm : Mod S w w') (hB : B ≤ w.heap.size) (hS : ∀ j, j < B → ¬ S j) : RdsS w' B A n l := ⟨h.1, h.2.mod hm hB hS⟩
theorem RdsS.new (h : RdsS w B A n l) (hm : Mod (fun _ => False) w w') : RdsS w' w.heap.size A n l := ⟨h.1, h.2.new hm⟩
theorem RdsS.at_ {k : Nat} (h : RdsS w B A n l) (hk : k < n) : ∃ ad p, A = some ad ∧ ad.block < B ∧ l[k]? = some p ∧ w.cell? (ad.add (k * 2)) = some (.int .i64 p.1) ∧ w.cell? (ad.add (k * 2 + 1)) = some (.int .u64 (p.2 : Int)) := by
  obtain ⟨ad, e, hb, hc⟩ := h.2.2 (by omega)
  have hl : k < l.length := by have := h.1; omega
  obtain ⟨h1, h2⟩ := cellsS_get (List.getElem?_eq_getElem hl)
  exact ⟨ad, l[k], e, hb, List.getElem?_eq_getElem hl, hc _ _ h1, hc _ _ h2⟩
theorem RdsS.some_ (h : RdsS w B A n l) (hn : 0 < n) : ∃ ad, A = some ad ∧ ad.block < B := by
  obtain ⟨ad, e, hb, _⟩ := h.2.2 (by omega)
  exact ⟨ad, e, hb⟩
end

section
variable {w w' : World} {B B' : Nat} {v : Value} {l : List (Int × Nat)}
end
section
variable {w : World}
end
end Go.Proofs.Ythogflfjdfcpeaa

/- One hand alone: the mathematics of the model, as chapter 14 tells it. -/
namespace Go.Proofs.Ythogflfjdfcpeaa

/-- A series, an iterator, all that there is. -/
structure SerN where
  id : Int
  sea : Bool
  any : Bool
  last : Int
  l : List (Int × Nat)
deriving DecidableEq
structure IteN where
  id : Int
  rest : List (Int × Nat)
deriving DecidableEq
structure ModN where
  ser : List SerN
  ite : List IteN
  next : Int
deriving DecidableEq
structure OpN where
  kind : Int
  series : Int
  iter : Int
  t : Int
  v : Nat
  from_ : Int
  to_ : Int
  n : Int
structure ResN where
  err : Int
  iter : Int
  l : List (Int × Nat)
deriving DecidableEq
def ModN.nil : ModN := ⟨[], [], 0⟩
def ResN.of (e : Int) : ResN := ⟨e, 0, []⟩
def SerN.put (s : SerN) (t : Int) (v : Nat) : SerN := { s with any := true, last := t, l := s.l ++ [(t, v)] }
/-- Rising by their numbers. -/
def RiseM (m : ModN) : Prop := (m.ser.map (·.id)).Pairwise (· < ·) ∧ (m.ite.map (·.id)).Pairwise (· < ·)
/-- What stays so, whatever is done: numbers rise; an iterator's is no greater than the last one's; there are eight of them at most. -/
def KeepM (m : ModN) : Prop := RiseM m ∧ (∀ i ∈ m.ite, 1 ≤ i.id ∧ i.id ≤ m.next) ∧ m.ite.length ≤ 8 ∧ 0 ≤ m.next ∧ ∀ s ∈ m.ser, 0 ≤ s.id ∧ s.id ≤ 15
theorem KeepM.nil : KeepM .nil := ⟨⟨List.Pairwise.nil, List.Pairwise.nil⟩, (fun _ h => by cases h), Nat.zero_le _, Int.le_refl _, fun _ h => by cases h⟩
end Go.Proofs.Ythogflfjdfcpeaa

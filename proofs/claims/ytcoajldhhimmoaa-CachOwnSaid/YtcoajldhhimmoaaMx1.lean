/- The texts Hd, Mem, Mv, Yk, And, Fit, Yl, Yrb, Bitm, Refm, Qc, Ln, one behind the other. -/
import Derived.Below
import Derived.BigQuiet
import Derived.BigRegion
import Derived.ChangeSame
import Derived.Deep.AppendLies
import Derived.Deep.CutBlock
import Derived.Deep.DeepCutAuto
import Derived.Deep.DeepFit
import Derived.Deep.DeepHandedRow
import Derived.Deep.Draws
import Derived.Deep.LoopGhost
import Derived.Deep.MidRow
import Derived.Deep.QuietTactic
import Derived.Deep.RegionHeld
import Derived.Deep.RegionHeld3
import Derived.Deep.RegionHeldLaw
import Derived.Deep.RegionLaw
import Derived.Deep.RegionWith
import Derived.Deep.WholeRow
import Derived.IntWalk
import Derived.Laws.Bits64
import Derived.Laws.BitsAllLaws
import Derived.Laws.BitsLemmas
import Derived.Laws.CopyOwn
import Derived.Laws.IdiomStrings
import Derived.Laws.OwnMore
import Derived.Laws.ResultCell
import Derived.Laws.Rows
import Derived.Laws.StructEq
import Derived.Lib.AppendZerosOnto
import Derived.Lib.BitFns
import Derived.Lib.Hide
import Derived.Lib.LaidTab
import Derived.Lib.SlBytesConst
import Derived.Lib.Slices
import Derived.Lib.Small
import Derived.Lib.Strings
import Derived.Maps.AppendAt
import Derived.Maps.OwnSet
import Derived.OpenShut
import Derived.Outline
import Derived.OwnWalk
import Derived.ProofKit
import Derived.StillTailTactics
import Derived.WalkArith
import Derived.WalkKit
import Derived.WalkLawsBesides
import Derived.WalkSpells
import Derived.Test.YtcoajldhhimmoaaProg
import Derived.Maps.Views
/- What these texts see of the kit. -/

/- Words for memory: a block known whole, a world in which only some blocks have turned. -/
namespace Go.Proofs.Ytcoajldhhimmoaa
open Go.RowKit

theorem add_addr (g o j : Nat) : (⟨g, o, none⟩ : Addr).add j = ⟨g, o + j, none⟩ := by
  unfold Addr.add
  by_cases h : j = 0 <;> simp [h]
theorem add_block (a : Addr) (j : Nat) : (a.add j).block = a.block := by
  unfold Addr.add
  split <;> rfl
/-- A uint64's bound, behind a name: a numeral of that size among the hypotheses, even a hidden one, ends a walk in 'maximum recursion depth'. -/
def Lt64 (v : Nat) : Prop := v < 18446744073709551616
def Fit64 (v : Int) : Prop := 0 ≤ v ∧ v < 18446744073709551616
def FitI (n : Int) : Prop := -9223372036854775808 ≤ n ∧ n ≤ 9223372036854775807
theorem Lt64.out {v : Nat} (h : Lt64 v) : v < 18446744073709551616 := h
theorem Fit64.out {v : Int} (h : Fit64 v) : 0 ≤ v ∧ v < 18446744073709551616 := h
theorem FitI.out {v : Int} (h : FitI v) : -9223372036854775808 ≤ v ∧ v ≤ 9223372036854775807 := h
/-- An append's two bounds. -/
def Room (n m : Nat) : Prop := n + m ≤ maxLen ∧ (n + m) * 1 ≤ 140737488355328
theorem Room.mk (n m : Nat) (h : n + m ≤ 140737488355328) : Room n m := ⟨by unfold maxLen; omega, by omega⟩

/-- Block g is just these cells, none frozen. -/
def Blk (w : World) (g : Nat) (t : TypeId) (cs : Array Value) : Prop := w.heap[g]? = some (.cells cs t (0, 0))

section
variable {w w' : World} {g : Nat} {t : TypeId} {cs : Array Value}
theorem Blk.lt (h : Blk w g t cs) : g < w.heap.size := by
  rcases Nat.lt_or_ge g w.heap.size with hlt | hge
  · exact hlt
  · unfold Blk at h; rw [Array.getElem?_eq_none hge] at h; cases h
theorem Blk.cell (h : Blk w g t cs) (i : Nat) : w.cell? ⟨g, i, none⟩ = cs[i]? := cell_of_row w g i cs t (0, 0) h
theorem Blk.frozen (h : Blk w g t cs) (i : Nat) : w.frozen? ⟨g, i, none⟩ = false := by
  unfold Blk at h
  simp [World.frozen?, h]
theorem Blk.new (w : World) (t : TypeId) (cs : Array Value) : Blk (w.alloc (.cells cs t)) w.heap.size t cs := heap_alloc_new w _
theorem Blk.drew (h : Blk w g t cs) : Blk w.drew g t cs := h
theorem Blk.drewN (h : Blk w g t cs) (n : Nat) : Blk (w.drewN n) g t cs := h
theorem Blk.alloc (h : Blk w g t cs) (o : Obj) : Blk (w.alloc o) g t cs := (Below.heap_alloc w o g h.lt).trans h
theorem Blk.set_ (h : Blk w g t cs) (i : Nat) (u : Value) : Blk (w.setCell ⟨g, i, none⟩ u) g t (cs.setIfInBounds i u) := by
  unfold Blk at h ⊢
  simp [World.setCell, Array.getElem?_modify, h]
theorem Blk.far (h : Blk w g t cs) {p : Addr} (hp : g ≠ p.block) (u : Value) : Blk (w.setCell p u) g t cs := (Below.heap_setCell w p u g hp).trans h
theorem Blk.below {B : Nat} (h : Blk w g t cs) (hb : Below B w w') (hg : g < B) : Blk w' g t cs := (hb.block g hg).trans h
theorem Blk.grown {row : Option Nat} (h : Blk w g t cs) (hb : w.grownBy w' row) (hg : some g ≠ row) : Blk w' g t cs := (hb.block g h.lt hg).trans h
theorem Blk.ne_ {g' : Nat} {t' : TypeId} {cs' : Array Value} (h : Blk w g t cs) (h' : Blk w g' t' cs') (hne : t ≠ t') : g ≠ g' := by
  rintro rfl
  unfold Blk at h h'
  rw [h] at h'
  injection h' with h'
  injection h' with _ ht
  exact hne ht
theorem own_blk_ne {base : Nat} {e : TypeId} {size n : Nat} {v : Value} {xs : List Value} (h : w.ownsRow base e size v n xs) (hg : Blk w g t cs) (hne : e ≠ t) : v.ownBlock ≠ some g := by
  rcases h.2 with ⟨rfl, _⟩ | ⟨g', cap, cur, rfl, _, hh, _⟩
  · simp [Value.ownBlock]
  · intro he
    have : g' = g := by simpa [Value.ownBlock] using he
    subst this
    exact Blk.ne_ (t := e) hh hg hne rfl
end

theorem Blk.two {w : World} {g : Nat} {t : TypeId} {c0 c1 : Value} (h : Blk w g t #[c0, c1]) (u v : Value) :
    (w.setCell ⟨g, 0, none⟩ u).cell? ⟨g, 0, none⟩ = some u ∧ ((w.setCell ⟨g, 0, none⟩ u).setCell ⟨g, 1, none⟩ v).cell? ⟨g, 1, none⟩ = some v ∧ Blk ((w.setCell ⟨g, 0, none⟩ u).setCell ⟨g, 1, none⟩ v) g t #[u, v] := by
  have h1 := h.set_ 0 u
  have h2 := h1.set_ 1 v
  refine ⟨?_, ?_, ?_⟩
  · have := h1.cell 0; simpa using this
  · have := h2.cell 1; simpa using this
  · simpa using h2

/-- Only the blocks of S, and new ones, have turned. -/
structure Mod (S : Nat → Prop) (w w' : World) : Prop where
  os : w'.os = w.os
  tape : w'.tape = w.tape
  output : w'.output = w.output
  size : w.heap.size ≤ w'.heap.size
  block : ∀ k, k < w.heap.size → ¬ S k → w'.heap[k]? = w.heap[k]?

section
variable {S S' : Nat → Prop} {w w1 w2 : World}
theorem Mod.refl (S : Nat → Prop) (w : World) : Mod S w w := ⟨rfl, rfl, rfl, Nat.le_refl _, fun _ _ _ => rfl⟩
theorem Mod.trans (h : Mod S w w1) (k : Mod S' w1 w2) (hs : ∀ i, i < w.heap.size → S' i → S i) : Mod S w w2 :=
  ⟨k.os.trans h.os, k.tape.trans h.tape, k.output.trans h.output, Nat.le_trans h.size k.size, fun i hi hn =>
    (k.block i (Nat.lt_of_lt_of_le hi h.size) (fun hk => hn (hs i hi hk))).trans (h.block i hi hn)⟩
theorem Mod.mono (h : Mod S w w1) (hs : ∀ i, i < w.heap.size → S i → S' i) : Mod S' w w1 :=
  ⟨h.os, h.tape, h.output, h.size, fun i hi hn => h.block i hi (fun hk => hn (hs i hi hk))⟩
theorem Mod.drew (h : Mod S w w1) : Mod S w w1.drew := ⟨h.os, h.tape, h.output, h.size, h.block⟩
theorem Mod.drewN (h : Mod S w w1) (n : Nat) : Mod S w (w1.drewN n) := ⟨h.os, h.tape, h.output, h.size, h.block⟩
theorem Mod.alloc (h : Mod S w w1) (o : Obj) : Mod S w (w1.alloc o) :=
  h.trans (S' := fun _ => False) ⟨rfl, rfl, rfl, by simp, fun k hk _ => Below.heap_alloc _ _ _ hk⟩ (fun _ _ h => h.elim)
theorem Mod.setCell (h : Mod S w w1) {p : Addr} (hp : p.block < w.heap.size → S p.block) (u : Value) : Mod S w (w1.setCell p u) :=
  h.trans (S' := fun i => i = p.block) ⟨rfl, rfl, rfl, by simp [World.setCell], fun k hk hn => Below.heap_setCell _ _ _ _ hn⟩ (fun i hi h => by subst h; exact hp hi)
theorem Mod.grown {row : Option Nat} (h : Mod S w w1) (hg : w1.grownBy w2 row) (hr : ∀ k, row = some k → k < w.heap.size → S k) : Mod S w w2 :=
  h.trans (S' := fun i => row = some i) ⟨hg.os, hg.tape, hg.output, hg.size, fun k hk hn => hg.block k hk (fun e => hn e.symm)⟩ (fun i hi h => hr i h hi)
theorem Mod.below {B : Nat} (h : Mod S w w1) (hB : B ≤ w.heap.size) (hs : ∀ i, S i → B ≤ i) : Below B w w1 :=
  ⟨h.os, h.tape, h.output, h.size, fun i hi => h.block i (by omega) (fun hk => by have := hs i hk; omega)⟩
theorem Mod.of_below {B : Nat} (h : Below B w w1) : Mod (fun i => B ≤ i) w w1 := ⟨h.os, h.tape, h.output, h.size, fun i _ hn => h.block i (by omega)⟩
theorem Mod.blk {g : Nat} {t : TypeId} {cs : Array Value} (h : Mod S w w1) (hb : Blk w g t cs) (hn : ¬ S g) : Blk w1 g t cs := (h.block g hb.lt hn).trans hb
theorem Mod.cell (h : Mod S w w1) {a : Addr} (ha : a.block < w.heap.size) (hn : ¬ S a.block) : w1.cell? a = w.cell? a := World.cell?_of_block (h.block _ ha hn)
theorem Mod.owns {base : Nat} {e : TypeId} {size n : Nat} {v : Value} {xs : List Value} (h : Mod S w w1) (ho : w.ownsRow base e size v n xs) (hn : ∀ k, v.ownBlock = some k → ¬ S k) : w1.ownsRow base e size v n xs := by
  refine ⟨ho.1, ?_⟩
  rcases ho.2 with hl | ⟨g, cap, cur, rfl, hb, hgg, rest⟩
  · exact .inl hl
  · refine .inr ⟨g, cap, cur, rfl, hb, ?_, rest⟩
    rw [h.block g (Array.getElem?_eq_some_iff.1 hgg).1 (hn g (by simp [Value.ownBlock]))]
    exact hgg
end

/-- Bytes as cells. -/
def cells8 (bs : List Nat) : List Value := bs.map fun (b : Nat) => Value.int .u8 (b : Int)
theorem cells8_length (bs : List Nat) : (cells8 bs).length = bs.length := by simp [cells8]
/-- A slice at A, n long, reads as xs; its cells lie in block 'row'. -/
def Sees (w : World) (row : Nat) (A : Option Addr) (n : Nat) (xs : List Value) : Prop :=
  xs.length = n ∧ (0 < n → ∃ o, A = some ⟨row, o, none⟩ ∧ row < w.heap.size ∧ ∀ j u, xs[j]? = some u → w.cell? ⟨row, o + j, none⟩ = some u)
section
variable {w w1 : World} {row n : Nat} {A : Option Addr} {xs : List Value}
theorem Sees.mod {S : Nat → Prop} (h : Sees w row A n xs) (hm : Mod S w w1) (hn : row < w.heap.size → ¬ S row) : Sees w1 row A n xs :=
  ⟨h.1, fun h0 => by
    obtain ⟨o, e, hl, hc⟩ := h.2 h0
    exact ⟨o, e, Nat.lt_of_lt_of_le hl hm.size, fun j u hu => (hm.cell hl (hn hl)).trans (hc j u hu)⟩⟩
theorem Sees.of_own {base : Nat} {e : TypeId} {c : Nat} (h : w.ownsRow base e 1 (.slice A n c) n xs) (hr : 0 < n → (Value.slice A n c).ownBlock = some row) : Sees w row A n xs := by
  refine ⟨by simpa using h.1, fun hn => ?_⟩
  rcases h.2 with ⟨_, h0⟩ | ⟨g, cap, cur, e1, _, hg, _⟩
  · omega
  · have hr := hr hn
    injection e1 with eA en ec
    subst eA
    have : g = row := by simpa [Value.ownBlock] using hr
    subst this
    refine ⟨0, rfl, (Array.getElem?_eq_some_iff.1 hg).1, fun j u hu => ?_⟩
    have hj : j < xs.length := (List.getElem?_eq_some_iff.1 hu).1
    have h1 := h.1
    subst ec
    rw [Nat.zero_add, h.cellAt j (by omega)]
    exact hu
end
end Go.Proofs.Ytcoajldhhimmoaa

/- A map of the call's own whose elements are taken as they are (slices, pointers, numbers, strings): which value stands at which key, and how many there are. -/
namespace Go.Proofs.Ytcoajldhhimmoaa
open Go.RowKit Go.Maps

/-- Whatever the value is: it is taken as it is. -/
def valR (v : Value) : Option (DataW Value × List MemPlace) := some (.held v, [])
theorem valR_inv {v : Value} {d : DataW Value} {ps : List MemPlace} (h : valR v = some (d, ps)) : d = .held v := by
  injection h with h
  injection h with h _
  exact h.symm
open Classical in
/-- At kl there stands v from now on. -/
noncomputable def putL (f : Lit → Option Value) (kl : Lit) (v : Option Value) : Lit → Option Value := fun l => if l = kl then v else f l
theorem putL_same (f : Lit → Option Value) (kl : Lit) (v : Option Value) : putL f kl v kl = v := if_pos rfl
theorem putL_other (f : Lit → Option Value) {kl l : Lit} (v : Option Value) (h : l ≠ kl) : putL f kl v l = f l := if_neg h
/-- Block b is a map; at l there stands f l; s keys in all (n at most). -/
def MapV (w : World) (P : Program) (k : TypeId) (b n : Nat) (f : Lit → Option Value) (s : Nat) : Prop :=
  ∃ D, w.ownsMap P k valR b n D ∧ Maps.size D = s ∧ ∀ l, Maps.has D l = (f l).isSome ∧ ∀ z, D.atKey l (.held z) = .held ((f l).getD z)
section
variable {w w' : World} {P : Program} {k e t : TypeId} {b n s : Nat} {f : Lit → Option Value}
theorem MapV.lt (h : MapV w P k b n f s) : b < w.heap.size := by obtain ⟨D, h1, _⟩ := h; exact World.ownsMap.lt h1
theorem MapV.mod {S : Nat → Prop} (h : MapV w P k b n f s) (hm : Mod S w w') (hb : ¬ S b) : MapV w' P k b n f s := by
  have hlt := h.lt
  obtain ⟨D, ⟨es, clock, h1, h2⟩, h3⟩ := h
  exact ⟨D, ⟨es, clock, (hm.block b hlt hb).trans h1, h2⟩, h3⟩
theorem MapV.made (w : World) (P : Program) (k : TypeId) : MapV (w.alloc (.map #[] 0)) P k w.heap.size 0 (fun _ => none) 0 :=
  ⟨.map [], World.ownsMap_made _ _ _ _, rfl, fun _ => ⟨rfl, fun _ => rfl⟩⟩
theorem MapV.more {n' : Nat} (h : MapV w P k b n f s) (hn : n ≤ n') : MapV w P k b n' f s := by
  obtain ⟨D, h1, h2⟩ := h
  exact ⟨D, World.ownsMap.mono h1 hn, h2⟩
theorem MapV.same {f' : Lit → Option Value} (h : MapV w P k b n f s) (e : ∀ l, f' l = f l) : MapV w P k b n f' s := by rw [funext e]; exact h
/-- m[k]. -/
theorem MapV.look (h : MapV w P k b n f s) (K : Keyed P k) (ht : P.underlying t = some (.map k e)) {z : Value} (hz : (zeroValue e).run P w = .ok z w) {key : Value} {kl : Lit} (hkey : keyOf P k key = some kl) :
    (Instr.lookup t (.map (some b)) key false).run P w = .ok ((f kl).getD z) w := by
  obtain ⟨D, h1, _, h3⟩ := h
  obtain ⟨v, ps, hrun, hv⟩ := World.ownsMap.lookup h1 K ht hz (zd := .held z) (zp := []) rfl hkey
  rw [(h3 kl).2 z] at hv
  have := valR_inv hv
  injection this with this
  rw [hrun, this]
/-- len(m). -/
theorem MapV.len_ (h : MapV w P k b n f s) (ht : P.underlying t = some (.map k e)) (ty : TypeId) : (Builtin.len_ #[t] ty #[.map (some b)]).run P w = .ok (.int .i64 s) w := by
  obtain ⟨D, h1, rfl, _⟩ := h
  exact World.ownsMap.len h1 ht ty
theorem turned_mod {b : Nat} (h : w.mapTurned w' b) : Mod (fun j => j = b) w w' := (Mod.refl (fun j => j = b) w).grown h.grown (fun j hj _ => by injection hj with hj; exact hj.symm)
/-- m[k] = v. -/
theorem MapV.store (h : MapV w P k b n f s) (K : Keyed P k) (ht : P.underlying t = some (.map k e)) (hn : n < maxLen) {key : Value} (val : Value) {kl : Lit} (hkey : keyOf P k key = some kl) :
    ∃ w', (Instr.mapUpdate t (.map (some b)) key val).run P w = .ok () w' ∧ MapV w' P k b (n + 1) (putL f kl (some val)) (if (f kl).isSome then s else s + 1) ∧ Mod (fun j => j = b) w w' := by
  obtain ⟨D, h1, h2, h3⟩ := h
  obtain ⟨w', hrun, h4, h5⟩ := World.ownsMap.store h1 K ht hn hkey (val := val) (d := .held val) (ps := []) rfl
  refine ⟨w', hrun, ⟨D.put kl (.held val), h4, ?_, fun l => ?_⟩, turned_mod h5⟩
  · rw [size_put (World.ownsMap.tidy h1 K), (h3 kl).1, h2]
  · by_cases e : l = kl
    · subst e
      rw [putL_same, has_put_same (World.ownsMap.isMap h1) (K.key hkey)]
      exact ⟨rfl, fun z => by rw [atKey_put_same (World.ownsMap.isMap h1) (K.key hkey)]; rfl⟩
    · rw [putL_other _ _ e, has_put_other e]
      exact ⟨(h3 l).1, fun z => by rw [atKey_put_other e]; exact (h3 l).2 z⟩
/-- delete(m, k). -/
theorem MapV.drop (h : MapV w P k b n f s) (K : Keyed P k) (ht : P.underlying t = some (.map k e)) {key : Value} {kl : Lit} (hkey : keyOf P k key = some kl) (ty : TypeId) :
    ∃ w', (Builtin.delete_ #[t, k] ty #[.map (some b), key]).run P w = .ok (.tuple #[]) w' ∧ MapV w' P k b n (putL f kl none) (if (f kl).isSome then s - 1 else s) ∧ Mod (fun j => j = b) w w' := by
  obtain ⟨D, h1, h2, h3⟩ := h
  obtain ⟨w', hrun, h4, h5⟩ := World.ownsMap.drop h1 K ht hkey ty
  refine ⟨w', hrun, ⟨D.del kl, h4, ?_, fun l => ?_⟩, turned_mod h5⟩
  · have := size_del (k := kl) (World.ownsMap.tidy h1 K)
    rw [(h3 kl).1] at this
    split
    · rename_i hs
      rw [if_pos hs] at this
      omega
    · rename_i hs
      rw [if_neg hs] at this
      omega
  · by_cases e : l = kl
    · subst e
      rw [putL_same, has_del_same]
      exact ⟨rfl, fun z => by rw [atKey_del_same]; rfl⟩
    · rw [putL_other _ _ e, has_del_other e]
      exact ⟨(h3 l).1, fun z => by rw [atKey_del_other e]; exact (h3 l).2 z⟩
end
end Go.Proofs.Ytcoajldhhimmoaa

/- Which pages stay: the mathematics of the clock, as chapter 15 tells it. -/
namespace Go.Proofs.Ytcoajldhhimmoaa

/-- A loop's rounds, till there is none more. -/
def runF {σ : Type} (f : σ → Option σ) : Nat → σ → σ
  | 0, s => s
  | n + 1, s => match f s with
    | none => s
    | some s' => runF f n s'
/-- After k rounds it ends at t. -/
def Ends {σ : Type} (f : σ → Option σ) : Nat → σ → σ → Prop
  | 0, s, t => f s = none ∧ s = t
  | k + 1, s, t => ∃ s', f s = some s' ∧ Ends f k s' t
theorem Ends.last {σ : Type} {f : σ → Option σ} : ∀ {k : Nat} {s t : σ}, Ends f k s t → f t = none
  | 0, _, _, h => h.2 ▸ h.1
  | k + 1, _, _, ⟨_, _, h⟩ => Ends.last (k := k) h
theorem Ends.run {σ : Type} {f : σ → Option σ} : ∀ {k : Nat} {s t : σ}, Ends f k s t → ∀ {n : Nat}, k ≤ n → runF f n s = t
  | 0, s, t, h, n, _ => by
    cases n with
    | zero => exact h.2
    | succ n => unfold runF; rw [h.1]; exact h.2
  | k + 1, s, t, ⟨s', h1, h2⟩, n, hn => by
    cases n with
    | zero => omega
    | succ n => unfold runF; rw [h1]; exact Ends.run (k := k) h2 (by omega)
theorem ends_run {σ : Type} {f : σ → Option σ} (I : σ → Prop) (μ : σ → Nat) (hI : ∀ s s', I s → f s = some s' → I s' ∧ μ s' < μ s) : ∀ (n : Nat) (s : σ), I s → μ s ≤ n → ∃ k, k ≤ n ∧ Ends f k s (runF f n s) ∧ I (runF f n s) := by
  intro n
  induction n with
  | zero =>
    intro s hs hn
    cases h : f s with
    | none => exact ⟨0, Nat.le_refl _, ⟨h, rfl⟩, hs⟩
    | some s' => have := (hI s s' hs h).2; omega
  | succ n ih =>
    intro s hs hn
    cases h : f s with
    | none => exact ⟨0, Nat.zero_le _, by unfold runF; rw [h]; exact ⟨h, rfl⟩, by unfold runF; rw [h]; exact hs⟩
    | some s' =>
      obtain ⟨h1, h2⟩ := hI s s' hs h
      obtain ⟨k, h3, h4, h5⟩ := ih s' h1 (by omega)
      exact ⟨k + 1, by omega, by unfold runF; rw [h]; exact ⟨s', h, h4⟩, by unfold runF; rw [h]; exact h5⟩
/-- What each round keeps is kept. -/
theorem Ends.keep {σ : Type} {f : σ → Option σ} (P : σ → Prop) (hP : ∀ s s', P s → f s = some s' → P s') : ∀ {k : Nat} {s t : σ}, Ends f k s t → P s → P t
  | 0, _, _, h, hs => h.2 ▸ hs
  | k + 1, _, _, ⟨s', h1, h2⟩, hs => Ends.keep P hP (k := k) h2 (hP _ s' hs h1)

structure KeyN where
  s : Int
  l : Int
  b : Int
deriving DecidableEq, Repr
structure PagN where
  key : KeyN
  kind : Int
  ref : Bool
  trial : Bool
  pins : Int
deriving DecidableEq, Repr
structure ClkN where
  most : Int
  target : Int
  ps : List PagN
  hot : Nat
  cold : Nat
  test : Nat
deriving DecidableEq, Repr
def newK (most : Int) : ClkN := ⟨min (max most 1) 1000, 1, [], 0, 0, 0⟩
def findK (k : KeyN) (ps : List PagN) : Option Nat := ps.findIdx? fun p => p.key == k
def cntK (kind : Int) (ps : List PagN) : Nat := ps.countP fun p => p.kind == kind
def PagN.resi (p : PagN) : Bool := p.kind == 1 || p.kind == 2
def aimK (c : ClkN) (n : Int) : ClkN := { c with target := min (max (c.target + n) 1) c.most }
def onK (len i : Nat) : Nat := if len ≤ i + 1 then 0 else i + 1
def goneK (len hand i : Nat) : Nat := if i < hand then hand - 1 else if len ≤ hand then 0 else hand
def strikeK (ps : List PagN) (i : Nat) : List PagN := ps.take i ++ ps.drop (i + 1)
def goesK (c : ClkN) (i : Nat) : ClkN :=
  { c with ps := strikeK c.ps i, hot := goneK (strikeK c.ps i).length c.hot i, cold := goneK (strikeK c.ps i).length c.cold i, test := goneK (strikeK c.ps i).length c.test i }
def comeK (c : ClkN) (p : PagN) : ClkN :=
  if c.ps = [] then { c with ps := [p], hot := 0, cold := 0, test := 0 }
  else { c with ps := c.ps.take c.hot ++ p :: c.ps.drop c.hot, hot := c.hot + 1, cold := if c.hot ≤ c.cold then c.cold + 1 else c.cold, test := if c.hot ≤ c.test then c.test + 1 else c.test }
/-- The hand Hot: one look. -/
def hotF (x : ClkN × Bool) : Option (ClkN × Bool) :=
  if x.2 then none
  else if cntK 1 x.1.ps = 0 then none
  else match x.1.ps[x.1.hot]? with
    | none => none
    | some p =>
      if p.kind = 1 then
        if p.ref then some ({ x.1 with ps := x.1.ps.set x.1.hot { p with ref := false }, hot := onK x.1.ps.length x.1.hot }, false)
        else some ({ x.1 with ps := x.1.ps.set x.1.hot { p with kind := 2, ref := false, trial := false }, hot := onK x.1.ps.length x.1.hot }, true)
      else if p.kind = 2 then some ({ x.1 with ps := x.1.ps.set x.1.hot { p with trial := false }, hot := onK x.1.ps.length x.1.hot }, false)
      else some (aimK (goesK x.1 x.1.hot) (-1), false)
/-- A ring, from a place on. -/
def rotK (ps : List PagN) (i : Nat) : List PagN := ps.drop i ++ ps.take i
def isHot (p : PagN) : Bool := p.kind == 1
def isTest (p : PagN) : Bool := p.kind == 3
def isLoose (p : PagN) : Bool := p.kind == 2 && p.pins == 0
def hotRefs (ps : List PagN) : Nat := ps.countP fun p => p.kind == 1 && p.ref
def muH (K : Nat) (x : ClkN × Bool) : Nat := if x.2 then 0 else 1 + ((hotRefs x.1.ps + x.1.ps.length) * K + (rotK x.1.ps x.1.hot).findIdx isHot)
def turnHotK (c : ClkN) : ClkN := (runF hotF (muH (c.ps.length + 1) (c, false)) (c, false)).1
/-- The hand Test: one look. -/
def testF (x : ClkN × Bool) : Option (ClkN × Bool) :=
  if x.2 then none
  else if cntK 3 x.1.ps = 0 then none
  else match x.1.ps[x.1.test]? with
    | none => none
    | some p =>
      if p.kind = 3 then some (aimK (goesK x.1 x.1.test) (-1), true)
      else if p.kind = 2 ∧ p.trial = true then some (aimK { x.1 with ps := x.1.ps.set x.1.test { p with trial := false }, test := onK x.1.ps.length x.1.test } (-1), false)
      else some ({ x.1 with test := onK x.1.ps.length x.1.test }, false)
def muT (x : ClkN × Bool) : Nat := if x.2 then 0 else 1 + (rotK x.1.ps x.1.test).findIdx isTest
def turnTestK (c : ClkN) : ClkN := (runF testF (muT (c, false)) (c, false)).1
/-- As long as there are too many hot ones. -/
def coolF (c : ClkN) : Option ClkN := if c.most - c.target < (cntK 1 c.ps : Int) then some (turnHotK c) else none
def coolK (c : ClkN) : ClkN := runF coolF (cntK 1 c.ps) c
/-- As long as there are too many on trial. -/
def trimF (c : ClkN) : Option ClkN := if c.most < (cntK 3 c.ps : Int) then some (turnTestK c) else none
def trimK (c : ClkN) : ClkN := runF trimF (cntK 3 c.ps) c
/-- As long as no cold one is loose. -/
def warmF (c : ClkN) : Option ClkN := if c.ps.any isLoose then none else some (turnHotK c)
def warmK (c : ClkN) : ClkN := runF warmF (cntK 1 c.ps) c
def isFree (p : PagN) : Bool := p.resi && p.pins == 0
/-- The hand Cold: one look. -/
def coldF (x : ClkN × List KeyN × Bool) : Option (ClkN × List KeyN × Bool) :=
  if x.2.2 then none
  else if x.1.ps.any isFree = false then none
  else
    let c := warmK x.1
    match c.ps[c.cold]? with
    | none => none
    | some p =>
      if p.kind ≠ 2 ∨ 0 < p.pins then some ({ c with cold := onK c.ps.length c.cold }, x.2.1, false)
      else if p.ref then
        if p.trial then some (coolK { c with ps := c.ps.set c.cold { p with kind := 1, trial := false, ref := false }, cold := onK c.ps.length c.cold }, x.2.1, false)
        else some ({ c with ps := c.ps.set c.cold { p with trial := true, ref := false }, cold := onK c.ps.length c.cold }, x.2.1, false)
      else if p.trial then some (trimK { c with ps := c.ps.set c.cold { p with kind := 3 }, cold := onK c.ps.length c.cold }, x.2.1 ++ [p.key], true)
      else some (trimK (goesK c c.cold), x.2.1 ++ [p.key], true)
def refsK (ps : List PagN) : Nat := ps.countP fun p => p.ref
def muC (K : Nat) (x : ClkN × List KeyN × Bool) : Nat := if x.2.2 then 0 else 1 + (refsK x.1.ps * (K + 2) + if x.1.ps.any isLoose then (rotK x.1.ps x.1.cold).findIdx isLoose else K + 1)
def turnColdK (c : ClkN) (out : List KeyN) : ClkN × List KeyN :=
  let x := runF coldF (muC c.ps.length (c, out, false)) (c, out, false)
  (x.1, x.2.1)
/-- As long as there is no room. -/
def roomF (x : ClkN × List KeyN) : Option (ClkN × List KeyN) := if x.1.most ≤ (cntK 1 x.1.ps + cntK 2 x.1.ps : Nat) then some (turnColdK x.1 x.2) else none
def roomK (c : ClkN) : ClkN × List KeyN := runF roomF (cntK 1 c.ps + cntK 2 c.ps) (c, [])
def touchK (c : ClkN) (k : KeyN) : ClkN × Bool := match findK k c.ps with
  | none => (c, false)
  | some i => match c.ps[i]? with
    | none => (c, false)
    | some p => if p.resi then ({ c with ps := c.ps.set i { p with ref := true } }, true) else (c, false)
def pinK (c : ClkN) (k : KeyN) (n : Int) : ClkN × Bool := match findK k c.ps with
  | none => (c, false)
  | some i => match c.ps[i]? with
    | none => (c, false)
    | some p => if p.resi then ({ c with ps := c.ps.set i { p with pins := max (p.pins + n) 0 } }, true) else (c, false)
def dropK (c : ClkN) (k : KeyN) : ClkN × Bool := match findK k c.ps with
  | none => (c, false)
  | some i => (goesK c i, true)
/-- Is it resident? What is cleared for it; as what it comes. -/
def resAt (c : ClkN) (k : KeyN) : Bool := match findK k c.ps with
  | none => false
  | some i => match c.ps[i]? with
    | none => false
    | some p => p.resi
def clearK (c : ClkN) (k : KeyN) : ClkN := match findK k c.ps with
  | none => c
  | some i => aimK (goesK c i) 1
def pageK (c : ClkN) (k : KeyN) : PagN := match findK k c.ps with
  | none => ⟨k, 2, false, true, 0⟩
  | some _ => ⟨k, 1, false, false, 0⟩
def admitK (c : ClkN) (k : KeyN) : ClkN × List KeyN × Bool :=
  if resAt c k then ((touchK c k).1, [], (touchK c k).2)
  else if c.most ≤ (cntK 1 c.ps + cntK 2 c.ps : Nat) ∧ c.ps.any isFree = false then (c, [], false)
  else (coolK (comeK (roomK (clearK c k)).1 (pageK c k)), (roomK (clearK c k)).2, true)

/-! What stays so. -/
def OkP (p : PagN) : Prop := (p.kind = 1 ∨ p.kind = 2 ∨ p.kind = 3) ∧ 0 ≤ p.pins ∧ (p.kind = 3 → p.pins = 0)
def PgsK (ps : List PagN) : Prop := (∀ p ∈ ps, OkP p) ∧ (ps.map (·.key)).Nodup
/-- Its hands are places (0, where there are none), its target is no more than may be, its pages are what they should be. -/
structure BaseK (c : ClkN) : Prop where
  most : 1 ≤ c.most ∧ c.most ≤ 1000
  target : 1 ≤ c.target ∧ c.target ≤ c.most
  pgs : PgsK c.ps
  hot : c.hot < max c.ps.length 1
  cold : c.cold < max c.ps.length 1
  test : c.test < max c.ps.length 1
/-- Who is resident, and the pins. -/
def resL (ps : List PagN) : List (KeyN × Int) := (ps.filter PagN.resi).map fun p => (p.key, p.pins)
theorem resL_app (a b : List PagN) : resL (a ++ b) = resL a ++ resL b := by simp [resL]
theorem resL_cons (p : PagN) (b : List PagN) : resL (p :: b) = (if p.resi then [(p.key, p.pins)] else []) ++ resL b := by
  unfold resL
  by_cases h : p.resi = true <;> simp [h]
theorem resi_of {p : PagN} (h : OkP p) : p.resi = true ↔ p.kind ≠ 3 := by
  unfold PagN.resi
  rcases h.1 with e | e | e <;> simp [e]
theorem split_at {ps : List PagN} {i : Nat} {p : PagN} (h : ps[i]? = some p) : ∃ A B, ps = A ++ p :: B ∧ A.length = i := by
  obtain ⟨hl, e⟩ := List.getElem?_eq_some_iff.1 h
  refine ⟨ps.take i, ps.drop (i + 1), ?_, by rw [List.length_take]; omega⟩
  rw [← e, List.getElem_cons_drop, List.take_append_drop]
theorem set_split (A B : List PagN) (p q : PagN) : (A ++ p :: B).set A.length q = A ++ q :: B := by simp
theorem strike_split (A B : List PagN) (p : PagN) : strikeK (A ++ p :: B) A.length = A ++ B := by
  unfold strikeK
  rw [List.take_left' rfl, ← List.drop_drop, List.drop_left' rfl]
  rfl
theorem onK_lt {n i : Nat} (h : i < max n 1) : onK n i < max n 1 := by unfold onK; split <;> omega
theorem goneK_lt {n h i : Nat} (hh : h < n + 1) (hi : i < n + 1) : goneK n h i < max n 1 := by
  unfold goneK
  split
  · omega
  · split <;> omega
theorem rot_on (A B : List PagN) (q : PagN) (n : Nat) (hn : n = A.length + 1 + B.length) : rotK (A ++ q :: B) (onK n A.length) = B ++ A ++ [q] := by
  subst hn
  unfold onK rotK
  by_cases h : B = []
  · subst h
    simp
  · have : ¬ A.length + 1 + B.length ≤ A.length + 1 := by
      have := List.length_pos_iff.2 h
      omega
    rw [if_neg this]
    have e : A ++ q :: B = (A ++ [q]) ++ B := by simp
    rw [e, List.drop_left' (by simp), List.take_left' (by simp)]
    simp
theorem rot_gone (A B : List PagN) : rotK (A ++ B) (goneK (A ++ B).length A.length A.length) = B ++ A := by
  unfold goneK rotK
  rw [if_neg (by omega)]
  by_cases h : B = []
  · subst h
    simp
  · have : ¬ (A ++ B).length ≤ A.length := by
      have := List.length_pos_iff.2 h
      rw [List.length_append]
      omega
    rw [if_neg this, List.drop_left' rfl, List.take_left' rfl]
theorem rot_at (A B : List PagN) (p : PagN) : rotK (A ++ p :: B) A.length = p :: (B ++ A) := by
  unfold rotK
  rw [List.drop_left' rfl, List.take_left' rfl]
  rfl
/-- One that is looked for comes nearer. -/
theorem find_near {f : PagN → Bool} {p q : PagN} {A B : List PagN} (hp : f p = false) (he : ∃ x, x ∈ B ++ A ∧ f x = true) : (B ++ A ++ [q]).findIdx f + 1 = (p :: (B ++ A)).findIdx f := by
  rw [List.findIdx_append, if_pos (List.findIdx_lt_length.2 (by obtain ⟨x, h1, h2⟩ := he; exact ⟨x, h1, h2⟩)), List.findIdx_cons, hp]
  rfl
theorem find_near0 {f : PagN → Bool} {p : PagN} {A B : List PagN} (hp : f p = false) : (B ++ A).findIdx f + 1 = (p :: (B ++ A)).findIdx f := by
  rw [List.findIdx_cons, hp]
  rfl
theorem pgs_set {A B : List PagN} {p q : PagN} (h : PgsK (A ++ p :: B)) (hk : q.key = p.key) (hq : OkP q) : PgsK (A ++ q :: B) := by
  refine ⟨fun x hx => ?_, ?_⟩
  · rcases List.mem_append.1 hx with hx | hx
    · exact h.1 x (List.mem_append_left _ hx)
    rcases List.mem_cons.1 hx with rfl | hx
    · exact hq
    · exact h.1 x (List.mem_append_right _ (List.mem_cons_of_mem _ hx))
  · have := h.2
    simpa [hk] using this
theorem keys_strike (A B : List PagN) (p : PagN) : ((A ++ B).map (·.key)).Sublist ((A ++ p :: B).map (·.key)) := by
  refine List.Sublist.map _ ?_
  exact List.Sublist.append (List.Sublist.refl A) (List.sublist_cons_self p B)
theorem pgs_strike {A B : List PagN} {p : PagN} (h : PgsK (A ++ p :: B)) : PgsK (A ++ B) := by
  refine ⟨fun x hx => ?_, h.2.sublist (keys_strike A B p)⟩
  rcases List.mem_append.1 hx with hx | hx
  · exact h.1 x (List.mem_append_left _ hx)
  · exact h.1 x (List.mem_append_right _ (List.mem_cons_of_mem _ hx))
theorem BaseK.ok_at {c : ClkN} (h : BaseK c) {i : Nat} {p : PagN} (hp : c.ps[i]? = some p) : OkP p := h.pgs.1 p (List.mem_of_getElem? hp)
/-- Who is resident stays so, and all else is less. -/
structure Turn (c c' : ClkN) : Prop where
  base : BaseK c'
  most : c'.most = c.most
  target : c'.target ≤ c.target
  res : resL c'.ps = resL c.ps
  keys : (c'.ps.map (·.key)).Sublist (c.ps.map (·.key))
  tests : cntK 3 c'.ps ≤ cntK 3 c.ps
  refs : refsK c'.ps ≤ refsK c.ps
  len : c'.ps.length ≤ c.ps.length
theorem Turn.refl {c : ClkN} (h : BaseK c) : Turn c c := ⟨h, rfl, Int.le_refl _, rfl, List.Sublist.refl _, Nat.le_refl _, Nat.le_refl _, Nat.le_refl _⟩
theorem Turn.trans {a b c : ClkN} (h : Turn a b) (k : Turn b c) : Turn a c :=
  ⟨k.base, k.most.trans h.most, Int.le_trans k.target h.target, k.res.trans h.res, k.keys.trans h.keys, Nat.le_trans k.tests h.tests, Nat.le_trans k.refs h.refs, Nat.le_trans k.len h.len⟩
theorem aim_base {c : ClkN} (h : BaseK c) (n : Int) : BaseK (aimK c n) := ⟨h.most, by have := h.target; have := h.most; show 1 ≤ min (max (c.target + n) 1) c.most ∧ min (max (c.target + n) 1) c.most ≤ c.most; omega, h.pgs, h.hot, h.cold, h.test⟩
theorem aim_less {c : ClkN} (h : BaseK c) : (aimK c (-1)).target ≤ c.target := by
  have := h.target
  show min (max (c.target + -1) 1) c.most ≤ c.target
  omega
theorem Turn.aim {c c' : ClkN} (h : Turn c c') : Turn c (aimK c' (-1)) := ⟨aim_base h.base _, h.most, Int.le_trans (aim_less h.base) h.target, h.res, h.keys, h.tests, h.refs, h.len⟩
/-- One page is written: it stays whom it is. -/
theorem turn_set {c : ClkN} (h : BaseK c) {i : Nat} {p q : PagN} (hp : c.ps[i]? = some p) (hk : q.key = p.key) (hpin : q.pins = p.pins) (hr : q.resi = p.resi) (hq : OkP q) (ht : q.kind = 3 → p.kind = 3) (href : q.ref = true → p.ref = true)
    (c' : ClkN) (hm : c'.most = c.most) (htg : c'.target = c.target) (hps : c'.ps = c.ps.set i q) (h1 : c'.hot < max c.ps.length 1) (h2 : c'.cold < max c.ps.length 1) (h3 : c'.test < max c.ps.length 1) : Turn c c' := by
  have hlen : (c.ps.set i q).length = c.ps.length := List.length_set ..
  obtain ⟨A, B, e, rfl⟩ := split_at hp
  have hpg := h.pgs
  rw [e] at hpg
  have es : c'.ps = A ++ q :: B := by rw [hps, e, set_split]
  refine ⟨⟨by rw [hm]; exact h.most, by rw [hm, htg]; exact h.target, by rw [es]; exact pgs_set hpg hk hq, ?_, ?_, ?_⟩, hm, by rw [htg]; exact Int.le_refl _, ?_, ?_, ?_, ?_, ?_⟩
  · rw [hps, hlen]; exact h1
  · rw [hps, hlen]; exact h2
  · rw [hps, hlen]; exact h3
  · rw [es, e, resL_app, resL_app, resL_cons, resL_cons, hk, hpin, hr]
  · rw [es, e]
    simp [hk]
  · rw [es, e]
    unfold cntK
    simp only [List.countP_append, List.countP_cons]
    by_cases hq3 : q.kind = 3
    · simp [hq3, ht hq3]
    · simp [hq3]
  · rw [es, e]
    unfold refsK
    simp only [List.countP_append, List.countP_cons]
    by_cases hqr : q.ref = true
    · simp [hqr, href hqr]
    · simp [hqr]
  · rw [hps, hlen]
    exact Nat.le_refl _
/-- One on trial goes. -/
theorem turn_goes {c : ClkN} (h : BaseK c) {i : Nat} {p : PagN} (hp : c.ps[i]? = some p) (hk : p.kind = 3) : Turn c (goesK c i) ∧ cntK 3 (goesK c i).ps + 1 = cntK 3 c.ps ∧ (goesK c i).ps.length + 1 = c.ps.length ∧ cntK 1 (goesK c i).ps = cntK 1 c.ps := by
  obtain ⟨A, B, e, rfl⟩ := split_at hp
  have hpg := h.pgs
  have hok := h.ok_at hp
  rw [e] at hpg
  have es : strikeK c.ps A.length = A ++ B := by rw [e, strike_split]
  have eg : (goesK c A.length).ps = A ++ B := es
  have hl : c.ps.length = (A ++ B).length + 1 := by rw [e]; simp; omega
  have hr : p.resi = false := by
    have := (not_congr (resi_of hok)).2 (by simp [hk])
    simpa using this
  refine ⟨⟨⟨h.most, h.target, by rw [eg]; exact pgs_strike hpg, ?_, ?_, ?_⟩, rfl, Int.le_refl _, ?_, ?_, ?_, ?_, ?_⟩, ?_, ?_, ?_⟩
  · rw [eg]; show goneK (strikeK c.ps A.length).length c.hot A.length < _; rw [es]; exact goneK_lt (by have := h.hot; omega) (by rw [List.length_append]; omega)
  · rw [eg]; show goneK (strikeK c.ps A.length).length c.cold A.length < _; rw [es]; exact goneK_lt (by have := h.cold; omega) (by rw [List.length_append]; omega)
  · rw [eg]; show goneK (strikeK c.ps A.length).length c.test A.length < _; rw [es]; exact goneK_lt (by have := h.test; omega) (by rw [List.length_append]; omega)
  · rw [eg, e, resL_app, resL_app, resL_cons, hr]; rfl
  · rw [eg, e]; exact keys_strike A B p
  · rw [eg, e]; unfold cntK; simp only [List.countP_append, List.countP_cons]; omega
  · rw [eg, e]; unfold refsK; simp only [List.countP_append, List.countP_cons]; omega
  · rw [eg, hl]; omega
  · rw [eg, e]; unfold cntK; simp only [List.countP_append, List.countP_cons]; simp [hk]; omega
  · rw [eg, hl]
  · rw [eg, e]; unfold cntK; simp only [List.countP_append, List.countP_cons]; simp [hk]

theorem cnt_pos {k : Int} {ps : List PagN} (h : cntK k ps ≠ 0) : ∃ x, x ∈ ps ∧ x.kind = k := by
  unfold cntK at h
  obtain ⟨x, h1, h2⟩ := List.countP_pos_iff.1 (Nat.pos_of_ne_zero h)
  exact ⟨x, h1, by simpa using h2⟩
theorem hand_at {ps : List PagN} {h : Nat} (hh : h < max ps.length 1) (hne : ps ≠ []) : ∃ p, ps[h]? = some p := by
  have := List.length_pos_iff.2 hne
  exact ⟨ps[h]'(by omega), List.getElem?_eq_getElem _⟩
/-- One look of the hand Hot. -/
theorem hotF_step {K : Nat} {c c' : ClkN} {b : Bool} (h : BaseK c) (hK : c.ps.length < K) (e : hotF (c, false) = some (c', b)) :
    Turn c c' ∧ cntK 1 c'.ps + (if b then 1 else 0) = cntK 1 c.ps ∧ muH K (c', b) < muH K (c, false) := by
  unfold hotF at e
  simp only [Bool.false_eq_true, if_false] at e
  split at e
  · cases e
  · rename_i hc
    obtain ⟨x, hx1, hx2⟩ := cnt_pos hc
    cases hp : c.ps[c.hot]? with
    | none => rw [hp] at e; cases e
    | some p =>
      rw [hp] at e
      simp only at e
      have hok := h.ok_at hp
      obtain ⟨A, B, es, hA⟩ := split_at hp
      have hln : c.ps.length = A.length + 1 + B.length := by rw [es]; simp; omega
      have hhot : c.hot = A.length := hA.symm
      have hrot : rotK c.ps c.hot = p :: (B ++ A) := by rw [es, hhot, rot_at]
      split at e
      · rename_i h1
        split at e
        · rename_i hr
          injection e with e
          injection e with e1 e2
          subst e1 e2
          refine ⟨turn_set (q := { p with ref := false }) h hp rfl rfl (by unfold PagN.resi; rfl) ⟨.inl h1, hok.2.1, fun h3 => hok.2.2 h3⟩ (fun h3 => h3) (fun h3 => by simp at h3) _ rfl rfl rfl (onK_lt h.hot) h.cold h.test, ?_, ?_⟩
          · show cntK 1 (c.ps.set c.hot _) + 0 = _
            rw [es, hhot, set_split]
            unfold cntK
            simp only [List.countP_append, List.countP_cons]
            omega
          · show 1 + ((hotRefs (c.ps.set c.hot { p with ref := false }) + (c.ps.set c.hot { p with ref := false }).length) * K + (rotK (c.ps.set c.hot { p with ref := false }) (onK c.ps.length c.hot)).findIdx isHot) < 1 + ((hotRefs c.ps + c.ps.length) * K + (rotK c.ps c.hot).findIdx isHot)
            rw [List.length_set]
            have hrefs : hotRefs (c.ps.set c.hot { p with ref := false }) + 1 = hotRefs c.ps := by
              rw [es, hhot, set_split]
              unfold hotRefs
              simp only [List.countP_append, List.countP_cons]
              simp [h1, hr]
              omega
            have hle : (rotK (c.ps.set c.hot { p with ref := false }) (onK c.ps.length c.hot)).findIdx isHot ≤ c.ps.length := by
              refine Nat.le_trans List.findIdx_le_length ?_
              unfold rotK
              rw [List.length_append, List.length_drop, List.length_take, List.length_set]
              omega
            have hmul : (hotRefs c.ps + c.ps.length) * K = (hotRefs (c.ps.set c.hot { p with ref := false }) + c.ps.length) * K + K := by
              rw [← hrefs, show hotRefs (c.ps.set c.hot { p with ref := false }) + 1 + c.ps.length = (hotRefs (c.ps.set c.hot { p with ref := false }) + c.ps.length) + 1 by omega, Nat.add_mul, Nat.one_mul]
            omega
        · injection e with e
          injection e with e1 e2
          subst e1 e2
          refine ⟨turn_set (q := { p with kind := 2, ref := false, trial := false }) h hp rfl rfl (by unfold PagN.resi; simp [h1]) ⟨.inr (.inl rfl), hok.2.1, fun h3 => by simp at h3⟩ (fun h3 => by simp at h3) (fun h3 => by simp at h3) _ rfl rfl rfl (onK_lt h.hot) h.cold h.test, ?_, ?_⟩
          · show cntK 1 (c.ps.set c.hot _) + 1 = _
            rw [es, hhot, set_split]
            unfold cntK
            simp only [List.countP_append, List.countP_cons]
            simp [h1]
            omega
          · show 0 < 1 + _
            omega
      · rename_i h1
        have hnh : isHot p = false := by unfold isHot; simp [h1]
        have hex : ∃ y, y ∈ B ++ A ∧ isHot y = true := by
          refine ⟨x, ?_, by unfold isHot; simp [hx2]⟩
          rw [es] at hx1
          rcases List.mem_append.1 hx1 with hx1 | hx1
          · exact List.mem_append_right _ hx1
          rcases List.mem_cons.1 hx1 with rfl | hx1
          · exact absurd hx2 h1
          · exact List.mem_append_left _ hx1
        split at e
        · rename_i h2
          injection e with e
          injection e with e1 e2
          subst e1 e2
          refine ⟨turn_set (q := { p with trial := false }) h hp rfl rfl (by unfold PagN.resi; rfl) ⟨.inr (.inl h2), hok.2.1, fun h3 => hok.2.2 h3⟩ (fun h3 => h3) (fun h3 => h3) _ rfl rfl rfl (onK_lt h.hot) h.cold h.test, ?_, ?_⟩
          · show cntK 1 (c.ps.set c.hot _) + 0 = _
            rw [es, hhot, set_split]
            unfold cntK
            simp only [List.countP_append, List.countP_cons]
            omega
          · show 1 + ((hotRefs (c.ps.set c.hot _) + (c.ps.set c.hot _).length) * K + _) < 1 + ((hotRefs c.ps + c.ps.length) * K + (rotK c.ps c.hot).findIdx isHot)
            rw [List.length_set, hrot]
            have hrefs : hotRefs (c.ps.set c.hot { p with trial := false }) = hotRefs c.ps := by
              rw [es, hhot, set_split]
              unfold hotRefs
              simp only [List.countP_append, List.countP_cons]
            have hnew : rotK (c.ps.set c.hot { p with trial := false }) (onK c.ps.length c.hot) = B ++ A ++ [{ p with trial := false }] := by
              rw [hhot]
              have : c.ps.set A.length { p with trial := false } = A ++ { p with trial := false } :: B := by rw [es, set_split]
              rw [this, rot_on A B _ _ hln]
            have := find_near (q := { p with trial := false }) hnh hex
            show 1 + ((hotRefs (c.ps.set c.hot _) + c.ps.length) * K + (rotK (c.ps.set c.hot _) (onK c.ps.length c.hot)).findIdx isHot) < _
            rw [hrefs, hnew]
            omega
        · rename_i h2
          have h3 : p.kind = 3 := by rcases hok.1 with h | h | h <;> first | exact absurd h h1 | exact absurd h h2 | exact h
          injection e with e
          injection e with e1 e2
          subst e1 e2
          obtain ⟨t1, t2, t3, t4⟩ := turn_goes h hp h3
          refine ⟨t1.aim, by show cntK 1 (goesK c c.hot).ps + 0 = _; omega, ?_⟩
          show 1 + ((hotRefs (goesK c c.hot).ps + (goesK c c.hot).ps.length) * K + (rotK (goesK c c.hot).ps (goesK c c.hot).hot).findIdx isHot) < 1 + ((hotRefs c.ps + c.ps.length) * K + (rotK c.ps c.hot).findIdx isHot)
          have hrot2 : rotK (goesK c c.hot).ps (goesK c c.hot).hot = B ++ A := by
            have : strikeK c.ps c.hot = A ++ B := by rw [es, hhot, strike_split]
            show rotK (strikeK c.ps c.hot) (goneK (strikeK c.ps c.hot).length c.hot c.hot) = _
            rw [this, hhot, rot_gone]
          have hrefs : hotRefs (goesK c c.hot).ps = hotRefs c.ps := by
            have : (goesK c c.hot).ps = A ++ B := by show strikeK c.ps c.hot = _; rw [es, hhot, strike_split]
            rw [this, es]
            unfold hotRefs
            simp only [List.countP_append, List.countP_cons]
            simp [h1]
          rw [hrot, hrot2, hrefs]
          have h5 := find_near0 (A := A) (B := B) hnh
          have h6 : (hotRefs c.ps + (goesK c c.hot).ps.length) * K ≤ (hotRefs c.ps + c.ps.length) * K := Nat.mul_le_mul_right K (by omega)
          omega
/-- The hand Hot turns: it ends; one that was hot is cold, and whoever is resident stays so. -/
theorem hot_ends {c : ClkN} (h : BaseK c) : Turn c (turnHotK c) ∧ (cntK 1 c.ps ≠ 0 → cntK 1 (turnHotK c).ps + 1 = cntK 1 c.ps) ∧ (cntK 1 c.ps = 0 → turnHotK c = c) ∧ ∃ k b, Ends hotF k (c, false) (turnHotK c, b) := by
  obtain ⟨k, _, h2, h3⟩ := ends_run (f := hotF) (fun x => Turn c x.1 ∧ cntK 1 x.1.ps + (if x.2 then 1 else 0) = cntK 1 c.ps) (muH (c.ps.length + 1)) (by
    rintro ⟨d, b⟩ ⟨d', b'⟩ ⟨h1, h2⟩ e
    cases b with
    | true => cases e
    | false =>
      obtain ⟨g1, g2, g3⟩ := hotF_step (K := c.ps.length + 1) h1.base (Nat.lt_succ_of_le h1.len) e
      have h2' : cntK 1 d.ps = cntK 1 c.ps := by simpa using h2
      exact ⟨⟨h1.trans g1, by rw [← h2']; exact g2⟩, g3⟩) (muH (c.ps.length + 1) (c, false)) (c, false) ⟨Turn.refl h, by simp⟩ (Nat.le_refl _)
  have hlast := h2.last
  obtain ⟨x, hx⟩ : ∃ x, x = runF hotF (muH (c.ps.length + 1) (c, false)) (c, false) := ⟨_, rfl⟩
  have hturn : turnHotK c = x.1 := by rw [hx]; rfl
  rw [← hx] at h2 h3 hlast
  refine ⟨by rw [hturn]; exact h3.1, fun hc => ?_, fun hc => ?_, k, x.2, by rw [hturn]; exact h2⟩
  · rw [hturn]
    obtain ⟨d, b⟩ := x
    cases b with
    | true => exact h3.2
    | false =>
      exfalso
      have h31 : cntK 1 d.ps = cntK 1 c.ps := by have := h3.2; simpa using this
      have hb : BaseK d := h3.1.base
      unfold hotF at hlast
      simp only [Bool.false_eq_true, if_false] at hlast
      rw [if_neg (by rw [h31]; exact hc)] at hlast
      obtain ⟨y, hy, _⟩ := cnt_pos (k := 1) (ps := d.ps) (by rw [h31]; exact hc)
      obtain ⟨p, hp⟩ := hand_at hb.hot (by rintro e; rw [e] at hy; cases hy)
      rw [hp] at hlast
      simp only at hlast
      split at hlast
      · split at hlast <;> cases hlast
      · split at hlast <;> cases hlast
  · have : hotF (c, false) = none := by
      unfold hotF
      simp [hc]
    have h4 : Ends hotF 0 (c, false) (c, false) := ⟨this, rfl⟩
    have := h4.run (n := muH (c.ps.length + 1) (c, false)) (Nat.zero_le _)
    rw [hturn, hx, this]

theorem turn_hands {c : ClkN} (h : BaseK c) {a b t : Nat} (ha : a < max c.ps.length 1) (hb : b < max c.ps.length 1) (ht : t < max c.ps.length 1) : Turn c { c with hot := a, cold := b, test := t } :=
  ⟨⟨h.most, h.target, h.pgs, ha, hb, ht⟩, rfl, Int.le_refl _, rfl, List.Sublist.refl _, Nat.le_refl _, Nat.le_refl _, Nat.le_refl _⟩
/-- One look of the hand Test. -/
theorem testF_step {c c' : ClkN} {b : Bool} (h : BaseK c) (e : testF (c, false) = some (c', b)) :
    Turn c c' ∧ cntK 3 c'.ps + (if b then 1 else 0) = cntK 3 c.ps ∧ cntK 1 c'.ps = cntK 1 c.ps ∧ muT (c', b) < muT (c, false) := by
  unfold testF at e
  simp only [Bool.false_eq_true, if_false] at e
  split at e
  · cases e
  · rename_i hc
    obtain ⟨x, hx1, hx2⟩ := cnt_pos hc
    cases hp : c.ps[c.test]? with
    | none => rw [hp] at e; cases e
    | some p =>
      rw [hp] at e
      simp only at e
      have hok := h.ok_at hp
      obtain ⟨A, B, es, hA⟩ := split_at hp
      have hln : c.ps.length = A.length + 1 + B.length := by rw [es]; simp; omega
      have hhot : c.test = A.length := hA.symm
      have hrot : rotK c.ps c.test = p :: (B ++ A) := by rw [es, hhot, rot_at]
      split at e
      · rename_i h3
        injection e with e
        injection e with e1 e2
        subst e1 e2
        obtain ⟨t1, t2, t3, t4⟩ := turn_goes h hp h3
        exact ⟨t1.aim, t2, t4, by show 0 < 1 + _; omega⟩
      · rename_i h3
        have hnh : isTest p = false := by unfold isTest; simp [h3]
        have hex : ∃ y, y ∈ B ++ A ∧ isTest y = true := by
          refine ⟨x, ?_, by unfold isTest; simp [hx2]⟩
          rw [es] at hx1
          rcases List.mem_append.1 hx1 with hx1 | hx1
          · exact List.mem_append_right _ hx1
          rcases List.mem_cons.1 hx1 with rfl | hx1
          · exact absurd hx2 h3
          · exact List.mem_append_left _ hx1
        split at e
        · rename_i h2
          injection e with e
          injection e with e1 e2
          subst e1 e2
          have hcnt : ∀ k, cntK k (c.ps.set c.test { p with trial := false }) = cntK k c.ps := fun k => by
            rw [es, hhot, set_split]
            unfold cntK
            simp only [List.countP_append, List.countP_cons]
          refine ⟨(turn_set (q := { p with trial := false }) h hp rfl rfl (by unfold PagN.resi; rfl) ⟨.inr (.inl h2.1), hok.2.1, fun h3 => hok.2.2 h3⟩ (fun h3 => h3) (fun h3 => h3) { c with ps := c.ps.set c.test { p with trial := false }, test := onK c.ps.length c.test } rfl rfl rfl h.hot h.cold (onK_lt h.test)).aim, hcnt 3, hcnt 1, ?_⟩
          show 1 + (rotK (c.ps.set c.test { p with trial := false }) (onK c.ps.length c.test)).findIdx isTest < 1 + (rotK c.ps c.test).findIdx isTest
          have hnew : rotK (c.ps.set c.test { p with trial := false }) (onK c.ps.length c.test) = B ++ A ++ [{ p with trial := false }] := by
            rw [hhot]
            have : c.ps.set A.length { p with trial := false } = A ++ { p with trial := false } :: B := by rw [es, set_split]
            rw [this, rot_on A B _ _ hln]
          have := find_near (q := { p with trial := false }) hnh hex
          rw [hnew, hrot]
          omega
        · injection e with e
          injection e with e1 e2
          subst e1 e2
          refine ⟨turn_hands h h.hot h.cold (onK_lt h.test), rfl, rfl, ?_⟩
          show 1 + (rotK c.ps (onK c.ps.length c.test)).findIdx isTest < 1 + (rotK c.ps c.test).findIdx isTest
          have hnew : rotK c.ps (onK c.ps.length c.test) = B ++ A ++ [p] := by
            rw [hhot]
            have : rotK c.ps (onK c.ps.length A.length) = rotK (A ++ p :: B) (onK c.ps.length A.length) := by rw [← es]
            rw [this, rot_on A B _ _ hln]
          have := find_near (q := p) hnh hex
          rw [hnew, hrot]
          omega
/-- The hand Test turns: it ends; one that was on trial has gone. -/
theorem test_ends {c : ClkN} (h : BaseK c) : Turn c (turnTestK c) ∧ (cntK 3 c.ps ≠ 0 → cntK 3 (turnTestK c).ps + 1 = cntK 3 c.ps) ∧ cntK 1 (turnTestK c).ps = cntK 1 c.ps ∧ ∃ k b, Ends testF k (c, false) (turnTestK c, b) := by
  obtain ⟨k, _, h2, h3⟩ := ends_run (f := testF) (fun x => Turn c x.1 ∧ cntK 3 x.1.ps + (if x.2 then 1 else 0) = cntK 3 c.ps ∧ cntK 1 x.1.ps = cntK 1 c.ps) muT (by
    rintro ⟨d, b⟩ ⟨d', b'⟩ ⟨h1, h2, h3⟩ e
    cases b with
    | true => cases e
    | false =>
      obtain ⟨g1, g2, g3, g4⟩ := testF_step h1.base e
      have h2' : cntK 3 d.ps = cntK 3 c.ps := by simpa using h2
      exact ⟨⟨h1.trans g1, by rw [← h2']; exact g2, g3.trans h3⟩, g4⟩) (muT (c, false)) (c, false) ⟨Turn.refl h, by simp, rfl⟩ (Nat.le_refl _)
  have hlast := h2.last
  obtain ⟨x, hx⟩ : ∃ x, x = runF testF (muT (c, false)) (c, false) := ⟨_, rfl⟩
  have hturn : turnTestK c = x.1 := by rw [hx]; rfl
  rw [← hx] at h2 h3 hlast
  refine ⟨by rw [hturn]; exact h3.1, fun hc => ?_, by rw [hturn]; exact h3.2.2, k, x.2, by rw [hturn]; exact h2⟩
  rw [hturn]
  obtain ⟨d, b⟩ := x
  cases b with
  | true => exact h3.2.1
  | false =>
    exfalso
    have h31 : cntK 3 d.ps = cntK 3 c.ps := by have := h3.2.1; simpa using this
    have hb : BaseK d := h3.1.base
    unfold testF at hlast
    simp only [Bool.false_eq_true, if_false] at hlast
    rw [if_neg (by rw [h31]; exact hc)] at hlast
    obtain ⟨y, hy, _⟩ := cnt_pos (k := 3) (ps := d.ps) (by rw [h31]; exact hc)
    obtain ⟨p, hp⟩ := hand_at hb.test (by rintro e; rw [e] at hy; cases hy)
    rw [hp] at hlast
    simp only at hlast
    split at hlast
    · cases hlast
    · split at hlast <;> cases hlast
/-- As long as there are too many hot ones. -/
theorem cool_ends {c : ClkN} (h : BaseK c) : Turn c (coolK c) ∧ (cntK 1 (coolK c).ps : Int) ≤ (coolK c).most - (coolK c).target ∧ ∃ k, Ends coolF k c (coolK c) := by
  obtain ⟨k, _, h2, h3⟩ := ends_run (f := coolF) (fun x => Turn c x) (fun x => cntK 1 x.ps) (by
    intro d d' h1 e
    unfold coolF at e
    split at e
    · rename_i hd
      injection e with e
      subst e
      have hb := h1.base
      obtain ⟨g1, g2, _, _⟩ := hot_ends hb
      have := g2 (by have := hb.target; omega)
      exact ⟨h1.trans g1, by show cntK 1 (turnHotK d).ps < cntK 1 d.ps; omega⟩
    · cases e) (cntK 1 c.ps) c (Turn.refl h) (Nat.le_refl _)
  refine ⟨h3, ?_, k, h2⟩
  have hl := h2.last
  unfold coolF at hl
  split at hl
  · cases hl
  · rename_i hd
    have : ¬ (coolK c).most - (coolK c).target < (cntK 1 (coolK c).ps : Int) := hd
    omega
/-- As long as there are too many on trial. -/
theorem trim_ends {c : ClkN} (h : BaseK c) : Turn c (trimK c) ∧ cntK 1 (trimK c).ps = cntK 1 c.ps ∧ (cntK 3 (trimK c).ps : Int) ≤ (trimK c).most ∧ ∃ k, Ends trimF k c (trimK c) := by
  obtain ⟨k, _, h2, h3⟩ := ends_run (f := trimF) (fun x => Turn c x ∧ cntK 1 x.ps = cntK 1 c.ps) (fun x => cntK 3 x.ps) (by
    intro d d' ⟨h1, h1'⟩ e
    unfold trimF at e
    split at e
    · rename_i hd
      injection e with e
      subst e
      have hb := h1.base
      obtain ⟨g1, g2, g3, _⟩ := test_ends hb
      have := g2 (by have := hb.most; omega)
      exact ⟨⟨h1.trans g1, g3.trans h1'⟩, by show cntK 3 (turnTestK d).ps < cntK 3 d.ps; omega⟩
    · cases e) (cntK 3 c.ps) c ⟨Turn.refl h, rfl⟩ (Nat.le_refl _)
  refine ⟨h3.1, h3.2, ?_, k, h2⟩
  have hl := h2.last
  unfold trimF at hl
  split at hl
  · cases hl
  · rename_i hd
    have : ¬ (trimK c).most < (cntK 3 (trimK c).ps : Int) := hd
    omega
theorem free_res (ps : List PagN) : ps.any isFree = (resL ps).any (fun x => x.2 == 0) := by
  induction ps with
  | nil => rfl
  | cons p ps ih =>
    rw [resL_cons, List.any_append, List.any_cons, ih]
    unfold isFree
    by_cases h : p.resi = true
    · simp [h]
    · simp [h]
theorem loose_free {ps : List PagN} (h : ∀ p ∈ ps, OkP p) (hf : ps.any isFree = true) (hn : ps.any isLoose = false) : cntK 1 ps ≠ 0 := by
  obtain ⟨p, hp, hfp⟩ := List.any_eq_true.1 hf
  have hnl : isLoose p = false := by
    have := List.any_eq_false.1 hn p hp
    simpa using this
  unfold isFree at hfp
  unfold isLoose at hnl
  simp only [Bool.and_eq_true] at hfp
  have hk : p.kind = 1 := by
    have h2 : ¬ p.kind = 2 := by
      intro e
      rw [e, hfp.2] at hnl
      simp at hnl
    have := (resi_of (h p hp)).1 hfp.1
    rcases (h p hp).1 with e | e | e
    · exact e
    · exact absurd e h2
    · exact absurd e this
  unfold cntK
  have : 0 < ps.countP fun p => p.kind == 1 := List.countP_pos_iff.2 ⟨p, hp, by simp [hk]⟩
  omega
/-- As long as no cold one is loose. -/
theorem warm_ends {c : ClkN} (h : BaseK c) (hf : c.ps.any isFree = true) : Turn c (warmK c) ∧ (warmK c).ps.any isLoose = true ∧ cntK 1 (warmK c).ps ≤ cntK 1 c.ps ∧ (c.ps.any isLoose = true → warmK c = c) ∧ ∃ k, Ends warmF k c (warmK c) := by
  obtain ⟨k, hk, h2, h3⟩ := ends_run (f := warmF) (fun x => Turn c x ∧ cntK 1 x.ps ≤ cntK 1 c.ps) (fun x => cntK 1 x.ps) (by
    intro d d' ⟨h1, h1'⟩ e
    unfold warmF at e
    split at e
    · cases e
    · rename_i hd
      injection e with e
      subst e
      have hb := h1.base
      obtain ⟨g1, g2, _, _⟩ := hot_ends hb
      have := g2 (loose_free hb.pgs.1 (by rw [free_res, h1.res, ← free_res]; exact hf) (by simpa using hd))
      exact ⟨⟨h1.trans g1, by omega⟩, by show cntK 1 (turnHotK d).ps < cntK 1 d.ps; omega⟩) (cntK 1 c.ps) c ⟨Turn.refl h, Nat.le_refl _⟩ (Nat.le_refl _)
  refine ⟨h3.1, ?_, h3.2, fun hl => ?_, k, h2⟩
  · have hl := h2.last
    unfold warmF at hl
    split at hl
    · rename_i hd
      exact hd
    · cases hl
  · have h0 : warmF c = none := by unfold warmF; rw [if_pos hl]
    have h4 : Ends warmF 0 c c := ⟨h0, rfl⟩
    exact h4.run (n := cntK 1 c.ps) (Nat.zero_le _)
end Go.Proofs.Ytcoajldhhimmoaa

/- '&' with a mask on int, whatever the sign. -/
namespace Go.Proofs.Ytcoajldhhimmoaa

theorem i64_mask (a : Int) (m i : Nat) (hm : m = 2 ^ i - 1) (hi : i ≤ 62) : bits .and .i64 a (m : Int) = a % ((2 ^ i : Nat) : Int) := by
  have hp : (2 : Nat) ^ i ≤ 2 ^ 62 := Nat.pow_le_pow_right (by omega) hi
  have hp0 : 0 < (2 : Nat) ^ i := Nat.two_pow_pos i
  show IntKind.i64.wrap ((BitVec.ofInt 64 a &&& BitVec.ofInt 64 (m : Int)).toNat : Int) = _
  have hmm : (BitVec.ofInt 64 (m : Int)).toNat = m := by
    rw [BitVec.ofInt_natCast, BitVec.toNat_ofNat]
    exact Nat.mod_eq_of_lt (by omega)
  rw [BitVec.toNat_and, hmm, hm, Nat.and_two_pow_sub_one_eq_mod, BitVec.toNat_ofInt]
  have hd : ((2 ^ i : Nat) : Int) ∣ (18446744073709551616 : Int) := by
    refine ⟨((2 ^ (64 - i) : Nat) : Int), ?_⟩
    rw [← Int.natCast_mul, ← Nat.pow_add, show i + (64 - i) = 64 by omega]
    rfl
  have h1 : (((a % ((2 ^ 64 : Nat) : Int)).toNat % 2 ^ i : Nat) : Int) = a % ((2 ^ i : Nat) : Int) := by
    rw [Int.natCast_emod, Int.toNat_of_nonneg (Int.emod_nonneg _ (by decide))]
    exact Int.emod_emod_of_dvd a hd
  rw [h1, IntKind.wrap_i64]
  have h2 : 0 ≤ a % ((2 ^ i : Nat) : Int) := Int.emod_nonneg _ (by omega)
  have h3 : a % ((2 ^ i : Nat) : Int) < ((2 ^ i : Nat) : Int) := Int.emod_lt_of_pos _ (by omega)
  generalize a % ((2 ^ i : Nat) : Int) = x at *
  generalize (2 : Nat) ^ i = y at *
  omega
end Go.Proofs.Ytcoajldhhimmoaa

namespace Go.Proofs.Ytcoajldhhimmoaa
open Go.RowKit
theorem fit_i64 {a : Int} (h : (Lit.int .i64 a).wf = true) : FitI a := by
  have := bounds_i64 h
  exact ⟨by omega, by omega⟩
end Go.Proofs.Ytcoajldhhimmoaa

/- Which pages stay: the mathematics of the clock: who is put out; who comes. -/
namespace Go.Proofs.Ytcoajldhhimmoaa

theorem goes_base {c : ClkN} (h : BaseK c) {i : Nat} {p : PagN} (hp : c.ps[i]? = some p) : BaseK (goesK c i) := by
  obtain ⟨A, B, e, rfl⟩ := split_at hp
  have hpg := h.pgs
  rw [e] at hpg
  have es : strikeK c.ps A.length = A ++ B := by rw [e, strike_split]
  have eg : (goesK c A.length).ps = A ++ B := es
  have hl : c.ps.length = (A ++ B).length + 1 := by rw [e]; simp; omega
  refine ⟨h.most, h.target, by rw [eg]; exact pgs_strike hpg, ?_, ?_, ?_⟩
  · rw [eg]; show goneK (strikeK c.ps A.length).length c.hot A.length < _; rw [es]; exact goneK_lt (by have := h.hot; omega) (by rw [List.length_append]; omega)
  · rw [eg]; show goneK (strikeK c.ps A.length).length c.cold A.length < _; rw [es]; exact goneK_lt (by have := h.cold; omega) (by rw [List.length_append]; omega)
  · rw [eg]; show goneK (strikeK c.ps A.length).length c.test A.length < _; rw [es]; exact goneK_lt (by have := h.test; omega) (by rw [List.length_append]; omega)
/-- One is put out. -/
structure Out1 (c c' : ClkN) (key : KeyN) : Prop where
  base : BaseK c'
  most : c'.most = c.most
  target : c'.target ≤ c.target
  res : ∃ L1 L2, resL c.ps = L1 ++ (key, 0) :: L2 ∧ resL c'.ps = L1 ++ L2
  keys : (c'.ps.map (·.key)).Sublist (c.ps.map (·.key))
  tests : (cntK 3 c'.ps : Int) ≤ c'.most
theorem Out1.of {a b c : ClkN} {key : KeyN} (h : Turn a b) (k : Out1 b c key) : Out1 a c key :=
  ⟨k.base, k.most.trans h.most, Int.le_trans k.target h.target, by rw [← h.res]; exact k.res, k.keys.trans h.keys, k.tests⟩
theorem out_trial {c : ClkN} (h : BaseK c) {i : Nat} {p : PagN} (hp : c.ps[i]? = some p) (h2 : p.kind = 2) (h0 : p.pins = 0) (hi : c.cold = i) : Out1 c (trimK { c with ps := c.ps.set i { p with kind := 3 }, cold := onK c.ps.length c.cold }) p.key := by
  obtain ⟨A, B, e, rfl⟩ := split_at hp
  have hpg := h.pgs
  rw [e] at hpg
  have es : c.ps.set A.length { p with kind := 3 } = A ++ { p with kind := 3 } :: B := by rw [e, set_split]
  have hl : (c.ps.set A.length { p with kind := 3 }).length = c.ps.length := List.length_set ..
  have hb : BaseK { c with ps := c.ps.set A.length { p with kind := 3 }, cold := onK c.ps.length c.cold } :=
    ⟨h.most, h.target, by show PgsK (c.ps.set A.length _); rw [es]; exact pgs_set hpg rfl ⟨.inr (.inr rfl), by rw [h0]; decide, fun _ => h0⟩, by show c.hot < max (c.ps.set A.length _).length 1; rw [hl]; exact h.hot, by show onK _ _ < max (c.ps.set A.length _).length 1; rw [hl]; exact onK_lt h.cold, by show c.test < max (c.ps.set A.length _).length 1; rw [hl]; exact h.test⟩
  obtain ⟨t, _, t3, _⟩ := trim_ends hb
  refine ⟨t.base, t.most, t.target, ⟨resL A, resL B, ?_, ?_⟩, ?_, t3⟩
  · rw [e, resL_app, resL_cons, if_pos (by unfold PagN.resi; simp [h2]), h0]
    rfl
  · rw [t.res]
    show resL (c.ps.set A.length _) = _
    rw [es, resL_app, resL_cons, if_neg (by unfold PagN.resi; simp)]
    rfl
  · refine t.keys.trans ?_
    show ((c.ps.set A.length _).map _).Sublist _
    rw [es, e]
    simp
theorem out_goes {c : ClkN} (h : BaseK c) {i : Nat} {p : PagN} (hp : c.ps[i]? = some p) (h2 : p.kind = 2) (h0 : p.pins = 0) : Out1 c (trimK (goesK c i)) p.key := by
  have hb := goes_base h hp
  obtain ⟨t, _, t3, _⟩ := trim_ends hb
  obtain ⟨A, B, e, rfl⟩ := split_at hp
  have es : (goesK c A.length).ps = A ++ B := by show strikeK c.ps A.length = _; rw [e, strike_split]
  refine ⟨t.base, t.most, t.target, ⟨resL A, resL B, ?_, ?_⟩, ?_, t3⟩
  · rw [e, resL_app, resL_cons, if_pos (by unfold PagN.resi; simp [h2]), h0]
    rfl
  · rw [t.res, es, resL_app]
  · refine t.keys.trans ?_
    rw [es, e]
    exact keys_strike A B p
/-- One look of the hand Cold. -/
theorem coldF_step {K : Nat} {c c' : ClkN} {out out' : List KeyN} {b : Bool} (h : BaseK c) (hK : c.ps.length ≤ K) (e : coldF (c, out, false) = some (c', out', b)) :
    (b = false → Turn c c' ∧ out' = out) ∧ (b = true → ∃ key, out' = out ++ [key] ∧ Out1 c c' key) ∧ muC K (c', out', b) < muC K (c, out, false) := by
  unfold coldF at e
  simp only [Bool.false_eq_true, if_false] at e
  split at e
  · cases e
  · rename_i hfree
    have hf : c.ps.any isFree = true := by simpa using hfree
    obtain ⟨t1, hl1, _, hw, _⟩ := warm_ends h hf
    obtain ⟨d, hd⟩ : ∃ d, d = warmK c := ⟨_, rfl⟩
    rw [← hd] at e t1 hl1 hw
    have hb := t1.base
    cases hp : d.ps[d.cold]? with
    | none => rw [hp] at e; cases e
    | some p =>
      rw [hp] at e
      simp only at e
      have hok := hb.ok_at hp
      obtain ⟨A, B, es, hA⟩ := split_at hp
      have hln : d.ps.length = A.length + 1 + B.length := by rw [es]; simp; omega
      have hcold : d.cold = A.length := hA.symm
      have hrot : rotK d.ps d.cold = p :: (B ++ A) := by rw [es, hcold, rot_at]
      obtain ⟨y, hy1, hy2⟩ := List.any_eq_true.1 hl1
      have hdK : (rotK d.ps d.cold).findIdx isLoose ≤ K := by
        refine Nat.le_trans List.findIdx_le_length ?_
        unfold rotK
        rw [List.length_append, List.length_drop, List.length_take]
        have := t1.len
        omega
      -- what the round began with is no less than what it has behind warming
      have hmu : 1 + (refsK d.ps * (K + 2) + (rotK d.ps d.cold).findIdx isLoose) ≤ muC K (c, out, false) := by
        show _ ≤ 1 + (refsK c.ps * (K + 2) + if c.ps.any isLoose then (rotK c.ps c.cold).findIdx isLoose else K + 1)
        have hr := Nat.mul_le_mul_right (K + 2) t1.refs
        by_cases hcl : c.ps.any isLoose = true
        · rw [if_pos hcl, hw hcl]
          exact Nat.le_refl _
        · rw [if_neg hcl]
          omega
      split at e
      · rename_i hno
        injection e with e
        injection e with e1 e2
        injection e2 with e2 e3
        subst e1 e2 e3
        have hnl : isLoose p = false := by
          unfold isLoose
          rcases hno with h1 | h1
          · simp [h1]
          · have : ¬ p.pins = 0 := by omega
            simp [this]
        have hex : ∃ x, x ∈ B ++ A ∧ isLoose x = true := by
          refine ⟨y, ?_, hy2⟩
          rw [es] at hy1
          rcases List.mem_append.1 hy1 with hy1 | hy1
          · exact List.mem_append_right _ hy1
          rcases List.mem_cons.1 hy1 with rfl | hy1
          · rw [hnl] at hy2; cases hy2
          · exact List.mem_append_left _ hy1
        have hnew : rotK d.ps (onK d.ps.length d.cold) = B ++ A ++ [p] := by
          rw [hcold]
          have : rotK d.ps (onK d.ps.length A.length) = rotK (A ++ p :: B) (onK d.ps.length A.length) := by rw [← es]
          rw [this, rot_on A B _ _ hln]
        refine ⟨fun _ => ⟨t1.trans (turn_hands hb hb.hot (onK_lt hb.cold) hb.test), rfl⟩, (fun h => by cases h), Nat.lt_of_lt_of_le ?_ hmu⟩
        show 1 + (refsK d.ps * (K + 2) + if d.ps.any isLoose then (rotK d.ps (onK d.ps.length d.cold)).findIdx isLoose else K + 1) < _
        rw [if_pos hl1, hnew, hrot]
        have := find_near (q := p) hnl hex
        omega
      · rename_i hno
        have h2 : p.kind = 2 := Classical.not_not.1 (fun h => hno (.inl h))
        have h0 : p.pins = 0 := by
          have := hok.2.1
          have : ¬ 0 < p.pins := fun h => hno (.inr h)
          omega
        split at e
        · rename_i hr
          -- one that was looked at is less; whatever stands behind, that is enough
          have hless : ∀ (q : PagN), q.ref = false → refsK (d.ps.set d.cold q) + 1 = refsK d.ps := fun q hq => by
            rw [es, hcold, set_split]
            unfold refsK
            simp only [List.countP_append, List.countP_cons]
            simp [hq, hr]
            omega
          have hfin : ∀ (g : ClkN), refsK g.ps + 1 ≤ refsK d.ps → g.ps.length ≤ K → muC K (g, out, false) < muC K (c, out, false) := fun g h1 h2 => by
            refine Nat.lt_of_lt_of_le ?_ hmu
            show 1 + (refsK g.ps * (K + 2) + if g.ps.any isLoose then (rotK g.ps g.cold).findIdx isLoose else K + 1) < _
            have h3 := Nat.mul_le_mul_right (K + 2) h1
            rw [Nat.add_mul, Nat.one_mul] at h3
            have h4 : (if g.ps.any isLoose then (rotK g.ps g.cold).findIdx isLoose else K + 1) ≤ K + 1 := by
              split
              · refine Nat.le_trans List.findIdx_le_length ?_
                unfold rotK
                rw [List.length_append, List.length_drop, List.length_take]
                omega
              · exact Nat.le_refl _
            omega
          split at e
          · injection e with e
            injection e with e1 e2
            injection e2 with e2 e3
            subst e1 e2 e3
            have ts := turn_set (q := { p with kind := 1, trial := false, ref := false }) hb hp rfl rfl (by unfold PagN.resi; simp [h2]) ⟨.inl rfl, hok.2.1, fun h3 => by simp at h3⟩ (fun h3 => by simp at h3) (fun h3 => by simp at h3) { d with ps := d.ps.set d.cold { p with kind := 1, trial := false, ref := false }, cold := onK d.ps.length d.cold } rfl rfl rfl hb.hot (onK_lt hb.cold) hb.test
            obtain ⟨tc, _, _⟩ := cool_ends ts.base
            refine ⟨fun _ => ⟨(t1.trans ts).trans tc, rfl⟩, (fun h => by cases h), hfin _ ?_ ?_⟩
            · have h5 := tc.refs
              have h6 := hless { p with kind := 1, trial := false, ref := false } rfl
              have h7 : refsK ({ d with ps := d.ps.set d.cold { p with kind := 1, trial := false, ref := false }, cold := onK d.ps.length d.cold } : ClkN).ps = refsK (d.ps.set d.cold { p with kind := 1, trial := false, ref := false }) := rfl
              omega
            · have h5 := tc.len
              have h6 := ts.len
              have h7 := t1.len
              omega
          · injection e with e
            injection e with e1 e2
            injection e2 with e2 e3
            subst e1 e2 e3
            have ts := turn_set (q := { p with trial := true, ref := false }) hb hp rfl rfl (by unfold PagN.resi; rfl) ⟨.inr (.inl h2), hok.2.1, fun h3 => hok.2.2 h3⟩ (fun h3 => h3) (fun h3 => by simp at h3) { d with ps := d.ps.set d.cold { p with trial := true, ref := false }, cold := onK d.ps.length d.cold } rfl rfl rfl hb.hot (onK_lt hb.cold) hb.test
            refine ⟨fun _ => ⟨t1.trans ts, rfl⟩, (fun h => by cases h), hfin _ ?_ ?_⟩
            · exact Nat.le_of_eq (hless { p with trial := true, ref := false } rfl)
            · have h6 := ts.len
              have h7 := t1.len
              omega
        · split at e
          · injection e with e
            injection e with e1 e2
            injection e2 with e2 e3
            subst e1 e2 e3
            refine ⟨(fun h => by cases h), fun _ => ⟨p.key, rfl, Out1.of t1 (out_trial hb hp h2 h0 rfl)⟩, ?_⟩
            show 0 < 1 + _
            omega
          · injection e with e
            injection e with e1 e2
            injection e2 with e2 e3
            subst e1 e2 e3
            refine ⟨(fun h => by cases h), fun _ => ⟨p.key, rfl, Out1.of t1 (out_goes hb hp h2 h0)⟩, ?_⟩
            show 0 < 1 + _
            omega
/-- The hand Cold turns: it ends; one that had no pins was put out. -/
theorem cold_ends {c : ClkN} (h : BaseK c) (hf : c.ps.any isFree = true) (out : List KeyN) : ∃ key, (turnColdK c out).2 = out ++ [key] ∧ Out1 c (turnColdK c out).1 key ∧ ∃ k, Ends coldF k (c, out, false) ((turnColdK c out).1, (turnColdK c out).2, true) := by
  obtain ⟨k, _, h2, h3⟩ := ends_run (f := coldF) (fun x => (x.2.2 = false → Turn c x.1 ∧ x.2.1 = out) ∧ (x.2.2 = true → ∃ key, x.2.1 = out ++ [key] ∧ Out1 c x.1 key)) (muC c.ps.length) (by
    rintro ⟨d, o, b⟩ ⟨d', o', b'⟩ ⟨h1, h2⟩ e
    cases b with
    | true => cases e
    | false =>
      obtain ⟨t, ho⟩ := h1 rfl
      obtain ⟨g1, g2, g3⟩ := coldF_step (K := c.ps.length) t.base t.len e
      have ho' : o = out := ho
      subst ho'
      exact ⟨⟨fun hb => ⟨t.trans (g1 hb).1, (g1 hb).2⟩, fun hb => by
        obtain ⟨key, k1, k2⟩ := g2 hb
        exact ⟨key, k1, Out1.of t k2⟩⟩, g3⟩) (muC c.ps.length (c, out, false)) (c, out, false) ⟨fun _ => ⟨Turn.refl h, rfl⟩, fun hb => by cases hb⟩ (Nat.le_refl _)
  obtain ⟨x, hx⟩ : ∃ x, x = runF coldF (muC c.ps.length (c, out, false)) (c, out, false) := ⟨_, rfl⟩
  have hturn : turnColdK c out = (x.1, x.2.1) := by rw [hx]; rfl
  have hlast := h2.last
  rw [← hx] at h2 h3 hlast
  rw [hturn]
  obtain ⟨d, o, b⟩ := x
  cases b with
  | true =>
    obtain ⟨key, k1, k2⟩ := h3.2 rfl
    exact ⟨key, k1, k2, k, h2⟩
  | false =>
    exfalso
    obtain ⟨t, _⟩ := h3.1 rfl
    have hb : BaseK d := t.base
    have hf2 : d.ps.any isFree = true := by
      have := t.res
      rw [free_res] at hf ⊢
      have e : resL d.ps = resL c.ps := this
      rw [e]
      exact hf
    unfold coldF at hlast
    simp only [Bool.false_eq_true, if_false] at hlast
    rw [if_neg (by rw [hf2]; decide)] at hlast
    obtain ⟨t1, hl1, _, _, _⟩ := warm_ends hb hf2
    obtain ⟨y, hy1, _⟩ := List.any_eq_true.1 hl1
    obtain ⟨p, hp⟩ := hand_at t1.base.cold (by rintro e; rw [e] at hy1; cases hy1)
    rw [hp] at hlast
    simp only at hlast
    split at hlast
    · cases hlast
    · split at hlast
      · split at hlast <;> cases hlast
      · split at hlast <;> cases hlast

theorem res_len {ps : List PagN} (h : ∀ p ∈ ps, OkP p) : (resL ps).length = cntK 1 ps + cntK 2 ps := by
  induction ps with
  | nil => rfl
  | cons p ps ih =>
    have ih' := ih (fun q hq => h q (List.mem_cons_of_mem _ hq))
    rw [resL_cons, List.length_append, ih']
    unfold cntK
    simp only [List.countP_cons]
    have hp := (h p (List.mem_cons_self ..)).1
    unfold PagN.resi
    rcases hp with e | e | e <;> simp [e] <;> omega
/-- What a clock is that such calls make. -/
structure Good (c : ClkN) : Prop where
  base : BaseK c
  room : ((cntK 1 c.ps + cntK 2 c.ps : Nat) : Int) ≤ c.most
  trial : (cntK 3 c.ps : Int) ≤ c.most
  hots : (cntK 1 c.ps : Int) ≤ c.most - c.target
theorem good_new (most : Int) : Good (newK most) := by
  have h : 1 ≤ min (max most 1) 1000 ∧ min (max most 1) 1000 ≤ 1000 := by omega
  refine ⟨⟨h, ⟨Int.le_refl _, h.1⟩, ⟨(fun p hp => by cases hp), List.nodup_nil⟩, Nat.zero_lt_one, Nat.zero_lt_one, Nat.zero_lt_one⟩, ?_, ?_, ?_⟩
  · show ((0 : Nat) : Int) ≤ min (max most 1) 1000; omega
  · show ((0 : Nat) : Int) ≤ min (max most 1) 1000; omega
  · show ((0 : Nat) : Int) ≤ min (max most 1) 1000 - 1; omega
/-- What room is made: who is put out. -/
theorem room_ends {c : ClkN} (h : BaseK c) (hr : ((cntK 1 c.ps + cntK 2 c.ps : Nat) : Int) ≤ c.most) (hf : ((cntK 1 c.ps + cntK 2 c.ps : Nat) : Int) = c.most → c.ps.any isFree = true) (ht : (cntK 3 c.ps : Int) ≤ c.most) :
    (∃ k, Ends roomF k (c, []) (roomK c)) ∧
    (((cntK 1 c.ps + cntK 2 c.ps : Nat) : Int) < c.most ∧ roomK c = (c, []) ∨ ((cntK 1 c.ps + cntK 2 c.ps : Nat) : Int) = c.most ∧ ∃ key, (roomK c).2 = [key] ∧ Out1 c (roomK c).1 key ∧ roomK c = turnColdK c []) ∧
    ((cntK 1 (roomK c).1.ps + cntK 2 (roomK c).1.ps : Nat) : Int) < c.most ∧ (cntK 3 (roomK c).1.ps : Int) ≤ c.most ∧ BaseK (roomK c).1 ∧ (roomK c).1.most = c.most ∧ ((roomK c).1.ps.map (·.key)).Sublist (c.ps.map (·.key)) := by
  by_cases hfull : ((cntK 1 c.ps + cntK 2 c.ps : Nat) : Int) = c.most
  · obtain ⟨key, k1, k2, _⟩ := cold_ends h (hf hfull) []
    have hlen : cntK 1 (turnColdK c []).1.ps + cntK 2 (turnColdK c []).1.ps + 1 = cntK 1 c.ps + cntK 2 c.ps := by
      rw [← res_len k2.base.pgs.1, ← res_len h.pgs.1]
      obtain ⟨L1, L2, e1, e2⟩ := k2.res
      rw [e1, e2]
      simp
      omega
    have hstep : roomF (c, []) = some (turnColdK c []) := by
      unfold roomF
      rw [if_pos (by show c.most ≤ ((cntK 1 c.ps + cntK 2 c.ps : Nat) : Int); omega)]
    have hlast : roomF (turnColdK c []) = none := by
      unfold roomF
      rw [if_neg (by have := k2.most; omega)]
    have hends : Ends roomF 1 (c, []) (turnColdK c []) := ⟨_, hstep, hlast, rfl⟩
    have hrun : roomK c = turnColdK c [] := hends.run (n := cntK 1 c.ps + cntK 2 c.ps) (by have := h.most; omega)
    rw [hrun]
    exact ⟨⟨1, hends⟩, .inr ⟨hfull, key, by simpa using k1, k2, rfl⟩, by omega, by have := k2.tests; have := k2.most; omega, k2.base, k2.most, k2.keys⟩
  · have hlast : roomF (c, []) = none := by
      unfold roomF
      rw [if_neg (by show ¬ c.most ≤ ((cntK 1 c.ps + cntK 2 c.ps : Nat) : Int); omega)]
    have hends : Ends roomF 0 (c, []) (c, []) := ⟨hlast, rfl⟩
    have hrun : roomK c = (c, []) := hends.run (n := cntK 1 c.ps + cntK 2 c.ps) (Nat.zero_le _)
    rw [hrun]
    exact ⟨⟨0, hends⟩, .inl ⟨by omega, rfl⟩, by show ((cntK 1 c.ps + cntK 2 c.ps : Nat) : Int) < _; omega, ht, h, rfl, List.Sublist.refl _⟩
theorem findK_some {k : KeyN} {ps : List PagN} {i : Nat} (h : findK k ps = some i) : ∃ p, ps[i]? = some p ∧ p.key = k := by
  unfold findK at h
  obtain ⟨hi, h1, _⟩ := List.findIdx?_eq_some_iff_getElem.1 h
  exact ⟨ps[i], List.getElem?_eq_getElem hi, by simpa using h1⟩
theorem findK_none {k : KeyN} {ps : List PagN} (h : findK k ps = none) : ∀ p ∈ ps, p.key ≠ k := by
  unfold findK at h
  rw [List.findIdx?_eq_none_iff] at h
  intro p hp
  simpa using h p hp
/-- In what has each name once, who has it stands where it is looked for. -/
theorem findK_at {k : KeyN} {ps : List PagN} (hn : (ps.map (·.key)).Nodup) {i : Nat} {p : PagN} (hp : ps[i]? = some p) (hk : p.key = k) : findK k ps = some i := by
  cases h : findK k ps with
  | none => exact absurd hk (findK_none h p (List.mem_of_getElem? hp))
  | some j =>
    obtain ⟨q, hq, hqk⟩ := findK_some h
    have hi : (ps.map (·.key))[i]? = some k := by rw [List.getElem?_map, hp, ← hk]; rfl
    have hj : (ps.map (·.key))[j]? = some k := by rw [List.getElem?_map, hq, ← hqk]; rfl
    have hl := (List.getElem?_eq_some_iff.1 hj).1
    rw [List.Nodup, List.pairwise_iff_getElem] at hn
    obtain ⟨hi1, hi2⟩ := List.getElem?_eq_some_iff.1 hi
    obtain ⟨hj1, hj2⟩ := List.getElem?_eq_some_iff.1 hj
    rcases Nat.lt_trichotomy i j with h1 | h1 | h1
    · exact absurd (hi2.trans hj2.symm) (hn i j hi1 hj1 h1)
    · rw [h1]
    · exact absurd (hj2.trans hi2.symm) (hn j i hj1 hi1 h1)
/-- Who comes stands there; all else is as it was. -/
theorem come_base {c : ClkN} (h : BaseK c) {p : PagN} (hok : OkP p) (hnew : ∀ q ∈ c.ps, q.key ≠ p.key) : BaseK (comeK c p) ∧ (comeK c p).most = c.most ∧ (comeK c p).target = c.target ∧ p ∈ (comeK c p).ps ∧
    (∀ k, cntK k (comeK c p).ps = cntK k c.ps + if p.kind = k then 1 else 0) ∧ ∃ L1 L2, resL c.ps = L1 ++ L2 ∧ resL (comeK c p).ps = L1 ++ (if p.resi then [(p.key, p.pins)] else []) ++ L2 := by
  unfold comeK
  by_cases he : c.ps = []
  · rw [if_pos he]
    refine ⟨⟨h.most, h.target, ⟨fun q hq => ?_, ?_⟩, Nat.zero_lt_one, Nat.zero_lt_one, Nat.zero_lt_one⟩, rfl, rfl, List.mem_cons_self .., fun k => ?_, [], [], ?_, ?_⟩
    · rcases List.mem_cons.1 hq with rfl | hq
      · exact hok
      · cases hq
    · simp
    · rw [he]
      unfold cntK
      simp [List.countP_cons]
    · rw [he]; rfl
    · show resL [p] = _
      rw [resL_cons]
      simp [resL]
  · rw [if_neg he]
    have hpos : 0 < c.ps.length := List.length_pos_iff.2 he
    have hlen : (c.ps.take c.hot ++ p :: c.ps.drop c.hot).length = c.ps.length + 1 := by
      rw [List.length_append, List.length_cons, List.length_take, List.length_drop]
      omega
    have hspl : c.ps = c.ps.take c.hot ++ c.ps.drop c.hot := (List.take_append_drop _ _).symm
    have h1 := h.hot
    have h2 := h.cold
    have h3 := h.test
    refine ⟨⟨h.most, h.target, ⟨fun q hq => ?_, ?_⟩, ?_, ?_, ?_⟩, rfl, rfl, ?_, fun k => ?_, resL (c.ps.take c.hot), resL (c.ps.drop c.hot), ?_, ?_⟩
    · rcases List.mem_append.1 hq with hq | hq
      · exact h.pgs.1 q (List.mem_of_mem_take hq)
      rcases List.mem_cons.1 hq with rfl | hq
      · exact hok
      · exact h.pgs.1 q (List.mem_of_mem_drop hq)
    · have hn := h.pgs.2
      rw [hspl, List.map_append, List.nodup_append] at hn
      show ((c.ps.take c.hot ++ p :: c.ps.drop c.hot).map _).Nodup
      rw [List.map_append, List.map_cons, List.nodup_append, List.nodup_cons]
      refine ⟨hn.1, ⟨fun hm => ?_, hn.2.1⟩, fun a ha b hb => ?_⟩
      · obtain ⟨q, hq, e⟩ := List.mem_map.1 hm
        exact hnew q (List.mem_of_mem_drop hq) e
      · rcases List.mem_cons.1 hb with rfl | hb
        · obtain ⟨q, hq, e⟩ := List.mem_map.1 ha
          intro e2
          exact hnew q (List.mem_of_mem_take hq) (e.trans e2)
        · exact hn.2.2 a ha b hb
    · show c.hot + 1 < max (c.ps.take c.hot ++ p :: c.ps.drop c.hot).length 1
      rw [hlen]; omega
    · show (if c.hot ≤ c.cold then c.cold + 1 else c.cold) < max (c.ps.take c.hot ++ p :: c.ps.drop c.hot).length 1
      rw [hlen]; split <;> omega
    · show (if c.hot ≤ c.test then c.test + 1 else c.test) < max (c.ps.take c.hot ++ p :: c.ps.drop c.hot).length 1
      rw [hlen]; split <;> omega
    · show p ∈ c.ps.take c.hot ++ p :: c.ps.drop c.hot
      exact List.mem_append_right _ (List.mem_cons_self ..)
    · show cntK k (c.ps.take c.hot ++ p :: c.ps.drop c.hot) = _
      have : cntK k c.ps = cntK k (c.ps.take c.hot) + cntK k (c.ps.drop c.hot) := by
        unfold cntK
        rw [← List.countP_append, ← hspl]
      rw [this]
      unfold cntK
      simp only [List.countP_append, List.countP_cons, beq_iff_eq]
      omega
    · rw [← resL_app, ← hspl]
    · show resL (c.ps.take c.hot ++ p :: c.ps.drop c.hot) = _
      rw [resL_app, resL_cons, List.append_assoc]
theorem res_mem {ps : List PagN} {x : KeyN × Int} : x ∈ resL ps ↔ ∃ p ∈ ps, p.resi = true ∧ (p.key, p.pins) = x := by
  unfold resL
  simp only [List.mem_map, List.mem_filter]
  constructor
  · rintro ⟨p, ⟨h1, h2⟩, h3⟩
    exact ⟨p, h1, h2, h3⟩
  · rintro ⟨p, h1, h2, h3⟩
    exact ⟨p, ⟨h1, h2⟩, h3⟩
/-- Each name is resident once. -/
theorem res_nodup {ps : List PagN} (hn : (ps.map (·.key)).Nodup) : ((resL ps).map (·.1)).Nodup := by
  unfold resL
  rw [List.map_map]
  have : ((fun x : KeyN × Int => x.1) ∘ fun p : PagN => (p.key, p.pins)) = fun p => p.key := rfl
  rw [this]
  exact hn.sublist ((List.filter_sublist).map _)
end Go.Proofs.Ytcoajldhhimmoaa

/- The clock's loops, round by round, as the document's code goes through them. -/
namespace Go.Proofs.Ytcoajldhhimmoaa

theorem Ends.none_ {σ : Type} {f : σ → Option σ} {k : Nat} {s t : σ} (h : Ends f k s t) (e : f s = none) : k = 0 ∧ t = s := by
  cases k with
  | zero => exact ⟨rfl, h.2.symm⟩
  | succ k =>
    obtain ⟨s', h1, _⟩ := h
    rw [e] at h1
    cases h1
theorem Ends.some_ {σ : Type} {f : σ → Option σ} {k : Nat} {s s' t : σ} (h : Ends f k s t) (e : f s = some s') : ∃ j, k = j + 1 ∧ Ends f j s' t := by
  cases k with
  | zero =>
    rw [h.1] at e
    cases e
  | succ k =>
    obtain ⟨s2, h1, h2⟩ := h
    rw [e] at h1
    injection h1 with h1
    exact ⟨k, rfl, by rw [h1]; exact h2⟩
/-! A counting loop; a looking loop. -/
section
variable {ps : List PagN} {i : Nat} {p : PagN} {k : KeyN}
theorem take_one (h : ps[i]? = some p) : ps.take (i + 1) = ps.take i ++ [p] := by rw [List.take_add_one, h]; rfl
theorem any_at {f : PagN → Bool} (h : ps[i]? = some p) (hf : f p = true) : ps.any f = true := List.any_eq_true.2 ⟨p, List.mem_of_getElem? h, hf⟩
end
/-! The hand Hot. -/
section
variable {c : ClkN} {p : PagN} {out : List KeyN}
theorem hotF_done : hotF (c, true) = none := by simp [hotF]
theorem hotF_ref (h : cntK 1 c.ps ≠ 0) (hp : c.ps[c.hot]? = some p) (h1 : p.kind = 1) (h2 : p.ref = true) : hotF (c, false) = some ({ c with ps := c.ps.set c.hot { p with ref := false }, hot := onK c.ps.length c.hot }, false) := by simp [hotF, h, hp, h1, h2]
theorem hotF_cool (h : cntK 1 c.ps ≠ 0) (hp : c.ps[c.hot]? = some p) (h1 : p.kind = 1) (h2 : p.ref = false) : hotF (c, false) = some ({ c with ps := c.ps.set c.hot { p with kind := 2, ref := false, trial := false }, hot := onK c.ps.length c.hot }, true) := by simp [hotF, h, hp, h1, h2]
theorem hotF_cold (h : cntK 1 c.ps ≠ 0) (hp : c.ps[c.hot]? = some p) (h1 : p.kind = 2) : hotF (c, false) = some ({ c with ps := c.ps.set c.hot { p with trial := false }, hot := onK c.ps.length c.hot }, false) := by simp [hotF, h, hp, h1]
theorem hotF_goes (h : cntK 1 c.ps ≠ 0) (hp : c.ps[c.hot]? = some p) (h1 : p.kind ≠ 1) (h2 : p.kind ≠ 2) : hotF (c, false) = some (aimK (goesK c c.hot) (-1), false) := by simp [hotF, h, hp, h1, h2]
/-! The hand Test. -/
theorem testF_done : testF (c, true) = none := by simp [testF]
theorem testF_goes (h : cntK 3 c.ps ≠ 0) (hp : c.ps[c.test]? = some p) (h1 : p.kind = 3) : testF (c, false) = some (aimK (goesK c c.test) (-1), true) := by simp [testF, h, hp, h1]
theorem testF_trial (h : cntK 3 c.ps ≠ 0) (hp : c.ps[c.test]? = some p) (h1 : p.kind = 2) (h2 : p.trial = true) : testF (c, false) = some (aimK { c with ps := c.ps.set c.test { p with trial := false }, test := onK c.ps.length c.test } (-1), false) := by simp [testF, h, hp, h1, h2]
theorem testF_on (h : cntK 3 c.ps ≠ 0) (hp : c.ps[c.test]? = some p) (h1 : p.kind ≠ 3) (h2 : ¬(p.kind = 2 ∧ p.trial = true)) : testF (c, false) = some ({ c with test := onK c.ps.length c.test }, false) := by
  unfold testF
  rw [if_neg Bool.false_ne_true, if_neg h]
  simp only [hp]
  rw [if_neg h1, if_neg h2]
/-! The hand Cold. -/
theorem coldF_done : coldF (c, out, true) = none := by simp [coldF]
theorem coldF_on (h : c.ps.any isFree = true) (hp : (warmK c).ps[(warmK c).cold]? = some p) (h1 : p.kind ≠ 2 ∨ 0 < p.pins) : coldF (c, out, false) = some ({ warmK c with cold := onK (warmK c).ps.length (warmK c).cold }, out, false) := by
  unfold coldF
  rw [if_neg Bool.false_ne_true, if_neg (by rw [h]; decide)]
  simp only [hp]
  rw [if_pos h1]
theorem coldF_hot (h : c.ps.any isFree = true) (hp : (warmK c).ps[(warmK c).cold]? = some p) (h1 : p.kind = 2) (h0 : p.pins = 0) (hr : p.ref = true) (ht : p.trial = true) :
    coldF (c, out, false) = some (coolK { warmK c with ps := (warmK c).ps.set (warmK c).cold { p with kind := 1, trial := false, ref := false }, cold := onK (warmK c).ps.length (warmK c).cold }, out, false) := by
  unfold coldF
  rw [if_neg Bool.false_ne_true, if_neg (by rw [h]; decide)]
  simp only [hp]
  rw [if_neg (by omega), if_pos hr, if_pos ht]
theorem coldF_trial (h : c.ps.any isFree = true) (hp : (warmK c).ps[(warmK c).cold]? = some p) (h1 : p.kind = 2) (h0 : p.pins = 0) (hr : p.ref = true) (ht : p.trial = false) :
    coldF (c, out, false) = some ({ warmK c with ps := (warmK c).ps.set (warmK c).cold { p with trial := true, ref := false }, cold := onK (warmK c).ps.length (warmK c).cold }, out, false) := by
  unfold coldF
  rw [if_neg Bool.false_ne_true, if_neg (by rw [h]; decide)]
  simp only [hp]
  rw [if_neg (by omega), if_pos hr, if_neg (by rw [ht]; decide)]
theorem coldF_test (h : c.ps.any isFree = true) (hp : (warmK c).ps[(warmK c).cold]? = some p) (h1 : p.kind = 2) (h0 : p.pins = 0) (hr : p.ref = false) (ht : p.trial = true) :
    coldF (c, out, false) = some (trimK { warmK c with ps := (warmK c).ps.set (warmK c).cold { p with kind := 3 }, cold := onK (warmK c).ps.length (warmK c).cold }, out ++ [p.key], true) := by
  unfold coldF
  rw [if_neg Bool.false_ne_true, if_neg (by rw [h]; decide)]
  simp only [hp]
  rw [if_neg (by omega), if_neg (by rw [hr]; decide), if_pos ht]
theorem coldF_goes (h : c.ps.any isFree = true) (hp : (warmK c).ps[(warmK c).cold]? = some p) (h1 : p.kind = 2) (h0 : p.pins = 0) (hr : p.ref = false) (ht : p.trial = false) :
    coldF (c, out, false) = some (trimK (goesK (warmK c) (warmK c).cold), out ++ [p.key], true) := by
  unfold coldF
  rw [if_neg Bool.false_ne_true, if_neg (by rw [h]; decide)]
  simp only [hp]
  rw [if_neg (by omega), if_neg (by rw [hr]; decide), if_neg (by rw [ht]; decide)]
/-! The other loops. -/
theorem coolF_some (h : c.most - c.target < (cntK 1 c.ps : Int)) : coolF c = some (turnHotK c) := if_pos h
theorem coolF_none (h : ¬ c.most - c.target < (cntK 1 c.ps : Int)) : coolF c = none := if_neg h
theorem trimF_some (h : c.most < (cntK 3 c.ps : Int)) : trimF c = some (turnTestK c) := if_pos h
theorem trimF_none (h : ¬ c.most < (cntK 3 c.ps : Int)) : trimF c = none := if_neg h
theorem warmF_some (h : c.ps.any isLoose = false) : warmF c = some (turnHotK c) := by unfold warmF; rw [h]; rfl
theorem warmF_none (h : c.ps.any isLoose = true) : warmF c = none := by unfold warmF; rw [h]; rfl
theorem roomF_some (h : c.most ≤ ((cntK 1 c.ps + cntK 2 c.ps : Nat) : Int)) : roomF (c, out) = some (turnColdK c out) := if_pos h
theorem roomF_none (h : ¬ c.most ≤ ((cntK 1 c.ps + cntK 2 c.ps : Nat) : Int)) : roomF (c, out) = none := if_neg h
end
/-! What stays good at each round, for the walks: a base, a place for the hand, and how long the row is at most. -/
theorem hot_keep {c : ClkN} (h : BaseK c) {b : Bool} {c' : ClkN} (e : hotF (c, false) = some (c', b)) : BaseK c' ∧ c'.ps.length ≤ c.ps.length ∧ c'.most = c.most := by
  have := hotF_step (K := c.ps.length + 1) h (by omega) e
  exact ⟨this.1.base, this.1.len, this.1.most⟩
theorem test_keep {c : ClkN} (h : BaseK c) {b : Bool} {c' : ClkN} (e : testF (c, false) = some (c', b)) : BaseK c' ∧ c'.ps.length ≤ c.ps.length ∧ c'.most = c.most := by
  have := testF_step h e
  exact ⟨this.1.base, this.1.len, this.1.most⟩
/-- Where the hand points: there is one, where a kind of page is. -/
theorem BaseK.hot_at {c : ClkN} (h : BaseK c) {kd : Int} (hc : cntK kd c.ps ≠ 0) : ∃ p, c.ps[c.hot]? = some p ∧ OkP p ∧ c.hot < c.ps.length := by
  obtain ⟨x, hx, _⟩ := cnt_pos hc
  obtain ⟨p, hp⟩ := hand_at h.hot (fun e => by rw [e] at hx; cases hx)
  exact ⟨p, hp, h.ok_at hp, (List.getElem?_eq_some_iff.1 hp).1⟩
theorem BaseK.test_at {c : ClkN} (h : BaseK c) {kd : Int} (hc : cntK kd c.ps ≠ 0) : ∃ p, c.ps[c.test]? = some p ∧ OkP p ∧ c.test < c.ps.length := by
  obtain ⟨x, hx, _⟩ := cnt_pos hc
  obtain ⟨p, hp⟩ := hand_at h.test (fun e => by rw [e] at hx; cases hx)
  exact ⟨p, hp, h.ok_at hp, (List.getElem?_eq_some_iff.1 hp).1⟩
theorem BaseK.cold_at {c : ClkN} (h : BaseK c) {f : PagN → Bool} (hc : c.ps.any f = true) : ∃ p, c.ps[c.cold]? = some p ∧ OkP p ∧ c.cold < c.ps.length := by
  obtain ⟨x, hx, _⟩ := List.any_eq_true.1 hc
  obtain ⟨p, hp⟩ := hand_at h.cold (fun e => by rw [e] at hx; cases hx)
  exact ⟨p, hp, h.ok_at hp, (List.getElem?_eq_some_iff.1 hp).1⟩
end Go.Proofs.Ytcoajldhhimmoaa

/- Plain mathematics of bits: a row of bytes as a number. -/
namespace Go.Proofs.Ytcoajldhhimmoaa

def val (bs : List Nat) : Nat := bs.foldl (fun a b => a * 256 + b) 0
theorem val_snoc (bs : List Nat) (b : Nat) : val (bs ++ [b]) = val bs * 256 + b := by simp [val]
def lt256 (bs : List Nat) : Prop := ∀ b ∈ bs, b < 256
theorem lt256_snoc {bs : List Nat} {b : Nat} : lt256 (bs ++ [b]) ↔ lt256 bs ∧ b < 256 := by
  simp only [lt256, List.mem_append, List.mem_singleton]
  constructor
  · exact fun h => ⟨fun x hx => h x (.inl hx), h b (.inr rfl)⟩
  · rintro ⟨h1, h2⟩ x (hx | rfl)
    · exact h1 x hx
    · exact h2
theorem lt256_nil : lt256 [] := fun _ h => by cases h

theorem snoc_of_ne {bs : List Nat} (h : bs ≠ []) : ∃ as' b, bs = as' ++ [b] := ⟨bs.dropLast, bs.getLast h, (List.dropLast_concat_getLast h).symm⟩

/-- Two rows of bytes, as long as each other, of the same number, are one. -/
theorem val_inj : ∀ (n : Nat) (as' bs : List Nat), as'.length = n → bs.length = n → lt256 as' → lt256 bs → val as' = val bs → as' = bs := by
  intro n
  induction n with
  | zero =>
    intro as' bs ha hb _ _ _
    rw [List.eq_nil_of_length_eq_zero ha, List.eq_nil_of_length_eq_zero hb]
  | succ n ih =>
    intro as' bs ha hb h1 h2 hv
    obtain ⟨as', a, rfl⟩ := snoc_of_ne (bs := as') (by rintro rfl; simp at ha)
    obtain ⟨bs', b, rfl⟩ := snoc_of_ne (bs := bs) (by rintro rfl; simp at hb)
    rw [lt256_snoc] at h1 h2
    rw [val_snoc, val_snoc] at hv
    have e1 : val as' = val bs' := by have := h1.2; have := h2.2; omega
    have e2 : a = b := by have := h1.2; have := h2.2; omega
    rw [ih as' bs' (by simpa using ha) (by simpa using hb) h1.1 h2.1 e1, e2]

end Go.Proofs.Ytcoajldhhimmoaa

namespace Go.Proofs.Ytcoajldhhimmoaa

end Go.Proofs.Ytcoajldhhimmoaa

/- Regions that draw their order, whose calls make memory and turn nothing that is read: one walk in the text's order, over a class of worlds. -/
namespace Go.Proofs.Ytcoajldhhimmoaa
open Go.RowKit
section
variable {P : Program} {ops : Array Oper} {C S : World → Prop} {md : Region.Mode}

variable {Q : Act → Prop} {a : Act} {o : Oper} {rest : List Oper}
end
end Go.Proofs.Ytcoajldhhimmoaa

/- How many bits a number has, as math/bits tells it. -/
namespace Go.Proofs.Ytcoajldhhimmoaa
open Go.RowKit

end Go.Proofs.Ytcoajldhhimmoaa

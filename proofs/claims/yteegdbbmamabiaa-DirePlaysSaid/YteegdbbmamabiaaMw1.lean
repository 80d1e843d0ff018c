/- The texts Hd, Mem, Nbx, Bitm, Td, Td2, Xm, Refm, Sli, And, Fit, Row, Row2, Ow, Qc, Post, In, Sm, Vm, Rm, Pk, Pm, Dm, Cm, Tm, Ce, Ct, Cs, Ve, Vp, Vz, Ug, Oz, Ka, Vg, Uw, Nu, Lf, Mn, Lg, Us, Sk, Sf, Sp, Ea, Se, Dk, Ln, Lm, Du, Le, Mu, Su, Sq, Sd, Dg, Lp, Ld, Rk, Kap, Yb, Ym, Yw, Yk, Rkw, Yp, Mv, Mkz, Rph, one behind the other. -/
import Derived.Below
import Derived.BigQuiet
import Derived.BigRegion
import Derived.ChangeSame
import Derived.Deep.AppendLies
import Derived.Deep.CutBlock
import Derived.Deep.DeepCutAuto
import Derived.Deep.DeepFit
import Derived.Deep.DeepHandedRow
import Derived.Deep.Draws
import Derived.Deep.LoopGhost
import Derived.Deep.MidRow
import Derived.Deep.QuietTactic
import Derived.Deep.RegionHeld
import Derived.Deep.RegionHeld3
import Derived.Deep.RegionHeldLaw
import Derived.Deep.RegionLaw
import Derived.Deep.RegionWith
import Derived.Deep.WholeRow
import Derived.IntWalk
import Derived.Laws.Bits64
import Derived.Laws.BitsAllLaws
import Derived.Laws.BitsLemmas
import Derived.Laws.CopyOwn
import Derived.Laws.IdiomStrings
import Derived.Laws.OwnMore
import Derived.Laws.ResultCell
import Derived.Laws.Rows
import Derived.Laws.StructEq
import Derived.Lib.AppendZerosOnto
import Derived.Lib.BitFns
import Derived.Lib.Hide
import Derived.Lib.LaidTab
import Derived.Lib.SlBytesConst
import Derived.Lib.Slices
import Derived.Lib.Small
import Derived.Lib.Strings
import Derived.Maps.AppendAt
import Derived.Maps.OwnSet
import Derived.OpenShut
import Derived.Outline
import Derived.OwnWalk
import Derived.ProofKit
import Derived.StillTailTactics
import Derived.WalkArith
import Derived.WalkKit
import Derived.WalkLawsBesides
import Derived.WalkSpells
import Derived.Test.YteegdbbmamabiaaProg
import Derived.Maps.Views
/- What these texts see of the kit. -/

/- Words for memory: a block known whole, a world in which only some blocks have turned. -/
namespace Go.Proofs.Yteegdbbmamabiaa
open Go.RowKit

theorem add_addr (g o j : Nat) : (⟨g, o, none⟩ : Addr).add j = ⟨g, o + j, none⟩ := by
  unfold Addr.add
  by_cases h : j = 0 <;> simp [h]
theorem add_block (a : Addr) (j : Nat) : (a.add j).block = a.block := by
  unfold Addr.add
  split <;> rfl
/-- A uint64's bound, behind a name: a numeral of that size among the hypotheses, even a hidden one, ends a walk in 'maximum recursion depth'. -/
def Lt64 (v : Nat) : Prop := v < 18446744073709551616
def Fit64 (v : Int) : Prop := 0 ≤ v ∧ v < 18446744073709551616
def FitI (n : Int) : Prop := -9223372036854775808 ≤ n ∧ n ≤ 9223372036854775807
theorem Lt64.out {v : Nat} (h : Lt64 v) : v < 18446744073709551616 := h
theorem Fit64.out {v : Int} (h : Fit64 v) : 0 ≤ v ∧ v < 18446744073709551616 := h
theorem FitI.out {v : Int} (h : FitI v) : -9223372036854775808 ≤ v ∧ v ≤ 9223372036854775807 := h
/-- An append's two bounds. -/
def Room (n m : Nat) : Prop := n + m ≤ maxLen ∧ (n + m) * 1 ≤ 140737488355328
theorem Room.mk (n m : Nat) (h : n + m ≤ 140737488355328) : Room n m := ⟨by unfold maxLen; omega, by omega⟩

/-- Block g is just these cells, none frozen. -/
def Blk (w : World) (g : Nat) (t : TypeId) (cs : Array Value) : Prop := w.heap[g]? = some (.cells cs t (0, 0))

section
variable {w w' : World} {g : Nat} {t : TypeId} {cs : Array Value}
theorem Blk.lt (h : Blk w g t cs) : g < w.heap.size := by
  rcases Nat.lt_or_ge g w.heap.size with hlt | hge
  · exact hlt
  · unfold Blk at h; rw [Array.getElem?_eq_none hge] at h; cases h
theorem Blk.cell (h : Blk w g t cs) (i : Nat) : w.cell? ⟨g, i, none⟩ = cs[i]? := cell_of_row w g i cs t (0, 0) h
theorem Blk.frozen (h : Blk w g t cs) (i : Nat) : w.frozen? ⟨g, i, none⟩ = false := by
  unfold Blk at h
  simp [World.frozen?, h]
theorem Blk.new (w : World) (t : TypeId) (cs : Array Value) : Blk (w.alloc (.cells cs t)) w.heap.size t cs := heap_alloc_new w _
theorem Blk.drew (h : Blk w g t cs) : Blk w.drew g t cs := h
theorem Blk.drewN (h : Blk w g t cs) (n : Nat) : Blk (w.drewN n) g t cs := h
theorem Blk.alloc (h : Blk w g t cs) (o : Obj) : Blk (w.alloc o) g t cs := (Below.heap_alloc w o g h.lt).trans h
theorem Blk.set_ (h : Blk w g t cs) (i : Nat) (u : Value) : Blk (w.setCell ⟨g, i, none⟩ u) g t (cs.setIfInBounds i u) := by
  unfold Blk at h ⊢
  simp [World.setCell, Array.getElem?_modify, h]
theorem Blk.far (h : Blk w g t cs) {p : Addr} (hp : g ≠ p.block) (u : Value) : Blk (w.setCell p u) g t cs := (Below.heap_setCell w p u g hp).trans h
theorem Blk.below {B : Nat} (h : Blk w g t cs) (hb : Below B w w') (hg : g < B) : Blk w' g t cs := (hb.block g hg).trans h
theorem Blk.grown {row : Option Nat} (h : Blk w g t cs) (hb : w.grownBy w' row) (hg : some g ≠ row) : Blk w' g t cs := (hb.block g h.lt hg).trans h
theorem Blk.ne_ {g' : Nat} {t' : TypeId} {cs' : Array Value} (h : Blk w g t cs) (h' : Blk w g' t' cs') (hne : t ≠ t') : g ≠ g' := by
  rintro rfl
  unfold Blk at h h'
  rw [h] at h'
  injection h' with h'
  injection h' with _ ht
  exact hne ht
theorem own_blk_ne {base : Nat} {e : TypeId} {size n : Nat} {v : Value} {xs : List Value} (h : w.ownsRow base e size v n xs) (hg : Blk w g t cs) (hne : e ≠ t) : v.ownBlock ≠ some g := by
  rcases h.2 with ⟨rfl, _⟩ | ⟨g', cap, cur, rfl, _, hh, _⟩
  · simp [Value.ownBlock]
  · intro he
    have : g' = g := by simpa [Value.ownBlock] using he
    subst this
    exact Blk.ne_ (t := e) hh hg hne rfl
end

theorem Blk.two {w : World} {g : Nat} {t : TypeId} {c0 c1 : Value} (h : Blk w g t #[c0, c1]) (u v : Value) :
    (w.setCell ⟨g, 0, none⟩ u).cell? ⟨g, 0, none⟩ = some u ∧ ((w.setCell ⟨g, 0, none⟩ u).setCell ⟨g, 1, none⟩ v).cell? ⟨g, 1, none⟩ = some v ∧ Blk ((w.setCell ⟨g, 0, none⟩ u).setCell ⟨g, 1, none⟩ v) g t #[u, v] := by
  have h1 := h.set_ 0 u
  have h2 := h1.set_ 1 v
  refine ⟨?_, ?_, ?_⟩
  · have := h1.cell 0; simpa using this
  · have := h2.cell 1; simpa using this
  · simpa using h2

/-- Only the blocks of S, and new ones, have turned. -/
structure Mod (S : Nat → Prop) (w w' : World) : Prop where
  os : w'.os = w.os
  tape : w'.tape = w.tape
  output : w'.output = w.output
  size : w.heap.size ≤ w'.heap.size
  block : ∀ k, k < w.heap.size → ¬ S k → w'.heap[k]? = w.heap[k]?

section
variable {S S' : Nat → Prop} {w w1 w2 : World}
theorem Mod.refl (S : Nat → Prop) (w : World) : Mod S w w := ⟨rfl, rfl, rfl, Nat.le_refl _, fun _ _ _ => rfl⟩
theorem Mod.trans (h : Mod S w w1) (k : Mod S' w1 w2) (hs : ∀ i, i < w.heap.size → S' i → S i) : Mod S w w2 :=
  ⟨k.os.trans h.os, k.tape.trans h.tape, k.output.trans h.output, Nat.le_trans h.size k.size, fun i hi hn =>
    (k.block i (Nat.lt_of_lt_of_le hi h.size) (fun hk => hn (hs i hi hk))).trans (h.block i hi hn)⟩
theorem Mod.mono (h : Mod S w w1) (hs : ∀ i, i < w.heap.size → S i → S' i) : Mod S' w w1 :=
  ⟨h.os, h.tape, h.output, h.size, fun i hi hn => h.block i hi (fun hk => hn (hs i hi hk))⟩
theorem Mod.drew (h : Mod S w w1) : Mod S w w1.drew := ⟨h.os, h.tape, h.output, h.size, h.block⟩
theorem Mod.drewN (h : Mod S w w1) (n : Nat) : Mod S w (w1.drewN n) := ⟨h.os, h.tape, h.output, h.size, h.block⟩
theorem Mod.alloc (h : Mod S w w1) (o : Obj) : Mod S w (w1.alloc o) :=
  h.trans (S' := fun _ => False) ⟨rfl, rfl, rfl, by simp, fun k hk _ => Below.heap_alloc _ _ _ hk⟩ (fun _ _ h => h.elim)
theorem Mod.setCell (h : Mod S w w1) {p : Addr} (hp : p.block < w.heap.size → S p.block) (u : Value) : Mod S w (w1.setCell p u) :=
  h.trans (S' := fun i => i = p.block) ⟨rfl, rfl, rfl, by simp [World.setCell], fun k hk hn => Below.heap_setCell _ _ _ _ hn⟩ (fun i hi h => by subst h; exact hp hi)
theorem Mod.grown {row : Option Nat} (h : Mod S w w1) (hg : w1.grownBy w2 row) (hr : ∀ k, row = some k → k < w.heap.size → S k) : Mod S w w2 :=
  h.trans (S' := fun i => row = some i) ⟨hg.os, hg.tape, hg.output, hg.size, fun k hk hn => hg.block k hk (fun e => hn e.symm)⟩ (fun i hi h => hr i h hi)
theorem Mod.below {B : Nat} (h : Mod S w w1) (hB : B ≤ w.heap.size) (hs : ∀ i, S i → B ≤ i) : Below B w w1 :=
  ⟨h.os, h.tape, h.output, h.size, fun i hi => h.block i (by omega) (fun hk => by have := hs i hk; omega)⟩
theorem Mod.of_below {B : Nat} (h : Below B w w1) : Mod (fun i => B ≤ i) w w1 := ⟨h.os, h.tape, h.output, h.size, fun i _ hn => h.block i (by omega)⟩
theorem Mod.blk {g : Nat} {t : TypeId} {cs : Array Value} (h : Mod S w w1) (hb : Blk w g t cs) (hn : ¬ S g) : Blk w1 g t cs := (h.block g hb.lt hn).trans hb
theorem Mod.cell (h : Mod S w w1) {a : Addr} (ha : a.block < w.heap.size) (hn : ¬ S a.block) : w1.cell? a = w.cell? a := World.cell?_of_block (h.block _ ha hn)
theorem Mod.owns {base : Nat} {e : TypeId} {size n : Nat} {v : Value} {xs : List Value} (h : Mod S w w1) (ho : w.ownsRow base e size v n xs) (hn : ∀ k, v.ownBlock = some k → ¬ S k) : w1.ownsRow base e size v n xs := by
  refine ⟨ho.1, ?_⟩
  rcases ho.2 with hl | ⟨g, cap, cur, rfl, hb, hgg, rest⟩
  · exact .inl hl
  · refine .inr ⟨g, cap, cur, rfl, hb, ?_, rest⟩
    rw [h.block g (Array.getElem?_eq_some_iff.1 hgg).1 (hn g (by simp [Value.ownBlock]))]
    exact hgg
end

/-- Bytes as cells. -/
def cells8 (bs : List Nat) : List Value := bs.map fun (b : Nat) => Value.int .u8 (b : Int)
theorem cells8_length (bs : List Nat) : (cells8 bs).length = bs.length := by simp [cells8]
/-- A slice at A, n long, reads as xs; its cells lie in block 'row'. -/
def Sees (w : World) (row : Nat) (A : Option Addr) (n : Nat) (xs : List Value) : Prop :=
  xs.length = n ∧ (0 < n → ∃ o, A = some ⟨row, o, none⟩ ∧ row < w.heap.size ∧ ∀ j u, xs[j]? = some u → w.cell? ⟨row, o + j, none⟩ = some u)
section
variable {w w1 : World} {row n : Nat} {A : Option Addr} {xs : List Value}
theorem Sees.mod {S : Nat → Prop} (h : Sees w row A n xs) (hm : Mod S w w1) (hn : row < w.heap.size → ¬ S row) : Sees w1 row A n xs :=
  ⟨h.1, fun h0 => by
    obtain ⟨o, e, hl, hc⟩ := h.2 h0
    exact ⟨o, e, Nat.lt_of_lt_of_le hl hm.size, fun j u hu => (hm.cell hl (hn hl)).trans (hc j u hu)⟩⟩
theorem Sees.of_own {base : Nat} {e : TypeId} {c : Nat} (h : w.ownsRow base e 1 (.slice A n c) n xs) (hr : 0 < n → (Value.slice A n c).ownBlock = some row) : Sees w row A n xs := by
  refine ⟨by simpa using h.1, fun hn => ?_⟩
  rcases h.2 with ⟨_, h0⟩ | ⟨g, cap, cur, e1, _, hg, _⟩
  · omega
  · have hr := hr hn
    injection e1 with eA en ec
    subst eA
    have : g = row := by simpa [Value.ownBlock] using hr
    subst this
    refine ⟨0, rfl, (Array.getElem?_eq_some_iff.1 hg).1, fun j u hu => ?_⟩
    have hj : j < xs.length := (List.getElem?_eq_some_iff.1 hu).1
    have h1 := h.1
    subst ec
    rw [Nat.zero_add, h.cellAt j (by omega)]
    exact hu
end
end Go.Proofs.Yteegdbbmamabiaa

/- A new block, one cell written, two cells written: what turns. -/
namespace Go.Proofs.Yteegdbbmamabiaa
open Go.RowKit

theorem one_cell (w : World) (g i : Nat) (u : Value) : Mod (fun k => k = g) w (w.setCell ⟨g, i, none⟩ u) := (Mod.refl (fun k => k = g) w).setCell (p := ⟨g, i, none⟩) (fun _ => rfl) u
theorem new_box (w : World) (t : TypeId) (cs : Array Value) : ∃ W, W = w.alloc (.cells cs t) ∧ Mod (fun _ => False) w W ∧ Blk W w.heap.size t cs ∧ W.heap.size = w.heap.size + 1 := ⟨_, rfl, (Mod.refl _ _).alloc _, Blk.new _ _ _, by simp⟩
theorem Mod.two_set (w : World) (g i j : Nat) (u v : Value) : Mod (fun k => k = g) w ((w.setCell ⟨g, i, none⟩ u).setCell ⟨g, j, none⟩ v) := ((Mod.refl (fun k => k = g) w).setCell (p := ⟨g, i, none⟩) (fun _ => rfl) u).setCell (p := ⟨g, j, none⟩) (fun _ => rfl) v
end Go.Proofs.Yteegdbbmamabiaa

/- Plain mathematics of bits: a row of bytes as a number. -/
namespace Go.Proofs.Yteegdbbmamabiaa

def val (bs : List Nat) : Nat := bs.foldl (fun a b => a * 256 + b) 0
theorem val_snoc (bs : List Nat) (b : Nat) : val (bs ++ [b]) = val bs * 256 + b := by simp [val]
def lt256 (bs : List Nat) : Prop := ∀ b ∈ bs, b < 256
theorem lt256_snoc {bs : List Nat} {b : Nat} : lt256 (bs ++ [b]) ↔ lt256 bs ∧ b < 256 := by
  simp only [lt256, List.mem_append, List.mem_singleton]
  constructor
  · exact fun h => ⟨fun x hx => h x (.inl hx), h b (.inr rfl)⟩
  · rintro ⟨h1, h2⟩ x (hx | rfl)
    · exact h1 x hx
    · exact h2
theorem lt256_nil : lt256 [] := fun _ h => by cases h

theorem snoc_of_ne {bs : List Nat} (h : bs ≠ []) : ∃ as' b, bs = as' ++ [b] := ⟨bs.dropLast, bs.getLast h, (List.dropLast_concat_getLast h).symm⟩

/-- Two rows of bytes, as long as each other, of the same number, are one. -/
theorem val_inj : ∀ (n : Nat) (as' bs : List Nat), as'.length = n → bs.length = n → lt256 as' → lt256 bs → val as' = val bs → as' = bs := by
  intro n
  induction n with
  | zero =>
    intro as' bs ha hb _ _ _
    rw [List.eq_nil_of_length_eq_zero ha, List.eq_nil_of_length_eq_zero hb]
  | succ n ih =>
    intro as' bs ha hb h1 h2 hv
    obtain ⟨as', a, rfl⟩ := snoc_of_ne (bs := as') (by rintro rfl; simp at ha)
    obtain ⟨bs', b, rfl⟩ := snoc_of_ne (bs := bs) (by rintro rfl; simp at hb)
    rw [lt256_snoc] at h1 h2
    rw [val_snoc, val_snoc] at hv
    have e1 : val as' = val bs' := by have := h1.2; have := h2.2; omega
    have e2 : a = b := by have := h1.2; have := h2.2; omega
    rw [ih as' bs' (by simpa using ha) (by simpa using hb) h1.1 h2.1 e1, e2]

end Go.Proofs.Yteegdbbmamabiaa

/- Plain mathematics of times by their differences: what a reader's bits are, and that they are what was told. -/
namespace Go.Proofs.Yteegdbbmamabiaa

def M64 : Nat := 18446744073709551616
def H63 : Nat := 9223372036854775808
theorem M64_eq : M64 = 2 * H63 := rfl
theorem M64_pow : M64 = 2 ^ 64 := by decide
/-- A number of 64 bits, as one with a sign; and back. -/
def sg (u : Nat) : Int := if u < H63 then (u : Int) else (u : Int) - (M64 : Int)
def un (x : Int) : Nat := (x % (M64 : Int)).toNat
def Fits (x : Int) : Prop := -(H63 : Int) ≤ x ∧ x < (H63 : Int)
theorem sg_fits {u : Nat} (h : u < M64) : Fits (sg u) := by
  have := M64_eq
  unfold sg Fits
  split <;> omega
/-- How many bits a difference has; its head, and how many bits that has. -/
def kindN (d : Int) : Nat := if d = 0 then 0 else if -64 ≤ d ∧ d < 64 then 7 else if -256 ≤ d ∧ d < 256 then 9 else if -2048 ≤ d ∧ d < 2048 then 12 else 64
def headN (d : Int) : Nat := if d = 0 then 0 else if -64 ≤ d ∧ d < 64 then 2 else if -256 ≤ d ∧ d < 256 then 6 else if -2048 ≤ d ∧ d < 2048 then 14 else 15
def longN (d : Int) : Nat := if d = 0 then 1 else if -64 ≤ d ∧ d < 64 then 2 else if -256 ≤ d ∧ d < 256 then 3 else 4
/-- k bits off what a reader has left. -/
def takeB (k R rem : Nat) : Option (Nat × Nat × Nat) := if k ≤ rem then some (R / 2 ^ (rem - k), R % 2 ^ (rem - k), rem - k) else none
/-- Fields: numbers, and in how many bits. -/
def flen : List (Nat × Nat) → Nat
  | [] => 0
  | (_, w) :: fs => w + flen fs
def fnum : List (Nat × Nat) → Nat
  | [] => 0
  | (v, w) :: fs => v % 2 ^ w * 2 ^ flen fs + fnum fs
theorem fnum_lt (fs : List (Nat × Nat)) : fnum fs < 2 ^ flen fs := by
  induction fs with
  | nil => show 0 < 1; omega
  | cons f fs ih =>
    obtain ⟨v, w⟩ := f
    show v % 2 ^ w * 2 ^ flen fs + fnum fs < 2 ^ (w + flen fs)
    have h1 : v % 2 ^ w + 1 ≤ 2 ^ w := Nat.mod_lt _ (Nat.two_pow_pos w)
    have h2 := Nat.mul_le_mul_right (2 ^ flen fs) h1
    rw [Nat.pow_add]
    rw [Nat.add_mul, Nat.one_mul] at h2
    omega
theorem flen_app (as' bs : List (Nat × Nat)) : flen (as' ++ bs) = flen as' + flen bs := by
  induction as' with
  | nil => show flen bs = 0 + flen bs; omega
  | cons a as' ih => show a.2 + flen (as' ++ bs) = a.2 + flen as' + flen bs; omega
theorem fnum_app (as' bs : List (Nat × Nat)) : fnum (as' ++ bs) = fnum as' * 2 ^ flen bs + fnum bs := by
  induction as' with
  | nil => show fnum bs = 0 * _ + fnum bs; omega
  | cons a as' ih =>
    show a.1 % 2 ^ a.2 * 2 ^ flen (as' ++ bs) + fnum (as' ++ bs) = (a.1 % 2 ^ a.2 * 2 ^ flen as' + fnum as') * 2 ^ flen bs + fnum bs
    rw [ih, flen_app, Nat.pow_add, Nat.add_mul, Nat.mul_assoc, Nat.add_assoc]
/-- The five heads. -/
def hv (h : Nat) : Nat := if h = 0 then 0 else if h = 1 then 2 else if h = 2 then 6 else if h = 3 then 14 else 15
def hw (h : Nat) : Nat := if h = 0 then 1 else if h = 1 then 2 else if h = 2 then 3 else 4
/-- Which head a difference has. -/
def hd (d : Int) : Nat := if d = 0 then 0 else if -64 ≤ d ∧ d < 64 then 1 else if -256 ≤ d ∧ d < 256 then 2 else if -2048 ≤ d ∧ d < 2048 then 3 else 4
/-- What Encode puts of one difference; of times behind 'prev' and 'last'; of a row. -/
def fieldsD (d : Int) : List (Nat × Nat) := [(headN d, longN d), (un d, kindN d)]
def stepOf (prev x : Int) : Nat := un (x - prev)
def diffOf (prev : Int) (last : Nat) (x : Int) : Int := sg (un ((stepOf prev x : Int) - (last : Int)))
def encT : Int → Nat → List Int → List (Nat × Nat)
  | _, _, [] => []
  | prev, last, x :: xs => fieldsD (diffOf prev last x) ++ encT x (stepOf prev x) xs
def encRow : List Int → List (Nat × Nat)
  | [] => []
  | x :: xs => (un x, 64) :: encT x 0 xs
end Go.Proofs.Yteegdbbmamabiaa

/- More of times: a difference told in any length; what a row has; how long it is. -/
namespace Go.Proofs.Yteegdbbmamabiaa

/-- What a row that is read has. -/
theorem takeB_some {k R rem : Nat} {p : Nat × Nat × Nat} (h : takeB k R rem = some p) (hR : R < 2 ^ rem) : p.1 < 2 ^ k ∧ p.2.1 < 2 ^ p.2.2 ∧ p.2.2 + k = rem := by
  unfold takeB at h
  split at h
  · rename_i hk
    injection h with h
    subst h
    refine ⟨?_, Nat.mod_lt _ (Nat.two_pow_pos _), (by show rem - k + k = rem; omega)⟩
    rw [Nat.div_lt_iff_lt_mul (Nat.two_pow_pos _), ← Nat.pow_add]
    rwa [show k + (rem - k) = rem by omega]
  · cases h
end Go.Proofs.Yteegdbbmamabiaa

/- Plain mathematics of values by what turns: how many 0s a number has ahead and behind; what is told, and that it is read back. -/
namespace Go.Proofs.Yteegdbbmamabiaa

/-- 0s ahead, 31 at most; 0s behind. -/
def ahd : Nat → Nat → Nat → Nat
  | 0, n, _ => n
  | f + 1, n, x => if x / 2 ^ (63 - n) = 0 then ahd f (n + 1) x else n
def aheadN (x : Nat) : Nat := ahd 31 0 x
def bhd : Nat → Nat → Nat → Nat
  | 0, n, _ => n
  | f + 1, n, x => if x / 2 ^ n % 2 = 0 then bhd f (n + 1) x else n
def behindN (x : Nat) : Nat := bhd 64 0 x
/-- A window: how many 0s ahead, and behind. -/
def WinOk : Option (Nat × Nat) → Prop
  | none => True
  | some (a, b) => a ≤ 31 ∧ a + b ≤ 63
def freshX (x : Nat) : List (Nat × Nat) := [(1, 1), (1, 1), (aheadN x, 5), (63 - aheadN x - behindN x, 6), (x / 2 ^ behindN x, 64 - aheadN x - behindN x)]
def fitsX : Option (Nat × Nat) → Nat → Bool
  | none, _ => false
  | some (a, b), x => decide (a ≤ aheadN x ∧ b ≤ behindN x)
def insideX : Option (Nat × Nat) → Nat → List (Nat × Nat)
  | none, _ => []
  | some (a, b), x => [(1, 1), (0, 1), (x / 2 ^ b, 64 - a - b)]
def fieldsX (win : Option (Nat × Nat)) (x : Nat) : List (Nat × Nat) := if x = 0 then [(0, 1)] else if fitsX win x = true then insideX win x else freshX x
def winX (win : Option (Nat × Nat)) (x : Nat) : Option (Nat × Nat) := if x = 0 then win else if fitsX win x = true then win else some (aheadN x, behindN x)
def encX : Option (Nat × Nat) → Nat → List Nat → List (Nat × Nat)
  | _, _, [] => []
  | win, prev, v :: vs => fieldsX win (v ^^^ prev) ++ encX (winX win (v ^^^ prev)) v vs
def encVals : List Nat → List (Nat × Nat)
  | [] => []
  | v :: vs => (v, 64) :: encX none v vs

/-- One value's turn is read. -/
def rdX (win : Option (Nat × Nat)) (R rem : Nat) : Option (Nat × Option (Nat × Nat) × Nat × Nat) :=
  match takeB 1 R rem with
  | none => none
  | some (c0, R1, rem1) =>
    if c0 = 0 then some (0, win, R1, rem1) else
    match takeB 1 R1 rem1 with
    | none => none
    | some (c1, R2, rem2) =>
      if c1 = 0 then
        match win with
        | none => none
        | some (a, b) =>
          match takeB (64 - a - b) R2 rem2 with
          | none => none
          | some (y, R3, rem3) => some (y * 2 ^ b, win, R3, rem3)
      else
        match takeB 5 R2 rem2 with
        | none => none
        | some (a, R3, rem3) =>
          match takeB 6 R3 rem3 with
          | none => none
          | some (m, R4, rem4) =>
            if 64 < a + (m + 1) then none else
            match takeB (m + 1) R4 rem4 with
            | none => none
            | some (y, R5, rem5) => some (y * 2 ^ (64 - a - (m + 1)), some (a, 64 - a - (m + 1)), R5, rem5)
end Go.Proofs.Yteegdbbmamabiaa

namespace Go.Proofs.Yteegdbbmamabiaa

end Go.Proofs.Yteegdbbmamabiaa

/- Slices of integers that came in. -/
namespace Go.Proofs.Yteegdbbmamabiaa
open Go.RowKit

/-- The slice at A, n long, reads as zs in every world that is as w was below B. -/
def SeesI (k : IntKind) (w : World) (B : Nat) (A : Option Addr) (n : Nat) (zs : List Int) : Prop :=
  zs.length = n ∧ (0 < n → ∃ ad, A = some ad ∧ ad.block < B ∧ ∀ j u, zs[j]? = some u → w.cell? (ad.add j) = some (.int k u))
theorem addr_block (a : Addr) (j : Nat) : (a.add j).block = a.block := by unfold Addr.add; split <;> rfl
theorem SeesI.at_ {k : IntKind} {w w' : World} {B n i : Nat} {A : Option Addr} {zs : List Int} (h : SeesI k w B A n zs) (hi : i < n) (hB : B ≤ w.heap.size) {S : Nat → Prop} (hm : Mod S w w') (hS : ∀ j, j < B → ¬ S j) :
    ∃ ad x, A = some ad ∧ zs[i]? = some x ∧ w'.cell? (ad.add i) = some (.int k x) := by
  obtain ⟨ad, e, hb, hc⟩ := h.2 (by omega)
  have hl : i < zs.length := by have := h.1; omega
  refine ⟨ad, zs[i], e, List.getElem?_eq_getElem hl, ?_⟩
  rw [hm.cell (a := ad.add i) (by rw [addr_block]; omega) (by rw [addr_block]; exact hS _ hb)]
  exact hc i _ (List.getElem?_eq_getElem hl)

/-- What the row's step tells of a slice of integers that came in. -/
theorem seesI_of {k : IntKind} {w : World} {a : Option Addr} {len cap : Nat} {zs : List Int}
    (h : (a = none ∧ len = 0 ∧ cap = 0 ∧ zs = []) ∨
      ∃ x, a = some x ∧ len ≤ cap ∧ cap ≤ maxLen ∧ zs.length = cap ∧ (∀ i, i < zs.length → w.cell? (x.add i) = some (.int k (zs.getD i 0))) ∧ ∀ n ∈ zs, (Lit.int k n).wf = true) :
    SeesI k w w.heap.size a len (zs.take len) ∧ ∀ x ∈ zs.take len, (Lit.int k x).wf = true := by
  rcases h with ⟨rfl, rfl, rfl, rfl⟩ | ⟨x, rfl, hl, hm, hz, hc, hw⟩
  · exact ⟨⟨rfl, fun h => by omega⟩, fun x h => by simp at h⟩
  · refine ⟨⟨by rw [List.length_take]; omega, fun h0 => ⟨x, rfl, ?_, fun j u hu => ?_⟩⟩, fun y hy => hw y (List.mem_of_mem_take hy)⟩
    · have := World.block_lt_of_cell? w _ (hc 0 (by omega))
      rwa [addr_block] at this
    · rw [List.getElem?_take] at hu
      split at hu
      · have hj : j < zs.length := (List.getElem?_eq_some_iff.1 hu).1
        rw [hc j hj, List.getD_eq_getElem?_getD, hu]
        rfl
      · cases hu
end Go.Proofs.Yteegdbbmamabiaa

/- '&' with a mask on int, whatever the sign. -/
namespace Go.Proofs.Yteegdbbmamabiaa

theorem i64_mask (a : Int) (m i : Nat) (hm : m = 2 ^ i - 1) (hi : i ≤ 62) : bits .and .i64 a (m : Int) = a % ((2 ^ i : Nat) : Int) := by
  have hp : (2 : Nat) ^ i ≤ 2 ^ 62 := Nat.pow_le_pow_right (by omega) hi
  have hp0 : 0 < (2 : Nat) ^ i := Nat.two_pow_pos i
  show IntKind.i64.wrap ((BitVec.ofInt 64 a &&& BitVec.ofInt 64 (m : Int)).toNat : Int) = _
  have hmm : (BitVec.ofInt 64 (m : Int)).toNat = m := by
    rw [BitVec.ofInt_natCast, BitVec.toNat_ofNat]
    exact Nat.mod_eq_of_lt (by omega)
  rw [BitVec.toNat_and, hmm, hm, Nat.and_two_pow_sub_one_eq_mod, BitVec.toNat_ofInt]
  have hd : ((2 ^ i : Nat) : Int) ∣ (18446744073709551616 : Int) := by
    refine ⟨((2 ^ (64 - i) : Nat) : Int), ?_⟩
    rw [← Int.natCast_mul, ← Nat.pow_add, show i + (64 - i) = 64 by omega]
    rfl
  have h1 : (((a % ((2 ^ 64 : Nat) : Int)).toNat % 2 ^ i : Nat) : Int) = a % ((2 ^ i : Nat) : Int) := by
    rw [Int.natCast_emod, Int.toNat_of_nonneg (Int.emod_nonneg _ (by decide))]
    exact Int.emod_emod_of_dvd a hd
  rw [h1, IntKind.wrap_i64]
  have h2 : 0 ≤ a % ((2 ^ i : Nat) : Int) := Int.emod_nonneg _ (by omega)
  have h3 : a % ((2 ^ i : Nat) : Int) < ((2 ^ i : Nat) : Int) := Int.emod_lt_of_pos _ (by omega)
  generalize a % ((2 ^ i : Nat) : Int) = x at *
  generalize (2 : Nat) ^ i = y at *
  omega
end Go.Proofs.Yteegdbbmamabiaa

namespace Go.Proofs.Yteegdbbmamabiaa
open Go.RowKit
end Go.Proofs.Yteegdbbmamabiaa

/- Rows in memory: what a slice reads as; a row of the call's own; append, make and copy, and string(b) on such. -/
namespace Go.Proofs.Yteegdbbmamabiaa
open Go.RowKit

theorem add_add (a : Addr) (i j : Nat) : (a.add i).add j = a.add (i + j) := by
  unfold Addr.add
  by_cases hi : i = 0 <;> by_cases hj : j = 0 <;> simp [hi, hj, Nat.add_assoc]

/-- The slice at A, n long, reads as xs, below block B. -/
def Rds (w : World) (B : Nat) (A : Option Addr) (n : Nat) (xs : List Value) : Prop :=
  xs.length = n ∧ (0 < n → ∃ ad, A = some ad ∧ ad.block < B ∧ ∀ j u, xs[j]? = some u → w.cell? (ad.add j) = some u)
section
variable {w w' : World} {B B' n : Nat} {A : Option Addr} {xs : List Value}
theorem Rds.nil (w : World) (B : Nat) (A : Option Addr) : Rds w B A 0 [] := ⟨rfl, fun h => absurd h (by omega)⟩
theorem Rds.at_ {k : Nat} (h : Rds w B A n xs) (hk : k < n) : ∃ ad u, A = some ad ∧ ad.block < B ∧ xs[k]? = some u ∧ w.cell? (ad.add k) = some u := by
  obtain ⟨ad, e, hb, hc⟩ := h.2 (by omega)
  have hl : k < xs.length := by have := h.1; omega
  exact ⟨ad, xs[k], e, hb, List.getElem?_eq_getElem hl, hc k _ (List.getElem?_eq_getElem hl)⟩
theorem Rds.keep (h : Rds w B A n xs) (hk : ∀ p : Addr, p.block < B → w'.cell? p = w.cell? p) : Rds w' B A n xs :=
  ⟨h.1, fun hn => by
    obtain ⟨ad, e, hb, hc⟩ := h.2 hn
    exact ⟨ad, e, hb, fun j u hu => (hk _ (by rw [add_block]; exact hb)).trans (hc j u hu)⟩⟩
theorem Rds.more (h : Rds w B A n xs) (hB : B ≤ B') : Rds w B' A n xs :=
  ⟨h.1, fun hn => by
    obtain ⟨ad, e, hb, hc⟩ := h.2 hn
    exact ⟨ad, e, by omega, hc⟩⟩
theorem Rds.below (h : Rds w B A n xs) (hb : Below B w w') : Rds w' B A n xs := h.keep fun _ hp => hb.cell hp
theorem Rds.drew (h : Rds w B A n xs) : Rds w.drew B A n xs := h
theorem Rds.alloc (h : Rds w B A n xs) (hB : B ≤ w.heap.size) (o : Obj) : Rds (w.alloc o) B A n xs := h.keep fun p hp => World.cell?_alloc_lt w o p (by omega)
theorem Rds.setCell (h : Rds w B A n xs) {p : Addr} (hB : B ≤ p.block) (u : Value) : Rds (w.setCell p u) B A n xs :=
  h.keep fun q hq => World.cell?_setCell_other w p q u (fun e => by subst e; omega)
theorem Rds.fit (h : Rds w B A n xs) : Rds w w.heap.size A n xs :=
  ⟨h.1, fun hn => by
    obtain ⟨ad, e, _, hc⟩ := h.2 hn
    refine ⟨ad, e, ?_, hc⟩
    have hl : 0 < xs.length := by have := h.1; omega
    have := World.block_lt_of_cell? w _ (hc 0 _ (List.getElem?_eq_getElem hl))
    rwa [add_block] at this⟩
/-- s[:k] -/
theorem Rds.take (h : Rds w B A n xs) {k : Nat} (hk : k ≤ n) : Rds w B A k (xs.take k) :=
  ⟨by rw [List.length_take, h.1]; omega, fun hn => by
    obtain ⟨ad, e, hb, hc⟩ := h.2 (by omega)
    refine ⟨ad, e, hb, fun j u hu => hc j u ?_⟩
    rw [List.getElem?_take] at hu
    split at hu
    · exact hu
    · cases hu⟩
/-- s[k:] -/
theorem Rds.drop (h : Rds w B A n xs) {k cap : Nat} (hk : k ≤ n) (hc : n ≤ cap) : Rds w B (if cap = k then A else A.map (·.add k)) (n - k) (xs.drop k) := by
  refine ⟨by rw [List.length_drop, h.1], fun hn => ?_⟩
  obtain ⟨ad, rfl, hb, hcell⟩ := h.2 (by omega)
  rw [if_neg (by omega)]
  refine ⟨ad.add k, rfl, by rw [add_block]; exact hb, fun j u hu => ?_⟩
  rw [add_add]
  exact hcell _ u (by rw [← hu, List.getElem?_drop])
theorem Rds.of_own {base : Nat} {e : TypeId} {c : Nat} (h : w.ownsRow base e 1 (.slice A n c) n xs) : Rds w w.heap.size A n xs := by
  refine ⟨by simpa using h.1, fun hn => ?_⟩
  obtain ⟨g, cap, hv, _, hlt⟩ := h.form hn
  have hA : A = some ⟨g, 0, none⟩ := by injection hv
  subst hA
  exact ⟨_, rfl, hlt, h.cells (g := g) rfl⟩
/-- A slice literal's block. -/
theorem Rds.lit (w : World) (t : TypeId) (cs : Array Value) : Rds (w.alloc (.cells cs t)) (w.heap.size + 1) (some ⟨w.heap.size, 0, none⟩) cs.size cs.toList := by
  refine ⟨by simp, fun hn => ⟨_, rfl, by simp, fun j u hu => ?_⟩⟩
  rw [add_addr, Nat.zero_add, (Blk.new w t cs).cell j]
  simpa using hu
end

/-- A row of the call's own: all that it has lies from block B on. -/
def Own (B : Nat) (w : World) (e : TypeId) (v : Value) (xs : List Value) : Prop := w.ownsRow B e 1 v xs.length xs
section
variable {w w' : World} {B B' : Nat} {e : TypeId} {v : Value} {xs : List Value}
theorem Own.nil (B : Nat) (w : World) (e : TypeId) : Own B w e (.slice none 0 0) [] := World.ownsRow_nil _ _ _ _
theorem Own.below (h : Own B w e v xs) (hb : Below w.heap.size w w') : Own B w' e v xs := by
  refine ⟨h.1, ?_⟩
  rcases h.2 with hn | ⟨g, cap, cur, rfl, hB, hgg, rest⟩
  · exact .inl hn
  · refine .inr ⟨g, cap, cur, rfl, hB, ?_, rest⟩
    rw [hb.block g (Array.getElem?_eq_some_iff.1 hgg).1]
    exact hgg
theorem Own.drew (h : Own B w e v xs) : Own B w.drew e v xs := h
theorem Own.alloc (h : Own B w e v xs) (o : Obj) : Own B (w.alloc o) e v xs := World.ownsRow.alloc h o
theorem Own.mono (h : Own B w e v xs) (hB : B' ≤ B) : Own B' w e v xs := by
  refine ⟨h.1, ?_⟩
  rcases h.2 with hn | ⟨g, cap, cur, rfl, hb, rest⟩
  · exact .inl hn
  · exact .inr ⟨g, cap, cur, rfl, by omega, rest⟩
/-- What its value looks like. -/
theorem Own.form (h : Own B w e v xs) : ∃ A c, v = .slice A xs.length c ∧ (A = none → c = 0) ∧ xs.length ≤ c ∧ c ≤ maxLen ∧ Rds w w.heap.size A xs.length xs := by
  have h' := h
  rcases h.2 with ⟨rfl, h0⟩ | ⟨g, cap, cur, rfl, hB, hgg, hnc, hcm, _⟩
  · exact ⟨none, 0, by rw [h0], fun _ => rfl, by omega, Nat.zero_le _, by rw [h0, List.eq_nil_of_length_eq_zero h0]; exact Rds.nil _ _ _⟩
  · exact ⟨_, cap, rfl, (fun h => by cases h), hnc, hcm, Rds.of_own h'⟩
theorem Own.block (h : Own B w e v xs) : ∀ k, v.ownBlock = some k → B ≤ k ∧ k < w.heap.size := World.ownsRow.lt h
/-- A slice literal. -/
theorem Own.lit (w : World) (e : TypeId) (cs : Array Value) (hm : cs.size ≤ maxLen) : Own w.heap.size (w.alloc (.cells cs e)) e (.slice (some ⟨w.heap.size, 0, none⟩) cs.size cs.size) cs.toList := by
  refine ⟨by simp, .inr ⟨w.heap.size, cs.size, cs, by simp, Nat.le_refl _, Blk.new w e cs, by simp, hm, by simp, ?_⟩⟩
  rw [List.take_of_length_le (by simp)]
end

/-- A slice type's element: its row of the table. -/
def Elt (P : Program) (t e : TypeId) (z : Value) (bytes : Nat) : Prop := P.underlying t = some (.slice e) ∧ (∃ i, P.info? e = some i ∧ i.zero = some z ∧ i.size = 1 ∧ i.bytes = bytes) ∧ z.cells.size = 1
theorem Elt.mk {P : Program} {t e : TypeId} {z : Value} {bytes : Nat} (h1 : P.underlying t = some (.slice e)) (h2 : (P.info? e).map (fun i => (i.zero, i.size, i.bytes)) = some (some z, 1, bytes)) (h3 : z.cells.size = 1) : Elt P t e z bytes :=
  ⟨h1, info_parts h2, h3⟩

section
variable {P : Program} {w : World}
end

section
variable {P : Program} {w : World}
end
end Go.Proofs.Yteegdbbmamabiaa

/- Rows in memory, for regions that draw their order: facts that are carried over whatever was done between. -/
namespace Go.Proofs.Yteegdbbmamabiaa
open Go.RowKit

/-- Block H begins with these cells. -/
def Has (w : World) (H : Nat) (xs : List Value) : Prop := ∀ j u, xs[j]? = some u → w.cell? ⟨H, j, none⟩ = some u
section
variable {w w' : World} {H B : Nat} {xs : List Value} {e : TypeId} {v v' : Value}
theorem Has.drew (h : Has w H xs) : Has w.drew H xs := h
theorem Has.alloc (h : Has w H xs) (o : Obj) : Has (w.alloc o) H xs := fun j u hu => by
  have hc := h j u hu
  rw [World.cell?_alloc_lt w o _ (World.block_lt_of_cell? w _ hc)]
  exact hc
theorem Has.below (h : Has w H xs) (hb : Below w.heap.size w w') : Has w' H xs := fun j u hu => by
  have hc := h j u hu
  rw [hb.cell (p := ⟨H, j, none⟩) (World.block_lt_of_cell? w _ hc)]
  exact hc
/-- Behind an append onto another row. -/
theorem Has.far {row : Option Nat} (h : Has w H xs) (hg : w.grownBy w' row) (hne : row ≠ some H) : Has w' H xs := fun j u hu => hg.cell (h j u hu) (fun e => hne e.symm)
theorem Has.rds (h : Has w H xs) : Rds w w.heap.size (some ⟨H, 0, none⟩) xs.length xs := by
  refine Rds.fit (B := H + 1) ⟨rfl, fun _ => ⟨_, rfl, Nat.lt_succ_self _, fun j u hu => ?_⟩⟩
  rw [add_addr, Nat.zero_add]
  exact h j u hu
theorem Own.far {row : Option Nat} (h : Own B w e v xs) (hg : w.grownBy w' row) (hne : row ≠ v.ownBlock) : Own B w' e v xs :=
  World.ownsRow.kept h hg (Or.inr (fun e => hne e.symm))
end

section
variable {P : Program} {w : World}
end
end Go.Proofs.Yteegdbbmamabiaa

/- Rows of bytes of the call's own: an append's result, one cell of such, one cell written. -/
namespace Go.Proofs.Yteegdbbmamabiaa
open Go.RowKit

end Go.Proofs.Yteegdbbmamabiaa

/- Regions that draw their order, whose calls make memory and turn nothing that is read: one walk in the text's order, over a class of worlds. -/
namespace Go.Proofs.Yteegdbbmamabiaa
open Go.RowKit
section
variable {P : Program} {ops : Array Oper} {C S : World → Prop} {md : Region.Mode}

/-- A region whose operations are written out, at a class of worlds. -/
theorem wp_region_class {id : Nat} {Q : Exit → Act → World → Prop} {a : Act} {w : World} {l : List Oper} (C : World → Prop) (hm : P.follows .mixedOrders = true) (hB : Region.lexB .any l.toArray = true) (hC : C w.drew)
    (h : wpQuiet P l.toArray C (fun a' => ∀ w', C w' → Q .normal a' w') l a) : (Code.region id l.toArray true).wp P Q a w :=
  wp_region_quiet (C := C) hm hB hC (by simpa using h)

variable {Q : Act → Prop} {a : Act} {o : Oper} {rest : List Oper}
theorem quiet_skip (hw : Region.wanted o (yielded ops a.tmps) = false) (h : wpQuiet P ops C Q rest (a.put o.dst undef)) : wpQuiet P ops C Q (o :: rest) a := by
  unfold wpQuiet
  rw [if_neg (by simp [hw])]
  exact h
end
end Go.Proofs.Yteegdbbmamabiaa

/- The row's last step where of the world behind the call it is known that what was there is as it was. -/
namespace Go.Proofs.Yteegdbbmamabiaa
open Go.RowKit Go.WideShapes Go.ChangeShapes
section
variable {H : Type} {enc : TypeId × Value → H} {P : Program}
end
theorem below_of_mod {w w' : World} (h : Mod (fun _ => False) w w') : Below w.heap.size w w' := h.below (Nat.le_refl _) (fun _ h => h.elim)
end Go.Proofs.Yteegdbbmamabiaa

/- A slice of bytes that came in, as a list of numbers. -/
namespace Go.Proofs.Yteegdbbmamabiaa
open Go.RowKit
end Go.Proofs.Yteegdbbmamabiaa

/- Plain mathematics of small numbers, many to a word: what a word holds; what is told of numbers; that it is read back, and that only they are told so. -/
namespace Go.Proofs.Yteegdbbmamabiaa

/-- How many numbers a word of a kind holds, and in how many bits each. -/
def numN (k : Nat) : Nat := ([240, 120, 60, 30, 20, 15, 12, 10, 8, 7, 6, 5, 4, 3, 2, 1] : List Nat).getD k 0
def bitN (k : Nat) : Nat := ([0, 0, 1, 2, 3, 4, 5, 6, 7, 8, 10, 12, 15, 20, 30, 60] : List Nat).getD k 0
/-- Numbers of b bits, the first one lowest. -/
def pk (b : Nat) : List Nat → Nat
  | [] => 0
  | x :: xs => x + 2 ^ b * pk b xs
/-- A word: its kind, and the numbers. -/
def wordN (k : Nat) (xs : List Nat) : Nat := k * 2 ^ 60 + pk (bitN k) xs
/-- Whether the next numbers may stand in a word of a kind. -/
def fitsK (u : List Nat) (k : Nat) : Bool := !(decide (k < 2) && decide (u.length < numN k)) && (u.take (numN k)).all fun x => decide (x < 2 ^ bitN k)
/-- The first kind from k on that may be; f kinds are left. -/
def kindF (u : List Nat) : Nat → Nat → Nat
  | 0, k => k
  | f + 1, k => if fitsK u k = true then k else kindF u f (k + 1)
def kindOf (u : List Nat) : Nat := kindF u 16 0
/-- Encode; f is a bound. -/
def encSF : Nat → List Nat → Option (List Nat)
  | 0, _ => some []
  | f + 1, u => if u = [] then some [] else if kindOf u = 16 then none else (encSF f (u.drop (numN (kindOf u)))).map fun ws => wordN (kindOf u) (u.take (numN (kindOf u))) :: ws
def encS (u : List Nat) : Option (List Nat) := encSF u.length u
end Go.Proofs.Yteegdbbmamabiaa

/- Numbers of any length: the mathematics. -/
namespace Go.Proofs.Yteegdbbmamabiaa

/-- The bytes of a number; the first argument bounds how many steps are taken. -/
def encF : Nat → Nat → List Nat
  | 0, u => [u]
  | f + 1, u => if u < 128 then [u] else (u % 128 + 128) :: encF f (u / 128)
def enc (u : Nat) : List Nat := encF u u
/-- What is read from the i-th byte on, acc behind. -/
def decF : Nat → Nat → List Nat → Nat × Nat
  | _, _, [] => (0, 0)
  | i, acc, x :: xs =>
    if 10 ≤ i then (0, 0)
    else if 128 ≤ x then decF (i + 1) (acc + (x - 128) * 2 ^ (7 * i)) xs
    else if (i = 9 ∧ 2 ≤ x) ∨ (x = 0 ∧ 0 < i) then (0, 0)
    else (acc + x * 2 ^ (7 * i), i + 1)
def dec (bs : List Nat) : Nat × Nat := decF 0 0 bs

/-- A number with a sign, without one; and back. -/
def zig (n : Int) : Int := if n < 0 then -2 * n - 1 else 2 * n
def zag (u : Int) : Int := if u % 2 = 1 then -(u / 2) - 1 else u / 2
theorem zig_fit {n : Int} (h1 : -9223372036854775808 ≤ n) (h2 : n ≤ 9223372036854775807) : 0 ≤ zig n ∧ zig n < 18446744073709551616 := by unfold zig; split <;> omega
end Go.Proofs.Yteegdbbmamabiaa

/- Plain mathematics of runs: what bytes are told of a row of values; what bytes are read as; that one is the other's way back, and the only one. -/
namespace Go.Proofs.Yteegdbbmamabiaa

/-- How many of the first are x. -/
def lead (x : Nat) : List Nat → Nat
  | [] => 0
  | y :: ys => if y = x then lead x ys + 1 else 0
/-- Encode; f is a bound. -/
def encRF : Nat → List Nat → List Nat
  | 0, _ => []
  | _ + 1, [] => []
  | f + 1, x :: xs => enc (lead x (x :: xs)) ++ (enc x ++ encRF f ((x :: xs).drop (lead x (x :: xs))))
def encR (u : List Nat) : List Nat := encRF u.length u
end Go.Proofs.Yteegdbbmamabiaa

/- Plain mathematics of numbers of so many bits each in bytes: what is packed, and that it is read back; how many bits a number has. -/
namespace Go.Proofs.Yteegdbbmamabiaa

/-- k bytes of a number, the greatest first. -/
def byts : Nat → Nat → List Nat
  | 0, _ => []
  | k + 1, N => byts k (N / 256) ++ [N % 256]
theorem byts_len (k : Nat) : ∀ N, (byts k N).length = k := by
  induction k with
  | zero => intro N; rfl
  | succ k ih => intro N; show (byts k (N / 256) ++ [N % 256]).length = _; rw [List.length_append, ih]; rfl
theorem byts_256 (k : Nat) : ∀ N, lt256 (byts k N) := by
  induction k with
  | zero => intro N; exact lt256_nil
  | succ k ih => intro N; exact lt256_snoc.2 ⟨ih _, Nat.mod_lt _ (by decide)⟩
theorem byts_val (k : Nat) : ∀ N, N < 2 ^ (8 * k) → val (byts k N) = N := by
  induction k with
  | zero =>
    intro N h
    have : N = 0 := by simpa using h
    subst this; rfl
  | succ k ih =>
    intro N h
    show val (byts k (N / 256) ++ [N % 256]) = N
    rw [val_snoc, ih (N / 256) (by
      rw [show 8 * (k + 1) = 8 * k + 8 by omega, Nat.pow_add] at h
      exact Nat.div_lt_of_lt_mul (by omega))]
    omega
/-- The bytes of L bits, the last one filled with 0s. -/
def packB (N L : Nat) : List Nat := byts ((L + 7) / 8) (N * 2 ^ (8 * ((L + 7) / 8) - L))
theorem packB_len (N L : Nat) : (packB N L).length = (L + 7) / 8 := byts_len _ _
theorem packB_256 (N L : Nat) : lt256 (packB N L) := byts_256 _ _
theorem packB_val {N L : Nat} (h : N < 2 ^ L) : val (packB N L) = N * 2 ^ (8 * ((L + 7) / 8) - L) := by
  unfold packB
  refine byts_val _ _ ?_
  have e : 8 * ((L + 7) / 8) = L + (8 * ((L + 7) / 8) - L) := by omega
  conv => rhs; rw [e, Nat.pow_add]
  exact Nat.mul_lt_mul_of_pos_right h (Nat.two_pow_pos _)
/-- What is packed has one form. -/
theorem packB_one {bs : List Nat} {N L free : Nat} (h : N < 2 ^ L) (hlt : lt256 bs) (hf : free < 8) (hl : L + free = 8 * bs.length) (hv : val bs = N * 2 ^ free) : bs = packB N L := by
  have e1 : bs.length = (L + 7) / 8 := by omega
  refine val_inj bs.length bs _ rfl (by rw [packB_len, e1]) hlt (packB_256 _ _) ?_
  rw [packB_val h, hv]
  congr 2
  omega

/-- Fields of one width. -/
def flds (w : Nat) (l : List Nat) : List (Nat × Nat) := l.map fun x => (x, w)
/-- The bytes of numbers of w bits each. -/
def packW (w : Nat) (l : List Nat) : List Nat := packB (fnum (flds w l)) (flen (flds w l))
theorem packW_one {bs : List Nat} {w free : Nat} {l : List Nat} (hlt : lt256 bs) (hf : free < 8) (hl : flen (flds w l) + free = 8 * bs.length) (hv : val bs = fnum (flds w l) * 2 ^ free) : bs = packW w l :=
  packB_one (fnum_lt _) hlt hf hl hv

/-- How many bits a number has. -/
def widF : Nat → Nat → Nat → Nat
  | 0, n, _ => n
  | f + 1, n, u => if u < 2 ^ n then n else widF f (n + 1) u
def wid (u : Nat) : Nat := widF 64 0 u
theorem take_succ_of {us : List Nat} {i x : Nat} (h : us[i]? = some x) : us.take (i + 1) = us.take i ++ [x] := by
  rw [List.take_add_one, h]; rfl
end Go.Proofs.Yteegdbbmamabiaa

/- Plain mathematics of a frame of reference: values by their least; what is told, and that it is read back, and nothing else is. -/
namespace Go.Proofs.Yteegdbbmamabiaa

/-- The least and the greatest. -/
def loV (v : List Nat) : Nat := v.foldl min (v.getD 0 0)
def hiV (v : List Nat) : Nat := v.foldl max (v.getD 0 0)
/-- Encode. -/
def widV (v : List Nat) : Nat := wid (hiV v - loV v)
def difV (v : List Nat) : List Nat := v.map fun x => x - loV v
def encP (v : List Nat) : List Nat := if v = [] then [] else enc (loV v) ++ (widV v :: packW (widV v) (difV v))
end Go.Proofs.Yteegdbbmamabiaa

/- Plain mathematics of a dictionary: the values that are unlike, each value's place among them; what is told, and that it is read back, and nothing else is. -/
namespace Go.Proofs.Yteegdbbmamabiaa

/-- The values that are unlike, in the order in which each comes first, behind those that are there. -/
def uniqF : List Nat → List Nat → List Nat
  | acc, [] => acc
  | acc, x :: xs => if x ∈ acc then uniqF acc xs else uniqF (acc ++ [x]) xs
def uniq (v : List Nat) : List Nat := uniqF [] v
/-- Where a value stands; as long as the row, where nowhere. -/
def plc (x : Nat) : List Nat → Nat
  | [] => 0
  | y :: ys => if y = x then 0 else plc x ys + 1
theorem plc_get {x : Nat} {l : List Nat} (h : x ∈ l) : l[plc x l]? = some x := by
  induction l with
  | nil => cases h
  | cons y ys ih =>
    unfold plc
    split
    · rename_i hy; subst hy; rfl
    · rename_i hy
      rcases List.mem_cons.1 h with rfl | h
      · exact absurd rfl hy
      · rw [List.getElem?_cons_succ]; exact ih h
theorem plc_first {x j : Nat} {l : List Nat} (h : j < plc x l) : l[j]? ≠ some x := by
  induction l generalizing j with
  | nil => exact absurd h (Nat.not_lt_zero _)
  | cons y ys ih =>
    unfold plc at h
    split at h
    · omega
    · rename_i hy
      cases j with
      | zero => rw [List.getElem?_cons_zero]; intro e; injection e with e; exact hy e
      | succ j => rw [List.getElem?_cons_succ]; exact ih (by omega)
/-- Where the j-th is the value and none ahead of it, it stands at j. -/
theorem plc_is {x j : Nat} {l : List Nat} (hj : l[j]? = some x) (hl : ∀ i, i < j → l[i]? ≠ some x) : plc x l = j := by
  rcases Nat.lt_trichotomy (plc x l) j with h | h | h
  · exact absurd (plc_get (List.mem_iff_getElem?.2 ⟨j, hj⟩)) (hl _ h)
  · exact h
  · exact absurd hj (plc_first h)
theorem plc_app {x : Nat} {l : List Nat} (h : x ∈ l) (t : List Nat) : plc x (l ++ t) = plc x l := by
  induction l with
  | nil => cases h
  | cons y ys ih =>
    show (if y = x then 0 else plc x (ys ++ t) + 1) = if y = x then 0 else plc x ys + 1
    by_cases hy : y = x
    · rw [if_pos hy, if_pos hy]
    · rw [if_neg hy, if_neg hy]
      rcases List.mem_cons.1 h with rfl | h
      · exact absurd rfl hy
      · rw [ih h]
/-- Numbers one behind the other. -/
def encV : List Nat → List Nat
  | [] => []
  | x :: xs => enc x ++ encV xs
/-- Encode. -/
def atD (v : List Nat) : List Nat := v.map fun x => plc x (uniq v)
def encD (v : List Nat) : Option (List Nat) :=
  if 256 < (uniq v).length then none
  else if v = [] then some []
  else some (enc (uniq v).length ++ (encV (uniq v) ++ packW (wid ((uniq v).length - 1)) (atD v)))
end Go.Proofs.Yteegdbbmamabiaa

/- Plain mathematics of sums of bytes: eight steps, the sum by a table, and that it is linear. -/
namespace Go.Proofs.Yteegdbbmamabiaa

def poly : Nat := 2197175160
def stp (x : Nat) : Nat := if x % 2 = 1 then x / 2 ^^^ poly else x / 2
def stps : Nat → Nat → Nat
  | 0, x => x
  | k + 1, x => stp (stps k x)
def ent (x : Nat) : Nat := stps 8 x
def sumF (T : Nat → Nat) : Nat → List Nat → Nat
  | s, [] => s
  | s, b :: bs => sumF T (T (s % 256 ^^^ b) ^^^ s / 256) bs
def sumN (T : Nat → Nat) (bs : List Nat) : Nat := sumF T 4294967295 bs ^^^ 4294967295

def word : List Nat → Nat
  | [] => 0
  | b :: bs => b + 256 * word bs
/-- The row of what is turned. -/
def offs (e : Nat → Nat) : Nat → List Nat
  | 0 => []
  | n + 1 => e 0 :: offs (fun j => e (j + 1)) n
end Go.Proofs.Yteegdbbmamabiaa

/- Plain mathematics of bytes of which some were turned. -/
namespace Go.Proofs.Yteegdbbmamabiaa

end Go.Proofs.Yteegdbbmamabiaa

/- The entry of a byte, of the code and of the document's own answer. -/
namespace Go.Proofs.Yteegdbbmamabiaa
open Go.RowKit

end Go.Proofs.Yteegdbbmamabiaa

/- The table, of the code. -/
namespace Go.Proofs.Yteegdbbmamabiaa
open Go.RowKit

/-- An array of 256 numbers. -/
def tabOf (T : Nat → Nat) : Array Value := ((List.range 256).map fun j => Value.int .u32 (T j : Int)).toArray
theorem tabOf_get (T : Nat → Nat) (i : Nat) (h : i < 256) : (tabOf T)[i]? = some (.int .u32 (T i : Int)) := by simp [tabOf, h]
theorem Blk.range {w : World} {g : Nat} {t : TypeId} {T : Nat → Nat} (h : Blk w g t (tabOf T)) : w.rangeAt g 0 (tabOf T).toList := by
  intro j v hv
  rw [Nat.zero_add, h.cell j]
  simpa using hv
theorem Blk.room {w : World} {g : Nat} {t : TypeId} {T : Nat → Nat} (h : Blk w g t (tabOf T)) : w.there g 0 256 := by
  intro j hj
  rw [Nat.zero_add, h.cell j, h.frozen j, tabOf_get _ _ hj]
  exact ⟨rfl, rfl⟩
end Go.Proofs.Yteegdbbmamabiaa

/- The sum of bytes, of the code and of the document's own answer. -/
namespace Go.Proofs.Yteegdbbmamabiaa
open Go.RowKit

end Go.Proofs.Yteegdbbmamabiaa

/- vint: ends. -/
namespace Go.Proofs.Yteegdbbmamabiaa
open Go.RowKit

end Go.Proofs.Yteegdbbmamabiaa

/- Put, of the code and of the document's own answer. -/
namespace Go.Proofs.Yteegdbbmamabiaa
open Go.RowKit

end Go.Proofs.Yteegdbbmamabiaa

/- Zig and Zag, of the code and of the document's own answer. -/
namespace Go.Proofs.Yteegdbbmamabiaa
open Go.RowKit

end Go.Proofs.Yteegdbbmamabiaa

/- Rows carried over what was done; a row of the call's own that is not empty. -/
namespace Go.Proofs.Yteegdbbmamabiaa
open Go.RowKit

theorem Rds.mod {w w' : World} {B n : Nat} {A : Option Addr} {xs : List Value} {S : Nat → Prop} (h : Rds w B A n xs) (hm : Mod S w w') (hB : B ≤ w.heap.size) (hS : ∀ j, j < B → ¬ S j) : Rds w' B A n xs :=
  h.keep fun _ hp => hm.cell (Nat.lt_of_lt_of_le hp hB) (hS _ hp)
theorem Rds.new {w w' : World} {B n : Nat} {A : Option Addr} {xs : List Value} (h : Rds w B A n xs) (hm : Mod (fun _ => False) w w') : Rds w' w.heap.size A n xs :=
  h.fit.mod hm (Nat.le_refl _) (fun _ _ h => h)
/-- A row of the call's own that is not empty: where it lies; its cells. -/
theorem Own.form' {B : Nat} {w : World} {e : TypeId} {v : Value} {xs : List Value} (h : Own B w e v xs) (hn : 0 < xs.length) : ∃ g cap, v = .slice (some ⟨g, 0, none⟩) xs.length cap ∧ B ≤ g ∧ g < w.heap.size := World.ownsRow.form h hn
theorem Own.cell' {B g cap n : Nat} {w : World} {e : TypeId} {v : Value} {xs : List Value} (h : Own B w e v xs) (hv : v = .slice (some ⟨g, 0, none⟩) n cap) (j : Nat) (hj : j < xs.length) : w.cell? ⟨g, j, none⟩ = xs[j]? := by
  subst hv
  rcases h.2 with ⟨h1, _⟩ | ⟨g', cap', cur, h1, _⟩
  · cases h1
  · injection h1 with h1 h2 h3
    subst h2
    exact World.ownsRow.cellAt h j (by omega)
theorem Own.mod {B : Nat} {w w' : World} {e : TypeId} {v : Value} {xs : List Value} (h : Own B w e v xs) (hm : Mod (fun _ => False) w w') : Own B w' e v xs := hm.owns h (fun _ _ h => h)
/-- A block of other cells stands behind an append as it was. -/
theorem Blk.app {B g : Nat} {w w' : World} {e t : TypeId} {v : Value} {xs : List Value} {cs : Array Value} (h : Blk w g t cs) (ho : Own B w e v xs) (hne : e ≠ t) (hg : w.grownBy w' v.ownBlock) : Blk w' g t cs := h.grown hg (fun e' => own_blk_ne ho h hne e'.symm)
end Go.Proofs.Yteegdbbmamabiaa

/- Rows of bytes: what their slices look like. -/
namespace Go.Proofs.Yteegdbbmamabiaa
open Go.RowKit

theorem own_form8 {B : Nat} {w : World} {v : Value} {xs : List Nat} (h : Own B w 5 v (cells8 xs)) : ∃ A c, v = .slice A xs.length c ∧ xs.length ≤ c ∧ c ≤ maxLen ∧ Rds w w.heap.size A xs.length (cells8 xs) := by
  obtain ⟨A, c, e, _, hc, hm, hr⟩ := h.form
  rw [cells8_length] at e hr hc
  exact ⟨A, c, e, hc, hm, hr⟩
end Go.Proofs.Yteegdbbmamabiaa

/- Rows of samples in memory, two cells a sample: what a slice reads as; a row of the call's own; append of one, make, and one sample written. -/
namespace Go.Proofs.Yteegdbbmamabiaa
open Go.RowKit

def cellsS (l : List (Int × Nat)) : List Value := l.flatMap fun p => [Value.int .i64 p.1, Value.int .u64 (p.2 : Int)]
theorem cellsS_cons (p : Int × Nat) (l : List (Int × Nat)) : cellsS (p :: l) = .int .i64 p.1 :: .int .u64 (p.2 : Int) :: cellsS l := rfl
theorem cellsS_len (l : List (Int × Nat)) : (cellsS l).length = l.length * 2 := by
  induction l with
  | nil => rfl
  | cons p l ih => rw [cellsS_cons, List.length_cons, List.length_cons, ih, List.length_cons]; omega
theorem cellsS_one (l : List (Int × Nat)) : ∀ u ∈ cellsS l, u.oneCell' = true := by
  induction l with
  | nil => intro u hu; cases hu
  | cons p l ih =>
    intro u hu
    rw [cellsS_cons] at hu
    rcases List.mem_cons.1 hu with rfl | hu
    · rfl
    rcases List.mem_cons.1 hu with rfl | hu
    · rfl
    exact ih u hu
theorem cellsS_get {l : List (Int × Nat)} : ∀ {i : Nat} {p : Int × Nat}, l[i]? = some p → (cellsS l)[i * 2]? = some (.int .i64 p.1) ∧ (cellsS l)[i * 2 + 1]? = some (.int .u64 (p.2 : Int)) := by
  induction l with
  | nil => intro i p h; simp at h
  | cons q l ih =>
    intro i p h
    cases i with
    | zero =>
      rw [List.getElem?_cons_zero] at h
      injection h with h
      subst h
      exact ⟨rfl, rfl⟩
    | succ i =>
      rw [List.getElem?_cons_succ] at h
      obtain ⟨h1, h2⟩ := ih h
      rw [cellsS_cons, show (i + 1) * 2 = i * 2 + 1 + 1 by omega]
      exact ⟨by rw [List.getElem?_cons_succ, List.getElem?_cons_succ]; exact h1, by rw [List.getElem?_cons_succ, List.getElem?_cons_succ]; exact h2⟩
theorem cellsS_set (l : List (Int × Nat)) : ∀ (i : Nat) (p : Int × Nat), ((cellsS l).set (i * 2) (.int .i64 p.1)).set (i * 2 + 1) (.int .u64 (p.2 : Int)) = cellsS (l.set i p) := by
  induction l with
  | nil => intro i p; simp [cellsS]
  | cons q l ih =>
    intro i p
    cases i with
    | zero => rfl
    | succ i =>
      rw [show (q :: l).set (i + 1) p = q :: l.set i p from rfl, cellsS_cons, cellsS_cons, ← ih i p, show (i + 1) * 2 = i * 2 + 2 by omega]
      rfl
theorem add_one_cell (a : Addr) (i : Nat) : (⟨(a.add (i * 2)).block, (a.add (i * 2)).off + 1, none⟩ : Addr) = a.add (i * 2 + 1) := by
  rw [← add_add]
  simp [Addr.add]
/-- The slice at A, n samples long, reads as l, below block B. -/
def RdsS (w : World) (B : Nat) (A : Option Addr) (n : Nat) (l : List (Int × Nat)) : Prop := l.length = n ∧ Rds w B A (n * 2) (cellsS l)
section
variable {w w' : World} {B B' n : Nat} {A : Option Addr} {l : List (Int × Nat)}
theorem RdsS.nil (w : World) (B : Nat) (A : Option Addr) : RdsS w B A 0 [] := ⟨rfl, Rds.nil _ _ _⟩
theorem RdsS.more (h : RdsS w B A n l) (hB : B ≤ B') : RdsS w B' A n l := ⟨h.1, h.2.more hB⟩
theorem RdsS.below (h : RdsS w B A n l) (hb : Below B w w') : RdsS w' B A n l := ⟨h.1, h.2.below hb⟩
theorem RdsS.drew (h : RdsS w B A n l) : RdsS w.drew B A n l := h
theorem RdsS.alloc (h : RdsS w B A n l) (hB : B ≤ w.heap.size) (o : Obj) : RdsS (w.alloc o) B A n l := ⟨h.1, h.2.alloc hB o⟩
theorem RdsS.fit (h : RdsS w B A n l) : RdsS w w.heap.size A n l := ⟨h.1, h.2.fit⟩
theorem RdsS.mod {S : Nat → Prop} (h : RdsS w B A n l) (hm : Mod S w w') (hB : B ≤ w.heap.size) (hS : ∀ j, j < B → ¬ S j) : RdsS w' B A n l := ⟨h.1, h.2.mod hm hB hS⟩
theorem RdsS.new (h : RdsS w B A n l) (hm : Mod (fun _ => False) w w') : RdsS w' w.heap.size A n l := ⟨h.1, h.2.new hm⟩
theorem RdsS.at_ {k : Nat} (h : RdsS w B A n l) (hk : k < n) : ∃ ad p, A = some ad ∧ ad.block < B ∧ l[k]? = some p ∧ w.cell? (ad.add (k * 2)) = some (.int .i64 p.1) ∧ w.cell? (ad.add (k * 2 + 1)) = some (.int .u64 (p.2 : Int)) := by
  obtain ⟨ad, e, hb, hc⟩ := h.2.2 (by omega)
  have hl : k < l.length := by have := h.1; omega
  obtain ⟨h1, h2⟩ := cellsS_get (List.getElem?_eq_getElem hl)
  exact ⟨ad, l[k], e, hb, List.getElem?_eq_getElem hl, hc _ _ h1, hc _ _ h2⟩
theorem RdsS.at2 {i : Nat} (h : RdsS w B A n l) (hi : i < n) (hB : B ≤ w.heap.size) {S : Nat → Prop} (hm : Mod S w w') (hS : ∀ ad, A = some ad → ¬ S ad.block) :
    ∃ ad p, A = some ad ∧ ad.block < B ∧ l[i]? = some p ∧ w'.cell? (ad.add (i * 2)) = some (.int .i64 p.1) ∧ w'.cell? (ad.add (i * 2 + 1)) = some (.int .u64 (p.2 : Int)) := by
  obtain ⟨ad, p, e, hb, hp, h1, h2⟩ := h.at_ hi
  refine ⟨ad, p, e, hb, hp, ?_, ?_⟩
  · rw [hm.cell (a := ad.add (i * 2)) (by rw [add_block]; omega) (by rw [add_block]; exact hS _ e)]
    exact h1
  · rw [hm.cell (a := ad.add (i * 2 + 1)) (by rw [add_block]; omega) (by rw [add_block]; exact hS _ e)]
    exact h2
theorem RdsS.some_ (h : RdsS w B A n l) (hn : 0 < n) : ∃ ad, A = some ad ∧ ad.block < B := by
  obtain ⟨ad, e, hb, _⟩ := h.2.2 (by omega)
  exact ⟨ad, e, hb⟩
end

/-- .. the second cell as the model's load of a whole sample has it. -/
theorem cell_whole {w : World} {ad : Addr} {i : Nat} {u : Value} (h : w.cell? (ad.add (i * 2 + 1)) = some u) : w.cell? ⟨(ad.add (i * 2)).block, (ad.add (i * 2)).off + 1, none⟩ = some u := by rw [add_one_cell]; exact h

/-- A row of samples of the call's own: all that it has lies from block B on. -/
def OwnS (B : Nat) (w : World) (v : Value) (l : List (Int × Nat)) : Prop := w.ownsRow B 43 2 v l.length (cellsS l)
section
variable {w w' : World} {B B' : Nat} {v : Value} {l : List (Int × Nat)}
theorem OwnS.nil (B : Nat) (w : World) : OwnS B w (.slice none 0 0) [] := World.ownsRow_nil _ _ _ _
theorem OwnS.below (h : OwnS B w v l) (hb : Below w.heap.size w w') : OwnS B w' v l := by
  refine ⟨h.1, ?_⟩
  rcases h.2 with hn | ⟨g, cap, cur, rfl, hB, hgg, rest⟩
  · exact .inl hn
  · refine .inr ⟨g, cap, cur, rfl, hB, ?_, rest⟩
    rw [hb.block g (Array.getElem?_eq_some_iff.1 hgg).1]
    exact hgg
theorem OwnS.drew (h : OwnS B w v l) : OwnS B w.drew v l := h
theorem OwnS.alloc (h : OwnS B w v l) (o : Obj) : OwnS B (w.alloc o) v l := World.ownsRow.alloc h o
theorem OwnS.mono (h : OwnS B w v l) (hB : B' ≤ B) : OwnS B' w v l := by
  refine ⟨h.1, ?_⟩
  rcases h.2 with hn | ⟨g, cap, cur, rfl, hb, rest⟩
  · exact .inl hn
  · exact .inr ⟨g, cap, cur, rfl, by omega, rest⟩
theorem OwnS.mod (h : OwnS B w v l) (hm : Mod (fun _ => False) w w') : OwnS B w' v l := hm.owns h (fun _ _ h => h)
theorem OwnS.block (h : OwnS B w v l) : ∀ k, v.ownBlock = some k → B ≤ k ∧ k < w.heap.size := World.ownsRow.lt h
/-- What its value looks like. -/
theorem OwnS.form (h : OwnS B w v l) : ∃ A c, v = .slice A l.length c ∧ l.length ≤ c ∧ c ≤ maxLen ∧ RdsS w w.heap.size A l.length l := by
  rcases h.2 with ⟨rfl, h0⟩ | ⟨g, cap, cur, rfl, hB, hgg, hnc, hcm, hcs, htk⟩
  · obtain rfl : l = [] := List.eq_nil_of_length_eq_zero h0
    exact ⟨none, 0, rfl, Nat.le_refl _, Nat.zero_le _, RdsS.nil _ _ _⟩
  · refine ⟨_, cap, rfl, hnc, hcm, rfl, cellsS_len l, fun _ => ⟨_, rfl, (Array.getElem?_eq_some_iff.1 hgg).1, World.ownsRow.cells h (g := g) rfl⟩⟩
theorem OwnS.formN (h : OwnS B w v l) : ∃ A L c, v = .slice A L c ∧ Hid (l.length = L) ∧ L ≤ c ∧ c ≤ maxLen ∧ RdsS w w.heap.size A L l := by
  obtain ⟨A, c, e, h1, h2, h3⟩ := h.form
  exact ⟨A, l.length, c, e, Lib.hid rfl, h1, h2, h3⟩
theorem OwnS.rds {A : Option Addr} {n c : Nat} (h : OwnS B w (.slice A n c) l) (hn : l.length = n) : RdsS w w.heap.size A n l := by
  obtain ⟨A', c', e, _, _, hr⟩ := h.form
  injection e with e1 e2 e3
  subst e1 e2
  exact hr
/-- Where it lies, if it is not empty. -/
theorem OwnS.form' (h : OwnS B w v l) (hn : 0 < l.length) : ∃ g cap, v = .slice (some ⟨g, 0, none⟩) l.length cap ∧ l.length ≤ cap ∧ cap ≤ maxLen ∧ B ≤ g ∧ g < w.heap.size := by
  rcases h.2 with ⟨rfl, h0⟩ | ⟨g, cap, cur, rfl, hB, hgg, hnc, hcm, _⟩
  · omega
  · exact ⟨g, cap, rfl, hnc, hcm, hB, (Array.getElem?_eq_some_iff.1 hgg).1⟩
/-- l[k] = p -/
theorem OwnS.set_ {g n cap k : Nat} (h : OwnS B w (.slice (some ⟨g, 0, none⟩) n cap) l) (hn : n = l.length) (hk : k < n) (p : Int × Nat) :
    (∃ u, w.cell? ⟨g, k * 2, none⟩ = some u) ∧ (∃ u, w.cell? ⟨g, k * 2 + 1, none⟩ = some u) ∧ w.frozen? ⟨g, k * 2, none⟩ = false ∧ w.frozen? ⟨g, k * 2 + 1, none⟩ = false ∧
      OwnS B ((w.setCell ⟨g, k * 2, none⟩ (.int .i64 p.1)).setCell ⟨g, k * 2 + 1, none⟩ (.int .u64 (p.2 : Int))) (.slice (some ⟨g, 0, none⟩) n cap) (l.set k p) := by
  have h' : w.ownsRow B 43 2 (.slice (some ⟨g, 0, none⟩) n cap) n (cellsS l) := by
    have := h; unfold OwnS at this; rwa [← hn] at this
  have hl := cellsS_len l
  refine ⟨⟨(cellsS l)[k * 2]'(by omega), ?_⟩, ⟨(cellsS l)[k * 2 + 1]'(by omega), ?_⟩, h'.frozenAt _, h'.frozenAt _, ?_⟩
  · rw [h'.cellAt _ (by omega), List.getElem?_eq_getElem (by omega)]
  · rw [h'.cellAt _ (by omega), List.getElem?_eq_getElem (by omega)]
  · have h2 := ((h'.stored (k * 2) (.int .i64 p.1)).1.stored (k * 2 + 1) (.int .u64 (p.2 : Int))).1
    rw [cellsS_set] at h2
    unfold OwnS
    rw [List.length_set, ← hn]
    exact h2
end
/-- The element's row of the table. -/
theorem infoS : (Try.prog.info? 43).map (fun i => (i.zero, i.size, i.bytes)) = some (some (.agg #[.int .i64 0, .int .u64 0]), 2, 16) := by kernel_rfl
section
variable {w : World}
end
end Go.Proofs.Yteegdbbmamabiaa

/- Get, of the code and of the document's own answer. -/
namespace Go.Proofs.Yteegdbbmamabiaa
open Go.RowKit

end Go.Proofs.Yteegdbbmamabiaa

/- Rows of values of 64 bits: as cells, of the call's own, one cell of such, one cell written; numbers of 64 bits that operations give. -/
namespace Go.Proofs.Yteegdbbmamabiaa
open Go.RowKit

def cellsU (xs : List Nat) : List Value := xs.map fun (x : Nat) => Value.int .u64 (x : Int)
theorem cellsU_length (xs : List Nat) : (cellsU xs).length = xs.length := by simp [cellsU]
theorem cellsU_snoc (xs : List Nat) (x : Nat) : cellsU (xs ++ [x]) = cellsU xs ++ [.int .u64 (x : Int)] := by simp [cellsU]
theorem cellsU_get (xs : List Nat) (i : Nat) : (cellsU xs)[i]? = xs[i]?.map fun (x : Nat) => Value.int .u64 (x : Int) := by simp [cellsU]
theorem Rds.at2 {w w' : World} {B n i : Nat} {A : Option Addr} {zs : List Nat} (h : Rds w B A n (cellsU zs)) (hi : i < n) (hB : B ≤ w.heap.size) {S : Nat → Prop} (hm : Mod S w w') (hS : ∀ ad, A = some ad → ¬ S ad.block) :
    ∃ ad x, A = some ad ∧ zs[i]? = some x ∧ w'.cell? (ad.add i) = some (.int .u64 (x : Int)) := by
  obtain ⟨ad, u, e, hb, hu, hc⟩ := h.at_ hi
  rw [cellsU_get] at hu
  obtain ⟨x, hx, rfl⟩ := Option.map_eq_some_iff.1 hu
  refine ⟨ad, x, e, hx, ?_⟩
  rw [hm.cell (a := ad.add i) (by rw [add_block]; omega) (by rw [add_block]; exact hS _ e)]
  exact hc
theorem drop_at' {zs : List Nat} {i : Nat} {x : Nat} (h : zs[i]? = some x) : zs.drop i = x :: zs.drop (i + 1) := by
  rw [List.getElem?_eq_some_iff] at h
  obtain ⟨hi, rfl⟩ := h
  exact List.drop_eq_getElem_cons hi
theorem own_formU {B : Nat} {w : World} {v : Value} {xs : List Nat} (h : Own B w 41 v (cellsU xs)) : ∃ A c, v = .slice A xs.length c ∧ xs.length ≤ c ∧ Rds w w.heap.size A xs.length (cellsU xs) := by
  obtain ⟨A, c, e, _, hc, _, hr⟩ := h.form
  rw [cellsU_length] at e hr hc
  exact ⟨A, c, e, hc, hr⟩
/-- x[k] = b -/
theorem own_setU {B g nb cap k b : Nat} {w : World} {bs : List Nat} (h : Own B w 41 (.slice (some ⟨g, 0, none⟩) nb cap) (cellsU bs)) (hn : nb = bs.length) (hk : k < nb) :
    (∃ u, w.cell? ⟨g, k, none⟩ = some u) ∧ w.frozen? ⟨g, k, none⟩ = false ∧ Own B (w.setCell ⟨g, k, none⟩ (.int .u64 (b : Int))) 41 (.slice (some ⟨g, 0, none⟩) nb cap) (cellsU (bs.set k b)) := by
  have h' : w.ownsRow B 41 1 (.slice (some ⟨g, 0, none⟩) nb cap) nb (cellsU bs) := by
    have := h; unfold Own at this; rwa [cellsU_length, ← hn] at this
  refine ⟨⟨.int .u64 (bs[k]'(by omega)), ?_⟩, h'.frozenAt k, ?_⟩
  · rw [h'.cellAt k (by omega), cellsU_get, List.getElem?_eq_getElem (by omega)]
    rfl
  · have h2 := (h'.stored k (.int .u64 (b : Int))).1
    have e : (cellsU bs).set k (.int .u64 (b : Int)) = cellsU (bs.set k b) := by simp [cellsU, List.map_set]
    rw [e] at h2
    unfold Own
    rw [cellsU_length, List.length_set, ← hn]
    exact h2
/-- A row of which i cells bear b, the rest 0. -/
def part (i m b : Nat) : List Nat := List.replicate i b ++ List.replicate (m - i) 0
theorem Own.rds {B : Nat} {w : World} {A : Option Addr} {n c : Nat} {xs : List Nat} (h : Own B w 41 (.slice A n c) (cellsU xs)) (hn : xs.length = n) : Rds w w.heap.size A n (cellsU xs) := by
  obtain ⟨A', c', e, _, hr⟩ := own_formU h
  injection e with e1 e2 e3
  subst e1 e2
  exact hr

end Go.Proofs.Yteegdbbmamabiaa

/- Four numbers in a literal. -/
namespace Go.Proofs.Yteegdbbmamabiaa
open Go.RowKit

/-- Four numbers in a literal. -/
def Nums4 (w : World) (lit : Nat) : Prop := lit < w.heap.size ∧ ∀ j, j < 4 → ∃ m : Int, FitI m ∧ w.cell? ⟨lit, j, none⟩ = some (.int .i64 m)
theorem Nums4.mod {w w' : World} {lit : Nat} (h : Nums4 w lit) (hm : Mod (fun _ => False) w w') : Nums4 w' lit := by
  refine ⟨Nat.lt_of_lt_of_le h.1 hm.size, fun j hj => ?_⟩
  obtain ⟨m, h1, h2⟩ := h.2 j hj
  exact ⟨m, h1, (hm.cell (a := ⟨lit, j, none⟩) h.1 (fun h => h)).trans h2⟩
end Go.Proofs.Yteegdbbmamabiaa

/- The run that a row begins with: first. -/
namespace Go.Proofs.Yteegdbbmamabiaa
open Go.RowKit

end Go.Proofs.Yteegdbbmamabiaa

/- min and max as rules for whatever world; a bool that is answered; numbers shifted away. -/
namespace Go.Proofs.Yteegdbbmamabiaa
open Go.RowKit

end Go.Proofs.Yteegdbbmamabiaa

/- A run is read: get; it is held against what was read: fits. -/
namespace Go.Proofs.Yteegdbbmamabiaa
open Go.RowKit

end Go.Proofs.Yteegdbbmamabiaa

/- Rows of words held beside each other; the statements' own rows of values. -/
namespace Go.Proofs.Yteegdbbmamabiaa
open Go.RowKit

end Go.Proofs.Yteegdbbmamabiaa

/- The kinds of words where their variable lies; may: whether the next numbers may stand in a word of a kind. -/
namespace Go.Proofs.Yteegdbbmamabiaa
open Go.RowKit

/-- What the loop has seen. -/
def Seen (us : List Nat) (s j : Nat) : Prop := ∀ x ∈ us.take j, x < 2 ^ s
theorem Seen.more {us : List Nat} {s j x : Nat} (h : Seen us s j) (hx : us[j]? = some x) (hb : x < 2 ^ s) : Seen us s (j + 1) := by
  intro y hy
  rw [List.getElem?_eq_some_iff] at hx
  obtain ⟨hj, rfl⟩ := hx
  rw [List.take_succ_eq_append_getElem hj, List.mem_append, List.mem_singleton] at hy
  rcases hy with hy | rfl
  · exact h y hy
  · exact hb
end Go.Proofs.Yteegdbbmamabiaa

/- The first kind that may be: first. -/
namespace Go.Proofs.Yteegdbbmamabiaa
open Go.RowKit

end Go.Proofs.Yteegdbbmamabiaa

/- A word is laid of numbers: pack. -/
namespace Go.Proofs.Yteegdbbmamabiaa
open Go.RowKit

end Go.Proofs.Yteegdbbmamabiaa

/- What a function answers that tells a row of values of 64 bits, or nil and false. -/
namespace Go.Proofs.Yteegdbbmamabiaa
open Go.RowKit

/-- A row and true, or nil and false. -/
def EncE (w w' : World) (o : Option (List Nat)) (e : Ending) : Prop :=
  match o with
  | some ws => ∃ v, e = .returned (.tuple #[v, .bool true]) ∧ Own w.heap.size w' 41 v (cellsU ws) ∧ Mod (fun _ => False) w w'
  | none => e = .returned (.tuple #[.slice none 0 0, .bool false]) ∧ Mod (fun _ => False) w w'
theorem EncE.some_ {w w' : World} {o : Option (List Nat)} {ws : List Nat} {e : Ending} (h : EncE w w' o e) (ho : o = some ws) : ∃ v, e = .returned (.tuple #[v, .bool true]) ∧ Own w.heap.size w' 41 v (cellsU ws) ∧ Mod (fun _ => False) w w' := by
  rw [ho] at h
  exact h
theorem EncE.none_ {w w' : World} {o : Option (List Nat)} {e : Ending} (h : EncE w w' o e) (ho : o = none) : e = .returned (.tuple #[.slice none 0 0, .bool false]) ∧ Mod (fun _ => False) w w' := by
  rw [ho] at h
  exact h
/-- An answer as a row: none is nil. -/
theorem EncE.any {w w' : World} {o : Option (List Nat)} {e : Ending} (h : EncE w w' o e) : ∃ (A : Option Addr) (c : Nat), e = .returned (.tuple #[.slice A (o.getD []).length c, .bool o.isSome]) ∧ (o.getD []).length ≤ c ∧ Rds w' w'.heap.size A (o.getD []).length (cellsU (o.getD [])) ∧ Mod (fun _ => False) w w' := by
  cases o with
  | none =>
    obtain ⟨rfl, hm⟩ := h.none_ rfl
    exact ⟨none, 0, rfl, Nat.le_refl _, Rds.nil _ _ _, hm⟩
  | some ws =>
    obtain ⟨v, rfl, ho, hm⟩ := h.some_ rfl
    obtain ⟨A, c, rfl, hc, hr⟩ := own_formU ho
    exact ⟨A, c, rfl, hc, hr, hm⟩
end Go.Proofs.Yteegdbbmamabiaa

/- Rows of small numbers are told: Encode. -/
namespace Go.Proofs.Yteegdbbmamabiaa
open Go.RowKit

end Go.Proofs.Yteegdbbmamabiaa

/- What a dictionary's map says of a list of values; a list of numbers read step by step; what the code and the document ask of bytes, in these words. -/
namespace Go.Proofs.Yteegdbbmamabiaa
open Go.RowKit Go.Maps

/-- Block b is a map of at most n entries that says what D says. -/
def OMap (w : World) (b n : Nat) (D : DataW Unit) : Prop := w.ownsMap Try.prog 41 (plainElem Try.prog 41) b n D
theorem OMap.out {w : World} {b n : Nat} {D : DataW Unit} (h : OMap w b n D) : w.ownsMap Try.prog 41 (plainElem Try.prog 41) b n D := h
theorem OMap.lt {w : World} {b n : Nat} {D : DataW Unit} (h : OMap w b n D) : b < w.heap.size := World.ownsMap.lt h
theorem OMap.mod {S : Nat → Prop} {w w' : World} {b n : Nat} {D : DataW Unit} (h : OMap w b n D) (hm : Mod S w w') (hb : ¬ S b) : OMap w' b n D := by
  have hlt := h.lt
  obtain ⟨es, clock, h1, h2⟩ := h
  exact ⟨es, clock, (hm.block b hlt hb).trans h1, h2⟩
theorem OMap.mono {w : World} {b n n' : Nat} {D : DataW Unit} (h : OMap w b n D) (hn : n ≤ n') : OMap w b n' D := World.ownsMap.mono h hn
theorem OMap.made (w : World) : OMap (w.alloc (.map #[] 0)) w.heap.size 0 (.map []) := World.ownsMap_made _ _ _ _
/-- The map says of each value on the list where it stands, and of no other. -/
def Plcs (D : DataW Unit) (l : List Nat) : Prop := IsMap D ∧ (∀ x : Nat, Maps.has D (.int .u64 (x : Int)) = decide (x ∈ l)) ∧ ∀ x : Nat, x ∈ l → D.atKey (.int .u64 (x : Int)) (.lit (.int .u64 0)) = .lit (.int .u64 (plc x l : Int))
theorem Plcs.nil : Plcs (.map []) [] := ⟨isMap_empty, (fun _ => rfl), fun _ h => by cases h⟩
theorem Plcs.put {D : DataW Unit} {l : List Nat} {x : Nat} (h : Plcs D l) (hx : x ∉ l) : Plcs (D.put (.int .u64 (x : Int)) (.lit (.int .u64 (l.length : Int)))) (l ++ [x]) := by
  obtain ⟨h1, h2, h3⟩ := h
  have hk : WideAt.IsKeyLit (.int .u64 (x : Int)) := trivial
  have hne : ∀ y : Nat, y ≠ x → Lit.int .u64 (y : Int) ≠ Lit.int .u64 (x : Int) := fun y hy e => by
    injection e with _ e
    exact hy (by omega)
  refine ⟨h1.put _ _, fun y => ?_, fun y hy => ?_⟩
  · by_cases e : y = x
    · subst e
      rw [has_put_same h1 hk, decide_eq_true (by simp)]
    · rw [has_put_other (hne y e), h2 y]
      simp [e]
  · by_cases e : y = x
    · subst e
      rw [atKey_put_same h1 hk]
      have e2 : plc y (l ++ [y]) = l.length := by
        refine plc_is (by simp) fun i hi => ?_
        rw [List.getElem?_append_left hi]
        intro e3
        exact hx (List.mem_of_getElem? e3)
      rw [e2]
    · have hy' : y ∈ l := by
        rcases List.mem_append.1 hy with hy | hy
        · exact hy
        · exact absurd (List.mem_singleton.1 hy) e
      rw [atKey_put_other (hne y e), h3 y hy', plc_app hy']
/-- What a look-up tells. -/
theorem Plcs.look {D : DataW Unit} {l : List Nat} {x : Nat} {c : Int} (h : Plcs D l) (hx : x ∈ l) (hc : D.atKey (.int .u64 (x : Int)) (.lit (.int .u64 0)) = .lit (.int .u64 c)) : c = (plc x l : Int) := by
  rw [h.2.2 x hx] at hc
  injection hc with hc
  injection hc with _ hc
  exact hc.symm
/-- A row of bytes and true, or nil and false. -/
def EncB (w w' : World) (o : Option (List Nat)) (e : Ending) : Prop :=
  match o with
  | some bs => ∃ v, e = .returned (.tuple #[v, .bool true]) ∧ Own w.heap.size w' 5 v (cells8 bs) ∧ Mod (fun _ => False) w w'
  | none => e = .returned (.tuple #[.slice none 0 0, .bool false]) ∧ Mod (fun _ => False) w w'
theorem EncB.some_ {w w' : World} {o : Option (List Nat)} {bs : List Nat} {e : Ending} (h : EncB w w' o e) (ho : o = some bs) : ∃ v, e = .returned (.tuple #[v, .bool true]) ∧ Own w.heap.size w' 5 v (cells8 bs) ∧ Mod (fun _ => False) w w' := by
  rw [ho] at h
  exact h
theorem EncB.none_ {w w' : World} {o : Option (List Nat)} {e : Ending} (h : EncB w w' o e) (ho : o = none) : e = .returned (.tuple #[.slice none 0 0, .bool false]) ∧ Mod (fun _ => False) w w' := by
  rw [ho] at h
  exact h
/-- An answer as a row: none is nil. -/
theorem EncB.any {w w' : World} {o : Option (List Nat)} {e : Ending} (h : EncB w w' o e) : ∃ (A : Option Addr) (c : Nat), e = .returned (.tuple #[.slice A (o.getD []).length c, .bool o.isSome]) ∧ (o.getD []).length ≤ c ∧ c ≤ maxLen ∧ Rds w' w'.heap.size A (o.getD []).length (cells8 (o.getD [])) ∧ Mod (fun _ => False) w w' := by
  cases o with
  | none =>
    obtain ⟨rfl, hm⟩ := h.none_ rfl
    exact ⟨none, 0, rfl, Nat.le_refl _, Nat.zero_le _, Rds.nil _ _ _, hm⟩
  | some ws =>
    obtain ⟨v, rfl, ho, hm⟩ := h.some_ rfl
    obtain ⟨A, c, rfl, hc, hcm, hr⟩ := own_form8 ho
    exact ⟨A, c, rfl, hc, hcm, hr, hm⟩
end Go.Proofs.Yteegdbbmamabiaa

/- How many bits a number has, as math/bits tells it. -/
namespace Go.Proofs.Yteegdbbmamabiaa
open Go.RowKit

end Go.Proofs.Yteegdbbmamabiaa

/- How many bits a number has: math/bits.Len64 and the document's width tell wid. -/
namespace Go.Proofs.Yteegdbbmamabiaa
open Go.RowKit

end Go.Proofs.Yteegdbbmamabiaa

/- A dictionary's list: how many bits a place has; the values that are unlike, and where each stands. -/
namespace Go.Proofs.Yteegdbbmamabiaa
open Go.RowKit Go.Maps

end Go.Proofs.Yteegdbbmamabiaa

/- A row of values is told by its runs: Encode. -/
namespace Go.Proofs.Yteegdbbmamabiaa
open Go.RowKit

end Go.Proofs.Yteegdbbmamabiaa

/- The least and the greatest of a row of values of 64 bits: slices.Min, slices.Max; min and max as rules for whatever world. -/
namespace Go.Proofs.Yteegdbbmamabiaa
open Go.RowKit

end Go.Proofs.Yteegdbbmamabiaa

/- The numbers of a word: unpack. -/
namespace Go.Proofs.Yteegdbbmamabiaa
open Go.RowKit

end Go.Proofs.Yteegdbbmamabiaa

/- Two rows of words compared, whatever they are: SameWords, slices.Equal. -/
namespace Go.Proofs.Yteegdbbmamabiaa
open Go.RowKit

/-- The first i are alike. -/
def AlikeTo (xs ys : List Nat) (i : Nat) : Prop := ∀ j, j < i → xs[j]? = ys[j]?
theorem AlikeTo.more {xs ys : List Nat} {i x : Nat} (h : AlikeTo xs ys i) (hx : xs[i]? = some x) (hy : ys[i]? = some x) : AlikeTo xs ys (i + 1) := by
  intro j hj
  rcases Nat.lt_or_ge j i with h1 | h1
  · exact h j h1
  · obtain rfl : j = i := by omega
    rw [hx, hy]
theorem AlikeTo.all {xs ys : List Nat} {n : Nat} (h : AlikeTo xs ys n) (hx : xs.length = n) (hy : ys.length = n) : xs = ys := by
  apply List.ext_getElem?
  intro j
  rcases Nat.lt_or_ge j n with h1 | h1
  · exact h j h1
  · rw [List.getElem?_eq_none (by omega), List.getElem?_eq_none (by omega)]
end Go.Proofs.Yteegdbbmamabiaa

/- Words are read: Decode. -/
namespace Go.Proofs.Yteegdbbmamabiaa
open Go.RowKit

end Go.Proofs.Yteegdbbmamabiaa

/- The list that bytes begin with: getList. -/
namespace Go.Proofs.Yteegdbbmamabiaa
open Go.RowKit Go.Maps

end Go.Proofs.Yteegdbbmamabiaa

/- slices.Repeat of a row of one value; bits.Mul where nothing goes over. -/
namespace Go.Proofs.Yteegdbbmamabiaa
open Go.RowKit

end Go.Proofs.Yteegdbbmamabiaa

/- Bytes are read as runs: Decode. -/
namespace Go.Proofs.Yteegdbbmamabiaa
open Go.RowKit

end Go.Proofs.Yteegdbbmamabiaa

/- Rows of elements of K cells each, of whatever type: what a slice reads as; a row of the call's own; append; one cell of one element read and written. -/
namespace Go.Proofs.Yteegdbbmamabiaa
open Go.RowKit

/-- Each element has K cells. -/
def AllK (K : Nat) (rows : List (List Value)) : Prop := ∀ r ∈ rows, r.length = K
theorem AllK.nil (K : Nat) : AllK K [] := fun _ h => by cases h
theorem AllK.cons {K : Nat} {r : List Value} {rows : List (List Value)} (h : r.length = K) (hr : AllK K rows) : AllK K (r :: rows) := fun x hx => by
  rcases List.mem_cons.1 hx with rfl | hx
  · exact h
  · exact hr x hx
theorem AllK.app {K : Nat} {a b : List (List Value)} (ha : AllK K a) (hb : AllK K b) : AllK K (a ++ b) := fun x hx => by
  rcases List.mem_append.1 hx with hx | hx
  · exact ha x hx
  · exact hb x hx
theorem AllK.take {K : Nat} {a : List (List Value)} (ha : AllK K a) (i : Nat) : AllK K (a.take i) := fun x hx => ha x (List.mem_of_mem_take hx)
theorem AllK.drop {K : Nat} {a : List (List Value)} (ha : AllK K a) (i : Nat) : AllK K (a.drop i) := fun x hx => ha x (List.mem_of_mem_drop hx)
theorem AllK.set_ {K : Nat} {a : List (List Value)} (ha : AllK K a) (i : Nat) {r : List Value} (hr : r.length = K) : AllK K (a.set i r) := fun x hx => by
  rcases List.mem_or_eq_of_mem_set hx with h | h
  · exact ha x h
  · rw [h]; exact hr
theorem flat_len {K : Nat} : ∀ {rows : List (List Value)}, AllK K rows → rows.flatten.length = rows.length * K := by
  intro rows
  induction rows with
  | nil => intro _; simp
  | cons r rows ih =>
    intro h
    rw [List.flatten_cons, List.length_append, ih (fun x hx => h x (List.mem_cons_of_mem _ hx)), h r (List.mem_cons_self ..), List.length_cons, Nat.add_mul]
    omega
theorem flat_get {K : Nat} : ∀ {rows : List (List Value)} {i j : Nat} {r : List Value}, AllK K rows → rows[i]? = some r → j < K → rows.flatten[i * K + j]? = r[j]? := by
  intro rows
  induction rows with
  | nil => intro i j r _ h; simp at h
  | cons q rows ih =>
    intro i j r ha h hj
    have hq := ha q (List.mem_cons_self ..)
    cases i with
    | zero =>
      rw [List.getElem?_cons_zero] at h
      injection h with h
      subst h
      rw [List.flatten_cons, Nat.zero_mul, Nat.zero_add, List.getElem?_append_left (by omega)]
    | succ i =>
      rw [List.getElem?_cons_succ] at h
      rw [List.flatten_cons, List.getElem?_append_right (by rw [hq, Nat.add_mul]; omega), hq, show (i + 1) * K + j - K = i * K + j by rw [Nat.add_mul]; omega]
      exact ih (fun x hx => ha x (List.mem_cons_of_mem _ hx)) h hj
theorem flat_set {K : Nat} : ∀ {rows : List (List Value)} {i j : Nat} {r : List Value} (u : Value), AllK K rows → rows[i]? = some r → j < K → rows.flatten.set (i * K + j) u = (rows.set i (r.set j u)).flatten := by
  intro rows
  induction rows with
  | nil => intro i j r u _ h; simp at h
  | cons q rows ih =>
    intro i j r u ha h hj
    have hq := ha q (List.mem_cons_self ..)
    cases i with
    | zero =>
      rw [List.getElem?_cons_zero] at h
      injection h with h
      subst h
      rw [List.flatten_cons, Nat.zero_mul, Nat.zero_add, List.set_append_left _ _ (by omega), List.set_cons_zero, List.flatten_cons]
    | succ i =>
      rw [List.getElem?_cons_succ] at h
      rw [List.flatten_cons, List.set_append_right _ _ (by rw [hq, Nat.add_mul]; omega), hq, show (i + 1) * K + j - K = i * K + j by rw [Nat.add_mul]; omega, ih u (fun x hx => ha x (List.mem_cons_of_mem _ hx)) h hj, List.set_cons_succ, List.flatten_cons]
theorem flat_take {K : Nat} : ∀ {rows : List (List Value)} (i : Nat), AllK K rows → rows.flatten.take (i * K) = (rows.take i).flatten := by
  intro rows
  induction rows with
  | nil => intro i _; simp
  | cons q rows ih =>
    intro i ha
    have hq := ha q (List.mem_cons_self ..)
    cases i with
    | zero => simp
    | succ i => rw [List.flatten_cons, List.take_succ_cons, List.flatten_cons, ← ih i (fun x hx => ha x (List.mem_cons_of_mem _ hx)), List.take_append, List.take_of_length_le (by rw [hq, Nat.add_mul]; omega), hq, show (i + 1) * K - K = i * K by rw [Nat.add_mul]; omega]
theorem flat_drop {K : Nat} : ∀ {rows : List (List Value)} (i : Nat), AllK K rows → rows.flatten.drop (i * K) = (rows.drop i).flatten := by
  intro rows
  induction rows with
  | nil => intro i _; simp
  | cons q rows ih =>
    intro i ha
    have hq := ha q (List.mem_cons_self ..)
    cases i with
    | zero => simp
    | succ i => rw [List.flatten_cons, List.drop_succ_cons, ← ih i (fun x hx => ha x (List.mem_cons_of_mem _ hx)), List.drop_append, List.drop_eq_nil_of_le (by rw [hq, Nat.add_mul]; omega), hq, show (i + 1) * K - K = i * K by rw [Nat.add_mul]; omega, List.nil_append]
/-- The slice at A, n elements of K cells long, reads as these, below block B. -/
def RdsK (K : Nat) (w : World) (B : Nat) (A : Option Addr) (n : Nat) (rows : List (List Value)) : Prop := rows.length = n ∧ AllK K rows ∧ Rds w B A (n * K) rows.flatten
section
variable {K : Nat} {w w' : World} {B B' n : Nat} {A : Option Addr} {rows : List (List Value)}
theorem RdsK.nil (K : Nat) (w : World) (B : Nat) (A : Option Addr) : RdsK K w B A 0 [] := ⟨rfl, AllK.nil K, by rw [Nat.zero_mul]; exact Rds.nil _ _ _⟩
theorem RdsK.more (h : RdsK K w B A n rows) (hB : B ≤ B') : RdsK K w B' A n rows := ⟨h.1, h.2.1, h.2.2.more hB⟩
theorem RdsK.drew (h : RdsK K w B A n rows) : RdsK K w.drew B A n rows := h
theorem RdsK.alloc (h : RdsK K w B A n rows) (hB : B ≤ w.heap.size) (o : Obj) : RdsK K (w.alloc o) B A n rows := ⟨h.1, h.2.1, h.2.2.alloc hB o⟩
theorem RdsK.fit (h : RdsK K w B A n rows) : RdsK K w w.heap.size A n rows := ⟨h.1, h.2.1, h.2.2.fit⟩
theorem RdsK.mod {S : Nat → Prop} (h : RdsK K w B A n rows) (hm : Mod S w w') (hB : B ≤ w.heap.size) (hS : ∀ j, j < B → ¬ S j) : RdsK K w' B A n rows := ⟨h.1, h.2.1, h.2.2.mod hm hB hS⟩
theorem RdsK.new (h : RdsK K w B A n rows) (hm : Mod (fun _ => False) w w') : RdsK K w' w.heap.size A n rows := ⟨h.1, h.2.1, h.2.2.new hm⟩
theorem RdsK.below (h : RdsK K w B A n rows) (hb : Below B w w') : RdsK K w' B A n rows := ⟨h.1, h.2.1, h.2.2.below hb⟩
/-- One element: where it lies, and its cells. -/
theorem RdsK.at_ (h : RdsK K w B A n rows) {i : Nat} (hi : i < n) (hK : 0 < K) : ∃ ad r, A = some ad ∧ ad.block < B ∧ rows[i]? = some r ∧ r.length = K ∧ ∀ j u, r[j]? = some u → w.cell? (ad.add (i * K + j)) = some u := by
  have hl := h.1
  have hir : i < rows.length := by omega
  obtain ⟨ad, e, hb, hc⟩ := h.2.2.2 (Nat.mul_pos (by omega) hK)
  refine ⟨ad, rows[i], e, hb, List.getElem?_eq_getElem hir, h.2.1 _ (List.getElem_mem hir), fun j u hu => hc _ _ ?_⟩
  have hj : j < K := by
    have h1 := (List.getElem?_eq_some_iff.1 hu).1
    have h2 := h.2.1 _ (List.getElem_mem hir)
    omega
  rw [flat_get h.2.1 (List.getElem?_eq_getElem hir) hj]
  exact hu
/-- s[:k] -/
theorem RdsK.take (h : RdsK K w B A n rows) {k : Nat} (hk : k ≤ n) : RdsK K w B A k (rows.take k) := by
  refine ⟨by rw [List.length_take, h.1]; omega, h.2.1.take k, ?_⟩
  rw [← flat_take k h.2.1]
  exact h.2.2.take (Nat.mul_le_mul_right K hk)
/-- s[k:] -/
theorem RdsK.drop (h : RdsK K w B A n rows) {k cap : Nat} (hk : k ≤ n) (hc : n ≤ cap) (hK : 0 < K) : RdsK K w B (if cap = k then A else A.map (·.add (k * K))) (n - k) (rows.drop k) := by
  refine ⟨by rw [List.length_drop, h.1], h.2.1.drop k, ?_⟩
  have h2 := h.2.2.drop (k := k * K) (cap := cap * K) (Nat.mul_le_mul_right K hk) (Nat.mul_le_mul_right K hc)
  rw [flat_drop k h.2.1, ← Nat.sub_mul] at h2
  by_cases e : cap = k
  · rw [if_pos (by rw [e])] at h2
    rw [if_pos e]
    exact h2
  · rw [if_neg (fun e2 => e (Nat.eq_of_mul_eq_mul_right hK e2))] at h2
    rw [if_neg e]
    exact h2
end
/-- A row of the call's own of such elements: all that it has lies from block B on. -/
def OwnK (K B : Nat) (w : World) (e : TypeId) (v : Value) (rows : List (List Value)) : Prop := AllK K rows ∧ w.ownsRow B e K v rows.length rows.flatten
section
variable {K : Nat} {w w' : World} {B B' : Nat} {e : TypeId} {v : Value} {rows : List (List Value)}
theorem OwnK.nil (K B : Nat) (w : World) (e : TypeId) : OwnK K B w e (.slice none 0 0) [] := ⟨AllK.nil K, World.ownsRow_nil _ _ _ _⟩
theorem OwnK.drew (h : OwnK K B w e v rows) : OwnK K B w.drew e v rows := h
theorem OwnK.alloc (h : OwnK K B w e v rows) (o : Obj) : OwnK K B (w.alloc o) e v rows := ⟨h.1, World.ownsRow.alloc h.2 o⟩
theorem OwnK.mono (h : OwnK K B w e v rows) (hB : B' ≤ B) : OwnK K B' w e v rows := by
  refine ⟨h.1, h.2.1, ?_⟩
  rcases h.2.2 with hn | ⟨g, cap, cur, rfl, hb, rest⟩
  · exact .inl hn
  · exact .inr ⟨g, cap, cur, rfl, by omega, rest⟩
theorem OwnK.below (h : OwnK K B w e v rows) (hb : Below w.heap.size w w') : OwnK K B w' e v rows := by
  refine ⟨h.1, h.2.1, ?_⟩
  rcases h.2.2 with hn | ⟨g, cap, cur, rfl, hB, hgg, rest⟩
  · exact .inl hn
  · refine .inr ⟨g, cap, cur, rfl, hB, ?_, rest⟩
    rw [hb.block g (Array.getElem?_eq_some_iff.1 hgg).1]
    exact hgg
theorem OwnK.mod (h : OwnK K B w e v rows) (hm : Mod (fun _ => False) w w') : OwnK K B w' e v rows := ⟨h.1, hm.owns h.2 (fun _ _ h => h)⟩
theorem OwnK.modS {S : Nat → Prop} (h : OwnK K B w e v rows) (hm : Mod S w w') (hS : ∀ k, v.ownBlock = some k → ¬ S k) : OwnK K B w' e v rows := ⟨h.1, hm.owns h.2 hS⟩
theorem OwnK.block (h : OwnK K B w e v rows) : ∀ k, v.ownBlock = some k → B ≤ k ∧ k < w.heap.size := World.ownsRow.lt h.2
/-- What its value looks like. -/
theorem OwnK.form (h : OwnK K B w e v rows) : ∃ A c, v = .slice A rows.length c ∧ (A = none → c = 0) ∧ rows.length ≤ c ∧ c ≤ maxLen ∧ RdsK K w w.heap.size A rows.length rows := by
  obtain ⟨hK, ho⟩ := h
  have hl := flat_len hK
  rcases ho.2 with ⟨rfl, h0⟩ | ⟨g, cap, cur, rfl, hB, hgg, hnc, hcm, hcs, htk⟩
  · obtain rfl : rows = [] := List.eq_nil_of_length_eq_zero h0
    exact ⟨none, 0, rfl, fun _ => rfl, Nat.le_refl _, Nat.zero_le _, RdsK.nil _ _ _ _⟩
  · exact ⟨_, cap, rfl, (fun h => by cases h), hnc, hcm, rfl, hK, hl, fun _ => ⟨_, rfl, (Array.getElem?_eq_some_iff.1 hgg).1, World.ownsRow.cells ho (g := g) rfl⟩⟩
theorem OwnK.formN (h : OwnK K B w e v rows) : ∃ A L c, v = .slice A L c ∧ Hid (rows.length = L) ∧ L ≤ c ∧ c ≤ maxLen ∧ RdsK K w w.heap.size A L rows := by
  obtain ⟨A, c, e, _, h1, h2, h3⟩ := h.form
  exact ⟨A, rows.length, c, e, Lib.hid rfl, h1, h2, h3⟩
theorem OwnK.rds {A : Option Addr} {n c : Nat} (h : OwnK K B w e (.slice A n c) rows) (hn : rows.length = n) : RdsK K w w.heap.size A n rows := by
  obtain ⟨A', c', e, _, _, _, hr⟩ := h.form
  injection e with e1 e2 e3
  subst e1 e2
  exact hr
/-- Where it lies, if it is not empty. -/
theorem OwnK.form' (h : OwnK K B w e v rows) (hn : 0 < rows.length) : ∃ g cap, v = .slice (some ⟨g, 0, none⟩) rows.length cap ∧ rows.length ≤ cap ∧ cap ≤ maxLen ∧ B ≤ g ∧ g < w.heap.size := by
  rcases h.2.2 with ⟨rfl, h0⟩ | ⟨g, cap, cur, rfl, hB, hgg, hnc, hcm, _⟩
  · omega
  · exact ⟨g, cap, rfl, hnc, hcm, hB, (Array.getElem?_eq_some_iff.1 hgg).1⟩
/-- One cell of one element written: s[i].f = u. -/
theorem OwnK.set_ {g n cap i j : Nat} {r : List Value} (h : OwnK K B w e (.slice (some ⟨g, 0, none⟩) n cap) rows) (hn : rows.length = n) (hr : rows[i]? = some r) (hj : j < K) (u : Value) :
    (∃ x, r[j]? = some x ∧ w.cell? ⟨g, i * K + j, none⟩ = some x) ∧ w.frozen? ⟨g, i * K + j, none⟩ = false ∧ OwnK K B (w.setCell ⟨g, i * K + j, none⟩ u) e (.slice (some ⟨g, 0, none⟩) n cap) (rows.set i (r.set j u)) := by
  obtain ⟨hK, ho⟩ := h
  have hir := (List.getElem?_eq_some_iff.1 hr).1
  have hrl : r.length = K := hK r (List.mem_of_getElem? hr)
  have hl := flat_len hK
  have hlt : i * K + j < rows.length * K := by
    have := Nat.mul_le_mul_right K hir
    rw [Nat.succ_mul] at this
    omega
  rw [hn] at ho
  refine ⟨⟨r[j]'(by omega), List.getElem?_eq_getElem (by omega), ?_⟩, ho.frozenAt _, hK.set_ i (by rw [List.length_set]; exact hrl), ?_⟩
  · rw [ho.cellAt _ (by rw [← hn]; exact hlt), flat_get hK hr hj, List.getElem?_eq_getElem (by omega)]
  · have h2 := (ho.stored (i * K + j) u).1
    rw [flat_set u hK hr hj] at h2
    rw [List.length_set, hn]
    exact h2
end
/-- A slice type's element of K cells: its row of the table. -/
def EltK (P : Program) (t e : TypeId) (z : Value) (K bytes : Nat) : Prop := P.underlying t = some (.slice e) ∧ (∃ i, P.info? e = some i ∧ i.zero = some z ∧ i.size = K ∧ i.bytes = bytes) ∧ z.cells.size = K ∧ 0 < K
theorem EltK.mk {P : Program} {t e : TypeId} {z : Value} {K bytes : Nat} (h1 : P.underlying t = some (.slice e)) (h2 : (P.info? e).map (fun i => (i.zero, i.size, i.bytes)) = some (some z, K, bytes)) (h3 : z.cells.size = K) (h4 : 0 < K) : EltK P t e z K bytes :=
  ⟨h1, info_parts h2, h3, h4⟩
section
variable {P : Program} {w : World}
theorem run_append_nilK (t ty e : TypeId) (i : TypeInfo) (ht : P.underlying t = some (.slice e)) (hi : P.info? e = some i) {K B : Nat} {v : Value} {rows : List (List Value)} (hown : OwnK K B w e v rows) (c : Nat) :
    (Builtin.append_ #[t, t] ty #[v, .slice none 0 c]).run P w = .ok v w := by
  rcases hown.2.2 with ⟨rfl, h0⟩ | ⟨g, cap, cur, rfl, _, _, hnc, _⟩
  · simp [Builtin.append_, run_underlying ht, sizeOf, typeInfo, hi, Builtin.lenOf, Builtin.firstCells]
  · simp [Builtin.append_, run_underlying ht, sizeOf, typeInfo, hi, Builtin.lenOf, Builtin.firstCells, hnc, storeCells]
theorem run_appK {t ty e : TypeId} {z : Value} {K bytes B B2 m c : Nat} {v : Value} {rows news : List (List Value)} {A : Option Addr} (hE : EltK P t e z K bytes) (hown : OwnK K B w e v rows) (hr : RdsK K w B2 A m news) (h1 : ∀ u ∈ news.flatten, u.oneCell' = true)
    (hm : rows.length + m ≤ maxLen) (hb : (rows.length + m) * bytes ≤ 140737488355328) (hB : B ≤ w.heap.size) :
    ∃ v' w', (Builtin.append_ #[t, t] ty #[v, .slice A m c]).run P w = .ok v' w' ∧ OwnK K B w' e v' (rows ++ news) ∧ w.grownBy w' v.ownBlock ∧ (v'.ownBlock = v.ownBlock ∨ v'.ownBlock = some w.heap.size) := by
  obtain ⟨ht, ⟨i, hi, hz, hsize, hby⟩, hzs, hK⟩ := hE
  have hrl := hr.1
  have hfl := flat_len hr.2.1
  rcases A with _ | ad
  · have hm0 : m = 0 := by
      rcases Nat.eq_zero_or_pos m with h0 | h0
      · exact h0
      · obtain ⟨ad, h, _⟩ := hr.2.2.2 (Nat.mul_pos h0 hK)
        cases h
    subst hm0
    obtain rfl : news = [] := List.eq_nil_of_length_eq_zero hrl
    exact ⟨v, w, run_append_nilK t ty e i ht hi hown c, by simpa using hown, World.grownBy.refl w _, .inl rfl⟩
  · have hcells : ∀ j u, news.flatten[j]? = some u → w.cell? (ad.add j) = some u := by
      intro j u hu
      rcases Nat.eq_zero_or_pos m with h0 | h0
      · subst h0
        obtain rfl : news = [] := List.eq_nil_of_length_eq_zero hrl
        simp at hu
      · obtain ⟨ad', h, _, hc⟩ := hr.2.2.2 (Nat.mul_pos h0 hK)
        injection h with h
        subst h
        exact hc j u hu
    obtain ⟨v', w', hrun, h2, h3, _, h5⟩ := run_append_own_at (P := P) w B t ty e i z K bytes ht hi hz hsize hby hzs hK v rows.length rows.flatten hown.2 ad m c news.flatten (by rw [hfl, hrl]) hcells h1 hm hb hB
    refine ⟨v', w', hrun, ⟨hown.1.app hr.2.1, ?_⟩, h3, h5⟩
    rw [List.length_append, hrl, List.flatten_append]
    exact h2
/-- append(s, x..), s a row of the call's own. -/
theorem wpList_appK {ops : Array Oper} {rest : List Oper} {o : Oper} {a : Act} {Q : Exit → Act → World → Prop} (hgd : o.guard = none) (s x : Operand) (t : TypeId)
    (ho : o.op = .call { callee := .builtin .append, args := #[s, x], argTypes := #[t, t] }) {e : TypeId} {z : Value} {K bytes : Nat} (hE : EltK P t e z K bytes)
    {B : Nat} {v : Value} {rows : List (List Value)} (hs : a.eval s = v) (hown : OwnK K B w e v rows) {B2 m c : Nat} {A : Option Addr} {news : List (List Value)} (hx : a.eval x = .slice A m c) (hr : RdsK K w B2 A m news) (h1 : ∀ u ∈ news.flatten, u.oneCell' = true)
    (hm : rows.length + m ≤ maxLen) (hb : (rows.length + m) * bytes ≤ 140737488355328) (hB : B ≤ w.heap.size)
    (h : ∀ v' w', Hid (OwnK K B w' e v' (rows ++ news)) → Hid (Below B w w') → Hid (w.grownBy w' v.ownBlock ∧ (v'.ownBlock = v.ownBlock ∨ v'.ownBlock = some w.heap.size)) → wpList P ops Q rest (a.put o.dst v') w') : wpList P ops Q (o :: rest) a w := by
  refine wpList_plain hgd fun _ hK => ?_
  obtain ⟨v', w', hrun, h2, h3, h4⟩ := run_appK (ty := o.type) (c := c) hE hown hr h1 hm hb hB
  unfold Oper.wp execOp
  simp only [ho, resolve, invoke, builtin, Sem.run_bind, Sem.run_pure, Result.andThen_ok, List.map_toArray, List.map_cons, List.map_nil, hs, hx, hrun]
  exact hK _ _ (h v' w' (Lib.hid h2) (Lib.hid ((Below.refl B w).grown h3 hB fun k hk => (hown.block k hk).1)) (Lib.hid ⟨h3, h4⟩))
end
end Go.Proofs.Yteegdbbmamabiaa

/- append of one sample as a step of a region that draws its order. -/
namespace Go.Proofs.Yteegdbbmamabiaa
open Go.RowKit

end Go.Proofs.Yteegdbbmamabiaa

/- Chunks that are kept: the mathematics of the store, as chapter 17 tells it. -/
namespace Go.Proofs.Yteegdbbmamabiaa

/-- A number, its bytes, how often they are held. -/
structure RowB where
  id : Nat
  bs : List Nat
  n : Nat
deriving DecidableEq, Repr
structure BloN where
  budget : Int
  charged : Int
  next : Nat
  rows : List RowB
deriving DecidableEq, Repr
section
variable {s : BloN} {id : Int} {r : RowB}
/-! What is there behind each. -/
end
end Go.Proofs.Yteegdbbmamabiaa

/- One hand alone: the mathematics of the model, as chapter 14 tells it. -/
namespace Go.Proofs.Yteegdbbmamabiaa

/-- A series, an iterator, all that there is. -/
structure SerN where
  id : Int
  sea : Bool
  any : Bool
  last : Int
  l : List (Int × Nat)
deriving DecidableEq
structure IteN where
  id : Int
  rest : List (Int × Nat)
deriving DecidableEq
structure ModN where
  ser : List SerN
  ite : List IteN
  next : Int
deriving DecidableEq
structure ResN where
  err : Int
  iter : Int
  l : List (Int × Nat)
deriving DecidableEq
def ModN.nil : ModN := ⟨[], [], 0⟩
def ResN.of (e : Int) : ResN := ⟨e, 0, []⟩
def SerN.put (s : SerN) (t : Int) (v : Nat) : SerN := { s with any := true, last := t, l := s.l ++ [(t, v)] }
/-- Rising by their numbers. -/
def RiseM (m : ModN) : Prop := (m.ser.map (·.id)).Pairwise (· < ·) ∧ (m.ite.map (·.id)).Pairwise (· < ·)
/-- What stays so, whatever is done: numbers rise; an iterator's is no greater than the last one's; there are eight of them at most. -/
def KeepM (m : ModN) : Prop := RiseM m ∧ (∀ i ∈ m.ite, 1 ≤ i.id ∧ i.id ≤ m.next) ∧ m.ite.length ≤ 8 ∧ 0 ≤ m.next ∧ ∀ s ∈ m.ser, 0 ≤ s.id ∧ s.id ≤ 15
theorem KeepM.nil : KeepM .nil := ⟨⟨List.Pairwise.nil, List.Pairwise.nil⟩, (fun _ h => by cases h), Nat.zero_le _, Int.le_refl _, fun _ h => by cases h⟩
end Go.Proofs.Yteegdbbmamabiaa

/- Models in memory: rows of series (five cells each) and of iterators (two cells each), each with a row of samples of its own. -/
namespace Go.Proofs.Yteegdbbmamabiaa
open Go.RowKit

/-- A series with its row's slice; an iterator with it. -/
def serC (p : SerN × Value) : List Value := [.int .i64 p.1.id, .bool p.1.sea, .bool p.1.any, .int .i64 p.1.last, p.2]
def iteC (p : IteN × Value) : List Value := [.int .i64 p.1.id, p.2]
/-- The slice v reads as l, below block B. -/
def SliS (w : World) (B : Nat) (v : Value) (l : List (Int × Nat)) : Prop := ∃ A n c, v = .slice A n c ∧ RdsS w B A n l ∧ n ≤ c ∧ c ≤ maxLen
/-- A row of series, of iterators, reads so: each element's row lies below block B, too. -/
def RdsSer (w : World) (B : Nat) (A : Option Addr) (n : Nat) (ps : List (SerN × Value)) : Prop := RdsK 5 w B A n (ps.map serC) ∧ ∀ p ∈ ps, SliS w B p.2 p.1.l
def RdsIte (w : World) (B : Nat) (A : Option Addr) (n : Nat) (ps : List (IteN × Value)) : Prop := RdsK 2 w B A n (ps.map iteC) ∧ ∀ p ∈ ps, SliS w B p.2 p.1.rest
section
variable {w w' : World} {B B' n : Nat} {A : Option Addr} {v : Value} {l : List (Int × Nat)}
theorem SliS.more (h : SliS w B v l) (hB : B ≤ B') : SliS w B' v l := by
  obtain ⟨A, n, c, e, h1, h2⟩ := h
  exact ⟨A, n, c, e, h1.more hB, h2⟩
theorem SliS.mod {S : Nat → Prop} (h : SliS w B v l) (hm : Mod S w w') (hB : B ≤ w.heap.size) (hS : ∀ j, j < B → ¬ S j) : SliS w' B v l := by
  obtain ⟨A, n, c, e, h1, h2⟩ := h
  exact ⟨A, n, c, e, h1.mod hm hB hS, h2⟩
theorem SliS.fit (h : SliS w B v l) : SliS w w.heap.size v l := by
  obtain ⟨A, n, c, e, h1, h2⟩ := h
  exact ⟨A, n, c, e, h1.fit, h2⟩
theorem SliS.new (h : SliS w B v l) (hm : Mod (fun _ => False) w w') : SliS w' w.heap.size v l := by
  obtain ⟨A, n, c, e, h1, h2⟩ := h
  exact ⟨A, n, c, e, h1.new hm, h2⟩
theorem SliS.nil (w : World) (B : Nat) : SliS w B (.slice none 0 0) [] := ⟨none, 0, 0, rfl, RdsS.nil _ _ _, Nat.le_refl _, Nat.zero_le _⟩
theorem SliS.of_own (h : OwnS B w v l) : SliS w w.heap.size v l := by
  obtain ⟨A, c, e, h1, h2, h3⟩ := h.form
  exact ⟨A, l.length, c, e, h3, h1, h2⟩
variable {ps : List (SerN × Value)} {qs : List (IteN × Value)}
theorem RdsSer.nil (w : World) (B : Nat) (A : Option Addr) : RdsSer w B A 0 [] := ⟨RdsK.nil _ _ _ _, fun _ h => by cases h⟩
theorem RdsIte.nil (w : World) (B : Nat) (A : Option Addr) : RdsIte w B A 0 [] := ⟨RdsK.nil _ _ _ _, fun _ h => by cases h⟩
theorem RdsSer.mod {S : Nat → Prop} (h : RdsSer w B A n ps) (hm : Mod S w w') (hB : B ≤ w.heap.size) (hS : ∀ j, j < B → ¬ S j) : RdsSer w' B A n ps := ⟨h.1.mod hm hB hS, fun p hp => (h.2 p hp).mod hm hB hS⟩
theorem RdsIte.mod {S : Nat → Prop} (h : RdsIte w B A n qs) (hm : Mod S w w') (hB : B ≤ w.heap.size) (hS : ∀ j, j < B → ¬ S j) : RdsIte w' B A n qs := ⟨h.1.mod hm hB hS, fun p hp => (h.2 p hp).mod hm hB hS⟩
theorem RdsSer.new (h : RdsSer w B A n ps) (hm : Mod (fun _ => False) w w') : RdsSer w' w.heap.size A n ps := ⟨h.1.new hm, fun p hp => (h.2 p hp).new hm⟩
theorem RdsIte.new (h : RdsIte w B A n qs) (hm : Mod (fun _ => False) w w') : RdsIte w' w.heap.size A n qs := ⟨h.1.new hm, fun p hp => (h.2 p hp).new hm⟩
theorem RdsSer.more (h : RdsSer w B A n ps) (hB : B ≤ B') : RdsSer w B' A n ps := ⟨h.1.more hB, fun p hp => (h.2 p hp).more hB⟩
theorem RdsIte.more (h : RdsIte w B A n qs) (hB : B ≤ B') : RdsIte w B' A n qs := ⟨h.1.more hB, fun p hp => (h.2 p hp).more hB⟩
theorem RdsSer.fit (h : RdsSer w B A n ps) : RdsSer w w.heap.size A n ps := ⟨h.1.fit, fun p hp => (h.2 p hp).fit⟩
theorem RdsIte.fit (h : RdsIte w B A n qs) : RdsIte w w.heap.size A n qs := ⟨h.1.fit, fun p hp => (h.2 p hp).fit⟩
theorem RdsSer.len (h : RdsSer w B A n ps) : ps.length = n := by have := h.1.1; rwa [List.length_map] at this
theorem RdsIte.len (h : RdsIte w B A n qs) : qs.length = n := by have := h.1.1; rwa [List.length_map] at this
theorem RdsSer.take {k : Nat} (h : RdsSer w B A n ps) (hk : k ≤ n) : RdsSer w B A k (ps.take k) := ⟨by rw [List.map_take]; exact h.1.take hk, fun p hp => h.2 p (List.mem_of_mem_take hp)⟩
theorem RdsIte.take {k : Nat} (h : RdsIte w B A n qs) (hk : k ≤ n) : RdsIte w B A k (qs.take k) := ⟨by rw [List.map_take]; exact h.1.take hk, fun p hp => h.2 p (List.mem_of_mem_take hp)⟩
theorem RdsSer.drop {k c : Nat} (h : RdsSer w B A n ps) (hk : k ≤ n) (hc : n ≤ c) : RdsSer w B (if c = k then A else A.map (·.add (k * 5))) (n - k) (ps.drop k) := ⟨by rw [List.map_drop]; exact h.1.drop hk hc (by decide), fun p hp => h.2 p (List.mem_of_mem_drop hp)⟩
theorem RdsIte.drop {k c : Nat} (h : RdsIte w B A n qs) (hk : k ≤ n) (hc : n ≤ c) : RdsIte w B (if c = k then A else A.map (·.add (k * 2))) (n - k) (qs.drop k) := ⟨by rw [List.map_drop]; exact h.1.drop hk hc (by decide), fun p hp => h.2 p (List.mem_of_mem_drop hp)⟩
theorem add_cell5 (a : Addr) (i j : Nat) (hj : 0 < j) : (⟨(a.add (i * 5)).block, (a.add (i * 5)).off + j, none⟩ : Addr) = a.add (i * 5 + j) := by
  rw [← add_add]
  have : ¬ j = 0 := by omega
  simp [Addr.add, this]
/-- The i-th series: its five cells, as the model's loads spell them. -/
theorem RdsSer.at_ {i : Nat} (h : RdsSer w B A n ps) (hi : i < n) : ∃ ad s A' n' c', A = some ad ∧ ad.block < B ∧ ps[i]? = some (s, .slice A' n' c') ∧ RdsS w B A' n' s.l ∧ n' ≤ c' ∧ c' ≤ maxLen ∧
    w.cell? (ad.add (i * 5)) = some (.int .i64 s.id) ∧ w.cell? ⟨(ad.add (i * 5)).block, (ad.add (i * 5)).off + 1, none⟩ = some (.bool s.sea) ∧ w.cell? ⟨(ad.add (i * 5)).block, (ad.add (i * 5)).off + 2, none⟩ = some (.bool s.any) ∧
    w.cell? ⟨(ad.add (i * 5)).block, (ad.add (i * 5)).off + 3, none⟩ = some (.int .i64 s.last) ∧ w.cell? ⟨(ad.add (i * 5)).block, (ad.add (i * 5)).off + 4, none⟩ = some (.slice A' n' c') := by
  obtain ⟨ad, r, e, hb, hr, hl, hc⟩ := h.1.at_ hi (by decide)
  rw [List.getElem?_map] at hr
  obtain ⟨⟨s, u⟩, hp, rfl⟩ := Option.map_eq_some_iff.1 hr
  obtain ⟨A', n', c', rfl, h1, h2, h3⟩ := h.2 _ (List.mem_of_getElem? hp)
  refine ⟨ad, s, A', n', c', e, hb, hp, h1, h2, h3, ?_, ?_, ?_, ?_, ?_⟩
  · exact hc 0 _ rfl
  · rw [add_cell5 _ _ _ (by decide)]; exact hc 1 _ rfl
  · rw [add_cell5 _ _ _ (by decide)]; exact hc 2 _ rfl
  · rw [add_cell5 _ _ _ (by decide)]; exact hc 3 _ rfl
  · rw [add_cell5 _ _ _ (by decide)]; exact hc 4 _ rfl
theorem RdsIte.at_ {i : Nat} (h : RdsIte w B A n qs) (hi : i < n) : ∃ ad s A' n' c', A = some ad ∧ ad.block < B ∧ qs[i]? = some (s, .slice A' n' c') ∧ RdsS w B A' n' s.rest ∧ n' ≤ c' ∧ c' ≤ maxLen ∧
    w.cell? (ad.add (i * 2)) = some (.int .i64 s.id) ∧ w.cell? ⟨(ad.add (i * 2)).block, (ad.add (i * 2)).off + 1, none⟩ = some (.slice A' n' c') := by
  obtain ⟨ad, r, e, hb, hr, hl, hc⟩ := h.1.at_ hi (by decide)
  rw [List.getElem?_map] at hr
  obtain ⟨⟨s, u⟩, hp, rfl⟩ := Option.map_eq_some_iff.1 hr
  obtain ⟨A', n', c', rfl, h1, h2, h3⟩ := h.2 _ (List.mem_of_getElem? hp)
  refine ⟨ad, s, A', n', c', e, hb, hp, h1, h2, h3, ?_, ?_⟩
  · exact hc 0 _ rfl
  · rw [add_one_cell]; exact hc 1 _ rfl
end

/-- A model that reads so: its three cells are those of 'm'. -/
def RdsM (w : World) (B : Nat) (A : Option Addr) (n c : Nat) (A2 : Option Addr) (n2 c2 : Nat) (m : ModN) : Prop :=
  ∃ (ps : List (SerN × Value)) (qs : List (IteN × Value)), ps.map (·.1) = m.ser ∧ qs.map (·.1) = m.ite ∧ RdsSer w B A n ps ∧ RdsIte w B A2 n2 qs ∧ n ≤ c ∧ c ≤ maxLen ∧ n2 ≤ c2 ∧ c2 ≤ maxLen
section
variable {w w' : World} {B B' n c n2 c2 : Nat} {A A2 : Option Addr} {m : ModN}
theorem RdsM.nil (w : World) (B : Nat) : RdsM w B none 0 0 none 0 0 .nil := ⟨[], [], rfl, rfl, RdsSer.nil _ _ _, RdsIte.nil _ _ _, Nat.le_refl _, Nat.zero_le _, Nat.le_refl _, Nat.zero_le _⟩
theorem RdsM.mod {S : Nat → Prop} (h : RdsM w B A n c A2 n2 c2 m) (hm : Mod S w w') (hB : B ≤ w.heap.size) (hS : ∀ j, j < B → ¬ S j) : RdsM w' B A n c A2 n2 c2 m := by
  obtain ⟨ps, qs, h1, h2, h3, h4, h5⟩ := h
  exact ⟨ps, qs, h1, h2, h3.mod hm hB hS, h4.mod hm hB hS, h5⟩
theorem RdsM.new (h : RdsM w B A n c A2 n2 c2 m) (hm : Mod (fun _ => False) w w') : RdsM w' w.heap.size A n c A2 n2 c2 m := by
  obtain ⟨ps, qs, h1, h2, h3, h4, h5⟩ := h
  exact ⟨ps, qs, h1, h2, h3.new hm, h4.new hm, h5⟩
theorem RdsM.fit (h : RdsM w B A n c A2 n2 c2 m) : RdsM w w.heap.size A n c A2 n2 c2 m := by
  obtain ⟨ps, qs, h1, h2, h3, h4, h5⟩ := h
  exact ⟨ps, qs, h1, h2, h3.fit, h4.fit, h5⟩
theorem RdsM.more (h : RdsM w B A n c A2 n2 c2 m) (hB : B ≤ B') : RdsM w B' A n c A2 n2 c2 m := by
  obtain ⟨ps, qs, h1, h2, h3, h4, h5⟩ := h
  exact ⟨ps, qs, h1, h2, h3.more hB, h4.more hB, h5⟩
end

/-- Two rows of the call's own whose elements have two types share no block. -/
theorem owns_apart {w : World} {B B' e e' K K' n n' : Nat} {v v' : Value} {xs xs' : List Value} (h : w.ownsRow B e K v n xs) (h' : w.ownsRow B' e' K' v' n' xs') (hne : e ≠ e') : ∀ k, v.ownBlock = some k → v'.ownBlock ≠ some k := by
  intro k hk hk'
  rcases h.2 with ⟨rfl, _⟩ | ⟨g, cap, cur, rfl, _, hg, _⟩
  · simp [Value.ownBlock] at hk
  rcases h'.2 with ⟨rfl, _⟩ | ⟨g', cap', cur', rfl, _, hg', _⟩
  · simp [Value.ownBlock] at hk'
  have e1 : g = k := by simpa [Value.ownBlock] using hk
  have e2 : g' = k := by simpa [Value.ownBlock] using hk'
  subst e1
  subst e2
  rw [hg] at hg'
  injection hg' with hg'
  injection hg' with _ ht
  exact hne ht
/-- Rows of the call's own, and each element's row, too. -/
def OwnSer (B : Nat) (w : World) (e : TypeId) (v : Value) (ps : List (SerN × Value)) : Prop := OwnK 5 B w e v (ps.map serC) ∧ ∀ p ∈ ps, OwnS B w p.2 p.1.l
def OwnIte (B : Nat) (w : World) (e : TypeId) (v : Value) (ps : List (IteN × Value)) : Prop := OwnK 2 B w e v (ps.map iteC) ∧ ∀ p ∈ ps, OwnS B w p.2 p.1.rest
section
variable {w w' : World} {B B' : Nat} {e : TypeId} {v : Value} {ps : List (SerN × Value)} {qs : List (IteN × Value)}
theorem OwnSer.nil (B : Nat) (w : World) (e : TypeId) : OwnSer B w e (.slice none 0 0) [] := ⟨OwnK.nil _ _ _ _, fun _ h => by cases h⟩
theorem OwnIte.nil (B : Nat) (w : World) (e : TypeId) : OwnIte B w e (.slice none 0 0) [] := ⟨OwnK.nil _ _ _ _, fun _ h => by cases h⟩
theorem OwnSer.mod (h : OwnSer B w e v ps) (hm : Mod (fun _ => False) w w') : OwnSer B w' e v ps := ⟨h.1.mod hm, fun p hp => (h.2 p hp).mod hm⟩
theorem OwnIte.mod (h : OwnIte B w e v qs) (hm : Mod (fun _ => False) w w') : OwnIte B w' e v qs := ⟨h.1.mod hm, fun p hp => (h.2 p hp).mod hm⟩
theorem OwnSer.modS {S : Nat → Prop} (h : OwnSer B w e v ps) (hm : Mod S w w') (hS : ∀ k, B ≤ k → ¬ S k) : OwnSer B w' e v ps := ⟨h.1.modS hm (fun k hk => hS k (h.1.block k hk).1), fun p hp => hm.owns (h.2 p hp) (fun k hk => hS k ((h.2 p hp).block k hk).1)⟩
theorem OwnIte.modS {S : Nat → Prop} (h : OwnIte B w e v qs) (hm : Mod S w w') (hS : ∀ k, B ≤ k → ¬ S k) : OwnIte B w' e v qs := ⟨h.1.modS hm (fun k hk => hS k (h.1.block k hk).1), fun p hp => hm.owns (h.2 p hp) (fun k hk => hS k ((h.2 p hp).block k hk).1)⟩
theorem OwnSer.mono (h : OwnSer B w e v ps) (hB : B' ≤ B) : OwnSer B' w e v ps := ⟨h.1.mono hB, fun p hp => (h.2 p hp).mono hB⟩
theorem OwnIte.mono (h : OwnIte B w e v qs) (hB : B' ≤ B) : OwnIte B' w e v qs := ⟨h.1.mono hB, fun p hp => (h.2 p hp).mono hB⟩
theorem OwnSer.form (h : OwnSer B w e v ps) : ∃ A c, v = .slice A ps.length c ∧ ps.length ≤ c ∧ c ≤ maxLen ∧ RdsSer w w.heap.size A ps.length ps := by
  obtain ⟨A, c, h1, _, h2, h3, h4⟩ := h.1.form
  rw [List.length_map] at h1 h2 h4
  exact ⟨A, c, h1, h2, h3, h4, fun p hp => SliS.of_own (h.2 p hp)⟩
theorem OwnIte.form (h : OwnIte B w e v qs) : ∃ A c, v = .slice A qs.length c ∧ qs.length ≤ c ∧ c ≤ maxLen ∧ RdsIte w w.heap.size A qs.length qs := by
  obtain ⟨A, c, h1, _, h2, h3, h4⟩ := h.1.form
  rw [List.length_map] at h1 h2 h4
  exact ⟨A, c, h1, h2, h3, h4, fun p hp => SliS.of_own (h.2 p hp)⟩
/-- A cell of the row's own is written: what the elements have stays, where their type is another. -/
theorem OwnSer.keep {g n c o : Nat} {u : Value} (h : OwnSer B w e (.slice (some ⟨g, 0, none⟩) n c) ps) (hne : e ≠ 43) : ∀ p ∈ ps, OwnS B (w.setCell ⟨g, o, none⟩ u) p.2 p.1.l := fun p hp =>
  ((Mod.refl (fun k => k = g) w).setCell (p := ⟨g, o, none⟩) (fun _ => rfl) u).owns (h.2 p hp) (fun k hk e' => owns_apart h.1.2 (h.2 p hp) hne k (by simp [Value.ownBlock, e']) hk)
theorem OwnIte.keep {g n c o : Nat} {u : Value} (h : OwnIte B w e (.slice (some ⟨g, 0, none⟩) n c) qs) (hne : e ≠ 43) : ∀ p ∈ qs, OwnS B (w.setCell ⟨g, o, none⟩ u) p.2 p.1.rest := fun p hp =>
  ((Mod.refl (fun k => k = g) w).setCell (p := ⟨g, o, none⟩) (fun _ => rfl) u).owns (h.2 p hp) (fun k hk e' => owns_apart h.1.2 (h.2 p hp) hne k (by simp [Value.ownBlock, e']) hk)
end
/-- A model of the call's own. -/
def OwnM (B : Nat) (w : World) (eS eI : TypeId) (v v2 : Value) (m : ModN) : Prop := ∃ (ps : List (SerN × Value)) (qs : List (IteN × Value)), ps.map (·.1) = m.ser ∧ qs.map (·.1) = m.ite ∧ OwnSer B w eS v ps ∧ OwnIte B w eI v2 qs
theorem OwnM.rds {B : Nat} {w : World} {eS eI : TypeId} {v v2 : Value} {m : ModN} (h : OwnM B w eS eI v v2 m) : ∃ A c A2 c2, v = .slice A m.ser.length c ∧ v2 = .slice A2 m.ite.length c2 ∧ RdsM w w.heap.size A m.ser.length c A2 m.ite.length c2 m := by
  obtain ⟨ps, qs, h1, h2, h3, h4⟩ := h
  obtain ⟨A, c, e1, k1, k2, k3⟩ := h3.form
  obtain ⟨A2, c2, e2, j1, j2, j3⟩ := h4.form
  have l1 : ps.length = m.ser.length := by rw [← h1, List.length_map]
  have l2 : qs.length = m.ite.length := by rw [← h2, List.length_map]
  rw [l1] at e1 k1 k3
  rw [l2] at e2 j1 j3
  exact ⟨A, c, A2, c2, e1, e2, ps, qs, h1, h2, k3, j3, k1, k2, j1, j2⟩
theorem OwnM.mod {B : Nat} {w w' : World} {eS eI : TypeId} {v v2 : Value} {m : ModN} (h : OwnM B w eS eI v v2 m) (hm : Mod (fun _ => False) w w') : OwnM B w' eS eI v v2 m := by
  obtain ⟨ps, qs, h1, h2, h3, h4⟩ := h
  exact ⟨ps, qs, h1, h2, h3.mod hm, h4.mod hm⟩
theorem OwnM.mono {B B' : Nat} {w : World} {eS eI : TypeId} {v v2 : Value} {m : ModN} (h : OwnM B w eS eI v v2 m) (hB : B' ≤ B) : OwnM B' w eS eI v v2 m := by
  obtain ⟨ps, qs, h1, h2, h3, h4⟩ := h
  exact ⟨ps, qs, h1, h2, h3.mono hB, h4.mono hB⟩
end Go.Proofs.Yteegdbbmamabiaa

/- Which pages stay: the mathematics of the clock, as chapter 15 tells it. -/
namespace Go.Proofs.Yteegdbbmamabiaa

/-- A loop's rounds, till there is none more. -/
def runF {σ : Type} (f : σ → Option σ) : Nat → σ → σ
  | 0, s => s
  | n + 1, s => match f s with
    | none => s
    | some s' => runF f n s'
/-- After k rounds it ends at t. -/
def Ends {σ : Type} (f : σ → Option σ) : Nat → σ → σ → Prop
  | 0, s, t => f s = none ∧ s = t
  | k + 1, s, t => ∃ s', f s = some s' ∧ Ends f k s' t
theorem Ends.last {σ : Type} {f : σ → Option σ} : ∀ {k : Nat} {s t : σ}, Ends f k s t → f t = none
  | 0, _, _, h => h.2 ▸ h.1
  | k + 1, _, _, ⟨_, _, h⟩ => Ends.last (k := k) h
theorem Ends.run {σ : Type} {f : σ → Option σ} : ∀ {k : Nat} {s t : σ}, Ends f k s t → ∀ {n : Nat}, k ≤ n → runF f n s = t
  | 0, s, t, h, n, _ => by
    cases n with
    | zero => exact h.2
    | succ n => unfold runF; rw [h.1]; exact h.2
  | k + 1, s, t, ⟨s', h1, h2⟩, n, hn => by
    cases n with
    | zero => omega
    | succ n => unfold runF; rw [h1]; exact Ends.run (k := k) h2 (by omega)
/-- What each round keeps is kept. -/
theorem Ends.keep {σ : Type} {f : σ → Option σ} (P : σ → Prop) (hP : ∀ s s', P s → f s = some s' → P s') : ∀ {k : Nat} {s t : σ}, Ends f k s t → P s → P t
  | 0, _, _, h, hs => h.2 ▸ hs
  | k + 1, _, _, ⟨s', h1, h2⟩, hs => Ends.keep P hP (k := k) h2 (hP _ s' hs h1)

structure KeyN where
  s : Int
  l : Int
  b : Int
deriving DecidableEq, Repr
structure PagN where
  key : KeyN
  kind : Int
  ref : Bool
  trial : Bool
  pins : Int
deriving DecidableEq, Repr
structure ClkN where
  most : Int
  target : Int
  ps : List PagN
  hot : Nat
  cold : Nat
  test : Nat
deriving DecidableEq, Repr
def cntK (kind : Int) (ps : List PagN) : Nat := ps.countP fun p => p.kind == kind
def PagN.resi (p : PagN) : Bool := p.kind == 1 || p.kind == 2
def refsK (ps : List PagN) : Nat := ps.countP fun p => p.ref
/-! What stays so. -/
def OkP (p : PagN) : Prop := (p.kind = 1 ∨ p.kind = 2 ∨ p.kind = 3) ∧ 0 ≤ p.pins ∧ (p.kind = 3 → p.pins = 0)
def PgsK (ps : List PagN) : Prop := (∀ p ∈ ps, OkP p) ∧ (ps.map (·.key)).Nodup
/-- Its hands are places (0, where there are none), its target is no more than may be, its pages are what they should be. -/
structure BaseK (c : ClkN) : Prop where
  most : 1 ≤ c.most ∧ c.most ≤ 1000
  target : 1 ≤ c.target ∧ c.target ≤ c.most
  pgs : PgsK c.ps
  hot : c.hot < max c.ps.length 1
  cold : c.cold < max c.ps.length 1
  test : c.test < max c.ps.length 1
/-- Who is resident, and the pins. -/
def resL (ps : List PagN) : List (KeyN × Int) := (ps.filter PagN.resi).map fun p => (p.key, p.pins)
/-- Who is resident stays so, and all else is less. -/
structure Turn (c c' : ClkN) : Prop where
  base : BaseK c'
  most : c'.most = c.most
  target : c'.target ≤ c.target
  res : resL c'.ps = resL c.ps
  keys : (c'.ps.map (·.key)).Sublist (c.ps.map (·.key))
  tests : cntK 3 c'.ps ≤ cntK 3 c.ps
  refs : refsK c'.ps ≤ refsK c.ps
  len : c'.ps.length ≤ c.ps.length
theorem Turn.refl {c : ClkN} (h : BaseK c) : Turn c c := ⟨h, rfl, Int.le_refl _, rfl, List.Sublist.refl _, Nat.le_refl _, Nat.le_refl _, Nat.le_refl _⟩
theorem Turn.trans {a b c : ClkN} (h : Turn a b) (k : Turn b c) : Turn a c :=
  ⟨k.base, k.most.trans h.most, Int.le_trans k.target h.target, k.res.trans h.res, k.keys.trans h.keys, Nat.le_trans k.tests h.tests, Nat.le_trans k.refs h.refs, Nat.le_trans k.len h.len⟩
end Go.Proofs.Yteegdbbmamabiaa

/- A whole element of a row of the call's own is written, cell by cell. -/
namespace Go.Proofs.Yteegdbbmamabiaa
open Go.RowKit

section
variable {w : World} {B K g n cap i : Nat} {e : TypeId} {rows : List (List Value)} {r : List Value}
/-- A whole element is written, cell by cell: so far j of them. -/
def cellsTo (w : World) (g o : Nat) : Nat → List Value → World
  | _, [] => w
  | j, u :: us => cellsTo (w.setCell ⟨g, o + j, none⟩ u) g o (j + 1) us
theorem OwnK.cellsTo_ : ∀ (us : List Value) {w : World} {j : Nat} {rows : List (List Value)} {r : List Value}, OwnK K B w e (.slice (some ⟨g, 0, none⟩) n cap) rows → rows.length = n → rows[i]? = some r → j + us.length ≤ K → OwnK K B (cellsTo w g (i * K) j us) e (.slice (some ⟨g, 0, none⟩) n cap) (rows.set i (r.take j ++ us ++ r.drop (j + us.length)))
  | [], w, j, rows, r, h, hn, hr, _ => by
    obtain ⟨hi, er⟩ := List.getElem?_eq_some_iff.1 hr
    rw [List.append_nil, List.length_nil, Nat.add_zero, List.take_append_drop, ← er, List.set_getElem_self hi]
    exact h
  | u :: us, w, j, rows, r, h, hn, hr, hj => by
    rw [List.length_cons] at hj
    obtain ⟨_, _, h3⟩ := h.set_ hn hr (show j < K by omega) u
    have hrl : r.length = K := h.1 r (List.mem_of_getElem? hr)
    have hi := (List.getElem?_eq_some_iff.1 hr).1
    have h4 := OwnK.cellsTo_ us (j := j + 1) h3 (by rw [List.length_set]; exact hn) (r := r.set j u) (by rw [List.getElem?_set_self hi]) (by omega)
    rw [List.set_set] at h4
    have e1 : (r.set j u).take (j + 1) = r.take j ++ [u] := by
      rw [List.take_add_one, List.getElem?_set_self (by omega), List.take_set_of_le (Nat.le_refl _)]
      rfl
    have e2 : (r.set j u).drop (j + 1 + us.length) = r.drop (j + (us.length + 1)) := by
      rw [List.drop_set_of_lt (by omega)]
      congr 1
      omega
    rw [e1, e2] at h4
    rw [List.length_cons]
    have e3 : r.take j ++ u :: us ++ r.drop (j + (us.length + 1)) = r.take j ++ [u] ++ us ++ r.drop (j + (us.length + 1)) := by simp
    rw [e3]
    exact h4
/-- .. all of them. -/
theorem OwnK.whole {us : List Value} (h : OwnK K B w e (.slice (some ⟨g, 0, none⟩) n cap) rows) (hn : rows.length = n) (hr : rows[i]? = some r) (hu : us.length = K) : OwnK K B (cellsTo w g (i * K) 0 us) e (.slice (some ⟨g, 0, none⟩) n cap) (rows.set i us) := by
  have h1 := OwnK.cellsTo_ us (j := 0) h hn hr (by omega)
  have hrl : r.length = K := h.1 r (List.mem_of_getElem? hr)
  rw [List.take_zero, List.nil_append, Nat.zero_add, hu, List.drop_of_length_le (by omega), List.append_nil] at h1
  exact h1
end
end Go.Proofs.Yteegdbbmamabiaa

/- Clocks in memory: rows of pages, seven cells each. -/
namespace Go.Proofs.Yteegdbbmamabiaa
open Go.RowKit

def pagC (p : PagN) : List Value := [.int .i64 p.key.s, .int .i64 p.key.l, .int .i64 p.key.b, .int .i64 p.kind, .bool p.ref, .bool p.trial, .int .i64 p.pins]
/-- A row of pages reads so; a row of pages of the call's own. -/
def RdsP (w : World) (B : Nat) (A : Option Addr) (n : Nat) (ps : List PagN) : Prop := RdsK 7 w B A n (ps.map pagC)
def OwnP (B : Nat) (w : World) (e : TypeId) (v : Value) (ps : List PagN) : Prop := OwnK 7 B w e v (ps.map pagC)
theorem add_cellK (K : Nat) (a : Addr) (i j : Nat) (hj : 0 < j) : (⟨(a.add (i * K)).block, (a.add (i * K)).off + j, none⟩ : Addr) = a.add (i * K + j) := by
  rw [← add_add]
  have : ¬ j = 0 := by omega
  simp [Addr.add, this]
section
variable {w w' : World} {B B' n : Nat} {A : Option Addr} {e : TypeId} {v : Value} {ps : List PagN}
theorem RdsP.nil (w : World) (B : Nat) (A : Option Addr) : RdsP w B A 0 [] := RdsK.nil _ _ _ _
theorem RdsP.mod {S : Nat → Prop} (h : RdsP w B A n ps) (hm : Mod S w w') (hB : B ≤ w.heap.size) (hS : ∀ j, j < B → ¬ S j) : RdsP w' B A n ps := RdsK.mod h hm hB hS
theorem RdsP.new (h : RdsP w B A n ps) (hm : Mod (fun _ => False) w w') : RdsP w' w.heap.size A n ps := RdsK.new h hm
theorem RdsP.fit (h : RdsP w B A n ps) : RdsP w w.heap.size A n ps := RdsK.fit h
theorem RdsP.more (h : RdsP w B A n ps) (hB : B ≤ B') : RdsP w B' A n ps := RdsK.more h hB
theorem RdsP.len (h : RdsP w B A n ps) : ps.length = n := by have := h.1; rwa [List.length_map] at this
theorem RdsP.take {k : Nat} (h : RdsP w B A n ps) (hk : k ≤ n) : RdsP w B A k (ps.take k) := by unfold RdsP; rw [List.map_take]; exact RdsK.take h hk
theorem RdsP.drop {k c : Nat} (h : RdsP w B A n ps) (hk : k ≤ n) (hc : n ≤ c) : RdsP w B (if c = k then A else A.map (·.add (k * 7))) (n - k) (ps.drop k) := by unfold RdsP; rw [List.map_drop]; exact RdsK.drop h hk hc (by decide)
/-- The i-th page: its seven cells, as the model's loads spell them. -/
theorem RdsP.at_ {i : Nat} (h : RdsP w B A n ps) (hi : i < n) : ∃ ad p, A = some ad ∧ ad.block < B ∧ ps[i]? = some p ∧
    w.cell? (ad.add (i * 7)) = some (.int .i64 p.key.s) ∧ w.cell? ⟨(ad.add (i * 7)).block, (ad.add (i * 7)).off + 1, none⟩ = some (.int .i64 p.key.l) ∧ w.cell? ⟨(ad.add (i * 7)).block, (ad.add (i * 7)).off + 2, none⟩ = some (.int .i64 p.key.b) ∧
    w.cell? ⟨(ad.add (i * 7)).block, (ad.add (i * 7)).off + 3, none⟩ = some (.int .i64 p.kind) ∧ w.cell? ⟨(ad.add (i * 7)).block, (ad.add (i * 7)).off + 4, none⟩ = some (.bool p.ref) ∧
    w.cell? ⟨(ad.add (i * 7)).block, (ad.add (i * 7)).off + 5, none⟩ = some (.bool p.trial) ∧ w.cell? ⟨(ad.add (i * 7)).block, (ad.add (i * 7)).off + 6, none⟩ = some (.int .i64 p.pins) := by
  obtain ⟨ad, r, e, hb, hr, hl, hc⟩ := RdsK.at_ h hi (by decide)
  rw [List.getElem?_map] at hr
  obtain ⟨p, hp, rfl⟩ := Option.map_eq_some_iff.1 hr
  refine ⟨ad, p, e, hb, hp, hc 0 _ rfl, ?_, ?_, ?_, ?_, ?_, ?_⟩
  · rw [add_cellK 7 _ _ _ (by decide)]; exact hc 1 _ rfl
  · rw [add_cellK 7 _ _ _ (by decide)]; exact hc 2 _ rfl
  · rw [add_cellK 7 _ _ _ (by decide)]; exact hc 3 _ rfl
  · rw [add_cellK 7 _ _ _ (by decide)]; exact hc 4 _ rfl
  · rw [add_cellK 7 _ _ _ (by decide)]; exact hc 5 _ rfl
  · rw [add_cellK 7 _ _ _ (by decide)]; exact hc 6 _ rfl
theorem OwnP.nil (B : Nat) (w : World) (e : TypeId) : OwnP B w e (.slice none 0 0) [] := OwnK.nil _ _ _ _
theorem OwnP.mod (h : OwnP B w e v ps) (hm : Mod (fun _ => False) w w') : OwnP B w' e v ps := OwnK.mod h hm
theorem OwnP.modS {S : Nat → Prop} (h : OwnP B w e v ps) (hm : Mod S w w') (hS : ∀ k, B ≤ k → ¬ S k) : OwnP B w' e v ps := OwnK.modS h hm (fun k hk => hS k (OwnK.block h k hk).1)
theorem OwnP.mono (h : OwnP B w e v ps) (hB : B' ≤ B) : OwnP B' w e v ps := OwnK.mono h hB
theorem OwnP.form (h : OwnP B w e v ps) : ∃ A c, v = .slice A ps.length c ∧ ps.length ≤ c ∧ c ≤ maxLen ∧ RdsP w w.heap.size A ps.length ps := by
  obtain ⟨A, c, h1, _, h2, h3, h4⟩ := OwnK.form h
  rw [List.length_map] at h1 h2 h4
  exact ⟨A, c, h1, h2, h3, h4⟩
theorem OwnP.form' (h : OwnP B w e v ps) (hn : 0 < ps.length) : ∃ g cap, v = .slice (some ⟨g, 0, none⟩) ps.length cap ∧ ps.length ≤ cap ∧ cap ≤ maxLen ∧ B ≤ g ∧ g < w.heap.size := by
  have := OwnK.form' h (by rw [List.length_map]; exact hn)
  rwa [List.length_map] at this
end
end Go.Proofs.Yteegdbbmamabiaa

/- A map of the call's own whose elements are taken as they are (slices, pointers, numbers, strings): which value stands at which key, and how many there are. -/
namespace Go.Proofs.Yteegdbbmamabiaa
open Go.RowKit Go.Maps

/-- Whatever the value is: it is taken as it is. -/
def valR (v : Value) : Option (DataW Value × List MemPlace) := some (.held v, [])
theorem valR_inv {v : Value} {d : DataW Value} {ps : List MemPlace} (h : valR v = some (d, ps)) : d = .held v := by
  injection h with h
  injection h with h _
  exact h.symm
open Classical in
/-- At kl there stands v from now on. -/
noncomputable def putL (f : Lit → Option Value) (kl : Lit) (v : Option Value) : Lit → Option Value := fun l => if l = kl then v else f l
theorem putL_same (f : Lit → Option Value) (kl : Lit) (v : Option Value) : putL f kl v kl = v := if_pos rfl
theorem putL_other (f : Lit → Option Value) {kl l : Lit} (v : Option Value) (h : l ≠ kl) : putL f kl v l = f l := if_neg h
/-- Block b is a map; at l there stands f l; s keys in all (n at most). -/
def MapV (w : World) (P : Program) (k : TypeId) (b n : Nat) (f : Lit → Option Value) (s : Nat) : Prop :=
  ∃ D, w.ownsMap P k valR b n D ∧ Maps.size D = s ∧ ∀ l, Maps.has D l = (f l).isSome ∧ ∀ z, D.atKey l (.held z) = .held ((f l).getD z)
section
variable {w w' : World} {P : Program} {k e t : TypeId} {b n s : Nat} {f : Lit → Option Value}
theorem MapV.lt (h : MapV w P k b n f s) : b < w.heap.size := by obtain ⟨D, h1, _⟩ := h; exact World.ownsMap.lt h1
theorem MapV.mod {S : Nat → Prop} (h : MapV w P k b n f s) (hm : Mod S w w') (hb : ¬ S b) : MapV w' P k b n f s := by
  have hlt := h.lt
  obtain ⟨D, ⟨es, clock, h1, h2⟩, h3⟩ := h
  exact ⟨D, ⟨es, clock, (hm.block b hlt hb).trans h1, h2⟩, h3⟩
theorem MapV.made (w : World) (P : Program) (k : TypeId) : MapV (w.alloc (.map #[] 0)) P k w.heap.size 0 (fun _ => none) 0 :=
  ⟨.map [], World.ownsMap_made _ _ _ _, rfl, fun _ => ⟨rfl, fun _ => rfl⟩⟩
theorem MapV.more {n' : Nat} (h : MapV w P k b n f s) (hn : n ≤ n') : MapV w P k b n' f s := by
  obtain ⟨D, h1, h2⟩ := h
  exact ⟨D, World.ownsMap.mono h1 hn, h2⟩
theorem MapV.same {f' : Lit → Option Value} (h : MapV w P k b n f s) (e : ∀ l, f' l = f l) : MapV w P k b n f' s := by rw [funext e]; exact h
/-- m[k]. -/
theorem MapV.look (h : MapV w P k b n f s) (K : Keyed P k) (ht : P.underlying t = some (.map k e)) {z : Value} (hz : (zeroValue e).run P w = .ok z w) {key : Value} {kl : Lit} (hkey : keyOf P k key = some kl) :
    (Instr.lookup t (.map (some b)) key false).run P w = .ok ((f kl).getD z) w := by
  obtain ⟨D, h1, _, h3⟩ := h
  obtain ⟨v, ps, hrun, hv⟩ := World.ownsMap.lookup h1 K ht hz (zd := .held z) (zp := []) rfl hkey
  rw [(h3 kl).2 z] at hv
  have := valR_inv hv
  injection this with this
  rw [hrun, this]
/-- v, ok := m[k]. -/
theorem MapV.look_ok (h : MapV w P k b n f s) (K : Keyed P k) (ht : P.underlying t = some (.map k e)) {z : Value} (hz : (zeroValue e).run P w = .ok z w) {key : Value} {kl : Lit} (hkey : keyOf P k key = some kl) :
    (Instr.lookup t (.map (some b)) key true).run P w = .ok (.tuple #[(f kl).getD z, .bool (f kl).isSome]) w := by
  obtain ⟨D, h1, _, h3⟩ := h
  obtain ⟨v, ps, hrun, hv⟩ := World.ownsMap.look_ok h1 K ht hz (zd := .held z) (zp := []) rfl hkey
  rw [(h3 kl).2 z] at hv
  have := valR_inv hv
  injection this with this
  rw [hrun, this, (h3 kl).1]
theorem turned_mod {b : Nat} (h : w.mapTurned w' b) : Mod (fun j => j = b) w w' := (Mod.refl (fun j => j = b) w).grown h.grown (fun j hj _ => by injection hj with hj; exact hj.symm)
/-- m[k] = v. -/
theorem MapV.store (h : MapV w P k b n f s) (K : Keyed P k) (ht : P.underlying t = some (.map k e)) (hn : n < maxLen) {key : Value} (val : Value) {kl : Lit} (hkey : keyOf P k key = some kl) :
    ∃ w', (Instr.mapUpdate t (.map (some b)) key val).run P w = .ok () w' ∧ MapV w' P k b (n + 1) (putL f kl (some val)) (if (f kl).isSome then s else s + 1) ∧ Mod (fun j => j = b) w w' := by
  obtain ⟨D, h1, h2, h3⟩ := h
  obtain ⟨w', hrun, h4, h5⟩ := World.ownsMap.store h1 K ht hn hkey (val := val) (d := .held val) (ps := []) rfl
  refine ⟨w', hrun, ⟨D.put kl (.held val), h4, ?_, fun l => ?_⟩, turned_mod h5⟩
  · rw [size_put (World.ownsMap.tidy h1 K), (h3 kl).1, h2]
  · by_cases e : l = kl
    · subst e
      rw [putL_same, has_put_same (World.ownsMap.isMap h1) (K.key hkey)]
      exact ⟨rfl, fun z => by rw [atKey_put_same (World.ownsMap.isMap h1) (K.key hkey)]; rfl⟩
    · rw [putL_other _ _ e, has_put_other e]
      exact ⟨(h3 l).1, fun z => by rw [atKey_put_other e]; exact (h3 l).2 z⟩
/-- delete(m, k). -/
theorem MapV.drop (h : MapV w P k b n f s) (K : Keyed P k) (ht : P.underlying t = some (.map k e)) {key : Value} {kl : Lit} (hkey : keyOf P k key = some kl) (ty : TypeId) :
    ∃ w', (Builtin.delete_ #[t, k] ty #[.map (some b), key]).run P w = .ok (.tuple #[]) w' ∧ MapV w' P k b n (putL f kl none) (if (f kl).isSome then s - 1 else s) ∧ Mod (fun j => j = b) w w' := by
  obtain ⟨D, h1, h2, h3⟩ := h
  obtain ⟨w', hrun, h4, h5⟩ := World.ownsMap.drop h1 K ht hkey ty
  refine ⟨w', hrun, ⟨D.del kl, h4, ?_, fun l => ?_⟩, turned_mod h5⟩
  · have := size_del (k := kl) (World.ownsMap.tidy h1 K)
    rw [(h3 kl).1] at this
    split
    · rename_i hs
      rw [if_pos hs] at this
      omega
    · rename_i hs
      rw [if_neg hs] at this
      omega
  · by_cases e : l = kl
    · subst e
      rw [putL_same, has_del_same]
      exact ⟨rfl, fun z => by rw [atKey_del_same]; rfl⟩
    · rw [putL_other _ _ e, has_del_other e]
      exact ⟨(h3 l).1, fun z => by rw [atKey_del_other e]; exact (h3 l).2 z⟩
end
end Go.Proofs.Yteegdbbmamabiaa

/- A map whose keys are whole numbers: which value stands at which number. -/
namespace Go.Proofs.Yteegdbbmamabiaa
open Go.RowKit Go.Maps

theorem lawZ : Keyed Try.prog 3 := int_keyed Try.underlying3
theorem wfZ {a : Int} (h : FitI a) : (Lit.int .i64 a).wf = true := by
  have := h.out
  have e1 : IntKind.i64.min = -9223372036854775808 := by decide
  have e2 : IntKind.i64.max = 9223372036854775807 := by decide
  simp [Lit.wf, e1, e2]
  omega
theorem keyZ {a : Int} (h : FitI a) : keyOf Try.prog 3 (.int .i64 a) = some (.int .i64 a) := keyOf_int_mk Try.underlying3 (wfZ h)
def MapZ (w : World) (b n : Nat) (g : Int → Option Value) (s : Nat) : Prop := ∃ f, MapV w Try.prog 3 b n f s ∧ ∀ k, FitI k → f (.int .i64 k) = g k
def setZ (g : Int → Option Value) (k : Int) (v : Option Value) : Int → Option Value := fun x => if x = k then v else g x
section
variable {w w' : World} {e t : TypeId} {b n s : Nat} {g : Int → Option Value} {k : Int}
theorem MapZ.lt (h : MapZ w b n g s) : b < w.heap.size := by obtain ⟨f, h1, _⟩ := h; exact h1.lt
theorem MapZ.mod {S : Nat → Prop} (h : MapZ w b n g s) (hm : Mod S w w') (hb : ¬ S b) : MapZ w' b n g s := by obtain ⟨f, h1, h2⟩ := h; exact ⟨f, h1.mod hm hb, h2⟩
theorem MapZ.more {n' : Nat} (h : MapZ w b n g s) (hn : n ≤ n') : MapZ w b n' g s := by obtain ⟨f, h1, h2⟩ := h; exact ⟨f, h1.more hn, h2⟩
theorem MapZ.made (w : World) : MapZ (w.alloc (.map #[] 0)) w.heap.size 0 (fun _ => none) 0 := ⟨_, MapV.made _ _ _, fun _ _ => rfl⟩
/-- A map's block is no block of cells. -/
theorem MapZ.not_cells (h : MapZ w b n g s) {t : TypeId} {cs : Array Value} : ¬ Blk w b t cs := by
  obtain ⟨f, ⟨D, ⟨es, clock, h1, _⟩, _⟩, _⟩ := h
  intro hb
  unfold Blk at hb
  rw [h1] at hb
  injection hb with hb
  cases hb
theorem MapZ.look (h : MapZ w b n g s) (ht : Try.prog.underlying t = some (.map 3 e)) {z : Value} (hz : (zeroValue e).run Try.prog w = .ok z w) (hk : FitI k) :
    (Instr.lookup t (.map (some b)) (.int .i64 k) false).run Try.prog w = .ok ((g k).getD z) w := by
  obtain ⟨f, h1, h2⟩ := h
  rw [h1.look lawZ ht hz (keyZ hk), h2 k hk]
theorem MapZ.look_ok (h : MapZ w b n g s) (ht : Try.prog.underlying t = some (.map 3 e)) {z : Value} (hz : (zeroValue e).run Try.prog w = .ok z w) (hk : FitI k) :
    (Instr.lookup t (.map (some b)) (.int .i64 k) true).run Try.prog w = .ok (.tuple #[(g k).getD z, .bool (g k).isSome]) w := by
  obtain ⟨f, h1, h2⟩ := h
  rw [h1.look_ok lawZ ht hz (keyZ hk), h2 k hk]
theorem MapZ.store (h : MapZ w b n g s) (ht : Try.prog.underlying t = some (.map 3 e)) (hn : n < maxLen) (hk : FitI k) (v : Value) :
    ∃ w', (Instr.mapUpdate t (.map (some b)) (.int .i64 k) v).run Try.prog w = .ok () w' ∧ MapZ w' b (n + 1) (setZ g k (some v)) (if (g k).isSome then s else s + 1) ∧ Mod (fun j => j = b) w w' := by
  obtain ⟨f, h1, h2⟩ := h
  obtain ⟨w', hrun, h3, h4⟩ := h1.store lawZ ht hn v (keyZ hk)
  rw [h2 k hk] at h3
  refine ⟨w', hrun, ⟨_, h3, fun x hx => ?_⟩, h4⟩
  unfold setZ
  by_cases hxk : x = k
  · rw [if_pos hxk, hxk, putL_same]
  · rw [if_neg hxk, putL_other _ _ (fun e => hxk (by injection e)), h2 x hx]
theorem MapZ.drop (h : MapZ w b n g s) (ht : Try.prog.underlying t = some (.map 3 e)) (hk : FitI k) (ty : TypeId) :
    ∃ w', (Builtin.delete_ #[t, 3] ty #[.map (some b), .int .i64 k]).run Try.prog w = .ok (.tuple #[]) w' ∧ MapZ w' b n (setZ g k none) (if (g k).isSome then s - 1 else s) ∧ Mod (fun j => j = b) w w' := by
  obtain ⟨f, h1, h2⟩ := h
  obtain ⟨w', hrun, h3, h4⟩ := h1.drop lawZ ht (keyZ hk) ty
  rw [h2 k hk] at h3
  refine ⟨w', hrun, ⟨_, h3, fun x hx => ?_⟩, h4⟩
  unfold setZ
  by_cases hxk : x = k
  · rw [if_pos hxk, hxk, putL_same]
  · rw [if_neg hxk, putL_other _ _ (fun e => hxk (by injection e)), h2 x hx]
end
end Go.Proofs.Yteegdbbmamabiaa

/- Regions that draw their order, of assignments: the stores wait for all that stands on the right hand; so what the loads read is asked to stay only until the first store. -/
namespace Go.Proofs.Yteegdbbmamabiaa
open Go.RowKit
section
variable {P : Program} {ops : Array Oper} {Q : Exit → Act → World → Prop} {md : Region.Mode} {S : World → Prop} {n1 : Nat}

/-- Whatever order is picked, and S holds behind each of the first n1 operations that is carried out. -/
def wpAnyT (P : Program) (md : Region.Mode) (ops : Array Oper) (Q : Exit → Act → World → Prop) (S : World → Prop) (n1 : Nat) : Nat → Array Bool → Act → World → Prop
  | 0, listed, a, w => Region.ready md ops listed = [] ∧ Q .normal a w
  | fuel + 1, listed, a, w =>
    (Region.ready md ops listed = [] → Q .normal a w) ∧
    ∀ i ∈ Region.ready md ops listed, wpOp P ops Q i (fun a' w' => (i < n1 → S w') ∧ wpAnyT P md ops Q S n1 fuel (listed.setIfInBounds i true) a' w') a w
theorem wpAny_of_T : ∀ (fuel : Nat) (listed : Array Bool) (a : Act) (w : World), wpAnyT P md ops Q S n1 fuel listed a w → wpAny P md ops Q fuel listed a w
  | 0, _, _, _, h => h
  | fuel + 1, _, _, _, h => ⟨h.1, fun i hi => wpOp_mono (fun a' w' h' => wpAny_of_T fuel _ a' w' h'.2) (h.2 i hi)⟩
/-- When the first n1 have come up nothing more is asked of S. -/
theorem wpAnyT_of_any : ∀ (fuel : Nat) (listed : Array Bool) (a : Act) (w : World), (∀ i, i < n1 → listed.getD i true = true) → wpAny P md ops Q fuel listed a w → wpAnyT P md ops Q S n1 fuel listed a w
  | 0, _, _, _, _, h => h
  | fuel + 1, listed, _, _, hl, h => by
    refine ⟨h.1, fun i hi => wpOp_mono (fun a' w' h' => ?_) (h.2 i hi)⟩
    have hno : ¬ i < n1 := fun hin => by
      have h0 := (mem_ready.1 hi).1
      rw [hl i hin] at h0
      cases h0
    refine ⟨fun hin => absurd hin hno, wpAnyT_of_any fuel _ a' w' (fun j hj => ?_) h'⟩
    have hij : i ≠ j := fun e => hno (e ▸ hj)
    rw [getD_set_ne true hij]
    exact hl j hj
/-- Each operation from n1 on waits for all of the first n1. -/
def phased (md : Region.Mode) (ops : Array Oper) (n1 : Nat) : Bool := (List.range ops.size).all fun j => decide (j < n1) || (List.range n1).all fun i => match ops[j]? with
  | some o => o.after.any fun e => Region.binds md e && e.on == i
  | none => true
theorem phased_spec (h : phased md ops n1 = true) {j : Nat} {oj : Oper} (hj : ops[j]? = some oj) (hn : n1 ≤ j) {i : Nat} (hi : i < n1) : ∃ e ∈ oj.after, Region.binds md e = true ∧ e.on = i := by
  unfold phased at h
  rw [List.all_eq_true] at h
  have h1 := h j (List.mem_range.2 (Array.getElem?_eq_some_iff.1 hj).1)
  rw [decide_eq_false (by omega), Bool.false_or, List.all_eq_true] at h1
  have h2 := h1 i (List.mem_range.2 hi)
  simp only [hj] at h2
  obtain ⟨e, he, hb⟩ := Array.any_eq_true'.1 h2
  simp only [Bool.and_eq_true, beq_iff_eq] at hb
  exact ⟨e, he, hb.1, hb.2⟩
theorem wpAnyT_first {i : Nat} {oi : Oper} {v : Value} (hi : ops[i]? = some oi) (hin : i < n1) (hp : phased md ops n1 = true) (hsel : ∀ (j : Nat) (o : Oper) cs b, ops[j]? = some o → o.op ≠ .select cs b)
    (hQ : ∀ c a w, Q (.panic c) (a.put oi.dst v) w → Q (.panic c) a w) :
    ∀ (fuel : Nat) (listed : Array Bool) (a : Act) (w : World),
      (∀ j oj, ops[j]? = some oj → j ≠ i → listed.getD j true = false → (∀ e ∈ oj.after, Region.binds md e = true → e.on ≠ i) → oi.apart ops oj = true) →
      i ∈ Region.ready md ops listed → YieldsIf P ops S oi v a → S w →
      wpAnyT P md ops Q S n1 fuel (listed.setIfInBounds i true) (a.put oi.dst v) w → wpAnyT P md ops Q S n1 (fuel + 1) listed a w := by
  intro fuel
  induction fuel with
  | zero =>
    intro listed a w _ hr hy hS H
    refine ⟨fun h => (by rw [h] at hr; cases hr), fun j hj => ?_⟩
    by_cases hji : j = i
    · subst hji; exact hy.wpOp hi hS ⟨fun _ => hS, H⟩
    · have := ready_mono hj hji
      rw [H.1] at this
      cases this
  | succ fuel ih =>
    intro listed a w hfree hr hy hS H
    refine ⟨fun h => (by rw [h] at hr; cases hr), fun j hj => ?_⟩
    by_cases hji : j = i
    · subst hji; exact hy.wpOp hi hS ⟨fun _ => hS, H⟩
    · have h1 := H.2 j (ready_mono hj hji)
      obtain ⟨hjun, oj, hoj, hall⟩ := mem_ready.1 hj
      have hnot : ∀ e ∈ oj.after, Region.binds md e = true → e.on ≠ i := fun e he hb heq => by
        have h1 := hall e he hb
        have h0 := (mem_ready.1 hr).1
        rw [heq] at h1
        rcases Nat.lt_or_ge i listed.size with h' | h'
        · simp [h'] at h0 h1; rw [h0] at h1; cases h1
        · simp [Array.getElem?_eq_none h'] at h1
      have hjn : j < n1 := by
        rcases Nat.lt_or_ge j n1 with h | h
        · exact h
        · obtain ⟨e, he, hb, hon⟩ := phased_spec hp hoj h hin
          exact absurd hon (hnot e he hb)
      have h2 := wpOp_putIf hoj (hfree j oj hoj hji hjun hnot) (fun cs b => hsel i oi cs b hi) (fun cs b => hsel j oj cs b hoj) hQ hy h1
      have hfree' : ∀ k ok, ops[k]? = some ok → k ≠ i → (listed.setIfInBounds j true).getD k true = false →
          (∀ e ∈ ok.after, Region.binds md e = true → e.on ≠ i) → oi.apart ops ok = true := fun k ok hk hki hun hno => by
        refine hfree k ok hk hki ?_ hno
        by_cases hjk : j = k
        · subst hjk; exact hjun
        · rw [getD_set_ne true hjk] at hun; exact hun
      refine wpOp_mono (fun a' w' h3 => ⟨h3.2.1, ih (listed.setIfInBounds j true) a' w' hfree' (ready_mono hr (Ne.symm hji)) h3.1 (h3.2.1 hjn) ?_⟩) h2
      rw [Array.setIfInBounds_comm _ _ hji]
      exact h3.2.2
/-- Number i of the first n1, which yields wherever S holds, is taken first. -/
theorem wpAnyT_take {i : Nat} {oi : Oper} {v : Value} {fuel : Nat} {listed : Array Bool} {a : Act} {w : World} (hi : ops[i]? = some oi) (hin : i < n1) (hp : phased md ops n1 = true)
    (hs : Region.noSelect ops = true) (hf : Region.free md ops listed i = true) (hr : (Region.ready md ops listed).contains i = true)
    (hQ : ∀ c a w, Q (.panic c) (a.put oi.dst v) w → Q (.panic c) a w) (hy : YieldsIf P ops S oi v a) (hS : S w)
    (h : wpAnyT P md ops Q S n1 fuel (listed.setIfInBounds i true) (a.put oi.dst v) w) : wpAnyT P md ops Q S n1 (fuel + 1) listed a w :=
  wpAnyT_first hi hin hp (Region.noSelect_spec hs) hQ fuel listed a w (Region.free_spec hi hf) (by simpa using hr) hy hS h
/-- Whichever of those that may come up comes up; S is shown anew behind it. -/
def AllReadyT (P : Program) (md : Region.Mode) (ops : Array Oper) (Q : Exit → Act → World → Prop) (S : World → Prop) (n1 fuel : Nat) (listed : Array Bool) (a : Act) (w : World) (rs : List Nat) : Prop :=
  ∀ i ∈ rs, wpOp P ops Q i (fun a' w' => (i < n1 → S w') ∧ wpAnyT P md ops Q S n1 fuel (listed.setIfInBounds i true) a' w') a w
theorem AllReadyT.nil {fuel : Nat} {listed : Array Bool} {a : Act} {w : World} : AllReadyT P md ops Q S n1 fuel listed a w [] := fun _ h => by cases h
theorem AllReadyT.cons {fuel : Nat} {listed : Array Bool} {a : Act} {w : World} {i : Nat} {o : Oper} {rs : List Nat} (ho : ops[i]? = some o)
    (h : ∀ K' : Act → World → Prop, Shut (∀ a w, S w → (S w → wpAnyT P md ops Q S n1 fuel (listed.setIfInBounds i true) a w) → K' a w) → if Region.wanted o (yielded ops a.tmps) = true then Oper.wp P o a w K' Q else K' (a.put o.dst undef) w)
    (hs : AllReadyT P md ops Q S n1 fuel listed a w rs) : AllReadyT P md ops Q S n1 fuel listed a w (i :: rs) := fun j hj => by
  rcases List.mem_cons.1 hj with rfl | hj
  · exact wpOp_step ho (fun K' hK => h K' (fun a w hS hW => hK a w ⟨fun _ => hS, hW hS⟩))
  · exact hs j hj
theorem wpAnyT_ready {rs : List Nat} {fuel : Nat} {listed : Array Bool} {a : Act} {w : World} (hr : Region.ready md ops listed = rs) (hne : rs ≠ [])
    (h : AllReadyT P md ops Q S n1 fuel listed a w rs) : wpAnyT P md ops Q S n1 (fuel + 1) listed a w := ⟨fun h0 => absurd (hr ▸ h0) hne, hr ▸ h⟩
/-- The beginning. -/
theorem wp_region_T {id : Nat} {a : Act} {w : World} (S : World → Prop) (n1 : Nat) (hm : P.follows .mixedOrders = true) (hS : S w.drew)
    (h : S w.drew → wpAnyT P .any ops Q S n1 ops.size (Array.replicate ops.size false) a w.drew) : (Code.region id ops true).wp P Q a w :=
  wp_region_any hm (wpAny_of_T _ _ _ _ (h hS))
/-- The first n1 are listed. -/
def firstUp (n1 : Nat) (listed : Array Bool) : Bool := (List.range n1).all fun i => listed.getD i true
theorem wpAnyT_rest {fuel : Nat} {listed : Array Bool} {a : Act} {w : World} (hl : firstUp n1 listed = true) (h : wpAny P md ops Q fuel listed a w) : wpAnyT P md ops Q S n1 fuel listed a w :=
  wpAnyT_of_any fuel listed a w (fun i hi => by
    unfold firstUp at hl
    rw [List.all_eq_true] at hl
    exact hl i (List.mem_range.2 hi)) h
end
section
variable {P : Program} {w : World}
end
end Go.Proofs.Yteegdbbmamabiaa

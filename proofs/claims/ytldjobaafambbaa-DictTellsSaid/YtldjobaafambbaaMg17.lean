/- The texts All4, Gw, Pn, Go, Pp, Bq, one behind the other. -/
import Derived.Test.YtldjobaafambbaaMg11
import Derived.Test.YtldjobaafambbaaMg2
import Derived.Test.YtldjobaafambbaaMg13
import Derived.Test.YtldjobaafambbaaMg3
import Derived.Test.YtldjobaafambbaaMg4
import Derived.Test.YtldjobaafambbaaMg14
import Derived.Test.YtldjobaafambbaaMg1
import Derived.Test.YtldjobaafambbaaMg15
import Derived.Test.YtldjobaafambbaaMg16
import Derived.Deep.DeepCutAuto
import Derived.Deep.LoopGhost
import Derived.Test.YtldjobaafambbaaProg
/- All that layer 4 stands on, together. -/

/- Fields are told: the project's writer, and the document's own. -/
namespace Go.Proofs.Ytldjobaafambbaa
open Go.RowKit

/-- Fields were added to what a writer had. -/
def Wrote (w0 w : World) (g : Nat) (row : Option Nat) (N len : Nat) (fs : List (Nat × Nat)) : Prop :=
  ∃ row', Wr w g row' (N * 2 ^ flen fs + fnum fs) (len + flen fs) ∧ Mod (fun i => i = g ∨ row = some i) w0 w ∧ RowTo w0 row row'
theorem num_snoc (N : Nat) (fs bs : List (Nat × Nat)) : (N * 2 ^ flen fs + fnum fs) * 2 ^ flen bs + fnum bs = N * 2 ^ flen (fs ++ bs) + fnum (fs ++ bs) := by
  rw [flen_app, fnum_app, Nat.pow_add, Nat.add_mul, Nat.mul_assoc, Nat.add_assoc]
section
variable {w0 w w' : World} {g N len : Nat} {row : Option Nat} {fs bs : List (Nat × Nat)}
theorem Wrote.refl (h : Wr w g row N len) : Wrote w w g row N len [] := ⟨row, by simpa [flen, fnum] using h, Mod.refl _ _, .inl rfl⟩
theorem Mod.more {row row' : Option Nat} {w2 : World} (h : Mod (fun i => i = g ∨ row = some i) w0 w) (hr : RowTo w0 row row') (h2 : Mod (fun i => i = g ∨ row' = some i) w w2) : Mod (fun i => i = g ∨ row = some i) w0 w2 :=
  h.trans h2 (fun _ hi h => h.elim .inl (fun e => .inr (hr.in_ e hi)))
theorem RowTo.two {row row' row2 : Option Nat} (h : RowTo w0 row row') (hs : w0.heap.size ≤ w.heap.size) (h2 : RowTo w row' row2) : RowTo w0 row row2 := by
  rcases h2 with rfl | ⟨r, rfl, hr⟩
  · exact h
  · exact .inr ⟨r, rfl, by omega⟩
theorem Wrote.app (h : Wrote w0 w g row N len fs) (h2 : ∀ row', RowTo w0 row row' → Wr w g row' (N * 2 ^ flen fs + fnum fs) (len + flen fs) → Wrote w w' g row' (N * 2 ^ flen fs + fnum fs) (len + flen fs) bs) : Wrote w0 w' g row N len (fs ++ bs) := by
  obtain ⟨row', a1, a2, a3⟩ := h
  obtain ⟨row2, b1, b2, b3⟩ := h2 row' a3 a1
  refine ⟨row2, ?_, a2.more a3 b2, a3.two a2.size b3⟩
  rw [num_snoc, Nat.add_assoc, ← flen_app] at b1
  exact b1
theorem Wrote.len_eq {fs' : List (Nat × Nat)} (h : Wrote w0 w g row N len fs) (h1 : flen fs = flen fs') (h2 : fnum fs = fnum fs') : Wrote w0 w g row N len fs' := by
  obtain ⟨row', a1, a2, a3⟩ := h
  refine ⟨row', ?_, a2, a3⟩
  rw [← h1, ← h2]
  exact a1
end
/-- Put adds one field. -/
theorem put_wrote (w0 : World) (g : Nat) (row : Option Nat) (N len k : Nat) (fs : List (Nat × Nat)) (v : Nat) (V n : Int) (w : World) (hV : V = (v : Int)) (hn : n = (k : Int)) (hk : k ≤ 64) (hv : Lt64 v) (hw : Wrote w0 w g row N len fs) (hlen : len + flen fs ≤ 1000000000) :
    Calls Try.prog 20 #[.pointer (some ⟨g, 0, none⟩), .int .u64 V, .int .i64 n] w fun e w' => e = .returned (.tuple #[]) ∧ Wrote w0 w' g row N len (fs ++ [(v, k)]) := by
  subst hV hn
  obtain ⟨row', a1, a2, a3⟩ := hw
  have hv' := hv.out
  refine (put_wr g row' _ _ k (v : Int) (k : Int) w ⟨by omega, by omega⟩ ⟨by omega, by omega⟩ (by omega) a1 hlen).mono ?_
  rintro e w' ⟨rfl, row2, b1, b2, b3⟩
  refine ⟨rfl, row2, ?_, a2.more a3 b2, a3.two a2.size b3⟩
  rw [Int.toNat_natCast] at b1
  have e1 : N * 2 ^ flen (fs ++ [(v, k)]) + fnum (fs ++ [(v, k)]) = (N * 2 ^ flen fs + fnum fs) * 2 ^ k + v % 2 ^ k := by
    rw [← num_snoc]
    show _ * 2 ^ (k + 0) + (v % 2 ^ k * 2 ^ 0 + 0) = _
    rw [Nat.add_zero, Nat.pow_zero, Nat.mul_one, Nat.add_zero]
  have e2 : len + flen (fs ++ [(v, k)]) = len + flen fs + k := by
    rw [flen_app]
    show len + (flen fs + (k + 0)) = _
    omega
  rw [e1, e2]
  exact b1

theorem app_len {fs cs bs : List (Nat × Nat)} (h : flen cs = flen bs) : flen (fs ++ cs) = flen (fs ++ bs) := by rw [flen_app, flen_app, h]
theorem app_num {fs cs bs : List (Nat × Nat)} (h1 : flen cs = flen bs) (h : fnum cs = fnum bs) : fnum (fs ++ cs) = fnum (fs ++ bs) := by rw [fnum_app, fnum_app, h, h1]
theorem add_zero' (a : Addr) : a.add 0 = a := by unfold Addr.add; simp
theorem drop_at {zs : List Int} {i : Nat} {x : Int} (h : zs[i]? = some x) : zs.drop i = x :: zs.drop (i + 1) := by
  rw [List.getElem?_eq_some_iff] at h
  obtain ⟨hi, rfl⟩ := h
  exact List.drop_eq_getElem_cons hi
theorem flen_le_app (fs cs : List (Nat × Nat)) : flen fs ≤ flen (fs ++ cs) := by rw [flen_app]; omega
theorem SeesI.at2 {k : IntKind} {w w' : World} {B n i : Nat} {A : Option Addr} {zs : List Int} (h : SeesI k w B A n zs) (hi : i < n) (hB : B ≤ w.heap.size) {S : Nat → Prop} (hm : Mod S w w') (hS : ∀ ad, A = some ad → ¬ S ad.block) :
    ∃ ad x, A = some ad ∧ zs[i]? = some x ∧ w'.cell? (ad.add i) = some (.int k x) := by
  obtain ⟨ad, e, hb, hc⟩ := h.2 (by omega)
  have hl : i < zs.length := by have := h.1; omega
  refine ⟨ad, zs[i], e, List.getElem?_eq_getElem hl, ?_⟩
  rw [hm.cell (a := ad.add i) (by rw [addr_block]; omega) (by rw [addr_block]; exact hS _ e)]
  exact hc i _ (List.getElem?_eq_getElem hl)
theorem RWr.mod {w w1 : World} {S : Nat → Prop} {g : Nat} {row : Option Nat} {N len : Nat} (h : RWr w g row N len) (hm : Mod S w w1) (h1 : ¬ S g) (h2 : ∀ k, row = some k → ¬ S k) : RWr w1 g row N len := by
  obtain ⟨v, L, hblk, hown, hrow, rest⟩ := h
  exact ⟨v, L, hm.blk hblk h1, hm.owns hown (fun k hk => h2 k (by rw [← hrow]; exact hk)), hrow, rest⟩
theorem RWr.lt {w : World} {g : Nat} {row : Option Nat} {N len : Nat} (h : RWr w g row N len) : g < w.heap.size := by
  obtain ⟨v, L, hblk, _⟩ := h
  exact hblk.lt
theorem RWr.row_lt {w : World} {g : Nat} {row : Option Nat} {N len : Nat} (h : RWr w g row N len) : ∀ k, row = some k → k < w.heap.size := by
  obtain ⟨v, L, hblk, hown, hrow, _⟩ := h
  intro k hk
  exact (hown.lt k (by rw [hrow, hk])).2
def RWrote (w0 w : World) (g : Nat) (row : Option Nat) (N len : Nat) (fs : List (Nat × Nat)) : Prop :=
  ∃ row', RWr w g row' (N * 2 ^ flen fs + fnum fs) (len + flen fs) ∧ Mod (fun i => i = g ∨ row = some i) w0 w ∧ RowTo w0 row row'
section
variable {w0 w w' : World} {g N len : Nat} {row : Option Nat} {fs bs : List (Nat × Nat)}
theorem RWrote.refl (h : RWr w g row N len) : RWrote w w g row N len [] := ⟨row, by simpa [flen, fnum] using h, Mod.refl _ _, .inl rfl⟩
theorem RWrote.drewN (h : RWrote w0 w g row N len fs) (n : Nat) : RWrote w0 (w.drewN n) g row N len fs := by
  obtain ⟨row', a1, a2, a3⟩ := h
  exact ⟨row', a1.mod ((Mod.refl (fun _ => False) w).drewN n) (fun h => h) (fun _ _ h => h), a2.drewN n, a3⟩
end
theorem rput_wrote (w0 : World) (g : Nat) (row : Option Nat) (N len k : Nat) (fs : List (Nat × Nat)) (v : Nat) (V n : Int) (w : World) (hV : V = (v : Int)) (hn : n = (k : Int)) (hk : k ≤ 64) (hv : Lt64 v) (hw : RWrote w0 w g row N len fs) (hlen : len + flen fs ≤ 1000000000) :
    Calls Try.prog 39 #[.pointer (some ⟨g, 0, none⟩), .int .u64 V, .int .i64 n] w fun e w' => e = .returned (.tuple #[]) ∧ RWrote w0 w' g row N len (fs ++ [(v, k)]) := by
  subst hV hn
  obtain ⟨row', a1, a2, a3⟩ := hw
  refine (rput_any g row' _ _ k v (k : Int) w (by omega) hv a1 hlen).mono ?_
  rintro e w' ⟨rfl, row2, b1, b2, b3⟩
  refine ⟨rfl, row2, ?_, a2.more a3 b2, a3.two a2.size b3⟩
  rw [Nat.sub_zero, Nat.pow_zero, Nat.div_one] at b1
  have e1 : N * 2 ^ flen (fs ++ [(v, k)]) + fnum (fs ++ [(v, k)]) = (N * 2 ^ flen fs + fnum fs) * 2 ^ k + v % 2 ^ k := by
    rw [← num_snoc]
    show _ * 2 ^ (k + 0) + (v % 2 ^ k * 2 ^ 0 + 0) = _
    rw [Nat.add_zero, Nat.pow_zero, Nat.mul_one, Nat.add_zero]
  have e2 : len + flen (fs ++ [(v, k)]) = len + flen fs + k := by
    rw [flen_app]
    show len + (flen fs + (k + 0)) = _
    omega
  rw [e1, e2]
  exact b1
end Go.Proofs.Ytldjobaafambbaa

/- Rows of numbers of so many bits each: what a writer of its own has been told of them; what Bytes makes of it (parted from Encode of layer 8). -/
namespace Go.Proofs.Ytldjobaafambbaa
open Go.RowKit

/-- A row that another call has made, as bytes that read. -/
theorem NewRow.rds {w w1 : World} {v : Value} {n : Nat} {bs : List Nat} (h : NewRow w w1 v n (cells8 bs)) : ∃ A c, v = .slice A n c ∧ Rds w1 w1.heap.size A n (cells8 bs) ∧ Mod (fun _ => False) w w1 := by
  obtain ⟨hown, hm, _⟩ := h
  have hn : bs.length = n := by have := hown.1; rw [cells8_length] at this; omega
  have ho : Own 0 w1 5 v (cells8 bs) := by unfold Own; rw [cells8_length, hn]; exact hown
  obtain ⟨A, c, e, _, _, hr⟩ := own_form8 ho
  rw [hn] at e hr
  exact ⟨A, c, e, hr, hm⟩
/-- What a writer of its own has been told of i numbers of S bits. -/
def FldTo (w0 w1 wr : World) (g S : Nat) (l : List Nat) (i : Nat) : Prop := Wrote w1 wr g none 0 0 (flds S (l.take i)) ∧ Mod (fun _ => False) w0 wr
theorem FldTo.step {w0 w1 wr w2 : World} {g S i x : Nat} {l : List Nat} (hx : l[i]? = some x) (_h : FldTo w0 w1 wr g S l i) (hg : w0.heap.size ≤ g) (hm : Mod (fun _ => False) w0 w1) (h2 : Wrote w1 w2 g none 0 0 (flds S (l.take i) ++ [(x, S)])) : FldTo w0 w1 w2 g S l (i + 1) := by
  refine ⟨?_, ?_⟩
  · rw [take_succ_of hx, flds_app]
    exact h2
  · obtain ⟨row', _, a2, _⟩ := h2
    exact hm.trans a2 (fun i hi h => h.elim (fun e => by omega) (fun e => by cases e))
theorem FldTo.wr {w0 w1 wr : World} {g S i n : Nat} {l : List Nat} (h : FldTo w0 w1 wr g S l i) (hn : l.length = n) (hi : i = n) : ∃ row, Wr wr g row (fnum (flds S l)) (flen (flds S l)) := by
  obtain ⟨⟨row', a1, _, _⟩, _⟩ := h
  rw [List.take_of_length_le (by omega), Nat.zero_mul, Nat.zero_add, Nat.zero_add] at a1
  exact ⟨row', a1⟩
theorem Packed.packW {bs : List Nat} {S : Nat} {l : List Nat} (h : Packed bs (fnum (flds S l)) (flen (flds S l))) : bs = packW S l := by
  obtain ⟨hlt, free, hf, hl, hv⟩ := h
  exact packW_one hlt hf hl hv
theorem flds_small {S n i : Nat} {l : List Nat} (hS : S ≤ 64) (hn : l.length ≤ n) (hn2 : n ≤ 1000000) : flen (flds S (l.take i)) ≤ 64000000 := by
  rw [flds_len]
  have h1 : (l.take i).length ≤ 1000000 := by rw [List.length_take]; omega
  have := Nat.mul_le_mul hS h1
  omega
end Go.Proofs.Ytldjobaafambbaa

/- Readers in whatever state, the project's and the document's own: what is left, or nothing. -/
namespace Go.Proofs.Ytldjobaafambbaa
open Go.RowKit

/-- A reader's state: what is left, or nothing. -/
def getO (k : Nat) : Option (Nat × Nat) → Nat × Option (Nat × Nat)
  | some (R, rem) => if k ≤ rem then (R / 2 ^ (rem - k), some (R % 2 ^ (rem - k), rem - k)) else (0, none)
  | none => (0, none)
theorem getO_none (k : Nat) : getO k none = (0, none) := rfl
theorem getO_take (k R rem : Nat) : getO k (some (R, rem)) = match takeB k R rem with | some (b, R1, rem1) => (b, some (R1, rem1)) | none => (0, none) := by
  unfold getO takeB
  by_cases h : k ≤ rem
  · simp [h]
  · simp [h]
theorem getO_lt {R rem : Nat} (h : R < 2 ^ rem) (k : Nat) : (getO k (some (R, rem))).1 < 2 ^ k := by
  unfold getO
  by_cases hk : k ≤ rem
  · simp only [hk, if_true]
    rw [Nat.div_lt_iff_lt_mul (Nat.two_pow_pos _), ← Nat.pow_add, show k + (rem - k) = rem by omega]
    exact h
  · simp only [hk, if_false]
    exact Nat.two_pow_pos k
/-- A reader's row can be taken for a real one. -/
theorem Rdr.real {w : World} {g row R rem : Nat} {ok : Bool} (h : Rdr w g row R rem ok) (hg : g ≠ 0) (h0 : 0 < w.heap.size) : ∃ row', row' < w.heap.size ∧ (row' = row ∨ row' = 0) ∧ Rdr w g row' R rem ok := by
  rcases Nat.eq_zero_or_pos rem with hr | hr
  · subst hr
    exact ⟨0, h0, .inr rfl, h.rerow (fun e => hg e.symm)⟩
  · exact ⟨row, h.row_real hr, .inl rfl, h⟩

def RdrO (w : World) (g row : Nat) : Option (Nat × Nat) → Prop
  | some (R, rem) => Rdr w g row R rem true ∧ rem ≤ 8000000
  | none => Rdr w g row 0 0 false
section
variable {w w' : World} {g row : Nat} {s : Option (Nat × Nat)}
theorem RdrO.mod {S : Nat → Prop} (h : RdrO w g row s) (hm : Mod S w w') (h1 : ¬ S g) (h2 : row < w.heap.size → ¬ S row) : RdrO w' g row s := by
  cases s with
  | none => exact Rdr.mod h hm h1 h2
  | some p => exact ⟨Rdr.mod h.1 hm h1 h2, h.2⟩
theorem RdrO.lt (h : RdrO w g row s) : g < w.heap.size := by
  cases s with
  | none => exact Rdr.lt h
  | some p => exact Rdr.lt h.1
theorem RdrO.ne (h : RdrO w g row s) : row ≠ g := by
  cases s with
  | none => obtain ⟨A, n, c, bs, used, _, _, _, h, _⟩ := h; exact h
  | some p => obtain ⟨⟨A, n, c, bs, used, _, _, _, h, _⟩, _⟩ := h; exact h
end
theorem get_o (g row k : Nat) (N : Int) (s : Option (Nat × Nat)) (w : World) (hN : N = (k : Int)) (hk : k ≤ 64) (h : RdrO w g row s) :
    Calls Try.prog 33 #[.pointer (some ⟨g, 0, none⟩), .int .i64 N] w fun e w' => e = .returned (.int .u64 ((getO k s).1 : Int)) ∧ RdrO w' g row (getO k s).2 ∧ Mod (fun i => i = g) w w' := by
  subst hN
  cases s with
  | none =>
    refine (get_ans (k : Int) k ⟨by omega, by omega⟩ (by omega) h (by omega)).mono ?_
    rintro e w' ⟨rfl, h1, h2⟩
    exact ⟨rfl, h1, h2⟩
  | some p =>
    obtain ⟨R, rem⟩ := p
    refine (get_ans (k : Int) k ⟨by omega, by omega⟩ (by omega) h.1 h.2).mono ?_
    rintro e w' ⟨rfl, h1, h2⟩
    by_cases hkr : k ≤ rem
    · rw [ans_yes hkr] at h1 ⊢
      have e1 : getO k (some (R, rem)) = (R / 2 ^ (rem - k), some (R % 2 ^ (rem - k), rem - k)) := if_pos hkr
      rw [e1]
      exact ⟨rfl, ⟨h1, by have := h.2; show rem - k ≤ 8000000; omega⟩, h2⟩
    · rw [ans_no (fun h => hkr h.2)] at h1 ⊢
      have e1 : getO k (some (R, rem)) = (0, none) := if_neg hkr
      rw [e1]
      exact ⟨rfl, h1, h2⟩

theorem RdrO.small {w : World} {g row : Nat} {s : Option (Nat × Nat)} (h : RdrO w g row s) : ∀ R rem, s = some (R, rem) → R < 2 ^ rem := by
  rintro R rem rfl
  exact h.1.small

def RRdO (w : World) (g row : Nat) (bs : List Nat) : Option (Nat × Nat) → Prop
  | some (R, rem) => RRd w g row bs R rem true ∧ R < 2 ^ rem
  | none => RRd w g row bs 0 0 false
section
variable {w w' : World} {g row : Nat} {bs : List Nat} {s : Option (Nat × Nat)}
theorem RRdO.mod {S : Nat → Prop} (h : RRdO w g row bs s) (hm : Mod S w w') (h1 : ¬ S g) (h2 : row < w.heap.size → ¬ S row) : RRdO w' g row bs s := by
  cases s with
  | none => exact RRd.mod h hm h1 h2
  | some p => exact ⟨RRd.mod h.1 hm h1 h2, h.2⟩
theorem RRd.lt' {R rem : Nat} {ok : Bool} (h : RRd w g row bs R rem ok) : g < w.heap.size := by
  obtain ⟨A, n, c, a, hblk, _⟩ := h
  exact hblk.lt
theorem RRdO.lt (h : RRdO w g row bs s) : g < w.heap.size := by
  cases s with
  | none => exact RRd.lt' h
  | some p => exact RRd.lt' h.1
theorem RRdO.flag (h : RRdO w g row bs s) : w.cell? ⟨g, 2, none⟩ = some (.bool (!s.isSome)) := by
  cases s with
  | none => exact RRd.flag h
  | some p => exact RRd.flag h.1
theorem RRdO.small (h : RRdO w g row bs s) : ∀ R rem, s = some (R, rem) → R < 2 ^ rem := by
  rintro R rem rfl
  exact h.2
end
theorem rget_o (g row k : Nat) (N : Int) (bs : List Nat) (s : Option (Nat × Nat)) (w : World) (hN : N = (k : Int)) (hk : k ≤ 64) (h : RRdO w g row bs s) :
    Calls Try.prog 41 #[.pointer (some ⟨g, 0, none⟩), .int .i64 N] w fun e w' => e = .returned (.int .u64 ((getO k s).1 : Int)) ∧ RRdO w' g row bs (getO k s).2 ∧ Mod (fun i => i = g) w w' := by
  subst hN
  cases s with
  | none =>
    refine (rget_ans (k : Int) k (by omega) h).mono ?_
    rintro e w' ⟨rfl, h1, h2⟩
    exact ⟨rfl, h1, h2⟩
  | some p =>
    obtain ⟨R, rem⟩ := p
    refine (rget_ans (k : Int) k (by omega) h.1).mono ?_
    rintro e w' ⟨rfl, h1, h2⟩
    by_cases hkr : k ≤ rem
    · rw [ans_yes hkr] at h1 ⊢
      have e1 : getO k (some (R, rem)) = (R / 2 ^ (rem - k), some (R % 2 ^ (rem - k), rem - k)) := if_pos hkr
      rw [e1]
      exact ⟨rfl, ⟨h1, Nat.mod_lt _ (Nat.two_pow_pos _)⟩, h2⟩
    · rw [ans_no (fun h => hkr h.2)] at h1 ⊢
      have e1 : getO k (some (R, rem)) = (0, none) := if_neg hkr
      rw [e1]
      exact ⟨rfl, h1, h2⟩

theorem RRd.real {w : World} {g row R rem : Nat} {bs : List Nat} {ok : Bool} (h : RRd w g row bs R rem ok) (hg : g ≠ 0) (h0 : 0 < w.heap.size) : ∃ row', row' < w.heap.size ∧ (row' = row ∨ row' = 0) ∧ RRd w g row' bs R rem ok := by
  have h' := h
  obtain ⟨A, n, c, a, hblk, hs, hne, rest⟩ := h
  rcases Nat.eq_zero_or_pos n with hn | hn
  · subst hn
    exact ⟨0, h0, .inr rfl, A, 0, c, a, hblk, ⟨hs.1, fun h => by omega⟩, fun e => hg e.symm, rest⟩
  · obtain ⟨o, _, hl, _⟩ := hs.2 hn
    exact ⟨row, hl, .inl rfl, h'⟩
end Go.Proofs.Ytldjobaafambbaa

/- The document's own: numbers of so many bits each are packed behind bytes, and unpacked. -/
namespace Go.Proofs.Ytldjobaafambbaa
open Go.RowKit

/-- What the document's writer has been told of i numbers of S bits. -/
def RFldTo (w0 w1 wr : World) (g S : Nat) (l : List Nat) (i : Nat) : Prop := RWrote w1 wr g none 0 0 (flds S (l.take i)) ∧ Mod (fun _ => False) w0 wr
theorem RFldTo.step {w0 w1 wr w2 : World} {g S i x : Nat} {l : List Nat} (hx : l[i]? = some x) (_h : RFldTo w0 w1 wr g S l i) (hg : w0.heap.size ≤ g) (hm : Mod (fun _ => False) w0 w1) (h2 : RWrote w1 w2 g none 0 0 (flds S (l.take i) ++ [(x, S)])) : RFldTo w0 w1 w2 g S l (i + 1) := by
  refine ⟨?_, ?_⟩
  · rw [take_succ_of hx, flds_app]
    exact h2
  · obtain ⟨row', _, a2, _⟩ := h2
    exact hm.trans a2 (fun i hi h => h.elim (fun e => by omega) (fun e => by cases e))
theorem RFldTo.wr {w0 w1 wr : World} {g S i n : Nat} {l : List Nat} (h : RFldTo w0 w1 wr g S l i) (hn : l.length = n) (hi : i = n) : ∃ row, RWr wr g row (fnum (flds S l)) (flen (flds S l)) := by
  obtain ⟨⟨row', a1, _, _⟩, _⟩ := h
  rw [List.take_of_length_le (by omega), Nat.zero_mul, Nat.zero_add, Nat.zero_add] at a1
  exact ⟨row', a1⟩
set_option maxHeartbeats 4000000 in
set_option maxRecDepth 100000 in
theorem rpack_any (A0 A1 : Option Addr) (n0 c0 n1 c1 B S : Nat) (hd l : List Nat) (w : World) (h0 : Rds w B A0 n0 (cells8 hd)) (h1 : Rds w B A1 n1 (cellsU l)) (hB : B ≤ w.heap.size) (hl : ∀ x ∈ l, x < 2 ^ 64) (hS : S ≤ 64) (hn0 : n0 ≤ 1000000) (hn1 : n1 ≤ 1000000) :
    Calls Try.prog 25 #[.slice A0 n0 c0, .slice A1 n1 c1, .int .i64 (S : Int)] w fun e w' => ∃ v, e = .returned v ∧ Own w.heap.size w' 5 v (cells8 (hd ++ packW S l)) ∧ Mod (fun _ => False) w w' := by
  have hhl : hd.length = n0 := by have := h0.1; rwa [cells8_length] at this
  have hll : l.length = n1 := by have := h1.1; rwa [cellsU_length] at this
  obtain ⟨W, hW⟩ : ∃ W, W = w.alloc (.cells #[.slice none 0 0] 75) := ⟨_, rfl⟩
  have hmW : Mod (fun _ => False) w W := by rw [hW]; exact (Mod.refl _ _).alloc _
  have hrw : RWr W w.heap.size none 0 0 := by
    refine ⟨.slice none 0 0, [], ?_, World.ownsRow_nil _ _ _ _, rfl, (fun _ h => by cases h), rfl, rfl⟩
    rw [hW]
    exact Blk.new _ _ _
  have F0 : Hid (RFldTo w W W w.heap.size S l 0) := Lib.hid ⟨RWrote.refl hrw, hmW⟩
  have H0 := Lib.hid h0; have H1 := Lib.hid h1; have HB := Lib.hid hB; have Hl := Lib.hid hl; have Hhl := Lib.hid hhl; have Hll := Lib.hid hll; have HW := Lib.hid hW; have HmW := Lib.hid hmW
  clear h0 h1 hB hl hhl hll hW hmW hrw
  go_enter Try.func25, Try.ntmps25
  go_wp2_with fail
  rw [← HW.out]
  go_loopg [8] n1 (fun l' s8 wr => ∃ i : Nat, i + l' = n1 ∧ s8 = .int .i64 (i : Int) ∧ RFldTo w W wr w.heap.size S l i)
  case atStart => exact ⟨0, by omega, rfl, F0.out⟩
  case round =>
    obtain ⟨i, hil, rfl, hF⟩ := hrel
    have HF := Lib.hid hF; have Hil := Lib.hid hil
    clear hF hil F0 HW
    by_cases hin : i < n1
    · obtain ⟨ad, x, rfl, hx, hcx⟩ := H1.out.at2 hin HB.out HF.out.2 (fun _ _ h => h)
      have hx64 : Hid (Lt64 x) := Lib.hid (by have := Hl.out x (List.mem_of_getElem? hx); unfold Lt64; omega)
      have Hx := Lib.hid hx
      have hi1 : (0 : Int) ≤ (i : Int) := by omega
      clear hx
      go_wp2_with fail
      refine (rput_wrote W w.heap.size none 0 0 S _ x _ _ wr rfl rfl hS hx64.out HF.out.1 (by have := flds_small (i := i) hS (Nat.le_of_eq Hll.out) hn1; omega)).mono ?_
      rintro e w2 ⟨rfl, h2⟩
      have HF2 : Hid (RFldTo w W w2 w.heap.size S l (i + 1)) := Lib.hid (HF.out.step Hx.out (Nat.le_refl _) HmW.out h2)
      clear h2
      go_wp2_with fail
      go_roundg (gk - 1)
      case measure => have := Hil.out; omega
      case rel => exact ⟨i + 1, by have := Hil.out; omega, by go_num, HF2.out⟩
    · have hi : i = n1 := by have := Hil.out; omega
      obtain ⟨row, hwr⟩ := HF.out.wr Hll.out hi
      have Hwr := Lib.hid hwr; have Hmr := Lib.hid HF.out.2
      have hr1 : ([] : List Value).length + n0 ≤ maxLen := by unfold maxLen; simp; omega
      have hr2 : (([] : List Value).length + n0) * 1 ≤ 140737488355328 := by simp; omega
      have h0m : (0 : Nat) ≤ maxLen := Nat.zero_le _
      have Hr0 : Hid (Rds wr wr.heap.size A0 n0 (cells8 hd)) := Lib.hid ((H0.out.mod Hmr.out HB.out (fun _ _ h => h)).more (Nat.le_trans HB.out Hmr.out.size))
      clear hwr HF hi
      obtain ⟨wo, rfl⟩ : ∃ wo : World, wo = wr := ⟨_, rfl⟩
      go_wp2_with (at_builtin; refine wpList_app rfl (.tmp 24) (.tmp 25) _ rfl elt8 rfl (Own.lit wo 5 #[] h0m) rfl (Hr0.out.alloc (Nat.le_refl _) _) (cells8_one hd) hr1 hr2 (le_alloc _ _) ?_; intro v3 w3 HO3 HBl3 HG3; clear HG3)
      have hbel : Below wo.heap.size wo w3 := ((Below.refl _ _).alloc (Nat.le_refl _) _).trans HBl3.out
      have hwr3 : RWr w3 w.heap.size row (fnum (flds S l)) (flen (flds S l)) := Hwr.out.mod (Mod.of_below hbel) (by have := Hwr.out.lt; omega) (fun k hk h => by have := Hwr.out.row_lt k hk; omega)
      have Ho3 : Hid (Own wo.heap.size w3 5 v3 (cells8 hd)) := Lib.hid HO3.out
      have Hwr3 := Lib.hid hwr3
      have Hm3 := Lib.hid (Hmr.out.trans (mod_below hbel) (fun _ _ h => h))
      have hsz3 := hbel.size
      clear hwr3 hbel HO3 HBl3 hr1 hr2
      go_wp2_with fail
      refine (rbytes_any w.heap.size row _ _ w3 Hwr3.out (by have := flds_small (i := n1) (l := l) hS (Nat.le_of_eq Hll.out) hn1; rw [List.take_of_length_le (by rw [Hll.out]; exact Nat.le_refl _)] at this; omega)).mono ?_
      rintro e w4 ⟨v4, bs, rfl, hnew, hpk⟩
      obtain ⟨A4, c4, rfl, hr4, hm4⟩ := hnew.rds
      obtain rfl := hpk.packW
      have Hr4 := Lib.hid hr4; have Ho4 := Lib.hid (Ho3.out.mod hm4); have Hm4 := Lib.hid (Hm3.out.trans hm4 (fun _ _ h => h))
      have hpl : (packW S l).length ≤ 8000001 := by rw [packW_len, Hll.out]; have := Nat.mul_le_mul hS hn1; omega
      have Hone : Hid (∀ u ∈ cells8 (packW S l), u.oneCell' = true) := Lib.hid (cells8_one _)
      have hR4 : Room (cells8 hd).length (packW S l).length := Room.mk _ _ (by rw [cells8_length, Hhl.out]; omega)
      have HR4 := Lib.hid hR4
      have hsz4 : wo.heap.size ≤ w4.heap.size := Nat.le_trans hsz3 hm4.size
      clear hnew hpk hr4 hm4 hR4 hpl
      go_wp2_with (at_builtin; refine wpList_app rfl (.tmp 26) (.tmp 28) _ rfl elt8 rfl Ho4.out rfl Hr4.out Hone.out HR4.out.1 HR4.out.2 hsz4 ?_; intro v5 w5 HO5 HBl5 HG5; clear HG5)
      go_ret
      have ho5 := HO5.out
      rw [cells8_app] at ho5
      exact ⟨_, rfl, ho5.mono Hmr.out.size, Hm4.out.trans (Mod.of_below HBl5.out) (fun i hi h => by have := Hmr.out.size; omega)⟩
theorem rd1_getO (k : Nat) (s : Option (Nat × Nat)) : rd1 k s = getO k s := by
  cases s with
  | none => rfl
  | some p =>
    obtain ⟨R, rem⟩ := p
    rw [getO_take]
    rfl
theorem getO_lt64 {k : Nat} {s : Option (Nat × Nat)} (hk : k ≤ 64) (hs : ∀ R rem, s = some (R, rem) → R < 2 ^ rem) : (getO k s).1 < 2 ^ 64 := by
  cases s with
  | none => exact Nat.two_pow_pos 64
  | some p =>
    obtain ⟨R, rem⟩ := p
    exact Nat.lt_of_lt_of_le (getO_lt (hs R rem rfl) k) (Nat.pow_le_pow_right (by omega) hk)
theorem rdW_next (w n : Nat) (s : Option (Nat × Nat)) : rdW w (n + 1) s = rdW w n s ++ [(getO w (lfW w n s)).1] := by rw [rdW_snoc, rd1_getO]
theorem lfW_next (w n : Nat) (s : Option (Nat × Nat)) : lfW w (n + 1) s = (getO w (lfW w n s)).2 := by rw [lfW_succ, rd1_getO]
/-- What unpack has read of i numbers. -/
def UnpTo (w wr : World) (g row S : Nat) (bs : List Nat) (s0 : Option (Nat × Nat)) (i : Nat) (v : Value) : Prop :=
  Own (w.heap.size + 1) wr 32 v (cellsU (rdW S i s0)) ∧ RRdO wr g row bs (lfW S i s0) ∧ Mod (fun _ => False) w wr
set_option maxHeartbeats 4000000 in
set_option maxRecDepth 100000 in
theorem runpack_any (A : Option Addr) (n c B N S : Nat) (bs : List Nat) (w : World) (hs : Rds w B A n (cells8 bs)) (hB : B ≤ w.heap.size) (hlt : lt256 bs) (hn : n ≤ 1000000) (hN : N ≤ 65535) (hS : S ≤ 64) (hw : 0 < w.heap.size) :
    Calls Try.prog 29 #[.slice A n c, .int .i64 (N : Int), .int .i64 (S : Int)] w fun e w' => ∃ v, e = .returned v ∧ Own w.heap.size w' 32 v (cellsU (rdW S N (some (val bs, 8 * bs.length)))) ∧ Mod (fun _ => False) w w' := by
  have hbl : bs.length = n := by have := hs.1; rwa [cells8_length] at this
  obtain ⟨row, hsee, hrow⟩ := (hs.more hB).sees hw
  obtain ⟨s0, hs0⟩ : ∃ s0, s0 = some (val bs, 8 * bs.length) := ⟨_, rfl⟩
  rw [← hs0]
  obtain ⟨W, hW⟩ : ∃ W, W = w.alloc (.cells #[.slice A n c, .int .i64 0, .bool false] 78) := ⟨_, rfl⟩
  have hmW : Mod (fun _ => False) w W := by rw [hW]; exact (Mod.refl _ _).alloc _
  have hval : val bs < 2 ^ (8 * bs.length) := val_lt hlt
  have hrr : RRdO W w.heap.size row bs s0 := by
    rw [hs0]
    refine ⟨⟨A, n, c, 0, ?_, hsee.mod hmW (fun _ h => h), by omega, by omega, hn, hlt, (fun _ => ⟨by rw [hbl]; omega, (Nat.mod_eq_of_lt hval).symm⟩), fun h => by cases h⟩, hval⟩
    rw [hW]
    exact Blk.new _ _ _
  have U0 : Hid (UnpTo w W w.heap.size row S bs s0 0 (.slice none 0 0)) := Lib.hid ⟨Own.nil _ _ _, hrr, hmW⟩
  have Hrow := Lib.hid hrow; have HW := Lib.hid hW
  clear hs hB hlt hsee hval hrow hrr hmW hW hs0
  go_enter Try.func29, Try.ntmps29
  go_wp2_with fail
  rw [← HW.out]
  go_loopg [8, 9] N (fun l s8 s9 wr => ∃ i : Nat, i + l = N ∧ s9 = .int .i64 (i : Int) ∧ UnpTo w wr w.heap.size row S bs s0 i s8)
  case atStart => exact ⟨0, by omega, rfl, U0.out⟩
  case round =>
    obtain ⟨i, hil, rfl, hown, hrr, hm⟩ := hrel
    have Hown := Lib.hid hown; have Hrr := Lib.hid hrr; have Hm := Lib.hid hm; have Hil := Lib.hid hil
    clear hown hrr hm hil U0 HW
    by_cases hin : i < N
    · go_wp2_with fail
      refine (rget_o w.heap.size row S _ bs _ wr rfl hS Hrr.out).mono ?_
      rintro e w2 ⟨rfl, h2, hm2⟩
      obtain ⟨x, hx⟩ : ∃ x, x = (getO S (lfW S i s0)).1 := ⟨_, rfl⟩
      rw [← hx]
      have Hx : Hid (rdW S (i + 1) s0 = rdW S i s0 ++ [x]) := Lib.hid (by rw [hx]; exact rdW_next S i s0)
      rw [← lfW_next] at h2
      have Hrr2 := Lib.hid h2
      have Hown2 : Hid (Own (w.heap.size + 1) w2 32 u8 (cellsU (rdW S i s0))) := Lib.hid (hm2.owns Hown.out (fun k hk e => by have := (Hown.out.block k hk).1; omega))
      have Hm2 := Lib.hid (Hm.out.trans hm2 (fun i hi h => by omega))
      have hsz : w.heap.size + 1 ≤ w2.heap.size := by have := h2.lt; omega
      have hr1 : (cellsU (rdW S i s0)).length + 1 ≤ maxLen := by rw [cellsU_length, rdW_len]; unfold maxLen; omega
      have hr2 : ((cellsU (rdW S i s0)).length + 1) * 8 ≤ 140737488355328 := by rw [cellsU_length, rdW_len]; omega
      have Hr1 := Lib.hid hr1; have Hr2 := Lib.hid hr2
      clear hx h2 hm2 hr1 hr2 Hown Hrr Hm
      go_wp2_with (at_builtin; refine wpList_app1 rfl (.tmp 18) (.tmp 22) _ rfl eltU rfl Hown2.out rfl rfl rfl Hr1.out Hr2.out hsz ?_; intro v' w3 HO HBl)
      have HU : Hid (UnpTo w w3 w.heap.size row S bs s0 (i + 1) v') := Lib.hid ⟨by rw [Hx.out, cellsU_snoc]; exact HO.out, Hrr2.out.mod (Mod.of_below HBl.out) (by omega) (fun _ => by have := Hrow.out; omega), Hm2.out.trans (Mod.of_below HBl.out) (fun i hi h => by omega)⟩
      clear HO HBl
      go_roundg (gk - 1)
      case measure => have := Hil.out; omega
      case rel => exact ⟨i + 1, by have := Hil.out; omega, by go_num, HU.out⟩
    · have hi : i = N := by have := Hil.out; omega
      subst hi
      go_wp2_with fail
      go_ret
      exact ⟨_, rfl, Hown.out.mono (by omega), Hm.out⟩
end Go.Proofs.Ytldjobaafambbaa

/- Get with a size that may be too great; bytes.Equal (parted from layer 8's Decode). -/
namespace Go.Proofs.Ytldjobaafambbaa
open Go.RowKit

theorem get_oh (g row k : Nat) (N : Int) (s : Option (Nat × Nat)) (w : World) (hN : FitI N) (hk : max 0 (min N 64) = (k : Int)) (h : RdrO w g row s) :
    Calls Try.prog 33 #[.pointer (some ⟨g, 0, none⟩), .int .i64 N] w fun e w' => e = .returned (.int .u64 ((getO k s).1 : Int)) ∧ RdrO w' g row (getO k s).2 ∧ Mod (fun i => i = g) w w' := by
  cases s with
  | none =>
    refine (get_ans N k hN hk h (by omega)).mono ?_
    rintro e w' ⟨rfl, h1, h2⟩
    exact ⟨rfl, h1, h2⟩
  | some p =>
    obtain ⟨R, rem⟩ := p
    refine (get_ans N k hN hk h.1 h.2).mono ?_
    rintro e w' ⟨rfl, h1, h2⟩
    by_cases hkr : k ≤ rem
    · rw [ans_yes hkr] at h1 ⊢
      have e1 : getO k (some (R, rem)) = (R / 2 ^ (rem - k), some (R % 2 ^ (rem - k), rem - k)) := if_pos hkr
      rw [e1]
      exact ⟨rfl, ⟨h1, by have := h.2; show rem - k ≤ 8000000; omega⟩, h2⟩
    · rw [ans_no (fun h => hkr h.2)] at h1 ⊢
      have e1 : getO k (some (R, rem)) = (0, none) := if_neg hkr
      rw [e1]
      exact ⟨rfl, h1, h2⟩
/-- bytes.Equal. -/
theorem bequal_any (A A2 : Option Addr) (n n2 c c2 B B2 : Nat) (xs bs : List Nat) (w : World) (h1 : Rds w B A n (cells8 xs)) (h2 : Rds w B2 A2 n2 (cells8 bs)) (l1 : lt256 xs) (l2 : lt256 bs) :
    Calls Try.prog 17 #[.slice A n c, .slice A2 n2 c2] w fun e w' => e = .returned (.bool (decide (xs = bs))) ∧ Mod (fun _ => False) w w' := by
  obtain ⟨s1, hs1⟩ : ∃ s1, strOf xs = s1 := ⟨_, rfl⟩
  obtain ⟨s2, hs2⟩ : ∃ s2, strOf bs = s2 := ⟨_, rfl⟩
  have c1 := fun c => conv_rds (P := Try.prog) (c := c) Try.underlying27 Try.underlying5 Try.underlying9 w h1 l1
  have c2' := fun c => conv_rds (P := Try.prog) (c := c) Try.underlying27 Try.underlying5 Try.underlying9 w h2 l2
  rw [hs1] at c1
  rw [hs2] at c2'
  have hq : (s1.toList == s2.toList) = decide (xs = bs) := by
    by_cases h : xs = bs
    · have e : s1 = s2 := by rw [← hs1, ← hs2, h]
      rw [e, decide_eq_true h, beq_self_eq_true]
    · rw [decide_eq_false h, beq_eq_false_iff_ne]
      intro e
      rw [ByteArray.toList_eq, ByteArray.toList_eq] at e
      exact h (strOf_inj l1 l2 (by rw [hs1, hs2]; exact ByteArray.ext (Array.toList_inj.1 e)))
  obtain ⟨b, hb⟩ : ∃ b, decide (xs = bs) = b := ⟨_, rfl⟩
  rw [hb] at hq ⊢
  clear h1 h2 l1 l2 hs1 hs2 hb
  go_enter Try.func17, Try.ntmps17
  go_wp2_with fail
  go_ret
  exact ⟨rfl, Mod.refl _ _⟩
/-- What the document tells, and that it is these bytes, or not, as strings. -/
theorem str_ne {xs bs : List Nat} {s1 s2 : ByteArray} {b : Bool} (h1 : strOf xs = s1) (h2 : strOf bs = s2) (l1 : lt256 xs) (l2 : lt256 bs) (hb : decide (xs = bs) = b) : (s1.toList == s2.toList) = b ∧ (s1.toList != s2.toList) = !b := by
  have hq : (s1.toList == s2.toList) = b := by
    rw [← hb]
    by_cases h : xs = bs
    · have e : s1 = s2 := by rw [← h1, ← h2, h]
      rw [e, decide_eq_true h, beq_self_eq_true]
    · rw [decide_eq_false h, beq_eq_false_iff_ne]
      intro e
      rw [ByteArray.toList_eq, ByteArray.toList_eq] at e
      exact h (strOf_inj l1 l2 (by rw [h1, h2]; exact ByteArray.ext (Array.toList_inj.1 e)))
  exact ⟨hq, by unfold bne; rw [hq]⟩
end Go.Proofs.Ytldjobaafambbaa

/- Fields are told: the project's writer, and the document's own. -/
import Derived.Test.YtldjobaafambbaaAll4
import Derived.Test.YtldjobaafambbaaRefw
namespace Go.Proofs.Ytldjobaafambbaa
open Go.RowKit

/-- Fields were added to what a writer had. -/
def Wrote (w0 w : World) (g : Nat) (row : Option Nat) (N len : Nat) (fs : List (Nat × Nat)) : Prop :=
  ∃ row', Wr w g row' (N * 2 ^ flen fs + fnum fs) (len + flen fs) ∧ Mod (fun i => i = g ∨ row = some i) w0 w ∧ RowTo w0 row row'
theorem num_snoc (N : Nat) (fs bs : List (Nat × Nat)) : (N * 2 ^ flen fs + fnum fs) * 2 ^ flen bs + fnum bs = N * 2 ^ flen (fs ++ bs) + fnum (fs ++ bs) := by
  rw [flen_app, fnum_app, Nat.pow_add, Nat.add_mul, Nat.mul_assoc, Nat.add_assoc]
section
variable {w0 w w' : World} {g N len : Nat} {row : Option Nat} {fs bs : List (Nat × Nat)}
theorem Wrote.refl (h : Wr w g row N len) : Wrote w w g row N len [] := ⟨row, by simpa [flen, fnum] using h, Mod.refl _ _, .inl rfl⟩
theorem Mod.more {row row' : Option Nat} {w2 : World} (h : Mod (fun i => i = g ∨ row = some i) w0 w) (hr : RowTo w0 row row') (h2 : Mod (fun i => i = g ∨ row' = some i) w w2) : Mod (fun i => i = g ∨ row = some i) w0 w2 :=
  h.trans h2 (fun _ hi h => h.elim .inl (fun e => .inr (hr.in_ e hi)))
theorem RowTo.two {row row' row2 : Option Nat} (h : RowTo w0 row row') (hs : w0.heap.size ≤ w.heap.size) (h2 : RowTo w row' row2) : RowTo w0 row row2 := by
  rcases h2 with rfl | ⟨r, rfl, hr⟩
  · exact h
  · exact .inr ⟨r, rfl, by omega⟩
theorem Wrote.app (h : Wrote w0 w g row N len fs) (h2 : ∀ row', RowTo w0 row row' → Wr w g row' (N * 2 ^ flen fs + fnum fs) (len + flen fs) → Wrote w w' g row' (N * 2 ^ flen fs + fnum fs) (len + flen fs) bs) : Wrote w0 w' g row N len (fs ++ bs) := by
  obtain ⟨row', a1, a2, a3⟩ := h
  obtain ⟨row2, b1, b2, b3⟩ := h2 row' a3 a1
  refine ⟨row2, ?_, a2.more a3 b2, a3.two a2.size b3⟩
  rw [num_snoc, Nat.add_assoc, ← flen_app] at b1
  exact b1
theorem Wrote.len_eq {fs' : List (Nat × Nat)} (h : Wrote w0 w g row N len fs) (h1 : flen fs = flen fs') (h2 : fnum fs = fnum fs') : Wrote w0 w g row N len fs' := by
  obtain ⟨row', a1, a2, a3⟩ := h
  refine ⟨row', ?_, a2, a3⟩
  rw [← h1, ← h2]
  exact a1
end
/-- Put adds one field. -/
theorem put_wrote (w0 : World) (g : Nat) (row : Option Nat) (N len k : Nat) (fs : List (Nat × Nat)) (v : Nat) (V n : Int) (w : World) (hV : V = (v : Int)) (hn : n = (k : Int)) (hk : k ≤ 64) (hv : Lt64 v) (hw : Wrote w0 w g row N len fs) (hlen : len + flen fs ≤ 1000000000) :
    Calls Try.prog 20 #[.pointer (some ⟨g, 0, none⟩), .int .u64 V, .int .i64 n] w fun e w' => e = .returned (.tuple #[]) ∧ Wrote w0 w' g row N len (fs ++ [(v, k)]) := by
  subst hV hn
  obtain ⟨row', a1, a2, a3⟩ := hw
  have hv' := hv.out
  refine (put_wr g row' _ _ k (v : Int) (k : Int) w ⟨by omega, by omega⟩ ⟨by omega, by omega⟩ (by omega) a1 hlen).mono ?_
  rintro e w' ⟨rfl, row2, b1, b2, b3⟩
  refine ⟨rfl, row2, ?_, a2.more a3 b2, a3.two a2.size b3⟩
  rw [Int.toNat_natCast] at b1
  have e1 : N * 2 ^ flen (fs ++ [(v, k)]) + fnum (fs ++ [(v, k)]) = (N * 2 ^ flen fs + fnum fs) * 2 ^ k + v % 2 ^ k := by
    rw [← num_snoc]
    show _ * 2 ^ (k + 0) + (v % 2 ^ k * 2 ^ 0 + 0) = _
    rw [Nat.add_zero, Nat.pow_zero, Nat.mul_one, Nat.add_zero]
  have e2 : len + flen (fs ++ [(v, k)]) = len + flen fs + k := by
    rw [flen_app]
    show len + (flen fs + (k + 0)) = _
    omega
  rw [e1, e2]
  exact b1

theorem app_len {fs cs bs : List (Nat × Nat)} (h : flen cs = flen bs) : flen (fs ++ cs) = flen (fs ++ bs) := by rw [flen_app, flen_app, h]
theorem app_num {fs cs bs : List (Nat × Nat)} (h1 : flen cs = flen bs) (h : fnum cs = fnum bs) : fnum (fs ++ cs) = fnum (fs ++ bs) := by rw [fnum_app, fnum_app, h, h1]
theorem add_zero' (a : Addr) : a.add 0 = a := by unfold Addr.add; simp
theorem drop_at {zs : List Int} {i : Nat} {x : Int} (h : zs[i]? = some x) : zs.drop i = x :: zs.drop (i + 1) := by
  rw [List.getElem?_eq_some_iff] at h
  obtain ⟨hi, rfl⟩ := h
  exact List.drop_eq_getElem_cons hi
theorem flen_le_app (fs cs : List (Nat × Nat)) : flen fs ≤ flen (fs ++ cs) := by rw [flen_app]; omega
theorem SeesI.at2 {k : IntKind} {w w' : World} {B n i : Nat} {A : Option Addr} {zs : List Int} (h : SeesI k w B A n zs) (hi : i < n) (hB : B ≤ w.heap.size) {S : Nat → Prop} (hm : Mod S w w') (hS : ∀ ad, A = some ad → ¬ S ad.block) :
    ∃ ad x, A = some ad ∧ zs[i]? = some x ∧ w'.cell? (ad.add i) = some (.int k x) := by
  obtain ⟨ad, e, hb, hc⟩ := h.2 (by omega)
  have hl : i < zs.length := by have := h.1; omega
  refine ⟨ad, zs[i], e, List.getElem?_eq_getElem hl, ?_⟩
  rw [hm.cell (a := ad.add i) (by rw [addr_block]; omega) (by rw [addr_block]; exact hS _ e)]
  exact hc i _ (List.getElem?_eq_getElem hl)
theorem RWr.mod {w w1 : World} {S : Nat → Prop} {g : Nat} {row : Option Nat} {N len : Nat} (h : RWr w g row N len) (hm : Mod S w w1) (h1 : ¬ S g) (h2 : ∀ k, row = some k → ¬ S k) : RWr w1 g row N len := by
  obtain ⟨v, L, hblk, hown, hrow, rest⟩ := h
  exact ⟨v, L, hm.blk hblk h1, hm.owns hown (fun k hk => h2 k (by rw [← hrow]; exact hk)), hrow, rest⟩
theorem RWr.lt {w : World} {g : Nat} {row : Option Nat} {N len : Nat} (h : RWr w g row N len) : g < w.heap.size := by
  obtain ⟨v, L, hblk, _⟩ := h
  exact hblk.lt
theorem RWr.row_lt {w : World} {g : Nat} {row : Option Nat} {N len : Nat} (h : RWr w g row N len) : ∀ k, row = some k → k < w.heap.size := by
  obtain ⟨v, L, hblk, hown, hrow, _⟩ := h
  intro k hk
  exact (hown.lt k (by rw [hrow, hk])).2
def RWrote (w0 w : World) (g : Nat) (row : Option Nat) (N len : Nat) (fs : List (Nat × Nat)) : Prop :=
  ∃ row', RWr w g row' (N * 2 ^ flen fs + fnum fs) (len + flen fs) ∧ Mod (fun i => i = g ∨ row = some i) w0 w ∧ RowTo w0 row row'
section
variable {w0 w w' : World} {g N len : Nat} {row : Option Nat} {fs bs : List (Nat × Nat)}
theorem RWrote.refl (h : RWr w g row N len) : RWrote w w g row N len [] := ⟨row, by simpa [flen, fnum] using h, Mod.refl _ _, .inl rfl⟩
theorem RWrote.drewN (h : RWrote w0 w g row N len fs) (n : Nat) : RWrote w0 (w.drewN n) g row N len fs := by
  obtain ⟨row', a1, a2, a3⟩ := h
  exact ⟨row', a1.mod ((Mod.refl (fun _ => False) w).drewN n) (fun h => h) (fun _ _ h => h), a2.drewN n, a3⟩
end
theorem rput_wrote (w0 : World) (g : Nat) (row : Option Nat) (N len k : Nat) (fs : List (Nat × Nat)) (v : Nat) (V n : Int) (w : World) (hV : V = (v : Int)) (hn : n = (k : Int)) (hk : k ≤ 64) (hv : Lt64 v) (hw : RWrote w0 w g row N len fs) (hlen : len + flen fs ≤ 1000000000) :
    Calls Try.prog 39 #[.pointer (some ⟨g, 0, none⟩), .int .u64 V, .int .i64 n] w fun e w' => e = .returned (.tuple #[]) ∧ RWrote w0 w' g row N len (fs ++ [(v, k)]) := by
  subst hV hn
  obtain ⟨row', a1, a2, a3⟩ := hw
  refine (rput_any g row' _ _ k v (k : Int) w (by omega) hv a1 hlen).mono ?_
  rintro e w' ⟨rfl, row2, b1, b2, b3⟩
  refine ⟨rfl, row2, ?_, a2.more a3 b2, a3.two a2.size b3⟩
  rw [Nat.sub_zero, Nat.pow_zero, Nat.div_one] at b1
  have e1 : N * 2 ^ flen (fs ++ [(v, k)]) + fnum (fs ++ [(v, k)]) = (N * 2 ^ flen fs + fnum fs) * 2 ^ k + v % 2 ^ k := by
    rw [← num_snoc]
    show _ * 2 ^ (k + 0) + (v % 2 ^ k * 2 ^ 0 + 0) = _
    rw [Nat.add_zero, Nat.pow_zero, Nat.mul_one, Nat.add_zero]
  have e2 : len + flen (fs ++ [(v, k)]) = len + flen fs + k := by
    rw [flen_app]
    show len + (flen fs + (k + 0)) = _
    omega
  rw [e1, e2]
  exact b1
end Go.Proofs.Ytldjobaafambbaa

import Derived.Test.YtldjobaafambbaaBitg
namespace Go.Proofs.Ytldjobaafambbaa
open Go.RowKit

/-- Put, as its callers take it. -/
theorem put_wr (g : Nat) (row : Option Nat) (N len k : Nat) (v n : Int) (w : World) (hn : FitI n) (hv : Fit64 v) (hk : max 0 (min n 64) = (k : Int)) (hw : Wr w g row N len) (hlen : len ≤ 1000000000) :
    Calls Try.prog 20 #[.pointer (some ⟨g, 0, none⟩), .int .u64 v, .int .i64 n] w fun e w' => e = .returned (.tuple #[]) ∧
      ∃ row', Wr w' g row' (N * 2 ^ k + v.toNat % 2 ^ k) (len + k) ∧ Mod (fun i => i = g ∨ row = some i) w w' ∧ RowTo w row row' := by
  refine (put_any g row N len v n w hn hv hw hlen).mono ?_
  rintro e w' ⟨rfl, row', h1, h2, h3⟩
  rw [hk, Int.toNat_natCast, Nat.sub_zero, Nat.pow_zero, Nat.div_one] at h1
  exact ⟨rfl, row', h1, h2, h3⟩

theorem newWriter_wr (w : World) :
    Calls Try.prog 19 #[] w fun e w' => ∃ g, e = .returned (.pointer (some ⟨g, 0, none⟩)) ∧ w.heap.size ≤ g ∧ g < w'.heap.size ∧ Wr w' g none 0 0 ∧ Mod (fun _ => False) w w' := by
  refine (newWriter_any w).mono ?_
  rintro e w' ⟨rfl, rfl⟩
  exact ⟨_, rfl, Nat.le_refl _, by simp, ⟨0, by omega, .slice none 0 0, [], Blk.new _ _ _, World.ownsRow_nil _ _ _ _, rfl, lt256_nil, rfl, rfl, by omega⟩, (Mod.refl _ _).alloc _⟩

theorem Rdr.mod {w w1 : World} {S : Nat → Prop} {g row R rem : Nat} {ok : Bool} (h : Rdr w g row R rem ok) (hm : Mod S w w1) (h1 : ¬ S g) (h2 : row < w.heap.size → ¬ S row) : Rdr w1 g row R rem ok := by
  obtain ⟨A, n, c, bs, used, hblk, hnc, hs, rest⟩ := h
  exact ⟨A, n, c, bs, used, hm.blk hblk h1, hnc, hs.mod hm h2, rest⟩
theorem Wr.mod {w w1 : World} {S : Nat → Prop} {g : Nat} {row : Option Nat} {N len : Nat} (h : Wr w g row N len) (hm : Mod S w w1) (h1 : ¬ S g) (h2 : ∀ k, row = some k → ¬ S k) : Wr w1 g row N len := by
  obtain ⟨free, hf, v, bs, hblk, hown, hrow, rest⟩ := h
  exact ⟨free, hf, v, bs, hm.blk hblk h1, hm.owns hown (fun k hk => h2 k (by rw [← hrow]; exact hk)), hrow, rest⟩
theorem Wr.lt {w : World} {g : Nat} {row : Option Nat} {N len : Nat} (h : Wr w g row N len) : g < w.heap.size := by
  obtain ⟨free, hf, v, bs, hblk, _⟩ := h
  exact hblk.lt
theorem Rdr.lt {w : World} {g row R rem : Nat} {ok : Bool} (h : Rdr w g row R rem ok) : g < w.heap.size := by
  obtain ⟨A, n, c, bs, used, hblk, _⟩ := h
  exact hblk.lt
theorem Rdr.small {w : World} {g row R rem : Nat} {ok : Bool} (h : Rdr w g row R rem ok) : R < 2 ^ rem := by
  obtain ⟨A, n, c, bs, used, _, _, _, _, _, _, _, rfl, _⟩ := h
  exact Nat.mod_lt _ (Nat.two_pow_pos _)

theorem Wr.row_lt {w : World} {g : Nat} {row : Option Nat} {N len : Nat} (h : Wr w g row N len) : ∀ k, row = some k → k < w.heap.size := by
  obtain ⟨free, hf, v, bs, hblk, hown, hrow, _⟩ := h
  intro k hk
  exact (hown.lt k (by rw [hrow, hk])).2

end Go.Proofs.Ytldjobaafambbaa

import Derived.Test.YtcbljeiceahimaaBitg
namespace Go.Proofs.Ytcbljeiceahimaa
open Go.RowKit

/-- Put, as its callers take it. -/
theorem put_wr (g : Nat) (row : Option Nat) (N len k : Nat) (v n : Int) (w : World) (hn : FitI n) (hv : Fit64 v) (hk : max 0 (min n 64) = (k : Int)) (hw : Wr w g row N len) (hlen : len ≤ 1000000000) :
    Calls Try.prog 8 #[.pointer (some ⟨g, 0, none⟩), .int .u64 v, .int .i64 n] w fun e w' => e = .returned (.tuple #[]) ∧
      ∃ row', Wr w' g row' (N * 2 ^ k + v.toNat % 2 ^ k) (len + k) ∧ Mod (fun i => i = g ∨ row = some i) w w' ∧ RowTo w row row' := by
  refine (put_any g row N len v n w hn hv hw hlen).mono ?_
  rintro e w' ⟨rfl, row', h1, h2, h3⟩
  rw [hk, Int.toNat_natCast, Nat.sub_zero, Nat.pow_zero, Nat.div_one] at h1
  exact ⟨rfl, row', h1, h2, h3⟩

theorem newWriter_wr (w : World) :
    Calls Try.prog 7 #[] w fun e w' => ∃ g, e = .returned (.pointer (some ⟨g, 0, none⟩)) ∧ w.heap.size ≤ g ∧ g < w'.heap.size ∧ Wr w' g none 0 0 ∧ Mod (fun _ => False) w w' := by
  refine (newWriter_any w).mono ?_
  rintro e w' ⟨rfl, rfl⟩
  exact ⟨_, rfl, Nat.le_refl _, by simp, ⟨0, by omega, .slice none 0 0, [], Blk.new _ _ _, World.ownsRow_nil _ _ _ _, rfl, lt256_nil, rfl, rfl, by omega⟩, (Mod.refl _ _).alloc _⟩

theorem Rdr.mod {w w1 : World} {S : Nat → Prop} {g row R rem : Nat} {ok : Bool} (h : Rdr w g row R rem ok) (hm : Mod S w w1) (h1 : ¬ S g) (h2 : row < w.heap.size → ¬ S row) : Rdr w1 g row R rem ok := by
  obtain ⟨A, n, c, bs, used, hblk, hnc, hs, rest⟩ := h
  exact ⟨A, n, c, bs, used, hm.blk hblk h1, hnc, hs.mod hm h2, rest⟩
theorem Wr.mod {w w1 : World} {S : Nat → Prop} {g : Nat} {row : Option Nat} {N len : Nat} (h : Wr w g row N len) (hm : Mod S w w1) (h1 : ¬ S g) (h2 : ∀ k, row = some k → ¬ S k) : Wr w1 g row N len := by
  obtain ⟨free, hf, v, bs, hblk, hown, hrow, rest⟩ := h
  exact ⟨free, hf, v, bs, hm.blk hblk h1, hm.owns hown (fun k hk => h2 k (by rw [← hrow]; exact hk)), hrow, rest⟩
theorem Wr.lt {w : World} {g : Nat} {row : Option Nat} {N len : Nat} (h : Wr w g row N len) : g < w.heap.size := by
  obtain ⟨free, hf, v, bs, hblk, _⟩ := h
  exact hblk.lt
theorem Rdr.lt {w : World} {g row R rem : Nat} {ok : Bool} (h : Rdr w g row R rem ok) : g < w.heap.size := by
  obtain ⟨A, n, c, bs, used, hblk, _⟩ := h
  exact hblk.lt
theorem Rdr.small {w : World} {g row R rem : Nat} {ok : Bool} (h : Rdr w g row R rem ok) : R < 2 ^ rem := by
  obtain ⟨A, n, c, bs, used, _, _, _, _, _, _, _, rfl, _⟩ := h
  exact Nat.mod_lt _ (Nat.two_pow_pos _)

theorem Wr.row_lt {w : World} {g : Nat} {row : Option Nat} {N len : Nat} (h : Wr w g row N len) : ∀ k, row = some k → k < w.heap.size := by
  obtain ⟨free, hf, v, bs, hblk, hown, hrow, _⟩ := h
  intro k hk
  exact (hown.lt k (by rw [hrow, hk])).2

theorem awake_nums (bs : List Nat) (h : Packed bs ((0 * 2 ^ 3 + (5 : Int).toNat % 2 ^ 3) * 2 ^ 64 + (9223372036854775809 : Int).toNat % 2 ^ 64) (0 + 3 + 64)) :
    bs.length = 9 ∧ bs[0]? = some 176 ∧ val bs / 2 ^ (8 * 9 - 3) = 5 ∧ val bs % 2 ^ (8 * 9 - 3) / 2 ^ (8 * 9 - 3 - 64) = 9223372036854775809 := by
  obtain ⟨hlt, free, hf, hlen, hv⟩ := h
  have h9 : bs.length = 9 := by omega
  have hf5 : free = 5 := by omega
  subst hf5
  have hv' : val bs = 3246626956972881084448 := by rw [hv]; decide
  refine ⟨h9, ?_, by rw [hv'], by rw [hv']⟩
  cases bs with
  | nil => simp at h9
  | cons b bs =>
    simp at h9
    rw [val_cons, h9] at hv'
    have := val_lt (lt256_cons.1 hlt).2
    rw [h9] at this
    simp
    omega

set_option maxRecDepth 100000 in
theorem awake_any (w : World) : Calls Try.prog 11 #[] w fun e w' => e = .returned (.bool true) ∧ Mod (fun _ => False) w w' := by
  go_enter Try.func11, Try.ntmps11
  go_wp2_with fail
  refine (newWriter_wr _).mono ?_
  rintro e w1 ⟨g, rfl, hg1, hg2, hw1, hm1⟩
  have Hw1 := Lib.hid hw1; have Hm1 := Lib.hid hm1
  clear hw1 hm1
  go_wp2_with fail
  refine (put_wr g none 0 0 3 5 3 _ ⟨by decide, by decide⟩ ⟨by decide, by decide⟩ (by decide) Hw1.out (by omega)).mono ?_
  rintro e w2 ⟨rfl, row2, hw2, hm2, hr2⟩
  have Hw2 := Lib.hid hw2; have Hm2 := Lib.hid hm2; have Hr2 := Lib.hid hr2
  clear hw2 hm2 hr2
  go_wp2_with fail
  refine (put_wr g row2 _ _ 64 9223372036854775809 64 _ ⟨by decide, by decide⟩ ⟨by decide, by decide⟩ (by decide) Hw2.out (by omega)).mono ?_
  rintro e w3 ⟨rfl, row3, hw3, hm3, hr3⟩
  have Hm3 := Lib.hid ((((Hm1.out.trans Hm2.out (fun i hi h => h.elim (fun h => by omega) (fun h => by cases h))).trans hm3 (fun i hi h => by
    rcases h with h | h
    · omega
    · have := Hr2.out.in_ h (Nat.lt_of_lt_of_le hi Hm1.out.size)
      cases this))))
  have Hw3 := Lib.hid hw3
  clear hw3 hm3 hr3 Hw2 Hw1 Hr2 Hm1 Hm2
  go_wp2_with fail
  refine (bytes_any g row3 _ _ _ Hw3.out (by omega)).mono ?_
  rintro e w4 ⟨v, bs, rfl, hnew, hpk⟩
  obtain ⟨A, c, r, rfl, hnc, hA, hr1, hr2, hs⟩ := hnew.form
  obtain ⟨h9, hb0, hx, hy⟩ := awake_nums bs hpk
  rw [h9]
  rw [h9] at hs
  obtain ⟨o, rfl, hrl, hcell⟩ := hs.2 (by decide)
  have Hcell : Hid (w4.cell? ⟨r, o, none⟩ = some (.int .u8 176)) := Lib.hid (hcell 0 _ (by rw [cells8_get, hb0]; rfl))
  have Hs := Lib.hid hs; have HA := Lib.hid hA; have Hm4 := Lib.hid hnew.2.1; have Hlt := Lib.hid hpk.1; have Hb0 := Lib.hid hb0; have Hx := Lib.hid hx; have Hy := Lib.hid hy; have H9 := Lib.hid h9
  have Hw4 := Lib.hid (Hw3.out.mod hnew.2.1 (fun h => h) (fun _ _ h => h))
  clear hnew hpk hs hA hb0 hx hy h9 hnc hr1 hr2 hcell
  go_wp2_with fail
  refine (newReader_any r _ _ c bs _ Hs.out HA.out (by decide) Hlt.out).mono ?_
  rintro e w5 ⟨gr, row5, rfl, hgr, hrow5, hm5, hrd⟩
  have Hm5 := Lib.hid hm5; have Hrd := Lib.hid hrd
  clear hm5 hrd
  go_wp2_with fail
  refine (get_any gr row5 _ _ 3 true 3 _ ⟨by decide, by decide⟩ (by decide) Hrd.out Hrd.out.small (by decide) (by decide)).mono ?_
  rintro e w6 ⟨rfl, hrd6, hm6⟩
  rw [Hx.out]
  have Hm6 := Lib.hid hm6; have Hrd6 := Lib.hid hrd6
  clear hm6 hrd6
  go_wp2_with fail
  refine (get_any gr row5 _ _ 64 true 64 _ ⟨by decide, by decide⟩ (by decide) Hrd6.out Hrd6.out.small (by decide) (by decide)).mono ?_
  rintro e w7 ⟨rfl, hrd7, hm7⟩
  rw [Hy.out]
  have Hm7 := Lib.hid hm7; have Hrd7 := Lib.hid hrd7
  clear hm7 hrd7
  go_wp2_with fail
  refine (left_any gr row5 _ _ true _ Hrd7.out (by decide)).mono ?_
  rintro e w8 ⟨rfl, n8, rfl⟩
  go_wp2_with fail
  refine (get_many gr row5 _ _ 6 true 6 _ ⟨by decide, by decide⟩ (by decide) (Hrd7.out.mod ((Mod.refl (fun _ => False) w7).drewN n8) (fun h => h) (fun _ h => h)) (by decide) (by decide)).mono ?_
  rintro e w9 ⟨rfl, hrd9, hm9⟩
  have Hm9 := Lib.hid ((((((Hm5.out.mono (S' := fun i => i = gr) (fun _ _ h => h.elim)).trans Hm6.out (fun _ _ h => h)).trans Hm7.out (fun _ _ h => h)).drewN n8).trans hm9 (fun _ _ h => h)))
  have Hrd9 := Lib.hid hrd9
  have Hgr := Lib.hid hgr
  clear hm9 hrd9 Hrd Hrd6 Hrd7 Hm5 Hm6 Hm7 hgr hrow5
  have Hw9 := Lib.hid (Hw4.out.mod Hm9.out (fun h => by have := Hw4.out.lt; have := Hgr.out; omega) (fun k hk h => by have := Hw4.out.row_lt k hk; have := Hgr.out; omega))
  have hcb : w9.cell? ⟨r, o, none⟩ = some (.int .u8 176) := (Hm9.out.cell hrl (fun h => by have := Hgr.out; simp at h; omega)).trans Hcell.out
  go_wp2_with fail
  refine (len_any g row3 _ _ _ Hw9.out (by omega)).mono ?_
  rintro e w10 ⟨rfl, n10, rfl⟩
  go_wp2_with fail
  refine (ok_any gr row5 _ _ false _ (Hrd9.out.mod ((Mod.refl (fun _ => False) w9).drewN n10) (fun h => h) (fun _ h => h))).mono ?_
  rintro e w11 ⟨rfl, rfl⟩
  go_wp2_with fail
  refine (left_any gr row5 _ _ false _ (Hrd9.out.mod ((Mod.refl (fun _ => False) w9).drewN n10) (fun h => h) (fun _ h => h)) (by decide)).mono ?_
  rintro e w12 ⟨rfl, n12, rfl⟩
  go_wp2_with fail
  go_ret
  refine ⟨rfl, ?_⟩
  have h3 := (Hm3.out.trans Hm4.out (fun _ _ h => h)).trans (Hm9.out.mono (S' := fun i => i = gr ∧ w4.heap.size ≤ i) (fun i _ h => ⟨h, by have := Hgr.out; omega⟩)) (S := fun _ => False) (fun i hi h => by
    have := (Hm3.out.trans Hm4.out (fun _ _ h => h)).size
    omega)
  exact h3.drewN _
end Go.Proofs.Ytcbljeiceahimaa

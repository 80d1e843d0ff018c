import Derived.Test.YtjgoblibkhehaaaVa
import Derived.Deep.RegionHeld3
import Derived.StillTailTactics
import Derived.Deep.DeepCutAuto
namespace Go.Proofs.Ytjgoblibkhehaaa
open Go.RowKit

/-- The rows by hand: the bytes, the number that they begin with, and how many bytes it takes. -/
def vintRows : List (List Nat × Int × Int) := [([0], 0, 1), ([127], 127, 1), ([128, 1], 128, 2), ([172, 2, 114, 101, 115, 116], 300, 2), ([255, 255, 255, 255, 255, 255, 255, 255, 255, 1], 18446744073709551615, 10),
  ([128, 128, 128, 128, 128, 128, 128, 128, 128, 1], 9223372036854775808, 10), ([], 0, 0), ([128], 0, 0), ([128, 0], 0, 0), ([128, 128, 0], 0, 0), ([255, 255, 255, 255, 255, 255, 255, 255, 255, 2], 0, 0), ([255, 255, 255, 255, 255, 255, 255, 255, 255, 255, 1], 0, 0)]
def VintCut (w wc : World) (s4 : Value) : Prop :=
  ∃ (g : Nat) (bs : List Nat) (u n : Int), (bs, u, n) ∈ vintRows ∧ s4 = .pointer (some ⟨g, 0, none⟩) ∧ Blk wc g 23 #[.string (strOf bs), .int .u64 u, .int .i64 n] ∧ w.heap.size ≤ g ∧ Below w.heap.size w wc
theorem vint_mk (w : World) (o : Obj) (bs : List Nat) (u n : Int) (s : ByteArray) (hin : (bs, u, n) ∈ vintRows) (hs : s = strOf bs) :
    VintCut w ((w.alloc o).alloc (.cells #[.string s, .int .u64 u, .int .i64 n] 23)) (.pointer (some ⟨w.heap.size + 1, 0, none⟩)) := by
  subst hs
  refine ⟨w.heap.size + 1, bs, u, n, hin, rfl, ?_, by omega, ((Below.refl _ _).alloc (Nat.le_refl _) _).alloc (by simp) _⟩
  have := Blk.new (w.alloc o) 23 #[.string (strOf bs), .int .u64 u, .int .i64 n]
  simpa using this
theorem vint_row (bs : List Nat) (u n : Int) (hin : (bs, u, n) ∈ vintRows) : lt256 bs ∧ bs.length ≤ 20 ∧ ((dec bs).1 : Int) = u ∧ ((dec bs).2 : Int) = n := by
  have key : vintRows.all (fun p => decide ((∀ b ∈ p.1, b < 256) ∧ p.1.length ≤ 20 ∧ ((dec p.1).1 : Int) = p.2.1 ∧ ((dec p.1).2 : Int) = p.2.2)) = true := by decide +kernel
  have := of_decide_eq_true (List.all_eq_true.1 key _ hin)
  exact this

theorem vint_keep {w w' : World} {g : Nat} {bs : List Nat} {s : ByteArray} {u n : Int} (h : Blk w g 23 #[.string (strOf bs), .int .u64 u, .int .i64 n]) (hs : s = strOf bs) (hb : Below (g + 1) w w') :
    w'.cell? ⟨g, 0, none⟩ = some (.string s) ∧ w'.cell? ⟨g, 1, none⟩ = some (.int .u64 u) ∧ w'.cell? ⟨g, 2, none⟩ = some (.int .i64 n) := by
  subst hs
  have h' := h.below hb (by omega)
  exact ⟨h'.cell 0, h'.cell 1, h'.cell 2⟩

set_option maxHeartbeats 4000000 in
set_option maxRecDepth 100000 in
theorem vforms_walk (a0 : Int) (j : Nat) (hj : j < 12) (w : World) (hand : bits .and .i64 a0 255 = (a0 % 256)) (hrem : (a0 % 256).tmod 12 = (j : Int)) :
    Calls Try.prog 3 #[.int .i64 a0] w fun e w' => e = .returned (.bool true) ∧ Below w.heap.size w w' := by
  go_enter Try.func3, Try.ntmps3
  go_upto_region 2 with fail
  go_cut [4] (fun s4 wc => VintCut w wc s4)
  case first =>
    have h0 : 0 ≤ a0 % 256 := Int.emod_nonneg _ (by decide)
    have hj' : j = 0 ∨ j = 1 ∨ j = 2 ∨ j = 3 ∨ j = 4 ∨ j = 5 ∨ j = 6 ∨ j = 7 ∨ j = 8 ∨ j = 9 ∨ j = 10 ∨ j = 11 := by omega
    clear hj
    rcases hj' with rfl | rfl | rfl | rfl | rfl | rfl | rfl | rfl | rfl | rfl | rfl | rfl
    all_goals
      go_wp2_with fail
      go_meet
    · case rel => exact vint_mk w _ [0] _ _ _ (by simp [vintRows]) rfl
    · case rel => exact vint_mk w _ [127] _ _ _ (by simp [vintRows]) rfl
    · case rel => exact vint_mk w _ [128, 1] _ _ _ (by simp [vintRows]) rfl
    · case rel => exact vint_mk w _ [172, 2, 114, 101, 115, 116] _ _ _ (by simp [vintRows]) rfl
    · case rel => exact vint_mk w _ [255, 255, 255, 255, 255, 255, 255, 255, 255, 1] _ _ _ (by simp [vintRows]) rfl
    · case rel => exact vint_mk w _ [128, 128, 128, 128, 128, 128, 128, 128, 128, 1] _ _ _ (by simp [vintRows]) rfl
    · case rel => exact vint_mk w _ [] _ _ _ (by simp [vintRows]) rfl
    · case rel => exact vint_mk w _ [128] _ _ _ (by simp [vintRows]) rfl
    · case rel => exact vint_mk w _ [128, 0] _ _ _ (by simp [vintRows]) rfl
    · case rel => exact vint_mk w _ [128, 128, 0] _ _ _ (by simp [vintRows]) rfl
    · case rel => exact vint_mk w _ [255, 255, 255, 255, 255, 255, 255, 255, 255, 2] _ _ _ (by simp [vintRows]) rfl
    · case rel => exact vint_mk w _ [255, 255, 255, 255, 255, 255, 255, 255, 255, 255, 1] _ _ _ (by simp [vintRows]) rfl
  case rest =>
    obtain ⟨g, bs, u, n, hin, rfl, hblk, hg, hb⟩ := hcut
    obtain ⟨hlt, hl20, hu, hn⟩ := vint_row bs u n hin
    have hc0 := hblk.cell 0
    simp at hc0
    obtain ⟨cb, W1, hcb1, hcb2, hrun, hb1, hr1⟩ := bytes_of_str Try.underlying27 Try.underlying5 Try.underlying9 wc bs hlt (by unfold maxLen; omega)
    have hd0 := (hblk.below hb1 hblk.lt).cell 0
    have hd1 := (hblk.below hb1 hblk.lt).cell 1
    have hd2 := (hblk.below hb1 hblk.lt).cell 2
    simp at hd0 hd1 hd2
    have Hb := Lib.hid (hb.trans (hb1.mono hb.size)); have Hu := Lib.hid hu; have Hn := Lib.hid hn; have Hlt := Lib.hid hlt; have Hr1 := Lib.hid hr1; have HB := Lib.hid (hblk.below hb1 hblk.lt)
    obtain ⟨s, hs⟩ : ∃ s, s = strOf bs := ⟨_, rfl⟩
    rw [← hs] at hc0 hd0 hrun
    have hsz : s.size = bs.length := by rw [hs, strOf_size]
    have hbg : g < W1.heap.size := Nat.lt_of_lt_of_le hblk.lt hb1.size
    have Hs := Lib.hid hs
    clear hblk hb hu hn hand hrem hlt hb1 hr1 hs
    go_wp2_with fail
    refine (get_at (some ⟨wc.heap.size, 0, none⟩) bs.length cb W1.heap.size bs u n _ Hr1.out Hlt.out hcb1 hcb2 Hu.out Hn.out).mono ?_
    rintro e w1 ⟨rfl, rfl⟩
    by_cases h0 : n = 0
    · subst h0
      clear hrun
      go_wp2_with fail
      refine wp_region_still_tail 25 (by kernel_rfl) (by kernel_rfl) ?_
      simp only [List.take_succ_cons, List.take_zero, List.drop_succ_cons, List.drop_zero]
      iterate 14 still_step
      iterate 8 ((with_reducible refine still_skip ?hw ?_); (case hw => kernel_rfl); simp only [Act.put, List.setIfInBounds_toArray, List.set_cons_zero, List.set_cons_succ])
      iterate 3 still_step
      refine wpStill_nil ?_
      change wpList _ _ _ _ _ W1.drew
      have Hb' := Lib.hid Hb.out.drew
      generalize W1.drew = W2 at *
      go_wp2_with fail
      refine (awake_any _).mono ?_
      rintro e w3 ⟨rfl, hb3⟩
      have H3 := Lib.hid hb3
      clear hb3
      go_wp2
      go_ret
      exact ⟨rfl, Hb'.out.trans (H3.out.mono Hb'.out.size)⟩
    · obtain ⟨k, rfl⟩ : ∃ k : Nat, n = (k : Int) := ⟨_, Hn.out.symm⟩
      have hk2 : (dec bs).2 = k := by have := Hn.out; omega
      obtain ⟨hk3, hk4⟩ := dec_some Hlt.out (by omega)
      rw [hk2] at hk3 hk4
      obtain ⟨s2, hs2⟩ : ∃ s2, s2 = strOf (bs.take k) := ⟨_, rfl⟩
      have hext : s.extract 0 k = s2 := by rw [Hs.out, hs2, strOf_take]
      have Hput : Hid (s2 = strOf ([] ++ enc (dec bs).1)) := Lib.hid (by rw [hs2, hk4]; rfl)
      have Hl : Hid (Lt64 (dec bs).1) := Lib.hid (dec_lt Hlt.out)
      have hk0 : ((k : Int) == 0) = false := by simpa using h0
      clear hrun hk2 hk4 hs2
      go_wp2_with fail
      go_region_held (fun w' => w'.cell? ⟨g, 0, none⟩ = some (.string s) ∧ w'.cell? ⟨g, 1, none⟩ = some (.int .u64 u) ∧ w'.cell? ⟨g, 2, none⟩ = some (.int .i64 (k : Int))) (first | go_keep | exact hS3.out | exact hS2.out)
        (first
          | (go_at_call 8; refine (put_at none 0 0 0 [] _ u s2 _ (Rds.nil _ _ _) lt256_nil (by decide) Hl.out Hu.out.symm Hput.out).mono ?_; rintro e w2 ⟨A2, n2, c2, rfl, hcv, hb2⟩; have H2 := Lib.hid hb2; have hB2 := Lib.hid (HB.out.drew.below hb2 HB.out.lt); have hS2 := Lib.hid (vint_keep (w' := w2) (s := s) HB.out.drew Hs.out (hb2.mono HB.out.lt)); clear hb2)
          | (go_at_call 9; refine (awake_any _).mono ?_; rintro e w3 ⟨rfl, hb3⟩; have H3 := Lib.hid hb3; have hS3 := Lib.hid (vint_keep (w' := w3) (s := s) hB2.out Hs.out (hb3.mono hB2.out.lt)); clear hb3))
      all_goals (go_wp2; go_ret; exact ⟨rfl, (Hb.out.drew.trans (H2.out.mono Hb.out.size)).trans (H3.out.mono (Hb.out.drew.trans (H2.out.mono Hb.out.size)).size)⟩)
end Go.Proofs.Ytjgoblibkhehaaa

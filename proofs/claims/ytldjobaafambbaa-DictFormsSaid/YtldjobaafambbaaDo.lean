/- Rows by a list by hand: DictForms' walk. -/
import Derived.Test.YtldjobaafambbaaDa
import Derived.Deep.DeepCutAuto
import Derived.Deep.CutBlock
namespace Go.Proofs.Ytldjobaafambbaa
open Go.RowKit

/-- The rows by hand: the bytes, how many values are asked for, whether they are such. -/
def dictRows : List (List Nat × Int × Bool) := [([], 0, true), ([], 1, false), ([1, 5], 0, false), ([1, 5], 1, true), ([1, 5], 9, true), ([2, 5, 9, 64], 2, true), ([2, 5, 9, 128], 2, false), ([2, 5, 9, 0], 2, false), ([2, 5, 5, 64], 2, false), ([2, 5, 9, 96], 2, false), ([0], 1, false), ([3, 5, 6, 7, 24], 3, true), ([3, 5, 6, 7, 28], 3, false), ([129, 2, 5], 1, false), ([1, 5, 0], 1, false), ([2, 5], 2, false)]
def DictCut (w wc : World) (s4 : Value) : Prop :=
  ∃ (g : Nat) (bs : List Nat) (n : Int) (ok : Bool), (bs, n, ok) ∈ dictRows ∧ s4 = .pointer (some ⟨g, 0, none⟩) ∧ Blk wc g 22 #[.string (strOf bs), .int .i64 n, .bool ok] ∧ w.heap.size ≤ g ∧ Below w.heap.size w wc
theorem dict_mk (w : World) (o : Obj) (bs : List Nat) (n : Int) (ok : Bool) (s : ByteArray) (hin : (bs, n, ok) ∈ dictRows) (hs : s = strOf bs) :
    DictCut w ((w.alloc o).alloc (.cells #[.string s, .int .i64 n, .bool ok] 22)) (.pointer (some ⟨w.heap.size + 1, 0, none⟩)) := by
  subst hs
  refine ⟨w.heap.size + 1, bs, n, ok, hin, rfl, ?_, by omega, ((Below.refl _ _).alloc (Nat.le_refl _) _).alloc (by simp) _⟩
  have := Blk.new (w.alloc o) 22 #[.string (strOf bs), .int .i64 n, .bool ok]
  simpa using this
theorem dict_row (bs : List Nat) (n : Int) (ok : Bool) (hin : (bs, n, ok) ∈ dictRows) : lt256 bs ∧ bs.length ≤ 20 ∧ (decD (max 0 (min n 65535)).toNat bs).isSome = ok ∧ (ok = true → 0 ≤ n ∧ n ≤ 65535) := by
  have key : dictRows.all (fun p => decide ((∀ b ∈ p.1, b < 256) ∧ p.1.length ≤ 20 ∧ (decD (max 0 (min p.2.1 65535)).toNat p.1).isSome = p.2.2 ∧ (p.2.2 = true → 0 ≤ p.2.1 ∧ p.2.1 ≤ 65535))) = true := by decide +kernel
  have := of_decide_eq_true (List.all_eq_true.1 key _ hin)
  exact this
set_option maxHeartbeats 1000000 in
set_option maxRecDepth 100000 in
theorem dforms_walk (a0 : Int) (j : Nat) (hj : j < 16) (w : World) (hand : bits .and .i64 a0 255 = (a0 % 256)) (hrem : (a0 % 256).tmod 16 = (j : Int)) :
    Calls Try.prog 3 #[.int .i64 a0] w fun e w' => e = .returned (.bool true) ∧ Mod (fun _ => False) w w' := by
  go_enter Try.func3, Try.ntmps3
  go_upto_region 2 with fail
  go_cut [4] (fun s4 wc => DictCut w wc s4)
  case first =>
    have h0 : 0 ≤ a0 % 256 := Int.emod_nonneg _ (by decide)
    have hj' : j = 0 ∨ j = 1 ∨ j = 2 ∨ j = 3 ∨ j = 4 ∨ j = 5 ∨ j = 6 ∨ j = 7 ∨ j = 8 ∨ j = 9 ∨ j = 10 ∨ j = 11 ∨ j = 12 ∨ j = 13 ∨ j = 14 ∨ j = 15 := by omega
    clear hj
    rcases hj' with rfl | rfl | rfl | rfl | rfl | rfl | rfl | rfl | rfl | rfl | rfl | rfl | rfl | rfl | rfl | rfl
    all_goals
      go_wp2_with fail
      go_meet
    · case rel => exact dict_mk w _ [] _ _ _ (by simp [dictRows]) rfl
    · case rel => exact dict_mk w _ [] _ _ _ (by simp [dictRows]) rfl
    · case rel => exact dict_mk w _ [1, 5] _ _ _ (by simp [dictRows]) rfl
    · case rel => exact dict_mk w _ [1, 5] _ _ _ (by simp [dictRows]) rfl
    · case rel => exact dict_mk w _ [1, 5] _ _ _ (by simp [dictRows]) rfl
    · case rel => exact dict_mk w _ [2, 5, 9, 64] _ _ _ (by simp [dictRows]) rfl
    · case rel => exact dict_mk w _ [2, 5, 9, 128] _ _ _ (by simp [dictRows]) rfl
    · case rel => exact dict_mk w _ [2, 5, 9, 0] _ _ _ (by simp [dictRows]) rfl
    · case rel => exact dict_mk w _ [2, 5, 5, 64] _ _ _ (by simp [dictRows]) rfl
    · case rel => exact dict_mk w _ [2, 5, 9, 96] _ _ _ (by simp [dictRows]) rfl
    · case rel => exact dict_mk w _ [0] _ _ _ (by simp [dictRows]) rfl
    · case rel => exact dict_mk w _ [3, 5, 6, 7, 24] _ _ _ (by simp [dictRows]) rfl
    · case rel => exact dict_mk w _ [3, 5, 6, 7, 28] _ _ _ (by simp [dictRows]) rfl
    · case rel => exact dict_mk w _ [129, 2, 5] _ _ _ (by simp [dictRows]) rfl
    · case rel => exact dict_mk w _ [1, 5, 0] _ _ _ (by simp [dictRows]) rfl
    · case rel => exact dict_mk w _ [2, 5] _ _ _ (by simp [dictRows]) rfl
  case rest =>
    obtain ⟨g, bs, n, ok, hin, rfl, hblk, hg, hb⟩ := hcut
    obtain ⟨hlt, hl20, hsome, hok⟩ := dict_row bs n ok hin
    obtain ⟨N, hN⟩ : ∃ N : Nat, max 0 (min n 65535) = (N : Int) := ⟨(max 0 (min n 65535)).toNat, by omega⟩
    rw [hN, Int.toNat_natCast] at hsome
    have hc0 := hblk.cell 0
    simp at hc0
    obtain ⟨cb, W1, hcb1, hcb2, hrun, hb1, hr1⟩ := bytes_of_str Try.underlying27 Try.underlying5 Try.underlying9 wc bs hlt (by unfold maxLen; omega)
    have hblk1 := hblk.below hb1 hblk.lt
    obtain ⟨s, hs⟩ : ∃ s, s = strOf bs := ⟨_, rfl⟩
    rw [← hs] at hc0 hblk1 hrun
    have hd0 := hblk1.cell 0
    have hd1 := hblk1.cell 1
    have hd2 := hblk1.cell 2
    simp at hd0 hd1 hd2
    have hmw : Mod (fun _ => False) w W1 := (mod_below hb).trans (mod_below hb1) (fun _ _ h => h)
    have Hmw := Lib.hid hmw; have Hlt := Lib.hid hlt; have Hr1 := Lib.hid hr1; have HB := Lib.hid hblk1; have Hsome := Lib.hid hsome; have Hok := Lib.hid hok; have HN := Lib.hid hN; have Hs := Lib.hid hs
    have hsz : s.size = bs.length := by rw [hs, strOf_size]
    clear hblk hb hand hrem hlt hb1 hr1 hs hblk1 hmw hsome hok hN hin
    go_wp2_with fail
    refine (ddec_any (some ⟨wc.heap.size, 0, none⟩) bs.length cb W1.heap.size N n bs W1 Hr1.out (Nat.le_refl _) Hlt.out hcb1 hcb2 (by omega) HN.out).mono ?_
    intro e w2 hE
    cases ho : decD N bs with
    | none =>
      have hokf : ok = false := by rw [← Hsome.out, ho]; rfl
      subst hokf
      obtain ⟨rfl, hm2⟩ := hE.none_ ho
      have hB2 := hm2.blk HB.out (fun h => h)
      have he0 := hB2.cell 0
      have he1 := hB2.cell 1
      have he2 := hB2.cell 2
      simp at he0 he1 he2
      have Hm2 := Lib.hid (Hmw.out.trans hm2 (fun _ _ h => h))
      clear hE ho hm2 hB2 hd0 hd1 hd2 hrun hc0
      go_wp2_with fail
      refine (dawake_any _).mono ?_
      rintro e w3 ⟨rfl, hm3⟩
      have H3 := Lib.hid hm3
      clear hm3
      go_wp2_with fail
      go_ret
      exact ⟨rfl, Hm2.out.trans H3.out (fun _ _ h => h)⟩
    | some us =>
      have hokt : ok = true := by rw [← Hsome.out, ho]; rfl
      subst hokt
      obtain ⟨v, rfl, ho2, hm2⟩ := hE.some_ ho
      obtain ⟨hul, hu64, henc⟩ := decD_some Hlt.out ho
      obtain ⟨A3, L, c3, rfl, HL, hLc, hr3⟩ := own_formUN ho2
      have hLN : L = N := by have := HL.out; omega
      have hnL : n = (L : Int) := by have := Hok.out rfl; have := HN.out; omega
      subst hnL
      have hL65 : L ≤ 1000000 := by have := Hok.out rfl; omega
      have hB2 := hm2.blk HB.out (fun h => h)
      have he0 := hB2.cell 0
      have he1 := hB2.cell 1
      have he2 := hB2.cell 2
      simp at he0 he1 he2
      have Hm2 := Lib.hid (Hmw.out.trans hm2 (fun _ _ h => h)); have HB2 := Lib.hid hB2; have Hr3 := Lib.hid hr3; have Hu64 := Lib.hid hu64; have Henc := Lib.hid henc
      clear hE ho ho2 hm2 hul hu64 henc hr3 hLN hB2 hd0 hd1 hd2 hrun hc0 Hr1 hsz
      go_wp2_with fail
      refine (denc_any A3 L c3 _ us w2 Hr3.out (Nat.le_refl _) Hu64.out hL65).mono ?_
      intro e w4 hE
      obtain ⟨v4, rfl, ho4, hm4⟩ := hE.some_ Henc.out
      obtain ⟨A4, L4, c4, rfl, _, _, _, hr4⟩ := own_formN8 ho4
      have hcv : (convert 27 9 (.slice A4 L4 c4)).run Try.prog w4 = .ok (.string s) w4 := by
        rw [Hs.out]
        exact conv_rds Try.underlying27 Try.underlying5 Try.underlying9 w4 hr4 Hlt.out
      have hB4 := hm4.blk HB2.out (fun h => h)
      have hf0 := hB4.cell 0
      have hf1 := hB4.cell 1
      have hf2 := hB4.cell 2
      simp at hf0 hf1 hf2
      have Hm4 := Lib.hid (Hm2.out.trans hm4 (fun _ _ h => h))
      clear hE ho4 hm4 hr4 hB4 he0 he1 he2
      go_wp2_with fail
      refine (dawake_any _).mono ?_
      rintro e w3 ⟨rfl, hm3⟩
      have H3 := Lib.hid hm3
      clear hm3
      go_wp2_with fail
      go_ret
      exact ⟨rfl, Hm4.out.trans H3.out (fun _ _ h => h)⟩
end Go.Proofs.Ytldjobaafambbaa

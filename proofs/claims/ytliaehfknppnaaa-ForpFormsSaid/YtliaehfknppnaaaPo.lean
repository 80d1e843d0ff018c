/- Rows by their least by hand: ForpForms' walk. -/
import Derived.Test.YtliaehfknppnaaaPa
import Derived.Deep.RegionHeld3
import Derived.Deep.RegionHeldLaw
import Derived.StillTailTactics
import Derived.Deep.DeepCutAuto
namespace Go.Proofs.Ytliaehfknppnaaa
open Go.RowKit

/-- The rows by hand: the bytes, how many values are asked for, whether they are such. -/
def forpRows : List (List Nat × Int × Bool) := [([], 0, true), ([], 1, false), ([5, 0], 0, false), ([5, 0], 1, true), ([5, 0], 9, true), ([5, 1, 64], 2, true), ([5, 1, 0], 2, false), ([5, 1, 192], 2, false), ([5, 1, 96], 2, false), ([5, 65, 0], 1, false), ([5], 1, false), ([5, 2, 48], 2, true), ([5, 2, 16], 2, false), ([5, 0, 0], 1, false), ([0, 64, 0, 0, 0, 0, 0, 0, 0, 0, 255, 255, 255, 255, 255, 255, 255, 255], 2, true), ([1, 64, 0, 0, 0, 0, 0, 0, 0, 0, 255, 255, 255, 255, 255, 255, 255, 255], 2, false)]
def ForpCut (w wc : World) (s4 : Value) : Prop :=
  ∃ (g : Nat) (bs : List Nat) (n : Int) (ok : Bool), (bs, n, ok) ∈ forpRows ∧ s4 = .pointer (some ⟨g, 0, none⟩) ∧ Blk wc g 22 #[.string (strOf bs), .int .i64 n, .bool ok] ∧ w.heap.size ≤ g ∧ Below w.heap.size w wc
theorem forp_mk (w : World) (o : Obj) (bs : List Nat) (n : Int) (ok : Bool) (s : ByteArray) (hin : (bs, n, ok) ∈ forpRows) (hs : s = strOf bs) :
    ForpCut w ((w.alloc o).alloc (.cells #[.string s, .int .i64 n, .bool ok] 22)) (.pointer (some ⟨w.heap.size + 1, 0, none⟩)) := by
  subst hs
  refine ⟨w.heap.size + 1, bs, n, ok, hin, rfl, ?_, by omega, ((Below.refl _ _).alloc (Nat.le_refl _) _).alloc (by simp) _⟩
  have := Blk.new (w.alloc o) 22 #[.string (strOf bs), .int .i64 n, .bool ok]
  simpa using this
theorem forp_row (bs : List Nat) (n : Int) (ok : Bool) (hin : (bs, n, ok) ∈ forpRows) : lt256 bs ∧ bs.length ≤ 20 ∧ (decP (max 0 (min n 65535)).toNat bs).isSome = ok ∧ (ok = true → 0 ≤ n ∧ n ≤ 65535) := by
  have key : forpRows.all (fun p => decide ((∀ b ∈ p.1, b < 256) ∧ p.1.length ≤ 20 ∧ (decP (max 0 (min p.2.1 65535)).toNat p.1).isSome = p.2.2 ∧ (p.2.2 = true → 0 ≤ p.2.1 ∧ p.2.1 ≤ 65535))) = true := by decide +kernel
  have := of_decide_eq_true (List.all_eq_true.1 key _ hin)
  exact this
theorem forp_keep {w w' : World} {g : Nat} {s : ByteArray} {n : Int} {ok : Bool} (h : Blk w g 22 #[.string s, .int .i64 n, .bool ok]) (hm : Mod (fun _ => False) w w') :
    w'.cell? ⟨g, 0, none⟩ = some (.string s) ∧ w'.cell? ⟨g, 1, none⟩ = some (.int .i64 n) ∧ w'.cell? ⟨g, 2, none⟩ = some (.bool ok) := by
  have h' := hm.blk h (fun h => h)
  exact ⟨h'.cell 0, h'.cell 1, h'.cell 2⟩
set_option maxHeartbeats 1000000 in
set_option maxRecDepth 100000 in
theorem pforms_walk (a0 : Int) (j : Nat) (hj : j < 16) (w : World) (hand : bits .and .i64 a0 255 = (a0 % 256)) (hrem : (a0 % 256).tmod 16 = (j : Int)) :
    Calls Try.prog 3 #[.int .i64 a0] w fun e w' => e = .returned (.bool true) ∧ Mod (fun _ => False) w w' := by
  go_enter Try.func3, Try.ntmps3
  go_upto_region 2 with fail
  go_cut [4] (fun s4 wc => ForpCut w wc s4)
  case first =>
    have h0 : 0 ≤ a0 % 256 := Int.emod_nonneg _ (by decide)
    have hj' : j = 0 ∨ j = 1 ∨ j = 2 ∨ j = 3 ∨ j = 4 ∨ j = 5 ∨ j = 6 ∨ j = 7 ∨ j = 8 ∨ j = 9 ∨ j = 10 ∨ j = 11 ∨ j = 12 ∨ j = 13 ∨ j = 14 ∨ j = 15 := by omega
    clear hj
    rcases hj' with rfl | rfl | rfl | rfl | rfl | rfl | rfl | rfl | rfl | rfl | rfl | rfl | rfl | rfl | rfl | rfl
    all_goals
      go_wp2_with fail
      go_meet
    · case rel => exact forp_mk w _ [] _ _ _ (by simp [forpRows]) rfl
    · case rel => exact forp_mk w _ [] _ _ _ (by simp [forpRows]) rfl
    · case rel => exact forp_mk w _ [5, 0] _ _ _ (by simp [forpRows]) rfl
    · case rel => exact forp_mk w _ [5, 0] _ _ _ (by simp [forpRows]) rfl
    · case rel => exact forp_mk w _ [5, 0] _ _ _ (by simp [forpRows]) rfl
    · case rel => exact forp_mk w _ [5, 1, 64] _ _ _ (by simp [forpRows]) rfl
    · case rel => exact forp_mk w _ [5, 1, 0] _ _ _ (by simp [forpRows]) rfl
    · case rel => exact forp_mk w _ [5, 1, 192] _ _ _ (by simp [forpRows]) rfl
    · case rel => exact forp_mk w _ [5, 1, 96] _ _ _ (by simp [forpRows]) rfl
    · case rel => exact forp_mk w _ [5, 65, 0] _ _ _ (by simp [forpRows]) rfl
    · case rel => exact forp_mk w _ [5] _ _ _ (by simp [forpRows]) rfl
    · case rel => exact forp_mk w _ [5, 2, 48] _ _ _ (by simp [forpRows]) rfl
    · case rel => exact forp_mk w _ [5, 2, 16] _ _ _ (by simp [forpRows]) rfl
    · case rel => exact forp_mk w _ [5, 0, 0] _ _ _ (by simp [forpRows]) rfl
    · case rel => exact forp_mk w _ [0, 64, 0, 0, 0, 0, 0, 0, 0, 0, 255, 255, 255, 255, 255, 255, 255, 255] _ _ _ (by simp [forpRows]) rfl
    · case rel => exact forp_mk w _ [1, 64, 0, 0, 0, 0, 0, 0, 0, 0, 255, 255, 255, 255, 255, 255, 255, 255] _ _ _ (by simp [forpRows]) rfl
  case rest =>
    obtain ⟨g, bs, n, ok, hin, rfl, hblk, hg, hb⟩ := hcut
    obtain ⟨hlt, hl20, hsome, hok⟩ := forp_row bs n ok hin
    obtain ⟨N, hN⟩ : ∃ N : Nat, max 0 (min n 65535) = (N : Int) := ⟨(max 0 (min n 65535)).toNat, by omega⟩
    rw [hN, Int.toNat_natCast] at hsome
    have hc0 := hblk.cell 0
    simp at hc0
    obtain ⟨cb, W1, hcb1, hcb2, hrun, hb1, hr1⟩ := bytes_of_str Try.underlying27 Try.underlying5 Try.underlying9 wc bs hlt (by unfold maxLen; omega)
    have hblk1 := hblk.below hb1 hblk.lt
    obtain ⟨s, hs⟩ : ∃ s, s = strOf bs := ⟨_, rfl⟩
    rw [← hs] at hc0 hblk1 hrun
    have hd0 := hblk1.cell 0
    have hd1 := hblk1.cell 1
    have hd2 := hblk1.cell 2
    simp at hd0 hd1 hd2
    have hmw : Mod (fun _ => False) w W1 := (mod_below hb).trans (mod_below hb1) (fun _ _ h => h)
    have Hmw := Lib.hid hmw; have Hlt := Lib.hid hlt; have Hr1 := Lib.hid hr1; have HB := Lib.hid hblk1; have Hsome := Lib.hid hsome; have Hok := Lib.hid hok; have HN := Lib.hid hN; have Hs := Lib.hid hs
    have hsz : s.size = bs.length := by rw [hs, strOf_size]
    clear hblk hb hand hrem hlt hb1 hr1 hs hblk1 hmw hsome hok hN hin
    go_wp2_with fail
    refine (pdec_any (some ⟨wc.heap.size, 0, none⟩) bs.length cb W1.heap.size N n bs W1 Hr1.out (Nat.le_refl _) Hlt.out hcb1 hcb2 (by omega) HN.out).mono ?_
    intro e w2 hE
    cases ho : decP N bs with
    | none =>
      have hokf : ok = false := by rw [← Hsome.out, ho]; rfl
      subst hokf
      obtain ⟨rfl, hm2⟩ := hE.none_ ho
      have hB2 := hm2.blk HB.out (fun h => h)
      have he0 := hB2.cell 0
      have he1 := hB2.cell 1
      have he2 := hB2.cell 2
      simp at he0 he1 he2
      have Hm2 := Lib.hid (Hmw.out.trans hm2 (fun _ _ h => h))
      clear hE ho hm2 hB2 hd0 hd1 hd2 hrun hc0
      go_wp2_with fail
      refine wp_region_still_tail 32 (by kernel_rfl) (by kernel_rfl) ?_
      simp only [List.take_succ_cons, List.take_zero, List.drop_succ_cons, List.drop_zero]
      iterate 13 still_step
      iterate 16 ((with_reducible refine still_skip ?hw ?_); (case hw => kernel_rfl); simp only [Act.put, List.setIfInBounds_toArray, List.set_cons_zero, List.set_cons_succ])
      iterate 3 still_step
      refine wpStill_nil ?_
      change wpList _ _ _ _ _ w2.drew
      have Hm2' := Lib.hid Hm2.out.drew
      generalize w2.drew = W3 at *
      go_wp2_with fail
      refine (pawake_any _).mono ?_
      rintro e w3 ⟨rfl, hm3⟩
      have H3 := Lib.hid hm3
      clear hm3
      go_wp2
      go_ret
      exact ⟨rfl, Hm2'.out.trans H3.out (fun _ _ h => h)⟩
    | some us =>
      have hokt : ok = true := by rw [← Hsome.out, ho]; rfl
      subst hokt
      obtain ⟨v, rfl, ho2, hm2⟩ := hE.some_ ho
      obtain ⟨hul, hu64, henc⟩ := decP_some ho
      obtain ⟨A3, L, c3, rfl, HL, hLc, hr3⟩ := own_formUN ho2
      have hLN : L = N := by have := HL.out; omega
      have hnL : n = (L : Int) := by have := Hok.out rfl; have := HN.out; omega
      subst hnL
      have hL65 : L ≤ 1000000 := by have := Hok.out rfl; omega
      have hB2 := hm2.blk HB.out (fun h => h)
      have hss : s = strOf (encP us) := by rw [henc]; exact Hs.out
      have Hm2 := Lib.hid (Hmw.out.trans hm2 (fun _ _ h => h)); have HB2 := Lib.hid hB2; have Hr3 := Lib.hid hr3; have Hu64 := Lib.hid hu64; have Hss := Lib.hid hss
      clear hE ho ho2 hm2 hul hu64 henc hr3 hLN hB2 hss hd0 hd1 hd2 hrun hc0 Hr1 hsz
      go_wp2_with fail
      first
        | (go_region_held_law (fun w' => w'.cell? ⟨g, 0, none⟩ = some (.string s) ∧ w'.cell? ⟨g, 1, none⟩ = some (.int .i64 (L : Int)) ∧ w'.cell? ⟨g, 2, none⟩ = some (.bool true))
            (first | (with_reducible exact S6.out) | (with_reducible exact S5.out) | (with_reducible exact forp_keep HB2.out (Mod.refl _ _).drew))
            (first
              | (go_at_call 9; refine (pawake_any w5).mono ?_; rintro e w6 ⟨rfl, hm6⟩; have H6 := Lib.hid hm6; have S6 := Lib.hid (forp_keep HB5.out hm6); clear hm6)
              | (go_at_call 8; refine (penc_at A3 L c3 w2.heap.size us s _ Hr3.out.drew (Nat.le_refl _) Hu64.out hL65 Hss.out).mono ?_; rintro e w5 ⟨A5, n5, c5, rfl, hcv, hm5⟩; have H5 := Lib.hid hm5; have HB5 := Lib.hid (hm5.blk HB2.out.drew (fun h => h)); have S5 := Lib.hid (forp_keep HB2.out.drew hm5); clear hm5)))
        | fail "x"
      all_goals (go_wp2; go_ret; exact ⟨rfl, (Hm2.out.drew.trans H5.out (fun _ _ h => h)).trans H6.out (fun _ _ h => h)⟩)
end Go.Proofs.Ytliaehfknppnaaa

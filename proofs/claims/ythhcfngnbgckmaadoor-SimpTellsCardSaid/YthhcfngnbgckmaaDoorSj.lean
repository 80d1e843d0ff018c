/- Words are read: the document's GetSimple. -/
import Derived.Test.YthhcfngnbgckmaaDoorSi
import Derived.Test.YthhcfngnbgckmaaDoorSd
namespace Go.Proofs.YthhcfngnbgckmaaDoor
open Go.RowKit

theorem rdS_zero (ws : List Nat) : rdS 0 ws = [] := by
  induction ws with
  | nil => rfl
  | cons x ws ih =>
    show nums (x / 2 ^ 60) x (min (numN (x / 2 ^ 60)) 0) ++ rdS (0 - min (numN (x / 2 ^ 60)) 0) ws = []
    rw [Nat.min_zero, ih]
    rfl
/-- What the inner loop has read of a word: j numbers more. -/
def GetIn (w wq : World) (out : List Nat) (k x j : Nat) (v : Value) : Prop := Own w.heap.size wq 23 v (cellsU (out ++ nums k x j)) ∧ Mod (fun _ => False) w wq
theorem GetIn.next {w wq w2 : World} {out : List Nat} {k x j r : Nat} {v v' : Value} (h : GetIn w wq out k x j v) {w1 : World} (hm : Mod (fun _ => False) wq w1) (hr : nums k x (j + 1) = nums k x j ++ [r])
    (ho : Own w.heap.size w2 23 v' (cellsU (out ++ nums k x j) ++ [.int .u64 (r : Int)])) (hb : Below w.heap.size w1 w2) : GetIn w w2 out k x (j + 1) v' := by
  refine ⟨?_, (h.2.trans hm (fun _ _ h => h)).trans (Mod.of_below hb) (fun i hi h => by omega)⟩
  rw [hr, ← List.append_assoc, cellsU_snoc]
  exact ho
theorem GetIn.form {w wq : World} {out : List Nat} {k x j t : Nat} {v : Value} (h : GetIn w wq out k x j v) (ht : t = out.length + j) : ∃ A c, v = .slice A t c ∧ t ≤ c := by
  obtain ⟨A, c, e, hc, _⟩ := own_formU h.1
  have hl : (out ++ nums k x j).length = t := by rw [List.length_append, nums_len, ht]
  rw [hl] at e hc
  exact ⟨A, c, e, hc⟩
set_option maxHeartbeats 4000000 in
set_option maxRecDepth 100000 in
theorem gets_any (A : Option Addr) (n cap B N : Nat) (m : Int) (ws : List Nat) (w : World) (hs : Rds w B A n (cellsU ws)) (hB : B ≤ w.heap.size) (hu : ∀ x ∈ ws, x < 2 ^ 64) (hn : n ≤ 1000000) (hN : max 0 (min m 65535) = (N : Int)) :
    Calls Tryd.prog 10 #[.slice A n cap, .int .i64 m] w fun e w' => EncE w w' (decS N ws) e := by
  have hul : ws.length = n := by have := hs.1; rwa [cellsU_length] at this
  have H0 : Hid (DecTo w w ws N 0 0 (.slice none 0 0)) := Lib.hid ⟨[], Own.nil _ _ _, rfl, Nat.zero_le _, (fun _ h => by cases h), by rw [List.drop_zero]; rfl, Mod.refl _ _⟩
  have Hs := Lib.hid hs; have Hu := Lib.hid hu; have HB := Lib.hid hB; have Hul := Lib.hid hul; have HN := Lib.hid hN
  have hN65 : N ≤ 65535 := by omega
  clear hs hu hB hul hN
  go_enter Tryd.func10, Tryd.ntmps10
  go_wp2_with fail
  refine (held_any m N _ HN.out).mono ?_
  rintro e w0 ⟨rfl, rfl⟩
  go_wp2_with fail
  go_loopg [6, 7] n (fun l s6 s7 wr => ∃ (i L : Nat) (Av : Option Addr) (cv : Nat), i + l = n ∧ s7 = .int .i64 (i : Int) ∧ s6 = .slice Av L cv ∧ L ≤ cv ∧ DecTo w wr ws N i L (.slice Av L cv))
  case atStart => exact ⟨0, 0, none, 0, by omega, rfl, rfl, Nat.le_refl _, H0.out⟩
  case round =>
    obtain ⟨i, L, Av, cv, hil, rfl, rfl, hLc, hD⟩ := hrel
    have HD := Lib.hid hD; have Hil := Lib.hid hil
    clear hD hil H0
    obtain ⟨out, hown, hol, hLN, ho60, hrd, hm⟩ := HD.out
    have Hown := Lib.hid hown; have Hol := Lib.hid hol; have Ho60 := Lib.hid ho60; have Hrd := Lib.hid hrd; have Hm := Lib.hid hm
    clear hown hol ho60 hrd hm
    by_cases hgo : i < n ∧ L < N
    · obtain ⟨hin, hLl⟩ := hgo
      obtain ⟨ad, x, rfl, hx, hcx⟩ := Hs.out.at2 hin HB.out Hm.out (fun _ _ h => h)
      have Hx := Lib.hid hx
      have hxl := Lib.hid (Hu.out x (List.mem_of_getElem? hx))
      obtain ⟨k, hk⟩ : ∃ k, x / 2 ^ 60 = k := ⟨_, rfl⟩
      have hk16 : k < 16 := by have := hxl.out; omega
      have hx60 : (x : Int) / 1152921504606846976 = (k : Int) := by omega
      have Hk := Lib.hid hk
      obtain ⟨c, hc⟩ : ∃ c, numN k = c := ⟨_, rfl⟩
      obtain ⟨s, hs⟩ : ∃ s, bitN k = s := ⟨_, rfl⟩
      have hnp := num_pos hk16
      rw [hc, hs] at hnp
      have hc2 : c ≤ 240 := hnp.2.1
      have hs2 : s ≤ 60 := hnp.2.2.2
      obtain ⟨q, hq⟩ : ∃ q, q = min c (N - L) := ⟨_, rfl⟩
      have Hc := Lib.hid hc; have Hss := Lib.hid hs; have Hq := Lib.hid hq
      have hi0 : (0 : Int) ≤ (i : Int) := by omega
      have hi1 : (i : Int) < (n : Int) := by omega
      have hk0 : (0 : Int) ≤ (k : Int) := by omega
      have hkk : (k : Int) < 16 := by omega
      have hadb : ad.block < w.heap.size := by
        obtain ⟨ad', _, e, hb, _, _⟩ := Hs.out.at_ hin
        injection e with e
        subst e
        have := HB.out
        omega
      have HX : Hid (∀ W, Below w.heap.size wr W → W.cell? (ad.add i) = some (.int .u64 (x : Int))) := Lib.hid fun W hW => (hW.cell (p := ad.add i) (by rw [add_block]; exact hadb)).trans hcx
      have HG0 : Hid (GetIn w wr out k x 0 (.slice Av L cv)) := Lib.hid ⟨by rw [show nums k x 0 = [] from rfl, List.append_nil]; exact Hown.out, Hm.out⟩
      have hst := dec_step Hx.out Hrd.out
      rw [Hk.out, Hc.out, ← Hq.out] at hst
      have Hst := Lib.hid hst
      clear hx hk hc hs hq hnp hst
      go_wp2_with fail
      clear hcx hx60
      obtain ⟨go, rfl⟩ : ∃ go : Nat, go = gk := ⟨_, rfl⟩
      have Hgo : Hid (i + go = n) := Lib.hid Hil.out
      go_loopg [6, 9] q (fun l s6 s9 wq => ∃ (j t : Nat) (Aj : Option Addr) (cj : Nat), j + l = q ∧ t = L + j ∧ s9 = .int .i64 (j : Int) ∧ s6 = .slice Aj t cj ∧ t ≤ cj ∧ GetIn w wq out k x j (.slice Aj t cj) ∧ Below w.heap.size wr wq)
      case atStart => exact ⟨0, L, Av, cv, by omega, rfl, rfl, rfl, hLc, HG0.out, Below.refl _ _⟩
      case round =>
        obtain ⟨j, t, Aj, cj, hjl, ht, rfl, rfl, htc, hG, hmq⟩ := hrel
        have Hjl := Lib.hid hjl; have Ht := Lib.hid ht; have HG := Lib.hid hG; have Hmq := Lib.hid hmq
        have htN : t ≤ N := by have := Hq.out; omega
        by_cases hjq : j < q
        · have hjc : j < c := by have := Hq.out; omega
          have htl : t < N := by have := Hq.out; omega
          have Hog : Hid (out.length + j = t) := Lib.hid (by rw [Hol.out]; omega)
          have hr1 : (cellsU (out ++ nums k x j)).length + 1 ≤ maxLen := by rw [cellsU_length, List.length_append, nums_len, Hog.out]; unfold maxLen; omega
          have hr2 : ((cellsU (out ++ nums k x j)).length + 1) * 8 ≤ 140737488355328 := by rw [cellsU_length, List.length_append, nums_len, Hog.out]; omega
          clear hjl ht hG hmq
          obtain ⟨p, y, qq, mk, r, hp, hp60, hy, hqq, hmk, hq1, hq60, hy64, hr, hand⟩ := unpack_one (k := k) (w := x) (i := j) hk16 hxl.out (by rw [Hc.out]; exact hjc)
          rw [Hss.out] at hp hqq
          have Hsn : Hid (nums k x (j + 1) = nums k x j ++ [r]) := Lib.hid (by rw [nums_snoc, hr])
          have Hjq := Lib.hid hjq; have HtN := Lib.hid htN
          clear hjq htN
          by_cases hs0 : s = 0
          · have hr0 : r = 0 := by rw [hr, Hss.out, if_pos hs0]
            subst hr0
            have Hs0 := Lib.hid hs0
            have hsg : ¬ 0 < s := by omega
            clear hs0 hp hp60 hy hqq hmk hq1 hq60 hy64 hr hand
            go_wp2_with fail
            refine (numbers_is k c _ hk16 Hc.out).mono ?_
            rintro e w1 ⟨rfl, hm1⟩
            have Hm1 := Lib.hid hm1
            clear hm1
            go_wp2_with fail
            refine (bits_is k s _ hk16 Hss.out).mono ?_
            rintro e w2 ⟨rfl, hm2⟩
            have Hm2 := Lib.hid (Hm1.out.trans hm2 (fun _ _ h => h))
            clear hm2
            have Hown1 := Lib.hid (Hm2.out.owns HG.out.1 (fun _ _ h => h))
            have hsz : w.heap.size ≤ w2.heap.size := (HG.out.2.trans Hm2.out (fun _ _ h => h)).size
            go_wp2_with (at_builtin; refine wpList_app1 rfl (.tmp 64) (.tmp 66) _ rfl eltU rfl Hown1.out rfl rfl rfl hr1 hr2 hsz ?_; intro v' w3 HO HBl)
            have HG3 := Lib.hid (GetIn.next HG.out Hm2.out Hsn.out HO.out HBl.out)
            obtain ⟨A3, c3, rfl, hc3⟩ := HG3.out.form (t := t + 1) (by have := Hog.out; omega)
            have Hc3 := Lib.hid hc3
            have Hm3 := Lib.hid ((Hmq.out.trans (Hm2.out.below HG.out.2.size (fun _ h => h.elim))).trans HBl.out)
            clear hc3
            go_roundg (gk - 1)
            case measure => have := Hjl.out; have := Hjq.out; omega
            case rel => exact ⟨j + 1, t + 1, A3, c3, by have := Hjl.out; have := Hjq.out; omega, by have := Ht.out; omega, by go_num, rfl, Hc3.out, HG3.out, Hm3.out⟩
          · have hsg : 0 < s := by omega
            have hpi : IntKind.i64.wrap ((j : Int) * (s : Int)) = (p : Int) := by
              have e : (j : Int) * (s : Int) = (p : Int) := by rw [hp]; simp
              rw [e, IntKind.wrap_i64]
              omega
            have hpu : IntKind.u64.wrap (p : Int) = (p : Int) := by rw [IntKind.wrap_u64]; omega
            have hsu : IntKind.u64.wrap (s : Int) = (s : Int) := by rw [IntKind.wrap_u64]; omega
            have hyi : (x : Int) / 2 ^ p = (y : Int) := by rw [hy, Int.natCast_ediv]; simp
            have hqi : IntKind.u64.wrap ((2 : Int) ^ s) = (qq : Int) := by
              have e : (2 : Int) ^ s = (qq : Int) := by rw [hqq]; simp
              rw [e, IntKind.wrap_u64]
              omega
            have hmi : IntKind.u64.wrap ((qq : Int) - 1) = (mk : Int) := by rw [IntKind.wrap_u64]; omega
            clear hs0 hp hy hqq hmk hq60 hy64 hr hq1
            go_wp2_with fail
            refine (numbers_is k c _ hk16 Hc.out).mono ?_
            rintro e w1 ⟨rfl, hm1⟩
            have Hm1 := Lib.hid hm1
            clear hm1
            go_wp2_with fail
            refine (bits_is k s _ hk16 Hss.out).mono ?_
            rintro e w2 ⟨rfl, hm2⟩
            have Hm2 := Lib.hid (Hm1.out.trans hm2 (fun _ _ h => h))
            have HX2 : Hid (∀ W, Mod (fun _ => False) w2 W → W.cell? (ad.add i) = some (.int .u64 (x : Int))) := Lib.hid fun W hW => HX.out W (Hmq.out.trans ((Hm2.out.trans hW (fun _ _ h => h)).below HG.out.2.size (fun _ h => h.elim)))
            clear hm2
            go_upto_region 12 with fail
            go_region_held_law (fun w' => w'.cell? (ad.add i) = some (.int .u64 (x : Int))) (first | exact HX2.out _ S5.out | exact HX2.out _ (Mod.refl _ _).drew)
              (first | (go_at_call 16; refine (bits_is k s _ hk16 Hss.out).mono ?_; rintro e w5 ⟨rfl, hm5⟩; have S5 : Hid (Mod (fun _ => False) w2 w5) := Lib.hid (Mod.trans (by first | exact S5.out | exact (Mod.refl _ _).drew) hm5 (fun _ _ h => h)); clear hm5))
            all_goals
              have Hm5 := Lib.hid (Hm2.out.trans S5.out (fun _ _ h => h))
              have Hown1 := Lib.hid (Hm5.out.owns HG.out.1 (fun _ _ h => h))
              have hsz := (HG.out.2.trans Hm5.out (fun _ _ h => h)).size
              go_wp2_with (at_builtin; refine wpList_app1 rfl (.tmp 64) (.tmp 66) _ rfl eltU rfl Hown1.out rfl rfl rfl hr1 hr2 hsz ?_; intro v' w3 HO HBl)
              have HG3 := Lib.hid (GetIn.next HG.out Hm5.out Hsn.out HO.out HBl.out)
              obtain ⟨A3, c3, rfl, hc3⟩ := HG3.out.form (t := t + 1) (by have := Hog.out; omega)
              have Hc3 := Lib.hid hc3
              have Hm3 := Lib.hid ((Hmq.out.trans (Hm5.out.below HG.out.2.size (fun _ h => h.elim))).trans HBl.out)
              clear hc3
              go_roundg (gk - 1)
              case measure => have := Hjl.out; have := Hjq.out; omega
              case rel => exact ⟨j + 1, t + 1, A3, c3, by have := Hjl.out; have := Hjq.out; omega, by have := Ht.out; omega, by go_num, rfl, Hc3.out, HG3.out, Hm3.out⟩
        · have hjq2 : j = q := by omega
          have Hl3 : Hid ((out ++ nums k x j).length = t) := Lib.hid (by rw [List.length_append, nums_len, Hol.out, ht])
          have Hlt := Lib.hid (nums_lt (k := k) (w := x) (m := j) hk16)
          have HD2 : Hid (∀ W, Mod (fun _ => False) wr W → DecTo w W ws N (i + 1) t (.slice Aj t cj)) := Lib.hid (fun W hW => ⟨out ++ nums k x j, hW.owns HG.out.1 (fun _ _ h => h), Hl3.out, htN, (fun y hy => by
            rcases List.mem_append.1 hy with hy | hy
            · exact Ho60.out y hy
            · exact Hlt.out y hy), by
              have h := Hst.out
              rw [← hjq2, ← ht] at h
              exact h, HG.out.2.trans hW (fun _ _ h => h)⟩)
          have hjt : (j < c ∧ ¬ t < N) ∨ ¬ j < c := by
            by_cases h : j < c
            · exact .inl ⟨h, by have := Hq.out; omega⟩
            · exact .inr h
          clear hjl ht hG hmq hjq2 hjq
          rcases hjt with ⟨hjc, htn⟩ | hjc
          all_goals
            go_wp2_with fail
            refine (numbers_is k c _ hk16 Hc.out).mono ?_
            rintro e w1 ⟨rfl, hm1⟩
            have HD3 := Lib.hid (HD2.out _ hm1)
            clear hm1
            go_wp2_with fail
            go_roundg (go - 1)
            case measure => have := Hgo.out; omega
            case rel => exact ⟨i + 1, t, Aj, cj, by have := Hgo.out; omega, by go_num, rfl, htc, HD3.out⟩
    · have hrw : rdS N ws = out := by
        have h := Hrd.out
        by_cases hin : i < n
        · rw [show N - L = 0 by omega, rdS_zero, List.append_nil] at h
          exact h
        · rw [List.drop_of_length_le (by have := Hul.out; omega)] at h
          rw [h]
          show out ++ [] = out
          simp
      obtain ⟨told, htold⟩ := encS_can _ out rfl Ho60.out
      obtain ⟨htl, ht64⟩ := encS_len _ out told rfl htold
      have Hrw := Lib.hid hrw; have Htold := Lib.hid htold; have Htl := Lib.hid htl
      have Ho64 : Hid (∀ x ∈ out, x < 2 ^ 64) := Lib.hid fun x hx => Nat.lt_of_lt_of_le (Ho60.out x hx) (Nat.pow_le_pow_right (by omega) (by omega))
      have Hro : Hid (Rds wr wr.heap.size Av L (cellsU out)) := Lib.hid (Hown.out.rds Hol.out)
      have hways : (¬ i < n ∧ L < N) ∨ (¬ i < n ∧ ¬ L < N) ∨ (i < n ∧ ¬ L < N) := by omega
      have Hgo := Lib.hid hgo
      clear hrw htold htl ht64 hgo
      rcases hways with ⟨hin, hLl⟩ | ⟨hin, hLl⟩ | ⟨hin, hLl⟩
      · have hLb : ((L : Int) != (N : Int)) = true := by simp only [bne_iff_ne, ne_eq]; omega
        go_wp2_with fail
        refine (simple_any Av L cv _ out wr Hro.out (Nat.le_refl _) Ho64.out (by omega) hLc).mono ?_
        intro e w1 hE
        obtain ⟨v, rfl, ho1, hm1⟩ := hE.some_ Htold.out
        have Hm1 := Lib.hid (Hm.out.trans hm1 (fun _ _ h => h))
        clear hE ho1 hm1
        go_wp2_with fail
        go_ret2
        rw [decS_few (by rw [Hrw.out, Hol.out]; exact hLl)]
        exact ⟨rfl, Hm1.out⟩
      all_goals
        have hLb : ((L : Int) != (N : Int)) = false := by simp only [bne_eq_false_iff_eq]; omega
        have Hdec : Hid (decS N ws = if told = ws then some out else none) := Lib.hid (by
          have h := decS_is (N := N) (ws := ws) (told := told) (by rw [Hrw.out, Hol.out]; omega) (by rw [Hrw.out]; exact Htold.out)
          rw [Hrw.out] at h
          exact h)
        go_wp2_with fail
        refine (simple_any Av L cv _ out wr Hro.out (Nat.le_refl _) Ho64.out (by omega) hLc).mono ?_
        intro e w1 hE
        obtain ⟨v, rfl, ho1, hm1⟩ := hE.some_ Htold.out
        obtain ⟨A1, c1, rfl, _, hr1⟩ := own_formU ho1
        have Hr1 := Lib.hid hr1
        have Hown1 := Lib.hid (hm1.owns Hown.out (fun _ _ h => h))
        have Hm1 := Lib.hid (Hm.out.trans hm1 (fun _ _ h => h))
        have Hs1 := Lib.hid (Hs.out.mod Hm1.out HB.out (fun _ _ h => h))
        clear hE ho1 hm1 hr1
        by_cases hb : told = ws
        · have hbb : decide (told = ws) = true := decide_eq_true hb
          have Hb := Lib.hid hb; have Hbb := Lib.hid hbb
          clear hb hbb
          go_wp2_with fail
          refine (same_any A1 A told.length n c1 cap _ _ told ws w1 Hr1.out Hs1.out (by have := Htl.out; have := Hol.out; omega) (by omega)).mono ?_
          rintro e w2 ⟨rfl, hm2⟩
          have Hm2 := Lib.hid hm2
          rw [Hbb.out]
          clear hm2
          go_wp2_with fail
          go_ret2
          rw [Hdec.out, if_pos Hb.out]
          exact ⟨_, rfl, Hm2.out.owns Hown1.out (fun _ _ h => h), Hm1.out.trans Hm2.out (fun _ _ h => h)⟩
        · have hbb : decide (told = ws) = false := decide_eq_false hb
          have Hb := Lib.hid hb; have Hbb := Lib.hid hbb
          clear hb hbb
          go_wp2_with fail
          refine (same_any A1 A told.length n c1 cap _ _ told ws w1 Hr1.out Hs1.out (by have := Htl.out; have := Hol.out; omega) (by omega)).mono ?_
          rintro e w2 ⟨rfl, hm2⟩
          have Hm2 := Lib.hid hm2
          rw [Hbb.out]
          clear hm2
          go_wp2_with fail
          go_ret2
          rw [Hdec.out, if_neg Hb.out]
          exact ⟨rfl, Hm1.out.trans Hm2.out (fun _ _ h => h)⟩
end Go.Proofs.YthhcfngnbgckmaaDoor

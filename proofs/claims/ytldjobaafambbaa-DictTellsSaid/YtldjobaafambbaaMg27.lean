/- The texts Dt, one behind the other. -/
import Derived.Test.YtldjobaafambbaaMg24
import Derived.Test.YtldjobaafambbaaMg26
import Derived.Test.YtldjobaafambbaaMg3
import Derived.Test.YtldjobaafambbaaMg2
import Derived.Deep.RegionHeldLaw
import Derived.StillTailTactics
import Derived.Deep.DeepCutAuto
import Derived.Deep.CutBlock
/- DictTells' walk. -/
namespace Go.Proofs.Ytldjobaafambbaa
open Go.RowKit

theorem dtells_long (A0 A2 : Option Addr) (n0 c0 n2 c2 : Nat) (how at' by_ n : Int) (w : World) (h : 200 < n2) :
    Calls Try.prog 5 #[.slice A0 n0 c0, .int .i64 how, .slice A2 n2 c2, .int .i64 at', .int .u8 by_, .int .i64 n] w fun e w' => e = .returned (.bool true) ∧ Mod (fun _ => False) w w' := by
  go_enter Try.func5, Try.ntmps5
  go_wp2_with fail
  refine (dawake_any _).mono ?_
  rintro e w1 ⟨rfl, hm⟩
  have Hm := Lib.hid hm
  clear hm
  go_wp2_with fail
  go_ret
  exact ⟨rfl, Hm.out⟩
set_option maxHeartbeats 1000000 in
theorem by64_any (b : Nat) (w : World) (hb : b < 256) : Calls Try.prog 13 #[.int .u8 (b : Int)] w fun e w' => e = .returned (.int .u64 ((2 * b + 1 : Nat) : Int)) ∧ w = w' := by
  obtain ⟨z, hz⟩ : ∃ z : Nat, 2 * b + 1 = z := ⟨_, rfl⟩
  have h1 : (b : Int) * 2 + 1 = (z : Int) := by omega
  rw [hz]
  clear hz
  go_enter Try.func13, Try.ntmps13
  go_wp2_with fail
  go_ret
  exact ⟨rfl, rfl⟩
/-- The values, with more behind them, or not. -/
def ValsMore (w wr : World) (k : Nat) (v : Value) : Prop := ∃ ts : List Nat, Own w.heap.size wr 32 v (cellsU ts) ∧ ts.length ≤ 60 + k ∧ (∀ x ∈ ts, x < 2 ^ 64) ∧ Mod (fun _ => False) w wr
set_option maxHeartbeats 4000000 in
set_option maxRecDepth 100000 in
theorem dtells_walk (A0 A2 : Option Addr) (n0 c0 n2 c2 : Nat) (zs rs : List Nat) (how at' n : Int) (by_ : Nat) (w : World) (hs : Rds w w.heap.size A0 n0 (cellsU zs)) (hz : ∀ x ∈ zs, x < 2 ^ 64)
    (hr : Rds w w.heap.size A2 n2 (cells8 rs)) (hrl : lt256 rs) (hrc : n2 ≤ c2 ∧ c2 ≤ maxLen) (hn : FitI n) (hho : FitI how) (hby : by_ < 256) (h200 : n2 ≤ 200) :
    Calls Try.prog 5 #[.slice A0 n0 c0, .int .i64 how, .slice A2 n2 c2, .int .i64 at', .int .u8 (by_ : Int), .int .i64 n] w fun e w' => e = .returned (.bool true) ∧ Mod (fun _ => False) w w' := by
  have Hs := Lib.hid hs; have Hz := Lib.hid hz; have Hr := Lib.hid hr; have Hrl := Lib.hid hrl; have Hrc := Lib.hid hrc; have Hn := Lib.hid hn; have Hby := Lib.hid hby; have Hho := Lib.hid hho
  clear hs hz hr hrl hrc hn hby hho
  go_enter Try.func5, Try.ntmps5
  go_wp2_with fail
  refine (values_any A0 n0 c0 zs how _ Hs.out Hz.out).mono ?_
  rintro e w1 ⟨v1, ts0, rfl, ho1, hl1, hu1, hm1⟩
  have V0 : Hid (ValsMore w w1 0 v1) := Lib.hid ⟨ts0, ho1, by omega, hu1, hm1⟩
  clear ho1 hl1 hu1 hm1 Hs Hz
  go_upto_if 39 with fail
  go_cut [13] (fun s13 wc => ValsMore w wc 266 s13)
  case first =>
    obtain ⟨j, hj, hj8⟩ : ∃ j : Nat, bits .and .i64 (how / 256) 7 = (j : Int) ∧ j < 8 := and_nat (how / 256) 7 3 rfl (by omega)
    by_cases hj0 : j = 0
    · have hjb : ((j : Int) == 0) = true := by simp; omega
      obtain ⟨k, hk, hk16⟩ : ∃ k : Nat, bits .and .i64 (how / 2048) 15 = (k : Int) ∧ k < 16 := and_nat (how / 2048) 15 4 rfl (by omega)
      obtain ⟨q, hq⟩ : ∃ q : Nat, q = 250 + k := ⟨_, rfl⟩
      have hqi : (250 : Int) + (k : Int) = (q : Int) := by omega
      have hq266 : q ≤ 266 := by omega
      rw [hj, hjb]
      clear hj0 hq hj
      go_wp2_with fail
      go_loopg [13, 14] q (fun l s13 s14 wr => ∃ i : Nat, i + l = q ∧ s14 = .int .i64 (i : Int) ∧ ValsMore w wr i s13)
      case atStart => exact ⟨0, by omega, rfl, V0.out⟩
      case round =>
        obtain ⟨i, hil, rfl, ts, hown, htl, ht64, hm⟩ := hrel
        have Hown := Lib.hid hown; have Htl := Lib.hid htl; have Ht64 := Lib.hid ht64; have Hm := Lib.hid hm; have Hil := Lib.hid hil
        clear hown htl ht64 hm hil V0
        have hiq : i ≤ q := by have := Hil.out; omega
        have hi0 : (0 : Int) ≤ (i : Int) := by omega
        by_cases hin : i < q
        · have hini : (i : Int) < (q : Int) := by omega
          obtain ⟨f, hf⟩ : ∃ f : Nat, f = 2 * by_ + 1 := ⟨_, rfl⟩
          have Hby64 : Hid (∀ W, Calls Try.prog 13 #[.int .u8 (by_ : Int)] W fun e w' => e = .returned (.int .u64 (f : Int)) ∧ W = w') := Lib.hid (fun W => by rw [hf]; exact by64_any by_ W Hby.out)
          obtain ⟨y, hy, hy64⟩ := wrapU_ex ((i : Int) * (f : Int))
          have hr1 : (cellsU ts).length + 1 ≤ maxLen := by rw [cellsU_length]; have := Htl.out; unfold maxLen; omega
          have hr2 : ((cellsU ts).length + 1) * 8 ≤ 140737488355328 := by rw [cellsU_length]; have := Htl.out; omega
          have Hr1 := Lib.hid hr1; have Hr2 := Lib.hid hr2; have Hy64 := Lib.hid hy64
          have hsz := Hm.out.size
          clear hf hr1 hr2 hy64
          go_wp2_with fail
          refine (Hby64.out _).mono ?_
          rintro e w2 ⟨rfl, rfl⟩
          go_wp2_with (at_builtin; refine wpList_app1 rfl (.tmp 48) (.tmp 54) _ rfl eltU rfl Hown.out rfl rfl rfl Hr1.out Hr2.out hsz ?_; intro v' w2 HO HBl)
          have HV : Hid (ValsMore w w2 (i + 1) v') := Lib.hid ⟨ts ++ [y], by rw [cellsU_snoc]; exact HO.out, by rw [List.length_append, List.length_singleton]; have := Htl.out; omega, (fun x hx => by
            rcases List.mem_append.1 hx with hx | hx
            · exact Ht64.out x hx
            · rw [List.mem_singleton.1 hx]; exact Hy64.out), Hm.out.trans (Mod.of_below HBl.out) (fun i hi h => by omega)⟩
          clear HO HBl
          go_roundg (gk - 1)
          case measure => have := Hil.out; omega
          case rel => exact ⟨i + 1, by have := Hil.out; omega, by go_num, HV.out⟩
        · have hini : ¬ (i : Int) < (q : Int) := by omega
          go_wp2_with fail
          go_meet
          case rel => exact ⟨ts, Hown.out, by have := Htl.out; omega, Ht64.out, Hm.out⟩
    · have hjb : ((j : Int) == 0) = false := by simp; omega
      clear hj0
      go_wp2_with fail
      go_meet
      case rel =>
        obtain ⟨ts, h1, h2, h3, h4⟩ := V0.out
        exact ⟨ts, h1, by omega, h3, h4⟩
  case rest =>
  obtain ⟨ts, ho1, hl1, hu1, hm1⟩ := hcut
  obtain ⟨A1, lv, c1, rfl, HL, hLc, hr1⟩ := own_formUN ho1
  have hlv : lv ≤ 326 := by have := HL.out; omega
  obtain ⟨tw, htw⟩ : ∃ tw, (encD ts).getD [] = tw := ⟨_, rfl⟩
  obtain ⟨bk, hbk⟩ : ∃ bk, (encD ts).isSome = bk := ⟨_, rfl⟩
  have h256 : lt256 tw := by
    rw [← htw]
    cases he : encD ts with
    | none => exact lt256_nil
    | some bs => exact encD_256 he
  have hlen : tw.length ≤ 5500 := by
    rw [← htw]
    cases he : encD ts with
    | none => exact Nat.zero_le _
    | some bs =>
      have h1 := encD_len hu1 he
      have h2 := HL.out
      show bs.length ≤ 5500
      omega
  obtain ⟨s, hss⟩ : ∃ s, strOf tw = s := ⟨_, rfl⟩
  have Hr1 := Lib.hid hr1; have Hm1 := Lib.hid hm1; have Hu1 := Lib.hid hu1; have Htw := Lib.hid htw; have Hbk := Lib.hid hbk; have H256 := Lib.hid h256; have Hlen := Lib.hid hlen; have Hss := Lib.hid hss
  clear ho1 hr1 hm1 hu1 htw hbk h256 hlen hss V0 hl1
  go_wp2_with fail
  refine (rdenc_any A1 lv c1 _ ts wc Hr1.out (Nat.le_refl _) Hu1.out (by omega)).mono ?_
  intro e w4 hE
  obtain ⟨A6, c6, rfl, hc6, hcm6, hr6, hm4⟩ := hE.any
  rw [Htw.out] at hc6 hr6 ⊢
  rw [Hbk.out]
  obtain ⟨q, hq⟩ : ∃ q, tw.length = q := ⟨_, rfl⟩
  rw [hq] at hc6 hr6 ⊢
  have Hr6 := Lib.hid hr6; have Hm4 := Lib.hid (Hm1.out.trans hm4 (fun _ _ h => h)); have Hr14 := Lib.hid (Hr1.out.new hm4).fit; have Hq := Lib.hid hq; have Hcm6 := Lib.hid hcm6
  have hq12 : q ≤ 5500 := by rw [← Hq.out]; exact Hlen.out
  clear hE hm4 hr6 hq hcm6 Hr1 Hm1
  go_wp2_with fail
  refine (denc_any A1 lv c1 _ ts w4 Hr14.out (Nat.le_refl _) Hu1.out (by omega)).mono ?_
  intro e w5 hE
  obtain ⟨A7, c7, rfl, _, _, hr7, hm5⟩ := hE.any
  rw [Htw.out, Hq.out] at hr7 ⊢
  rw [Hbk.out]
  have hcv1 : (convert 27 9 (.slice A6 q c6)).run Try.prog w5 = .ok (.string s) w5 := by
    rw [← Hss.out]
    exact conv_rds Try.underlying27 Try.underlying5 Try.underlying9 w5 (Hr6.out.new hm5) H256.out
  have hcv2 : (convert 27 9 (.slice A7 q c7)).run Try.prog w5 = .ok (.string s) w5 := by
    rw [← Hss.out]
    exact conv_rds Try.underlying27 Try.underlying5 Try.underlying9 w5 hr7 H256.out
  have hbb0 : (bk != bk) = false := by simp
  have hstr : (s.toList != s.toList) = false := by simp
  have Hm7 := Lib.hid (Hm4.out.trans hm5 (fun _ _ h => h)); have Hr7 := Lib.hid (Hr6.out.new hm5).fit
  clear hE hm5 hr7 Hm4 Hr6 Hr14 Hss Hbk
  have hr1 : ([] : List Value).length + q ≤ maxLen := by unfold maxLen; simp; omega
  have hr2 : (([] : List Value).length + q) * 1 ≤ 140737488355328 := by simp; omega
  have h0m : (0 : Nat) ≤ maxLen := Nat.zero_le _
  obtain ⟨w7, rfl⟩ : ∃ w7 : World, w7 = w5 := ⟨_, rfl⟩
  go_upto_if 81 with (at_builtin; refine wpList_app rfl (.tmp 76) (.tmp 77) _ rfl elt8 rfl (Own.lit w7 5 #[] h0m) rfl (Hr7.out.alloc (Nat.le_refl _) _) (cells8_one tw) hr1 hr2 (le_alloc _ _) ?_; intro v' w10 HO HBl HG; clear HG; obtain ⟨Au, cu, rfl, hAu⟩ := u_formN8 (bs := tw) HO.out Hq.out; have HAu := Lib.hid hAu; clear hAu)
  have Hm10 : Hid (Mod (fun _ => False) w7 w10) := Lib.hid (((Mod.refl (fun _ => False) w7).alloc _).trans (Mod.of_below HBl.out) (fun i hi h => by omega))
  go_cut [20] (fun s16 wc => ∃ (k : Nat) (us : List Nat), s16 = .int .i64 (k : Int) ∧ k ≤ q ∧ us.length = q ∧ lt256 us ∧ Own w7.heap.size wc 5 (.slice Au q cu) (cells8 us) ∧ Mod (fun _ => False) w7 wc)
  case first =>
    clear hr1 hr2 h0m
    by_cases h0 : 0 < q
    · obtain ⟨gu, rfl, hgB, hgl⟩ := HAu.out.2.2 h0
      obtain ⟨x, hx, hx4⟩ : ∃ x : Nat, bits .and .i64 at' 65535 = (x : Int) ∧ x < 65536 := and_nat at' 65535 16 rfl (by omega)
      obtain ⟨k, hk, hkl⟩ : ∃ k : Nat, (x : Int) % (q : Int) = (k : Int) ∧ k < q := ⟨x % q, by rw [Int.natCast_emod], Nat.mod_lt _ h0⟩
      have hown : Own w7.heap.size w10 5 (.slice (some ⟨gu, 0, none⟩) q cu) (cells8 tw) := HO.out
      obtain ⟨⟨u0, hu0⟩, hfz, hset⟩ := own_set (b := by_) hown Hq.out.symm hkl
      have hk0 : (0 : Int) ≤ (k : Int) := by omega
      have hk1 : (k : Int) < (q : Int) := by omega
      have hkk : k ≤ q := by omega
      have Hset := Lib.hid hset
      have Hgg : Hid (w7.heap.size ≤ gu) := Lib.hid hgB
      clear hset hown hgB hgl
      go_wp2_with fail
      go_meet
      case rel => exact ⟨k, tw.set k by_, rfl, hkk, by rw [List.length_set, Hq.out], (fun z hz => (List.mem_or_eq_of_mem_set hz).elim (fun h => H256.out z h) (fun h => h ▸ Hby.out)), Hset.out, Hm10.out.setCell (fun h => absurd h (by have := Hgg.out; simp; omega)) _⟩
    · go_wp2_with fail
      go_meet
      case rel => exact ⟨0, tw, rfl, Nat.zero_le _, Hq.out, H256.out, HO.out, Hm10.out⟩
  case rest =>
    obtain ⟨k, us, rfl, hkq, hul, hu256, hown, hm11⟩ := hcut
    have Hmc := Lib.hid (Hm7.out.trans hm11 (fun _ _ h => h))
    have H0 := Lib.hid (Hr.out.new Hmc.out).fit; have H6 := Lib.hid (Hr7.out.new hm11).fit; have HU := Lib.hid (Own.rds8 hown hul).fit; have Hul := Lib.hid hul; have Hu256 := Lib.hid hu256
    have hkc : (k : Int) ≤ (c6 : Int) := by omega
    have hk0 : (0 : Int) ≤ (k : Int) := by omega
    have hr3 : (cells8 tw).length + 1 ≤ maxLen := by rw [cells8_length, Hq.out]; unfold maxLen; omega
    have hr4 : ((cells8 tw).length + 1) * 1 ≤ 140737488355328 := by rw [cells8_length, Hq.out]; omega
    have Hone : Hid (∀ u ∈ [Value.int .u8 (by_ : Int)], u.oneCell' = true) := Lib.hid (by simp [Value.oneCell'])
    have Hone6 : Hid (∀ u ∈ cells8 tw, u.oneCell' = true) := Lib.hid (cells8_one tw)
    have Hcu := Lib.hid (HAu.out.1); have Hcmu := Lib.hid HAu.out.2.1
    clear hul hu256 hown hm11 HO HBl HAu Hm10 Hr7 Hm7
    go_upto_region 18 with fail
    go_cut [103, 104, 105] (fun s67 s68 s69 wd => ∃ lit : Nat, s67 = .slice (some ⟨lit, 0, none⟩) 5 5 ∧ s68 = .int .i64 5 ∧ s69 = .int .i64 0 ∧ Rows5b wd 6000 lit ∧ Mod (fun _ => False) wc wd)
    case first =>
      go_region_held_law (fun w' => Below wc.heap.size wc w') (repeat' first | (with_reducible exact S93.out) | (with_reducible exact S90.out) | (with_reducible exact Below.refl _ _) | (with_reducible refine Below.drew ?_) | (with_reducible refine below_alloc ?_ (Nat.le_refl _) _))
        (first
          | (refine step_app rfl (.tmp 97) (.tmp 98) _ rfl elt8 (B := wc.heap.size) (v := .slice (some ⟨_, 0, none⟩) 0 0) (xs := []) rfl (by repeat' first | (with_reducible refine Own.drew ?_) | (exact own_lit0 (by simp) (by first | exact Nat.le_refl _ | simp)) | (with_reducible refine Own.alloc ?_ _)) rfl (H6.out.below (by repeat' first | (with_reducible exact S93.out) | (with_reducible exact S90.out) | (with_reducible exact Below.refl _ _) | (with_reducible refine Below.drew ?_) | (with_reducible refine below_alloc ?_ (Nat.le_refl _) _))) Hone6.out hr1 hr2 (Below.size (B := wc.heap.size) (by repeat' first | (with_reducible exact S93.out) | (with_reducible exact S90.out) | (with_reducible exact Below.refl _ _) | (with_reducible refine Below.drew ?_) | (with_reducible refine below_alloc ?_ (Nat.le_refl _) _))) ?_; intro v90 w90 O90 B90 G90; have P90 : Hid (Own wc.heap.size w90 5 v90 (cells8 tw)) := Lib.hid O90.out; have S90 : Hid (Below wc.heap.size wc w90) := Lib.hid (Below.trans (by repeat' first | (with_reducible exact S93.out) | (with_reducible exact S90.out) | (with_reducible exact Below.refl _ _) | (with_reducible refine Below.drew ?_) | (with_reducible refine below_alloc ?_ (Nat.le_refl _) _)) B90.out))
          | (refine step_app rfl (.tmp 99) (.tmp 101) _ rfl elt8 (B := wc.heap.size) (v := v90) (xs := cells8 tw) rfl (by repeat' first | (with_reducible exact P90.out) | (with_reducible refine Own.drew ?_) | (with_reducible refine Own.alloc ?_ _)) rfl (Has.rds (xs := [.int .u8 (by_ : Int)]) (by repeat' first | ((with_reducible refine has_lit ?_); simp; done) | (with_reducible refine Has.drew ?_) | (with_reducible refine Has.alloc ?_ _) | (with_reducible refine Has.far ?_ G90.out.1 (own_ne (by first | (simp; done) | (simp; omega)))))) Hone.out hr3 hr4 (Below.size (B := wc.heap.size) (by repeat' first | (with_reducible exact S93.out) | (with_reducible exact S90.out) | (with_reducible exact Below.refl _ _) | (with_reducible refine Below.drew ?_) | (with_reducible refine below_alloc ?_ (Nat.le_refl _) _))) ?_; intro v93 w93 O93 B93 G93; clear G93; obtain ⟨A93, c93, rfl, hc93, hcm93, _⟩ := u_formN8 (bs := tw ++ [by_]) (n := q + 1) (by rw [cells8_snoc]; exact O93.out) (by rw [List.length_append, Hq.out]; rfl); have S93 : Hid (Below wc.heap.size wc w93) := Lib.hid (Below.trans (by repeat' first | (with_reducible exact S93.out) | (with_reducible exact S90.out) | (with_reducible exact Below.refl _ _) | (with_reducible refine Below.drew ?_) | (with_reducible refine below_alloc ?_ (Nat.le_refl _) _)) B93.out)))
      all_goals
        have HR5 : Hid (Rows5b (w93.alloc (.cells #[.slice A2 n2 c2, .slice A6 q c6, .slice Au q cu, .slice A6 k c6, .slice A93 (q + 1) c93] 27)) 6000 w93.heap.size) := Lib.hid (rows5b_new (H0.out.below S93.out).fit (by omega) Hrc.out Hrl.out (H6.out.below S93.out).fit (by omega) ⟨hc6, Hcm6.out⟩ H256.out (HU.out.below S93.out).fit ⟨Hcu.out, Hcmu.out⟩ Hu256.out hkq (Own.rds8 (xs := tw ++ [by_]) (by rw [cells8_snoc]; exact O93.out) (by rw [List.length_append, Hq.out]; rfl)) (by omega) ⟨hc93, hcm93⟩ (fun x hx => by
          rcases List.mem_append.1 hx with hx | hx
          · exact H256.out x hx
          · rw [List.mem_singleton.1 hx]; exact Hby.out))
        have HM5 : Hid (Mod (fun _ => False) wc (w93.alloc (.cells #[.slice A2 n2 c2, .slice A6 q c6, .slice Au q cu, .slice A6 k c6, .slice A93 (q + 1) c93] 27))) := Lib.hid ((mod_below S93.out).alloc _)
        clear hc93 hcm93
        go_wp2_with fail
        go_meet
        exact ⟨_, rfl, rfl, rfl, HR5.out, HM5.out⟩
    case rest =>
      obtain ⟨lit, rfl, rfl, rfl, hR5, hmd⟩ := hcut
      have HR5 := Lib.hid hR5; have HmL := Lib.hid (Hmc.out.trans hmd (fun _ _ h => h))
      clear hR5 hmd H0 H6 HU Hul Hu256 Hone Hone6 hr1 hr2 hr3 hr4 h0m Hmc hkc hk0 hkq Hr Hrl Hrc Hby H256 Hlen Hcu Hcmu Hcm6
      generalize wc = wL at *
      go_wp2_with fail
      go_loopg [105] 5 (fun l s69 wr => ∃ j : Nat, j + l = 5 ∧ s69 = .int .i64 (j : Int) ∧ Mod (fun _ => False) wL wr)
      case atStart => exact ⟨0, rfl, rfl, Mod.refl _ _⟩
      case round =>
        obtain ⟨j, hjl, rfl, hm⟩ := hrel
        have Hmj := Lib.hid hm; have Hjl := Lib.hid hjl
        clear hm hjl
        by_cases hj : j < 5
        · have hj0 : (0 : Int) ≤ (j : Int) := by omega
          have hjb : decide ((j : Int) < 5) = true := by simp; omega
          obtain ⟨A, nc, cc, cs, hcell, hsc, hnc2, hncc, hccm, hlt⟩ := (HR5.out.mod Hmj.out).2 j hj
          obtain ⟨nm, hnm, hnm64⟩ : ∃ nm : Nat, bits .and .i64 n 63 = (nm : Int) ∧ nm < 64 := and_nat n 63 6 rfl (by omega)
          have HN4 : Hid (Nums4 (wr.alloc (.cells #[.int .i64 n, .int .i64 (nm : Int), .int .i64 (lv : Int), .int .i64 (-1)] 3)) wr.heap.size) := Lib.hid (nums4_new Hn.out ⟨by omega, by omega⟩ ⟨by omega, by omega⟩ ⟨by decide, by decide⟩)
          obtain ⟨wI, hwI⟩ : ∃ wI, wI = wr.alloc (.cells #[.int .i64 n, .int .i64 (nm : Int), .int .i64 (lv : Int), .int .i64 (-1)] 3) := ⟨_, rfl⟩
          rw [← hwI] at HN4
          have hmI : Mod (fun _ => False) wr wI := by rw [hwI]; exact (Mod.refl _ _).alloc _
          have HmI := Lib.hid (Hmj.out.trans hmI (fun _ _ h => h)); have HWI := Lib.hid hwI; have Hsc := Lib.hid (hsc.new hmI).fit; have Hlt := Lib.hid hlt; have Hccm := Lib.hid hccm
          clear hsc hlt hwI hmI hccm
          go_wp2_with fail
          rw [← HWI.out]
          clear HWI hcell
          generalize wr.heap.size = lit2 at *
          obtain ⟨go, rfl⟩ : ∃ go : Nat, go = gk := ⟨_, rfl⟩
          go_loopg [116] 4 (fun l s80 wq => ∃ i : Nat, i + l = 4 ∧ s80 = .int .i64 (i : Int) ∧ Mod (fun _ => False) wI wq)
          case atStart => exact ⟨0, rfl, rfl, Mod.refl _ _⟩
          case round =>
            obtain ⟨i, hil, rfl, hm⟩ := hrel
            have Hm2 := Lib.hid hm; have Hil := Lib.hid hil
            clear hm hil
            by_cases hi : i < 4
            · have hi0 : (0 : Int) ≤ (i : Int) := by omega
              obtain ⟨m, hmf, hcell⟩ := (HN4.out.mod Hm2.out).2 i hi
              clear hmf
              have Hr := Lib.hid (Hsc.out.new Hm2.out).fit
              obtain ⟨N, hN⟩ : ∃ N : Nat, max 0 (min m 65535) = (N : Int) := ⟨(max 0 (min m 65535)).toNat, by omega⟩
              have HNN := Lib.hid hN
              clear hN
              go_wp2_with fail
              refine (ddec_any A nc cc _ N m cs wr Hr.out (Nat.le_refl _) Hlt.out hncc Hccm.out (by omega) HNN.out).mono ?_
              intro e x1 hE
              obtain ⟨Ay, cy, rfl, hcy, hry, hmy⟩ := hE.any
              have hlen : ((decD N cs).getD []).length ≤ 1000000 := by
                have hNb : N ≤ 65535 := by have := HNN.out; omega
                cases hd : decD N cs with
                | none => exact Nat.zero_le _
                | some us =>
                  have := (decD_some Hlt.out hd).1
                  show us.length ≤ 1000000
                  omega
              obtain ⟨b2, hb2⟩ : ∃ b2, b2 = (decD N cs).isSome := ⟨_, rfl⟩
              obtain ⟨ty, hty⟩ : ∃ ty, ty = (decD N cs).getD [] := ⟨_, rfl⟩
              rw [← hb2, ← hty]
              rw [← hty] at hry hlen
              have Hb2 := Lib.hid hb2; have Hty := Lib.hid hty; have Hlen := Lib.hid hlen
              have Hry := Lib.hid hry; have Hmy := Lib.hid (Hm2.out.trans hmy (fun _ _ h => h)); have Hry0 := Lib.hid (Hr.out.new hmy).fit
              clear hE hb2 hty hlen hry hmy hcy Hr hcell
              go_wp2_with fail
              refine (rddec_any A nc cc _ N m cs x1 Hry0.out (Nat.le_refl _) Hlt.out hncc Hccm.out (by omega) HNN.out).mono ?_
              intro e x2 hE
              obtain ⟨Az, cz, rfl, hcz, hrz, hmz⟩ := hE.any
              rw [← Hb2.out, ← Hty.out]
              rw [← Hty.out] at hrz
              have Hrz := Lib.hid hrz; have Hmz := Lib.hid (Hmy.out.trans hmz (fun _ _ h => h)); have Hryz := Lib.hid (Hry.out.new hmz).fit
              clear hE hrz hmz hcz Hmy Hry Hry0
              have hbb2 : (b2 != b2) = false := by simp
              go_wp2_with fail
              refine (same_words Ay Az ty.length cy cz _ _ ty x2 Hryz.out Hrz.out Hlen.out).mono ?_
              rintro e x3 ⟨rfl, hm3⟩
              have Hm3 := Lib.hid (Hmz.out.trans hm3 (fun _ _ h => h))
              clear hm3 Hmz Hrz Hryz hbb2
              go_wp2_with fail
              go_roundg (gk - 1)
              case measure => have := Hil.out; omega
              case rel => exact ⟨i + 1, by have := Hil.out; omega, by go_num, Hm3.out⟩
            · go_wp2_with fail
              go_roundg (go - 1)
              case measure => have := Hjl.out; omega
              case rel => exact ⟨j + 1, by have := Hjl.out; omega, by go_num, HmI.out.trans Hm2.out (fun _ _ h => h)⟩
        · go_wp2_with fail
          refine (dawake_any _).mono ?_
          rintro e wf ⟨rfl, hmf⟩
          have Hmf := Lib.hid ((HmL.out.trans Hmj.out (fun _ _ h => h)).trans hmf (fun _ _ h => h))
          clear hmf
          go_wp2_with fail
          go_ret
          exact ⟨rfl, Hmf.out⟩
end Go.Proofs.Ytldjobaafambbaa

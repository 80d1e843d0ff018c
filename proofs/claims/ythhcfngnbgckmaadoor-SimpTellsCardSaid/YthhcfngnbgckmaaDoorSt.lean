/- SimpTells' walk. -/
import Derived.Test.YthhcfngnbgckmaaDoorSs
import Derived.Deep.RegionHeldLaw
import Derived.Deep.DeepCutAuto
import Derived.Deep.CutBlock
namespace Go.Proofs.YthhcfngnbgckmaaDoor
open Go.RowKit

theorem oneU' (k : IntKind) (z : Int) : (Value.int k z).oneCell' = true := rfl
theorem cells_zeros (k : Nat) : List.replicate k (Value.int .u64 0) = cellsU (List.replicate k 0) := by simp [cellsU]
theorem cellsU_app (a b : List Nat) : cellsU a ++ cellsU b = cellsU (a ++ b) := by simp [cellsU]
theorem cellsU_one (bs : List Nat) : ∀ u ∈ cellsU bs, u.oneCell' = true := by
  intro u hu
  simp only [cellsU, List.mem_map] at hu
  obtain ⟨b, _, rfl⟩ := hu
  rfl
set_option maxHeartbeats 4000000 in
set_option maxRecDepth 100000 in
theorem simpTells_walk (A0 : Option Addr) (n0 c0 : Nat) (zs : List Nat) (how zeros at' n : Int) (by_ : Nat) (w : World) (hs : Rds w w.heap.size A0 n0 (cellsU zs)) (hz : ∀ x ∈ zs, x < 2 ^ 64) (hby : by_ < 2 ^ 64) (hn : FitI n) (hk : Kin w) :
    Calls Tryd.prog 3 #[.slice A0 n0 c0, .int .i64 how, .int .i64 zeros, .int .i64 at', .int .u64 (by_ : Int), .int .i64 n] w fun e w' => e = .returned (.bool true) ∧ Mod (fun _ => False) w w' := by
  have Hs := Lib.hid hs; have Hz := Lib.hid hz; have Hby := Lib.hid hby; have Hn := Lib.hid hn; have Hkin := Lib.hid hk
  clear hs hz hby hn hk
  obtain ⟨k, hk, hk9⟩ : ∃ k : Nat, bits .and .i64 zeros 511 = (k : Int) ∧ k < 512 := and_nat zeros 511 9 rfl (by omega)
  go_enter Tryd.func3, Tryd.ntmps3
  go_upto_region 1 with fail
  go_cut [13] (fun s13 wc => OwnN w.heap.size wc s13 600 ∧ Mod (fun _ => False) w wc)
  case first =>
    have hmk := mk_run (P := Tryd.prog) (k := k) eltU rfl (by omega) (by unfold maxLen; omega)
    have hkm : k ≤ maxLen := by unfold maxLen; omega
    go_region_held_law (fun w' => Mod (fun _ => False) w w') (first | exact (Mod.refl _ _).drew | exact (Mod.refl _ _).drew.alloc _ | exact S7.out | exact S5.out | exact S5.out.alloc _)
      (first
        | (go_at_call 5; refine (values_any A0 n0 c0 zs how _ (by first | exact Hs.out | exact Rds.fit (Rds.alloc (w := w.drew) Hs.out (Nat.le_refl _) _)) Hz.out).mono ?_; rintro e w5 ⟨v, ts, rfl, hown, hl60, hf, hm5⟩; obtain ⟨A5, c5, rfl, _, hr5⟩ := own_formU hown; have S5 : Hid (Mod (fun _ => False) w w5) := Lib.hid (Mod.trans (by first | exact (Mod.refl _ _).drew | exact (Mod.refl _ _).drew.alloc _) hm5 (fun _ _ h => h)); have M5 := Lib.hid hm5; have R5 := Lib.hid hr5; have L5 := Lib.hid hl60; have F5 := Lib.hid hf; clear hown hm5 hr5 hl60 hf)
        | (refine step_app rfl (.tmp 30) (.tmp 33) _ rfl eltU (B := w.heap.size) rfl (M5.out.owns (own_made w.drew 23 (.int .u64 0) k hkm) (fun _ _ h => h)) rfl R5.out (cellsU_one _) (by rw [List.length_replicate]; unfold maxLen; have := L5.out; omega) (by rw [List.length_replicate]; have := L5.out; omega) S5.out.size ?_; intro v7 w7 O7 B7 G7; clear G7; have S7 : Hid (Mod (fun _ => False) w w7) := Lib.hid (S5.out.trans (Mod.of_below B7.out) (fun i hi h => by omega)))
        | (refine step_app rfl (.tmp 30) (.tmp 33) _ rfl eltU (B := w.heap.size) rfl ((own_made w5 23 (.int .u64 0) k hkm).mono S5.out.size) rfl (R5.out.alloc (Nat.le_refl _) _) (cellsU_one _) (by rw [List.length_replicate]; unfold maxLen; have := L5.out; omega) (by rw [List.length_replicate]; have := L5.out; omega) (Nat.le_trans S5.out.size (le_alloc _ _)) ?_; intro v7 w7 O7 B7 G7; clear G7; have S7 : Hid (Mod (fun _ => False) w w7) := Lib.hid ((S5.out.alloc _).trans (Mod.of_below B7.out) (fun i hi h => by omega))))
    all_goals
      have HN : Hid (OwnN w.heap.size w7 v7 600) := Lib.hid ⟨List.replicate k 0 ++ ts, by rw [← cellsU_app, ← cells_zeros]; exact O7.out, by rw [List.length_append, List.length_replicate]; have := L5.out; omega, fun x hx => (by
        rcases List.mem_append.1 hx with hx | hx
        · rw [List.eq_of_mem_replicate hx]; exact Nat.two_pow_pos _
        · exact F5.out x hx)⟩
      simp only [List.getElem_toArray, List.getElem_cons_succ, List.getElem_cons_zero, List.set_cons_succ, List.set_cons_zero]
      go_wp2_with fail
      go_meet
      exact ⟨HN.out, S7.out⟩
  case rest =>
    obtain ⟨hN, hm⟩ := hcut
    obtain ⟨Av, lv, cv, ts, rfl, hvc, htl, hl600, hown, hf⟩ := hN.form
    have Hm := Lib.hid hm; have Hown := Lib.hid hown; have Htl := Lib.hid htl; have Hf := Lib.hid hf
    obtain ⟨g, hg⟩ : ∃ g : Int, bits .and .i64 zeros 512 = g := ⟨_, rfl⟩
    clear hN hm htl hown hf hk hk9
    go_upto_if 37 with fail
    go_cut [13] (fun s13 wc => OwnN w.heap.size wc s13 1200 ∧ Mod (fun _ => False) w wc)
    case first =>
      by_cases hg0 : 0 < g
      · obtain ⟨k2, hk2, hk29⟩ : ∃ k2 : Nat, bits .and .i64 (zeros / 1024) 511 = (k2 : Int) ∧ k2 < 512 := and_nat (zeros / 1024) 511 9 rfl (by omega)
        have hr1 : (cellsU ts).length + k2 ≤ maxLen := by rw [cellsU_length, Htl.out]; unfold maxLen; omega
        have hr2 : ((cellsU ts).length + k2) * 8 ≤ 140737488355328 := by rw [cellsU_length, Htl.out]; omega
        have hsz := Hm.out.size
        go_wp2_with (at_builtin; refine wpList_zeros rfl (.tmp 38) (.tmp 41) _ 3 rfl eltU (kn := .i64) Tryd.underlying3 rfl (oneU' _ _) rfl Hown.out rfl hr1 hr2 hsz ?_; intro v' w2 HO HBl)
        have HN : Hid (OwnN w.heap.size w2 v' 1200) := Lib.hid ⟨ts ++ List.replicate k2 0, by rw [← cellsU_app, ← cells_zeros]; exact HO.out, by rw [List.length_append, List.length_replicate, Htl.out]; omega, fun x hx => (by
          rcases List.mem_append.1 hx with hx | hx
          · exact Hf.out x hx
          · rw [List.eq_of_mem_replicate hx]; exact Nat.two_pow_pos _)⟩
        go_meet
        exact ⟨HN.out, Hm.out.trans (Mod.of_below HBl.out) (fun i hi h => by omega)⟩
      · go_wp2_with fail
        go_meet
        exact ⟨⟨ts, Hown.out, by rw [Htl.out]; omega, Hf.out⟩, Hm.out⟩
    case rest =>
      obtain ⟨hN, hm⟩ := hcut
      clear Hm Hown Htl Hf hg hvc hl600
      obtain ⟨Av, lv, cv, ts, rfl, hvc, htl, hl12, hown, hf⟩ := hN.form
      have Hm := Lib.hid hm; have Hown := Lib.hid hown; have Htl := Lib.hid htl; have Hf := Lib.hid hf
      have Hr : Hid (Rds wc wc.heap.size Av lv (cellsU ts)) := Lib.hid (hown.rds htl)
      clear hN hm htl hown hf
      go_wp2_with fail
      refine (enc_any Av lv cv _ ts wc Hr.out (Nat.le_refl _) Hf.out (by omega) hvc (Hkin.out.new Hm.out)).mono ?_
      intro e w5 hE
      obtain ⟨A5, c5, rfl, hc5, hr5, hm5⟩ := hE.any
      have hfit := getD_fit (o := encS ts) (n := 1200) (fun ws h => by
        have := encS_len _ ts ws rfl h
        exact ⟨by have := Htl.out; omega, this.2⟩)
      obtain ⟨b, hb⟩ : ∃ b, b = (encS ts).isSome := ⟨_, rfl⟩
      obtain ⟨tw, htw⟩ : ∃ tw, tw = (encS ts).getD [] := ⟨_, rfl⟩
      rw [← hb, ← htw]
      rw [← htw] at hc5 hr5 hfit
      obtain ⟨q, hq⟩ : ∃ q, tw.length = q := ⟨_, rfl⟩
      rw [hq] at hc5 hr5 hfit ⊢
      have Hb := Lib.hid hb; have Htw := Lib.hid htw; have Hq := Lib.hid hq
      have Hr5 := Lib.hid hr5; have Hm5 := Lib.hid (Hm.out.trans hm5 (fun _ _ h => h)); have Hrv5 := Lib.hid (Hr.out.new hm5).fit; have Ht64 := Lib.hid hfit.2
      have hq12 : q ≤ 1200 := hfit.1
      clear hE hb htw hq hr5 hm5 hfit Hm Hown Hr
      go_wp2_with fail
      refine (simple_any Av lv cv _ ts w5 Hrv5.out (Nat.le_refl _) Hf.out (by omega) hvc).mono ?_
      intro e w6 hE
      obtain ⟨A6, c6, rfl, hc6, hr6, hm6⟩ := hE.any
      rw [← Hb.out, ← Htw.out, Hq.out]
      rw [← Htw.out, Hq.out] at hc6 hr6
      have Hr6 := Lib.hid hr6; have Hm6 := Lib.hid (Hm5.out.trans hm6 (fun _ _ h => h)); have Hr56 := Lib.hid (Hr5.out.new hm6).fit
      clear hE hr6 hm6 Hm5 Hr5 Hrv5
      have hbb : (b != b) = false := by simp
      go_wp2_with fail
      refine (same_words A5 A6 q c5 c6 _ _ tw w6 Hr56.out Hr6.out (by omega)).mono ?_
      rintro e w7 ⟨rfl, hm7⟩
      have Hm7 := Lib.hid (Hm6.out.trans hm7 (fun _ _ h => h)); have Hr7 := Lib.hid (Hr6.out.new hm7).fit
      clear hm7 Hm6 Hr6 Hr56 hbb
      have hr1 : ([] : List Value).length + q ≤ maxLen := by unfold maxLen; simp; omega
      have hr2 : (([] : List Value).length + q) * 8 ≤ 140737488355328 := by simp; omega
      have h0m : (0 : Nat) ≤ maxLen := Nat.zero_le _
      go_upto_if 67 with (at_builtin; refine wpList_app rfl (.tmp 62) (.tmp 63) _ rfl eltU rfl (Own.lit w7 23 #[] h0m) rfl (Hr7.out.alloc (Nat.le_refl _) _) (cellsU_one tw) hr1 hr2 (le_alloc _ _) ?_; intro v' w10 HO HBl HG; clear HG; obtain ⟨Au, cu, rfl, hAu⟩ := u_formN (bs := tw) HO.out Hq.out; have HAu := Lib.hid hAu; clear hAu)
      have Hm10 : Hid (Mod (fun _ => False) w7 w10) := Lib.hid (((Mod.refl (fun _ => False) w7).alloc _).trans (Mod.of_below HBl.out) (fun i hi h => by omega))
      go_cut [19] (fun s19 wc => ∃ (k : Nat) (us : List Nat), s19 = .int .i64 (k : Int) ∧ k ≤ q ∧ us.length = q ∧ (∀ x ∈ us, x < 2 ^ 64) ∧ Own w7.heap.size wc 23 (.slice Au q cu) (cellsU us) ∧ Mod (fun _ => False) w7 wc)
      case first =>
        clear hr1 hr2 h0m
        by_cases h0 : 0 < q
        · obtain ⟨gu, rfl, hgB, hgl⟩ := HAu.out.2.2 h0
          obtain ⟨x, hx, hx4⟩ : ∃ x : Nat, bits .and .i64 at' 65535 = (x : Int) ∧ x < 65536 := and_nat at' 65535 16 rfl (by omega)
          obtain ⟨k, hk, hkl⟩ : ∃ k : Nat, (x : Int) % (q : Int) = (k : Int) ∧ k < q := ⟨x % q, by rw [Int.natCast_emod], Nat.mod_lt _ h0⟩
          have hown : Own w7.heap.size w10 23 (.slice (some ⟨gu, 0, none⟩) q cu) (cellsU tw) := HO.out
          have hkt : k < tw.length := by rw [Hq.out]; exact hkl
          obtain ⟨y, hy, hy64⟩ := xorU_ex tw[k] by_ (Ht64.out _ (List.getElem_mem hkt)) Hby.out
          have hcell : w10.cell? ⟨gu, k, none⟩ = some (.int .u64 (tw[k] : Int)) := by
            rw [Own.cell' hown rfl k (by rw [cellsU_length]; exact hkt), cellsU_get, List.getElem?_eq_getElem hkt]
            rfl
          obtain ⟨⟨u0, hu0⟩, hfz, hset⟩ := own_setU (b := y) hown Hq.out.symm hkl
          have hk0 : (0 : Int) ≤ (k : Int) := by omega
          have hk1 : (k : Int) < (q : Int) := by omega
          have hkk : k ≤ q := by omega
          obtain ⟨xk, hxk⟩ : ∃ xk, xk = tw[k] := ⟨_, rfl⟩
          rw [← hxk] at hy hcell
          have Hset := Lib.hid hset; have Hy64 := Lib.hid hy64
          have Hgg : Hid (w7.heap.size ≤ gu) := Lib.hid hgB
          clear hset hown hgB hgl hxk hu0 hy64
          go_wp2_with fail
          go_meet
          case rel => exact ⟨k, tw.set k y, rfl, hkk, by rw [List.length_set, Hq.out], (fun z hz => (List.mem_or_eq_of_mem_set hz).elim (fun h => Ht64.out z h) (fun h => h ▸ Hy64.out)), Hset.out, Hm10.out.setCell (fun h => absurd h (by have := Hgg.out; simp; omega)) _⟩
        · go_wp2_with fail
          go_meet
          case rel => exact ⟨0, tw, rfl, Nat.zero_le _, Hq.out, Ht64.out, HO.out, Hm10.out⟩
      case rest =>
        obtain ⟨k, us, rfl, hkq, hul, hu64, hown, hm11⟩ := hcut
        have Hmc := Lib.hid (Hm7.out.trans hm11 (fun _ _ h => h))
        have H0 := Lib.hid (Hs.out.new Hmc.out).fit; have H6 := Lib.hid (Hr7.out.new hm11).fit; have HU := Lib.hid (hown.rds hul).fit; have Hul := Lib.hid hul; have Hu64 := Lib.hid hu64
        have hkc : (k : Int) ≤ (c6 : Int) := by omega
        have hk0 : (0 : Int) ≤ (k : Int) := by omega
        have hr3 : (cellsU tw).length + 1 ≤ maxLen := by rw [cellsU_length, Hq.out]; unfold maxLen; omega
        have hr4 : ((cellsU tw).length + 1) * 8 ≤ 140737488355328 := by rw [cellsU_length, Hq.out]; omega
        have Hone : Hid (∀ u ∈ [Value.int .u64 (by_ : Int)], u.oneCell' = true) := Lib.hid (by simp [Value.oneCell'])
        have Hone6 : Hid (∀ u ∈ cellsU tw, u.oneCell' = true) := Lib.hid (cellsU_one tw)
        clear hul hu64 hown hm11 HO HBl HAu Hm10 Hr7 Hm7
        go_upto_region 13 with fail
        go_cut [94, 95, 96] (fun s94 s95 s96 wd => ∃ lit : Nat, s94 = .slice (some ⟨lit, 0, none⟩) 5 5 ∧ s95 = .int .i64 5 ∧ s96 = .int .i64 0 ∧ Rows5 wd lit ∧ Mod (fun _ => False) wc wd)
        case first =>
          go_region_held_law (fun w' => Below wc.heap.size wc w') (repeat' first | (with_reducible exact S93.out) | (with_reducible exact S90.out) | (with_reducible exact Below.refl _ _) | (with_reducible refine Below.drew ?_) | (with_reducible refine below_alloc ?_ (Nat.le_refl _) _))
            (first
              | (refine step_app rfl (.tmp 88) (.tmp 89) _ rfl eltU (B := wc.heap.size) (v := .slice (some ⟨_, 0, none⟩) 0 0) (xs := []) rfl (by repeat' first | (with_reducible refine Own.drew ?_) | (exact own_lit0 (by simp) (by first | exact Nat.le_refl _ | simp)) | (with_reducible refine Own.alloc ?_ _)) rfl (H6.out.below (by repeat' first | (with_reducible exact S93.out) | (with_reducible exact S90.out) | (with_reducible exact Below.refl _ _) | (with_reducible refine Below.drew ?_) | (with_reducible refine below_alloc ?_ (Nat.le_refl _) _))) Hone6.out hr1 hr2 (Below.size (B := wc.heap.size) (by repeat' first | (with_reducible exact S93.out) | (with_reducible exact S90.out) | (with_reducible exact Below.refl _ _) | (with_reducible refine Below.drew ?_) | (with_reducible refine below_alloc ?_ (Nat.le_refl _) _))) ?_; intro v90 w90 O90 B90 G90; have P90 : Hid (Own wc.heap.size w90 23 v90 (cellsU tw)) := Lib.hid O90.out; have S90 : Hid (Below wc.heap.size wc w90) := Lib.hid (Below.trans (by repeat' first | (with_reducible exact S93.out) | (with_reducible exact S90.out) | (with_reducible exact Below.refl _ _) | (with_reducible refine Below.drew ?_) | (with_reducible refine below_alloc ?_ (Nat.le_refl _) _)) B90.out))
              | (refine step_app rfl (.tmp 90) (.tmp 92) _ rfl eltU (B := wc.heap.size) (v := v90) (xs := cellsU tw) rfl (by repeat' first | (with_reducible exact P90.out) | (with_reducible refine Own.drew ?_) | (with_reducible refine Own.alloc ?_ _)) rfl (Has.rds (xs := [.int .u64 (by_ : Int)]) (by repeat' first | ((with_reducible refine has_lit ?_); simp; done) | (with_reducible refine Has.drew ?_) | (with_reducible refine Has.alloc ?_ _) | (with_reducible refine Has.far ?_ G90.out.1 (own_ne (by first | (simp; done) | (simp; omega)))))) Hone.out hr3 hr4 (Below.size (B := wc.heap.size) (by repeat' first | (with_reducible exact S93.out) | (with_reducible exact S90.out) | (with_reducible exact Below.refl _ _) | (with_reducible refine Below.drew ?_) | (with_reducible refine below_alloc ?_ (Nat.le_refl _) _))) ?_; intro v93 w93 O93 B93 G93; clear G93; obtain ⟨A93, c93, rfl, _⟩ := u_formN (bs := tw ++ [by_]) (n := q + 1) (by rw [cellsU_snoc]; exact O93.out) (by rw [List.length_append, Hq.out]; rfl); have S93 : Hid (Below wc.heap.size wc w93) := Lib.hid (Below.trans (by repeat' first | (with_reducible exact S93.out) | (with_reducible exact S90.out) | (with_reducible exact Below.refl _ _) | (with_reducible refine Below.drew ?_) | (with_reducible refine below_alloc ?_ (Nat.le_refl _) _)) B93.out)))
          all_goals
            have HR5 : Hid (Rows5 (w93.alloc (.cells #[.slice A0 n0 c0, .slice A6 q c6, .slice Au q cu, .slice A6 k c6, .slice A93 (q + 1) c93] 22)) w93.heap.size) := Lib.hid (rows5_new (H0.out.below S93.out).fit Hz.out (H6.out.below S93.out).fit Ht64.out (HU.out.below S93.out).fit Hu64.out hkq (Own.rds (xs := tw ++ [by_]) (by rw [cellsU_snoc]; exact O93.out) (by rw [List.length_append, Hq.out]; rfl)) (fun x hx => by
              rcases List.mem_append.1 hx with hx | hx
              · exact Ht64.out x hx
              · rw [List.mem_singleton.1 hx]; exact Hby.out))
            have HM5 : Hid (Mod (fun _ => False) wc (w93.alloc (.cells #[.slice A0 n0 c0, .slice A6 q c6, .slice Au q cu, .slice A6 k c6, .slice A93 (q + 1) c93] 22))) := Lib.hid ((mod_below S93.out).alloc _)
            go_wp2_with fail
            go_meet
            exact ⟨_, rfl, rfl, rfl, HR5.out, HM5.out⟩
        case rest =>
          obtain ⟨lit, rfl, rfl, rfl, hR5, hmd⟩ := hcut
          have HR5 := Lib.hid hR5; have HmL := Lib.hid (Hmc.out.trans hmd (fun _ _ h => h))
          clear hR5 hmd H0 H6 HU Hul Hu64 Hone Hone6 hr1 hr2 hr3 hr4 h0m Hmc hkc hk0 hkq Ht64 Hs Hz Hby
          generalize wc = wL at *
          go_wp2_with fail
          go_loopg [96] 5 (fun l s96 wr => ∃ j : Nat, j + l = 5 ∧ s96 = .int .i64 (j : Int) ∧ Mod (fun _ => False) wL wr)
          case atStart => exact ⟨0, rfl, rfl, Mod.refl _ _⟩
          case round =>
            obtain ⟨j, hjl, rfl, hm⟩ := hrel
            have Hmj := Lib.hid hm; have Hjl := Lib.hid hjl
            clear hm hjl
            by_cases hj : j < 5
            · have hj0 : (0 : Int) ≤ (j : Int) := by omega
              have hjb : decide ((j : Int) < 5) = true := by simp; omega
              obtain ⟨A, nc, cc, cs, hcell, hsc, hlt⟩ := (HR5.out.mod Hmj.out).2 j hj
              obtain ⟨nm, hnm, hnm64⟩ : ∃ nm : Nat, bits .and .i64 n 63 = (nm : Int) ∧ nm < 64 := and_nat n 63 6 rfl (by omega)
              have HN4 : Hid (Nums4 (wr.alloc (.cells #[.int .i64 n, .int .i64 (nm : Int), .int .i64 (lv : Int), .int .i64 (-1)] 3)) wr.heap.size) := Lib.hid (nums4_new Hn.out ⟨by omega, by omega⟩ ⟨by omega, by omega⟩ ⟨by decide, by decide⟩)
              obtain ⟨wI, hwI⟩ : ∃ wI, wI = wr.alloc (.cells #[.int .i64 n, .int .i64 (nm : Int), .int .i64 (lv : Int), .int .i64 (-1)] 3) := ⟨_, rfl⟩
              rw [← hwI] at HN4
              have hmI : Mod (fun _ => False) wr wI := by rw [hwI]; exact (Mod.refl _ _).alloc _
              have HmI := Lib.hid (Hmj.out.trans hmI (fun _ _ h => h)); have HWI := Lib.hid hwI; have Hsc := Lib.hid (hsc.new hmI).fit; have Hlt := Lib.hid hlt
              clear hsc hlt hwI hmI
              go_wp2_with fail
              rw [← HWI.out]
              clear HWI hcell
              generalize wr.heap.size = lit2 at *
              obtain ⟨go, rfl⟩ : ∃ go : Nat, go = gk := ⟨_, rfl⟩
              go_loopg [107] 4 (fun l s107 wq => ∃ i : Nat, i + l = 4 ∧ s107 = .int .i64 (i : Int) ∧ Mod (fun _ => False) wI wq)
              case atStart => exact ⟨0, rfl, rfl, Mod.refl _ _⟩
              case round =>
                obtain ⟨i, hil, rfl, hm⟩ := hrel
                have Hm2 := Lib.hid hm; have Hil := Lib.hid hil
                clear hm hil
                by_cases hi : i < 4
                · have hi0 : (0 : Int) ≤ (i : Int) := by omega
                  obtain ⟨m, hmf, hcell⟩ := (HN4.out.mod Hm2.out).2 i hi
                  clear hmf
                  by_cases h200 : 200 < nc
                  · go_wp2_with fail
                    go_roundg (gk - 1)
                    case measure => have := Hil.out; omega
                    case rel => exact ⟨i + 1, by have := Hil.out; omega, by go_num, Hm2.out⟩
                  · have Hr := Lib.hid (Hsc.out.new Hm2.out).fit
                    obtain ⟨N, hN⟩ : ∃ N : Nat, max 0 (min m 65535) = (N : Int) := ⟨(max 0 (min m 65535)).toNat, by omega⟩
                    have HNN := Lib.hid hN
                    clear hN
                    go_wp2_with fail
                    refine (sdec_any A nc cc _ N m cs wr Hr.out (Nat.le_refl _) Hlt.out (by omega) HNN.out (Hkin.out.new (HmL.out.trans (HmI.out.trans Hm2.out (fun _ _ h => h)) (fun _ _ h => h)))).mono ?_
                    intro e x1 hE
                    obtain ⟨Ay, cy, rfl, hcy, hry, hmy⟩ := hE.any
                    have hlen : ((decS N cs).getD []).length ≤ 1000000 := by
                      have hNb : N ≤ 65535 := by have := HNN.out; omega
                      cases hd : decS N cs with
                      | none => exact Nat.zero_le _
                      | some us =>
                        have := (decS_some hd).1
                        show us.length ≤ 1000000
                        omega
                    obtain ⟨b2, hb2⟩ : ∃ b2, b2 = (decS N cs).isSome := ⟨_, rfl⟩
                    obtain ⟨ty, hty⟩ : ∃ ty, ty = (decS N cs).getD [] := ⟨_, rfl⟩
                    rw [← hb2, ← hty]
                    rw [← hty] at hry hlen
                    have Hb2 := Lib.hid hb2; have Hty := Lib.hid hty; have Hlen := Lib.hid hlen
                    have Hry := Lib.hid hry; have Hmy := Lib.hid (Hm2.out.trans hmy (fun _ _ h => h)); have Hry0 := Lib.hid (Hr.out.new hmy).fit
                    clear hE hb2 hty hlen hry hmy hcy Hr hcell
                    go_wp2_with fail
                    refine (gets_any A nc cc _ N m cs x1 Hry0.out (Nat.le_refl _) Hlt.out (by omega) HNN.out).mono ?_
                    intro e x2 hE
                    obtain ⟨Az, cz, rfl, hcz, hrz, hmz⟩ := hE.any
                    rw [← Hb2.out, ← Hty.out]
                    rw [← Hty.out] at hrz
                    have Hrz := Lib.hid hrz; have Hmz := Lib.hid (Hmy.out.trans hmz (fun _ _ h => h)); have Hryz := Lib.hid (Hry.out.new hmz).fit
                    clear hE hrz hmz hcz Hmy Hry Hry0
                    have hbb2 : (b2 != b2) = false := by simp
                    go_wp2_with fail
                    refine (same_words Ay Az ty.length cy cz _ _ ty x2 Hryz.out Hrz.out Hlen.out).mono ?_
                    rintro e x3 ⟨rfl, hm3⟩
                    have Hm3 := Lib.hid (Hmz.out.trans hm3 (fun _ _ h => h))
                    clear hm3 Hmz Hrz Hryz hbb2
                    go_wp2_with fail
                    go_roundg (gk - 1)
                    case measure => have := Hil.out; omega
                    case rel => exact ⟨i + 1, by have := Hil.out; omega, by go_num, Hm3.out⟩
                · go_wp2_with fail
                  go_roundg (go - 1)
                  case measure => have := Hjl.out; omega
                  case rel => exact ⟨j + 1, by have := Hjl.out; omega, by go_num, HmI.out.trans Hm2.out (fun _ _ h => h)⟩
            · go_wp2_with fail
              refine (sawake_any _ (Hkin.out.new (HmL.out.trans Hmj.out (fun _ _ h => h)))).mono ?_
              rintro e wf ⟨rfl, hmf⟩
              have Hmf := Lib.hid ((HmL.out.trans Hmj.out (fun _ _ h => h)).trans hmf (fun _ _ h => h))
              clear hmf
              go_wp2_with fail
              go_ret
              exact ⟨rfl, Hmf.out⟩
end Go.Proofs.YthhcfngnbgckmaaDoor

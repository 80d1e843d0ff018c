/- Values that are all moved by one number: ForpShift's walk. -/
import Derived.Test.YtliaehfknppnaaaPa
import Derived.Test.YtliaehfknppnaaaGr
namespace Go.Proofs.Ytliaehfknppnaaa
open Go.RowKit

/-- What stands behind the least. -/
theorem encP_behind {v : List Nat} (h : v ≠ []) (hv : ∀ x ∈ v, x < 2 ^ 64) : ∃ k, dec (encP v) = (loV v, k) ∧ 0 < k ∧ k < (encP v).length ∧ (encP v).drop k = widV v :: packW (widV v) (difV v) := by
  obtain ⟨h1, _, _, h4⟩ := encP_parts h hv
  refine ⟨_, h1, enc_pos _, h4, ?_⟩
  rw [encP_cons h, List.drop_left]
/-- What the loop has laid. -/
def ShTo (w wr : World) (d i : Nat) (v u : Value) : Prop :=
  ∃ vs, Own w.heap.size wr 31 v (cellsU vs) ∧ Own w.heap.size wr 31 u (cellsU (vs.map (· + d))) ∧ vs.length = i ∧ (∀ x ∈ vs, x ≤ 65535) ∧ Twain v u ∧ Mod (fun _ => False) w wr
set_option maxHeartbeats 4000000 in
set_option maxRecDepth 100000 in
theorem pshift_walk (A : Option Addr) (n cap : Nat) (zs : List Nat) (b : Nat) (w : World) (hs : Rds w w.heap.size A n (cellsU zs)) (hz : ∀ x ∈ zs, x < 2 ^ 64) (hb : b < 2 ^ 64) :
    Calls Try.prog 4 #[.slice A n cap, .int .u64 (b : Int)] w fun e w' => e = .returned (.bool true) ∧ Mod (fun _ => False) w w' := by
  obtain ⟨d, hd⟩ : ∃ d, d = b / 4 := ⟨_, rfl⟩
  have hd1 : (b : Int) / 4 = (d : Int) := by omega
  have hd2 : (b : Int) / 2 ^ 2 = (d : Int) := by omega
  have Hd64 : Hid (d < 2 ^ 62) := Lib.hid (by omega)
  have Hs := Lib.hid hs; have Hz := Lib.hid hz
  have H0 : Hid (ShTo w w d 0 (.slice none 0 0) (.slice none 0 0)) := Lib.hid ⟨[], Own.nil _ _ _, Own.nil _ _ _, rfl, (fun _ h => by cases h), (fun _ h => by cases h), Mod.refl _ _⟩
  clear hs hz hb hd
  go_enter Try.func4, Try.ntmps4
  go_wp2_with fail
  clear hd1 hd2
  go_loopg [5, 6, 7] 40 (fun l s5 s6 s7 wr => ∃ i : Nat, i + l = 40 ∧ s7 = .int .i64 (i : Int) ∧ ShTo w wr d i s5 s6)
  case atStart => exact ⟨0, by omega, rfl, H0.out⟩
  case round =>
    obtain ⟨i, hil, rfl, vs, hown5, hown6, hvl, hv16, htw, hm⟩ := hrel
    have Hil := Lib.hid hil; have H5 := Lib.hid hown5; have H6 := Lib.hid hown6; have Hvl := Lib.hid hvl; have Hv16 := Lib.hid hv16; have Htw := Lib.hid htw; have Hm := Lib.hid hm
    clear hil hown5 hown6 hvl hv16 htw hm H0
    by_cases hin : i < n ∧ i < 40
    · obtain ⟨hin, hi40⟩ := hin
      obtain ⟨ad, x, rfl, hx, hcx⟩ := Hs.out.at2 hin (Nat.le_refl _) Hm.out (fun _ _ h => h)
      obtain ⟨y, hy, hy16⟩ := andU_ex x 65535 (Hz.out x (List.mem_of_getElem? hx)) (by decide)
      have hy' : bits .and .u64 (x : Int) 65535 = (y : Int) := hy
      obtain ⟨z, hz⟩ : ∃ z, z = y + d := ⟨_, rfl⟩
      have hzw : IntKind.u64.wrap ((y : Int) + (d : Int)) = (z : Int) := by rw [IntKind.wrap_u64]; have := Hd64.out; omega
      have Hzz := Lib.hid hz
      have Hcell : Hid (∀ W, Mod (fun _ => False) w W → W.cell? (ad.add i) = some (.int .u64 (x : Int))) := Lib.hid (fun W hW => by
        obtain ⟨ad', x', e, hx', hc⟩ := Hs.out.at2 hin (Nat.le_refl _) hW (fun _ _ h => h)
        injection e with e
        subst e
        rw [hx] at hx'
        injection hx' with hx'
        subst hx'
        exact hc)
      have hi0 : (0 : Int) ≤ (i : Int) := by omega
      have hini : (i : Int) < (n : Int) := by omega
      have hi40i : (i : Int) < 40 := by omega
      have hr1 : (cellsU vs).length + 1 ≤ maxLen := by rw [cellsU_length, Hvl.out]; unfold maxLen; omega
      have hr2 : ((cellsU vs).length + 1) * 8 ≤ 140737488355328 := by rw [cellsU_length, Hvl.out]; omega
      have hr3 : (cellsU (vs.map (· + d))).length + 1 ≤ maxLen := by rw [cellsU_length, List.length_map, Hvl.out]; unfold maxLen; omega
      have hr4 : ((cellsU (vs.map (· + d))).length + 1) * 8 ≤ 140737488355328 := by rw [cellsU_length, List.length_map, Hvl.out]; omega
      have Hr1 := Lib.hid hr1; have Hr2 := Lib.hid hr2; have Hr3 := Lib.hid hr3; have Hr4 := Lib.hid hr4
      have hsz := Hm.out.size
      clear hx hy hz hr1 hr2 hr3 hr4
      go_wp2_with (first
        | (at_builtin; refine wpList_app1g rfl (.tmp 36) (.tmp 44) _ rfl eltU rfl H6a.out rfl rfl rfl Hr3.out Hr4.out hsz3 ?_; intro v4 w4 HO4 HB4 HG4)
        | (at_builtin; refine wpList_app1g rfl (.tmp 28) (.tmp 34) _ rfl eltU rfl H5.out rfl rfl rfl Hr1.out Hr2.out hsz ?_; intro v3 w3 HO3 HB3 HG3
           have Hm3 := Lib.hid (Hm.out.trans (Mod.of_below HB3.out) (fun i hi h => by omega))
           have hcx3 := Hcell.out _ Hm3.out
           have hsz3 : w.heap.size ≤ w3.heap.size := Hm3.out.size
           have H6a : Hid (Own w.heap.size w3 31 u6 (cellsU (vs.map (· + d)))) := Lib.hid (HG3.out.1.owns H6.out (fun k hk e => Htw.out.symm k hk e))))
      have Hm4 := Lib.hid (Hm3.out.trans (Mod.of_below HB4.out) (fun i hi h => by omega))
      have HS : Hid (ShTo w w4 d (i + 1) v3 v4) := Lib.hid ⟨vs ++ [y], by
          rw [cellsU_snoc]
          exact HG4.out.1.owns HO3.out (fun k hk e => ((Htw.out.step H6.out HG3.out.2) k hk) e), by
          rw [List.map_append, List.map_cons, List.map_nil, cellsU_snoc, ← Hzz.out]
          exact HO4.out, by rw [List.length_append, Hvl.out]; rfl, (fun q hq => by
          rcases List.mem_append.1 hq with hq | hq
          · exact Hv16.out q hq
          · rw [List.mem_singleton.1 hq]; exact hy16), (((Htw.out.step H6.out HG3.out.2).symm.step HO3.out HG4.out.2).symm), Hm4.out⟩
      clear HO3 HB3 HG3 HO4 HB4 HG4
      go_roundg (gk - 1)
      case measure => have := Hil.out; omega
      case rel => exact ⟨i + 1, by have := Hil.out; omega, by go_num, HS.out⟩
    · have hvl64 : ∀ x ∈ vs, x < 2 ^ 64 := fun x hx => by have := Hv16.out x hx; omega
      have hvm64 : ∀ x ∈ vs.map (· + d), x < 2 ^ 64 := fun x hx => by
        obtain ⟨q, hq, rfl⟩ := List.mem_map.1 hx
        have := Hv16.out q hq
        have := Hd64.out
        show q + d < 2 ^ 64
        omega
      obtain ⟨us, hus⟩ : ∃ us, us = vs.map (· + d) := ⟨_, rfl⟩
      have h6 := H6.out
      rw [← hus] at h6 hvm64
      obtain ⟨A5, L, c5, rfl, HL, hLc, hr5⟩ := own_formUN H5.out
      obtain ⟨A6, L6, c6, rfl, HL6, hL6c, hr6⟩ := own_formUN h6
      obtain rfl : L6 = L := by have h1 := HL.out; have h2 := HL6.out; rw [hus, List.length_map] at h2; omega
      have hi40 : i ≤ 40 := by have := Hil.out; omega
      have hLi : L6 ≤ 40 := by have := HL.out; have := Hvl.out; omega
      have Hr5 := Lib.hid hr5; have Hr6 := Lib.hid hr6; have Hv64 := Lib.hid hvl64; have Hu64 := Lib.hid hvm64; have Hus := Lib.hid hus
      clear hr5 hr6 hvl64 hvm64 hus h6 H5 H6 Htw
      have hways : ¬ (i : Int) < (n : Int) ∨ (i : Int) < (n : Int) ∧ ¬ (i : Int) < 40 := by omega
      have hel : (encP vs).length ≤ 1000 := by have := encP_len Hv64.out; have := HL.out; omega
      have heu : (encP us).length ≤ 1000 := by have := encP_len Hu64.out; have := HL6.out; omega
      have Hel := Lib.hid hel; have Heu := Lib.hid heu
      have Hsome : Hid (decP L6 (encP us) = some us) := Lib.hid (by rw [← HL6.out]; exact decP_of Hu64.out)
      clear hel heu hin
      rcases hways with h1 | ⟨h1, h2⟩
      all_goals
        go_wp2_with fail
        refine (penc_any A5 L6 c5 _ vs wr Hr5.out (Nat.le_refl _) Hv64.out (by omega)).mono ?_
        rintro e w1 ⟨v1, rfl, ho1, hm1⟩
        obtain ⟨A8, M8, c8, rfl, HM8, hM8c, hcm8, hr8⟩ := own_formN8 ho1
        have hM8 : M8 ≤ 1000 := by rw [← HM8.out]; exact Hel.out
        have Hr8 := Lib.hid hr8; have Hm1 := Lib.hid (Hm.out.trans hm1 (fun _ _ h => h)); have Hr61 := Lib.hid (Hr6.out.new hm1).fit; have Hcm8 := Lib.hid hcm8
        clear ho1 hm1 hr8 hcm8 Hr6 Hr5
        go_wp2_with fail
        refine (penc_any A6 L6 c6 _ us w1 Hr61.out (Nat.le_refl _) Hu64.out (by omega)).mono ?_
        rintro e w2 ⟨v2, rfl, ho2, hm2⟩
        obtain ⟨A9, M9, c9, rfl, HM9, hM9c, hcm9, hr9⟩ := own_formN8 ho2
        have hM9 : M9 ≤ 1000 := by rw [← HM9.out]; exact Heu.out
        have Hr9 := Lib.hid hr9; have Hm2 := Lib.hid (Hm1.out.trans hm2 (fun _ _ h => h)); have Hr62 := Lib.hid (Hr61.out.new hm2).fit; have Hr82 := Lib.hid (Hr8.out.new hm2).fit; have Hcm9 := Lib.hid hcm9
        clear ho2 hm2 hr9 hcm9 Hr61 Hr8 Hm1
        go_wp2_with fail
        refine (pdec_any A9 M9 c9 _ L6 (L6 : Int) (encP us) w2 Hr9.out (Nat.le_refl _) (encP_256 us) hM9c Hcm9.out (by omega) (by omega)).mono ?_
        intro e w3 hE
        obtain ⟨v3, rfl, ho3, hm3⟩ := hE.some_ Hsome.out
        obtain ⟨A3, L3, c3, rfl, HL3, _, hr3⟩ := own_formUN ho3
        obtain rfl : L3 = L6 := by have := HL6.out; have := HL3.out; omega
        have Hr3 := Lib.hid hr3; have Hm3 := Lib.hid (Hm2.out.trans hm3 (fun _ _ h => h)); have Hr63 := Lib.hid (Hr62.out.new hm3).fit; have Hr83 := Lib.hid (Hr82.out.new hm3).fit; have Hr93 := Lib.hid (Hr9.out.new hm3).fit
        clear hE ho3 hm3 hr3 Hr62 Hr82 Hr9 Hm2
        go_wp2_with fail
        refine (same_words A3 A6 L3 c3 c6 _ _ us w3 Hr3.out Hr63.out (by omega)).mono ?_
        rintro e w4 ⟨rfl, hm4⟩
        have Hm4 := Lib.hid (Hm3.out.trans hm4 (fun _ _ h => h)); have Hr84 := Lib.hid (Hr83.out.new hm4).fit; have Hr94 := Lib.hid (Hr93.out.new hm4).fit
        clear hm4 Hr3 Hr63 Hr83 Hr93 Hm3
        by_cases hL0 : L3 = 0
        · have hLb : ((L3 : Int) == 0) = true := by simp; omega
          have hv0 : vs = [] := List.eq_nil_of_length_eq_zero (by have := HL.out; omega)
          have hu0 : us = [] := List.eq_nil_of_length_eq_zero (by have := HL6.out; omega)
          have h8b : ((M8 : Int) == 0) = true := by have h := HM8.out; rw [hv0, encP_nil] at h; have : M8 = 0 := h.symm; subst this; rfl
          have h9b : ((M9 : Int) == 0) = true := by have h := HM9.out; rw [hu0, encP_nil] at h; have : M9 = 0 := h.symm; subst this; rfl
          clear hL0 hv0 hu0
          go_wp2_with fail
          refine (pawake_any w4).mono ?_
          rintro e w7 ⟨rfl, hm7⟩
          have Hm7 := Lib.hid (Hm4.out.trans hm7 (fun _ _ h => h))
          clear hm7
          go_wp2_with fail
          go_ret
          exact ⟨rfl, Hm7.out⟩
        · have hLb : ((L3 : Int) == 0) = false := by simp; omega
          have hv0 : vs ≠ [] := by rintro rfl; have h : 0 = L3 := HL.out; omega
          have hu0 : us ≠ [] := by rintro rfl; have h : 0 = L3 := HL6.out; omega
          obtain ⟨k8, hk8, hp8, hl8, hd8⟩ := encP_behind hv0 Hv64.out
          obtain ⟨k9, hk9, hp9, hl9, hd9⟩ := encP_behind hu0 Hu64.out
          obtain ⟨lo8, hlo8⟩ : ∃ lo, loV vs = lo := ⟨_, rfl⟩
          obtain ⟨lo9, hlo9⟩ : ∃ lo, loV us = lo := ⟨_, rfl⟩
          rw [hlo8] at hk8
          rw [hlo9] at hk9
          rw [HM8.out] at hl8
          rw [HM9.out] at hl9
          obtain ⟨_, hs2, hs3⟩ := encP_shift d hv0
          rw [← Hus.out] at hs2 hs3
          rw [hs2, hs3, ← hd8] at hd9
          obtain ⟨s, hss⟩ : ∃ s, strOf ((encP vs).drop k8) = s := ⟨_, rfl⟩
          obtain ⟨B8, hB8⟩ : ∃ B8, (if c8 = k8 then A8 else A8.map (·.add k8)) = B8 := ⟨_, rfl⟩
          obtain ⟨B9, hB9⟩ : ∃ B9, (if c9 = k9 then A9 else A9.map (·.add k9)) = B9 := ⟨_, rfl⟩
          have hcd : ∀ (k : Nat) (bs : List Nat), (cells8 bs).drop k = cells8 (bs.drop k) := fun k bs => by simp [cells8, List.map_drop]
          have hc8 : ∀ W, Mod (fun _ => False) w4 W → (convert 27 9 (.slice B8 (M8 - k8) (c8 - k8))).run Try.prog W = .ok (.string s) W := fun W hW => by
            have h := (Hr84.out.new hW).drop (Nat.le_of_lt hl8) hM8c
            rw [hB8, hcd] at h
            rw [← hss]
            exact conv_rds Try.underlying27 Try.underlying5 Try.underlying9 W h (fun b hb => encP_256 vs b (List.mem_of_mem_drop hb))
          have hc9 : ∀ W, Mod (fun _ => False) w4 W → (convert 27 9 (.slice B9 (M9 - k9) (c9 - k9))).run Try.prog W = .ok (.string s) W := fun W hW => by
            have h := (Hr94.out.new hW).drop (Nat.le_of_lt hl9) hM9c
            rw [hB9, hcd, hd9] at h
            rw [← hss]
            exact conv_rds Try.underlying27 Try.underlying5 Try.underlying9 W h (fun b hb => encP_256 vs b (List.mem_of_mem_drop hb))
          have Hk8 := Lib.hid hk8; have Hk9 := Lib.hid hk9; have Hc8 := Lib.hid hc8; have Hc9 := Lib.hid hc9
          have hi8 : (0 : Int) < (k8 : Int) := by omega
          have hi9 : (0 : Int) < (k9 : Int) := by omega
          have hj8 : (k8 : Int) < (M8 : Int) := by omega
          have hj9 : (k9 : Int) < (M9 : Int) := by omega
          have hz8 : (0 : Int) ≤ (k8 : Int) := by omega
          have hz9 : (0 : Int) ≤ (k9 : Int) := by omega
          have hle8 : (k8 : Int) ≤ (M8 : Int) := by omega
          have hle9 : (k9 : Int) ≤ (M9 : Int) := by omega
          clear hk8 hk9 hc8 hc9 hss hd8 hd9 hs2 hs3 hlo8 hlo9 hcd hv0 hu0 hL0 Hsome Hel Heu
          go_wp2_with fail
          refine (vrget_any A8 M8 c8 _ (encP vs) w4 Hr84.out (encP_256 vs) (by unfold maxLen; omega)).mono ?_
          rintro e w5 ⟨rfl, rfl⟩
          rw [Hk8.out]
          go_wp2_with fail
          refine (vrget_any A9 M9 c9 _ (encP us) w4 Hr94.out (encP_256 us) (by unfold maxLen; omega)).mono ?_
          rintro e w5 ⟨rfl, rfl⟩
          rw [Hk9.out]
          have hcd8 := Hc8.out _ (Mod.refl _ w4).drew
          have hcd9 := Hc9.out _ (Mod.refl _ w4).drew
          have hce8 := Hc8.out _ (Mod.refl _ w4)
          have hce9 := Hc9.out _ (Mod.refl _ w4)
          go_upto_region 16 with fail
          go_still_tail 30, (by kernel_rfl)
          change wpList _ _ _ _ _ w4.drew
          have HmD := Lib.hid Hm4.out.drew
          clear hcd8 hcd9 hce8 hce9
          generalize w4.drew = W5 at *
          go_wp2_with fail
          refine (pawake_any W5).mono ?_
          rintro e w7 ⟨rfl, hm7⟩
          have Hm7 := Lib.hid (HmD.out.trans hm7 (fun _ _ h => h))
          clear hm7
          go_wp2_with fail
          go_ret
          exact ⟨rfl, Hm7.out⟩
end Go.Proofs.Ytliaehfknppnaaa

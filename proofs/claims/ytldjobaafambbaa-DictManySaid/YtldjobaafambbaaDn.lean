/- As many unlike values as there are places for: DictMany's walk. -/
import Derived.Test.YtldjobaafambbaaDa
import Derived.Test.YtldjobaafambbaaOw
import Derived.Test.YtldjobaafambbaaMn
import Derived.Test.YtldjobaafambbaaQc
import Derived.Deep.DeepCutAuto
import Derived.Deep.CutBlock
namespace Go.Proofs.Ytldjobaafambbaa
open Go.RowKit

theorem rowM_at {n i : Nat} (h : i < n) : (rowM n)[i]? = some (i * 3) := by
  unfold rowM
  rw [List.getElem?_map, List.getElem?_range h]
  rfl
theorem rowM_64 {n : Nat} (h : n ≤ 1000000) : ∀ x ∈ rowM n, x < 2 ^ 64 := fun x hx => by have := rowM_lt hx; omega
theorem manyM_64 {n t : Nat} (h : n ≤ 1000000) : ∀ x ∈ manyM n t, x < 2 ^ 64 := fun x hx => by have := manyM_lt hx; omega
theorem div_more {x s : Nat} (h : ¬ x < 2 ^ s) : (0 : Int) < (x : Int) / 2 ^ s := by
  have e : (x : Int) / 2 ^ s = ((x / 2 ^ s : Nat) : Int) := by rw [Int.natCast_ediv]; simp
  have h1 : 1 ≤ x / 2 ^ s := by rw [Nat.le_div_iff_mul_le (Nat.two_pow_pos _)]; omega
  rw [e]
  omega
theorem div_less {x s : Nat} (h : x < 2 ^ s) : ¬ (0 : Int) < (x : Int) / 2 ^ s := by
  have e : (x : Int) / 2 ^ s = ((x / 2 ^ s : Nat) : Int) := by rw [Int.natCast_ediv]; simp
  rw [e, Nat.div_eq_of_lt h]
  decide
set_option maxHeartbeats 4000000 in
set_option maxRecDepth 100000 in
theorem dmany_walk (a0 a1 : Int) (w : World) :
    Calls Try.prog 4 #[.int .i64 a0, .int .i64 a1] w fun e w' => e = .returned (.bool true) ∧ Mod (fun _ => False) w w' := by
  obtain ⟨j0, hj0, hj0l⟩ : ∃ j : Nat, bits .and .i64 a0 511 = (j : Int) ∧ j < 512 := and_nat a0 511 9 rfl (by omega)
  obtain ⟨j1, hj1, hj1l⟩ : ∃ j : Nat, bits .and .i64 a1 3 = (j : Int) ∧ j < 4 := and_nat a1 3 2 rfl (by omega)
  obtain ⟨n, hn⟩ : ∃ n, n = j0 + 1 := ⟨_, rfl⟩
  obtain ⟨T, hT⟩ : ∃ T, T = j1 + 1 := ⟨_, rfl⟩
  have hni : (j0 : Int) + 1 = (n : Int) := by omega
  have hTi : (j1 : Int) + 1 = (T : Int) := by omega
  have hn1 : 1 ≤ n := by omega
  have hn512 : n ≤ 512 := by omega
  have hT1 : 1 ≤ T := by omega
  have hT4 : T ≤ 4 := by omega
  have M0 : Hid (Own w.heap.size w 32 (.slice none 0 0) (cellsU (manyM n 0)) ∧ Mod (fun _ => False) w w) := Lib.hid ⟨by rw [manyM_zero]; exact Own.nil _ _ _, Mod.refl _ _⟩
  clear hn hT
  go_enter Try.func4, Try.ntmps4
  go_wp2_with fail
  clear hj0 hj1 hni hTi
  go_loopg [5, 6] T (fun l s5 s6 wr => ∃ t : Nat, t + l = T ∧ s6 = .int .i64 (t : Int) ∧ Own w.heap.size wr 32 s5 (cellsU (manyM n t)) ∧ Mod (fun _ => False) w wr)
  case atStart => exact ⟨0, by omega, rfl, M0.out⟩
  case round =>
    obtain ⟨t, htl, rfl, hown, hm⟩ := hrel
    have Hown := Lib.hid hown; have Hm := Lib.hid hm; have Htl := Lib.hid htl
    clear hown hm htl M0
    by_cases htT : t < T
    · have hti : (t : Int) < (T : Int) := by omega
      have hjb : decide ((t : Int) < (T : Int)) = true := by simp; omega
      have N0 : Hid (Own w.heap.size wr 32 u5 (cellsU (manyM n t ++ rowM 0)) ∧ Mod (fun _ => False) w wr) := Lib.hid ⟨by show Own _ _ _ _ (cellsU (manyM n t ++ [])); rw [List.append_nil]; exact Hown.out, Hm.out⟩
      clear Hown Hm
      go_wp2_with fail
      obtain ⟨go, rfl⟩ : ∃ go : Nat, go = gk := ⟨_, rfl⟩
      go_loopg [5, 7] n (fun l s5 s7 wq => ∃ i : Nat, i + l = n ∧ s7 = .int .i64 (i : Int) ∧ Own w.heap.size wq 32 s5 (cellsU (manyM n t ++ rowM i)) ∧ Mod (fun _ => False) w wq)
      case atStart => exact ⟨0, by omega, rfl, N0.out⟩
      case round =>
        obtain ⟨i, hil, rfl, hown, hm⟩ := hrel
        have Hown := Lib.hid hown; have Hm := Lib.hid hm; have Hil := Lib.hid hil
        clear hown hm hil N0
        by_cases hin : i < n
        · have hi0 : (0 : Int) ≤ (i : Int) := by omega
          have hini : (i : Int) < (n : Int) := by omega
          obtain ⟨y, hy⟩ : ∃ y, y = i * 3 := ⟨_, rfl⟩
          have hyi : (i : Int) * 3 = (y : Int) := by omega
          have hyl : y ≤ 1536 := by omega
          have Hy : Hid (manyM n t ++ rowM (i + 1) = (manyM n t ++ rowM i) ++ [y]) := Lib.hid (by rw [rowM_snoc, ← hy, List.append_assoc])
          have hlen : (manyM n t ++ rowM i).length ≤ 10000 := by
            rw [List.length_append, manyM_len, rowM_len]
            have h1 : t * n ≤ 4 * 512 := Nat.mul_le_mul (by omega) hn512
            omega
          have hr1 : (cellsU (manyM n t ++ rowM i)).length + 1 ≤ maxLen := by rw [cellsU_length]; unfold maxLen; omega
          have hr2 : ((cellsU (manyM n t ++ rowM i)).length + 1) * 8 ≤ 140737488355328 := by rw [cellsU_length]; omega
          have Hr1 := Lib.hid hr1; have Hr2 := Lib.hid hr2
          have hsz := Hm.out.size
          clear hy hlen hr1 hr2
          go_wp2_with (at_builtin; refine wpList_app1 rfl (.tmp 31) (.tmp 35) _ rfl eltU rfl Hown.out rfl rfl rfl Hr1.out Hr2.out hsz ?_; intro v' w2 HO HBl)
          have HU : Hid (Own w.heap.size w2 32 v' (cellsU (manyM n t ++ rowM (i + 1))) ∧ Mod (fun _ => False) w w2) := Lib.hid ⟨by rw [Hy.out, cellsU_snoc]; exact HO.out, Hm.out.trans (Mod.of_below HBl.out) (fun i hi h => by omega)⟩
          clear HO HBl
          go_roundg (gk - 1)
          case measure => have := Hil.out; omega
          case rel => exact ⟨i + 1, by have := Hil.out; omega, by go_num, HU.out⟩
        · have hi : i = n := by have := Hil.out; omega
          have hini : ¬ (i : Int) < (n : Int) := by omega
          have HU : Hid (Own w.heap.size wr 32 u5 (cellsU (manyM n (t + 1))) ∧ Mod (fun _ => False) w wr) := Lib.hid ⟨by rw [manyM_succ]; have h := Hown.out; rw [hi] at h; exact h, Hm.out⟩
          clear hi
          go_wp2_with fail
          go_roundg (go - 1)
          case measure => have := Htl.out; omega
          case rel => exact ⟨t + 1, by have := Htl.out; omega, by go_num, HU.out⟩
    · have ht : t = T := by have := Htl.out; omega
      have hti : ¬ (t : Int) < (T : Int) := by omega
      subst ht
      obtain ⟨vs, hvs⟩ : ∃ vs, vs = manyM n t := ⟨_, rfl⟩
      have hown := Hown.out
      rw [← hvs] at hown
      obtain ⟨A5, L, c5, rfl, HL, _, hr5⟩ := own_formUN hown
      have hLt : L = t * n := by have := HL.out; rw [hvs, manyM_len] at this; exact this.symm
      have hL2 : L ≤ 4 * 512 := by rw [hLt]; exact Nat.mul_le_mul hT4 hn512
      have hL : L ≤ 2048 := hL2
      have Hr5 := Lib.hid hr5; have Hvs := Lib.hid hvs
      have Hv64 : Hid (∀ x ∈ vs, x < 2 ^ 64) := Lib.hid (by rw [hvs]; exact manyM_64 (by omega))
      clear hown hr5 hvs hLt hL2 htT Hown
      by_cases hn256 : 256 < n
      · have hni : (256 : Int) < (n : Int) := by omega
        have Hno : Hid (encD vs = none) := Lib.hid (by rw [Hvs.out]; exact encD_manyM_none hn256 hT1)
        clear hn256
        go_wp2_with fail
        refine (denc_any A5 L c5 _ vs wr Hr5.out (Nat.le_refl _) Hv64.out (by omega)).mono ?_
        intro e w1 hE
        obtain ⟨rfl, hm1⟩ := hE.none_ Hno.out
        have Hm1 := Lib.hid (Hm.out.trans hm1 (fun _ _ h => h))
        clear hE hm1
        go_wp2_with fail
        refine (dawake_any _).mono ?_
        rintro e w2 ⟨rfl, hm2⟩
        have Hm2 := Lib.hid (Hm1.out.trans hm2 (fun _ _ h => h))
        clear hm2
        go_wp2_with fail
        go_ret
        exact ⟨rfl, Hm2.out⟩
      · have hni : ¬ (256 : Int) < (n : Int) := by omega
        obtain ⟨S, hS⟩ : ∃ S, wid (n - 1) = S := ⟨_, rfl⟩
        obtain ⟨ls, hls⟩ : ∃ ls, ls = enc n ++ encV (rowM n) := ⟨_, rfl⟩
        obtain ⟨pk, hpk⟩ : ∃ pk, pk = packW S (atD vs) := ⟨_, rfl⟩
        have hS64 : S ≤ 64 := by rw [← hS]; exact wid_le _
        obtain ⟨bs, hbs⟩ : ∃ bs, bs = ls ++ pk := ⟨_, rfl⟩
        have henc : encD vs = some bs := by rw [hbs, hls, hpk, Hvs.out, ← hS]; exact encD_manyM hn1 (by omega) hT1
        have hpl : pk.length = (S * L + 7) / 8 := by rw [hpk, packW_len, atD_len, HL.out]
        have hll : ls.length ≤ 3000 := by
          rw [hls, List.length_append]
          have h1 := enc_len10 (u := n) (by omega)
          have h2 := encV_len (l := rowM n) (rowM_64 (by omega))
          rw [rowM_len] at h2
          omega
        have hSL : S * L ≤ 64 * 2048 := Nat.mul_le_mul hS64 hL
        have hbl : bs.length ≤ 20000 := by rw [hbs, List.length_append, hpl]; omega
        have Hdec : Hid (decD L bs = some vs) := Lib.hid (by rw [← HL.out]; exact decD_of Hv64.out henc)
        have Hb256 := Lib.hid (encD_256 henc); have Henc := Lib.hid henc; have Hbs := Lib.hid hbs; have Hls := Lib.hid hls; have Hpl := Lib.hid hpl; have HS := Lib.hid hS; have Hbl := Lib.hid hbl; have Hll := Lib.hid hll
        have hSLi : S * L ≤ 131072 := hSL
        clear hS hls hpk hbs henc hpl hll hSL hbl hn256
        go_wp2_with fail
        refine (denc_any A5 L c5 _ vs wr Hr5.out (Nat.le_refl _) Hv64.out (by omega)).mono ?_
        intro e w1 hE
        obtain ⟨v8, rfl, ho8, hm1⟩ := hE.some_ Henc.out
        obtain ⟨A8, M, c8, rfl, HM, hMc, hcm8, hr8⟩ := own_formN8 ho8
        have hM : M ≤ 20000 := by have := HM.out; have := Hbl.out; omega
        have Hm1 := Lib.hid (Hm.out.trans hm1 (fun _ _ h => h)); have Hr8 := Lib.hid hr8; have Hr51 := Lib.hid (Hr5.out.new hm1).fit; have Hcm8 := Lib.hid hcm8
        clear hE ho8 hm1 hr8 hcm8 Hr5 Hm
        obtain ⟨y, hy⟩ : ∃ y, y = n - 1 := ⟨_, rfl⟩
        have hyi : (n : Int) - 1 = (y : Int) := by omega
        have hyl : y < 512 := by omega
        have Hlt : Hid (y < 2 ^ S) := Lib.hid (by rw [hy, ← HS.out]; exact wid_lt (by omega))
        have Hle : Hid (∀ j, j < S → ¬ y < 2 ^ j) := Lib.hid (fun j h => by rw [hy]; exact wid_least (by rw [HS.out]; exact h))
        clear hy
        go_wp2_with fail
        go_loopg [10] S (fun l s10 wq => ∃ j : Nat, j + l = S ∧ s10 = .int .i64 (j : Int) ∧ w1 = wq)
        case atStart => exact ⟨0, by omega, rfl, rfl⟩
        case round =>
          obtain ⟨j, hjl, rfl, rfl⟩ := hrel
          have Hjl := Lib.hid hjl
          clear hjl
          have hjS : j ≤ S := by have := Hjl.out; omega
          have hw8 : IntKind.u64.wrap (j : Int) = (j : Int) := by rw [IntKind.wrap_u64]; omega
          have hmin : min j 64 = j := by omega
          have hj0 : (0 : Int) ≤ (j : Int) := by omega
          by_cases hj : j < S
          · have hgt := div_more (Hle.out j hj)
            go_wp2_with fail
            go_roundg (gk - 1)
            case measure => have := Hjl.out; omega
            case rel => exact ⟨j + 1, by have := Hjl.out; omega, by go_num, rfl⟩
          · have hjS2 : j = S := by omega
            subst hjS2
            have hgt := div_less Hlt.out
            have hn64 : Hid (Lt64 n) := Lib.hid (by unfold Lt64; omega)
            go_wp2_with fail
            refine (vrput_any none 0 0 0 [] n w1 (Rds.nil _ _ _) (by omega) hn64.out).mono ?_
            rintro e w2 ⟨v2, rfl, ho2, hb2⟩
            rw [List.nil_append] at ho2
            have P0 : Hid (Own w1.heap.size w2 5 v2 (cells8 (enc n ++ encV ((rowM n).take 0))) ∧ Mod (fun _ => False) w1 w2) := Lib.hid ⟨by rw [List.take_zero]; show Own _ _ _ _ (cells8 (enc n ++ [])); rw [List.append_nil]; exact ho2, mod_below hb2⟩
            clear ho2 hb2 hgt
            go_wp2_with fail
            go_loopg [11, 12] n (fun l s11 s12 wq => ∃ i : Nat, i + l = n ∧ s12 = .int .i64 (i : Int) ∧ Own w1.heap.size wq 5 s11 (cells8 (enc n ++ encV ((rowM n).take i))) ∧ Mod (fun _ => False) w1 wq)
            case atStart => exact ⟨0, by omega, rfl, P0.out⟩
            case round =>
              obtain ⟨i, hil, rfl, hown, hm⟩ := hrel
              have Hown := Lib.hid hown; have Hm := Lib.hid hm; have Hil := Lib.hid hil
              clear hown hm hil P0
              obtain ⟨A3, M3, c3, rfl, HM3, hMc3, _, hr3⟩ := own_formN8 Hown.out
              have hM3 : M3 ≤ 3000 := by
                have h1 := enc_len10 hn64.out.out
                have h2 := encV_len (l := (rowM n).take i) (fun x hx => rowM_64 (by omega) x (List.mem_of_mem_take hx))
                have h3 : ((rowM n).take i).length ≤ 256 := by rw [List.length_take, rowM_len]; omega
                have h4 := HM3.out
                rw [List.length_append] at h4
                omega
              have Hr3 := Lib.hid hr3
              clear hr3
              by_cases hin : i < n
              · have hi0 : (0 : Int) ≤ (i : Int) := by omega
                have hini : (i : Int) < (n : Int) := by omega
                obtain ⟨z, hz⟩ : ∃ z, z = i * 3 := ⟨_, rfl⟩
                have hzi : (i : Int) * 3 = (z : Int) := by omega
                have hzl : z ≤ 1536 := by omega
                have Hz64 : Hid (Lt64 z) := Lib.hid (by unfold Lt64; omega)
                have Htk : Hid (encV ((rowM n).take (i + 1)) = encV ((rowM n).take i) ++ enc z) := Lib.hid (by rw [take_succ_of (rowM_at hin), encV_snoc, ← hz])
                clear hz
                go_wp2_with fail
                refine (vrput_any A3 M3 c3 _ _ z wr Hr3.out (by omega) Hz64.out).mono ?_
                rintro e w2 ⟨v2, rfl, ho2, hb2⟩
                rw [List.append_assoc, ← Htk.out] at ho2
                have HP : Hid (Own w1.heap.size w2 5 v2 (cells8 (enc n ++ encV ((rowM n).take (i + 1)))) ∧ Mod (fun _ => False) w1 w2) := Lib.hid ⟨ho2.mono Hm.out.size, Hm.out.trans (mod_below hb2) (fun _ _ h => h)⟩
                clear ho2 hb2
                go_wp2_with fail
                go_roundg (gk - 1)
                case measure => have := Hil.out; omega
                case rel => exact ⟨i + 1, by have := Hil.out; omega, by go_num, HP.out⟩
              · have hi : i = n := by have := Hil.out; omega
                have hini : ¬ (i : Int) < (n : Int) := by omega
                have hls2 : enc n ++ encV ((rowM n).take i) = ls := by rw [List.take_of_length_le (by rw [rowM_len]; omega)]; exact Hls.out.symm
                rw [hls2] at HM3
                have Hr3' : Hid (Rds wr wr.heap.size A3 M3 (cells8 ls)) := Lib.hid (by have h := Hr3.out; rw [hls2] at h; exact h)
                have Hr84 := Lib.hid (Hr8.out.new Hm.out).fit; have Hr54 := Lib.hid (Hr51.out.new Hm.out).fit; have Hm4 := Lib.hid (Hm1.out.trans Hm.out (fun _ _ h => h))
                clear hls2 hi hin Hr3 Hown Hr8 Hr51 Hm1
                go_wp2_with fail
                refine (ddec_any A8 M c8 _ L (L : Int) bs wr Hr84.out (Nat.le_refl _) Hb256.out hMc Hcm8.out (by omega) (by omega)).mono ?_
                intro e w5 hE
                obtain ⟨v13, rfl, ho13, hm5⟩ := hE.some_ Hdec.out
                obtain ⟨A13, L13, c13, rfl, HL13, _, hr13⟩ := own_formUN ho13
                obtain rfl : L13 = L := by have := HL.out; have := HL13.out; omega
                have Hr13 := Lib.hid hr13; have Hm5 := Lib.hid (Hm4.out.trans hm5 (fun _ _ h => h)); have Hr85 := Lib.hid (Hr84.out.new hm5).fit; have Hr55 := Lib.hid (Hr54.out.new hm5).fit; have Hr35 := Lib.hid (Hr3'.out.new hm5).fit
                obtain ⟨q, hq⟩ : ∃ q, q = j * L13 := ⟨_, rfl⟩
                obtain ⟨q7, hq7⟩ : ∃ q7, q7 = q + 7 := ⟨_, rfl⟩
                obtain ⟨d, hd⟩ : ∃ d, d = q7 / 8 := ⟨_, rfl⟩
                have hMM : M = M3 + d := by have h1 := HM.out; rw [Hbs.out, List.length_append, Hpl.out, HM3.out] at h1; rw [hd, hq7, hq]; exact h1.symm
                have hqi : (j : Int) * (L13 : Int) = (q : Int) := by rw [hq, Int.natCast_mul]
                have hq7i : (q : Int) + 7 = (q7 : Int) := by omega
                have hqb : q ≤ 131072 := by rw [hq]; exact hSLi
                have hdi : (q7 : Int).tdiv 8 = (d : Int) := by rw [Int.tdiv_eq_ediv_of_nonneg (by omega)]; omega
                have hdi' : (q7 : Int) / 8 = (d : Int) := by omega
                have hMi : (M3 : Int) + (d : Int) = (M : Int) := by omega
                have hmin3 := minI_is (P := Try.prog) (t := 3) (ty := 3) (n1 := (M3 : Int)) (n2 := (M : Int)) (m := (M3 : Int)) (by omega)
                have hwq : IntKind.i64.wrap (q : Int) = (q : Int) := IntWalk.i64_in _ (by omega)
                have hwq7 : IntKind.i64.wrap (q7 : Int) = (q7 : Int) := IntWalk.i64_in _ (by omega)
                have hwd : IntKind.i64.wrap (d : Int) = (d : Int) := IntWalk.i64_in _ (by omega)
                have hwM : IntKind.i64.wrap (M : Int) = (M : Int) := IntWalk.i64_in _ (by omega)
                have hMc3i : (M3 : Int) ≤ (c8 : Int) := by omega
                have hM30 : (0 : Int) ≤ (M3 : Int) := by omega
                obtain ⟨s, hss⟩ : ∃ s, strOf ls = s := ⟨_, rfl⟩
                have htk : bs.take M3 = ls := by rw [Hbs.out, ← HM3.out, List.take_left]
                have hl256 : lt256 ls := fun b hb => Hb256.out b (by rw [Hbs.out]; exact List.mem_append_left _ hb)
                have Hcv1 : Hid (∀ W, Mod (fun _ => False) w5 W → (convert 27 9 (.slice A8 M3 c8)).run Try.prog W = .ok (.string s) W) := Lib.hid (fun W hW => by
                  have h := (Hr85.out.new hW).take (k := M3) (by omega)
                  rw [← cells8_take, htk] at h
                  rw [← hss]
                  exact conv_rds Try.underlying27 Try.underlying5 Try.underlying9 W h hl256)
                have Hcv2 : Hid (∀ W, Mod (fun _ => False) w5 W → (convert 27 9 (.slice A3 M3 c3)).run Try.prog W = .ok (.string s) W) := Lib.hid (fun W hW => by
                  rw [← hss]
                  exact conv_rds Try.underlying27 Try.underlying5 Try.underlying9 W (Hr35.out.new hW) hl256)
                clear hE ho13 hm5 hr13 hq hq7 hd hMM hss htk hl256 Hr84 Hr54 Hr3' Hm4
                go_upto_region 22 with fail
                refine wp_region_class (fun W => Mod (fun _ => False) w5 W) (by kernel_rfl) (by kernel_rfl) (Mod.refl _ _).drew ?_
                iterate 23 quiet_step (exact fun _ => rfl)
                refine wpQuiet_step (fun K hK => ?_)
                go_simp
                refine ⟨.string s, fun w2 h2 => (by rw [Hcv1.out w2 h2]; exact ⟨rfl, rfl⟩), hK _ ?_⟩
                clear hK K
                iterate 1 quiet_step (exact fun _ => rfl)
                refine wpQuiet_step (fun K hK => ?_)
                go_simp
                refine ⟨.string s, fun w2 h2 => (by rw [Hcv2.out w2 h2]; exact ⟨rfl, rfl⟩), hK _ ?_⟩
                clear hK K
                iterate 8 quiet_step (exact fun _ => rfl)
                refine wpQuiet_step (fun K hK => ?_)
                go_simp
                refine ⟨.bool true, fun w2 h2 => (same_words A13 A5 L13 c13 c5 _ _ vs w2 (Hr13.out.new h2) (Hr55.out.new h2) (by omega)).mono ?_, hK _ ?_⟩
                · rintro e w3 ⟨rfl, hm⟩
                  exact ⟨rfl, h2.trans hm (fun _ _ h => h)⟩
                clear hK K
                iterate 2 quiet_step (exact fun _ => rfl)
                refine wpQuiet_step (fun K hK => ?_)
                go_simp
                refine ⟨.bool true, fun w2 h2 => (dawake_any w2).mono ?_, hK _ ?_⟩
                · rintro e w3 ⟨rfl, hm⟩
                  exact ⟨rfl, h2.trans hm (fun _ _ h => h)⟩
                clear hK K
                iterate 2 quiet_step (exact fun _ => rfl)
                refine wpQuiet_nil ?_
                intro w6 h6
                have H6 := Lib.hid h6
                clear h6
                go_wp2_with fail
                go_ret
                exact ⟨rfl, Hm5.out.trans H6.out (fun _ _ h => h)⟩
end Go.Proofs.Ytldjobaafambbaa

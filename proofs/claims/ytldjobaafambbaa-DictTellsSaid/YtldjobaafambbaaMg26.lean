/- The texts Dh, one behind the other. -/
import Derived.Test.YtldjobaafambbaaMg20
import Derived.Test.YtldjobaafambbaaMg21
import Derived.Test.YtldjobaafambbaaMg4
import Derived.Test.YtldjobaafambbaaMg17
import Derived.Test.YtldjobaafambbaaMg25
import Derived.Test.YtldjobaafambbaaMg19
/- The document's own answer: bytes are read as values by their list. -/
namespace Go.Proofs.Ytldjobaafambbaa
open Go.RowKit Go.Maps

/-- What GetDict has laid of i values. -/
def ROutTo (wB wr : World) (l raw : List Nat) (i : Nat) (v : Value) : Prop :=
  Own wB.heap.size wr 32 v (cellsU (outD l (raw.take i))) ∧ (∀ j ∈ raw.take i, j < l.length) ∧ Mod (fun _ => False) wB wr
theorem decD_bad {N : Nat} {bs : List Nat} (hN : ¬ N = 0) (h : (dec bs).2 = 0 ∨ (dec bs).1 = 0 ∨ 256 < (dec bs).1) : decD N bs = none := by
  unfold decD
  rw [if_neg hN, if_pos h]
set_option maxHeartbeats 4000000 in
set_option maxRecDepth 100000 in
theorem rddec_any (A : Option Addr) (n cap B N : Nat) (m : Int) (bs : List Nat) (w : World) (hs : Rds w B A n (cells8 bs)) (hB : B ≤ w.heap.size) (hlt : lt256 bs) (hnc : n ≤ cap) (hcm : cap ≤ maxLen) (hn : n ≤ 1000000) (hN : max 0 (min m 65535) = (N : Int)) :
    Calls Try.prog 15 #[.slice A n cap, .int .i64 m] w fun e w' => EncE w w' (decD N bs) e := by
  have hul : bs.length = n := by have := hs.1; rwa [cells8_length] at this
  have hN65 : N ≤ 65535 := by omega
  have Hheld := Lib.hid (fun W => rheld_any m N W hN)
  clear hN
  by_cases hN0 : N = 0
  · subst hN0
    have hdec : decD 0 bs = if bs = [] then some [] else none := by unfold decD; rw [if_pos rfl]
    by_cases hn0 : n = 0
    · obtain rfl := List.eq_nil_of_length_eq_zero (hul.trans hn0)
      have Hd := Lib.hid hdec
      have hnb : ((n : Int) == 0) = true := by simp; omega
      clear hs hdec
      go_enter Try.func15, Try.ntmps15
      go_wp2_with fail
      refine (Hheld.out _).mono ?_
      rintro e w' ⟨rfl, rfl⟩
      go_wp2_with fail
      go_ret2
      rw [Hd.out]
      exact ⟨_, rfl, Own.nil _ _ _, Mod.refl _ _⟩
    · have hne : ¬ bs = [] := by rintro rfl; exact hn0 hul.symm
      have Hd : Hid (decD 0 bs = none) := Lib.hid (by rw [hdec, if_neg hne])
      have hnb : ((n : Int) == 0) = false := by simp; omega
      clear hs hdec hne hul
      go_enter Try.func15, Try.ntmps15
      go_wp2_with fail
      refine (Hheld.out _).mono ?_
      rintro e w' ⟨rfl, rfl⟩
      go_wp2_with fail
      go_ret2
      rw [Hd.out]
      exact ⟨rfl, Mod.refl _ _⟩
  · have hNb : ((N : Int) == 0) = false := by simp; omega
    have hcall := vrget_any A n cap B bs w hs hlt (by omega)
    obtain ⟨K, hK⟩ : ∃ K, (dec bs).1 = K := ⟨_, rfl⟩
    obtain ⟨p, hp⟩ : ∃ p, (dec bs).2 = p := ⟨_, rfl⟩
    rw [hK, hp] at hcall
    have Hcall := Lib.hid hcall
    clear hcall
    by_cases hbad : p = 0 ∨ K = 0 ∨ 256 < K
    · have Hd : Hid (decD N bs = none) := Lib.hid (decD_bad hN0 (by rw [hK, hp]; exact hbad))
      clear hs hK hp
      have hways : p = 0 ∨ ¬ p = 0 ∧ (K = 0 ∨ ¬ K = 0 ∧ 256 < K) := by omega
      clear hbad
      rcases hways with h1 | ⟨h1, h2 | ⟨h2, h3⟩⟩
      · have hb1 : ((p : Int) == 0) = true := by simp; omega
        go_enter Try.func15, Try.ntmps15
        go_wp2_with fail
        refine (Hheld.out _).mono ?_
        rintro e w' ⟨rfl, rfl⟩
        go_wp2_with fail
        refine Hcall.out.mono ?_
        rintro e w' ⟨rfl, rfl⟩
        go_wp2_with fail
        go_ret2
        rw [Hd.out]
        exact ⟨rfl, Mod.refl _ _⟩
      · have hb1 : ((p : Int) == 0) = false := by simp; omega
        have hb2 : ((K : Int) == 0) = true := by simp; omega
        go_enter Try.func15, Try.ntmps15
        go_wp2_with fail
        refine (Hheld.out _).mono ?_
        rintro e w' ⟨rfl, rfl⟩
        go_wp2_with fail
        refine Hcall.out.mono ?_
        rintro e w' ⟨rfl, rfl⟩
        go_wp2_with fail
        go_ret2
        rw [Hd.out]
        exact ⟨rfl, Mod.refl _ _⟩
      · have hb1 : ((p : Int) == 0) = false := by simp; omega
        have hb2 : ((K : Int) == 0) = false := by simp; omega
        have hb3 : (256 : Int) < (K : Int) := by omega
        go_enter Try.func15, Try.ntmps15
        go_wp2_with fail
        refine (Hheld.out _).mono ?_
        rintro e w' ⟨rfl, rfl⟩
        go_wp2_with fail
        refine Hcall.out.mono ?_
        rintro e w' ⟨rfl, rfl⟩
        go_wp2_with fail
        go_ret2
        rw [Hd.out]
        exact ⟨rfl, Mod.refl _ _⟩
    · have hpn : p ≤ n := by
        rw [← hp, ← hul]
        rcases Nat.eq_zero_or_pos (dec bs).2 with h | h
        · omega
        · exact (dec_some hlt h).1
      have hb1 : ((p : Int) == 0) = false := by simp; omega
      have hb2 : ((K : Int) == 0) = false := by simp; omega
      have hb3 : ¬ (256 : Int) < (K : Int) := by omega
      obtain ⟨A1, hA1⟩ : ∃ A1, (if cap = p then A else A.map (·.add p)) = A1 := ⟨_, rfl⟩
      have hr1 : Rds w w.heap.size A1 (n - p) (cells8 (bs.drop p)) := by
        have h := (hs.more hB).drop hpn hnc
        rw [show (cells8 bs).drop p = cells8 (bs.drop p) by simp [cells8, List.map_drop]] at h
        rw [← hA1]
        exact h
      have hw0 : 0 < w.heap.size := (hs.some_mem hB (by omega)).1
      have hpi : (p : Int) ≤ (n : Int) := by omega
      have hpc : (p : Int) ≤ (cap : Int) := by omega
      have hp0 : (0 : Int) ≤ (p : Int) := by omega
      have HgL : Hid (getL bs = rdV K (bs.drop p)) := Lib.hid (by unfold getL; rw [hK, hp, if_neg (by omega)])
      have G0 : Hid (GetLTo w w (bs.drop p) 0 (.slice A1 (n - p) (cap - p)) (.slice none 0 0)) := Lib.hid ⟨A1, n - p, cap - p, [], bs.drop p, rfl, by omega, by omega, hr1, rfl, Own.nil _ _ _, Mod.refl _ _, .inl rfl⟩
      have Hlt' : Hid (lt256 (bs.drop p)) := Lib.hid (fun b hb => hlt b (List.mem_of_mem_drop hb))
      have hK2 : K ≤ 256 := by omega
      have hK1 : 1 ≤ K := by omega
      have Hs := Lib.hid hs; have Hlt := Lib.hid hlt; have HB := Lib.hid hB; have Hul := Lib.hid hul; have Hw0 := Lib.hid hw0
      clear hs hK hp hul hr1 hpn hlt hB hcm hnc hbad hw0
      go_enter Try.func15, Try.ntmps15
      go_wp2_with fail
      refine (Hheld.out _).mono ?_
      rintro e w' ⟨rfl, rfl⟩
      go_wp2_with fail
      refine Hcall.out.mono ?_
      rintro e w' ⟨rfl, rfl⟩
      go_wp2_with fail
      clear hpi hpc hp0 hA1 hb1 hb2 hb3
      go_loopg [8, 9, 10] K (fun l s8 s9 s10 wr => ∃ i : Nat, i + l = K ∧ s10 = .int .u64 (i : Int) ∧ GetLTo w wr (bs.drop p) i s8 s9)
      case atStart => exact ⟨0, by omega, rfl, G0.out⟩
      case round =>
        obtain ⟨i, hil, rfl, A0, n0, c0, l, r, rfl, hnc0, hcm0, hr0, hrd, hown, hm, hA0⟩ := hrel
        obtain ⟨hl1, hl2, hl3, hl4⟩ := rdV_some _ _ _ _ Hlt'.out hrd
        have hrl : r.length = n0 := by have := hr0.1; rwa [cells8_length] at this
        have Hr0 := Lib.hid hr0; have Hrd := Lib.hid hrd; have Hown := Lib.hid hown; have Hm := Lib.hid hm; have HA0 := Lib.hid hA0; have Hil := Lib.hid hil; have Hl1 := Lib.hid hl1; have Hl2 := Lib.hid hl2; have Hl3 := Lib.hid hl3
        have Hcm0 := Lib.hid hcm0
        have hn0 : n0 ≤ 1000000 := by
          have h := congrArg List.length hl4
          have h2 := Hul.out
          rw [List.length_drop, List.length_append] at h
          omega
        clear hr0 hrd hown hm hA0 hil G0 hl1 hl2 hl3 hl4 hcm0
        by_cases hin : i < K
        · have hcall := vrget_any A0 n0 c0 _ r wr Hr0.out Hl3.out (by unfold maxLen; omega)
          have hst := rdV_succ i (bs.drop p)
          rw [Hrd.out] at hst
          have hst' : rdV (i + 1) (bs.drop p) = if (dec r).2 = 0 then none else some (l ++ [(dec r).1], r.drop (dec r).2) := hst
          have hqr : (dec r).2 ≤ r.length := by
            rcases Nat.eq_zero_or_pos (dec r).2 with h | h
            · omega
            · exact (dec_some Hl3.out h).1
          obtain ⟨x, hx⟩ : ∃ x, (dec r).1 = x := ⟨_, rfl⟩
          obtain ⟨q, hq⟩ : ∃ q, (dec r).2 = q := ⟨_, rfl⟩
          rw [hx, hq] at hcall hst'
          rw [hq, hrl] at hqr
          have Hcall2 := Lib.hid hcall
          clear hcall hst hrl hx hq
          by_cases hq0 : q = 0
          · have hqb : ((q : Int) == 0) = true := by simp; omega
            have Hd : Hid (decD N bs = none) := Lib.hid (decD_noL hN0 (fun l rest h => by
              rw [HgL.out, rdV_none_le (hst'.trans (if_pos hq0)) (by omega)] at h
              cases h))
            clear hst' hq0 hqr
            go_wp2_with fail
            refine Hcall2.out.mono ?_
            rintro e w' ⟨rfl, rfl⟩
            go_wp2_with fail
            go_ret2
            rw [Hd.out]
            exact ⟨rfl, Hm.out⟩
          · have hqb : ((q : Int) == 0) = false := by simp; omega
            obtain ⟨A1', hA1⟩ : ∃ A1, (if c0 = q then A0 else A0.map (·.add q)) = A1 := ⟨_, rfl⟩
            have hr1 : Rds wr w.heap.size A1' (n0 - q) (cells8 (r.drop q)) := by
              have h := Hr0.out.drop hqr hnc0
              rw [show (cells8 r).drop q = cells8 (r.drop q) by simp [cells8, List.map_drop]] at h
              rw [← hA1]
              exact h
            have hA1n : A1' ≠ none := by
              obtain ⟨ad, e, _⟩ := Hr0.out.2 (by omega)
              rw [← hA1, e]
              split <;> simp
            have Hr1 := Lib.hid hr1; have HA1n := Lib.hid hA1n
            have Hst : Hid (rdV (i + 1) (bs.drop p) = some (l ++ [x], r.drop q)) := Lib.hid (hst'.trans (if_neg hq0))
            have hqi : (q : Int) ≤ (n0 : Int) := by omega
            have hqc : (q : Int) ≤ (c0 : Int) := by omega
            have hqz : (0 : Int) ≤ (q : Int) := by omega
            have hnc1 : n0 - q ≤ c0 - q := by omega
            have hcm1 : Hid (c0 - q ≤ maxLen) := Lib.hid (by have := Hcm0.out; omega)
            have hra : (cellsU l).length + 1 ≤ maxLen := by rw [cellsU_length, Hl1.out]; unfold maxLen; omega
            have hrb : ((cellsU l).length + 1) * 8 ≤ 140737488355328 := by rw [cellsU_length, Hl1.out]; omega
            have Hra := Lib.hid hra; have Hrb := Lib.hid hrb
            clear hst' hq0 hr1 hA1n hra hrb
            go_wp2_with fail
            refine Hcall2.out.mono ?_
            rintro e w' ⟨rfl, rfl⟩
            go_wp2_with (at_builtin; refine wpList_app1 rfl (.tmp 55) (.tmp 57) _ rfl eltU rfl Hown.out rfl rfl rfl Hra.out Hrb.out Hm.out.size ?_; intro v' w2 HO HBl)
            have HG : Hid (GetLTo w w2 (bs.drop p) (i + 1) (.slice A1' (n0 - q) (c0 - q)) v') := Lib.hid ⟨A1', n0 - q, c0 - q, l ++ [x], r.drop q, rfl, hnc1, hcm1.out, Hr1.out.below HBl.out, Hst.out, by rw [cellsU_snoc]; exact HO.out, Hm.out.trans (Mod.of_below HBl.out) (fun i hi h => by omega), .inr HA1n.out⟩
            clear HO HBl
            go_roundg (gk - 1)
            case measure => have := Hil.out; omega
            case rel => exact ⟨i + 1, by have := Hil.out; omega, by go_num, HG.out⟩
        · have hi : i = K := by have := Hil.out; omega
          subst hi
          obtain ⟨A6, L, c6, rfl, HL, _, hr6⟩ := own_formUN Hown.out
          obtain rfl : L = i := by have h1 := HL.out; have h2 := Hl1.out; omega
          have HgLs : Hid (getL bs = some (l, r)) := Lib.hid (HgL.out.trans Hrd.out)
          obtain ⟨S, hS⟩ : ∃ S, wid (L - 1) = S := ⟨_, rfl⟩
          have hS64 : S ≤ 64 := by rw [← hS]; exact wid_le _
          have HS' : Hid (wid (l.length - 1) = S) := Lib.hid (by rw [HL.out]; exact hS)
          obtain ⟨y, hy⟩ : ∃ y, y = L - 1 := ⟨_, rfl⟩
          have hyi : (L : Int) - 1 = (y : Int) := by omega
          have hyL : y ≤ 1000000 := by omega
          have Hwid : Hid (∀ W, Calls Try.prog 26 #[.int .u64 (y : Int)] W fun e w' => e = .returned (.int .i64 (S : Int)) ∧ W = w') := Lib.hid (fun W => rwidth_any y S W (by unfold Lt64; omega) (by rw [hy]; exact hS))
          obtain ⟨raw, hraw⟩ : ∃ raw, raw = rdW S N (some (val r, 8 * r.length)) := ⟨_, rfl⟩
          have Hrawl : Hid (raw.length = N) := Lib.hid (by rw [hraw, rdW_len])
          have hunp := runpack_any A0 n0 c0 _ N S r wr Hr0.out Hm.out.size Hl3.out hn0 hN65 hS64 (Nat.lt_of_lt_of_le Hw0.out Hm.out.size)
          rw [← hraw] at hunp
          have Hunp := Lib.hid hunp; have Hraw := Lib.hid hraw; have Hr6 := Lib.hid hr6
          clear hS hy hraw hunp hr6 hin Hrd Hown
          go_wp2_with fail
          refine (Hwid.out _).mono ?_
          rintro e w1 ⟨rfl, rfl⟩
          go_wp2_with fail
          refine Hunp.out.mono ?_
          rintro e wB ⟨v13, rfl, ho13, hmB⟩
          obtain ⟨A13, N13, c13, rfl, HN13, _, hr13⟩ := own_formUN ho13
          obtain rfl : N13 = N := by have := HN13.out; have := Hrawl.out; omega
          have Hr13 := Lib.hid hr13; have HmB := Lib.hid (Hm.out.trans hmB (fun _ _ h => h)); have Hr6B := Lib.hid (Hr6.out.new hmB).fit
          have O0 : Hid (ROutTo wB wB l raw 0 (.slice none 0 0)) := Lib.hid ⟨Own.nil _ _ _, (fun _ h => by cases h), Mod.refl _ _⟩
          clear ho13 hmB hr13 Hunp Hwid Hr6 hyi
          go_wp2_with fail
          go_loopg [14, 15] N13 (fun l' s14 s15 wq => ∃ j : Nat, j + l' = N13 ∧ s15 = .int .i64 (j : Int) ∧ ROutTo wB wq l raw j s14)
          case atStart => exact ⟨0, by omega, rfl, O0.out⟩
          case round =>
            obtain ⟨j, hjl, rfl, hown, hall, hm2⟩ := hrel
            have Hown := Lib.hid hown; have Hall := Lib.hid hall; have Hm2 := Lib.hid hm2; have Hjl := Lib.hid hjl
            clear hown hall hm2 hjl O0
            by_cases hjn : j < N13
            · obtain ⟨ad, x, rfl, hx, hcx⟩ := Hr13.out.at2 hjn (Nat.le_refl _) Hm2.out (fun _ _ h => h)
              have hj0 : (0 : Int) ≤ (j : Int) := by omega
              by_cases hxl : x < L
              · have hxi : ¬ (L : Int) ≤ (x : Int) := by omega
                have hxi' : (x : Int) < (L : Int) := by omega
                have hx0 : (0 : Int) ≤ (x : Int) := by omega
                obtain ⟨ad6, z, rfl, hz, hcz⟩ := Hr6B.out.at2 hxl (Nat.le_refl _) Hm2.out (fun _ _ h => h)
                have Hxo : Hid (outD l (raw.take (j + 1)) = outD l (raw.take j) ++ [z]) := Lib.hid (by rw [take_succ_of hx, outD_snoc, List.getD_eq_getElem?_getD, hz]; rfl)
                have Hall2 : Hid (∀ q ∈ raw.take (j + 1), q < l.length) := Lib.hid (by
                  rw [take_succ_of hx]
                  intro q hq
                  rcases List.mem_append.1 hq with hq | hq
                  · exact Hall.out q hq
                  · rw [List.mem_singleton.1 hq, HL.out]; exact hxl)
                have hol : (outD l (raw.take j)).length ≤ 65535 := by rw [outD_len, List.length_take]; omega
                have hra : (cellsU (outD l (raw.take j))).length + 1 ≤ maxLen := by rw [cellsU_length]; unfold maxLen; omega
                have hrb : ((cellsU (outD l (raw.take j))).length + 1) * 8 ≤ 140737488355328 := by rw [cellsU_length]; omega
                have Hra := Lib.hid hra; have Hrb := Lib.hid hrb
                have hsz := Hm2.out.size
                clear hx hz hxl hol hra hrb
                go_wp2_with (at_builtin; refine wpList_app1 rfl (.tmp 79) (.tmp 87) _ rfl eltU rfl Hown.out rfl rfl rfl Hra.out Hrb.out hsz ?_; intro v' w2 HO HBl)
                have HU : Hid (ROutTo wB w2 l raw (j + 1) v') := Lib.hid ⟨by rw [Hxo.out, cellsU_snoc]; exact HO.out, Hall2.out, Hm2.out.trans (Mod.of_below HBl.out) (fun i hi h => by omega)⟩
                clear HO HBl
                go_roundg (gk - 1)
                case measure => have := Hjl.out; omega
                case rel => exact ⟨j + 1, by have := Hjl.out; omega, by go_num, HU.out⟩
              · have hxi : (L : Int) ≤ (x : Int) := by omega
                have Hd : Hid (decD N13 bs = none) := Lib.hid (readD_far Hlt.out hN0 HgLs.out (by rw [HL.out]; omega) HS'.out (by rw [← Hraw.out]; exact hx) (by rw [HL.out]; omega))
                clear hxl hx
                go_wp2_with fail
                go_ret2
                rw [Hd.out]
                exact ⟨rfl, HmB.out.trans Hm2.out (fun _ _ h => h)⟩
            · have hjN : j = N13 := by have := Hjl.out; omega
              have htk : raw.take j = raw := List.take_of_length_le (by rw [Hrawl.out]; omega)
              obtain ⟨V, hV⟩ : ∃ V, V = outD l raw := ⟨_, rfl⟩
              have hown := Hown.out
              have hall := Hall.out
              rw [htk] at hown hall
              obtain ⟨hV1, hV2, hV3⟩ := readD_done Hlt.out hN0 HgLs.out (by rw [HL.out]; omega) HS'.out (by rw [← Hraw.out]; exact hall)
              rw [← Hraw.out, ← hV] at hV1 hV2 hV3
              rw [← hV] at hown
              obtain ⟨A14, L14, c14, rfl, HL14, _, hr14⟩ := own_formUN hown
              have Hr14 := Lib.hid hr14; have Ho14 := Lib.hid hown; have HV2 := Lib.hid hV2; have HV3 := Lib.hid hV3
              have hL14 : L14 ≤ 1000000 := by have := HL14.out; omega
              have HwB : Hid (w.heap.size ≤ wB.heap.size) := Lib.hid HmB.out.size
              have Hmr := Lib.hid (HmB.out.trans Hm2.out (fun _ _ h => h))
              clear htk hV hown hall hV1 hV2 hV3 hr14 Hown Hall hjn
              go_wp2_with fail
              refine (rdenc_any A14 L14 c14 _ V wr Hr14.out (Nat.le_refl _) HV2.out hL14).mono ?_
              intro e w5 hE
              cases he : encD V with
              | none =>
                obtain ⟨rfl, hm5⟩ := hE.none_ he
                have Hd : Hid (decD N13 bs = none) := Lib.hid (by rw [HV3.out, he, if_neg (fun e => by cases e)])
                have Hm5 := Lib.hid (Hmr.out.trans hm5 (fun _ _ h => h))
                clear hE he hm5
                go_wp2_with fail
                go_ret2
                rw [Hd.out]
                exact ⟨rfl, Hm5.out⟩
              | some cs =>
                obtain ⟨v5, rfl, ho5, hm5⟩ := hE.some_ he
                obtain ⟨A5, L5, c5, rfl, _, _, _, hr5⟩ := own_formN8 ho5
                have Hm5 := Lib.hid (Hmr.out.trans hm5 (fun _ _ h => h)); have Ho145 := Lib.hid (Ho14.out.mod hm5)
                obtain ⟨s1, hs1⟩ : ∃ s1, strOf cs = s1 := ⟨_, rfl⟩
                obtain ⟨s2, hs2⟩ : ∃ s2, strOf bs = s2 := ⟨_, rfl⟩
                obtain ⟨b, hb⟩ : ∃ b, decide (cs = bs) = b := ⟨_, rfl⟩
                obtain ⟨hq, hq'⟩ := str_ne hs1 hs2 (encD_256 he) Hlt.out hb
                have hcv1 : (convert 27 9 (.slice A5 L5 c5)).run Try.prog w5 = .ok (.string s1) w5 := by
                  rw [← hs1]
                  exact conv_rds Try.underlying27 Try.underlying5 Try.underlying9 w5 hr5 (encD_256 he)
                have hcv2 : (convert 27 9 (.slice A n cap)).run Try.prog w5 = .ok (.string s2) w5 := by
                  rw [← hs2]
                  exact conv_rds Try.underlying27 Try.underlying5 Try.underlying9 w5 (Hs.out.mod Hm5.out HB.out (fun _ _ h => h)) Hlt.out
                have Hdec : Hid (decD N13 bs = if cs = bs then some V else none) := Lib.hid (by rw [HV3.out, he]; by_cases h : cs = bs <;> simp [h])
                have Hb := Lib.hid hb
                clear hE he hm5 hr5 ho5 hs1 hs2 hb
                cases b with
                | true =>
                  have Hd : Hid (decD N13 bs = some V) := Lib.hid (by rw [Hdec.out, if_pos (of_decide_eq_true Hb.out)])
                  go_wp2_with fail
                  go_ret2
                  rw [Hd.out]
                  exact ⟨_, rfl, Ho145.out.mono HwB.out, Hm5.out⟩
                | false =>
                  have Hd : Hid (decD N13 bs = none) := Lib.hid (by rw [Hdec.out, if_neg (of_decide_eq_false Hb.out)])
                  go_wp2_with fail
                  go_ret2
                  rw [Hd.out]
                  exact ⟨rfl, Hm5.out⟩
end Go.Proofs.Ytldjobaafambbaa

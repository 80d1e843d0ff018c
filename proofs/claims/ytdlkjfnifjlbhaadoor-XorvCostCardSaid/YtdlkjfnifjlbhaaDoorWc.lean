/- XorvCost's walk. -/
import Derived.Test.YtdlkjfnifjlbhaaDoorWs
import Derived.Test.YtdlkjfnifjlbhaaDoorTwo
import Derived.BigQuiet
namespace Go.Proofs.YtdlkjfnifjlbhaaDoor
open Go.RowKit

/-- What the loop has seen: how long i values are. -/
def CostTo (w wr : World) (ts : List Nat) (i last : Nat) : Prop := i ≤ ts.length ∧ last = flen (encVals (ts.take i)) ∧ Mod (fun _ => False) w wr
theorem cost_step {ts : List Nat} {i : Nat} (hf : ∀ x ∈ ts, x < 2 ^ 64) (hi : i < ts.length) : ∃ d, flen (encVals (ts.take (i + 1))) = flen (encVals (ts.take i)) + d ∧ d ≤ 77 ∧ (i = 0 → d = 64) ∧
    (0 < i → ∃ x u, ts[i]? = some x ∧ ts[i - 1]? = some u ∧ (x = u → d = 1) ∧ (x ≠ u → 3 ≤ d)) := by
  rcases Nat.eq_zero_or_pos i with h0 | h0
  · subst h0
    refine ⟨64, ?_, by omega, fun _ => rfl, fun h => by omega⟩
    cases ts with
    | nil => simp at hi
    | cons z ts => rfl
  · obtain ⟨j, rfl⟩ : ∃ j, i = j + 1 := ⟨i - 1, by omega⟩
    have hx : ts[j + 1]? = some (ts[j + 1]'hi) := List.getElem?_eq_getElem hi
    have hu : ts[j]? = some (ts[j]'(by omega)) := List.getElem?_eq_getElem (by omega)
    obtain ⟨win, hw, he⟩ := encVals_cost hf hx hu
    obtain ⟨l1, l2, l3⟩ := fieldsX_len (win := win) (x := ts[j + 1]'hi ^^^ ts[j]'(by omega))
    refine ⟨_, he, l3, fun h => by omega, fun _ => ⟨_, _, hx, hu, fun e => l1 ?_, fun e => l2 ?_ hw⟩⟩
    · rw [e, Nat.xor_self]
    · intro h
      have h2 := congrArg (fun y => y ^^^ ts[j]'(by omega)) h
      simp only [Nat.xor_assoc, Nat.xor_self, Nat.xor_zero, Nat.zero_xor] at h2
      exact e h2
set_option maxHeartbeats 4000000 in
set_option maxRecDepth 100000 in
theorem xorvCost_walk (A : Option Addr) (n0 c0 : Nat) (zs : List Nat) (how : Int) (w : World) (hs : Rds w w.heap.size A n0 (cellsU zs)) (hz : ∀ x ∈ zs, x < 2 ^ 64) (hdeb : Deb w) :
    Calls Tryd.prog 3 #[.slice A n0 c0, .int .i64 how] w fun e w' => e = .returned (.bool true) ∧ Mod (fun _ => False) w w' := by
  have Hs := Lib.hid hs; have Hz := Lib.hid hz; have Hdeb := Lib.hid hdeb
  have hd0 := hdeb.1
  clear hs hz hdeb
  go_enter Tryd.func3, Tryd.ntmps3
  go_wp2_with fail
  refine (values_any A n0 c0 zs how _ Hs.out Hz.out).mono ?_
  rintro e w1 ⟨v, ts, rfl, hown, hl60, hf, hm1⟩
  obtain ⟨A1, c1, rfl, hc1, hr1⟩ := own_formU hown
  have Hf := Lib.hid hf; have Hm1 := Lib.hid hm1; have Hr1 := Lib.hid hr1
  obtain ⟨n, hn⟩ : ∃ n, n = ts.length := ⟨_, rfl⟩
  have Hn := Lib.hid hn
  rw [← hn] at hl60 Hr1 hc1 ⊢
  have H0 : Hid (CostTo w1 w1 ts 0 0) := Lib.hid ⟨Nat.zero_le _, rfl, Mod.refl _ _⟩
  clear hown hf hm1 hr1 Hs Hz hn
  go_wp2_with fail
  go_loopg [6, 15] n (fun l s6 s15 wr => ∃ i last : Nat, i + l = n ∧ s15 = .int .i64 (i : Int) ∧ s6 = .int .i64 (last : Int) ∧ CostTo w1 wr ts i last)
  case atStart => exact ⟨0, 0, by omega, rfl, rfl, H0.out⟩
  case round =>
    obtain ⟨i, last, hil, rfl, rfl, hC⟩ := hrel
    have HC := Lib.hid hC; have Hil := Lib.hid hil
    clear hC hil H0
    obtain ⟨_, hlast, hm⟩ := HC.out
    have Hm := Lib.hid hm; have Hlast := Lib.hid hlast
    have Hdebr := Lib.hid (Hdeb.out.mod (Hm1.out.trans hm (fun _ _ h => h)) (fun h => h))
    clear hm hlast HC
    by_cases hin : i < n
    · obtain ⟨d, hd, hd77, hd0', hd1⟩ := cost_step (i := i) Hf.out (by rw [← Hn.out]; exact hin)
      have hi60 : i < 60 := by omega
      have Hd := Lib.hid hd
      clear hd
      go_wp2_with fail
      refine (newWriter_wr _).mono ?_
      rintro e w2 ⟨g, rfl, hg1, hg2, hwg, hm2⟩
      have hr2 := (Hr1.out.mod Hm.out (Nat.le_refl _) (fun _ _ h => h)).mod hm2 (by exact Hm.out.size) (fun _ _ h => h)
      have hrt := hr2.take (k := i + 1) (by omega)
      rw [cellsU_take] at hrt
      have Hr2 := Lib.hid hr2; have Hrt := Lib.hid hrt; have Hwg := Lib.hid hwg; have Hm2 := Lib.hid (Hm.out.trans hm2 (fun _ _ h => h))
      have Hg : Hid (w1.heap.size ≤ g ∧ w1.heap.size ≤ w2.heap.size ∧ 0 < w1.heap.size) := Lib.hid ⟨by have := Hm.out.size; omega, by have := Hm.out.size; have := hm2.size; omega, by have := Hm1.out.size; omega⟩
      have Hdeb2 := Lib.hid (Hdebr.out.mod hm2 (fun h => h))
      have hft : Hid (∀ x ∈ ts.take (i + 1), x < 2 ^ 64) := Lib.hid (fun x hx => Hf.out x (List.mem_of_mem_take hx))
      obtain ⟨k, hk⟩ : ∃ k, k = i + 1 := ⟨_, rfl⟩
      have hk1 : (i : Int) + 1 = (k : Int) := by omega
      have hkc : (k : Int) ≤ (c1 : Int) := by omega
      have hk0 : (0 : Int) ≤ (k : Int) := by omega
      have hk60 : k ≤ 60 := by omega
      rw [← hk] at Hrt hft
      have Hk := Lib.hid hk
      clear hg1 hg2 hwg hm2 hr2 hrt hk
      go_wp2_with fail
      refine (xenc_any w1.heap.size g none 0 0 k c1 A1 (ts.take k) w2 Hrt.out hft.out Hg.out.2.1 (fun h0 ad e hq => by
        obtain ⟨ad', e', hb, _⟩ := Hrt.out.2 h0
        rw [e] at e'
        injection e' with e'
        subst e'
        have := Hg.out
        rcases hq with hq | hq
        · omega
        · cases hq) (by have := Hg.out; omega) (fun e => by cases e) Hwg.out Hdeb2.out (by omega)).mono ?_
      rintro e w3 ⟨rfl, row, hw3, hm3, _⟩
      obtain ⟨L, hL⟩ : ∃ L, L = last + d := ⟨_, rfl⟩
      have hLe : flen (encVals (ts.take k)) = L := by rw [Hk.out, Hd.out, ← Hlast.out, hL]
      rw [Nat.zero_add, hLe] at hw3
      have hLb : L ≤ 64 + 77 * k := by have := encVals_len (ts.take k); rw [hLe, List.length_take] at this; omega
      have Hw3 := Lib.hid hw3
      have hr3 := Hr2.out.mod hm3 Hg.out.2.1 (fun j hj e => by have := Hg.out; rcases e with e | e; omega; cases e)
      have Hr3 := Lib.hid hr3
      have Hm3 := Lib.hid (Hm2.out.trans hm3 (fun i hi e => by have := Hg.out; rcases e with e | e; omega; cases e))
      have HLe := Lib.hid hLe
      have HL := Lib.hid hL
      have hdw : (L : Int) - (last : Int) = (d : Int) := by omega
      clear hL hw3 hm3 hLe hr3 Hm2 Hr2 Hrt Hwg hft Hdeb2 hk1 hkc hk0
      go_wp2_with fail
      refine (len_ab g row _ L _ Hw3.out (by omega)).mono ?_
      rintro e w4 ⟨rfl, hm4⟩
      have Hw4 := Lib.hid (Hw3.out.mod hm4 (fun h => h) (fun _ _ h => h)); have Hm4 := Lib.hid (Hm3.out.trans hm4 (fun _ _ h => h))
      have Hr4 := Lib.hid (Hr3.out.mod hm4 (by have := Hm3.out.size; omega) (fun _ _ h => h))
      clear hm4 Hw3 Hr3 Hm3
      go_upto_region 11 with fail
      clear hdw
      go_cut [80] (fun s80 wc => s80 = .bool false ∧ Mod (fun _ => False) w4 wc)
      case first =>
        by_cases hi0 : i = 0
        · have hd64 := hd0' hi0
          have hne1 : ((d : Int) != 64) = false := by rw [hd64]; rfl
          have hgt1 : ¬ (77 : Int) < (d : Int) := by omega
          have hgt2 : decide (77 < d) = false := by simp; omega
          subst hi0
          clear hd1 hd0' hd64
          go_quiet (fail)
          go_wp2_with fail
          go_meet
          exact ⟨rfl, (Mod.refl _ _).drewN _⟩
        · obtain ⟨x, u, hx, hu, hxu1, hxu2⟩ := hd1 (by omega)
          obtain ⟨ad, x', rfl, hx', hcx⟩ := Hr4.out.at2 hin (by have := Hm4.out.size; omega) (Mod.refl (fun _ => False) _) (fun _ _ h => h)
          obtain ⟨ad', u', e', hu', hcu⟩ := Hr4.out.at2 (show i - 1 < n by omega) (by have := Hm4.out.size; omega) (Mod.refl (fun _ => False) _) (fun _ _ h => h)
          injection e' with e'
          subst e'
          rw [hx] at hx'
          rw [hu] at hu'
          injection hx' with hx'
          injection hu' with hu'
          subst hx' hu'
          have hb0 : ((i : Int) == 0) = false := by simp; omega
          have hi1 : IntKind.i64.wrap ((i : Int) - 1) = (i : Int) - 1 := IntWalk.i64_in _ (by omega)
          have hi2 : ((i : Int) - 1).toNat = i - 1 := by omega
          have hi3 : (0 : Int) ≤ (i : Int) - 1 := by omega
          have hi4 : (i : Int) - 1 < (n : Int) := by omega
          have hi5 : (i : Int) < (n : Int) := by omega
          have hi6 : (0 : Int) ≤ (i : Int) := by omega
          have hi7 : (0 : Int) < (i : Int) := by omega
          have hd78 : ¬ (77 : Int) < (d : Int) := by omega
          have hd79 : decide (77 < d) = false := by simp; omega
          have hi8 : decide (0 < i) = true := by simp; omega
          clear hx hu
          by_cases hxu : x = u
          · have hd1e := hxu1 hxu
            have hne1 : ((d : Int) != 1) = false := by rw [hd1e]; rfl
            subst hxu
            clear hxu1 hxu2 hd1 hd0' hd1e
            go_quiet (fail)
            go_wp2_with fail
            go_meet
            exact ⟨rfl, (Mod.refl _ _).drewN _⟩
          · have hxb : ((x : Int) == (u : Int)) = false := by simp; omega
            have hxb2 : ((x : Int) != (u : Int)) = true := by simp; omega
            have hd3 : ¬ (d : Int) < 3 := by have := hxu2 hxu; omega
            have hd4 : decide (d < 3) = false := by have := hxu2 hxu; simp; omega
            clear hxu1 hxu2 hd1 hd0'
            go_quiet (fail)
            go_wp2_with fail
            go_meet
            exact ⟨rfl, (Mod.refl _ _).drewN _⟩
      case rest =>
        obtain ⟨rfl, hmc⟩ := hcut
        have Hwc := Lib.hid (Hw4.out.mod hmc (fun h => h) (fun _ _ h => h)); have Hmc := Lib.hid (Hm4.out.trans hmc (fun _ _ h => h))
        clear hmc hd0' hd1
        go_wp2_with fail
        refine (len_ab g row _ L _ Hwc.out (by omega)).mono ?_
        rintro e w5 ⟨rfl, hm5⟩
        have N1 : Hid (CostTo w1 w5 ts (i + 1) L) := Lib.hid ⟨by rw [← Hn.out]; omega, by rw [← Hk.out, HLe.out], Hmc.out.trans hm5 (fun _ _ h => h)⟩
        clear hm5
        go_wp2_with fail
        go_roundg (gk - 1)
        case measure => have := Hil.out; omega
        case rel => exact ⟨i + 1, L, by have := Hil.out; omega, by go_num, rfl, N1.out⟩
    · go_wp2_with fail
      refine (xawake_any _ Hdebr.out).mono ?_
      rintro e w9 ⟨rfl, hm9⟩
      have Hm9 := Lib.hid ((Hm1.out.trans Hm.out (fun _ _ h => h)).trans hm9 (fun _ _ h => h))
      clear hm9
      go_wp2_with fail
      go_ret
      exact ⟨rfl, Hm9.out⟩
end Go.Proofs.YtdlkjfnifjlbhaaDoor

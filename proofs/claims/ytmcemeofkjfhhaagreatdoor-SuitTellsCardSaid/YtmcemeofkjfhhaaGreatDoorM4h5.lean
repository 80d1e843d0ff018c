/- The texts Kxr, Wr, Wv, Pf, Df, Kxt, Rt, Ru, Kxe, Wn, Wq, Pg, Dh, Kxd, Rg, Rh, Kxc, Kxb, Wu, one behind the other. -/
import Derived.Test.YtmcemeofkjfhhaaGreatDoorM4h1
import Derived.Test.YtmcemeofkjfhhaaGreatDoorM4h2
import Derived.Test.YtmcemeofkjfhhaaGreatDoorM4h4
import Derived.Test.YtmcemeofkjfhhaaGreatDoorM4h3
/- The document's own Rising, values and steps. -/
namespace Go.Proofs.YtmcemeofkjfhhaaGreatDoor
open Go.RowKit

set_option maxHeartbeats 1000000 in
set_option maxRecDepth 100000 in
theorem rrising_any (A : Option Addr) (n c : Nat) (l : List (Int × Nat)) (w : World) (hs : RdsS w w.heap.size A n l) (hn : n ≤ 1000000) :
    Calls Tryz.prog 11 #[.slice A n c] w fun e w' => e = .returned (.bool (riseB l)) ∧ Mod (fun _ => False) w w' := by
  have Hs := Lib.hid hs; have Hl := Lib.hid hs.1
  have hcs : Tryz.prog.cellsOf 25 = 2 := by kernel_rfl
  clear hs
  go_enter Tryz.func11, Tryz.ntmps11
  go_wp2_with fail
  go_loopg [3] n (fun k s3 wr => ∃ i : Nat, i + k = n + 1 ∧ 1 ≤ i ∧ s3 = .int .i64 (i : Int) ∧ RiseTo l i ∧ Mod (fun _ => False) w wr)
  case atStart => exact ⟨1, by omega, Nat.le_refl _, rfl, (fun j a b h => by omega), Mod.refl _ _⟩
  case round =>
    obtain ⟨i, hik, hi1, rfl, hr, hm⟩ := hrel
    have Hik := Lib.hid hik; have Hr := Lib.hid hr; have Hm := Lib.hid hm
    clear hik hr hm
    by_cases hin : i < n
    · obtain ⟨ad, p, rfl, _, hp, hc0, _⟩ := Hs.out.at2 hin (Nat.le_refl _) Hm.out (fun _ _ h => h)
      have Hp := Lib.hid hp
      clear hp
      obtain ⟨j, hj⟩ : ∃ j, i = j + 1 := ⟨i - 1, by omega⟩
      have hjn : j < n := by omega
      have hwj : IntKind.i64.wrap ((i : Int) - 1) = (j : Int) := by rw [IntWalk.i64_in _ (by omega)]; omega
      have hwj2 : (i : Int) - 1 = (j : Int) := by omega
      have hini : (i : Int) < (n : Int) := by omega
      have hjni : (j : Int) < (n : Int) := by omega
      have Hj := Lib.hid hj
      clear hj
      obtain ⟨ad2, q, hA2, _, hq, hd0, _⟩ := Hs.out.at2 hjn (Nat.le_refl _) Hm.out (fun _ _ h => h)
      injection hA2 with hA2
      subst hA2
      have Hq := Lib.hid hq
      clear hq
      obtain ⟨x, hx⟩ : ∃ x, x = p.1 := ⟨_, rfl⟩
      obtain ⟨y, hy⟩ : ∃ y, y = q.1 := ⟨_, rfl⟩
      rw [← hx] at hc0
      rw [← hy] at hd0
      have Hx := Lib.hid hx; have Hy := Lib.hid hy
      clear hx hy
      by_cases hxy : x ≤ y
      · go_upto_region 4 with fail
        go_quiet (fail)
        go_wp2_with fail
        go_ret
        refine ⟨?_, Hm.out.drewN _⟩
        rw [riseB_fall (i := j) Hq.out (by rw [← Hj.out]; exact Hp.out) (by rw [← Hx.out, ← Hy.out]; exact hxy)]
        rfl
      · go_upto_region 4 with fail
        go_quiet (fail)
        go_wp2_with fail
        go_roundg (gk - 1)
        case measure => have := Hik.out; omega
        case rel => exact ⟨i + 1, by have := Hik.out; omega, by omega, by go_num, (by
          have h1 := Hr.out; have h2 := Hp.out; have h3 := Hj.out
          subst h3
          exact h1.more Hq.out h2 (by rw [← Hx.out, ← Hy.out]; omega)), Hm.out.drewN _⟩
    · have hall : Hid (RiseTo l l.length) := Lib.hid (fun j a b hj ha hb => Hr.out j a b (by have := Hl.out; omega) ha hb)
      by_cases hbig : n ≤ 65535
      · have hbi : decide ((n : Int) ≤ 65535) = true := by simp; omega
        have hbn : (n : Int) ≤ 65535 := by omega
        go_wp2_with fail
        go_ret
        refine ⟨?_, Hm.out⟩
        rw [riseB_true hall.out (by rw [Hl.out]; exact hbig)]
        rfl
      · have hbn : ¬ (n : Int) ≤ 65535 := by omega
        have hbi : decide ((n : Int) ≤ 65535) = false := by simp; omega
        go_wp2_with fail
        go_ret
        refine ⟨?_, Hm.out⟩
        rw [riseB_long (by rw [Hl.out]; omega)]
        rfl
/-- The first i values. -/
def RowVals (w wr : World) (l : List (Int × Nat)) (i : Nat) (v : Value) : Prop := Own w.heap.size wr 22 v (cellsU (vsOf (l.take i))) ∧ Mod (fun _ => False) w wr
theorem vs_take {l : List (Int × Nat)} {i : Nat} {p : Int × Nat} (h : l[i]? = some p) : vsOf (l.take (i + 1)) = vsOf (l.take i) ++ [p.2] := by
  have e : l.take (i + 1) = l.take i ++ [p] := by
    obtain ⟨hi, rfl⟩ := List.getElem?_eq_some_iff.1 h
    exact List.take_succ_eq_append_getElem hi
  rw [e]
  simp [vsOf]
theorem ts_take {l : List (Int × Nat)} {i : Nat} {p : Int × Nat} (h : l[i]? = some p) : tsOf (l.take (i + 1)) = tsOf (l.take i) ++ [p.1] := by
  have e : l.take (i + 1) = l.take i ++ [p] := by
    obtain ⟨hi, rfl⟩ := List.getElem?_eq_some_iff.1 h
    exact List.take_succ_eq_append_getElem hi
  rw [e]
  simp [tsOf]
set_option maxHeartbeats 1000000 in
set_option maxRecDepth 100000 in
theorem rvals_any (A : Option Addr) (n c : Nat) (l : List (Int × Nat)) (w : World) (hs : RdsS w w.heap.size A n l) (hn : n ≤ 1000000) :
    Calls Tryz.prog 18 #[.slice A n c] w fun e w' => ∃ v, e = .returned v ∧ Own w.heap.size w' 22 v (cellsU (vsOf l)) ∧ Mod (fun _ => False) w w' := by
  have Hs := Lib.hid hs; have Hl := Lib.hid hs.1
  have hcs : Tryz.prog.cellsOf 25 = 2 := by kernel_rfl
  have H0 : Hid (RowVals w w l 0 (.slice none 0 0)) := Lib.hid ⟨Own.nil _ _ _, Mod.refl _ _⟩
  clear hs
  go_enter Tryz.func18, Tryz.ntmps18
  go_wp2_with fail
  go_loopg [3, 4] n (fun k s3 s4 wr => ∃ i : Nat, i + k = n ∧ s4 = .int .i64 (i : Int) ∧ RowVals w wr l i s3)
  case atStart => exact ⟨0, by omega, rfl, H0.out⟩
  case round =>
    obtain ⟨i, hik, rfl, hV⟩ := hrel
    have Hik := Lib.hid hik; have HV := Lib.hid hV
    clear hik hV H0
    by_cases hin : i < n
    · obtain ⟨ad, ⟨T, V⟩, rfl, _, hp, _, hc1⟩ := Hs.out.at2 hin (Nat.le_refl _) HV.out.2 (fun _ _ h => h)
      have hc1' := cell_whole hc1
      have hini : (i : Int) < (n : Int) := by omega
      have Hp := Lib.hid hp
      have hlen : (cellsU (vsOf (l.take i))).length ≤ 1000000 := by rw [cellsU_length, vsOf_len, List.length_take]; omega
      have HR : Hid ((cellsU (vsOf (l.take i))).length + 1 ≤ maxLen ∧ ((cellsU (vsOf (l.take i))).length + 1) * 8 ≤ 140737488355328) := Lib.hid ⟨by unfold maxLen; omega, by omega⟩
      have hsz := HV.out.2.size
      clear hp hlen
      go_wp2_with (at_builtin; refine wpList_app1 rfl (.tmp 11) (.tmp 17) _ rfl eltU rfl HV.out.1 rfl rfl rfl HR.out.1 HR.out.2 hsz ?_; intro v2 w2 HO HB)
      have HV2 : Hid (RowVals w w2 l (i + 1) v2) := Lib.hid ⟨by rw [vs_take Hp.out, cellsU_snoc]; exact HO.out, HV.out.2.trans (Mod.of_below HB.out) (fun i hi h => by omega)⟩
      go_roundg (gk - 1)
      case measure => have := Hik.out; omega
      case rel => exact ⟨i + 1, by have := Hik.out; omega, by go_num, HV2.out⟩
    · have hi : i = n := by have := Hik.out; omega
      obtain ⟨h1, h2⟩ := HV.out
      rw [List.take_of_length_le (by rw [Hl.out]; omega)] at h1
      have X := Lib.hid (And.intro h1 h2)
      clear h1 h2 hi
      go_wp2_with fail
      go_ret
      exact ⟨_, rfl, X.out⟩
set_option maxHeartbeats 1000000 in
set_option maxRecDepth 100000 in
theorem rsteps_any (A : Option Addr) (n cap : Nat) (us : List Nat) (w : World) (hs : Rds w w.heap.size A n (cellsU us)) (hu : ∀ x ∈ us, x < 2 ^ 64) (hn : n ≤ 1000000) :
    Calls Tryz.prog 34 #[.slice A n cap] w fun e w' => ∃ v, e = .returned v ∧ Own w.heap.size w' 22 v (cellsU (stepsU 0 us)) ∧ Mod (fun _ => False) w w' := by
  have hul : us.length = n := by have := hs.1; rwa [cellsU_length] at this
  have Hs := Lib.hid hs; have Hu := Lib.hid hu; have Hul := Lib.hid hul
  have H0 : Hid (StepTo w w us 0 (.slice none 0 0) 0) := Lib.hid ⟨Own.nil _ _ _, rfl, by decide, Mod.refl _ _⟩
  clear hs hu hul
  go_enter Tryz.func34, Tryz.ntmps34
  go_wp2_with fail
  go_loopg [3, 4, 5] n (fun l s3 s4 s5 wr => ∃ i last : Nat, i + l = n ∧ s5 = .int .i64 (i : Int) ∧ s4 = .int .u64 (last : Int) ∧ StepTo w wr us i s3 last)
  case atStart => exact ⟨0, 0, by omega, rfl, rfl, H0.out⟩
  case round =>
    obtain ⟨i, last, hil, rfl, rfl, hP⟩ := hrel
    have Hil := Lib.hid hil; have HP := Lib.hid hP
    clear hil hP H0
    by_cases hin : i < n
    · obtain ⟨ad, x, rfl, hx, hcx⟩ := Hs.out.at2 hin (Nat.le_refl _) HP.out.2.2.2 (fun _ _ h => h)
      have hx64 := Hu.out x (List.mem_of_getElem? hx)
      have hl64 := HP.out.2.2.1
      have hini : (i : Int) < (n : Int) := by omega
      obtain ⟨y, hy⟩ : ∃ y, y = (x + M64 - last) % M64 := ⟨_, rfl⟩
      have hyl : y < M64 := by rw [hy]; exact Nat.mod_lt _ (by decide)
      have hw1 : IntKind.u64.wrap ((x : Int) - (last : Int)) = (y : Int) := by
        rw [IntKind.wrap_u64, hy]
        show _ = (((x + 18446744073709551616 - last) % 18446744073709551616 : Nat) : Int)
        omega
      have hw2 : wrap64 (y : Int) = sg y := by rw [wrap_sg, un_nat hyl]
      have hfi : FitI (sg y) := of_fits' (sg_fits hyl)
      obtain ⟨d, hd⟩ : ∃ d, d = sg y := ⟨_, rfl⟩
      rw [← hd] at hw2 hfi
      obtain ⟨z, hz⟩ : ∃ z, z = zig d := ⟨_, rfl⟩
      have HX : Hid (us[i]? = some x ∧ x < 2 ^ 64 ∧ z = zig (sg ((x + M64 - last) % M64))) := Lib.hid ⟨hx, hx64, by rw [hz, hd, hy]⟩
      have Hfi := Lib.hid hfi; have Hz := Lib.hid hz
      have hlen : (cellsU (stepsU 0 (us.take i))).length ≤ 1000000 := by rw [cellsU_length, stepsU_len, List.length_take]; omega
      have HR : Hid ((cellsU (stepsU 0 (us.take i))).length + 1 ≤ maxLen ∧ ((cellsU (stepsU 0 (us.take i))).length + 1) * 8 ≤ 140737488355328) := Lib.hid ⟨by unfold maxLen; omega, by omega⟩
      have hsz := HP.out.2.2.2.size
      clear hx hx64 hl64 hy hyl hfi hd hz hlen
      go_wp2_with fail
      refine (rzig_any d wr Hfi.out).mono ?_
      rintro e w1 ⟨rfl, rfl⟩
      rw [← Hz.out]
      clear hw1 hw2
      have hcx2 : ∀ (w2 : World), Below w.heap.size wr w2 → w2.cell? (ad.add i) = some (.int .u64 (x : Int)) := fun w2 hb => by
        obtain ⟨ad', hA, hb', _⟩ := Hs.out.2 (by omega)
        injection hA with hA
        subst hA
        rw [hb.cell (p := ad.add i) (by rw [add_block]; exact hb')]
        exact hcx
      have Hcx2 := Lib.hid hcx2
      clear hcx2
      go_wp2_with (at_builtin; refine wpList_app1 rfl (.tmp 12) (.tmp 21) _ rfl eltU rfl HP.out.1 rfl rfl rfl HR.out.1 HR.out.2 hsz ?_; intro v2 w2 HO HB; have hcx3 := Hcx2.out w2 HB.out)
      have HP2 : Hid (StepTo w w2 us (i + 1) v2 x) := Lib.hid (HP.out.step HX.out.1 HX.out.2.1 HX.out.2.2 HO.out HB.out)
      go_roundg (gk - 1)
      case measure => have := Hil.out; omega
      case rel => exact ⟨i + 1, x, by have := Hil.out; omega, by go_num, rfl, HP2.out⟩
    · have hi : i = n := by have := Hil.out; omega
      obtain ⟨hown, _, _, hm⟩ := HP.out
      rw [List.take_of_length_le (by have := Hul.out; omega)] at hown
      have X := Lib.hid (And.intro hown hm)
      clear hi hown hm
      go_wp2_with fail
      go_ret
      exact ⟨_, rfl, X.out⟩
end Go.Proofs.YtmcemeofkjfhhaaGreatDoor

/- The document's own values are told: ahead, behind, Values. -/
namespace Go.Proofs.YtmcemeofkjfhhaaGreatDoor
open Go.RowKit

set_option maxHeartbeats 1000000 in
theorem rahead_any (x : Nat) (w : World) : Calls Tryz.prog 62 #[.int .u64 (x : Int)] w fun e w' => e = .returned (.int .i64 (aheadN x : Int)) ∧ w = w' := by
  go_enter Tryz.func62, Tryz.ntmps62
  go_wp2
  go_loop [3] (fun s3 => ∃ n f : Nat, n + f = 31 ∧ s3 = .int .i64 (n : Int) ∧ Hid (ahd f n x = aheadN x)) (fun s3 => 31 - (intOf s3).toNat)
  case atStart => exact ⟨0, 31, rfl, rfl, Lib.hid rfl⟩
  case round =>
    obtain ⟨n, f, hnf, rfl, hA⟩ := hrel
    cases f with
    | zero =>
      have hn : ¬ n < 31 := by omega
      go_wp2
      go_ret
      exact ⟨ret_int (by have h := hA.out; have h2 : ahd 0 n x = n := rfl; omega), rfl⟩
    | succ f =>
      have hn : n < 31 := by omega
      obtain ⟨k, hk⟩ : ∃ k, k = 63 - n := ⟨_, rfl⟩
      have hk1 : (63 : Int) - (n : Int) = (k : Int) := by omega
      have hk2 : IntKind.u64.wrap (k : Int) = (k : Int) := by rw [IntKind.wrap_u64]; omega
      obtain ⟨q, hq⟩ : ∃ q, q = x / 2 ^ k := ⟨_, rfl⟩
      have hq1 : (x : Int) / 2 ^ k = (q : Int) := by rw [hq]; simp
      have e : ahd (f + 1) n x = if x / 2 ^ (63 - n) = 0 then ahd f (n + 1) x else n := rfl
      have hA2 := hA.out
      rw [e, ← hk, ← hq] at hA2
      clear e hq hk hA
      by_cases hq0 : q = 0
      · rw [if_pos hq0] at hA2
        have HA := Lib.hid hA2
        have hqb : ((q : Int) == 0) = true := by simp; omega
        clear hA2 hq0
        go_wp2
        go_round
        case rel => exact ⟨n + 1, f, by omega, by go_num, HA⟩
        case measure => simp [intOf]; omega
      · rw [if_neg hq0] at hA2
        have HA := Lib.hid hA2
        have hqb : ((q : Int) == 0) = false := by simp; omega
        clear hA2 hq0
        go_wp2
        go_ret
        exact ⟨ret_int (by rw [HA.out]), rfl⟩
set_option maxHeartbeats 1000000 in
theorem rbehind_any (x : Nat) (w : World) (h0 : 0 < x) (hx : Lt64 x) : Calls Tryz.prog 63 #[.int .u64 (x : Int)] w fun e w' => e = .returned (.int .i64 (behindN x : Int)) ∧ w = w' := by
  have hb63 := (behind_form h0 hx.out).1
  have Hx := Lib.hid hx; have Hb63 := Lib.hid hb63
  clear hx hb63
  go_enter Tryz.func63, Tryz.ntmps63
  go_wp2
  go_loop [3] (fun s3 => ∃ n f : Nat, n + f = 64 ∧ s3 = .int .i64 (n : Int) ∧ Hid (bhd f n x = behindN x)) (fun s3 => 64 - (intOf s3).toNat)
  case atStart => exact ⟨0, 64, rfl, rfl, Lib.hid rfl⟩
  case round =>
    obtain ⟨n, f, hnf, rfl, hA⟩ := hrel
    cases f with
    | zero =>
      exfalso
      have h := hA.out
      have h2 : bhd 0 n x = n := rfl
      have := Hb63.out
      omega
    | succ f =>
      have hn : n ≤ 63 := by omega
      have hk2 : IntKind.u64.wrap (n : Int) = (n : Int) := by rw [IntKind.wrap_u64]; omega
      obtain ⟨q, hq⟩ : ∃ q, q = x / 2 ^ n % 2 := ⟨_, rfl⟩
      have hbit : bits BinOp.and IntKind.u64 ((x : Int) / 2 ^ n) 1 = (q : Int) := by rw [bit_u64 x n Hx.out, hq]
      have e : bhd (f + 1) n x = if x / 2 ^ n % 2 = 0 then bhd f (n + 1) x else n := rfl
      have hA2 := hA.out
      rw [e, ← hq] at hA2
      clear e hq hA
      by_cases hq0 : q = 0
      · rw [if_pos hq0] at hA2
        have HA := Lib.hid hA2
        have hqb : ((q : Int) == 0) = true := by simp; omega
        clear hA2 hq0
        go_wp2
        go_round
        case rel => exact ⟨n + 1, f, by omega, by go_num, HA⟩
        case measure => simp [intOf]; omega
      · rw [if_neg hq0] at hA2
        have HA := Lib.hid hA2
        have hqb : ((q : Int) == 0) = false := by simp; omega
        clear hA2 hq0
        go_wp2
        go_ret
        exact ⟨ret_int (by rw [HA.out]), rfl⟩
end Go.Proofs.YtmcemeofkjfhhaaGreatDoor

/- The document's own rows of values are told: Values. -/
namespace Go.Proofs.YtmcemeofkjfhhaaGreatDoor
open Go.RowKit

def winB : Option (Nat × Nat) → Nat
  | none => 0
  | some (_, b) => b
/-- What the document has told of i values. -/
def XREnc (w wr : World) (g : Nat) (row : Option Nat) (N len : Nat) (zs : List Nat) (i : Nat) (win : Option (Nat × Nat)) : Prop :=
  ∃ fs, RWrote w wr g row N len fs ∧ WinOk win ∧ (i = 0 → fs = [] ∧ win = none) ∧ (0 < i → ∃ prev, zs[i - 1]? = some prev ∧ fs ++ encX win prev (zs.drop i) = encVals zs)
theorem fits_dec {win : Option (Nat × Nat)} {x : Nat} : fitsX win x = (win.isSome && (decide (winA win ≤ aheadN x) && decide (winB win ≤ behindN x))) := by
  cases win with
  | none => rfl
  | some p =>
    obtain ⟨a, b⟩ := p
    show decide (a ≤ aheadN x ∧ b ≤ behindN x) = (true && (decide (a ≤ aheadN x) && decide (b ≤ behindN x)))
    simp
set_option maxHeartbeats 4000000 in
set_option maxRecDepth 100000 in
theorem rvalues_any (B g : Nat) (row : Option Nat) (N len n c : Nat) (A : Option Addr) (zs : List Nat) (w : World) (hs : Rds w B A n (cellsU zs)) (hz : ∀ x ∈ zs, x < 2 ^ 64) (hB : B ≤ w.heap.size) (hap : 0 < n → ∀ ad, A = some ad → ¬ (ad.block = g ∨ row = some ad.block))
    (hw : RWr w g row N len) (hlen : len + (64 + 77 * n) ≤ 900000000) :
    Calls Tryz.prog 32 #[.pointer (some ⟨g, 0, none⟩), .slice A n c] w fun e w' => e = .returned (.tuple #[]) ∧ RWrote w w' g row N len (encVals zs) := by
  have hzl : zs.length = n := by have := hs.1; rwa [cellsU_length] at this
  have Hs := Lib.hid hs; have Hz := Lib.hid hz; have HS := Lib.hid hap; have Hzl := Lib.hid hzl
  have H0 : Hid (XREnc w w g row N len zs 0 none) := Lib.hid ⟨[], RWrote.refl hw, trivial, fun _ => ⟨rfl, rfl⟩, fun h => by omega⟩
  have Htot : Hid (len + flen (encVals zs) ≤ 900000000) := Lib.hid (by have := encVals_len zs; rw [hzl] at this; omega)
  clear hs hz hw hap hzl
  go_enter Tryz.func32, Tryz.ntmps32
  go_wp2_with fail
  go_loopg [4, 5, 6, 7] n (fun l s4 s5 s6 s7 wr => ∃ (i : Nat) (win : Option (Nat × Nat)), i + l = n ∧ s7 = .int .i64 (i : Int) ∧ s4 = .bool win.isSome ∧ s5 = .int .i64 (winA win : Int) ∧ s6 = .int .i64 (winB win : Int) ∧ XREnc w wr g row N len zs i win)
  case atStart => exact ⟨0, none, by omega, rfl, rfl, rfl, rfl, H0.out⟩
  case round =>
    obtain ⟨i, win, hil, rfl, rfl, rfl, rfl, hE⟩ := hrel
    have HE := Lib.hid hE; have Hil := Lib.hid hil
    clear hE hil H0
    by_cases hin : i < n
    · obtain ⟨fs, hwr, hok, he0, he1⟩ := HE.out
      obtain ⟨ad, v, rfl, hv, hcv⟩ := Hs.out.at2 hin hB (by obtain ⟨_, _, a2, _⟩ := hwr; exact a2) (HS.out (by omega))
      have Hv := Lib.hid hv
      have hvl := Lib.hid (Hz.out v (List.mem_of_getElem? hv))
      have Hdr := Lib.hid (drop_at' hv)
      have Hok := Lib.hid hok
      clear hv hok
      by_cases hi0 : i = 0
      · obtain ⟨rfl, rfl⟩ := he0 hi0
        subst hi0
        have Hwr := Lib.hid hwr
        have hcx0 : wr.cell? ad = some (.int .u64 (v : Int)) := by rw [← add_zero' ad]; exact hcv
        clear hwr he0 he1 HE
        go_wp2_with fail
        refine (rput_wrote w g row N len 64 [] v _ _ _ rfl rfl (by omega) hvl.out Hwr.out (by show len + 0 ≤ _; omega)).mono ?_
        rintro e w1 ⟨rfl, h1⟩
        have hd0 := Hdr.out
        rw [List.drop_zero] at hd0
        have H1 : Hid (XREnc w w1 g row N len zs 1 none) := Lib.hid ⟨[(v, 64)], h1, trivial, fun h => by omega, fun _ => ⟨v, Hv.out, by rw [hd0]; rfl⟩⟩
        clear h1 hd0 Hwr
        go_wp2_with fail
        go_roundg (gk - 1)
        case measure => have := Hil.out; omega
        case rel => exact ⟨1, none, by have := Hil.out; omega, rfl, rfl, rfl, rfl, H1.out⟩
      · have hb0 : ((i : Int) == 0) = false := by simp; omega
        obtain ⟨prev, hpv, hE1⟩ := he1 (by omega)
        obtain ⟨ad', x', e', hx', hcp⟩ := Hs.out.at2 (show i - 1 < n by omega) hB (by obtain ⟨_, _, a2, _⟩ := hwr; exact a2) (HS.out (by omega))
        injection e' with e'
        subst e'
        rw [hpv] at hx'
        injection hx' with hx'
        subst hx'
        have hpl := Lib.hid (Hz.out prev (List.mem_of_getElem? hpv))
        obtain ⟨x, hx⟩ : ∃ x : Nat, x = v ^^^ prev := ⟨_, rfl⟩
        have hxor : bits .xor .u64 (v : Int) (prev : Int) = (x : Int) := by rw [hx]; exact u64_xor_nat v prev hvl.out hpl.out
        have hxl : Hid (Lt64 x) := Lib.hid (by rw [hx]; exact Nat.xor_lt_two_pow hvl.out hpl.out)
        have hi1 : IntKind.i64.wrap ((i : Int) - 1) = (i : Int) - 1 := IntWalk.i64_in _ (by omega)
        have hi2 : ((i : Int) - 1).toNat = i - 1 := by omega
        have hi3 : (0 : Int) ≤ (i : Int) - 1 := by omega
        have hi4 : (i : Int) - 1 < (n : Int) := by omega
        have hi5 : (i : Int) < (n : Int) := by omega
        have hi6 : (0 : Int) ≤ (i : Int) := by omega
        have Hwr := Lib.hid hwr; have HE1 := Lib.hid hE1; have Hx := Lib.hid hx
        have hl : Hid (len + flen fs ≤ 900000000) := Lib.hid (by have := Htot.out; rw [← HE1.out] at this; have := flen_le_app fs (encX win prev (zs.drop i)); omega)
        have hnx : Hid (∀ w', RWrote w w' g row N len (fs ++ fieldsX win x) → XREnc w w' g row N len zs (i + 1) (winX win x)) := Lib.hid (fun w' h =>
          ⟨_, h, winX_ok Hok.out hxl.out, fun h => by omega, fun _ => ⟨v, Hv.out, by rw [← HE1.out, Hdr.out, List.append_assoc, Hx.out]; rfl⟩⟩)
        obtain ⟨a, ha⟩ : ∃ a, a = winA win := ⟨_, rfl⟩
        obtain ⟨b, hb⟩ : ∃ b, b = winB win := ⟨_, rfl⟩
        obtain ⟨any, hany⟩ : ∃ any, any = win.isSome := ⟨_, rfl⟩
        have Ha := Lib.hid ha; have Hb := Lib.hid hb; have Hany := Lib.hid hany
        rw [← ha, ← hb, ← hany]
        clear hwr he0 he1 HE hE1 hx hpv ha hb hany
        go_upto_region 6 with fail
        go_quiet (fail)
        have Hwr2 := Lib.hid (Hwr.out.drewN nq)
        clear Hwr hcv hcp hi1 hi2 hi3 hi4 hxor
        generalize wr.drewN nq = w2 at *
        by_cases hx0 : x = 0
        · have hx0b : ((x : Int) == 0) = true := by simp; omega
          have hf0 : Hid (fieldsX win x = [(0, 1)] ∧ winX win x = win) := Lib.hid ⟨by unfold fieldsX; rw [if_pos hx0], by unfold winX; rw [if_pos hx0]⟩
          clear hx0
          go_wp2_with fail
          refine (rput_wrote w g row N len 1 fs 0 0 1 _ rfl rfl (by omega) (show (0 : Nat) < 18446744073709551616 by decide) Hwr2.out (by have := hl.out; omega)).mono ?_
          rintro e w3 ⟨rfl, h3⟩
          have H3 : Hid (XREnc w w3 g row N len zs (i + 1) win) := Lib.hid (by have h := hnx.out w3 (by rw [hf0.out.1]; exact h3); rwa [hf0.out.2] at h)
          clear h3
          go_wp2_with fail
          go_roundg (gk - 1)
          case measure => have := Hil.out; omega
          case rel => exact ⟨i + 1, win, by have := Hil.out; omega, by go_num, by rw [Hany.out], by rw [Ha.out], by rw [Hb.out], H3.out⟩
        · have hx0b : ((x : Int) == 0) = false := by simp; omega
          go_wp2_with fail
          refine (rput_wrote w g row N len 1 fs 1 1 1 _ rfl rfl (by omega) (show (1 : Nat) < 18446744073709551616 by decide) Hwr2.out (by have := hl.out; omega)).mono ?_
          rintro e w3 ⟨rfl, h3⟩
          have H3 := Lib.hid h3
          obtain ⟨ah, hah⟩ : ∃ ah, ah = aheadN x := ⟨_, rfl⟩
          obtain ⟨be, hbe⟩ : ∃ be, be = behindN x := ⟨_, rfl⟩
          have hsum := sum_le (by omega) hxl.out
          have hah31 := (ahead_spec hxl.out).1
          rw [← hah] at hsum hah31
          rw [← hbe] at hsum
          have Hah := Lib.hid hah; have Hbe := Lib.hid hbe
          clear h3 hah hbe Hwr2
          have hfd := fits_dec (win := win) (x := x)
          rw [← Hany.out, ← Ha.out, ← Hb.out, ← Hah.out, ← Hbe.out] at hfd
          obtain ⟨fit, hfit⟩ : ∃ fit, fit = fitsX win x := ⟨_, rfl⟩
          rw [← hfit] at hfd
          have Hfd := Lib.hid hfd; have Hfit := Lib.hid hfit
          clear hfd hfit
          go_upto_region 10 with fail
          go_cut [50] (fun s50 wc => s50 = .bool fit ∧ w3 = wc)
          case first =>
            cases any with
            | false =>
              obtain rfl : fit = false := Hfd.out
              go_wp2_with fail
              go_meet
              case rel => exact ⟨rfl, rfl⟩
            | true =>
              by_cases h1 : a ≤ ah
              · by_cases h2 : b ≤ be
                · obtain rfl : fit = true := by rw [Hfd.out, decide_eq_true h1, decide_eq_true h2]; rfl
                  go_wp2_with (first | (go_at_call 62; refine (rahead_any x _).mono ?_; rintro e w5 ⟨rfl, rfl⟩; rw [← Hah.out]) | (go_at_call 63; refine (rbehind_any x _ (by omega) hxl.out).mono ?_; rintro e w5 ⟨rfl, rfl⟩; rw [← Hbe.out]))
                  go_meet
                  case rel => exact ⟨rfl, rfl⟩
                · obtain rfl : fit = false := by rw [Hfd.out, decide_eq_true h1, decide_eq_false h2]; rfl
                  go_wp2_with (first | (go_at_call 62; refine (rahead_any x _).mono ?_; rintro e w5 ⟨rfl, rfl⟩; rw [← Hah.out]) | (go_at_call 63; refine (rbehind_any x _ (by omega) hxl.out).mono ?_; rintro e w5 ⟨rfl, rfl⟩; rw [← Hbe.out]))
                  go_meet
                  case rel => exact ⟨rfl, rfl⟩
              · obtain rfl : fit = false := by rw [Hfd.out, decide_eq_false h1]; rfl
                go_wp2_with (first | (go_at_call 62; refine (rahead_any x _).mono ?_; rintro e w5 ⟨rfl, rfl⟩; rw [← Hah.out]) | (go_at_call 63; refine (rbehind_any x _ (by omega) hxl.out).mono ?_; rintro e w5 ⟨rfl, rfl⟩; rw [← Hbe.out]))
                go_meet
                case rel => exact ⟨rfl, rfl⟩
          case rest =>
            obtain ⟨rfl, rfl⟩ := hcut
            cases fit with
            | true =>
              have hin2 : WinOk win ∧ a + b ≤ 63 ∧ fieldsX win x = [(1, 1), (0, 1), (x / 2 ^ b, 64 - a - b)] ∧ winX win x = win := by
                have hf := Hfit.out.symm
                have hw := Hok.out
                rw [Ha.out, Hb.out]
                cases win with
                | none => cases hf
                | some p =>
                  obtain ⟨a', b'⟩ := p
                  refine ⟨hw, hw.2, ?_, ?_⟩
                  · unfold fieldsX; rw [if_neg hx0, if_pos hf]; rfl
                  · unfold winX; rw [if_neg hx0, if_pos hf]
              obtain ⟨_, hab, hfe, hwe⟩ := hin2
              obtain ⟨s, hs⟩ : ∃ s, s = 64 - a - b := ⟨_, rfl⟩
              obtain ⟨y, hy⟩ : ∃ y, y = x / 2 ^ b := ⟨_, rfl⟩
              have hs1 : (64 : Int) - (a : Int) - (b : Int) = (s : Int) := by omega
              have hy1 : (x : Int) / 2 ^ b = (y : Int) := by rw [hy]; simp
              have hyl : Hid (Lt64 y) := Lib.hid (by have := hxl.out.out; have := Nat.div_le_self x (2 ^ b); unfold Lt64; omega)
              have hbw : IntKind.u64.wrap (b : Int) = (b : Int) := by rw [IntKind.wrap_u64]; omega
              have hs64 : s ≤ 64 := by omega
              rw [← hs, ← hy] at hfe
              have Hfe := Lib.hid hfe; have Hwe := Lib.hid hwe
              clear hs hy hfe hwe
              go_wp2_with fail
              refine (rput_wrote w g row N len 1 _ 0 0 1 _ rfl rfl (by omega) (show (0 : Nat) < 18446744073709551616 by decide) H3.out (by rw [flen_app]; have := hl.out; show len + (flen fs + (1 + 0)) ≤ _; omega)).mono ?_
              rintro e w5 ⟨rfl, h5⟩
              have H5 := Lib.hid h5
              clear h5 H3
              go_wp2_with fail
              refine (rput_wrote w g row N len s _ y _ _ _ rfl rfl hs64 hyl.out H5.out (by rw [flen_app, flen_app]; have := hl.out; show len + (flen fs + (1 + 0) + (1 + 0)) ≤ _; omega)).mono ?_
              rintro e w6 ⟨rfl, h6⟩
              have H6 : Hid (XREnc w w6 g row N len zs (i + 1) win) := Lib.hid (by
                have h := hnx.out w6 (by rw [Hfe.out]; simpa using h6)
                rwa [Hwe.out] at h)
              clear h6 H5 hs1 hy1 hbw
              go_wp2_with fail
              go_roundg (gk - 1)
              case measure => have := Hil.out; omega
              case rel => exact ⟨i + 1, win, by have := Hil.out; omega, by go_num, by rw [Hany.out], by rw [Ha.out], by rw [Hb.out], H6.out⟩
            | false =>
              have hnf : ¬ fitsX win x = true := by rw [← Hfit.out]; decide
              have hfe : fieldsX win x = [(1, 1), (1, 1), (ah, 5), (63 - ah - be, 6), (x / 2 ^ be, 64 - ah - be)] := by rw [Hah.out, Hbe.out]; unfold fieldsX; rw [if_neg hx0, if_neg hnf]; rfl
              have hwe : winX win x = some (ah, be) := by rw [Hah.out, Hbe.out]; unfold winX; rw [if_neg hx0, if_neg hnf]
              obtain ⟨s, hs⟩ : ∃ s, s = 64 - ah - be := ⟨_, rfl⟩
              obtain ⟨m, hm⟩ : ∃ m, m = 63 - ah - be := ⟨_, rfl⟩
              obtain ⟨y, hy⟩ : ∃ y, y = x / 2 ^ be := ⟨_, rfl⟩
              have hs1 : (64 : Int) - (ah : Int) - (be : Int) = (s : Int) := by omega
              have hm1 : (63 : Int) - (ah : Int) - (be : Int) = (m : Int) := by omega
              have hy1 : (x : Int) / 2 ^ be = (y : Int) := by rw [hy]; simp
              have hyl : Hid (Lt64 y) := Lib.hid (by have := hxl.out.out; have := Nat.div_le_self x (2 ^ be); unfold Lt64; omega)
              have hbw : IntKind.u64.wrap (be : Int) = (be : Int) := by rw [IntKind.wrap_u64]; omega
              have haw : IntKind.u64.wrap (ah : Int) = (ah : Int) := by rw [IntKind.wrap_u64]; omega
              have hmw : IntKind.u64.wrap (m : Int) = (m : Int) := by rw [IntKind.wrap_u64]; omega
              have hs64 : s ≤ 64 := by omega
              have hm64 : m ≤ 63 := by omega
              rw [← hs, ← hm, ← hy] at hfe
              have Hfe := Lib.hid hfe; have Hwe := Lib.hid hwe
              clear hs hm hy hfe hwe hnf
              go_wp2_with (first | (go_at_call 62; refine (rahead_any x _).mono ?_; rintro e w5 ⟨rfl, rfl⟩; rw [← Hah.out]) | (go_at_call 63; refine (rbehind_any x _ (by omega) hxl.out).mono ?_; rintro e w5 ⟨rfl, rfl⟩; rw [← Hbe.out]))
              refine (rput_wrote w g row N len 1 _ 1 1 1 _ rfl rfl (by omega) (show (1 : Nat) < 18446744073709551616 by decide) H3.out (by rw [flen_app]; have := hl.out; show len + (flen fs + (1 + 0)) ≤ _; omega)).mono ?_
              rintro e w5 ⟨rfl, h5⟩
              have H5 := Lib.hid h5
              clear h5 H3
              go_wp2_with fail
              refine (rput_wrote w g row N len 5 _ ah _ 5 _ rfl rfl (by omega) (show ah < 18446744073709551616 by omega) H5.out (by rw [flen_app, flen_app]; have := hl.out; show len + (flen fs + (1 + 0) + (1 + 0)) ≤ _; omega)).mono ?_
              rintro e w6 ⟨rfl, h6⟩
              have H6 := Lib.hid h6
              clear h6 H5
              go_wp2_with fail
              refine (rput_wrote w g row N len 6 _ m _ 6 _ rfl rfl (by omega) (show m < 18446744073709551616 by omega) H6.out (by rw [flen_app, flen_app, flen_app]; have := hl.out; show len + (flen fs + (1 + 0) + (1 + 0) + (5 + 0)) ≤ _; omega)).mono ?_
              rintro e w7 ⟨rfl, h7⟩
              have H7 := Lib.hid h7
              clear h7 H6
              go_wp2_with fail
              refine (rput_wrote w g row N len s _ y _ _ _ rfl rfl hs64 hyl.out H7.out (by rw [flen_app, flen_app, flen_app, flen_app]; have := hl.out; show len + (flen fs + (1 + 0) + (1 + 0) + (5 + 0) + (6 + 0)) ≤ _; omega)).mono ?_
              rintro e w8 ⟨rfl, h8⟩
              have H8 : Hid (XREnc w w8 g row N len zs (i + 1) (some (ah, be))) := Lib.hid (by
                have h := hnx.out w8 (by rw [Hfe.out]; simpa using h8)
                rwa [Hwe.out] at h)
              clear h8 H7 hs1 hm1 hy1 hbw haw hmw
              go_wp2_with fail
              go_roundg (gk - 1)
              case measure => have := Hil.out; omega
              case rel => exact ⟨i + 1, some (ah, be), by have := Hil.out; omega, by go_num, rfl, rfl, rfl, H8.out⟩
    · go_wp2_with fail
      go_end0
      refine ⟨rfl, ?_⟩
      obtain ⟨fs, hwr, hok, he0, he1⟩ := HE.out
      have hil := Hil.out
      have hzl := Hzl.out
      rcases Nat.eq_zero_or_pos i with h0 | h0
      · obtain ⟨rfl, _⟩ := he0 h0
        have : zs = [] := List.eq_nil_of_length_eq_zero (by omega)
        subst this
        exact hwr
      · obtain ⟨prev, _, this⟩ := he1 h0
        rw [List.drop_of_length_le (by omega)] at this
        have e : fs = encVals zs := by rw [← this]; show fs = fs ++ []; simp
        rw [← e]
        exact hwr
end Go.Proofs.YtmcemeofkjfhhaaGreatDoor

/- The document's own answer: values are told by their least. -/
namespace Go.Proofs.YtmcemeofkjfhhaaGreatDoor
open Go.RowKit

/-- The first loop: the least and the greatest of the first i; no memory is made. -/
def FrmTo (w wr : World) (us : List Nat) (i lo hi : Nat) : Prop := loI us i = lo ∧ hiI us i = hi ∧ lo < 2 ^ 64 ∧ hi < 2 ^ 64 ∧ Mod (fun _ => False) w wr
theorem FrmTo.step {w wr w2 : World} {us : List Nat} {i lo hi x lo2 hi2 : Nat} (h : FrmTo w wr us i lo hi) (hx : us[i]? = some x) (hx64 : x < 2 ^ 64) (h1 : min lo x = lo2) (h2 : max hi x = hi2) (hm : Mod (fun _ => False) wr w2) : FrmTo w w2 us (i + 1) lo2 hi2 := by
  obtain ⟨a1, a2, a3, a4, a5⟩ := h
  refine ⟨by rw [loI_succ hx, a1, h1], by rw [hiI_succ hx, a2, h2], by omega, by omega, a5.trans hm (fun _ _ h => h)⟩
/-- The second loop: how far each is from the least. -/
def DifTo (w wr : World) (us : List Nat) (i : Nat) (v : Value) : Prop := Own w.heap.size wr 22 v (cellsU ((difV us).take i)) ∧ Mod (fun _ => False) w wr
set_option maxHeartbeats 4000000 in
set_option maxRecDepth 100000 in
theorem rpenc_any (A : Option Addr) (n cap B : Nat) (us : List Nat) (w : World) (hs : Rds w B A n (cellsU us)) (hB : B ≤ w.heap.size) (hu : ∀ x ∈ us, x < 2 ^ 64) (hn : n ≤ 1000000) :
    Calls Tryz.prog 36 #[.slice A n cap] w fun e w' => ∃ v, e = .returned v ∧ Own w.heap.size w' 5 v (cells8 (encP us)) ∧ Mod (fun _ => False) w w' := by
  have hul : us.length = n := by have := hs.1; rwa [cellsU_length] at this
  by_cases h0 : n = 0
  · subst h0
    obtain rfl := List.eq_nil_of_length_eq_zero hul
    clear hs
    go_enter Tryz.func36, Tryz.ntmps36
    go_wp2_with fail
    go_ret
    exact ⟨_, rfl, Own.nil _ _ _, Mod.refl _ _⟩
  · have hne : us ≠ [] := by rintro rfl; exact h0 hul.symm
    have hp : 0 < n := by omega
    have hpi : (0 : Int) < (n : Int) := by omega
    have hn0 : ((n : Int) == 0) = false := by simp; omega
    obtain ⟨ad, x0, hA, hx0, hc0⟩ := hs.at2 hp hB (Mod.refl (fun _ => False) w) (fun _ _ h => h)
    have hc0' := hc0
    rw [add_nought] at hc0'
    have hx064 := hu x0 (List.mem_of_getElem? hx0)
    have hz1 : loI us 0 = x0 := by rw [loI_zero, List.getD_eq_getElem?_getD, hx0]; rfl
    have hz2 : hiI us 0 = x0 := by rw [hiI_zero, List.getD_eq_getElem?_getD, hx0]; rfl
    have H0 : Hid (∀ k, FrmTo w (w.drewN k) us 0 x0 x0) := Lib.hid (fun k => ⟨hz1, hz2, hx064, hx064, (Mod.refl _ _).drewN k⟩)
    have Hs := Lib.hid hs; have Hu := Lib.hid hu; have HB := Lib.hid hB; have Hul := Lib.hid hul; have Hne := Lib.hid hne
    clear hs hu hB hul hne hx0 hx064 hz1 hz2
    subst hA
    go_enter Tryz.func36, Tryz.ntmps36
    go_upto_region 3 with fail
    go_quiet (fail)
    go_wp2_with fail
    clear hc0 hc0'
    go_loopg [3, 4, 5] n (fun l s3 s4 s5 wr => ∃ (i lo hi : Nat), i + l = n ∧ s5 = .int .i64 (i : Int) ∧ s3 = .int .u64 (lo : Int) ∧ s4 = .int .u64 (hi : Int) ∧ FrmTo w wr us i lo hi)
    case atStart => exact ⟨0, x0, x0, by omega, rfl, rfl, rfl, H0.out _⟩
    case round =>
      obtain ⟨i, lo, hi, hil, rfl, rfl, rfl, hF⟩ := hrel
      have HF := Lib.hid hF; have Hil := Lib.hid hil
      clear hF hil H0
      by_cases hin : i < n
      · obtain ⟨ad', x, he, hx, hcx⟩ := Hs.out.at2 hin HB.out HF.out.2.2.2.2 (fun _ _ h => h)
        injection he with he
        subst he
        obtain ⟨lo2, hlo2⟩ : ∃ m2, min lo x = m2 := ⟨_, rfl⟩
        obtain ⟨hi2, hhi2⟩ : ∃ m2, max hi x = m2 := ⟨_, rfl⟩
        have hmin := minU_is (P := Tryz.prog) (t := 22) (ty := 22) hlo2
        have hmax := maxU_is (P := Tryz.prog) (t := 22) (ty := 22) hhi2
        have HS : Hid (∀ k, FrmTo w (wr.drewN k) us (i + 1) lo2 hi2) := Lib.hid (fun k => HF.out.step hx (Hu.out x (List.mem_of_getElem? hx)) hlo2 hhi2 ((Mod.refl _ _).drewN k))
        have hi1 : (0 : Int) ≤ (i : Int) := by omega
        clear hx hlo2 hhi2
        go_upto_region 7 with fail
        go_quiet (fail)
        go_wp2_with fail
        go_roundg (gk - 1)
        case measure => have := Hil.out; omega
        case rel => exact ⟨i + 1, lo2, hi2, by have := Hil.out; omega, by go_num, rfl, rfl, HS.out _⟩
      · have hin2 : i = n := by have := Hil.out; omega
        obtain ⟨hlo, hhi, hlo64, hhi64, hm⟩ := HF.out
        rw [loI_all (by have := Hul.out; omega)] at hlo
        rw [hiI_all (by have := Hul.out; omega)] at hhi
        have hLH : lo ≤ hi := by rw [← hlo, ← hhi]; exact Nat.le_trans (loV_le (getD_mem Hne.out)) (hiV_ge (getD_mem Hne.out))
        obtain ⟨d, hd⟩ : ∃ d, d = hi - lo := ⟨_, rfl⟩
        have hdw : IntKind.u64.wrap ((hi : Int) - (lo : Int)) = (d : Int) := by rw [IntKind.wrap_u64]; omega
        obtain ⟨S, hS⟩ : ∃ S, wid d = S := ⟨_, rfl⟩
        have hS64 : S ≤ 64 := by rw [← hS]; exact wid_le d
        have HS : Hid (widV us = S) := Lib.hid (by unfold widV; rw [hlo, hhi, ← hd]; exact hS)
        have hd64 : Lt64 d := by unfold Lt64; omega
        have hL64' : Lt64 lo := by unfold Lt64; omega
        have hcS : IntKind.u8.wrap (S : Int) = (S : Int) := by rw [IntKind.wrap_u8']; omega
        have hcS' : (S : Int) % 256 = (S : Int) := by omega
        have D0 : Hid (DifTo w wr us 0 (.slice none 0 0)) := Lib.hid ⟨Own.nil _ _ _, hm⟩
        have Hdl : Hid ((difV us).length = n) := Lib.hid (by rw [difV_len]; exact Hul.out)
        have HL := Lib.hid hlo; have Hd64 := Lib.hid hd64; have HL64 := Lib.hid hL64'; have HSd := Lib.hid hS
        clear hlo hhi hlo64 hhi64 hm hLH hd hS hd64 hL64' HF hin2
        go_wp2_with fail
        go_loopg [6, 7] n (fun l s6 s7 wq => ∃ i : Nat, i + l = n ∧ s7 = .int .i64 (i : Int) ∧ DifTo w wq us i s6)
        case atStart => exact ⟨0, by omega, rfl, D0.out⟩
        case round =>
          obtain ⟨j, hjl, rfl, hown, hm⟩ := hrel
          have Hown := Lib.hid hown; have Hm := Lib.hid hm; have Hjl := Lib.hid hjl
          clear hown hm hjl D0
          by_cases hjn : j < n
          · obtain ⟨ad', x, he, hx, hcx⟩ := Hs.out.at2 hjn HB.out Hm.out (fun _ _ h => h)
            injection he with he
            subst he
            have hxl := Hu.out x (List.mem_of_getElem? hx)
            have hLx : lo ≤ x := by rw [← HL.out]; exact loV_le (List.mem_of_getElem? hx)
            obtain ⟨y, hy⟩ : ∃ y, y = x - lo := ⟨_, rfl⟩
            have hyw : IntKind.u64.wrap ((x : Int) - (lo : Int)) = (y : Int) := by rw [IntKind.wrap_u64]; omega
            have Hy : Hid ((difV us).take (j + 1) = (difV us).take j ++ [y]) := Lib.hid (by rw [hy]; exact take_succ_of (difV_at hx HL.out))
            have hj1 : (0 : Int) ≤ (j : Int) := by omega
            have htl : ((difV us).take j).length ≤ 1000000 := by rw [List.length_take]; omega
            have hr1 : (cellsU ((difV us).take j)).length + 1 ≤ maxLen := by rw [cellsU_length]; unfold maxLen; omega
            have hr2 : ((cellsU ((difV us).take j)).length + 1) * 8 ≤ 140737488355328 := by rw [cellsU_length]; omega
            have Hr1 := Lib.hid hr1; have Hr2 := Lib.hid hr2
            have hsz := Hm.out.size
            clear hxl hLx hx hy htl hr1 hr2
            go_wp2_with (at_builtin; refine wpList_app1 rfl (.tmp 41) (.tmp 48) _ rfl eltU rfl Hown.out rfl rfl rfl Hr1.out Hr2.out hsz ?_; intro v' w3 HO HBl)
            have HD : Hid (DifTo w w3 us (j + 1) v') := Lib.hid ⟨by rw [Hy.out, cellsU_snoc]; exact HO.out, Hm.out.trans (Mod.of_below HBl.out) (fun i hi h => by omega)⟩
            clear HO HBl
            go_roundg (gk - 1)
            case measure => have := Hjl.out; omega
            case rel => exact ⟨j + 1, by have := Hjl.out; omega, by go_num, HD.out⟩
          · have htk : (difV us).take j = difV us := List.take_of_length_le (by have := Hjl.out; have := Hdl.out; omega)
            have hol := Hown.out
            rw [htk] at hol
            have Hol := Lib.hid hol
            clear hol htk Hown
            go_wp2_with fail
            refine (vrput_any none 0 0 0 [] lo wr (Rds.nil _ _ _) (by omega) HL64.out).mono ?_
            rintro e w2 ⟨v2, rfl, ho2, hb2⟩
            rw [List.nil_append] at ho2
            have Ho2 := Lib.hid ho2; have Hm2 := Lib.hid (Hm.out.trans (mod_below hb2) (fun _ _ h => h)); have Hol2 := Lib.hid (Hol.out.below hb2)
            have hq := enc_len10 HL64.out.out
            have hR : Room (cells8 (enc lo)).length 1 := Room.mk _ _ (by rw [cells8_length]; omega)
            have HR := Lib.hid hR
            have hsz : wr.heap.size ≤ w2.heap.size := hb2.size
            have hmsz := Hm.out.size
            have hbb := hb2
            clear ho2 hb2 hR
            go_wp2_with fail
            refine (rwidth_any d S w2 Hd64.out HSd.out).mono ?_
            rintro e w2' ⟨rfl, rfl⟩
            have Hb2 := Lib.hid hbb
            go_wp2_with (at_builtin; refine wpList_app1 rfl (.tmp 51) (.tmp 57) _ rfl elt8 rfl Ho2.out rfl rfl rfl HR.out.1 HR.out.2 hsz ?_; intro v3 w3 H1 H2)
            have hbel : Below wr.heap.size wr w3 := Hb2.out.trans H2.out
            have ho3 : Own wr.heap.size w3 5 v3 (cells8 (enc lo ++ [S])) := by rw [cells8_snoc]; exact H1.out
            have hol3 : Own w.heap.size w3 22 u6 (cellsU (difV us)) := (Mod.of_below hbel).owns Hol.out (fun k hk h => by have := (Hol.out.block k hk).2; omega)
            obtain ⟨A3, n3, c3, rfl, Hn3, _, _, hr3⟩ := own_formN8 ho3
            obtain ⟨A6, n6, c6, rfl, Hn6, _, hr6⟩ := own_formUN hol3
            have hn3 : n3 ≤ 1000000 := by rw [← Hn3.out, List.length_append, List.length_singleton]; omega
            have hn6 : n6 ≤ 1000000 := by rw [← Hn6.out, Hdl.out]; exact hn
            have Hr3 := Lib.hid hr3; have Hr6 := Lib.hid hr6; have Hm3 := Lib.hid (Hm.out.trans (mod_below hbel) (fun _ _ h => h))
            clear hbel ho3 hol3 hr3 hr6 H1 H2 Hb2 hbb Ho2 Hol2 Hm2
            go_wp2_with fail
            refine (rwidth_any d S w3 Hd64.out HSd.out).mono ?_
            rintro e w4 ⟨rfl, rfl⟩
            go_wp2_with fail
            refine (rpack_any A3 A6 n3 c3 n6 c6 w3.heap.size S _ _ w3 Hr3.out Hr6.out (Nat.le_refl _) (fun x hx => by
              obtain ⟨y, hy, rfl⟩ := List.mem_map.1 hx
              have := Hu.out y hy
              omega) hS64 hn3 hn6).mono ?_
            rintro e w4 ⟨v4, rfl, ho4, hm4⟩
            have Ho4 := Lib.hid ho4; have Hm4 := Lib.hid (Hm3.out.trans hm4 (fun _ _ h => h)); have hsz4 := Hm3.out.size
            clear ho4 hm4
            go_wp2_with fail
            go_ret
            have e : encP us = enc lo ++ (S :: packW S (difV us)) := by rw [encP_cons Hne.out, HL.out, HS.out]
            rw [e]
            have ho4 := Ho4.out
            rw [List.append_assoc] at ho4
            exact ⟨_, rfl, ho4.mono hsz4, Hm4.out⟩
end Go.Proofs.YtmcemeofkjfhhaaGreatDoor

/- The document's own answer: a value's place, and values told by a list. -/
namespace Go.Proofs.YtmcemeofkjfhhaaGreatDoor
open Go.RowKit Go.Maps

/-- What place tells. -/
def plcI (x : Nat) (l : List Nat) : Int := if x ∈ l then (plc x l : Int) else -1
theorem plcI_in {x : Nat} {l : List Nat} (h : x ∈ l) : plcI x l = (plc x l : Int) := if_pos h
theorem plcI_out {x : Nat} {l : List Nat} (h : x ∉ l) : plcI x l = -1 := if_neg h
set_option maxHeartbeats 1000000 in
set_option maxRecDepth 100000 in
theorem place_any (A : Option Addr) (n c B x : Nat) (l : List Nat) (w : World) (hs : Rds w B A n (cellsU l)) (hB : B ≤ w.heap.size) (hn : n ≤ 1000000) :
    Calls Tryz.prog 70 #[.slice A n c, .int .u64 (x : Int)] w fun e w' => e = .returned (.int .i64 (plcI x l)) ∧ w = w' := by
  have hul : l.length = n := by have := hs.1; rwa [cellsU_length] at this
  have Hs := Lib.hid hs; have HB := Lib.hid hB; have Hul := Lib.hid hul
  clear hs hB hul
  go_enter Tryz.func70, Tryz.ntmps70
  go_wp2_with fail
  go_loopg [5] n (fun l' s5 wr => ∃ i : Nat, i + l' = n ∧ s5 = .int .i64 (i : Int) ∧ (∀ j, j < i → l[j]? ≠ some x) ∧ w = wr)
  case atStart => exact ⟨0, by omega, rfl, (fun _ h => absurd h (Nat.not_lt_zero _)), rfl⟩
  case round =>
    obtain ⟨i, hil, rfl, hno, rfl⟩ := hrel
    have Hil := Lib.hid hil; have Hno := Lib.hid hno
    clear hil hno
    by_cases hin : i < n
    · obtain ⟨ad, y, rfl, hy, hcy⟩ := Hs.out.at2 hin HB.out (Mod.refl (fun _ => False) w) (fun _ _ h => h)
      have hi0 : (0 : Int) ≤ (i : Int) := by omega
      by_cases hyx : y = x
      · subst hyx
        have Hp : Hid (plcI y l = (i : Int)) := Lib.hid (by rw [plcI_in (List.mem_of_getElem? hy), plc_is hy Hno.out])
        clear hy
        go_wp2_with fail
        go_ret
        rw [Hp.out]
        exact ⟨rfl, rfl⟩
      · have hyb : ((y : Int) == (x : Int)) = false := by simp; omega
        have Hno2 : Hid (∀ j, j < i + 1 → l[j]? ≠ some x) := Lib.hid (fun j hj e => by
          rcases Nat.lt_or_ge j i with h | h
          · exact Hno.out j h e
          · obtain rfl : j = i := by omega
            rw [hy] at e
            injection e with e
            exact hyx e)
        clear hy hyx
        go_wp2_with fail
        go_roundg (gk - 1)
        case measure => have := Hil.out; omega
        case rel => exact ⟨i + 1, by have := Hil.out; omega, by go_num, Hno2.out, rfl⟩
    · have hi : i = n := by have := Hil.out; omega
      have Hp : Hid (plcI x l = -1) := Lib.hid (plcI_out (fun h => by
        obtain ⟨j, hj⟩ := List.mem_iff_getElem?.1 h
        have := (List.getElem?_eq_some_iff.1 hj).1
        exact Hno.out j (by rw [hi, ← Hul.out]; exact this) hj))
      go_wp2_with fail
      go_ret
      rw [Hp.out]
      exact ⟨rfl, rfl⟩
theorem uniq_keep {v : List Nat} {x : Nat} : ∃ t, uniq (v ++ [x]) = uniq v ++ t := uniq_app v [x]
/-- A value more: each has its place as it had. -/
theorem atD_step (v : List Nat) (x : Nat) : atD (v ++ [x]) = atD v ++ [plc x (uniq (v ++ [x]))] := by
  obtain ⟨t, ht⟩ := uniq_keep (v := v) (x := x)
  unfold atD
  rw [List.map_append]
  congr 1
  apply List.map_congr_left
  intro y hy
  rw [ht, plc_app (uniq_mem hy)]
/-- What Dict has made of i values. -/
def RDTo (w wr : World) (us : List Nat) (i : Nat) (v u : Value) : Prop :=
  Own w.heap.size wr 22 v (cellsU (uniq (us.take i))) ∧ Own w.heap.size wr 22 u (cellsU (atD (us.take i))) ∧ Twain v u ∧ (uniq (us.take i)).length ≤ 256 ∧ Mod (fun _ => False) w wr
set_option maxHeartbeats 4000000 in
set_option maxRecDepth 100000 in
theorem rdenc_any (A : Option Addr) (n cap B : Nat) (us : List Nat) (w : World) (hs : Rds w B A n (cellsU us)) (hB : B ≤ w.heap.size) (hu : ∀ x ∈ us, x < 2 ^ 64) (hn : n ≤ 1000000) :
    Calls Tryz.prog 37 #[.slice A n cap] w fun e w' => EncB w w' (encD us) e := by
  have hul : us.length = n := by have := hs.1; rwa [cellsU_length] at this
  have R0 : Hid (RDTo w w us 0 (.slice none 0 0) (.slice none 0 0)) := Lib.hid ⟨Own.nil _ _ _, Own.nil _ _ _, (fun _ h => by cases h), Nat.zero_le _, Mod.refl _ _⟩
  have Hs := Lib.hid hs; have Hu := Lib.hid hu; have HB := Lib.hid hB; have Hul := Lib.hid hul
  clear hs hu hB hul
  go_enter Tryz.func37, Tryz.ntmps37
  go_wp2_with fail
  go_loopg [4, 5, 6] n (fun l s4 s5 s6 wr => ∃ i : Nat, i + l = n ∧ s6 = .int .i64 (i : Int) ∧ RDTo w wr us i s4 s5)
  case atStart => exact ⟨0, by omega, rfl, R0.out⟩
  case round =>
    obtain ⟨i, hil, rfl, hown4, hown5, htw, hlen, hm⟩ := hrel
    obtain ⟨A4, L, c4, rfl, HL, _, hr4⟩ := own_formUN hown4
    have H4 := Lib.hid hown4; have H5 := Lib.hid hown5; have Htw := Lib.hid htw; have Hm := Lib.hid hm; have Hil := Lib.hid hil; have Hr4 := Lib.hid hr4
    have hL256 : L ≤ 256 := by have := HL.out; omega
    clear hown4 hown5 htw hm hil hr4 R0 hlen
    by_cases hin : i < n
    · obtain ⟨ad, x, rfl, hx, hcx⟩ := Hs.out.at2 hin HB.out Hm.out (fun _ _ h => h)
      have Hcell : Hid (∀ W, Mod (fun _ => False) w W → W.cell? (ad.add i) = some (.int .u64 (x : Int))) := Lib.hid (fun W hW => by
        obtain ⟨ad', x', e, hx', hc⟩ := Hs.out.at2 hin HB.out hW (fun _ _ h => h)
        injection e with e
        subst e
        rw [hx] at hx'
        injection hx' with hx'
        subst hx'
        exact hc)
      have Htk := Lib.hid (take_succ_of hx)
      have Hat : Hid (atD (us.take (i + 1)) = atD (us.take i) ++ [plc x (uniq (us.take (i + 1)))]) := Lib.hid (by rw [Htk.out, atD_step])
      have hi0 : (0 : Int) ≤ (i : Int) := by omega
      have hini : (i : Int) < (n : Int) := by omega
      have hatl : (atD (us.take i)).length ≤ 1000000 := by rw [atD_len, List.length_take]; omega
      have hr3 : (cellsU (atD (us.take i))).length + 1 ≤ maxLen := by rw [cellsU_length]; unfold maxLen; omega
      have hr4 : ((cellsU (atD (us.take i))).length + 1) * 8 ≤ 140737488355328 := by rw [cellsU_length]; omega
      have Hr3 := Lib.hid hr3; have Hr34 := Lib.hid hr4
      clear hx hatl hr3 hr4
      by_cases hin2 : x ∈ uniq (us.take i)
      · have Hq : Hid (uniq (us.take (i + 1)) = uniq (us.take i)) := Lib.hid (by rw [Htk.out, uniq_snoc, if_pos hin2])
        obtain ⟨p, hp⟩ : ∃ p, plc x (uniq (us.take i)) = p := ⟨_, rfl⟩
        have hp256 : p < 256 := by have h := plc_lt hin2; have := HL.out; omega
        have Hpl : Hid (plcI x (uniq (us.take i)) = (p : Int)) := Lib.hid (by rw [plcI_in hin2, hp])
        have Hp2 : Hid (plc x (uniq (us.take (i + 1))) = p) := Lib.hid (by rw [Hq.out]; exact hp)
        have Hplace := Lib.hid (place_any A4 L c4 _ x (uniq (us.take i)) wr Hr4.out (Nat.le_refl _) (by omega))
        have hp0 : ¬ (p : Int) < 0 := by omega
        have hsz := Hm.out.size
        have hLb : ¬ (256 : Int) < (L : Int) := by omega
        clear hin2 hp
        go_wp2_with fail
        refine Hplace.out.mono ?_
        rintro e w1 ⟨rfl, rfl⟩
        rw [Hpl.out]
        go_wp2_with fail
        refine Hplace.out.mono ?_
        rintro e w1 ⟨rfl, rfl⟩
        rw [Hpl.out]
        go_wp2_with (at_builtin; refine wpList_app1g rfl (.tmp 29) (.tmp 37) _ rfl eltU rfl H5.out rfl rfl rfl Hr3.out Hr34.out hsz ?_; intro v5 w5 HO5 HB5 HG5)
        have HR : Hid (RDTo w w5 us (i + 1) (.slice A4 L c4) v5) := Lib.hid ⟨by rw [Hq.out]; exact HG5.out.1.owns H4.out (fun k hk e => Htw.out k hk e), by rw [Hat.out, cellsU_snoc, Hp2.out]; exact HO5.out, (Htw.out.symm.step H4.out HG5.out.2).symm, by rw [Hq.out, HL.out]; exact hL256, Hm.out.trans (Mod.of_below HB5.out) (fun i hi h => by omega)⟩
        clear HO5 HB5 HG5
        go_roundg (gk - 1)
        case measure => have := Hil.out; omega
        case rel => exact ⟨i + 1, by have := Hil.out; omega, by go_num, HR.out⟩
      · have Hq : Hid (uniq (us.take (i + 1)) = uniq (us.take i) ++ [x]) := Lib.hid (by rw [Htk.out, uniq_snoc, if_neg hin2])
        have hxm : x ∈ uniq (us.take (i + 1)) := by rw [Hq.out]; simp
        have Hp2 : Hid (plc x (uniq (us.take (i + 1))) = L) := Lib.hid (by
          rw [Hq.out]
          refine plc_is (by rw [List.getElem?_append_right (by rw [HL.out]; exact Nat.le_refl _), HL.out, Nat.sub_self]; rfl) fun j hj => ?_
          rw [List.getElem?_append_left (by rw [HL.out]; exact hj)]
          exact fun e => hin2 (List.mem_of_getElem? e))
        have Hpl : Hid (plcI x (uniq (us.take i)) = -1) := Lib.hid (plcI_out hin2)
        have Hpl2 : Hid (plcI x (uniq (us.take (i + 1))) = (L : Int)) := Lib.hid (by rw [plcI_in hxm, Hp2.out])
        have Hplace := Lib.hid (place_any A4 L c4 _ x (uniq (us.take i)) wr Hr4.out (Nat.le_refl _) (by omega))
        have HL' : Hid (∀ L', (uniq (us.take (i + 1))).length = L' → L' = L + 1) := Lib.hid (fun L' h => by rw [Hq.out, List.length_append, HL.out] at h; exact h.symm)
        have Hmono : Hid ((uniq (us.take (i + 1))).length ≤ (uniq us).length) := Lib.hid (uniq_take_le us (i + 1))
        have hr1 : (cellsU (uniq (us.take i))).length + 1 ≤ maxLen := by rw [cellsU_length, HL.out]; unfold maxLen; omega
        have hr2 : ((cellsU (uniq (us.take i))).length + 1) * 8 ≤ 140737488355328 := by rw [cellsU_length, HL.out]; omega
        have Hr1 := Lib.hid hr1; have Hr2 := Lib.hid hr2
        have hsz := Hm.out.size
        clear hin2 hxm hr1 hr2
        go_wp2_with fail
        refine Hplace.out.mono ?_
        rintro e w1 ⟨rfl, rfl⟩
        rw [Hpl.out]
        go_wp2_with (at_builtin; refine wpList_app1g rfl (.tmp 22) (.tmp 27) _ rfl eltU rfl H4.out rfl rfl rfl Hr1.out Hr2.out hsz ?_; intro v4 w4 HO4 HB4 HG4; have Hm4 := Lib.hid (Hm.out.trans (Mod.of_below HB4.out) (fun i hi h => by omega)); have H5a : Hid (Own w.heap.size w4 22 u5 (cellsU (atD (us.take i)))) := Lib.hid (HG4.out.1.owns H5.out (fun k hk e => Htw.out.symm k hk e)); have Htw4 := Lib.hid (Htw.out.step H5.out HG4.out.2); have H4' : Hid (Own w.heap.size w4 22 v4 (cellsU (uniq (us.take (i + 1))))) := Lib.hid (by rw [Hq.out, cellsU_snoc]; exact HO4.out); clear HO4 HB4 HG4; obtain ⟨A6, L6, c6, rfl, HL6, _, hr6⟩ := own_formUN H4'.out; obtain rfl := HL'.out L6 HL6.out; have Hplace4 := Lib.hid (place_any A6 (L + 1) c6 _ x (uniq (us.take (i + 1))) w4 hr6 (Nat.le_refl _) (by omega)); clear hr6; have hcx4 := Hcell.out _ Hm4.out; have hsz4 : w.heap.size ≤ w4.heap.size := Hm4.out.size)
        refine Hplace4.out.mono ?_
        rintro e w1 ⟨rfl, rfl⟩
        rw [Hpl2.out]
        go_wp2_with (at_builtin; refine wpList_app1g rfl (.tmp 29) (.tmp 37) _ rfl eltU rfl H5a.out rfl rfl rfl Hr3.out Hr34.out hsz4 ?_; intro v5 w5 HO5 HB5 HG5)
        · have Hd : Hid (encD us = none) := Lib.hid (encD_many (by have := Hmono.out; have := HL6.out; omega))
          have Hm5 := Lib.hid (Hm4.out.trans (Mod.of_below HB5.out) (fun i hi h => by omega))
          go_ret2
          rw [Hd.out]
          exact ⟨rfl, Hm5.out⟩
        · have HR : Hid (RDTo w w5 us (i + 1) (.slice A6 (L + 1) c6) v5) := Lib.hid ⟨HG5.out.1.owns H4'.out (fun k hk e => Htw4.out k hk e), by rw [Hat.out, cellsU_snoc, Hp2.out]; exact HO5.out, (Htw4.out.symm.step H4'.out HG5.out.2).symm, by rw [HL6.out]; omega, Hm4.out.trans (Mod.of_below HB5.out) (fun i hi h => by omega)⟩
          clear HO5 HB5 HG5
          go_roundg (gk - 1)
          case measure => have := Hil.out; omega
          case rel => exact ⟨i + 1, by have := Hil.out; omega, by go_num, HR.out⟩
    · have hi : i = n := by have := Hil.out; omega
      obtain ⟨A5, m5, c5, rfl, HL5, _, hr5⟩ := own_formUN H5.out
      have htk : us.take i = us := List.take_of_length_le (by rw [Hul.out]; omega)
      rw [htk] at HL HL5 hr5
      have hr4 := Hr4.out
      rw [htk] at hr4
      obtain rfl : m5 = n := by have := HL5.out; rw [atD_len, Hul.out] at this; exact this.symm
      have Hr5 := Lib.hid hr5; have Hr4' := Lib.hid hr4
      clear hr5 hr4 htk H4 H5 Htw Hr4 hin
      by_cases h0 : m5 = 0
      · have hn0 : ((m5 : Int) == 0) = true := by simp; omega
        have Hd : Hid (encD us = some []) := Lib.hid (by
          have e : us = [] := List.eq_nil_of_length_eq_zero (by rw [Hul.out]; exact h0)
          rw [e]
          exact encD_nil)
        clear h0
        go_wp2_with fail
        go_ret2
        rw [Hd.out]
        exact ⟨_, rfl, Own.nil _ _ _, Hm.out⟩
      · have hn0 : ((m5 : Int) == 0) = false := by simp; omega
        have Hne : Hid (us ≠ []) := Lib.hid (by rintro rfl; exact h0 Hul.out.symm)
        have hL0 : ¬ L = 0 := by have h := uniq_pos Hne.out; have := HL.out; omega
        have hL64 : Hid (Lt64 L) := Lib.hid (by unfold Lt64; omega)
        obtain ⟨S, hS⟩ : ∃ S, wid (L - 1) = S := ⟨_, rfl⟩
        have hS64 : S ≤ 64 := by rw [← hS]; exact wid_le _
        obtain ⟨y, hy⟩ : ∃ y, y = L - 1 := ⟨_, rfl⟩
        have hyi : (L : Int) - 1 = (y : Int) := by omega
        have hyL : y ≤ 1000000 := by omega
        have Hwid : Hid (∀ W, Calls Tryz.prog 69 #[.int .u64 (y : Int)] W fun e w' => e = .returned (.int .i64 (S : Int)) ∧ W = w') := Lib.hid (fun W => rwidth_any y S W (by unfold Lt64; omega) (by rw [hy]; exact hS))
        have HS := Lib.hid hS
        have Hu2 : Hid (∀ x ∈ uniq us, x < 2 ^ 64) := Lib.hid (fun x hx => Hu.out x (uniq_of hx))
        have Hat2 : Hid (∀ x ∈ atD us, x < 2 ^ 64) := Lib.hid (fun x hx => by
          obtain ⟨z, hz, rfl⟩ := List.mem_map.1 hx
          have := plc_lt (uniq_mem hz)
          have := HL.out
          omega)
        clear h0 hL0 hS hy
        go_wp2_with fail
        refine (vrput_any none 0 0 0 [] L wr (Rds.nil _ _ _) (by omega) hL64.out).mono ?_
        rintro e w1 ⟨v1, rfl, ho1, hb1⟩
        rw [List.nil_append] at ho1
        have P0 : Hid (ListTo wr w1 (uniq us) 0 v1) := Lib.hid ⟨by rw [HL.out, List.take_zero]; show Own _ _ _ _ (cells8 (enc L ++ [])); rw [List.append_nil]; exact ho1, mod_below hb1⟩
        clear ho1 hb1
        generalize wr = wP at *
        go_wp2_with fail
        go_loopg [7, 8] L (fun l' s7 s8 wr => ∃ j : Nat, j + l' = L ∧ s8 = .int .i64 (j : Int) ∧ ListTo wP wr (uniq us) j s7)
        case atStart => exact ⟨0, by omega, rfl, P0.out⟩
        case round =>
          obtain ⟨j, hjl, rfl, hown, hm⟩ := hrel
          have Hown := Lib.hid hown; have Hmj := Lib.hid hm; have Hjl := Lib.hid hjl
          clear hown hm hjl P0
          have hjL : j ≤ L := by have := Hjl.out; omega
          obtain ⟨A3, L3, c3, rfl, HL3, _, _, hr3⟩ := own_formN8 Hown.out
          have hL3 : L3 ≤ 100000 := by
            have h1 := enc_len10 hL64.out.out
            have h2 := encV_len (l := (uniq us).take j) (fun x hx => Hu2.out x (List.mem_of_mem_take hx))
            have h3 : ((uniq us).take j).length ≤ L := by rw [List.length_take, HL.out]; omega
            have h4 := HL3.out
            rw [HL.out, List.length_append] at h4
            omega
          have Hr3 := Lib.hid hr3
          clear hr3
          by_cases hjn : j < L
          · obtain ⟨ad, x, rfl, hx, hcx⟩ := Hr4'.out.at2 hjn (Nat.le_refl _) Hmj.out (fun _ _ h => h)
            have Hx64 : Hid (Lt64 x) := Lib.hid (Hu2.out x (List.mem_of_getElem? hx))
            have Htk : Hid (encV ((uniq us).take (j + 1)) = encV ((uniq us).take j) ++ enc x) := Lib.hid (by rw [take_succ_of hx, encV_snoc])
            have hj0 : (0 : Int) ≤ (j : Int) := by omega
            clear hx
            go_wp2_with fail
            refine (vrput_any A3 L3 c3 _ _ x wr Hr3.out (by omega) Hx64.out).mono ?_
            rintro e w2 ⟨v2, rfl, ho2, hb2⟩
            rw [List.append_assoc, ← Htk.out] at ho2
            have HP : Hid (ListTo wP w2 (uniq us) (j + 1) v2) := Lib.hid ⟨ho2.mono Hmj.out.size, Hmj.out.trans (mod_below hb2) (fun _ _ h => h)⟩
            clear ho2 hb2
            go_wp2_with fail
            go_roundg (gk - 1)
            case measure => have := Hjl.out; omega
            case rel => exact ⟨j + 1, by have := Hjl.out; omega, by go_num, HP.out⟩
          · have hjL2 : j = L := by have := Hjl.out; omega
            have Hr3' : Hid (Rds wr wr.heap.size A3 L3 (cells8 (enc L ++ encV (uniq us)))) := Lib.hid (by
              have h := Hr3.out
              rw [List.take_of_length_le (by rw [HL.out]; omega), HL.out] at h
              exact h)
            clear Hr3 HL3 hjn
            go_wp2_with fail
            refine (Hwid.out _).mono ?_
            rintro e w1 ⟨rfl, rfl⟩
            go_wp2_with fail
            refine (rpack_any A3 A5 L3 c3 m5 c5 _ S (enc L ++ encV (uniq us)) (atD us) wr Hr3'.out (Hr5.out.new Hmj.out).fit (Nat.le_refl _) Hat2.out hS64 (by omega) hn).mono ?_
            rintro e w2 ⟨v2, rfl, ho2, hm2⟩
            have Ho2 := Lib.hid ho2; have Hm2 := Lib.hid ((Hm.out.trans Hmj.out (fun _ _ h => h)).trans hm2 (fun _ _ h => h))
            clear ho2 hm2
            go_wp2_with fail
            go_ret2
            have ho := Ho2.out
            rw [encD_cons Hne.out (by rw [HL.out]; omega), HL.out, HS.out]
            rw [List.append_assoc] at ho
            exact ⟨_, rfl, ho.mono (Nat.le_trans Hm.out.size Hmj.out.size), Hm2.out⟩
end Go.Proofs.YtmcemeofkjfhhaaGreatDoor

/- Values told in a codec, as the document has it: told. -/
namespace Go.Proofs.YtmcemeofkjfhhaaGreatDoor
open Go.RowKit

theorem RWrote.done {w w1 w2 : World} {g : Nat} {fs : List (Nat × Nat)} (h : RWrote w1 w2 g none 0 0 fs) (hg : w.heap.size ≤ g) (hm : Mod (fun _ => False) w w1) : ∃ row, RWr w2 g row (fnum fs) (flen fs) ∧ Mod (fun _ => False) w w2 := by
  obtain ⟨row, a1, a2, _⟩ := h
  rw [Nat.zero_mul, Nat.zero_add, Nat.zero_add] at a1
  exact ⟨row, a1, hm.trans a2 (fun i hi h => h.elim (fun e => by omega) (fun e => by cases e))⟩
theorem RWr.new (w : World) : RWr (w.alloc (.cells #[.slice none 0 0] 50)) w.heap.size none 0 0 :=
  ⟨.slice none 0 0, [], Blk.new _ _ _, World.ownsRow_nil _ _ _ _, rfl, (fun _ h => by cases h), rfl, rfl⟩
theorem w8_len (x : Nat) : (w8 x).length = 8 := rfl
theorem w8_at (x : Nat) : ∀ j, j < 8 → (w8 x)[j]? = some (x / 2 ^ (8 * (7 - j)) % 256) := by
  intro j hj
  have h' : j = 0 ∨ j = 1 ∨ j = 2 ∨ j = 3 ∨ j = 4 ∨ j = 5 ∨ j = 6 ∨ j = 7 := by omega
  rcases h' with rfl | rfl | rfl | rfl | rfl | rfl | rfl | rfl
  · rfl
  · rfl
  · rfl
  · rfl
  · rfl
  · rfl
  · rfl
  · show some (x % 256) = some (x / 2 ^ (8 * 0) % 256)
    rw [Nat.mul_zero, Nat.pow_zero, Nat.div_one]
theorem words8_take {ws : List Nat} {i x : Nat} (h : ws[i]? = some x) : words8 (ws.take (i + 1)) = words8 (ws.take i) ++ w8 x := by
  rw [take_succ_of h, words8_app]
  show _ ++ (w8 x ++ []) = _
  rw [List.append_nil]
/-- The first i words and j bytes of the next. -/
def BytTo (w wr : World) (ws : List Nat) (i : Nat) (tl : List Nat) (v : Value) : Prop := Own w.heap.size wr 5 v (cells8 (words8 (ws.take i) ++ tl)) ∧ Mod (fun _ => False) w wr
set_option maxHeartbeats 4000000 in
set_option maxRecDepth 100000 in
theorem rtold_any (tag : Int) (A : Option Addr) (n cap : Nat) (us : List Nat) (w : World) (hs : Rds w w.heap.size A n (cellsU us)) (hu : ∀ x ∈ us, x < 2 ^ 64) (hn : n ≤ 1000000) (hcap : n ≤ cap) :
    Calls Tryz.prog 17 #[.int .i64 tag, .slice A n cap] w fun e w' => EncB w w' (toldK tag us) e := by
  have hul : us.length = n := by have := hs.1; rwa [cellsU_length] at this
  by_cases h1 : tag = 1
  · subst h1
    obtain ⟨W, hW⟩ : ∃ W, W = w.alloc (.cells #[.slice none 0 0] 50) := ⟨_, rfl⟩
    have hmW : Mod (fun _ => False) w W := by rw [hW]; exact (Mod.refl _ _).alloc _
    have hrw : RWr W w.heap.size none 0 0 := by rw [hW]; exact RWr.new w
    have Hs1 := Lib.hid (hs.mod hmW (Nat.le_refl _) (fun _ _ h => h))
    have Hap : Hid (0 < n → ∀ ad, A = some ad → ¬ (ad.block = w.heap.size ∨ none = some ad.block)) := Lib.hid (fun h0 ad hA h => by
      obtain ⟨ad', hA', hb, _⟩ := hs.2 h0
      rw [hA] at hA'
      injection hA' with hA'
      subst hA'
      rcases h with h | h
      · omega
      · cases h)
    have Hs := Lib.hid hs; have Hu := Lib.hid hu; have Hul := Lib.hid hul; have HW := Lib.hid hW; have HmW := Lib.hid hmW; have Hrw := Lib.hid hrw
    clear hs hu hul hW hmW hrw
    go_enter Tryz.func17, Tryz.ntmps17
    go_wp2_with fail
    rw [← HW.out]
    refine (rvalues_any w.heap.size w.heap.size none 0 0 n cap A us W Hs1.out Hu.out HmW.out.size Hap.out Hrw.out (by omega)).mono ?_
    rintro e w2 ⟨rfl, h2⟩
    obtain ⟨row, hwr2, hm2⟩ := h2.done (Nat.le_refl _) HmW.out
    have hfl := encVals_len us
    rw [Hul.out] at hfl
    have Hwr2 := Lib.hid hwr2; have Hm2 := Lib.hid hm2; have Hfl := Lib.hid hfl
    clear h2 hwr2 hm2 hfl Hs1 Hrw
    go_wp2_with fail
    refine (rbytes_any w.heap.size row _ _ w2 Hwr2.out (by have := Hfl.out; omega)).mono ?_
    rintro e w3 ⟨v3, bs, rfl, hnew, hpk⟩
    obtain rfl := hpk.packF
    have Ho3 := Lib.hid (hnew.own.mono Hm2.out.size); have Hm3 := Lib.hid (Hm2.out.trans hnew.2.1 (fun _ _ h => h))
    clear hnew hpk
    go_wp2_with fail
    go_ret2
    exact EncB.of_own Ho3.out Hm3.out
  by_cases h2 : tag = 2
  · subst h2
    have Hs := Lib.hid hs; have Hu := Lib.hid hu; have Hul := Lib.hid hul
    have Htk : Hid (toldK 2 us = (encS (stepsU 0 us)).map words8) := Lib.hid rfl
    clear hs hu hul
    go_enter Tryz.func17, Tryz.ntmps17
    go_wp2_with fail
    refine (rsteps_any A n cap us w Hs.out Hu.out hn).mono ?_
    rintro e w1 ⟨v1, rfl, ho1, hm1⟩
    obtain ⟨A1, L1, c1, rfl, HL1, hc1, hr1⟩ := own_formUN ho1
    have hL1 : L1 ≤ 1000000 := by have := HL1.out; rw [stepsU_len] at this; have := Hul.out; omega
    have Hr1 := Lib.hid hr1; have Hm1 := Lib.hid hm1; have Hst : Hid (∀ x ∈ stepsU 0 us, x < 2 ^ 64) := Lib.hid (stepsU_lt us 0)
    have Hc1 := Lib.hid hc1
    clear ho1 hm1 hr1 hc1 Hs Hu
    go_wp2_with fail
    refine (simple_any A1 L1 c1 w1.heap.size (stepsU 0 us) w1 Hr1.out (Nat.le_refl _) Hst.out hL1 Hc1.out).mono ?_
    intro e w2 he
    have he' : EncE w1 w2 (encS (stepsU 0 us)) e := he
    clear he
    cases ho : encS (stepsU 0 us) with
    | none =>
      obtain ⟨rfl, hm2⟩ := EncE.none_ he' ho
      have Hno : Hid (toldK 2 us = none) := Lib.hid (by rw [Htk.out, ho]; rfl)
      have Hm2 := Lib.hid (Hm1.out.trans hm2 (fun _ _ h => h))
      clear he' ho hm2
      go_wp2_with fail
      go_loopg [9, 10] 0 (fun k s9 s10 wr => s9 = .slice none 0 0 ∧ s10 = .int .i64 0 ∧ wr = w2)
      case atStart => exact ⟨rfl, rfl, rfl⟩
      case round =>
        obtain ⟨rfl, rfl, rfl⟩ := hrel
        go_wp2_with fail
        go_ret2
        rw [Hno.out]
        exact ⟨rfl, Hm2.out⟩
    | some ws =>
      obtain ⟨v2, rfl, how, hm2⟩ := EncE.some_ he' ho
      obtain ⟨hwl, hw64⟩ := encS_len _ _ _ rfl ho
      obtain ⟨A2, L2, c2, rfl, HL2, hc2, hr2⟩ := own_formUN how
      have hL2 : L2 ≤ 1000000 := by have := HL2.out; have := HL1.out; omega
      have Hyes : Hid (toldK 2 us = some (words8 ws)) := Lib.hid (by rw [Htk.out, ho]; rfl)
      have Hm2 := Lib.hid (Hm1.out.trans hm2 (fun _ _ h => h)); have Hr2 := Lib.hid hr2; have Hw64 := Lib.hid hw64
      have B0 : Hid (BytTo w2 w2 ws 0 [] (.slice none 0 0)) := Lib.hid ⟨Own.nil _ _ _, Mod.refl _ _⟩
      clear he' ho how hm2 hwl hw64 hr2 hc2 Hm1 Hr1 Hst Hc1 Htk
      go_wp2_with fail
      go_loopg [9, 10] L2 (fun k s9 s10 wr => ∃ i : Nat, i + k = L2 ∧ s10 = .int .i64 (i : Int) ∧ BytTo w2 wr ws i [] s9)
      case atStart => exact ⟨0, by omega, rfl, B0.out⟩
      case round =>
        obtain ⟨i, hik, rfl, hB⟩ := hrel
        have Hik := Lib.hid hik; have HB := Lib.hid hB
        clear hik hB B0
        by_cases hin : i < L2
        · obtain ⟨ad, x, rfl, hx, hcx⟩ := Hr2.out.at2 hin (Nat.le_refl _) HB.out.2 (fun _ _ h => h)
          have hx64 := Hw64.out x (List.mem_of_getElem? hx)
          have hini : (i : Int) < (L2 : Int) := by omega
          have Hx := Lib.hid hx; have Hx64 := Lib.hid hx64
          obtain ⟨k1, hk1⟩ : ∃ k1 : Nat, k1 = gk - 1 := ⟨_, rfl⟩
          have Hk1 : Hid (i + 1 + k1 = L2 ∧ k1 < gk) := Lib.hid (by have := Hik.out; omega)
          clear hk1
          have Hcx : Hid (∀ w', Mod (fun _ => False) w2 w' → w'.cell? (ad.add i) = some (.int .u64 (x : Int))) := Lib.hid (fun w' hm' => by
            obtain ⟨ad', x', hA, hx', hc'⟩ := Hr2.out.at2 hin (Nat.le_refl _) hm' (fun _ _ h => h)
            injection hA with hA
            subst hA
            rw [hx] at hx'
            injection hx' with hx'
            subst hx'
            exact hc')
          have C0 : Hid (BytTo w2 wr ws i ((w8 x).take 0) u9) := Lib.hid HB.out
          clear hx hx64 hcx
          go_wp2_with fail
          go_loopg [9, 11] 8 (fun k s9 s11 wq => ∃ (j : Nat) (kk : Int), j + k = 8 ∧ kk = 7 - (j : Int) ∧ s11 = .int .i64 kk ∧ BytTo w2 wq ws i ((w8 x).take j) s9)
          case atStart => exact ⟨0, 7, by omega, rfl, rfl, C0.out⟩
          case round =>
            obtain ⟨j, kk, hjk, hkk, rfl, hC⟩ := hrel
            have Hjk := Lib.hid hjk; have HC := Lib.hid hC; have Hkk := Lib.hid hkk
            clear hjk hC C0 hkk
            by_cases hj8 : j < 8
            · have hcxq := Hcx.out wr HC.out.2
              obtain ⟨m, hm⟩ : ∃ m : Nat, m = 7 - j := ⟨_, rfl⟩
              obtain rfl : kk = (m : Int) := by have := Hkk.out; omega
              obtain ⟨q, hq⟩ : ∃ q : Nat, q = 8 * m := ⟨_, rfl⟩
              have hq56 : q ≤ 56 := by omega
              have hqi : 8 * (m : Int) = (q : Int) := by omega
              have hm0 : (0 : Int) ≤ (m : Int) := by omega
              obtain ⟨b, hb⟩ : ∃ b : Nat, b = x / 2 ^ q % 256 := ⟨_, rfl⟩
              have hbi : (x : Int) / 2 ^ q % 256 = (b : Int) := by rw [hb]; simp
              have Hb : Hid ((w8 x)[j]? = some b) := Lib.hid (by rw [w8_at x j hj8, hb, hq, hm])
              have hlen : (cells8 (words8 (ws.take i) ++ (w8 x).take j)).length ≤ 8000008 := by
                rw [cells8_length, List.length_append, words8_len, List.length_take, List.length_take, w8_len]
                omega
              have HR : Hid (Room (cells8 (words8 (ws.take i) ++ (w8 x).take j)).length 1) := Lib.hid (Room.mk _ _ (by omega))
              have hsz := HC.out.2.size
              have hmj : Hid (m = 7 - j) := Lib.hid hm
              clear hb hlen hq hm
              go_wp2_with (at_builtin; refine wpList_app1 rfl (.tmp 41) (.tmp 51) _ rfl elt8 rfl HC.out.1 rfl rfl rfl HR.out.1 HR.out.2 hsz ?_; intro v4 w4 HO4 HB4)
              have HC2 : Hid (BytTo w2 w4 ws i ((w8 x).take (j + 1)) v4) := Lib.hid ⟨by
                have e : words8 (ws.take i) ++ (w8 x).take (j + 1) = (words8 (ws.take i) ++ (w8 x).take j) ++ [b] := by
                  rw [take_succ_of Hb.out, List.append_assoc]
                rw [e, cells8_snoc]
                exact HO4.out, HC.out.2.trans (Mod.of_below HB4.out) (fun i hi h => by omega)⟩
              go_roundg (gk - 1)
              case measure => have := Hjk.out; omega
              case rel => exact ⟨j + 1, (m : Int) - 1, by have := Hjk.out; omega, by have := hmj.out; omega, by go_num, HC2.out⟩
            · have hk0 : ¬ (0 : Int) ≤ kk := by have := Hkk.out; omega
              have HB2 : Hid (BytTo w2 wr ws (i + 1) [] u9) := Lib.hid (by
                have h := HC.out
                rw [show (w8 x).take j = w8 x from List.take_of_length_le (by rw [w8_len]; omega)] at h
                unfold BytTo at h ⊢
                rw [List.append_nil, words8_take Hx.out]
                exact h)
              clear HC Hcx
              go_wp2_with fail
              go_roundg k1
              case measure => exact Hk1.out.2
              case rel => exact ⟨i + 1, Hk1.out.1, by go_num, HB2.out⟩
        · have hi : i = L2 := by have := Hik.out; omega
          obtain ⟨k1, k2⟩ := HB.out
          rw [List.append_nil, List.take_of_length_le (by rw [HL2.out]; omega)] at k1
          have Ho := Lib.hid (k1.mono Hm2.out.size); have Hm := Lib.hid (Hm2.out.trans k2 (fun _ _ h => h))
          clear hi k1 k2
          go_wp2_with fail
          go_ret2
          exact EncB.of_some Hyes.out Ho.out Hm.out
  by_cases h3 : tag = 3
  · subst h3
    have hcall := lrenc_any A n cap w.heap.size us w hs (Nat.le_refl _) hu hn
    have Hcall := Lib.hid hcall
    clear hs hu hcall
    go_enter Tryz.func17, Tryz.ntmps17
    go_wp2_with fail
    refine Hcall.out.mono ?_
    rintro e w1 ⟨v, rfl, ho, hm⟩
    have Ho := Lib.hid ho; have Hm := Lib.hid hm
    clear ho hm
    go_wp2_with fail
    go_ret2
    exact EncB.of_own Ho.out Hm.out
  by_cases h4 : tag = 4
  · subst h4
    have hcall := rpenc_any A n cap w.heap.size us w hs (Nat.le_refl _) hu hn
    have Hcall := Lib.hid hcall
    clear hs hu hcall
    go_enter Tryz.func17, Tryz.ntmps17
    go_wp2_with fail
    refine Hcall.out.mono ?_
    rintro e w1 ⟨v, rfl, ho, hm⟩
    have Ho := Lib.hid ho; have Hm := Lib.hid hm
    clear ho hm
    go_wp2_with fail
    go_ret2
    exact EncB.of_own Ho.out Hm.out
  by_cases h5 : tag = 5
  · subst h5
    have hcall := rdenc_any A n cap w.heap.size us w hs (Nat.le_refl _) hu hn
    have Hcall := Lib.hid hcall
    clear hs hu hcall
    go_enter Tryz.func17, Tryz.ntmps17
    go_wp2_with fail
    refine Hcall.out.mono ?_
    intro e w1 he
    obtain ⟨v, rfl, he⟩ := he.parts
    have He := Lib.hid he
    clear he
    go_wp2_with fail
    go_ret2
    exact He.out
  by_cases h6 : tag = 6
  · subst h6
    have Htk : Hid (toldK 6 us = toldSame us) := Lib.hid rfl
    by_cases h0 : n = 0
    · subst h0
      obtain rfl := List.eq_nil_of_length_eq_zero hul
      clear hs
      go_enter Tryz.func17, Tryz.ntmps17
      go_wp2_with fail
      go_ret2
      exact EncB.of_some Htk.out (Own.nil _ _ _) (Mod.refl _ _)
    · have hn0 : ((n : Int) == 0) = false := by simp; omega
      obtain ⟨ad, x, rfl, hx, hcx⟩ := hs.at2 (show 0 < n by omega) (Nat.le_refl _) (Mod.refl (fun _ => False) w) (fun _ _ h => h)
      have hx64 : Lt64 x := by have := hu x (List.mem_of_getElem? hx); unfold Lt64; omega
      have hnp : (0 : Int) < (n : Int) := by omega
      have Hs := Lib.hid hs; have Hul := Lib.hid hul; have Hx := Lib.hid hx; have Hx64 := Lib.hid hx64
      clear hs hu hul hx hx64 hcx h0
      go_enter Tryz.func17, Tryz.ntmps17
      go_wp2_with fail
      go_loopg [12] n (fun l s12 wr => ∃ i : Nat, i + l = n ∧ s12 = .int .i64 (i : Int) ∧ Mod (fun _ => False) w wr ∧ ∀ j y : Nat, j < i → us[j]? = some y → y = x)
      case atStart => exact ⟨0, by omega, rfl, Mod.refl _ _, fun j y h => by omega⟩
      case round =>
        obtain ⟨i, hil, rfl, hm, hall⟩ := hrel
        have Hil := Lib.hid hil; have Hall := Lib.hid hall; have Hm := Lib.hid hm
        obtain ⟨ad0, x0, hA0, hx0, hc0⟩ := Hs.out.at2 (show 0 < n by omega) (Nat.le_refl _) hm (fun _ _ h => h)
        injection hA0 with hA0
        subst hA0
        obtain rfl : x0 = x := by have := Hx.out; rw [hx0] at this; injection this
        have hcx0 : wr.cell? ad = some (.int .u64 (x0 : Int)) := by rw [← add_zero' ad]; exact hc0
        clear hil hall hx0 hc0
        by_cases hin : i < n
        · obtain ⟨ad', y, hA, hy, hcy⟩ := Hs.out.at2 hin (Nat.le_refl _) hm (fun _ _ h => h)
          injection hA with hA
          subst hA
          have hini : (i : Int) < (n : Int) := by omega
          have Hy := Lib.hid hy
          clear hy hm
          by_cases hyx : y = x0
          · subst hyx
            go_upto_region 29 with fail
            go_quiet (fail)
            go_wp2_with fail
            go_roundg (gk - 1)
            case measure => have := Hil.out; omega
            case rel => exact ⟨i + 1, by have := Hil.out; omega, by go_num, Hm.out.drewN _, fun j z hj hz => by
              rcases Nat.lt_or_ge j i with h | h
              · exact Hall.out j z h hz
              · obtain rfl : j = i := by omega
                rw [Hy.out] at hz
                injection hz with hz
                exact hz.symm⟩
          · have hyb : ((y : Int) == (x0 : Int)) = false := by simp; omega
            have hyb2 : ((y : Int) != (x0 : Int)) = true := by simp; omega
            have Hno : Hid (toldK 6 us = none) := Lib.hid (by rw [Htk.out]; exact toldSame_none Hx.out Hy.out hyx)
            clear hyx
            go_upto_region 29 with fail
            go_quiet (fail)
            go_wp2_with fail
            go_ret2
            exact EncB.of_none Hno.out (Hm.out.drewN _)
        · have hi : i = n := by have := Hil.out; omega
          have Hyes : Hid (toldK 6 us = some (enc x0)) := Lib.hid (by rw [Htk.out]; exact toldSame_some Hx.out (fun j y hy => Hall.out j y (by have := (List.getElem?_eq_some_iff.1 hy).1; have := Hul.out; omega) hy))
          clear hi hm
          go_wp2_with fail
          refine (vrput_any none 0 0 0 [] x0 wr (Rds.nil _ _ _) (by omega) Hx64.out).mono ?_
          rintro e w4 ⟨v4, rfl, ho4, hb4⟩
          rw [List.nil_append] at ho4
          have Ho4 := Lib.hid (ho4.mono Hm.out.size); have Hm4 := Lib.hid (Hm.out.trans (mod_below hb4) (fun _ _ h => h))
          clear ho4 hb4
          go_wp2_with fail
          go_ret2
          exact EncB.of_some Hyes.out Ho4.out Hm4.out
  have b1 : (tag == 1) = false := by simp [h1]
  have b2 : (tag == 2) = false := by simp [h2]
  have b3 : (tag == 3) = false := by simp [h3]
  have b4 : (tag == 4) = false := by simp [h4]
  have b5 : (tag == 5) = false := by simp [h5]
  have b6 : (tag == 6) = false := by simp [h6]
  have Hno : Hid (toldK tag us = none) := Lib.hid (toldK_other h1 h2 h3 h4 h5 h6)
  clear hs hu h1 h2 h3 h4 h5 h6
  go_enter Tryz.func17, Tryz.ntmps17
  go_wp2_with fail
  go_ret2
  rw [Hno.out]
  exact ⟨rfl, Mod.refl _ _⟩
end Go.Proofs.YtmcemeofkjfhhaaGreatDoor

/- The document's own times: within, kind, Times. -/
namespace Go.Proofs.YtmcemeofkjfhhaaGreatDoor
open Go.RowKit

def InN (d : Int) (n : Nat) : Bool := decide (-((2 ^ (n - 1) : Nat) : Int) ≤ d ∧ d < ((2 ^ (n - 1) : Nat) : Int))
theorem within_any (d : Int) (n : Nat) (N : Int) (w : World) (hN : N = (n : Int)) (hn : n = 7 ∨ n = 9 ∨ n = 12) :
    Calls Tryz.prog 71 #[.int .i64 d, .int .i64 N] w fun e w' => e = .returned (.bool (InN d n)) ∧ w = w' := by
  subst hN
  rcases hn with rfl | rfl | rfl
  · by_cases h1 : -64 ≤ d
    · by_cases h2 : d < 64
      · have e : InN d 7 = true := by unfold InN; simp; omega
        rw [e]
        clear e
        go_enter Tryz.func71, Tryz.ntmps71
        go_wp2
        go_ret
        exact ⟨rfl, rfl⟩
      · have e : InN d 7 = false := by unfold InN; simp; omega
        rw [e]
        clear e
        go_enter Tryz.func71, Tryz.ntmps71
        go_wp2
        go_ret
        exact ⟨rfl, rfl⟩
    · have e : InN d 7 = false := by unfold InN; simp; omega
      rw [e]
      clear e
      go_enter Tryz.func71, Tryz.ntmps71
      go_wp2
      go_ret
      exact ⟨rfl, rfl⟩
  · by_cases h1 : -256 ≤ d
    · by_cases h2 : d < 256
      · have e : InN d 9 = true := by unfold InN; simp; omega
        rw [e]
        clear e
        go_enter Tryz.func71, Tryz.ntmps71
        go_wp2
        go_ret
        exact ⟨rfl, rfl⟩
      · have e : InN d 9 = false := by unfold InN; simp; omega
        rw [e]
        clear e
        go_enter Tryz.func71, Tryz.ntmps71
        go_wp2
        go_ret
        exact ⟨rfl, rfl⟩
    · have e : InN d 9 = false := by unfold InN; simp; omega
      rw [e]
      clear e
      go_enter Tryz.func71, Tryz.ntmps71
      go_wp2
      go_ret
      exact ⟨rfl, rfl⟩
  · by_cases h1 : -2048 ≤ d
    · by_cases h2 : d < 2048
      · have e : InN d 12 = true := by unfold InN; simp; omega
        rw [e]
        clear e
        go_enter Tryz.func71, Tryz.ntmps71
        go_wp2
        go_ret
        exact ⟨rfl, rfl⟩
      · have e : InN d 12 = false := by unfold InN; simp; omega
        rw [e]
        clear e
        go_enter Tryz.func71, Tryz.ntmps71
        go_wp2
        go_ret
        exact ⟨rfl, rfl⟩
    · have e : InN d 12 = false := by unfold InN; simp; omega
      rw [e]
      clear e
      go_enter Tryz.func71, Tryz.ntmps71
      go_wp2
      go_ret
      exact ⟨rfl, rfl⟩
theorem within_at (d : Int) (n : Nat) (N : Int) (b : Bool) (w : World) (hN : N = (n : Int)) (hn : n = 7 ∨ n = 9 ∨ n = 12) (hb : InN d n = b) :
    Calls Tryz.prog 71 #[.int .i64 d, .int .i64 N] w fun e w' => e = .returned (.bool b) ∧ w = w' := by
  subst hb
  exact within_any d n N w hN hn
theorem kind_any (d : Int) (w : World) :
    Calls Tryz.prog 39 #[.int .i64 d] w fun e w' => e = .returned (.tuple #[.int .i64 (kindN d : Nat), .int .u64 (headN d : Nat), .int .i64 (longN d : Nat)]) ∧ w = w' := by
  by_cases h0 : d = 0
  · subst h0
    go_enter Tryz.func39, Tryz.ntmps39
    go_wp2
    exact bodyPost_ret (v := .tuple #[.int .i64 0, .int .u64 0, .int .i64 1]) (by simp [results, Tryz.results39, go_sem]) rfl ⟨rfl, rfl⟩
  · have hb0 : (d == 0) = false := by simpa using h0
    by_cases h1 : -64 ≤ d ∧ d < 64
    · have e : InN d 7 = true := by unfold InN; simp; omega
      have ek : kindN d = 7 ∧ headN d = 2 ∧ longN d = 2 := by unfold kindN headN longN; rw [if_neg h0, if_pos h1, if_neg h0, if_pos h1, if_neg h0, if_pos h1]; exact ⟨rfl, rfl, rfl⟩
      have E := Lib.hid e; have Ek := Lib.hid ek
      clear e ek h1
      go_enter Tryz.func39, Tryz.ntmps39
      go_wp2_with fail
      refine (within_at d 7 7 true _ rfl (by omega) E.out).mono ?_
      rintro e w' ⟨rfl, rfl⟩
      go_wp2_with fail
      exact bodyPost_ret (v := .tuple #[.int .i64 7, .int .u64 2, .int .i64 2]) (by simp [results, Tryz.results39, go_sem]) rfl ⟨by rw [Ek.out.1, Ek.out.2.1, Ek.out.2.2]; rfl, rfl⟩
    · by_cases h2 : -256 ≤ d ∧ d < 256
      · have e : InN d 7 = false := by unfold InN; simp; omega
        have e2 : InN d 9 = true := by unfold InN; simp; omega
        have ek : kindN d = 9 ∧ headN d = 6 ∧ longN d = 3 := by unfold kindN headN longN; rw [if_neg h0, if_neg h1, if_pos h2, if_neg h0, if_neg h1, if_pos h2, if_neg h0, if_neg h1, if_pos h2]; exact ⟨rfl, rfl, rfl⟩
        have E := Lib.hid e; have E2 := Lib.hid e2; have Ek := Lib.hid ek
        clear e e2 ek h1 h2
        go_enter Tryz.func39, Tryz.ntmps39
        go_wp2_with fail
        refine (within_at d 7 7 false _ rfl (by omega) E.out).mono ?_
        rintro e w' ⟨rfl, rfl⟩
        go_wp2_with fail
        refine (within_at d 9 9 true _ rfl (by omega) E2.out).mono ?_
        rintro e w' ⟨rfl, rfl⟩
        go_wp2_with fail
        exact bodyPost_ret (v := .tuple #[.int .i64 9, .int .u64 6, .int .i64 3]) (by simp [results, Tryz.results39, go_sem]) rfl ⟨by rw [Ek.out.1, Ek.out.2.1, Ek.out.2.2]; rfl, rfl⟩
      · have e : InN d 7 = false := by unfold InN; simp; omega
        have e2 : InN d 9 = false := by unfold InN; simp; omega
        have E := Lib.hid e; have E2 := Lib.hid e2
        by_cases h3 : -2048 ≤ d ∧ d < 2048
        · have e3 : InN d 12 = true := by unfold InN; simp; omega
          have ek : kindN d = 12 ∧ headN d = 14 ∧ longN d = 4 := by unfold kindN headN longN; rw [if_neg h0, if_neg h1, if_neg h2, if_pos h3, if_neg h0, if_neg h1, if_neg h2, if_pos h3, if_neg h0, if_neg h1, if_neg h2]; exact ⟨rfl, rfl, rfl⟩
          have E3 := Lib.hid e3; have Ek := Lib.hid ek
          clear e e2 e3 ek h1 h2 h3
          go_enter Tryz.func39, Tryz.ntmps39
          go_wp2_with fail
          refine (within_at d 7 7 false _ rfl (by omega) E.out).mono ?_
          rintro e w' ⟨rfl, rfl⟩
          go_wp2_with fail
          refine (within_at d 9 9 false _ rfl (by omega) E2.out).mono ?_
          rintro e w' ⟨rfl, rfl⟩
          go_wp2_with fail
          refine (within_at d 12 12 true _ rfl (by omega) E3.out).mono ?_
          rintro e w' ⟨rfl, rfl⟩
          go_wp2_with fail
          exact bodyPost_ret (v := .tuple #[.int .i64 12, .int .u64 14, .int .i64 4]) (by simp [results, Tryz.results39, go_sem]) rfl ⟨by rw [Ek.out.1, Ek.out.2.1, Ek.out.2.2]; rfl, rfl⟩
        · have e3 : InN d 12 = false := by unfold InN; simp; omega
          have ek : kindN d = 64 ∧ headN d = 15 ∧ longN d = 4 := by unfold kindN headN longN; rw [if_neg h0, if_neg h1, if_neg h2, if_neg h3, if_neg h0, if_neg h1, if_neg h2, if_neg h3, if_neg h0, if_neg h1, if_neg h2]; exact ⟨rfl, rfl, rfl⟩
          have E3 := Lib.hid e3; have Ek := Lib.hid ek
          clear e e2 e3 ek h1 h2 h3
          go_enter Tryz.func39, Tryz.ntmps39
          go_wp2_with fail
          refine (within_at d 7 7 false _ rfl (by omega) E.out).mono ?_
          rintro e w' ⟨rfl, rfl⟩
          go_wp2_with fail
          refine (within_at d 9 9 false _ rfl (by omega) E2.out).mono ?_
          rintro e w' ⟨rfl, rfl⟩
          go_wp2_with fail
          refine (within_at d 12 12 false _ rfl (by omega) E3.out).mono ?_
          rintro e w' ⟨rfl, rfl⟩
          go_wp2_with fail
          exact bodyPost_ret (v := .tuple #[.int .i64 64, .int .u64 15, .int .i64 4]) (by simp [results, Tryz.results39, go_sem]) rfl ⟨by rw [Ek.out.1, Ek.out.2.1, Ek.out.2.2]; rfl, rfl⟩
end Go.Proofs.YtmcemeofkjfhhaaGreatDoor

/- The document's own times are told: Times. -/
namespace Go.Proofs.YtmcemeofkjfhhaaGreatDoor
open Go.RowKit

def REnc1 (w wr : World) (g : Nat) (row : Option Nat) (N len : Nat) (zs : List Int) (i : Nat) (last : Nat) : Prop :=
  ∃ fs, RWrote w wr g row N len fs ∧ (i = 0 → fs = [] ∧ last = 0) ∧ (0 < i → ∃ prev, zs[i - 1]? = some prev ∧ fs ++ encT prev last (zs.drop i) = encRow zs)
theorem kind_le (d : Int) : kindN d ≤ 64 ∧ longN d ≤ 64 ∧ Lt64 (headN d) := by
  refine ⟨by rw [kind_hd]; exact sz_le _, ?_, ?_⟩
  · unfold longN; split; omega; split; omega; split; omega; omega
  · unfold headN Lt64; split; omega; split; omega; split; omega; split; omega; omega
theorem tstepU (x prev : Int) : IntKind.u64.wrap ((un x : Int) - (un prev : Int)) = (stepOf prev x : Int) := by
  rw [wrapU_un]
  unfold stepOf
  congr 1
  obtain ⟨a, ha⟩ := un_ex x
  obtain ⟨b, hb⟩ := un_ex prev
  exact un_of (k := a - b) (by rw [ha, hb, Int.sub_mul]; omega)
set_option maxHeartbeats 1000000 in
set_option maxRecDepth 100000 in
theorem rtimes_any (B g : Nat) (row : Option Nat) (N len n c : Nat) (A : Option Addr) (zs : List Int) (w : World) (hs : SeesI .i64 w B A n zs) (hz : ∀ x ∈ zs, Fits x) (hB : B ≤ w.heap.size) (hap : 0 < n → ∀ ad, A = some ad → ¬ (ad.block = g ∨ row = some ad.block))
    (hw : RWr w g row N len) (hlen : len + (64 + 68 * n) ≤ 900000000) :
    Calls Tryz.prog 19 #[.pointer (some ⟨g, 0, none⟩), .slice A n c] w fun e w' => e = .returned (.tuple #[]) ∧ RWrote w w' g row N len (encRow zs) := by
  have hzl := hs.1
  have Hs := Lib.hid hs; have Hz := Lib.hid hz; have HS := Lib.hid hap
  have H0 : Hid (REnc1 w w g row N len zs 0 0) := Lib.hid ⟨[], RWrote.refl hw, fun _ => ⟨rfl, rfl⟩, fun h => by omega⟩
  have Hzl := Lib.hid hzl
  have Htot : Hid (len + flen (encRow zs) ≤ 900000000) := Lib.hid (by have := encRow_len zs; rw [hzl] at this; omega)
  clear hs hz hw hap hzl
  go_enter Tryz.func19, Tryz.ntmps19
  go_wp2_with fail
  go_loopg [4, 5] n (fun l s4 s5 wr => ∃ (i last : Nat), i + l = n ∧ s5 = .int .i64 (i : Int) ∧ s4 = .int .u64 (last : Int) ∧ REnc1 w wr g row N len zs i last)
  case atStart => exact ⟨0, 0, by omega, rfl, rfl, H0.out⟩
  case round =>
    obtain ⟨i, last, hil, rfl, rfl, hE⟩ := hrel
    have HE := Lib.hid hE; have Hil := Lib.hid hil
    clear hE hil H0
    by_cases hin : i < n
    · obtain ⟨fs, hwr, he0, he1⟩ := HE.out
      obtain ⟨ad, x, rfl, hx, hcx⟩ := Hs.out.at2 hin hB (by obtain ⟨_, _, a2, _⟩ := hwr; exact a2) (HS.out (by omega))
      have Hx := Lib.hid hx
      have hxf := Lib.hid (Hz.out x (List.mem_of_getElem? hx))
      have Hdr := Lib.hid (drop_at hx)
      have hxu : IntKind.u64.wrap x = (un x : Int) := wrapU_un x
      have hul : Hid (Lt64 (un x)) := Lib.hid (un_lt x)
      clear hx
      by_cases hi0 : i = 0
      · obtain ⟨rfl, rfl⟩ := he0 hi0
        subst hi0
        have Hwr := Lib.hid hwr
        have hcx0 : wr.cell? ad = some (.int .i64 x) := by rw [← add_zero' ad]; exact hcx
        clear hwr he0 he1 HE
        go_wp2_with fail
        refine (rput_wrote w g row N len 64 [] (un x) _ _ _ rfl rfl (by omega) hul.out Hwr.out (by show len + 0 ≤ _; omega)).mono ?_
        rintro e w1 ⟨rfl, h1⟩
        have hd0 := Hdr.out
        rw [List.drop_zero] at hd0
        have H1 : Hid (REnc1 w w1 g row N len zs 1 0) := Lib.hid ⟨[(un x, 64)], h1, fun h => by omega, fun _ => ⟨x, Hx.out, by rw [hd0]; rfl⟩⟩
        clear h1 hd0 Hwr
        go_wp2_with fail
        go_roundg (gk - 1)
        case measure => have := Hil.out; omega
        case rel => exact ⟨1, 0, by have := Hil.out; omega, rfl, rfl, H1.out⟩
      · have hb0 : ((i : Int) == 0) = false := by simp; omega
        obtain ⟨prev, hpv, hE1⟩ := he1 (by omega)
        obtain ⟨ad', x', e', hx', hcp⟩ := Hs.out.at2 (show i - 1 < n by omega) hB (by obtain ⟨_, _, a2, _⟩ := hwr; exact a2) (HS.out (by omega))
        injection e' with e'
        subst e'
        rw [hpv] at hx'
        injection hx' with hx'
        subst hx'
        have hpu : IntKind.u64.wrap prev = (un prev : Int) := wrapU_un prev
        obtain ⟨st, hst⟩ : ∃ st, st = stepOf prev x := ⟨_, rfl⟩
        have h1 : IntKind.u64.wrap ((un x : Int) - (un prev : Int)) = (st : Int) := by rw [hst]; exact tstepU x prev
        obtain ⟨dd, hdd⟩ : ∃ dd : Nat, dd = un ((st : Int) - (last : Int)) := ⟨_, rfl⟩
        have h2 : IntKind.u64.wrap ((st : Int) - (last : Int)) = (dd : Int) := by rw [hdd]; exact wrapU_un _
        obtain ⟨d, hd⟩ : ∃ d, d = diffOf prev last x := ⟨_, rfl⟩
        have h3 : wrap64 (dd : Int) = d := by
          rw [wrap_sg, hdd, un_nat (un_lt _), hd]
          unfold diffOf
          rw [hst]
        have hdu : IntKind.u64.wrap d = (un d : Int) := wrapU_un d
        have hi1 : IntKind.i64.wrap ((i : Int) - 1) = (i : Int) - 1 := IntWalk.i64_in _ (by omega)
        have hi2 : ((i : Int) - 1).toNat = i - 1 := by omega
        have hi3 : (0 : Int) ≤ (i : Int) - 1 := by omega
        have hi4 : (i : Int) - 1 < (n : Int) := by omega
        have hi5 : (i : Int) < (n : Int) := by omega
        have hi6 : (0 : Int) ≤ (i : Int) := by omega
        have Hwr := Lib.hid hwr; have HE1 := Lib.hid hE1; have Hd := Lib.hid hd; have Hst := Lib.hid hst
        have hl : Hid (len + flen fs ≤ 900000000) := Lib.hid (by have := Htot.out; rw [← HE1.out] at this; have := flen_le_app fs (encT prev last (zs.drop i)); omega)
        have hlt2 : Hid (len + flen (fs ++ [(headN d, longN d)]) ≤ 1000000000) := Lib.hid (by have := hl.out; have := (kind_le d).2.1; rw [flen_app]; show len + (flen fs + (longN d + 0)) ≤ _; omega)
        clear hwr he0 he1 HE hE1 hd hst hdd hpv hl
        go_upto_region 6 with fail
        go_quiet (fail)
        have Hwr2 := Lib.hid (Hwr.out.drewN nq)
        clear Hwr hcx hcp hi1 hi2 hi3 hi4 hi5 hi6 hpu hxu h1
        generalize wr.drewN nq = w2 at *
        go_wp2_with fail
        refine (kind_any d _).mono ?_
        rintro e w3 ⟨rfl, rfl⟩
        go_wp2_with fail
        refine (rput_wrote w g row N len (longN d) fs (headN d) _ _ _ rfl rfl (kind_le d).2.1 (kind_le d).2.2 Hwr2.out (by have := hlt2.out; rw [flen_app] at this; omega)).mono ?_
        rintro e w4 ⟨rfl, hw4⟩
        have Hw4 := Lib.hid hw4
        have hdul : Hid (Lt64 (un d)) := Lib.hid (un_lt d)
        clear hw4 Hwr2
        go_wp2_with fail
        refine (rput_wrote w g row N len (kindN d) _ (un d) _ _ _ rfl rfl (kind_le d).1 hdul.out Hw4.out hlt2.out).mono ?_
        rintro e w5 ⟨rfl, hw5⟩
        have H5 : Hid (REnc1 w w5 g row N len zs (i + 1) st) := Lib.hid ⟨_, hw5, fun h => by omega, fun _ => ⟨x, Hx.out, by
          rw [← HE1.out, Hdr.out, List.append_assoc, List.append_assoc, Hst.out, Hd.out]
          rfl⟩⟩
        clear hw5 Hw4
        go_wp2_with fail
        go_roundg (gk - 1)
        case measure => have := Hil.out; omega
        case rel => exact ⟨i + 1, st, by have := Hil.out; omega, by go_num, rfl, H5.out⟩
    · go_wp2_with fail
      go_end0
      refine ⟨rfl, ?_⟩
      obtain ⟨fs, hwr, he0, he1⟩ := HE.out
      have hil := Hil.out
      have hzl := Hzl.out
      rcases Nat.eq_zero_or_pos i with h0 | h0
      · obtain ⟨rfl, _⟩ := he0 h0
        have : zs = [] := List.eq_nil_of_length_eq_zero (by omega)
        subst this
        exact hwr
      · obtain ⟨prev, _, this⟩ := he1 h0
        rw [List.drop_of_length_le (by omega)] at this
        have e : fs = encRow zs := by rw [← this]; show fs = fs ++ []; simp
        rw [← e]
        exact hwr
end Go.Proofs.YtmcemeofkjfhhaaGreatDoor

/- A row of samples told in a codec, as the document has it: Encode; and the codec that takes the fewest bytes: Best. -/
namespace Go.Proofs.YtmcemeofkjfhhaaGreatDoor
open Go.RowKit

/-- The first i times; the writer stands as it stood. -/
def RTimTo (W wr : World) (l : List (Int × Nat)) (i : Nat) (v : Value) : Prop := Own W.heap.size wr 2 v (cellsI (tsOf (l.take i))) ∧ Below W.heap.size W wr
set_option maxHeartbeats 2000000 in
set_option maxRecDepth 100000 in
theorem rkenc_any (tag : Int) (A : Option Addr) (n c : Nat) (l : List (Int × Nat)) (w : World) (hs : RdsS w w.heap.size A n l) (hg : GoodS l) (hn : n ≤ 1000000) :
    Calls Tryz.prog 7 #[.int .i64 tag, .slice A n c] w fun e w' => EncB w w' (encK tag l) e := by
  have Hs := Lib.hid hs; have Hg := Lib.hid hg; have Hl := Lib.hid hs.1
  have hcs : Tryz.prog.cellsOf 25 = 2 := by kernel_rfl
  clear hs hg
  go_enter Tryz.func7, Tryz.ntmps7
  go_wp2_with fail
  refine (rvals_any A n c l w Hs.out hn).mono ?_
  rintro e w1 ⟨v1, rfl, ho1, hm1⟩
  obtain ⟨A1, L1, c1, rfl, HL1, hc1, hr1⟩ := own_formUN ho1
  have hL1 : L1 = n := by have := HL1.out; rw [vsOf_len, Hl.out] at this; exact this.symm
  subst hL1
  have Hr1 := Lib.hid hr1; have Hm1 := Lib.hid hm1; have Hs1 := Lib.hid (Hs.out.new hm1).fit; have Hc1 := Lib.hid hc1
  clear ho1 hm1 hr1 hc1 Hs
  go_wp2_with fail
  refine (rtold_any tag A1 L1 c1 (vsOf l) w1 Hr1.out Hg.out.vs hn Hc1.out).mono ?_
  intro e w2 he
  have he' : EncB w1 w2 (toldK tag (vsOf l)) e := he
  clear he
  cases ho : toldK tag (vsOf l) with
  | none =>
    obtain ⟨rfl, hm2⟩ := EncB.none_ he' ho
    have Hno : Hid (encK tag l = none) := Lib.hid (by unfold encK; rw [ho]; cases riseB l <;> rfl)
    have Hm2 := Lib.hid (Hm1.out.trans hm2 (fun _ _ h => h))
    clear he' ho hm2
    go_wp2_with fail
    go_ret2
    exact EncB.of_none Hno.out Hm2.out
  | some vb =>
    obtain ⟨v2, rfl, ho2, hm2⟩ := EncB.some_ he' ho
    obtain ⟨A2, L2, c2, rfl, HL2, _, _, hr2⟩ := own_formN8 ho2
    have Hr2 := Lib.hid hr2; have Hm2 := Lib.hid (Hm1.out.trans hm2 (fun _ _ h => h)); have Hs2 := Lib.hid (Hs1.out.new hm2).fit; have Ho := Lib.hid ho
    clear he' ho ho2 hm2 hr2 Hs1 Hr1 Hm1
    go_wp2_with fail
    refine (rrising_any A L1 c l w2 Hs2.out hn).mono ?_
    rintro e w3 ⟨rfl, hm3⟩
    have Hr3 := Lib.hid (Hr2.out.new hm3).fit; have Hm3 := Lib.hid (Hm2.out.trans hm3 (fun _ _ h => h)); have Hs3 := Lib.hid (Hs2.out.new hm3).fit
    clear hm3 Hr2 Hm2 Hs2
    cases hri : riseB l with
    | false =>
      have Hno : Hid (encK tag l = none) := Lib.hid (encK_no hri)
      clear hri
      go_wp2_with fail
      go_ret2
      exact EncB.of_none Hno.out Hm3.out
    | true =>
      have hn65 : L1 ≤ 65535 := by rw [← Hl.out]; exact ((riseB_iff l).1 hri).2
      have Hyes : Hid (encK tag l = some (enc (tbK l).length ++ (tbK l ++ vb))) := Lib.hid (encK_of hri Ho.out)
      have hvl := toldK_len Hg.out.vs (by rw [vsOf_len, Hl.out]; exact hn65) Ho.out
      rw [vsOf_len, Hl.out] at hvl
      have hL2 : L2 ≤ 2000000 := by have := HL2.out; omega
      have HL2b := Lib.hid hL2
      obtain ⟨W, hW⟩ : ∃ W, W = w3.alloc (.cells #[.slice none 0 0] 50) := ⟨_, rfl⟩
      have hmW : Mod (fun _ => False) w3 W := by rw [hW]; exact (Mod.refl _ _).alloc _
      have hrw : RWr W w3.heap.size none 0 0 := by rw [hW]; exact RWr.new w3
      obtain ⟨g, hg⟩ : ∃ g, g = w3.heap.size := ⟨_, rfl⟩
      have hgW : g < W.heap.size := by rw [hW, hg]; simp
      have HsW := Lib.hid (Hs3.out.new hmW).fit; have HmW := Lib.hid (Hm3.out.trans hmW (fun _ _ h => h))
      have T0 : Hid (RTimTo W W l 0 (.slice none 0 0)) := Lib.hid ⟨Own.nil _ _ _, Below.refl _ _⟩
      rw [← hg] at hrw
      have HrW : Hid (Rds W g A2 L2 (cells8 vb)) := Lib.hid (by rw [hg]; exact Hr3.out.mod hmW (Nat.le_refl _) (fun _ _ h => h))
      have Hrw := Lib.hid hrw; have HW := Lib.hid hW; have Hg3 := Lib.hid hg; have HgW := Lib.hid hgW
      clear hri hvl hL2 hW hmW hrw hg hgW Hs3 Hr3
      go_wp2_with fail
      rw [← HW.out, ← Hg3.out]
      clear HW
      go_loopg [9, 10] L1 (fun k s9 s10 wr => ∃ i : Nat, i + k = L1 ∧ s10 = .int .i64 (i : Int) ∧ RTimTo W wr l i s9)
      case atStart => exact ⟨0, by omega, rfl, T0.out⟩
      case round =>
        obtain ⟨i, hik, rfl, hT⟩ := hrel
        have Hik := Lib.hid hik; have HT := Lib.hid hT
        clear hik hT T0
        by_cases hin : i < L1
        · obtain ⟨ad, ⟨T, V⟩, rfl, _, hp, hc0, _⟩ := HsW.out.at2 hin (Nat.le_refl _) (Mod.of_below HT.out.2) (fun ad hA => by
            obtain ⟨ad', hA', hb⟩ := HsW.out.some_ (show 0 < L1 by omega)
            rw [hA] at hA'
            injection hA' with hA'
            subst hA'
            omega)
          have hini : (i : Int) < (L1 : Int) := by omega
          have Hp := Lib.hid hp
          have hlen : (cellsI (tsOf (l.take i))).length ≤ 1000000 := by rw [cellsI_length, tsOf_len, List.length_take]; omega
          have HR : Hid ((cellsI (tsOf (l.take i))).length + 1 ≤ maxLen ∧ ((cellsI (tsOf (l.take i))).length + 1) * 8 ≤ 140737488355328) := Lib.hid ⟨by unfold maxLen; omega, by omega⟩
          have hsz := HT.out.2.size
          clear hp hlen
          go_wp2_with (at_builtin; refine wpList_app1 rfl (.tmp 34) (.tmp 40) _ rfl elt64 rfl HT.out.1 rfl rfl rfl HR.out.1 HR.out.2 hsz ?_; intro v4 w4 HO4 HB4)
          have HT2 : Hid (RTimTo W w4 l (i + 1) v4) := Lib.hid ⟨by rw [ts_take Hp.out, cellsI_snoc]; exact HO4.out, HT.out.2.trans HB4.out⟩
          go_roundg (gk - 1)
          case measure => have := Hik.out; omega
          case rel => exact ⟨i + 1, by have := Hik.out; omega, by go_num, HT2.out⟩
        · have hi : i = L1 := by have := Hik.out; omega
          obtain ⟨k1, k2⟩ := HT.out
          rw [List.take_of_length_le (by rw [Hl.out]; omega)] at k1
          obtain ⟨A4, c4, rfl, hr4⟩ := own_form k1
          have hl4 : (tsOf l).length = L1 := by rw [tsOf_len]; exact Hl.out
          rw [hl4] at hr4
          have hin4 : 0 < L1 → ∀ ad, A4 = some ad → W.heap.size ≤ ad.block := fun h0 ad hA => by
            have hb := k1.block ad.block (by rw [hA]; rfl)
            exact hb.1
          have Hap : Hid (0 < L1 → ∀ ad, A4 = some ad → ¬ (ad.block = g ∨ none = some ad.block)) := Lib.hid (fun h0 ad hA h => by
            have := hin4 h0 ad hA
            rcases h with h | h
            · have := HgW.out; omega
            · cases h)
          have Hrw4 := Lib.hid (Hrw.out.mod (Mod.of_below k2) (by have := HgW.out; omega) (fun k hk => by cases hk))
          have HrW4 : Hid (Rds wr g A2 L2 (cells8 vb)) := Lib.hid (HrW.out.mod (Mod.of_below k2) (Nat.le_of_lt HgW.out) (fun j hj h => by have := HgW.out; omega))
          have Hr4 := Lib.hid hr4.seesI; have Hm4 := Lib.hid (HmW.out.trans (Mod.of_below k2) (fun i hi h => by have := HmW.out.size; omega))
          have Hwr4 : Hid (W.heap.size ≤ wr.heap.size) := Lib.hid k2.size
          have Hgw : Hid (w.heap.size ≤ g) := Lib.hid (by rw [Hg3.out]; exact Hm3.out.size)
          rw [hl4]
          clear hi k1 k2 hl4 hr4 hin4 Hrw HrW HmW HT
          obtain ⟨wo, rfl⟩ : ∃ wo : World, wo = wr := ⟨_, rfl⟩
          go_wp2_with fail
          refine (rtimes_any wo.heap.size g none 0 0 L1 c4 A4 (tsOf l) wo Hr4.out Hg.out.ts (Nat.le_refl _) Hap.out Hrw4.out (by omega)).mono ?_
          rintro e w5 ⟨rfl, h5⟩
          have h5' := h5
          obtain ⟨row, a1, a2, _⟩ := h5'
          rw [Nat.zero_mul, Nat.zero_add, Nat.zero_add] at a1
          have hfl := encRow_len (tsOf l)
          rw [tsOf_len, Hl.out] at hfl
          have Hwr5 := Lib.hid a1; have Hm5 := Lib.hid (Hm4.out.trans a2 (fun i hi h => h.elim (fun e => by have := Hgw.out; omega) (fun e => by cases e))); have Hfl := Lib.hid hfl
          have HrW5 : Hid (Rds w5 w5.heap.size A2 L2 (cells8 vb)) := Lib.hid ((HrW4.out.mod a2 (by have := Hwr4.out; have := HgW.out; omega) (fun j hj h => by
            rcases h with h | h
            · omega
            · cases h)).fit)
          clear h5 a1 a2 hfl HrW4 Hr4 Hrw4 Hm4
          go_wp2_with fail
          refine (rbytes_any g row _ _ w5 Hwr5.out (by have := Hfl.out; omega)).mono ?_
          rintro e w6 ⟨v6, bs, rfl, hnew, hpk⟩
          obtain rfl := hpk.packF
          obtain ⟨A6, c6, rfl, hr6, hm6⟩ := hnew.rds
          have htl := tbK_len l
          rw [Hl.out] at htl
          obtain ⟨tb, htb⟩ : ∃ tb, tb = packF (encRow (tsOf l)) := ⟨_, rfl⟩
          rw [← htb] at hr6
          rw [← htb]
          have htb' : tb = tbK l := htb
          obtain ⟨Lt, hLt⟩ : ∃ Lt, tb.length = Lt := ⟨_, rfl⟩
          rw [hLt] at hr6
          rw [hLt]
          have hLts : Lt ≤ 700000 := by rw [← hLt, htb']; omega
          have hcv : IntKind.u64.wrap (Lt : Int) = (Lt : Int) := by rw [IntKind.wrap_u64]; omega
          have Hr6 := Lib.hid hr6; have Hm6 := Lib.hid (Hm5.out.trans hm6 (fun _ _ h => h)); have Hb6 := Lib.hid (HrW5.out.new hm6).fit; have Htb := Lib.hid htb'; have HLt := Lib.hid hLt
          clear hnew hpk hr6 hm6 htl htb htb' hLt Hwr5 Hm5 HrW5
          go_wp2_with fail
          refine (vrput_any none 0 0 0 [] Lt w6 (Rds.nil _ _ _) (by omega) (lt64_of (by omega))).mono ?_
          rintro e w7 ⟨v7, rfl, ho7, hb7⟩
          rw [List.nil_append] at ho7
          have hq := enc_len10 (u := Lt) (by omega)
          have HR7 : Hid (Room (cells8 (enc Lt)).length Lt) := Lib.hid (Room.mk _ _ (by rw [cells8_length]; omega))
          have Ho7 := Lib.hid ho7; have Hr7 := Lib.hid (Hr6.out.below hb7); have Hm7 := Lib.hid (Hm6.out.trans (mod_below hb7) (fun _ _ h => h)); have Hb7 := Lib.hid (Hb6.out.below hb7)
          have Hone : Hid (∀ u ∈ cells8 tb, u.oneCell' = true) := Lib.hid (cells8_one _)
          have Hone2 : Hid (∀ u ∈ cells8 vb, u.oneCell' = true) := Lib.hid (cells8_one _)
          have hsz7 : w6.heap.size ≤ w7.heap.size := hb7.size
          have HR8 : Hid (Room (cells8 (enc Lt) ++ cells8 tb).length L2) := Lib.hid (Room.mk _ _ (by rw [List.length_append, cells8_length, cells8_length, HLt.out]; have := HL2b.out; omega))
          have Hwo7 : Hid (w6.heap.size ≤ w7.heap.size) := Lib.hid hsz7
          clear ho7 hb7 hq hcv
          go_wp2_with (first
            | (at_builtin; refine wpList_app rfl (.tmp 50) (.tmp 51) _ rfl elt8 rfl Ho7.out rfl Hr7.out Hone.out HR7.out.1 HR7.out.2 hsz7 ?_; intro v8 w8 HO8 HBl8 HG8; clear HG8; have hsz8 : w6.heap.size ≤ w8.heap.size := Nat.le_trans Hwo7.out HBl8.out.size; have Hb8 := Lib.hid (Hb7.out.mod (Mod.of_below HBl8.out) Hwo7.out (fun j hj h => by omega)))
            | (at_builtin; refine wpList_app rfl (.tmp 52) (.tmp 53) _ rfl elt8 rfl HO8.out rfl Hb8.out Hone2.out HR8.out.1 HR8.out.2 hsz8 ?_; intro v9 w9 HO9 HBl9 HG9; clear HG9))
          go_ret2
          have ho9 := HO9.out
          rw [cells8_app, cells8_app, List.append_assoc, Htb.out] at ho9
          have e : enc (tbK l).length = enc Lt := by rw [← Htb.out, HLt.out]
          refine EncB.of_some Hyes.out ?_ ?_
          · rw [e]
            exact ho9.mono Hm6.out.size
          · exact (Hm7.out.trans (Mod.of_below HBl8.out) (fun i hi h => by have := Hm6.out.size; omega)).trans (Mod.of_below HBl9.out) (fun i hi h => by have := Hm6.out.size; omega)
end Go.Proofs.YtmcemeofkjfhhaaGreatDoor

/- What the document's own reading of values stands on: rows read loosely, one turn more; two rows of bits held beside each other. -/
namespace Go.Proofs.YtmcemeofkjfhhaaGreatDoor
open Go.RowKit

theorem rdVals_first {k R rem : Nat} (hk : 0 < k) : ((getO 64 (some (R, rem))).2 = none → rdVals k R rem = none) ∧ ∀ R' rem', (getO 64 (some (R, rem))).2 = some (R', rem') → rdVals k R rem = (rdXs (k - 1) none (getO 64 (some (R, rem))).1 R' rem').map fun p => ((getO 64 (some (R, rem))).1 :: p.1, p.2) := by
  obtain ⟨k, rfl⟩ : ∃ j, k = j + 1 := ⟨k - 1, by omega⟩
  have e : rdVals (k + 1) R rem = match takeB 64 R rem with | none => none | some (u, R1, rem1) => (rdXs k none u R1 rem1).map fun (p : List Nat × Nat × Nat) => (u :: p.1, p.2) := rfl
  rw [e, getO_take]
  cases ht : takeB 64 R rem with
  | none => exact ⟨fun _ => rfl, fun _ _ h => by cases h⟩
  | some q =>
    obtain ⟨u, R1, rem1⟩ := q
    refine ⟨fun h => (by cases h), fun R' rem' h => ?_⟩
    have h2 : some (R1, rem1) = some (R', rem') := h
    injection h2 with h2
    injection h2 with h3 h4
    subst h3 h4
    rfl
theorem rdVals_next {k R rem i : Nat} {win s : Option (Nat × Nat)} {prev : Nat} {xs : List Nat} (hi : i < k) (h : ∀ R' rem', s = some (R', rem') → rdVals k R rem = (rdXs (k - i) win prev R' rem').map fun p => (xs ++ p.1, p.2)) (hs : s.isSome = true) :
    (rdO win s = none → rdVals k R rem = none) ∧ ∀ x win' R1 rem1, rdO win s = some (x, win', R1, rem1) → rdVals k R rem = (rdXs (k - (i + 1)) win' (prev ^^^ x) R1 rem1).map fun p => ((xs ++ [prev ^^^ x]) ++ p.1, p.2) := by
  obtain ⟨j, hj⟩ : ∃ j, k - i = j + 1 := ⟨k - i - 1, by omega⟩
  have hj2 : k - (i + 1) = j := by omega
  cases s with
  | none => cases hs
  | some p =>
    obtain ⟨R0, rem0⟩ := p
    have h1 := h R0 rem0 rfl
    rw [hj] at h1
    have e : rdXs (j + 1) win prev R0 rem0 = match rdX win R0 rem0 with | none => none | some (x, win', R1, rem1) => (rdXs j win' (prev ^^^ x) R1 rem1).map fun (p : List Nat × Nat × Nat) => ((prev ^^^ x) :: p.1, p.2) := rfl
    rw [e] at h1
    refine ⟨fun hn => ?_, fun x win' R1 rem1 hs => ?_⟩
    · have hn' : rdX win R0 rem0 = none := hn
      rw [h1, hn']; rfl
    · have hs' : rdX win R0 rem0 = some (x, win', R1, rem1) := hs
      rw [h1, hs', hj2]
      show ((rdXs j win' (prev ^^^ x) R1 rem1).map _).map _ = _
      rw [Option.map_map]
      congr 1
      funext p
      simp
theorem valRow_none {n R rem : Nat} (h : rdVals n R rem = none) : valRow n R rem = none := by unfold valRow; rw [h]
theorem valRow_if {n R rem : Nat} {vs : List Nat} {R' rem' : Nat} (h : rdVals n R rem = some (vs, R', rem')) : valRow n R rem = if flen (encVals vs) + rem' = rem ∧ fnum (encVals vs) = R / 2 ^ rem' then some (vs, R', rem') else none := by unfold valRow; rw [h]
/-- Rows of bits. -/
theorem bval_acc (bs : List Nat) (acc : Nat) : bs.foldl (fun a b => a * 2 + b) acc = acc * 2 ^ bs.length + bval bs := by
  induction bs generalizing acc with
  | nil => show acc = acc * 2 ^ 0 + 0; omega
  | cons b bs ih =>
    have e : bval (b :: bs) = bs.foldl (fun a b => a * 2 + b) (0 * 2 + b) := rfl
    rw [e, ih]
    show bs.foldl (fun a b => a * 2 + b) (acc * 2 + b) = _
    rw [ih, List.length_cons, Nat.pow_succ, Nat.add_mul, Nat.add_mul, Nat.mul_assoc, Nat.mul_comm 2]
    omega
theorem bval_app (cs bs : List Nat) : bval (cs ++ bs) = bval cs * 2 ^ bs.length + bval bs := by
  show (cs ++ bs).foldl (fun a b => a * 2 + b) 0 = _
  rw [List.foldl_append, bval_acc]
  rfl
theorem bval_lt {bs : List Nat} (h : lt2 bs) : bval bs < 2 ^ bs.length := by
  induction bs with
  | nil => exact Nat.one_pos
  | cons b bs ih =>
    have h1 := ih (fun x hx => h x (by simp [hx]))
    have h2 := h b (by simp)
    have e : bval (b :: bs) = b * 2 ^ bs.length + bval bs := by
      have := bval_app [b] bs
      have e0 : bval [b] = b := by show 0 * 2 + b = b; omega
      rwa [e0] at this
    rw [e, List.length_cons, Nat.pow_succ]
    have h3 : b * 2 ^ bs.length ≤ 1 * 2 ^ bs.length := Nat.mul_le_mul_right _ (by omega)
    omega
/-- One bit more of a row of bits, and of a number. -/
theorem bval_take {bs : List Nat} {i b : Nat} (hb : bs[i]? = some b) : bval (bs.take (i + 1)) = bval (bs.take i) * 2 + b := by
  have hi : i < bs.length := (List.getElem?_eq_some_iff.1 hb).1
  rw [List.take_succ_eq_append_getElem hi, bval_snoc, (List.getElem?_eq_some_iff.1 hb).2]
theorem bval_div {bs : List Nat} (h : lt2 bs) (i : Nat) : bval bs / 2 ^ (bs.length - i) = bval (bs.take i) := by
  have h1 : bval bs = bval (bs.take i) * 2 ^ (bs.length - i) + bval (bs.drop i) := by
    conv => lhs; rw [← List.take_append_drop i bs]
    rw [bval_app, List.length_drop]
  have h2 : bval (bs.drop i) < 2 ^ (bs.length - i) := by
    have := bval_lt (bs := bs.drop i) (fun x hx => h x (List.mem_of_mem_drop hx))
    rwa [List.length_drop] at this
  rw [h1, Nat.mul_comm, Nat.mul_add_div (Nat.two_pow_pos _), Nat.div_eq_of_lt h2, Nat.add_zero]
theorem num_more (R rem i : Nat) (hi : i < rem) : R / 2 ^ (rem - (i + 1)) = R / 2 ^ (rem - i) * 2 + R / 2 ^ (rem - (i + 1)) % 2 := by
  have e : rem - i = (rem - (i + 1)) + 1 := by omega
  rw [e, Nat.pow_succ, ← Nat.div_div_eq_div_mul]
  omega
/-- The bits that have been held beside each other are alike. -/
def Alike (bs : List Nat) (R rem i : Nat) : Prop := i ≤ bs.length ∧ bs.length ≤ rem ∧ bval (bs.take i) = R / 2 ^ (rem - i)
theorem alike_zero {bs : List Nat} {R rem : Nat} (hR : R < 2 ^ rem) (hl : bs.length ≤ rem) : Alike bs R rem 0 := ⟨Nat.zero_le _, hl, by rw [Nat.sub_zero, Nat.div_eq_of_lt hR]; rfl⟩
theorem alike_more {bs : List Nat} {R rem i b c : Nat} (h : Alike bs R rem i) (hb : bs[i]? = some b) (hc : R / 2 ^ (rem - (i + 1)) % 2 = c) (he : b = c) : Alike bs R rem (i + 1) := by
  obtain ⟨h1, h2, h3⟩ := h
  have hi : i < bs.length := (List.getElem?_eq_some_iff.1 hb).1
  refine ⟨hi, h2, ?_⟩
  rw [bval_take hb, num_more R rem i (by omega), hc, h3, he]
theorem alike_not {bs : List Nat} {R rem i b c : Nat} (hl2 : lt2 bs) (h : Alike bs R rem i) (hb : bs[i]? = some b) (hc : R / 2 ^ (rem - (i + 1)) % 2 = c) (he : b ≠ c) : bval bs ≠ R / 2 ^ (rem - bs.length) := by
  obtain ⟨h1, h2, h3⟩ := h
  have hi : i < bs.length := (List.getElem?_eq_some_iff.1 hb).1
  intro e
  have e1 := bval_div hl2 (i + 1)
  rw [e, Nat.div_div_eq_div_mul, ← Nat.pow_add, show rem - bs.length + (bs.length - (i + 1)) = rem - (i + 1) by omega, num_more R rem i (by omega), hc, bval_take hb, h3] at e1
  omega
theorem alike_all {bs : List Nat} {R rem : Nat} (h : Alike bs R rem bs.length) : bval bs = R / 2 ^ (rem - bs.length) := by
  have := h.2.2
  rwa [List.take_length] at this
/-- The bit of a reader's bytes, r bits ahead of the end. -/
theorem read_bit {bs : List Nat} {n a r b R rem i : Nat} (hn : bs.length = n) (hlt : lt256 bs) (hR : R = val bs % 2 ^ rem) (hr : r = rem - i) (hi : i < rem) (har : a + r = 8 * n) (hb : bs[a / 8]? = some b) : R / 2 ^ (rem - (i + 1)) % 2 = b / 2 ^ (7 - a % 8) % 2 := by
  have h := bit_at bs n a r b hn (by omega) har hlt hb
  rw [← h, hR]
  have e1 : rem - (i + 1) = r - 1 := by omega
  rw [e1]
  have e2 : val bs % 2 ^ r = R % 2 ^ r := by rw [hR, Nat.mod_mod_of_dvd _ (Nat.pow_dvd_pow 2 (by omega))]
  rw [e2, ← hR]
  have e3 : (2 : Nat) ^ r = 2 ^ (r - 1) * 2 := by rw [← Nat.pow_succ]; congr 1; omega
  rw [e3, Nat.mod_mul_right_div_self]
end Go.Proofs.YtmcemeofkjfhhaaGreatDoor

/- The document's own values are read: GetValues, its loop. -/
namespace Go.Proofs.YtmcemeofkjfhhaaGreatDoor
open Go.RowKit

theorem held5_any (n : Int) (k : Nat) (w : World) (hk : max 0 (min n 65535) = (k : Int)) :
    Calls Tryz.prog 53 #[.int .i64 n] w fun e w' => e = .returned (.int .i64 (k : Int)) ∧ w = w' := by
  exact rheld_any n k w hk
def XRDecEnd (w w' : World) (g row : Nat) (bs : List Nat) (o : Option (List Nat × Nat × Nat)) (e : Ending) : Prop :=
  match o with
  | some (xs, R, rem) => ∃ v, e = .returned (.tuple #[v, .bool true]) ∧ Own w.heap.size w' 22 v (cellsU xs) ∧ RRdO w' g row bs (some (R, rem)) ∧ Mod (fun i => i = g) w w'
  | none => e = .returned (.tuple #[.slice none 0 0, .bool false]) ∧ Mod (fun i => i = g) w w'
theorem XRDecEnd.none_ {w w' : World} {g row : Nat} {bs : List Nat} {o : Option (List Nat × Nat × Nat)} {e : Ending} (ho : o = none) (he : e = .returned (.tuple #[.slice none 0 0, .bool false])) (hm : Mod (fun i => i = g) w w') : XRDecEnd w w' g row bs o e := by
  subst ho
  exact ⟨he, hm⟩
/-- What the window is, where there are bits left. -/
def IsWin (any : Bool) (a b : Int) (win : Option (Nat × Nat)) : Prop := WinOk win ∧ any = win.isSome ∧ a = (winA win : Int) ∧ b = (winB win : Int)
/-- What the loop has read of i values. -/
def XRDec (w wr : World) (g row : Nat) (bs : List Nat) (k R rem i : Nat) (v : Value) (any : Bool) (a b : Int) (s : Option (Nat × Nat)) : Prop :=
  ∃ xs, Own w.heap.size wr 22 v (cellsU xs) ∧ RRdO wr g row bs s ∧ Mod (fun i => i = g) w wr ∧ xs.length = i ∧ (∀ x ∈ xs, x < 2 ^ 64) ∧ (i = 0 → xs = [] ∧ s = some (R, rem) ∧ any = false ∧ a = 0 ∧ b = 0) ∧
    (0 < i → (s = none → rdVals k R rem = none) ∧ ∀ R' rem', s = some (R', rem') → ∃ win prev, IsWin any a b win ∧ xs[i - 1]? = some prev ∧ rdVals k R rem = (rdXs (k - i) win prev R' rem').map fun p => (xs ++ p.1, p.2))
theorem XRDec.mk {w w1 w2 : World} {g row : Nat} {bs : List Nat} {k R rem i : Nat} {v2 : Value} {x : Nat} {any : Bool} {a b : Int} {s' : Option (Nat × Nat)} {xs : List Nat} (hgl : g < w.heap.size) (hrow : row < w.heap.size)
    (h1 : RRdO w1 g row bs s') (hm : Mod (fun i => i = g) w w1) (hown : Own w.heap.size w2 22 v2 (cellsU xs ++ [.int .u64 (x : Int)])) (hb : Below w.heap.size w1 w2) (hxl : xs.length = i) (hxs : ∀ y ∈ xs, y < 2 ^ 64) (hx : x < 2 ^ 64)
    (hn : (s' = none → rdVals k R rem = none) ∧ ∀ R' rem', s' = some (R', rem') → ∃ win, IsWin any a b win ∧ rdVals k R rem = (rdXs (k - (i + 1)) win x R' rem').map fun p => ((xs ++ [x]) ++ p.1, p.2)) :
    XRDec w w2 g row bs k R rem (i + 1) v2 any a b s' := by
  refine ⟨xs ++ [x], ?_, h1.mod (Mod.of_below hb) (by omega) (fun _ => by omega), hm.trans (Mod.of_below hb) (fun i hi h => by omega), by simp [hxl], fun y hy => ?_, fun h => by omega, fun _ => ⟨hn.1, fun R' rem' hs => ?_⟩⟩
  · rw [cellsU_snoc]; exact hown
  · rw [List.mem_append, List.mem_singleton] at hy
    rcases hy with hy | rfl
    · exact hxs y hy
    · exact hx
  · obtain ⟨win, h2, h3⟩ := hn.2 R' rem' hs
    refine ⟨win, x, h2, ?_, h3⟩
    rw [Nat.add_sub_cancel, List.getElem?_append_right (by omega), hxl, Nat.sub_self]
    rfl
/-- Behind one turn. -/
def XRMid (w wc : World) (g row : Nat) (bs : List Nat) (s : Option (Nat × Nat)) (win : Option (Nat × Nat)) (any : Bool) (a b : Int) (x : Nat) : Prop :=
  ∃ s', RRdO wc g row bs s' ∧ Mod (fun i => i = g) w wc ∧ x < 2 ^ 64 ∧ (s' = none → rdO win s = none) ∧ ∀ R1 rem1, s' = some (R1, rem1) → ∃ win', IsWin any a b win' ∧ rdO win s = some (x, win', R1, rem1)
theorem XRMid.mk {w wc : World} {g row : Nat} {bs : List Nat} {s win s' : Option (Nat × Nat)} {any : Bool} {a b : Int} {x : Nat} {win' : Option (Nat × Nat)} (hr : RRdO wc g row bs s') (hm : Mod (fun i => i = g) w wc) (hx : x < 2 ^ 64) (hw : IsWin any a b win') (h : rdO win s = s'.map fun p => (x, win', p.1, p.2)) : XRMid w wc g row bs s win any a b x := by
  refine ⟨s', hr, hm, hx, fun e => by rw [h, e]; rfl, fun R1 rem1 e => ⟨win', hw, by rw [h, e]; rfl⟩⟩
set_option maxHeartbeats 8000000 in
set_option maxRecDepth 100000 in
theorem rgetvals_any (g row R rem k : Nat) (bs : List Nat) (n : Int) (w : World) (hk : max 0 (min n 65535) = (k : Int)) (hr : RRd w g row bs R rem true) (hR : R < 2 ^ rem) (hrow : row < w.heap.size) :
    Calls Tryz.prog 56 #[.pointer (some ⟨g, 0, none⟩), .int .i64 n] w fun e w' => XRDecEnd w w' g row bs (valRow k R rem) e := by
  have H0 : Hid (XRDec w w g row bs k R rem 0 (.slice none 0 0) false 0 0 (some (R, rem))) := Lib.hid ⟨[], Own.nil _ _ _, ⟨hr, hR⟩, Mod.refl _ _, rfl, (fun _ h => by cases h), fun _ => ⟨rfl, rfl, rfl, rfl, rfl⟩, fun h => by omega⟩
  have hgl := Lib.hid hr.lt'
  have Hrow := Lib.hid hrow; have HR := Lib.hid hR; have Hk := Lib.hid hk
  have hk65 : k ≤ 65535 := by omega
  obtain ⟨A0, n0, c0, fr, hblk, hs0, hne0, hfr8, hn0, hlt0, h10, _⟩ := hr
  obtain ⟨hfr, hRv⟩ := h10 rfl
  have hcA := hblk.cell 1
  simp at hcA
  have Hfr : Hid (fr + rem = 8 * bs.length ∧ R = val bs % 2 ^ rem ∧ bs.length ≤ 1000000) := Lib.hid ⟨by have := hs0.1; rw [cells8_length] at this; omega, hRv, by have := hs0.1; rw [cells8_length] at this; omega⟩
  clear hR hrow hk hblk hs0 hne0 hfr8 hn0 hlt0 h10 hfr hRv
  go_enter Tryz.func56, Tryz.ntmps56
  go_wp2_with fail
  refine (held5_any n k _ Hk.out).mono ?_
  rintro e w' ⟨rfl, rfl⟩
  clear Hk
  go_wp2_with fail
  clear hcA
  go_loopg [7, 8, 9, 10, 11] k (fun l s7 s8 s9 s10 s11 wr => ∃ (i : Nat) (any : Bool) (a b : Int) (s : Option (Nat × Nat)), i + l = k ∧ s11 = .int .i64 (i : Int) ∧ s8 = .bool any ∧ s9 = .int .i64 a ∧ s10 = .int .i64 b ∧ XRDec w wr g row bs k R rem i s7 any a b s)
  case atStart => exact ⟨0, false, 0, 0, _, by omega, rfl, rfl, rfl, rfl, H0.out⟩
  case round =>
    obtain ⟨i, any, a, b, s, hil, rfl, rfl, rfl, rfl, hD⟩ := hrel
    have HD := Lib.hid hD; have Hil := Lib.hid hil
    clear hD hil H0
    obtain ⟨xs, hown, hro, hm, hxl, hxs, hi0, hi1⟩ := HD.out
    have Hro := Lib.hid hro; have Hm := Lib.hid hm; have Hown := Lib.hid hown; have Hxl := Lib.hid hxl; have Hxs := Lib.hid hxs
    have hfl := hro.flag
    clear hown hro hm hxl hxs
    by_cases hin : i < k
    · cases hs : s.isSome with
      | false =>
        rw [hs] at hfl
        have hsn : s = none := by
          cases s with
          | none => rfl
          | some p => cases hs
        have Hnone : Hid (rdVals k R rem = none) := Lib.hid (by
          rcases Nat.eq_zero_or_pos i with h0 | h0
          · have := (hi0 h0).2.1
            rw [hsn] at this
            cases this
          · exact (hi1 h0).1 hsn)
        clear hi0 hi1 hs hsn
        go_wp2_with fail
        go_ret2
        exact XRDecEnd.none_ (valRow_none Hnone.out) rfl Hm.out
      | true =>
        rw [hs] at hfl
        have Hs := Lib.hid hs
        clear hs
        by_cases h0 : i = 0
        · obtain ⟨rfl, rfl, rfl, rfl, rfl⟩ := hi0 h0
          subst h0
          clear hi0 hi1
          go_wp2_with fail
          refine (rget_o g row 64 64 bs _ _ rfl (by decide) Hro.out).mono ?_
          rintro e w1 ⟨rfl, h1, hm1⟩
          obtain ⟨u, hu⟩ : ∃ u, u = (getO 64 (some (R, rem))).1 := ⟨_, rfl⟩
          have hu64 : Hid (u < 2 ^ 64) := Lib.hid (by rw [hu]; exact getO_lt HR.out 64)
          have hN : Hid (((getO 64 (some (R, rem))).2 = none → rdVals k R rem = none) ∧ ∀ R' rem', (getO 64 (some (R, rem))).2 = some (R', rem') → ∃ win, IsWin false 0 0 win ∧ rdVals k R rem = (rdXs (k - (0 + 1)) win u R' rem').map fun p => (([] ++ [u]) ++ p.1, p.2)) :=
            Lib.hid ⟨(rdVals_first hin).1, fun R' rem' h => ⟨none, ⟨trivial, rfl, rfl, rfl⟩, by rw [hu]; exact (rdVals_first hin).2 R' rem' h⟩⟩
          rw [← hu]
          have Hown1 : Hid (Own w.heap.size w1 22 u7 (cellsU [])) := Lib.hid (hm1.owns Hown.out (fun k hk e => by have := (Hown.out.block k hk).1; have := hgl.out; omega))
          have H1 := Lib.hid h1; have Hm1 := Lib.hid (Hm.out.trans hm1 (fun _ _ h => h))
          have hsz := Hm1.out.size
          have hr1 : (cellsU []).length + 1 ≤ maxLen := by unfold maxLen; decide
          have hr2 : ((cellsU []).length + 1) * 8 ≤ 140737488355328 := by decide
          clear hu h1 hm1 hfl
          go_wp2_with (at_builtin; refine wpList_app1 rfl (.tmp 37) (.tmp 40) _ rfl eltU rfl Hown1.out rfl rfl rfl hr1 hr2 hsz ?_; intro v' w2 HO HB)
          have HD2 : Hid (XRDec w w2 g row bs k R rem (0 + 1) v' false 0 0 (getO 64 (some (R, rem))).2) := Lib.hid (XRDec.mk hgl.out Hrow.out H1.out Hm1.out HO.out HB.out rfl (fun _ h => by cases h) hu64.out hN.out)
          go_roundg (gk - 1)
          case measure => have := Hil.out; omega
          case rel => exact ⟨0 + 1, false, 0, 0, _, by have := Hil.out; omega, rfl, rfl, rfl, rfl, HD2.out⟩
        · have hb0 : ((i : Int) == 0) = false := by simp; omega
          obtain ⟨R0, rem0, hs0⟩ : ∃ R0 rem0, s = some (R0, rem0) := by
            have := Hs.out
            cases s with
            | none => cases this
            | some p => exact ⟨_, _, rfl⟩
          obtain ⟨win, prev, hw, hpv, hcur⟩ := (hi1 (by omega)).2 R0 rem0 hs0
          have hN := rdVals_next (s := s) (win := win) (prev := prev) hin (fun R' rem' h => by rw [hs0] at h; injection h with h; injection h with h3 h4; subst h3 h4; exact hcur) Hs.out
          have HN := Lib.hid hN; have Hw := Lib.hid hw; have Hpv := Lib.hid hpv
          have hsm : Hid (SmallO s) := Lib.hid Hro.out.small
          have hp64 : Hid (prev < 2 ^ 64) := Lib.hid (Hxs.out prev (List.mem_of_getElem? hpv))
          clear hi0 hi1 hs0 hw hpv hcur hN
          obtain ⟨hwok, hany, ha, hb⟩ := Hw.out
          obtain ⟨c0, hc0⟩ : ∃ c0, c0 = (getO 1 s).1 := ⟨_, rfl⟩
          have hc0b : c0 = 0 ∨ c0 = 1 := by rw [hc0]; exact hsm.out.bit
          have Hc0 := Lib.hid hc0; have Hc0b := Lib.hid hc0b; have Hwok := Lib.hid hwok; have Hany := Lib.hid hany; have Ha := Lib.hid ha; have Hb := Lib.hid hb
          have hbnd : Hid ((0 ≤ a ∧ a ≤ 31) ∧ (0 ≤ b ∧ a + b ≤ 63)) := Lib.hid (by
            rw [ha, hb]
            cases win with
            | none => exact ⟨⟨by decide, by decide⟩, by decide, by decide⟩
            | some p =>
              obtain ⟨a', b'⟩ := p
              obtain ⟨w1, w2⟩ := hwok
              show (0 ≤ (a' : Int) ∧ (a' : Int) ≤ 31) ∧ (0 ≤ (b' : Int) ∧ (a' : Int) + (b' : Int) ≤ 63)
              omega)
          clear hc0 hc0b hwok hany ha hb
          go_wp2_with fail
          refine (rget_o g row 1 1 bs _ _ rfl (by decide) Hro.out).mono ?_
          rintro e w1 ⟨rfl, hr1, hm1⟩
          rw [← Hc0.out]
          have Hr1 := Lib.hid hr1; have Hm1 := Lib.hid hm1
          clear hr1 hm1
          go_upto_if 44 with fail
          go_cut [8, 9, 10, 12] (fun s8 s9 s10 s12 wc => ∃ (any' : Bool) (a' b' : Int) (x : Nat), s8 = .bool any' ∧ s9 = .int .i64 a' ∧ s10 = .int .i64 b' ∧ s12 = .int .u64 (x : Int) ∧ XRMid wr wc g row bs s win any' a' b' x)
          case first =>
            rcases Hc0b.out with h1 | h1
            · have hz : (getO 1 s).1 = 0 := by rw [← Hc0.out, h1]
              have HM : Hid (XRMid wr w1 g row bs s win any a b 0) := Lib.hid (XRMid.mk Hr1.out Hm1.out (by decide) Hw.out (rdO_zero hz))
              subst h1
              clear hz
              go_wp2_with fail
              go_meet
              case rel => exact ⟨any, a, b, 0, rfl, rfl, rfl, rfl, HM.out⟩
            · have hz : Hid ((getO 1 s).1 ≠ 0) := Lib.hid (by rw [← Hc0.out, h1]; decide)
              subst h1
              obtain ⟨c1, hc1⟩ : ∃ c1, c1 = (getO 1 (getO 1 s).2).1 := ⟨_, rfl⟩
              have hc1b : c1 = 0 ∨ c1 = 1 := by rw [hc1]; exact (hsm.out.get 1).bit
              have Hc1 := Lib.hid hc1; have Hc1b := Lib.hid hc1b
              clear hc1 hc1b
              go_wp2_with fail
              refine (rget_o g row 1 1 bs _ _ rfl (by decide) Hr1.out).mono ?_
              rintro e w2 ⟨rfl, hr2, hm2⟩
              rw [← Hc1.out]
              have Hr2 := Lib.hid hr2; have Hm2 := Lib.hid (Hm1.out.trans hm2 (fun _ _ h => h))
              clear hr2 hm2 Hr1 Hm1
              rcases Hc1b.out with h1 | h1
              · have hz1 : (getO 1 (getO 1 s).2).1 = 0 := by rw [← Hc1.out, h1]
                rw [h1]
                clear h1
                cases win with
                | none =>
                  obtain rfl : any = false := Hany.out
                  have Hnone : Hid (rdVals k R rem = none) := Lib.hid (HN.out.1 (rdO_in_none hz.out hz1))
                  have Hm9 := Lib.hid (Hm.out.trans Hm2.out (fun _ _ h => h))
                  clear hz1
                  go_wp2_with fail
                  go_ret2
                  exact XRDecEnd.none_ (valRow_none Hnone.out) rfl Hm9.out
                | some p =>
                  obtain ⟨a', b'⟩ := p
                  obtain rfl : any = true := Hany.out
                  obtain rfl : a = (a' : Int) := Ha.out
                  obtain rfl : b = (b' : Int) := Hb.out
                  obtain ⟨hb1, hb2⟩ := hbnd.out
                  obtain ⟨z, hzz⟩ : ∃ z, z = 64 - a' - b' := ⟨_, rfl⟩
                  have hz2 : (64 : Int) - (a' : Int) - (b' : Int) = (z : Int) := by omega
                  have hbw : IntKind.u64.wrap (b' : Int) = (b' : Int) := by rw [IntKind.wrap_u64]; omega
                  have hz64 : z ≤ 64 := by omega
                  have hmain := rdO_in (a := a') (b := b') hz.out hz1
                  rw [← hzz] at hmain
                  obtain ⟨y, hy⟩ : ∃ y, y = (getO z (getO 1 (getO 1 s).2).2).1 := ⟨_, rfl⟩
                  have hylt : y < 2 ^ z := by rw [hy]; exact ((hsm.out.get 1).get 1).lt z
                  obtain ⟨x, hx⟩ : ∃ x, x = y * 2 ^ b' := ⟨_, rfl⟩
                  have hxl : x < 2 ^ 64 := by
                    rw [hx]
                    have h := Nat.mul_lt_mul_of_pos_right hylt (Nat.two_pow_pos b')
                    rw [← Nat.pow_add] at h
                    exact Nat.lt_of_lt_of_le h (Nat.pow_le_pow_right (by omega) (by omega))
                  have hshl : IntKind.u64.wrap ((y : Int) * 2 ^ b') = (x : Int) := by
                    have e1 : ((y : Int) * 2 ^ b') = ((y * 2 ^ b' : Nat) : Int) := by simp
                    rw [IntKind.wrap_u64, e1, ← hx]
                    omega
                  rw [← hy, ← hx] at hmain
                  have Hmain := Lib.hid hmain; have Hy := Lib.hid hy; have Hxl := Lib.hid hxl
                  clear hz1 hzz hmain hy hylt hx hxl
                  go_wp2_with fail
                  refine (rget_o g row z _ bs _ _ rfl hz64 Hr2.out).mono ?_
                  rintro e w3 ⟨rfl, hr3, hm3⟩
                  rw [← Hy.out]
                  have HM : Hid (XRMid wr w3 g row bs s (some (a', b')) true (a' : Int) (b' : Int) x) := Lib.hid (XRMid.mk hr3 (Hm2.out.trans hm3 (fun _ _ h => h)) Hxl.out Hw.out Hmain.out)
                  clear hr3 hm3 Hr2 Hm2
                  go_wp2_with fail
                  go_meet
                  case rel => exact ⟨true, (a' : Int), (b' : Int), x, rfl, rfl, rfl, rfl, HM.out⟩
              · have hz1 : Hid ((getO 1 (getO 1 s).2).1 ≠ 0) := Lib.hid (by rw [← Hc1.out, h1]; decide)
                rw [h1]
                clear h1
                obtain ⟨a', ha'⟩ : ∃ a', a' = (getO 5 (getO 1 (getO 1 s).2).2).1 := ⟨_, rfl⟩
                have ha5 : a' < 32 := by rw [ha']; exact ((hsm.out.get 1).get 1).lt 5
                have hcv : wrap64 (a' : Int) = (a' : Int) := IntWalk.wrap64_in _ (by omega)
                have Ha' := Lib.hid ha'
                clear ha'
                go_wp2_with fail
                refine (rget_o g row 5 5 bs _ _ rfl (by decide) Hr2.out).mono ?_
                rintro e w3 ⟨rfl, hr3, hm3⟩
                rw [← Ha'.out]
                have Hr3 := Lib.hid hr3; have Hm3 := Lib.hid (Hm2.out.trans hm3 (fun _ _ h => h))
                obtain ⟨m, hm⟩ : ∃ m, m = (getO 6 (getO 5 (getO 1 (getO 1 s).2).2).2).1 := ⟨_, rfl⟩
                have hm6 : m < 64 := by rw [hm]; exact (((hsm.out.get 1).get 1).get 5).lt 6
                have hcm : wrap64 (m : Int) = (m : Int) := IntWalk.wrap64_in _ (by omega)
                have Hmm := Lib.hid hm
                clear hr3 hm3 hm Hr2 Hm2
                go_wp2_with fail
                refine (rget_o g row 6 6 bs _ _ rfl (by decide) Hr3.out).mono ?_
                rintro e w4 ⟨rfl, hr4, hm4⟩
                rw [← Hmm.out]
                have Hr4 := Lib.hid hr4; have Hm4 := Lib.hid (Hm3.out.trans hm4 (fun _ _ h => h))
                obtain ⟨z, hzz⟩ : ∃ z, z = m + 1 := ⟨_, rfl⟩
                have hz2 : (m : Int) + 1 = (z : Int) := by omega
                have hz64 : z ≤ 64 := by omega
                have Hz := Lib.hid hzz
                clear hr4 hm4 hzz Hr3 Hm3
                by_cases hfar : 64 < a' + z
                · have Hnone : Hid (rdVals k R rem = none) := Lib.hid (HN.out.1 (rdO_far hz.out hz1.out (by rw [← Ha'.out, ← Hmm.out, ← Hz.out]; exact hfar)))
                  have Hm9 := Lib.hid (Hm.out.trans Hm4.out (fun _ _ h => h))
                  have hfar2 : (64 : Int) < (a' : Int) + (z : Int) := by omega
                  go_wp2_with fail
                  go_ret2
                  exact XRDecEnd.none_ (valRow_none Hnone.out) rfl Hm9.out
                · obtain ⟨b', hb'⟩ : ∃ b', b' = 64 - a' - z := ⟨_, rfl⟩
                  have hb2 : (64 : Int) - (a' : Int) - (z : Int) = (b' : Int) := by omega
                  have hz3 : (64 : Int) - (a' : Int) - (b' : Int) = (z : Int) := by omega
                  have hfar2 : ¬ (64 : Int) < (a' : Int) + (z : Int) := by omega
                  have hbw : IntKind.u64.wrap (b' : Int) = (b' : Int) := by rw [IntKind.wrap_u64]; omega
                  have hmain := rdO_fresh (win := win) hz.out hz1.out Ha'.out Hmm.out (by rw [← Hz.out]; exact hfar)
                  rw [← Hz.out, ← hb'] at hmain
                  obtain ⟨y, hy⟩ : ∃ y, y = (getO z (getO 6 (getO 5 (getO 1 (getO 1 s).2).2).2).2).1 := ⟨_, rfl⟩
                  have hylt : y < 2 ^ z := by rw [hy]; exact ((((hsm.out.get 1).get 1).get 5).get 6).lt z
                  obtain ⟨x, hx⟩ : ∃ x, x = y * 2 ^ b' := ⟨_, rfl⟩
                  have hxl : x < 2 ^ 64 := by
                    rw [hx]
                    have h := Nat.mul_lt_mul_of_pos_right hylt (Nat.two_pow_pos b')
                    rw [← Nat.pow_add] at h
                    exact Nat.lt_of_lt_of_le h (Nat.pow_le_pow_right (by omega) (by omega))
                  have hshl : IntKind.u64.wrap ((y : Int) * 2 ^ b') = (x : Int) := by
                    have e1 : ((y : Int) * 2 ^ b') = ((y * 2 ^ b' : Nat) : Int) := by simp
                    rw [IntKind.wrap_u64, e1, ← hx]
                    omega
                  rw [← hy, ← hx] at hmain
                  have hz1' := Hz.out
                  have Hmain := Lib.hid hmain; have Hy := Lib.hid hy; have Hxl := Lib.hid hxl
                  have hwin' : Hid (IsWin true (a' : Int) (b' : Int) (some (a', b'))) := Lib.hid ⟨⟨by omega, by omega⟩, rfl, rfl, rfl⟩
                  clear hb' hmain hy hylt hx hxl hfar hz1'
                  go_wp2_with fail
                  refine (rget_o g row z _ bs _ _ rfl hz64 Hr4.out).mono ?_
                  rintro e w5 ⟨rfl, hr5, hm5⟩
                  rw [← Hy.out]
                  have HM : Hid (XRMid wr w5 g row bs s win true (a' : Int) (b' : Int) x) := Lib.hid (XRMid.mk hr5 (Hm4.out.trans hm5 (fun _ _ h => h)) Hxl.out hwin'.out Hmain.out)
                  clear hr5 hm5 Hr4 Hm4
                  go_wp2_with fail
                  go_meet
                  case rel => exact ⟨true, (a' : Int), (b' : Int), x, rfl, rfl, rfl, rfl, HM.out⟩
          case rest =>
            obtain ⟨any', a', b', x, rfl, rfl, rfl, rfl, hM⟩ := hcut
            obtain ⟨s2, hr2, hm2, hxl, hbad, hgood⟩ := hM
            have Hxs2 := Lib.hid hxl; have Hbad := Lib.hid hbad; have Hgood := Lib.hid hgood
            have Hown2 : Hid (Own w.heap.size wc 22 u7 (cellsU xs)) := Lib.hid (hm2.owns Hown.out (fun k hk e => by have := (Hown.out.block k hk).1; have := hgl.out; omega))
            have Hr2 := Lib.hid hr2; have Hm2 := Lib.hid (Hm.out.trans hm2 (fun _ _ h => h))
            obtain ⟨gv, cap, hv, _, hglt⟩ := Hown2.out.form' (by rw [cellsU_length, Hxl.out]; omega)
            have hcell : wc.cell? ⟨gv, i - 1, none⟩ = some (.int .u64 (prev : Int)) := by
              have h := Hown2.out.cell' hv (i - 1) (by rw [cellsU_length, Hxl.out]; omega)
              rw [h, cellsU_get, Hpv.out]
              rfl
            rw [cellsU_length, Hxl.out] at hv
            subst hv
            obtain ⟨y, hy⟩ : ∃ y : Nat, y = prev ^^^ x := ⟨_, rfl⟩
            have hxor : bits .xor .u64 (prev : Int) (x : Int) = (y : Int) := by rw [hy]; exact u64_xor_nat prev x hp64.out hxl
            have hyl : Hid (y < 2 ^ 64) := Lib.hid (by rw [hy]; exact Nat.xor_lt_two_pow hp64.out hxl)
            have HN2 : Hid ((s2 = none → rdVals k R rem = none) ∧ ∀ R' rem', s2 = some (R', rem') → ∃ win, IsWin any' a' b' win ∧ rdVals k R rem = (rdXs (k - (i + 1)) win y R' rem').map fun p => ((xs ++ [y]) ++ p.1, p.2)) := Lib.hid ⟨fun h => HN.out.1 (hbad h), fun R' rem' h => by
              obtain ⟨win', h1, h2⟩ := hgood R' rem' h
              exact ⟨win', h1, by rw [hy]; exact HN.out.2 x win' R' rem' h2⟩⟩
            have hi3 : (0 : Int) ≤ (i : Int) - 1 := by omega
            have hi4 : (1 : Int) ≤ (i : Int) := by omega
            have hsz := Hm2.out.size
            have hr1' : (cellsU xs).length + 1 ≤ maxLen := by rw [cellsU_length, Hxl.out]; unfold maxLen; omega
            have hr2' : ((cellsU xs).length + 1) * 8 ≤ 140737488355328 := by rw [cellsU_length, Hxl.out]; omega
            clear hxl hbad hgood hr2 hm2 hy hfl
            go_wp2_with (at_builtin; refine wpList_app1 rfl (.tmp 74) (.tmp 82) _ rfl eltU rfl Hown2.out rfl rfl rfl hr1' hr2' hsz ?_; intro v' w4 HO HB)
            have HD2 : Hid (XRDec w w4 g row bs k R rem (i + 1) v' any' a' b' s2) := Lib.hid (XRDec.mk hgl.out Hrow.out Hr2.out Hm2.out HO.out HB.out Hxl.out Hxs.out hyl.out HN2.out)
            go_roundg (gk - 1)
            case measure => have := Hil.out; omega
            case rel => exact ⟨i + 1, any', a', b', s2, by have := Hil.out; omega, by go_num, rfl, rfl, rfl, HD2.out⟩
    · have hik : i = k := by have := Hil.out; omega
      have Hres : Hid ((s = none → rdVals k R rem = none) ∧ ∀ R' rem', s = some (R', rem') → rdVals k R rem = some (xs, R', rem')) := Lib.hid (by
        rcases Nat.eq_zero_or_pos i with h0 | h0
        · obtain ⟨b1, b4, _⟩ := hi0 h0
          subst b1 b4
          have hk0 : k = 0 := by omega
          subst hk0
          refine ⟨fun h => (by cases h), fun R' rem' h => ?_⟩
          injection h with h
          injection h with h3 h4
          subst h3 h4
          rfl
        · obtain ⟨b1, b2⟩ := hi1 h0
          refine ⟨b1, fun R' rem' h => ?_⟩
          obtain ⟨win, prev, _, _, b3⟩ := b2 R' rem' h
          rw [b3, hik, Nat.sub_self]
          show some (xs ++ [], R', rem') = _
          rw [List.append_nil])
      have hxlk : xs.length = k := by rw [Hxl.out, hik]
      have Hxlk := Lib.hid hxlk
      clear hi0 hi1 hik hxlk
      have hres1 : s = none → Hid (rdVals k R rem = none) := fun h => Lib.hid (Hres.out.1 h)
      cases s with
      | none =>
        have hres2 := hres1 rfl
        have hfl' : wr.cell? ⟨g, 2, none⟩ = some (.bool true) := hfl
        clear Hres hres1 hfl
        go_wp2_with fail
        go_ret2
        exact XRDecEnd.none_ (valRow_none hres2.out) rfl Hm.out
      | some p =>
        obtain ⟨R', rem'⟩ := p
        have hres2 : Hid (rdVals k R rem = some (xs, R', rem')) := Lib.hid (Hres.out.2 R' rem' rfl)
        have hfl' : wr.cell? ⟨g, 2, none⟩ = some (.bool false) := hfl
        obtain ⟨Ao, co, rfl, _, hro2⟩ := own_formU Hown.out
        have Hro2 := Lib.hid hro2
        clear Hres hres1 hfl hro2
        have hlen := Hxlk.out
        obtain ⟨⟨fs0, ht0⟩, _, hxl64⟩ := rdVals_some hres2.out HR.out
        have hrle : rem' ≤ rem := by have := ht0.2.2; omega
        have Hxl64 := Lib.hid hxl64
        rw [hlen] at Hro2 ⊢
        obtain ⟨wA, hwA⟩ : ∃ wA, wA = wr.alloc (.cells #[.slice none 0 0] 50) := ⟨_, rfl⟩
        obtain ⟨h, hh⟩ : ∃ h, h = wr.heap.size := ⟨_, rfl⟩
        have hmA : Mod (fun _ => False) wr wA := by rw [hwA]; exact (Mod.refl _ _).alloc _
        have hwh : RWr wA h none 0 0 := by rw [hwA, hh]; exact ⟨.slice none 0 0, [], Blk.new _ _ _, World.ownsRow_nil _ _ _ _, rfl, (fun _ h => by cases h), rfl, rfl⟩
        have Hwh := Lib.hid hwh; have HmA := Lib.hid hmA; have HwA := Lib.hid hwA; have Hh := Lib.hid hh
        have HroA := Lib.hid (Hro2.out.mod hmA (Nat.le_refl _) (fun _ _ h => h))
        have hszA : wr.heap.size ≤ wA.heap.size := hmA.size
        have HownA : Hid (Own w.heap.size wA 22 (.slice Ao k co) (cellsU xs)) := Lib.hid (by have h := hmA.owns Hown.out (fun _ _ h => h); rw [hlen] at h; exact h)
        have HroR := Lib.hid (Hro.out.1.mod hmA (fun h => h) (fun _ h => h))
        clear hlen ht0 hxl64 hwA hh hmA hwh Hro2
        go_wp2_with (first | (rw [← Hh.out, ← HwA.out]))
        refine (rvalues_any wr.heap.size h none 0 0 k co Ao xs wA HroA.out Hxl64.out hszA (fun h0 ad e hq => by
          obtain ⟨ad', e', hb, _⟩ := HroA.out.2 h0
          rw [e] at e'
          injection e' with e'
          subst e'
          have := Hh.out
          rcases hq with hq | hq
          · omega
          · cases hq) Hwh.out (by omega)).mono ?_
        rintro e w2 ⟨rfl, rowh, hw2, hm2, hrt2⟩
        obtain ⟨L, hL⟩ : ∃ L, L = flen (encVals xs) := ⟨_, rfl⟩
        obtain ⟨N, hN⟩ : ∃ N, N = fnum (encVals xs) := ⟨_, rfl⟩
        rw [← hL, ← hN, Nat.zero_add, Nat.zero_mul, Nat.zero_add] at hw2
        have hLb : L ≤ 64 + 77 * k := by rw [hL, ← Hxlk.out]; exact encVals_len xs
        have hsmR : R' < 2 ^ rem' := by obtain ⟨⟨_, ht1⟩, _⟩ := rdVals_some hres2.out HR.out; exact ht1.2.1
        have HsmR := Lib.hid hsmR
        clear hsmR
        have hgw : g < wr.heap.size := by have := hgl.out; have := Hm.out.size; omega
        have hrw : row < wr.heap.size := by have := Hrow.out; have := Hm.out.size; omega
        have hrd := HroR.out.mod hm2 (fun e => by have := Hh.out; rcases e with e | e; omega; cases e) (fun _ e => by have := Hh.out; rcases e with e | e; omega; cases e)
        have Hm02 := Lib.hid (Hm.out.trans (HmA.out.trans hm2 (fun i hi e => by have := Hh.out; rcases e with e | e; omega; cases e)) (fun _ _ h => h.elim))
        have Hown2 : Hid (Own w.heap.size w2 22 (.slice Ao k co) (cellsU xs)) := Lib.hid (hm2.owns HownA.out (fun q hq e => by
          have hlt := (Hown.out.block q (by have h1 := Hxlk.out; rw [h1]; exact hq)).2
          have := Hh.out
          rcases e with e | e
          · omega
          · cases e))
        obtain ⟨Ax, cx, hx0⟩ := hw2.len
        have Hval := Lib.hid (valRow_if hres2.out)
        have HL := Lib.hid hL; have HNN := Lib.hid hN
        have Hrd := Lib.hid hrd; have Hw2 := Lib.hid hw2
        obtain ⟨A1, n1, c1, at1, hblk1, hsees, hne1, h81, hn1, hlt1, hok1, _⟩ := hrd
        obtain ⟨hat1, hR1⟩ := hok1 rfl
        have hn1l := hsees.1
        rw [cells8_length] at hn1l
        have hc1 := hblk1.cell 1
        simp at hc1
        obtain ⟨dl, hdl⟩ : ∃ dl, dl = rem - rem' := ⟨_, rfl⟩
        have hdw : IntKind.i64.wrap ((at1 : Int) - (fr : Int)) = (dl : Int) := by
          have := Hfr.out
          rw [IntWalk.i64_in _ (by omega)]
          omega
        have Hdl := Lib.hid hdl; have Hsees := Lib.hid hsees; have Hblk1 := Lib.hid hblk1; have Hlt1 := Lib.hid hlt1; have Hn1 := Lib.hid hn1l; have Hn1m := Lib.hid hn1; have Hrle := Lib.hid hrle
        clear hw2 hm2 hrt2 hL hN HroR hsees hne1 h81 hlt1 hok1 hat1 hR1 hn1l hblk1 hdl Hwh HmA HwA HroA HownA Hro hszA hrle hn1
        by_cases hLd : L = dl
        · have hneb : ((L : Int) != (dl : Int)) = false := by simp; omega
          have HLd := Lib.hid hLd
          clear hLd
          go_wp2_with fail
          go_quiet (fail)
          clear hx0 hc1 hdw hneb
          obtain ⟨v0, Lb, hblkh, hownh, hrowh, hlt2, hLbl, hNb⟩ := Hw2.out
          have hal0 : Alike Lb R rem 0 := alike_zero HR.out (by rw [hLbl, HLd.out, Hdl.out]; omega)
          have Hal0 := Lib.hid hal0; have Hblkh := Lib.hid hblkh; have Hownh := Lib.hid hownh; have Hlt2 := Lib.hid hlt2; have HLbl := Lib.hid hLbl; have HNb := Lib.hid hNb
          have Hd0 : Hid (Mod (fun _ => False) w2 (w2.drewN nq)) := Lib.hid ((Mod.refl _ _).drewN nq)
          clear hblkh hownh hrowh hlt2 hLbl hNb hal0
          go_wp2_with fail
          go_loopg [15] L (fun l s15 wq => ∃ j : Nat, j + l = L ∧ s15 = .int .i64 (j : Int) ∧ Alike Lb R rem j ∧ Mod (fun _ => False) w2 wq)
          case atStart => exact ⟨0, by omega, rfl, Hal0.out, Hd0.out⟩
          case round =>
            obtain ⟨j, hjl, rfl, hal, hmq⟩ := hrel
            have Hal := Lib.hid hal; have Hmq := Lib.hid hmq; have Hjl := Lib.hid hjl
            clear hal hjl Hal0 Hd0
            by_cases hjL : j < L
            · have hx0 := (Hmq.out.blk Hblkh.out (fun h => h)).cell 0
              simp at hx0
              rcases Hownh.out.2 with ⟨hv1, hv2⟩ | ⟨gb, capb, cur, hv1, hv2⟩
              · exfalso
                have := HLbl.out
                omega
              · subst hv1
                rw [HLbl.out] at hx0
                have hcb := Hownh.out.cellAt j (by have := HLbl.out; omega)
                obtain ⟨bb, hbb⟩ : ∃ bb, Lb[j]? = some bb := ⟨Lb[j]'(by have := HLbl.out; omega), List.getElem?_eq_getElem _⟩
                have hbb2 := Hlt2.out bb (List.mem_of_getElem? hbb)
                rw [cells8_get, hbb] at hcb
                have hcb' : wr.cell? ⟨gb, j, none⟩ = some (.int .u8 (bb : Int)) := by
                  rw [hmq.cell (a := ⟨gb, j, none⟩) (World.block_lt_of_cell? w2 _ hcb) (fun h => h)]
                  exact hcb
                have hj2 : j < rem := by have := Hal.out.2.1; have := HLbl.out; omega
                obtain ⟨t, ht⟩ : ∃ t, t = fr + j := ⟨_, rfl⟩
                have ht1 : (fr : Int) + (j : Int) = (t : Int) := by omega
                have ht8 : t < 8 * n1 := by have := Hfr.out; have := Hn1.out; omega
                have hn0 : 0 < n1 := by omega
                have hseq := Hsees.out
                obtain ⟨o, rfl, hrl, hcellb⟩ := hseq.2 hn0
                obtain ⟨by_, hby⟩ : ∃ by_, bs[t / 8]? = some by_ := ⟨bs[t / 8]'(by have := Hn1.out; omega), List.getElem?_eq_getElem _⟩
                have hcc := hcellb (t / 8) (.int .u8 (by_ : Int)) (by rw [cells8_get, hby]; rfl)
                have hcc' : wr.cell? ⟨row, o + t / 8, none⟩ = some (.int .u8 (by_ : Int)) := by
                  rw [hmq.cell (a := ⟨row, o + t / 8, none⟩) hrl (fun h => h)]
                  exact hcc
                have hby256 : by_ < 256 := Hlt1.out by_ (List.mem_of_getElem? hby)
                have hg0 := (Hmq.out.blk Hblk1.out (fun h => h)).cell 0
                simp at hg0
                obtain ⟨q, hq⟩ : ∃ q, q = t / 8 := ⟨_, rfl⟩
                obtain ⟨r8, hr8⟩ : ∃ r8, r8 = t % 8 := ⟨_, rfl⟩
                rw [← hq] at hcc'
                have ha1 : (t : Int) / 8 = (q : Int) := by omega
                have ha2 : (t : Int).tdiv 8 = (q : Int) := by rw [Int.tdiv_eq_ediv_of_nonneg (by omega)]; omega
                have ha3 : (t : Int).tmod 8 = (r8 : Int) := by rw [Int.tmod_eq_emod_of_nonneg (by omega)]; omega
                obtain ⟨f, hf⟩ : ∃ f, f = 7 - r8 := ⟨_, rfl⟩
                have hw7 : IntKind.i64.wrap (7 - (r8 : Int)) = (f : Int) := by rw [IntWalk.i64_in _ (by omega)]; omega
                have hw8 : IntKind.u64.wrap (f : Int) = (f : Int) := by rw [IntKind.wrap_u64]; omega
                have hwq : IntKind.i64.wrap (q : Int) = (q : Int) := IntWalk.i64_in _ (by have := Hn1m.out; omega)
                have hmin : min f 8 = f := by omega
                have hq0 : (0 : Int) ≤ (q : Int) := by omega
                have hq1 : (q : Int) < (n1 : Int) := by omega
                have hj0 : (0 : Int) ≤ (j : Int) := by omega
                have hjL' : (j : Int) < (L : Int) := by omega
                obtain ⟨cc, hcv⟩ : ∃ cc, cc = by_ / 2 ^ f % 2 := ⟨_, rfl⟩
                have hbit : bits .and .u8 ((by_ : Int) / 2 ^ f) 1 = (cc : Int) := by
                  have e : (by_ : Int) / 2 ^ f = ((by_ / 2 ^ f : Nat) : Int) := by simp
                  have h1 := Nat.div_le_self by_ (2 ^ f)
                  rw [e, hcv]
                  generalize by_ / 2 ^ f = x at *
                  have h2 := u8_and_nat x 1 (by omega) (by decide)
                  rw [nat_mask1] at h2
                  exact h2
                have hread := read_bit (bs := bs) (n := n1) (a := t) (r := rem - j) (b := by_) (R := R) (rem := rem) (i := j) Hn1.out Hlt1.out Hfr.out.2.1 rfl hj2 (by have := Hfr.out; have := Hn1.out; omega) hby
                rw [← hr8, ← hf, ← hcv] at hread
                have Hread := Lib.hid hread; have Hbb := Lib.hid hbb
                have ht3 : t ≤ 8000000 := by have := Hn1m.out; omega
                clear hcb hbb ht hseq hcellb hby hcc hq hr8 hf hcv hread hmq hv2
                by_cases hbc : bb = cc
                · have hneb : ((bb : Int) != (cc : Int)) = false := by simp; omega
                  have HA2 : Hid (Alike Lb R rem (j + 1)) := Lib.hid (alike_more Hal.out Hbb.out Hread.out hbc)
                  clear hbc
                  go_wp2_with fail
                  go_quiet (fail)
                  have Hm3 : Hid (Mod (fun _ => False) w2 (wr.drewN nq)) := Lib.hid (Hmq.out.drewN nq)
                  go_wp2_with fail
                  go_roundg (gk - 1)
                  case measure => have := Hjl.out; omega
                  case rel => exact ⟨j + 1, by have := Hjl.out; omega, by go_num, HA2.out, Hm3.out⟩
                · have hneb : ((bb : Int) != (cc : Int)) = true := by simp; omega
                  have hnone : Hid (valRow k R rem = none) := Lib.hid (by
                    rw [Hval.out, if_neg]
                    rintro ⟨_, e2⟩
                    have h := alike_not Hlt2.out Hal.out Hbb.out Hread.out hbc
                    rw [HNb.out, HLbl.out, HNN.out, e2] at h
                    exact h (by rw [show rem - L = rem' by have := HLd.out; have := Hdl.out; have := Hrle.out; omega]))
                  clear hbc
                  go_wp2_with fail
                  go_quiet (fail)
                  go_wp2_with fail
                  go_ret2
                  exact XRDecEnd.none_ hnone.out rfl ((Hm02.out.trans Hmq.out (fun _ _ h => h.elim)).drewN _)
            · obtain rfl : j = L := by have := Hjl.out; omega
              obtain ⟨Ax2, cx2, hx0⟩ := (Hw2.out.mod Hmq.out (fun h => h) (fun _ _ h => h)).len
              have hsome : Hid (valRow k R rem = some (xs, R', rem')) := Lib.hid (by
                rw [Hval.out, if_pos]
                refine ⟨by rw [← HL.out]; have := HLd.out; have := Hdl.out; have := Hrle.out; omega, ?_⟩
                have h := Hal.out
                rw [← HLbl.out] at h
                have h2 := alike_all h
                rw [HNb.out, HLbl.out, HNN.out] at h2
                rw [h2, show rem - j = rem' by have := HLd.out; have := Hdl.out; have := Hrle.out; omega])
              go_wp2_with fail
              go_ret2
              unfold XRDecEnd
              rw [hsome.out]
              exact ⟨_, rfl, Hmq.out.owns Hown2.out (fun _ _ h => h), ⟨Hrd.out.mod Hmq.out (fun h => h) (fun _ h => h), HsmR.out⟩, Hm02.out.trans Hmq.out (fun _ _ h => h.elim)⟩
        · have hneb : ((L : Int) != (dl : Int)) = true := by simp; omega
          have hnone : Hid (valRow k R rem = none) := Lib.hid (by
            rw [Hval.out, if_neg]
            rintro ⟨e1, _⟩
            rw [← HL.out] at e1
            exact hLd (by rw [Hdl.out]; omega))
          clear hLd
          go_wp2_with fail
          go_quiet (fail)
          go_wp2_with fail
          go_ret2
          exact XRDecEnd.none_ hnone.out rfl (Hm02.out.drewN _)
end Go.Proofs.YtmcemeofkjfhhaaGreatDoor

/- The document's own answer: bytes are read as values by their least. -/
namespace Go.Proofs.YtmcemeofkjfhhaaGreatDoor
open Go.RowKit

/-- Encode, then string(..) of what it answers: the document's own. -/
theorem rpenc_at (A : Option Addr) (n cap B : Nat) (us : List Nat) (s : ByteArray) (w : World) (hs : Rds w B A n (cellsU us)) (hB : B ≤ w.heap.size) (hu : ∀ x ∈ us, x < 2 ^ 64) (hn : n ≤ 1000000) (hss : strOf (encP us) = s) :
    Calls Tryz.prog 36 #[.slice A n cap] w fun e w' => ∃ A' n' c', e = .returned (.slice A' n' c') ∧ (convert 29 9 (.slice A' n' c')).run Tryz.prog w' = .ok (.string s) w' ∧ Mod (fun _ => False) w w' := by
  subst hss
  refine (rpenc_any A n cap B us w hs hB hu hn).mono ?_
  rintro e w' ⟨v, rfl, ho, hm⟩
  obtain ⟨A', c', rfl, _, _, hr⟩ := own_form8 ho
  exact ⟨A', _, c', rfl, conv_rds Tryz.underlying29 Tryz.underlying5 Tryz.underlying9 w' hr (encP_256 us), hm⟩
/-- i of the numbers have the least added. -/
def mixL (lo i : Nat) (l : List Nat) : List Nat := addL lo (l.take i) ++ l.drop i
theorem mixL_len {lo i : Nat} {l : List Nat} : (mixL lo i l).length = l.length := by
  unfold mixL
  rw [List.length_append, addL_len, List.length_take, List.length_drop]
  omega
theorem mixL_zero (lo : Nat) (l : List Nat) : mixL lo 0 l = l := by unfold mixL addL; simp
theorem mixL_all {lo i : Nat} {l : List Nat} (h : l.length ≤ i) : mixL lo i l = addL lo l := by
  unfold mixL
  rw [List.take_of_length_le h, List.drop_of_length_le h, List.append_nil]
theorem mixL_at {lo i x : Nat} {l : List Nat} (h : l[i]? = some x) : (mixL lo i l)[i]? = some x := by
  have hi := (List.getElem?_eq_some_iff.1 h).1
  have hl : (addL lo (l.take i)).length = i := by rw [addL_len, List.length_take]; omega
  unfold mixL
  rw [List.getElem?_append_right (by omega), hl, Nat.sub_self, List.getElem?_drop, Nat.add_zero]
  exact h
theorem mixL_set {lo i x : Nat} {l : List Nat} (h : l[i]? = some x) : (mixL lo i l).set i ((x + lo) % 2 ^ 64) = mixL lo (i + 1) l := by
  have hi := (List.getElem?_eq_some_iff.1 h).1
  have hl : (addL lo (l.take i)).length = i := by rw [addL_len, List.length_take]; omega
  unfold mixL
  rw [List.set_append_right _ _ (by omega), hl, Nat.sub_self, drop_at' h, List.set_cons_zero, take_succ_of h, addL_snoc, List.append_assoc]
  rfl
theorem decP_bad {N : Nat} {bs : List Nat} (hN : ¬ N = 0) (h : (dec bs).2 = 0 ∨ bs.length ≤ (dec bs).2 ∨ 64 < bs.getD (dec bs).2 0) : decP N bs = none := by
  unfold decP
  rw [if_neg hN, if_pos h]
theorem decP_good {N lo a sz : Nat} {bs : List Nat} (hN : ¬ N = 0) (hlo : (dec bs).1 = lo) (ha : (dec bs).2 = a) (hsz : bs.getD a 0 = sz) (h0 : ¬ a = 0) (hn : a < bs.length) (h64 : sz ≤ 64) :
    decP N bs = if encP (addL lo (rdW sz N (some (val (bs.drop (a + 1)), 8 * (bs.drop (a + 1)).length)))) = bs then some (addL lo (rdW sz N (some (val (bs.drop (a + 1)), 8 * (bs.drop (a + 1)).length)))) else none := by
  have e : outP N bs = addL lo (rdW sz N (some (val (bs.drop (a + 1)), 8 * (bs.drop (a + 1)).length))) := by
    unfold outP
    rw [ha, hsz, hlo]
    rfl
  unfold decP
  rw [if_neg hN, if_neg (by rw [ha, hsz]; omega), e]
set_option maxHeartbeats 4000000 in
set_option maxRecDepth 100000 in
theorem rpdec_any (A : Option Addr) (n cap B N : Nat) (m : Int) (bs : List Nat) (w : World) (hs : Rds w B A n (cells8 bs)) (hB : B ≤ w.heap.size) (hlt : lt256 bs) (hnc : n ≤ cap) (hcm : cap ≤ maxLen) (hn : n ≤ 1000000) (hN : max 0 (min m 65535) = (N : Int)) :
    Calls Tryz.prog 60 #[.slice A n cap, .int .i64 m] w fun e w' => EncE w w' (decP N bs) e := by
  have hul : bs.length = n := by have := hs.1; rwa [cells8_length] at this
  have hN65 : N ≤ 65535 := by omega
  have Hheld := Lib.hid (fun W => rheld_any m N W hN)
  clear hN
  by_cases hN0 : N = 0
  · subst hN0
    have hdec : decP 0 bs = if bs = [] then some [] else none := by unfold decP; rw [if_pos rfl]
    by_cases hn0 : n = 0
    · obtain rfl := List.eq_nil_of_length_eq_zero (hul.trans hn0)
      have Hd := Lib.hid hdec
      have hnb : ((n : Int) == 0) = true := by simp; omega
      clear hs hdec
      go_enter Tryz.func60, Tryz.ntmps60
      go_wp2_with fail
      refine (Hheld.out _).mono ?_
      rintro e w' ⟨rfl, rfl⟩
      go_wp2_with fail
      go_ret2
      rw [Hd.out]
      exact ⟨_, rfl, Own.nil _ _ _, Mod.refl _ _⟩
    · have hne : ¬ bs = [] := by rintro rfl; exact hn0 hul.symm
      have Hd : Hid (decP 0 bs = none) := Lib.hid (by rw [hdec, if_neg hne])
      have hnb : ((n : Int) == 0) = false := by simp; omega
      clear hs hdec hne hul
      go_enter Tryz.func60, Tryz.ntmps60
      go_wp2_with fail
      refine (Hheld.out _).mono ?_
      rintro e w' ⟨rfl, rfl⟩
      go_wp2_with fail
      go_ret2
      rw [Hd.out]
      exact ⟨rfl, Mod.refl _ _⟩
  · have hNb : ((N : Int) == 0) = false := by simp; omega
    have hcall := vrget_any A n cap B bs w hs hlt (by omega)
    obtain ⟨lo, hlo⟩ : ∃ lo, (dec bs).1 = lo := ⟨_, rfl⟩
    obtain ⟨a, ha⟩ : ∃ a, (dec bs).2 = a := ⟨_, rfl⟩
    rw [hlo, ha] at hcall
    have Hcall := Lib.hid hcall
    have Hlo := Lib.hid hlo; have Ha := Lib.hid ha; have Hlt := Lib.hid hlt; have HB := Lib.hid hB; have Hul := Lib.hid hul; have Hcm := Lib.hid hcm; have Hs := Lib.hid hs
    have hlo64 : Hid (lo < 2 ^ 64) := Lib.hid (by rw [← hlo]; exact dec_lt hlt)
    clear hcall hlo ha hlt hB hul hs hcm
    by_cases ha0 : a = 0
    · have hab : ((a : Int) == 0) = true := by simp; omega
      have Hd : Hid (decP N bs = none) := Lib.hid (decP_bad hN0 (.inl (by rw [Ha.out]; exact ha0)))
      clear Hs ha0
      go_enter Tryz.func60, Tryz.ntmps60
      go_wp2_with fail
      refine (Hheld.out _).mono ?_
      rintro e w' ⟨rfl, rfl⟩
      go_wp2_with fail
      refine Hcall.out.mono ?_
      rintro e w' ⟨rfl, rfl⟩
      go_wp2_with fail
      go_ret2
      rw [Hd.out]
      exact ⟨rfl, Mod.refl _ _⟩
    · have hab : ((a : Int) == 0) = false := by simp; omega
      by_cases han : n ≤ a
      · have hani : (n : Int) ≤ (a : Int) := by omega
        have Hd : Hid (decP N bs = none) := Lib.hid (decP_bad hN0 (.inr (.inl (by rw [Ha.out, Hul.out]; exact han))))
        clear Hs ha0 han
        go_enter Tryz.func60, Tryz.ntmps60
        go_wp2_with fail
        refine (Hheld.out _).mono ?_
        rintro e w' ⟨rfl, rfl⟩
        go_wp2_with fail
        refine Hcall.out.mono ?_
        rintro e w' ⟨rfl, rfl⟩
        go_wp2_with fail
        go_ret2
        rw [Hd.out]
        exact ⟨rfl, Mod.refl _ _⟩
      · have hani : (a : Int) < (n : Int) := by omega
        have ha0i : (0 : Int) ≤ (a : Int) := by omega
        obtain ⟨ad, u, rfl, hadb, hu, hcu⟩ := Hs.out.at_ (show a < n by omega)
        rw [cells8_get] at hu
        obtain ⟨sz, hsz, rfl⟩ := Option.map_eq_some_iff.1 hu
        have hsz256 : sz < 256 := Hlt.out sz (List.mem_of_getElem? hsz)
        have Hsz : Hid (bs.getD a 0 = sz) := Lib.hid (by rw [List.getD_eq_getElem?_getD, hsz]; rfl)
        by_cases h64 : 64 < sz
        · have h64i : (64 : Int) < (sz : Int) := by omega
          have Hd : Hid (decP N bs = none) := Lib.hid (decP_bad hN0 (.inr (.inr (by rw [Ha.out, Hsz.out]; exact h64))))
          clear Hs ha0 han hu hsz hadb
          go_enter Tryz.func60, Tryz.ntmps60
          go_wp2_with fail
          refine (Hheld.out _).mono ?_
          rintro e w' ⟨rfl, rfl⟩
          go_wp2_with fail
          refine Hcall.out.mono ?_
          rintro e w' ⟨rfl, rfl⟩
          go_wp2_with fail
          go_ret2
          rw [Hd.out]
          exact ⟨rfl, Mod.refl _ _⟩
        · have hsz64 : sz ≤ 64 := by omega
          have h64i : ¬ (64 : Int) < (sz : Int) := by omega
          obtain ⟨p, hp⟩ : ∃ p, p = a + 1 := ⟨_, rfl⟩
          have hpi : (a : Int) + 1 = (p : Int) := by omega
          have hpn : p ≤ n := by omega
          obtain ⟨A1, hA1⟩ : ∃ A1, (if cap = p then some ad else some (ad.add p)) = A1 := ⟨_, rfl⟩
          have hr1 : Rds w B A1 (n - p) (cells8 (bs.drop p)) := by
            have h := Hs.out.drop hpn hnc
            rw [show (cells8 bs).drop p = cells8 (bs.drop p) by simp [cells8, List.map_drop]] at h
            rw [← hA1]
            exact h
          have hw0 : 0 < w.heap.size := (Hs.out.some_mem HB.out (by omega)).1
          have hlt2 : lt256 (bs.drop p) := fun b hb => Hlt.out b (List.mem_of_mem_drop hb)
          obtain ⟨raw, hraw⟩ : ∃ raw, raw = rdW sz N (some (val (bs.drop p), 8 * (bs.drop p).length)) := ⟨_, rfl⟩
          have Hrl : Hid (raw.length = N) := Lib.hid (by rw [hraw, rdW_len])
          obtain ⟨V, hV⟩ : ∃ V, V = addL lo raw := ⟨_, rfl⟩
          have HV64 : Hid (∀ x ∈ V, x < 2 ^ 64) := Lib.hid (by rw [hV]; exact addL_lt _ _)
          have Hdec : Hid (decP N bs = if encP V = bs then some V else none) := Lib.hid (by
            have h := decP_good (N := N) hN0 Hlo.out Ha.out Hsz.out ha0 (by rw [Hul.out]; omega) hsz64
            rw [← hp, ← hraw, ← hV] at h
            exact h)
          have hunp := fun c W (hW : Mod (fun _ => False) w W) => runpack_any A1 (n - p) c B N sz (bs.drop p) W (hr1.mod hW HB.out (fun _ _ h => h)) (Nat.le_trans HB.out hW.size) hlt2 (by omega) hN65 hsz64 (Nat.lt_of_lt_of_le hw0 hW.size)
          rw [← hraw] at hunp
          have hpci : (p : Int) ≤ (cap : Int) := by omega
          have hpni : (p : Int) ≤ (n : Int) := by omega
          have hp0 : (0 : Int) ≤ (p : Int) := by omega
          have Hunp := Lib.hid hunp; have HV := Lib.hid hV; have Hcell : Hid (∀ W, Mod (fun _ => False) w W → W.cell? (ad.add a) = some (.int .u8 (sz : Int))) := Lib.hid (fun W hW => (hW.cell (a := ad.add a) (by rw [add_block]; have := HB.out; omega) (fun h => h)).trans hcu)
          clear hu hsz hr1 hw0 hlt2 hraw hV hunp hp ha0 han h64 hadb Hsz
          go_enter Tryz.func60, Tryz.ntmps60
          go_wp2_with fail
          refine (Hheld.out _).mono ?_
          rintro e w' ⟨rfl, rfl⟩
          go_wp2_with fail
          refine Hcall.out.mono ?_
          rintro e w' ⟨rfl, rfl⟩
          go_upto_region 7 with fail
          have S0 : Hid (Mod (fun _ => False) w w.drew) := Lib.hid (Mod.refl _ _).drew
          go_cut [8] (fun s8 wc => ∃ (g8 c8 : Nat), s8 = .slice (some ⟨g8, 0, none⟩) N c8 ∧ w.heap.size ≤ g8 ∧ Own w.heap.size wc 22 (.slice (some ⟨g8, 0, none⟩) N c8) (cellsU raw) ∧ Mod (fun _ => False) w wc)
          case first =>
            clear hcu
            have hcd := Hcell.out _ S0.out
            have hwp : IntKind.i64.wrap (p : Int) = (p : Int) := IntWalk.i64_in _ (by omega)
            have hws : IntKind.i64.wrap (sz : Int) = (sz : Int) := IntWalk.i64_in _ (by omega)
            go_region_held_law (fun w' => w'.cell? (ad.add a) = some (.int .u8 (sz : Int))) (first | exact Hcell.out _ S1.out | exact Hcell.out _ S0.out)
              (first
                | (go_at_call 96; refine (Hunp.out _ _ S0.out).mono ?_; rintro e w1 ⟨v1, rfl, ho1, hm1⟩; have S1 : Hid (Mod (fun _ => False) w w1) := Lib.hid (S0.out.trans hm1 (fun _ _ h => h)); have O1 : Hid (Own w.heap.size w1 22 v1 (cellsU raw)) := Lib.hid ho1; clear ho1 hm1))
            all_goals
              obtain ⟨g8, c8, rfl, hg8, _⟩ := O1.out.form' (by rw [cellsU_length, Hrl.out]; omega)
              have hO1 := O1.out
              rw [cellsU_length, Hrl.out] at hO1 ⊢
              have HO1 := Lib.hid hO1; have Hg8 := Lib.hid hg8
              clear hO1 hg8 O1
              go_wp2_with fail
              go_meet
              exact ⟨_, _, rfl, Hg8.out, HO1.out, S1.out⟩
          case rest =>
            obtain ⟨g8, c8, rfl, hg8, hown, hm1⟩ := hcut
            have Hg8 := Lib.hid hg8
            have M0 : Hid (Own w.heap.size wc 22 (.slice (some ⟨g8, 0, none⟩) N c8) (cellsU (mixL lo 0 raw)) ∧ Mod (fun _ => False) w wc) := Lib.hid ⟨by rw [mixL_zero]; exact hown, hm1⟩
            clear hg8 hown hm1 hcu S0
            go_wp2_with fail
            go_loopg [9] N (fun l s9 wr => ∃ i : Nat, i + l = N ∧ s9 = .int .i64 (i : Int) ∧ Own w.heap.size wr 22 (.slice (some ⟨g8, 0, none⟩) N c8) (cellsU (mixL lo i raw)) ∧ Mod (fun _ => False) w wr)
            case atStart => exact ⟨0, by omega, rfl, M0.out⟩
            case round =>
              obtain ⟨i, hil, rfl, hown, hm⟩ := hrel
              have Hown := Lib.hid hown; have Hm := Lib.hid hm; have Hil := Lib.hid hil
              clear hown hm hil M0
              by_cases hin : i < N
              · obtain ⟨x, hx⟩ : ∃ x, raw[i]? = some x := ⟨raw[i]'(by rw [Hrl.out]; exact hin), List.getElem?_eq_getElem _⟩
                obtain ⟨y, hy⟩ : ∃ y, y = (x + lo) % 2 ^ 64 := ⟨_, rfl⟩
                have hml : (mixL lo i raw).length = N := by rw [mixL_len, Hrl.out]
                obtain ⟨_, hfz, hset⟩ := own_setU (b := y) Hown.out hml.symm hin
                have hcx : wr.cell? ⟨g8, i, none⟩ = some (.int .u64 (x : Int)) := by
                  rw [Hown.out.cell' rfl i (by rw [cellsU_length, hml]; exact hin), cellsU_get, mixL_at hx]
                  rfl
                rw [hy, mixL_set hx, ← hy] at hset
                have hxr : x < 2 ^ 64 ∨ True := .inr trivial
                clear hxr
                have hyw : IntKind.u64.wrap ((x : Int) + (lo : Int)) = (y : Int) := by rw [IntKind.wrap_u64]; omega
                have Hset := Lib.hid hset
                have hi0 : (0 : Int) ≤ (i : Int) := by omega
                have hiN : (i : Int) < (N : Int) := by omega
                clear hx hy hml hset
                go_wp2_with fail
                go_roundg (gk - 1)
                case measure => have := Hil.out; omega
                case rel => exact ⟨i + 1, by have := Hil.out; omega, by go_num, Hset.out, Hm.out.setCell (fun h => absurd h (by have := Hg8.out; simp; omega)) _⟩
              · have hi : i = N := by have := Hil.out; omega
                subst hi
                have hown := Hown.out
                rw [mixL_all (by rw [Hrl.out]; exact Nat.le_refl _), ← HV.out] at hown
                have HownV := Lib.hid hown
                have Hr8 : Hid (Rds wr wr.heap.size (some ⟨g8, 0, none⟩) i (cellsU V)) := Lib.hid (Own.rds hown (by rw [HV.out, addL_len, Hrl.out]))
                obtain ⟨s1, hs1⟩ : ∃ s1, strOf (encP V) = s1 := ⟨_, rfl⟩
                obtain ⟨s2, hs2⟩ : ∃ s2, strOf bs = s2 := ⟨_, rfl⟩
                have HCV : Hid (∀ W, Mod (fun _ => False) w W → (convert 29 9 (.slice (some ad) n cap)).run Tryz.prog W = .ok (.string s2) W) := Lib.hid (fun W hW => by
                  rw [← hs2]
                  exact conv_rds Tryz.underlying29 Tryz.underlying5 Tryz.underlying9 W (Hs.out.mod hW HB.out (fun _ _ h => h)) Hlt.out)
                have Hfr : Hid (∀ W c, Mod (fun _ => False) wr W → Calls Tryz.prog 36 #[.slice (some ⟨g8, 0, none⟩) i c] W fun e w' => ∃ A' n' c', e = .returned (.slice A' n' c') ∧ (convert 29 9 (.slice A' n' c')).run Tryz.prog w' = .ok (.string s1) w' ∧ Mod (fun _ => False) W w') := Lib.hid (fun W c hW => rpenc_at _ i c _ V s1 W (Hr8.out.new hW) hW.size HV64.out (by omega) hs1)
                obtain ⟨b, hb⟩ : ∃ b, decide (encP V = bs) = b := ⟨_, rfl⟩
                obtain ⟨hq, hq'⟩ := str_ne hs1 hs2 (encP_256 V) Hlt.out hb
                have Hb := Lib.hid hb
                have S0 : Hid (Mod (fun _ => False) wr wr.drew) := Lib.hid (Mod.refl _ _).drew
                clear hs1 hs2 hb hown Hown
                go_upto_region 12 with fail
                go_cut [67] (fun s67 wc => s67 = .bool (!b) ∧ Mod (fun _ => False) wr wc)
                case first =>
                  have cv0 := HCV.out _ (Hm.out.trans S0.out (fun _ _ h => h))
                  go_region_held_law (fun w' => Mod (fun _ => False) wr w') (first | exact S1.out | exact S0.out)
                    (first
                      | (go_at_call 36; refine (Hfr.out _ _ S0.out).mono ?_; rintro e w5 ⟨A5, n5, c5, rfl, hcv, hm5⟩; have S1 : Hid (Mod (fun _ => False) wr w5) := Lib.hid (S0.out.trans hm5 (fun _ _ h => h)); have cv5 := HCV.out _ (Hm.out.trans S1.out (fun _ _ h => h)); clear hm5))
                  all_goals
                    go_wp2_with fail
                    go_meet
                    exact ⟨rfl, S1.out⟩
                case rest =>
                  obtain ⟨rfl, hm7⟩ := hcut
                  have Hm7 := Lib.hid (Hm.out.trans hm7 (fun _ _ h => h)); have Hown7 := Lib.hid (HownV.out.mod hm7)
                  clear hm7 hq hq' S0
                  cases b with
                  | true =>
                    have Hd : Hid (decP i bs = some V) := Lib.hid (by rw [Hdec.out, if_pos (of_decide_eq_true Hb.out)])
                    go_wp2_with fail
                    go_ret2
                    rw [Hd.out]
                    exact ⟨_, rfl, Hown7.out, Hm7.out⟩
                  | false =>
                    have Hd : Hid (decP i bs = none) := Lib.hid (by rw [Hdec.out, if_neg (of_decide_eq_false Hb.out)])
                    go_wp2_with fail
                    go_ret2
                    rw [Hd.out]
                    exact ⟨rfl, Hm7.out⟩
end Go.Proofs.YtmcemeofkjfhhaaGreatDoor

/- The document's own answer: bytes are read as values by their list. -/
namespace Go.Proofs.YtmcemeofkjfhhaaGreatDoor
open Go.RowKit Go.Maps

/-- What GetDict has laid of i values. -/
def ROutTo (wB wr : World) (l raw : List Nat) (i : Nat) (v : Value) : Prop :=
  Own wB.heap.size wr 22 v (cellsU (outD l (raw.take i))) ∧ (∀ j ∈ raw.take i, j < l.length) ∧ Mod (fun _ => False) wB wr
theorem decD_bad {N : Nat} {bs : List Nat} (hN : ¬ N = 0) (h : (dec bs).2 = 0 ∨ (dec bs).1 = 0 ∨ 256 < (dec bs).1) : decD N bs = none := by
  unfold decD
  rw [if_neg hN, if_pos h]
set_option maxHeartbeats 4000000 in
set_option maxRecDepth 100000 in
theorem rddec_any (A : Option Addr) (n cap B N : Nat) (m : Int) (bs : List Nat) (w : World) (hs : Rds w B A n (cells8 bs)) (hB : B ≤ w.heap.size) (hlt : lt256 bs) (hnc : n ≤ cap) (hcm : cap ≤ maxLen) (hn : n ≤ 1000000) (hN : max 0 (min m 65535) = (N : Int)) :
    Calls Tryz.prog 61 #[.slice A n cap, .int .i64 m] w fun e w' => EncE w w' (decD N bs) e := by
  have hul : bs.length = n := by have := hs.1; rwa [cells8_length] at this
  have hN65 : N ≤ 65535 := by omega
  have Hheld := Lib.hid (fun W => rheld_any m N W hN)
  clear hN
  by_cases hN0 : N = 0
  · subst hN0
    have hdec : decD 0 bs = if bs = [] then some [] else none := by unfold decD; rw [if_pos rfl]
    by_cases hn0 : n = 0
    · obtain rfl := List.eq_nil_of_length_eq_zero (hul.trans hn0)
      have Hd := Lib.hid hdec
      have hnb : ((n : Int) == 0) = true := by simp; omega
      clear hs hdec
      go_enter Tryz.func61, Tryz.ntmps61
      go_wp2_with fail
      refine (Hheld.out _).mono ?_
      rintro e w' ⟨rfl, rfl⟩
      go_wp2_with fail
      go_ret2
      rw [Hd.out]
      exact ⟨_, rfl, Own.nil _ _ _, Mod.refl _ _⟩
    · have hne : ¬ bs = [] := by rintro rfl; exact hn0 hul.symm
      have Hd : Hid (decD 0 bs = none) := Lib.hid (by rw [hdec, if_neg hne])
      have hnb : ((n : Int) == 0) = false := by simp; omega
      clear hs hdec hne hul
      go_enter Tryz.func61, Tryz.ntmps61
      go_wp2_with fail
      refine (Hheld.out _).mono ?_
      rintro e w' ⟨rfl, rfl⟩
      go_wp2_with fail
      go_ret2
      rw [Hd.out]
      exact ⟨rfl, Mod.refl _ _⟩
  · have hNb : ((N : Int) == 0) = false := by simp; omega
    have hcall := vrget_any A n cap B bs w hs hlt (by omega)
    obtain ⟨K, hK⟩ : ∃ K, (dec bs).1 = K := ⟨_, rfl⟩
    obtain ⟨p, hp⟩ : ∃ p, (dec bs).2 = p := ⟨_, rfl⟩
    rw [hK, hp] at hcall
    have Hcall := Lib.hid hcall
    clear hcall
    by_cases hbad : p = 0 ∨ K = 0 ∨ 256 < K
    · have Hd : Hid (decD N bs = none) := Lib.hid (decD_bad hN0 (by rw [hK, hp]; exact hbad))
      clear hs hK hp
      have hways : p = 0 ∨ ¬ p = 0 ∧ (K = 0 ∨ ¬ K = 0 ∧ 256 < K) := by omega
      clear hbad
      rcases hways with h1 | ⟨h1, h2 | ⟨h2, h3⟩⟩
      · have hb1 : ((p : Int) == 0) = true := by simp; omega
        go_enter Tryz.func61, Tryz.ntmps61
        go_wp2_with fail
        refine (Hheld.out _).mono ?_
        rintro e w' ⟨rfl, rfl⟩
        go_wp2_with fail
        refine Hcall.out.mono ?_
        rintro e w' ⟨rfl, rfl⟩
        go_wp2_with fail
        go_ret2
        rw [Hd.out]
        exact ⟨rfl, Mod.refl _ _⟩
      · have hb1 : ((p : Int) == 0) = false := by simp; omega
        have hb2 : ((K : Int) == 0) = true := by simp; omega
        go_enter Tryz.func61, Tryz.ntmps61
        go_wp2_with fail
        refine (Hheld.out _).mono ?_
        rintro e w' ⟨rfl, rfl⟩
        go_wp2_with fail
        refine Hcall.out.mono ?_
        rintro e w' ⟨rfl, rfl⟩
        go_wp2_with fail
        go_ret2
        rw [Hd.out]
        exact ⟨rfl, Mod.refl _ _⟩
      · have hb1 : ((p : Int) == 0) = false := by simp; omega
        have hb2 : ((K : Int) == 0) = false := by simp; omega
        have hb3 : (256 : Int) < (K : Int) := by omega
        go_enter Tryz.func61, Tryz.ntmps61
        go_wp2_with fail
        refine (Hheld.out _).mono ?_
        rintro e w' ⟨rfl, rfl⟩
        go_wp2_with fail
        refine Hcall.out.mono ?_
        rintro e w' ⟨rfl, rfl⟩
        go_wp2_with fail
        go_ret2
        rw [Hd.out]
        exact ⟨rfl, Mod.refl _ _⟩
    · have hpn : p ≤ n := by
        rw [← hp, ← hul]
        rcases Nat.eq_zero_or_pos (dec bs).2 with h | h
        · omega
        · exact (dec_some hlt h).1
      have hb1 : ((p : Int) == 0) = false := by simp; omega
      have hb2 : ((K : Int) == 0) = false := by simp; omega
      have hb3 : ¬ (256 : Int) < (K : Int) := by omega
      obtain ⟨A1, hA1⟩ : ∃ A1, (if cap = p then A else A.map (·.add p)) = A1 := ⟨_, rfl⟩
      have hr1 : Rds w w.heap.size A1 (n - p) (cells8 (bs.drop p)) := by
        have h := (hs.more hB).drop hpn hnc
        rw [show (cells8 bs).drop p = cells8 (bs.drop p) by simp [cells8, List.map_drop]] at h
        rw [← hA1]
        exact h
      have hw0 : 0 < w.heap.size := (hs.some_mem hB (by omega)).1
      have hpi : (p : Int) ≤ (n : Int) := by omega
      have hpc : (p : Int) ≤ (cap : Int) := by omega
      have hp0 : (0 : Int) ≤ (p : Int) := by omega
      have HgL : Hid (getL bs = rdV K (bs.drop p)) := Lib.hid (by unfold getL; rw [hK, hp, if_neg (by omega)])
      have G0 : Hid (GetLTo w w (bs.drop p) 0 (.slice A1 (n - p) (cap - p)) (.slice none 0 0)) := Lib.hid ⟨A1, n - p, cap - p, [], bs.drop p, rfl, by omega, by omega, hr1, rfl, Own.nil _ _ _, Mod.refl _ _, .inl rfl⟩
      have Hlt' : Hid (lt256 (bs.drop p)) := Lib.hid (fun b hb => hlt b (List.mem_of_mem_drop hb))
      have hK2 : K ≤ 256 := by omega
      have hK1 : 1 ≤ K := by omega
      have Hs := Lib.hid hs; have Hlt := Lib.hid hlt; have HB := Lib.hid hB; have Hul := Lib.hid hul; have Hw0 := Lib.hid hw0
      clear hs hK hp hul hr1 hpn hlt hB hcm hnc hbad hw0
      go_enter Tryz.func61, Tryz.ntmps61
      go_wp2_with fail
      refine (Hheld.out _).mono ?_
      rintro e w' ⟨rfl, rfl⟩
      go_wp2_with fail
      refine Hcall.out.mono ?_
      rintro e w' ⟨rfl, rfl⟩
      go_wp2_with fail
      clear hpi hpc hp0 hA1 hb1 hb2 hb3
      go_loopg [8, 9, 10] K (fun l s8 s9 s10 wr => ∃ i : Nat, i + l = K ∧ s10 = .int .u64 (i : Int) ∧ GetLTo w wr (bs.drop p) i s8 s9)
      case atStart => exact ⟨0, by omega, rfl, G0.out⟩
      case round =>
        obtain ⟨i, hil, rfl, A0, n0, c0, l, r, rfl, hnc0, hcm0, hr0, hrd, hown, hm, hA0⟩ := hrel
        obtain ⟨hl1, hl2, hl3, hl4⟩ := rdV_some _ _ _ _ Hlt'.out hrd
        have hrl : r.length = n0 := by have := hr0.1; rwa [cells8_length] at this
        have Hr0 := Lib.hid hr0; have Hrd := Lib.hid hrd; have Hown := Lib.hid hown; have Hm := Lib.hid hm; have HA0 := Lib.hid hA0; have Hil := Lib.hid hil; have Hl1 := Lib.hid hl1; have Hl2 := Lib.hid hl2; have Hl3 := Lib.hid hl3
        have Hcm0 := Lib.hid hcm0
        have hn0 : n0 ≤ 1000000 := by
          have h := congrArg List.length hl4
          have h2 := Hul.out
          rw [List.length_drop, List.length_append] at h
          omega
        clear hr0 hrd hown hm hA0 hil G0 hl1 hl2 hl3 hl4 hcm0
        by_cases hin : i < K
        · have hcall := vrget_any A0 n0 c0 _ r wr Hr0.out Hl3.out (by unfold maxLen; omega)
          have hst := rdV_succ i (bs.drop p)
          rw [Hrd.out] at hst
          have hst' : rdV (i + 1) (bs.drop p) = if (dec r).2 = 0 then none else some (l ++ [(dec r).1], r.drop (dec r).2) := hst
          have hqr : (dec r).2 ≤ r.length := by
            rcases Nat.eq_zero_or_pos (dec r).2 with h | h
            · omega
            · exact (dec_some Hl3.out h).1
          obtain ⟨x, hx⟩ : ∃ x, (dec r).1 = x := ⟨_, rfl⟩
          obtain ⟨q, hq⟩ : ∃ q, (dec r).2 = q := ⟨_, rfl⟩
          rw [hx, hq] at hcall hst'
          rw [hq, hrl] at hqr
          have Hcall2 := Lib.hid hcall
          clear hcall hst hrl hx hq
          by_cases hq0 : q = 0
          · have hqb : ((q : Int) == 0) = true := by simp; omega
            have Hd : Hid (decD N bs = none) := Lib.hid (decD_noL hN0 (fun l rest h => by
              rw [HgL.out, rdV_none_le (hst'.trans (if_pos hq0)) (by omega)] at h
              cases h))
            clear hst' hq0 hqr
            go_wp2_with fail
            refine Hcall2.out.mono ?_
            rintro e w' ⟨rfl, rfl⟩
            go_wp2_with fail
            go_ret2
            rw [Hd.out]
            exact ⟨rfl, Hm.out⟩
          · have hqb : ((q : Int) == 0) = false := by simp; omega
            obtain ⟨A1', hA1⟩ : ∃ A1, (if c0 = q then A0 else A0.map (·.add q)) = A1 := ⟨_, rfl⟩
            have hr1 : Rds wr w.heap.size A1' (n0 - q) (cells8 (r.drop q)) := by
              have h := Hr0.out.drop hqr hnc0
              rw [show (cells8 r).drop q = cells8 (r.drop q) by simp [cells8, List.map_drop]] at h
              rw [← hA1]
              exact h
            have hA1n : A1' ≠ none := by
              obtain ⟨ad, e, _⟩ := Hr0.out.2 (by omega)
              rw [← hA1, e]
              split <;> simp
            have Hr1 := Lib.hid hr1; have HA1n := Lib.hid hA1n
            have Hst : Hid (rdV (i + 1) (bs.drop p) = some (l ++ [x], r.drop q)) := Lib.hid (hst'.trans (if_neg hq0))
            have hqi : (q : Int) ≤ (n0 : Int) := by omega
            have hqc : (q : Int) ≤ (c0 : Int) := by omega
            have hqz : (0 : Int) ≤ (q : Int) := by omega
            have hnc1 : n0 - q ≤ c0 - q := by omega
            have hcm1 : Hid (c0 - q ≤ maxLen) := Lib.hid (by have := Hcm0.out; omega)
            have hra : (cellsU l).length + 1 ≤ maxLen := by rw [cellsU_length, Hl1.out]; unfold maxLen; omega
            have hrb : ((cellsU l).length + 1) * 8 ≤ 140737488355328 := by rw [cellsU_length, Hl1.out]; omega
            have Hra := Lib.hid hra; have Hrb := Lib.hid hrb
            clear hst' hq0 hr1 hA1n hra hrb
            go_wp2_with fail
            refine Hcall2.out.mono ?_
            rintro e w' ⟨rfl, rfl⟩
            go_wp2_with (at_builtin; refine wpList_app1 rfl (.tmp 55) (.tmp 57) _ rfl eltU rfl Hown.out rfl rfl rfl Hra.out Hrb.out Hm.out.size ?_; intro v' w2 HO HBl)
            have HG : Hid (GetLTo w w2 (bs.drop p) (i + 1) (.slice A1' (n0 - q) (c0 - q)) v') := Lib.hid ⟨A1', n0 - q, c0 - q, l ++ [x], r.drop q, rfl, hnc1, hcm1.out, Hr1.out.below HBl.out, Hst.out, by rw [cellsU_snoc]; exact HO.out, Hm.out.trans (Mod.of_below HBl.out) (fun i hi h => by omega), .inr HA1n.out⟩
            clear HO HBl
            go_roundg (gk - 1)
            case measure => have := Hil.out; omega
            case rel => exact ⟨i + 1, by have := Hil.out; omega, by go_num, HG.out⟩
        · have hi : i = K := by have := Hil.out; omega
          subst hi
          obtain ⟨A6, L, c6, rfl, HL, _, hr6⟩ := own_formUN Hown.out
          obtain rfl : L = i := by have h1 := HL.out; have h2 := Hl1.out; omega
          have HgLs : Hid (getL bs = some (l, r)) := Lib.hid (HgL.out.trans Hrd.out)
          obtain ⟨S, hS⟩ : ∃ S, wid (L - 1) = S := ⟨_, rfl⟩
          have hS64 : S ≤ 64 := by rw [← hS]; exact wid_le _
          have HS' : Hid (wid (l.length - 1) = S) := Lib.hid (by rw [HL.out]; exact hS)
          obtain ⟨y, hy⟩ : ∃ y, y = L - 1 := ⟨_, rfl⟩
          have hyi : (L : Int) - 1 = (y : Int) := by omega
          have hyL : y ≤ 1000000 := by omega
          have Hwid : Hid (∀ W, Calls Tryz.prog 69 #[.int .u64 (y : Int)] W fun e w' => e = .returned (.int .i64 (S : Int)) ∧ W = w') := Lib.hid (fun W => rwidth_any y S W (by unfold Lt64; omega) (by rw [hy]; exact hS))
          obtain ⟨raw, hraw⟩ : ∃ raw, raw = rdW S N (some (val r, 8 * r.length)) := ⟨_, rfl⟩
          have Hrawl : Hid (raw.length = N) := Lib.hid (by rw [hraw, rdW_len])
          have hunp := runpack_any A0 n0 c0 _ N S r wr Hr0.out Hm.out.size Hl3.out hn0 hN65 hS64 (Nat.lt_of_lt_of_le Hw0.out Hm.out.size)
          rw [← hraw] at hunp
          have Hunp := Lib.hid hunp; have Hraw := Lib.hid hraw; have Hr6 := Lib.hid hr6
          clear hS hy hraw hunp hr6 hin Hrd Hown
          go_wp2_with fail
          refine (Hwid.out _).mono ?_
          rintro e w1 ⟨rfl, rfl⟩
          go_wp2_with fail
          refine Hunp.out.mono ?_
          rintro e wB ⟨v13, rfl, ho13, hmB⟩
          obtain ⟨A13, N13, c13, rfl, HN13, _, hr13⟩ := own_formUN ho13
          obtain rfl : N13 = N := by have := HN13.out; have := Hrawl.out; omega
          have Hr13 := Lib.hid hr13; have HmB := Lib.hid (Hm.out.trans hmB (fun _ _ h => h)); have Hr6B := Lib.hid (Hr6.out.new hmB).fit
          have O0 : Hid (ROutTo wB wB l raw 0 (.slice none 0 0)) := Lib.hid ⟨Own.nil _ _ _, (fun _ h => by cases h), Mod.refl _ _⟩
          clear ho13 hmB hr13 Hunp Hwid Hr6 hyi
          go_wp2_with fail
          go_loopg [14, 15] N13 (fun l' s14 s15 wq => ∃ j : Nat, j + l' = N13 ∧ s15 = .int .i64 (j : Int) ∧ ROutTo wB wq l raw j s14)
          case atStart => exact ⟨0, by omega, rfl, O0.out⟩
          case round =>
            obtain ⟨j, hjl, rfl, hown, hall, hm2⟩ := hrel
            have Hown := Lib.hid hown; have Hall := Lib.hid hall; have Hm2 := Lib.hid hm2; have Hjl := Lib.hid hjl
            clear hown hall hm2 hjl O0
            by_cases hjn : j < N13
            · obtain ⟨ad, x, rfl, hx, hcx⟩ := Hr13.out.at2 hjn (Nat.le_refl _) Hm2.out (fun _ _ h => h)
              have hj0 : (0 : Int) ≤ (j : Int) := by omega
              by_cases hxl : x < L
              · have hxi : ¬ (L : Int) ≤ (x : Int) := by omega
                have hxi' : (x : Int) < (L : Int) := by omega
                have hx0 : (0 : Int) ≤ (x : Int) := by omega
                obtain ⟨ad6, z, rfl, hz, hcz⟩ := Hr6B.out.at2 hxl (Nat.le_refl _) Hm2.out (fun _ _ h => h)
                have Hxo : Hid (outD l (raw.take (j + 1)) = outD l (raw.take j) ++ [z]) := Lib.hid (by rw [take_succ_of hx, outD_snoc, List.getD_eq_getElem?_getD, hz]; rfl)
                have Hall2 : Hid (∀ q ∈ raw.take (j + 1), q < l.length) := Lib.hid (by
                  rw [take_succ_of hx]
                  intro q hq
                  rcases List.mem_append.1 hq with hq | hq
                  · exact Hall.out q hq
                  · rw [List.mem_singleton.1 hq, HL.out]; exact hxl)
                have hol : (outD l (raw.take j)).length ≤ 65535 := by rw [outD_len, List.length_take]; omega
                have hra : (cellsU (outD l (raw.take j))).length + 1 ≤ maxLen := by rw [cellsU_length]; unfold maxLen; omega
                have hrb : ((cellsU (outD l (raw.take j))).length + 1) * 8 ≤ 140737488355328 := by rw [cellsU_length]; omega
                have Hra := Lib.hid hra; have Hrb := Lib.hid hrb
                have hsz := Hm2.out.size
                clear hx hz hxl hol hra hrb
                go_wp2_with (at_builtin; refine wpList_app1 rfl (.tmp 79) (.tmp 87) _ rfl eltU rfl Hown.out rfl rfl rfl Hra.out Hrb.out hsz ?_; intro v' w2 HO HBl)
                have HU : Hid (ROutTo wB w2 l raw (j + 1) v') := Lib.hid ⟨by rw [Hxo.out, cellsU_snoc]; exact HO.out, Hall2.out, Hm2.out.trans (Mod.of_below HBl.out) (fun i hi h => by omega)⟩
                clear HO HBl
                go_roundg (gk - 1)
                case measure => have := Hjl.out; omega
                case rel => exact ⟨j + 1, by have := Hjl.out; omega, by go_num, HU.out⟩
              · have hxi : (L : Int) ≤ (x : Int) := by omega
                have Hd : Hid (decD N13 bs = none) := Lib.hid (readD_far Hlt.out hN0 HgLs.out (by rw [HL.out]; omega) HS'.out (by rw [← Hraw.out]; exact hx) (by rw [HL.out]; omega))
                clear hxl hx
                go_wp2_with fail
                go_ret2
                rw [Hd.out]
                exact ⟨rfl, HmB.out.trans Hm2.out (fun _ _ h => h)⟩
            · have hjN : j = N13 := by have := Hjl.out; omega
              have htk : raw.take j = raw := List.take_of_length_le (by rw [Hrawl.out]; omega)
              obtain ⟨V, hV⟩ : ∃ V, V = outD l raw := ⟨_, rfl⟩
              have hown := Hown.out
              have hall := Hall.out
              rw [htk] at hown hall
              obtain ⟨hV1, hV2, hV3⟩ := readD_done Hlt.out hN0 HgLs.out (by rw [HL.out]; omega) HS'.out (by rw [← Hraw.out]; exact hall)
              rw [← Hraw.out, ← hV] at hV1 hV2 hV3
              rw [← hV] at hown
              obtain ⟨A14, L14, c14, rfl, HL14, _, hr14⟩ := own_formUN hown
              have Hr14 := Lib.hid hr14; have Ho14 := Lib.hid hown; have HV2 := Lib.hid hV2; have HV3 := Lib.hid hV3
              have hL14 : L14 ≤ 1000000 := by have := HL14.out; omega
              have HwB : Hid (w.heap.size ≤ wB.heap.size) := Lib.hid HmB.out.size
              have Hmr := Lib.hid (HmB.out.trans Hm2.out (fun _ _ h => h))
              clear htk hV hown hall hV1 hV2 hV3 hr14 Hown Hall hjn
              go_wp2_with fail
              refine (rdenc_any A14 L14 c14 _ V wr Hr14.out (Nat.le_refl _) HV2.out hL14).mono ?_
              intro e w5 hE
              cases he : encD V with
              | none =>
                obtain ⟨rfl, hm5⟩ := hE.none_ he
                have Hd : Hid (decD N13 bs = none) := Lib.hid (by rw [HV3.out, he, if_neg (fun e => by cases e)])
                have Hm5 := Lib.hid (Hmr.out.trans hm5 (fun _ _ h => h))
                clear hE he hm5
                go_wp2_with fail
                go_ret2
                rw [Hd.out]
                exact ⟨rfl, Hm5.out⟩
              | some cs =>
                obtain ⟨v5, rfl, ho5, hm5⟩ := hE.some_ he
                obtain ⟨A5, L5, c5, rfl, _, _, _, hr5⟩ := own_formN8 ho5
                have Hm5 := Lib.hid (Hmr.out.trans hm5 (fun _ _ h => h)); have Ho145 := Lib.hid (Ho14.out.mod hm5)
                obtain ⟨s1, hs1⟩ : ∃ s1, strOf cs = s1 := ⟨_, rfl⟩
                obtain ⟨s2, hs2⟩ : ∃ s2, strOf bs = s2 := ⟨_, rfl⟩
                obtain ⟨b, hb⟩ : ∃ b, decide (cs = bs) = b := ⟨_, rfl⟩
                obtain ⟨hq, hq'⟩ := str_ne hs1 hs2 (encD_256 he) Hlt.out hb
                have hcv1 : (convert 29 9 (.slice A5 L5 c5)).run Tryz.prog w5 = .ok (.string s1) w5 := by
                  rw [← hs1]
                  exact conv_rds Tryz.underlying29 Tryz.underlying5 Tryz.underlying9 w5 hr5 (encD_256 he)
                have hcv2 : (convert 29 9 (.slice A n cap)).run Tryz.prog w5 = .ok (.string s2) w5 := by
                  rw [← hs2]
                  exact conv_rds Tryz.underlying29 Tryz.underlying5 Tryz.underlying9 w5 (Hs.out.mod Hm5.out HB.out (fun _ _ h => h)) Hlt.out
                have Hdec : Hid (decD N13 bs = if cs = bs then some V else none) := Lib.hid (by rw [HV3.out, he]; by_cases h : cs = bs <;> simp [h])
                have Hb := Lib.hid hb
                clear hE he hm5 hr5 ho5 hs1 hs2 hb
                cases b with
                | true =>
                  have Hd : Hid (decD N13 bs = some V) := Lib.hid (by rw [Hdec.out, if_pos (of_decide_eq_true Hb.out)])
                  go_wp2_with fail
                  go_ret2
                  rw [Hd.out]
                  exact ⟨_, rfl, Ho145.out.mono HwB.out, Hm5.out⟩
                | false =>
                  have Hd : Hid (decD N13 bs = none) := Lib.hid (by rw [Hdec.out, if_neg (of_decide_eq_false Hb.out)])
                  go_wp2_with fail
                  go_ret2
                  rw [Hd.out]
                  exact ⟨rfl, Hm5.out⟩
end Go.Proofs.YtmcemeofkjfhhaaGreatDoor

/- Values read in a codec, as the document has it: read. -/
namespace Go.Proofs.YtmcemeofkjfhhaaGreatDoor
open Go.RowKit

/-- Values and true, or whatever and false. -/
def RdE (w w' : World) (o : Option (List Nat)) (e : Ending) : Prop :=
  match o with
  | some us => ∃ v, e = .returned (.tuple #[v, .bool true]) ∧ Own w.heap.size w' 22 v (cellsU us) ∧ Mod (fun _ => False) w w'
  | none => ∃ v, e = .returned (.tuple #[v, .bool false]) ∧ Mod (fun _ => False) w w'
theorem RdE.some_ {w w' : World} {o : Option (List Nat)} {us : List Nat} {e : Ending} (h : RdE w w' o e) (ho : o = some us) : ∃ v, e = .returned (.tuple #[v, .bool true]) ∧ Own w.heap.size w' 22 v (cellsU us) ∧ Mod (fun _ => False) w w' := by
  subst ho
  exact h
theorem RdE.none_ {w w' : World} {o : Option (List Nat)} {e : Ending} (h : RdE w w' o e) (ho : o = none) : ∃ v, e = .returned (.tuple #[v, .bool false]) ∧ Mod (fun _ => False) w w' := by
  subst ho
  exact h
theorem RdE.of_encE {w w' : World} {o : Option (List Nat)} {e : Ending} (h : EncE w w' o e) : RdE w w' o e := by
  cases o with
  | none => exact ⟨_, h.1, h.2⟩
  | some us => exact h
theorem RdE.of_some {w w' : World} {o : Option (List Nat)} {us : List Nat} {v : Value} (ho : o = some us) (h : Own w.heap.size w' 22 v (cellsU us)) (hm : Mod (fun _ => False) w w') : RdE w w' o (.returned (.tuple #[v, .bool true])) := by
  rw [ho]
  exact ⟨v, rfl, h, hm⟩
theorem RdE.of_none {w w' : World} {o : Option (List Nat)} {v : Value} (ho : o = none) (hm : Mod (fun _ => False) w w') : RdE w w' o (.returned (.tuple #[v, .bool false])) := by
  rw [ho]
  exact ⟨v, rfl, hm⟩
/-- A reader of its own, at the beginning. -/
theorem RRd.new {w : World} {A : Option Addr} {n c : Nat} {bs : List Nat} (hs : Rds w w.heap.size A n (cells8 bs)) (hlt : lt256 bs) (hn : n ≤ 1000000) (hw : 0 < w.heap.size) :
    ∃ row, row < w.heap.size ∧ RRd (w.alloc (.cells #[.slice A n c, .int .i64 0, .bool false] 68)) w.heap.size row bs (val bs) (8 * n) true := by
  obtain ⟨row, hsee, hrow⟩ := hs.sees hw
  have hbl : bs.length = n := by have := hs.1; rwa [cells8_length] at this
  have hval : val bs < 2 ^ (8 * n) := by rw [← hbl]; exact val_lt hlt
  refine ⟨row, hrow, A, n, c, 0, Blk.new _ _ _, hsee.mod ((Mod.refl (fun _ => False) w).alloc _) (fun _ h => h), by omega, by omega, hn, hlt, (fun _ => ⟨by omega, (Nat.mod_eq_of_lt hval).symm⟩), fun h => by cases h⟩
set_option maxRecDepth 100000 in
theorem unw8_step {bs : List Nat} (h : 8 ≤ bs.length) : unw8 bs = val (bs.take 8) :: unw8 (bs.drop 8) := by
  match bs, h with
  | a :: b :: c :: d :: e :: f :: g :: h' :: r, _ =>
    show un8 a b c d e f g h' :: unw8 r = val [a, b, c, d, e, f, g, h'] :: unw8 r
    congr 1
    unfold un8
    simp [val]
theorem or_byte {V b : Nat} (hb : b < 256) (hV : V * 256 + 256 ≤ 18446744073709551616) : bits BinOp.or IntKind.u64 ((V * 256 : Nat) : Int) (b : Int) = ((V * 256 + b : Nat) : Int) := by
  have h0 := nat_join 8 (V * 256) b (by omega) (by omega)
  rw [u64_or_nat _ _ (by omega) (by omega), h0]
/-- Words read so far; p is where the next one begins. -/
def RWordTo (w wr : World) (bs : List Nat) (v : Value) (p left : Nat) : Prop :=
  ∃ ws, Own w.heap.size wr 22 v (cellsU ws) ∧ p ≤ bs.length ∧ ws.length ≤ p ∧ (∀ x ∈ ws, x < 2 ^ 64) ∧ unw8 bs = ws ++ unw8 (bs.drop p) ∧ (unw8 (bs.drop p)).length = left ∧ Mod (fun _ => False) w wr
/-- Values so far. -/
def RBackTo (w wr : World) (us : List Nat) (i last : Nat) (v : Value) : Prop :=
  Own w.heap.size wr 22 v (cellsU (unstepsU 0 (us.take i))) ∧ last = (unstepsU 0 (us.take i)).getLast?.getD 0 ∧ last < 2 ^ 64 ∧ Mod (fun _ => False) w wr
theorem RBackTo.step {w wr w2 : World} {us : List Nat} {i last u : Nat} {v v2 : Value} (h : RBackTo w wr us i last v) (hu : us[i]? = some u) (ho : Own w.heap.size w2 22 v2 (cellsU (unstepsU 0 (us.take i)) ++ [.int .u64 (backU last u : Int)])) (hb : Below w.heap.size wr w2) : RBackTo w w2 us (i + 1) (backU last u) v2 := by
  obtain ⟨_, h2, _, h4⟩ := h
  refine ⟨?_, ?_, backU_lt _ _, h4.trans (Mod.of_below hb) (fun i hi h => by omega)⟩
  · rw [take_succ_of hu, unstepsU_snoc, ← h2, cellsU_snoc]
    exact ho
  · rw [take_succ_of hu, unstepsU_snoc, ← h2, List.getLast?_concat]
    rfl
/-- One value again and again. -/
def RRepTo (w wr : World) (x i : Nat) (v : Value) : Prop := Own w.heap.size wr 22 v (cellsU (List.replicate i x)) ∧ Mod (fun _ => False) w wr
set_option maxHeartbeats 4000000 in
set_option maxRecDepth 100000 in
theorem rread_any (tag : Int) (A : Option Addr) (n cap N : Nat) (bs : List Nat) (w : World) (hs : Rds w w.heap.size A n (cells8 bs)) (hlt : lt256 bs) (hnc : n ≤ cap) (hcm : cap ≤ maxLen) (hn : n ≤ 1000000) (hN : N ≤ 65535) (hw0 : 0 < w.heap.size) :
    Calls Tryz.prog 31 #[.int .i64 tag, .slice A n cap, .int .i64 (N : Int)] w fun e w' => RdE w w' (readK tag N bs) e := by
  have hul : bs.length = n := by have := hs.1; rwa [cells8_length] at this
  have hNN : max 0 (min (N : Int) 65535) = (N : Int) := by omega
  by_cases h1 : tag = 1
  · subst h1
    obtain ⟨row, hrow, hrr⟩ := RRd.new (c := cap) hs hlt hn hw0
    obtain ⟨W, hW⟩ : ∃ W, W = w.alloc (.cells #[.slice A n cap, .int .i64 0, .bool false] 68) := ⟨_, rfl⟩
    rw [← hW] at hrr
    have hmW : Mod (fun _ => False) w W := by rw [hW]; exact (Mod.refl _ _).alloc _
    have hval : val bs < 2 ^ (8 * n) := by rw [← hul]; exact val_lt hlt
    obtain ⟨o, ho⟩ : ∃ o, o = readK 1 N bs := ⟨_, rfl⟩
    have ho2 : o = (valRow N (val bs) (8 * n)).map (·.1) := by rw [ho, ← hul]; rfl
    have HW := Lib.hid hW; have HmW := Lib.hid hmW; have Hrr := Lib.hid hrr; have Hrow := Lib.hid (Nat.lt_of_lt_of_le hrow hmW.size); have Hval := Lib.hid hval; have Ho := Lib.hid ho; have Ho2 := Lib.hid ho2; have HN := Lib.hid hNN
    clear hs hlt hul hW hmW hrr hrow hval ho ho2 hNN
    go_enter Tryz.func31, Tryz.ntmps31
    go_wp2_with fail
    rw [← HW.out]
    refine (rgetvals_any w.heap.size row (val bs) (8 * n) N bs (N : Int) W HN.out Hrr.out Hval.out Hrow.out).mono ?_
    intro e w2 hd
    have hd' : XRDecEnd W w2 w.heap.size row bs (valRow N (val bs) (8 * n)) e := hd
    clear hd
    cases hv : valRow N (val bs) (8 * n) with
    | none =>
      rw [hv] at hd'
      obtain ⟨rfl, hm2⟩ := hd'
      have Hno : Hid (o = none) := Lib.hid (by rw [Ho2.out, hv]; rfl)
      have Hm2 := Lib.hid (HmW.out.trans hm2 (fun i hi e => by omega))
      clear hv hm2
      go_wp2_with fail
      go_ret2
      exact RdE.of_none (by rw [← Ho.out, Hno.out]) Hm2.out
    | some p =>
      obtain ⟨us, R2, rem2⟩ := p
      rw [hv] at hd'
      obtain ⟨v, rfl, hown, _, hm2⟩ := hd'
      have Hyes : Hid (o = some us) := Lib.hid (by rw [Ho2.out, hv]; rfl)
      have Hm2 := Lib.hid (HmW.out.trans hm2 (fun i hi e => by omega)); have Hown := Lib.hid (hown.mono HmW.out.size)
      clear hv hm2 hown
      go_wp2_with fail
      go_ret2
      exact RdE.of_some (by rw [← Ho.out, Hyes.out]) Hown.out Hm2.out
  by_cases h2 : tag = 2
  · subst h2
    have Hrk : Hid (readK 2 N bs = (decS N (unw8 bs)).map (unstepsU 0)) := Lib.hid rfl
    have W0 : Hid (RWordTo w w bs (.slice none 0 0) 0 (unw8 bs).length) := Lib.hid ⟨[], Own.nil _ _ _, Nat.zero_le _, Nat.le_refl _, (fun _ h => by cases h), rfl, rfl, Mod.refl _ _⟩
    have Hs := Lib.hid hs; have Hlt := Lib.hid hlt; have Hul := Lib.hid hul; have HN := Lib.hid hNN
    clear hs hlt hul hNN
    go_enter Tryz.func31, Tryz.ntmps31
    go_wp2_with fail
    go_loopg [8, 9] (unw8 bs).length (fun l s8 s9 wr => ∃ p : Nat, s9 = .int .i64 (p : Int) ∧ RWordTo w wr bs s8 p l)
    case atStart => exact ⟨0, rfl, W0.out⟩
    case round =>
      obtain ⟨p, rfl, ws, k1, k2, k3, k4, k5, k6, k7⟩ := hrel
      have K1 := Lib.hid k1; have K3 := Lib.hid k3; have K4 := Lib.hid k4; have K5 := Lib.hid k5; have K6 := Lib.hid k6; have K7 := Lib.hid k7
      have hpn : p ≤ n := by have := Hul.out; omega
      clear k1 k2 k3 k4 k5 k6 k7 W0
      obtain ⟨k0, hk0⟩ : ∃ k0 : Nat, k0 = gk - 1 := ⟨_, rfl⟩
      have Hk0 := Lib.hid hk0
      clear hk0
      by_cases h8 : p + 8 ≤ n
      · have hp8 : (p : Int) + 8 ≤ (n : Int) := by omega
        obtain ⟨wo, rfl⟩ : ∃ wo : World, wo = wr := ⟨_, rfl⟩
        have hdl : (bs.drop p).length = n - p := by rw [List.length_drop, Hul.out]
        have Hdl := Lib.hid hdl
        clear hdl
        go_wp2_with fail
        go_loopg [10, 11] 8 (fun l s10 s11 wq => ∃ (j V : Nat), j + l = 8 ∧ s11 = .int .i64 (j : Int) ∧ s10 = .int .u64 (V : Int) ∧ V = val ((bs.drop p).take j) ∧ wq = wo)
        case atStart => exact ⟨0, 0, rfl, rfl, rfl, rfl, rfl⟩
        case round =>
          obtain ⟨j, V, hjl, rfl, rfl, hV, rfl⟩ := hrel
          have Hjl := Lib.hid hjl; have HV := Lib.hid hV
          clear hjl hV
          by_cases hj8 : j < 8
          · obtain ⟨r, hr⟩ : ∃ r, r = p + j := ⟨_, rfl⟩
            have hrn : r < n := by omega
            obtain ⟨ad, u, rfl, _, hb, hcb⟩ := Hs.out.at_ hrn
            rw [cells8_get] at hb
            obtain ⟨b, hbb, rfl⟩ := Option.map_eq_some_iff.1 hb
            have hb256 : b < 256 := Hlt.out b (List.mem_of_getElem? hbb)
            have hcbw : wr.cell? (ad.add r) = some (.int .u8 (b : Int)) := by
              obtain ⟨ad', hA, hbl, _⟩ := Hs.out.2 (show 0 < n by omega)
              injection hA with hA
              subst hA
              rw [K7.out.cell (a := ad.add r) (by rw [add_block]; exact hbl) (fun h => h)]
              exact hcb
            have hpj : (p : Int) + (j : Int) = (r : Int) := by omega
            have hri : (r : Int) < (n : Int) := by omega
            have hr0 : (0 : Int) ≤ (r : Int) := by omega
            have hbj : (bs.drop p)[j]? = some b := by rw [List.getElem?_drop, ← hr]; exact hbb
            have hVlt : V < 2 ^ (8 * j) := by
              have h := val_lt (bs := (bs.drop p).take j) (fun x hx => Hlt.out x (List.mem_of_mem_drop (List.mem_of_mem_take hx)))
              rw [List.length_take, Hdl.out, Nat.min_eq_left (by omega)] at h
              rw [HV.out]
              exact h
            have hVb : V < 2 ^ 56 := Nat.lt_of_lt_of_le hVlt (Nat.pow_le_pow_right (by decide) (by omega))
            have hVm : V * 256 + 256 ≤ 18446744073709551616 := by omega
            obtain ⟨y, hy⟩ : ∃ y, y = V * 256 := ⟨_, rfl⟩
            have hsh : IntKind.u64.wrap ((V : Int) * 256) = (y : Int) := by rw [IntKind.wrap_u64]; omega
            obtain ⟨z, hz⟩ : ∃ z, z = V * 256 + b := ⟨_, rfl⟩
            have hor : bits BinOp.or IntKind.u64 (y : Int) (b : Int) = (z : Int) := by rw [hy, hz]; exact or_byte hb256 hVm
            have hcvb : IntKind.u64.wrap (b : Int) = (b : Int) := by rw [IntKind.wrap_u64]; omega
            have HV2 : Hid (z = val ((bs.drop p).take (j + 1))) := Lib.hid (by rw [hz, take_succ_of hbj, val_snoc, ← HV.out])
            clear hb hbb hcb hbj hVlt hVb hVm hy hz hr
            go_wp2_with fail
            go_roundg (gk - 1)
            case measure => have := Hjl.out; omega
            case rel => exact ⟨j + 1, z, by have := Hjl.out; omega, by go_num, rfl, HV2.out, rfl⟩
          · have hj : j = 8 := by have := Hjl.out; omega
            have hx64 : V < 2 ^ 64 := by
              have h := val_lt (bs := (bs.drop p).take 8) (fun x hx => Hlt.out x (List.mem_of_mem_drop (List.mem_of_mem_take hx)))
              rw [List.length_take, Hdl.out, Nat.min_eq_left (by omega)] at h
              rw [HV.out, hj]
              exact h
            have hst := unw8_step (bs := bs.drop p) (by rw [Hdl.out]; omega)
            rw [List.drop_drop] at hst
            have hV8 : V = val ((bs.drop p).take 8) := by rw [HV.out, hj]
            rw [← hV8] at hst
            have Hst := Lib.hid hst; have Hx64 := Lib.hid hx64
            have HR : Hid ((cellsU ws).length + 1 ≤ maxLen ∧ ((cellsU ws).length + 1) * 8 ≤ 140737488355328) := Lib.hid ⟨by rw [cellsU_length]; have := K3.out; unfold maxLen; omega, by rw [cellsU_length]; have := K3.out; omega⟩
            have hsz := K7.out.size
            clear hx64 hst hV8 hj HV
            go_wp2_with (at_builtin; refine wpList_app1 rfl (.tmp 54) (.tmp 56) _ rfl eltU rfl K1.out rfl rfl rfl HR.out.1 HR.out.2 hsz ?_; intro v4 w4 HO4 HB4)
            have HW2 : Hid (RWordTo w w4 bs v4 (p + 8) k0) := Lib.hid ⟨ws ++ [V], by rw [cellsU_snoc]; exact HO4.out, by rw [Hul.out]; exact h8, by rw [List.length_append, List.length_singleton]; have := K3.out; omega, fun x hx => by
                rcases List.mem_append.1 hx with h | h
                · exact K4.out x h
                · rw [List.mem_singleton.1 h]
                  exact Hx64.out, by rw [K5.out, Hst.out, List.append_assoc]; rfl, by
                have h := K6.out
                rw [Hst.out, List.length_cons] at h
                have := Hk0.out
                omega, K7.out.trans (Mod.of_below HB4.out) (fun i hi h => by omega)⟩
            go_roundg k0
            case measure =>
              have h := K6.out
              rw [Hst.out, List.length_cons] at h
              have := Hk0.out
              omega
            case rel => exact ⟨p + 8, by go_num, HW2.out⟩
      · have hp8 : ¬ (p : Int) + 8 ≤ (n : Int) := by omega
        have hnil : unw8 (bs.drop p) = [] := unw8_few (by rw [List.length_drop, Hul.out]; omega)
        have hws : unw8 bs = ws := by rw [K5.out, hnil, List.append_nil]
        obtain ⟨A1, L1, c1, hv1, HL1, hc1, hr1⟩ := own_formUN K1.out
        subst hv1
        have Hr1 := Lib.hid hr1; have Hws := Lib.hid hws
        have hL1 : L1 ≤ 1000000 := by have := HL1.out; have := K3.out; omega
        have HL1b := Lib.hid hL1
        clear hnil hws hr1 hL1 K5 K6 Hk0
        go_wp2_with fail
        refine (gets_any A1 L1 c1 wr.heap.size N (N : Int) ws wr Hr1.out (Nat.le_refl _) K4.out HL1b.out HN.out).mono ?_
        intro e w3 he
        have he' : EncE wr w3 (decS N ws) e := he
        clear he
        cases ho : decS N ws with
        | none =>
          obtain ⟨rfl, hm3⟩ := EncE.none_ he' ho
          have Hno : Hid (readK 2 N bs = none) := Lib.hid (by rw [Hrk.out, Hws.out, ho]; rfl)
          have Hm3 := Lib.hid (K7.out.trans hm3 (fun _ _ h => h))
          clear he' ho hm3
          go_wp2_with fail
          go_loopg [14, 15, 16] 0 (fun l s14 s15 s16 wq => s14 = .slice none 0 0 ∧ s15 = .int .u64 0 ∧ s16 = .int .i64 0 ∧ wq = w3)
          case atStart => exact ⟨rfl, rfl, rfl, rfl⟩
          case round =>
            obtain ⟨rfl, rfl, rfl, rfl⟩ := hrel
            go_wp2_with fail
            go_ret2
            exact RdE.of_none Hno.out Hm3.out
        | some us =>
          obtain ⟨v3, rfl, ho3, hm3⟩ := EncE.some_ he' ho
          have hu64 := decS_lt ho
          have hul := (decS_some ho).1
          obtain ⟨A3, L3, c3, rfl, HL3, hc3, hr3⟩ := own_formUN ho3
          have hL3 : L3 = N := by have := HL3.out; omega
          subst hL3
          have Hyes : Hid (readK 2 L3 bs = some (unstepsU 0 us)) := Lib.hid (by rw [Hrk.out, Hws.out, ho]; rfl)
          have Hm3 := Lib.hid (K7.out.trans hm3 (fun _ _ h => h)); have Hr3 := Lib.hid hr3; have Hu64 := Lib.hid hu64
          have B0 : Hid (RBackTo w3 w3 us 0 0 (.slice none 0 0)) := Lib.hid ⟨Own.nil _ _ _, rfl, by decide, Mod.refl _ _⟩
          clear he' ho ho3 hm3 hu64 hul hc3 hc1 hr3 K1 K3 K4 K7 Hr1 Hws HL1 HL1b
          go_wp2_with fail
          go_loopg [14, 15, 16] L3 (fun l s14 s15 s16 wq => ∃ i last : Nat, i + l = L3 ∧ s16 = .int .i64 (i : Int) ∧ s15 = .int .u64 (last : Int) ∧ RBackTo w3 wq us i last s14)
          case atStart => exact ⟨0, 0, by omega, rfl, rfl, B0.out⟩
          case round =>
            obtain ⟨i, last, hil, rfl, rfl, hP⟩ := hrel
            have Hil := Lib.hid hil; have HP := Lib.hid hP
            clear hil hP B0
            by_cases hin : i < L3
            · obtain ⟨ad, u, rfl, hu, hcu⟩ := Hr3.out.at2 hin (Nat.le_refl _) HP.out.2.2.2 (fun _ _ h => h)
              have hu64 := Hu64.out u (List.mem_of_getElem? hu)
              have hini : (i : Int) < (L3 : Int) := by omega
              obtain ⟨z, hz⟩ : ∃ z, z = zag (u : Int) := ⟨_, rfl⟩
              have hw1 : IntKind.u64.wrap z = (un z : Int) := wrapU_un z
              obtain ⟨y, hy⟩ : ∃ y, y = un z := ⟨_, rfl⟩
              rw [← hy] at hw1
              have hl64 := HP.out.2.2.1
              have hw2 : IntKind.u64.wrap ((last : Int) + (y : Int)) = (backU last u : Int) := by
                rw [IntKind.wrap_u64]
                unfold backU
                rw [← hz, ← hy]
                show _ = (((last + y) % 18446744073709551616 : Nat) : Int)
                omega
              obtain ⟨bk, hbk⟩ : ∃ bk, bk = backU last u := ⟨_, rfl⟩
              rw [← hbk] at hw2
              have hfit : Fit64 (u : Int) := ⟨by omega, by omega⟩
              have Hfit := Lib.hid hfit; have Hz := Lib.hid hz; have Hbk := Lib.hid hbk; have Hu := Lib.hid hu
              have hlen : (cellsU (unstepsU 0 (us.take i))).length ≤ 1000000 := by rw [cellsU_length, unstepsU_len, List.length_take]; omega
              have HR : Hid ((cellsU (unstepsU 0 (us.take i))).length + 1 ≤ maxLen ∧ ((cellsU (unstepsU 0 (us.take i))).length + 1) * 8 ≤ 140737488355328) := Lib.hid ⟨by unfold maxLen; omega, by omega⟩
              have hsz := HP.out.2.2.2.size
              clear hu hu64 hz hy hl64 hbk hfit hlen
              go_wp2_with fail
              refine (rzag_any (u : Int) _ Hfit.out).mono ?_
              rintro e w4 ⟨rfl, rfl⟩
              rw [← Hz.out]
              go_wp2_with (at_builtin; refine wpList_app1 rfl (.tmp 78) (.tmp 80) _ rfl eltU rfl HP.out.1 rfl rfl rfl HR.out.1 HR.out.2 hsz ?_; intro v4 w5 HO4 HB4)
              have HP2 : Hid (RBackTo w3 w5 us (i + 1) bk v4) := Lib.hid (by
                have h := HO4.out
                rw [Hbk.out] at h ⊢
                exact HP.out.step Hu.out h HB4.out)
              go_roundg (gk - 1)
              case measure => have := Hil.out; omega
              case rel => exact ⟨i + 1, bk, by have := Hil.out; omega, by go_num, rfl, HP2.out⟩
            · have hi : i = L3 := by have := Hil.out; omega
              obtain ⟨k1, _, _, k4⟩ := HP.out
              rw [List.take_of_length_le (by rw [HL3.out]; omega)] at k1
              have K1 := Lib.hid (k1.mono Hm3.out.size); have K4 := Lib.hid (Hm3.out.trans k4 (fun _ _ h => h))
              clear hi k1 k4 HP
              go_wp2_with fail
              go_ret2
              exact RdE.of_some Hyes.out K1.out K4.out
  by_cases h3 : tag = 3
  · subst h3
    have hcall := lrdec_any A n cap w.heap.size N (N : Int) bs w hs (Nat.le_refl _) hlt hnc hcm hNN
    have Hcall := Lib.hid hcall
    clear hs hlt hcall hNN hul
    go_enter Tryz.func31, Tryz.ntmps31
    go_wp2_with fail
    refine Hcall.out.mono ?_
    intro e w1 he
    obtain ⟨o, hoo⟩ : ∃ o, o = readK 3 N bs := ⟨_, rfl⟩
    have he' : EncE w w1 o e := by rw [hoo]; exact he
    obtain ⟨v, rfl, he2⟩ := EncE.parts he'
    have He := Lib.hid (RdE.of_encE he2); have Hoo := Lib.hid hoo
    clear he he' he2 hoo
    go_wp2_with fail
    go_ret2
    rw [← Hoo.out]
    exact He.out
  by_cases h4 : tag = 4
  · subst h4
    have hcall := rpdec_any A n cap w.heap.size N (N : Int) bs w hs (Nat.le_refl _) hlt hnc hcm hn hNN
    have Hcall := Lib.hid hcall
    clear hs hlt hcall hNN hul
    go_enter Tryz.func31, Tryz.ntmps31
    go_wp2_with fail
    refine Hcall.out.mono ?_
    intro e w1 he
    obtain ⟨o, hoo⟩ : ∃ o, o = readK 4 N bs := ⟨_, rfl⟩
    have he' : EncE w w1 o e := by rw [hoo]; exact he
    obtain ⟨v, rfl, he2⟩ := EncE.parts he'
    have He := Lib.hid (RdE.of_encE he2); have Hoo := Lib.hid hoo
    clear he he' he2 hoo
    go_wp2_with fail
    go_ret2
    rw [← Hoo.out]
    exact He.out
  by_cases h5 : tag = 5
  · subst h5
    have hcall := rddec_any A n cap w.heap.size N (N : Int) bs w hs (Nat.le_refl _) hlt hnc hcm hn hNN
    have Hcall := Lib.hid hcall
    clear hs hlt hcall hNN hul
    go_enter Tryz.func31, Tryz.ntmps31
    go_wp2_with fail
    refine Hcall.out.mono ?_
    intro e w1 he
    obtain ⟨o, hoo⟩ : ∃ o, o = readK 5 N bs := ⟨_, rfl⟩
    have he' : EncE w w1 o e := by rw [hoo]; exact he
    obtain ⟨v, rfl, he2⟩ := EncE.parts he'
    have He := Lib.hid (RdE.of_encE he2); have Hoo := Lib.hid hoo
    clear he he' he2 hoo
    go_wp2_with fail
    go_ret2
    rw [← Hoo.out]
    exact He.out
  by_cases h6 : tag = 6
  · subst h6
    have Hrk : Hid (readK 6 N bs = readSame N bs) := Lib.hid rfl
    have hcall := vrget_any A n cap _ bs w hs hlt (Nat.le_trans hnc hcm)
    have hx64 : (dec bs).1 < 2 ^ 64 := dec_lt hlt
    obtain ⟨x, hx⟩ : ∃ x, (dec bs).1 = x := ⟨_, rfl⟩
    obtain ⟨a, ha⟩ : ∃ a, (dec bs).2 = a := ⟨_, rfl⟩
    rw [hx, ha] at hcall
    have Hcall := Lib.hid hcall; have Hx := Lib.hid hx; have Ha := Lib.hid ha
    have R0 : Hid (RRepTo w w x 0 (.slice none 0 0)) := Lib.hid ⟨Own.nil _ _ _, Mod.refl _ _⟩
    clear hs hlt hcall hNN hul hx ha
    go_enter Tryz.func31, Tryz.ntmps31
    go_wp2_with fail
    refine Hcall.out.mono ?_
    rintro e w' ⟨rfl, rfl⟩
    go_wp2_with fail
    go_loopg [19, 20] N (fun l s19 s20 wr => ∃ i : Nat, i + l = N ∧ s20 = .int .i64 (i : Int) ∧ RRepTo w wr x i s19)
    case atStart => exact ⟨0, by omega, rfl, R0.out⟩
    case round =>
      obtain ⟨i, hil, rfl, hR⟩ := hrel
      have Hil := Lib.hid hil; have HRp := Lib.hid hR
      clear hil hR R0
      by_cases hin : i < N
      · have hini : (i : Int) < (N : Int) := by omega
        have HR : Hid ((cellsU (List.replicate i x)).length + 1 ≤ maxLen ∧ ((cellsU (List.replicate i x)).length + 1) * 8 ≤ 140737488355328) := Lib.hid ⟨by rw [cellsU_length, List.length_replicate]; unfold maxLen; omega, by rw [cellsU_length, List.length_replicate]; omega⟩
        have hsz := HRp.out.2.size
        go_wp2_with (at_builtin; refine wpList_app1 rfl (.tmp 117) (.tmp 119) _ rfl eltU rfl HRp.out.1 rfl rfl rfl HR.out.1 HR.out.2 hsz ?_; intro v4 w4 HO4 HB4)
        have HR2 : Hid (RRepTo w w4 x (i + 1) v4) := Lib.hid ⟨by rw [List.replicate_succ', cellsU_snoc]; exact HO4.out, HRp.out.2.trans (Mod.of_below HB4.out) (fun i hi h => by omega)⟩
        go_roundg (gk - 1)
        case measure => have := Hil.out; omega
        case rel => exact ⟨i + 1, by have := Hil.out; omega, by go_num, HR2.out⟩
      · have hi : i = N := by have := Hil.out; omega
        obtain ⟨k1, k2⟩ := HRp.out
        rw [hi] at k1
        have K1 := Lib.hid k1; have K2 := Lib.hid k2
        have hini : ¬ (i : Int) < (N : Int) := by omega
        clear hi k1 k2 HRp hin
        by_cases h0 : N = 0
        · have hN0 : ((N : Int) == 0) = true := by simp; omega
          have Hyes : Hid (readK 6 N bs = some (List.replicate N x)) := Lib.hid (by rw [Hrk.out]; unfold readSame; rw [if_pos h0, h0]; rfl)
          clear h0
          go_wp2_with fail
          go_ret2
          exact RdE.of_some Hyes.out K1.out K2.out
        · have hN0 : ((N : Int) == 0) = false := by simp; omega
          by_cases ha0 : a = 0
          · have hai : ¬ (0 : Int) < (a : Int) := by omega
            have had : decide (0 < a) = false := by simp; omega
            have hadi : decide ((0 : Int) < (a : Int)) = false := by simp; omega
            have Hno : Hid (readK 6 N bs = none) := Lib.hid (by rw [Hrk.out]; unfold readSame; rw [if_neg h0, Ha.out, if_pos ha0])
            clear h0 ha0
            go_wp2_with fail
            go_ret2
            exact RdE.of_none Hno.out K2.out
          · have hai : (0 : Int) < (a : Int) := by omega
            have had : decide (0 < a) = true := by simp; omega
            have hadi : decide ((0 : Int) < (a : Int)) = true := by simp; omega
            have Hyes : Hid (readK 6 N bs = some (List.replicate N x)) := Lib.hid (by rw [Hrk.out]; unfold readSame; rw [if_neg h0, Ha.out, if_neg ha0, Hx.out])
            clear h0 ha0
            go_wp2_with fail
            go_ret2
            exact RdE.of_some Hyes.out K1.out K2.out
  have b1 : (tag == 1) = false := by simp [h1]
  have b2 : (tag == 2) = false := by simp [h2]
  have b3 : (tag == 3) = false := by simp [h3]
  have b4 : (tag == 4) = false := by simp [h4]
  have b5 : (tag == 5) = false := by simp [h5]
  have b6 : (tag == 6) = false := by simp [h6]
  have Hno : Hid (readK tag N bs = none) := Lib.hid (readK_other h1 h2 h3 h4 h5 h6)
  clear hs hlt h1 h2 h3 h4 h5 h6 hNN hul
  go_enter Tryz.func31, Tryz.ntmps31
  go_wp2_with fail
  go_ret2
  exact RdE.of_none Hno.out (Mod.refl _ _)
end Go.Proofs.YtmcemeofkjfhhaaGreatDoor

/- The document's own times are read: difference, GetTimes. -/
namespace Go.Proofs.YtmcemeofkjfhhaaGreatDoor
open Go.RowKit

def RMarkTo (w wr : World) (g row : Nat) (bs : List Nat) (s s' : Option (Nat × Nat)) (l f : Nat) : Prop := markO l f s' = markO 4 0 s ∧ RRdO wr g row bs s' ∧ Mod (fun i => i = g) w wr
def RMarkEnd (w wr : World) (g row : Nat) (bs : List Nat) (s : Option (Nat × Nat)) (f : Nat) : Prop := f = formO s ∧ RRdO wr g row bs (markO 4 0 s).2 ∧ Mod (fun i => i = g) w wr
theorem RMarkTo.stop {w wr w1 : World} {g row : Nat} {bs : List Nat} {s s' : Option (Nat × Nat)} {l f : Nat} (h : RMarkTo w wr g row bs s s' (l + 1) f) (hne : ¬ (getO 1 s').1 = 1) (h1 : RRdO w1 g row bs (getO 1 s').2) (hm : Mod (fun i => i = g) wr w1) : RMarkEnd w w1 g row bs s f := by
  have e : markO (l + 1) f s' = (f, (getO 1 s').2) := by
    show (if (getO 1 s').1 = 1 then markO l (f + 1) (getO 1 s').2 else (f, (getO 1 s').2)) = _
    rw [if_neg hne]
  have e2 := h.1
  rw [e] at e2
  refine ⟨?_, ?_, h.2.2.trans hm (fun _ _ h => h)⟩
  · unfold formO; rw [← e2]
  · rw [← e2]; exact h1
theorem RMarkTo.next {w wr w1 : World} {g row : Nat} {bs : List Nat} {s s' : Option (Nat × Nat)} {l f : Nat} (h : RMarkTo w wr g row bs s s' (l + 1) f) (hne : (getO 1 s').1 = 1) (h1 : RRdO w1 g row bs (getO 1 s').2) (hm : Mod (fun i => i = g) wr w1) : RMarkTo w w1 g row bs s (getO 1 s').2 l (f + 1) := by
  have e : markO (l + 1) f s' = markO l (f + 1) (getO 1 s').2 := by
    show (if (getO 1 s').1 = 1 then markO l (f + 1) (getO 1 s').2 else (f, (getO 1 s').2)) = _
    rw [if_pos hne]
  exact ⟨e ▸ h.1, h1, h.2.2.trans hm (fun _ _ h => h)⟩
theorem RMarkTo.full {w wr : World} {g row : Nat} {bs : List Nat} {s s' : Option (Nat × Nat)} {f : Nat} (h : RMarkTo w wr g row bs s s' 0 f) : RMarkEnd w wr g row bs s f := by
  have e2 : (f, s') = markO 4 0 s := h.1
  refine ⟨?_, ?_, h.2.2⟩
  · unfold formO; rw [← e2]
  · rw [← e2]; exact h.2.1
def RDiffEnd (w wr : World) (g row : Nat) (bs : List Nat) (s : Option (Nat × Nat)) (e : Ending) : Prop :=
  e = .returned (.tuple #[.int .i64 (diffO s), .bool (decide (kindN (diffO s) = sz (formO s)))]) ∧ RRdO wr g row bs (behindO s) ∧ Mod (fun i => i = g) w wr
theorem small_cast {u n : Nat} (h : u < n) (hn : n ≤ 4096) : wrap64 (u : Int) = (u : Int) := IntWalk.wrap64_in _ (by omega)
/-- What the last step tells. -/
theorem rdiff_end {w w1 w2 : World} {g row h : Nat} {bs : List Nat} {s : Option (Nat × Nat)} {d : Int} {b : Bool} (hd : diffO s = d) (hf : formO s = h) (hb : decide (kindN d = sz h) = b) (h1 : RRdO w2 g row bs (behindO s)) (hm : Mod (fun i => i = g) w w2) (hw : w2 = w1) :
    RDiffEnd w w1 g row bs s (.returned (.tuple #[.int .i64 d, .bool b])) := by
  subst hw
  refine ⟨?_, h1, hm⟩
  rw [hd, hf, hb]
set_option maxHeartbeats 4000000 in
set_option maxRecDepth 100000 in
theorem rdiff_o (g row : Nat) (bs : List Nat) (s : Option (Nat × Nat)) (w : World) (h : RRdO w g row bs s) :
    Calls Tryz.prog 55 #[.pointer (some ⟨g, 0, none⟩)] w fun e w' => RDiffEnd w w' g row bs s e := by
  have H0 : Hid (RMarkTo w w g row bs s s 4 0) := Lib.hid ⟨rfl, h, Mod.refl _ _⟩
  have Hlt := Lib.hid (bitsO_lt s h.small)
  clear h
  go_enter Tryz.func55, Tryz.ntmps55
  go_upto_block 0 with fail
  go_cut [4] (fun s4 wc => ∃ f : Nat, s4 = .int .i64 (f : Int) ∧ RMarkEnd w wc g row bs s f)
  case first =>
    go_wp2_with fail
    go_loopg [4] 4 (fun l s4 wr => ∃ f s', f + l = 4 ∧ s4 = .int .i64 (f : Int) ∧ RMarkTo w wr g row bs s s' l f)
    case atStart => exact ⟨0, s, rfl, rfl, H0.out⟩
    case round =>
      obtain ⟨f, s', hfl, rfl, hM⟩ := hrel
      have HM := Lib.hid hM; have Hfl := Lib.hid hfl
      clear hM hfl H0
      by_cases hl0 : gk = 0
      · have hf : ¬ f < 4 := by have := Hfl.out; omega
        subst hl0
        go_wp2_with fail
        go_meet
        case rel => exact ⟨f, rfl, HM.out.full⟩
      · obtain ⟨l, rfl⟩ : ∃ l, gk = l + 1 := ⟨gk - 1, by omega⟩
        have hf : f < 4 := by have := Hfl.out; omega
        clear hl0
        go_wp2_with fail
        refine (rget_o g row 1 1 bs s' _ rfl (by decide) HM.out.2.1).mono ?_
        rintro e w1 ⟨rfl, h1, hm⟩
        have H1 := Lib.hid h1; have Hm := Lib.hid hm
        clear h1 hm
        by_cases hb : (getO 1 s').1 = 1
        · have N1 := Lib.hid (HM.out.next hb H1.out Hm.out)
          rw [hb]
          clear hb H1 Hm HM
          go_wp2_with fail
          go_roundg l
          case measure => omega
          case rel => exact ⟨f + 1, _, by have := Hfl.out; omega, by go_num, N1.out⟩
        · have N1 := Lib.hid (HM.out.stop hb H1.out Hm.out)
          have hb2 : ((((getO 1 s').1 : Nat) : Int) == 1) = false := by simp; omega
          clear hb H1 Hm HM
          go_wp2_with fail
          go_meet
          case rel => exact ⟨f, rfl, N1.out⟩
  case rest =>
    obtain ⟨f, rfl, hf, h1, hm⟩ := hcut
    have hf4 := formO_le s
    rw [← hf] at hf4
    have Hf := Lib.hid hf.symm
    have hwA : Hid (Mod (fun _ => False) wc (wc.alloc (.cells #[.int .i64 0, .int .i64 7, .int .i64 9, .int .i64 12, .int .i64 64] 120))) := Lib.hid ((Mod.refl _ _).alloc _)
    have H1 := Lib.hid (h1.mod hwA.out (fun h => h) (fun _ h => h)); have Hm := Lib.hid (hm.trans hwA.out (fun _ _ h => h.elim))
    have hi : f = 0 ∨ f = 1 ∨ f = 2 ∨ f = 3 ∨ f = 4 := by omega
    clear hf h1 hm H0 hwA hf4
    rcases hi with rfl | rfl | rfl | rfl | rfl
    · go_wp2_with fail
      refine (rget_o g row 0 0 bs _ _ rfl (by decide) H1.out).mono ?_
      rintro e w2 ⟨rfl, h2, hm2⟩
      obtain ⟨u, hu⟩ : ∃ u, u = (getO 0 (markO 4 0 s).2).1 := ⟨_, rfl⟩
      rw [← hu]
      have hbit : bitsO s = getO 0 (markO 4 0 s).2 := by unfold bitsO; rw [Hf.out]; rfl
      have hul : u < 2 ^ 0 := by have := Hlt.out; rw [hbit, Hf.out] at this; rw [hu]; exact this
      have hdf : diffO s = sgn 0 u := by unfold diffO; rw [hbit, Hf.out, hu]; rfl
      have Hdf := Lib.hid hdf; have Hul := Lib.hid hul
      have H2 : Hid (RRdO w2 g row bs (behindO s)) := Lib.hid (by unfold behindO; rw [hbit]; exact h2)
      have Hm2 := Lib.hid (Hm.out.trans hm2 (fun _ _ h => h))
      clear hu hbit hdf h2 hm2 H1 Hm
      have hu0 : u = 0 := by omega
      subst hu0
      clear hul
      go_wp2_with fail
      refine (kind_any 0 _).mono ?_
      rintro e w3 ⟨rfl, rfl⟩
      by_cases hk : kindN 0 = 0
      · have hk2 : ((kindN 0 : Int) == 0) = true := by rw [hk]; rfl
        go_wp2_with fail
        go_ret2
        exact rdiff_end (Hdf.out.trans (by decide)) Hf.out (decide_eq_true hk) H2.out Hm2.out rfl
      · have hk2 : ((kindN 0 : Int) == 0) = false := by simp; omega
        go_wp2_with fail
        go_ret2
        exact rdiff_end (Hdf.out.trans (by decide)) Hf.out (decide_eq_false hk) H2.out Hm2.out rfl
    · go_wp2_with fail
      refine (rget_o g row 7 7 bs _ _ rfl (by decide) H1.out).mono ?_
      rintro e w2 ⟨rfl, h2, hm2⟩
      obtain ⟨u, hu⟩ : ∃ u, u = (getO 7 (markO 4 0 s).2).1 := ⟨_, rfl⟩
      rw [← hu]
      have hbit : bitsO s = getO 7 (markO 4 0 s).2 := by unfold bitsO; rw [Hf.out]; rfl
      have hul : u < 2 ^ 7 := by have := Hlt.out; rw [hbit, Hf.out] at this; rw [hu]; exact this
      have hdf : diffO s = sgn 7 u := by unfold diffO; rw [hbit, Hf.out, hu]; rfl
      have Hdf := Lib.hid hdf; have Hul := Lib.hid hul
      have H2 : Hid (RRdO w2 g row bs (behindO s)) := Lib.hid (by unfold behindO; rw [hbit]; exact h2)
      have Hm2 := Lib.hid (Hm.out.trans hm2 (fun _ _ h => h))
      clear hu hbit hdf h2 hm2 H1 Hm
      have hcv : wrap64 (u : Int) = (u : Int) := small_cast hul (by decide)
      have hul2 : u < 128 := hul
      by_cases hbit : 64 ≤ u
      · have hq : (u : Int) / 64 = 1 := by omega
        have Hd : Hid (sgn 7 u = (u : Int) - 128) := Lib.hid (by
          unfold sgn
          rw [if_neg (by decide), if_pos ⟨by decide, by show u / 64 % 2 = 1; omega⟩]
          rfl)
        have hneg : wrap64 ((u : Int) - 128) = (u : Int) - 128 := IntWalk.wrap64_in _ (by omega)
        obtain ⟨d, hd⟩ : ∃ d, (u : Int) - 128 = d := ⟨_, rfl⟩
        have Hd2 : Hid (diffO s = d) := Lib.hid (by rw [Hdf.out, Hd.out, hd])
        rw [hd] at hneg
        clear hul Hd Hdf
        go_wp2_with fail
        refine (kind_any d _).mono ?_
        rintro e w3 ⟨rfl, rfl⟩
        by_cases hk : kindN d = 7
        · have hk2 : ((kindN d : Int) == 7) = true := by rw [hk]; rfl
          go_wp2_with fail
          go_ret2
          exact rdiff_end Hd2.out Hf.out (decide_eq_true hk) H2.out Hm2.out rfl
        · have hk2 : ((kindN d : Int) == 7) = false := by simp; omega
          go_wp2_with fail
          go_ret2
          exact rdiff_end Hd2.out Hf.out (decide_eq_false hk) H2.out Hm2.out rfl

      · have hq : (u : Int) / 64 = 0 := by omega
        have Hd : Hid (diffO s = (u : Int)) := Lib.hid (by
          rw [Hdf.out]
          unfold sgn
          rw [if_neg (by decide), if_neg (fun h => by have h2 : u / 64 % 2 = 1 := h.2; omega)])
        clear hul Hdf
        go_wp2_with fail
        refine (kind_any (u : Int) _).mono ?_
        rintro e w3 ⟨rfl, rfl⟩
        by_cases hk : kindN (u : Int) = 7
        · have hk2 : ((kindN (u : Int) : Int) == 7) = true := by rw [hk]; rfl
          go_wp2_with fail
          go_ret2
          exact rdiff_end Hd.out Hf.out (decide_eq_true hk) H2.out Hm2.out rfl
        · have hk2 : ((kindN (u : Int) : Int) == 7) = false := by simp; omega
          go_wp2_with fail
          go_ret2
          exact rdiff_end Hd.out Hf.out (decide_eq_false hk) H2.out Hm2.out rfl
    · go_wp2_with fail
      refine (rget_o g row 9 9 bs _ _ rfl (by decide) H1.out).mono ?_
      rintro e w2 ⟨rfl, h2, hm2⟩
      obtain ⟨u, hu⟩ : ∃ u, u = (getO 9 (markO 4 0 s).2).1 := ⟨_, rfl⟩
      rw [← hu]
      have hbit : bitsO s = getO 9 (markO 4 0 s).2 := by unfold bitsO; rw [Hf.out]; rfl
      have hul : u < 2 ^ 9 := by have := Hlt.out; rw [hbit, Hf.out] at this; rw [hu]; exact this
      have hdf : diffO s = sgn 9 u := by unfold diffO; rw [hbit, Hf.out, hu]; rfl
      have Hdf := Lib.hid hdf; have Hul := Lib.hid hul
      have H2 : Hid (RRdO w2 g row bs (behindO s)) := Lib.hid (by unfold behindO; rw [hbit]; exact h2)
      have Hm2 := Lib.hid (Hm.out.trans hm2 (fun _ _ h => h))
      clear hu hbit hdf h2 hm2 H1 Hm
      have hcv : wrap64 (u : Int) = (u : Int) := small_cast hul (by decide)
      have hul2 : u < 512 := hul
      by_cases hbit : 256 ≤ u
      · have hq : (u : Int) / 256 = 1 := by omega
        have Hd : Hid (sgn 9 u = (u : Int) - 512) := Lib.hid (by
          unfold sgn
          rw [if_neg (by decide), if_pos ⟨by decide, by show u / 256 % 2 = 1; omega⟩]
          rfl)
        have hneg : wrap64 ((u : Int) - 512) = (u : Int) - 512 := IntWalk.wrap64_in _ (by omega)
        obtain ⟨d, hd⟩ : ∃ d, (u : Int) - 512 = d := ⟨_, rfl⟩
        have Hd2 : Hid (diffO s = d) := Lib.hid (by rw [Hdf.out, Hd.out, hd])
        rw [hd] at hneg
        clear hul Hd Hdf
        go_wp2_with fail
        refine (kind_any d _).mono ?_
        rintro e w3 ⟨rfl, rfl⟩
        by_cases hk : kindN d = 9
        · have hk2 : ((kindN d : Int) == 9) = true := by rw [hk]; rfl
          go_wp2_with fail
          go_ret2
          exact rdiff_end Hd2.out Hf.out (decide_eq_true hk) H2.out Hm2.out rfl
        · have hk2 : ((kindN d : Int) == 9) = false := by simp; omega
          go_wp2_with fail
          go_ret2
          exact rdiff_end Hd2.out Hf.out (decide_eq_false hk) H2.out Hm2.out rfl

      · have hq : (u : Int) / 256 = 0 := by omega
        have Hd : Hid (diffO s = (u : Int)) := Lib.hid (by
          rw [Hdf.out]
          unfold sgn
          rw [if_neg (by decide), if_neg (fun h => by have h2 : u / 256 % 2 = 1 := h.2; omega)])
        clear hul Hdf
        go_wp2_with fail
        refine (kind_any (u : Int) _).mono ?_
        rintro e w3 ⟨rfl, rfl⟩
        by_cases hk : kindN (u : Int) = 9
        · have hk2 : ((kindN (u : Int) : Int) == 9) = true := by rw [hk]; rfl
          go_wp2_with fail
          go_ret2
          exact rdiff_end Hd.out Hf.out (decide_eq_true hk) H2.out Hm2.out rfl
        · have hk2 : ((kindN (u : Int) : Int) == 9) = false := by simp; omega
          go_wp2_with fail
          go_ret2
          exact rdiff_end Hd.out Hf.out (decide_eq_false hk) H2.out Hm2.out rfl
    · go_wp2_with fail
      refine (rget_o g row 12 12 bs _ _ rfl (by decide) H1.out).mono ?_
      rintro e w2 ⟨rfl, h2, hm2⟩
      obtain ⟨u, hu⟩ : ∃ u, u = (getO 12 (markO 4 0 s).2).1 := ⟨_, rfl⟩
      rw [← hu]
      have hbit : bitsO s = getO 12 (markO 4 0 s).2 := by unfold bitsO; rw [Hf.out]; rfl
      have hul : u < 2 ^ 12 := by have := Hlt.out; rw [hbit, Hf.out] at this; rw [hu]; exact this
      have hdf : diffO s = sgn 12 u := by unfold diffO; rw [hbit, Hf.out, hu]; rfl
      have Hdf := Lib.hid hdf; have Hul := Lib.hid hul
      have H2 : Hid (RRdO w2 g row bs (behindO s)) := Lib.hid (by unfold behindO; rw [hbit]; exact h2)
      have Hm2 := Lib.hid (Hm.out.trans hm2 (fun _ _ h => h))
      clear hu hbit hdf h2 hm2 H1 Hm
      have hcv : wrap64 (u : Int) = (u : Int) := small_cast hul (by decide)
      have hul2 : u < 4096 := hul
      by_cases hbit : 2048 ≤ u
      · have hq : (u : Int) / 2048 = 1 := by omega
        have Hd : Hid (sgn 12 u = (u : Int) - 4096) := Lib.hid (by
          unfold sgn
          rw [if_neg (by decide), if_pos ⟨by decide, by show u / 2048 % 2 = 1; omega⟩]
          rfl)
        have hneg : wrap64 ((u : Int) - 4096) = (u : Int) - 4096 := IntWalk.wrap64_in _ (by omega)
        obtain ⟨d, hd⟩ : ∃ d, (u : Int) - 4096 = d := ⟨_, rfl⟩
        have Hd2 : Hid (diffO s = d) := Lib.hid (by rw [Hdf.out, Hd.out, hd])
        rw [hd] at hneg
        clear hul Hd Hdf
        go_wp2_with fail
        refine (kind_any d _).mono ?_
        rintro e w3 ⟨rfl, rfl⟩
        by_cases hk : kindN d = 12
        · have hk2 : ((kindN d : Int) == 12) = true := by rw [hk]; rfl
          go_wp2_with fail
          go_ret2
          exact rdiff_end Hd2.out Hf.out (decide_eq_true hk) H2.out Hm2.out rfl
        · have hk2 : ((kindN d : Int) == 12) = false := by simp; omega
          go_wp2_with fail
          go_ret2
          exact rdiff_end Hd2.out Hf.out (decide_eq_false hk) H2.out Hm2.out rfl

      · have hq : (u : Int) / 2048 = 0 := by omega
        have Hd : Hid (diffO s = (u : Int)) := Lib.hid (by
          rw [Hdf.out]
          unfold sgn
          rw [if_neg (by decide), if_neg (fun h => by have h2 : u / 2048 % 2 = 1 := h.2; omega)])
        clear hul Hdf
        go_wp2_with fail
        refine (kind_any (u : Int) _).mono ?_
        rintro e w3 ⟨rfl, rfl⟩
        by_cases hk : kindN (u : Int) = 12
        · have hk2 : ((kindN (u : Int) : Int) == 12) = true := by rw [hk]; rfl
          go_wp2_with fail
          go_ret2
          exact rdiff_end Hd.out Hf.out (decide_eq_true hk) H2.out Hm2.out rfl
        · have hk2 : ((kindN (u : Int) : Int) == 12) = false := by simp; omega
          go_wp2_with fail
          go_ret2
          exact rdiff_end Hd.out Hf.out (decide_eq_false hk) H2.out Hm2.out rfl
    · go_wp2_with fail
      refine (rget_o g row 64 64 bs _ _ rfl (by decide) H1.out).mono ?_
      rintro e w2 ⟨rfl, h2, hm2⟩
      obtain ⟨u, hu⟩ : ∃ u, u = (getO 64 (markO 4 0 s).2).1 := ⟨_, rfl⟩
      rw [← hu]
      have hbit : bitsO s = getO 64 (markO 4 0 s).2 := by unfold bitsO; rw [Hf.out]; rfl
      have hul : u < 2 ^ 64 := by have := Hlt.out; rw [hbit, Hf.out] at this; rw [hu]; exact this
      have hdf : diffO s = sgn 64 u := by unfold diffO; rw [hbit, Hf.out, hu]; rfl
      have Hdf := Lib.hid hdf; have Hul := Lib.hid hul
      have H2 : Hid (RRdO w2 g row bs (behindO s)) := Lib.hid (by unfold behindO; rw [hbit]; exact h2)
      have Hm2 := Lib.hid (Hm.out.trans hm2 (fun _ _ h => h))
      clear hu hbit hdf h2 hm2 H1 Hm
      have hcv : wrap64 (u : Int) = sg u := by rw [wrap_sg, un_nat (by rw [M64_pow]; exact hul)]
      obtain ⟨d, hd⟩ : ∃ d, d = sg u := ⟨_, rfl⟩
      rw [← hd] at hcv
      have Hd := Lib.hid hd
      clear hul hd
      go_wp2_with fail
      refine (kind_any d _).mono ?_
      rintro e w3 ⟨rfl, rfl⟩
      by_cases hk : kindN d = 64
      · have hk2 : ((kindN d : Int) == 64) = true := by rw [hk]; rfl
        go_wp2_with fail
        go_ret2
        exact rdiff_end (Hdf.out.trans (by rw [Hd.out]; rfl)) Hf.out (decide_eq_true hk) H2.out Hm2.out rfl
      · have hk2 : ((kindN d : Int) == 64) = false := by simp; omega
        go_wp2_with fail
        go_ret2
        exact rdiff_end (Hdf.out.trans (by rw [Hd.out]; rfl)) Hf.out (decide_eq_false hk) H2.out Hm2.out rfl
end Go.Proofs.YtmcemeofkjfhhaaGreatDoor

/- The document's own times are read: GetTimes. -/
namespace Go.Proofs.YtmcemeofkjfhhaaGreatDoor
open Go.RowKit

theorem held4_any (n : Int) (k : Nat) (w : World) (hk : max 0 (min n 65535) = (k : Int)) :
    Calls Tryz.prog 53 #[.int .i64 n] w fun e w' => e = .returned (.int .i64 (k : Int)) ∧ w = w' := by
  obtain ⟨mx, hmx, hmx2⟩ : ∃ mx : Int, (if n < 0 then (0 : Int) else n) = mx ∧ mx = max n 0 := ⟨_, rfl, by split <;> omega⟩
  have hmn : (if 65535 < mx then (65535 : Int) else mx) = (k : Int) := by split <;> omega
  clear hk hmx2
  go_enter Tryz.func53, Tryz.ntmps53
  go_wp2
  go_ret
  exact ⟨rfl, rfl⟩
def RDecEnd (w w' : World) (g row : Nat) (bs : List Nat) (o : Option (List Int × Nat × Nat)) (e : Ending) : Prop :=
  match o with
  | some (xs, R, rem) => ∃ v, e = .returned (.tuple #[v, .bool true]) ∧ Own w.heap.size w' 2 v (cellsI xs) ∧ RRdO w' g row bs (some (R, rem)) ∧ Mod (fun i => i = g) w w'
  | none => e = .returned (.tuple #[.slice none 0 0, .bool false]) ∧ Mod (fun i => i = g) w w'
def RDec1 (w wr : World) (g row : Nat) (bs : List Nat) (k R rem i : Nat) (v : Value) (last : Nat) (s : Option (Nat × Nat)) : Prop :=
  ∃ xs, Own w.heap.size wr 2 v (cellsI xs) ∧ RRdO wr g row bs s ∧ Mod (fun i => i = g) w wr ∧ xs.length = i ∧ last < M64 ∧ (i = 0 → xs = [] ∧ last = 0 ∧ s = some (R, rem)) ∧
    (0 < i → ∃ prev, xs[i - 1]? = some prev ∧ (s = none → rdRow k R rem = none) ∧ ∀ R' rem', s = some (R', rem') → rdRow k R rem = (rdTimes (k - i) prev last R' rem').map fun p => (xs ++ p.1, p.2))
theorem RDec1.mk {w w1 w2 : World} {g row : Nat} {bs : List Nat} {k R rem i : Nat} {v2 : Value} {x : Int} {last' : Nat} {s' : Option (Nat × Nat)} {xs : List Int} (hgl : g < w.heap.size) (hrow : row < w.heap.size)
    (h1 : RRdO w1 g row bs s') (hm : Mod (fun i => i = g) w w1) (hown : Own w.heap.size w2 2 v2 (cellsI xs ++ [.int .i64 x])) (hb : Below w.heap.size w1 w2) (hxl : xs.length = i) (hl : last' < M64)
    (hn : (s' = none → rdRow k R rem = none) ∧ ∀ R' rem', s' = some (R', rem') → rdRow k R rem = (rdTimes (k - (i + 1)) x last' R' rem').map fun p => ((xs ++ [x]) ++ p.1, p.2)) :
    RDec1 w w2 g row bs k R rem (i + 1) v2 last' s' := by
  refine ⟨xs ++ [x], ?_, h1.mod (Mod.of_below hb) (by omega) (fun _ => by omega), hm.trans (Mod.of_below hb) (fun i hi h => by omega), by simp [hxl], hl, fun h => by omega, fun _ => ⟨x, ?_, hn⟩⟩
  · rw [cellsI_snoc]
    exact hown
  · rw [Nat.add_sub_cancel, List.getElem?_append_right (by omega), hxl, Nat.sub_self]
    rfl
/-- The step of a difference that was read, or not, as the document goes on. -/
theorem rdRow_next {k R rem i last : Nat} {prev : Int} {xs : List Int} {s : Option (Nat × Nat)} (hs : s.isSome = true) (hi : i < k) (hk : kindN (diffO s) = sz (formO s))
    (h : ∀ R' rem', s = some (R', rem') → rdRow k R rem = (rdTimes (k - i) prev last R' rem').map fun p => (xs ++ p.1, p.2)) :
    (behindO s = none → rdRow k R rem = none) ∧ ∀ R' rem', behindO s = some (R', rem') → rdRow k R rem = (rdTimes (k - (i + 1)) (nextX prev (nextL last (diffO s))) (nextL last (diffO s)) R' rem').map fun p => ((xs ++ [nextX prev (nextL last (diffO s))]) ++ p.1, p.2) := by
  have hf : formO s = hd (diffO s) := by
    rw [kind_hd] at hk
    exact (sz_inj (hd_le _) (formO_le s) hk).symm
  cases s with
  | none => cases hs
  | some p =>
    obtain ⟨R0, rem0⟩ := p
    have e1 := h R0 rem0 rfl
    obtain ⟨d1, d2⟩ := rdDiff_O R0 rem0
    obtain ⟨j, hj⟩ : ∃ j, k - i = j + 1 := ⟨k - i - 1, by omega⟩
    cases hd' : rdDiff R0 rem0 with
    | none =>
      have hb : behindO (some (R0, rem0)) = none := by
        rcases d2 hd' with h2 | h2
        · exact h2
        · exact absurd hf h2
      refine ⟨fun _ => ?_, fun R' rem' h2 => (by rw [hb] at h2; cases h2)⟩
      rw [e1, hj, rdTimes_more.2 hd']
      rfl
    | some q =>
      obtain ⟨d, R2, rem2⟩ := q
      obtain ⟨c1, c2, c3⟩ := d1 d R2 rem2 hd'
      refine ⟨fun h2 => (by rw [c2] at h2; cases h2), fun R' rem' h2 => ?_⟩
      rw [c2] at h2
      injection h2 with h2
      injection h2 with h3 h4
      subst h3 h4
      rw [e1, hj, rdTimes_more.1 d R2 rem2 hd', c1, show k - (i + 1) = j by omega, Option.map_map]
      congr 1
      funext p
      simp
theorem rdRow_stop {k R rem i last : Nat} {prev : Int} {xs : List Int} {s : Option (Nat × Nat)} (hs : s.isSome = true) (hi : i < k) (hk : ¬ kindN (diffO s) = sz (formO s))
    (h : ∀ R' rem', s = some (R', rem') → rdRow k R rem = (rdTimes (k - i) prev last R' rem').map fun p => (xs ++ p.1, p.2)) : rdRow k R rem = none := by
  cases s with
  | none => cases hs
  | some p =>
    obtain ⟨R0, rem0⟩ := p
    have e1 := h R0 rem0 rfl
    obtain ⟨d1, d2⟩ := rdDiff_O R0 rem0
    obtain ⟨j, hj⟩ : ∃ j, k - i = j + 1 := ⟨k - i - 1, by omega⟩
    have : rdDiff R0 rem0 = none := by
      cases hd' : rdDiff R0 rem0 with
      | none => rfl
      | some q =>
        obtain ⟨d, R2, rem2⟩ := q
        obtain ⟨c1, c2, c3⟩ := d1 d R2 rem2 hd'
        exact absurd (by rw [kind_hd, c3, c1]) hk
    rw [e1, hj, rdTimes_more.2 this]
    rfl
theorem nextL_u (last : Nat) (d : Int) : IntKind.u64.wrap ((last : Int) + (un d : Int)) = (nextL last d : Int) := by
  rw [IntKind.wrap_u64]
  unfold nextL
  have e : ((M64 : Nat) : Int) = 18446744073709551616 := rfl
  rw [Int.natCast_emod, e, Int.natCast_add]
theorem nextX_u (prev : Int) (last : Nat) : wrap64 (IntKind.u64.wrap ((un prev : Int) + (last : Int))) = nextX prev last := by
  have e : ((M64 : Nat) : Int) = 18446744073709551616 := rfl
  have h : IntKind.u64.wrap ((un prev : Int) + (last : Int)) = (((un prev + last) % M64 : Nat) : Int) := by rw [IntKind.wrap_u64, Int.natCast_emod, e, Int.natCast_add]
  rw [h, wrap_sg, un_nat (Nat.mod_lt _ (by decide))]
  rfl
set_option maxHeartbeats 2000000 in
set_option maxRecDepth 100000 in
theorem gettimes_any (g row R rem k : Nat) (bs : List Nat) (n : Int) (w : World) (hk : max 0 (min n 65535) = (k : Int)) (hr : RRd w g row bs R rem true) (hR : R < 2 ^ rem) (hrow : row < w.heap.size) :
    Calls Tryz.prog 30 #[.pointer (some ⟨g, 0, none⟩), .int .i64 n] w fun e w' => RDecEnd w w' g row bs (rdRow k R rem) e := by
  have H0 : Hid (RDec1 w w g row bs k R rem 0 (.slice none 0 0) 0 (some (R, rem))) := Lib.hid ⟨[], Own.nil _ _ _, ⟨hr, hR⟩, Mod.refl _ _, rfl, by decide, fun _ => ⟨rfl, rfl, rfl⟩, fun h => by omega⟩
  have hgl := Lib.hid hr.lt'
  have Hrow := Lib.hid hrow; have HR := Lib.hid hR; have Hk := Lib.hid hk
  have hk65 : k ≤ 65535 := by omega
  clear hr hR hrow hk
  go_enter Tryz.func30, Tryz.ntmps30
  go_wp2_with fail
  refine (held4_any n k _ Hk.out).mono ?_
  rintro e w' ⟨rfl, rfl⟩
  clear Hk
  go_wp2_with fail
  go_loopg [6, 7, 8] k (fun l s6 s7 s8 wr => ∃ (i last : Nat) (s : Option (Nat × Nat)), i + l = k ∧ s8 = .int .i64 (i : Int) ∧ s7 = .int .u64 (last : Int) ∧ RDec1 w wr g row bs k R rem i s6 last s)
  case atStart => exact ⟨0, 0, _, by omega, rfl, rfl, H0.out⟩
  case round =>
    obtain ⟨i, last, s, hil, rfl, rfl, hD⟩ := hrel
    have HD := Lib.hid hD; have Hil := Lib.hid hil
    clear hD hil H0
    obtain ⟨xs, hown, hro, hm, hxl, hl64, hi0, hi1⟩ := HD.out
    have Hro := Lib.hid hro; have Hm := Lib.hid hm; have Hown := Lib.hid hown; have Hxl := Lib.hid hxl
    have hfl := hro.flag
    clear hown hro hm hxl
    by_cases hin : i < k
    · cases hs : s.isSome with
      | false =>
        rw [hs] at hfl
        have hsn : s = none := by
          cases s with
          | none => rfl
          | some p => cases hs
        have Hnone : Hid (rdRow k R rem = none) := Lib.hid (by
          rcases Nat.eq_zero_or_pos i with h0 | h0
          · have := (hi0 h0).2.2
            rw [hsn] at this
            cases this
          · obtain ⟨_, _, h2, _⟩ := hi1 h0
            exact h2 hsn)
        clear hi0 hi1 hs hsn
        go_wp2_with fail
        go_ret2
        unfold RDecEnd
        rw [Hnone.out]
        exact ⟨rfl, Hm.out⟩
      | true =>
        rw [hs] at hfl
        have Hs := Lib.hid hs
        clear hs
        by_cases h0 : i = 0
        · obtain ⟨rfl, rfl, rfl⟩ := hi0 h0
          subst h0
          clear hi0 hi1
          go_wp2_with fail
          refine (rget_o g row 64 64 bs _ _ rfl (by decide) Hro.out).mono ?_
          rintro e w1 ⟨rfl, h1, hm1⟩
          obtain ⟨u, hu⟩ : ∃ u, u = (getO 64 (some (R, rem))).1 := ⟨_, rfl⟩
          have hu64 : u < 2 ^ 64 := by rw [hu]; exact getO_lt HR.out 64
          have hcv : wrap64 (u : Int) = sg u := by rw [wrap_sg, un_nat (by rw [M64_pow]; exact hu64)]
          have hN : Hid (((getO 64 (some (R, rem))).2 = none → rdRow k R rem = none) ∧ ∀ R' rem', (getO 64 (some (R, rem))).2 = some (R', rem') → rdRow k R rem = (rdTimes (k - (0 + 1)) (sg u) 0 R' rem').map fun p => (([] ++ [sg u]) ++ p.1, p.2)) :=
            Lib.hid ⟨rdRow_first hin, fun R' rem' h => by rw [hu]; exact rdRow_first2 hin h⟩
          rw [← hu]
          have Hown1 : Hid (Own w.heap.size w1 2 u6 (cellsI [])) := Lib.hid (hm1.owns Hown.out (fun k hk e => by have := (Hown.out.block k hk).1; have := hgl.out; omega))
          have H1 := Lib.hid h1; have Hm1 := Lib.hid (Hm.out.trans hm1 (fun _ _ h => h))
          have hsz := Hm1.out.size
          have hr1 : (cellsI []).length + 1 ≤ maxLen := by unfold maxLen; decide
          have hr2 : ((cellsI []).length + 1) * 8 ≤ 140737488355328 := by decide
          clear hu hu64 h1 hm1 hfl
          go_wp2_with (at_builtin; refine wpList_app1 rfl (.tmp 27) (.tmp 31) _ rfl elt64 rfl Hown1.out rfl rfl rfl hr1 hr2 hsz ?_; intro v' w2 HO HB)
          have HD2 : Hid (RDec1 w w2 g row bs k R rem (0 + 1) v' 0 (getO 64 (some (R, rem))).2) := Lib.hid (RDec1.mk hgl.out Hrow.out H1.out Hm1.out HO.out HB.out rfl (by decide) hN.out)
          go_roundg (gk - 1)
          case measure => have := Hil.out; omega
          case rel => exact ⟨0 + 1, 0, _, by have := Hil.out; omega, rfl, rfl, HD2.out⟩
        · have hb0 : ((i : Int) == 0) = false := by simp; omega
          obtain ⟨prev, hpv, h1n, h1i⟩ := hi1 (by omega)
          have H1i := Lib.hid h1i; have Hpv := Lib.hid hpv
          clear hi0 hi1 h1i h1n hpv
          go_wp2_with fail
          refine (rdiff_o g row bs s _ Hro.out).mono ?_
          rintro e w1 ⟨rfl, h1, hm1⟩
          have H1 := Lib.hid h1; have Hm1 := Lib.hid (Hm.out.trans hm1 (fun _ _ h => h))
          have Hown1 : Hid (Own w.heap.size w1 2 u6 (cellsI xs)) := Lib.hid (hm1.owns Hown.out (fun k hk e => by have := (Hown.out.block k hk).1; have := hgl.out; omega))
          clear h1 hm1 hfl
          by_cases hkd : kindN (diffO s) = sz (formO s)
          · rw [decide_eq_true hkd]
            have hN := Lib.hid (rdRow_next (i := i) (last := last) (prev := prev) (xs := xs) Hs.out hin hkd H1i.out)
            obtain ⟨gr, cap, hv, _, hglt⟩ := Hown1.out.form' (by rw [cellsI_length, Hxl.out]; omega)
            have hcell : w1.cell? ⟨gr, i - 1, none⟩ = some (.int .i64 prev) := by
              have h := Hown1.out.cell' hv (i - 1) (by rw [cellsI_length, Hxl.out]; omega)
              rw [h, cellsI_get, Hpv.out]
              rfl
            rw [cellsI_length, Hxl.out] at hv
            subst hv
            have hdu : IntKind.u64.wrap (diffO s) = (un (diffO s) : Int) := wrapU_un _
            have hpu : IntKind.u64.wrap prev = (un prev : Int) := wrapU_un prev
            obtain ⟨l', hl'⟩ : ∃ l', l' = nextL last (diffO s) := ⟨_, rfl⟩
            have hlu : IntKind.u64.wrap ((last : Int) + (un (diffO s) : Int)) = (l' : Int) := by rw [hl']; exact nextL_u _ _
            obtain ⟨x, hx⟩ : ∃ x, x = nextX prev l' := ⟨_, rfl⟩
            obtain ⟨xu, hxu⟩ : ∃ xu : Nat, xu = (un prev + l') % M64 := ⟨_, rfl⟩
            have hxu1 : IntKind.u64.wrap ((un prev : Int) + (l' : Int)) = (xu : Int) := by
              have e : ((M64 : Nat) : Int) = 18446744073709551616 := rfl
              rw [hxu, IntKind.wrap_u64, Int.natCast_emod, e, Int.natCast_add]
            have hxu2 : wrap64 (xu : Int) = x := by rw [← hxu1, hx]; exact nextX_u _ _
            rw [← hl', ← hx] at hN
            have Hl' := Lib.hid hl'
            have hi3 : (0 : Int) ≤ (i : Int) - 1 := by omega
            have hi4 : (1 : Int) ≤ (i : Int) := by omega
            have hsz := Hm1.out.size
            have hr1 : (cellsI xs).length + 1 ≤ maxLen := by rw [cellsI_length, Hxl.out]; unfold maxLen; omega
            have hr2 : ((cellsI xs).length + 1) * 8 ≤ 140737488355328 := by rw [cellsI_length, Hxl.out]; omega
            clear hkd hl' hx hxu
            go_wp2_with (at_builtin; refine wpList_app1 rfl (.tmp 44) (.tmp 54) _ rfl elt64 rfl Hown1.out rfl rfl rfl hr1 hr2 hsz ?_; intro v' w2 HO HB)
            have HD2 : Hid (RDec1 w w2 g row bs k R rem (i + 1) v' l' (behindO s)) := Lib.hid (RDec1.mk hgl.out Hrow.out H1.out Hm1.out HO.out HB.out Hxl.out (by rw [Hl'.out]; exact nextL_lt _ _) hN.out)
            go_roundg (gk - 1)
            case measure => have := Hil.out; omega
            case rel => exact ⟨i + 1, l', _, by have := Hil.out; omega, by go_num, rfl, HD2.out⟩
          · rw [decide_eq_false hkd]
            have Hnone := Lib.hid (rdRow_stop Hs.out hin hkd H1i.out)
            clear hkd
            go_wp2_with fail
            go_ret2
            unfold RDecEnd
            rw [Hnone.out]
            exact ⟨rfl, Hm1.out⟩
    · have hik : i = k := by have := Hil.out; omega
      have Hres : Hid ((s = none → rdRow k R rem = none) ∧ ∀ R' rem', s = some (R', rem') → rdRow k R rem = some (xs, R', rem')) := Lib.hid (by
        rcases Nat.eq_zero_or_pos i with h0 | h0
        · obtain ⟨b1, b2, b4⟩ := hi0 h0
          subst b1 b4
          have hk0 : k = 0 := by omega
          subst hk0
          refine ⟨fun h => (by cases h), fun R' rem' h => ?_⟩
          injection h with h
          injection h with h3 h4
          subst h3 h4
          rfl
        · obtain ⟨prev, _, b1, b2⟩ := hi1 h0
          refine ⟨b1, fun R' rem' h => ?_⟩
          rw [b2 R' rem' h, hik, Nat.sub_self]
          show some (xs ++ [], R', rem') = _
          rw [List.append_nil])
      clear hi0 hi1 hik
      have hres1 : s = none → Hid (rdRow k R rem = none) := fun h => Lib.hid (Hres.out.1 h)
      cases s with
      | none =>
        have hres2 := hres1 rfl
        have hfl' : wr.cell? ⟨g, 2, none⟩ = some (.bool true) := hfl
        clear Hres hres1 hfl
        go_wp2_with fail
        go_ret2
        unfold RDecEnd
        rw [hres2.out]
        exact ⟨rfl, Hm.out⟩
      | some p =>
        obtain ⟨R', rem'⟩ := p
        have hres2 : Hid (rdRow k R rem = some (xs, R', rem')) := Lib.hid (Hres.out.2 R' rem' rfl)
        have hfl' : wr.cell? ⟨g, 2, none⟩ = some (.bool false) := hfl
        clear Hres hres1 hfl
        go_wp2_with fail
        go_ret2
        unfold RDecEnd
        rw [hres2.out]
        exact ⟨_, rfl, Hown.out, Hro.out, Hm.out⟩
end Go.Proofs.YtmcemeofkjfhhaaGreatDoor

/- A row of samples read in a codec, as the document has it: Decode. -/
namespace Go.Proofs.YtmcemeofkjfhhaaGreatDoor
open Go.RowKit

/-- The first i samples. -/
def RowTo' (w wr : World) (l : List (Int × Nat)) (i : Nat) (v : Value) : Prop := OwnS w.heap.size wr v (l.take i) ∧ Mod (fun _ => False) w wr
/-- append(l, p) as a step of a region that draws its order. -/
theorem step_appS {ops : Array Oper} {o : Oper} {a : Act} {K : Act → World → Prop} {Q : Exit → Act → World → Prop} {E : Prop} {w : World} (hgd : o.guard = none) (s x : Operand)
    (ho : o.op = .call { callee := .builtin .append, args := #[s, x], argTypes := #[23, 23] })
    {B H : Nat} {v : Value} {l : List (Int × Nat)} {p : Int × Nat} {te : TypeId} (hs : a.eval s = v) (hown : OwnS B w v l) (hx : a.eval x = .slice (some ⟨H, 0, none⟩) 1 1) (hH : w.heap.size = H)
    (hm : l.length + 1 ≤ maxLen) (hb : (l.length + 1) * 16 ≤ 140737488355328) (hB : B ≤ w.heap.size)
    (h : ∀ v' w', Hid (OwnS B w' v' (l ++ [p])) → Hid (Below B w w') → K (a.put o.dst v') w') :
    if Region.wanted o (yielded ops a.tmps) = true then Oper.wp Tryz.prog o a (w.alloc (.cells #[.int .i64 p.1, .int .u64 (p.2 : Int)] te)) K Q else E := by
  subst hH
  have hw : Region.wanted o (yielded ops a.tmps) = true := by simp [Region.wanted, hgd]
  rw [if_pos hw]
  obtain ⟨i, hi, hz0, hz1, hz2⟩ := info_parts infoS
  obtain ⟨v', w', hr, h2, h3, _, _⟩ := run_append_own_at (P := Tryz.prog) (w.alloc (.cells #[.int .i64 p.1, .int .u64 (p.2 : Int)] te)) B 23 o.type 25 i (.agg #[.int .i64 0, .int .u64 0]) 2 16 Tryz.underlying23 hi hz0 hz1 hz2 rfl (by decide) v l.length (cellsS l) (hown.alloc _) ⟨w.heap.size, 0, none⟩ 1 1
    [.int .i64 p.1, .int .u64 (p.2 : Int)] rfl (cell_two_new _ _ _ _) (fun u hu => by simp at hu; rcases hu with rfl | rfl <;> rfl) hm hb (by simp; omega)
  unfold Oper.wp execOp
  simp only [ho, resolve, invoke, builtin, Sem.run_bind, Sem.run_pure, Result.andThen_ok, List.map_toArray, List.map_cons, List.map_nil, hs, hx, hr]
  refine h v' w' ?_ ?_
  · show OwnS B w' v' (l ++ [p])
    unfold OwnS
    rw [List.length_append, cellsS_app]
    exact h2
  · exact ((Below.refl B w).alloc hB _).trans ((Below.refl B _).grown h3 (by simp; omega) (fun k hk => (hown.block k hk).1))
set_option maxHeartbeats 4000000 in
set_option maxRecDepth 100000 in
theorem rkdec_any (tag m : Int) (A : Option Addr) (n cap : Nat) (bs : List Nat) (w : World) (hs : Rds w w.heap.size A n (cells8 bs)) (hlt : lt256 bs) (hnc : n ≤ cap) (hcm : cap ≤ maxLen) (hn : n ≤ 1000000) (hw0 : 0 < w.heap.size) :
    Calls Tryz.prog 15 #[.int .i64 tag, .slice A n cap, .int .i64 m] w fun e w' => EncS w w' (decK tag m bs) e := by
  have hul : bs.length = n := by have := hs.1; rwa [cells8_length] at this
  have hcall := vrget_any A n cap _ bs w hs hlt (Nat.le_trans hnc hcm)
  obtain ⟨K, hK⟩ : ∃ K, (dec bs).1 = K := ⟨_, rfl⟩
  obtain ⟨a, ha⟩ : ∃ a, (dec bs).2 = a := ⟨_, rfl⟩
  have han : a ≤ n := by
    rw [← ha, ← hul]
    rcases Nat.eq_zero_or_pos (dec bs).2 with h | h
    · omega
    · exact (dec_some hlt h).1
  rw [hK, ha] at hcall
  have Hcall := Lib.hid hcall
  by_cases h0 : m < 0
  · have Hno : Hid (decK tag m bs = none) := Lib.hid (decK_out (.inl h0))
    clear hs hlt hnc hcm hcall hK ha hul
    go_enter Tryz.func15, Tryz.ntmps15
    go_wp2_with fail
    refine Hcall.out.mono ?_
    rintro e w' ⟨rfl, rfl⟩
    go_wp2_with fail
    go_ret2
    exact EncS.of_none Hno.out (Mod.refl _ _)
  by_cases h1 : 65535 < m
  · have Hno : Hid (decK tag m bs = none) := Lib.hid (decK_out (.inr h1))
    clear hs hlt hnc hcm hcall hK ha hul
    go_enter Tryz.func15, Tryz.ntmps15
    go_wp2_with fail
    refine Hcall.out.mono ?_
    rintro e w' ⟨rfl, rfl⟩
    go_wp2_with fail
    go_ret2
    exact EncS.of_none Hno.out (Mod.refl _ _)
  obtain ⟨N, hNm⟩ : ∃ N : Nat, m = (N : Int) := ⟨m.toNat, by omega⟩
  subst hNm
  have hN : N ≤ 65535 := by omega
  have hN0 : ¬ ((N : Nat) : Int) < 0 := by omega
  have hvia := decK_via (tag := tag) (bs := bs) hN
  obtain ⟨r, hr⟩ : ∃ r, n - a = r := ⟨_, rfl⟩
  have hri : (n : Int) - (a : Int) = (r : Int) := by omega
  have hcv : IntKind.u64.wrap (r : Int) = (r : Int) := by rw [IntKind.wrap_u64]; omega
  by_cases ha0 : a = 0
  · have hab : ((a : Int) == 0) = true := by simp; omega
    have Hno : Hid (decK tag (N : Int) bs = none) := Lib.hid (by rw [hvia, readSm_no (timesOf_no0 (by rw [ha]; exact ha0))])
    clear hs hlt hnc hcm hcall hK ha hul hvia ha0 hr
    go_enter Tryz.func15, Tryz.ntmps15
    go_wp2_with fail
    refine Hcall.out.mono ?_
    rintro e w' ⟨rfl, rfl⟩
    go_wp2_with fail
    go_ret2
    exact EncS.of_none Hno.out (Mod.refl _ _)
  have hab : ((a : Int) == 0) = false := by simp; omega
  by_cases hKr : r < K
  · have hKi : (r : Int) < (K : Int) := by omega
    have Hno : Hid (decK tag (N : Int) bs = none) := Lib.hid (by rw [hvia, readSm_no (timesOf_no1 (by rw [ha, hK, hul, hr]; exact hKr))])
    clear hs hlt hnc hcm hcall hK ha hul hvia ha0 hr
    go_enter Tryz.func15, Tryz.ntmps15
    go_wp2_with fail
    refine Hcall.out.mono ?_
    rintro e w' ⟨rfl, rfl⟩
    go_wp2_with fail
    go_ret2
    exact EncS.of_none Hno.out (Mod.refl _ _)
  have hKi : ¬ (r : Int) < (K : Int) := by omega
  have hb1 : decide (((N : Nat) : Int) < 0) = false := by simp
  have hb2 : decide ((65535 : Int) < ((N : Nat) : Int)) = false := by simp; omega
  have hb3 : decide (r < K) = false := by simp; omega
  have hKs : K ≤ 1000000 := by omega
  obtain ⟨s, hs'⟩ : ∃ s, s = a + K := ⟨_, rfl⟩
  have hsi : (a : Int) + (K : Int) = (s : Int) := by omega
  have hsn : s ≤ n := by omega
  have hsa : s - a = K := by omega
  have hai : (a : Int) ≤ (s : Int) := by omega
  have hsni : (s : Int) ≤ (n : Int) := by omega
  have hsci : (s : Int) ≤ (cap : Int) := by omega
  have haci : (a : Int) ≤ (cap : Int) := by omega
  have ha0i : (0 : Int) ≤ (a : Int) := by omega
  have hs0i : (0 : Int) ≤ (s : Int) := by omega
  obtain ⟨A1, hA1⟩ : ∃ A1, (if cap = a then A else A.map (·.add a)) = A1 := ⟨_, rfl⟩
  obtain ⟨A2, hA2⟩ : ∃ A2, (if cap = s then A else A.map (·.add s)) = A2 := ⟨_, rfl⟩
  have hr1 : Rds w w.heap.size A1 K (cells8 ((bs.drop a).take K)) := by
    have h := (hs.drop han hnc).take (k := K) (by omega)
    rw [show ((cells8 bs).drop a).take K = cells8 ((bs.drop a).take K) by simp [cells8, List.map_drop, List.map_take]] at h
    rw [← hA1]
    exact h
  have hr2 : Rds w w.heap.size A2 (n - s) (cells8 (bs.drop s)) := by
    have h := hs.drop hsn hnc
    rw [show (cells8 bs).drop s = cells8 (bs.drop s) by simp [cells8, List.map_drop]] at h
    rw [← hA2]
    exact h
  have hlt1 : lt256 ((bs.drop a).take K) := fun b hb => hlt b (List.mem_of_mem_drop (List.mem_of_mem_take hb))
  have hlt2 : lt256 (bs.drop s) := fun b hb => hlt b (List.mem_of_mem_drop hb)
  obtain ⟨row, hrow, hrr⟩ := RRd.new (c := cap - a) hr1 hlt1 hKs hw0
  obtain ⟨W, hW⟩ : ∃ W, W = w.alloc (.cells #[.slice A1 K (cap - a), .int .i64 0, .bool false] 68) := ⟨_, rfl⟩
  rw [← hW] at hrr
  have hmW : Mod (fun _ => False) w W := by rw [hW]; exact (Mod.refl _ _).alloc _
  have hto := timesOf_at (N := N) ha hK ha0 (by rw [hul, hr]) hKr
  rw [List.drop_drop, ← hs'] at hto
  obtain ⟨V, hV⟩ : ∃ V, V = val ((bs.drop a).take K) := ⟨_, rfl⟩
  have hVlt : V < 2 ^ (8 * K) := by
    have h := val_lt hlt1
    rw [List.length_take, List.length_drop, hul, hr, Nat.min_eq_left (by omega), ← hV] at h
    exact h
  rw [← hV] at hrr hto
  obtain ⟨L2, hL2⟩ : ∃ L2, n - s = L2 := ⟨_, rfl⟩
  obtain ⟨c2, hc2⟩ : ∃ c2, cap - s = c2 := ⟨_, rfl⟩
  rw [hL2] at hr2
  have hLc : L2 ≤ c2 := by omega
  have hL2s : L2 ≤ 1000000 := by omega
  have HW := Lib.hid hW; have HmW := Lib.hid hmW; have Hrr := Lib.hid hrr; have Hrow := Lib.hid (Nat.lt_of_lt_of_le hrow hmW.size); have HVlt := Lib.hid hVlt; have Hto := Lib.hid hto; have Hr2 := Lib.hid hr2; have Hlt := Lib.hid hlt; have Hlt2 := Lib.hid hlt2; have Hvia := Lib.hid hvia; have Hs := Lib.hid hs; have Hw0 := Lib.hid hw0
  have Hc2m : Hid (c2 ≤ maxLen) := Lib.hid (by omega)
  have HLc := Lib.hid hLc
  clear hs hlt hcm hcall hK ha hul hvia ha0 hr hKr hs' hr1 hr2 hlt1 hlt2 hrow hrr hW hmW hto hV hVlt hnc hLc hw0
  go_enter Tryz.func15, Tryz.ntmps15
  go_wp2_with fail
  refine Hcall.out.mono ?_
  rintro e w' ⟨rfl, rfl⟩
  clear Hcall
  go_upto_region 4 with fail
  clear hcv hri hab hKi h1 hN0 h0 hb1 hb2 hb3
  go_wp2_with fail
  rw [← HW.out]
  refine (gettimes_any w.heap.size row V (8 * K) N ((bs.drop a).take K) (N : Int) W (by omega) Hrr.out HVlt.out Hrow.out).mono ?_
  intro e w2 hd
  clear HW hA1 hai haci ha0i hsa
  have hd' : RDecEnd W w2 w.heap.size row ((bs.drop a).take K) (rdRow N V (8 * K)) e := hd
  clear hd
  have htimes : ∃ (o : Option (List Int)) (v : Value), e = .returned (.tuple #[v, .bool o.isSome]) ∧ timesOf N bs = o.map (fun ts => (ts, bs.drop s)) ∧ (∀ ts, o = some ts → ts.length = N ∧ Own W.heap.size w2 2 v (cellsI ts)) ∧ Mod (fun _ => False) w w2 := by
    cases hv : rdRow N V (8 * K) with
    | none =>
      rw [hv] at hd'
      obtain ⟨rfl, hm2⟩ := hd'
      exact ⟨none, _, rfl, by rw [Hto.out, hv]; rfl, (fun ts h => by cases h), HmW.out.trans hm2 (fun i hi e => by omega)⟩
    | some p =>
      obtain ⟨ts, R2, rem2⟩ := p
      have hlen := (rdRow_some hv HVlt.out).1
      rw [hv] at hd'
      obtain ⟨v, rfl, hown, _, hm2⟩ := hd'
      exact ⟨some ts, v, rfl, by rw [Hto.out, hv]; rfl, (fun ts' h => by injection h with h; subst h; exact ⟨hlen, hown⟩), HmW.out.trans hm2 (fun i hi e => by omega)⟩
  obtain ⟨o, v1, rfl, hto2, hown1, hm2⟩ := htimes
  obtain ⟨ob, hob⟩ : ∃ ob, o.isSome = ob := ⟨_, rfl⟩
  rw [hob]
  have Hob := Lib.hid hob; have Hto2 := Lib.hid hto2; have Hown1 := Lib.hid hown1; have Hm2 := Lib.hid hm2
  have Hr22 := Lib.hid (Hr2.out.new hm2).fit; have Hs22 := Lib.hid (Hs.out.mod hm2 (Nat.le_refl _) (fun _ _ h => h))
  have Hw2 : Hid (0 < w2.heap.size) := Lib.hid (Nat.lt_of_lt_of_le Hw0.out hm2.size)
  clear hd' hob hto2 hown1 hm2 Hr2 Hto HVlt Hrr Hrow
  go_wp2_with fail
  refine (rread_any tag A2 L2 c2 N (bs.drop s) w2 (Hr22.out.fit) Hlt2.out HLc.out Hc2m.out hL2s hN Hw2.out).mono ?_
  intro e w3 he
  have he' : RdE w2 w3 (readK tag N (bs.drop s)) e := he
  clear he hA2 hsni hsci hs0i hL2 hc2 hsi
  cases o with
  | none =>
    obtain rfl : ob = false := Hob.out.symm
    have hnone : decK tag (N : Int) bs = none := by rw [Hvia.out, readSm_no Hto2.out]
    have hend : ∃ v2 b2, e = .returned (.tuple #[v2, .bool b2]) ∧ Mod (fun _ => False) w2 w3 := by
      cases hv : readK tag N (bs.drop s) with
      | none => obtain ⟨v, h1, h2⟩ := RdE.none_ he' hv; exact ⟨v, _, h1, h2⟩
      | some vs => obtain ⟨v, h1, _, h2⟩ := RdE.some_ he' hv; exact ⟨v, _, h1, h2⟩
    obtain ⟨v2, b2, rfl, hm3⟩ := hend
    have Hno := Lib.hid hnone; have Hm3 := Lib.hid (Hm2.out.trans hm3 (fun _ _ h => h))
    clear hnone hm3 he'
    go_wp2_with fail
    go_ret2
    exact EncS.of_none Hno.out Hm3.out
  | some ts =>
    obtain rfl : ob = true := Hob.out.symm
    have hat : readSm tag N bs = (readK tag N (bs.drop s)).map fun vs => ts.zip vs := readSm_at Hto2.out
    obtain ⟨htl, hot⟩ := Hown1.out ts rfl
    cases hv : readK tag N (bs.drop s) with
    | none =>
      obtain ⟨v2, rfl, hm3⟩ := RdE.none_ he' hv
      have hnone : decK tag (N : Int) bs = none := by rw [Hvia.out, hat, hv]; rfl
      have Hno := Lib.hid hnone; have Hm3 := Lib.hid (Hm2.out.trans hm3 (fun _ _ h => h))
      clear hnone hm3 he' hat hv hot htl
      go_wp2_with fail
      go_ret2
      exact EncS.of_none Hno.out Hm3.out
    | some vs =>
      obtain ⟨v2, rfl, hov, hm3⟩ := RdE.some_ he' hv
      have hvl := (readK_some Hlt2.out hv).1
      have hsm : readSm tag N bs = some (ts.zip vs) := by rw [hat, hv]; rfl
      obtain ⟨hll, hgl⟩ := readSm_some Hlt.out hsm
      have hdk : decK tag (N : Int) bs = if encK tag (ts.zip vs) = some bs then some (ts.zip vs) else none := by rw [Hvia.out, hsm]
      obtain ⟨A4, c4, rfl, hr4⟩ := own_form hot
      rw [htl] at hr4
      obtain ⟨A5, L5, c5, rfl, HL5, _, hr5⟩ := own_formUN hov
      have hL5 : L5 = N := by have := HL5.out; omega
      subst hL5
      rw [htl]
      have Hr4 := Lib.hid (hr4.new hm3).fit; have Hr5 := Lib.hid hr5
      obtain ⟨l, hl⟩ : ∃ l, l = ts.zip vs := ⟨_, rfl⟩
      rw [← hl] at hdk hll hgl
      have Hdk := Lib.hid hdk; have Hll := Lib.hid hll; have Hgl := Lib.hid hgl; have Hl := Lib.hid hl
      have Hm3 := Lib.hid (Hm2.out.trans hm3 (fun _ _ h => h)); have Hs3 := Lib.hid (Hs22.out.mod hm3 Hm2.out.size (fun _ _ h => h))
      have R0 : Hid (RowTo' w3 w3 l 0 (.slice none 0 0)) := Lib.hid ⟨OwnS.nil _ _, Mod.refl _ _⟩
      have hcs : Tryz.prog.cellsOf 25 = 2 := by kernel_rfl
      clear he' hat hv hot htl hov hm3 hvl hsm hll hgl hdk hl hr4 hr5 Hm2 Hs22 Hr22 Hob Hto2 Hown1
      go_wp2_with fail
      go_loopg [14, 15] L5 (fun k s14 s15 wr => ∃ i : Nat, i + k = L5 ∧ s15 = .int .i64 (i : Int) ∧ RowTo' w3 wr l i s14)
      case atStart => exact ⟨0, by omega, rfl, R0.out⟩
      case round =>
        obtain ⟨i, hik, rfl, hR⟩ := hrel
        have Hik := Lib.hid hik; have HRo := Lib.hid hR
        clear hik hR R0
        by_cases hin : i < L5
        · obtain ⟨ad4, T, rfl, hT, hcT⟩ := Hr4.out.seesI.at_ hin (Nat.le_refl _) HRo.out.2 (fun _ _ h => h)
          obtain ⟨ad5, V5, rfl, hV, hcV⟩ := Hr5.out.at2 hin (Nat.le_refl _) HRo.out.2 (fun _ _ h => h)
          have hli : l[i]? = some (T, V5) := by rw [Hl.out]; exact (List.getElem?_zip_eq_some (z := (T, V5))).2 ⟨hT, hV⟩
          have Hli := Lib.hid hli
          have hini : (i : Int) < (L5 : Int) := by omega
          have hlen : (l.take i).length ≤ 65535 := by rw [List.length_take]; omega
          have HR1 : Hid ((l.take i).length + 1 ≤ maxLen ∧ ((l.take i).length + 1) * 16 ≤ 140737488355328) := Lib.hid ⟨by unfold maxLen; omega, by omega⟩
          clear hT hV hli hlen
          go_upto_region 12 with fail
          have HOd : Hid (OwnS w3.heap.size wr.drew u14 (l.take i)) := Lib.hid HRo.out.1
          have Hmd : Hid (Mod (fun _ => False) w3 wr.drew) := Lib.hid HRo.out.2.drew
          have hszd := Hmd.out.size
          go_region_law ((refine step_appS (p := (T, V5)) rfl (.tmp 91) (.tmp 101) rfl rfl HOd.out rfl rfl HR1.out.1 HR1.out.2 hszd ?_; intro v6 w6 HO6 HB6))
          all_goals (
            have HR2 : Hid (RowTo' w3 w6 l (i + 1) v6) := Lib.hid ⟨by
              have e : l.take (i + 1) = l.take i ++ [(T, V5)] := by
                obtain ⟨hi, he⟩ := List.getElem?_eq_some_iff.1 Hli.out
                rw [List.take_succ_eq_append_getElem hi, he]
              rw [e]
              exact HO6.out, Hmd.out.trans (Mod.of_below HB6.out) (fun i hi h => by omega)⟩
            simp only [Act.put, List.getElem_toArray, List.getElem_cons_succ, List.getElem_cons_zero, List.setIfInBounds_toArray, List.set_cons_succ, List.set_cons_zero]
            go_wp2_with fail
            go_roundg (gk - 1)
            case measure => have := Hik.out; omega
            case rel => exact ⟨i + 1, by have := Hik.out; omega, by go_num, HR2.out⟩)
        · have hi : i = L5 := by have := Hik.out; omega
          obtain ⟨k1, k2⟩ := HRo.out
          rw [List.take_of_length_le (by rw [Hll.out]; omega)] at k1
          have k1' := k1
          obtain ⟨A6, L6, c6, hu6, HL6, _, _, hr6⟩ := k1.formN
          subst hu6
          have hL6 : L6 = L5 := by have := HL6.out; have := Hll.out; omega
          subst hL6
          have Hr6 := Lib.hid hr6; have Ho6 := Lib.hid (k1'.mono Hm3.out.size); have Hm6 := Lib.hid (Hm3.out.trans k2 (fun _ _ h => h)); have Hs6 := Lib.hid (Hs3.out.mod k2 Hm3.out.size (fun _ _ h => h))
          clear hi k1 k1' k2 hr6 HRo
          go_wp2_with fail
          refine (rkenc_any tag A6 L6 c6 l wr Hr6.out Hgl.out (by omega)).mono ?_
          intro e w7 he
          have he' : EncB wr w7 (encK tag l) e := he
          clear he
          cases ho : encK tag l with
          | none =>
            obtain ⟨rfl, hm7⟩ := EncB.none_ he' ho
            have Hno : Hid (decK tag (L6 : Int) bs = none) := Lib.hid (by rw [Hdk.out, ho, if_neg (by intro h; cases h)])
            have Hm7 := Lib.hid (Hm6.out.trans hm7 (fun _ _ h => h))
            clear he' ho hm7
            go_wp2_with fail
            go_ret2
            exact EncS.of_none Hno.out Hm7.out
          | some b2 =>
            obtain ⟨v7, rfl, ho7, hm7⟩ := EncB.some_ he' ho
            have hb256 := encK_256 ho
            have hdk2 : decK tag (L6 : Int) bs = if b2 = bs then some l else none := by
              rw [Hdk.out, ho]
              by_cases h : b2 = bs
              · rw [if_pos (by rw [h]), if_pos h]
              · rw [if_neg (by intro e; injection e with e; exact h e), if_neg h]
            obtain ⟨A7, L7, c7, rfl, HL7, _, _, hr7⟩ := own_formN8 ho7
            obtain ⟨s1, hs1⟩ : ∃ s1, strOf b2 = s1 := ⟨_, rfl⟩
            obtain ⟨s2, hs2⟩ : ∃ s2, strOf bs = s2 := ⟨_, rfl⟩
            have hcv1 : (convert 29 9 (.slice A7 L7 c7)).run Tryz.prog w7 = .ok (.string (strOf b2)) w7 := conv_rds Tryz.underlying29 Tryz.underlying5 Tryz.underlying9 w7 hr7 hb256
            have hcv2 : (convert 29 9 (.slice A n cap)).run Tryz.prog w7 = .ok (.string (strOf bs)) w7 := conv_rds Tryz.underlying29 Tryz.underlying5 Tryz.underlying9 w7 (Hs6.out.mod hm7 (Nat.le_trans Hm6.out.size (Nat.le_refl _)) (fun _ _ h => h)) Hlt.out
            rw [hs1] at hcv1
            rw [hs2] at hcv2
            have Hm7 := Lib.hid (Hm6.out.trans hm7 (fun _ _ h => h)); have Ho7 := Lib.hid (Ho6.out.mod hm7)
            by_cases hb : b2 = bs
            · obtain ⟨e1, e2⟩ := str_ne hs1 hs2 hb256 Hlt.out (show decide (b2 = bs) = true by simp [hb])
              have Hyes : Hid (decK tag (L6 : Int) bs = some l) := Lib.hid (by rw [hdk2, if_pos hb])
              clear he' ho ho7 hm7 hb256 hdk2 hr7 hs1 hs2 hb
              go_wp2_with fail
              go_ret2
              exact EncS.of_some Hyes.out Ho7.out Hm7.out
            · obtain ⟨e1, e2⟩ := str_ne hs1 hs2 hb256 Hlt.out (show decide (b2 = bs) = false by simp [hb])
              have Hno : Hid (decK tag (L6 : Int) bs = none) := Lib.hid (by rw [hdk2, if_neg hb])
              clear he' ho ho7 hm7 hb256 hdk2 hr7 hs1 hs2 hb
              go_wp2_with fail
              go_ret2
              exact EncS.of_none Hno.out Hm7.out
end Go.Proofs.YtmcemeofkjfhhaaGreatDoor

/- The codec that takes the fewest bytes, as the document has it: Best. -/
namespace Go.Proofs.YtmcemeofkjfhhaaGreatDoor
open Go.RowKit

set_option maxHeartbeats 1000000 in
set_option maxRecDepth 100000 in
theorem rkbest_any (A : Option Addr) (n c : Nat) (l : List (Int × Nat)) (w : World) (hs : RdsS w w.heap.size A n l) (hg : GoodS l) (hn : n ≤ 1000000) :
    Calls Tryz.prog 12 #[.slice A n c] w fun e w' => ∃ v, e = .returned (.tuple #[.int .i64 (bestK l).1, v]) ∧ Own w.heap.size w' 5 v (cells8 (bestK l).2) ∧ Mod (fun _ => False) w w' := by
  have Hs := Lib.hid hs; have Hg := Lib.hid hg
  have H0 : Hid (BestTo w w l 0 0 (.slice none 0 0)) := Lib.hid ⟨rfl, Own.nil _ _ _, Mod.refl _ _⟩
  clear hs hg
  go_enter Tryz.func12, Tryz.ntmps12
  go_wp2_with fail
  go_loopg [4, 5, 6] 6 (fun k s4 s5 s6 wr => ∃ (i j : Nat) (bt : Int), i + k = 6 ∧ j = i + 1 ∧ s6 = .int .i64 (j : Int) ∧ s4 = .int .i64 bt ∧ BestTo w wr l i bt s5)
  case atStart => exact ⟨0, 1, 0, rfl, rfl, rfl, rfl, H0.out⟩
  case round =>
    obtain ⟨i, j, bt, hik, hj, rfl, rfl, hB⟩ := hrel
    have Hik := Lib.hid hik; have HB := Lib.hid hB; have Hj := Lib.hid hj
    clear hik hB hj H0
    by_cases hi6 : i < 6
    · have hj6 : (j : Int) ≤ 6 := by have := Hj.out; omega
      obtain ⟨A5, L5, c5, rfl, HL5, _, _, _⟩ := own_formN8 HB.out.2.1
      have Hs2 := Lib.hid (Hs.out.new HB.out.2.2).fit
      go_wp2_with fail
      refine (rkenc_any (j : Int) A n c l wr ((Hs.out.mod HB.out.2.2 (Nat.le_refl _) (fun _ _ h => h)).fit) Hg.out hn).mono ?_
      intro e w1 he
      have he' : EncB wr w1 (encK (j : Int) l) e := he
      clear he
      cases ho : encK (j : Int) l with
      | none =>
        obtain ⟨rfl, hm1⟩ := EncB.none_ he' ho
        have HB2 : Hid (BestTo w w1 l (i + 1) bt (.slice A5 L5 c5)) := Lib.hid (HB.out.stay hm1 (best_none (by rw [← Hj.out]; exact ho)))
        clear he' ho hm1
        go_wp2_with fail
        go_roundg (gk - 1)
        case measure => have := Hik.out; omega
        case rel => exact ⟨i + 1, j + 1, bt, by have := Hik.out; omega, by have := Hj.out; omega, by go_num, rfl, HB2.out⟩
      | some b =>
        obtain ⟨v1, rfl, ho1, hm1⟩ := EncB.some_ he' ho
        obtain ⟨A1, L1, c1, rfl, HL1, _, _, _⟩ := own_formN8 ho1
        have hbs : bestTo l (i + 1) = if (bestTo l i).1 = 0 ∨ b.length < (bestTo l i).2.length then ((j : Int), b) else bestTo l i := by rw [best_some (l := l) (i := i) (b := b) (by rw [← Hj.out]; exact ho), Hj.out]
        have hcond : ((bestTo l i).1 = 0 ∨ b.length < (bestTo l i).2.length) ↔ (bt = 0 ∨ L1 < L5) := by rw [← HB.out.1, HL1.out, HL5.out]
        have hyes : (bt = 0 ∨ L1 < L5) → BestTo w w1 l (i + 1) (j : Int) (.slice A1 L1 c1) := fun h => by
          rw [if_pos (hcond.2 h)] at hbs
          exact ⟨by rw [hbs], by rw [hbs]; exact ho1.mono HB.out.2.2.size, HB.out.2.2.trans hm1 (fun _ _ h => h)⟩
        have hno : ¬ (bt = 0 ∨ L1 < L5) → BestTo w w1 l (i + 1) bt (.slice A5 L5 c5) := fun h => by
          rw [if_neg (fun h' => h (hcond.1 h'))] at hbs
          exact HB.out.stay hm1 hbs
        have Hyes := Lib.hid hyes; have Hno := Lib.hid hno
        clear he' ho hm1 ho1 hbs hcond hyes hno
        by_cases hb0 : bt = 0
        · have hbb : (bt == 0) = true := by simp [hb0]
          have HB2 := Lib.hid (Hyes.out (.inl hb0))
          clear hb0 Hyes Hno
          go_wp2_with fail
          go_roundg (gk - 1)
          case measure => have := Hik.out; omega
          case rel => exact ⟨i + 1, j + 1, _, by have := Hik.out; omega, by have := Hj.out; omega, by go_num, rfl, HB2.out⟩
        · have hbb : (bt == 0) = false := by simp [hb0]
          by_cases hlt : L1 < L5
          · have hlti : (L1 : Int) < (L5 : Int) := by omega
            have HB2 := Lib.hid (Hyes.out (.inr hlt))
            clear hb0 Hyes Hno
            go_wp2_with fail
            go_roundg (gk - 1)
            case measure => have := Hik.out; omega
            case rel => exact ⟨i + 1, j + 1, _, by have := Hik.out; omega, by have := Hj.out; omega, by go_num, rfl, HB2.out⟩
          · have hlti : ¬ (L1 : Int) < (L5 : Int) := by omega
            have HB2 := Lib.hid (Hno.out (by rintro (h | h); exact hb0 h; exact hlt h))
            clear hb0 Hyes Hno
            go_wp2_with fail
            go_roundg (gk - 1)
            case measure => have := Hik.out; omega
            case rel => exact ⟨i + 1, j + 1, bt, by have := Hik.out; omega, by have := Hj.out; omega, by go_num, rfl, HB2.out⟩
    · have hj6 : ¬ (j : Int) ≤ 6 := by have := Hj.out; omega
      have hi : i = 6 := by have := Hik.out; omega
      obtain ⟨h1, h2, h3⟩ := HB.out
      rw [hi] at h1 h2
      have X := Lib.hid (And.intro h1 (And.intro h2 h3))
      clear h1 h2 h3 hi
      go_wp2_with fail
      go_ret2
      refine ⟨_, ?_, X.out.2.1, X.out.2.2⟩
      rw [show (bestK l).1 = bt from X.out.1.symm]
      rfl
end Go.Proofs.YtmcemeofkjfhhaaGreatDoor

/- From the row's list to the table of math/bits. -/
namespace Go.Proofs.YtmcemeofkjfhhaaGreatDoor
open Go.RowKit
theorem deb_of_tab {w : World} (h : Lib.TabIs Tryz.prog w "math/bits.deBruijn64tab" .u8 [0, 1, 56, 2, 57, 49, 28, 3, 61, 58, 42, 50, 38, 29, 17, 4, 62, 47, 59, 36, 45, 43, 51, 22, 53, 39, 33, 30, 24, 18, 12, 5, 63, 55, 48, 27, 60, 41, 37, 16, 46, 35, 44, 21, 52, 32, 23, 11, 54, 26, 40, 15, 34, 20, 31, 10, 25, 14, 19, 9, 13, 8, 7, 6]) : Deb w := by
  have hd : ∀ t : Fin 64, (([0, 1, 56, 2, 57, 49, 28, 3, 61, 58, 42, 50, 38, 29, 17, 4, 62, 47, 59, 36, 45, 43, 51, 22, 53, 39, 33, 30, 24, 18, 12, 5, 63, 55, 48, 27, 60, 41, 37, 16, 46, 35, 44, 21, 52, 32, 23, 11, 54, 26, 40, 15, 34, 20, 31, 10, 25, 14, 19, 9, 13, 8, 7, 6] : List Int).getD t.val 0) = (deb t.val : Int) := by decide +kernel
  have hc : ∀ t, t < 64 → w.cell? ⟨2, t, none⟩ = some (.int .u8 (deb t : Int)) := fun t ht => by
    rw [← hd ⟨t, ht⟩]
    exact h.cell (by kernel_rfl) t ht
  exact ⟨World.block_lt_of_cell? w _ (hc 0 (by decide)), hc⟩
end Go.Proofs.YtmcemeofkjfhhaaGreatDoor

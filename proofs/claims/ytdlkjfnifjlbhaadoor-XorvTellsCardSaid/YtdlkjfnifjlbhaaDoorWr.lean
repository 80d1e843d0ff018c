/- The document's own values are told: ahead, behind, Values. -/
import Derived.Test.YtdlkjfnifjlbhaaDoorWe
import Derived.Test.YtdlkjfnifjlbhaaDoorRefw
import Derived.Deep.QuietTactic
import Derived.BigQuiet
namespace Go.Proofs.YtdlkjfnifjlbhaaDoor
open Go.RowKit

set_option maxHeartbeats 1000000 in
theorem rahead_any (x : Nat) (w : World) : Calls Tryd.prog 24 #[.int .u64 (x : Int)] w fun e w' => e = .returned (.int .i64 (aheadN x : Int)) ∧ w = w' := by
  go_enter Tryd.func24, Tryd.ntmps24
  go_wp2
  go_loop [3] (fun s3 => ∃ n f : Nat, n + f = 31 ∧ s3 = .int .i64 (n : Int) ∧ Hid (ahd f n x = aheadN x)) (fun s3 => 31 - (intOf s3).toNat)
  case atStart => exact ⟨0, 31, rfl, rfl, Lib.hid rfl⟩
  case round =>
    obtain ⟨n, f, hnf, rfl, hA⟩ := hrel
    cases f with
    | zero =>
      have hn : ¬ n < 31 := by omega
      go_wp2
      go_ret
      exact ⟨ret_int (by have h := hA.out; have h2 : ahd 0 n x = n := rfl; omega), rfl⟩
    | succ f =>
      have hn : n < 31 := by omega
      obtain ⟨k, hk⟩ : ∃ k, k = 63 - n := ⟨_, rfl⟩
      have hk1 : (63 : Int) - (n : Int) = (k : Int) := by omega
      have hk2 : IntKind.u64.wrap (k : Int) = (k : Int) := by rw [IntKind.wrap_u64]; omega
      obtain ⟨q, hq⟩ : ∃ q, q = x / 2 ^ k := ⟨_, rfl⟩
      have hq1 : (x : Int) / 2 ^ k = (q : Int) := by rw [hq]; simp
      have e : ahd (f + 1) n x = if x / 2 ^ (63 - n) = 0 then ahd f (n + 1) x else n := rfl
      have hA2 := hA.out
      rw [e, ← hk, ← hq] at hA2
      clear e hq hk hA
      by_cases hq0 : q = 0
      · rw [if_pos hq0] at hA2
        have HA := Lib.hid hA2
        have hqb : ((q : Int) == 0) = true := by simp; omega
        clear hA2 hq0
        go_wp2
        go_round
        case rel => exact ⟨n + 1, f, by omega, by go_num, HA⟩
        case measure => simp [intOf]; omega
      · rw [if_neg hq0] at hA2
        have HA := Lib.hid hA2
        have hqb : ((q : Int) == 0) = false := by simp; omega
        clear hA2 hq0
        go_wp2
        go_ret
        exact ⟨ret_int (by rw [HA.out]), rfl⟩
set_option maxHeartbeats 1000000 in
theorem rbehind_any (x : Nat) (w : World) (h0 : 0 < x) (hx : Lt64 x) : Calls Tryd.prog 25 #[.int .u64 (x : Int)] w fun e w' => e = .returned (.int .i64 (behindN x : Int)) ∧ w = w' := by
  have hb63 := (behind_form h0 hx.out).1
  have Hx := Lib.hid hx; have Hb63 := Lib.hid hb63
  clear hx hb63
  go_enter Tryd.func25, Tryd.ntmps25
  go_wp2
  go_loop [3] (fun s3 => ∃ n f : Nat, n + f = 64 ∧ s3 = .int .i64 (n : Int) ∧ Hid (bhd f n x = behindN x)) (fun s3 => 64 - (intOf s3).toNat)
  case atStart => exact ⟨0, 64, rfl, rfl, Lib.hid rfl⟩
  case round =>
    obtain ⟨n, f, hnf, rfl, hA⟩ := hrel
    cases f with
    | zero =>
      exfalso
      have h := hA.out
      have h2 : bhd 0 n x = n := rfl
      have := Hb63.out
      omega
    | succ f =>
      have hn : n ≤ 63 := by omega
      have hk2 : IntKind.u64.wrap (n : Int) = (n : Int) := by rw [IntKind.wrap_u64]; omega
      obtain ⟨q, hq⟩ : ∃ q, q = x / 2 ^ n % 2 := ⟨_, rfl⟩
      have hbit : bits BinOp.and IntKind.u64 ((x : Int) / 2 ^ n) 1 = (q : Int) := by rw [bit_u64 x n Hx.out, hq]
      have e : bhd (f + 1) n x = if x / 2 ^ n % 2 = 0 then bhd f (n + 1) x else n := rfl
      have hA2 := hA.out
      rw [e, ← hq] at hA2
      clear e hq hA
      by_cases hq0 : q = 0
      · rw [if_pos hq0] at hA2
        have HA := Lib.hid hA2
        have hqb : ((q : Int) == 0) = true := by simp; omega
        clear hA2 hq0
        go_wp2
        go_round
        case rel => exact ⟨n + 1, f, by omega, by go_num, HA⟩
        case measure => simp [intOf]; omega
      · rw [if_neg hq0] at hA2
        have HA := Lib.hid hA2
        have hqb : ((q : Int) == 0) = false := by simp; omega
        clear hA2 hq0
        go_wp2
        go_ret
        exact ⟨ret_int (by rw [HA.out]), rfl⟩
end Go.Proofs.YtdlkjfnifjlbhaaDoor

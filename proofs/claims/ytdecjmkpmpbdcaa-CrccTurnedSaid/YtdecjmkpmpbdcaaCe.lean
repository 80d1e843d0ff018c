/- The entry of a byte, of the code and of the document's own answer. -/
import Derived.Test.YtdecjmkpmpbdcaaProg
import Derived.Test.YtdecjmkpmpbdcaaCm
import Derived.Test.YtdecjmkpmpbdcaaMem
import Derived.Test.YtdecjmkpmpbdcaaAnd
import Derived.WalkKit
import Derived.ProofKit
import Derived.Lib.Hide
import Derived.BigQuiet
import Derived.Deep.QuietTactic
import Derived.Outline
namespace Go.Proofs.Ytdecjmkpmpbdcaa
open Go.RowKit

theorem u32_and1 (x : Nat) (h : x < 4294967296) : bits .and .u32 (x : Int) 1 = ((x % 2 : Nat) : Int) := by
  rw [show (1 : Int) = ((1 : Nat) : Int) from rfl, u32_and_nat x 1 h (by omega), nat_mask1]
theorem u32_and255 (x : Nat) (h : x < 4294967296) : bits .and .u32 (x : Int) 255 = ((x % 256 : Nat) : Int) := by
  rw [show (255 : Int) = ((255 : Nat) : Int) from rfl, u32_and_nat x 255 h (by omega), nat_mask8]
theorem u32_xor_poly (x : Nat) (h : x < 4294967296) : bits .xor .u32 (x : Int) 2197175160 = ((x ^^^ poly : Nat) : Int) := u32_xor_nat x poly h (by decide)
theorem stp_odd {x : Nat} (h : x % 2 = 1) : stp x = x / 2 ^^^ poly := if_pos h
theorem stp_even {x : Nat} (h : x % 2 = 0) : stp x = x / 2 := if_neg (by omega)

set_option maxHeartbeats 1000000 in
theorem entry_any (x : Nat) (w : World) (h : x < 4294967296) : Calls Try.prog 12 #[.int .u32 (x : Int)] w fun e w' => e = .returned (.int .u32 (ent x : Int)) ∧ w = w' := by
  go_enter Try.func12, Try.ntmps12
  go_wp2
  go_loop [0, 4] (fun s0 s4 => ∃ i v : Nat, i ≤ 8 ∧ v = stps i x ∧ s0 = .int .u32 (v : Int) ∧ s4 = .int .i64 (i : Int)) (fun _ s4 => 8 - (intOf s4).toNat)
  case atStart => exact ⟨0, x, by omega, rfl, rfl, rfl⟩
  case round =>
    obtain ⟨i, v, hi, hv, rfl, rfl⟩ := hrel
    have hvl : v < 4294967296 := hv ▸ stps_lt i h
    have Hv := Lib.hid hv
    clear hv
    by_cases h8 : i < 8
    · obtain ⟨q, hq, hq2⟩ : ∃ q : Nat, (v : Int) / 2 = (q : Int) ∧ q = v / 2 := ⟨v / 2, by omega, rfl⟩
      have Hq := Lib.hid hq2
      have hql : q < 4294967296 := by omega
      clear hq2
      rcases Nat.mod_two_eq_zero_or_one v with h2 | h2
      · have ha : bits .and .u32 (v : Int) 1 = 0 := by rw [u32_and1 v hvl, h2]; rfl
        have H2 := Lib.hid h2
        clear h2
        go_wp2
        go_round
        case rel => exact ⟨i + 1, q, by omega, by rw [Hq.out]; show _ = stp (stps i x); rw [← Hv.out, stp_even H2.out], rfl, by go_num⟩
        case measure => simp [intOf]; omega
      · have ha : bits .and .u32 (v : Int) 1 = 1 := by rw [u32_and1 v hvl, h2]; rfl
        obtain ⟨z, hz, hz2⟩ : ∃ z : Nat, bits .xor .u32 (q : Int) 2197175160 = (z : Int) ∧ z = q ^^^ poly := ⟨_, u32_xor_poly q hql, rfl⟩
        have H2 := Lib.hid h2
        have Hz := Lib.hid hz2
        clear h2 hz2
        go_wp2
        go_round
        case rel => exact ⟨i + 1, z, by omega, by rw [Hz.out, Hq.out]; show _ = stp (stps i x); rw [← Hv.out, stp_odd H2.out], rfl, by go_num⟩
        case measure => simp [intOf]; omega
    · obtain rfl : i = 8 := by omega
      go_wp2
      go_ret
      exact ⟨ret_int (by rw [Hv.out]; rfl), rfl⟩

set_option maxHeartbeats 1000000 in
theorem rentry_any (x : Nat) (w : World) (h : x < 4294967296) : Calls Try.prog 10 #[.int .u32 (x : Int)] w fun e w' => e = .returned (.int .u32 (ent x : Int)) ∧ w = w' := by
  go_enter Try.func10, Try.ntmps10
  go_wp2
  go_loop [0, 3] (fun s0 s3 => ∃ i v : Nat, i ≤ 8 ∧ v = stps i x ∧ s0 = .int .u32 (v : Int) ∧ s3 = .int .i64 (i : Int)) (fun _ s3 => 8 - (intOf s3).toNat)
  case atStart => exact ⟨0, x, by omega, rfl, rfl, rfl⟩
  case round =>
    obtain ⟨i, v, hi, hv, rfl, rfl⟩ := hrel
    have hvl : v < 4294967296 := hv ▸ stps_lt i h
    have Hv := Lib.hid hv
    clear hv
    by_cases h8 : i < 8
    · obtain ⟨q, hq, hq2⟩ : ∃ q : Nat, (v : Int) / 2 = (q : Int) ∧ q = v / 2 := ⟨v / 2, by omega, rfl⟩
      have Hq := Lib.hid hq2
      have hql : q < 4294967296 := by omega
      clear hq2
      rcases Nat.mod_two_eq_zero_or_one v with h2 | h2
      · have ha : bits .and .u32 (v : Int) 1 = 0 := by rw [u32_and1 v hvl, h2]; rfl
        have H2 := Lib.hid h2
        clear h2
        go_wp2
        go_round
        case rel => exact ⟨i + 1, q, by omega, by rw [Hq.out]; show _ = stp (stps i x); rw [← Hv.out, stp_even H2.out], rfl, by go_num⟩
        case measure => simp [intOf]; omega
      · have ha : bits .and .u32 (v : Int) 1 = 1 := by rw [u32_and1 v hvl, h2]; rfl
        obtain ⟨z, hz, hz2⟩ : ∃ z : Nat, bits .xor .u32 (q : Int) 2197175160 = (z : Int) ∧ z = q ^^^ poly := ⟨_, u32_xor_poly q hql, rfl⟩
        have H2 := Lib.hid h2
        have Hz := Lib.hid hz2
        clear h2 hz2
        go_wp2
        go_round
        case rel => exact ⟨i + 1, z, by omega, by rw [Hz.out, Hq.out]; show _ = stp (stps i x); rw [← Hv.out, stp_odd H2.out], rfl, by go_num⟩
        case measure => simp [intOf]; omega
    · obtain rfl : i = 8 := by omega
      go_wp2
      go_ret
      exact ⟨ret_int (by rw [Hv.out]; rfl), rfl⟩
end Go.Proofs.Ytdecjmkpmpbdcaa

import Derived.Test.YtldjobaafambbaaRows
import Derived.Test.YtldjobaafambbaaMem
import Derived.Test.YtldjobaafambbaaBitm
import Derived.WalkSpells
import Derived.WalkLawsBesides
import Derived.Outline
import Derived.Deep.DeepFit
namespace Go.Proofs.Ytldjobaafambbaa
open Go.RowKit

theorem held_any (n : Int) (w : World) (h1 : -9223372036854775808 ≤ n) (h2 : n ≤ 9223372036854775807) :
    Calls Try.prog 34 #[.int .i64 n] w fun e w' => e = .returned (.int .u64 (max 0 (min n 64))) ∧ w = w' := by
  go_enter Try.func34, Try.ntmps34
  go_wp2
  all_goals go_ret
  all_goals exact ⟨ret_int (by omega), rfl⟩

theorem pow_le_256 {k : Nat} (h : k ≤ 8) : 2 ^ k ≤ 256 := by
  have := Nat.pow_le_pow_right (n := 2) (by omega) h
  omega

theorem lowest_int (v k : Nat) (h1 : v < 18446744073709551616) (h2 : k ≤ 8) :
    bits BinOp.and IntKind.u64 (↑v) (IntKind.u64.wrap (IntKind.u64.wrap (2 ^ k) - 1)) % 256 = ((v % 2 ^ k : Nat) : Int) := by
  have hp := pow_le_256 h2
  have h0 : 0 < 2 ^ k := Nat.two_pow_pos k
  have e : (IntKind.u64.wrap (IntKind.u64.wrap (2 ^ k) - 1)) = ((2 ^ k - 1 : Nat) : Int) := by
    have : ((2 : Int) ^ k) = ((2 ^ k : Nat) : Int) := by simp
    rw [this, IntKind.wrap_u64, IntKind.wrap_u64]
    omega
  rw [e, u64_and_nat _ _ h1 (by omega), Nat.and_two_pow_sub_one_eq_mod]
  have := Nat.mod_lt v h0
  omega

theorem lowest_any (v : Int) (k : Int) (w : World) (h0 : 0 ≤ v) (h1 : v < 18446744073709551616) (h3 : 0 ≤ k) (h2 : k ≤ 8) :
    Calls Try.prog 35 #[.int .u64 v, .int .u64 k] w fun e w' => e = .returned (.int .u8 ((v.toNat % 2 ^ k.toNat : Nat))) ∧ w = w' := by
  obtain ⟨v, rfl⟩ := Int.eq_ofNat_of_zero_le h0
  obtain ⟨k, rfl⟩ := Int.eq_ofNat_of_zero_le h3
  go_enter Try.func35, Try.ntmps35
  go_wp2
  go_ret
  exact ⟨ret_int (lowest_int v k (by omega) (by omega)), rfl⟩

theorem newWriter_any (w : World) :
    Calls Try.prog 19 #[] w fun e w' => e = .returned (.pointer (some ⟨w.heap.size, 0, none⟩)) ∧ w' = w.alloc (.cells #[.slice none 0 0, .int .u64 0] 68) := by
  go_enter Try.func19, Try.ntmps19
  go_wp2
  go_ret
  exact ⟨rfl, rfl⟩
end Go.Proofs.Ytldjobaafambbaa

/- vint: ends. -/
import Derived.Test.YtldjobaafambbaaProg
import Derived.Test.YtldjobaafambbaaVm
import Derived.Test.YtldjobaafambbaaMem
import Derived.Test.YtldjobaafambbaaAnd
import Derived.WalkKit
import Derived.ProofKit
import Derived.Lib.Hide
import Derived.BigQuiet
import Derived.Deep.QuietTactic
import Derived.Outline
namespace Go.Proofs.Ytldjobaafambbaa
open Go.RowKit

theorem ends_no (i x : Nat) (w : World) (h : (i = 9 ∧ 2 ≤ x) ∨ (x = 0 ∧ 0 < i)) : Calls Try.prog 47 #[.int .i64 (i : Int), .int .u8 (x : Int)] w fun e w' => e = .returned (.bool false) ∧ w = w' := by
  go_enter Try.func47, Try.ntmps47
  go_wp2
  all_goals (go_ret; exact ⟨by simp <;> omega, rfl⟩)
theorem ends_yes (i x : Nat) (w : World) (h : ¬ ((i = 9 ∧ 2 ≤ x) ∨ (x = 0 ∧ 0 < i))) : Calls Try.prog 47 #[.int .i64 (i : Int), .int .u8 (x : Int)] w fun e w' => e = .returned (.bool true) ∧ w = w' := by
  go_enter Try.func47, Try.ntmps47
  go_wp2
  all_goals (go_ret; exact ⟨by simp <;> omega, rfl⟩)
end Go.Proofs.Ytldjobaafambbaa

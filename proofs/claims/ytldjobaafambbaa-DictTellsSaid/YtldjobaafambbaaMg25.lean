/- The texts He, one behind the other. -/
import Derived.Test.YtldjobaafambbaaMg2
import Derived.Test.YtldjobaafambbaaProg
/- The document holds a number to 0 to 65,535. -/
namespace Go.Proofs.Ytldjobaafambbaa
open Go.RowKit

theorem rheld_any (m : Int) (N : Nat) (w : World) (hN : max 0 (min m 65535) = (N : Int)) : Calls Try.prog 27 #[.int .i64 m] w fun e w' => e = .returned (.int .i64 (N : Int)) ∧ w = w' := by
  obtain ⟨mx, hmx⟩ : ∃ mx : Int, max m 0 = mx := ⟨_, rfl⟩
  have hmax := maxI_is (P := Try.prog) (t := 3) (ty := 3) hmx
  have hmin := minI_is (P := Try.prog) (t := 3) (ty := 3) (n1 := mx) (n2 := 65535) (m := (N : Int)) (by omega)
  clear hmx hN
  go_enter Try.func27, Try.ntmps27
  go_wp2_with fail
  go_ret
  exact ⟨rfl, rfl⟩
end Go.Proofs.Ytldjobaafambbaa

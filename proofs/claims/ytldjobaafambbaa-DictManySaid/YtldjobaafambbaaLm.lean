/- How many bits a number has: math/bits.Len64 and the document's width tell wid. -/
import Derived.Test.YtldjobaafambbaaLn
import Derived.Test.YtldjobaafambbaaPk
import Derived.Test.YtldjobaafambbaaMn
import Derived.Lib.Hide
import Derived.Deep.LoopGhost
import Derived.Deep.DeepCutAuto
namespace Go.Proofs.Ytldjobaafambbaa
open Go.RowKit

theorem bitLen_wid {u : Nat} (h : u < 2 ^ 64) : Lib.bitLen u = wid u := by
  have h1 := wid_lt h
  have hle := wid_le u
  rcases Nat.eq_zero_or_pos (wid u) with h0 | h0
  · rw [h0]
    have h2 := Lib.bitLen_le u 0 (by omega) (by rw [h0] at h1; exact h1)
    omega
  · have h2 := wid_least (u := u) (j := wid u - 1) (by omega)
    obtain ⟨k, hk⟩ : ∃ k, wid u = k + 1 := ⟨wid u - 1, by omega⟩
    rw [hk] at h1 h2 ⊢
    rw [Nat.add_sub_cancel] at h2
    have h3 := Lib.bitLen_shift k u (by omega) h
    have h4 : u / 2 ^ k = 1 := by
      have hp := Nat.two_pow_pos k
      have a1 : 1 ≤ u / 2 ^ k := (Nat.le_div_iff_mul_le hp).2 (by omega)
      have a2 : u / 2 ^ k < 2 := (Nat.div_lt_iff_lt_mul hp).2 (by rw [Nat.pow_succ] at h1; omega)
      omega
    rw [h4] at h3
    have h5 : Lib.bitLen 1 = 1 := by decide +kernel
    omega
theorem len64_wid (x S : Nat) (w : World) (hx : Lt64 x) (hS : wid x = S) : Calls Try.prog 45 #[.int .u64 (x : Int)] w fun e w' => e = .returned (.int .i64 (S : Int)) ∧ w = w' := by
  have := len64_any x w hx
  rwa [bitLen_wid hx.out, hS] at this
set_option maxHeartbeats 1000000 in
/-- The document's own width. -/
theorem rwidth_any (x S : Nat) (w : World) (hx : Lt64 x) (hS : wid x = S) : Calls Try.prog 26 #[.int .u64 (x : Int)] w fun e w' => e = .returned (.int .i64 (S : Int)) ∧ w = w' := by
  have hS64 : S ≤ 64 := by rw [← hS]; exact wid_le x
  have hlt : Hid (x < 2 ^ S) := Lib.hid (by rw [← hS]; exact wid_lt hx.out)
  have hle : Hid (∀ j, j < S → ¬ x < 2 ^ j) := Lib.hid (fun j h => wid_least (by rw [hS]; exact h))
  clear hS
  go_enter Try.func26, Try.ntmps26
  go_wp2_with fail
  go_loopg [3] S (fun l s3 wr => ∃ i : Nat, i + l = S ∧ s3 = .int .i64 (i : Int) ∧ w = wr)
  case atStart => exact ⟨0, by omega, rfl, rfl⟩
  case round =>
    obtain ⟨i, hil, rfl, rfl⟩ := hrel
    have Hil := Lib.hid hil
    clear hil
    have hw8 : IntKind.u64.wrap (i : Int) = (i : Int) := by rw [IntKind.wrap_u64]; have := Hil.out; omega
    by_cases hi : i < S
    · have hb := div_some (hle.out i hi)
      have hi64 : (i : Int) < 64 := by omega
      have hmin : min i 64 = i := by omega
      go_wp2_with fail
      go_roundg (gk - 1)
      case measure => have := Hil.out; omega
      case rel => exact ⟨i + 1, by have := Hil.out; omega, by go_num, rfl⟩
    · have hiS : i = S := by have := Hil.out; omega
      subst hiS
      have hb := div_nought hlt.out
      have hmin : min i 64 = i := by omega
      by_cases h64 : i < 64
      · go_wp2_with fail
        go_ret
        exact ⟨rfl, rfl⟩
      · go_wp2_with fail
        go_ret
        exact ⟨rfl, rfl⟩
end Go.Proofs.Ytldjobaafambbaa

/- How many bits a number has, as math/bits tells it. -/
import Derived.Test.YtldjobaafambbaaMem
import Derived.Test.YtldjobaafambbaaProg
import Derived.Lib.BitFns
import Derived.Lib.Strings
import Derived.Lib.Slices
import Derived.Lib.Small
import Derived.Lib.Walk
import Derived.Lib.LaidTab
namespace Go.Proofs.Ytldjobaafambbaa
open Go.RowKit

theorem len_fin {x y k' : Int} {k P : Nat} (hk' : k' = (k : Int)) (hP : 2 ^ k = P) (hk : k ≤ 56) (h1 : x.toNat < 2 ^ 64) (hy : y.toNat = x.toNat / P) (hyl : y.toNat < 256) (hlo : k = 0 ∨ P ≤ x.toNat) (h : y.toNat < Lib.len8tab.size) :
    wrap64 (k' + wrap64 ((Lib.len8tab[y.toNat]'h).toNat : Int)) = (Lib.bitLen x.toNat : Int) := by
  have e : ((Lib.len8tab[y.toNat]'h).toNat : Int) = (Lib.bitLen (x.toNat / P) : Int) := by
    have h2 := Lib.len8_of (y.toNat : Int) (by omega) (by omega)
    unfold Lib.len8 at h2
    rw [Int.toNat_natCast, getElem?_pos Lib.len8tab y.toNat h] at h2
    rw [← hy]
    exact h2
  have h3 := Lib.bitLen_le (x.toNat / P) 8 (by omega) (by omega)
  have e2 : k + Lib.bitLen (x.toNat / P) = Lib.bitLen x.toNat := by
    rcases hlo with rfl | hlo
    · rw [← hP, Nat.pow_zero, Nat.div_one, Nat.zero_add]
    · rw [← hP] at hlo ⊢
      exact (Lib.bitLen_shift k x.toNat hlo h1).symm
  rw [e, hk', IntWalk.wrap64_in (Lib.bitLen (x.toNat / P) : Int) (by omega), IntWalk.wrap64_in _ (by omega)]
  omega
set_option maxHeartbeats 4000000 in
set_option maxRecDepth 100000 in
theorem len64_int (x : Int) (w : World) (h0 : 0 ≤ x) (h1 : x ≤ 18446744073709551615) : Calls Try.prog 45 #[.int .u64 x] w fun e w' => e = .returned (.int .i64 (Lib.bitLen x.toNat : Int)) ∧ w = w' := by
  have hs : ((Lib.len8tab.size : Nat) : Int) = 256 := by rw [Lib.len8tab_size]; rfl
  go_enter Try.func45, Try.ntmps45
  go_wp2
  all_goals (go_ret; refine ⟨ret_int ?_, rfl⟩)
  · exact len_fin (k := 56) (P := 72057594037927936) rfl (by decide) (by decide) (by omega) (by omega) (by omega) (.inr (by omega)) _
  · exact len_fin (k := 48) (P := 281474976710656) rfl (by decide) (by decide) (by omega) (by omega) (by omega) (.inr (by omega)) _
  · exact len_fin (k := 40) (P := 1099511627776) rfl (by decide) (by decide) (by omega) (by omega) (by omega) (.inr (by omega)) _
  · exact len_fin (k := 32) (P := 4294967296) rfl (by decide) (by decide) (by omega) (by omega) (by omega) (.inr (by omega)) _
  · exact len_fin (k := 24) (P := 16777216) rfl (by decide) (by decide) (by omega) (by omega) (by omega) (.inr (by omega)) _
  · exact len_fin (k := 16) (P := 65536) rfl (by decide) (by decide) (by omega) (by omega) (by omega) (.inr (by omega)) _
  · exact len_fin (k := 8) (P := 256) rfl (by decide) (by decide) (by omega) (by omega) (by omega) (.inr (by omega)) _
  · have := len_fin (x := x) (y := x) (k' := 0) (k := 0) (P := 1) rfl (by decide) (by decide) (by omega) (by omega) (by omega) (.inl rfl) (by rw [Lib.len8tab_size]; omega)
    rwa [Int.zero_add] at this
theorem len64_any (x : Nat) (w : World) (hx : Lt64 x) : Calls Try.prog 45 #[.int .u64 (x : Int)] w fun e w' => e = .returned (.int .i64 (Lib.bitLen x : Int)) ∧ w = w' := by
  have := len64_int (x : Int) w (by omega) (by have := hx.out; omega)
  rwa [Int.toNat_natCast] at this
end Go.Proofs.Ytldjobaafambbaa

/- What the document fixes, as the statements of layer 2 ask it at their end. -/
import Derived.Test.YtjgoblibkhehaaaVg
import Derived.Test.YtjgoblibkhehaaaVp
namespace Go.Proofs.Ytjgoblibkhehaaa
open Go.RowKit

theorem zig_at (n m : Int) (w : World) (h : FitI n) (hm : zig n = m) : Calls Try.prog 10 #[.int .i64 n] w fun e w' => e = .returned (.int .u64 m) ∧ w = w' := hm ▸ zig_any n w h
theorem zag_at (u m : Int) (w : World) (h : Fit64 u) (hm : zag u = m) : Calls Try.prog 11 #[.int .u64 u] w fun e w' => e = .returned (.int .i64 m) ∧ w = w' := hm ▸ zag_any u w h
theorem get_at (A : Option Addr) (n c B : Nat) (bs : List Nat) (x j : Int) (w : World) (hs : Rds w B A n (cells8 bs)) (hlt : lt256 bs) (hnc : n ≤ c) (hc : c ≤ maxLen) (hx : ((dec bs).1 : Int) = x) (hj : ((dec bs).2 : Int) = j) :
    Calls Try.prog 7 #[.slice A n c] w fun e w' => e = .returned (.tuple #[.int .u64 x, .int .i64 j]) ∧ w = w' := by
  subst hx hj
  exact get_any A n c B bs w hs hlt hnc hc
/-- Put, then string(..) of what it answers. -/
theorem put_at (A : Option Addr) (n c B : Nat) (bs : List Nat) (u : Nat) (uz : Int) (s : ByteArray) (w : World) (hs : Rds w B A n (cells8 bs)) (hlt : lt256 bs) (hn : n ≤ 1000000000) (hu : Lt64 u) (huz : uz = (u : Int)) (hss : s = strOf (bs ++ enc u)) :
    Calls Try.prog 8 #[.slice A n c, .int .u64 uz] w fun e w' => ∃ A' n' c', e = .returned (.slice A' n' c') ∧ (convert 27 9 (.slice A' n' c')).run Try.prog w' = .ok (.string s) w' ∧ Below w.heap.size w w' := by
  subst huz hss
  refine (put_any A n c B bs u w hs hn hu).mono ?_
  rintro e w' ⟨v, rfl, hown, hb⟩
  obtain ⟨A', c', rfl, _, _, _, hr⟩ := hown.form
  refine ⟨A', _, c', rfl, ?_, hb⟩
  refine conv_rds Try.underlying27 Try.underlying5 Try.underlying9 w' hr ?_
  intro b hb
  rw [List.mem_append] at hb
  rcases hb with hb | hb
  · exact hlt b hb
  · exact enc_256 u b hb
theorem enc_300 : enc 300 = [172, 2] := by rw [enc_ge (by decide), enc_lt (by decide)]

set_option maxRecDepth 100000 in
theorem awake_any (w : World) : Calls Try.prog 9 #[] w fun e w' => e = .returned (.bool true) ∧ Below w.heap.size w w' := by
  go_enter Try.func9, Try.ntmps9
  go_wp2_with fail
  refine (get_at (some ⟨w.heap.size, 0, none⟩) 3 3 (w.heap.size + 1) [172, 2, 9] 300 2 _ (Rds.lit w 5 #[.int .u8 172, .int .u8 2, .int .u8 9]) (by unfold lt256; decide) (by decide) (by decide) (by decide) (by decide)).mono ?_
  rintro e w1 ⟨rfl, rfl⟩
  have H1 := Lib.hid (((Below.refl w.heap.size w).alloc (Nat.le_refl _) (.cells #[.int .u8 172, .int .u8 2, .int .u8 9] 5)))
  generalize w.alloc (.cells #[.int .u8 172, .int .u8 2, .int .u8 9] 5) = W1 at *
  go_wp2_with fail
  refine (get_at (some ⟨W1.heap.size, 0, none⟩) 2 2 (W1.heap.size + 1) [128, 0] 0 0 _ (Rds.lit W1 5 #[.int .u8 128, .int .u8 0]) (by unfold lt256; decide) (by decide) (by decide) (by decide) (by decide)).mono ?_
  rintro e w1 ⟨rfl, rfl⟩
  have H2 := Lib.hid (H1.out.alloc H1.out.size (.cells #[.int .u8 128, .int .u8 0] 5))
  generalize W1.alloc (.cells #[.int .u8 128, .int .u8 0] 5) = W2 at *
  clear H1
  go_wp2_with fail
  refine (zig_at (-1) 1 _ ⟨by decide, by decide⟩ (by decide)).mono ?_
  rintro e w1 ⟨rfl, rfl⟩
  go_wp2_with fail
  refine (zig_at 1 2 _ ⟨by decide, by decide⟩ (by decide)).mono ?_
  rintro e w1 ⟨rfl, rfl⟩
  go_wp2_with fail
  refine (zag_at 3 (-2) _ ⟨by decide, by decide⟩ (by decide)).mono ?_
  rintro e w1 ⟨rfl, rfl⟩
  go_wp2_with fail
  refine (zig_at (-9223372036854775808) 18446744073709551615 _ ⟨by decide, by decide⟩ (by decide)).mono ?_
  rintro e w1 ⟨rfl, rfl⟩
  go_wp2_with fail
  refine (put_at none 0 0 0 [] 300 300 ⟨#[172, 2]⟩ _ (Rds.nil _ _ _) lt256_nil (by decide) (by unfold Lt64; decide) rfl (by rw [enc_300]; rfl)).mono ?_
  rintro e w3 ⟨A, n, c, rfl, hcv, hb⟩
  have H3 := Lib.hid hb
  clear hb
  go_wp2
  go_ret
  exact ⟨rfl, H2.out.trans (H3.out.mono H2.out.size)⟩
end Go.Proofs.Ytjgoblibkhehaaa

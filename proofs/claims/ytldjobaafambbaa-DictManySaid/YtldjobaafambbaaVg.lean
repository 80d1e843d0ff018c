/- Get, of the code and of the document's own answer. -/
import Derived.Test.YtldjobaafambbaaVe
import Derived.Test.YtldjobaafambbaaRow
import Derived.Deep.DeepCutAuto
import Derived.Deep.LoopGhost
import Derived.StillTailTactics
namespace Go.Proofs.Ytldjobaafambbaa
open Go.RowKit

theorem or_more (acc s y i : Nat) (hs : s = 7 * i) (ha : acc < 2 ^ (7 * i)) (hy : acc + y * 2 ^ (7 * i) < 18446744073709551616) :
    bits .or .u64 (acc : Int) (IntKind.u64.wrap ((y : Int) * 2 ^ s)) = ((acc + y * 2 ^ (7 * i) : Nat) : Int) := by
  subst hs
  have e : (y : Int) * 2 ^ (7 * i) = ((y * 2 ^ (7 * i) : Nat) : Int) := by simp
  rw [e, IntKind.wrap_u64, Int.emod_eq_of_lt (by omega) (by omega), u64_or_nat _ _ (by omega) (by omega), Nat.or_comm, nat_join (7 * i) _ _ (Nat.mul_mod_left _ _) ha]
  congr 1
  omega

theorem ret_2 {a a' b b' : Int} (h1 : a = a') (h2 : b = b') : Ending.returned (.tuple #[.int .u64 a, .int .i64 b]) = Ending.returned (.tuple #[.int .u64 a', .int .i64 b']) := by rw [h1, h2]
theorem or_zero (a y i : Nat) (hy : y = 0) (h : a < 2 ^ (7 * i)) (h2 : a + y * 2 ^ (7 * i) < 18446744073709551616) :
    bits .or .u64 (a : Int) (IntKind.u64.wrap (IntKind.u64.wrap (bits .and .u8 0 127) * 2 ^ (7 * i))) = ((a + y * 2 ^ (7 * i) : Nat) : Int) := by
  subst hy
  have e : bits .and .u8 0 127 = 0 := by decide
  rw [e]
  exact or_more a _ 0 i rfl h h2
theorem or_nine (a y i : Nat) (hi : (i : Int) = 9) (h : a < 2 ^ (7 * i)) (h2 : a + y * 2 ^ (7 * i) < 18446744073709551616) :
    bits .or .u64 (a : Int) ((y : Int) * 9223372036854775808) = ((a + y * 2 ^ (7 * i) : Nat) : Int) := by
  obtain rfl : i = 9 := by omega
  rw [← or_more a 63 y 9 rfl h h2]
  congr 1
  rw [IntKind.wrap_u64]
  have : (2 : Int) ^ 63 = 9223372036854775808 := by decide
  rw [this]
  omega
/-- What Get has read at the i-th byte. -/
def VGetTo (bs : List Nat) (s4 : Value) (i : Nat) : Prop := ∃ acc : Int, s4 = .int .u64 acc ∧ ∃ a : Nat, (i < 10 → acc = (a : Int) ∧ a < 2 ^ (7 * i)) ∧ dec bs = decF i a (bs.drop i)

set_option maxHeartbeats 1000000 in
set_option maxRecDepth 100000 in
theorem vget_any (A : Option Addr) (n c B : Nat) (bs : List Nat) (w : World) (hs : Rds w B A n (cells8 bs)) (hlt : lt256 bs) (hnc : n ≤ c) (hc : c ≤ maxLen) :
    Calls Try.prog 42 #[.slice A n c] w fun e w' => e = .returned (.tuple #[.int .u64 ((dec bs).1 : Int), .int .i64 ((dec bs).2 : Int)]) ∧ w = w' := by
  have hlen : bs.length = n := by have := hs.1; rwa [cells8_length] at this
  have hmx : max (10 : Int) 0 = 10 := rfl
  unfold maxLen at hc
  have Hs := Lib.hid hs; have Hlt := Lib.hid hlt; have Hlen := Lib.hid hlen
  clear hs hlt hlen
  rcases Nat.lt_or_ge 10 n with h10 | h10
  all_goals
    go_enter Try.func42, Try.ntmps42
    go_wp2
    go_loop [4, 13] (fun s4 s13 => ∃ i : Nat, i ≤ n ∧ i ≤ 10 ∧ s13 = .int .i64 (i : Int) ∧ VGetTo bs s4 i) (fun _ s13 => 10 - (intOf s13).toNat)
    case atStart => exact ⟨0, by omega, by omega, rfl, 0, rfl, 0, fun _ => ⟨rfl, by simp⟩, rfl⟩
    case round =>
      obtain ⟨i, hin, hi10, rfl, acc, rfl, a, ha, hdec⟩ := hrel
      by_cases hi : i < n ∧ i < 10
      · obtain ⟨hi1, hi2⟩ := hi
        obtain ⟨rfl, ha2⟩ := ha hi2
        obtain ⟨ad, u, rfl, _, hu, hcell⟩ := Hs.out.at_ hi1
        obtain ⟨x, hx, rfl⟩ : ∃ x, bs[i]? = some x ∧ u = .int .u8 (x : Int) := by
          rw [cells8_get] at hu
          cases hb : bs[i]? with
          | none => rw [hb] at hu; cases hu
          | some x => rw [hb] at hu; exact ⟨x, rfl, by simpa using hu.symm⟩
        have hx2 : x < 256 := Hlt.out x (List.mem_of_getElem? hx)
        have hdr : Hid (bs.drop i = x :: bs.drop (i + 1)) := Lib.hid (by
          obtain ⟨h1, h2⟩ := List.getElem?_eq_some_iff.1 hx
          rw [← h2, List.drop_eq_getElem_cons h1])
        have Ha := Lib.hid ha2; have Hd := Lib.hid hdec; have Hx := Lib.hid hx
        clear ha ha2 hdec hx hu
        rcases Nat.lt_or_ge x 128 with hxl | hxl
        · by_cases hbad : (i = 9 ∧ 2 ≤ x) ∨ (x = 0 ∧ 0 < i)
          · have Hb := Lib.hid hbad
            clear hbad
            go_wp2_with (go_at_call 47; refine (ends_no i x _ Hb.out).mono ?_; rintro e w' ⟨rfl, rfl⟩)
            go_ret2
            exact ⟨ret_2 (by rw [Hd.out, hdr.out, decF_bad hi2 hxl Hb.out]; rfl) (by rw [Hd.out, hdr.out, decF_bad hi2 hxl Hb.out]; rfl), rfl⟩
          · have Hb := Lib.hid hbad
            clear hbad
            go_wp2_with (go_at_call 47; refine (ends_yes i x _ Hb.out).mono ?_; rintro e w' ⟨rfl, rfl⟩)
            go_ret2
            have hy := dec_lt Hlt.out
            rw [Hd.out, hdr.out, decF_end hi2 hxl Hb.out] at hy
            exact ⟨ret_2 (by rw [Hd.out, hdr.out, decF_end hi2 hxl Hb.out, or_more a _ x i rfl Ha.out hy]) (by rw [Hd.out, hdr.out, decF_end hi2 hxl Hb.out]; simp), rfl⟩
        · go_wp2
          go_round
          case rel =>
            refine ⟨i + 1, by omega, by omega, by go_num, _, rfl, a + (x - 128) * 2 ^ (7 * i), fun h9 => ?_, by rw [Hd.out, hdr.out, decF_more hi2 hxl]⟩
            have hacc := acc_more Ha.out hxl hx2
            have h63 : (2 : Nat) ^ (7 * (i + 1)) ≤ 2 ^ 63 := Nat.pow_le_pow_right (by omega) (by omega)
            refine ⟨?_, hacc⟩
            have e : (x : Int) - 128 = ((x - 128 : Nat) : Int) := by omega
            rw [e, or_more a _ (x - 128) i rfl Ha.out (by omega)]
          case measure => simp [intOf]; omega
      · have Hd := Lib.hid hdec
        clear hdec ha
        have hz : Hid (decF i a (bs.drop i) = (0, 0)) := Lib.hid (by
          rcases Nat.lt_or_ge i 10 with h | h
          · rw [List.drop_eq_nil_of_le (by have := Hlen.out; omega)]; rfl
          · exact decF_ten _ _ _ h)
        go_wp2
        go_ret2
        exact ⟨ret_2 (by rw [Hd.out, hz.out]; rfl) (by rw [Hd.out, hz.out]; rfl), rfl⟩

set_option maxHeartbeats 1000000 in
set_option maxRecDepth 100000 in
theorem vrget_any (A : Option Addr) (n c B : Nat) (bs : List Nat) (w : World) (hs : Rds w B A n (cells8 bs)) (hlt : lt256 bs) (hc : n ≤ maxLen) :
    Calls Try.prog 28 #[.slice A n c] w fun e w' => e = .returned (.tuple #[.int .u64 ((dec bs).1 : Int), .int .i64 ((dec bs).2 : Int)]) ∧ w = w' := by
  have hlen : bs.length = n := by have := hs.1; rwa [cells8_length] at this
  unfold maxLen at hc
  have Hs := Lib.hid hs; have Hlt := Lib.hid hlt; have Hlen := Lib.hid hlen
  clear hs hlt hlen
  go_enter Try.func28, Try.ntmps28
  go_wp2
  go_loop [4, 5] (fun s4 s5 => ∃ i : Nat, i ≤ n ∧ i ≤ 10 ∧ s5 = .int .i64 (i : Int) ∧ VGetTo bs s4 i) (fun _ s5 => 10 - (intOf s5).toNat)
  case atStart => exact ⟨0, by omega, by omega, rfl, 0, rfl, 0, fun _ => ⟨rfl, by simp⟩, rfl⟩
  case round =>
    obtain ⟨i, hin, hi10, rfl, acc, rfl, a, ha, hdec⟩ := hrel
    by_cases hi : i < n ∧ i < 10
    · obtain ⟨hi1, hi2⟩ := hi
      obtain ⟨rfl, ha2⟩ := ha hi2
      obtain ⟨ad, u, rfl, _, hu, hcell⟩ := Hs.out.at_ hi1
      obtain ⟨x, hx, rfl⟩ : ∃ x, bs[i]? = some x ∧ u = .int .u8 (x : Int) := by
        rw [cells8_get] at hu
        cases hb : bs[i]? with
        | none => rw [hb] at hu; cases hu
        | some x => rw [hb] at hu; exact ⟨x, rfl, by simpa using hu.symm⟩
      have hx2 : x < 256 := Hlt.out x (List.mem_of_getElem? hx)
      have hdr : Hid (bs.drop i = x :: bs.drop (i + 1)) := Lib.hid (by
        obtain ⟨h1, h2⟩ := List.getElem?_eq_some_iff.1 hx
        rw [← h2, List.drop_eq_getElem_cons h1])
      have Ha := Lib.hid ha2; have Hd := Lib.hid hdec; have Hx := Lib.hid hx
      clear ha ha2 hdec hx hu
      obtain ⟨y, hy, hy1⟩ : ∃ y : Nat, bits .and .u8 (x : Int) 127 = (y : Int) ∧ y = x % 128 :=
        ⟨x % 128, by rw [show (127 : Int) = ((127 : Nat) : Int) from rfl, u8_and_nat x 127 hx2 (by omega), nat_mask7], rfl⟩
      have hyl : y < 128 := by omega
      have Hy := Lib.hid hy1
      clear hy1
      by_cases hbad : (i = 9 ∧ 2 ≤ x) ∨ (x = 0 ∧ 0 < i)
      · have hz : Hid (dec bs = (0, 0)) := Lib.hid (by
          rw [Hd.out, hdr.out]
          rcases Nat.lt_or_ge x 128 with h | h
          · exact decF_bad hi2 h hbad
          · rw [decF_more hi2 h, decF_ten _ _ _ (by omega)])
        have Hb := Lib.hid hbad
        clear hbad
        go_wp2
        all_goals first
          | (exfalso; have := Hb.out; have := Hy.out; omega)
          | (go_ret2; exact ⟨ret_2 (by rw [hz.out]; rfl) (by rw [hz.out]; rfl), rfl⟩)
      · have hx9 : i = 9 → x ≤ 1 := fun h => by omega
        have hx0 : 0 < i → ¬ x = 0 := fun h => by omega
        have Hb := Lib.hid hbad
        clear hbad
        rcases Nat.lt_or_ge x 128 with hxl | hxl
        · have hend : Hid (dec bs = (a + x * 2 ^ (7 * i), i + 1)) := Lib.hid (by rw [Hd.out, hdr.out, decF_end hi2 hxl Hb.out])
          obtain rfl : y = x := by have := Hy.out; omega
          have hy := dec_lt Hlt.out
          rw [hend.out] at hy
          have Hyy := Lib.hid hy
          clear hy
          go_wp2
          all_goals
            go_ret2
            rw [hend.out]
            exact ⟨ret_2 (by first | rw [or_more a _ y i rfl Ha.out Hyy.out] | rw [or_zero a y i (by assumption) Ha.out Hyy.out] | rw [or_nine a y i (by assumption) Ha.out Hyy.out]) (by first | rfl | (show (10 : Int) = ((i + 1 : Nat) : Int); omega)), rfl⟩
        · obtain rfl : y = x - 128 := by have := Hy.out; omega
          have h9 : ¬ i = 9 := by omega
          have hx0 : ¬ x = 0 := by omega
          go_wp2
          go_round
          case rel =>
            refine ⟨i + 1, by omega, by omega, by go_num, _, rfl, a + (x - 128) * 2 ^ (7 * i), fun h9 => ?_, by rw [Hd.out, hdr.out, decF_more hi2 hxl]⟩
            have hacc := acc_more Ha.out hxl hx2
            have h63 : (2 : Nat) ^ (7 * (i + 1)) ≤ 2 ^ 63 := Nat.pow_le_pow_right (by omega) (by omega)
            exact ⟨or_more a _ (x - 128) i rfl Ha.out (by omega), hacc⟩
          case measure => simp [intOf]; omega
    · have Hd := Lib.hid hdec
      clear hdec ha
      have hz : Hid (decF i a (bs.drop i) = (0, 0)) := Lib.hid (by
        rcases Nat.lt_or_ge i 10 with h | h
        · rw [List.drop_eq_nil_of_le (by have := Hlen.out; omega)]; rfl
        · exact decF_ten _ _ _ h)
      go_wp2
      all_goals
        go_ret2
        exact ⟨ret_2 (by rw [Hd.out, hz.out]; rfl) (by rw [Hd.out, hz.out]; rfl), rfl⟩
end Go.Proofs.Ytldjobaafambbaa

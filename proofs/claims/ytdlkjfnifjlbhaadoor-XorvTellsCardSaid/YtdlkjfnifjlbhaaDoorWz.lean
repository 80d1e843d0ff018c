/- How many 0s a number has ahead and behind, as math/bits tells it; the window's own calls. -/
import Derived.Test.YtdlkjfnifjlbhaaDoorXo
import Derived.Lib.BitFns
import Derived.Lib.Strings
import Derived.Lib.Slices
import Derived.Lib.Small
import Derived.Lib.Walk
import Derived.Lib.LaidTab
namespace Go.Proofs.YtdlkjfnifjlbhaaDoor
open Go.RowKit

/-- The lowest 1 of a number. -/
theorem low_one {x b z : Nat} (hx : x = 2 ^ (b + 1) * z + 2 ^ b) (h : x < 2 ^ 64) : x &&& (2 ^ 64 - x) = 2 ^ b := by
  have h0 : 0 < x := by have := Nat.two_pow_pos b; omega
  have e1 : 2 ^ 64 - x = 2 ^ 64 - ((x - 1) + 1) := by omega
  have hlt : 2 ^ b < 2 ^ (b + 1) := Nat.pow_lt_pow_right (by decide) (by omega)
  have e2 : x - 1 = 2 ^ (b + 1) * z + (2 ^ b - 1) := by have := Nat.two_pow_pos b; omega
  have hb : b < 64 := by
    have : 2 ^ b < 2 ^ 64 := by omega
    exact (Nat.pow_lt_pow_iff_right (by omega)).1 this
  apply Nat.eq_of_testBit_eq
  intro i
  rw [Nat.testBit_and, e1, Nat.testBit_two_pow_sub_succ (by omega), e2, Nat.testBit_two_pow]
  rw [Nat.testBit_two_pow_mul_add z (by omega), show x.testBit i = (2 ^ (b + 1) * z + 2 ^ b).testBit i by rw [hx], Nat.testBit_two_pow_mul_add z hlt]
  by_cases hi : i < b + 1
  · rw [if_pos hi, if_pos hi, Nat.testBit_two_pow, Nat.testBit_two_pow_sub_one]
    by_cases hib : b = i
    · subst hib; simp; omega
    · simp [hib]
  · rw [if_neg hi, if_neg hi]
    have : ¬ b = i := by omega
    simp only [this, decide_false]
    cases z.testBit (i - (b + 1)) <;> simp
theorem behind_form {x : Nat} (h0 : 0 < x) (hx : x < 2 ^ 64) : behindN x ≤ 63 ∧ ∃ z, x = 2 ^ (behindN x + 1) * z + 2 ^ behindN x := by
  obtain ⟨h1, h2⟩ := behind_spec h0 hx
  refine ⟨by have := sum_le h0 hx; omega, x / 2 ^ behindN x / 2, ?_⟩
  have e := Nat.div_mul_cancel h1
  have e2 : x / 2 ^ behindN x = 2 * (x / 2 ^ behindN x / 2) + 1 := by omega
  generalize x / 2 ^ behindN x / 2 = z at *
  rw [e2] at e
  generalize behindN x = b at *
  rw [← e, Nat.pow_succ, Nat.add_mul, Nat.one_mul, Nat.mul_comm (2 * z), ← Nat.mul_assoc]
/-- The table of math/bits. -/
def deb (t : Nat) : Nat := ([0, 1, 56, 2, 57, 49, 28, 3, 61, 58, 42, 50, 38, 29, 17, 4, 62, 47, 59, 36, 45, 43, 51, 22, 53, 39, 33, 30, 24, 18, 12, 5, 63, 55, 48, 27, 60, 41, 37, 16, 46, 35, 44, 21, 52, 32, 23, 11, 54, 26, 40, 15, 34, 20, 31, 10, 25, 14, 19, 9, 13, 8, 7, 6] : List Nat).getD t 0
def spot (b : Nat) : Nat := 2 ^ b * 285870213051353865 % 18446744073709551616 / 288230376151711744
theorem spot_lt (b : Nat) : spot b < 64 := by
  unfold spot
  have := Nat.mod_lt (2 ^ b * 285870213051353865) (show 18446744073709551616 > 0 by decide)
  rw [Nat.div_lt_iff_lt_mul (by decide)]
  exact Nat.lt_of_lt_of_le this (by decide)
theorem deb_all : ∀ b : Fin 64, deb (spot b.val) = b.val := by decide +kernel
theorem deb_spot {b : Nat} (h : b ≤ 63) : deb (spot b) = b := deb_all ⟨b, by omega⟩
def Deb (w : World) : Prop := 0 < w.heap.size ∧ ∀ t, t < 64 → w.cell? ⟨0, t, none⟩ = some (.int .u8 (deb t : Int))
theorem Deb.mod {w w' : World} {S : Nat → Prop} (h : Deb w) (hm : Mod S w w') (hS : ¬ S 0) : Deb w' :=
  ⟨Nat.lt_of_lt_of_le h.1 hm.size, fun t ht => (hm.cell (a := ⟨0, t, none⟩) h.1 hS).trans (h.2 t ht)⟩

theorem ahead_len {x : Nat} (hx : x < 2 ^ 64) : min (64 - Lib.bitLen x) 31 = aheadN x ∧ Lib.bitLen x ≤ 64 := by
  obtain ⟨h1, h2, h3⟩ := ahead_spec hx
  have hl := Lib.bitLen_le x (64 - aheadN x) (by omega) h2
  refine ⟨?_, by omega⟩
  rcases Nat.lt_or_ge (aheadN x) 31 with h | h
  · have h4 := h3 h
    have h5 := Lib.bitLen_shift (63 - aheadN x) x h4 hx
    have h6 : x / 2 ^ (63 - aheadN x) = 1 := by
      have : x < 2 ^ (63 - aheadN x) * 2 := by rw [← Nat.pow_succ, show (63 - aheadN x).succ = 64 - aheadN x by omega]; exact h2
      have hp := Nat.two_pow_pos (63 - aheadN x)
      have a1 : 1 ≤ x / 2 ^ (63 - aheadN x) := (Nat.le_div_iff_mul_le hp).2 (by omega)
      have a2 : x / 2 ^ (63 - aheadN x) < 2 := (Nat.div_lt_iff_lt_mul hp).2 (by omega)
      omega
    rw [h6] at h5
    have h7 : Lib.bitLen 1 = 1 := by decide +kernel
    omega
  · omega
theorem len_fin {x y k' : Int} {k P : Nat} (hk' : k' = (k : Int)) (hP : 2 ^ k = P) (hk : k ≤ 56) (h1 : x.toNat < 2 ^ 64) (hy : y.toNat = x.toNat / P) (hyl : y.toNat < 256) (hlo : k = 0 ∨ P ≤ x.toNat) (h : y.toNat < Lib.len8tab.size) :
    wrap64 (k' + wrap64 ((Lib.len8tab[y.toNat]'h).toNat : Int)) = (Lib.bitLen x.toNat : Int) := by
  have e : ((Lib.len8tab[y.toNat]'h).toNat : Int) = (Lib.bitLen (x.toNat / P) : Int) := by
    have h2 := Lib.len8_of (y.toNat : Int) (by omega) (by omega)
    unfold Lib.len8 at h2
    rw [Int.toNat_natCast, getElem?_pos Lib.len8tab y.toNat h] at h2
    rw [← hy]
    exact h2
  have h3 := Lib.bitLen_le (x.toNat / P) 8 (by omega) (by omega)
  have e2 : k + Lib.bitLen (x.toNat / P) = Lib.bitLen x.toNat := by
    rcases hlo with rfl | hlo
    · rw [← hP, Nat.pow_zero, Nat.div_one, Nat.zero_add]
    · rw [← hP] at hlo ⊢
      exact (Lib.bitLen_shift k x.toNat hlo h1).symm
  rw [e, hk', IntWalk.wrap64_in (Lib.bitLen (x.toNat / P) : Int) (by omega), IntWalk.wrap64_in _ (by omega)]
  omega
set_option maxHeartbeats 4000000 in
set_option maxRecDepth 100000 in
theorem len64_int (x : Int) (w : World) (h0 : 0 ≤ x) (h1 : x ≤ 18446744073709551615) : Calls Tryd.prog 38 #[.int .u64 x] w fun e w' => e = .returned (.int .i64 (Lib.bitLen x.toNat : Int)) ∧ w = w' := by
  have hs : ((Lib.len8tab.size : Nat) : Int) = 256 := by rw [Lib.len8tab_size]; rfl
  go_enter Tryd.func38, Tryd.ntmps38
  go_wp2
  all_goals (go_ret; refine ⟨ret_int ?_, rfl⟩)
  · exact len_fin (k := 56) (P := 72057594037927936) rfl (by decide) (by decide) (by omega) (by omega) (by omega) (.inr (by omega)) _
  · exact len_fin (k := 48) (P := 281474976710656) rfl (by decide) (by decide) (by omega) (by omega) (by omega) (.inr (by omega)) _
  · exact len_fin (k := 40) (P := 1099511627776) rfl (by decide) (by decide) (by omega) (by omega) (by omega) (.inr (by omega)) _
  · exact len_fin (k := 32) (P := 4294967296) rfl (by decide) (by decide) (by omega) (by omega) (by omega) (.inr (by omega)) _
  · exact len_fin (k := 24) (P := 16777216) rfl (by decide) (by decide) (by omega) (by omega) (by omega) (.inr (by omega)) _
  · exact len_fin (k := 16) (P := 65536) rfl (by decide) (by decide) (by omega) (by omega) (by omega) (.inr (by omega)) _
  · exact len_fin (k := 8) (P := 256) rfl (by decide) (by decide) (by omega) (by omega) (by omega) (.inr (by omega)) _
  · have := len_fin (x := x) (y := x) (k' := 0) (k := 0) (P := 1) rfl (by decide) (by decide) (by omega) (by omega) (by omega) (.inl rfl) (by rw [Lib.len8tab_size]; omega)
    rwa [Int.zero_add] at this
theorem len64_any (x : Nat) (w : World) (hx : Lt64 x) : Calls Tryd.prog 38 #[.int .u64 (x : Int)] w fun e w' => e = .returned (.int .i64 (Lib.bitLen x : Int)) ∧ w = w' := by
  have := len64_int (x : Int) w (by omega) (by have := hx.out; omega)
  rwa [Int.toNat_natCast] at this
theorem lead_any (x : Nat) (w : World) (hx : Lt64 x) : Calls Tryd.prog 36 #[.int .u64 (x : Int)] w fun e w' => e = .returned (.int .i64 (64 - (Lib.bitLen x : Int))) ∧ w = w' := by
  have hl : Lib.bitLen x ≤ 64 := (ahead_len hx.out).2
  obtain ⟨L, hL⟩ : ∃ L, L = Lib.bitLen x := ⟨_, rfl⟩
  have HL := Lib.hid hL
  rw [← hL] at hl ⊢
  clear hL
  go_enter Tryd.func36, Tryd.ntmps36
  go_wp2_with fail
  refine (len64_any x _ hx).mono ?_
  rintro e w' ⟨rfl, rfl⟩
  rw [← HL.out]
  go_wp2_with fail
  go_ret
  exact ⟨rfl, rfl⟩
set_option maxHeartbeats 1000000 in
theorem trail_any (x : Nat) (w : World) (h0 : 0 < x) (hx : Lt64 x) (hd : Deb w) : Calls Tryd.prog 37 #[.int .u64 (x : Int)] w fun e w' => e = .returned (.int .i64 (behindN x : Int)) ∧ w = w' := by
  obtain ⟨hb, z, hz⟩ := behind_form h0 hx.out
  have hlow := low_one hz hx.out
  obtain ⟨b, hbe⟩ : ∃ b, b = behindN x := ⟨_, rfl⟩
  rw [← hbe] at hb hlow ⊢
  have hx0 : ((x : Int) == 0) = false := by simp; omega
  obtain ⟨nx, hnx⟩ : ∃ nx : Nat, nx = 2 ^ 64 - x := ⟨_, rfl⟩
  have hneg : IntKind.u64.wrap (-(x : Int)) = (nx : Int) := by rw [IntKind.wrap_u64, hnx]; have := hx.out; omega
  obtain ⟨p, hp⟩ : ∃ p : Nat, p = 2 ^ b := ⟨_, rfl⟩
  have hand : bits .and .u64 (x : Int) (nx : Int) = (p : Int) := by
    rw [u64_and_nat x nx hx.out (by rw [hnx]; omega), hnx, hlow, hp]
  obtain ⟨q, hq⟩ : ∃ q : Nat, q = 2 ^ b * 285870213051353865 % 18446744073709551616 := ⟨_, rfl⟩
  have hmul : IntKind.u64.wrap ((p : Int) * 285870213051353865) = (q : Int) := by rw [IntKind.wrap_u64, hq, hp]; omega
  obtain ⟨t, ht⟩ : ∃ t : Nat, t = spot b := ⟨_, rfl⟩
  have hdiv : (q : Int) / 288230376151711744 = (t : Int) := by
    have e : t = q / 288230376151711744 := by rw [ht, hq]; rfl
    rw [e]; omega
  have ht64 : t < 64 := by rw [ht]; exact spot_lt b
  have hcell := hd.2 t ht64
  have hdt : deb t = b := by rw [ht]; exact deb_spot hb
  rw [hdt] at hcell
  have ht0 : (0 : Int) ≤ (t : Int) := by omega
  have ht1 : (t : Int) < 64 := by omega
  have Hx := Lib.hid hx; have Hd := Lib.hid hd
  clear hlow hbe hnx hp hq ht hdt hz hx hd
  go_enter Tryd.func37, Tryd.ntmps37
  go_wp2
  go_ret
  exact ⟨rfl, rfl⟩

/-- A window, as the code has it. -/
def winV : Option (Nat × Nat) → Value
  | none => .agg #[.int .i64 0, .int .i64 0]
  | some (a, b) => .agg #[.int .i64 (a : Int), .int .i64 ((64 - a - b : Nat) : Int)]
def winA : Option (Nat × Nat) → Nat
  | none => 0
  | some (a, _) => a
def winS : Option (Nat × Nat) → Nat
  | none => 0
  | some (a, b) => 64 - a - b
theorem winV_eq (win : Option (Nat × Nat)) : winV win = .agg #[.int .i64 (winA win : Int), .int .i64 (winS win : Int)] := by
  cases win with
  | none => rfl
  | some p => rfl
theorem win_bounds {win : Option (Nat × Nat)} (h : WinOk win) : winA win ≤ 31 ∧ winS win ≤ 64 ∧ winA win + winS win ≤ 64 := by
  cases win with
  | none => exact ⟨Nat.zero_le _, Nat.zero_le _, Nat.zero_le _⟩
  | some p =>
    obtain ⟨a, b⟩ := p
    obtain ⟨h1, h2⟩ := h
    refine ⟨h1, ?_, ?_⟩
    · show 64 - a - b ≤ 64; omega
    · show a + (64 - a - b) ≤ 64; omega
theorem win_inj {u v : Option (Nat × Nat)} (hu : WinOk u) (hv : WinOk v) (h1 : winA u = winA v) (h2 : winS u = winS v) : u = v := by
  cases u with
  | none =>
    cases v with
    | none => rfl
    | some p =>
      obtain ⟨a, b⟩ := p
      obtain ⟨w1, w2⟩ := hv
      have h3 : 0 = 64 - a - b := h2
      omega
  | some p =>
    obtain ⟨a, b⟩ := p
    obtain ⟨w1, w2⟩ := hu
    cases v with
    | none =>
      have h3 : 64 - a - b = 0 := h2
      omega
    | some q =>
      obtain ⟨a', b'⟩ := q
      obtain ⟨w3, w4⟩ := hv
      have h3 : 64 - a - b = 64 - a' - b' := h2
      have h4 : a = a' := h1
      have h5 : b = b' := by omega
      rw [h4, h5]
/-- A block of two cells, turned one behind the other. -/
theorem Blk.two {w : World} {g : Nat} {t : TypeId} {c0 c1 : Value} (h : Blk w g t #[c0, c1]) (u v : Value) :
    (w.setCell ⟨g, 0, none⟩ u).cell? ⟨g, 0, none⟩ = some u ∧ ((w.setCell ⟨g, 0, none⟩ u).setCell ⟨g, 1, none⟩ v).cell? ⟨g, 1, none⟩ = some v ∧ Blk ((w.setCell ⟨g, 0, none⟩ u).setCell ⟨g, 1, none⟩ v) g t #[u, v] := by
  have h1 := h.set_ 0 u
  have h2 := h1.set_ 1 v
  refine ⟨?_, ?_, ?_⟩
  · have := h1.cell 0; simpa using this
  · have := h2.cell 1; simpa using this
  · simpa using h2
set_option maxHeartbeats 1000000 in
theorem behind_any (a s : Nat) (w : World) (ha : a ≤ 64) (hs : s ≤ 64) : Calls Tryd.prog 35 #[.agg #[.int .i64 (a : Int), .int .i64 (s : Int)]] w fun e w' => e = .returned (.int .i64 (64 - (a : Int) - (s : Int))) ∧ Mod (fun _ => False) w w' := by
  go_enter Tryd.func35, Tryd.ntmps35
  go_wp2
  go_ret
  exact ⟨rfl, (Mod.refl _ _).alloc _⟩
set_option maxHeartbeats 1000000 in
theorem next_any (win : Option (Nat × Nat)) (x : Nat) (w : World) (hw : WinOk win) (h0 : x ≠ 0) (hx : Lt64 x) (hd : Deb w) : Calls Tryd.prog 34 #[.agg #[.int .i64 (winA win : Int), .int .i64 (winS win : Int)], .int .u64 (x : Int)] w fun e w' => e = .returned (winV (winX win x)) ∧ Mod (fun _ => False) w w' := by
  have Hw := Lib.hid hw; have Hx := Lib.hid hx; have Hd := Lib.hid hd
  obtain ⟨hb1, hb2, hb3⟩ := win_bounds hw
  obtain ⟨hla, hll⟩ := ahead_len hx.out
  obtain ⟨hbb, _⟩ := behind_form (by omega) hx.out
  have hal := (ahead_spec hx.out).1
  obtain ⟨A, hA⟩ : ∃ A, A = winA win := ⟨_, rfl⟩
  obtain ⟨S, hS⟩ : ∃ S, S = winS win := ⟨_, rfl⟩
  obtain ⟨L, hL⟩ : ∃ L, L = Lib.bitLen x := ⟨_, rfl⟩
  obtain ⟨ah, hah⟩ : ∃ ah, ah = aheadN x := ⟨_, rfl⟩
  obtain ⟨be, hbe⟩ : ∃ be, be = behindN x := ⟨_, rfl⟩
  have hmn : min (64 - (L : Int)) 31 = (ah : Int) := by rw [← hL] at hla; omega
  have HA := Lib.hid hA; have HS := Lib.hid hS; have HL := Lib.hid hL; have Hah := Lib.hid hah; have Hbe := Lib.hid hbe
  rw [← hA] at hb1 hb3
  rw [← hS] at hb2 hb3
  rw [← hah] at hal
  rw [← hbe] at hbb
  rw [← hA, ← hS]
  obtain ⟨W, hW⟩ : ∃ W, W = (w.alloc (.cells #[.int .i64 (A : Int), .int .i64 (S : Int)] 56)).alloc (.cells #[.int .i64 0, .int .i64 0] 56) := ⟨_, rfl⟩
  have HW := Lib.hid hW
  have hmW : Mod (fun _ => False) w W := by rw [hW]; exact ((Mod.refl _ _).alloc _).alloc _
  have hbo : Blk W w.heap.size 56 #[.int .i64 (A : Int), .int .i64 (S : Int)] := by rw [hW]; exact (Blk.new _ _ _).alloc _
  have hbr : Blk W (w.heap.size + 1) 56 #[.int .i64 0, .int .i64 0] := by
    have h := Blk.new (w.alloc (.cells #[.int .i64 (A : Int), .int .i64 (S : Int)] 56)) 56 #[.int .i64 0, .int .i64 0]
    rw [hW]
    simpa using h
  have HmW := Lib.hid hmW; have Hbo := Lib.hid hbo; have Hbr := Lib.hid hbr
  clear hw hx hd hA hS hL hah hbe hla hll hW hmW hbo hbr
  go_enter Tryd.func34, Tryd.ntmps34
  go_wp2_with fail
  refine (lead_any x _ Hx.out).mono ?_
  rintro e w1 ⟨rfl, rfl⟩
  rw [← HL.out]
  go_wp2_with fail
  rw [← HW.out]
  refine (trail_any x _ (by omega) Hx.out (Hd.out.mod HmW.out (fun h => h))).mono ?_
  rintro e w1 ⟨rfl, rfl⟩
  rw [← Hbe.out]
  clear hmn
  have hc0 := Hbo.out.cell 0
  have hc1 := Hbo.out.cell 1
  have hf0 := Hbr.out.frozen 0
  have hf1 := Hbr.out.frozen 1
  have hd0 := Hbr.out.cell 0
  have hd1 := Hbr.out.cell 1
  simp at hc0 hc1 hd0 hd1
  have hfit : fitsX win x = true ↔ (win ≠ none ∧ A ≤ ah ∧ 64 - A - S ≤ be) := by
    rw [HA.out, HS.out, Hah.out, Hbe.out]
    cases win with
    | none => exact ⟨fun h => (by cases h), fun h => absurd rfl h.1⟩
    | some p =>
      obtain ⟨a, b⟩ := p
      obtain ⟨w1, w2⟩ := Hw.out
      show decide _ = true ↔ _
      rw [decide_eq_true_iff]
      show (a ≤ aheadN x ∧ b ≤ behindN x) ↔ (_ ∧ a ≤ aheadN x ∧ 64 - a - (64 - a - b) ≤ behindN x)
      rw [show 64 - a - (64 - a - b) = b by omega]
      exact ⟨fun h => ⟨fun h => (by cases h), h⟩, fun h => h.2⟩
  have hnone : win = none → 64 - A - S = 64 := by
    intro h
    have h1 := HA.out; have h2 := HS.out
    rw [h] at h1 h2
    have h3 : A = 0 := h1
    have h4 : S = 0 := h2
    omega
  have hwin : (A ≤ ah ∧ 64 - A - S ≤ be → winX win x = win) ∧ (¬ (A ≤ ah ∧ 64 - A - S ≤ be) → winX win x = some (ah, be)) := by
    unfold winX
    rw [if_neg h0]
    refine ⟨fun h => ?_, fun h => ?_⟩
    · rw [if_pos (hfit.2 ⟨fun e => by have := hnone e; omega, h.1, h.2⟩)]
    · rw [if_neg (fun hf => h (hfit.1 hf).2), Hah.out, Hbe.out]
  have Hwin := Lib.hid hwin
  have hsum := sum_le (by omega) Hx.out
  rw [← Hah.out, ← Hbe.out] at hsum
  clear hfit hnone hwin
  by_cases h1 : A ≤ ah
  · have h1' : (A : Int) ≤ (ah : Int) := by omega
    go_wp2_with fail
    refine (behind_any A S _ (by omega) (by omega)).mono ?_
    rintro e w2 ⟨rfl, hm2⟩
    have hbo2 := hm2.blk Hbo.out (fun h => h)
    have hbr2 := hm2.blk Hbr.out (fun h => h)
    have hm02 := HmW.out.trans hm2 (fun _ _ h => h)
    have Hm2 := Lib.hid hm02; have Hbr2 := Lib.hid hbr2
    clear hc0 hc1 hd0 hd1 hf0 hf1 hm2 hm02
    have hc0 := hbo2.cell 0
    have hc1 := hbo2.cell 1
    have hf0 := hbr2.frozen 0
    have hf1 := hbr2.frozen 1
    have hd0 := hbr2.cell 0
    have hd1 := hbr2.cell 1
    simp at hc0 hc1 hd0 hd1
    clear hbo2 hbr2
    by_cases h2 : 64 - A - S ≤ be
    · have h2' : 64 - (A : Int) - (S : Int) ≤ (be : Int) := by omega
      go_wp2_with fail
      refine bodyPost_ret (v := .agg #[.int .i64 (A : Int), .int .i64 (S : Int)]) (by have h := Hbr2.out.two (.int .i64 (A : Int)) (.int .i64 (S : Int)); simp [results, Tryd.results34, go_sem, h.1, h.2.1]) rfl ⟨?_, ?_⟩
      · rw [Hwin.out.1 ⟨h1, h2⟩, winV_eq, ← HA.out, ← HS.out]
      · exact (Hm2.out.setCell (fun h => absurd h (by simp)) _).setCell (fun h => absurd h (by simp)) _
    · have h2' : ¬ 64 - (A : Int) - (S : Int) ≤ (be : Int) := by omega
      go_wp2_with fail
      refine bodyPost_ret (v := .agg #[.int .i64 (ah : Int), .int .i64 (64 - (ah : Int) - (be : Int))]) (by have h := Hbr2.out.two (.int .i64 (ah : Int)) (.int .i64 (64 - (ah : Int) - (be : Int))); simp [results, Tryd.results34, go_sem, h.1, h.2.1]) rfl ⟨?_, ?_⟩
      · rw [Hwin.out.2 (fun h => h2 h.2)]
        show _ = Ending.returned (.agg #[.int .i64 (ah : Int), .int .i64 ((64 - ah - be : Nat) : Int)])
        rw [show ((64 - ah - be : Nat) : Int) = 64 - (ah : Int) - (be : Int) by omega]
      · exact (Hm2.out.setCell (fun h => absurd h (by simp)) _).setCell (fun h => absurd h (by simp)) _
  · have h1' : ¬ (A : Int) ≤ (ah : Int) := by omega
    go_wp2_with fail
    refine bodyPost_ret (v := .agg #[.int .i64 (ah : Int), .int .i64 (64 - (ah : Int) - (be : Int))]) (by have h := Hbr.out.two (.int .i64 (ah : Int)) (.int .i64 (64 - (ah : Int) - (be : Int))); simp [results, Tryd.results34, go_sem, h.1, h.2.1]) rfl ⟨?_, ?_⟩
    · rw [Hwin.out.2 (fun h => h1 h.1)]
      show _ = Ending.returned (.agg #[.int .i64 (ah : Int), .int .i64 ((64 - ah - be : Nat) : Int)])
      rw [show ((64 - ah - be : Nat) : Int) = 64 - (ah : Int) - (be : Int) by omega]
    · exact (HmW.out.setCell (fun h => absurd h (by simp)) _).setCell (fun h => absurd h (by simp)) _
end Go.Proofs.YtdlkjfnifjlbhaaDoor

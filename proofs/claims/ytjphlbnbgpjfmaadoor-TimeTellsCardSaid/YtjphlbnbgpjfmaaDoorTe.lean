/- Times: wrapping of 64 bits, by sg and un; a reader's states, bad ones too. -/
import Derived.Test.YtjphlbnbgpjfmaaDoorTd2
import Derived.Test.YtjphlbnbgpjfmaaDoorMem
import Derived.Test.YtjphlbnbgpjfmaaDoorPlay0
import Derived.IntWalk
import Derived.Laws.Bits64
namespace Go.Proofs.YtjphlbnbgpjfmaaDoor
open Go.RowKit

theorem wrap_sg (x : Int) : wrap64 x = sg (un x) := by
  have hm : (M64 : Int) = 18446744073709551616 := rfl
  have hh : (H63 : Int) = 9223372036854775808 := rfl
  have h1 := Int.emod_nonneg x (show (M64 : Int) ≠ 0 by decide)
  have h2 := Int.emod_lt_of_pos x (show (0 : Int) < (M64 : Int) by decide)
  have e : x % (M64 : Int) = x % 18446744073709551616 := rfl
  unfold wrap64 sg un
  rw [e] at *
  split <;> omega
theorem wrapU_un (x : Int) : IntKind.u64.wrap x = (un x : Int) := by
  rw [IntKind.wrap_u64]
  have h1 := Int.emod_nonneg x (show (M64 : Int) ≠ 0 by decide)
  have e : x % (M64 : Int) = x % 18446744073709551616 := rfl
  unfold un
  rw [e] at *
  omega
theorem signed_int {v n : Nat} (hn : n ≤ 64) : wrap64 (IntKind.u64.wrap ((v : Int) * 2 ^ (64 - n))) / 2 ^ (64 - n) = sgn n (v % 2 ^ n) := by
  rw [wrap_sg, wrapU_un, un_nat (un_lt _)]
  have hu : v % 2 ^ n < 2 ^ n := Nat.mod_lt _ (Nat.two_pow_pos n)
  have hM : (M64 : Nat) = 2 ^ n * 2 ^ (64 - n) := by rw [M64_pow, ← Nat.pow_add]; congr 1; omega
  have hp : 0 < 2 ^ (64 - n) := Nat.two_pow_pos _
  have hx : un ((v : Int) * 2 ^ (64 - n)) = v % 2 ^ n * 2 ^ (64 - n) := by
    have e : (v : Int) * 2 ^ (64 - n) = ((v * 2 ^ (64 - n) : Nat) : Int) := by simp
    unfold un
    rw [e, ← Int.natCast_emod, Int.toNat_natCast, hM, Nat.mul_mod_mul_right]
  rw [hx]
  have hc : (2 : Int) ^ (64 - n) = ((2 ^ (64 - n) : Nat) : Int) := by simp
  rw [hc]
  have hd : ∀ a : Int, a * ((2 ^ (64 - n) : Nat) : Int) / ((2 ^ (64 - n) : Nat) : Int) = a := fun a => Int.mul_ediv_cancel a (by omega)
  rcases Nat.eq_or_lt_of_le hn with rfl | hn
  · unfold sgn
    rw [if_pos rfl]
    simp
  · unfold sgn sg
    rw [if_neg (show ¬ n = 64 by omega)]
    rcases Nat.eq_zero_or_pos n with rfl | h0
    · have : v % 2 ^ 0 = 0 := by omega
      rw [this]
      simp [H63_pos]
    · have h63 : H63 = 2 ^ (n - 1) * 2 ^ (64 - n) := by rw [H63_pow, ← Nat.pow_add]; congr 1; omega
      have h2n : 2 ^ n = 2 ^ (n - 1) * 2 := by rw [← Nat.pow_succ]; congr 1; omega
      have hb : v % 2 ^ n / 2 ^ (n - 1) % 2 = 1 ↔ ¬ v % 2 ^ n < 2 ^ (n - 1) := by
        have h1 : v % 2 ^ n / 2 ^ (n - 1) < 2 := by rw [Nat.div_lt_iff_lt_mul (Nat.two_pow_pos _), Nat.mul_comm]; omega
        constructor
        · intro h h2
          rw [Nat.div_eq_of_lt h2] at h
          omega
        · intro h
          have : 1 ≤ v % 2 ^ n / 2 ^ (n - 1) := by rw [Nat.le_div_iff_mul_le (Nat.two_pow_pos _)]; omega
          omega
      have hlt : v % 2 ^ n * 2 ^ (64 - n) < H63 ↔ v % 2 ^ n < 2 ^ (n - 1) := by
        rw [h63]
        exact Nat.mul_lt_mul_right hp
      by_cases h : v % 2 ^ n < 2 ^ (n - 1)
      · rw [if_pos (hlt.2 h), if_neg (fun h2 => hb.1 h2.2 h), Int.natCast_mul, hd]
      · rw [if_neg (fun h2 => h (hlt.1 h2)), if_pos ⟨h0, hb.2 h⟩, hM, Int.natCast_mul, Int.natCast_mul, ← Int.sub_mul, hd]
        simp

/-- A reader's state: what is left, or nothing. -/
def getO (k : Nat) : Option (Nat × Nat) → Nat × Option (Nat × Nat)
  | some (R, rem) => if k ≤ rem then (R / 2 ^ (rem - k), some (R % 2 ^ (rem - k), rem - k)) else (0, none)
  | none => (0, none)
def markO : Nat → Nat → Option (Nat × Nat) → Nat × Option (Nat × Nat)
  | 0, h, s => (h, s)
  | f + 1, h, s => if (getO 1 s).1 = 1 then markO f (h + 1) (getO 1 s).2 else (h, (getO 1 s).2)
def formO (s : Option (Nat × Nat)) : Nat := (markO 4 0 s).1
def bitsO (s : Option (Nat × Nat)) : Nat × Option (Nat × Nat) := getO (sz (formO s)) (markO 4 0 s).2
def diffO (s : Option (Nat × Nat)) : Int := sgn (sz (formO s)) (bitsO s).1
def behindO (s : Option (Nat × Nat)) : Option (Nat × Nat) := (bitsO s).2
theorem markO_le (f h : Nat) (s : Option (Nat × Nat)) : (markO f h s).1 ≤ h + f := by
  induction f generalizing h s with
  | zero => exact Nat.le_refl _
  | succ f ih =>
    unfold markO
    split
    · have := ih (h + 1) (getO 1 s).2; omega
    · show h ≤ _; omega
theorem formO_le (s : Option (Nat × Nat)) : formO s ≤ 4 := by have := markO_le 4 0 s; unfold formO; omega
theorem getO_none (k : Nat) : getO k none = (0, none) := rfl
theorem getO_take (k R rem : Nat) : getO k (some (R, rem)) = match takeB k R rem with | some (b, R1, rem1) => (b, some (R1, rem1)) | none => (0, none) := by
  unfold getO takeB
  by_cases h : k ≤ rem
  · simp [h]
  · simp [h]
theorem markO_none (f h : Nat) : markO f h none = (h, none) := by
  cases f with
  | zero => rfl
  | succ f => rfl
theorem markO_head (f h R rem : Nat) : (∀ h' R1 rem1, rdHead f h R rem = some (h', R1, rem1) → markO f h (some (R, rem)) = (h', some (R1, rem1))) ∧ (rdHead f h R rem = none → (markO f h (some (R, rem))).2 = none) := by
  induction f generalizing h R rem with
  | zero =>
    refine ⟨fun h' R1 rem1 e => ?_, fun e => by cases e⟩
    injection e with e
    injection e with e1 e2
    injection e2 with e2 e3
    subst e1 e2 e3
    rfl
  | succ f ih =>
    have e1 : rdHead (f + 1) h R rem = match takeB 1 R rem with | none => none | some (b, R1, rem1) => if b = 1 then rdHead f (h + 1) R1 rem1 else some (h, R1, rem1) := rfl
    have e2 : markO (f + 1) h (some (R, rem)) = if (getO 1 (some (R, rem))).1 = 1 then markO f (h + 1) (getO 1 (some (R, rem))).2 else (h, (getO 1 (some (R, rem))).2) := rfl
    rw [e1, e2, getO_take]
    cases ht : takeB 1 R rem with
    | none => exact ⟨fun _ _ _ e => (by cases e), fun _ => rfl⟩
    | some q =>
      obtain ⟨b, R1, rem1⟩ := q
      by_cases hb : b = 1
      · simpa [hb] using ih (h + 1) R1 rem1
      · refine ⟨fun h' R2 rem2 e => ?_, fun e => ?_⟩
        · simp [hb] at e ⊢
          exact e
        · simp [hb] at e
theorem rdDiff_O (R rem : Nat) : (∀ d R1 rem1, rdDiff R rem = some (d, R1, rem1) → diffO (some (R, rem)) = d ∧ behindO (some (R, rem)) = some (R1, rem1) ∧ formO (some (R, rem)) = hd d) ∧
    (rdDiff R rem = none → behindO (some (R, rem)) = none ∨ formO (some (R, rem)) ≠ hd (diffO (some (R, rem)))) := by
  obtain ⟨a1, a2⟩ := markO_head 4 0 R rem
  have hf := formO_le (some (R, rem))
  unfold rdDiff
  cases h1 : rdHead 4 0 R rem with
  | none =>
    refine ⟨fun _ _ _ e => (by cases e), fun _ => .inl ?_⟩
    unfold behindO bitsO
    rw [a2 h1]
    rfl
  | some q =>
    obtain ⟨h, R1, rem1⟩ := q
    have e := a1 h R1 rem1 h1
    have ef : formO (some (R, rem)) = h := by unfold formO; rw [e]
    have eb : bitsO (some (R, rem)) = getO (sz h) (some (R1, rem1)) := by unfold bitsO; rw [ef, e]
    rw [getO_take] at eb
    show (∀ d R1' rem1', (match takeB (sz h) R1 rem1 with | none => none | some (u, R2, rem2) => if kindN (sgn (sz h) u) = sz h then some (sgn (sz h) u, R2, rem2) else none) = some (d, R1', rem1') → _) ∧ ((match takeB (sz h) R1 rem1 with | none => none | some (u, R2, rem2) => if kindN (sgn (sz h) u) = sz h then some (sgn (sz h) u, R2, rem2) else none) = none → _)
    cases h2 : takeB (sz h) R1 rem1 with
    | none =>
      refine ⟨fun _ _ _ e => (by cases e), fun _ => .inl ?_⟩
      unfold behindO
      rw [eb, h2]
    | some q2 =>
      obtain ⟨u, R2, rem2⟩ := q2
      rw [h2] at eb
      have ed : diffO (some (R, rem)) = sgn (sz h) u := by unfold diffO; rw [ef, eb]
      have ebh : behindO (some (R, rem)) = some (R2, rem2) := by unfold behindO; rw [eb]
      have hk : kindN (sgn (sz h) u) = sz h ↔ h = hd (sgn (sz h) u) := by
        rw [kind_hd]
        exact ⟨fun e => (sz_inj (hd_le _) (by omega) e).symm, fun e => by rw [← e]⟩
      refine ⟨fun d R1' rem1' e => ?_, fun e => .inr ?_⟩
      · by_cases hk2 : kindN (sgn (sz h) u) = sz h
        · simp [hk2] at e
          obtain ⟨rfl, rfl, rfl⟩ := e
          exact ⟨ed, ebh, ef.trans (hk.1 hk2)⟩
        · simp [hk2] at e
      · rw [ef, ed]
        intro h3
        simp [hk.2 h3] at e
theorem behindO_none : behindO none = none := rfl
end Go.Proofs.YtjphlbnbgpjfmaaDoor

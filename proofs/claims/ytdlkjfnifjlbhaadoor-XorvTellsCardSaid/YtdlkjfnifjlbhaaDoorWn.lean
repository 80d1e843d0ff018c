/- What the document's own reading of values stands on: rows read loosely, one turn more; two rows of bits held beside each other. -/
import Derived.Test.YtdlkjfnifjlbhaaDoorWv
import Derived.Test.YtdlkjfnifjlbhaaDoorRefr
import Derived.Test.YtdlkjfnifjlbhaaDoorGl
namespace Go.Proofs.YtdlkjfnifjlbhaaDoor
open Go.RowKit

theorem rdVals_first {k R rem : Nat} (hk : 0 < k) : ((getO 64 (some (R, rem))).2 = none → rdVals k R rem = none) ∧ ∀ R' rem', (getO 64 (some (R, rem))).2 = some (R', rem') → rdVals k R rem = (rdXs (k - 1) none (getO 64 (some (R, rem))).1 R' rem').map fun p => ((getO 64 (some (R, rem))).1 :: p.1, p.2) := by
  obtain ⟨k, rfl⟩ : ∃ j, k = j + 1 := ⟨k - 1, by omega⟩
  have e : rdVals (k + 1) R rem = match takeB 64 R rem with | none => none | some (u, R1, rem1) => (rdXs k none u R1 rem1).map fun (p : List Nat × Nat × Nat) => (u :: p.1, p.2) := rfl
  rw [e, getO_take]
  cases ht : takeB 64 R rem with
  | none => exact ⟨fun _ => rfl, fun _ _ h => by cases h⟩
  | some q =>
    obtain ⟨u, R1, rem1⟩ := q
    refine ⟨fun h => (by cases h), fun R' rem' h => ?_⟩
    have h2 : some (R1, rem1) = some (R', rem') := h
    injection h2 with h2
    injection h2 with h3 h4
    subst h3 h4
    rfl
theorem rdVals_next {k R rem i : Nat} {win s : Option (Nat × Nat)} {prev : Nat} {xs : List Nat} (hi : i < k) (h : ∀ R' rem', s = some (R', rem') → rdVals k R rem = (rdXs (k - i) win prev R' rem').map fun p => (xs ++ p.1, p.2)) (hs : s.isSome = true) :
    (rdO win s = none → rdVals k R rem = none) ∧ ∀ x win' R1 rem1, rdO win s = some (x, win', R1, rem1) → rdVals k R rem = (rdXs (k - (i + 1)) win' (prev ^^^ x) R1 rem1).map fun p => ((xs ++ [prev ^^^ x]) ++ p.1, p.2) := by
  obtain ⟨j, hj⟩ : ∃ j, k - i = j + 1 := ⟨k - i - 1, by omega⟩
  have hj2 : k - (i + 1) = j := by omega
  cases s with
  | none => cases hs
  | some p =>
    obtain ⟨R0, rem0⟩ := p
    have h1 := h R0 rem0 rfl
    rw [hj] at h1
    have e : rdXs (j + 1) win prev R0 rem0 = match rdX win R0 rem0 with | none => none | some (x, win', R1, rem1) => (rdXs j win' (prev ^^^ x) R1 rem1).map fun (p : List Nat × Nat × Nat) => ((prev ^^^ x) :: p.1, p.2) := rfl
    rw [e] at h1
    refine ⟨fun hn => ?_, fun x win' R1 rem1 hs => ?_⟩
    · have hn' : rdX win R0 rem0 = none := hn
      rw [h1, hn']; rfl
    · have hs' : rdX win R0 rem0 = some (x, win', R1, rem1) := hs
      rw [h1, hs', hj2]
      show ((rdXs j win' (prev ^^^ x) R1 rem1).map _).map _ = _
      rw [Option.map_map]
      congr 1
      funext p
      simp
theorem valRow_none {n R rem : Nat} (h : rdVals n R rem = none) : valRow n R rem = none := by unfold valRow; rw [h]
theorem valRow_some {n R rem : Nat} {vs : List Nat} {R' rem' : Nat} (h : rdVals n R rem = some (vs, R', rem')) : valRow n R rem = if flen (encVals vs) + rem' = rem ∧ fnum (encVals vs) = R / 2 ^ rem' then some (vs, R', rem') else none := by unfold valRow; rw [h]
/-- Rows of bits. -/
theorem bval_acc (bs : List Nat) (acc : Nat) : bs.foldl (fun a b => a * 2 + b) acc = acc * 2 ^ bs.length + bval bs := by
  induction bs generalizing acc with
  | nil => show acc = acc * 2 ^ 0 + 0; omega
  | cons b bs ih =>
    have e : bval (b :: bs) = bs.foldl (fun a b => a * 2 + b) (0 * 2 + b) := rfl
    rw [e, ih]
    show bs.foldl (fun a b => a * 2 + b) (acc * 2 + b) = _
    rw [ih, List.length_cons, Nat.pow_succ, Nat.add_mul, Nat.add_mul, Nat.mul_assoc, Nat.mul_comm 2]
    omega
theorem bval_app (cs bs : List Nat) : bval (cs ++ bs) = bval cs * 2 ^ bs.length + bval bs := by
  show (cs ++ bs).foldl (fun a b => a * 2 + b) 0 = _
  rw [List.foldl_append, bval_acc]
  rfl
theorem bval_lt {bs : List Nat} (h : lt2 bs) : bval bs < 2 ^ bs.length := by
  induction bs with
  | nil => exact Nat.one_pos
  | cons b bs ih =>
    have h1 := ih (fun x hx => h x (by simp [hx]))
    have h2 := h b (by simp)
    have e : bval (b :: bs) = b * 2 ^ bs.length + bval bs := by
      have := bval_app [b] bs
      have e0 : bval [b] = b := by show 0 * 2 + b = b; omega
      rwa [e0] at this
    rw [e, List.length_cons, Nat.pow_succ]
    have h3 : b * 2 ^ bs.length ≤ 1 * 2 ^ bs.length := Nat.mul_le_mul_right _ (by omega)
    omega
/-- One bit more of a row of bits, and of a number. -/
theorem bval_take {bs : List Nat} {i b : Nat} (hb : bs[i]? = some b) : bval (bs.take (i + 1)) = bval (bs.take i) * 2 + b := by
  have hi : i < bs.length := (List.getElem?_eq_some_iff.1 hb).1
  rw [List.take_succ_eq_append_getElem hi, bval_snoc, (List.getElem?_eq_some_iff.1 hb).2]
theorem bval_div {bs : List Nat} (h : lt2 bs) (i : Nat) : bval bs / 2 ^ (bs.length - i) = bval (bs.take i) := by
  have h1 : bval bs = bval (bs.take i) * 2 ^ (bs.length - i) + bval (bs.drop i) := by
    conv => lhs; rw [← List.take_append_drop i bs]
    rw [bval_app, List.length_drop]
  have h2 : bval (bs.drop i) < 2 ^ (bs.length - i) := by
    have := bval_lt (bs := bs.drop i) (fun x hx => h x (List.mem_of_mem_drop hx))
    rwa [List.length_drop] at this
  rw [h1, Nat.mul_comm, Nat.mul_add_div (Nat.two_pow_pos _), Nat.div_eq_of_lt h2, Nat.add_zero]
theorem num_more (R rem i : Nat) (hi : i < rem) : R / 2 ^ (rem - (i + 1)) = R / 2 ^ (rem - i) * 2 + R / 2 ^ (rem - (i + 1)) % 2 := by
  have e : rem - i = (rem - (i + 1)) + 1 := by omega
  rw [e, Nat.pow_succ, ← Nat.div_div_eq_div_mul]
  omega
/-- The bits that have been held beside each other are alike. -/
def Alike (bs : List Nat) (R rem i : Nat) : Prop := i ≤ bs.length ∧ bs.length ≤ rem ∧ bval (bs.take i) = R / 2 ^ (rem - i)
theorem alike_zero {bs : List Nat} {R rem : Nat} (hR : R < 2 ^ rem) (hl : bs.length ≤ rem) : Alike bs R rem 0 := ⟨Nat.zero_le _, hl, by rw [Nat.sub_zero, Nat.div_eq_of_lt hR]; rfl⟩
theorem alike_more {bs : List Nat} {R rem i b c : Nat} (h : Alike bs R rem i) (hb : bs[i]? = some b) (hc : R / 2 ^ (rem - (i + 1)) % 2 = c) (he : b = c) : Alike bs R rem (i + 1) := by
  obtain ⟨h1, h2, h3⟩ := h
  have hi : i < bs.length := (List.getElem?_eq_some_iff.1 hb).1
  refine ⟨hi, h2, ?_⟩
  rw [bval_take hb, num_more R rem i (by omega), hc, h3, he]
theorem alike_not {bs : List Nat} {R rem i b c : Nat} (hl2 : lt2 bs) (h : Alike bs R rem i) (hb : bs[i]? = some b) (hc : R / 2 ^ (rem - (i + 1)) % 2 = c) (he : b ≠ c) : bval bs ≠ R / 2 ^ (rem - bs.length) := by
  obtain ⟨h1, h2, h3⟩ := h
  have hi : i < bs.length := (List.getElem?_eq_some_iff.1 hb).1
  intro e
  have e1 := bval_div hl2 (i + 1)
  rw [e, Nat.div_div_eq_div_mul, ← Nat.pow_add, show rem - bs.length + (bs.length - (i + 1)) = rem - (i + 1) by omega, num_more R rem i (by omega), hc, bval_take hb, h3] at e1
  omega
theorem alike_all {bs : List Nat} {R rem : Nat} (h : Alike bs R rem bs.length) : bval bs = R / 2 ^ (rem - bs.length) := by
  have := h.2.2
  rwa [List.take_length] at this
/-- The bit of a reader's bytes, r bits ahead of the end. -/
theorem read_bit {bs : List Nat} {n a r b R rem i : Nat} (hn : bs.length = n) (hlt : lt256 bs) (hR : R = val bs % 2 ^ rem) (hr : r = rem - i) (hi : i < rem) (har : a + r = 8 * n) (hb : bs[a / 8]? = some b) : R / 2 ^ (rem - (i + 1)) % 2 = b / 2 ^ (7 - a % 8) % 2 := by
  have h := bit_at bs n a r b hn (by omega) har hlt hb
  rw [← h, hR]
  have e1 : rem - (i + 1) = r - 1 := by omega
  rw [e1]
  have e2 : val bs % 2 ^ r = R % 2 ^ r := by rw [hR, Nat.mod_mod_of_dvd _ (Nat.pow_dvd_pow 2 (by omega))]
  rw [e2, ← hR]
  have e3 : (2 : Nat) ^ r = 2 ^ (r - 1) * 2 := by rw [← Nat.pow_succ]; congr 1; omega
  rw [e3, Nat.mod_mul_right_div_self]
end Go.Proofs.YtdlkjfnifjlbhaaDoor

/- The least and the greatest of a row of values of 64 bits: slices.Min, slices.Max; min and max as rules for whatever world. -/
import Derived.Test.YtliaehfknppnaaaUw
import Derived.Test.YtliaehfknppnaaaPm
import Derived.Deep.DeepCutAuto
namespace Go.Proofs.Ytliaehfknppnaaa
open Go.RowKit

theorem minU_is {P : Program} {t ty : TypeId} {n1 n2 m : Nat} (h : min n1 n2 = m) : ∀ w, (Builtin.min_ #[t, t] ty #[.int .u64 (n1 : Int), .int .u64 (n2 : Int)]).run P w = .ok (.int .u64 (m : Int)) w := by
  intro w
  have hx : (if (n2 : Int) < (n1 : Int) then (n2 : Int) else (n1 : Int)) = (m : Int) := by
    split <;> omega
  simp only [Builtin.min_, List.foldlM, Builtin.min2, Sem.run_bind, Sem.run_pure, Result.andThen_ok, hx]
theorem maxU_is {P : Program} {t ty : TypeId} {n1 n2 m : Nat} (h : max n1 n2 = m) : ∀ w, (Builtin.max_ #[t, t] ty #[.int .u64 (n1 : Int), .int .u64 (n2 : Int)]).run P w = .ok (.int .u64 (m : Int)) w := by
  intro w
  have hx : (if (n1 : Int) < (n2 : Int) then (n2 : Int) else (n1 : Int)) = (m : Int) := by
    split <;> omega
  simp only [Builtin.max_, List.foldlM, Builtin.max2, Sem.run_bind, Sem.run_pure, Result.andThen_ok, hx]
/-- The least, and the greatest, of the first i. -/
def loI (us : List Nat) (i : Nat) : Nat := (us.take i).foldl min (us.getD 0 0)
def hiI (us : List Nat) (i : Nat) : Nat := (us.take i).foldl max (us.getD 0 0)
theorem loI_all {us : List Nat} {i : Nat} (h : us.length ≤ i) : loI us i = loV us := by unfold loI loV; rw [List.take_of_length_le h]
theorem hiI_all {us : List Nat} {i : Nat} (h : us.length ≤ i) : hiI us i = hiV us := by unfold hiI hiV; rw [List.take_of_length_le h]
theorem take_succ_of {us : List Nat} {i x : Nat} (h : us[i]? = some x) : us.take (i + 1) = us.take i ++ [x] := by
  rw [List.take_add_one, h]; rfl
theorem loI_succ {us : List Nat} {i x : Nat} (h : us[i]? = some x) : loI us (i + 1) = min (loI us i) x := by
  unfold loI; rw [take_succ_of h, List.foldl_append]; rfl
theorem hiI_succ {us : List Nat} {i x : Nat} (h : us[i]? = some x) : hiI us (i + 1) = max (hiI us i) x := by
  unfold hiI; rw [take_succ_of h, List.foldl_append]; rfl
theorem loI_one {us : List Nat} {x : Nat} (h : us[0]? = some x) : loI us 1 = x := by
  rw [loI_succ (i := 0) h]
  show min (us.getD 0 0) x = x
  rw [List.getD_eq_getElem?_getD, h]
  exact Nat.min_self x
theorem hiI_one {us : List Nat} {x : Nat} (h : us[0]? = some x) : hiI us 1 = x := by
  rw [hiI_succ (i := 0) h]
  show max (us.getD 0 0) x = x
  rw [List.getD_eq_getElem?_getD, h]
  exact Nat.max_self x
theorem loI_zero (us : List Nat) : loI us 0 = us.getD 0 0 := rfl
theorem hiI_zero (us : List Nat) : hiI us 0 = us.getD 0 0 := rfl
theorem add_nought (a : Addr) : a.add 0 = a := by unfold Addr.add; simp
set_option maxHeartbeats 1000000 in
theorem umin_any (A : Option Addr) (n cap B L : Nat) (us : List Nat) (w : World) (hs : Rds w B A n (cellsU us)) (hB : B ≤ w.heap.size) (h0 : 0 < n) (hn : n ≤ 1000000) (hL : loV us = L) :
    Calls Try.prog 17 #[.slice A n cap] w fun e w' => e = .returned (.int .u64 (L : Int)) ∧ w = w' := by
  have hul : us.length = n := by have := hs.1; rwa [cellsU_length] at this
  have Hs := Lib.hid hs; have HB := Lib.hid hB; have Hul := Lib.hid hul; have HL := Lib.hid hL
  obtain ⟨ad, x0, rfl, hx0, hc0⟩ := hs.at2 h0 hB (Mod.refl (fun _ => False) w) (fun _ _ h => h)
  have hc0' := hc0
  rw [add_nought] at hc0'
  have h1 := Lib.hid (loI_one hx0)
  clear hs hB hul hL hx0
  go_enter Try.func17, Try.ntmps17
  go_wp2_with fail
  clear hc0 hc0'
  go_loopg [3, 4] (n - 1) (fun l s3 s4 wr => ∃ (i m : Nat), i + l = n ∧ 0 < i ∧ s4 = .int .i64 (i : Int) ∧ s3 = .int .u64 (m : Int) ∧ Hid (loI us i = m) ∧ w = wr)
  case atStart => exact ⟨1, x0, by omega, by omega, rfl, rfl, h1, rfl⟩
  case round =>
    obtain ⟨i, m, hil, hi0, rfl, rfl, hm, rfl⟩ := hrel
    have Hil := Lib.hid hil
    clear hil h1
    by_cases hin : i < n
    · obtain ⟨ad', x, he, hx, hcx⟩ := Hs.out.at2 hin HB.out (Mod.refl (fun _ => False) w) (fun _ _ h => h)
      injection he with he
      subst he
      obtain ⟨m2, hm2⟩ : ∃ m2, min m x = m2 := ⟨_, rfl⟩
      have hmin := minU_is (P := Try.prog) (t := 31) (ty := 31) hm2
      have Hm2 : Hid (loI us (i + 1) = m2) := Lib.hid (by rw [loI_succ hx, hm.out, hm2])
      have hi1 : (0 : Int) ≤ (i : Int) := by omega
      clear hx hm2
      go_wp2_with fail
      go_roundg (gk - 1)
      case measure => have := Hil.out; omega
      case rel => exact ⟨i + 1, m2, by have := Hil.out; omega, by omega, by go_num, rfl, Hm2, rfl⟩
    · go_wp2_with fail
      go_ret
      have e : m = L := by rw [← hm.out, ← HL.out]; exact loI_all (by have := Hul.out; omega)
      subst e
      exact ⟨rfl, rfl⟩
set_option maxHeartbeats 1000000 in
theorem umax_any (A : Option Addr) (n cap B L : Nat) (us : List Nat) (w : World) (hs : Rds w B A n (cellsU us)) (hB : B ≤ w.heap.size) (h0 : 0 < n) (hn : n ≤ 1000000) (hL : hiV us = L) :
    Calls Try.prog 19 #[.slice A n cap] w fun e w' => e = .returned (.int .u64 (L : Int)) ∧ w = w' := by
  have hul : us.length = n := by have := hs.1; rwa [cellsU_length] at this
  have Hs := Lib.hid hs; have HB := Lib.hid hB; have Hul := Lib.hid hul; have HL := Lib.hid hL
  obtain ⟨ad, x0, rfl, hx0, hc0⟩ := hs.at2 h0 hB (Mod.refl (fun _ => False) w) (fun _ _ h => h)
  have hc0' := hc0
  rw [add_nought] at hc0'
  have h1 := Lib.hid (hiI_one hx0)
  clear hs hB hul hL hx0
  go_enter Try.func19, Try.ntmps19
  go_wp2_with fail
  clear hc0 hc0'
  go_loopg [3, 4] (n - 1) (fun l s3 s4 wr => ∃ (i m : Nat), i + l = n ∧ 0 < i ∧ s4 = .int .i64 (i : Int) ∧ s3 = .int .u64 (m : Int) ∧ Hid (hiI us i = m) ∧ w = wr)
  case atStart => exact ⟨1, x0, by omega, by omega, rfl, rfl, h1, rfl⟩
  case round =>
    obtain ⟨i, m, hil, hi0, rfl, rfl, hm, rfl⟩ := hrel
    have Hil := Lib.hid hil
    clear hil h1
    by_cases hin : i < n
    · obtain ⟨ad', x, he, hx, hcx⟩ := Hs.out.at2 hin HB.out (Mod.refl (fun _ => False) w) (fun _ _ h => h)
      injection he with he
      subst he
      obtain ⟨m2, hm2⟩ : ∃ m2, max m x = m2 := ⟨_, rfl⟩
      have hmax := maxU_is (P := Try.prog) (t := 31) (ty := 31) hm2
      have Hm2 : Hid (hiI us (i + 1) = m2) := Lib.hid (by rw [hiI_succ hx, hm.out, hm2])
      have hi1 : (0 : Int) ≤ (i : Int) := by omega
      clear hx hm2
      go_wp2_with fail
      go_roundg (gk - 1)
      case measure => have := Hil.out; omega
      case rel => exact ⟨i + 1, m2, by have := Hil.out; omega, by omega, by go_num, rfl, Hm2, rfl⟩
    · go_wp2_with fail
      go_ret
      have e : m = L := by rw [← hm.out, ← HL.out]; exact hiI_all (by have := Hul.out; omega)
      subst e
      exact ⟨rfl, rfl⟩
end Go.Proofs.Ytliaehfknppnaaa

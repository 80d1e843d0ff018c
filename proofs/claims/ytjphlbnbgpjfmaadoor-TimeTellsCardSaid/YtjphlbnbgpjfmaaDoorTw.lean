/- The widths' table, and what reads it: signed, shortest. -/
import Derived.Test.YtjphlbnbgpjfmaaDoorAll4
import Derived.Test.YtjphlbnbgpjfmaaDoorTe
import Derived.WalkSpells
import Derived.WalkLawsBesides
import Derived.Deep.DeepFit
namespace Go.Proofs.YtjphlbnbgpjfmaaDoor
open Go.RowKit

theorem ret_eq {k : IntKind} {a b : Int} (h : a = b) : Ending.returned (.int k a) = .returned (.int k b) := by rw [h]
theorem signed_any (v n : Nat) (w : World) (hv : Lt64 v) (hn : n ≤ 64) :
    Calls Tryd.prog 35 #[.int .u64 (v : Int), .int .i64 (n : Int)] w fun e w' => e = .returned (.int .i64 (sgn n (v % 2 ^ n))) ∧ w = w' := by
  have h0 : (0 : Int) ≤ 64 - (n : Int) := by omega
  have Hv := Lib.hid hv
  clear hv
  go_enter Tryd.func35, Tryd.ntmps35
  go_wp2
  go_ret
  exact ⟨ret_int (signed_int hn), rfl⟩

theorem signed_is (v n : Nat) (N r : Int) (w : World) (hN : N = (n : Int)) (hv : Lt64 v) (hn : n ≤ 64) (hr : sgn n (v % 2 ^ n) = r) :
    Calls Tryd.prog 35 #[.int .u64 (v : Int), .int .i64 N] w fun e w' => e = .returned (.int .i64 r) ∧ w = w' := by
  subst hN hr
  exact signed_any v n w hv hn
theorem sgn_range {n u : Nat} (h0 : 0 < n) (hn : n < 64) (hu : u < 2 ^ n) : -((2 ^ (n - 1) : Nat) : Int) ≤ sgn n u ∧ sgn n u < ((2 ^ (n - 1) : Nat) : Int) := by
  have h2n : 2 ^ n = 2 ^ (n - 1) * 2 := by rw [← Nat.pow_succ]; congr 1; omega
  have hc : (2 : Int) ^ n = ((2 ^ n : Nat) : Int) := by simp
  have hb : u / 2 ^ (n - 1) % 2 = 1 ↔ ¬ u < 2 ^ (n - 1) := by
    have h1 : u / 2 ^ (n - 1) < 2 := by rw [Nat.div_lt_iff_lt_mul (Nat.two_pow_pos _), Nat.mul_comm]; omega
    constructor
    · intro h h2
      rw [Nat.div_eq_of_lt h2] at h
      omega
    · intro h
      have : 1 ≤ u / 2 ^ (n - 1) := by rw [Nat.le_div_iff_mul_le (Nat.two_pow_pos _)]; omega
      omega
  unfold sgn
  rw [if_neg (show ¬ n = 64 by omega), hc]
  split
  · rename_i h
    have := hb.1 h.2
    omega
  · rename_i h
    have : u < 2 ^ (n - 1) := by
      rcases Nat.lt_or_ge u (2 ^ (n - 1)) with h1 | h1
      · exact h1
      · exact absurd ⟨h0, hb.2 (by omega)⟩ h
    omega
theorem sgn_not {d : Int} {k : Nat} (h : k < hd d) : sgn (sz k) (un d % 2 ^ sz k) ≠ d := by
  have hk := hd_le d
  intro e
  have hk' : k = 0 ∨ k = 1 ∨ k = 2 ∨ k = 3 := by omega
  unfold hd at h
  rcases hk' with rfl | rfl | rfl | rfl
  · have hu : un d % 2 ^ 0 = 0 := by omega
    have e2 : sgn 0 (un d % 2 ^ 0) = d := e
    rw [hu] at e2
    have e3 : (0 : Int) = d := e2
    rw [if_pos e3.symm] at h
    omega
  · have := sgn_range (n := 7) (by decide) (by decide) (Nat.mod_lt (un d) (Nat.two_pow_pos 7))
    have e2 : sgn 7 (un d % 2 ^ 7) = d := e
    rw [e2] at this
    have h1 : -64 ≤ d ∧ d < 64 := by omega
    by_cases h0 : d = 0
    · rw [if_pos h0] at h; omega
    · rw [if_neg h0, if_pos h1] at h; omega
  · have := sgn_range (n := 9) (by decide) (by decide) (Nat.mod_lt (un d) (Nat.two_pow_pos 9))
    have e2 : sgn 9 (un d % 2 ^ 9) = d := e
    rw [e2] at this
    have h1 : -256 ≤ d ∧ d < 256 := by omega
    by_cases h0 : d = 0
    · rw [if_pos h0] at h; omega
    · rw [if_neg h0] at h
      by_cases h2 : -64 ≤ d ∧ d < 64
      · rw [if_pos h2] at h; omega
      · rw [if_neg h2, if_pos h1] at h; omega
  · have := sgn_range (n := 12) (by decide) (by decide) (Nat.mod_lt (un d) (Nat.two_pow_pos 12))
    have e2 : sgn 12 (un d % 2 ^ 12) = d := e
    rw [e2] at this
    have h1 : -2048 ≤ d ∧ d < 2048 := by omega
    by_cases h0 : d = 0
    · rw [if_pos h0] at h; omega
    · rw [if_neg h0] at h
      by_cases h2 : -64 ≤ d ∧ d < 64
      · rw [if_pos h2] at h; omega
      · rw [if_neg h2] at h
        by_cases h3 : -256 ≤ d ∧ d < 256
        · rw [if_pos h3] at h; omega
        · rw [if_neg h3, if_pos h1] at h; omega
theorem sz_le (k : Nat) : sz k ≤ 64 := by unfold sz; split; omega; split; omega; split; omega; split; omega; omega

/-- The widths, where their variable lies. -/
def Wid (w : World) : Prop := 0 < w.heap.size ∧ ∀ i, i < 5 → w.cell? ⟨0, i, none⟩ = some (.int .i64 (sz i : Nat))
theorem Wid.mod {w w' : World} {S : Nat → Prop} (h : Wid w) (hm : Mod S w w') (hn : ¬ S 0) : Wid w' :=
  ⟨Nat.lt_of_lt_of_le h.1 hm.size, fun i hi => (hm.cell (a := ⟨0, i, none⟩) h.1 hn).trans (h.2 i hi)⟩
theorem shortest_any (d : Int) (w : World) (hf : Fits d) (hw : Wid w) :
    Calls Tryd.prog 36 #[.int .i64 d] w fun e w' => e = .returned (.int .i64 (hd d : Nat)) ∧ w = w' := by
  have h0 : w.cell? ⟨0, 0, none⟩ = some (.int .i64 0) := hw.2 0 (by decide)
  have h1 : w.cell? ⟨0, 1, none⟩ = some (.int .i64 7) := hw.2 1 (by decide)
  have h2 : w.cell? ⟨0, 2, none⟩ = some (.int .i64 9) := hw.2 2 (by decide)
  have h3 : w.cell? ⟨0, 3, none⟩ = some (.int .i64 12) := hw.2 3 (by decide)
  have h4 : w.cell? ⟨0, 4, none⟩ = some (.int .i64 64) := hw.2 4 (by decide)
  have Hf := Lib.hid hf
  have hwu : IntKind.u64.wrap d = (un d : Int) := wrapU_un d
  have hul : Hid (Lt64 (un d)) := Lib.hid (un_lt d)
  clear hw hf
  have i0 : ∀ w : World, (Instr.index 72 (.agg #[.int .i64 0, .int .i64 7, .int .i64 9, .int .i64 12, .int .i64 64]) (.int .i64 0)).run Tryd.prog w = .ok (.int .i64 0) w := fun _ => by kernel_rfl
  have i1 : ∀ w : World, (Instr.index 72 (.agg #[.int .i64 0, .int .i64 7, .int .i64 9, .int .i64 12, .int .i64 64]) (.int .i64 1)).run Tryd.prog w = .ok (.int .i64 7) w := fun _ => by kernel_rfl
  have i2 : ∀ w : World, (Instr.index 72 (.agg #[.int .i64 0, .int .i64 7, .int .i64 9, .int .i64 12, .int .i64 64]) (.int .i64 2)).run Tryd.prog w = .ok (.int .i64 9) w := fun _ => by kernel_rfl
  have i3 : ∀ w : World, (Instr.index 72 (.agg #[.int .i64 0, .int .i64 7, .int .i64 9, .int .i64 12, .int .i64 64]) (.int .i64 3)).run Tryd.prog w = .ok (.int .i64 12) w := fun _ => by kernel_rfl
  have i4 : ∀ w : World, (Instr.index 72 (.agg #[.int .i64 0, .int .i64 7, .int .i64 9, .int .i64 12, .int .i64 64]) (.int .i64 4)).run Tryd.prog w = .ok (.int .i64 64) w := fun _ => by kernel_rfl
  go_enter Tryd.func36, Tryd.ntmps36
  go_wp2_with fail
  go_loopg [6] 5 (fun l s6 wr => ∃ i : Nat, i + l = 5 ∧ i ≤ hd d ∧ s6 = .int .i64 (i : Int) ∧ wr = w)
  case atStart => exact ⟨0, rfl, Nat.zero_le _, rfl, rfl⟩
  case round =>
    obtain ⟨i, hil, hih, rfl, rfl⟩ := hrel
    have h5 := hd_le d
    have hi : i = 0 ∨ i = 1 ∨ i = 2 ∨ i = 3 ∨ i = 4 := by omega
    have Hil := Lib.hid hil
    clear hil
    rcases Nat.eq_or_lt_of_le hih with he | hlt
    · have hs := sgn_in (h5) (Nat.le_refl _) Hf.out
      rw [← he] at hs
      have Hs := Lib.hid hs
      have He := Lib.hid he
      clear he hs hih h5
      rcases hi with rfl | rfl | rfl | rfl | rfl
      all_goals
        go_wp2_with fail
        first
          | refine (signed_is (un d) 0 0 d _ rfl hul.out (by decide) Hs.out).mono ?_
          | refine (signed_is (un d) 7 7 d _ rfl hul.out (by decide) Hs.out).mono ?_
          | refine (signed_is (un d) 9 9 d _ rfl hul.out (by decide) Hs.out).mono ?_
          | refine (signed_is (un d) 12 12 d _ rfl hul.out (by decide) Hs.out).mono ?_
          | refine (signed_is (un d) 64 64 d _ rfl hul.out (by decide) Hs.out).mono ?_
        rintro e w' ⟨rfl, rfl⟩
        go_wp2_with fail
        go_ret
        refine ⟨ret_eq ?_, rfl⟩
        rw [← He.out]
        rfl
    · have hs := sgn_not hlt
      obtain ⟨r, hr⟩ : ∃ r, r = sgn (sz i) (un d % 2 ^ sz i) := ⟨_, rfl⟩
      rw [← hr] at hs
      have hne : (r == d) = false := by simpa using hs
      have Hr := Lib.hid hr.symm
      have Hlt := Lib.hid hlt
      clear hr hs hih h5
      rcases hi with rfl | rfl | rfl | rfl | rfl
      · go_wp2_with fail
        refine (signed_is (un d) 0 0 r _ rfl hul.out (by decide) Hr.out).mono ?_
        rintro e w' ⟨rfl, rfl⟩
        go_wp2_with fail
        go_roundg (gk - 1)
        case measure => have := Hil.out; omega
        case rel => exact ⟨1, by have := Hil.out; omega, Hlt.out, rfl, rfl⟩
      · go_wp2_with fail
        refine (signed_is (un d) 7 7 r _ rfl hul.out (by decide) Hr.out).mono ?_
        rintro e w' ⟨rfl, rfl⟩
        go_wp2_with fail
        go_roundg (gk - 1)
        case measure => have := Hil.out; omega
        case rel => exact ⟨2, by have := Hil.out; omega, Hlt.out, rfl, rfl⟩
      · go_wp2_with fail
        refine (signed_is (un d) 9 9 r _ rfl hul.out (by decide) Hr.out).mono ?_
        rintro e w' ⟨rfl, rfl⟩
        go_wp2_with fail
        go_roundg (gk - 1)
        case measure => have := Hil.out; omega
        case rel => exact ⟨3, by have := Hil.out; omega, Hlt.out, rfl, rfl⟩
      · go_wp2_with fail
        refine (signed_is (un d) 12 12 r _ rfl hul.out (by decide) Hr.out).mono ?_
        rintro e w' ⟨rfl, rfl⟩
        go_wp2_with fail
        go_roundg (gk - 1)
        case measure => have := Hil.out; omega
        case rel => exact ⟨4, by have := Hil.out; omega, Hlt.out, rfl, rfl⟩
      · have := hd_le d; have := Hlt.out; omega
end Go.Proofs.YtjphlbnbgpjfmaaDoor

/- The document's own times: within, kind, Times. -/
import Derived.Test.YtjphlbnbgpjfmaaDoorTp
import Derived.Test.YtjphlbnbgpjfmaaDoorRefw
import Derived.BigQuiet
namespace Go.Proofs.YtjphlbnbgpjfmaaDoor
open Go.RowKit

def InN (d : Int) (n : Nat) : Bool := decide (-((2 ^ (n - 1) : Nat) : Int) ≤ d ∧ d < ((2 ^ (n - 1) : Nat) : Int))
theorem within_any (d : Int) (n : Nat) (N : Int) (w : World) (hN : N = (n : Int)) (hn : n = 7 ∨ n = 9 ∨ n = 12) :
    Calls Tryd.prog 38 #[.int .i64 d, .int .i64 N] w fun e w' => e = .returned (.bool (InN d n)) ∧ w = w' := by
  subst hN
  rcases hn with rfl | rfl | rfl
  · by_cases h1 : -64 ≤ d
    · by_cases h2 : d < 64
      · have e : InN d 7 = true := by unfold InN; simp; omega
        rw [e]
        clear e
        go_enter Tryd.func38, Tryd.ntmps38
        go_wp2
        go_ret
        exact ⟨rfl, rfl⟩
      · have e : InN d 7 = false := by unfold InN; simp; omega
        rw [e]
        clear e
        go_enter Tryd.func38, Tryd.ntmps38
        go_wp2
        go_ret
        exact ⟨rfl, rfl⟩
    · have e : InN d 7 = false := by unfold InN; simp; omega
      rw [e]
      clear e
      go_enter Tryd.func38, Tryd.ntmps38
      go_wp2
      go_ret
      exact ⟨rfl, rfl⟩
  · by_cases h1 : -256 ≤ d
    · by_cases h2 : d < 256
      · have e : InN d 9 = true := by unfold InN; simp; omega
        rw [e]
        clear e
        go_enter Tryd.func38, Tryd.ntmps38
        go_wp2
        go_ret
        exact ⟨rfl, rfl⟩
      · have e : InN d 9 = false := by unfold InN; simp; omega
        rw [e]
        clear e
        go_enter Tryd.func38, Tryd.ntmps38
        go_wp2
        go_ret
        exact ⟨rfl, rfl⟩
    · have e : InN d 9 = false := by unfold InN; simp; omega
      rw [e]
      clear e
      go_enter Tryd.func38, Tryd.ntmps38
      go_wp2
      go_ret
      exact ⟨rfl, rfl⟩
  · by_cases h1 : -2048 ≤ d
    · by_cases h2 : d < 2048
      · have e : InN d 12 = true := by unfold InN; simp; omega
        rw [e]
        clear e
        go_enter Tryd.func38, Tryd.ntmps38
        go_wp2
        go_ret
        exact ⟨rfl, rfl⟩
      · have e : InN d 12 = false := by unfold InN; simp; omega
        rw [e]
        clear e
        go_enter Tryd.func38, Tryd.ntmps38
        go_wp2
        go_ret
        exact ⟨rfl, rfl⟩
    · have e : InN d 12 = false := by unfold InN; simp; omega
      rw [e]
      clear e
      go_enter Tryd.func38, Tryd.ntmps38
      go_wp2
      go_ret
      exact ⟨rfl, rfl⟩
theorem within_at (d : Int) (n : Nat) (N : Int) (b : Bool) (w : World) (hN : N = (n : Int)) (hn : n = 7 ∨ n = 9 ∨ n = 12) (hb : InN d n = b) :
    Calls Tryd.prog 38 #[.int .i64 d, .int .i64 N] w fun e w' => e = .returned (.bool b) ∧ w = w' := by
  subst hb
  exact within_any d n N w hN hn
theorem kind_any (d : Int) (w : World) :
    Calls Tryd.prog 29 #[.int .i64 d] w fun e w' => e = .returned (.tuple #[.int .i64 (kindN d : Nat), .int .u64 (headN d : Nat), .int .i64 (longN d : Nat)]) ∧ w = w' := by
  by_cases h0 : d = 0
  · subst h0
    go_enter Tryd.func29, Tryd.ntmps29
    go_wp2
    exact bodyPost_ret (v := .tuple #[.int .i64 0, .int .u64 0, .int .i64 1]) (by simp [results, Tryd.results29, go_sem]) rfl ⟨rfl, rfl⟩
  · have hb0 : (d == 0) = false := by simpa using h0
    by_cases h1 : -64 ≤ d ∧ d < 64
    · have e : InN d 7 = true := by unfold InN; simp; omega
      have ek : kindN d = 7 ∧ headN d = 2 ∧ longN d = 2 := by unfold kindN headN longN; rw [if_neg h0, if_pos h1, if_neg h0, if_pos h1, if_neg h0, if_pos h1]; exact ⟨rfl, rfl, rfl⟩
      have E := Lib.hid e; have Ek := Lib.hid ek
      clear e ek h1
      go_enter Tryd.func29, Tryd.ntmps29
      go_wp2_with fail
      refine (within_at d 7 7 true _ rfl (by omega) E.out).mono ?_
      rintro e w' ⟨rfl, rfl⟩
      go_wp2_with fail
      exact bodyPost_ret (v := .tuple #[.int .i64 7, .int .u64 2, .int .i64 2]) (by simp [results, Tryd.results29, go_sem]) rfl ⟨by rw [Ek.out.1, Ek.out.2.1, Ek.out.2.2]; rfl, rfl⟩
    · by_cases h2 : -256 ≤ d ∧ d < 256
      · have e : InN d 7 = false := by unfold InN; simp; omega
        have e2 : InN d 9 = true := by unfold InN; simp; omega
        have ek : kindN d = 9 ∧ headN d = 6 ∧ longN d = 3 := by unfold kindN headN longN; rw [if_neg h0, if_neg h1, if_pos h2, if_neg h0, if_neg h1, if_pos h2, if_neg h0, if_neg h1, if_pos h2]; exact ⟨rfl, rfl, rfl⟩
        have E := Lib.hid e; have E2 := Lib.hid e2; have Ek := Lib.hid ek
        clear e e2 ek h1 h2
        go_enter Tryd.func29, Tryd.ntmps29
        go_wp2_with fail
        refine (within_at d 7 7 false _ rfl (by omega) E.out).mono ?_
        rintro e w' ⟨rfl, rfl⟩
        go_wp2_with fail
        refine (within_at d 9 9 true _ rfl (by omega) E2.out).mono ?_
        rintro e w' ⟨rfl, rfl⟩
        go_wp2_with fail
        exact bodyPost_ret (v := .tuple #[.int .i64 9, .int .u64 6, .int .i64 3]) (by simp [results, Tryd.results29, go_sem]) rfl ⟨by rw [Ek.out.1, Ek.out.2.1, Ek.out.2.2]; rfl, rfl⟩
      · have e : InN d 7 = false := by unfold InN; simp; omega
        have e2 : InN d 9 = false := by unfold InN; simp; omega
        have E := Lib.hid e; have E2 := Lib.hid e2
        by_cases h3 : -2048 ≤ d ∧ d < 2048
        · have e3 : InN d 12 = true := by unfold InN; simp; omega
          have ek : kindN d = 12 ∧ headN d = 14 ∧ longN d = 4 := by unfold kindN headN longN; rw [if_neg h0, if_neg h1, if_neg h2, if_pos h3, if_neg h0, if_neg h1, if_neg h2, if_pos h3, if_neg h0, if_neg h1, if_neg h2]; exact ⟨rfl, rfl, rfl⟩
          have E3 := Lib.hid e3; have Ek := Lib.hid ek
          clear e e2 e3 ek h1 h2 h3
          go_enter Tryd.func29, Tryd.ntmps29
          go_wp2_with fail
          refine (within_at d 7 7 false _ rfl (by omega) E.out).mono ?_
          rintro e w' ⟨rfl, rfl⟩
          go_wp2_with fail
          refine (within_at d 9 9 false _ rfl (by omega) E2.out).mono ?_
          rintro e w' ⟨rfl, rfl⟩
          go_wp2_with fail
          refine (within_at d 12 12 true _ rfl (by omega) E3.out).mono ?_
          rintro e w' ⟨rfl, rfl⟩
          go_wp2_with fail
          exact bodyPost_ret (v := .tuple #[.int .i64 12, .int .u64 14, .int .i64 4]) (by simp [results, Tryd.results29, go_sem]) rfl ⟨by rw [Ek.out.1, Ek.out.2.1, Ek.out.2.2]; rfl, rfl⟩
        · have e3 : InN d 12 = false := by unfold InN; simp; omega
          have ek : kindN d = 64 ∧ headN d = 15 ∧ longN d = 4 := by unfold kindN headN longN; rw [if_neg h0, if_neg h1, if_neg h2, if_neg h3, if_neg h0, if_neg h1, if_neg h2, if_neg h3, if_neg h0, if_neg h1, if_neg h2]; exact ⟨rfl, rfl, rfl⟩
          have E3 := Lib.hid e3; have Ek := Lib.hid ek
          clear e e2 e3 ek h1 h2 h3
          go_enter Tryd.func29, Tryd.ntmps29
          go_wp2_with fail
          refine (within_at d 7 7 false _ rfl (by omega) E.out).mono ?_
          rintro e w' ⟨rfl, rfl⟩
          go_wp2_with fail
          refine (within_at d 9 9 false _ rfl (by omega) E2.out).mono ?_
          rintro e w' ⟨rfl, rfl⟩
          go_wp2_with fail
          refine (within_at d 12 12 false _ rfl (by omega) E3.out).mono ?_
          rintro e w' ⟨rfl, rfl⟩
          go_wp2_with fail
          exact bodyPost_ret (v := .tuple #[.int .i64 64, .int .u64 15, .int .i64 4]) (by simp [results, Tryd.results29, go_sem]) rfl ⟨by rw [Ek.out.1, Ek.out.2.1, Ek.out.2.2]; rfl, rfl⟩
end Go.Proofs.YtjphlbnbgpjfmaaDoor

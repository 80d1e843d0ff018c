/- Two rows of words compared, whatever they are: SameWords, slices.Equal. -/
import Derived.Test.YthhcfngnbgckmaaDoorUs
namespace Go.Proofs.YthhcfngnbgckmaaDoor
open Go.RowKit

/-- The first i are alike. -/
def AlikeTo (xs ys : List Nat) (i : Nat) : Prop := ∀ j, j < i → xs[j]? = ys[j]?
theorem AlikeTo.more {xs ys : List Nat} {i x : Nat} (h : AlikeTo xs ys i) (hx : xs[i]? = some x) (hy : ys[i]? = some x) : AlikeTo xs ys (i + 1) := by
  intro j hj
  rcases Nat.lt_or_ge j i with h1 | h1
  · exact h j h1
  · obtain rfl : j = i := by omega
    rw [hx, hy]
theorem AlikeTo.all {xs ys : List Nat} {n : Nat} (h : AlikeTo xs ys n) (hx : xs.length = n) (hy : ys.length = n) : xs = ys := by
  apply List.ext_getElem?
  intro j
  rcases Nat.lt_or_ge j n with h1 | h1
  · exact h j h1
  · rw [List.getElem?_eq_none (by omega), List.getElem?_eq_none (by omega)]
theorem bool_ret {a b : Bool} (h : a = b) : Ending.returned (.bool a) = .returned (.bool b) := by rw [h]
theorem unlike_len {xs ys : List Nat} {n m : Nat} (hx : xs.length = n) (hy : ys.length = m) (h : ¬ n = m) : decide (xs = ys) = false := by
  rw [decide_eq_false_iff_not]
  rintro rfl
  omega
theorem unlike_at {xs ys : List Nat} {i x y : Nat} (hx : xs[i]? = some x) (hy : ys[i]? = some y) (h : ¬ x = y) : decide (xs = ys) = false := by
  rw [decide_eq_false_iff_not]
  rintro rfl
  rw [hx] at hy
  injection hy with hy
  exact h hy
set_option maxHeartbeats 1000000 in
theorem same_any (A A2 : Option Addr) (n n2 c c2 B B2 : Nat) (xs ys : List Nat) (w : World) (h1 : Rds w B A n (cellsU xs)) (h2 : Rds w B2 A2 n2 (cellsU ys)) (hn : n ≤ 1000000) (hn2 : n2 ≤ 140737488355328) :
    Calls Tryd.prog 8 #[.slice A n c, .slice A2 n2 c2] w fun e w' => e = .returned (.bool (decide (xs = ys))) ∧ Mod (fun _ => False) w w' := by
  have hx : xs.length = n := by have := h1.1; rwa [cellsU_length] at this
  have hy : ys.length = n2 := by have := h2.1; rwa [cellsU_length] at this
  have H1 := Lib.hid h1.fit; have H2 := Lib.hid h2.fit; have Hx := Lib.hid hx; have Hy := Lib.hid hy
  clear h1 h2 hx hy
  by_cases hnn : n = n2
  · subst hnn
    go_enter Tryd.func8, Tryd.ntmps8
    go_wp2_with fail
    go_loopg [5] n (fun l s5 wr => ∃ i : Nat, i + l = n ∧ s5 = .int .i64 (i : Int) ∧ AlikeTo xs ys i ∧ Mod (fun _ => False) w wr)
    case atStart => exact ⟨0, by omega, rfl, (fun j h => by omega), Mod.refl _ _⟩
    case round =>
      obtain ⟨i, hil, rfl, ha, hm⟩ := hrel
      have Hm := Lib.hid hm; have Hil := Lib.hid hil; have Ha := Lib.hid ha
      clear hm hil ha
      by_cases hin : i < n
      · obtain ⟨ad, x, rfl, hx, hc⟩ := H1.out.at2 hin (Nat.le_refl _) Hm.out (fun _ _ h => h)
        obtain ⟨ad2, y, rfl, hy, hc2⟩ := H2.out.at2 hin (Nat.le_refl _) Hm.out (fun _ _ h => h)
        have Hx2 := Lib.hid hx; have Hy2 := Lib.hid hy
        clear hx hy
        by_cases hxy : x = y
        · subst hxy
          go_upto_region 6 with fail
          go_quiet (fail)
          go_wp2_with fail
          go_roundg (gk - 1)
          case measure => have := Hil.out; omega
          case rel => exact ⟨i + 1, by have := Hil.out; omega, by go_num, Ha.out.more Hx2.out Hy2.out, Hm.out.drewN _⟩
        · have hxb : ((x : Int) != (y : Int)) = true := by simp only [bne_iff_ne, ne_eq]; omega
          have Hxy := Lib.hid hxy
          clear hxy
          go_upto_region 6 with fail
          go_quiet (fail)
          go_wp2_with fail
          go_ret
          exact ⟨bool_ret (unlike_at Hx2.out Hy2.out Hxy.out).symm, Hm.out.drewN _⟩
      · go_wp2_with fail
        go_ret
        have hi : i = n := by have := Hil.out; omega
        subst hi
        exact ⟨bool_ret (decide_eq_true (Ha.out.all Hx.out Hy.out)).symm, Hm.out⟩
  · have hnb : ((n : Int) != (n2 : Int)) = true := by simp only [bne_iff_ne, ne_eq]; omega
    have Hnn := Lib.hid hnn
    clear hnn
    go_enter Tryd.func8, Tryd.ntmps8
    go_wp2_with fail
    go_ret
    exact ⟨bool_ret (unlike_len Hx.out Hy.out Hnn.out).symm, Mod.refl _ _⟩
set_option maxHeartbeats 1000000 in
theorem equal_any (A A2 : Option Addr) (n n2 c c2 B B2 : Nat) (xs ys : List Nat) (w : World) (h1 : Rds w B A n (cellsU xs)) (h2 : Rds w B2 A2 n2 (cellsU ys)) (hn : n ≤ 1000000) (hn2 : n2 ≤ 140737488355328) :
    Calls Tryd.prog 18 #[.slice A n c, .slice A2 n2 c2] w fun e w' => e = .returned (.bool (decide (xs = ys))) ∧ Mod (fun _ => False) w w' := by
  have hx : xs.length = n := by have := h1.1; rwa [cellsU_length] at this
  have hy : ys.length = n2 := by have := h2.1; rwa [cellsU_length] at this
  have H1 := Lib.hid h1.fit; have H2 := Lib.hid h2.fit; have Hx := Lib.hid hx; have Hy := Lib.hid hy
  clear h1 h2 hx hy
  by_cases hnn : n = n2
  · subst hnn
    go_enter Tryd.func18, Tryd.ntmps18
    go_wp2_with fail
    go_loopg [13] n (fun l s13 wr => ∃ i : Nat, i + l = n ∧ s13 = .int .i64 (i : Int) ∧ AlikeTo xs ys i ∧ Mod (fun _ => False) w wr)
    case atStart => exact ⟨0, by omega, rfl, (fun j h => by omega), Mod.refl _ _⟩
    case round =>
      obtain ⟨i, hil, rfl, ha, hm⟩ := hrel
      have Hm := Lib.hid hm; have Hil := Lib.hid hil; have Ha := Lib.hid ha
      clear hm hil ha
      by_cases hin : i < n
      · obtain ⟨ad, x, rfl, hx, hc⟩ := H1.out.at2 hin (Nat.le_refl _) Hm.out (fun _ _ h => h)
        obtain ⟨ad2, y, rfl, hy, hc2⟩ := H2.out.at2 hin (Nat.le_refl _) Hm.out (fun _ _ h => h)
        have Hx2 := Lib.hid hx; have Hy2 := Lib.hid hy
        clear hx hy
        by_cases hxy : x = y
        · subst hxy
          go_upto_region 6 with fail
          go_quiet (fail)
          go_wp2_with fail
          go_roundg (gk - 1)
          case measure => have := Hil.out; omega
          case rel => exact ⟨i + 1, by have := Hil.out; omega, by go_num, Ha.out.more Hx2.out Hy2.out, Hm.out.drewN _⟩
        · have hxb : ((x : Int) != (y : Int)) = true := by simp only [bne_iff_ne, ne_eq]; omega
          have Hxy := Lib.hid hxy
          clear hxy
          go_upto_region 6 with fail
          go_quiet (fail)
          go_wp2_with fail
          go_ret
          exact ⟨bool_ret (unlike_at Hx2.out Hy2.out Hxy.out).symm, Hm.out.drewN _⟩
      · go_wp2_with fail
        go_ret
        have hi : i = n := by have := Hil.out; omega
        subst hi
        exact ⟨bool_ret (decide_eq_true (Ha.out.all Hx.out Hy.out)).symm, Hm.out⟩
  · have hnb : ((n : Int) != (n2 : Int)) = true := by simp only [bne_iff_ne, ne_eq]; omega
    have Hnn := Lib.hid hnn
    clear hnn
    go_enter Tryd.func18, Tryd.ntmps18
    go_wp2_with fail
    go_ret
    exact ⟨bool_ret (unlike_len Hx.out Hy.out Hnn.out).symm, Mod.refl _ _⟩
end Go.Proofs.YthhcfngnbgckmaaDoor

/- The texts Wq, Dh, Kxd, Rg, Rh, Kxc, Jv, Ab, Ad, Kst, Ag, Tx, Wu, one behind the other. -/
import Derived.Test.YtmeilddngohccaaGreatDoorMp1
import Derived.Test.YtmeilddngohccaaGreatDoorMp4
import Derived.Test.YtmeilddngohccaaGreatDoorMp2
import Derived.Test.YtmeilddngohccaaGreatDoorMp3
/- The document's own values are read: GetValues, its loop. -/
namespace Go.Proofs.YtmeilddngohccaaGreatDoor
open Go.RowKit

theorem held5_any (n : Int) (k : Nat) (w : World) (hk : max 0 (min n 65535) = (k : Int)) :
  Calls Tryz.prog 42 #[.int .i64 n] w fun e w' => e = .returned (.int .i64 (k : Int)) ∧ w = w' := by
 exact rheld_any n k w hk
def XRDecEnd (w w' : World) (g row : Nat) (bs : List Nat) (o : Option (List Nat × Nat × Nat)) (e : Ending) : Prop :=
 match o with
 | some (xs, R, rem) => ∃ v, e = .returned (.tuple #[v, .bool true]) ∧ Own w.heap.size w' 26 v (cellsU xs) ∧ RRdO w' g row bs (some (R, rem)) ∧ Mod (fun i => i = g) w w'
 | none => e = .returned (.tuple #[.slice none 0 0, .bool false]) ∧ Mod (fun i => i = g) w w'
theorem XRDecEnd.none_ {w w' : World} {g row : Nat} {bs : List Nat} {o : Option (List Nat × Nat × Nat)} {e : Ending} (ho : o = none) (he : e = .returned (.tuple #[.slice none 0 0, .bool false])) (hm : Mod (fun i => i = g) w w') : XRDecEnd w w' g row bs o e := by
 subst ho
 exact ⟨he, hm⟩
/-- What the window is, where there are bits left. -/
def IsWin (any : Bool) (a b : Int) (win : Option (Nat × Nat)) : Prop := WinOk win ∧ any = win.isSome ∧ a = (winA win : Int) ∧ b = (winB win : Int)
/-- What the loop has read of i values. -/
def XRDec (w wr : World) (g row : Nat) (bs : List Nat) (k R rem i : Nat) (v : Value) (any : Bool) (a b : Int) (s : Option (Nat × Nat)) : Prop :=
 ∃ xs, Own w.heap.size wr 26 v (cellsU xs) ∧ RRdO wr g row bs s ∧ Mod (fun i => i = g) w wr ∧ xs.length = i ∧ (∀ x ∈ xs, x < 2 ^ 64) ∧ (i = 0 → xs = [] ∧ s = some (R, rem) ∧ any = false ∧ a = 0 ∧ b = 0) ∧
  (0 < i → (s = none → rdVals k R rem = none) ∧ ∀ R' rem', s = some (R', rem') → ∃ win prev, IsWin any a b win ∧ xs[i - 1]? = some prev ∧ rdVals k R rem = (rdXs (k - i) win prev R' rem').map fun p => (xs ++ p.1, p.2))
theorem XRDec.mk {w w1 w2 : World} {g row : Nat} {bs : List Nat} {k R rem i : Nat} {v2 : Value} {x : Nat} {any : Bool} {a b : Int} {s' : Option (Nat × Nat)} {xs : List Nat} (hgl : g < w.heap.size) (hrow : row < w.heap.size)
  (h1 : RRdO w1 g row bs s') (hm : Mod (fun i => i = g) w w1) (hown : Own w.heap.size w2 26 v2 (cellsU xs ++ [.int .u64 (x : Int)])) (hb : Below w.heap.size w1 w2) (hxl : xs.length = i) (hxs : ∀ y ∈ xs, y < 2 ^ 64) (hx : x < 2 ^ 64)
  (hn : (s' = none → rdVals k R rem = none) ∧ ∀ R' rem', s' = some (R', rem') → ∃ win, IsWin any a b win ∧ rdVals k R rem = (rdXs (k - (i + 1)) win x R' rem').map fun p => ((xs ++ [x]) ++ p.1, p.2)) :
  XRDec w w2 g row bs k R rem (i + 1) v2 any a b s' := by
 refine ⟨xs ++ [x], ?_, h1.mod (Mod.of_below hb) (by omega) (fun _ => by omega), hm.trans (Mod.of_below hb) (fun i hi h => by omega), by simp [hxl], fun y hy => ?_, fun h => by omega, fun _ => ⟨hn.1, fun R' rem' hs => ?_⟩⟩
 ·rw [cellsU_snoc]; exact hown
 ·rw [List.mem_append, List.mem_singleton] at hy
  rcases hy with hy | rfl
  ·exact hxs y hy
  ·exact hx
 ·obtain ⟨win, h2, h3⟩ := hn.2 R' rem' hs
  refine ⟨win, x, h2, ?_, h3⟩
  rw [Nat.add_sub_cancel, List.getElem?_append_right (by omega), hxl, Nat.sub_self]
  rfl
/-- Behind one turn. -/
def XRMid (w wc : World) (g row : Nat) (bs : List Nat) (s : Option (Nat × Nat)) (win : Option (Nat × Nat)) (any : Bool) (a b : Int) (x : Nat) : Prop :=
 ∃ s', RRdO wc g row bs s' ∧ Mod (fun i => i = g) w wc ∧ x < 2 ^ 64 ∧ (s' = none → rdO win s = none) ∧ ∀ R1 rem1, s' = some (R1, rem1) → ∃ win', IsWin any a b win' ∧ rdO win s = some (x, win', R1, rem1)
theorem XRMid.mk {w wc : World} {g row : Nat} {bs : List Nat} {s win s' : Option (Nat × Nat)} {any : Bool} {a b : Int} {x : Nat} {win' : Option (Nat × Nat)} (hr : RRdO wc g row bs s') (hm : Mod (fun i => i = g) w wc) (hx : x < 2 ^ 64) (hw : IsWin any a b win') (h : rdO win s = s'.map fun p => (x, win', p.1, p.2)) : XRMid w wc g row bs s win any a b x := by
 refine ⟨s', hr, hm, hx, fun e => by rw [h, e]; rfl, fun R1 rem1 e => ⟨win', hw, by rw [h, e]; rfl⟩⟩
set_option maxHeartbeats 8000000 in
set_option maxRecDepth 100000 in
theorem rgetvals_any (g row R rem k : Nat) (bs : List Nat) (n : Int) (w : World) (hk : max 0 (min n 65535) = (k : Int)) (hr : RRd w g row bs R rem true) (hR : R < 2 ^ rem) (hrow : row < w.heap.size) :
  Calls Tryz.prog 45 #[.pointer (some ⟨g, 0, none⟩), .int .i64 n] w fun e w' => XRDecEnd w w' g row bs (valRow k R rem) e := by
 have H0 : Hid (XRDec w w g row bs k R rem 0 (.slice none 0 0) false 0 0 (some (R, rem))) := Lib.hid ⟨[], Own.nil _ _ _, ⟨hr, hR⟩, Mod.refl _ _, rfl, (fun _ h => by cases h), fun _ => ⟨rfl, rfl, rfl, rfl, rfl⟩, fun h => by omega⟩
 have hgl := Lib.hid hr.lt'
 have Hrow := Lib.hid hrow; have HR := Lib.hid hR; have Hk := Lib.hid hk
 have hk65 : k ≤ 65535 := by omega
 obtain ⟨A0, n0, c0, fr, hblk, hs0, hne0, hfr8, hn0, hlt0, h10, _⟩ := hr
 obtain ⟨hfr, hRv⟩ := h10 rfl
 have hcA := hblk.cell 1
 simp at hcA
 have Hfr : Hid (fr + rem = 8 * bs.length ∧ R = val bs % 2 ^ rem ∧ bs.length ≤ 1000000) := Lib.hid ⟨by have := hs0.1; rw [cells8_length] at this; omega, hRv, by have := hs0.1; rw [cells8_length] at this; omega⟩
 clear hR hrow hk hblk hs0 hne0 hfr8 hn0 hlt0 h10 hfr hRv
 go_enter Tryz.func45, Tryz.ntmps45
 go_wp2_with fail
 refine (held5_any n k _ Hk.out).mono ?_
 rintro e w' ⟨rfl, rfl⟩
 clear Hk
 go_wp2_with fail
 clear hcA
 go_loopg [7, 8, 9, 10, 11] k (fun l s7 s8 s9 s10 s11 wr => ∃ (i : Nat) (any : Bool) (a b : Int) (s : Option (Nat × Nat)), i + l = k ∧ s11 = .int .i64 (i : Int) ∧ s8 = .bool any ∧ s9 = .int .i64 a ∧ s10 = .int .i64 b ∧ XRDec w wr g row bs k R rem i s7 any a b s)
 case atStart => exact ⟨0, false, 0, 0, _, by omega, rfl, rfl, rfl, rfl, H0.out⟩
 case round =>
  obtain ⟨i, any, a, b, s, hil, rfl, rfl, rfl, rfl, hD⟩ := hrel
  have HD := Lib.hid hD; have Hil := Lib.hid hil
  clear hD hil H0
  obtain ⟨xs, hown, hro, hm, hxl, hxs, hi0, hi1⟩ := HD.out
  have Hro := Lib.hid hro; have Hm := Lib.hid hm; have Hown := Lib.hid hown; have Hxl := Lib.hid hxl; have Hxs := Lib.hid hxs
  have hfl := hro.flag
  clear hown hro hm hxl hxs
  by_cases hin : i < k
  ·cases hs : s.isSome with
   | false =>
    rw [hs] at hfl
    have hsn : s = none := by
     cases s with
     | none => rfl
     | some p => cases hs
    have Hnone : Hid (rdVals k R rem = none) := Lib.hid (by
     rcases Nat.eq_zero_or_pos i with h0 | h0
     ·have := (hi0 h0).2.1
      rw [hsn] at this
      cases this
     ·exact (hi1 h0).1 hsn)
    clear hi0 hi1 hs hsn
    go_wp2_with fail
    go_ret2
    exact XRDecEnd.none_ (valRow_none Hnone.out) rfl Hm.out
   | true =>
    rw [hs] at hfl
    have Hs := Lib.hid hs
    clear hs
    by_cases h0 : i = 0
    ·obtain ⟨rfl, rfl, rfl, rfl, rfl⟩ := hi0 h0
     subst h0
     clear hi0 hi1
     go_wp2_with fail
     refine (rget_o g row 64 64 bs _ _ rfl (by decide) Hro.out).mono ?_
     rintro e w1 ⟨rfl, h1, hm1⟩
     obtain ⟨u, hu⟩ : ∃ u, u = (getO 64 (some (R, rem))).1 := ⟨_, rfl⟩
     have hu64 : Hid (u < 2 ^ 64) := Lib.hid (by rw [hu]; exact getO_lt HR.out 64)
     have hN : Hid (((getO 64 (some (R, rem))).2 = none → rdVals k R rem = none) ∧ ∀ R' rem', (getO 64 (some (R, rem))).2 = some (R', rem') → ∃ win, IsWin false 0 0 win ∧ rdVals k R rem = (rdXs (k - (0 + 1)) win u R' rem').map fun p => (([] ++ [u]) ++ p.1, p.2)) :=
      Lib.hid ⟨(rdVals_first hin).1, fun R' rem' h => ⟨none, ⟨trivial, rfl, rfl, rfl⟩, by rw [hu]; exact (rdVals_first hin).2 R' rem' h⟩⟩
     rw [← hu]
     have Hown1 : Hid (Own w.heap.size w1 26 u7 (cellsU [])) := Lib.hid (hm1.owns Hown.out (fun k hk e => by have := (Hown.out.block k hk).1; have := hgl.out; omega))
     have H1 := Lib.hid h1; have Hm1 := Lib.hid (Hm.out.trans hm1 (fun _ _ h => h))
     have hsz := Hm1.out.size
     have hr1 : (cellsU []).length + 1 ≤ maxLen := by unfold maxLen; decide
     have hr2 : ((cellsU []).length + 1) * 8 ≤ 140737488355328 := by decide
     clear hu h1 hm1 hfl
     go_wp2_with (at_builtin; refine wpList_app1 rfl (.tmp 37) (.tmp 40) _ rfl eltU rfl Hown1.out rfl rfl rfl hr1 hr2 hsz ?_; intro v' w2 HO HB)
     have HD2 : Hid (XRDec w w2 g row bs k R rem (0 + 1) v' false 0 0 (getO 64 (some (R, rem))).2) := Lib.hid (XRDec.mk hgl.out Hrow.out H1.out Hm1.out HO.out HB.out rfl (fun _ h => by cases h) hu64.out hN.out)
     go_roundg (gk - 1)
     case measure => have := Hil.out; omega
     case rel => exact ⟨0 + 1, false, 0, 0, _, by have := Hil.out; omega, rfl, rfl, rfl, rfl, HD2.out⟩
    ·have hb0 : ((i : Int) == 0) = false := by simp; omega
     obtain ⟨R0, rem0, hs0⟩ : ∃ R0 rem0, s = some (R0, rem0) := by
      have := Hs.out
      cases s with
      | none => cases this
      | some p => exact ⟨_, _, rfl⟩
     obtain ⟨win, prev, hw, hpv, hcur⟩ := (hi1 (by omega)).2 R0 rem0 hs0
     have hN := rdVals_next (s := s) (win := win) (prev := prev) hin (fun R' rem' h => by rw [hs0] at h; injection h with h; injection h with h3 h4; subst h3 h4; exact hcur) Hs.out
     have HN := Lib.hid hN; have Hw := Lib.hid hw; have Hpv := Lib.hid hpv
     have hsm : Hid (SmallO s) := Lib.hid Hro.out.small
     have hp64 : Hid (prev < 2 ^ 64) := Lib.hid (Hxs.out prev (List.mem_of_getElem? hpv))
     clear hi0 hi1 hs0 hw hpv hcur hN
     obtain ⟨hwok, hany, ha, hb⟩ := Hw.out
     obtain ⟨c0, hc0⟩ : ∃ c0, c0 = (getO 1 s).1 := ⟨_, rfl⟩
     have hc0b : c0 = 0 ∨ c0 = 1 := by rw [hc0]; exact hsm.out.bit
     have Hc0 := Lib.hid hc0; have Hc0b := Lib.hid hc0b; have Hwok := Lib.hid hwok; have Hany := Lib.hid hany; have Ha := Lib.hid ha; have Hb := Lib.hid hb
     have hbnd : Hid ((0 ≤ a ∧ a ≤ 31) ∧ (0 ≤ b ∧ a + b ≤ 63)) := Lib.hid (by
      rw [ha, hb]
      cases win with
      | none => exact ⟨⟨by decide, by decide⟩, by decide, by decide⟩
      | some p =>
       obtain ⟨a', b'⟩ := p
       obtain ⟨w1, w2⟩ := hwok
       show (0 ≤ (a' : Int) ∧ (a' : Int) ≤ 31) ∧ (0 ≤ (b' : Int) ∧ (a' : Int) + (b' : Int) ≤ 63)
       omega)
     clear hc0 hc0b hwok hany ha hb
     go_wp2_with fail
     refine (rget_o g row 1 1 bs _ _ rfl (by decide) Hro.out).mono ?_
     rintro e w1 ⟨rfl, hr1, hm1⟩
     rw [← Hc0.out]
     have Hr1 := Lib.hid hr1; have Hm1 := Lib.hid hm1
     clear hr1 hm1
     go_upto_if 44 with fail
     go_cut [8, 9, 10, 12] (fun s8 s9 s10 s12 wc => ∃ (any' : Bool) (a' b' : Int) (x : Nat), s8 = .bool any' ∧ s9 = .int .i64 a' ∧ s10 = .int .i64 b' ∧ s12 = .int .u64 (x : Int) ∧ XRMid wr wc g row bs s win any' a' b' x)
     case first =>
      rcases Hc0b.out with h1 | h1
      ·have hz : (getO 1 s).1 = 0 := by rw [← Hc0.out, h1]
       have HM : Hid (XRMid wr w1 g row bs s win any a b 0) := Lib.hid (XRMid.mk Hr1.out Hm1.out (by decide) Hw.out (rdO_zero hz))
       subst h1
       clear hz
       go_wp2_with fail
       go_meet
       case rel => exact ⟨any, a, b, 0, rfl, rfl, rfl, rfl, HM.out⟩
      ·have hz : Hid ((getO 1 s).1 ≠ 0) := Lib.hid (by rw [← Hc0.out, h1]; decide)
       subst h1
       obtain ⟨c1, hc1⟩ : ∃ c1, c1 = (getO 1 (getO 1 s).2).1 := ⟨_, rfl⟩
       have hc1b : c1 = 0 ∨ c1 = 1 := by rw [hc1]; exact (hsm.out.get 1).bit
       have Hc1 := Lib.hid hc1; have Hc1b := Lib.hid hc1b
       clear hc1 hc1b
       go_wp2_with fail
       refine (rget_o g row 1 1 bs _ _ rfl (by decide) Hr1.out).mono ?_
       rintro e w2 ⟨rfl, hr2, hm2⟩
       rw [← Hc1.out]
       have Hr2 := Lib.hid hr2; have Hm2 := Lib.hid (Hm1.out.trans hm2 (fun _ _ h => h))
       clear hr2 hm2 Hr1 Hm1
       rcases Hc1b.out with h1 | h1
       ·have hz1 : (getO 1 (getO 1 s).2).1 = 0 := by rw [← Hc1.out, h1]
        rw [h1]
        clear h1
        cases win with
        | none =>
         obtain rfl : any = false := Hany.out
         have Hnone : Hid (rdVals k R rem = none) := Lib.hid (HN.out.1 (rdO_in_none hz.out hz1))
         have Hm9 := Lib.hid (Hm.out.trans Hm2.out (fun _ _ h => h))
         clear hz1
         go_wp2_with fail
         go_ret2
         exact XRDecEnd.none_ (valRow_none Hnone.out) rfl Hm9.out
        | some p =>
         obtain ⟨a', b'⟩ := p
         obtain rfl : any = true := Hany.out
         obtain rfl : a = (a' : Int) := Ha.out
         obtain rfl : b = (b' : Int) := Hb.out
         obtain ⟨hb1, hb2⟩ := hbnd.out
         obtain ⟨z, hzz⟩ : ∃ z, z = 64 - a' - b' := ⟨_, rfl⟩
         have hz2 : (64 : Int) - (a' : Int) - (b' : Int) = (z : Int) := by omega
         have hbw : IntKind.u64.wrap (b' : Int) = (b' : Int) := by rw [IntKind.wrap_u64]; omega
         have hz64 : z ≤ 64 := by omega
         have hmain := rdO_in (a := a') (b := b') hz.out hz1
         rw [← hzz] at hmain
         obtain ⟨y, hy⟩ : ∃ y, y = (getO z (getO 1 (getO 1 s).2).2).1 := ⟨_, rfl⟩
         have hylt : y < 2 ^ z := by rw [hy]; exact ((hsm.out.get 1).get 1).lt z
         obtain ⟨x, hx⟩ : ∃ x, x = y * 2 ^ b' := ⟨_, rfl⟩
         have hxl : x < 2 ^ 64 := by
          rw [hx]
          have h := Nat.mul_lt_mul_of_pos_right hylt (Nat.two_pow_pos b')
          rw [← Nat.pow_add] at h
          exact Nat.lt_of_lt_of_le h (Nat.pow_le_pow_right (by omega) (by omega))
         have hshl : IntKind.u64.wrap ((y : Int) * 2 ^ b') = (x : Int) := by
          have e1 : ((y : Int) * 2 ^ b') = ((y * 2 ^ b' : Nat) : Int) := by simp
          rw [IntKind.wrap_u64, e1, ← hx]
          omega
         rw [← hy, ← hx] at hmain
         have Hmain := Lib.hid hmain; have Hy := Lib.hid hy; have Hxl := Lib.hid hxl
         clear hz1 hzz hmain hy hylt hx hxl
         go_wp2_with fail
         refine (rget_o g row z _ bs _ _ rfl hz64 Hr2.out).mono ?_
         rintro e w3 ⟨rfl, hr3, hm3⟩
         rw [← Hy.out]
         have HM : Hid (XRMid wr w3 g row bs s (some (a', b')) true (a' : Int) (b' : Int) x) := Lib.hid (XRMid.mk hr3 (Hm2.out.trans hm3 (fun _ _ h => h)) Hxl.out Hw.out Hmain.out)
         clear hr3 hm3 Hr2 Hm2
         go_wp2_with fail
         go_meet
         case rel => exact ⟨true, (a' : Int), (b' : Int), x, rfl, rfl, rfl, rfl, HM.out⟩
       ·have hz1 : Hid ((getO 1 (getO 1 s).2).1 ≠ 0) := Lib.hid (by rw [← Hc1.out, h1]; decide)
        rw [h1]
        clear h1
        obtain ⟨a', ha'⟩ : ∃ a', a' = (getO 5 (getO 1 (getO 1 s).2).2).1 := ⟨_, rfl⟩
        have ha5 : a' < 32 := by rw [ha']; exact ((hsm.out.get 1).get 1).lt 5
        have hcv : wrap64 (a' : Int) = (a' : Int) := IntWalk.wrap64_in _ (by omega)
        have Ha' := Lib.hid ha'
        clear ha'
        go_wp2_with fail
        refine (rget_o g row 5 5 bs _ _ rfl (by decide) Hr2.out).mono ?_
        rintro e w3 ⟨rfl, hr3, hm3⟩
        rw [← Ha'.out]
        have Hr3 := Lib.hid hr3; have Hm3 := Lib.hid (Hm2.out.trans hm3 (fun _ _ h => h))
        obtain ⟨m, hm⟩ : ∃ m, m = (getO 6 (getO 5 (getO 1 (getO 1 s).2).2).2).1 := ⟨_, rfl⟩
        have hm6 : m < 64 := by rw [hm]; exact (((hsm.out.get 1).get 1).get 5).lt 6
        have hcm : wrap64 (m : Int) = (m : Int) := IntWalk.wrap64_in _ (by omega)
        have Hmm := Lib.hid hm
        clear hr3 hm3 hm Hr2 Hm2
        go_wp2_with fail
        refine (rget_o g row 6 6 bs _ _ rfl (by decide) Hr3.out).mono ?_
        rintro e w4 ⟨rfl, hr4, hm4⟩
        rw [← Hmm.out]
        have Hr4 := Lib.hid hr4; have Hm4 := Lib.hid (Hm3.out.trans hm4 (fun _ _ h => h))
        obtain ⟨z, hzz⟩ : ∃ z, z = m + 1 := ⟨_, rfl⟩
        have hz2 : (m : Int) + 1 = (z : Int) := by omega
        have hz64 : z ≤ 64 := by omega
        have Hz := Lib.hid hzz
        clear hr4 hm4 hzz Hr3 Hm3
        by_cases hfar : 64 < a' + z
        ·have Hnone : Hid (rdVals k R rem = none) := Lib.hid (HN.out.1 (rdO_far hz.out hz1.out (by rw [← Ha'.out, ← Hmm.out, ← Hz.out]; exact hfar)))
         have Hm9 := Lib.hid (Hm.out.trans Hm4.out (fun _ _ h => h))
         have hfar2 : (64 : Int) < (a' : Int) + (z : Int) := by omega
         go_wp2_with fail
         go_ret2
         exact XRDecEnd.none_ (valRow_none Hnone.out) rfl Hm9.out
        ·obtain ⟨b', hb'⟩ : ∃ b', b' = 64 - a' - z := ⟨_, rfl⟩
         have hb2 : (64 : Int) - (a' : Int) - (z : Int) = (b' : Int) := by omega
         have hz3 : (64 : Int) - (a' : Int) - (b' : Int) = (z : Int) := by omega
         have hfar2 : ¬ (64 : Int) < (a' : Int) + (z : Int) := by omega
         have hbw : IntKind.u64.wrap (b' : Int) = (b' : Int) := by rw [IntKind.wrap_u64]; omega
         have hmain := rdO_fresh (win := win) hz.out hz1.out Ha'.out Hmm.out (by rw [← Hz.out]; exact hfar)
         rw [← Hz.out, ← hb'] at hmain
         obtain ⟨y, hy⟩ : ∃ y, y = (getO z (getO 6 (getO 5 (getO 1 (getO 1 s).2).2).2).2).1 := ⟨_, rfl⟩
         have hylt : y < 2 ^ z := by rw [hy]; exact ((((hsm.out.get 1).get 1).get 5).get 6).lt z
         obtain ⟨x, hx⟩ : ∃ x, x = y * 2 ^ b' := ⟨_, rfl⟩
         have hxl : x < 2 ^ 64 := by
          rw [hx]
          have h := Nat.mul_lt_mul_of_pos_right hylt (Nat.two_pow_pos b')
          rw [← Nat.pow_add] at h
          exact Nat.lt_of_lt_of_le h (Nat.pow_le_pow_right (by omega) (by omega))
         have hshl : IntKind.u64.wrap ((y : Int) * 2 ^ b') = (x : Int) := by
          have e1 : ((y : Int) * 2 ^ b') = ((y * 2 ^ b' : Nat) : Int) := by simp
          rw [IntKind.wrap_u64, e1, ← hx]
          omega
         rw [← hy, ← hx] at hmain
         have hz1' := Hz.out
         have Hmain := Lib.hid hmain; have Hy := Lib.hid hy; have Hxl := Lib.hid hxl
         have hwin' : Hid (IsWin true (a' : Int) (b' : Int) (some (a', b'))) := Lib.hid ⟨⟨by omega, by omega⟩, rfl, rfl, rfl⟩
         clear hb' hmain hy hylt hx hxl hfar hz1'
         go_wp2_with fail
         refine (rget_o g row z _ bs _ _ rfl hz64 Hr4.out).mono ?_
         rintro e w5 ⟨rfl, hr5, hm5⟩
         rw [← Hy.out]
         have HM : Hid (XRMid wr w5 g row bs s win true (a' : Int) (b' : Int) x) := Lib.hid (XRMid.mk hr5 (Hm4.out.trans hm5 (fun _ _ h => h)) Hxl.out hwin'.out Hmain.out)
         clear hr5 hm5 Hr4 Hm4
         go_wp2_with fail
         go_meet
         case rel => exact ⟨true, (a' : Int), (b' : Int), x, rfl, rfl, rfl, rfl, HM.out⟩
     case rest =>
      obtain ⟨any', a', b', x, rfl, rfl, rfl, rfl, hM⟩ := hcut
      obtain ⟨s2, hr2, hm2, hxl, hbad, hgood⟩ := hM
      have Hxs2 := Lib.hid hxl; have Hbad := Lib.hid hbad; have Hgood := Lib.hid hgood
      have Hown2 : Hid (Own w.heap.size wc 26 u7 (cellsU xs)) := Lib.hid (hm2.owns Hown.out (fun k hk e => by have := (Hown.out.block k hk).1; have := hgl.out; omega))
      have Hr2 := Lib.hid hr2; have Hm2 := Lib.hid (Hm.out.trans hm2 (fun _ _ h => h))
      obtain ⟨gv, cap, hv, _, hglt⟩ := Hown2.out.form' (by rw [cellsU_length, Hxl.out]; omega)
      have hcell : wc.cell? ⟨gv, i - 1, none⟩ = some (.int .u64 (prev : Int)) := by
       have h := Hown2.out.cell' hv (i - 1) (by rw [cellsU_length, Hxl.out]; omega)
       rw [h, cellsU_get, Hpv.out]
       rfl
      rw [cellsU_length, Hxl.out] at hv
      subst hv
      obtain ⟨y, hy⟩ : ∃ y : Nat, y = prev ^^^ x := ⟨_, rfl⟩
      have hxor : bits .xor .u64 (prev : Int) (x : Int) = (y : Int) := by rw [hy]; exact u64_xor_nat prev x hp64.out hxl
      have hyl : Hid (y < 2 ^ 64) := Lib.hid (by rw [hy]; exact Nat.xor_lt_two_pow hp64.out hxl)
      have HN2 : Hid ((s2 = none → rdVals k R rem = none) ∧ ∀ R' rem', s2 = some (R', rem') → ∃ win, IsWin any' a' b' win ∧ rdVals k R rem = (rdXs (k - (i + 1)) win y R' rem').map fun p => ((xs ++ [y]) ++ p.1, p.2)) := Lib.hid ⟨fun h => HN.out.1 (hbad h), fun R' rem' h => by
       obtain ⟨win', h1, h2⟩ := hgood R' rem' h
       exact ⟨win', h1, by rw [hy]; exact HN.out.2 x win' R' rem' h2⟩⟩
      have hi3 : (0 : Int) ≤ (i : Int) - 1 := by omega
      have hi4 : (1 : Int) ≤ (i : Int) := by omega
      have hsz := Hm2.out.size
      have hr1' : (cellsU xs).length + 1 ≤ maxLen := by rw [cellsU_length, Hxl.out]; unfold maxLen; omega
      have hr2' : ((cellsU xs).length + 1) * 8 ≤ 140737488355328 := by rw [cellsU_length, Hxl.out]; omega
      clear hxl hbad hgood hr2 hm2 hy hfl
      go_wp2_with (at_builtin; refine wpList_app1 rfl (.tmp 74) (.tmp 82) _ rfl eltU rfl Hown2.out rfl rfl rfl hr1' hr2' hsz ?_; intro v' w4 HO HB)
      have HD2 : Hid (XRDec w w4 g row bs k R rem (i + 1) v' any' a' b' s2) := Lib.hid (XRDec.mk hgl.out Hrow.out Hr2.out Hm2.out HO.out HB.out Hxl.out Hxs.out hyl.out HN2.out)
      go_roundg (gk - 1)
      case measure => have := Hil.out; omega
      case rel => exact ⟨i + 1, any', a', b', s2, by have := Hil.out; omega, by go_num, rfl, rfl, rfl, HD2.out⟩
  ·have hik : i = k := by have := Hil.out; omega
   have Hres : Hid ((s = none → rdVals k R rem = none) ∧ ∀ R' rem', s = some (R', rem') → rdVals k R rem = some (xs, R', rem')) := Lib.hid (by
    rcases Nat.eq_zero_or_pos i with h0 | h0
    ·obtain ⟨b1, b4, _⟩ := hi0 h0
     subst b1 b4
     have hk0 : k = 0 := by omega
     subst hk0
     refine ⟨fun h => (by cases h), fun R' rem' h => ?_⟩
     injection h with h
     injection h with h3 h4
     subst h3 h4
     rfl
    ·obtain ⟨b1, b2⟩ := hi1 h0
     refine ⟨b1, fun R' rem' h => ?_⟩
     obtain ⟨win, prev, _, _, b3⟩ := b2 R' rem' h
     rw [b3, hik, Nat.sub_self]
     show some (xs ++ [], R', rem') = _
     rw [List.append_nil])
   have hxlk : xs.length = k := by rw [Hxl.out, hik]
   have Hxlk := Lib.hid hxlk
   clear hi0 hi1 hik hxlk
   have hres1 : s = none → Hid (rdVals k R rem = none) := fun h => Lib.hid (Hres.out.1 h)
   cases s with
   | none =>
    have hres2 := hres1 rfl
    have hfl' : wr.cell? ⟨g, 2, none⟩ = some (.bool true) := hfl
    clear Hres hres1 hfl
    go_wp2_with fail
    go_ret2
    exact XRDecEnd.none_ (valRow_none hres2.out) rfl Hm.out
   | some p =>
    obtain ⟨R', rem'⟩ := p
    have hres2 : Hid (rdVals k R rem = some (xs, R', rem')) := Lib.hid (Hres.out.2 R' rem' rfl)
    have hfl' : wr.cell? ⟨g, 2, none⟩ = some (.bool false) := hfl
    obtain ⟨Ao, co, rfl, _, hro2⟩ := own_formU Hown.out
    have Hro2 := Lib.hid hro2
    clear Hres hres1 hfl hro2
    have hlen := Hxlk.out
    obtain ⟨⟨fs0, ht0⟩, _, hxl64⟩ := rdVals_some hres2.out HR.out
    have hrle : rem' ≤ rem := by have := ht0.2.2; omega
    have Hxl64 := Lib.hid hxl64
    rw [hlen] at Hro2 ⊢
    obtain ⟨wA, hwA⟩ : ∃ wA, wA = wr.alloc (.cells #[.slice none 0 0] 92) := ⟨_, rfl⟩
    obtain ⟨h, hh⟩ : ∃ h, h = wr.heap.size := ⟨_, rfl⟩
    have hmA : Mod (fun _ => False) wr wA := by rw [hwA]; exact (Mod.refl _ _).alloc _
    have hwh : RWr wA h none 0 0 := by rw [hwA, hh]; exact ⟨.slice none 0 0, [], Blk.new _ _ _, World.ownsRow_nil _ _ _ _, rfl, (fun _ h => by cases h), rfl, rfl⟩
    have Hwh := Lib.hid hwh; have HmA := Lib.hid hmA; have HwA := Lib.hid hwA; have Hh := Lib.hid hh
    have HroA := Lib.hid (Hro2.out.mod hmA (Nat.le_refl _) (fun _ _ h => h))
    have hszA : wr.heap.size ≤ wA.heap.size := hmA.size
    have HownA : Hid (Own w.heap.size wA 26 (.slice Ao k co) (cellsU xs)) := Lib.hid (by have h := hmA.owns Hown.out (fun _ _ h => h); rw [hlen] at h; exact h)
    have HroR := Lib.hid (Hro.out.1.mod hmA (fun h => h) (fun _ h => h))
    clear hlen ht0 hxl64 hwA hh hmA hwh Hro2
    go_wp2_with (first | (rw [← Hh.out, ← HwA.out]))
    refine (rvalues_any wr.heap.size h none 0 0 k co Ao xs wA HroA.out Hxl64.out hszA (fun h0 ad e hq => by
     obtain ⟨ad', e', hb, _⟩ := HroA.out.2 h0
     rw [e] at e'
     injection e' with e'
     subst e'
     have := Hh.out
     rcases hq with hq | hq
     ·omega
     ·cases hq) Hwh.out (by omega)).mono ?_
    rintro e w2 ⟨rfl, rowh, hw2, hm2, hrt2⟩
    obtain ⟨L, hL⟩ : ∃ L, L = flen (encVals xs) := ⟨_, rfl⟩
    obtain ⟨N, hN⟩ : ∃ N, N = fnum (encVals xs) := ⟨_, rfl⟩
    rw [← hL, ← hN, Nat.zero_add, Nat.zero_mul, Nat.zero_add] at hw2
    have hLb : L ≤ 64 + 77 * k := by rw [hL, ← Hxlk.out]; exact encVals_len xs
    have hsmR : R' < 2 ^ rem' := by obtain ⟨⟨_, ht1⟩, _⟩ := rdVals_some hres2.out HR.out; exact ht1.2.1
    have HsmR := Lib.hid hsmR
    clear hsmR
    have hgw : g < wr.heap.size := by have := hgl.out; have := Hm.out.size; omega
    have hrw : row < wr.heap.size := by have := Hrow.out; have := Hm.out.size; omega
    have hrd := HroR.out.mod hm2 (fun e => by have := Hh.out; rcases e with e | e; omega; cases e) (fun _ e => by have := Hh.out; rcases e with e | e; omega; cases e)
    have Hm02 := Lib.hid (Hm.out.trans (HmA.out.trans hm2 (fun i hi e => by have := Hh.out; rcases e with e | e; omega; cases e)) (fun _ _ h => h.elim))
    have Hown2 : Hid (Own w.heap.size w2 26 (.slice Ao k co) (cellsU xs)) := Lib.hid (hm2.owns HownA.out (fun q hq e => by
     have hlt := (Hown.out.block q (by have h1 := Hxlk.out; rw [h1]; exact hq)).2
     have := Hh.out
     rcases e with e | e
     ·omega
     ·cases e))
    obtain ⟨Ax, cx, hx0⟩ := hw2.len
    have Hval := Lib.hid (valRow_if hres2.out)
    have HL := Lib.hid hL; have HNN := Lib.hid hN
    have Hrd := Lib.hid hrd; have Hw2 := Lib.hid hw2
    obtain ⟨A1, n1, c1, at1, hblk1, hsees, hne1, h81, hn1, hlt1, hok1, _⟩ := hrd
    obtain ⟨hat1, hR1⟩ := hok1 rfl
    have hn1l := hsees.1
    rw [cells8_length] at hn1l
    have hc1 := hblk1.cell 1
    simp at hc1
    obtain ⟨dl, hdl⟩ : ∃ dl, dl = rem - rem' := ⟨_, rfl⟩
    have hdw : IntKind.i64.wrap ((at1 : Int) - (fr : Int)) = (dl : Int) := by
     have := Hfr.out
     rw [IntWalk.i64_in _ (by omega)]
     omega
    have Hdl := Lib.hid hdl; have Hsees := Lib.hid hsees; have Hblk1 := Lib.hid hblk1; have Hlt1 := Lib.hid hlt1; have Hn1 := Lib.hid hn1l; have Hn1m := Lib.hid hn1; have Hrle := Lib.hid hrle
    clear hw2 hm2 hrt2 hL hN HroR hsees hne1 h81 hlt1 hok1 hat1 hR1 hn1l hblk1 hdl Hwh HmA HwA HroA HownA Hro hszA hrle hn1
    by_cases hLd : L = dl
    ·have hneb : ((L : Int) != (dl : Int)) = false := by simp; omega
     have HLd := Lib.hid hLd
     clear hLd
     go_wp2_with fail
     go_quiet (fail)
     clear hx0 hc1 hdw hneb
     obtain ⟨v0, Lb, hblkh, hownh, hrowh, hlt2, hLbl, hNb⟩ := Hw2.out
     have hal0 : Alike Lb R rem 0 := alike_zero HR.out (by rw [hLbl, HLd.out, Hdl.out]; omega)
     have Hal0 := Lib.hid hal0; have Hblkh := Lib.hid hblkh; have Hownh := Lib.hid hownh; have Hlt2 := Lib.hid hlt2; have HLbl := Lib.hid hLbl; have HNb := Lib.hid hNb
     have Hd0 : Hid (Mod (fun _ => False) w2 (w2.drewN nq)) := Lib.hid ((Mod.refl _ _).drewN nq)
     clear hblkh hownh hrowh hlt2 hLbl hNb hal0
     go_wp2_with fail
     go_loopg [15] L (fun l s15 wq => ∃ j : Nat, j + l = L ∧ s15 = .int .i64 (j : Int) ∧ Alike Lb R rem j ∧ Mod (fun _ => False) w2 wq)
     case atStart => exact ⟨0, by omega, rfl, Hal0.out, Hd0.out⟩
     case round =>
      obtain ⟨j, hjl, rfl, hal, hmq⟩ := hrel
      have Hal := Lib.hid hal; have Hmq := Lib.hid hmq; have Hjl := Lib.hid hjl
      clear hal hjl Hal0 Hd0
      by_cases hjL : j < L
      ·have hx0 := (Hmq.out.blk Hblkh.out (fun h => h)).cell 0
       simp at hx0
       rcases Hownh.out.2 with ⟨hv1, hv2⟩ | ⟨gb, capb, cur, hv1, hv2⟩
       ·exfalso
        have := HLbl.out
        omega
       ·subst hv1
        rw [HLbl.out] at hx0
        have hcb := Hownh.out.cellAt j (by have := HLbl.out; omega)
        obtain ⟨bb, hbb⟩ : ∃ bb, Lb[j]? = some bb := ⟨Lb[j]'(by have := HLbl.out; omega), List.getElem?_eq_getElem _⟩
        have hbb2 := Hlt2.out bb (List.mem_of_getElem? hbb)
        rw [cells8_get, hbb] at hcb
        have hcb' : wr.cell? ⟨gb, j, none⟩ = some (.int .u8 (bb : Int)) := by
         rw [hmq.cell (a := ⟨gb, j, none⟩) (World.block_lt_of_cell? w2 _ hcb) (fun h => h)]
         exact hcb
        have hj2 : j < rem := by have := Hal.out.2.1; have := HLbl.out; omega
        obtain ⟨t, ht⟩ : ∃ t, t = fr + j := ⟨_, rfl⟩
        have ht1 : (fr : Int) + (j : Int) = (t : Int) := by omega
        have ht8 : t < 8 * n1 := by have := Hfr.out; have := Hn1.out; omega
        have hn0 : 0 < n1 := by omega
        have hseq := Hsees.out
        obtain ⟨o, rfl, hrl, hcellb⟩ := hseq.2 hn0
        obtain ⟨by_, hby⟩ : ∃ by_, bs[t / 8]? = some by_ := ⟨bs[t / 8]'(by have := Hn1.out; omega), List.getElem?_eq_getElem _⟩
        have hcc := hcellb (t / 8) (.int .u8 (by_ : Int)) (by rw [cells8_get, hby]; rfl)
        have hcc' : wr.cell? ⟨row, o + t / 8, none⟩ = some (.int .u8 (by_ : Int)) := by
         rw [hmq.cell (a := ⟨row, o + t / 8, none⟩) hrl (fun h => h)]
         exact hcc
        have hby256 : by_ < 256 := Hlt1.out by_ (List.mem_of_getElem? hby)
        have hg0 := (Hmq.out.blk Hblk1.out (fun h => h)).cell 0
        simp at hg0
        obtain ⟨q, hq⟩ : ∃ q, q = t / 8 := ⟨_, rfl⟩
        obtain ⟨r8, hr8⟩ : ∃ r8, r8 = t % 8 := ⟨_, rfl⟩
        rw [← hq] at hcc'
        have ha1 : (t : Int) / 8 = (q : Int) := by omega
        have ha2 : (t : Int).tdiv 8 = (q : Int) := by rw [Int.tdiv_eq_ediv_of_nonneg (by omega)]; omega
        have ha3 : (t : Int).tmod 8 = (r8 : Int) := by rw [Int.tmod_eq_emod_of_nonneg (by omega)]; omega
        obtain ⟨f, hf⟩ : ∃ f, f = 7 - r8 := ⟨_, rfl⟩
        have hw7 : IntKind.i64.wrap (7 - (r8 : Int)) = (f : Int) := by rw [IntWalk.i64_in _ (by omega)]; omega
        have hw8 : IntKind.u64.wrap (f : Int) = (f : Int) := by rw [IntKind.wrap_u64]; omega
        have hwq : IntKind.i64.wrap (q : Int) = (q : Int) := IntWalk.i64_in _ (by have := Hn1m.out; omega)
        have hmin : min f 8 = f := by omega
        have hq0 : (0 : Int) ≤ (q : Int) := by omega
        have hq1 : (q : Int) < (n1 : Int) := by omega
        have hj0 : (0 : Int) ≤ (j : Int) := by omega
        have hjL' : (j : Int) < (L : Int) := by omega
        obtain ⟨cc, hcv⟩ : ∃ cc, cc = by_ / 2 ^ f % 2 := ⟨_, rfl⟩
        have hbit : bits .and .u8 ((by_ : Int) / 2 ^ f) 1 = (cc : Int) := by
         have e : (by_ : Int) / 2 ^ f = ((by_ / 2 ^ f : Nat) : Int) := by simp
         have h1 := Nat.div_le_self by_ (2 ^ f)
         rw [e, hcv]
         generalize by_ / 2 ^ f = x at *
         have h2 := u8_and_nat x 1 (by omega) (by decide)
         rw [nat_mask1] at h2
         exact h2
        have hread := read_bit (bs := bs) (n := n1) (a := t) (r := rem - j) (b := by_) (R := R) (rem := rem) (i := j) Hn1.out Hlt1.out Hfr.out.2.1 rfl hj2 (by have := Hfr.out; have := Hn1.out; omega) hby
        rw [← hr8, ← hf, ← hcv] at hread
        have Hread := Lib.hid hread; have Hbb := Lib.hid hbb
        have ht3 : t ≤ 8000000 := by have := Hn1m.out; omega
        clear hcb hbb ht hseq hcellb hby hcc hq hr8 hf hcv hread hmq hv2
        by_cases hbc : bb = cc
        ·have hneb : ((bb : Int) != (cc : Int)) = false := by simp; omega
         have HA2 : Hid (Alike Lb R rem (j + 1)) := Lib.hid (alike_more Hal.out Hbb.out Hread.out hbc)
         clear hbc
         go_wp2_with fail
         go_quiet (fail)
         have Hm3 : Hid (Mod (fun _ => False) w2 (wr.drewN nq)) := Lib.hid (Hmq.out.drewN nq)
         go_wp2_with fail
         go_roundg (gk - 1)
         case measure => have := Hjl.out; omega
         case rel => exact ⟨j + 1, by have := Hjl.out; omega, by go_num, HA2.out, Hm3.out⟩
        ·have hneb : ((bb : Int) != (cc : Int)) = true := by simp; omega
         have hnone : Hid (valRow k R rem = none) := Lib.hid (by
          rw [Hval.out, if_neg]
          rintro ⟨_, e2⟩
          have h := alike_not Hlt2.out Hal.out Hbb.out Hread.out hbc
          rw [HNb.out, HLbl.out, HNN.out, e2] at h
          exact h (by rw [show rem - L = rem' by have := HLd.out; have := Hdl.out; have := Hrle.out; omega]))
         clear hbc
         go_wp2_with fail
         go_quiet (fail)
         go_wp2_with fail
         go_ret2
         exact XRDecEnd.none_ hnone.out rfl ((Hm02.out.trans Hmq.out (fun _ _ h => h.elim)).drewN _)
      ·obtain rfl : j = L := by have := Hjl.out; omega
       obtain ⟨Ax2, cx2, hx0⟩ := (Hw2.out.mod Hmq.out (fun h => h) (fun _ _ h => h)).len
       have hsome : Hid (valRow k R rem = some (xs, R', rem')) := Lib.hid (by
        rw [Hval.out, if_pos]
        refine ⟨by rw [← HL.out]; have := HLd.out; have := Hdl.out; have := Hrle.out; omega, ?_⟩
        have h := Hal.out
        rw [← HLbl.out] at h
        have h2 := alike_all h
        rw [HNb.out, HLbl.out, HNN.out] at h2
        rw [h2, show rem - j = rem' by have := HLd.out; have := Hdl.out; have := Hrle.out; omega])
       go_wp2_with fail
       go_ret2
       unfold XRDecEnd
       rw [hsome.out]
       exact ⟨_, rfl, Hmq.out.owns Hown2.out (fun _ _ h => h), ⟨Hrd.out.mod Hmq.out (fun h => h) (fun _ h => h), HsmR.out⟩, Hm02.out.trans Hmq.out (fun _ _ h => h.elim)⟩
    ·have hneb : ((L : Int) != (dl : Int)) = true := by simp; omega
     have hnone : Hid (valRow k R rem = none) := Lib.hid (by
      rw [Hval.out, if_neg]
      rintro ⟨e1, _⟩
      rw [← HL.out] at e1
      exact hLd (by rw [Hdl.out]; omega))
     clear hLd
     go_wp2_with fail
     go_quiet (fail)
     go_wp2_with fail
     go_ret2
     exact XRDecEnd.none_ hnone.out rfl (Hm02.out.drewN _)
end Go.Proofs.YtmeilddngohccaaGreatDoor

/- The document's own answer: bytes are read as values by their list. -/
namespace Go.Proofs.YtmeilddngohccaaGreatDoor
open Go.RowKit Go.Maps

/-- What GetDict has laid of i values. -/
def ROutTo (wB wr : World) (l raw : List Nat) (i : Nat) (v : Value) : Prop :=
 Own wB.heap.size wr 26 v (cellsU (outD l (raw.take i))) ∧ (∀ j ∈ raw.take i, j < l.length) ∧ Mod (fun _ => False) wB wr
theorem decD_bad {N : Nat} {bs : List Nat} (hN : ¬ N = 0) (h : (dec bs).2 = 0 ∨ (dec bs).1 = 0 ∨ 256 < (dec bs).1) : decD N bs = none := by
 unfold decD
 rw [if_neg hN, if_pos h]
set_option maxHeartbeats 4000000 in
set_option maxRecDepth 100000 in
theorem rddec_any (A : Option Addr) (n cap B N : Nat) (m : Int) (bs : List Nat) (w : World) (hs : Rds w B A n (cells8 bs)) (hB : B ≤ w.heap.size) (hlt : lt256 bs) (hnc : n ≤ cap) (hcm : cap ≤ maxLen) (hn : n ≤ 1000000) (hN : max 0 (min m 65535) = (N : Int)) :
  Calls Tryz.prog 49 #[.slice A n cap, .int .i64 m] w fun e w' => EncE w w' (decD N bs) e := by
 have hul : bs.length = n := by have := hs.1; rwa [cells8_length] at this
 have hN65 : N ≤ 65535 := by omega
 have Hheld := Lib.hid (fun W => rheld_any m N W hN)
 clear hN
 by_cases hN0 : N = 0
 ·subst hN0
  have hdec : decD 0 bs = if bs = [] then some [] else none := by unfold decD; rw [if_pos rfl]
  by_cases hn0 : n = 0
  ·obtain rfl := List.eq_nil_of_length_eq_zero (hul.trans hn0)
   have Hd := Lib.hid hdec
   have hnb : ((n : Int) == 0) = true := by simp; omega
   clear hs hdec
   go_enter Tryz.func49, Tryz.ntmps49
   go_wp2_with fail
   refine (Hheld.out _).mono ?_
   rintro e w' ⟨rfl, rfl⟩
   go_wp2_with fail
   go_ret2
   rw [Hd.out]
   exact ⟨_, rfl, Own.nil _ _ _, Mod.refl _ _⟩
  ·have hne : ¬ bs = [] := by rintro rfl; exact hn0 hul.symm
   have Hd : Hid (decD 0 bs = none) := Lib.hid (by rw [hdec, if_neg hne])
   have hnb : ((n : Int) == 0) = false := by simp; omega
   clear hs hdec hne hul
   go_enter Tryz.func49, Tryz.ntmps49
   go_wp2_with fail
   refine (Hheld.out _).mono ?_
   rintro e w' ⟨rfl, rfl⟩
   go_wp2_with fail
   go_ret2
   rw [Hd.out]
   exact ⟨rfl, Mod.refl _ _⟩
 ·have hNb : ((N : Int) == 0) = false := by simp; omega
  have hcall := vrget_any A n cap B bs w hs hlt (by omega)
  obtain ⟨K, hK⟩ : ∃ K, (dec bs).1 = K := ⟨_, rfl⟩
  obtain ⟨p, hp⟩ : ∃ p, (dec bs).2 = p := ⟨_, rfl⟩
  rw [hK, hp] at hcall
  have Hcall := Lib.hid hcall
  clear hcall
  by_cases hbad : p = 0 ∨ K = 0 ∨ 256 < K
  ·have Hd : Hid (decD N bs = none) := Lib.hid (decD_bad hN0 (by rw [hK, hp]; exact hbad))
   clear hs hK hp
   have hways : p = 0 ∨ ¬ p = 0 ∧ (K = 0 ∨ ¬ K = 0 ∧ 256 < K) := by omega
   clear hbad
   rcases hways with h1 | ⟨h1, h2 | ⟨h2, h3⟩⟩
   ·have hb1 : ((p : Int) == 0) = true := by simp; omega
    go_enter Tryz.func49, Tryz.ntmps49
    go_wp2_with fail
    refine (Hheld.out _).mono ?_
    rintro e w' ⟨rfl, rfl⟩
    go_wp2_with fail
    refine Hcall.out.mono ?_
    rintro e w' ⟨rfl, rfl⟩
    go_wp2_with fail
    go_ret2
    rw [Hd.out]
    exact ⟨rfl, Mod.refl _ _⟩
   ·have hb1 : ((p : Int) == 0) = false := by simp; omega
    have hb2 : ((K : Int) == 0) = true := by simp; omega
    go_enter Tryz.func49, Tryz.ntmps49
    go_wp2_with fail
    refine (Hheld.out _).mono ?_
    rintro e w' ⟨rfl, rfl⟩
    go_wp2_with fail
    refine Hcall.out.mono ?_
    rintro e w' ⟨rfl, rfl⟩
    go_wp2_with fail
    go_ret2
    rw [Hd.out]
    exact ⟨rfl, Mod.refl _ _⟩
   ·have hb1 : ((p : Int) == 0) = false := by simp; omega
    have hb2 : ((K : Int) == 0) = false := by simp; omega
    have hb3 : (256 : Int) < (K : Int) := by omega
    go_enter Tryz.func49, Tryz.ntmps49
    go_wp2_with fail
    refine (Hheld.out _).mono ?_
    rintro e w' ⟨rfl, rfl⟩
    go_wp2_with fail
    refine Hcall.out.mono ?_
    rintro e w' ⟨rfl, rfl⟩
    go_wp2_with fail
    go_ret2
    rw [Hd.out]
    exact ⟨rfl, Mod.refl _ _⟩
  ·have hpn : p ≤ n := by
    rw [← hp, ← hul]
    rcases Nat.eq_zero_or_pos (dec bs).2 with h | h
    ·omega
    ·exact (dec_some hlt h).1
   have hb1 : ((p : Int) == 0) = false := by simp; omega
   have hb2 : ((K : Int) == 0) = false := by simp; omega
   have hb3 : ¬ (256 : Int) < (K : Int) := by omega
   obtain ⟨A1, hA1⟩ : ∃ A1, (if cap = p then A else A.map (·.add p)) = A1 := ⟨_, rfl⟩
   have hr1 : Rds w w.heap.size A1 (n - p) (cells8 (bs.drop p)) := by
    have h := (hs.more hB).drop hpn hnc
    rw [show (cells8 bs).drop p = cells8 (bs.drop p) by simp [cells8, List.map_drop]] at h
    rw [← hA1]
    exact h
   have hw0 : 0 < w.heap.size := (hs.some_mem hB (by omega)).1
   have hpi : (p : Int) ≤ (n : Int) := by omega
   have hpc : (p : Int) ≤ (cap : Int) := by omega
   have hp0 : (0 : Int) ≤ (p : Int) := by omega
   have HgL : Hid (getL bs = rdV K (bs.drop p)) := Lib.hid (by unfold getL; rw [hK, hp, if_neg (by omega)])
   have G0 : Hid (GetLTo w w (bs.drop p) 0 (.slice A1 (n - p) (cap - p)) (.slice none 0 0)) := Lib.hid ⟨A1, n - p, cap - p, [], bs.drop p, rfl, by omega, by omega, hr1, rfl, Own.nil _ _ _, Mod.refl _ _, .inl rfl⟩
   have Hlt' : Hid (lt256 (bs.drop p)) := Lib.hid (fun b hb => hlt b (List.mem_of_mem_drop hb))
   have hK2 : K ≤ 256 := by omega
   have hK1 : 1 ≤ K := by omega
   have Hs := Lib.hid hs; have Hlt := Lib.hid hlt; have HB := Lib.hid hB; have Hul := Lib.hid hul; have Hw0 := Lib.hid hw0
   clear hs hK hp hul hr1 hpn hlt hB hcm hnc hbad hw0
   go_enter Tryz.func49, Tryz.ntmps49
   go_wp2_with fail
   refine (Hheld.out _).mono ?_
   rintro e w' ⟨rfl, rfl⟩
   go_wp2_with fail
   refine Hcall.out.mono ?_
   rintro e w' ⟨rfl, rfl⟩
   go_wp2_with fail
   clear hpi hpc hp0 hA1 hb1 hb2 hb3
   go_loopg [8, 9, 10] K (fun l s8 s9 s10 wr => ∃ i : Nat, i + l = K ∧ s10 = .int .u64 (i : Int) ∧ GetLTo w wr (bs.drop p) i s8 s9)
   case atStart => exact ⟨0, by omega, rfl, G0.out⟩
   case round =>
    obtain ⟨i, hil, rfl, A0, n0, c0, l, r, rfl, hnc0, hcm0, hr0, hrd, hown, hm, hA0⟩ := hrel
    obtain ⟨hl1, hl2, hl3, hl4⟩ := rdV_some _ _ _ _ Hlt'.out hrd
    have hrl : r.length = n0 := by have := hr0.1; rwa [cells8_length] at this
    have Hr0 := Lib.hid hr0; have Hrd := Lib.hid hrd; have Hown := Lib.hid hown; have Hm := Lib.hid hm; have HA0 := Lib.hid hA0; have Hil := Lib.hid hil; have Hl1 := Lib.hid hl1; have Hl2 := Lib.hid hl2; have Hl3 := Lib.hid hl3
    have Hcm0 := Lib.hid hcm0
    have hn0 : n0 ≤ 1000000 := by
     have h := congrArg List.length hl4
     have h2 := Hul.out
     rw [List.length_drop, List.length_append] at h
     omega
    clear hr0 hrd hown hm hA0 hil G0 hl1 hl2 hl3 hl4 hcm0
    by_cases hin : i < K
    ·have hcall := vrget_any A0 n0 c0 _ r wr Hr0.out Hl3.out (by unfold maxLen; omega)
     have hst := rdV_succ i (bs.drop p)
     rw [Hrd.out] at hst
     have hst' : rdV (i + 1) (bs.drop p) = if (dec r).2 = 0 then none else some (l ++ [(dec r).1], r.drop (dec r).2) := hst
     have hqr : (dec r).2 ≤ r.length := by
      rcases Nat.eq_zero_or_pos (dec r).2 with h | h
      ·omega
      ·exact (dec_some Hl3.out h).1
     obtain ⟨x, hx⟩ : ∃ x, (dec r).1 = x := ⟨_, rfl⟩
     obtain ⟨q, hq⟩ : ∃ q, (dec r).2 = q := ⟨_, rfl⟩
     rw [hx, hq] at hcall hst'
     rw [hq, hrl] at hqr
     have Hcall2 := Lib.hid hcall
     clear hcall hst hrl hx hq
     by_cases hq0 : q = 0
     ·have hqb : ((q : Int) == 0) = true := by simp; omega
      have Hd : Hid (decD N bs = none) := Lib.hid (decD_noL hN0 (fun l rest h => by
       rw [HgL.out, rdV_none_le (hst'.trans (if_pos hq0)) (by omega)] at h
       cases h))
      clear hst' hq0 hqr
      go_wp2_with fail
      refine Hcall2.out.mono ?_
      rintro e w' ⟨rfl, rfl⟩
      go_wp2_with fail
      go_ret2
      rw [Hd.out]
      exact ⟨rfl, Hm.out⟩
     ·have hqb : ((q : Int) == 0) = false := by simp; omega
      obtain ⟨A1', hA1⟩ : ∃ A1, (if c0 = q then A0 else A0.map (·.add q)) = A1 := ⟨_, rfl⟩
      have hr1 : Rds wr w.heap.size A1' (n0 - q) (cells8 (r.drop q)) := by
       have h := Hr0.out.drop hqr hnc0
       rw [show (cells8 r).drop q = cells8 (r.drop q) by simp [cells8, List.map_drop]] at h
       rw [← hA1]
       exact h
      have hA1n : A1' ≠ none := by
       obtain ⟨ad, e, _⟩ := Hr0.out.2 (by omega)
       rw [← hA1, e]
       split <;> simp
      have Hr1 := Lib.hid hr1; have HA1n := Lib.hid hA1n
      have Hst : Hid (rdV (i + 1) (bs.drop p) = some (l ++ [x], r.drop q)) := Lib.hid (hst'.trans (if_neg hq0))
      have hqi : (q : Int) ≤ (n0 : Int) := by omega
      have hqc : (q : Int) ≤ (c0 : Int) := by omega
      have hqz : (0 : Int) ≤ (q : Int) := by omega
      have hnc1 : n0 - q ≤ c0 - q := by omega
      have hcm1 : Hid (c0 - q ≤ maxLen) := Lib.hid (by have := Hcm0.out; omega)
      have hra : (cellsU l).length + 1 ≤ maxLen := by rw [cellsU_length, Hl1.out]; unfold maxLen; omega
      have hrb : ((cellsU l).length + 1) * 8 ≤ 140737488355328 := by rw [cellsU_length, Hl1.out]; omega
      have Hra := Lib.hid hra; have Hrb := Lib.hid hrb
      clear hst' hq0 hr1 hA1n hra hrb
      go_wp2_with fail
      refine Hcall2.out.mono ?_
      rintro e w' ⟨rfl, rfl⟩
      go_wp2_with (at_builtin; refine wpList_app1 rfl (.tmp 55) (.tmp 57) _ rfl eltU rfl Hown.out rfl rfl rfl Hra.out Hrb.out Hm.out.size ?_; intro v' w2 HO HBl)
      have HG : Hid (GetLTo w w2 (bs.drop p) (i + 1) (.slice A1' (n0 - q) (c0 - q)) v') := Lib.hid ⟨A1', n0 - q, c0 - q, l ++ [x], r.drop q, rfl, hnc1, hcm1.out, Hr1.out.below HBl.out, Hst.out, by rw [cellsU_snoc]; exact HO.out, Hm.out.trans (Mod.of_below HBl.out) (fun i hi h => by omega), .inr HA1n.out⟩
      clear HO HBl
      go_roundg (gk - 1)
      case measure => have := Hil.out; omega
      case rel => exact ⟨i + 1, by have := Hil.out; omega, by go_num, HG.out⟩
    ·have hi : i = K := by have := Hil.out; omega
     subst hi
     obtain ⟨A6, L, c6, rfl, HL, _, hr6⟩ := own_formUN Hown.out
     obtain rfl : L = i := by have h1 := HL.out; have h2 := Hl1.out; omega
     have HgLs : Hid (getL bs = some (l, r)) := Lib.hid (HgL.out.trans Hrd.out)
     obtain ⟨S, hS⟩ : ∃ S, wid (L - 1) = S := ⟨_, rfl⟩
     have hS64 : S ≤ 64 := by rw [← hS]; exact wid_le _
     have HS' : Hid (wid (l.length - 1) = S) := Lib.hid (by rw [HL.out]; exact hS)
     obtain ⟨y, hy⟩ : ∃ y, y = L - 1 := ⟨_, rfl⟩
     have hyi : (L : Int) - 1 = (y : Int) := by omega
     have hyL : y ≤ 1000000 := by omega
     have Hwid : Hid (∀ W, Calls Tryz.prog 75 #[.int .u64 (y : Int)] W fun e w' => e = .returned (.int .i64 (S : Int)) ∧ W = w') := Lib.hid (fun W => rwidth_any y S W (by unfold Lt64; omega) (by rw [hy]; exact hS))
     obtain ⟨raw, hraw⟩ : ∃ raw, raw = rdW S N (some (val r, 8 * r.length)) := ⟨_, rfl⟩
     have Hrawl : Hid (raw.length = N) := Lib.hid (by rw [hraw, rdW_len])
     have hunp := runpack_any A0 n0 c0 _ N S r wr Hr0.out Hm.out.size Hl3.out hn0 hN65 hS64 (Nat.lt_of_lt_of_le Hw0.out Hm.out.size)
     rw [← hraw] at hunp
     have Hunp := Lib.hid hunp; have Hraw := Lib.hid hraw; have Hr6 := Lib.hid hr6
     clear hS hy hraw hunp hr6 hin Hrd Hown
     go_wp2_with fail
     refine (Hwid.out _).mono ?_
     rintro e w1 ⟨rfl, rfl⟩
     go_wp2_with fail
     refine Hunp.out.mono ?_
     rintro e wB ⟨v13, rfl, ho13, hmB⟩
     obtain ⟨A13, N13, c13, rfl, HN13, _, hr13⟩ := own_formUN ho13
     obtain rfl : N13 = N := by have := HN13.out; have := Hrawl.out; omega
     have Hr13 := Lib.hid hr13; have HmB := Lib.hid (Hm.out.trans hmB (fun _ _ h => h)); have Hr6B := Lib.hid (Hr6.out.new hmB).fit
     have O0 : Hid (ROutTo wB wB l raw 0 (.slice none 0 0)) := Lib.hid ⟨Own.nil _ _ _, (fun _ h => by cases h), Mod.refl _ _⟩
     clear ho13 hmB hr13 Hunp Hwid Hr6 hyi
     go_wp2_with fail
     go_loopg [14, 15] N13 (fun l' s14 s15 wq => ∃ j : Nat, j + l' = N13 ∧ s15 = .int .i64 (j : Int) ∧ ROutTo wB wq l raw j s14)
     case atStart => exact ⟨0, by omega, rfl, O0.out⟩
     case round =>
      obtain ⟨j, hjl, rfl, hown, hall, hm2⟩ := hrel
      have Hown := Lib.hid hown; have Hall := Lib.hid hall; have Hm2 := Lib.hid hm2; have Hjl := Lib.hid hjl
      clear hown hall hm2 hjl O0
      by_cases hjn : j < N13
      ·obtain ⟨ad, x, rfl, hx, hcx⟩ := Hr13.out.at2 hjn (Nat.le_refl _) Hm2.out (fun _ _ h => h)
       have hj0 : (0 : Int) ≤ (j : Int) := by omega
       by_cases hxl : x < L
       ·have hxi : ¬ (L : Int) ≤ (x : Int) := by omega
        have hxi' : (x : Int) < (L : Int) := by omega
        have hx0 : (0 : Int) ≤ (x : Int) := by omega
        obtain ⟨ad6, z, rfl, hz, hcz⟩ := Hr6B.out.at2 hxl (Nat.le_refl _) Hm2.out (fun _ _ h => h)
        have Hxo : Hid (outD l (raw.take (j + 1)) = outD l (raw.take j) ++ [z]) := Lib.hid (by rw [take_succ_of hx, outD_snoc, List.getD_eq_getElem?_getD, hz]; rfl)
        have Hall2 : Hid (∀ q ∈ raw.take (j + 1), q < l.length) := Lib.hid (by
         rw [take_succ_of hx]
         intro q hq
         rcases List.mem_append.1 hq with hq | hq
         ·exact Hall.out q hq
         ·rw [List.mem_singleton.1 hq, HL.out]; exact hxl)
        have hol : (outD l (raw.take j)).length ≤ 65535 := by rw [outD_len, List.length_take]; omega
        have hra : (cellsU (outD l (raw.take j))).length + 1 ≤ maxLen := by rw [cellsU_length]; unfold maxLen; omega
        have hrb : ((cellsU (outD l (raw.take j))).length + 1) * 8 ≤ 140737488355328 := by rw [cellsU_length]; omega
        have Hra := Lib.hid hra; have Hrb := Lib.hid hrb
        have hsz := Hm2.out.size
        clear hx hz hxl hol hra hrb
        go_wp2_with (at_builtin; refine wpList_app1 rfl (.tmp 79) (.tmp 87) _ rfl eltU rfl Hown.out rfl rfl rfl Hra.out Hrb.out hsz ?_; intro v' w2 HO HBl)
        have HU : Hid (ROutTo wB w2 l raw (j + 1) v') := Lib.hid ⟨by rw [Hxo.out, cellsU_snoc]; exact HO.out, Hall2.out, Hm2.out.trans (Mod.of_below HBl.out) (fun i hi h => by omega)⟩
        clear HO HBl
        go_roundg (gk - 1)
        case measure => have := Hjl.out; omega
        case rel => exact ⟨j + 1, by have := Hjl.out; omega, by go_num, HU.out⟩
       ·have hxi : (L : Int) ≤ (x : Int) := by omega
        have Hd : Hid (decD N13 bs = none) := Lib.hid (readD_far Hlt.out hN0 HgLs.out (by rw [HL.out]; omega) HS'.out (by rw [← Hraw.out]; exact hx) (by rw [HL.out]; omega))
        clear hxl hx
        go_wp2_with fail
        go_ret2
        rw [Hd.out]
        exact ⟨rfl, HmB.out.trans Hm2.out (fun _ _ h => h)⟩
      ·have hjN : j = N13 := by have := Hjl.out; omega
       have htk : raw.take j = raw := List.take_of_length_le (by rw [Hrawl.out]; omega)
       obtain ⟨V, hV⟩ : ∃ V, V = outD l raw := ⟨_, rfl⟩
       have hown := Hown.out
       have hall := Hall.out
       rw [htk] at hown hall
       obtain ⟨hV1, hV2, hV3⟩ := readD_done Hlt.out hN0 HgLs.out (by rw [HL.out]; omega) HS'.out (by rw [← Hraw.out]; exact hall)
       rw [← Hraw.out, ← hV] at hV1 hV2 hV3
       rw [← hV] at hown
       obtain ⟨A14, L14, c14, rfl, HL14, _, hr14⟩ := own_formUN hown
       have Hr14 := Lib.hid hr14; have Ho14 := Lib.hid hown; have HV2 := Lib.hid hV2; have HV3 := Lib.hid hV3
       have hL14 : L14 ≤ 1000000 := by have := HL14.out; omega
       have HwB : Hid (w.heap.size ≤ wB.heap.size) := Lib.hid HmB.out.size
       have Hmr := Lib.hid (HmB.out.trans Hm2.out (fun _ _ h => h))
       clear htk hV hown hall hV1 hV2 hV3 hr14 Hown Hall hjn
       go_wp2_with fail
       refine (rdenc_any A14 L14 c14 _ V wr Hr14.out (Nat.le_refl _) HV2.out hL14).mono ?_
       intro e w5 hE
       cases he : encD V with
       | none =>
        obtain ⟨rfl, hm5⟩ := hE.none_ he
        have Hd : Hid (decD N13 bs = none) := Lib.hid (by rw [HV3.out, he, if_neg (fun e => by cases e)])
        have Hm5 := Lib.hid (Hmr.out.trans hm5 (fun _ _ h => h))
        clear hE he hm5
        go_wp2_with fail
        go_ret2
        rw [Hd.out]
        exact ⟨rfl, Hm5.out⟩
       | some cs =>
        obtain ⟨v5, rfl, ho5, hm5⟩ := hE.some_ he
        obtain ⟨A5, L5, c5, rfl, _, _, _, hr5⟩ := own_formN8 ho5
        have Hm5 := Lib.hid (Hmr.out.trans hm5 (fun _ _ h => h)); have Ho145 := Lib.hid (Ho14.out.mod hm5)
        obtain ⟨s1, hs1⟩ : ∃ s1, strOf cs = s1 := ⟨_, rfl⟩
        obtain ⟨s2, hs2⟩ : ∃ s2, strOf bs = s2 := ⟨_, rfl⟩
        obtain ⟨b, hb⟩ : ∃ b, decide (cs = bs) = b := ⟨_, rfl⟩
        obtain ⟨hq, hq'⟩ := str_ne hs1 hs2 (encD_256 he) Hlt.out hb
        have hcv1 : (convert 34 9 (.slice A5 L5 c5)).run Tryz.prog w5 = .ok (.string s1) w5 := by
         rw [← hs1]
         exact conv_rds Tryz.underlying34 Tryz.underlying5 Tryz.underlying9 w5 hr5 (encD_256 he)
        have hcv2 : (convert 34 9 (.slice A n cap)).run Tryz.prog w5 = .ok (.string s2) w5 := by
         rw [← hs2]
         exact conv_rds Tryz.underlying34 Tryz.underlying5 Tryz.underlying9 w5 (Hs.out.mod Hm5.out HB.out (fun _ _ h => h)) Hlt.out
        have Hdec : Hid (decD N13 bs = if cs = bs then some V else none) := Lib.hid (by rw [HV3.out, he]; by_cases h : cs = bs <;> simp [h])
        have Hb := Lib.hid hb
        clear hE he hm5 hr5 ho5 hs1 hs2 hb
        cases b with
        | true =>
         have Hd : Hid (decD N13 bs = some V) := Lib.hid (by rw [Hdec.out, if_pos (of_decide_eq_true Hb.out)])
         go_wp2_with fail
         go_ret2
         rw [Hd.out]
         exact ⟨_, rfl, Ho145.out.mono HwB.out, Hm5.out⟩
        | false =>
         have Hd : Hid (decD N13 bs = none) := Lib.hid (by rw [Hdec.out, if_neg (of_decide_eq_false Hb.out)])
         go_wp2_with fail
         go_ret2
         rw [Hd.out]
         exact ⟨rfl, Hm5.out⟩
end Go.Proofs.YtmeilddngohccaaGreatDoor

/- Values read in a codec, as the document has it: read. -/
namespace Go.Proofs.YtmeilddngohccaaGreatDoor
open Go.RowKit

/-- Values and true, or whatever and false. -/
def RdE (w w' : World) (o : Option (List Nat)) (e : Ending) : Prop :=
 match o with
 | some us => ∃ v, e = .returned (.tuple #[v, .bool true]) ∧ Own w.heap.size w' 26 v (cellsU us) ∧ Mod (fun _ => False) w w'
 | none => ∃ v, e = .returned (.tuple #[v, .bool false]) ∧ Mod (fun _ => False) w w'
theorem RdE.some_ {w w' : World} {o : Option (List Nat)} {us : List Nat} {e : Ending} (h : RdE w w' o e) (ho : o = some us) : ∃ v, e = .returned (.tuple #[v, .bool true]) ∧ Own w.heap.size w' 26 v (cellsU us) ∧ Mod (fun _ => False) w w' := by
 subst ho
 exact h
theorem RdE.none_ {w w' : World} {o : Option (List Nat)} {e : Ending} (h : RdE w w' o e) (ho : o = none) : ∃ v, e = .returned (.tuple #[v, .bool false]) ∧ Mod (fun _ => False) w w' := by
 subst ho
 exact h
theorem RdE.of_encE {w w' : World} {o : Option (List Nat)} {e : Ending} (h : EncE w w' o e) : RdE w w' o e := by
 cases o with
 | none => exact ⟨_, h.1, h.2⟩
 | some us => exact h
theorem RdE.of_some {w w' : World} {o : Option (List Nat)} {us : List Nat} {v : Value} (ho : o = some us) (h : Own w.heap.size w' 26 v (cellsU us)) (hm : Mod (fun _ => False) w w') : RdE w w' o (.returned (.tuple #[v, .bool true])) := by
 rw [ho]
 exact ⟨v, rfl, h, hm⟩
theorem RdE.of_none {w w' : World} {o : Option (List Nat)} {v : Value} (ho : o = none) (hm : Mod (fun _ => False) w w') : RdE w w' o (.returned (.tuple #[v, .bool false])) := by
 rw [ho]
 exact ⟨v, rfl, hm⟩
/-- A reader of its own, at the beginning. -/
theorem RRd.new {w : World} {A : Option Addr} {n c : Nat} {bs : List Nat} (hs : Rds w w.heap.size A n (cells8 bs)) (hlt : lt256 bs) (hn : n ≤ 1000000) (hw : 0 < w.heap.size) :
  ∃ row, row < w.heap.size ∧ RRd (w.alloc (.cells #[.slice A n c, .int .i64 0, .bool false] 66)) w.heap.size row bs (val bs) (8 * n) true := by
 obtain ⟨row, hsee, hrow⟩ := hs.sees hw
 have hbl : bs.length = n := by have := hs.1; rwa [cells8_length] at this
 have hval : val bs < 2 ^ (8 * n) := by rw [← hbl]; exact val_lt hlt
 refine ⟨row, hrow, A, n, c, 0, Blk.new _ _ _, hsee.mod ((Mod.refl (fun _ => False) w).alloc _) (fun _ h => h), by omega, by omega, hn, hlt, (fun _ => ⟨by omega, (Nat.mod_eq_of_lt hval).symm⟩), fun h => by cases h⟩
set_option maxRecDepth 100000 in
theorem unw8_step {bs : List Nat} (h : 8 ≤ bs.length) : unw8 bs = val (bs.take 8) :: unw8 (bs.drop 8) := by
 match bs, h with
 | a :: b :: c :: d :: e :: f :: g :: h' :: r, _ =>
  show un8 a b c d e f g h' :: unw8 r = val [a, b, c, d, e, f, g, h'] :: unw8 r
  congr 1
  unfold un8
  simp [val]
theorem or_byte {V b : Nat} (hb : b < 256) (hV : V * 256 + 256 ≤ 18446744073709551616) : bits BinOp.or IntKind.u64 ((V * 256 : Nat) : Int) (b : Int) = ((V * 256 + b : Nat) : Int) := by
 have h0 := nat_join 8 (V * 256) b (by omega) (by omega)
 rw [u64_or_nat _ _ (by omega) (by omega), h0]
/-- Words read so far; p is where the next one begins. -/
def RWordTo (w wr : World) (bs : List Nat) (v : Value) (p left : Nat) : Prop :=
 ∃ ws, Own w.heap.size wr 26 v (cellsU ws) ∧ p ≤ bs.length ∧ ws.length ≤ p ∧ (∀ x ∈ ws, x < 2 ^ 64) ∧ unw8 bs = ws ++ unw8 (bs.drop p) ∧ (unw8 (bs.drop p)).length = left ∧ Mod (fun _ => False) w wr
/-- Values so far. -/
def RBackTo (w wr : World) (us : List Nat) (i last : Nat) (v : Value) : Prop :=
 Own w.heap.size wr 26 v (cellsU (unstepsU 0 (us.take i))) ∧ last = (unstepsU 0 (us.take i)).getLast?.getD 0 ∧ last < 2 ^ 64 ∧ Mod (fun _ => False) w wr
theorem RBackTo.step {w wr w2 : World} {us : List Nat} {i last u : Nat} {v v2 : Value} (h : RBackTo w wr us i last v) (hu : us[i]? = some u) (ho : Own w.heap.size w2 26 v2 (cellsU (unstepsU 0 (us.take i)) ++ [.int .u64 (backU last u : Int)])) (hb : Below w.heap.size wr w2) : RBackTo w w2 us (i + 1) (backU last u) v2 := by
 obtain ⟨_, h2, _, h4⟩ := h
 refine ⟨?_, ?_, backU_lt _ _, h4.trans (Mod.of_below hb) (fun i hi h => by omega)⟩
 ·rw [take_succ_of hu, unstepsU_snoc, ← h2, cellsU_snoc]
  exact ho
 ·rw [take_succ_of hu, unstepsU_snoc, ← h2, List.getLast?_concat]
  rfl
/-- One value again and again. -/
def RRepTo (w wr : World) (x i : Nat) (v : Value) : Prop := Own w.heap.size wr 26 v (cellsU (List.replicate i x)) ∧ Mod (fun _ => False) w wr
set_option maxHeartbeats 4000000 in
set_option maxRecDepth 100000 in
theorem rread_any (tag : Int) (A : Option Addr) (n cap N : Nat) (bs : List Nat) (w : World) (hs : Rds w w.heap.size A n (cells8 bs)) (hlt : lt256 bs) (hnc : n ≤ cap) (hcm : cap ≤ maxLen) (hn : n ≤ 1000000) (hN : N ≤ 65535) (hw0 : 0 < w.heap.size) :
  Calls Tryz.prog 29 #[.int .i64 tag, .slice A n cap, .int .i64 (N : Int)] w fun e w' => RdE w w' (readK tag N bs) e := by
 have hul : bs.length = n := by have := hs.1; rwa [cells8_length] at this
 have hNN : max 0 (min (N : Int) 65535) = (N : Int) := by omega
 by_cases h1 : tag = 1
 ·subst h1
  obtain ⟨row, hrow, hrr⟩ := RRd.new (c := cap) hs hlt hn hw0
  obtain ⟨W, hW⟩ : ∃ W, W = w.alloc (.cells #[.slice A n cap, .int .i64 0, .bool false] 66) := ⟨_, rfl⟩
  rw [← hW] at hrr
  have hmW : Mod (fun _ => False) w W := by rw [hW]; exact (Mod.refl _ _).alloc _
  have hval : val bs < 2 ^ (8 * n) := by rw [← hul]; exact val_lt hlt
  obtain ⟨o, ho⟩ : ∃ o, o = readK 1 N bs := ⟨_, rfl⟩
  have ho2 : o = (valRow N (val bs) (8 * n)).map (·.1) := by rw [ho, ← hul]; rfl
  have HW := Lib.hid hW; have HmW := Lib.hid hmW; have Hrr := Lib.hid hrr; have Hrow := Lib.hid (Nat.lt_of_lt_of_le hrow hmW.size); have Hval := Lib.hid hval; have Ho := Lib.hid ho; have Ho2 := Lib.hid ho2; have HN := Lib.hid hNN
  clear hs hlt hul hW hmW hrr hrow hval ho ho2 hNN
  go_enter Tryz.func29, Tryz.ntmps29
  go_wp2_with fail
  rw [← HW.out]
  refine (rgetvals_any w.heap.size row (val bs) (8 * n) N bs (N : Int) W HN.out Hrr.out Hval.out Hrow.out).mono ?_
  intro e w2 hd
  have hd' : XRDecEnd W w2 w.heap.size row bs (valRow N (val bs) (8 * n)) e := hd
  clear hd
  cases hv : valRow N (val bs) (8 * n) with
  | none =>
   rw [hv] at hd'
   obtain ⟨rfl, hm2⟩ := hd'
   have Hno : Hid (o = none) := Lib.hid (by rw [Ho2.out, hv]; rfl)
   have Hm2 := Lib.hid (HmW.out.trans hm2 (fun i hi e => by omega))
   clear hv hm2
   go_wp2_with fail
   go_ret2
   exact RdE.of_none (by rw [← Ho.out, Hno.out]) Hm2.out
  | some p =>
   obtain ⟨us, R2, rem2⟩ := p
   rw [hv] at hd'
   obtain ⟨v, rfl, hown, _, hm2⟩ := hd'
   have Hyes : Hid (o = some us) := Lib.hid (by rw [Ho2.out, hv]; rfl)
   have Hm2 := Lib.hid (HmW.out.trans hm2 (fun i hi e => by omega)); have Hown := Lib.hid (hown.mono HmW.out.size)
   clear hv hm2 hown
   go_wp2_with fail
   go_ret2
   exact RdE.of_some (by rw [← Ho.out, Hyes.out]) Hown.out Hm2.out
 by_cases h2 : tag = 2
 ·subst h2
  have Hrk : Hid (readK 2 N bs = (decS N (unw8 bs)).map (unstepsU 0)) := Lib.hid rfl
  have W0 : Hid (RWordTo w w bs (.slice none 0 0) 0 (unw8 bs).length) := Lib.hid ⟨[], Own.nil _ _ _, Nat.zero_le _, Nat.le_refl _, (fun _ h => by cases h), rfl, rfl, Mod.refl _ _⟩
  have Hs := Lib.hid hs; have Hlt := Lib.hid hlt; have Hul := Lib.hid hul; have HN := Lib.hid hNN
  clear hs hlt hul hNN
  go_enter Tryz.func29, Tryz.ntmps29
  go_wp2_with fail
  go_loopg [8, 9] (unw8 bs).length (fun l s8 s9 wr => ∃ p : Nat, s9 = .int .i64 (p : Int) ∧ RWordTo w wr bs s8 p l)
  case atStart => exact ⟨0, rfl, W0.out⟩
  case round =>
   obtain ⟨p, rfl, ws, k1, k2, k3, k4, k5, k6, k7⟩ := hrel
   have K1 := Lib.hid k1; have K3 := Lib.hid k3; have K4 := Lib.hid k4; have K5 := Lib.hid k5; have K6 := Lib.hid k6; have K7 := Lib.hid k7
   have hpn : p ≤ n := by have := Hul.out; omega
   clear k1 k2 k3 k4 k5 k6 k7 W0
   obtain ⟨k0, hk0⟩ : ∃ k0 : Nat, k0 = gk - 1 := ⟨_, rfl⟩
   have Hk0 := Lib.hid hk0
   clear hk0
   by_cases h8 : p + 8 ≤ n
   ·have hp8 : (p : Int) + 8 ≤ (n : Int) := by omega
    obtain ⟨wo, rfl⟩ : ∃ wo : World, wo = wr := ⟨_, rfl⟩
    have hdl : (bs.drop p).length = n - p := by rw [List.length_drop, Hul.out]
    have Hdl := Lib.hid hdl
    clear hdl
    go_wp2_with fail
    go_loopg [10, 11] 8 (fun l s10 s11 wq => ∃ (j V : Nat), j + l = 8 ∧ s11 = .int .i64 (j : Int) ∧ s10 = .int .u64 (V : Int) ∧ V = val ((bs.drop p).take j) ∧ wq = wo)
    case atStart => exact ⟨0, 0, rfl, rfl, rfl, rfl, rfl⟩
    case round =>
     obtain ⟨j, V, hjl, rfl, rfl, hV, rfl⟩ := hrel
     have Hjl := Lib.hid hjl; have HV := Lib.hid hV
     clear hjl hV
     by_cases hj8 : j < 8
     ·obtain ⟨r, hr⟩ : ∃ r, r = p + j := ⟨_, rfl⟩
      have hrn : r < n := by omega
      obtain ⟨ad, u, rfl, _, hb, hcb⟩ := Hs.out.at_ hrn
      rw [cells8_get] at hb
      obtain ⟨b, hbb, rfl⟩ := Option.map_eq_some_iff.1 hb
      have hb256 : b < 256 := Hlt.out b (List.mem_of_getElem? hbb)
      have hcbw : wr.cell? (ad.add r) = some (.int .u8 (b : Int)) := by
       obtain ⟨ad', hA, hbl, _⟩ := Hs.out.2 (show 0 < n by omega)
       injection hA with hA
       subst hA
       rw [K7.out.cell (a := ad.add r) (by rw [add_block]; exact hbl) (fun h => h)]
       exact hcb
      have hpj : (p : Int) + (j : Int) = (r : Int) := by omega
      have hri : (r : Int) < (n : Int) := by omega
      have hr0 : (0 : Int) ≤ (r : Int) := by omega
      have hbj : (bs.drop p)[j]? = some b := by rw [List.getElem?_drop, ← hr]; exact hbb
      have hVlt : V < 2 ^ (8 * j) := by
       have h := val_lt (bs := (bs.drop p).take j) (fun x hx => Hlt.out x (List.mem_of_mem_drop (List.mem_of_mem_take hx)))
       rw [List.length_take, Hdl.out, Nat.min_eq_left (by omega)] at h
       rw [HV.out]
       exact h
      have hVb : V < 2 ^ 56 := Nat.lt_of_lt_of_le hVlt (Nat.pow_le_pow_right (by decide) (by omega))
      have hVm : V * 256 + 256 ≤ 18446744073709551616 := by omega
      obtain ⟨y, hy⟩ : ∃ y, y = V * 256 := ⟨_, rfl⟩
      have hsh : IntKind.u64.wrap ((V : Int) * 256) = (y : Int) := by rw [IntKind.wrap_u64]; omega
      obtain ⟨z, hz⟩ : ∃ z, z = V * 256 + b := ⟨_, rfl⟩
      have hor : bits BinOp.or IntKind.u64 (y : Int) (b : Int) = (z : Int) := by rw [hy, hz]; exact or_byte hb256 hVm
      have hcvb : IntKind.u64.wrap (b : Int) = (b : Int) := by rw [IntKind.wrap_u64]; omega
      have HV2 : Hid (z = val ((bs.drop p).take (j + 1))) := Lib.hid (by rw [hz, take_succ_of hbj, val_snoc, ← HV.out])
      clear hb hbb hcb hbj hVlt hVb hVm hy hz hr
      go_wp2_with fail
      go_roundg (gk - 1)
      case measure => have := Hjl.out; omega
      case rel => exact ⟨j + 1, z, by have := Hjl.out; omega, by go_num, rfl, HV2.out, rfl⟩
     ·have hj : j = 8 := by have := Hjl.out; omega
      have hx64 : V < 2 ^ 64 := by
       have h := val_lt (bs := (bs.drop p).take 8) (fun x hx => Hlt.out x (List.mem_of_mem_drop (List.mem_of_mem_take hx)))
       rw [List.length_take, Hdl.out, Nat.min_eq_left (by omega)] at h
       rw [HV.out, hj]
       exact h
      have hst := unw8_step (bs := bs.drop p) (by rw [Hdl.out]; omega)
      rw [List.drop_drop] at hst
      have hV8 : V = val ((bs.drop p).take 8) := by rw [HV.out, hj]
      rw [← hV8] at hst
      have Hst := Lib.hid hst; have Hx64 := Lib.hid hx64
      have HR : Hid ((cellsU ws).length + 1 ≤ maxLen ∧ ((cellsU ws).length + 1) * 8 ≤ 140737488355328) := Lib.hid ⟨by rw [cellsU_length]; have := K3.out; unfold maxLen; omega, by rw [cellsU_length]; have := K3.out; omega⟩
      have hsz := K7.out.size
      clear hx64 hst hV8 hj HV
      go_wp2_with (at_builtin; refine wpList_app1 rfl (.tmp 54) (.tmp 56) _ rfl eltU rfl K1.out rfl rfl rfl HR.out.1 HR.out.2 hsz ?_; intro v4 w4 HO4 HB4)
      have HW2 : Hid (RWordTo w w4 bs v4 (p + 8) k0) := Lib.hid ⟨ws ++ [V], by rw [cellsU_snoc]; exact HO4.out, by rw [Hul.out]; exact h8, by rw [List.length_append, List.length_singleton]; have := K3.out; omega, fun x hx => by
        rcases List.mem_append.1 hx with h | h
        ·exact K4.out x h
        ·rw [List.mem_singleton.1 h]
         exact Hx64.out, by rw [K5.out, Hst.out, List.append_assoc]; rfl, by
        have h := K6.out
        rw [Hst.out, List.length_cons] at h
        have := Hk0.out
        omega, K7.out.trans (Mod.of_below HB4.out) (fun i hi h => by omega)⟩
      go_roundg k0
      case measure =>
       have h := K6.out
       rw [Hst.out, List.length_cons] at h
       have := Hk0.out
       omega
      case rel => exact ⟨p + 8, by go_num, HW2.out⟩
   ·have hp8 : ¬ (p : Int) + 8 ≤ (n : Int) := by omega
    have hnil : unw8 (bs.drop p) = [] := unw8_few (by rw [List.length_drop, Hul.out]; omega)
    have hws : unw8 bs = ws := by rw [K5.out, hnil, List.append_nil]
    obtain ⟨A1, L1, c1, hv1, HL1, hc1, hr1⟩ := own_formUN K1.out
    subst hv1
    have Hr1 := Lib.hid hr1; have Hws := Lib.hid hws
    have hL1 : L1 ≤ 1000000 := by have := HL1.out; have := K3.out; omega
    have HL1b := Lib.hid hL1
    clear hnil hws hr1 hL1 K5 K6 Hk0
    go_wp2_with fail
    refine (gets_any A1 L1 c1 wr.heap.size N (N : Int) ws wr Hr1.out (Nat.le_refl _) K4.out HL1b.out HN.out).mono ?_
    intro e w3 he
    have he' : EncE wr w3 (decS N ws) e := he
    clear he
    cases ho : decS N ws with
    | none =>
     obtain ⟨rfl, hm3⟩ := EncE.none_ he' ho
     have Hno : Hid (readK 2 N bs = none) := Lib.hid (by rw [Hrk.out, Hws.out, ho]; rfl)
     have Hm3 := Lib.hid (K7.out.trans hm3 (fun _ _ h => h))
     clear he' ho hm3
     go_wp2_with fail
     go_loopg [14, 15, 16] 0 (fun l s14 s15 s16 wq => s14 = .slice none 0 0 ∧ s15 = .int .u64 0 ∧ s16 = .int .i64 0 ∧ wq = w3)
     case atStart => exact ⟨rfl, rfl, rfl, rfl⟩
     case round =>
      obtain ⟨rfl, rfl, rfl, rfl⟩ := hrel
      go_wp2_with fail
      go_ret2
      exact RdE.of_none Hno.out Hm3.out
    | some us =>
     obtain ⟨v3, rfl, ho3, hm3⟩ := EncE.some_ he' ho
     have hu64 := decS_lt ho
     have hul := (decS_some ho).1
     obtain ⟨A3, L3, c3, rfl, HL3, hc3, hr3⟩ := own_formUN ho3
     have hL3 : L3 = N := by have := HL3.out; omega
     subst hL3
     have Hyes : Hid (readK 2 L3 bs = some (unstepsU 0 us)) := Lib.hid (by rw [Hrk.out, Hws.out, ho]; rfl)
     have Hm3 := Lib.hid (K7.out.trans hm3 (fun _ _ h => h)); have Hr3 := Lib.hid hr3; have Hu64 := Lib.hid hu64
     have B0 : Hid (RBackTo w3 w3 us 0 0 (.slice none 0 0)) := Lib.hid ⟨Own.nil _ _ _, rfl, by decide, Mod.refl _ _⟩
     clear he' ho ho3 hm3 hu64 hul hc3 hc1 hr3 K1 K3 K4 K7 Hr1 Hws HL1 HL1b
     go_wp2_with fail
     go_loopg [14, 15, 16] L3 (fun l s14 s15 s16 wq => ∃ i last : Nat, i + l = L3 ∧ s16 = .int .i64 (i : Int) ∧ s15 = .int .u64 (last : Int) ∧ RBackTo w3 wq us i last s14)
     case atStart => exact ⟨0, 0, by omega, rfl, rfl, B0.out⟩
     case round =>
      obtain ⟨i, last, hil, rfl, rfl, hP⟩ := hrel
      have Hil := Lib.hid hil; have HP := Lib.hid hP
      clear hil hP B0
      by_cases hin : i < L3
      ·obtain ⟨ad, u, rfl, hu, hcu⟩ := Hr3.out.at2 hin (Nat.le_refl _) HP.out.2.2.2 (fun _ _ h => h)
       have hu64 := Hu64.out u (List.mem_of_getElem? hu)
       have hini : (i : Int) < (L3 : Int) := by omega
       obtain ⟨z, hz⟩ : ∃ z, z = zag (u : Int) := ⟨_, rfl⟩
       have hw1 : IntKind.u64.wrap z = (un z : Int) := wrapU_un z
       obtain ⟨y, hy⟩ : ∃ y, y = un z := ⟨_, rfl⟩
       rw [← hy] at hw1
       have hl64 := HP.out.2.2.1
       have hw2 : IntKind.u64.wrap ((last : Int) + (y : Int)) = (backU last u : Int) := by
        rw [IntKind.wrap_u64]
        unfold backU
        rw [← hz, ← hy]
        show _ = (((last + y) % 18446744073709551616 : Nat) : Int)
        omega
       obtain ⟨bk, hbk⟩ : ∃ bk, bk = backU last u := ⟨_, rfl⟩
       rw [← hbk] at hw2
       have hfit : Fit64 (u : Int) := ⟨by omega, by omega⟩
       have Hfit := Lib.hid hfit; have Hz := Lib.hid hz; have Hbk := Lib.hid hbk; have Hu := Lib.hid hu
       have hlen : (cellsU (unstepsU 0 (us.take i))).length ≤ 1000000 := by rw [cellsU_length, unstepsU_len, List.length_take]; omega
       have HR : Hid ((cellsU (unstepsU 0 (us.take i))).length + 1 ≤ maxLen ∧ ((cellsU (unstepsU 0 (us.take i))).length + 1) * 8 ≤ 140737488355328) := Lib.hid ⟨by unfold maxLen; omega, by omega⟩
       have hsz := HP.out.2.2.2.size
       clear hu hu64 hz hy hl64 hbk hfit hlen
       go_wp2_with fail
       refine (rzag_any (u : Int) _ Hfit.out).mono ?_
       rintro e w4 ⟨rfl, rfl⟩
       rw [← Hz.out]
       go_wp2_with (at_builtin; refine wpList_app1 rfl (.tmp 78) (.tmp 80) _ rfl eltU rfl HP.out.1 rfl rfl rfl HR.out.1 HR.out.2 hsz ?_; intro v4 w5 HO4 HB4)
       have HP2 : Hid (RBackTo w3 w5 us (i + 1) bk v4) := Lib.hid (by
        have h := HO4.out
        rw [Hbk.out] at h ⊢
        exact HP.out.step Hu.out h HB4.out)
       go_roundg (gk - 1)
       case measure => have := Hil.out; omega
       case rel => exact ⟨i + 1, bk, by have := Hil.out; omega, by go_num, rfl, HP2.out⟩
      ·have hi : i = L3 := by have := Hil.out; omega
       obtain ⟨k1, _, _, k4⟩ := HP.out
       rw [List.take_of_length_le (by rw [HL3.out]; omega)] at k1
       have K1 := Lib.hid (k1.mono Hm3.out.size); have K4 := Lib.hid (Hm3.out.trans k4 (fun _ _ h => h))
       clear hi k1 k4 HP
       go_wp2_with fail
       go_ret2
       exact RdE.of_some Hyes.out K1.out K4.out
 by_cases h3 : tag = 3
 ·subst h3
  have hcall := lrdec_any A n cap w.heap.size N (N : Int) bs w hs (Nat.le_refl _) hlt hnc hcm hNN
  have Hcall := Lib.hid hcall
  clear hs hlt hcall hNN hul
  go_enter Tryz.func29, Tryz.ntmps29
  go_wp2_with fail
  refine Hcall.out.mono ?_
  intro e w1 he
  obtain ⟨o, hoo⟩ : ∃ o, o = readK 3 N bs := ⟨_, rfl⟩
  have he' : EncE w w1 o e := by rw [hoo]; exact he
  obtain ⟨v, rfl, he2⟩ := EncE.parts he'
  have He := Lib.hid (RdE.of_encE he2); have Hoo := Lib.hid hoo
  clear he he' he2 hoo
  go_wp2_with fail
  go_ret2
  rw [← Hoo.out]
  exact He.out
 by_cases h4 : tag = 4
 ·subst h4
  have hcall := rpdec_any A n cap w.heap.size N (N : Int) bs w hs (Nat.le_refl _) hlt hnc hcm hn hNN
  have Hcall := Lib.hid hcall
  clear hs hlt hcall hNN hul
  go_enter Tryz.func29, Tryz.ntmps29
  go_wp2_with fail
  refine Hcall.out.mono ?_
  intro e w1 he
  obtain ⟨o, hoo⟩ : ∃ o, o = readK 4 N bs := ⟨_, rfl⟩
  have he' : EncE w w1 o e := by rw [hoo]; exact he
  obtain ⟨v, rfl, he2⟩ := EncE.parts he'
  have He := Lib.hid (RdE.of_encE he2); have Hoo := Lib.hid hoo
  clear he he' he2 hoo
  go_wp2_with fail
  go_ret2
  rw [← Hoo.out]
  exact He.out
 by_cases h5 : tag = 5
 ·subst h5
  have hcall := rddec_any A n cap w.heap.size N (N : Int) bs w hs (Nat.le_refl _) hlt hnc hcm hn hNN
  have Hcall := Lib.hid hcall
  clear hs hlt hcall hNN hul
  go_enter Tryz.func29, Tryz.ntmps29
  go_wp2_with fail
  refine Hcall.out.mono ?_
  intro e w1 he
  obtain ⟨o, hoo⟩ : ∃ o, o = readK 5 N bs := ⟨_, rfl⟩
  have he' : EncE w w1 o e := by rw [hoo]; exact he
  obtain ⟨v, rfl, he2⟩ := EncE.parts he'
  have He := Lib.hid (RdE.of_encE he2); have Hoo := Lib.hid hoo
  clear he he' he2 hoo
  go_wp2_with fail
  go_ret2
  rw [← Hoo.out]
  exact He.out
 by_cases h6 : tag = 6
 ·subst h6
  have Hrk : Hid (readK 6 N bs = readSame N bs) := Lib.hid rfl
  have hcall := vrget_any A n cap _ bs w hs hlt (Nat.le_trans hnc hcm)
  have hx64 : (dec bs).1 < 2 ^ 64 := dec_lt hlt
  obtain ⟨x, hx⟩ : ∃ x, (dec bs).1 = x := ⟨_, rfl⟩
  obtain ⟨a, ha⟩ : ∃ a, (dec bs).2 = a := ⟨_, rfl⟩
  rw [hx, ha] at hcall
  have Hcall := Lib.hid hcall; have Hx := Lib.hid hx; have Ha := Lib.hid ha
  have R0 : Hid (RRepTo w w x 0 (.slice none 0 0)) := Lib.hid ⟨Own.nil _ _ _, Mod.refl _ _⟩
  clear hs hlt hcall hNN hul hx ha
  go_enter Tryz.func29, Tryz.ntmps29
  go_wp2_with fail
  refine Hcall.out.mono ?_
  rintro e w' ⟨rfl, rfl⟩
  go_wp2_with fail
  go_loopg [19, 20] N (fun l s19 s20 wr => ∃ i : Nat, i + l = N ∧ s20 = .int .i64 (i : Int) ∧ RRepTo w wr x i s19)
  case atStart => exact ⟨0, by omega, rfl, R0.out⟩
  case round =>
   obtain ⟨i, hil, rfl, hR⟩ := hrel
   have Hil := Lib.hid hil; have HRp := Lib.hid hR
   clear hil hR R0
   by_cases hin : i < N
   ·have hini : (i : Int) < (N : Int) := by omega
    have HR : Hid ((cellsU (List.replicate i x)).length + 1 ≤ maxLen ∧ ((cellsU (List.replicate i x)).length + 1) * 8 ≤ 140737488355328) := Lib.hid ⟨by rw [cellsU_length, List.length_replicate]; unfold maxLen; omega, by rw [cellsU_length, List.length_replicate]; omega⟩
    have hsz := HRp.out.2.size
    go_wp2_with (at_builtin; refine wpList_app1 rfl (.tmp 117) (.tmp 119) _ rfl eltU rfl HRp.out.1 rfl rfl rfl HR.out.1 HR.out.2 hsz ?_; intro v4 w4 HO4 HB4)
    have HR2 : Hid (RRepTo w w4 x (i + 1) v4) := Lib.hid ⟨by rw [List.replicate_succ', cellsU_snoc]; exact HO4.out, HRp.out.2.trans (Mod.of_below HB4.out) (fun i hi h => by omega)⟩
    go_roundg (gk - 1)
    case measure => have := Hil.out; omega
    case rel => exact ⟨i + 1, by have := Hil.out; omega, by go_num, HR2.out⟩
   ·have hi : i = N := by have := Hil.out; omega
    obtain ⟨k1, k2⟩ := HRp.out
    rw [hi] at k1
    have K1 := Lib.hid k1; have K2 := Lib.hid k2
    have hini : ¬ (i : Int) < (N : Int) := by omega
    clear hi k1 k2 HRp hin
    by_cases h0 : N = 0
    ·have hN0 : ((N : Int) == 0) = true := by simp; omega
     have Hyes : Hid (readK 6 N bs = some (List.replicate N x)) := Lib.hid (by rw [Hrk.out]; unfold readSame; rw [if_pos h0, h0]; rfl)
     clear h0
     go_wp2_with fail
     go_ret2
     exact RdE.of_some Hyes.out K1.out K2.out
    ·have hN0 : ((N : Int) == 0) = false := by simp; omega
     by_cases ha0 : a = 0
     ·have hai : ¬ (0 : Int) < (a : Int) := by omega
      have had : decide (0 < a) = false := by simp; omega
      have hadi : decide ((0 : Int) < (a : Int)) = false := by simp; omega
      have Hno : Hid (readK 6 N bs = none) := Lib.hid (by rw [Hrk.out]; unfold readSame; rw [if_neg h0, Ha.out, if_pos ha0])
      clear h0 ha0
      go_wp2_with fail
      go_ret2
      exact RdE.of_none Hno.out K2.out
     ·have hai : (0 : Int) < (a : Int) := by omega
      have had : decide (0 < a) = true := by simp; omega
      have hadi : decide ((0 : Int) < (a : Int)) = true := by simp; omega
      have Hyes : Hid (readK 6 N bs = some (List.replicate N x)) := Lib.hid (by rw [Hrk.out]; unfold readSame; rw [if_neg h0, Ha.out, if_neg ha0, Hx.out])
      clear h0 ha0
      go_wp2_with fail
      go_ret2
      exact RdE.of_some Hyes.out K1.out K2.out
 have b1 : (tag == 1) = false := by simp [h1]
 have b2 : (tag == 2) = false := by simp [h2]
 have b3 : (tag == 3) = false := by simp [h3]
 have b4 : (tag == 4) = false := by simp [h4]
 have b5 : (tag == 5) = false := by simp [h5]
 have b6 : (tag == 6) = false := by simp [h6]
 have Hno : Hid (readK tag N bs = none) := Lib.hid (readK_other h1 h2 h3 h4 h5 h6)
 clear hs hlt h1 h2 h3 h4 h5 h6 hNN hul
 go_enter Tryz.func29, Tryz.ntmps29
 go_wp2_with fail
 go_ret2
 exact RdE.of_none Hno.out (Mod.refl _ _)
end Go.Proofs.YtmeilddngohccaaGreatDoor

/- The document's own times are read: difference, GetTimes. -/
namespace Go.Proofs.YtmeilddngohccaaGreatDoor
open Go.RowKit

def RMarkTo (w wr : World) (g row : Nat) (bs : List Nat) (s s' : Option (Nat × Nat)) (l f : Nat) : Prop := markO l f s' = markO 4 0 s ∧ RRdO wr g row bs s' ∧ Mod (fun i => i = g) w wr
def RMarkEnd (w wr : World) (g row : Nat) (bs : List Nat) (s : Option (Nat × Nat)) (f : Nat) : Prop := f = formO s ∧ RRdO wr g row bs (markO 4 0 s).2 ∧ Mod (fun i => i = g) w wr
theorem RMarkTo.stop {w wr w1 : World} {g row : Nat} {bs : List Nat} {s s' : Option (Nat × Nat)} {l f : Nat} (h : RMarkTo w wr g row bs s s' (l + 1) f) (hne : ¬ (getO 1 s').1 = 1) (h1 : RRdO w1 g row bs (getO 1 s').2) (hm : Mod (fun i => i = g) wr w1) : RMarkEnd w w1 g row bs s f := by
 have e : markO (l + 1) f s' = (f, (getO 1 s').2) := by
  show (if (getO 1 s').1 = 1 then markO l (f + 1) (getO 1 s').2 else (f, (getO 1 s').2)) = _
  rw [if_neg hne]
 have e2 := h.1
 rw [e] at e2
 refine ⟨?_, ?_, h.2.2.trans hm (fun _ _ h => h)⟩
 ·unfold formO; rw [← e2]
 ·rw [← e2]; exact h1
theorem RMarkTo.next {w wr w1 : World} {g row : Nat} {bs : List Nat} {s s' : Option (Nat × Nat)} {l f : Nat} (h : RMarkTo w wr g row bs s s' (l + 1) f) (hne : (getO 1 s').1 = 1) (h1 : RRdO w1 g row bs (getO 1 s').2) (hm : Mod (fun i => i = g) wr w1) : RMarkTo w w1 g row bs s (getO 1 s').2 l (f + 1) := by
 have e : markO (l + 1) f s' = markO l (f + 1) (getO 1 s').2 := by
  show (if (getO 1 s').1 = 1 then markO l (f + 1) (getO 1 s').2 else (f, (getO 1 s').2)) = _
  rw [if_pos hne]
 exact ⟨e ▸ h.1, h1, h.2.2.trans hm (fun _ _ h => h)⟩
theorem RMarkTo.full {w wr : World} {g row : Nat} {bs : List Nat} {s s' : Option (Nat × Nat)} {f : Nat} (h : RMarkTo w wr g row bs s s' 0 f) : RMarkEnd w wr g row bs s f := by
 have e2 : (f, s') = markO 4 0 s := h.1
 refine ⟨?_, ?_, h.2.2⟩
 ·unfold formO; rw [← e2]
 ·rw [← e2]; exact h.2.1
def RDiffEnd (w wr : World) (g row : Nat) (bs : List Nat) (s : Option (Nat × Nat)) (e : Ending) : Prop :=
 e = .returned (.tuple #[.int .i64 (diffO s), .bool (decide (kindN (diffO s) = sz (formO s)))]) ∧ RRdO wr g row bs (behindO s) ∧ Mod (fun i => i = g) w wr
theorem small_cast {u n : Nat} (h : u < n) (hn : n ≤ 4096) : wrap64 (u : Int) = (u : Int) := IntWalk.wrap64_in _ (by omega)
/-- What the last step tells. -/
theorem rdiff_end {w w1 w2 : World} {g row h : Nat} {bs : List Nat} {s : Option (Nat × Nat)} {d : Int} {b : Bool} (hd : diffO s = d) (hf : formO s = h) (hb : decide (kindN d = sz h) = b) (h1 : RRdO w2 g row bs (behindO s)) (hm : Mod (fun i => i = g) w w2) (hw : w2 = w1) :
  RDiffEnd w w1 g row bs s (.returned (.tuple #[.int .i64 d, .bool b])) := by
 subst hw
 refine ⟨?_, h1, hm⟩
 rw [hd, hf, hb]
set_option maxHeartbeats 4000000 in
set_option maxRecDepth 100000 in
theorem rdiff_o (g row : Nat) (bs : List Nat) (s : Option (Nat × Nat)) (w : World) (h : RRdO w g row bs s) :
  Calls Tryz.prog 44 #[.pointer (some ⟨g, 0, none⟩)] w fun e w' => RDiffEnd w w' g row bs s e := by
 have H0 : Hid (RMarkTo w w g row bs s s 4 0) := Lib.hid ⟨rfl, h, Mod.refl _ _⟩
 have Hlt := Lib.hid (bitsO_lt s h.small)
 clear h
 go_enter Tryz.func44, Tryz.ntmps44
 go_upto_block 0 with fail
 go_cut [4] (fun s4 wc => ∃ f : Nat, s4 = .int .i64 (f : Int) ∧ RMarkEnd w wc g row bs s f)
 case first =>
  go_wp2_with fail
  go_loopg [4] 4 (fun l s4 wr => ∃ f s', f + l = 4 ∧ s4 = .int .i64 (f : Int) ∧ RMarkTo w wr g row bs s s' l f)
  case atStart => exact ⟨0, s, rfl, rfl, H0.out⟩
  case round =>
   obtain ⟨f, s', hfl, rfl, hM⟩ := hrel
   have HM := Lib.hid hM; have Hfl := Lib.hid hfl
   clear hM hfl H0
   by_cases hl0 : gk = 0
   ·have hf : ¬ f < 4 := by have := Hfl.out; omega
    subst hl0
    go_wp2_with fail
    go_meet
    case rel => exact ⟨f, rfl, HM.out.full⟩
   ·obtain ⟨l, rfl⟩ : ∃ l, gk = l + 1 := ⟨gk - 1, by omega⟩
    have hf : f < 4 := by have := Hfl.out; omega
    clear hl0
    go_wp2_with fail
    refine (rget_o g row 1 1 bs s' _ rfl (by decide) HM.out.2.1).mono ?_
    rintro e w1 ⟨rfl, h1, hm⟩
    have H1 := Lib.hid h1; have Hm := Lib.hid hm
    clear h1 hm
    by_cases hb : (getO 1 s').1 = 1
    ·have N1 := Lib.hid (HM.out.next hb H1.out Hm.out)
     rw [hb]
     clear hb H1 Hm HM
     go_wp2_with fail
     go_roundg l
     case measure => omega
     case rel => exact ⟨f + 1, _, by have := Hfl.out; omega, by go_num, N1.out⟩
    ·have N1 := Lib.hid (HM.out.stop hb H1.out Hm.out)
     have hb2 : ((((getO 1 s').1 : Nat) : Int) == 1) = false := by simp; omega
     clear hb H1 Hm HM
     go_wp2_with fail
     go_meet
     case rel => exact ⟨f, rfl, N1.out⟩
 case rest =>
  obtain ⟨f, rfl, hf, h1, hm⟩ := hcut
  have hf4 := formO_le s
  rw [← hf] at hf4
  have Hf := Lib.hid hf.symm
  have hwA : Hid (Mod (fun _ => False) wc (wc.alloc (.cells #[.int .i64 0, .int .i64 7, .int .i64 9, .int .i64 12, .int .i64 64] 103))) := Lib.hid ((Mod.refl _ _).alloc _)
  have H1 := Lib.hid (h1.mod hwA.out (fun h => h) (fun _ h => h)); have Hm := Lib.hid (hm.trans hwA.out (fun _ _ h => h.elim))
  have hi : f = 0 ∨ f = 1 ∨ f = 2 ∨ f = 3 ∨ f = 4 := by omega
  clear hf h1 hm H0 hwA hf4
  rcases hi with rfl | rfl | rfl | rfl | rfl
  ·go_wp2_with fail
   refine (rget_o g row 0 0 bs _ _ rfl (by decide) H1.out).mono ?_
   rintro e w2 ⟨rfl, h2, hm2⟩
   obtain ⟨u, hu⟩ : ∃ u, u = (getO 0 (markO 4 0 s).2).1 := ⟨_, rfl⟩
   rw [← hu]
   have hbit : bitsO s = getO 0 (markO 4 0 s).2 := by unfold bitsO; rw [Hf.out]; rfl
   have hul : u < 2 ^ 0 := by have := Hlt.out; rw [hbit, Hf.out] at this; rw [hu]; exact this
   have hdf : diffO s = sgn 0 u := by unfold diffO; rw [hbit, Hf.out, hu]; rfl
   have Hdf := Lib.hid hdf; have Hul := Lib.hid hul
   have H2 : Hid (RRdO w2 g row bs (behindO s)) := Lib.hid (by unfold behindO; rw [hbit]; exact h2)
   have Hm2 := Lib.hid (Hm.out.trans hm2 (fun _ _ h => h))
   clear hu hbit hdf h2 hm2 H1 Hm
   have hu0 : u = 0 := by omega
   subst hu0
   clear hul
   go_wp2_with fail
   refine (kind_any 0 _).mono ?_
   rintro e w3 ⟨rfl, rfl⟩
   by_cases hk : kindN 0 = 0
   ·have hk2 : ((kindN 0 : Int) == 0) = true := by rw [hk]; rfl
    go_wp2_with fail
    go_ret2
    exact rdiff_end (Hdf.out.trans (by decide)) Hf.out (decide_eq_true hk) H2.out Hm2.out rfl
   ·have hk2 : ((kindN 0 : Int) == 0) = false := by simp; omega
    go_wp2_with fail
    go_ret2
    exact rdiff_end (Hdf.out.trans (by decide)) Hf.out (decide_eq_false hk) H2.out Hm2.out rfl
  ·go_wp2_with fail
   refine (rget_o g row 7 7 bs _ _ rfl (by decide) H1.out).mono ?_
   rintro e w2 ⟨rfl, h2, hm2⟩
   obtain ⟨u, hu⟩ : ∃ u, u = (getO 7 (markO 4 0 s).2).1 := ⟨_, rfl⟩
   rw [← hu]
   have hbit : bitsO s = getO 7 (markO 4 0 s).2 := by unfold bitsO; rw [Hf.out]; rfl
   have hul : u < 2 ^ 7 := by have := Hlt.out; rw [hbit, Hf.out] at this; rw [hu]; exact this
   have hdf : diffO s = sgn 7 u := by unfold diffO; rw [hbit, Hf.out, hu]; rfl
   have Hdf := Lib.hid hdf; have Hul := Lib.hid hul
   have H2 : Hid (RRdO w2 g row bs (behindO s)) := Lib.hid (by unfold behindO; rw [hbit]; exact h2)
   have Hm2 := Lib.hid (Hm.out.trans hm2 (fun _ _ h => h))
   clear hu hbit hdf h2 hm2 H1 Hm
   have hcv : wrap64 (u : Int) = (u : Int) := small_cast hul (by decide)
   have hul2 : u < 128 := hul
   by_cases hbit : 64 ≤ u
   ·have hq : (u : Int) / 64 = 1 := by omega
    have Hd : Hid (sgn 7 u = (u : Int) - 128) := Lib.hid (by
     unfold sgn
     rw [if_neg (by decide), if_pos ⟨by decide, by show u / 64 % 2 = 1; omega⟩]
     rfl)
    have hneg : wrap64 ((u : Int) - 128) = (u : Int) - 128 := IntWalk.wrap64_in _ (by omega)
    obtain ⟨d, hd⟩ : ∃ d, (u : Int) - 128 = d := ⟨_, rfl⟩
    have Hd2 : Hid (diffO s = d) := Lib.hid (by rw [Hdf.out, Hd.out, hd])
    rw [hd] at hneg
    clear hul Hd Hdf
    go_wp2_with fail
    refine (kind_any d _).mono ?_
    rintro e w3 ⟨rfl, rfl⟩
    by_cases hk : kindN d = 7
    ·have hk2 : ((kindN d : Int) == 7) = true := by rw [hk]; rfl
     go_wp2_with fail
     go_ret2
     exact rdiff_end Hd2.out Hf.out (decide_eq_true hk) H2.out Hm2.out rfl
    ·have hk2 : ((kindN d : Int) == 7) = false := by simp; omega
     go_wp2_with fail
     go_ret2
     exact rdiff_end Hd2.out Hf.out (decide_eq_false hk) H2.out Hm2.out rfl

   ·have hq : (u : Int) / 64 = 0 := by omega
    have Hd : Hid (diffO s = (u : Int)) := Lib.hid (by
     rw [Hdf.out]
     unfold sgn
     rw [if_neg (by decide), if_neg (fun h => by have h2 : u / 64 % 2 = 1 := h.2; omega)])
    clear hul Hdf
    go_wp2_with fail
    refine (kind_any (u : Int) _).mono ?_
    rintro e w3 ⟨rfl, rfl⟩
    by_cases hk : kindN (u : Int) = 7
    ·have hk2 : ((kindN (u : Int) : Int) == 7) = true := by rw [hk]; rfl
     go_wp2_with fail
     go_ret2
     exact rdiff_end Hd.out Hf.out (decide_eq_true hk) H2.out Hm2.out rfl
    ·have hk2 : ((kindN (u : Int) : Int) == 7) = false := by simp; omega
     go_wp2_with fail
     go_ret2
     exact rdiff_end Hd.out Hf.out (decide_eq_false hk) H2.out Hm2.out rfl
  ·go_wp2_with fail
   refine (rget_o g row 9 9 bs _ _ rfl (by decide) H1.out).mono ?_
   rintro e w2 ⟨rfl, h2, hm2⟩
   obtain ⟨u, hu⟩ : ∃ u, u = (getO 9 (markO 4 0 s).2).1 := ⟨_, rfl⟩
   rw [← hu]
   have hbit : bitsO s = getO 9 (markO 4 0 s).2 := by unfold bitsO; rw [Hf.out]; rfl
   have hul : u < 2 ^ 9 := by have := Hlt.out; rw [hbit, Hf.out] at this; rw [hu]; exact this
   have hdf : diffO s = sgn 9 u := by unfold diffO; rw [hbit, Hf.out, hu]; rfl
   have Hdf := Lib.hid hdf; have Hul := Lib.hid hul
   have H2 : Hid (RRdO w2 g row bs (behindO s)) := Lib.hid (by unfold behindO; rw [hbit]; exact h2)
   have Hm2 := Lib.hid (Hm.out.trans hm2 (fun _ _ h => h))
   clear hu hbit hdf h2 hm2 H1 Hm
   have hcv : wrap64 (u : Int) = (u : Int) := small_cast hul (by decide)
   have hul2 : u < 512 := hul
   by_cases hbit : 256 ≤ u
   ·have hq : (u : Int) / 256 = 1 := by omega
    have Hd : Hid (sgn 9 u = (u : Int) - 512) := Lib.hid (by
     unfold sgn
     rw [if_neg (by decide), if_pos ⟨by decide, by show u / 256 % 2 = 1; omega⟩]
     rfl)
    have hneg : wrap64 ((u : Int) - 512) = (u : Int) - 512 := IntWalk.wrap64_in _ (by omega)
    obtain ⟨d, hd⟩ : ∃ d, (u : Int) - 512 = d := ⟨_, rfl⟩
    have Hd2 : Hid (diffO s = d) := Lib.hid (by rw [Hdf.out, Hd.out, hd])
    rw [hd] at hneg
    clear hul Hd Hdf
    go_wp2_with fail
    refine (kind_any d _).mono ?_
    rintro e w3 ⟨rfl, rfl⟩
    by_cases hk : kindN d = 9
    ·have hk2 : ((kindN d : Int) == 9) = true := by rw [hk]; rfl
     go_wp2_with fail
     go_ret2
     exact rdiff_end Hd2.out Hf.out (decide_eq_true hk) H2.out Hm2.out rfl
    ·have hk2 : ((kindN d : Int) == 9) = false := by simp; omega
     go_wp2_with fail
     go_ret2
     exact rdiff_end Hd2.out Hf.out (decide_eq_false hk) H2.out Hm2.out rfl

   ·have hq : (u : Int) / 256 = 0 := by omega
    have Hd : Hid (diffO s = (u : Int)) := Lib.hid (by
     rw [Hdf.out]
     unfold sgn
     rw [if_neg (by decide), if_neg (fun h => by have h2 : u / 256 % 2 = 1 := h.2; omega)])
    clear hul Hdf
    go_wp2_with fail
    refine (kind_any (u : Int) _).mono ?_
    rintro e w3 ⟨rfl, rfl⟩
    by_cases hk : kindN (u : Int) = 9
    ·have hk2 : ((kindN (u : Int) : Int) == 9) = true := by rw [hk]; rfl
     go_wp2_with fail
     go_ret2
     exact rdiff_end Hd.out Hf.out (decide_eq_true hk) H2.out Hm2.out rfl
    ·have hk2 : ((kindN (u : Int) : Int) == 9) = false := by simp; omega
     go_wp2_with fail
     go_ret2
     exact rdiff_end Hd.out Hf.out (decide_eq_false hk) H2.out Hm2.out rfl
  ·go_wp2_with fail
   refine (rget_o g row 12 12 bs _ _ rfl (by decide) H1.out).mono ?_
   rintro e w2 ⟨rfl, h2, hm2⟩
   obtain ⟨u, hu⟩ : ∃ u, u = (getO 12 (markO 4 0 s).2).1 := ⟨_, rfl⟩
   rw [← hu]
   have hbit : bitsO s = getO 12 (markO 4 0 s).2 := by unfold bitsO; rw [Hf.out]; rfl
   have hul : u < 2 ^ 12 := by have := Hlt.out; rw [hbit, Hf.out] at this; rw [hu]; exact this
   have hdf : diffO s = sgn 12 u := by unfold diffO; rw [hbit, Hf.out, hu]; rfl
   have Hdf := Lib.hid hdf; have Hul := Lib.hid hul
   have H2 : Hid (RRdO w2 g row bs (behindO s)) := Lib.hid (by unfold behindO; rw [hbit]; exact h2)
   have Hm2 := Lib.hid (Hm.out.trans hm2 (fun _ _ h => h))
   clear hu hbit hdf h2 hm2 H1 Hm
   have hcv : wrap64 (u : Int) = (u : Int) := small_cast hul (by decide)
   have hul2 : u < 4096 := hul
   by_cases hbit : 2048 ≤ u
   ·have hq : (u : Int) / 2048 = 1 := by omega
    have Hd : Hid (sgn 12 u = (u : Int) - 4096) := Lib.hid (by
     unfold sgn
     rw [if_neg (by decide), if_pos ⟨by decide, by show u / 2048 % 2 = 1; omega⟩]
     rfl)
    have hneg : wrap64 ((u : Int) - 4096) = (u : Int) - 4096 := IntWalk.wrap64_in _ (by omega)
    obtain ⟨d, hd⟩ : ∃ d, (u : Int) - 4096 = d := ⟨_, rfl⟩
    have Hd2 : Hid (diffO s = d) := Lib.hid (by rw [Hdf.out, Hd.out, hd])
    rw [hd] at hneg
    clear hul Hd Hdf
    go_wp2_with fail
    refine (kind_any d _).mono ?_
    rintro e w3 ⟨rfl, rfl⟩
    by_cases hk : kindN d = 12
    ·have hk2 : ((kindN d : Int) == 12) = true := by rw [hk]; rfl
     go_wp2_with fail
     go_ret2
     exact rdiff_end Hd2.out Hf.out (decide_eq_true hk) H2.out Hm2.out rfl
    ·have hk2 : ((kindN d : Int) == 12) = false := by simp; omega
     go_wp2_with fail
     go_ret2
     exact rdiff_end Hd2.out Hf.out (decide_eq_false hk) H2.out Hm2.out rfl

   ·have hq : (u : Int) / 2048 = 0 := by omega
    have Hd : Hid (diffO s = (u : Int)) := Lib.hid (by
     rw [Hdf.out]
     unfold sgn
     rw [if_neg (by decide), if_neg (fun h => by have h2 : u / 2048 % 2 = 1 := h.2; omega)])
    clear hul Hdf
    go_wp2_with fail
    refine (kind_any (u : Int) _).mono ?_
    rintro e w3 ⟨rfl, rfl⟩
    by_cases hk : kindN (u : Int) = 12
    ·have hk2 : ((kindN (u : Int) : Int) == 12) = true := by rw [hk]; rfl
     go_wp2_with fail
     go_ret2
     exact rdiff_end Hd.out Hf.out (decide_eq_true hk) H2.out Hm2.out rfl
    ·have hk2 : ((kindN (u : Int) : Int) == 12) = false := by simp; omega
     go_wp2_with fail
     go_ret2
     exact rdiff_end Hd.out Hf.out (decide_eq_false hk) H2.out Hm2.out rfl
  ·go_wp2_with fail
   refine (rget_o g row 64 64 bs _ _ rfl (by decide) H1.out).mono ?_
   rintro e w2 ⟨rfl, h2, hm2⟩
   obtain ⟨u, hu⟩ : ∃ u, u = (getO 64 (markO 4 0 s).2).1 := ⟨_, rfl⟩
   rw [← hu]
   have hbit : bitsO s = getO 64 (markO 4 0 s).2 := by unfold bitsO; rw [Hf.out]; rfl
   have hul : u < 2 ^ 64 := by have := Hlt.out; rw [hbit, Hf.out] at this; rw [hu]; exact this
   have hdf : diffO s = sgn 64 u := by unfold diffO; rw [hbit, Hf.out, hu]; rfl
   have Hdf := Lib.hid hdf; have Hul := Lib.hid hul
   have H2 : Hid (RRdO w2 g row bs (behindO s)) := Lib.hid (by unfold behindO; rw [hbit]; exact h2)
   have Hm2 := Lib.hid (Hm.out.trans hm2 (fun _ _ h => h))
   clear hu hbit hdf h2 hm2 H1 Hm
   have hcv : wrap64 (u : Int) = sg u := by rw [wrap_sg, un_nat (by rw [M64_pow]; exact hul)]
   obtain ⟨d, hd⟩ : ∃ d, d = sg u := ⟨_, rfl⟩
   rw [← hd] at hcv
   have Hd := Lib.hid hd
   clear hul hd
   go_wp2_with fail
   refine (kind_any d _).mono ?_
   rintro e w3 ⟨rfl, rfl⟩
   by_cases hk : kindN d = 64
   ·have hk2 : ((kindN d : Int) == 64) = true := by rw [hk]; rfl
    go_wp2_with fail
    go_ret2
    exact rdiff_end (Hdf.out.trans (by rw [Hd.out]; rfl)) Hf.out (decide_eq_true hk) H2.out Hm2.out rfl
   ·have hk2 : ((kindN d : Int) == 64) = false := by simp; omega
    go_wp2_with fail
    go_ret2
    exact rdiff_end (Hdf.out.trans (by rw [Hd.out]; rfl)) Hf.out (decide_eq_false hk) H2.out Hm2.out rfl
end Go.Proofs.YtmeilddngohccaaGreatDoor

/- The document's own times are read: GetTimes. -/
namespace Go.Proofs.YtmeilddngohccaaGreatDoor
open Go.RowKit

theorem held4_any (n : Int) (k : Nat) (w : World) (hk : max 0 (min n 65535) = (k : Int)) :
  Calls Tryz.prog 42 #[.int .i64 n] w fun e w' => e = .returned (.int .i64 (k : Int)) ∧ w = w' := by
 obtain ⟨mx, hmx, hmx2⟩ : ∃ mx : Int, (if n < 0 then (0 : Int) else n) = mx ∧ mx = max n 0 := ⟨_, rfl, by split <;> omega⟩
 have hmn : (if 65535 < mx then (65535 : Int) else mx) = (k : Int) := by split <;> omega
 clear hk hmx2
 go_enter Tryz.func42, Tryz.ntmps42
 go_wp2
 go_ret
 exact ⟨rfl, rfl⟩
def RDecEnd (w w' : World) (g row : Nat) (bs : List Nat) (o : Option (List Int × Nat × Nat)) (e : Ending) : Prop :=
 match o with
 | some (xs, R, rem) => ∃ v, e = .returned (.tuple #[v, .bool true]) ∧ Own w.heap.size w' 2 v (cellsI xs) ∧ RRdO w' g row bs (some (R, rem)) ∧ Mod (fun i => i = g) w w'
 | none => e = .returned (.tuple #[.slice none 0 0, .bool false]) ∧ Mod (fun i => i = g) w w'
def RDec1 (w wr : World) (g row : Nat) (bs : List Nat) (k R rem i : Nat) (v : Value) (last : Nat) (s : Option (Nat × Nat)) : Prop :=
 ∃ xs, Own w.heap.size wr 2 v (cellsI xs) ∧ RRdO wr g row bs s ∧ Mod (fun i => i = g) w wr ∧ xs.length = i ∧ last < M64 ∧ (i = 0 → xs = [] ∧ last = 0 ∧ s = some (R, rem)) ∧
  (0 < i → ∃ prev, xs[i - 1]? = some prev ∧ (s = none → rdRow k R rem = none) ∧ ∀ R' rem', s = some (R', rem') → rdRow k R rem = (rdTimes (k - i) prev last R' rem').map fun p => (xs ++ p.1, p.2))
theorem RDec1.mk {w w1 w2 : World} {g row : Nat} {bs : List Nat} {k R rem i : Nat} {v2 : Value} {x : Int} {last' : Nat} {s' : Option (Nat × Nat)} {xs : List Int} (hgl : g < w.heap.size) (hrow : row < w.heap.size)
  (h1 : RRdO w1 g row bs s') (hm : Mod (fun i => i = g) w w1) (hown : Own w.heap.size w2 2 v2 (cellsI xs ++ [.int .i64 x])) (hb : Below w.heap.size w1 w2) (hxl : xs.length = i) (hl : last' < M64)
  (hn : (s' = none → rdRow k R rem = none) ∧ ∀ R' rem', s' = some (R', rem') → rdRow k R rem = (rdTimes (k - (i + 1)) x last' R' rem').map fun p => ((xs ++ [x]) ++ p.1, p.2)) :
  RDec1 w w2 g row bs k R rem (i + 1) v2 last' s' := by
 refine ⟨xs ++ [x], ?_, h1.mod (Mod.of_below hb) (by omega) (fun _ => by omega), hm.trans (Mod.of_below hb) (fun i hi h => by omega), by simp [hxl], hl, fun h => by omega, fun _ => ⟨x, ?_, hn⟩⟩
 ·rw [cellsI_snoc]
  exact hown
 ·rw [Nat.add_sub_cancel, List.getElem?_append_right (by omega), hxl, Nat.sub_self]
  rfl
/-- The step of a difference that was read, or not, as the document goes on. -/
theorem rdRow_next {k R rem i last : Nat} {prev : Int} {xs : List Int} {s : Option (Nat × Nat)} (hs : s.isSome = true) (hi : i < k) (hk : kindN (diffO s) = sz (formO s))
  (h : ∀ R' rem', s = some (R', rem') → rdRow k R rem = (rdTimes (k - i) prev last R' rem').map fun p => (xs ++ p.1, p.2)) :
  (behindO s = none → rdRow k R rem = none) ∧ ∀ R' rem', behindO s = some (R', rem') → rdRow k R rem = (rdTimes (k - (i + 1)) (nextX prev (nextL last (diffO s))) (nextL last (diffO s)) R' rem').map fun p => ((xs ++ [nextX prev (nextL last (diffO s))]) ++ p.1, p.2) := by
 have hf : formO s = hd (diffO s) := by
  rw [kind_hd] at hk
  exact (sz_inj (hd_le _) (formO_le s) hk).symm
 cases s with
 | none => cases hs
 | some p =>
  obtain ⟨R0, rem0⟩ := p
  have e1 := h R0 rem0 rfl
  obtain ⟨d1, d2⟩ := rdDiff_O R0 rem0
  obtain ⟨j, hj⟩ : ∃ j, k - i = j + 1 := ⟨k - i - 1, by omega⟩
  cases hd' : rdDiff R0 rem0 with
  | none =>
   have hb : behindO (some (R0, rem0)) = none := by
    rcases d2 hd' with h2 | h2
    ·exact h2
    ·exact absurd hf h2
   refine ⟨fun _ => ?_, fun R' rem' h2 => (by rw [hb] at h2; cases h2)⟩
   rw [e1, hj, rdTimes_more.2 hd']
   rfl
  | some q =>
   obtain ⟨d, R2, rem2⟩ := q
   obtain ⟨c1, c2, c3⟩ := d1 d R2 rem2 hd'
   refine ⟨fun h2 => (by rw [c2] at h2; cases h2), fun R' rem' h2 => ?_⟩
   rw [c2] at h2
   injection h2 with h2
   injection h2 with h3 h4
   subst h3 h4
   rw [e1, hj, rdTimes_more.1 d R2 rem2 hd', c1, show k - (i + 1) = j by omega, Option.map_map]
   congr 1
   funext p
   simp
theorem rdRow_stop {k R rem i last : Nat} {prev : Int} {xs : List Int} {s : Option (Nat × Nat)} (hs : s.isSome = true) (hi : i < k) (hk : ¬ kindN (diffO s) = sz (formO s))
  (h : ∀ R' rem', s = some (R', rem') → rdRow k R rem = (rdTimes (k - i) prev last R' rem').map fun p => (xs ++ p.1, p.2)) : rdRow k R rem = none := by
 cases s with
 | none => cases hs
 | some p =>
  obtain ⟨R0, rem0⟩ := p
  have e1 := h R0 rem0 rfl
  obtain ⟨d1, d2⟩ := rdDiff_O R0 rem0
  obtain ⟨j, hj⟩ : ∃ j, k - i = j + 1 := ⟨k - i - 1, by omega⟩
  have : rdDiff R0 rem0 = none := by
   cases hd' : rdDiff R0 rem0 with
   | none => rfl
   | some q =>
    obtain ⟨d, R2, rem2⟩ := q
    obtain ⟨c1, c2, c3⟩ := d1 d R2 rem2 hd'
    exact absurd (by rw [kind_hd, c3, c1]) hk
  rw [e1, hj, rdTimes_more.2 this]
  rfl
theorem nextL_u (last : Nat) (d : Int) : IntKind.u64.wrap ((last : Int) + (un d : Int)) = (nextL last d : Int) := by
 rw [IntKind.wrap_u64]
 unfold nextL
 have e : ((M64 : Nat) : Int) = 18446744073709551616 := rfl
 rw [Int.natCast_emod, e, Int.natCast_add]
theorem nextX_u (prev : Int) (last : Nat) : wrap64 (IntKind.u64.wrap ((un prev : Int) + (last : Int))) = nextX prev last := by
 have e : ((M64 : Nat) : Int) = 18446744073709551616 := rfl
 have h : IntKind.u64.wrap ((un prev : Int) + (last : Int)) = (((un prev + last) % M64 : Nat) : Int) := by rw [IntKind.wrap_u64, Int.natCast_emod, e, Int.natCast_add]
 rw [h, wrap_sg, un_nat (Nat.mod_lt _ (by decide))]
 rfl
set_option maxHeartbeats 2000000 in
set_option maxRecDepth 100000 in
theorem gettimes_any (g row R rem k : Nat) (bs : List Nat) (n : Int) (w : World) (hk : max 0 (min n 65535) = (k : Int)) (hr : RRd w g row bs R rem true) (hR : R < 2 ^ rem) (hrow : row < w.heap.size) :
  Calls Tryz.prog 28 #[.pointer (some ⟨g, 0, none⟩), .int .i64 n] w fun e w' => RDecEnd w w' g row bs (rdRow k R rem) e := by
 have H0 : Hid (RDec1 w w g row bs k R rem 0 (.slice none 0 0) 0 (some (R, rem))) := Lib.hid ⟨[], Own.nil _ _ _, ⟨hr, hR⟩, Mod.refl _ _, rfl, by decide, fun _ => ⟨rfl, rfl, rfl⟩, fun h => by omega⟩
 have hgl := Lib.hid hr.lt'
 have Hrow := Lib.hid hrow; have HR := Lib.hid hR; have Hk := Lib.hid hk
 have hk65 : k ≤ 65535 := by omega
 clear hr hR hrow hk
 go_enter Tryz.func28, Tryz.ntmps28
 go_wp2_with fail
 refine (held4_any n k _ Hk.out).mono ?_
 rintro e w' ⟨rfl, rfl⟩
 clear Hk
 go_wp2_with fail
 go_loopg [6, 7, 8] k (fun l s6 s7 s8 wr => ∃ (i last : Nat) (s : Option (Nat × Nat)), i + l = k ∧ s8 = .int .i64 (i : Int) ∧ s7 = .int .u64 (last : Int) ∧ RDec1 w wr g row bs k R rem i s6 last s)
 case atStart => exact ⟨0, 0, _, by omega, rfl, rfl, H0.out⟩
 case round =>
  obtain ⟨i, last, s, hil, rfl, rfl, hD⟩ := hrel
  have HD := Lib.hid hD; have Hil := Lib.hid hil
  clear hD hil H0
  obtain ⟨xs, hown, hro, hm, hxl, hl64, hi0, hi1⟩ := HD.out
  have Hro := Lib.hid hro; have Hm := Lib.hid hm; have Hown := Lib.hid hown; have Hxl := Lib.hid hxl
  have hfl := hro.flag
  clear hown hro hm hxl
  by_cases hin : i < k
  ·cases hs : s.isSome with
   | false =>
    rw [hs] at hfl
    have hsn : s = none := by
     cases s with
     | none => rfl
     | some p => cases hs
    have Hnone : Hid (rdRow k R rem = none) := Lib.hid (by
     rcases Nat.eq_zero_or_pos i with h0 | h0
     ·have := (hi0 h0).2.2
      rw [hsn] at this
      cases this
     ·obtain ⟨_, _, h2, _⟩ := hi1 h0
      exact h2 hsn)
    clear hi0 hi1 hs hsn
    go_wp2_with fail
    go_ret2
    unfold RDecEnd
    rw [Hnone.out]
    exact ⟨rfl, Hm.out⟩
   | true =>
    rw [hs] at hfl
    have Hs := Lib.hid hs
    clear hs
    by_cases h0 : i = 0
    ·obtain ⟨rfl, rfl, rfl⟩ := hi0 h0
     subst h0
     clear hi0 hi1
     go_wp2_with fail
     refine (rget_o g row 64 64 bs _ _ rfl (by decide) Hro.out).mono ?_
     rintro e w1 ⟨rfl, h1, hm1⟩
     obtain ⟨u, hu⟩ : ∃ u, u = (getO 64 (some (R, rem))).1 := ⟨_, rfl⟩
     have hu64 : u < 2 ^ 64 := by rw [hu]; exact getO_lt HR.out 64
     have hcv : wrap64 (u : Int) = sg u := by rw [wrap_sg, un_nat (by rw [M64_pow]; exact hu64)]
     have hN : Hid (((getO 64 (some (R, rem))).2 = none → rdRow k R rem = none) ∧ ∀ R' rem', (getO 64 (some (R, rem))).2 = some (R', rem') → rdRow k R rem = (rdTimes (k - (0 + 1)) (sg u) 0 R' rem').map fun p => (([] ++ [sg u]) ++ p.1, p.2)) :=
      Lib.hid ⟨rdRow_first hin, fun R' rem' h => by rw [hu]; exact rdRow_first2 hin h⟩
     rw [← hu]
     have Hown1 : Hid (Own w.heap.size w1 2 u6 (cellsI [])) := Lib.hid (hm1.owns Hown.out (fun k hk e => by have := (Hown.out.block k hk).1; have := hgl.out; omega))
     have H1 := Lib.hid h1; have Hm1 := Lib.hid (Hm.out.trans hm1 (fun _ _ h => h))
     have hsz := Hm1.out.size
     have hr1 : (cellsI []).length + 1 ≤ maxLen := by unfold maxLen; decide
     have hr2 : ((cellsI []).length + 1) * 8 ≤ 140737488355328 := by decide
     clear hu hu64 h1 hm1 hfl
     go_wp2_with (at_builtin; refine wpList_app1 rfl (.tmp 27) (.tmp 31) _ rfl elt64 rfl Hown1.out rfl rfl rfl hr1 hr2 hsz ?_; intro v' w2 HO HB)
     have HD2 : Hid (RDec1 w w2 g row bs k R rem (0 + 1) v' 0 (getO 64 (some (R, rem))).2) := Lib.hid (RDec1.mk hgl.out Hrow.out H1.out Hm1.out HO.out HB.out rfl (by decide) hN.out)
     go_roundg (gk - 1)
     case measure => have := Hil.out; omega
     case rel => exact ⟨0 + 1, 0, _, by have := Hil.out; omega, rfl, rfl, HD2.out⟩
    ·have hb0 : ((i : Int) == 0) = false := by simp; omega
     obtain ⟨prev, hpv, h1n, h1i⟩ := hi1 (by omega)
     have H1i := Lib.hid h1i; have Hpv := Lib.hid hpv
     clear hi0 hi1 h1i h1n hpv
     go_wp2_with fail
     refine (rdiff_o g row bs s _ Hro.out).mono ?_
     rintro e w1 ⟨rfl, h1, hm1⟩
     have H1 := Lib.hid h1; have Hm1 := Lib.hid (Hm.out.trans hm1 (fun _ _ h => h))
     have Hown1 : Hid (Own w.heap.size w1 2 u6 (cellsI xs)) := Lib.hid (hm1.owns Hown.out (fun k hk e => by have := (Hown.out.block k hk).1; have := hgl.out; omega))
     clear h1 hm1 hfl
     by_cases hkd : kindN (diffO s) = sz (formO s)
     ·rw [decide_eq_true hkd]
      have hN := Lib.hid (rdRow_next (i := i) (last := last) (prev := prev) (xs := xs) Hs.out hin hkd H1i.out)
      obtain ⟨gr, cap, hv, _, hglt⟩ := Hown1.out.form' (by rw [cellsI_length, Hxl.out]; omega)
      have hcell : w1.cell? ⟨gr, i - 1, none⟩ = some (.int .i64 prev) := by
       have h := Hown1.out.cell' hv (i - 1) (by rw [cellsI_length, Hxl.out]; omega)
       rw [h, cellsI_get, Hpv.out]
       rfl
      rw [cellsI_length, Hxl.out] at hv
      subst hv
      have hdu : IntKind.u64.wrap (diffO s) = (un (diffO s) : Int) := wrapU_un _
      have hpu : IntKind.u64.wrap prev = (un prev : Int) := wrapU_un prev
      obtain ⟨l', hl'⟩ : ∃ l', l' = nextL last (diffO s) := ⟨_, rfl⟩
      have hlu : IntKind.u64.wrap ((last : Int) + (un (diffO s) : Int)) = (l' : Int) := by rw [hl']; exact nextL_u _ _
      obtain ⟨x, hx⟩ : ∃ x, x = nextX prev l' := ⟨_, rfl⟩
      obtain ⟨xu, hxu⟩ : ∃ xu : Nat, xu = (un prev + l') % M64 := ⟨_, rfl⟩
      have hxu1 : IntKind.u64.wrap ((un prev : Int) + (l' : Int)) = (xu : Int) := by
       have e : ((M64 : Nat) : Int) = 18446744073709551616 := rfl
       rw [hxu, IntKind.wrap_u64, Int.natCast_emod, e, Int.natCast_add]
      have hxu2 : wrap64 (xu : Int) = x := by rw [← hxu1, hx]; exact nextX_u _ _
      rw [← hl', ← hx] at hN
      have Hl' := Lib.hid hl'
      have hi3 : (0 : Int) ≤ (i : Int) - 1 := by omega
      have hi4 : (1 : Int) ≤ (i : Int) := by omega
      have hsz := Hm1.out.size
      have hr1 : (cellsI xs).length + 1 ≤ maxLen := by rw [cellsI_length, Hxl.out]; unfold maxLen; omega
      have hr2 : ((cellsI xs).length + 1) * 8 ≤ 140737488355328 := by rw [cellsI_length, Hxl.out]; omega
      clear hkd hl' hx hxu
      go_wp2_with (at_builtin; refine wpList_app1 rfl (.tmp 44) (.tmp 54) _ rfl elt64 rfl Hown1.out rfl rfl rfl hr1 hr2 hsz ?_; intro v' w2 HO HB)
      have HD2 : Hid (RDec1 w w2 g row bs k R rem (i + 1) v' l' (behindO s)) := Lib.hid (RDec1.mk hgl.out Hrow.out H1.out Hm1.out HO.out HB.out Hxl.out (by rw [Hl'.out]; exact nextL_lt _ _) hN.out)
      go_roundg (gk - 1)
      case measure => have := Hil.out; omega
      case rel => exact ⟨i + 1, l', _, by have := Hil.out; omega, by go_num, rfl, HD2.out⟩
     ·rw [decide_eq_false hkd]
      have Hnone := Lib.hid (rdRow_stop Hs.out hin hkd H1i.out)
      clear hkd
      go_wp2_with fail
      go_ret2
      unfold RDecEnd
      rw [Hnone.out]
      exact ⟨rfl, Hm1.out⟩
  ·have hik : i = k := by have := Hil.out; omega
   have Hres : Hid ((s = none → rdRow k R rem = none) ∧ ∀ R' rem', s = some (R', rem') → rdRow k R rem = some (xs, R', rem')) := Lib.hid (by
    rcases Nat.eq_zero_or_pos i with h0 | h0
    ·obtain ⟨b1, b2, b4⟩ := hi0 h0
     subst b1 b4
     have hk0 : k = 0 := by omega
     subst hk0
     refine ⟨fun h => (by cases h), fun R' rem' h => ?_⟩
     injection h with h
     injection h with h3 h4
     subst h3 h4
     rfl
    ·obtain ⟨prev, _, b1, b2⟩ := hi1 h0
     refine ⟨b1, fun R' rem' h => ?_⟩
     rw [b2 R' rem' h, hik, Nat.sub_self]
     show some (xs ++ [], R', rem') = _
     rw [List.append_nil])
   clear hi0 hi1 hik
   have hres1 : s = none → Hid (rdRow k R rem = none) := fun h => Lib.hid (Hres.out.1 h)
   cases s with
   | none =>
    have hres2 := hres1 rfl
    have hfl' : wr.cell? ⟨g, 2, none⟩ = some (.bool true) := hfl
    clear Hres hres1 hfl
    go_wp2_with fail
    go_ret2
    unfold RDecEnd
    rw [hres2.out]
    exact ⟨rfl, Hm.out⟩
   | some p =>
    obtain ⟨R', rem'⟩ := p
    have hres2 : Hid (rdRow k R rem = some (xs, R', rem')) := Lib.hid (Hres.out.2 R' rem' rfl)
    have hfl' : wr.cell? ⟨g, 2, none⟩ = some (.bool false) := hfl
    clear Hres hres1 hfl
    go_wp2_with fail
    go_ret2
    unfold RDecEnd
    rw [hres2.out]
    exact ⟨_, rfl, Hown.out, Hro.out, Hm.out⟩
end Go.Proofs.YtmeilddngohccaaGreatDoor

/- A row of samples read in a codec, as the document has it: Decode. -/
namespace Go.Proofs.YtmeilddngohccaaGreatDoor
open Go.RowKit

/-- The first i samples. -/
def RowTo' (w wr : World) (l : List (Int × Nat)) (i : Nat) (v : Value) : Prop := OwnS w.heap.size wr v (l.take i) ∧ Mod (fun _ => False) w wr
set_option maxHeartbeats 4000000 in
set_option maxRecDepth 100000 in
theorem rkdec_any (tag m : Int) (A : Option Addr) (n cap : Nat) (bs : List Nat) (w : World) (hs : Rds w w.heap.size A n (cells8 bs)) (hlt : lt256 bs) (hnc : n ≤ cap) (hcm : cap ≤ maxLen) (hn : n ≤ 1000000) (hw0 : 0 < w.heap.size) :
  Calls Tryz.prog 19 #[.int .i64 tag, .slice A n cap, .int .i64 m] w fun e w' => EncS w w' (decK tag m bs) e := by
 have hul : bs.length = n := by have := hs.1; rwa [cells8_length] at this
 have hcall := vrget_any A n cap _ bs w hs hlt (Nat.le_trans hnc hcm)
 obtain ⟨K, hK⟩ : ∃ K, (dec bs).1 = K := ⟨_, rfl⟩
 obtain ⟨a, ha⟩ : ∃ a, (dec bs).2 = a := ⟨_, rfl⟩
 have han : a ≤ n := by
  rw [← ha, ← hul]
  rcases Nat.eq_zero_or_pos (dec bs).2 with h | h
  ·omega
  ·exact (dec_some hlt h).1
 rw [hK, ha] at hcall
 have Hcall := Lib.hid hcall
 by_cases h0 : m < 0
 ·have Hno : Hid (decK tag m bs = none) := Lib.hid (decK_out (.inl h0))
  clear hs hlt hnc hcm hcall hK ha hul
  go_enter Tryz.func19, Tryz.ntmps19
  go_wp2_with fail
  refine Hcall.out.mono ?_
  rintro e w' ⟨rfl, rfl⟩
  go_wp2_with fail
  go_ret2
  exact EncS.of_none Hno.out (Mod.refl _ _)
 by_cases h1 : 65535 < m
 ·have Hno : Hid (decK tag m bs = none) := Lib.hid (decK_out (.inr h1))
  clear hs hlt hnc hcm hcall hK ha hul
  go_enter Tryz.func19, Tryz.ntmps19
  go_wp2_with fail
  refine Hcall.out.mono ?_
  rintro e w' ⟨rfl, rfl⟩
  go_wp2_with fail
  go_ret2
  exact EncS.of_none Hno.out (Mod.refl _ _)
 obtain ⟨N, hNm⟩ : ∃ N : Nat, m = (N : Int) := ⟨m.toNat, by omega⟩
 subst hNm
 have hN : N ≤ 65535 := by omega
 have hN0 : ¬ ((N : Nat) : Int) < 0 := by omega
 have hvia := decK_via (tag := tag) (bs := bs) hN
 obtain ⟨r, hr⟩ : ∃ r, n - a = r := ⟨_, rfl⟩
 have hri : (n : Int) - (a : Int) = (r : Int) := by omega
 have hcv : IntKind.u64.wrap (r : Int) = (r : Int) := by rw [IntKind.wrap_u64]; omega
 by_cases ha0 : a = 0
 ·have hab : ((a : Int) == 0) = true := by simp; omega
  have Hno : Hid (decK tag (N : Int) bs = none) := Lib.hid (by rw [hvia, readSm_no (timesOf_no0 (by rw [ha]; exact ha0))])
  clear hs hlt hnc hcm hcall hK ha hul hvia ha0 hr
  go_enter Tryz.func19, Tryz.ntmps19
  go_wp2_with fail
  refine Hcall.out.mono ?_
  rintro e w' ⟨rfl, rfl⟩
  go_wp2_with fail
  go_ret2
  exact EncS.of_none Hno.out (Mod.refl _ _)
 have hab : ((a : Int) == 0) = false := by simp; omega
 by_cases hKr : r < K
 ·have hKi : (r : Int) < (K : Int) := by omega
  have Hno : Hid (decK tag (N : Int) bs = none) := Lib.hid (by rw [hvia, readSm_no (timesOf_no1 (by rw [ha, hK, hul, hr]; exact hKr))])
  clear hs hlt hnc hcm hcall hK ha hul hvia ha0 hr
  go_enter Tryz.func19, Tryz.ntmps19
  go_wp2_with fail
  refine Hcall.out.mono ?_
  rintro e w' ⟨rfl, rfl⟩
  go_wp2_with fail
  go_ret2
  exact EncS.of_none Hno.out (Mod.refl _ _)
 have hKi : ¬ (r : Int) < (K : Int) := by omega
 have hb1 : decide (((N : Nat) : Int) < 0) = false := by simp
 have hb2 : decide ((65535 : Int) < ((N : Nat) : Int)) = false := by simp; omega
 have hb3 : decide (r < K) = false := by simp; omega
 have hKs : K ≤ 1000000 := by omega
 obtain ⟨s, hs'⟩ : ∃ s, s = a + K := ⟨_, rfl⟩
 have hsi : (a : Int) + (K : Int) = (s : Int) := by omega
 have hsn : s ≤ n := by omega
 have hsa : s - a = K := by omega
 have hai : (a : Int) ≤ (s : Int) := by omega
 have hsni : (s : Int) ≤ (n : Int) := by omega
 have hsci : (s : Int) ≤ (cap : Int) := by omega
 have haci : (a : Int) ≤ (cap : Int) := by omega
 have ha0i : (0 : Int) ≤ (a : Int) := by omega
 have hs0i : (0 : Int) ≤ (s : Int) := by omega
 obtain ⟨A1, hA1⟩ : ∃ A1, (if cap = a then A else A.map (·.add a)) = A1 := ⟨_, rfl⟩
 obtain ⟨A2, hA2⟩ : ∃ A2, (if cap = s then A else A.map (·.add s)) = A2 := ⟨_, rfl⟩
 have hr1 : Rds w w.heap.size A1 K (cells8 ((bs.drop a).take K)) := by
  have h := (hs.drop han hnc).take (k := K) (by omega)
  rw [show ((cells8 bs).drop a).take K = cells8 ((bs.drop a).take K) by simp [cells8, List.map_drop, List.map_take]] at h
  rw [← hA1]
  exact h
 have hr2 : Rds w w.heap.size A2 (n - s) (cells8 (bs.drop s)) := by
  have h := hs.drop hsn hnc
  rw [show (cells8 bs).drop s = cells8 (bs.drop s) by simp [cells8, List.map_drop]] at h
  rw [← hA2]
  exact h
 have hlt1 : lt256 ((bs.drop a).take K) := fun b hb => hlt b (List.mem_of_mem_drop (List.mem_of_mem_take hb))
 have hlt2 : lt256 (bs.drop s) := fun b hb => hlt b (List.mem_of_mem_drop hb)
 obtain ⟨row, hrow, hrr⟩ := RRd.new (c := cap - a) hr1 hlt1 hKs hw0
 obtain ⟨W, hW⟩ : ∃ W, W = w.alloc (.cells #[.slice A1 K (cap - a), .int .i64 0, .bool false] 66) := ⟨_, rfl⟩
 rw [← hW] at hrr
 have hmW : Mod (fun _ => False) w W := by rw [hW]; exact (Mod.refl _ _).alloc _
 have hto := timesOf_at (N := N) ha hK ha0 (by rw [hul, hr]) hKr
 rw [List.drop_drop, ← hs'] at hto
 obtain ⟨V, hV⟩ : ∃ V, V = val ((bs.drop a).take K) := ⟨_, rfl⟩
 have hVlt : V < 2 ^ (8 * K) := by
  have h := val_lt hlt1
  rw [List.length_take, List.length_drop, hul, hr, Nat.min_eq_left (by omega), ← hV] at h
  exact h
 rw [← hV] at hrr hto
 obtain ⟨L2, hL2⟩ : ∃ L2, n - s = L2 := ⟨_, rfl⟩
 obtain ⟨c2, hc2⟩ : ∃ c2, cap - s = c2 := ⟨_, rfl⟩
 rw [hL2] at hr2
 have hLc : L2 ≤ c2 := by omega
 have hL2s : L2 ≤ 1000000 := by omega
 have HW := Lib.hid hW; have HmW := Lib.hid hmW; have Hrr := Lib.hid hrr; have Hrow := Lib.hid (Nat.lt_of_lt_of_le hrow hmW.size); have HVlt := Lib.hid hVlt; have Hto := Lib.hid hto; have Hr2 := Lib.hid hr2; have Hlt := Lib.hid hlt; have Hlt2 := Lib.hid hlt2; have Hvia := Lib.hid hvia; have Hs := Lib.hid hs; have Hw0 := Lib.hid hw0
 have Hc2m : Hid (c2 ≤ maxLen) := Lib.hid (by omega)
 have HLc := Lib.hid hLc
 clear hs hlt hcm hcall hK ha hul hvia ha0 hr hKr hs' hr1 hr2 hlt1 hlt2 hrow hrr hW hmW hto hV hVlt hnc hLc hw0
 go_enter Tryz.func19, Tryz.ntmps19
 go_wp2_with fail
 refine Hcall.out.mono ?_
 rintro e w' ⟨rfl, rfl⟩
 clear Hcall
 go_upto_region 4 with fail
 clear hcv hri hab hKi h1 hN0 h0 hb1 hb2 hb3
 go_wp2_with fail
 rw [← HW.out]
 refine (gettimes_any w.heap.size row V (8 * K) N ((bs.drop a).take K) (N : Int) W (by omega) Hrr.out HVlt.out Hrow.out).mono ?_
 intro e w2 hd
 clear HW hA1 hai haci ha0i hsa
 have hd' : RDecEnd W w2 w.heap.size row ((bs.drop a).take K) (rdRow N V (8 * K)) e := hd
 clear hd
 have htimes : ∃ (o : Option (List Int)) (v : Value), e = .returned (.tuple #[v, .bool o.isSome]) ∧ timesOf N bs = o.map (fun ts => (ts, bs.drop s)) ∧ (∀ ts, o = some ts → ts.length = N ∧ Own W.heap.size w2 2 v (cellsI ts)) ∧ Mod (fun _ => False) w w2 := by
  cases hv : rdRow N V (8 * K) with
  | none =>
   rw [hv] at hd'
   obtain ⟨rfl, hm2⟩ := hd'
   exact ⟨none, _, rfl, by rw [Hto.out, hv]; rfl, (fun ts h => by cases h), HmW.out.trans hm2 (fun i hi e => by omega)⟩
  | some p =>
   obtain ⟨ts, R2, rem2⟩ := p
   have hlen := (rdRow_some hv HVlt.out).1
   rw [hv] at hd'
   obtain ⟨v, rfl, hown, _, hm2⟩ := hd'
   exact ⟨some ts, v, rfl, by rw [Hto.out, hv]; rfl, (fun ts' h => by injection h with h; subst h; exact ⟨hlen, hown⟩), HmW.out.trans hm2 (fun i hi e => by omega)⟩
 obtain ⟨o, v1, rfl, hto2, hown1, hm2⟩ := htimes
 obtain ⟨ob, hob⟩ : ∃ ob, o.isSome = ob := ⟨_, rfl⟩
 rw [hob]
 have Hob := Lib.hid hob; have Hto2 := Lib.hid hto2; have Hown1 := Lib.hid hown1; have Hm2 := Lib.hid hm2
 have Hr22 := Lib.hid (Hr2.out.new hm2).fit; have Hs22 := Lib.hid (Hs.out.mod hm2 (Nat.le_refl _) (fun _ _ h => h))
 have Hw2 : Hid (0 < w2.heap.size) := Lib.hid (Nat.lt_of_lt_of_le Hw0.out hm2.size)
 clear hd' hob hto2 hown1 hm2 Hr2 Hto HVlt Hrr Hrow
 go_wp2_with fail
 refine (rread_any tag A2 L2 c2 N (bs.drop s) w2 (Hr22.out.fit) Hlt2.out HLc.out Hc2m.out hL2s hN Hw2.out).mono ?_
 intro e w3 he
 have he' : RdE w2 w3 (readK tag N (bs.drop s)) e := he
 clear he hA2 hsni hsci hs0i hL2 hc2 hsi
 cases o with
 | none =>
  obtain rfl : ob = false := Hob.out.symm
  have hnone : decK tag (N : Int) bs = none := by rw [Hvia.out, readSm_no Hto2.out]
  have hend : ∃ v2 b2, e = .returned (.tuple #[v2, .bool b2]) ∧ Mod (fun _ => False) w2 w3 := by
   cases hv : readK tag N (bs.drop s) with
   | none => obtain ⟨v, h1, h2⟩ := RdE.none_ he' hv; exact ⟨v, _, h1, h2⟩
   | some vs => obtain ⟨v, h1, _, h2⟩ := RdE.some_ he' hv; exact ⟨v, _, h1, h2⟩
  obtain ⟨v2, b2, rfl, hm3⟩ := hend
  have Hno := Lib.hid hnone; have Hm3 := Lib.hid (Hm2.out.trans hm3 (fun _ _ h => h))
  clear hnone hm3 he'
  go_wp2_with fail
  go_ret2
  exact EncS.of_none Hno.out Hm3.out
 | some ts =>
  obtain rfl : ob = true := Hob.out.symm
  have hat : readSm tag N bs = (readK tag N (bs.drop s)).map fun vs => ts.zip vs := readSm_at Hto2.out
  obtain ⟨htl, hot⟩ := Hown1.out ts rfl
  cases hv : readK tag N (bs.drop s) with
  | none =>
   obtain ⟨v2, rfl, hm3⟩ := RdE.none_ he' hv
   have hnone : decK tag (N : Int) bs = none := by rw [Hvia.out, hat, hv]; rfl
   have Hno := Lib.hid hnone; have Hm3 := Lib.hid (Hm2.out.trans hm3 (fun _ _ h => h))
   clear hnone hm3 he' hat hv hot htl
   go_wp2_with fail
   go_ret2
   exact EncS.of_none Hno.out Hm3.out
  | some vs =>
   obtain ⟨v2, rfl, hov, hm3⟩ := RdE.some_ he' hv
   have hvl := (readK_some Hlt2.out hv).1
   have hsm : readSm tag N bs = some (ts.zip vs) := by rw [hat, hv]; rfl
   obtain ⟨hll, hgl⟩ := readSm_some Hlt.out hsm
   have hdk : decK tag (N : Int) bs = if encK tag (ts.zip vs) = some bs then some (ts.zip vs) else none := by rw [Hvia.out, hsm]
   obtain ⟨A4, c4, rfl, hr4⟩ := own_form hot
   rw [htl] at hr4
   obtain ⟨A5, L5, c5, rfl, HL5, _, hr5⟩ := own_formUN hov
   have hL5 : L5 = N := by have := HL5.out; omega
   subst hL5
   rw [htl]
   have Hr4 := Lib.hid (hr4.new hm3).fit; have Hr5 := Lib.hid hr5
   obtain ⟨l, hl⟩ : ∃ l, l = ts.zip vs := ⟨_, rfl⟩
   rw [← hl] at hdk hll hgl
   have Hdk := Lib.hid hdk; have Hll := Lib.hid hll; have Hgl := Lib.hid hgl; have Hl := Lib.hid hl
   have Hm3 := Lib.hid (Hm2.out.trans hm3 (fun _ _ h => h)); have Hs3 := Lib.hid (Hs22.out.mod hm3 Hm2.out.size (fun _ _ h => h))
   have R0 : Hid (RowTo' w3 w3 l 0 (.slice none 0 0)) := Lib.hid ⟨OwnS.nil _ _, Mod.refl _ _⟩
   have hcs : Tryz.prog.cellsOf 28 = 2 := by kernel_rfl
   clear he' hat hv hot htl hov hm3 hvl hsm hll hgl hdk hl hr4 hr5 Hm2 Hs22 Hr22 Hob Hto2 Hown1
   go_wp2_with fail
   go_loopg [14, 15] L5 (fun k s14 s15 wr => ∃ i : Nat, i + k = L5 ∧ s15 = .int .i64 (i : Int) ∧ RowTo' w3 wr l i s14)
   case atStart => exact ⟨0, by omega, rfl, R0.out⟩
   case round =>
    obtain ⟨i, hik, rfl, hR⟩ := hrel
    have Hik := Lib.hid hik; have HRo := Lib.hid hR
    clear hik hR R0
    by_cases hin : i < L5
    ·obtain ⟨ad4, T, rfl, hT, hcT⟩ := Hr4.out.seesI.at_ hin (Nat.le_refl _) HRo.out.2 (fun _ _ h => h)
     obtain ⟨ad5, V5, rfl, hV, hcV⟩ := Hr5.out.at2 hin (Nat.le_refl _) HRo.out.2 (fun _ _ h => h)
     have hli : l[i]? = some (T, V5) := by rw [Hl.out]; exact (List.getElem?_zip_eq_some (z := (T, V5))).2 ⟨hT, hV⟩
     have Hli := Lib.hid hli
     have hini : (i : Int) < (L5 : Int) := by omega
     have hlen : (l.take i).length ≤ 65535 := by rw [List.length_take]; omega
     have HR1 : Hid ((l.take i).length + 1 ≤ maxLen ∧ ((l.take i).length + 1) * 16 ≤ 140737488355328) := Lib.hid ⟨by unfold maxLen; omega, by omega⟩
     clear hT hV hli hlen
     go_upto_region 12 with fail
     have HOd : Hid (OwnS w3.heap.size wr.drew u14 (l.take i)) := Lib.hid HRo.out.1
     have Hmd : Hid (Mod (fun _ => False) w3 wr.drew) := Lib.hid HRo.out.2.drew
     have hszd := Hmd.out.size
     go_region_law ((refine step_appS (p := (T, V5)) rfl (.tmp 91) (.tmp 101) rfl rfl HOd.out rfl rfl HR1.out.1 HR1.out.2 hszd ?_; intro v6 w6 HO6 HB6))
     all_goals (
      have HR2 : Hid (RowTo' w3 w6 l (i + 1) v6) := Lib.hid ⟨by
       have e : l.take (i + 1) = l.take i ++ [(T, V5)] := by
        obtain ⟨hi, he⟩ := List.getElem?_eq_some_iff.1 Hli.out
        rw [List.take_succ_eq_append_getElem hi, he]
       rw [e]
       exact HO6.out, Hmd.out.trans (Mod.of_below HB6.out) (fun i hi h => by omega)⟩
      simp only [Act.put, List.getElem_toArray, List.getElem_cons_succ, List.getElem_cons_zero, List.setIfInBounds_toArray, List.set_cons_succ, List.set_cons_zero]
      go_wp2_with fail
      go_roundg (gk - 1)
      case measure => have := Hik.out; omega
      case rel => exact ⟨i + 1, by have := Hik.out; omega, by go_num, HR2.out⟩)
    ·have hi : i = L5 := by have := Hik.out; omega
     obtain ⟨k1, k2⟩ := HRo.out
     rw [List.take_of_length_le (by rw [Hll.out]; omega)] at k1
     have k1' := k1
     obtain ⟨A6, L6, c6, hu6, HL6, _, _, hr6⟩ := k1.formN
     subst hu6
     have hL6 : L6 = L5 := by have := HL6.out; have := Hll.out; omega
     subst hL6
     have Hr6 := Lib.hid hr6; have Ho6 := Lib.hid (k1'.mono Hm3.out.size); have Hm6 := Lib.hid (Hm3.out.trans k2 (fun _ _ h => h)); have Hs6 := Lib.hid (Hs3.out.mod k2 Hm3.out.size (fun _ _ h => h))
     clear hi k1 k1' k2 hr6 HRo
     go_wp2_with fail
     refine (rkenc_any tag A6 L6 c6 l wr Hr6.out Hgl.out (by omega)).mono ?_
     intro e w7 he
     have he' : EncB wr w7 (encK tag l) e := he
     clear he
     cases ho : encK tag l with
     | none =>
      obtain ⟨rfl, hm7⟩ := EncB.none_ he' ho
      have Hno : Hid (decK tag (L6 : Int) bs = none) := Lib.hid (by rw [Hdk.out, ho, if_neg (by intro h; cases h)])
      have Hm7 := Lib.hid (Hm6.out.trans hm7 (fun _ _ h => h))
      clear he' ho hm7
      go_wp2_with fail
      go_ret2
      exact EncS.of_none Hno.out Hm7.out
     | some b2 =>
      obtain ⟨v7, rfl, ho7, hm7⟩ := EncB.some_ he' ho
      have hb256 := encK_256 ho
      have hdk2 : decK tag (L6 : Int) bs = if b2 = bs then some l else none := by
       rw [Hdk.out, ho]
       by_cases h : b2 = bs
       ·rw [if_pos (by rw [h]), if_pos h]
       ·rw [if_neg (by intro e; injection e with e; exact h e), if_neg h]
      obtain ⟨A7, L7, c7, rfl, HL7, _, _, hr7⟩ := own_formN8 ho7
      obtain ⟨s1, hs1⟩ : ∃ s1, strOf b2 = s1 := ⟨_, rfl⟩
      obtain ⟨s2, hs2⟩ : ∃ s2, strOf bs = s2 := ⟨_, rfl⟩
      have hcv1 : (convert 34 9 (.slice A7 L7 c7)).run Tryz.prog w7 = .ok (.string (strOf b2)) w7 := conv_rds Tryz.underlying34 Tryz.underlying5 Tryz.underlying9 w7 hr7 hb256
      have hcv2 : (convert 34 9 (.slice A n cap)).run Tryz.prog w7 = .ok (.string (strOf bs)) w7 := conv_rds Tryz.underlying34 Tryz.underlying5 Tryz.underlying9 w7 (Hs6.out.mod hm7 (Nat.le_trans Hm6.out.size (Nat.le_refl _)) (fun _ _ h => h)) Hlt.out
      rw [hs1] at hcv1
      rw [hs2] at hcv2
      have Hm7 := Lib.hid (Hm6.out.trans hm7 (fun _ _ h => h)); have Ho7 := Lib.hid (Ho6.out.mod hm7)
      by_cases hb : b2 = bs
      ·obtain ⟨e1, e2⟩ := str_ne hs1 hs2 hb256 Hlt.out (show decide (b2 = bs) = true by simp [hb])
       have Hyes : Hid (decK tag (L6 : Int) bs = some l) := Lib.hid (by rw [hdk2, if_pos hb])
       clear he' ho ho7 hm7 hb256 hdk2 hr7 hs1 hs2 hb
       go_wp2_with fail
       go_ret2
       exact EncS.of_some Hyes.out Ho7.out Hm7.out
      ·obtain ⟨e1, e2⟩ := str_ne hs1 hs2 hb256 Hlt.out (show decide (b2 = bs) = false by simp [hb])
       have Hno : Hid (decK tag (L6 : Int) bs = none) := Lib.hid (by rw [hdk2, if_neg hb])
       clear he' ho ho7 hm7 hb256 hdk2 hr7 hs1 hs2 hb
       go_wp2_with fail
       go_ret2
       exact EncS.of_none Hno.out Hm7.out
end Go.Proofs.YtmeilddngohccaaGreatDoor

/- Chunks, of the document: Open. -/
namespace Go.Proofs.YtmeilddngohccaaGreatDoor
open Go.RowKit

theorem openC_no {bs : List Nat} (h : hdC bs = none) : openC bs = none := by
 unfold openC
 rw [h]
theorem openC_at {bs : List Nat} {t m k : Nat} {f g : Int} (h : hdC bs = some ((t, m, f, g), k)) : openC bs = if bs.length < k + 4 then none else match decK (t : Int) (m : Int) ((bs.take (bs.length - 4)).drop k) with
  | none => none
  | some l => if makeC (t : Int) l = some bs then some (l, t) else none := by
 unfold openC
 rw [h]
 simp only
 congr 1
set_option maxHeartbeats 1000000 in
set_option maxRecDepth 100000 in
theorem ropen_any (A : Option Addr) (n c : Nat) (bs : List Nat) (w : World) (hs : Rds w w.heap.size A n (cells8 bs)) (hlt : lt256 bs) (hnc : n ≤ c) (hcm : c ≤ maxLen) (hn : n ≤ 1000000) :
  Calls Tryz.prog 10 #[.slice A n c] w fun e w' => EncO w w' (openC bs) e := by
 have hlen : bs.length = n := by have := hs.1; rwa [cells8_length] at this
 have Hs := Lib.hid hs; have Hlt := Lib.hid hlt; have Hcm := Lib.hid hcm; have Hlen := Lib.hid hlen
 clear hs hlt hcm hlen
 obtain ⟨o, ho⟩ : ∃ o, o = openC bs := ⟨_, rfl⟩
 rw [← ho]
 have Ho := Lib.hid ho
 clear ho
 go_enter Tryz.func10, Tryz.ntmps10
 go_wp2_with fail
 refine (rhead_any A n c bs w Hs.out Hlt.out hnc Hcm.out).mono ?_
 intro e w1 he
 have he' : RHead w w1 bs e := he
 obtain ⟨rfl, hm1⟩ := he'
 have Hm1 := Lib.hid hm1
 clear he hm1
 cases hd : hdC bs with
 | none =>
  have Hno : Hid (o = none) := Lib.hid (by rw [Ho.out]; exact openC_no hd)
  have Hm2 := Lib.hid (Hm1.out.alloc (.cells #[.int .i64 0, .int .i64 0, .int .i64 0, .int .i64 0] 50))
  simp only [hdV, hdK, Option.map_none, Option.getD_none, Option.isSome_none]
  clear hd
  go_wp2_with fail
  go_ret3
  exact EncO.of_none Hno.out Hm2.out
 | some p =>
  obtain ⟨⟨t, m, f, g⟩, k⟩ := p
  obtain ⟨t1, t6, n1, n6, ff, fg, hfg, hkk, rest, hrest⟩ := hdC_some Hlt.out hd
  have hat := openC_at hd
  have hkn : k ≤ n := by rw [← Hlen.out, hrest, hkk, List.length_append]; omega
  simp only [hdV, hdK, Option.map_some, Option.getD_some, Option.isSome_some]
  rw [← Ho.out, Hlen.out] at hat
  have Hat := Lib.hid hat
  clear hd hat Ho ff fg hfg hkk hrest rest
  obtain ⟨W2, hW2⟩ : ∃ W2, W2 = w1.alloc (.cells #[.int .i64 (t : Int), .int .i64 (m : Int), .int .i64 f, .int .i64 g] 50) := ⟨_, rfl⟩
  obtain ⟨hk, hhk⟩ : ∃ hk, hk = w1.heap.size := ⟨_, rfl⟩
  have hmW : Mod (fun _ => False) w1 W2 := by rw [hW2]; exact (Mod.refl _ _).alloc _
  have hbN : Blk W2 hk 50 #[.int .i64 (t : Int), .int .i64 (m : Int), .int .i64 f, .int .i64 g] := by rw [hW2, hhk]; exact Blk.new _ _ _
  have HmW := Lib.hid (Hm1.out.trans hmW (fun _ _ h => h)); have HbN := Lib.hid hbN; have HW2 := Lib.hid hW2; have Hhk := Lib.hid hhk
  have HrW := Lib.hid (Hs.out.new HmW.out).fit
  have hw4 : IntKind.i64.wrap ((k : Int) + 4) = (k : Int) + 4 := by rw [IntWalk.i64_in _ (by omega)]
  clear hmW hbN hW2 hhk Hm1 Hs
  go_upto_region 2 with fail
  rw [← HW2.out, ← Hhk.out]
  by_cases h4 : (n : Int) < (k : Int) + 4
  ·have Hno : Hid (o = none) := Lib.hid (by rw [Hat.out, if_pos (by omega)])
   go_wp2_with fail
   go_ret3
   exact EncO.of_none Hno.out HmW.out
  ·obtain ⟨N, hN⟩ : ∃ N, n = N + 4 := ⟨n - 4, by omega⟩
   have hkN : k ≤ N := by omega
   have hov : o = match decK (t : Int) (m : Int) ((bs.take N).drop k) with | none => none | some l => if makeC (t : Int) l = some bs then some (l, t) else none := by
    rw [Hat.out, if_neg (by omega), hN, Nat.add_sub_cancel]
   have hdr := (HrW.out.take (k := N) (by omega)).drop (k := k) (cap := c) hkN (by omega)
   have hcd : ((cells8 bs).take N).drop k = cells8 ((bs.take N).drop k) := by simp [cells8, List.map_drop, List.map_take]
   rw [hcd] at hdr
   obtain ⟨A1, hA1⟩ : ∃ A1, (if c = k then A else A.map (·.add k)) = A1 := ⟨_, rfl⟩
   rw [hA1] at hdr
   have hltd : lt256 ((bs.take N).drop k) := fun x hx => Hlt.out x (List.mem_of_mem_take (List.mem_of_mem_drop hx))
   obtain ⟨bd, hbd⟩ : ∃ bd, bd = (bs.take N).drop k := ⟨_, rfl⟩
   rw [← hbd] at hov hdr hltd
   have hwN : IntKind.i64.wrap ((n : Int) - 4) = (N : Int) := by rw [IntWalk.i64_in _ (by omega)]; omega
   have hkNi : (k : Int) ≤ (N : Int) := by omega
   have hNci : (N : Int) ≤ (c : Int) := by omega
   have hk0 : (0 : Int) ≤ (k : Int) := by omega
   have hN0 : (0 : Int) ≤ (N : Int) := by omega
   have q0 := HbN.out.cell 0
   have q1 := HbN.out.cell 1
   simp at q0 q1
   have hHl := HbN.out.lt
   have HX : Hid (∀ W', Mod (fun _ => False) W2 W' → Mod (fun _ => False) W2 W' ∧ W'.cell? ⟨hk, 0, none⟩ = some (.int .i64 (t : Int)) ∧ W'.cell? ⟨hk, 1, none⟩ = some (.int .i64 (m : Int))) :=
    Lib.hid (fun W' h => ⟨h, (h.cell (a := ⟨hk, 0, none⟩) hHl (fun h => h)).trans q0, (h.cell (a := ⟨hk, 1, none⟩) hHl (fun h => h)).trans q1⟩)
   have S1 := Lib.hid (HX.out W2.drew (Mod.refl _ _).drew)
   have S0 := Lib.hid (HX.out W2 (Mod.refl _ _))
   have hcall := rkdec_any (t : Int) (m : Int) A1 (N - k) (c - k) bd W2.drew hdr.drew.fit hltd (by omega) (by have := Hcm.out; omega) (by omega) (by have := HmW.out.size; show 0 < W2.heap.size; omega)
   have Hcall := Lib.hid hcall; have Hov := Lib.hid hov; have HN := Lib.hid hN; have Hltd := Lib.hid hltd
   have Hsz2 := Lib.hid HmW.out.size
   have Hh4 := Lib.hid h4
   clear hov hdr hltd hbd hcall hcd hHl hN
   go_upto_region 4 with fail
   clear hw4 Hh4 h4
   cases hdk : decK (t : Int) (m : Int) bd with
   | none =>
    have Hno : Hid (o = none) := Lib.hid (by rw [Hov.out, hdk])
    go_cut [8, 9] (fun s8 s9 wc => s8 = .slice none 0 0 ∧ s9 = .bool false ∧ Mod (fun _ => False) W2 wc)
    case first =>
     first
      | (go_region_held_law (fun W' => Mod (fun _ => False) W2 W' ∧ W'.cell? ⟨hk, 0, none⟩ = some (.int .i64 (t : Int)) ∧ W'.cell? ⟨hk, 1, none⟩ = some (.int .i64 (m : Int))) (first | (with_reducible exact S2.out) | (with_reducible exact S1.out) | (with_reducible exact S0.out))
        (first
         | (go_at_call 19; refine Hcall.out.mono ?_; intro e w3 he; have he' : EncS W2.drew w3 (decK (t : Int) (m : Int) bd) e := he; clear he; obtain ⟨rfl, hm3⟩ := EncS.none_ he' hdk; have Hm3 := Lib.hid ((Mod.refl (fun _ => False) W2).drew.trans hm3 (fun _ _ h => h)); have S2 := Lib.hid (HX.out _ Hm3.out); clear he' hm3)))
      | fail "held"
     all_goals
      go_wp2_with fail
      go_meet
      exact ⟨rfl, rfl, Hm3.out⟩
    case rest =>
    obtain ⟨rfl, rfl, hmc⟩ := hcut
    have Hmc := Lib.hid (HmW.out.trans hmc (fun _ _ h => h))
    clear hmc
    go_wp2_with fail
    go_ret3
    exact EncO.of_none Hno.out Hmc.out
   | some l =>
    have hov2 : o = if makeC (t : Int) l = some bs then some (l, t) else none := by rw [Hov.out, hdk]
    have Hov2 := Lib.hid hov2
    have hgl := (decK_some Hltd.out hdk).2.2.2.1
    have hln := (decK_some Hltd.out hdk).2.2.1
    have Hgl := Lib.hid hgl
    have hl6 : l.length ≤ 65535 := by omega
    clear hov2 hgl hln Hov
    go_cut [8, 9] (fun s8 s9 wc => s9 = .bool true ∧ OwnS W2.heap.size wc s8 l ∧ Mod (fun _ => False) W2 wc)
    case first =>
     first
      | (go_region_held_law (fun W' => Mod (fun _ => False) W2 W' ∧ W'.cell? ⟨hk, 0, none⟩ = some (.int .i64 (t : Int)) ∧ W'.cell? ⟨hk, 1, none⟩ = some (.int .i64 (m : Int))) (first | (with_reducible exact S2.out) | (with_reducible exact S1.out) | (with_reducible exact S0.out))
        (first
         | (go_at_call 19; refine Hcall.out.mono ?_; intro e w3 he; have he' : EncS W2.drew w3 (decK (t : Int) (m : Int) bd) e := he; clear he; obtain ⟨v3, rfl, ho3, hm3⟩ := EncS.some_ he' hdk; have Ho3 := Lib.hid ho3; have Hm3 := Lib.hid ((Mod.refl (fun _ => False) W2).drew.trans hm3 (fun _ _ h => h)); have S2 := Lib.hid (HX.out _ Hm3.out); clear he' hm3 ho3)))
      | fail "held"
     all_goals
      go_wp2_with fail
      go_meet
      exact ⟨rfl, Ho3.out, Hm3.out⟩
    case rest =>
    obtain ⟨rfl, ho3, hmc⟩ := hcut
    obtain ⟨A3, L3, c3, rfl, HL3, _, _, hr3⟩ := ho3.formN
    have hL3 : L3 ≤ 65535 := by rw [← HL3.out]; exact hl6
    have Hmc := Lib.hid (HmW.out.trans hmc (fun _ _ h => h)); have Ho3 := Lib.hid (ho3.mono Hsz2.out); have Hr3 := Lib.hid hr3
    have S5 := HX.out _ hmc
    have c0 := S5.2.1
    have HbC := Lib.hid (hmc.blk HbN.out (fun h => h))
    have Hrc := Lib.hid (HrW.out.new hmc).fit
    clear hdk hmc ho3 hr3 S5 S1 S0 HX Hcall hl6 q0 q1 hA1 hwN
    go_wp2_with fail
    refine (rmake_any (t : Int) A3 L3 c3 l wc Hr3.out Hgl.out (by omega)).mono ?_
    intro e w4 he
    have he' : EncB wc w4 (makeC (t : Int) l) e := he
    clear he
    cases hmk : makeC (t : Int) l with
    | none =>
     obtain ⟨rfl, hm4⟩ := EncB.none_ he' hmk
     have Hno : Hid (o = none) := Lib.hid (by rw [Hov2.out, hmk, if_neg (by simp)])
     have Hm4 := Lib.hid (Hmc.out.trans hm4 (fun _ _ h => h))
     clear he' hmk hm4 c0
     go_wp2_with fail
     go_ret3
     exact EncO.of_none Hno.out Hm4.out
    | some cs =>
     obtain ⟨v4, rfl, ho4, hm4⟩ := EncB.some_ he' hmk
     have hltc := makeC_256 hmk
     obtain ⟨A4, L4, c4, rfl, HL4, _, _, hr4⟩ := own_formN8 ho4
     have hcv1 : (convert 34 9 (.slice A4 L4 c4)).run Tryz.prog w4 = .ok (.string (strOf cs)) w4 := conv_rds Tryz.underlying34 Tryz.underlying5 Tryz.underlying9 w4 hr4 hltc
     have hcv2 : (convert 34 9 (.slice A n c)).run Tryz.prog w4 = .ok (.string (strOf bs)) w4 := conv_rds Tryz.underlying34 Tryz.underlying5 Tryz.underlying9 w4 (Hrc.out.new hm4).fit Hlt.out
     obtain ⟨s1, hs1⟩ : ∃ s1, strOf cs = s1 := ⟨_, rfl⟩
     obtain ⟨s2, hs2⟩ : ∃ s2, strOf bs = s2 := ⟨_, rfl⟩
     rw [hs1] at hcv1
     rw [hs2] at hcv2
     obtain ⟨hq, hne⟩ := str_ne hs1 hs2 hltc Hlt.out rfl
     have hh4 := hm4.blk HbC.out (fun h => h)
     have r0 := hh4.cell 0
     simp at r0
     have Hm4 := Lib.hid (Hmc.out.trans hm4 (fun _ _ h => h)); have Ho4 := Lib.hid (Ho3.out.mod hm4)
     clear he' ho4 hltc hr4 hs1 hs2 hh4 hm4 c0
     by_cases hcb : cs = bs
     ·have Hyes : Hid (o = some (l, t)) := Lib.hid (by rw [Hov2.out, hmk, hcb, if_pos rfl])
      rw [decide_eq_true hcb] at hq hne
      clear hmk hcb
      go_upto_region 10 with fail
      first
       | (go_quiet (fail))
       | (go_region)
      go_wp2_with fail
      go_ret3
      exact EncO.of_some Hyes.out Ho4.out (Hm4.out.drewN _)
     ·have Hno : Hid (o = none) := Lib.hid (by rw [Hov2.out, hmk, if_neg (fun h => hcb (by injection h))])
      rw [decide_eq_false hcb] at hq hne
      clear hmk hcb
      go_wp2_with fail
      go_ret3
      exact EncO.of_none Hno.out Hm4.out
end Go.Proofs.YtmeilddngohccaaGreatDoor

/- What the document fixes of layer 13: awake; chunks of rows that rise are there and are read. -/
namespace Go.Proofs.YtmeilddngohccaaGreatDoor
open Go.RowKit

/-- A row that rises is made a chunk, and read of it. -/
theorem chkN_open {b : Bool} {t : Int} {l : List (Int × Nat)} (hg : GoodS l) (hr : riseB l = true) (h60 : l.length ≤ 256) (hl : l ≠ []) :
  openC (chkN ⟨b, t, l⟩) = some (l, 1) ∧ lt256 (chkN ⟨b, t, l⟩) ∧ (chkN ⟨b, t, l⟩).length ≤ 20000 := by
 cases ho : makeC 1 l with
 | none =>
  rcases makeC_is (p := 1) hr h60 (by decide) (by decide) ho with h | h | h
  ·exact absurd h hl
  ·cases h
  ·cases h
 | some c =>
  have e : chkN ⟨b, t, l⟩ = c := by simp [chkN, ho]
  rw [e]
  exact ⟨openC_make hg ho, makeC_256 ho, by have := makeC_len hg ho; omega⟩
theorem chkN_256 {o : OpnN} : lt256 (chkN o) := by
 unfold chkN
 cases ho : makeC 1 o.list with
 | none => exact lt256_nil
 | some c => exact makeC_256 ho
/-- What is told of an open list lies in memory made just now. -/
theorem opn_new {w w1 : World} {b : Bool} {t : Int} {A : Option Addr} {L c : Nat} {l : List (Int × Nat)} (ho : OwnS w.heap.size w1 (.slice A L c) l) (hL : l.length = L) :
  ∃ W, W = w1.alloc (.cells #[.bool b, .int .i64 t, .slice A L c] 25) ∧ Mod (fun _ => False) w1 W ∧ Blk W w1.heap.size 25 #[.bool b, .int .i64 t, .slice A L c] ∧ OwnS w.heap.size W (.slice A L c) l ∧ RdsS W W.heap.size A L l :=
 ⟨_, rfl, (Mod.refl _ _).alloc _, Blk.new _ _ _, ho.alloc _, (ho.alloc _).rds hL⟩
def lOne : List (Int × Nat) := [(-5, 1)]
theorem lOne_good : GoodS lOne := by
 intro p hp
 simp only [lOne, List.mem_cons, List.not_mem_nil, or_false] at hp
 rcases hp with rfl
 exact ⟨⟨by decide, by decide⟩, by decide⟩
set_option maxHeartbeats 1000000 in
set_option maxRecDepth 100000 in
theorem appdAwake_any (w : World) (ht : Tabs w) : Calls Tryz.prog 11 #[] w fun e w' => e = .returned (.bool true) ∧ Mod (fun _ => False) w w' := by
 obtain ⟨hopen, hlt, hlen⟩ := chkN_open (b := true) (t := -5) lOne_good (by decide) (by decide) (by decide)
 have Hopen := Lib.hid hopen; have Hlt := Lib.hid hlt; have Hlen := Lib.hid hlen; have Ht := Lib.hid ht
 clear hopen hlt hlen ht
 go_enter Tryz.func11, Tryz.ntmps11
 go_wp2_with fail
 refine (add_any false 0 none 0 0 [] (-5) 1 w (RdsS.nil _ _ _) (by decide)).mono ?_
 intro e w1 he
 obtain ⟨v1, rfl, ho1, hm1⟩ := he
 rw [show addN ⟨false, 0, []⟩ (-5, 1) = ⟨true, -5, lOne⟩ from rfl] at ho1 ⊢
 rw [show errN ⟨false, 0, []⟩ (-5, 1) = 0 from rfl]
 obtain ⟨A1, L1, c1, rfl, HL1, _, _, _⟩ := ho1.formN
 obtain rfl : L1 = 1 := HL1.out.symm
 obtain ⟨W1, hW1, hmW1, hbW1, hoW1, hrW1⟩ := opn_new (b := true) (t := -5) ho1 HL1.out
 obtain ⟨b1, hb1⟩ : ∃ b1, b1 = w1.heap.size := ⟨_, rfl⟩
 rw [← hb1] at hbW1
 have z0 := hbW1.cell 0
 have z1 := hbW1.cell 1
 have z2 := hbW1.cell 2
 simp at z0 z1 z2
 have HW1 := Lib.hid hW1; have Hb1 := Lib.hid hb1; have HmW1 := Lib.hid (hm1.trans hmW1 (fun _ _ h => h)); have HbW1 := Lib.hid hbW1; have HrW1 := Lib.hid hrW1; have HtW1 := Lib.hid ((Ht.out.mod hm1).mod hmW1)
 clear ho1 hm1 hW1 hmW1 hbW1 hoW1 hrW1 hb1
 go_upto_region 2 with fail
 rw [← HW1.out, ← Hb1.out]
 go_wp2_with fail
 refine (add_any true (-5) A1 1 c1 lOne (-5) 2 W1 HrW1.out (by decide)).mono ?_
 intro e w2 he
 obtain ⟨v2, rfl, ho2, hm2⟩ := he
 rw [show addN ⟨true, -5, lOne⟩ (-5, 2) = ⟨true, -5, lOne⟩ from rfl] at ho2 ⊢
 rw [show errN ⟨true, -5, lOne⟩ (-5, 2) = 1 from rfl]
 obtain ⟨A2, L2, c2, rfl, HL2, _, _, _⟩ := ho2.formN
 obtain rfl : L2 = 1 := HL2.out.symm
 obtain ⟨W2, hW2, hmW2, hbW2, hoW2, hrW2⟩ := opn_new (b := true) (t := -5) ho2 HL2.out
 obtain ⟨b2, hb2⟩ : ∃ b2, b2 = w2.heap.size := ⟨_, rfl⟩
 rw [← hb2] at hbW2
 have hm12 := hm2.trans hmW2 (fun _ _ h => h)
 have hbX1 := hm12.blk HbW1.out (fun h => h)
 have y0 := hbX1.cell 0
 have y1 := hbX1.cell 1
 have y2 := hbX1.cell 2
 simp at y0 y1 y2
 have HW2 := Lib.hid hW2; have Hb2 := Lib.hid hb2; have HmW2 := Lib.hid (HmW1.out.trans hm12 (fun _ _ h => h)); have HbW2 := Lib.hid hbW2; have HbX1 := Lib.hid hbX1; have HrX1 := Lib.hid (HrW1.out.new hm12).fit; have HtW2 := Lib.hid (HtW1.out.mod hm12)
 clear ho2 hm2 hW2 hmW2 hbW2 hoW2 hrW2 hb2 hm12 hbX1 z0 z1 z2 HW1 HmW1 HbW1 HrW1 HtW1
 go_upto_region 3 with fail
 rw [← HW2.out, ← Hb2.out]
 go_wp2_with fail
 refine (close_any true (-5) A1 1 c1 lOne W2 HrX1.out lOne_good HtW2.out).mono ?_
 intro e w3 he
 obtain ⟨v3, rfl, ho3, hm3⟩ := he
 obtain ⟨A3, L3, c3, rfl, HL3, hc3, hcm3, hr3⟩ := own_formN8 ho3
 have hL3 : L3 ≤ 20000 := by have := HL3.out; have := Hlen.out; omega
 obtain ⟨W3, hW3⟩ : ∃ W3, W3 = w3.alloc (.cells #[.bool true, .int .i64 (-5), .slice none 0 0] 25) := ⟨_, rfl⟩
 obtain ⟨b3, hb3⟩ : ∃ b3, b3 = w3.heap.size := ⟨_, rfl⟩
 have hmW3 : Mod (fun _ => False) w3 W3 := by rw [hW3]; exact (Mod.refl _ _).alloc _
 have hbW3 : Blk W3 b3 25 #[.bool true, .int .i64 (-5), .slice none 0 0] := by rw [hW3, hb3]; exact Blk.new _ _ _
 have hm23 := hm3.trans hmW3 (fun _ _ h => h)
 have HW3 := Lib.hid hW3; have Hb3 := Lib.hid hb3; have HmW3 := Lib.hid (HmW2.out.trans hm23 (fun _ _ h => h)); have HbW3 := Lib.hid hbW3; have HbY1 := Lib.hid (hm23.blk HbX1.out (fun h => h)); have HbY2 := Lib.hid (hm23.blk HbW2.out (fun h => h)); have HrY1 := Lib.hid (HrX1.out.new hm23).fit; have HtW3 := Lib.hid (HtW2.out.mod hm23); have Hr3 := Lib.hid (hr3.new hmW3).fit
 clear ho3 hm3 hW3 hb3 hmW3 hbW3 hm23 y0 y1 y2 HW2 HmW2 HbW2 HbX1 HrX1 HtW2 hr3
 go_upto_region 4 with fail
 rw [← HW3.out, ← Hb3.out]
 go_wp2_with fail
 refine (ropen_any A3 L3 c3 (chkN ⟨true, -5, lOne⟩) W3 Hr3.out Hlt.out hc3 hcm3 (by omega)).mono ?_
 intro e w4 he
 rw [Hopen.out] at he
 obtain ⟨v4, rfl, ho4, hm4⟩ := he
 obtain ⟨A4, L4, c4, rfl, HL4, _, _, _⟩ := ho4.formN
 obtain rfl : L4 = 1 := HL4.out.symm
 have hb4 := hm4.blk HbW3.out (fun h => h)
 have y0 := hb4.cell 0
 have y1 := hb4.cell 1
 have y2 := hb4.cell 2
 simp at y0 y1 y2
 have HmW4 := Lib.hid (HmW3.out.trans hm4 (fun _ _ h => h)); have Hb4 := Lib.hid hb4; have HbZ1 := Lib.hid (hm4.blk HbY1.out (fun h => h)); have HbZ2 := Lib.hid (hm4.blk HbY2.out (fun h => h)); have HrZ1 := Lib.hid (HrY1.out.new hm4).fit
 clear ho4 hm4 hb4 HmW3 HW3 HbW3 HbY1 HbY2 HrY1 HtW3 Hr3
 go_wp2_with fail
 refine (add_any true (-5) none 0 0 [] (-5) 0 w4 (RdsS.nil _ _ _) (by decide)).mono ?_
 intro e w5 he
 obtain ⟨v5, rfl, ho5, hm5⟩ := he
 rw [show addN ⟨true, -5, []⟩ (-5, 0) = ⟨true, -5, []⟩ from rfl] at ho5 ⊢
 rw [show errN ⟨true, -5, []⟩ (-5, 0) = 1 from rfl]
 obtain ⟨A5, L5, c5, rfl, HL5, _, _, _⟩ := ho5.formN
 obtain rfl : L5 = 0 := HL5.out.symm
 obtain ⟨W5, hW5, hmW5, hbW5, hoW5, hrW5⟩ := opn_new (b := true) (t := -5) ho5 HL5.out
 have hm45 := hm5.trans hmW5 (fun _ _ h => h)
 have hbA := hm45.blk HbZ1.out (fun h => h)
 have hbB := hm45.blk HbZ2.out (fun h => h)
 have hbC := hm45.blk Hb4.out (fun h => h)
 have z0 := hbA.cell 0
 have z1 := hbA.cell 1
 have z2 := hbA.cell 2
 have x2 := hbB.cell 2
 have u0 := hbC.cell 0
 have u1 := hbC.cell 1
 have u2 := hbC.cell 2
 simp at z0 z1 z2 x2 u0 u1 u2
 have HW5 := Lib.hid hW5; have HmW5 := Lib.hid (HmW4.out.trans hm45 (fun _ _ h => h)); have HbA := Lib.hid hbA
 clear ho5 hm5 hW5 hmW5 hbW5 hoW5 hrW5 hm45 hbA hbB hbC y0 y1 y2 HmW4 Hb4 HbZ1 HbZ2 HrZ1
 go_upto_region 6 with fail
 rw [← HW5.out]
 go_wp2_with fail
 refine (size_any true (-5) A1 1 c1 W5 (by decide)).mono ?_
 rintro e w6 ⟨rfl, hm6⟩
 have hb6 := hm6.blk HbA.out (fun h => h)
 have t0 := hb6.cell 0
 have t1 := hb6.cell 1
 have t2 := hb6.cell 2
 simp at t0 t1 t2
 have Hm6 := Lib.hid (HmW5.out.trans hm6 (fun _ _ h => h))
 clear hm6 hb6 z0 z1 z2 x2 u0 u1 u2 HmW5 HbA HW5
 go_wp2_with fail
 refine (full_any true (-5) A1 1 c1 w6).mono ?_
 rintro e w7 ⟨rfl, hm7⟩
 have Hm7 := Lib.hid (Hm6.out.trans hm7 (fun _ _ h => h))
 clear hm7 t0 t1 t2
 rw [show decide (8 ≤ 1) = false from rfl]
 go_wp2_with fail
 go_ret
 exact ⟨rfl, Hm7.out⟩
end Go.Proofs.YtmeilddngohccaaGreatDoor

/- Samples that come, as the document has it: Close, SameOpen. -/
namespace Go.Proofs.YtmeilddngohccaaGreatDoor
open Go.RowKit

set_option maxHeartbeats 1000000 in
set_option maxRecDepth 100000 in
theorem rclose_any (b : Bool) (t : Int) (A : Option Addr) (n c : Nat) (l : List (Int × Nat)) (w : World) (hs : RdsS w w.heap.size A n l) (hg : GoodS l) (hn : n ≤ 1000000) :
  Calls Tryz.prog 13 #[.agg #[.bool b, .int .i64 t, .slice A n c]] w fun e w' => ShutEnd w w' ⟨b, t, l⟩ e := by
 obtain ⟨W, hW⟩ : ∃ W, W = (w.alloc (.cells #[.bool b, .int .i64 t, .slice A n c] 25)).alloc (.cells #[.bool false, .int .i64 0, .slice none 0 0] 25) := ⟨_, rfl⟩
 obtain ⟨g0, hg0⟩ : ∃ g, g = w.heap.size := ⟨_, rfl⟩
 obtain ⟨g1, hg1⟩ : ∃ g, g = w.heap.size + 1 := ⟨_, rfl⟩
 have hmW : Mod (fun _ => False) w W := by rw [hW]; exact ((Mod.refl _ _).alloc _).alloc _
 have hb0 : Blk W g0 25 #[.bool b, .int .i64 t, .slice A n c] := by rw [hW, hg0]; exact (Blk.new _ _ _).alloc _
 have hb1 : Blk W g1 25 #[.bool false, .int .i64 0, .slice none 0 0] := by
  rw [hW, hg1]
  have h := Blk.new (w.alloc (.cells #[.bool b, .int .i64 t, .slice A n c] 25)) 25 #[.bool false, .int .i64 0, .slice none 0 0]
  simpa using h
 have hsz : W.heap.size = g1 + 1 := by rw [hW, hg1]; simp
 have z0 := hb0.cell 0
 have z1 := hb0.cell 1
 have z2 := hb0.cell 2
 simp at z0 z1 z2
 have Hs := Lib.hid (hs.new hmW).fit; have Hg := Lib.hid hg; have Hsz := Lib.hid hsz
 have HW := Lib.hid hW; have HmW := Lib.hid hmW; have Hb0 := Lib.hid hb0; have Hb1 := Lib.hid hb1; have Hg0 := Lib.hid hg0; have Hg1 := Lib.hid hg1
 clear hs hW hmW hb0 hb1 hg0 hg1 hg hsz
 go_enter Tryz.func13, Tryz.ntmps13
 go_upto_region 1 with fail
 rw [← HW.out, ← Hg1.out, ← Hg0.out]
 go_wp2_with fail
 refine (rmake_any 1 A n c l W Hs.out Hg.out hn).mono ?_
 intro e w1 he
 obtain ⟨v1, b1, rfl, ho1, hm1⟩ := EncB.bytes (o := makeC 1 l) he
 obtain ⟨A1, L1, c1, rfl, HL1, _, _, _⟩ := own_formN8 ho1
 have hb0 := hm1.blk Hb0.out (fun h => h)
 have hb1 := hm1.blk Hb1.out (fun h => h)
 have y0 := hb0.cell 0
 have y1 := hb0.cell 1
 have r0 := hb1.cell 0
 have r1 := hb1.cell 1
 have r2 := hb1.cell 2
 have f0 := hb1.frozen 0
 have f1 := hb1.frozen 1
 have f2 := hb1.frozen 2
 simp at y0 y1 r0 r1 r2
 have Hm1 := Lib.hid (HmW.out.trans hm1 (fun _ _ h => h)); have Ho1 := Lib.hid ho1; have Hb11 := Lib.hid hb1
 have Hr : Hid (ShutEnd w (((w1.setCell ⟨g1, 0, none⟩ (.bool b)).setCell ⟨g1, 1, none⟩ (.int .i64 t)).setCell ⟨g1, 2, none⟩ (.slice none 0 0)) ⟨b, t, l⟩ (.returned (.tuple #[.slice A1 L1 c1, .agg #[.bool b, .int .i64 t, .slice none 0 0]]))) := Lib.hid (by
  have hmm := Mod.three_one w1 g1 (.bool b) (.int .i64 t) (.slice none 0 0)
  exact ⟨_, rfl, Own.mono (hmm.owns (show Own W.heap.size w1 5 (.slice A1 L1 c1) (cells8 (chkN ⟨b, t, l⟩)) from Ho1.out) (fun k hk h => by have h1 := (Ho1.out.block k hk).1; have := Hsz.out; omega)) (by have := Hsz.out; have := Hg1.out; omega), Hm1.out.three_new (by have := Hg1.out; omega) _ _ _⟩)
 clear he ho1 hm1 hb0 hb1 z0 z1 z2 Hs HW HmW Hb0 Hb1 Hg0 Hm1 Ho1
 go_upto_region 2 with fail
 go_region
 all_goals (
  go_wp2_with fail
  refine bodyPost_ret (v := .tuple #[.slice A1 L1 c1, .agg #[.bool b, .int .i64 t, .slice none 0 0]]) (by have h := Hb11.out.three (.bool b) (.int .i64 t) (.slice none 0 0); simp [results, Tryz.results13, go_sem, h.1, h.2.1, h.2.2.1]) rfl Hr.out.drew)

set_option maxHeartbeats 1000000 in
set_option maxRecDepth 100000 in
theorem sameOpen_any (b : Bool) (t : Int) (A A2 : Option Addr) (n c c2 B B2 : Nat) (l : List (Int × Nat)) (w : World) (hs : RdsS w B A n l) (hs2 : RdsS w B2 A2 n l) (hn : n ≤ 1000000) :
  Calls Tryz.prog 15 #[.agg #[.bool b, .int .i64 t, .slice A n c], .agg #[.bool b, .int .i64 t, .slice A2 n c2]] w fun e w' => e = .returned (.bool true) ∧ Mod (fun _ => False) w w' := by
 obtain ⟨W, hW⟩ : ∃ W, W = (w.alloc (.cells #[.bool b, .int .i64 t, .slice A n c] 25)).alloc (.cells #[.bool b, .int .i64 t, .slice A2 n c2] 25) := ⟨_, rfl⟩
 obtain ⟨g0, hg0⟩ : ∃ g, g = w.heap.size := ⟨_, rfl⟩
 obtain ⟨g1, hg1⟩ : ∃ g, g = w.heap.size + 1 := ⟨_, rfl⟩
 have hmW : Mod (fun _ => False) w W := by rw [hW]; exact ((Mod.refl _ _).alloc _).alloc _
 have hb0 : Blk W g0 25 #[.bool b, .int .i64 t, .slice A n c] := by rw [hW, hg0]; exact (Blk.new _ _ _).alloc _
 have hb1 : Blk W g1 25 #[.bool b, .int .i64 t, .slice A2 n c2] := by
  rw [hW, hg1]
  have h := Blk.new (w.alloc (.cells #[.bool b, .int .i64 t, .slice A n c] 25)) 25 #[.bool b, .int .i64 t, .slice A2 n c2]
  simpa using h
 have z0 := hb0.cell 0
 have z1 := hb0.cell 1
 have z2 := hb0.cell 2
 have y0 := hb1.cell 0
 have y1 := hb1.cell 1
 have y2 := hb1.cell 2
 simp at z0 z1 z2 y0 y1 y2
 have Hs := Lib.hid (hs.fit.new hmW); have Hs2 := Lib.hid (hs2.fit.new hmW); have HW := Lib.hid hW; have HmW := Lib.hid hmW; have Hg0 := Lib.hid hg0; have Hg1 := Lib.hid hg1
 clear hs hs2 hW hmW hb0 hb1 hg0 hg1
 cases b with
 | false =>
  go_enter Tryz.func15, Tryz.ntmps15
  go_upto_region 1 with fail
  rw [← HW.out, ← Hg1.out, ← Hg0.out]
  go_wp2_with fail
  refine (sameS_any A A2 n n c c2 _ _ l l true W Hs.out Hs2.out hn (by simp)).mono ?_
  rintro e w1 ⟨rfl, hm1⟩
  have Hm1 := Lib.hid (HmW.out.trans hm1 (fun _ _ h => h))
  clear hm1 z0 z1 z2 y0 y1 y2
  go_wp2_with fail
  go_ret
  exact ⟨rfl, Hm1.out⟩
 | true =>
  go_enter Tryz.func15, Tryz.ntmps15
  go_upto_region 1 with fail
  rw [← HW.out, ← Hg1.out, ← Hg0.out]
  go_wp2_with fail
  refine (sameS_any A A2 n n c c2 _ _ l l true W Hs.out Hs2.out hn (by simp)).mono ?_
  rintro e w1 ⟨rfl, hm1⟩
  have Hm1 := Lib.hid (HmW.out.trans hm1 (fun _ _ h => h))
  clear hm1 z0 z1 z2 y0 y1 y2
  go_wp2_with fail
  go_ret
  exact ⟨rfl, Hm1.out⟩
end Go.Proofs.YtmeilddngohccaaGreatDoor

/- One cell of one sample of a row of the call's own written; the tables stay. -/
namespace Go.Proofs.YtmeilddngohccaaGreatDoor
open Go.RowKit

theorem Tabs.modS {w0 w w' : World} {S : Nat → Prop} (h0 : Tabs w0) (h : Tabs w) (hm : Mod S w w') (hS : ∀ i, S i → w0.heap.size ≤ i) : Tabs w' :=
 ⟨h.wid.mod hm (fun e => by have := h0.wid.1; have := hS _ e; omega), h.deb.mod hm (fun e => by have := h0.deb.1; have := hS _ e; omega), h.kin.mod hm (fun e => by have := h0.kin.1; have := hS _ e; omega)⟩
end Go.Proofs.YtmeilddngohccaaGreatDoor

/- AppdPlays' walk. -/
namespace Go.Proofs.YtmeilddngohccaaGreatDoor
open Go.RowKit

/-- How far the script has come: two open lists that say the same. -/
def PlayTo (W wr : World) (g7 g8 i : Nat) : Prop :=
 ∃ (o : OpnN) (L : Nat) (A1 : Option Addr) (c1 : Nat) (A2 : Option Addr) (c2 : Nat), Blk wr g7 25 #[.bool o.any, .int .i64 o.last, .slice A1 L c1] ∧ Blk wr g8 25 #[.bool o.any, .int .i64 o.last, .slice A2 L c2] ∧
  OwnS W.heap.size wr (.slice A1 L c1) o.list ∧ OwnS W.heap.size wr (.slice A2 L c2) o.list ∧ o.list.length = L ∧ L ≤ i ∧ GoodS o.list ∧ Mod (fun k => k = g7 ∨ k = g8) W wr
theorem PlayTo.more {W wr w' : World} {g7 g8 i : Nat} (h : PlayTo W wr g7 g8 i) (hm : Mod (fun _ => False) wr w') : PlayTo W w' g7 g8 i := by
 obtain ⟨o, L, A1, c1, A2, c2, h1, h2, h3, h4, h5, h6, h7, h8⟩ := h
 exact ⟨o, L, A1, c1, A2, c2, hm.blk h1 (fun h => h), hm.blk h2 (fun h => h), h3.mod hm, h4.mod hm, h5, h6, h7, h8.trans hm (fun _ _ h => h.elim)⟩
theorem goodS_snoc {l : List (Int × Nat)} {p : Int × Nat} (h : GoodS l) (h1 : Fits p.1) (h2 : p.2 < 2 ^ 64) : GoodS (l ++ [p]) := by
 intro q hq
 rcases List.mem_append.1 hq with h3 | h3
 ·exact h q h3
 ·rw [List.mem_singleton.1 h3]; exact ⟨h1, h2⟩
theorem goodS_add {o : OpnN} {p : Int × Nat} (h : GoodS o.list) (h1 : Fits p.1) (h2 : p.2 < 2 ^ 64) : GoodS (addN o p).list := by
 unfold addN
 split
 ·exact h
 ·exact goodS_snoc h h1 h2
theorem addN_len {o : OpnN} {p : Int × Nat} : (addN o p).list.length ≤ o.list.length + 1 := by
 unfold addN
 split
 ·omega
 ·simp
theorem fits_small {x : Nat} (h : x < 1000) : Fits (x : Int) := by
 unfold Fits
 have : H63 = 9223372036854775808 := rfl
 omega
/-- Both are written anew. -/
theorem two_opens {w : World} {g7 g8 : Nat} {t : TypeId} {a0 a1 a2 b0 b1 b2 : Value} (h7 : Blk w g7 t #[a0, a1, a2]) (h8 : Blk w g8 t #[b0, b1, b2]) (hne : g7 ≠ g8) (x y u v : Value) :
  let w1 := ((w.setCell ⟨g7, 0, none⟩ x).setCell ⟨g7, 1, none⟩ y).setCell ⟨g7, 2, none⟩ u
  let w2 := ((w1.setCell ⟨g8, 0, none⟩ x).setCell ⟨g8, 1, none⟩ y).setCell ⟨g8, 2, none⟩ v
  Blk w2 g7 t #[x, y, u] ∧ Blk w2 g8 t #[x, y, v] ∧ Mod (fun k => k = g7 ∨ k = g8) w w2 := by
 have m1 := Mod.three_one w g7 x y u
 have b7 := (h7.three x y u).2.2.2
 have b8 := m1.blk h8 (fun e => hne e.symm)
 have m2 := Mod.three_one (((w.setCell ⟨g7, 0, none⟩ x).setCell ⟨g7, 1, none⟩ y).setCell ⟨g7, 2, none⟩ u) g8 x y v
 exact ⟨m2.blk b7 hne, (b8.three x y v).2.2.2, (m1.mono (fun _ _ h => .inl h)).trans m2 (fun _ _ h => .inr h)⟩
set_option maxHeartbeats 4000000 in
set_option maxRecDepth 100000 in
theorem appdPlays_walk (A0 A1 : Option Addr) (n0 c0 n1 c1 : Nat) (raw : List (Int × Nat)) (zs : List Int) (few : Bool) (w : World) (hs : RdsS w w.heap.size A0 n0 raw) (hg : GoodS raw) (hz : SeesI .i64 w w.heap.size A1 n1 zs) (ht : Tabs w) :
  Calls Tryz.prog 5 #[.slice A0 n0 c0, .slice A1 n1 c1, .bool few] w fun e w' => e = .returned (.bool true) ∧ Mod (fun _ => False) w w' := by
 obtain ⟨W, hW⟩ : ∃ W, W = (w.alloc (.cells #[.bool false, .int .i64 0, .slice none 0 0] 25)).alloc (.cells #[.bool false, .int .i64 0, .slice none 0 0] 25) := ⟨_, rfl⟩
 obtain ⟨g7, hg7⟩ : ∃ g, g = w.heap.size := ⟨_, rfl⟩
 obtain ⟨g8, hg8⟩ : ∃ g, g = w.heap.size + 1 := ⟨_, rfl⟩
 have hmW : Mod (fun _ => False) w W := by rw [hW]; exact ((Mod.refl _ _).alloc _).alloc _
 have hb7 : Blk W g7 25 #[.bool false, .int .i64 0, .slice none 0 0] := by rw [hW, hg7]; exact (Blk.new _ _ _).alloc _
 have hb8 : Blk W g8 25 #[.bool false, .int .i64 0, .slice none 0 0] := by
  rw [hW, hg8]
  have h := Blk.new (w.alloc (.cells #[.bool false, .int .i64 0, .slice none 0 0] 25)) 25 #[.bool false, .int .i64 0, .slice none 0 0]
  simpa using h
 have hne : g7 ≠ g8 := by omega
 have P0 : Hid (PlayTo W W g7 g8 0) := Lib.hid ⟨zeroN, 0, none, 0, none, 0, hb7, hb8, OwnS.nil _ _, OwnS.nil _ _, rfl, Nat.le_refl _, (fun p h => by cases h), Mod.refl _ _⟩
 have hs' : RdsS W g7 A0 n0 raw := by rw [hg7]; exact hs.mod hmW (Nat.le_refl _) (fun _ _ h => h)
 have hz' : SeesI .i64 W g7 A1 n1 zs := by rw [hg7]; exact hz.modS hmW (Nat.le_refl _) (fun _ _ h => h)
 have Hs := Lib.hid hs'; have Hz := Lib.hid hz'; have Hg := Lib.hid hg; have Ht := Lib.hid (ht.mod hmW); have Ht0 := Lib.hid ht; have HmW := Lib.hid hmW; have HW := Lib.hid hW; have Hg7 := Lib.hid hg7; have Hg8 := Lib.hid hg8
 have HgW : Hid (w.heap.size ≤ g7 ∧ g7 < W.heap.size ∧ g8 < W.heap.size ∧ w.heap.size ≤ g8 ∧ g7 < g8) := Lib.hid ⟨by omega, hb7.lt, hb8.lt, by omega, by omega⟩
 clear hs hs' hz hz' hg ht hmW hb7 hb8 hW hg7 hg8
 go_enter Tryz.func5, Tryz.ntmps5
 go_upto_region 2 with fail
 rw [← HW.out, ← Hg8.out, ← Hg7.out]
 go_wp2_with fail
 go_loopg [9] 60 (fun gk s9 wr => ∃ i : Nat, i + gk = 60 ∧ s9 = .int .i64 (i : Int) ∧ PlayTo W wr g7 g8 i)
 case atStart => exact ⟨0, by omega, rfl, P0.out⟩
 case round =>
  obtain ⟨i, hik, rfl, hP⟩ := hrel
  have Hik := Lib.hid hik; have HP := Lib.hid hP
  have hi60 : i ≤ 60 := by omega
  clear hik hP P0
  by_cases hin : i < n0 ∧ i < n1 ∧ i < 60
  ·obtain ⟨hi0, hi1, hi6⟩ := hin
   have hm := (show Mod (fun k => k = g7 ∨ k = g8) W wr by obtain ⟨_, _, _, _, _, _, _, _, _, _, _, _, _, h⟩ := HP.out; exact h)
   obtain ⟨ad, ⟨T, V⟩, rfl, hadb, hp, hc0, hc1⟩ := Hs.out.at2 hi0 (Nat.le_of_lt HgW.out.2.1) hm (fun ad e h => by
    obtain ⟨ad', e', hb⟩ := Hs.out.some_ (by omega)
    rw [e] at e'
    injection e' with e'
    rw [← e'] at hb
    have := HgW.out
    omega)
   obtain ⟨ad1, y, rfl, _, hcy⟩ := Hz.out.at_ hi1 (Nat.le_of_lt HgW.out.2.1) hm (fun j hj h => by have := HgW.out; omega)
   have hc1' := cell_whole hc1
   have hgp := Hg.out _ (List.mem_of_getElem? hp)
   have hi0i : (i : Int) < (n0 : Int) := by omega
   have hi1i : (i : Int) < (n1 : Int) := by omega
   have hi6i : (i : Int) < 60 := by omega
   have hcs : Tryz.prog.cellsOf 28 = 2 := by kernel_rfl
   obtain ⟨W1, hW1⟩ : ∃ W1, W1 = wr.alloc (.cells #[.int .i64 T, .int .u64 (V : Int)] 28) := ⟨_, rfl⟩
   obtain ⟨gs, hgs⟩ : ∃ gs, gs = wr.heap.size := ⟨_, rfl⟩
   have hmW1 : Mod (fun _ => False) wr W1 := by rw [hW1]; exact (Mod.refl _ _).alloc _
   have hbs : Blk W1 gs 28 #[.int .i64 T, .int .u64 (V : Int)] := by rw [hW1, hgs]; exact Blk.new _ _ _
   have hcy1 : W1.cell? (ad1.add i) = some (.int .i64 y) := by
    rw [hW1]
    exact (World.cell?_alloc_lt wr _ _ (World.block_lt_of_cell? wr _ hcy)).trans hcy
   have HW1 := Lib.hid hW1; have Hgs := Lib.hid hgs; have HmW1 := Lib.hid hmW1; have Hbs := Lib.hid hbs; have Hgp := Lib.hid hgp; have Hcy1 := Lib.hid hcy1
   clear hm hadb hp hc1 hgp hW1 hgs hmW1 hbs hcy hcy1
   go_upto_region 6 with fail
   rw [← HW1.out, ← Hgs.out]
   clear hc0 hc1' HW1
   go_upto_if 39 with fail
   go_cut [10] (fun s10 wc => ∃ T1 : Int, Fits T1 ∧ s10 = .pointer (some ⟨gs, 0, none⟩) ∧ Blk wc gs 28 #[.int .i64 T1, .int .u64 (V : Int)] ∧ Mod (fun k => k = gs) W1 wc)
   case first =>
    cases few with
    | false =>
     go_wp2_with fail
     go_meet
     case rel => exact ⟨T, Hgp.out.1, rfl, Hbs.out, Mod.refl _ _⟩
    | true =>
     obtain ⟨x, hx, hx32⟩ : ∃ x : Nat, bits .and .i64 T 31 = (x : Int) ∧ x < 2 ^ 5 := and_nat T 31 5 rfl (by omega)
     have z0 := Hbs.out.cell 0
     have f0 := Hbs.out.frozen 0
     simp at z0
     go_wp2_with fail
     go_meet
     case rel => exact ⟨(x : Int), fits_small (by have : (2 : Nat) ^ 5 = 32 := rfl; omega), rfl, by have := Hbs.out.set_ 0 (.int .i64 (x : Int)); simpa using this, (Mod.refl (fun k => k = gs) W1).setCell (p := ⟨gs, 0, none⟩) (fun _ => rfl) _⟩
   case rest =>
    obtain ⟨T1, hT1, rfl, hbs, hmc⟩ := hcut
    have hkg : ∀ k, k < wr.heap.size → ¬ k = gs := fun k hk e => by have := Hgs.out; omega
    have hmc' : Mod (fun k => k = gs) wr wc := (HmW1.out.mono (fun _ _ h => h.elim)).trans hmc (fun i hi h => h)
    obtain ⟨⟨b, t, l⟩, L, B1, d1, B2, d2, h7, h8, ho1, ho2, hL, hLi, hgl, hm⟩ := HP.out
    have hcy : wc.cell? (ad1.add i) = some (.int .i64 y) := by
     rw [hmc.cell (a := ad1.add i) (World.block_lt_of_cell? W1 _ Hcy1.out) (fun e => by
      obtain ⟨ad', e', hb⟩ : ∃ ad', some ad1 = some ad' ∧ ad'.block < g7 := by
       obtain ⟨ad', e', hb, _⟩ := Hz.out.2 (by omega)
       exact ⟨ad', e', hb⟩
      injection e' with e'
      rw [← e'] at hb
      rw [add_block] at e
      have := HgW.out
      have := hm.size
      have := Hgs.out
      omega)]
     exact Hcy1.out
    have H7 := Lib.hid (hmc'.blk h7 (hkg _ h7.lt)); have H8 := Lib.hid (hmc'.blk h8 (hkg _ h8.lt))
    have Ho1 : Hid (OwnS W.heap.size wc (.slice B1 L d1) l) := Lib.hid (hmc'.owns ho1 (fun k h e => hkg k (ho1.block k h).2 e))
    have Ho2 : Hid (OwnS W.heap.size wc (.slice B2 L d2) l) := Lib.hid (hmc'.owns ho2 (fun k h e => hkg k (ho2.block k h).2 e))
    have Hm : Hid (Mod (fun k => k = g7 ∨ k = g8) W wc) := Lib.hid (hm.trans hmc' (fun k hk e => by have := hm.size; have := Hgs.out; omega))
    have HL := Lib.hid (show l.length = L from hL); have Hgl := Lib.hid (show GoodS l from hgl); have HT1 := Lib.hid hT1; have Hbs2 := Lib.hid hbs
    obtain ⟨x, hx, hx8⟩ : ∃ x : Nat, bits .and .i64 y 7 = (x : Int) ∧ x < 2 ^ 3 := and_nat y 7 3 rfl (by omega)
    have HTc := Lib.hid (Tabs.modS Ht0.out Ht.out Hm.out (fun k h => by have := HgW.out; rcases h with h | h <;> omega))
    have Hwc : Hid (W.heap.size ≤ wc.heap.size) := Lib.hid Hm.out.size
    clear hT1 hbs hmc hmc' h7 h8 ho1 ho2 hL hgl hm HmW1 Hbs hx8 Hcy1
    go_upto_if 49 with fail
    go_cut [10] (fun s10 wx => PlayTo W wx g7 g8 (i + 1))
    case first =>
     have z0 := H7.out.cell 0
     have z1 := H7.out.cell 1
     have z2 := H7.out.cell 2
     simp at z0 z1 z2
     by_cases hx0 : x = 0
     ·have hxb : ((x : Int) == 0) = true := by simp; omega
      clear hx0
      go_wp2_with fail
      refine (close_any b t B1 L d1 l wc (Ho1.out.rds HL.out) Hgl.out HTc.out).mono ?_
      intro e w1 he
      obtain ⟨v1, rfl, hob1, hm1⟩ := he
      obtain ⟨A3, L3, c3, rfl, HL3, _, _, hr3⟩ := own_formN8 hob1
      obtain ⟨W3, hW3⟩ : ∃ W3, W3 = w1.alloc (.cells #[.bool b, .int .i64 t, .slice none 0 0] 25) := ⟨_, rfl⟩
      obtain ⟨g12, hg12⟩ : ∃ g, g = w1.heap.size := ⟨_, rfl⟩
      have hmW3 : Mod (fun _ => False) wc W3 := by rw [hW3]; exact hm1.alloc _
      have hb12 : Blk W3 g12 25 #[.bool b, .int .i64 t, .slice none 0 0] := by rw [hW3, hg12]; exact Blk.new _ _ _
      have h83 := hmW3.blk H8.out (fun h => h)
      have y0 := h83.cell 0
      have y1 := h83.cell 1
      have y2 := h83.cell 2
      simp at y0 y1 y2
      have HW3 := Lib.hid hW3; have Hg12 := Lib.hid hg12; have Hb12s : Hid (wc.heap.size ≤ g12) := Lib.hid (by rw [hg12]; exact hm1.size); have HmW3 := Lib.hid hmW3; have Hb12 := Lib.hid hb12; have H83 := Lib.hid h83; have H73 := Lib.hid (hmW3.blk H7.out (fun h => h)); have Hr3 : Hid (Rds W3 W3.heap.size A3 L3 (cells8 (chkN ⟨b, t, l⟩))) := Lib.hid (by rw [hW3]; exact (hr3.alloc (Nat.le_refl _) _).fit); have Ho23 := Lib.hid (Ho2.out.mod hmW3)
      clear hob1 hm1 hr3 hW3 hg12 hmW3 hb12 h83 z0 z1 z2
      go_upto_region 10 with fail
      rw [← HW3.out, ← Hg12.out]
      go_wp2_with fail
      refine (rclose_any b t B2 L d2 l W3 (Ho23.out.rds HL.out) Hgl.out (by omega)).mono ?_
      intro e w4 he
      obtain ⟨v4, rfl, hob4, hm4⟩ := he
      obtain ⟨A4, L4, c4, rfl, HL4, _, _, hr4⟩ := own_formN8 hob4
      obtain ⟨W5, hW5⟩ : ∃ W5, W5 = w4.alloc (.cells #[.bool b, .int .i64 t, .slice none 0 0] 25) := ⟨_, rfl⟩
      obtain ⟨g14, hg14⟩ : ∃ g, g = w4.heap.size := ⟨_, rfl⟩
      have hmW5 : Mod (fun _ => False) W3 W5 := by rw [hW5]; exact hm4.alloc _
      have hb14 : Blk W5 g14 25 #[.bool b, .int .i64 t, .slice none 0 0] := by rw [hW5, hg14]; exact Blk.new _ _ _
      obtain ⟨s, hss⟩ : ∃ s, s = strOf (chkN ⟨b, t, l⟩) := ⟨_, rfl⟩
      have hcv1 : (convert 34 9 (.slice A3 L3 c3)).run Tryz.prog W5 = .ok (.string s) W5 := by
       rw [hss]; exact conv_rds Tryz.underlying34 Tryz.underlying5 Tryz.underlying9 W5 (Hr3.out.new hmW5) chkN_256
      have hcv2 : (convert 34 9 (.slice A4 L4 c4)).run Tryz.prog W5 = .ok (.string s) W5 := by
       have h5 : Rds W5 W5.heap.size A4 L4 (cells8 (chkN ⟨b, t, l⟩)) := by rw [hW5]; exact (hr4.alloc (Nat.le_refl _) _).fit
       rw [hss]; exact conv_rds Tryz.underlying34 Tryz.underlying5 Tryz.underlying9 W5 h5 chkN_256
      have h75 := hmW5.blk H73.out (fun h => h)
      have h85 := hmW5.blk H83.out (fun h => h)
      have h125 := hmW5.blk Hb12.out (fun h => h)
      have e0 := h125.cell 0
      have e1 := h125.cell 1
      have e2 := h125.cell 2
      have k0 := hb14.cell 0
      have k1 := hb14.cell 1
      have k2 := hb14.cell 2
      have z0 := h75.cell 0
      have z1 := h75.cell 1
      have z2 := h75.cell 2
      have f0 := h75.frozen 0
      have f1 := h75.frozen 1
      have f2 := h75.frozen 2
      have x0 := h85.cell 0
      have x1 := h85.cell 1
      have x2 := h85.cell 2
      have q0 := h85.frozen 0
      have q1 := h85.frozen 1
      have q2 := h85.frozen 2
      simp at e0 e1 e2 k0 k1 k2 z0 z1 z2 x0 x1 x2
      have hb14s : wc.heap.size ≤ g14 := by rw [hg14]; exact Nat.le_trans HmW3.out.size hm4.size
      have nn1 : ¬ g12 = g7 := fun e => by have := Hb12s.out; have := H7.out.lt; omega
      have nn2 : ¬ g14 = g7 := fun e => by have := H7.out.lt; omega
      have nn3 : ¬ g12 = g8 := fun e => by have := Hb12s.out; have := H8.out.lt; omega
      have nn4 : ¬ g14 = g8 := fun e => by have := H8.out.lt; omega
      have nn5 : ¬ g7 = g8 := hne
      have nn6 : ¬ g8 = g7 := fun e => hne e.symm
      have HW5 := Lib.hid hW5; have Hg14 := Lib.hid hg14; have H75 := Lib.hid h75; have H85 := Lib.hid h85; have Hm5 : Hid (Mod (fun k => k = g7 ∨ k = g8) W W5) := Lib.hid ((Hm.out.trans HmW3.out (fun _ _ h => h.elim)).trans hmW5 (fun _ _ h => h.elim))
      clear hob4 hm4 hr4 hW5 hg14 hmW5 hb14 h75 h85 h125 y0 y1 y2 hss HW3 HmW3 H83 H73 Hr3 Ho23
      go_upto_region 11 with fail
      rw [← HW5.out, ← Hg14.out]
      go_wp2_with fail
      go_region
      go_wp2_with fail
      go_meet
      case rel =>
       obtain ⟨p1, p2, p3⟩ := two_opens H75.out H85.out hne (.bool b) (.int .i64 t) (.slice none 0 0) (.slice none 0 0)
       exact ⟨⟨b, t, []⟩, 0, none, 0, none, 0, p1.drew, p2.drew, OwnS.nil _ _, OwnS.nil _ _, rfl, Nat.zero_le _, (fun p h => by cases h), (Hm5.out.trans p3 (fun _ _ h => h)).drew⟩
     ·have hxb : ((x : Int) == 0) = false := by simp; omega
      obtain ⟨o', ho'⟩ : ∃ o', o' = addN ⟨b, t, l⟩ (T1, V) := ⟨_, rfl⟩
      obtain ⟨ex, hex⟩ : ∃ ex, ex = errN ⟨b, t, l⟩ (T1, V) := ⟨_, rfl⟩
      have hgl' : GoodS o'.list := by rw [ho']; exact goodS_add Hgl.out HT1.out Hgp.out.2
      have hll' : o'.list.length ≤ L + 1 := by rw [ho']; have h1 := addN_len (o := ⟨b, t, l⟩) (p := (T1, V)); have h2 : (OpnN.mk b t l).list.length = L := HL.out; omega
      obtain ⟨b', t', l'⟩ := o'
      have Ho' := Lib.hid ho'; have Hex := Lib.hid hex; have Hgl' := Lib.hid hgl'; have Hll' := Lib.hid (show l'.length ≤ L + 1 from hll')
      have y0 := Hbs2.out.cell 0
      have y1 := Hbs2.out.cell 1
      simp at y0 y1
      clear hx0 ho' hex hgl' hll'
      go_wp2_with fail
      refine (add_any b t B1 L d1 l T1 V wc (Ho1.out.rds HL.out) (by omega)).mono ?_
      intro e w1 he
      rw [← Ho'.out, ← Hex.out] at he
      obtain ⟨v1, rfl, hob1, hm1⟩ := (show ∃ v, e = .returned (.tuple #[.agg #[.bool b', .int .i64 t', v], .int .i64 ex]) ∧ OwnS wc.heap.size w1 v l' ∧ Mod (fun _ => False) wc w1 from he)
      obtain ⟨A3, L3, c3, rfl, HL3, _, _, _⟩ := hob1.formN
      obtain ⟨W3, hW3⟩ : ∃ W3, W3 = w1.alloc (.cells #[.bool b', .int .i64 t', .slice A3 L3 c3] 25) := ⟨_, rfl⟩
      obtain ⟨g12, hg12⟩ : ∃ g, g = w1.heap.size := ⟨_, rfl⟩
      have hmW3 : Mod (fun _ => False) wc W3 := by rw [hW3]; exact hm1.alloc _
      have hb12 : Blk W3 g12 25 #[.bool b', .int .i64 t', .slice A3 L3 c3] := by rw [hW3, hg12]; exact Blk.new _ _ _
      have h83 := hmW3.blk H8.out (fun h => h)
      have hs3 := hmW3.blk Hbs2.out (fun h => h)
      have u0 := h83.cell 0
      have u1 := h83.cell 1
      have u2 := h83.cell 2
      have s0 := hs3.cell 0
      have s1 := hs3.cell 1
      simp at u0 u1 u2 s0 s1
      have HW3 := Lib.hid hW3; have Hg12 := Lib.hid hg12; have Hb12s : Hid (wc.heap.size ≤ g12) := Lib.hid (by rw [hg12]; exact hm1.size); have HmW3 := Lib.hid hmW3; have Hb12 := Lib.hid hb12; have H83 := Lib.hid h83; have H73 := Lib.hid (hmW3.blk H7.out (fun h => h)); have Ho23 := Lib.hid (Ho2.out.mod hmW3)
      have Ho33 : Hid (OwnS wc.heap.size W3 (.slice A3 L3 c3) l') := Lib.hid (by rw [hW3]; exact hob1.alloc _)
      clear he hob1 hm1 hW3 hg12 hmW3 hb12 h83 hs3 z0 z1 z2 y0 y1
      go_upto_region 15 with fail
      rw [← HW3.out, ← Hg12.out]
      go_wp2_with fail
      refine (radd_any b t B2 L d2 l T1 V W3 (Ho23.out.rds HL.out) (by omega)).mono ?_
      intro e w4 he
      rw [← Ho'.out, ← Hex.out] at he
      obtain ⟨v4, rfl, hob4, hm4⟩ := (show ∃ v, e = .returned (.tuple #[.agg #[.bool b', .int .i64 t', v], .int .i64 ex]) ∧ OwnS W3.heap.size w4 v l' ∧ Mod (fun _ => False) W3 w4 from he)
      obtain ⟨A4, L4, c4, rfl, HL4, _, _, _⟩ := hob4.formN
      obtain rfl : L4 = L3 := by have := HL4.out; have := HL3.out; omega
      obtain ⟨W5, hW5⟩ : ∃ W5, W5 = w4.alloc (.cells #[.bool b', .int .i64 t', .slice A4 L4 c4] 25) := ⟨_, rfl⟩
      obtain ⟨g14, hg14⟩ : ∃ g, g = w4.heap.size := ⟨_, rfl⟩
      have hmW5 : Mod (fun _ => False) W3 W5 := by rw [hW5]; exact hm4.alloc _
      have hb14 : Blk W5 g14 25 #[.bool b', .int .i64 t', .slice A4 L4 c4] := by rw [hW5, hg14]; exact Blk.new _ _ _
      have h75 := hmW5.blk H73.out (fun h => h)
      have h85 := hmW5.blk H83.out (fun h => h)
      have h125 := hmW5.blk Hb12.out (fun h => h)
      have e0 := h125.cell 0
      have e1 := h125.cell 1
      have e2 := h125.cell 2
      have k0 := hb14.cell 0
      have k1 := hb14.cell 1
      have k2 := hb14.cell 2
      have z0 := h75.cell 0
      have z1 := h75.cell 1
      have z2 := h75.cell 2
      have f0 := h75.frozen 0
      have f1 := h75.frozen 1
      have f2 := h75.frozen 2
      have x0 := h85.cell 0
      have x1 := h85.cell 1
      have x2 := h85.cell 2
      have q0 := h85.frozen 0
      have q1 := h85.frozen 1
      have q2 := h85.frozen 2
      simp at e0 e1 e2 k0 k1 k2 z0 z1 z2 x0 x1 x2
      have hb14s : wc.heap.size ≤ g14 := by rw [hg14]; exact Nat.le_trans HmW3.out.size hm4.size
      have nn1 : ¬ g12 = g7 := fun e => by have := Hb12s.out; have := H7.out.lt; omega
      have nn2 : ¬ g14 = g7 := fun e => by have := H7.out.lt; omega
      have nn3 : ¬ g12 = g8 := fun e => by have := Hb12s.out; have := H8.out.lt; omega
      have nn4 : ¬ g14 = g8 := fun e => by have := H8.out.lt; omega
      have nn5 : ¬ g7 = g8 := hne
      have nn6 : ¬ g8 = g7 := fun e => hne e.symm
      have Ho35 := Lib.hid (Ho33.out.mod hmW5)
      have Ho45 : Hid (OwnS W3.heap.size W5 (.slice A4 L4 c4) l') := Lib.hid (by rw [hW5]; exact hob4.alloc _)
      have HW5 := Lib.hid hW5; have Hg14 := Lib.hid hg14; have H75 := Lib.hid h75; have H85 := Lib.hid h85; have Hm5 : Hid (Mod (fun k => k = g7 ∨ k = g8) W W5) := Lib.hid ((Hm.out.trans HmW3.out (fun _ _ h => h.elim)).trans hmW5 (fun _ _ h => h.elim))
      have Hw3 : Hid (wc.heap.size ≤ W3.heap.size) := Lib.hid HmW3.out.size
      clear he hob4 hm4 hW5 hg14 hmW5 hb14 h75 h85 h125 u0 u1 u2 s0 s1 HW3 HmW3 H83 H73 Ho23 Ho33
      go_upto_region 16 with fail
      rw [← HW5.out, ← Hg14.out]
      go_wp2_with fail
      go_region
      go_wp2_with fail
      go_meet
      case rel =>
       obtain ⟨p1, p2, p3⟩ := two_opens H75.out H85.out hne (.bool b') (.int .i64 t') (.slice A3 L4 c3) (.slice A4 L4 c4)
       have hno : ∀ k, wc.heap.size ≤ k → ¬ (k = g7 ∨ k = g8) := fun k hk h => by have := H7.out.lt; have := H8.out.lt; omega
       exact ⟨⟨b', t', l'⟩, L4, A3, c3, A4, c4, p1.drew, p2.drew, ((Ho35.out.modK p3 hno).mono Hwc.out).drew, ((Ho45.out.modK p3 (fun k hk => hno k (Nat.le_trans Hw3.out hk))).mono (Nat.le_trans Hwc.out Hw3.out)).drew, HL3.out, by have := HL3.out; have := Hll'.out; omega, Hgl'.out, (Hm5.out.trans p3 (fun _ _ h => h)).drew⟩
    case rest =>
     have HP2 := Lib.hid hcut
     obtain ⟨⟨b, t, l⟩, L, B1, d1, B2, d2, h7, h8, ho1, ho2, hL, hLi, _, _⟩ := hcut
     have h7' : Blk wc g7 25 #[.bool b, .int .i64 t, .slice B1 L d1] := h7
     have h8' : Blk wc g8 25 #[.bool b, .int .i64 t, .slice B2 L d2] := h8
     have HX : Hid (∀ W', Mod (fun _ => False) wc W' → Mod (fun _ => False) wc W' ∧ W'.cell? ⟨g7, 0, none⟩ = some (.bool b) ∧ W'.cell? ⟨g7, 1, none⟩ = some (.int .i64 t) ∧ W'.cell? ⟨g7, 2, none⟩ = some (.slice B1 L d1) ∧ W'.cell? ⟨g8, 0, none⟩ = some (.bool b) ∧ W'.cell? ⟨g8, 1, none⟩ = some (.int .i64 t) ∧ W'.cell? ⟨g8, 2, none⟩ = some (.slice B2 L d2)) :=
      Lib.hid (fun W' h => ⟨h, (h.blk h7' (fun h => h)).cell 0, (h.blk h7' (fun h => h)).cell 1, (h.blk h7' (fun h => h)).cell 2, (h.blk h8' (fun h => h)).cell 0, (h.blk h8' (fun h => h)).cell 1, (h.blk h8' (fun h => h)).cell 2⟩)
     have Hr1 := Lib.hid (ho1.rds hL); have Hr2 := Lib.hid (ho2.rds hL)
     have hL61 : L ≤ 61 := by omega
     have S0 := Lib.hid (HX.out _ ((Mod.refl _ wc).drew))
     obtain ⟨bf, hbf⟩ : ∃ bf, bf = decide (8 ≤ L) := ⟨_, rfl⟩
     have hb8 : decide (8 ≤ L) = bf := hbf.symm
     have hb8i : decide ((8 : Int) ≤ (L : Int)) = bf := by rw [hbf]; exact decide_eq_decide.2 (by omega)
     have hw16 : IntKind.i64.wrap (16 * (L : Int)) = 16 * (L : Int) := IntWalk.i64_in _ (by omega)
     have Hbf := Lib.hid hbf
     clear h7 h8 h7' h8' ho1 ho2 hL hLi hbf
     go_upto_region 19 with fail
     go_region_held_law (fun W' => Mod (fun _ => False) wc W' ∧ W'.cell? ⟨g7, 0, none⟩ = some (.bool b) ∧ W'.cell? ⟨g7, 1, none⟩ = some (.int .i64 t) ∧ W'.cell? ⟨g7, 2, none⟩ = some (.slice B1 L d1) ∧ W'.cell? ⟨g8, 0, none⟩ = some (.bool b) ∧ W'.cell? ⟨g8, 1, none⟩ = some (.int .i64 t) ∧ W'.cell? ⟨g8, 2, none⟩ = some (.slice B2 L d2))
      (first
       | (with_reducible exact S0.out)
       | (with_reducible exact S1.out)
       | (with_reducible exact S2.out)
       | (with_reducible exact S3.out))
      (first
       | (go_at_call 7; refine (size_any b t B1 L d1 w2 (by omega)).mono ?_; rintro e w3 ⟨rfl, hm3⟩; have Hm3 := Lib.hid (Hm2.out.trans hm3 (fun _ _ h => h)); have S3 := Lib.hid (HX.out _ Hm3.out); clear hm3)
       | (go_at_call 8; refine (full_any b t B1 L d1 w1).mono ?_; rintro e w2 ⟨rfl, hm2⟩; rw [← Hbf.out]; have Hm2 := Lib.hid (Hm1.out.trans hm2 (fun _ _ h => h)); have S2 := Lib.hid (HX.out _ Hm2.out); clear hm2)
       | (go_at_call 15; refine (sameOpen_any b t B1 B2 L d1 d2 _ _ l wc.drew Hr1.out.drew Hr2.out.drew (by omega)).mono ?_; rintro e w1 ⟨rfl, hm1⟩; have Hm1 := Lib.hid ((Mod.refl (fun _ => False) wc).drew.trans hm1 (fun _ _ h => h)); have S1 := Lib.hid (HX.out _ Hm1.out); clear hm1))
     go_wp2_with fail
     go_roundg (gk - 1)
     case measure => have := Hik.out; omega
     case rel => exact ⟨i + 1, by have := Hik.out; omega, by go_num, HP2.out.more Hm3.out⟩
  ·have hm := (show Mod (fun k => k = g7 ∨ k = g8) W wr by obtain ⟨_, _, _, _, _, _, _, _, _, _, _, _, _, h⟩ := HP.out; exact h)
   have Tr := Lib.hid (Tabs.modS Ht0.out Ht.out hm (fun k h => by have := HgW.out; rcases h with h | h <;> omega))
   have Hmr : Hid (Mod (fun _ => False) w wr) := Lib.hid (HmW.out.trans hm (fun k hk h => by have := HgW.out; rcases h with h | h <;> omega))
   clear hm HP
   by_cases h0 : i < n0
   ·have h0i : (i : Int) < (n0 : Int) := by omega
    by_cases h1 : i < n1
    ·have h1i : (i : Int) < (n1 : Int) := by omega
     have h6i : ¬ (i : Int) < 60 := by omega
     go_wp2_with fail
     refine (appdAwake_any wr Tr.out).mono ?_
     rintro e w2 ⟨rfl, hm2⟩
     have Hm2 := Lib.hid (Hmr.out.trans hm2 (fun _ _ h => h))
     clear hm2
     go_wp2_with fail
     go_ret
     exact ⟨rfl, Hm2.out⟩
    ·have h1i : ¬ (i : Int) < (n1 : Int) := by omega
     go_wp2_with fail
     refine (appdAwake_any wr Tr.out).mono ?_
     rintro e w2 ⟨rfl, hm2⟩
     have Hm2 := Lib.hid (Hmr.out.trans hm2 (fun _ _ h => h))
     clear hm2
     go_wp2_with fail
     go_ret
     exact ⟨rfl, Hm2.out⟩
   ·have h0i : ¬ (i : Int) < (n0 : Int) := by omega
    go_wp2_with fail
    refine (appdAwake_any wr Tr.out).mono ?_
    rintro e w2 ⟨rfl, hm2⟩
    have Hm2 := Lib.hid (Hmr.out.trans hm2 (fun _ _ h => h))
    clear hm2
    go_wp2_with fail
    go_ret
    exact ⟨rfl, Hm2.out⟩
end Go.Proofs.YtmeilddngohccaaGreatDoor

/- From the row's list to the widths. -/
namespace Go.Proofs.YtmeilddngohccaaGreatDoor
open Go.RowKit
/-- The list without its first table. -/
theorem laid_tail {P : Program} {W : World} {x : String × DataW Unit} {rest : List (String × DataW Unit)} (h : laidMet P (x :: rest) W) : laidMet P rest W := by
 obtain ⟨n, d⟩ := x
 obtain ⟨ps, ⟨g, t, cs, fuel, p, q, _, _, _, _, hq, rfl⟩, hnd, hc⟩ := h
 exact ⟨q, hq, (List.nodup_append.1 hnd).2.1, fun b off hm => hc b off (List.mem_append_right _ hm)⟩
theorem wid_of_tab {w : World} (h : Lib.TabIs Tryz.prog w "ephemeris/time.widths" .i64 [0, 7, 9, 12, 64]) : Wid w := by
 have hc : ∀ i, i < 5 → w.cell? ⟨1, i, none⟩ = some (.int .i64 (([0, 7, 9, 12, 64] : List Int).getD i 0)) := fun i hi => h.cell (by kernel_rfl) i hi
 refine ⟨World.block_lt_of_cell? w _ (hc 0 (by decide)), fun i hi => ?_⟩
 rw [hc i hi]
 have hi' : i = 0 ∨ i = 1 ∨ i = 2 ∨ i = 3 ∨ i = 4 := by omega
 rcases hi' with rfl | rfl | rfl | rfl | rfl <;> rfl
end Go.Proofs.YtmeilddngohccaaGreatDoor

/- From the row's list to the table of math/bits. -/
namespace Go.Proofs.YtmeilddngohccaaGreatDoor
open Go.RowKit
theorem deb_of_tab {w : World} (h : Lib.TabIs Tryz.prog w "math/bits.deBruijn64tab" .u8 [0, 1, 56, 2, 57, 49, 28, 3, 61, 58, 42, 50, 38, 29, 17, 4, 62, 47, 59, 36, 45, 43, 51, 22, 53, 39, 33, 30, 24, 18, 12, 5, 63, 55, 48, 27, 60, 41, 37, 16, 46, 35, 44, 21, 52, 32, 23, 11, 54, 26, 40, 15, 34, 20, 31, 10, 25, 14, 19, 9, 13, 8, 7, 6]) : Deb w := by
 have hd : ∀ t : Fin 64, (([0, 1, 56, 2, 57, 49, 28, 3, 61, 58, 42, 50, 38, 29, 17, 4, 62, 47, 59, 36, 45, 43, 51, 22, 53, 39, 33, 30, 24, 18, 12, 5, 63, 55, 48, 27, 60, 41, 37, 16, 46, 35, 44, 21, 52, 32, 23, 11, 54, 26, 40, 15, 34, 20, 31, 10, 25, 14, 19, 9, 13, 8, 7, 6] : List Int).getD t.val 0) = (deb t.val : Int) := by decide +kernel
 have hc : ∀ t, t < 64 → w.cell? ⟨2, t, none⟩ = some (.int .u8 (deb t : Int)) := fun t ht => by
  rw [← hd ⟨t, ht⟩]
  exact h.cell (by kernel_rfl) t ht
 exact ⟨World.block_lt_of_cell? w _ (hc 0 (by decide)), hc⟩
end Go.Proofs.YtmeilddngohccaaGreatDoor

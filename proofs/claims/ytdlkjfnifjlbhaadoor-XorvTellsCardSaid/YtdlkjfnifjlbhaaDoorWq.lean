/- The document's own values are read: GetValues, its loop. -/
import Derived.Test.YtdlkjfnifjlbhaaDoorWn
import Derived.Test.YtdlkjfnifjlbhaaDoorWs
import Derived.Deep.QuietTactic
namespace Go.Proofs.YtdlkjfnifjlbhaaDoor
open Go.RowKit

theorem held5_any (n : Int) (k : Nat) (w : World) (hk : max 0 (min n 65535) = (k : Int)) :
    Calls Tryd.prog 29 #[.int .i64 n] w fun e w' => e = .returned (.int .i64 (k : Int)) ∧ w = w' := by
  obtain ⟨mx, hmx⟩ : ∃ mx : Int, max n 0 = mx := ⟨_, rfl⟩
  have hmn : min mx 65535 = (k : Int) := by omega
  clear hk
  go_enter Tryd.func29, Tryd.ntmps29
  go_wp2
  go_ret
  exact ⟨rfl, rfl⟩
def XRDecEnd (w w' : World) (g row : Nat) (bs : List Nat) (o : Option (List Nat × Nat × Nat)) (e : Ending) : Prop :=
  match o with
  | some (xs, R, rem) => ∃ v, e = .returned (.tuple #[v, .bool true]) ∧ Own w.heap.size w' 28 v (cellsU xs) ∧ RRdO w' g row bs (some (R, rem)) ∧ Mod (fun i => i = g) w w'
  | none => e = .returned (.tuple #[.slice none 0 0, .bool false]) ∧ Mod (fun i => i = g) w w'
theorem XRDecEnd.none_ {w w' : World} {g row : Nat} {bs : List Nat} {o : Option (List Nat × Nat × Nat)} {e : Ending} (ho : o = none) (he : e = .returned (.tuple #[.slice none 0 0, .bool false])) (hm : Mod (fun i => i = g) w w') : XRDecEnd w w' g row bs o e := by
  subst ho
  exact ⟨he, hm⟩
/-- What the window is, where there are bits left. -/
def IsWin (any : Bool) (a b : Int) (win : Option (Nat × Nat)) : Prop := WinOk win ∧ any = win.isSome ∧ a = (winA win : Int) ∧ b = (winB win : Int)
/-- What the loop has read of i values. -/
def XRDec (w wr : World) (g row : Nat) (bs : List Nat) (k R rem i : Nat) (v : Value) (any : Bool) (a b : Int) (s : Option (Nat × Nat)) : Prop :=
  ∃ xs, Own w.heap.size wr 28 v (cellsU xs) ∧ RRdO wr g row bs s ∧ Mod (fun i => i = g) w wr ∧ xs.length = i ∧ (∀ x ∈ xs, x < 2 ^ 64) ∧ (i = 0 → xs = [] ∧ s = some (R, rem) ∧ any = false ∧ a = 0 ∧ b = 0) ∧
    (0 < i → (s = none → rdVals k R rem = none) ∧ ∀ R' rem', s = some (R', rem') → ∃ win prev, IsWin any a b win ∧ xs[i - 1]? = some prev ∧ rdVals k R rem = (rdXs (k - i) win prev R' rem').map fun p => (xs ++ p.1, p.2))
theorem XRDec.mk {w w1 w2 : World} {g row : Nat} {bs : List Nat} {k R rem i : Nat} {v2 : Value} {x : Nat} {any : Bool} {a b : Int} {s' : Option (Nat × Nat)} {xs : List Nat} (hgl : g < w.heap.size) (hrow : row < w.heap.size)
    (h1 : RRdO w1 g row bs s') (hm : Mod (fun i => i = g) w w1) (hown : Own w.heap.size w2 28 v2 (cellsU xs ++ [.int .u64 (x : Int)])) (hb : Below w.heap.size w1 w2) (hxl : xs.length = i) (hxs : ∀ y ∈ xs, y < 2 ^ 64) (hx : x < 2 ^ 64)
    (hn : (s' = none → rdVals k R rem = none) ∧ ∀ R' rem', s' = some (R', rem') → ∃ win, IsWin any a b win ∧ rdVals k R rem = (rdXs (k - (i + 1)) win x R' rem').map fun p => ((xs ++ [x]) ++ p.1, p.2)) :
    XRDec w w2 g row bs k R rem (i + 1) v2 any a b s' := by
  refine ⟨xs ++ [x], ?_, h1.mod (Mod.of_below hb) (by omega) (fun _ => by omega), hm.trans (Mod.of_below hb) (fun i hi h => by omega), by simp [hxl], fun y hy => ?_, fun h => by omega, fun _ => ⟨hn.1, fun R' rem' hs => ?_⟩⟩
  · rw [cellsU_snoc]; exact hown
  · rw [List.mem_append, List.mem_singleton] at hy
    rcases hy with hy | rfl
    · exact hxs y hy
    · exact hx
  · obtain ⟨win, h2, h3⟩ := hn.2 R' rem' hs
    refine ⟨win, x, h2, ?_, h3⟩
    rw [Nat.add_sub_cancel, List.getElem?_append_right (by omega), hxl, Nat.sub_self]
    rfl
/-- Behind one turn. -/
def XRMid (w wc : World) (g row : Nat) (bs : List Nat) (s : Option (Nat × Nat)) (win : Option (Nat × Nat)) (any : Bool) (a b : Int) (x : Nat) : Prop :=
  ∃ s', RRdO wc g row bs s' ∧ Mod (fun i => i = g) w wc ∧ x < 2 ^ 64 ∧ (s' = none → rdO win s = none) ∧ ∀ R1 rem1, s' = some (R1, rem1) → ∃ win', IsWin any a b win' ∧ rdO win s = some (x, win', R1, rem1)
theorem XRMid.mk {w wc : World} {g row : Nat} {bs : List Nat} {s win s' : Option (Nat × Nat)} {any : Bool} {a b : Int} {x : Nat} {win' : Option (Nat × Nat)} (hr : RRdO wc g row bs s') (hm : Mod (fun i => i = g) w wc) (hx : x < 2 ^ 64) (hw : IsWin any a b win') (h : rdO win s = s'.map fun p => (x, win', p.1, p.2)) : XRMid w wc g row bs s win any a b x := by
  refine ⟨s', hr, hm, hx, fun e => by rw [h, e]; rfl, fun R1 rem1 e => ⟨win', hw, by rw [h, e]; rfl⟩⟩
set_option maxHeartbeats 8000000 in
set_option maxRecDepth 100000 in
theorem rgetvals_any (g row R rem k : Nat) (bs : List Nat) (n : Int) (w : World) (hk : max 0 (min n 65535) = (k : Int)) (hr : RRd w g row bs R rem true) (hR : R < 2 ^ rem) (hrow : row < w.heap.size) :
    Calls Tryd.prog 16 #[.pointer (some ⟨g, 0, none⟩), .int .i64 n] w fun e w' => XRDecEnd w w' g row bs (valRow k R rem) e := by
  have H0 : Hid (XRDec w w g row bs k R rem 0 (.slice none 0 0) false 0 0 (some (R, rem))) := Lib.hid ⟨[], Own.nil _ _ _, ⟨hr, hR⟩, Mod.refl _ _, rfl, (fun _ h => by cases h), fun _ => ⟨rfl, rfl, rfl, rfl, rfl⟩, fun h => by omega⟩
  have hgl := Lib.hid hr.lt'
  have Hrow := Lib.hid hrow; have HR := Lib.hid hR; have Hk := Lib.hid hk
  have hk65 : k ≤ 65535 := by omega
  obtain ⟨A0, n0, c0, fr, hblk, hs0, hne0, hfr8, hn0, hlt0, h10, _⟩ := hr
  obtain ⟨hfr, hRv⟩ := h10 rfl
  have hcA := hblk.cell 1
  simp at hcA
  have Hfr : Hid (fr + rem = 8 * bs.length ∧ R = val bs % 2 ^ rem ∧ bs.length ≤ 1000000) := Lib.hid ⟨by have := hs0.1; rw [cells8_length] at this; omega, hRv, by have := hs0.1; rw [cells8_length] at this; omega⟩
  clear hR hrow hk hblk hs0 hne0 hfr8 hn0 hlt0 h10 hfr hRv
  go_enter Tryd.func16, Tryd.ntmps16
  go_wp2_with fail
  refine (held5_any n k _ Hk.out).mono ?_
  rintro e w' ⟨rfl, rfl⟩
  clear Hk
  go_wp2_with fail
  clear hcA
  go_loopg [7, 8, 9, 10, 11] k (fun l s7 s8 s9 s10 s11 wr => ∃ (i : Nat) (any : Bool) (a b : Int) (s : Option (Nat × Nat)), i + l = k ∧ s11 = .int .i64 (i : Int) ∧ s8 = .bool any ∧ s9 = .int .i64 a ∧ s10 = .int .i64 b ∧ XRDec w wr g row bs k R rem i s7 any a b s)
  case atStart => exact ⟨0, false, 0, 0, _, by omega, rfl, rfl, rfl, rfl, H0.out⟩
  case round =>
    obtain ⟨i, any, a, b, s, hil, rfl, rfl, rfl, rfl, hD⟩ := hrel
    have HD := Lib.hid hD; have Hil := Lib.hid hil
    clear hD hil H0
    obtain ⟨xs, hown, hro, hm, hxl, hxs, hi0, hi1⟩ := HD.out
    have Hro := Lib.hid hro; have Hm := Lib.hid hm; have Hown := Lib.hid hown; have Hxl := Lib.hid hxl; have Hxs := Lib.hid hxs
    have hfl := hro.flag
    clear hown hro hm hxl hxs
    by_cases hin : i < k
    · cases hs : s.isSome with
      | false =>
        rw [hs] at hfl
        have hsn : s = none := by
          cases s with
          | none => rfl
          | some p => cases hs
        have Hnone : Hid (rdVals k R rem = none) := Lib.hid (by
          rcases Nat.eq_zero_or_pos i with h0 | h0
          · have := (hi0 h0).2.1
            rw [hsn] at this
            cases this
          · exact (hi1 h0).1 hsn)
        clear hi0 hi1 hs hsn
        go_wp2_with fail
        go_ret2
        exact XRDecEnd.none_ (valRow_none Hnone.out) rfl Hm.out
      | true =>
        rw [hs] at hfl
        have Hs := Lib.hid hs
        clear hs
        by_cases h0 : i = 0
        · obtain ⟨rfl, rfl, rfl, rfl, rfl⟩ := hi0 h0
          subst h0
          clear hi0 hi1
          go_wp2_with fail
          refine (rget_o g row 64 64 bs _ _ rfl (by decide) Hro.out).mono ?_
          rintro e w1 ⟨rfl, h1, hm1⟩
          obtain ⟨u, hu⟩ : ∃ u, u = (getO 64 (some (R, rem))).1 := ⟨_, rfl⟩
          have hu64 : Hid (u < 2 ^ 64) := Lib.hid (by rw [hu]; exact getO_lt HR.out 64)
          have hN : Hid (((getO 64 (some (R, rem))).2 = none → rdVals k R rem = none) ∧ ∀ R' rem', (getO 64 (some (R, rem))).2 = some (R', rem') → ∃ win, IsWin false 0 0 win ∧ rdVals k R rem = (rdXs (k - (0 + 1)) win u R' rem').map fun p => (([] ++ [u]) ++ p.1, p.2)) :=
            Lib.hid ⟨(rdVals_first hin).1, fun R' rem' h => ⟨none, ⟨trivial, rfl, rfl, rfl⟩, by rw [hu]; exact (rdVals_first hin).2 R' rem' h⟩⟩
          rw [← hu]
          have Hown1 : Hid (Own w.heap.size w1 28 u7 (cellsU [])) := Lib.hid (hm1.owns Hown.out (fun k hk e => by have := (Hown.out.block k hk).1; have := hgl.out; omega))
          have H1 := Lib.hid h1; have Hm1 := Lib.hid (Hm.out.trans hm1 (fun _ _ h => h))
          have hsz := Hm1.out.size
          have hr1 : (cellsU []).length + 1 ≤ maxLen := by unfold maxLen; decide
          have hr2 : ((cellsU []).length + 1) * 8 ≤ 140737488355328 := by decide
          clear hu h1 hm1 hfl
          go_wp2_with (at_builtin; refine wpList_app1 rfl (.tmp 37) (.tmp 40) _ rfl eltU rfl Hown1.out rfl rfl rfl hr1 hr2 hsz ?_; intro v' w2 HO HB)
          have HD2 : Hid (XRDec w w2 g row bs k R rem (0 + 1) v' false 0 0 (getO 64 (some (R, rem))).2) := Lib.hid (XRDec.mk hgl.out Hrow.out H1.out Hm1.out HO.out HB.out rfl (fun _ h => by cases h) hu64.out hN.out)
          go_roundg (gk - 1)
          case measure => have := Hil.out; omega
          case rel => exact ⟨0 + 1, false, 0, 0, _, by have := Hil.out; omega, rfl, rfl, rfl, rfl, HD2.out⟩
        · have hb0 : ((i : Int) == 0) = false := by simp; omega
          obtain ⟨R0, rem0, hs0⟩ : ∃ R0 rem0, s = some (R0, rem0) := by
            have := Hs.out
            cases s with
            | none => cases this
            | some p => exact ⟨_, _, rfl⟩
          obtain ⟨win, prev, hw, hpv, hcur⟩ := (hi1 (by omega)).2 R0 rem0 hs0
          have hN := rdVals_next (s := s) (win := win) (prev := prev) hin (fun R' rem' h => by rw [hs0] at h; injection h with h; injection h with h3 h4; subst h3 h4; exact hcur) Hs.out
          have HN := Lib.hid hN; have Hw := Lib.hid hw; have Hpv := Lib.hid hpv
          have hsm : Hid (SmallO s) := Lib.hid Hro.out.small
          have hp64 : Hid (prev < 2 ^ 64) := Lib.hid (Hxs.out prev (List.mem_of_getElem? hpv))
          clear hi0 hi1 hs0 hw hpv hcur hN
          obtain ⟨hwok, hany, ha, hb⟩ := Hw.out
          obtain ⟨c0, hc0⟩ : ∃ c0, c0 = (getO 1 s).1 := ⟨_, rfl⟩
          have hc0b : c0 = 0 ∨ c0 = 1 := by rw [hc0]; exact hsm.out.bit
          have Hc0 := Lib.hid hc0; have Hc0b := Lib.hid hc0b; have Hwok := Lib.hid hwok; have Hany := Lib.hid hany; have Ha := Lib.hid ha; have Hb := Lib.hid hb
          have hbnd : Hid ((0 ≤ a ∧ a ≤ 31) ∧ (0 ≤ b ∧ a + b ≤ 63)) := Lib.hid (by
            rw [ha, hb]
            cases win with
            | none => exact ⟨⟨by decide, by decide⟩, by decide, by decide⟩
            | some p =>
              obtain ⟨a', b'⟩ := p
              obtain ⟨w1, w2⟩ := hwok
              show (0 ≤ (a' : Int) ∧ (a' : Int) ≤ 31) ∧ (0 ≤ (b' : Int) ∧ (a' : Int) + (b' : Int) ≤ 63)
              omega)
          clear hc0 hc0b hwok hany ha hb
          go_wp2_with fail
          refine (rget_o g row 1 1 bs _ _ rfl (by decide) Hro.out).mono ?_
          rintro e w1 ⟨rfl, hr1, hm1⟩
          rw [← Hc0.out]
          have Hr1 := Lib.hid hr1; have Hm1 := Lib.hid hm1
          clear hr1 hm1
          go_upto_if 44 with fail
          go_cut [8, 9, 10, 12] (fun s8 s9 s10 s12 wc => ∃ (any' : Bool) (a' b' : Int) (x : Nat), s8 = .bool any' ∧ s9 = .int .i64 a' ∧ s10 = .int .i64 b' ∧ s12 = .int .u64 (x : Int) ∧ XRMid wr wc g row bs s win any' a' b' x)
          case first =>
            rcases Hc0b.out with h1 | h1
            · have hz : (getO 1 s).1 = 0 := by rw [← Hc0.out, h1]
              have HM : Hid (XRMid wr w1 g row bs s win any a b 0) := Lib.hid (XRMid.mk Hr1.out Hm1.out (by decide) Hw.out (rdO_zero hz))
              subst h1
              clear hz
              go_wp2_with fail
              go_meet
              case rel => exact ⟨any, a, b, 0, rfl, rfl, rfl, rfl, HM.out⟩
            · have hz : Hid ((getO 1 s).1 ≠ 0) := Lib.hid (by rw [← Hc0.out, h1]; decide)
              subst h1
              obtain ⟨c1, hc1⟩ : ∃ c1, c1 = (getO 1 (getO 1 s).2).1 := ⟨_, rfl⟩
              have hc1b : c1 = 0 ∨ c1 = 1 := by rw [hc1]; exact (hsm.out.get 1).bit
              have Hc1 := Lib.hid hc1; have Hc1b := Lib.hid hc1b
              clear hc1 hc1b
              go_wp2_with fail
              refine (rget_o g row 1 1 bs _ _ rfl (by decide) Hr1.out).mono ?_
              rintro e w2 ⟨rfl, hr2, hm2⟩
              rw [← Hc1.out]
              have Hr2 := Lib.hid hr2; have Hm2 := Lib.hid (Hm1.out.trans hm2 (fun _ _ h => h))
              clear hr2 hm2 Hr1 Hm1
              rcases Hc1b.out with h1 | h1
              · have hz1 : (getO 1 (getO 1 s).2).1 = 0 := by rw [← Hc1.out, h1]
                rw [h1]
                clear h1
                cases win with
                | none =>
                  obtain rfl : any = false := Hany.out
                  have Hnone : Hid (rdVals k R rem = none) := Lib.hid (HN.out.1 (rdO_in_none hz.out hz1))
                  have Hm9 := Lib.hid (Hm.out.trans Hm2.out (fun _ _ h => h))
                  clear hz1
                  go_wp2_with fail
                  go_ret2
                  exact XRDecEnd.none_ (valRow_none Hnone.out) rfl Hm9.out
                | some p =>
                  obtain ⟨a', b'⟩ := p
                  obtain rfl : any = true := Hany.out
                  obtain rfl : a = (a' : Int) := Ha.out
                  obtain rfl : b = (b' : Int) := Hb.out
                  obtain ⟨hb1, hb2⟩ := hbnd.out
                  obtain ⟨z, hzz⟩ : ∃ z, z = 64 - a' - b' := ⟨_, rfl⟩
                  have hz2 : (64 : Int) - (a' : Int) - (b' : Int) = (z : Int) := by omega
                  have hbw : IntKind.u64.wrap (b' : Int) = (b' : Int) := by rw [IntKind.wrap_u64]; omega
                  have hz64 : z ≤ 64 := by omega
                  have hmain := rdO_in (a := a') (b := b') hz.out hz1
                  rw [← hzz] at hmain
                  obtain ⟨y, hy⟩ : ∃ y, y = (getO z (getO 1 (getO 1 s).2).2).1 := ⟨_, rfl⟩
                  have hylt : y < 2 ^ z := by rw [hy]; exact ((hsm.out.get 1).get 1).lt z
                  obtain ⟨x, hx⟩ : ∃ x, x = y * 2 ^ b' := ⟨_, rfl⟩
                  have hxl : x < 2 ^ 64 := by
                    rw [hx]
                    have h := Nat.mul_lt_mul_of_pos_right hylt (Nat.two_pow_pos b')
                    rw [← Nat.pow_add] at h
                    exact Nat.lt_of_lt_of_le h (Nat.pow_le_pow_right (by omega) (by omega))
                  have hshl : IntKind.u64.wrap ((y : Int) * 2 ^ b') = (x : Int) := by
                    have e1 : ((y : Int) * 2 ^ b') = ((y * 2 ^ b' : Nat) : Int) := by simp
                    rw [IntKind.wrap_u64, e1, ← hx]
                    omega
                  rw [← hy, ← hx] at hmain
                  have Hmain := Lib.hid hmain; have Hy := Lib.hid hy; have Hxl := Lib.hid hxl
                  clear hz1 hzz hmain hy hylt hx hxl
                  go_wp2_with fail
                  refine (rget_o g row z _ bs _ _ rfl hz64 Hr2.out).mono ?_
                  rintro e w3 ⟨rfl, hr3, hm3⟩
                  rw [← Hy.out]
                  have HM : Hid (XRMid wr w3 g row bs s (some (a', b')) true (a' : Int) (b' : Int) x) := Lib.hid (XRMid.mk hr3 (Hm2.out.trans hm3 (fun _ _ h => h)) Hxl.out Hw.out Hmain.out)
                  clear hr3 hm3 Hr2 Hm2
                  go_wp2_with fail
                  go_meet
                  case rel => exact ⟨true, (a' : Int), (b' : Int), x, rfl, rfl, rfl, rfl, HM.out⟩
              · have hz1 : Hid ((getO 1 (getO 1 s).2).1 ≠ 0) := Lib.hid (by rw [← Hc1.out, h1]; decide)
                rw [h1]
                clear h1
                obtain ⟨a', ha'⟩ : ∃ a', a' = (getO 5 (getO 1 (getO 1 s).2).2).1 := ⟨_, rfl⟩
                have ha5 : a' < 32 := by rw [ha']; exact ((hsm.out.get 1).get 1).lt 5
                have hcv : wrap64 (a' : Int) = (a' : Int) := IntWalk.wrap64_in _ (by omega)
                have Ha' := Lib.hid ha'
                clear ha'
                go_wp2_with fail
                refine (rget_o g row 5 5 bs _ _ rfl (by decide) Hr2.out).mono ?_
                rintro e w3 ⟨rfl, hr3, hm3⟩
                rw [← Ha'.out]
                have Hr3 := Lib.hid hr3; have Hm3 := Lib.hid (Hm2.out.trans hm3 (fun _ _ h => h))
                obtain ⟨m, hm⟩ : ∃ m, m = (getO 6 (getO 5 (getO 1 (getO 1 s).2).2).2).1 := ⟨_, rfl⟩
                have hm6 : m < 64 := by rw [hm]; exact (((hsm.out.get 1).get 1).get 5).lt 6
                have hcm : wrap64 (m : Int) = (m : Int) := IntWalk.wrap64_in _ (by omega)
                have Hmm := Lib.hid hm
                clear hr3 hm3 hm Hr2 Hm2
                go_wp2_with fail
                refine (rget_o g row 6 6 bs _ _ rfl (by decide) Hr3.out).mono ?_
                rintro e w4 ⟨rfl, hr4, hm4⟩
                rw [← Hmm.out]
                have Hr4 := Lib.hid hr4; have Hm4 := Lib.hid (Hm3.out.trans hm4 (fun _ _ h => h))
                obtain ⟨z, hzz⟩ : ∃ z, z = m + 1 := ⟨_, rfl⟩
                have hz2 : (m : Int) + 1 = (z : Int) := by omega
                have hz64 : z ≤ 64 := by omega
                have Hz := Lib.hid hzz
                clear hr4 hm4 hzz Hr3 Hm3
                by_cases hfar : 64 < a' + z
                · have Hnone : Hid (rdVals k R rem = none) := Lib.hid (HN.out.1 (rdO_far hz.out hz1.out (by rw [← Ha'.out, ← Hmm.out, ← Hz.out]; exact hfar)))
                  have Hm9 := Lib.hid (Hm.out.trans Hm4.out (fun _ _ h => h))
                  have hfar2 : (64 : Int) < (a' : Int) + (z : Int) := by omega
                  go_wp2_with fail
                  go_ret2
                  exact XRDecEnd.none_ (valRow_none Hnone.out) rfl Hm9.out
                · obtain ⟨b', hb'⟩ : ∃ b', b' = 64 - a' - z := ⟨_, rfl⟩
                  have hb2 : (64 : Int) - (a' : Int) - (z : Int) = (b' : Int) := by omega
                  have hz3 : (64 : Int) - (a' : Int) - (b' : Int) = (z : Int) := by omega
                  have hfar2 : ¬ (64 : Int) < (a' : Int) + (z : Int) := by omega
                  have hbw : IntKind.u64.wrap (b' : Int) = (b' : Int) := by rw [IntKind.wrap_u64]; omega
                  have hmain := rdO_fresh (win := win) hz.out hz1.out Ha'.out Hmm.out (by rw [← Hz.out]; exact hfar)
                  rw [← Hz.out, ← hb'] at hmain
                  obtain ⟨y, hy⟩ : ∃ y, y = (getO z (getO 6 (getO 5 (getO 1 (getO 1 s).2).2).2).2).1 := ⟨_, rfl⟩
                  have hylt : y < 2 ^ z := by rw [hy]; exact ((((hsm.out.get 1).get 1).get 5).get 6).lt z
                  obtain ⟨x, hx⟩ : ∃ x, x = y * 2 ^ b' := ⟨_, rfl⟩
                  have hxl : x < 2 ^ 64 := by
                    rw [hx]
                    have h := Nat.mul_lt_mul_of_pos_right hylt (Nat.two_pow_pos b')
                    rw [← Nat.pow_add] at h
                    exact Nat.lt_of_lt_of_le h (Nat.pow_le_pow_right (by omega) (by omega))
                  have hshl : IntKind.u64.wrap ((y : Int) * 2 ^ b') = (x : Int) := by
                    have e1 : ((y : Int) * 2 ^ b') = ((y * 2 ^ b' : Nat) : Int) := by simp
                    rw [IntKind.wrap_u64, e1, ← hx]
                    omega
                  rw [← hy, ← hx] at hmain
                  have hz1' := Hz.out
                  have Hmain := Lib.hid hmain; have Hy := Lib.hid hy; have Hxl := Lib.hid hxl
                  have hwin' : Hid (IsWin true (a' : Int) (b' : Int) (some (a', b'))) := Lib.hid ⟨⟨by omega, by omega⟩, rfl, rfl, rfl⟩
                  clear hb' hmain hy hylt hx hxl hfar hz1'
                  go_wp2_with fail
                  refine (rget_o g row z _ bs _ _ rfl hz64 Hr4.out).mono ?_
                  rintro e w5 ⟨rfl, hr5, hm5⟩
                  rw [← Hy.out]
                  have HM : Hid (XRMid wr w5 g row bs s win true (a' : Int) (b' : Int) x) := Lib.hid (XRMid.mk hr5 (Hm4.out.trans hm5 (fun _ _ h => h)) Hxl.out hwin'.out Hmain.out)
                  clear hr5 hm5 Hr4 Hm4
                  go_wp2_with fail
                  go_meet
                  case rel => exact ⟨true, (a' : Int), (b' : Int), x, rfl, rfl, rfl, rfl, HM.out⟩
          case rest =>
            obtain ⟨any', a', b', x, rfl, rfl, rfl, rfl, hM⟩ := hcut
            obtain ⟨s2, hr2, hm2, hxl, hbad, hgood⟩ := hM
            have Hxs2 := Lib.hid hxl; have Hbad := Lib.hid hbad; have Hgood := Lib.hid hgood
            have Hown2 : Hid (Own w.heap.size wc 28 u7 (cellsU xs)) := Lib.hid (hm2.owns Hown.out (fun k hk e => by have := (Hown.out.block k hk).1; have := hgl.out; omega))
            have Hr2 := Lib.hid hr2; have Hm2 := Lib.hid (Hm.out.trans hm2 (fun _ _ h => h))
            obtain ⟨gv, cap, hv, _, hglt⟩ := Hown2.out.form' (by rw [cellsU_length, Hxl.out]; omega)
            have hcell : wc.cell? ⟨gv, i - 1, none⟩ = some (.int .u64 (prev : Int)) := by
              have h := Hown2.out.cell' hv (i - 1) (by rw [cellsU_length, Hxl.out]; omega)
              rw [h, cellsU_get, Hpv.out]
              rfl
            rw [cellsU_length, Hxl.out] at hv
            subst hv
            obtain ⟨y, hy⟩ : ∃ y : Nat, y = prev ^^^ x := ⟨_, rfl⟩
            have hxor : bits .xor .u64 (prev : Int) (x : Int) = (y : Int) := by rw [hy]; exact u64_xor_nat prev x hp64.out hxl
            have hyl : Hid (y < 2 ^ 64) := Lib.hid (by rw [hy]; exact Nat.xor_lt_two_pow hp64.out hxl)
            have HN2 : Hid ((s2 = none → rdVals k R rem = none) ∧ ∀ R' rem', s2 = some (R', rem') → ∃ win, IsWin any' a' b' win ∧ rdVals k R rem = (rdXs (k - (i + 1)) win y R' rem').map fun p => ((xs ++ [y]) ++ p.1, p.2)) := Lib.hid ⟨fun h => HN.out.1 (hbad h), fun R' rem' h => by
              obtain ⟨win', h1, h2⟩ := hgood R' rem' h
              exact ⟨win', h1, by rw [hy]; exact HN.out.2 x win' R' rem' h2⟩⟩
            have hi3 : (0 : Int) ≤ (i : Int) - 1 := by omega
            have hi4 : (1 : Int) ≤ (i : Int) := by omega
            have hsz := Hm2.out.size
            have hr1' : (cellsU xs).length + 1 ≤ maxLen := by rw [cellsU_length, Hxl.out]; unfold maxLen; omega
            have hr2' : ((cellsU xs).length + 1) * 8 ≤ 140737488355328 := by rw [cellsU_length, Hxl.out]; omega
            clear hxl hbad hgood hr2 hm2 hy hfl
            go_wp2_with (at_builtin; refine wpList_app1 rfl (.tmp 74) (.tmp 82) _ rfl eltU rfl Hown2.out rfl rfl rfl hr1' hr2' hsz ?_; intro v' w4 HO HB)
            have HD2 : Hid (XRDec w w4 g row bs k R rem (i + 1) v' any' a' b' s2) := Lib.hid (XRDec.mk hgl.out Hrow.out Hr2.out Hm2.out HO.out HB.out Hxl.out Hxs.out hyl.out HN2.out)
            go_roundg (gk - 1)
            case measure => have := Hil.out; omega
            case rel => exact ⟨i + 1, any', a', b', s2, by have := Hil.out; omega, by go_num, rfl, rfl, rfl, HD2.out⟩
    · have hik : i = k := by have := Hil.out; omega
      have Hres : Hid ((s = none → rdVals k R rem = none) ∧ ∀ R' rem', s = some (R', rem') → rdVals k R rem = some (xs, R', rem')) := Lib.hid (by
        rcases Nat.eq_zero_or_pos i with h0 | h0
        · obtain ⟨b1, b4, _⟩ := hi0 h0
          subst b1 b4
          have hk0 : k = 0 := by omega
          subst hk0
          refine ⟨fun h => (by cases h), fun R' rem' h => ?_⟩
          injection h with h
          injection h with h3 h4
          subst h3 h4
          rfl
        · obtain ⟨b1, b2⟩ := hi1 h0
          refine ⟨b1, fun R' rem' h => ?_⟩
          obtain ⟨win, prev, _, _, b3⟩ := b2 R' rem' h
          rw [b3, hik, Nat.sub_self]
          show some (xs ++ [], R', rem') = _
          rw [List.append_nil])
      have hxlk : xs.length = k := by rw [Hxl.out, hik]
      have Hxlk := Lib.hid hxlk
      clear hi0 hi1 hik hxlk
      have hres1 : s = none → Hid (rdVals k R rem = none) := fun h => Lib.hid (Hres.out.1 h)
      cases s with
      | none =>
        have hres2 := hres1 rfl
        have hfl' : wr.cell? ⟨g, 2, none⟩ = some (.bool true) := hfl
        clear Hres hres1 hfl
        go_wp2_with fail
        go_ret2
        exact XRDecEnd.none_ (valRow_none hres2.out) rfl Hm.out
      | some p =>
        obtain ⟨R', rem'⟩ := p
        have hres2 : Hid (rdVals k R rem = some (xs, R', rem')) := Lib.hid (Hres.out.2 R' rem' rfl)
        have hfl' : wr.cell? ⟨g, 2, none⟩ = some (.bool false) := hfl
        obtain ⟨Ao, co, rfl, _, hro2⟩ := own_formU Hown.out
        have Hro2 := Lib.hid hro2
        clear Hres hres1 hfl hro2
        have hlen := Hxlk.out
        obtain ⟨⟨fs0, ht0⟩, _, hxl64⟩ := rdVals_some hres2.out HR.out
        have hrle : rem' ≤ rem := by have := ht0.2.2; omega
        have Hxl64 := Lib.hid hxl64
        rw [hlen] at Hro2 ⊢
        obtain ⟨wA, hwA⟩ : ∃ wA, wA = wr.alloc (.cells #[.slice none 0 0] 34) := ⟨_, rfl⟩
        obtain ⟨h, hh⟩ : ∃ h, h = wr.heap.size := ⟨_, rfl⟩
        have hmA : Mod (fun _ => False) wr wA := by rw [hwA]; exact (Mod.refl _ _).alloc _
        have hwh : RWr wA h none 0 0 := by rw [hwA, hh]; exact ⟨.slice none 0 0, [], Blk.new _ _ _, World.ownsRow_nil _ _ _ _, rfl, (fun _ h => by cases h), rfl, rfl⟩
        have Hwh := Lib.hid hwh; have HmA := Lib.hid hmA; have HwA := Lib.hid hwA; have Hh := Lib.hid hh
        have HroA := Lib.hid (Hro2.out.mod hmA (Nat.le_refl _) (fun _ _ h => h))
        have hszA : wr.heap.size ≤ wA.heap.size := hmA.size
        have HownA : Hid (Own w.heap.size wA 28 (.slice Ao k co) (cellsU xs)) := Lib.hid (by have h := hmA.owns Hown.out (fun _ _ h => h); rw [hlen] at h; exact h)
        have HroR := Lib.hid (Hro.out.1.mod hmA (fun h => h) (fun _ h => h))
        clear hlen ht0 hxl64 hwA hh hmA hwh Hro2
        go_wp2_with (first | (rw [← Hh.out, ← HwA.out]))
        refine (rvalues_any wr.heap.size h none 0 0 k co Ao xs wA HroA.out Hxl64.out hszA (fun h0 ad e hq => by
          obtain ⟨ad', e', hb, _⟩ := HroA.out.2 h0
          rw [e] at e'
          injection e' with e'
          subst e'
          have := Hh.out
          rcases hq with hq | hq
          · omega
          · cases hq) Hwh.out (by omega)).mono ?_
        rintro e w2 ⟨rfl, rowh, hw2, hm2, hrt2⟩
        obtain ⟨L, hL⟩ : ∃ L, L = flen (encVals xs) := ⟨_, rfl⟩
        obtain ⟨N, hN⟩ : ∃ N, N = fnum (encVals xs) := ⟨_, rfl⟩
        rw [← hL, ← hN, Nat.zero_add, Nat.zero_mul, Nat.zero_add] at hw2
        have hLb : L ≤ 64 + 77 * k := by rw [hL, ← Hxlk.out]; exact encVals_len xs
        have hsmR : R' < 2 ^ rem' := by obtain ⟨⟨_, ht1⟩, _⟩ := rdVals_some hres2.out HR.out; exact ht1.2.1
        have HsmR := Lib.hid hsmR
        clear hsmR
        have hgw : g < wr.heap.size := by have := hgl.out; have := Hm.out.size; omega
        have hrw : row < wr.heap.size := by have := Hrow.out; have := Hm.out.size; omega
        have hrd := HroR.out.mod hm2 (fun e => by have := Hh.out; rcases e with e | e; omega; cases e) (fun _ e => by have := Hh.out; rcases e with e | e; omega; cases e)
        have Hm02 := Lib.hid (Hm.out.trans (HmA.out.trans hm2 (fun i hi e => by have := Hh.out; rcases e with e | e; omega; cases e)) (fun _ _ h => h.elim))
        have Hown2 : Hid (Own w.heap.size w2 28 (.slice Ao k co) (cellsU xs)) := Lib.hid (hm2.owns HownA.out (fun q hq e => by
          have hlt := (Hown.out.block q (by have h1 := Hxlk.out; rw [h1]; exact hq)).2
          have := Hh.out
          rcases e with e | e
          · omega
          · cases e))
        obtain ⟨Ax, cx, hx0⟩ := hw2.len
        have Hval := Lib.hid (valRow_some hres2.out)
        have HL := Lib.hid hL; have HNN := Lib.hid hN
        have Hrd := Lib.hid hrd; have Hw2 := Lib.hid hw2
        obtain ⟨A1, n1, c1, at1, hblk1, hsees, hne1, h81, hn1, hlt1, hok1, _⟩ := hrd
        obtain ⟨hat1, hR1⟩ := hok1 rfl
        have hn1l := hsees.1
        rw [cells8_length] at hn1l
        have hc1 := hblk1.cell 1
        simp at hc1
        obtain ⟨dl, hdl⟩ : ∃ dl, dl = rem - rem' := ⟨_, rfl⟩
        have hdw : IntKind.i64.wrap ((at1 : Int) - (fr : Int)) = (dl : Int) := by
          have := Hfr.out
          rw [IntWalk.i64_in _ (by omega)]
          omega
        have Hdl := Lib.hid hdl; have Hsees := Lib.hid hsees; have Hblk1 := Lib.hid hblk1; have Hlt1 := Lib.hid hlt1; have Hn1 := Lib.hid hn1l; have Hn1m := Lib.hid hn1; have Hrle := Lib.hid hrle
        clear hw2 hm2 hrt2 hL hN HroR hsees hne1 h81 hlt1 hok1 hat1 hR1 hn1l hblk1 hdl Hwh HmA HwA HroA HownA Hro hszA hrle hn1
        by_cases hLd : L = dl
        · have hneb : ((L : Int) != (dl : Int)) = false := by simp; omega
          have HLd := Lib.hid hLd
          clear hLd
          go_wp2_with fail
          go_quiet (fail)
          clear hx0 hc1 hdw hneb
          obtain ⟨v0, Lb, hblkh, hownh, hrowh, hlt2, hLbl, hNb⟩ := Hw2.out
          have hal0 : Alike Lb R rem 0 := alike_zero HR.out (by rw [hLbl, HLd.out, Hdl.out]; omega)
          have Hal0 := Lib.hid hal0; have Hblkh := Lib.hid hblkh; have Hownh := Lib.hid hownh; have Hlt2 := Lib.hid hlt2; have HLbl := Lib.hid hLbl; have HNb := Lib.hid hNb
          have Hd0 : Hid (Mod (fun _ => False) w2 (w2.drewN nq)) := Lib.hid ((Mod.refl _ _).drewN nq)
          clear hblkh hownh hrowh hlt2 hLbl hNb hal0
          go_wp2_with fail
          go_loopg [15] L (fun l s15 wq => ∃ j : Nat, j + l = L ∧ s15 = .int .i64 (j : Int) ∧ Alike Lb R rem j ∧ Mod (fun _ => False) w2 wq)
          case atStart => exact ⟨0, by omega, rfl, Hal0.out, Hd0.out⟩
          case round =>
            obtain ⟨j, hjl, rfl, hal, hmq⟩ := hrel
            have Hal := Lib.hid hal; have Hmq := Lib.hid hmq; have Hjl := Lib.hid hjl
            clear hal hjl Hal0 Hd0
            by_cases hjL : j < L
            · have hx0 := (Hmq.out.blk Hblkh.out (fun h => h)).cell 0
              simp at hx0
              rcases Hownh.out.2 with ⟨hv1, hv2⟩ | ⟨gb, capb, cur, hv1, hv2⟩
              · exfalso
                have := HLbl.out
                omega
              · subst hv1
                rw [HLbl.out] at hx0
                have hcb := Hownh.out.cellAt j (by have := HLbl.out; omega)
                obtain ⟨bb, hbb⟩ : ∃ bb, Lb[j]? = some bb := ⟨Lb[j]'(by have := HLbl.out; omega), List.getElem?_eq_getElem _⟩
                have hbb2 := Hlt2.out bb (List.mem_of_getElem? hbb)
                rw [cells8_get, hbb] at hcb
                have hcb' : wr.cell? ⟨gb, j, none⟩ = some (.int .u8 (bb : Int)) := by
                  rw [hmq.cell (a := ⟨gb, j, none⟩) (World.block_lt_of_cell? w2 _ hcb) (fun h => h)]
                  exact hcb
                have hj2 : j < rem := by have := Hal.out.2.1; have := HLbl.out; omega
                obtain ⟨t, ht⟩ : ∃ t, t = fr + j := ⟨_, rfl⟩
                have ht1 : (fr : Int) + (j : Int) = (t : Int) := by omega
                have ht8 : t < 8 * n1 := by have := Hfr.out; have := Hn1.out; omega
                have hn0 : 0 < n1 := by omega
                have hseq := Hsees.out
                obtain ⟨o, rfl, hrl, hcellb⟩ := hseq.2 hn0
                obtain ⟨by_, hby⟩ : ∃ by_, bs[t / 8]? = some by_ := ⟨bs[t / 8]'(by have := Hn1.out; omega), List.getElem?_eq_getElem _⟩
                have hcc := hcellb (t / 8) (.int .u8 (by_ : Int)) (by rw [cells8_get, hby]; rfl)
                have hcc' : wr.cell? ⟨row, o + t / 8, none⟩ = some (.int .u8 (by_ : Int)) := by
                  rw [hmq.cell (a := ⟨row, o + t / 8, none⟩) hrl (fun h => h)]
                  exact hcc
                have hby256 : by_ < 256 := Hlt1.out by_ (List.mem_of_getElem? hby)
                have hg0 := (Hmq.out.blk Hblk1.out (fun h => h)).cell 0
                simp at hg0
                obtain ⟨q, hq⟩ : ∃ q, q = t / 8 := ⟨_, rfl⟩
                obtain ⟨r8, hr8⟩ : ∃ r8, r8 = t % 8 := ⟨_, rfl⟩
                rw [← hq] at hcc'
                have ha1 : (t : Int) / 8 = (q : Int) := by omega
                have ha2 : (t : Int).tdiv 8 = (q : Int) := by rw [Int.tdiv_eq_ediv_of_nonneg (by omega)]; omega
                have ha3 : (t : Int).tmod 8 = (r8 : Int) := by rw [Int.tmod_eq_emod_of_nonneg (by omega)]; omega
                obtain ⟨f, hf⟩ : ∃ f, f = 7 - r8 := ⟨_, rfl⟩
                have hw7 : IntKind.i64.wrap (7 - (r8 : Int)) = (f : Int) := by rw [IntWalk.i64_in _ (by omega)]; omega
                have hw8 : IntKind.u64.wrap (f : Int) = (f : Int) := by rw [IntKind.wrap_u64]; omega
                have hwq : IntKind.i64.wrap (q : Int) = (q : Int) := IntWalk.i64_in _ (by have := Hn1m.out; omega)
                have hmin : min f 8 = f := by omega
                have hq0 : (0 : Int) ≤ (q : Int) := by omega
                have hq1 : (q : Int) < (n1 : Int) := by omega
                have hj0 : (0 : Int) ≤ (j : Int) := by omega
                have hjL' : (j : Int) < (L : Int) := by omega
                obtain ⟨cc, hcv⟩ : ∃ cc, cc = by_ / 2 ^ f % 2 := ⟨_, rfl⟩
                have hbit : bits .and .u8 ((by_ : Int) / 2 ^ f) 1 = (cc : Int) := by
                  have e : (by_ : Int) / 2 ^ f = ((by_ / 2 ^ f : Nat) : Int) := by simp
                  have h1 := Nat.div_le_self by_ (2 ^ f)
                  rw [e, hcv]
                  generalize by_ / 2 ^ f = x at *
                  have h2 := u8_and_nat x 1 (by omega) (by decide)
                  rw [nat_mask1] at h2
                  exact h2
                have hread := read_bit (bs := bs) (n := n1) (a := t) (r := rem - j) (b := by_) (R := R) (rem := rem) (i := j) Hn1.out Hlt1.out Hfr.out.2.1 rfl hj2 (by have := Hfr.out; have := Hn1.out; omega) hby
                rw [← hr8, ← hf, ← hcv] at hread
                have Hread := Lib.hid hread; have Hbb := Lib.hid hbb
                have ht3 : t ≤ 8000000 := by have := Hn1m.out; omega
                clear hcb hbb ht hseq hcellb hby hcc hq hr8 hf hcv hread hmq hv2
                by_cases hbc : bb = cc
                · have hneb : ((bb : Int) != (cc : Int)) = false := by simp; omega
                  have HA2 : Hid (Alike Lb R rem (j + 1)) := Lib.hid (alike_more Hal.out Hbb.out Hread.out hbc)
                  clear hbc
                  go_wp2_with fail
                  go_quiet (fail)
                  have Hm3 : Hid (Mod (fun _ => False) w2 (wr.drewN nq)) := Lib.hid (Hmq.out.drewN nq)
                  go_wp2_with fail
                  go_roundg (gk - 1)
                  case measure => have := Hjl.out; omega
                  case rel => exact ⟨j + 1, by have := Hjl.out; omega, by go_num, HA2.out, Hm3.out⟩
                · have hneb : ((bb : Int) != (cc : Int)) = true := by simp; omega
                  have hnone : Hid (valRow k R rem = none) := Lib.hid (by
                    rw [Hval.out, if_neg]
                    rintro ⟨_, e2⟩
                    have h := alike_not Hlt2.out Hal.out Hbb.out Hread.out hbc
                    rw [HNb.out, HLbl.out, HNN.out, e2] at h
                    exact h (by rw [show rem - L = rem' by have := HLd.out; have := Hdl.out; have := Hrle.out; omega]))
                  clear hbc
                  go_wp2_with fail
                  go_quiet (fail)
                  go_wp2_with fail
                  go_ret2
                  exact XRDecEnd.none_ hnone.out rfl ((Hm02.out.trans Hmq.out (fun _ _ h => h.elim)).drewN _)
            · obtain rfl : j = L := by have := Hjl.out; omega
              obtain ⟨Ax2, cx2, hx0⟩ := (Hw2.out.mod Hmq.out (fun h => h) (fun _ _ h => h)).len
              have hsome : Hid (valRow k R rem = some (xs, R', rem')) := Lib.hid (by
                rw [Hval.out, if_pos]
                refine ⟨by rw [← HL.out]; have := HLd.out; have := Hdl.out; have := Hrle.out; omega, ?_⟩
                have h := Hal.out
                rw [← HLbl.out] at h
                have h2 := alike_all h
                rw [HNb.out, HLbl.out, HNN.out] at h2
                rw [h2, show rem - j = rem' by have := HLd.out; have := Hdl.out; have := Hrle.out; omega])
              go_wp2_with fail
              go_ret2
              unfold XRDecEnd
              rw [hsome.out]
              exact ⟨_, rfl, Hmq.out.owns Hown2.out (fun _ _ h => h), ⟨Hrd.out.mod Hmq.out (fun h => h) (fun _ h => h), HsmR.out⟩, Hm02.out.trans Hmq.out (fun _ _ h => h.elim)⟩
        · have hneb : ((L : Int) != (dl : Int)) = true := by simp; omega
          have hnone : Hid (valRow k R rem = none) := Lib.hid (by
            rw [Hval.out, if_neg]
            rintro ⟨e1, _⟩
            rw [← HL.out] at e1
            exact hLd (by rw [Hdl.out]; omega))
          clear hLd
          go_wp2_with fail
          go_quiet (fail)
          go_wp2_with fail
          go_ret2
          exact XRDecEnd.none_ hnone.out rfl (Hm02.out.drewN _)
end Go.Proofs.YtdlkjfnifjlbhaaDoor

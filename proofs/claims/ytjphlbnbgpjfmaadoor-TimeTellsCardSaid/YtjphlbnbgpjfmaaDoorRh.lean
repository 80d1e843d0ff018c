/- The document's own times are read: GetTimes. -/
import Derived.Test.YtjphlbnbgpjfmaaDoorRg
namespace Go.Proofs.YtjphlbnbgpjfmaaDoor
open Go.RowKit

theorem held4_any (n : Int) (k : Nat) (w : World) (hk : max 0 (min n 65535) = (k : Int)) :
    Calls Tryd.prog 30 #[.int .i64 n] w fun e w' => e = .returned (.int .i64 (k : Int)) ∧ w = w' := by
  obtain ⟨mx, hmx, hmx2⟩ : ∃ mx : Int, (if n < 0 then (0 : Int) else n) = mx ∧ mx = max n 0 := ⟨_, rfl, by split <;> omega⟩
  have hmn : (if 65535 < mx then (65535 : Int) else mx) = (k : Int) := by split <;> omega
  clear hk hmx2
  go_enter Tryd.func30, Tryd.ntmps30
  go_wp2
  go_ret
  exact ⟨rfl, rfl⟩
/-- A row of the call's own that is not empty: where it lies; its cells. -/
theorem Own.form' {B : Nat} {w : World} {e : TypeId} {v : Value} {xs : List Value} (h : Own B w e v xs) (hn : 0 < xs.length) : ∃ g cap, v = .slice (some ⟨g, 0, none⟩) xs.length cap ∧ B ≤ g ∧ g < w.heap.size := World.ownsRow.form h hn
theorem Own.cell' {B g cap n : Nat} {w : World} {e : TypeId} {v : Value} {xs : List Value} (h : Own B w e v xs) (hv : v = .slice (some ⟨g, 0, none⟩) n cap) (j : Nat) (hj : j < xs.length) : w.cell? ⟨g, j, none⟩ = xs[j]? := by
  subst hv
  rcases h.2 with ⟨h1, _⟩ | ⟨g', cap', cur, h1, _⟩
  · cases h1
  · injection h1 with h1 h2 h3
    subst h2
    exact World.ownsRow.cellAt h j (by omega)
def RDecEnd (w w' : World) (g row : Nat) (bs : List Nat) (o : Option (List Int × Nat × Nat)) (e : Ending) : Prop :=
  match o with
  | some (xs, R, rem) => ∃ v, e = .returned (.tuple #[v, .bool true]) ∧ Own w.heap.size w' 2 v (cellsI xs) ∧ RRdO w' g row bs (some (R, rem)) ∧ Mod (fun i => i = g) w w'
  | none => e = .returned (.tuple #[.slice none 0 0, .bool false]) ∧ Mod (fun i => i = g) w w'
def RDec1 (w wr : World) (g row : Nat) (bs : List Nat) (k R rem i : Nat) (v : Value) (last : Nat) (s : Option (Nat × Nat)) : Prop :=
  ∃ xs, Own w.heap.size wr 2 v (cellsI xs) ∧ RRdO wr g row bs s ∧ Mod (fun i => i = g) w wr ∧ xs.length = i ∧ last < M64 ∧ (i = 0 → xs = [] ∧ last = 0 ∧ s = some (R, rem)) ∧
    (0 < i → ∃ prev, xs[i - 1]? = some prev ∧ (s = none → rdRow k R rem = none) ∧ ∀ R' rem', s = some (R', rem') → rdRow k R rem = (rdTimes (k - i) prev last R' rem').map fun p => (xs ++ p.1, p.2))
theorem RDec1.mk {w w1 w2 : World} {g row : Nat} {bs : List Nat} {k R rem i : Nat} {v2 : Value} {x : Int} {last' : Nat} {s' : Option (Nat × Nat)} {xs : List Int} (hgl : g < w.heap.size) (hrow : row < w.heap.size)
    (h1 : RRdO w1 g row bs s') (hm : Mod (fun i => i = g) w w1) (hown : Own w.heap.size w2 2 v2 (cellsI xs ++ [.int .i64 x])) (hb : Below w.heap.size w1 w2) (hxl : xs.length = i) (hl : last' < M64)
    (hn : (s' = none → rdRow k R rem = none) ∧ ∀ R' rem', s' = some (R', rem') → rdRow k R rem = (rdTimes (k - (i + 1)) x last' R' rem').map fun p => ((xs ++ [x]) ++ p.1, p.2)) :
    RDec1 w w2 g row bs k R rem (i + 1) v2 last' s' := by
  refine ⟨xs ++ [x], ?_, h1.mod (Mod.of_below hb) (by omega) (fun _ => by omega), hm.trans (Mod.of_below hb) (fun i hi h => by omega), by simp [hxl], hl, fun h => by omega, fun _ => ⟨x, ?_, hn⟩⟩
  · rw [cellsI_snoc]
    exact hown
  · rw [Nat.add_sub_cancel, List.getElem?_append_right (by omega), hxl, Nat.sub_self]
    rfl
/-- The step of a difference that was read, or not, as the document goes on. -/
theorem rdRow_next {k R rem i last : Nat} {prev : Int} {xs : List Int} {s : Option (Nat × Nat)} (hs : s.isSome = true) (hi : i < k) (hk : kindN (diffO s) = sz (formO s))
    (h : ∀ R' rem', s = some (R', rem') → rdRow k R rem = (rdTimes (k - i) prev last R' rem').map fun p => (xs ++ p.1, p.2)) :
    (behindO s = none → rdRow k R rem = none) ∧ ∀ R' rem', behindO s = some (R', rem') → rdRow k R rem = (rdTimes (k - (i + 1)) (nextX prev (nextL last (diffO s))) (nextL last (diffO s)) R' rem').map fun p => ((xs ++ [nextX prev (nextL last (diffO s))]) ++ p.1, p.2) := by
  have hf : formO s = hd (diffO s) := by
    rw [kind_hd] at hk
    exact (sz_inj (hd_le _) (formO_le s) hk).symm
  cases s with
  | none => cases hs
  | some p =>
    obtain ⟨R0, rem0⟩ := p
    have e1 := h R0 rem0 rfl
    obtain ⟨d1, d2⟩ := rdDiff_O R0 rem0
    obtain ⟨j, hj⟩ : ∃ j, k - i = j + 1 := ⟨k - i - 1, by omega⟩
    cases hd' : rdDiff R0 rem0 with
    | none =>
      have hb : behindO (some (R0, rem0)) = none := by
        rcases d2 hd' with h2 | h2
        · exact h2
        · exact absurd hf h2
      refine ⟨fun _ => ?_, fun R' rem' h2 => (by rw [hb] at h2; cases h2)⟩
      rw [e1, hj, rdTimes_more.2 hd']
      rfl
    | some q =>
      obtain ⟨d, R2, rem2⟩ := q
      obtain ⟨c1, c2, c3⟩ := d1 d R2 rem2 hd'
      refine ⟨fun h2 => (by rw [c2] at h2; cases h2), fun R' rem' h2 => ?_⟩
      rw [c2] at h2
      injection h2 with h2
      injection h2 with h3 h4
      subst h3 h4
      rw [e1, hj, rdTimes_more.1 d R2 rem2 hd', c1, show k - (i + 1) = j by omega, Option.map_map]
      congr 1
      funext p
      simp
theorem rdRow_stop {k R rem i last : Nat} {prev : Int} {xs : List Int} {s : Option (Nat × Nat)} (hs : s.isSome = true) (hi : i < k) (hk : ¬ kindN (diffO s) = sz (formO s))
    (h : ∀ R' rem', s = some (R', rem') → rdRow k R rem = (rdTimes (k - i) prev last R' rem').map fun p => (xs ++ p.1, p.2)) : rdRow k R rem = none := by
  cases s with
  | none => cases hs
  | some p =>
    obtain ⟨R0, rem0⟩ := p
    have e1 := h R0 rem0 rfl
    obtain ⟨d1, d2⟩ := rdDiff_O R0 rem0
    obtain ⟨j, hj⟩ : ∃ j, k - i = j + 1 := ⟨k - i - 1, by omega⟩
    have : rdDiff R0 rem0 = none := by
      cases hd' : rdDiff R0 rem0 with
      | none => rfl
      | some q =>
        obtain ⟨d, R2, rem2⟩ := q
        obtain ⟨c1, c2, c3⟩ := d1 d R2 rem2 hd'
        exact absurd (by rw [kind_hd, c3, c1]) hk
    rw [e1, hj, rdTimes_more.2 this]
    rfl
theorem nextL_u (last : Nat) (d : Int) : IntKind.u64.wrap ((last : Int) + (un d : Int)) = (nextL last d : Int) := by
  rw [IntKind.wrap_u64]
  unfold nextL
  have e : ((M64 : Nat) : Int) = 18446744073709551616 := rfl
  rw [Int.natCast_emod, e, Int.natCast_add]
theorem nextX_u (prev : Int) (last : Nat) : wrap64 (IntKind.u64.wrap ((un prev : Int) + (last : Int))) = nextX prev last := by
  have e : ((M64 : Nat) : Int) = 18446744073709551616 := rfl
  have h : IntKind.u64.wrap ((un prev : Int) + (last : Int)) = (((un prev + last) % M64 : Nat) : Int) := by rw [IntKind.wrap_u64, Int.natCast_emod, e, Int.natCast_add]
  rw [h, wrap_sg, un_nat (Nat.mod_lt _ (by decide))]
  rfl
set_option maxHeartbeats 2000000 in
set_option maxRecDepth 100000 in
theorem gettimes_any (g row R rem k : Nat) (bs : List Nat) (n : Int) (w : World) (hk : max 0 (min n 65535) = (k : Int)) (hr : RRd w g row bs R rem true) (hR : R < 2 ^ rem) (hrow : row < w.heap.size) :
    Calls Tryd.prog 18 #[.pointer (some ⟨g, 0, none⟩), .int .i64 n] w fun e w' => RDecEnd w w' g row bs (rdRow k R rem) e := by
  have H0 : Hid (RDec1 w w g row bs k R rem 0 (.slice none 0 0) 0 (some (R, rem))) := Lib.hid ⟨[], Own.nil _ _ _, ⟨hr, hR⟩, Mod.refl _ _, rfl, by decide, fun _ => ⟨rfl, rfl, rfl⟩, fun h => by omega⟩
  have hgl := Lib.hid hr.lt'
  have Hrow := Lib.hid hrow; have HR := Lib.hid hR; have Hk := Lib.hid hk
  have hk65 : k ≤ 65535 := by omega
  clear hr hR hrow hk
  go_enter Tryd.func18, Tryd.ntmps18
  go_wp2_with fail
  refine (held4_any n k _ Hk.out).mono ?_
  rintro e w' ⟨rfl, rfl⟩
  clear Hk
  go_wp2_with fail
  go_loopg [6, 7, 8] k (fun l s6 s7 s8 wr => ∃ (i last : Nat) (s : Option (Nat × Nat)), i + l = k ∧ s8 = .int .i64 (i : Int) ∧ s7 = .int .u64 (last : Int) ∧ RDec1 w wr g row bs k R rem i s6 last s)
  case atStart => exact ⟨0, 0, _, by omega, rfl, rfl, H0.out⟩
  case round =>
    obtain ⟨i, last, s, hil, rfl, rfl, hD⟩ := hrel
    have HD := Lib.hid hD; have Hil := Lib.hid hil
    clear hD hil H0
    obtain ⟨xs, hown, hro, hm, hxl, hl64, hi0, hi1⟩ := HD.out
    have Hro := Lib.hid hro; have Hm := Lib.hid hm; have Hown := Lib.hid hown; have Hxl := Lib.hid hxl
    have hfl := hro.flag
    clear hown hro hm hxl
    by_cases hin : i < k
    · cases hs : s.isSome with
      | false =>
        rw [hs] at hfl
        have hsn : s = none := by
          cases s with
          | none => rfl
          | some p => cases hs
        have Hnone : Hid (rdRow k R rem = none) := Lib.hid (by
          rcases Nat.eq_zero_or_pos i with h0 | h0
          · have := (hi0 h0).2.2
            rw [hsn] at this
            cases this
          · obtain ⟨_, _, h2, _⟩ := hi1 h0
            exact h2 hsn)
        clear hi0 hi1 hs hsn
        go_wp2_with fail
        go_ret2
        unfold RDecEnd
        rw [Hnone.out]
        exact ⟨rfl, Hm.out⟩
      | true =>
        rw [hs] at hfl
        have Hs := Lib.hid hs
        clear hs
        by_cases h0 : i = 0
        · obtain ⟨rfl, rfl, rfl⟩ := hi0 h0
          subst h0
          clear hi0 hi1
          go_wp2_with fail
          refine (rget_o g row 64 64 bs _ _ rfl (by decide) Hro.out).mono ?_
          rintro e w1 ⟨rfl, h1, hm1⟩
          obtain ⟨u, hu⟩ : ∃ u, u = (getO 64 (some (R, rem))).1 := ⟨_, rfl⟩
          have hu64 : u < 2 ^ 64 := by rw [hu]; exact getO_lt HR.out 64
          have hcv : wrap64 (u : Int) = sg u := by rw [wrap_sg, un_nat (by rw [M64_pow]; exact hu64)]
          have hN : Hid (((getO 64 (some (R, rem))).2 = none → rdRow k R rem = none) ∧ ∀ R' rem', (getO 64 (some (R, rem))).2 = some (R', rem') → rdRow k R rem = (rdTimes (k - (0 + 1)) (sg u) 0 R' rem').map fun p => (([] ++ [sg u]) ++ p.1, p.2)) :=
            Lib.hid ⟨rdRow_first hin, fun R' rem' h => by rw [hu]; exact rdRow_first2 hin h⟩
          rw [← hu]
          have Hown1 : Hid (Own w.heap.size w1 2 u6 (cellsI [])) := Lib.hid (hm1.owns Hown.out (fun k hk e => by have := (Hown.out.block k hk).1; have := hgl.out; omega))
          have H1 := Lib.hid h1; have Hm1 := Lib.hid (Hm.out.trans hm1 (fun _ _ h => h))
          have hsz := Hm1.out.size
          have hr1 : (cellsI []).length + 1 ≤ maxLen := by unfold maxLen; decide
          have hr2 : ((cellsI []).length + 1) * 8 ≤ 140737488355328 := by decide
          clear hu hu64 h1 hm1 hfl
          go_wp2_with (at_builtin; refine wpList_app1 rfl (.tmp 27) (.tmp 31) _ rfl elt64 rfl Hown1.out rfl rfl rfl hr1 hr2 hsz ?_; intro v' w2 HO HB)
          have HD2 : Hid (RDec1 w w2 g row bs k R rem (0 + 1) v' 0 (getO 64 (some (R, rem))).2) := Lib.hid (RDec1.mk hgl.out Hrow.out H1.out Hm1.out HO.out HB.out rfl (by decide) hN.out)
          go_roundg (gk - 1)
          case measure => have := Hil.out; omega
          case rel => exact ⟨0 + 1, 0, _, by have := Hil.out; omega, rfl, rfl, HD2.out⟩
        · have hb0 : ((i : Int) == 0) = false := by simp; omega
          obtain ⟨prev, hpv, h1n, h1i⟩ := hi1 (by omega)
          have H1i := Lib.hid h1i; have Hpv := Lib.hid hpv
          clear hi0 hi1 h1i h1n hpv
          go_wp2_with fail
          refine (rdiff_o g row bs s _ Hro.out).mono ?_
          rintro e w1 ⟨rfl, h1, hm1⟩
          have H1 := Lib.hid h1; have Hm1 := Lib.hid (Hm.out.trans hm1 (fun _ _ h => h))
          have Hown1 : Hid (Own w.heap.size w1 2 u6 (cellsI xs)) := Lib.hid (hm1.owns Hown.out (fun k hk e => by have := (Hown.out.block k hk).1; have := hgl.out; omega))
          clear h1 hm1 hfl
          by_cases hkd : kindN (diffO s) = sz (formO s)
          · rw [decide_eq_true hkd]
            have hN := Lib.hid (rdRow_next (i := i) (last := last) (prev := prev) (xs := xs) Hs.out hin hkd H1i.out)
            obtain ⟨gr, cap, hv, _, hglt⟩ := Hown1.out.form' (by rw [cellsI_length, Hxl.out]; omega)
            have hcell : w1.cell? ⟨gr, i - 1, none⟩ = some (.int .i64 prev) := by
              have h := Hown1.out.cell' hv (i - 1) (by rw [cellsI_length, Hxl.out]; omega)
              rw [h, cellsI_get, Hpv.out]
              rfl
            rw [cellsI_length, Hxl.out] at hv
            subst hv
            have hdu : IntKind.u64.wrap (diffO s) = (un (diffO s) : Int) := wrapU_un _
            have hpu : IntKind.u64.wrap prev = (un prev : Int) := wrapU_un prev
            obtain ⟨l', hl'⟩ : ∃ l', l' = nextL last (diffO s) := ⟨_, rfl⟩
            have hlu : IntKind.u64.wrap ((last : Int) + (un (diffO s) : Int)) = (l' : Int) := by rw [hl']; exact nextL_u _ _
            obtain ⟨x, hx⟩ : ∃ x, x = nextX prev l' := ⟨_, rfl⟩
            obtain ⟨xu, hxu⟩ : ∃ xu : Nat, xu = (un prev + l') % M64 := ⟨_, rfl⟩
            have hxu1 : IntKind.u64.wrap ((un prev : Int) + (l' : Int)) = (xu : Int) := by
              have e : ((M64 : Nat) : Int) = 18446744073709551616 := rfl
              rw [hxu, IntKind.wrap_u64, Int.natCast_emod, e, Int.natCast_add]
            have hxu2 : wrap64 (xu : Int) = x := by rw [← hxu1, hx]; exact nextX_u _ _
            rw [← hl', ← hx] at hN
            have Hl' := Lib.hid hl'
            have hi3 : (0 : Int) ≤ (i : Int) - 1 := by omega
            have hi4 : (1 : Int) ≤ (i : Int) := by omega
            have hsz := Hm1.out.size
            have hr1 : (cellsI xs).length + 1 ≤ maxLen := by rw [cellsI_length, Hxl.out]; unfold maxLen; omega
            have hr2 : ((cellsI xs).length + 1) * 8 ≤ 140737488355328 := by rw [cellsI_length, Hxl.out]; omega
            clear hkd hl' hx hxu
            go_wp2_with (at_builtin; refine wpList_app1 rfl (.tmp 44) (.tmp 54) _ rfl elt64 rfl Hown1.out rfl rfl rfl hr1 hr2 hsz ?_; intro v' w2 HO HB)
            have HD2 : Hid (RDec1 w w2 g row bs k R rem (i + 1) v' l' (behindO s)) := Lib.hid (RDec1.mk hgl.out Hrow.out H1.out Hm1.out HO.out HB.out Hxl.out (by rw [Hl'.out]; exact nextL_lt _ _) hN.out)
            go_roundg (gk - 1)
            case measure => have := Hil.out; omega
            case rel => exact ⟨i + 1, l', _, by have := Hil.out; omega, by go_num, rfl, HD2.out⟩
          · rw [decide_eq_false hkd]
            have Hnone := Lib.hid (rdRow_stop Hs.out hin hkd H1i.out)
            clear hkd
            go_wp2_with fail
            go_ret2
            unfold RDecEnd
            rw [Hnone.out]
            exact ⟨rfl, Hm1.out⟩
    · have hik : i = k := by have := Hil.out; omega
      have Hres : Hid ((s = none → rdRow k R rem = none) ∧ ∀ R' rem', s = some (R', rem') → rdRow k R rem = some (xs, R', rem')) := Lib.hid (by
        rcases Nat.eq_zero_or_pos i with h0 | h0
        · obtain ⟨b1, b2, b4⟩ := hi0 h0
          subst b1 b4
          have hk0 : k = 0 := by omega
          subst hk0
          refine ⟨fun h => (by cases h), fun R' rem' h => ?_⟩
          injection h with h
          injection h with h3 h4
          subst h3 h4
          rfl
        · obtain ⟨prev, _, b1, b2⟩ := hi1 h0
          refine ⟨b1, fun R' rem' h => ?_⟩
          rw [b2 R' rem' h, hik, Nat.sub_self]
          show some (xs ++ [], R', rem') = _
          rw [List.append_nil])
      clear hi0 hi1 hik
      have hres1 : s = none → Hid (rdRow k R rem = none) := fun h => Lib.hid (Hres.out.1 h)
      cases s with
      | none =>
        have hres2 := hres1 rfl
        have hfl' : wr.cell? ⟨g, 2, none⟩ = some (.bool true) := hfl
        clear Hres hres1 hfl
        go_wp2_with fail
        go_ret2
        unfold RDecEnd
        rw [hres2.out]
        exact ⟨rfl, Hm.out⟩
      | some p =>
        obtain ⟨R', rem'⟩ := p
        have hres2 : Hid (rdRow k R rem = some (xs, R', rem')) := Lib.hid (Hres.out.2 R' rem' rfl)
        have hfl' : wr.cell? ⟨g, 2, none⟩ = some (.bool false) := hfl
        clear Hres hres1 hfl
        go_wp2_with fail
        go_ret2
        unfold RDecEnd
        rw [hres2.out]
        exact ⟨_, rfl, Hown.out, Hro.out, Hm.out⟩
end Go.Proofs.YtjphlbnbgpjfmaaDoor

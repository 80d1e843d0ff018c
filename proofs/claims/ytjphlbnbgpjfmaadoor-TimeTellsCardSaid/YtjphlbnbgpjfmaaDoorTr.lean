/- Rows of times are read: Decode. -/
import Derived.Test.YtjphlbnbgpjfmaaDoorTp
namespace Go.Proofs.YtjphlbnbgpjfmaaDoor
open Go.RowKit

theorem elt64 : Elt Tryd.prog 33 2 (.int .i64 0) 8 := Elt.mk Tryd.underlying33 (by kernel_rfl) rfl
def cellsI (xs : List Int) : List Value := xs.map fun x => Value.int .i64 x
theorem cellsI_length (xs : List Int) : (cellsI xs).length = xs.length := by simp [cellsI]
theorem cellsI_snoc (xs : List Int) (x : Int) : cellsI (xs ++ [x]) = cellsI xs ++ [.int .i64 x] := by simp [cellsI]
theorem cellsI_get (xs : List Int) (i : Nat) : (cellsI xs)[i]? = xs[i]?.map fun x => Value.int .i64 x := by simp [cellsI]
/-- A reader's row can be taken for a real one. -/
theorem Rdr.real {w : World} {g row R rem : Nat} {ok : Bool} (h : Rdr w g row R rem ok) (hg : g ≠ 0) (h0 : 0 < w.heap.size) : ∃ row', row' < w.heap.size ∧ (row' = row ∨ row' = 0) ∧ Rdr w g row' R rem ok := by
  rcases Nat.eq_zero_or_pos rem with hr | hr
  · subst hr
    exact ⟨0, h0, .inr rfl, h.rerow (fun e => hg e.symm)⟩
  · exact ⟨row, h.row_real hr, .inl rfl, h⟩

def DecEnd (w w' : World) (g row : Nat) (o : Option (List Int × Nat × Nat)) (e : Ending) : Prop :=
  match o with
  | some (xs, R, rem) => ∃ v, e = .returned (.tuple #[v, .bool true]) ∧ Own w.heap.size w' 2 v (cellsI xs) ∧ RdrO w' g row (some (R, rem)) ∧ Mod (fun i => i = g) w w'
  | none => e = .returned (.tuple #[.slice none 0 0, .bool false]) ∧ (∃ s, RdrO w' g row s) ∧ Mod (fun i => i = g) w w'
def Dec1 (w wr : World) (g row k R rem i : Nat) (v : Value) (prev : Int) (last : Nat) (s : Option (Nat × Nat)) : Prop :=
  ∃ xs, Own w.heap.size wr 2 v (cellsI xs) ∧ RdrO wr g row s ∧ Mod (fun i => i = g) w wr ∧ xs.length = i ∧ last < M64 ∧ (i = 0 → xs = [] ∧ prev = 0 ∧ last = 0 ∧ s = some (R, rem)) ∧
    (0 < i → (s = none → rdRow k R rem = none) ∧ ∀ R' rem', s = some (R', rem') → rdRow k R rem = (rdTimes (k - i) prev last R' rem').map fun p => (xs ++ p.1, p.2))
theorem Dec1.mk {w w1 w2 : World} {g row k R rem i : Nat} {v2 : Value} {x : Int} {last' : Nat} {s' : Option (Nat × Nat)} {xs : List Int} (hgl : g < w.heap.size) (hrow : row < w.heap.size)
    (h1 : RdrO w1 g row s') (hm : Mod (fun i => i = g) w w1) (hown : Own w.heap.size w2 2 v2 (cellsI xs ++ [.int .i64 x])) (hb : Below w.heap.size w1 w2) (hxl : xs.length = i) (hl : last' < M64)
    (hn : (s' = none → rdRow k R rem = none) ∧ ∀ R' rem', s' = some (R', rem') → rdRow k R rem = (rdTimes (k - (i + 1)) x last' R' rem').map fun p => ((xs ++ [x]) ++ p.1, p.2)) :
    Dec1 w w2 g row k R rem (i + 1) v2 x last' s' := by
  refine ⟨xs ++ [x], ?_, h1.mod (Mod.of_below hb) (by omega) (fun _ => by omega), hm.trans (Mod.of_below hb) (fun i hi h => by omega), by simp [hxl], hl, fun h => by omega, fun _ => hn⟩
  rw [cellsI_snoc]
  exact hown
theorem rdRow_first {k R rem : Nat} (hk : 0 < k) : (getO 64 (some (R, rem))).2 = none → rdRow k R rem = none := by
  intro h
  obtain ⟨k, rfl⟩ : ∃ j, k = j + 1 := ⟨k - 1, by omega⟩
  rw [getO_take] at h
  show (match takeB 64 R rem with | none => none | some (u, R1, rem1) => (rdTimes k (sg u) 0 R1 rem1).map fun (p : List Int × Nat × Nat) => (sg u :: p.1, p.2)) = none
  cases ht : takeB 64 R rem with
  | none => rfl
  | some q => rw [ht] at h; cases h
theorem rdRow_first2 {k R rem R' rem' : Nat} (hk : 0 < k) (h : (getO 64 (some (R, rem))).2 = some (R', rem')) : rdRow k R rem = (rdTimes (k - 1) (sg (getO 64 (some (R, rem))).1) 0 R' rem').map fun p => (sg (getO 64 (some (R, rem))).1 :: p.1, p.2) := by
  obtain ⟨k, rfl⟩ : ∃ j, k = j + 1 := ⟨k - 1, by omega⟩
  rw [getO_take] at h ⊢
  show (match takeB 64 R rem with | none => none | some (u, R1, rem1) => (rdTimes k (sg u) 0 R1 rem1).map fun (p : List Int × Nat × Nat) => (sg u :: p.1, p.2)) = _
  cases ht : takeB 64 R rem with
  | none => rw [ht] at h; cases h
  | some q =>
    obtain ⟨u, R1, rem1⟩ := q
    rw [ht] at h
    have h2 : some (R1, rem1) = some (R', rem') := h
    injection h2 with h2
    injection h2 with h3 h4
    subst h3 h4
    rfl
/-- One difference more: read, or not. -/
theorem rdTimes_more {j R rem : Nat} {prev : Int} {last : Nat} : (∀ d R1 rem1, rdDiff R rem = some (d, R1, rem1) → rdTimes (j + 1) prev last R rem = (rdTimes j (nextX prev (nextL last d)) (nextL last d) R1 rem1).map fun p => (nextX prev (nextL last d) :: p.1, p.2)) ∧
    (rdDiff R rem = none → rdTimes (j + 1) prev last R rem = none) := by
  have e : rdTimes (j + 1) prev last R rem = match rdDiff R rem with | none => none | some (d, R1, rem1) => (rdTimes j (nextX prev (nextL last d)) (nextL last d) R1 rem1).map fun (p : List Int × Nat × Nat) => (nextX prev (nextL last d) :: p.1, p.2) := rfl
  refine ⟨fun d R1 rem1 h => ?_, fun h => ?_⟩
  · rw [e, h]
  · rw [e, h]
theorem nextL_lt (last : Nat) (d : Int) : nextL last d < M64 := Nat.mod_lt _ (by decide)
theorem add_step (last : Nat) (d : Int) : wrap64 (sg last + d) = sg (nextL last d) := by
  rw [wrap_sg]
  congr 1
  unfold nextL
  obtain ⟨b, hb⟩ := sg_ex last
  obtain ⟨c, hc⟩ := un_ex d
  have h1 : un (sg last + d) = un (((last + un d : Nat)) : Int) := un_of (k := b - c) (by rw [hb, Int.natCast_add, hc, Int.sub_mul]; omega)
  rw [h1]
  unfold un
  rw [← Int.natCast_emod, Int.toNat_natCast]
theorem add_prev (prev : Int) (last : Nat) : wrap64 (prev + sg last) = nextX prev last := by
  rw [wrap_sg]
  unfold nextX
  congr 1
  obtain ⟨b, hb⟩ := sg_ex last
  obtain ⟨c, hc⟩ := un_ex prev
  have h1 : un (prev + sg last) = un (((un prev + last : Nat)) : Int) := un_of (k := b - c) (by rw [hb, Int.natCast_add, hc, Int.sub_mul]; omega)
  rw [h1]
  show (((un prev + last : Nat) : Int) % (M64 : Int)).toNat = _
  rw [← Int.natCast_emod, Int.toNat_natCast]
theorem getO_lt {R rem : Nat} (h : R < 2 ^ rem) (k : Nat) : (getO k (some (R, rem))).1 < 2 ^ k := by
  unfold getO
  by_cases hk : k ≤ rem
  · simp only [hk, if_true]
    rw [Nat.div_lt_iff_lt_mul (Nat.two_pow_pos _), ← Nat.pow_add, show k + (rem - k) = rem by omega]
    exact h
  · simp only [hk, if_false]
    exact Nat.two_pow_pos k
set_option maxHeartbeats 1000000 in
theorem decode_any (g row R rem k : Nat) (n : Int) (w : World) (hk : max 0 (min n 65535) = (k : Int)) (hr : Rdr w g row R rem true) (hrem : rem ≤ 8000000) (hrow : row < w.heap.size) (hwid : Wid w) (hg : g ≠ 0) :
    Calls Tryd.prog 10 #[.pointer (some ⟨g, 0, none⟩), .int .i64 n] w fun e w' => DecEnd w w' g row (rdRow k R rem) e := by
  have H0 : Hid (Dec1 w w g row k R rem 0 (.slice none 0 0) 0 0 (some (R, rem))) := Lib.hid ⟨[], Own.nil _ _ _, ⟨hr, hrem⟩, Mod.refl _ _, rfl, by decide, fun _ => ⟨rfl, rfl, rfl, rfl⟩, fun h => by omega⟩
  have hgl := Lib.hid hr.lt
  have Hwid := Lib.hid hwid; have Hg := Lib.hid hg; have Hrow := Lib.hid hrow
  have hRs := Lib.hid hr.small
  obtain ⟨mn, hmn, hmn2⟩ : ∃ mn : Int, (if 65535 < n then (65535 : Int) else n) = mn ∧ mn = min n 65535 := ⟨_, rfl, by split <;> omega⟩
  have hmx : (if 0 < mn then mn else (0 : Int)) = (k : Int) := by split <;> omega
  have hk65 : k ≤ 65535 := by omega
  clear hr hrem hwid hg hrow hk hmn2
  go_enter Tryd.func10, Tryd.ntmps10
  go_wp2_with fail
  clear hmn hmx
  go_loopg [6, 7, 8, 15] k (fun l s6 s7 s8 s15 wr => ∃ (i : Nat) (prev st : Int) (last : Nat) (s : Option (Nat × Nat)), i + l = k ∧ s15 = .int .i64 (i : Int) ∧ s7 = .int .i64 prev ∧ s8 = .int .i64 st ∧ st = sg last ∧ Dec1 w wr g row k R rem i s6 prev last s)
  case atStart => exact ⟨0, 0, 0, 0, _, by omega, rfl, rfl, rfl, rfl, H0.out⟩
  case round =>
    obtain ⟨i, prev, st, last, s, hil, rfl, rfl, rfl, hst, hD⟩ := hrel
    have HD := Lib.hid hD; have Hil := Lib.hid hil; have Hst := Lib.hid hst
    clear hD hil hst H0
    obtain ⟨xs, hown, hro, hm, hxl, hl64, hi0, hi1⟩ := HD.out
    have Hro := Lib.hid hro; have Hm := Lib.hid hm; have Hown := Lib.hid hown; have Hxl := Lib.hid hxl
    have HwidR := Lib.hid (Hwid.out.mod hm (fun e => Hg.out e.symm))
    clear hown hro hm hxl
    by_cases hin : i < k
    · by_cases h0 : i = 0
      · obtain ⟨rfl, rfl, rfl, rfl⟩ := hi0 h0
        subst h0
        clear hi0 hi1
        go_wp2_with fail
        refine (get_o g row 64 64 _ _ rfl (by decide) Hro.out).mono ?_
        rintro e w1 ⟨rfl, h1, hm1⟩
        obtain ⟨u, hu⟩ : ∃ u, u = (getO 64 (some (R, rem))).1 := ⟨_, rfl⟩
        have hu64 : u < 2 ^ 64 := by rw [hu]; exact getO_lt hRs.out 64
        have hcv : wrap64 (u : Int) = sg u := by rw [wrap_sg, un_nat (by rw [M64_pow]; exact hu64)]
        have hN : Hid (((getO 64 (some (R, rem))).2 = none → rdRow k R rem = none) ∧ ∀ R' rem', (getO 64 (some (R, rem))).2 = some (R', rem') → rdRow k R rem = (rdTimes (k - (0 + 1)) (sg u) 0 R' rem').map fun p => (([] ++ [sg u]) ++ p.1, p.2)) :=
          Lib.hid ⟨rdRow_first hin, fun R' rem' h => by rw [hu]; exact rdRow_first2 hin h⟩
        rw [← hu]
        have Hown1 : Hid (Own w.heap.size w1 2 u6 (cellsI [])) := Lib.hid (hm1.owns Hown.out (fun k hk e => by have := (Hown.out.block k hk).1; have := hgl.out; omega))
        have H1 := Lib.hid h1; have Hm1 := Lib.hid (Hm.out.trans hm1 (fun _ _ h => h))
        have hsz := Hm1.out.size
        have hr1 : (cellsI []).length + 1 ≤ maxLen := by unfold maxLen; decide
        have hr2 : ((cellsI []).length + 1) * 8 ≤ 140737488355328 := by decide
        clear hu hu64 h1 hm1
        go_wp2_with (at_builtin; refine wpList_app1 rfl (.tmp 36) (.tmp 38) _ rfl elt64 rfl Hown1.out rfl rfl rfl hr1 hr2 hsz ?_; intro v' w2 HO HB)
        have HD2 : Hid (Dec1 w w2 g row k R rem (0 + 1) v' (sg u) 0 (getO 64 (some (R, rem))).2) := Lib.hid (Dec1.mk hgl.out Hrow.out H1.out Hm1.out HO.out HB.out rfl (by decide) hN.out)
        go_roundg (gk - 1)
        case measure => have := Hil.out; omega
        case rel => exact ⟨0 + 1, sg u, st, 0, _, by have := Hil.out; omega, rfl, rfl, rfl, Hst.out, HD2.out⟩
      · have hb0 : ((i : Int) == 0) = false := by simp; omega
        have h1i := hi1 (by omega)
        have H1i := Lib.hid h1i
        clear hi0 hi1 h1i
        go_wp2_with fail
        refine (dget_o g row s _ Hro.out HwidR.out Hg.out).mono ?_
        rintro e w1 ⟨rfl, h1, hm1⟩
        have H1 := Lib.hid h1; have Hm1 := Lib.hid (Hm.out.trans hm1 (fun _ _ h => h))
        have Hown1 : Hid (Own w.heap.size w1 2 u6 (cellsI xs)) := Lib.hid (hm1.owns Hown.out (fun k hk e => by have := (Hown.out.block k hk).1; have := hgl.out; omega))
        clear h1 hm1
        cases hb : ((behindO s).isSome && decide (formO s = hd (diffO s))) with
        | false =>
          have hnone : Hid (rdRow k R rem = none) := Lib.hid (by
            cases s with
            | none => exact H1i.out.1 rfl
            | some p =>
              obtain ⟨R', rem'⟩ := p
              have e1 := H1i.out.2 R' rem' rfl
              obtain ⟨d1, d2⟩ := rdDiff_O R' rem'
              rw [e1]
              have : rdDiff R' rem' = none := by
                cases hd' : rdDiff R' rem' with
                | none => rfl
                | some q =>
                  obtain ⟨d, R1, rem1⟩ := q
                  obtain ⟨b1, b2, b3⟩ := d1 d R1 rem1 hd'
                  rw [b2, b3, b1] at hb
                  simp at hb
              obtain ⟨j, hj⟩ : ∃ j, k - i = j + 1 := ⟨k - i - 1, by omega⟩
              rw [hj, rdTimes_more.2 this]
              rfl)
          clear hb
          go_wp2_with fail
          go_ret2
          unfold DecEnd
          rw [hnone.out]
          exact ⟨rfl, ⟨_, H1.out⟩, Hm1.out⟩
        | true =>
          have hb1 : (behindO s).isSome = true := by revert hb; cases (behindO s).isSome <;> simp
          have hb2 : formO s = hd (diffO s) := by revert hb; cases (behindO s).isSome <;> simp
          have hadd1 : wrap64 (st + diffO s) = sg (nextL last (diffO s)) := by rw [Hst.out]; exact add_step _ _
          obtain ⟨st', hst'⟩ : ∃ st', st' = sg (nextL last (diffO s)) := ⟨_, rfl⟩
          have hadd2 : wrap64 (prev + st') = nextX prev (nextL last (diffO s)) := by rw [hst']; exact add_prev _ _
          rw [← hst'] at hadd1
          obtain ⟨x, hx⟩ : ∃ x, x = nextX prev (nextL last (diffO s)) := ⟨_, rfl⟩
          rw [← hx] at hadd2
          have Hst' := Lib.hid hst'
          have hN : Hid (((behindO s) = none → rdRow k R rem = none) ∧ ∀ R' rem', (behindO s) = some (R', rem') → rdRow k R rem = (rdTimes (k - (i + 1)) x (nextL last (diffO s)) R' rem').map fun p => ((xs ++ [x]) ++ p.1, p.2)) := Lib.hid (by
            refine ⟨fun h => (by rw [h] at hb1; cases hb1), fun R1 rem1 h => ?_⟩
            cases s with
            | none => cases h
            | some p =>
              obtain ⟨R', rem'⟩ := p
              have e1 := H1i.out.2 R' rem' rfl
              obtain ⟨d1, d2⟩ := rdDiff_O R' rem'
              cases hd' : rdDiff R' rem' with
              | none =>
                rcases d2 hd' with h2 | h2
                · rw [h2] at hb1; cases hb1
                · exact absurd hb2 h2
              | some q =>
                obtain ⟨d, R2, rem2⟩ := q
                obtain ⟨c1, c2, c3⟩ := d1 d R2 rem2 hd'
                rw [c2] at h
                injection h with h
                injection h with h3 h4
                subst h3 h4
                obtain ⟨j, hj⟩ : ∃ j, k - i = j + 1 := ⟨k - i - 1, by omega⟩
                rw [e1, hj, rdTimes_more.1 d R2 rem2 hd', hx, c1, show k - (i + 1) = j by omega, Option.map_map]
                congr 1
                funext p
                simp)
          have hsz := Hm1.out.size
          have hr1 : (cellsI xs).length + 1 ≤ maxLen := by rw [cellsI_length, Hxl.out]; unfold maxLen; omega
          have hr2 : ((cellsI xs).length + 1) * 8 ≤ 140737488355328 := by rw [cellsI_length, Hxl.out]; omega
          clear hb hb1 hb2 hst' hx
          go_wp2_with (at_builtin; refine wpList_app1 rfl (.tmp 36) (.tmp 38) _ rfl elt64 rfl Hown1.out rfl rfl rfl hr1 hr2 hsz ?_; intro v' w2 HO HB)
          have HD2 : Hid (Dec1 w w2 g row k R rem (i + 1) v' x (nextL last (diffO s)) (behindO s)) := Lib.hid (Dec1.mk hgl.out Hrow.out H1.out Hm1.out HO.out HB.out Hxl.out (nextL_lt _ _) hN.out)
          go_roundg (gk - 1)
          case measure => have := Hil.out; omega
          case rel => exact ⟨i + 1, x, st', nextL last (diffO s), _, by have := Hil.out; omega, by go_num, rfl, rfl, Hst'.out, HD2.out⟩
    · have hik : i = k := by have := Hil.out; omega
      have Hres : Hid ((s = none → rdRow k R rem = none) ∧ ∀ R' rem', s = some (R', rem') → rdRow k R rem = some (xs, R', rem')) := Lib.hid (by
        rcases Nat.eq_zero_or_pos i with h0 | h0
        · obtain ⟨b1, b2, b3, b4⟩ := hi0 h0
          subst b1 b4
          have hk0 : k = 0 := by omega
          subst hk0
          refine ⟨fun h => (by cases h), fun R' rem' h => ?_⟩
          injection h with h
          injection h with h3 h4
          subst h3 h4
          rfl
        · obtain ⟨b1, b2⟩ := hi1 h0
          refine ⟨b1, fun R' rem' h => ?_⟩
          rw [b2 R' rem' h, hik, Nat.sub_self]
          show some (xs ++ [], R', rem') = _
          rw [List.append_nil])
      clear hi0 hi1 hik
      go_wp2_with fail
      refine (ok_o g row s _ Hro.out).mono ?_
      rintro e w1 ⟨rfl, rfl⟩
      have hres1 : s = none → Hid (rdRow k R rem = none) := fun h => Lib.hid (Hres.out.1 h)
      cases s with
      | none =>
        have hres2 := hres1 rfl
        clear Hres hres1
        go_wp2_with fail
        go_ret2
        unfold DecEnd
        rw [hres2.out]
        exact ⟨rfl, ⟨_, Hro.out⟩, Hm.out⟩
      | some p =>
        obtain ⟨R', rem'⟩ := p
        have hres2 : Hid (rdRow k R rem = some (xs, R', rem')) := Lib.hid (Hres.out.2 R' rem' rfl)
        clear Hres hres1
        go_wp2_with fail
        go_ret2
        unfold DecEnd
        rw [hres2.out]
        exact ⟨_, rfl, Hown.out, Hro.out, Hm.out⟩
end Go.Proofs.YtjphlbnbgpjfmaaDoor

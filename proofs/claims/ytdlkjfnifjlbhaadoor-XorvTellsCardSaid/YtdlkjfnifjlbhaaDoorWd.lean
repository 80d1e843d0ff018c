/- Rows of values are read: Decode. -/
import Derived.Test.YtdlkjfnifjlbhaaDoorWg
namespace Go.Proofs.YtdlkjfnifjlbhaaDoor
open Go.RowKit

theorem eltU : Elt Tryd.prog 22 28 (.int .u64 0) 8 := Elt.mk Tryd.underlying22 (by kernel_rfl) rfl
def XDecEnd (w w' : World) (g row : Nat) (o : Option (List Nat × Nat × Nat)) (e : Ending) : Prop :=
  match o with
  | some (xs, R, rem) => ∃ v, e = .returned (.tuple #[v, .bool true]) ∧ Own w.heap.size w' 28 v (cellsU xs) ∧ RdrO w' g row (some (R, rem)) ∧ Mod (fun i => i = g) w w'
  | none => e = .returned (.tuple #[.slice none 0 0, .bool false]) ∧ (∃ s, RdrO w' g row s) ∧ Mod (fun i => i = g) w w'
theorem XDecEnd.some_ {w w' : World} {g row : Nat} {xs : List Nat} {R rem : Nat} {o : Option (List Nat × Nat × Nat)} {e : Ending} (h : XDecEnd w w' g row o e) (ho : o = some (xs, R, rem)) :
    ∃ v, e = .returned (.tuple #[v, .bool true]) ∧ Own w.heap.size w' 28 v (cellsU xs) ∧ RdrO w' g row (some (R, rem)) ∧ Mod (fun i => i = g) w w' := by
  rw [ho] at h
  exact h
theorem XDecEnd.none_ {w w' : World} {g row : Nat} {o : Option (List Nat × Nat × Nat)} {e : Ending} (h : XDecEnd w w' g row o e) (ho : o = none) :
    e = .returned (.tuple #[.slice none 0 0, .bool false]) ∧ (∃ s, RdrO w' g row s) ∧ Mod (fun i => i = g) w w' := by
  rw [ho] at h
  exact h
/-- What Decode has read of i values. -/
def XDec (w wr : World) (g row nb k R rem i : Nat) (v : Value) (prev : Nat) (win s : Option (Nat × Nat)) : Prop :=
  ∃ xs, Own (w.heap.size + 1) wr 28 v (cellsU xs) ∧ Blk wr nb 56 #[.int .i64 (winA win : Int), .int .i64 (winS win : Int)] ∧ RdrO wr g row s ∧ Mod (fun i => i = g) w wr ∧ xs.length = i ∧ prev < 2 ^ 64 ∧ WinOk win ∧ (i = 0 → xs = [] ∧ prev = 0 ∧ win = none ∧ s = some (R, rem)) ∧
    (0 < i → (s = none → stVals k R rem = none) ∧ ∀ R' rem', s = some (R', rem') → stVals k R rem = (stXs (k - i) win prev R' rem').map fun p => (xs ++ p.1, p.2))
theorem XDec.mk {w w1 w2 : World} {g row k R rem i : Nat} {v2 : Value} {x : Nat} {win' s' : Option (Nat × Nat)} {xs : List Nat} (hgl : g < w.heap.size) (hrow : row < w.heap.size)
    (hb1 : Blk w1 w.heap.size 56 #[.int .i64 (winA win' : Int), .int .i64 (winS win' : Int)]) (h1 : RdrO w1 g row s') (hm : Mod (fun i => i = g) w w1) (hown : Own (w.heap.size + 1) w2 28 v2 (cellsU xs ++ [.int .u64 (x : Int)])) (hb : Below (w.heap.size + 1) w1 w2)
    (hxl : xs.length = i) (hx : x < 2 ^ 64) (hw : WinOk win')
    (hn : (s' = none → stVals k R rem = none) ∧ ∀ R' rem', s' = some (R', rem') → stVals k R rem = (stXs (k - (i + 1)) win' x R' rem').map fun p => ((xs ++ [x]) ++ p.1, p.2)) :
    XDec w w2 g row w.heap.size k R rem (i + 1) v2 x win' s' := by
  refine ⟨xs ++ [x], ?_, hb1.below hb (by omega), h1.mod (Mod.of_below hb) (by omega) (fun _ => by omega), hm.trans (Mod.of_below hb) (fun i hi h => by omega), by simp [hxl], hx, hw, fun h => by omega, fun _ => hn⟩
  rw [cellsU_snoc]
  exact hown
theorem stVals_first {k R rem : Nat} (hk : 0 < k) : ((getO 64 (some (R, rem))).2 = none → stVals k R rem = none) ∧ ∀ R' rem', (getO 64 (some (R, rem))).2 = some (R', rem') → stVals k R rem = (stXs (k - 1) none (getO 64 (some (R, rem))).1 R' rem').map fun p => ((getO 64 (some (R, rem))).1 :: p.1, p.2) := by
  obtain ⟨k, rfl⟩ : ∃ j, k = j + 1 := ⟨k - 1, by omega⟩
  have e : stVals (k + 1) R rem = match takeB 64 R rem with | none => none | some (u, R1, rem1) => (stXs k none u R1 rem1).map fun (p : List Nat × Nat × Nat) => (u :: p.1, p.2) := rfl
  rw [e, getO_take]
  cases ht : takeB 64 R rem with
  | none => exact ⟨fun _ => rfl, fun _ _ h => by cases h⟩
  | some q =>
    obtain ⟨u, R1, rem1⟩ := q
    refine ⟨fun h => (by cases h), fun R' rem' h => ?_⟩
    have h2 : some (R1, rem1) = some (R', rem') := h
    injection h2 with h2
    injection h2 with h3 h4
    subst h3 h4
    rfl
theorem stXs_more {j R rem : Nat} {win : Option (Nat × Nat)} {prev : Nat} : (∀ x win' R1 rem1, stX win R rem = some (x, win', R1, rem1) → stXs (j + 1) win prev R rem = (stXs j win' (prev ^^^ x) R1 rem1).map fun p => ((prev ^^^ x) :: p.1, p.2)) ∧
    (stX win R rem = none → stXs (j + 1) win prev R rem = none) := by
  have e : stXs (j + 1) win prev R rem = match stX win R rem with | none => none | some (x, win', R1, rem1) => (stXs j win' (prev ^^^ x) R1 rem1).map fun (p : List Nat × Nat × Nat) => ((prev ^^^ x) :: p.1, p.2) := rfl
  refine ⟨fun x win' R1 rem1 h => ?_, fun h => ?_⟩
  · rw [e, h]
  · rw [e, h]
/-- One turn more, as states. -/
theorem stVals_next {k R rem i : Nat} {win s : Option (Nat × Nat)} {prev : Nat} {xs : List Nat} (hi : i < k) (h : (s = none → stVals k R rem = none) ∧ ∀ R' rem', s = some (R', rem') → stVals k R rem = (stXs (k - i) win prev R' rem').map fun p => (xs ++ p.1, p.2)) :
    (stO win s = none → stVals k R rem = none) ∧ ∀ x win' R1 rem1, stO win s = some (x, win', R1, rem1) → stVals k R rem = (stXs (k - (i + 1)) win' (prev ^^^ x) R1 rem1).map fun p => ((xs ++ [prev ^^^ x]) ++ p.1, p.2) := by
  obtain ⟨j, hj⟩ : ∃ j, k - i = j + 1 := ⟨k - i - 1, by omega⟩
  have hj2 : k - (i + 1) = j := by omega
  cases s with
  | none => exact ⟨fun _ => h.1 rfl, fun _ _ _ _ h => by cases h⟩
  | some p =>
    obtain ⟨R0, rem0⟩ := p
    have h1 := h.2 R0 rem0 rfl
    rw [hj] at h1
    refine ⟨fun hn => ?_, fun x win' R1 rem1 hs => ?_⟩
    · rw [h1, stXs_more.2 hn]; rfl
    · rw [h1, stXs_more.1 x win' R1 rem1 hs, hj2, Option.map_map]
      congr 1
      funext p
      simp
set_option maxHeartbeats 4000000 in
set_option maxRecDepth 100000 in
theorem xdec_any (g row R rem k : Nat) (n : Int) (w : World) (hk : max 0 (min n 65535) = (k : Int)) (hr : Rdr w g row R rem true) (hrem : rem ≤ 8000000) (hrow : row < w.heap.size) (hdeb : Deb w) (hg : g ≠ 0) :
    Calls Tryd.prog 15 #[.pointer (some ⟨g, 0, none⟩), .int .i64 n] w fun e w' => XDecEnd w w' g row (stVals k R rem) e := by
  obtain ⟨W, hW⟩ : ∃ W, W = w.alloc (.cells #[.int .i64 0, .int .i64 0] 56) := ⟨_, rfl⟩
  have hmW : Mod (fun _ => False) w W := by rw [hW]; exact (Mod.refl _ _).alloc _
  have hgl := Lib.hid hr.lt
  have hro : RdrO w g row (some (R, rem)) := ⟨hr, hrem⟩
  have hRs := Lib.hid hr.small
  have H0 : Hid (XDec w W g row w.heap.size k R rem 0 (.slice none 0 0) 0 none (some (R, rem))) := Lib.hid ⟨[], Own.nil _ _ _, by rw [hW]; exact Blk.new _ _ _, hro.mod hmW (fun h => h) (fun _ h => h), hmW.mono (fun _ _ h => h.elim), rfl, by decide, trivial, fun _ => ⟨rfl, rfl, rfl, rfl⟩, fun h => by omega⟩
  have Hdeb := Lib.hid hdeb; have Hg := Lib.hid hg; have Hrow := Lib.hid hrow; have HW := Lib.hid hW
  obtain ⟨mn, hmn, hmn2⟩ : ∃ mn : Int, min n 65535 = mn ∧ mn = min n 65535 := ⟨_, rfl, rfl⟩
  have hmx : max 0 mn = (k : Int) := by rw [hmn2]; exact hk
  have hk65 : k ≤ 65535 := by omega
  clear hr hrem hdeb hg hrow hk hmn2 hW hmW hro
  go_enter Tryd.func15, Tryd.ntmps15
  go_wp2_with (first | (rw [← HW.out]))
  clear hmn hmx
  go_loopg [6, 7, 16] k (fun l s6 s7 s16 wr => ∃ (i prev : Nat) (win s : Option (Nat × Nat)), i + l = k ∧ s16 = .int .i64 (i : Int) ∧ s7 = .int .u64 (prev : Int) ∧ XDec w wr g row w.heap.size k R rem i s6 prev win s)
  case atStart => exact ⟨0, 0, none, _, by omega, rfl, rfl, by first | exact H0.out | (rw [← HW.out]; exact H0.out)⟩
  case round =>
    obtain ⟨i, prev, win, s, hil, rfl, rfl, hD⟩ := hrel
    have HD := Lib.hid hD; have Hil := Lib.hid hil
    clear hD hil H0 HW
    obtain ⟨xs, hown, hb, hro, hm, hxl, hp64, hwok, hi0, hi1⟩ := HD.out
    have Hro := Lib.hid hro; have Hm := Lib.hid hm; have Hown := Lib.hid hown; have Hxl := Lib.hid hxl; have Hb := Lib.hid hb; have Hp64 := Lib.hid hp64; have Hwok := Lib.hid hwok
    have HdebR := Lib.hid (Hdeb.out.mod hm (fun e => Hg.out e.symm))
    clear hown hro hm hxl hb hp64 hwok
    by_cases hin : i < k
    · by_cases h0 : i = 0
      · obtain ⟨rfl, rfl, rfl, rfl⟩ := hi0 h0
        subst h0
        clear hi0 hi1
        go_wp2_with fail
        refine (get_o g row 64 64 _ _ rfl (by decide) Hro.out).mono ?_
        rintro e w1 ⟨rfl, h1, hm1⟩
        obtain ⟨u, hu⟩ : ∃ u, u = (getO 64 (some (R, rem))).1 := ⟨_, rfl⟩
        have hu64 : Hid (u < 2 ^ 64) := Lib.hid (by rw [hu]; exact getO_lt hRs.out 64)
        have hN : Hid (((getO 64 (some (R, rem))).2 = none → stVals k R rem = none) ∧ ∀ R' rem', (getO 64 (some (R, rem))).2 = some (R', rem') → stVals k R rem = (stXs (k - (0 + 1)) none u R' rem').map fun p => (([] ++ [u]) ++ p.1, p.2)) :=
          Lib.hid (by rw [hu]; exact stVals_first hin)
        rw [← hu]
        have Hown1 : Hid (Own (w.heap.size + 1) w1 28 u6 (cellsU [])) := Lib.hid (hm1.owns Hown.out (fun k hk e => by have := (Hown.out.block k hk).1; have := hgl.out; omega))
        have Hb1 := Lib.hid (hm1.blk Hb.out (by have := hgl.out; omega))
        have H1 := Lib.hid h1; have Hm1 := Lib.hid (Hm.out.trans hm1 (fun _ _ h => h))
        have hsz : w.heap.size + 1 ≤ w1.heap.size := by have := Hb1.out.lt; omega
        have hr1 : (cellsU []).length + 1 ≤ maxLen := by unfold maxLen; decide
        have hr2 : ((cellsU []).length + 1) * 8 ≤ 140737488355328 := by decide
        clear hu h1 hm1
        go_wp2_with (at_builtin; refine wpList_app1 rfl (.tmp 36) (.tmp 38) _ rfl eltU rfl Hown1.out rfl rfl rfl hr1 hr2 hsz ?_; intro v' w2 HO HB)
        have HD2 : Hid (XDec w w2 g row w.heap.size k R rem (0 + 1) v' u none (getO 64 (some (R, rem))).2) := Lib.hid (XDec.mk hgl.out Hrow.out Hb1.out H1.out Hm1.out HO.out HB.out rfl hu64.out trivial hN.out)
        go_roundg (gk - 1)
        case measure => have := Hil.out; omega
        case rel => exact ⟨0 + 1, u, none, _, by have := Hil.out; omega, rfl, rfl, HD2.out⟩
      · have hb0 : ((i : Int) == 0) = false := by simp; omega
        have hN := Lib.hid (stVals_next (win := win) (xs := xs) hin (hi1 (by omega)))
        have hc0 := Hb.out.cell 0
        have hc1 := Hb.out.cell 1
        simp at hc0 hc1
        clear hi0 hi1
        go_wp2_with fail
        refine (xget_any g row win s _ Hwok.out Hro.out (by have := Hrow.out; have := Hm.out.size; omega) HdebR.out Hg.out).mono ?_
        intro e w1 hG
        cases hst : stO win s with
        | none =>
          have Hnone := Lib.hid (hN.out.1 hst)
          unfold GotX at hG
          rw [hst] at hG
          obtain ⟨⟨x, p, q, rfl⟩, hs1, hm1⟩ := hG
          have Hs1 := Lib.hid hs1
          have hda := ((Mod.refl (fun _ => False) w1).alloc (.cells #[.int .i64 p, .int .i64 q] 56))
          have HmE := Lib.hid ((Hm.out.trans hm1 (fun _ _ h => h)).trans hda (fun _ _ h => h.elim))
          have HsE : Hid (∃ s', RdrO (w1.alloc (.cells #[.int .i64 p, .int .i64 q] 56)) g row s') := Lib.hid (by
            obtain ⟨s', h⟩ := hs1
            exact ⟨s', h.mod hda (fun h => h) (fun _ h => h)⟩)
          clear hst hs1 hm1 hda hc0 hc1
          go_wp2_with fail
          go_ret2
          unfold XDecEnd
          rw [Hnone.out]
          exact ⟨rfl, HsE.out, HmE.out⟩
        | some r =>
          obtain ⟨x, win', R1, rem1⟩ := r
          have hsome := hN.out.2 x win' R1 rem1 hst
          unfold GotX at hG
          rw [hst] at hG
          obtain ⟨rfl, hr1, hm1⟩ := hG
          have hx : x < 2 ^ 64 ∧ WinOk win' := by
            cases s with
            | none => cases hst
            | some q =>
              obtain ⟨R0, rem0⟩ := q
              obtain ⟨_, e2, e3⟩ := stX_took hst (Hro.out.small _ _ rfl) Hwok.out
              exact ⟨e3, e2 ▸ winX_ok Hwok.out e3⟩
          obtain ⟨hx64, hwok'⟩ := hx
          obtain ⟨y, hy⟩ : ∃ y : Nat, y = prev ^^^ x := ⟨_, rfl⟩
          have hxor : bits .xor .u64 (prev : Int) (x : Int) = (y : Int) := by rw [hy]; exact u64_xor_nat prev x Hp64.out hx64
          have hyl : Hid (y < 2 ^ 64) := Lib.hid (by rw [hy]; exact Nat.xor_lt_two_pow Hp64.out hx64)
          rw [← hy] at hsome
          obtain ⟨A, hA⟩ : ∃ A, A = winA win' := ⟨_, rfl⟩
          obtain ⟨S, hS⟩ : ∃ S, S = winS win' := ⟨_, rfl⟩
          rw [← hA, ← hS]
          obtain ⟨w2, hw2⟩ : ∃ w2, w2 = w1.alloc (.cells #[.int .i64 (A : Int), .int .i64 (S : Int)] 56) := ⟨_, rfl⟩
          obtain ⟨nt, hnt⟩ : ∃ nt, nt = w1.heap.size := ⟨_, rfl⟩
          have hm12 : Mod (fun _ => False) w1 w2 := by rw [hw2]; exact (Mod.refl _ _).alloc _
          have hb1 := hm1.blk Hb.out (by have := hgl.out; omega)
          have hb2 := hm12.blk hb1 (fun h => h)
          have hbt2 : Blk w2 nt 56 #[.int .i64 (A : Int), .int .i64 (S : Int)] := by rw [hw2, hnt]; exact Blk.new _ _ _
          have hown1 : Own (w.heap.size + 1) w1 28 u6 (cellsU xs) := hm1.owns Hown.out (fun k hk e => by have := (Hown.out.block k hk).1; have := hgl.out; omega)
          obtain ⟨w3, hw3⟩ : ∃ w3, w3 = (w2.setCell ⟨w.heap.size, 0, none⟩ (.int .i64 (A : Int))).setCell ⟨w.heap.size, 1, none⟩ (.int .i64 (S : Int)) := ⟨_, rfl⟩
          have hm23 : Mod (fun i => i = w.heap.size) w2 w3 := by rw [hw3]; exact ((Mod.refl (fun i => i = w.heap.size) _).setCell (p := ⟨w.heap.size, 0, none⟩) (fun _ => rfl) _).setCell (p := ⟨w.heap.size, 1, none⟩) (fun _ => rfl) _
          have Hown3 : Hid (Own (w.heap.size + 1) w3 28 u6 (cellsU xs)) := Lib.hid (hm23.owns (hm12.owns hown1 (fun _ _ h => h)) (fun k hk e => by have := (Hown.out.block k hk).1; omega))
          have Hb3 : Hid (Blk w3 w.heap.size 56 #[.int .i64 (winA win' : Int), .int .i64 (winS win' : Int)]) := Lib.hid (by rw [hw3, ← hA, ← hS]; exact (hb2.two _ _).2.2)
          have Hr3 := Lib.hid ((hr1.mod hm12 (fun h => h) (fun _ h => h)).mod hm23 (by have := hgl.out; omega) (fun _ => by have := Hrow.out; omega))
          have Hm3 := Lib.hid (((Hm.out.trans hm1 (fun _ _ h => h)).trans hm12 (fun _ _ h => h.elim)).trans hm23 (fun i hi e => by omega))
          have hd0 := hb2.cell 0
          have hd1 := hb2.cell 1
          have hf0 := hb2.frozen 0
          have hf1 := hb2.frozen 1
          have he0 := hbt2.cell 0
          have he1 := hbt2.cell 1
          simp at hd0 hd1 he0 he1
          have hsz : w.heap.size + 1 ≤ w3.heap.size := by have := Hb3.out.lt; omega
          have hr1' : (cellsU xs).length + 1 ≤ maxLen := by rw [cellsU_length, Hxl.out]; unfold maxLen; omega
          have hr2' : ((cellsU xs).length + 1) * 8 ≤ 140737488355328 := by rw [cellsU_length, Hxl.out]; omega
          have HN : Hid (((some (R1, rem1) : Option (Nat × Nat)) = none → stVals k R rem = none) ∧ ∀ R' rem', (some (R1, rem1) : Option (Nat × Nat)) = some (R', rem') → stVals k R rem = (stXs (k - (i + 1)) win' y R' rem').map fun p => ((xs ++ [y]) ++ p.1, p.2)) := Lib.hid ⟨fun h => (by cases h), fun R' rem' h => by
            injection h with h
            injection h with h3 h4
            subst h3 h4
            exact hsome⟩
          have HW2 := Lib.hid hw2; have HNT := Lib.hid hnt; have HW3 := Lib.hid hw3; have Hwok' := Lib.hid hwok'
          clear hst hsome hr1 hm1 hx64 hwok' hy hA hS hw2 hnt hm12 hb1 hb2 hbt2 hown1 hw3 hm23 hc0 hc1
          go_wp2_with (first | (at_builtin; refine wpList_app1 rfl (.tmp 36) (.tmp 38) _ rfl eltU rfl Hown3.out rfl rfl rfl hr1' hr2' hsz ?_; intro v' w4 HO HB) | (rw [← HW3.out]) | (rw [← HNT.out, ← HW2.out]))
          have HD2 : Hid (XDec w w4 g row w.heap.size k R rem (i + 1) v' y win' (some (R1, rem1))) := Lib.hid (XDec.mk hgl.out Hrow.out Hb3.out Hr3.out Hm3.out HO.out HB.out Hxl.out hyl.out Hwok'.out HN.out)
          go_roundg (gk - 1)
          case measure => have := Hil.out; omega
          case rel => exact ⟨i + 1, y, win', _, by have := Hil.out; omega, by go_num, rfl, HD2.out⟩
    · have hik : i = k := by have := Hil.out; omega
      have Hres : Hid ((s = none → stVals k R rem = none) ∧ ∀ R' rem', s = some (R', rem') → stVals k R rem = some (xs, R', rem')) := Lib.hid (by
        rcases Nat.eq_zero_or_pos i with h0 | h0
        · obtain ⟨b1, b2, b3, b4⟩ := hi0 h0
          subst b1 b4
          have hk0 : k = 0 := by omega
          subst hk0
          refine ⟨fun h => (by cases h), fun R' rem' h => ?_⟩
          injection h with h
          injection h with h3 h4
          subst h3 h4
          rfl
        · obtain ⟨b1, b2⟩ := hi1 h0
          refine ⟨b1, fun R' rem' h => ?_⟩
          rw [b2 R' rem' h, hik, Nat.sub_self]
          show some (xs ++ [], R', rem') = _
          rw [List.append_nil])
      clear hi0 hi1 hik
      go_wp2_with fail
      refine (ok_o g row s _ Hro.out).mono ?_
      rintro e w1 ⟨rfl, rfl⟩
      have hres1 : s = none → Hid (stVals k R rem = none) := fun h => Lib.hid (Hres.out.1 h)
      cases s with
      | none =>
        have hres2 := hres1 rfl
        clear Hres hres1
        go_wp2_with fail
        go_ret2
        unfold XDecEnd
        rw [hres2.out]
        exact ⟨rfl, ⟨_, Hro.out⟩, Hm.out⟩
      | some p =>
        obtain ⟨R', rem'⟩ := p
        have hres2 : Hid (stVals k R rem = some (xs, R', rem')) := Lib.hid (Hres.out.2 R' rem' rfl)
        clear Hres hres1
        go_wp2_with fail
        go_ret2
        unfold XDecEnd
        rw [hres2.out]
        exact ⟨_, rfl, Hown.out.mono (by omega), Hro.out, Hm.out⟩
end Go.Proofs.YtdlkjfnifjlbhaaDoor

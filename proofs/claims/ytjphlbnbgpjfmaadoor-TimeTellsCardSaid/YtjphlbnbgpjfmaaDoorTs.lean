/- What the statements of times call: SameTimes, Times, written, awake. -/
import Derived.Test.YtjphlbnbgpjfmaaDoorTr
import Derived.Deep.QuietTactic
import Derived.BigRegion
namespace Go.Proofs.YtjphlbnbgpjfmaaDoor
open Go.RowKit

theorem Rds.mod {w w' : World} {B n : Nat} {A : Option Addr} {xs : List Value} {S : Nat → Prop} (h : Rds w B A n xs) (hm : Mod S w w') (hB : B ≤ w.heap.size) (hS : ∀ j, j < B → ¬ S j) : Rds w' B A n xs :=
  h.keep fun _ hp => hm.cell (Nat.lt_of_lt_of_le hp hB) (hS _ hp)
theorem Rds.new {w w' : World} {B n : Nat} {A : Option Addr} {xs : List Value} (h : Rds w B A n xs) (hm : Mod (fun _ => False) w w') : Rds w' w.heap.size A n xs :=
  h.fit.mod hm (Nat.le_refl _) (fun _ _ h => h)
set_option maxHeartbeats 1000000 in
theorem same_any (A A2 : Option Addr) (n c c2 B B2 : Nat) (xs : List Int) (w : World) (h1 : Rds w B A n (cellsI xs)) (h2 : Rds w B2 A2 n (cellsI xs)) (hn : n ≤ 1000000) :
    Calls Tryd.prog 11 #[.slice A n c, .slice A2 n c2] w fun e w' => e = .returned (.bool true) ∧ Mod (fun _ => False) w w' := by
  have H1 := Lib.hid h1.fit; have H2 := Lib.hid h2.fit
  clear h1 h2
  go_enter Tryd.func11, Tryd.ntmps11
  go_wp2_with fail
  go_loopg [5] n (fun l s5 wr => ∃ i : Nat, i + l = n ∧ s5 = .int .i64 (i : Int) ∧ Mod (fun _ => False) w wr)
  case atStart => exact ⟨0, by omega, rfl, Mod.refl _ _⟩
  case round =>
    obtain ⟨i, hil, rfl, hm⟩ := hrel
    have Hm := Lib.hid hm; have Hil := Lib.hid hil
    clear hm hil
    by_cases hin : i < n
    · obtain ⟨ad, u, rfl, hb, hu, hc⟩ := (H1.out.new Hm.out).at_ hin
      obtain ⟨ad2, u2, rfl, hb2, hu2, hc2⟩ := (H2.out.new Hm.out).at_ hin
      rw [hu] at hu2
      injection hu2 with hu2
      subst hu2
      rw [cellsI_get] at hu
      obtain ⟨x, hx, rfl⟩ := Option.map_eq_some_iff.1 hu
      clear hu hx hb hb2
      go_upto_region 6 with fail
      go_quiet (fail)
      go_wp2_with fail
      go_roundg (gk - 1)
      case measure => have := Hil.out; omega
      case rel => exact ⟨i + 1, by have := Hil.out; omega, by go_num, Hm.out.drewN _⟩
    · go_wp2_with fail
      go_ret
      exact ⟨rfl, Hm.out⟩
set_option maxHeartbeats 1000000 in
theorem written_any (n c : Nat) (A : Option Addr) (zs : List Int) (w : World) (hs : Rds w w.heap.size A n (cellsI zs)) (hz : ∀ x ∈ zs, Fits x) (hwid : Wid w) (hn : n ≤ 1000) :
    Calls Tryd.prog 14 #[.slice A n c] w fun e w' => ∃ g row, e = .returned (.tuple #[.pointer (some ⟨g, 0, none⟩), .bool true]) ∧ Wr w' g row (fnum (encRow zs)) (flen (encRow zs)) ∧ w.heap.size ≤ g ∧ (∀ k, row = some k → w.heap.size ≤ k) ∧ Mod (fun _ => False) w w' := by
  have Hs := Lib.hid hs; have Hz := Lib.hid hz; have Hwid := Lib.hid hwid
  clear hs hz hwid
  go_enter Tryd.func14, Tryd.ntmps14
  go_wp2_with fail
  refine (newWriter_wr _).mono ?_
  rintro e w1 ⟨g, rfl, hg1, hg2, hw1, hm1⟩
  have Hw1 := Lib.hid hw1; have Hm1 := Lib.hid hm1
  have hsee : Hid (SeesI .i64 w1 w.heap.size A n zs) := Lib.hid (by
    have h := Hs.out.new hm1
    refine ⟨by have := h.1; rwa [cellsI_length] at this, fun h0 => ?_⟩
    obtain ⟨ad, e1, hb, hc⟩ := h.2 h0
    exact ⟨ad, e1, hb, fun j u hu => hc j _ (by rw [cellsI_get, hu]; rfl)⟩)
  have hap : Hid (0 < n → ∀ ad, A = some ad → ¬ (ad.block = g ∨ (none : Option Nat) = some ad.block)) := Lib.hid (fun h0 ad e h => by
    rcases h with h | h
    · obtain ⟨ad', e', hb, _⟩ := hsee.out.2 h0
      rw [e] at e'
      injection e' with e'
      subst e'
      omega
    · cases h)
  clear hw1 hm1
  go_wp2_with fail
  refine (encode_any w.heap.size g none 0 0 n c A zs w1 hsee.out Hz.out Hm1.out.size hap.out (by have := Hwid.out.1; omega) (fun h => by cases h) Hw1.out (Hwid.out.mod Hm1.out (fun h => h)) (by omega)).mono ?_
  rintro e w2 ⟨rfl, h2⟩
  have H2 := Lib.hid h2
  clear h2
  go_wp2_with fail
  go_ret2
  obtain ⟨row', a1, a2, a3⟩ := H2.out
  refine ⟨g, row', rfl, by simpa using a1, hg1, ?_, ?_⟩
  · rcases a3 with rfl | ⟨r, rfl, hr⟩
    · exact fun _ h => by cases h
    · intro k hk
      injection hk with hk
      have := Hm1.out.size
      omega
  · exact Hm1.out.trans a2 (fun i hi h => h.elim (fun e => by omega) (fun e => by cases e))

/-- A row of times that was told, with m bits behind, is read back. -/
theorem packed_read {xs : List Int} {X m : Nat} {bs : List Nat} (hp : Packed bs (fnum (encRow xs) * 2 ^ m + X) (flen (encRow xs) + m)) (hX : X < 2 ^ m) (hxs : ∀ x ∈ xs, Fits x) :
    ∃ free, free < 8 ∧ 8 * bs.length = flen (encRow xs) + m + free ∧ rdRow xs.length (val bs) (8 * bs.length) = some (xs, X * 2 ^ free, m + free) := by
  obtain ⟨_, free, hf, hl, hv⟩ := hp
  refine ⟨free, hf, hl.symm, ?_⟩
  have e : val bs = fnum (encRow xs) * 2 ^ (m + free) + X * 2 ^ free := by rw [hv, Nat.add_mul, Nat.mul_assoc, ← Nat.pow_add]
  have hX2 : X * 2 ^ free < 2 ^ (m + free) := by rw [Nat.pow_add]; exact Nat.mul_lt_mul_of_pos_right hX (Nat.two_pow_pos _)
  rw [e, ← hl]
  exact rdRow_of xs hxs hX2 (by omega)
theorem DecEnd.some_ {w w' : World} {g row : Nat} {xs : List Int} {R rem : Nat} {o : Option (List Int × Nat × Nat)} {e : Ending} (h : DecEnd w w' g row o e) (ho : o = some (xs, R, rem)) :
    ∃ v, e = .returned (.tuple #[v, .bool true]) ∧ Own w.heap.size w' 2 v (cellsI xs) ∧ RdrO w' g row (some (R, rem)) ∧ Mod (fun i => i = g) w w' := by
  rw [ho] at h
  exact h
theorem DecEnd.none_ {w w' : World} {g row : Nat} {o : Option (List Int × Nat × Nat)} {e : Ending} (h : DecEnd w w' g row o e) (ho : o = none) :
    e = .returned (.tuple #[.slice none 0 0, .bool false]) ∧ (∃ s, RdrO w' g row s) ∧ Mod (fun i => i = g) w w' := by
  rw [ho] at h
  exact h
theorem own_form {B : Nat} {w : World} {v : Value} {xs : List Int} (h : Own B w 2 v (cellsI xs)) : ∃ A c, v = .slice A xs.length c ∧ Rds w w.heap.size A xs.length (cellsI xs) := by
  obtain ⟨A, c, e, _, _, _, hr⟩ := h.form
  rw [cellsI_length] at e hr
  exact ⟨A, c, e, hr⟩
set_option maxHeartbeats 1000000 in
theorem awake_any (w : World) (hwid : Wid w) : Calls Tryd.prog 12 #[] w fun e w' => e = .returned (.bool true) ∧ Mod (fun _ => False) w w' := by
  have Hwid := Lib.hid hwid
  clear hwid
  go_enter Tryd.func12, Tryd.ntmps12
  go_wp2_with fail
  refine (newWriter_wr _).mono ?_
  rintro e w1 ⟨g, rfl, hg1, hg2, hw1, hm1⟩
  have H0 := Hwid.out.1
  obtain ⟨wl, hwl⟩ : ∃ wl, wl = w1.alloc (.cells #[.int .i64 10, .int .i64 20, .int .i64 30, .int .i64 41] 2) := ⟨_, rfl⟩
  have hml : Mod (fun _ => False) w1 wl := by rw [hwl]; exact (Mod.refl _ _).alloc _
  have hsee : Hid (SeesI .i64 wl (w1.heap.size + 1) (some ⟨w1.heap.size, 0, none⟩) 4 [10, 20, 30, 41]) := Lib.hid ⟨rfl, fun _ => ⟨_, rfl, by simp, fun j u hu => by
    rw [add_addr, Nat.zero_add, hwl, (Blk.new w1 _ _).cell j]
    have hj : j < 4 := (List.getElem?_eq_some_iff.1 hu).1
    have hj' : j = 0 ∨ j = 1 ∨ j = 2 ∨ j = 3 := by omega
    rcases hj' with rfl | rfl | rfl | rfl <;> (injection hu with hu; subst hu; rfl)⟩⟩
  have hsz : w1.heap.size + 1 ≤ wl.heap.size := by rw [hwl]; simp
  have Hwl := Lib.hid hwl; have Hml := Lib.hid hml; have Hm1 := Lib.hid hm1; have Hw1 := Lib.hid (hw1.mod hml (fun h => h) (fun _ _ h => h))
  clear hwl hml hm1 hw1
  go_wp2_with fail
  rw [← Hwl.out]
  refine (encode_any (w1.heap.size + 1) g none 0 0 4 4 _ [10, 20, 30, 41] wl hsee.out (by intro x hx; simp at hx; rcases hx with rfl | rfl | rfl | rfl <;> exact ⟨by decide, by decide⟩) hsz (fun _ ad e h => by
    injection e with e
    subst e
    rcases h with h | h
    · simp at h; omega
    · cases h) (by omega) (fun h => by cases h) Hw1.out (Hwid.out.mod (Hm1.out.trans Hml.out (fun _ _ h => h)) (fun h => h)) (by decide)).mono ?_
  rintro e w2 ⟨rfl, row, a1, a2, a3⟩
  have Hm2 := Lib.hid ((Hm1.out.trans Hml.out (fun _ _ h => h)).trans a2 (fun i hi h => h.elim (fun e => by omega) (fun e => by cases e)))
  have e83 : flen (encRow [10, 20, 30, 41]) = 83 := by decide
  rw [Nat.zero_add, e83, Nat.zero_mul, Nat.zero_add] at a1
  have Hw2 := Lib.hid a1
  have hrow : Hid (∀ k, row = some k → w.heap.size ≤ k) := Lib.hid (by
    rcases a3 with rfl | ⟨r, rfl, hr⟩
    · exact fun _ h => by cases h
    · intro k hk
      injection hk with hk
      have := Hm1.out.size; have := Hml.out.size
      omega)
  clear a1 a2 a3 e83 Hw1 Hml Hm1 hsee Hwl
  go_wp2_with fail
  refine (bytes_any g row _ _ _ Hw2.out (by decide)).mono ?_
  rintro e w3 ⟨v, bs, rfl, hnew, hpk⟩
  obtain ⟨A3, c3, r3, rfl, _, hA3, _, _, hs3⟩ := hnew.form
  have Hm3 := Lib.hid (Hm2.out.trans hnew.2.1 (fun _ _ h => h)); have Hw3 := Lib.hid (Hw2.out.mod hnew.2.1 (fun h => h) (fun _ _ h => h))
  have Hpk := Lib.hid hpk; have Hs3 := Lib.hid hs3; have HA3 := Lib.hid hA3
  have hbl : bs.length ≤ 100 := by have := packed_len hpk; omega
  clear hnew hpk hs3 hA3 Hm2 Hw2
  go_wp2_with fail
  refine (newReader_any r3 A3 bs.length c3 bs _ Hs3.out HA3.out (by omega) Hpk.out.1).mono ?_
  rintro e w4 ⟨gr, rr, rfl, hgr, hrr, hm4, hrd⟩
  have Hm4 := Lib.hid (Hm3.out.trans hm4 (fun _ _ h => h))
  have Hw4 := Lib.hid (Hw3.out.mod hm4 (fun h => h) (fun _ _ h => h))
  have hgr0 : gr ≠ 0 := by have := Hm3.out.size; omega
  have hgr1 : Hid (gr ≠ g ∧ row ≠ some gr ∧ w.heap.size ≤ gr) := Lib.hid ⟨by have := Hw3.out.lt; omega, fun e => by have := Hw3.out.row_lt _ e; omega, by have := Hm3.out.size; omega⟩
  have Hwid4 := Lib.hid (Hwid.out.mod Hm4.out (fun h => h))
  obtain ⟨rr', hrr1, _, hrd'⟩ := hrd.real hgr0 Hwid4.out.1
  have Hrd := Lib.hid hrd'; have Hrr1 := Lib.hid hrr1
  have hpr : Hid (rdRow 4 (val bs) (8 * bs.length) = _) := Lib.hid (packed_read (xs := [10, 20, 30, 41]) (X := 0) (m := 0) (bs := bs) (by rw [Nat.pow_zero, Nat.mul_one, Nat.add_zero, Nat.add_zero]; exact Hpk.out) (by decide) (by intro x hx; simp at hx; rcases hx with rfl | rfl | rfl | rfl <;> exact ⟨by decide, by decide⟩)).choose_spec.2.2
  clear hrd hrd' hrr1 hm4 hgr hrr Hm3 Hw3 Hs3 HA3
  go_wp2_with fail
  refine (decode_any gr rr' (val bs) (8 * bs.length) 4 4 _ (by decide) Hrd.out (by omega) Hrr1.out Hwid4.out hgr0).mono ?_
  intro e w5 hd
  obtain ⟨v, rfl, hown, hro, hm5⟩ := hd.some_ hpr.out
  obtain ⟨A5, c5, rfl, hr5⟩ := own_form hown
  have Hm5 := Lib.hid (Hm4.out.trans hm5 (fun i hi e => by have := hgr1.out; omega))
  have Hw5 := Lib.hid (Hw4.out.mod hm5 (fun e => hgr1.out.1 e.symm) (fun k hk e => hgr1.out.2.1 (e ▸ hk)))
  have Hr5 := Lib.hid hr5
  clear hd hown hro hm5 hr5 Hm4 Hw4 hpr
  have hln : [(10 : Int), 20, 30, 41].length = 4 := rfl
  rw [hln] at *
  clear hln
  go_wp2_with fail
  refine (len_ab g row _ 83 _ Hw5.out (by decide)).mono ?_
  rintro e w6 ⟨rfl, hm6⟩
  have Hm6 := Lib.hid (Hm5.out.trans hm6 (fun _ _ h => h)); have Hr6 := Lib.hid (Hr5.out.new hm6)
  clear hm6 Hm5 Hr5
  go_wp2_with fail
  refine (same_any A5 _ 4 c5 4 _ _ [10, 20, 30, 41] _ ((Hr6.out.fit).alloc (Nat.le_refl _) _) (Rds.lit w6 2 #[.int .i64 10, .int .i64 20, .int .i64 30, .int .i64 41]) (by decide)).mono ?_
  rintro e w7 ⟨rfl, hm7⟩
  have Hm7 := Lib.hid ((Hm6.out.alloc _).trans hm7 (fun _ _ h => h))
  clear hm7 Hm6
  go_wp2_with fail
  go_ret
  exact ⟨rfl, Hm7.out⟩
end Go.Proofs.YtjphlbnbgpjfmaaDoor

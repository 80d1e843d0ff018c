/- What the statements of values call: SameWords, Values, awake. -/
import Derived.Test.YtdlkjfnifjlbhaaDoorWd
import Derived.Test.YtdlkjfnifjlbhaaDoorGl
import Derived.Test.YtdlkjfnifjlbhaaDoorSli
import Derived.Deep.QuietTactic
import Derived.BigRegion
import Derived.Deep.CutBlock
namespace Go.Proofs.YtdlkjfnifjlbhaaDoor
open Go.RowKit

set_option maxHeartbeats 1000000 in
theorem same_words (A A2 : Option Addr) (n c c2 B B2 : Nat) (xs : List Nat) (w : World) (h1 : Rds w B A n (cellsU xs)) (h2 : Rds w B2 A2 n (cellsU xs)) (hn : n ≤ 1000000) :
    Calls Tryd.prog 17 #[.slice A n c, .slice A2 n c2] w fun e w' => e = .returned (.bool true) ∧ Mod (fun _ => False) w w' := by
  have H1 := Lib.hid h1.fit; have H2 := Lib.hid h2.fit
  clear h1 h2
  go_enter Tryd.func17, Tryd.ntmps17
  go_wp2_with fail
  go_loopg [5] n (fun l s5 wr => ∃ i : Nat, i + l = n ∧ s5 = .int .i64 (i : Int) ∧ Mod (fun _ => False) w wr)
  case atStart => exact ⟨0, by omega, rfl, Mod.refl _ _⟩
  case round =>
    obtain ⟨i, hil, rfl, hm⟩ := hrel
    have Hm := Lib.hid hm; have Hil := Lib.hid hil
    clear hm hil
    by_cases hin : i < n
    · obtain ⟨ad, u, rfl, hb, hu, hc⟩ := (H1.out.new Hm.out).at_ hin
      obtain ⟨ad2, u2, rfl, hb2, hu2, hc2⟩ := (H2.out.new Hm.out).at_ hin
      rw [hu] at hu2
      injection hu2 with hu2
      subst hu2
      rw [cellsU_get] at hu
      obtain ⟨x, hx, rfl⟩ := Option.map_eq_some_iff.1 hu
      clear hu hx hb hb2
      go_upto_region 6 with fail
      go_quiet (fail)
      go_wp2_with fail
      go_roundg (gk - 1)
      case measure => have := Hil.out; omega
      case rel => exact ⟨i + 1, by have := Hil.out; omega, by go_num, Hm.out.drewN _⟩
    · go_wp2_with fail
      go_ret
      exact ⟨rfl, Hm.out⟩
theorem wrapU_ex (z : Int) : ∃ y : Nat, IntKind.u64.wrap z = (y : Int) ∧ y < 2 ^ 64 := by
  rw [IntKind.wrap_u64]
  exact ⟨(z % 18446744073709551616).toNat, by omega, by omega⟩
theorem andU_ex (x m : Nat) (hx : x < 2 ^ 64) (hm : m < 2 ^ 64) : ∃ y : Nat, bits .and .u64 (x : Int) (m : Int) = (y : Int) ∧ y ≤ m :=
  ⟨x &&& m, u64_and_nat x m hx hm, Nat.and_le_right⟩
theorem xorU_ex (x m : Nat) (hx : x < 2 ^ 64) (hm : m < 2 ^ 64) : ∃ y : Nat, bits .xor .u64 (x : Int) (m : Int) = (y : Int) ∧ y < 2 ^ 64 :=
  ⟨x ^^^ m, u64_xor_nat x m hx hm, Nat.xor_lt_two_pow hx hm⟩
def ValsTo (w wr : World) (v : Value) (z : Nat) (i : Nat) : Prop := ∃ ts : List Nat, Own w.heap.size wr 28 v (cellsU ts) ∧ ts.length = i ∧ (∀ x ∈ ts, x < 2 ^ 64) ∧ z < 2 ^ 64 ∧ Mod (fun _ => False) w wr
set_option maxHeartbeats 4000000 in
set_option maxRecDepth 100000 in
theorem values_any (A : Option Addr) (n c : Nat) (zs : List Nat) (how : Int) (w : World) (hs : Rds w w.heap.size A n (cellsU zs)) (hz : ∀ x ∈ zs, x < 2 ^ 64) :
    Calls Tryd.prog 6 #[.slice A n c, .int .i64 how] w fun e w' => ∃ (v : Value) (ts : List Nat), e = .returned v ∧ Own w.heap.size w' 28 v (cellsU ts) ∧ ts.length ≤ 60 ∧ (∀ x ∈ ts, x < 2 ^ 64) ∧ Mod (fun _ => False) w w' := by
  have Hs := Lib.hid hs; have Hz := Lib.hid hz
  have H0 : Hid (ValsTo w w (.slice none 0 0) 0 0) := Lib.hid ⟨[], Own.nil _ _ _, rfl, (fun _ h => by cases h), by decide, Mod.refl _ _⟩
  obtain ⟨j, hj, hj8⟩ : ∃ j : Nat, bits .and .i64 how 7 = (j : Int) ∧ j < 8 := and_nat how 7 3 rfl (by omega)
  clear hs hz
  go_enter Tryd.func6, Tryd.ntmps6
  go_wp2_with fail
  go_loopg [5, 6, 7] 60 (fun l s5 s6 s7 wr => ∃ (i z : Nat), i + l = 60 ∧ s7 = .int .i64 (i : Int) ∧ s6 = .int .u64 (z : Int) ∧ ValsTo w wr s5 z i)
  case atStart => exact ⟨0, 0, by omega, rfl, rfl, H0.out⟩
  case round =>
    obtain ⟨i, z, hil, rfl, rfl, hT⟩ := hrel
    have HT := Lib.hid hT; have Hil := Lib.hid hil
    clear hT hil H0
    by_cases hin : i < n
    · by_cases hi60 : i < 60
      · obtain ⟨ts, hown, hl, hf, hzf, hm⟩ := HT.out
        obtain ⟨ad, x, rfl, hx, hcx⟩ := Hs.out.at2 hin (Nat.le_refl _) hm (fun _ _ h => h)
        have hxf := Lib.hid (Hz.out x (List.mem_of_getElem? hx))
        have Hown := Lib.hid hown; have Hl := Lib.hid hl; have Hf := Lib.hid hf; have Hm := Lib.hid hm; have Hzf := Lib.hid hzf
        clear hown hl hf hm hx HT hzf
        have hi0 : (0 : Int) ≤ (i : Int) := by omega
        go_upto_block 2 with fail
        go_cut [8] (fun s8 wc => ∃ y : Nat, y < 2 ^ 64 ∧ s8 = .int .u64 (y : Int) ∧ wr = wc)
        case first =>
          obtain ⟨b3, hb3, hb3l⟩ : ∃ y : Nat, bits .and .u64 (x : Int) 3 = (y : Int) ∧ y ≤ 3 := andU_ex x 3 hxf.out (by decide)
          obtain ⟨b15, hb15, hb15l⟩ : ∃ y : Nat, bits .and .u64 (x : Int) 15 = (y : Int) ∧ y ≤ 15 := andU_ex x 15 hxf.out (by decide)
          obtain ⟨b63, hb63, hb63l⟩ : ∃ y : Nat, bits .and .u64 (x : Int) 63 = (y : Int) ∧ y ≤ 63 := andU_ex x 63 hxf.out (by decide)
          obtain ⟨b1, hb1, hb1l⟩ : ∃ y : Nat, bits .and .u64 (x : Int) 1 = (y : Int) ∧ y ≤ 1 := andU_ex x 1 hxf.out (by decide)
          obtain ⟨bw, hbw, hbwl⟩ : ∃ y : Nat, bits .and .u64 (x : Int) 65535 = (y : Int) ∧ y ≤ 65535 := andU_ex x 65535 hxf.out (by decide)
          have hb63p : (0 : Int) ≤ (b63 : Int) := by omega
          obtain ⟨s1, hs1, hs1l⟩ := wrapU_ex ((z : Int) + (b15 : Int))
          obtain ⟨s4, hs4, hs4l⟩ := wrapU_ex ((z : Int) + (bw : Int))
          obtain ⟨d4, hd4, hd4l⟩ := wrapU_ex ((s4 : Int) - 32768)
          obtain ⟨m7, hm7, hm7l⟩ := wrapU_ex ((b1 : Int) * 7)
          obtain ⟨p2, hp2, hp2l⟩ := wrapU_ex ((2 : Int) ^ b63)
          obtain ⟨x2, hx2, hx2l⟩ := xorU_ex z p2 Hzf.out hp2l
          obtain ⟨q5, hq5, hq5l⟩ : ∃ q5 : Nat, (x : Int) / 16 = (q5 : Int) ∧ q5 < 2 ^ 64 := ⟨x / 16, by omega, by have := hxf.out; omega⟩
          have h3 : b3 < 2 ^ 64 := by omega
          have HL : Hid (s1 < 2 ^ 64 ∧ x2 < 2 ^ 64 ∧ m7 < 2 ^ 64 ∧ d4 < 2 ^ 64 ∧ q5 < 2 ^ 64 ∧ b3 < 2 ^ 64) := Lib.hid ⟨hs1l, hx2l, hm7l, hd4l, hq5l, h3⟩
          clear hs1l hx2l hm7l hd4l hq5l h3 hs4l hp2l
          have hjc : j = 0 ∨ j = 1 ∨ j = 2 ∨ j = 3 ∨ j = 4 ∨ j = 5 ∨ 5 < j := by omega
          rcases hjc with rfl | rfl | rfl | rfl | rfl | rfl | hj5
          · go_wp2_with fail
            go_meet
            case rel => exact ⟨b3, HL.out.2.2.2.2.2, rfl, rfl⟩
          · go_wp2_with fail
            go_meet
            case rel => exact ⟨s1, HL.out.1, rfl, rfl⟩
          · go_wp2_with fail
            go_meet
            case rel => exact ⟨x2, HL.out.2.1, rfl, rfl⟩
          · go_wp2_with fail
            go_meet
            case rel => exact ⟨m7, HL.out.2.2.1, rfl, rfl⟩
          · go_wp2_with fail
            go_meet
            case rel => exact ⟨d4, HL.out.2.2.2.1, rfl, rfl⟩
          · go_wp2_with fail
            go_meet
            case rel => exact ⟨q5, HL.out.2.2.2.2.1, rfl, rfl⟩
          · go_wp2_with fail
            go_meet
            case rel => exact ⟨x, hxf.out, rfl, rfl⟩
        case rest =>
          obtain ⟨y, hyf, rfl, rfl⟩ := hcut
          have Hyf := Lib.hid hyf
          have hsz := Hm.out.size
          have hr1 : (cellsU ts).length + 1 ≤ maxLen := by rw [cellsU_length, Hl.out]; unfold maxLen; omega
          have hr2 : ((cellsU ts).length + 1) * 8 ≤ 140737488355328 := by rw [cellsU_length, Hl.out]; omega
          clear hcx hyf hj
          go_wp2_with (at_builtin; refine wpList_app1 rfl (.tmp 58) (.tmp 60) _ rfl eltU rfl Hown.out rfl rfl rfl hr1 hr2 hsz ?_; intro v' w2 HO HB)
          have HT2 : Hid (ValsTo w w2 v' y (i + 1)) := Lib.hid ⟨ts ++ [y], by rw [cellsU_snoc]; exact HO.out, by simp [Hl.out], fun u hu => (by
            rw [List.mem_append, List.mem_singleton] at hu
            rcases hu with hu | rfl
            · exact Hf.out u hu
            · exact Hyf.out), Hyf.out, Hm.out.trans (Mod.of_below HB.out) (fun i hi h => by omega)⟩
          go_roundg (gk - 1)
          case measure => have := Hil.out; omega
          case rel => exact ⟨i + 1, y, by have := Hil.out; omega, by go_num, rfl, HT2.out⟩
      · go_wp2_with fail
        go_ret
        obtain ⟨ts, hown, hl, hf, hzf, hm⟩ := HT.out
        exact ⟨_, ts, rfl, hown, by have := Hil.out; omega, hf, hm⟩
    · go_wp2_with fail
      go_ret
      obtain ⟨ts, hown, hl, hf, hzf, hm⟩ := HT.out
      exact ⟨_, ts, rfl, hown, by have := Hil.out; omega, hf, hm⟩
/-- A row of values that was told, with m bits behind, is read back. -/
theorem xpacked_read {xs : List Nat} {X m : Nat} {bs : List Nat} (hp : Packed bs (fnum (encVals xs) * 2 ^ m + X) (flen (encVals xs) + m)) (hX : X < 2 ^ m) (hxs : ∀ x ∈ xs, x < 2 ^ 64) :
    ∃ free, free < 8 ∧ 8 * bs.length = flen (encVals xs) + m + free ∧ stVals xs.length (val bs) (8 * bs.length) = some (xs, X * 2 ^ free, m + free) := by
  obtain ⟨_, free, hf, hl, hv⟩ := hp
  refine ⟨free, hf, hl.symm, ?_⟩
  have e : val bs = fnum (encVals xs) * 2 ^ (m + free) + X * 2 ^ free := by rw [hv, Nat.add_mul, Nat.mul_assoc, ← Nat.pow_add]
  have hX2 : X * 2 ^ free < 2 ^ (m + free) := by rw [Nat.pow_add]; exact Nat.mul_lt_mul_of_pos_right hX (Nat.two_pow_pos _)
  rw [e, ← hl]
  exact stVals_of xs hxs hX2 (by omega)
theorem own_formU {B : Nat} {w : World} {v : Value} {xs : List Nat} (h : Own B w 28 v (cellsU xs)) : ∃ A c, v = .slice A xs.length c ∧ xs.length ≤ c ∧ Rds w w.heap.size A xs.length (cellsU xs) := by
  obtain ⟨A, c, e, _, hc, _, hr⟩ := h.form
  rw [cellsU_length] at e hr hc
  exact ⟨A, c, e, hc, hr⟩
theorem awk_len : flen (encVals [0, 0, 1099511627776, 0, 1649267441664]) = 97 := by decide +kernel
theorem awk_lt : ∀ x ∈ [0, 0, 1099511627776, 0, 1649267441664], x < 2 ^ 64 := by decide +kernel
set_option maxHeartbeats 1000000 in
theorem xawake_any (w : World) (hdeb : Deb w) : Calls Tryd.prog 10 #[] w fun e w' => e = .returned (.bool true) ∧ Mod (fun _ => False) w w' := by
  have Hdeb := Lib.hid hdeb
  clear hdeb
  go_enter Tryd.func10, Tryd.ntmps10
  go_wp2_with fail
  refine (newWriter_wr _).mono ?_
  rintro e w1 ⟨g, rfl, hg1, hg2, hw1, hm1⟩
  have H0 := Hdeb.out.1
  obtain ⟨wl, hwl⟩ : ∃ wl, wl = w1.alloc (.cells #[.int .u64 0, .int .u64 0, .int .u64 1099511627776, .int .u64 0, .int .u64 1649267441664] 28) := ⟨_, rfl⟩
  have hml : Mod (fun _ => False) w1 wl := by rw [hwl]; exact (Mod.refl _ _).alloc _
  have hsee : Hid (Rds wl (w1.heap.size + 1) (some ⟨w1.heap.size, 0, none⟩) 5 (cellsU [0, 0, 1099511627776, 0, 1649267441664])) := Lib.hid (by
    rw [hwl]
    exact Rds.lit w1 28 #[.int .u64 0, .int .u64 0, .int .u64 1099511627776, .int .u64 0, .int .u64 1649267441664])
  have hsz : w1.heap.size + 1 ≤ wl.heap.size := by rw [hwl]; simp
  have Hwl := Lib.hid hwl; have Hml := Lib.hid hml; have Hm1 := Lib.hid hm1; have Hw1 := Lib.hid (hw1.mod hml (fun h => h) (fun _ _ h => h))
  clear hwl hml hm1 hw1
  go_wp2_with fail
  rw [← Hwl.out]
  refine (xenc_any (w1.heap.size + 1) g none 0 0 5 5 _ [0, 0, 1099511627776, 0, 1649267441664] wl hsee.out awk_lt hsz (fun _ ad e h => by
    injection e with e
    subst e
    rcases h with h | h
    · simp at h; omega
    · cases h) (by omega) (fun h => by cases h) Hw1.out (Hdeb.out.mod (Hm1.out.trans Hml.out (fun _ _ h => h)) (fun h => h)) (by decide)).mono ?_
  rintro e w2 ⟨rfl, row, a1, a2, a3⟩
  have Hm2 := Lib.hid ((Hm1.out.trans Hml.out (fun _ _ h => h)).trans a2 (fun i hi h => h.elim (fun e => by omega) (fun e => by cases e)))
  rw [Nat.zero_add, awk_len, Nat.zero_mul, Nat.zero_add] at a1
  have Hw2 := Lib.hid a1
  have hrow : Hid (∀ k, row = some k → w.heap.size ≤ k) := Lib.hid (by
    rcases a3 with rfl | ⟨r, rfl, hr⟩
    · exact fun _ h => by cases h
    · intro k hk
      injection hk with hk
      have := Hm1.out.size; have := Hml.out.size
      omega)
  clear a1 a2 a3 Hw1 Hml Hm1 hsee Hwl
  go_wp2_with fail
  refine (bytes_any g row _ _ _ Hw2.out (by decide)).mono ?_
  rintro e w3 ⟨v, bs, rfl, hnew, hpk⟩
  obtain ⟨A3, c3, r3, rfl, _, hA3, _, _, hs3⟩ := hnew.form
  have Hm3 := Lib.hid (Hm2.out.trans hnew.2.1 (fun _ _ h => h)); have Hw3 := Lib.hid (Hw2.out.mod hnew.2.1 (fun h => h) (fun _ _ h => h))
  have Hpk := Lib.hid hpk; have Hs3 := Lib.hid hs3; have HA3 := Lib.hid hA3
  have hbl : bs.length ≤ 100 := by have := packed_len hpk; omega
  clear hnew hpk hs3 hA3 Hm2 Hw2
  go_wp2_with fail
  refine (newReader_any r3 A3 bs.length c3 bs _ Hs3.out HA3.out (by omega) Hpk.out.1).mono ?_
  rintro e w4 ⟨gr, rr, rfl, hgr, hrr, hm4, hrd⟩
  have Hm4 := Lib.hid (Hm3.out.trans hm4 (fun _ _ h => h))
  have Hw4 := Lib.hid (Hw3.out.mod hm4 (fun h => h) (fun _ _ h => h))
  have hgr0 : gr ≠ 0 := by have := Hm3.out.size; omega
  have hgr1 : Hid (gr ≠ g ∧ row ≠ some gr ∧ w.heap.size ≤ gr) := Lib.hid ⟨by have := Hw3.out.lt; omega, fun e => by have := Hw3.out.row_lt _ e; omega, by have := Hm3.out.size; omega⟩
  have Hdeb4 := Lib.hid (Hdeb.out.mod Hm4.out (fun h => h))
  obtain ⟨rr', hrr1, _, hrd'⟩ := hrd.real hgr0 Hdeb4.out.1
  have Hrd := Lib.hid hrd'; have Hrr1 := Lib.hid hrr1
  have hpr : Hid (stVals 5 (val bs) (8 * bs.length) = _) := Lib.hid (xpacked_read (xs := [0, 0, 1099511627776, 0, 1649267441664]) (X := 0) (m := 0) (bs := bs) (by rw [Nat.pow_zero, Nat.mul_one, Nat.add_zero, Nat.add_zero, awk_len]; exact Hpk.out) (by decide) awk_lt).choose_spec.2.2
  clear hrd hrd' hrr1 hm4 hgr hrr Hm3 Hw3 Hs3 HA3
  go_wp2_with fail
  refine (xdec_any gr rr' (val bs) (8 * bs.length) 5 5 _ (by decide) Hrd.out (by omega) Hrr1.out Hdeb4.out hgr0).mono ?_
  intro e w5 hd
  obtain ⟨v, rfl, hown, hro, hm5⟩ := hd.some_ hpr.out
  obtain ⟨A5, c5, rfl, _, hr5⟩ := own_formU hown
  have Hm5 := Lib.hid (Hm4.out.trans hm5 (fun i hi e => by have := hgr1.out; omega))
  have Hw5 := Lib.hid (Hw4.out.mod hm5 (fun e => hgr1.out.1 e.symm) (fun k hk e => hgr1.out.2.1 (e ▸ hk)))
  have Hr5 := Lib.hid hr5
  clear hd hown hro hm5 hr5 Hm4 Hw4 hpr
  have hln : [0, 0, 1099511627776, 0, 1649267441664].length = 5 := rfl
  rw [hln] at *
  clear hln
  go_wp2_with fail
  refine (len_ab g row _ 97 _ Hw5.out (by decide)).mono ?_
  rintro e w6 ⟨rfl, hm6⟩
  have Hm6 := Lib.hid (Hm5.out.trans hm6 (fun _ _ h => h)); have Hr6 := Lib.hid (Hr5.out.new hm6)
  clear hm6 Hm5 Hr5
  go_wp2_with fail
  refine (same_words A5 _ 5 c5 5 _ _ [0, 0, 1099511627776, 0, 1649267441664] _ ((Hr6.out.fit).alloc (Nat.le_refl _) _) (Rds.lit w6 28 #[.int .u64 0, .int .u64 0, .int .u64 1099511627776, .int .u64 0, .int .u64 1649267441664]) (by decide)).mono ?_
  rintro e w7 ⟨rfl, hm7⟩
  have Hm7 := Lib.hid ((Hm6.out.alloc _).trans hm7 (fun _ _ h => h))
  clear hm7 Hm6
  go_wp2_with fail
  go_ret
  exact ⟨rfl, Hm7.out⟩
end Go.Proofs.YtdlkjfnifjlbhaaDoor

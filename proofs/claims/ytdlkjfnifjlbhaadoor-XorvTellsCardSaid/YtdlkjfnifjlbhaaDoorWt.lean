/- XorvTells' walk. -/
import Derived.Test.YtdlkjfnifjlbhaaDoorWs
import Derived.Test.YtdlkjfnifjlbhaaDoorWq
import Derived.Test.YtdlkjfnifjlbhaaDoorPlay0
import Derived.Test.YtdlkjfnifjlbhaaDoorConv
import Derived.Test.YtdlkjfnifjlbhaaDoorOw
import Derived.Test.YtdlkjfnifjlbhaaDoorRefb
import Derived.Deep.RegionWith
namespace Go.Proofs.YtdlkjfnifjlbhaaDoor
open Go.RowKit

theorem valRow_lens {n R rem : Nat} {xs : List Nat} {R' rem' : Nat} (h : valRow n R rem = some (xs, R', rem')) (hR : R < 2 ^ rem) : xs.length = n ∧ rem' ≤ rem := by
  unfold valRow at h
  cases h0 : rdVals n R rem with
  | none => rw [h0] at h; cases h
  | some p =>
    obtain ⟨vs, R1, rem1⟩ := p
    rw [h0] at h
    simp only at h
    obtain ⟨⟨fs, ht⟩, hl, _⟩ := rdVals_some h0 hR
    split at h
    · injection h with h
      injection h with e1 h
      injection h with e2 e3
      subst e1 e3
      exact ⟨hl, by have := ht.2.2; omega⟩
    · cases h
theorem xtells_long (A0 A2 : Option Addr) (n0 c0 n2 c2 : Nat) (how at' by_ n : Int) (w : World) (hdeb : Deb w) (h : 200 < n2) :
    Calls Tryd.prog 4 #[.slice A0 n0 c0, .int .i64 how, .slice A2 n2 c2, .int .i64 at', .int .u8 by_, .int .i64 n] w fun e w' => e = .returned (.bool true) ∧ Mod (fun _ => False) w w' := by
  have Hdeb := Lib.hid hdeb
  clear hdeb
  go_enter Tryd.func4, Tryd.ntmps4
  go_wp2_with fail
  refine (xawake_any _ Hdeb.out).mono ?_
  rintro e w1 ⟨rfl, hm⟩
  have Hm := Lib.hid hm
  clear hm
  go_wp2_with fail
  go_ret
  exact ⟨rfl, Hm.out⟩
set_option maxHeartbeats 16000000 in
set_option maxRecDepth 100000 in
theorem xtells_walk (A0 A2 : Option Addr) (n0 c0 n2 c2 : Nat) (zs : List Nat) (rs : List Nat) (rowr : Nat) (how at' n : Int) (by_ : Nat) (w : World) (hs : Rds w w.heap.size A0 n0 (cellsU zs)) (hz : ∀ x ∈ zs, x < 2 ^ 64)
    (hr : Sees w rowr A2 n2 (cells8 rs)) (hrl : lt256 rs) (hrA : A2 = none → c2 = 0) (hat : FitI at') (hn : FitI n) (hby : by_ < 256) (hdeb : Deb w) (h200 : ¬ 200 < n2) :
    Calls Tryd.prog 4 #[.slice A0 n0 c0, .int .i64 how, .slice A2 n2 c2, .int .i64 at', .int .u8 (by_ : Int), .int .i64 n] w fun e w' => e = .returned (.bool true) ∧ Mod (fun _ => False) w w' := by
  have Hs := Lib.hid hs; have Hz := Lib.hid hz; have Hr := Lib.hid hr; have Hrl := Lib.hid hrl; have HrA := Lib.hid hrA; have Hat := Lib.hid hat; have Hn := Lib.hid hn; have Hwid := Lib.hid hdeb; have Hby := Lib.hid hby
  clear hs hz hr hrl hrA hat hn hdeb hby
  go_enter Tryd.func4, Tryd.ntmps4
  go_wp2_with fail
  refine (values_any A0 n0 c0 zs how _ Hs.out Hz.out).mono ?_
  rintro e w1 ⟨v, ts, rfl, hown, hl60, hf, hm1⟩
  obtain ⟨A1, c1, rfl, _, hr1⟩ := own_formU hown
  have Hf := Lib.hid hf; have Hm1 := Lib.hid hm1; have Hr1 := Lib.hid hr1
  have hd0 := Hwid.out.1
  clear hown hf hm1 hr1 Hs Hz
  go_wp2_with fail
  refine (newWriter_wr _).mono ?_
  rintro e w2 ⟨a, rfl, hg2, ha2, hw2, hm2⟩
  have hlen := encVals_len ts
  obtain ⟨L, hL⟩ : ∃ L, L = flen (encVals ts) := ⟨_, rfl⟩
  obtain ⟨N, hN⟩ : ∃ N, N = fnum (encVals ts) := ⟨_, rfl⟩
  have hLb : L ≤ 4700 := by omega
  obtain ⟨w3, hw3⟩ : ∃ w3, w3 = w2.alloc (.cells #[.slice none 0 0] 34) := ⟨_, rfl⟩
  have hm3 : Mod (fun _ => False) w2 w3 := by rw [hw3]; exact (Mod.refl _ _).alloc _
  have hwb3 : RWr w3 w2.heap.size none 0 0 := by rw [hw3]; exact ⟨.slice none 0 0, [], Blk.new _ _ _, World.ownsRow_nil _ _ _ _, rfl, (fun _ h => by cases h), rfl, rfl⟩
  have hsee : Rds w3 w1.heap.size A1 ts.length (cellsU ts) := Hr1.out.mod (hm2.trans hm3 (fun _ _ h => h)) (Nat.le_refl _) (fun _ _ h => h)
  have Hwa3 := Lib.hid (hw2.mod hm3 (fun h => h) (fun _ _ h => h)); have Hwb3 := Lib.hid hwb3; have Hsee := Lib.hid hsee; have Hw3 := Lib.hid hw3
  have HL := Lib.hid hL; have HN := Lib.hid hN
  have Hm3 := Lib.hid ((Hm1.out.trans hm2 (fun _ _ h => h)).trans hm3 (fun _ _ h => h))
  obtain ⟨b, hb⟩ : ∃ b, b = w2.heap.size := ⟨_, rfl⟩
  have Hs13 : Hid (w1.heap.size ≤ a ∧ a < b ∧ b < w3.heap.size ∧ w1.heap.size ≤ w3.heap.size ∧ w.heap.size ≤ w1.heap.size) := Lib.hid ⟨hg2, by omega, by rw [hw3, hb]; simp, Nat.le_trans hm2.size hm3.size, Hm1.out.size⟩
  rw [← hb] at Hwb3
  have HBB := Lib.hid hb
  have Hdeb3 := Lib.hid (Hwid.out.mod Hm3.out (fun h => h))
  clear hw2 hg2 ha2 hm2 hlen hL hN hw3 hm3 hwb3 hsee hb
  have hapA : ∀ q, w1.heap.size ≤ q → 0 < ts.length → ∀ ad, A1 = some ad → ¬ (ad.block = q ∨ (none : Option Nat) = some ad.block) := fun q hq h0 ad e h => by
    obtain ⟨ad', e', hb', _⟩ := Hsee.out.2 h0
    rw [e] at e'
    injection e' with e'
    subst e'
    rcases h with h | h
    · omega
    · cases h
  have HapA := Lib.hid hapA
  clear hapA
  go_wp2_with (first | (rw [← HBB.out, ← Hw3.out]))
  refine (xenc_any w1.heap.size a none 0 0 ts.length c1 A1 ts w3 Hsee.out Hf.out Hs13.out.2.2.2.1 (HapA.out a Hs13.out.1) (by have := Hs13.out; omega) (fun e => by cases e) Hwa3.out Hdeb3.out (by omega)).mono ?_
  rintro e w4 ⟨rfl, ra, hwa4, hm4, hrt4⟩
  rw [← HL.out, ← HN.out, Nat.zero_add, Nat.zero_mul, Nat.zero_add] at hwa4
  have Hra : Hid (∀ k, ra = some k → b < k ∧ w3.heap.size ≤ k) := Lib.hid (by
    rcases hrt4 with rfl | ⟨r, rfl, hr⟩
    · exact fun _ h => by cases h
    · intro k hk
      injection hk with hk
      have := Hs13.out
      omega)
  have Hwb4 := Lib.hid (Hwb3.out.mod hm4 (fun e => by have := Hs13.out; rcases e with e | e; omega; cases e) (fun _ e _ => by cases e))
  have Hsee4 := Lib.hid (Hsee.out.mod hm4 Hs13.out.2.2.2.1 (fun j hj e => by have := Hs13.out; rcases e with e | e; omega; cases e))
  have Hm4 := Lib.hid (Hm3.out.trans hm4 (fun i hi e => by have := Hs13.out; rcases e with e | e; omega; cases e))
  have Hwa4 := Lib.hid hwa4
  have Hs14 : Hid (w1.heap.size ≤ w4.heap.size) := Lib.hid (by have := Hs13.out; have := hm4.size; omega)
  clear hwa4 hm4 hrt4 Hwa3 Hwb3 Hsee Hm3 Hr1 Hw3 HBB Hdeb3
  go_wp2_with fail
  refine (rvalues_any w1.heap.size b none 0 0 ts.length c1 A1 ts w4 Hsee4.out Hf.out Hs14.out (HapA.out b (by have := Hs13.out; omega)) Hwb4.out (by omega)).mono ?_
  rintro e w5 ⟨rfl, rb, hwb5, hm5, hrt5⟩
  rw [← HL.out, ← HN.out, Nat.zero_add, Nat.zero_mul, Nat.zero_add] at hwb5
  have HB : Hid (Both w w5 a ra b rb N L) := Lib.hid ⟨Hwa4.out.mod hm5 (fun e => by have := Hs13.out; rcases e with e | e; omega; cases e) (fun k hk e => by have := Hra.out k hk; rcases e with e | e; omega; cases e), hwb5,
    Hm4.out.trans hm5 (fun i hi e => by have := Hs13.out; rcases e with e | e; omega; cases e)⟩
  have Hr4 : Hid (Rds w5 w1.heap.size A1 ts.length (cellsU ts)) := Lib.hid (Hsee4.out.mod hm5 Hs14.out (fun j hj e => by have := Hs13.out; rcases e with e | e; omega; cases e))
  clear hwb5 hm5 hrt5 Hwa4 Hwb4 Hsee4 Hm4 Hra HapA
  generalize w5 = w4 at *
  obtain ⟨Ax, cx, hx0⟩ := HB.out.wb.len
  obtain ⟨bs, hpk⟩ := HB.out.wa.packed
  obtain ⟨s, hs⟩ : ∃ s, s = strOf bs := ⟨_, rfl⟩
  have hbl : bs.length ≤ 1000 := by have := packed_len hpk; omega
  have Hpk := Lib.hid hpk; have Hss := Lib.hid hs
  have cLen : Hid (∀ W, Mod (fun _ => False) w4 W → Calls Tryd.prog 9 #[.pointer (some ⟨a, 0, none⟩)] W fun e W' => e = .returned (.int .i64 (L : Int)) ∧ Mod (fun _ => False) w4 W') := Lib.hid (fun W hW =>
    (len_ab a ra N L W (HB.out.new hW).wa (by omega)).mono fun _ _ ⟨h1, h2⟩ => ⟨h1, hW.trans h2 (fun _ _ h => h)⟩)
  have cBy : Hid (∀ W, Mod (fun _ => False) w4 W → Calls Tryd.prog 12 #[.pointer (some ⟨a, 0, none⟩)] W fun e W' => ∃ Ab cb, e = .returned (.slice Ab bs.length cb) ∧ Mod (fun _ => False) w4 W' ∧ Mod (fun _ => False) W W' ∧
      ∀ W2, Mod (fun _ => False) W' W2 → (convert 31 9 (.slice Ab bs.length cb)).run Tryd.prog W2 = .ok (.string s) W2) := Lib.hid (fun W hW => by
    refine (bytes_any a ra N L W (HB.out.new hW).wa (by omega)).mono ?_
    rintro e W' ⟨v, bs', rfl, hnew, hpk'⟩
    obtain rfl := packed_one Hpk.out hpk'
    obtain ⟨Ab, cb, rw', rfl, _, hAb, _, _, hsb⟩ := hnew.form
    exact ⟨Ab, cb, rfl, hW.trans hnew.2.1 (fun _ _ h => h), hnew.2.1, fun W2 hW2 => by rw [Hss.out]; exact conv_seen W2 (hsb.mod hW2 (fun _ h => h)) hpk'.1 hAb⟩)
  have cRBy : Hid (∀ W, Mod (fun _ => False) w4 W → Calls Tryd.prog 13 #[.pointer (some ⟨b, 0, none⟩)] W fun e W' => ∃ Ab cb, e = .returned (.slice Ab bs.length cb) ∧ Mod (fun _ => False) w4 W' ∧ Mod (fun _ => False) W W' ∧
      ∀ W2, Mod (fun _ => False) W' W2 → (convert 31 9 (.slice Ab bs.length cb)).run Tryd.prog W2 = .ok (.string s) W2) := Lib.hid (fun W hW => by
    refine (rbytes_any b rb N L W (HB.out.new hW).wb (by omega)).mono ?_
    rintro e W' ⟨v, bs', rfl, hnew, hpk'⟩
    obtain rfl := packed_one Hpk.out hpk'
    obtain ⟨Ab, cb, rw', rfl, _, hAb, _, _, hsb⟩ := hnew.form
    exact ⟨Ab, cb, rfl, hW.trans hnew.2.1 (fun _ _ h => h), hnew.2.1, fun W2 hW2 => by rw [Hss.out]; exact conv_seen W2 (hsb.mod hW2 (fun _ h => h)) hpk'.1 hAb⟩)
  have S4 : Hid (Mod (fun _ => False) w4 w4.drew) := Lib.hid (Mod.refl _ _).drew
  have hX : ∀ W, Mod (fun _ => False) w4 W → Mod (fun _ => False) w4 W ∧ W.cell? ⟨b, 0, none⟩ = some (.slice Ax L cx) := fun W hW => ⟨hW, (hW.cell (a := ⟨b, 0, none⟩) HB.out.wb.lt (fun h => h)).trans hx0⟩
  have HX := Lib.hid hX
  clear hpk hs hX
  go_upto_region 9 with fail
  go_cut [63] (fun s63 wc => s63 = .bool false ∧ Mod (fun _ => False) w4 wc)
  case first =>
    clear hx0
    go_region_held_law (fun w' => Mod (fun _ => False) w4 w' ∧ w'.cell? ⟨b, 0, none⟩ = some (.slice Ax L cx)) (first | exact HX.out _ S7.out | exact HX.out _ S6.out | exact HX.out _ S5.out | exact HX.out _ S4.out)
      (first
        | (go_at_call 9; refine (cLen.out _ S4.out).mono ?_; rintro e w5 ⟨rfl, hm5⟩; have S5 := Lib.hid hm5; clear hm5)
        | (go_at_call 12; refine (cBy.out _ (by first | exact S7.out | exact S5.out)).mono ?_; rintro e w6 ⟨A6, c6, rfl, hm6, hst6, hcv6⟩; have S6 := Lib.hid hm6; have C6 := Lib.hid hcv6; have cv6 := C6.out _ (Mod.refl _ _); (try (have cv76 := C7.out _ hst6)); clear hm6 hcv6 hst6)
        | (go_at_call 13; refine (cRBy.out _ (by first | exact S6.out | exact S5.out)).mono ?_; rintro e w7 ⟨A7, c7, rfl, hm7, hst7, hcv7⟩; have S7 := Lib.hid hm7; have C7 := Lib.hid hcv7; have cv7 := C7.out _ (Mod.refl _ _); (try (have cv67 := C6.out _ hst7)); clear hm7 hcv7 hst7))
    all_goals
      go_wp2_with fail
      go_meet
      first
        | exact ⟨rfl, S7.out⟩
        | exact ⟨rfl, S6.out⟩
  case rest =>
    obtain ⟨rfl, hm8⟩ := hcut
    have HB8 := Lib.hid (HB.out.new hm8); have Hm48 := Lib.hid hm8
    clear hm8 cLen cBy cRBy S4 HX hx0 HB
    go_wp2_with fail
    refine (rbytes_any b rb N L _ HB8.out.wb (by omega)).mono ?_
    rintro e w9 ⟨v, bs', rfl, hnew, hpk'⟩
    obtain rfl := packed_one Hpk.out hpk'
    obtain ⟨Ab, cb, rowb, rfl, hcb, hAb, hrb1, _, hsb⟩ := hnew.form
    have hrb := Rds.of_own hnew.1
    have Hm49 := Lib.hid (Hm48.out.trans hnew.2.1 (fun _ _ h => h))
    have HMw := Lib.hid (HB8.out.mod.trans hnew.2.1 (fun _ _ h => h))
    have Hsb := Lib.hid hsb; have HAb := Lib.hid hAb; have Hrb := Lib.hid hrb
    have Hcb := Lib.hid hcb
    clear hnew hpk' hsb hAb hrb hcb hrb1 Hm48 HB8 Hss
    have hr1 : ([] : List Value).length + bs'.length ≤ maxLen := by unfold maxLen; simp; omega
    have hr2 : (([] : List Value).length + bs'.length) * 1 ≤ 140737488355328 := by simp; omega
    have h0m : (0 : Nat) ≤ maxLen := Nat.zero_le _
    go_upto_if 71 with (at_builtin; refine wpList_app rfl (.tmp 66) (.tmp 67) _ rfl elt8 rfl (Own.lit w9 5 #[] h0m) rfl (Hrb.out.alloc (Nat.le_refl _) _) (cells8_one bs') hr1 hr2 (le_alloc _ _) ?_; intro v' w10 HO HBl HG; clear HG; obtain ⟨Au, cu, rfl, hAu⟩ := u_form HO.out; have HAu := Lib.hid hAu; clear hAu)
    have Hm10 : Hid (Mod (fun _ => False) w9 w10) := Lib.hid (((Mod.refl (fun _ => False) w9).alloc _).trans (Mod.of_below HBl.out) (fun i hi h => by omega))
    go_cut [18] (fun s18 wc => ∃ (k : Nat) (us : List Nat), s18 = .int .i64 (k : Int) ∧ k ≤ bs'.length ∧ us.length = bs'.length ∧ lt256 us ∧ Own w9.heap.size wc 5 (.slice Au bs'.length cu) (cells8 us) ∧ Mod (fun _ => False) w9 wc)
    case first =>
      clear hr1 hr2 h0m
      by_cases h0 : 0 < bs'.length
      · obtain ⟨gu, rfl, hgB, hgl⟩ := HAu.out.2.2 h0
        obtain ⟨x, hx, hx4⟩ : ∃ x : Nat, bits .and .i64 at' 65535 = (x : Int) ∧ x < 65536 := and_nat at' 65535 16 rfl (by omega)
        obtain ⟨k, hk, hkl⟩ : ∃ k : Nat, (x : Int) % (bs'.length : Int) = (k : Int) ∧ k < bs'.length := ⟨x % bs'.length, by rw [Int.natCast_emod], Nat.mod_lt _ h0⟩
        have hown : Own w9.heap.size w10 5 (.slice (some ⟨gu, 0, none⟩) bs'.length cu) (cells8 bs') := HO.out
        obtain ⟨⟨u0, hu0⟩, hfz, hset⟩ := own_set (b := by_) hown rfl hkl
        have hk0 : (0 : Int) ≤ (k : Int) := by omega
        have hk1 : (k : Int) < (bs'.length : Int) := by omega
        have hkk : k ≤ bs'.length := by omega
        have Hset := Lib.hid hset
        have Hgg : Hid (w9.heap.size ≤ gu) := Lib.hid hgB
        clear hset hown hgB hgl
        go_wp2_with fail
        go_meet
        case rel => exact ⟨k, bs'.set k by_, rfl, hkk, by simp, (fun z hz => (List.mem_or_eq_of_mem_set hz).elim (fun h => Hpk.out.1 z h) (fun h => h ▸ Hby.out)), Hset.out, Hm10.out.setCell (fun h => absurd h (by have := Hgg.out; simp; omega)) _⟩
      · go_wp2_with fail
        go_meet
        case rel => exact ⟨0, bs', rfl, Nat.zero_le _, rfl, Hpk.out.1, HO.out, Hm10.out⟩
    case rest =>
      obtain ⟨k, us, rfl, hkl, hul, hult, hown, hmc⟩ := hcut
      have Hmc := Lib.hid (HMw.out.trans hmc (fun _ _ h => h))
      have hkc : (k : Int) ≤ (cb : Int) := by have := Hcb.out; omega
      have hk0 : (0 : Int) ≤ (k : Int) := by omega
      obtain ⟨ru, hsu⟩ := sees_own hown hul
      have HR4 : Hid (Rows4 (wc.alloc (.cells #[.slice A2 n2 c2, .slice Ab bs'.length cb, .slice Au bs'.length cu, .slice Ab k cb] 31)) wc.heap.size) := Lib.hid (rows4_new (Hr.out.mod Hmc.out (fun _ h => h)) HrA.out (by omega) Hrl.out (Hsb.out.mod hmc (fun _ h => h)) HAb.out hbl Hpk.out.1 hsu HAu.out.1 hult hkl)
      obtain ⟨wL, hwL⟩ : ∃ wL, wL = wc.alloc (.cells #[.slice A2 n2 c2, .slice Ab bs'.length cb, .slice Au bs'.length cu, .slice Ab k cb] 31) := ⟨_, rfl⟩
      rw [← hwL] at HR4
      have HmL : Hid (Mod (fun _ => False) w wL) := Lib.hid (by rw [hwL]; exact Hmc.out.alloc _)
      have HWL := Lib.hid hwL
      clear hown hmc hsu hult hwL hul HO HBl HAu Hm10 hr1 hr2 h0m Hrb Hsb HAb Hcb Hm49 HMw Hr4 Hpk Hr Hrl HrA Hmc HL HN Hs13 Hs14 Hf Hm1 Hat Hby
      go_wp2_with fail
      rw [← HWL.out]
      clear HWL
      generalize wc.heap.size = lit at *
      go_loopg [89] 4 (fun l s89 wr => ∃ j : Nat, j + l = 4 ∧ s89 = .int .i64 (j : Int) ∧ Mod (fun _ => False) wL wr)
      case atStart => exact ⟨0, rfl, rfl, Mod.refl _ _⟩
      case round =>
        obtain ⟨j, hjl, rfl, hm⟩ := hrel
        have Hm := Lib.hid hm; have Hjl := Lib.hid hjl
        clear hm hjl
        by_cases hl0 : gk = 0
        · have hj : ¬ j < 4 := by have := Hjl.out; omega
          go_wp2_with fail
          refine (xawake_any _ (Hwid.out.mod (HmL.out.trans Hm.out (fun _ _ h => h)) (fun h => h))).mono ?_
          rintro e wf ⟨rfl, hmf⟩
          have Hmf := Lib.hid ((HmL.out.trans Hm.out (fun _ _ h => h)).trans hmf (fun _ _ h => h))
          clear hmf
          go_wp2_with fail
          go_ret
          exact ⟨rfl, Hmf.out⟩
        · have hj : j < 4 := by have := Hjl.out; omega
          have hj0 : (0 : Int) ≤ (j : Int) := by omega
          have hjb : decide ((j : Int) < 4) = true := by simp; omega
          obtain ⟨A, nc, cc, row, cs, hcell, hsc, hA, hnc, hlt⟩ := (HR4.out.mod Hm.out).2 j hj
          obtain ⟨nm, hnm, hnm64⟩ : ∃ nm : Nat, bits .and .i64 n 63 = (nm : Int) ∧ nm < 64 := and_nat n 63 6 rfl (by omega)
          have HN4 : Hid (Nums4 (wr.alloc (.cells #[.int .i64 n, .int .i64 (nm : Int), .int .i64 (ts.length : Int), .int .i64 (-1)] 3)) wr.heap.size) := Lib.hid (nums4_new Hn.out ⟨by omega, by omega⟩ ⟨by omega, by omega⟩ ⟨by decide, by decide⟩)
          obtain ⟨wI, hwI⟩ : ∃ wI, wI = wr.alloc (.cells #[.int .i64 n, .int .i64 (nm : Int), .int .i64 (ts.length : Int), .int .i64 (-1)] 3) := ⟨_, rfl⟩
          rw [← hwI] at HN4
          have hmI : Mod (fun _ => False) wr wI := by rw [hwI]; exact (Mod.refl _ _).alloc _
          have HmI := Lib.hid (Hm.out.trans hmI (fun _ _ h => h)); have HWI := Lib.hid hwI; have Hsc := Lib.hid (hsc.mod hmI (fun _ h => h)); have HA := Lib.hid hA; have Hlt := Lib.hid hlt
          clear hsc hA hlt hwI hmI
          go_wp2_with fail
          rw [← HWI.out]
          clear HWI hcell
          generalize wr.heap.size = lit2 at *
          obtain ⟨go, rfl⟩ : ∃ go : Nat, go = gk := ⟨_, rfl⟩
          have hgo : 0 < go := by omega
          clear hl0
          go_loopg [100] 4 (fun l s100 wq => ∃ i : Nat, i + l = 4 ∧ s100 = .int .i64 (i : Int) ∧ Mod (fun _ => False) wI wq)
          case atStart => exact ⟨0, rfl, rfl, Mod.refl _ _⟩
          case round =>
            obtain ⟨i, hil, rfl, hm⟩ := hrel
            have Hm2 := Lib.hid hm; have Hil := Lib.hid hil
            clear hm hil
            by_cases hl0 : gk = 0
            · have hi : ¬ i < 4 := by have := Hil.out; omega
              go_wp2_with fail
              go_roundg (go - 1)
              case measure => omega
              case rel => exact ⟨j + 1, by have := Hjl.out; omega, by go_num, HmI.out.trans Hm2.out (fun _ _ h => h)⟩
            · have hi : i < 4 := by have := Hil.out; omega
              have hi0 : (0 : Int) ≤ (i : Int) := by omega
              obtain ⟨m, hmf, hcell⟩ := (HN4.out.mod Hm2.out).2 i hi
              go_wp2_with fail
              refine (newReader_any row A nc cc cs _ (Hsc.out.mod Hm2.out (fun _ h => h)) HA.out (by omega) Hlt.out).mono ?_
              rintro e w5 ⟨g, rg, rfl, hg, hrg, hm5, hrd⟩
              have hscw := Hsc.out.mod Hm2.out (fun _ h => h)
              obtain ⟨rg', rh, hS⟩ := RS.start (c := cc) Hm2.out hm5 hg hrd rfl hscw Hlt.out hnc
              obtain ⟨w6, hw6⟩ : ∃ w6, w6 = w5.alloc (.cells #[.slice A nc cc, .int .i64 0, .bool false] 43) := ⟨_, rfl⟩
              rw [← hw6] at hS
              have HS := Lib.hid hS; have HW6 := Lib.hid hw6
              clear hS hw6 hg hrg hm5 hrd hscw hcell
              obtain ⟨k, hk, hk65⟩ : ∃ k : Nat, max 0 (min m 65535) = (k : Int) ∧ k ≤ 65535 := ⟨(max 0 (min m 65535)).toNat, by omega, by omega⟩
              have Hk := Lib.hid hk
              clear hk
              go_wp2_with fail
              rw [← HW6.out]
              clear HW6
              generalize w5.heap.size = h at *
              have Hwid6 := Lib.hid (Hwid.out.mod (HmL.out.trans (HmI.out.trans HS.out.mod (fun _ _ h => h)) (fun _ _ h => h)) (fun h => h))
              have HwI0 : Hid (0 < wI.heap.size) := Lib.hid (Nat.lt_of_lt_of_le Hwid.out.1 (HmL.out.trans HmI.out (fun _ _ h => h)).size)
              have hg0 : g ≠ 0 := by have := HS.out.hg; have := HwI0.out; omega
              have hh0 : h ≠ 0 := by have := HS.out.hh; have := HwI0.out; omega
              obtain ⟨row1, hrow1, hr1e, hrd1⟩ := HS.out.rd.real hg0 Hwid6.out.1
              obtain ⟨row2, hrow2, hr2e, hrd2⟩ := HS.out.rr.real hh0 Hwid6.out.1
              have Hgh : Hid (h ≠ g ∧ row2 ≠ g ∧ row1 ≠ h) := Lib.hid ⟨fun e => HS.out.ne e.symm, by rcases hr2e with rfl | rfl; exact HS.out.ne2; exact fun e => hg0 e.symm, by rcases hr1e with rfl | rfl; exact HS.out.ne1; exact fun e => hh0 e.symm⟩
              have Hrd1 := Lib.hid hrd1; have Hrd2 := Lib.hid hrd2; have Hrow1 := Lib.hid hrow1; have Hrow2 := Lib.hid hrow2
              have Hsm := Lib.hid hrd1.small
              clear hrd1 hrd2 hrow1 hrow2 hr1e hr2e hmf
              refine (xdec_any g row1 (val cs) (8 * nc) k m _ Hk.out Hrd1.out (by omega) Hrow1.out Hwid6.out hg0).mono ?_
              intro e w7 hd7
              rw [stVals_eq Hsm.out] at hd7
              cases hrow : valRow k (val cs) (8 * nc) with
              | none =>
                have Hrowe := Lib.hid hrow
                clear hrow
                obtain ⟨rfl, _, hm7⟩ := hd7.none_ Hrowe.out
                have Hm7 := Lib.hid (HS.out.mod.trans hm7 (fun i hi e => by have := HS.out.hg; omega))
                have Hr7 := Lib.hid (Hrd2.out.mod hm7 Hgh.out.1 (fun _ => Hgh.out.2.1))
                have Hrow7 : Hid (row2 < w7.heap.size) := Lib.hid (Nat.lt_of_lt_of_le Hrow2.out hm7.size)
                clear hd7 hm7 Hrd1 Hrd2 Hrow1 Hrow2
                go_wp2_with fail
                refine (rgetvals_any h row2 (val cs) (8 * nc) k cs m _ Hk.out Hr7.out Hsm.out Hrow7.out).mono ?_
                intro e w8 hd8
                rw [Hrowe.out] at hd8
                obtain ⟨rfl, hm8⟩ := hd8
                have Hm8 := Lib.hid (Hm7.out.trans hm8 (fun i hi e => by have := HS.out.hh; omega))
                clear hm8 Hm7 Hr7
                go_wp2_with fail
                refine (same_words none none 0 0 0 0 0 [] _ (Rds.nil _ _ _) (Rds.nil _ _ _) (by decide)).mono ?_
                rintro e w9 ⟨rfl, hm9⟩
                have Hm9 := Lib.hid (Hm8.out.trans hm9 (fun _ _ h => h))
                clear hm9 Hm8
                go_wp2_with fail
                go_roundg (gk - 1)
                case measure => omega
                case rel => exact ⟨i + 1, by have := Hil.out; omega, by go_num, Hm9.out⟩
              | some p =>
                obtain ⟨xs, R', rem'⟩ := p
                have Hrowe := Lib.hid hrow
                obtain ⟨hxl, hrem'⟩ := valRow_lens hrow Hsm.out
                clear hrow
                obtain ⟨v, rfl, hown, hro, hm7⟩ := hd7.some_ Hrowe.out
                obtain ⟨A7, c7, rfl, _, hr7⟩ := own_formU hown
                have hxk : xs.length = k := hxl
                have Hm7 := Lib.hid (HS.out.mod.trans hm7 (fun i hi e => by have := HS.out.hg; omega))
                have Hr7 := Lib.hid (Hrd2.out.mod hm7 Hgh.out.1 (fun _ => Hgh.out.2.1))
                have Hrow7 : Hid (row2 < w7.heap.size) := Lib.hid (Nat.lt_of_lt_of_le Hrow2.out hm7.size)
                have Hy7 := Lib.hid hown; have Hro := Lib.hid hro.1
                have Hs67 : Hid (w6.heap.size ≤ w7.heap.size) := Lib.hid hm7.size
                have Hxk : Hid (xs.length ≤ 1000000) := Lib.hid (by omega)
                have hrem8 : Hid (rem' ≤ 8000000000) := Lib.hid (by omega)
                have Hhl : Hid (h < w6.heap.size) := Lib.hid Hrd2.out.lt'
                clear hd7 hm7 Hrd1 Hrd2 Hrow2 hown hro hr7 hxl hxk hrem'
                go_wp2_with fail
                refine (rgetvals_any h row2 (val cs) (8 * nc) k cs m _ Hk.out Hr7.out Hsm.out Hrow7.out).mono ?_
                intro e w8 hd8
                rw [Hrowe.out] at hd8
                obtain ⟨v, rfl, hown, hro, hm8⟩ := hd8
                obtain ⟨A8, c8, rfl, _, hr8⟩ := own_formU hown
                have hy8 : Own w6.heap.size w8 28 (.slice A7 xs.length c7) (cellsU xs) := hm8.owns Hy7.out (fun q hq e => by have := (Hy7.out.block q hq).1; have := Hhl.out; omega)
                have Hy8 := Lib.hid (by
                  obtain ⟨A', c', e', _, hr'⟩ := own_formU hy8
                  injection e' with e1 e2 e3
                  subst e1
                  exact hr' : Rds w8 w8.heap.size A7 xs.length (cellsU xs))
                have Hr8 := Lib.hid hr8
                have Hm8 := Lib.hid (Hm7.out.trans hm8 (fun i hi e => by have := HS.out.hh; omega))
                have Hro8 := Lib.hid (Hro.out.mod hm8 (fun e => Hgh.out.1 e.symm) (fun _ e => Hgh.out.2.2 e))
                have Hrr8 := Lib.hid hro.1
                clear hown hro hm8 hr8 hy8 Hm7 Hr7 Hro Hy7
                go_wp2_with fail
                refine (same_words A7 A8 xs.length c7 c8 _ _ xs _ Hy8.out Hr8.out Hxk.out).mono ?_
                rintro e w9 ⟨rfl, hm9⟩
                have Hm9 := Lib.hid (Hm8.out.trans hm9 (fun _ _ h => h)); have Hro9 := Lib.hid (Hro8.out.mod hm9 (fun h => h) (fun _ h => h)); have Hrr9 := Lib.hid (Hrr8.out.mod hm9 (fun h => h) (fun _ h => h))
                clear hm9 Hm8 Hro8 Hrr8 Hy8 Hr8
                go_wp2_with fail
                refine (left_ab g row1 R' rem' true _ Hro9.out hrem8.out).mono ?_
                rintro e w10 ⟨rfl, hm10⟩
                have Hm10 := Lib.hid (Hm9.out.trans hm10 (fun _ _ h => h)); have Hrr10 := Lib.hid (Hrr9.out.mod hm10 (fun h => h) (fun _ h => h))
                clear hm10 Hm9 Hro9 Hrr9
                go_wp2_with fail
                refine (rleft_ab h row2 R' rem' cs true _ Hrr10.out).mono ?_
                rintro e w11 ⟨rfl, hm11⟩
                have Hm11 := Lib.hid (Hm10.out.trans hm11 (fun _ _ h => h))
                clear hm11 Hm10 Hrr10
                go_wp2_with fail
                go_roundg (gk - 1)
                case measure => omega
                case rel => exact ⟨i + 1, by have := Hil.out; omega, by go_num, Hm11.out⟩
end Go.Proofs.YtdlkjfnifjlbhaaDoor

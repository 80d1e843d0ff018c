/- XorvBack's walk. -/
import Derived.Test.YtdlkjfnifjlbhaaDoorWs
import Derived.Test.YtdlkjfnifjlbhaaDoorTwo
namespace Go.Proofs.YtdlkjfnifjlbhaaDoor
open Go.RowKit

/-- x[k] = b -/
theorem own_setU {B g nb cap k b : Nat} {w : World} {bs : List Nat} (h : Own B w 28 (.slice (some ⟨g, 0, none⟩) nb cap) (cellsU bs)) (hn : nb = bs.length) (hk : k < nb) :
    (∃ u, w.cell? ⟨g, k, none⟩ = some u) ∧ w.frozen? ⟨g, k, none⟩ = false ∧ Own B (w.setCell ⟨g, k, none⟩ (.int .u64 (b : Int))) 28 (.slice (some ⟨g, 0, none⟩) nb cap) (cellsU (bs.set k b)) := by
  have h' : w.ownsRow B 28 1 (.slice (some ⟨g, 0, none⟩) nb cap) nb (cellsU bs) := by
    have := h; unfold Own at this; rwa [cellsU_length, ← hn] at this
  refine ⟨⟨.int .u64 (bs[k]'(by omega)), ?_⟩, h'.frozenAt k, ?_⟩
  · rw [h'.cellAt k (by omega), cellsU_get, List.getElem?_eq_getElem (by omega)]
    rfl
  · have h2 := (h'.stored k (.int .u64 (b : Int))).1
    have e : (cellsU bs).set k (.int .u64 (b : Int)) = cellsU (bs.set k b) := by simp [cellsU, List.map_set]
    rw [e] at h2
    unfold Own
    rw [cellsU_length, List.length_set, ← hn]
    exact h2
/-- A row of which i cells bear b, the rest 0. -/
def part (i m b : Nat) : List Nat := List.replicate i b ++ List.replicate (m - i) 0
theorem part_len {i m b : Nat} (h : i ≤ m) : (part i m b).length = m := by simp [part]; omega
theorem part_set {i m b : Nat} (h : i < m) : (part i m b).set i b = part (i + 1) m b := by
  unfold part
  obtain ⟨j, hj⟩ : ∃ j, m - i = j + 1 := ⟨m - i - 1, by omega⟩
  rw [hj, show m - (i + 1) = j by omega, List.replicate_succ, List.set_append_right _ _ (by simp), List.length_replicate, Nat.sub_self, List.set_cons_zero, List.replicate_succ']
  simp
theorem part_zero (m b : Nat) : part 0 m b = List.replicate m 0 := by simp [part]
theorem part_all (m b : Nat) : part m m b = List.replicate m b := by simp [part]
theorem Own.rds {B : Nat} {w : World} {A : Option Addr} {n c : Nat} {xs : List Nat} (h : Own B w 28 (.slice A n c) (cellsU xs)) (hn : xs.length = n) : Rds w w.heap.size A n (cellsU xs) := by
  obtain ⟨A', c', e, _, hr⟩ := own_formU h
  injection e with e1 e2 e3
  subst e1 e2
  exact hr

/-- What the loop has laid. -/
def SameTo (w9 wr : World) (q m b i : Nat) : Prop := i ≤ m ∧ Own q wr 28 (.slice (some ⟨q, 0, none⟩) m m) (cellsU (part i m b)) ∧ Mod (fun i => i = q) w9 wr
set_option maxHeartbeats 4000000 in
set_option maxRecDepth 100000 in
theorem xorvBack_walk (A : Option Addr) (n0 c0 : Nat) (zs : List Nat) (how more : Int) (w : World) (hs : Rds w w.heap.size A n0 (cellsU zs)) (hz : ∀ x ∈ zs, x < 2 ^ 64) (hmo : Fit64 more) (hdeb : Deb w) :
    Calls Tryd.prog 5 #[.slice A n0 c0, .int .i64 how, .int .u64 more] w fun e w' => e = .returned (.bool true) ∧ Mod (fun _ => False) w w' := by
  obtain ⟨mo, rfl⟩ := Int.eq_ofNat_of_zero_le hmo.out.1
  have hmo64 : Lt64 mo := by have := hmo.out.2; unfold Lt64; omega
  have Hs := Lib.hid hs; have Hz := Lib.hid hz; have Hdeb := Lib.hid hdeb; have Hmo := Lib.hid hmo64
  clear hs hz hdeb hmo hmo64
  go_enter Tryd.func5, Tryd.ntmps5
  go_wp2_with fail
  refine (values_any A n0 c0 zs how _ Hs.out Hz.out).mono ?_
  rintro e w1 ⟨v, ts, rfl, hown, hl60, hf, hm1⟩
  obtain ⟨A1, c1, rfl, _, hr1⟩ := own_formU hown
  have Hf := Lib.hid hf; have Hm1 := Lib.hid hm1; have Hr1 := Lib.hid hr1
  obtain ⟨n, hn⟩ : ∃ n, n = ts.length := ⟨_, rfl⟩
  have Hn := Lib.hid hn
  rw [← hn] at hl60 Hr1 ⊢
  clear hown hf hm1 hr1 Hs Hz hn
  go_wp2_with fail
  refine (newWriter_wr _).mono ?_
  rintro e w2 ⟨g, rfl, hg1, hg2, hwg, hm2⟩
  have Hg := Lib.hid hg1; have Hwg := Lib.hid hwg; have Hm2 := Lib.hid (Hm1.out.trans hm2 (fun _ _ h => h)); have Hr2 := Lib.hid (Hr1.out.mod hm2 (Nat.le_refl _) (fun _ _ h => h))
  have Hs12 : Hid (w1.heap.size ≤ w2.heap.size ∧ w.heap.size ≤ w1.heap.size) := Lib.hid ⟨hm2.size, Hm1.out.size⟩
  have Hg2 := Lib.hid hg2
  clear hg1 hg2 hwg hm2 Hm1 Hr1
  go_wp2_with fail
  refine (newWriter_wr _).mono ?_
  rintro e w3 ⟨h, rfl, hh1, hh2, hwh, hm3⟩
  have Hgh : Hid (w1.heap.size ≤ g ∧ g < h ∧ w.heap.size ≤ w1.heap.size ∧ h < w3.heap.size) := Lib.hid ⟨Hg.out, by have := Hg2.out; omega, Hs12.out.2, hh2⟩
  have Hwg3 := Lib.hid (Hwg.out.mod hm3 (fun h => h) (fun _ _ h => h)); have Hwh3 := Lib.hid hwh
  have Hm3 := Lib.hid (Hm2.out.trans hm3 (fun _ _ h => h)); have Hr3 := Lib.hid (Hr2.out.mod hm3 Hs12.out.1 (fun _ _ h => h))
  have Hs13 : Hid (w1.heap.size ≤ w3.heap.size) := Lib.hid (Nat.le_trans Hs12.out.1 hm3.size)
  have Hdeb3 := Lib.hid (Hdeb.out.mod Hm3.out (fun h => h))
  have hd0 := Hdeb.out.1
  clear hh1 hh2 hwh hm3 Hg Hg2 Hwg Hm2 Hr2 Hs12
  have hg0 : g ≠ 0 := by have := Hgh.out; omega
  have hh0 : h ≠ 0 := by have := Hgh.out; omega
  go_wp2_with fail
  refine (xenc_any w1.heap.size g none 0 0 n c1 A1 ts w3 Hr3.out Hf.out Hs13.out (fun h0 ad e hq => by
    obtain ⟨ad', e', hb, _⟩ := Hr3.out.2 h0
    rw [e] at e'
    injection e' with e'
    subst e'
    have := Hgh.out
    rcases hq with hq | hq
    · omega
    · cases hq) hg0 (fun e => by cases e) Hwg3.out Hdeb3.out (by omega)).mono ?_
  rintro e w4 ⟨rfl, row, hw4, hm4, hrt4⟩
  have hlen := encVals_len ts
  obtain ⟨L, hL⟩ : ∃ L, L = flen (encVals ts) := ⟨_, rfl⟩
  rw [← hL, Nat.zero_mul, Nat.zero_add, Nat.zero_add] at hw4
  have hLb : L ≤ 64 + 77 * n := by rw [hL, Hn.out]; exact hlen
  have Hw4 := Lib.hid hw4; have HL := Lib.hid hL
  have Hrow : Hid (∀ k, row = some k → h < k) := Lib.hid (by
    rcases hrt4 with rfl | ⟨r, rfl, hr⟩
    · exact fun _ h => by cases h
    · intro k hk
      injection hk with hk
      have := Hgh.out
      omega)
  have Hm4 := Lib.hid (Hm3.out.trans hm4 (fun i hi e => by have := Hgh.out; rcases e with e | e; omega; cases e))
  have Hr4 := Lib.hid (Hr3.out.mod hm4 Hs13.out (fun j hj e => by have := Hgh.out; rcases e with e | e; omega; cases e))
  have Hwh4 := Lib.hid (Hwh3.out.mod hm4 (fun e => by have := Hgh.out; rcases e with e | e; omega; cases e) (fun _ e _ => by cases e))
  have Hs14 : Hid (w1.heap.size ≤ w4.heap.size) := Lib.hid (Nat.le_trans Hs13.out hm4.size)
  clear hw4 hm4 hrt4 hL hlen Hwg3 Hwh3 Hm3 Hr3 Hdeb3 Hs13
  go_wp2_with fail
  refine (put_wr g row _ L 64 (mo : Int) 64 _ ⟨by decide, by decide⟩ ⟨by omega, by have := Hmo.out.out; omega⟩ (by decide) Hw4.out (by omega)).mono ?_
  rintro e w5 ⟨rfl, row5, hw5, hm5, hrt5⟩
  rw [Int.toNat_natCast, Nat.mod_eq_of_lt (show mo < 2 ^ 64 from Hmo.out)] at hw5
  have Hw5 := Lib.hid hw5
  have Hm5 := Lib.hid (Hm4.out.trans hm5 (fun i hi e => by have := Hgh.out; rcases e with e | e; omega; have := Hrow.out i e; omega))
  have Hr5 := Lib.hid (Hr4.out.mod hm5 Hs14.out (fun j hj e => by have := Hgh.out; rcases e with e | e; omega; have := Hrow.out j e; omega))
  have Hwh5 := Lib.hid (Hwh4.out.mod hm5 (fun e => by have := Hgh.out; rcases e with e | e; omega; have := Hrow.out h e; omega) (fun _ e _ => by cases e))
  have Hs15 : Hid (w1.heap.size ≤ w5.heap.size) := Lib.hid (Nat.le_trans Hs14.out hm5.size)
  clear hw5 hm5 hrt5 Hw4 Hm4 Hr4 Hwh4 Hs14 Hrow
  go_wp2_with fail
  refine (bytes_any g row5 _ _ _ Hw5.out (by omega)).mono ?_
  rintro e w6 ⟨v, bs, rfl, hnew, hpk⟩
  obtain ⟨A6, c6, r6, rfl, _, hA6, _, _, hs6⟩ := hnew.form
  have Hm6 := Lib.hid (Hm5.out.trans hnew.2.1 (fun _ _ h => h)); have Hr6 := Lib.hid (Hr5.out.mod hnew.2.1 Hs15.out (fun _ _ h => h)); have Hwh6 := Lib.hid (Hwh5.out.mod hnew.2.1 (fun h => h) (fun _ _ h => h))
  have hbl : bs.length ≤ 1000 := by have := packed_len hpk; omega
  have Hpk := Lib.hid hpk; have Hs6 := Lib.hid hs6; have HA6 := Lib.hid hA6
  have Hs16 : Hid (w1.heap.size ≤ w6.heap.size) := Lib.hid (Nat.le_trans Hs15.out hnew.2.1.size)
  clear hnew hpk hs6 hA6 Hm5 Hr5 Hw5 Hwh5 Hs15
  go_wp2_with fail
  refine (newReader_any r6 A6 bs.length c6 bs _ Hs6.out HA6.out (by omega) Hpk.out.1).mono ?_
  rintro e w7 ⟨gr, rr, rfl, hgr, hrr, hm7, hrd⟩
  have Hm7 := Lib.hid (Hm6.out.trans hm7 (fun _ _ h => h)); have Hr7 := Lib.hid (Hr6.out.mod hm7 Hs16.out (fun _ _ h => h)); have Hwh7 := Lib.hid (Hwh6.out.mod hm7 (fun h => h) (fun _ _ h => h))
  have Hdeb7 := Lib.hid (Hdeb.out.mod Hm7.out (fun h => h))
  have Hhl : Hid (h < w6.heap.size) := Lib.hid Hwh6.out.lt
  have hgr0 : gr ≠ 0 := by have := Hhl.out; omega
  obtain ⟨rr', hrr1, hrr2, hrd'⟩ := hrd.real hgr0 Hdeb7.out.1
  have Hgr : Hid (h < gr ∧ w.heap.size ≤ gr ∧ w1.heap.size ≤ gr ∧ rr' ≠ h) := Lib.hid ⟨by have := Hhl.out; omega, by have := Hm6.out.size; omega, by have := Hs16.out; omega, by have := Hhl.out; rcases hrr2 with rfl | rfl; omega; exact fun e => hh0 e.symm⟩
  have Hrd := Lib.hid hrd'; have Hrr1 := Lib.hid hrr1
  have Hs17 : Hid (w1.heap.size ≤ w7.heap.size) := Lib.hid (Nat.le_trans Hs16.out hm7.size)
  obtain ⟨free, hfree, hrem, hread⟩ := xpacked_read (xs := ts) (X := mo) (m := 64) (bs := bs) (by rw [← HL.out]; exact Hpk.out) Hmo.out Hf.out
  rw [← Hn.out] at hread
  have Hread := Lib.hid hread
  clear hgr hrr hm7 hrd hrd' hrr1 hrr2 hread hrem Hm6 Hr6 Hs6 HA6 Hwh6 Hs16
  go_wp2_with fail
  refine (xdec_any gr rr' (val bs) (8 * bs.length) n (n : Int) _ (by omega) Hrd.out (by omega) Hrr1.out Hdeb7.out hgr0).mono ?_
  intro e w8 hd
  obtain ⟨v, rfl, hown, hro, hm8⟩ := hd.some_ Hread.out
  obtain ⟨A8, c8, rfl, _, _⟩ := own_formU hown
  have Hm8 := Lib.hid (Hm7.out.trans hm8 (fun i hi e => by have := Hgr.out; omega))
  have Hr8 := Lib.hid (Hr7.out.mod hm8 Hs17.out (fun j hj e => by have := Hgr.out; omega))
  have Hwh8 := Lib.hid (Hwh7.out.mod hm8 (fun e => by have := Hgr.out; omega) (fun _ e _ => by cases e))
  have Hown8 := Lib.hid hown; have Hro8 := Lib.hid hro
  have Hs78 : Hid (w7.heap.size ≤ w8.heap.size) := Lib.hid hm8.size
  have Hgr7 : Hid (gr < w7.heap.size ∧ h < w7.heap.size) := Lib.hid ⟨Hrd.out.lt, Hwh7.out.lt⟩
  clear hd hown hro hm8 Hm7 Hr7 Hrd Hread Hwh7 Hdeb7
  rw [← Hn.out]
  obtain ⟨m, hm⟩ : ∃ m, m = n + 1 := ⟨_, rfl⟩
  have hm1 : (n : Int) + 1 = (m : Int) := by omega
  have hbm : 8 * m ≤ 281474976710656 := by omega
  have hmx : m ≤ maxLen := by unfold maxLen; omega
  have Hmn := Lib.hid hm
  clear hm
  go_wp2_with (with_reducible refine wpList_mk rfl (.tmp 46) (.tmp 46) _ rfl eltU rfl rfl rfl rfl rfl (Nat.le_refl _) hbm hmx ?_; intro w9 HO HB)
  have Hm9 := Lib.hid (Mod.of_below HB.out)
  obtain ⟨q, hq⟩ : ∃ q, q = w8.heap.size := ⟨_, rfl⟩
  rw [← hq] at HO Hm9 ⊢
  have HQ := Lib.hid hq
  have hS0 : SameTo w9 w9 q m mo 0 := ⟨Nat.zero_le _, by rw [part_zero]; have := HO.out; simpa [cellsU] using this, Mod.refl _ _⟩
  have HS0 := Lib.hid hS0
  clear hq hm1 hbm hmx HB hS0 HO
  go_loopg [50] m (fun l s50 wr => ∃ i, i + l = m ∧ s50 = .int .i64 (i : Int) ∧ SameTo w9 wr q m mo i)
  case atStart => exact ⟨0, by omega, rfl, HS0.out⟩
  case round =>
    obtain ⟨i, hil, rfl, hS⟩ := hrel
    have HS := Lib.hid hS; have Hil := Lib.hid hil
    clear hil hS HS0
    by_cases hin : i < m
    · obtain ⟨_, hown, hm⟩ := HS.out
      obtain ⟨⟨u0, hu0⟩, hfz, hset⟩ := own_setU (b := mo) hown (part_len (Nat.le_of_lt hin)).symm hin
      rw [part_set hin] at hset
      have N1 : Hid (SameTo w9 (wr.setCell ⟨q, i, none⟩ (.int .u64 (mo : Int))) q m mo (i + 1)) := Lib.hid ⟨hin, hset, hm.setCell (p := ⟨q, i, none⟩) (fun _ => rfl) _⟩
      have hi0 : (0 : Int) ≤ (i : Int) := by omega
      have hi1 : (i : Int) < (m : Int) := by omega
      have hi61 : i ≤ 61 := by have := Hmn.out; omega
      clear hown hm hset
      go_wp2_with fail
      go_roundg (gk - 1)
      case measure => have := Hil.out; omega
      case rel => exact ⟨i + 1, by have := Hil.out; omega, by go_num, N1.out⟩
    · obtain ⟨him, hown, hm⟩ := HS.out
      obtain rfl : i = m := by omega
      rw [part_all] at hown
      have hrds := hown.rds (by simp)
      have HmS := Lib.hid hm; have HownS := Lib.hid hown; have HrdsS := Lib.hid hrds
      have Hwh10 := Lib.hid ((Hwh8.out.mod Hm9.out (fun e => by have := HQ.out; have := Hgr7.out; have := Hs78.out; omega) (fun _ e _ => by cases e)).mod hm (fun e => by have := HQ.out; have := Hgr7.out; have := Hs78.out; omega) (fun _ e _ => by cases e))
      have Hmw := Lib.hid ((Hm8.out.trans Hm9.out (fun i hi e => by have := HQ.out; have := Hm8.out.size; omega)).trans hm (fun i hi e => by have := HQ.out; have := Hm8.out.size; omega))
      have Hown10 : Hid (Own w7.heap.size wr 28 (.slice A8 ts.length c8) (cellsU ts)) := Lib.hid (hm.owns (Hm9.out.owns Hown8.out (fun k hk e => by have := (Hown8.out.block k hk).2; have := HQ.out; omega)) (fun k hk e => by have := (Hown8.out.block k hk).2; have := HQ.out; omega))
      have Hr10 := Lib.hid (((Hr8.out.mod Hm9.out (by have := Hs17.out; have := Hs78.out; omega) (fun j hj e => by have := HQ.out; have := Hs17.out; have := Hs78.out; omega)).mod hm (by have := Hs17.out; have := Hs78.out; have := Hm9.out.size; omega) (fun j hj e => by have := HQ.out; have := Hs17.out; have := Hs78.out; omega)))
      have Hro10 := Lib.hid ((Hro8.out.mod Hm9.out (fun e => by have := HQ.out; have := Hgr7.out; have := Hs78.out; omega) (fun _ e => by have := HQ.out; have := Hrr1.out; have := Hs78.out; omega)).mod hm (fun e => by have := HQ.out; have := Hgr7.out; have := Hs78.out; omega) (fun _ e => by have := HQ.out; have := Hrr1.out; have := Hs78.out; omega))
      have Hdeb10 := Lib.hid (Hdeb.out.mod Hmw.out (fun h => h))
      have hrl : Hid (∀ x ∈ List.replicate i mo, x < 2 ^ 64) := Lib.hid (fun x hx => by rw [List.eq_of_mem_replicate hx]; exact Hmo.out)
      have Hs10 : Hid (w1.heap.size ≤ wr.heap.size ∧ w7.heap.size ≤ wr.heap.size) := Lib.hid ⟨by have := Hs17.out; have := Hs78.out; have := Hm9.out.size; have := hm.size; omega, by have := Hs78.out; have := Hm9.out.size; have := hm.size; omega⟩
      clear hown hm hrds HS Hwh8 Hm8 Hown8 Hr8 Hro8 Hm9 him
      go_wp2_with fail
      refine (xenc_any wr.heap.size h none 0 0 i i (some ⟨q, 0, none⟩) (List.replicate i mo) _ HrdsS.out hrl.out (Nat.le_refl _) (fun _ ad e hq => by
        injection e with e
        subst e
        rcases hq with hq | hq
        · have := HQ.out; have := Hgr7.out; have := Hs78.out; have hq' : q = h := hq; omega
        · cases hq) hh0 (fun e => by cases e) Hwh10.out Hdeb10.out (by have := Hmn.out; omega)).mono ?_
      rintro e w11 ⟨rfl, row11, hw11, hm11, hrt11⟩
      have hln : flen (encVals (List.replicate i mo)) = 64 + n := by rw [Hmn.out]; exact encVals_same mo n
      rw [Nat.zero_add, hln] at hw11
      have Hw11 := Lib.hid hw11
      have Hmw11 := Lib.hid (Hmw.out.trans hm11 (fun j hj e => by have := Hgh.out; rcases e with e | e; omega; cases e))
      have Hown11 : Hid (Own w7.heap.size w11 28 (.slice A8 ts.length c8) (cellsU ts)) := Lib.hid (hm11.owns Hown10.out (fun k hk e => by have := (Hown10.out.block k hk).1; have := Hgr7.out; rcases e with e | e; omega; cases e))
      have Hr11 := Lib.hid (Hr10.out.mod hm11 Hs10.out.1 (fun j hj e => by have := Hgh.out; rcases e with e | e; omega; cases e))
      have Hro11 := Lib.hid (Hro10.out.mod hm11 (fun e => by have := Hgr.out; rcases e with e | e; omega; cases e) (fun _ e => by have := Hgr.out; rcases e with e | e; omega; cases e))
      have Hs11 : Hid (w1.heap.size ≤ w11.heap.size) := Lib.hid (Nat.le_trans Hs10.out.1 hm11.size)
      have Hrow11 : Hid (∀ k, row11 = some k → gr < k) := Lib.hid (by
        rcases hrt11 with rfl | ⟨r, rfl, hr⟩
        · exact fun _ h => by cases h
        · intro k hk
          injection hk with hk
          have := Hgr7.out; have := Hs10.out.2
          omega)
      clear hw11 hm11 hrt11 hln Hwh10 Hmw Hown10 Hr10 Hro10 Hdeb10
      have hrx : Rds w11 w11.heap.size A8 n (cellsU ts) := by
        have h := Hown11.out.rds rfl
        rwa [← Hn.out] at h
      have Hrx := Lib.hid hrx
      clear hrx
      go_wp2_with fail
      refine (same_words A8 A1 n c8 c1 _ _ ts _ Hrx.out Hr11.out (by omega)).mono ?_
      rintro e w12 ⟨rfl, hm12⟩
      have Hm12 := Lib.hid (Hmw11.out.trans hm12 (fun _ _ h => h)); have Hro12 := Lib.hid (Hro11.out.mod hm12 (fun h => h) (fun _ h => h)); have Hw12 := Lib.hid (Hw11.out.mod hm12 (fun h => h) (fun _ _ h => h))
      clear hm12 Hmw11 Hro11 Hw11 Hrx Hr11 Hown11
      go_wp2_with fail
      refine (get_o gr rr' 64 64 _ _ rfl (by decide) Hro12.out).mono ?_
      rintro e w13 ⟨rfl, hro13, hm13⟩
      have Hm13 := Lib.hid (Hm12.out.trans hm13 (fun i hi e => by have := Hgr.out; omega))
      have Hw13 := Lib.hid (Hw12.out.mod hm13 (fun e => by have := Hgr.out; omega) (fun k hk e => by have := Hrow11.out k hk; omega))
      have hgot : (getO 64 (some (mo * 2 ^ free, 64 + free))).1 = mo := by
        have e1 : getO 64 (some (mo * 2 ^ free, 64 + free)) = (mo * 2 ^ free / 2 ^ (64 + free - 64), some (mo * 2 ^ free % 2 ^ (64 + free - 64), 64 + free - 64)) := if_pos (by omega)
        rw [e1]
        show mo * 2 ^ free / 2 ^ (64 + free - 64) = mo
        rw [show 64 + free - 64 = free by omega, Nat.mul_div_cancel _ (Nat.two_pow_pos _)]
      rw [hgot]
      clear hgot hro13 hm13 Hm12 Hro12 Hw12
      go_wp2_with fail
      refine (len_ab h row11 _ (64 + n) _ Hw13.out (by omega)).mono ?_
      rintro e w14 ⟨rfl, hm14⟩
      have Hm14 := Lib.hid (Hm13.out.trans hm14 (fun _ _ h => h))
      clear hm14 Hm13 Hw13
      have hc64 : ((64 + n : Nat) : Int) = 64 + (n : Int) := by omega
      rw [hc64]
      clear hc64
      go_wp2_with fail
      refine (xawake_any _ (Hdeb.out.mod Hm14.out (fun h => h))).mono ?_
      rintro e w15 ⟨rfl, hm15⟩
      have Hm15 := Lib.hid (Hm14.out.trans hm15 (fun _ _ h => h))
      clear hm15
      go_wp2_with fail
      go_ret
      exact ⟨rfl, Hm15.out⟩
end Go.Proofs.YtdlkjfnifjlbhaaDoor

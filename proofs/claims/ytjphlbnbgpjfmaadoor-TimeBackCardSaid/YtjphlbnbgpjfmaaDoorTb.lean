/- TimeBack's walk. -/
import Derived.Test.YtjphlbnbgpjfmaaDoorTt
namespace Go.Proofs.YtjphlbnbgpjfmaaDoor
open Go.RowKit

set_option maxHeartbeats 4000000 in
set_option maxRecDepth 100000 in
theorem timeBack_walk (A : Option Addr) (n c : Nat) (zs : List Int) (raw : Bool) (more : Int) (w : World) (hs : SeesI .i64 w w.heap.size A n zs) (hz : ∀ x ∈ zs, FitI x) (hmo : Fit64 more) (hwid : Wid w) :
    Calls Tryd.prog 5 #[.slice A n c, .bool raw, .int .u64 more] w fun e w' => e = .returned (.bool true) ∧ Mod (fun _ => False) w w' := by
  obtain ⟨mo, rfl⟩ := Int.eq_ofNat_of_zero_le hmo.out.1
  have hmo64 : Lt64 mo := by have := hmo.out.2; unfold Lt64; omega
  have Hs := Lib.hid hs; have Hz := Lib.hid hz; have Hwid := Lib.hid hwid; have Hmo := Lib.hid hmo64
  clear hs hz hwid hmo hmo64
  go_enter Tryd.func5, Tryd.ntmps5
  go_wp2_with fail
  refine (times_any A n c zs raw _ Hs.out Hz.out).mono ?_
  rintro e w1 ⟨v, ts, rfl, hown, hl60, hf, hm1⟩
  obtain ⟨A1, c1, rfl, hr1⟩ := own_form hown
  have Hf := Lib.hid hf; have Hm1 := Lib.hid hm1; have Hr1 := Lib.hid hr1
  have Hwid1 := Lib.hid (Hwid.out.mod hm1 (fun h => h))
  clear hown hf hm1 hr1 Hs Hz
  go_wp2_with fail
  refine (written_any ts.length c1 A1 ts _ Hr1.out Hf.out Hwid1.out (by omega)).mono ?_
  rintro e w2 ⟨g, row, rfl, hw2, hg2, hrow2, hm2⟩
  have hlen := encRow_len ts
  obtain ⟨L, hL⟩ : ∃ L, L = flen (encRow ts) := ⟨_, rfl⟩
  have hLb : L ≤ 64 + 68 * ts.length := by rw [hL]; exact hlen
  rw [← hL] at hw2
  have Hw2 := Lib.hid hw2; have Hm2 := Lib.hid (Hm1.out.trans hm2 (fun _ _ h => h)); have Hr2 := Lib.hid (Hr1.out.new hm2); have HL := Lib.hid hL
  have Hg : Hid (w.heap.size ≤ g ∧ ∀ k, row = some k → w.heap.size ≤ k) := Lib.hid ⟨by have := Hm1.out.size; omega, fun k hk => by have := hrow2 k hk; have := Hm1.out.size; omega⟩
  have Hap : Hid (∀ j, j < w1.heap.size → ¬ (j = g ∨ row = some j)) := Lib.hid (fun j hj h => h.elim (fun e => by omega) (fun e => by have := hrow2 j e; omega))
  have Hs12 : Hid (w1.heap.size ≤ w2.heap.size) := Lib.hid hm2.size
  clear hw2 hg2 hrow2 hm2 hlen hL Hm1 Hr1
  go_wp2_with fail
  refine (len_ab g row _ L _ Hw2.out (by omega)).mono ?_
  rintro e w3 ⟨rfl, hm3⟩
  have Hw3 := Lib.hid (Hw2.out.mod hm3 (fun h => h) (fun _ _ h => h)); have Hm3 := Lib.hid (Hm2.out.trans hm3 (fun _ _ h => h)); have Hr3 := Lib.hid (Hr2.out.mod hm3 Hs12.out (fun _ _ h => h))
  have Hs13 : Hid (w1.heap.size ≤ w3.heap.size) := Lib.hid (Nat.le_trans Hs12.out hm3.size)
  clear hm3 Hw2 Hm2 Hr2 Hs12
  go_wp2_with fail
  refine (put_wr g row _ L 64 (mo : Int) 64 _ ⟨by decide, by decide⟩ ⟨by omega, by have := Hmo.out.out; omega⟩ (by decide) Hw3.out (by omega)).mono ?_
  rintro e w4 ⟨rfl, row4, hw4, hm4, hrt4⟩
  rw [Int.toNat_natCast, Nat.mod_eq_of_lt (show mo < 2 ^ 64 from Hmo.out)] at hw4
  have Hw4 := Lib.hid hw4
  have Hm4 := Lib.hid (Hm3.out.trans hm4 (fun i hi h => h.elim (fun e => by have := Hg.out.1; omega) (fun e => by have := Hg.out.2 i e; omega)))
  have Hr4 := Lib.hid (Hr3.out.mod hm4 Hs13.out Hap.out)
  have Hrow4 : Hid (∀ k, row4 = some k → w.heap.size ≤ k) := Lib.hid (hrt4.low Hg.out.2 Hm3.out.size)
  have Hs14 : Hid (w1.heap.size ≤ w4.heap.size) := Lib.hid (Nat.le_trans Hs13.out hm4.size)
  clear hw4 hm4 hrt4 Hw3 Hm3 Hr3 Hs13 Hap
  go_wp2_with fail
  refine (bytes_any g row4 _ _ _ Hw4.out (by omega)).mono ?_
  rintro e w5 ⟨v, bs, rfl, hnew, hpk⟩
  obtain ⟨A5, c5, r5, rfl, _, hA5, _, _, hs5⟩ := hnew.form
  have Hm5 := Lib.hid (Hm4.out.trans hnew.2.1 (fun _ _ h => h)); have Hr5 := Lib.hid (Hr4.out.mod hnew.2.1 Hs14.out (fun _ _ h => h))
  have hbl : bs.length ≤ 1000 := by have := packed_len hpk; omega
  have Hpk := Lib.hid hpk; have Hs5 := Lib.hid hs5; have HA5 := Lib.hid hA5
  have Hs15 : Hid (w1.heap.size ≤ w5.heap.size) := Lib.hid (Nat.le_trans Hs14.out hnew.2.1.size)
  clear hnew hpk hs5 hA5 Hm4 Hr4 Hw4 Hs14
  go_wp2_with fail
  refine (newReader_any r5 A5 bs.length c5 bs _ Hs5.out HA5.out (by omega) Hpk.out.1).mono ?_
  rintro e w6 ⟨gr, rr, rfl, hgr, hrr, hm6, hrd⟩
  have Hm6 := Lib.hid (Hm5.out.trans hm6 (fun _ _ h => h)); have Hr6 := Lib.hid (Hr5.out.mod hm6 Hs15.out (fun _ _ h => h))
  have Hwid6 := Lib.hid (Hwid.out.mod Hm6.out (fun h => h))
  have hgr0 : gr ≠ 0 := by have := Hm5.out.size; have := Hwid.out.1; omega
  have Hgr : Hid (w.heap.size ≤ gr ∧ w1.heap.size ≤ gr) := Lib.hid ⟨by have := Hm5.out.size; omega, by have := Hs15.out; omega⟩
  obtain ⟨rr', hrr1, _, hrd'⟩ := hrd.real hgr0 Hwid6.out.1
  have Hrd := Lib.hid hrd'; have Hrr1 := Lib.hid hrr1
  have Hs16 : Hid (w1.heap.size ≤ w6.heap.size) := Lib.hid (Nat.le_trans Hs15.out hm6.size)
  obtain ⟨free, hfree, hrem, hread⟩ := packed_read (xs := ts) (X := mo) (m := 64) (bs := bs) (by rw [← HL.out]; exact Hpk.out) Hmo.out Hf.out
  have Hread := Lib.hid hread
  clear hgr hrr hm6 hrd hrd' hrr1 hread hrem Hm5 Hr5 Hs5 HA5 Hs15
  go_wp2_with fail
  refine (decode_any gr rr' (val bs) (8 * bs.length) ts.length (ts.length : Int) _ (by omega) Hrd.out (by omega) Hrr1.out Hwid6.out hgr0).mono ?_
  intro e w7 hd
  obtain ⟨v, rfl, hown, hro, hm7⟩ := hd.some_ Hread.out
  obtain ⟨A7, c7, rfl, hr7⟩ := own_form hown
  have Hm7 := Lib.hid (Hm6.out.trans hm7 (fun i hi e => by have := Hgr.out; omega))
  have Hr7 := Lib.hid hr7; have Hro := Lib.hid hro
  have Hrt7 := Lib.hid (Hr6.out.mod hm7 Hs16.out (fun j hj e => by have := Hgr.out; omega))
  clear hd hown hro hm7 hr7 Hm6 Hr6 Hs16 Hrd
  go_wp2_with fail
  refine (same_any A7 A1 ts.length c7 c1 _ _ ts _ Hr7.out Hrt7.out (by omega)).mono ?_
  rintro e w8 ⟨rfl, hm8⟩
  have Hm8 := Lib.hid (Hm7.out.trans hm8 (fun _ _ h => h)); have Hro8 := Lib.hid (Hro.out.mod hm8 (fun h => h) (fun _ h => h))
  clear hm8 Hm7 Hro Hr7 Hrt7
  go_wp2_with fail
  refine (get_o gr rr' 64 64 _ _ rfl (by decide) Hro8.out).mono ?_
  rintro e w9 ⟨rfl, hro9, hm9⟩
  have Hm9 := Lib.hid (Hm8.out.trans hm9 (fun i hi e => by have := Hgr.out; omega))
  have hgot : (getO 64 (some (mo * 2 ^ free, 64 + free))).1 = mo := by
    have e1 : getO 64 (some (mo * 2 ^ free, 64 + free)) = (mo * 2 ^ free / 2 ^ (64 + free - 64), some (mo * 2 ^ free % 2 ^ (64 + free - 64), 64 + free - 64)) := if_pos (by omega)
    rw [e1]
    show mo * 2 ^ free / 2 ^ (64 + free - 64) = mo
    rw [show 64 + free - 64 = free by omega, Nat.mul_div_cancel _ (Nat.two_pow_pos _)]
  rw [hgot]
  clear hgot hro9 hm9 Hm8 Hro8
  have hLi : (L : Int) ≤ 64 + 68 * (ts.length : Int) := by omega
  go_wp2_with fail
  refine (awake_any _ (Hwid.out.mod Hm9.out (fun h => h))).mono ?_
  rintro e w10 ⟨rfl, hm10⟩
  have Hm10 := Lib.hid (Hm9.out.trans hm10 (fun _ _ h => h))
  clear hm10
  go_wp2_with fail
  go_ret
  exact ⟨rfl, Hm10.out⟩
end Go.Proofs.YtjphlbnbgpjfmaaDoor

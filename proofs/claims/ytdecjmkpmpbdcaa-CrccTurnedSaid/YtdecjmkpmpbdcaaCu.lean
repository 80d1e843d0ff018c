import Derived.Test.YtdecjmkpmpbdcaaCl
import Derived.Test.YtdecjmkpmpbdcaaTm
namespace Go.Proofs.Ytdecjmkpmpbdcaa
open Go.RowKit

theorem own_some {B : Nat} {w : World} {v : Value} {bs : List Nat} {nb : Nat} (h : Own B w 5 v (cells8 bs)) (hn : nb = bs.length) (h0 : 0 < nb) :
    ∃ g cap, v = .slice (some ⟨g, 0, none⟩) nb cap ∧ B ≤ g ∧ g < w.heap.size ∧ nb ≤ cap ∧ cap ≤ maxLen := by
  rcases h.2 with ⟨rfl, h1⟩ | ⟨g, cap, cur, rfl, hb, hg, hnc, hcm, _⟩
  · rw [cells8_length] at h1; omega
  · rw [cells8_length] at hnc ⊢
    subst hn
    exact ⟨g, cap, rfl, hb, (Array.getElem?_eq_some_iff.1 hg).1, hnc, hcm⟩

theorem own_at {B g nb cap k : Nat} {w : World} {bs : List Nat} (h : Own B w 5 (.slice (some ⟨g, 0, none⟩) nb cap) (cells8 bs)) (hn : nb = bs.length) (hk : k < nb) :
    ∃ x, bs[k]? = some x ∧ w.cell? ⟨g, k, none⟩ = some (.int .u8 (x : Int)) := by
  have h' : w.ownsRow B 5 1 (.slice (some ⟨g, 0, none⟩) nb cap) nb (cells8 bs) := by
    have := h; unfold Own at this; rwa [cells8_length, ← hn] at this
  refine ⟨bs[k]'(by omega), List.getElem?_eq_getElem (by omega), ?_⟩
  rw [h'.cellAt k (by omega), cells8_get, List.getElem?_eq_getElem (by omega)]
  rfl

/-- y as far as it has been turned. -/
def TurnTo (W2 wr : World) (gy cy n : Nat) (ys : List Nat) : Prop := Own W2.heap.size wr 5 (.slice (some ⟨gy, 0, none⟩) n cy) (cells8 ys) ∧ Below W2.heap.size W2 wr

set_option maxHeartbeats 4000000 in
set_option maxRecDepth 100000 in
theorem cturned_walk (A : Option Addr) (n c : Nat) (bs : List Nat) (at_ turn : Int) (w : World) (hs : Rds w w.heap.size A n (cells8 bs)) (hlt : lt256 bs) (hnc : n ≤ c) (hc : c ≤ maxLen) (hand : bits .and .i64 at_ 65535 = at_ % 65536) :
    Calls Try.prog 6 #[.slice A n c, .int .i64 at_, .int .i64 turn] w fun e w' => e = .returned (.bool true) ∧ Below w.heap.size w w' := by
  have Hs := Lib.hid hs; have Hlt := Lib.hid hlt
  have hlen : bs.length = n := by have := hs.1; rwa [cells8_length] at this
  have Hlen := Lib.hid hlen
  clear hs hlt hlen
  have hnm : n ≤ maxLen := Nat.le_trans hnc hc
  have Hn := Lib.hid hnm
  unfold maxLen at hc
  clear hnm
  by_cases hbad : 300 < n ∨ n = 0
  · rcases hbad with h300 | rfl
    all_goals
      go_enter Try.func6, Try.ntmps6
      go_wp2_with fail
      refine (awake_any _).mono ?_
      rintro e w3 ⟨rfl, hb3⟩
      have H3 := Lib.hid hb3
      clear hb3
      go_wp2
      go_ret
      exact ⟨rfl, H3.out⟩
  · have h300 : n ≤ 300 := by omega
    have h0 : 0 < n := by omega
    have hz := zero26
    have hb0 : ((n : Int) == 0) = false := by rw [beq_eq_false_iff_ne]; omega
    have hb3 : decide ((300 : Int) < (n : Int)) = false := by rw [decide_eq_false_iff_not]; omega
    clear hbad
    go_enter Try.func6, Try.ntmps6
    go_wp2_with fail
    refine (table_any _).mono ?_
    rintro e w1 ⟨rfl, hb1⟩
    have Hb1 := Lib.hid hb1
    clear hb1
    go_upto_region 4 with (with_reducible refine wpList_store_new rfl 26 (.tmp 7) (.tmp 23) rfl rfl rfl (size26 ent) ((tabOf_size _).trans (tabOf_size _).symm) (tabOf_one ent) ?_)
    have HT : Hid (Tbd ent w w1.heap.size (w1.alloc (.cells (tabOf ent) 26))) := Lib.hid ⟨Blk.new _ _ _, Hb1.out.alloc Hb1.out.size _⟩
    generalize w1.alloc (.cells (tabOf ent) 26) = W at *
    generalize w1.heap.size = g at *
    clear Hb1 hz
    have h65 : 0 ≤ at_ % 65536 := Int.emod_nonneg _ (by decide)
    have h66 : at_ % 65536 < 65536 := Int.emod_lt_of_pos _ (by decide)
    obtain ⟨k, hk, hkl⟩ : ∃ k : Nat, (at_ % 65536).tmod (8 * (n : Int)) = (k : Int) ∧ k < 8 * n := by
      rw [Int.tmod_eq_emod_of_nonneg h65]
      have h2 := Int.emod_nonneg (at_ % 65536) (show 8 * (n : Int) ≠ 0 by omega)
      have h3 := Int.emod_lt_of_pos (at_ % 65536) (show (0 : Int) < 8 * (n : Int) by omega)
      exact ⟨((at_ % 65536) % (8 * (n : Int))).toNat, by omega, by omega⟩
    have hn0 : (0 : Int) < (n : Int) := by omega
    have hn3 : (n : Int) ≤ 300 := by omega
    go_upto_region 5 with fail
    have Hl0 : Hid (Own W.heap.size (W.alloc (.cells #[] 5)) 5 (.slice (some ⟨W.heap.size, 0, none⟩) 0 0) []) := Lib.hid (Own.lit W 5 #[] (by simp))
    have hR0 : Room (List.length ([] : List Value)) n := Room.mk _ _ (by simp; omega)
    have Hs0 : Hid (Rds W W.heap.size A n (cells8 bs)) := Lib.hid (Hs.out.below HT.out.2).fit
    clear hk hand h65 h66
    go_upto_region 6 with (at_builtin; refine wpList_app rfl (.tmp 30) (.tmp 31) _ rfl elt8 rfl Hl0.out rfl (Hs0.out.alloc (Nat.le_refl _) _) (cells8_one _) hR0.1 hR0.2 (le_alloc _ _) ?_; intro vx wx OX BX HH; clear HH; obtain ⟨gx, cx, rfl, hgx, hgx2, hcx, hcx2⟩ := own_some (bs := bs) (by have := OX.out; rwa [List.nil_append] at this) Hlen.out.symm h0)
    have OX1 : Hid (Own W.heap.size wx 5 (.slice (some ⟨gx, 0, none⟩) n cx) (cells8 bs)) := Lib.hid (by have := OX.out; rwa [List.nil_append] at this)
    have HTx : Hid (Tbd ent w g wx) := Lib.hid (HT.out.below (((Below.refl _ _).alloc (Nat.le_refl _) _).trans BX.out))
    have Hsx : Hid (Rds wx W.heap.size A n (cells8 bs)) := Lib.hid ((Hs0.out.alloc (Nat.le_refl _) _).below BX.out)
    obtain ⟨p, hp, hpn, hp2⟩ : ∃ p : Nat, (k : Int) / 8 = (p : Int) ∧ p < n ∧ p = k / 8 := ⟨k / 8, by omega, by omega, rfl⟩
    obtain ⟨r, hr, hr8⟩ : ∃ r : Nat, bits .and .i64 (k : Int) 7 = (r : Int) ∧ r < 8 := ⟨k % 8, by rw [i64_and7]; omega, by omega⟩
    have hpi : (p : Int) < (n : Int) := by omega
    have hp0 : (0 : Int) ≤ (p : Int) := by omega
    obtain ⟨_, hfx, _⟩ := own_set (b := 0) (k := p) OX1.out Hlen.out.symm hpn
    obtain ⟨x, hx, hcxx⟩ := own_at OX1.out Hlen.out.symm hpn
    obtain ⟨m, hm, hm2, hm0, hm8⟩ : ∃ m : Nat, (2 : Int) ^ r % 256 = (m : Int) ∧ m = 2 ^ r ∧ 0 < m ∧ m < 256 := by
      have h1 : 0 < (2 : Nat) ^ r := Nat.two_pow_pos r
      have h2 : (2 : Nat) ^ r ≤ 2 ^ 7 := Nat.pow_le_pow_right (by omega) (by omega)
      have h3 : (2 : Int) ^ r = ((2 ^ r : Nat) : Int) := by simp
      refine ⟨2 ^ r, ?_, rfl, h1, by omega⟩
      rw [h3]
      generalize (2 : Nat) ^ r = y at *
      omega
    have hx8 : x < 256 := Hlt.out x (List.mem_of_getElem? hx)
    obtain ⟨v, hv, hv2⟩ : ∃ v : Nat, bits .xor .u8 (x : Int) (m : Int) = (v : Int) ∧ v = x ^^^ m := ⟨_, u8_xor_nat x m hx8 hm8, rfl⟩
    have hgg : g ≠ gx := fun e => by have := HT.out.1.lt; omega
    have hgw : w.heap.size ≤ gx := Nat.le_trans HT.out.2.size hgx
    have OX2 : Hid (Own W.heap.size (wx.setCell ⟨gx, p, none⟩ (.int .u8 (v : Int))) 5 (.slice (some ⟨gx, 0, none⟩) n cx) (cells8 (tl bs (eOne p m)))) := Lib.hid (by
      have := (own_set (b := v) OX1.out Hlen.out.symm hpn).2.2
      rwa [hv2, tl_one hx, ← hv2] at this)
    have HT2 : Hid (Tbd ent w g (wx.setCell ⟨gx, p, none⟩ (.int .u8 (v : Int)))) := Lib.hid ⟨HTx.out.1.far (by exact hgg) _, HTx.out.2.setCell (by exact hgw) _⟩
    have Hs2 : Hid (Rds (wx.setCell ⟨gx, p, none⟩ (.int .u8 (v : Int))) (wx.setCell ⟨gx, p, none⟩ (.int .u8 (v : Int))).heap.size A n (cells8 bs)) := Lib.hid (Hsx.out.setCell (by exact hgx) _).fit
    clear hx hp2 OX BX Hl0 hR0 Hs0 HT hm2 hv2 OX1 HTx Hsx hgg hgw
    go_upto_region 7 with fail
    generalize wx.setCell ⟨gx, p, none⟩ (.int .u8 (v : Int)) = W2 at *
    have RX2 : Hid (Rds W2 W2.heap.size (some ⟨gx, 0, none⟩) n (cells8 (tl bs (eOne p m)))) := Lib.hid (by
      have := OX2.out
      unfold Own at this
      rw [cells8_length, tl_length, Hlen.out] at this
      exact Rds.of_own this)
    have Hl0 : Hid (Own W2.heap.size (W2.alloc (.cells #[] 5)) 5 (.slice (some ⟨W2.heap.size, 0, none⟩) 0 0) []) := Lib.hid (Own.lit W2 5 #[] (by simp))
    have hR0 : Room (List.length ([] : List Value)) n := Room.mk _ _ (by simp; omega)
    clear hr hm hv hcxx hfx OX2
    go_wp2_with (at_builtin; refine wpList_app rfl (.tmp 47) (.tmp 48) _ rfl elt8 rfl Hl0.out rfl (Hs2.out.alloc (Nat.le_refl _) _) (cells8_one _) hR0.1 hR0.2 (le_alloc _ _) ?_; intro vy wy OY BY HH; clear HH; obtain ⟨gy, cy, rfl, hgy, hgy2, hcy, hcy2⟩ := own_some (bs := bs) (by have := OY.out; rwa [List.nil_append] at this) Hlen.out.symm h0)
    obtain ⟨cs, hcs⟩ : ∃ cs : Nat → Nat, cs = fun i => (turn / 2 ^ (8 * i) % 256).toNat := ⟨_, rfl⟩
    have Hcs := Lib.hid hcs
    clear hcs
    have P0 : Hid (TurnTo W2 wy gy cy n (tl bs (eTo p cs 0))) := Lib.hid ⟨by
      have := OY.out
      rw [List.nil_append] at this
      rwa [tl_none (e := eTo p cs 0) (fun j _ => if_neg (by omega))], ((Below.refl _ _).alloc (Nat.le_refl _) _).trans BY.out⟩
    clear OY BY Hl0 hR0
    go_loopw [11, 12] (fun s11 s12 wr => ∃ i : Nat, i ≤ 4 ∧ p + i ≤ n ∧ s11 = .bool (tb cs i) ∧ s12 = .int .i64 (i : Int) ∧ TurnTo W2 wr gy cy n (tl bs (eTo p cs i))) (fun _ s12 _ => 4 - (intOf s12).toNat)
    case atStart => exact ⟨0, by omega, by omega, rfl, rfl, P0.out⟩
    case round =>
      obtain ⟨i, hi4, hpi4, rfl, rfl, hP⟩ := hrel
      have HP := Lib.hid hP
      clear hP P0
      obtain ⟨t, ht⟩ : ∃ t, tb cs i = t := ⟨_, rfl⟩
      rw [ht]
      have Ht := Lib.hid ht
      clear ht
      by_cases hgo : i < 4 ∧ p + i < n
      · obtain ⟨hi, hpi2⟩ := hgo
        obtain ⟨y, hy, hcell⟩ := own_at HP.out.1 (by rw [tl_length]; exact Hlen.out.symm) hpi2
        obtain ⟨_, hfz, _⟩ := own_set (b := 0) (k := p + i) HP.out.1 (by rw [tl_length]; exact Hlen.out.symm) hpi2
        have hpi3 : (p : Int) + (i : Int) < (n : Int) := by omega
        have hpi5 : (0 : Int) ≤ (p : Int) + (i : Int) := by omega
        have hi5 : (i : Int) < 4 := by omega
        obtain ⟨q, hq, hqc, hql⟩ : ∃ q : Nat, turn / 2 ^ (8 * i) % 256 = (q : Int) ∧ q = cs i ∧ q < 256 := by
          have h1 := Int.emod_nonneg (turn / 2 ^ (8 * i)) (show (256 : Int) ≠ 0 by decide)
          have h2 := Int.emod_lt_of_pos (turn / 2 ^ (8 * i)) (show (0 : Int) < 256 by decide)
          exact ⟨(turn / 2 ^ (8 * i) % 256).toNat, by omega, by rw [Hcs.out], by omega⟩
        have hbx : bs[p + i]? = some y := by
          obtain ⟨x', hx'⟩ : ∃ x', bs[p + i]? = some x' := ⟨_, List.getElem?_eq_getElem (by have := Hlen.out; omega)⟩
          have := tl_get (eTo p cs i) hx'
          rw [eTo_at, Nat.xor_zero, hy] at this
          rw [hx', Option.some.inj this]
        have hy8 : y < 256 := Hlt.out y (List.mem_of_getElem? hbx)
        obtain ⟨v2, hv2, hv3⟩ : ∃ v2 : Nat, bits .xor .u8 (y : Int) (q : Int) = (v2 : Int) ∧ v2 = y ^^^ q := ⟨_, u8_xor_nat y q hy8 hql, rfl⟩
        have HP2 : Hid (TurnTo W2 (wr.setCell ⟨gy, p + i, none⟩ (.int .u8 (v2 : Int))) gy cy n (tl bs (eTo p cs (i + 1)))) := Lib.hid ⟨by
          have := (own_set (b := v2) HP.out.1 (by rw [tl_length]; exact Hlen.out.symm) hpi2).2.2
          rwa [hv3, hqc, tl_to hbx, ← hqc, ← hv3] at this, HP.out.2.setCell (by exact hgy) _⟩
        have Hq := Lib.hid hqc
        clear hqc hbx hy hv3 HP
        by_cases hq0 : q = 0
        · have hb : ((q : Int) != 0) = false := by rw [hq0]; rfl
          have htb : Hid (tb cs (i + 1) = t) := Lib.hid (by
            show (tb cs i || decide (cs i ≠ 0)) = t
            rw [Ht.out, ← Hq.out, hq0]
            cases t <;> rfl)
          have Hq0 := Lib.hid hq0
          clear hq0
          cases t
          all_goals
            go_wp2
            go_roundw
            case rel => exact ⟨i + 1, by omega, by omega, by rw [htb.out], by go_num, HP2.out⟩
            case measure => simp [intOf]; omega
        · have hb : ((q : Int) != 0) = true := by rw [bne_iff_ne]; omega
          have htb : Hid (tb cs (i + 1) = true) := Lib.hid (by
            show (tb cs i || decide (cs i ≠ 0)) = true
            rw [← Hq.out, decide_eq_true hq0, Bool.or_true])
          have Hq0 := Lib.hid hq0
          clear hq0
          cases t
          all_goals
            go_wp2
            go_roundw
            case rel => exact ⟨i + 1, by omega, by omega, by rw [htb.out], by go_num, HP2.out⟩
            case measure => simp [intOf]; omega
      · have hend : ¬ (i : Int) < 4 ∨ ¬ (p : Int) + (i : Int) < (n : Int) := by omega
        have RX := Lib.hid (RX2.out.below HP.out.2).fit
        have RB := Lib.hid (Hs2.out.below HP.out.2).fit
        have RY : Hid (Rds wr wr.heap.size (some ⟨gy, 0, none⟩) n (cells8 (tl bs (eTo p cs i)))) := Lib.hid (by
          have := HP.out.1
          unfold Own at this
          rw [cells8_length, tl_length, Hlen.out] at this
          exact Rds.of_own this)
        have HTr := Lib.hid (HT2.out.below HP.out.2)
        have HC : Hid (Tbd ent wr g wr) := Lib.hid ⟨HTr.out.1, Below.refl _ _⟩
        have hcs8 : ∀ j, cs j < 256 := fun j => by
          have h1 := Int.emod_nonneg (turn / 2 ^ (8 * j)) (show (256 : Int) ≠ 0 by decide)
          have h2 := Int.emod_lt_of_pos (turn / 2 ^ (8 * j)) (show (0 : Int) < 256 by decide)
          rw [Hcs.out]
          show (turn / 2 ^ (8 * j) % 256).toNat < 256
          omega
        have LX := Lib.hid (tl_lt Hlt.out (eOne_lt (p := p) hm8))
        have LY := Lib.hid (tl_lt Hlt.out (eTo_lt (p := p) hcs8 i))
        have hnx := one_turned Hlt.out (by rw [Hlen.out]; exact hpn) hm8 hm0
        have hny := to_turned (p := p) Hlt.out hcs8 hi4 (by rw [Hlen.out]; exact hpi4)
        obtain ⟨sx, hsx⟩ : ∃ sx, sx = sumN ent (tl bs (eOne p m)) := ⟨_, rfl⟩
        obtain ⟨sy, hsy⟩ : ∃ sy, sy = sumN ent (tl bs (eTo p cs i)) := ⟨_, rfl⟩
        obtain ⟨sb, hsb⟩ : ∃ sb, sb = sumN ent bs := ⟨_, rfl⟩
        rw [← hsx, ← hsb] at hnx
        rw [← hsy, ← hsb, Ht.out] at hny
        have Ssx : Hid ((sumN ent (tl bs (eOne p m)) : Int) = (sx : Int)) := Lib.hid (by rw [hsx])
        have Ssy : Hid ((sumN ent (tl bs (eTo p cs i)) : Int) = (sy : Int)) := Lib.hid (by rw [hsy])
        have Ssb : Hid ((sumN ent bs : Int) = (sb : Int)) := Lib.hid (by rw [hsb])
        have hne : ((sx : Int) != (sb : Int)) = true := by rw [bne_iff_ne]; omega
        have heq : ((sy : Int) == (sb : Int)) = !t := by
          cases t
          · have := hny.2 rfl
            rw [this]
            simp
          · have h2 : ¬ sy = sb := fun h => by have := hny.1 h; cases this
            rw [show (!true) = false from rfl, beq_eq_false_iff_ne]
            omega
        obtain ⟨L, hL⟩ : ∃ L, L = (tabOf ent).toList := ⟨_, rfl⟩
        have HL := Lib.hid hL
        have hu := Try.underlying26
        have hin := size26L HL
        have Hent := Lib.hid tab_ent
        clear hL hsx hsy hsb hnx hny hcs8 HP RX2 Hs2 HT2 Hs
        cases t
        all_goals
          go_wp2_with fail
        all_goals
          refine wp_region_class (Tbd ent wr g) (by kernel_rfl) (by kernel_rfl) HC.out.drew ?_
          refine quiet_load_mid (by rfl) _ _ rfl _ _ rfl (fun w h => Tbd.range h HL) hu rfl hin ?_
          simp only [Act.put, List.setIfInBounds_toArray, List.set_cons_zero, List.set_cons_succ]
          iterate 1 quiet_step (exact fun _ => rfl)
          refine wpQuiet_step (fun K hK => ?_)
          go_simp
          refine ⟨.int .u32 (sx : Int), fun w2 h2 => (sum_at HL Hent _ _ _ _ (tl bs (eOne p m)) (sx : Int) _ (RX.out.below h2.2) LX.out Hn.out Ssx.out).mono ?_, hK _ ?_⟩
          · rintro e w3 ⟨rfl, hb⟩
            exact ⟨rfl, h2.below hb⟩
          clear hK K
          refine quiet_load_mid (by rfl) _ _ rfl _ _ rfl (fun w h => Tbd.range h HL) hu rfl hin ?_
          simp only [Act.put, List.setIfInBounds_toArray, List.set_cons_zero, List.set_cons_succ]
          iterate 1 quiet_step (exact fun _ => rfl)
          refine wpQuiet_step (fun K hK => ?_)
          go_simp
          refine ⟨.int .u32 (sb : Int), fun w2 h2 => (sum_at HL Hent _ _ _ _ (bs) (sb : Int) _ (RB.out.below h2.2) Hlt.out Hn.out Ssb.out).mono ?_, hK _ ?_⟩
          · rintro e w3 ⟨rfl, hb⟩
            exact ⟨rfl, h2.below hb⟩
          clear hK K
          iterate 2 quiet_step (exact fun _ => rfl)
          refine quiet_load_mid (by rfl) _ _ rfl _ _ rfl (fun w h => Tbd.range h HL) hu rfl hin ?_
          simp only [Act.put, List.setIfInBounds_toArray, List.set_cons_zero, List.set_cons_succ]
          iterate 1 quiet_step (exact fun _ => rfl)
          refine wpQuiet_step (fun K hK => ?_)
          go_simp
          refine ⟨.int .u32 (sy : Int), fun w2 h2 => (sum_at HL Hent _ _ _ _ (tl bs (eTo p cs i)) (sy : Int) _ (RY.out.below h2.2) LY.out Hn.out Ssy.out).mono ?_, hK _ ?_⟩
          · rintro e w3 ⟨rfl, hb⟩
            exact ⟨rfl, h2.below hb⟩
          clear hK K
          refine quiet_load_mid (by rfl) _ _ rfl _ _ rfl (fun w h => Tbd.range h HL) hu rfl hin ?_
          simp only [Act.put, List.setIfInBounds_toArray, List.set_cons_zero, List.set_cons_succ]
          iterate 1 quiet_step (exact fun _ => rfl)
          refine wpQuiet_step (fun K hK => ?_)
          go_simp
          refine ⟨.int .u32 (sb : Int), fun w2 h2 => (sum_at HL Hent _ _ _ _ (bs) (sb : Int) _ (RB.out.below h2.2) Hlt.out Hn.out Ssb.out).mono ?_, hK _ ?_⟩
          · rintro e w3 ⟨rfl, hb⟩
            exact ⟨rfl, h2.below hb⟩
          clear hK K
          iterate 6 quiet_step (exact fun _ => rfl)
          refine wpQuiet_step (fun K hK => ?_)
          go_simp
          refine ⟨.bool true, fun w2 h2 => (awake_any _).mono ?_, hK _ ?_⟩
          · rintro e w3 ⟨rfl, hb⟩
            exact ⟨rfl, h2.below hb⟩
          clear hK K
          iterate 2 quiet_step (exact fun _ => rfl)
          refine wpQuiet_nil ?_
          intro w4 h4
          have H4 := Lib.hid h4.2
          clear h4
          go_wp2
          go_ret
          exact ⟨rfl, HTr.out.2.trans (H4.out.mono HTr.out.2.size)⟩
end Go.Proofs.Ytdecjmkpmpbdcaa

import Derived.Test.YtcbljeiceahimaaTwo
import Derived.Test.YtcbljeiceahimaaSli
import Derived.Test.YtcbljeiceahimaaBackm
import Derived.Test.YtcbljeiceahimaaAnd
import Derived.Deep.CutBlock
import Derived.StillTailTactics
namespace Go.Proofs.Ytcbljeiceahimaa
open Go.RowKit

def kOf (ns : List Int) (i : Nat) : Nat := (ns.getD i 0 % 64).toNat + 1
def vOf (vs : List Int) (i : Nat) : Nat := (vs.getD i 0).toNat
theorem kOf_le (ns : List Int) (i : Nat) : kOf ns i ≤ 64 := by
  unfold kOf
  have := Int.emod_lt_of_pos (ns.getD i 0) (show (0 : Int) < 64 by decide)
  omega
theorem kOf_at {ns : List Int} {i : Nat} {x : Int} (h : ns[i]? = some x) : kOf ns i = (x % 64).toNat + 1 := by
  unfold kOf; rw [List.getD_eq_getElem?_getD, h]; rfl
theorem vOf_at {vs : List Int} {i : Nat} {x : Int} (h : vs[i]? = some x) : vOf vs i = x.toNat := by
  unfold vOf; rw [List.getD_eq_getElem?_getD, h]; rfl

/-- Behind c puts. -/
def Put1 (w wr : World) (g : Nat) (vs ns : List Int) (c : Nat) : Prop := ∃ row, Wr wr g row (NN (kOf ns) (vOf vs) c) (LL (kOf ns) c) ∧ Mod (fun _ => False) w wr ∧ w.heap.size ≤ g ∧ ∀ k, row = some k → w.heap.size ≤ k

/-- Behind i gets. -/
def Got (w wr : World) (gr rr : Nat) (k : Nat → Nat) (V T i : Nat) : Prop := Rdr wr gr rr (V % 2 ^ (T - LL k i)) (T - LL k i) true ∧ Mod (fun _ => False) w wr

theorem got_step {w w5 : World} {gr rr V T i km : Nat} {k : Nat → Nat} (h : Rdr w5 gr rr (V % 2 ^ (T - LL k i) % 2 ^ (T - LL k i - (km + 1))) (T - LL k i - (km + 1)) true) (hm : Mod (fun _ => False) w w5)
    (hs : T - LL k i - (km + 1) = T - LL k (i + 1)) (hr : km + 1 ≤ T - LL k i) : Got w w5 gr rr k V T (i + 1) := by
  rw [rest_bits _ _ _ hr, hs] at h
  exact ⟨h, hm⟩
theorem mask_u64 (v k : Nat) (h1 : v < 18446744073709551616) (h2 : k < 64) :
    bits BinOp.and IntKind.u64 (v : Int) (IntKind.u64.wrap (IntKind.u64.wrap (2 ^ k) - 1)) = ((v % 2 ^ k : Nat) : Int) := by
  have hp : (2 : Nat) ^ k ≤ 2 ^ 63 := Nat.pow_le_pow_right (by omega) (by omega)
  have h0 : 0 < (2 : Nat) ^ k := Nat.two_pow_pos k
  have e : (IntKind.u64.wrap (IntKind.u64.wrap (2 ^ k) - 1)) = ((2 ^ k - 1 : Nat) : Int) := by
    have : ((2 : Int) ^ k) = ((2 ^ k : Nat) : Int) := by simp
    rw [this, IntKind.wrap_u64, IntKind.wrap_u64]
    omega
  rw [e, u64_and_nat _ _ h1 (by omega), Nat.and_two_pow_sub_one_eq_mod]

set_option maxHeartbeats 4000000 in
set_option maxRecDepth 100000 in
theorem back_walk (Av An : Option Addr) (lv ln cv cn : Nat) (vs ns : List Int) (w : World) (hv : SeesI .u64 w w.heap.size Av lv vs) (hn : SeesI .i64 w w.heap.size An ln ns) (hvf : ∀ x ∈ vs, Fit64 x) :
    Calls Try.prog 6 #[.slice Av lv cv, .slice An ln cn] w fun e w' => e = .returned (.bool true) ∧ Mod (fun _ => False) w w' := by
  have Hv := Lib.hid hv; have Hn := Lib.hid hn; have Hvf := Lib.hid hvf
  clear hv hn hvf
  go_enter Try.func6, Try.ntmps6
  go_wp2_with fail
  refine (newWriter_wr _).mono ?_
  rintro e w1 ⟨g, rfl, hg1, hg2, hw1, hm1⟩
  have P0 : Hid (Put1 w w1 g vs ns 0) := Lib.hid ⟨none, hw1, hm1, hg1, fun k h => by cases h⟩
  clear hg1 hg2 hw1 hm1
  go_upto_block 0 with fail
  go_cut [6, 7] (fun s6 s7 wc => ∃ c : Nat, c ≤ lv ∧ c ≤ ln ∧ c ≤ 40 ∧ ¬ (c < lv ∧ c < ln ∧ c < 40) ∧ s6 = .int .i64 (LL (kOf ns) c : Int) ∧ Put1 w wc g vs ns c)
  case first =>
    go_wp2_with fail
    go_loopw [6, 7] (fun s6 s7 wr => ∃ c : Nat, c ≤ lv ∧ c ≤ ln ∧ c ≤ 40 ∧ s7 = .int .i64 (c : Int) ∧ s6 = .int .i64 (LL (kOf ns) c : Int) ∧ Put1 w wr g vs ns c) (fun _ s7 _ => 40 - (intOf s7).toNat)
    case atStart => exact ⟨0, Nat.zero_le _, Nat.zero_le _, Nat.zero_le _, rfl, rfl, P0.out⟩
    case round =>
      obtain ⟨c, hc1, hc2, hc3, rfl, rfl, hP⟩ := hrel
      have hP' := Lib.hid hP
      clear hP P0
      have hll := LL_le (kOf ns) (kOf_le ns) c
      obtain ⟨l, hl⟩ : ∃ l, l = LL (kOf ns) c := ⟨_, rfl⟩
      rw [← hl]
      rw [← hl] at hll
      have Hl := Lib.hid hl
      clear hl
      by_cases h1 : c < lv
      · by_cases h2 : c < ln
        · by_cases h3 : c < 40
          · obtain ⟨row, hwr, hmw, hgg, hrow⟩ := hP'.out
            obtain ⟨adv, x, rfl, hx, hcx⟩ := Hv.out.at_ h1 (Nat.le_refl _) hmw (fun _ _ h => h)
            obtain ⟨adn, y, rfl, hy, hcy⟩ := Hn.out.at_ h2 (Nat.le_refl _) hmw (fun _ _ h => h)
            obtain ⟨km, hkm, hand, hkm2⟩ : ∃ km : Nat, Hid (kOf ns c = km + 1) ∧ bits .and .i64 y 63 = (km : Int) ∧ km < 64 := by
              have := Int.emod_lt_of_pos y (show (0 : Int) < 64 by decide)
              have := Int.emod_nonneg y (show (64 : Int) ≠ 0 by decide)
              exact ⟨(y % 64).toNat, Lib.hid (kOf_at hy), by rw [i64_and63]; omega, by omega⟩
            have hw0 : IntKind.i64.wrap ((km : Int) + 1) = (km : Int) + 1 := IntWalk.i64_in _ (by omega)
            have hi0 : (0 : Int) ≤ (c : Int) := by omega
            have hi1 : (c : Int) < (lv : Int) := by omega
            have hi2 : (c : Int) < (ln : Int) := by omega
            have Hwr := Lib.hid hwr; have Hmw := Lib.hid hmw; have Hrow := Lib.hid hrow; have Hx := Lib.hid hx; have Hy := Lib.hid hy
            clear hwr hmw hrow hx hy
            go_upto_region 8 with fail
            go_still_tail 11, (by kernel_rfl)
            change wpList _ _ _ _ _ wr.drew
            have Hwr1 : Hid (Wr wr.drew g row _ _) := Lib.hid (Hwr.out.mod ((Mod.refl (fun _ => False) wr).drew) (fun h => h) (fun _ _ h => h))
            have hcy1 : wr.drew.cell? (adn.add c) = some (.int .i64 y) := hcy
            have Hmw1 := Lib.hid (Hmw.out.drew)
            clear hcx hcy Hwr Hmw
            generalize wr.drew = wd at *
            go_wp2_with fail
            refine (put_wr g row _ _ (km + 1) x ((km : Int) + 1) _ ⟨by omega, by omega⟩ (Hvf.out x (List.mem_of_getElem? Hx.out)) (by omega) Hwr1.out (by have := LL_le (kOf ns) (kOf_le ns) c; omega)).mono ?_
            rintro e w2 ⟨rfl, row2, hwr, hm, hr⟩
            have hmw2 := Hmw1.out.put hm hgg Hrow.out
            obtain ⟨_, y', e1, hy', hcy⟩ := Hn.out.at_ h2 (Nat.le_refl _) hmw2 (fun _ _ h => h)
            injection e1 with e1
            subst e1
            obtain rfl : y = y' := by have := Hy.out.symm.trans hy'; simpa using this
            have P1 : Hid (Put1 w w2 g vs ns (c + 1)) := Lib.hid ⟨row2, by
              simp only [NN, LL]
              rw [vOf_at Hx.out, hkm.out]
              exact hwr, hmw2, hgg, hr.low Hrow.out Hmw1.out.size⟩
            have hl2 : Hid (l + (km + 1) = LL (kOf ns) (c + 1)) := Lib.hid (by simp only [LL]; rw [← Hl.out, hkm.out])
            clear hwr hm hr hmw2 hy' hcy1 Hwr1 Hmw1
            go_wp2
            go_roundw
            case rel => exact ⟨c + 1, by omega, by omega, by omega, by go_num, by rw [← hl2.out]; go_num, P1.out⟩
            case measure => simp [intOf]; omega
          · go_wp2_with fail
            go_meet
            case rel => exact ⟨c, hc1, hc2, hc3, fun h => h3 h.2.2, by rw [Hl.out], hP'.out⟩
        · go_wp2_with fail
          go_meet
          case rel => exact ⟨c, hc1, hc2, hc3, fun h => h2 h.2.1, by rw [Hl.out], hP'.out⟩
      · go_wp2_with fail
        go_meet
        case rel => exact ⟨c, hc1, hc2, hc3, fun h => h1 h.1, by rw [Hl.out], hP'.out⟩
  case rest =>
    obtain ⟨c, hc1, hc2, hc3, hcc, rfl, row, hwr, hmw, hgg, hrow⟩ := hcut
    have hll := LL_le (kOf ns) (kOf_le ns) c
    obtain ⟨l, hl⟩ : ∃ l, l = LL (kOf ns) c := ⟨_, rfl⟩
    rw [← hl]
    rw [← hl] at hll
    have Hl := Lib.hid hl
    have Hwr := Lib.hid hwr; have Hmw := Lib.hid hmw; have Hrow := Lib.hid hrow; have Hcc := Lib.hid hcc
    clear hl hwr hmw hrow hcc P0
    go_wp2_with fail
    refine (bytes_any g row _ _ _ Hwr.out (by rw [← Hl.out]; omega)).mono ?_
    rintro e w2 ⟨vb, bs, rfl, hnew, hpk⟩
    obtain ⟨Ab, cb, rb, rfl, _, hAb, hrb1, hrb2, hsb⟩ := hnew.form
    have Hpk := Lib.hid hpk; have Hsb := Lib.hid hsb; have HAb := Lib.hid hAb; have Hm2 := Lib.hid (Hmw.out.trans hnew.2.1 (fun _ _ h => h))
    have Hwr2 := Lib.hid (Hwr.out.mod hnew.2.1 (fun h => h) (fun _ _ h => h))
    have hbl : bs.length ≤ 1000 := by have := packed_len hpk; rw [← Hl.out] at this; omega
    clear hpk hsb hAb hrb1 hrb2 hnew Hwr Hmw
    go_wp2_with fail
    refine (newReader_any rb Ab bs.length cb bs _ Hsb.out HAb.out (by omega) Hpk.out.1).mono ?_
    rintro e w3 ⟨gr, rr, rfl, hgr, hrr, hm3, hrd⟩
    have Hm3 := Lib.hid (Hm2.out.trans hm3 (fun _ _ h => h))
    have Hwr3 := Lib.hid (Hwr2.out.mod hm3 (fun h => h) (fun _ _ h => h))
    have Hgr : Hid (gr ≠ g ∧ row ≠ some gr ∧ w.heap.size ≤ gr) := Lib.hid ⟨by have := Hwr2.out.lt; omega, fun e => by have := Hwr2.out.row_lt _ e; omega, by have := Hm2.out.size; omega⟩
    have Hrd := Lib.hid hrd
    clear hm3 hrd hgr hrr Hm2 Hwr2 Hsb HAb
    go_wp2_with fail
    refine (len_ab g row _ _ _ Hwr3.out (by rw [← Hl.out]; omega)).mono ?_
    rintro e w4 ⟨rfl, hm⟩
    rw [← Hl.out]
    have Hm4 := Lib.hid (Hm3.out.trans hm (fun _ _ h => h))
    have Hrd4 := Lib.hid (Hrd.out.mod hm (fun h => h) (fun _ h => h))
    obtain ⟨free, hfree, hlen, hval⟩ := Hpk.out.2
    rw [← Hl.out] at hlen
    have hb1 : ((l : Int) + 7) / 8 = (bs.length : Int) := by omega
    have G0 : Hid (Got w w4 gr rr (kOf ns) (val bs) (8 * bs.length) 0) := Lib.hid ⟨by
      have := Hrd4.out
      have hs := this.small
      simp only [LL, Nat.sub_zero]
      rwa [Nat.mod_eq_of_lt hs], Hm4.out⟩
    have Hlen := Lib.hid hlen; have Hval := Lib.hid hval
    clear hm Hm3 Hwr3 Hrd hlen hval Hm4 Hrd4
    go_upto_block 2 with fail
    go_cut [] (fun wc => Got w wc gr rr (kOf ns) (val bs) (8 * bs.length) c)
    case first =>
      go_wp2_with fail
      go_loopw [10] (fun s10 wr => ∃ i : Nat, i ≤ c ∧ s10 = .int .i64 (i : Int) ∧ Got w wr gr rr (kOf ns) (val bs) (8 * bs.length) i) (fun s10 _ => 40 - (intOf s10).toNat)
      case atStart => exact ⟨0, Nat.zero_le _, rfl, G0.out⟩
      case round =>
        obtain ⟨i, hic, rfl, hG⟩ := hrel
        have HG := Lib.hid hG
        clear hG G0 hb1
        by_cases hi : i < c
        · have h1 : i < lv := by omega
          have h2 : i < ln := by omega
          have h3 : i < 40 := by omega
          obtain ⟨adv, x, rfl, hx, hcx⟩ := Hv.out.at_ h1 (Nat.le_refl _) HG.out.2 (fun _ _ h => h)
          obtain ⟨adn, y, rfl, hy, hcy⟩ := Hn.out.at_ h2 (Nat.le_refl _) HG.out.2 (fun _ _ h => h)
          obtain ⟨x, rfl⟩ := Int.eq_ofNat_of_zero_le (Hvf.out x (List.mem_of_getElem? hx)).out.1
          have hx64 : Lt64 x := by have := (Hvf.out _ (List.mem_of_getElem? hx)).out.2; unfold Lt64; omega
          obtain ⟨km, hkm, hand, hkm2⟩ : ∃ km : Nat, Hid (kOf ns i = km + 1) ∧ bits .and .i64 y 63 = (km : Int) ∧ km < 64 := by
            have := Int.emod_lt_of_pos y (show (0 : Int) < 64 by decide)
            have := Int.emod_nonneg y (show (64 : Int) ≠ 0 by decide)
            exact ⟨(y % 64).toNat, Lib.hid (kOf_at hy), by rw [i64_and63]; omega, by omega⟩
          have Hx := Lib.hid hx; have Hy := Lib.hid hy
          clear hx hy
          have hans : Hid (val bs % 2 ^ (8 * bs.length - LL (kOf ns) i) / 2 ^ (8 * bs.length - LL (kOf ns) i - (km + 1)) = x % 2 ^ (km + 1)) := Lib.hid (by
            have h := back_get (kOf ns) (vOf vs) (free := free) hi
            rw [hkm.out, vOf_at Hx.out, Int.toNat_natCast, ← Hl.out, Hlen.out, ← Hval.out] at h
            exact h)
          have hrem : Hid (km + 1 ≤ 8 * bs.length - LL (kOf ns) i) := Lib.hid (by
            have h := LL_mono (kOf ns) (show i + 1 ≤ c from hi)
            simp only [LL] at h
            have := Hlen.out; have := Hl.out; have := hkm.out
            omega)
          have hrem2 : Hid (8 * bs.length - LL (kOf ns) i ≤ 8000000000) := Lib.hid (by omega)
          have hstep : Hid (8 * bs.length - LL (kOf ns) i - (km + 1) = 8 * bs.length - LL (kOf ns) (i + 1)) := Lib.hid (by simp only [LL]; rw [hkm.out]; omega)
          obtain ⟨u, hu⟩ : ∃ u, u = x % 2 ^ (km + 1) := ⟨_, rfl⟩
          rw [← hu] at hans
          have Hu := Lib.hid hu
          have hw12 : km < 63 → bits BinOp.and IntKind.u64 (x : Int) (IntKind.u64.wrap (IntKind.u64.wrap (2 ^ (km + 1)) - 1)) = (u : Int) := fun h => by rw [mask_u64 x (km + 1) hx64.out (by omega), Hu.out]
          have hw13 : ¬ km < 63 → x = u := fun h => by rw [Hu.out, show km + 1 = 64 by omega]; exact (Nat.mod_eq_of_lt hx64.out).symm
          clear hu hx64
          by_cases h64 : km < 63
          · have hw := hw12 h64
            clear hw12 hw13
            go_wp2_with fail
            refine (get_any gr rr _ _ (km + 1) true ((km : Int) + 1) _ ⟨by omega, by omega⟩ (by omega) HG.out.1 HG.out.1.small hrem.out hrem2.out).mono ?_
            rintro e w5 ⟨rfl, hrd5, hm5⟩
            rw [hans.out]
            have Hrd5 := Lib.hid hrd5; have Hm5 := Lib.hid (HG.out.2.trans hm5 (fun j hj e => by have := Hgr.out; omega))
            clear hrd5 hm5
            go_wp2_with fail
            refine (ok_any gr rr _ _ true _ Hrd5.out).mono ?_
            rintro e w6 ⟨rfl, rfl⟩
            go_wp2_with fail
            go_roundw
            case rel => exact ⟨i + 1, by omega, by go_num, got_step Hrd5.out Hm5.out hstep.out hrem.out⟩
            case measure => simp [intOf]; omega
          · obtain rfl := hw13 h64
            clear hw12 hw13
            go_wp2_with fail
            refine (get_any gr rr _ _ (km + 1) true ((km : Int) + 1) _ ⟨by omega, by omega⟩ (by omega) HG.out.1 HG.out.1.small hrem.out hrem2.out).mono ?_
            rintro e w5 ⟨rfl, hrd5, hm5⟩
            rw [hans.out]
            have Hrd5 := Lib.hid hrd5; have Hm5 := Lib.hid (HG.out.2.trans hm5 (fun j hj e => by have := Hgr.out; omega))
            clear hrd5 hm5
            go_wp2_with fail
            refine (ok_any gr rr _ _ true _ Hrd5.out).mono ?_
            rintro e w6 ⟨rfl, rfl⟩
            go_wp2_with fail
            go_roundw
            case rel => exact ⟨i + 1, by omega, by go_num, got_step Hrd5.out Hm5.out hstep.out hrem.out⟩
            case measure => simp [intOf]; omega
        · obtain rfl : i = c := by omega
          by_cases h1 : i < lv
          · by_cases h2 : i < ln
            · have h3 : ¬ i < 40 := fun h => Hcc.out ⟨h1, h2, h⟩
              go_wp2_with fail
              go_meet
              case rel => exact HG.out
            · go_wp2_with fail
              go_meet
              case rel => exact HG.out
          · go_wp2_with fail
            go_meet
            case rel => exact HG.out
    case rest =>
      have HG := Lib.hid hcut
      clear hcut G0
      have hrem : Hid (8 * bs.length - LL (kOf ns) c = free) := Lib.hid (by have := Hlen.out; have := Hl.out; omega)
      have hzero : Hid (val bs % 2 ^ (8 * bs.length - LL (kOf ns) c) = 0) := Lib.hid (by rw [hrem.out, Hval.out]; exact Nat.mul_mod_left _ _)
      have HR : Hid (Rdr wc gr rr 0 free true) := Lib.hid (by have := HG.out.1; rwa [hzero.out, hrem.out] at this)
      go_wp2_with fail
      refine (left_ab gr rr _ _ true _ HR.out (by omega)).mono ?_
      rintro e w7 ⟨rfl, hm7⟩
      have HR7 := Lib.hid (HR.out.mod hm7 (fun h => h) (fun _ h => h)); have Hm7 := Lib.hid (HG.out.2.trans hm7 (fun _ _ h => h))
      clear hm7
      have hleft : (8 : Int) * (bs.length : Int) - (l : Int) = (free : Int) := by have := Hlen.out; omega
      go_wp2_with fail
      refine (get_any gr rr 0 free free true (free : Int) _ ⟨by omega, by omega⟩ (by omega) HR7.out HR7.out.small (Nat.le_refl _) (by omega)).mono ?_
      rintro e w8 ⟨rfl, hrd8, hm8⟩
      rw [Nat.zero_div, Nat.sub_self] at *
      rw [Nat.zero_mod] at hrd8
      have HR8 := Lib.hid hrd8; have Hm8 := Lib.hid (Hm7.out.trans hm8 (fun j hj e => by have := Hgr.out; omega))
      clear hrd8 hm8 HR7 Hm7
      go_wp2_with fail
      refine (ok_any gr rr _ _ true _ HR8.out).mono ?_
      rintro e w9 ⟨rfl, rfl⟩
      go_wp2_with fail
      refine (get_many gr rr 0 0 1 true 1 _ ⟨by decide, by decide⟩ (by decide) HR8.out (by decide) (by decide)).mono ?_
      rintro e w10 ⟨rfl, hrd10, hm10⟩
      have HR10 := Lib.hid hrd10; have Hm10 := Lib.hid (Hm8.out.trans hm10 (fun j hj e => by have := Hgr.out; omega))
      clear hrd10 hm10
      go_wp2_with fail
      refine (ok_any gr rr _ _ false _ HR10.out).mono ?_
      rintro e w11 ⟨rfl, rfl⟩
      go_wp2_with fail
      refine (awake_any _).mono ?_
      rintro e w12 ⟨rfl, hm12⟩
      have Hm12 := Lib.hid (Hm10.out.trans hm12 (fun _ _ h => h))
      clear hm12
      go_wp2_with fail
      go_ret
      exact ⟨rfl, Hm12.out⟩
end Go.Proofs.Ytcbljeiceahimaa

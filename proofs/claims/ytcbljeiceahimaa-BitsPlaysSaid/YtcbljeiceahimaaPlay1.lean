import Derived.Test.YtcbljeiceahimaaRefb
import Derived.Test.YtcbljeiceahimaaPlay0
import Derived.Test.YtcbljeiceahimaaConv
import Derived.Test.YtcbljeiceahimaaSli
import Derived.Test.YtcbljeiceahimaaFit
import Derived.Deep.CutBlock
import Derived.Deep.RegionWith
namespace Go.Proofs.Ytcbljeiceahimaa
open Go.RowKit

theorem RWr.mod {w w1 : World} {S : Nat → Prop} {g : Nat} {row : Option Nat} {N len : Nat} (h : RWr w g row N len) (hm : Mod S w w1) (h1 : ¬ S g) (h2 : ∀ k, row = some k → ¬ S k) : RWr w1 g row N len := by
  obtain ⟨v, L, hblk, hown, hrow, rest⟩ := h
  exact ⟨v, L, hm.blk hblk h1, hm.owns hown (fun k hk => h2 k (by rw [← hrow]; exact hk)), hrow, rest⟩
theorem RWr.lt {w : World} {g : Nat} {row : Option Nat} {N len : Nat} (h : RWr w g row N len) : g < w.heap.size := by
  obtain ⟨v, L, hblk, _⟩ := h
  exact hblk.lt
theorem RWr.row_lt {w : World} {g : Nat} {row : Option Nat} {N len : Nat} (h : RWr w g row N len) : ∀ k, row = some k → k < w.heap.size := by
  obtain ⟨v, L, hblk, hown, hrow, _⟩ := h
  intro k hk
  exact (hown.lt k (by rw [hrow, hk])).2

/-- The writer and the document's own, of one number. -/
structure PS (w0 w : World) (a : Nat) (ra : Option Nat) (b : Nat) (rb : Option Nat) (N len : Nat) : Prop where
  wa : Wr w a ra N len
  wb : RWr w b rb N len
  apart : Apart a ra b rb
  mod : Mod (fun _ => False) w0 w
  ha : w0.heap.size ≤ a
  hb : w0.heap.size ≤ b
  hra : ∀ k, ra = some k → w0.heap.size ≤ k
  hrb : ∀ k, rb = some k → w0.heap.size ≤ k
section
variable {w0 w w' w'' : World} {a b N len N' len' : Nat} {ra rb ra' rb' : Option Nat}
theorem PS.new (h : PS w0 w a ra b rb N len) (hm : Mod (fun _ => False) w w') : PS w0 w' a ra b rb N len :=
  ⟨h.wa.mod hm (fun h => h) (fun _ _ h => h), h.wb.mod hm (fun h => h) (fun _ _ h => h), h.apart, h.mod.trans hm (fun _ _ h => h), h.ha, h.hb, h.hra, h.hrb⟩
/-- Behind the writer's Put the other's. -/
theorem PS.both (h : PS w0 w a ra b rb N len) (hwa : Wr w' a ra' N' len') (hm : Mod (fun i => i = a ∨ ra = some i) w w') (hr : RowTo w ra ra') (hwb : RWr w'' b rb' N' len') (hm2 : Mod (fun i => i = b ∨ rb = some i) w' w'') (hr2 : RowTo w' rb rb') :
    PS w0 w'' a ra' b rb' N' len' := by
  have hap : Apart a ra' b rb := by
    rcases hr with rfl | ⟨r, rfl, hr⟩
    · exact h.apart
    · refine ⟨h.apart.1, ?_, h.apart.2.2.1, ?_⟩
      · intro e; injection e with e; have := h.wb.lt; omega
      · intro k hk e; injection hk with hk; have := h.wb.row_lt k e; omega
  have hap2 : Apart a ra' b rb' := by
    rcases hr2 with rfl | ⟨r, rfl, hr⟩
    · exact hap
    · refine ⟨hap.1, hap.2.1, ?_, ?_⟩
      · intro e; injection e with e; have := hwa.lt; omega
      · intro k hk e; injection e with e; have := hwa.row_lt k hk; omega
  have hm1 : Mod (fun _ => False) w0 w' := h.mod.put hm h.ha h.hra
  exact ⟨hwa.mod hm2 (fun h => h.elim (fun e => hap.1 e) (fun e => hap.2.2.1 e)) (fun k hk h => h.elim (fun e => hap.2.1 (e ▸ hk)) (fun e => hap.2.2.2 k hk e)), hwb, hap2, hm1.put hm2 h.hb h.hrb, h.ha, h.hb,
    hr.low h.hra h.mod.size, hr2.low h.hrb hm1.size⟩
end

def Put2 (w0 w : World) (a b : Nat) (c : Nat) : Prop := ∃ N len ra rb, len ≤ 64 * c ∧ PS w0 w a ra b rb N len

set_option maxHeartbeats 16000000 in
set_option maxRecDepth 100000 in
theorem plays_walk (Av An Ar Ag : Option Addr) (lv ln lr lg cv cn cr cg : Nat) (vs ns gs : List Int) (rs : List Nat) (rowr : Nat) (w : World) (hv : SeesI .u64 w w.heap.size Av lv vs) (hn : SeesI .i64 w w.heap.size An ln ns)
    (hg : SeesI .i64 w w.heap.size Ag lg gs) (hr : Sees w rowr Ar lr (cells8 rs)) (hrl : lt256 rs) (hrA : Ar = none → cr = 0) (hvf : ∀ x ∈ vs, Fit64 x) (hnf : ∀ x ∈ ns, FitI x) (hgf : ∀ x ∈ gs, FitI x) (hr200 : ¬ 200 < lr) :
    Calls Try.prog 5 #[.slice Av lv cv, .slice An ln cn, .slice Ar lr cr, .slice Ag lg cg] w fun e w' => e = .returned (.bool true) ∧ Mod (fun _ => False) w w' := by
  have Hv := Lib.hid hv; have Hn := Lib.hid hn; have Hg := Lib.hid hg; have Hr := Lib.hid hr; have Hrl := Lib.hid hrl; have HrA := Lib.hid hrA; have Hvf := Lib.hid hvf; have Hnf := Lib.hid hnf; have Hgf := Lib.hid hgf
  clear hv hn hg hr hrl hrA hvf hnf hgf
  go_enter Try.func5, Try.ntmps5
  go_wp2_with fail
  refine (newWriter_wr _).mono ?_
  rintro e w1 ⟨a, rfl, hg1, hg2, hw1, hm1⟩
  have Hw1 := Lib.hid hw1; have Hm1 := Lib.hid hm1
  clear hw1 hm1
  go_upto_block 0 with fail
  have P0 : Hid (Put2 w (w1.alloc (.cells #[.slice none 0 0] 39)) a w1.heap.size 0) := Lib.hid ⟨0, 0, none, none, by omega, by
    have hm : Mod (fun _ => False) w1 (w1.alloc (.cells #[.slice none 0 0] 39)) := (Mod.refl _ _).alloc _
    exact ⟨Hw1.out.mod hm (fun h => h) (fun _ _ h => h), ⟨.slice none 0 0, [], Blk.new _ _ _, World.ownsRow_nil _ _ _ _, rfl, (fun _ h => by cases h), rfl, rfl⟩, ⟨by omega, by simp, by simp, by simp⟩,
      Hm1.out.trans hm (fun _ _ h => h), hg1, Hm1.out.size, by simp, by simp⟩⟩
  go_cut [] (fun wc => ∃ c : Nat, c ≤ 40 ∧ Put2 w wc a w1.heap.size c)
  case first =>
    go_wp2_with fail
    go_loopg [11] 40 (fun l s11 wr => ∃ c : Nat, c + l = 40 ∧ s11 = .int .i64 (c : Int) ∧ Put2 w wr a w1.heap.size c)
    case atStart => exact ⟨0, rfl, rfl, P0.out⟩
    case round =>
      obtain ⟨c, hcl, rfl, hP⟩ := hrel
      have HP := Lib.hid hP
      clear hP P0
      have hc40 : c ≤ 40 := by omega
      have Hcl := Lib.hid hcl
      clear hcl
      by_cases h1 : c < lv
      · by_cases h2 : c < ln
        · by_cases h3 : c < 40
          · obtain ⟨N, len, ra, rb, hl64, hps⟩ := HP.out
            obtain ⟨adv, x, rfl, hx, hcx⟩ := Hv.out.at_ h1 (Nat.le_refl _) hps.mod (fun _ _ h => h)
            obtain ⟨adn, y, rfl, hy, hcy⟩ := Hn.out.at_ h2 (Nat.le_refl _) hps.mod (fun _ _ h => h)
            obtain ⟨x, rfl⟩ := Int.eq_ofNat_of_zero_le (Hvf.out x (List.mem_of_getElem? hx)).out.1
            have hx64 : Lt64 x := by have := (Hvf.out _ (List.mem_of_getElem? hx)).out.2; unfold Lt64; omega
            have hyf := Hnf.out y (List.mem_of_getElem? hy)
            have Hps := Lib.hid hps; have Hx := Lib.hid hx
            clear hps hx hy HP
            obtain ⟨t, hand, ht4⟩ : ∃ t : Nat, bits .and .i64 (c : Int) 3 = (t : Int) ∧ t < 4 := and_nat _ 3 2 rfl (by omega)
            obtain ⟨km, hand7, hkm⟩ : ∃ km : Nat, bits .and .i64 y 127 = (km : Int) ∧ km < 128 := and_nat _ 127 7 rfl (by omega)
            go_upto_if 51 with fail
            go_cut [12] (fun s12 wc => ∃ k' : Int, FitI k' ∧ s12 = .int .i64 k' ∧ wr = wc)
            case first =>
              by_cases ht : t = 0
              · have ht0 : ¬ 0 < t := by omega
                go_wp2_with fail
                go_meet
                case rel => exact ⟨y, hyf, rfl, rfl⟩
              · have ht0 : 0 < t := by omega
                go_wp2_with fail
                go_meet
                case rel => exact ⟨(km : Int), ⟨by omega, by omega⟩, rfl, rfl⟩
            case rest =>
              obtain ⟨k', hk', rfl, rfl⟩ := hcut
              obtain ⟨k, hk, hk64⟩ : ∃ k : Nat, max 0 (min k' 64) = (k : Int) ∧ k ≤ 64 := ⟨(max 0 (min k' 64)).toNat, by omega, by omega⟩
              have Hk := Lib.hid hk
              clear hk hand hand7
              go_wp2_with fail
              refine (put_wr a ra N len k (x : Int) k' _ hk' ⟨by omega, hx64.out |> fun h => by omega⟩ Hk.out Hps.out.wa (by omega)).mono ?_
              rintro e w3 ⟨rfl, ra2, hwa, hm, hrow⟩
              have Hwb := Lib.hid (Hps.out.wb.mod hm (fun h => h.elim (fun e => Hps.out.apart.1 e.symm) (fun e => Hps.out.apart.2.1 e)) (fun k hk h => h.elim (fun e => Hps.out.apart.2.2.1 (e ▸ hk)) (fun e => Hps.out.apart.2.2.2 k e hk)))
              obtain ⟨_, x', e1, hx', hcx⟩ := Hv.out.at_ h1 (Nat.le_refl _) (Hps.out.mod.put hm Hps.out.ha Hps.out.hra) (fun _ _ h => h)
              injection e1 with e1
              subst e1
              obtain rfl : (x : Int) = x' := by have := Hx.out.symm.trans hx'; simpa using this
              have Hwa := Lib.hid hwa; have Hm := Lib.hid hm; have Hrow := Lib.hid hrow
              clear hwa hm hrow hx' 
              go_wp2_with fail
              refine (rput_any w1.heap.size rb N len k x k' _ Hk.out hx64 Hwb.out (by omega)).mono ?_
              rintro e w4 ⟨rfl, rb2, hwb, hm2, hrow2⟩
              rw [Nat.sub_zero, Nat.pow_zero, Nat.div_one] at hwb
              have P1 : Hid (Put2 w w4 a w1.heap.size (c + 1)) := Lib.hid ⟨_, _, ra2, rb2, by omega, Hps.out.both Hwa.out Hm.out Hrow.out (by rw [Int.toNat_natCast]; exact hwb) hm2 hrow2⟩
              clear hwb hm2 hrow2
              go_wp2_with fail
              go_roundg (gk - 1)
              case measure => have := Hcl.out; omega
              case rel => exact ⟨c + 1, by have := Hcl.out; omega, by go_num, P1.out⟩
          · go_wp2_with fail
            go_meet
            case rel => exact ⟨c, hc40, HP.out⟩
        · go_wp2_with fail
          go_meet
          case rel => exact ⟨c, hc40, HP.out⟩
      · go_wp2_with fail
        go_meet
        case rel => exact ⟨c, hc40, HP.out⟩
  case rest =>
    obtain ⟨c, hc40, N, len, ra, rb, hl64, hps⟩ := hcut
    have hlen : len ≤ 2560 := by omega
    have Hps := Lib.hid hps
    clear hps hl64 P0
    generalize w1.heap.size = b at *
    go_wp2_with fail
    refine (bytes_any a ra N len _ Hps.out.wa (by omega)).mono ?_
    rintro e w2 ⟨vb, bs, rfl, hnew, hpk⟩
    obtain ⟨Ab, cb, rowb, rfl, _, hAb, _, _, hsb⟩ := hnew.form
    have Hps2 := Lib.hid (Hps.out.new hnew.2.1)
    have Hpk := Lib.hid hpk; have Hsb := Lib.hid hsb; have HAb := Lib.hid hAb
    have hbl : bs.length ≤ 1000 := by have := packed_len hpk; omega
    clear hpk hsb hAb hnew Hps
    obtain ⟨Ax, cx, hx0⟩ : ∃ Ax cx, w2.cell? ⟨b, 0, none⟩ = some (.slice Ax len cx) := by
      obtain ⟨sv, L, hblk, hown, _, _, hL, _⟩ := Hps2.out.wb
      have hc0 := hblk.cell 0
      simp at hc0
      rcases hown.2 with ⟨h1, h2⟩ | ⟨g', cap, cur, h1, _⟩
      · exact ⟨none, 0, by rw [hc0, h1, ← hL, h2]⟩
      · exact ⟨_, cap, by rw [hc0, h1, hL]⟩
    have cLen : Hid (∀ W, Mod (fun _ => False) w2 W → Calls Try.prog 10 #[.pointer (some ⟨a, 0, none⟩)] W fun e W' => e = .returned (.int .i64 (len : Int)) ∧ Mod (fun _ => False) w2 W' ∧
        W'.cell? ⟨b, 0, none⟩ = some (.slice Ax len cx) ∧ (convert 28 9 (.slice Ab bs.length cb)).run Try.prog W' = .ok (.string (strOf bs)) W') := Lib.hid (fun W hW => by
      refine (len_ab a ra N len W (Hps2.out.wa.mod hW (fun h => h) (fun _ _ h => h)) (by omega)).mono ?_
      rintro e W' ⟨he, hm⟩
      have hm' := hW.trans hm (fun _ _ h => h)
      exact ⟨he, hm', (hm'.cell (a := ⟨b, 0, none⟩) Hps2.out.wb.lt (fun h => h)).trans hx0, conv_seen W' (Hsb.out.mod hm' (fun _ h => h)) Hpk.out.1 HAb.out⟩)
    have cBy : Hid (∀ W, Mod (fun _ => False) w2 W → Calls Try.prog 13 #[.pointer (some ⟨b, 0, none⟩)] W fun e W' => ∃ Ay cy, e = .returned (.slice Ay bs.length cy) ∧ Mod (fun _ => False) w2 W' ∧
        (convert 28 9 (.slice Ab bs.length cb)).run Try.prog W' = .ok (.string (strOf bs)) W' ∧ (convert 28 9 (.slice Ay bs.length cy)).run Try.prog W' = .ok (.string (strOf bs)) W') := Lib.hid (fun W hW => by
      refine (rbytes_any b rb N len W (Hps2.out.wb.mod hW (fun h => h) (fun _ _ h => h)) (by omega)).mono ?_
      rintro e W' ⟨vy, bs', rfl, hnew, hpk⟩
      obtain rfl := packed_one Hpk.out hpk
      obtain ⟨Ay, cy, ry, rfl, _, hAy, _, _, hsy⟩ := hnew.form
      have hm' := hW.trans hnew.2.1 (fun _ _ h => h)
      exact ⟨Ay, cy, rfl, hm', conv_seen W' (Hsb.out.mod hm' (fun _ h => h)) Hpk.out.1 HAb.out, conv_seen W' hsy hpk.1 hAy⟩)
    have hM0 : Hid (Mod (fun _ => False) w2 w2.drew) := Lib.hid (Mod.refl _ _).drew
    have hcv2 := conv_seen w2 Hsb.out Hpk.out.1 HAb.out
    go_upto_region 15 with fail
    go_cut [85] (fun s85 wc => s85 = .bool false ∧ Mod (fun _ => False) w2 wc)
    case first =>
      go_region_with (first
        | (go_at_call 10; refine (cLen.out _ ?_).mono ?_; (exact hM0.out); rintro e w3 ⟨rfl, hm, hx0, hcv3⟩; have Hm3 := Lib.hid hm; clear hm)
        | (go_at_call 13; refine (cBy.out _ ?_).mono ?_; (exact Hm3.out); rintro e w4 ⟨Ay, cy, rfl, hm, hcv4, hcy4⟩; have Hm4 := Lib.hid hm; clear hm))
      all_goals (go_wp2_with fail; go_meet; exact ⟨rfl, Hm4.out⟩)
    case rest =>
      obtain ⟨rfl, hm15⟩ := hcut
      rename_i wc0
      have Hm15 := Lib.hid hm15
      clear hm15 cLen cBy hM0 hcv2 hx0
      go_upto_block 2 with fail
      obtain ⟨wL, hwL⟩ : ∃ wL, wL = wc.alloc (.cells #[.slice Ar lr cr, .slice Ab bs.length cb] 28) := ⟨_, rfl⟩
      rw [← hwL]
      have hblkL : Hid (Blk wL wc.heap.size 28 #[.slice Ar lr cr, .slice Ab bs.length cb]) := Lib.hid (by rw [hwL]; exact Blk.new _ _ _)
      have hmL : Hid (Mod (fun _ => False) w2 wL) := Lib.hid (by rw [hwL]; exact Hm15.out.alloc _)
      have hMw : Hid (Mod (fun _ => False) w wL) := Lib.hid (Hps2.out.mod.trans hmL.out (fun _ _ h => h))
      have HsrL : Hid (Sees wL rowr Ar lr (cells8 rs)) := Lib.hid (Hr.out.mod hMw.out (fun _ h => h))
      have HsbL : Hid (Sees wL rowb Ab bs.length (cells8 bs)) := Lib.hid (Hsb.out.mod hmL.out (fun _ h => h))
      clear hwL Hm15 hmL
      generalize wc.heap.size = lit at *
      go_wp2_with fail
      go_loopg [90] 2 (fun l s90 wr => ∃ j : Nat, j + l = 2 ∧ s90 = .int .i64 (j : Int) ∧ Mod (fun _ => False) wL wr)
      case atStart => exact ⟨0, rfl, rfl, Mod.refl _ _⟩
      case round =>
        obtain ⟨j, hjl, rfl, hm⟩ := hrel
        have Hm := Lib.hid hm; have Hjl := Lib.hid hjl
        clear hm hjl
        by_cases hl0 : gk = 0
        · have hj : ¬ j < 2 := by have := Hjl.out; omega
          go_wp2_with fail
          refine (awake_any _).mono ?_
          rintro e wf ⟨rfl, hmf⟩
          have Hmf := Lib.hid hmf
          clear hmf
          go_wp2_with fail
          go_ret
          exact ⟨rfl, (hMw.out.trans Hm.out (fun _ _ h => h)).trans Hmf.out (fun _ _ h => h)⟩
        · have hj : j < 2 := by have := Hjl.out; omega
          have hj0 : (0 : Int) ≤ (j : Int) := by omega
          obtain ⟨A, n, c0, row, cs, hcell, hs, hA, hn, hlt⟩ : ∃ (A : Option Addr) (n c0 row : Nat) (cs : List Nat), wr.cell? ⟨lit, j, none⟩ = some (.slice A n c0) ∧ Hid (Sees wr row A n (cells8 cs)) ∧ Hid (A = none → c0 = 0) ∧ n ≤ 1000 ∧ Hid (lt256 cs) := by
            have hb := Hm.out.blk hblkL.out (fun h => h)
            have h01 : j = 0 ∨ j = 1 := by omega
            rcases h01 with rfl | rfl
            · exact ⟨Ar, lr, cr, rowr, rs, by rw [hb.cell]; rfl, HsrL.out.mod Hm.out (fun _ h => h), HrA.out, by omega, Hrl.out⟩
            · exact ⟨Ab, bs.length, cb, rowb, bs, by rw [hb.cell]; rfl, HsbL.out.mod Hm.out (fun _ h => h), HAb.out, hbl, Hpk.out.1⟩
          go_wp2_with fail
          refine (newReader_any row A n c0 cs _ hs.out hA.out (by omega) hlt.out).mono ?_
          rintro e w5 ⟨g, rg, rfl, hg, hrg, hm5, hrd⟩
          have Hm5 := Lib.hid hm5; have Hrd := Lib.hid hrd
          have Hgg : Hid (wr.heap.size ≤ g ∧ wr.heap.size ≤ rg) := Lib.hid ⟨hg, hrg⟩
          clear hm5 hrd hg hrg
          go_upto_block 4 with fail
          obtain ⟨rg', rh, hS⟩ := RS.start (c := c0) Hm.out Hm5.out Hgg.out.1 Hrd.out rfl hs.out hlt.out hn
          obtain ⟨w6, hw6⟩ : ∃ w6, w6 = w5.alloc (.cells #[.slice A n c0, .int .i64 0, .bool false] 45) := ⟨_, rfl⟩
          rw [← hw6] at hS ⊢
          have HS := Lib.hid hS
          clear hS hw6 Hrd Hm5 Hgg hcell
          generalize w5.heap.size = h at *
          clear hs hA hlt HsrL HsbL hblkL Hm
          obtain ⟨wo, rfl⟩ : ∃ wo : World, wo = wr := ⟨_, rfl⟩
          obtain ⟨go, rfl⟩ : ∃ go : Nat, go = gk := ⟨_, rfl⟩
          have hgo : 0 < go := by omega
          clear hl0
          have hj2 : (j : Int) + 1 ≤ 2 := by omega
          go_wp2_with fail
          go_loopg [18] 40 (fun l s18 wq => ∃ (i R rem : Nat) (ok : Bool), i + l = 40 ∧ s18 = .int .i64 (i : Int) ∧ RS wL wq g rg' h rh cs R rem ok)
          case atStart => exact ⟨0, _, _, _, rfl, rfl, HS.out⟩
          case round =>
            obtain ⟨i, R, rem, ok, hil, rfl, hS⟩ := hrel
            have HS2 := Lib.hid hS; have Hil := Lib.hid hil
            clear hS HS hil
            by_cases h1 : i < lg
            · by_cases h3 : i < 40
              · obtain ⟨adg, y, rfl, hy, hcy⟩ := Hg.out.at_ h1 (Nat.le_refl _) (hMw.out.trans HS2.out.mod (fun _ _ h => h)) (fun _ _ h => h)
                have hyf := Hgf.out y (List.mem_of_getElem? hy)
                obtain ⟨t, hand, ht8⟩ : ∃ t : Nat, bits .and .i64 (i : Int) 7 = (t : Int) ∧ t < 8 := and_nat _ 7 3 rfl (by omega)
                obtain ⟨km, hand6, hkm⟩ : ∃ km : Nat, bits .and .i64 y 63 = (km : Int) ∧ km < 64 := and_nat _ 63 6 rfl (by omega)
                clear hy
                go_upto_if 117 with fail
                go_cut [19] (fun s19 wc => ∃ k' : Int, FitI k' ∧ s19 = .int .i64 k' ∧ wr = wc)
                case first =>
                  by_cases ht : t = 0
                  · have ht0 : ¬ 0 < t := by omega
                    go_wp2_with fail
                    go_meet
                    case rel => exact ⟨y, hyf, rfl, rfl⟩
                  · have ht0 : 0 < t := by omega
                    go_wp2_with fail
                    go_meet
                    case rel => exact ⟨(km : Int), ⟨by omega, by omega⟩, rfl, rfl⟩
                case rest =>
                  obtain ⟨k', hk', rfl, rfl⟩ := hcut
                  obtain ⟨k, hk⟩ : ∃ k : Nat, max 0 (min k' 64) = (k : Int) := ⟨(max 0 (min k' 64)).toNat, by omega⟩
                  have Hk := Lib.hid hk
                  clear hk hand hand6 hcy
                  obtain ⟨an, ha⟩ : ∃ an, an = (GetAns R rem ok k).1 := ⟨_, rfl⟩
                  obtain ⟨R', hR'⟩ : ∃ R', R' = (GetAns R rem ok k).2.1 := ⟨_, rfl⟩
                  obtain ⟨rem', hrem'⟩ : ∃ rem', rem' = (GetAns R rem ok k).2.2.1 := ⟨_, rfl⟩
                  obtain ⟨ok', hok'⟩ : ∃ ok', ok' = (GetAns R rem ok k).2.2.2 := ⟨_, rfl⟩
                  have cG : Hid (∀ W, RS wL W g rg' h rh cs R rem ok → Calls Try.prog 15 #[.pointer (some ⟨g, 0, none⟩), .int .i64 k'] W fun e W' => e = .returned (.int .u64 (an : Int)) ∧ RMid wL W' g rg' h rh cs R rem ok R' rem' ok') := Lib.hid (fun W hW => by rw [ha, hR', hrem', hok']; exact hW.get k' k hk' Hk.out)
                  have cRG : Hid (∀ W, RMid wL W g rg' h rh cs R rem ok R' rem' ok' → Calls Try.prog 16 #[.pointer (some ⟨h, 0, none⟩), .int .i64 k'] W fun e W' => e = .returned (.int .u64 (an : Int)) ∧ RS wL W' g rg' h rh cs R' rem' ok' ∧ W'.cell? ⟨h, 2, none⟩ = some (.bool (!ok'))) := Lib.hid (fun W hW => by
                    rw [ha]
                    rw [hR', hrem', hok'] at hW ⊢
                    exact hW.get k' Hk.out)
                  have HS3 : Hid (RS wL wr.drew g rg' h rh cs R rem ok) := Lib.hid (HS2.out.new (Mod.refl _ _).drew)
                  have hbe : (ok' == !ok') = false := by cases ok' <;> rfl
                  clear ha hR' hrem' hok' HS2 Hk hk'
                  go_upto_region 29 with fail
                  go_cut [142] (fun s142 wd => s142 = .bool false ∧ RS wL wd g rg' h rh cs R' rem' ok')
                  case first =>
                    go_region_with (first
                      | (go_at_call 15; refine (cG.out _ ?_).mono ?_; (exact HS3.out); rintro e w11 ⟨rfl, hq⟩; have Hq1 := Lib.hid hq; clear hq)
                      | (go_at_call 16; refine (cRG.out _ ?_).mono ?_; (exact Hq1.out); rintro e w12 ⟨rfl, hq, hflag⟩; have Hq2 := Lib.hid hq; clear hq)
                      | (go_at_call 17; refine (RS.left (w0 := wL) (rg := rg') (h := h) (rh := rh) (bs := cs) (R := R') (rem := rem') (ok := ok') ?_).mono ?_; (exact Hq2.out); rintro e w13 ⟨rfl, hq, hflag⟩; have Hq3 := Lib.hid hq; clear hq)
                      | (go_at_call 18; refine (RS.rleft (w0 := wL) (g := g) (rg := rg') (rh := rh) (bs := cs) (R := R') (rem := rem') (ok := ok') ?_).mono ?_; (exact Hq3.out); rintro e w14 ⟨rfl, hq, hflag⟩; have Hq4 := Lib.hid hq; clear hq)
                      | (go_at_call 19; refine (RS.okc (w0 := wL) (rg := rg') (h := h) (rh := rh) (bs := cs) (R := R') (rem := rem') (ok := ok') ?_).mono ?_; (exact Hq4.out); rintro e w15 ⟨rfl, hq, hflag⟩; have Hq5 := Lib.hid hq; clear hq))
                    all_goals (go_wp2_with fail; go_meet; exact ⟨rfl, Hq5.out⟩)
                  case rest =>
                    obtain ⟨rfl, hS⟩ := hcut
                    have HS4 := Lib.hid hS
                    clear hS
                    go_wp2_with fail
                    go_roundg (gk - 1)
                    case measure => have := Hil.out; omega
                    case rel => exact ⟨i + 1, R', rem', ok', by have := Hil.out; omega, by go_num, HS4.out⟩
              · go_wp2_with fail
                go_roundg (go - 1)
                case measure => omega
                case rel => exact ⟨j + 1, by have := Hjl.out; omega, by go_num, HS2.out.mod⟩
            · go_wp2_with fail
              go_roundg (go - 1)
              case measure => omega
              case rel => exact ⟨j + 1, by have := Hjl.out; omega, by go_num, HS2.out.mod⟩
end Go.Proofs.Ytcbljeiceahimaa

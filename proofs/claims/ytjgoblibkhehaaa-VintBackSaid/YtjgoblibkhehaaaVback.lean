import Derived.Test.YtjgoblibkhehaaaVa
import Derived.Test.YtjgoblibkhehaaaSli
import Derived.Test.YtjgoblibkhehaaaFit
import Derived.Deep.RegionHeldLaw
import Derived.Deep.RegionWith
import Derived.StillTailTactics
import Derived.Deep.DeepCutAuto
namespace Go.Proofs.Ytjgoblibkhehaaa
open Go.RowKit

/-- Get behind Put: what it answers. -/
theorem get_back (A : Option Addr) (n c B : Nat) (u nb : Nat) (rest : List Nat) (w : World) (hnb : nb = (enc u).length) (hu : Lt64 u) (hs : Rds w B A n (cells8 (enc u ++ rest))) (hlt : lt256 rest) (hnc : n ≤ c) (hc : c ≤ maxLen) :
    Calls Try.prog 7 #[.slice A n c] w fun e w' => e = .returned (.tuple #[.int .u64 (u : Int), .int .i64 (nb : Int)]) ∧ w = w' := by
  subst hnb
  refine get_at A n c B (enc u ++ rest) _ _ w hs ?_ hnc hc ?_ ?_
  · intro b hb
    rw [List.mem_append] at hb
    rcases hb with hb | hb
    · exact enc_256 u b hb
    · exact hlt b hb
  · rw [dec_enc u hu.out]
  · rw [dec_enc u hu.out]

theorem not_leB {a b : Int} (h : b < a) : Value.bool (decide (a ≤ b)) = .bool false := by
  have : ¬ a ≤ b := by omega
  simp [this]
/-- Behind the second append: what Get is given. -/
theorem back_row {W : World} {B : Nat} {v : Value} {bs r : List Nat} (h : Own B W 5 v (cells8 bs ++ cells8 r)) : ∃ A L c, v = .slice A L c ∧ L ≤ c ∧ c ≤ maxLen ∧ Rds W W.heap.size A L (cells8 (bs ++ r)) := by
  obtain ⟨A, c, rfl, _, h1, h2, h3⟩ := h.form
  have e : cells8 bs ++ cells8 r = cells8 (bs ++ r) := by simp [cells8]
  rw [e] at h1 h3
  exact ⟨A, _, c, by rw [e], h1, h2, h3⟩
theorem lt256_take {bs : List Nat} (h : lt256 bs) (k : Nat) : lt256 (bs.take k) := fun b hb => h b (List.mem_of_mem_take hb)

set_option maxHeartbeats 4000000 in
set_option maxRecDepth 100000 in
theorem vback_walk (n m : Int) (u : Nat) (A : Option Addr) (l c : Nat) (raw : List Nat) (w : World) (hn : FitI n) (hm : FitI m) (hu : Lt64 u) (hs : Rds w w.heap.size A l (cells8 raw)) (hlt : lt256 raw) (hlc : l ≤ c) (hc : c ≤ maxLen) :
    Calls Try.prog 6 #[.int .i64 n, .int .i64 m, .int .u64 (u : Int), .slice A l c] w fun e w' => e = .returned (.bool true) ∧ Below w.heap.size w w' := by
  have Hs := Lib.hid hs; have Hlt := Lib.hid hlt
  clear hs hlt
  go_enter Try.func6, Try.ntmps6
  go_wp2_with fail
  refine (put_any none 0 0 0 [] u _ (Rds.nil _ _ _) (by omega) hu).mono ?_
  rintro e w1 ⟨v, rfl, hown, hb⟩
  obtain ⟨Ab, cb, rfl, _, hlcb, hcb, hrb⟩ := hown.form
  rw [cells8_length, List.nil_append] at hlcb hrb
  rw [cells8_length, List.nil_append]
  have Hb := Lib.hid hb; have Hrb := Lib.hid hrb
  obtain ⟨nb, hnb⟩ : ∃ nb, nb = (enc u).length := ⟨_, rfl⟩
  have hlen := enc_len10 hu.out
  have hpos := enc_pos u
  rw [← hnb] at hlcb hrb hlen hpos
  rw [← hnb]
  have Hnb := Lib.hid hnb
  clear hown hb hrb hnb
  go_upto_region 2 with fail
  go_cut [10, 11] (fun s10 s11 wc => s10 = .int .u64 (u : Int) ∧ s11 = .int .i64 (nb : Int) ∧ Below w.heap.size w wc)
  case first =>
    have Hr1 : Hid (Rds w1 w1.heap.size Ab nb (cells8 (enc u))) := Lib.hid (by have := Hrb.out; rwa [← Hnb.out] at this)
    have Hl0 : Hid (Own w1.heap.size (w1.alloc (.cells #[] 5)).drew 5 (.slice (some ⟨w1.heap.size, 0, none⟩) 0 0) []) := Lib.hid (Own.drew (Own.lit w1 5 #[] (by simp)))
    have hR1 : Room (List.length ([] : List Value)) nb := Room.mk _ _ (by simp; omega)
    have hle1 : w1.heap.size ≤ (w1.alloc (.cells #[] 5)).drew.heap.size := by simp
    have Hr2 : Hid (Rds (w1.alloc (.cells #[] 5)).drew w1.heap.size Ab nb (cells8 (enc u))) := Lib.hid (Hr1.out.alloc (Nat.le_refl _) _).drew
    have hR2 : ∀ k, k ≤ 50 → Room (List.length ([] ++ cells8 (enc u))) k := fun k hk => Room.mk _ _ (by rw [List.nil_append, cells8_length, ← Hnb.out]; omega)
    rcases Nat.lt_or_ge 50 l with h50 | h50
    · have h50c : (50 : Int) ≤ (c : Int) := by omega
      have h50l : (50 : Int) < (l : Int) := by omega
      have hR3 := hR2 50 (Nat.le_refl _)
      have Hraw : Hid (Rds w w.heap.size A 50 (cells8 (raw.take 50))) := Lib.hid (by have := Hs.out.take (k := 50) (by omega); rwa [show (cells8 raw).take 50 = cells8 (raw.take 50) by simp [cells8, List.map_take]] at this)
      clear hR2
      go_wp2_with fail
      go_region_held_law (fun _ => True) (trivial)
        (first
          | (refine step_app rfl (.tmp 17) (.tmp 18) 27 rfl elt8 rfl Hl0.out rfl Hr2.out (cells8_one _) hR1.1 hR1.2 hle1 ?_; intro v1 w2 H1 H2 HH; clear HH)
          | (refine step_app rfl (.tmp 19) (.tmp 24) 27 rfl elt8 rfl H1.out rfl (Hraw.out.below (((Hb.out.alloc Hb.out.size _).drew).trans (H2.out.mono Hb.out.size))) (cells8_one _) hR3.1 hR3.2 (Nat.le_trans hle1 H2.out.size) ?_; intro v2 w3 H3 H4 HH; clear HH; obtain ⟨A2, L2, c2, rfl, hc21, hc22, hr3⟩ := back_row (bs := enc u) (r := raw.take 50) H3.out; have Hr3 := Lib.hid hr3; clear hr3)
          | (go_at_call 7; refine (get_back A2 L2 c2 w3.heap.size u nb (raw.take 50) _ Hnb.out hu Hr3.out (lt256_take Hlt.out 50) hc21 hc22).mono ?_; rintro e w4 ⟨rfl, rfl⟩))
      all_goals
        go_wp2_with fail
        go_meet
        case rel => exact ⟨rfl, rfl, (((Hb.out.alloc Hb.out.size _).drew).trans (H2.out.mono Hb.out.size)).trans (H4.out.mono Hb.out.size)⟩
    · have h50c : (l : Int) ≤ (c : Int) := by omega
      have h50l : (l : Int) ≤ 50 := by omega
      have h0l : (0 : Int) ≤ (l : Int) := by omega
      have hR3 := hR2 l h50
      have Hraw := Hs
      clear hR2
      go_wp2_with fail
      go_region_held_law (fun _ => True) (trivial)
        (first
          | (refine step_app rfl (.tmp 17) (.tmp 18) 27 rfl elt8 rfl Hl0.out rfl Hr2.out (cells8_one _) hR1.1 hR1.2 hle1 ?_; intro v1 w2 H1 H2 HH; clear HH)
          | (refine step_app rfl (.tmp 19) (.tmp 24) 27 rfl elt8 rfl H1.out rfl (Hraw.out.below (((Hb.out.alloc Hb.out.size _).drew).trans (H2.out.mono Hb.out.size))) (cells8_one _) hR3.1 hR3.2 (Nat.le_trans hle1 H2.out.size) ?_; intro v2 w3 H3 H4 HH; clear HH; obtain ⟨A2, L2, c2, rfl, hc21, hc22, hr3⟩ := back_row (bs := enc u) (r := raw) H3.out; have Hr3 := Lib.hid hr3; clear hr3)
          | (go_at_call 7; refine (get_back A2 L2 c2 w3.heap.size u nb (raw) _ Hnb.out hu Hr3.out Hlt.out hc21 hc22).mono ?_; rintro e w4 ⟨rfl, rfl⟩))
      all_goals
        go_wp2_with fail
        go_meet
        case rel => exact ⟨rfl, rfl, (((Hb.out.alloc Hb.out.size _).drew).trans (H2.out.mono Hb.out.size)).trans (H4.out.mono Hb.out.size)⟩
  case rest =>
    obtain ⟨rfl, rfl, hbc⟩ := hcut
    have Hbc := Lib.hid hbc
    clear hbc Hb Hrb
    have hu0 : Fit64 (u : Int) := by have := hu.out; exact ⟨by omega, by omega⟩
    have hz : Fit64 (zig n) := zig_fit hn.1 hn.2
    have hza : FitI (zag (u : Int)) := zag_fit hu0.1 hu0.2
    have Hzz : Hid (zig (zag (u : Int)) = (u : Int)) := Lib.hid (zig_zag _ hu0.1)
    go_wp2_with fail
    refine (zig_any n _ hn).mono ?_
    rintro e w2 ⟨rfl, rfl⟩
    go_wp2_with fail
    refine (zag_at (zig n) n _ hz (zag_zig n)).mono ?_
    rintro e w2 ⟨rfl, rfl⟩
    go_wp2_with fail
    refine (zag_any (u : Int) _ hu0).mono ?_
    rintro e w2 ⟨rfl, rfl⟩
    go_wp2_with fail
    refine (zig_at (zag (u : Int)) (u : Int) _ hza Hzz.out).mono ?_
    rintro e w2 ⟨rfl, rfl⟩
    go_upto_region 5 with fail
    go_cut [89] (fun s89 wd => s89 = .bool false ∧ Below w.heap.size w wd)
    case first =>
      rcases Int.lt_or_le n 0 with h0 | h0
      · rcases Int.lt_or_le m n with h1 | h1
        · have hup := zig_down h0 h1
          go_wp2_with fail
          refine (zig_any m _ hm).mono ?_
          rintro e w2 ⟨rfl, rfl⟩
          go_wp2_with fail
          refine (zig_any n _ hn).mono ?_
          rintro e w2 ⟨rfl, rfl⟩
          go_wp2_with fail
          go_meet
          case rel => exact ⟨not_leB hup, Hbc.out⟩
        · go_wp2_with fail
          go_meet
          case rel => exact ⟨rfl, Hbc.out⟩
      · rcases Int.lt_or_le n m with h1 | h1
        · have hup := zig_up h0 h1
          go_wp2_with fail
          refine (zig_any m _ hm).mono ?_
          rintro e w2 ⟨rfl, rfl⟩
          go_wp2_with fail
          refine (zig_any n _ hn).mono ?_
          rintro e w2 ⟨rfl, rfl⟩
          go_wp2_with fail
          go_meet
          case rel => exact ⟨not_leB hup, Hbc.out⟩
        · go_wp2_with fail
          go_meet
          case rel => exact ⟨rfl, Hbc.out⟩
    case rest =>
      obtain ⟨rfl, hbd⟩ := hcut
      have Hbd := Lib.hid hbd
      have hll : raw.length = l := by have := Hs.out.1; rwa [cells8_length] at this
      clear hbd Hbc
      go_wp2_with fail
      refine (get_any A l c w.heap.size raw _ (Hs.out.below Hbd.out) Hlt.out hlc hc).mono ?_
      rintro e w2 ⟨rfl, rfl⟩
      obtain ⟨x, hx⟩ : ∃ x, x = (dec raw).1 := ⟨_, rfl⟩
      obtain ⟨k, hk⟩ : ∃ k, k = (dec raw).2 := ⟨_, rfl⟩
      have hx64 : Lt64 x := hx ▸ dec_lt Hlt.out
      rw [← hx, ← hk]
      rcases Nat.eq_zero_or_pos k with h0 | h0
      · obtain rfl : x = 0 := by rw [hx]; exact dec_none (by omega)
        subst h0
        clear hx hk
        go_wp2_with fail
        refine wp_region_still_tail 27 (by kernel_rfl) (by kernel_rfl) ?_
        simp only [List.take_succ_cons, List.take_zero, List.drop_succ_cons, List.drop_zero]
        iterate 7 still_step
        iterate 18 ((with_reducible refine still_skip ?hw ?_); (case hw => kernel_rfl); simp only [Act.put, List.setIfInBounds_toArray, List.set_cons_zero, List.set_cons_succ])
        iterate 2 still_step
        refine wpStill_nil ?_
        have Hb' := Lib.hid Hbd.out.drew
        change wpList _ _ _ _ _ (World.drew _)
        generalize World.drew _ = W2 at *
        go_wp2_with fail
        refine (awake_any _).mono ?_
        rintro e w3 ⟨rfl, hb3⟩
        have H3 := Lib.hid hb3
        clear hb3
        go_wp2
        go_ret
        exact ⟨rfl, Hb'.out.trans (H3.out.mono Hb'.out.size)⟩
      · obtain ⟨hk3, hk4⟩ := dec_some Hlt.out (by omega)
        rw [← hx, ← hk] at hk4
        rw [← hk] at hk3
        have hk0 : ((k : Int) == 0) = false := by simp; omega
        have hkl : (k : Int) ≤ (l : Int) := by omega
        have hkc : (k : Int) ≤ (c : Int) := by omega
        have hk1 : (0 : Int) ≤ (k : Int) := by omega
        have hk2 : (0 : Int) < (k : Int) := by omega
        obtain ⟨s, hs⟩ : ∃ s, s = strOf (raw.take k) := ⟨_, rfl⟩
        have Hput : Hid (s = strOf ([] ++ enc x)) := Lib.hid (by rw [hs, hk4]; rfl)
        have Hrk : Hid (Rds w w.heap.size A k (cells8 (raw.take k))) := Lib.hid (by have := Hs.out.take (k := k) (by omega); rwa [show (cells8 raw).take k = cells8 (raw.take k) by simp [cells8, List.map_take]] at this)
        have Hcv : Hid (∀ W, Below w.heap.size w W → (convert 27 9 (.slice A k c)).run Try.prog W = .ok (.string s) W) := Lib.hid (by
          intro W hW
          rw [hs]
          exact conv_rds Try.underlying27 Try.underlying5 Try.underlying9 W (Hrk.out.below hW) (lt256_take Hlt.out k))
        have Hb' := Lib.hid Hbd.out.drew
        have hcv0 := Hcv.out _ Hb'.out
        clear hx hk hk4 hs
        go_wp2_with fail
        first
          | (go_region_held_law (fun _ => True) (trivial)
              (first
                | (go_at_call 8; refine (put_at none 0 0 0 [] x _ s _ (Rds.nil _ _ _) lt256_nil (by decide) hx64 rfl Hput.out).mono ?_; rintro e w4 ⟨A2, n2, c2, rfl, hcv, hb4⟩; have H4 := Lib.hid (Hb'.out.trans (hb4.mono Hb'.out.size)); have hcv1 := Hcv.out _ H4.out; clear hb4)
                | (go_at_call 9; refine (awake_any _).mono ?_; rintro e w3 ⟨rfl, hb3⟩; have H3 := Lib.hid hb3; clear hb3)))
          | fail "held"
        all_goals (go_wp2; go_ret; exact ⟨rfl, H4.out.trans (H3.out.mono H4.out.size)⟩)
end Go.Proofs.Ytjgoblibkhehaaa

import Derived.Test.YtjgoblibkhehaaaTells
namespace Go.Proofs.Ytjgoblibkhehaaa
open Go.RowKit

/-- What was there at w0 is as it was. -/
def Since (w0 W : World) : Prop := Below w0.heap.size w0 W
theorem Since.out {w0 W : World} (h : Since w0 W) : Below w0.heap.size w0 W := h
theorem lt256_app {cs bs : List Nat} (h1 : lt256 cs) (h2 : lt256 bs) : lt256 (cs ++ bs) := fun b hb => by
  rw [List.mem_append] at hb
  rcases hb with hb | hb
  · exact h1 b hb
  · exact h2 b hb
theorem own_some {B : Nat} {w : World} {v : Value} {bs : List Nat} {nb : Nat} (h : Own B w 5 v (cells8 bs)) (hn : nb = bs.length) (h0 : 0 < nb) :
    ∃ g cap, v = .slice (some ⟨g, 0, none⟩) nb cap ∧ B ≤ g ∧ g < w.heap.size ∧ nb ≤ cap ∧ cap ≤ maxLen := by
  have h' := h
  rcases h.2 with ⟨rfl, h1⟩ | ⟨g, cap, cur, rfl, hb, hg, hnc, hcm, _⟩
  · rw [cells8_length] at h1; omega
  · rw [cells8_length] at hnc ⊢
    subst hn
    exact ⟨g, cap, rfl, hb, (Array.getElem?_eq_some_iff.1 hg).1, hnc, hcm⟩
theorem own_shape {B : Nat} {w : World} {e : TypeId} {v : Value} {xs : List Value} (h : Own B w e v xs) : ∃ A n c, v = .slice A n c := by
  obtain ⟨A, c, rfl, _⟩ := h.form
  exact ⟨A, _, c, rfl⟩
/-- Put, and string(..) of what it answers, whatever was done since. -/
theorem put_cv (A : Option Addr) (n c B : Nat) (bs : List Nat) (u : Nat) (s : ByteArray) (w : World) (hs : Rds w B A n (cells8 bs)) (hlt : lt256 bs) (hn : n ≤ 1000000000) (hu : Lt64 u) (hss : s = strOf (bs ++ enc u)) :
    Calls Try.prog 8 #[.slice A n c, .int .u64 (u : Int)] w fun e w' => ∃ A' n' c', e = .returned (.slice A' n' c') ∧ (∀ W, Below w'.heap.size w' W → (convert 27 9 (.slice A' n' c')).run Try.prog W = .ok (.string s) W) ∧ Below w.heap.size w w' := by
  subst hss
  refine (put_any A n c B bs u w hs hn hu).mono ?_
  rintro e w' ⟨v, rfl, hown, hb⟩
  obtain ⟨A', c', rfl, _, _, _, hr⟩ := hown.form
  exact ⟨A', _, c', rfl, fun W hW => conv_rds Try.underlying27 Try.underlying5 Try.underlying9 W (hr.below hW) (lt256_app hlt (enc_256 u)), hb⟩
theorem rput_cv (A : Option Addr) (n c B : Nat) (bs : List Nat) (u : Nat) (s : ByteArray) (w : World) (hs : Rds w B A n (cells8 bs)) (hlt : lt256 bs) (hn : n ≤ 1000000000) (hu : Lt64 u) (hss : s = strOf (bs ++ enc u)) :
    Calls Try.prog 12 #[.slice A n c, .int .u64 (u : Int)] w fun e w' => ∃ A' n' c', e = .returned (.slice A' n' c') ∧ (∀ W, Below w'.heap.size w' W → (convert 27 9 (.slice A' n' c')).run Try.prog W = .ok (.string s) W) ∧ Below w.heap.size w w' := by
  subst hss
  refine (rput_any A n c B bs u w hs hn hu).mono ?_
  rintro e w' ⟨v, rfl, hown, hb⟩
  obtain ⟨A', c', rfl, _, _, _, hr⟩ := hown.form
  exact ⟨A', _, c', rfl, fun W hW => conv_rds Try.underlying27 Try.underlying5 Try.underlying9 W (hr.below hW) (lt256_app hlt (enc_256 u)), hb⟩
/-- x[k] = b -/
theorem own_store {B g nb cap k b : Nat} {w : World} {bs : List Nat} (h : Own B w 5 (.slice (some ⟨g, 0, none⟩) nb cap) (cells8 bs)) (hn : nb = bs.length) (hk : k < nb) :
    (∃ u, w.cell? ⟨g, k, none⟩ = some u) ∧ w.frozen? ⟨g, k, none⟩ = false ∧ Rds (w.setCell ⟨g, k, none⟩ (.int .u8 (b : Int))) (g + 1) (some ⟨g, 0, none⟩) nb (cells8 (bs.set k b)) := by
  have h' : w.ownsRow B 5 1 (.slice (some ⟨g, 0, none⟩) nb cap) nb (cells8 bs) := by
    have := h; unfold Own at this; rwa [cells8_length, ← hn] at this
  refine ⟨⟨.int .u8 (bs[k]'(by omega)), ?_⟩, h'.frozenAt k, ?_⟩
  · rw [h'.cellAt k (by omega), cells8_get, List.getElem?_eq_getElem (by omega)]
    rfl
  · have h2 := (h'.stored k (.int .u8 (b : Int))).1
    rw [cells8_set] at h2
    exact ⟨by rw [cells8_length, List.length_set, hn], fun _ => ⟨_, rfl, Nat.lt_succ_self _, h2.cells (g := g) rfl⟩⟩

set_option maxHeartbeats 20000000 in
set_option maxRecDepth 100000 in
theorem tells_walk (n : Int) (u : Nat) (A : Option Addr) (l c : Nat) (raw : List Nat) (at_ : Int) (by_ : Nat) (w : World) (hn : FitI n) (hu : Lt64 u) (hs : Rds w w.heap.size A l (cells8 raw)) (hlt : lt256 raw) (hlc : l ≤ c) (hc : c ≤ maxLen) (hby : by_ < 256) (hand : bits .and .i64 at_ 255 = at_ % 256) :
    Calls Try.prog 5 #[.int .i64 n, .int .u64 (u : Int), .slice A l c, .int .i64 at_, .int .u8 (by_ : Int)] w fun e w' => e = .returned (.bool true) ∧ Below w.heap.size w w' := by
  have Hs := Lib.hid hs; have Hlt := Lib.hid hlt; have Hc := Lib.hid hc
  clear hs hlt hc
  rcases Nat.lt_or_ge 100 l with h100 | h100
  · go_enter Try.func5, Try.ntmps5
    go_wp2_with fail
    refine (awake_any _).mono ?_
    rintro e w3 ⟨rfl, hb3⟩
    have H3 := Lib.hid hb3
    clear hb3
    go_wp2
    go_ret
    exact ⟨rfl, H3.out⟩
  · go_enter Try.func5, Try.ntmps5
    go_wp2_with fail
    refine (rput_any none 0 0 0 [] u _ (Rds.nil _ _ _) (by omega) hu).mono ?_
    rintro e w1 ⟨vt, rfl, hown, hb⟩
    rw [List.nil_append] at hown
    obtain ⟨nt, hnt⟩ : ∃ nt, nt = (enc u).length := ⟨_, rfl⟩
    have hnt10 : nt ≤ 10 := hnt ▸ enc_len10 hu.out
    have hnt0 : 0 < nt := hnt ▸ enc_pos u
    obtain ⟨At, nt', ct, rfl, hrt, hlct, hct⟩ := own_seen hown
    obtain rfl : nt' = nt := by have := hrt.1; rw [cells8_length] at this; omega
    obtain ⟨k, hk, hkl⟩ : ∃ k : Nat, (at_ % 256).tmod (nt' : Int) = (k : Int) ∧ k < nt' := by
      have h1 : 0 ≤ at_ % 256 := Int.emod_nonneg _ (by decide)
      rw [Int.tmod_eq_emod_of_nonneg h1]
      have h2 := Int.emod_nonneg (at_ % 256) (show (nt' : Int) ≠ 0 by omega)
      have h3 := Int.emod_lt_of_pos (at_ % 256) (show (0 : Int) < (nt' : Int) by omega)
      exact ⟨((at_ % 256) % (nt' : Int)).toNat, by omega, by omega⟩
    have h256 : 0 ≤ at_ % 256 := Int.emod_nonneg _ (by decide)
    have h257 : at_ % 256 < 256 := Int.emod_lt_of_pos _ (by decide)
    have hki : (k : Int) < (nt' : Int) := by omega
    have hk0 : (0 : Int) ≤ (k : Int) := by omega
    have Hb := Lib.hid hb; have Hrt := Lib.hid hrt; have Hnt := Lib.hid hnt; have Hct := Lib.hid hct
    clear hown hb hrt hnt hct
    have Hl0 : Hid (Own w1.heap.size (w1.alloc (.cells #[] 5)) 5 (.slice (some ⟨w1.heap.size, 0, none⟩) 0 0) []) := Lib.hid (Own.lit w1 5 #[] (by simp))
    have hR0 : Room (List.length ([] : List Value)) nt' := Room.mk _ _ (by simp; omega)
    go_upto_region 7 with (at_builtin; refine wpList_app rfl (.tmp 31) (.tmp 32) _ rfl elt8 rfl Hl0.out rfl (Hrt.out.alloc (Nat.le_refl _) _) (cells8_one _) hR0.1 hR0.2 (le_alloc _ _) ?_; intro vx wx OX BX HH; clear HH; obtain ⟨gx, cx, rfl, hgx, hgx2, hcx, hcx2⟩ := own_some (bs := enc u) (by have := OX.out; rwa [List.nil_append] at this) Hnt.out hnt0; obtain ⟨⟨ux, hcell⟩, hfz, hrx⟩ := own_store (b := by_) (bs := enc u) (by have := OX.out; rwa [List.nil_append] at this) Hnt.out hkl; have Hrx := Lib.hid hrx; have Hcx := Lib.hid hcx2; clear hrx hcx2)
    obtain ⟨w3, hw3⟩ : ∃ w3, w3 = wx.setCell ⟨gx, k, none⟩ (.int .u8 (by_ : Int)) := ⟨_, rfl⟩
    have Hwx : Hid (Below w.heap.size w wx) := Lib.hid ((Hb.out.alloc Hb.out.size _).trans (BX.out.mono Hb.out.size))
    have Hw1 : Hid (Below w1.heap.size w1 wx) := Lib.hid (((Below.refl _ _).alloc (Nat.le_refl _) _).trans BX.out)
    have Hb3 : Hid (Since w w3) := Lib.hid (by rw [hw3]; exact Hwx.out.setCell (Nat.le_trans Hb.out.size hgx) _)
    have Ht3 : Hid (Rds w3 w3.heap.size At nt' (cells8 (enc u))) := Lib.hid (by rw [hw3]; exact ((Hrt.out.below Hw1.out).setCell hgx _).fit)
    have Hx3 : Hid (Rds w3 w3.heap.size (some ⟨gx, 0, none⟩) nt' (cells8 ((enc u).set k by_))) := Lib.hid (by rw [hw3]; exact Hrx.out.fit)
    have Hr3 : Hid (Rds w3 w3.heap.size A l (cells8 raw)) := Lib.hid (Hs.out.below Hb3.out.out).fit
    rw [← hw3]
    clear hw3 hcell hfz BX OX Hwx Hw1 Hrx Hl0 hR0 Hrt Hb
    go_cut [53, 54, 55] (fun s53 s54 s55 wc => ∃ g, s53 = .slice (some ⟨g, 0, none⟩) 6 6 ∧ s54 = .int .i64 6 ∧ s55 = .int .i64 0 ∧ Six wc g ∧ Below w.heap.size w wc)
    case first =>
      have hkc : (k : Int) ≤ (ct : Int) := by omega
      have R46 : Room nt' 1 := Room.mk _ _ (by omega)
      have R52 : Room 1 nt' := Room.mk _ _ (by omega)
      have R49 : Room (List.length ([] ++ cells8 (enc u))) 1 := Room.mk _ _ (by rw [List.nil_append, cells8_length, ← Hnt.out]; omega)
      have h1nt : 1 < 1 + nt' := by omega
      have h0nt : 0 < 0 + nt' := by omega
      have R0 : Room 0 nt' := Room.mk _ _ (by omega)
      go_wp2_with fail
      go_region_held_law (fun w' => Below w3.heap.size w3 w') (repeat' first | (with_reducible exact S46.out.out) | (with_reducible exact S52.out.out) | (with_reducible exact S49.out.out) | (with_reducible exact Below.refl _ _) | (with_reducible refine Below.drew ?_) | (with_reducible refine below_alloc ?_ (Nat.le_refl _) _))
        (first
          | (refine step_grow rfl (.tmp 44) (.tmp 45) 27 rfl elt8 (xs := []) rfl (has_nil _ _) rfl rfl (Ht3.out.below (by (repeat' first | (with_reducible exact S46.out.out) | (with_reducible exact S52.out.out) | (with_reducible exact S49.out.out) | (with_reducible exact Below.refl _ _) | (with_reducible refine Below.drew ?_) | (with_reducible refine below_alloc ?_ (Nat.le_refl _) _)))) h0nt hnt0 R0.1 R0.2 ?_; intro v46 w46 O46 B46 G46; have S46 : Hid (Since w3 w46) := Lib.hid (Below.trans (by (repeat' first | (with_reducible exact S46.out.out) | (with_reducible exact S52.out.out) | (with_reducible exact S49.out.out) | (with_reducible exact Below.refl _ _) | (with_reducible refine Below.drew ?_) | (with_reducible refine below_alloc ?_ (Nat.le_refl _) _))) (B46.out.mono (Below.size (B := w3.heap.size) (by (repeat' first | (with_reducible exact S46.out.out) | (with_reducible exact S52.out.out) | (with_reducible exact S49.out.out) | (with_reducible exact Below.refl _ _) | (with_reducible refine Below.drew ?_) | (with_reducible refine below_alloc ?_ (Nat.le_refl _) _)))))); have P46 : Hid (Own w3.heap.size w46 5 v46 ([] ++ cells8 (enc u))) := Lib.hid (O46.out.mono (Below.size (B := w3.heap.size) (by (repeat' first | (with_reducible exact S46.out.out) | (with_reducible exact S52.out.out) | (with_reducible exact S49.out.out) | (with_reducible exact Below.refl _ _) | (with_reducible refine Below.drew ?_) | (with_reducible refine below_alloc ?_ (Nat.le_refl _) _))))); clear O46; (try (have D := Lib.hid (fresh_ne (B := w3.heap.size) (v := .slice A52 n52 c52) (by (repeat' first | (with_reducible exact P52.out) | (with_reducible refine Own.drew ?_) | (with_reducible refine Own.alloc ?_ _) | (with_reducible refine Own.below ?_ (Hid.out (by assumption))) | (with_reducible refine Own.far ?_ G49.out.1 D.out))) G46.out))))
          | (refine step_grow rfl (.tmp 50) (.tmp 51) 27 rfl elt8 (xs := [.int .u8 128]) rfl (by (repeat' first | ((with_reducible refine has_lit ?_); simp; done) | (with_reducible refine Has.drew ?_) | (with_reducible refine Has.alloc ?_ _) | (with_reducible refine Has.below ?_ (Hid.out (by assumption))) | (with_reducible refine Has.far ?_ G49.out.1 ?_) | (intro hh; exfalso; have h2 := (P46.out.block _ hh).2; first | omega | (simp at h2; done) | (simp at h2; omega)) | (intro hh; exfalso; rw [G46.out] at hh; first | (simp at hh; done) | (simp at hh; omega)))) rfl rfl (Ht3.out.below (by (repeat' first | (with_reducible exact S46.out.out) | (with_reducible exact S52.out.out) | (with_reducible exact S49.out.out) | (with_reducible exact Below.refl _ _) | (with_reducible refine Below.drew ?_) | (with_reducible refine below_alloc ?_ (Nat.le_refl _) _)))) h1nt hnt0 R52.1 R52.2 ?_; intro v52 w52 O52 B52 G52; have S52 : Hid (Since w3 w52) := Lib.hid (Below.trans (by (repeat' first | (with_reducible exact S46.out.out) | (with_reducible exact S52.out.out) | (with_reducible exact S49.out.out) | (with_reducible exact Below.refl _ _) | (with_reducible refine Below.drew ?_) | (with_reducible refine below_alloc ?_ (Nat.le_refl _) _))) (B52.out.mono (Below.size (B := w3.heap.size) (by (repeat' first | (with_reducible exact S46.out.out) | (with_reducible exact S52.out.out) | (with_reducible exact S49.out.out) | (with_reducible exact Below.refl _ _) | (with_reducible refine Below.drew ?_) | (with_reducible refine below_alloc ?_ (Nat.le_refl _) _)))))); have P52 : Hid (Own w3.heap.size w52 5 v52 ([.int .u8 128] ++ cells8 (enc u))) := Lib.hid (O52.out.mono (Below.size (B := w3.heap.size) (by (repeat' first | (with_reducible exact S46.out.out) | (with_reducible exact S52.out.out) | (with_reducible exact S49.out.out) | (with_reducible exact Below.refl _ _) | (with_reducible refine Below.drew ?_) | (with_reducible refine below_alloc ?_ (Nat.le_refl _) _))))); clear O52; obtain ⟨A52, n52, c52, rfl⟩ := own_shape P52.out; (try (have D := Lib.hid (fresh_ne (B := w3.heap.size) (v := v46) (by (repeat' first | (with_reducible exact P46.out) | (with_reducible refine Own.drew ?_) | (with_reducible refine Own.alloc ?_ _) | (with_reducible refine Own.below ?_ (Hid.out (by assumption))))) G52.out).symm)))
          | (refine step_app rfl (.tmp 46) (.tmp 48) 27 rfl elt8 (B := w3.heap.size) (v := v46) rfl (by (repeat' first | (with_reducible exact P46.out) | (with_reducible refine Own.drew ?_) | (with_reducible refine Own.alloc ?_ _) | (with_reducible refine Own.below ?_ (Hid.out (by assumption))))) rfl (Has.rds (xs := [.int .u8 (by_ : Int)]) (by (repeat' first | ((with_reducible refine has_lit ?_); simp; done) | (with_reducible refine Has.drew ?_) | (with_reducible refine Has.alloc ?_ _) | (with_reducible refine Has.below ?_ (Hid.out (by assumption))) | (with_reducible refine Has.far ?_ G49.out.1 ?_) | (intro hh; exfalso; have h2 := (P46.out.block _ hh).2; first | omega | (simp at h2; done) | (simp at h2; omega)) | (intro hh; exfalso; rw [G46.out] at hh; first | (simp at hh; done) | (simp at hh; omega))))) (cells8_one [by_]) R49.1 R49.2 (Below.size (by (repeat' first | (with_reducible exact S46.out.out) | (with_reducible exact S52.out.out) | (with_reducible exact S49.out.out) | (with_reducible exact Below.refl _ _) | (with_reducible refine Below.drew ?_) | (with_reducible refine below_alloc ?_ (Nat.le_refl _) _)))) ?_; intro v49 w49 P49 B49 G49; have S49 : Hid (Since w3 w49) := Lib.hid (Below.trans (by (repeat' first | (with_reducible exact S46.out.out) | (with_reducible exact S52.out.out) | (with_reducible exact S49.out.out) | (with_reducible exact Below.refl _ _) | (with_reducible refine Below.drew ?_) | (with_reducible refine below_alloc ?_ (Nat.le_refl _) _))) B49.out); obtain ⟨A49, n49, c49, rfl⟩ := own_shape P49.out; have Q49 : Hid (Own w3.heap.size w49 5 (.slice A49 n49 c49) (cells8 (enc u) ++ [.int .u8 (by_ : Int)])) := Lib.hid P49.out; clear P49))
      all_goals
        go_wp2_with fail
        go_meet
        case rel => exact ⟨_, rfl, rfl, rfl, six_mk (B5 := w3.heap.size) (B6 := w3.heap.size) (by (repeat' first | (with_reducible exact S46.out.out) | (with_reducible exact S52.out.out) | (with_reducible exact S49.out.out) | (with_reducible exact Below.refl _ _) | (with_reducible refine Below.drew ?_) | (with_reducible refine below_alloc ?_ (Nat.le_refl _) _))) (by simp) Hr3.out Hlt.out hlc Hc.out Ht3.out hlct Hct.out hkl Hx3.out hcx Hcx.out hby (by (repeat' first | (with_reducible exact Q49.out) | (with_reducible refine Own.drew ?_) | (with_reducible refine Own.alloc ?_ _) | (with_reducible refine Own.below ?_ (Hid.out (by assumption))))) (by (repeat' first | (with_reducible exact P52.out) | (with_reducible refine Own.drew ?_) | (with_reducible refine Own.alloc ?_ _) | (with_reducible refine Own.below ?_ (Hid.out (by assumption))) | (with_reducible refine Own.far ?_ G49.out.1 D.out))), Below.trans Hb3.out.out (Below.mono (by (repeat' first | (with_reducible exact S46.out.out) | (with_reducible exact S52.out.out) | (with_reducible exact S49.out.out) | (with_reducible exact Below.refl _ _) | (with_reducible refine Below.drew ?_) | (with_reducible refine below_alloc ?_ (Nat.le_refl _) _))) Hb3.out.out.size)⟩
    case rest =>
      obtain ⟨g, rfl, rfl, rfl, hsix, hbc⟩ := hcut
      have Hsix := Lib.hid hsix; have Hbc := Lib.hid hbc
      have Hr4 : Hid (Rds wc wc.heap.size A l (cells8 raw)) := Lib.hid (Hs.out.below hbc).fit
      have hu0 : Fit64 (u : Int) := by have := hu.out; exact ⟨by omega, by omega⟩
      obtain ⟨s, hs⟩ : ∃ s, s = strOf (raw ++ enc u) := ⟨_, rfl⟩
      have Hss := Lib.hid hs
      clear hsix hbc hs Ht3 Hx3 Hr3 Hb3
      go_wp2_with fail
      go_loop [55] (fun s55 => ∃ i : Nat, i ≤ 6 ∧ s55 = .int .i64 (i : Int)) (fun s55 => 6 - (intOf s55).toNat)
      case atStart => exact ⟨0, by omega, rfl⟩
      case round =>
        obtain ⟨i, hi6, rfl⟩ := hrel
        by_cases hi : i < 6
        · obtain ⟨A', n', c', bs, hcell, hr, hl, hnc, hcm⟩ := Hsix.out i hi
          have Hr := Lib.hid hr; have Hl := Lib.hid hl
          clear hr hl
          go_wp2_with fail
          refine (get_any A' n' c' _ bs _ Hr.out Hl.out hnc hcm).mono ?_
          rintro e w2 ⟨rfl, rfl⟩
          go_wp2_with fail
          refine (rget_any A' n' c' _ bs _ Hr.out Hl.out (Nat.le_trans hnc hcm)).mono ?_
          rintro e w2 ⟨rfl, rfl⟩
          go_wp2
          go_round
          case rel => exact ⟨i + 1, by omega, by go_num⟩
          case measure => simp [intOf]; omega
        · go_wp2_with fail
          go_region_held_law (fun w' => Below wc.heap.size wc w') ((repeat' first | exact S5.out | exact S6.out | exact S7.out | exact Below.refl _ _ | refine Below.drew ?_))
            (first
              | (go_at_call 10; refine (zig_any n _ hn).mono ?_; rintro e w9 ⟨rfl, rfl⟩)
              | (go_at_call 14; refine (rzig_any n _ hn).mono ?_; rintro e w9 ⟨rfl, rfl⟩)
              | (go_at_call 11; refine (zag_any (u : Int) _ hu0).mono ?_; rintro e w9 ⟨rfl, rfl⟩)
              | (go_at_call 15; refine (rzag_any (u : Int) _ hu0).mono ?_; rintro e w9 ⟨rfl, rfl⟩)
              | (go_at_call 8; refine (put_cv A l c wc.heap.size raw u s _ (Hr4.out.below (by (repeat' first | exact S5.out | exact S6.out | exact S7.out | exact Below.refl _ _ | refine Below.drew ?_))) Hlt.out (by omega) hu Hss.out).mono ?_; rintro e w5 ⟨A5, n5, c5, rfl, hcv5, hb5⟩; have S5 : Hid (Below wc.heap.size wc w5) := Lib.hid (Below.trans (by (repeat' first | exact S5.out | exact S6.out | exact S7.out | exact Below.refl _ _ | refine Below.drew ?_)) (hb5.mono (Below.size (B := wc.heap.size) (by (repeat' first | exact S5.out | exact S6.out | exact S7.out | exact Below.refl _ _ | refine Below.drew ?_))))); have C5 := Lib.hid hcv5; have cv5 := C5.out _ (Below.refl _ _); (try (have cv65 := C6.out _ hb5)); clear hcv5 hb5)
              | (go_at_call 12; refine (rput_cv A l c wc.heap.size raw u s _ (Hr4.out.below (by (repeat' first | exact S5.out | exact S6.out | exact S7.out | exact Below.refl _ _ | refine Below.drew ?_))) Hlt.out (by omega) hu Hss.out).mono ?_; rintro e w6 ⟨A6, n6, c6, rfl, hcv6, hb6⟩; have S6 : Hid (Below wc.heap.size wc w6) := Lib.hid (Below.trans (by (repeat' first | exact S5.out | exact S6.out | exact S7.out | exact Below.refl _ _ | refine Below.drew ?_)) (hb6.mono (Below.size (B := wc.heap.size) (by (repeat' first | exact S5.out | exact S6.out | exact S7.out | exact Below.refl _ _ | refine Below.drew ?_))))); have C6 := Lib.hid hcv6; have cv6 := C6.out _ (Below.refl _ _); (try (have cv56 := C5.out _ hb6)); clear hcv6 hb6)
              | (go_at_call 9; refine (awake_any _).mono ?_; rintro e w7 ⟨rfl, hb7⟩; have S7 : Hid (Below wc.heap.size wc w7) := Lib.hid (Below.trans (by (repeat' first | exact S5.out | exact S6.out | exact S7.out | exact Below.refl _ _ | refine Below.drew ?_)) (hb7.mono (Below.size (B := wc.heap.size) (by (repeat' first | exact S5.out | exact S6.out | exact S7.out | exact Below.refl _ _ | refine Below.drew ?_))))); clear hb7))
          all_goals (go_wp2; go_ret; exact ⟨rfl, Below.trans Hbc.out (Below.mono S7.out Hbc.out.size)⟩)
end Go.Proofs.Ytjgoblibkhehaaa

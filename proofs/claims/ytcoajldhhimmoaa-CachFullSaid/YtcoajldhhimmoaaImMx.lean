/- CachFull's walk. -/
import Derived.Test.YtcoajldhhimmoaaMx1
import Derived.Test.YtcoajldhhimmoaaIiMx
import Derived.Test.YtcoajldhhimmoaaMx10
namespace Go.Proofs.Ytcoajldhhimmoaa
open Go.RowKit

def kI (z : Int) : KeyN := ⟨0, 0, z⟩
theorem kI_ne {a b : Int} (h : a ≠ b) : kI a ≠ kI b := fun e => h (by injection e)
theorem kI_fit {z : Int} (h0 : 0 ≤ z) (h1 : z ≤ 1000) : KeyFit (kI z) := keyFit_lit z h0 h1
theorem AllOne.same {c : ClkN} {P Q : KeyN → Prop} {n : Nat} (h : AllOne c P n) (e : ∀ x, P x ↔ Q x) : AllOne c Q n := ⟨fun x => by rw [h.mem x, e], h.len⟩
/-- One more comes, and is pinned. -/
theorem fill_step {c : CacN} {P : KeyN → Prop} {n : Nat} {k : KeyN} (hg : Good c.clk) (h : AllOne c.clk P n) (hk : ¬ P k) (hn : (n : Int) < c.clk.most) (l : List (Int × Nat)) :
    ∃ c1 c2, putC c k l = (c1, true) ∧ pinC c1 k = (c2, true) ∧ framesC c2 = n + 1 ∧ c2.clk.most = c.clk.most ∧ AllOne c2.clk (fun x => P x ∨ x = k) (n + 1) := by
  obtain ⟨h1, _, _, _, h5, h6, h7, h8⟩ := fill_one hg h hk hn
  obtain ⟨⟨ka, os, ok⟩, hr⟩ : ∃ r, admitK c.clk k = r := ⟨_, rfl⟩
  rw [hr] at h1 h5 h6 h7 h8
  simp only at h1 h5 h6 h7 h8
  rw [h1] at hr
  obtain ⟨⟨kp, okp⟩, hp⟩ : ∃ r, pinK ka k 1 = r := ⟨_, rfl⟩
  rw [hp] at h5 h6 h7 h8
  simp only at h5 h6 h7 h8
  rw [h5] at hp
  exact ⟨_, _, put_eq_yes l hr, pin_eq (c := ⟨ka, setC c.sam k l os⟩) hp, h8.cnt h6, h7, h8⟩
/-- Where all have a pin nobody comes; one loses its pin and another takes its place. -/
theorem swap_step {c : CacN} {P : KeyN → Prop} {n : Nat} {k i : KeyN} (hg : Good c.clk) (h : AllOne c.clk P n) (hn : (n : Int) = c.clk.most) (hk : ¬ P k) (hi : P i) (l l2 : List (Int × Nat)) :
    putC c k l = (c, false) ∧ ∃ c1 c2 c3, unpinC c i = (c1, true) ∧ putC c1 k l2 = (c2, true) ∧ pinC c2 k = (c3, true) ∧ framesC c3 = n ∧ getC c3 i = (c3, none) ∧ c3.clk.most = c.clk.most ∧ AllOne c3.clk (fun x => (P x ∧ x ≠ i) ∨ x = k) n := by
  obtain ⟨h1, h2, h3, h4, h5, d, hd, hdg, h6, h7, h8, h9⟩ := swap_one hg h hn hk hi
  obtain ⟨⟨ka, os, ok⟩, hr⟩ : ∃ r, admitK c.clk k = r := ⟨_, rfl⟩
  rw [hr] at h1
  simp only at h1
  rw [h1] at hr
  obtain ⟨⟨ku, oku⟩, hu⟩ : ∃ r, pinK c.clk i (-1) = r := ⟨_, rfl⟩
  rw [hu] at hd h4 h5
  simp only at hd h4 h5
  obtain ⟨⟨kp, okp⟩, hp⟩ : ∃ r, pinK d k 1 = r := ⟨_, rfl⟩
  rw [hp] at h6 h7 h8 h9
  simp only at h6 h7 h8 h9
  rw [h6] at hp
  refine ⟨put_eq_no l hr, ⟨ku, c.sam⟩, ⟨d, setC c.sam k l2 [i]⟩, ⟨kp, setC c.sam k l2 [i]⟩, unpin_eq_yes hu ⟨h2, by rw [h3]; decide⟩, put_eq_yes (c := ⟨ku, c.sam⟩) l2 hd, pin_eq (c := ⟨d, setC c.sam k l2 [i]⟩) hp, h9.cnt h7, ?_, h8, h9⟩
  have hno : resAt kp i = false := h9.not_ h7 (fun hx => by
    rcases hx with hx | hx
    · exact hx.2 rfl
    · exact hk (by rw [← hx]; exact hi))
  exact get_eq_no (c := ⟨kp, setC c.sam k l2 [i]⟩) (touch_no hno)
def fullP (i : Nat) (x : KeyN) : Prop := ∃ j : Nat, j < i ∧ x = kI (j : Int)
def fullQ (M i : Nat) (x : KeyN) : Prop := (∃ j : Nat, j < i ∧ x = kI (100 + (j : Int))) ∨ ∃ j : Nat, i ≤ j ∧ j < M ∧ x = kI (j : Int)
theorem fullP_not (i : Nat) : ¬ fullP i (kI (i : Int)) := by
  rintro ⟨j, hj, e⟩
  exact kI_ne (a := (i : Int)) (b := (j : Int)) (by omega) e
theorem fullP_succ (i : Nat) (x : KeyN) : (fullP i x ∨ x = kI (i : Int)) ↔ fullP (i + 1) x := by
  constructor
  · rintro (⟨j, hj, e⟩ | e)
    · exact ⟨j, by omega, e⟩
    · exact ⟨i, by omega, e⟩
  · rintro ⟨j, hj, e⟩
    by_cases h : j = i
    · subst h; exact .inr e
    · exact .inl ⟨j, by omega, e⟩
theorem fullQ_zero (M : Nat) (x : KeyN) : fullP M x ↔ fullQ M 0 x := by
  constructor
  · rintro ⟨j, hj, e⟩; exact .inr ⟨j, Nat.zero_le _, hj, e⟩
  · rintro (⟨j, hj, _⟩ | ⟨j, _, hj, e⟩)
    · omega
    · exact ⟨j, hj, e⟩
theorem fullQ_not {M i : Nat} (hM : M ≤ 8) : ¬ fullQ M i (kI (100 + (i : Int))) := by
  rintro (⟨j, hj, e⟩ | ⟨j, _, hj, e⟩)
  · exact kI_ne (a := 100 + (i : Int)) (b := 100 + (j : Int)) (by omega) e
  · exact kI_ne (a := 100 + (i : Int)) (b := (j : Int)) (by omega) e
theorem fullQ_is {M i : Nat} (hi : i < M) : fullQ M i (kI (i : Int)) := .inr ⟨i, Nat.le_refl _, hi, rfl⟩
theorem fullQ_succ {M i : Nat} (hi : i < M) (hM : M ≤ 8) (x : KeyN) : ((fullQ M i x ∧ x ≠ kI (i : Int)) ∨ x = kI (100 + (i : Int))) ↔ fullQ M (i + 1) x := by
  constructor
  · rintro (⟨⟨j, hj, e⟩ | ⟨j, h1, h2, e⟩, hne⟩ | e)
    · exact .inl ⟨j, by omega, e⟩
    · exact .inr ⟨j, by have : j ≠ i := fun h => hne (by rw [e, h]); omega, h2, e⟩
    · exact .inl ⟨i, by omega, e⟩
  · rintro (⟨j, hj, e⟩ | ⟨j, h1, h2, e⟩)
    · by_cases h : j = i
      · subst h; exact .inr e
      · exact .inl ⟨.inl ⟨j, by omega, e⟩, by rw [e]; exact kI_ne (by omega)⟩
    · exact .inl ⟨.inr ⟨j, by omega, h2, e⟩, by rw [e]; exact kI_ne (by omega)⟩
set_option maxHeartbeats 16000000 in
set_option maxRecDepth 100000 in
theorem ccfull_walk (a0 : Int) (w : World) : Calls Try.prog 4 #[.int .i64 a0] w fun e w' => e = .returned (.bool true) ∧ Mod (fun _ => False) w w' := by
  obtain ⟨o0, ho0⟩ : ∃ x, a0 % 8 = x := ⟨_, rfl⟩
  have m0 : bits .and .i64 a0 7 = o0 := by rw [mask7, ho0]
  have b0 : 0 ≤ o0 := by omega
  have b7 : o0 ≤ 7 := by omega
  obtain ⟨M, hM⟩ : ∃ M : Nat, o0 + 1 = (M : Int) := ⟨(o0 + 1).toNat, by omega⟩
  have HMb : Hid (1 ≤ M ∧ M ≤ 8) := Lib.hid (by omega)
  have HeM : Hid ((newC (M : Int)).clk.most = (M : Int)) := Lib.hid (by show min (max (M : Int) 1) 1000 = (M : Int); omega)
  clear ho0
  go_enter Try.func4, Try.ntmps4
  go_wp2_with fail
  refine (ccNew_any (M : Int) w).mono ?_
  rintro e w0 ⟨g, b, rfl, hc0, hm0, hb0, hg0⟩
  have HC0 : Hid (CacV 0 g b 0 w0 (newC (M : Int))) := Lib.hid (hc0 _ (Mod.refl _ _) 0 (Nat.zero_le _))
  have HE : Hid (∀ W', Mod (fun j => j = g ∨ j = b) w0 W' → Mod (fun _ => False) w W') := Lib.hid (fun W' h => hm0.trans h (fun i hi h => by omega))
  have HM0 : Hid (Mod (fun j => j = g ∨ j = b) w0 w0) := Lib.hid (Mod.refl _ _)
  clear hc0 hm0 hb0 hg0
  clear m0 b0 b7 hM
  go_wp2_with fail
  go_loopg [4] M (fun k s4 wr => ∃ (i : Nat) (c : CacN), i + k = M ∧ s4 = .int .i64 (i : Int) ∧ CacV 0 g b (2 * i) wr c ∧ AllOne c.clk (fullP i) i ∧ c.clk.most = (M : Int) ∧ Mod (fun j => j = g ∨ j = b) w0 wr)
  case atStart => exact ⟨0, newC (M : Int), by omega, rfl, HC0.out, (allOne_new (M : Int)).same (fun x => ⟨fun h => h.elim, fun ⟨j, hj, _⟩ => by omega⟩), HeM.out, Mod.refl _ _⟩
  case round =>
    obtain ⟨i, c, hik, rfl, hc, ha, hmo, hm⟩ := hrel
    have Hik := Lib.hid hik; have HC1 := Lib.hid hc; have Ha := Lib.hid ha; have Hmo := Lib.hid hmo; have HM1 := Lib.hid hm
    clear hik hc ha hmo hm HC0 HM0
    by_cases hin : i < M
    · have Hin := Lib.hid hin
      have hi1 : (i : Int) < (M : Int) := by omega
      have hi2 : (i : Int) ≤ 8 := by have := HMb.out; omega
      have hi3 : (0 : Int) ≤ (i : Int) := by omega
      have Hi2 := Lib.hid hi2
      obtain ⟨c1, c2, he1, he2, hfr, hmo2, ha2⟩ := fill_step HC1.out.good.clk Ha.out (fullP_not i) (by rw [Hmo.out]; omega) (rowL (i : Int))
      have He1 := Lib.hid he1; have He2 := Lib.hid he2; have Hmo2 := Lib.hid hmo2; have Ha2 := Lib.hid ha2
      obtain ⟨F, hF⟩ : ∃ F, framesC c2 = F := ⟨_, rfl⟩
      have hFi : (F : Int) = (i : Int) + 1 := by rw [← hF, hfr]; omega
      have HF := Lib.hid hF
      clear hin he1 he2 hfr hmo2 ha2 hF
      go_upto_region 8 with fail
      go_wp2_with fail
      refine (ccRow_any (i : Int) wr).mono ?_
      rintro e w2 ⟨v2, rfl, ho2, hm2⟩
      obtain ⟨A2, n2, cp2, rfl, Hn2, _, _, _⟩ := ho2.formN
      have Hs2 : Hid (SliH 0 w2 (.slice A2 n2 cp2) (rowL (i : Int))) := Lib.hid (SliH.of_own (ho2.mono (Nat.zero_le _)))
      have hl2 : n2 ≤ 100000 := by have h1 := rowL_len (i : Int); have h2 := Hn2.out; omega
      have HC2 : Hid (CacV 0 g b (2 * i) w2 c) := Lib.hid (HC1.out.new hm2)
      have HM2 : Hid (Mod (fun j => j = g ∨ j = b) w0 w2) := Lib.hid (HM1.out.trans (hm2.mono (fun _ _ h => h.elim)) (fun _ _ h => h))
      have Hl2 := Lib.hid hl2
      clear ho2 hm2 hl2
      go_wp2_with fail
      refine (call_put (k := kI (i : Int)) He1.out HC2.out (kI_fit (by omega) (by omega)) Hs2.out Hl2.out (by omega)).mono ?_
      rintro e w3 ⟨rfl, hc3, hm3⟩
      have HC3 : Hid (CacV 0 g b (2 * i + 1) w3 c1) := Lib.hid hc3
      have HM3 : Hid (Mod (fun j => j = g ∨ j = b) w0 w3) := Lib.hid (HM2.out.trans hm3 (fun _ _ h => h))
      clear hc3 hm3
      go_wp2_with fail
      refine (call_pin (k := kI (i : Int)) He2.out HC3.out (by omega)).mono ?_
      rintro e w4 ⟨rfl, hc4, hm4⟩
      have HC4 : Hid (CacV 0 g b (2 * i + 1 + 1) w4 c2) := Lib.hid hc4
      have HM4 : Hid (Mod (fun j => j = g ∨ j = b) w0 w4) := Lib.hid (HM3.out.trans hm4 (fun _ _ h => h))
      clear hc4 hm4
      go_wp2_with fail
      refine (ccFrames_any w4 HC4.out).mono ?_
      rintro e w5 ⟨rfl, hm5⟩
      have HC5 : Hid (CacV 0 g b (2 * i + 1 + 1) w5 c2) := Lib.hid (HC4.out.new hm5)
      have HM5 : Hid (Mod (fun j => j = g ∨ j = b) w0 w5) := Lib.hid (HM4.out.trans (hm5.mono (fun _ _ h => h.elim)) (fun _ _ h => h))
      clear hm5
      rw [HF.out]
      go_wp2_with fail
      go_roundg (gk - 1)
      case measure => have := Hik.out; have := Hin.out; omega
      case rel => exact ⟨i + 1, c2, by have := Hik.out; have := Hin.out; omega, by go_num, HC5.out.more (by omega), Ha2.out.same (fullP_succ i), by rw [Hmo2.out, Hmo.out], HM5.out⟩
    · have hi : i = M := by have := Hik.out; omega
      subst hi
      clear hin
      go_wp2_with fail
      go_loopg [5] i (fun k s5 wq => ∃ (q : Nat) (c : CacN), q + k = i ∧ s5 = .int .i64 (q : Int) ∧ CacV 0 g b (2 * i + 4 * q) wq c ∧ AllOne c.clk (fullQ i q) i ∧ c.clk.most = (i : Int) ∧ Mod (fun j => j = g ∨ j = b) w0 wq)
      case atStart => exact ⟨0, c, by omega, rfl, HC1.out.more (by omega), Ha.out.same (fullQ_zero i), Hmo.out, HM1.out⟩
      case round =>
        obtain ⟨q, d, hik, rfl, hc, ha, hmo, hm⟩ := hrel
        clear HC1 Ha Hmo HM1 Hik
        obtain ⟨wq, rfl⟩ : ∃ w9 : World, w9 = wr := ⟨_, rfl⟩
        have Hik := Lib.hid hik; have HC1 := Lib.hid hc; have Ha := Lib.hid ha; have Hmo := Lib.hid hmo; have HM1 := Lib.hid hm
        clear hik hc ha hmo hm
        by_cases hin : q < i
        · have Hin := Lib.hid hin
          have hi1 : (q : Int) < (i : Int) := by omega
          have hi2 : (q : Int) ≤ 8 := by have := HMb.out; omega
          have hi3 : (0 : Int) ≤ (q : Int) := by omega
          have Hi8 : Hid (i ≤ 8) := Lib.hid HMb.out.2
          obtain ⟨he0, c1, c2, c3, he1, he2, he3, hfr, he4, hmo2, ha2⟩ := swap_step HC1.out.good.clk Ha.out Hmo.out.symm (fullQ_not HMb.out.2) (fullQ_is hin) (rowL 1) (rowL 2)
          have He0 := Lib.hid he0; have He1 := Lib.hid he1; have He2 := Lib.hid he2; have He3 := Lib.hid he3; have He4 := Lib.hid he4; have Hmo2 := Lib.hid hmo2; have Ha2 := Lib.hid ha2
          obtain ⟨F, hF⟩ : ∃ F, framesC c3 = F := ⟨_, rfl⟩
          have hFi : (F : Int) = (i : Int) := by rw [← hF, hfr]
          have HF := Lib.hid hF
          clear hin he0 he1 he2 he3 he4 hfr hmo2 ha2 hF
          go_upto_region 13 with fail
          go_wp2_with fail
          refine (ccRow_any 1 wq).mono ?_
          rintro e w2 ⟨v2, rfl, ho2, hm2⟩
          obtain ⟨A2, n2, cp2, rfl, Hn2, _, _, _⟩ := ho2.formN
          have Hs2 : Hid (SliH 0 w2 (.slice A2 n2 cp2) (rowL 1)) := Lib.hid (SliH.of_own (ho2.mono (Nat.zero_le _)))
          have hl2 : n2 ≤ 100000 := by have h1 := rowL_len 1; have h2 := Hn2.out; omega
          have HC2 : Hid (CacV 0 g b (2 * i + 4 * q) w2 d) := Lib.hid (HC1.out.new hm2)
          have HM2 : Hid (Mod (fun j => j = g ∨ j = b) w0 w2) := Lib.hid (HM1.out.trans (hm2.mono (fun _ _ h => h.elim)) (fun _ _ h => h))
          have Hl2 := Lib.hid hl2
          clear ho2 hm2 hl2
          go_wp2_with fail
          refine (call_put (k := kI (100 + (q : Int))) He0.out HC2.out (kI_fit (by omega) (by omega)) Hs2.out Hl2.out (by have := Hi8.out; omega)).mono ?_
          rintro e w3 ⟨rfl, hc3, hm3⟩
          have HC3 : Hid (CacV 0 g b (2 * i + 4 * q + 1) w3 d) := Lib.hid hc3
          have HM3 : Hid (Mod (fun j => j = g ∨ j = b) w0 w3) := Lib.hid (HM2.out.trans hm3 (fun _ _ h => h))
          clear hc3 hm3
          go_wp2_with fail
          refine (call_unpin (k := kI (q : Int)) He1.out HC3.out (by have := Hi8.out; omega)).mono ?_
          rintro e w4 ⟨rfl, hc4, hm4⟩
          have HC4 : Hid (CacV 0 g b (2 * i + 4 * q + 1 + 1) w4 c1) := Lib.hid hc4
          have HM4 : Hid (Mod (fun j => j = g ∨ j = b) w0 w4) := Lib.hid (HM3.out.trans hm4 (fun _ _ h => h))
          clear hc4 hm4
          go_wp2_with fail
          refine (ccRow_any 2 w4).mono ?_
          rintro e w5 ⟨v5, rfl, ho5, hm5⟩
          obtain ⟨A5, n5, cp5, rfl, Hn5, _, _, _⟩ := ho5.formN
          have Hs5 : Hid (SliH 0 w5 (.slice A5 n5 cp5) (rowL 2)) := Lib.hid (SliH.of_own (ho5.mono (Nat.zero_le _)))
          have hl5 : n5 ≤ 100000 := by have h1 := rowL_len 2; have h2 := Hn5.out; omega
          have HC5 : Hid (CacV 0 g b (2 * i + 4 * q + 1 + 1) w5 c1) := Lib.hid (HC4.out.new hm5)
          have HM5 : Hid (Mod (fun j => j = g ∨ j = b) w0 w5) := Lib.hid (HM4.out.trans (hm5.mono (fun _ _ h => h.elim)) (fun _ _ h => h))
          have Hl5 := Lib.hid hl5
          clear ho5 hm5 hl5
          go_wp2_with fail
          refine (call_put (k := kI (100 + (q : Int))) He2.out HC5.out (kI_fit (by omega) (by omega)) Hs5.out Hl5.out (by have := Hi8.out; omega)).mono ?_
          rintro e w6 ⟨rfl, hc6, hm6⟩
          have HC6 : Hid (CacV 0 g b (2 * i + 4 * q + 1 + 1 + 1) w6 c2) := Lib.hid hc6
          have HM6 : Hid (Mod (fun j => j = g ∨ j = b) w0 w6) := Lib.hid (HM5.out.trans hm6 (fun _ _ h => h))
          clear hc6 hm6
          go_wp2_with fail
          refine (call_pin (k := kI (100 + (q : Int))) He3.out HC6.out (by have := Hi8.out; omega)).mono ?_
          rintro e w7 ⟨rfl, hc7, hm7⟩
          have HC7 : Hid (CacV 0 g b (2 * i + 4 * q + 1 + 1 + 1 + 1) w7 c3) := Lib.hid hc7
          have HM7 : Hid (Mod (fun j => j = g ∨ j = b) w0 w7) := Lib.hid (HM6.out.trans hm7 (fun _ _ h => h))
          clear hc7 hm7
          go_wp2_with fail
          refine (ccFrames_any w7 HC7.out).mono ?_
          rintro e w8 ⟨rfl, hm8⟩
          have HC8 : Hid (CacV 0 g b (2 * i + 4 * q + 1 + 1 + 1 + 1) w8 c3) := Lib.hid (HC7.out.new hm8)
          have HM8 : Hid (Mod (fun j => j = g ∨ j = b) w0 w8) := Lib.hid (HM7.out.trans (hm8.mono (fun _ _ h => h.elim)) (fun _ _ h => h))
          clear hm8
          rw [HF.out]
          go_wp2_with fail
          refine (call_get (k := kI (q : Int)) He4.out HC8.out (kI_fit (by omega) (by omega))).mono ?_
          rintro e w9 ⟨A9, n9, cp9, rfl, Hn9, hnc9, hcm9, ho9, hc9, hm9⟩
          have Ho9 := Lib.hid ho9
          have HC9 : Hid (CacV 0 g b (2 * i + 4 * q + 1 + 1 + 1 + 1) w9 c3) := Lib.hid (hc9.out _ (Mod.refl _ _))
          have HM9 : Hid (Mod (fun j => j = g ∨ j = b) w0 w9) := Lib.hid (HM8.out.trans (hm9.mono (fun _ _ h => .inl h)) (fun _ _ h => h))
          clear ho9 hc9 hm9
          go_wp2_with fail
          go_roundg (gk - 1)
          case measure => have := Hik.out; have := Hin.out; omega
          case rel => exact ⟨q + 1, c3, by have := Hik.out; have := Hin.out; omega, by go_num, HC9.out.more (by omega), Ha2.out.same (fullQ_succ Hin.out HMb.out.2), by rw [Hmo2.out, Hmo.out], HM9.out⟩
        · have hi : q = i := by have := Hik.out; omega
          have hqq : ¬ (q : Int) < (i : Int) := by omega
          clear hin hi
          go_wp2_with fail
          refine (ccAwake_any wq).mono ?_
          rintro e w9 ⟨rfl, hm9⟩
          have Hm9 := Lib.hid hm9
          clear hm9
          go_wp2_with fail
          go_ret
          exact ⟨rfl, (HE.out _ HM1.out).trans Hm9.out (fun _ _ h => h)⟩
end Go.Proofs.Ytcoajldhhimmoaa

/- CachDrops' walk. -/
import Derived.Test.YtcoajldhhimmoaaMx1
import Derived.Test.YtcoajldhhimmoaaIiMx
import Derived.Test.YtcoajldhhimmoaaMx10
import Derived.Test.YtcoajldhhimmoaaMx12
namespace Go.Proofs.Ytcoajldhhimmoaa
open Go.RowKit

theorem keyN_fit (n : Int) : KeyFit (keyN n) := by
  have h1 : FitI (n % 2) := ⟨by omega, by omega⟩
  have h2 : FitI (n / 2 % 2) := ⟨by omega, by omega⟩
  have h3 : FitI (n / 4 % 8) := ⟨by omega, by omega⟩
  exact ⟨h1, h2, h3⟩
theorem findK_nil (k : KeyN) : findK k ([] : List PagN) = none := rfl
/-- The cache of three with one page. -/
def oneC (k : KeyN) (n : Int) (f : KeyN → Option (List (Int × Nat))) : CacN := ⟨oneK k n, f⟩
theorem ce_put (f : KeyN → Option (List (Int × Nat))) (k : KeyN) (l : List (Int × Nat)) : putC ⟨newK 3, f⟩ k l = (oneC k 0 (setC f k l []), true) := put_eq_yes (c := ⟨newK 3, f⟩) l (one_admit k)
theorem ce_pin (f : KeyN → Option (List (Int × Nat))) (k : KeyN) : pinC (oneC k 0 f) k = (oneC k 1 f, true) := pin_eq (c := oneC k 0 f) (one_pin k)
theorem ce_unpin (f : KeyN → Option (List (Int × Nat))) (k : KeyN) : unpinC (oneC k 1 f) k = (oneC k 0 f, true) := unpin_eq_yes (c := oneC k 1 f) (one_unpin k) ⟨one_res k 1, by show 0 < pinsC (oneK k 1) k; rw [one_pins]; decide⟩
theorem ce_nodrop (f : KeyN → Option (List (Int × Nat))) (k : KeyN) : dropC (oneC k 1 f) k = (oneC k 1 f, false) := drop_eq_no (c := oneC k 1 f) (fun h => by have h2 : pinsC (oneK k 1) k = 0 := h.2; rw [one_pins] at h2; exact absurd h2 (by decide))
theorem ce_drop (f : KeyN → Option (List (Int × Nat))) (k : KeyN) : dropC (oneC k 0 f) k = (⟨newK 3, fun x => if x = k then none else f x⟩, true) := drop_eq_yes (c := oneC k 0 f) (one_drop k) ⟨by show (findK k (oneK k 0).ps).isSome = true; rw [show findK k (oneK k 0).ps = some 0 from find_one ..]; rfl, one_pins k 0⟩
theorem ce_drop2 (f : KeyN → Option (List (Int × Nat))) (k : KeyN) : dropC ⟨newK 3, f⟩ k = (⟨newK 3, f⟩, false) := drop_eq_no (fun h => by have h2 : (findK k ([] : List PagN)).isSome = true := h.1; cases h2)
theorem ce_get (f : KeyN → Option (List (Int × Nat))) (k : KeyN) : getC ⟨newK 3, f⟩ k = (⟨newK 3, f⟩, none) := get_eq_no (c := ⟨newK 3, f⟩) (none_touch 3 k)
theorem ce_odrop {k j : KeyN} (h : k ≠ j) (f : KeyN → Option (List (Int × Nat))) : dropC (oneC k 1 f) j = (oneC k 1 f, false) := drop_eq_no (c := oneC k 1 f) (fun h2 => by have h3 : (findK j (oneK k 1).ps).isSome = true := h2.1; rw [(one_other h 1 0).1] at h3; cases h3)
theorem ce_opin {k j : KeyN} (h : k ≠ j) (f : KeyN → Option (List (Int × Nat))) : pinC (oneC k 1 f) j = (oneC k 1 f, false) := pin_eq (c := oneC k 1 f) (one_other h 1 1).2.2
theorem ce_ounpin {k j : KeyN} (h : k ≠ j) (f : KeyN → Option (List (Int × Nat))) : unpinC (oneC k 1 f) j = (oneC k 1 f, false) := unpin_eq_no (c := oneC k 1 f) (fun h2 => by have h3 : resAt (oneK k 1) j = true := h2.1; rw [(one_other h 1 0).2.1] at h3; cases h3)
theorem fr_one (k : KeyN) (n : Int) (f : KeyN → Option (List (Int × Nat))) : framesC (oneC k n f) = 1 := rfl
theorem fr_none (f : KeyN → Option (List (Int × Nat))) : framesC ⟨newK 3, f⟩ = 0 := rfl
set_option maxHeartbeats 16000000 in
set_option maxRecDepth 100000 in
theorem ccdrops_walk (a0 a1 : Int) (w : World) (hf0 : FitI a0) (hf1 : FitI a1) : Calls Try.prog 5 #[.int .i64 a0, .int .i64 a1] w fun e w' => e = .returned (.bool true) ∧ Mod (fun _ => False) w w' := by
  obtain ⟨k, hk⟩ : ∃ k, keyN a0 = k := ⟨_, rfl⟩
  obtain ⟨j, hj⟩ : ∃ k, keyN a1 = k := ⟨_, rfl⟩
  have Hfk : Hid (KeyFit k) := Lib.hid (by rw [← hk]; exact keyN_fit a0)
  have Hfj : Hid (KeyFit j) := Lib.hid (by rw [← hj]; exact keyN_fit a1)
  have hkk := fun w' => ckKey_any a0 w' hf0
  have hkj := fun w' => ckKey_any a1 w' hf1
  rw [hk] at hkk
  rw [hj] at hkj
  have Hk0 := Lib.hid hkk; have Hj0 := Lib.hid hkj
  clear hk hj hkk hkj hf0 hf1
  go_enter Try.func5, Try.ntmps5
  go_wp2_with fail
  refine (ccNew_any 3 w).mono ?_
  rintro e w0 ⟨g, b, rfl, hc0, hm0, hb0, hg0⟩
  have HC0 : Hid (CacV 0 g b 0 w0 (newC 3)) := Lib.hid (hc0 _ (Mod.refl _ _) 0 (Nat.zero_le _))
  have HE : Hid (∀ W', Mod (fun j => j = g ∨ j = b) w0 W' → Mod (fun _ => False) w W') := Lib.hid (fun W' h => hm0.trans h (fun i hi h => by omega))
  have HM0 : Hid (Mod (fun j => j = g ∨ j = b) w0 w0) := Lib.hid (Mod.refl _ _)
  clear hc0 hm0 hb0 hg0
  go_wp2_with fail
  refine (Hk0.out w0).mono ?_
  rintro e w1 ⟨rfl, hm1⟩
  go_wp2_with fail
  refine (Hj0.out w1).mono ?_
  rintro e w2 ⟨rfl, hm2⟩
  obtain ⟨W, hW, hmW, hkW, hjW⟩ := two_keys w2 #[.int .i64 k.s, .int .i64 k.l, .int .i64 k.b] #[.int .i64 j.s, .int .i64 j.l, .int .i64 j.b]
  obtain ⟨gk, hgk⟩ : ∃ x, x = w2.heap.size := ⟨_, rfl⟩
  obtain ⟨gj, hgj⟩ : ∃ x, x = w2.heap.size + 1 := ⟨_, rfl⟩
  rw [← hgj] at hjW
  rw [← hgk] at hkW
  have hm12 := hm1.trans hm2 (fun _ _ h => h)
  have hne : (gk ≠ g ∧ gk ≠ b) ∧ gj ≠ g ∧ gj ≠ b := by have := (HC0.out.new hm12).lt; omega
  have Hkk : Hid (∀ W', Mod (fun j => j = g ∨ j = b) W W' → Blk W' gk 28 #[.int .i64 k.s, .int .i64 k.l, .int .i64 k.b]) := Lib.hid (fun W' h => h.blk hkW (fun h => h.elim hne.1.1 hne.1.2))
  have Hkj : Hid (∀ W', Mod (fun j => j = g ∨ j = b) W W' → Blk W' gj 28 #[.int .i64 j.s, .int .i64 j.l, .int .i64 j.b]) := Lib.hid (fun W' h => h.blk hjW (fun h => h.elim hne.2.1 hne.2.2))
  have HC1 : Hid (CacV 0 g b 0 W (newC 3)) := Lib.hid ((HC0.out.new hm12).new hmW)
  have HM1 : Hid (Mod (fun j => j = g ∨ j = b) W W) := Lib.hid (Mod.refl _ _)
  have HE2 : Hid (∀ W', Mod (fun j => j = g ∨ j = b) W W' → Mod (fun _ => False) w W') := Lib.hid (fun W' h => HE.out W' (((hm12.trans hmW (fun _ _ h => h)).mono (fun _ _ h => h.elim)).trans h (fun _ _ h => h)))
  have HW := Lib.hid hW; have Hgk := Lib.hid hgk; have Hgj := Lib.hid hgj
  clear hm1 hm2 hW hmW hkW hjW hgk hgj hm12 hne Hk0 Hj0 HC0 HM0 HE
  go_upto_region 3 with fail
  rw [← HW.out, ← Hgj.out, ← Hgk.out]
  clear HW Hgk Hgj
  go_cut [34] from 15 to 34 (fun s34 wx => s34 = .bool false ∧ CacV 0 g b 3 wx (oneC k 1 (setC (fun _ => none) k (rowL 3) [])) ∧ Mod (fun j => j = g ∨ j = b) W wx)
  case first =>
    as_aux_lemma =>
      have hk := Hkk.out _ HM1.out
      have z0 := hk.cell 0
      have z1 := hk.cell 1
      have z2 := hk.cell 2
      simp at z0 z1 z2
      clear hk
      go_region_with (first
        | (go_at_call 14; (with_reducible refine (ccRow_any 3 W.drew).mono ?_); rintro e w2 ⟨v2, rfl, ho2, hm2⟩; obtain ⟨A2, n2, cp2, rfl, Hn2, q1, q2, q3⟩ := ho2.formN; have Hs2 : Hid (SliH 0 w2 (.slice A2 n2 cp2) (rowL 3)) := Lib.hid (SliH.of_own (ho2.mono (Nat.zero_le _))); have Hl2 : Hid (n2 ≤ 100000) := Lib.hid (by have h1 := rowL_len 3; have h2 := Hn2.out; omega); have HC2 : Hid (CacV 0 g b 0 w2 (newC 3)) := Lib.hid (HC1.out.new (((Mod.refl _ _).drew).trans hm2 (fun _ _ h => h))); have HM2 : Hid (Mod (fun j => j = g ∨ j = b) W w2) := Lib.hid (HM1.out.trans ((((Mod.refl _ _).drew).trans hm2 (fun _ _ h => h)).mono (fun _ _ h => h.elim)) (fun _ _ h => h)); have hk := Hkk.out _ HM2.out; have z0n2 := hk.cell 0; have z1n2 := hk.cell 1; have z2n2 := hk.cell 2; simp at z0n2 z1n2 z2n2; clear hk; clear ho2 hm2 q1 q2 q3)
        | (go_at_call 9; (with_reducible refine (call_put (k := k) (ce_put (fun _ => none) k (rowL 3)) HC2.out Hfk.out Hs2.out Hl2.out (by omega)).mono ?_); rintro e w3 ⟨rfl, hc3, hm3⟩; have HC3 : Hid (CacV 0 g b (0 + 1) w3 (oneC k 0 (setC (fun _ => none) k (rowL 3) []))) := Lib.hid hc3; have HM3 : Hid (Mod (fun j => j = g ∨ j = b) W w3) := Lib.hid (HM2.out.trans hm3 (fun _ _ h => h)); have hk := Hkk.out _ HM3.out; have z0n3 := hk.cell 0; have z1n3 := hk.cell 1; have z2n3 := hk.cell 2; simp at z0n3 z1n3 z2n3; clear hk; clear hc3 hm3)
        | (go_at_call 15; (with_reducible refine (call_pin (k := k) (ce_pin _ k) HC3.out (by omega)).mono ?_); rintro e w4 ⟨rfl, hc4, hm4⟩; have HC4 : Hid (CacV 0 g b (0 + 1 + 1) w4 (oneC k 1 (setC (fun _ => none) k (rowL 3) []))) := Lib.hid hc4; have HM4 : Hid (Mod (fun j => j = g ∨ j = b) W w4) := Lib.hid (HM3.out.trans hm4 (fun _ _ h => h)); have hk := Hkk.out _ HM4.out; have z0n4 := hk.cell 0; have z1n4 := hk.cell 1; have z2n4 := hk.cell 2; simp at z0n4 z1n4 z2n4; clear hk; clear hc4 hm4)
        | (go_at_call 18; (with_reducible refine (call_drop (k := k) (ce_nodrop _ k) HC4.out Hfk.out).mono ?_); rintro e w5 ⟨rfl, hc5, hm5⟩; have HC5 : Hid (CacV 0 g b (0 + 1 + 1 + 1) w5 (oneC k 1 (setC (fun _ => none) k (rowL 3) []))) := Lib.hid hc5; have HM5 : Hid (Mod (fun j => j = g ∨ j = b) W w5) := Lib.hid (HM4.out.trans hm5 (fun _ _ h => h)); have hk := Hkk.out _ HM5.out; have z0n5 := hk.cell 0; have z1n5 := hk.cell 1; have z2n5 := hk.cell 2; simp at z0n5 z1n5 z2n5; clear hk; clear hc5 hm5))
      all_goals (go_wp2_with fail; go_meet)
      all_goals exact ⟨rfl, HC5.out, HM5.out⟩
  case rest =>
    as_aux_lemma =>
      obtain ⟨rfl, hc, hm⟩ := hcut
      obtain ⟨w3, rfl⟩ : ∃ w0 : World, w0 = wc := ⟨_, rfl⟩
      clear HC1 HM1
      have HC1 := Lib.hid hc; have HM1 := Lib.hid hm
      clear hc hm
      go_upto_region 5 with fail
      go_cut [52] from 35 to 52 (fun s52 wx => s52 = .bool false ∧ CacV 0 g b 6 wx (oneC k 1 (setC (fun _ => none) k (rowL 3) [])) ∧ Mod (fun j => j = g ∨ j = b) W wx)
      case first =>
        as_aux_lemma =>
          by_cases hkj : k = j
          · subst hkj
            have hk := Hkj.out _ HM1.out
            have x0 := hk.cell 0
            have x1 := hk.cell 1
            have x2 := hk.cell 2
            simp at x0 x1 x2
            clear hk
            have hk := Hkk.out _ HM1.out
            have z0 := hk.cell 0
            have z1 := hk.cell 1
            have z2 := hk.cell 2
            simp at z0 z1 z2
            clear hk
            go_wp2_with fail
            go_meet
            exact ⟨rfl, HC1.out.more (by omega), HM1.out⟩
          · have Hkj2 := Lib.hid hkj
            obtain ⟨js, jl, jb⟩ := j
            by_cases d0 : k.s = js
            · subst d0
              by_cases d1 : k.l = jl
              · subst d1
                have d2 : ¬ k.b = jb := fun e => hkj (by rw [← e])
                clear hkj
                have hk := Hkj.out _ HM1.out
                have x0 := hk.cell 0
                have x1 := hk.cell 1
                have x2 := hk.cell 2
                simp at x0 x1 x2
                clear hk
                have hk := Hkk.out _ HM1.out
                have z0 := hk.cell 0
                have z1 := hk.cell 1
                have z2 := hk.cell 2
                simp at z0 z1 z2
                clear hk
                go_wp2_with fail
                clear x0 x1 x2 z0 z1 z2
                refine (call_drop (ce_odrop Hkj2.out _) HC1.out Hfj.out).mono ?_
                rintro e w2 ⟨rfl, hc2, hm2⟩
                have HC2 : Hid (CacV 0 g b (3 + 1) w2 (oneC k 1 (setC (fun _ => none) k (rowL 3) []))) := Lib.hid hc2
                have HM2 : Hid (Mod (fun j => j = g ∨ j = b) W w2) := Lib.hid (HM1.out.trans hm2 (fun _ _ h => h))
                clear hc2 hm2
                have hk := Hkj.out _ HM2.out
                have x0 := hk.cell 0
                have x1 := hk.cell 1
                have x2 := hk.cell 2
                simp at x0 x1 x2
                clear hk
                go_wp2_with fail
                clear x0 x1 x2
                refine (call_pin (ce_opin Hkj2.out _) HC2.out (by omega)).mono ?_
                rintro e w3 ⟨rfl, hc3, hm3⟩
                have HC3 : Hid (CacV 0 g b (3 + 1 + 1) w3 (oneC k 1 (setC (fun _ => none) k (rowL 3) []))) := Lib.hid hc3
                have HM3 : Hid (Mod (fun j => j = g ∨ j = b) W w3) := Lib.hid (HM2.out.trans hm3 (fun _ _ h => h))
                clear hc3 hm3
                have hk := Hkj.out _ HM3.out
                have x0 := hk.cell 0
                have x1 := hk.cell 1
                have x2 := hk.cell 2
                simp at x0 x1 x2
                clear hk
                go_wp2_with fail
                clear x0 x1 x2
                refine (call_unpin (ce_ounpin Hkj2.out _) HC3.out (by omega)).mono ?_
                rintro e w4 ⟨rfl, hc4, hm4⟩
                have HC4 : Hid (CacV 0 g b (3 + 1 + 1 + 1) w4 (oneC k 1 (setC (fun _ => none) k (rowL 3) []))) := Lib.hid hc4
                have HM4 : Hid (Mod (fun j => j = g ∨ j = b) W w4) := Lib.hid (HM3.out.trans hm4 (fun _ _ h => h))
                clear hc4 hm4
                go_wp2_with fail
                go_meet
                exact ⟨rfl, HC4.out, HM4.out⟩
              · clear hkj
                have hk := Hkj.out _ HM1.out
                have x0 := hk.cell 0
                have x1 := hk.cell 1
                have x2 := hk.cell 2
                simp at x0 x1 x2
                clear hk
                have hk := Hkk.out _ HM1.out
                have z0 := hk.cell 0
                have z1 := hk.cell 1
                have z2 := hk.cell 2
                simp at z0 z1 z2
                clear hk
                go_wp2_with fail
                clear x0 x1 x2 z0 z1 z2
                refine (call_drop (ce_odrop Hkj2.out _) HC1.out Hfj.out).mono ?_
                rintro e w2 ⟨rfl, hc2, hm2⟩
                have HC2 : Hid (CacV 0 g b (3 + 1) w2 (oneC k 1 (setC (fun _ => none) k (rowL 3) []))) := Lib.hid hc2
                have HM2 : Hid (Mod (fun j => j = g ∨ j = b) W w2) := Lib.hid (HM1.out.trans hm2 (fun _ _ h => h))
                clear hc2 hm2
                have hk := Hkj.out _ HM2.out
                have x0 := hk.cell 0
                have x1 := hk.cell 1
                have x2 := hk.cell 2
                simp at x0 x1 x2
                clear hk
                go_wp2_with fail
                clear x0 x1 x2
                refine (call_pin (ce_opin Hkj2.out _) HC2.out (by omega)).mono ?_
                rintro e w3 ⟨rfl, hc3, hm3⟩
                have HC3 : Hid (CacV 0 g b (3 + 1 + 1) w3 (oneC k 1 (setC (fun _ => none) k (rowL 3) []))) := Lib.hid hc3
                have HM3 : Hid (Mod (fun j => j = g ∨ j = b) W w3) := Lib.hid (HM2.out.trans hm3 (fun _ _ h => h))
                clear hc3 hm3
                have hk := Hkj.out _ HM3.out
                have x0 := hk.cell 0
                have x1 := hk.cell 1
                have x2 := hk.cell 2
                simp at x0 x1 x2
                clear hk
                go_wp2_with fail
                clear x0 x1 x2
                refine (call_unpin (ce_ounpin Hkj2.out _) HC3.out (by omega)).mono ?_
                rintro e w4 ⟨rfl, hc4, hm4⟩
                have HC4 : Hid (CacV 0 g b (3 + 1 + 1 + 1) w4 (oneC k 1 (setC (fun _ => none) k (rowL 3) []))) := Lib.hid hc4
                have HM4 : Hid (Mod (fun j => j = g ∨ j = b) W w4) := Lib.hid (HM3.out.trans hm4 (fun _ _ h => h))
                clear hc4 hm4
                go_wp2_with fail
                go_meet
                exact ⟨rfl, HC4.out, HM4.out⟩
            · clear hkj
              have hk := Hkj.out _ HM1.out
              have x0 := hk.cell 0
              have x1 := hk.cell 1
              have x2 := hk.cell 2
              simp at x0 x1 x2
              clear hk
              have hk := Hkk.out _ HM1.out
              have z0 := hk.cell 0
              have z1 := hk.cell 1
              have z2 := hk.cell 2
              simp at z0 z1 z2
              clear hk
              go_wp2_with fail
              clear x0 x1 x2 z0 z1 z2
              refine (call_drop (ce_odrop Hkj2.out _) HC1.out Hfj.out).mono ?_
              rintro e w2 ⟨rfl, hc2, hm2⟩
              have HC2 : Hid (CacV 0 g b (3 + 1) w2 (oneC k 1 (setC (fun _ => none) k (rowL 3) []))) := Lib.hid hc2
              have HM2 : Hid (Mod (fun j => j = g ∨ j = b) W w2) := Lib.hid (HM1.out.trans hm2 (fun _ _ h => h))
              clear hc2 hm2
              have hk := Hkj.out _ HM2.out
              have x0 := hk.cell 0
              have x1 := hk.cell 1
              have x2 := hk.cell 2
              simp at x0 x1 x2
              clear hk
              go_wp2_with fail
              clear x0 x1 x2
              refine (call_pin (ce_opin Hkj2.out _) HC2.out (by omega)).mono ?_
              rintro e w3 ⟨rfl, hc3, hm3⟩
              have HC3 : Hid (CacV 0 g b (3 + 1 + 1) w3 (oneC k 1 (setC (fun _ => none) k (rowL 3) []))) := Lib.hid hc3
              have HM3 : Hid (Mod (fun j => j = g ∨ j = b) W w3) := Lib.hid (HM2.out.trans hm3 (fun _ _ h => h))
              clear hc3 hm3
              have hk := Hkj.out _ HM3.out
              have x0 := hk.cell 0
              have x1 := hk.cell 1
              have x2 := hk.cell 2
              simp at x0 x1 x2
              clear hk
              go_wp2_with fail
              clear x0 x1 x2
              refine (call_unpin (ce_ounpin Hkj2.out _) HC3.out (by omega)).mono ?_
              rintro e w4 ⟨rfl, hc4, hm4⟩
              have HC4 : Hid (CacV 0 g b (3 + 1 + 1 + 1) w4 (oneC k 1 (setC (fun _ => none) k (rowL 3) []))) := Lib.hid hc4
              have HM4 : Hid (Mod (fun j => j = g ∨ j = b) W w4) := Lib.hid (HM3.out.trans hm4 (fun _ _ h => h))
              clear hc4 hm4
              go_wp2_with fail
              go_meet
              exact ⟨rfl, HC4.out, HM4.out⟩
      case rest =>
        as_aux_lemma =>
          obtain ⟨rfl, hc, hm⟩ := hcut
          obtain ⟨w4, rfl⟩ : ∃ w0 : World, w0 = wc := ⟨_, rfl⟩
          clear HC1 HM1
          have HC1 := Lib.hid hc; have HM1 := Lib.hid hm
          clear hc hm

          have hk := Hkk.out _ HM1.out
          have z0 := hk.cell 0
          have z1 := hk.cell 1
          have z2 := hk.cell 2
          simp at z0 z1 z2
          clear hk
          go_wp2_with fail
          clear z0 z1 z2
          refine (call_unpin (k := k) (ce_unpin _ k) HC1.out (by omega)).mono ?_
          rintro e w12 ⟨rfl, hc12, hm12⟩
          have HC12 : Hid (CacV 0 g b (6 + 1) w12 (oneC k 0 (setC (fun _ => none) k (rowL 3) []))) := Lib.hid hc12
          have HM12 : Hid (Mod (fun j => j = g ∨ j = b) W w12) := Lib.hid (HM1.out.trans hm12 (fun _ _ h => h))
          clear hc12 hm12
          have hk := Hkk.out _ HM12.out
          have z0 := hk.cell 0
          have z1 := hk.cell 1
          have z2 := hk.cell 2
          simp at z0 z1 z2
          clear hk
          go_wp2_with fail
          clear z0 z1 z2
          refine (call_drop (k := k) (ce_drop _ k) HC12.out Hfk.out).mono ?_
          rintro e w13 ⟨rfl, hc13, hm13⟩
          have HC13 : Hid (CacV 0 g b (6 + 1 + 1) w13 ⟨newK 3, fun x => if x = k then none else (setC (fun _ => none) k (rowL 3) []) x⟩) := Lib.hid hc13
          have HM13 : Hid (Mod (fun j => j = g ∨ j = b) W w13) := Lib.hid (HM12.out.trans hm13 (fun _ _ h => h))
          clear hc13 hm13
          have hk := Hkk.out _ HM13.out
          have z0 := hk.cell 0
          have z1 := hk.cell 1
          have z2 := hk.cell 2
          simp at z0 z1 z2
          clear hk
          go_wp2_with fail
          clear z0 z1 z2
          refine (call_drop (k := k) (ce_drop2 (fun x => if x = k then none else (setC (fun _ => none) k (rowL 3) []) x) k) HC13.out Hfk.out).mono ?_
          rintro e w14 ⟨rfl, hc14, hm14⟩
          have HC14 : Hid (CacV 0 g b (6 + 1 + 1 + 1) w14 ⟨newK 3, fun x => if x = k then none else (setC (fun _ => none) k (rowL 3) []) x⟩) := Lib.hid hc14
          have HM14 : Hid (Mod (fun j => j = g ∨ j = b) W w14) := Lib.hid (HM13.out.trans hm14 (fun _ _ h => h))
          clear hc14 hm14
          go_wp2_with fail
          refine (ccFrames_any w14 HC14.out).mono ?_
          rintro e w15 ⟨rfl, hm15⟩
          have HC15 : Hid (CacV 0 g b (6 + 1 + 1 + 1) w15 ⟨newK 3, fun x => if x = k then none else (setC (fun _ => none) k (rowL 3) []) x⟩) := Lib.hid (HC14.out.new hm15)
          have HM15 : Hid (Mod (fun j => j = g ∨ j = b) W w15) := Lib.hid (HM14.out.trans (hm15.mono (fun _ _ h => h.elim)) (fun _ _ h => h))
          clear hm15
          rw [fr_none (fun x => if x = k then none else (setC (fun _ => none) k (rowL 3) []) x)]
          go_wp2_with fail
          refine (call_clock (n := 0) HC15.out rfl).mono ?_
          rintro e w16 ⟨v0, v1, v3, v4, v5, A16, c16, rfl, hnc16, hcm16, ho16, hm16⟩
          have HC16 : Hid (CacV 0 g b (6 + 1 + 1 + 1) w16 ⟨newK 3, fun x => if x = k then none else (setC (fun _ => none) k (rowL 3) []) x⟩) := Lib.hid (HC15.out.new hm16)
          have HM16 : Hid (Mod (fun j => j = g ∨ j = b) W w16) := Lib.hid (HM15.out.trans (hm16.mono (fun _ _ h => h.elim)) (fun _ _ h => h))
          clear hm16 ho16
          have hfd := field_pages v0 v1 (.slice A16 0 c16) v3 v4 v5 w16
          have hk := Hkk.out _ HM16.out
          have z0 := hk.cell 0
          have z1 := hk.cell 1
          have z2 := hk.cell 2
          simp at z0 z1 z2
          clear hk
          go_wp2_with fail
          clear hfd
          clear z0 z1 z2
          refine (call_get (k := k) (ce_get (fun x => if x = k then none else (setC (fun _ => none) k (rowL 3) []) x) k) HC16.out Hfk.out).mono ?_
          rintro e w17 ⟨A17, n17, cp17, rfl, Hn17, hnc17, hcm17, ho17, hc17, hm17⟩
          have Ho17 := Lib.hid ho17
          have HC17 : Hid (CacV 0 g b (6 + 1 + 1 + 1) w17 ⟨newK 3, fun x => if x = k then none else (setC (fun _ => none) k (rowL 3) []) x⟩) := Lib.hid (hc17.out _ (Mod.refl _ _))
          have HM17 : Hid (Mod (fun j => j = g ∨ j = b) W w17) := Lib.hid (HM16.out.trans (hm17.mono (fun _ _ h => .inl h)) (fun _ _ h => h))
          clear ho17 hc17 hm17
          go_upto_region 10 with fail
          have hk := Hkk.out _ HM17.out
          have z0 := hk.cell 0
          have z1 := hk.cell 1
          have z2 := hk.cell 2
          simp at z0 z1 z2
          clear hk
          go_region_with (first
            | (go_at_call 14; (with_reducible refine (ccRow_any 2 w17.drew).mono ?_); rintro e w2 ⟨v2, rfl, ho2, hm2⟩; obtain ⟨A2, n2, cp2, rfl, Hn2, q1, q2, q3⟩ := ho2.formN; have Hs2 : Hid (SliH 0 w2 (.slice A2 n2 cp2) (rowL 2)) := Lib.hid (SliH.of_own (ho2.mono (Nat.zero_le _))); have Hl2 : Hid (n2 ≤ 100000) := Lib.hid (by have h1 := rowL_len 2; have h2 := Hn2.out; omega); have HC2 : Hid (CacV 0 g b (6 + 1 + 1 + 1) w2 ⟨newK 3, fun x => if x = k then none else (setC (fun _ => none) k (rowL 3) []) x⟩) := Lib.hid (HC17.out.new (((Mod.refl _ _).drew).trans hm2 (fun _ _ h => h))); have HM2 : Hid (Mod (fun j => j = g ∨ j = b) W w2) := Lib.hid (HM17.out.trans ((((Mod.refl _ _).drew).trans hm2 (fun _ _ h => h)).mono (fun _ _ h => h.elim)) (fun _ _ h => h)); have hk := Hkk.out _ HM2.out; have z0n2 := hk.cell 0; have z1n2 := hk.cell 1; have z2n2 := hk.cell 2; simp at z0n2 z1n2 z2n2; clear hk; clear ho2 hm2 q1 q2 q3)
            | (go_at_call 9; (with_reducible refine (call_put (k := k) (ce_put (fun x => if x = k then none else (setC (fun _ => none) k (rowL 3) []) x) k (rowL 2)) HC2.out Hfk.out Hs2.out Hl2.out (by omega)).mono ?_); rintro e w3 ⟨rfl, hc3, hm3⟩; have HC3 : Hid (CacV 0 g b (6 + 1 + 1 + 1 + 1) w3 (oneC k 0 (setC (fun x => if x = k then none else (setC (fun _ => none) k (rowL 3) []) x) k (rowL 2) []))) := Lib.hid hc3; have HM3 : Hid (Mod (fun j => j = g ∨ j = b) W w3) := Lib.hid (HM2.out.trans hm3 (fun _ _ h => h)); have hk := Hkk.out _ HM3.out; have z0n3 := hk.cell 0; have z1n3 := hk.cell 1; have z2n3 := hk.cell 2; simp at z0n3 z1n3 z2n3; clear hk; clear hc3 hm3)
            | (go_at_call 16; (with_reducible refine (ccFrames_any w3 HC3.out).mono ?_); rintro e w4 ⟨rfl, hm4⟩; have HM4 : Hid (Mod (fun j => j = g ∨ j = b) W w4) := Lib.hid (HM3.out.trans (hm4.mono (fun _ _ h => h.elim)) (fun _ _ h => h)); rw [fr_one]; clear hm4)
            | (go_at_call 7; (with_reducible refine (ccAwake_any w4).mono ?_); rintro e w5 ⟨rfl, hm5⟩; have HM5 : Hid (Mod (fun j => j = g ∨ j = b) W w5) := Lib.hid (HM4.out.trans (hm5.mono (fun _ _ h => h.elim)) (fun _ _ h => h)); clear hm5))
          all_goals (
            go_wp2_with fail
            go_ret
            exact ⟨rfl, HE2.out _ HM5.out⟩)
end Go.Proofs.Ytcoajldhhimmoaa

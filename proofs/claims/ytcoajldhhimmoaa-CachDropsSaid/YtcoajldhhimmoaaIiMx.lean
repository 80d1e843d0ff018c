/- The law's awake. -/
import Derived.Test.YtcoajldhhimmoaaMx1
import Derived.Test.YtcoajldhhimmoaaIjMx
namespace Go.Proofs.Ytcoajldhhimmoaa
open Go.RowKit

def kA : KeyN := ⟨0, 0, 1⟩
def kB : KeyN := ⟨0, 0, 2⟩
def sk1 : ClkN := ⟨1, 1, [⟨kA, 2, false, true, 0⟩], 0, 0, 0⟩
def sk2 : ClkN := ⟨1, 1, [⟨kA, 2, false, true, 1⟩], 0, 0, 0⟩
def sk6 : ClkN := ⟨1, 1, [⟨kB, 2, false, true, 0⟩, ⟨kA, 3, false, true, 0⟩], 1, 1, 1⟩
def sk7 : ClkN := ⟨1, 1, [⟨kB, 2, true, true, 0⟩, ⟨kA, 3, false, true, 0⟩], 1, 1, 1⟩
def sc1 : CacN := ⟨sk1, setC (fun _ => none) kA [(1, 0)] []⟩
def sc2 : CacN := ⟨sk2, sc1.sam⟩
def sc6 : CacN := ⟨sk6, setC sc1.sam kB [(2, 0)] [kA]⟩
def sc7 : CacN := ⟨sk7, sc6.sam⟩
theorem sa1 : admitK (newK 1) kA = (sk1, [], true) := by decide
theorem sa7 : admitK sk1 kB = (sk6, [kA], true) := by decide
theorem se1 : putC (newC 1) kA [(1, 0)] = (sc1, true) := put_eq_yes (c := newC 1) _ sa1
theorem se2 : pinC sc1 kA = (sc2, true) := pin_eq (c := sc1) (c2 := sk2) (by decide)
theorem se3 : putC sc2 kB [] = (sc2, false) := put_eq_no (c := sc2) (c2 := sk2) (os := []) _ (by decide)
theorem se4 : dropC sc2 kA = (sc2, false) := drop_eq_no (by decide)
theorem se5 : unpinC sc2 kA = (sc1, true) := unpin_eq_yes (c := sc2) (c2 := sk1) (ok := true) (by decide) (by decide)
theorem se6 : unpinC sc1 kA = (sc1, false) := unpin_eq_no (by decide)
theorem se7 : putC sc1 kB [(2, 0)] = (sc6, true) := put_eq_yes (c := sc1) _ sa7
theorem se8 : getC sc6 kA = (sc6, none) := get_eq_no (c := sc6) (c2 := sk6) (by decide)
theorem se9 : getC sc6 kB = (sc7, some [(2, 0)]) := get_eq_yes (c := sc6) (c2 := sk7) (by decide)
theorem two_keys (w : World) (k1 k2 : Array Value) : ∃ W, W = (w.alloc (.cells k1 28)).alloc (.cells k2 28) ∧ Mod (fun _ => False) w W ∧ Blk W w.heap.size 28 k1 ∧ Blk W (w.heap.size + 1) 28 k2 := by
  refine ⟨_, rfl, ((Mod.refl _ _).alloc _).alloc _, (Blk.new _ _ _).alloc _, ?_⟩
  have h := Blk.new (w.alloc (.cells k1 28)) 28 k2
  simpa using h
set_option maxHeartbeats 8000000 in
set_option maxRecDepth 100000 in
theorem ccAwake_any (w : World) : Calls Try.prog 7 #[] w fun e w' => e = .returned (.bool true) ∧ Mod (fun _ => False) w w' := by
  go_enter Try.func7, Try.ntmps7
  go_wp2_with fail
  refine (ccNew_any 1 w).mono ?_
  rintro e w1 ⟨g, b, rfl, hc, hm1, hb0, hg0⟩
  have h0 := hc _ (Mod.refl _ _) 0 (Nat.zero_le _)
  obtain ⟨W, hW, hmW, haW, hbW⟩ := two_keys w1 #[.int .i64 0, .int .i64 0, .int .i64 1] #[.int .i64 0, .int .i64 0, .int .i64 2]
  obtain ⟨ga, hga⟩ : ∃ x, x = w1.heap.size := ⟨_, rfl⟩
  obtain ⟨gb, hgb⟩ : ∃ x, x = w1.heap.size + 1 := ⟨_, rfl⟩
  rw [← hgb] at hbW
  rw [← hga] at haW
  have hne : (ga ≠ g ∧ ga ≠ b) ∧ gb ≠ g ∧ gb ≠ b := by have := h0.lt; omega
  have Hka : Hid (∀ W', Mod (fun j => j = g ∨ j = b) W W' → Blk W' ga 28 #[.int .i64 0, .int .i64 0, .int .i64 1]) := Lib.hid (fun W' h => h.blk haW (fun h => h.elim hne.1.1 hne.1.2))
  have Hkb : Hid (∀ W', Mod (fun j => j = g ∨ j = b) W W' → Blk W' gb 28 #[.int .i64 0, .int .i64 0, .int .i64 2]) := Lib.hid (fun W' h => h.blk hbW (fun h => h.elim hne.2.1 hne.2.2))
  have HC0 : Hid (CacV 0 g b 0 W (newC 1)) := Lib.hid (h0.new hmW)
  have HM0 : Hid (Mod (fun j => j = g ∨ j = b) W W) := Lib.hid (Mod.refl _ _)
  have HE : Hid (∀ W', Mod (fun j => j = g ∨ j = b) W W' → Mod (fun _ => False) w W') := Lib.hid (fun W' h => (hm1.trans hmW (fun _ _ h => h)).trans h (fun i hi h => by omega))
  have Hfita : Hid (KeyFit kA) := Lib.hid (keyFit_lit 1 (by omega) (by omega))
  have Hfitb : Hid (KeyFit kB) := Lib.hid (keyFit_lit 2 (by omega) (by omega))
  have HW := Lib.hid hW; have Hga := Lib.hid hga; have Hgb := Lib.hid hgb
  clear hc h0 hW hmW haW hbW hga hgb hne hm1 hb0 hg0
  go_upto_region 5 with fail
  rw [← HW.out, ← Hgb.out, ← Hga.out]
  have Hs1 : Hid (SliH 0 (W.alloc (.cells #[.int .i64 1, .int .u64 0] 31)) (.slice (some ⟨W.heap.size, 0, none⟩) 1 1) [(1, 0)]) := Lib.hid (sli_one W 1 0)
  have Hma1 : Hid (Mod (fun j => j = g ∨ j = b) W (W.alloc (.cells #[.int .i64 1, .int .u64 0] 31))) := Lib.hid (HM0.out.alloc _)
  have Hca1 : Hid (CacV 0 g b 0 (W.alloc (.cells #[.int .i64 1, .int .u64 0] 31)) (newC 1)) := Lib.hid (HC0.out.new ((Mod.refl _ _).alloc _))
  have hk := Hka.out _ HM0.out
  have z0 := hk.cell 0
  have z1 := hk.cell 1
  have z2 := hk.cell 2
  simp at z0 z1 z2
  clear hk
  go_wp2_with fail
  clear z0 z1 z2
  refine (call_put se1 Hca1.out Hfita.out Hs1.out (by omega) (by omega)).mono ?_
  rintro e w1 ⟨rfl, hc1, hm1⟩
  have HC1 : Hid (CacV 0 g b 1 w1 sc1) := Lib.hid hc1
  have HM1 : Hid (Mod (fun j => j = g ∨ j = b) W w1) := Lib.hid (Hma1.out.trans hm1 (fun _ _ h => h))
  clear hc1 hm1
  have hk := Hka.out _ HM1.out
  have z0 := hk.cell 0
  have z1 := hk.cell 1
  have z2 := hk.cell 2
  simp at z0 z1 z2
  clear hk
  go_wp2_with fail
  clear z0 z1 z2
  refine (call_pin se2 HC1.out (by omega)).mono ?_
  rintro e w2 ⟨rfl, hc2, hm2⟩
  have HC2 : Hid (CacV 0 g b 2 w2 sc2) := Lib.hid hc2
  have HM2 : Hid (Mod (fun j => j = g ∨ j = b) W w2) := Lib.hid (HM1.out.trans hm2 (fun _ _ h => h))
  clear hc2 hm2
  have hk := Hkb.out _ HM2.out
  have z0 := hk.cell 0
  have z1 := hk.cell 1
  have z2 := hk.cell 2
  simp at z0 z1 z2
  clear hk
  go_wp2_with fail
  clear z0 z1 z2
  refine (call_put se3 HC2.out Hfitb.out (sli_none w2) (by omega) (by omega)).mono ?_
  rintro e w3 ⟨rfl, hc3, hm3⟩
  have HC3 : Hid (CacV 0 g b 3 w3 sc2) := Lib.hid hc3
  have HM3 : Hid (Mod (fun j => j = g ∨ j = b) W w3) := Lib.hid (HM2.out.trans hm3 (fun _ _ h => h))
  clear hc3 hm3
  have hk := Hka.out _ HM3.out
  have z0 := hk.cell 0
  have z1 := hk.cell 1
  have z2 := hk.cell 2
  simp at z0 z1 z2
  clear hk
  go_wp2_with fail
  clear z0 z1 z2
  refine (call_drop se4 HC3.out Hfita.out).mono ?_
  rintro e w4 ⟨rfl, hc4, hm4⟩
  have HC4 : Hid (CacV 0 g b 4 w4 sc2) := Lib.hid hc4
  have HM4 : Hid (Mod (fun j => j = g ∨ j = b) W w4) := Lib.hid (HM3.out.trans hm4 (fun _ _ h => h))
  clear hc4 hm4
  have hk := Hka.out _ HM4.out
  have z0 := hk.cell 0
  have z1 := hk.cell 1
  have z2 := hk.cell 2
  simp at z0 z1 z2
  clear hk
  go_wp2_with fail
  clear z0 z1 z2
  refine (call_unpin se5 HC4.out (by omega)).mono ?_
  rintro e w5 ⟨rfl, hc5, hm5⟩
  have HC5 : Hid (CacV 0 g b 5 w5 sc1) := Lib.hid hc5
  have HM5 : Hid (Mod (fun j => j = g ∨ j = b) W w5) := Lib.hid (HM4.out.trans hm5 (fun _ _ h => h))
  clear hc5 hm5
  have hk := Hka.out _ HM5.out
  have z0 := hk.cell 0
  have z1 := hk.cell 1
  have z2 := hk.cell 2
  simp at z0 z1 z2
  clear hk
  go_wp2_with fail
  clear z0 z1 z2
  refine (call_unpin se6 HC5.out (by omega)).mono ?_
  rintro e w6 ⟨rfl, hc6, hm6⟩
  have HC6 : Hid (CacV 0 g b 6 w6 sc1) := Lib.hid hc6
  have HM6 : Hid (Mod (fun j => j = g ∨ j = b) W w6) := Lib.hid (HM5.out.trans hm6 (fun _ _ h => h))
  clear hc6 hm6
  have Hs7 : Hid (SliH 0 (w6.alloc (.cells #[.int .i64 2, .int .u64 0] 31)) (.slice (some ⟨w6.heap.size, 0, none⟩) 1 1) [(2, 0)]) := Lib.hid (sli_one w6 2 0)
  have Hma7 : Hid (Mod (fun j => j = g ∨ j = b) W (w6.alloc (.cells #[.int .i64 2, .int .u64 0] 31))) := Lib.hid (HM6.out.alloc _)
  have Hca7 : Hid (CacV 0 g b 6 (w6.alloc (.cells #[.int .i64 2, .int .u64 0] 31)) sc1) := Lib.hid (HC6.out.new ((Mod.refl _ _).alloc _))
  have hk := Hkb.out _ HM6.out
  have z0 := hk.cell 0
  have z1 := hk.cell 1
  have z2 := hk.cell 2
  simp at z0 z1 z2
  clear hk
  go_wp2_with fail
  clear z0 z1 z2
  refine (call_put se7 Hca7.out Hfitb.out Hs7.out (by omega) (by omega)).mono ?_
  rintro e w7 ⟨rfl, hc7, hm7⟩
  have HC7 : Hid (CacV 0 g b 7 w7 sc6) := Lib.hid hc7
  have HM7 : Hid (Mod (fun j => j = g ∨ j = b) W w7) := Lib.hid (Hma7.out.trans hm7 (fun _ _ h => h))
  clear hc7 hm7
  have hk := Hka.out _ HM7.out
  have z0 := hk.cell 0
  have z1 := hk.cell 1
  have z2 := hk.cell 2
  simp at z0 z1 z2
  clear hk
  go_wp2_with fail
  clear z0 z1 z2
  refine (call_get se8 HC7.out Hfita.out).mono ?_
  rintro e w8 ⟨A8, n8, c8, rfl, Hn8, hnc8, hcm8, ho8, hc8, hm8⟩
  have Ho8 := Lib.hid ho8
  have HC8 : Hid (CacV 0 g b 7 w8 sc6) := Lib.hid (hc8.out _ (Mod.refl _ _))
  have HM8 : Hid (Mod (fun j => j = g ∨ j = b) W w8) := Lib.hid (HM7.out.trans (hm8.mono (fun _ _ h => .inl h)) (fun _ _ h => h))
  clear ho8 hc8 hm8
  have hk := Hkb.out _ HM8.out
  have z0 := hk.cell 0
  have z1 := hk.cell 1
  have z2 := hk.cell 2
  simp at z0 z1 z2
  clear hk
  go_wp2_with fail
  clear z0 z1 z2
  refine (call_get se9 HC8.out Hfitb.out).mono ?_
  rintro e w9 ⟨A9, n9, c9, rfl, Hn9, hnc9, hcm9, ho9, hc9, hm9⟩
  have Ho9 := Lib.hid ho9
  have HC9 : Hid (CacV 0 g b 7 w9 sc7) := Lib.hid (hc9.out _ (Mod.refl _ _))
  have HM9 : Hid (Mod (fun j => j = g ∨ j = b) W w9) := Lib.hid (HM8.out.trans (hm9.mono (fun _ _ h => .inl h)) (fun _ _ h => h))
  clear ho9 hc9 hm9
  have hl9 : n9 = 1 := Hn9.out.symm
  subst hl9
  obtain ⟨gx, cx, ex, q1, q2, q3, q4⟩ := OwnS.form' Ho9.out (by decide)
  injection ex with ex ey ez
  subst ex
  clear ey ez q1 q2 q3 q4
  obtain ⟨ad, p, ead, hbk, hp, x0, x1⟩ := RdsS.at_ (k := 0) (Ho9.out.rds rfl) (by decide)
  have hp2 : p = (2, 0) := by simpa using hp.symm
  subst hp2
  injection ead with ead
  subst ead
  simp only [add_addr, Nat.zero_mul, Nat.zero_add] at x0
  clear hp hbk x1
  go_wp2_with fail
  refine (ccFrames_any w9 HC9.out).mono ?_
  rintro e w10 ⟨rfl, hm10⟩
  rw [show framesC sc7 = 1 from by decide]
  have HC10 := Lib.hid (HC9.out.new hm10); have HM10 := Lib.hid (HM9.out.trans (hm10.mono (fun _ _ h => h.elim)) (fun _ _ h => h))
  clear hm10
  go_wp2_with fail
  refine (call_clock (n := 2) HC10.out rfl).mono ?_
  rintro e w11 ⟨v0, v1, v3, v4, v5, A11, c11, rfl, hnc11, hcm11, ho11, hm11⟩
  have HM11 := Lib.hid (HM10.out.trans (hm11.mono (fun _ _ h => h.elim)) (fun _ _ h => h))
  clear hm11 ho11
  have hfd := field_pages v0 v1 (.slice A11 2 c11) v3 v4 v5 w11
  go_wp2_with fail
  go_ret
  exact ⟨rfl, HE.out _ HM11.out⟩
end Go.Proofs.Ytcoajldhhimmoaa

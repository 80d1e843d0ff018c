/- The law's awake. -/
import Derived.Test.YtnfpbjioiiedeaaHd
import Derived.Test.YtnfpbjioiiedeaaBlh
namespace Go.Proofs.Ytnfpbjioiiedeaa
open Go.RowKit

def abc : List Nat := [97, 98, 99]
theorem abc_256 : lt256 abc := by
  intro x hx
  simp only [abc, List.mem_cons, List.not_mem_nil, or_false] at hx
  omega
set_option maxHeartbeats 8000000 in
set_option maxRecDepth 100000 in
theorem blAwake_any (w : World) : Calls Try.prog 6 #[] w fun e w' => e = .returned (.bool true) ∧ Mod (fun _ => False) w w' := by
  have F1 : Hid (FitI 1) := Lib.hid (fit_small (by omega) (by omega))
  have F2 : Hid (FitI 2) := Lib.hid (fit_small (by omega) (by omega))
  have F9 : Hid (FitI (-9)) := Lib.hid (fit_small (by omega) (by omega))
  go_enter Try.func6, Try.ntmps6
  go_wp2_with fail
  refine (blNew_any 5 w).mono ?_
  rintro e w0 ⟨g, b, rfl, hc, hm0, hb0, hg0⟩
  have HB0 : Hid (BloV (fun _ => True) g b 0 w0 (bareB 5 0 0)) := Lib.hid (by have h := hc w0 (Mod.refl _ _) (fun _ => True); rwa [bare_five] at h)
  have HM0 : Hid (Mod (fun j => j = g ∨ j = b) w0 w0) := Lib.hid (Mod.refl _ _)
  have HE : Hid (∀ W', Mod (fun j => j = g ∨ j = b) w0 W' → Mod (fun _ => False) w W') := Lib.hid (fun W' h => hm0.trans h (fun i hi h => by omega))
  clear hc hm0 hb0 hg0
  obtain ⟨V1, hV, hmV, hzV, hcV⟩ := marked w0 abc 5 #[.int .u8 97, .int .u8 98, .int .u8 99] (3, 4) rfl
  obtain ⟨H1, hH⟩ : ∃ x, x = w0.heap.size := ⟨_, rfl⟩
  have hlt := HB0.out.lt
  have kc := conv_blit w0
  rw [← hH] at kc hzV hcV
  have Hs1 : Hid (∀ w2, Mod (fun j => j = g ∨ j = b) V1 w2 → Rds w2 w2.heap.size (some ⟨H1, 0, none⟩) 3 (cells8 abc)) := Lib.hid (read_at hzV hcV (by omega) (by omega) rfl)
  rw [hH] at kc
  have HBV : Hid (BloV (fun _ => True) g b 0 V1 _) := Lib.hid (HB0.out.new hmV)
  have HMV : Hid (Mod (fun j => j = g ∨ j = b) w0 V1) := Lib.hid (HM0.out.trans (hmV.mono (fun _ _ h => h.elim)) (fun _ _ h => h))
  have HV1 := Lib.hid hV; have HH1 := Lib.hid hH
  clear hV hmV hcV hzV hH hlt
  go_wp2_with fail
  clear kc
  rw [← HV1.out, ← HH1.out]
  refine (call_badd (n := 3) (o := some 1) (v := 1) (ok := true) (bare_add (b := abc) (by decide)) rfl rfl HBV.out Hs1.out (by omega) (fun _ _ => trivial)).mono ?_
  rintro e w1 ⟨rfl, h1, h2⟩
  have HB1 : Hid (BloV (fun _ => True) g b 1 w1 (sole 5 0 1 1 abc 1)) := Lib.hid h1
  have HM1 : Hid (Mod (fun j => j = g ∨ j = b) w0 w1) := Lib.hid (HMV.out.trans h2 (fun _ _ h => h))
  clear h1 h2 HBV HMV
  obtain ⟨V2, hV, hmV, hzV, hcV⟩ := marked w1 abc 5 #[.int .u8 97, .int .u8 98, .int .u8 99] (3, 4) rfl
  obtain ⟨H2, hH⟩ : ∃ x, x = w1.heap.size := ⟨_, rfl⟩
  have hlt := HB1.out.lt
  have kc := conv_blit w1
  rw [← hH] at kc hzV hcV
  have Hs2 : Hid (∀ w2, Mod (fun j => j = g ∨ j = b) V2 w2 → Rds w2 w2.heap.size (some ⟨H2, 0, none⟩) 3 (cells8 abc)) := Lib.hid (read_at hzV hcV (by omega) (by omega) rfl)
  rw [hH] at kc
  have HBV : Hid (BloV (fun _ => True) g b 1 V2 _) := Lib.hid (HB1.out.new hmV)
  have HMV : Hid (Mod (fun j => j = g ∨ j = b) w0 V2) := Lib.hid (HM1.out.trans (hmV.mono (fun _ _ h => h.elim)) (fun _ _ h => h))
  have HV2 := Lib.hid hV; have HH2 := Lib.hid hH
  clear hV hmV hcV hzV hH hlt
  go_wp2_with fail
  clear kc
  rw [← HV2.out, ← HH2.out]
  refine (call_badd (n := 3) (o := none) (v := 0) (ok := false) (sole_full (b := abc) (b2 := abc) (by decide)) rfl rfl HBV.out Hs2.out (by omega) (fun _ _ => trivial)).mono ?_
  rintro e w2 ⟨rfl, h1, h2⟩
  have HB2 : Hid (BloV (fun _ => True) g b 2 w2 (sole 5 0 1 1 abc 1)) := Lib.hid h1
  have HM2 : Hid (Mod (fun j => j = g ∨ j = b) w0 w2) := Lib.hid (HMV.out.trans h2 (fun _ _ h => h))
  clear h1 h2 HBV HMV
  go_wp2_with fail
  refine (call_bcharge (n := 2) (ok := true) (s' := sole 5 2 1 1 abc 1) (by decide) HB2.out F2.out).mono ?_
  rintro e w3 ⟨rfl, h1, h2⟩
  have HB3 : Hid (BloV (fun _ => True) g b 2 w3 (sole 5 2 1 1 abc 1)) := Lib.hid h1
  have HM3 : Hid (Mod (fun j => j = g ∨ j = b) w0 w3) := Lib.hid (HM2.out.trans h2 (fun _ _ h => h))
  clear h1 h2
  go_wp2_with fail
  refine (call_bcharge (n := 1) (ok := false) (s' := sole 5 2 1 1 abc 1) (by decide) HB3.out F1.out).mono ?_
  rintro e w4 ⟨rfl, h1, h2⟩
  have HB4 : Hid (BloV (fun _ => True) g b 2 w4 (sole 5 2 1 1 abc 1)) := Lib.hid h1
  have HM4 : Hid (Mod (fun j => j = g ∨ j = b) w0 w4) := Lib.hid (HM3.out.trans h2 (fun _ _ h => h))
  clear h1 h2
  go_wp2_with fail
  refine (call_bhold (k := 1) (ok := true) (s' := sole 5 2 1 1 abc 2) (by decide) HB4.out F1.out (by omega)).mono ?_
  rintro e w5 ⟨rfl, h1, h2⟩
  have HB5 : Hid (BloV (fun _ => True) g b 3 w5 (sole 5 2 1 1 abc 2)) := Lib.hid h1
  have HM5 : Hid (Mod (fun j => j = g ∨ j = b) w0 w5) := Lib.hid (HM4.out.trans h2 (fun _ _ h => h))
  clear h1 h2
  go_wp2_with fail
  refine (call_bget (bs := abc) (L := 3) (ok := true) (o := some ⟨1, abc, 2⟩) (by decide) rfl rfl rfl HB5.out F1.out).mono ?_
  rintro e w6 ⟨A6, c6, rfl, hn6, hc6, h0, h1, h2⟩
  have HO6 := Lib.hid h0
  have HB6 : Hid (BloV (fun _ => True) g b 3 w6 (sole 5 2 1 1 abc 2)) := Lib.hid h1
  have HM6 : Hid (Mod (fun j => j = g ∨ j = b) w0 w6) := Lib.hid (HM5.out.trans (h2.mono (fun _ _ h => h.elim)) (fun _ _ h => h))
  have Hn6 : Hid (Mod (fun _ => False) w5 w6) := Lib.hid h2
  clear h0 h1 h2
  go_wp2_with fail
  refine (call_bleave (k := 1) (ok := true) (s' := sole 5 2 1 1 abc 1) (by decide) HB6.out F1.out (by omega)).mono ?_
  rintro e w7 ⟨rfl, h1, h2⟩
  have HB7 : Hid (BloV (fun _ => True) g b 4 w7 (sole 5 2 1 1 abc 1)) := Lib.hid h1
  have HL7 : Hid (Mod (fun j => j = g ∨ j = b) w6 w7) := Lib.hid h2
  have HM7 : Hid (Mod (fun j => j = g ∨ j = b) w0 w7) := Lib.hid (HM6.out.trans h2 (fun _ _ h => h))
  clear h1 h2
  go_wp2_with fail
  refine (call_bleave (k := 1) (ok := true) (s' := bareB 5 2 1) (by decide) HB7.out F1.out (by omega)).mono ?_
  rintro e w8 ⟨rfl, h1, h2⟩
  have HB8 : Hid (BloV (fun _ => True) g b 5 w8 (bareB 5 2 1)) := Lib.hid h1
  have HL8 : Hid (Mod (fun j => j = g ∨ j = b) w7 w8) := Lib.hid h2
  have HM8 : Hid (Mod (fun j => j = g ∨ j = b) w0 w8) := Lib.hid (HM7.out.trans h2 (fun _ _ h => h))
  clear h1 h2
  go_wp2_with fail
  refine (call_bget (bs := []) (L := 0) (ok := false) (o := none) (by decide) rfl rfl rfl HB8.out F1.out).mono ?_
  rintro e w9 ⟨A9, c9, rfl, hn9, hc9, h0, h1, h2⟩
  have HO9 := Lib.hid h0
  have HB9 : Hid (BloV (fun _ => True) g b 5 w9 (bareB 5 2 1)) := Lib.hid h1
  have HM9 : Hid (Mod (fun j => j = g ∨ j = b) w0 w9) := Lib.hid (HM8.out.trans (h2.mono (fun _ _ h => h.elim)) (fun _ _ h => h))
  have Hn9 : Hid (Mod (fun _ => False) w8 w9) := Lib.hid h2
  clear h0 h1 h2
  have HM69 : Hid (Mod (fun j => j = g ∨ j = b) w6 w9) := Lib.hid ((HL7.out.trans HL8.out (fun _ _ h => h)).trans (Hn9.out.mono (fun _ _ h => h.elim)) (fun _ _ h => h))
  have hcv : ∀ c, (convert 22 9 (.slice A6 3 c)).run Try.prog w9 = .ok (.string ⟨#[97, 98, 99]⟩) w9 := fun c => by
    have hx : (cells8 abc).length = 3 := rfl
    have h1 : Own w5.heap.size w9 5 (.slice A6 3 c6) (cells8 abc) := Mod.owns (S := fun j => j = g ∨ j = b) ((((HM69.out)))) HO6.out (fun k hk e => by have h3 := Own.block HO6.out k hk; have h4 := HB5.out.lt; omega)
    exact conv_rds Try.underlying22 Try.underlying5 Try.underlying9 w9 (Own.rds8 h1 rfl) abc_256
  go_wp2_with fail
  refine (call_bused (u := 2) (by decide) HB9.out).mono ?_
  rintro e w10 ⟨rfl, h1, h2⟩
  have HB10 : Hid (BloV (fun _ => True) g b 5 w10 (bareB 5 2 1)) := Lib.hid h1
  have HM10 : Hid (Mod (fun j => j = g ∨ j = b) w0 w10) := Lib.hid (HM9.out.trans (h2.mono (fun _ _ h => h.elim)) (fun _ _ h => h))
  clear h1 h2
  go_wp2_with fail
  refine (call_bcharge (n := -9) (ok := true) (s' := bareB 5 0 1) (by decide) HB10.out F9.out).mono ?_
  rintro e w11 ⟨rfl, h1, h2⟩
  have HB11 : Hid (BloV (fun _ => True) g b 5 w11 (bareB 5 0 1)) := Lib.hid h1
  have HM11 : Hid (Mod (fun j => j = g ∨ j = b) w0 w11) := Lib.hid (HM10.out.trans h2 (fun _ _ h => h))
  clear h1 h2
  go_wp2_with fail
  refine (call_bused (u := 0) (by decide) HB11.out).mono ?_
  rintro e w12 ⟨rfl, h1, h2⟩
  have HB12 : Hid (BloV (fun _ => True) g b 5 w12 (bareB 5 0 1)) := Lib.hid h1
  have HM12 : Hid (Mod (fun j => j = g ∨ j = b) w0 w12) := Lib.hid (HM11.out.trans (h2.mono (fun _ _ h => h.elim)) (fun _ _ h => h))
  clear h1 h2
  go_wp2_with fail
  refine (call_bleave (k := 1) (ok := false) (s' := bareB 5 0 1) (by decide) HB12.out F1.out (by omega)).mono ?_
  rintro e w13 ⟨rfl, h1, h2⟩
  have HB13 : Hid (BloV (fun _ => True) g b 6 w13 (bareB 5 0 1)) := Lib.hid h1
  have HM13 : Hid (Mod (fun j => j = g ∨ j = b) w0 w13) := Lib.hid (HM12.out.trans h2 (fun _ _ h => h))
  clear h1 h2
  go_wp2_with fail
  refine (call_bholds (k := 1) (u := 0) (by decide) HB13.out F1.out).mono ?_
  rintro e w14 ⟨rfl, h1, h2⟩
  have HB14 : Hid (BloV (fun _ => True) g b 6 w14 (bareB 5 0 1)) := Lib.hid h1
  have HM14 : Hid (Mod (fun j => j = g ∨ j = b) w0 w14) := Lib.hid (HM13.out.trans (h2.mono (fun _ _ h => h.elim)) (fun _ _ h => h))
  clear h1 h2
  go_wp2_with fail
  go_ret
  exact ⟨rfl, HE.out _ HM14.out⟩
end Go.Proofs.Ytnfpbjioiiedeaa

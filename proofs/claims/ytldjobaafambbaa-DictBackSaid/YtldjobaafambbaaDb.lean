/- Values are read as they were told: DictBack's walk. -/
import Derived.Test.YtldjobaafambbaaDa
namespace Go.Proofs.Ytldjobaafambbaa
open Go.RowKit

/-- So few values are told. -/
theorem encD_few {v : List Nat} (h : v.length ≤ 256) : ∃ bs, encD v = some bs := by
  by_cases hv : v = []
  · subst hv
    exact ⟨[], encD_nil⟩
  · exact ⟨_, encD_cons hv (by have := uniq_le v; omega)⟩
set_option maxHeartbeats 1000000 in
set_option maxRecDepth 100000 in
theorem dictBack_walk (A : Option Addr) (n cap : Nat) (zs : List Nat) (how : Int) (w : World) (hs : Rds w w.heap.size A n (cellsU zs)) (hz : ∀ x ∈ zs, x < 2 ^ 64) :
    Calls Try.prog 6 #[.slice A n cap, .int .i64 how] w fun e w' => e = .returned (.bool true) ∧ Mod (fun _ => False) w w' := by
  have Hs := Lib.hid hs; have Hz := Lib.hid hz
  clear hs hz
  go_enter Try.func6, Try.ntmps6
  go_wp2_with fail
  refine (values_any A n cap zs how w Hs.out Hz.out).mono ?_
  rintro e w1 ⟨v1, ts, rfl, ho1, hl1, hu1, hm1⟩
  obtain ⟨A1, L, c1, rfl, HL, hLc, hr1⟩ := own_formUN ho1
  rw [HL.out] at hl1
  obtain ⟨bs, hbs⟩ := encD_few (v := ts) (by rw [HL.out]; omega)
  have hsome : decD L bs = some ts := by rw [← HL.out]; exact decD_of hu1 hbs
  have hel : bs.length ≤ 1000000 := by have := encD_len hu1 hbs; have := HL.out; omega
  have Hr1 := Lib.hid hr1; have Hm1 := Lib.hid hm1; have Hu1 := Lib.hid hu1; have Hsome := Lib.hid hsome; have Hel := Lib.hid hel; have Hbs := Lib.hid hbs; have Hb256 := Lib.hid (encD_256 hbs)
  clear ho1 hr1 hm1 hu1 hsome hel hbs
  go_wp2_with fail
  refine (denc_any A1 L c1 _ ts w1 Hr1.out (Nat.le_refl _) Hu1.out (by omega)).mono ?_
  intro e w2 hE
  obtain ⟨v2, rfl, ho2, hm2⟩ := hE.some_ Hbs.out
  obtain ⟨A2, M, c2, rfl, HM, hMc, hcm, hr2⟩ := own_formN8 ho2
  have hM : M ≤ 1000000 := by have := HM.out; have := Hel.out; omega
  have Hr2 := Lib.hid hr2; have Hm2 := Lib.hid (Hm1.out.trans hm2 (fun _ _ h => h)); have Hr12 := Lib.hid (Hr1.out.new hm2); have Hcm := Lib.hid hcm
  clear hE ho2 hm2 hr2 hcm Hr1
  go_wp2_with fail
  refine (ddec_any A2 M c2 _ L (L : Int) bs w2 Hr2.out (Nat.le_refl _) Hb256.out hMc Hcm.out hM (by omega)).mono ?_
  intro e w3 hE
  obtain ⟨v3, rfl, ho3, hm3⟩ := hE.some_ Hsome.out
  obtain ⟨A3, L3, c3, rfl, HL3, _, hr3⟩ := own_formUN ho3
  obtain rfl : L3 = L := by have := HL.out; have := HL3.out; omega
  have Hr3 := Lib.hid hr3; have Hm3 := Lib.hid (Hm2.out.trans hm3 (fun _ _ h => h)); have Hr13 := Lib.hid (Hr12.out.fit.new hm3)
  clear hE ho3 hm3 hr3 Hr12 Hr2
  go_wp2_with fail
  refine (same_words A3 A1 L3 c3 c1 _ _ ts w3 Hr3.out Hr13.out (by omega)).mono ?_
  rintro e w6 ⟨rfl, hm6⟩
  have Hm6 := Lib.hid (Hm3.out.trans hm6 (fun _ _ h => h))
  clear hm6
  go_wp2_with fail
  refine (dawake_any w6).mono ?_
  rintro e w7 ⟨rfl, hm7⟩
  have Hm7 := Lib.hid (Hm6.out.trans hm7 (fun _ _ h => h))
  clear hm7
  go_wp2_with fail
  go_ret
  exact ⟨rfl, Hm7.out⟩
end Go.Proofs.Ytldjobaafambbaa

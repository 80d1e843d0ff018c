/- What the document fixes: awake. -/
import Derived.Test.YthhcfngnbgckmaaDoorSj
import Derived.Test.YthhcfngnbgckmaaDoorSd
namespace Go.Proofs.YthhcfngnbgckmaaDoor
open Go.RowKit

theorem addr_zero (ad : Addr) : ad.add 0 = ad := by simp [Addr.add]
theorem awk_enc : encS [1, 0, 5] = some [4611686018427388225] := by decide +kernel
theorem awk_no : encS [1152921504606846976] = none := by decide +kernel
theorem awk_lt : ∀ x ∈ [1, 0, 5], x < 2 ^ 64 := by decide +kernel
theorem awk_lt2 : ∀ x ∈ [1152921504606846976], x < 2 ^ 64 := by decide +kernel
theorem awk_lt3 : ∀ x ∈ [4611686018427388225], x < 2 ^ 64 := by decide +kernel
set_option maxHeartbeats 1000000 in
set_option maxRecDepth 100000 in
theorem sawake_any (w : World) (hk : Kin w) : Calls Tryd.prog 11 #[] w fun e w' => e = .returned (.bool true) ∧ Mod (fun _ => False) w w' := by
  have Hkin := Lib.hid hk
  clear hk
  obtain ⟨X, hX⟩ : ∃ X : Nat, X = 4611686018427388225 := ⟨_, rfl⟩
  have henc : encS [1, 0, 5] = some [X] := by rw [hX]; exact awk_enc
  have hx64 : ∀ x ∈ [X], x < 2 ^ 64 := by rw [hX]; exact awk_lt3
  have hXb : ((X : Int) == 4611686018427388225) = true := by rw [hX]; rfl
  have Henc := Lib.hid henc; have Hx64 := Lib.hid hx64; have HXb := Lib.hid hXb
  obtain ⟨wl, hwl⟩ : ∃ wl, wl = w.alloc (.cells #[.int .u64 1, .int .u64 0, .int .u64 5] 23) := ⟨_, rfl⟩
  have hml : Mod (fun _ => False) w wl := by rw [hwl]; exact (Mod.refl _ _).alloc _
  have hsee : Hid (Rds wl (w.heap.size + 1) (some ⟨w.heap.size, 0, none⟩) 3 (cellsU [1, 0, 5])) := Lib.hid (by
    rw [hwl]
    exact Rds.lit w 23 #[.int .u64 1, .int .u64 0, .int .u64 5])
  have hsz : w.heap.size + 1 ≤ wl.heap.size := by rw [hwl]; simp
  have Hwl := Lib.hid hwl; have Hml := Lib.hid hml
  clear hwl hml hX henc hx64 hXb
  go_enter Tryd.func11, Tryd.ntmps11
  go_wp2_with fail
  rw [← Hwl.out]
  refine (enc_any _ 3 3 (w.heap.size + 1) [1, 0, 5] wl hsee.out hsz awk_lt (by decide) (by decide) (Hkin.out.new Hml.out)).mono ?_
  intro e w1 hE
  obtain ⟨v, rfl, ho1, hm1⟩ := hE.some_ Henc.out
  obtain ⟨A1, c1, rfl, _, hr1⟩ := own_formU ho1
  have Hr1 : Hid (Rds w1 w1.heap.size A1 1 (cellsU [X])) := Lib.hid hr1
  have Hm1 := Lib.hid (Hml.out.trans hm1 (fun _ _ h => h))
  have hl1 : [X].length = 1 := rfl
  rw [hl1]
  clear hE ho1 hm1 hr1 hl1 hsz hsee Hwl
  obtain ⟨w2, hw2⟩ : ∃ w2, w2 = w1.alloc (.cells #[.int .u64 1152921504606846976] 23) := ⟨_, rfl⟩
  have hm2 : Mod (fun _ => False) w1 w2 := by rw [hw2]; exact (Mod.refl _ _).alloc _
  have hsee2 : Hid (Rds w2 (w1.heap.size + 1) (some ⟨w1.heap.size, 0, none⟩) 1 (cellsU [1152921504606846976])) := Lib.hid (by
    rw [hw2]
    exact Rds.lit w1 23 #[.int .u64 1152921504606846976])
  have hsz2 : w1.heap.size + 1 ≤ w2.heap.size := by rw [hw2]; simp
  have Hw2 := Lib.hid hw2; have Hm2 := Lib.hid (Hm1.out.trans hm2 (fun _ _ h => h)); have Hr2 := Lib.hid (Hr1.out.new hm2)
  clear hw2 hm2
  go_wp2_with fail
  rw [← Hw2.out]
  refine (enc_any _ 1 1 (w1.heap.size + 1) [1152921504606846976] w2 hsee2.out hsz2 awk_lt2 (by decide) (by decide) (Hkin.out.new Hm2.out)).mono ?_
  intro e w3 hE
  obtain ⟨rfl, hm3⟩ := hE.none_ awk_no
  have Hm3 := Lib.hid (Hm2.out.trans hm3 (fun _ _ h => h)); have Hr3 := Lib.hid (Hr2.out.new hm3)
  clear hE hm3 hsz2 hsee2 Hw2
  go_wp2_with fail
  refine (sdec_any A1 1 c1 _ 3 3 [X] w3 Hr3.out.fit (Nat.le_refl _) Hx64.out (by decide) (by decide) (Hkin.out.new Hm3.out)).mono ?_
  intro e w4 hE
  obtain ⟨v, rfl, ho4, hm4⟩ := hE.some_ (decS_of (n := 3) rfl Henc.out)
  obtain ⟨A4, c4, rfl, _, hr4⟩ := own_formU ho4
  have Hr4 : Hid (Rds w4 w4.heap.size A4 3 (cellsU [1, 0, 5])) := Lib.hid hr4
  have Hm4 := Lib.hid (Hm3.out.trans hm4 (fun _ _ h => h)); have Hr34 := Lib.hid (Hr3.out.new hm4)
  have hl4 : [1, 0, 5].length = 3 := rfl
  rw [hl4]
  obtain ⟨ad, u, rfl, _, hu, hcx⟩ := Hr34.out.at_ (k := 0) (by decide)
  rw [addr_zero] at hcx
  have hu2 : u = .int .u64 (X : Int) := by
    have h : (cellsU [X])[0]? = some (.int .u64 (X : Int)) := rfl
    rw [h] at hu
    injection hu with hu
    exact hu.symm
  subst hu2
  have hXb := HXb.out
  clear hE ho4 hm4 hr4 hl4 hu
  go_wp2_with fail
  refine (same_any A4 _ 3 3 c4 3 _ _ [1, 0, 5] [1, 0, 5] _ ((Hr4.out.fit).alloc (Nat.le_refl _) _) (Rds.lit w4 23 #[.int .u64 1, .int .u64 0, .int .u64 5]) (by decide) (by decide)).mono ?_
  rintro e w5 ⟨rfl, hm5⟩
  have Hm5 := Lib.hid ((Hm4.out.alloc _).trans hm5 (fun _ _ h => h))
  clear hm5
  go_wp2_with fail
  go_ret
  exact ⟨rfl, Hm5.out⟩
end Go.Proofs.YthhcfngnbgckmaaDoor

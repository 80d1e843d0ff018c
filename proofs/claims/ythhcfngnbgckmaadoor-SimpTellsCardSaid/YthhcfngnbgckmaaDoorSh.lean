/- Whether the next numbers may stand in a word of a kind: the document's fits. -/
import Derived.Test.YthhcfngnbgckmaaDoorSg
import Derived.Deep.RegionHeldLaw
namespace Go.Proofs.YthhcfngnbgckmaaDoor
open Go.RowKit

set_option maxHeartbeats 1000000 in
set_option maxRecDepth 100000 in
theorem fits_any (A : Option Addr) (n cap B k : Nat) (us : List Nat) (w : World) (hs : Rds w B A n (cellsU us)) (hB : B ≤ w.heap.size) (hu : ∀ x ∈ us, x < 2 ^ 64) (hk : k < 16) (hn : n ≤ 1000000) :
    Calls Tryd.prog 14 #[.slice A n cap, .int .i64 (k : Int)] w fun e w' => e = .returned (.bool (fitsK us k)) ∧ Mod (fun _ => False) w w' := by
  have hul : us.length = n := by have := hs.1; rwa [cellsU_length] at this
  have Hs := Lib.hid hs; have Hu := Lib.hid hu; have Hul := Lib.hid hul; have HB := Lib.hid hB; have Hk := Lib.hid hk
  clear hs hu hul hB
  obtain ⟨c, hc⟩ : ∃ c, numN k = c := ⟨_, rfl⟩
  obtain ⟨s, hs⟩ : ∃ s, bitN k = s := ⟨_, rfl⟩
  have hnp := num_pos hk
  rw [hc, hs] at hnp
  have hc2 : c ≤ 240 := hnp.2.1
  have hs2 : s ≤ 60 := hnp.2.2.2
  have Hc := Lib.hid hc; have Hss := Lib.hid hs
  have hk0 : (0 : Int) ≤ (k : Int) := by omega
  have hkk : (k : Int) < 16 := by omega
  clear hc hs hnp
  by_cases hfew : k < 2 ∧ n < c
  · obtain ⟨hk2, hnc⟩ := hfew
    have Hk2 := Lib.hid hk2
    have hkd : (k : Int) < 2 := by omega
    clear hk2
    go_enter Tryd.func14, Tryd.ntmps14
    go_wp2_with fail
    refine (numbers_is k c _ hk Hc.out).mono ?_
    rintro e w1 ⟨rfl, hm1⟩
    have Hm1 := Lib.hid hm1
    clear hm1
    go_wp2_with fail
    go_ret
    exact ⟨ret_bool (by rw [fitsK_few Hk2.out (by rw [Hul.out, Hc.out]; exact hnc)]), Hm1.out⟩
  · have Hfew := Lib.hid hfew
    clear hfew
    have hsn : ¬ (k : Int) < 2 ∨ ((k : Int) < 2 ∧ ¬ n < c) := by
      by_cases h : k < 2
      · exact .inr ⟨by omega, fun h2 => Hfew.out ⟨h, h2⟩⟩
      · exact .inl (by omega)
    go_enter Tryd.func14, Tryd.ntmps14
    rcases hsn with hkd | ⟨hkd, hnc⟩
    all_goals go_wp2_with (first | (go_at_call 15; refine (numbers_is k c _ hk Hc.out).mono ?_; rintro e w1 ⟨rfl, hm1⟩; have Hm1 := Lib.hid hm1; clear hm1))
    all_goals
      go_loopg [5] (n + 1) (fun l s5 wr => ∃ i : Nat, i + l = n + 1 ∧ i ≤ c ∧ i ≤ n ∧ s5 = .int .i64 (i : Int) ∧ Seen us s i ∧ Mod (fun _ => False) w wr)
      case atStart => exact ⟨0, by omega, Nat.zero_le _, Nat.zero_le _, rfl, (fun x h => by simp at h), by first | exact Hm1.out | exact Mod.refl _ _⟩
      case round =>
        obtain ⟨i, hil, hic, hin', rfl, hS, hm⟩ := hrel
        have HS := Lib.hid hS; have Hil := Lib.hid hil; have Hmr := Lib.hid hm
        clear hS hil hm
        by_cases hin : i < n
        · by_cases hic2 : i < c
          · obtain ⟨ad, x, rfl, hx, hcx⟩ := Hs.out.at2 hin HB.out Hmr.out (fun _ _ h => h)
            have Hx := Lib.hid hx
            have hxl := Lib.hid (Hu.out x (List.mem_of_getElem? hx))
            clear hx
            go_upto_region 6 with (first | (go_at_call 15; refine (numbers_is k c _ hk Hc.out).mono ?_; rintro e w2 ⟨rfl, hm2⟩; have Hm2 := Lib.hid hm2; clear hm2))
            have hX : ∀ W, Mod (fun _ => False) w2 W → W.cell? (ad.add i) = some (.int .u64 (x : Int)) := fun W hW => ((Hm2.out.trans hW (fun _ _ h => h)).cell (by rw [add_block]; exact World.block_lt_of_cell? _ _ hcx |> fun h => by rwa [add_block] at h) (fun h => h)).trans hcx
            have HX := Lib.hid hX
            have hsw : IntKind.u64.wrap (s : Int) = (s : Int) := by rw [IntKind.wrap_u64]; omega
            have hi0 : (0 : Int) ≤ (i : Int) := by omega
            have hi1 : (i : Int) < (n : Int) := by omega
            clear hX hcx
            by_cases hq : x < 2 ^ s
            · have hqb : ((x : Int) / 2 ^ s != 0) = false := div_nought hq
              have Hq := Lib.hid hq
              clear hq
              go_region_held_law (fun w' => w'.cell? (ad.add i) = some (.int .u64 (x : Int))) (first | exact HX.out _ S5.out | exact HX.out _ (Mod.refl _ _).drew)
                (first | (go_at_call 16; refine (bits_is k s _ hk Hss.out).mono ?_; rintro e w5 ⟨rfl, hm5⟩; have S5 : Hid (Mod (fun _ => False) w2 w5) := Lib.hid (((Mod.refl _ _).drew).trans hm5 (fun _ _ h => h)); clear hm5))
              go_wp2_with fail
              go_roundg (gk - 1)
              case measure => have := Hil.out; omega
              case rel => exact ⟨i + 1, by have := Hil.out; omega, by omega, by omega, by go_num, HS.out.more Hx.out Hq.out, (Hmr.out.trans Hm2.out (fun _ _ h => h)).trans S5.out (fun _ _ h => h)⟩
            · have hqb : ((x : Int) / 2 ^ s != 0) = true := div_some hq
              have Hq := Lib.hid hq
              clear hq
              go_region_held_law (fun w' => w'.cell? (ad.add i) = some (.int .u64 (x : Int))) (first | exact HX.out _ S5.out | exact HX.out _ (Mod.refl _ _).drew)
                (first | (go_at_call 16; refine (bits_is k s _ hk Hss.out).mono ?_; rintro e w5 ⟨rfl, hm5⟩; have S5 : Hid (Mod (fun _ => False) w2 w5) := Lib.hid (((Mod.refl _ _).drew).trans hm5 (fun _ _ h => h)); clear hm5))
              go_wp2_with fail
              go_ret
              exact ⟨ret_bool (by rw [fitsK_no (by rw [Hc.out]; exact hic2) Hx.out (by rw [Hss.out]; exact Hq.out)]), (Hmr.out.trans Hm2.out (fun _ _ h => h)).trans S5.out (fun _ _ h => h)⟩
          · go_wp2_with (first | (go_at_call 15; refine (numbers_is k c _ hk Hc.out).mono ?_; rintro e w2 ⟨rfl, hm2⟩; have Hm2 := Lib.hid hm2; clear hm2))
            go_ret
            refine ⟨ret_bool ?_, Hmr.out.trans Hm2.out (fun _ _ h => h)⟩
            rw [fitsK_yes (by rw [Hul.out, Hc.out]; exact Hfew.out)]
            intro x hx
            rw [Hss.out]
            rw [Hc.out] at hx
            refine HS.out x ?_
            rw [show i = c by omega]
            exact hx
        · go_wp2_with fail
          go_ret
          refine ⟨ret_bool ?_, Hmr.out⟩
          rw [fitsK_yes (by rw [Hul.out, Hc.out]; exact Hfew.out)]
          intro x hx
          rw [Hss.out]
          refine HS.out x ?_
          rw [List.take_of_length_le (by rw [Hul.out]; omega)]
          exact List.mem_of_mem_take hx
end Go.Proofs.YthhcfngnbgckmaaDoor

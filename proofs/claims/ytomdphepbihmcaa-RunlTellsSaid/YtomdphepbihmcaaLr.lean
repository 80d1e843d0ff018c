/- The document's own answer: a row of values is told by its runs. -/
import Derived.Test.YtomdphepbihmcaaLe
import Derived.Test.YtomdphepbihmcaaVp
import Derived.Deep.RegionHeldLaw
namespace Go.Proofs.Ytomdphepbihmcaa
open Go.RowKit

set_option maxHeartbeats 1000000 in
set_option maxRecDepth 100000 in
theorem lrenc_any (A : Option Addr) (n cap B : Nat) (us : List Nat) (w : World) (hs : Rds w B A n (cellsU us)) (hB : B ≤ w.heap.size) (hu : ∀ x ∈ us, x < 2 ^ 64) (hn : n ≤ 1000000) :
    Calls Try.prog 10 #[.slice A n cap] w fun e w' => ∃ v, e = .returned v ∧ Own w.heap.size w' 5 v (cells8 (encR us)) ∧ Mod (fun _ => False) w w' := by
  have hul : us.length = n := by have := hs.1; rwa [cellsU_length] at this
  have H0 : Hid (LencTo w w us 0 (.slice none 0 0)) := Lib.hid ⟨[], Own.nil _ _ _, by rw [List.drop_zero]; rfl, Nat.zero_le _, Mod.refl _ _⟩
  have Hs := Lib.hid hs; have Hu := Lib.hid hu; have HB := Lib.hid hB; have Hul := Lib.hid hul
  clear hs hu hB hul
  go_enter Try.func10, Try.ntmps10
  go_wp2_with fail
  go_loopg [3, 4] n (fun l s3 s4 wr => ∃ i : Nat, i + l = n ∧ s4 = .int .i64 (i : Int) ∧ LencTo w wr us i s3)
  case atStart => exact ⟨0, by omega, rfl, H0.out⟩
  case round =>
    obtain ⟨i, hil, rfl, hE⟩ := hrel
    obtain ⟨done, hown, henc, hdl, hm⟩ := hE
    obtain ⟨Ao, Lo, co, rfl, HLo, _, _, hro⟩ := own_formN8 hown
    have Hil := Lib.hid hil; have Hm := Lib.hid hm; have Hown := Lib.hid hown; have Hdl := Lib.hid hdl; have Henc := Lib.hid henc; have Hro := Lib.hid hro
    have hBr : Hid (B ≤ wr.heap.size) := Lib.hid (Nat.le_trans HB.out hm.size)
    clear hil H0 hm hown hdl henc hro
    by_cases hin : i < n
    · obtain ⟨ad, x, rfl, hx, hcx⟩ := Hs.out.at2 hin HB.out Hm.out (fun _ _ h => h)
      have hx64 : Lt64 x := by
        have h := Hu.out x (List.mem_of_getElem? hx)
        unfold Lt64
        omega
      have Hx := Lib.hid hx; have Hx64 := Lib.hid hx64
      have hX : ∀ W, Mod (fun _ => False) wr W → W.cell? (ad.add i) = some (.int .u64 (x : Int)) := fun W hW => (hW.cell (World.block_lt_of_cell? _ _ hcx) (fun h => h)).trans hcx
      have HX := Lib.hid hX
      have hi0 : (0 : Int) ≤ (i : Int) := by omega
      have hini : (i : Int) < (n : Int) := by omega
      clear hx hx64 hX hcx
      go_wp2_with fail
      obtain ⟨go, rfl⟩ : ∃ go : Nat, go = gk := ⟨_, rfl⟩
      obtain ⟨wo, rfl⟩ : ∃ wo : World, wo = wr := ⟨_, rfl⟩
      go_loopg [5] (n - i) (fun l s5 wi => ∃ k : Nat, k + l = n ∧ i ≤ k ∧ s5 = .int .i64 (k : Int) ∧ (∀ j, j < k - i → (us.drop i)[j]? = some x) ∧ Mod (fun _ => False) wo wi)
      case atStart => exact ⟨i, by omega, Nat.le_refl _, rfl, (fun j hj => by omega), Mod.refl _ _⟩
      case round =>
        obtain ⟨k, hkl, hik, rfl, hall, hm⟩ := hrel
        have Hkl := Lib.hid hkl; have Hall := Lib.hid hall; have Hmi := Lib.hid hm
        have hcx := HX.out _ hm
        have hk0 : (0 : Int) ≤ (k : Int) := by omega
        clear hkl hall hm
        by_cases hgo : k < n ∧ us[k]? = some x
        · obtain ⟨hkn, hy⟩ := hgo
          obtain ⟨ad2, y, hA2, hy2, hcy⟩ := Hs.out.at2 hkn HB.out (Hm.out.trans Hmi.out (fun _ _ h => h)) (fun _ _ h => h)
          injection hA2 with hA2
          subst hA2
          obtain rfl : y = x := by rw [hy2] at hy; injection hy
          have Hy := Lib.hid hy
          have hkni : (k : Int) < (n : Int) := by omega
          clear hy hy2
          go_upto_region 5 with fail
          go_quiet (fail)
          go_wp2_with fail
          go_roundg (gk - 1)
          case measure => have := Hkl.out; omega
          case rel => exact ⟨k + 1, by have := Hkl.out; omega, by omega, by go_num, (fun j hj => by
            rcases Nat.lt_or_ge j (k - i) with h | h
            · exact Hall.out j h
            · rw [List.getElem?_drop, show i + j = k by omega]
              exact Hy.out), Hmi.out.drewN _⟩
        · have hlead : lead x (us.drop i) = k - i := lead_is Hall.out (fun y hy => by
            rw [List.getElem?_drop, show i + (k - i) = k by omega] at hy
            rintro rfl
            exact hgo ⟨by have := (List.getElem?_eq_some_iff.1 hy).1; have := Hul.out; omega, hy⟩)
          have hx0 : (us.drop i)[0]? = some x := by rw [List.getElem?_drop]; exact Hx.out
          have hlp : 1 ≤ lead x (us.drop i) := by
            cases hd : us.drop i with
            | nil => rw [hd] at hx0; cases hx0
            | cons y ys => rw [hd] at hx0; injection hx0 with hx0; subst hx0; exact lead_pos _ _
          have hst := lenc_step hx0 Henc.out
          obtain ⟨m, hmk⟩ : ∃ m, m = k - i := ⟨_, rfl⟩
          rw [hlead, ← hmk] at hst hlp
          rw [show i + m = k by omega] at hst
          have hkn1 : k ≤ n := by have := Hkl.out; omega
          have hmi : (k : Int) - (i : Int) = (m : Int) := by omega
          have hwm : IntKind.u64.wrap (m : Int) = (m : Int) := by rw [IntKind.wrap_u64]; omega
          have hwi : IntKind.i64.wrap (m : Int) = (m : Int) := by rw [IntKind.wrap_i64]; omega
          have hm64 : Lt64 m := by unfold Lt64; omega
          have hd9 : done.length ≤ 1000000000 := by have := Hdl.out; omega
          have hq10 := enc_len10 hm64.out
          have hq10' := enc_len10 Hx64.out.out
          have hda : (done ++ enc m).length ≤ 1000000000 := by rw [List.length_append]; have := Hdl.out; omega
          have hways : k = n ∨ (k < n ∧ us[k]? ≠ some x) := by
            rcases Nat.lt_or_ge k n with h | h
            · exact Or.inr ⟨h, fun e => hgo ⟨h, e⟩⟩
            · exact Or.inl (by omega)
          have Hst := Lib.hid hst; have Hm64 := Lib.hid hm64; have Hd9 := Lib.hid hd9; have Hda := Lib.hid hda; have Hmk := Lib.hid hmk; have Hq := Lib.hid hq10; have Hq' := Lib.hid hq10'
          clear hlead hx0 hst hm64 hd9 hda hgo hmk hq10 hq10'
          rcases hways with hkn | ⟨hkn, hne⟩
          · have hknb : ¬ k < n := by omega
            have Hkn := Lib.hid hkn
            clear hkn
            go_upto_region 5 with fail
            go_quiet (fail)
            go_upto_region 7 with fail
            go_region_held_law (fun w' => w'.cell? (ad.add i) = some (.int .u64 (x : Int))) (first | (with_reducible exact HX.out _ S6.out) | (with_reducible exact HX.out _ S5.out) | (with_reducible exact HX.out _ ((Hmi.out.drewN _).drew)) | (with_reducible exact HX.out _ (Hmi.out.drewN _)))
              (first
                | (go_at_call 18; refine (vrput_any A5 L5 c5 w5.heap.size (done ++ enc m) x _ Hr5.out (by rw [← HL5.out]; exact Hda.out) Hx64.out).mono ?_; rintro e w6 ⟨v6, rfl, ho6, hb6⟩; have Ho6 := Lib.hid ho6; have S6 : Hid (Mod (fun _ => False) wo w6) := Lib.hid (S5.out.trans (mod_below hb6) (fun _ _ h => h)); have Hle6 := Lib.hid S5.out.size; clear ho6 hb6)
                | (go_at_call 18; refine (vrput_any Ao Lo co _ done m _ (Hro.out.new (Hmi.out.drewN _)) (by rw [← HLo.out]; exact Hd9.out) Hm64.out).mono ?_; rintro e w5 ⟨v5, rfl, ho5, hb5⟩; obtain ⟨A5, L5, c5, rfl, HL5, _, _, hr5⟩ := own_formN8 ho5; have Hr5 := Lib.hid hr5; have S5 : Hid (Mod (fun _ => False) wo w5) := Lib.hid ((Hmi.out.drewN _).trans (mod_below hb5) (fun _ _ h => h)); clear ho5 hb5 hr5))
            have HE6 : Hid (LencTo w w6 us k v6) := Lib.hid ⟨_, Ho6.out.mono (Nat.le_trans Hm.out.size Hle6.out), Hst.out, by rw [List.length_append, List.length_append]; have := Hdl.out; have := Hq.out; have := Hq'.out; omega, Hm.out.trans S6.out (fun _ _ h => h)⟩
            go_wp2_with fail
            go_roundg (go - m)
            case measure => have := Hil.out; have := Hmk.out; omega
            case rel => exact ⟨k, by have := Hil.out; have := Hmk.out; omega, by go_num, HE6.out⟩
          · obtain ⟨ad2, y, hA2, hy, hcy⟩ := Hs.out.at2 hkn HB.out (Hm.out.trans Hmi.out (fun _ _ h => h)) (fun _ _ h => h)
            injection hA2 with hA2
            subst hA2
            have hyx : y ≠ x := fun e => hne (by rw [hy, e])
            have hyb : ((y : Int) == (x : Int)) = false := by simp; omega
            have hkni : (k : Int) < (n : Int) := by omega
            clear hy hyx hne
            go_upto_region 5 with fail
            go_quiet (fail)
            go_upto_region 7 with fail
            go_region_held_law (fun w' => w'.cell? (ad.add i) = some (.int .u64 (x : Int))) (first | (with_reducible exact HX.out _ S6.out) | (with_reducible exact HX.out _ S5.out) | (with_reducible exact HX.out _ ((Hmi.out.drewN _).drew)) | (with_reducible exact HX.out _ (Hmi.out.drewN _)))
              (first
                | (go_at_call 18; refine (vrput_any A5 L5 c5 w5.heap.size (done ++ enc m) x _ Hr5.out (by rw [← HL5.out]; exact Hda.out) Hx64.out).mono ?_; rintro e w6 ⟨v6, rfl, ho6, hb6⟩; have Ho6 := Lib.hid ho6; have S6 : Hid (Mod (fun _ => False) wo w6) := Lib.hid (S5.out.trans (mod_below hb6) (fun _ _ h => h)); have Hle6 := Lib.hid S5.out.size; clear ho6 hb6)
                | (go_at_call 18; refine (vrput_any Ao Lo co _ done m _ (Hro.out.new (Hmi.out.drewN _)) (by rw [← HLo.out]; exact Hd9.out) Hm64.out).mono ?_; rintro e w5 ⟨v5, rfl, ho5, hb5⟩; obtain ⟨A5, L5, c5, rfl, HL5, _, _, hr5⟩ := own_formN8 ho5; have Hr5 := Lib.hid hr5; have S5 : Hid (Mod (fun _ => False) wo w5) := Lib.hid ((Hmi.out.drewN _).trans (mod_below hb5) (fun _ _ h => h)); clear ho5 hb5 hr5))
            have HE6 : Hid (LencTo w w6 us k v6) := Lib.hid ⟨_, Ho6.out.mono (Nat.le_trans Hm.out.size Hle6.out), Hst.out, by rw [List.length_append, List.length_append]; have := Hdl.out; have := Hq.out; have := Hq'.out; omega, Hm.out.trans S6.out (fun _ _ h => h)⟩
            go_wp2_with fail
            go_roundg (go - m)
            case measure => have := Hil.out; have := Hmk.out; omega
            case rel => exact ⟨k, by have := Hil.out; have := Hmk.out; omega, by go_num, HE6.out⟩
    · go_wp2_with fail
      go_ret
      have e : encR us = done := by
        rw [Henc.out, List.drop_of_length_le (by have := Hul.out; have := Hil.out; omega), encR_nil, List.append_nil]
      rw [e]
      exact ⟨_, rfl, Hown.out, Hm.out⟩
end Go.Proofs.Ytomdphepbihmcaa

/- The document's own answer: values are told by their least. -/
import Derived.Test.YtliaehfknppnaaaPp
import Derived.Deep.QuietTactic
import Derived.BigQuiet
import Derived.BigRegion
namespace Go.Proofs.Ytliaehfknppnaaa
open Go.RowKit

/-- The first loop: the least and the greatest of the first i; no memory is made. -/
def FrmTo (w wr : World) (us : List Nat) (i lo hi : Nat) : Prop := loI us i = lo ∧ hiI us i = hi ∧ lo < 2 ^ 64 ∧ hi < 2 ^ 64 ∧ Mod (fun _ => False) w wr
theorem FrmTo.step {w wr w2 : World} {us : List Nat} {i lo hi x lo2 hi2 : Nat} (h : FrmTo w wr us i lo hi) (hx : us[i]? = some x) (hx64 : x < 2 ^ 64) (h1 : min lo x = lo2) (h2 : max hi x = hi2) (hm : Mod (fun _ => False) wr w2) : FrmTo w w2 us (i + 1) lo2 hi2 := by
  obtain ⟨a1, a2, a3, a4, a5⟩ := h
  refine ⟨by rw [loI_succ hx, a1, h1], by rw [hiI_succ hx, a2, h2], by omega, by omega, a5.trans hm (fun _ _ h => h)⟩
/-- The second loop: how far each is from the least. -/
def DifTo (w wr : World) (us : List Nat) (i : Nat) (v : Value) : Prop := Own w.heap.size wr 31 v (cellsU ((difV us).take i)) ∧ Mod (fun _ => False) w wr
set_option maxHeartbeats 4000000 in
set_option maxRecDepth 100000 in
theorem rpenc_any (A : Option Addr) (n cap B : Nat) (us : List Nat) (w : World) (hs : Rds w B A n (cellsU us)) (hB : B ≤ w.heap.size) (hu : ∀ x ∈ us, x < 2 ^ 64) (hn : n ≤ 1000000) :
    Calls Try.prog 13 #[.slice A n cap] w fun e w' => ∃ v, e = .returned v ∧ Own w.heap.size w' 5 v (cells8 (encP us)) ∧ Mod (fun _ => False) w w' := by
  have hul : us.length = n := by have := hs.1; rwa [cellsU_length] at this
  by_cases h0 : n = 0
  · subst h0
    obtain rfl := List.eq_nil_of_length_eq_zero hul
    clear hs
    go_enter Try.func13, Try.ntmps13
    go_wp2_with fail
    go_ret
    exact ⟨_, rfl, Own.nil _ _ _, Mod.refl _ _⟩
  · have hne : us ≠ [] := by rintro rfl; exact h0 hul.symm
    have hp : 0 < n := by omega
    have hpi : (0 : Int) < (n : Int) := by omega
    have hn0 : ((n : Int) == 0) = false := by simp; omega
    obtain ⟨ad, x0, hA, hx0, hc0⟩ := hs.at2 hp hB (Mod.refl (fun _ => False) w) (fun _ _ h => h)
    have hc0' := hc0
    rw [add_nought] at hc0'
    have hx064 := hu x0 (List.mem_of_getElem? hx0)
    have hz1 : loI us 0 = x0 := by rw [loI_zero, List.getD_eq_getElem?_getD, hx0]; rfl
    have hz2 : hiI us 0 = x0 := by rw [hiI_zero, List.getD_eq_getElem?_getD, hx0]; rfl
    have H0 : Hid (∀ k, FrmTo w (w.drewN k) us 0 x0 x0) := Lib.hid (fun k => ⟨hz1, hz2, hx064, hx064, (Mod.refl _ _).drewN k⟩)
    have Hs := Lib.hid hs; have Hu := Lib.hid hu; have HB := Lib.hid hB; have Hul := Lib.hid hul; have Hne := Lib.hid hne
    clear hs hu hB hul hne hx0 hx064 hz1 hz2
    subst hA
    go_enter Try.func13, Try.ntmps13
    go_upto_region 3 with fail
    go_quiet (fail)
    go_wp2_with fail
    clear hc0 hc0'
    go_loopg [3, 4, 5] n (fun l s3 s4 s5 wr => ∃ (i lo hi : Nat), i + l = n ∧ s5 = .int .i64 (i : Int) ∧ s3 = .int .u64 (lo : Int) ∧ s4 = .int .u64 (hi : Int) ∧ FrmTo w wr us i lo hi)
    case atStart => exact ⟨0, x0, x0, by omega, rfl, rfl, rfl, H0.out _⟩
    case round =>
      obtain ⟨i, lo, hi, hil, rfl, rfl, rfl, hF⟩ := hrel
      have HF := Lib.hid hF; have Hil := Lib.hid hil
      clear hF hil H0
      by_cases hin : i < n
      · obtain ⟨ad', x, he, hx, hcx⟩ := Hs.out.at2 hin HB.out HF.out.2.2.2.2 (fun _ _ h => h)
        injection he with he
        subst he
        obtain ⟨lo2, hlo2⟩ : ∃ m2, min lo x = m2 := ⟨_, rfl⟩
        obtain ⟨hi2, hhi2⟩ : ∃ m2, max hi x = m2 := ⟨_, rfl⟩
        have hmin := minU_is (P := Try.prog) (t := 31) (ty := 31) hlo2
        have hmax := maxU_is (P := Try.prog) (t := 31) (ty := 31) hhi2
        have HS : Hid (∀ k, FrmTo w (wr.drewN k) us (i + 1) lo2 hi2) := Lib.hid (fun k => HF.out.step hx (Hu.out x (List.mem_of_getElem? hx)) hlo2 hhi2 ((Mod.refl _ _).drewN k))
        have hi1 : (0 : Int) ≤ (i : Int) := by omega
        clear hx hlo2 hhi2
        go_upto_region 7 with fail
        go_quiet (fail)
        go_wp2_with fail
        go_roundg (gk - 1)
        case measure => have := Hil.out; omega
        case rel => exact ⟨i + 1, lo2, hi2, by have := Hil.out; omega, by go_num, rfl, rfl, HS.out _⟩
      · have hin2 : i = n := by have := Hil.out; omega
        obtain ⟨hlo, hhi, hlo64, hhi64, hm⟩ := HF.out
        rw [loI_all (by have := Hul.out; omega)] at hlo
        rw [hiI_all (by have := Hul.out; omega)] at hhi
        have hLH : lo ≤ hi := by rw [← hlo, ← hhi]; exact Nat.le_trans (loV_le (getD_mem Hne.out)) (hiV_ge (getD_mem Hne.out))
        obtain ⟨d, hd⟩ : ∃ d, d = hi - lo := ⟨_, rfl⟩
        have hdw : IntKind.u64.wrap ((hi : Int) - (lo : Int)) = (d : Int) := by rw [IntKind.wrap_u64]; omega
        obtain ⟨S, hS⟩ : ∃ S, wid d = S := ⟨_, rfl⟩
        have hS64 : S ≤ 64 := by rw [← hS]; exact wid_le d
        have HS : Hid (widV us = S) := Lib.hid (by unfold widV; rw [hlo, hhi, ← hd]; exact hS)
        have hd64 : Lt64 d := by unfold Lt64; omega
        have hL64' : Lt64 lo := by unfold Lt64; omega
        have hcS : IntKind.u8.wrap (S : Int) = (S : Int) := by rw [IntKind.wrap_u8']; omega
        have hcS' : (S : Int) % 256 = (S : Int) := by omega
        have D0 : Hid (DifTo w wr us 0 (.slice none 0 0)) := Lib.hid ⟨Own.nil _ _ _, hm⟩
        have Hdl : Hid ((difV us).length = n) := Lib.hid (by rw [difV_len]; exact Hul.out)
        have HL := Lib.hid hlo; have Hd64 := Lib.hid hd64; have HL64 := Lib.hid hL64'; have HSd := Lib.hid hS
        clear hlo hhi hlo64 hhi64 hm hLH hd hS hd64 hL64' HF hin2
        go_wp2_with fail
        go_loopg [6, 7] n (fun l s6 s7 wq => ∃ i : Nat, i + l = n ∧ s7 = .int .i64 (i : Int) ∧ DifTo w wq us i s6)
        case atStart => exact ⟨0, by omega, rfl, D0.out⟩
        case round =>
          obtain ⟨j, hjl, rfl, hown, hm⟩ := hrel
          have Hown := Lib.hid hown; have Hm := Lib.hid hm; have Hjl := Lib.hid hjl
          clear hown hm hjl D0
          by_cases hjn : j < n
          · obtain ⟨ad', x, he, hx, hcx⟩ := Hs.out.at2 hjn HB.out Hm.out (fun _ _ h => h)
            injection he with he
            subst he
            have hxl := Hu.out x (List.mem_of_getElem? hx)
            have hLx : lo ≤ x := by rw [← HL.out]; exact loV_le (List.mem_of_getElem? hx)
            obtain ⟨y, hy⟩ : ∃ y, y = x - lo := ⟨_, rfl⟩
            have hyw : IntKind.u64.wrap ((x : Int) - (lo : Int)) = (y : Int) := by rw [IntKind.wrap_u64]; omega
            have Hy : Hid ((difV us).take (j + 1) = (difV us).take j ++ [y]) := Lib.hid (by rw [hy]; exact take_succ_of (difV_at hx HL.out))
            have hj1 : (0 : Int) ≤ (j : Int) := by omega
            have htl : ((difV us).take j).length ≤ 1000000 := by rw [List.length_take]; omega
            have hr1 : (cellsU ((difV us).take j)).length + 1 ≤ maxLen := by rw [cellsU_length]; unfold maxLen; omega
            have hr2 : ((cellsU ((difV us).take j)).length + 1) * 8 ≤ 140737488355328 := by rw [cellsU_length]; omega
            have Hr1 := Lib.hid hr1; have Hr2 := Lib.hid hr2
            have hsz := Hm.out.size
            clear hxl hLx hx hy htl hr1 hr2
            go_wp2_with (at_builtin; refine wpList_app1 rfl (.tmp 41) (.tmp 48) _ rfl eltU rfl Hown.out rfl rfl rfl Hr1.out Hr2.out hsz ?_; intro v' w3 HO HBl)
            have HD : Hid (DifTo w w3 us (j + 1) v') := Lib.hid ⟨by rw [Hy.out, cellsU_snoc]; exact HO.out, Hm.out.trans (Mod.of_below HBl.out) (fun i hi h => by omega)⟩
            clear HO HBl
            go_roundg (gk - 1)
            case measure => have := Hjl.out; omega
            case rel => exact ⟨j + 1, by have := Hjl.out; omega, by go_num, HD.out⟩
          · have htk : (difV us).take j = difV us := List.take_of_length_le (by have := Hjl.out; have := Hdl.out; omega)
            have hol := Hown.out
            rw [htk] at hol
            have Hol := Lib.hid hol
            clear hol htk Hown
            go_wp2_with fail
            refine (vrput_any none 0 0 0 [] lo wr (Rds.nil _ _ _) (by omega) HL64.out).mono ?_
            rintro e w2 ⟨v2, rfl, ho2, hb2⟩
            rw [List.nil_append] at ho2
            have Ho2 := Lib.hid ho2; have Hm2 := Lib.hid (Hm.out.trans (mod_below hb2) (fun _ _ h => h)); have Hol2 := Lib.hid (Hol.out.below hb2)
            have hq := enc_len10 HL64.out.out
            have hR : Room (cells8 (enc lo)).length 1 := Room.mk _ _ (by rw [cells8_length]; omega)
            have HR := Lib.hid hR
            have hsz : wr.heap.size ≤ w2.heap.size := hb2.size
            have hmsz := Hm.out.size
            have hbb := hb2
            clear ho2 hb2 hR
            go_wp2_with fail
            refine (rwidth_any d S w2 Hd64.out HSd.out).mono ?_
            rintro e w2' ⟨rfl, rfl⟩
            have Hb2 := Lib.hid hbb
            go_wp2_with (at_builtin; refine wpList_app1 rfl (.tmp 51) (.tmp 57) _ rfl elt8 rfl Ho2.out rfl rfl rfl HR.out.1 HR.out.2 hsz ?_; intro v3 w3 H1 H2)
            have hbel : Below wr.heap.size wr w3 := Hb2.out.trans H2.out
            have ho3 : Own wr.heap.size w3 5 v3 (cells8 (enc lo ++ [S])) := by rw [cells8_snoc]; exact H1.out
            have hol3 : Own w.heap.size w3 31 u6 (cellsU (difV us)) := (Mod.of_below hbel).owns Hol.out (fun k hk h => by have := (Hol.out.block k hk).2; omega)
            obtain ⟨A3, n3, c3, rfl, Hn3, _, _, hr3⟩ := own_formN8 ho3
            obtain ⟨A6, n6, c6, rfl, Hn6, _, hr6⟩ := own_formUN hol3
            have hn3 : n3 ≤ 1000000 := by rw [← Hn3.out, List.length_append, List.length_singleton]; omega
            have hn6 : n6 ≤ 1000000 := by rw [← Hn6.out, Hdl.out]; exact hn
            have Hr3 := Lib.hid hr3; have Hr6 := Lib.hid hr6; have Hm3 := Lib.hid (Hm.out.trans (mod_below hbel) (fun _ _ h => h))
            clear hbel ho3 hol3 hr3 hr6 H1 H2 Hb2 hbb Ho2 Hol2 Hm2
            go_wp2_with fail
            refine (rwidth_any d S w3 Hd64.out HSd.out).mono ?_
            rintro e w4 ⟨rfl, rfl⟩
            go_wp2_with fail
            refine (rpack_any A3 A6 n3 c3 n6 c6 w3.heap.size S _ _ w3 Hr3.out Hr6.out (Nat.le_refl _) (fun x hx => by
              obtain ⟨y, hy, rfl⟩ := List.mem_map.1 hx
              have := Hu.out y hy
              omega) hS64 hn3 hn6).mono ?_
            rintro e w4 ⟨v4, rfl, ho4, hm4⟩
            have Ho4 := Lib.hid ho4; have Hm4 := Lib.hid (Hm3.out.trans hm4 (fun _ _ h => h)); have hsz4 := Hm3.out.size
            clear ho4 hm4
            go_wp2_with fail
            go_ret
            have e : encP us = enc lo ++ (S :: packW S (difV us)) := by rw [encP_cons Hne.out, HL.out, HS.out]
            rw [e]
            have ho4 := Ho4.out
            rw [List.append_assoc] at ho4
            exact ⟨_, rfl, ho4.mono hsz4, Hm4.out⟩
end Go.Proofs.Ytliaehfknppnaaa

/- The texts Pf, Df, Kxt, Rt, Ru, Kxe, Kpk, Wu, one behind the other. -/
import Derived.Test.YtmcemeofkjfhhaaGreatDoorM5h1
import Derived.Test.YtmcemeofkjfhhaaGreatDoorM5h2
import Derived.Test.YtmcemeofkjfhhaaGreatDoorM5h3
import Derived.Test.YtmcemeofkjfhhaaGreatDoorM5h4
/- The document's own answer: values are told by their least. -/
namespace Go.Proofs.YtmcemeofkjfhhaaGreatDoor
open Go.RowKit

/-- The first loop: the least and the greatest of the first i; no memory is made. -/
def FrmTo (w wr : World) (us : List Nat) (i lo hi : Nat) : Prop := loI us i = lo ∧ hiI us i = hi ∧ lo < 2 ^ 64 ∧ hi < 2 ^ 64 ∧ Mod (fun _ => False) w wr
theorem FrmTo.step {w wr w2 : World} {us : List Nat} {i lo hi x lo2 hi2 : Nat} (h : FrmTo w wr us i lo hi) (hx : us[i]? = some x) (hx64 : x < 2 ^ 64) (h1 : min lo x = lo2) (h2 : max hi x = hi2) (hm : Mod (fun _ => False) wr w2) : FrmTo w w2 us (i + 1) lo2 hi2 := by
  obtain ⟨a1, a2, a3, a4, a5⟩ := h
  refine ⟨by rw [loI_succ hx, a1, h1], by rw [hiI_succ hx, a2, h2], by omega, by omega, a5.trans hm (fun _ _ h => h)⟩
/-- The second loop: how far each is from the least. -/
def DifTo (w wr : World) (us : List Nat) (i : Nat) (v : Value) : Prop := Own w.heap.size wr 22 v (cellsU ((difV us).take i)) ∧ Mod (fun _ => False) w wr
set_option maxHeartbeats 4000000 in
set_option maxRecDepth 100000 in
theorem rpenc_any (A : Option Addr) (n cap B : Nat) (us : List Nat) (w : World) (hs : Rds w B A n (cellsU us)) (hB : B ≤ w.heap.size) (hu : ∀ x ∈ us, x < 2 ^ 64) (hn : n ≤ 1000000) :
    Calls Tryz.prog 36 #[.slice A n cap] w fun e w' => ∃ v, e = .returned v ∧ Own w.heap.size w' 5 v (cells8 (encP us)) ∧ Mod (fun _ => False) w w' := by
  have hul : us.length = n := by have := hs.1; rwa [cellsU_length] at this
  by_cases h0 : n = 0
  · subst h0
    obtain rfl := List.eq_nil_of_length_eq_zero hul
    clear hs
    go_enter Tryz.func36, Tryz.ntmps36
    go_wp2_with fail
    go_ret
    exact ⟨_, rfl, Own.nil _ _ _, Mod.refl _ _⟩
  · have hne : us ≠ [] := by rintro rfl; exact h0 hul.symm
    have hp : 0 < n := by omega
    have hpi : (0 : Int) < (n : Int) := by omega
    have hn0 : ((n : Int) == 0) = false := by simp; omega
    obtain ⟨ad, x0, hA, hx0, hc0⟩ := hs.at2 hp hB (Mod.refl (fun _ => False) w) (fun _ _ h => h)
    have hc0' := hc0
    rw [add_nought] at hc0'
    have hx064 := hu x0 (List.mem_of_getElem? hx0)
    have hz1 : loI us 0 = x0 := by rw [loI_zero, List.getD_eq_getElem?_getD, hx0]; rfl
    have hz2 : hiI us 0 = x0 := by rw [hiI_zero, List.getD_eq_getElem?_getD, hx0]; rfl
    have H0 : Hid (∀ k, FrmTo w (w.drewN k) us 0 x0 x0) := Lib.hid (fun k => ⟨hz1, hz2, hx064, hx064, (Mod.refl _ _).drewN k⟩)
    have Hs := Lib.hid hs; have Hu := Lib.hid hu; have HB := Lib.hid hB; have Hul := Lib.hid hul; have Hne := Lib.hid hne
    clear hs hu hB hul hne hx0 hx064 hz1 hz2
    subst hA
    go_enter Tryz.func36, Tryz.ntmps36
    go_upto_region 3 with fail
    go_quiet (fail)
    go_wp2_with fail
    clear hc0 hc0'
    go_loopg [3, 4, 5] n (fun l s3 s4 s5 wr => ∃ (i lo hi : Nat), i + l = n ∧ s5 = .int .i64 (i : Int) ∧ s3 = .int .u64 (lo : Int) ∧ s4 = .int .u64 (hi : Int) ∧ FrmTo w wr us i lo hi)
    case atStart => exact ⟨0, x0, x0, by omega, rfl, rfl, rfl, H0.out _⟩
    case round =>
      obtain ⟨i, lo, hi, hil, rfl, rfl, rfl, hF⟩ := hrel
      have HF := Lib.hid hF; have Hil := Lib.hid hil
      clear hF hil H0
      by_cases hin : i < n
      · obtain ⟨ad', x, he, hx, hcx⟩ := Hs.out.at2 hin HB.out HF.out.2.2.2.2 (fun _ _ h => h)
        injection he with he
        subst he
        obtain ⟨lo2, hlo2⟩ : ∃ m2, min lo x = m2 := ⟨_, rfl⟩
        obtain ⟨hi2, hhi2⟩ : ∃ m2, max hi x = m2 := ⟨_, rfl⟩
        have hmin := minU_is (P := Tryz.prog) (t := 22) (ty := 22) hlo2
        have hmax := maxU_is (P := Tryz.prog) (t := 22) (ty := 22) hhi2
        have HS : Hid (∀ k, FrmTo w (wr.drewN k) us (i + 1) lo2 hi2) := Lib.hid (fun k => HF.out.step hx (Hu.out x (List.mem_of_getElem? hx)) hlo2 hhi2 ((Mod.refl _ _).drewN k))
        have hi1 : (0 : Int) ≤ (i : Int) := by omega
        clear hx hlo2 hhi2
        go_upto_region 7 with fail
        go_quiet (fail)
        go_wp2_with fail
        go_roundg (gk - 1)
        case measure => have := Hil.out; omega
        case rel => exact ⟨i + 1, lo2, hi2, by have := Hil.out; omega, by go_num, rfl, rfl, HS.out _⟩
      · have hin2 : i = n := by have := Hil.out; omega
        obtain ⟨hlo, hhi, hlo64, hhi64, hm⟩ := HF.out
        rw [loI_all (by have := Hul.out; omega)] at hlo
        rw [hiI_all (by have := Hul.out; omega)] at hhi
        have hLH : lo ≤ hi := by rw [← hlo, ← hhi]; exact Nat.le_trans (loV_le (getD_mem Hne.out)) (hiV_ge (getD_mem Hne.out))
        obtain ⟨d, hd⟩ : ∃ d, d = hi - lo := ⟨_, rfl⟩
        have hdw : IntKind.u64.wrap ((hi : Int) - (lo : Int)) = (d : Int) := by rw [IntKind.wrap_u64]; omega
        obtain ⟨S, hS⟩ : ∃ S, wid d = S := ⟨_, rfl⟩
        have hS64 : S ≤ 64 := by rw [← hS]; exact wid_le d
        have HS : Hid (widV us = S) := Lib.hid (by unfold widV; rw [hlo, hhi, ← hd]; exact hS)
        have hd64 : Lt64 d := by unfold Lt64; omega
        have hL64' : Lt64 lo := by unfold Lt64; omega
        have hcS : IntKind.u8.wrap (S : Int) = (S : Int) := by rw [IntKind.wrap_u8']; omega
        have hcS' : (S : Int) % 256 = (S : Int) := by omega
        have D0 : Hid (DifTo w wr us 0 (.slice none 0 0)) := Lib.hid ⟨Own.nil _ _ _, hm⟩
        have Hdl : Hid ((difV us).length = n) := Lib.hid (by rw [difV_len]; exact Hul.out)
        have HL := Lib.hid hlo; have Hd64 := Lib.hid hd64; have HL64 := Lib.hid hL64'; have HSd := Lib.hid hS
        clear hlo hhi hlo64 hhi64 hm hLH hd hS hd64 hL64' HF hin2
        go_wp2_with fail
        go_loopg [6, 7] n (fun l s6 s7 wq => ∃ i : Nat, i + l = n ∧ s7 = .int .i64 (i : Int) ∧ DifTo w wq us i s6)
        case atStart => exact ⟨0, by omega, rfl, D0.out⟩
        case round =>
          obtain ⟨j, hjl, rfl, hown, hm⟩ := hrel
          have Hown := Lib.hid hown; have Hm := Lib.hid hm; have Hjl := Lib.hid hjl
          clear hown hm hjl D0
          by_cases hjn : j < n
          · obtain ⟨ad', x, he, hx, hcx⟩ := Hs.out.at2 hjn HB.out Hm.out (fun _ _ h => h)
            injection he with he
            subst he
            have hxl := Hu.out x (List.mem_of_getElem? hx)
            have hLx : lo ≤ x := by rw [← HL.out]; exact loV_le (List.mem_of_getElem? hx)
            obtain ⟨y, hy⟩ : ∃ y, y = x - lo := ⟨_, rfl⟩
            have hyw : IntKind.u64.wrap ((x : Int) - (lo : Int)) = (y : Int) := by rw [IntKind.wrap_u64]; omega
            have Hy : Hid ((difV us).take (j + 1) = (difV us).take j ++ [y]) := Lib.hid (by rw [hy]; exact take_succ_of (difV_at hx HL.out))
            have hj1 : (0 : Int) ≤ (j : Int) := by omega
            have htl : ((difV us).take j).length ≤ 1000000 := by rw [List.length_take]; omega
            have hr1 : (cellsU ((difV us).take j)).length + 1 ≤ maxLen := by rw [cellsU_length]; unfold maxLen; omega
            have hr2 : ((cellsU ((difV us).take j)).length + 1) * 8 ≤ 140737488355328 := by rw [cellsU_length]; omega
            have Hr1 := Lib.hid hr1; have Hr2 := Lib.hid hr2
            have hsz := Hm.out.size
            clear hxl hLx hx hy htl hr1 hr2
            go_wp2_with (at_builtin; refine wpList_app1 rfl (.tmp 41) (.tmp 48) _ rfl eltU rfl Hown.out rfl rfl rfl Hr1.out Hr2.out hsz ?_; intro v' w3 HO HBl)
            have HD : Hid (DifTo w w3 us (j + 1) v') := Lib.hid ⟨by rw [Hy.out, cellsU_snoc]; exact HO.out, Hm.out.trans (Mod.of_below HBl.out) (fun i hi h => by omega)⟩
            clear HO HBl
            go_roundg (gk - 1)
            case measure => have := Hjl.out; omega
            case rel => exact ⟨j + 1, by have := Hjl.out; omega, by go_num, HD.out⟩
          · have htk : (difV us).take j = difV us := List.take_of_length_le (by have := Hjl.out; have := Hdl.out; omega)
            have hol := Hown.out
            rw [htk] at hol
            have Hol := Lib.hid hol
            clear hol htk Hown
            go_wp2_with fail
            refine (vrput_any none 0 0 0 [] lo wr (Rds.nil _ _ _) (by omega) HL64.out).mono ?_
            rintro e w2 ⟨v2, rfl, ho2, hb2⟩
            rw [List.nil_append] at ho2
            have Ho2 := Lib.hid ho2; have Hm2 := Lib.hid (Hm.out.trans (mod_below hb2) (fun _ _ h => h)); have Hol2 := Lib.hid (Hol.out.below hb2)
            have hq := enc_len10 HL64.out.out
            have hR : Room (cells8 (enc lo)).length 1 := Room.mk _ _ (by rw [cells8_length]; omega)
            have HR := Lib.hid hR
            have hsz : wr.heap.size ≤ w2.heap.size := hb2.size
            have hmsz := Hm.out.size
            have hbb := hb2
            clear ho2 hb2 hR
            go_wp2_with fail
            refine (rwidth_any d S w2 Hd64.out HSd.out).mono ?_
            rintro e w2' ⟨rfl, rfl⟩
            have Hb2 := Lib.hid hbb
            go_wp2_with (at_builtin; refine wpList_app1 rfl (.tmp 51) (.tmp 57) _ rfl elt8 rfl Ho2.out rfl rfl rfl HR.out.1 HR.out.2 hsz ?_; intro v3 w3 H1 H2)
            have hbel : Below wr.heap.size wr w3 := Hb2.out.trans H2.out
            have ho3 : Own wr.heap.size w3 5 v3 (cells8 (enc lo ++ [S])) := by rw [cells8_snoc]; exact H1.out
            have hol3 : Own w.heap.size w3 22 u6 (cellsU (difV us)) := (Mod.of_below hbel).owns Hol.out (fun k hk h => by have := (Hol.out.block k hk).2; omega)
            obtain ⟨A3, n3, c3, rfl, Hn3, _, _, hr3⟩ := own_formN8 ho3
            obtain ⟨A6, n6, c6, rfl, Hn6, _, hr6⟩ := own_formUN hol3
            have hn3 : n3 ≤ 1000000 := by rw [← Hn3.out, List.length_append, List.length_singleton]; omega
            have hn6 : n6 ≤ 1000000 := by rw [← Hn6.out, Hdl.out]; exact hn
            have Hr3 := Lib.hid hr3; have Hr6 := Lib.hid hr6; have Hm3 := Lib.hid (Hm.out.trans (mod_below hbel) (fun _ _ h => h))
            clear hbel ho3 hol3 hr3 hr6 H1 H2 Hb2 hbb Ho2 Hol2 Hm2
            go_wp2_with fail
            refine (rwidth_any d S w3 Hd64.out HSd.out).mono ?_
            rintro e w4 ⟨rfl, rfl⟩
            go_wp2_with fail
            refine (rpack_any A3 A6 n3 c3 n6 c6 w3.heap.size S _ _ w3 Hr3.out Hr6.out (Nat.le_refl _) (fun x hx => by
              obtain ⟨y, hy, rfl⟩ := List.mem_map.1 hx
              have := Hu.out y hy
              omega) hS64 hn3 hn6).mono ?_
            rintro e w4 ⟨v4, rfl, ho4, hm4⟩
            have Ho4 := Lib.hid ho4; have Hm4 := Lib.hid (Hm3.out.trans hm4 (fun _ _ h => h)); have hsz4 := Hm3.out.size
            clear ho4 hm4
            go_wp2_with fail
            go_ret
            have e : encP us = enc lo ++ (S :: packW S (difV us)) := by rw [encP_cons Hne.out, HL.out, HS.out]
            rw [e]
            have ho4 := Ho4.out
            rw [List.append_assoc] at ho4
            exact ⟨_, rfl, ho4.mono hsz4, Hm4.out⟩
end Go.Proofs.YtmcemeofkjfhhaaGreatDoor

/- The document's own answer: a value's place, and values told by a list. -/
namespace Go.Proofs.YtmcemeofkjfhhaaGreatDoor
open Go.RowKit Go.Maps

/-- What place tells. -/
def plcI (x : Nat) (l : List Nat) : Int := if x ∈ l then (plc x l : Int) else -1
theorem plcI_in {x : Nat} {l : List Nat} (h : x ∈ l) : plcI x l = (plc x l : Int) := if_pos h
theorem plcI_out {x : Nat} {l : List Nat} (h : x ∉ l) : plcI x l = -1 := if_neg h
set_option maxHeartbeats 1000000 in
set_option maxRecDepth 100000 in
theorem place_any (A : Option Addr) (n c B x : Nat) (l : List Nat) (w : World) (hs : Rds w B A n (cellsU l)) (hB : B ≤ w.heap.size) (hn : n ≤ 1000000) :
    Calls Tryz.prog 70 #[.slice A n c, .int .u64 (x : Int)] w fun e w' => e = .returned (.int .i64 (plcI x l)) ∧ w = w' := by
  have hul : l.length = n := by have := hs.1; rwa [cellsU_length] at this
  have Hs := Lib.hid hs; have HB := Lib.hid hB; have Hul := Lib.hid hul
  clear hs hB hul
  go_enter Tryz.func70, Tryz.ntmps70
  go_wp2_with fail
  go_loopg [5] n (fun l' s5 wr => ∃ i : Nat, i + l' = n ∧ s5 = .int .i64 (i : Int) ∧ (∀ j, j < i → l[j]? ≠ some x) ∧ w = wr)
  case atStart => exact ⟨0, by omega, rfl, (fun _ h => absurd h (Nat.not_lt_zero _)), rfl⟩
  case round =>
    obtain ⟨i, hil, rfl, hno, rfl⟩ := hrel
    have Hil := Lib.hid hil; have Hno := Lib.hid hno
    clear hil hno
    by_cases hin : i < n
    · obtain ⟨ad, y, rfl, hy, hcy⟩ := Hs.out.at2 hin HB.out (Mod.refl (fun _ => False) w) (fun _ _ h => h)
      have hi0 : (0 : Int) ≤ (i : Int) := by omega
      by_cases hyx : y = x
      · subst hyx
        have Hp : Hid (plcI y l = (i : Int)) := Lib.hid (by rw [plcI_in (List.mem_of_getElem? hy), plc_is hy Hno.out])
        clear hy
        go_wp2_with fail
        go_ret
        rw [Hp.out]
        exact ⟨rfl, rfl⟩
      · have hyb : ((y : Int) == (x : Int)) = false := by simp; omega
        have Hno2 : Hid (∀ j, j < i + 1 → l[j]? ≠ some x) := Lib.hid (fun j hj e => by
          rcases Nat.lt_or_ge j i with h | h
          · exact Hno.out j h e
          · obtain rfl : j = i := by omega
            rw [hy] at e
            injection e with e
            exact hyx e)
        clear hy hyx
        go_wp2_with fail
        go_roundg (gk - 1)
        case measure => have := Hil.out; omega
        case rel => exact ⟨i + 1, by have := Hil.out; omega, by go_num, Hno2.out, rfl⟩
    · have hi : i = n := by have := Hil.out; omega
      have Hp : Hid (plcI x l = -1) := Lib.hid (plcI_out (fun h => by
        obtain ⟨j, hj⟩ := List.mem_iff_getElem?.1 h
        have := (List.getElem?_eq_some_iff.1 hj).1
        exact Hno.out j (by rw [hi, ← Hul.out]; exact this) hj))
      go_wp2_with fail
      go_ret
      rw [Hp.out]
      exact ⟨rfl, rfl⟩
theorem uniq_keep {v : List Nat} {x : Nat} : ∃ t, uniq (v ++ [x]) = uniq v ++ t := uniq_app v [x]
/-- A value more: each has its place as it had. -/
theorem atD_step (v : List Nat) (x : Nat) : atD (v ++ [x]) = atD v ++ [plc x (uniq (v ++ [x]))] := by
  obtain ⟨t, ht⟩ := uniq_keep (v := v) (x := x)
  unfold atD
  rw [List.map_append]
  congr 1
  apply List.map_congr_left
  intro y hy
  rw [ht, plc_app (uniq_mem hy)]
/-- What Dict has made of i values. -/
def RDTo (w wr : World) (us : List Nat) (i : Nat) (v u : Value) : Prop :=
  Own w.heap.size wr 22 v (cellsU (uniq (us.take i))) ∧ Own w.heap.size wr 22 u (cellsU (atD (us.take i))) ∧ Twain v u ∧ (uniq (us.take i)).length ≤ 256 ∧ Mod (fun _ => False) w wr
set_option maxHeartbeats 4000000 in
set_option maxRecDepth 100000 in
theorem rdenc_any (A : Option Addr) (n cap B : Nat) (us : List Nat) (w : World) (hs : Rds w B A n (cellsU us)) (hB : B ≤ w.heap.size) (hu : ∀ x ∈ us, x < 2 ^ 64) (hn : n ≤ 1000000) :
    Calls Tryz.prog 37 #[.slice A n cap] w fun e w' => EncB w w' (encD us) e := by
  have hul : us.length = n := by have := hs.1; rwa [cellsU_length] at this
  have R0 : Hid (RDTo w w us 0 (.slice none 0 0) (.slice none 0 0)) := Lib.hid ⟨Own.nil _ _ _, Own.nil _ _ _, (fun _ h => by cases h), Nat.zero_le _, Mod.refl _ _⟩
  have Hs := Lib.hid hs; have Hu := Lib.hid hu; have HB := Lib.hid hB; have Hul := Lib.hid hul
  clear hs hu hB hul
  go_enter Tryz.func37, Tryz.ntmps37
  go_wp2_with fail
  go_loopg [4, 5, 6] n (fun l s4 s5 s6 wr => ∃ i : Nat, i + l = n ∧ s6 = .int .i64 (i : Int) ∧ RDTo w wr us i s4 s5)
  case atStart => exact ⟨0, by omega, rfl, R0.out⟩
  case round =>
    obtain ⟨i, hil, rfl, hown4, hown5, htw, hlen, hm⟩ := hrel
    obtain ⟨A4, L, c4, rfl, HL, _, hr4⟩ := own_formUN hown4
    have H4 := Lib.hid hown4; have H5 := Lib.hid hown5; have Htw := Lib.hid htw; have Hm := Lib.hid hm; have Hil := Lib.hid hil; have Hr4 := Lib.hid hr4
    have hL256 : L ≤ 256 := by have := HL.out; omega
    clear hown4 hown5 htw hm hil hr4 R0 hlen
    by_cases hin : i < n
    · obtain ⟨ad, x, rfl, hx, hcx⟩ := Hs.out.at2 hin HB.out Hm.out (fun _ _ h => h)
      have Hcell : Hid (∀ W, Mod (fun _ => False) w W → W.cell? (ad.add i) = some (.int .u64 (x : Int))) := Lib.hid (fun W hW => by
        obtain ⟨ad', x', e, hx', hc⟩ := Hs.out.at2 hin HB.out hW (fun _ _ h => h)
        injection e with e
        subst e
        rw [hx] at hx'
        injection hx' with hx'
        subst hx'
        exact hc)
      have Htk := Lib.hid (take_succ_of hx)
      have Hat : Hid (atD (us.take (i + 1)) = atD (us.take i) ++ [plc x (uniq (us.take (i + 1)))]) := Lib.hid (by rw [Htk.out, atD_step])
      have hi0 : (0 : Int) ≤ (i : Int) := by omega
      have hini : (i : Int) < (n : Int) := by omega
      have hatl : (atD (us.take i)).length ≤ 1000000 := by rw [atD_len, List.length_take]; omega
      have hr3 : (cellsU (atD (us.take i))).length + 1 ≤ maxLen := by rw [cellsU_length]; unfold maxLen; omega
      have hr4 : ((cellsU (atD (us.take i))).length + 1) * 8 ≤ 140737488355328 := by rw [cellsU_length]; omega
      have Hr3 := Lib.hid hr3; have Hr34 := Lib.hid hr4
      clear hx hatl hr3 hr4
      by_cases hin2 : x ∈ uniq (us.take i)
      · have Hq : Hid (uniq (us.take (i + 1)) = uniq (us.take i)) := Lib.hid (by rw [Htk.out, uniq_snoc, if_pos hin2])
        obtain ⟨p, hp⟩ : ∃ p, plc x (uniq (us.take i)) = p := ⟨_, rfl⟩
        have hp256 : p < 256 := by have h := plc_lt hin2; have := HL.out; omega
        have Hpl : Hid (plcI x (uniq (us.take i)) = (p : Int)) := Lib.hid (by rw [plcI_in hin2, hp])
        have Hp2 : Hid (plc x (uniq (us.take (i + 1))) = p) := Lib.hid (by rw [Hq.out]; exact hp)
        have Hplace := Lib.hid (place_any A4 L c4 _ x (uniq (us.take i)) wr Hr4.out (Nat.le_refl _) (by omega))
        have hp0 : ¬ (p : Int) < 0 := by omega
        have hsz := Hm.out.size
        have hLb : ¬ (256 : Int) < (L : Int) := by omega
        clear hin2 hp
        go_wp2_with fail
        refine Hplace.out.mono ?_
        rintro e w1 ⟨rfl, rfl⟩
        rw [Hpl.out]
        go_wp2_with fail
        refine Hplace.out.mono ?_
        rintro e w1 ⟨rfl, rfl⟩
        rw [Hpl.out]
        go_wp2_with (at_builtin; refine wpList_app1g rfl (.tmp 29) (.tmp 37) _ rfl eltU rfl H5.out rfl rfl rfl Hr3.out Hr34.out hsz ?_; intro v5 w5 HO5 HB5 HG5)
        have HR : Hid (RDTo w w5 us (i + 1) (.slice A4 L c4) v5) := Lib.hid ⟨by rw [Hq.out]; exact HG5.out.1.owns H4.out (fun k hk e => Htw.out k hk e), by rw [Hat.out, cellsU_snoc, Hp2.out]; exact HO5.out, (Htw.out.symm.step H4.out HG5.out.2).symm, by rw [Hq.out, HL.out]; exact hL256, Hm.out.trans (Mod.of_below HB5.out) (fun i hi h => by omega)⟩
        clear HO5 HB5 HG5
        go_roundg (gk - 1)
        case measure => have := Hil.out; omega
        case rel => exact ⟨i + 1, by have := Hil.out; omega, by go_num, HR.out⟩
      · have Hq : Hid (uniq (us.take (i + 1)) = uniq (us.take i) ++ [x]) := Lib.hid (by rw [Htk.out, uniq_snoc, if_neg hin2])
        have hxm : x ∈ uniq (us.take (i + 1)) := by rw [Hq.out]; simp
        have Hp2 : Hid (plc x (uniq (us.take (i + 1))) = L) := Lib.hid (by
          rw [Hq.out]
          refine plc_is (by rw [List.getElem?_append_right (by rw [HL.out]; exact Nat.le_refl _), HL.out, Nat.sub_self]; rfl) fun j hj => ?_
          rw [List.getElem?_append_left (by rw [HL.out]; exact hj)]
          exact fun e => hin2 (List.mem_of_getElem? e))
        have Hpl : Hid (plcI x (uniq (us.take i)) = -1) := Lib.hid (plcI_out hin2)
        have Hpl2 : Hid (plcI x (uniq (us.take (i + 1))) = (L : Int)) := Lib.hid (by rw [plcI_in hxm, Hp2.out])
        have Hplace := Lib.hid (place_any A4 L c4 _ x (uniq (us.take i)) wr Hr4.out (Nat.le_refl _) (by omega))
        have HL' : Hid (∀ L', (uniq (us.take (i + 1))).length = L' → L' = L + 1) := Lib.hid (fun L' h => by rw [Hq.out, List.length_append, HL.out] at h; exact h.symm)
        have Hmono : Hid ((uniq (us.take (i + 1))).length ≤ (uniq us).length) := Lib.hid (uniq_take_le us (i + 1))
        have hr1 : (cellsU (uniq (us.take i))).length + 1 ≤ maxLen := by rw [cellsU_length, HL.out]; unfold maxLen; omega
        have hr2 : ((cellsU (uniq (us.take i))).length + 1) * 8 ≤ 140737488355328 := by rw [cellsU_length, HL.out]; omega
        have Hr1 := Lib.hid hr1; have Hr2 := Lib.hid hr2
        have hsz := Hm.out.size
        clear hin2 hxm hr1 hr2
        go_wp2_with fail
        refine Hplace.out.mono ?_
        rintro e w1 ⟨rfl, rfl⟩
        rw [Hpl.out]
        go_wp2_with (at_builtin; refine wpList_app1g rfl (.tmp 22) (.tmp 27) _ rfl eltU rfl H4.out rfl rfl rfl Hr1.out Hr2.out hsz ?_; intro v4 w4 HO4 HB4 HG4; have Hm4 := Lib.hid (Hm.out.trans (Mod.of_below HB4.out) (fun i hi h => by omega)); have H5a : Hid (Own w.heap.size w4 22 u5 (cellsU (atD (us.take i)))) := Lib.hid (HG4.out.1.owns H5.out (fun k hk e => Htw.out.symm k hk e)); have Htw4 := Lib.hid (Htw.out.step H5.out HG4.out.2); have H4' : Hid (Own w.heap.size w4 22 v4 (cellsU (uniq (us.take (i + 1))))) := Lib.hid (by rw [Hq.out, cellsU_snoc]; exact HO4.out); clear HO4 HB4 HG4; obtain ⟨A6, L6, c6, rfl, HL6, _, hr6⟩ := own_formUN H4'.out; obtain rfl := HL'.out L6 HL6.out; have Hplace4 := Lib.hid (place_any A6 (L + 1) c6 _ x (uniq (us.take (i + 1))) w4 hr6 (Nat.le_refl _) (by omega)); clear hr6; have hcx4 := Hcell.out _ Hm4.out; have hsz4 : w.heap.size ≤ w4.heap.size := Hm4.out.size)
        refine Hplace4.out.mono ?_
        rintro e w1 ⟨rfl, rfl⟩
        rw [Hpl2.out]
        go_wp2_with (at_builtin; refine wpList_app1g rfl (.tmp 29) (.tmp 37) _ rfl eltU rfl H5a.out rfl rfl rfl Hr3.out Hr34.out hsz4 ?_; intro v5 w5 HO5 HB5 HG5)
        · have Hd : Hid (encD us = none) := Lib.hid (encD_many (by have := Hmono.out; have := HL6.out; omega))
          have Hm5 := Lib.hid (Hm4.out.trans (Mod.of_below HB5.out) (fun i hi h => by omega))
          go_ret2
          rw [Hd.out]
          exact ⟨rfl, Hm5.out⟩
        · have HR : Hid (RDTo w w5 us (i + 1) (.slice A6 (L + 1) c6) v5) := Lib.hid ⟨HG5.out.1.owns H4'.out (fun k hk e => Htw4.out k hk e), by rw [Hat.out, cellsU_snoc, Hp2.out]; exact HO5.out, (Htw4.out.symm.step H4'.out HG5.out.2).symm, by rw [HL6.out]; omega, Hm4.out.trans (Mod.of_below HB5.out) (fun i hi h => by omega)⟩
          clear HO5 HB5 HG5
          go_roundg (gk - 1)
          case measure => have := Hil.out; omega
          case rel => exact ⟨i + 1, by have := Hil.out; omega, by go_num, HR.out⟩
    · have hi : i = n := by have := Hil.out; omega
      obtain ⟨A5, m5, c5, rfl, HL5, _, hr5⟩ := own_formUN H5.out
      have htk : us.take i = us := List.take_of_length_le (by rw [Hul.out]; omega)
      rw [htk] at HL HL5 hr5
      have hr4 := Hr4.out
      rw [htk] at hr4
      obtain rfl : m5 = n := by have := HL5.out; rw [atD_len, Hul.out] at this; exact this.symm
      have Hr5 := Lib.hid hr5; have Hr4' := Lib.hid hr4
      clear hr5 hr4 htk H4 H5 Htw Hr4 hin
      by_cases h0 : m5 = 0
      · have hn0 : ((m5 : Int) == 0) = true := by simp; omega
        have Hd : Hid (encD us = some []) := Lib.hid (by
          have e : us = [] := List.eq_nil_of_length_eq_zero (by rw [Hul.out]; exact h0)
          rw [e]
          exact encD_nil)
        clear h0
        go_wp2_with fail
        go_ret2
        rw [Hd.out]
        exact ⟨_, rfl, Own.nil _ _ _, Hm.out⟩
      · have hn0 : ((m5 : Int) == 0) = false := by simp; omega
        have Hne : Hid (us ≠ []) := Lib.hid (by rintro rfl; exact h0 Hul.out.symm)
        have hL0 : ¬ L = 0 := by have h := uniq_pos Hne.out; have := HL.out; omega
        have hL64 : Hid (Lt64 L) := Lib.hid (by unfold Lt64; omega)
        obtain ⟨S, hS⟩ : ∃ S, wid (L - 1) = S := ⟨_, rfl⟩
        have hS64 : S ≤ 64 := by rw [← hS]; exact wid_le _
        obtain ⟨y, hy⟩ : ∃ y, y = L - 1 := ⟨_, rfl⟩
        have hyi : (L : Int) - 1 = (y : Int) := by omega
        have hyL : y ≤ 1000000 := by omega
        have Hwid : Hid (∀ W, Calls Tryz.prog 69 #[.int .u64 (y : Int)] W fun e w' => e = .returned (.int .i64 (S : Int)) ∧ W = w') := Lib.hid (fun W => rwidth_any y S W (by unfold Lt64; omega) (by rw [hy]; exact hS))
        have HS := Lib.hid hS
        have Hu2 : Hid (∀ x ∈ uniq us, x < 2 ^ 64) := Lib.hid (fun x hx => Hu.out x (uniq_of hx))
        have Hat2 : Hid (∀ x ∈ atD us, x < 2 ^ 64) := Lib.hid (fun x hx => by
          obtain ⟨z, hz, rfl⟩ := List.mem_map.1 hx
          have := plc_lt (uniq_mem hz)
          have := HL.out
          omega)
        clear h0 hL0 hS hy
        go_wp2_with fail
        refine (vrput_any none 0 0 0 [] L wr (Rds.nil _ _ _) (by omega) hL64.out).mono ?_
        rintro e w1 ⟨v1, rfl, ho1, hb1⟩
        rw [List.nil_append] at ho1
        have P0 : Hid (ListTo wr w1 (uniq us) 0 v1) := Lib.hid ⟨by rw [HL.out, List.take_zero]; show Own _ _ _ _ (cells8 (enc L ++ [])); rw [List.append_nil]; exact ho1, mod_below hb1⟩
        clear ho1 hb1
        generalize wr = wP at *
        go_wp2_with fail
        go_loopg [7, 8] L (fun l' s7 s8 wr => ∃ j : Nat, j + l' = L ∧ s8 = .int .i64 (j : Int) ∧ ListTo wP wr (uniq us) j s7)
        case atStart => exact ⟨0, by omega, rfl, P0.out⟩
        case round =>
          obtain ⟨j, hjl, rfl, hown, hm⟩ := hrel
          have Hown := Lib.hid hown; have Hmj := Lib.hid hm; have Hjl := Lib.hid hjl
          clear hown hm hjl P0
          have hjL : j ≤ L := by have := Hjl.out; omega
          obtain ⟨A3, L3, c3, rfl, HL3, _, _, hr3⟩ := own_formN8 Hown.out
          have hL3 : L3 ≤ 100000 := by
            have h1 := enc_len10 hL64.out.out
            have h2 := encV_len (l := (uniq us).take j) (fun x hx => Hu2.out x (List.mem_of_mem_take hx))
            have h3 : ((uniq us).take j).length ≤ L := by rw [List.length_take, HL.out]; omega
            have h4 := HL3.out
            rw [HL.out, List.length_append] at h4
            omega
          have Hr3 := Lib.hid hr3
          clear hr3
          by_cases hjn : j < L
          · obtain ⟨ad, x, rfl, hx, hcx⟩ := Hr4'.out.at2 hjn (Nat.le_refl _) Hmj.out (fun _ _ h => h)
            have Hx64 : Hid (Lt64 x) := Lib.hid (Hu2.out x (List.mem_of_getElem? hx))
            have Htk : Hid (encV ((uniq us).take (j + 1)) = encV ((uniq us).take j) ++ enc x) := Lib.hid (by rw [take_succ_of hx, encV_snoc])
            have hj0 : (0 : Int) ≤ (j : Int) := by omega
            clear hx
            go_wp2_with fail
            refine (vrput_any A3 L3 c3 _ _ x wr Hr3.out (by omega) Hx64.out).mono ?_
            rintro e w2 ⟨v2, rfl, ho2, hb2⟩
            rw [List.append_assoc, ← Htk.out] at ho2
            have HP : Hid (ListTo wP w2 (uniq us) (j + 1) v2) := Lib.hid ⟨ho2.mono Hmj.out.size, Hmj.out.trans (mod_below hb2) (fun _ _ h => h)⟩
            clear ho2 hb2
            go_wp2_with fail
            go_roundg (gk - 1)
            case measure => have := Hjl.out; omega
            case rel => exact ⟨j + 1, by have := Hjl.out; omega, by go_num, HP.out⟩
          · have hjL2 : j = L := by have := Hjl.out; omega
            have Hr3' : Hid (Rds wr wr.heap.size A3 L3 (cells8 (enc L ++ encV (uniq us)))) := Lib.hid (by
              have h := Hr3.out
              rw [List.take_of_length_le (by rw [HL.out]; omega), HL.out] at h
              exact h)
            clear Hr3 HL3 hjn
            go_wp2_with fail
            refine (Hwid.out _).mono ?_
            rintro e w1 ⟨rfl, rfl⟩
            go_wp2_with fail
            refine (rpack_any A3 A5 L3 c3 m5 c5 _ S (enc L ++ encV (uniq us)) (atD us) wr Hr3'.out (Hr5.out.new Hmj.out).fit (Nat.le_refl _) Hat2.out hS64 (by omega) hn).mono ?_
            rintro e w2 ⟨v2, rfl, ho2, hm2⟩
            have Ho2 := Lib.hid ho2; have Hm2 := Lib.hid ((Hm.out.trans Hmj.out (fun _ _ h => h)).trans hm2 (fun _ _ h => h))
            clear ho2 hm2
            go_wp2_with fail
            go_ret2
            have ho := Ho2.out
            rw [encD_cons Hne.out (by rw [HL.out]; omega), HL.out, HS.out]
            rw [List.append_assoc] at ho
            exact ⟨_, rfl, ho.mono (Nat.le_trans Hm.out.size Hmj.out.size), Hm2.out⟩
end Go.Proofs.YtmcemeofkjfhhaaGreatDoor

/- Values told in a codec, as the document has it: told. -/
namespace Go.Proofs.YtmcemeofkjfhhaaGreatDoor
open Go.RowKit

theorem RWrote.done {w w1 w2 : World} {g : Nat} {fs : List (Nat × Nat)} (h : RWrote w1 w2 g none 0 0 fs) (hg : w.heap.size ≤ g) (hm : Mod (fun _ => False) w w1) : ∃ row, RWr w2 g row (fnum fs) (flen fs) ∧ Mod (fun _ => False) w w2 := by
  obtain ⟨row, a1, a2, _⟩ := h
  rw [Nat.zero_mul, Nat.zero_add, Nat.zero_add] at a1
  exact ⟨row, a1, hm.trans a2 (fun i hi h => h.elim (fun e => by omega) (fun e => by cases e))⟩
theorem RWr.new (w : World) : RWr (w.alloc (.cells #[.slice none 0 0] 50)) w.heap.size none 0 0 :=
  ⟨.slice none 0 0, [], Blk.new _ _ _, World.ownsRow_nil _ _ _ _, rfl, (fun _ h => by cases h), rfl, rfl⟩
theorem w8_len (x : Nat) : (w8 x).length = 8 := rfl
theorem w8_at (x : Nat) : ∀ j, j < 8 → (w8 x)[j]? = some (x / 2 ^ (8 * (7 - j)) % 256) := by
  intro j hj
  have h' : j = 0 ∨ j = 1 ∨ j = 2 ∨ j = 3 ∨ j = 4 ∨ j = 5 ∨ j = 6 ∨ j = 7 := by omega
  rcases h' with rfl | rfl | rfl | rfl | rfl | rfl | rfl | rfl
  · rfl
  · rfl
  · rfl
  · rfl
  · rfl
  · rfl
  · rfl
  · show some (x % 256) = some (x / 2 ^ (8 * 0) % 256)
    rw [Nat.mul_zero, Nat.pow_zero, Nat.div_one]
theorem words8_take {ws : List Nat} {i x : Nat} (h : ws[i]? = some x) : words8 (ws.take (i + 1)) = words8 (ws.take i) ++ w8 x := by
  rw [take_succ_of h, words8_app]
  show _ ++ (w8 x ++ []) = _
  rw [List.append_nil]
/-- The first i words and j bytes of the next. -/
def BytTo (w wr : World) (ws : List Nat) (i : Nat) (tl : List Nat) (v : Value) : Prop := Own w.heap.size wr 5 v (cells8 (words8 (ws.take i) ++ tl)) ∧ Mod (fun _ => False) w wr
set_option maxHeartbeats 4000000 in
set_option maxRecDepth 100000 in
theorem rtold_any (tag : Int) (A : Option Addr) (n cap : Nat) (us : List Nat) (w : World) (hs : Rds w w.heap.size A n (cellsU us)) (hu : ∀ x ∈ us, x < 2 ^ 64) (hn : n ≤ 1000000) (hcap : n ≤ cap) :
    Calls Tryz.prog 17 #[.int .i64 tag, .slice A n cap] w fun e w' => EncB w w' (toldK tag us) e := by
  have hul : us.length = n := by have := hs.1; rwa [cellsU_length] at this
  by_cases h1 : tag = 1
  · subst h1
    obtain ⟨W, hW⟩ : ∃ W, W = w.alloc (.cells #[.slice none 0 0] 50) := ⟨_, rfl⟩
    have hmW : Mod (fun _ => False) w W := by rw [hW]; exact (Mod.refl _ _).alloc _
    have hrw : RWr W w.heap.size none 0 0 := by rw [hW]; exact RWr.new w
    have Hs1 := Lib.hid (hs.mod hmW (Nat.le_refl _) (fun _ _ h => h))
    have Hap : Hid (0 < n → ∀ ad, A = some ad → ¬ (ad.block = w.heap.size ∨ none = some ad.block)) := Lib.hid (fun h0 ad hA h => by
      obtain ⟨ad', hA', hb, _⟩ := hs.2 h0
      rw [hA] at hA'
      injection hA' with hA'
      subst hA'
      rcases h with h | h
      · omega
      · cases h)
    have Hs := Lib.hid hs; have Hu := Lib.hid hu; have Hul := Lib.hid hul; have HW := Lib.hid hW; have HmW := Lib.hid hmW; have Hrw := Lib.hid hrw
    clear hs hu hul hW hmW hrw
    go_enter Tryz.func17, Tryz.ntmps17
    go_wp2_with fail
    rw [← HW.out]
    refine (rvalues_any w.heap.size w.heap.size none 0 0 n cap A us W Hs1.out Hu.out HmW.out.size Hap.out Hrw.out (by omega)).mono ?_
    rintro e w2 ⟨rfl, h2⟩
    obtain ⟨row, hwr2, hm2⟩ := h2.done (Nat.le_refl _) HmW.out
    have hfl := encVals_len us
    rw [Hul.out] at hfl
    have Hwr2 := Lib.hid hwr2; have Hm2 := Lib.hid hm2; have Hfl := Lib.hid hfl
    clear h2 hwr2 hm2 hfl Hs1 Hrw
    go_wp2_with fail
    refine (rbytes_any w.heap.size row _ _ w2 Hwr2.out (by have := Hfl.out; omega)).mono ?_
    rintro e w3 ⟨v3, bs, rfl, hnew, hpk⟩
    obtain rfl := hpk.packF
    have Ho3 := Lib.hid (hnew.own.mono Hm2.out.size); have Hm3 := Lib.hid (Hm2.out.trans hnew.2.1 (fun _ _ h => h))
    clear hnew hpk
    go_wp2_with fail
    go_ret2
    exact EncB.of_own Ho3.out Hm3.out
  by_cases h2 : tag = 2
  · subst h2
    have Hs := Lib.hid hs; have Hu := Lib.hid hu; have Hul := Lib.hid hul
    have Htk : Hid (toldK 2 us = (encS (stepsU 0 us)).map words8) := Lib.hid rfl
    clear hs hu hul
    go_enter Tryz.func17, Tryz.ntmps17
    go_wp2_with fail
    refine (rsteps_any A n cap us w Hs.out Hu.out hn).mono ?_
    rintro e w1 ⟨v1, rfl, ho1, hm1⟩
    obtain ⟨A1, L1, c1, rfl, HL1, hc1, hr1⟩ := own_formUN ho1
    have hL1 : L1 ≤ 1000000 := by have := HL1.out; rw [stepsU_len] at this; have := Hul.out; omega
    have Hr1 := Lib.hid hr1; have Hm1 := Lib.hid hm1; have Hst : Hid (∀ x ∈ stepsU 0 us, x < 2 ^ 64) := Lib.hid (stepsU_lt us 0)
    have Hc1 := Lib.hid hc1
    clear ho1 hm1 hr1 hc1 Hs Hu
    go_wp2_with fail
    refine (simple_any A1 L1 c1 w1.heap.size (stepsU 0 us) w1 Hr1.out (Nat.le_refl _) Hst.out hL1 Hc1.out).mono ?_
    intro e w2 he
    have he' : EncE w1 w2 (encS (stepsU 0 us)) e := he
    clear he
    cases ho : encS (stepsU 0 us) with
    | none =>
      obtain ⟨rfl, hm2⟩ := EncE.none_ he' ho
      have Hno : Hid (toldK 2 us = none) := Lib.hid (by rw [Htk.out, ho]; rfl)
      have Hm2 := Lib.hid (Hm1.out.trans hm2 (fun _ _ h => h))
      clear he' ho hm2
      go_wp2_with fail
      go_loopg [9, 10] 0 (fun k s9 s10 wr => s9 = .slice none 0 0 ∧ s10 = .int .i64 0 ∧ wr = w2)
      case atStart => exact ⟨rfl, rfl, rfl⟩
      case round =>
        obtain ⟨rfl, rfl, rfl⟩ := hrel
        go_wp2_with fail
        go_ret2
        rw [Hno.out]
        exact ⟨rfl, Hm2.out⟩
    | some ws =>
      obtain ⟨v2, rfl, how, hm2⟩ := EncE.some_ he' ho
      obtain ⟨hwl, hw64⟩ := encS_len _ _ _ rfl ho
      obtain ⟨A2, L2, c2, rfl, HL2, hc2, hr2⟩ := own_formUN how
      have hL2 : L2 ≤ 1000000 := by have := HL2.out; have := HL1.out; omega
      have Hyes : Hid (toldK 2 us = some (words8 ws)) := Lib.hid (by rw [Htk.out, ho]; rfl)
      have Hm2 := Lib.hid (Hm1.out.trans hm2 (fun _ _ h => h)); have Hr2 := Lib.hid hr2; have Hw64 := Lib.hid hw64
      have B0 : Hid (BytTo w2 w2 ws 0 [] (.slice none 0 0)) := Lib.hid ⟨Own.nil _ _ _, Mod.refl _ _⟩
      clear he' ho how hm2 hwl hw64 hr2 hc2 Hm1 Hr1 Hst Hc1 Htk
      go_wp2_with fail
      go_loopg [9, 10] L2 (fun k s9 s10 wr => ∃ i : Nat, i + k = L2 ∧ s10 = .int .i64 (i : Int) ∧ BytTo w2 wr ws i [] s9)
      case atStart => exact ⟨0, by omega, rfl, B0.out⟩
      case round =>
        obtain ⟨i, hik, rfl, hB⟩ := hrel
        have Hik := Lib.hid hik; have HB := Lib.hid hB
        clear hik hB B0
        by_cases hin : i < L2
        · obtain ⟨ad, x, rfl, hx, hcx⟩ := Hr2.out.at2 hin (Nat.le_refl _) HB.out.2 (fun _ _ h => h)
          have hx64 := Hw64.out x (List.mem_of_getElem? hx)
          have hini : (i : Int) < (L2 : Int) := by omega
          have Hx := Lib.hid hx; have Hx64 := Lib.hid hx64
          obtain ⟨k1, hk1⟩ : ∃ k1 : Nat, k1 = gk - 1 := ⟨_, rfl⟩
          have Hk1 : Hid (i + 1 + k1 = L2 ∧ k1 < gk) := Lib.hid (by have := Hik.out; omega)
          clear hk1
          have Hcx : Hid (∀ w', Mod (fun _ => False) w2 w' → w'.cell? (ad.add i) = some (.int .u64 (x : Int))) := Lib.hid (fun w' hm' => by
            obtain ⟨ad', x', hA, hx', hc'⟩ := Hr2.out.at2 hin (Nat.le_refl _) hm' (fun _ _ h => h)
            injection hA with hA
            subst hA
            rw [hx] at hx'
            injection hx' with hx'
            subst hx'
            exact hc')
          have C0 : Hid (BytTo w2 wr ws i ((w8 x).take 0) u9) := Lib.hid HB.out
          clear hx hx64 hcx
          go_wp2_with fail
          go_loopg [9, 11] 8 (fun k s9 s11 wq => ∃ (j : Nat) (kk : Int), j + k = 8 ∧ kk = 7 - (j : Int) ∧ s11 = .int .i64 kk ∧ BytTo w2 wq ws i ((w8 x).take j) s9)
          case atStart => exact ⟨0, 7, by omega, rfl, rfl, C0.out⟩
          case round =>
            obtain ⟨j, kk, hjk, hkk, rfl, hC⟩ := hrel
            have Hjk := Lib.hid hjk; have HC := Lib.hid hC; have Hkk := Lib.hid hkk
            clear hjk hC C0 hkk
            by_cases hj8 : j < 8
            · have hcxq := Hcx.out wr HC.out.2
              obtain ⟨m, hm⟩ : ∃ m : Nat, m = 7 - j := ⟨_, rfl⟩
              obtain rfl : kk = (m : Int) := by have := Hkk.out; omega
              obtain ⟨q, hq⟩ : ∃ q : Nat, q = 8 * m := ⟨_, rfl⟩
              have hq56 : q ≤ 56 := by omega
              have hqi : 8 * (m : Int) = (q : Int) := by omega
              have hm0 : (0 : Int) ≤ (m : Int) := by omega
              obtain ⟨b, hb⟩ : ∃ b : Nat, b = x / 2 ^ q % 256 := ⟨_, rfl⟩
              have hbi : (x : Int) / 2 ^ q % 256 = (b : Int) := by rw [hb]; simp
              have Hb : Hid ((w8 x)[j]? = some b) := Lib.hid (by rw [w8_at x j hj8, hb, hq, hm])
              have hlen : (cells8 (words8 (ws.take i) ++ (w8 x).take j)).length ≤ 8000008 := by
                rw [cells8_length, List.length_append, words8_len, List.length_take, List.length_take, w8_len]
                omega
              have HR : Hid (Room (cells8 (words8 (ws.take i) ++ (w8 x).take j)).length 1) := Lib.hid (Room.mk _ _ (by omega))
              have hsz := HC.out.2.size
              have hmj : Hid (m = 7 - j) := Lib.hid hm
              clear hb hlen hq hm
              go_wp2_with (at_builtin; refine wpList_app1 rfl (.tmp 41) (.tmp 51) _ rfl elt8 rfl HC.out.1 rfl rfl rfl HR.out.1 HR.out.2 hsz ?_; intro v4 w4 HO4 HB4)
              have HC2 : Hid (BytTo w2 w4 ws i ((w8 x).take (j + 1)) v4) := Lib.hid ⟨by
                have e : words8 (ws.take i) ++ (w8 x).take (j + 1) = (words8 (ws.take i) ++ (w8 x).take j) ++ [b] := by
                  rw [take_succ_of Hb.out, List.append_assoc]
                rw [e, cells8_snoc]
                exact HO4.out, HC.out.2.trans (Mod.of_below HB4.out) (fun i hi h => by omega)⟩
              go_roundg (gk - 1)
              case measure => have := Hjk.out; omega
              case rel => exact ⟨j + 1, (m : Int) - 1, by have := Hjk.out; omega, by have := hmj.out; omega, by go_num, HC2.out⟩
            · have hk0 : ¬ (0 : Int) ≤ kk := by have := Hkk.out; omega
              have HB2 : Hid (BytTo w2 wr ws (i + 1) [] u9) := Lib.hid (by
                have h := HC.out
                rw [show (w8 x).take j = w8 x from List.take_of_length_le (by rw [w8_len]; omega)] at h
                unfold BytTo at h ⊢
                rw [List.append_nil, words8_take Hx.out]
                exact h)
              clear HC Hcx
              go_wp2_with fail
              go_roundg k1
              case measure => exact Hk1.out.2
              case rel => exact ⟨i + 1, Hk1.out.1, by go_num, HB2.out⟩
        · have hi : i = L2 := by have := Hik.out; omega
          obtain ⟨k1, k2⟩ := HB.out
          rw [List.append_nil, List.take_of_length_le (by rw [HL2.out]; omega)] at k1
          have Ho := Lib.hid (k1.mono Hm2.out.size); have Hm := Lib.hid (Hm2.out.trans k2 (fun _ _ h => h))
          clear hi k1 k2
          go_wp2_with fail
          go_ret2
          exact EncB.of_some Hyes.out Ho.out Hm.out
  by_cases h3 : tag = 3
  · subst h3
    have hcall := lrenc_any A n cap w.heap.size us w hs (Nat.le_refl _) hu hn
    have Hcall := Lib.hid hcall
    clear hs hu hcall
    go_enter Tryz.func17, Tryz.ntmps17
    go_wp2_with fail
    refine Hcall.out.mono ?_
    rintro e w1 ⟨v, rfl, ho, hm⟩
    have Ho := Lib.hid ho; have Hm := Lib.hid hm
    clear ho hm
    go_wp2_with fail
    go_ret2
    exact EncB.of_own Ho.out Hm.out
  by_cases h4 : tag = 4
  · subst h4
    have hcall := rpenc_any A n cap w.heap.size us w hs (Nat.le_refl _) hu hn
    have Hcall := Lib.hid hcall
    clear hs hu hcall
    go_enter Tryz.func17, Tryz.ntmps17
    go_wp2_with fail
    refine Hcall.out.mono ?_
    rintro e w1 ⟨v, rfl, ho, hm⟩
    have Ho := Lib.hid ho; have Hm := Lib.hid hm
    clear ho hm
    go_wp2_with fail
    go_ret2
    exact EncB.of_own Ho.out Hm.out
  by_cases h5 : tag = 5
  · subst h5
    have hcall := rdenc_any A n cap w.heap.size us w hs (Nat.le_refl _) hu hn
    have Hcall := Lib.hid hcall
    clear hs hu hcall
    go_enter Tryz.func17, Tryz.ntmps17
    go_wp2_with fail
    refine Hcall.out.mono ?_
    intro e w1 he
    obtain ⟨v, rfl, he⟩ := he.parts
    have He := Lib.hid he
    clear he
    go_wp2_with fail
    go_ret2
    exact He.out
  by_cases h6 : tag = 6
  · subst h6
    have Htk : Hid (toldK 6 us = toldSame us) := Lib.hid rfl
    by_cases h0 : n = 0
    · subst h0
      obtain rfl := List.eq_nil_of_length_eq_zero hul
      clear hs
      go_enter Tryz.func17, Tryz.ntmps17
      go_wp2_with fail
      go_ret2
      exact EncB.of_some Htk.out (Own.nil _ _ _) (Mod.refl _ _)
    · have hn0 : ((n : Int) == 0) = false := by simp; omega
      obtain ⟨ad, x, rfl, hx, hcx⟩ := hs.at2 (show 0 < n by omega) (Nat.le_refl _) (Mod.refl (fun _ => False) w) (fun _ _ h => h)
      have hx64 : Lt64 x := by have := hu x (List.mem_of_getElem? hx); unfold Lt64; omega
      have hnp : (0 : Int) < (n : Int) := by omega
      have Hs := Lib.hid hs; have Hul := Lib.hid hul; have Hx := Lib.hid hx; have Hx64 := Lib.hid hx64
      clear hs hu hul hx hx64 hcx h0
      go_enter Tryz.func17, Tryz.ntmps17
      go_wp2_with fail
      go_loopg [12] n (fun l s12 wr => ∃ i : Nat, i + l = n ∧ s12 = .int .i64 (i : Int) ∧ Mod (fun _ => False) w wr ∧ ∀ j y : Nat, j < i → us[j]? = some y → y = x)
      case atStart => exact ⟨0, by omega, rfl, Mod.refl _ _, fun j y h => by omega⟩
      case round =>
        obtain ⟨i, hil, rfl, hm, hall⟩ := hrel
        have Hil := Lib.hid hil; have Hall := Lib.hid hall; have Hm := Lib.hid hm
        obtain ⟨ad0, x0, hA0, hx0, hc0⟩ := Hs.out.at2 (show 0 < n by omega) (Nat.le_refl _) hm (fun _ _ h => h)
        injection hA0 with hA0
        subst hA0
        obtain rfl : x0 = x := by have := Hx.out; rw [hx0] at this; injection this
        have hcx0 : wr.cell? ad = some (.int .u64 (x0 : Int)) := by rw [← add_zero' ad]; exact hc0
        clear hil hall hx0 hc0
        by_cases hin : i < n
        · obtain ⟨ad', y, hA, hy, hcy⟩ := Hs.out.at2 hin (Nat.le_refl _) hm (fun _ _ h => h)
          injection hA with hA
          subst hA
          have hini : (i : Int) < (n : Int) := by omega
          have Hy := Lib.hid hy
          clear hy hm
          by_cases hyx : y = x0
          · subst hyx
            go_upto_region 29 with fail
            go_quiet (fail)
            go_wp2_with fail
            go_roundg (gk - 1)
            case measure => have := Hil.out; omega
            case rel => exact ⟨i + 1, by have := Hil.out; omega, by go_num, Hm.out.drewN _, fun j z hj hz => by
              rcases Nat.lt_or_ge j i with h | h
              · exact Hall.out j z h hz
              · obtain rfl : j = i := by omega
                rw [Hy.out] at hz
                injection hz with hz
                exact hz.symm⟩
          · have hyb : ((y : Int) == (x0 : Int)) = false := by simp; omega
            have hyb2 : ((y : Int) != (x0 : Int)) = true := by simp; omega
            have Hno : Hid (toldK 6 us = none) := Lib.hid (by rw [Htk.out]; exact toldSame_none Hx.out Hy.out hyx)
            clear hyx
            go_upto_region 29 with fail
            go_quiet (fail)
            go_wp2_with fail
            go_ret2
            exact EncB.of_none Hno.out (Hm.out.drewN _)
        · have hi : i = n := by have := Hil.out; omega
          have Hyes : Hid (toldK 6 us = some (enc x0)) := Lib.hid (by rw [Htk.out]; exact toldSame_some Hx.out (fun j y hy => Hall.out j y (by have := (List.getElem?_eq_some_iff.1 hy).1; have := Hul.out; omega) hy))
          clear hi hm
          go_wp2_with fail
          refine (vrput_any none 0 0 0 [] x0 wr (Rds.nil _ _ _) (by omega) Hx64.out).mono ?_
          rintro e w4 ⟨v4, rfl, ho4, hb4⟩
          rw [List.nil_append] at ho4
          have Ho4 := Lib.hid (ho4.mono Hm.out.size); have Hm4 := Lib.hid (Hm.out.trans (mod_below hb4) (fun _ _ h => h))
          clear ho4 hb4
          go_wp2_with fail
          go_ret2
          exact EncB.of_some Hyes.out Ho4.out Hm4.out
  have b1 : (tag == 1) = false := by simp [h1]
  have b2 : (tag == 2) = false := by simp [h2]
  have b3 : (tag == 3) = false := by simp [h3]
  have b4 : (tag == 4) = false := by simp [h4]
  have b5 : (tag == 5) = false := by simp [h5]
  have b6 : (tag == 6) = false := by simp [h6]
  have Hno : Hid (toldK tag us = none) := Lib.hid (toldK_other h1 h2 h3 h4 h5 h6)
  clear hs hu h1 h2 h3 h4 h5 h6
  go_enter Tryz.func17, Tryz.ntmps17
  go_wp2_with fail
  go_ret2
  rw [Hno.out]
  exact ⟨rfl, Mod.refl _ _⟩
end Go.Proofs.YtmcemeofkjfhhaaGreatDoor

/- The document's own times: within, kind, Times. -/
namespace Go.Proofs.YtmcemeofkjfhhaaGreatDoor
open Go.RowKit

def InN (d : Int) (n : Nat) : Bool := decide (-((2 ^ (n - 1) : Nat) : Int) ≤ d ∧ d < ((2 ^ (n - 1) : Nat) : Int))
theorem within_any (d : Int) (n : Nat) (N : Int) (w : World) (hN : N = (n : Int)) (hn : n = 7 ∨ n = 9 ∨ n = 12) :
    Calls Tryz.prog 71 #[.int .i64 d, .int .i64 N] w fun e w' => e = .returned (.bool (InN d n)) ∧ w = w' := by
  subst hN
  rcases hn with rfl | rfl | rfl
  · by_cases h1 : -64 ≤ d
    · by_cases h2 : d < 64
      · have e : InN d 7 = true := by unfold InN; simp; omega
        rw [e]
        clear e
        go_enter Tryz.func71, Tryz.ntmps71
        go_wp2
        go_ret
        exact ⟨rfl, rfl⟩
      · have e : InN d 7 = false := by unfold InN; simp; omega
        rw [e]
        clear e
        go_enter Tryz.func71, Tryz.ntmps71
        go_wp2
        go_ret
        exact ⟨rfl, rfl⟩
    · have e : InN d 7 = false := by unfold InN; simp; omega
      rw [e]
      clear e
      go_enter Tryz.func71, Tryz.ntmps71
      go_wp2
      go_ret
      exact ⟨rfl, rfl⟩
  · by_cases h1 : -256 ≤ d
    · by_cases h2 : d < 256
      · have e : InN d 9 = true := by unfold InN; simp; omega
        rw [e]
        clear e
        go_enter Tryz.func71, Tryz.ntmps71
        go_wp2
        go_ret
        exact ⟨rfl, rfl⟩
      · have e : InN d 9 = false := by unfold InN; simp; omega
        rw [e]
        clear e
        go_enter Tryz.func71, Tryz.ntmps71
        go_wp2
        go_ret
        exact ⟨rfl, rfl⟩
    · have e : InN d 9 = false := by unfold InN; simp; omega
      rw [e]
      clear e
      go_enter Tryz.func71, Tryz.ntmps71
      go_wp2
      go_ret
      exact ⟨rfl, rfl⟩
  · by_cases h1 : -2048 ≤ d
    · by_cases h2 : d < 2048
      · have e : InN d 12 = true := by unfold InN; simp; omega
        rw [e]
        clear e
        go_enter Tryz.func71, Tryz.ntmps71
        go_wp2
        go_ret
        exact ⟨rfl, rfl⟩
      · have e : InN d 12 = false := by unfold InN; simp; omega
        rw [e]
        clear e
        go_enter Tryz.func71, Tryz.ntmps71
        go_wp2
        go_ret
        exact ⟨rfl, rfl⟩
    · have e : InN d 12 = false := by unfold InN; simp; omega
      rw [e]
      clear e
      go_enter Tryz.func71, Tryz.ntmps71
      go_wp2
      go_ret
      exact ⟨rfl, rfl⟩
theorem within_at (d : Int) (n : Nat) (N : Int) (b : Bool) (w : World) (hN : N = (n : Int)) (hn : n = 7 ∨ n = 9 ∨ n = 12) (hb : InN d n = b) :
    Calls Tryz.prog 71 #[.int .i64 d, .int .i64 N] w fun e w' => e = .returned (.bool b) ∧ w = w' := by
  subst hb
  exact within_any d n N w hN hn
theorem kind_any (d : Int) (w : World) :
    Calls Tryz.prog 39 #[.int .i64 d] w fun e w' => e = .returned (.tuple #[.int .i64 (kindN d : Nat), .int .u64 (headN d : Nat), .int .i64 (longN d : Nat)]) ∧ w = w' := by
  by_cases h0 : d = 0
  · subst h0
    go_enter Tryz.func39, Tryz.ntmps39
    go_wp2
    exact bodyPost_ret (v := .tuple #[.int .i64 0, .int .u64 0, .int .i64 1]) (by simp [results, Tryz.results39, go_sem]) rfl ⟨rfl, rfl⟩
  · have hb0 : (d == 0) = false := by simpa using h0
    by_cases h1 : -64 ≤ d ∧ d < 64
    · have e : InN d 7 = true := by unfold InN; simp; omega
      have ek : kindN d = 7 ∧ headN d = 2 ∧ longN d = 2 := by unfold kindN headN longN; rw [if_neg h0, if_pos h1, if_neg h0, if_pos h1, if_neg h0, if_pos h1]; exact ⟨rfl, rfl, rfl⟩
      have E := Lib.hid e; have Ek := Lib.hid ek
      clear e ek h1
      go_enter Tryz.func39, Tryz.ntmps39
      go_wp2_with fail
      refine (within_at d 7 7 true _ rfl (by omega) E.out).mono ?_
      rintro e w' ⟨rfl, rfl⟩
      go_wp2_with fail
      exact bodyPost_ret (v := .tuple #[.int .i64 7, .int .u64 2, .int .i64 2]) (by simp [results, Tryz.results39, go_sem]) rfl ⟨by rw [Ek.out.1, Ek.out.2.1, Ek.out.2.2]; rfl, rfl⟩
    · by_cases h2 : -256 ≤ d ∧ d < 256
      · have e : InN d 7 = false := by unfold InN; simp; omega
        have e2 : InN d 9 = true := by unfold InN; simp; omega
        have ek : kindN d = 9 ∧ headN d = 6 ∧ longN d = 3 := by unfold kindN headN longN; rw [if_neg h0, if_neg h1, if_pos h2, if_neg h0, if_neg h1, if_pos h2, if_neg h0, if_neg h1, if_pos h2]; exact ⟨rfl, rfl, rfl⟩
        have E := Lib.hid e; have E2 := Lib.hid e2; have Ek := Lib.hid ek
        clear e e2 ek h1 h2
        go_enter Tryz.func39, Tryz.ntmps39
        go_wp2_with fail
        refine (within_at d 7 7 false _ rfl (by omega) E.out).mono ?_
        rintro e w' ⟨rfl, rfl⟩
        go_wp2_with fail
        refine (within_at d 9 9 true _ rfl (by omega) E2.out).mono ?_
        rintro e w' ⟨rfl, rfl⟩
        go_wp2_with fail
        exact bodyPost_ret (v := .tuple #[.int .i64 9, .int .u64 6, .int .i64 3]) (by simp [results, Tryz.results39, go_sem]) rfl ⟨by rw [Ek.out.1, Ek.out.2.1, Ek.out.2.2]; rfl, rfl⟩
      · have e : InN d 7 = false := by unfold InN; simp; omega
        have e2 : InN d 9 = false := by unfold InN; simp; omega
        have E := Lib.hid e; have E2 := Lib.hid e2
        by_cases h3 : -2048 ≤ d ∧ d < 2048
        · have e3 : InN d 12 = true := by unfold InN; simp; omega
          have ek : kindN d = 12 ∧ headN d = 14 ∧ longN d = 4 := by unfold kindN headN longN; rw [if_neg h0, if_neg h1, if_neg h2, if_pos h3, if_neg h0, if_neg h1, if_neg h2, if_pos h3, if_neg h0, if_neg h1, if_neg h2]; exact ⟨rfl, rfl, rfl⟩
          have E3 := Lib.hid e3; have Ek := Lib.hid ek
          clear e e2 e3 ek h1 h2 h3
          go_enter Tryz.func39, Tryz.ntmps39
          go_wp2_with fail
          refine (within_at d 7 7 false _ rfl (by omega) E.out).mono ?_
          rintro e w' ⟨rfl, rfl⟩
          go_wp2_with fail
          refine (within_at d 9 9 false _ rfl (by omega) E2.out).mono ?_
          rintro e w' ⟨rfl, rfl⟩
          go_wp2_with fail
          refine (within_at d 12 12 true _ rfl (by omega) E3.out).mono ?_
          rintro e w' ⟨rfl, rfl⟩
          go_wp2_with fail
          exact bodyPost_ret (v := .tuple #[.int .i64 12, .int .u64 14, .int .i64 4]) (by simp [results, Tryz.results39, go_sem]) rfl ⟨by rw [Ek.out.1, Ek.out.2.1, Ek.out.2.2]; rfl, rfl⟩
        · have e3 : InN d 12 = false := by unfold InN; simp; omega
          have ek : kindN d = 64 ∧ headN d = 15 ∧ longN d = 4 := by unfold kindN headN longN; rw [if_neg h0, if_neg h1, if_neg h2, if_neg h3, if_neg h0, if_neg h1, if_neg h2, if_neg h3, if_neg h0, if_neg h1, if_neg h2]; exact ⟨rfl, rfl, rfl⟩
          have E3 := Lib.hid e3; have Ek := Lib.hid ek
          clear e e2 e3 ek h1 h2 h3
          go_enter Tryz.func39, Tryz.ntmps39
          go_wp2_with fail
          refine (within_at d 7 7 false _ rfl (by omega) E.out).mono ?_
          rintro e w' ⟨rfl, rfl⟩
          go_wp2_with fail
          refine (within_at d 9 9 false _ rfl (by omega) E2.out).mono ?_
          rintro e w' ⟨rfl, rfl⟩
          go_wp2_with fail
          refine (within_at d 12 12 false _ rfl (by omega) E3.out).mono ?_
          rintro e w' ⟨rfl, rfl⟩
          go_wp2_with fail
          exact bodyPost_ret (v := .tuple #[.int .i64 64, .int .u64 15, .int .i64 4]) (by simp [results, Tryz.results39, go_sem]) rfl ⟨by rw [Ek.out.1, Ek.out.2.1, Ek.out.2.2]; rfl, rfl⟩
end Go.Proofs.YtmcemeofkjfhhaaGreatDoor

/- The document's own times are told: Times. -/
namespace Go.Proofs.YtmcemeofkjfhhaaGreatDoor
open Go.RowKit

def REnc1 (w wr : World) (g : Nat) (row : Option Nat) (N len : Nat) (zs : List Int) (i : Nat) (last : Nat) : Prop :=
  ∃ fs, RWrote w wr g row N len fs ∧ (i = 0 → fs = [] ∧ last = 0) ∧ (0 < i → ∃ prev, zs[i - 1]? = some prev ∧ fs ++ encT prev last (zs.drop i) = encRow zs)
theorem kind_le (d : Int) : kindN d ≤ 64 ∧ longN d ≤ 64 ∧ Lt64 (headN d) := by
  refine ⟨by rw [kind_hd]; exact sz_le _, ?_, ?_⟩
  · unfold longN; split; omega; split; omega; split; omega; omega
  · unfold headN Lt64; split; omega; split; omega; split; omega; split; omega; omega
theorem tstepU (x prev : Int) : IntKind.u64.wrap ((un x : Int) - (un prev : Int)) = (stepOf prev x : Int) := by
  rw [wrapU_un]
  unfold stepOf
  congr 1
  obtain ⟨a, ha⟩ := un_ex x
  obtain ⟨b, hb⟩ := un_ex prev
  exact un_of (k := a - b) (by rw [ha, hb, Int.sub_mul]; omega)
set_option maxHeartbeats 1000000 in
set_option maxRecDepth 100000 in
theorem rtimes_any (B g : Nat) (row : Option Nat) (N len n c : Nat) (A : Option Addr) (zs : List Int) (w : World) (hs : SeesI .i64 w B A n zs) (hz : ∀ x ∈ zs, Fits x) (hB : B ≤ w.heap.size) (hap : 0 < n → ∀ ad, A = some ad → ¬ (ad.block = g ∨ row = some ad.block))
    (hw : RWr w g row N len) (hlen : len + (64 + 68 * n) ≤ 900000000) :
    Calls Tryz.prog 19 #[.pointer (some ⟨g, 0, none⟩), .slice A n c] w fun e w' => e = .returned (.tuple #[]) ∧ RWrote w w' g row N len (encRow zs) := by
  have hzl := hs.1
  have Hs := Lib.hid hs; have Hz := Lib.hid hz; have HS := Lib.hid hap
  have H0 : Hid (REnc1 w w g row N len zs 0 0) := Lib.hid ⟨[], RWrote.refl hw, fun _ => ⟨rfl, rfl⟩, fun h => by omega⟩
  have Hzl := Lib.hid hzl
  have Htot : Hid (len + flen (encRow zs) ≤ 900000000) := Lib.hid (by have := encRow_len zs; rw [hzl] at this; omega)
  clear hs hz hw hap hzl
  go_enter Tryz.func19, Tryz.ntmps19
  go_wp2_with fail
  go_loopg [4, 5] n (fun l s4 s5 wr => ∃ (i last : Nat), i + l = n ∧ s5 = .int .i64 (i : Int) ∧ s4 = .int .u64 (last : Int) ∧ REnc1 w wr g row N len zs i last)
  case atStart => exact ⟨0, 0, by omega, rfl, rfl, H0.out⟩
  case round =>
    obtain ⟨i, last, hil, rfl, rfl, hE⟩ := hrel
    have HE := Lib.hid hE; have Hil := Lib.hid hil
    clear hE hil H0
    by_cases hin : i < n
    · obtain ⟨fs, hwr, he0, he1⟩ := HE.out
      obtain ⟨ad, x, rfl, hx, hcx⟩ := Hs.out.at2 hin hB (by obtain ⟨_, _, a2, _⟩ := hwr; exact a2) (HS.out (by omega))
      have Hx := Lib.hid hx
      have hxf := Lib.hid (Hz.out x (List.mem_of_getElem? hx))
      have Hdr := Lib.hid (drop_at hx)
      have hxu : IntKind.u64.wrap x = (un x : Int) := wrapU_un x
      have hul : Hid (Lt64 (un x)) := Lib.hid (un_lt x)
      clear hx
      by_cases hi0 : i = 0
      · obtain ⟨rfl, rfl⟩ := he0 hi0
        subst hi0
        have Hwr := Lib.hid hwr
        have hcx0 : wr.cell? ad = some (.int .i64 x) := by rw [← add_zero' ad]; exact hcx
        clear hwr he0 he1 HE
        go_wp2_with fail
        refine (rput_wrote w g row N len 64 [] (un x) _ _ _ rfl rfl (by omega) hul.out Hwr.out (by show len + 0 ≤ _; omega)).mono ?_
        rintro e w1 ⟨rfl, h1⟩
        have hd0 := Hdr.out
        rw [List.drop_zero] at hd0
        have H1 : Hid (REnc1 w w1 g row N len zs 1 0) := Lib.hid ⟨[(un x, 64)], h1, fun h => by omega, fun _ => ⟨x, Hx.out, by rw [hd0]; rfl⟩⟩
        clear h1 hd0 Hwr
        go_wp2_with fail
        go_roundg (gk - 1)
        case measure => have := Hil.out; omega
        case rel => exact ⟨1, 0, by have := Hil.out; omega, rfl, rfl, H1.out⟩
      · have hb0 : ((i : Int) == 0) = false := by simp; omega
        obtain ⟨prev, hpv, hE1⟩ := he1 (by omega)
        obtain ⟨ad', x', e', hx', hcp⟩ := Hs.out.at2 (show i - 1 < n by omega) hB (by obtain ⟨_, _, a2, _⟩ := hwr; exact a2) (HS.out (by omega))
        injection e' with e'
        subst e'
        rw [hpv] at hx'
        injection hx' with hx'
        subst hx'
        have hpu : IntKind.u64.wrap prev = (un prev : Int) := wrapU_un prev
        obtain ⟨st, hst⟩ : ∃ st, st = stepOf prev x := ⟨_, rfl⟩
        have h1 : IntKind.u64.wrap ((un x : Int) - (un prev : Int)) = (st : Int) := by rw [hst]; exact tstepU x prev
        obtain ⟨dd, hdd⟩ : ∃ dd : Nat, dd = un ((st : Int) - (last : Int)) := ⟨_, rfl⟩
        have h2 : IntKind.u64.wrap ((st : Int) - (last : Int)) = (dd : Int) := by rw [hdd]; exact wrapU_un _
        obtain ⟨d, hd⟩ : ∃ d, d = diffOf prev last x := ⟨_, rfl⟩
        have h3 : wrap64 (dd : Int) = d := by
          rw [wrap_sg, hdd, un_nat (un_lt _), hd]
          unfold diffOf
          rw [hst]
        have hdu : IntKind.u64.wrap d = (un d : Int) := wrapU_un d
        have hi1 : IntKind.i64.wrap ((i : Int) - 1) = (i : Int) - 1 := IntWalk.i64_in _ (by omega)
        have hi2 : ((i : Int) - 1).toNat = i - 1 := by omega
        have hi3 : (0 : Int) ≤ (i : Int) - 1 := by omega
        have hi4 : (i : Int) - 1 < (n : Int) := by omega
        have hi5 : (i : Int) < (n : Int) := by omega
        have hi6 : (0 : Int) ≤ (i : Int) := by omega
        have Hwr := Lib.hid hwr; have HE1 := Lib.hid hE1; have Hd := Lib.hid hd; have Hst := Lib.hid hst
        have hl : Hid (len + flen fs ≤ 900000000) := Lib.hid (by have := Htot.out; rw [← HE1.out] at this; have := flen_le_app fs (encT prev last (zs.drop i)); omega)
        have hlt2 : Hid (len + flen (fs ++ [(headN d, longN d)]) ≤ 1000000000) := Lib.hid (by have := hl.out; have := (kind_le d).2.1; rw [flen_app]; show len + (flen fs + (longN d + 0)) ≤ _; omega)
        clear hwr he0 he1 HE hE1 hd hst hdd hpv hl
        go_upto_region 6 with fail
        go_quiet (fail)
        have Hwr2 := Lib.hid (Hwr.out.drewN nq)
        clear Hwr hcx hcp hi1 hi2 hi3 hi4 hi5 hi6 hpu hxu h1
        generalize wr.drewN nq = w2 at *
        go_wp2_with fail
        refine (kind_any d _).mono ?_
        rintro e w3 ⟨rfl, rfl⟩
        go_wp2_with fail
        refine (rput_wrote w g row N len (longN d) fs (headN d) _ _ _ rfl rfl (kind_le d).2.1 (kind_le d).2.2 Hwr2.out (by have := hlt2.out; rw [flen_app] at this; omega)).mono ?_
        rintro e w4 ⟨rfl, hw4⟩
        have Hw4 := Lib.hid hw4
        have hdul : Hid (Lt64 (un d)) := Lib.hid (un_lt d)
        clear hw4 Hwr2
        go_wp2_with fail
        refine (rput_wrote w g row N len (kindN d) _ (un d) _ _ _ rfl rfl (kind_le d).1 hdul.out Hw4.out hlt2.out).mono ?_
        rintro e w5 ⟨rfl, hw5⟩
        have H5 : Hid (REnc1 w w5 g row N len zs (i + 1) st) := Lib.hid ⟨_, hw5, fun h => by omega, fun _ => ⟨x, Hx.out, by
          rw [← HE1.out, Hdr.out, List.append_assoc, List.append_assoc, Hst.out, Hd.out]
          rfl⟩⟩
        clear hw5 Hw4
        go_wp2_with fail
        go_roundg (gk - 1)
        case measure => have := Hil.out; omega
        case rel => exact ⟨i + 1, st, by have := Hil.out; omega, by go_num, rfl, H5.out⟩
    · go_wp2_with fail
      go_end0
      refine ⟨rfl, ?_⟩
      obtain ⟨fs, hwr, he0, he1⟩ := HE.out
      have hil := Hil.out
      have hzl := Hzl.out
      rcases Nat.eq_zero_or_pos i with h0 | h0
      · obtain ⟨rfl, _⟩ := he0 h0
        have : zs = [] := List.eq_nil_of_length_eq_zero (by omega)
        subst this
        exact hwr
      · obtain ⟨prev, _, this⟩ := he1 h0
        rw [List.drop_of_length_le (by omega)] at this
        have e : fs = encRow zs := by rw [← this]; show fs = fs ++ []; simp
        rw [← e]
        exact hwr
end Go.Proofs.YtmcemeofkjfhhaaGreatDoor

/- A row of samples told in a codec, as the document has it: Encode; and the codec that takes the fewest bytes: Best. -/
namespace Go.Proofs.YtmcemeofkjfhhaaGreatDoor
open Go.RowKit

/-- The first i times; the writer stands as it stood. -/
def RTimTo (W wr : World) (l : List (Int × Nat)) (i : Nat) (v : Value) : Prop := Own W.heap.size wr 2 v (cellsI (tsOf (l.take i))) ∧ Below W.heap.size W wr
set_option maxHeartbeats 2000000 in
set_option maxRecDepth 100000 in
theorem rkenc_any (tag : Int) (A : Option Addr) (n c : Nat) (l : List (Int × Nat)) (w : World) (hs : RdsS w w.heap.size A n l) (hg : GoodS l) (hn : n ≤ 1000000) :
    Calls Tryz.prog 7 #[.int .i64 tag, .slice A n c] w fun e w' => EncB w w' (encK tag l) e := by
  have Hs := Lib.hid hs; have Hg := Lib.hid hg; have Hl := Lib.hid hs.1
  have hcs : Tryz.prog.cellsOf 25 = 2 := by kernel_rfl
  clear hs hg
  go_enter Tryz.func7, Tryz.ntmps7
  go_wp2_with fail
  refine (rvals_any A n c l w Hs.out hn).mono ?_
  rintro e w1 ⟨v1, rfl, ho1, hm1⟩
  obtain ⟨A1, L1, c1, rfl, HL1, hc1, hr1⟩ := own_formUN ho1
  have hL1 : L1 = n := by have := HL1.out; rw [vsOf_len, Hl.out] at this; exact this.symm
  subst hL1
  have Hr1 := Lib.hid hr1; have Hm1 := Lib.hid hm1; have Hs1 := Lib.hid (Hs.out.new hm1).fit; have Hc1 := Lib.hid hc1
  clear ho1 hm1 hr1 hc1 Hs
  go_wp2_with fail
  refine (rtold_any tag A1 L1 c1 (vsOf l) w1 Hr1.out Hg.out.vs hn Hc1.out).mono ?_
  intro e w2 he
  have he' : EncB w1 w2 (toldK tag (vsOf l)) e := he
  clear he
  cases ho : toldK tag (vsOf l) with
  | none =>
    obtain ⟨rfl, hm2⟩ := EncB.none_ he' ho
    have Hno : Hid (encK tag l = none) := Lib.hid (by unfold encK; rw [ho]; cases riseB l <;> rfl)
    have Hm2 := Lib.hid (Hm1.out.trans hm2 (fun _ _ h => h))
    clear he' ho hm2
    go_wp2_with fail
    go_ret2
    exact EncB.of_none Hno.out Hm2.out
  | some vb =>
    obtain ⟨v2, rfl, ho2, hm2⟩ := EncB.some_ he' ho
    obtain ⟨A2, L2, c2, rfl, HL2, _, _, hr2⟩ := own_formN8 ho2
    have Hr2 := Lib.hid hr2; have Hm2 := Lib.hid (Hm1.out.trans hm2 (fun _ _ h => h)); have Hs2 := Lib.hid (Hs1.out.new hm2).fit; have Ho := Lib.hid ho
    clear he' ho ho2 hm2 hr2 Hs1 Hr1 Hm1
    go_wp2_with fail
    refine (rrising_any A L1 c l w2 Hs2.out hn).mono ?_
    rintro e w3 ⟨rfl, hm3⟩
    have Hr3 := Lib.hid (Hr2.out.new hm3).fit; have Hm3 := Lib.hid (Hm2.out.trans hm3 (fun _ _ h => h)); have Hs3 := Lib.hid (Hs2.out.new hm3).fit
    clear hm3 Hr2 Hm2 Hs2
    cases hri : riseB l with
    | false =>
      have Hno : Hid (encK tag l = none) := Lib.hid (encK_no hri)
      clear hri
      go_wp2_with fail
      go_ret2
      exact EncB.of_none Hno.out Hm3.out
    | true =>
      have hn65 : L1 ≤ 65535 := by rw [← Hl.out]; exact ((riseB_iff l).1 hri).2
      have Hyes : Hid (encK tag l = some (enc (tbK l).length ++ (tbK l ++ vb))) := Lib.hid (encK_of hri Ho.out)
      have hvl := toldK_len Hg.out.vs (by rw [vsOf_len, Hl.out]; exact hn65) Ho.out
      rw [vsOf_len, Hl.out] at hvl
      have hL2 : L2 ≤ 2000000 := by have := HL2.out; omega
      have HL2b := Lib.hid hL2
      obtain ⟨W, hW⟩ : ∃ W, W = w3.alloc (.cells #[.slice none 0 0] 50) := ⟨_, rfl⟩
      have hmW : Mod (fun _ => False) w3 W := by rw [hW]; exact (Mod.refl _ _).alloc _
      have hrw : RWr W w3.heap.size none 0 0 := by rw [hW]; exact RWr.new w3
      obtain ⟨g, hg⟩ : ∃ g, g = w3.heap.size := ⟨_, rfl⟩
      have hgW : g < W.heap.size := by rw [hW, hg]; simp
      have HsW := Lib.hid (Hs3.out.new hmW).fit; have HmW := Lib.hid (Hm3.out.trans hmW (fun _ _ h => h))
      have T0 : Hid (RTimTo W W l 0 (.slice none 0 0)) := Lib.hid ⟨Own.nil _ _ _, Below.refl _ _⟩
      rw [← hg] at hrw
      have HrW : Hid (Rds W g A2 L2 (cells8 vb)) := Lib.hid (by rw [hg]; exact Hr3.out.mod hmW (Nat.le_refl _) (fun _ _ h => h))
      have Hrw := Lib.hid hrw; have HW := Lib.hid hW; have Hg3 := Lib.hid hg; have HgW := Lib.hid hgW
      clear hri hvl hL2 hW hmW hrw hg hgW Hs3 Hr3
      go_wp2_with fail
      rw [← HW.out, ← Hg3.out]
      clear HW
      go_loopg [9, 10] L1 (fun k s9 s10 wr => ∃ i : Nat, i + k = L1 ∧ s10 = .int .i64 (i : Int) ∧ RTimTo W wr l i s9)
      case atStart => exact ⟨0, by omega, rfl, T0.out⟩
      case round =>
        obtain ⟨i, hik, rfl, hT⟩ := hrel
        have Hik := Lib.hid hik; have HT := Lib.hid hT
        clear hik hT T0
        by_cases hin : i < L1
        · obtain ⟨ad, ⟨T, V⟩, rfl, _, hp, hc0, _⟩ := HsW.out.at2 hin (Nat.le_refl _) (Mod.of_below HT.out.2) (fun ad hA => by
            obtain ⟨ad', hA', hb⟩ := HsW.out.some_ (show 0 < L1 by omega)
            rw [hA] at hA'
            injection hA' with hA'
            subst hA'
            omega)
          have hini : (i : Int) < (L1 : Int) := by omega
          have Hp := Lib.hid hp
          have hlen : (cellsI (tsOf (l.take i))).length ≤ 1000000 := by rw [cellsI_length, tsOf_len, List.length_take]; omega
          have HR : Hid ((cellsI (tsOf (l.take i))).length + 1 ≤ maxLen ∧ ((cellsI (tsOf (l.take i))).length + 1) * 8 ≤ 140737488355328) := Lib.hid ⟨by unfold maxLen; omega, by omega⟩
          have hsz := HT.out.2.size
          clear hp hlen
          go_wp2_with (at_builtin; refine wpList_app1 rfl (.tmp 34) (.tmp 40) _ rfl elt64 rfl HT.out.1 rfl rfl rfl HR.out.1 HR.out.2 hsz ?_; intro v4 w4 HO4 HB4)
          have HT2 : Hid (RTimTo W w4 l (i + 1) v4) := Lib.hid ⟨by rw [ts_take Hp.out, cellsI_snoc]; exact HO4.out, HT.out.2.trans HB4.out⟩
          go_roundg (gk - 1)
          case measure => have := Hik.out; omega
          case rel => exact ⟨i + 1, by have := Hik.out; omega, by go_num, HT2.out⟩
        · have hi : i = L1 := by have := Hik.out; omega
          obtain ⟨k1, k2⟩ := HT.out
          rw [List.take_of_length_le (by rw [Hl.out]; omega)] at k1
          obtain ⟨A4, c4, rfl, hr4⟩ := own_form k1
          have hl4 : (tsOf l).length = L1 := by rw [tsOf_len]; exact Hl.out
          rw [hl4] at hr4
          have hin4 : 0 < L1 → ∀ ad, A4 = some ad → W.heap.size ≤ ad.block := fun h0 ad hA => by
            have hb := k1.block ad.block (by rw [hA]; rfl)
            exact hb.1
          have Hap : Hid (0 < L1 → ∀ ad, A4 = some ad → ¬ (ad.block = g ∨ none = some ad.block)) := Lib.hid (fun h0 ad hA h => by
            have := hin4 h0 ad hA
            rcases h with h | h
            · have := HgW.out; omega
            · cases h)
          have Hrw4 := Lib.hid (Hrw.out.mod (Mod.of_below k2) (by have := HgW.out; omega) (fun k hk => by cases hk))
          have HrW4 : Hid (Rds wr g A2 L2 (cells8 vb)) := Lib.hid (HrW.out.mod (Mod.of_below k2) (Nat.le_of_lt HgW.out) (fun j hj h => by have := HgW.out; omega))
          have Hr4 := Lib.hid hr4.seesI; have Hm4 := Lib.hid (HmW.out.trans (Mod.of_below k2) (fun i hi h => by have := HmW.out.size; omega))
          have Hwr4 : Hid (W.heap.size ≤ wr.heap.size) := Lib.hid k2.size
          have Hgw : Hid (w.heap.size ≤ g) := Lib.hid (by rw [Hg3.out]; exact Hm3.out.size)
          rw [hl4]
          clear hi k1 k2 hl4 hr4 hin4 Hrw HrW HmW HT
          obtain ⟨wo, rfl⟩ : ∃ wo : World, wo = wr := ⟨_, rfl⟩
          go_wp2_with fail
          refine (rtimes_any wo.heap.size g none 0 0 L1 c4 A4 (tsOf l) wo Hr4.out Hg.out.ts (Nat.le_refl _) Hap.out Hrw4.out (by omega)).mono ?_
          rintro e w5 ⟨rfl, h5⟩
          have h5' := h5
          obtain ⟨row, a1, a2, _⟩ := h5'
          rw [Nat.zero_mul, Nat.zero_add, Nat.zero_add] at a1
          have hfl := encRow_len (tsOf l)
          rw [tsOf_len, Hl.out] at hfl
          have Hwr5 := Lib.hid a1; have Hm5 := Lib.hid (Hm4.out.trans a2 (fun i hi h => h.elim (fun e => by have := Hgw.out; omega) (fun e => by cases e))); have Hfl := Lib.hid hfl
          have HrW5 : Hid (Rds w5 w5.heap.size A2 L2 (cells8 vb)) := Lib.hid ((HrW4.out.mod a2 (by have := Hwr4.out; have := HgW.out; omega) (fun j hj h => by
            rcases h with h | h
            · omega
            · cases h)).fit)
          clear h5 a1 a2 hfl HrW4 Hr4 Hrw4 Hm4
          go_wp2_with fail
          refine (rbytes_any g row _ _ w5 Hwr5.out (by have := Hfl.out; omega)).mono ?_
          rintro e w6 ⟨v6, bs, rfl, hnew, hpk⟩
          obtain rfl := hpk.packF
          obtain ⟨A6, c6, rfl, hr6, hm6⟩ := hnew.rds
          have htl := tbK_len l
          rw [Hl.out] at htl
          obtain ⟨tb, htb⟩ : ∃ tb, tb = packF (encRow (tsOf l)) := ⟨_, rfl⟩
          rw [← htb] at hr6
          rw [← htb]
          have htb' : tb = tbK l := htb
          obtain ⟨Lt, hLt⟩ : ∃ Lt, tb.length = Lt := ⟨_, rfl⟩
          rw [hLt] at hr6
          rw [hLt]
          have hLts : Lt ≤ 700000 := by rw [← hLt, htb']; omega
          have hcv : IntKind.u64.wrap (Lt : Int) = (Lt : Int) := by rw [IntKind.wrap_u64]; omega
          have Hr6 := Lib.hid hr6; have Hm6 := Lib.hid (Hm5.out.trans hm6 (fun _ _ h => h)); have Hb6 := Lib.hid (HrW5.out.new hm6).fit; have Htb := Lib.hid htb'; have HLt := Lib.hid hLt
          clear hnew hpk hr6 hm6 htl htb htb' hLt Hwr5 Hm5 HrW5
          go_wp2_with fail
          refine (vrput_any none 0 0 0 [] Lt w6 (Rds.nil _ _ _) (by omega) (lt64_of (by omega))).mono ?_
          rintro e w7 ⟨v7, rfl, ho7, hb7⟩
          rw [List.nil_append] at ho7
          have hq := enc_len10 (u := Lt) (by omega)
          have HR7 : Hid (Room (cells8 (enc Lt)).length Lt) := Lib.hid (Room.mk _ _ (by rw [cells8_length]; omega))
          have Ho7 := Lib.hid ho7; have Hr7 := Lib.hid (Hr6.out.below hb7); have Hm7 := Lib.hid (Hm6.out.trans (mod_below hb7) (fun _ _ h => h)); have Hb7 := Lib.hid (Hb6.out.below hb7)
          have Hone : Hid (∀ u ∈ cells8 tb, u.oneCell' = true) := Lib.hid (cells8_one _)
          have Hone2 : Hid (∀ u ∈ cells8 vb, u.oneCell' = true) := Lib.hid (cells8_one _)
          have hsz7 : w6.heap.size ≤ w7.heap.size := hb7.size
          have HR8 : Hid (Room (cells8 (enc Lt) ++ cells8 tb).length L2) := Lib.hid (Room.mk _ _ (by rw [List.length_append, cells8_length, cells8_length, HLt.out]; have := HL2b.out; omega))
          have Hwo7 : Hid (w6.heap.size ≤ w7.heap.size) := Lib.hid hsz7
          clear ho7 hb7 hq hcv
          go_wp2_with (first
            | (at_builtin; refine wpList_app rfl (.tmp 50) (.tmp 51) _ rfl elt8 rfl Ho7.out rfl Hr7.out Hone.out HR7.out.1 HR7.out.2 hsz7 ?_; intro v8 w8 HO8 HBl8 HG8; clear HG8; have hsz8 : w6.heap.size ≤ w8.heap.size := Nat.le_trans Hwo7.out HBl8.out.size; have Hb8 := Lib.hid (Hb7.out.mod (Mod.of_below HBl8.out) Hwo7.out (fun j hj h => by omega)))
            | (at_builtin; refine wpList_app rfl (.tmp 52) (.tmp 53) _ rfl elt8 rfl HO8.out rfl Hb8.out Hone2.out HR8.out.1 HR8.out.2 hsz8 ?_; intro v9 w9 HO9 HBl9 HG9; clear HG9))
          go_ret2
          have ho9 := HO9.out
          rw [cells8_app, cells8_app, List.append_assoc, Htb.out] at ho9
          have e : enc (tbK l).length = enc Lt := by rw [← Htb.out, HLt.out]
          refine EncB.of_some Hyes.out ?_ ?_
          · rw [e]
            exact ho9.mono Hm6.out.size
          · exact (Hm7.out.trans (Mod.of_below HBl8.out) (fun i hi h => by have := Hm6.out.size; omega)).trans (Mod.of_below HBl9.out) (fun i hi h => by have := Hm6.out.size; omega)
end Go.Proofs.YtmcemeofkjfhhaaGreatDoor

/- SuitPicks' walk. -/
namespace Go.Proofs.YtmcemeofkjfhhaaGreatDoor
open Go.RowKit

theorem good_nil : GoodS [] := fun p h => by cases h
theorem pick_0 : (bestK []).1 = 1 := by decide +kernel
theorem pick_1 : (bestK (rowP 0 1 20)).1 = 6 := by decide +kernel
/-- One of the rows by hand, and its tag. -/
def PickAt (w : World) (lit j : Nat) : Prop := ∃ (A : Option Addr) (n c : Nat) (l : List (Int × Nat)) (tag : Int), w.cell? ⟨lit, j * 2, none⟩ = some (.slice A n c) ∧ w.cell? ⟨lit, j * 2 + 1, none⟩ = some (.int .i64 tag) ∧
  RdsS w w.heap.size A n l ∧ GoodS l ∧ n ≤ 60 ∧ (j ≤ 1 → (bestK l).1 = tag)
theorem pickAt_new {w : World} {e : TypeId} {A1 A2 A3 A4 : Option Addr} {n1 n2 n3 n4 c1 c2 c3 c4 : Nat} {l1 l2 l3 l4 : List (Int × Nat)} (h1 : RdsS w w.heap.size A1 n1 l1) (h2 : RdsS w w.heap.size A2 n2 l2) (h3 : RdsS w w.heap.size A3 n3 l3) (h4 : RdsS w w.heap.size A4 n4 l4)
    (g1 : GoodS l1) (g2 : GoodS l2) (g3 : GoodS l3) (g4 : GoodS l4) (k1 : n1 ≤ 60) (k2 : n2 ≤ 60) (k3 : n3 ≤ 60) (k4 : n4 ≤ 60) (hb : (bestK l1).1 = 6) {j : Nat} (hj : j < 5) :
    PickAt (w.alloc (.cells #[.slice none 0 0, .int .i64 1, .slice A1 n1 c1, .int .i64 6, .slice A2 n2 c2, .int .i64 4, .slice A3 n3 c3, .int .i64 3, .slice A4 n4 c4, .int .i64 2] e)) w.heap.size j := by
  have hB := Blk.new w e #[.slice none 0 0, .int .i64 1, .slice A1 n1 c1, .int .i64 6, .slice A2 n2 c2, .int .i64 4, .slice A3 n3 c3, .int .i64 3, .slice A4 n4 c4, .int .i64 2]
  have hal : ∀ {A : Option Addr} {n : Nat} {l : List (Int × Nat)}, RdsS w w.heap.size A n l → RdsS (w.alloc (.cells #[.slice none 0 0, .int .i64 1, .slice A1 n1 c1, .int .i64 6, .slice A2 n2 c2, .int .i64 4, .slice A3 n3 c3, .int .i64 3, .slice A4 n4 c4, .int .i64 2] e)) (w.alloc (.cells #[.slice none 0 0, .int .i64 1, .slice A1 n1 c1, .int .i64 6, .slice A2 n2 c2, .int .i64 4, .slice A3 n3 c3, .int .i64 3, .slice A4 n4 c4, .int .i64 2] e)).heap.size A n l := fun h => (h.alloc (Nat.le_refl _) _).fit
  have hj' : j = 0 ∨ j = 1 ∨ j = 2 ∨ j = 3 ∨ j = 4 := by omega
  rcases hj' with rfl | rfl | rfl | rfl | rfl
  · exact ⟨none, 0, 0, [], 1, hB.cell 0, hB.cell 1, RdsS.nil _ _ _, good_nil, by decide, fun _ => pick_0⟩
  · exact ⟨A1, n1, c1, l1, 6, hB.cell 2, hB.cell 3, hal h1, g1, k1, fun _ => hb⟩
  · exact ⟨A2, n2, c2, l2, 4, hB.cell 4, hB.cell 5, hal h2, g2, k2, fun h => absurd h (by decide)⟩
  · exact ⟨A3, n3, c3, l3, 3, hB.cell 6, hB.cell 7, hal h3, g3, k3, fun h => absurd h (by decide)⟩
  · exact ⟨A4, n4, c4, l4, 2, hB.cell 8, hB.cell 9, hal h4, g4, k4, fun h => absurd h (by decide)⟩
theorem prow_at {n step every : Nat} (w : World) (x y z : Int) (hx : x = (n : Int)) (hy : y = (step : Int)) (hz : z = (every : Int)) (hn : n ≤ 60) (he : 0 < every) (he2 : every ≤ 60) (hs : step ≤ 1099511627776) :
    Calls Tryz.prog 5 #[.int .i64 x, .int .u64 y, .int .i64 z] w fun e w' => ∃ (A : Option Addr) (c : Nat), e = .returned (.slice A n c) ∧ RdsS w' w'.heap.size A n (rowP step every n) ∧ Mod (fun _ => False) w w' := by
  subst hx; subst hy; subst hz
  refine (prow_any n step every w hn he he2 hs).mono ?_
  rintro e w' ⟨v, rfl, ho, hm⟩
  obtain ⟨A, L, c, rfl, HL, _, _, hr⟩ := ho.formN
  obtain rfl : L = n := by rw [← HL.out, rowP_len]
  exact ⟨A, c, rfl, hr, hm⟩
/-- The row that was picked, in its own variable. -/
def XAt (w : World) (gs : Nat) (A : Option Addr) (n c : Nat) (tag : Int) : Prop := gs < w.heap.size ∧ w.cell? ⟨gs, 0, none⟩ = some (.slice A n c) ∧ w.cell? ⟨gs, 1, none⟩ = some (.int .i64 tag)
theorem XAt.mod {w w' : World} {gs n c : Nat} {A : Option Addr} {tag : Int} (h : XAt w gs A n c tag) (hm : Mod (fun _ => False) w w') : XAt w' gs A n c tag :=
  ⟨Nat.lt_of_lt_of_le h.1 hm.size, (hm.cell (a := ⟨gs, 0, none⟩) h.1 (fun h => h)).trans h.2.1, (hm.cell (a := ⟨gs, 1, none⟩) h.1 (fun h => h)).trans h.2.2⟩
theorem xAt_new (w : World) (e : TypeId) (A : Option Addr) (n c : Nat) (tag : Int) : XAt (w.alloc (.cells #[.slice A n c, .int .i64 tag] e)) w.heap.size A n c tag := by
  have hB := Blk.new w e #[.slice A n c, .int .i64 tag]
  exact ⟨hB.lt, hB.cell 0, hB.cell 1⟩
/-- The least, of the first i. -/
def LeastTo (w wr : World) (l : List (Int × Nat)) (i : Nat) (bt : Int) (ln : Nat) : Prop := bt = (bestTo l i).1 ∧ ln = (bestTo l i).2.length ∧ Mod (fun _ => False) w wr
theorem LeastTo.stay {w wr w2 : World} {l : List (Int × Nat)} {i : Nat} {bt : Int} {ln : Nat} (h : LeastTo w wr l i bt ln) (hm : Mod (fun _ => False) wr w2) (hs : bestTo l (i + 1) = bestTo l i) : LeastTo w w2 l (i + 1) bt ln :=
  ⟨by rw [hs]; exact h.1, by rw [hs]; exact h.2.1, h.2.2.trans hm (fun _ _ h => h)⟩
set_option maxHeartbeats 1500000 in
set_option maxRecDepth 100000 in
theorem suitPicks_walk (which : Int) (w : World) (ht : Tabs w) : Calls Tryz.prog 3 #[.int .i64 which] w fun e w' => e = .returned (.bool true) ∧ Mod (fun _ => False) w w' := by
  have Ht := Lib.hid ht
  clear ht
  go_enter Tryz.func3, Tryz.ntmps3
  go_wp2_with fail
  refine (prow_at (n := 20) (step := 0) (every := 1) w _ _ _ rfl rfl rfl (by decide) (by decide) (by decide) (by decide)).mono ?_
  rintro e w1 ⟨A1, c1, rfl, hr1, hm1⟩
  have Hr1 := Lib.hid hr1; have Hm1 := Lib.hid hm1
  clear hr1 hm1
  go_wp2_with fail
  refine (prow_at (n := 40) (step := 1) (every := 20) w1 _ _ _ rfl rfl rfl (by decide) (by decide) (by decide) (by decide)).mono ?_
  rintro e w2 ⟨A2, c2, rfl, hr2, hm2⟩
  have Hr12 := Lib.hid (Hr1.out.new hm2).fit; have Hr2 := Lib.hid hr2; have Hm2 := Lib.hid (Hm1.out.trans hm2 (fun _ _ h => h))
  clear hr2 hm2 Hr1 Hm1
  go_wp2_with fail
  refine (prow_at (n := 60) (step := 1099511627776) (every := 30) w2 _ _ _ rfl rfl rfl (by decide) (by decide) (by decide) (by decide)).mono ?_
  rintro e w3 ⟨A3, c3, rfl, hr3, hm3⟩
  have Hr13 := Lib.hid (Hr12.out.new hm3).fit; have Hr23 := Lib.hid (Hr2.out.new hm3).fit; have Hr3 := Lib.hid hr3; have Hm3 := Lib.hid (Hm2.out.trans hm3 (fun _ _ h => h))
  clear hr3 hm3 Hr12 Hr2 Hm2
  go_wp2_with fail
  refine (prow_at (n := 60) (step := 1) (every := 1) w3 _ _ _ rfl rfl rfl (by decide) (by decide) (by decide) (by decide)).mono ?_
  rintro e w4 ⟨A4, c4, rfl, hr4, hm4⟩
  have Hr14 := Lib.hid (Hr13.out.new hm4).fit; have Hr24 := Lib.hid (Hr23.out.new hm4).fit; have Hr34 := Lib.hid (Hr3.out.new hm4).fit; have Hr4 := Lib.hid hr4; have Hm4 := Lib.hid (Hm3.out.trans hm4 (fun _ _ h => h))
  clear hr4 hm4 Hr13 Hr23 Hr3 Hm3
  obtain ⟨wL, hwL⟩ : ∃ wL, wL = w4.alloc (.cells #[.slice none 0 0, .int .i64 1, .slice A1 20 c1, .int .i64 6, .slice A2 40 c2, .int .i64 4, .slice A3 60 c3, .int .i64 3, .slice A4 60 c4, .int .i64 2] 27) := ⟨_, rfl⟩
  obtain ⟨x, hx, hx8⟩ : ∃ x : Nat, bits .and .i64 which 255 = (x : Int) ∧ x < 256 := and_nat which 255 8 rfl (by omega)
  obtain ⟨j, hj⟩ : ∃ j, j = x % 5 := ⟨_, rfl⟩
  have hj5 : j < 5 := by omega
  have hmod : (x : Int) % 5 = (j : Int) := by omega
  have htm : (x : Int).tmod 5 = (j : Int) := by rw [Int.tmod_eq_emod_of_nonneg (by omega)]; exact hmod
  have hj0 : (0 : Int) ≤ (j : Int) := by omega
  have hj5i : (j : Int) < 5 := by omega
  have HP : Hid (PickAt wL w4.heap.size j) := Lib.hid (by rw [hwL]; exact pickAt_new Hr14.out Hr24.out Hr34.out Hr4.out (rowP_good (by decide) _ (by decide)) (rowP_good (by decide) _ (by decide)) (rowP_good (by decide) _ (by decide)) (rowP_good (by decide) _ (by decide)) (by decide) (by decide) (by decide) (by decide) pick_1 hj5)
  have hmL : Mod (fun _ => False) w4 wL := by rw [hwL]; exact (Mod.refl _ _).alloc _
  have HmL := Lib.hid (Hm4.out.trans hmL (fun _ _ h => h)); have TL := Lib.hid (Ht.out.mod (Hm4.out.trans hmL (fun _ _ h => h))); have HwL := Lib.hid hwL
  clear hwL hmL Hr14 Hr24 Hr34 Hr4 Hm4 hj
  go_upto_region 3 with fail
  rw [← HwL.out]
  clear HwL
  generalize w4.heap.size = lit at *
  obtain ⟨A, n, c, l, tag, hc0, hc1, hr, hg, hn60, hbt⟩ := HP.out
  have Hr := Lib.hid hr; have Hg := Lib.hid hg
  obtain ⟨wX, hwX⟩ : ∃ wX, wX = wL.alloc (.cells #[.slice A n c, .int .i64 tag] 27) := ⟨_, rfl⟩
  have hmX : Mod (fun _ => False) wL wX := by rw [hwX]; exact (Mod.refl _ _).alloc _
  have HX : Hid (XAt wX wL.heap.size A n c tag) := Lib.hid (by rw [hwX]; exact xAt_new _ _ _ _ _ _)
  obtain ⟨bk, hbk⟩ : ∃ bk, bk = (bestK l).1 := ⟨_, rfl⟩
  rw [← hbk] at hbt
  have HwX := Lib.hid hwX; have Hbk := Lib.hid hbk; have Hbt := Lib.hid hbt
  have HrX := Lib.hid (Hr.out.new hmX).fit; have TX := Lib.hid (TL.out.mod hmX); have HmX := Lib.hid (HmL.out.trans hmX (fun _ _ h => h))
  clear hr hg hbt HP hwX hbk hmX Hr TL HmL
  go_wp2_with fail
  rw [← HwX.out]
  clear HwX
  generalize wL.heap.size = gs at *
  refine (kbest_any A n c l wX HrX.out Hg.out TX.out).mono ?_
  rintro e w5 ⟨v5, rfl, ho5, hm5⟩
  obtain ⟨A5, L5, c5, rfl, HL5, _, _, _⟩ := own_formN8 ho5
  rw [← Hbk.out]
  have Hr5 := Lib.hid (HrX.out.new hm5).fit; have T5 := Lib.hid (TX.out.mod hm5); have Hm5 := Lib.hid (HmX.out.trans hm5 (fun _ _ h => h)); have HX5 := Lib.hid (HX.out.mod hm5)
  have H0 : Hid (LeastTo w5 w5 l 0 0 0) := Lib.hid ⟨rfl, rfl, Mod.refl _ _⟩
  clear ho5 hm5 HrX TX HmX HX hc0 hc1
  go_wp2_with fail
  go_loopg [8, 9, 10] 6 (fun k s8 s9 s10 wr => ∃ (i q : Nat) (bt : Int) (ln : Nat), i + k = 6 ∧ q = i + 1 ∧ s10 = .int .i64 (q : Int) ∧ s9 = .int .i64 bt ∧ s8 = .int .i64 (ln : Int) ∧ LeastTo w5 wr l i bt ln)
  case atStart => exact ⟨0, 1, 0, 0, rfl, rfl, rfl, rfl, rfl, H0.out⟩
  case round =>
    obtain ⟨i, q, bt, ln, hik, hq, rfl, rfl, rfl, hB⟩ := hrel
    have Hik := Lib.hid hik; have HB := Lib.hid hB; have Hq := Lib.hid hq
    clear hik hB hq H0
    have Hrr := Lib.hid (Hr5.out.new HB.out.2.2).fit; have Tr := Lib.hid (T5.out.mod HB.out.2.2)
    have hx0 := (HX5.out.mod HB.out.2.2).2.1
    by_cases hi6 : i < 6
    · have hq6 : (q : Int) ≤ 6 := by have := Hq.out; omega
      go_wp2_with fail
      refine (rkenc_any (q : Int) A n c l wr Hrr.out Hg.out (by omega)).mono ?_
      intro e w1 he
      have he' : EncB wr w1 (encK (q : Int) l) e := he
      clear he
      cases ho : encK (q : Int) l with
      | none =>
        obtain ⟨rfl, hm1⟩ := EncB.none_ he' ho
        have HB2 : Hid (LeastTo w5 w1 l (i + 1) bt ln) := Lib.hid (HB.out.stay hm1 (best_none (by rw [← Hq.out]; exact ho)))
        clear he' ho hm1
        go_wp2_with fail
        go_roundg (gk - 1)
        case measure => have := Hik.out; omega
        case rel => exact ⟨i + 1, q + 1, bt, ln, by have := Hik.out; omega, by have := Hq.out; omega, by go_num, rfl, rfl, HB2.out⟩
      | some b =>
        obtain ⟨v1, rfl, ho1, hm1⟩ := EncB.some_ he' ho
        obtain ⟨A1', L1, c1', rfl, HL1, _, _, _⟩ := own_formN8 ho1
        have hbs : bestTo l (i + 1) = if (bestTo l i).1 = 0 ∨ b.length < (bestTo l i).2.length then ((q : Int), b) else bestTo l i := by rw [best_some (l := l) (i := i) (b := b) (by rw [← Hq.out]; exact ho), Hq.out]
        have hcond : ((bestTo l i).1 = 0 ∨ b.length < (bestTo l i).2.length) ↔ (bt = 0 ∨ L1 < ln) := by rw [← HB.out.1, ← HB.out.2.1, HL1.out]
        have hyes : (bt = 0 ∨ L1 < ln) → LeastTo w5 w1 l (i + 1) (q : Int) L1 := fun h => by
          rw [if_pos (hcond.2 h)] at hbs
          exact ⟨by rw [hbs], by rw [hbs]; exact HL1.out.symm, HB.out.2.2.trans hm1 (fun _ _ h => h)⟩
        have hno : ¬ (bt = 0 ∨ L1 < ln) → LeastTo w5 w1 l (i + 1) bt ln := fun h => by
          rw [if_neg (fun h' => h (hcond.1 h'))] at hbs
          exact HB.out.stay hm1 hbs
        have Hyes := Lib.hid hyes; have Hno := Lib.hid hno
        clear he' ho hm1 ho1 hbs hcond hyes hno
        by_cases hb0 : bt = 0
        · have hbb : (bt == 0) = true := by simp [hb0]
          have HB2 := Lib.hid (Hyes.out (.inl hb0))
          clear hb0 Hyes Hno
          go_wp2_with fail
          go_roundg (gk - 1)
          case measure => have := Hik.out; omega
          case rel => exact ⟨i + 1, q + 1, _, L1, by have := Hik.out; omega, by have := Hq.out; omega, by go_num, rfl, rfl, HB2.out⟩
        · have hbb : (bt == 0) = false := by simp [hb0]
          by_cases hlt : L1 < ln
          · have hlti : (L1 : Int) < (ln : Int) := by omega
            have hltb : decide ((L1 : Int) < (ln : Int)) = true := by simp; omega
            have HB2 := Lib.hid (Hyes.out (.inr hlt))
            clear hb0 Hyes Hno
            go_wp2_with fail
            go_roundg (gk - 1)
            case measure => have := Hik.out; omega
            case rel => exact ⟨i + 1, q + 1, _, L1, by have := Hik.out; omega, by have := Hq.out; omega, by go_num, rfl, rfl, HB2.out⟩
          · have hlti : ¬ (L1 : Int) < (ln : Int) := by omega
            have hltb : decide ((L1 : Int) < (ln : Int)) = false := by simp; omega
            have HB2 := Lib.hid (Hno.out (by rintro (h | h); exact hb0 h; exact hlt h))
            clear hb0 Hyes Hno
            go_wp2_with fail
            go_roundg (gk - 1)
            case measure => have := Hik.out; omega
            case rel => exact ⟨i + 1, q + 1, bt, ln, by have := Hik.out; omega, by have := Hq.out; omega, by go_num, rfl, rfl, HB2.out⟩
    · have hq6 : ¬ (q : Int) ≤ 6 := by have := Hq.out; omega
      have hi : i = 6 := by have := Hik.out; omega
      obtain ⟨h1, h2, h3⟩ := HB.out
      rw [hi] at h1 h2
      obtain rfl : bt = bk := h1.trans Hbk.out.symm
      obtain rfl : ln = L5 := h2.trans HL5.out
      have hx1 := (HX5.out.mod h3).2.2
      have Hm6 := Lib.hid (Hm5.out.trans h3 (fun _ _ h => h))
      have hbb : (bt == bt) = true := by simp
      have hll : ((ln : Int) == (ln : Int)) = true := by simp
      clear h1 h2 h3 hi HB HL5 Hr5 T5 HX5 Hrr
      by_cases hj1 : j ≤ 1
      · have hjd : decide ((1 : Int) < (j : Int)) = false := by simp; omega
        have hjn : ¬ (1 : Int) < (j : Int) := by omega
        obtain rfl : bt = tag := Hbt.out hj1
        go_wp2_with fail
        refine (kawake_any _ Tr.out).mono ?_
        rintro e wf ⟨rfl, hmf⟩
        have Hmf := Lib.hid (Hm6.out.trans hmf (fun _ _ h => h))
        clear hmf
        go_wp2_with fail
        go_ret
        exact ⟨rfl, Hmf.out⟩
      · have hjd : decide ((1 : Int) < (j : Int)) = true := by simp; omega
        have hjn : (1 : Int) < (j : Int) := by omega
        go_wp2_with fail
        refine (kawake_any _ Tr.out).mono ?_
        rintro e wf ⟨rfl, hmf⟩
        have Hmf := Lib.hid (Hm6.out.trans hmf (fun _ _ h => h))
        clear hmf
        go_wp2_with fail
        go_ret
        exact ⟨rfl, Hmf.out⟩
end Go.Proofs.YtmcemeofkjfhhaaGreatDoor

/- From the row's list to the table of math/bits. -/
namespace Go.Proofs.YtmcemeofkjfhhaaGreatDoor
open Go.RowKit
theorem deb_of_tab {w : World} (h : Lib.TabIs Tryz.prog w "math/bits.deBruijn64tab" .u8 [0, 1, 56, 2, 57, 49, 28, 3, 61, 58, 42, 50, 38, 29, 17, 4, 62, 47, 59, 36, 45, 43, 51, 22, 53, 39, 33, 30, 24, 18, 12, 5, 63, 55, 48, 27, 60, 41, 37, 16, 46, 35, 44, 21, 52, 32, 23, 11, 54, 26, 40, 15, 34, 20, 31, 10, 25, 14, 19, 9, 13, 8, 7, 6]) : Deb w := by
  have hd : ∀ t : Fin 64, (([0, 1, 56, 2, 57, 49, 28, 3, 61, 58, 42, 50, 38, 29, 17, 4, 62, 47, 59, 36, 45, 43, 51, 22, 53, 39, 33, 30, 24, 18, 12, 5, 63, 55, 48, 27, 60, 41, 37, 16, 46, 35, 44, 21, 52, 32, 23, 11, 54, 26, 40, 15, 34, 20, 31, 10, 25, 14, 19, 9, 13, 8, 7, 6] : List Int).getD t.val 0) = (deb t.val : Int) := by decide +kernel
  have hc : ∀ t, t < 64 → w.cell? ⟨2, t, none⟩ = some (.int .u8 (deb t : Int)) := fun t ht => by
    rw [← hd ⟨t, ht⟩]
    exact h.cell (by kernel_rfl) t ht
  exact ⟨World.block_lt_of_cell? w _ (hc 0 (by decide)), hc⟩
end Go.Proofs.YtmcemeofkjfhhaaGreatDoor

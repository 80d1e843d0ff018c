/- The texts De, Pe, Kv, Kw, Ke, Dr, Pr, Ky, Kz, Kd, Jf, Za, Am, Jb, Aa, Kb, Ks, Kq, Kba, Jn, Je, Jp0, Jp, Kxr, Wr, Wv, Pf, Df, Kxt, Rt, Ru, Kxe, Jm, Wn, Pg, Ac, one behind the other. -/
import Derived.Test.YtmeilddngohccaaGreatDoorMp1
import Derived.Test.YtmeilddngohccaaGreatDoorMp3
import Derived.Test.YtmeilddngohccaaGreatDoorMp2
/- Values are told by a list of those that are unlike: putList, Encode. -/
namespace Go.Proofs.YtmeilddngohccaaGreatDoor
open Go.RowKit Go.Maps

theorem encV_snoc (l : List Nat) (x : Nat) : encV (l ++ [x]) = encV l ++ enc x := by
 rw [encV_app]
 show encV l ++ (enc x ++ []) = _
 rw [List.append_nil]
theorem encV_small {l : List Nat} {i : Nat} (h : ∀ x ∈ l, x < 2 ^ 64) (hl : l.length ≤ 1000000) : (enc l.length ++ encV (l.take i)).length ≤ 10000010 := by
 have h1 := enc_len10 (u := l.length) (by omega)
 have h2 := encV_len (l := l.take i) (fun x hx => h x (List.mem_of_mem_take hx))
 have h3 : (l.take i).length ≤ l.length := by rw [List.length_take]; omega
 rw [List.length_append]
 omega
/-- What putList has told of i values. -/
def ListTo (w wr : World) (l : List Nat) (i : Nat) (v : Value) : Prop := Own w.heap.size wr 5 v (cells8 (enc l.length ++ encV (l.take i))) ∧ Mod (fun _ => False) w wr
set_option maxHeartbeats 4000000 in
set_option maxRecDepth 100000 in
theorem putList_any (A : Option Addr) (n cap B : Nat) (l : List Nat) (w : World) (hs : Rds w B A n (cellsU l)) (hB : B ≤ w.heap.size) (hu : ∀ x ∈ l, x < 2 ^ 64) (hn : n ≤ 1000000) :
  Calls Tryz.prog 90 #[.slice A n cap] w fun e w' => ∃ v, e = .returned v ∧ Own w.heap.size w' 5 v (cells8 (enc l.length ++ encV l)) ∧ Mod (fun _ => False) w w' := by
 have hul : l.length = n := by have := hs.1; rwa [cellsU_length] at this
 have Hs := Lib.hid hs; have Hu := Lib.hid hu; have HB := Lib.hid hB; have Hul := Lib.hid hul
 have hn64 : Hid (Lt64 n) := Lib.hid (by unfold Lt64; omega)
 clear hs hu hB hul
 go_enter Tryz.func90, Tryz.ntmps90
 go_wp2_with fail
 refine (vput_any none 0 0 0 [] n w (Rds.nil _ _ _) (by omega) hn64.out).mono ?_
 rintro e w1 ⟨v1, rfl, ho1, hb1⟩
 rw [List.nil_append] at ho1
 have P0 : Hid (ListTo w w1 l 0 v1) := Lib.hid ⟨by rw [Hul.out, List.take_zero]; show Own _ _ _ _ (cells8 (enc n ++ [])); rw [List.append_nil]; exact ho1, mod_below hb1⟩
 clear ho1 hb1
 go_wp2_with fail
 go_loopg [3, 12] n (fun l' s3 s12 wr => ∃ i : Nat, i + l' = n ∧ s12 = .int .i64 (i : Int) ∧ ListTo w wr l i s3)
 case atStart => exact ⟨0, by omega, rfl, P0.out⟩
 case round =>
  obtain ⟨i, hil, rfl, hown, hm⟩ := hrel
  have Hown := Lib.hid hown; have Hm := Lib.hid hm; have Hil := Lib.hid hil
  clear hown hm hil P0
  by_cases hin : i < n
  ·obtain ⟨ad, x, rfl, hx, hcx⟩ := Hs.out.at2 hin HB.out Hm.out (fun _ _ h => h)
   have Hx64 : Hid (Lt64 x) := Lib.hid (Hu.out x (List.mem_of_getElem? hx))
   have Htk : Hid (encV (l.take (i + 1)) = encV (l.take i) ++ enc x) := Lib.hid (by rw [take_succ_of hx, encV_snoc])
   have hi0 : (0 : Int) ≤ (i : Int) := by omega
   obtain ⟨A3, L3, c3, rfl, HL3, _, _, hr3⟩ := own_formN8 Hown.out
   have HL9 : Hid (L3 ≤ 1000000000) := Lib.hid (by have h1 := HL3.out; have h2 := encV_small (i := i) Hu.out (by rw [Hul.out]; exact hn); omega)
   have Hr3 := Lib.hid hr3
   clear hx hr3
   go_wp2_with fail
   refine (vput_any A3 L3 c3 _ _ x wr Hr3.out HL9.out Hx64.out).mono ?_
   rintro e w2 ⟨v2, rfl, ho2, hb2⟩
   rw [List.append_assoc, ← Htk.out] at ho2
   have HP : Hid (ListTo w w2 l (i + 1) v2) := Lib.hid ⟨ho2.mono Hm.out.size, Hm.out.trans (mod_below hb2) (fun _ _ h => h)⟩
   clear ho2 hb2
   go_wp2_with fail
   go_roundg (gk - 1)
   case measure => have := Hil.out; omega
   case rel => exact ⟨i + 1, by have := Hil.out; omega, by go_num, HP.out⟩
  ·have hi : i = n := by have := Hil.out; omega
   go_wp2_with fail
   go_ret
   have h := Hown.out
   rw [List.take_of_length_le (by rw [Hul.out]; omega)] at h
   exact ⟨_, rfl, h, Hm.out⟩
theorem atD_at {us : List Nat} {i x : Nat} (h : us[i]? = some x) : (atD us)[i]? = some (plc x (uniq us)) := by
 unfold atD
 rw [List.getElem?_map, h]
 rfl
theorem FldTo.drew {w0 w1 wr : World} {g S i : Nat} {l : List Nat} (h : FldTo w0 w1 wr g S l i) : FldTo w0 w1 wr.drew g S l i := by
 obtain ⟨⟨row', a1, a2, a3⟩, a4⟩ := h
 exact ⟨⟨row', a1.mod (Mod.refl (fun _ => False) _).drew (fun h => h) (fun _ _ h => h), a2.drew, a3⟩, a4.drew⟩
set_option maxHeartbeats 4000000 in
set_option maxRecDepth 100000 in
theorem denc_any (A : Option Addr) (n cap B : Nat) (us : List Nat) (w : World) (hs : Rds w B A n (cellsU us)) (hB : B ≤ w.heap.size) (hu : ∀ x ∈ us, x < 2 ^ 64) (hn : n ≤ 1000000) :
  Calls Tryz.prog 62 #[.slice A n cap] w fun e w' => EncB w w' (encD us) e := by
 have hul : us.length = n := by have := hs.1; rwa [cellsU_length] at this
 by_cases h0 : n = 0
 ·subst h0
  obtain rfl := List.eq_nil_of_length_eq_zero hul
  clear hs
  go_enter Tryz.func62, Tryz.ntmps62
  go_wp2_with fail
  go_ret2
  rw [encD_nil]
  exact ⟨_, rfl, Own.nil _ _ _, Mod.refl _ _⟩
 ·have hne : us ≠ [] := by rintro rfl; exact h0 hul.symm
  have hn0 : ((n : Int) == 0) = false := by simp; omega
  have Hs := Lib.hid hs; have Hu := Lib.hid hu; have HB := Lib.hid hB; have Hul := Lib.hid hul; have Hne := Lib.hid hne
  clear hs hu hB hul hne
  go_enter Tryz.func62, Tryz.ntmps62
  go_wp2_with fail
  refine (unlike_any A n cap B us w Hs.out HB.out Hu.out hn).mono ?_
  rintro e w1 ⟨v4, b, nm, D, l, rfl, hb, ho4, hmap, hm1, hl257, hor⟩
  obtain ⟨A4, L, c4, rfl, HL, _, hr4⟩ := own_formUN ho4
  have hL257 : L ≤ 257 := by have := HL.out; omega
  have Hm1 := Lib.hid hm1; have Hr4 := Lib.hid hr4; have Hmap := Lib.hid hmap
  clear hm1 hr4 hmap ho4
  rcases hor with ⟨h1, h2⟩ | ⟨rfl, h1, hplc⟩
  ·have hLb : (256 : Int) < (L : Int) := by have := HL.out; omega
   have Hd : Hid (encD us = none) := Lib.hid (encD_many h2)
   clear h1 h2
   go_wp2_with fail
   go_ret2
   rw [Hd.out]
   exact ⟨rfl, Hm1.out⟩
  ·have hL256 : L ≤ 256 := by have := HL.out; omega
   have hLb : ¬ (256 : Int) < (L : Int) := by omega
   have hL0 : ¬ L = 0 := by have h := uniq_pos Hne.out; have := HL.out; omega
   obtain ⟨S, hS⟩ : ∃ S, wid (L - 1) = S := ⟨_, rfl⟩
   have hS64 : S ≤ 64 := by rw [← hS]; exact wid_le _
   have Hsize : Hid (∀ W, Calls Tryz.prog 89 #[.slice A4 L c4] W fun e w' => e = .returned (.int .i64 (S : Int)) ∧ W = w') := Lib.hid (fun W => dsize_any A4 L c4 S W hL0 (by omega) hS)
   have HS := Lib.hid hS; have Hplc := Lib.hid hplc
   have Hat : Hid ((atD us).length = n) := Lib.hid (by rw [atD_len]; exact Hul.out)
   clear h1 hplc hl257 hS hL0
   go_wp2_with fail
   refine (newWriter_wr w1).mono ?_
   rintro e w2 ⟨g, rfl, hg1, hg2, hwr, hm2⟩
   have F0 : Hid (FldTo w1 w2 w2 g S (atD us) 0) := Lib.hid ⟨Wrote.refl hwr, hm2⟩
   have Hg1 := Lib.hid hg1; have Hm2 := Lib.hid hm2
   clear hg1 hg2 hwr hm2 hn0
   go_wp2_with fail
   go_loopg [23] n (fun l s23 wr => ∃ i : Nat, i + l = n ∧ s23 = .int .i64 (i : Int) ∧ FldTo w1 w2 wr g S (atD us) i)
   case atStart => exact ⟨0, by omega, rfl, F0.out⟩
   case round =>
    obtain ⟨i, hil, rfl, hF⟩ := hrel
    have HF := Lib.hid hF; have Hil := Lib.hid hil
    clear hF hil F0
    by_cases hin : i < n
    ·obtain ⟨ad, x, rfl, hx, hcx⟩ := Hs.out.at2 hin HB.out (Hm1.out.trans HF.out.2 (fun _ _ h => h)) (fun _ _ h => h)
     have hx64 := Hu.out x (List.mem_of_getElem? hx)
     have hxu : x ∈ uniq us := uniq_mem (List.mem_of_getElem? hx)
     obtain ⟨p, hp⟩ : ∃ p, p = plc x (uniq us) := ⟨_, rfl⟩
     have hpl : p < 256 := by have := plc_lt hxu; rw [hp]; have := HL.out; omega
     have Hp : Hid ((atD us)[i]? = some p) := Lib.hid (by rw [hp]; exact atD_at hx)
     have hi0 : (0 : Int) ≤ (i : Int) := by omega
     obtain ⟨c, hrun, hat, _⟩ := World.ownsMap.lookup_int (Hmap.out.mod HF.out.2.drew (fun h => h)).out lawU Tryz.underlying122 Tryz.underlying26 (zeroU _) (keyU hx64)
     obtain rfl : c = (p : Int) := by rw [hp]; exact Hplc.out.look hxu hat
     have Hp64 : Hid (Lt64 p) := Lib.hid (by unfold Lt64; omega)
     clear hx hx64 hxu hp hat
     go_upto_region 10 with fail
     refine wp_region_still_tail 6 (by kernel_rfl) (by kernel_rfl) ?_
     simp only [List.take_succ_cons, List.take_zero, List.drop_succ_cons, List.drop_zero]
     iterate 5 still_step
     still_call ((Hsize.out _).mono (fun _ _ h => ⟨h.1, h.2.symm⟩))
     refine wpStill_nil ?_
     change wpList _ _ _ _ _ wr.drew
     have HFd := Lib.hid HF.out.drew
     clear hrun hcx HF
     generalize wr.drew = W at *
     go_wp2_with fail
     refine (put_wrote w2 g none 0 0 S _ p _ _ W rfl rfl hS64 Hp64.out HFd.out.1 (by have := flds_small (i := i) hS64 (Nat.le_of_eq Hat.out) hn; omega)).mono ?_
     rintro e w3 ⟨rfl, h3⟩
     have HF3 : Hid (FldTo w1 w2 w3 g S (atD us) (i + 1)) := Lib.hid (HFd.out.step Hp.out Hg1.out Hm2.out h3)
     clear h3
     go_wp2_with fail
     go_roundg (gk - 1)
     case measure => have := Hil.out; omega
     case rel => exact ⟨i + 1, by have := Hil.out; omega, by go_num, HF3.out⟩
    ·have hi : i = n := by have := Hil.out; omega
     obtain ⟨row, hwr⟩ := HF.out.wr Hat.out hi
     have Hwr := Lib.hid hwr; have Hmr := Lib.hid HF.out.2
     have Hr4' := Lib.hid (Hr4.out.new Hmr.out)
     clear hwr HF hi Hr4
     go_wp2_with fail
     refine (putList_any A4 L c4 _ (uniq us) wr Hr4'.out Hmr.out.size (fun x hx => Hu.out x (uniq_of hx)) (by omega)).mono ?_
     rintro e w3 ⟨v3, rfl, ho3, hm3⟩
     obtain ⟨A3, n3, c3, rfl, Hn3, _, _, _⟩ := own_formN8 ho3
     have hn3 : n3 ≤ 10000010 := by
      have h1 := encV_small (i := L) (l := uniq us) (fun x hx => Hu.out x (uniq_of hx)) (by have := HL.out; omega)
      rw [List.take_of_length_le (by rw [HL.out]; exact Nat.le_refl _)] at h1
      have := Hn3.out
      omega
     have hwr3 : Wr w3 g row (fnum (flds S (atD us))) (flen (flds S (atD us))) := Hwr.out.mod hm3 (fun h => h) (fun _ _ h => h)
     have Ho3 := Lib.hid ho3; have Hwr3 := Lib.hid hwr3; have Hm3 := Lib.hid hm3
     clear ho3 hwr3 hm3
     go_wp2_with fail
     refine (bytes_any g row _ _ w3 Hwr3.out (by have := flds_small (i := n) (l := atD us) hS64 (Nat.le_of_eq Hat.out) hn; rw [List.take_of_length_le (by rw [Hat.out]; exact Nat.le_refl _)] at this; omega)).mono ?_
     rintro e w4 ⟨v4', bs, rfl, hnew, hpk⟩
     obtain ⟨A5, c5, rfl, hr5, hm4⟩ := hnew.rds
     obtain rfl := hpk.packW
     have Hr5 := Lib.hid hr5; have Ho4 := Lib.hid (Ho3.out.mod hm4); have Hm4 := Lib.hid (((Hm1.out.trans Hmr.out (fun _ _ h => h)).trans Hm3.out (fun _ _ h => h)).trans hm4 (fun _ _ h => h))
     have hpl : (packW S (atD us)).length ≤ 8000001 := by rw [packW_len, Hat.out]; have := Nat.mul_le_mul hS64 hn; omega
     have Hone : Hid (∀ u ∈ cells8 (packW S (atD us)), u.oneCell' = true) := Lib.hid (cells8_one _)
     have hR4 : Room (cells8 (enc (uniq us).length ++ encV (uniq us))).length (packW S (atD us)).length := Room.mk _ _ (by rw [cells8_length, Hn3.out]; omega)
     have HR4 := Lib.hid hR4
     have hsz4 : wr.heap.size ≤ w4.heap.size := Nat.le_trans Hm3.out.size hm4.size
     clear hnew hpk hr5 hm4 hR4 hpl
     go_wp2_with (at_builtin; refine wpList_app rfl (.tmp 36) (.tmp 38) _ rfl elt8 rfl Ho4.out rfl Hr5.out Hone.out HR4.out.1 HR4.out.2 hsz4 ?_; intro v5 w5 HO5 HBl5 HG5; clear HG5)
     go_ret2
     have ho5 := HO5.out
     rw [cells8_app, List.append_assoc] at ho5
     rw [encD_cons Hne.out (by rw [HL.out]; omega), HL.out, HS.out]
     rw [HL.out] at ho5
     have hwsz : w.heap.size ≤ wr.heap.size := Nat.le_trans Hm1.out.size Hmr.out.size
     exact ⟨_, rfl, ho5.mono hwsz, Hm4.out.trans (Mod.of_below HBl5.out) (fun i hi h => by omega)⟩
end Go.Proofs.YtmeilddngohccaaGreatDoor

/- Values are told by their least: Encode. -/
namespace Go.Proofs.YtmeilddngohccaaGreatDoor
open Go.RowKit

set_option maxHeartbeats 4000000 in
set_option maxRecDepth 100000 in
theorem penc_any (A : Option Addr) (n cap B : Nat) (us : List Nat) (w : World) (hs : Rds w B A n (cellsU us)) (hB : B ≤ w.heap.size) (hu : ∀ x ∈ us, x < 2 ^ 64) (hn : n ≤ 1000000) :
  Calls Tryz.prog 61 #[.slice A n cap] w fun e w' => ∃ v, e = .returned v ∧ Own w.heap.size w' 5 v (cells8 (encP us)) ∧ Mod (fun _ => False) w w' := by
 have hul : us.length = n := by have := hs.1; rwa [cellsU_length] at this
 by_cases h0 : n = 0
 ·subst h0
  obtain rfl := List.eq_nil_of_length_eq_zero hul
  clear hs
  go_enter Tryz.func61, Tryz.ntmps61
  go_wp2_with fail
  go_ret
  exact ⟨_, rfl, Own.nil _ _ _, Mod.refl _ _⟩
 ·have hne : us ≠ [] := by rintro rfl; exact h0 hul.symm
  obtain ⟨L, hL⟩ : ∃ L, loV us = L := ⟨_, rfl⟩
  obtain ⟨H, hH⟩ : ∃ H, hiV us = H := ⟨_, rfl⟩
  have hL64 : L < 2 ^ 64 := by rw [← hL]; exact hu _ (loV_mem hne)
  have hH64 : H < 2 ^ 64 := by rw [← hH]; exact hu _ (hiV_mem hne)
  have hLH : L ≤ H := by rw [← hL, ← hH]; exact Nat.le_trans (loV_le (getD_mem hne)) (hiV_ge (getD_mem hne))
  obtain ⟨d, hd⟩ : ∃ d, d = H - L := ⟨_, rfl⟩
  have hdw : IntKind.u64.wrap ((H : Int) - (L : Int)) = (d : Int) := by rw [IntKind.wrap_u64]; omega
  obtain ⟨S, hS⟩ : ∃ S, wid d = S := ⟨_, rfl⟩
  have hS64 : S ≤ 64 := by rw [← hS]; exact wid_le d
  have HS : Hid (widV us = S) := Lib.hid (by unfold widV; rw [hL, hH, ← hd]; exact hS)
  have hd64 : Lt64 d := by unfold Lt64; omega
  have hL64' : Lt64 L := by unfold Lt64; omega
  have hcS : IntKind.u8.wrap (S : Int) = (S : Int) := by rw [IntKind.wrap_u8']; omega
  have hcS' : (S : Int) % 256 = (S : Int) := by omega
  have hp : 0 < n := by omega
  have hn0 : ((n : Int) == 0) = false := by simp; omega
  have Hs := Lib.hid hs; have Hu := Lib.hid hu; have HB := Lib.hid hB; have Hul := Lib.hid hul; have HL := Lib.hid hL; have HH := Lib.hid hH; have Hd64 := Lib.hid hd64; have HL64 := Lib.hid hL64'; have HSd := Lib.hid hS; have Hne := Lib.hid hne
  clear hs hu hB hul hL hH hd hS hd64 hL64 hL64' hH64 hLH hne
  go_enter Tryz.func61, Tryz.ntmps61
  go_wp2_with fail
  refine (umin_any A n cap B L us w Hs.out HB.out hp hn HL.out).mono ?_
  rintro e w1 ⟨rfl, rfl⟩
  go_wp2_with fail
  refine (umax_any A n cap B H us w Hs.out HB.out hp hn HH.out).mono ?_
  rintro e w1 ⟨rfl, rfl⟩
  go_wp2_with fail
  refine (len64_wid d S w Hd64.out HSd.out).mono ?_
  rintro e w1 ⟨rfl, rfl⟩
  go_wp2_with fail
  refine (newWriter_wr w).mono ?_
  rintro e w1 ⟨g, rfl, hg1, hg2, hwr, hm1⟩
  have Hg1 := Lib.hid hg1; have Hm1 := Lib.hid hm1
  have F0 : Hid (FldTo w w1 w1 g S (difV us) 0) := Lib.hid ⟨Wrote.refl hwr, hm1⟩
  have Hdl : Hid ((difV us).length = n) := Lib.hid (by rw [difV_len]; exact Hul.out)
  clear hg1 hg2 hwr hm1 hdw hn0
  go_wp2_with fail
  go_loopg [22] n (fun l s22 wr => ∃ i : Nat, i + l = n ∧ s22 = .int .i64 (i : Int) ∧ FldTo w w1 wr g S (difV us) i)
  case atStart => exact ⟨0, by omega, rfl, F0.out⟩
  case round =>
   obtain ⟨i, hil, rfl, hF⟩ := hrel
   have HF := Lib.hid hF; have Hil := Lib.hid hil
   clear hF hil F0
   by_cases hin : i < n
   ·obtain ⟨ad, x, rfl, hx, hcx⟩ := Hs.out.at2 hin HB.out HF.out.2 (fun _ _ h => h)
    have hxl := Hu.out x (List.mem_of_getElem? hx)
    have hLx : L ≤ x := by rw [← HL.out]; exact loV_le (List.mem_of_getElem? hx)
    obtain ⟨y, hy⟩ : ∃ y, y = x - L := ⟨_, rfl⟩
    have hyw : IntKind.u64.wrap ((x : Int) - (L : Int)) = (y : Int) := by rw [IntKind.wrap_u64]; omega
    have hy64 : Hid (Lt64 y) := Lib.hid (by unfold Lt64; omega)
    have hyd : Hid ((difV us)[i]? = some y) := Lib.hid (by rw [hy]; exact difV_at hx HL.out)
    have hi1 : (0 : Int) ≤ (i : Int) := by omega
    clear hxl hLx hx hy
    go_wp2_with fail
    refine (put_wrote w1 g none 0 0 S _ y _ _ wr rfl rfl hS64 hy64.out HF.out.1 (by have := flds_small (i := i) hS64 (Nat.le_of_eq Hdl.out) hn; omega)).mono ?_
    rintro e w2 ⟨rfl, h2⟩
    have HF2 : Hid (FldTo w w1 w2 g S (difV us) (i + 1)) := Lib.hid (HF.out.step hyd.out Hg1.out Hm1.out h2)
    clear h2
    go_wp2_with fail
    go_roundg (gk - 1)
    case measure => have := Hil.out; omega
    case rel => exact ⟨i + 1, by have := Hil.out; omega, by go_num, HF2.out⟩
   ·have hi : i = n := by have := Hil.out; omega
    obtain ⟨row, hwr⟩ := HF.out.wr Hdl.out hi
    have Hwr := Lib.hid hwr; have Hmr := Lib.hid HF.out.2
    clear hwr HF hi
    go_wp2_with fail
    refine (vput_any none 0 0 0 [] L wr (Rds.nil _ _ _) (by omega) HL64.out).mono ?_
    rintro e w2 ⟨v2, rfl, ho2, hb2⟩
    rw [List.nil_append] at ho2
    have Ho2 := Lib.hid ho2; have Hb2 := Lib.hid hb2
    have hq := enc_len10 HL64.out.out
    have hR : Room (cells8 (enc L)).length 1 := Room.mk _ _ (by rw [cells8_length]; omega)
    have HR := Lib.hid hR
    have hsz : wr.heap.size ≤ w2.heap.size := hb2.size
    clear ho2 hb2 hR
    go_wp2_with (at_builtin; refine wpList_app1 rfl (.tmp 34) (.tmp 37) _ rfl elt8 rfl Ho2.out rfl rfl rfl HR.out.1 HR.out.2 hsz ?_; intro v3 w3 H1 H2)
    have hbel : Below wr.heap.size wr w3 := Hb2.out.trans H2.out
    have hwr3 : Wr w3 g row (fnum (flds S (difV us))) (flen (flds S (difV us))) := Hwr.out.mod (Mod.of_below hbel) (by have := Hwr.out.lt; omega) (fun k hk h => by have := Hwr.out.row_lt k hk; omega)
    have ho3 : Own wr.heap.size w3 5 v3 (cells8 (enc L ++ [S])) := by rw [cells8_snoc]; exact H1.out
    obtain ⟨A3, n3, c3, rfl, Hn3, _, _, _⟩ := own_formN8 ho3
    have Ho3 := Lib.hid ho3; have Hwr3 := Lib.hid hwr3
    have Hm3 := Lib.hid (Hmr.out.trans (mod_below hbel) (fun _ _ h => h))
    have hsz3 := hbel.size
    clear ho3 hwr3 hbel H1 H2
    go_wp2_with fail
    refine (bytes_any g row _ _ w3 Hwr3.out (by have := flds_small (i := n) (l := difV us) hS64 (Nat.le_of_eq Hdl.out) hn; rw [List.take_of_length_le (by rw [Hdl.out]; exact Nat.le_refl _)] at this; omega)).mono ?_
    rintro e w4 ⟨v4, bs, rfl, hnew, hpk⟩
    obtain ⟨A4, c4, rfl, hr4, hm4⟩ := hnew.rds
    obtain rfl := hpk.packW
    have Hr4 := Lib.hid hr4; have Ho4 := Lib.hid (Ho3.out.mod hm4); have Hm4 := Lib.hid (Hm3.out.trans hm4 (fun _ _ h => h))
    have hpl : (packW S (difV us)).length ≤ 8000001 := by rw [packW_len, Hdl.out]; have := Nat.mul_le_mul hS64 hn; omega
    have Hone : Hid (∀ u ∈ cells8 (packW S (difV us)), u.oneCell' = true) := Lib.hid (cells8_one _)
    have hR4 : Room (cells8 (enc L ++ [S])).length (packW S (difV us)).length := Room.mk _ _ (by rw [cells8_length, List.length_append, List.length_singleton]; omega)
    have HR4 := Lib.hid hR4
    have hsz4 : wr.heap.size ≤ w4.heap.size := Nat.le_trans hsz3 hm4.size
    clear hnew hpk hr4 hm4 hR4 hpl
    go_wp2_with (at_builtin; refine wpList_app rfl (.tmp 39) (.tmp 41) _ rfl elt8 rfl Ho4.out rfl Hr4.out Hone.out HR4.out.1 HR4.out.2 hsz4 ?_; intro v5 w5 HO5 HBl5 HG5; clear HG5)
    go_ret
    have ho5 := HO5.out
    rw [cells8_app, List.append_assoc] at ho5
    have e : encP us = enc L ++ (S :: packW S (difV us)) := by rw [encP_cons Hne.out, HL.out, HS.out]
    rw [e]
    exact ⟨_, rfl, ho5.mono Hmr.out.size, Hm4.out.trans (Mod.of_below HBl5.out) (fun i hi h => by have := Hmr.out.size; omega)⟩
end Go.Proofs.YtmeilddngohccaaGreatDoor

/- Values told in each codec: putSimple, putSame, putValues. -/
namespace Go.Proofs.YtmeilddngohccaaGreatDoor
open Go.RowKit

/-- Words as fields of 64 bits. -/
theorem flds64_num : ∀ (ws : List Nat), (∀ w ∈ ws, w < 2 ^ 64) → fnum (flds 64 ws) = val (words8 ws) := by
 intro ws
 induction ws with
 | nil => intro _; rfl
 | cons w ws ih =>
  intro h
  have hw := h w (by simp)
  have e : val (words8 (w :: ws)) = val (w8 w) * 256 ^ (words8 ws).length + val (words8 ws) := val_append _ _
  have e2 : val (w8 w) = w := by
   unfold w8
   simp only [val, List.foldl_cons, List.foldl_nil]
   omega
  rw [e, e2, ← ih (fun x hx => h x (by simp [hx])), words8_len, pow_256]
  show w % 2 ^ 64 * 2 ^ flen (flds 64 ws) + fnum (flds 64 ws) = _
  rw [Nat.mod_eq_of_lt hw, flds_len, ← Nat.mul_assoc]
theorem words8_packW {ws : List Nat} (h : ∀ w ∈ ws, w < 2 ^ 64) : packW 64 ws = words8 ws := by
 refine (packW_one (free := 0) (words8_256 ws) (by omega) ?_ ?_).symm
 ·rw [flds_len, words8_len]
  omega
 ·rw [Nat.pow_zero, Nat.mul_one, flds64_num ws h]
theorem last_take {us : List Nat} {i x : Nat} (h : us[i]? = some x) : (us.take (i + 1)).getLast?.getD 0 = x := by
 rw [take_succ_of h, List.getLast?_concat]
 rfl
theorem of_fits' {x : Int} (h : Fits x) : FitI x := by
 have h1 := h.1; have h2 := h.2
 have hh : (H63 : Int) = 9223372036854775808 := rfl
 exact ⟨by omega, by omega⟩
theorem NewRow.own {w w1 : World} {v : Value} {bs : List Nat} (h : NewRow w w1 v bs.length (cells8 bs)) : Own w.heap.size w1 5 v (cells8 bs) := by
 obtain ⟨h1, _, h3⟩ := h
 unfold Own
 rw [cells8_length]
 refine ⟨h1.1, ?_⟩
 rcases h1.2 with hn | ⟨g, cap, cur, rfl, _, rest⟩
 ·exact .inl hn
 ·refine .inr ⟨g, cap, cur, rfl, ?_, rest⟩
  rcases h3 with h3 | ⟨r, h3, hr⟩
  ·simp [Value.ownBlock] at h3
  ·have : g = r := by simpa [Value.ownBlock] using h3
   omega
/-- The first i differences. -/
def StepTo (w wr : World) (us : List Nat) (i : Nat) (v : Value) (last : Nat) : Prop :=
 Own w.heap.size wr 26 v (cellsU (stepsU 0 (us.take i))) ∧ last = (us.take i).getLast?.getD 0 ∧ last < 2 ^ 64 ∧ Mod (fun _ => False) w wr
theorem StepTo.step {w wr w2 : World} {us : List Nat} {i x last : Nat} {v v2 : Value} {z : Int} (h : StepTo w wr us i v last) (hx : us[i]? = some x) (hx64 : x < 2 ^ 64) (hz : z = zig (sg ((x + M64 - last) % M64)))
  (ho : Own w.heap.size w2 26 v2 (cellsU (stepsU 0 (us.take i)) ++ [.int .u64 z])) (hb : Below w.heap.size wr w2) : StepTo w w2 us (i + 1) v2 x := by
 obtain ⟨_, h2, _, h4⟩ := h
 refine ⟨?_, (last_take hx).symm, hx64, h4.trans (Mod.of_below hb) (fun i hi h => by omega)⟩
 rw [take_succ_of hx, stepsU_snoc, ← h2, cellsU_snoc, stepU_int, ← hz]
 exact ho
theorem EncB.of_some {w w' : World} {o : Option (List Nat)} {bs : List Nat} {v : Value} (ho : o = some bs) (h : Own w.heap.size w' 5 v (cells8 bs)) (hm : Mod (fun _ => False) w w') : EncB w w' o (.returned (.tuple #[v, .bool true])) := by
 rw [ho]
 exact ⟨v, rfl, h, hm⟩
theorem EncB.of_none {w w' : World} {o : Option (List Nat)} (ho : o = none) (hm : Mod (fun _ => False) w w') : EncB w w' o (.returned (.tuple #[.slice none 0 0, .bool false])) := by
 rw [ho]
 exact ⟨rfl, hm⟩
set_option maxHeartbeats 2000000 in
set_option maxRecDepth 100000 in
theorem psimple_any (A : Option Addr) (n cap : Nat) (us : List Nat) (w : World) (hs : Rds w w.heap.size A n (cellsU us)) (hu : ∀ x ∈ us, x < 2 ^ 64) (hn : n ≤ 1000000) (hk : Kin w) :
  Calls Tryz.prog 59 #[.slice A n cap] w fun e w' => EncB w w' ((encS (stepsU 0 us)).map words8) e := by
 have hul : us.length = n := by have := hs.1; rwa [cellsU_length] at this
 have Hs := Lib.hid hs; have Hu := Lib.hid hu; have Hul := Lib.hid hul; have Hk := Lib.hid hk
 have H0 : Hid (StepTo w w us 0 (.slice none 0 0) 0) := Lib.hid ⟨Own.nil _ _ _, rfl, by decide, Mod.refl _ _⟩
 clear hs hu hul hk
 go_enter Tryz.func59, Tryz.ntmps59
 go_wp2_with fail
 go_loopg [4, 5, 15] n (fun l s4 s5 s15 wr => ∃ i last : Nat, i + l = n ∧ s15 = .int .i64 (i : Int) ∧ s5 = .int .u64 (last : Int) ∧ StepTo w wr us i s4 last)
 case atStart => exact ⟨0, 0, by omega, rfl, rfl, H0.out⟩
 case round =>
  obtain ⟨i, last, hil, rfl, rfl, hP⟩ := hrel
  have Hil := Lib.hid hil; have HP := Lib.hid hP
  clear hil hP H0
  by_cases hin : i < n
  ·obtain ⟨ad, x, rfl, hx, hcx⟩ := Hs.out.at2 hin (Nat.le_refl _) HP.out.2.2.2 (fun _ _ h => h)
   have hx64 := Hu.out x (List.mem_of_getElem? hx)
   have hl64 := HP.out.2.2.1
   obtain ⟨y, hy⟩ : ∃ y, y = (x + M64 - last) % M64 := ⟨_, rfl⟩
   have hyl : y < M64 := by rw [hy]; exact Nat.mod_lt _ (by decide)
   have hw1 : IntKind.u64.wrap ((x : Int) - (last : Int)) = (y : Int) := by
    rw [IntKind.wrap_u64, hy]
    show _ = (((x + 18446744073709551616 - last) % 18446744073709551616 : Nat) : Int)
    omega
   have hw2 : wrap64 (y : Int) = sg y := by rw [wrap_sg, un_nat hyl]
   have hfi : FitI (sg y) := of_fits' (sg_fits hyl)
   obtain ⟨d, hd⟩ : ∃ d, d = sg y := ⟨_, rfl⟩
   rw [← hd] at hw2 hfi
   obtain ⟨z, hz⟩ : ∃ z, z = zig d := ⟨_, rfl⟩
   have HX : Hid (us[i]? = some x ∧ x < 2 ^ 64 ∧ z = zig (sg ((x + M64 - last) % M64))) := Lib.hid ⟨hx, hx64, by rw [hz, hd, hy]⟩
   have Hfi := Lib.hid hfi; have Hz := Lib.hid hz
   have hlen : (cellsU (stepsU 0 (us.take i))).length ≤ 1000000 := by rw [cellsU_length, stepsU_len, List.length_take]; omega
   have HR : Hid ((cellsU (stepsU 0 (us.take i))).length + 1 ≤ maxLen ∧ ((cellsU (stepsU 0 (us.take i))).length + 1) * 8 ≤ 140737488355328) := Lib.hid ⟨by unfold maxLen; omega, by omega⟩
   have hsz := HP.out.2.2.2.size
   clear hx hx64 hl64 hy hyl hfi hd hz hlen
   go_wp2_with fail
   refine (zig_any d wr Hfi.out).mono ?_
   rintro e w1 ⟨rfl, rfl⟩
   rw [← Hz.out]
   clear hw1 hw2
   go_wp2_with (at_builtin; refine wpList_app1 rfl (.tmp 19) (.tmp 25) _ rfl eltU rfl HP.out.1 rfl rfl rfl HR.out.1 HR.out.2 hsz ?_; intro v2 w2 HO HB)
   have HP2 : Hid (StepTo w w2 us (i + 1) v2 x) := Lib.hid (HP.out.step HX.out.1 HX.out.2.1 HX.out.2.2 HO.out HB.out)
   go_roundg (gk - 1)
   case measure => have := Hil.out; omega
   case rel => exact ⟨i + 1, x, by have := Hil.out; omega, by go_num, rfl, HP2.out⟩
  ·have hi : i = n := by have := Hil.out; omega
   obtain ⟨hown, _, _, hm⟩ := HP.out
   rw [List.take_of_length_le (by have := Hul.out; omega)] at hown
   obtain ⟨L, hL⟩ : ∃ L, (stepsU 0 us).length = L := ⟨_, rfl⟩
   obtain ⟨A1, L', c1, rfl, HL', hLc, hr1⟩ := own_formUN hown
   have hLL : L' = L := by have := HL'.out; omega
   subst hLL
   have hLn : L' = n := by rw [← hL, stepsU_len]; exact Hul.out
   have Hr1 := Lib.hid hr1; have Hm := Lib.hid hm; have Hkr := Lib.hid (Hk.out.mod hm (fun h => h))
   have Hst : Hid (∀ x ∈ stepsU 0 us, x < 2 ^ 64) := Lib.hid (stepsU_lt us 0)
   have HLn := Lib.hid hLn; have HLc := Lib.hid hLc
   have hLs : L' ≤ 1000000 := by omega
   clear hi hown hr1 hm hL hLn HP Hs Hu
   go_wp2_with fail
   refine (enc_any A1 L' c1 wr.heap.size (stepsU 0 us) wr Hr1.out (Nat.le_refl _) Hst.out hLs HLc.out Hkr.out).mono ?_
   intro e w1 he
   cases ho : encS (stepsU 0 us) with
   | none =>
    obtain ⟨rfl, hm1⟩ := EncE.none_ he ho
    have Ho := Lib.hid ho
    have Hm1 := Lib.hid (Hm.out.trans hm1 (fun _ _ h => h))
    clear he ho hm1
    go_wp2_with fail
    go_ret2
    exact EncB.of_none (by rw [Ho.out]; rfl) Hm1.out
   | some ws =>
    obtain ⟨v1, rfl, how, hm1⟩ := EncE.some_ he ho
    obtain ⟨hwl, hw64⟩ := encS_len _ _ _ rfl ho
    obtain ⟨A2, L2, c2, rfl, HL2, hc2, hr2⟩ := own_formUN how
    have hL2 : L2 ≤ n := by rw [stepsU_len, Hul.out] at hwl; have := HL2.out; omega
    have Hm1 := Lib.hid (Hm.out.trans hm1 (fun _ _ h => h))
    have Ho := Lib.hid ho
    have Hr2 := Lib.hid hr2; have Hw64 := Lib.hid hw64; have HL2n := Lib.hid hL2
    clear he ho hm1 how hwl hw64 hr2 hL2 hc2 Hm Hr1 Hst Hkr
    go_wp2_with fail
    refine (newWriter_wr w1).mono ?_
    rintro e w2 ⟨g, rfl, hg1, hg2, hwr, hm2⟩
    have Hg1 := Lib.hid hg1; have Hm2 := Lib.hid hm2
    have F0 : Hid (FldTo w1 w2 w2 g 64 ws 0) := Lib.hid ⟨Wrote.refl hwr, hm2⟩
    clear hg1 hg2 hwr hm2
    go_wp2_with fail
    go_loopg [39] L2 (fun l s39 wq => ∃ i : Nat, i + l = L2 ∧ s39 = .int .i64 (i : Int) ∧ FldTo w1 w2 wq g 64 ws i)
    case atStart => exact ⟨0, by omega, rfl, F0.out⟩
    case round =>
     obtain ⟨j, hjl, rfl, hF⟩ := hrel
     have HF := Lib.hid hF; have Hjl := Lib.hid hjl
     clear hF hjl F0
     by_cases hjn : j < L2
     ·obtain ⟨ad, x, rfl, hx, hcx⟩ := Hr2.out.at2 hjn (Nat.le_refl _) HF.out.2 (fun _ _ h => h)
      have hx64 : Hid (Lt64 x) := Lib.hid (by have := Hw64.out x (List.mem_of_getElem? hx); unfold Lt64; omega)
      have Hx := Lib.hid hx
      have hjb : j ≤ 1000000 := by have := HL2n.out; omega
      clear hx
      go_wp2_with fail
      refine (put_wrote w2 g none 0 0 64 _ x _ _ wr rfl rfl (by decide) hx64.out HF.out.1 (by have := flds_small (i := j) (S := 64) (l := ws) (by decide) (Nat.le_of_eq HL2.out) (by have := HL2n.out; omega); omega)).mono ?_
      rintro e w3 ⟨rfl, h3⟩
      have HF2 : Hid (FldTo w1 w2 w3 g 64 ws (j + 1)) := Lib.hid (HF.out.step Hx.out Hg1.out Hm2.out h3)
      clear h3
      go_wp2_with fail
      go_roundg (gk - 1)
      case measure => have := Hjl.out; omega
      case rel => exact ⟨j + 1, by have := Hjl.out; omega, by go_num, HF2.out⟩
     ·have hj : j = L2 := by have := Hjl.out; omega
      obtain ⟨row, hwr⟩ := HF.out.wr HL2.out hj
      have Hwr := Lib.hid hwr; have Hmr := Lib.hid HF.out.2
      clear hwr HF hj
      go_wp2_with fail
      refine (bytes_any g row _ _ _ Hwr.out (by have := flds_small (i := L2) (S := 64) (l := ws) (by decide) (Nat.le_of_eq HL2.out) (by have := HL2n.out; omega); rw [List.take_of_length_le (by rw [HL2.out]; exact Nat.le_refl _)] at this; omega)).mono ?_
      rintro e w4 ⟨v4, bs, rfl, hnew, hpk⟩
      obtain rfl := hpk.packW
      rw [words8_packW Hw64.out] at hnew
      have Ho4 := Lib.hid hnew.own
      have Hm4 := Lib.hid (Hm1.out.trans (Hmr.out.trans hnew.2.1 (fun _ _ h => h)) (fun _ _ h => h))
      have Hszr := Lib.hid (Nat.le_trans Hm1.out.size Hmr.out.size)
      clear hnew hpk
      go_wp2_with fail
      go_ret2
      exact EncB.of_some (by rw [Ho.out]; rfl) (Ho4.out.mono Hszr.out) Hm4.out

theorem all_head {us : List Nat} {x : Nat} (h0 : us[0]? = some x) : us.getD 0 0 = x := by rw [List.getD_eq_getElem?_getD, h0]; rfl
def toldSame (v : List Nat) : Option (List Nat) := if v = [] then some [] else if v.all (fun x => x == v.getD 0 0) then some (enc (v.getD 0 0)) else none
theorem toldSame_some {us : List Nat} {x : Nat} (h0 : us[0]? = some x) (h : ∀ j y : Nat, us[j]? = some y → y = x) : toldSame us = some (enc x) := by
 have hne : us ≠ [] := by rintro rfl; simp at h0
 unfold toldSame
 rw [if_neg hne, all_head h0, if_pos]
 rw [List.all_eq_true]
 intro y hy
 obtain ⟨j, hj, rfl⟩ := List.mem_iff_getElem.1 hy
 have := h j _ (List.getElem?_eq_getElem hj)
 simp [this]
theorem toldSame_none {us : List Nat} {x y : Nat} {j : Nat} (h0 : us[0]? = some x) (h : us[j]? = some y) (hne : ¬ y = x) : toldSame us = none := by
 have hn : us ≠ [] := by rintro rfl; simp at h0
 unfold toldSame
 rw [if_neg hn, all_head h0, if_neg]
 intro ha
 have := List.all_eq_true.1 ha y (List.mem_of_getElem? h)
 simp at this
 exact hne this
set_option maxHeartbeats 1000000 in
set_option maxRecDepth 100000 in
theorem psame_any (A : Option Addr) (n cap : Nat) (us : List Nat) (w : World) (hs : Rds w w.heap.size A n (cellsU us)) (hu : ∀ x ∈ us, x < 2 ^ 64) (hn : n ≤ 1000000) :
  Calls Tryz.prog 63 #[.slice A n cap] w fun e w' => EncB w w' (toldSame us) e := by
 have hul : us.length = n := by have := hs.1; rwa [cellsU_length] at this
 by_cases h0 : n = 0
 ·subst h0
  obtain rfl := List.eq_nil_of_length_eq_zero hul
  clear hs
  go_enter Tryz.func63, Tryz.ntmps63
  go_wp2_with fail
  go_ret2
  exact EncB.of_some rfl (Own.nil _ _ _) (Mod.refl _ _)
 ·have hn0 : ((n : Int) == 0) = false := by simp; omega
  obtain ⟨ad, x, rfl, hx, hcx⟩ := hs.at2 (show 0 < n by omega) (Nat.le_refl _) (Mod.refl (fun _ => False) w) (fun _ _ h => h)
  have hcx0 : w.cell? ad = some (.int .u64 (x : Int)) := by rw [← add_zero' ad]; exact hcx
  have hx64 : Lt64 x := by have := hu x (List.mem_of_getElem? hx); unfold Lt64; omega
  have hnp : (0 : Int) < (n : Int) := by omega
  have Hs := Lib.hid hs; have Hul := Lib.hid hul; have Hx := Lib.hid hx; have Hx64 := Lib.hid hx64
  clear hs hu hul hx hx64 hcx h0
  go_enter Tryz.func63, Tryz.ntmps63
  go_wp2_with fail
  go_loopg [11] n (fun l s11 wr => ∃ i : Nat, i + l = n ∧ s11 = .int .i64 (i : Int) ∧ wr = w ∧ ∀ j y : Nat, j < i → us[j]? = some y → y = x)
  case atStart => exact ⟨0, by omega, rfl, rfl, fun j y h => by omega⟩
  case round =>
   obtain ⟨i, hil, rfl, rfl, hall⟩ := hrel
   have Hil := Lib.hid hil; have Hall := Lib.hid hall
   clear hil hall
   by_cases hin : i < n
   ·obtain ⟨ad', y, hA, hy, hcy⟩ := Hs.out.at2 hin (Nat.le_refl _) (Mod.refl (fun _ => False) wr) (fun _ _ h => h)
    injection hA with hA
    subst hA
    have Hy := Lib.hid hy
    clear hy
    by_cases hyx : y = x
    ·subst hyx
     go_wp2_with fail
     go_roundg (gk - 1)
     case measure => have := Hil.out; omega
     case rel => exact ⟨i + 1, by have := Hil.out; omega, by go_num, rfl, fun j z hj hz => by
      rcases Nat.lt_or_ge j i with h | h
      ·exact Hall.out j z h hz
      ·obtain rfl : j = i := by omega
       rw [Hy.out] at hz
       injection hz with hz
       exact hz.symm⟩
    ·have hyb : ((y : Int) == (x : Int)) = false := by simp; omega
     have hyb2 : ((y : Int) != (x : Int)) = true := by simp; omega
     have Hno : Hid (toldSame us = none) := Lib.hid (toldSame_none Hx.out Hy.out hyx)
     clear hyx
     go_wp2_with fail
     go_ret2
     exact EncB.of_none Hno.out (Mod.refl _ _)
   ·have hi : i = n := by have := Hil.out; omega
    have Hyes : Hid (toldSame us = some (enc x)) := Lib.hid (toldSame_some Hx.out (fun j y hy => Hall.out j y (by have := (List.getElem?_eq_some_iff.1 hy).1; have := Hul.out; omega) hy))
    clear hi
    go_wp2_with fail
    refine (vput_any none 0 0 0 [] x wr (Rds.nil _ _ _) (by omega) Hx64.out).mono ?_
    rintro e w4 ⟨v4, rfl, ho4, hb4⟩
    rw [List.nil_append] at ho4
    have Ho4 := Lib.hid ho4; have Hb4 := Lib.hid hb4
    clear ho4 hb4
    go_wp2_with fail
    go_ret2
    exact EncB.of_some Hyes.out Ho4.out (mod_below Hb4.out)
end Go.Proofs.YtmeilddngohccaaGreatDoor

/- Values told in a codec: putValues. -/
namespace Go.Proofs.YtmeilddngohccaaGreatDoor
open Go.RowKit

theorem EncB.of_own {w w' : World} {bs : List Nat} {v : Value} (h : Own w.heap.size w' 5 v (cells8 bs)) (hm : Mod (fun _ => False) w w') : EncB w w' (some bs) (.returned (.tuple #[v, .bool true])) := ⟨v, rfl, h, hm⟩
theorem EncB.parts {w w' : World} {o : Option (List Nat)} {e : Ending} (h : EncB w w' o e) : ∃ v, e = .returned (.tuple #[v, .bool o.isSome]) ∧ EncB w w' o (.returned (.tuple #[v, .bool o.isSome])) := by
 cases o with
 | none => obtain ⟨rfl, hm⟩ := h; exact ⟨_, rfl, rfl, hm⟩
 | some bs => obtain ⟨v, rfl, h1, h2⟩ := h; exact ⟨v, rfl, v, rfl, h1, h2⟩
theorem toldK_other {tag : Int} {us : List Nat} (h1 : tag ≠ 1) (h2 : tag ≠ 2) (h3 : tag ≠ 3) (h4 : tag ≠ 4) (h5 : tag ≠ 5) (h6 : tag ≠ 6) : toldK tag us = none := by
 unfold toldK
 rw [if_neg h1, if_neg h2, if_neg h3, if_neg h4, if_neg h5, if_neg h6]
set_option maxHeartbeats 1000000 in
set_option maxRecDepth 100000 in
theorem pvalues_any (tag : Int) (A : Option Addr) (n cap : Nat) (us : List Nat) (w : World) (hs : Rds w w.heap.size A n (cellsU us)) (hu : ∀ x ∈ us, x < 2 ^ 64) (hn : n ≤ 1000000) (hcap : n ≤ cap) (hk : Kin w) (hd : Deb w) :
  Calls Tryz.prog 36 #[.int .i64 tag, .slice A n cap] w fun e w' => EncB w w' (toldK tag us) e := by
 by_cases h1 : tag = 1
 ·subst h1
  have Hs := Lib.hid hs; have Hu := Lib.hid hu; have Hd := Lib.hid hd
  clear hs hu hd hk
  go_enter Tryz.func36, Tryz.ntmps36
  go_wp2_with fail
  refine (newWriter_wr w).mono ?_
  rintro e w1 ⟨g, rfl, hg1, hg2, hwr, hm1⟩
  have Hs1 := Lib.hid (Hs.out.mod hm1 (Nat.le_refl _) (fun _ _ h => h))
  have Hap : Hid (0 < n → ∀ ad, A = some ad → ¬ (ad.block = g ∨ none = some ad.block)) := Lib.hid (fun h0 ad hA h => by
   obtain ⟨ad', hA', hb, _⟩ := Hs.out.2 h0
   rw [hA] at hA'
   injection hA' with hA'
   subst hA'
   rcases h with h | h
   ·omega
   ·cases h)
  have Hd1 := Lib.hid (Hd.out.mod hm1 (fun h => h))
  have hg0 : g ≠ 2 := by have := Hd.out.1; omega
  have Hg := Lib.hid hg1; have Hm1 := Lib.hid hm1; have Hwr := Lib.hid hwr; have Hg0 := Lib.hid hg0
  have hul : us.length = n := by have := Hs.out.1; rwa [cellsU_length] at this
  have Hul := Lib.hid hul
  clear hg1 hg2 hwr hm1 hg0 hul
  go_wp2_with fail
  refine (xenc_any w.heap.size g none 0 0 n cap A us w1 Hs1.out Hu.out Hm1.out.size Hap.out Hg0.out (by intro h; cases h) Hwr.out Hd1.out (by omega)).mono ?_
  rintro e w2 ⟨rfl, h2⟩
  obtain ⟨row, hwr2, hm2⟩ := h2.done Hg.out Hm1.out
  have hfl := encVals_len us
  rw [Hul.out] at hfl
  have Hwr2 := Lib.hid hwr2; have Hm2 := Lib.hid hm2; have Hfl := Lib.hid hfl
  clear h2 hwr2 hm2 hfl Hs1 Hd1 Hwr
  go_wp2_with fail
  refine (bytes_any g row _ _ w2 Hwr2.out (by have := Hfl.out; omega)).mono ?_
  rintro e w3 ⟨v3, bs, rfl, hnew, hpk⟩
  obtain rfl := hpk.packF
  have Ho3 := Lib.hid (hnew.own.mono Hm2.out.size); have Hm3 := Lib.hid (Hm2.out.trans hnew.2.1 (fun _ _ h => h))
  clear hnew hpk
  go_wp2_with fail
  go_ret2
  exact EncB.of_own Ho3.out Hm3.out
 by_cases h2 : tag = 2
 ·subst h2
  have hcall := psimple_any A n cap us w hs hu hn hk
  obtain ⟨o, ho⟩ : ∃ o, o = (encS (stepsU 0 us)).map words8 := ⟨_, rfl⟩
  rw [← ho] at hcall
  have Ho : Hid (toldK 2 us = o) := Lib.hid ho.symm
  clear ho
  have Hcall := Lib.hid hcall
  clear hs hu hd hk hcall
  go_enter Tryz.func36, Tryz.ntmps36
  go_wp2_with fail
  refine Hcall.out.mono ?_
  intro e w1 he
  obtain ⟨v, rfl, he⟩ := he.parts
  have He := Lib.hid he
  clear he
  go_wp2_with fail
  go_ret2
  rw [Ho.out]
  exact He.out
 by_cases h3 : tag = 3
 ·subst h3
  have hcall := lenc_any A n cap w.heap.size us w hs (Nat.le_refl _) hu hn hcap
  have Hcall := Lib.hid hcall
  clear hs hu hd hk hcall
  go_enter Tryz.func36, Tryz.ntmps36
  go_wp2_with fail
  refine Hcall.out.mono ?_
  rintro e w1 ⟨v, rfl, ho, hm⟩
  have Ho := Lib.hid ho; have Hm := Lib.hid hm
  clear ho hm
  go_wp2_with fail
  go_ret2
  exact EncB.of_own Ho.out Hm.out
 by_cases h4 : tag = 4
 ·subst h4
  have hcall := penc_any A n cap w.heap.size us w hs (Nat.le_refl _) hu hn
  have Hcall := Lib.hid hcall
  clear hs hu hd hk hcall
  go_enter Tryz.func36, Tryz.ntmps36
  go_wp2_with fail
  refine Hcall.out.mono ?_
  rintro e w1 ⟨v, rfl, ho, hm⟩
  have Ho := Lib.hid ho; have Hm := Lib.hid hm
  clear ho hm
  go_wp2_with fail
  go_ret2
  exact EncB.of_own Ho.out Hm.out
 by_cases h5 : tag = 5
 ·subst h5
  have hcall := denc_any A n cap w.heap.size us w hs (Nat.le_refl _) hu hn
  have Hcall := Lib.hid hcall
  clear hs hu hd hk hcall
  go_enter Tryz.func36, Tryz.ntmps36
  go_wp2_with fail
  refine Hcall.out.mono ?_
  intro e w1 he
  obtain ⟨v, rfl, he⟩ := he.parts
  have He := Lib.hid he
  clear he
  go_wp2_with fail
  go_ret2
  exact He.out
 by_cases h6 : tag = 6
 ·subst h6
  have hcall := psame_any A n cap us w hs hu hn
  have Hcall := Lib.hid hcall
  clear hs hu hd hk hcall
  go_enter Tryz.func36, Tryz.ntmps36
  go_wp2_with fail
  refine Hcall.out.mono ?_
  intro e w1 he
  obtain ⟨v, rfl, he⟩ := he.parts
  have He := Lib.hid he
  clear he
  go_wp2_with fail
  go_ret2
  exact He.out
 have b1 : (tag == 1) = false := by simp [h1]
 have b2 : (tag == 2) = false := by simp [h2]
 have b3 : (tag == 3) = false := by simp [h3]
 have b4 : (tag == 4) = false := by simp [h4]
 have b5 : (tag == 5) = false := by simp [h5]
 have b6 : (tag == 6) = false := by simp [h6]
 have Hno : Hid (toldK tag us = none) := Lib.hid (toldK_other h1 h2 h3 h4 h5 h6)
 clear hs hu hd hk h1 h2 h3 h4 h5 h6
 go_enter Tryz.func36, Tryz.ntmps36
 go_wp2_with fail
 go_ret2
 rw [Hno.out]
 exact ⟨rfl, Mod.refl _ _⟩
end Go.Proofs.YtmeilddngohccaaGreatDoor

/- A row of samples told in a codec: Encode. -/
namespace Go.Proofs.YtmeilddngohccaaGreatDoor
open Go.RowKit

/-- The tables that lie in memory. -/
structure Tabs (w : World) : Prop where
 wid : Wid w
 deb : Deb w
 kin : Kin w
theorem Tabs.mod {w w' : World} (h : Tabs w) (hm : Mod (fun _ => False) w w') : Tabs w' := ⟨h.wid.mod hm (fun h => h), h.deb.mod hm (fun h => h), h.kin.mod hm (fun h => h)⟩
set_option maxHeartbeats 1000000 in
set_option maxRecDepth 100000 in
theorem kenc_any (tag : Int) (A : Option Addr) (n c : Nat) (l : List (Int × Nat)) (w : World) (hs : RdsS w w.heap.size A n l) (hg : GoodS l) (ht : Tabs w) :
  Calls Tryz.prog 22 #[.int .i64 tag, .slice A n c] w fun e w' => EncB w w' (encK tag l) e := by
 have hl := hs.1
 have hcall := rising_any A n c l w hs
 cases hr : riseB l with
 | false =>
  rw [hr] at hcall
  have Hcall := Lib.hid hcall; have Hno : Hid (encK tag l = none) := Lib.hid (encK_no hr)
  clear hs hg ht hl hcall hr
  go_enter Tryz.func22, Tryz.ntmps22
  go_wp2_with fail
  refine Hcall.out.mono ?_
  rintro e w1 ⟨rfl, hm1⟩
  have Hm1 := Lib.hid hm1
  clear hm1
  go_wp2_with fail
  go_ret2
  exact EncB.of_none Hno.out Hm1.out
 | true =>
  rw [hr] at hcall
  have hn : n ≤ 65535 := by rw [← hl]; exact ((riseB_iff l).1 hr).2
  have Hcall := Lib.hid hcall; have Hs := Lib.hid hs; have Hg := Lib.hid hg; have Ht := Lib.hid ht; have Hr := Lib.hid hr; have Hl := Lib.hid hl
  clear hs hg ht hcall hr hl
  go_enter Tryz.func22, Tryz.ntmps22
  go_wp2_with fail
  refine Hcall.out.mono ?_
  rintro e w1 ⟨rfl, hm1⟩
  have Hs1 := Lib.hid (Hs.out.new hm1).fit; have Hm1 := Lib.hid hm1
  clear hm1 Hs Hcall
  go_wp2_with fail
  refine (parted_any A n c l w1 Hs1.out (by omega)).mono ?_
  rintro e w2 ⟨g1, g2, rfl, hr1, hr2, hg1, hg2, hm2⟩
  have Hr1 := Lib.hid hr1; have Hr2 := Lib.hid hr2
  have Hm2 := Lib.hid (Hm1.out.trans hm2 (fun _ _ h => h))
  have Ht2 := Lib.hid (Ht.out.mod Hm2.out)
  clear hr1 hr2 hg1 hg2 hm2 Hs1 Hm1
  go_wp2_with fail
  refine (pvalues_any tag _ n n (vsOf l) w2 Hr2.out Hg.out.vs (by omega) (Nat.le_refl _) Ht2.out.kin Ht2.out.deb).mono ?_
  intro e w3 he
  cases ho : toldK tag (vsOf l) with
  | none =>
   obtain ⟨rfl, hm3⟩ := EncB.none_ he ho
   have Hm3 := Lib.hid (Hm2.out.trans hm3 (fun _ _ h => h))
   have Hno : Hid (encK tag l = none) := Lib.hid (by unfold encK; rw [Hr.out, if_pos rfl, ho]; rfl)
   clear he ho hm3
   go_wp2_with fail
   go_ret2
   exact EncB.of_none Hno.out Hm3.out
  | some vb =>
   obtain ⟨v3, rfl, ho3, hm3⟩ := EncB.some_ he ho
   have Hyes : Hid (encK tag l = some (enc (tbK l).length ++ (tbK l ++ vb))) := Lib.hid (encK_of Hr.out ho)
   have hvl := toldK_len Hg.out.vs (by rw [vsOf_len, Hl.out]; exact hn) ho
   rw [vsOf_len, Hl.out] at hvl
   obtain ⟨A3, L3, c3, rfl, HL3, _, _, hr3⟩ := own_formN8 ho3
   have hL3 : L3 ≤ 2000000 := by have := HL3.out; omega
   have Hm3 := Lib.hid (Hm2.out.trans hm3 (fun _ _ h => h)); have Hr3 := Lib.hid hr3; have HL3b := Lib.hid hL3
   have Hr13 := Lib.hid (Hr1.out.new hm3).fit; have Hwid3 := Lib.hid ((Ht2.out.mod hm3).wid)
   clear he ho ho3 hm3 hvl hr3 hL3 Hr1 Hr2 Hm2 Ht2
   go_wp2_with fail
   refine (ptimes_any _ n n (tsOf l) w3 Hr13.out Hg.out.ts (by omega) Hwid3.out).mono ?_
   rintro e w4 ⟨v4, rfl, ho4, hm4⟩
   have htl := tbK_len l
   rw [Hl.out] at htl
   have hql := enc_len10 (u := (tbK l).length) (by omega)
   obtain ⟨tb, htb⟩ : ∃ tb, tb = enc (tbK l).length ++ tbK l := ⟨_, rfl⟩
   have hto : Own w3.heap.size w4 5 v4 (cells8 tb) := by rw [htb]; exact ho4
   have htbl : tb.length ≤ 700000 := by rw [htb, List.length_append]; omega
   have Hto := Lib.hid hto; have Htb := Lib.hid htb
   have HR : Hid (Room (cells8 tb).length L3) := Lib.hid (Room.mk _ _ (by rw [cells8_length]; have := HL3b.out; omega))
   have Hone : Hid (∀ u ∈ cells8 vb, u.oneCell' = true) := Lib.hid (cells8_one _)
   have Hm4 := Lib.hid (Hm3.out.trans hm4 (fun _ _ h => h)); have Hr4 := Lib.hid (Hr3.out.new hm4)
   have hsz : w3.heap.size ≤ w4.heap.size := hm4.size
   clear ho4 hm4 htl hql htb hto htbl
   go_wp2_with (at_builtin; refine wpList_app rfl (.tmp 27) (.tmp 28) _ rfl elt8 rfl Hto.out rfl Hr4.out Hone.out HR.out.1 HR.out.2 hsz ?_; intro v5 w5 HO5 HBl5 HG5; clear HG5)
   go_ret2
   have ho5 := HO5.out
   rw [cells8_app, Htb.out, List.append_assoc] at ho5
   exact EncB.of_some Hyes.out (ho5.mono Hm3.out.size) (Hm4.out.trans (Mod.of_below HBl5.out) (fun i hi h => by have := Hm3.out.size; omega))
end Go.Proofs.YtmeilddngohccaaGreatDoor

/- Bytes are read as values by their list: read, Decode. -/
namespace Go.Proofs.YtmeilddngohccaaGreatDoor
open Go.RowKit Go.Maps

end Go.Proofs.YtmeilddngohccaaGreatDoor

/- Bytes are read as values by their least: read, Decode. -/
namespace Go.Proofs.YtmeilddngohccaaGreatDoor
open Go.RowKit

/-- What the numbers that were read are. -/
def addL (lo : Nat) (l : List Nat) : List Nat := l.map fun x => (x + lo) % 2 ^ 64
theorem addL_len (lo : Nat) (l : List Nat) : (addL lo l).length = l.length := by simp [addL]
theorem addL_snoc (lo : Nat) (l : List Nat) (x : Nat) : addL lo (l ++ [x]) = addL lo l ++ [(x + lo) % 2 ^ 64] := by simp [addL]
theorem addL_lt (lo : Nat) (l : List Nat) : ∀ x ∈ addL lo l, x < 2 ^ 64 := by
 intro x hx
 obtain ⟨y, _, rfl⟩ := List.mem_map.1 hx
 exact Nat.mod_lt _ (Nat.two_pow_pos 64)
end Go.Proofs.YtmeilddngohccaaGreatDoor

/- Values read in each codec: getSimple, getSame, getValues. -/
namespace Go.Proofs.YtmeilddngohccaaGreatDoor
open Go.RowKit

theorem encS_lt (n : Nat) : ∀ (u ws : List Nat), u.length = n → encS u = some ws → ∀ x ∈ u, x < 2 ^ 64 := by
 induction n using Nat.strongRecOn with
 | ind n ih =>
  intro u ws hn he x hx
  by_cases hu : u = []
  ·subst hu
   cases hx
  ·rw [encS_step hu] at he
   by_cases hk : kindOf u = 16
   ·rw [if_pos hk] at he; cases he
   ·rw [if_neg hk] at he
    have hk16 : kindOf u < 16 := by have := kindS_le u; omega
    obtain ⟨vs, h1, _⟩ := Option.map_eq_some_iff.1 he
    have hf := fitsK_all (kind_fits hk16)
    rw [← List.take_append_drop (numN (kindOf u)) u] at hx
    rcases List.mem_append.1 hx with h | h
    ·have hb : bitN (kindOf u) ≤ 60 := by
      have h3 := (num_pos hk16).2.2.1
      have h4 := (num_pos hk16).1
      have h5 := Nat.mul_le_mul_right (bitN (kindOf u)) h4
      omega
     have h6 := hf x h
     have h7 : 2 ^ bitN (kindOf u) ≤ 2 ^ 60 := Nat.pow_le_pow_right (by omega) hb
     omega
    ·have hd := drop_less hu hk
     exact ih _ (by omega) _ vs rfl h1 x h
theorem decS_lt {N : Nat} {ws u : List Nat} (h : decS N ws = some u) : ∀ x ∈ u, x < 2 ^ 64 := encS_lt _ u ws rfl (decS_some h).2
theorem unw8_few {bs : List Nat} (h : bs.length < 8) : unw8 bs = [] := by
 match bs, h with
 | [], _ => rfl
 | [_], _ => rfl
 | [_, _], _ => rfl
 | [_, _, _], _ => rfl
 | [_, _, _, _], _ => rfl
 | [_, _, _, _, _], _ => rfl
 | [_, _, _, _, _, _], _ => rfl
 | [_, _, _, _, _, _, _], _ => rfl
 | _ :: _ :: _ :: _ :: _ :: _ :: _ :: _ :: r, h => simp at h; omega
/-- Differences turned into values, as far as i. -/
def BackTo (w wr : World) (us : List Nat) (A : Option Addr) (L c i last : Nat) : Prop :=
 Own w.heap.size wr 26 (.slice A L c) (cellsU (unstepsU 0 (us.take i) ++ us.drop i)) ∧ last = (unstepsU 0 (us.take i)).getLast?.getD 0 ∧ last < 2 ^ 64 ∧ Mod (fun _ => False) w wr
theorem BackTo.step {w wr : World} {us : List Nat} {A : Option Addr} {L c i last u : Nat} (h : BackTo w wr us A L c i last) (hL : us.length = L) (hi : i < L) (hu : us[i]? = some u) :
  ∃ g, A = some ⟨g, 0, none⟩ ∧ w.heap.size ≤ g ∧ wr.cell? ⟨g, i, none⟩ = some (.int .u64 (u : Int)) ∧ wr.frozen? ⟨g, i, none⟩ = false ∧ BackTo w (wr.setCell ⟨g, i, none⟩ (.int .u64 (backU last u : Int))) us A L c (i + 1) (backU last u) := by
 obtain ⟨h1, h2, h3, h4⟩ := h
 have hlen : (unstepsU 0 (us.take i) ++ us.drop i).length = L := by rw [List.length_append, unstepsU_len, List.length_take, List.length_drop]; omega
 obtain ⟨g, cap, hv, hgB, _⟩ := h1.form' (by rw [cellsU_length, hlen]; omega)
 have hA : A = some ⟨g, 0, none⟩ := by injection hv
 subst hA
 have ht : (us.take i).length = i := by rw [List.length_take]; omega
 obtain ⟨a1, a2, a3⟩ := own_setU (k := i) (b := backU last u) h1 hlen.symm hi
 have hc := h1.cell' rfl i (by rw [cellsU_length, hlen]; exact hi)
 have hget : (unstepsU 0 (us.take i) ++ us.drop i)[i]? = some u := by
  rw [List.getElem?_append_right (by rw [unstepsU_len]; omega), unstepsU_len, ht, Nat.sub_self, List.getElem?_drop, Nat.add_zero]
  exact hu
 refine ⟨g, rfl, hgB, ?_, a2, ?_, ?_, backU_lt _ _, mod_new h4 hgB _⟩
 ·rw [hc, cellsU_get, hget]
  rfl
 ·have e : (unstepsU 0 (us.take i) ++ us.drop i).set i (backU last u) = unstepsU 0 (us.take (i + 1)) ++ us.drop (i + 1) := by
   rw [List.set_append_right _ _ (by rw [unstepsU_len]; omega), unstepsU_len, ht, Nat.sub_self, drop_at' hu, List.set_cons_zero, take_succ_of hu, unstepsU_snoc, ← h2, List.append_assoc]
   rfl
  rw [e] at a3
  exact a3
 ·rw [take_succ_of hu, unstepsU_snoc, ← h2, List.getLast?_concat]
  rfl
theorem EncE.of_own {w w' : World} {us : List Nat} {v : Value} (h : Own w.heap.size w' 26 v (cellsU us)) (hm : Mod (fun _ => False) w w') : EncE w w' (some us) (.returned (.tuple #[v, .bool true])) := ⟨v, rfl, h, hm⟩
theorem EncE.parts {w w' : World} {o : Option (List Nat)} {e : Ending} (h : EncE w w' o e) : ∃ v, e = .returned (.tuple #[v, .bool o.isSome]) ∧ EncE w w' o (.returned (.tuple #[v, .bool o.isSome])) := by
 cases o with
 | none => obtain ⟨rfl, hm⟩ := h; exact ⟨_, rfl, rfl, hm⟩
 | some bs => obtain ⟨v, rfl, h1, h2⟩ := h; exact ⟨v, rfl, v, rfl, h1, h2⟩
end Go.Proofs.YtmeilddngohccaaGreatDoor

/- Values read in a codec: getSame, getValues. -/
namespace Go.Proofs.YtmeilddngohccaaGreatDoor
open Go.RowKit

def readSame (N : Nat) (b : List Nat) : Option (List Nat) := if N = 0 then some [] else if (dec b).2 = 0 then none else some (List.replicate N (dec b).1)
theorem readK_other {tag : Int} {N : Nat} {bs : List Nat} (h1 : tag ≠ 1) (h2 : tag ≠ 2) (h3 : tag ≠ 3) (h4 : tag ≠ 4) (h5 : tag ≠ 5) (h6 : tag ≠ 6) : readK tag N bs = none := by
 unfold readK
 rw [if_neg h1, if_neg h2, if_neg h3, if_neg h4, if_neg h5, if_neg h6]
end Go.Proofs.YtmeilddngohccaaGreatDoor

/- A row of samples read in a codec: read, Decode. -/
namespace Go.Proofs.YtmeilddngohccaaGreatDoor
open Go.RowKit

def readSm (tag : Int) (N : Nat) (bs : List Nat) : Option (List (Int × Nat)) :=
 match timesOf N bs with
 | none => none
 | some (ts, rest) => (readK tag N rest).map fun vs => ts.zip vs
theorem readSm_no {tag : Int} {N : Nat} {bs : List Nat} (h : timesOf N bs = none) : readSm tag N bs = none := by unfold readSm; rw [h]
theorem readSm_at {tag : Int} {N : Nat} {bs : List Nat} {ts : List Int} {rest : List Nat} (h : timesOf N bs = some (ts, rest)) : readSm tag N bs = (readK tag N rest).map fun vs => ts.zip vs := by unfold readSm; rw [h]
theorem readSm_some {tag : Int} {N : Nat} {bs : List Nat} {l : List (Int × Nat)} (hlt : lt256 bs) (h : readSm tag N bs = some l) : l.length = N ∧ GoodS l := by
 cases ht : timesOf N bs with
 | none => rw [readSm_no ht] at h; cases h
 | some p =>
  obtain ⟨ts, rest⟩ := p
  rw [readSm_at ht] at h
  obtain ⟨vs, hv, rfl⟩ := Option.map_eq_some_iff.1 h
  obtain ⟨t1, t2, t3, _⟩ := timesOf_some hlt ht
  obtain ⟨v1, v2⟩ := readK_some t3 hv
  refine ⟨by rw [List.length_zip, t1, v1]; omega, fun p hp => ?_⟩
  obtain ⟨a, b⟩ := p
  have := List.of_mem_zip hp
  exact ⟨t2 a this.1, v2 b this.2⟩
theorem decK_out {tag n : Int} {bs : List Nat} (h : n < 0 ∨ 65535 < n) : decK tag n bs = none := by unfold decK; rw [if_pos h]
theorem decK_via {tag : Int} {N : Nat} {bs : List Nat} (hN : N ≤ 65535) : decK tag (N : Int) bs = match readSm tag N bs with
  | none => none
  | some l => if encK tag l = some bs then some l else none := by
 unfold decK readSm timesOf
 rw [if_neg (by omega), Int.toNat_natCast]
 by_cases hb : (dec bs).2 = 0 ∨ bs.length - (dec bs).2 < (dec bs).1
 ·rw [if_pos hb, if_pos hb]
 ·rw [if_neg hb, if_neg hb]
  cases rdRow N (val ((bs.drop (dec bs).2).take (dec bs).1)) (8 * ((bs.drop (dec bs).2).take (dec bs).1).length) with
  | none => rfl
  | some p =>
   obtain ⟨ts, q⟩ := p
   show (match some (ts, q), readK tag N ((bs.drop (dec bs).2).drop (dec bs).1) with
    | some (ts, _), some vs => if encK tag (ts.zip vs) = some bs then some (ts.zip vs) else none
    | _, _ => none) = (match (readK tag N ((bs.drop (dec bs).2).drop (dec bs).1)).map (fun vs => ts.zip vs) with
    | none => none
    | some l => if encK tag l = some bs then some l else none)
   cases readK tag N ((bs.drop (dec bs).2).drop (dec bs).1) with
   | none => rfl
   | some vs => rfl
/-- A row of samples and true, or nil and false. -/
def EncS (w w' : World) (o : Option (List (Int × Nat))) (e : Ending) : Prop :=
 match o with
 | some l => ∃ v, e = .returned (.tuple #[v, .bool true]) ∧ OwnS w.heap.size w' v l ∧ Mod (fun _ => False) w w'
 | none => e = .returned (.tuple #[.slice none 0 0, .bool false]) ∧ Mod (fun _ => False) w w'
theorem EncS.some_ {w w' : World} {o : Option (List (Int × Nat))} {l : List (Int × Nat)} {e : Ending} (h : EncS w w' o e) (ho : o = some l) : ∃ v, e = .returned (.tuple #[v, .bool true]) ∧ OwnS w.heap.size w' v l ∧ Mod (fun _ => False) w w' := by
 subst ho
 exact h
theorem EncS.none_ {w w' : World} {o : Option (List (Int × Nat))} {e : Ending} (h : EncS w w' o e) (ho : o = none) : e = .returned (.tuple #[.slice none 0 0, .bool false]) ∧ Mod (fun _ => False) w w' := by
 subst ho
 exact h
theorem EncS.of_some {w w' : World} {o : Option (List (Int × Nat))} {l : List (Int × Nat)} {v : Value} (ho : o = some l) (h : OwnS w.heap.size w' v l) (hm : Mod (fun _ => False) w w') : EncS w w' o (.returned (.tuple #[v, .bool true])) := by
 rw [ho]
 exact ⟨v, rfl, h, hm⟩
theorem EncS.of_none {w w' : World} {o : Option (List (Int × Nat))} (ho : o = none) (hm : Mod (fun _ => False) w w') : EncS w w' o (.returned (.tuple #[.slice none 0 0, .bool false])) := by
 rw [ho]
 exact ⟨rfl, hm⟩
/-- As a row and a bool. -/
theorem EncS.any {w w' : World} {o : Option (List (Int × Nat))} {e : Ending} (h : EncS w w' o e) : ∃ (A : Option Addr) (c : Nat), e = .returned (.tuple #[.slice A (o.getD []).length c, .bool o.isSome]) ∧ RdsS w' w'.heap.size A (o.getD []).length (o.getD []) ∧ Mod (fun _ => False) w w' := by
 cases o with
 | none => obtain ⟨rfl, hm⟩ := h; exact ⟨none, 0, rfl, RdsS.nil _ _ _, hm⟩
 | some l =>
  obtain ⟨v, rfl, ho, hm⟩ := h
  obtain ⟨A, c, rfl, _, _, hr⟩ := ho.form
  exact ⟨A, c, rfl, hr, hm⟩
end Go.Proofs.YtmeilddngohccaaGreatDoor

/- Chunks, of the code: Open. -/
namespace Go.Proofs.YtmeilddngohccaaGreatDoor
open Go.RowKit

/-- What Open answers. -/
def EncO (w w' : World) (o : Option (List (Int × Nat) × Nat)) (e : Ending) : Prop :=
 match o with
 | some (l, t) => ∃ v, e = .returned (.tuple #[v, .int .i64 (t : Int), .bool true]) ∧ OwnS w.heap.size w' v l ∧ Mod (fun _ => False) w w'
 | none => e = .returned (.tuple #[.slice none 0 0, .int .i64 0, .bool false]) ∧ Mod (fun _ => False) w w'
theorem EncO.of_none {w w' : World} {o : Option (List (Int × Nat) × Nat)} (ho : o = none) (hm : Mod (fun _ => False) w w') : EncO w w' o (.returned (.tuple #[.slice none 0 0, .int .i64 0, .bool false])) := by
 rw [ho]
 exact ⟨rfl, hm⟩
theorem EncO.of_some {w w' : World} {o : Option (List (Int × Nat) × Nat)} {l : List (Int × Nat)} {t : Nat} {v : Value} (ho : o = some (l, t)) (h : OwnS w.heap.size w' v l) (hm : Mod (fun _ => False) w w') : EncO w w' o (.returned (.tuple #[v, .int .i64 (t : Int), .bool true])) := by
 rw [ho]
 exact ⟨v, rfl, h, hm⟩
theorem EncO.some_ {w w' : World} {o : Option (List (Int × Nat) × Nat)} {l : List (Int × Nat)} {t : Nat} {e : Ending} (h : EncO w w' o e) (ho : o = some (l, t)) : ∃ v, e = .returned (.tuple #[v, .int .i64 (t : Int), .bool true]) ∧ OwnS w.heap.size w' v l ∧ Mod (fun _ => False) w w' := by
 rw [ho] at h
 exact h
theorem EncO.none_ {w w' : World} {o : Option (List (Int × Nat) × Nat)} {e : Ending} (h : EncO w w' o e) (ho : o = none) : e = .returned (.tuple #[.slice none 0 0, .int .i64 0, .bool false]) ∧ Mod (fun _ => False) w w' := by
 rw [ho] at h
 exact h
theorem EncO.any {w w' : World} {o : Option (List (Int × Nat) × Nat)} {e : Ending} (h : EncO w w' o e) : ∃ (A : Option Addr) (c : Nat), e = .returned (.tuple #[.slice A ((o.map (·.1)).getD []).length c, .int .i64 (((o.map (·.2)).getD 0 : Nat) : Int), .bool o.isSome]) ∧ RdsS w' w'.heap.size A ((o.map (·.1)).getD []).length ((o.map (·.1)).getD []) ∧ Mod (fun _ => False) w w' := by
 cases o with
 | none =>
  obtain ⟨rfl, hm⟩ := h
  exact ⟨none, 0, rfl, RdsS.nil _ _ _, hm⟩
 | some p =>
  obtain ⟨v, rfl, ho, hm⟩ := h
  obtain ⟨A, c, rfl, _, _, hr⟩ := ho.form
  exact ⟨A, c, rfl, hr, hm⟩
end Go.Proofs.YtmeilddngohccaaGreatDoor

/- Work by steps, of the code: what a task is in memory; a row copied; newTask, step, done, bad. -/
namespace Go.Proofs.YtmeilddngohccaaGreatDoor
open Go.RowKit

/-- Samples as elements of two cells. -/
def rowsS (l : List (Int × Nat)) : List (List Value) := l.map fun p => [Value.int .i64 p.1, Value.int .u64 (p.2 : Int)]
theorem rowsS_flat (l : List (Int × Nat)) : (rowsS l).flatten = cellsS l := by simp [rowsS, cellsS, List.flatMap_def]
theorem rowsS_len (l : List (Int × Nat)) : (rowsS l).length = l.length := by simp [rowsS]
theorem rowsS_all (l : List (Int × Nat)) : AllK 2 (rowsS l) := by
 intro r hr
 simp only [rowsS, List.mem_map] at hr
 obtain ⟨p, _, rfl⟩ := hr
 rfl
theorem RdsS.toK {w : World} {B n : Nat} {A : Option Addr} {l : List (Int × Nat)} (h : RdsS w B A n l) : RdsK 2 w B A n (rowsS l) := ⟨by rw [rowsS_len, h.1], rowsS_all l, by rw [rowsS_flat]; exact h.2⟩
theorem OwnK.toS {w : World} {B : Nat} {v : Value} {l : List (Int × Nat)} (h : OwnK 2 B w 28 v (rowsS l)) : OwnS B w v l := by
 have := h.2
 rw [rowsS_len, rowsS_flat] at this
 exact this
theorem eltS2 : EltK Tryz.prog 23 28 (.agg #[.int .i64 0, .int .u64 0]) 2 16 := EltK.mk Tryz.underlying23 infoS rfl (by decide)
theorem own_litK {K B : Nat} {w : World} {e : TypeId} (hB : B ≤ w.heap.size) : OwnK K B (w.alloc (.cells #[] e)) e (.slice (some ⟨w.heap.size, 0, none⟩) 0 0) [] := by
 refine ⟨AllK.nil K, ?_⟩
 refine ⟨by simp, .inr ⟨w.heap.size, 0, #[], rfl, hB, heap_alloc_new w _, Nat.le_refl _, Nat.zero_le _, by simp, by simp⟩⟩

/-- A struct of three cells is written. -/
theorem Blk.three {w : World} {g : Nat} {t : TypeId} {c0 c1 c2 : Value} (h : Blk w g t #[c0, c1, c2]) (a b c : Value) :
  (((w.setCell ⟨g, 0, none⟩ a).setCell ⟨g, 1, none⟩ b).setCell ⟨g, 2, none⟩ c).cell? ⟨g, 0, none⟩ = some a ∧ (((w.setCell ⟨g, 0, none⟩ a).setCell ⟨g, 1, none⟩ b).setCell ⟨g, 2, none⟩ c).cell? ⟨g, 1, none⟩ = some b ∧
  (((w.setCell ⟨g, 0, none⟩ a).setCell ⟨g, 1, none⟩ b).setCell ⟨g, 2, none⟩ c).cell? ⟨g, 2, none⟩ = some c ∧
  Blk (((w.setCell ⟨g, 0, none⟩ a).setCell ⟨g, 1, none⟩ b).setCell ⟨g, 2, none⟩ c) g t #[a, b, c] := by
 have h3 : Blk (((w.setCell ⟨g, 0, none⟩ a).setCell ⟨g, 1, none⟩ b).setCell ⟨g, 2, none⟩ c) g t #[a, b, c] := by
  have := ((h.set_ 0 a).set_ 1 b).set_ 2 c
  simpa using this
 refine ⟨?_, ?_, ?_, h3⟩
 ·have := h3.cell 0; simpa using this
 ·have := h3.cell 1; simpa using this
 ·have := h3.cell 2; simpa using this
theorem Mod.three_new {w w' : World} {g : Nat} (h : Mod (fun _ => False) w w') (hg : w.heap.size ≤ g) (a b c : Value) : Mod (fun _ => False) w (((w'.setCell ⟨g, 0, none⟩ a).setCell ⟨g, 1, none⟩ b).setCell ⟨g, 2, none⟩ c) :=
 ((h.setCell (fun hlt => absurd hlt (by simp; omega)) a).setCell (fun hlt => absurd hlt (by simp; omega)) b).setCell (fun hlt => absurd hlt (by simp; omega)) c

end Go.Proofs.YtmeilddngohccaaGreatDoor

/- Samples that come (13.1): what an open list is, and what comes of it; rows of samples copied. -/
namespace Go.Proofs.YtmeilddngohccaaGreatDoor
open Go.RowKit

/-- Whether one has ever come, the last one's time, those that are in no chunk yet. -/
structure OpnN where
 any : Bool
 last : Int
 list : List (Int × Nat)
/-- Is p refused? -/
def noN (o : OpnN) (p : Int × Nat) : Bool := o.any && decide (p.1 ≤ o.last)
def addN (o : OpnN) (p : Int × Nat) : OpnN := if noN o p then o else ⟨true, p.1, o.list ++ [p]⟩
def errN (o : OpnN) (p : Int × Nat) : Int := if noN o p then 1 else 0
def zeroN : OpnN := ⟨false, 0, []⟩
theorem noN_true {t T : Int} {l : List (Int × Nat)} {V : Nat} (h : T ≤ t) : noN ⟨true, t, l⟩ (T, V) = true := by simp [noN, h]
theorem noN_false {b : Bool} {t T : Int} {l : List (Int × Nat)} {V : Nat} (h : b = true → t < T) : noN ⟨b, t, l⟩ (T, V) = false := by
 cases b with
 | false => rfl
 | true => have := h rfl; simp [noN]; omega
theorem addN_no {o : OpnN} {p : Int × Nat} (h : noN o p = true) : addN o p = o := by simp [addN, h]
theorem addN_yes {o : OpnN} {p : Int × Nat} (h : noN o p = false) : addN o p = ⟨true, p.1, o.list ++ [p]⟩ := by simp [addN, h]
theorem errN_no {o : OpnN} {p : Int × Nat} (h : noN o p = true) : errN o p = 1 := by simp [errN, h]
theorem errN_yes {o : OpnN} {p : Int × Nat} (h : noN o p = false) : errN o p = 0 := by simp [errN, h]

/-- The chunk that an open list is closed to; nothing of none. -/
def chkN (o : OpnN) : List Nat := (makeC 1 o.list).getD []
/-- What is answered: an open list whose row is the call's own, and an error. -/
def OpnEnd (w w' : World) (o : OpnN) (x : Int) (e : Ending) : Prop := ∃ v, e = .returned (.tuple #[.agg #[.bool o.any, .int .i64 o.last, v], .int .i64 x]) ∧ OwnS w.heap.size w' v o.list ∧ Mod (fun _ => False) w w'

theorem OpnEnd.no {w w' : World} {b : Bool} {t T : Int} {l : List (Int × Nat)} {V : Nat} {e : Ending} (h : OpnEnd w w' (addN ⟨b, t, l⟩ (T, V)) (errN ⟨b, t, l⟩ (T, V)) e) (hno : noN ⟨b, t, l⟩ (T, V) = true) :
  ∃ v, e = .returned (.tuple #[.agg #[.bool b, .int .i64 t, v], .int .i64 1]) ∧ OwnS w.heap.size w' v l ∧ Mod (fun _ => False) w w' := by
 rw [addN_no hno, errN_no hno] at h
 exact h
/-- .. bytes of the call's own, and the open list without its row. -/
def ShutEnd (w w' : World) (o : OpnN) (e : Ending) : Prop := ∃ v, e = .returned (.tuple #[v, .agg #[.bool o.any, .int .i64 o.last, .slice none 0 0]]) ∧ Own w.heap.size w' 5 v (cells8 (chkN o)) ∧ Mod (fun _ => False) w w'
theorem ShutEnd.drew {w w' : World} {o : OpnN} {e : Ending} (h : ShutEnd w w' o e) : ShutEnd w w'.drew o e := by
 obtain ⟨v, e1, h1, h2⟩ := h
 exact ⟨v, e1, h1.drew, h2.drew⟩
theorem EncB.bytes {w w' : World} {o : Option (List Nat)} {e : Ending} (h : EncB w w' o e) : ∃ v b, e = .returned (.tuple #[v, .bool b]) ∧ Own w.heap.size w' 5 v (cells8 (o.getD [])) ∧ Mod (fun _ => False) w w' := by
 cases ho : o with
 | none =>
  obtain ⟨rfl, hm⟩ := EncB.none_ h ho
  exact ⟨_, _, rfl, Own.nil _ _ _, hm⟩
 | some bs =>
  obtain ⟨v, rfl, hown, hm⟩ := EncB.some_ h ho
  exact ⟨v, _, rfl, hown, hm⟩
theorem OwnS.modK {S : Nat → Prop} {w w' : World} {B : Nat} {v : Value} {l : List (Int × Nat)} (h : OwnS B w v l) (hm : Mod S w w') (hS : ∀ k, B ≤ k → ¬ S k) : OwnS B w' v l :=
 hm.owns h (fun k hk hs => hS k (h.block k hk).1 hs)
theorem Mod.three_one (w : World) (g : Nat) (a b c : Value) : Mod (fun k => k = g) w (((w.setCell ⟨g, 0, none⟩ a).setCell ⟨g, 1, none⟩ b).setCell ⟨g, 2, none⟩ c) :=
 ((((Mod.refl (fun k => k = g) w).setCell (p := ⟨g, 0, none⟩) (fun _ => rfl) a).setCell (p := ⟨g, 1, none⟩) (fun _ => rfl) b).setCell (p := ⟨g, 2, none⟩) (fun _ => rfl) c)
/-- append([]api.Sample(nil), l..) and append([]api.Sample{}, l..) -/
theorem oneS (l : List (Int × Nat)) : ∀ u ∈ (rowsS l).flatten, u.oneCell' = true := by rw [rowsS_flat]; exact cellsS_one _
theorem OwnK.nilS (B : Nat) (w : World) : OwnK 2 B w 28 (.slice none 0 0) [] := OwnK.nil _ _ _ _
end Go.Proofs.YtmeilddngohccaaGreatDoor

/- Chunks, of the code: Make. -/
namespace Go.Proofs.YtmeilddngohccaaGreatDoor
open Go.RowKit

theorem makeC_no {tag : Int} {l : List (Int × Nat)} (h : encK tag l = none) : makeC tag l = none := by
 unfold makeC
 split
 ·rfl
 ·rw [h]; rfl
theorem headC_len {t n : Nat} {f g : Int} (hn : n < 18446744073709551616) (hf : Fits f) (hg : Fits g) : (headC t n f g).length ≤ 31 := by
 obtain ⟨_, f2⟩ := zig_nat hf
 obtain ⟨_, g2⟩ := zig_nat hg
 have h1 := enc_len10 hn
 have h2 := enc_len10 f2
 have h3 := enc_len10 g2
 simp only [headC, List.length_cons, List.length_append]
 omega
theorem makeC_len {tag : Int} {l : List (Int × Nat)} {c : List Nat} (hg : GoodS l) (h : makeC tag l = some c) : c.length ≤ 2735 + 30 * l.length := by
 obtain ⟨_, b, h1, rfl⟩ := makeC_some h
 have h2 := encK_len hg h1
 have h3 := (rise_ends (encK_some h1).1).2
 have h4 : (headR tag l).length ≤ 31 := headC_len (by omega) (fstT_fits hg) (lstT_fits hg)
 have h5 : (sum4 (sumN ent (headR tag l ++ b))).length = 4 := rfl
 rw [List.length_append, List.length_append, h5]
 omega
set_option maxHeartbeats 2000000 in
set_option maxRecDepth 100000 in
theorem jmake_any (tag : Int) (A : Option Addr) (n c : Nat) (l : List (Int × Nat)) (w : World) (hs : RdsS w w.heap.size A n l) (hg : GoodS l) (ht : Tabs w) :
  Calls Tryz.prog 17 #[.int .i64 tag, .slice A n c] w fun e w' => EncB w w' (makeC tag l) e := by
 have hl := hs.1
 by_cases h0 : n = 0
 ·subst h0
  have hno : makeC tag l = none := by
   unfold makeC
   rw [if_pos (List.length_eq_zero_iff.1 hl)]
  have Hno := Lib.hid hno
  clear hs hg ht hl hno
  go_enter Tryz.func17, Tryz.ntmps17
  go_wp2_with fail
  go_ret2
  exact EncB.of_none Hno.out (Mod.refl _ _)
 ·have hb0 : ((n : Int) == 0) = false := by simp; omega
  have Hs := Lib.hid hs; have Hg := Lib.hid hg; have Ht := Lib.hid ht; have Hl := Lib.hid hl
  clear hs hg ht hl
  go_enter Tryz.func17, Tryz.ntmps17
  go_wp2_with fail
  refine (kenc_any tag A n c l w Hs.out Hg.out Ht.out).mono ?_
  intro e w1 he
  have he' : EncB w w1 (encK tag l) e := he
  clear he
  cases ho : encK tag l with
  | none =>
   obtain ⟨rfl, hm1⟩ := EncB.none_ he' ho
   have Hno : Hid (makeC tag l = none) := Lib.hid (makeC_no ho)
   have Hm1 := Lib.hid hm1
   clear he' ho hm1
   go_wp2_with fail
   go_ret2
   exact EncB.of_none Hno.out Hm1.out
  | some b =>
   obtain ⟨v1, rfl, ho1, hm1⟩ := EncB.some_ he' ho
   have hne : l ≠ [] := fun h => h0 (by rw [← Hl.out, h]; rfl)
   have hyes := makeC_of hne ho
   have htag := encK_tag ho
   have hn65 := (rise_ends (encK_some ho).1).2
   rw [Hl.out] at hn65
   have hbl := encK_len Hg.out ho
   rw [Hl.out] at hbl
   have hlt := encK_256 ho
   obtain ⟨A1, L1, c1, rfl, HL1, _, _, hr1⟩ := own_formN8 ho1
   have hL1 : L1 ≤ 2000000 := by have := HL1.out; omega
   have Hr1 := Lib.hid hr1; have Hm1 := Lib.hid hm1; have Hs1 := Lib.hid (Hs.out.new hm1).fit
   have Hyes := Lib.hid hyes; have Htag := Lib.hid htag; have Hlt := Lib.hid hlt
   obtain ⟨f, hf⟩ : ∃ f, f = fstT l := ⟨_, rfl⟩
   obtain ⟨g, hgg⟩ : ∃ g, g = lstT l := ⟨_, rfl⟩
   have Hf : Hid (Fits f) := Lib.hid (hf ▸ fstT_fits Hg.out)
   have Hgf : Hid (Fits g) := Lib.hid (hgg ▸ lstT_fits Hg.out)
   have Hef := Lib.hid hf; have Heg := Lib.hid hgg
   clear he' ho ho1 hm1 hne hyes htag hbl hlt hr1 hf hgg Hs Ht
   go_wp2_with fail
   refine (headOf_any tag A n c l w1 Hs1.out (by omega) (by unfold maxLen; omega)).mono ?_
   rintro e w2 ⟨rfl, hm2⟩
   rw [← Hef.out, ← Heg.out]
   have Hr2 := Lib.hid (Hr1.out.new hm2).fit; have Hm2 := Lib.hid (Hm1.out.trans hm2 (fun _ _ h => h))
   clear hm2 Hr1 Hm1 Hs1
   go_wp2_with fail
   refine (putHead_any tag f g n w2 Htag.out (by unfold maxLen; omega) Hf.out Hgf.out).mono ?_
   rintro e w3 ⟨v3, rfl, ho3, hm3⟩
   obtain ⟨hd, hhd⟩ : ∃ hd, hd = headC tag.toNat n f g := ⟨_, rfl⟩
   rw [← hhd] at ho3
   have hhl : hd.length ≤ 31 := by rw [hhd]; exact headC_len (by omega) Hf.out Hgf.out
   have hh256 : lt256 hd := by rw [hhd]; exact headC_256 _ _ (by have := Htag.out; omega)
   have hhr : hd = headR tag l := by rw [hhd]; unfold headR; rw [← Hef.out, ← Heg.out, Hl.out]
   have Ho3 := Lib.hid ho3; have Hm3 := Lib.hid (Hm2.out.trans hm3 (fun _ _ h => h)); have Hr3 := Lib.hid (Hr2.out.new hm3)
   have HR : Hid (Room (cells8 hd).length L1) := Lib.hid (Room.mk _ _ (by rw [cells8_length]; omega))
   have Hone : Hid (∀ u ∈ cells8 b, u.oneCell' = true) := Lib.hid (cells8_one _)
   have hsz3 := hm3.size
   have Hm2s : Hid (w.heap.size ≤ w2.heap.size) := Lib.hid Hm2.out.size
   have Hhr := Lib.hid hhr; have Hh256 := Lib.hid hh256; have Hhl := Lib.hid hhl
   clear ho3 hm3 hhd hhl hh256 hhr Hr2 Hm2 Hef Heg
   go_wp2_with (at_builtin; refine wpList_app rfl (.tmp 23) (.tmp 24) _ rfl elt8 rfl Ho3.out rfl Hr3.out Hone.out HR.out.1 HR.out.2 hsz3 ?_; intro v4 w4 HO4 HBl4 HG4; clear HG4)
   obtain ⟨hb, hhb⟩ : ∃ hb, hb = hd ++ b := ⟨_, rfl⟩
   have ho4 : Own w2.heap.size w4 5 v4 (cells8 hb) := by rw [hhb, ← cells8_app]; exact HO4.out
   have hb256 : lt256 hb := by rw [hhb]; exact lt256_app Hh256.out Hlt.out
   have hbl : hb.length ≤ 2000031 := by rw [hhb, List.length_append]; have := Hhl.out; have := HL1.out; omega
   have hyes2 : makeC tag l = some (hb ++ sum4 (sumN ent hb)) := by rw [hhb, Hhr.out]; exact Hyes.out
   obtain ⟨A4, L4, c4, rfl, HL4, hc4, hcm4, hr4⟩ := own_formN8 ho4
   have hL4 : L4 ≤ 2000031 := by have := HL4.out; omega
   have Ho4 := Lib.hid ho4; have Hr4 := Lib.hid hr4; have Hb256 := Lib.hid hb256; have Hyes2 := Lib.hid hyes2
   have Hm4 := Lib.hid (Hm3.out.trans (Mod.of_below HBl4.out) (fun i hi h => by have := Hm3.out.size; have := Hm2s.out; omega))
   have Hsz4 := Lib.hid (Nat.le_trans hsz3 HBl4.out.size)
   clear hhb ho4 hb256 hbl hyes2 hr4 HO4 HBl4 Hm3 Ho3 Hr3 Hyes Hhr Hh256 Hhl Hlt HR Hone hsz3
   refine (jsum_any A4 L4 c4 hb w4 Hr4.out Hb256.out (by unfold maxLen; omega)).mono ?_
   rintro e w5 ⟨v5, rfl, ho5, hm5⟩
   obtain ⟨sm, hsm⟩ : ∃ sm, sm = sum4 (sumN ent hb) := ⟨_, rfl⟩
   rw [← hsm] at ho5
   have hsl : sm.length = 4 := by rw [hsm]; rfl
   obtain ⟨A5, L5, c5, rfl, HL5, _, _, hr5⟩ := own_formN8 ho5
   obtain rfl : L5 = 4 := by have := HL5.out; omega
   have Hr5 := Lib.hid hr5; have Ho45 := Lib.hid (Ho4.out.mod hm5); have Hm5 := Lib.hid (Hm4.out.trans hm5 (fun _ _ h => h))
   have HR5 : Hid (Room (cells8 hb).length 4) := Lib.hid (Room.mk _ _ (by rw [cells8_length]; have := HL4.out; omega))
   have Hone5 : Hid (∀ u ∈ cells8 sm, u.oneCell' = true) := Lib.hid (cells8_one _)
   have hsz5 : w2.heap.size ≤ w5.heap.size := Nat.le_trans Hsz4.out hm5.size
   have Hsm := Lib.hid hsm
   clear ho5 hm5 hsm hsl hr5 Ho4 Hr4 Hm4 Hsz4
   go_wp2_with (at_builtin; refine wpList_app rfl (.tmp 26) (.tmp 28) _ rfl elt8 rfl Ho45.out rfl Hr5.out Hone5.out HR5.out.1 HR5.out.2 hsz5 ?_; intro v6 w6 HO6 HBl6 HG6; clear HG6)
   go_ret2
   have ho6 := HO6.out
   rw [cells8_app, Hsm.out] at ho6
   exact EncB.of_some Hyes2.out (ho6.mono Hm2s.out) (Hm5.out.trans (Mod.of_below HBl6.out) (fun i hi h => by have := Hm2s.out; omega))
end Go.Proofs.YtmeilddngohccaaGreatDoor

/- Samples that come, of the code: copied, Add, Full, Size, Close. -/
namespace Go.Proofs.YtmeilddngohccaaGreatDoor
open Go.RowKit

set_option maxHeartbeats 1000000 in
set_option maxRecDepth 100000 in
theorem copied_any (A : Option Addr) (n c : Nat) (l : List (Int × Nat)) (w : World) (hs : RdsS w w.heap.size A n l) (hm : n ≤ 1000000) :
  Calls Tryz.prog 16 #[.slice A n c] w fun e w' => ∃ v, e = .returned v ∧ OwnS w.heap.size w' v l ∧ Mod (fun _ => False) w w' := by
 have Hown : Hid (OwnK 2 w.heap.size w 28 (.slice none 0 0) []) := Lib.hid (OwnK.nilS _ _)
 have Hr := Lib.hid hs.toK
 have Hone := Lib.hid (oneS l)
 have hr1 : ([] : List (List Value)).length + n ≤ maxLen := by unfold maxLen; simp; omega
 have hr2 : (([] : List (List Value)).length + n) * 16 ≤ 140737488355328 := by simp; omega
 clear hs
 go_enter Tryz.func16, Tryz.ntmps16
 go_wp2_with (at_builtin; refine wpList_appK rfl (.const (.slice none 0 0)) (.tmp 3) _ rfl eltS2 rfl Hown.out rfl Hr.out Hone.out hr1 hr2 (Nat.le_refl _) ?_; intro v4 w4 HO HB HG; clear HG)
 go_ret
 exact ⟨_, rfl, by have := HO.out; rw [List.nil_append] at this; exact this.toS, (Mod.of_below HB.out).mono (fun i hi h => by omega)⟩

set_option maxHeartbeats 1000000 in
set_option maxRecDepth 100000 in
theorem add_any (b : Bool) (t : Int) (A : Option Addr) (n c : Nat) (l : List (Int × Nat)) (T : Int) (V : Nat) (w : World) (hs : RdsS w w.heap.size A n l) (hn : n ≤ 1000000) :
  Calls Tryz.prog 6 #[.agg #[.bool b, .int .i64 t, .slice A n c], .agg #[.int .i64 T, .int .u64 (V : Int)]] w fun e w' =>
   OpnEnd w w' (addN ⟨b, t, l⟩ (T, V)) (errN ⟨b, t, l⟩ (T, V)) e := by
 obtain ⟨W, hW⟩ : ∃ W, W = ((w.alloc (.cells #[.bool b, .int .i64 t, .slice A n c] 25)).alloc (.cells #[.int .i64 T, .int .u64 (V : Int)] 28)).alloc (.cells #[.bool false, .int .i64 0, .slice none 0 0] 25) := ⟨_, rfl⟩
 obtain ⟨g0, hg0⟩ : ∃ g, g = w.heap.size := ⟨_, rfl⟩
 obtain ⟨g1, hg1⟩ : ∃ g, g = w.heap.size + 1 := ⟨_, rfl⟩
 obtain ⟨g2, hg2⟩ : ∃ g, g = w.heap.size + 1 + 1 := ⟨_, rfl⟩
 have hmW : Mod (fun _ => False) w W := by rw [hW]; exact (((Mod.refl _ _).alloc _).alloc _).alloc _
 have hsz : W.heap.size = g2 + 1 := by rw [hW, hg2]; simp
 have hb0 : Blk W g0 25 #[.bool b, .int .i64 t, .slice A n c] := by rw [hW, hg0]; exact ((Blk.new _ _ _).alloc _).alloc _
 have hb1 : Blk W g1 28 #[.int .i64 T, .int .u64 (V : Int)] := by
  rw [hW, hg1]
  have h := (Blk.new (w.alloc (.cells #[.bool b, .int .i64 t, .slice A n c] 25)) 28 #[.int .i64 T, .int .u64 (V : Int)]).alloc (.cells #[.bool false, .int .i64 0, .slice none 0 0] 25)
  simpa using h
 have hb2 : Blk W g2 25 #[.bool false, .int .i64 0, .slice none 0 0] := by
  rw [hW, hg2]
  have h := Blk.new ((w.alloc (.cells #[.bool b, .int .i64 t, .slice A n c] 25)).alloc (.cells #[.int .i64 T, .int .u64 (V : Int)] 28)) 25 #[.bool false, .int .i64 0, .slice none 0 0]
  simpa using h
 have Hg0 := Lib.hid hg0
 have z0 := hb0.cell 0
 have z1 := hb0.cell 1
 have z2 := hb0.cell 2
 simp at z0 z1 z2
 have Hs := Lib.hid (hs.new hmW).fit; have Hll := Lib.hid hs.1
 have HW := Lib.hid hW; have HmW := Lib.hid hmW; have Hsz := Lib.hid hsz; have Hb0 := Lib.hid hb0; have Hb1 := Lib.hid hb1; have Hb2 := Lib.hid hb2
 have Hg1 := Lib.hid hg1; have Hg2 := Lib.hid hg2
 clear hs hW hmW hsz hb0 hb1 hb2 hg0 hg1 hg2
 go_enter Tryz.func6, Tryz.ntmps6
 go_upto_region 1 with fail
 rw [← HW.out, ← Hg2.out, ← Hg1.out, ← Hg0.out]
 go_wp2_with fail
 refine (copied_any A n c l W Hs.out hn).mono ?_
 rintro e w1 ⟨v1, rfl, ho1, hm1⟩
 obtain ⟨A1, L1, c1, rfl, HL1, _, _, _⟩ := ho1.formN
 have hb0 := hm1.blk Hb0.out (fun h => h)
 have hb1 := hm1.blk Hb1.out (fun h => h)
 have hb2 := hm1.blk Hb2.out (fun h => h)
 have y0 := hb0.cell 0
 have y1 := hb0.cell 1
 have x0 := hb1.cell 0
 have x1 := hb1.cell 1
 simp at y0 y1 x0 x1
 have Hm1 := Lib.hid (HmW.out.trans hm1 (fun _ _ h => h)); have Ho1 := Lib.hid ho1; have Hb21 := Lib.hid hb2; have Hb11 := Lib.hid hb1; have Hsz1 := Lib.hid hm1.size
 clear hm1 ho1 hb0 hb1 hb2 z0 z1 z2 Hb0 Hb1 Hb2 Hs HW HmW
 by_cases hno : b = true ∧ T ≤ t
 ·obtain ⟨rfl, hTt⟩ := hno
  have r0 := Hb21.out.cell 0
  have r1 := Hb21.out.cell 1
  have r2 := Hb21.out.cell 2
  have f0 := Hb21.out.frozen 0
  have f1 := Hb21.out.frozen 1
  have f2 := Hb21.out.frozen 2
  simp at r0 r1 r2
  have Hno := Lib.hid (noN_true (l := l) (V := V) hTt)
  go_wp2_with fail
  refine bodyPost_ret (v := .tuple #[.agg #[.bool true, .int .i64 t, .slice A1 L1 c1], .int .i64 1]) (by have h := Hb21.out.three (.bool true) (.int .i64 t) (.slice A1 L1 c1); simp [results, Tryz.results6, go_sem, h.1, h.2.1, h.2.2.1]) rfl ?_
  rw [addN_no Hno.out, errN_no Hno.out]
  exact ⟨_, rfl, (Ho1.out.modK (Mod.three_one _ _ _ _ _) (fun k hk h => by have := Hsz.out; omega)).mono (by have := Hsz.out; have := Hg2.out; omega), Hm1.out.three_new (by have := Hg2.out; omega) _ _ _⟩
 ·have hTt : b = true → t < T := fun h => by
   rcases Int.lt_or_le t T with h1 | h1
   ·exact h1
   ·exact absurd ⟨h, h1⟩ hno
  have Hno := Lib.hid (noN_false (l := l) (V := V) hTt)
  have hcs : Tryz.prog.cellsOf 28 = 2 := by kernel_rfl
  clear hno
  have HR1 : Hid (l.length + 1 ≤ maxLen ∧ (l.length + 1) * 16 ≤ 140737488355328) := Lib.hid (by have := Hll.out; unfold maxLen; omega)
  have HOd : Hid (OwnS W.heap.size w1.drew (.slice A1 L1 c1) l) := Lib.hid Ho1.out
  have hszd : W.heap.size ≤ w1.drew.heap.size := Hsz1.out
  have Hfin : Hid (∀ (A6 : Option Addr) (L6 c6 : Nat) (w6 : World), OwnS W.heap.size w6 (.slice A6 L6 c6) (l ++ [(T, V)]) → Below W.heap.size w1.drew w6 →
    OpnEnd w (((w6.setCell ⟨g2, 0, none⟩ (.bool true)).setCell ⟨g2, 1, none⟩ (.int .i64 T)).setCell ⟨g2, 2, none⟩ (.slice A6 L6 c6)) (addN ⟨b, t, l⟩ (T, V)) (errN ⟨b, t, l⟩ (T, V)) (.returned (.tuple #[.agg #[.bool true, .int .i64 T, .slice A6 L6 c6], .int .i64 0]))) := Lib.hid (by
   intro A6 L6 c6 w6 ho6 hb6
   rw [addN_yes Hno.out, errN_yes Hno.out]
   exact ⟨_, rfl, (ho6.modK (Mod.three_one _ _ _ _ _) (fun k hk h => by have := Hsz.out; omega)).mono (by have := Hsz.out; have := Hg2.out; omega), ((Hm1.out.drew.trans (Mod.of_below hb6) (fun i hi h => by have := Hsz.out; have := Hg2.out; omega))).three_new (by have := Hg2.out; omega) _ _ _⟩)
  have Hbl : Hid (∀ w6 : World, Below W.heap.size w1.drew w6 → Blk w6 g2 25 #[.bool false, .int .i64 0, .slice none 0 0]) := Lib.hid (fun w6 hb6 => Blk.below (w := w1.drew) Hb21.out hb6 (by have := Hsz.out; omega))
  have Hbs : Hid (∀ w6 : World, Below W.heap.size w1.drew w6 → Blk w6 g1 28 #[.int .i64 T, .int .u64 (V : Int)]) := Lib.hid (fun w6 hb6 => Blk.below (w := w1.drew) Hb11.out hb6 (by have := Hsz.out; have := Hg1.out; have := Hg2.out; omega))
  have x0a : ∀ o, (w1.alloc o).cell? ⟨g1, 0, none⟩ = some (.int .i64 T) := fun o => by have := (Hb11.out.alloc o).cell 0; simpa using this
  clear Hno Ho1 Hm1 Hb21 Hsz1 Hg0 Hg1 Hg2 Hsz Hb11
  cases b with
  | false =>
   clear hTt
   go_upto_region 4 with fail
   go_region_law ((refine step_appS (p := (T, V)) rfl (.tmp 25) (.tmp 27) rfl rfl HOd.out rfl rfl HR1.out.1 HR1.out.2 hszd ?_; intro v6 w6 HO6 HB6; obtain ⟨A6, L6, c6, rfl, HL6, _, _, _⟩ := HO6.out.formN; have r0 := (Hbl.out w6 HB6.out).cell 0; have r1 := (Hbl.out w6 HB6.out).cell 1; have r2 := (Hbl.out w6 HB6.out).cell 2; have f0 := (Hbl.out w6 HB6.out).frozen 0; have f1 := (Hbl.out w6 HB6.out).frozen 1; have f2 := (Hbl.out w6 HB6.out).frozen 2; have q0 := (Hbs.out w6 HB6.out).cell 0; simp at r0 r1 r2 q0))
   all_goals (
    simp only [Act.put, List.getElem_toArray, List.getElem_cons_succ, List.getElem_cons_zero, List.setIfInBounds_toArray, List.set_cons_succ, List.set_cons_zero]
    go_wp2_with fail
    exact bodyPost_ret (v := .tuple #[.agg #[.bool true, .int .i64 T, .slice A6 L6 c6], .int .i64 0]) (by have h := (Hbl.out w6 HB6.out).three (.bool true) (.int .i64 T) (.slice A6 L6 c6); simp [results, Tryz.results6, go_sem, h.1, h.2.1, h.2.2.1]) rfl (Hfin.out A6 L6 c6 w6 HO6.out HB6.out))
  | true =>
   have hTi : ¬ T ≤ t := by have := hTt rfl; omega
   clear hTt
   go_upto_region 4 with fail
   go_region_law ((refine step_appS (p := (T, V)) rfl (.tmp 25) (.tmp 27) rfl rfl HOd.out rfl rfl HR1.out.1 HR1.out.2 hszd ?_; intro v6 w6 HO6 HB6; obtain ⟨A6, L6, c6, rfl, HL6, _, _, _⟩ := HO6.out.formN; have r0 := (Hbl.out w6 HB6.out).cell 0; have r1 := (Hbl.out w6 HB6.out).cell 1; have r2 := (Hbl.out w6 HB6.out).cell 2; have f0 := (Hbl.out w6 HB6.out).frozen 0; have f1 := (Hbl.out w6 HB6.out).frozen 1; have f2 := (Hbl.out w6 HB6.out).frozen 2; have q0 := (Hbs.out w6 HB6.out).cell 0; simp at r0 r1 r2 q0))
   all_goals (
    simp only [Act.put, List.getElem_toArray, List.getElem_cons_succ, List.getElem_cons_zero, List.setIfInBounds_toArray, List.set_cons_succ, List.set_cons_zero]
    go_wp2_with fail
    exact bodyPost_ret (v := .tuple #[.agg #[.bool true, .int .i64 T, .slice A6 L6 c6], .int .i64 0]) (by have h := (Hbl.out w6 HB6.out).three (.bool true) (.int .i64 T) (.slice A6 L6 c6); simp [results, Tryz.results6, go_sem, h.1, h.2.1, h.2.2.1]) rfl (Hfin.out A6 L6 c6 w6 HO6.out HB6.out))

/-- What is told of an open list. -/
theorem opn_box (b : Bool) (t : Int) (A : Option Addr) (n c : Nat) (w : World) : ∃ W, W = w.alloc (.cells #[.bool b, .int .i64 t, .slice A n c] 25) ∧ Mod (fun _ => False) w W ∧ Blk W w.heap.size 25 #[.bool b, .int .i64 t, .slice A n c] :=
 ⟨_, rfl, (Mod.refl _ _).alloc _, Blk.new _ _ _⟩
theorem full_any (b : Bool) (t : Int) (A : Option Addr) (n c : Nat) (w : World) :
  Calls Tryz.prog 8 #[.agg #[.bool b, .int .i64 t, .slice A n c]] w fun e w' => e = .returned (.bool (decide (8 ≤ n))) ∧ Mod (fun _ => False) w w' := by
 obtain ⟨W, hW, hmW, hbW⟩ := opn_box b t A n c w
 have z2 := hbW.cell 2
 simp at z2
 have HW := Lib.hid hW; have HmW := Lib.hid hmW
 clear hW hmW hbW
 go_enter Tryz.func8, Tryz.ntmps8
 go_upto_region 1 with fail
 rw [← HW.out]
 go_wp2_with fail
 go_ret
 refine ⟨?_, HmW.out⟩
 show Ending.returned (Value.bool _) = Ending.returned (Value.bool (decide (8 ≤ n)))
 congr 2
 first
  | done
  | (apply decide_eq_decide.2; omega)
theorem size_any (b : Bool) (t : Int) (A : Option Addr) (n c : Nat) (w : World) (hn : n ≤ 1000000) :
  Calls Tryz.prog 7 #[.agg #[.bool b, .int .i64 t, .slice A n c]] w fun e w' => e = .returned (.int .i64 (16 * (n : Int))) ∧ Mod (fun _ => False) w w' := by
 obtain ⟨W, hW, hmW, hbW⟩ := opn_box b t A n c w
 have z2 := hbW.cell 2
 simp at z2
 have hw : IntKind.i64.wrap (16 * (n : Int)) = 16 * (n : Int) := IntWalk.i64_in _ (by omega)
 have HW := Lib.hid hW; have HmW := Lib.hid hmW
 clear hW hmW hbW
 go_enter Tryz.func7, Tryz.ntmps7
 go_upto_region 1 with fail
 rw [← HW.out]
 go_wp2_with fail
 go_ret
 exact ⟨rfl, HmW.out⟩

set_option maxHeartbeats 1000000 in
set_option maxRecDepth 100000 in
theorem close_any (b : Bool) (t : Int) (A : Option Addr) (n c : Nat) (l : List (Int × Nat)) (w : World) (hs : RdsS w w.heap.size A n l) (hg : GoodS l) (ht : Tabs w) :
  Calls Tryz.prog 9 #[.agg #[.bool b, .int .i64 t, .slice A n c]] w fun e w' => ShutEnd w w' ⟨b, t, l⟩ e := by
 obtain ⟨W, hW⟩ : ∃ W, W = (w.alloc (.cells #[.bool b, .int .i64 t, .slice A n c] 25)).alloc (.cells #[.bool false, .int .i64 0, .slice none 0 0] 25) := ⟨_, rfl⟩
 obtain ⟨g0, hg0⟩ : ∃ g, g = w.heap.size := ⟨_, rfl⟩
 obtain ⟨g1, hg1⟩ : ∃ g, g = w.heap.size + 1 := ⟨_, rfl⟩
 have hmW : Mod (fun _ => False) w W := by rw [hW]; exact ((Mod.refl _ _).alloc _).alloc _
 have hb0 : Blk W g0 25 #[.bool b, .int .i64 t, .slice A n c] := by rw [hW, hg0]; exact (Blk.new _ _ _).alloc _
 have hb1 : Blk W g1 25 #[.bool false, .int .i64 0, .slice none 0 0] := by
  rw [hW, hg1]
  have h := Blk.new (w.alloc (.cells #[.bool b, .int .i64 t, .slice A n c] 25)) 25 #[.bool false, .int .i64 0, .slice none 0 0]
  simpa using h
 have hsz : W.heap.size = g1 + 1 := by rw [hW, hg1]; simp
 have z0 := hb0.cell 0
 have z1 := hb0.cell 1
 have z2 := hb0.cell 2
 simp at z0 z1 z2
 have Hs := Lib.hid (hs.new hmW).fit; have Ht := Lib.hid (ht.mod hmW); have Hg := Lib.hid hg; have Hsz := Lib.hid hsz
 have HW := Lib.hid hW; have HmW := Lib.hid hmW; have Hb0 := Lib.hid hb0; have Hb1 := Lib.hid hb1; have Hg0 := Lib.hid hg0; have Hg1 := Lib.hid hg1
 clear hs hW hmW hb0 hb1 hg0 hg1 hg ht hsz
 go_enter Tryz.func9, Tryz.ntmps9
 go_upto_region 1 with fail
 rw [← HW.out, ← Hg1.out, ← Hg0.out]
 go_wp2_with fail
 refine (jmake_any 1 A n c l W Hs.out Hg.out Ht.out).mono ?_
 intro e w1 he
 obtain ⟨v1, b1, rfl, ho1, hm1⟩ := EncB.bytes (o := makeC 1 l) he
 obtain ⟨A1, L1, c1, rfl, HL1, _, _, _⟩ := own_formN8 ho1
 have hb0 := hm1.blk Hb0.out (fun h => h)
 have hb1 := hm1.blk Hb1.out (fun h => h)
 have y0 := hb0.cell 0
 have y1 := hb0.cell 1
 have r0 := hb1.cell 0
 have r1 := hb1.cell 1
 have r2 := hb1.cell 2
 have f0 := hb1.frozen 0
 have f1 := hb1.frozen 1
 have f2 := hb1.frozen 2
 simp at y0 y1 r0 r1 r2
 have Hm1 := Lib.hid (HmW.out.trans hm1 (fun _ _ h => h)); have Ho1 := Lib.hid ho1; have Hb11 := Lib.hid hb1
 have Hr : Hid (ShutEnd w (((w1.setCell ⟨g1, 0, none⟩ (.bool b)).setCell ⟨g1, 1, none⟩ (.int .i64 t)).setCell ⟨g1, 2, none⟩ (.slice none 0 0)) ⟨b, t, l⟩ (.returned (.tuple #[.slice A1 L1 c1, .agg #[.bool b, .int .i64 t, .slice none 0 0]]))) := Lib.hid (by
  have hmm := Mod.three_one w1 g1 (.bool b) (.int .i64 t) (.slice none 0 0)
  exact ⟨_, rfl, Own.mono (hmm.owns (show Own W.heap.size w1 5 (.slice A1 L1 c1) (cells8 (chkN ⟨b, t, l⟩)) from Ho1.out) (fun k hk h => by have h1 := (Ho1.out.block k hk).1; have := Hsz.out; omega)) (by have := Hsz.out; have := Hg1.out; omega), Hm1.out.three_new (by have := Hg1.out; omega) _ _ _⟩)
 clear he ho1 hm1 hb0 hb1 z0 z1 z2 Hs Ht HW HmW Hb0 Hb1 Hg0 Hm1 Ho1
 go_upto_region 2 with fail
 go_region
 all_goals (
  go_wp2_with fail
  refine bodyPost_ret (v := .tuple #[.slice A1 L1 c1, .agg #[.bool b, .int .i64 t, .slice none 0 0]]) (by have h := Hb11.out.three (.bool b) (.int .i64 t) (.slice none 0 0); simp [results, Tryz.results9, go_sem, h.1, h.2.1, h.2.2.1]) rfl Hr.out.drew)
end Go.Proofs.YtmeilddngohccaaGreatDoor

/- The codec that takes the fewest bytes: Best. -/
namespace Go.Proofs.YtmeilddngohccaaGreatDoor
open Go.RowKit

end Go.Proofs.YtmeilddngohccaaGreatDoor

/- Two rows of samples compared: the document's Same. -/
namespace Go.Proofs.YtmeilddngohccaaGreatDoor
open Go.RowKit

/-- The first i are alike. -/
def SameTo (l1 l2 : List (Int × Nat)) (i : Nat) : Prop := ∀ j, j < i → l1[j]? = l2[j]?
theorem SameTo.done {l1 l2 : List (Int × Nat)} {n : Nat} (h : SameTo l1 l2 n) (h1 : l1.length = n) (h2 : l2.length = n) : l1 = l2 := List.ext_getElem? fun j => by
 rcases Nat.lt_or_ge j n with hj | hj
 ·exact h j hj
 ·rw [List.getElem?_eq_none (by omega), List.getElem?_eq_none (by omega)]
set_option maxHeartbeats 1000000 in
set_option maxRecDepth 100000 in
theorem sameS_any (A1 A2 : Option Addr) (n1 n2 c1 c2 B1 B2 : Nat) (l1 l2 : List (Int × Nat)) (b : Bool) (w : World) (hs1 : RdsS w B1 A1 n1 l1) (hs2 : RdsS w B2 A2 n2 l2) (hn : n1 ≤ 1000000) (hb : decide (l1 = l2) = b) :
  Calls Tryz.prog 12 #[.slice A1 n1 c1, .slice A2 n2 c2] w fun e w' => e = .returned (.bool b) ∧ Mod (fun _ => False) w w' := by
 have Hs1 := Lib.hid hs1.fit; have Hs2 := Lib.hid hs2.fit; have Hl1 := Lib.hid hs1.1; have Hl2 := Lib.hid hs2.1; have Hb := Lib.hid hb
 have hcs : Tryz.prog.cellsOf 28 = 2 := by kernel_rfl
 clear hs1 hs2 hb
 by_cases hnn : n1 = n2
 ·subst hnn
  go_enter Tryz.func12, Tryz.ntmps12
  go_wp2_with fail
  go_loopg [5] n1 (fun k s5 wr => ∃ i : Nat, i + k = n1 ∧ s5 = .int .i64 (i : Int) ∧ SameTo l1 l2 i ∧ Mod (fun _ => False) w wr)
  case atStart => exact ⟨0, by omega, rfl, (fun j h => by omega), Mod.refl _ _⟩
  case round =>
   obtain ⟨i, hik, rfl, hr, hm⟩ := hrel
   have Hik := Lib.hid hik; have Hr := Lib.hid hr; have Hm := Lib.hid hm
   clear hik hr hm
   by_cases hin : i < n1
   ·obtain ⟨a1, ⟨T, V⟩, rfl, _, hp, hc0, hc1⟩ := Hs1.out.at2 hin (Nat.le_refl _) Hm.out (fun _ _ h => h)
    obtain ⟨a2, ⟨S, U⟩, rfl, _, hq, hd0, hd1⟩ := Hs2.out.at2 hin (Nat.le_refl _) Hm.out (fun _ _ h => h)
    have hc1' := cell_whole hc1
    have hd1' := cell_whole hd1
    have Hp := Lib.hid hp; have Hq := Lib.hid hq
    clear hp hq hc1 hd1
    have hin' : (i : Int) < (n1 : Int) := by omega
    by_cases hT : T = S
    ·subst hT
     by_cases hV : V = U
     ·subst hV
      go_upto_region 6 with fail
      go_quiet (fail)
      go_wp2_with fail
      go_roundg (gk - 1)
      case measure => have := Hik.out; omega
      case rel => exact ⟨i + 1, by have := Hik.out; omega, by go_num, (fun j hj => by
       rcases Nat.lt_or_ge j i with h | h
       ·exact Hr.out j h
       ·obtain rfl : j = i := by omega
        rw [Hp.out, Hq.out]), Hm.out.drewN _⟩
     ·have hVi : ¬ (V : Int) = (U : Int) := by omega
      have hVb : ((V : Int) == (U : Int)) = false := by simp; omega
      have Hno : Hid (b = false) := Lib.hid (by
       rw [← Hb.out, decide_eq_false_iff_not]
       intro e
       have h1 := Hp.out
       rw [e, Hq.out] at h1
       injection h1 with h1
       injection h1 with _ h1
       exact hV h1.symm)
      clear hV
      go_upto_region 6 with fail
      go_quiet (fail)
      go_wp2_with fail
      go_ret
      exact ⟨by rw [Hno.out]; rfl, Hm.out.drewN _⟩
    ·have hTb : (T == S) = false := by simp [hT]
     have Hno : Hid (b = false) := Lib.hid (by
      rw [← Hb.out, decide_eq_false_iff_not]
      intro e
      have h1 := Hp.out
      rw [e, Hq.out] at h1
      injection h1 with h1
      injection h1 with h1 _
      exact hT h1.symm)
     go_upto_region 6 with fail
     go_quiet (fail)
     go_wp2_with fail
     go_ret
     exact ⟨by rw [Hno.out]; rfl, Hm.out.drewN _⟩
   ·have hi : i = n1 := by have := Hik.out; omega
    have Hyes : Hid (b = true) := Lib.hid (by
     rw [← Hb.out, decide_eq_true_iff]
     exact SameTo.done (by rw [← hi]; exact Hr.out) Hl1.out Hl2.out)
    clear hi
    go_wp2_with fail
    go_ret
    exact ⟨by rw [Hyes.out]; rfl, Hm.out⟩
 ·have hni : ((n1 : Int) == (n2 : Int)) = false := by simp; omega
  have hni2 : ((n1 : Int) != (n2 : Int)) = true := by simp; omega
  have Hno : Hid (b = false) := Lib.hid (by
   rw [← Hb.out, decide_eq_false_iff_not]
   intro e
   apply hnn
   rw [← Hl1.out, ← Hl2.out, e])
  clear hnn
  go_enter Tryz.func12, Tryz.ntmps12
  go_wp2_with fail
  go_ret
  exact ⟨by rw [Hno.out]; rfl, Mod.refl _ _⟩
end Go.Proofs.YtmeilddngohccaaGreatDoor

/- What the document fixes of layer 10: awake. -/
namespace Go.Proofs.YtmeilddngohccaaGreatDoor
open Go.RowKit

def l3 : List (Int × Nat) := [(1, 7), (2, 7), (3, 7)]
theorem Tabs.alloc {w : World} (h : Tabs w) (o : Obj) : Tabs (w.alloc o) := h.mod ((Mod.refl _ _).alloc o)
end Go.Proofs.YtmeilddngohccaaGreatDoor

/- SuitBack's walk. -/
namespace Go.Proofs.YtmeilddngohccaaGreatDoor
open Go.RowKit

theorem encK_some_of {tag : Int} {l : List (Int × Nat)} (hr : riseB l = true) (h : (toldK tag (vsOf l)).isSome = true) : (encK tag l).isSome = true := by
 unfold encK
 rw [hr, if_pos rfl]
 cases ho : toldK tag (vsOf l) with
 | none => rw [ho] at h; cases h
 | some b => rfl
theorem told1 (v : List Nat) : (toldK 1 v).isSome = true := rfl
theorem told3 (v : List Nat) : (toldK 3 v).isSome = true := rfl
theorem told4 (v : List Nat) : (toldK 4 v).isSome = true := rfl
theorem told5 {v : List Nat} (h : v.length ≤ 256) : (toldK 5 v).isSome = true := by
 show (encD v).isSome = true
 by_cases h0 : v = []
 ·subst h0
  rfl
 ·rw [encD_cons h0 (by have := uniq_le v; omega)]
  rfl
end Go.Proofs.YtmeilddngohccaaGreatDoor

/- Chunks: which rows have a chunk, and bounds of such; what the laws of layer 11 ask. -/
namespace Go.Proofs.YtmeilddngohccaaGreatDoor

/-- A row that rises has a chunk in each codec but two. -/
theorem makeC_is {p : Nat} {l : List (Int × Nat)} (hr : riseB l = true) (h60 : l.length ≤ 256) (h1 : 1 ≤ p) (h6 : p ≤ 6) (h : makeC (p : Int) l = none) : l = [] ∨ p = 2 ∨ p = 6 := by
 by_cases hl : l = []
 ·exact .inl hl
 ·refine .inr ?_
  unfold makeC at h
  rw [if_neg hl, Option.map_eq_none_iff] at h
  have key : ∀ t : Nat, (toldK (t : Int) (vsOf l)).isSome = true → ¬ p = t := fun t ht e => by
   have := encK_some_of hr ht
   rw [← e, h] at this
   cases this
  have n1 := key 1 (told1 _)
  have n3 := key 3 (told3 _)
  have n4 := key 4 (told4 _)
  have n5 := key 5 (told5 (by rw [vsOf_len]; exact h60))
  omega
end Go.Proofs.YtmeilddngohccaaGreatDoor

/- Chunks, of the code: Head. -/
namespace Go.Proofs.YtmeilddngohccaaGreatDoor
open Go.RowKit

/-- The head that is told: none is all 0. -/
def hdV (o : Option ((Nat × Nat × Int × Int) × Nat)) : Nat × Nat × Int × Int := (o.map (·.1)).getD (0, 0, 0, 0)
theorem HeadEnd.any {w w' : World} {bs : List Nat} {n : Nat} {e : Ending} (h : HeadEnd w w' bs n e) :
  ∃ (A : Option Addr) (L c : Nat), e = .returned (.tuple #[.agg #[.int .i64 ((hdV (hdC bs)).1 : Int), .int .i64 ((hdV (hdC bs)).2.1 : Int), .int .i64 (hdV (hdC bs)).2.2.1, .int .i64 (hdV (hdC bs)).2.2.2], .slice A L c, .bool (hdC bs).isSome]) ∧ Mod (fun _ => False) w w' := by
 unfold HeadEnd at h
 cases hd : hdC bs with
 | none =>
  rw [hd] at h
  obtain ⟨rfl, hm⟩ := h
  exact ⟨none, 0, 0, rfl, hm⟩
 | some p =>
  rw [hd] at h
  obtain ⟨A, L, c, _, _, _, rfl, _, hm⟩ := h
  exact ⟨A, L, c, rfl, hm⟩
end Go.Proofs.YtmeilddngohccaaGreatDoor

/- Chunks, of the document: what head answers. -/
namespace Go.Proofs.YtmeilddngohccaaGreatDoor
open Go.RowKit

/-- How many bytes a head takes; none: 0. -/
def hdK (o : Option ((Nat × Nat × Int × Int) × Nat)) : Nat := (o.map (·.2)).getD 0
/-- What head answers. -/
def RHead (w w' : World) (bs : List Nat) (e : Ending) : Prop :=
 e = .returned (.tuple #[.agg #[.int .i64 ((hdV (hdC bs)).1 : Int), .int .i64 ((hdV (hdC bs)).2.1 : Int), .int .i64 (hdV (hdC bs)).2.2.1, .int .i64 (hdV (hdC bs)).2.2.2], .int .i64 (hdK (hdC bs) : Int), .bool (hdC bs).isSome]) ∧ Mod (fun _ => False) w w'
theorem RHead.of_none {w w' : World} {bs : List Nat} (h : hdC bs = none) (hm : Mod (fun _ => False) w w') : RHead w w' bs (.returned (.tuple #[.agg #[.int .i64 0, .int .i64 0, .int .i64 0, .int .i64 0], .int .i64 0, .bool false])) := by
 unfold RHead
 rw [h]
 exact ⟨rfl, hm⟩
theorem RHead.of_some {w w' : World} {bs : List Nat} {t n k : Nat} {f g : Int} (h : hdC bs = some ((t, n, f, g), k)) (hm : Mod (fun _ => False) w w') : RHead w w' bs (.returned (.tuple #[.agg #[.int .i64 (t : Int), .int .i64 (n : Int), .int .i64 f, .int .i64 g], .int .i64 (k : Int), .bool true])) := by
 unfold RHead
 rw [h]
 exact ⟨rfl, hm⟩
end Go.Proofs.YtmeilddngohccaaGreatDoor

/- Chunks, of the document: a head, and how many bytes it takes; Head. -/
namespace Go.Proofs.YtmeilddngohccaaGreatDoor
open Go.RowKit

set_option linter.unusedSimpArgs false in
set_option maxHeartbeats 1000000 in
set_option maxRecDepth 100000 in
theorem rhead_any (A : Option Addr) (n c : Nat) (bs : List Nat) (w : World) (hs : Rds w w.heap.size A n (cells8 bs)) (hlt : lt256 bs) (hnc : n ≤ c) (hcm : c ≤ maxLen) :
  Calls Tryz.prog 18 #[.slice A n c] w fun e w' => RHead w w' bs e := by
 have hlen : bs.length = n := by have := hs.1; rwa [cells8_length] at this
 unfold maxLen at hcm
 obtain ⟨W, hW⟩ : ∃ W, W = w.alloc (.cells #[.int .i64 0, .int .i64 0, .int .i64 0, .int .i64 0] 50) := ⟨_, rfl⟩
 have hmW : Mod (fun _ => False) w W := by rw [hW]; exact (Mod.refl _ _).alloc _
 have hbH : Blk W w.heap.size 50 #[.int .i64 0, .int .i64 0, .int .i64 0, .int .i64 0] := by rw [hW]; exact Blk.new _ _ _
 have hrW := (hs.new hmW).fit
 have hh0 := hbH.cell 0
 have hh1 := hbH.cell 1
 have hh2 := hbH.cell 2
 have hh3 := hbH.cell 3
 have hf0 := hbH.frozen 0
 have hf1 := hbH.frozen 1
 have hf2 := hbH.frozen 2
 have hf3 := hbH.frozen 3
 simp at hh0 hh1 hh2 hh3
 have HW := Lib.hid hW; have HmW := Lib.hid hmW; have HbH := Lib.hid hbH; have HrW := Lib.hid hrW; have Hlt := Lib.hid hlt; have Hlen := Lib.hid hlen
 clear hW hmW hbH hrW hlt hlen hs
 by_cases h0 : n = 0
 ·subst h0
  go_enter Tryz.func18, Tryz.ntmps18
  go_upto_region 1 with fail
  rw [← HW.out]
  go_wp2_with fail
  refine bodyPost_ret (v := .tuple #[.agg #[.int .i64 0, .int .i64 0, .int .i64 0, .int .i64 0], .int .i64 0, .bool false]) (by have h := HbH.out.four (.int .i64 0) (.int .i64 0) (.int .i64 0) (.int .i64 0); simp [results, Tryz.results18, go_sem, h.1, h.2.1, h.2.2.1, h.2.2.2.1]) rfl ?_
  exact RHead.of_none (by rw [List.length_eq_zero_iff.1 Hlen.out]; rfl) (HmW.out.four_new (Nat.le_refl _) _ _ _ _)
 ·obtain ⟨ad, t, rfl, hbt, htl, hcell⟩ := byte_at HrW.out Hlt.out (show 0 < n by omega)
  have ead : ad.add 0 = ad := by simp [Addr.add]
  rw [ead] at hcell
  have hb0 : ((n : Int) == 0) = false := by simp; omega
  have h0n : (0 : Int) < (n : Int) := by omega
  have h0nn : 0 < n := by omega
  have Hbt := Lib.hid hbt
  clear hbt ead
  go_enter Tryz.func18, Tryz.ntmps18
  go_upto_region 1 with fail
  rw [← HW.out]
  by_cases t1 : (t : Int) < 1
  ·go_wp2_with fail
   refine bodyPost_ret (v := .tuple #[.agg #[.int .i64 0, .int .i64 0, .int .i64 0, .int .i64 0], .int .i64 0, .bool false]) (by have h := HbH.out.four (.int .i64 0) (.int .i64 0) (.int .i64 0) (.int .i64 0); simp [results, Tryz.results18, go_sem, h.1, h.2.1, h.2.2.1, h.2.2.2.1]) rfl ?_
   exact RHead.of_none (hdC_bad Hbt.out (by omega)) (HmW.out.four_new (Nat.le_refl _) _ _ _ _)
  by_cases t6 : (6 : Int) < (t : Int)
  ·go_wp2_with fail
   refine bodyPost_ret (v := .tuple #[.agg #[.int .i64 0, .int .i64 0, .int .i64 0, .int .i64 0], .int .i64 0, .bool false]) (by have h := HbH.out.four (.int .i64 0) (.int .i64 0) (.int .i64 0) (.int .i64 0); simp [results, Tryz.results18, go_sem, h.1, h.2.1, h.2.2.1, h.2.2.2.1]) rfl ?_
   exact RHead.of_none (hdC_bad Hbt.out (by omega)) (HmW.out.four_new (Nat.le_refl _) _ _ _ _)
  have h1n : (1 : Int) ≤ (n : Int) := by omega
  have h1c : (1 : Int) ≤ (c : Int) := by omega
  obtain ⟨x0, ex0⟩ : ∃ x, x = hx bs 0 := ⟨_, rfl⟩
  obtain ⟨q0, eq0⟩ : ∃ x, x = hq bs 0 := ⟨_, rfl⟩
  obtain ⟨x1, ex1⟩ : ∃ x, x = hx bs 1 := ⟨_, rfl⟩
  obtain ⟨q1, eq1⟩ : ∃ x, x = hq bs 1 := ⟨_, rfl⟩
  obtain ⟨x2, ex2⟩ : ∃ x, x = hx bs 2 := ⟨_, rfl⟩
  obtain ⟨q2, eq2⟩ : ∃ x, x = hq bs 2 := ⟨_, rfl⟩
  obtain ⟨p1, ep1⟩ : ∃ x, x = hp bs 1 := ⟨_, rfl⟩
  obtain ⟨p2, ep2⟩ : ∃ x, x = hp bs 2 := ⟨_, rfl⟩
  obtain ⟨p3, ep3⟩ : ∃ x, x = hp bs 3 := ⟨_, rfl⟩
  have hlt' : ∀ k, lt256 (bs.drop k) := fun k x hx => Hlt.out x (List.mem_of_mem_drop hx)
  have b0 : p1 = 1 + q0 := by rw [ep1, eq0]; rfl
  have b1 : p2 = p1 + q1 := by rw [ep2, ep1, eq1]; rfl
  have b2 : p3 = p2 + q2 := by rw [ep3, ep2, eq2]; rfl
  have l0 : p1 ≤ n := by
   have h := dec_le_len (hlt' 1)
   rw [List.length_drop, Hlen.out] at h
   have : (dec (bs.drop 1)).2 = q0 := eq0.symm
   omega
  have l1 : p2 ≤ n := by
   have h := dec_le_len (hlt' p1)
   rw [List.length_drop, Hlen.out, ep1] at h
   have : (dec (bs.drop (hp bs 1))).2 = q1 := eq1.symm
   omega
  have l2 : p3 ≤ n := by
   have h := dec_le_len (hlt' p2)
   rw [List.length_drop, Hlen.out, ep2] at h
   have : (dec (bs.drop (hp bs 2))).2 = q2 := eq2.symm
   omega
  have hcd : ∀ k, (cells8 bs).drop k = cells8 (bs.drop k) := fun k => by simp [cells8, List.map_drop]
  obtain ⟨A1, hA1⟩ : ∃ A1, (if c = 1 then some ad else some ⟨ad.block, ad.off + 1, none⟩) = A1 := ⟨_, rfl⟩
  obtain ⟨A2, hA2⟩ : ∃ A2, (if c = p1 then some ad else some (ad.add p1)) = A2 := ⟨_, rfl⟩
  obtain ⟨A3, hA3⟩ : ∃ A3, (if c = p2 then some ad else some (ad.add p2)) = A3 := ⟨_, rfl⟩
  have d1 : Rds W W.heap.size A1 (n - 1) (cells8 (bs.drop 1)) := by
   have h := HrW.out.drop (k := 1) (cap := c) (by omega) hnc
   rw [hcd] at h
   rw [← hA1]
   exact h
  have d2 : Rds W W.heap.size A2 (n - p1) (cells8 (bs.drop p1)) := by
   have h := HrW.out.drop (k := p1) (cap := c) (by omega) hnc
   rw [hcd] at h
   rw [← hA2]
   exact h
  have d3 : Rds W W.heap.size A3 (n - p2) (cells8 (bs.drop p2)) := by
   have h := HrW.out.drop (k := p2) (cap := c) (by omega) hnc
   rw [hcd] at h
   rw [← hA3]
   exact h
  have c1 := vrget_any A1 (n - 1) (c - 1) W.heap.size (bs.drop 1) W d1 (hlt' 1) (by unfold maxLen; omega)
  have c2 := vrget_any A2 (n - p1) (c - p1) W.heap.size (bs.drop p1) W d2 (hlt' p1) (by unfold maxLen; omega)
  have c3 := vrget_any A3 (n - p2) (c - p2) W.heap.size (bs.drop p2) W d3 (hlt' p2) (by unfold maxLen; omega)
  have v1 : (dec (bs.drop 1)).1 = x0 ∧ (dec (bs.drop 1)).2 = q0 := ⟨ex0.symm, eq0.symm⟩
  have v2 : (dec (bs.drop p1)).1 = x1 ∧ (dec (bs.drop p1)).2 = q1 := by rw [ep1]; exact ⟨ex1.symm, eq1.symm⟩
  have v3 : (dec (bs.drop p2)).1 = x2 ∧ (dec (bs.drop p2)).2 = q2 := by rw [ep2]; exact ⟨ex2.symm, eq2.symm⟩
  rw [v1.1, v1.2] at c1
  rw [v2.1, v2.2] at c2
  rw [v3.1, v3.2] at c3
  have hw1 : IntKind.i64.wrap (1 + (q0 : Int)) = (p1 : Int) := by rw [IntWalk.i64_in _ (by omega)]; omega
  have hw2 : IntKind.i64.wrap ((p1 : Int) + (q1 : Int)) = (p2 : Int) := by rw [IntWalk.i64_in _ (by omega)]; omega
  have hw3 : IntKind.i64.wrap ((p2 : Int) + (q2 : Int)) = (p3 : Int) := by rw [IntWalk.i64_in _ (by omega)]; omega
  have hp1n : (p1 : Int) ≤ (n : Int) := by omega
  have hp2n : (p2 : Int) ≤ (n : Int) := by omega
  have hp1c : (p1 : Int) ≤ (c : Int) := by omega
  have hp2c : (p2 : Int) ≤ (c : Int) := by omega
  have hp10 : (0 : Int) ≤ (p1 : Int) := by omega
  have hp20 : (0 : Int) ≤ (p2 : Int) := by omega
  have hx0l : x0 < 18446744073709551616 := ex0 ▸ hx_lt Hlt.out 0
  have hx1l : x1 < 18446744073709551616 := ex1 ▸ hx_lt Hlt.out 1
  have hx2l : x2 < 18446744073709551616 := ex2 ▸ hx_lt Hlt.out 2
  obtain ⟨cn, hcn⟩ : ∃ cn : Nat, cn = min x0 65536 := ⟨_, rfl⟩
  have hcnl : cn ≤ 65536 := by omega
  have hmin : (if (65536 : Int) < (x0 : Int) then (65536 : Int) else (x0 : Int)) = (cn : Int) := by split <;> omega
  have hwc : IntKind.i64.wrap (cn : Int) = (cn : Int) := by rw [IntWalk.i64_in _ (by omega)]
  have hwt : IntKind.i64.wrap (t : Int) = (t : Int) := by rw [IntWalk.i64_in _ (by omega)]
  obtain ⟨f, hf⟩ : ∃ f, f = zag (x1 : Int) := ⟨_, rfl⟩
  obtain ⟨g, hg⟩ : ∃ g, g = zag (x2 : Int) := ⟨_, rfl⟩
  have hz1 := fun W' => rzag_any (x1 : Int) W' ⟨by omega, by omega⟩
  have hz2 := fun W' => rzag_any (x2 : Int) W' ⟨by omega, by omega⟩
  rw [← hf] at hz1
  rw [← hg] at hz2
  have C1 := Lib.hid c1; have C2 := Lib.hid c2; have C3 := Lib.hid c3; have Hz1 := Lib.hid hz1; have Hz2 := Lib.hid hz2
  have Ex0 := Lib.hid ex0; have Ex1 := Lib.hid ex1; have Ex2 := Lib.hid ex2; have Eq0 := Lib.hid eq0; have Eq1 := Lib.hid eq1; have Eq2 := Lib.hid eq2; have Ep3 := Lib.hid ep3; have Hf := Lib.hid hf; have Hg := Lib.hid hg; have Hcn := Lib.hid hcn
  have Hx1l : Hid (x1 < 18446744073709551616) := Lib.hid hx1l
  clear c1 c2 c3 hz1 hz2 ex0 ex1 ex2 eq0 eq1 eq2 ep1 ep2 ep3 hf hg hcn v1 v2 v3 d1 d2 d3 hlt' b0 b1 b2 hcd hx1l hx2l
  go_upto_region 3 with fail
  go_wp2_with fail
  refine C1.out.mono ?_
  rintro e w' ⟨rfl, rfl⟩
  go_wp2_with fail
  refine C2.out.mono ?_
  rintro e w' ⟨rfl, rfl⟩
  go_wp2_with fail
  refine C3.out.mono ?_
  rintro e w' ⟨rfl, rfl⟩
  have Had : Hid (ad.block < W.heap.size) := Lib.hid (by
   obtain ⟨ad', hA, hbl, _⟩ := HrW.out.2 (by omega)
   injection hA with hA
   subst hA
   exact hbl)
  have hX : ∀ W', Mod (fun _ => False) W W' → Mod (fun _ => False) W W' ∧ W'.cell? ad = some (.int .u8 (t : Int)) := fun W' h => ⟨h, (h.cell (a := ad) Had.out (fun h => h)).trans hcell⟩
  have S1 := Lib.hid (hX W.drew (Mod.refl _ _).drew)
  have S2 := Lib.hid (hX (W.alloc (.cells #[.int .i64 0, .int .i64 0, .int .i64 0, .int .i64 0] 50)).drew ((Mod.refl _ _).alloc _).drew)
  have S3 := Lib.hid (hX (W.alloc (.cells #[.int .i64 (t : Int), .int .i64 (cn : Int), .int .i64 f, .int .i64 g] 50)).drew ((Mod.refl _ _).alloc _).drew)
  obtain ⟨W2, hW2⟩ : ∃ W2, W2 = (W.alloc (.cells #[.int .i64 (t : Int), .int .i64 (cn : Int), .int .i64 f, .int .i64 g] 50)).drew := ⟨_, rfl⟩
  have hm2 : Mod (fun _ => False) w W2 := by rw [hW2]; exact (HmW.out.alloc _).drew
  have hbH2 : Blk W2 w.heap.size 50 #[.int .i64 0, .int .i64 0, .int .i64 0, .int .i64 0] := by rw [hW2]; exact (HbH.out.alloc _).drew
  have hbN : Blk W2 W.heap.size 50 #[.int .i64 (t : Int), .int .i64 (cn : Int), .int .i64 f, .int .i64 g] := by rw [hW2]; exact (Blk.new _ _ _).drew
  have HW2 := Lib.hid hW2; have Hm2 := Lib.hid hm2; have HbH2 := Lib.hid hbH2; have HbN := Lib.hid hbN
  clear hW2 hm2 hbH2 hbN hcell hh0 hh1 hh2 hh3 hf0 hf1 hf2 hf3 hX C1 C2 C3 hA1 hA2 hA3
  have Hw1 := Lib.hid hw1; have Hw2 := Lib.hid hw2; have Hw3 := Lib.hid hw3; have Hb0 := Lib.hid hb0; have Hnc := Lib.hid hnc; have T1 := Lib.hid t1; have T6 := Lib.hid t6
  go_upto_region 6 with fail
  clear hw1 hw2 hw3 hb0 hnc t1 t6 hp1n hp2n hp1c hp2c hp10 hp20 l0 l1 l2 h1n h1c hcm h0
  go_cut [11] (fun s11 wc => s11 = .pointer (some ⟨W.heap.size, 0, none⟩) ∧ wc = W2)
  case first =>
   refine wp_region_held_drew (S := (fun W' => Mod (fun _ => False) W W' ∧ W'.cell? ad = some (.int .u8 (t : Int)))) (by kernel_rfl) S1.out (fun hHeld => ?_)
   refine wpAnyH_take (i := 0) (v := ?_) rfl (by kernel_rfl) (by kernel_rfl) (by kernel_rfl) (fun _ _ _ h => h) (Or.inl ⟨by rfl, ?_⟩) hHeld ?_
   rotate_left
   ·(intro w hSw; (try dsimp only at hSw); go_simp; first | done | with_reducible rfl)
   simp only [Act.put, List.setIfInBounds_toArray, List.set_cons_zero, List.set_cons_succ]
   refine wpAnyH_take (i := 1) (v := ?_) rfl (by kernel_rfl) (by kernel_rfl) (by kernel_rfl) (fun _ _ _ h => h) (Or.inl ⟨by rfl, ?_⟩) hHeld ?_
   rotate_left
   ·(intro w hSw; (try dsimp only at hSw); go_simp; first | done | with_reducible rfl)
   simp only [Act.put, List.setIfInBounds_toArray, List.set_cons_zero, List.set_cons_succ]
   refine wpAnyH_take (i := 2) (v := ?_) rfl (by kernel_rfl) (by kernel_rfl) (by kernel_rfl) (fun _ _ _ h => h) (Or.inl ⟨by rfl, ?_⟩) hHeld ?_
   rotate_left
   ·(intro w hSw; (try dsimp only at hSw); go_simp; first | done | with_reducible rfl)
   simp only [Act.put, List.setIfInBounds_toArray, List.set_cons_zero, List.set_cons_succ]
   refine wpAnyH_take (i := 3) (v := ?_) rfl (by kernel_rfl) (by kernel_rfl) (by kernel_rfl) (fun _ _ _ h => h) (Or.inl ⟨by rfl, ?_⟩) hHeld ?_
   rotate_left
   ·(intro w hSw; (try dsimp only at hSw); go_simp; first | done | with_reducible rfl)
   simp only [Act.put, List.setIfInBounds_toArray, List.set_cons_zero, List.set_cons_succ]
   refine wpAnyH_take (i := 4) (v := ?_) rfl (by kernel_rfl) (by kernel_rfl) (by kernel_rfl) (fun _ _ _ h => h) (Or.inl ⟨by rfl, ?_⟩) hHeld ?_
   rotate_left
   ·(intro w hSw; (try dsimp only at hSw); go_simp; first | done | with_reducible rfl)
   simp only [Act.put, List.setIfInBounds_toArray, List.set_cons_zero, List.set_cons_succ]
   refine wpAnyH_take (i := 5) (v := ?_) rfl (by kernel_rfl) (by kernel_rfl) (by kernel_rfl) (fun _ _ _ h => h) (Or.inl ⟨by rfl, ?_⟩) hHeld ?_
   rotate_left
   ·(intro w hSw; (try dsimp only at hSw); go_simp; first | done | with_reducible rfl)
   simp only [Act.put, List.setIfInBounds_toArray, List.set_cons_zero, List.set_cons_succ]
   refine wpAnyH_take (i := 6) (v := ?_) rfl (by kernel_rfl) (by kernel_rfl) (by kernel_rfl) (fun _ _ _ h => h) (Or.inl ⟨by rfl, ?_⟩) hHeld ?_
   rotate_left
   ·(intro w hSw; (try dsimp only at hSw); go_simp; first | done | with_reducible rfl)
   simp only [Act.put, List.setIfInBounds_toArray, List.set_cons_zero, List.set_cons_succ]
   refine wpAnyH_take (i := 7) (v := ?_) rfl (by kernel_rfl) (by kernel_rfl) (by kernel_rfl) (fun _ _ _ h => h) (Or.inl ⟨by rfl, ?_⟩) hHeld ?_
   rotate_left
   ·(intro w hSw; (try dsimp only at hSw); go_simp; first | done | with_reducible rfl)
   simp only [Act.put, List.setIfInBounds_toArray, List.set_cons_zero, List.set_cons_succ]
   refine wpAnyH_take (i := 9) (v := ?_) rfl (by kernel_rfl) (by kernel_rfl) (by kernel_rfl) (fun _ _ _ h => h) (Or.inl ⟨by rfl, ?_⟩) hHeld ?_
   rotate_left
   ·(intro w hSw; (try dsimp only at hSw); go_simp; first | done | with_reducible rfl)
   simp only [Act.put, List.setIfInBounds_toArray, List.set_cons_zero, List.set_cons_succ]
   refine wpAnyH_ready (rs := [8, 12]) (by kernel_rfl) (by simp) (AllReadyH.cons rfl (fun K hK => ?_) (AllReadyH.cons rfl (fun K hK => ?_) AllReadyH.nil))
   ·go_simp
    go_wp2_with (go_at_call 27; with_reducible refine (Hz1.out _).mono ?_; rintro e w1 ⟨rfl, rfl⟩)
    refine hK.out _ _ S1.out (fun hHeld => ?_)
    clear hK K
    refine wpAnyH_ready (rs := [10, 12]) (by kernel_rfl) (by simp) (AllReadyH.cons rfl (fun K hK => ?_) (AllReadyH.cons rfl (fun K hK => ?_) AllReadyH.nil))
    ·go_simp
     go_wp2_with (go_at_call 27; with_reducible refine (Hz2.out _).mono ?_; rintro e w1 ⟨rfl, rfl⟩)
     refine hK.out _ _ S1.out (fun hHeld => ?_)
     clear hK K
     refine wpAnyH_take (i := 11) (v := ?_) rfl (by kernel_rfl) (by kernel_rfl) (by kernel_rfl) (fun _ _ _ h => h) (Or.inl ⟨by rfl, ?_⟩) hHeld ?_
     rotate_left
     ·(intro w hSw; (try dsimp only at hSw); go_simp; first | done | with_reducible rfl)
     simp only [Act.put, List.setIfInBounds_toArray, List.set_cons_zero, List.set_cons_succ]
     refine wpAnyH_ready (rs := [12]) (by kernel_rfl) (by simp) (AllReadyH.cons rfl (fun K hK => ?_) AllReadyH.nil)
     go_simp
     refine hK.out _ _ S2.out (fun hHeld => ?_)
     clear hK K
     refine wpAnyH_ready (rs := [13]) (by kernel_rfl) (by simp) (AllReadyH.cons rfl (fun K hK => ?_) AllReadyH.nil)
     go_simp
     refine hK.out _ _ S3.out (fun hHeld => ?_)
     clear hK K
     refine wpAnyH_done (by kernel_rfl) ?_ _
     go_wp2_with fail
     go_meet
     exact ⟨rfl, HW2.out.symm⟩
    ·go_simp
     refine hK.out _ _ S2.out (fun hHeld => ?_)
     clear hK K
     refine wpAnyH_ready (rs := [10]) (by kernel_rfl) (by simp) (AllReadyH.cons rfl (fun K hK => ?_) AllReadyH.nil)
     go_simp
     go_wp2_with (go_at_call 27; with_reducible refine (Hz2.out _).mono ?_; rintro e w1 ⟨rfl, rfl⟩)
     refine hK.out _ _ S2.out (fun hHeld => ?_)
     clear hK K
     refine wpAnyH_take (i := 11) (v := ?_) rfl (by kernel_rfl) (by kernel_rfl) (by kernel_rfl) (fun _ _ _ h => h) (Or.inl ⟨by rfl, ?_⟩) hHeld ?_
     rotate_left
     ·(intro w hSw; (try dsimp only at hSw); go_simp; first | done | with_reducible rfl)
     simp only [Act.put, List.setIfInBounds_toArray, List.set_cons_zero, List.set_cons_succ]
     refine wpAnyH_ready (rs := [13]) (by kernel_rfl) (by simp) (AllReadyH.cons rfl (fun K hK => ?_) AllReadyH.nil)
     go_simp
     refine hK.out _ _ S3.out (fun hHeld => ?_)
     clear hK K
     refine wpAnyH_done (by kernel_rfl) ?_ _
     go_wp2_with fail
     go_meet
     exact ⟨rfl, HW2.out.symm⟩
   ·go_simp
    refine hK.out _ _ S2.out (fun hHeld => ?_)
    clear hK K
    refine wpAnyH_ready (rs := [8]) (by kernel_rfl) (by simp) (AllReadyH.cons rfl (fun K hK => ?_) AllReadyH.nil)
    go_simp
    go_wp2_with (go_at_call 27; with_reducible refine (Hz1.out _).mono ?_; rintro e w1 ⟨rfl, rfl⟩)
    refine hK.out _ _ S2.out (fun hHeld => ?_)
    clear hK K
    refine wpAnyH_ready (rs := [10]) (by kernel_rfl) (by simp) (AllReadyH.cons rfl (fun K hK => ?_) AllReadyH.nil)
    go_simp
    go_wp2_with (go_at_call 27; with_reducible refine (Hz2.out _).mono ?_; rintro e w1 ⟨rfl, rfl⟩)
    refine hK.out _ _ S2.out (fun hHeld => ?_)
    clear hK K
    refine wpAnyH_take (i := 11) (v := ?_) rfl (by kernel_rfl) (by kernel_rfl) (by kernel_rfl) (fun _ _ _ h => h) (Or.inl ⟨by rfl, ?_⟩) hHeld ?_
    rotate_left
    ·(intro w hSw; (try dsimp only at hSw); go_simp; first | done | with_reducible rfl)
    simp only [Act.put, List.setIfInBounds_toArray, List.set_cons_zero, List.set_cons_succ]
    refine wpAnyH_ready (rs := [13]) (by kernel_rfl) (by simp) (AllReadyH.cons rfl (fun K hK => ?_) AllReadyH.nil)
    go_simp
    refine hK.out _ _ S3.out (fun hHeld => ?_)
    clear hK K
    refine wpAnyH_done (by kernel_rfl) ?_ _
    go_wp2_with fail
    go_meet
    exact ⟨rfl, HW2.out.symm⟩
  case rest =>
  obtain ⟨rfl, rfl⟩ := hcut
  have hw1 := Hw1.out; have hw2 := Hw2.out; have hw3 := Hw3.out; have t1 := T1.out; have t6 := T6.out
  have k0 := HbN.out.cell 0
  have k1 := HbN.out.cell 1
  have k2 := HbN.out.cell 2
  have k3 := HbN.out.cell 3
  have z0 := HbH2.out.cell 0
  have z1 := HbH2.out.cell 1
  have z2 := HbH2.out.cell 2
  have z3 := HbH2.out.cell 3
  have y0 := HbH2.out.frozen 0
  have y1 := HbH2.out.frozen 1
  have y2 := HbH2.out.frozen 2
  have y3 := HbH2.out.frozen 3
  simp at k0 k1 k2 k3 z0 z1 z2 z3
  clear S1 S2 S3 Hz1 Hz2 HbN HW2 hmin hwc hwt
  by_cases n0 : q0 = 0
  ·have Hno : Hid (hdC bs = none) := Lib.hid (hdC_stop (i := 0) (by omega) (by rw [← Eq0.out]; exact n0))
   subst n0
   go_wp2_with fail
   refine bodyPost_ret (v := .tuple #[.agg #[.int .i64 0, .int .i64 0, .int .i64 0, .int .i64 0], .int .i64 0, .bool false]) (by have h := HbH2.out.four (.int .i64 0) (.int .i64 0) (.int .i64 0) (.int .i64 0); simp [results, Tryz.results18, go_sem, h.1, h.2.1, h.2.2.1, h.2.2.2.1]) rfl ?_
   exact RHead.of_none (Hno.out) (Hm2.out.four_new (Nat.le_refl _) _ _ _ _)
  have n0b : ((q0 : Int) == 0) = false := by simp; omega
  by_cases n1 : q1 = 0
  ·have Hno : Hid (hdC bs = none) := Lib.hid (hdC_stop (i := 1) (by omega) (by rw [← Eq1.out]; exact n1))
   subst n1
   go_wp2_with fail
   refine bodyPost_ret (v := .tuple #[.agg #[.int .i64 0, .int .i64 0, .int .i64 0, .int .i64 0], .int .i64 0, .bool false]) (by have h := HbH2.out.four (.int .i64 0) (.int .i64 0) (.int .i64 0) (.int .i64 0); simp [results, Tryz.results18, go_sem, h.1, h.2.1, h.2.2.1, h.2.2.2.1]) rfl ?_
   exact RHead.of_none (Hno.out) (Hm2.out.four_new (Nat.le_refl _) _ _ _ _)
  have n1b : ((q1 : Int) == 0) = false := by simp; omega
  by_cases n2 : q2 = 0
  ·have Hno : Hid (hdC bs = none) := Lib.hid (hdC_stop (i := 2) (by omega) (by rw [← Eq2.out]; exact n2))
   subst n2
   go_wp2_with fail
   refine bodyPost_ret (v := .tuple #[.agg #[.int .i64 0, .int .i64 0, .int .i64 0, .int .i64 0], .int .i64 0, .bool false]) (by have h := HbH2.out.four (.int .i64 0) (.int .i64 0) (.int .i64 0) (.int .i64 0); simp [results, Tryz.results18, go_sem, h.1, h.2.1, h.2.2.1, h.2.2.2.1]) rfl ?_
   exact RHead.of_none (Hno.out) (Hm2.out.four_new (Nat.le_refl _) _ _ _ _)
  have n2b : ((q2 : Int) == 0) = false := by simp; omega
  by_cases u1 : (x0 : Int) < 1
  ·go_wp2_with fail
   refine bodyPost_ret (v := .tuple #[.agg #[.int .i64 0, .int .i64 0, .int .i64 0, .int .i64 0], .int .i64 0, .bool false]) (by have h := HbH2.out.four (.int .i64 0) (.int .i64 0) (.int .i64 0) (.int .i64 0); simp [results, Tryz.results18, go_sem, h.1, h.2.1, h.2.2.1, h.2.2.2.1]) rfl ?_
   exact RHead.of_none (hdC_bad Hbt.out (by rw [← Ex0.out, ← Ex1.out, ← Ex2.out, ← Hf.out, ← Hg.out]; omega)) (Hm2.out.four_new (Nat.le_refl _) _ _ _ _)
  by_cases u2 : (65535 : Int) < (x0 : Int)
  ·go_wp2_with fail
   refine bodyPost_ret (v := .tuple #[.agg #[.int .i64 0, .int .i64 0, .int .i64 0, .int .i64 0], .int .i64 0, .bool false]) (by have h := HbH2.out.four (.int .i64 0) (.int .i64 0) (.int .i64 0) (.int .i64 0); simp [results, Tryz.results18, go_sem, h.1, h.2.1, h.2.2.1, h.2.2.2.1]) rfl ?_
   exact RHead.of_none (hdC_bad Hbt.out (by rw [← Ex0.out, ← Ex1.out, ← Ex2.out, ← Hf.out, ← Hg.out]; omega)) (Hm2.out.four_new (Nat.le_refl _) _ _ _ _)
  by_cases fg : g < f
  ·go_wp2_with fail
   refine bodyPost_ret (v := .tuple #[.agg #[.int .i64 0, .int .i64 0, .int .i64 0, .int .i64 0], .int .i64 0, .bool false]) (by have h := HbH2.out.four (.int .i64 0) (.int .i64 0) (.int .i64 0) (.int .i64 0); simp [results, Tryz.results18, go_sem, h.1, h.2.1, h.2.2.1, h.2.2.2.1]) rfl ?_
   exact RHead.of_none (hdC_bad Hbt.out (by rw [← Ex0.out, ← Ex1.out, ← Ex2.out, ← Hf.out, ← Hg.out]; omega)) (Hm2.out.four_new (Nat.le_refl _) _ _ _ _)
  have hgood : hdC bs = some ((t, cn, f, g), p3) := by
   have hcx : cn = x0 := by rw [Hcn.out]; omega
   rw [hcx, Ex0.out, Hf.out, Hg.out, Ex1.out, Ex2.out, Ep3.out]
   refine hdC_good Hbt.out (by omega) (by omega) (fun i hi => ?_) (by rw [← Ex0.out]; omega) (by rw [← Ex0.out]; omega) (by rw [← Ex1.out, ← Ex2.out, ← Hf.out, ← Hg.out]; omega)
   have h3 : i = 0 ∨ i = 1 ∨ i = 2 := by omega
   rcases h3 with rfl | rfl | rfl
   ·rw [← Eq0.out]; exact n0
   ·rw [← Eq1.out]; exact n1
   ·rw [← Eq2.out]; exact n2
  have Hgood := Lib.hid hgood
  clear hgood
  go_wp2_with fail
  refine bodyPost_ret (v := .tuple #[.agg #[.int .i64 (t : Int), .int .i64 (cn : Int), .int .i64 f, .int .i64 g], .int .i64 (p3 : Int), .bool true]) (by have h := HbH2.out.four (.int .i64 (t : Int)) (.int .i64 (cn : Int)) (.int .i64 f) (.int .i64 g); simp [results, Tryz.results18, go_sem, h.1, h.2.1, h.2.2.1, h.2.2.2.1]) rfl ?_
  exact RHead.of_some Hgood.out (Hm2.out.four_new (Nat.le_refl _) _ _ _ _)
end Go.Proofs.YtmeilddngohccaaGreatDoor

/- The document's own Rising, values and steps. -/
namespace Go.Proofs.YtmeilddngohccaaGreatDoor
open Go.RowKit

set_option maxHeartbeats 1000000 in
set_option maxRecDepth 100000 in
theorem rrising_any (A : Option Addr) (n c : Nat) (l : List (Int × Nat)) (w : World) (hs : RdsS w w.heap.size A n l) (hn : n ≤ 1000000) :
  Calls Tryz.prog 52 #[.slice A n c] w fun e w' => e = .returned (.bool (riseB l)) ∧ Mod (fun _ => False) w w' := by
 have Hs := Lib.hid hs; have Hl := Lib.hid hs.1
 have hcs : Tryz.prog.cellsOf 28 = 2 := by kernel_rfl
 clear hs
 go_enter Tryz.func52, Tryz.ntmps52
 go_wp2_with fail
 go_loopg [3] n (fun k s3 wr => ∃ i : Nat, i + k = n + 1 ∧ 1 ≤ i ∧ s3 = .int .i64 (i : Int) ∧ RiseTo l i ∧ Mod (fun _ => False) w wr)
 case atStart => exact ⟨1, by omega, Nat.le_refl _, rfl, (fun j a b h => by omega), Mod.refl _ _⟩
 case round =>
  obtain ⟨i, hik, hi1, rfl, hr, hm⟩ := hrel
  have Hik := Lib.hid hik; have Hr := Lib.hid hr; have Hm := Lib.hid hm
  clear hik hr hm
  by_cases hin : i < n
  ·obtain ⟨ad, p, rfl, _, hp, hc0, _⟩ := Hs.out.at2 hin (Nat.le_refl _) Hm.out (fun _ _ h => h)
   have Hp := Lib.hid hp
   clear hp
   obtain ⟨j, hj⟩ : ∃ j, i = j + 1 := ⟨i - 1, by omega⟩
   have hjn : j < n := by omega
   have hwj : IntKind.i64.wrap ((i : Int) - 1) = (j : Int) := by rw [IntWalk.i64_in _ (by omega)]; omega
   have hwj2 : (i : Int) - 1 = (j : Int) := by omega
   have hini : (i : Int) < (n : Int) := by omega
   have hjni : (j : Int) < (n : Int) := by omega
   have Hj := Lib.hid hj
   clear hj
   obtain ⟨ad2, q, hA2, _, hq, hd0, _⟩ := Hs.out.at2 hjn (Nat.le_refl _) Hm.out (fun _ _ h => h)
   injection hA2 with hA2
   subst hA2
   have Hq := Lib.hid hq
   clear hq
   obtain ⟨x, hx⟩ : ∃ x, x = p.1 := ⟨_, rfl⟩
   obtain ⟨y, hy⟩ : ∃ y, y = q.1 := ⟨_, rfl⟩
   rw [← hx] at hc0
   rw [← hy] at hd0
   have Hx := Lib.hid hx; have Hy := Lib.hid hy
   clear hx hy
   by_cases hxy : x ≤ y
   ·go_upto_region 4 with fail
    go_quiet (fail)
    go_wp2_with fail
    go_ret
    refine ⟨?_, Hm.out.drewN _⟩
    rw [riseB_fall (i := j) Hq.out (by rw [← Hj.out]; exact Hp.out) (by rw [← Hx.out, ← Hy.out]; exact hxy)]
    rfl
   ·go_upto_region 4 with fail
    go_quiet (fail)
    go_wp2_with fail
    go_roundg (gk - 1)
    case measure => have := Hik.out; omega
    case rel => exact ⟨i + 1, by have := Hik.out; omega, by omega, by go_num, (by
     have h1 := Hr.out; have h2 := Hp.out; have h3 := Hj.out
     subst h3
     exact h1.more Hq.out h2 (by rw [← Hx.out, ← Hy.out]; omega)), Hm.out.drewN _⟩
  ·have hall : Hid (RiseTo l l.length) := Lib.hid (fun j a b hj ha hb => Hr.out j a b (by have := Hl.out; omega) ha hb)
   by_cases hbig : n ≤ 65535
   ·have hbi : decide ((n : Int) ≤ 65535) = true := by simp; omega
    have hbn : (n : Int) ≤ 65535 := by omega
    go_wp2_with fail
    go_ret
    refine ⟨?_, Hm.out⟩
    rw [riseB_true hall.out (by rw [Hl.out]; exact hbig)]
    rfl
   ·have hbn : ¬ (n : Int) ≤ 65535 := by omega
    have hbi : decide ((n : Int) ≤ 65535) = false := by simp; omega
    go_wp2_with fail
    go_ret
    refine ⟨?_, Hm.out⟩
    rw [riseB_long (by rw [Hl.out]; omega)]
    rfl
/-- The first i values. -/
def RowVals (w wr : World) (l : List (Int × Nat)) (i : Nat) (v : Value) : Prop := Own w.heap.size wr 26 v (cellsU (vsOf (l.take i))) ∧ Mod (fun _ => False) w wr
theorem vs_take {l : List (Int × Nat)} {i : Nat} {p : Int × Nat} (h : l[i]? = some p) : vsOf (l.take (i + 1)) = vsOf (l.take i) ++ [p.2] := by
 have e : l.take (i + 1) = l.take i ++ [p] := by
  obtain ⟨hi, rfl⟩ := List.getElem?_eq_some_iff.1 h
  exact List.take_succ_eq_append_getElem hi
 rw [e]
 simp [vsOf]
theorem ts_take {l : List (Int × Nat)} {i : Nat} {p : Int × Nat} (h : l[i]? = some p) : tsOf (l.take (i + 1)) = tsOf (l.take i) ++ [p.1] := by
 have e : l.take (i + 1) = l.take i ++ [p] := by
  obtain ⟨hi, rfl⟩ := List.getElem?_eq_some_iff.1 h
  exact List.take_succ_eq_append_getElem hi
 rw [e]
 simp [tsOf]
set_option maxHeartbeats 1000000 in
set_option maxRecDepth 100000 in
theorem rvals_any (A : Option Addr) (n c : Nat) (l : List (Int × Nat)) (w : World) (hs : RdsS w w.heap.size A n l) (hn : n ≤ 1000000) :
  Calls Tryz.prog 51 #[.slice A n c] w fun e w' => ∃ v, e = .returned v ∧ Own w.heap.size w' 26 v (cellsU (vsOf l)) ∧ Mod (fun _ => False) w w' := by
 have Hs := Lib.hid hs; have Hl := Lib.hid hs.1
 have hcs : Tryz.prog.cellsOf 28 = 2 := by kernel_rfl
 have H0 : Hid (RowVals w w l 0 (.slice none 0 0)) := Lib.hid ⟨Own.nil _ _ _, Mod.refl _ _⟩
 clear hs
 go_enter Tryz.func51, Tryz.ntmps51
 go_wp2_with fail
 go_loopg [3, 4] n (fun k s3 s4 wr => ∃ i : Nat, i + k = n ∧ s4 = .int .i64 (i : Int) ∧ RowVals w wr l i s3)
 case atStart => exact ⟨0, by omega, rfl, H0.out⟩
 case round =>
  obtain ⟨i, hik, rfl, hV⟩ := hrel
  have Hik := Lib.hid hik; have HV := Lib.hid hV
  clear hik hV H0
  by_cases hin : i < n
  ·obtain ⟨ad, ⟨T, V⟩, rfl, _, hp, _, hc1⟩ := Hs.out.at2 hin (Nat.le_refl _) HV.out.2 (fun _ _ h => h)
   have hc1' := cell_whole hc1
   have hini : (i : Int) < (n : Int) := by omega
   have Hp := Lib.hid hp
   have hlen : (cellsU (vsOf (l.take i))).length ≤ 1000000 := by rw [cellsU_length, vsOf_len, List.length_take]; omega
   have HR : Hid ((cellsU (vsOf (l.take i))).length + 1 ≤ maxLen ∧ ((cellsU (vsOf (l.take i))).length + 1) * 8 ≤ 140737488355328) := Lib.hid ⟨by unfold maxLen; omega, by omega⟩
   have hsz := HV.out.2.size
   clear hp hlen
   go_wp2_with (at_builtin; refine wpList_app1 rfl (.tmp 11) (.tmp 17) _ rfl eltU rfl HV.out.1 rfl rfl rfl HR.out.1 HR.out.2 hsz ?_; intro v2 w2 HO HB)
   have HV2 : Hid (RowVals w w2 l (i + 1) v2) := Lib.hid ⟨by rw [vs_take Hp.out, cellsU_snoc]; exact HO.out, HV.out.2.trans (Mod.of_below HB.out) (fun i hi h => by omega)⟩
   go_roundg (gk - 1)
   case measure => have := Hik.out; omega
   case rel => exact ⟨i + 1, by have := Hik.out; omega, by go_num, HV2.out⟩
  ·have hi : i = n := by have := Hik.out; omega
   obtain ⟨h1, h2⟩ := HV.out
   rw [List.take_of_length_le (by rw [Hl.out]; omega)] at h1
   have X := Lib.hid (And.intro h1 h2)
   clear h1 h2 hi
   go_wp2_with fail
   go_ret
   exact ⟨_, rfl, X.out⟩
set_option maxHeartbeats 1000000 in
set_option maxRecDepth 100000 in
theorem rsteps_any (A : Option Addr) (n cap : Nat) (us : List Nat) (w : World) (hs : Rds w w.heap.size A n (cellsU us)) (hu : ∀ x ∈ us, x < 2 ^ 64) (hn : n ≤ 1000000) :
  Calls Tryz.prog 77 #[.slice A n cap] w fun e w' => ∃ v, e = .returned v ∧ Own w.heap.size w' 26 v (cellsU (stepsU 0 us)) ∧ Mod (fun _ => False) w w' := by
 have hul : us.length = n := by have := hs.1; rwa [cellsU_length] at this
 have Hs := Lib.hid hs; have Hu := Lib.hid hu; have Hul := Lib.hid hul
 have H0 : Hid (StepTo w w us 0 (.slice none 0 0) 0) := Lib.hid ⟨Own.nil _ _ _, rfl, by decide, Mod.refl _ _⟩
 clear hs hu hul
 go_enter Tryz.func77, Tryz.ntmps77
 go_wp2_with fail
 go_loopg [3, 4, 5] n (fun l s3 s4 s5 wr => ∃ i last : Nat, i + l = n ∧ s5 = .int .i64 (i : Int) ∧ s4 = .int .u64 (last : Int) ∧ StepTo w wr us i s3 last)
 case atStart => exact ⟨0, 0, by omega, rfl, rfl, H0.out⟩
 case round =>
  obtain ⟨i, last, hil, rfl, rfl, hP⟩ := hrel
  have Hil := Lib.hid hil; have HP := Lib.hid hP
  clear hil hP H0
  by_cases hin : i < n
  ·obtain ⟨ad, x, rfl, hx, hcx⟩ := Hs.out.at2 hin (Nat.le_refl _) HP.out.2.2.2 (fun _ _ h => h)
   have hx64 := Hu.out x (List.mem_of_getElem? hx)
   have hl64 := HP.out.2.2.1
   have hini : (i : Int) < (n : Int) := by omega
   obtain ⟨y, hy⟩ : ∃ y, y = (x + M64 - last) % M64 := ⟨_, rfl⟩
   have hyl : y < M64 := by rw [hy]; exact Nat.mod_lt _ (by decide)
   have hw1 : IntKind.u64.wrap ((x : Int) - (last : Int)) = (y : Int) := by
    rw [IntKind.wrap_u64, hy]
    show _ = (((x + 18446744073709551616 - last) % 18446744073709551616 : Nat) : Int)
    omega
   have hw2 : wrap64 (y : Int) = sg y := by rw [wrap_sg, un_nat hyl]
   have hfi : FitI (sg y) := of_fits' (sg_fits hyl)
   obtain ⟨d, hd⟩ : ∃ d, d = sg y := ⟨_, rfl⟩
   rw [← hd] at hw2 hfi
   obtain ⟨z, hz⟩ : ∃ z, z = zig d := ⟨_, rfl⟩
   have HX : Hid (us[i]? = some x ∧ x < 2 ^ 64 ∧ z = zig (sg ((x + M64 - last) % M64))) := Lib.hid ⟨hx, hx64, by rw [hz, hd, hy]⟩
   have Hfi := Lib.hid hfi; have Hz := Lib.hid hz
   have hlen : (cellsU (stepsU 0 (us.take i))).length ≤ 1000000 := by rw [cellsU_length, stepsU_len, List.length_take]; omega
   have HR : Hid ((cellsU (stepsU 0 (us.take i))).length + 1 ≤ maxLen ∧ ((cellsU (stepsU 0 (us.take i))).length + 1) * 8 ≤ 140737488355328) := Lib.hid ⟨by unfold maxLen; omega, by omega⟩
   have hsz := HP.out.2.2.2.size
   clear hx hx64 hl64 hy hyl hfi hd hz hlen
   go_wp2_with fail
   refine (rzig_any d wr Hfi.out).mono ?_
   rintro e w1 ⟨rfl, rfl⟩
   rw [← Hz.out]
   clear hw1 hw2
   have hcx2 : ∀ (w2 : World), Below w.heap.size wr w2 → w2.cell? (ad.add i) = some (.int .u64 (x : Int)) := fun w2 hb => by
    obtain ⟨ad', hA, hb', _⟩ := Hs.out.2 (by omega)
    injection hA with hA
    subst hA
    rw [hb.cell (p := ad.add i) (by rw [add_block]; exact hb')]
    exact hcx
   have Hcx2 := Lib.hid hcx2
   clear hcx2
   go_wp2_with (at_builtin; refine wpList_app1 rfl (.tmp 12) (.tmp 21) _ rfl eltU rfl HP.out.1 rfl rfl rfl HR.out.1 HR.out.2 hsz ?_; intro v2 w2 HO HB; have hcx3 := Hcx2.out w2 HB.out)
   have HP2 : Hid (StepTo w w2 us (i + 1) v2 x) := Lib.hid (HP.out.step HX.out.1 HX.out.2.1 HX.out.2.2 HO.out HB.out)
   go_roundg (gk - 1)
   case measure => have := Hil.out; omega
   case rel => exact ⟨i + 1, x, by have := Hil.out; omega, by go_num, rfl, HP2.out⟩
  ·have hi : i = n := by have := Hil.out; omega
   obtain ⟨hown, _, _, hm⟩ := HP.out
   rw [List.take_of_length_le (by have := Hul.out; omega)] at hown
   have X := Lib.hid (And.intro hown hm)
   clear hi hown hm
   go_wp2_with fail
   go_ret
   exact ⟨_, rfl, X.out⟩
end Go.Proofs.YtmeilddngohccaaGreatDoor

/- The document's own values are told: ahead, behind, Values. -/
namespace Go.Proofs.YtmeilddngohccaaGreatDoor
open Go.RowKit

set_option maxHeartbeats 1000000 in
theorem rahead_any (x : Nat) (w : World) : Calls Tryz.prog 93 #[.int .u64 (x : Int)] w fun e w' => e = .returned (.int .i64 (aheadN x : Int)) ∧ w = w' := by
 go_enter Tryz.func93, Tryz.ntmps93
 go_wp2
 go_loop [3] (fun s3 => ∃ n f : Nat, n + f = 31 ∧ s3 = .int .i64 (n : Int) ∧ Hid (ahd f n x = aheadN x)) (fun s3 => 31 - (intOf s3).toNat)
 case atStart => exact ⟨0, 31, rfl, rfl, Lib.hid rfl⟩
 case round =>
  obtain ⟨n, f, hnf, rfl, hA⟩ := hrel
  cases f with
  | zero =>
   have hn : ¬ n < 31 := by omega
   go_wp2
   go_ret
   exact ⟨ret_int (by have h := hA.out; have h2 : ahd 0 n x = n := rfl; omega), rfl⟩
  | succ f =>
   have hn : n < 31 := by omega
   obtain ⟨k, hk⟩ : ∃ k, k = 63 - n := ⟨_, rfl⟩
   have hk1 : (63 : Int) - (n : Int) = (k : Int) := by omega
   have hk2 : IntKind.u64.wrap (k : Int) = (k : Int) := by rw [IntKind.wrap_u64]; omega
   obtain ⟨q, hq⟩ : ∃ q, q = x / 2 ^ k := ⟨_, rfl⟩
   have hq1 : (x : Int) / 2 ^ k = (q : Int) := by rw [hq]; simp
   have e : ahd (f + 1) n x = if x / 2 ^ (63 - n) = 0 then ahd f (n + 1) x else n := rfl
   have hA2 := hA.out
   rw [e, ← hk, ← hq] at hA2
   clear e hq hk hA
   by_cases hq0 : q = 0
   ·rw [if_pos hq0] at hA2
    have HA := Lib.hid hA2
    have hqb : ((q : Int) == 0) = true := by simp; omega
    clear hA2 hq0
    go_wp2
    go_round
    case rel => exact ⟨n + 1, f, by omega, by go_num, HA⟩
    case measure => simp [intOf]; omega
   ·rw [if_neg hq0] at hA2
    have HA := Lib.hid hA2
    have hqb : ((q : Int) == 0) = false := by simp; omega
    clear hA2 hq0
    go_wp2
    go_ret
    exact ⟨ret_int (by rw [HA.out]), rfl⟩
set_option maxHeartbeats 1000000 in
theorem rbehind_any (x : Nat) (w : World) (h0 : 0 < x) (hx : Lt64 x) : Calls Tryz.prog 94 #[.int .u64 (x : Int)] w fun e w' => e = .returned (.int .i64 (behindN x : Int)) ∧ w = w' := by
 have hb63 := (behind_form h0 hx.out).1
 have Hx := Lib.hid hx; have Hb63 := Lib.hid hb63
 clear hx hb63
 go_enter Tryz.func94, Tryz.ntmps94
 go_wp2
 go_loop [3] (fun s3 => ∃ n f : Nat, n + f = 64 ∧ s3 = .int .i64 (n : Int) ∧ Hid (bhd f n x = behindN x)) (fun s3 => 64 - (intOf s3).toNat)
 case atStart => exact ⟨0, 64, rfl, rfl, Lib.hid rfl⟩
 case round =>
  obtain ⟨n, f, hnf, rfl, hA⟩ := hrel
  cases f with
  | zero =>
   exfalso
   have h := hA.out
   have h2 : bhd 0 n x = n := rfl
   have := Hb63.out
   omega
  | succ f =>
   have hn : n ≤ 63 := by omega
   have hk2 : IntKind.u64.wrap (n : Int) = (n : Int) := by rw [IntKind.wrap_u64]; omega
   obtain ⟨q, hq⟩ : ∃ q, q = x / 2 ^ n % 2 := ⟨_, rfl⟩
   have hbit : bits BinOp.and IntKind.u64 ((x : Int) / 2 ^ n) 1 = (q : Int) := by rw [bit_u64 x n Hx.out, hq]
   have e : bhd (f + 1) n x = if x / 2 ^ n % 2 = 0 then bhd f (n + 1) x else n := rfl
   have hA2 := hA.out
   rw [e, ← hq] at hA2
   clear e hq hA
   by_cases hq0 : q = 0
   ·rw [if_pos hq0] at hA2
    have HA := Lib.hid hA2
    have hqb : ((q : Int) == 0) = true := by simp; omega
    clear hA2 hq0
    go_wp2
    go_round
    case rel => exact ⟨n + 1, f, by omega, by go_num, HA⟩
    case measure => simp [intOf]; omega
   ·rw [if_neg hq0] at hA2
    have HA := Lib.hid hA2
    have hqb : ((q : Int) == 0) = false := by simp; omega
    clear hA2 hq0
    go_wp2
    go_ret
    exact ⟨ret_int (by rw [HA.out]), rfl⟩
end Go.Proofs.YtmeilddngohccaaGreatDoor

/- The document's own rows of values are told: Values. -/
namespace Go.Proofs.YtmeilddngohccaaGreatDoor
open Go.RowKit

def winB : Option (Nat × Nat) → Nat
 | none => 0
 | some (_, b) => b
/-- What the document has told of i values. -/
def XREnc (w wr : World) (g : Nat) (row : Option Nat) (N len : Nat) (zs : List Nat) (i : Nat) (win : Option (Nat × Nat)) : Prop :=
 ∃ fs, RWrote w wr g row N len fs ∧ WinOk win ∧ (i = 0 → fs = [] ∧ win = none) ∧ (0 < i → ∃ prev, zs[i - 1]? = some prev ∧ fs ++ encX win prev (zs.drop i) = encVals zs)
theorem fits_dec {win : Option (Nat × Nat)} {x : Nat} : fitsX win x = (win.isSome && (decide (winA win ≤ aheadN x) && decide (winB win ≤ behindN x))) := by
 cases win with
 | none => rfl
 | some p =>
  obtain ⟨a, b⟩ := p
  show decide (a ≤ aheadN x ∧ b ≤ behindN x) = (true && (decide (a ≤ aheadN x) && decide (b ≤ behindN x)))
  simp
set_option maxHeartbeats 4000000 in
set_option maxRecDepth 100000 in
theorem rvalues_any (B g : Nat) (row : Option Nat) (N len n c : Nat) (A : Option Addr) (zs : List Nat) (w : World) (hs : Rds w B A n (cellsU zs)) (hz : ∀ x ∈ zs, x < 2 ^ 64) (hB : B ≤ w.heap.size) (hap : 0 < n → ∀ ad, A = some ad → ¬ (ad.block = g ∨ row = some ad.block))
  (hw : RWr w g row N len) (hlen : len + (64 + 77 * n) ≤ 900000000) :
  Calls Tryz.prog 68 #[.pointer (some ⟨g, 0, none⟩), .slice A n c] w fun e w' => e = .returned (.tuple #[]) ∧ RWrote w w' g row N len (encVals zs) := by
 have hzl : zs.length = n := by have := hs.1; rwa [cellsU_length] at this
 have Hs := Lib.hid hs; have Hz := Lib.hid hz; have HS := Lib.hid hap; have Hzl := Lib.hid hzl
 have H0 : Hid (XREnc w w g row N len zs 0 none) := Lib.hid ⟨[], RWrote.refl hw, trivial, fun _ => ⟨rfl, rfl⟩, fun h => by omega⟩
 have Htot : Hid (len + flen (encVals zs) ≤ 900000000) := Lib.hid (by have := encVals_len zs; rw [hzl] at this; omega)
 clear hs hz hw hap hzl
 go_enter Tryz.func68, Tryz.ntmps68
 go_wp2_with fail
 go_loopg [4, 5, 6, 7] n (fun l s4 s5 s6 s7 wr => ∃ (i : Nat) (win : Option (Nat × Nat)), i + l = n ∧ s7 = .int .i64 (i : Int) ∧ s4 = .bool win.isSome ∧ s5 = .int .i64 (winA win : Int) ∧ s6 = .int .i64 (winB win : Int) ∧ XREnc w wr g row N len zs i win)
 case atStart => exact ⟨0, none, by omega, rfl, rfl, rfl, rfl, H0.out⟩
 case round =>
  obtain ⟨i, win, hil, rfl, rfl, rfl, rfl, hE⟩ := hrel
  have HE := Lib.hid hE; have Hil := Lib.hid hil
  clear hE hil H0
  by_cases hin : i < n
  ·obtain ⟨fs, hwr, hok, he0, he1⟩ := HE.out
   obtain ⟨ad, v, rfl, hv, hcv⟩ := Hs.out.at2 hin hB (by obtain ⟨_, _, a2, _⟩ := hwr; exact a2) (HS.out (by omega))
   have Hv := Lib.hid hv
   have hvl := Lib.hid (Hz.out v (List.mem_of_getElem? hv))
   have Hdr := Lib.hid (drop_at' hv)
   have Hok := Lib.hid hok
   clear hv hok
   by_cases hi0 : i = 0
   ·obtain ⟨rfl, rfl⟩ := he0 hi0
    subst hi0
    have Hwr := Lib.hid hwr
    have hcx0 : wr.cell? ad = some (.int .u64 (v : Int)) := by rw [← add_zero' ad]; exact hcv
    clear hwr he0 he1 HE
    go_wp2_with fail
    refine (rput_wrote w g row N len 64 [] v _ _ _ rfl rfl (by omega) hvl.out Hwr.out (by show len + 0 ≤ _; omega)).mono ?_
    rintro e w1 ⟨rfl, h1⟩
    have hd0 := Hdr.out
    rw [List.drop_zero] at hd0
    have H1 : Hid (XREnc w w1 g row N len zs 1 none) := Lib.hid ⟨[(v, 64)], h1, trivial, fun h => by omega, fun _ => ⟨v, Hv.out, by rw [hd0]; rfl⟩⟩
    clear h1 hd0 Hwr
    go_wp2_with fail
    go_roundg (gk - 1)
    case measure => have := Hil.out; omega
    case rel => exact ⟨1, none, by have := Hil.out; omega, rfl, rfl, rfl, rfl, H1.out⟩
   ·have hb0 : ((i : Int) == 0) = false := by simp; omega
    obtain ⟨prev, hpv, hE1⟩ := he1 (by omega)
    obtain ⟨ad', x', e', hx', hcp⟩ := Hs.out.at2 (show i - 1 < n by omega) hB (by obtain ⟨_, _, a2, _⟩ := hwr; exact a2) (HS.out (by omega))
    injection e' with e'
    subst e'
    rw [hpv] at hx'
    injection hx' with hx'
    subst hx'
    have hpl := Lib.hid (Hz.out prev (List.mem_of_getElem? hpv))
    obtain ⟨x, hx⟩ : ∃ x : Nat, x = v ^^^ prev := ⟨_, rfl⟩
    have hxor : bits .xor .u64 (v : Int) (prev : Int) = (x : Int) := by rw [hx]; exact u64_xor_nat v prev hvl.out hpl.out
    have hxl : Hid (Lt64 x) := Lib.hid (by rw [hx]; exact Nat.xor_lt_two_pow hvl.out hpl.out)
    have hi1 : IntKind.i64.wrap ((i : Int) - 1) = (i : Int) - 1 := IntWalk.i64_in _ (by omega)
    have hi2 : ((i : Int) - 1).toNat = i - 1 := by omega
    have hi3 : (0 : Int) ≤ (i : Int) - 1 := by omega
    have hi4 : (i : Int) - 1 < (n : Int) := by omega
    have hi5 : (i : Int) < (n : Int) := by omega
    have hi6 : (0 : Int) ≤ (i : Int) := by omega
    have Hwr := Lib.hid hwr; have HE1 := Lib.hid hE1; have Hx := Lib.hid hx
    have hl : Hid (len + flen fs ≤ 900000000) := Lib.hid (by have := Htot.out; rw [← HE1.out] at this; have := flen_le_app fs (encX win prev (zs.drop i)); omega)
    have hnx : Hid (∀ w', RWrote w w' g row N len (fs ++ fieldsX win x) → XREnc w w' g row N len zs (i + 1) (winX win x)) := Lib.hid (fun w' h =>
     ⟨_, h, winX_ok Hok.out hxl.out, fun h => by omega, fun _ => ⟨v, Hv.out, by rw [← HE1.out, Hdr.out, List.append_assoc, Hx.out]; rfl⟩⟩)
    obtain ⟨a, ha⟩ : ∃ a, a = winA win := ⟨_, rfl⟩
    obtain ⟨b, hb⟩ : ∃ b, b = winB win := ⟨_, rfl⟩
    obtain ⟨any, hany⟩ : ∃ any, any = win.isSome := ⟨_, rfl⟩
    have Ha := Lib.hid ha; have Hb := Lib.hid hb; have Hany := Lib.hid hany
    rw [← ha, ← hb, ← hany]
    clear hwr he0 he1 HE hE1 hx hpv ha hb hany
    go_upto_region 6 with fail
    go_quiet (fail)
    have Hwr2 := Lib.hid (Hwr.out.drewN nq)
    clear Hwr hcv hcp hi1 hi2 hi3 hi4 hxor
    generalize wr.drewN nq = w2 at *
    by_cases hx0 : x = 0
    ·have hx0b : ((x : Int) == 0) = true := by simp; omega
     have hf0 : Hid (fieldsX win x = [(0, 1)] ∧ winX win x = win) := Lib.hid ⟨by unfold fieldsX; rw [if_pos hx0], by unfold winX; rw [if_pos hx0]⟩
     clear hx0
     go_wp2_with fail
     refine (rput_wrote w g row N len 1 fs 0 0 1 _ rfl rfl (by omega) (show (0 : Nat) < 18446744073709551616 by decide) Hwr2.out (by have := hl.out; omega)).mono ?_
     rintro e w3 ⟨rfl, h3⟩
     have H3 : Hid (XREnc w w3 g row N len zs (i + 1) win) := Lib.hid (by have h := hnx.out w3 (by rw [hf0.out.1]; exact h3); rwa [hf0.out.2] at h)
     clear h3
     go_wp2_with fail
     go_roundg (gk - 1)
     case measure => have := Hil.out; omega
     case rel => exact ⟨i + 1, win, by have := Hil.out; omega, by go_num, by rw [Hany.out], by rw [Ha.out], by rw [Hb.out], H3.out⟩
    ·have hx0b : ((x : Int) == 0) = false := by simp; omega
     go_wp2_with fail
     refine (rput_wrote w g row N len 1 fs 1 1 1 _ rfl rfl (by omega) (show (1 : Nat) < 18446744073709551616 by decide) Hwr2.out (by have := hl.out; omega)).mono ?_
     rintro e w3 ⟨rfl, h3⟩
     have H3 := Lib.hid h3
     obtain ⟨ah, hah⟩ : ∃ ah, ah = aheadN x := ⟨_, rfl⟩
     obtain ⟨be, hbe⟩ : ∃ be, be = behindN x := ⟨_, rfl⟩
     have hsum := sum_le (by omega) hxl.out
     have hah31 := (ahead_spec hxl.out).1
     rw [← hah] at hsum hah31
     rw [← hbe] at hsum
     have Hah := Lib.hid hah; have Hbe := Lib.hid hbe
     clear h3 hah hbe Hwr2
     have hfd := fits_dec (win := win) (x := x)
     rw [← Hany.out, ← Ha.out, ← Hb.out, ← Hah.out, ← Hbe.out] at hfd
     obtain ⟨fit, hfit⟩ : ∃ fit, fit = fitsX win x := ⟨_, rfl⟩
     rw [← hfit] at hfd
     have Hfd := Lib.hid hfd; have Hfit := Lib.hid hfit
     clear hfd hfit
     go_upto_region 10 with fail
     go_cut [50] (fun s50 wc => s50 = .bool fit ∧ w3 = wc)
     case first =>
      cases any with
      | false =>
       obtain rfl : fit = false := Hfd.out
       go_wp2_with fail
       go_meet
       case rel => exact ⟨rfl, rfl⟩
      | true =>
       by_cases h1 : a ≤ ah
       ·by_cases h2 : b ≤ be
        ·obtain rfl : fit = true := by rw [Hfd.out, decide_eq_true h1, decide_eq_true h2]; rfl
         go_wp2_with (first | (go_at_call 93; refine (rahead_any x _).mono ?_; rintro e w5 ⟨rfl, rfl⟩; rw [← Hah.out]) | (go_at_call 94; refine (rbehind_any x _ (by omega) hxl.out).mono ?_; rintro e w5 ⟨rfl, rfl⟩; rw [← Hbe.out]))
         go_meet
         case rel => exact ⟨rfl, rfl⟩
        ·obtain rfl : fit = false := by rw [Hfd.out, decide_eq_true h1, decide_eq_false h2]; rfl
         go_wp2_with (first | (go_at_call 93; refine (rahead_any x _).mono ?_; rintro e w5 ⟨rfl, rfl⟩; rw [← Hah.out]) | (go_at_call 94; refine (rbehind_any x _ (by omega) hxl.out).mono ?_; rintro e w5 ⟨rfl, rfl⟩; rw [← Hbe.out]))
         go_meet
         case rel => exact ⟨rfl, rfl⟩
       ·obtain rfl : fit = false := by rw [Hfd.out, decide_eq_false h1]; rfl
        go_wp2_with (first | (go_at_call 93; refine (rahead_any x _).mono ?_; rintro e w5 ⟨rfl, rfl⟩; rw [← Hah.out]) | (go_at_call 94; refine (rbehind_any x _ (by omega) hxl.out).mono ?_; rintro e w5 ⟨rfl, rfl⟩; rw [← Hbe.out]))
        go_meet
        case rel => exact ⟨rfl, rfl⟩
     case rest =>
      obtain ⟨rfl, rfl⟩ := hcut
      cases fit with
      | true =>
       have hin2 : WinOk win ∧ a + b ≤ 63 ∧ fieldsX win x = [(1, 1), (0, 1), (x / 2 ^ b, 64 - a - b)] ∧ winX win x = win := by
        have hf := Hfit.out.symm
        have hw := Hok.out
        rw [Ha.out, Hb.out]
        cases win with
        | none => cases hf
        | some p =>
         obtain ⟨a', b'⟩ := p
         refine ⟨hw, hw.2, ?_, ?_⟩
         ·unfold fieldsX; rw [if_neg hx0, if_pos hf]; rfl
         ·unfold winX; rw [if_neg hx0, if_pos hf]
       obtain ⟨_, hab, hfe, hwe⟩ := hin2
       obtain ⟨s, hs⟩ : ∃ s, s = 64 - a - b := ⟨_, rfl⟩
       obtain ⟨y, hy⟩ : ∃ y, y = x / 2 ^ b := ⟨_, rfl⟩
       have hs1 : (64 : Int) - (a : Int) - (b : Int) = (s : Int) := by omega
       have hy1 : (x : Int) / 2 ^ b = (y : Int) := by rw [hy]; simp
       have hyl : Hid (Lt64 y) := Lib.hid (by have := hxl.out.out; have := Nat.div_le_self x (2 ^ b); unfold Lt64; omega)
       have hbw : IntKind.u64.wrap (b : Int) = (b : Int) := by rw [IntKind.wrap_u64]; omega
       have hs64 : s ≤ 64 := by omega
       rw [← hs, ← hy] at hfe
       have Hfe := Lib.hid hfe; have Hwe := Lib.hid hwe
       clear hs hy hfe hwe
       go_wp2_with fail
       refine (rput_wrote w g row N len 1 _ 0 0 1 _ rfl rfl (by omega) (show (0 : Nat) < 18446744073709551616 by decide) H3.out (by rw [flen_app]; have := hl.out; show len + (flen fs + (1 + 0)) ≤ _; omega)).mono ?_
       rintro e w5 ⟨rfl, h5⟩
       have H5 := Lib.hid h5
       clear h5 H3
       go_wp2_with fail
       refine (rput_wrote w g row N len s _ y _ _ _ rfl rfl hs64 hyl.out H5.out (by rw [flen_app, flen_app]; have := hl.out; show len + (flen fs + (1 + 0) + (1 + 0)) ≤ _; omega)).mono ?_
       rintro e w6 ⟨rfl, h6⟩
       have H6 : Hid (XREnc w w6 g row N len zs (i + 1) win) := Lib.hid (by
        have h := hnx.out w6 (by rw [Hfe.out]; simpa using h6)
        rwa [Hwe.out] at h)
       clear h6 H5 hs1 hy1 hbw
       go_wp2_with fail
       go_roundg (gk - 1)
       case measure => have := Hil.out; omega
       case rel => exact ⟨i + 1, win, by have := Hil.out; omega, by go_num, by rw [Hany.out], by rw [Ha.out], by rw [Hb.out], H6.out⟩
      | false =>
       have hnf : ¬ fitsX win x = true := by rw [← Hfit.out]; decide
       have hfe : fieldsX win x = [(1, 1), (1, 1), (ah, 5), (63 - ah - be, 6), (x / 2 ^ be, 64 - ah - be)] := by rw [Hah.out, Hbe.out]; unfold fieldsX; rw [if_neg hx0, if_neg hnf]; rfl
       have hwe : winX win x = some (ah, be) := by rw [Hah.out, Hbe.out]; unfold winX; rw [if_neg hx0, if_neg hnf]
       obtain ⟨s, hs⟩ : ∃ s, s = 64 - ah - be := ⟨_, rfl⟩
       obtain ⟨m, hm⟩ : ∃ m, m = 63 - ah - be := ⟨_, rfl⟩
       obtain ⟨y, hy⟩ : ∃ y, y = x / 2 ^ be := ⟨_, rfl⟩
       have hs1 : (64 : Int) - (ah : Int) - (be : Int) = (s : Int) := by omega
       have hm1 : (63 : Int) - (ah : Int) - (be : Int) = (m : Int) := by omega
       have hy1 : (x : Int) / 2 ^ be = (y : Int) := by rw [hy]; simp
       have hyl : Hid (Lt64 y) := Lib.hid (by have := hxl.out.out; have := Nat.div_le_self x (2 ^ be); unfold Lt64; omega)
       have hbw : IntKind.u64.wrap (be : Int) = (be : Int) := by rw [IntKind.wrap_u64]; omega
       have haw : IntKind.u64.wrap (ah : Int) = (ah : Int) := by rw [IntKind.wrap_u64]; omega
       have hmw : IntKind.u64.wrap (m : Int) = (m : Int) := by rw [IntKind.wrap_u64]; omega
       have hs64 : s ≤ 64 := by omega
       have hm64 : m ≤ 63 := by omega
       rw [← hs, ← hm, ← hy] at hfe
       have Hfe := Lib.hid hfe; have Hwe := Lib.hid hwe
       clear hs hm hy hfe hwe hnf
       go_wp2_with (first | (go_at_call 93; refine (rahead_any x _).mono ?_; rintro e w5 ⟨rfl, rfl⟩; rw [← Hah.out]) | (go_at_call 94; refine (rbehind_any x _ (by omega) hxl.out).mono ?_; rintro e w5 ⟨rfl, rfl⟩; rw [← Hbe.out]))
       refine (rput_wrote w g row N len 1 _ 1 1 1 _ rfl rfl (by omega) (show (1 : Nat) < 18446744073709551616 by decide) H3.out (by rw [flen_app]; have := hl.out; show len + (flen fs + (1 + 0)) ≤ _; omega)).mono ?_
       rintro e w5 ⟨rfl, h5⟩
       have H5 := Lib.hid h5
       clear h5 H3
       go_wp2_with fail
       refine (rput_wrote w g row N len 5 _ ah _ 5 _ rfl rfl (by omega) (show ah < 18446744073709551616 by omega) H5.out (by rw [flen_app, flen_app]; have := hl.out; show len + (flen fs + (1 + 0) + (1 + 0)) ≤ _; omega)).mono ?_
       rintro e w6 ⟨rfl, h6⟩
       have H6 := Lib.hid h6
       clear h6 H5
       go_wp2_with fail
       refine (rput_wrote w g row N len 6 _ m _ 6 _ rfl rfl (by omega) (show m < 18446744073709551616 by omega) H6.out (by rw [flen_app, flen_app, flen_app]; have := hl.out; show len + (flen fs + (1 + 0) + (1 + 0) + (5 + 0)) ≤ _; omega)).mono ?_
       rintro e w7 ⟨rfl, h7⟩
       have H7 := Lib.hid h7
       clear h7 H6
       go_wp2_with fail
       refine (rput_wrote w g row N len s _ y _ _ _ rfl rfl hs64 hyl.out H7.out (by rw [flen_app, flen_app, flen_app, flen_app]; have := hl.out; show len + (flen fs + (1 + 0) + (1 + 0) + (5 + 0) + (6 + 0)) ≤ _; omega)).mono ?_
       rintro e w8 ⟨rfl, h8⟩
       have H8 : Hid (XREnc w w8 g row N len zs (i + 1) (some (ah, be))) := Lib.hid (by
        have h := hnx.out w8 (by rw [Hfe.out]; simpa using h8)
        rwa [Hwe.out] at h)
       clear h8 H7 hs1 hm1 hy1 hbw haw hmw
       go_wp2_with fail
       go_roundg (gk - 1)
       case measure => have := Hil.out; omega
       case rel => exact ⟨i + 1, some (ah, be), by have := Hil.out; omega, by go_num, rfl, rfl, rfl, H8.out⟩
  ·go_wp2_with fail
   go_end0
   refine ⟨rfl, ?_⟩
   obtain ⟨fs, hwr, hok, he0, he1⟩ := HE.out
   have hil := Hil.out
   have hzl := Hzl.out
   rcases Nat.eq_zero_or_pos i with h0 | h0
   ·obtain ⟨rfl, _⟩ := he0 h0
    have : zs = [] := List.eq_nil_of_length_eq_zero (by omega)
    subst this
    exact hwr
   ·obtain ⟨prev, _, this⟩ := he1 h0
    rw [List.drop_of_length_le (by omega)] at this
    have e : fs = encVals zs := by rw [← this]; show fs = fs ++ []; simp
    rw [← e]
    exact hwr
end Go.Proofs.YtmeilddngohccaaGreatDoor

/- The document's own answer: values are told by their least. -/
namespace Go.Proofs.YtmeilddngohccaaGreatDoor
open Go.RowKit

/-- The first loop: the least and the greatest of the first i; no memory is made. -/
def FrmTo (w wr : World) (us : List Nat) (i lo hi : Nat) : Prop := loI us i = lo ∧ hiI us i = hi ∧ lo < 2 ^ 64 ∧ hi < 2 ^ 64 ∧ Mod (fun _ => False) w wr
theorem FrmTo.step {w wr w2 : World} {us : List Nat} {i lo hi x lo2 hi2 : Nat} (h : FrmTo w wr us i lo hi) (hx : us[i]? = some x) (hx64 : x < 2 ^ 64) (h1 : min lo x = lo2) (h2 : max hi x = hi2) (hm : Mod (fun _ => False) wr w2) : FrmTo w w2 us (i + 1) lo2 hi2 := by
 obtain ⟨a1, a2, a3, a4, a5⟩ := h
 refine ⟨by rw [loI_succ hx, a1, h1], by rw [hiI_succ hx, a2, h2], by omega, by omega, a5.trans hm (fun _ _ h => h)⟩
/-- The second loop: how far each is from the least. -/
def DifTo (w wr : World) (us : List Nat) (i : Nat) (v : Value) : Prop := Own w.heap.size wr 26 v (cellsU ((difV us).take i)) ∧ Mod (fun _ => False) w wr
set_option maxHeartbeats 4000000 in
set_option maxRecDepth 100000 in
theorem rpenc_any (A : Option Addr) (n cap B : Nat) (us : List Nat) (w : World) (hs : Rds w B A n (cellsU us)) (hB : B ≤ w.heap.size) (hu : ∀ x ∈ us, x < 2 ^ 64) (hn : n ≤ 1000000) :
  Calls Tryz.prog 74 #[.slice A n cap] w fun e w' => ∃ v, e = .returned v ∧ Own w.heap.size w' 5 v (cells8 (encP us)) ∧ Mod (fun _ => False) w w' := by
 have hul : us.length = n := by have := hs.1; rwa [cellsU_length] at this
 by_cases h0 : n = 0
 ·subst h0
  obtain rfl := List.eq_nil_of_length_eq_zero hul
  clear hs
  go_enter Tryz.func74, Tryz.ntmps74
  go_wp2_with fail
  go_ret
  exact ⟨_, rfl, Own.nil _ _ _, Mod.refl _ _⟩
 ·have hne : us ≠ [] := by rintro rfl; exact h0 hul.symm
  have hp : 0 < n := by omega
  have hpi : (0 : Int) < (n : Int) := by omega
  have hn0 : ((n : Int) == 0) = false := by simp; omega
  obtain ⟨ad, x0, hA, hx0, hc0⟩ := hs.at2 hp hB (Mod.refl (fun _ => False) w) (fun _ _ h => h)
  have hc0' := hc0
  rw [add_nought] at hc0'
  have hx064 := hu x0 (List.mem_of_getElem? hx0)
  have hz1 : loI us 0 = x0 := by rw [loI_zero, List.getD_eq_getElem?_getD, hx0]; rfl
  have hz2 : hiI us 0 = x0 := by rw [hiI_zero, List.getD_eq_getElem?_getD, hx0]; rfl
  have H0 : Hid (∀ k, FrmTo w (w.drewN k) us 0 x0 x0) := Lib.hid (fun k => ⟨hz1, hz2, hx064, hx064, (Mod.refl _ _).drewN k⟩)
  have Hs := Lib.hid hs; have Hu := Lib.hid hu; have HB := Lib.hid hB; have Hul := Lib.hid hul; have Hne := Lib.hid hne
  clear hs hu hB hul hne hx0 hx064 hz1 hz2
  subst hA
  go_enter Tryz.func74, Tryz.ntmps74
  go_upto_region 3 with fail
  go_quiet (fail)
  go_wp2_with fail
  clear hc0 hc0'
  go_loopg [3, 4, 5] n (fun l s3 s4 s5 wr => ∃ (i lo hi : Nat), i + l = n ∧ s5 = .int .i64 (i : Int) ∧ s3 = .int .u64 (lo : Int) ∧ s4 = .int .u64 (hi : Int) ∧ FrmTo w wr us i lo hi)
  case atStart => exact ⟨0, x0, x0, by omega, rfl, rfl, rfl, H0.out _⟩
  case round =>
   obtain ⟨i, lo, hi, hil, rfl, rfl, rfl, hF⟩ := hrel
   have HF := Lib.hid hF; have Hil := Lib.hid hil
   clear hF hil H0
   by_cases hin : i < n
   ·obtain ⟨ad', x, he, hx, hcx⟩ := Hs.out.at2 hin HB.out HF.out.2.2.2.2 (fun _ _ h => h)
    injection he with he
    subst he
    obtain ⟨lo2, hlo2⟩ : ∃ m2, min lo x = m2 := ⟨_, rfl⟩
    obtain ⟨hi2, hhi2⟩ : ∃ m2, max hi x = m2 := ⟨_, rfl⟩
    have hmin := minU_is (P := Tryz.prog) (t := 26) (ty := 26) hlo2
    have hmax := maxU_is (P := Tryz.prog) (t := 26) (ty := 26) hhi2
    have HS : Hid (∀ k, FrmTo w (wr.drewN k) us (i + 1) lo2 hi2) := Lib.hid (fun k => HF.out.step hx (Hu.out x (List.mem_of_getElem? hx)) hlo2 hhi2 ((Mod.refl _ _).drewN k))
    have hi1 : (0 : Int) ≤ (i : Int) := by omega
    clear hx hlo2 hhi2
    go_upto_region 7 with fail
    go_quiet (fail)
    go_wp2_with fail
    go_roundg (gk - 1)
    case measure => have := Hil.out; omega
    case rel => exact ⟨i + 1, lo2, hi2, by have := Hil.out; omega, by go_num, rfl, rfl, HS.out _⟩
   ·have hin2 : i = n := by have := Hil.out; omega
    obtain ⟨hlo, hhi, hlo64, hhi64, hm⟩ := HF.out
    rw [loI_all (by have := Hul.out; omega)] at hlo
    rw [hiI_all (by have := Hul.out; omega)] at hhi
    have hLH : lo ≤ hi := by rw [← hlo, ← hhi]; exact Nat.le_trans (loV_le (getD_mem Hne.out)) (hiV_ge (getD_mem Hne.out))
    obtain ⟨d, hd⟩ : ∃ d, d = hi - lo := ⟨_, rfl⟩
    have hdw : IntKind.u64.wrap ((hi : Int) - (lo : Int)) = (d : Int) := by rw [IntKind.wrap_u64]; omega
    obtain ⟨S, hS⟩ : ∃ S, wid d = S := ⟨_, rfl⟩
    have hS64 : S ≤ 64 := by rw [← hS]; exact wid_le d
    have HS : Hid (widV us = S) := Lib.hid (by unfold widV; rw [hlo, hhi, ← hd]; exact hS)
    have hd64 : Lt64 d := by unfold Lt64; omega
    have hL64' : Lt64 lo := by unfold Lt64; omega
    have hcS : IntKind.u8.wrap (S : Int) = (S : Int) := by rw [IntKind.wrap_u8']; omega
    have hcS' : (S : Int) % 256 = (S : Int) := by omega
    have D0 : Hid (DifTo w wr us 0 (.slice none 0 0)) := Lib.hid ⟨Own.nil _ _ _, hm⟩
    have Hdl : Hid ((difV us).length = n) := Lib.hid (by rw [difV_len]; exact Hul.out)
    have HL := Lib.hid hlo; have Hd64 := Lib.hid hd64; have HL64 := Lib.hid hL64'; have HSd := Lib.hid hS
    clear hlo hhi hlo64 hhi64 hm hLH hd hS hd64 hL64' HF hin2
    go_wp2_with fail
    go_loopg [6, 7] n (fun l s6 s7 wq => ∃ i : Nat, i + l = n ∧ s7 = .int .i64 (i : Int) ∧ DifTo w wq us i s6)
    case atStart => exact ⟨0, by omega, rfl, D0.out⟩
    case round =>
     obtain ⟨j, hjl, rfl, hown, hm⟩ := hrel
     have Hown := Lib.hid hown; have Hm := Lib.hid hm; have Hjl := Lib.hid hjl
     clear hown hm hjl D0
     by_cases hjn : j < n
     ·obtain ⟨ad', x, he, hx, hcx⟩ := Hs.out.at2 hjn HB.out Hm.out (fun _ _ h => h)
      injection he with he
      subst he
      have hxl := Hu.out x (List.mem_of_getElem? hx)
      have hLx : lo ≤ x := by rw [← HL.out]; exact loV_le (List.mem_of_getElem? hx)
      obtain ⟨y, hy⟩ : ∃ y, y = x - lo := ⟨_, rfl⟩
      have hyw : IntKind.u64.wrap ((x : Int) - (lo : Int)) = (y : Int) := by rw [IntKind.wrap_u64]; omega
      have Hy : Hid ((difV us).take (j + 1) = (difV us).take j ++ [y]) := Lib.hid (by rw [hy]; exact take_succ_of (difV_at hx HL.out))
      have hj1 : (0 : Int) ≤ (j : Int) := by omega
      have htl : ((difV us).take j).length ≤ 1000000 := by rw [List.length_take]; omega
      have hr1 : (cellsU ((difV us).take j)).length + 1 ≤ maxLen := by rw [cellsU_length]; unfold maxLen; omega
      have hr2 : ((cellsU ((difV us).take j)).length + 1) * 8 ≤ 140737488355328 := by rw [cellsU_length]; omega
      have Hr1 := Lib.hid hr1; have Hr2 := Lib.hid hr2
      have hsz := Hm.out.size
      clear hxl hLx hx hy htl hr1 hr2
      go_wp2_with (at_builtin; refine wpList_app1 rfl (.tmp 41) (.tmp 48) _ rfl eltU rfl Hown.out rfl rfl rfl Hr1.out Hr2.out hsz ?_; intro v' w3 HO HBl)
      have HD : Hid (DifTo w w3 us (j + 1) v') := Lib.hid ⟨by rw [Hy.out, cellsU_snoc]; exact HO.out, Hm.out.trans (Mod.of_below HBl.out) (fun i hi h => by omega)⟩
      clear HO HBl
      go_roundg (gk - 1)
      case measure => have := Hjl.out; omega
      case rel => exact ⟨j + 1, by have := Hjl.out; omega, by go_num, HD.out⟩
     ·have htk : (difV us).take j = difV us := List.take_of_length_le (by have := Hjl.out; have := Hdl.out; omega)
      have hol := Hown.out
      rw [htk] at hol
      have Hol := Lib.hid hol
      clear hol htk Hown
      go_wp2_with fail
      refine (vrput_any none 0 0 0 [] lo wr (Rds.nil _ _ _) (by omega) HL64.out).mono ?_
      rintro e w2 ⟨v2, rfl, ho2, hb2⟩
      rw [List.nil_append] at ho2
      have Ho2 := Lib.hid ho2; have Hm2 := Lib.hid (Hm.out.trans (mod_below hb2) (fun _ _ h => h)); have Hol2 := Lib.hid (Hol.out.below hb2)
      have hq := enc_len10 HL64.out.out
      have hR : Room (cells8 (enc lo)).length 1 := Room.mk _ _ (by rw [cells8_length]; omega)
      have HR := Lib.hid hR
      have hsz : wr.heap.size ≤ w2.heap.size := hb2.size
      have hmsz := Hm.out.size
      have hbb := hb2
      clear ho2 hb2 hR
      go_wp2_with fail
      refine (rwidth_any d S w2 Hd64.out HSd.out).mono ?_
      rintro e w2' ⟨rfl, rfl⟩
      have Hb2 := Lib.hid hbb
      go_wp2_with (at_builtin; refine wpList_app1 rfl (.tmp 51) (.tmp 57) _ rfl elt8 rfl Ho2.out rfl rfl rfl HR.out.1 HR.out.2 hsz ?_; intro v3 w3 H1 H2)
      have hbel : Below wr.heap.size wr w3 := Hb2.out.trans H2.out
      have ho3 : Own wr.heap.size w3 5 v3 (cells8 (enc lo ++ [S])) := by rw [cells8_snoc]; exact H1.out
      have hol3 : Own w.heap.size w3 26 u6 (cellsU (difV us)) := (Mod.of_below hbel).owns Hol.out (fun k hk h => by have := (Hol.out.block k hk).2; omega)
      obtain ⟨A3, n3, c3, rfl, Hn3, _, _, hr3⟩ := own_formN8 ho3
      obtain ⟨A6, n6, c6, rfl, Hn6, _, hr6⟩ := own_formUN hol3
      have hn3 : n3 ≤ 1000000 := by rw [← Hn3.out, List.length_append, List.length_singleton]; omega
      have hn6 : n6 ≤ 1000000 := by rw [← Hn6.out, Hdl.out]; exact hn
      have Hr3 := Lib.hid hr3; have Hr6 := Lib.hid hr6; have Hm3 := Lib.hid (Hm.out.trans (mod_below hbel) (fun _ _ h => h))
      clear hbel ho3 hol3 hr3 hr6 H1 H2 Hb2 hbb Ho2 Hol2 Hm2
      go_wp2_with fail
      refine (rwidth_any d S w3 Hd64.out HSd.out).mono ?_
      rintro e w4 ⟨rfl, rfl⟩
      go_wp2_with fail
      refine (rpack_any A3 A6 n3 c3 n6 c6 w3.heap.size S _ _ w3 Hr3.out Hr6.out (Nat.le_refl _) (fun x hx => by
       obtain ⟨y, hy, rfl⟩ := List.mem_map.1 hx
       have := Hu.out y hy
       omega) hS64 hn3 hn6).mono ?_
      rintro e w4 ⟨v4, rfl, ho4, hm4⟩
      have Ho4 := Lib.hid ho4; have Hm4 := Lib.hid (Hm3.out.trans hm4 (fun _ _ h => h)); have hsz4 := Hm3.out.size
      clear ho4 hm4
      go_wp2_with fail
      go_ret
      have e : encP us = enc lo ++ (S :: packW S (difV us)) := by rw [encP_cons Hne.out, HL.out, HS.out]
      rw [e]
      have ho4 := Ho4.out
      rw [List.append_assoc] at ho4
      exact ⟨_, rfl, ho4.mono hsz4, Hm4.out⟩
end Go.Proofs.YtmeilddngohccaaGreatDoor

/- The document's own answer: a value's place, and values told by a list. -/
namespace Go.Proofs.YtmeilddngohccaaGreatDoor
open Go.RowKit Go.Maps

/-- What place tells. -/
def plcI (x : Nat) (l : List Nat) : Int := if x ∈ l then (plc x l : Int) else -1
theorem plcI_in {x : Nat} {l : List Nat} (h : x ∈ l) : plcI x l = (plc x l : Int) := if_pos h
theorem plcI_out {x : Nat} {l : List Nat} (h : x ∉ l) : plcI x l = -1 := if_neg h
set_option maxHeartbeats 1000000 in
set_option maxRecDepth 100000 in
theorem place_any (A : Option Addr) (n c B x : Nat) (l : List Nat) (w : World) (hs : Rds w B A n (cellsU l)) (hB : B ≤ w.heap.size) (hn : n ≤ 1000000) :
  Calls Tryz.prog 97 #[.slice A n c, .int .u64 (x : Int)] w fun e w' => e = .returned (.int .i64 (plcI x l)) ∧ w = w' := by
 have hul : l.length = n := by have := hs.1; rwa [cellsU_length] at this
 have Hs := Lib.hid hs; have HB := Lib.hid hB; have Hul := Lib.hid hul
 clear hs hB hul
 go_enter Tryz.func97, Tryz.ntmps97
 go_wp2_with fail
 go_loopg [5] n (fun l' s5 wr => ∃ i : Nat, i + l' = n ∧ s5 = .int .i64 (i : Int) ∧ (∀ j, j < i → l[j]? ≠ some x) ∧ w = wr)
 case atStart => exact ⟨0, by omega, rfl, (fun _ h => absurd h (Nat.not_lt_zero _)), rfl⟩
 case round =>
  obtain ⟨i, hil, rfl, hno, rfl⟩ := hrel
  have Hil := Lib.hid hil; have Hno := Lib.hid hno
  clear hil hno
  by_cases hin : i < n
  ·obtain ⟨ad, y, rfl, hy, hcy⟩ := Hs.out.at2 hin HB.out (Mod.refl (fun _ => False) w) (fun _ _ h => h)
   have hi0 : (0 : Int) ≤ (i : Int) := by omega
   by_cases hyx : y = x
   ·subst hyx
    have Hp : Hid (plcI y l = (i : Int)) := Lib.hid (by rw [plcI_in (List.mem_of_getElem? hy), plc_is hy Hno.out])
    clear hy
    go_wp2_with fail
    go_ret
    rw [Hp.out]
    exact ⟨rfl, rfl⟩
   ·have hyb : ((y : Int) == (x : Int)) = false := by simp; omega
    have Hno2 : Hid (∀ j, j < i + 1 → l[j]? ≠ some x) := Lib.hid (fun j hj e => by
     rcases Nat.lt_or_ge j i with h | h
     ·exact Hno.out j h e
     ·obtain rfl : j = i := by omega
      rw [hy] at e
      injection e with e
      exact hyx e)
    clear hy hyx
    go_wp2_with fail
    go_roundg (gk - 1)
    case measure => have := Hil.out; omega
    case rel => exact ⟨i + 1, by have := Hil.out; omega, by go_num, Hno2.out, rfl⟩
  ·have hi : i = n := by have := Hil.out; omega
   have Hp : Hid (plcI x l = -1) := Lib.hid (plcI_out (fun h => by
    obtain ⟨j, hj⟩ := List.mem_iff_getElem?.1 h
    have := (List.getElem?_eq_some_iff.1 hj).1
    exact Hno.out j (by rw [hi, ← Hul.out]; exact this) hj))
   go_wp2_with fail
   go_ret
   rw [Hp.out]
   exact ⟨rfl, rfl⟩
theorem uniq_keep {v : List Nat} {x : Nat} : ∃ t, uniq (v ++ [x]) = uniq v ++ t := uniq_app v [x]
/-- A value more: each has its place as it had. -/
theorem atD_step (v : List Nat) (x : Nat) : atD (v ++ [x]) = atD v ++ [plc x (uniq (v ++ [x]))] := by
 obtain ⟨t, ht⟩ := uniq_keep (v := v) (x := x)
 unfold atD
 rw [List.map_append]
 congr 1
 apply List.map_congr_left
 intro y hy
 rw [ht, plc_app (uniq_mem hy)]
/-- What Dict has made of i values. -/
def RDTo (w wr : World) (us : List Nat) (i : Nat) (v u : Value) : Prop :=
 Own w.heap.size wr 26 v (cellsU (uniq (us.take i))) ∧ Own w.heap.size wr 26 u (cellsU (atD (us.take i))) ∧ Twain v u ∧ (uniq (us.take i)).length ≤ 256 ∧ Mod (fun _ => False) w wr
set_option maxHeartbeats 4000000 in
set_option maxRecDepth 100000 in
theorem rdenc_any (A : Option Addr) (n cap B : Nat) (us : List Nat) (w : World) (hs : Rds w B A n (cellsU us)) (hB : B ≤ w.heap.size) (hu : ∀ x ∈ us, x < 2 ^ 64) (hn : n ≤ 1000000) :
  Calls Tryz.prog 76 #[.slice A n cap] w fun e w' => EncB w w' (encD us) e := by
 have hul : us.length = n := by have := hs.1; rwa [cellsU_length] at this
 have R0 : Hid (RDTo w w us 0 (.slice none 0 0) (.slice none 0 0)) := Lib.hid ⟨Own.nil _ _ _, Own.nil _ _ _, (fun _ h => by cases h), Nat.zero_le _, Mod.refl _ _⟩
 have Hs := Lib.hid hs; have Hu := Lib.hid hu; have HB := Lib.hid hB; have Hul := Lib.hid hul
 clear hs hu hB hul
 go_enter Tryz.func76, Tryz.ntmps76
 go_wp2_with fail
 go_loopg [4, 5, 6] n (fun l s4 s5 s6 wr => ∃ i : Nat, i + l = n ∧ s6 = .int .i64 (i : Int) ∧ RDTo w wr us i s4 s5)
 case atStart => exact ⟨0, by omega, rfl, R0.out⟩
 case round =>
  obtain ⟨i, hil, rfl, hown4, hown5, htw, hlen, hm⟩ := hrel
  obtain ⟨A4, L, c4, rfl, HL, _, hr4⟩ := own_formUN hown4
  have H4 := Lib.hid hown4; have H5 := Lib.hid hown5; have Htw := Lib.hid htw; have Hm := Lib.hid hm; have Hil := Lib.hid hil; have Hr4 := Lib.hid hr4
  have hL256 : L ≤ 256 := by have := HL.out; omega
  clear hown4 hown5 htw hm hil hr4 R0 hlen
  by_cases hin : i < n
  ·obtain ⟨ad, x, rfl, hx, hcx⟩ := Hs.out.at2 hin HB.out Hm.out (fun _ _ h => h)
   have Hcell : Hid (∀ W, Mod (fun _ => False) w W → W.cell? (ad.add i) = some (.int .u64 (x : Int))) := Lib.hid (fun W hW => by
    obtain ⟨ad', x', e, hx', hc⟩ := Hs.out.at2 hin HB.out hW (fun _ _ h => h)
    injection e with e
    subst e
    rw [hx] at hx'
    injection hx' with hx'
    subst hx'
    exact hc)
   have Htk := Lib.hid (take_succ_of hx)
   have Hat : Hid (atD (us.take (i + 1)) = atD (us.take i) ++ [plc x (uniq (us.take (i + 1)))]) := Lib.hid (by rw [Htk.out, atD_step])
   have hi0 : (0 : Int) ≤ (i : Int) := by omega
   have hini : (i : Int) < (n : Int) := by omega
   have hatl : (atD (us.take i)).length ≤ 1000000 := by rw [atD_len, List.length_take]; omega
   have hr3 : (cellsU (atD (us.take i))).length + 1 ≤ maxLen := by rw [cellsU_length]; unfold maxLen; omega
   have hr4 : ((cellsU (atD (us.take i))).length + 1) * 8 ≤ 140737488355328 := by rw [cellsU_length]; omega
   have Hr3 := Lib.hid hr3; have Hr34 := Lib.hid hr4
   clear hx hatl hr3 hr4
   by_cases hin2 : x ∈ uniq (us.take i)
   ·have Hq : Hid (uniq (us.take (i + 1)) = uniq (us.take i)) := Lib.hid (by rw [Htk.out, uniq_snoc, if_pos hin2])
    obtain ⟨p, hp⟩ : ∃ p, plc x (uniq (us.take i)) = p := ⟨_, rfl⟩
    have hp256 : p < 256 := by have h := plc_lt hin2; have := HL.out; omega
    have Hpl : Hid (plcI x (uniq (us.take i)) = (p : Int)) := Lib.hid (by rw [plcI_in hin2, hp])
    have Hp2 : Hid (plc x (uniq (us.take (i + 1))) = p) := Lib.hid (by rw [Hq.out]; exact hp)
    have Hplace := Lib.hid (place_any A4 L c4 _ x (uniq (us.take i)) wr Hr4.out (Nat.le_refl _) (by omega))
    have hp0 : ¬ (p : Int) < 0 := by omega
    have hsz := Hm.out.size
    have hLb : ¬ (256 : Int) < (L : Int) := by omega
    clear hin2 hp
    go_wp2_with fail
    refine Hplace.out.mono ?_
    rintro e w1 ⟨rfl, rfl⟩
    rw [Hpl.out]
    go_wp2_with fail
    refine Hplace.out.mono ?_
    rintro e w1 ⟨rfl, rfl⟩
    rw [Hpl.out]
    go_wp2_with (at_builtin; refine wpList_app1g rfl (.tmp 29) (.tmp 37) _ rfl eltU rfl H5.out rfl rfl rfl Hr3.out Hr34.out hsz ?_; intro v5 w5 HO5 HB5 HG5)
    have HR : Hid (RDTo w w5 us (i + 1) (.slice A4 L c4) v5) := Lib.hid ⟨by rw [Hq.out]; exact HG5.out.1.owns H4.out (fun k hk e => Htw.out k hk e), by rw [Hat.out, cellsU_snoc, Hp2.out]; exact HO5.out, (Htw.out.symm.step H4.out HG5.out.2).symm, by rw [Hq.out, HL.out]; exact hL256, Hm.out.trans (Mod.of_below HB5.out) (fun i hi h => by omega)⟩
    clear HO5 HB5 HG5
    go_roundg (gk - 1)
    case measure => have := Hil.out; omega
    case rel => exact ⟨i + 1, by have := Hil.out; omega, by go_num, HR.out⟩
   ·have Hq : Hid (uniq (us.take (i + 1)) = uniq (us.take i) ++ [x]) := Lib.hid (by rw [Htk.out, uniq_snoc, if_neg hin2])
    have hxm : x ∈ uniq (us.take (i + 1)) := by rw [Hq.out]; simp
    have Hp2 : Hid (plc x (uniq (us.take (i + 1))) = L) := Lib.hid (by
     rw [Hq.out]
     refine plc_is (by rw [List.getElem?_append_right (by rw [HL.out]; exact Nat.le_refl _), HL.out, Nat.sub_self]; rfl) fun j hj => ?_
     rw [List.getElem?_append_left (by rw [HL.out]; exact hj)]
     exact fun e => hin2 (List.mem_of_getElem? e))
    have Hpl : Hid (plcI x (uniq (us.take i)) = -1) := Lib.hid (plcI_out hin2)
    have Hpl2 : Hid (plcI x (uniq (us.take (i + 1))) = (L : Int)) := Lib.hid (by rw [plcI_in hxm, Hp2.out])
    have Hplace := Lib.hid (place_any A4 L c4 _ x (uniq (us.take i)) wr Hr4.out (Nat.le_refl _) (by omega))
    have HL' : Hid (∀ L', (uniq (us.take (i + 1))).length = L' → L' = L + 1) := Lib.hid (fun L' h => by rw [Hq.out, List.length_append, HL.out] at h; exact h.symm)
    have Hmono : Hid ((uniq (us.take (i + 1))).length ≤ (uniq us).length) := Lib.hid (uniq_take_le us (i + 1))
    have hr1 : (cellsU (uniq (us.take i))).length + 1 ≤ maxLen := by rw [cellsU_length, HL.out]; unfold maxLen; omega
    have hr2 : ((cellsU (uniq (us.take i))).length + 1) * 8 ≤ 140737488355328 := by rw [cellsU_length, HL.out]; omega
    have Hr1 := Lib.hid hr1; have Hr2 := Lib.hid hr2
    have hsz := Hm.out.size
    clear hin2 hxm hr1 hr2
    go_wp2_with fail
    refine Hplace.out.mono ?_
    rintro e w1 ⟨rfl, rfl⟩
    rw [Hpl.out]
    go_wp2_with (at_builtin; refine wpList_app1g rfl (.tmp 22) (.tmp 27) _ rfl eltU rfl H4.out rfl rfl rfl Hr1.out Hr2.out hsz ?_; intro v4 w4 HO4 HB4 HG4; have Hm4 := Lib.hid (Hm.out.trans (Mod.of_below HB4.out) (fun i hi h => by omega)); have H5a : Hid (Own w.heap.size w4 26 u5 (cellsU (atD (us.take i)))) := Lib.hid (HG4.out.1.owns H5.out (fun k hk e => Htw.out.symm k hk e)); have Htw4 := Lib.hid (Htw.out.step H5.out HG4.out.2); have H4' : Hid (Own w.heap.size w4 26 v4 (cellsU (uniq (us.take (i + 1))))) := Lib.hid (by rw [Hq.out, cellsU_snoc]; exact HO4.out); clear HO4 HB4 HG4; obtain ⟨A6, L6, c6, rfl, HL6, _, hr6⟩ := own_formUN H4'.out; obtain rfl := HL'.out L6 HL6.out; have Hplace4 := Lib.hid (place_any A6 (L + 1) c6 _ x (uniq (us.take (i + 1))) w4 hr6 (Nat.le_refl _) (by omega)); clear hr6; have hcx4 := Hcell.out _ Hm4.out; have hsz4 : w.heap.size ≤ w4.heap.size := Hm4.out.size)
    refine Hplace4.out.mono ?_
    rintro e w1 ⟨rfl, rfl⟩
    rw [Hpl2.out]
    go_wp2_with (at_builtin; refine wpList_app1g rfl (.tmp 29) (.tmp 37) _ rfl eltU rfl H5a.out rfl rfl rfl Hr3.out Hr34.out hsz4 ?_; intro v5 w5 HO5 HB5 HG5)
    ·have Hd : Hid (encD us = none) := Lib.hid (encD_many (by have := Hmono.out; have := HL6.out; omega))
     have Hm5 := Lib.hid (Hm4.out.trans (Mod.of_below HB5.out) (fun i hi h => by omega))
     go_ret2
     rw [Hd.out]
     exact ⟨rfl, Hm5.out⟩
    ·have HR : Hid (RDTo w w5 us (i + 1) (.slice A6 (L + 1) c6) v5) := Lib.hid ⟨HG5.out.1.owns H4'.out (fun k hk e => Htw4.out k hk e), by rw [Hat.out, cellsU_snoc, Hp2.out]; exact HO5.out, (Htw4.out.symm.step H4'.out HG5.out.2).symm, by rw [HL6.out]; omega, Hm4.out.trans (Mod.of_below HB5.out) (fun i hi h => by omega)⟩
     clear HO5 HB5 HG5
     go_roundg (gk - 1)
     case measure => have := Hil.out; omega
     case rel => exact ⟨i + 1, by have := Hil.out; omega, by go_num, HR.out⟩
  ·have hi : i = n := by have := Hil.out; omega
   obtain ⟨A5, m5, c5, rfl, HL5, _, hr5⟩ := own_formUN H5.out
   have htk : us.take i = us := List.take_of_length_le (by rw [Hul.out]; omega)
   rw [htk] at HL HL5 hr5
   have hr4 := Hr4.out
   rw [htk] at hr4
   obtain rfl : m5 = n := by have := HL5.out; rw [atD_len, Hul.out] at this; exact this.symm
   have Hr5 := Lib.hid hr5; have Hr4' := Lib.hid hr4
   clear hr5 hr4 htk H4 H5 Htw Hr4 hin
   by_cases h0 : m5 = 0
   ·have hn0 : ((m5 : Int) == 0) = true := by simp; omega
    have Hd : Hid (encD us = some []) := Lib.hid (by
     have e : us = [] := List.eq_nil_of_length_eq_zero (by rw [Hul.out]; exact h0)
     rw [e]
     exact encD_nil)
    clear h0
    go_wp2_with fail
    go_ret2
    rw [Hd.out]
    exact ⟨_, rfl, Own.nil _ _ _, Hm.out⟩
   ·have hn0 : ((m5 : Int) == 0) = false := by simp; omega
    have Hne : Hid (us ≠ []) := Lib.hid (by rintro rfl; exact h0 Hul.out.symm)
    have hL0 : ¬ L = 0 := by have h := uniq_pos Hne.out; have := HL.out; omega
    have hL64 : Hid (Lt64 L) := Lib.hid (by unfold Lt64; omega)
    obtain ⟨S, hS⟩ : ∃ S, wid (L - 1) = S := ⟨_, rfl⟩
    have hS64 : S ≤ 64 := by rw [← hS]; exact wid_le _
    obtain ⟨y, hy⟩ : ∃ y, y = L - 1 := ⟨_, rfl⟩
    have hyi : (L : Int) - 1 = (y : Int) := by omega
    have hyL : y ≤ 1000000 := by omega
    have Hwid : Hid (∀ W, Calls Tryz.prog 75 #[.int .u64 (y : Int)] W fun e w' => e = .returned (.int .i64 (S : Int)) ∧ W = w') := Lib.hid (fun W => rwidth_any y S W (by unfold Lt64; omega) (by rw [hy]; exact hS))
    have HS := Lib.hid hS
    have Hu2 : Hid (∀ x ∈ uniq us, x < 2 ^ 64) := Lib.hid (fun x hx => Hu.out x (uniq_of hx))
    have Hat2 : Hid (∀ x ∈ atD us, x < 2 ^ 64) := Lib.hid (fun x hx => by
     obtain ⟨z, hz, rfl⟩ := List.mem_map.1 hx
     have := plc_lt (uniq_mem hz)
     have := HL.out
     omega)
    clear h0 hL0 hS hy
    go_wp2_with fail
    refine (vrput_any none 0 0 0 [] L wr (Rds.nil _ _ _) (by omega) hL64.out).mono ?_
    rintro e w1 ⟨v1, rfl, ho1, hb1⟩
    rw [List.nil_append] at ho1
    have P0 : Hid (ListTo wr w1 (uniq us) 0 v1) := Lib.hid ⟨by rw [HL.out, List.take_zero]; show Own _ _ _ _ (cells8 (enc L ++ [])); rw [List.append_nil]; exact ho1, mod_below hb1⟩
    clear ho1 hb1
    generalize wr = wP at *
    go_wp2_with fail
    go_loopg [7, 8] L (fun l' s7 s8 wr => ∃ j : Nat, j + l' = L ∧ s8 = .int .i64 (j : Int) ∧ ListTo wP wr (uniq us) j s7)
    case atStart => exact ⟨0, by omega, rfl, P0.out⟩
    case round =>
     obtain ⟨j, hjl, rfl, hown, hm⟩ := hrel
     have Hown := Lib.hid hown; have Hmj := Lib.hid hm; have Hjl := Lib.hid hjl
     clear hown hm hjl P0
     have hjL : j ≤ L := by have := Hjl.out; omega
     obtain ⟨A3, L3, c3, rfl, HL3, _, _, hr3⟩ := own_formN8 Hown.out
     have hL3 : L3 ≤ 100000 := by
      have h1 := enc_len10 hL64.out.out
      have h2 := encV_len (l := (uniq us).take j) (fun x hx => Hu2.out x (List.mem_of_mem_take hx))
      have h3 : ((uniq us).take j).length ≤ L := by rw [List.length_take, HL.out]; omega
      have h4 := HL3.out
      rw [HL.out, List.length_append] at h4
      omega
     have Hr3 := Lib.hid hr3
     clear hr3
     by_cases hjn : j < L
     ·obtain ⟨ad, x, rfl, hx, hcx⟩ := Hr4'.out.at2 hjn (Nat.le_refl _) Hmj.out (fun _ _ h => h)
      have Hx64 : Hid (Lt64 x) := Lib.hid (Hu2.out x (List.mem_of_getElem? hx))
      have Htk : Hid (encV ((uniq us).take (j + 1)) = encV ((uniq us).take j) ++ enc x) := Lib.hid (by rw [take_succ_of hx, encV_snoc])
      have hj0 : (0 : Int) ≤ (j : Int) := by omega
      clear hx
      go_wp2_with fail
      refine (vrput_any A3 L3 c3 _ _ x wr Hr3.out (by omega) Hx64.out).mono ?_
      rintro e w2 ⟨v2, rfl, ho2, hb2⟩
      rw [List.append_assoc, ← Htk.out] at ho2
      have HP : Hid (ListTo wP w2 (uniq us) (j + 1) v2) := Lib.hid ⟨ho2.mono Hmj.out.size, Hmj.out.trans (mod_below hb2) (fun _ _ h => h)⟩
      clear ho2 hb2
      go_wp2_with fail
      go_roundg (gk - 1)
      case measure => have := Hjl.out; omega
      case rel => exact ⟨j + 1, by have := Hjl.out; omega, by go_num, HP.out⟩
     ·have hjL2 : j = L := by have := Hjl.out; omega
      have Hr3' : Hid (Rds wr wr.heap.size A3 L3 (cells8 (enc L ++ encV (uniq us)))) := Lib.hid (by
       have h := Hr3.out
       rw [List.take_of_length_le (by rw [HL.out]; omega), HL.out] at h
       exact h)
      clear Hr3 HL3 hjn
      go_wp2_with fail
      refine (Hwid.out _).mono ?_
      rintro e w1 ⟨rfl, rfl⟩
      go_wp2_with fail
      refine (rpack_any A3 A5 L3 c3 m5 c5 _ S (enc L ++ encV (uniq us)) (atD us) wr Hr3'.out (Hr5.out.new Hmj.out).fit (Nat.le_refl _) Hat2.out hS64 (by omega) hn).mono ?_
      rintro e w2 ⟨v2, rfl, ho2, hm2⟩
      have Ho2 := Lib.hid ho2; have Hm2 := Lib.hid ((Hm.out.trans Hmj.out (fun _ _ h => h)).trans hm2 (fun _ _ h => h))
      clear ho2 hm2
      go_wp2_with fail
      go_ret2
      have ho := Ho2.out
      rw [encD_cons Hne.out (by rw [HL.out]; omega), HL.out, HS.out]
      rw [List.append_assoc] at ho
      exact ⟨_, rfl, ho.mono (Nat.le_trans Hm.out.size Hmj.out.size), Hm2.out⟩
end Go.Proofs.YtmeilddngohccaaGreatDoor

/- Values told in a codec, as the document has it: told. -/
namespace Go.Proofs.YtmeilddngohccaaGreatDoor
open Go.RowKit

theorem RWrote.done {w w1 w2 : World} {g : Nat} {fs : List (Nat × Nat)} (h : RWrote w1 w2 g none 0 0 fs) (hg : w.heap.size ≤ g) (hm : Mod (fun _ => False) w w1) : ∃ row, RWr w2 g row (fnum fs) (flen fs) ∧ Mod (fun _ => False) w w2 := by
 obtain ⟨row, a1, a2, _⟩ := h
 rw [Nat.zero_mul, Nat.zero_add, Nat.zero_add] at a1
 exact ⟨row, a1, hm.trans a2 (fun i hi h => h.elim (fun e => by omega) (fun e => by cases e))⟩
theorem RWr.new (w : World) : RWr (w.alloc (.cells #[.slice none 0 0] 92)) w.heap.size none 0 0 :=
 ⟨.slice none 0 0, [], Blk.new _ _ _, World.ownsRow_nil _ _ _ _, rfl, (fun _ h => by cases h), rfl, rfl⟩
theorem w8_len (x : Nat) : (w8 x).length = 8 := rfl
theorem w8_at (x : Nat) : ∀ j, j < 8 → (w8 x)[j]? = some (x / 2 ^ (8 * (7 - j)) % 256) := by
 intro j hj
 have h' : j = 0 ∨ j = 1 ∨ j = 2 ∨ j = 3 ∨ j = 4 ∨ j = 5 ∨ j = 6 ∨ j = 7 := by omega
 rcases h' with rfl | rfl | rfl | rfl | rfl | rfl | rfl | rfl
 ·rfl
 ·rfl
 ·rfl
 ·rfl
 ·rfl
 ·rfl
 ·rfl
 ·show some (x % 256) = some (x / 2 ^ (8 * 0) % 256)
  rw [Nat.mul_zero, Nat.pow_zero, Nat.div_one]
theorem words8_take {ws : List Nat} {i x : Nat} (h : ws[i]? = some x) : words8 (ws.take (i + 1)) = words8 (ws.take i) ++ w8 x := by
 rw [take_succ_of h, words8_app]
 show _ ++ (w8 x ++ []) = _
 rw [List.append_nil]
/-- The first i words and j bytes of the next. -/
def BytTo (w wr : World) (ws : List Nat) (i : Nat) (tl : List Nat) (v : Value) : Prop := Own w.heap.size wr 5 v (cells8 (words8 (ws.take i) ++ tl)) ∧ Mod (fun _ => False) w wr
set_option maxHeartbeats 4000000 in
set_option maxRecDepth 100000 in
theorem rtold_any (tag : Int) (A : Option Addr) (n cap : Nat) (us : List Nat) (w : World) (hs : Rds w w.heap.size A n (cellsU us)) (hu : ∀ x ∈ us, x < 2 ^ 64) (hn : n ≤ 1000000) (hcap : n ≤ cap) :
  Calls Tryz.prog 50 #[.int .i64 tag, .slice A n cap] w fun e w' => EncB w w' (toldK tag us) e := by
 have hul : us.length = n := by have := hs.1; rwa [cellsU_length] at this
 by_cases h1 : tag = 1
 ·subst h1
  obtain ⟨W, hW⟩ : ∃ W, W = w.alloc (.cells #[.slice none 0 0] 92) := ⟨_, rfl⟩
  have hmW : Mod (fun _ => False) w W := by rw [hW]; exact (Mod.refl _ _).alloc _
  have hrw : RWr W w.heap.size none 0 0 := by rw [hW]; exact RWr.new w
  have Hs1 := Lib.hid (hs.mod hmW (Nat.le_refl _) (fun _ _ h => h))
  have Hap : Hid (0 < n → ∀ ad, A = some ad → ¬ (ad.block = w.heap.size ∨ none = some ad.block)) := Lib.hid (fun h0 ad hA h => by
   obtain ⟨ad', hA', hb, _⟩ := hs.2 h0
   rw [hA] at hA'
   injection hA' with hA'
   subst hA'
   rcases h with h | h
   ·omega
   ·cases h)
  have Hs := Lib.hid hs; have Hu := Lib.hid hu; have Hul := Lib.hid hul; have HW := Lib.hid hW; have HmW := Lib.hid hmW; have Hrw := Lib.hid hrw
  clear hs hu hul hW hmW hrw
  go_enter Tryz.func50, Tryz.ntmps50
  go_wp2_with fail
  rw [← HW.out]
  refine (rvalues_any w.heap.size w.heap.size none 0 0 n cap A us W Hs1.out Hu.out HmW.out.size Hap.out Hrw.out (by omega)).mono ?_
  rintro e w2 ⟨rfl, h2⟩
  obtain ⟨row, hwr2, hm2⟩ := h2.done (Nat.le_refl _) HmW.out
  have hfl := encVals_len us
  rw [Hul.out] at hfl
  have Hwr2 := Lib.hid hwr2; have Hm2 := Lib.hid hm2; have Hfl := Lib.hid hfl
  clear h2 hwr2 hm2 hfl Hs1 Hrw
  go_wp2_with fail
  refine (rbytes_any w.heap.size row _ _ w2 Hwr2.out (by have := Hfl.out; omega)).mono ?_
  rintro e w3 ⟨v3, bs, rfl, hnew, hpk⟩
  obtain rfl := hpk.packF
  have Ho3 := Lib.hid (hnew.own.mono Hm2.out.size); have Hm3 := Lib.hid (Hm2.out.trans hnew.2.1 (fun _ _ h => h))
  clear hnew hpk
  go_wp2_with fail
  go_ret2
  exact EncB.of_own Ho3.out Hm3.out
 by_cases h2 : tag = 2
 ·subst h2
  have Hs := Lib.hid hs; have Hu := Lib.hid hu; have Hul := Lib.hid hul
  have Htk : Hid (toldK 2 us = (encS (stepsU 0 us)).map words8) := Lib.hid rfl
  clear hs hu hul
  go_enter Tryz.func50, Tryz.ntmps50
  go_wp2_with fail
  refine (rsteps_any A n cap us w Hs.out Hu.out hn).mono ?_
  rintro e w1 ⟨v1, rfl, ho1, hm1⟩
  obtain ⟨A1, L1, c1, rfl, HL1, hc1, hr1⟩ := own_formUN ho1
  have hL1 : L1 ≤ 1000000 := by have := HL1.out; rw [stepsU_len] at this; have := Hul.out; omega
  have Hr1 := Lib.hid hr1; have Hm1 := Lib.hid hm1; have Hst : Hid (∀ x ∈ stepsU 0 us, x < 2 ^ 64) := Lib.hid (stepsU_lt us 0)
  have Hc1 := Lib.hid hc1
  clear ho1 hm1 hr1 hc1 Hs Hu
  go_wp2_with fail
  refine (simple_any A1 L1 c1 w1.heap.size (stepsU 0 us) w1 Hr1.out (Nat.le_refl _) Hst.out hL1 Hc1.out).mono ?_
  intro e w2 he
  have he' : EncE w1 w2 (encS (stepsU 0 us)) e := he
  clear he
  cases ho : encS (stepsU 0 us) with
  | none =>
   obtain ⟨rfl, hm2⟩ := EncE.none_ he' ho
   have Hno : Hid (toldK 2 us = none) := Lib.hid (by rw [Htk.out, ho]; rfl)
   have Hm2 := Lib.hid (Hm1.out.trans hm2 (fun _ _ h => h))
   clear he' ho hm2
   go_wp2_with fail
   go_loopg [9, 10] 0 (fun k s9 s10 wr => s9 = .slice none 0 0 ∧ s10 = .int .i64 0 ∧ wr = w2)
   case atStart => exact ⟨rfl, rfl, rfl⟩
   case round =>
    obtain ⟨rfl, rfl, rfl⟩ := hrel
    go_wp2_with fail
    go_ret2
    rw [Hno.out]
    exact ⟨rfl, Hm2.out⟩
  | some ws =>
   obtain ⟨v2, rfl, how, hm2⟩ := EncE.some_ he' ho
   obtain ⟨hwl, hw64⟩ := encS_len _ _ _ rfl ho
   obtain ⟨A2, L2, c2, rfl, HL2, hc2, hr2⟩ := own_formUN how
   have hL2 : L2 ≤ 1000000 := by have := HL2.out; have := HL1.out; omega
   have Hyes : Hid (toldK 2 us = some (words8 ws)) := Lib.hid (by rw [Htk.out, ho]; rfl)
   have Hm2 := Lib.hid (Hm1.out.trans hm2 (fun _ _ h => h)); have Hr2 := Lib.hid hr2; have Hw64 := Lib.hid hw64
   have B0 : Hid (BytTo w2 w2 ws 0 [] (.slice none 0 0)) := Lib.hid ⟨Own.nil _ _ _, Mod.refl _ _⟩
   clear he' ho how hm2 hwl hw64 hr2 hc2 Hm1 Hr1 Hst Hc1 Htk
   go_wp2_with fail
   go_loopg [9, 10] L2 (fun k s9 s10 wr => ∃ i : Nat, i + k = L2 ∧ s10 = .int .i64 (i : Int) ∧ BytTo w2 wr ws i [] s9)
   case atStart => exact ⟨0, by omega, rfl, B0.out⟩
   case round =>
    obtain ⟨i, hik, rfl, hB⟩ := hrel
    have Hik := Lib.hid hik; have HB := Lib.hid hB
    clear hik hB B0
    by_cases hin : i < L2
    ·obtain ⟨ad, x, rfl, hx, hcx⟩ := Hr2.out.at2 hin (Nat.le_refl _) HB.out.2 (fun _ _ h => h)
     have hx64 := Hw64.out x (List.mem_of_getElem? hx)
     have hini : (i : Int) < (L2 : Int) := by omega
     have Hx := Lib.hid hx; have Hx64 := Lib.hid hx64
     obtain ⟨k1, hk1⟩ : ∃ k1 : Nat, k1 = gk - 1 := ⟨_, rfl⟩
     have Hk1 : Hid (i + 1 + k1 = L2 ∧ k1 < gk) := Lib.hid (by have := Hik.out; omega)
     clear hk1
     have Hcx : Hid (∀ w', Mod (fun _ => False) w2 w' → w'.cell? (ad.add i) = some (.int .u64 (x : Int))) := Lib.hid (fun w' hm' => by
      obtain ⟨ad', x', hA, hx', hc'⟩ := Hr2.out.at2 hin (Nat.le_refl _) hm' (fun _ _ h => h)
      injection hA with hA
      subst hA
      rw [hx] at hx'
      injection hx' with hx'
      subst hx'
      exact hc')
     have C0 : Hid (BytTo w2 wr ws i ((w8 x).take 0) u9) := Lib.hid HB.out
     clear hx hx64 hcx
     go_wp2_with fail
     go_loopg [9, 11] 8 (fun k s9 s11 wq => ∃ (j : Nat) (kk : Int), j + k = 8 ∧ kk = 7 - (j : Int) ∧ s11 = .int .i64 kk ∧ BytTo w2 wq ws i ((w8 x).take j) s9)
     case atStart => exact ⟨0, 7, by omega, rfl, rfl, C0.out⟩
     case round =>
      obtain ⟨j, kk, hjk, hkk, rfl, hC⟩ := hrel
      have Hjk := Lib.hid hjk; have HC := Lib.hid hC; have Hkk := Lib.hid hkk
      clear hjk hC C0 hkk
      by_cases hj8 : j < 8
      ·have hcxq := Hcx.out wr HC.out.2
       obtain ⟨m, hm⟩ : ∃ m : Nat, m = 7 - j := ⟨_, rfl⟩
       obtain rfl : kk = (m : Int) := by have := Hkk.out; omega
       obtain ⟨q, hq⟩ : ∃ q : Nat, q = 8 * m := ⟨_, rfl⟩
       have hq56 : q ≤ 56 := by omega
       have hqi : 8 * (m : Int) = (q : Int) := by omega
       have hm0 : (0 : Int) ≤ (m : Int) := by omega
       obtain ⟨b, hb⟩ : ∃ b : Nat, b = x / 2 ^ q % 256 := ⟨_, rfl⟩
       have hbi : (x : Int) / 2 ^ q % 256 = (b : Int) := by rw [hb]; simp
       have Hb : Hid ((w8 x)[j]? = some b) := Lib.hid (by rw [w8_at x j hj8, hb, hq, hm])
       have hlen : (cells8 (words8 (ws.take i) ++ (w8 x).take j)).length ≤ 8000008 := by
        rw [cells8_length, List.length_append, words8_len, List.length_take, List.length_take, w8_len]
        omega
       have HR : Hid (Room (cells8 (words8 (ws.take i) ++ (w8 x).take j)).length 1) := Lib.hid (Room.mk _ _ (by omega))
       have hsz := HC.out.2.size
       have hmj : Hid (m = 7 - j) := Lib.hid hm
       clear hb hlen hq hm
       go_wp2_with (at_builtin; refine wpList_app1 rfl (.tmp 41) (.tmp 51) _ rfl elt8 rfl HC.out.1 rfl rfl rfl HR.out.1 HR.out.2 hsz ?_; intro v4 w4 HO4 HB4)
       have HC2 : Hid (BytTo w2 w4 ws i ((w8 x).take (j + 1)) v4) := Lib.hid ⟨by
        have e : words8 (ws.take i) ++ (w8 x).take (j + 1) = (words8 (ws.take i) ++ (w8 x).take j) ++ [b] := by
         rw [take_succ_of Hb.out, List.append_assoc]
        rw [e, cells8_snoc]
        exact HO4.out, HC.out.2.trans (Mod.of_below HB4.out) (fun i hi h => by omega)⟩
       go_roundg (gk - 1)
       case measure => have := Hjk.out; omega
       case rel => exact ⟨j + 1, (m : Int) - 1, by have := Hjk.out; omega, by have := hmj.out; omega, by go_num, HC2.out⟩
      ·have hk0 : ¬ (0 : Int) ≤ kk := by have := Hkk.out; omega
       have HB2 : Hid (BytTo w2 wr ws (i + 1) [] u9) := Lib.hid (by
        have h := HC.out
        rw [show (w8 x).take j = w8 x from List.take_of_length_le (by rw [w8_len]; omega)] at h
        unfold BytTo at h ⊢
        rw [List.append_nil, words8_take Hx.out]
        exact h)
       clear HC Hcx
       go_wp2_with fail
       go_roundg k1
       case measure => exact Hk1.out.2
       case rel => exact ⟨i + 1, Hk1.out.1, by go_num, HB2.out⟩
    ·have hi : i = L2 := by have := Hik.out; omega
     obtain ⟨k1, k2⟩ := HB.out
     rw [List.append_nil, List.take_of_length_le (by rw [HL2.out]; omega)] at k1
     have Ho := Lib.hid (k1.mono Hm2.out.size); have Hm := Lib.hid (Hm2.out.trans k2 (fun _ _ h => h))
     clear hi k1 k2
     go_wp2_with fail
     go_ret2
     exact EncB.of_some Hyes.out Ho.out Hm.out
 by_cases h3 : tag = 3
 ·subst h3
  have hcall := lrenc_any A n cap w.heap.size us w hs (Nat.le_refl _) hu hn
  have Hcall := Lib.hid hcall
  clear hs hu hcall
  go_enter Tryz.func50, Tryz.ntmps50
  go_wp2_with fail
  refine Hcall.out.mono ?_
  rintro e w1 ⟨v, rfl, ho, hm⟩
  have Ho := Lib.hid ho; have Hm := Lib.hid hm
  clear ho hm
  go_wp2_with fail
  go_ret2
  exact EncB.of_own Ho.out Hm.out
 by_cases h4 : tag = 4
 ·subst h4
  have hcall := rpenc_any A n cap w.heap.size us w hs (Nat.le_refl _) hu hn
  have Hcall := Lib.hid hcall
  clear hs hu hcall
  go_enter Tryz.func50, Tryz.ntmps50
  go_wp2_with fail
  refine Hcall.out.mono ?_
  rintro e w1 ⟨v, rfl, ho, hm⟩
  have Ho := Lib.hid ho; have Hm := Lib.hid hm
  clear ho hm
  go_wp2_with fail
  go_ret2
  exact EncB.of_own Ho.out Hm.out
 by_cases h5 : tag = 5
 ·subst h5
  have hcall := rdenc_any A n cap w.heap.size us w hs (Nat.le_refl _) hu hn
  have Hcall := Lib.hid hcall
  clear hs hu hcall
  go_enter Tryz.func50, Tryz.ntmps50
  go_wp2_with fail
  refine Hcall.out.mono ?_
  intro e w1 he
  obtain ⟨v, rfl, he⟩ := he.parts
  have He := Lib.hid he
  clear he
  go_wp2_with fail
  go_ret2
  exact He.out
 by_cases h6 : tag = 6
 ·subst h6
  have Htk : Hid (toldK 6 us = toldSame us) := Lib.hid rfl
  by_cases h0 : n = 0
  ·subst h0
   obtain rfl := List.eq_nil_of_length_eq_zero hul
   clear hs
   go_enter Tryz.func50, Tryz.ntmps50
   go_wp2_with fail
   go_ret2
   exact EncB.of_some Htk.out (Own.nil _ _ _) (Mod.refl _ _)
  ·have hn0 : ((n : Int) == 0) = false := by simp; omega
   obtain ⟨ad, x, rfl, hx, hcx⟩ := hs.at2 (show 0 < n by omega) (Nat.le_refl _) (Mod.refl (fun _ => False) w) (fun _ _ h => h)
   have hx64 : Lt64 x := by have := hu x (List.mem_of_getElem? hx); unfold Lt64; omega
   have hnp : (0 : Int) < (n : Int) := by omega
   have Hs := Lib.hid hs; have Hul := Lib.hid hul; have Hx := Lib.hid hx; have Hx64 := Lib.hid hx64
   clear hs hu hul hx hx64 hcx h0
   go_enter Tryz.func50, Tryz.ntmps50
   go_wp2_with fail
   go_loopg [12] n (fun l s12 wr => ∃ i : Nat, i + l = n ∧ s12 = .int .i64 (i : Int) ∧ Mod (fun _ => False) w wr ∧ ∀ j y : Nat, j < i → us[j]? = some y → y = x)
   case atStart => exact ⟨0, by omega, rfl, Mod.refl _ _, fun j y h => by omega⟩
   case round =>
    obtain ⟨i, hil, rfl, hm, hall⟩ := hrel
    have Hil := Lib.hid hil; have Hall := Lib.hid hall; have Hm := Lib.hid hm
    obtain ⟨ad0, x0, hA0, hx0, hc0⟩ := Hs.out.at2 (show 0 < n by omega) (Nat.le_refl _) hm (fun _ _ h => h)
    injection hA0 with hA0
    subst hA0
    obtain rfl : x0 = x := by have := Hx.out; rw [hx0] at this; injection this
    have hcx0 : wr.cell? ad = some (.int .u64 (x0 : Int)) := by rw [← add_zero' ad]; exact hc0
    clear hil hall hx0 hc0
    by_cases hin : i < n
    ·obtain ⟨ad', y, hA, hy, hcy⟩ := Hs.out.at2 hin (Nat.le_refl _) hm (fun _ _ h => h)
     injection hA with hA
     subst hA
     have hini : (i : Int) < (n : Int) := by omega
     have Hy := Lib.hid hy
     clear hy hm
     by_cases hyx : y = x0
     ·subst hyx
      go_upto_region 29 with fail
      go_quiet (fail)
      go_wp2_with fail
      go_roundg (gk - 1)
      case measure => have := Hil.out; omega
      case rel => exact ⟨i + 1, by have := Hil.out; omega, by go_num, Hm.out.drewN _, fun j z hj hz => by
       rcases Nat.lt_or_ge j i with h | h
       ·exact Hall.out j z h hz
       ·obtain rfl : j = i := by omega
        rw [Hy.out] at hz
        injection hz with hz
        exact hz.symm⟩
     ·have hyb : ((y : Int) == (x0 : Int)) = false := by simp; omega
      have hyb2 : ((y : Int) != (x0 : Int)) = true := by simp; omega
      have Hno : Hid (toldK 6 us = none) := Lib.hid (by rw [Htk.out]; exact toldSame_none Hx.out Hy.out hyx)
      clear hyx
      go_upto_region 29 with fail
      go_quiet (fail)
      go_wp2_with fail
      go_ret2
      exact EncB.of_none Hno.out (Hm.out.drewN _)
    ·have hi : i = n := by have := Hil.out; omega
     have Hyes : Hid (toldK 6 us = some (enc x0)) := Lib.hid (by rw [Htk.out]; exact toldSame_some Hx.out (fun j y hy => Hall.out j y (by have := (List.getElem?_eq_some_iff.1 hy).1; have := Hul.out; omega) hy))
     clear hi hm
     go_wp2_with fail
     refine (vrput_any none 0 0 0 [] x0 wr (Rds.nil _ _ _) (by omega) Hx64.out).mono ?_
     rintro e w4 ⟨v4, rfl, ho4, hb4⟩
     rw [List.nil_append] at ho4
     have Ho4 := Lib.hid (ho4.mono Hm.out.size); have Hm4 := Lib.hid (Hm.out.trans (mod_below hb4) (fun _ _ h => h))
     clear ho4 hb4
     go_wp2_with fail
     go_ret2
     exact EncB.of_some Hyes.out Ho4.out Hm4.out
 have b1 : (tag == 1) = false := by simp [h1]
 have b2 : (tag == 2) = false := by simp [h2]
 have b3 : (tag == 3) = false := by simp [h3]
 have b4 : (tag == 4) = false := by simp [h4]
 have b5 : (tag == 5) = false := by simp [h5]
 have b6 : (tag == 6) = false := by simp [h6]
 have Hno : Hid (toldK tag us = none) := Lib.hid (toldK_other h1 h2 h3 h4 h5 h6)
 clear hs hu h1 h2 h3 h4 h5 h6
 go_enter Tryz.func50, Tryz.ntmps50
 go_wp2_with fail
 go_ret2
 rw [Hno.out]
 exact ⟨rfl, Mod.refl _ _⟩
end Go.Proofs.YtmeilddngohccaaGreatDoor

/- The document's own times: within, kind, Times. -/
namespace Go.Proofs.YtmeilddngohccaaGreatDoor
open Go.RowKit

def InN (d : Int) (n : Nat) : Bool := decide (-((2 ^ (n - 1) : Nat) : Int) ≤ d ∧ d < ((2 ^ (n - 1) : Nat) : Int))
theorem within_any (d : Int) (n : Nat) (N : Int) (w : World) (hN : N = (n : Int)) (hn : n = 7 ∨ n = 9 ∨ n = 12) :
  Calls Tryz.prog 92 #[.int .i64 d, .int .i64 N] w fun e w' => e = .returned (.bool (InN d n)) ∧ w = w' := by
 subst hN
 rcases hn with rfl | rfl | rfl
 ·by_cases h1 : -64 ≤ d
  ·by_cases h2 : d < 64
   ·have e : InN d 7 = true := by unfold InN; simp; omega
    rw [e]
    clear e
    go_enter Tryz.func92, Tryz.ntmps92
    go_wp2
    go_ret
    exact ⟨rfl, rfl⟩
   ·have e : InN d 7 = false := by unfold InN; simp; omega
    rw [e]
    clear e
    go_enter Tryz.func92, Tryz.ntmps92
    go_wp2
    go_ret
    exact ⟨rfl, rfl⟩
  ·have e : InN d 7 = false := by unfold InN; simp; omega
   rw [e]
   clear e
   go_enter Tryz.func92, Tryz.ntmps92
   go_wp2
   go_ret
   exact ⟨rfl, rfl⟩
 ·by_cases h1 : -256 ≤ d
  ·by_cases h2 : d < 256
   ·have e : InN d 9 = true := by unfold InN; simp; omega
    rw [e]
    clear e
    go_enter Tryz.func92, Tryz.ntmps92
    go_wp2
    go_ret
    exact ⟨rfl, rfl⟩
   ·have e : InN d 9 = false := by unfold InN; simp; omega
    rw [e]
    clear e
    go_enter Tryz.func92, Tryz.ntmps92
    go_wp2
    go_ret
    exact ⟨rfl, rfl⟩
  ·have e : InN d 9 = false := by unfold InN; simp; omega
   rw [e]
   clear e
   go_enter Tryz.func92, Tryz.ntmps92
   go_wp2
   go_ret
   exact ⟨rfl, rfl⟩
 ·by_cases h1 : -2048 ≤ d
  ·by_cases h2 : d < 2048
   ·have e : InN d 12 = true := by unfold InN; simp; omega
    rw [e]
    clear e
    go_enter Tryz.func92, Tryz.ntmps92
    go_wp2
    go_ret
    exact ⟨rfl, rfl⟩
   ·have e : InN d 12 = false := by unfold InN; simp; omega
    rw [e]
    clear e
    go_enter Tryz.func92, Tryz.ntmps92
    go_wp2
    go_ret
    exact ⟨rfl, rfl⟩
  ·have e : InN d 12 = false := by unfold InN; simp; omega
   rw [e]
   clear e
   go_enter Tryz.func92, Tryz.ntmps92
   go_wp2
   go_ret
   exact ⟨rfl, rfl⟩
theorem within_at (d : Int) (n : Nat) (N : Int) (b : Bool) (w : World) (hN : N = (n : Int)) (hn : n = 7 ∨ n = 9 ∨ n = 12) (hb : InN d n = b) :
  Calls Tryz.prog 92 #[.int .i64 d, .int .i64 N] w fun e w' => e = .returned (.bool b) ∧ w = w' := by
 subst hb
 exact within_any d n N w hN hn
theorem kind_any (d : Int) (w : World) :
  Calls Tryz.prog 67 #[.int .i64 d] w fun e w' => e = .returned (.tuple #[.int .i64 (kindN d : Nat), .int .u64 (headN d : Nat), .int .i64 (longN d : Nat)]) ∧ w = w' := by
 by_cases h0 : d = 0
 ·subst h0
  go_enter Tryz.func67, Tryz.ntmps67
  go_wp2
  exact bodyPost_ret (v := .tuple #[.int .i64 0, .int .u64 0, .int .i64 1]) (by simp [results, Tryz.results67, go_sem]) rfl ⟨rfl, rfl⟩
 ·have hb0 : (d == 0) = false := by simpa using h0
  by_cases h1 : -64 ≤ d ∧ d < 64
  ·have e : InN d 7 = true := by unfold InN; simp; omega
   have ek : kindN d = 7 ∧ headN d = 2 ∧ longN d = 2 := by unfold kindN headN longN; rw [if_neg h0, if_pos h1, if_neg h0, if_pos h1, if_neg h0, if_pos h1]; exact ⟨rfl, rfl, rfl⟩
   have E := Lib.hid e; have Ek := Lib.hid ek
   clear e ek h1
   go_enter Tryz.func67, Tryz.ntmps67
   go_wp2_with fail
   refine (within_at d 7 7 true _ rfl (by omega) E.out).mono ?_
   rintro e w' ⟨rfl, rfl⟩
   go_wp2_with fail
   exact bodyPost_ret (v := .tuple #[.int .i64 7, .int .u64 2, .int .i64 2]) (by simp [results, Tryz.results67, go_sem]) rfl ⟨by rw [Ek.out.1, Ek.out.2.1, Ek.out.2.2]; rfl, rfl⟩
  ·by_cases h2 : -256 ≤ d ∧ d < 256
   ·have e : InN d 7 = false := by unfold InN; simp; omega
    have e2 : InN d 9 = true := by unfold InN; simp; omega
    have ek : kindN d = 9 ∧ headN d = 6 ∧ longN d = 3 := by unfold kindN headN longN; rw [if_neg h0, if_neg h1, if_pos h2, if_neg h0, if_neg h1, if_pos h2, if_neg h0, if_neg h1, if_pos h2]; exact ⟨rfl, rfl, rfl⟩
    have E := Lib.hid e; have E2 := Lib.hid e2; have Ek := Lib.hid ek
    clear e e2 ek h1 h2
    go_enter Tryz.func67, Tryz.ntmps67
    go_wp2_with fail
    refine (within_at d 7 7 false _ rfl (by omega) E.out).mono ?_
    rintro e w' ⟨rfl, rfl⟩
    go_wp2_with fail
    refine (within_at d 9 9 true _ rfl (by omega) E2.out).mono ?_
    rintro e w' ⟨rfl, rfl⟩
    go_wp2_with fail
    exact bodyPost_ret (v := .tuple #[.int .i64 9, .int .u64 6, .int .i64 3]) (by simp [results, Tryz.results67, go_sem]) rfl ⟨by rw [Ek.out.1, Ek.out.2.1, Ek.out.2.2]; rfl, rfl⟩
   ·have e : InN d 7 = false := by unfold InN; simp; omega
    have e2 : InN d 9 = false := by unfold InN; simp; omega
    have E := Lib.hid e; have E2 := Lib.hid e2
    by_cases h3 : -2048 ≤ d ∧ d < 2048
    ·have e3 : InN d 12 = true := by unfold InN; simp; omega
     have ek : kindN d = 12 ∧ headN d = 14 ∧ longN d = 4 := by unfold kindN headN longN; rw [if_neg h0, if_neg h1, if_neg h2, if_pos h3, if_neg h0, if_neg h1, if_neg h2, if_pos h3, if_neg h0, if_neg h1, if_neg h2]; exact ⟨rfl, rfl, rfl⟩
     have E3 := Lib.hid e3; have Ek := Lib.hid ek
     clear e e2 e3 ek h1 h2 h3
     go_enter Tryz.func67, Tryz.ntmps67
     go_wp2_with fail
     refine (within_at d 7 7 false _ rfl (by omega) E.out).mono ?_
     rintro e w' ⟨rfl, rfl⟩
     go_wp2_with fail
     refine (within_at d 9 9 false _ rfl (by omega) E2.out).mono ?_
     rintro e w' ⟨rfl, rfl⟩
     go_wp2_with fail
     refine (within_at d 12 12 true _ rfl (by omega) E3.out).mono ?_
     rintro e w' ⟨rfl, rfl⟩
     go_wp2_with fail
     exact bodyPost_ret (v := .tuple #[.int .i64 12, .int .u64 14, .int .i64 4]) (by simp [results, Tryz.results67, go_sem]) rfl ⟨by rw [Ek.out.1, Ek.out.2.1, Ek.out.2.2]; rfl, rfl⟩
    ·have e3 : InN d 12 = false := by unfold InN; simp; omega
     have ek : kindN d = 64 ∧ headN d = 15 ∧ longN d = 4 := by unfold kindN headN longN; rw [if_neg h0, if_neg h1, if_neg h2, if_neg h3, if_neg h0, if_neg h1, if_neg h2, if_neg h3, if_neg h0, if_neg h1, if_neg h2]; exact ⟨rfl, rfl, rfl⟩
     have E3 := Lib.hid e3; have Ek := Lib.hid ek
     clear e e2 e3 ek h1 h2 h3
     go_enter Tryz.func67, Tryz.ntmps67
     go_wp2_with fail
     refine (within_at d 7 7 false _ rfl (by omega) E.out).mono ?_
     rintro e w' ⟨rfl, rfl⟩
     go_wp2_with fail
     refine (within_at d 9 9 false _ rfl (by omega) E2.out).mono ?_
     rintro e w' ⟨rfl, rfl⟩
     go_wp2_with fail
     refine (within_at d 12 12 false _ rfl (by omega) E3.out).mono ?_
     rintro e w' ⟨rfl, rfl⟩
     go_wp2_with fail
     exact bodyPost_ret (v := .tuple #[.int .i64 64, .int .u64 15, .int .i64 4]) (by simp [results, Tryz.results67, go_sem]) rfl ⟨by rw [Ek.out.1, Ek.out.2.1, Ek.out.2.2]; rfl, rfl⟩
end Go.Proofs.YtmeilddngohccaaGreatDoor

/- The document's own times are told: Times. -/
namespace Go.Proofs.YtmeilddngohccaaGreatDoor
open Go.RowKit

def REnc1 (w wr : World) (g : Nat) (row : Option Nat) (N len : Nat) (zs : List Int) (i : Nat) (last : Nat) : Prop :=
 ∃ fs, RWrote w wr g row N len fs ∧ (i = 0 → fs = [] ∧ last = 0) ∧ (0 < i → ∃ prev, zs[i - 1]? = some prev ∧ fs ++ encT prev last (zs.drop i) = encRow zs)
theorem kind_le (d : Int) : kindN d ≤ 64 ∧ longN d ≤ 64 ∧ Lt64 (headN d) := by
 refine ⟨by rw [kind_hd]; exact sz_le _, ?_, ?_⟩
 ·unfold longN; split; omega; split; omega; split; omega; omega
 ·unfold headN Lt64; split; omega; split; omega; split; omega; split; omega; omega
theorem tstepU (x prev : Int) : IntKind.u64.wrap ((un x : Int) - (un prev : Int)) = (stepOf prev x : Int) := by
 rw [wrapU_un]
 unfold stepOf
 congr 1
 obtain ⟨a, ha⟩ := un_ex x
 obtain ⟨b, hb⟩ := un_ex prev
 exact un_of (k := a - b) (by rw [ha, hb, Int.sub_mul]; omega)
set_option maxHeartbeats 1000000 in
set_option maxRecDepth 100000 in
theorem rtimes_any (B g : Nat) (row : Option Nat) (N len n c : Nat) (A : Option Addr) (zs : List Int) (w : World) (hs : SeesI .i64 w B A n zs) (hz : ∀ x ∈ zs, Fits x) (hB : B ≤ w.heap.size) (hap : 0 < n → ∀ ad, A = some ad → ¬ (ad.block = g ∨ row = some ad.block))
  (hw : RWr w g row N len) (hlen : len + (64 + 68 * n) ≤ 900000000) :
  Calls Tryz.prog 53 #[.pointer (some ⟨g, 0, none⟩), .slice A n c] w fun e w' => e = .returned (.tuple #[]) ∧ RWrote w w' g row N len (encRow zs) := by
 have hzl := hs.1
 have Hs := Lib.hid hs; have Hz := Lib.hid hz; have HS := Lib.hid hap
 have H0 : Hid (REnc1 w w g row N len zs 0 0) := Lib.hid ⟨[], RWrote.refl hw, fun _ => ⟨rfl, rfl⟩, fun h => by omega⟩
 have Hzl := Lib.hid hzl
 have Htot : Hid (len + flen (encRow zs) ≤ 900000000) := Lib.hid (by have := encRow_len zs; rw [hzl] at this; omega)
 clear hs hz hw hap hzl
 go_enter Tryz.func53, Tryz.ntmps53
 go_wp2_with fail
 go_loopg [4, 5] n (fun l s4 s5 wr => ∃ (i last : Nat), i + l = n ∧ s5 = .int .i64 (i : Int) ∧ s4 = .int .u64 (last : Int) ∧ REnc1 w wr g row N len zs i last)
 case atStart => exact ⟨0, 0, by omega, rfl, rfl, H0.out⟩
 case round =>
  obtain ⟨i, last, hil, rfl, rfl, hE⟩ := hrel
  have HE := Lib.hid hE; have Hil := Lib.hid hil
  clear hE hil H0
  by_cases hin : i < n
  ·obtain ⟨fs, hwr, he0, he1⟩ := HE.out
   obtain ⟨ad, x, rfl, hx, hcx⟩ := Hs.out.at2 hin hB (by obtain ⟨_, _, a2, _⟩ := hwr; exact a2) (HS.out (by omega))
   have Hx := Lib.hid hx
   have hxf := Lib.hid (Hz.out x (List.mem_of_getElem? hx))
   have Hdr := Lib.hid (drop_at hx)
   have hxu : IntKind.u64.wrap x = (un x : Int) := wrapU_un x
   have hul : Hid (Lt64 (un x)) := Lib.hid (un_lt x)
   clear hx
   by_cases hi0 : i = 0
   ·obtain ⟨rfl, rfl⟩ := he0 hi0
    subst hi0
    have Hwr := Lib.hid hwr
    have hcx0 : wr.cell? ad = some (.int .i64 x) := by rw [← add_zero' ad]; exact hcx
    clear hwr he0 he1 HE
    go_wp2_with fail
    refine (rput_wrote w g row N len 64 [] (un x) _ _ _ rfl rfl (by omega) hul.out Hwr.out (by show len + 0 ≤ _; omega)).mono ?_
    rintro e w1 ⟨rfl, h1⟩
    have hd0 := Hdr.out
    rw [List.drop_zero] at hd0
    have H1 : Hid (REnc1 w w1 g row N len zs 1 0) := Lib.hid ⟨[(un x, 64)], h1, fun h => by omega, fun _ => ⟨x, Hx.out, by rw [hd0]; rfl⟩⟩
    clear h1 hd0 Hwr
    go_wp2_with fail
    go_roundg (gk - 1)
    case measure => have := Hil.out; omega
    case rel => exact ⟨1, 0, by have := Hil.out; omega, rfl, rfl, H1.out⟩
   ·have hb0 : ((i : Int) == 0) = false := by simp; omega
    obtain ⟨prev, hpv, hE1⟩ := he1 (by omega)
    obtain ⟨ad', x', e', hx', hcp⟩ := Hs.out.at2 (show i - 1 < n by omega) hB (by obtain ⟨_, _, a2, _⟩ := hwr; exact a2) (HS.out (by omega))
    injection e' with e'
    subst e'
    rw [hpv] at hx'
    injection hx' with hx'
    subst hx'
    have hpu : IntKind.u64.wrap prev = (un prev : Int) := wrapU_un prev
    obtain ⟨st, hst⟩ : ∃ st, st = stepOf prev x := ⟨_, rfl⟩
    have h1 : IntKind.u64.wrap ((un x : Int) - (un prev : Int)) = (st : Int) := by rw [hst]; exact tstepU x prev
    obtain ⟨dd, hdd⟩ : ∃ dd : Nat, dd = un ((st : Int) - (last : Int)) := ⟨_, rfl⟩
    have h2 : IntKind.u64.wrap ((st : Int) - (last : Int)) = (dd : Int) := by rw [hdd]; exact wrapU_un _
    obtain ⟨d, hd⟩ : ∃ d, d = diffOf prev last x := ⟨_, rfl⟩
    have h3 : wrap64 (dd : Int) = d := by
     rw [wrap_sg, hdd, un_nat (un_lt _), hd]
     unfold diffOf
     rw [hst]
    have hdu : IntKind.u64.wrap d = (un d : Int) := wrapU_un d
    have hi1 : IntKind.i64.wrap ((i : Int) - 1) = (i : Int) - 1 := IntWalk.i64_in _ (by omega)
    have hi2 : ((i : Int) - 1).toNat = i - 1 := by omega
    have hi3 : (0 : Int) ≤ (i : Int) - 1 := by omega
    have hi4 : (i : Int) - 1 < (n : Int) := by omega
    have hi5 : (i : Int) < (n : Int) := by omega
    have hi6 : (0 : Int) ≤ (i : Int) := by omega
    have Hwr := Lib.hid hwr; have HE1 := Lib.hid hE1; have Hd := Lib.hid hd; have Hst := Lib.hid hst
    have hl : Hid (len + flen fs ≤ 900000000) := Lib.hid (by have := Htot.out; rw [← HE1.out] at this; have := flen_le_app fs (encT prev last (zs.drop i)); omega)
    have hlt2 : Hid (len + flen (fs ++ [(headN d, longN d)]) ≤ 1000000000) := Lib.hid (by have := hl.out; have := (kind_le d).2.1; rw [flen_app]; show len + (flen fs + (longN d + 0)) ≤ _; omega)
    clear hwr he0 he1 HE hE1 hd hst hdd hpv hl
    go_upto_region 6 with fail
    go_quiet (fail)
    have Hwr2 := Lib.hid (Hwr.out.drewN nq)
    clear Hwr hcx hcp hi1 hi2 hi3 hi4 hi5 hi6 hpu hxu h1
    generalize wr.drewN nq = w2 at *
    go_wp2_with fail
    refine (kind_any d _).mono ?_
    rintro e w3 ⟨rfl, rfl⟩
    go_wp2_with fail
    refine (rput_wrote w g row N len (longN d) fs (headN d) _ _ _ rfl rfl (kind_le d).2.1 (kind_le d).2.2 Hwr2.out (by have := hlt2.out; rw [flen_app] at this; omega)).mono ?_
    rintro e w4 ⟨rfl, hw4⟩
    have Hw4 := Lib.hid hw4
    have hdul : Hid (Lt64 (un d)) := Lib.hid (un_lt d)
    clear hw4 Hwr2
    go_wp2_with fail
    refine (rput_wrote w g row N len (kindN d) _ (un d) _ _ _ rfl rfl (kind_le d).1 hdul.out Hw4.out hlt2.out).mono ?_
    rintro e w5 ⟨rfl, hw5⟩
    have H5 : Hid (REnc1 w w5 g row N len zs (i + 1) st) := Lib.hid ⟨_, hw5, fun h => by omega, fun _ => ⟨x, Hx.out, by
     rw [← HE1.out, Hdr.out, List.append_assoc, List.append_assoc, Hst.out, Hd.out]
     rfl⟩⟩
    clear hw5 Hw4
    go_wp2_with fail
    go_roundg (gk - 1)
    case measure => have := Hil.out; omega
    case rel => exact ⟨i + 1, st, by have := Hil.out; omega, by go_num, rfl, H5.out⟩
  ·go_wp2_with fail
   go_end0
   refine ⟨rfl, ?_⟩
   obtain ⟨fs, hwr, he0, he1⟩ := HE.out
   have hil := Hil.out
   have hzl := Hzl.out
   rcases Nat.eq_zero_or_pos i with h0 | h0
   ·obtain ⟨rfl, _⟩ := he0 h0
    have : zs = [] := List.eq_nil_of_length_eq_zero (by omega)
    subst this
    exact hwr
   ·obtain ⟨prev, _, this⟩ := he1 h0
    rw [List.drop_of_length_le (by omega)] at this
    have e : fs = encRow zs := by rw [← this]; show fs = fs ++ []; simp
    rw [← e]
    exact hwr
end Go.Proofs.YtmeilddngohccaaGreatDoor

/- A row of samples told in a codec, as the document has it: Encode; and the codec that takes the fewest bytes: Best. -/
namespace Go.Proofs.YtmeilddngohccaaGreatDoor
open Go.RowKit

/-- The first i times; the writer stands as it stood. -/
def RTimTo (W wr : World) (l : List (Int × Nat)) (i : Nat) (v : Value) : Prop := Own W.heap.size wr 2 v (cellsI (tsOf (l.take i))) ∧ Below W.heap.size W wr
set_option maxHeartbeats 2000000 in
set_option maxRecDepth 100000 in
theorem rkenc_any (tag : Int) (A : Option Addr) (n c : Nat) (l : List (Int × Nat)) (w : World) (hs : RdsS w w.heap.size A n l) (hg : GoodS l) (hn : n ≤ 1000000) :
  Calls Tryz.prog 30 #[.int .i64 tag, .slice A n c] w fun e w' => EncB w w' (encK tag l) e := by
 have Hs := Lib.hid hs; have Hg := Lib.hid hg; have Hl := Lib.hid hs.1
 have hcs : Tryz.prog.cellsOf 28 = 2 := by kernel_rfl
 clear hs hg
 go_enter Tryz.func30, Tryz.ntmps30
 go_wp2_with fail
 refine (rvals_any A n c l w Hs.out hn).mono ?_
 rintro e w1 ⟨v1, rfl, ho1, hm1⟩
 obtain ⟨A1, L1, c1, rfl, HL1, hc1, hr1⟩ := own_formUN ho1
 have hL1 : L1 = n := by have := HL1.out; rw [vsOf_len, Hl.out] at this; exact this.symm
 subst hL1
 have Hr1 := Lib.hid hr1; have Hm1 := Lib.hid hm1; have Hs1 := Lib.hid (Hs.out.new hm1).fit; have Hc1 := Lib.hid hc1
 clear ho1 hm1 hr1 hc1 Hs
 go_wp2_with fail
 refine (rtold_any tag A1 L1 c1 (vsOf l) w1 Hr1.out Hg.out.vs hn Hc1.out).mono ?_
 intro e w2 he
 have he' : EncB w1 w2 (toldK tag (vsOf l)) e := he
 clear he
 cases ho : toldK tag (vsOf l) with
 | none =>
  obtain ⟨rfl, hm2⟩ := EncB.none_ he' ho
  have Hno : Hid (encK tag l = none) := Lib.hid (by unfold encK; rw [ho]; cases riseB l <;> rfl)
  have Hm2 := Lib.hid (Hm1.out.trans hm2 (fun _ _ h => h))
  clear he' ho hm2
  go_wp2_with fail
  go_ret2
  exact EncB.of_none Hno.out Hm2.out
 | some vb =>
  obtain ⟨v2, rfl, ho2, hm2⟩ := EncB.some_ he' ho
  obtain ⟨A2, L2, c2, rfl, HL2, _, _, hr2⟩ := own_formN8 ho2
  have Hr2 := Lib.hid hr2; have Hm2 := Lib.hid (Hm1.out.trans hm2 (fun _ _ h => h)); have Hs2 := Lib.hid (Hs1.out.new hm2).fit; have Ho := Lib.hid ho
  clear he' ho ho2 hm2 hr2 Hs1 Hr1 Hm1
  go_wp2_with fail
  refine (rrising_any A L1 c l w2 Hs2.out hn).mono ?_
  rintro e w3 ⟨rfl, hm3⟩
  have Hr3 := Lib.hid (Hr2.out.new hm3).fit; have Hm3 := Lib.hid (Hm2.out.trans hm3 (fun _ _ h => h)); have Hs3 := Lib.hid (Hs2.out.new hm3).fit
  clear hm3 Hr2 Hm2 Hs2
  cases hri : riseB l with
  | false =>
   have Hno : Hid (encK tag l = none) := Lib.hid (encK_no hri)
   clear hri
   go_wp2_with fail
   go_ret2
   exact EncB.of_none Hno.out Hm3.out
  | true =>
   have hn65 : L1 ≤ 65535 := by rw [← Hl.out]; exact ((riseB_iff l).1 hri).2
   have Hyes : Hid (encK tag l = some (enc (tbK l).length ++ (tbK l ++ vb))) := Lib.hid (encK_of hri Ho.out)
   have hvl := toldK_len Hg.out.vs (by rw [vsOf_len, Hl.out]; exact hn65) Ho.out
   rw [vsOf_len, Hl.out] at hvl
   have hL2 : L2 ≤ 2000000 := by have := HL2.out; omega
   have HL2b := Lib.hid hL2
   obtain ⟨W, hW⟩ : ∃ W, W = w3.alloc (.cells #[.slice none 0 0] 92) := ⟨_, rfl⟩
   have hmW : Mod (fun _ => False) w3 W := by rw [hW]; exact (Mod.refl _ _).alloc _
   have hrw : RWr W w3.heap.size none 0 0 := by rw [hW]; exact RWr.new w3
   obtain ⟨g, hg⟩ : ∃ g, g = w3.heap.size := ⟨_, rfl⟩
   have hgW : g < W.heap.size := by rw [hW, hg]; simp
   have HsW := Lib.hid (Hs3.out.new hmW).fit; have HmW := Lib.hid (Hm3.out.trans hmW (fun _ _ h => h))
   have T0 : Hid (RTimTo W W l 0 (.slice none 0 0)) := Lib.hid ⟨Own.nil _ _ _, Below.refl _ _⟩
   rw [← hg] at hrw
   have HrW : Hid (Rds W g A2 L2 (cells8 vb)) := Lib.hid (by rw [hg]; exact Hr3.out.mod hmW (Nat.le_refl _) (fun _ _ h => h))
   have Hrw := Lib.hid hrw; have HW := Lib.hid hW; have Hg3 := Lib.hid hg; have HgW := Lib.hid hgW
   clear hri hvl hL2 hW hmW hrw hg hgW Hs3 Hr3
   go_wp2_with fail
   rw [← HW.out, ← Hg3.out]
   clear HW
   go_loopg [9, 10] L1 (fun k s9 s10 wr => ∃ i : Nat, i + k = L1 ∧ s10 = .int .i64 (i : Int) ∧ RTimTo W wr l i s9)
   case atStart => exact ⟨0, by omega, rfl, T0.out⟩
   case round =>
    obtain ⟨i, hik, rfl, hT⟩ := hrel
    have Hik := Lib.hid hik; have HT := Lib.hid hT
    clear hik hT T0
    by_cases hin : i < L1
    ·obtain ⟨ad, ⟨T, V⟩, rfl, _, hp, hc0, _⟩ := HsW.out.at2 hin (Nat.le_refl _) (Mod.of_below HT.out.2) (fun ad hA => by
      obtain ⟨ad', hA', hb⟩ := HsW.out.some_ (show 0 < L1 by omega)
      rw [hA] at hA'
      injection hA' with hA'
      subst hA'
      omega)
     have hini : (i : Int) < (L1 : Int) := by omega
     have Hp := Lib.hid hp
     have hlen : (cellsI (tsOf (l.take i))).length ≤ 1000000 := by rw [cellsI_length, tsOf_len, List.length_take]; omega
     have HR : Hid ((cellsI (tsOf (l.take i))).length + 1 ≤ maxLen ∧ ((cellsI (tsOf (l.take i))).length + 1) * 8 ≤ 140737488355328) := Lib.hid ⟨by unfold maxLen; omega, by omega⟩
     have hsz := HT.out.2.size
     clear hp hlen
     go_wp2_with (at_builtin; refine wpList_app1 rfl (.tmp 34) (.tmp 40) _ rfl elt64 rfl HT.out.1 rfl rfl rfl HR.out.1 HR.out.2 hsz ?_; intro v4 w4 HO4 HB4)
     have HT2 : Hid (RTimTo W w4 l (i + 1) v4) := Lib.hid ⟨by rw [ts_take Hp.out, cellsI_snoc]; exact HO4.out, HT.out.2.trans HB4.out⟩
     go_roundg (gk - 1)
     case measure => have := Hik.out; omega
     case rel => exact ⟨i + 1, by have := Hik.out; omega, by go_num, HT2.out⟩
    ·have hi : i = L1 := by have := Hik.out; omega
     obtain ⟨k1, k2⟩ := HT.out
     rw [List.take_of_length_le (by rw [Hl.out]; omega)] at k1
     obtain ⟨A4, c4, rfl, hr4⟩ := own_form k1
     have hl4 : (tsOf l).length = L1 := by rw [tsOf_len]; exact Hl.out
     rw [hl4] at hr4
     have hin4 : 0 < L1 → ∀ ad, A4 = some ad → W.heap.size ≤ ad.block := fun h0 ad hA => by
      have hb := k1.block ad.block (by rw [hA]; rfl)
      exact hb.1
     have Hap : Hid (0 < L1 → ∀ ad, A4 = some ad → ¬ (ad.block = g ∨ none = some ad.block)) := Lib.hid (fun h0 ad hA h => by
      have := hin4 h0 ad hA
      rcases h with h | h
      ·have := HgW.out; omega
      ·cases h)
     have Hrw4 := Lib.hid (Hrw.out.mod (Mod.of_below k2) (by have := HgW.out; omega) (fun k hk => by cases hk))
     have HrW4 : Hid (Rds wr g A2 L2 (cells8 vb)) := Lib.hid (HrW.out.mod (Mod.of_below k2) (Nat.le_of_lt HgW.out) (fun j hj h => by have := HgW.out; omega))
     have Hr4 := Lib.hid hr4.seesI; have Hm4 := Lib.hid (HmW.out.trans (Mod.of_below k2) (fun i hi h => by have := HmW.out.size; omega))
     have Hwr4 : Hid (W.heap.size ≤ wr.heap.size) := Lib.hid k2.size
     have Hgw : Hid (w.heap.size ≤ g) := Lib.hid (by rw [Hg3.out]; exact Hm3.out.size)
     rw [hl4]
     clear hi k1 k2 hl4 hr4 hin4 Hrw HrW HmW HT
     obtain ⟨wo, rfl⟩ : ∃ wo : World, wo = wr := ⟨_, rfl⟩
     go_wp2_with fail
     refine (rtimes_any wo.heap.size g none 0 0 L1 c4 A4 (tsOf l) wo Hr4.out Hg.out.ts (Nat.le_refl _) Hap.out Hrw4.out (by omega)).mono ?_
     rintro e w5 ⟨rfl, h5⟩
     have h5' := h5
     obtain ⟨row, a1, a2, _⟩ := h5'
     rw [Nat.zero_mul, Nat.zero_add, Nat.zero_add] at a1
     have hfl := encRow_len (tsOf l)
     rw [tsOf_len, Hl.out] at hfl
     have Hwr5 := Lib.hid a1; have Hm5 := Lib.hid (Hm4.out.trans a2 (fun i hi h => h.elim (fun e => by have := Hgw.out; omega) (fun e => by cases e))); have Hfl := Lib.hid hfl
     have HrW5 : Hid (Rds w5 w5.heap.size A2 L2 (cells8 vb)) := Lib.hid ((HrW4.out.mod a2 (by have := Hwr4.out; have := HgW.out; omega) (fun j hj h => by
      rcases h with h | h
      ·omega
      ·cases h)).fit)
     clear h5 a1 a2 hfl HrW4 Hr4 Hrw4 Hm4
     go_wp2_with fail
     refine (rbytes_any g row _ _ w5 Hwr5.out (by have := Hfl.out; omega)).mono ?_
     rintro e w6 ⟨v6, bs, rfl, hnew, hpk⟩
     obtain rfl := hpk.packF
     obtain ⟨A6, c6, rfl, hr6, hm6⟩ := hnew.rds
     have htl := tbK_len l
     rw [Hl.out] at htl
     obtain ⟨tb, htb⟩ : ∃ tb, tb = packF (encRow (tsOf l)) := ⟨_, rfl⟩
     rw [← htb] at hr6
     rw [← htb]
     have htb' : tb = tbK l := htb
     obtain ⟨Lt, hLt⟩ : ∃ Lt, tb.length = Lt := ⟨_, rfl⟩
     rw [hLt] at hr6
     rw [hLt]
     have hLts : Lt ≤ 700000 := by rw [← hLt, htb']; omega
     have hcv : IntKind.u64.wrap (Lt : Int) = (Lt : Int) := by rw [IntKind.wrap_u64]; omega
     have Hr6 := Lib.hid hr6; have Hm6 := Lib.hid (Hm5.out.trans hm6 (fun _ _ h => h)); have Hb6 := Lib.hid (HrW5.out.new hm6).fit; have Htb := Lib.hid htb'; have HLt := Lib.hid hLt
     clear hnew hpk hr6 hm6 htl htb htb' hLt Hwr5 Hm5 HrW5
     go_wp2_with fail
     refine (vrput_any none 0 0 0 [] Lt w6 (Rds.nil _ _ _) (by omega) (lt64_of (by omega))).mono ?_
     rintro e w7 ⟨v7, rfl, ho7, hb7⟩
     rw [List.nil_append] at ho7
     have hq := enc_len10 (u := Lt) (by omega)
     have HR7 : Hid (Room (cells8 (enc Lt)).length Lt) := Lib.hid (Room.mk _ _ (by rw [cells8_length]; omega))
     have Ho7 := Lib.hid ho7; have Hr7 := Lib.hid (Hr6.out.below hb7); have Hm7 := Lib.hid (Hm6.out.trans (mod_below hb7) (fun _ _ h => h)); have Hb7 := Lib.hid (Hb6.out.below hb7)
     have Hone : Hid (∀ u ∈ cells8 tb, u.oneCell' = true) := Lib.hid (cells8_one _)
     have Hone2 : Hid (∀ u ∈ cells8 vb, u.oneCell' = true) := Lib.hid (cells8_one _)
     have hsz7 : w6.heap.size ≤ w7.heap.size := hb7.size
     have HR8 : Hid (Room (cells8 (enc Lt) ++ cells8 tb).length L2) := Lib.hid (Room.mk _ _ (by rw [List.length_append, cells8_length, cells8_length, HLt.out]; have := HL2b.out; omega))
     have Hwo7 : Hid (w6.heap.size ≤ w7.heap.size) := Lib.hid hsz7
     clear ho7 hb7 hq hcv
     go_wp2_with (first
      | (at_builtin; refine wpList_app rfl (.tmp 50) (.tmp 51) _ rfl elt8 rfl Ho7.out rfl Hr7.out Hone.out HR7.out.1 HR7.out.2 hsz7 ?_; intro v8 w8 HO8 HBl8 HG8; clear HG8; have hsz8 : w6.heap.size ≤ w8.heap.size := Nat.le_trans Hwo7.out HBl8.out.size; have Hb8 := Lib.hid (Hb7.out.mod (Mod.of_below HBl8.out) Hwo7.out (fun j hj h => by omega)))
      | (at_builtin; refine wpList_app rfl (.tmp 52) (.tmp 53) _ rfl elt8 rfl HO8.out rfl Hb8.out Hone2.out HR8.out.1 HR8.out.2 hsz8 ?_; intro v9 w9 HO9 HBl9 HG9; clear HG9))
     go_ret2
     have ho9 := HO9.out
     rw [cells8_app, cells8_app, List.append_assoc, Htb.out] at ho9
     have e : enc (tbK l).length = enc Lt := by rw [← Htb.out, HLt.out]
     refine EncB.of_some Hyes.out ?_ ?_
     ·rw [e]
      exact ho9.mono Hm6.out.size
     ·exact (Hm7.out.trans (Mod.of_below HBl8.out) (fun i hi h => by have := Hm6.out.size; omega)).trans (Mod.of_below HBl9.out) (fun i hi h => by have := Hm6.out.size; omega)
end Go.Proofs.YtmeilddngohccaaGreatDoor

/- Chunks, of the document: Make. -/
namespace Go.Proofs.YtmeilddngohccaaGreatDoor
open Go.RowKit

theorem mod_drew_new {w w' : World} (h : Below w.drew.heap.size w.drew w') : Mod (fun _ => False) w w' := (Mod.refl (fun _ => False) w).drew.trans (Mod.of_below h) (fun _ hi k => absurd k (Nat.not_le_of_lt hi))
theorem mod_more_new {w w1 w' : World} (h1 : Mod (fun _ => False) w w1) (h : Below w1.heap.size w1 w') : Mod (fun _ => False) w w' := h1.trans (Mod.of_below h) (fun _ hi k => absurd k (Nat.not_le_of_lt (Nat.lt_of_lt_of_le hi h1.size)))
set_option maxHeartbeats 600000 in
set_option maxRecDepth 100000 in
theorem rmake_any (tag : Int) (A : Option Addr) (n c : Nat) (l : List (Int × Nat)) (w : World) (hs : RdsS w w.heap.size A n l) (hg : GoodS l) (hn : n ≤ 1000000) :
  Calls Tryz.prog 20 #[.int .i64 tag, .slice A n c] w fun e w' => EncB w w' (makeC tag l) e := by
 have Hs := Lib.hid hs; have Hg := Lib.hid hg; have Hl := Lib.hid hs.1
 clear hs hg
 go_enter Tryz.func20, Tryz.ntmps20
 go_wp2_with fail
 refine (rkenc_any tag A n c l w Hs.out Hg.out hn).mono ?_
 intro e w1 he
 have he' : EncB w w1 (encK tag l) e := he
 clear he
 cases ho : encK tag l with
 | none =>
  obtain ⟨rfl, hm1⟩ := EncB.none_ he' ho
  have Hno : Hid (makeC tag l = none) := Lib.hid (makeC_no ho)
  have Hm1 := Lib.hid hm1
  clear he' ho hm1
  go_wp2_with fail
  go_ret2
  exact EncB.of_none Hno.out Hm1.out
 | some b =>
  obtain ⟨v1, rfl, ho1, hm1⟩ := EncB.some_ he' ho
  by_cases h0 : n = 0
  ·subst h0
   have Hno : Hid (makeC tag l = none) := Lib.hid (by unfold makeC; rw [if_pos (List.length_eq_zero_iff.1 Hl.out)])
   have Hm1 := Lib.hid hm1
   clear he' ho hm1 ho1
   go_wp2_with fail
   go_ret2
   exact EncB.of_none Hno.out Hm1.out
  have hb0 : ((n : Int) == 0) = false := by simp; omega
  have hne : l ≠ [] := fun h => h0 (by rw [← Hl.out, h]; rfl)
  have hyes := makeC_of hne ho
  have htag := encK_tag ho
  have hn65 := (rise_ends (encK_some ho).1).2
  rw [Hl.out] at hn65
  have hbl := encK_len Hg.out ho
  rw [Hl.out] at hbl
  have hlt := encK_256 ho
  obtain ⟨A1, L1, c1, rfl, HL1, _, _, hr1⟩ := own_formN8 ho1
  have hL1 : L1 ≤ 2000000 := by have := HL1.out; omega
  obtain ⟨tb, htb⟩ : ∃ tb : Nat, tb = tag.toNat := ⟨_, rfl⟩
  have hw8 : IntKind.u8.wrap tag = (tb : Int) := by rw [tag_byte htag, htb]
  have hw64 : IntKind.u64.wrap (n : Int) = (n : Int) := by rw [IntKind.wrap_u64]; omega
  have Hr1 := Lib.hid hr1; have Hm1 := Lib.hid hm1; have Hs1 := Lib.hid (Hs.out.new hm1).fit
  have Hyes := Lib.hid hyes; have Hlt := Lib.hid hlt; have Htb := Lib.hid htb; have Htag := Lib.hid htag
  clear he' ho ho1 hm1 hne hyes htag hbl hlt hr1 htb Hs
  go_wp2_with fail
  refine (vrput_any _ 1 1 (w1.heap.size + 1) [tb] n (w1.alloc (.cells #[.int .u8 (tb : Int)] 5)) (Rds.lit w1 5 #[.int .u8 (tb : Int)]) (by omega) (by unfold Lt64; omega)).mono ?_
  rintro e w2 ⟨v2, rfl, ho2, hl2⟩
  obtain ⟨A2, L2, c2, rfl, HL2, _, _, hr2⟩ := own_formN8 ho2
  have hm2 : Mod (fun _ => False) w1 w2 := ((Mod.refl _ w1).alloc (.cells #[.int .u8 (tb : Int)] 5)).trans (Mod.of_below hl2) (fun i hi h => by simp at h; omega)
  have hL2 : L2 ≤ 20 := by
   have h1 := enc_len10 (u := n) (by omega)
   have h2 := HL2.out
   simp at h2
   omega
  have Hr2 := Lib.hid hr2; have Hm2 := Lib.hid (Hm1.out.trans hm2 (fun _ _ h => h)); have Hr12 := Lib.hid (Hr1.out.new hm2).fit; have hs2 := (Hs1.out.new hm2).fit
  clear ho2 hl2 hr2 hm2 Hr1 Hm1 Hs1
  obtain ⟨j, hj⟩ : ∃ j, n = j + 1 := ⟨n - 1, by omega⟩
  obtain ⟨ad, p, rfl, hadb, hp, hc0, _⟩ := hs2.at2 (show 0 < n by omega) (Nat.le_refl _) (Mod.refl (fun _ => False) _) (fun _ _ h => h)
  obtain ⟨ad2, q, e2, _, hq, hd0, _⟩ := hs2.at2 (show j < n by omega) (Nat.le_refl _) (Mod.refl (fun _ => False) _) (fun _ _ h => h)
  injection e2 with e2
  subst e2
  have hf : fstT l = p.1 := first_get hp
  have hgt : lstT l = q.1 := last_get (by rw [Hl.out, hj, Nat.add_sub_cancel]; exact hq)
  have ead : ad.add (0 * 2) = ad := by simp [Addr.add]
  rw [ead] at hc0
  obtain ⟨f, hff⟩ : ∃ f, f = p.1 := ⟨_, rfl⟩
  obtain ⟨g, hgg⟩ : ∃ g, g = q.1 := ⟨_, rfl⟩
  rw [← hff] at hc0 hf
  rw [← hgg] at hd0 hgt
  have hFf : Fits f := hf ▸ fstT_fits Hg.out
  have hFg : Fits g := hgt ▸ lstT_fits Hg.out
  obtain ⟨zf, zf2⟩ := zig_nat hFf
  obtain ⟨zg, zg2⟩ := zig_nat hFg
  obtain ⟨kf, hkf⟩ : ∃ kf : Nat, kf = (zig f).toNat := ⟨_, rfl⟩
  obtain ⟨kg, hkg⟩ : ∃ kg : Nat, kg = (zig g).toNat := ⟨_, rfl⟩
  rw [← hkf] at zf zf2
  rw [← hkg] at zg zg2
  have hH : (H63 : Int) = 9223372036854775808 := by decide
  have hz1 := fun W' => rzig_any f W' ⟨by have := hFf.1; omega, by have := hFf.2; omega⟩
  have hz2 := fun W' => rzig_any g W' ⟨by have := hFg.1; omega, by have := hFg.2; omega⟩
  rw [← zf] at hz1
  rw [← zg] at hz2
  have hX : ∀ W', Mod (fun _ => False) w2 W' → Mod (fun _ => False) w2 W' ∧ W'.cell? ad = some (.int .i64 f) ∧ W'.cell? (ad.add (j * 2)) = some (.int .i64 g) := fun W' h => ⟨h, (h.cell (a := ad) hadb (fun h => h)).trans hc0, (h.cell (a := ad.add (j * 2)) (by rw [add_block]; exact hadb) (fun h => h)).trans hd0⟩
  have S1 := Lib.hid (hX w2.drew (Mod.refl _ _).drew)
  have S0 := Lib.hid (hX w2 (Mod.refl _ _))
  have HX := Lib.hid hX; have Hz1 := Lib.hid hz1; have Hz2 := Lib.hid hz2
  have Hhd : Hid (headR tag l = [tb] ++ enc n ++ enc kf ++ enc kg) := Lib.hid (by unfold headR headC; rw [Hl.out, hf, hgt, ← hkf, ← hkg, ← Htb.out]; simp)
  have hwj : IntKind.i64.wrap ((n : Int) - 1) = (j : Int) := by rw [IntWalk.i64_in _ (by omega)]; omega
  have h0n : (0 : Int) < (n : Int) := by omega
  have h0nn : 0 < n := by omega
  have hjn : (j : Int) < (n : Int) := by omega
  have hjnn : j < n := by omega
  have hcs : Tryz.prog.cellsOf 28 = 2 := by kernel_rfl
  have hm1a : (1 : Int) ≤ (n : Int) := by omega
  have Hj := Lib.hid hj
  clear hs2 hp hq hc0 hd0 hf hgt hff hgg hFf hFg zf zg hkf hkg hz1 hz2 hX hadb hH hj
  have Hput1 := Lib.hid (vrput_any A2 L2 c2 _ ([tb] ++ enc n) kf w2.drew Hr2.out.drew (by omega) (by unfold Lt64; omega))
  go_upto_region 5 with fail
  go_cut [8] (fun s8 wc => ∃ (A5 : Option Addr) (L5 c5 : Nat), s8 = .slice A5 L5 c5 ∧ L5 ≤ 60 ∧ Own w2.heap.size wc 5 (.slice A5 L5 c5) (cells8 (headR tag l)) ∧ Mod (fun _ => False) w2 wc)
  case first =>
   first
    | (go_region_held_law (fun W' => Mod (fun _ => False) w2 W' ∧ W'.cell? ad = some (.int .i64 f) ∧ W'.cell? (ad.add (j * 2)) = some (.int .i64 g)) (first | (with_reducible exact S5.out) | (with_reducible exact S4.out) | (with_reducible exact S1.out) | (with_reducible exact S0.out))
      (first
       | (go_at_call 32; with_reducible refine (Hz1.out _).mono ?_; rintro e w' ⟨rfl, rfl⟩)
       | (go_at_call 32; with_reducible refine (Hz2.out _).mono ?_; rintro e w' ⟨rfl, rfl⟩)
       | (go_at_call 31; with_reducible refine Hput1.out.mono ?_; rintro e w4 ⟨v4, rfl, ho4, hl4⟩; obtain ⟨A4, L4, c4, rfl, HL4, _, _, hr4⟩ := own_formN8 ho4; have Hput2 := Lib.hid (vrput_any A4 L4 c4 _ ([tb] ++ enc n ++ enc kf) kg w4 hr4 (by have h1 := enc_len10 zf2; have h2 := HL4.out; have h3 := HL2.out; rw [List.length_append, h3] at h2; omega) (by unfold Lt64; omega)); have S4 := Lib.hid (HX.out w4 (mod_drew_new hl4)); have hL4b : L4 ≤ 40 := (by have h1 := enc_len10 zf2; have h2 := HL4.out; have h3 := HL2.out; rw [List.length_append, h3] at h2; omega); clear ho4 hr4 hl4 HL4)
       | (go_at_call 31; with_reducible refine Hput2.out.mono ?_; rintro e w5 ⟨v5, rfl, ho5, hl5⟩; obtain ⟨A5, L5, c5, rfl, HL5, _, _, hr5⟩ := own_formN8 ho5; have Ho5 := Lib.hid (ho5.mono S4.out.1.size); have S5 := Lib.hid (HX.out w5 (mod_more_new S4.out.1 hl5)); clear ho5 hl5 hr5)))
    | fail "held"
   all_goals
    go_wp2_with fail
    go_meet
    refine ⟨A5, L5, c5, rfl, ?_, ?_, S5.out.1⟩
    ·have h1 := enc_len10 zf2
     have h2 := enc_len10 zg2
     have h3 := HL2.out
     have h4 := HL5.out
     rw [List.length_append, List.length_append, h3] at h4
     omega
    ·rw [Hhd.out]
     exact Ho5.out
  case rest =>
  obtain ⟨A5, L5, c5, rfl, hL5, ho5, hm5⟩ := hcut
  have Ho5 := Lib.hid ho5; have Hr5 := Lib.hid (Hr12.out.new hm5).fit; have Hm5 := Lib.hid (Hm2.out.trans hm5 (fun _ _ h => h))
  have hh256 := headR_256 (l := l) Htag.out
  obtain ⟨hd, hhd⟩ : ∃ hd, hd = headR tag l := ⟨_, rfl⟩
  rw [← hhd] at Ho5 Hyes hh256
  have HL5 : Hid (hd.length ≤ 60) := Lib.hid (by
   have h := own_formN8 Ho5.out
   obtain ⟨_, _, _, e, h2, _⟩ := h
   injection e with _ e2 _
   rw [h2.out, ← e2]
   exact hL5)
  have HR : Hid (Room (cells8 hd).length L1) := Lib.hid (Room.mk _ _ (by rw [cells8_length]; have := HL5.out; omega))
  have Hone : Hid (∀ u ∈ cells8 b, u.oneCell' = true) := Lib.hid (cells8_one _)
  have hsz5 : w2.heap.size ≤ wc.heap.size := hm5.size
  have Hm2s : Hid (w.heap.size ≤ w2.heap.size) := Lib.hid Hm2.out.size
  have Hh256 := Lib.hid hh256
  clear ho5 hm5 hhd hh256 Hr12 Hm2 Hr2 S0 S1 HX Hz1 Hz2 Hput1 Hhd hwj h0n h0nn hjn hjnn hcs hm1a Hj
  go_wp2_with (at_builtin; refine wpList_app rfl (.tmp 46) (.tmp 47) _ rfl elt8 rfl Ho5.out rfl Hr5.out Hone.out HR.out.1 HR.out.2 hsz5 ?_; intro v6 w6 HO6 HBl6 HG6; clear HG6; obtain ⟨A6, L6, c6, rfl, HL6, hc6, hcm6, hr6⟩ := own_formN8 (show Own w2.heap.size w6 5 v6 (cells8 (hd ++ b)) by rw [← cells8_app]; exact HO6.out))
  obtain ⟨hb, hhb⟩ : ∃ hb, hb = hd ++ b := ⟨_, rfl⟩
  rw [← hhb] at hr6 HL6
  have Ho6 : Hid (Own w2.heap.size w6 5 (.slice A6 L6 c6) (cells8 hb)) := Lib.hid (by rw [hhb, ← cells8_app]; exact HO6.out)
  have hb256 : lt256 hb := by rw [hhb]; exact lt256_app Hh256.out Hlt.out
  have hL6 : L6 ≤ 2000060 := by have h1 := HL6.out; rw [hhb, List.length_append] at h1; have := HL5.out; have := HL1.out; omega
  have Hyes2 : Hid (makeC tag l = some (hb ++ sum4 (sumN ent hb))) := Lib.hid (by rw [hhb]; exact Hyes.out)
  have Hm6 := Lib.hid (Hm5.out.trans (Mod.of_below HBl6.out) (fun i hi h => absurd h (Nat.not_le_of_lt (Nat.lt_of_lt_of_le hi Hm2s.out))))
  have Hsz6 := Lib.hid (Nat.le_trans hsz5 HBl6.out.size)
  have Hr6 := Lib.hid hr6; have Hb256 := Lib.hid hb256
  clear hhb hr6 hb256 HO6 HBl6 Hm5 Ho5 Hr5 Hyes Hh256 Hlt HR Hone hsz5 HL5 hL5
  refine (rsum_any A6 L6 c6 w6.heap.size hb w6 Hr6.out Hb256.out (by unfold maxLen; omega)).mono ?_
  rintro e w7 ⟨rfl, rfl⟩
  obtain ⟨s, hs⟩ : ∃ s, s = sumN ent hb := ⟨_, rfl⟩
  have hsl : s < 4294967296 := hs ▸ sumN_ent_lt Hb256.out
  rw [← hs] at Hyes2 ⊢
  obtain ⟨b1, b2, b3, b4⟩ := sum4_bytes s
  have HR6 : Hid (Room (cells8 hb).length 4) := Lib.hid (Room.mk _ _ (by rw [cells8_length]; have := HL6.out; omega))
  have Hlit : Hid (Rds (w6.alloc (.cells #[.int .u8 ((s / 16777216 % 256 : Nat) : Int), .int .u8 ((s / 65536 % 256 : Nat) : Int), .int .u8 ((s / 256 % 256 : Nat) : Int), .int .u8 ((s % 256 : Nat) : Int)] 5)) (w6.heap.size + 1) (some ⟨w6.heap.size, 0, none⟩) 4 (cells8 (sum4 s))) := Lib.hid (Rds.lit w6 5 #[.int .u8 ((s / 16777216 % 256 : Nat) : Int), .int .u8 ((s / 65536 % 256 : Nat) : Int), .int .u8 ((s / 256 % 256 : Nat) : Int), .int .u8 ((s % 256 : Nat) : Int)])
  have Hone6 : Hid (∀ u ∈ cells8 (sum4 s), u.oneCell' = true) := Lib.hid (cells8_one _)
  have Ho6a := Lib.hid (Ho6.out.alloc (.cells #[.int .u8 ((s / 16777216 % 256 : Nat) : Int), .int .u8 ((s / 65536 % 256 : Nat) : Int), .int .u8 ((s / 256 % 256 : Nat) : Int), .int .u8 ((s % 256 : Nat) : Int)] 5))
  have hsz6 : w2.heap.size ≤ (w6.alloc (.cells #[.int .u8 ((s / 16777216 % 256 : Nat) : Int), .int .u8 ((s / 65536 % 256 : Nat) : Int), .int .u8 ((s / 256 % 256 : Nat) : Int), .int .u8 ((s % 256 : Nat) : Int)] 5)).heap.size := Nat.le_trans Hsz6.out (le_alloc _ _)
  clear hs Hr6 Ho6
  go_wp2_with (at_builtin; refine wpList_app rfl (.tmp 51) (.tmp 63) _ rfl elt8 rfl Ho6a.out rfl Hlit.out Hone6.out HR6.out.1 HR6.out.2 hsz6 ?_; intro v8 w8 HO8 HBl8 HG8; clear HG8)
  go_ret2
  have ho8 := HO8.out
  rw [cells8_app] at ho8
  exact EncB.of_some Hyes2.out (ho8.mono Hm2s.out) ((Hm6.out.alloc (.cells #[.int .u8 ((s / 16777216 % 256 : Nat) : Int), .int .u8 ((s / 65536 % 256 : Nat) : Int), .int .u8 ((s / 256 % 256 : Nat) : Int), .int .u8 ((s % 256 : Nat) : Int)] 5)).trans (Mod.of_below HBl8.out) (fun i hi h => absurd h (Nat.not_le_of_lt (Nat.lt_of_lt_of_le hi Hm2s.out))))
end Go.Proofs.YtmeilddngohccaaGreatDoor

/- What the document's own reading of values stands on: rows read loosely, one turn more; two rows of bits held beside each other. -/
namespace Go.Proofs.YtmeilddngohccaaGreatDoor
open Go.RowKit

theorem rdVals_first {k R rem : Nat} (hk : 0 < k) : ((getO 64 (some (R, rem))).2 = none → rdVals k R rem = none) ∧ ∀ R' rem', (getO 64 (some (R, rem))).2 = some (R', rem') → rdVals k R rem = (rdXs (k - 1) none (getO 64 (some (R, rem))).1 R' rem').map fun p => ((getO 64 (some (R, rem))).1 :: p.1, p.2) := by
 obtain ⟨k, rfl⟩ : ∃ j, k = j + 1 := ⟨k - 1, by omega⟩
 have e : rdVals (k + 1) R rem = match takeB 64 R rem with | none => none | some (u, R1, rem1) => (rdXs k none u R1 rem1).map fun (p : List Nat × Nat × Nat) => (u :: p.1, p.2) := rfl
 rw [e, getO_take]
 cases ht : takeB 64 R rem with
 | none => exact ⟨fun _ => rfl, fun _ _ h => by cases h⟩
 | some q =>
  obtain ⟨u, R1, rem1⟩ := q
  refine ⟨fun h => (by cases h), fun R' rem' h => ?_⟩
  have h2 : some (R1, rem1) = some (R', rem') := h
  injection h2 with h2
  injection h2 with h3 h4
  subst h3 h4
  rfl
theorem rdVals_next {k R rem i : Nat} {win s : Option (Nat × Nat)} {prev : Nat} {xs : List Nat} (hi : i < k) (h : ∀ R' rem', s = some (R', rem') → rdVals k R rem = (rdXs (k - i) win prev R' rem').map fun p => (xs ++ p.1, p.2)) (hs : s.isSome = true) :
  (rdO win s = none → rdVals k R rem = none) ∧ ∀ x win' R1 rem1, rdO win s = some (x, win', R1, rem1) → rdVals k R rem = (rdXs (k - (i + 1)) win' (prev ^^^ x) R1 rem1).map fun p => ((xs ++ [prev ^^^ x]) ++ p.1, p.2) := by
 obtain ⟨j, hj⟩ : ∃ j, k - i = j + 1 := ⟨k - i - 1, by omega⟩
 have hj2 : k - (i + 1) = j := by omega
 cases s with
 | none => cases hs
 | some p =>
  obtain ⟨R0, rem0⟩ := p
  have h1 := h R0 rem0 rfl
  rw [hj] at h1
  have e : rdXs (j + 1) win prev R0 rem0 = match rdX win R0 rem0 with | none => none | some (x, win', R1, rem1) => (rdXs j win' (prev ^^^ x) R1 rem1).map fun (p : List Nat × Nat × Nat) => ((prev ^^^ x) :: p.1, p.2) := rfl
  rw [e] at h1
  refine ⟨fun hn => ?_, fun x win' R1 rem1 hs => ?_⟩
  ·have hn' : rdX win R0 rem0 = none := hn
   rw [h1, hn']; rfl
  ·have hs' : rdX win R0 rem0 = some (x, win', R1, rem1) := hs
   rw [h1, hs', hj2]
   show ((rdXs j win' (prev ^^^ x) R1 rem1).map _).map _ = _
   rw [Option.map_map]
   congr 1
   funext p
   simp
theorem valRow_none {n R rem : Nat} (h : rdVals n R rem = none) : valRow n R rem = none := by unfold valRow; rw [h]
theorem valRow_if {n R rem : Nat} {vs : List Nat} {R' rem' : Nat} (h : rdVals n R rem = some (vs, R', rem')) : valRow n R rem = if flen (encVals vs) + rem' = rem ∧ fnum (encVals vs) = R / 2 ^ rem' then some (vs, R', rem') else none := by unfold valRow; rw [h]
/-- Rows of bits. -/
theorem bval_acc (bs : List Nat) (acc : Nat) : bs.foldl (fun a b => a * 2 + b) acc = acc * 2 ^ bs.length + bval bs := by
 induction bs generalizing acc with
 | nil => show acc = acc * 2 ^ 0 + 0; omega
 | cons b bs ih =>
  have e : bval (b :: bs) = bs.foldl (fun a b => a * 2 + b) (0 * 2 + b) := rfl
  rw [e, ih]
  show bs.foldl (fun a b => a * 2 + b) (acc * 2 + b) = _
  rw [ih, List.length_cons, Nat.pow_succ, Nat.add_mul, Nat.add_mul, Nat.mul_assoc, Nat.mul_comm 2]
  omega
theorem bval_app (cs bs : List Nat) : bval (cs ++ bs) = bval cs * 2 ^ bs.length + bval bs := by
 show (cs ++ bs).foldl (fun a b => a * 2 + b) 0 = _
 rw [List.foldl_append, bval_acc]
 rfl
theorem bval_lt {bs : List Nat} (h : lt2 bs) : bval bs < 2 ^ bs.length := by
 induction bs with
 | nil => exact Nat.one_pos
 | cons b bs ih =>
  have h1 := ih (fun x hx => h x (by simp [hx]))
  have h2 := h b (by simp)
  have e : bval (b :: bs) = b * 2 ^ bs.length + bval bs := by
   have := bval_app [b] bs
   have e0 : bval [b] = b := by show 0 * 2 + b = b; omega
   rwa [e0] at this
  rw [e, List.length_cons, Nat.pow_succ]
  have h3 : b * 2 ^ bs.length ≤ 1 * 2 ^ bs.length := Nat.mul_le_mul_right _ (by omega)
  omega
/-- One bit more of a row of bits, and of a number. -/
theorem bval_take {bs : List Nat} {i b : Nat} (hb : bs[i]? = some b) : bval (bs.take (i + 1)) = bval (bs.take i) * 2 + b := by
 have hi : i < bs.length := (List.getElem?_eq_some_iff.1 hb).1
 rw [List.take_succ_eq_append_getElem hi, bval_snoc, (List.getElem?_eq_some_iff.1 hb).2]
theorem bval_div {bs : List Nat} (h : lt2 bs) (i : Nat) : bval bs / 2 ^ (bs.length - i) = bval (bs.take i) := by
 have h1 : bval bs = bval (bs.take i) * 2 ^ (bs.length - i) + bval (bs.drop i) := by
  conv => lhs; rw [← List.take_append_drop i bs]
  rw [bval_app, List.length_drop]
 have h2 : bval (bs.drop i) < 2 ^ (bs.length - i) := by
  have := bval_lt (bs := bs.drop i) (fun x hx => h x (List.mem_of_mem_drop hx))
  rwa [List.length_drop] at this
 rw [h1, Nat.mul_comm, Nat.mul_add_div (Nat.two_pow_pos _), Nat.div_eq_of_lt h2, Nat.add_zero]
theorem num_more (R rem i : Nat) (hi : i < rem) : R / 2 ^ (rem - (i + 1)) = R / 2 ^ (rem - i) * 2 + R / 2 ^ (rem - (i + 1)) % 2 := by
 have e : rem - i = (rem - (i + 1)) + 1 := by omega
 rw [e, Nat.pow_succ, ← Nat.div_div_eq_div_mul]
 omega
/-- The bits that have been held beside each other are alike. -/
def Alike (bs : List Nat) (R rem i : Nat) : Prop := i ≤ bs.length ∧ bs.length ≤ rem ∧ bval (bs.take i) = R / 2 ^ (rem - i)
theorem alike_zero {bs : List Nat} {R rem : Nat} (hR : R < 2 ^ rem) (hl : bs.length ≤ rem) : Alike bs R rem 0 := ⟨Nat.zero_le _, hl, by rw [Nat.sub_zero, Nat.div_eq_of_lt hR]; rfl⟩
theorem alike_more {bs : List Nat} {R rem i b c : Nat} (h : Alike bs R rem i) (hb : bs[i]? = some b) (hc : R / 2 ^ (rem - (i + 1)) % 2 = c) (he : b = c) : Alike bs R rem (i + 1) := by
 obtain ⟨h1, h2, h3⟩ := h
 have hi : i < bs.length := (List.getElem?_eq_some_iff.1 hb).1
 refine ⟨hi, h2, ?_⟩
 rw [bval_take hb, num_more R rem i (by omega), hc, h3, he]
theorem alike_not {bs : List Nat} {R rem i b c : Nat} (hl2 : lt2 bs) (h : Alike bs R rem i) (hb : bs[i]? = some b) (hc : R / 2 ^ (rem - (i + 1)) % 2 = c) (he : b ≠ c) : bval bs ≠ R / 2 ^ (rem - bs.length) := by
 obtain ⟨h1, h2, h3⟩ := h
 have hi : i < bs.length := (List.getElem?_eq_some_iff.1 hb).1
 intro e
 have e1 := bval_div hl2 (i + 1)
 rw [e, Nat.div_div_eq_div_mul, ← Nat.pow_add, show rem - bs.length + (bs.length - (i + 1)) = rem - (i + 1) by omega, num_more R rem i (by omega), hc, bval_take hb, h3] at e1
 omega
theorem alike_all {bs : List Nat} {R rem : Nat} (h : Alike bs R rem bs.length) : bval bs = R / 2 ^ (rem - bs.length) := by
 have := h.2.2
 rwa [List.take_length] at this
/-- The bit of a reader's bytes, r bits ahead of the end. -/
theorem read_bit {bs : List Nat} {n a r b R rem i : Nat} (hn : bs.length = n) (hlt : lt256 bs) (hR : R = val bs % 2 ^ rem) (hr : r = rem - i) (hi : i < rem) (har : a + r = 8 * n) (hb : bs[a / 8]? = some b) : R / 2 ^ (rem - (i + 1)) % 2 = b / 2 ^ (7 - a % 8) % 2 := by
 have h := bit_at bs n a r b hn (by omega) har hlt hb
 rw [← h, hR]
 have e1 : rem - (i + 1) = r - 1 := by omega
 rw [e1]
 have e2 : val bs % 2 ^ r = R % 2 ^ r := by rw [hR, Nat.mod_mod_of_dvd _ (Nat.pow_dvd_pow 2 (by omega))]
 rw [e2, ← hR]
 have e3 : (2 : Nat) ^ r = 2 ^ (r - 1) * 2 := by rw [← Nat.pow_succ]; congr 1; omega
 rw [e3, Nat.mod_mul_right_div_self]
end Go.Proofs.YtmeilddngohccaaGreatDoor

/- The document's own answer: bytes are read as values by their least. -/
namespace Go.Proofs.YtmeilddngohccaaGreatDoor
open Go.RowKit

/-- Encode, then string(..) of what it answers: the document's own. -/
theorem rpenc_at (A : Option Addr) (n cap B : Nat) (us : List Nat) (s : ByteArray) (w : World) (hs : Rds w B A n (cellsU us)) (hB : B ≤ w.heap.size) (hu : ∀ x ∈ us, x < 2 ^ 64) (hn : n ≤ 1000000) (hss : strOf (encP us) = s) :
  Calls Tryz.prog 74 #[.slice A n cap] w fun e w' => ∃ A' n' c', e = .returned (.slice A' n' c') ∧ (convert 34 9 (.slice A' n' c')).run Tryz.prog w' = .ok (.string s) w' ∧ Mod (fun _ => False) w w' := by
 subst hss
 refine (rpenc_any A n cap B us w hs hB hu hn).mono ?_
 rintro e w' ⟨v, rfl, ho, hm⟩
 obtain ⟨A', c', rfl, _, _, hr⟩ := own_form8 ho
 exact ⟨A', _, c', rfl, conv_rds Tryz.underlying34 Tryz.underlying5 Tryz.underlying9 w' hr (encP_256 us), hm⟩
/-- i of the numbers have the least added. -/
def mixL (lo i : Nat) (l : List Nat) : List Nat := addL lo (l.take i) ++ l.drop i
theorem mixL_len {lo i : Nat} {l : List Nat} : (mixL lo i l).length = l.length := by
 unfold mixL
 rw [List.length_append, addL_len, List.length_take, List.length_drop]
 omega
theorem mixL_zero (lo : Nat) (l : List Nat) : mixL lo 0 l = l := by unfold mixL addL; simp
theorem mixL_all {lo i : Nat} {l : List Nat} (h : l.length ≤ i) : mixL lo i l = addL lo l := by
 unfold mixL
 rw [List.take_of_length_le h, List.drop_of_length_le h, List.append_nil]
theorem mixL_at {lo i x : Nat} {l : List Nat} (h : l[i]? = some x) : (mixL lo i l)[i]? = some x := by
 have hi := (List.getElem?_eq_some_iff.1 h).1
 have hl : (addL lo (l.take i)).length = i := by rw [addL_len, List.length_take]; omega
 unfold mixL
 rw [List.getElem?_append_right (by omega), hl, Nat.sub_self, List.getElem?_drop, Nat.add_zero]
 exact h
theorem mixL_set {lo i x : Nat} {l : List Nat} (h : l[i]? = some x) : (mixL lo i l).set i ((x + lo) % 2 ^ 64) = mixL lo (i + 1) l := by
 have hi := (List.getElem?_eq_some_iff.1 h).1
 have hl : (addL lo (l.take i)).length = i := by rw [addL_len, List.length_take]; omega
 unfold mixL
 rw [List.set_append_right _ _ (by omega), hl, Nat.sub_self, drop_at' h, List.set_cons_zero, take_succ_of h, addL_snoc, List.append_assoc]
 rfl
theorem decP_bad {N : Nat} {bs : List Nat} (hN : ¬ N = 0) (h : (dec bs).2 = 0 ∨ bs.length ≤ (dec bs).2 ∨ 64 < bs.getD (dec bs).2 0) : decP N bs = none := by
 unfold decP
 rw [if_neg hN, if_pos h]
theorem decP_good {N lo a sz : Nat} {bs : List Nat} (hN : ¬ N = 0) (hlo : (dec bs).1 = lo) (ha : (dec bs).2 = a) (hsz : bs.getD a 0 = sz) (h0 : ¬ a = 0) (hn : a < bs.length) (h64 : sz ≤ 64) :
  decP N bs = if encP (addL lo (rdW sz N (some (val (bs.drop (a + 1)), 8 * (bs.drop (a + 1)).length)))) = bs then some (addL lo (rdW sz N (some (val (bs.drop (a + 1)), 8 * (bs.drop (a + 1)).length)))) else none := by
 have e : outP N bs = addL lo (rdW sz N (some (val (bs.drop (a + 1)), 8 * (bs.drop (a + 1)).length))) := by
  unfold outP
  rw [ha, hsz, hlo]
  rfl
 unfold decP
 rw [if_neg hN, if_neg (by rw [ha, hsz]; omega), e]
set_option maxHeartbeats 4000000 in
set_option maxRecDepth 100000 in
theorem rpdec_any (A : Option Addr) (n cap B N : Nat) (m : Int) (bs : List Nat) (w : World) (hs : Rds w B A n (cells8 bs)) (hB : B ≤ w.heap.size) (hlt : lt256 bs) (hnc : n ≤ cap) (hcm : cap ≤ maxLen) (hn : n ≤ 1000000) (hN : max 0 (min m 65535) = (N : Int)) :
  Calls Tryz.prog 48 #[.slice A n cap, .int .i64 m] w fun e w' => EncE w w' (decP N bs) e := by
 have hul : bs.length = n := by have := hs.1; rwa [cells8_length] at this
 have hN65 : N ≤ 65535 := by omega
 have Hheld := Lib.hid (fun W => rheld_any m N W hN)
 clear hN
 by_cases hN0 : N = 0
 ·subst hN0
  have hdec : decP 0 bs = if bs = [] then some [] else none := by unfold decP; rw [if_pos rfl]
  by_cases hn0 : n = 0
  ·obtain rfl := List.eq_nil_of_length_eq_zero (hul.trans hn0)
   have Hd := Lib.hid hdec
   have hnb : ((n : Int) == 0) = true := by simp; omega
   clear hs hdec
   go_enter Tryz.func48, Tryz.ntmps48
   go_wp2_with fail
   refine (Hheld.out _).mono ?_
   rintro e w' ⟨rfl, rfl⟩
   go_wp2_with fail
   go_ret2
   rw [Hd.out]
   exact ⟨_, rfl, Own.nil _ _ _, Mod.refl _ _⟩
  ·have hne : ¬ bs = [] := by rintro rfl; exact hn0 hul.symm
   have Hd : Hid (decP 0 bs = none) := Lib.hid (by rw [hdec, if_neg hne])
   have hnb : ((n : Int) == 0) = false := by simp; omega
   clear hs hdec hne hul
   go_enter Tryz.func48, Tryz.ntmps48
   go_wp2_with fail
   refine (Hheld.out _).mono ?_
   rintro e w' ⟨rfl, rfl⟩
   go_wp2_with fail
   go_ret2
   rw [Hd.out]
   exact ⟨rfl, Mod.refl _ _⟩
 ·have hNb : ((N : Int) == 0) = false := by simp; omega
  have hcall := vrget_any A n cap B bs w hs hlt (by omega)
  obtain ⟨lo, hlo⟩ : ∃ lo, (dec bs).1 = lo := ⟨_, rfl⟩
  obtain ⟨a, ha⟩ : ∃ a, (dec bs).2 = a := ⟨_, rfl⟩
  rw [hlo, ha] at hcall
  have Hcall := Lib.hid hcall
  have Hlo := Lib.hid hlo; have Ha := Lib.hid ha; have Hlt := Lib.hid hlt; have HB := Lib.hid hB; have Hul := Lib.hid hul; have Hcm := Lib.hid hcm; have Hs := Lib.hid hs
  have hlo64 : Hid (lo < 2 ^ 64) := Lib.hid (by rw [← hlo]; exact dec_lt hlt)
  clear hcall hlo ha hlt hB hul hs hcm
  by_cases ha0 : a = 0
  ·have hab : ((a : Int) == 0) = true := by simp; omega
   have Hd : Hid (decP N bs = none) := Lib.hid (decP_bad hN0 (.inl (by rw [Ha.out]; exact ha0)))
   clear Hs ha0
   go_enter Tryz.func48, Tryz.ntmps48
   go_wp2_with fail
   refine (Hheld.out _).mono ?_
   rintro e w' ⟨rfl, rfl⟩
   go_wp2_with fail
   refine Hcall.out.mono ?_
   rintro e w' ⟨rfl, rfl⟩
   go_wp2_with fail
   go_ret2
   rw [Hd.out]
   exact ⟨rfl, Mod.refl _ _⟩
  ·have hab : ((a : Int) == 0) = false := by simp; omega
   by_cases han : n ≤ a
   ·have hani : (n : Int) ≤ (a : Int) := by omega
    have Hd : Hid (decP N bs = none) := Lib.hid (decP_bad hN0 (.inr (.inl (by rw [Ha.out, Hul.out]; exact han))))
    clear Hs ha0 han
    go_enter Tryz.func48, Tryz.ntmps48
    go_wp2_with fail
    refine (Hheld.out _).mono ?_
    rintro e w' ⟨rfl, rfl⟩
    go_wp2_with fail
    refine Hcall.out.mono ?_
    rintro e w' ⟨rfl, rfl⟩
    go_wp2_with fail
    go_ret2
    rw [Hd.out]
    exact ⟨rfl, Mod.refl _ _⟩
   ·have hani : (a : Int) < (n : Int) := by omega
    have ha0i : (0 : Int) ≤ (a : Int) := by omega
    obtain ⟨ad, u, rfl, hadb, hu, hcu⟩ := Hs.out.at_ (show a < n by omega)
    rw [cells8_get] at hu
    obtain ⟨sz, hsz, rfl⟩ := Option.map_eq_some_iff.1 hu
    have hsz256 : sz < 256 := Hlt.out sz (List.mem_of_getElem? hsz)
    have Hsz : Hid (bs.getD a 0 = sz) := Lib.hid (by rw [List.getD_eq_getElem?_getD, hsz]; rfl)
    by_cases h64 : 64 < sz
    ·have h64i : (64 : Int) < (sz : Int) := by omega
     have Hd : Hid (decP N bs = none) := Lib.hid (decP_bad hN0 (.inr (.inr (by rw [Ha.out, Hsz.out]; exact h64))))
     clear Hs ha0 han hu hsz hadb
     go_enter Tryz.func48, Tryz.ntmps48
     go_wp2_with fail
     refine (Hheld.out _).mono ?_
     rintro e w' ⟨rfl, rfl⟩
     go_wp2_with fail
     refine Hcall.out.mono ?_
     rintro e w' ⟨rfl, rfl⟩
     go_wp2_with fail
     go_ret2
     rw [Hd.out]
     exact ⟨rfl, Mod.refl _ _⟩
    ·have hsz64 : sz ≤ 64 := by omega
     have h64i : ¬ (64 : Int) < (sz : Int) := by omega
     obtain ⟨p, hp⟩ : ∃ p, p = a + 1 := ⟨_, rfl⟩
     have hpi : (a : Int) + 1 = (p : Int) := by omega
     have hpn : p ≤ n := by omega
     obtain ⟨A1, hA1⟩ : ∃ A1, (if cap = p then some ad else some (ad.add p)) = A1 := ⟨_, rfl⟩
     have hr1 : Rds w B A1 (n - p) (cells8 (bs.drop p)) := by
      have h := Hs.out.drop hpn hnc
      rw [show (cells8 bs).drop p = cells8 (bs.drop p) by simp [cells8, List.map_drop]] at h
      rw [← hA1]
      exact h
     have hw0 : 0 < w.heap.size := (Hs.out.some_mem HB.out (by omega)).1
     have hlt2 : lt256 (bs.drop p) := fun b hb => Hlt.out b (List.mem_of_mem_drop hb)
     obtain ⟨raw, hraw⟩ : ∃ raw, raw = rdW sz N (some (val (bs.drop p), 8 * (bs.drop p).length)) := ⟨_, rfl⟩
     have Hrl : Hid (raw.length = N) := Lib.hid (by rw [hraw, rdW_len])
     obtain ⟨V, hV⟩ : ∃ V, V = addL lo raw := ⟨_, rfl⟩
     have HV64 : Hid (∀ x ∈ V, x < 2 ^ 64) := Lib.hid (by rw [hV]; exact addL_lt _ _)
     have Hdec : Hid (decP N bs = if encP V = bs then some V else none) := Lib.hid (by
      have h := decP_good (N := N) hN0 Hlo.out Ha.out Hsz.out ha0 (by rw [Hul.out]; omega) hsz64
      rw [← hp, ← hraw, ← hV] at h
      exact h)
     have hunp := fun c W (hW : Mod (fun _ => False) w W) => runpack_any A1 (n - p) c B N sz (bs.drop p) W (hr1.mod hW HB.out (fun _ _ h => h)) (Nat.le_trans HB.out hW.size) hlt2 (by omega) hN65 hsz64 (Nat.lt_of_lt_of_le hw0 hW.size)
     rw [← hraw] at hunp
     have hpci : (p : Int) ≤ (cap : Int) := by omega
     have hpni : (p : Int) ≤ (n : Int) := by omega
     have hp0 : (0 : Int) ≤ (p : Int) := by omega
     have Hunp := Lib.hid hunp; have HV := Lib.hid hV; have Hcell : Hid (∀ W, Mod (fun _ => False) w W → W.cell? (ad.add a) = some (.int .u8 (sz : Int))) := Lib.hid (fun W hW => (hW.cell (a := ad.add a) (by rw [add_block]; have := HB.out; omega) (fun h => h)).trans hcu)
     clear hu hsz hr1 hw0 hlt2 hraw hV hunp hp ha0 han h64 hadb Hsz
     go_enter Tryz.func48, Tryz.ntmps48
     go_wp2_with fail
     refine (Hheld.out _).mono ?_
     rintro e w' ⟨rfl, rfl⟩
     go_wp2_with fail
     refine Hcall.out.mono ?_
     rintro e w' ⟨rfl, rfl⟩
     go_upto_region 7 with fail
     have S0 : Hid (Mod (fun _ => False) w w.drew) := Lib.hid (Mod.refl _ _).drew
     go_cut [8] (fun s8 wc => ∃ (g8 c8 : Nat), s8 = .slice (some ⟨g8, 0, none⟩) N c8 ∧ w.heap.size ≤ g8 ∧ Own w.heap.size wc 26 (.slice (some ⟨g8, 0, none⟩) N c8) (cellsU raw) ∧ Mod (fun _ => False) w wc)
     case first =>
      clear hcu
      have hcd := Hcell.out _ S0.out
      have hwp : IntKind.i64.wrap (p : Int) = (p : Int) := IntWalk.i64_in _ (by omega)
      have hws : IntKind.i64.wrap (sz : Int) = (sz : Int) := IntWalk.i64_in _ (by omega)
      go_region_held_law (fun w' => w'.cell? (ad.add a) = some (.int .u8 (sz : Int))) (first | exact Hcell.out _ S1.out | exact Hcell.out _ S0.out)
       (first
        | (go_at_call 73; refine (Hunp.out _ _ S0.out).mono ?_; rintro e w1 ⟨v1, rfl, ho1, hm1⟩; have S1 : Hid (Mod (fun _ => False) w w1) := Lib.hid (S0.out.trans hm1 (fun _ _ h => h)); have O1 : Hid (Own w.heap.size w1 26 v1 (cellsU raw)) := Lib.hid ho1; clear ho1 hm1))
      all_goals
       obtain ⟨g8, c8, rfl, hg8, _⟩ := O1.out.form' (by rw [cellsU_length, Hrl.out]; omega)
       have hO1 := O1.out
       rw [cellsU_length, Hrl.out] at hO1 ⊢
       have HO1 := Lib.hid hO1; have Hg8 := Lib.hid hg8
       clear hO1 hg8 O1
       go_wp2_with fail
       go_meet
       exact ⟨_, _, rfl, Hg8.out, HO1.out, S1.out⟩
     case rest =>
      obtain ⟨g8, c8, rfl, hg8, hown, hm1⟩ := hcut
      have Hg8 := Lib.hid hg8
      have M0 : Hid (Own w.heap.size wc 26 (.slice (some ⟨g8, 0, none⟩) N c8) (cellsU (mixL lo 0 raw)) ∧ Mod (fun _ => False) w wc) := Lib.hid ⟨by rw [mixL_zero]; exact hown, hm1⟩
      clear hg8 hown hm1 hcu S0
      go_wp2_with fail
      go_loopg [9] N (fun l s9 wr => ∃ i : Nat, i + l = N ∧ s9 = .int .i64 (i : Int) ∧ Own w.heap.size wr 26 (.slice (some ⟨g8, 0, none⟩) N c8) (cellsU (mixL lo i raw)) ∧ Mod (fun _ => False) w wr)
      case atStart => exact ⟨0, by omega, rfl, M0.out⟩
      case round =>
       obtain ⟨i, hil, rfl, hown, hm⟩ := hrel
       have Hown := Lib.hid hown; have Hm := Lib.hid hm; have Hil := Lib.hid hil
       clear hown hm hil M0
       by_cases hin : i < N
       ·obtain ⟨x, hx⟩ : ∃ x, raw[i]? = some x := ⟨raw[i]'(by rw [Hrl.out]; exact hin), List.getElem?_eq_getElem _⟩
        obtain ⟨y, hy⟩ : ∃ y, y = (x + lo) % 2 ^ 64 := ⟨_, rfl⟩
        have hml : (mixL lo i raw).length = N := by rw [mixL_len, Hrl.out]
        obtain ⟨_, hfz, hset⟩ := own_setU (b := y) Hown.out hml.symm hin
        have hcx : wr.cell? ⟨g8, i, none⟩ = some (.int .u64 (x : Int)) := by
         rw [Hown.out.cell' rfl i (by rw [cellsU_length, hml]; exact hin), cellsU_get, mixL_at hx]
         rfl
        rw [hy, mixL_set hx, ← hy] at hset
        have hxr : x < 2 ^ 64 ∨ True := .inr trivial
        clear hxr
        have hyw : IntKind.u64.wrap ((x : Int) + (lo : Int)) = (y : Int) := by rw [IntKind.wrap_u64]; omega
        have Hset := Lib.hid hset
        have hi0 : (0 : Int) ≤ (i : Int) := by omega
        have hiN : (i : Int) < (N : Int) := by omega
        clear hx hy hml hset
        go_wp2_with fail
        go_roundg (gk - 1)
        case measure => have := Hil.out; omega
        case rel => exact ⟨i + 1, by have := Hil.out; omega, by go_num, Hset.out, Hm.out.setCell (fun h => absurd h (by have := Hg8.out; simp; omega)) _⟩
       ·have hi : i = N := by have := Hil.out; omega
        subst hi
        have hown := Hown.out
        rw [mixL_all (by rw [Hrl.out]; exact Nat.le_refl _), ← HV.out] at hown
        have HownV := Lib.hid hown
        have Hr8 : Hid (Rds wr wr.heap.size (some ⟨g8, 0, none⟩) i (cellsU V)) := Lib.hid (Own.rds hown (by rw [HV.out, addL_len, Hrl.out]))
        obtain ⟨s1, hs1⟩ : ∃ s1, strOf (encP V) = s1 := ⟨_, rfl⟩
        obtain ⟨s2, hs2⟩ : ∃ s2, strOf bs = s2 := ⟨_, rfl⟩
        have HCV : Hid (∀ W, Mod (fun _ => False) w W → (convert 34 9 (.slice (some ad) n cap)).run Tryz.prog W = .ok (.string s2) W) := Lib.hid (fun W hW => by
         rw [← hs2]
         exact conv_rds Tryz.underlying34 Tryz.underlying5 Tryz.underlying9 W (Hs.out.mod hW HB.out (fun _ _ h => h)) Hlt.out)
        have Hfr : Hid (∀ W c, Mod (fun _ => False) wr W → Calls Tryz.prog 74 #[.slice (some ⟨g8, 0, none⟩) i c] W fun e w' => ∃ A' n' c', e = .returned (.slice A' n' c') ∧ (convert 34 9 (.slice A' n' c')).run Tryz.prog w' = .ok (.string s1) w' ∧ Mod (fun _ => False) W w') := Lib.hid (fun W c hW => rpenc_at _ i c _ V s1 W (Hr8.out.new hW) hW.size HV64.out (by omega) hs1)
        obtain ⟨b, hb⟩ : ∃ b, decide (encP V = bs) = b := ⟨_, rfl⟩
        obtain ⟨hq, hq'⟩ := str_ne hs1 hs2 (encP_256 V) Hlt.out hb
        have Hb := Lib.hid hb
        have S0 : Hid (Mod (fun _ => False) wr wr.drew) := Lib.hid (Mod.refl _ _).drew
        clear hs1 hs2 hb hown Hown
        go_upto_region 12 with fail
        go_cut [67] (fun s67 wc => s67 = .bool (!b) ∧ Mod (fun _ => False) wr wc)
        case first =>
         have cv0 := HCV.out _ (Hm.out.trans S0.out (fun _ _ h => h))
         go_region_held_law (fun w' => Mod (fun _ => False) wr w') (first | exact S1.out | exact S0.out)
          (first
           | (go_at_call 74; refine (Hfr.out _ _ S0.out).mono ?_; rintro e w5 ⟨A5, n5, c5, rfl, hcv, hm5⟩; have S1 : Hid (Mod (fun _ => False) wr w5) := Lib.hid (S0.out.trans hm5 (fun _ _ h => h)); have cv5 := HCV.out _ (Hm.out.trans S1.out (fun _ _ h => h)); clear hm5))
         all_goals
          go_wp2_with fail
          go_meet
          exact ⟨rfl, S1.out⟩
        case rest =>
         obtain ⟨rfl, hm7⟩ := hcut
         have Hm7 := Lib.hid (Hm.out.trans hm7 (fun _ _ h => h)); have Hown7 := Lib.hid (HownV.out.mod hm7)
         clear hm7 hq hq' S0
         cases b with
         | true =>
          have Hd : Hid (decP i bs = some V) := Lib.hid (by rw [Hdec.out, if_pos (of_decide_eq_true Hb.out)])
          go_wp2_with fail
          go_ret2
          rw [Hd.out]
          exact ⟨_, rfl, Hown7.out, Hm7.out⟩
         | false =>
          have Hd : Hid (decP i bs = none) := Lib.hid (by rw [Hdec.out, if_neg (of_decide_eq_false Hb.out)])
          go_wp2_with fail
          go_ret2
          rw [Hd.out]
          exact ⟨rfl, Hm7.out⟩
end Go.Proofs.YtmeilddngohccaaGreatDoor

/- Samples that come, as the document has it: own, Add, Close, SameOpen. -/
namespace Go.Proofs.YtmeilddngohccaaGreatDoor
open Go.RowKit

set_option maxHeartbeats 1000000 in
set_option maxRecDepth 100000 in
theorem rown_any (A : Option Addr) (n c : Nat) (l : List (Int × Nat)) (w : World) (hs : RdsS w w.heap.size A n l) (hm : n ≤ 1000000) :
  Calls Tryz.prog 21 #[.slice A n c] w fun e w' => ∃ v, e = .returned v ∧ OwnS w.heap.size w' v l ∧ Mod (fun _ => False) w w' := by
 have Hown : Hid (OwnK 2 w.heap.size (w.alloc (.cells #[] 28)) 28 (.slice (some ⟨w.heap.size, 0, none⟩) 0 0) []) := Lib.hid (own_litK (Nat.le_refl _))
 have Hr := Lib.hid (hs.alloc (Nat.le_refl _) (.cells #[] 28)).toK
 have Hone := Lib.hid (oneS l)
 have hr1 : ([] : List (List Value)).length + n ≤ maxLen := by unfold maxLen; simp; omega
 have hr2 : (([] : List (List Value)).length + n) * 16 ≤ 140737488355328 := by simp; omega
 have hsz : w.heap.size ≤ (w.alloc (.cells #[] 28)).heap.size := by simp
 clear hs
 go_enter Tryz.func21, Tryz.ntmps21
 go_wp2_with (at_builtin; refine wpList_appK rfl (.tmp 3) (.tmp 4) _ rfl eltS2 rfl Hown.out rfl Hr.out Hone.out hr1 hr2 hsz ?_; intro v4 w4 HO HB HG; clear HG)
 go_ret
 exact ⟨_, rfl, by have := HO.out; rw [List.nil_append] at this; exact this.toS, ((Mod.refl (fun _ => False) w).alloc _).trans (Mod.of_below HB.out) (fun i hi h => by omega)⟩
/-- append(l, news..) as a step of a region that draws its order. -/
theorem step_appSr {ops : Array Oper} {o : Oper} {a : Act} {K : Act → World → Prop} {Q : Exit → Act → World → Prop} {E : Prop} {w : World} (hgd : o.guard = none) (s x : Operand)
  (ho : o.op = .call { callee := .builtin .append, args := #[s, x], argTypes := #[23, 23] })
  {B B2 m c : Nat} {v : Value} {l news : List (Int × Nat)} {A : Option Addr} (hs : a.eval s = v) (hown : OwnS B w v l) (hx : a.eval x = .slice A m c) (hr : RdsS w B2 A m news)
  (hm : l.length + m ≤ maxLen) (hb : (l.length + m) * 16 ≤ 140737488355328) (hB : B ≤ w.heap.size)
  (h : ∀ v' w', Hid (OwnS B w' v' (l ++ news)) → Hid (Below B w w') → K (a.put o.dst v') w') :
  if Region.wanted o (yielded ops a.tmps) = true then Oper.wp Tryz.prog o a w K Q else E := by
 have hw : Region.wanted o (yielded ops a.tmps) = true := by simp [Region.wanted, hgd]
 rw [if_pos hw]
 have hok : OwnK 2 B w 28 v (rowsS l) := ⟨rowsS_all l, by rw [rowsS_len, rowsS_flat]; exact hown⟩
 obtain ⟨v', w', hrun, h2, h3, _⟩ := run_appK (P := Tryz.prog) (ty := o.type) (c := c) eltS2 hok hr.toK (oneS news) (by rw [rowsS_len]; exact hm) (by rw [rowsS_len]; exact hb) hB
 unfold Oper.wp execOp
 simp only [ho, resolve, invoke, builtin, Sem.run_bind, Sem.run_pure, Result.andThen_ok, List.map_toArray, List.map_cons, List.map_nil, hs, hx, hrun]
 refine h v' w' (Lib.hid ?_) (Lib.hid ((Below.refl B w).grown h3 hB fun k hk => (hown.block k hk).1))
 have h4 : OwnK 2 B w' 28 v' (rowsS (l ++ news)) := by
  have e : rowsS (l ++ news) = rowsS l ++ rowsS news := by simp [rowsS]
  rw [e]
  exact h2
 exact h4.toS
theorem rds_sample (w : World) (T : Int) (V : Nat) : RdsS (w.alloc (.cells #[.int .i64 T, .int .u64 (V : Int)] 28)) (w.heap.size + 1) (some ⟨w.heap.size, 0, none⟩) 1 [(T, V)] :=
 ⟨rfl, Rds.lit w 28 #[.int .i64 T, .int .u64 (V : Int)]⟩
set_option maxHeartbeats 4000000 in
set_option maxRecDepth 100000 in
theorem radd_any (b : Bool) (t : Int) (A : Option Addr) (n c : Nat) (l : List (Int × Nat)) (T : Int) (V : Nat) (w : World) (hs : RdsS w w.heap.size A n l) (hn : n ≤ 1000000) :
  Calls Tryz.prog 14 #[.agg #[.bool b, .int .i64 t, .slice A n c], .agg #[.int .i64 T, .int .u64 (V : Int)]] w fun e w' =>
   OpnEnd w w' (addN ⟨b, t, l⟩ (T, V)) (errN ⟨b, t, l⟩ (T, V)) e := by
 obtain ⟨W, hW⟩ : ∃ W, W = ((w.alloc (.cells #[.bool b, .int .i64 t, .slice A n c] 25)).alloc (.cells #[.int .i64 T, .int .u64 (V : Int)] 28)).alloc (.cells #[.bool false, .int .i64 0, .slice none 0 0] 25) := ⟨_, rfl⟩
 obtain ⟨g0, hg0⟩ : ∃ g, g = w.heap.size := ⟨_, rfl⟩
 obtain ⟨g1, hg1⟩ : ∃ g, g = w.heap.size + 1 := ⟨_, rfl⟩
 obtain ⟨g2, hg2⟩ : ∃ g, g = w.heap.size + 1 + 1 := ⟨_, rfl⟩
 have hmW : Mod (fun _ => False) w W := by rw [hW]; exact (((Mod.refl _ _).alloc _).alloc _).alloc _
 have hsz : W.heap.size = g2 + 1 := by rw [hW, hg2]; simp
 have hb0 : Blk W g0 25 #[.bool b, .int .i64 t, .slice A n c] := by rw [hW, hg0]; exact ((Blk.new _ _ _).alloc _).alloc _
 have hb1 : Blk W g1 28 #[.int .i64 T, .int .u64 (V : Int)] := by
  rw [hW, hg1]
  have h := (Blk.new (w.alloc (.cells #[.bool b, .int .i64 t, .slice A n c] 25)) 28 #[.int .i64 T, .int .u64 (V : Int)]).alloc (.cells #[.bool false, .int .i64 0, .slice none 0 0] 25)
  simpa using h
 have hb2 : Blk W g2 25 #[.bool false, .int .i64 0, .slice none 0 0] := by
  rw [hW, hg2]
  have h := Blk.new ((w.alloc (.cells #[.bool b, .int .i64 t, .slice A n c] 25)).alloc (.cells #[.int .i64 T, .int .u64 (V : Int)] 28)) 25 #[.bool false, .int .i64 0, .slice none 0 0]
  simpa using h
 have Hs := Lib.hid (hs.new hmW).fit; have Hll := Lib.hid hs.1
 have HW := Lib.hid hW; have HmW := Lib.hid hmW; have Hsz := Lib.hid hsz; have Hb0 := Lib.hid hb0; have Hb1 := Lib.hid hb1; have Hb2 := Lib.hid hb2
 have Hg0 := Lib.hid hg0; have Hg1 := Lib.hid hg1; have Hg2 := Lib.hid hg2
 have hne0 : ¬ g0 = g2 := by omega
 have hne1 : ¬ g1 = g2 := by omega
 have HX : Hid (∀ W', Mod (fun k => k = g2) W W' → Mod (fun k => k = g2) W W' ∧ W'.cell? ⟨g0, 0, none⟩ = some (.bool b) ∧ W'.cell? ⟨g0, 1, none⟩ = some (.int .i64 t) ∧ W'.cell? ⟨g0, 2, none⟩ = some (.slice A n c)) := Lib.hid (fun W' h => ⟨h, (h.blk hb0 hne0).cell 0, (h.blk hb0 hne0).cell 1, (h.blk hb0 hne0).cell 2⟩)
 have HX1 : Hid (∀ W', Mod (fun k => k = g2) W W' → Mod (fun k => k = g2) W W' ∧ W'.cell? ⟨g1, 0, none⟩ = some (.int .i64 T) ∧ W'.cell? ⟨g1, 1, none⟩ = some (.int .u64 (V : Int)) ∧ W'.cell? ⟨g0, 2, none⟩ = some (.slice A n c)) := Lib.hid (fun W' h => ⟨h, (h.blk hb1 hne1).cell 0, (h.blk hb1 hne1).cell 1, (h.blk hb0 hne0).cell 2⟩)
 have z0 := hb0.cell 0
 have z1 := hb0.cell 1
 have y0 := hb1.cell 0
 simp at z0 z1 y0
 clear hs hW hmW hsz hb0 hb1 hb2 hg0 hg1 hg2 hne0 hne1
 by_cases hno : b = true ∧ T ≤ t
 ·obtain ⟨rfl, hTt⟩ := hno
  have Hno := Lib.hid (noN_true (l := l) (V := V) hTt)
  go_enter Tryz.func14, Tryz.ntmps14
  go_upto_region 1 with fail
  rw [← HW.out, ← Hg2.out, ← Hg1.out, ← Hg0.out]
  go_upto_region 2 with fail
  have S0 := Lib.hid (HX.out _ ((Mod.refl _ W).drew))
  clear z0 z1 y0
  go_region_held_law (fun W' => Mod (fun k => k = g2) W W' ∧ W'.cell? ⟨g0, 0, none⟩ = some (.bool true) ∧ W'.cell? ⟨g0, 1, none⟩ = some (.int .i64 t) ∧ W'.cell? ⟨g0, 2, none⟩ = some (.slice A n c)) (first | (with_reducible exact S2.out) | (with_reducible exact S0.out) | exact HX.out _ (((Hm1.out.mono (fun _ _ h => h.elim)).trans (Mod.three_one _ _ _ _ _) (fun _ _ h => h))))
     (first
      | (go_at_call 21; refine (rown_any A n c l W.drew Hs.out hn).mono ?_; intro e w1 he; obtain ⟨v1, rfl, ho1, hm1⟩ := he; obtain ⟨A1, L1, c1, rfl, HL1, _, _, _⟩ := ho1.formN; have Hm1 := Lib.hid ((Mod.refl (fun _ => False) W).drew.trans hm1 (fun _ _ h => h)); have S2 := Lib.hid (HX.out _ (Hm1.out.mono (fun _ _ h => h.elim))); have hb2 := hm1.blk (Blk.drew Hb2.out) (fun h => h); have Hb21 := Lib.hid hb2; have r0 := hb2.cell 0; have r1 := hb2.cell 1; have r2 := hb2.cell 2; have f0 := hb2.frozen 0; have f1 := hb2.frozen 1; have f2 := hb2.frozen 2; simp at r0 r1 r2; have Ho1 := Lib.hid ho1; clear hm1 ho1 hb2))
  go_wp2_with fail
  refine bodyPost_ret (v := .tuple #[.agg #[.bool true, .int .i64 t, .slice A1 L1 c1], .int .i64 1]) (by have h := Hb21.out.three (.bool true) (.int .i64 t) (.slice A1 L1 c1); simp [results, Tryz.results14, go_sem, h.1, h.2.1, h.2.2.1]) rfl ?_
  rw [addN_no Hno.out, errN_no Hno.out]
  exact ⟨_, rfl, (OwnS.modK (B := W.heap.size) Ho1.out (Mod.three_one _ _ _ _ _) (fun k hk h => by have := Hsz.out; omega)).mono (by have := Hsz.out; have := Hg2.out; omega), (HmW.out.trans Hm1.out (fun _ _ h => h)).three_new (by have := Hg2.out; omega) _ _ _⟩
 ·have hTt : b = true → t < T := fun h => by
   rcases Int.lt_or_le t T with h1 | h1
   ·exact h1
   ·exact absurd ⟨h, h1⟩ hno
  have Hno := Lib.hid (noN_false (l := l) (V := V) hTt)
  have HR1 : Hid (l.length + 1 ≤ maxLen ∧ (l.length + 1) * 16 ≤ 140737488355328) := Lib.hid (by have := Hll.out; unfold maxLen; omega)
  have hcs : Tryz.prog.cellsOf 28 = 2 := by kernel_rfl
  have HTt := Lib.hid hTt
  clear hno hTt
  go_enter Tryz.func14, Tryz.ntmps14
  go_upto_region 1 with fail
  rw [← HW.out, ← Hg2.out, ← Hg1.out, ← Hg0.out]
  go_cut [5, 14] (fun s5 s14 wx => s5 = .int .i64 0 ∧ s14 = .bool false ∧ wx = W)
  case first =>
   cases b with
   | false =>
    go_wp2_with fail
    go_meet
    exact ⟨rfl, rfl, rfl⟩
   | true =>
    have hTi : ¬ T ≤ t := by have := HTt.out rfl; omega
    go_wp2_with fail
    go_meet
    exact ⟨rfl, (by simp), rfl⟩
  case rest =>
   obtain ⟨rfl, rfl, hwc⟩ := hcut
   rw [hwc]
   clear hwc z0 z1 y0
   have S0 := Lib.hid (HX1.out _ ((Mod.refl _ W).drew))
   go_upto_region 3 with fail
   go_region_held_law (fun W' => Mod (fun k => k = g2) W W' ∧ W'.cell? ⟨g1, 0, none⟩ = some (.int .i64 T) ∧ W'.cell? ⟨g1, 1, none⟩ = some (.int .u64 (V : Int)) ∧ W'.cell? ⟨g0, 2, none⟩ = some (.slice A n c))
    (first
     | (with_reducible exact S0.out)
     | (with_reducible exact S2.out)
     | (with_reducible exact S6.out)
     | exact HX1.out _ (((Mod.refl _ W).alloc _).drew)
     | exact HX1.out _ ((Hm1.out.alloc _).mono (fun _ _ h => h.elim))
     | exact HX1.out _ ((Hm6.out.mono (fun _ _ h => h.elim)).trans (Mod.three_one _ _ _ _ _) (fun _ _ h => h)))
    (first
     | (refine step_appSr rfl (.tmp 27) (.tmp 29) rfl rfl (Ho1.out.alloc _) rfl (rds_sample w1 T V) HR1.out.1 HR1.out.2 HsA.out ?_; intro v6 w6 HO6 HB6; obtain ⟨A6, L6, c6, rfl, HL6, _, _, _⟩ := HO6.out.formN; have Hm6 := Lib.hid ((Hm1.out.alloc (.cells #[.int .i64 T, .int .u64 (V : Int)] 28)).trans (Mod.of_below HB6.out) (fun i hi h => absurd hi (Nat.not_lt_of_le h))); have S6 := Lib.hid (HX1.out _ (Hm6.out.mono (fun _ _ h => h.elim))); have hb6 := Hm6.out.blk Hb2.out (fun h => h); have Hb6 := Lib.hid hb6; have r0 := hb6.cell 0; have r1 := hb6.cell 1; have r2 := hb6.cell 2; have f0 := hb6.frozen 0; have f1 := hb6.frozen 1; have f2 := hb6.frozen 2; simp at r0 r1 r2; clear hb6)
     | (refine step_appSr rfl (.tmp 27) (.tmp 29) rfl rfl Ho1.out rfl HlB.out HR1.out.1 HR1.out.2 Hs1.out ?_; intro v6 w6 HO6 HB6; obtain ⟨A6, L6, c6, rfl, HL6, _, _, _⟩ := HO6.out.formN; have Hm6 := Lib.hid (Hm1.out.trans (Mod.of_below HB6.out) (fun i hi h => absurd hi (Nat.not_lt_of_le h))); have S6 := Lib.hid (HX1.out _ (Hm6.out.mono (fun _ _ h => h.elim))); have hb6 := Hm6.out.blk Hb2.out (fun h => h); have Hb6 := Lib.hid hb6; have r0 := hb6.cell 0; have r1 := hb6.cell 1; have r2 := hb6.cell 2; have f0 := hb6.frozen 0; have f1 := hb6.frozen 1; have f2 := hb6.frozen 2; simp at r0 r1 r2; clear hb6)
     | (go_simp; go_at_call 21; refine (rown_any A n c l W.drew Hs.out hn).mono ?_; intro e w1 he; obtain ⟨v1, rfl, ho1, hm1⟩ := he; obtain ⟨A1, L1, c1, rfl, HL1, _, _, _⟩ := ho1.formN; have Hm1 := Lib.hid ((Mod.refl (fun _ => False) W).drew.trans hm1 (fun _ _ h => h)); have S2 := Lib.hid (HX1.out _ (Hm1.out.mono (fun _ _ h => h.elim))); have Ho1 : Hid (OwnS W.heap.size w1 (.slice A1 L1 c1) l) := Lib.hid ho1; have HsA : Hid (W.heap.size ≤ (w1.alloc (.cells #[.int .i64 T, .int .u64 (V : Int)] 28)).heap.size) := Lib.hid (Nat.le_trans Hm1.out.size (le_alloc _ _)); clear hm1 ho1)
     | (go_simp; go_at_call 21; refine (rown_any A n c l (W.alloc (.cells #[.int .i64 T, .int .u64 (V : Int)] 28)).drew (Hs.out.alloc (Nat.le_refl _) _).fit hn).mono ?_; intro e w1 he; obtain ⟨v1, rfl, ho1, hm1⟩ := he; obtain ⟨A1, L1, c1, rfl, HL1, _, _, _⟩ := ho1.formN; have Hm1 := Lib.hid (((Mod.refl (fun _ => False) W).alloc (.cells #[.int .i64 T, .int .u64 (V : Int)] 28)).drew.trans hm1 (fun _ _ h => h)); have S2 := Lib.hid (HX1.out _ (Hm1.out.mono (fun _ _ h => h.elim))); have Ho1 : Hid (OwnS W.heap.size w1 (.slice A1 L1 c1) l) := Lib.hid (ho1.mono (le_alloc W _)); have HlB := Lib.hid ((rds_sample W T V).drew.new hm1); have Hs1 := Lib.hid Hm1.out.size; clear hm1 ho1))
   all_goals (
    go_wp2_with fail
    refine bodyPost_ret (v := .tuple #[.agg #[.bool true, .int .i64 T, .slice A6 L6 c6], .int .i64 0]) (by have h := Hb6.out.three (.bool true) (.int .i64 T) (.slice A6 L6 c6); simp [results, Tryz.results14, go_sem, h.1, h.2.1, h.2.2.1]) rfl ?_
    rw [addN_yes Hno.out, errN_yes Hno.out]
    exact ⟨_, rfl, (OwnS.modK (B := W.heap.size) HO6.out (Mod.three_one _ _ _ _ _) (fun k hk h => by have := Hsz.out; omega)).mono (by have := Hsz.out; have := Hg2.out; omega), (HmW.out.trans Hm6.out (fun _ _ h => h)).three_new (by have := Hg2.out; omega) _ _ _⟩)
end Go.Proofs.YtmeilddngohccaaGreatDoor

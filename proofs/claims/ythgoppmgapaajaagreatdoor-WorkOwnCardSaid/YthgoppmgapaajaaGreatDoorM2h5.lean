/- The texts De, Pe, Wz, Wp, We, Kv, Kw, Ke, Dr, Pr, Wg, Wd, Ky, Kz, Kd, Jf, Za, Zb, Jb, Zc, Kb, Kq, Kba, Jn, Jw, Wu, one behind the other. -/
import Derived.Test.YthgoppmgapaajaaGreatDoorM2h1
import Derived.Test.YthgoppmgapaajaaGreatDoorM2h4
import Derived.Test.YthgoppmgapaajaaGreatDoorM2h2
import Derived.Test.YthgoppmgapaajaaGreatDoorM2h3
/- Values are told by a list of those that are unlike: putList, Encode. -/
namespace Go.Proofs.YthgoppmgapaajaaGreatDoor
open Go.RowKit Go.Maps

theorem encV_snoc (l : List Nat) (x : Nat) : encV (l ++ [x]) = encV l ++ enc x := by
 rw [encV_app]
 show encV l ++ (enc x ++ []) = _
 rw [List.append_nil]
theorem encV_small {l : List Nat} {i : Nat} (h : ∀ x ∈ l, x < 2 ^ 64) (hl : l.length ≤ 1000000) : (enc l.length ++ encV (l.take i)).length ≤ 10000010 := by
 have h1 := enc_len10 (u := l.length) (by omega)
 have h2 := encV_len (l := l.take i) (fun x hx => h x (List.mem_of_mem_take hx))
 have h3 : (l.take i).length ≤ l.length := by rw [List.length_take]; omega
 rw [List.length_append]
 omega
/-- What putList has told of i values. -/
def ListTo (w wr : World) (l : List Nat) (i : Nat) (v : Value) : Prop := Own w.heap.size wr 5 v (cells8 (enc l.length ++ encV (l.take i))) ∧ Mod (fun _ => False) w wr
set_option maxHeartbeats 4000000 in
set_option maxRecDepth 100000 in
theorem putList_any (A : Option Addr) (n cap B : Nat) (l : List Nat) (w : World) (hs : Rds w B A n (cellsU l)) (hB : B ≤ w.heap.size) (hu : ∀ x ∈ l, x < 2 ^ 64) (hn : n ≤ 1000000) :
  Calls Tryz.prog 101 #[.slice A n cap] w fun e w' => ∃ v, e = .returned v ∧ Own w.heap.size w' 5 v (cells8 (enc l.length ++ encV l)) ∧ Mod (fun _ => False) w w' := by
 have hul : l.length = n := by have := hs.1; rwa [cellsU_length] at this
 have Hs := Lib.hid hs; have Hu := Lib.hid hu; have HB := Lib.hid hB; have Hul := Lib.hid hul
 have hn64 : Hid (Lt64 n) := Lib.hid (by unfold Lt64; omega)
 clear hs hu hB hul
 go_enter Tryz.func101, Tryz.ntmps101
 go_wp2_with fail
 refine (vput_any none 0 0 0 [] n w (Rds.nil _ _ _) (by omega) hn64.out).mono ?_
 rintro e w1 ⟨v1, rfl, ho1, hb1⟩
 rw [List.nil_append] at ho1
 have P0 : Hid (ListTo w w1 l 0 v1) := Lib.hid ⟨by rw [Hul.out, List.take_zero]; show Own _ _ _ _ (cells8 (enc n ++ [])); rw [List.append_nil]; exact ho1, mod_below hb1⟩
 clear ho1 hb1
 go_wp2_with fail
 go_loopg [3, 12] n (fun l' s3 s12 wr => ∃ i : Nat, i + l' = n ∧ s12 = .int .i64 (i : Int) ∧ ListTo w wr l i s3)
 case atStart => exact ⟨0, by omega, rfl, P0.out⟩
 case round =>
  obtain ⟨i, hil, rfl, hown, hm⟩ := hrel
  have Hown := Lib.hid hown; have Hm := Lib.hid hm; have Hil := Lib.hid hil
  clear hown hm hil P0
  by_cases hin : i < n
  ·obtain ⟨ad, x, rfl, hx, hcx⟩ := Hs.out.at2 hin HB.out Hm.out (fun _ _ h => h)
   have Hx64 : Hid (Lt64 x) := Lib.hid (Hu.out x (List.mem_of_getElem? hx))
   have Htk : Hid (encV (l.take (i + 1)) = encV (l.take i) ++ enc x) := Lib.hid (by rw [take_succ_of hx, encV_snoc])
   have hi0 : (0 : Int) ≤ (i : Int) := by omega
   obtain ⟨A3, L3, c3, rfl, HL3, _, _, hr3⟩ := own_formN8 Hown.out
   have HL9 : Hid (L3 ≤ 1000000000) := Lib.hid (by have h1 := HL3.out; have h2 := encV_small (i := i) Hu.out (by rw [Hul.out]; exact hn); omega)
   have Hr3 := Lib.hid hr3
   clear hx hr3
   go_wp2_with fail
   refine (vput_any A3 L3 c3 _ _ x wr Hr3.out HL9.out Hx64.out).mono ?_
   rintro e w2 ⟨v2, rfl, ho2, hb2⟩
   rw [List.append_assoc, ← Htk.out] at ho2
   have HP : Hid (ListTo w w2 l (i + 1) v2) := Lib.hid ⟨ho2.mono Hm.out.size, Hm.out.trans (mod_below hb2) (fun _ _ h => h)⟩
   clear ho2 hb2
   go_wp2_with fail
   go_roundg (gk - 1)
   case measure => have := Hil.out; omega
   case rel => exact ⟨i + 1, by have := Hil.out; omega, by go_num, HP.out⟩
  ·have hi : i = n := by have := Hil.out; omega
   go_wp2_with fail
   go_ret
   have h := Hown.out
   rw [List.take_of_length_le (by rw [Hul.out]; omega)] at h
   exact ⟨_, rfl, h, Hm.out⟩
theorem atD_at {us : List Nat} {i x : Nat} (h : us[i]? = some x) : (atD us)[i]? = some (plc x (uniq us)) := by
 unfold atD
 rw [List.getElem?_map, h]
 rfl
theorem FldTo.drew {w0 w1 wr : World} {g S i : Nat} {l : List Nat} (h : FldTo w0 w1 wr g S l i) : FldTo w0 w1 wr.drew g S l i := by
 obtain ⟨⟨row', a1, a2, a3⟩, a4⟩ := h
 exact ⟨⟨row', a1.mod (Mod.refl (fun _ => False) _).drew (fun h => h) (fun _ _ h => h), a2.drew, a3⟩, a4.drew⟩
set_option maxHeartbeats 4000000 in
set_option maxRecDepth 100000 in
theorem denc_any (A : Option Addr) (n cap B : Nat) (us : List Nat) (w : World) (hs : Rds w B A n (cellsU us)) (hB : B ≤ w.heap.size) (hu : ∀ x ∈ us, x < 2 ^ 64) (hn : n ≤ 1000000) :
  Calls Tryz.prog 83 #[.slice A n cap] w fun e w' => EncB w w' (encD us) e := by
 have hul : us.length = n := by have := hs.1; rwa [cellsU_length] at this
 by_cases h0 : n = 0
 ·subst h0
  obtain rfl := List.eq_nil_of_length_eq_zero hul
  clear hs
  go_enter Tryz.func83, Tryz.ntmps83
  go_wp2_with fail
  go_ret2
  rw [encD_nil]
  exact ⟨_, rfl, Own.nil _ _ _, Mod.refl _ _⟩
 ·have hne : us ≠ [] := by rintro rfl; exact h0 hul.symm
  have hn0 : ((n : Int) == 0) = false := by simp; omega
  have Hs := Lib.hid hs; have Hu := Lib.hid hu; have HB := Lib.hid hB; have Hul := Lib.hid hul; have Hne := Lib.hid hne
  clear hs hu hB hul hne
  go_enter Tryz.func83, Tryz.ntmps83
  go_wp2_with fail
  refine (unlike_any A n cap B us w Hs.out HB.out Hu.out hn).mono ?_
  rintro e w1 ⟨v4, b, nm, D, l, rfl, hb, ho4, hmap, hm1, hl257, hor⟩
  obtain ⟨A4, L, c4, rfl, HL, _, hr4⟩ := own_formUN ho4
  have hL257 : L ≤ 257 := by have := HL.out; omega
  have Hm1 := Lib.hid hm1; have Hr4 := Lib.hid hr4; have Hmap := Lib.hid hmap
  clear hm1 hr4 hmap ho4
  rcases hor with ⟨h1, h2⟩ | ⟨rfl, h1, hplc⟩
  ·have hLb : (256 : Int) < (L : Int) := by have := HL.out; omega
   have Hd : Hid (encD us = none) := Lib.hid (encD_many h2)
   clear h1 h2
   go_wp2_with fail
   go_ret2
   rw [Hd.out]
   exact ⟨rfl, Hm1.out⟩
  ·have hL256 : L ≤ 256 := by have := HL.out; omega
   have hLb : ¬ (256 : Int) < (L : Int) := by omega
   have hL0 : ¬ L = 0 := by have h := uniq_pos Hne.out; have := HL.out; omega
   obtain ⟨S, hS⟩ : ∃ S, wid (L - 1) = S := ⟨_, rfl⟩
   have hS64 : S ≤ 64 := by rw [← hS]; exact wid_le _
   have Hsize : Hid (∀ W, Calls Tryz.prog 100 #[.slice A4 L c4] W fun e w' => e = .returned (.int .i64 (S : Int)) ∧ W = w') := Lib.hid (fun W => dsize_any A4 L c4 S W hL0 (by omega) hS)
   have HS := Lib.hid hS; have Hplc := Lib.hid hplc
   have Hat : Hid ((atD us).length = n) := Lib.hid (by rw [atD_len]; exact Hul.out)
   clear h1 hplc hl257 hS hL0
   go_wp2_with fail
   refine (newWriter_wr w1).mono ?_
   rintro e w2 ⟨g, rfl, hg1, hg2, hwr, hm2⟩
   have F0 : Hid (FldTo w1 w2 w2 g S (atD us) 0) := Lib.hid ⟨Wrote.refl hwr, hm2⟩
   have Hg1 := Lib.hid hg1; have Hm2 := Lib.hid hm2
   clear hg1 hg2 hwr hm2 hn0
   go_wp2_with fail
   go_loopg [23] n (fun l s23 wr => ∃ i : Nat, i + l = n ∧ s23 = .int .i64 (i : Int) ∧ FldTo w1 w2 wr g S (atD us) i)
   case atStart => exact ⟨0, by omega, rfl, F0.out⟩
   case round =>
    obtain ⟨i, hil, rfl, hF⟩ := hrel
    have HF := Lib.hid hF; have Hil := Lib.hid hil
    clear hF hil F0
    by_cases hin : i < n
    ·obtain ⟨ad, x, rfl, hx, hcx⟩ := Hs.out.at2 hin HB.out (Hm1.out.trans HF.out.2 (fun _ _ h => h)) (fun _ _ h => h)
     have hx64 := Hu.out x (List.mem_of_getElem? hx)
     have hxu : x ∈ uniq us := uniq_mem (List.mem_of_getElem? hx)
     obtain ⟨p, hp⟩ : ∃ p, p = plc x (uniq us) := ⟨_, rfl⟩
     have hpl : p < 256 := by have := plc_lt hxu; rw [hp]; have := HL.out; omega
     have Hp : Hid ((atD us)[i]? = some p) := Lib.hid (by rw [hp]; exact atD_at hx)
     have hi0 : (0 : Int) ≤ (i : Int) := by omega
     obtain ⟨c, hrun, hat, _⟩ := World.ownsMap.lookup_int (Hmap.out.mod HF.out.2.drew (fun h => h)).out lawU Tryz.underlying130 Tryz.underlying34 (zeroU _) (keyU hx64)
     obtain rfl : c = (p : Int) := by rw [hp]; exact Hplc.out.look hxu hat
     have Hp64 : Hid (Lt64 p) := Lib.hid (by unfold Lt64; omega)
     clear hx hx64 hxu hp hat
     go_upto_region 10 with fail
     refine wp_region_still_tail 6 (by kernel_rfl) (by kernel_rfl) ?_
     simp only [List.take_succ_cons, List.take_zero, List.drop_succ_cons, List.drop_zero]
     iterate 5 still_step
     still_call ((Hsize.out _).mono (fun _ _ h => ⟨h.1, h.2.symm⟩))
     refine wpStill_nil ?_
     change wpList _ _ _ _ _ wr.drew
     have HFd := Lib.hid HF.out.drew
     clear hrun hcx HF
     generalize wr.drew = W at *
     go_wp2_with fail
     refine (put_wrote w2 g none 0 0 S _ p _ _ W rfl rfl hS64 Hp64.out HFd.out.1 (by have := flds_small (i := i) hS64 (Nat.le_of_eq Hat.out) hn; omega)).mono ?_
     rintro e w3 ⟨rfl, h3⟩
     have HF3 : Hid (FldTo w1 w2 w3 g S (atD us) (i + 1)) := Lib.hid (HFd.out.step Hp.out Hg1.out Hm2.out h3)
     clear h3
     go_wp2_with fail
     go_roundg (gk - 1)
     case measure => have := Hil.out; omega
     case rel => exact ⟨i + 1, by have := Hil.out; omega, by go_num, HF3.out⟩
    ·have hi : i = n := by have := Hil.out; omega
     obtain ⟨row, hwr⟩ := HF.out.wr Hat.out hi
     have Hwr := Lib.hid hwr; have Hmr := Lib.hid HF.out.2
     have Hr4' := Lib.hid (Hr4.out.new Hmr.out)
     clear hwr HF hi Hr4
     go_wp2_with fail
     refine (putList_any A4 L c4 _ (uniq us) wr Hr4'.out Hmr.out.size (fun x hx => Hu.out x (uniq_of hx)) (by omega)).mono ?_
     rintro e w3 ⟨v3, rfl, ho3, hm3⟩
     obtain ⟨A3, n3, c3, rfl, Hn3, _, _, _⟩ := own_formN8 ho3
     have hn3 : n3 ≤ 10000010 := by
      have h1 := encV_small (i := L) (l := uniq us) (fun x hx => Hu.out x (uniq_of hx)) (by have := HL.out; omega)
      rw [List.take_of_length_le (by rw [HL.out]; exact Nat.le_refl _)] at h1
      have := Hn3.out
      omega
     have hwr3 : Wr w3 g row (fnum (flds S (atD us))) (flen (flds S (atD us))) := Hwr.out.mod hm3 (fun h => h) (fun _ _ h => h)
     have Ho3 := Lib.hid ho3; have Hwr3 := Lib.hid hwr3; have Hm3 := Lib.hid hm3
     clear ho3 hwr3 hm3
     go_wp2_with fail
     refine (bytes_any g row _ _ w3 Hwr3.out (by have := flds_small (i := n) (l := atD us) hS64 (Nat.le_of_eq Hat.out) hn; rw [List.take_of_length_le (by rw [Hat.out]; exact Nat.le_refl _)] at this; omega)).mono ?_
     rintro e w4 ⟨v4', bs, rfl, hnew, hpk⟩
     obtain ⟨A5, c5, rfl, hr5, hm4⟩ := hnew.rds
     obtain rfl := hpk.packW
     have Hr5 := Lib.hid hr5; have Ho4 := Lib.hid (Ho3.out.mod hm4); have Hm4 := Lib.hid (((Hm1.out.trans Hmr.out (fun _ _ h => h)).trans Hm3.out (fun _ _ h => h)).trans hm4 (fun _ _ h => h))
     have hpl : (packW S (atD us)).length ≤ 8000001 := by rw [packW_len, Hat.out]; have := Nat.mul_le_mul hS64 hn; omega
     have Hone : Hid (∀ u ∈ cells8 (packW S (atD us)), u.oneCell' = true) := Lib.hid (cells8_one _)
     have hR4 : Room (cells8 (enc (uniq us).length ++ encV (uniq us))).length (packW S (atD us)).length := Room.mk _ _ (by rw [cells8_length, Hn3.out]; omega)
     have HR4 := Lib.hid hR4
     have hsz4 : wr.heap.size ≤ w4.heap.size := Nat.le_trans Hm3.out.size hm4.size
     clear hnew hpk hr5 hm4 hR4 hpl
     go_wp2_with (at_builtin; refine wpList_app rfl (.tmp 36) (.tmp 38) _ rfl elt8 rfl Ho4.out rfl Hr5.out Hone.out HR4.out.1 HR4.out.2 hsz4 ?_; intro v5 w5 HO5 HBl5 HG5; clear HG5)
     go_ret2
     have ho5 := HO5.out
     rw [cells8_app, List.append_assoc] at ho5
     rw [encD_cons Hne.out (by rw [HL.out]; omega), HL.out, HS.out]
     rw [HL.out] at ho5
     have hwsz : w.heap.size ≤ wr.heap.size := Nat.le_trans Hm1.out.size Hmr.out.size
     exact ⟨_, rfl, ho5.mono hwsz, Hm4.out.trans (Mod.of_below HBl5.out) (fun i hi h => by omega)⟩
end Go.Proofs.YthgoppmgapaajaaGreatDoor

/- Values are told by their least: Encode. -/
namespace Go.Proofs.YthgoppmgapaajaaGreatDoor
open Go.RowKit

set_option maxHeartbeats 4000000 in
set_option maxRecDepth 100000 in
theorem penc_any (A : Option Addr) (n cap B : Nat) (us : List Nat) (w : World) (hs : Rds w B A n (cellsU us)) (hB : B ≤ w.heap.size) (hu : ∀ x ∈ us, x < 2 ^ 64) (hn : n ≤ 1000000) :
  Calls Tryz.prog 82 #[.slice A n cap] w fun e w' => ∃ v, e = .returned v ∧ Own w.heap.size w' 5 v (cells8 (encP us)) ∧ Mod (fun _ => False) w w' := by
 have hul : us.length = n := by have := hs.1; rwa [cellsU_length] at this
 by_cases h0 : n = 0
 ·subst h0
  obtain rfl := List.eq_nil_of_length_eq_zero hul
  clear hs
  go_enter Tryz.func82, Tryz.ntmps82
  go_wp2_with fail
  go_ret
  exact ⟨_, rfl, Own.nil _ _ _, Mod.refl _ _⟩
 ·have hne : us ≠ [] := by rintro rfl; exact h0 hul.symm
  obtain ⟨L, hL⟩ : ∃ L, loV us = L := ⟨_, rfl⟩
  obtain ⟨H, hH⟩ : ∃ H, hiV us = H := ⟨_, rfl⟩
  have hL64 : L < 2 ^ 64 := by rw [← hL]; exact hu _ (loV_mem hne)
  have hH64 : H < 2 ^ 64 := by rw [← hH]; exact hu _ (hiV_mem hne)
  have hLH : L ≤ H := by rw [← hL, ← hH]; exact Nat.le_trans (loV_le (getD_mem hne)) (hiV_ge (getD_mem hne))
  obtain ⟨d, hd⟩ : ∃ d, d = H - L := ⟨_, rfl⟩
  have hdw : IntKind.u64.wrap ((H : Int) - (L : Int)) = (d : Int) := by rw [IntKind.wrap_u64]; omega
  obtain ⟨S, hS⟩ : ∃ S, wid d = S := ⟨_, rfl⟩
  have hS64 : S ≤ 64 := by rw [← hS]; exact wid_le d
  have HS : Hid (widV us = S) := Lib.hid (by unfold widV; rw [hL, hH, ← hd]; exact hS)
  have hd64 : Lt64 d := by unfold Lt64; omega
  have hL64' : Lt64 L := by unfold Lt64; omega
  have hcS : IntKind.u8.wrap (S : Int) = (S : Int) := by rw [IntKind.wrap_u8']; omega
  have hcS' : (S : Int) % 256 = (S : Int) := by omega
  have hp : 0 < n := by omega
  have hn0 : ((n : Int) == 0) = false := by simp; omega
  have Hs := Lib.hid hs; have Hu := Lib.hid hu; have HB := Lib.hid hB; have Hul := Lib.hid hul; have HL := Lib.hid hL; have HH := Lib.hid hH; have Hd64 := Lib.hid hd64; have HL64 := Lib.hid hL64'; have HSd := Lib.hid hS; have Hne := Lib.hid hne
  clear hs hu hB hul hL hH hd hS hd64 hL64 hL64' hH64 hLH hne
  go_enter Tryz.func82, Tryz.ntmps82
  go_wp2_with fail
  refine (umin_any A n cap B L us w Hs.out HB.out hp hn HL.out).mono ?_
  rintro e w1 ⟨rfl, rfl⟩
  go_wp2_with fail
  refine (umax_any A n cap B H us w Hs.out HB.out hp hn HH.out).mono ?_
  rintro e w1 ⟨rfl, rfl⟩
  go_wp2_with fail
  refine (len64_wid d S w Hd64.out HSd.out).mono ?_
  rintro e w1 ⟨rfl, rfl⟩
  go_wp2_with fail
  refine (newWriter_wr w).mono ?_
  rintro e w1 ⟨g, rfl, hg1, hg2, hwr, hm1⟩
  have Hg1 := Lib.hid hg1; have Hm1 := Lib.hid hm1
  have F0 : Hid (FldTo w w1 w1 g S (difV us) 0) := Lib.hid ⟨Wrote.refl hwr, hm1⟩
  have Hdl : Hid ((difV us).length = n) := Lib.hid (by rw [difV_len]; exact Hul.out)
  clear hg1 hg2 hwr hm1 hdw hn0
  go_wp2_with fail
  go_loopg [22] n (fun l s22 wr => ∃ i : Nat, i + l = n ∧ s22 = .int .i64 (i : Int) ∧ FldTo w w1 wr g S (difV us) i)
  case atStart => exact ⟨0, by omega, rfl, F0.out⟩
  case round =>
   obtain ⟨i, hil, rfl, hF⟩ := hrel
   have HF := Lib.hid hF; have Hil := Lib.hid hil
   clear hF hil F0
   by_cases hin : i < n
   ·obtain ⟨ad, x, rfl, hx, hcx⟩ := Hs.out.at2 hin HB.out HF.out.2 (fun _ _ h => h)
    have hxl := Hu.out x (List.mem_of_getElem? hx)
    have hLx : L ≤ x := by rw [← HL.out]; exact loV_le (List.mem_of_getElem? hx)
    obtain ⟨y, hy⟩ : ∃ y, y = x - L := ⟨_, rfl⟩
    have hyw : IntKind.u64.wrap ((x : Int) - (L : Int)) = (y : Int) := by rw [IntKind.wrap_u64]; omega
    have hy64 : Hid (Lt64 y) := Lib.hid (by unfold Lt64; omega)
    have hyd : Hid ((difV us)[i]? = some y) := Lib.hid (by rw [hy]; exact difV_at hx HL.out)
    have hi1 : (0 : Int) ≤ (i : Int) := by omega
    clear hxl hLx hx hy
    go_wp2_with fail
    refine (put_wrote w1 g none 0 0 S _ y _ _ wr rfl rfl hS64 hy64.out HF.out.1 (by have := flds_small (i := i) hS64 (Nat.le_of_eq Hdl.out) hn; omega)).mono ?_
    rintro e w2 ⟨rfl, h2⟩
    have HF2 : Hid (FldTo w w1 w2 g S (difV us) (i + 1)) := Lib.hid (HF.out.step hyd.out Hg1.out Hm1.out h2)
    clear h2
    go_wp2_with fail
    go_roundg (gk - 1)
    case measure => have := Hil.out; omega
    case rel => exact ⟨i + 1, by have := Hil.out; omega, by go_num, HF2.out⟩
   ·have hi : i = n := by have := Hil.out; omega
    obtain ⟨row, hwr⟩ := HF.out.wr Hdl.out hi
    have Hwr := Lib.hid hwr; have Hmr := Lib.hid HF.out.2
    clear hwr HF hi
    go_wp2_with fail
    refine (vput_any none 0 0 0 [] L wr (Rds.nil _ _ _) (by omega) HL64.out).mono ?_
    rintro e w2 ⟨v2, rfl, ho2, hb2⟩
    rw [List.nil_append] at ho2
    have Ho2 := Lib.hid ho2; have Hb2 := Lib.hid hb2
    have hq := enc_len10 HL64.out.out
    have hR : Room (cells8 (enc L)).length 1 := Room.mk _ _ (by rw [cells8_length]; omega)
    have HR := Lib.hid hR
    have hsz : wr.heap.size ≤ w2.heap.size := hb2.size
    clear ho2 hb2 hR
    go_wp2_with (at_builtin; refine wpList_app1 rfl (.tmp 34) (.tmp 37) _ rfl elt8 rfl Ho2.out rfl rfl rfl HR.out.1 HR.out.2 hsz ?_; intro v3 w3 H1 H2)
    have hbel : Below wr.heap.size wr w3 := Hb2.out.trans H2.out
    have hwr3 : Wr w3 g row (fnum (flds S (difV us))) (flen (flds S (difV us))) := Hwr.out.mod (Mod.of_below hbel) (by have := Hwr.out.lt; omega) (fun k hk h => by have := Hwr.out.row_lt k hk; omega)
    have ho3 : Own wr.heap.size w3 5 v3 (cells8 (enc L ++ [S])) := by rw [cells8_snoc]; exact H1.out
    obtain ⟨A3, n3, c3, rfl, Hn3, _, _, _⟩ := own_formN8 ho3
    have Ho3 := Lib.hid ho3; have Hwr3 := Lib.hid hwr3
    have Hm3 := Lib.hid (Hmr.out.trans (mod_below hbel) (fun _ _ h => h))
    have hsz3 := hbel.size
    clear ho3 hwr3 hbel H1 H2
    go_wp2_with fail
    refine (bytes_any g row _ _ w3 Hwr3.out (by have := flds_small (i := n) (l := difV us) hS64 (Nat.le_of_eq Hdl.out) hn; rw [List.take_of_length_le (by rw [Hdl.out]; exact Nat.le_refl _)] at this; omega)).mono ?_
    rintro e w4 ⟨v4, bs, rfl, hnew, hpk⟩
    obtain ⟨A4, c4, rfl, hr4, hm4⟩ := hnew.rds
    obtain rfl := hpk.packW
    have Hr4 := Lib.hid hr4; have Ho4 := Lib.hid (Ho3.out.mod hm4); have Hm4 := Lib.hid (Hm3.out.trans hm4 (fun _ _ h => h))
    have hpl : (packW S (difV us)).length ≤ 8000001 := by rw [packW_len, Hdl.out]; have := Nat.mul_le_mul hS64 hn; omega
    have Hone : Hid (∀ u ∈ cells8 (packW S (difV us)), u.oneCell' = true) := Lib.hid (cells8_one _)
    have hR4 : Room (cells8 (enc L ++ [S])).length (packW S (difV us)).length := Room.mk _ _ (by rw [cells8_length, List.length_append, List.length_singleton]; omega)
    have HR4 := Lib.hid hR4
    have hsz4 : wr.heap.size ≤ w4.heap.size := Nat.le_trans hsz3 hm4.size
    clear hnew hpk hr4 hm4 hR4 hpl
    go_wp2_with (at_builtin; refine wpList_app rfl (.tmp 39) (.tmp 41) _ rfl elt8 rfl Ho4.out rfl Hr4.out Hone.out HR4.out.1 HR4.out.2 hsz4 ?_; intro v5 w5 HO5 HBl5 HG5; clear HG5)
    go_ret
    have ho5 := HO5.out
    rw [cells8_app, List.append_assoc] at ho5
    have e : encP us = enc L ++ (S :: packW S (difV us)) := by rw [encP_cons Hne.out, HL.out, HS.out]
    rw [e]
    exact ⟨_, rfl, ho5.mono Hmr.out.size, Hm4.out.trans (Mod.of_below HBl5.out) (fun i hi h => by have := Hmr.out.size; omega)⟩
end Go.Proofs.YthgoppmgapaajaaGreatDoor

/- How many 0s a number has ahead and behind, as math/bits tells it; the window's own calls. -/
namespace Go.Proofs.YthgoppmgapaajaaGreatDoor
open Go.RowKit

/-- The lowest 1 of a number. -/
theorem low_one {x b z : Nat} (hx : x = 2 ^ (b + 1) * z + 2 ^ b) (h : x < 2 ^ 64) : x &&& (2 ^ 64 - x) = 2 ^ b := by
 have h0 : 0 < x := by have := Nat.two_pow_pos b; omega
 have e1 : 2 ^ 64 - x = 2 ^ 64 - ((x - 1) + 1) := by omega
 have hlt : 2 ^ b < 2 ^ (b + 1) := Nat.pow_lt_pow_right (by decide) (by omega)
 have e2 : x - 1 = 2 ^ (b + 1) * z + (2 ^ b - 1) := by have := Nat.two_pow_pos b; omega
 have hb : b < 64 := by
  have : 2 ^ b < 2 ^ 64 := by omega
  exact (Nat.pow_lt_pow_iff_right (by omega)).1 this
 apply Nat.eq_of_testBit_eq
 intro i
 rw [Nat.testBit_and, e1, Nat.testBit_two_pow_sub_succ (by omega), e2, Nat.testBit_two_pow]
 rw [Nat.testBit_two_pow_mul_add z (by omega), show x.testBit i = (2 ^ (b + 1) * z + 2 ^ b).testBit i by rw [hx], Nat.testBit_two_pow_mul_add z hlt]
 by_cases hi : i < b + 1
 ·rw [if_pos hi, if_pos hi, Nat.testBit_two_pow, Nat.testBit_two_pow_sub_one]
  by_cases hib : b = i
  ·subst hib; simp; omega
  ·simp [hib]
 ·rw [if_neg hi, if_neg hi]
  have : ¬ b = i := by omega
  simp only [this, decide_false]
  cases z.testBit (i - (b + 1)) <;> simp
theorem behind_form {x : Nat} (h0 : 0 < x) (hx : x < 2 ^ 64) : behindN x ≤ 63 ∧ ∃ z, x = 2 ^ (behindN x + 1) * z + 2 ^ behindN x := by
 obtain ⟨h1, h2⟩ := behind_spec h0 hx
 refine ⟨by have := sum_le h0 hx; omega, x / 2 ^ behindN x / 2, ?_⟩
 have e := Nat.div_mul_cancel h1
 have e2 : x / 2 ^ behindN x = 2 * (x / 2 ^ behindN x / 2) + 1 := by omega
 generalize x / 2 ^ behindN x / 2 = z at *
 rw [e2] at e
 generalize behindN x = b at *
 rw [← e, Nat.pow_succ, Nat.add_mul, Nat.one_mul, Nat.mul_comm (2 * z), ← Nat.mul_assoc]
/-- The table of math/bits. -/
def deb (t : Nat) : Nat := ([0, 1, 56, 2, 57, 49, 28, 3, 61, 58, 42, 50, 38, 29, 17, 4, 62, 47, 59, 36, 45, 43, 51, 22, 53, 39, 33, 30, 24, 18, 12, 5, 63, 55, 48, 27, 60, 41, 37, 16, 46, 35, 44, 21, 52, 32, 23, 11, 54, 26, 40, 15, 34, 20, 31, 10, 25, 14, 19, 9, 13, 8, 7, 6] : List Nat).getD t 0
def spot (b : Nat) : Nat := 2 ^ b * 285870213051353865 % 18446744073709551616 / 288230376151711744
theorem spot_lt (b : Nat) : spot b < 64 := by
 unfold spot
 have := Nat.mod_lt (2 ^ b * 285870213051353865) (show 18446744073709551616 > 0 by decide)
 rw [Nat.div_lt_iff_lt_mul (by decide)]
 exact Nat.lt_of_lt_of_le this (by decide)
theorem deb_all : ∀ b : Fin 64, deb (spot b.val) = b.val := by decide +kernel
theorem deb_spot {b : Nat} (h : b ≤ 63) : deb (spot b) = b := deb_all ⟨b, by omega⟩
def Deb (w : World) : Prop := 2 < w.heap.size ∧ ∀ t, t < 64 → w.cell? ⟨2, t, none⟩ = some (.int .u8 (deb t : Int))
theorem Deb.mod {w w' : World} {S : Nat → Prop} (h : Deb w) (hm : Mod S w w') (hS : ¬ S 2) : Deb w' :=
 ⟨Nat.lt_of_lt_of_le h.1 hm.size, fun t ht => (hm.cell (a := ⟨2, t, none⟩) h.1 hS).trans (h.2 t ht)⟩

theorem ahead_len {x : Nat} (hx : x < 2 ^ 64) : min (64 - Lib.bitLen x) 31 = aheadN x ∧ Lib.bitLen x ≤ 64 := by
 obtain ⟨h1, h2, h3⟩ := ahead_spec hx
 have hl := Lib.bitLen_le x (64 - aheadN x) (by omega) h2
 refine ⟨?_, by omega⟩
 rcases Nat.lt_or_ge (aheadN x) 31 with h | h
 ·have h4 := h3 h
  have h5 := Lib.bitLen_shift (63 - aheadN x) x h4 hx
  have h6 : x / 2 ^ (63 - aheadN x) = 1 := by
   have : x < 2 ^ (63 - aheadN x) * 2 := by rw [← Nat.pow_succ, show (63 - aheadN x).succ = 64 - aheadN x by omega]; exact h2
   have hp := Nat.two_pow_pos (63 - aheadN x)
   have a1 : 1 ≤ x / 2 ^ (63 - aheadN x) := (Nat.le_div_iff_mul_le hp).2 (by omega)
   have a2 : x / 2 ^ (63 - aheadN x) < 2 := (Nat.div_lt_iff_lt_mul hp).2 (by omega)
   omega
  rw [h6] at h5
  have h7 : Lib.bitLen 1 = 1 := by decide +kernel
  omega
 ·omega
theorem lead_any (x : Nat) (w : World) (hx : Lt64 x) : Calls Tryz.prog 130 #[.int .u64 (x : Int)] w fun e w' => e = .returned (.int .i64 (64 - (Lib.bitLen x : Int))) ∧ w = w' := by
 have hl : Lib.bitLen x ≤ 64 := (ahead_len hx.out).2
 obtain ⟨L, hL⟩ : ∃ L, L = Lib.bitLen x := ⟨_, rfl⟩
 have HL := Lib.hid hL
 rw [← hL] at hl ⊢
 clear hL
 go_enter Tryz.func130, Tryz.ntmps130
 go_wp2_with fail
 refine (len64_any x _ hx).mono ?_
 rintro e w' ⟨rfl, rfl⟩
 rw [← HL.out]
 go_wp2_with fail
 go_ret
 exact ⟨rfl, rfl⟩
set_option maxHeartbeats 1000000 in
theorem trail_any (x : Nat) (w : World) (h0 : 0 < x) (hx : Lt64 x) (hd : Deb w) : Calls Tryz.prog 131 #[.int .u64 (x : Int)] w fun e w' => e = .returned (.int .i64 (behindN x : Int)) ∧ w = w' := by
 obtain ⟨hb, z, hz⟩ := behind_form h0 hx.out
 have hlow := low_one hz hx.out
 obtain ⟨b, hbe⟩ : ∃ b, b = behindN x := ⟨_, rfl⟩
 rw [← hbe] at hb hlow ⊢
 have hx0 : ((x : Int) == 0) = false := by simp; omega
 obtain ⟨nx, hnx⟩ : ∃ nx : Nat, nx = 2 ^ 64 - x := ⟨_, rfl⟩
 have hneg : IntKind.u64.wrap (-(x : Int)) = (nx : Int) := by rw [IntKind.wrap_u64, hnx]; have := hx.out; omega
 obtain ⟨p, hp⟩ : ∃ p : Nat, p = 2 ^ b := ⟨_, rfl⟩
 have hand : bits .and .u64 (x : Int) (nx : Int) = (p : Int) := by
  rw [u64_and_nat x nx hx.out (by rw [hnx]; omega), hnx, hlow, hp]
 obtain ⟨q, hq⟩ : ∃ q : Nat, q = 2 ^ b * 285870213051353865 % 18446744073709551616 := ⟨_, rfl⟩
 have hmul : IntKind.u64.wrap ((p : Int) * 285870213051353865) = (q : Int) := by rw [IntKind.wrap_u64, hq, hp]; omega
 obtain ⟨t, ht⟩ : ∃ t : Nat, t = spot b := ⟨_, rfl⟩
 have hdiv : (q : Int) / 288230376151711744 = (t : Int) := by
  have e : t = q / 288230376151711744 := by rw [ht, hq]; rfl
  rw [e]; omega
 have ht64 : t < 64 := by rw [ht]; exact spot_lt b
 have hcell := hd.2 t ht64
 have hdt : deb t = b := by rw [ht]; exact deb_spot hb
 rw [hdt] at hcell
 have ht0 : (0 : Int) ≤ (t : Int) := by omega
 have ht1 : (t : Int) < 64 := by omega
 have Hx := Lib.hid hx; have Hd := Lib.hid hd
 clear hlow hbe hnx hp hq ht hdt hz hx hd
 go_enter Tryz.func131, Tryz.ntmps131
 go_wp2
 go_ret
 exact ⟨rfl, rfl⟩

/-- A window, as the code has it. -/
def winV : Option (Nat × Nat) → Value
 | none => .agg #[.int .i64 0, .int .i64 0]
 | some (a, b) => .agg #[.int .i64 (a : Int), .int .i64 ((64 - a - b : Nat) : Int)]
def winA : Option (Nat × Nat) → Nat
 | none => 0
 | some (a, _) => a
def winS : Option (Nat × Nat) → Nat
 | none => 0
 | some (a, b) => 64 - a - b
theorem winV_eq (win : Option (Nat × Nat)) : winV win = .agg #[.int .i64 (winA win : Int), .int .i64 (winS win : Int)] := by
 cases win with
 | none => rfl
 | some p => rfl
theorem win_bounds {win : Option (Nat × Nat)} (h : WinOk win) : winA win ≤ 31 ∧ winS win ≤ 64 ∧ winA win + winS win ≤ 64 := by
 cases win with
 | none => exact ⟨Nat.zero_le _, Nat.zero_le _, Nat.zero_le _⟩
 | some p =>
  obtain ⟨a, b⟩ := p
  obtain ⟨h1, h2⟩ := h
  refine ⟨h1, ?_, ?_⟩
  ·show 64 - a - b ≤ 64; omega
  ·show a + (64 - a - b) ≤ 64; omega
theorem win_inj {u v : Option (Nat × Nat)} (hu : WinOk u) (hv : WinOk v) (h1 : winA u = winA v) (h2 : winS u = winS v) : u = v := by
 cases u with
 | none =>
  cases v with
  | none => rfl
  | some p =>
   obtain ⟨a, b⟩ := p
   obtain ⟨w1, w2⟩ := hv
   have h3 : 0 = 64 - a - b := h2
   omega
 | some p =>
  obtain ⟨a, b⟩ := p
  obtain ⟨w1, w2⟩ := hu
  cases v with
  | none =>
   have h3 : 64 - a - b = 0 := h2
   omega
  | some q =>
   obtain ⟨a', b'⟩ := q
   obtain ⟨w3, w4⟩ := hv
   have h3 : 64 - a - b = 64 - a' - b' := h2
   have h4 : a = a' := h1
   have h5 : b = b' := by omega
   rw [h4, h5]
set_option maxHeartbeats 1000000 in
theorem behind_any (a s : Nat) (w : World) (ha : a ≤ 64) (hs : s ≤ 64) : Calls Tryz.prog 114 #[.agg #[.int .i64 (a : Int), .int .i64 (s : Int)]] w fun e w' => e = .returned (.int .i64 (64 - (a : Int) - (s : Int))) ∧ Mod (fun _ => False) w w' := by
 go_enter Tryz.func114, Tryz.ntmps114
 go_wp2
 go_ret
 exact ⟨rfl, (Mod.refl _ _).alloc _⟩
set_option maxHeartbeats 1000000 in
theorem next_any (win : Option (Nat × Nat)) (x : Nat) (w : World) (hw : WinOk win) (h0 : x ≠ 0) (hx : Lt64 x) (hd : Deb w) : Calls Tryz.prog 113 #[.agg #[.int .i64 (winA win : Int), .int .i64 (winS win : Int)], .int .u64 (x : Int)] w fun e w' => e = .returned (winV (winX win x)) ∧ Mod (fun _ => False) w w' := by
 have Hw := Lib.hid hw; have Hx := Lib.hid hx; have Hd := Lib.hid hd
 obtain ⟨hb1, hb2, hb3⟩ := win_bounds hw
 obtain ⟨hla, hll⟩ := ahead_len hx.out
 obtain ⟨hbb, _⟩ := behind_form (by omega) hx.out
 have hal := (ahead_spec hx.out).1
 obtain ⟨A, hA⟩ : ∃ A, A = winA win := ⟨_, rfl⟩
 obtain ⟨S, hS⟩ : ∃ S, S = winS win := ⟨_, rfl⟩
 obtain ⟨L, hL⟩ : ∃ L, L = Lib.bitLen x := ⟨_, rfl⟩
 obtain ⟨ah, hah⟩ : ∃ ah, ah = aheadN x := ⟨_, rfl⟩
 obtain ⟨be, hbe⟩ : ∃ be, be = behindN x := ⟨_, rfl⟩
 have hmn := minI_is (P := Tryz.prog) (t := 3) (ty := 3) (show min (64 - (L : Int)) 31 = (ah : Int) by rw [← hL] at hla; omega)
 have HA := Lib.hid hA; have HS := Lib.hid hS; have HL := Lib.hid hL; have Hah := Lib.hid hah; have Hbe := Lib.hid hbe
 rw [← hA] at hb1 hb3
 rw [← hS] at hb2 hb3
 rw [← hah] at hal
 rw [← hbe] at hbb
 rw [← hA, ← hS]
 obtain ⟨W, hW⟩ : ∃ W, W = (w.alloc (.cells #[.int .i64 (A : Int), .int .i64 (S : Int)] 124)).alloc (.cells #[.int .i64 0, .int .i64 0] 124) := ⟨_, rfl⟩
 have HW := Lib.hid hW
 have hmW : Mod (fun _ => False) w W := by rw [hW]; exact ((Mod.refl _ _).alloc _).alloc _
 have hbo : Blk W w.heap.size 124 #[.int .i64 (A : Int), .int .i64 (S : Int)] := by rw [hW]; exact (Blk.new _ _ _).alloc _
 have hbr : Blk W (w.heap.size + 1) 124 #[.int .i64 0, .int .i64 0] := by
  have h := Blk.new (w.alloc (.cells #[.int .i64 (A : Int), .int .i64 (S : Int)] 124)) 124 #[.int .i64 0, .int .i64 0]
  rw [hW]
  simpa using h
 have HmW := Lib.hid hmW; have Hbo := Lib.hid hbo; have Hbr := Lib.hid hbr
 clear hw hx hd hA hS hL hah hbe hla hll hW hmW hbo hbr
 go_enter Tryz.func113, Tryz.ntmps113
 go_wp2_with fail
 refine (lead_any x _ Hx.out).mono ?_
 rintro e w1 ⟨rfl, rfl⟩
 rw [← HL.out]
 go_wp2_with fail
 rw [← HW.out]
 refine (trail_any x _ (by omega) Hx.out (Hd.out.mod HmW.out (fun h => h))).mono ?_
 rintro e w1 ⟨rfl, rfl⟩
 rw [← Hbe.out]
 clear hmn
 have hc0 := Hbo.out.cell 0
 have hc1 := Hbo.out.cell 1
 have hf0 := Hbr.out.frozen 0
 have hf1 := Hbr.out.frozen 1
 have hd0 := Hbr.out.cell 0
 have hd1 := Hbr.out.cell 1
 simp at hc0 hc1 hd0 hd1
 have hfit : fitsX win x = true ↔ (win ≠ none ∧ A ≤ ah ∧ 64 - A - S ≤ be) := by
  rw [HA.out, HS.out, Hah.out, Hbe.out]
  cases win with
  | none => exact ⟨fun h => (by cases h), fun h => absurd rfl h.1⟩
  | some p =>
   obtain ⟨a, b⟩ := p
   obtain ⟨w1, w2⟩ := Hw.out
   show decide _ = true ↔ _
   rw [decide_eq_true_iff]
   show (a ≤ aheadN x ∧ b ≤ behindN x) ↔ (_ ∧ a ≤ aheadN x ∧ 64 - a - (64 - a - b) ≤ behindN x)
   rw [show 64 - a - (64 - a - b) = b by omega]
   exact ⟨fun h => ⟨fun h => (by cases h), h⟩, fun h => h.2⟩
 have hnone : win = none → 64 - A - S = 64 := by
  intro h
  have h1 := HA.out; have h2 := HS.out
  rw [h] at h1 h2
  have h3 : A = 0 := h1
  have h4 : S = 0 := h2
  omega
 have hwin : (A ≤ ah ∧ 64 - A - S ≤ be → winX win x = win) ∧ (¬ (A ≤ ah ∧ 64 - A - S ≤ be) → winX win x = some (ah, be)) := by
  unfold winX
  rw [if_neg h0]
  refine ⟨fun h => ?_, fun h => ?_⟩
  ·rw [if_pos (hfit.2 ⟨fun e => by have := hnone e; omega, h.1, h.2⟩)]
  ·rw [if_neg (fun hf => h (hfit.1 hf).2), Hah.out, Hbe.out]
 have Hwin := Lib.hid hwin
 have hsum := sum_le (by omega) Hx.out
 rw [← Hah.out, ← Hbe.out] at hsum
 clear hfit hnone hwin
 by_cases h1 : A ≤ ah
 ·have h1' : (A : Int) ≤ (ah : Int) := by omega
  go_wp2_with fail
  refine (behind_any A S _ (by omega) (by omega)).mono ?_
  rintro e w2 ⟨rfl, hm2⟩
  have hbo2 := hm2.blk Hbo.out (fun h => h)
  have hbr2 := hm2.blk Hbr.out (fun h => h)
  have hm02 := HmW.out.trans hm2 (fun _ _ h => h)
  have Hm2 := Lib.hid hm02; have Hbr2 := Lib.hid hbr2
  clear hc0 hc1 hd0 hd1 hf0 hf1 hm2 hm02
  have hc0 := hbo2.cell 0
  have hc1 := hbo2.cell 1
  have hf0 := hbr2.frozen 0
  have hf1 := hbr2.frozen 1
  have hd0 := hbr2.cell 0
  have hd1 := hbr2.cell 1
  simp at hc0 hc1 hd0 hd1
  clear hbo2 hbr2
  by_cases h2 : 64 - A - S ≤ be
  ·have h2' : 64 - (A : Int) - (S : Int) ≤ (be : Int) := by omega
   go_wp2_with fail
   refine bodyPost_ret (v := .agg #[.int .i64 (A : Int), .int .i64 (S : Int)]) (by have h := Hbr2.out.two (.int .i64 (A : Int)) (.int .i64 (S : Int)); simp [results, Tryz.results113, go_sem, h.1, h.2.1]) rfl ⟨?_, ?_⟩
   ·rw [Hwin.out.1 ⟨h1, h2⟩, winV_eq, ← HA.out, ← HS.out]
   ·exact (Hm2.out.setCell (fun h => absurd h (by simp)) _).setCell (fun h => absurd h (by simp)) _
  ·have h2' : ¬ 64 - (A : Int) - (S : Int) ≤ (be : Int) := by omega
   go_wp2_with fail
   refine bodyPost_ret (v := .agg #[.int .i64 (ah : Int), .int .i64 (64 - (ah : Int) - (be : Int))]) (by have h := Hbr2.out.two (.int .i64 (ah : Int)) (.int .i64 (64 - (ah : Int) - (be : Int))); simp [results, Tryz.results113, go_sem, h.1, h.2.1]) rfl ⟨?_, ?_⟩
   ·rw [Hwin.out.2 (fun h => h2 h.2)]
    show _ = Ending.returned (.agg #[.int .i64 (ah : Int), .int .i64 ((64 - ah - be : Nat) : Int)])
    rw [show ((64 - ah - be : Nat) : Int) = 64 - (ah : Int) - (be : Int) by omega]
   ·exact (Hm2.out.setCell (fun h => absurd h (by simp)) _).setCell (fun h => absurd h (by simp)) _
 ·have h1' : ¬ (A : Int) ≤ (ah : Int) := by omega
  go_wp2_with fail
  refine bodyPost_ret (v := .agg #[.int .i64 (ah : Int), .int .i64 (64 - (ah : Int) - (be : Int))]) (by have h := Hbr.out.two (.int .i64 (ah : Int)) (.int .i64 (64 - (ah : Int) - (be : Int))); simp [results, Tryz.results113, go_sem, h.1, h.2.1]) rfl ⟨?_, ?_⟩
  ·rw [Hwin.out.2 (fun h => h1 h.1)]
   show _ = Ending.returned (.agg #[.int .i64 (ah : Int), .int .i64 ((64 - ah - be : Nat) : Int)])
   rw [show ((64 - ah - be : Nat) : Int) = 64 - (ah : Int) - (be : Int) by omega]
  ·exact (HmW.out.setCell (fun h => absurd h (by simp)) _).setCell (fun h => absurd h (by simp)) _
end Go.Proofs.YthgoppmgapaajaaGreatDoor

/- A turn, and rows of values, are told: put, Encode. -/
namespace Go.Proofs.YthgoppmgapaajaaGreatDoor
open Go.RowKit

theorem Wr.row_ne {w : World} {g b N len : Nat} {row : Option Nat} {t : TypeId} {cs : Array Value} (h : Wr w g row N len) (hb : Blk w b t cs) (ht : 5 ≠ t) : row ≠ some b := by
 obtain ⟨free, _, v, bs, hblk, hown, hrow, _⟩ := h
 rw [← hrow]
 exact own_blk_ne hown hb ht
/-- What stood in blocks that hold no bytes stands there still. -/
def Kept (g : Nat) (w w' : World) : Prop := ∀ (b : Nat) (t : TypeId) (cs : Array Value), Blk w b t cs → 5 ≠ t → b ≠ g → Blk w' b t cs
/-- Put adds one field, and leaves what holds no bytes. -/
theorem put_kept (w0 : World) (g : Nat) (row : Option Nat) (N len k : Nat) (fs : List (Nat × Nat)) (v : Nat) (V n : Int) (w : World) (hV : V = (v : Int)) (hn : n = (k : Int)) (hk : k ≤ 64) (hv : Lt64 v) (hw : Wrote w0 w g row N len fs) (hlen : len + flen fs ≤ 1000000000) :
  Calls Tryz.prog 91 #[.pointer (some ⟨g, 0, none⟩), .int .u64 V, .int .i64 n] w fun e w' => e = .returned (.tuple #[]) ∧ Wrote w0 w' g row N len (fs ++ [(v, k)]) ∧ Kept g w w' := by
 subst hV hn
 obtain ⟨row', a1, a2, a3⟩ := hw
 have hv' := hv.out
 refine (put_wr g row' _ _ k (v : Int) (k : Int) w ⟨by omega, by omega⟩ ⟨by omega, by omega⟩ (by omega) a1 hlen).mono ?_
 rintro e w' ⟨rfl, row2, b1, b2, b3⟩
 refine ⟨rfl, ⟨row2, ?_, a2.more a3 b2, a3.two a2.size b3⟩, fun b t cs hb ht hbg => b2.blk hb (fun h => h.elim hbg (a1.row_ne hb ht))⟩
 rw [Int.toNat_natCast] at b1
 have e1 : N * 2 ^ flen (fs ++ [(v, k)]) + fnum (fs ++ [(v, k)]) = (N * 2 ^ flen fs + fnum fs) * 2 ^ k + v % 2 ^ k := by
  rw [← num_snoc]
  show _ * 2 ^ (k + 0) + (v % 2 ^ k * 2 ^ 0 + 0) = _
  rw [Nat.add_zero, Nat.pow_zero, Nat.mul_one, Nat.add_zero]
 have e2 : len + flen (fs ++ [(v, k)]) = len + flen fs + k := by
  rw [flen_app]
  show len + (flen fs + (k + 0)) = _
  omega
 rw [e1, e2]
 exact b1
/-- What makes memory alone. -/
theorem Wrote.new {w0 w w' : World} {g N len : Nat} {row : Option Nat} {fs : List (Nat × Nat)} (h : Wrote w0 w g row N len fs) (hm : Mod (fun _ => False) w w') : Wrote w0 w' g row N len fs := by
 obtain ⟨row', a1, a2, a3⟩ := h
 exact ⟨row', a1.mod hm (fun h => h) (fun _ _ h => h), a2.trans hm (fun _ _ h => h.elim), a3⟩
/-- A cell of a block of its own is turned. -/
theorem Wrote.cell {w0 w w' : World} {g b N len : Nat} {row : Option Nat} {fs : List (Nat × Nat)} {t : TypeId} {cs : Array Value} (h : Wrote w0 w g row N len fs) (hm : Mod (fun i => i = b) w w') (hb : Blk w b t cs) (ht : 5 ≠ t) (hbg : b ≠ g) (h0 : w0.heap.size ≤ b) : Wrote w0 w' g row N len fs := by
 obtain ⟨row', a1, a2, a3⟩ := h
 refine ⟨row', a1.mod hm (fun e => hbg e.symm) (fun k hk e => a1.row_ne hb ht (e ▸ hk)), a2.trans hm (fun i hi e => ?_), a3⟩
 omega
theorem Wrote.deb {w0 w : World} {g N len : Nat} {row : Option Nat} {fs : List (Nat × Nat)} (h : Wrote w0 w g row N len fs) (hw : Deb w0) (hg : g ≠ 2) (hr : row ≠ some 2) : Deb w := by
 obtain ⟨row', a1, a2, a3⟩ := h
 exact hw.mod a2 (fun h => h.elim (fun e => hg e.symm) hr)
theorem Wrote.lt {w0 w : World} {g N len : Nat} {row : Option Nat} {fs : List (Nat × Nat)} (h : Wrote w0 w g row N len fs) : g < w.heap.size ∧ w0.heap.size ≤ w.heap.size := by
 obtain ⟨row', a1, a2, a3⟩ := h
 exact ⟨a1.lt, a2.size⟩
theorem behind_at (a s b : Nat) (w : World) (h : a + s + b = 64) : Calls Tryz.prog 114 #[.agg #[.int .i64 (a : Int), .int .i64 (s : Int)]] w fun e w' => e = .returned (.int .i64 (b : Int)) ∧ Mod (fun _ => False) w w' := by
 refine (behind_any a s w (by omega) (by omega)).mono ?_
 rintro e w' ⟨rfl, hm⟩
 exact ⟨ret_int (by omega), hm⟩
theorem winX_some {win : Option (Nat × Nat)} {x : Nat} (hw : WinOk win) (h0 : x ≠ 0) (hx : x < 2 ^ 64) : ∃ a b, winX win x = some (a, b) ∧ a ≤ 31 ∧ a + b ≤ 63 ∧ ((win = some (a, b) ∧ fieldsX win x = [(1, 1), (0, 1), (x / 2 ^ b, 64 - a - b)]) ∨ ((winA win ≠ a ∨ winS win ≠ 64 - a - b) ∧ fieldsX win x = [(1, 1), (1, 1), (a, 5), (63 - a - b, 6), (x / 2 ^ b, 64 - a - b)])) := by
 have hok := winX_ok hw hx
 by_cases hf : fitsX win x = true
 ·cases win with
  | none => cases hf
  | some p =>
   obtain ⟨a, b⟩ := p
   refine ⟨a, b, by unfold winX; rw [if_neg h0, if_pos hf], hw.1, hw.2, .inl ⟨rfl, ?_⟩⟩
   unfold fieldsX
   rw [if_neg h0, if_pos hf]
   rfl
 ·have e : winX win x = some (aheadN x, behindN x) := by unfold winX; rw [if_neg h0, if_neg hf]
  rw [e] at hok
  refine ⟨_, _, e, hok.1, hok.2, .inr ⟨?_, ?_⟩⟩
  ·rcases Nat.decEq (winA win) (aheadN x) with h | h
   ·exact .inl h
   ·rcases Nat.decEq (winS win) (64 - aheadN x - behindN x) with h2 | h2
    ·exact .inr h2
    ·exfalso
     have := win_inj hw hok h h2
     rw [this] at hf
     exact hf (decide_eq_true ⟨Nat.le_refl _, Nat.le_refl _⟩)
  ·unfold fieldsX
   rw [if_neg h0, if_neg hf]
   rfl
set_option maxHeartbeats 4000000 in
set_option maxRecDepth 100000 in
theorem xput_wrote (w0 : World) (g : Nat) (row : Option Nat) (N len : Nat) (fs : List (Nat × Nat)) (x : Nat) (win : Option (Nat × Nat)) (w : World) (hwin : WinOk win) (hx : Lt64 x) (hw : Wrote w0 w g row N len fs) (hlen : len + flen fs ≤ 900000000) (hdeb : Deb w0) (hg : g ≠ 2) (hr : row ≠ some 2) :
  Calls Tryz.prog 92 #[.pointer (some ⟨g, 0, none⟩), .int .u64 (x : Int), .agg #[.int .i64 (winA win : Int), .int .i64 (winS win : Int)]] w fun e w' => e = .returned (winV (winX win x)) ∧ Wrote w0 w' g row N len (fs ++ fieldsX win x) ∧ Kept g w w' := by
 have Hwin := Lib.hid hwin; have Hx := Lib.hid hx; have Hw := Lib.hid hw; have Hdeb := Lib.hid hdeb; have Hg := Lib.hid hg; have Hr := Lib.hid hr
 obtain ⟨A, hA⟩ : ∃ A, A = winA win := ⟨_, rfl⟩
 obtain ⟨S, hS⟩ : ∃ S, S = winS win := ⟨_, rfl⟩
 obtain ⟨hb1, hb2, hb3⟩ := win_bounds hwin
 rw [← hA] at hb1 hb3
 rw [← hS] at hb2 hb3
 rw [← hA, ← hS]
 obtain ⟨W, hW⟩ : ∃ W, W = (w.alloc (.cells #[.int .i64 (A : Int), .int .i64 (S : Int)] 124)).alloc (.cells #[.int .i64 0, .int .i64 0] 124) := ⟨_, rfl⟩
 have hmW : Mod (fun _ => False) w W := by rw [hW]; exact ((Mod.refl _ _).alloc _).alloc _
 have hbo : Blk W w.heap.size 124 #[.int .i64 (A : Int), .int .i64 (S : Int)] := by rw [hW]; exact (Blk.new _ _ _).alloc _
 have hbr : Blk W (w.heap.size + 1) 124 #[.int .i64 0, .int .i64 0] := by
  have h := Blk.new (w.alloc (.cells #[.int .i64 (A : Int), .int .i64 (S : Int)] 124)) 124 #[.int .i64 0, .int .i64 0]
  rw [hW]
  simpa using h
 have hgl := hw.lt
 have HW := Lib.hid hW; have HmW := Lib.hid hmW; have Hbo := Lib.hid hbo; have Hbr := Lib.hid hbr; have HwW := Lib.hid (hw.new hmW); have HA := Lib.hid hA; have HS := Lib.hid hS
 have Hgl : Hid (w.heap.size ≠ g ∧ w.heap.size + 1 ≠ g ∧ w0.heap.size ≤ w.heap.size) := Lib.hid ⟨by omega, by omega, by omega⟩
 clear hwin hx hw hdeb hg hr hW hmW hbo hbr hgl Hw hA hS
 by_cases hx0 : x = 0
 ·subst hx0
  go_enter Tryz.func92, Tryz.ntmps92
  go_wp2_with fail
  rw [← HW.out]
  refine (put_kept w0 g row N len 1 fs 0 0 1 _ rfl rfl (by omega) (show (0 : Nat) < 18446744073709551616 by decide) HwW.out (by omega)).mono ?_
  rintro e w1 ⟨rfl, h1, hk1⟩
  have hbo1 := hk1 _ _ _ Hbo.out (by decide) Hgl.out.1
  have hbr1 := hk1 _ _ _ Hbr.out (by decide) Hgl.out.2.1
  have hc0 := hbo1.cell 0
  have hc1 := hbo1.cell 1
  have hf0 := hbr1.frozen 0
  have hf1 := hbr1.frozen 1
  have hd0 := hbr1.cell 0
  have hd1 := hbr1.cell 1
  simp at hc0 hc1 hd0 hd1
  have H1 := Lib.hid h1; have Hbr1 := Lib.hid hbr1; have Hk1 := Lib.hid hk1
  clear h1 hbo1 hbr1 hk1
  go_wp2_with fail
  refine bodyPost_ret (v := .agg #[.int .i64 (A : Int), .int .i64 (S : Int)]) (by have h := Hbr1.out.two (.int .i64 (A : Int)) (.int .i64 (S : Int)); simp [results, Tryz.results92, go_sem, h.1, h.2.1]) rfl ⟨?_, ?_, ?_⟩
  ·rw [winV_eq, HA.out, HS.out]; rfl
  ·exact H1.out.cell (b := w.heap.size + 1) (((Mod.refl (fun i => i = w.heap.size + 1) _).setCell (p := ⟨w.heap.size + 1, 0, none⟩) (fun _ => rfl) _).setCell (p := ⟨w.heap.size + 1, 1, none⟩) (fun _ => rfl) _) Hbr1.out (by decide) Hgl.out.2.1 (by have := Hgl.out.2.2; omega)
  ·intro b t cs hb ht hbg
   have hbl := hb.lt
   have h2 := Hk1.out b t cs (HmW.out.blk hb (fun h => h)) ht hbg
   exact (h2.far (p := ⟨w.heap.size + 1, 0, none⟩) (by simp; omega) _).far (p := ⟨w.heap.size + 1, 1, none⟩) (by simp; omega) _
 ·have hx0b : ((x : Int) == 0) = false := by simp; omega
  obtain ⟨a, b, hwx, ha, hab, hcase⟩ := winX_some Hwin.out hx0 Hx.out
  obtain ⟨s, hs⟩ : ∃ s, s = 64 - a - b := ⟨_, rfl⟩
  have hasb : a + s + b = 64 := by omega
  have hnv : winV (winX win x) = .agg #[.int .i64 (a : Int), .int .i64 (s : Int)] := by rw [hwx, hs]; rfl
  have Hwx := Lib.hid hwx; have Hs := Lib.hid hs; have Hcase := Lib.hid hcase; have Hnv := Lib.hid hnv
  clear hwx hs hcase hnv
  go_enter Tryz.func92, Tryz.ntmps92
  go_wp2_with fail
  rw [← HW.out]
  refine (put_kept w0 g row N len 1 fs 1 1 1 _ rfl rfl (by omega) (show (1 : Nat) < 18446744073709551616 by decide) HwW.out (by omega)).mono ?_
  rintro e w1 ⟨rfl, h1, hk1⟩
  have hbo1 := hk1 _ _ _ Hbo.out (by decide) Hgl.out.1
  have hbr1 := hk1 _ _ _ Hbr.out (by decide) Hgl.out.2.1
  have hc0 := hbo1.cell 0
  have hc1 := hbo1.cell 1
  simp at hc0 hc1
  have H1 := Lib.hid h1; have Hbo1 := Lib.hid hbo1; have Hbr1 := Lib.hid hbr1; have Hk1 := Lib.hid hk1
  clear h1 hbo1 hbr1 hk1
  go_wp2_with fail
  rw [HA.out, HS.out]
  refine (next_any win x _ Hwin.out hx0 Hx.out (H1.out.deb Hdeb.out Hg.out Hr.out)).mono ?_
  rintro e w2 ⟨rfl, hm2⟩
  rw [Hnv.out, ← HA.out, ← HS.out]
  obtain ⟨w3, hw3⟩ : ∃ w3, w3 = w2.alloc (.cells #[.int .i64 (a : Int), .int .i64 (s : Int)] 124) := ⟨_, rfl⟩
  have hm3 : Mod (fun _ => False) w1 w3 := by rw [hw3]; exact hm2.alloc _
  have hbo3 := hm3.blk Hbo1.out (fun h => h)
  have hbr3 := hm3.blk Hbr1.out (fun h => h)
  have hbn3 : Blk w3 w2.heap.size 124 #[.int .i64 (a : Int), .int .i64 (s : Int)] := by rw [hw3]; exact Blk.new _ _ _
  have H3 := Lib.hid (H1.out.new hm3)
  have hk3 : Hid (Kept g w w3) := Lib.hid (fun b' t cs hb ht hbg => hm3.blk (Hk1.out b' t cs (HmW.out.blk hb (fun h => h)) ht hbg) (fun h => h))
  have Hw3 := Lib.hid hw3
  have Hsz : Hid (w.heap.size + 1 < w2.heap.size) := Lib.hid (by have := hm2.size; have := Hbr1.out.lt; omega)
  have Hsz2 : Hid (w2.heap.size ≠ g ∧ w0.heap.size ≤ w2.heap.size) := Lib.hid ⟨by have := H1.out.lt; have := hm2.size; omega, by have := H1.out.lt; have := hm2.size; omega⟩
  clear hc0 hc1 hw3 hm2 hm3
  generalize hnb : w2.heap.size = nb at *
  have hc0 := hbo3.cell 0
  have hc1 := hbo3.cell 1
  have he0 := hbn3.cell 0
  have he1 := hbn3.cell 1
  simp at hc0 hc1 he0 he1
  have Hbr3 := Lib.hid hbr3; have Hbn3 := Lib.hid hbn3; have Hnb := Lib.hid hnb
  clear hbo3 hbr3 hbn3 hnb H1 Hbo1 Hbr1 Hk1 HwW Hbo Hbr
  rcases Hcase.out with ⟨hwe, hfe⟩ | ⟨hne, hfe⟩
  ·obtain rfl : a = A := by rw [HA.out, hwe]; rfl
   obtain rfl : s = S := by rw [HS.out, hwe, Hs.out]; rfl
   have Hfe := Lib.hid hfe
   clear hwe hfe
   go_wp2_with (first | (rw [Hnb.out, ← Hw3.out]))
   refine (put_kept w0 g row N len 1 _ 0 0 1 _ rfl rfl (by omega) (show (0 : Nat) < 18446744073709551616 by decide) H3.out (by rw [flen_app]; show len + (flen fs + (1 + 0)) ≤ _; omega)).mono ?_
   rintro e w4 ⟨rfl, h4, hk4⟩
   have hbn := hk4 _ _ _ Hbn3.out (by decide) Hsz2.out.1
   have hbr := hk4 _ _ _ Hbr3.out (by decide) Hgl.out.2.1
   have hkk : Kept g w w4 := fun b' t cs hb ht hbg => hk4 _ _ _ (hk3.out _ _ _ hb ht hbg) ht hbg
   clear hc0 hc1 he0 he1 hk4 hk3 H3 Hbn3 Hbr3
   have h4d := h4.new ((Mod.refl (fun _ => False) w4).drew)
   have hbn4 : Blk w4.drew nb 124 #[.int .i64 (a : Int), .int .i64 (s : Int)] := hbn
   have hbr4 : Blk w4.drew (w.heap.size + 1) 124 #[.int .i64 0, .int .i64 0] := hbr
   have hk34 : Hid (Kept g w w4.drew) := Lib.hid hkk
   have H4 := Lib.hid h4d; have Hbn4 := Lib.hid hbn4; have Hbr4 := Lib.hid hbr4
   obtain ⟨y, hyv⟩ : ∃ y, y = x / 2 ^ b := ⟨_, rfl⟩
   have hy : (x : Int) / 2 ^ b = (y : Int) := by rw [hyv]; simp
   have hyl : Hid (Lt64 y) := Lib.hid (by have := Hx.out.out; have := Nat.div_le_self x (2 ^ b); unfold Lt64; omega)
   have Hyv := Lib.hid hyv
   clear hyv h4 h4d hbr4 hbn hbr hkk
   have he0 := hbn4.cell 0
   have he1 := hbn4.cell 1
   simp at he0 he1
   clear hbn4
   go_wp2_with fail
   go_region_held_law (fun w' => w'.cell? ⟨nb, 0, none⟩ = some (.int .i64 (a : Int)) ∧ w'.cell? ⟨nb, 1, none⟩ = some (.int .i64 (s : Int))) (first | exact S6.out | exact S5.out | exact ⟨he0, he1⟩)
    (first
     | (go_at_call 114; refine (behind_at a s b _ hasb).mono ?_; rintro e w5 ⟨rfl, hm5⟩; have H5 := Lib.hid (H4.out.new hm5); have Hbr5 := Lib.hid (hm5.blk Hbr4.out (fun h => h)); have Hbn5 := Lib.hid (hm5.blk Hbn4.out (fun h => h)); have S5 : Hid (w5.cell? ⟨nb, 0, none⟩ = some (.int .i64 (a : Int)) ∧ w5.cell? ⟨nb, 1, none⟩ = some (.int .i64 (s : Int))) := Lib.hid ⟨Hbn5.out.cell 0, Hbn5.out.cell 1⟩; have Hk5 : Hid (Kept g w w5) := Lib.hid (fun b' t cs hb ht hbg => hm5.blk (hk34.out _ _ _ hb ht hbg) (fun h => h)); clear hm5)
     | (go_at_call 91; refine (put_kept w0 g row N len s _ y _ _ _ rfl rfl (by omega) hyl.out H5.out (by rw [flen_app, flen_app]; show len + (flen fs + (1 + 0) + (1 + 0)) ≤ _; omega)).mono ?_; rintro e w6 ⟨rfl, h6, hk6⟩; have H6 := Lib.hid h6; have Hbn6 := Lib.hid (hk6 _ _ _ Hbn5.out (by decide) Hsz2.out.1); have Hbr6 := Lib.hid (hk6 _ _ _ Hbr5.out (by decide) Hgl.out.2.1); have S6 : Hid (w6.cell? ⟨nb, 0, none⟩ = some (.int .i64 (a : Int)) ∧ w6.cell? ⟨nb, 1, none⟩ = some (.int .i64 (s : Int))) := Lib.hid ⟨Hbn6.out.cell 0, Hbn6.out.cell 1⟩; have Hk6 : Hid (Kept g w w6) := Lib.hid (fun b' t cs hb ht hbg => hk6 _ _ _ (Hk5.out _ _ _ hb ht hbg) ht hbg); clear h6 hk6))
   have hf0 := Hbr6.out.frozen 0
   have hf1 := Hbr6.out.frozen 1
   have hd0 := Hbr6.out.cell 0
   have hd1 := Hbr6.out.cell 1
   simp at hd0 hd1
   obtain ⟨hq0, hq1⟩ := S6.out
   clear he0 he1
   go_wp2_with fail
   refine bodyPost_ret (v := .agg #[.int .i64 (a : Int), .int .i64 (s : Int)]) (by have h := Hbr6.out.two (.int .i64 (a : Int)) (.int .i64 (s : Int)); simp [results, Tryz.results92, go_sem, h.1, h.2.1]) rfl ⟨?_, ?_, ?_⟩
   ·rw [Hnv.out]
   ·have h := H6.out.cell (b := w.heap.size + 1) (((Mod.refl (fun i => i = w.heap.size + 1) _).setCell (p := ⟨w.heap.size + 1, 0, none⟩) (fun _ => rfl) (.int .i64 (a : Int))).setCell (p := ⟨w.heap.size + 1, 1, none⟩) (fun _ => rfl) (.int .i64 (s : Int))) Hbr6.out (by decide) Hgl.out.2.1 (by have := Hgl.out.2.2; omega)
    rw [Hyv.out] at h
    have e : fieldsX win x = _ := Hfe.out
    rw [e]
    simpa [Hs.out] using h
   ·intro b' t cs hb ht hbg
    have hbl := hb.lt
    exact ((Hk6.out b' t cs hb ht hbg).far (p := ⟨w.heap.size + 1, 0, none⟩) (by simp; omega) _).far (p := ⟨w.heap.size + 1, 1, none⟩) (by simp; omega) _
  ·obtain ⟨m, hm⟩ : ∃ m, m = 63 - a - b := ⟨_, rfl⟩
   have hm1 : (s : Int) - 1 = (m : Int) := by omega
   have hwa : IntKind.u64.wrap (a : Int) = (a : Int) := by rw [IntKind.wrap_u64]; omega
   have hwm : IntKind.u64.wrap (m : Int) = (m : Int) := by rw [IntKind.wrap_u64]; omega
   have Hfe := Lib.hid hfe; have Hm := Lib.hid hm
   have hcmp : (a = A ∧ ¬ (s : Int) = (S : Int)) ∨ ¬ (a : Int) = (A : Int) := by
    rw [← HA.out, ← HS.out, ← Hs.out] at hne
    omega
   clear hm hfe hne
   rcases hcmp with ⟨rfl, hq⟩ | hq
   all_goals
    go_wp2_with (first | (rw [Hnb.out, ← Hw3.out]))
    refine (put_kept w0 g row N len 1 _ 1 1 1 _ rfl rfl (by omega) (show (1 : Nat) < 18446744073709551616 by decide) H3.out (by rw [flen_app]; show len + (flen fs + (1 + 0)) ≤ _; omega)).mono ?_
    rintro e w4 ⟨rfl, h4, hk4⟩
    have hbn := hk4 _ _ _ Hbn3.out (by decide) Hsz2.out.1
    have hbr := hk4 _ _ _ Hbr3.out (by decide) Hgl.out.2.1
    have H4 := Lib.hid h4; have Hbn4 := Lib.hid hbn; have Hbr4 := Lib.hid hbr
    have hkk : Hid (Kept g w w4) := Lib.hid (fun b' t cs hb ht hbg => hk4 _ _ _ (hk3.out _ _ _ hb ht hbg) ht hbg)
    clear hc0 hc1 he0 he1 hk4 hk3 H3 Hbn3 Hbr3 h4 hbr hq
    have he0 := hbn.cell 0
    have he1 := hbn.cell 1
    simp at he0 he1
    clear hbn
    go_wp2_with fail
    refine (put_kept w0 g row N len 5 _ a _ 5 _ rfl rfl (by omega) (show a < 18446744073709551616 by omega) H4.out (by rw [flen_app, flen_app]; show len + (flen fs + (1 + 0) + (1 + 0)) ≤ _; omega)).mono ?_
    rintro e w5 ⟨rfl, h5, hk5⟩
    have hbn := hk5 _ _ _ Hbn4.out (by decide) Hsz2.out.1
    have hbr := hk5 _ _ _ Hbr4.out (by decide) Hgl.out.2.1
    have H5 := Lib.hid h5; have Hbn5 := Lib.hid hbn; have Hbr5 := Lib.hid hbr
    have hk5 : Hid (Kept g w w5) := Lib.hid (fun b' t cs hb ht hbg => hk5 _ _ _ (hkk.out _ _ _ hb ht hbg) ht hbg)
    clear he0 he1 hkk H4 Hbn4 Hbr4 h5 hbr
    have he0 := hbn.cell 0
    have he1 := hbn.cell 1
    simp at he0 he1
    clear hbn
    go_wp2_with fail
    refine (put_kept w0 g row N len 6 _ m _ 6 _ rfl rfl (by omega) (show m < 18446744073709551616 by omega) H5.out (by rw [flen_app, flen_app, flen_app]; show len + (flen fs + (1 + 0) + (1 + 0) + (5 + 0)) ≤ _; omega)).mono ?_
    rintro e w4 ⟨rfl, h4, hk4⟩
    have hbn := hk4 _ _ _ Hbn5.out (by decide) Hsz2.out.1
    have hbr := hk4 _ _ _ Hbr5.out (by decide) Hgl.out.2.1
    have hkk : Kept g w w4 := fun b' t cs hb ht hbg => hk4 _ _ _ (hk5.out _ _ _ hb ht hbg) ht hbg
    rw [Hm.out] at h4
    clear he0 he1 hk4 hk5 H5 Hbn5 Hbr5 hm1 hwa hwm
    have h4d := h4.new ((Mod.refl (fun _ => False) w4).drew)
    have hbn4 : Blk w4.drew nb 124 #[.int .i64 (a : Int), .int .i64 (s : Int)] := hbn
    have hbr4 : Blk w4.drew (w.heap.size + 1) 124 #[.int .i64 0, .int .i64 0] := hbr
    have hk34 : Hid (Kept g w w4.drew) := Lib.hid hkk
    have H4 := Lib.hid h4d; have Hbn4 := Lib.hid hbn4; have Hbr4 := Lib.hid hbr4
    obtain ⟨y, hyv⟩ : ∃ y, y = x / 2 ^ b := ⟨_, rfl⟩
    have hy : (x : Int) / 2 ^ b = (y : Int) := by rw [hyv]; simp
    have hyl : Hid (Lt64 y) := Lib.hid (by have := Hx.out.out; have := Nat.div_le_self x (2 ^ b); unfold Lt64; omega)
    have Hyv := Lib.hid hyv
    clear hyv h4 h4d hbr4 hbn hbr hkk
    have he0 := hbn4.cell 0
    have he1 := hbn4.cell 1
    simp at he0 he1
    clear hbn4
    go_wp2_with fail
    go_region_held_law (fun w' => w'.cell? ⟨nb, 0, none⟩ = some (.int .i64 (a : Int)) ∧ w'.cell? ⟨nb, 1, none⟩ = some (.int .i64 (s : Int))) (first | exact S6.out | exact S5.out | exact ⟨he0, he1⟩)
     (first
      | (go_at_call 114; refine (behind_at a s b _ hasb).mono ?_; rintro e w5 ⟨rfl, hm5⟩; have H5 := Lib.hid (H4.out.new hm5); have Hbr5 := Lib.hid (hm5.blk Hbr4.out (fun h => h)); have Hbn5 := Lib.hid (hm5.blk Hbn4.out (fun h => h)); have S5 : Hid (w5.cell? ⟨nb, 0, none⟩ = some (.int .i64 (a : Int)) ∧ w5.cell? ⟨nb, 1, none⟩ = some (.int .i64 (s : Int))) := Lib.hid ⟨Hbn5.out.cell 0, Hbn5.out.cell 1⟩; have Hk5 : Hid (Kept g w w5) := Lib.hid (fun b' t cs hb ht hbg => hm5.blk (hk34.out _ _ _ hb ht hbg) (fun h => h)); clear hm5)
      | (go_at_call 91; refine (put_kept w0 g row N len s _ y _ _ _ rfl rfl (by omega) hyl.out H5.out (by rw [flen_app, flen_app, flen_app, flen_app]; show len + (flen fs + (1 + 0) + (1 + 0) + (5 + 0) + (6 + 0)) ≤ _; omega)).mono ?_; rintro e w6 ⟨rfl, h6, hk6⟩; have H6 := Lib.hid h6; have Hbn6 := Lib.hid (hk6 _ _ _ Hbn5.out (by decide) Hsz2.out.1); have Hbr6 := Lib.hid (hk6 _ _ _ Hbr5.out (by decide) Hgl.out.2.1); have S6 : Hid (w6.cell? ⟨nb, 0, none⟩ = some (.int .i64 (a : Int)) ∧ w6.cell? ⟨nb, 1, none⟩ = some (.int .i64 (s : Int))) := Lib.hid ⟨Hbn6.out.cell 0, Hbn6.out.cell 1⟩; have Hk6 : Hid (Kept g w w6) := Lib.hid (fun b' t cs hb ht hbg => hk6 _ _ _ (Hk5.out _ _ _ hb ht hbg) ht hbg); clear h6 hk6))
    have hf0 := Hbr6.out.frozen 0
    have hf1 := Hbr6.out.frozen 1
    have hd0 := Hbr6.out.cell 0
    have hd1 := Hbr6.out.cell 1
    simp at hd0 hd1
    obtain ⟨hq0, hq1⟩ := S6.out
    clear he0 he1
    go_wp2_with fail
    refine bodyPost_ret (v := .agg #[.int .i64 (a : Int), .int .i64 (s : Int)]) (by have h := Hbr6.out.two (.int .i64 (a : Int)) (.int .i64 (s : Int)); simp [results, Tryz.results92, go_sem, h.1, h.2.1]) rfl ⟨?_, ?_, ?_⟩
    ·rw [Hnv.out]
    ·have h := H6.out.cell (b := w.heap.size + 1) (((Mod.refl (fun i => i = w.heap.size + 1) _).setCell (p := ⟨w.heap.size + 1, 0, none⟩) (fun _ => rfl) (.int .i64 (a : Int))).setCell (p := ⟨w.heap.size + 1, 1, none⟩) (fun _ => rfl) (.int .i64 (s : Int))) Hbr6.out (by decide) Hgl.out.2.1 (by have := Hgl.out.2.2; omega)
     rw [Hyv.out] at h
     have e : fieldsX win x = _ := Hfe.out
     rw [e]
     simpa [Hs.out] using h
    ·intro b' t cs hb ht hbg
     have hbl := hb.lt
     exact ((Hk6.out b' t cs hb ht hbg).far (p := ⟨w.heap.size + 1, 0, none⟩) (by simp; omega) _).far (p := ⟨w.heap.size + 1, 1, none⟩) (by simp; omega) _
end Go.Proofs.YthgoppmgapaajaaGreatDoor

/- Rows of values are told: Encode. -/
namespace Go.Proofs.YthgoppmgapaajaaGreatDoor
open Go.RowKit

/-- What Encode has told of i values. -/
def XEnc (w wr : World) (g : Nat) (row : Option Nat) (N len : Nat) (zs : List Nat) (nb i prev : Nat) (win : Option (Nat × Nat)) : Prop :=
 ∃ fs, Wrote w wr g row N len fs ∧ Blk wr nb 124 #[.int .i64 (winA win : Int), .int .i64 (winS win : Int)] ∧ WinOk win ∧ prev < 2 ^ 64 ∧ (i = 0 → fs = [] ∧ prev = 0 ∧ win = none) ∧ (0 < i → fs ++ encX win prev (zs.drop i) = encVals zs)
set_option maxHeartbeats 4000000 in
set_option maxRecDepth 100000 in
theorem xenc_any (B g : Nat) (row : Option Nat) (N len n c : Nat) (A : Option Addr) (zs : List Nat) (w : World) (hs : Rds w B A n (cellsU zs)) (hz : ∀ x ∈ zs, x < 2 ^ 64) (hB : B ≤ w.heap.size) (hap : 0 < n → ∀ ad, A = some ad → ¬ (ad.block = g ∨ row = some ad.block)) (hg0 : g ≠ 2) (hr0 : row ≠ some 2)
  (hw : Wr w g row N len) (hdeb : Deb w) (hlen : len + (64 + 77 * n) ≤ 900000000) :
  Calls Tryz.prog 78 #[.pointer (some ⟨g, 0, none⟩), .slice A n c] w fun e w' => e = .returned (.tuple #[]) ∧ Wrote w w' g row N len (encVals zs) := by
 have hzl : zs.length = n := by have := hs.1; rwa [cellsU_length] at this
 have Hs := Lib.hid hs; have Hz := Lib.hid hz; have Hdeb := Lib.hid hdeb; have Hg := Lib.hid hg0; have Hr := Lib.hid hr0; have HS := Lib.hid hap
 obtain ⟨W, hW⟩ : ∃ W, W = w.alloc (.cells #[.int .i64 0, .int .i64 0] 124) := ⟨_, rfl⟩
 have hmW : Mod (fun _ => False) w W := by rw [hW]; exact (Mod.refl _ _).alloc _
 have H0 : Hid (XEnc w W g row N len zs w.heap.size 0 0 none) := Lib.hid ⟨[], (Wrote.refl hw).new hmW, by rw [hW]; exact Blk.new _ _ _, trivial, by decide, fun _ => ⟨rfl, rfl, rfl⟩, fun h => by omega⟩
 have Hgn : Hid (w.heap.size ≠ g) := Lib.hid (by have := hw.lt; omega)
 have Hzl := Lib.hid hzl; have HW := Lib.hid hW
 have Htot : Hid (len + flen (encVals zs) ≤ 900000000) := Lib.hid (by have := encVals_len zs; rw [hzl] at this; omega)
 clear hs hz hw hdeb hap hg0 hr0 hzl hW hmW
 go_enter Tryz.func78, Tryz.ntmps78
 go_wp2_with fail
 rw [← HW.out]
 go_loopg [4, 10] n (fun l s4 s10 wr => ∃ (i prev : Nat) (win : Option (Nat × Nat)), i + l = n ∧ s10 = .int .i64 (i : Int) ∧ s4 = .int .u64 (prev : Int) ∧ XEnc w wr g row N len zs w.heap.size i prev win)
 case atStart => exact ⟨0, 0, none, by omega, rfl, rfl, H0.out⟩
 case round =>
  obtain ⟨i, prev, win, hil, rfl, rfl, hE⟩ := hrel
  have HE := Lib.hid hE; have Hil := Lib.hid hil
  clear hE hil H0 HW
  by_cases hin : i < n
  ·obtain ⟨fs, hwr, hb, hok, hp64, he0, he1⟩ := HE.out
   obtain ⟨ad, x, rfl, hx, hcx⟩ := Hs.out.at2 hin hB (by obtain ⟨_, _, a2, _⟩ := hwr; exact a2) (HS.out (by omega))
   have hxl := Lib.hid (Hz.out x (List.mem_of_getElem? hx))
   have Hdr := Lib.hid (drop_at' hx)
   have Hb := Lib.hid hb; have Hok := Lib.hid hok; have Hp64 := Lib.hid hp64
   clear hx hb hok hp64
   by_cases hi0 : i = 0
   ·obtain ⟨rfl, rfl, rfl⟩ := he0 hi0
    subst hi0
    have Hwr := Lib.hid hwr
    have hcx0 : wr.cell? ad = some (.int .u64 (x : Int)) := by rw [← add_zero' ad]; exact hcx
    clear hwr he0 he1 HE
    go_wp2_with fail
    refine (put_kept w g row N len 64 [] x _ _ _ rfl rfl (by omega) hxl.out Hwr.out (by show len + 0 ≤ _; omega)).mono ?_
    rintro e w1 ⟨rfl, h1, hk1⟩
    have hd0 := Hdr.out
    rw [List.drop_zero] at hd0
    have H1 : Hid (XEnc w w1 g row N len zs w.heap.size 1 x none) := Lib.hid ⟨[(x, 64)], h1, hk1 _ _ _ Hb.out (by decide) Hgn.out, trivial, hxl.out, fun h => by omega, fun _ => by rw [hd0]; rfl⟩
    clear h1 hd0 Hwr hk1
    go_wp2_with fail
    go_roundg (gk - 1)
    case measure => have := Hil.out; omega
    case rel => exact ⟨1, x, none, by have := Hil.out; omega, rfl, rfl, H1.out⟩
   ·have hb0 : ((i : Int) == 0) = false := by simp; omega
    have hE1 := he1 (by omega)
    have Hwr := Lib.hid hwr; have HE1 := Lib.hid hE1
    obtain ⟨y, hy⟩ : ∃ y : Nat, y = x ^^^ prev := ⟨_, rfl⟩
    have hxor : bits .xor .u64 (x : Int) (prev : Int) = (y : Int) := by rw [hy]; exact u64_xor_nat x prev hxl.out Hp64.out
    have hyl : Hid (Lt64 y) := Lib.hid (by rw [hy]; exact Nat.xor_lt_two_pow hxl.out Hp64.out)
    have Hy := Lib.hid hy
    have hc0 := Hb.out.cell 0
    have hc1 := Hb.out.cell 1
    simp at hc0 hc1
    have hl : Hid (len + flen fs ≤ 900000000) := Lib.hid (by have := Htot.out; rw [← HE1.out] at this; have := flen_le_app fs (encX win prev (zs.drop i)); omega)
    clear hwr he0 he1 HE hE1 hy
    go_wp2_with fail
    refine (xput_wrote w g row N len fs y win _ Hok.out hyl.out Hwr.out hl.out Hdeb.out Hg.out Hr.out).mono ?_
    rintro e w1 ⟨rfl, h1, hk1⟩
    have hb1 := hk1 _ _ _ Hb.out (by decide) Hgn.out
    rw [winV_eq]
    have hok1 := winX_ok Hok.out hyl.out
    obtain ⟨win', hwin'⟩ : ∃ win', win' = winX win y := ⟨_, rfl⟩
    rw [← hwin'] at hok1 ⊢
    have hd0 := hb1.cell 0
    have hd1 := hb1.cell 1
    have hf0 := hb1.frozen 0
    have hf1 := hb1.frozen 1
    simp at hd0 hd1
    have H1 : Hid (XEnc w ((w1.setCell ⟨w.heap.size, 0, none⟩ (.int .i64 (winA win' : Int))).setCell ⟨w.heap.size, 1, none⟩ (.int .i64 (winS win' : Int))) g row N len zs w.heap.size (i + 1) x win') :=
     Lib.hid ⟨_, h1.cell (b := w.heap.size) (((Mod.refl (fun i => i = w.heap.size) _).setCell (p := ⟨w.heap.size, 0, none⟩) (fun _ => rfl) _).setCell (p := ⟨w.heap.size, 1, none⟩) (fun _ => rfl) _) hb1 (by decide) Hgn.out (Nat.le_refl _), (hb1.two _ _).2.2, hok1, hxl.out, fun h => by omega, fun _ => by
      rw [← HE1.out, Hdr.out, List.append_assoc, hwin', Hy.out]; rfl⟩
    clear h1 hk1 hb1 hok1 hwin' hc0 hc1 Hb Hwr
    go_wp2_with fail
    go_roundg (gk - 1)
    case measure => have := Hil.out; omega
    case rel => exact ⟨i + 1, x, win', by have := Hil.out; omega, by go_num, rfl, H1.out⟩
  ·go_wp2_with fail
   go_end0
   refine ⟨rfl, ?_⟩
   obtain ⟨fs, hwr, hb, hok, hp64, he0, he1⟩ := HE.out
   have hil := Hil.out
   have hzl := Hzl.out
   rcases Nat.eq_zero_or_pos i with h0 | h0
   ·obtain ⟨rfl, _, _⟩ := he0 h0
    have : zs = [] := List.eq_nil_of_length_eq_zero (by omega)
    subst this
    exact hwr
   ·have := he1 h0
    rw [List.drop_of_length_le (by omega)] at this
    have e : fs = encVals zs := by rw [← this]; show fs = fs ++ []; simp
    rw [← e]
    exact hwr
end Go.Proofs.YthgoppmgapaajaaGreatDoor

/- Values told in each codec: putSimple, putSame, putValues. -/
namespace Go.Proofs.YthgoppmgapaajaaGreatDoor
open Go.RowKit

/-- Words as fields of 64 bits. -/
theorem flds64_num : ∀ (ws : List Nat), (∀ w ∈ ws, w < 2 ^ 64) → fnum (flds 64 ws) = val (words8 ws) := by
 intro ws
 induction ws with
 | nil => intro _; rfl
 | cons w ws ih =>
  intro h
  have hw := h w (by simp)
  have e : val (words8 (w :: ws)) = val (w8 w) * 256 ^ (words8 ws).length + val (words8 ws) := val_append _ _
  have e2 : val (w8 w) = w := by
   unfold w8
   simp only [val, List.foldl_cons, List.foldl_nil]
   omega
  rw [e, e2, ← ih (fun x hx => h x (by simp [hx])), words8_len, pow_256]
  show w % 2 ^ 64 * 2 ^ flen (flds 64 ws) + fnum (flds 64 ws) = _
  rw [Nat.mod_eq_of_lt hw, flds_len, ← Nat.mul_assoc]
theorem words8_packW {ws : List Nat} (h : ∀ w ∈ ws, w < 2 ^ 64) : packW 64 ws = words8 ws := by
 refine (packW_one (free := 0) (words8_256 ws) (by omega) ?_ ?_).symm
 ·rw [flds_len, words8_len]
  omega
 ·rw [Nat.pow_zero, Nat.mul_one, flds64_num ws h]
theorem last_take {us : List Nat} {i x : Nat} (h : us[i]? = some x) : (us.take (i + 1)).getLast?.getD 0 = x := by
 rw [take_succ_of h, List.getLast?_concat]
 rfl
theorem of_fits' {x : Int} (h : Fits x) : FitI x := by
 have h1 := h.1; have h2 := h.2
 have hh : (H63 : Int) = 9223372036854775808 := rfl
 exact ⟨by omega, by omega⟩
theorem NewRow.own {w w1 : World} {v : Value} {bs : List Nat} (h : NewRow w w1 v bs.length (cells8 bs)) : Own w.heap.size w1 5 v (cells8 bs) := by
 obtain ⟨h1, _, h3⟩ := h
 unfold Own
 rw [cells8_length]
 refine ⟨h1.1, ?_⟩
 rcases h1.2 with hn | ⟨g, cap, cur, rfl, _, rest⟩
 ·exact .inl hn
 ·refine .inr ⟨g, cap, cur, rfl, ?_, rest⟩
  rcases h3 with h3 | ⟨r, h3, hr⟩
  ·simp [Value.ownBlock] at h3
  ·have : g = r := by simpa [Value.ownBlock] using h3
   omega
/-- The first i differences. -/
def StepTo (w wr : World) (us : List Nat) (i : Nat) (v : Value) (last : Nat) : Prop :=
 Own w.heap.size wr 34 v (cellsU (stepsU 0 (us.take i))) ∧ last = (us.take i).getLast?.getD 0 ∧ last < 2 ^ 64 ∧ Mod (fun _ => False) w wr
theorem StepTo.step {w wr w2 : World} {us : List Nat} {i x last : Nat} {v v2 : Value} {z : Int} (h : StepTo w wr us i v last) (hx : us[i]? = some x) (hx64 : x < 2 ^ 64) (hz : z = zig (sg ((x + M64 - last) % M64)))
  (ho : Own w.heap.size w2 34 v2 (cellsU (stepsU 0 (us.take i)) ++ [.int .u64 z])) (hb : Below w.heap.size wr w2) : StepTo w w2 us (i + 1) v2 x := by
 obtain ⟨_, h2, _, h4⟩ := h
 refine ⟨?_, (last_take hx).symm, hx64, h4.trans (Mod.of_below hb) (fun i hi h => by omega)⟩
 rw [take_succ_of hx, stepsU_snoc, ← h2, cellsU_snoc, stepU_int, ← hz]
 exact ho
theorem EncB.of_some {w w' : World} {o : Option (List Nat)} {bs : List Nat} {v : Value} (ho : o = some bs) (h : Own w.heap.size w' 5 v (cells8 bs)) (hm : Mod (fun _ => False) w w') : EncB w w' o (.returned (.tuple #[v, .bool true])) := by
 rw [ho]
 exact ⟨v, rfl, h, hm⟩
theorem EncB.of_none {w w' : World} {o : Option (List Nat)} (ho : o = none) (hm : Mod (fun _ => False) w w') : EncB w w' o (.returned (.tuple #[.slice none 0 0, .bool false])) := by
 rw [ho]
 exact ⟨rfl, hm⟩
set_option maxHeartbeats 2000000 in
set_option maxRecDepth 100000 in
theorem psimple_any (A : Option Addr) (n cap : Nat) (us : List Nat) (w : World) (hs : Rds w w.heap.size A n (cellsU us)) (hu : ∀ x ∈ us, x < 2 ^ 64) (hn : n ≤ 1000000) (hk : Kin w) :
  Calls Tryz.prog 80 #[.slice A n cap] w fun e w' => EncB w w' ((encS (stepsU 0 us)).map words8) e := by
 have hul : us.length = n := by have := hs.1; rwa [cellsU_length] at this
 have Hs := Lib.hid hs; have Hu := Lib.hid hu; have Hul := Lib.hid hul; have Hk := Lib.hid hk
 have H0 : Hid (StepTo w w us 0 (.slice none 0 0) 0) := Lib.hid ⟨Own.nil _ _ _, rfl, by decide, Mod.refl _ _⟩
 clear hs hu hul hk
 go_enter Tryz.func80, Tryz.ntmps80
 go_wp2_with fail
 go_loopg [4, 5, 15] n (fun l s4 s5 s15 wr => ∃ i last : Nat, i + l = n ∧ s15 = .int .i64 (i : Int) ∧ s5 = .int .u64 (last : Int) ∧ StepTo w wr us i s4 last)
 case atStart => exact ⟨0, 0, by omega, rfl, rfl, H0.out⟩
 case round =>
  obtain ⟨i, last, hil, rfl, rfl, hP⟩ := hrel
  have Hil := Lib.hid hil; have HP := Lib.hid hP
  clear hil hP H0
  by_cases hin : i < n
  ·obtain ⟨ad, x, rfl, hx, hcx⟩ := Hs.out.at2 hin (Nat.le_refl _) HP.out.2.2.2 (fun _ _ h => h)
   have hx64 := Hu.out x (List.mem_of_getElem? hx)
   have hl64 := HP.out.2.2.1
   obtain ⟨y, hy⟩ : ∃ y, y = (x + M64 - last) % M64 := ⟨_, rfl⟩
   have hyl : y < M64 := by rw [hy]; exact Nat.mod_lt _ (by decide)
   have hw1 : IntKind.u64.wrap ((x : Int) - (last : Int)) = (y : Int) := by
    rw [IntKind.wrap_u64, hy]
    show _ = (((x + 18446744073709551616 - last) % 18446744073709551616 : Nat) : Int)
    omega
   have hw2 : wrap64 (y : Int) = sg y := by rw [wrap_sg, un_nat hyl]
   have hfi : FitI (sg y) := of_fits' (sg_fits hyl)
   obtain ⟨d, hd⟩ : ∃ d, d = sg y := ⟨_, rfl⟩
   rw [← hd] at hw2 hfi
   obtain ⟨z, hz⟩ : ∃ z, z = zig d := ⟨_, rfl⟩
   have HX : Hid (us[i]? = some x ∧ x < 2 ^ 64 ∧ z = zig (sg ((x + M64 - last) % M64))) := Lib.hid ⟨hx, hx64, by rw [hz, hd, hy]⟩
   have Hfi := Lib.hid hfi; have Hz := Lib.hid hz
   have hlen : (cellsU (stepsU 0 (us.take i))).length ≤ 1000000 := by rw [cellsU_length, stepsU_len, List.length_take]; omega
   have HR : Hid ((cellsU (stepsU 0 (us.take i))).length + 1 ≤ maxLen ∧ ((cellsU (stepsU 0 (us.take i))).length + 1) * 8 ≤ 140737488355328) := Lib.hid ⟨by unfold maxLen; omega, by omega⟩
   have hsz := HP.out.2.2.2.size
   clear hx hx64 hl64 hy hyl hfi hd hz hlen
   go_wp2_with fail
   refine (zig_any d wr Hfi.out).mono ?_
   rintro e w1 ⟨rfl, rfl⟩
   rw [← Hz.out]
   clear hw1 hw2
   go_wp2_with (at_builtin; refine wpList_app1 rfl (.tmp 19) (.tmp 25) _ rfl eltU rfl HP.out.1 rfl rfl rfl HR.out.1 HR.out.2 hsz ?_; intro v2 w2 HO HB)
   have HP2 : Hid (StepTo w w2 us (i + 1) v2 x) := Lib.hid (HP.out.step HX.out.1 HX.out.2.1 HX.out.2.2 HO.out HB.out)
   go_roundg (gk - 1)
   case measure => have := Hil.out; omega
   case rel => exact ⟨i + 1, x, by have := Hil.out; omega, by go_num, rfl, HP2.out⟩
  ·have hi : i = n := by have := Hil.out; omega
   obtain ⟨hown, _, _, hm⟩ := HP.out
   rw [List.take_of_length_le (by have := Hul.out; omega)] at hown
   obtain ⟨L, hL⟩ : ∃ L, (stepsU 0 us).length = L := ⟨_, rfl⟩
   obtain ⟨A1, L', c1, rfl, HL', hLc, hr1⟩ := own_formUN hown
   have hLL : L' = L := by have := HL'.out; omega
   subst hLL
   have hLn : L' = n := by rw [← hL, stepsU_len]; exact Hul.out
   have Hr1 := Lib.hid hr1; have Hm := Lib.hid hm; have Hkr := Lib.hid (Hk.out.mod hm (fun h => h))
   have Hst : Hid (∀ x ∈ stepsU 0 us, x < 2 ^ 64) := Lib.hid (stepsU_lt us 0)
   have HLn := Lib.hid hLn; have HLc := Lib.hid hLc
   have hLs : L' ≤ 1000000 := by omega
   clear hi hown hr1 hm hL hLn HP Hs Hu
   go_wp2_with fail
   refine (enc_any A1 L' c1 wr.heap.size (stepsU 0 us) wr Hr1.out (Nat.le_refl _) Hst.out hLs HLc.out Hkr.out).mono ?_
   intro e w1 he
   cases ho : encS (stepsU 0 us) with
   | none =>
    obtain ⟨rfl, hm1⟩ := EncE.none_ he ho
    have Ho := Lib.hid ho
    have Hm1 := Lib.hid (Hm.out.trans hm1 (fun _ _ h => h))
    clear he ho hm1
    go_wp2_with fail
    go_ret2
    exact EncB.of_none (by rw [Ho.out]; rfl) Hm1.out
   | some ws =>
    obtain ⟨v1, rfl, how, hm1⟩ := EncE.some_ he ho
    obtain ⟨hwl, hw64⟩ := encS_len _ _ _ rfl ho
    obtain ⟨A2, L2, c2, rfl, HL2, hc2, hr2⟩ := own_formUN how
    have hL2 : L2 ≤ n := by rw [stepsU_len, Hul.out] at hwl; have := HL2.out; omega
    have Hm1 := Lib.hid (Hm.out.trans hm1 (fun _ _ h => h))
    have Ho := Lib.hid ho
    have Hr2 := Lib.hid hr2; have Hw64 := Lib.hid hw64; have HL2n := Lib.hid hL2
    clear he ho hm1 how hwl hw64 hr2 hL2 hc2 Hm Hr1 Hst Hkr
    go_wp2_with fail
    refine (newWriter_wr w1).mono ?_
    rintro e w2 ⟨g, rfl, hg1, hg2, hwr, hm2⟩
    have Hg1 := Lib.hid hg1; have Hm2 := Lib.hid hm2
    have F0 : Hid (FldTo w1 w2 w2 g 64 ws 0) := Lib.hid ⟨Wrote.refl hwr, hm2⟩
    clear hg1 hg2 hwr hm2
    go_wp2_with fail
    go_loopg [39] L2 (fun l s39 wq => ∃ i : Nat, i + l = L2 ∧ s39 = .int .i64 (i : Int) ∧ FldTo w1 w2 wq g 64 ws i)
    case atStart => exact ⟨0, by omega, rfl, F0.out⟩
    case round =>
     obtain ⟨j, hjl, rfl, hF⟩ := hrel
     have HF := Lib.hid hF; have Hjl := Lib.hid hjl
     clear hF hjl F0
     by_cases hjn : j < L2
     ·obtain ⟨ad, x, rfl, hx, hcx⟩ := Hr2.out.at2 hjn (Nat.le_refl _) HF.out.2 (fun _ _ h => h)
      have hx64 : Hid (Lt64 x) := Lib.hid (by have := Hw64.out x (List.mem_of_getElem? hx); unfold Lt64; omega)
      have Hx := Lib.hid hx
      have hjb : j ≤ 1000000 := by have := HL2n.out; omega
      clear hx
      go_wp2_with fail
      refine (put_wrote w2 g none 0 0 64 _ x _ _ wr rfl rfl (by decide) hx64.out HF.out.1 (by have := flds_small (i := j) (S := 64) (l := ws) (by decide) (Nat.le_of_eq HL2.out) (by have := HL2n.out; omega); omega)).mono ?_
      rintro e w3 ⟨rfl, h3⟩
      have HF2 : Hid (FldTo w1 w2 w3 g 64 ws (j + 1)) := Lib.hid (HF.out.step Hx.out Hg1.out Hm2.out h3)
      clear h3
      go_wp2_with fail
      go_roundg (gk - 1)
      case measure => have := Hjl.out; omega
      case rel => exact ⟨j + 1, by have := Hjl.out; omega, by go_num, HF2.out⟩
     ·have hj : j = L2 := by have := Hjl.out; omega
      obtain ⟨row, hwr⟩ := HF.out.wr HL2.out hj
      have Hwr := Lib.hid hwr; have Hmr := Lib.hid HF.out.2
      clear hwr HF hj
      go_wp2_with fail
      refine (bytes_any g row _ _ _ Hwr.out (by have := flds_small (i := L2) (S := 64) (l := ws) (by decide) (Nat.le_of_eq HL2.out) (by have := HL2n.out; omega); rw [List.take_of_length_le (by rw [HL2.out]; exact Nat.le_refl _)] at this; omega)).mono ?_
      rintro e w4 ⟨v4, bs, rfl, hnew, hpk⟩
      obtain rfl := hpk.packW
      rw [words8_packW Hw64.out] at hnew
      have Ho4 := Lib.hid hnew.own
      have Hm4 := Lib.hid (Hm1.out.trans (Hmr.out.trans hnew.2.1 (fun _ _ h => h)) (fun _ _ h => h))
      have Hszr := Lib.hid (Nat.le_trans Hm1.out.size Hmr.out.size)
      clear hnew hpk
      go_wp2_with fail
      go_ret2
      exact EncB.of_some (by rw [Ho.out]; rfl) (Ho4.out.mono Hszr.out) Hm4.out

theorem all_head {us : List Nat} {x : Nat} (h0 : us[0]? = some x) : us.getD 0 0 = x := by rw [List.getD_eq_getElem?_getD, h0]; rfl
def toldSame (v : List Nat) : Option (List Nat) := if v = [] then some [] else if v.all (fun x => x == v.getD 0 0) then some (enc (v.getD 0 0)) else none
theorem toldSame_some {us : List Nat} {x : Nat} (h0 : us[0]? = some x) (h : ∀ j y : Nat, us[j]? = some y → y = x) : toldSame us = some (enc x) := by
 have hne : us ≠ [] := by rintro rfl; simp at h0
 unfold toldSame
 rw [if_neg hne, all_head h0, if_pos]
 rw [List.all_eq_true]
 intro y hy
 obtain ⟨j, hj, rfl⟩ := List.mem_iff_getElem.1 hy
 have := h j _ (List.getElem?_eq_getElem hj)
 simp [this]
theorem toldSame_none {us : List Nat} {x y : Nat} {j : Nat} (h0 : us[0]? = some x) (h : us[j]? = some y) (hne : ¬ y = x) : toldSame us = none := by
 have hn : us ≠ [] := by rintro rfl; simp at h0
 unfold toldSame
 rw [if_neg hn, all_head h0, if_neg]
 intro ha
 have := List.all_eq_true.1 ha y (List.mem_of_getElem? h)
 simp at this
 exact hne this
set_option maxHeartbeats 1000000 in
set_option maxRecDepth 100000 in
theorem psame_any (A : Option Addr) (n cap : Nat) (us : List Nat) (w : World) (hs : Rds w w.heap.size A n (cellsU us)) (hu : ∀ x ∈ us, x < 2 ^ 64) (hn : n ≤ 1000000) :
  Calls Tryz.prog 84 #[.slice A n cap] w fun e w' => EncB w w' (toldSame us) e := by
 have hul : us.length = n := by have := hs.1; rwa [cellsU_length] at this
 by_cases h0 : n = 0
 ·subst h0
  obtain rfl := List.eq_nil_of_length_eq_zero hul
  clear hs
  go_enter Tryz.func84, Tryz.ntmps84
  go_wp2_with fail
  go_ret2
  exact EncB.of_some rfl (Own.nil _ _ _) (Mod.refl _ _)
 ·have hn0 : ((n : Int) == 0) = false := by simp; omega
  obtain ⟨ad, x, rfl, hx, hcx⟩ := hs.at2 (show 0 < n by omega) (Nat.le_refl _) (Mod.refl (fun _ => False) w) (fun _ _ h => h)
  have hcx0 : w.cell? ad = some (.int .u64 (x : Int)) := by rw [← add_zero' ad]; exact hcx
  have hx64 : Lt64 x := by have := hu x (List.mem_of_getElem? hx); unfold Lt64; omega
  have hnp : (0 : Int) < (n : Int) := by omega
  have Hs := Lib.hid hs; have Hul := Lib.hid hul; have Hx := Lib.hid hx; have Hx64 := Lib.hid hx64
  clear hs hu hul hx hx64 hcx h0
  go_enter Tryz.func84, Tryz.ntmps84
  go_wp2_with fail
  go_loopg [11] n (fun l s11 wr => ∃ i : Nat, i + l = n ∧ s11 = .int .i64 (i : Int) ∧ wr = w ∧ ∀ j y : Nat, j < i → us[j]? = some y → y = x)
  case atStart => exact ⟨0, by omega, rfl, rfl, fun j y h => by omega⟩
  case round =>
   obtain ⟨i, hil, rfl, rfl, hall⟩ := hrel
   have Hil := Lib.hid hil; have Hall := Lib.hid hall
   clear hil hall
   by_cases hin : i < n
   ·obtain ⟨ad', y, hA, hy, hcy⟩ := Hs.out.at2 hin (Nat.le_refl _) (Mod.refl (fun _ => False) wr) (fun _ _ h => h)
    injection hA with hA
    subst hA
    have Hy := Lib.hid hy
    clear hy
    by_cases hyx : y = x
    ·subst hyx
     go_wp2_with fail
     go_roundg (gk - 1)
     case measure => have := Hil.out; omega
     case rel => exact ⟨i + 1, by have := Hil.out; omega, by go_num, rfl, fun j z hj hz => by
      rcases Nat.lt_or_ge j i with h | h
      ·exact Hall.out j z h hz
      ·obtain rfl : j = i := by omega
       rw [Hy.out] at hz
       injection hz with hz
       exact hz.symm⟩
    ·have hyb : ((y : Int) == (x : Int)) = false := by simp; omega
     have hyb2 : ((y : Int) != (x : Int)) = true := by simp; omega
     have Hno : Hid (toldSame us = none) := Lib.hid (toldSame_none Hx.out Hy.out hyx)
     clear hyx
     go_wp2_with fail
     go_ret2
     exact EncB.of_none Hno.out (Mod.refl _ _)
   ·have hi : i = n := by have := Hil.out; omega
    have Hyes : Hid (toldSame us = some (enc x)) := Lib.hid (toldSame_some Hx.out (fun j y hy => Hall.out j y (by have := (List.getElem?_eq_some_iff.1 hy).1; have := Hul.out; omega) hy))
    clear hi
    go_wp2_with fail
    refine (vput_any none 0 0 0 [] x wr (Rds.nil _ _ _) (by omega) Hx64.out).mono ?_
    rintro e w4 ⟨v4, rfl, ho4, hb4⟩
    rw [List.nil_append] at ho4
    have Ho4 := Lib.hid ho4; have Hb4 := Lib.hid hb4
    clear ho4 hb4
    go_wp2_with fail
    go_ret2
    exact EncB.of_some Hyes.out Ho4.out (mod_below Hb4.out)
end Go.Proofs.YthgoppmgapaajaaGreatDoor

/- Values told in a codec: putValues. -/
namespace Go.Proofs.YthgoppmgapaajaaGreatDoor
open Go.RowKit

theorem EncB.of_own {w w' : World} {bs : List Nat} {v : Value} (h : Own w.heap.size w' 5 v (cells8 bs)) (hm : Mod (fun _ => False) w w') : EncB w w' (some bs) (.returned (.tuple #[v, .bool true])) := ⟨v, rfl, h, hm⟩
theorem EncB.parts {w w' : World} {o : Option (List Nat)} {e : Ending} (h : EncB w w' o e) : ∃ v, e = .returned (.tuple #[v, .bool o.isSome]) ∧ EncB w w' o (.returned (.tuple #[v, .bool o.isSome])) := by
 cases o with
 | none => obtain ⟨rfl, hm⟩ := h; exact ⟨_, rfl, rfl, hm⟩
 | some bs => obtain ⟨v, rfl, h1, h2⟩ := h; exact ⟨v, rfl, v, rfl, h1, h2⟩
theorem toldK_other {tag : Int} {us : List Nat} (h1 : tag ≠ 1) (h2 : tag ≠ 2) (h3 : tag ≠ 3) (h4 : tag ≠ 4) (h5 : tag ≠ 5) (h6 : tag ≠ 6) : toldK tag us = none := by
 unfold toldK
 rw [if_neg h1, if_neg h2, if_neg h3, if_neg h4, if_neg h5, if_neg h6]
set_option maxHeartbeats 1000000 in
set_option maxRecDepth 100000 in
theorem pvalues_any (tag : Int) (A : Option Addr) (n cap : Nat) (us : List Nat) (w : World) (hs : Rds w w.heap.size A n (cellsU us)) (hu : ∀ x ∈ us, x < 2 ^ 64) (hn : n ≤ 1000000) (hcap : n ≤ cap) (hk : Kin w) (hd : Deb w) :
  Calls Tryz.prog 58 #[.int .i64 tag, .slice A n cap] w fun e w' => EncB w w' (toldK tag us) e := by
 by_cases h1 : tag = 1
 ·subst h1
  have Hs := Lib.hid hs; have Hu := Lib.hid hu; have Hd := Lib.hid hd
  clear hs hu hd hk
  go_enter Tryz.func58, Tryz.ntmps58
  go_wp2_with fail
  refine (newWriter_wr w).mono ?_
  rintro e w1 ⟨g, rfl, hg1, hg2, hwr, hm1⟩
  have Hs1 := Lib.hid (Hs.out.mod hm1 (Nat.le_refl _) (fun _ _ h => h))
  have Hap : Hid (0 < n → ∀ ad, A = some ad → ¬ (ad.block = g ∨ none = some ad.block)) := Lib.hid (fun h0 ad hA h => by
   obtain ⟨ad', hA', hb, _⟩ := Hs.out.2 h0
   rw [hA] at hA'
   injection hA' with hA'
   subst hA'
   rcases h with h | h
   ·omega
   ·cases h)
  have Hd1 := Lib.hid (Hd.out.mod hm1 (fun h => h))
  have hg0 : g ≠ 2 := by have := Hd.out.1; omega
  have Hg := Lib.hid hg1; have Hm1 := Lib.hid hm1; have Hwr := Lib.hid hwr; have Hg0 := Lib.hid hg0
  have hul : us.length = n := by have := Hs.out.1; rwa [cellsU_length] at this
  have Hul := Lib.hid hul
  clear hg1 hg2 hwr hm1 hg0 hul
  go_wp2_with fail
  refine (xenc_any w.heap.size g none 0 0 n cap A us w1 Hs1.out Hu.out Hm1.out.size Hap.out Hg0.out (by intro h; cases h) Hwr.out Hd1.out (by omega)).mono ?_
  rintro e w2 ⟨rfl, h2⟩
  obtain ⟨row, hwr2, hm2⟩ := h2.done Hg.out Hm1.out
  have hfl := encVals_len us
  rw [Hul.out] at hfl
  have Hwr2 := Lib.hid hwr2; have Hm2 := Lib.hid hm2; have Hfl := Lib.hid hfl
  clear h2 hwr2 hm2 hfl Hs1 Hd1 Hwr
  go_wp2_with fail
  refine (bytes_any g row _ _ w2 Hwr2.out (by have := Hfl.out; omega)).mono ?_
  rintro e w3 ⟨v3, bs, rfl, hnew, hpk⟩
  obtain rfl := hpk.packF
  have Ho3 := Lib.hid (hnew.own.mono Hm2.out.size); have Hm3 := Lib.hid (Hm2.out.trans hnew.2.1 (fun _ _ h => h))
  clear hnew hpk
  go_wp2_with fail
  go_ret2
  exact EncB.of_own Ho3.out Hm3.out
 by_cases h2 : tag = 2
 ·subst h2
  have hcall := psimple_any A n cap us w hs hu hn hk
  obtain ⟨o, ho⟩ : ∃ o, o = (encS (stepsU 0 us)).map words8 := ⟨_, rfl⟩
  rw [← ho] at hcall
  have Ho : Hid (toldK 2 us = o) := Lib.hid ho.symm
  clear ho
  have Hcall := Lib.hid hcall
  clear hs hu hd hk hcall
  go_enter Tryz.func58, Tryz.ntmps58
  go_wp2_with fail
  refine Hcall.out.mono ?_
  intro e w1 he
  obtain ⟨v, rfl, he⟩ := he.parts
  have He := Lib.hid he
  clear he
  go_wp2_with fail
  go_ret2
  rw [Ho.out]
  exact He.out
 by_cases h3 : tag = 3
 ·subst h3
  have hcall := lenc_any A n cap w.heap.size us w hs (Nat.le_refl _) hu hn hcap
  have Hcall := Lib.hid hcall
  clear hs hu hd hk hcall
  go_enter Tryz.func58, Tryz.ntmps58
  go_wp2_with fail
  refine Hcall.out.mono ?_
  rintro e w1 ⟨v, rfl, ho, hm⟩
  have Ho := Lib.hid ho; have Hm := Lib.hid hm
  clear ho hm
  go_wp2_with fail
  go_ret2
  exact EncB.of_own Ho.out Hm.out
 by_cases h4 : tag = 4
 ·subst h4
  have hcall := penc_any A n cap w.heap.size us w hs (Nat.le_refl _) hu hn
  have Hcall := Lib.hid hcall
  clear hs hu hd hk hcall
  go_enter Tryz.func58, Tryz.ntmps58
  go_wp2_with fail
  refine Hcall.out.mono ?_
  rintro e w1 ⟨v, rfl, ho, hm⟩
  have Ho := Lib.hid ho; have Hm := Lib.hid hm
  clear ho hm
  go_wp2_with fail
  go_ret2
  exact EncB.of_own Ho.out Hm.out
 by_cases h5 : tag = 5
 ·subst h5
  have hcall := denc_any A n cap w.heap.size us w hs (Nat.le_refl _) hu hn
  have Hcall := Lib.hid hcall
  clear hs hu hd hk hcall
  go_enter Tryz.func58, Tryz.ntmps58
  go_wp2_with fail
  refine Hcall.out.mono ?_
  intro e w1 he
  obtain ⟨v, rfl, he⟩ := he.parts
  have He := Lib.hid he
  clear he
  go_wp2_with fail
  go_ret2
  exact He.out
 by_cases h6 : tag = 6
 ·subst h6
  have hcall := psame_any A n cap us w hs hu hn
  have Hcall := Lib.hid hcall
  clear hs hu hd hk hcall
  go_enter Tryz.func58, Tryz.ntmps58
  go_wp2_with fail
  refine Hcall.out.mono ?_
  intro e w1 he
  obtain ⟨v, rfl, he⟩ := he.parts
  have He := Lib.hid he
  clear he
  go_wp2_with fail
  go_ret2
  exact He.out
 have b1 : (tag == 1) = false := by simp [h1]
 have b2 : (tag == 2) = false := by simp [h2]
 have b3 : (tag == 3) = false := by simp [h3]
 have b4 : (tag == 4) = false := by simp [h4]
 have b5 : (tag == 5) = false := by simp [h5]
 have b6 : (tag == 6) = false := by simp [h6]
 have Hno : Hid (toldK tag us = none) := Lib.hid (toldK_other h1 h2 h3 h4 h5 h6)
 clear hs hu hd hk h1 h2 h3 h4 h5 h6
 go_enter Tryz.func58, Tryz.ntmps58
 go_wp2_with fail
 go_ret2
 rw [Hno.out]
 exact ⟨rfl, Mod.refl _ _⟩
end Go.Proofs.YthgoppmgapaajaaGreatDoor

/- A row of samples told in a codec: Encode. -/
namespace Go.Proofs.YthgoppmgapaajaaGreatDoor
open Go.RowKit

/-- The tables that lie in memory. -/
structure Tabs (w : World) : Prop where
 wid : Wid w
 deb : Deb w
 kin : Kin w
theorem Tabs.mod {w w' : World} (h : Tabs w) (hm : Mod (fun _ => False) w w') : Tabs w' := ⟨h.wid.mod hm (fun h => h), h.deb.mod hm (fun h => h), h.kin.mod hm (fun h => h)⟩
set_option maxHeartbeats 1000000 in
set_option maxRecDepth 100000 in
theorem kenc_any (tag : Int) (A : Option Addr) (n c : Nat) (l : List (Int × Nat)) (w : World) (hs : RdsS w w.heap.size A n l) (hg : GoodS l) (ht : Tabs w) :
  Calls Tryz.prog 39 #[.int .i64 tag, .slice A n c] w fun e w' => EncB w w' (encK tag l) e := by
 have hl := hs.1
 have hcall := rising_any A n c l w hs
 cases hr : riseB l with
 | false =>
  rw [hr] at hcall
  have Hcall := Lib.hid hcall; have Hno : Hid (encK tag l = none) := Lib.hid (encK_no hr)
  clear hs hg ht hl hcall hr
  go_enter Tryz.func39, Tryz.ntmps39
  go_wp2_with fail
  refine Hcall.out.mono ?_
  rintro e w1 ⟨rfl, hm1⟩
  have Hm1 := Lib.hid hm1
  clear hm1
  go_wp2_with fail
  go_ret2
  exact EncB.of_none Hno.out Hm1.out
 | true =>
  rw [hr] at hcall
  have hn : n ≤ 65535 := by rw [← hl]; exact ((riseB_iff l).1 hr).2
  have Hcall := Lib.hid hcall; have Hs := Lib.hid hs; have Hg := Lib.hid hg; have Ht := Lib.hid ht; have Hr := Lib.hid hr; have Hl := Lib.hid hl
  clear hs hg ht hcall hr hl
  go_enter Tryz.func39, Tryz.ntmps39
  go_wp2_with fail
  refine Hcall.out.mono ?_
  rintro e w1 ⟨rfl, hm1⟩
  have Hs1 := Lib.hid (Hs.out.new hm1).fit; have Hm1 := Lib.hid hm1
  clear hm1 Hs Hcall
  go_wp2_with fail
  refine (parted_any A n c l w1 Hs1.out (by omega)).mono ?_
  rintro e w2 ⟨g1, g2, rfl, hr1, hr2, hg1, hg2, hm2⟩
  have Hr1 := Lib.hid hr1; have Hr2 := Lib.hid hr2
  have Hm2 := Lib.hid (Hm1.out.trans hm2 (fun _ _ h => h))
  have Ht2 := Lib.hid (Ht.out.mod Hm2.out)
  clear hr1 hr2 hg1 hg2 hm2 Hs1 Hm1
  go_wp2_with fail
  refine (pvalues_any tag _ n n (vsOf l) w2 Hr2.out Hg.out.vs (by omega) (Nat.le_refl _) Ht2.out.kin Ht2.out.deb).mono ?_
  intro e w3 he
  cases ho : toldK tag (vsOf l) with
  | none =>
   obtain ⟨rfl, hm3⟩ := EncB.none_ he ho
   have Hm3 := Lib.hid (Hm2.out.trans hm3 (fun _ _ h => h))
   have Hno : Hid (encK tag l = none) := Lib.hid (by unfold encK; rw [Hr.out, if_pos rfl, ho]; rfl)
   clear he ho hm3
   go_wp2_with fail
   go_ret2
   exact EncB.of_none Hno.out Hm3.out
  | some vb =>
   obtain ⟨v3, rfl, ho3, hm3⟩ := EncB.some_ he ho
   have Hyes : Hid (encK tag l = some (enc (tbK l).length ++ (tbK l ++ vb))) := Lib.hid (encK_of Hr.out ho)
   have hvl := toldK_len Hg.out.vs (by rw [vsOf_len, Hl.out]; exact hn) ho
   rw [vsOf_len, Hl.out] at hvl
   obtain ⟨A3, L3, c3, rfl, HL3, _, _, hr3⟩ := own_formN8 ho3
   have hL3 : L3 ≤ 2000000 := by have := HL3.out; omega
   have Hm3 := Lib.hid (Hm2.out.trans hm3 (fun _ _ h => h)); have Hr3 := Lib.hid hr3; have HL3b := Lib.hid hL3
   have Hr13 := Lib.hid (Hr1.out.new hm3).fit; have Hwid3 := Lib.hid ((Ht2.out.mod hm3).wid)
   clear he ho ho3 hm3 hvl hr3 hL3 Hr1 Hr2 Hm2 Ht2
   go_wp2_with fail
   refine (ptimes_any _ n n (tsOf l) w3 Hr13.out Hg.out.ts (by omega) Hwid3.out).mono ?_
   rintro e w4 ⟨v4, rfl, ho4, hm4⟩
   have htl := tbK_len l
   rw [Hl.out] at htl
   have hql := enc_len10 (u := (tbK l).length) (by omega)
   obtain ⟨tb, htb⟩ : ∃ tb, tb = enc (tbK l).length ++ tbK l := ⟨_, rfl⟩
   have hto : Own w3.heap.size w4 5 v4 (cells8 tb) := by rw [htb]; exact ho4
   have htbl : tb.length ≤ 700000 := by rw [htb, List.length_append]; omega
   have Hto := Lib.hid hto; have Htb := Lib.hid htb
   have HR : Hid (Room (cells8 tb).length L3) := Lib.hid (Room.mk _ _ (by rw [cells8_length]; have := HL3b.out; omega))
   have Hone : Hid (∀ u ∈ cells8 vb, u.oneCell' = true) := Lib.hid (cells8_one _)
   have Hm4 := Lib.hid (Hm3.out.trans hm4 (fun _ _ h => h)); have Hr4 := Lib.hid (Hr3.out.new hm4)
   have hsz : w3.heap.size ≤ w4.heap.size := hm4.size
   clear ho4 hm4 htl hql htb hto htbl
   go_wp2_with (at_builtin; refine wpList_app rfl (.tmp 27) (.tmp 28) _ rfl elt8 rfl Hto.out rfl Hr4.out Hone.out HR.out.1 HR.out.2 hsz ?_; intro v5 w5 HO5 HBl5 HG5; clear HG5)
   go_ret2
   have ho5 := HO5.out
   rw [cells8_app, Htb.out, List.append_assoc] at ho5
   exact EncB.of_some Hyes.out (ho5.mono Hm3.out.size) (Hm4.out.trans (Mod.of_below HBl5.out) (fun i hi h => by have := Hm3.out.size; omega))
end Go.Proofs.YthgoppmgapaajaaGreatDoor

/- Bytes are read as values by their list: read, Decode. -/
namespace Go.Proofs.YthgoppmgapaajaaGreatDoor
open Go.RowKit Go.Maps

/-- What read has read of i values. -/
def DRead (w1 w2 wr : World) (g row S : Nat) (l : List Nat) (s0 : Option (Nat × Nat)) (i : Nat) (v : Value) : Prop :=
 Own w2.heap.size wr 34 v (cellsU (outD l (rdW S i s0))) ∧ RdrO wr g row (lfW S i s0) ∧ Mod (fun _ => False) w1 wr ∧ w2.heap.size ≤ wr.heap.size ∧ ∀ j ∈ rdW S i s0, j < l.length
set_option maxHeartbeats 4000000 in
set_option maxRecDepth 100000 in
theorem dread_any (A : Option Addr) (n cap B N : Nat) (bs : List Nat) (w : World) (hs : Rds w B A n (cells8 bs)) (hB : B ≤ w.heap.size) (hlt : lt256 bs) (hnc : n ≤ cap) (hcm : cap ≤ maxLen) (hn : n ≤ 1000000) (hN : N ≤ 65535) :
  Calls Tryz.prog 129 #[.slice A n cap, .int .i64 (N : Int)] w fun e w' => ∃ o, EncE w w' o e ∧ ReadD N bs o := by
 have hul : bs.length = n := by have := hs.1; rwa [cells8_length] at this
 by_cases hN0 : N = 0
 ·subst hN0
  clear hs
  go_enter Tryz.func129, Tryz.ntmps129
  go_wp2_with fail
  go_ret2
  exact ⟨some [], ⟨_, rfl, Own.nil _ _ _, Mod.refl _ _⟩, readD_nought bs⟩
 ·have hNb : ((N : Int) == 0) = false := by simp; omega
  have Hcall := Lib.hid (getList_any A n cap B bs w hs hB hlt hnc hcm)
  have Hlt := Lib.hid hlt; have Hul := Lib.hid hul
  clear hs hlt hul hcm hnc
  go_enter Tryz.func129, Tryz.ntmps129
  go_wp2_with fail
  refine Hcall.out.mono ?_
  rintro e w1 ⟨A1, L, c1, l, A2, n2, c2, rfl, ho1, hl1, hm1, hor⟩
  have Ho1 := Lib.hid ho1; have Hl1 := Lib.hid hl1; have Hm1 := Lib.hid hm1
  clear ho1 hl1 hm1 Hcall
  rcases hor with ⟨hL0, hno⟩ | ⟨hL0, rest, hgl, hr2, hA2, hnc2, hcm2⟩
  ·have hLb : ((L : Int) == 0) = true := by simp; omega
   have Hd : Hid (decD N bs = none) := Lib.hid (decD_noL hN0 hno)
   clear hno hL0
   go_wp2_with fail
   go_ret2
   exact ⟨none, ⟨rfl, Hm1.out⟩, Hd.out⟩
  ·have hLb : ((L : Int) == 0) = false := by simp; omega
   obtain ⟨a1, a2, a3, a4, a5, _⟩ := getL_some Hlt.out hgl
   have hL256 : L ≤ 256 := by have := Hl1.out; omega
   obtain ⟨g1, c1', e1, hg1, hg1l⟩ := Ho1.out.form' (by rw [cellsU_length, Hl1.out]; omega)
   rw [cellsU_length, Hl1.out] at e1
   injection e1 with e1 _ e2
   subst e1 e2
   have hrl : rest.length = n2 := by have := hr2.1; rwa [cells8_length] at this
   have hn2 : n2 ≤ 1000000 := by have := Hul.out; omega
   obtain ⟨S, hS⟩ : ∃ S, wid (L - 1) = S := ⟨_, rfl⟩
   have hS8 : S ≤ 64 := by rw [← hS]; exact wid_le _
   have hS' : wid (l.length - 1) = S := by rw [Hl1.out]; exact hS
   have Hsize : Hid (∀ W, Calls Tryz.prog 100 #[.slice (some ⟨g1, 0, none⟩) L c1] W fun e w' => e = .returned (.int .i64 (S : Int)) ∧ W = w') := Lib.hid (fun W => dsize_any _ L c1 S W hL0 (by omega) hS)
   have hw0 : 0 < w1.heap.size := by omega
   obtain ⟨row0, hsee, _⟩ := hr2.sees hw0
   have Hnew := Lib.hid (newReader_any row0 A2 n2 c2 rest w1 hsee (fun h => absurd h hA2) (by omega) a4)
   obtain ⟨q, hq⟩ : ∃ q, q = N * S := ⟨_, rfl⟩
   have hqi : (N : Int) * (S : Int) = (q : Int) := by rw [hq, Int.natCast_mul]
   have hq9 : q ≤ 65535 * 64 := by rw [hq]; exact Nat.mul_le_mul hN hS8
   have hqb : q ≤ 4194240 := hq9
   obtain ⟨s0, hs0⟩ : ∃ s0, s0 = some (val rest, 8 * rest.length) := ⟨_, rfl⟩
   have Hgl := Lib.hid hgl; have Ha3 := Lib.hid a3; have Hrl := Lib.hid hrl; have HS' := Lib.hid hS'; have Hw0 := Lib.hid hw0; have Hq := Lib.hid hq; have Hs0 := Lib.hid hs0; have HL0 := Lib.hid hL0
   clear hgl a1 a2 a3 a4 a5 hg1 hg1l hr2 hA2 hnc2 hcm2 hrl hS hS' hw0 hsee hq hs0 hq9 hL0
   go_wp2_with fail
   refine Hnew.out.mono ?_
   rintro e w2 ⟨g, rowr, rfl, hg2, _, hm2, hrd⟩
   have hgl := hrd.lt
   obtain ⟨row, hrow, _, hrd'⟩ := hrd.real (by have := Hw0.out; omega) (by omega)
   have Hrd := Lib.hid hrd'; have Hm2 := Lib.hid hm2; have Hg2 := Lib.hid hg2; have Hgl2 := Lib.hid hgl; have Hrow := Lib.hid hrow
   clear hg2 hm2 hrd hgl hrow hrd' Hnew
   go_wp2_with fail
   refine (left_ab g row _ _ true w2 Hrd.out (by omega)).mono ?_
   rintro e w3 ⟨rfl, hm3⟩
   have R0 : Hid (DRead w1 w2 w3 g row S l s0 0 (.slice none 0 0)) := Lib.hid ⟨Own.nil _ _ _, by
    have h := Hrd.out.mod hm3 (fun h => h) (fun _ h => h)
    rw [Hs0.out]
    exact ⟨by rw [Hrl.out]; exact h, by rw [Hrl.out]; omega⟩, Hm2.out.trans hm3 (fun _ _ h => h), hm3.size, fun _ h => by cases h⟩
   clear hm3
   obtain ⟨e8, he8⟩ : ∃ e8, e8 = 8 * n2 := ⟨_, rfl⟩
   rw [← he8]
   have he8b : e8 ≤ 8000000 := by omega
   have He8 := Lib.hid he8
   clear he8
   go_wp2_with fail
   refine (Hsize.out _).mono ?_
   rintro e w4 ⟨rfl, rfl⟩
   by_cases hfew : e8 < q
   ·have hfi : (e8 : Int) < (q : Int) := by omega
    have Hd : Hid (decD N bs = none) := Lib.hid (decD_few Hlt.out hN0 Hgl.out HS'.out (by rw [Hrl.out, ← Hq.out, ← He8.out]; exact hfew))
    clear hfew
    go_wp2_with fail
    go_ret2
    exact ⟨none, ⟨rfl, Hm1.out.trans R0.out.2.2.1 (fun _ _ h => h)⟩, Hd.out⟩
   ·have hfi : ¬ (e8 : Int) < (q : Int) := by omega
    have hfd : decide (e8 < q) = false := by simp; omega
    clear hfew
    go_wp2_with fail
    go_loopg [9, 31] N (fun l' s9 s31 wr => ∃ i : Nat, i + l' = N ∧ s31 = .int .i64 (i : Int) ∧ DRead w1 w2 wr g row S l s0 i s9)
    case atStart => exact ⟨0, by omega, rfl, R0.out⟩
    case round =>
     obtain ⟨i, hil, rfl, hown, hro, hm, hsz1, hall⟩ := hrel
     have Hown := Lib.hid hown; have Hro := Lib.hid hro; have Hm := Lib.hid hm; have Hil := Lib.hid hil; have Hsz1 := Lib.hid hsz1; have Hall := Lib.hid hall
     clear hown hro hm hil hsz1 hall R0
     by_cases hin : i < N
     ·go_wp2_with fail
      refine (Hsize.out _).mono ?_
      rintro e w4 ⟨rfl, rfl⟩
      go_wp2_with fail
      refine (get_o g row S _ _ wr rfl hS8 Hro.out).mono ?_
      rintro e w3 ⟨rfl, h3, hm3⟩
      obtain ⟨x, hx⟩ : ∃ x, x = (getO S (lfW S i s0)).1 := ⟨_, rfl⟩
      rw [← hx]
      have hx64 : x < 2 ^ 64 := by rw [hx]; exact getO_lt64 hS8 Hro.out.small
      have Hx64 : Hid (Lt64 x) := Lib.hid hx64
      have Hxn : Hid (rdW S (i + 1) s0 = rdW S i s0 ++ [x]) := Lib.hid (by rw [hx, rdW_next])
      have Hxa : Hid ((rdW S N s0)[i]? = some x) := Lib.hid (by rw [rdW_at hin, rd1_getO, hx])
      rw [← lfW_next] at h3
      have Hro3 := Lib.hid h3
      have Hm3 := Lib.hid (Hm.out.trans hm3 (fun i hi h => by have := Hg2.out; omega))
      have Hown3 : Hid (Own w2.heap.size w3 34 u9 (cellsU (outD l (rdW S i s0)))) := Lib.hid (hm3.owns Hown.out (fun k hk e => by have := (Hown.out.block k hk).1; have := Hgl2.out; omega))
      have hsz3 : w2.heap.size ≤ w3.heap.size := Nat.le_trans Hsz1.out hm3.size
      clear hx h3 hm3 Hown Hro Hm hx64
      by_cases hxl : x < L
      ·have hxi : ¬ (L : Int) ≤ (x : Int) := by omega
       have hxi' : (x : Int) < (L : Int) := by omega
       have hx0 : (0 : Int) ≤ (x : Int) := by omega
       obtain ⟨y, hy⟩ : ∃ y, l[x]? = some y := ⟨l[x]'(by rw [Hl1.out]; exact hxl), List.getElem?_eq_getElem _⟩
       have hcy : w3.cell? ⟨g1, x, none⟩ = some (.int .u64 (y : Int)) := by
        rw [(Ho1.out.mod Hm3.out).cell' rfl x (by rw [cellsU_length, Hl1.out]; exact hxl), cellsU_get, hy]
        rfl
       have Hxo : Hid (outD l (rdW S (i + 1) s0) = outD l (rdW S i s0) ++ [y]) := Lib.hid (by rw [Hxn.out, outD_snoc, List.getD_eq_getElem?_getD, hy]; rfl)
       have Hall2 : Hid (∀ j ∈ rdW S (i + 1) s0, j < l.length) := Lib.hid (by
        rw [Hxn.out]
        intro j hj
        rcases List.mem_append.1 hj with hj | hj
        ·exact Hall.out j hj
        ·rw [List.mem_singleton.1 hj, Hl1.out]; exact hxl)
       have hr1 : (cellsU (outD l (rdW S i s0))).length + 1 ≤ maxLen := by rw [cellsU_length, outD_len, rdW_len]; unfold maxLen; omega
       have hr2 : ((cellsU (outD l (rdW S i s0))).length + 1) * 8 ≤ 140737488355328 := by rw [cellsU_length, outD_len, rdW_len]; omega
       have Hr1 := Lib.hid hr1; have Hr2 := Lib.hid hr2
       clear hy hr1 hr2 hxl
       go_wp2_with (at_builtin; refine wpList_app1 rfl (.tmp 42) (.tmp 47) _ rfl eltU rfl Hown3.out rfl rfl rfl Hr1.out Hr2.out hsz3 ?_; intro v' w4 HO HBl)
       have HU : Hid (DRead w1 w2 w4 g row S l s0 (i + 1) v') := Lib.hid ⟨by rw [Hxo.out, cellsU_snoc]; exact HO.out, Hro3.out.mod (Mod.of_below HBl.out) (by have := Hgl2.out; omega) (fun _ => by have := Hrow.out; omega), Hm3.out.trans (Mod.of_below HBl.out) (fun i hi h => by have := Hm2.out.size; omega), Nat.le_trans hsz3 HBl.out.size, Hall2.out⟩
       clear HO HBl
       go_roundg (gk - 1)
       case measure => have := Hil.out; omega
       case rel => exact ⟨i + 1, by have := Hil.out; omega, by go_num, HU.out⟩
      ·have hxi : (L : Int) ≤ (x : Int) := by omega
       have Hd : Hid (decD N bs = none) := Lib.hid (readD_far Hlt.out hN0 Hgl.out (by rw [Hl1.out]; exact HL0.out) HS'.out (by rw [← Hs0.out]; exact Hxa.out) (by rw [Hl1.out]; omega))
       clear hxl
       go_wp2_with fail
       go_ret2
       exact ⟨none, ⟨rfl, Hm1.out.trans Hm3.out (fun _ _ h => h)⟩, Hd.out⟩
     ·have hi : i = N := by have := Hil.out; omega
      subst hi
      go_wp2_with fail
      go_ret2
      have h := readD_done Hlt.out hN0 Hgl.out (by rw [Hl1.out]; exact HL0.out) HS'.out (by rw [← Hs0.out]; exact Hall.out)
      rw [← Hs0.out] at h
      exact ⟨some (outD l (rdW S i s0)), ⟨_, rfl, Hown.out.mono (Nat.le_trans Hm1.out.size Hm2.out.size), Hm1.out.trans Hm.out (fun _ _ h => h)⟩, h⟩
set_option maxHeartbeats 1000000 in
set_option maxRecDepth 100000 in
theorem ddec_any (A : Option Addr) (n cap B N : Nat) (m : Int) (bs : List Nat) (w : World) (hs : Rds w B A n (cells8 bs)) (hB : B ≤ w.heap.size) (hlt : lt256 bs) (hnc : n ≤ cap) (hcm : cap ≤ maxLen) (hn : n ≤ 1000000) (hN : max 0 (min m 65535) = (N : Int)) :
  Calls Tryz.prog 109 #[.slice A n cap, .int .i64 m] w fun e w' => EncE w w' (decD N bs) e := by
 have Hs := Lib.hid hs; have Hlt := Lib.hid hlt; have HB := Lib.hid hB; have Hcm := Lib.hid hcm
 obtain ⟨mn, hmn⟩ : ∃ mn : Int, min m 65535 = mn := ⟨_, rfl⟩
 have hmin := minI_is (P := Tryz.prog) (t := 3) (ty := 3) hmn
 have hmax := maxI_is (P := Tryz.prog) (t := 3) (ty := 3) (n1 := 0) (n2 := mn) (m := (N : Int)) (by rw [← hmn]; exact hN)
 have hN65 : N ≤ 65535 := by omega
 clear hs hlt hB hcm hN hmn
 go_enter Tryz.func109, Tryz.ntmps109
 go_wp2_with fail
 clear hmin hmax
 refine (dread_any A n cap B N bs w Hs.out HB.out Hlt.out hnc Hcm.out hn hN65).mono ?_
 rintro e w1 ⟨o, hE, hR⟩
 cases o with
 | none =>
  obtain ⟨rfl, hm1⟩ := hE.none_ rfl
  have Hm1 := Lib.hid hm1; have HR : Hid (decD N bs = none) := Lib.hid hR
  clear hE hR hm1
  go_wp2_with fail
  go_ret2
  rw [HR.out]
  exact ⟨rfl, Hm1.out⟩
 | some v =>
  obtain ⟨V, rfl, ho1, hm1⟩ := hE.some_ rfl
  obtain ⟨hvl, hv64, hdec⟩ := hR
  obtain ⟨A1, L, c1, rfl, HL, hLc, hr1⟩ := own_formUN ho1
  have hLN : L ≤ 1000000 := by have := HL.out; omega
  have Hm1 := Lib.hid hm1; have Hr1 := Lib.hid hr1; have Ho1 := Lib.hid ho1; have Hv64 := Lib.hid hv64; have Hdec := Lib.hid hdec
  clear hE hm1 hr1 ho1 hv64 hdec hvl
  go_wp2_with fail
  refine (denc_any A1 L c1 _ v w1 Hr1.out (Nat.le_refl _) Hv64.out hLN).mono ?_
  intro e w2 hE2
  cases he : encD v with
  | none =>
   obtain ⟨rfl, hm2⟩ := hE2.none_ he
   have Hm2 := Lib.hid (Hm1.out.trans hm2 (fun _ _ h => h))
   have Hd : Hid (decD N bs = none) := Lib.hid (by rw [Hdec.out, he, if_neg (fun e => by cases e)])
   clear hE2 hm2 he
   go_wp2_with fail
   go_ret2
   rw [Hd.out]
   exact ⟨rfl, Hm2.out⟩
  | some cs =>
   obtain ⟨v2, rfl, ho2, hm2⟩ := hE2.some_ he
   obtain ⟨A2, L2, c2, rfl, _, _, _, hr2⟩ := own_formN8 ho2
   have Hr2 := Lib.hid hr2; have Hm2 := Lib.hid (Hm1.out.trans hm2 (fun _ _ h => h)); have Ho12 := Lib.hid (Ho1.out.mod hm2)
   have Hs2 := Lib.hid (Hs.out.mod Hm2.out HB.out (fun _ _ h => h))
   have Hcs := Lib.hid (encD_256 he); have Hdec2 : Hid (decD N bs = if cs = bs then some v else none) := Lib.hid (by rw [Hdec.out, he]; by_cases h : cs = bs <;> simp [h])
   clear hm2 hr2 ho2 hE2 he Hdec
   go_wp2_with fail
   refine (bequal_any A2 A L2 n c2 cap _ B cs bs w2 Hr2.out Hs2.out Hcs.out Hlt.out).mono ?_
   rintro e w3 ⟨rfl, hm3⟩
   have Hm3 := Lib.hid (Hm2.out.trans hm3 (fun _ _ h => h)); have Ho13 := Lib.hid (Ho12.out.mod hm3)
   clear hm3
   by_cases he : cs = bs
   ·have hde : decide (cs = bs) = true := decide_eq_true he
    rw [hde]
    have Hd : Hid (decD N bs = some v) := Lib.hid (by rw [Hdec2.out, if_pos he])
    clear he hde
    go_wp2_with fail
    go_ret2
    rw [Hd.out]
    exact ⟨_, rfl, Ho13.out, Hm3.out⟩
   ·have hde : decide (cs = bs) = false := decide_eq_false he
    rw [hde]
    have Hd : Hid (decD N bs = none) := Lib.hid (by rw [Hdec2.out, if_neg he])
    clear he hde
    go_wp2_with fail
    go_ret2
    rw [Hd.out]
    exact ⟨rfl, Hm3.out⟩
end Go.Proofs.YthgoppmgapaajaaGreatDoor

/- Bytes are read as values by their least: read, Decode. -/
namespace Go.Proofs.YthgoppmgapaajaaGreatDoor
open Go.RowKit

/-- What read tells of bytes. -/
def ReadP (N : Nat) (bs : List Nat) : Option (List Nat) → Prop
 | none => decP N bs = none
 | some v => v.length = N ∧ (∀ x ∈ v, x < 2 ^ 64) ∧ decP N bs = if encP v = bs then some v else none
theorem readP_nought (bs : List Nat) : ReadP 0 bs (some []) := by
 refine ⟨rfl, (fun _ h => by cases h), ?_⟩
 unfold decP
 rw [if_pos rfl, encP_nil]
 by_cases h : bs = []
 ·rw [if_pos h, if_pos h.symm]
 ·rw [if_neg h, if_neg (fun e => h e.symm)]
theorem decP_early {N : Nat} {bs : List Nat} (hN : ¬ N = 0) (h : (dec bs).2 = 0 ∨ bs.length ≤ (dec bs).2) : decP N bs = none := by
 unfold decP
 rw [if_neg hN, if_pos (h.elim .inl (fun h => .inr (.inl h)))]
theorem encP_head {N : Nat} {v bs : List Nat} (hN : ¬ N = 0) (hl : v.length = N) (hv : ∀ x ∈ v, x < 2 ^ 64) (e : encP v = bs) : bs.getD (dec bs).2 0 = widV v ∧ bs.drop ((dec bs).2 + 1) = packW (widV v) (difV v) := by
 subst e
 obtain ⟨h1, h2, h3, _⟩ := encP_parts (v := v) (by rintro rfl; exact hN hl.symm) hv
 rw [h1]
 exact ⟨h2, h3⟩
theorem decP_few {N : Nat} {bs : List Nat} (hN : ¬ N = 0) (h : 8 * (bs.drop ((dec bs).2 + 1)).length < N * bs.getD (dec bs).2 0) : decP N bs = none :=
 decP_none fun v hl hv e => by
  obtain ⟨h1, h2⟩ := encP_head hN hl hv e
  rw [h1, h2, packW_len, difV_len, hl, Nat.mul_comm (widV v) N] at h
  omega
/-- What the numbers that were read are. -/
def addL (lo : Nat) (l : List Nat) : List Nat := l.map fun x => (x + lo) % 2 ^ 64
theorem addL_len (lo : Nat) (l : List Nat) : (addL lo l).length = l.length := by simp [addL]
theorem addL_snoc (lo : Nat) (l : List Nat) (x : Nat) : addL lo (l ++ [x]) = addL lo l ++ [(x + lo) % 2 ^ 64] := by simp [addL]
theorem addL_lt (lo : Nat) (l : List Nat) : ∀ x ∈ addL lo l, x < 2 ^ 64 := by
 intro x hx
 obtain ⟨y, _, rfl⟩ := List.mem_map.1 hx
 exact Nat.mod_lt _ (Nat.two_pow_pos 64)
theorem readP_done {N k sz lo : Nat} {bs : List Nat} (hN : ¬ N = 0) (h1 : ¬ (dec bs).2 = 0) (h2 : ¬ bs.length ≤ (dec bs).2) (hsz : bs.getD (dec bs).2 0 = sz) (hlo : (dec bs).1 = lo) (hk : k = min sz 64) :
  ReadP N bs (some (addL lo (rdW k N (some (val (bs.drop ((dec bs).2 + 1)), 8 * (bs.drop ((dec bs).2 + 1)).length))))) := by
 refine ⟨by rw [addL_len, rdW_len], addL_lt _ _, ?_⟩
 by_cases h64 : 64 < sz
 ·rw [if_neg (fun e => by
   have := (encP_head hN (by rw [addL_len, rdW_len]) (addL_lt _ _) e).1
   rw [hsz] at this
   have hw := widV_le (addL lo (rdW k N (some (val (bs.drop ((dec bs).2 + 1)), 8 * (bs.drop ((dec bs).2 + 1)).length))))
   omega)]
  unfold decP
  rw [if_neg hN, if_pos (.inr (.inr (by rw [hsz]; exact h64)))]
 ·have e : addL lo (rdW k N (some (val (bs.drop ((dec bs).2 + 1)), 8 * (bs.drop ((dec bs).2 + 1)).length))) = outP N bs := by
   unfold outP
   rw [hsz, hlo, show k = sz by omega]
   rfl
  rw [e]
  unfold decP
  rw [if_neg hN, if_neg (by rw [hsz]; rintro (h | h | h); exact h1 h; exact h2 h; exact h64 h)]
/-- What read has read of i numbers. -/
def ReadTo (w w1 wr : World) (g row k lo : Nat) (s0 : Option (Nat × Nat)) (i : Nat) (v : Value) : Prop :=
 Own w1.heap.size wr 34 v (cellsU (addL lo (rdW k i s0))) ∧ RdrO wr g row (lfW k i s0) ∧ Mod (fun _ => False) w wr ∧ w1.heap.size ≤ wr.heap.size
set_option maxHeartbeats 4000000 in
set_option maxRecDepth 100000 in
theorem pread_any (A : Option Addr) (n cap B N : Nat) (bs : List Nat) (w : World) (hs : Rds w B A n (cells8 bs)) (hB : B ≤ w.heap.size) (hlt : lt256 bs) (hnc : n ≤ cap) (hcm : cap ≤ maxLen) (hn : n ≤ 1000000) (hN : N ≤ 65535) :
  Calls Tryz.prog 128 #[.slice A n cap, .int .i64 (N : Int)] w fun e w' => ∃ o, EncE w w' o e ∧ ReadP N bs o := by
 have hul : bs.length = n := by have := hs.1; rwa [cells8_length] at this
 by_cases hN0 : N = 0
 ·subst hN0
  clear hs
  go_enter Tryz.func128, Tryz.ntmps128
  go_wp2_with fail
  go_ret2
  exact ⟨some [], ⟨_, rfl, Own.nil _ _ _, Mod.refl _ _⟩, readP_nought bs⟩
 ·have hNb : ((N : Int) == 0) = false := by simp; omega
  have hcall := vget_any A n cap B bs w hs hlt hnc hcm
  obtain ⟨lo, hlo⟩ : ∃ lo, (dec bs).1 = lo := ⟨_, rfl⟩
  obtain ⟨a, ha⟩ : ∃ a, (dec bs).2 = a := ⟨_, rfl⟩
  rw [hlo, ha] at hcall
  have Hcall := Lib.hid hcall
  have Hlo := Lib.hid hlo; have Ha := Lib.hid ha; have Hlt := Lib.hid hlt; have HB := Lib.hid hB; have Hul := Lib.hid hul; have Hcm := Lib.hid hcm; have Hs := Lib.hid hs
  have hlo64 : Hid (lo < 2 ^ 64) := Lib.hid (by rw [← hlo]; exact dec_lt hlt)
  have hal : a ≤ n := by
   rw [← ha, ← hul]
   rcases Nat.eq_zero_or_pos (dec bs).2 with h | h
   ·omega
   ·exact (dec_some hlt h).1
  clear hcall hlo ha hlt hB hul hs hcm
  by_cases ha0 : a = 0
  ·have hab : ((a : Int) == 0) = true := by simp; omega
   have Hd : Hid (decP N bs = none) := Lib.hid (decP_early hN0 (.inl (by rw [Ha.out]; exact ha0)))
   clear Hs ha0
   go_enter Tryz.func128, Tryz.ntmps128
   go_wp2_with fail
   refine Hcall.out.mono ?_
   rintro e w' ⟨rfl, rfl⟩
   go_wp2_with fail
   go_ret2
   exact ⟨none, ⟨rfl, Mod.refl _ _⟩, Hd.out⟩
  ·have hab : ((a : Int) == 0) = false := by simp; omega
   by_cases han : a = n
   ·have hann : ((a : Int) == (n : Int)) = true := by simp; omega
    have Hd : Hid (decP N bs = none) := Lib.hid (decP_early hN0 (.inr (by rw [Ha.out, Hul.out]; omega)))
    clear Hs ha0 han hal
    go_enter Tryz.func128, Tryz.ntmps128
    go_wp2_with fail
    refine Hcall.out.mono ?_
    rintro e w' ⟨rfl, rfl⟩
    go_wp2_with fail
    go_ret2
    exact ⟨none, ⟨rfl, Mod.refl _ _⟩, Hd.out⟩
   ·have hann : ((a : Int) == (n : Int)) = false := by simp; omega
    have hani : (a : Int) < (n : Int) := by omega
    have ha0i : (0 : Int) ≤ (a : Int) := by omega
    obtain ⟨ad, u, rfl, _, hu, hcu⟩ := Hs.out.at_ (show a < n by omega)
    rw [cells8_get] at hu
    obtain ⟨sz, hsz, rfl⟩ := Option.map_eq_some_iff.1 hu
    have hsz256 : sz < 256 := Hlt.out sz (List.mem_of_getElem? hsz)
    have Hsz : Hid (bs.getD (dec bs).2 0 = sz) := Lib.hid (by rw [Ha.out, List.getD_eq_getElem?_getD, hsz]; rfl)
    obtain ⟨p, hp⟩ : ∃ p, p = a + 1 := ⟨_, rfl⟩
    have hpi : (a : Int) + 1 = (p : Int) := by omega
    have hpn : p ≤ n := by omega
    obtain ⟨A1, hA1⟩ : ∃ A1, (if cap = p then some ad else some (ad.add p)) = A1 := ⟨_, rfl⟩
    have hr1 : Rds w B A1 (n - p) (cells8 (bs.drop p)) := by
     have h := Hs.out.drop hpn hnc
     rw [show (cells8 bs).drop p = cells8 (bs.drop p) by simp [cells8, List.map_drop]] at h
     rw [← hA1]
     exact h
    have hA1n : A1 ≠ none := by rw [← hA1]; split <;> simp
    have hw0 : 0 < w.heap.size := (Hs.out.some_mem HB.out (by omega)).1
    obtain ⟨row0, hsee, _⟩ := (hr1.more HB.out).sees hw0
    have hlt2 : lt256 (bs.drop p) := fun b hb => Hlt.out b (List.mem_of_mem_drop hb)
    have hbd : (bs.drop p).length = n - p := by rw [List.length_drop, Hul.out]
    obtain ⟨q, hq⟩ : ∃ q, q = N * sz := ⟨_, rfl⟩
    have hqi : (N : Int) * (sz : Int) = (q : Int) := by rw [hq, Int.natCast_mul]
    have hq9 : q ≤ 65535 * 255 := by rw [hq]; exact Nat.mul_le_mul hN (by omega)
    have hqb : q ≤ 16711425 := hq9
    obtain ⟨k, hk⟩ : ∃ k, k = min sz 64 := ⟨_, rfl⟩
    have hk64 : k ≤ 64 := by omega
    have hki : max 0 (min (sz : Int) 64) = (k : Int) := by omega
    obtain ⟨s0, hs0⟩ : ∃ s0, s0 = some (val (bs.drop p), 8 * (bs.drop p).length) := ⟨_, rfl⟩
    have hpc : p ≤ cap := by omega
    have hpci : (p : Int) ≤ (cap : Int) := by omega
    have hpni : (p : Int) ≤ (n : Int) := by omega
    have hp0 : (0 : Int) ≤ (p : Int) := by omega
    have Hsee := Lib.hid hsee; have Hlt2 := Lib.hid hlt2; have Hbd := Lib.hid hbd; have Hq := Lib.hid hq; have Hk := Lib.hid hk; have Hs0 := Lib.hid hs0; have Hp := Lib.hid hp; have HA1n := Lib.hid hA1n; have Hw0 := Lib.hid hw0; have Hki := Lib.hid hki
    have hnew := fun c => newReader_any row0 A1 (n - p) c (bs.drop p) w Hsee.out (fun h => absurd h HA1n.out) (by omega) Hlt2.out
    have Hnew := Lib.hid hnew
    clear hu hsz hr1 hA1n hw0 hsee hlt2 hbd hq hk hs0 hp hki hnew hq9
    go_enter Tryz.func128, Tryz.ntmps128
    go_wp2_with fail
    refine Hcall.out.mono ?_
    rintro e w' ⟨rfl, rfl⟩
    go_wp2_with fail
    refine (Hnew.out _).mono ?_
    rintro e w1 ⟨g, rowr, rfl, hg1, _, hm1, hrd⟩
    have hgl := hrd.lt
    obtain ⟨row, hrow, _, hrd'⟩ := hrd.real (by have := Hw0.out; omega) (by omega)
    have Hrd := Lib.hid hrd'; have Hm1 := Lib.hid hm1; have Hg1 := Lib.hid hg1; have Hgl := Lib.hid hgl; have Hrow := Lib.hid hrow
    clear hg1 hm1 hrd hgl hrow hrd' hcu
    go_wp2_with fail
    refine (left_ab g row _ _ true w1 Hrd.out (by omega)).mono ?_
    rintro e w2 ⟨rfl, hm2⟩
    have Hm2 := Lib.hid (Hm1.out.trans hm2 (fun _ _ h => h))
    have R0 : Hid (ReadTo w w1 w2 g row k lo s0 0 (.slice none 0 0)) := Lib.hid ⟨Own.nil _ _ _, by
     have h := Hrd.out.mod hm2 (fun h => h) (fun _ h => h)
     rw [Hs0.out]
     exact ⟨by rw [Hbd.out]; exact h, by rw [Hbd.out]; omega⟩, Hm2.out, hm2.size⟩
    clear hm2
    by_cases hfew : 8 * (n - p) < q
    ·obtain ⟨e8, he8⟩ : ∃ e8, e8 = 8 * (n - p) := ⟨_, rfl⟩
     rw [← he8] at hfew ⊢
     have hfi : (e8 : Int) < (q : Int) := by omega
     have Hd : Hid (decP N bs = none) := Lib.hid (decP_few hN0 (by rw [Hsz.out, Ha.out, ← Hp.out, Hbd.out, ← Hq.out, ← he8]; exact hfew))
     clear he8 hfew
     go_wp2_with fail
     go_ret2
     exact ⟨none, ⟨rfl, Hm2.out⟩, Hd.out⟩
    ·obtain ⟨e8, he8⟩ : ∃ e8, e8 = 8 * (n - p) := ⟨_, rfl⟩
     rw [← he8] at hfew ⊢
     have hfi : ¬ (e8 : Int) < (q : Int) := by omega
     have he8b : e8 ≤ 8000000 := by omega
     have hfd : decide (e8 < q) = false := by simp; omega
     clear he8 hfew
     go_wp2_with fail
     go_loopg [10, 43] N (fun l s10 s43 wr => ∃ i : Nat, i + l = N ∧ s43 = .int .i64 (i : Int) ∧ ReadTo w w1 wr g row k lo s0 i s10)
     case atStart => exact ⟨0, by omega, rfl, R0.out⟩
     case round =>
      obtain ⟨i, hil, rfl, hown, hro, hm, hsz1⟩ := hrel
      have Hown := Lib.hid hown; have Hro := Lib.hid hro; have Hm := Lib.hid hm; have Hil := Lib.hid hil; have Hsz1 := Lib.hid hsz1
      clear hown hro hm hil hsz1 R0
      by_cases hin : i < N
      ·go_wp2_with fail
       refine (get_oh g row k (sz : Int) _ wr ⟨by omega, by omega⟩ Hki.out Hro.out).mono ?_
       rintro e w3 ⟨rfl, h3, hm3⟩
       obtain ⟨x, hx⟩ : ∃ x, x = (getO k (lfW k i s0)).1 := ⟨_, rfl⟩
       have hx64 : x < 2 ^ 64 := by rw [hx]; exact getO_lt64 hk64 Hro.out.small
       rw [← hx]
       obtain ⟨y, hy⟩ : ∃ y, y = (x + lo) % 2 ^ 64 := ⟨_, rfl⟩
       have hyw : IntKind.u64.wrap ((lo : Int) + (x : Int)) = (y : Int) := by rw [IntKind.wrap_u64]; omega
       have Hx : Hid (addL lo (rdW k (i + 1) s0) = addL lo (rdW k i s0) ++ [y]) := Lib.hid (by rw [hy, hx, rdW_next, addL_snoc])
       rw [← lfW_next] at h3
       have Hro3 := Lib.hid h3
       have Hown3 : Hid (Own w1.heap.size w3 34 u10 (cellsU (addL lo (rdW k i s0)))) := Lib.hid (hm3.owns Hown.out (fun k hk e => by have := (Hown.out.block k hk).1; have := Hgl.out; omega))
       have Hm3 := Lib.hid (Hm.out.trans hm3 (fun i hi h => by have := Hg1.out; omega))
       have hsz3 : w1.heap.size ≤ w3.heap.size := Nat.le_trans Hsz1.out hm3.size
       have hr1 : (cellsU (addL lo (rdW k i s0))).length + 1 ≤ maxLen := by rw [cellsU_length, addL_len, rdW_len]; unfold maxLen; omega
       have hr2 : ((cellsU (addL lo (rdW k i s0))).length + 1) * 8 ≤ 140737488355328 := by rw [cellsU_length, addL_len, rdW_len]; omega
       have Hr1 := Lib.hid hr1; have Hr2 := Lib.hid hr2
       clear hx h3 hm3 hr1 hr2 Hown Hro Hm hy hx64
       go_wp2_with (at_builtin; refine wpList_app1 rfl (.tmp 45) (.tmp 51) _ rfl eltU rfl Hown3.out rfl rfl rfl Hr1.out Hr2.out hsz3 ?_; intro v' w4 HO HBl)
       have HU : Hid (ReadTo w w1 w4 g row k lo s0 (i + 1) v') := Lib.hid ⟨by rw [Hx.out, cellsU_snoc]; exact HO.out, Hro3.out.mod (Mod.of_below HBl.out) (by have := Hgl.out; omega) (fun _ => by have := Hrow.out; omega), Hm3.out.trans (Mod.of_below HBl.out) (fun i hi h => by have := Hm1.out.size; omega), Nat.le_trans hsz3 HBl.out.size⟩
       clear HO HBl
       go_roundg (gk - 1)
       case measure => have := Hil.out; omega
       case rel => exact ⟨i + 1, by have := Hil.out; omega, by go_num, HU.out⟩
      ·have hi : i = N := by have := Hil.out; omega
       subst hi
       go_wp2_with fail
       go_ret2
       refine ⟨some (addL lo (rdW k i s0)), ⟨_, rfl, Hown.out.mono Hm1.out.size, Hm.out⟩, ?_⟩
       have h := readP_done (N := i) (bs := bs) hN0 (by rw [Ha.out]; exact ha0) (by rw [Ha.out, Hul.out]; omega) Hsz.out Hlo.out Hk.out
       rw [Ha.out, ← Hp.out, ← Hs0.out] at h
       exact h
set_option maxHeartbeats 1000000 in
set_option maxRecDepth 100000 in
theorem pdec_any (A : Option Addr) (n cap B N : Nat) (m : Int) (bs : List Nat) (w : World) (hs : Rds w B A n (cells8 bs)) (hB : B ≤ w.heap.size) (hlt : lt256 bs) (hnc : n ≤ cap) (hcm : cap ≤ maxLen) (hn : n ≤ 1000000) (hN : max 0 (min m 65535) = (N : Int)) :
  Calls Tryz.prog 108 #[.slice A n cap, .int .i64 m] w fun e w' => EncE w w' (decP N bs) e := by
 have Hs := Lib.hid hs; have Hlt := Lib.hid hlt; have HB := Lib.hid hB; have Hcm := Lib.hid hcm
 obtain ⟨mn, hmn⟩ : ∃ mn : Int, min m 65535 = mn := ⟨_, rfl⟩
 have hmin := minI_is (P := Tryz.prog) (t := 3) (ty := 3) hmn
 have hmax := maxI_is (P := Tryz.prog) (t := 3) (ty := 3) (n1 := 0) (n2 := mn) (m := (N : Int)) (by rw [← hmn]; exact hN)
 have hN65 : N ≤ 65535 := by omega
 clear hs hlt hB hcm hN hmn
 go_enter Tryz.func108, Tryz.ntmps108
 go_wp2_with fail
 clear hmin hmax
 refine (pread_any A n cap B N bs w Hs.out HB.out Hlt.out hnc Hcm.out hn hN65).mono ?_
 rintro e w1 ⟨o, hE, hR⟩
 cases o with
 | none =>
  obtain ⟨rfl, hm1⟩ := hE.none_ rfl
  have Hm1 := Lib.hid hm1; have HR : Hid (decP N bs = none) := Lib.hid hR
  clear hE hR hm1
  go_wp2_with fail
  go_ret2
  rw [HR.out]
  exact ⟨rfl, Hm1.out⟩
 | some v =>
  obtain ⟨V, rfl, ho1, hm1⟩ := hE.some_ rfl
  obtain ⟨hvl, hv64, hdec⟩ := hR
  obtain ⟨A1, L, c1, rfl, HL, hLc, hr1⟩ := own_formUN ho1
  have hLN : L ≤ 1000000 := by have := HL.out; omega
  have Hm1 := Lib.hid hm1; have Hr1 := Lib.hid hr1; have Ho1 := Lib.hid ho1; have Hv64 := Lib.hid hv64; have Hdec := Lib.hid hdec
  clear hE hm1 hr1 ho1 hv64 hdec hvl
  go_wp2_with fail
  refine (penc_any A1 L c1 _ v w1 Hr1.out (Nat.le_refl _) Hv64.out hLN).mono ?_
  rintro e w2 ⟨v2, rfl, ho2, hm2⟩
  obtain ⟨A2, L2, c2, rfl, _, _, _, hr2⟩ := own_formN8 ho2
  have Hr2 := Lib.hid hr2; have Hm2 := Lib.hid (Hm1.out.trans hm2 (fun _ _ h => h)); have Ho12 := Lib.hid (Ho1.out.mod hm2)
  have Hs2 := Lib.hid (Hs.out.mod Hm2.out HB.out (fun _ _ h => h))
  clear hm2 hr2 ho2
  go_wp2_with fail
  refine (bequal_any A2 A L2 n c2 cap _ B (encP v) bs w2 Hr2.out Hs2.out (encP_256 v) Hlt.out).mono ?_
  rintro e w3 ⟨rfl, hm3⟩
  have Hm3 := Lib.hid (Hm2.out.trans hm3 (fun _ _ h => h)); have Ho13 := Lib.hid (Ho12.out.mod hm3)
  clear hm3
  by_cases he : encP v = bs
  ·have hde : decide (encP v = bs) = true := decide_eq_true he
   rw [hde]
   have Hd : Hid (decP N bs = some v) := Lib.hid (by rw [Hdec.out, if_pos he])
   clear he hde
   go_wp2_with fail
   go_ret2
   rw [Hd.out]
   exact ⟨_, rfl, Ho13.out, Hm3.out⟩
  ·have hde : decide (encP v = bs) = false := decide_eq_false he
   rw [hde]
   have Hd : Hid (decP N bs = none) := Lib.hid (by rw [Hdec.out, if_neg he])
   clear he hde
   go_wp2_with fail
   go_ret2
   rw [Hd.out]
   exact ⟨rfl, Hm3.out⟩
end Go.Proofs.YthgoppmgapaajaaGreatDoor

/- A turn is read: get. -/
namespace Go.Proofs.YthgoppmgapaajaaGreatDoor
open Go.RowKit

/-- Behind the window's own bits: which window is told, and whether anew. -/
def Mid (win s : Option (Nat × Nat)) (a z : Nat) (fresh : Bool) (s' : Option (Nat × Nat)) : Prop :=
 (getO 1 s).1 ≠ 0 ∧ ((fresh = false ∧ (getO 1 (getO 1 s).2).1 = 0 ∧ a = winA win ∧ z = winS win ∧ s' = (getO 1 (getO 1 s).2).2) ∨
  (fresh = true ∧ (getO 1 (getO 1 s).2).1 ≠ 0 ∧ a = (getO 5 (getO 1 (getO 1 s).2).2).1 ∧ z = (getO 6 (getO 5 (getO 1 (getO 1 s).2).2).2).1 + 1 ∧ s' = (getO 6 (getO 5 (getO 1 (getO 1 s).2).2).2).2))
section
variable {win s s' : Option (Nat × Nat)} {a z : Nat} {fresh : Bool}
theorem Mid.bounds (h : Mid win s a z fresh s') (hs : SmallO s) (hw : WinOk win) : a ≤ 31 ∧ z ≤ 64 ∧ SmallO s' := by
 obtain ⟨_, ⟨_, _, h1, h2, h3⟩ | ⟨_, _, h1, h2, h3⟩⟩ := h
 ·have := win_bounds hw
  exact ⟨by omega, by omega, h3 ▸ (hs.get 1).get 1⟩
 ·have e1 := ((hs.get 1).get 1).lt 5
  have e2 := (((hs.get 1).get 1).get 5).lt 6
  exact ⟨by omega, by omega, h3 ▸ (((hs.get 1).get 1).get 5).get 6⟩
theorem Mid.far (h : Mid win s a z fresh s') (hw : WinOk win) (hf : 64 < a + z) : stO win s = none := by
 obtain ⟨h0, ⟨_, _, h1, h2, _⟩ | ⟨_, h1, h2, h3, _⟩⟩ := h
 ·have := win_bounds hw
  omega
 ·exact stO_far h0 h1 (by rw [← h2, ← h3]; exact hf)
/-- What the code's four tests say. -/
theorem Mid.fin {x : Nat} (h : Mid win s a z fresh s') (hs : SmallO s) (hw : WinOk win) (hf : ¬ 64 < a + z) (hx : x = (getO z s').1 * 2 ^ (64 - a - z)) :
  x < 2 ^ 64 ∧ (((getO z s').2 = none ∨ x = 0 ∨ ¬ (a = winA (winX win x) ∧ z = winS (winX win x)) ∨ fresh = decide (a = winA win ∧ z = winS win)) → stO win s = none) ∧
   (∀ R5 rem5, (getO z s').2 = some (R5, rem5) → x ≠ 0 → (a = winA (winX win x) ∧ z = winS (winX win x)) → fresh ≠ decide (a = winA win ∧ z = winS win) → stO win s = some (x, winX win x, R5, rem5)) := by
 obtain ⟨h0, ⟨rfl, h1, ha, hz, h3⟩ | ⟨rfl, h1, ha, hz, h3⟩⟩ := h
 ·cases win with
  | none =>
   have hn := stO_in_none h0 h1
   have hz0 : z = 0 := hz
   subst hz0
   have hy := (((hs.get 1).get 1)).lt 0
   rw [← h3] at hy
   have hy0 : (getO 0 s').1 = 0 := by omega
   rw [hy0, Nat.zero_mul] at hx
   subst hx
   exact ⟨by decide, fun _ => hn, fun _ _ _ h => absurd rfl h⟩
  | some p =>
   obtain ⟨a', b'⟩ := p
   have ha' : a = a' := ha
   have hz' : z = 64 - a' - b' := hz
   obtain ⟨w1, w2⟩ := hw
   subst ha'
   have e1 : 64 - a - z = b' := by omega
   rw [e1] at hx
   subst hz'
   subst h3
   obtain ⟨g1, g2, g3⟩ := stO_in hs ⟨w1, w2⟩ h0 h1 hx rfl
   refine ⟨g2, fun hc => ?_, fun R5 rem5 h5 hx0 _ _ => ?_⟩
   ·rw [g1]
    by_cases hx0 : x = 0
    ·rw [if_pos hx0]
    ·rw [if_neg hx0]
     rcases hc with hc | hc | hc | hc
     ·rw [hc]; rfl
     ·exact absurd hc hx0
     ·exact absurd (by rw [g3 hx0]; exact ⟨rfl, rfl⟩) hc
     ·rw [decide_eq_true (show a = winA (some (a, b')) ∧ 64 - a - b' = winS (some (a, b')) from ⟨rfl, rfl⟩)] at hc
      cases hc
   ·rw [g1, if_neg hx0, h5, g3 hx0]
    rfl
 ·obtain ⟨m, hm⟩ : ∃ m, m = (getO 6 (getO 5 (getO 1 (getO 1 s).2).2).2).1 := ⟨_, rfl⟩
  rw [← hm] at hz
  subst hz
  subst h3
  obtain ⟨g1, g2⟩ := stO_fresh hs hw h0 h1 ha hm hf hx rfl
  have hal := ((hs.get 1).get 1).lt 5
  rw [← ha] at hal
  have hkey : ∀ u, WinOk u → ((a = winA u ∧ m + 1 = winS u) ↔ u = some (a, 64 - a - (m + 1))) := by
   intro u hu
   constructor
   ·rintro ⟨e1, e2⟩
    refine win_inj hu ⟨by omega, by omega⟩ e1.symm ?_
    rw [← e2]
    show m + 1 = 64 - a - (64 - a - (m + 1))
    omega
   ·rintro rfl
    exact ⟨rfl, by show m + 1 = 64 - a - (64 - a - (m + 1)); omega⟩
  refine ⟨g2, fun hc => ?_, fun R5 rem5 h5 hx0 hn hfr => ?_⟩
  ·rw [g1]
   by_cases hcond : x = 0 ∨ winX win x ≠ some (a, 64 - a - (m + 1)) ∨ win = some (a, 64 - a - (m + 1))
   ·rw [if_pos hcond]
   ·rw [if_neg hcond]
    rcases hc with hc | hc | hc | hc
    ·rw [hc]; rfl
    ·exact absurd (.inl hc) hcond
    ·exact absurd (.inr (.inl (fun e => hc ((hkey _ (winX_ok hw g2)).2 e)))) hcond
    ·exact absurd (.inr (.inr ((hkey _ hw).1 (of_decide_eq_true hc.symm)))) hcond
  ·have e1 := (hkey _ (winX_ok hw g2)).1 hn
   rw [g1, if_neg, h5, e1]
   ·rfl
   ·rintro (e | e | e)
    ·exact hx0 e
    ·exact e e1
    ·exact hfr (decide_eq_true ((hkey _ hw).2 e)).symm
end
/-- What get answers. -/
def GotX (w w' : World) (g row : Nat) (win s : Option (Nat × Nat)) (e : Ending) : Prop :=
 match stO win s with
 | some (x, win', R, rem) => e = .returned (.tuple #[.int .u64 (x : Int), .agg #[.int .i64 (winA win' : Int), .int .i64 (winS win' : Int)], .bool true]) ∧ RdrO w' g row (some (R, rem)) ∧ Mod (fun i => i = g) w w'
 | none => (∃ x p q : Int, e = .returned (.tuple #[.int .u64 x, .agg #[.int .i64 p, .int .i64 q], .bool false])) ∧ (∃ s', RdrO w' g row s') ∧ Mod (fun i => i = g) w w'
theorem GotX.none_ {w w' : World} {g row : Nat} {win s : Option (Nat × Nat)} {x p q : Int} {e : Ending} (hn : stO win s = none) (he : e = .returned (.tuple #[.int .u64 x, .agg #[.int .i64 p, .int .i64 q], .bool false])) (hr : ∃ s', RdrO w' g row s') (hm : Mod (fun i => i = g) w w') : GotX w w' g row win s e := by
 unfold GotX
 rw [hn]
 exact ⟨⟨x, p, q, he⟩, hr, hm⟩
theorem GotX.some_ {w w' : World} {g row x R rem : Nat} {win win' s : Option (Nat × Nat)} {e : Ending} (hn : stO win s = some (x, win', R, rem)) (he : e = .returned (.tuple #[.int .u64 (x : Int), .agg #[.int .i64 (winA win' : Int), .int .i64 (winS win' : Int)], .bool true])) (hr : RdrO w' g row (some (R, rem))) (hm : Mod (fun i => i = g) w w') : GotX w w' g row win s e := by
 unfold GotX
 rw [hn]
 exact ⟨he, hr, hm⟩
/-- The result's own block is turned. -/
theorem res_store {w W : World} {g row : Nat} {s : Option (Nat × Nat)} (u v : Value) (hgl : g < w.heap.size) (hrow : row < w.heap.size) (hr : RdrO W g row s) (hm : Mod (fun i => i = g) w W) :
  RdrO ((W.setCell ⟨w.heap.size + 1, 0, none⟩ u).setCell ⟨w.heap.size + 1, 1, none⟩ v) g row s ∧ Mod (fun i => i = g) w ((W.setCell ⟨w.heap.size + 1, 0, none⟩ u).setCell ⟨w.heap.size + 1, 1, none⟩ v) := by
 have h : Mod (fun i => i = w.heap.size + 1) W ((W.setCell ⟨w.heap.size + 1, 0, none⟩ u).setCell ⟨w.heap.size + 1, 1, none⟩ v) := ((Mod.refl (fun i => i = w.heap.size + 1) _).setCell (p := ⟨w.heap.size + 1, 0, none⟩) (fun _ => rfl) _).setCell (p := ⟨w.heap.size + 1, 1, none⟩) (fun _ => rfl) _
 exact ⟨hr.mod h (by omega) (fun _ => by omega), hm.trans h (fun i hi e => by omega)⟩
/-- Ahead of the window's own bits. -/
def CutG (w wc : World) (g row : Nat) (win s : Option (Nat × Nat)) (A S nt a z : Nat) (fresh : Bool) (s' : Option (Nat × Nat)) : Prop :=
 Mid win s a z fresh s' ∧ Blk wc w.heap.size 124 #[.int .i64 (A : Int), .int .i64 (S : Int)] ∧ Blk wc (w.heap.size + 1) 124 #[.int .i64 0, .int .i64 0] ∧ Blk wc nt 124 #[.int .i64 (a : Int), .int .i64 (z : Int)] ∧ RdrO wc g row s' ∧ Mod (fun i => i = g) w wc
/-- Behind the window's own bits. -/
def CutH (w wc : World) (g row : Nat) (A S nt a z : Nat) (s5 : Option (Nat × Nat)) : Prop :=
 Blk wc w.heap.size 124 #[.int .i64 (A : Int), .int .i64 (S : Int)] ∧ Blk wc (w.heap.size + 1) 124 #[.int .i64 0, .int .i64 0] ∧ Blk wc nt 124 #[.int .i64 (a : Int), .int .i64 (z : Int)] ∧ RdrO wc g row s5 ∧ Mod (fun i => i = g) w wc
theorem CutH.cells {w wc : World} {g row A S nt a z : Nat} {s5 : Option (Nat × Nat)} (h : CutH w wc g row A S nt a z s5) : wc.cell? ⟨nt, 0, none⟩ = some (.int .i64 (a : Int)) ∧ wc.cell? ⟨nt, 1, none⟩ = some (.int .i64 (z : Int)) := ⟨h.2.2.1.cell 0, h.2.2.1.cell 1⟩
theorem CutH.cells4 {w wc : World} {g row A S nt a z : Nat} {s5 : Option (Nat × Nat)} (h : CutH w wc g row A S nt a z s5) : (wc.cell? ⟨nt, 0, none⟩ = some (.int .i64 (a : Int)) ∧ wc.cell? ⟨nt, 1, none⟩ = some (.int .i64 (z : Int))) ∧ wc.cell? ⟨w.heap.size, 0, none⟩ = some (.int .i64 (A : Int)) ∧ wc.cell? ⟨w.heap.size, 1, none⟩ = some (.int .i64 (S : Int)) := ⟨h.cells, h.1.cell 0, h.1.cell 1⟩
theorem CutH.new {w wc w2 : World} {g row A S nt a z : Nat} {s5 : Option (Nat × Nat)} (h : CutH w wc g row A S nt a z s5) (hm : Mod (fun _ => False) wc w2) : CutH w w2 g row A S nt a z s5 :=
 ⟨hm.blk h.1 (fun h => h), hm.blk h.2.1 (fun h => h), hm.blk h.2.2.1 (fun h => h), h.2.2.2.1.mod hm (fun h => h) (fun _ h => h), h.2.2.2.2.trans hm (fun _ _ h => h.elim)⟩
/-- What the four tests together say. -/
def Fin11 (win s s5 : Option (Nat × Nat)) (x a z : Nat) (v : Bool) : Prop :=
 (v = true → stO win s = none) ∧ (v = false → a = winA (winX win x) ∧ z = winS (winX win x) ∧ ∃ R rem, s5 = some (R, rem) ∧ stO win s = some (x, winX win x, R, rem))
theorem ok_at (g row : Nat) (s : Option (Nat × Nat)) (v : Bool) (w : World) (hv : s.isSome = v) (h : RdrO w g row s) :
  Calls Tryz.prog 121 #[.pointer (some ⟨g, 0, none⟩)] w fun e w' => e = .returned (.bool v) ∧ w = w' := by
 subst hv
 exact ok_o g row s w h
theorem next_at (win : Option (Nat × Nat)) (x A S p q : Nat) (w : World) (hA : A = winA win) (hS : S = winS win) (hp : p = winA (winX win x)) (hq : q = winS (winX win x)) (hw : WinOk win) (h0 : x ≠ 0) (hx : Lt64 x) (hd : Deb w) :
  Calls Tryz.prog 113 #[.agg #[.int .i64 (A : Int), .int .i64 (S : Int)], .int .u64 (x : Int)] w fun e w' => e = .returned (.agg #[.int .i64 (p : Int), .int .i64 (q : Int)]) ∧ Mod (fun _ => False) w w' := by
 subst hA hS hp hq
 refine (next_any win x w hw h0 hx hd).mono ?_
 rintro e w' ⟨rfl, hm⟩
 exact ⟨by rw [winV_eq], hm⟩
theorem CutH.get {w wc w2 : World} {g row A S nt a z : Nat} {s5 s6 : Option (Nat × Nat)} (h : CutH w wc g row A S nt a z s5) (hgl : g < w.heap.size) (hnt : w.heap.size + 1 < nt) (hr : RdrO w2 g row s6) (hm : Mod (fun i => i = g) wc w2) : CutH w w2 g row A S nt a z s6 :=
 ⟨hm.blk h.1 (by omega), hm.blk h.2.1 (by omega), hm.blk h.2.2.1 (by omega), hr, h.2.2.2.2.trans hm (fun _ _ h => h)⟩
set_option maxHeartbeats 4000000 in
set_option maxRecDepth 100000 in
theorem xget_any (g row : Nat) (win s : Option (Nat × Nat)) (w : World) (hwin : WinOk win) (hr : RdrO w g row s) (hrow : row < w.heap.size) (hdeb : Deb w) (hg : g ≠ 2) :
  Calls Tryz.prog 122 #[.pointer (some ⟨g, 0, none⟩), .agg #[.int .i64 (winA win : Int), .int .i64 (winS win : Int)]] w fun e w' => GotX w w' g row win s e := by
 have hsm : SmallO s := hr.small
 have Hwin := Lib.hid hwin; have Hdeb := Lib.hid hdeb; have Hg := Lib.hid hg; have Hrow := Lib.hid hrow; have Hsm := Lib.hid hsm
 obtain ⟨A, hA⟩ : ∃ A, A = winA win := ⟨_, rfl⟩
 obtain ⟨S, hS⟩ : ∃ S, S = winS win := ⟨_, rfl⟩
 obtain ⟨hb1, hb2, hb3⟩ := win_bounds hwin
 rw [← hA] at hb1 hb3
 rw [← hS] at hb2 hb3
 rw [← hA, ← hS]
 obtain ⟨W, hW⟩ : ∃ W, W = (w.alloc (.cells #[.int .i64 (A : Int), .int .i64 (S : Int)] 124)).alloc (.cells #[.int .i64 0, .int .i64 0] 124) := ⟨_, rfl⟩
 have hmW : Mod (fun _ => False) w W := by rw [hW]; exact ((Mod.refl _ _).alloc _).alloc _
 have hbo : Blk W w.heap.size 124 #[.int .i64 (A : Int), .int .i64 (S : Int)] := by rw [hW]; exact (Blk.new _ _ _).alloc _
 have hbr : Blk W (w.heap.size + 1) 124 #[.int .i64 0, .int .i64 0] := by
  have h := Blk.new (w.alloc (.cells #[.int .i64 (A : Int), .int .i64 (S : Int)] 124)) 124 #[.int .i64 0, .int .i64 0]
  rw [hW]
  simpa using h
 have hgl := hr.lt
 have HW := Lib.hid hW; have HmW := Lib.hid (hmW.mono (S' := fun i => i = g) (fun _ _ h => h.elim)); have Hbo := Lib.hid hbo; have Hbr := Lib.hid hbr; have Hr := Lib.hid (hr.mod hmW (fun h => h) (fun _ h => h)); have HA := Lib.hid hA; have HS := Lib.hid hS
 have Hgl : Hid (w.heap.size ≠ g ∧ w.heap.size + 1 ≠ g ∧ w.heap.size ≠ row ∧ w.heap.size + 1 ≠ row ∧ g < w.heap.size) := Lib.hid ⟨by omega, by omega, by omega, by omega, hgl⟩
 clear hwin hr hdeb hg hrow hW hmW hbo hbr hgl hA hS hsm
 go_enter Tryz.func122, Tryz.ntmps122
 go_wp2_with fail
 rw [← HW.out]
 refine (get_o g row 1 1 s _ rfl (by decide) Hr.out).mono ?_
 rintro e w1 ⟨rfl, hr1, hm1⟩
 have Hbo1 := Lib.hid (hm1.blk Hbo.out Hgl.out.1)
 have Hbr1 := Lib.hid (hm1.blk Hbr.out Hgl.out.2.1)
 have Hr1 := Lib.hid hr1; have Hm1 := Lib.hid (HmW.out.trans hm1 (fun _ _ h => h))
 clear hr1 hm1 HW Hbo Hbr HmW Hr
 by_cases hc0 : (getO 1 s).1 = 0
 ·have Hst := Lib.hid (stO_zero (win := win) Hsm.out hc0)
  rw [hc0]
  clear hc0
  have hc0 := Hbo1.out.cell 0
  have hc1 := Hbo1.out.cell 1
  have hf0 := Hbr1.out.frozen 0
  have hf1 := Hbr1.out.frozen 1
  have hd0 := Hbr1.out.cell 0
  have hd1 := Hbr1.out.cell 1
  simp at hc0 hc1 hd0 hd1
  have S1 : Hid (w1.cell? ⟨w.heap.size, 0, none⟩ = some (.int .i64 (A : Int)) ∧ w1.cell? ⟨w.heap.size, 1, none⟩ = some (.int .i64 (S : Int))) := Lib.hid ⟨hc0, hc1⟩
  obtain ⟨w2, hw2⟩ : ∃ w2, w2 = (w1.setCell ⟨w.heap.size + 1, 0, none⟩ (.int .i64 (A : Int))).setCell ⟨w.heap.size + 1, 1, none⟩ (.int .i64 (S : Int)) := ⟨_, rfl⟩
  have hm12 : Mod (fun i => i = w.heap.size + 1) w1 w2 := by rw [hw2]; exact ((Mod.refl (fun i => i = w.heap.size + 1) _).setCell (p := ⟨w.heap.size + 1, 0, none⟩) (fun _ => rfl) _).setCell (p := ⟨w.heap.size + 1, 1, none⟩) (fun _ => rfl) _
  have hbo2 := hm12.blk Hbo1.out (by omega)
  have S2 : Hid (w2.cell? ⟨w.heap.size, 0, none⟩ = some (.int .i64 (A : Int)) ∧ w2.cell? ⟨w.heap.size, 1, none⟩ = some (.int .i64 (S : Int))) := Lib.hid ⟨hbo2.cell 0, hbo2.cell 1⟩
  have Hr1d : Hid (RdrO w1.drew g row (getO 1 s).2) := Lib.hid (Hr1.out.mod (Mod.refl (fun _ => False) _).drew (fun h => h) (fun _ h => h))
  have Hr2d : Hid (RdrO w2.drew g row (getO 1 s).2) := Lib.hid (Hr1.out.mod hm12.drew (fun e => Hgl.out.2.1 e.symm) (fun _ e => Hgl.out.2.2.2.1 e.symm))
  have Hm2d : Hid (Mod (fun i => i = g) w w2.drew) := Lib.hid (Hm1.out.trans hm12.drew (fun i hi e => by omega))
  have hres := (Hbr1.out.two (.int .i64 (A : Int)) (.int .i64 (S : Int)))
  have hR0 : w2.drew.cell? ⟨w.heap.size + 1, 0, none⟩ = some (.int .i64 (A : Int)) := by rw [hw2]; exact hres.2.2.cell 0
  have hR1 : w2.drew.cell? ⟨w.heap.size + 1, 1, none⟩ = some (.int .i64 (S : Int)) := by rw [hw2]; exact hres.2.2.cell 1
  have HW2 := Lib.hid hw2; have HR0 := Lib.hid hR0; have HR1 := Lib.hid hR1
  have hfin : Hid (∀ w', w2.drew = w' → GotX w w' g row win s (.returned (.tuple #[.int .u64 0, .agg #[.int .i64 (A : Int), .int .i64 (S : Int)], .bool (getO 1 s).2.isSome]))) := Lib.hid (by
   rintro w' rfl
   cases hq : (getO 1 s).2 with
   | none =>
    have h := Hst.out
    rw [hq] at h
    exact GotX.none_ h rfl ⟨_, Hr2d.out⟩ Hm2d.out
   | some p =>
    obtain ⟨R1, rem1⟩ := p
    have h := Hst.out
    rw [hq] at h
    refine GotX.some_ h ?_ (hq ▸ Hr2d.out) Hm2d.out
    rw [← HA.out, ← HS.out]
    rfl)
  clear hw2 hm12 hbo2 hres hR0 hR1 hc0 hc1 Hst
  go_wp2_with fail
  go_region_held_law (fun w' => w'.cell? ⟨w.heap.size, 0, none⟩ = some (.int .i64 (A : Int)) ∧ w'.cell? ⟨w.heap.size, 1, none⟩ = some (.int .i64 (S : Int))) (first | exact S1.out | exact S2.out | (rw [← HW2.out]; exact S2.out))
   (first | (go_at_call 121; refine (ok_o g row (getO 1 s).2 _ (by first | exact Hr1d.out | (rw [← HW2.out]; exact Hr2d.out))).mono ?_; rintro e w3 ⟨rfl, rfl⟩))
  all_goals
   (try rw [← HW2.out])
   go_wp2_with fail
   refine bodyPost_ret (v := .tuple #[.int .u64 0, .agg #[.int .i64 (A : Int), .int .i64 (S : Int)], .bool (getO 1 s).2.isSome]) (by simp [results, Tryz.results122, go_sem, HR0.out, HR1.out]) rfl ?_
   exact hfin.out _ rfl
 ·have hc0b : ((((getO 1 s).1 : Nat) : Int) == 0) = false := by simp; omega
  have Hc0 := Lib.hid hc0
  clear hc0
  have hc0 := Hbo1.out.cell 0
  have hc1 := Hbo1.out.cell 1
  simp at hc0 hc1
  obtain ⟨w2, hw2⟩ : ∃ w2, w2 = w1.alloc (.cells #[.int .i64 (A : Int), .int .i64 (S : Int)] 124) := ⟨_, rfl⟩
  obtain ⟨nt, hnt⟩ : ∃ nt, nt = w1.heap.size := ⟨_, rfl⟩
  have hm12 : Mod (fun _ => False) w1 w2 := by rw [hw2]; exact (Mod.refl _ _).alloc _
  have Hbo2 := Lib.hid (hm12.blk Hbo1.out (fun h => h))
  have Hbr2 := Lib.hid (hm12.blk Hbr1.out (fun h => h))
  have Hbt2 : Hid (Blk w2 nt 124 #[.int .i64 (A : Int), .int .i64 (S : Int)]) := Lib.hid (by rw [hw2, hnt]; exact Blk.new _ _ _)
  have Hr2 := Lib.hid (Hr1.out.mod hm12 (fun h => h) (fun _ h => h)); have Hm2 := Lib.hid (Hm1.out.trans hm12 (fun _ _ h => h.elim))
  have Hnt : Hid (w.heap.size + 1 < nt) := Lib.hid (by have := Hbr1.out.lt; omega)
  have HW2 := Lib.hid hw2; have HNT := Lib.hid hnt
  clear hw2 hm12 hnt
  go_wp2_with (first | (rw [← HNT.out, ← HW2.out]))
  refine (get_o g row 1 1 _ _ rfl (by decide) Hr2.out).mono ?_
  rintro e w3 ⟨rfl, hr3, hm3⟩
  have Hbo3 := Lib.hid (hm3.blk Hbo2.out Hgl.out.1)
  have Hbr3 := Lib.hid (hm3.blk Hbr2.out Hgl.out.2.1)
  have Hbt3 := Lib.hid (hm3.blk Hbt2.out (by have := Hnt.out; have := Hgl.out; omega))
  have Hr3 := Lib.hid hr3; have Hm3 := Lib.hid (Hm2.out.trans hm3 (fun _ _ h => h))
  clear hr3 hm3 Hbo2 Hbr2 Hbt2 Hr2 Hm2 hc0 hc1 HW2 HNT Hbo1 Hbr1 Hr1 Hm1 hc0b
  obtain ⟨c1, hc1⟩ : ∃ c1, c1 = (getO 1 (getO 1 s).2).1 := ⟨_, rfl⟩
  obtain ⟨fresh, hfr⟩ : ∃ fresh : Bool, (((c1 : Nat) : Int) == 1) = fresh := ⟨_, rfl⟩
  rw [← hc1]
  have hc1b : c1 = 0 ∨ c1 = 1 := by rw [hc1]; exact (Hsm.out.get 1).bit
  have Hc1 := Lib.hid hc1; have Hc1b := Lib.hid hc1b; have Hfr := Lib.hid hfr
  clear hc1 hc1b
  go_upto_if 20 with fail
  go_cut [8] (fun s8 wc => ∃ (a z : Nat) (s' : Option (Nat × Nat)), s8 = .bool fresh ∧ CutG w wc g row win s A S nt a z fresh s')
  case first =>
   rcases Hc1b.out with h1 | h1
   ·obtain rfl : fresh = false := by rw [← Hfr.out, h1]; rfl
    have HC : Hid (CutG w w3 g row win s A S nt A S false (getO 1 (getO 1 s).2).2) := Lib.hid ⟨⟨Hc0.out, .inl ⟨rfl, by rw [← Hc1.out, h1], HA.out, HS.out, rfl⟩⟩, Hbo3.out, Hbr3.out, Hbt3.out, Hr3.out, Hm3.out⟩
    clear h1 hfr
    go_wp2_with fail
    go_meet
    case rel => exact ⟨A, S, _, rfl, HC.out⟩
   ·obtain rfl : fresh = true := by rw [← Hfr.out, h1]; rfl
    have H1 := Lib.hid h1
    clear h1 hfr
    go_wp2_with fail
    refine (get_o g row 5 5 _ _ rfl (by decide) Hr3.out).mono ?_
    rintro e w4 ⟨rfl, hr4, hm4⟩
    have hbt4 := hm4.blk Hbt3.out (by have := Hnt.out; have := Hgl.out; omega)
    obtain ⟨a, ha⟩ : ∃ a, a = (getO 5 (getO 1 (getO 1 s).2).2).1 := ⟨_, rfl⟩
    have hal : a < 32 := by rw [ha]; exact ((Hsm.out.get 1).get 1).lt 5
    have hcv : wrap64 (a : Int) = (a : Int) := IntWalk.wrap64_in _ (by omega)
    rw [← ha]
    have hd0 := hbt4.cell 0
    have hf0 := hbt4.frozen 0
    simp at hd0
    obtain ⟨w5, hw5⟩ : ∃ w5, w5 = w4.setCell ⟨nt, 0, none⟩ (.int .i64 (a : Int)) := ⟨_, rfl⟩
    have hm45 : Mod (fun i => i = nt) w4 w5 := by rw [hw5]; exact (Mod.refl (fun i => i = nt) w4).setCell (p := ⟨nt, 0, none⟩) (fun _ => rfl) _
    have Hbo5 := Lib.hid (hm45.blk (hm4.blk Hbo3.out Hgl.out.1) (by have := Hnt.out; omega))
    have Hbr5 := Lib.hid (hm45.blk (hm4.blk Hbr3.out Hgl.out.2.1) (by have := Hnt.out; omega))
    have Hbt5 : Hid (Blk w5 nt 124 #[.int .i64 (a : Int), .int .i64 (S : Int)]) := Lib.hid (by rw [hw5]; simpa using hbt4.set_ 0 (.int .i64 (a : Int)))
    have Hr5 := Lib.hid (hr4.mod hm45 (by have := Hnt.out; have := Hgl.out; omega) (fun _ => by have := Hnt.out; have := Hrow.out; omega))
    have Hm5 := Lib.hid ((Hm3.out.trans hm4 (fun _ _ h => h)).trans hm45 (fun i hi e => by have := Hnt.out; omega))
    have Ha := Lib.hid ha; have HW5 := Lib.hid hw5
    clear hr4 hm4 hbt4 hw5 hm45 ha Hr3 Hm3 Hbo3 Hbr3 Hbt3
    go_wp2_with (first | (rw [← HW5.out]))
    refine (get_o g row 6 6 _ _ rfl (by decide) Hr5.out).mono ?_
    rintro e w6 ⟨rfl, hr6, hm6⟩
    have hbt6 := hm6.blk Hbt5.out (by have := Hnt.out; have := Hgl.out; omega)
    obtain ⟨m, hm⟩ : ∃ m, m = (getO 6 (getO 5 (getO 1 (getO 1 s).2).2).2).1 := ⟨_, rfl⟩
    have hml : m < 64 := by rw [hm]; exact (((Hsm.out.get 1).get 1).get 5).lt 6
    have hcm : wrap64 (m : Int) = (m : Int) := IntWalk.wrap64_in _ (by omega)
    obtain ⟨z, hz⟩ : ∃ z, z = m + 1 := ⟨_, rfl⟩
    have hz1 : (m : Int) + 1 = (z : Int) := by omega
    rw [← hm]
    clear hd0 hf0
    have hd1 := hbt6.cell 1
    have hf1 := hbt6.frozen 1
    simp at hd1
    obtain ⟨w7, hw7⟩ : ∃ w7, w7 = w6.setCell ⟨nt, 1, none⟩ (.int .i64 (z : Int)) := ⟨_, rfl⟩
    have hm67 : Mod (fun i => i = nt) w6 w7 := by rw [hw7]; exact (Mod.refl (fun i => i = nt) w6).setCell (p := ⟨nt, 1, none⟩) (fun _ => rfl) _
    have HC : Hid (CutG w w7 g row win s A S nt a z true (getO 6 (getO 5 (getO 1 (getO 1 s).2).2).2).2) := Lib.hid ⟨⟨Hc0.out, .inr ⟨rfl, by rw [← Hc1.out, H1.out]; decide, Ha.out, by rw [hz, hm], rfl⟩⟩,
     hm67.blk (hm6.blk Hbo5.out Hgl.out.1) (by have := Hnt.out; omega), hm67.blk (hm6.blk Hbr5.out Hgl.out.2.1) (by have := Hnt.out; omega), by rw [hw7]; simpa using hbt6.set_ 1 (.int .i64 (z : Int)),
     hr6.mod hm67 (by have := Hnt.out; have := Hgl.out; omega) (fun _ => by have := Hnt.out; have := Hrow.out; omega), (Hm5.out.trans hm6 (fun _ _ h => h)).trans hm67 (fun i hi e => by have := Hnt.out; omega)⟩
    have HW7 := Lib.hid hw7
    clear hr6 hm6 hbt6 hw7 hm67 hm hz Hr5 Hm5 Hbo5 Hbr5 Hbt5 hcv
    go_wp2_with (first | (rw [← HW7.out]))
    go_meet
    case rel => exact ⟨a, z, _, rfl, by first | exact HC.out | (rw [← HW7.out]; exact HC.out)⟩
  case rest =>
   obtain ⟨a, z, s', rfl, hM, hbo, hbr, hbt, hr, hm⟩ := hcut
   obtain ⟨ha31, hz64, hsm'⟩ := hM.bounds Hsm.out Hwin.out
   have HM := Lib.hid hM; have Hbo := Lib.hid hbo; have Hbr := Lib.hid hbr; have Hbt := Lib.hid hbt; have Hr := Lib.hid hr; have Hm := Lib.hid hm; have Hsm' := Lib.hid hsm'
   clear hM hbo hbr hbt hr hm hsm' Hbo3 Hbr3 Hbt3 Hr3 Hm3 hfr Hc0 Hc1 Hc1b Hfr
   have he0 := Hbt.out.cell 0
   have he1 := Hbt.out.cell 1
   simp at he0 he1
   by_cases hfar : 64 < a + z
   ·have hn := HM.out.far Hwin.out hfar
    have Hn := Lib.hid hn
    clear hn
    go_wp2_with fail
    refine (behind_any a z _ (by omega) hz64).mono ?_
    rintro e w8 ⟨rfl, hm8⟩
    have hbr8 := hm8.blk Hbr.out (fun h => h)
    have hf0 := hbr8.frozen 0
    have hf1 := hbr8.frozen 1
    have hd0 := hbr8.cell 0
    have hd1 := hbr8.cell 1
    simp at hd0 hd1
    have Hbr8 := Lib.hid hbr8
    have hS := res_store (.int .i64 0) (.int .i64 0) Hgl.out.2.2.2.2 Hrow.out (Hr.out.mod hm8 (fun h => h) (fun _ h => h)) (Hm.out.trans hm8 (fun _ _ h => h.elim))
    have HS8 := Lib.hid hS
    clear hm8 hbr8 hS he0 he1
    go_wp2_with fail
    refine bodyPost_ret (v := .tuple #[.int .u64 0, .agg #[.int .i64 0, .int .i64 0], .bool false]) (by have h := Hbr8.out.two (.int .i64 0) (.int .i64 0); simp [results, Tryz.results122, go_sem, h.1, h.2.1]) rfl ?_
    exact GotX.none_ Hn.out rfl ⟨_, HS8.out.1⟩ HS8.out.2
   ·obtain ⟨b, hb⟩ : ∃ b, b = 64 - a - z := ⟨_, rfl⟩
    have hab : a + z + b = 64 := by omega
    have Hb := Lib.hid hb
    clear hb
    go_wp2_with fail
    refine (behind_at a z b _ hab).mono ?_
    rintro e w8 ⟨rfl, hm8⟩
    have hd := hm8.drew
    have C8 : Hid (CutH w w8.drew g row A S nt a z s') := Lib.hid (CutH.new ⟨Hbo.out, Hbr.out, Hbt.out, Hr.out, Hm.out⟩ hd)
    clear hm8 hd he0 he1 Hbo Hbr Hbt Hr Hm
    have hb0 : (0 : Int) ≤ (b : Int) := by omega
    obtain ⟨y, hy⟩ : ∃ y, y = (getO z s').1 := ⟨_, rfl⟩
    obtain ⟨x, hx⟩ : ∃ x, x = y * 2 ^ b := ⟨_, rfl⟩
    have hfin := HM.out.fin (x := x) Hsm.out Hwin.out hfar (by rw [hx, hy, Hb.out])
    have hx64 := hfin.1
    have Hfin := Lib.hid hfin
    have hshl : IntKind.u64.wrap ((y : Int) * 2 ^ b) = (x : Int) := by
     rw [IntKind.wrap_u64, hx]
     have e1 : ((y : Int) * 2 ^ b) = ((y * 2 ^ b : Nat) : Int) := by simp
     rw [e1, ← hx]
     omega
    have Hy := Lib.hid hy; have Hx := Lib.hid hx; have Hx64 := Lib.hid hx64
    clear hfin hx64 hy hx
    go_upto_region 10 with fail
    go_cut [9] (fun s9 wc => s9 = .int .u64 (x : Int) ∧ CutH w wc g row A S nt a z (getO z s').2)
    case first =>
     go_region_held_law (fun w' => w'.cell? ⟨nt, 0, none⟩ = some (.int .i64 (a : Int)) ∧ w'.cell? ⟨nt, 1, none⟩ = some (.int .i64 (z : Int))) (first | exact C10.out.cells | exact C9.out.cells | exact C8.out.cells)
      (first
       | (go_at_call 114; refine (behind_at a z b _ hab).mono ?_; rintro e w9 ⟨rfl, hm9⟩; (first | (have C9 := Lib.hid (C10.out.new hm9)) | (have C9 := Lib.hid (C8.out.new hm9))); clear hm9)
       | (go_at_call 119; refine (get_o g row z _ s' _ rfl (by omega) (by first | exact C9.out.2.2.2.1 | exact C8.out.2.2.2.1)).mono ?_; rintro e w10 ⟨rfl, hr10, hm10⟩; rw [← Hy.out]; (first | (have C10 := Lib.hid (C9.out.get Hgl.out.2.2.2.2 Hnt.out hr10 hm10)) | (have C10 := Lib.hid (C8.out.get Hgl.out.2.2.2.2 Hnt.out hr10 hm10))); clear hr10 hm10))
     all_goals
      go_wp2_with fail
      go_meet
      first
       | exact ⟨rfl, C10.out⟩
       | exact ⟨rfl, C9.out⟩
    case rest =>
     obtain ⟨rfl, hC⟩ := hcut
     have C11 := Lib.hid (hC.new (Mod.refl (fun _ => False) _).drew)
     clear hC
     obtain ⟨s5, hs5⟩ : ∃ s5, s5 = (getO z s').2 := ⟨_, rfl⟩
     rw [← hs5] at C11
     have hfin := Hfin.out
     rw [← hs5] at hfin
     have HF := Lib.hid hfin
     obtain ⟨p, hp⟩ : ∃ p, p = winA (winX win x) := ⟨_, rfl⟩
     obtain ⟨q, hq⟩ : ∃ q, q = winS (winX win x) := ⟨_, rfl⟩
     have Hp := Lib.hid hp; have Hq := Lib.hid hq
     clear hs5 hfin hp hq Hfin hshl Hy Hx HM C8 hb0 Hsm'
     go_upto_region 11 with fail
     go_cut [61] (fun s61 wc => ∃ v : Bool, s61 = .bool v ∧ CutH w wc g row A S nt a z s5 ∧ Fin11 win s s5 x a z v)
     case first =>
      have hnC : ∀ W, CutH w W g row A S nt a z s5 → Deb W := fun W h => Hdeb.out.mod h.2.2.2.2 (fun e => Hg.out e.symm)
      have HnC := Lib.hid hnC
      clear hnC
      refine wp_region_class (fun W => CutH w W g row A S nt a z s5) (by kernel_rfl) (by kernel_rfl) C11.out ?_
      cases hso : s5.isSome with
      | false =>
       have Hs5 := Lib.hid hso
       have hn : stO win s = none := HF.out.2.1 (.inl (by cases s5 with | none => rfl | some p => cases hso))
       have HN : Hid (Fin11 win s s5 x a z true) := Lib.hid ⟨fun _ => hn, fun h => by cases h⟩
       clear hso hn
       iterate 1 quiet_step (exact fun _ => rfl)
       refine wpQuiet_step (fun K hK => ?_)
       go_simp
       refine ⟨.bool false, fun w2 h2 => (ok_at g row s5 false _ Hs5.out h2.2.2.2.1).mono ?_, hK _ ?_⟩
       ·rintro e w3 ⟨rfl, rfl⟩
        exact ⟨rfl, h2⟩
       clear hK K
       iterate 2 quiet_step (exact fun _ => rfl)
       iterate 17 (first | quiet_step (exact fun _ => rfl) | ((with_reducible refine quiet_skip ?h ?_); (case h => kernel_rfl); (simp only [Act.put, List.setIfInBounds_toArray, List.set_cons_zero, List.set_cons_succ])))
       refine wpQuiet_nil ?_
       intro w4 h4
       have C12 := Lib.hid h4
       clear h4
       go_wp2_with fail
       go_meet
       case rel => exact ⟨true, rfl, C12.out, HN.out⟩
      | true =>
       have Hs5 := Lib.hid hso
       clear hso
       iterate 1 quiet_step (exact fun _ => rfl)
       refine wpQuiet_step (fun K hK => ?_)
       go_simp
       refine ⟨.bool true, fun w2 h2 => (ok_at g row s5 true _ Hs5.out h2.2.2.2.1).mono ?_, hK _ ?_⟩
       ·rintro e w3 ⟨rfl, rfl⟩
        exact ⟨rfl, h2⟩
       clear hK K
       iterate 2 quiet_step (exact fun _ => rfl)
       by_cases hx0 : x = 0
       ·have hx0b : ((x : Int) == 0) = true := by simp; omega
        have HN : Hid (Fin11 win s s5 x a z true) := Lib.hid ⟨fun _ => HF.out.2.1 (.inr (.inl hx0)), fun h => by cases h⟩
        clear hx0
        iterate 4 quiet_step (exact fun _ => rfl)
        iterate 13 (first | quiet_step (exact fun _ => rfl) | ((with_reducible refine quiet_skip ?h ?_); (case h => kernel_rfl); (simp only [Act.put, List.setIfInBounds_toArray, List.set_cons_zero, List.set_cons_succ])))
        refine wpQuiet_nil ?_
        intro w4 h4
        have C12 := Lib.hid h4
        clear h4
        go_wp2_with fail
        go_meet
        case rel => exact ⟨true, rfl, C12.out, HN.out⟩
       ·have hx0b : ((x : Int) == 0) = false := by simp; omega
        iterate 4 quiet_step (exact fun _ => rfl)
        refine wpQuiet_step (fun K hK => ?_)
        go_simp
        refine ⟨.agg #[.int .i64 (a : Int), .int .i64 (z : Int)], fun w2 h2 => ?_, hK _ ?_⟩
        ·simp only [(h2.cells4.1).1, (h2.cells4.1).2, Result.andThen_ok]
         first | done | exact ⟨trivial, trivial⟩ | exact ⟨rfl, rfl⟩
        clear hK K
        refine wpQuiet_step (fun K hK => ?_)
        go_simp
        refine ⟨.agg #[.int .i64 (A : Int), .int .i64 (S : Int)], fun w2 h2 => ?_, hK _ ?_⟩
        ·simp only [(h2.cells4.2).1, (h2.cells4.2).2, Result.andThen_ok]
         first | done | exact ⟨trivial, trivial⟩ | exact ⟨rfl, rfl⟩
        clear hK K
        iterate 1 quiet_step (exact fun _ => rfl)
        refine wpQuiet_step (fun K hK => ?_)
        go_simp
        refine ⟨.agg #[.int .i64 (p : Int), .int .i64 (q : Int)], fun w2 h2 => (next_at win x A S p q _ HA.out HS.out Hp.out Hq.out Hwin.out hx0 Hx64.out (HnC.out _ h2)).mono ?_, hK _ ?_⟩
        ·rintro e w3 ⟨rfl, hm3⟩
         exact ⟨rfl, h2.new hm3⟩
        clear hK K
        clear hx0b
        by_cases htold : a = p ∧ z = q
        ·obtain ⟨rfl, rfl⟩ := htold
         obtain ⟨R5, rem5, hs5⟩ : ∃ R5 rem5, s5 = some (R5, rem5) := by
          have := Hs5.out
          cases s5 with
          | none => cases this
          | some p => exact ⟨_, _, rfl⟩
         have HS5 := Lib.hid hs5
         clear hs5
         iterate 4 quiet_step (exact fun _ => rfl)
         refine wpQuiet_step (fun K hK => ?_)
         go_simp
         refine ⟨.agg #[.int .i64 (a : Int), .int .i64 (z : Int)], fun w2 h2 => ?_, hK _ ?_⟩
         ·simp only [(h2.cells4.1).1, (h2.cells4.1).2, Result.andThen_ok]
          first | done | exact ⟨trivial, trivial⟩ | exact ⟨rfl, rfl⟩
         clear hK K
         refine wpQuiet_step (fun K hK => ?_)
         go_simp
         refine ⟨.agg #[.int .i64 (A : Int), .int .i64 (S : Int)], fun w2 h2 => ?_, hK _ ?_⟩
         ·simp only [(h2.cells4.2).1, (h2.cells4.2).2, Result.andThen_ok]
          first | done | exact ⟨trivial, trivial⟩ | exact ⟨rfl, rfl⟩
         clear hK K
         by_cases hsame : a = A ∧ z = S
         ·obtain ⟨rfl, rfl⟩ := hsame
          cases fresh with
          | false =>
           have HN : Hid (Fin11 win s s5 x a z false) := Lib.hid ⟨fun h => (by cases h), fun _ => ⟨Hp.out, Hq.out, R5, rem5, HS5.out, HF.out.2.2 R5 rem5 HS5.out hx0 ⟨Hp.out, Hq.out⟩ (by rw [decide_eq_true ⟨HA.out, HS.out⟩]; decide)⟩⟩
           iterate 3 quiet_step (exact fun _ => rfl)
           refine wpQuiet_nil ?_
           intro w4 h4
           have C12 := Lib.hid h4
           clear h4
           go_wp2_with fail
           go_meet
           case rel => exact ⟨false, rfl, C12.out, HN.out⟩
          | true =>
           have HN : Hid (Fin11 win s s5 x a z true) := Lib.hid ⟨fun _ => HF.out.2.1 (.inr (.inr (.inr (by rw [decide_eq_true ⟨HA.out, HS.out⟩])))), fun h => by cases h⟩
           iterate 3 quiet_step (exact fun _ => rfl)
           refine wpQuiet_nil ?_
           intro w4 h4
           have C12 := Lib.hid h4
           clear h4
           go_wp2_with fail
           go_meet
           case rel => exact ⟨true, rfl, C12.out, HN.out⟩
         ·have hdec : Hid (decide (a = winA win ∧ z = winS win) = false) := Lib.hid (decide_eq_false (by rw [← HA.out, ← HS.out]; exact hsame))
          have hcmp : (a = A ∧ ¬ (z : Int) = (S : Int)) ∨ ¬ (a : Int) = (A : Int) := by omega
          clear hsame
          rcases hcmp with ⟨rfl, hq0⟩ | hq0
          all_goals
           cases fresh with
           | false =>
            have HN : Hid (Fin11 win s s5 x a z true) := Lib.hid ⟨fun _ => HF.out.2.1 (.inr (.inr (.inr (by rw [hdec.out])))), fun h => by cases h⟩
            iterate 3 quiet_step (exact fun _ => rfl)
            refine wpQuiet_nil ?_
            intro w4 h4
            have C12 := Lib.hid h4
            clear h4
            go_wp2_with fail
            go_meet
            case rel => exact ⟨true, rfl, C12.out, HN.out⟩
           | true =>
            have HN : Hid (Fin11 win s s5 x a z false) := Lib.hid ⟨fun h => (by cases h), fun _ => ⟨Hp.out, Hq.out, R5, rem5, HS5.out, HF.out.2.2 R5 rem5 HS5.out hx0 ⟨Hp.out, Hq.out⟩ (by rw [hdec.out]; decide)⟩⟩
            iterate 3 quiet_step (exact fun _ => rfl)
            refine wpQuiet_nil ?_
            intro w4 h4
            have C12 := Lib.hid h4
            clear h4
            go_wp2_with fail
            go_meet
            case rel => exact ⟨false, rfl, C12.out, HN.out⟩
        ·have HN : Hid (Fin11 win s s5 x a z true) := Lib.hid ⟨fun _ => HF.out.2.1 (.inr (.inr (.inl (by rw [← Hp.out, ← Hq.out]; exact htold)))), fun h => by cases h⟩
         have hcmp : (a = p ∧ ¬ (z : Int) = (q : Int)) ∨ ¬ (a : Int) = (p : Int) := by omega
         clear htold
         rcases hcmp with ⟨rfl, hq0⟩ | hq0
         all_goals
          iterate 3 quiet_step (exact fun _ => rfl)
          iterate 6 (first | quiet_step (exact fun _ => rfl) | ((with_reducible refine quiet_skip ?h ?_); (case h => kernel_rfl); (simp only [Act.put, List.setIfInBounds_toArray, List.set_cons_zero, List.set_cons_succ])))
          refine wpQuiet_nil ?_
          intro w4 h4
          have C12 := Lib.hid h4
          clear h4
          go_wp2_with fail
          go_meet
          case rel => exact ⟨true, rfl, C12.out, HN.out⟩
     case rest =>
      obtain ⟨v, rfl, hC, hF⟩ := hcut
      have HC := Lib.hid hC; have HFin := Lib.hid hF
      obtain ⟨_, hbr, _, hr, hm⟩ := hC
      have hf0 := hbr.frozen 0
      have hf1 := hbr.frozen 1
      have hd0 := hbr.cell 0
      have hd1 := hbr.cell 1
      simp at hd0 hd1
      have Hbr := Lib.hid hbr; have Hr := Lib.hid hr; have Hm := Lib.hid hm
      clear hF hbr hr hm HF C11
      cases v with
      | true =>
       have Hn := Lib.hid (HFin.out.1 rfl)
       have HS8 := Lib.hid (res_store (.int .i64 0) (.int .i64 0) Hgl.out.2.2.2.2 Hrow.out Hr.out Hm.out)
       go_wp2_with fail
       refine bodyPost_ret (v := .tuple #[.int .u64 0, .agg #[.int .i64 0, .int .i64 0], .bool false]) (by have h := Hbr.out.two (.int .i64 0) (.int .i64 0); simp [results, Tryz.results122, go_sem, h.1, h.2.1]) rfl ?_
       exact GotX.none_ Hn.out rfl ⟨_, HS8.out.1⟩ HS8.out.2
      | false =>
       obtain ⟨ha, hz, R5, rem5, hs5, hst⟩ := HFin.out.2 rfl
       have Hst := Lib.hid hst; have Hs5 := Lib.hid hs5; have Ha := Lib.hid ha; have Hz := Lib.hid hz
       clear ha hz hs5 hst
       obtain ⟨w14, hw14⟩ : ∃ w14, w14 = (wc.setCell ⟨w.heap.size + 1, 0, none⟩ (.int .i64 (a : Int))).setCell ⟨w.heap.size + 1, 1, none⟩ (.int .i64 (z : Int)) := ⟨_, rfl⟩
       have hm14 : Mod (fun i => i = w.heap.size + 1) wc w14 := by rw [hw14]; exact ((Mod.refl (fun i => i = w.heap.size + 1) _).setCell (p := ⟨w.heap.size + 1, 0, none⟩) (fun _ => rfl) _).setCell (p := ⟨w.heap.size + 1, 1, none⟩) (fun _ => rfl) _
       have hbt14 := hm14.blk HC.out.2.2.1 (by have := Hnt.out; omega)
       have S14 : Hid (w14.cell? ⟨nt, 0, none⟩ = some (.int .i64 (a : Int)) ∧ w14.cell? ⟨nt, 1, none⟩ = some (.int .i64 (z : Int))) := Lib.hid ⟨hbt14.cell 0, hbt14.cell 1⟩
       have S13 : Hid (wc.cell? ⟨nt, 0, none⟩ = some (.int .i64 (a : Int)) ∧ wc.cell? ⟨nt, 1, none⟩ = some (.int .i64 (z : Int))) := Lib.hid HC.out.cells
       have hS := res_store (.int .i64 (a : Int)) (.int .i64 (z : Int)) Hgl.out.2.2.2.2 Hrow.out Hr.out Hm.out
       rw [← hw14] at hS
       have hS2 : RdrO w14.drew g row s5 ∧ Mod (fun i => i = g) w w14.drew := ⟨hS.1.mod (Mod.refl (fun _ => False) _).drew (fun h => h) (fun _ h => h), hS.2.drew⟩
       have hres := Hbr.out.two (.int .i64 (a : Int)) (.int .i64 (z : Int))
       have hR0 : w14.drew.cell? ⟨w.heap.size + 1, 0, none⟩ = some (.int .i64 (a : Int)) := by rw [hw14]; exact hres.2.2.cell 0
       have hR1 : w14.drew.cell? ⟨w.heap.size + 1, 1, none⟩ = some (.int .i64 (z : Int)) := by rw [hw14]; exact hres.2.2.cell 1
       have HS2 := Lib.hid hS2; have HW14 := Lib.hid hw14; have HR0 := Lib.hid hR0; have HR1 := Lib.hid hR1
       clear hw14 hm14 hbt14 hS hS2 hres hR0 hR1 HC
       go_wp2_with fail
       go_region_held_law (fun w' => w'.cell? ⟨nt, 0, none⟩ = some (.int .i64 (a : Int)) ∧ w'.cell? ⟨nt, 1, none⟩ = some (.int .i64 (z : Int))) (first | exact S13.out | exact S14.out | (rw [← HW14.out]; exact S14.out)) (first | fail "x" | fail "y")
       all_goals
        (try rw [← HW14.out])
        go_wp2_with fail
        refine bodyPost_ret (v := .tuple #[.int .u64 (x : Int), .agg #[.int .i64 (a : Int), .int .i64 (z : Int)], .bool true]) (by simp [results, Tryz.results122, go_sem, HR0.out, HR1.out]) rfl ?_
        exact GotX.some_ Hst.out (by rw [← Ha.out, ← Hz.out]) (by have h := HS2.out.1; rw [Hs5.out] at h; exact h) HS2.out.2
end Go.Proofs.YthgoppmgapaajaaGreatDoor

/- Rows of values are read: Decode. -/
namespace Go.Proofs.YthgoppmgapaajaaGreatDoor
open Go.RowKit

def XDecEnd (w w' : World) (g row : Nat) (o : Option (List Nat × Nat × Nat)) (e : Ending) : Prop :=
 match o with
 | some (xs, R, rem) => ∃ v, e = .returned (.tuple #[v, .bool true]) ∧ Own w.heap.size w' 34 v (cellsU xs) ∧ RdrO w' g row (some (R, rem)) ∧ Mod (fun i => i = g) w w'
 | none => e = .returned (.tuple #[.slice none 0 0, .bool false]) ∧ (∃ s, RdrO w' g row s) ∧ Mod (fun i => i = g) w w'
theorem XDecEnd.some_ {w w' : World} {g row : Nat} {xs : List Nat} {R rem : Nat} {o : Option (List Nat × Nat × Nat)} {e : Ending} (h : XDecEnd w w' g row o e) (ho : o = some (xs, R, rem)) :
  ∃ v, e = .returned (.tuple #[v, .bool true]) ∧ Own w.heap.size w' 34 v (cellsU xs) ∧ RdrO w' g row (some (R, rem)) ∧ Mod (fun i => i = g) w w' := by
 rw [ho] at h
 exact h
theorem XDecEnd.none_ {w w' : World} {g row : Nat} {o : Option (List Nat × Nat × Nat)} {e : Ending} (h : XDecEnd w w' g row o e) (ho : o = none) :
  e = .returned (.tuple #[.slice none 0 0, .bool false]) ∧ (∃ s, RdrO w' g row s) ∧ Mod (fun i => i = g) w w' := by
 rw [ho] at h
 exact h
/-- What Decode has read of i values. -/
def XDec (w wr : World) (g row nb k R rem i : Nat) (v : Value) (prev : Nat) (win s : Option (Nat × Nat)) : Prop :=
 ∃ xs, Own (w.heap.size + 1) wr 34 v (cellsU xs) ∧ Blk wr nb 124 #[.int .i64 (winA win : Int), .int .i64 (winS win : Int)] ∧ RdrO wr g row s ∧ Mod (fun i => i = g) w wr ∧ xs.length = i ∧ prev < 2 ^ 64 ∧ WinOk win ∧ (i = 0 → xs = [] ∧ prev = 0 ∧ win = none ∧ s = some (R, rem)) ∧
  (0 < i → (s = none → stVals k R rem = none) ∧ ∀ R' rem', s = some (R', rem') → stVals k R rem = (stXs (k - i) win prev R' rem').map fun p => (xs ++ p.1, p.2))
theorem XDec.mk {w w1 w2 : World} {g row k R rem i : Nat} {v2 : Value} {x : Nat} {win' s' : Option (Nat × Nat)} {xs : List Nat} (hgl : g < w.heap.size) (hrow : row < w.heap.size)
  (hb1 : Blk w1 w.heap.size 124 #[.int .i64 (winA win' : Int), .int .i64 (winS win' : Int)]) (h1 : RdrO w1 g row s') (hm : Mod (fun i => i = g) w w1) (hown : Own (w.heap.size + 1) w2 34 v2 (cellsU xs ++ [.int .u64 (x : Int)])) (hb : Below (w.heap.size + 1) w1 w2)
  (hxl : xs.length = i) (hx : x < 2 ^ 64) (hw : WinOk win')
  (hn : (s' = none → stVals k R rem = none) ∧ ∀ R' rem', s' = some (R', rem') → stVals k R rem = (stXs (k - (i + 1)) win' x R' rem').map fun p => ((xs ++ [x]) ++ p.1, p.2)) :
  XDec w w2 g row w.heap.size k R rem (i + 1) v2 x win' s' := by
 refine ⟨xs ++ [x], ?_, hb1.below hb (by omega), h1.mod (Mod.of_below hb) (by omega) (fun _ => by omega), hm.trans (Mod.of_below hb) (fun i hi h => by omega), by simp [hxl], hx, hw, fun h => by omega, fun _ => hn⟩
 rw [cellsU_snoc]
 exact hown
theorem stVals_first {k R rem : Nat} (hk : 0 < k) : ((getO 64 (some (R, rem))).2 = none → stVals k R rem = none) ∧ ∀ R' rem', (getO 64 (some (R, rem))).2 = some (R', rem') → stVals k R rem = (stXs (k - 1) none (getO 64 (some (R, rem))).1 R' rem').map fun p => ((getO 64 (some (R, rem))).1 :: p.1, p.2) := by
 obtain ⟨k, rfl⟩ : ∃ j, k = j + 1 := ⟨k - 1, by omega⟩
 have e : stVals (k + 1) R rem = match takeB 64 R rem with | none => none | some (u, R1, rem1) => (stXs k none u R1 rem1).map fun (p : List Nat × Nat × Nat) => (u :: p.1, p.2) := rfl
 rw [e, getO_take]
 cases ht : takeB 64 R rem with
 | none => exact ⟨fun _ => rfl, fun _ _ h => by cases h⟩
 | some q =>
  obtain ⟨u, R1, rem1⟩ := q
  refine ⟨fun h => (by cases h), fun R' rem' h => ?_⟩
  have h2 : some (R1, rem1) = some (R', rem') := h
  injection h2 with h2
  injection h2 with h3 h4
  subst h3 h4
  rfl
theorem stXs_more {j R rem : Nat} {win : Option (Nat × Nat)} {prev : Nat} : (∀ x win' R1 rem1, stX win R rem = some (x, win', R1, rem1) → stXs (j + 1) win prev R rem = (stXs j win' (prev ^^^ x) R1 rem1).map fun p => ((prev ^^^ x) :: p.1, p.2)) ∧
  (stX win R rem = none → stXs (j + 1) win prev R rem = none) := by
 have e : stXs (j + 1) win prev R rem = match stX win R rem with | none => none | some (x, win', R1, rem1) => (stXs j win' (prev ^^^ x) R1 rem1).map fun (p : List Nat × Nat × Nat) => ((prev ^^^ x) :: p.1, p.2) := rfl
 refine ⟨fun x win' R1 rem1 h => ?_, fun h => ?_⟩
 ·rw [e, h]
 ·rw [e, h]
/-- One turn more, as states. -/
theorem stVals_next {k R rem i : Nat} {win s : Option (Nat × Nat)} {prev : Nat} {xs : List Nat} (hi : i < k) (h : (s = none → stVals k R rem = none) ∧ ∀ R' rem', s = some (R', rem') → stVals k R rem = (stXs (k - i) win prev R' rem').map fun p => (xs ++ p.1, p.2)) :
  (stO win s = none → stVals k R rem = none) ∧ ∀ x win' R1 rem1, stO win s = some (x, win', R1, rem1) → stVals k R rem = (stXs (k - (i + 1)) win' (prev ^^^ x) R1 rem1).map fun p => ((xs ++ [prev ^^^ x]) ++ p.1, p.2) := by
 obtain ⟨j, hj⟩ : ∃ j, k - i = j + 1 := ⟨k - i - 1, by omega⟩
 have hj2 : k - (i + 1) = j := by omega
 cases s with
 | none => exact ⟨fun _ => h.1 rfl, fun _ _ _ _ h => by cases h⟩
 | some p =>
  obtain ⟨R0, rem0⟩ := p
  have h1 := h.2 R0 rem0 rfl
  rw [hj] at h1
  refine ⟨fun hn => ?_, fun x win' R1 rem1 hs => ?_⟩
  ·rw [h1, stXs_more.2 hn]; rfl
  ·rw [h1, stXs_more.1 x win' R1 rem1 hs, hj2, Option.map_map]
   congr 1
   funext p
   simp
set_option maxHeartbeats 4000000 in
set_option maxRecDepth 100000 in
theorem xdec_any (g row R rem k : Nat) (n : Int) (w : World) (hk : max 0 (min n 65535) = (k : Int)) (hr : Rdr w g row R rem true) (hrem : rem ≤ 8000000) (hrow : row < w.heap.size) (hdeb : Deb w) (hg : g ≠ 2) :
  Calls Tryz.prog 105 #[.pointer (some ⟨g, 0, none⟩), .int .i64 n] w fun e w' => XDecEnd w w' g row (stVals k R rem) e := by
 obtain ⟨W, hW⟩ : ∃ W, W = w.alloc (.cells #[.int .i64 0, .int .i64 0] 124) := ⟨_, rfl⟩
 have hmW : Mod (fun _ => False) w W := by rw [hW]; exact (Mod.refl _ _).alloc _
 have hgl := Lib.hid hr.lt
 have hro : RdrO w g row (some (R, rem)) := ⟨hr, hrem⟩
 have hRs := Lib.hid hr.small
 have H0 : Hid (XDec w W g row w.heap.size k R rem 0 (.slice none 0 0) 0 none (some (R, rem))) := Lib.hid ⟨[], Own.nil _ _ _, by rw [hW]; exact Blk.new _ _ _, hro.mod hmW (fun h => h) (fun _ h => h), hmW.mono (fun _ _ h => h.elim), rfl, by decide, trivial, fun _ => ⟨rfl, rfl, rfl, rfl⟩, fun h => by omega⟩
 have Hdeb := Lib.hid hdeb; have Hg := Lib.hid hg; have Hrow := Lib.hid hrow; have HW := Lib.hid hW
 obtain ⟨mn, hmn0⟩ : ∃ mn : Int, min n 65535 = mn := ⟨_, rfl⟩
 have hmn := minI_is (P := Tryz.prog) (t := 3) (ty := 3) hmn0
 have hmx := maxI_is (P := Tryz.prog) (t := 3) (ty := 3) (n1 := 0) (n2 := mn) (m := (k : Int)) (by rw [← hmn0]; exact hk)
 have hk65 : k ≤ 65535 := by omega
 clear hr hrem hdeb hg hrow hk hmn0 hW hmW hro
 go_enter Tryz.func105, Tryz.ntmps105
 go_wp2_with (first | (rw [← HW.out]))
 clear hmn hmx
 go_loopg [6, 7, 16] k (fun l s6 s7 s16 wr => ∃ (i prev : Nat) (win s : Option (Nat × Nat)), i + l = k ∧ s16 = .int .i64 (i : Int) ∧ s7 = .int .u64 (prev : Int) ∧ XDec w wr g row w.heap.size k R rem i s6 prev win s)
 case atStart => exact ⟨0, 0, none, _, by omega, rfl, rfl, by first | exact H0.out | (rw [← HW.out]; exact H0.out)⟩
 case round =>
  obtain ⟨i, prev, win, s, hil, rfl, rfl, hD⟩ := hrel
  have HD := Lib.hid hD; have Hil := Lib.hid hil
  clear hD hil H0 HW
  obtain ⟨xs, hown, hb, hro, hm, hxl, hp64, hwok, hi0, hi1⟩ := HD.out
  have Hro := Lib.hid hro; have Hm := Lib.hid hm; have Hown := Lib.hid hown; have Hxl := Lib.hid hxl; have Hb := Lib.hid hb; have Hp64 := Lib.hid hp64; have Hwok := Lib.hid hwok
  have HdebR := Lib.hid (Hdeb.out.mod hm (fun e => Hg.out e.symm))
  clear hown hro hm hxl hb hp64 hwok
  by_cases hin : i < k
  ·by_cases h0 : i = 0
   ·obtain ⟨rfl, rfl, rfl, rfl⟩ := hi0 h0
    subst h0
    clear hi0 hi1
    go_wp2_with fail
    refine (get_o g row 64 64 _ _ rfl (by decide) Hro.out).mono ?_
    rintro e w1 ⟨rfl, h1, hm1⟩
    obtain ⟨u, hu⟩ : ∃ u, u = (getO 64 (some (R, rem))).1 := ⟨_, rfl⟩
    have hu64 : Hid (u < 2 ^ 64) := Lib.hid (by rw [hu]; exact getO_lt hRs.out 64)
    have hN : Hid (((getO 64 (some (R, rem))).2 = none → stVals k R rem = none) ∧ ∀ R' rem', (getO 64 (some (R, rem))).2 = some (R', rem') → stVals k R rem = (stXs (k - (0 + 1)) none u R' rem').map fun p => (([] ++ [u]) ++ p.1, p.2)) :=
     Lib.hid (by rw [hu]; exact stVals_first hin)
    rw [← hu]
    have Hown1 : Hid (Own (w.heap.size + 1) w1 34 u6 (cellsU [])) := Lib.hid (hm1.owns Hown.out (fun k hk e => by have := (Hown.out.block k hk).1; have := hgl.out; omega))
    have Hb1 := Lib.hid (hm1.blk Hb.out (by have := hgl.out; omega))
    have H1 := Lib.hid h1; have Hm1 := Lib.hid (Hm.out.trans hm1 (fun _ _ h => h))
    have hsz : w.heap.size + 1 ≤ w1.heap.size := by have := Hb1.out.lt; omega
    have hr1 : (cellsU []).length + 1 ≤ maxLen := by unfold maxLen; decide
    have hr2 : ((cellsU []).length + 1) * 8 ≤ 140737488355328 := by decide
    clear hu h1 hm1
    go_wp2_with (at_builtin; refine wpList_app1 rfl (.tmp 36) (.tmp 38) _ rfl eltU rfl Hown1.out rfl rfl rfl hr1 hr2 hsz ?_; intro v' w2 HO HB)
    have HD2 : Hid (XDec w w2 g row w.heap.size k R rem (0 + 1) v' u none (getO 64 (some (R, rem))).2) := Lib.hid (XDec.mk hgl.out Hrow.out Hb1.out H1.out Hm1.out HO.out HB.out rfl hu64.out trivial hN.out)
    go_roundg (gk - 1)
    case measure => have := Hil.out; omega
    case rel => exact ⟨0 + 1, u, none, _, by have := Hil.out; omega, rfl, rfl, HD2.out⟩
   ·have hb0 : ((i : Int) == 0) = false := by simp; omega
    have hN := Lib.hid (stVals_next (win := win) (xs := xs) hin (hi1 (by omega)))
    have hc0 := Hb.out.cell 0
    have hc1 := Hb.out.cell 1
    simp at hc0 hc1
    clear hi0 hi1
    go_wp2_with fail
    refine (xget_any g row win s _ Hwok.out Hro.out (by have := Hrow.out; have := Hm.out.size; omega) HdebR.out Hg.out).mono ?_
    intro e w1 hG
    cases hst : stO win s with
    | none =>
     have Hnone := Lib.hid (hN.out.1 hst)
     unfold GotX at hG
     rw [hst] at hG
     obtain ⟨⟨x, p, q, rfl⟩, hs1, hm1⟩ := hG
     have Hs1 := Lib.hid hs1
     have hda := ((Mod.refl (fun _ => False) w1).alloc (.cells #[.int .i64 p, .int .i64 q] 124))
     have HmE := Lib.hid ((Hm.out.trans hm1 (fun _ _ h => h)).trans hda (fun _ _ h => h.elim))
     have HsE : Hid (∃ s', RdrO (w1.alloc (.cells #[.int .i64 p, .int .i64 q] 124)) g row s') := Lib.hid (by
      obtain ⟨s', h⟩ := hs1
      exact ⟨s', h.mod hda (fun h => h) (fun _ h => h)⟩)
     clear hst hs1 hm1 hda hc0 hc1
     go_wp2_with fail
     go_ret2
     unfold XDecEnd
     rw [Hnone.out]
     exact ⟨rfl, HsE.out, HmE.out⟩
    | some r =>
     obtain ⟨x, win', R1, rem1⟩ := r
     have hsome := hN.out.2 x win' R1 rem1 hst
     unfold GotX at hG
     rw [hst] at hG
     obtain ⟨rfl, hr1, hm1⟩ := hG
     have hx : x < 2 ^ 64 ∧ WinOk win' := by
      cases s with
      | none => cases hst
      | some q =>
       obtain ⟨R0, rem0⟩ := q
       obtain ⟨_, e2, e3⟩ := stX_took hst (Hro.out.small _ _ rfl) Hwok.out
       exact ⟨e3, e2 ▸ winX_ok Hwok.out e3⟩
     obtain ⟨hx64, hwok'⟩ := hx
     obtain ⟨y, hy⟩ : ∃ y : Nat, y = prev ^^^ x := ⟨_, rfl⟩
     have hxor : bits .xor .u64 (prev : Int) (x : Int) = (y : Int) := by rw [hy]; exact u64_xor_nat prev x Hp64.out hx64
     have hyl : Hid (y < 2 ^ 64) := Lib.hid (by rw [hy]; exact Nat.xor_lt_two_pow Hp64.out hx64)
     rw [← hy] at hsome
     obtain ⟨A, hA⟩ : ∃ A, A = winA win' := ⟨_, rfl⟩
     obtain ⟨S, hS⟩ : ∃ S, S = winS win' := ⟨_, rfl⟩
     rw [← hA, ← hS]
     obtain ⟨w2, hw2⟩ : ∃ w2, w2 = w1.alloc (.cells #[.int .i64 (A : Int), .int .i64 (S : Int)] 124) := ⟨_, rfl⟩
     obtain ⟨nt, hnt⟩ : ∃ nt, nt = w1.heap.size := ⟨_, rfl⟩
     have hm12 : Mod (fun _ => False) w1 w2 := by rw [hw2]; exact (Mod.refl _ _).alloc _
     have hb1 := hm1.blk Hb.out (by have := hgl.out; omega)
     have hb2 := hm12.blk hb1 (fun h => h)
     have hbt2 : Blk w2 nt 124 #[.int .i64 (A : Int), .int .i64 (S : Int)] := by rw [hw2, hnt]; exact Blk.new _ _ _
     have hown1 : Own (w.heap.size + 1) w1 34 u6 (cellsU xs) := hm1.owns Hown.out (fun k hk e => by have := (Hown.out.block k hk).1; have := hgl.out; omega)
     obtain ⟨w3, hw3⟩ : ∃ w3, w3 = (w2.setCell ⟨w.heap.size, 0, none⟩ (.int .i64 (A : Int))).setCell ⟨w.heap.size, 1, none⟩ (.int .i64 (S : Int)) := ⟨_, rfl⟩
     have hm23 : Mod (fun i => i = w.heap.size) w2 w3 := by rw [hw3]; exact ((Mod.refl (fun i => i = w.heap.size) _).setCell (p := ⟨w.heap.size, 0, none⟩) (fun _ => rfl) _).setCell (p := ⟨w.heap.size, 1, none⟩) (fun _ => rfl) _
     have Hown3 : Hid (Own (w.heap.size + 1) w3 34 u6 (cellsU xs)) := Lib.hid (hm23.owns (hm12.owns hown1 (fun _ _ h => h)) (fun k hk e => by have := (Hown.out.block k hk).1; omega))
     have Hb3 : Hid (Blk w3 w.heap.size 124 #[.int .i64 (winA win' : Int), .int .i64 (winS win' : Int)]) := Lib.hid (by rw [hw3, ← hA, ← hS]; exact (hb2.two _ _).2.2)
     have Hr3 := Lib.hid ((hr1.mod hm12 (fun h => h) (fun _ h => h)).mod hm23 (by have := hgl.out; omega) (fun _ => by have := Hrow.out; omega))
     have Hm3 := Lib.hid (((Hm.out.trans hm1 (fun _ _ h => h)).trans hm12 (fun _ _ h => h.elim)).trans hm23 (fun i hi e => by omega))
     have hd0 := hb2.cell 0
     have hd1 := hb2.cell 1
     have hf0 := hb2.frozen 0
     have hf1 := hb2.frozen 1
     have he0 := hbt2.cell 0
     have he1 := hbt2.cell 1
     simp at hd0 hd1 he0 he1
     have hsz : w.heap.size + 1 ≤ w3.heap.size := by have := Hb3.out.lt; omega
     have hr1' : (cellsU xs).length + 1 ≤ maxLen := by rw [cellsU_length, Hxl.out]; unfold maxLen; omega
     have hr2' : ((cellsU xs).length + 1) * 8 ≤ 140737488355328 := by rw [cellsU_length, Hxl.out]; omega
     have HN : Hid (((some (R1, rem1) : Option (Nat × Nat)) = none → stVals k R rem = none) ∧ ∀ R' rem', (some (R1, rem1) : Option (Nat × Nat)) = some (R', rem') → stVals k R rem = (stXs (k - (i + 1)) win' y R' rem').map fun p => ((xs ++ [y]) ++ p.1, p.2)) := Lib.hid ⟨fun h => (by cases h), fun R' rem' h => by
      injection h with h
      injection h with h3 h4
      subst h3 h4
      exact hsome⟩
     have HW2 := Lib.hid hw2; have HNT := Lib.hid hnt; have HW3 := Lib.hid hw3; have Hwok' := Lib.hid hwok'
     clear hst hsome hr1 hm1 hx64 hwok' hy hA hS hw2 hnt hm12 hb1 hb2 hbt2 hown1 hw3 hm23 hc0 hc1
     go_wp2_with (first | (at_builtin; refine wpList_app1 rfl (.tmp 36) (.tmp 38) _ rfl eltU rfl Hown3.out rfl rfl rfl hr1' hr2' hsz ?_; intro v' w4 HO HB) | (rw [← HW3.out]) | (rw [← HNT.out, ← HW2.out]))
     have HD2 : Hid (XDec w w4 g row w.heap.size k R rem (i + 1) v' y win' (some (R1, rem1))) := Lib.hid (XDec.mk hgl.out Hrow.out Hb3.out Hr3.out Hm3.out HO.out HB.out Hxl.out hyl.out Hwok'.out HN.out)
     go_roundg (gk - 1)
     case measure => have := Hil.out; omega
     case rel => exact ⟨i + 1, y, win', _, by have := Hil.out; omega, by go_num, rfl, HD2.out⟩
  ·have hik : i = k := by have := Hil.out; omega
   have Hres : Hid ((s = none → stVals k R rem = none) ∧ ∀ R' rem', s = some (R', rem') → stVals k R rem = some (xs, R', rem')) := Lib.hid (by
    rcases Nat.eq_zero_or_pos i with h0 | h0
    ·obtain ⟨b1, b2, b3, b4⟩ := hi0 h0
     subst b1 b4
     have hk0 : k = 0 := by omega
     subst hk0
     refine ⟨fun h => (by cases h), fun R' rem' h => ?_⟩
     injection h with h
     injection h with h3 h4
     subst h3 h4
     rfl
    ·obtain ⟨b1, b2⟩ := hi1 h0
     refine ⟨b1, fun R' rem' h => ?_⟩
     rw [b2 R' rem' h, hik, Nat.sub_self]
     show some (xs ++ [], R', rem') = _
     rw [List.append_nil])
   clear hi0 hi1 hik
   go_wp2_with fail
   refine (ok_o g row s _ Hro.out).mono ?_
   rintro e w1 ⟨rfl, rfl⟩
   have hres1 : s = none → Hid (stVals k R rem = none) := fun h => Lib.hid (Hres.out.1 h)
   cases s with
   | none =>
    have hres2 := hres1 rfl
    clear Hres hres1
    go_wp2_with fail
    go_ret2
    unfold XDecEnd
    rw [hres2.out]
    exact ⟨rfl, ⟨_, Hro.out⟩, Hm.out⟩
   | some p =>
    obtain ⟨R', rem'⟩ := p
    have hres2 : Hid (stVals k R rem = some (xs, R', rem')) := Lib.hid (Hres.out.2 R' rem' rfl)
    clear Hres hres1
    go_wp2_with fail
    go_ret2
    unfold XDecEnd
    rw [hres2.out]
    exact ⟨_, rfl, Hown.out.mono (by omega), Hro.out, Hm.out⟩
end Go.Proofs.YthgoppmgapaajaaGreatDoor

/- Values read in each codec: getSimple, getSame, getValues. -/
namespace Go.Proofs.YthgoppmgapaajaaGreatDoor
open Go.RowKit

theorem encS_lt (n : Nat) : ∀ (u ws : List Nat), u.length = n → encS u = some ws → ∀ x ∈ u, x < 2 ^ 64 := by
 induction n using Nat.strongRecOn with
 | ind n ih =>
  intro u ws hn he x hx
  by_cases hu : u = []
  ·subst hu
   cases hx
  ·rw [encS_step hu] at he
   by_cases hk : kindOf u = 16
   ·rw [if_pos hk] at he; cases he
   ·rw [if_neg hk] at he
    have hk16 : kindOf u < 16 := by have := kindS_le u; omega
    obtain ⟨vs, h1, _⟩ := Option.map_eq_some_iff.1 he
    have hf := fitsK_all (kind_fits hk16)
    rw [← List.take_append_drop (numN (kindOf u)) u] at hx
    rcases List.mem_append.1 hx with h | h
    ·have hb : bitN (kindOf u) ≤ 60 := by
      have h3 := (num_pos hk16).2.2.1
      have h4 := (num_pos hk16).1
      have h5 := Nat.mul_le_mul_right (bitN (kindOf u)) h4
      omega
     have h6 := hf x h
     have h7 : 2 ^ bitN (kindOf u) ≤ 2 ^ 60 := Nat.pow_le_pow_right (by omega) hb
     omega
    ·have hd := drop_less hu hk
     exact ih _ (by omega) _ vs rfl h1 x h
theorem decS_lt {N : Nat} {ws u : List Nat} (h : decS N ws = some u) : ∀ x ∈ u, x < 2 ^ 64 := encS_lt _ u ws rfl (decS_some h).2
theorem getO_if {k R rem : Nat} (h : k ≤ rem) : getO k (some (R, rem)) = (R / 2 ^ (rem - k), some (R % 2 ^ (rem - k), rem - k)) := if_pos h
theorem unw8_few {bs : List Nat} (h : bs.length < 8) : unw8 bs = [] := by
 match bs, h with
 | [], _ => rfl
 | [_], _ => rfl
 | [_, _], _ => rfl
 | [_, _, _], _ => rfl
 | [_, _, _, _], _ => rfl
 | [_, _, _, _, _], _ => rfl
 | [_, _, _, _, _, _], _ => rfl
 | [_, _, _, _, _, _, _], _ => rfl
 | _ :: _ :: _ :: _ :: _ :: _ :: _ :: _ :: r, h => simp at h; omega
theorem unw8_many {bs : List Nat} (h : 8 ≤ bs.length) (hlt : lt256 bs) : ∃ x r, unw8 bs = x :: unw8 r ∧ x < 2 ^ 64 ∧ lt256 r ∧ r.length + 8 = bs.length ∧ getO 64 (some (val bs, 8 * bs.length)) = (x, some (val r, 8 * r.length)) := by
 match bs, h with
 | a :: b :: c :: d :: e :: f :: g :: h' :: r, _ =>
  have ha := hlt a (by simp); have hb := hlt b (by simp); have hc := hlt c (by simp); have hd := hlt d (by simp)
  have he := hlt e (by simp); have hf := hlt f (by simp); have hg := hlt g (by simp); have hh := hlt h' (by simp)
  have hr : lt256 r := fun x hx => hlt x (by simp [hx])
  have hx : un8 a b c d e f g h' < 2 ^ 64 := by unfold un8; omega
  refine ⟨un8 a b c d e f g h', r, rfl, hx, hr, by simp, ?_⟩
  have e1 : val (a :: b :: c :: d :: e :: f :: g :: h' :: r) = val [a, b, c, d, e, f, g, h'] * 256 ^ r.length + val r := val_append [a, b, c, d, e, f, g, h'] r
  have e2 : val [a, b, c, d, e, f, g, h'] = un8 a b c d e f g h' := by
   unfold un8
   simp [val]
  have hv := val_lt hr
  have el : 8 * (a :: b :: c :: d :: e :: f :: g :: h' :: r).length = 8 * r.length + 64 := by simp; omega
  have e3 : getO 64 (some (val (a :: b :: c :: d :: e :: f :: g :: h' :: r), 8 * r.length + 64)) = (val (a :: b :: c :: d :: e :: f :: g :: h' :: r) / 2 ^ (8 * r.length + 64 - 64), some (val (a :: b :: c :: d :: e :: f :: g :: h' :: r) % 2 ^ (8 * r.length + 64 - 64), 8 * r.length + 64 - 64)) := getO_if (by omega)
  rw [el, e3, Nat.add_sub_cancel, e1, e2, pow_256]
  rw [Nat.mul_comm, Nat.mul_add_div (Nat.two_pow_pos _), Nat.div_eq_of_lt hv, Nat.mul_add_mod, Nat.mod_eq_of_lt hv, Nat.add_zero]
/-- Words read so far; the reader stands behind them. -/
def WordTo (w w1 wr : World) (g row : Nat) (bs : List Nat) (v : Value) (left : Nat) : Prop :=
 ∃ ws rest, Own w1.heap.size wr 34 v (cellsU ws) ∧ RdrO wr g row (some (val rest, 8 * rest.length)) ∧ lt256 rest ∧ rest.length ≤ 1000000 ∧ ws.length + (unw8 rest).length ≤ 1000000 ∧ (∀ x ∈ ws, x < 2 ^ 64) ∧ unw8 bs = ws ++ unw8 rest ∧ (unw8 rest).length = left ∧ Mod (fun _ => False) w wr ∧ w1.heap.size ≤ wr.heap.size
theorem unw8_len (n : Nat) : ∀ bs : List Nat, bs.length ≤ n → (unw8 bs).length ≤ bs.length := by
 induction n using Nat.strongRecOn with
 | ind n ih =>
  intro bs hb
  match bs, hb with
  | [], _ => simp [unw8]
  | [_], _ => simp [unw8]
  | [_, _], _ => simp [unw8]
  | [_, _, _], _ => simp [unw8]
  | [_, _, _, _], _ => simp [unw8]
  | [_, _, _, _, _], _ => simp [unw8]
  | [_, _, _, _, _, _], _ => simp [unw8]
  | [_, _, _, _, _, _, _], _ => simp [unw8]
  | a :: b :: c :: d :: e :: f :: g :: h :: r, hb =>
   have hr : r.length + 8 ≤ n := by simpa using hb
   have := ih r.length (by omega) r (Nat.le_refl _)
   show (un8 a b c d e f g h :: unw8 r).length ≤ _
   simp
   omega
/-- Differences turned into values, as far as i. -/
def BackTo (w wr : World) (us : List Nat) (A : Option Addr) (L c i last : Nat) : Prop :=
 Own w.heap.size wr 34 (.slice A L c) (cellsU (unstepsU 0 (us.take i) ++ us.drop i)) ∧ last = (unstepsU 0 (us.take i)).getLast?.getD 0 ∧ last < 2 ^ 64 ∧ Mod (fun _ => False) w wr
theorem BackTo.step {w wr : World} {us : List Nat} {A : Option Addr} {L c i last u : Nat} (h : BackTo w wr us A L c i last) (hL : us.length = L) (hi : i < L) (hu : us[i]? = some u) :
  ∃ g, A = some ⟨g, 0, none⟩ ∧ w.heap.size ≤ g ∧ wr.cell? ⟨g, i, none⟩ = some (.int .u64 (u : Int)) ∧ wr.frozen? ⟨g, i, none⟩ = false ∧ BackTo w (wr.setCell ⟨g, i, none⟩ (.int .u64 (backU last u : Int))) us A L c (i + 1) (backU last u) := by
 obtain ⟨h1, h2, h3, h4⟩ := h
 have hlen : (unstepsU 0 (us.take i) ++ us.drop i).length = L := by rw [List.length_append, unstepsU_len, List.length_take, List.length_drop]; omega
 obtain ⟨g, cap, hv, hgB, _⟩ := h1.form' (by rw [cellsU_length, hlen]; omega)
 have hA : A = some ⟨g, 0, none⟩ := by injection hv
 subst hA
 have ht : (us.take i).length = i := by rw [List.length_take]; omega
 obtain ⟨a1, a2, a3⟩ := own_setU (k := i) (b := backU last u) h1 hlen.symm hi
 have hc := h1.cell' rfl i (by rw [cellsU_length, hlen]; exact hi)
 have hget : (unstepsU 0 (us.take i) ++ us.drop i)[i]? = some u := by
  rw [List.getElem?_append_right (by rw [unstepsU_len]; omega), unstepsU_len, ht, Nat.sub_self, List.getElem?_drop, Nat.add_zero]
  exact hu
 refine ⟨g, rfl, hgB, ?_, a2, ?_, ?_, backU_lt _ _, mod_new h4 hgB _⟩
 ·rw [hc, cellsU_get, hget]
  rfl
 ·have e : (unstepsU 0 (us.take i) ++ us.drop i).set i (backU last u) = unstepsU 0 (us.take (i + 1)) ++ us.drop (i + 1) := by
   rw [List.set_append_right _ _ (by rw [unstepsU_len]; omega), unstepsU_len, ht, Nat.sub_self, drop_at' hu, List.set_cons_zero, take_succ_of hu, unstepsU_snoc, ← h2, List.append_assoc]
   rfl
  rw [e] at a3
  exact a3
 ·rw [take_succ_of hu, unstepsU_snoc, ← h2, List.getLast?_concat]
  rfl
theorem EncE.of_own {w w' : World} {us : List Nat} {v : Value} (h : Own w.heap.size w' 34 v (cellsU us)) (hm : Mod (fun _ => False) w w') : EncE w w' (some us) (.returned (.tuple #[v, .bool true])) := ⟨v, rfl, h, hm⟩
theorem EncE.parts {w w' : World} {o : Option (List Nat)} {e : Ending} (h : EncE w w' o e) : ∃ v, e = .returned (.tuple #[v, .bool o.isSome]) ∧ EncE w w' o (.returned (.tuple #[v, .bool o.isSome])) := by
 cases o with
 | none => obtain ⟨rfl, hm⟩ := h; exact ⟨_, rfl, rfl, hm⟩
 | some bs => obtain ⟨v, rfl, h1, h2⟩ := h; exact ⟨v, rfl, v, rfl, h1, h2⟩
set_option maxHeartbeats 2000000 in
set_option maxRecDepth 100000 in
theorem gsimple_any (A : Option Addr) (n cap N : Nat) (m : Int) (bs : List Nat) (w : World) (hs : Rds w w.heap.size A n (cells8 bs)) (hlt : lt256 bs) (hA : A = none → cap = 0) (hn : n ≤ 1000000) (hN : max 0 (min m 65535) = (N : Int)) (hk : Kin w) (hw0 : 0 < w.heap.size) :
  Calls Tryz.prog 106 #[.slice A n cap, .int .i64 m] w fun e w' => EncE w w' ((decS N (unw8 bs)).map (unstepsU 0)) e := by
 have hul : bs.length = n := by have := hs.1; rwa [cells8_length] at this
 obtain ⟨row0, hsee, _⟩ := hs.sees hw0
 have hnew := newReader_any row0 A n cap bs w hsee hA (by omega) hlt
 have Hnew := Lib.hid hnew; have Hlt := Lib.hid hlt; have Hul := Lib.hid hul; have Hk := Lib.hid hk; have HN := Lib.hid hN; have Hw0 := Lib.hid hw0
 clear hs hlt hA hul hsee hnew hk hN hw0
 go_enter Tryz.func106, Tryz.ntmps106
 go_wp2_with fail
 refine Hnew.out.mono ?_
 rintro e w1 ⟨g, rowr, rfl, hg1, _, hm1, hrd⟩
 have hgl := hrd.lt
 obtain ⟨row, hrow, _, hrd'⟩ := hrd.real (by have := Hw0.out; omega) (by have := hm1.size; have := Hw0.out; omega)
 have R0 : Hid (WordTo w w1 w1 g row bs (.slice none 0 0) (unw8 bs).length) := Lib.hid ⟨[], bs, Own.nil _ _ _, ⟨by rw [Hul.out]; exact hrd', by have := Hul.out; omega⟩, Hlt.out, by have := Hul.out; omega, by have := unw8_len _ bs (Nat.le_refl _); have := Hul.out; simp; omega, (fun _ h => by cases h), rfl, rfl, hm1, Nat.le_refl _⟩
 have Hm1 := Lib.hid hm1; have Hg1 := Lib.hid hg1; have Hgl := Lib.hid hgl; have Hrow := Lib.hid hrow
 clear hg1 hm1 hrd hgl hrow hrd' Hnew
 go_wp2_with fail
 go_loopg [6] (unw8 bs).length (fun l s6 wr => WordTo w w1 wr g row bs s6 l)
 case atStart => exact R0.out
 case round =>
  obtain ⟨ws, rest, h1, h2, h3, h3b, h3c, h4, h5, h6, h7, h8⟩ := hrel
  have H1 := Lib.hid h1; have H2 := Lib.hid h2; have H3 := Lib.hid h3; have H3b := Lib.hid h3b; have H3c := Lib.hid h3c; have H4 := Lib.hid h4; have H5 := Lib.hid h5; have H6 := Lib.hid h6; have H7 := Lib.hid h7; have H8 := Lib.hid h8
  clear h1 h2 h3 h3b h3c h4 h5 h6 h7 h8 R0
  obtain ⟨q, hq⟩ : ∃ q, q = 8 * rest.length := ⟨_, rfl⟩
  have hcl := left_ab g row (val rest) q true wr (by rw [hq]; exact H2.out.1) (by have := H3b.out; omega)
  have Hcl := Lib.hid hcl; have Hq := Lib.hid hq
  clear hcl hq
  by_cases h64 : 64 ≤ q
  ·have h64i : (64 : Int) ≤ (q : Int) := by omega
   obtain ⟨x, r, e1, e2, e3, e4, e5⟩ := unw8_many (by have := Hq.out; omega) H3.out
   have HX := Lib.hid (And.intro e1 (And.intro e2 (And.intro e3 (And.intro e4 e5))))
   clear e1 e2 e3 e4 e5
   go_wp2_with fail
   refine Hcl.out.mono ?_
   rintro e w2 ⟨rfl, hm2⟩
   have H2b := Lib.hid (show RdrO w2 g row (some (val rest, 8 * rest.length)) from ⟨H2.out.1.mod hm2 (fun h => h) (fun _ h => h), H2.out.2⟩)
   have H1b := Lib.hid (H1.out.mod hm2); have Hm2 := Lib.hid (H7.out.trans hm2 (fun _ _ h => h)); have H8b := Lib.hid (Nat.le_trans H8.out hm2.size)
   clear hm2 H2 H1 H7 H8 Hcl
   go_wp2_with fail
   refine (get_o g row 64 64 _ _ rfl (by decide) H2b.out).mono ?_
   rintro e w3 ⟨rfl, hro, hm3⟩
   rw [HX.out.2.2.2.2] at hro
   rw [HX.out.2.2.2.2]
   have H2c := Lib.hid hro
   have Hgw : Hid (w.heap.size ≤ g) := Hg1
   have H1c := Lib.hid (show Own w1.heap.size w3 34 u6 (cellsU ws) from hm3.owns H1b.out (fun k hk e => by have := (H1b.out.block k hk).1; have := Hgl.out; omega))
   have Hm3 := Lib.hid (Hm2.out.trans hm3 (fun i hi e => by have := Hg1.out; omega)); have H8c : w1.heap.size ≤ w3.heap.size := Nat.le_trans H8b.out hm3.size
   have HR : Hid ((cellsU ws).length + 1 ≤ maxLen ∧ ((cellsU ws).length + 1) * 8 ≤ 140737488355328) := Lib.hid ⟨by rw [cellsU_length]; have := H3c.out; unfold maxLen; omega, by rw [cellsU_length]; have := H3c.out; omega⟩
   clear hro hm3 H2b H1b Hm2 H8b
   go_wp2_with (at_builtin; refine wpList_app1 rfl (.tmp 18) (.tmp 21) _ rfl eltU rfl H1c.out rfl rfl rfl HR.out.1 HR.out.2 H8c ?_; intro v4 w4 HO4 HB4)
   have HW : Hid (WordTo w w1 w4 g row bs v4 (unw8 r).length) := Lib.hid ⟨ws ++ [x], r, by rw [cellsU_snoc]; exact HO4.out, ⟨H2c.out.1.mod (Mod.of_below HB4.out) (by have := Hgl.out; omega) (fun _ h => by have := Hrow.out; omega), H2c.out.2⟩, HX.out.2.2.1, by have := HX.out.2.2.2.1; have := H3b.out; omega, by
     have := H3c.out
     rw [HX.out.1] at this
     simp at this ⊢
     omega, by
     intro y hy
     rcases List.mem_append.1 hy with h | h
     ·exact H4.out y h
     ·have := List.mem_singleton.1 h
      rw [this]
      exact HX.out.2.1, by rw [H5.out, HX.out.1, List.append_assoc]; rfl, rfl, Hm3.out.trans (Mod.of_below HB4.out) (fun i hi h => by have := Hm1.out.size; omega), Nat.le_trans H8c HB4.out.size⟩
   go_roundg (unw8 r).length
   case measure => have := H6.out; rw [HX.out.1] at this; simp at this; omega
   case rel => exact HW.out
  ·have h64i : ¬ (64 : Int) ≤ (q : Int) := by omega
   have hnil : unw8 rest = [] := unw8_few (by have := Hq.out; omega)
   have hws : unw8 bs = ws := by rw [H5.out, hnil, List.append_nil]
   have Hws := Lib.hid hws
   clear hnil hws
   go_wp2_with fail
   refine Hcl.out.mono ?_
   rintro e w2 ⟨rfl, hm2⟩
   obtain ⟨A1, L1, c1, rfl, HL1, hc1, hr1⟩ := own_formUN (H1.out.mod hm2)
   have Hr1 := Lib.hid hr1; have Hm2 := Lib.hid (H7.out.trans hm2 (fun _ _ h => h)); have Hk2 := Lib.hid (Hk.out.mod Hm2.out (fun h => h))
   have hL1 : L1 ≤ 1000000 := by have := HL1.out; have := H3c.out; omega
   have HL1b := Lib.hid hL1
   clear hm2 hr1 hL1 H2 H1 H7 H8 Hcl
   go_wp2_with fail
   refine (sdec_any A1 L1 c1 w2.heap.size N m ws w2 Hr1.out (Nat.le_refl _) H4.out HL1b.out HN.out Hk2.out).mono ?_
   intro e w3 he
   cases ho : decS N ws with
   | none =>
    obtain ⟨rfl, hm3⟩ := EncE.none_ he ho
    have Hno : Hid ((decS N (unw8 bs)).map (unstepsU 0) = none) := Lib.hid (by rw [Hws.out, ho]; rfl)
    have Hm3 := Lib.hid (Hm2.out.trans hm3 (fun _ _ h => h))
    clear he ho hm3
    go_wp2_with fail
    go_loopg [31] 0 (fun l s31 wq => s31 = .int .i64 0 ∧ wq = w3)
    case atStart => exact ⟨rfl, rfl⟩
    case round =>
     obtain ⟨rfl, rfl⟩ := hrel
     go_wp2_with fail
     go_ret2
     rw [Hno.out]
     exact ⟨rfl, Hm3.out⟩
   | some us =>
    obtain ⟨v3, rfl, ho3, hm3⟩ := EncE.some_ he ho
    obtain ⟨hul, hus⟩ := decS_some ho
    obtain ⟨A3, L3, c3, rfl, HL3, hc3, _⟩ := own_formUN ho3
    have hL3 : L3 ≤ 65535 := by have := HL3.out; have := HN.out; omega
    have Hyes : Hid ((decS N (unw8 bs)).map (unstepsU 0) = some (unstepsU 0 us)) := Lib.hid (by rw [Hws.out, ho]; rfl)
    have Hm3 := Lib.hid (Hm2.out.trans hm3 (fun _ _ h => h))
    have hu64 := decS_lt ho
    have B0 : Hid (BackTo w w3 us A3 L3 c3 0 0) := Lib.hid ⟨ho3.mono Hm2.out.size, rfl, by decide, Hm3.out⟩
    have Hu64 := Lib.hid hu64
    clear he ho ho3 hm3 hul hus hu64 hc3 hc1 Hr1 Hm2 Hk2
    go_wp2_with fail
    go_loopg [10, 31] L3 (fun l s10 s31 wq => ∃ i last : Nat, i + l = L3 ∧ s31 = .int .i64 (i : Int) ∧ s10 = .int .u64 (last : Int) ∧ BackTo w wq us A3 L3 c3 i last)
    case atStart => exact ⟨0, 0, by omega, rfl, rfl, B0.out⟩
    case round =>
     obtain ⟨i, last, hil, rfl, rfl, hP⟩ := hrel
     have Hil := Lib.hid hil; have HP := Lib.hid hP
     clear hil hP B0
     by_cases hin : i < L3
     ·have hui : i < us.length := by rw [HL3.out]; exact hin
      obtain ⟨u, hu⟩ : ∃ u, us[i]? = some u := ⟨_, List.getElem?_eq_getElem hui⟩
      have hu64 := Hu64.out u (List.mem_of_getElem? hu)
      obtain ⟨g3, rfl, hg3, hc, hf, hP2⟩ := HP.out.step HL3.out hin hu
      obtain ⟨z, hz⟩ : ∃ z, z = zag (u : Int) := ⟨_, rfl⟩
      have hw1 : IntKind.u64.wrap z = (un z : Int) := wrapU_un z
      obtain ⟨y, hy⟩ : ∃ y, y = un z := ⟨_, rfl⟩
      rw [← hy] at hw1
      have hl64 := HP.out.2.2.1
      have hw2 : IntKind.u64.wrap ((last : Int) + (y : Int)) = (backU last u : Int) := by
       rw [IntKind.wrap_u64]
       unfold backU
       rw [← hz, ← hy]
       show _ = (((last + y) % 18446744073709551616 : Nat) : Int)
       omega
      obtain ⟨bk, hbk⟩ : ∃ bk, bk = backU last u := ⟨_, rfl⟩
      rw [← hbk] at hw2 hP2
      have hfit : Fit64 (u : Int) := ⟨by omega, by omega⟩
      have Hfit := Lib.hid hfit; have HP2 := Lib.hid hP2; have Hz := Lib.hid hz; have Hbk := Lib.hid hbk
      have Hg3 := Lib.hid hg3
      clear hui hu hu64 hg3 hP2 hz hy hl64 hbk hfit
      go_wp2_with fail
      refine (zag_any (u : Int) _ Hfit.out).mono ?_
      rintro e w4 ⟨rfl, rfl⟩
      rw [← Hz.out]
      go_wp2_with fail
      go_roundg (gk - 1)
      case measure => have := Hil.out; omega
      case rel => exact ⟨i + 1, bk, by have := Hil.out; omega, by go_num, rfl, HP2.out⟩
     ·have hi : i = L3 := by have := Hil.out; omega
      obtain ⟨k1, _, _, k4⟩ := HP.out
      rw [List.take_of_length_le (by rw [HL3.out]; omega), List.drop_of_length_le (by rw [HL3.out]; omega), List.append_nil] at k1
      have K1 := Lib.hid k1; have K4 := Lib.hid k4
      clear hi k1 k4 HP
      go_wp2_with fail
      go_ret2
      rw [Hyes.out]
      exact ⟨_, rfl, K1.out, K4.out⟩
end Go.Proofs.YthgoppmgapaajaaGreatDoor

/- Values read in a codec: getSame, getValues. -/
namespace Go.Proofs.YthgoppmgapaajaaGreatDoor
open Go.RowKit

def readSame (N : Nat) (b : List Nat) : Option (List Nat) := if N = 0 then some [] else if (dec b).2 = 0 then none else some (List.replicate N (dec b).1)
set_option maxHeartbeats 1000000 in
set_option maxRecDepth 100000 in
theorem gsame_any (A : Option Addr) (n cap N : Nat) (bs : List Nat) (w : World) (hs : Rds w w.heap.size A n (cells8 bs)) (hlt : lt256 bs) (hnc : n ≤ cap) (hcm : cap ≤ maxLen) (hN : N ≤ 65535) :
  Calls Tryz.prog 110 #[.slice A n cap, .int .i64 (N : Int)] w fun e w' => EncE w w' (readSame N bs) e := by
 by_cases h0 : N = 0
 ·subst h0
  clear hs
  go_enter Tryz.func110, Tryz.ntmps110
  go_wp2_with fail
  go_ret2
  exact EncE.of_own (us := []) (Own.nil _ _ _) (Mod.refl _ _)
 ·have hN0 : ((N : Int) == 0) = false := by simp; omega
  have hcall := vget_any A n cap _ bs w hs hlt hnc hcm
  have hx64 : (dec bs).1 < 2 ^ 64 := dec_lt hlt
  obtain ⟨x, hx⟩ : ∃ x, (dec bs).1 = x := ⟨_, rfl⟩
  obtain ⟨a, ha⟩ : ∃ a, (dec bs).2 = a := ⟨_, rfl⟩
  rw [hx, ha] at hcall
  have Hcall := Lib.hid hcall
  by_cases ha0 : a = 0
  ·have hab : ((a : Int) == 0) = true := by simp; omega
   have Hno : Hid (readSame N bs = none) := Lib.hid (by unfold readSame; rw [if_neg h0, ha, if_pos ha0])
   clear hs hlt hcall hx ha hx64 ha0 h0
   go_enter Tryz.func110, Tryz.ntmps110
   go_wp2_with fail
   refine Hcall.out.mono ?_
   rintro e w' ⟨rfl, rfl⟩
   go_wp2_with fail
   go_ret2
   rw [Hno.out]
   exact ⟨rfl, Mod.refl _ _⟩
  ·have hab : ((a : Int) == 0) = false := by simp; omega
   have Hyes : Hid (readSame N bs = some (List.replicate N x)) := Lib.hid (by unfold readSame; rw [if_neg h0, ha, if_neg ha0, hx])
   have hN1 : 1 ≤ N := by omega
   have hr1 : Rds (w.alloc (.cells #[.int .u64 (x : Int)] 34)) (w.heap.size + 1) (some ⟨w.heap.size, 0, none⟩) 1 (cellsU [x]) := Rds.lit w 34 #[.int .u64 (x : Int)]
   have Hr1 := Lib.hid hr1
   clear hs hlt hcall hx ha hx64 ha0 h0 hr1
   go_enter Tryz.func110, Tryz.ntmps110
   go_wp2_with fail
   refine Hcall.out.mono ?_
   rintro e w' ⟨rfl, rfl⟩
   go_wp2_with fail
   refine (repeat_any _ 1 _ N x _ Hr1.out hN hN1).mono ?_
   rintro e w1 ⟨cc, g, rfl, hcc, ho, hb⟩
   have Ho := Lib.hid (ho.mono (le_alloc _ _)); have Hb := Lib.hid hb
   clear ho hb hcc
   go_wp2_with fail
   go_ret2
   rw [Hyes.out]
   exact ⟨_, rfl, Ho.out, ((Mod.refl (fun _ => False) _).alloc _).trans (mod_below Hb.out) (fun _ _ h => h)⟩
theorem readK_other {tag : Int} {N : Nat} {bs : List Nat} (h1 : tag ≠ 1) (h2 : tag ≠ 2) (h3 : tag ≠ 3) (h4 : tag ≠ 4) (h5 : tag ≠ 5) (h6 : tag ≠ 6) : readK tag N bs = none := by
 unfold readK
 rw [if_neg h1, if_neg h2, if_neg h3, if_neg h4, if_neg h5, if_neg h6]
set_option maxHeartbeats 1000000 in
set_option maxRecDepth 100000 in
theorem gvalues_any (tag : Int) (A : Option Addr) (n cap N : Nat) (bs : List Nat) (w : World) (hs : Rds w w.heap.size A n (cells8 bs)) (hlt : lt256 bs) (hA : A ≠ none) (hnc : n ≤ cap) (hcm : cap ≤ maxLen) (hn : n ≤ 1000000) (hN : N ≤ 65535) (ht : Tabs w) :
  Calls Tryz.prog 89 #[.int .i64 tag, .slice A n cap, .int .i64 (N : Int)] w fun e w' => EncE w w' (readK tag N bs) e := by
 have hNN : max 0 (min (N : Int) 65535) = (N : Int) := by omega
 have hw0 : 0 < w.heap.size := Nat.lt_of_le_of_lt (Nat.zero_le _) ht.wid.1
 by_cases h1 : tag = 1
 ·subst h1
  have hul : bs.length = n := by have := hs.1; rwa [cells8_length] at this
  obtain ⟨row0, hsee, _⟩ := hs.sees hw0
  have hnew := newReader_any row0 A n cap bs w hsee (fun h => absurd h hA) (by omega) hlt
  obtain ⟨o, ho⟩ : ∃ o, o = readK 1 N bs := ⟨_, rfl⟩
  have hst : stVals N (val bs) (8 * n) = valRow N (val bs) (8 * n) := stVals_eq (by rw [← hul]; exact val_lt hlt)
  have ho2 : o = (stVals N (val bs) (8 * n)).map (·.1) := by rw [ho, hst, ← hul]; rfl
  have Hnew := Lib.hid hnew; have Hd := Lib.hid ht.deb; have HN := Lib.hid hNN; have Hw0 := Lib.hid hw0; have Ho2 := Lib.hid ho2; have Ho := Lib.hid ho
  clear hs hlt hsee hnew ht hNN hw0 hst ho2 ho hul
  go_enter Tryz.func89, Tryz.ntmps89
  go_wp2_with fail
  refine Hnew.out.mono ?_
  rintro e w1 ⟨g, rowr, rfl, hg1, _, hm1, hrd⟩
  obtain ⟨row, hrow, _, hrd'⟩ := hrd.real (by have := Hw0.out; omega) (by have := hm1.size; have := Hw0.out; omega)
  have Hd1 := Lib.hid (Hd.out.mod hm1 (fun h => h))
  have Hgd : Hid (g ≠ 2) := Lib.hid (by have := Hd.out.1; omega)
  have Hm1 := Lib.hid hm1; have Hg1 := Lib.hid hg1; have Hrd := Lib.hid hrd'; have Hrow := Lib.hid hrow
  clear hg1 hm1 hrd hrow hrd' Hnew
  go_wp2_with fail
  refine (xdec_any g row _ _ N (N : Int) w1 HN.out Hrd.out (by omega) Hrow.out Hd1.out Hgd.out).mono ?_
  intro e w2 hd
  have hd' : XDecEnd w1 w2 g row (stVals N (val bs) (8 * n)) e := hd
  clear hd
  cases hs : stVals N (val bs) (8 * n) with
  | none =>
   obtain ⟨rfl, _, hm2⟩ := XDecEnd.none_ hd' hs
   have Hno : Hid (o = none) := Lib.hid (by rw [Ho2.out, hs]; rfl)
   have Hm2 := Lib.hid (Hm1.out.trans hm2 (fun i hi e => by have := Hg1.out; omega))
   clear hd' hs hm2
   go_wp2_with fail
   go_ret2
   rw [← Ho.out, Hno.out]
   exact ⟨rfl, Hm2.out⟩
  | some p =>
   obtain ⟨us, R2, rem2⟩ := p
   obtain ⟨v, rfl, hown, _, hm2⟩ := XDecEnd.some_ hd' hs
   have Hyes : Hid (o = some us) := Lib.hid (by rw [Ho2.out, hs]; rfl)
   have Hm2 := Lib.hid (Hm1.out.trans hm2 (fun i hi e => by have := Hg1.out; omega))
   have Hown := Lib.hid (hown.mono Hm1.out.size)
   clear hd' hs hm2 hown
   go_wp2_with fail
   go_ret2
   rw [← Ho.out, Hyes.out]
   exact ⟨_, rfl, Hown.out, Hm2.out⟩
 by_cases h2 : tag = 2
 ·subst h2
  have hcall := gsimple_any A n cap N (N : Int) bs w hs hlt (fun h => absurd h hA) hn hNN ht.kin hw0
  obtain ⟨o, ho⟩ : ∃ o, o = (decS N (unw8 bs)).map (unstepsU 0) := ⟨_, rfl⟩
  rw [← ho] at hcall
  have Ho : Hid (readK 2 N bs = o) := Lib.hid ho.symm
  have Hcall := Lib.hid hcall
  clear hs hlt hcall ho ht hNN hw0
  go_enter Tryz.func89, Tryz.ntmps89
  go_wp2_with fail
  refine Hcall.out.mono ?_
  intro e w1 he
  obtain ⟨v, rfl, he⟩ := EncE.parts he
  have He := Lib.hid he
  clear he
  go_wp2_with fail
  go_ret2
  rw [Ho.out]
  exact He.out
 by_cases h3 : tag = 3
 ·subst h3
  have hcall := ldec_any A n cap w.heap.size N (N : Int) bs w hs (Nat.le_refl _) hlt hnc hcm hNN
  obtain ⟨o, ho⟩ : ∃ o, o = readK 3 N bs := ⟨_, rfl⟩
  have hcall' : Calls Tryz.prog 107 #[.slice A n cap, .int .i64 (N : Int)] w fun e w' => EncE w w' o e := by rw [ho]; exact hcall
  have Ho : Hid (readK 3 N bs = o) := Lib.hid ho.symm
  have Hcall := Lib.hid hcall'
  clear hs hlt hcall hcall' ho ht hNN hw0
  go_enter Tryz.func89, Tryz.ntmps89
  go_wp2_with fail
  refine Hcall.out.mono ?_
  intro e w1 he
  obtain ⟨v, rfl, he⟩ := EncE.parts he
  have He := Lib.hid he
  clear he
  go_wp2_with fail
  go_ret2
  rw [Ho.out]
  exact He.out
 by_cases h4 : tag = 4
 ·subst h4
  have hcall := pdec_any A n cap w.heap.size N (N : Int) bs w hs (Nat.le_refl _) hlt hnc hcm hn hNN
  obtain ⟨o, ho⟩ : ∃ o, o = readK 4 N bs := ⟨_, rfl⟩
  have hcall' : Calls Tryz.prog 108 #[.slice A n cap, .int .i64 (N : Int)] w fun e w' => EncE w w' o e := by rw [ho]; exact hcall
  have Ho : Hid (readK 4 N bs = o) := Lib.hid ho.symm
  have Hcall := Lib.hid hcall'
  clear hs hlt hcall hcall' ho ht hNN hw0
  go_enter Tryz.func89, Tryz.ntmps89
  go_wp2_with fail
  refine Hcall.out.mono ?_
  intro e w1 he
  obtain ⟨v, rfl, he⟩ := EncE.parts he
  have He := Lib.hid he
  clear he
  go_wp2_with fail
  go_ret2
  rw [Ho.out]
  exact He.out
 by_cases h5 : tag = 5
 ·subst h5
  have hcall := ddec_any A n cap w.heap.size N (N : Int) bs w hs (Nat.le_refl _) hlt hnc hcm hn hNN
  obtain ⟨o, ho⟩ : ∃ o, o = readK 5 N bs := ⟨_, rfl⟩
  have hcall' : Calls Tryz.prog 109 #[.slice A n cap, .int .i64 (N : Int)] w fun e w' => EncE w w' o e := by rw [ho]; exact hcall
  have Ho : Hid (readK 5 N bs = o) := Lib.hid ho.symm
  have Hcall := Lib.hid hcall'
  clear hs hlt hcall hcall' ho ht hNN hw0
  go_enter Tryz.func89, Tryz.ntmps89
  go_wp2_with fail
  refine Hcall.out.mono ?_
  intro e w1 he
  obtain ⟨v, rfl, he⟩ := EncE.parts he
  have He := Lib.hid he
  clear he
  go_wp2_with fail
  go_ret2
  rw [Ho.out]
  exact He.out
 by_cases h6 : tag = 6
 ·subst h6
  have hcall := gsame_any A n cap N bs w hs hlt hnc hcm hN
  obtain ⟨o, ho⟩ : ∃ o, o = readK 6 N bs := ⟨_, rfl⟩
  have hcall' : Calls Tryz.prog 110 #[.slice A n cap, .int .i64 (N : Int)] w fun e w' => EncE w w' o e := by rw [ho]; exact hcall
  have Ho : Hid (readK 6 N bs = o) := Lib.hid ho.symm
  have Hcall := Lib.hid hcall'
  clear hs hlt hcall hcall' ho ht hNN hw0
  go_enter Tryz.func89, Tryz.ntmps89
  go_wp2_with fail
  refine Hcall.out.mono ?_
  intro e w1 he
  obtain ⟨v, rfl, he⟩ := EncE.parts he
  have He := Lib.hid he
  clear he
  go_wp2_with fail
  go_ret2
  rw [Ho.out]
  exact He.out
 have b1 : (tag == 1) = false := by simp [h1]
 have b2 : (tag == 2) = false := by simp [h2]
 have b3 : (tag == 3) = false := by simp [h3]
 have b4 : (tag == 4) = false := by simp [h4]
 have b5 : (tag == 5) = false := by simp [h5]
 have b6 : (tag == 6) = false := by simp [h6]
 have Hno : Hid (readK tag N bs = none) := Lib.hid (readK_other h1 h2 h3 h4 h5 h6)
 clear hs hlt ht h1 h2 h3 h4 h5 h6 hNN hw0
 go_enter Tryz.func89, Tryz.ntmps89
 go_wp2_with fail
 go_ret2
 rw [Hno.out]
 exact ⟨rfl, Mod.refl _ _⟩
end Go.Proofs.YthgoppmgapaajaaGreatDoor

/- A row of samples read in a codec: read, Decode. -/
namespace Go.Proofs.YthgoppmgapaajaaGreatDoor
open Go.RowKit

def readSm (tag : Int) (N : Nat) (bs : List Nat) : Option (List (Int × Nat)) :=
 match timesOf N bs with
 | none => none
 | some (ts, rest) => (readK tag N rest).map fun vs => ts.zip vs
theorem readSm_no {tag : Int} {N : Nat} {bs : List Nat} (h : timesOf N bs = none) : readSm tag N bs = none := by unfold readSm; rw [h]
theorem readSm_at {tag : Int} {N : Nat} {bs : List Nat} {ts : List Int} {rest : List Nat} (h : timesOf N bs = some (ts, rest)) : readSm tag N bs = (readK tag N rest).map fun vs => ts.zip vs := by unfold readSm; rw [h]
theorem readSm_some {tag : Int} {N : Nat} {bs : List Nat} {l : List (Int × Nat)} (hlt : lt256 bs) (h : readSm tag N bs = some l) : l.length = N ∧ GoodS l := by
 cases ht : timesOf N bs with
 | none => rw [readSm_no ht] at h; cases h
 | some p =>
  obtain ⟨ts, rest⟩ := p
  rw [readSm_at ht] at h
  obtain ⟨vs, hv, rfl⟩ := Option.map_eq_some_iff.1 h
  obtain ⟨t1, t2, t3, _⟩ := timesOf_some hlt ht
  obtain ⟨v1, v2⟩ := readK_some t3 hv
  refine ⟨by rw [List.length_zip, t1, v1]; omega, fun p hp => ?_⟩
  obtain ⟨a, b⟩ := p
  have := List.of_mem_zip hp
  exact ⟨t2 a this.1, v2 b this.2⟩
theorem decK_out {tag n : Int} {bs : List Nat} (h : n < 0 ∨ 65535 < n) : decK tag n bs = none := by unfold decK; rw [if_pos h]
theorem decK_via {tag : Int} {N : Nat} {bs : List Nat} (hN : N ≤ 65535) : decK tag (N : Int) bs = match readSm tag N bs with
  | none => none
  | some l => if encK tag l = some bs then some l else none := by
 unfold decK readSm timesOf
 rw [if_neg (by omega), Int.toNat_natCast]
 by_cases hb : (dec bs).2 = 0 ∨ bs.length - (dec bs).2 < (dec bs).1
 ·rw [if_pos hb, if_pos hb]
 ·rw [if_neg hb, if_neg hb]
  cases rdRow N (val ((bs.drop (dec bs).2).take (dec bs).1)) (8 * ((bs.drop (dec bs).2).take (dec bs).1).length) with
  | none => rfl
  | some p =>
   obtain ⟨ts, q⟩ := p
   show (match some (ts, q), readK tag N ((bs.drop (dec bs).2).drop (dec bs).1) with
    | some (ts, _), some vs => if encK tag (ts.zip vs) = some bs then some (ts.zip vs) else none
    | _, _ => none) = (match (readK tag N ((bs.drop (dec bs).2).drop (dec bs).1)).map (fun vs => ts.zip vs) with
    | none => none
    | some l => if encK tag l = some bs then some l else none)
   cases readK tag N ((bs.drop (dec bs).2).drop (dec bs).1) with
   | none => rfl
   | some vs => rfl
/-- A row of samples and true, or nil and false. -/
def EncS (w w' : World) (o : Option (List (Int × Nat))) (e : Ending) : Prop :=
 match o with
 | some l => ∃ v, e = .returned (.tuple #[v, .bool true]) ∧ OwnS w.heap.size w' v l ∧ Mod (fun _ => False) w w'
 | none => e = .returned (.tuple #[.slice none 0 0, .bool false]) ∧ Mod (fun _ => False) w w'
theorem EncS.some_ {w w' : World} {o : Option (List (Int × Nat))} {l : List (Int × Nat)} {e : Ending} (h : EncS w w' o e) (ho : o = some l) : ∃ v, e = .returned (.tuple #[v, .bool true]) ∧ OwnS w.heap.size w' v l ∧ Mod (fun _ => False) w w' := by
 subst ho
 exact h
theorem EncS.none_ {w w' : World} {o : Option (List (Int × Nat))} {e : Ending} (h : EncS w w' o e) (ho : o = none) : e = .returned (.tuple #[.slice none 0 0, .bool false]) ∧ Mod (fun _ => False) w w' := by
 subst ho
 exact h
theorem EncS.of_some {w w' : World} {o : Option (List (Int × Nat))} {l : List (Int × Nat)} {v : Value} (ho : o = some l) (h : OwnS w.heap.size w' v l) (hm : Mod (fun _ => False) w w') : EncS w w' o (.returned (.tuple #[v, .bool true])) := by
 rw [ho]
 exact ⟨v, rfl, h, hm⟩
theorem EncS.of_none {w w' : World} {o : Option (List (Int × Nat))} (ho : o = none) (hm : Mod (fun _ => False) w w') : EncS w w' o (.returned (.tuple #[.slice none 0 0, .bool false])) := by
 rw [ho]
 exact ⟨rfl, hm⟩
/-- As a row and a bool. -/
theorem EncS.any {w w' : World} {o : Option (List (Int × Nat))} {e : Ending} (h : EncS w w' o e) : ∃ (A : Option Addr) (c : Nat), e = .returned (.tuple #[.slice A (o.getD []).length c, .bool o.isSome]) ∧ RdsS w' w'.heap.size A (o.getD []).length (o.getD []) ∧ Mod (fun _ => False) w w' := by
 cases o with
 | none => obtain ⟨rfl, hm⟩ := h; exact ⟨none, 0, rfl, RdsS.nil _ _ _, hm⟩
 | some l =>
  obtain ⟨v, rfl, ho, hm⟩ := h
  obtain ⟨A, c, rfl, _, _, hr⟩ := ho.form
  exact ⟨A, c, rfl, hr, hm⟩
set_option maxHeartbeats 1000000 in
set_option maxRecDepth 100000 in
theorem readS_any (tag : Int) (A : Option Addr) (n cap N : Nat) (bs : List Nat) (w : World) (hs : Rds w w.heap.size A n (cells8 bs)) (hlt : lt256 bs) (hnc : n ≤ cap) (hcm : cap ≤ maxLen) (hn : n ≤ 1000000) (hN : N ≤ 65535) (ht : Tabs w) :
  Calls Tryz.prog 67 #[.int .i64 tag, .slice A n cap, .int .i64 (N : Int)] w fun e w' => EncS w w' (readSm tag N bs) e := by
 have hul : bs.length = n := by have := hs.1; rwa [cells8_length] at this
 have hcall := gtimes_any A n cap N (N : Int) bs w hs hlt hnc hcm hn (by omega) ht.wid
 have Hcall := Lib.hid hcall; have Hlt := Lib.hid hlt; have Ht := Lib.hid ht; have Hul := Lib.hid hul
 clear hs hlt hnc hcm ht hcall hul
 go_enter Tryz.func67, Tryz.ntmps67
 go_wp2_with fail
 refine Hcall.out.mono ?_
 intro e w1 he
 have he' : GetT w w1 (timesOf N bs) e := he
 clear he
 cases hto : timesOf N bs with
 | none =>
  obtain ⟨v1, v2, rfl, hm1⟩ := GetT.none_ he' hto
  have Hno : Hid (readSm tag N bs = none) := Lib.hid (readSm_no hto)
  have Hm1 := Lib.hid hm1
  clear he' hto hm1
  go_wp2_with fail
  go_ret2
  exact EncS.of_none Hno.out Hm1.out
 | some p =>
  obtain ⟨ts, rest⟩ := p
  obtain ⟨A1, c1, A2, c2, rfl, hA2, hc2, hcm2, hr1, hr2, hm1⟩ := GetT.some_ he' hto
  obtain ⟨t1, t2, t3, t4⟩ := timesOf_some Hlt.out hto
  have Hat : Hid (readSm tag N bs = (readK tag N rest).map fun vs => ts.zip vs) := Lib.hid (readSm_at hto)
  rw [t1] at hr1
  rw [t1]
  obtain ⟨L, hL⟩ : ∃ L, rest.length = L := ⟨_, rfl⟩
  rw [hL] at hc2 hr2
  rw [hL]
  have hLs : L ≤ 1000000 := by have := Hul.out; omega
  have Hr1 := Lib.hid hr1; have Hr2 := Lib.hid hr2.fit; have Hm1 := Lib.hid hm1; have HA2 := Lib.hid hA2; have Hcm2 := Lib.hid hcm2; have HT3 := Lib.hid t3; have HT1 := Lib.hid t1
  have Ht1 := Lib.hid (Ht.out.mod hm1)
  have Hc2 := Lib.hid hc2
  clear he' hto hA2 hcm2 hr1 hr2 hm1 t1 t2 t3 t4 hL hc2
  go_wp2_with fail
  refine (gvalues_any tag A2 L c2 N rest w1 Hr2.out HT3.out HA2.out Hc2.out Hcm2.out hLs hN Ht1.out).mono ?_
  intro e w2 he
  have he' : EncE w1 w2 (readK tag N rest) e := he
  clear he
  cases hv : readK tag N rest with
  | none =>
   obtain ⟨rfl, hm2⟩ := EncE.none_ he' hv
   have Hno : Hid (readSm tag N bs = none) := Lib.hid (by rw [Hat.out, hv]; rfl)
   have Hm2 := Lib.hid (Hm1.out.trans hm2 (fun _ _ h => h))
   clear he' hv hm2
   go_wp2_with fail
   go_ret2
   exact EncS.of_none Hno.out Hm2.out
  | some vs =>
   obtain ⟨v2, rfl, hov, hm2⟩ := EncE.some_ he' hv
   have hvl := (readK_some HT3.out hv).1
   obtain ⟨A3, L3, c3, rfl, HL3, _, hr3⟩ := own_formUN hov
   have hL3 : L3 = N := by have := HL3.out; omega
   subst hL3
   have Hyes : Hid (readSm tag L3 bs = some (ts.zip vs)) := Lib.hid (by rw [Hat.out, hv]; rfl)
   have Hm2 := Lib.hid (Hm1.out.trans hm2 (fun _ _ h => h)); have Hr3 := Lib.hid hr3; have Hr1b := Lib.hid (Hr1.out.new hm2).fit
   clear he' hv hm2 hov hvl hr3 Hm1
   go_wp2_with fail
   refine (joined_any A1 A3 L3 c1 c3 ts vs w2 Hr1b.out Hr3.out (by omega)).mono ?_
   rintro e w3 ⟨v, rfl, ho, hm3⟩
   have Ho := Lib.hid (ho.mono Hm2.out.size); have Hm3 := Lib.hid (Hm2.out.trans hm3 (fun _ _ h => h))
   clear ho hm3
   go_wp2_with fail
   go_ret2
   exact EncS.of_some Hyes.out Ho.out Hm3.out
set_option maxHeartbeats 1000000 in
set_option maxRecDepth 100000 in
theorem kdec_any (tag m : Int) (A : Option Addr) (n cap : Nat) (bs : List Nat) (w : World) (hs : Rds w w.heap.size A n (cells8 bs)) (hlt : lt256 bs) (hnc : n ≤ cap) (hcm : cap ≤ maxLen) (hn : n ≤ 1000000) (ht : Tabs w) :
  Calls Tryz.prog 45 #[.int .i64 tag, .slice A n cap, .int .i64 m] w fun e w' => EncS w w' (decK tag m bs) e := by
 by_cases h0 : m < 0
 ·have Hno : Hid (decK tag m bs = none) := Lib.hid (decK_out (.inl h0))
  clear hs hlt hnc hcm ht
  go_enter Tryz.func45, Tryz.ntmps45
  go_wp2_with fail
  go_ret2
  exact EncS.of_none Hno.out (Mod.refl _ _)
 by_cases h1 : 65535 < m
 ·have Hno : Hid (decK tag m bs = none) := Lib.hid (decK_out (.inr h1))
  clear hs hlt hnc hcm ht
  go_enter Tryz.func45, Tryz.ntmps45
  go_wp2_with fail
  go_ret2
  exact EncS.of_none Hno.out (Mod.refl _ _)
 obtain ⟨N, hNm⟩ : ∃ N : Nat, m = (N : Int) := ⟨m.toNat, by omega⟩
 subst hNm
 have hN : N ≤ 65535 := by omega
 have hcall := readS_any tag A n cap N bs w hs hlt hnc hcm hn hN ht
 have hvia := decK_via (tag := tag) (bs := bs) hN
 have Hcall := Lib.hid hcall; have Hlt := Lib.hid hlt; have Ht := Lib.hid ht; have Hs := Lib.hid hs; have Hvia := Lib.hid hvia
 clear hs hlt hnc hcm ht hcall hvia
 go_enter Tryz.func45, Tryz.ntmps45
 go_wp2_with fail
 refine Hcall.out.mono ?_
 intro e w1 he
 have he' : EncS w w1 (readSm tag N bs) e := he
 clear he h0 h1 Hcall
 cases hr : readSm tag N bs with
 | none =>
  obtain ⟨rfl, hm1⟩ := EncS.none_ he' hr
  have Hno : Hid (decK tag (N : Int) bs = none) := Lib.hid (by rw [Hvia.out, hr])
  have Hm1 := Lib.hid hm1
  clear he' hr hm1
  go_wp2_with fail
  go_ret2
  exact EncS.of_none Hno.out Hm1.out
 | some l =>
  obtain ⟨v1, rfl, ho1, hm1⟩ := EncS.some_ he' hr
  obtain ⟨hl, hg⟩ := readSm_some Hlt.out hr
  have Hvia2 : Hid (decK tag (N : Int) bs = if encK tag l = some bs then some l else none) := Lib.hid (by rw [Hvia.out, hr])
  have hos := ho1
  obtain ⟨A1, L1, c1, rfl, HL1, _, _, hr1⟩ := ho1.formN
  have Hr1 := Lib.hid hr1; have Hg := Lib.hid hg; have Hm1 := Lib.hid hm1; have Hos := Lib.hid hos; have Ht1 := Lib.hid (Ht.out.mod hm1)
  have Hs1 := Lib.hid (Hs.out.new hm1)
  clear he' hr ho1 hm1 hl hg hr1 hos
  go_wp2_with fail
  refine (kenc_any tag A1 L1 c1 l w1 Hr1.out Hg.out Ht1.out).mono ?_
  intro e w2 he
  have he' : EncB w1 w2 (encK tag l) e := he
  clear he
  cases ho : encK tag l with
  | none =>
   obtain ⟨rfl, hm2⟩ := EncB.none_ he' ho
   have Hno : Hid (decK tag (N : Int) bs = none) := Lib.hid (by rw [Hvia2.out, ho, if_neg (by intro h; cases h)])
   have Hm2 := Lib.hid (Hm1.out.trans hm2 (fun _ _ h => h))
   clear he' ho hm2
   go_wp2_with fail
   go_ret2
   exact EncS.of_none Hno.out Hm2.out
  | some b2 =>
   obtain ⟨v2, rfl, ho2, hm2⟩ := EncB.some_ he' ho
   have Hb2 : Hid (lt256 b2) := Lib.hid (encK_256 ho)
   have Hvia3 : Hid (decK tag (N : Int) bs = if b2 = bs then some l else none) := Lib.hid (by
    rw [Hvia2.out, ho]
    by_cases h : b2 = bs
    ·rw [if_pos (by rw [h]), if_pos h]
    ·rw [if_neg (by intro e; injection e with e; exact h e), if_neg h])
   obtain ⟨A2, L2, c2, rfl, HL2, _, _, hr2⟩ := own_formN8 ho2
   have Hr2 := Lib.hid hr2; have Hs2 := Lib.hid (Hs1.out.mod hm2 Hm1.out.size (fun _ _ h => h)); have Hos2 := Lib.hid (Hos.out.mod hm2)
   have Hm2 := Lib.hid (Hm1.out.trans hm2 (fun _ _ h => h))
   clear he' ho ho2 hm2 hr2 Hos Hs1
   go_wp2_with fail
   refine (bequal_any A2 A L2 n c2 cap _ _ b2 bs w2 Hr2.out Hs2.out Hb2.out Hlt.out).mono ?_
   rintro e w3 ⟨rfl, hm3⟩
   have Hm3 := Lib.hid (Hm2.out.trans hm3 (fun _ _ h => h)); have Hos3 := Lib.hid (Hos2.out.mod hm3)
   clear hm3 Hos2 Hr2 Hs2 Hm2
   by_cases hb : b2 = bs
   ·have hd : decide (b2 = bs) = true := by simp [hb]
    have Hyes : Hid (decK tag (N : Int) bs = some l) := Lib.hid (by rw [Hvia3.out, if_pos hb])
    rw [hd]
    clear hb hd
    go_wp2_with fail
    go_ret2
    exact EncS.of_some Hyes.out Hos3.out Hm3.out
   ·have hd : decide (b2 = bs) = false := by simp [hb]
    have Hno : Hid (decK tag (N : Int) bs = none) := Lib.hid (by rw [Hvia3.out, if_neg hb])
    rw [hd]
    clear hb hd
    go_wp2_with fail
    go_ret2
    exact EncS.of_none Hno.out Hm3.out
end Go.Proofs.YthgoppmgapaajaaGreatDoor

/- Chunks, of the code: Open. -/
namespace Go.Proofs.YthgoppmgapaajaaGreatDoor
open Go.RowKit

/-- What Open answers. -/
def EncO (w w' : World) (o : Option (List (Int × Nat) × Nat)) (e : Ending) : Prop :=
 match o with
 | some (l, t) => ∃ v, e = .returned (.tuple #[v, .int .i64 (t : Int), .bool true]) ∧ OwnS w.heap.size w' v l ∧ Mod (fun _ => False) w w'
 | none => e = .returned (.tuple #[.slice none 0 0, .int .i64 0, .bool false]) ∧ Mod (fun _ => False) w w'
theorem EncO.of_none {w w' : World} {o : Option (List (Int × Nat) × Nat)} (ho : o = none) (hm : Mod (fun _ => False) w w') : EncO w w' o (.returned (.tuple #[.slice none 0 0, .int .i64 0, .bool false])) := by
 rw [ho]
 exact ⟨rfl, hm⟩
theorem EncO.of_some {w w' : World} {o : Option (List (Int × Nat) × Nat)} {l : List (Int × Nat)} {t : Nat} {v : Value} (ho : o = some (l, t)) (h : OwnS w.heap.size w' v l) (hm : Mod (fun _ => False) w w') : EncO w w' o (.returned (.tuple #[v, .int .i64 (t : Int), .bool true])) := by
 rw [ho]
 exact ⟨v, rfl, h, hm⟩
theorem EncO.some_ {w w' : World} {o : Option (List (Int × Nat) × Nat)} {l : List (Int × Nat)} {t : Nat} {e : Ending} (h : EncO w w' o e) (ho : o = some (l, t)) : ∃ v, e = .returned (.tuple #[v, .int .i64 (t : Int), .bool true]) ∧ OwnS w.heap.size w' v l ∧ Mod (fun _ => False) w w' := by
 rw [ho] at h
 exact h
theorem EncO.none_ {w w' : World} {o : Option (List (Int × Nat) × Nat)} {e : Ending} (h : EncO w w' o e) (ho : o = none) : e = .returned (.tuple #[.slice none 0 0, .int .i64 0, .bool false]) ∧ Mod (fun _ => False) w w' := by
 rw [ho] at h
 exact h
theorem EncO.any {w w' : World} {o : Option (List (Int × Nat) × Nat)} {e : Ending} (h : EncO w w' o e) : ∃ (A : Option Addr) (c : Nat), e = .returned (.tuple #[.slice A ((o.map (·.1)).getD []).length c, .int .i64 (((o.map (·.2)).getD 0 : Nat) : Int), .bool o.isSome]) ∧ RdsS w' w'.heap.size A ((o.map (·.1)).getD []).length ((o.map (·.1)).getD []) ∧ Mod (fun _ => False) w w' := by
 cases o with
 | none =>
  obtain ⟨rfl, hm⟩ := h
  exact ⟨none, 0, rfl, RdsS.nil _ _ _, hm⟩
 | some p =>
  obtain ⟨v, rfl, ho, hm⟩ := h
  obtain ⟨A, c, rfl, _, _, hr⟩ := ho.form
  exact ⟨A, c, rfl, hr, hm⟩
theorem openX_few {c : List Nat} (h : c.length < 4) : openX c = none := by
 unfold openX
 rw [if_pos (.inl h)]
theorem openX_sum {c : List Nat} {k : Nat} (hk : c.length = k + 4) (h : sum4 (sumN ent (c.take k)) ≠ c.drop k) : openX c = none := by
 unfold openX
 rw [hk, Nat.add_sub_cancel, if_pos (.inr fun e => h e.symm)]
theorem openX_at {c : List Nat} {k : Nat} (hk : c.length = k + 4) (h : sum4 (sumN ent (c.take k)) = c.drop k) : openX c = match hdC (c.take k) with
  | none => none
  | some (h, j) => match decK (h.1 : Int) (h.2.1 : Int) ((c.take k).drop j) with
   | none => none
   | some l => if fstT l = h.2.2.1 ∧ lstT l = h.2.2.2 then some (l, h.1) else none := by
 unfold openX
 rw [hk, Nat.add_sub_cancel, if_neg (fun h0 => h0.elim (fun h2 => by omega) (fun h2 => h2 h.symm))]
 cases hdC (c.take k) <;> rfl
set_option maxHeartbeats 2000000 in
set_option maxRecDepth 100000 in
theorem jopen_any (A : Option Addr) (n c : Nat) (bs : List Nat) (w : World) (hs : Rds w w.heap.size A n (cells8 bs)) (hlt : lt256 bs) (hnc : n ≤ c) (hcm : c ≤ maxLen) (hn : n ≤ 1000000) (ht : Tabs w) :
  Calls Tryz.prog 25 #[.slice A n c] w fun e w' => EncO w w' (openX bs) e := by
 have hlen : bs.length = n := by have := hs.1; rwa [cells8_length] at this
 by_cases h4 : n < 4
 ·have Hno := Lib.hid (openX_few (c := bs) (by omega))
  clear hs hlt hnc hcm ht hlen
  go_enter Tryz.func25, Tryz.ntmps25
  go_wp2_with fail
  refine (unsealed_few A n c w h4).mono ?_
  rintro e w1 ⟨rfl, hm1⟩
  have Hm1 := Lib.hid hm1
  clear hm1
  go_wp2_with fail
  go_ret3
  exact EncO.of_none Hno.out Hm1.out
 obtain ⟨k, hk⟩ : ∃ k, n = k + 4 := ⟨n - 4, by omega⟩
 have hcall := unsealed_any A n c k bs w hs hlt hnc hcm hk
 have hct : (cells8 bs).take k = cells8 (bs.take k) := by simp [cells8, List.map_take]
 have htk := hs.take (k := k) (by omega)
 rw [hct] at htk
 have Htk := Lib.hid htk; have Hlt := Lib.hid hlt; have Ht := Lib.hid ht; have Hcm := Lib.hid hcm; have Hlen := Lib.hid hlen; have Hcall := Lib.hid hcall
 have Hk := Lib.hid hk
 clear hct htk hlt ht hcm hlen hs hcall hk
 by_cases hsm : sum4 (sumN ent (bs.take k)) = bs.drop k
 ·have Hat := Lib.hid (openX_at (c := bs) (by rw [Hlen.out, Hk.out]) hsm)
  have hdec : decide (sum4 (sumN ent (bs.take k)) = bs.drop k) = true := decide_eq_true hsm
  rw [hdec] at Hcall
  clear hsm hdec
  obtain ⟨b, hb⟩ : ∃ b, b = bs.take k := ⟨_, rfl⟩
  rw [← hb] at Hat Htk
  have hltb : lt256 b := hb ▸ lt256_take Hlt.out k
  obtain ⟨o, ho⟩ : ∃ o, o = openX bs := ⟨_, rfl⟩
  rw [← ho] at Hat ⊢
  have Hltb := Lib.hid hltb
  clear hb hltb ho Hlt
  go_enter Tryz.func25, Tryz.ntmps25
  go_wp2_with fail
  refine Hcall.out.mono ?_
  rintro e w1 ⟨rfl, hm1⟩
  have Htk1 := Lib.hid (Htk.out.new hm1).fit; have Hm1 := Lib.hid hm1
  clear hm1 Htk Hcall
  go_wp2_with fail
  refine (getHead_any A k c b w1 Htk1.out Hltb.out (by have := Hk.out; omega) Hcm.out).mono ?_
  intro e w2 he
  have he' : HeadEnd w1 w2 b k e := he
  clear he
  cases hd : hdC b with
  | none =>
   unfold HeadEnd at he'
   rw [hd] at he'
   obtain ⟨rfl, hm2⟩ := he'
   have Hno : Hid (o = none) := Lib.hid (by rw [Hat.out, hd])
   have Hm2 := Lib.hid ((Hm1.out.trans hm2 (fun _ _ h => h)).alloc (.cells #[.int .i64 0, .int .i64 0, .int .i64 0, .int .i64 0] 75))
   clear hm2 hd Hat
   go_wp2_with fail
   go_ret3
   exact EncO.of_none Hno.out Hm2.out
  | some p =>
   obtain ⟨⟨t, m, f, g⟩, j⟩ := p
   unfold HeadEnd at he'
   rw [hd] at he'
   obtain ⟨A2, L2, c2, hL2, hLc2, hcm2, rfl, hr2, hm2⟩ := he'
   obtain ⟨t1, t6, n1, n6, ff, fg, hfg, hkk, rest, hrest⟩ := hdC_some Hltb.out hd
   have hltd : lt256 (b.drop j) := fun x hx => Hltb.out x (List.mem_of_mem_drop hx)
   rw [hd] at Hat
   have hat := Hat.out
   simp only at hat hr2
   obtain ⟨bd, hbd⟩ : ∃ bd, bd = b.drop j := ⟨_, rfl⟩
   rw [← hbd] at hat hltd hr2
   obtain ⟨W2, hW2⟩ : ∃ W2, W2 = w2.alloc (.cells #[.int .i64 (t : Int), .int .i64 (m : Int), .int .i64 f, .int .i64 g] 75) := ⟨_, rfl⟩
   have hmW : Mod (fun _ => False) w2 W2 := by rw [hW2]; exact (Mod.refl _ _).alloc _
   have hbN : Blk W2 w2.heap.size 75 #[.int .i64 (t : Int), .int .i64 (m : Int), .int .i64 f, .int .i64 g] := by rw [hW2]; exact Blk.new _ _ _
   have hrW : Rds W2 W2.heap.size A2 L2 (cells8 bd) := ((hr2.more hm2.size).fit.new hmW).fit
   have k0 := hbN.cell 0
   have k1 := hbN.cell 1
   simp at k0 k1
   have HmW := Lib.hid ((Hm1.out.trans hm2 (fun _ _ h => h)).trans hmW (fun _ _ h => h)); have HbN := Lib.hid hbN; have HrW := Lib.hid hrW; have HW2 := Lib.hid hW2; have Hltd := Lib.hid hltd; have Hcm2 := Lib.hid hcm2
   have HT2 := Lib.hid (Ht.out.mod HmW.out)
   have Hat2 := Lib.hid hat
   clear hr2 hm2 hd hat hbd hW2 hmW hbN hrW hltd hcm2 hfg hkk hrest Hat Hm1 Htk1 Ht
   go_upto_region 5 with fail
   rw [← HW2.out]
   go_wp2_with fail
   have hL2n : L2 ≤ 1000000 := by have := Hk.out; omega
   refine (kdec_any (t : Int) (m : Int) A2 L2 c2 bd W2 HrW.out Hltd.out hLc2 Hcm2.out hL2n HT2.out).mono ?_
   intro e w3 he
   have he' : EncS W2 w3 (decK (t : Int) (m : Int) bd) e := he
   clear he
   cases hdk : decK (t : Int) (m : Int) bd with
   | none =>
    obtain ⟨rfl, hm3⟩ := EncS.none_ he' hdk
    have Hno : Hid (o = none) := Lib.hid (by rw [Hat2.out, hdk])
    have Hm3 := Lib.hid (HmW.out.trans hm3 (fun _ _ h => h))
    clear he' hdk hm3 Hat2 HrW HT2 k0 k1
    go_wp2_with fail
    first
     | (go_quiet (fail))
     | (go_region)
    go_wp2_with fail
    go_ret3
    exact EncO.of_none Hno.out (Hm3.out.drewN _)
   | some l =>
    obtain ⟨v3, rfl, ho3, hm3⟩ := EncS.some_ he' hdk
    obtain ⟨_, _, hln, hgl, _⟩ := decK_some Hltd.out hdk
    obtain ⟨A3, L3, c3, rfl, HL3, _, _, hr3⟩ := ho3.formN
    have hL3 : L3 = m := by have := HL3.out; omega
    subst hL3
    have hov : o = if fstT l = f ∧ lstT l = g then some (l, t) else none := by rw [Hat2.out, hdk]
    have hb3 := hm3.blk HbN.out (fun h => h)
    have q0 := hb3.cell 0
    have q1 := hb3.cell 1
    have q2 := hb3.cell 2
    have q3 := hb3.cell 3
    simp at q0 q1 q2 q3
    have HX : Hid (∀ W', Mod (fun _ => False) w3 W' → Mod (fun _ => False) w3 W' ∧ W'.cell? ⟨w2.heap.size, 0, none⟩ = some (.int .i64 (t : Int)) ∧ W'.cell? ⟨w2.heap.size, 1, none⟩ = some (.int .i64 (L3 : Int)) ∧ W'.cell? ⟨w2.heap.size, 2, none⟩ = some (.int .i64 f) ∧ W'.cell? ⟨w2.heap.size, 3, none⟩ = some (.int .i64 g)) :=
     Lib.hid (fun W' h => ⟨h, (h.cell (a := ⟨w2.heap.size, 0, none⟩) hb3.lt (fun h => h)).trans q0, (h.cell (a := ⟨w2.heap.size, 1, none⟩) hb3.lt (fun h => h)).trans q1, (h.cell (a := ⟨w2.heap.size, 2, none⟩) hb3.lt (fun h => h)).trans q2, (h.cell (a := ⟨w2.heap.size, 3, none⟩) hb3.lt (fun h => h)).trans q3⟩)
    have S1 := Lib.hid (HX.out w3.drew (Mod.refl _ _).drew)
    have S0 := Lib.hid (HX.out w3 (Mod.refl _ _))
    have hlc := headOf_any (t : Int) A3 L3 c3 l w3.drew hr3.drew.fit (by omega) (by unfold maxLen; omega)
    obtain ⟨f', hf'⟩ : ∃ f', f' = fstT l := ⟨_, rfl⟩
    obtain ⟨g', hg'⟩ : ∃ g', g' = lstT l := ⟨_, rfl⟩
    rw [← hf', ← hg'] at hlc hov
    have Hlc := Lib.hid hlc; have Hov := Lib.hid hov; have Ho3 := Lib.hid ho3; have Hm3 := Lib.hid (HmW.out.trans hm3 (fun _ _ h => h))
    have Hsz2 := Lib.hid HmW.out.size
    clear he' hdk hm3 Hat2 HrW HT2 k0 k1 q0 q1 q2 q3 hb3 hlc hov ho3 hln hgl hr3 hf' hg' HmW HbN
    go_upto_region 8 with fail
    go_cut [43] (fun s43 wc => s43 = .bool (!decide (f' = f ∧ g' = g)) ∧ Mod (fun _ => False) w3 wc)
    case first =>
     by_cases e1 : f' = f
     ·subst e1
      by_cases e2 : g' = g
      ·subst e2
       first
        | (go_region_held_law (fun W' => Mod (fun _ => False) w3 W' ∧ W'.cell? ⟨w2.heap.size, 0, none⟩ = some (.int .i64 (t : Int)) ∧ W'.cell? ⟨w2.heap.size, 1, none⟩ = some (.int .i64 (L3 : Int)) ∧ W'.cell? ⟨w2.heap.size, 2, none⟩ = some (.int .i64 f') ∧ W'.cell? ⟨w2.heap.size, 3, none⟩ = some (.int .i64 g')) (first | (with_reducible exact S2.out) | (with_reducible exact S1.out) | (with_reducible exact S0.out))
          (first
           | (go_at_call 41; refine Hlc.out.mono ?_; rintro e w4 ⟨rfl, hm4⟩; have S2 := Lib.hid (HX.out w4 ((Mod.refl _ _).drew.trans hm4 (fun _ _ h => h))); clear hm4)))
        | fail "held"
       all_goals
        go_wp2_with fail
        go_meet
        exact ⟨by simp, S2.out.1⟩
      ·first
        | (go_region_held_law (fun W' => Mod (fun _ => False) w3 W' ∧ W'.cell? ⟨w2.heap.size, 0, none⟩ = some (.int .i64 (t : Int)) ∧ W'.cell? ⟨w2.heap.size, 1, none⟩ = some (.int .i64 (L3 : Int)) ∧ W'.cell? ⟨w2.heap.size, 2, none⟩ = some (.int .i64 f') ∧ W'.cell? ⟨w2.heap.size, 3, none⟩ = some (.int .i64 g)) (first | (with_reducible exact S2.out) | (with_reducible exact S1.out) | (with_reducible exact S0.out))
          (first
           | (go_at_call 41; refine Hlc.out.mono ?_; rintro e w4 ⟨rfl, hm4⟩; have S2 := Lib.hid (HX.out w4 ((Mod.refl _ _).drew.trans hm4 (fun _ _ h => h))); clear hm4)))
        | fail "held"
       all_goals
        go_wp2_with fail
        go_meet
        exact ⟨by simp [e2], S2.out.1⟩
     ·first
       | (go_region_held_law (fun W' => Mod (fun _ => False) w3 W' ∧ W'.cell? ⟨w2.heap.size, 0, none⟩ = some (.int .i64 (t : Int)) ∧ W'.cell? ⟨w2.heap.size, 1, none⟩ = some (.int .i64 (L3 : Int)) ∧ W'.cell? ⟨w2.heap.size, 2, none⟩ = some (.int .i64 f) ∧ W'.cell? ⟨w2.heap.size, 3, none⟩ = some (.int .i64 g)) (first | (with_reducible exact S2.out) | (with_reducible exact S1.out) | (with_reducible exact S0.out))
         (first
          | (go_at_call 41; refine Hlc.out.mono ?_; rintro e w4 ⟨rfl, hm4⟩; have S2 := Lib.hid (HX.out w4 ((Mod.refl _ _).drew.trans hm4 (fun _ _ h => h))); clear hm4)))
       | fail "held"
      all_goals
       go_wp2_with fail
       go_meet
       exact ⟨by simp [e1], S2.out.1⟩
    case rest =>
    obtain ⟨rfl, hmc⟩ := hcut
    have Hmc := Lib.hid hmc
    have Hmf := Lib.hid (Hm3.out.trans hmc (fun _ _ h => h))
    have Hoc := Lib.hid (Ho3.out.mod hmc)
    have S5 := HX.out _ hmc
    have c0 := S5.2.1
    clear hmc S5 S1 S0 HX Hlc Ho3 Hm3
    by_cases e : f' = f ∧ g' = g
    ·have Hyes : Hid (o = some (l, t)) := Lib.hid (by rw [Hov.out, if_pos e])
     have hdc : (!decide (f' = f ∧ g' = g)) = false := by simp [e]
     rw [hdc]
     clear hdc Hov
     go_upto_region 10 with fail
     first
      | (go_quiet (fail))
      | (go_region)
     go_wp2_with fail
     go_ret3
     exact EncO.of_some Hyes.out (Hoc.out.mono Hsz2.out) (Hmf.out.drewN _)
    ·have Hno : Hid (o = none) := Lib.hid (by rw [Hov.out, if_neg e])
     have hdc : (!decide (f' = f ∧ g' = g)) = true := by simp [e]
     rw [hdc]
     clear hdc Hov
     go_wp2_with fail
     go_ret3
     exact EncO.of_none Hno.out Hmf.out
 ·have Hno := Lib.hid (openX_sum (c := bs) (by rw [Hlen.out, Hk.out]) hsm)
  have hdec : decide (sum4 (sumN ent (bs.take k)) = bs.drop k) = false := decide_eq_false hsm
  rw [hdec] at Hcall
  clear hsm hdec Htk Hlt Ht
  go_enter Tryz.func25, Tryz.ntmps25
  go_wp2_with fail
  refine Hcall.out.mono ?_
  rintro e w1 ⟨rfl, hm1⟩
  have Hm1 := Lib.hid hm1
  clear hm1 Hcall
  go_wp2_with fail
  go_ret3
  exact EncO.of_none Hno.out Hm1.out
end Go.Proofs.YthgoppmgapaajaaGreatDoor

/- Work by steps, of the code: what a task is in memory; a row copied; newTask, step, done, bad. -/
namespace Go.Proofs.YthgoppmgapaajaaGreatDoor
open Go.RowKit

/-- Samples as elements of two cells. -/
def rowsS (l : List (Int × Nat)) : List (List Value) := l.map fun p => [Value.int .i64 p.1, Value.int .u64 (p.2 : Int)]
theorem rowsS_flat (l : List (Int × Nat)) : (rowsS l).flatten = cellsS l := by simp [rowsS, cellsS, List.flatMap_def]
theorem rowsS_len (l : List (Int × Nat)) : (rowsS l).length = l.length := by simp [rowsS]
theorem rowsS_all (l : List (Int × Nat)) : AllK 2 (rowsS l) := by
 intro r hr
 simp only [rowsS, List.mem_map] at hr
 obtain ⟨p, _, rfl⟩ := hr
 rfl
theorem RdsS.toK {w : World} {B n : Nat} {A : Option Addr} {l : List (Int × Nat)} (h : RdsS w B A n l) : RdsK 2 w B A n (rowsS l) := ⟨by rw [rowsS_len, h.1], rowsS_all l, by rw [rowsS_flat]; exact h.2⟩
theorem OwnK.toS {w : World} {B : Nat} {v : Value} {l : List (Int × Nat)} (h : OwnK 2 B w 36 v (rowsS l)) : OwnS B w v l := by
 have := h.2
 rw [rowsS_len, rowsS_flat] at this
 exact this
theorem eltS2 : EltK Tryz.prog 24 36 (.agg #[.int .i64 0, .int .u64 0]) 2 16 := EltK.mk Tryz.underlying24 infoS rfl (by decide)
theorem own_litK {K B : Nat} {w : World} {e : TypeId} (hB : B ≤ w.heap.size) : OwnK K B (w.alloc (.cells #[] e)) e (.slice (some ⟨w.heap.size, 0, none⟩) 0 0) [] := by
 refine ⟨AllK.nil K, ?_⟩
 refine ⟨by simp, .inr ⟨w.heap.size, 0, #[], rfl, hB, heap_alloc_new w _, Nat.le_refl _, Nat.zero_le _, by simp, by simp⟩⟩

theorem clone8_any (A : Option Addr) (n c : Nat) (bs : List Nat) (w : World) (hs : Rds w w.heap.size A n (cells8 bs)) (hA : A = none → c = 0) (hm : n ≤ 1000000) :
  Calls Tryz.prog 46 #[.slice A n c] w fun e w' => ∃ v, e = .returned v ∧ Own w.heap.size w' 5 v (cells8 bs) ∧ Mod (fun _ => False) w w' := by
 have hlen : bs.length = n := by have := hs.1; rwa [cells8_length] at this
 rcases A with _ | ad
 ·obtain rfl := hA rfl
  have hn : n = 0 := by
   rcases Nat.eq_zero_or_pos n with h | h
   ·exact h
   ·obtain ⟨o, h', _⟩ := hs.2 h
    cases h'
  subst hn
  obtain rfl := List.eq_nil_of_length_eq_zero hlen
  have hq := @Lib.run_eql_slice_nil Tryz.prog
  clear hs hA hm hlen
  go_enter Tryz.func46, Tryz.ntmps46
  go_wp2
  go_ret
  exact ⟨_, rfl, Own.nil _ _ _, Mod.refl _ _⟩
 ·have hq := fun w => Lib.run_eql_slice_nil (P := Tryz.prog) w 26 5 (some ad) n c 0 0 Tryz.underlying26
  have Hown : Hid (Own w.heap.size (w.alloc (.cells #[] 5)) 5 (.slice (some ⟨w.heap.size, 0, none⟩) 0 0) []) := Lib.hid (own_lit0 rfl (Nat.le_refl _))
  have Hr := Lib.hid (hs.alloc (Nat.le_refl _) (.cells #[] 5))
  have HR : Hid (Room ([] : List Value).length n) := Lib.hid (Room.mk _ _ (by simp; omega))
  have hsz : w.heap.size ≤ (w.alloc (.cells #[] 5)).heap.size := by simp
  clear hs hA hlen
  go_enter Tryz.func46, Tryz.ntmps46
  go_wp2_with (at_builtin; refine wpList_app rfl (.tmp 5) (.tmp 6) _ rfl elt8 rfl Hown.out rfl Hr.out (cells8_one _) HR.out.1 HR.out.2 hsz ?_; intro v4 w4 HO HB HG; clear HG)
  go_ret
  exact ⟨_, rfl, by have := HO.out; rwa [List.nil_append] at this, ((Mod.refl (fun _ => False) w).alloc _).trans (Mod.of_below HB.out) (fun i hi h => by omega)⟩
theorem cloneS_any (A : Option Addr) (n c : Nat) (l : List (Int × Nat)) (w : World) (hs : RdsS w w.heap.size A n l) (hA : A = none → c = 0) (hm : n ≤ 1000000) :
  Calls Tryz.prog 47 #[.slice A n c] w fun e w' => ∃ v, e = .returned v ∧ OwnS w.heap.size w' v l ∧ Mod (fun _ => False) w w' := by
 have hlen : l.length = n := hs.1
 rcases A with _ | ad
 ·obtain rfl := hA rfl
  have hn : n = 0 := by
   rcases Nat.eq_zero_or_pos n with h | h
   ·exact h
   ·obtain ⟨o, h', _⟩ := hs.some_ h
    cases h'
  subst hn
  obtain rfl := List.eq_nil_of_length_eq_zero hlen
  have hq := @Lib.run_eql_slice_nil Tryz.prog
  clear hs hA hm hlen
  go_enter Tryz.func47, Tryz.ntmps47
  go_wp2
  go_ret
  exact ⟨_, rfl, OwnS.nil _ _, Mod.refl _ _⟩
 ·have hq := fun w => Lib.run_eql_slice_nil (P := Tryz.prog) w 24 36 (some ad) n c 0 0 Tryz.underlying24
  have Hown : Hid (OwnK 2 w.heap.size (w.alloc (.cells #[] 36)) 36 (.slice (some ⟨w.heap.size, 0, none⟩) 0 0) []) := Lib.hid (own_litK (Nat.le_refl _))
  have Hr := Lib.hid (hs.alloc (Nat.le_refl _) (.cells #[] 36)).toK
  have Hone : Hid (∀ u ∈ (rowsS l).flatten, u.oneCell' = true) := Lib.hid (by rw [rowsS_flat]; exact cellsS_one _)
  have hr1 : ([] : List (List Value)).length + n ≤ maxLen := by unfold maxLen; simp; omega
  have hr2 : (([] : List (List Value)).length + n) * 16 ≤ 140737488355328 := by simp; omega
  have hsz : w.heap.size ≤ (w.alloc (.cells #[] 36)).heap.size := by simp
  clear hs hA hlen
  go_enter Tryz.func47, Tryz.ntmps47
  go_wp2_with (at_builtin; refine wpList_appK rfl (.tmp 5) (.tmp 6) _ rfl eltS2 rfl Hown.out rfl Hr.out Hone.out hr1 hr2 hsz ?_; intro v4 w4 HO HB HG; clear HG)
  go_ret
  exact ⟨_, rfl, by have := HO.out; rw [List.nil_append] at this; exact this.toS, ((Mod.refl (fun _ => False) w).alloc _).trans (Mod.of_below HB.out) (fun i hi h => by omega)⟩

/-- A struct of three cells is written. -/
theorem Blk.three {w : World} {g : Nat} {t : TypeId} {c0 c1 c2 : Value} (h : Blk w g t #[c0, c1, c2]) (a b c : Value) :
  (((w.setCell ⟨g, 0, none⟩ a).setCell ⟨g, 1, none⟩ b).setCell ⟨g, 2, none⟩ c).cell? ⟨g, 0, none⟩ = some a ∧ (((w.setCell ⟨g, 0, none⟩ a).setCell ⟨g, 1, none⟩ b).setCell ⟨g, 2, none⟩ c).cell? ⟨g, 1, none⟩ = some b ∧
  (((w.setCell ⟨g, 0, none⟩ a).setCell ⟨g, 1, none⟩ b).setCell ⟨g, 2, none⟩ c).cell? ⟨g, 2, none⟩ = some c ∧
  Blk (((w.setCell ⟨g, 0, none⟩ a).setCell ⟨g, 1, none⟩ b).setCell ⟨g, 2, none⟩ c) g t #[a, b, c] := by
 have h3 : Blk (((w.setCell ⟨g, 0, none⟩ a).setCell ⟨g, 1, none⟩ b).setCell ⟨g, 2, none⟩ c) g t #[a, b, c] := by
  have := ((h.set_ 0 a).set_ 1 b).set_ 2 c
  simpa using this
 refine ⟨?_, ?_, ?_, h3⟩
 ·have := h3.cell 0; simpa using this
 ·have := h3.cell 1; simpa using this
 ·have := h3.cell 2; simpa using this
theorem Mod.three_new {w w' : World} {g : Nat} (h : Mod (fun _ => False) w w') (hg : w.heap.size ≤ g) (a b c : Value) : Mod (fun _ => False) w (((w'.setCell ⟨g, 0, none⟩ a).setCell ⟨g, 1, none⟩ b).setCell ⟨g, 2, none⟩ c) :=
 ((h.setCell (fun hlt => absurd hlt (by simp; omega)) a).setCell (fun hlt => absurd hlt (by simp; omega)) b).setCell (fun hlt => absurd hlt (by simp; omega)) c

/-- What a task begins as. -/
def taskV (A : Option Addr) (m c : Nat) (n : Int) (b : Bool) : Value := .agg (if b then #[.slice A m c, .bool true, .int .i64 n] else #[.slice none 0 0, .bool false, .int .i64 1])
set_option maxHeartbeats 1000000 in
set_option maxRecDepth 100000 in
theorem newTask8_any (A : Option Addr) (m c : Nat) (n : Int) (b : Bool) (w : World) :
  Calls Tryz.prog 24 #[.slice A m c, .int .i64 n, .bool b] w fun e w' => e = .returned (taskV A m c n b) ∧ Mod (fun _ => False) w w' := by
 obtain ⟨W, hW⟩ : ∃ W, W = w.alloc (.cells #[.slice none 0 0, .bool false, .int .i64 0] 53) := ⟨_, rfl⟩
 have hmW : Mod (fun _ => False) w W := by rw [hW]; exact (Mod.refl _ _).alloc _
 have hbW : Blk W w.heap.size 53 #[.slice none 0 0, .bool false, .int .i64 0] := by rw [hW]; exact Blk.new _ _ _
 have HW := Lib.hid hW; have HmW := Lib.hid hmW; have HbW := Lib.hid hbW
 have hb0 := hbW.cell 0
 have hb1 := hbW.cell 1
 have hb2 := hbW.cell 2
 have hf0 := hbW.frozen 0
 have hf1 := hbW.frozen 1
 have hf2 := hbW.frozen 2
 simp at hb0 hb1 hb2
 clear hW hmW hbW
 cases b with
 | false =>
  go_enter Tryz.func24, Tryz.ntmps24
  go_upto_region 1 with fail
  rw [← HW.out]
  go_wp2_with fail
  refine bodyPost_ret (v := taskV A m c n false) (by have h := HbW.out.three (.slice none 0 0) (.bool false) (.int .i64 1); simp [results, Tryz.results24, go_sem, h.1, h.2.1, h.2.2.1, taskV]) rfl ⟨rfl, ?_⟩
  exact HmW.out.three_new (Nat.le_refl _) _ _ _
 | true =>
  go_enter Tryz.func24, Tryz.ntmps24
  go_upto_region 1 with fail
  rw [← HW.out]
  go_wp2_with fail
  refine bodyPost_ret (v := taskV A m c n true) (by have h := HbW.out.three (.slice A m c) (.bool true) (.int .i64 n); simp [results, Tryz.results24, go_sem, h.1, h.2.1, h.2.2.1, taskV]) rfl ⟨rfl, ?_⟩
  exact HmW.out.three_new (Nat.le_refl _) _ _ _
set_option maxHeartbeats 1000000 in
set_option maxRecDepth 100000 in
theorem newTaskS_any (A : Option Addr) (m c : Nat) (n : Int) (b : Bool) (w : World) :
  Calls Tryz.prog 26 #[.slice A m c, .int .i64 n, .bool b] w fun e w' => e = .returned (taskV A m c n b) ∧ Mod (fun _ => False) w w' := by
 obtain ⟨W, hW⟩ : ∃ W, W = w.alloc (.cells #[.slice none 0 0, .bool false, .int .i64 0] 60) := ⟨_, rfl⟩
 have hmW : Mod (fun _ => False) w W := by rw [hW]; exact (Mod.refl _ _).alloc _
 have hbW : Blk W w.heap.size 60 #[.slice none 0 0, .bool false, .int .i64 0] := by rw [hW]; exact Blk.new _ _ _
 have HW := Lib.hid hW; have HmW := Lib.hid hmW; have HbW := Lib.hid hbW
 have hb0 := hbW.cell 0
 have hb1 := hbW.cell 1
 have hb2 := hbW.cell 2
 have hf0 := hbW.frozen 0
 have hf1 := hbW.frozen 1
 have hf2 := hbW.frozen 2
 simp at hb0 hb1 hb2
 clear hW hmW hbW
 cases b with
 | false =>
  go_enter Tryz.func26, Tryz.ntmps26
  go_upto_region 1 with fail
  rw [← HW.out]
  go_wp2_with fail
  refine bodyPost_ret (v := taskV A m c n false) (by have h := HbW.out.three (.slice none 0 0) (.bool false) (.int .i64 1); simp [results, Tryz.results26, go_sem, h.1, h.2.1, h.2.2.1, taskV]) rfl ⟨rfl, ?_⟩
  exact HmW.out.three_new (Nat.le_refl _) _ _ _
 | true =>
  go_enter Tryz.func26, Tryz.ntmps26
  go_upto_region 1 with fail
  rw [← HW.out]
  go_wp2_with fail
  refine bodyPost_ret (v := taskV A m c n true) (by have h := HbW.out.three (.slice A m c) (.bool true) (.int .i64 n); simp [results, Tryz.results26, go_sem, h.1, h.2.1, h.2.2.1, taskV]) rfl ⟨rfl, ?_⟩
  exact HmW.out.three_new (Nat.le_refl _) _ _ _
end Go.Proofs.YthgoppmgapaajaaGreatDoor

/- Work by steps, of the code: a task stepped, done, bad; an encoder's and a decoder's. -/
namespace Go.Proofs.YthgoppmgapaajaaGreatDoor
open Go.RowKit

/-- What is left of k samples' work behind a step of n. -/
def lessS (k : Nat) (n : Int) : Nat := k - (max 1 n).toNat
/-- A task of bytes at block g: it comes to o, so many samples' work is left; all that it has lies from block B on, below E. -/
def TskB (w : World) (B E g : Nat) (o : Option (List Nat)) (k : Nat) : Prop :=
 B ≤ g ∧ g < E ∧ E ≤ w.heap.size ∧ ∃ (A : Option Addr) (n c : Nat), Blk w g 56 #[.slice A n c, .bool o.isSome, .int .i64 (k : Int)] ∧
  ∀ b, o = some b → b.length ≤ 1000000 ∧ Own B w 5 (.slice A n c) (cells8 b) ∧ ∀ r, (Value.slice A n c).ownBlock = some r → r < E
/-- .. of samples. -/
def TskS (w : World) (B E g : Nat) (o : Option (List (Int × Nat))) (k : Nat) : Prop :=
 B ≤ g ∧ g < E ∧ E ≤ w.heap.size ∧ ∃ (A : Option Addr) (n c : Nat), Blk w g 63 #[.slice A n c, .bool o.isSome, .int .i64 (k : Int)] ∧
  ∀ l, o = some l → l.length ≤ 1000000 ∧ OwnS B w (.slice A n c) l ∧ ∀ r, (Value.slice A n c).ownBlock = some r → r < E
section
variable {w w' : World} {B E g k : Nat} {S : Nat → Prop}
theorem TskB.mod {o : Option (List Nat)} (h : TskB w B E g o k) (hm : Mod S w w') (hS : ∀ i, S i → i < B ∨ E ≤ i) : TskB w' B E g o k := by
 obtain ⟨h1, h2, h0, A, n, c, hb, ho⟩ := h
 refine ⟨h1, h2, Nat.le_trans h0 hm.size, A, n, c, hm.blk hb (fun hs => by have := hS _ hs; omega), fun b hb' => ?_⟩
 obtain ⟨h3, h4, h5⟩ := ho b hb'
 refine ⟨h3, hm.owns h4 (fun r hr hs => ?_), h5⟩
 have := hS _ hs
 have := (h4.block r hr).1
 have := h5 r hr
 omega
theorem TskS.mod {o : Option (List (Int × Nat))} (h : TskS w B E g o k) (hm : Mod S w w') (hS : ∀ i, S i → i < B ∨ E ≤ i) : TskS w' B E g o k := by
 obtain ⟨h1, h2, h0, A, n, c, hb, ho⟩ := h
 refine ⟨h1, h2, Nat.le_trans h0 hm.size, A, n, c, hm.blk hb (fun hs => by have := hS _ hs; omega), fun b hb' => ?_⟩
 obtain ⟨h3, h4, h5⟩ := ho b hb'
 refine ⟨h3, hm.owns h4 (fun r hr hs => ?_), h5⟩
 have := hS _ hs
 have := (h4.block r hr).1
 have := h5 r hr
 omega
theorem TskB.new {o : Option (List Nat)} (h : TskB w B E g o k) (hm : Mod (fun _ => False) w w') : TskB w' B E g o k := h.mod hm (fun _ h => h.elim)
theorem TskS.new {o : Option (List (Int × Nat))} (h : TskS w B E g o k) (hm : Mod (fun _ => False) w w') : TskS w' B E g o k := h.mod hm (fun _ h => h.elim)
theorem TskB.lt {o : Option (List Nat)} (h : TskB w B E g o k) : B ≤ g ∧ g < E ∧ g < w.heap.size ∧ E ≤ w.heap.size := by obtain ⟨h1, h2, h0, _, _, _, hb, _⟩ := h; exact ⟨h1, h2, hb.lt, h0⟩
theorem TskS.lt {o : Option (List (Int × Nat))} (h : TskS w B E g o k) : B ≤ g ∧ g < E ∧ g < w.heap.size ∧ E ≤ w.heap.size := by obtain ⟨h1, h2, h0, _, _, _, hb, _⟩ := h; exact ⟨h1, h2, hb.lt, h0⟩
/-- What is left is written. -/
theorem TskB.put {o : Option (List Nat)} (h : TskB w B E g o k) (k' : Nat) : TskB (w.setCell ⟨g, 2, none⟩ (.int .i64 (k' : Int))) B E g o k' ∧ Mod (fun i => i = g) w (w.setCell ⟨g, 2, none⟩ (.int .i64 (k' : Int))) := by
 have hm : Mod (fun i => i = g) w (w.setCell ⟨g, 2, none⟩ (.int .i64 (k' : Int))) := (Mod.refl (fun i => i = g) w).setCell (p := ⟨g, 2, none⟩) (fun _ => rfl) _
 obtain ⟨h1, h2, h0, A, n, c, hb, ho⟩ := h
 refine ⟨⟨h1, h2, Nat.le_trans h0 hm.size, A, n, c, by have := hb.set_ 2 (.int .i64 (k' : Int)); simpa using this, fun b hb' => ?_⟩, hm⟩
 obtain ⟨h3, h4, h5⟩ := ho b hb'
 exact ⟨h3, hm.owns h4 (fun r hr hs => own_blk_ne h4 hb (by decide) (hs ▸ hr)), h5⟩
theorem TskS.put {o : Option (List (Int × Nat))} (h : TskS w B E g o k) (k' : Nat) : TskS (w.setCell ⟨g, 2, none⟩ (.int .i64 (k' : Int))) B E g o k' ∧ Mod (fun i => i = g) w (w.setCell ⟨g, 2, none⟩ (.int .i64 (k' : Int))) := by
 have hm : Mod (fun i => i = g) w (w.setCell ⟨g, 2, none⟩ (.int .i64 (k' : Int))) := (Mod.refl (fun i => i = g) w).setCell (p := ⟨g, 2, none⟩) (fun _ => rfl) _
 obtain ⟨h1, h2, h0, A, n, c, hb, ho⟩ := h
 refine ⟨⟨h1, h2, Nat.le_trans h0 hm.size, A, n, c, by have := hb.set_ 2 (.int .i64 (k' : Int)); simpa using this, fun b hb' => ?_⟩, hm⟩
 obtain ⟨h3, h4, h5⟩ := ho b hb'
 exact ⟨h3, hm.owns h4 (fun r hr hs => own_blk_ne h4 hb (by decide) (hs ▸ hr)), h5⟩
/-- Its cells. -/
theorem TskB.cells {o : Option (List Nat)} (h : TskB w B E g o k) : w.cell? ⟨g, 1, none⟩ = some (.bool o.isSome) ∧ w.cell? ⟨g, 2, none⟩ = some (.int .i64 (k : Int)) ∧ w.frozen? ⟨g, 2, none⟩ = false := by
 obtain ⟨_, _, _, A, n, c, hb, _⟩ := h
 have h1 := hb.cell 1
 have h2 := hb.cell 2
 simp at h1 h2
 exact ⟨h1, h2, hb.frozen 2⟩
theorem TskS.cells {o : Option (List (Int × Nat))} (h : TskS w B E g o k) : w.cell? ⟨g, 1, none⟩ = some (.bool o.isSome) ∧ w.cell? ⟨g, 2, none⟩ = some (.int .i64 (k : Int)) ∧ w.frozen? ⟨g, 2, none⟩ = false := by
 obtain ⟨_, _, _, A, n, c, hb, _⟩ := h
 have h1 := hb.cell 1
 have h2 := hb.cell 2
 simp at h1 h2
 exact ⟨h1, h2, hb.frozen 2⟩
theorem TskB.row {b : List Nat} (h : TskB w B E g (some b) k) : ∃ A n c, w.cell? ⟨g, 0, none⟩ = some (.slice A n c) ∧ b.length = n ∧ n ≤ 1000000 ∧ (A = none → c = 0) ∧ Rds w w.heap.size A n (cells8 b) := by
 obtain ⟨_, _, _, A, n, c, hb, ho⟩ := h
 obtain ⟨h3, h4, _⟩ := ho b rfl
 have h0 := hb.cell 0
 simp at h0
 obtain ⟨A', c', e, hA, _, _, hr⟩ := h4.form
 rw [cells8_length] at e hr
 injection e with e1 e2 e3
 subst e1 e2 e3
 exact ⟨A, b.length, c, h0, rfl, h3, hA, hr⟩
theorem TskS.row {l : List (Int × Nat)} (h : TskS w B E g (some l) k) : ∃ A n c, w.cell? ⟨g, 0, none⟩ = some (.slice A n c) ∧ l.length = n ∧ n ≤ 1000000 ∧ (A = none → c = 0) ∧ RdsS w w.heap.size A n l := by
 obtain ⟨_, _, _, A, n, c, hb, ho⟩ := h
 obtain ⟨h3, h4, _⟩ := ho l rfl
 have h0 := hb.cell 0
 simp at h0
 rcases h4.2 with ⟨e, h0'⟩ | ⟨g', cap, cur, e, _⟩
 ·injection e with e1 e2 e3
  subst e1 e2 e3
  obtain rfl : l = [] := List.eq_nil_of_length_eq_zero h0'
  exact ⟨none, 0, 0, h0, rfl, by omega, fun _ => rfl, RdsS.nil _ _ _⟩
 ·obtain ⟨A', c', e', _, _, hr⟩ := h4.form
  injection e' with e1 e2 e3
  subst e1 e2 e3
  exact ⟨A, l.length, c, h0, rfl, h3, (fun hA => by injection e with e1; rw [hA] at e1; cases e1), hr⟩
end
theorem max_is {P : Program} {t ty : TypeId} {n m : Int} (h : max 1 n = m) : ∀ w, (Builtin.max_ #[t, t] ty #[.int .i64 1, .int .i64 n]).run P w = .ok (.int .i64 m) w := by
 intro w
 have hx : (if (1 : Int) < n then n else 1) = m := by split <;> omega
 simp only [Builtin.max_, List.foldlM, Builtin.max2, Sem.run_bind, Sem.run_pure, Result.andThen_ok, hx]
theorem min_is {P : Program} {t ty : TypeId} {a n m : Int} (h : min a n = m) : ∀ w, (Builtin.min_ #[t, t] ty #[.int .i64 a, .int .i64 n]).run P w = .ok (.int .i64 m) w := by
 intro w
 have hx : (if n < a then n else a) = m := by split <;> omega
 simp only [Builtin.min_, List.foldlM, Builtin.min2, Sem.run_bind, Sem.run_pure, Result.andThen_ok, hx]
set_option maxHeartbeats 1000000 in
set_option maxRecDepth 100000 in
theorem tstepB_any (B E g k : Nat) (o : Option (List Nat)) (n : Int) (w : World) (h : TskB w B E g o k) (hk : k ≤ 65535) :
  Calls Tryz.prog 27 #[.pointer (some ⟨g, 0, none⟩), .int .i64 n] w fun e w' => e = .returned (.bool (decide (0 < lessS k n))) ∧ TskB w' B E g o (lessS k n) ∧ Mod (fun i => i = g) w w' := by
 obtain ⟨M, hM⟩ : ∃ M : Int, max 1 n = M := ⟨_, rfl⟩
 obtain ⟨m, hm⟩ : ∃ m : Int, min M (k : Int) = m := ⟨_, rfl⟩
 obtain ⟨k', hk'⟩ : ∃ k', k' = lessS k n := ⟨_, rfl⟩
 have hw : IntKind.i64.wrap ((k : Int) - m) = (k' : Int) := by rw [IntWalk.i64_in _ (by omega), hk', lessS, hM]; omega
 rw [← hk']
 have hmax := @max_is Tryz.prog 3 3 n M hM
 have hmin := @min_is Tryz.prog 3 3 M (k : Int) m hm
 obtain ⟨_, c2, f2⟩ := h.cells
 have Hp := Lib.hid (h.put k')
 obtain ⟨_, d2, _⟩ := Hp.out.1.cells
 clear h hk' hM hm
 go_enter Tryz.func27, Tryz.ntmps27
 go_upto_region 1 with fail
 go_region
 all_goals
  go_wp2_with fail
  go_ret
  exact ⟨by simp, Hp.out.1.mod ((Mod.refl (fun _ => False) _).drew) (fun _ h => h.elim), Hp.out.2.drew⟩
set_option maxHeartbeats 1000000 in
set_option maxRecDepth 100000 in
theorem tstepS_any (B E g k : Nat) (o : Option (List (Int × Nat))) (n : Int) (w : World) (h : TskS w B E g o k) (hk : k ≤ 65535) :
  Calls Tryz.prog 28 #[.pointer (some ⟨g, 0, none⟩), .int .i64 n] w fun e w' => e = .returned (.bool (decide (0 < lessS k n))) ∧ TskS w' B E g o (lessS k n) ∧ Mod (fun i => i = g) w w' := by
 obtain ⟨M, hM⟩ : ∃ M : Int, max 1 n = M := ⟨_, rfl⟩
 obtain ⟨m, hm⟩ : ∃ m : Int, min M (k : Int) = m := ⟨_, rfl⟩
 obtain ⟨k', hk'⟩ : ∃ k', k' = lessS k n := ⟨_, rfl⟩
 have hw : IntKind.i64.wrap ((k : Int) - m) = (k' : Int) := by rw [IntWalk.i64_in _ (by omega), hk', lessS, hM]; omega
 rw [← hk']
 have hmax := @max_is Tryz.prog 3 3 n M hM
 have hmin := @min_is Tryz.prog 3 3 M (k : Int) m hm
 obtain ⟨_, c2, f2⟩ := h.cells
 have Hp := Lib.hid (h.put k')
 obtain ⟨_, d2, _⟩ := Hp.out.1.cells
 clear h hk' hM hm
 go_enter Tryz.func28, Tryz.ntmps28
 go_upto_region 1 with fail
 go_region
 all_goals
  go_wp2_with fail
  go_ret
  exact ⟨by simp, Hp.out.1.mod ((Mod.refl (fun _ => False) _).drew) (fun _ h => h.elim), Hp.out.2.drew⟩
set_option maxHeartbeats 1000000 in
set_option maxRecDepth 100000 in
theorem tdoneB_any (B E g k : Nat) (o : Option (List Nat)) (w : World) (h : TskB w B E g o k) :
  Calls Tryz.prog 29 #[.pointer (some ⟨g, 0, none⟩)] w fun e w' => EncB w w' (if k = 0 then o else none) e := by
 obtain ⟨c1, c2, _⟩ := h.cells
 by_cases hk : k = 0
 ·subst hk
  rw [if_pos rfl]
  cases o with
  | none =>
   clear h
   go_enter Tryz.func29, Tryz.ntmps29
   go_wp2_with fail
   go_ret2
   exact EncB.of_none rfl (Mod.refl _ _)
  | some b =>
   obtain ⟨A, n, c, c0, hn, hn2, hA, hr⟩ := h.row
   have Hr := Lib.hid hr; have HA := Lib.hid hA
   clear h hn hA hr
   go_enter Tryz.func29, Tryz.ntmps29
   go_wp2_with fail
   refine (clone8_any A n c b w Hr.out HA.out hn2).mono ?_
   rintro e w1 ⟨v, rfl, ho, hm⟩
   have Ho := Lib.hid ho; have Hm := Lib.hid hm
   clear ho hm
   go_wp2_with fail
   go_ret2
   exact EncB.of_some rfl Ho.out Hm.out
 ·rw [if_neg hk]
  have hk0 : (0 : Int) < (k : Int) := by omega
  clear h hk
  go_enter Tryz.func29, Tryz.ntmps29
  go_wp2_with fail
  go_ret2
  exact EncB.of_none rfl (Mod.refl _ _)
set_option maxHeartbeats 1000000 in
set_option maxRecDepth 100000 in
theorem tdoneS_any (B E g k : Nat) (o : Option (List (Int × Nat))) (w : World) (h : TskS w B E g o k) :
  Calls Tryz.prog 30 #[.pointer (some ⟨g, 0, none⟩)] w fun e w' => EncS w w' (if k = 0 then o else none) e := by
 obtain ⟨c1, c2, _⟩ := h.cells
 by_cases hk : k = 0
 ·subst hk
  rw [if_pos rfl]
  cases o with
  | none =>
   clear h
   go_enter Tryz.func30, Tryz.ntmps30
   go_wp2_with fail
   go_ret2
   exact EncS.of_none rfl (Mod.refl _ _)
  | some b =>
   obtain ⟨A, n, c, c0, hn, hn2, hA, hr⟩ := h.row
   have Hr := Lib.hid hr; have HA := Lib.hid hA
   clear h hn hA hr
   go_enter Tryz.func30, Tryz.ntmps30
   go_wp2_with fail
   refine (cloneS_any A n c b w Hr.out HA.out hn2).mono ?_
   rintro e w1 ⟨v, rfl, ho, hm⟩
   have Ho := Lib.hid ho; have Hm := Lib.hid hm
   clear ho hm
   go_wp2_with fail
   go_ret2
   exact EncS.of_some rfl Ho.out Hm.out
 ·rw [if_neg hk]
  have hk0 : (0 : Int) < (k : Int) := by omega
  clear h hk
  go_enter Tryz.func30, Tryz.ntmps30
  go_wp2_with fail
  go_ret2
  exact EncS.of_none rfl (Mod.refl _ _)
set_option maxHeartbeats 1000000 in
set_option maxRecDepth 100000 in
theorem tbadS_any (B E g k : Nat) (o : Option (List (Int × Nat))) (w : World) (h : TskS w B E g o k) :
  Calls Tryz.prog 32 #[.pointer (some ⟨g, 0, none⟩)] w fun e w' => e = .returned (.bool (decide (k = 0) && o.isNone)) ∧ w = w' := by
 obtain ⟨c1, c2, _⟩ := h.cells
 clear h
 by_cases hk : k = 0
 ·subst hk
  go_enter Tryz.func32, Tryz.ntmps32
  go_wp2_with fail
  go_ret
  exact ⟨by cases o <;> rfl, rfl⟩
 ·have hk0 : ((k : Int) == 0) = false := by simp; omega
  have hd : decide (k = 0) = false := decide_eq_false hk
  rw [hd]
  clear hk hd
  go_enter Tryz.func32, Tryz.ntmps32
  go_wp2_with fail
  go_ret
  exact ⟨rfl, rfl⟩
theorem EncS.parts {w w' : World} {o : Option (List (Int × Nat))} {e : Ending} (h : EncS w w' o e) : ∃ v, e = .returned (.tuple #[v, .bool o.isSome]) ∧ EncS w w' o (.returned (.tuple #[v, .bool o.isSome])) := by
 cases o with
 | none => obtain ⟨rfl, hm⟩ := h; exact ⟨_, rfl, rfl, hm⟩
 | some l => obtain ⟨v, rfl, h1, h2⟩ := h; exact ⟨v, rfl, v, rfl, h1, h2⟩
theorem estep_any (B E g k : Nat) (o : Option (List Nat)) (n : Int) (w : World) (h : TskB w B E g o k) (hk : k ≤ 65535) :
  Calls Tryz.prog 10 #[.pointer (some ⟨g, 0, none⟩), .int .i64 n] w fun e w' => e = .returned (.bool (decide (0 < lessS k n))) ∧ TskB w' B E g o (lessS k n) ∧ Mod (fun i => i = g) w w' := by
 have H := Lib.hid (tstepB_any B E g k o n w h hk)
 clear h
 go_enter Tryz.func10, Tryz.ntmps10
 go_wp2_with fail
 refine H.out.mono ?_
 rintro e w1 ⟨rfl, h1, h2⟩
 have H1 := Lib.hid h1; have H2 := Lib.hid h2
 clear h1 h2 H
 go_wp2_with fail
 go_ret
 exact ⟨rfl, H1.out, H2.out⟩
theorem edone_any (B E g k : Nat) (o : Option (List Nat)) (w : World) (h : TskB w B E g o k) :
  Calls Tryz.prog 12 #[.pointer (some ⟨g, 0, none⟩)] w fun e w' => EncB w w' (if k = 0 then o else none) e := by
 obtain ⟨p, hp⟩ : ∃ p, p = if k = 0 then o else none := ⟨_, rfl⟩
 have H : Hid (Calls Tryz.prog 29 #[.pointer (some ⟨g, 0, none⟩)] w fun e w' => EncB w w' p e) := Lib.hid (by rw [hp]; exact tdoneB_any B E g k o w h)
 rw [← hp]
 clear h hp
 go_enter Tryz.func12, Tryz.ntmps12
 go_wp2_with fail
 refine H.out.mono ?_
 intro e w1 he
 obtain ⟨v, rfl, he'⟩ := EncB.parts he
 have He := Lib.hid he'
 clear he he' H
 go_wp2_with fail
 go_ret2
 exact He.out
theorem dstep_any (B E g k : Nat) (o : Option (List (Int × Nat))) (n : Int) (w : World) (h : TskS w B E g o k) (hk : k ≤ 65535) :
  Calls Tryz.prog 11 #[.pointer (some ⟨g, 0, none⟩), .int .i64 n] w fun e w' => e = .returned (.bool (decide (0 < lessS k n))) ∧ TskS w' B E g o (lessS k n) ∧ Mod (fun i => i = g) w w' := by
 have H := Lib.hid (tstepS_any B E g k o n w h hk)
 clear h
 go_enter Tryz.func11, Tryz.ntmps11
 go_wp2_with fail
 refine H.out.mono ?_
 rintro e w1 ⟨rfl, h1, h2⟩
 have H1 := Lib.hid h1; have H2 := Lib.hid h2
 clear h1 h2 H
 go_wp2_with fail
 go_ret
 exact ⟨rfl, H1.out, H2.out⟩
theorem ddone_any (B E g k : Nat) (o : Option (List (Int × Nat))) (w : World) (h : TskS w B E g o k) :
  Calls Tryz.prog 13 #[.pointer (some ⟨g, 0, none⟩)] w fun e w' => EncS w w' (if k = 0 then o else none) e := by
 obtain ⟨p, hp⟩ : ∃ p, p = if k = 0 then o else none := ⟨_, rfl⟩
 have H : Hid (Calls Tryz.prog 30 #[.pointer (some ⟨g, 0, none⟩)] w fun e w' => EncS w w' p e) := Lib.hid (by rw [hp]; exact tdoneS_any B E g k o w h)
 rw [← hp]
 clear h hp
 go_enter Tryz.func13, Tryz.ntmps13
 go_wp2_with fail
 refine H.out.mono ?_
 intro e w1 he
 obtain ⟨v, rfl, he'⟩ := EncS.parts he
 have He := Lib.hid he'
 clear he he' H
 go_wp2_with fail
 go_ret2
 exact He.out
theorem dbad_any (B E g k : Nat) (o : Option (List (Int × Nat))) (w : World) (h : TskS w B E g o k) :
  Calls Tryz.prog 16 #[.pointer (some ⟨g, 0, none⟩)] w fun e w' => e = .returned (.bool (decide (k = 0) && o.isNone)) ∧ w = w' := by
 have H := Lib.hid (tbadS_any B E g k o w h)
 clear h
 go_enter Tryz.func16, Tryz.ntmps16
 go_wp2_with fail
 refine H.out.mono ?_
 rintro e w1 ⟨rfl, rfl⟩
 clear H
 go_wp2_with fail
 go_ret
 exact ⟨rfl, rfl⟩
end Go.Proofs.YthgoppmgapaajaaGreatDoor

/- Chunks, of the code: Make. -/
namespace Go.Proofs.YthgoppmgapaajaaGreatDoor
open Go.RowKit

theorem makeC_no {tag : Int} {l : List (Int × Nat)} (h : encK tag l = none) : makeC tag l = none := by
 unfold makeC
 split
 ·rfl
 ·rw [h]; rfl
theorem headC_len {t n : Nat} {f g : Int} (hn : n < 18446744073709551616) (hf : Fits f) (hg : Fits g) : (headC t n f g).length ≤ 31 := by
 obtain ⟨_, f2⟩ := zig_nat hf
 obtain ⟨_, g2⟩ := zig_nat hg
 have h1 := enc_len10 hn
 have h2 := enc_len10 f2
 have h3 := enc_len10 g2
 simp only [headC, List.length_cons, List.length_append]
 omega
theorem makeC_len {tag : Int} {l : List (Int × Nat)} {c : List Nat} (hg : GoodS l) (h : makeC tag l = some c) : c.length ≤ 2735 + 30 * l.length := by
 obtain ⟨_, b, h1, rfl⟩ := makeC_some h
 have h2 := encK_len hg h1
 have h3 := (rise_ends (encK_some h1).1).2
 have h4 : (headR tag l).length ≤ 31 := headC_len (by omega) (fstT_fits hg) (lstT_fits hg)
 have h5 : (sum4 (sumN ent (headR tag l ++ b))).length = 4 := rfl
 rw [List.length_append, List.length_append, h5]
 omega
set_option maxHeartbeats 2000000 in
set_option maxRecDepth 100000 in
theorem jmake_any (tag : Int) (A : Option Addr) (n c : Nat) (l : List (Int × Nat)) (w : World) (hs : RdsS w w.heap.size A n l) (hg : GoodS l) (ht : Tabs w) :
  Calls Tryz.prog 23 #[.int .i64 tag, .slice A n c] w fun e w' => EncB w w' (makeC tag l) e := by
 have hl := hs.1
 by_cases h0 : n = 0
 ·subst h0
  have hno : makeC tag l = none := by
   unfold makeC
   rw [if_pos (List.length_eq_zero_iff.1 hl)]
  have Hno := Lib.hid hno
  clear hs hg ht hl hno
  go_enter Tryz.func23, Tryz.ntmps23
  go_wp2_with fail
  go_ret2
  exact EncB.of_none Hno.out (Mod.refl _ _)
 ·have hb0 : ((n : Int) == 0) = false := by simp; omega
  have Hs := Lib.hid hs; have Hg := Lib.hid hg; have Ht := Lib.hid ht; have Hl := Lib.hid hl
  clear hs hg ht hl
  go_enter Tryz.func23, Tryz.ntmps23
  go_wp2_with fail
  refine (kenc_any tag A n c l w Hs.out Hg.out Ht.out).mono ?_
  intro e w1 he
  have he' : EncB w w1 (encK tag l) e := he
  clear he
  cases ho : encK tag l with
  | none =>
   obtain ⟨rfl, hm1⟩ := EncB.none_ he' ho
   have Hno : Hid (makeC tag l = none) := Lib.hid (makeC_no ho)
   have Hm1 := Lib.hid hm1
   clear he' ho hm1
   go_wp2_with fail
   go_ret2
   exact EncB.of_none Hno.out Hm1.out
  | some b =>
   obtain ⟨v1, rfl, ho1, hm1⟩ := EncB.some_ he' ho
   have hne : l ≠ [] := fun h => h0 (by rw [← Hl.out, h]; rfl)
   have hyes := makeC_of hne ho
   have htag := encK_tag ho
   have hn65 := (rise_ends (encK_some ho).1).2
   rw [Hl.out] at hn65
   have hbl := encK_len Hg.out ho
   rw [Hl.out] at hbl
   have hlt := encK_256 ho
   obtain ⟨A1, L1, c1, rfl, HL1, _, _, hr1⟩ := own_formN8 ho1
   have hL1 : L1 ≤ 2000000 := by have := HL1.out; omega
   have Hr1 := Lib.hid hr1; have Hm1 := Lib.hid hm1; have Hs1 := Lib.hid (Hs.out.new hm1).fit
   have Hyes := Lib.hid hyes; have Htag := Lib.hid htag; have Hlt := Lib.hid hlt
   obtain ⟨f, hf⟩ : ∃ f, f = fstT l := ⟨_, rfl⟩
   obtain ⟨g, hgg⟩ : ∃ g, g = lstT l := ⟨_, rfl⟩
   have Hf : Hid (Fits f) := Lib.hid (hf ▸ fstT_fits Hg.out)
   have Hgf : Hid (Fits g) := Lib.hid (hgg ▸ lstT_fits Hg.out)
   have Hef := Lib.hid hf; have Heg := Lib.hid hgg
   clear he' ho ho1 hm1 hne hyes htag hbl hlt hr1 hf hgg Hs Ht
   go_wp2_with fail
   refine (headOf_any tag A n c l w1 Hs1.out (by omega) (by unfold maxLen; omega)).mono ?_
   rintro e w2 ⟨rfl, hm2⟩
   rw [← Hef.out, ← Heg.out]
   have Hr2 := Lib.hid (Hr1.out.new hm2).fit; have Hm2 := Lib.hid (Hm1.out.trans hm2 (fun _ _ h => h))
   clear hm2 Hr1 Hm1 Hs1
   go_wp2_with fail
   refine (putHead_any tag f g n w2 Htag.out (by unfold maxLen; omega) Hf.out Hgf.out).mono ?_
   rintro e w3 ⟨v3, rfl, ho3, hm3⟩
   obtain ⟨hd, hhd⟩ : ∃ hd, hd = headC tag.toNat n f g := ⟨_, rfl⟩
   rw [← hhd] at ho3
   have hhl : hd.length ≤ 31 := by rw [hhd]; exact headC_len (by omega) Hf.out Hgf.out
   have hh256 : lt256 hd := by rw [hhd]; exact headC_256 _ _ (by have := Htag.out; omega)
   have hhr : hd = headR tag l := by rw [hhd]; unfold headR; rw [← Hef.out, ← Heg.out, Hl.out]
   have Ho3 := Lib.hid ho3; have Hm3 := Lib.hid (Hm2.out.trans hm3 (fun _ _ h => h)); have Hr3 := Lib.hid (Hr2.out.new hm3)
   have HR : Hid (Room (cells8 hd).length L1) := Lib.hid (Room.mk _ _ (by rw [cells8_length]; omega))
   have Hone : Hid (∀ u ∈ cells8 b, u.oneCell' = true) := Lib.hid (cells8_one _)
   have hsz3 := hm3.size
   have Hm2s : Hid (w.heap.size ≤ w2.heap.size) := Lib.hid Hm2.out.size
   have Hhr := Lib.hid hhr; have Hh256 := Lib.hid hh256; have Hhl := Lib.hid hhl
   clear ho3 hm3 hhd hhl hh256 hhr Hr2 Hm2 Hef Heg
   go_wp2_with (at_builtin; refine wpList_app rfl (.tmp 23) (.tmp 24) _ rfl elt8 rfl Ho3.out rfl Hr3.out Hone.out HR.out.1 HR.out.2 hsz3 ?_; intro v4 w4 HO4 HBl4 HG4; clear HG4)
   obtain ⟨hb, hhb⟩ : ∃ hb, hb = hd ++ b := ⟨_, rfl⟩
   have ho4 : Own w2.heap.size w4 5 v4 (cells8 hb) := by rw [hhb, ← cells8_app]; exact HO4.out
   have hb256 : lt256 hb := by rw [hhb]; exact lt256_app Hh256.out Hlt.out
   have hbl : hb.length ≤ 2000031 := by rw [hhb, List.length_append]; have := Hhl.out; have := HL1.out; omega
   have hyes2 : makeC tag l = some (hb ++ sum4 (sumN ent hb)) := by rw [hhb, Hhr.out]; exact Hyes.out
   obtain ⟨A4, L4, c4, rfl, HL4, hc4, hcm4, hr4⟩ := own_formN8 ho4
   have hL4 : L4 ≤ 2000031 := by have := HL4.out; omega
   have Ho4 := Lib.hid ho4; have Hr4 := Lib.hid hr4; have Hb256 := Lib.hid hb256; have Hyes2 := Lib.hid hyes2
   have Hm4 := Lib.hid (Hm3.out.trans (Mod.of_below HBl4.out) (fun i hi h => by have := Hm3.out.size; have := Hm2s.out; omega))
   have Hsz4 := Lib.hid (Nat.le_trans hsz3 HBl4.out.size)
   clear hhb ho4 hb256 hbl hyes2 hr4 HO4 HBl4 Hm3 Ho3 Hr3 Hyes Hhr Hh256 Hhl Hlt HR Hone hsz3
   refine (jsum_any A4 L4 c4 hb w4 Hr4.out Hb256.out (by unfold maxLen; omega)).mono ?_
   rintro e w5 ⟨v5, rfl, ho5, hm5⟩
   obtain ⟨sm, hsm⟩ : ∃ sm, sm = sum4 (sumN ent hb) := ⟨_, rfl⟩
   rw [← hsm] at ho5
   have hsl : sm.length = 4 := by rw [hsm]; rfl
   obtain ⟨A5, L5, c5, rfl, HL5, _, _, hr5⟩ := own_formN8 ho5
   obtain rfl : L5 = 4 := by have := HL5.out; omega
   have Hr5 := Lib.hid hr5; have Ho45 := Lib.hid (Ho4.out.mod hm5); have Hm5 := Lib.hid (Hm4.out.trans hm5 (fun _ _ h => h))
   have HR5 : Hid (Room (cells8 hb).length 4) := Lib.hid (Room.mk _ _ (by rw [cells8_length]; have := HL4.out; omega))
   have Hone5 : Hid (∀ u ∈ cells8 sm, u.oneCell' = true) := Lib.hid (cells8_one _)
   have hsz5 : w2.heap.size ≤ w5.heap.size := Nat.le_trans Hsz4.out hm5.size
   have Hsm := Lib.hid hsm
   clear ho5 hm5 hsm hsl hr5 Ho4 Hr4 Hm4 Hsz4
   go_wp2_with (at_builtin; refine wpList_app rfl (.tmp 26) (.tmp 28) _ rfl elt8 rfl Ho45.out rfl Hr5.out Hone5.out HR5.out.1 HR5.out.2 hsz5 ?_; intro v6 w6 HO6 HBl6 HG6; clear HG6)
   go_ret2
   have ho6 := HO6.out
   rw [cells8_app, Hsm.out] at ho6
   exact EncB.of_some Hyes2.out (ho6.mono Hm2s.out) (Hm5.out.trans (Mod.of_below HBl6.out) (fun i hi h => by have := Hm2s.out; omega))
end Go.Proofs.YthgoppmgapaajaaGreatDoor

/- Work by steps, of the code: an encoder made, and a decoder. -/
namespace Go.Proofs.YthgoppmgapaajaaGreatDoor
open Go.RowKit

set_option maxHeartbeats 1000000 in
set_option maxRecDepth 100000 in
theorem newEnc_any (tag : Int) (A : Option Addr) (n c : Nat) (l : List (Int × Nat)) (w : World) (hs : RdsS w w.heap.size A n l) (hg : GoodS l) (ht : Tabs w) (hn : n ≤ 30000) :
  Calls Tryz.prog 8 #[.int .i64 tag, .slice A n c] w fun e w' => ∃ g, e = .returned (.pointer (some ⟨g, 0, none⟩)) ∧ TskB w' w.heap.size w'.heap.size g (makeC tag l) (if (makeC tag l).isSome then n else 1) ∧ Mod (fun _ => False) w w' := by
 obtain ⟨o, ho⟩ : ∃ o, o = makeC tag l := ⟨_, rfl⟩
 have Hl : Hid (l.length = n) := Lib.hid hs.1
 have hlen : ∀ b, o = some b → b.length ≤ 1000000 := fun b hb => by
  have := makeC_len hg (ho.symm.trans hb); have := Hl.out; omega
 have H : Hid (Calls Tryz.prog 23 #[.int .i64 tag, .slice A n c] w fun e w' => EncB w w' o e) := Lib.hid (by rw [ho]; exact jmake_any tag A n c l w hs hg ht)
 rw [← ho]
 have Hlen := Lib.hid hlen
 clear hs hg ht ho hlen
 go_enter Tryz.func8, Tryz.ntmps8
 go_wp2_with fail
 refine H.out.mono ?_
 intro e w1 he
 cases o with
 | none =>
  obtain ⟨rfl, hm1⟩ := EncB.none_ he rfl
  have Hm1 := Lib.hid hm1
  clear he hm1 H Hlen
  go_wp2_with fail
  refine (newTask8_any none 0 0 (n : Int) false w1).mono ?_
  rintro e w2 ⟨rfl, hm2⟩
  have Hm2 := Lib.hid (Hm1.out.trans hm2 (fun _ _ h => h))
  have ht : taskV none 0 0 (n : Int) false = .agg #[.slice none 0 0, .bool false, .int .i64 1] := rfl
  rw [ht]
  clear ht hm2 Hm1
  go_wp2_with fail
  go_ret
  refine ⟨w2.heap.size, rfl, ⟨Hm2.out.size, by simp, Nat.le_refl _, none, 0, 0, Blk.new _ _ _, fun b hb => by cases hb⟩, Hm2.out.alloc _⟩
 | some b =>
  obtain ⟨v, rfl, ho1, hm1⟩ := EncB.some_ he rfl
  obtain ⟨A1, c1, rfl, _, _, _, _⟩ := ho1.form
  rw [cells8_length] at ho1
  have Ho1 := Lib.hid ho1; have Hm1 := Lib.hid hm1
  have Hlen2 : Hid (b.length ≤ 1000000) := Lib.hid (Hlen.out b rfl)
  obtain ⟨L, hL⟩ : ∃ L, L = b.length := ⟨_, rfl⟩
  rw [cells8_length, ← hL]
  rw [← hL] at Ho1
  have HL := Lib.hid hL
  clear he ho1 hm1 H Hlen hL
  go_wp2_with fail
  refine (newTask8_any A1 L c1 (n : Int) true w1).mono ?_
  rintro e w2 ⟨rfl, hm2⟩
  have Ho2 := Lib.hid (Ho1.out.mod hm2)
  have Hm2 := Lib.hid (Hm1.out.trans hm2 (fun _ _ h => h))
  have ht : taskV A1 L c1 (n : Int) true = .agg #[.slice A1 L c1, .bool true, .int .i64 (n : Int)] := rfl
  rw [ht]
  clear ht hm2 Hm1 Ho1
  go_wp2_with fail
  go_ret
  refine ⟨w2.heap.size, rfl, ⟨Hm2.out.size, by simp, Nat.le_refl _, A1, L, c1, Blk.new _ _ _, fun b' hb => ?_⟩, Hm2.out.alloc _⟩
  injection hb with hb
  subst hb
  refine ⟨Hlen2.out, Ho2.out.alloc _, fun r hr => ?_⟩
  have := (Ho2.out.block r hr).2
  simp
  omega
set_option maxHeartbeats 1000000 in
set_option maxRecDepth 100000 in
theorem newDec_any (A : Option Addr) (n c : Nat) (bs : List Nat) (o : Option (List (Int × Nat) × Nat)) (w : World) (hs : Rds w w.heap.size A n (cells8 bs)) (hlt : lt256 bs) (hnc : n ≤ c) (hcm : c ≤ maxLen) (hn : n ≤ 1000000) (ht : Tabs w)
  (ho : openX bs = o) (hlen : ∀ l t, o = some (l, t) → l.length ≤ 1000000) :
  Calls Tryz.prog 9 #[.slice A n c] w fun e w' => ∃ g, e = .returned (.pointer (some ⟨g, 0, none⟩)) ∧ TskS w' w.heap.size w'.heap.size g (o.map (·.1)) ((o.map (·.1.length)).getD 1) ∧ Mod (fun _ => False) w w' := by
 have H : Hid (Calls Tryz.prog 25 #[.slice A n c] w fun e w' => EncO w w' o e) := Lib.hid (by rw [← ho]; exact jopen_any A n c bs w hs hlt hnc hcm hn ht)
 have Hlen := Lib.hid hlen
 clear hs hlt hnc hcm hn ht ho hlen
 go_enter Tryz.func9, Tryz.ntmps9
 go_wp2_with fail
 refine H.out.mono ?_
 intro e w1 he
 cases o with
 | none =>
  obtain ⟨rfl, hm1⟩ := EncO.none_ he rfl
  have Hm1 := Lib.hid hm1
  clear he hm1 H Hlen
  go_wp2_with fail
  refine (newTaskS_any none 0 0 0 false w1).mono ?_
  rintro e w2 ⟨rfl, hm2⟩
  have Hm2 := Lib.hid (Hm1.out.trans hm2 (fun _ _ h => h))
  have ht : taskV none 0 0 0 false = .agg #[.slice none 0 0, .bool false, .int .i64 1] := rfl
  rw [ht]
  clear ht hm2 Hm1
  go_wp2_with fail
  go_ret
  refine ⟨w2.heap.size, rfl, ⟨Hm2.out.size, by simp, Nat.le_refl _, none, 0, 0, Blk.new _ _ _, fun b hb => by cases hb⟩, Hm2.out.alloc _⟩
 | some q =>
  obtain ⟨l, t⟩ := q
  obtain ⟨v, rfl, ho1, hm1⟩ := EncO.some_ he rfl
  obtain ⟨A1, c1, rfl, _, _, _⟩ := ho1.form
  have Hlen2 : Hid (l.length ≤ 1000000) := Lib.hid (Hlen.out l t rfl)
  obtain ⟨L, hL⟩ : ∃ L, L = l.length := ⟨_, rfl⟩
  rw [← hL]
  rw [← hL] at ho1
  have Ho1 := Lib.hid ho1; have Hm1 := Lib.hid hm1
  have HL := Lib.hid hL
  clear he ho1 hm1 H Hlen hL
  go_wp2_with fail
  refine (newTaskS_any A1 L c1 (L : Int) true w1).mono ?_
  rintro e w2 ⟨rfl, hm2⟩
  have Ho2 := Lib.hid (Ho1.out.mod hm2)
  have Hm2 := Lib.hid (Hm1.out.trans hm2 (fun _ _ h => h))
  have ht : taskV A1 L c1 (L : Int) true = .agg #[.slice A1 L c1, .bool true, .int .i64 (L : Int)] := rfl
  rw [ht]
  clear ht hm2 Hm1 Ho1
  go_wp2_with fail
  go_ret
  refine ⟨w2.heap.size, rfl, ?_, Hm2.out.alloc _⟩
  have e1 : ((some (l, t)).map (fun p : List (Int × Nat) × Nat => p.1.length)).getD 1 = L := HL.out.symm
  rw [e1]
  refine ⟨Hm2.out.size, by simp, Nat.le_refl _, A1, L, c1, Blk.new _ _ _, fun b' hb => ?_⟩
  injection hb with hb
  subst hb
  refine ⟨Hlen2.out, Ho2.out.alloc _, fun r hr => ?_⟩
  have := (Ho2.out.block r hr).2
  simp
  omega
end Go.Proofs.YthgoppmgapaajaaGreatDoor

/- The codec that takes the fewest bytes: Best. -/
namespace Go.Proofs.YthgoppmgapaajaaGreatDoor
open Go.RowKit

/-- The best of the first i. -/
def BestTo (w wr : World) (l : List (Int × Nat)) (i : Nat) (bt : Int) (v : Value) : Prop :=
 bt = (bestTo l i).1 ∧ Own w.heap.size wr 5 v (cells8 (bestTo l i).2) ∧ Mod (fun _ => False) w wr
theorem BestTo.stay {w wr w2 : World} {l : List (Int × Nat)} {i : Nat} {bt : Int} {v : Value} (h : BestTo w wr l i bt v) (hm : Mod (fun _ => False) wr w2) (hs : bestTo l (i + 1) = bestTo l i) : BestTo w w2 l (i + 1) bt v := by
 obtain ⟨h1, h2, h3⟩ := h
 refine ⟨by rw [hs]; exact h1, by rw [hs]; exact h2.mod hm, h3.trans hm (fun _ _ h => h)⟩
end Go.Proofs.YthgoppmgapaajaaGreatDoor

/- What the document fixes of layer 10: awake. -/
namespace Go.Proofs.YthgoppmgapaajaaGreatDoor
open Go.RowKit

def l3 : List (Int × Nat) := [(1, 7), (2, 7), (3, 7)]
theorem rds_three (w : World) (a b c : Int) (x y z : Nat) : RdsS (w.alloc (.cells #[.int .i64 a, .int .u64 (x : Int), .int .i64 b, .int .u64 (y : Int), .int .i64 c, .int .u64 (z : Int)] 36)) (w.heap.size + 1) (some ⟨w.heap.size, 0, none⟩) 3 [(a, x), (b, y), (c, z)] :=
 ⟨rfl, Rds.lit w 36 #[.int .i64 a, .int .u64 (x : Int), .int .i64 b, .int .u64 (y : Int), .int .i64 c, .int .u64 (z : Int)]⟩
theorem Tabs.alloc {w : World} (h : Tabs w) (o : Obj) : Tabs (w.alloc o) := h.mod ((Mod.refl _ _).alloc o)
end Go.Proofs.YthgoppmgapaajaaGreatDoor

/- SuitBack's walk. -/
namespace Go.Proofs.YthgoppmgapaajaaGreatDoor
open Go.RowKit

end Go.Proofs.YthgoppmgapaajaaGreatDoor

/- Chunks: which rows have a chunk, and bounds of such; what the laws of layer 11 ask. -/
namespace Go.Proofs.YthgoppmgapaajaaGreatDoor

/-- What a chunk is, is read; whatever stands behind its head. -/
theorem openX_of {tag : Int} {l : List (Int × Nat)} {c : List Nat} (hg : GoodS l) (h : makeC tag l = some c) : openX c = some (l, tag.toNat) := openX_make hg h
/-- A chunk in its parts: its head, and eight bytes at least. -/
theorem makeC_len8 {tag : Int} {l : List (Int × Nat)} {c : List Nat} (h : makeC tag l = some c) : 8 ≤ c.length := by
 obtain ⟨_, b, _, h2⟩ := makeC_some h
 have p1 := enc_pos l.length
 have p2 := enc_pos (zig (fstT l)).toNat
 have p3 := enc_pos (zig (lstT l)).toNat
 have h5 : (sum4 (sumN ent (headR tag l ++ b))).length = 4 := rfl
 rw [h2, List.length_append, List.length_append, h5]
 simp only [headR, headC, List.length_cons, List.length_append]
 omega
end Go.Proofs.YthgoppmgapaajaaGreatDoor

/- What the document fixes of layer 11: awake. -/
namespace Go.Proofs.YthgoppmgapaajaaGreatDoor
open Go.RowKit

end Go.Proofs.YthgoppmgapaajaaGreatDoor

/- From the row's list to the table of math/bits. -/
namespace Go.Proofs.YthgoppmgapaajaaGreatDoor
open Go.RowKit
theorem deb_of_tab {w : World} (h : Lib.TabIs Tryz.prog w "math/bits.deBruijn64tab" .u8 [0, 1, 56, 2, 57, 49, 28, 3, 61, 58, 42, 50, 38, 29, 17, 4, 62, 47, 59, 36, 45, 43, 51, 22, 53, 39, 33, 30, 24, 18, 12, 5, 63, 55, 48, 27, 60, 41, 37, 16, 46, 35, 44, 21, 52, 32, 23, 11, 54, 26, 40, 15, 34, 20, 31, 10, 25, 14, 19, 9, 13, 8, 7, 6]) : Deb w := by
 have hd : ∀ t : Fin 64, (([0, 1, 56, 2, 57, 49, 28, 3, 61, 58, 42, 50, 38, 29, 17, 4, 62, 47, 59, 36, 45, 43, 51, 22, 53, 39, 33, 30, 24, 18, 12, 5, 63, 55, 48, 27, 60, 41, 37, 16, 46, 35, 44, 21, 52, 32, 23, 11, 54, 26, 40, 15, 34, 20, 31, 10, 25, 14, 19, 9, 13, 8, 7, 6] : List Int).getD t.val 0) = (deb t.val : Int) := by decide +kernel
 have hc : ∀ t, t < 64 → w.cell? ⟨2, t, none⟩ = some (.int .u8 (deb t : Int)) := fun t ht => by
  rw [← hd ⟨t, ht⟩]
  exact h.cell (by kernel_rfl) t ht
 exact ⟨World.block_lt_of_cell? w _ (hc 0 (by decide)), hc⟩
end Go.Proofs.YthgoppmgapaajaaGreatDoor

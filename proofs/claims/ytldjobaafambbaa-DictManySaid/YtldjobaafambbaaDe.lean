/- Values are told by a list of those that are unlike: putList, Encode. -/
import Derived.Test.YtldjobaafambbaaDu
import Derived.Test.YtldjobaafambbaaPn
import Derived.Test.YtldjobaafambbaaVp
import Derived.StillTailTactics
namespace Go.Proofs.Ytldjobaafambbaa
open Go.RowKit Go.Maps

theorem encV_snoc (l : List Nat) (x : Nat) : encV (l ++ [x]) = encV l ++ enc x := by
  rw [encV_app]
  show encV l ++ (enc x ++ []) = _
  rw [List.append_nil]
theorem encV_small {l : List Nat} {i : Nat} (h : ∀ x ∈ l, x < 2 ^ 64) (hl : l.length ≤ 1000000) : (enc l.length ++ encV (l.take i)).length ≤ 10000010 := by
  have h1 := enc_len10 (u := l.length) (by omega)
  have h2 := encV_len (l := l.take i) (fun x hx => h x (List.mem_of_mem_take hx))
  have h3 : (l.take i).length ≤ l.length := by rw [List.length_take]; omega
  rw [List.length_append]
  omega
/-- What putList has told of i values. -/
def ListTo (w wr : World) (l : List Nat) (i : Nat) (v : Value) : Prop := Own w.heap.size wr 5 v (cells8 (enc l.length ++ encV (l.take i))) ∧ Mod (fun _ => False) w wr
set_option maxHeartbeats 4000000 in
set_option maxRecDepth 100000 in
theorem putList_any (A : Option Addr) (n cap B : Nat) (l : List Nat) (w : World) (hs : Rds w B A n (cellsU l)) (hB : B ≤ w.heap.size) (hu : ∀ x ∈ l, x < 2 ^ 64) (hn : n ≤ 1000000) :
    Calls Try.prog 22 #[.slice A n cap] w fun e w' => ∃ v, e = .returned v ∧ Own w.heap.size w' 5 v (cells8 (enc l.length ++ encV l)) ∧ Mod (fun _ => False) w w' := by
  have hul : l.length = n := by have := hs.1; rwa [cellsU_length] at this
  have Hs := Lib.hid hs; have Hu := Lib.hid hu; have HB := Lib.hid hB; have Hul := Lib.hid hul
  have hn64 : Hid (Lt64 n) := Lib.hid (by unfold Lt64; omega)
  clear hs hu hB hul
  go_enter Try.func22, Try.ntmps22
  go_wp2_with fail
  refine (vput_any none 0 0 0 [] n w (Rds.nil _ _ _) (by omega) hn64.out).mono ?_
  rintro e w1 ⟨v1, rfl, ho1, hb1⟩
  rw [List.nil_append] at ho1
  have P0 : Hid (ListTo w w1 l 0 v1) := Lib.hid ⟨by rw [Hul.out, List.take_zero]; show Own _ _ _ _ (cells8 (enc n ++ [])); rw [List.append_nil]; exact ho1, mod_below hb1⟩
  clear ho1 hb1
  go_wp2_with fail
  go_loopg [3, 12] n (fun l' s3 s12 wr => ∃ i : Nat, i + l' = n ∧ s12 = .int .i64 (i : Int) ∧ ListTo w wr l i s3)
  case atStart => exact ⟨0, by omega, rfl, P0.out⟩
  case round =>
    obtain ⟨i, hil, rfl, hown, hm⟩ := hrel
    have Hown := Lib.hid hown; have Hm := Lib.hid hm; have Hil := Lib.hid hil
    clear hown hm hil P0
    by_cases hin : i < n
    · obtain ⟨ad, x, rfl, hx, hcx⟩ := Hs.out.at2 hin HB.out Hm.out (fun _ _ h => h)
      have Hx64 : Hid (Lt64 x) := Lib.hid (Hu.out x (List.mem_of_getElem? hx))
      have Htk : Hid (encV (l.take (i + 1)) = encV (l.take i) ++ enc x) := Lib.hid (by rw [take_succ_of hx, encV_snoc])
      have hi0 : (0 : Int) ≤ (i : Int) := by omega
      obtain ⟨A3, L3, c3, rfl, HL3, _, _, hr3⟩ := own_formN8 Hown.out
      have HL9 : Hid (L3 ≤ 1000000000) := Lib.hid (by have h1 := HL3.out; have h2 := encV_small (i := i) Hu.out (by rw [Hul.out]; exact hn); omega)
      have Hr3 := Lib.hid hr3
      clear hx hr3
      go_wp2_with fail
      refine (vput_any A3 L3 c3 _ _ x wr Hr3.out HL9.out Hx64.out).mono ?_
      rintro e w2 ⟨v2, rfl, ho2, hb2⟩
      rw [List.append_assoc, ← Htk.out] at ho2
      have HP : Hid (ListTo w w2 l (i + 1) v2) := Lib.hid ⟨ho2.mono Hm.out.size, Hm.out.trans (mod_below hb2) (fun _ _ h => h)⟩
      clear ho2 hb2
      go_wp2_with fail
      go_roundg (gk - 1)
      case measure => have := Hil.out; omega
      case rel => exact ⟨i + 1, by have := Hil.out; omega, by go_num, HP.out⟩
    · have hi : i = n := by have := Hil.out; omega
      go_wp2_with fail
      go_ret
      have h := Hown.out
      rw [List.take_of_length_le (by rw [Hul.out]; omega)] at h
      exact ⟨_, rfl, h, Hm.out⟩
theorem atD_at {us : List Nat} {i x : Nat} (h : us[i]? = some x) : (atD us)[i]? = some (plc x (uniq us)) := by
  unfold atD
  rw [List.getElem?_map, h]
  rfl
theorem FldTo.drew {w0 w1 wr : World} {g S i : Nat} {l : List Nat} (h : FldTo w0 w1 wr g S l i) : FldTo w0 w1 wr.drew g S l i := by
  obtain ⟨⟨row', a1, a2, a3⟩, a4⟩ := h
  exact ⟨⟨row', a1.mod (Mod.refl (fun _ => False) _).drew (fun h => h) (fun _ _ h => h), a2.drew, a3⟩, a4.drew⟩
set_option maxHeartbeats 4000000 in
set_option maxRecDepth 100000 in
theorem denc_any (A : Option Addr) (n cap B : Nat) (us : List Nat) (w : World) (hs : Rds w B A n (cellsU us)) (hB : B ≤ w.heap.size) (hu : ∀ x ∈ us, x < 2 ^ 64) (hn : n ≤ 1000000) :
    Calls Try.prog 9 #[.slice A n cap] w fun e w' => EncB w w' (encD us) e := by
  have hul : us.length = n := by have := hs.1; rwa [cellsU_length] at this
  by_cases h0 : n = 0
  · subst h0
    obtain rfl := List.eq_nil_of_length_eq_zero hul
    clear hs
    go_enter Try.func9, Try.ntmps9
    go_wp2_with fail
    go_ret2
    rw [encD_nil]
    exact ⟨_, rfl, Own.nil _ _ _, Mod.refl _ _⟩
  · have hne : us ≠ [] := by rintro rfl; exact h0 hul.symm
    have hn0 : ((n : Int) == 0) = false := by simp; omega
    have Hs := Lib.hid hs; have Hu := Lib.hid hu; have HB := Lib.hid hB; have Hul := Lib.hid hul; have Hne := Lib.hid hne
    clear hs hu hB hul hne
    go_enter Try.func9, Try.ntmps9
    go_wp2_with fail
    refine (unlike_any A n cap B us w Hs.out HB.out Hu.out hn).mono ?_
    rintro e w1 ⟨v4, b, nm, D, l, rfl, hb, ho4, hmap, hm1, hl257, hor⟩
    obtain ⟨A4, L, c4, rfl, HL, _, hr4⟩ := own_formUN ho4
    have hL257 : L ≤ 257 := by have := HL.out; omega
    have Hm1 := Lib.hid hm1; have Hr4 := Lib.hid hr4; have Hmap := Lib.hid hmap
    clear hm1 hr4 hmap ho4
    rcases hor with ⟨h1, h2⟩ | ⟨rfl, h1, hplc⟩
    · have hLb : (256 : Int) < (L : Int) := by have := HL.out; omega
      have Hd : Hid (encD us = none) := Lib.hid (encD_many h2)
      clear h1 h2
      go_wp2_with fail
      go_ret2
      rw [Hd.out]
      exact ⟨rfl, Hm1.out⟩
    · have hL256 : L ≤ 256 := by have := HL.out; omega
      have hLb : ¬ (256 : Int) < (L : Int) := by omega
      have hL0 : ¬ L = 0 := by have h := uniq_pos Hne.out; have := HL.out; omega
      obtain ⟨S, hS⟩ : ∃ S, wid (L - 1) = S := ⟨_, rfl⟩
      have hS64 : S ≤ 64 := by rw [← hS]; exact wid_le _
      have Hsize : Hid (∀ W, Calls Try.prog 21 #[.slice A4 L c4] W fun e w' => e = .returned (.int .i64 (S : Int)) ∧ W = w') := Lib.hid (fun W => dsize_any A4 L c4 S W hL0 (by omega) hS)
      have HS := Lib.hid hS; have Hplc := Lib.hid hplc
      have Hat : Hid ((atD us).length = n) := Lib.hid (by rw [atD_len]; exact Hul.out)
      clear h1 hplc hl257 hS hL0
      go_wp2_with fail
      refine (newWriter_wr w1).mono ?_
      rintro e w2 ⟨g, rfl, hg1, hg2, hwr, hm2⟩
      have F0 : Hid (FldTo w1 w2 w2 g S (atD us) 0) := Lib.hid ⟨Wrote.refl hwr, hm2⟩
      have Hg1 := Lib.hid hg1; have Hm2 := Lib.hid hm2
      clear hg1 hg2 hwr hm2 hn0
      go_wp2_with fail
      go_loopg [23] n (fun l s23 wr => ∃ i : Nat, i + l = n ∧ s23 = .int .i64 (i : Int) ∧ FldTo w1 w2 wr g S (atD us) i)
      case atStart => exact ⟨0, by omega, rfl, F0.out⟩
      case round =>
        obtain ⟨i, hil, rfl, hF⟩ := hrel
        have HF := Lib.hid hF; have Hil := Lib.hid hil
        clear hF hil F0
        by_cases hin : i < n
        · obtain ⟨ad, x, rfl, hx, hcx⟩ := Hs.out.at2 hin HB.out (Hm1.out.trans HF.out.2 (fun _ _ h => h)) (fun _ _ h => h)
          have hx64 := Hu.out x (List.mem_of_getElem? hx)
          have hxu : x ∈ uniq us := uniq_mem (List.mem_of_getElem? hx)
          obtain ⟨p, hp⟩ : ∃ p, p = plc x (uniq us) := ⟨_, rfl⟩
          have hpl : p < 256 := by have := plc_lt hxu; rw [hp]; have := HL.out; omega
          have Hp : Hid ((atD us)[i]? = some p) := Lib.hid (by rw [hp]; exact atD_at hx)
          have hi0 : (0 : Int) ≤ (i : Int) := by omega
          obtain ⟨c, hrun, hat, _⟩ := World.ownsMap.lookup_int (Hmap.out.mod HF.out.2.drew (fun h => h)).out lawU Try.underlying44 Try.underlying32 (zeroU _) (keyU hx64)
          obtain rfl : c = (p : Int) := by rw [hp]; exact Hplc.out.look hxu hat
          have Hp64 : Hid (Lt64 p) := Lib.hid (by unfold Lt64; omega)
          clear hx hx64 hxu hp hat
          go_upto_region 10 with fail
          refine wp_region_still_tail 6 (by kernel_rfl) (by kernel_rfl) ?_
          simp only [List.take_succ_cons, List.take_zero, List.drop_succ_cons, List.drop_zero]
          iterate 5 still_step
          still_call ((Hsize.out _).mono (fun _ _ h => ⟨h.1, h.2.symm⟩))
          refine wpStill_nil ?_
          change wpList _ _ _ _ _ wr.drew
          have HFd := Lib.hid HF.out.drew
          clear hrun hcx HF
          generalize wr.drew = W at *
          go_wp2_with fail
          refine (put_wrote w2 g none 0 0 S _ p _ _ W rfl rfl hS64 Hp64.out HFd.out.1 (by have := flds_small (i := i) hS64 (Nat.le_of_eq Hat.out) hn; omega)).mono ?_
          rintro e w3 ⟨rfl, h3⟩
          have HF3 : Hid (FldTo w1 w2 w3 g S (atD us) (i + 1)) := Lib.hid (HFd.out.step Hp.out Hg1.out Hm2.out h3)
          clear h3
          go_wp2_with fail
          go_roundg (gk - 1)
          case measure => have := Hil.out; omega
          case rel => exact ⟨i + 1, by have := Hil.out; omega, by go_num, HF3.out⟩
        · have hi : i = n := by have := Hil.out; omega
          obtain ⟨row, hwr⟩ := HF.out.wr Hat.out hi
          have Hwr := Lib.hid hwr; have Hmr := Lib.hid HF.out.2
          have Hr4' := Lib.hid (Hr4.out.new Hmr.out)
          clear hwr HF hi Hr4
          go_wp2_with fail
          refine (putList_any A4 L c4 _ (uniq us) wr Hr4'.out Hmr.out.size (fun x hx => Hu.out x (uniq_of hx)) (by omega)).mono ?_
          rintro e w3 ⟨v3, rfl, ho3, hm3⟩
          obtain ⟨A3, n3, c3, rfl, Hn3, _, _, _⟩ := own_formN8 ho3
          have hn3 : n3 ≤ 10000010 := by
            have h1 := encV_small (i := L) (l := uniq us) (fun x hx => Hu.out x (uniq_of hx)) (by have := HL.out; omega)
            rw [List.take_of_length_le (by rw [HL.out]; exact Nat.le_refl _)] at h1
            have := Hn3.out
            omega
          have hwr3 : Wr w3 g row (fnum (flds S (atD us))) (flen (flds S (atD us))) := Hwr.out.mod hm3 (fun h => h) (fun _ _ h => h)
          have Ho3 := Lib.hid ho3; have Hwr3 := Lib.hid hwr3; have Hm3 := Lib.hid hm3
          clear ho3 hwr3 hm3
          go_wp2_with fail
          refine (bytes_any g row _ _ w3 Hwr3.out (by have := flds_small (i := n) (l := atD us) hS64 (Nat.le_of_eq Hat.out) hn; rw [List.take_of_length_le (by rw [Hat.out]; exact Nat.le_refl _)] at this; omega)).mono ?_
          rintro e w4 ⟨v4', bs, rfl, hnew, hpk⟩
          obtain ⟨A5, c5, rfl, hr5, hm4⟩ := hnew.rds
          obtain rfl := hpk.packW
          have Hr5 := Lib.hid hr5; have Ho4 := Lib.hid (Ho3.out.mod hm4); have Hm4 := Lib.hid (((Hm1.out.trans Hmr.out (fun _ _ h => h)).trans Hm3.out (fun _ _ h => h)).trans hm4 (fun _ _ h => h))
          have hpl : (packW S (atD us)).length ≤ 8000001 := by rw [packW_len, Hat.out]; have := Nat.mul_le_mul hS64 hn; omega
          have Hone : Hid (∀ u ∈ cells8 (packW S (atD us)), u.oneCell' = true) := Lib.hid (cells8_one _)
          have hR4 : Room (cells8 (enc (uniq us).length ++ encV (uniq us))).length (packW S (atD us)).length := Room.mk _ _ (by rw [cells8_length, Hn3.out]; omega)
          have HR4 := Lib.hid hR4
          have hsz4 : wr.heap.size ≤ w4.heap.size := Nat.le_trans Hm3.out.size hm4.size
          clear hnew hpk hr5 hm4 hR4 hpl
          go_wp2_with (at_builtin; refine wpList_app rfl (.tmp 36) (.tmp 38) _ rfl elt8 rfl Ho4.out rfl Hr5.out Hone.out HR4.out.1 HR4.out.2 hsz4 ?_; intro v5 w5 HO5 HBl5 HG5; clear HG5)
          go_ret2
          have ho5 := HO5.out
          rw [cells8_app, List.append_assoc] at ho5
          rw [encD_cons Hne.out (by rw [HL.out]; omega), HL.out, HS.out]
          rw [HL.out] at ho5
          have hwsz : w.heap.size ≤ wr.heap.size := Nat.le_trans Hm1.out.size Hmr.out.size
          exact ⟨_, rfl, ho5.mono hwsz, Hm4.out.trans (Mod.of_below HBl5.out) (fun i hi h => by omega)⟩
end Go.Proofs.Ytldjobaafambbaa

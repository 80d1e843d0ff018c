/- The texts De, Df, one behind the other. -/
import Derived.Test.YtldjobaafambbaaMg8
import Derived.Test.YtldjobaafambbaaMg17
import Derived.Test.YtldjobaafambbaaMg19
import Derived.StillTailTactics
import Derived.Test.YtldjobaafambbaaMg4
import Derived.Test.YtldjobaafambbaaMg7
/- Values are told by a list of those that are unlike: putList, Encode. -/
namespace Go.Proofs.Ytldjobaafambbaa
open Go.RowKit Go.Maps

theorem encV_snoc (l : List Nat) (x : Nat) : encV (l ++ [x]) = encV l ++ enc x := by
  rw [encV_app]
  show encV l ++ (enc x ++ []) = _
  rw [List.append_nil]
theorem encV_small {l : List Nat} {i : Nat} (h : ∀ x ∈ l, x < 2 ^ 64) (hl : l.length ≤ 1000000) : (enc l.length ++ encV (l.take i)).length ≤ 10000010 := by
  have h1 := enc_len10 (u := l.length) (by omega)
  have h2 := encV_len (l := l.take i) (fun x hx => h x (List.mem_of_mem_take hx))
  have h3 : (l.take i).length ≤ l.length := by rw [List.length_take]; omega
  rw [List.length_append]
  omega
/-- What putList has told of i values. -/
def ListTo (w wr : World) (l : List Nat) (i : Nat) (v : Value) : Prop := Own w.heap.size wr 5 v (cells8 (enc l.length ++ encV (l.take i))) ∧ Mod (fun _ => False) w wr
set_option maxHeartbeats 4000000 in
set_option maxRecDepth 100000 in
theorem putList_any (A : Option Addr) (n cap B : Nat) (l : List Nat) (w : World) (hs : Rds w B A n (cellsU l)) (hB : B ≤ w.heap.size) (hu : ∀ x ∈ l, x < 2 ^ 64) (hn : n ≤ 1000000) :
    Calls Try.prog 22 #[.slice A n cap] w fun e w' => ∃ v, e = .returned v ∧ Own w.heap.size w' 5 v (cells8 (enc l.length ++ encV l)) ∧ Mod (fun _ => False) w w' := by
  have hul : l.length = n := by have := hs.1; rwa [cellsU_length] at this
  have Hs := Lib.hid hs; have Hu := Lib.hid hu; have HB := Lib.hid hB; have Hul := Lib.hid hul
  have hn64 : Hid (Lt64 n) := Lib.hid (by unfold Lt64; omega)
  clear hs hu hB hul
  go_enter Try.func22, Try.ntmps22
  go_wp2_with fail
  refine (vput_any none 0 0 0 [] n w (Rds.nil _ _ _) (by omega) hn64.out).mono ?_
  rintro e w1 ⟨v1, rfl, ho1, hb1⟩
  rw [List.nil_append] at ho1
  have P0 : Hid (ListTo w w1 l 0 v1) := Lib.hid ⟨by rw [Hul.out, List.take_zero]; show Own _ _ _ _ (cells8 (enc n ++ [])); rw [List.append_nil]; exact ho1, mod_below hb1⟩
  clear ho1 hb1
  go_wp2_with fail
  go_loopg [3, 12] n (fun l' s3 s12 wr => ∃ i : Nat, i + l' = n ∧ s12 = .int .i64 (i : Int) ∧ ListTo w wr l i s3)
  case atStart => exact ⟨0, by omega, rfl, P0.out⟩
  case round =>
    obtain ⟨i, hil, rfl, hown, hm⟩ := hrel
    have Hown := Lib.hid hown; have Hm := Lib.hid hm; have Hil := Lib.hid hil
    clear hown hm hil P0
    by_cases hin : i < n
    · obtain ⟨ad, x, rfl, hx, hcx⟩ := Hs.out.at2 hin HB.out Hm.out (fun _ _ h => h)
      have Hx64 : Hid (Lt64 x) := Lib.hid (Hu.out x (List.mem_of_getElem? hx))
      have Htk : Hid (encV (l.take (i + 1)) = encV (l.take i) ++ enc x) := Lib.hid (by rw [take_succ_of hx, encV_snoc])
      have hi0 : (0 : Int) ≤ (i : Int) := by omega
      obtain ⟨A3, L3, c3, rfl, HL3, _, _, hr3⟩ := own_formN8 Hown.out
      have HL9 : Hid (L3 ≤ 1000000000) := Lib.hid (by have h1 := HL3.out; have h2 := encV_small (i := i) Hu.out (by rw [Hul.out]; exact hn); omega)
      have Hr3 := Lib.hid hr3
      clear hx hr3
      go_wp2_with fail
      refine (vput_any A3 L3 c3 _ _ x wr Hr3.out HL9.out Hx64.out).mono ?_
      rintro e w2 ⟨v2, rfl, ho2, hb2⟩
      rw [List.append_assoc, ← Htk.out] at ho2
      have HP : Hid (ListTo w w2 l (i + 1) v2) := Lib.hid ⟨ho2.mono Hm.out.size, Hm.out.trans (mod_below hb2) (fun _ _ h => h)⟩
      clear ho2 hb2
      go_wp2_with fail
      go_roundg (gk - 1)
      case measure => have := Hil.out; omega
      case rel => exact ⟨i + 1, by have := Hil.out; omega, by go_num, HP.out⟩
    · have hi : i = n := by have := Hil.out; omega
      go_wp2_with fail
      go_ret
      have h := Hown.out
      rw [List.take_of_length_le (by rw [Hul.out]; omega)] at h
      exact ⟨_, rfl, h, Hm.out⟩
theorem atD_at {us : List Nat} {i x : Nat} (h : us[i]? = some x) : (atD us)[i]? = some (plc x (uniq us)) := by
  unfold atD
  rw [List.getElem?_map, h]
  rfl
theorem FldTo.drew {w0 w1 wr : World} {g S i : Nat} {l : List Nat} (h : FldTo w0 w1 wr g S l i) : FldTo w0 w1 wr.drew g S l i := by
  obtain ⟨⟨row', a1, a2, a3⟩, a4⟩ := h
  exact ⟨⟨row', a1.mod (Mod.refl (fun _ => False) _).drew (fun h => h) (fun _ _ h => h), a2.drew, a3⟩, a4.drew⟩
set_option maxHeartbeats 4000000 in
set_option maxRecDepth 100000 in
theorem denc_any (A : Option Addr) (n cap B : Nat) (us : List Nat) (w : World) (hs : Rds w B A n (cellsU us)) (hB : B ≤ w.heap.size) (hu : ∀ x ∈ us, x < 2 ^ 64) (hn : n ≤ 1000000) :
    Calls Try.prog 9 #[.slice A n cap] w fun e w' => EncB w w' (encD us) e := by
  have hul : us.length = n := by have := hs.1; rwa [cellsU_length] at this
  by_cases h0 : n = 0
  · subst h0
    obtain rfl := List.eq_nil_of_length_eq_zero hul
    clear hs
    go_enter Try.func9, Try.ntmps9
    go_wp2_with fail
    go_ret2
    rw [encD_nil]
    exact ⟨_, rfl, Own.nil _ _ _, Mod.refl _ _⟩
  · have hne : us ≠ [] := by rintro rfl; exact h0 hul.symm
    have hn0 : ((n : Int) == 0) = false := by simp; omega
    have Hs := Lib.hid hs; have Hu := Lib.hid hu; have HB := Lib.hid hB; have Hul := Lib.hid hul; have Hne := Lib.hid hne
    clear hs hu hB hul hne
    go_enter Try.func9, Try.ntmps9
    go_wp2_with fail
    refine (unlike_any A n cap B us w Hs.out HB.out Hu.out hn).mono ?_
    rintro e w1 ⟨v4, b, nm, D, l, rfl, hb, ho4, hmap, hm1, hl257, hor⟩
    obtain ⟨A4, L, c4, rfl, HL, _, hr4⟩ := own_formUN ho4
    have hL257 : L ≤ 257 := by have := HL.out; omega
    have Hm1 := Lib.hid hm1; have Hr4 := Lib.hid hr4; have Hmap := Lib.hid hmap
    clear hm1 hr4 hmap ho4
    rcases hor with ⟨h1, h2⟩ | ⟨rfl, h1, hplc⟩
    · have hLb : (256 : Int) < (L : Int) := by have := HL.out; omega
      have Hd : Hid (encD us = none) := Lib.hid (encD_many h2)
      clear h1 h2
      go_wp2_with fail
      go_ret2
      rw [Hd.out]
      exact ⟨rfl, Hm1.out⟩
    · have hL256 : L ≤ 256 := by have := HL.out; omega
      have hLb : ¬ (256 : Int) < (L : Int) := by omega
      have hL0 : ¬ L = 0 := by have h := uniq_pos Hne.out; have := HL.out; omega
      obtain ⟨S, hS⟩ : ∃ S, wid (L - 1) = S := ⟨_, rfl⟩
      have hS64 : S ≤ 64 := by rw [← hS]; exact wid_le _
      have Hsize : Hid (∀ W, Calls Try.prog 21 #[.slice A4 L c4] W fun e w' => e = .returned (.int .i64 (S : Int)) ∧ W = w') := Lib.hid (fun W => dsize_any A4 L c4 S W hL0 (by omega) hS)
      have HS := Lib.hid hS; have Hplc := Lib.hid hplc
      have Hat : Hid ((atD us).length = n) := Lib.hid (by rw [atD_len]; exact Hul.out)
      clear h1 hplc hl257 hS hL0
      go_wp2_with fail
      refine (newWriter_wr w1).mono ?_
      rintro e w2 ⟨g, rfl, hg1, hg2, hwr, hm2⟩
      have F0 : Hid (FldTo w1 w2 w2 g S (atD us) 0) := Lib.hid ⟨Wrote.refl hwr, hm2⟩
      have Hg1 := Lib.hid hg1; have Hm2 := Lib.hid hm2
      clear hg1 hg2 hwr hm2 hn0
      go_wp2_with fail
      go_loopg [23] n (fun l s23 wr => ∃ i : Nat, i + l = n ∧ s23 = .int .i64 (i : Int) ∧ FldTo w1 w2 wr g S (atD us) i)
      case atStart => exact ⟨0, by omega, rfl, F0.out⟩
      case round =>
        obtain ⟨i, hil, rfl, hF⟩ := hrel
        have HF := Lib.hid hF; have Hil := Lib.hid hil
        clear hF hil F0
        by_cases hin : i < n
        · obtain ⟨ad, x, rfl, hx, hcx⟩ := Hs.out.at2 hin HB.out (Hm1.out.trans HF.out.2 (fun _ _ h => h)) (fun _ _ h => h)
          have hx64 := Hu.out x (List.mem_of_getElem? hx)
          have hxu : x ∈ uniq us := uniq_mem (List.mem_of_getElem? hx)
          obtain ⟨p, hp⟩ : ∃ p, p = plc x (uniq us) := ⟨_, rfl⟩
          have hpl : p < 256 := by have := plc_lt hxu; rw [hp]; have := HL.out; omega
          have Hp : Hid ((atD us)[i]? = some p) := Lib.hid (by rw [hp]; exact atD_at hx)
          have hi0 : (0 : Int) ≤ (i : Int) := by omega
          obtain ⟨c, hrun, hat, _⟩ := World.ownsMap.lookup_int (Hmap.out.mod HF.out.2.drew (fun h => h)).out lawU Try.underlying44 Try.underlying32 (zeroU _) (keyU hx64)
          obtain rfl : c = (p : Int) := by rw [hp]; exact Hplc.out.look hxu hat
          have Hp64 : Hid (Lt64 p) := Lib.hid (by unfold Lt64; omega)
          clear hx hx64 hxu hp hat
          go_upto_region 10 with fail
          refine wp_region_still_tail 6 (by kernel_rfl) (by kernel_rfl) ?_
          simp only [List.take_succ_cons, List.take_zero, List.drop_succ_cons, List.drop_zero]
          iterate 5 still_step
          still_call ((Hsize.out _).mono (fun _ _ h => ⟨h.1, h.2.symm⟩))
          refine wpStill_nil ?_
          change wpList _ _ _ _ _ wr.drew
          have HFd := Lib.hid HF.out.drew
          clear hrun hcx HF
          generalize wr.drew = W at *
          go_wp2_with fail
          refine (put_wrote w2 g none 0 0 S _ p _ _ W rfl rfl hS64 Hp64.out HFd.out.1 (by have := flds_small (i := i) hS64 (Nat.le_of_eq Hat.out) hn; omega)).mono ?_
          rintro e w3 ⟨rfl, h3⟩
          have HF3 : Hid (FldTo w1 w2 w3 g S (atD us) (i + 1)) := Lib.hid (HFd.out.step Hp.out Hg1.out Hm2.out h3)
          clear h3
          go_wp2_with fail
          go_roundg (gk - 1)
          case measure => have := Hil.out; omega
          case rel => exact ⟨i + 1, by have := Hil.out; omega, by go_num, HF3.out⟩
        · have hi : i = n := by have := Hil.out; omega
          obtain ⟨row, hwr⟩ := HF.out.wr Hat.out hi
          have Hwr := Lib.hid hwr; have Hmr := Lib.hid HF.out.2
          have Hr4' := Lib.hid (Hr4.out.new Hmr.out)
          clear hwr HF hi Hr4
          go_wp2_with fail
          refine (putList_any A4 L c4 _ (uniq us) wr Hr4'.out Hmr.out.size (fun x hx => Hu.out x (uniq_of hx)) (by omega)).mono ?_
          rintro e w3 ⟨v3, rfl, ho3, hm3⟩
          obtain ⟨A3, n3, c3, rfl, Hn3, _, _, _⟩ := own_formN8 ho3
          have hn3 : n3 ≤ 10000010 := by
            have h1 := encV_small (i := L) (l := uniq us) (fun x hx => Hu.out x (uniq_of hx)) (by have := HL.out; omega)
            rw [List.take_of_length_le (by rw [HL.out]; exact Nat.le_refl _)] at h1
            have := Hn3.out
            omega
          have hwr3 : Wr w3 g row (fnum (flds S (atD us))) (flen (flds S (atD us))) := Hwr.out.mod hm3 (fun h => h) (fun _ _ h => h)
          have Ho3 := Lib.hid ho3; have Hwr3 := Lib.hid hwr3; have Hm3 := Lib.hid hm3
          clear ho3 hwr3 hm3
          go_wp2_with fail
          refine (bytes_any g row _ _ w3 Hwr3.out (by have := flds_small (i := n) (l := atD us) hS64 (Nat.le_of_eq Hat.out) hn; rw [List.take_of_length_le (by rw [Hat.out]; exact Nat.le_refl _)] at this; omega)).mono ?_
          rintro e w4 ⟨v4', bs, rfl, hnew, hpk⟩
          obtain ⟨A5, c5, rfl, hr5, hm4⟩ := hnew.rds
          obtain rfl := hpk.packW
          have Hr5 := Lib.hid hr5; have Ho4 := Lib.hid (Ho3.out.mod hm4); have Hm4 := Lib.hid (((Hm1.out.trans Hmr.out (fun _ _ h => h)).trans Hm3.out (fun _ _ h => h)).trans hm4 (fun _ _ h => h))
          have hpl : (packW S (atD us)).length ≤ 8000001 := by rw [packW_len, Hat.out]; have := Nat.mul_le_mul hS64 hn; omega
          have Hone : Hid (∀ u ∈ cells8 (packW S (atD us)), u.oneCell' = true) := Lib.hid (cells8_one _)
          have hR4 : Room (cells8 (enc (uniq us).length ++ encV (uniq us))).length (packW S (atD us)).length := Room.mk _ _ (by rw [cells8_length, Hn3.out]; omega)
          have HR4 := Lib.hid hR4
          have hsz4 : wr.heap.size ≤ w4.heap.size := Nat.le_trans Hm3.out.size hm4.size
          clear hnew hpk hr5 hm4 hR4 hpl
          go_wp2_with (at_builtin; refine wpList_app rfl (.tmp 36) (.tmp 38) _ rfl elt8 rfl Ho4.out rfl Hr5.out Hone.out HR4.out.1 HR4.out.2 hsz4 ?_; intro v5 w5 HO5 HBl5 HG5; clear HG5)
          go_ret2
          have ho5 := HO5.out
          rw [cells8_app, List.append_assoc] at ho5
          rw [encD_cons Hne.out (by rw [HL.out]; omega), HL.out, HS.out]
          rw [HL.out] at ho5
          have hwsz : w.heap.size ≤ wr.heap.size := Nat.le_trans Hm1.out.size Hmr.out.size
          exact ⟨_, rfl, ho5.mono hwsz, Hm4.out.trans (Mod.of_below HBl5.out) (fun i hi h => by omega)⟩
end Go.Proofs.Ytldjobaafambbaa

/- The document's own answer: a value's place, and values told by a list. -/
namespace Go.Proofs.Ytldjobaafambbaa
open Go.RowKit Go.Maps

/-- What place tells. -/
def plcI (x : Nat) (l : List Nat) : Int := if x ∈ l then (plc x l : Int) else -1
theorem plcI_in {x : Nat} {l : List Nat} (h : x ∈ l) : plcI x l = (plc x l : Int) := if_pos h
theorem plcI_out {x : Nat} {l : List Nat} (h : x ∉ l) : plcI x l = -1 := if_neg h
set_option maxHeartbeats 1000000 in
set_option maxRecDepth 100000 in
theorem place_any (A : Option Addr) (n c B x : Nat) (l : List Nat) (w : World) (hs : Rds w B A n (cellsU l)) (hB : B ≤ w.heap.size) (hn : n ≤ 1000000) :
    Calls Try.prog 24 #[.slice A n c, .int .u64 (x : Int)] w fun e w' => e = .returned (.int .i64 (plcI x l)) ∧ w = w' := by
  have hul : l.length = n := by have := hs.1; rwa [cellsU_length] at this
  have Hs := Lib.hid hs; have HB := Lib.hid hB; have Hul := Lib.hid hul
  clear hs hB hul
  go_enter Try.func24, Try.ntmps24
  go_wp2_with fail
  go_loopg [5] n (fun l' s5 wr => ∃ i : Nat, i + l' = n ∧ s5 = .int .i64 (i : Int) ∧ (∀ j, j < i → l[j]? ≠ some x) ∧ w = wr)
  case atStart => exact ⟨0, by omega, rfl, (fun _ h => absurd h (Nat.not_lt_zero _)), rfl⟩
  case round =>
    obtain ⟨i, hil, rfl, hno, rfl⟩ := hrel
    have Hil := Lib.hid hil; have Hno := Lib.hid hno
    clear hil hno
    by_cases hin : i < n
    · obtain ⟨ad, y, rfl, hy, hcy⟩ := Hs.out.at2 hin HB.out (Mod.refl (fun _ => False) w) (fun _ _ h => h)
      have hi0 : (0 : Int) ≤ (i : Int) := by omega
      by_cases hyx : y = x
      · subst hyx
        have Hp : Hid (plcI y l = (i : Int)) := Lib.hid (by rw [plcI_in (List.mem_of_getElem? hy), plc_is hy Hno.out])
        clear hy
        go_wp2_with fail
        go_ret
        rw [Hp.out]
        exact ⟨rfl, rfl⟩
      · have hyb : ((y : Int) == (x : Int)) = false := by simp; omega
        have Hno2 : Hid (∀ j, j < i + 1 → l[j]? ≠ some x) := Lib.hid (fun j hj e => by
          rcases Nat.lt_or_ge j i with h | h
          · exact Hno.out j h e
          · obtain rfl : j = i := by omega
            rw [hy] at e
            injection e with e
            exact hyx e)
        clear hy hyx
        go_wp2_with fail
        go_roundg (gk - 1)
        case measure => have := Hil.out; omega
        case rel => exact ⟨i + 1, by have := Hil.out; omega, by go_num, Hno2.out, rfl⟩
    · have hi : i = n := by have := Hil.out; omega
      have Hp : Hid (plcI x l = -1) := Lib.hid (plcI_out (fun h => by
        obtain ⟨j, hj⟩ := List.mem_iff_getElem?.1 h
        have := (List.getElem?_eq_some_iff.1 hj).1
        exact Hno.out j (by rw [hi, ← Hul.out]; exact this) hj))
      go_wp2_with fail
      go_ret
      rw [Hp.out]
      exact ⟨rfl, rfl⟩
theorem uniq_keep {v : List Nat} {x : Nat} : ∃ t, uniq (v ++ [x]) = uniq v ++ t := uniq_app v [x]
/-- A value more: each has its place as it had. -/
theorem atD_step (v : List Nat) (x : Nat) : atD (v ++ [x]) = atD v ++ [plc x (uniq (v ++ [x]))] := by
  obtain ⟨t, ht⟩ := uniq_keep (v := v) (x := x)
  unfold atD
  rw [List.map_append]
  congr 1
  apply List.map_congr_left
  intro y hy
  rw [ht, plc_app (uniq_mem hy)]
/-- What Dict has made of i values. -/
def RDTo (w wr : World) (us : List Nat) (i : Nat) (v u : Value) : Prop :=
  Own w.heap.size wr 32 v (cellsU (uniq (us.take i))) ∧ Own w.heap.size wr 32 u (cellsU (atD (us.take i))) ∧ Twain v u ∧ (uniq (us.take i)).length ≤ 256 ∧ Mod (fun _ => False) w wr
set_option maxHeartbeats 4000000 in
set_option maxRecDepth 100000 in
theorem rdenc_any (A : Option Addr) (n cap B : Nat) (us : List Nat) (w : World) (hs : Rds w B A n (cellsU us)) (hB : B ≤ w.heap.size) (hu : ∀ x ∈ us, x < 2 ^ 64) (hn : n ≤ 1000000) :
    Calls Try.prog 14 #[.slice A n cap] w fun e w' => EncB w w' (encD us) e := by
  have hul : us.length = n := by have := hs.1; rwa [cellsU_length] at this
  have R0 : Hid (RDTo w w us 0 (.slice none 0 0) (.slice none 0 0)) := Lib.hid ⟨Own.nil _ _ _, Own.nil _ _ _, (fun _ h => by cases h), Nat.zero_le _, Mod.refl _ _⟩
  have Hs := Lib.hid hs; have Hu := Lib.hid hu; have HB := Lib.hid hB; have Hul := Lib.hid hul
  clear hs hu hB hul
  go_enter Try.func14, Try.ntmps14
  go_wp2_with fail
  go_loopg [4, 5, 6] n (fun l s4 s5 s6 wr => ∃ i : Nat, i + l = n ∧ s6 = .int .i64 (i : Int) ∧ RDTo w wr us i s4 s5)
  case atStart => exact ⟨0, by omega, rfl, R0.out⟩
  case round =>
    obtain ⟨i, hil, rfl, hown4, hown5, htw, hlen, hm⟩ := hrel
    obtain ⟨A4, L, c4, rfl, HL, _, hr4⟩ := own_formUN hown4
    have H4 := Lib.hid hown4; have H5 := Lib.hid hown5; have Htw := Lib.hid htw; have Hm := Lib.hid hm; have Hil := Lib.hid hil; have Hr4 := Lib.hid hr4
    have hL256 : L ≤ 256 := by have := HL.out; omega
    clear hown4 hown5 htw hm hil hr4 R0 hlen
    by_cases hin : i < n
    · obtain ⟨ad, x, rfl, hx, hcx⟩ := Hs.out.at2 hin HB.out Hm.out (fun _ _ h => h)
      have Hcell : Hid (∀ W, Mod (fun _ => False) w W → W.cell? (ad.add i) = some (.int .u64 (x : Int))) := Lib.hid (fun W hW => by
        obtain ⟨ad', x', e, hx', hc⟩ := Hs.out.at2 hin HB.out hW (fun _ _ h => h)
        injection e with e
        subst e
        rw [hx] at hx'
        injection hx' with hx'
        subst hx'
        exact hc)
      have Htk := Lib.hid (take_succ_of hx)
      have Hat : Hid (atD (us.take (i + 1)) = atD (us.take i) ++ [plc x (uniq (us.take (i + 1)))]) := Lib.hid (by rw [Htk.out, atD_step])
      have hi0 : (0 : Int) ≤ (i : Int) := by omega
      have hini : (i : Int) < (n : Int) := by omega
      have hatl : (atD (us.take i)).length ≤ 1000000 := by rw [atD_len, List.length_take]; omega
      have hr3 : (cellsU (atD (us.take i))).length + 1 ≤ maxLen := by rw [cellsU_length]; unfold maxLen; omega
      have hr4 : ((cellsU (atD (us.take i))).length + 1) * 8 ≤ 140737488355328 := by rw [cellsU_length]; omega
      have Hr3 := Lib.hid hr3; have Hr34 := Lib.hid hr4
      clear hx hatl hr3 hr4
      by_cases hin2 : x ∈ uniq (us.take i)
      · have Hq : Hid (uniq (us.take (i + 1)) = uniq (us.take i)) := Lib.hid (by rw [Htk.out, uniq_snoc, if_pos hin2])
        obtain ⟨p, hp⟩ : ∃ p, plc x (uniq (us.take i)) = p := ⟨_, rfl⟩
        have hp256 : p < 256 := by have h := plc_lt hin2; have := HL.out; omega
        have Hpl : Hid (plcI x (uniq (us.take i)) = (p : Int)) := Lib.hid (by rw [plcI_in hin2, hp])
        have Hp2 : Hid (plc x (uniq (us.take (i + 1))) = p) := Lib.hid (by rw [Hq.out]; exact hp)
        have Hplace := Lib.hid (place_any A4 L c4 _ x (uniq (us.take i)) wr Hr4.out (Nat.le_refl _) (by omega))
        have hp0 : ¬ (p : Int) < 0 := by omega
        have hsz := Hm.out.size
        have hLb : ¬ (256 : Int) < (L : Int) := by omega
        clear hin2 hp
        go_wp2_with fail
        refine Hplace.out.mono ?_
        rintro e w1 ⟨rfl, rfl⟩
        rw [Hpl.out]
        go_wp2_with fail
        refine Hplace.out.mono ?_
        rintro e w1 ⟨rfl, rfl⟩
        rw [Hpl.out]
        go_wp2_with (at_builtin; refine wpList_app1g rfl (.tmp 29) (.tmp 37) _ rfl eltU rfl H5.out rfl rfl rfl Hr3.out Hr34.out hsz ?_; intro v5 w5 HO5 HB5 HG5)
        have HR : Hid (RDTo w w5 us (i + 1) (.slice A4 L c4) v5) := Lib.hid ⟨by rw [Hq.out]; exact HG5.out.1.owns H4.out (fun k hk e => Htw.out k hk e), by rw [Hat.out, cellsU_snoc, Hp2.out]; exact HO5.out, (Htw.out.symm.step H4.out HG5.out.2).symm, by rw [Hq.out, HL.out]; exact hL256, Hm.out.trans (Mod.of_below HB5.out) (fun i hi h => by omega)⟩
        clear HO5 HB5 HG5
        go_roundg (gk - 1)
        case measure => have := Hil.out; omega
        case rel => exact ⟨i + 1, by have := Hil.out; omega, by go_num, HR.out⟩
      · have Hq : Hid (uniq (us.take (i + 1)) = uniq (us.take i) ++ [x]) := Lib.hid (by rw [Htk.out, uniq_snoc, if_neg hin2])
        have hxm : x ∈ uniq (us.take (i + 1)) := by rw [Hq.out]; simp
        have Hp2 : Hid (plc x (uniq (us.take (i + 1))) = L) := Lib.hid (by
          rw [Hq.out]
          refine plc_is (by rw [List.getElem?_append_right (by rw [HL.out]; exact Nat.le_refl _), HL.out, Nat.sub_self]; rfl) fun j hj => ?_
          rw [List.getElem?_append_left (by rw [HL.out]; exact hj)]
          exact fun e => hin2 (List.mem_of_getElem? e))
        have Hpl : Hid (plcI x (uniq (us.take i)) = -1) := Lib.hid (plcI_out hin2)
        have Hpl2 : Hid (plcI x (uniq (us.take (i + 1))) = (L : Int)) := Lib.hid (by rw [plcI_in hxm, Hp2.out])
        have Hplace := Lib.hid (place_any A4 L c4 _ x (uniq (us.take i)) wr Hr4.out (Nat.le_refl _) (by omega))
        have HL' : Hid (∀ L', (uniq (us.take (i + 1))).length = L' → L' = L + 1) := Lib.hid (fun L' h => by rw [Hq.out, List.length_append, HL.out] at h; exact h.symm)
        have Hmono : Hid ((uniq (us.take (i + 1))).length ≤ (uniq us).length) := Lib.hid (uniq_take_le us (i + 1))
        have hr1 : (cellsU (uniq (us.take i))).length + 1 ≤ maxLen := by rw [cellsU_length, HL.out]; unfold maxLen; omega
        have hr2 : ((cellsU (uniq (us.take i))).length + 1) * 8 ≤ 140737488355328 := by rw [cellsU_length, HL.out]; omega
        have Hr1 := Lib.hid hr1; have Hr2 := Lib.hid hr2
        have hsz := Hm.out.size
        clear hin2 hxm hr1 hr2
        go_wp2_with fail
        refine Hplace.out.mono ?_
        rintro e w1 ⟨rfl, rfl⟩
        rw [Hpl.out]
        go_wp2_with (at_builtin; refine wpList_app1g rfl (.tmp 22) (.tmp 27) _ rfl eltU rfl H4.out rfl rfl rfl Hr1.out Hr2.out hsz ?_; intro v4 w4 HO4 HB4 HG4; have Hm4 := Lib.hid (Hm.out.trans (Mod.of_below HB4.out) (fun i hi h => by omega)); have H5a : Hid (Own w.heap.size w4 32 u5 (cellsU (atD (us.take i)))) := Lib.hid (HG4.out.1.owns H5.out (fun k hk e => Htw.out.symm k hk e)); have Htw4 := Lib.hid (Htw.out.step H5.out HG4.out.2); have H4' : Hid (Own w.heap.size w4 32 v4 (cellsU (uniq (us.take (i + 1))))) := Lib.hid (by rw [Hq.out, cellsU_snoc]; exact HO4.out); clear HO4 HB4 HG4; obtain ⟨A6, L6, c6, rfl, HL6, _, hr6⟩ := own_formUN H4'.out; obtain rfl := HL'.out L6 HL6.out; have Hplace4 := Lib.hid (place_any A6 (L + 1) c6 _ x (uniq (us.take (i + 1))) w4 hr6 (Nat.le_refl _) (by omega)); clear hr6; have hcx4 := Hcell.out _ Hm4.out; have hsz4 : w.heap.size ≤ w4.heap.size := Hm4.out.size)
        refine Hplace4.out.mono ?_
        rintro e w1 ⟨rfl, rfl⟩
        rw [Hpl2.out]
        go_wp2_with (at_builtin; refine wpList_app1g rfl (.tmp 29) (.tmp 37) _ rfl eltU rfl H5a.out rfl rfl rfl Hr3.out Hr34.out hsz4 ?_; intro v5 w5 HO5 HB5 HG5)
        · have Hd : Hid (encD us = none) := Lib.hid (encD_many (by have := Hmono.out; have := HL6.out; omega))
          have Hm5 := Lib.hid (Hm4.out.trans (Mod.of_below HB5.out) (fun i hi h => by omega))
          go_ret2
          rw [Hd.out]
          exact ⟨rfl, Hm5.out⟩
        · have HR : Hid (RDTo w w5 us (i + 1) (.slice A6 (L + 1) c6) v5) := Lib.hid ⟨HG5.out.1.owns H4'.out (fun k hk e => Htw4.out k hk e), by rw [Hat.out, cellsU_snoc, Hp2.out]; exact HO5.out, (Htw4.out.symm.step H4'.out HG5.out.2).symm, by rw [HL6.out]; omega, Hm4.out.trans (Mod.of_below HB5.out) (fun i hi h => by omega)⟩
          clear HO5 HB5 HG5
          go_roundg (gk - 1)
          case measure => have := Hil.out; omega
          case rel => exact ⟨i + 1, by have := Hil.out; omega, by go_num, HR.out⟩
    · have hi : i = n := by have := Hil.out; omega
      obtain ⟨A5, m5, c5, rfl, HL5, _, hr5⟩ := own_formUN H5.out
      have htk : us.take i = us := List.take_of_length_le (by rw [Hul.out]; omega)
      rw [htk] at HL HL5 hr5
      have hr4 := Hr4.out
      rw [htk] at hr4
      obtain rfl : m5 = n := by have := HL5.out; rw [atD_len, Hul.out] at this; exact this.symm
      have Hr5 := Lib.hid hr5; have Hr4' := Lib.hid hr4
      clear hr5 hr4 htk H4 H5 Htw Hr4 hin
      by_cases h0 : m5 = 0
      · have hn0 : ((m5 : Int) == 0) = true := by simp; omega
        have Hd : Hid (encD us = some []) := Lib.hid (by
          have e : us = [] := List.eq_nil_of_length_eq_zero (by rw [Hul.out]; exact h0)
          rw [e]
          exact encD_nil)
        clear h0
        go_wp2_with fail
        go_ret2
        rw [Hd.out]
        exact ⟨_, rfl, Own.nil _ _ _, Hm.out⟩
      · have hn0 : ((m5 : Int) == 0) = false := by simp; omega
        have Hne : Hid (us ≠ []) := Lib.hid (by rintro rfl; exact h0 Hul.out.symm)
        have hL0 : ¬ L = 0 := by have h := uniq_pos Hne.out; have := HL.out; omega
        have hL64 : Hid (Lt64 L) := Lib.hid (by unfold Lt64; omega)
        obtain ⟨S, hS⟩ : ∃ S, wid (L - 1) = S := ⟨_, rfl⟩
        have hS64 : S ≤ 64 := by rw [← hS]; exact wid_le _
        obtain ⟨y, hy⟩ : ∃ y, y = L - 1 := ⟨_, rfl⟩
        have hyi : (L : Int) - 1 = (y : Int) := by omega
        have hyL : y ≤ 1000000 := by omega
        have Hwid : Hid (∀ W, Calls Try.prog 26 #[.int .u64 (y : Int)] W fun e w' => e = .returned (.int .i64 (S : Int)) ∧ W = w') := Lib.hid (fun W => rwidth_any y S W (by unfold Lt64; omega) (by rw [hy]; exact hS))
        have HS := Lib.hid hS
        have Hu2 : Hid (∀ x ∈ uniq us, x < 2 ^ 64) := Lib.hid (fun x hx => Hu.out x (uniq_of hx))
        have Hat2 : Hid (∀ x ∈ atD us, x < 2 ^ 64) := Lib.hid (fun x hx => by
          obtain ⟨z, hz, rfl⟩ := List.mem_map.1 hx
          have := plc_lt (uniq_mem hz)
          have := HL.out
          omega)
        clear h0 hL0 hS hy
        go_wp2_with fail
        refine (vrput_any none 0 0 0 [] L wr (Rds.nil _ _ _) (by omega) hL64.out).mono ?_
        rintro e w1 ⟨v1, rfl, ho1, hb1⟩
        rw [List.nil_append] at ho1
        have P0 : Hid (ListTo wr w1 (uniq us) 0 v1) := Lib.hid ⟨by rw [HL.out, List.take_zero]; show Own _ _ _ _ (cells8 (enc L ++ [])); rw [List.append_nil]; exact ho1, mod_below hb1⟩
        clear ho1 hb1
        generalize wr = wP at *
        go_wp2_with fail
        go_loopg [7, 8] L (fun l' s7 s8 wr => ∃ j : Nat, j + l' = L ∧ s8 = .int .i64 (j : Int) ∧ ListTo wP wr (uniq us) j s7)
        case atStart => exact ⟨0, by omega, rfl, P0.out⟩
        case round =>
          obtain ⟨j, hjl, rfl, hown, hm⟩ := hrel
          have Hown := Lib.hid hown; have Hmj := Lib.hid hm; have Hjl := Lib.hid hjl
          clear hown hm hjl P0
          have hjL : j ≤ L := by have := Hjl.out; omega
          obtain ⟨A3, L3, c3, rfl, HL3, _, _, hr3⟩ := own_formN8 Hown.out
          have hL3 : L3 ≤ 100000 := by
            have h1 := enc_len10 hL64.out.out
            have h2 := encV_len (l := (uniq us).take j) (fun x hx => Hu2.out x (List.mem_of_mem_take hx))
            have h3 : ((uniq us).take j).length ≤ L := by rw [List.length_take, HL.out]; omega
            have h4 := HL3.out
            rw [HL.out, List.length_append] at h4
            omega
          have Hr3 := Lib.hid hr3
          clear hr3
          by_cases hjn : j < L
          · obtain ⟨ad, x, rfl, hx, hcx⟩ := Hr4'.out.at2 hjn (Nat.le_refl _) Hmj.out (fun _ _ h => h)
            have Hx64 : Hid (Lt64 x) := Lib.hid (Hu2.out x (List.mem_of_getElem? hx))
            have Htk : Hid (encV ((uniq us).take (j + 1)) = encV ((uniq us).take j) ++ enc x) := Lib.hid (by rw [take_succ_of hx, encV_snoc])
            have hj0 : (0 : Int) ≤ (j : Int) := by omega
            clear hx
            go_wp2_with fail
            refine (vrput_any A3 L3 c3 _ _ x wr Hr3.out (by omega) Hx64.out).mono ?_
            rintro e w2 ⟨v2, rfl, ho2, hb2⟩
            rw [List.append_assoc, ← Htk.out] at ho2
            have HP : Hid (ListTo wP w2 (uniq us) (j + 1) v2) := Lib.hid ⟨ho2.mono Hmj.out.size, Hmj.out.trans (mod_below hb2) (fun _ _ h => h)⟩
            clear ho2 hb2
            go_wp2_with fail
            go_roundg (gk - 1)
            case measure => have := Hjl.out; omega
            case rel => exact ⟨j + 1, by have := Hjl.out; omega, by go_num, HP.out⟩
          · have hjL2 : j = L := by have := Hjl.out; omega
            have Hr3' : Hid (Rds wr wr.heap.size A3 L3 (cells8 (enc L ++ encV (uniq us)))) := Lib.hid (by
              have h := Hr3.out
              rw [List.take_of_length_le (by rw [HL.out]; omega), HL.out] at h
              exact h)
            clear Hr3 HL3 hjn
            go_wp2_with fail
            refine (Hwid.out _).mono ?_
            rintro e w1 ⟨rfl, rfl⟩
            go_wp2_with fail
            refine (rpack_any A3 A5 L3 c3 m5 c5 _ S (enc L ++ encV (uniq us)) (atD us) wr Hr3'.out (Hr5.out.new Hmj.out).fit (Nat.le_refl _) Hat2.out hS64 (by omega) hn).mono ?_
            rintro e w2 ⟨v2, rfl, ho2, hm2⟩
            have Ho2 := Lib.hid ho2; have Hm2 := Lib.hid ((Hm.out.trans Hmj.out (fun _ _ h => h)).trans hm2 (fun _ _ h => h))
            clear ho2 hm2
            go_wp2_with fail
            go_ret2
            have ho := Ho2.out
            rw [encD_cons Hne.out (by rw [HL.out]; omega), HL.out, HS.out]
            rw [List.append_assoc] at ho
            exact ⟨_, rfl, ho.mono (Nat.le_trans Hm.out.size Hmj.out.size), Hm2.out⟩
end Go.Proofs.Ytldjobaafambbaa

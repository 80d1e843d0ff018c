/- The texts Sp, Se, Dk, Ln, Lm, Du, Le, Mu, Su, Sq, Sd, Dg, Lp, Ld, Rk, Sg, Sh, Si, Lr, Gr, So, Ur, one behind the other. -/
import Derived.Test.YthgoppmgapaajaaGreatDoorM2h1
/- A word is laid of numbers: pack. -/
namespace Go.Proofs.YthgoppmgapaajaaGreatDoor
open Go.RowKit

/-- One number more. -/
theorem pack_step {k i x : Nat} {us : List Nat} (hk : k < 16) (hi : i < numN k) (hx : us[i]? = some x) (hu : ∀ x ∈ us, x < 2 ^ bitN k) :
  i * bitN k ≤ 60 ∧ x * 2 ^ (i * bitN k) < 2 ^ 60 ∧ bits .or .u64 (wordN k (us.take i) : Int) ((x * 2 ^ (i * bitN k) : Nat) : Int) = (wordN k (us.take (i + 1)) : Int) ∧ wordN k (us.take i) < 2 ^ 64 := by
 have hnp := num_pos hk
 have hxs := hu x (List.mem_of_getElem? hx)
 obtain ⟨hl, rfl⟩ := List.getElem?_eq_some_iff.1 hx
 have h1 : (i + 1) * bitN k ≤ 60 := Nat.le_trans (Nat.mul_le_mul_right _ hi) hnp.2.2.1
 have h2 : us[i] * 2 ^ (i * bitN k) < 2 ^ 60 := by
  have h3 : us[i] * 2 ^ (i * bitN k) < 2 ^ bitN k * 2 ^ (i * bitN k) := Nat.mul_lt_mul_of_pos_right hxs (Nat.two_pow_pos _)
  rw [← Nat.pow_add] at h3
  refine Nat.lt_of_lt_of_le h3 (Nat.pow_le_pow_right (by omega) ?_)
  rw [Nat.add_mul, Nat.one_mul] at h1
  omega
 have hlt : (us.take i).length = i := by rw [List.length_take]; omega
 have hut : ∀ x ∈ us.take i, x < 2 ^ bitN k := fun x hx => hu x (List.mem_of_mem_take hx)
 have h4 := (word_kind hk (xs := us.take i) (by omega) hut).2.2
 refine ⟨by rw [Nat.add_mul] at h1; omega, h2, ?_, h4⟩
 rw [u64_or_nat _ _ h4 (by omega), word_or hk hlt hi hut hxs, List.take_succ_eq_append_getElem hl]
set_option maxHeartbeats 1000000 in
set_option maxRecDepth 100000 in
theorem pack_any (A : Option Addr) (n cap B k : Nat) (us : List Nat) (w : World) (hs : Rds w B A n (cellsU us)) (hB : B ≤ w.heap.size) (hk : k < 16) (hn : n ≤ numN k) (hu : ∀ x ∈ us, x < 2 ^ bitN k) (hkin : Kin w) :
  Calls Tryz.prog 116 #[.int .i64 (k : Int), .slice A n cap] w fun e w' => e = .returned (.int .u64 (wordN k us : Int)) ∧ w = w' := by
 have hul : us.length = n := by have := hs.1; rwa [cellsU_length] at this
 have hnp := num_pos hk
 have Hs := Lib.hid hs; have Hu := Lib.hid hu; have HB := Lib.hid hB; have Hul := Lib.hid hul; have Hn := Lib.hid hn
 obtain ⟨s, hs⟩ : ∃ s, s = bitN k := ⟨_, rfl⟩
 have hs2 : s ≤ 60 := by rw [hs]; exact hnp.2.2.2
 have hn2 : n ≤ 240 := by omega
 have hd1 := (hkin.2 k hk).2
 rw [← hs] at hd1
 have Hss := Lib.hid hs
 obtain ⟨T, hT⟩ : ∃ T, T = wordN k [] := ⟨_, rfl⟩
 have HT := Lib.hid hT
 have hTe : T = k * 1152921504606846976 := by rw [hT]; show k * 2 ^ 60 + 0 = _; omega
 have hk0 : (0 : Int) ≤ (k : Int) := by omega
 clear hs hu hB hkin hnp hul hn hT
 go_enter Tryz.func116, Tryz.ntmps116
 go_wp2_with fail
 go_loopg [5, 13] n (fun l s5 s13 wr => ∃ (i a : Nat), i + l = n ∧ s13 = .int .i64 (i : Int) ∧ s5 = .int .u64 (a : Int) ∧ a = wordN k (us.take i) ∧ wr = w)
 case atStart => exact ⟨0, T, by omega, rfl, by rw [hTe]; go_num, HT.out, rfl⟩
 case round =>
  obtain ⟨i, a, hil, rfl, rfl, ha, rfl⟩ := hrel
  have Hil := Lib.hid hil; have Ha := Lib.hid ha
  clear hil ha hTe
  by_cases hin : i < n
  ·obtain ⟨ad, x, rfl, hx, hcx⟩ := Hs.out.at2 hin HB.out (Mod.refl (fun _ => False) _) (fun _ _ h => h)
   have Hx := Lib.hid hx
   have hxs := Lib.hid (Hu.out x (List.mem_of_getElem? hx))
   have hwo := pack_step hk (Nat.lt_of_lt_of_le hin Hn.out) Hx.out Hu.out
   rw [← Ha.out, ← Hss.out] at hwo
   obtain ⟨hp60, hb, hor, hle⟩ := hwo
   obtain ⟨p, hp⟩ : ∃ p, p = i * s := ⟨_, rfl⟩
   rw [← hp] at hp60 hb hor
   have hpi : (i : Int) * (s : Int) = (p : Int) := by rw [hp]; simp
   obtain ⟨b, hbe⟩ : ∃ b, b = x * 2 ^ p := ⟨_, rfl⟩
   rw [← hbe] at hb hor
   have hbi : (x : Int) * 2 ^ p = (b : Int) := by rw [hbe]; simp
   obtain ⟨a2, ha2⟩ : ∃ a2, a2 = wordN k (us.take (i + 1)) := ⟨_, rfl⟩
   rw [← ha2] at hor
   have Ha2 := Lib.hid ha2
   clear hx hp hbe ha2
   go_wp2_with fail
   go_roundg (gk - 1)
   case measure => have := Hil.out; omega
   case rel => exact ⟨i + 1, a2, by have := Hil.out; omega, by go_num, rfl, Ha2.out, rfl⟩
  ·go_wp2_with fail
   go_ret
   have hi : i = n := by have := Hil.out; omega
   refine ⟨ret_int ?_, rfl⟩
   rw [Ha.out, List.take_of_length_le (by rw [Hul.out]; omega)]
end Go.Proofs.YthgoppmgapaajaaGreatDoor

/- Rows of small numbers are told: Encode. -/
namespace Go.Proofs.YthgoppmgapaajaaGreatDoor
open Go.RowKit

/-- What the loop has told of the first i numbers. -/
def EncTo (w wr : World) (us : List Nat) (i : Nat) (v : Value) : Prop :=
 ∃ done, Own w.heap.size wr 34 v (cellsU done) ∧ done.length ≤ i ∧ encS us = (encS (us.drop i)).map (done ++ ·) ∧ Mod (fun _ => False) w wr
theorem enc_step {us : List Nat} {i k : Nat} {done : List Nat} (hi : i < us.length) (h : encS us = (encS (us.drop i)).map (done ++ ·)) (hk : kindOf (us.drop i) = k) (hk16 : k < 16) :
  encS us = (encS (us.drop (i + min (numN k) (us.length - i)))).map ((done ++ [wordN k ((us.drop i).take (min (numN k) (us.length - i)))]) ++ ·) := by
 have hne : us.drop i ≠ [] := by
  intro e
  have := congrArg List.length e
  rw [List.length_drop] at this
  simp at this
  omega
 have e1 : (us.drop i).take (min (numN k) (us.length - i)) = (us.drop i).take (numN k) := by
  rcases Nat.le_total (numN k) (us.length - i) with h1 | h1
  ·rw [Nat.min_eq_left h1]
  ·rw [Nat.min_eq_right h1, List.take_of_length_le (by rw [List.length_drop]; omega), List.take_of_length_le (by rw [List.length_drop]; omega)]
 have e2 : us.drop (i + min (numN k) (us.length - i)) = (us.drop i).drop (numN k) := by
  rw [List.drop_drop]
  rcases Nat.le_total (numN k) (us.length - i) with h1 | h1
  ·rw [Nat.min_eq_left h1]
  ·rw [Nat.min_eq_right h1, List.drop_of_length_le (by omega), List.drop_of_length_le (by omega)]
 rw [e1, e2, h, encS_step hne, hk, if_neg (by omega), Option.map_map]
 congr 1
 funext ws
 simp
theorem enc_stop {us : List Nat} {i : Nat} {done : List Nat} (hi : i < us.length) (h : encS us = (encS (us.drop i)).map (done ++ ·)) (hk : kindOf (us.drop i) = 16) : encS us = none := by
 have hne : us.drop i ≠ [] := by
  intro e
  have := congrArg List.length e
  rw [List.length_drop] at this
  simp at this
  omega
 rw [h, encS_step hne, if_pos hk]
 rfl
set_option maxHeartbeats 4000000 in
set_option maxRecDepth 100000 in
theorem enc_any (A : Option Addr) (n cap B : Nat) (us : List Nat) (w : World) (hs : Rds w B A n (cellsU us)) (hB : B ≤ w.heap.size) (hu : ∀ x ∈ us, x < 2 ^ 64) (hn : n ≤ 1000000) (hcap : n ≤ cap) (hk : Kin w) :
  Calls Tryz.prog 94 #[.slice A n cap] w fun e w' => EncE w w' (encS us) e := by
 have hul : us.length = n := by have := hs.1; rwa [cellsU_length] at this
 have H0 : Hid (EncTo w w us 0 (.slice none 0 0)) := Lib.hid ⟨[], Own.nil _ _ _, Nat.zero_le _, by rw [List.drop_zero]; cases encS us <;> rfl, Mod.refl _ _⟩
 have Hs := Lib.hid hs; have Hu := Lib.hid hu; have HB := Lib.hid hB; have Hul := Lib.hid hul; have Hkin := Lib.hid hk
 clear hs hu hB hul hk
 go_enter Tryz.func94, Tryz.ntmps94
 go_wp2_with fail
 go_loopg [0, 4] n (fun l s0 s4 wr => ∃ (i : Nat) (Ai : Option Addr) (ci : Nat), i + l = n ∧ s0 = .slice Ai l ci ∧ l ≤ ci ∧ Rds wr B Ai l (cellsU (us.drop i)) ∧ EncTo w wr us i s4)
 case atStart => exact ⟨0, A, cap, by omega, rfl, hcap, by rw [List.drop_zero]; exact Hs.out, H0.out⟩
 case round =>
  obtain ⟨i, Ai, ci, hil, rfl, hci, hr, hE⟩ := hrel
  have Hil := Lib.hid hil; have Hr := Lib.hid hr; have HE := Lib.hid hE
  clear hil hr hE H0 Hs
  by_cases hg : 0 < gk
  ·go_wp2_with fail
   obtain ⟨done, hown, hdl, henc, hm⟩ := HE.out
   have Hm := Lib.hid hm
   have Hown := Lib.hid hown; have Hdl := Lib.hid hdl; have Henc := Lib.hid henc
   have Hud : Hid (∀ x ∈ us.drop i, x < 2 ^ 64) := Lib.hid fun x hx => Hu.out x (List.mem_of_mem_drop hx)
   clear hm hown hdl henc
   refine (first_any Ai gk ci B (us.drop i) wr Hr.out (Nat.le_trans HB.out Hm.out.size) Hud.out (by have := Hil.out; omega) hci (Hkin.out.new Hm.out)).mono ?_
   rintro e w1 ⟨hF, hm1⟩
   have Hm1 := Lib.hid hm1
   rcases hF with ⟨hk16, rfl⟩ | ⟨hk16, rfl⟩
   ·obtain ⟨k, hk⟩ : ∃ k, k = kindOf (us.drop i) := ⟨_, rfl⟩
    rw [← hk] at hk16 ⊢
    have Hk := Lib.hid hk
    have hnp := num_pos hk16
    have hd0 := ((Hkin.out.new (Hm.out.trans Hm1.out (fun _ _ h => h))).2 k hk16).1
    obtain ⟨c, hc⟩ : ∃ c, c = numN k := ⟨_, rfl⟩
    rw [← hc] at hd0
    obtain ⟨m, hmm⟩ : ∃ m, min c gk = m := ⟨_, rfl⟩
    have hmin := min2_is (P := Tryz.prog) (t := 3) (ty := 3) hmm
    have hc1 : 1 ≤ c := by rw [hc]; exact hnp.1
    have hmc : m ≤ c := by omega
    have hmg : m ≤ gk := by omega
    have hm1' : 1 ≤ m := by omega
    have hm0 : (0 : Int) ≤ (m : Int) := by omega
    have hmci : (m : Int) ≤ (ci : Int) := by omega
    have hmgi : (m : Int) ≤ (gk : Int) := by omega
    have hk0 : (0 : Int) ≤ (k : Int) := by omega
    have hkk : (k : Int) < 16 := by omega
    have Hc := Lib.hid hc; have Hmm := Lib.hid hmm
    clear hk hc hmm hnp hm1
    have Hus : Hid (Rds w1 B Ai m (cellsU ((us.drop i).take m))) := Lib.hid (by rw [← cellsU_take]; exact (Hr.out.take hmg).mod Hm1.out (Nat.le_trans HB.out Hm.out.size) (fun _ _ h => h))
    have Hsz : Hid (B ≤ w1.heap.size) := Lib.hid (Nat.le_trans HB.out (Nat.le_trans Hm.out.size Hm1.out.size))
    have Hfit : Hid (∀ x ∈ (us.drop i).take m, x < 2 ^ bitN k) := Lib.hid (by
     have h := fitsK_all (kind_fits (u := us.drop i) (by rw [← Hk.out]; exact hk16))
     rw [← Hk.out] at h
     intro x hx
     refine h x ?_
     have e : ((us.drop i).take (numN k)).take m = (us.drop i).take m := by rw [List.take_take]; congr 1; have := Hc.out; omega
     rw [← e] at hx
     exact List.mem_of_mem_take hx)
    have Hkin1 := Lib.hid (Hkin.out.new (Hm.out.trans Hm1.out (fun _ _ h => h)))
    go_wp2_with fail
    refine (pack_any Ai m ci B k _ w1 Hus.out Hsz.out hk16 (by rw [← Hc.out]; exact hmc) Hfit.out Hkin1.out).mono ?_
    rintro e w2 ⟨rfl, rfl⟩
    have Hown1 := Lib.hid (Hm1.out.owns Hown.out (fun _ _ h => h))
    have hr1 : (cellsU done).length + 1 ≤ maxLen := by rw [cellsU_length]; unfold maxLen; have := Hdl.out; have := Hil.out; omega
    have hr2 : ((cellsU done).length + 1) * 8 ≤ 140737488355328 := by rw [cellsU_length]; have := Hdl.out; have := Hil.out; omega
    have hsz : w.heap.size ≤ w1.heap.size := Nat.le_trans Hm.out.size Hm1.out.size
    obtain ⟨wd, hwd⟩ : ∃ wd, wd = wordN k ((us.drop i).take m) := ⟨_, rfl⟩
    rw [← hwd]
    have Hwd := Lib.hid hwd
    clear hwd hmin hd0
    obtain ⟨A2, hA2⟩ : ∃ A2, (if ci = m then Ai else Ai.map (·.add m)) = A2 := ⟨_, rfl⟩
    have Hr2 : Hid (Rds wr B A2 (gk - m) ((cellsU (us.drop i)).drop m)) := Lib.hid (by rw [← hA2]; exact Hr.out.drop hmg hci)
    go_wp2_with (at_builtin; refine wpList_app1 rfl (.tmp 25) (.tmp 31) _ rfl eltU rfl Hown1.out rfl rfl rfl hr1 hr2 hsz ?_; intro v' w2 HO HBl)
    have hmin2 : min (numN k) (us.length - i) = m := by have := Hmm.out; have := Hc.out; have := Hul.out; have := Hil.out; omega
    have hst := enc_step (us := us) (i := i) (k := k) (done := done) (by have := Hul.out; have := Hil.out; omega) Henc.out Hk.out.symm hk16
    rw [hmin2, ← Hwd.out] at hst
    have Hm2 := Lib.hid ((Hm.out.trans Hm1.out (fun _ _ h => h)).trans (Mod.of_below HBl.out) (fun i hi h => by omega))
    have HE2 : Hid (EncTo w w2 us (i + m) v') := Lib.hid ⟨done ++ [wd], by rw [cellsU_snoc]; exact HO.out, by rw [List.length_append, List.length_singleton]; have := Hdl.out; omega, hst, Hm2.out⟩
    have Hr3 : Hid (Rds w2 B A2 (gk - m) (cellsU (us.drop (i + m)))) := Lib.hid (by
     have h := Hr2.out
     rw [show (cellsU (us.drop i)).drop m = cellsU (us.drop (i + m)) by simp [cellsU, ← List.map_drop]] at h
     exact (h.mod Hm1.out (Nat.le_trans HB.out Hm.out.size) (fun _ _ h => h)).mod (Mod.of_below HBl.out) Hsz.out (fun j hj h => by have := HB.out; omega))
    clear hst hmin2 hA2
    go_roundg (gk - m)
    case measure => omega
    case rel => exact ⟨i + m, A2, ci - m, by have := Hil.out; omega, rfl, by omega, Hr3.out, HE2.out⟩
   ·have Hk := Lib.hid hk16
    clear hk16 hm1
    go_wp2_with fail
    go_ret2
    have hn := enc_stop (us := us) (i := i) (done := done) (by have := Hul.out; have := Hil.out; omega) Henc.out Hk.out
    rw [hn]
    exact ⟨rfl, Hm.out.trans Hm1.out (fun _ _ h => h)⟩
  ·go_wp2_with fail
   go_ret2
   obtain ⟨done, hown, hdl, henc, hm⟩ := HE.out
   have e : encS us = some done := by
    rw [henc, List.drop_of_length_le (by have := Hul.out; have := Hil.out; omega), encS_nil]
    simp
   rw [e]
   exact ⟨_, rfl, hown, hm⟩
end Go.Proofs.YthgoppmgapaajaaGreatDoor

/- What a dictionary's map says of a list of values; a list of numbers read step by step; what the code and the document ask of bytes, in these words. -/
namespace Go.Proofs.YthgoppmgapaajaaGreatDoor
open Go.RowKit Go.Maps

theorem lawU : Keyed Tryz.prog 34 := int_keyed Tryz.underlying34
theorem zeroU (w : World) : (zeroValue 34).run Tryz.prog w = .ok (.int .u64 0) w := by kernel_rfl
theorem keyU {x : Nat} (h : x < 2 ^ 64) : keyOf Tryz.prog 34 (.int .u64 (x : Int)) = some (.int .u64 (x : Int)) := keyOf_int_mk Tryz.underlying34 (WalkArith.wf_u64 (by omega))
/-- Block b is a map of at most n entries that says what D says. -/
def OMap (w : World) (b n : Nat) (D : DataW Unit) : Prop := w.ownsMap Tryz.prog 34 (plainElem Tryz.prog 34) b n D
theorem OMap.out {w : World} {b n : Nat} {D : DataW Unit} (h : OMap w b n D) : w.ownsMap Tryz.prog 34 (plainElem Tryz.prog 34) b n D := h
theorem OMap.lt {w : World} {b n : Nat} {D : DataW Unit} (h : OMap w b n D) : b < w.heap.size := World.ownsMap.lt h
theorem OMap.mod {S : Nat → Prop} {w w' : World} {b n : Nat} {D : DataW Unit} (h : OMap w b n D) (hm : Mod S w w') (hb : ¬ S b) : OMap w' b n D := by
 have hlt := h.lt
 obtain ⟨es, clock, h1, h2⟩ := h
 exact ⟨es, clock, (hm.block b hlt hb).trans h1, h2⟩
theorem OMap.mono {w : World} {b n n' : Nat} {D : DataW Unit} (h : OMap w b n D) (hn : n ≤ n') : OMap w b n' D := World.ownsMap.mono h hn
theorem OMap.made (w : World) : OMap (w.alloc (.map #[] 0)) w.heap.size 0 (.map []) := World.ownsMap_made _ _ _ _
/-- The map says of each value on the list where it stands, and of no other. -/
def Plcs (D : DataW Unit) (l : List Nat) : Prop := IsMap D ∧ (∀ x : Nat, Maps.has D (.int .u64 (x : Int)) = decide (x ∈ l)) ∧ ∀ x : Nat, x ∈ l → D.atKey (.int .u64 (x : Int)) (.lit (.int .u64 0)) = .lit (.int .u64 (plc x l : Int))
theorem Plcs.nil : Plcs (.map []) [] := ⟨isMap_empty, (fun _ => rfl), fun _ h => by cases h⟩
theorem Plcs.put {D : DataW Unit} {l : List Nat} {x : Nat} (h : Plcs D l) (hx : x ∉ l) : Plcs (D.put (.int .u64 (x : Int)) (.lit (.int .u64 (l.length : Int)))) (l ++ [x]) := by
 obtain ⟨h1, h2, h3⟩ := h
 have hk : WideAt.IsKeyLit (.int .u64 (x : Int)) := trivial
 have hne : ∀ y : Nat, y ≠ x → Lit.int .u64 (y : Int) ≠ Lit.int .u64 (x : Int) := fun y hy e => by
  injection e with _ e
  exact hy (by omega)
 refine ⟨h1.put _ _, fun y => ?_, fun y hy => ?_⟩
 ·by_cases e : y = x
  ·subst e
   rw [has_put_same h1 hk, decide_eq_true (by simp)]
  ·rw [has_put_other (hne y e), h2 y]
   simp [e]
 ·by_cases e : y = x
  ·subst e
   rw [atKey_put_same h1 hk]
   have e2 : plc y (l ++ [y]) = l.length := by
    refine plc_is (by simp) fun i hi => ?_
    rw [List.getElem?_append_left hi]
    intro e3
    exact hx (List.mem_of_getElem? e3)
   rw [e2]
  ·have hy' : y ∈ l := by
    rcases List.mem_append.1 hy with hy | hy
    ·exact hy
    ·exact absurd (List.mem_singleton.1 hy) e
   rw [atKey_put_other (hne y e), h3 y hy', plc_app hy']
/-- What a look-up tells. -/
theorem Plcs.look {D : DataW Unit} {l : List Nat} {x : Nat} {c : Int} (h : Plcs D l) (hx : x ∈ l) (hc : D.atKey (.int .u64 (x : Int)) (.lit (.int .u64 0)) = .lit (.int .u64 c)) : c = (plc x l : Int) := by
 rw [h.2.2 x hx] at hc
 injection hc with hc
 injection hc with _ hc
 exact hc.symm
/-- Numbers read step by step. -/
theorem rdV_succ (k : Nat) : ∀ b, rdV (k + 1) b = match rdV k b with | none => none | some (l, r) => if (dec r).2 = 0 then none else some (l ++ [(dec r).1], r.drop (dec r).2) := by
 induction k with
 | zero =>
  intro b
  show (if (dec b).2 = 0 then none else (rdV 0 (b.drop (dec b).2)).map _) = (if (dec b).2 = 0 then none else some ([] ++ [(dec b).1], b.drop (dec b).2))
  rfl
 | succ k ih =>
  intro b
  have e1 : rdV (k + 1 + 1) b = if (dec b).2 = 0 then none else (rdV (k + 1) (b.drop (dec b).2)).map fun p => ((dec b).1 :: p.1, p.2) := rfl
  have e2 : rdV (k + 1) b = if (dec b).2 = 0 then none else (rdV k (b.drop (dec b).2)).map fun p => ((dec b).1 :: p.1, p.2) := rfl
  rw [e1, e2]
  by_cases h : (dec b).2 = 0
  ·rw [if_pos h, if_pos h]
  ·rw [if_neg h, if_neg h, ih]
   cases hr : rdV k (b.drop (dec b).2) with
   | none => rfl
   | some p =>
    obtain ⟨l, r⟩ := p
    show Option.map _ (if (dec r).2 = 0 then none else some (l ++ [(dec r).1], r.drop (dec r).2)) = if (dec r).2 = 0 then none else some (((dec b).1 :: l) ++ [(dec r).1], r.drop (dec r).2)
    by_cases h2 : (dec r).2 = 0
    ·rw [if_pos h2, if_pos h2]; rfl
    ·rw [if_neg h2, if_neg h2]; rfl
theorem rdV_none_le {k k' : Nat} {b : List Nat} (h : rdV k b = none) (hk : k ≤ k') : rdV k' b = none := by
 induction k' with
 | zero =>
  obtain rfl : k = 0 := by omega
  exact h
 | succ k' ih =>
  rcases Nat.lt_or_ge k' k with h2 | h2
  ·obtain rfl : k = k' + 1 := by omega
   exact h
  ·rw [rdV_succ, ih h2]
/-- The list that bytes begin with, and what is behind it. -/
def getL (bs : List Nat) : Option (List Nat × List Nat) := if 256 < (dec bs).1 then none else rdV (dec bs).1 (bs.drop (dec bs).2)
theorem getL_some {bs l rest : List Nat} (hlt : lt256 bs) (h : getL bs = some (l, rest)) : l.length = (dec bs).1 ∧ l.length ≤ 256 ∧ (∀ x ∈ l, x < 2 ^ 64) ∧ lt256 rest ∧ rest.length ≤ bs.length ∧ rdV (dec bs).1 (bs.drop (dec bs).2) = some (l, rest) := by
 unfold getL at h
 split at h
 ·cases h
 ·rename_i h2
  obtain ⟨a1, a2, a3, a4⟩ := rdV_some _ _ _ _ (fun x hx => hlt x (List.mem_of_mem_drop hx)) h
  refine ⟨a1, by omega, a2, a3, ?_, h⟩
  have := congrArg List.length a4
  rw [List.length_drop, List.length_append] at this
  omega
theorem decD_noL {N : Nat} {bs : List Nat} (hN : ¬ N = 0) (h : ∀ l rest, getL bs = some (l, rest) → (dec bs).1 = 0) : decD N bs = none := by
 unfold decD
 rw [if_neg hN]
 by_cases hc : (dec bs).2 = 0 ∨ (dec bs).1 = 0 ∨ 256 < (dec bs).1
 ·rw [if_pos hc]
 ·rw [if_neg hc]
  have e : getL bs = rdV (dec bs).1 (bs.drop (dec bs).2) := by unfold getL; rw [if_neg (by omega)]
  cases hr : rdV (dec bs).1 (bs.drop (dec bs).2) with
  | none => rfl
  | some p =>
   have := h p.1 p.2 (by rw [e, hr])
   omega
theorem decD_L {N S : Nat} {bs l rest : List Nat} (hlt : lt256 bs) (hN : ¬ N = 0) (h : getL bs = some (l, rest)) (hl : ¬ l.length = 0) (hS : wid (l.length - 1) = S) :
  decD N bs = if ∃ j ∈ rdW S N (some (val rest, 8 * rest.length)), l.length ≤ j then none else if encD (outD l (rdW S N (some (val rest, 8 * rest.length)))) = some bs then some (outD l (rdW S N (some (val rest, 8 * rest.length)))) else none := by
 obtain ⟨a1, a2, _, _, _, a6⟩ := getL_some hlt h
 have h2 : ¬ (dec bs).2 = 0 := fun e => hl (by rw [a1, dec_none e])
 subst hS
 unfold decD
 rw [if_neg hN, if_neg (by rintro (e | e | e) <;> omega), a6, ← a1]
/-- What Encode told has its list, and its places behind it. -/
theorem getL_enc {v bs : List Nat} (hv : v ≠ []) (hv2 : ∀ x ∈ v, x < 2 ^ 64) (h : encD v = some bs) : getL bs = some (uniq v, packW (wid ((uniq v).length - 1)) (atD v)) := by
 have hu : ¬ 256 < (uniq v).length := by
  intro hu
  rw [encD_many hu] at h
  cases h
 rw [encD_cons hv hu] at h
 injection h with h
 have hd := dec_enc (uniq v).length (by omega) (encV (uniq v) ++ packW (wid ((uniq v).length - 1)) (atD v))
 rw [h] at hd
 unfold getL
 rw [hd]
 show (if 256 < (uniq v).length then none else rdV (uniq v).length (bs.drop (enc (uniq v).length).length)) = _
 rw [if_neg hu, ← h, List.drop_left]
 exact rdV_enc (uniq v) _ (fun x hx => hv2 x (uniq_of hx))
theorem decD_few {N S : Nat} {bs l rest : List Nat} (hlt : lt256 bs) (hN : ¬ N = 0) (h : getL bs = some (l, rest)) (hS : wid (l.length - 1) = S) (hf : 8 * rest.length < N * S) : decD N bs = none := by
 cases hd : decD N bs with
 | none => rfl
 | some v =>
  obtain ⟨h1, h2, h3⟩ := decD_some hlt hd
  have hg := getL_enc (by rintro rfl; exact hN h1.symm) h2 h3
  rw [h] at hg
  injection hg with hg
  injection hg with e1 e2
  subst e1 e2
  rw [packW_len, atD_len, h1, hS, Nat.mul_comm S N] at hf
  omega
/-- What read tells of bytes. -/
def ReadD (N : Nat) (bs : List Nat) : Option (List Nat) → Prop
 | none => decD N bs = none
 | some v => v.length = N ∧ (∀ x ∈ v, x < 2 ^ 64) ∧ decD N bs = if encD v = some bs then some v else none
theorem readD_nought (bs : List Nat) : ReadD 0 bs (some []) := by
 refine ⟨rfl, (fun _ h => by cases h), ?_⟩
 unfold decD
 rw [if_pos rfl, encD_nil]
 by_cases h : bs = []
 ·rw [if_pos h, if_pos (by rw [h])]
 ·rw [if_neg h, if_neg (fun e => h (by injection e with e; exact e.symm))]
theorem outD_len (l at_ : List Nat) : (outD l at_).length = at_.length := by simp [outD]
theorem outD_snoc (l at_ : List Nat) (j : Nat) : outD l (at_ ++ [j]) = outD l at_ ++ [l.getD j 0] := by simp [outD]
theorem outD_lt {l at_ : List Nat} (hl : ∀ x ∈ l, x < 2 ^ 64) : ∀ x ∈ outD l at_, x < 2 ^ 64 := by
 intro x hx
 obtain ⟨j, _, rfl⟩ := List.mem_map.1 hx
 show l.getD j 0 < 2 ^ 64
 rw [List.getD_eq_getElem?_getD]
 cases hj : l[j]? with
 | none => exact Nat.two_pow_pos 64
 | some y => exact hl y (List.mem_of_getElem? hj)
theorem readD_far {N S i : Nat} {bs l rest : List Nat} {x : Nat} (hlt : lt256 bs) (hN : ¬ N = 0) (h : getL bs = some (l, rest)) (hl : ¬ l.length = 0) (hS : wid (l.length - 1) = S) (hx : (rdW S N (some (val rest, 8 * rest.length)))[i]? = some x) (hxl : l.length ≤ x) : ReadD N bs none := by
 show decD N bs = none
 rw [decD_L hlt hN h hl hS, if_pos ⟨x, List.mem_of_getElem? hx, hxl⟩]
theorem readD_done {N S : Nat} {bs l rest : List Nat} (hlt : lt256 bs) (hN : ¬ N = 0) (h : getL bs = some (l, rest)) (hl : ¬ l.length = 0) (hS : wid (l.length - 1) = S) (hj : ∀ j ∈ rdW S N (some (val rest, 8 * rest.length)), j < l.length) :
  ReadD N bs (some (outD l (rdW S N (some (val rest, 8 * rest.length))))) := by
 obtain ⟨_, _, a3, _⟩ := getL_some hlt h
 refine ⟨by rw [outD_len, rdW_len], outD_lt a3, ?_⟩
 rw [decD_L hlt hN h hl hS, if_neg (by rintro ⟨j, h1, h2⟩; have := hj j h1; omega)]
/-- A row that is read number by number begins as it began. -/
theorem rdW_at {w n i : Nat} {s : Option (Nat × Nat)} (hi : i < n) : (rdW w n s)[i]? = some (rd1 w (lfW w i s)).1 := by
 induction n with
 | zero => omega
 | succ n ih =>
  rw [rdW_snoc]
  rcases Nat.lt_or_ge i n with h | h
  ·rw [List.getElem?_append_left (by rw [rdW_len]; exact h)]
   exact ih h
  ·obtain rfl : i = n := by omega
   rw [List.getElem?_append_right (by rw [rdW_len]; exact Nat.le_refl _), rdW_len, Nat.sub_self]
   rfl
/-- A row of bytes and true, or nil and false. -/
def EncB (w w' : World) (o : Option (List Nat)) (e : Ending) : Prop :=
 match o with
 | some bs => ∃ v, e = .returned (.tuple #[v, .bool true]) ∧ Own w.heap.size w' 5 v (cells8 bs) ∧ Mod (fun _ => False) w w'
 | none => e = .returned (.tuple #[.slice none 0 0, .bool false]) ∧ Mod (fun _ => False) w w'
theorem EncB.some_ {w w' : World} {o : Option (List Nat)} {bs : List Nat} {e : Ending} (h : EncB w w' o e) (ho : o = some bs) : ∃ v, e = .returned (.tuple #[v, .bool true]) ∧ Own w.heap.size w' 5 v (cells8 bs) ∧ Mod (fun _ => False) w w' := by
 rw [ho] at h
 exact h
theorem EncB.none_ {w w' : World} {o : Option (List Nat)} {e : Ending} (h : EncB w w' o e) (ho : o = none) : e = .returned (.tuple #[.slice none 0 0, .bool false]) ∧ Mod (fun _ => False) w w' := by
 rw [ho] at h
 exact h
/-- An answer as a row: none is nil. -/
theorem EncB.any {w w' : World} {o : Option (List Nat)} {e : Ending} (h : EncB w w' o e) : ∃ (A : Option Addr) (c : Nat), e = .returned (.tuple #[.slice A (o.getD []).length c, .bool o.isSome]) ∧ (o.getD []).length ≤ c ∧ c ≤ maxLen ∧ Rds w' w'.heap.size A (o.getD []).length (cells8 (o.getD [])) ∧ Mod (fun _ => False) w w' := by
 cases o with
 | none =>
  obtain ⟨rfl, hm⟩ := h.none_ rfl
  exact ⟨none, 0, rfl, Nat.le_refl _, Nat.zero_le _, Rds.nil _ _ _, hm⟩
 | some ws =>
  obtain ⟨v, rfl, ho, hm⟩ := h.some_ rfl
  obtain ⟨A, c, rfl, hc, hcm, hr⟩ := own_form8 ho
  exact ⟨A, c, rfl, hc, hcm, hr, hm⟩
end Go.Proofs.YthgoppmgapaajaaGreatDoor

/- How many bits a number has, as math/bits tells it. -/
namespace Go.Proofs.YthgoppmgapaajaaGreatDoor
open Go.RowKit

theorem len_fin {x y k' : Int} {k P : Nat} (hk' : k' = (k : Int)) (hP : 2 ^ k = P) (hk : k ≤ 56) (h1 : x.toNat < 2 ^ 64) (hy : y.toNat = x.toNat / P) (hyl : y.toNat < 256) (hlo : k = 0 ∨ P ≤ x.toNat) (h : y.toNat < Lib.len8tab.size) :
  wrap64 (k' + wrap64 ((Lib.len8tab[y.toNat]'h).toNat : Int)) = (Lib.bitLen x.toNat : Int) := by
 have e : ((Lib.len8tab[y.toNat]'h).toNat : Int) = (Lib.bitLen (x.toNat / P) : Int) := by
  have h2 := Lib.len8_of (y.toNat : Int) (by omega) (by omega)
  unfold Lib.len8 at h2
  rw [Int.toNat_natCast, getElem?_pos Lib.len8tab y.toNat h] at h2
  rw [← hy]
  exact h2
 have h3 := Lib.bitLen_le (x.toNat / P) 8 (by omega) (by omega)
 have e2 : k + Lib.bitLen (x.toNat / P) = Lib.bitLen x.toNat := by
  rcases hlo with rfl | hlo
  ·rw [← hP, Nat.pow_zero, Nat.div_one, Nat.zero_add]
  ·rw [← hP] at hlo ⊢
   exact (Lib.bitLen_shift k x.toNat hlo h1).symm
 rw [e, hk', IntWalk.wrap64_in (Lib.bitLen (x.toNat / P) : Int) (by omega), IntWalk.wrap64_in _ (by omega)]
 omega
set_option maxHeartbeats 4000000 in
set_option maxRecDepth 100000 in
theorem len64_int (x : Int) (w : World) (h0 : 0 ≤ x) (h1 : x ≤ 18446744073709551615) : Calls Tryz.prog 97 #[.int .u64 x] w fun e w' => e = .returned (.int .i64 (Lib.bitLen x.toNat : Int)) ∧ w = w' := by
 have hs : ((Lib.len8tab.size : Nat) : Int) = 256 := by rw [Lib.len8tab_size]; rfl
 go_enter Tryz.func97, Tryz.ntmps97
 go_wp2
 all_goals (go_ret; refine ⟨ret_int ?_, rfl⟩)
 ·exact len_fin (k := 56) (P := 72057594037927936) rfl (by decide) (by decide) (by omega) (by omega) (by omega) (.inr (by omega)) _
 ·exact len_fin (k := 48) (P := 281474976710656) rfl (by decide) (by decide) (by omega) (by omega) (by omega) (.inr (by omega)) _
 ·exact len_fin (k := 40) (P := 1099511627776) rfl (by decide) (by decide) (by omega) (by omega) (by omega) (.inr (by omega)) _
 ·exact len_fin (k := 32) (P := 4294967296) rfl (by decide) (by decide) (by omega) (by omega) (by omega) (.inr (by omega)) _
 ·exact len_fin (k := 24) (P := 16777216) rfl (by decide) (by decide) (by omega) (by omega) (by omega) (.inr (by omega)) _
 ·exact len_fin (k := 16) (P := 65536) rfl (by decide) (by decide) (by omega) (by omega) (by omega) (.inr (by omega)) _
 ·exact len_fin (k := 8) (P := 256) rfl (by decide) (by decide) (by omega) (by omega) (by omega) (.inr (by omega)) _
 ·have := len_fin (x := x) (y := x) (k' := 0) (k := 0) (P := 1) rfl (by decide) (by decide) (by omega) (by omega) (by omega) (.inl rfl) (by rw [Lib.len8tab_size]; omega)
  rwa [Int.zero_add] at this
theorem len64_any (x : Nat) (w : World) (hx : Lt64 x) : Calls Tryz.prog 97 #[.int .u64 (x : Int)] w fun e w' => e = .returned (.int .i64 (Lib.bitLen x : Int)) ∧ w = w' := by
 have := len64_int (x : Int) w (by omega) (by have := hx.out; omega)
 rwa [Int.toNat_natCast] at this
end Go.Proofs.YthgoppmgapaajaaGreatDoor

/- How many bits a number has: math/bits.Len64 and the document's width tell wid. -/
namespace Go.Proofs.YthgoppmgapaajaaGreatDoor
open Go.RowKit

theorem bitLen_wid {u : Nat} (h : u < 2 ^ 64) : Lib.bitLen u = wid u := by
 have h1 := wid_lt h
 have hle := wid_le u
 rcases Nat.eq_zero_or_pos (wid u) with h0 | h0
 ·rw [h0]
  have h2 := Lib.bitLen_le u 0 (by omega) (by rw [h0] at h1; exact h1)
  omega
 ·have h2 := wid_least (u := u) (j := wid u - 1) (by omega)
  obtain ⟨k, hk⟩ : ∃ k, wid u = k + 1 := ⟨wid u - 1, by omega⟩
  rw [hk] at h1 h2 ⊢
  rw [Nat.add_sub_cancel] at h2
  have h3 := Lib.bitLen_shift k u (by omega) h
  have h4 : u / 2 ^ k = 1 := by
   have hp := Nat.two_pow_pos k
   have a1 : 1 ≤ u / 2 ^ k := (Nat.le_div_iff_mul_le hp).2 (by omega)
   have a2 : u / 2 ^ k < 2 := (Nat.div_lt_iff_lt_mul hp).2 (by rw [Nat.pow_succ] at h1; omega)
   omega
  rw [h4] at h3
  have h5 : Lib.bitLen 1 = 1 := by decide +kernel
  omega
theorem len64_wid (x S : Nat) (w : World) (hx : Lt64 x) (hS : wid x = S) : Calls Tryz.prog 97 #[.int .u64 (x : Int)] w fun e w' => e = .returned (.int .i64 (S : Int)) ∧ w = w' := by
 have := len64_any x w hx
 rwa [bitLen_wid hx.out, hS] at this
set_option maxHeartbeats 1000000 in
/-- The document's own width. -/
theorem rwidth_any (x S : Nat) (w : World) (hx : Lt64 x) (hS : wid x = S) : Calls Tryz.prog 74 #[.int .u64 (x : Int)] w fun e w' => e = .returned (.int .i64 (S : Int)) ∧ w = w' := by
 have hS64 : S ≤ 64 := by rw [← hS]; exact wid_le x
 have hlt : Hid (x < 2 ^ S) := Lib.hid (by rw [← hS]; exact wid_lt hx.out)
 have hle : Hid (∀ j, j < S → ¬ x < 2 ^ j) := Lib.hid (fun j h => wid_least (by rw [hS]; exact h))
 clear hS
 go_enter Tryz.func74, Tryz.ntmps74
 go_wp2_with fail
 go_loopg [3] S (fun l s3 wr => ∃ i : Nat, i + l = S ∧ s3 = .int .i64 (i : Int) ∧ w = wr)
 case atStart => exact ⟨0, by omega, rfl, rfl⟩
 case round =>
  obtain ⟨i, hil, rfl, rfl⟩ := hrel
  have Hil := Lib.hid hil
  clear hil
  have hw8 : IntKind.u64.wrap (i : Int) = (i : Int) := by rw [IntKind.wrap_u64]; have := Hil.out; omega
  by_cases hi : i < S
  ·have hb := div_some (hle.out i hi)
   have hi64 : (i : Int) < 64 := by omega
   have hmin : min i 64 = i := by omega
   go_wp2_with fail
   go_roundg (gk - 1)
   case measure => have := Hil.out; omega
   case rel => exact ⟨i + 1, by have := Hil.out; omega, by go_num, rfl⟩
  ·have hiS : i = S := by have := Hil.out; omega
   subst hiS
   have hb := div_nought hlt.out
   have hmin : min i 64 = i := by omega
   by_cases h64 : i < 64
   ·go_wp2_with fail
    go_ret
    exact ⟨rfl, rfl⟩
   ·go_wp2_with fail
    go_ret
    exact ⟨rfl, rfl⟩
end Go.Proofs.YthgoppmgapaajaaGreatDoor

/- A dictionary's list: how many bits a place has; the values that are unlike, and where each stands. -/
namespace Go.Proofs.YthgoppmgapaajaaGreatDoor
open Go.RowKit Go.Maps

set_option maxHeartbeats 1000000 in
theorem len_wid (x S : Nat) (w : World) (hx : Lt64 x) (hS : wid x = S) : Calls Tryz.prog 117 #[.int .u64 (x : Int)] w fun e w' => e = .returned (.int .i64 (S : Int)) ∧ w = w' := by
 have Hc := Lib.hid (len64_wid x S w hx hS)
 have hxi : (x : Int) % 18446744073709551616 = (x : Int) := by have := hx.out; omega
 clear hx hS
 go_enter Tryz.func117, Tryz.ntmps117
 go_wp2_with fail
 refine Hc.out.mono ?_
 rintro e w1 ⟨rfl, rfl⟩
 go_wp2_with fail
 go_ret
 exact ⟨rfl, rfl⟩
set_option maxHeartbeats 1000000 in
theorem dsize_any (A : Option Addr) (L c S : Nat) (w : World) (hL : ¬ L = 0) (hL2 : L ≤ 1000000) (hS : wid (L - 1) = S) : Calls Tryz.prog 100 #[.slice A L c] w fun e w' => e = .returned (.int .i64 (S : Int)) ∧ w = w' := by
 obtain ⟨y, hy⟩ : ∃ y, y = L - 1 := ⟨_, rfl⟩
 rw [← hy] at hS
 have hyi : (L : Int) - 1 = (y : Int) := by omega
 have hyL : y ≤ 1000000 := by omega
 have Hc := Lib.hid (fun W => len_wid y S W (by unfold Lt64; omega) hS)
 clear hy hS
 go_enter Tryz.func100, Tryz.ntmps100
 go_wp2_with fail
 refine (Hc.out _).mono ?_
 rintro e w1 ⟨rfl, rfl⟩
 go_wp2_with fail
 go_ret
 exact ⟨rfl, rfl⟩
/-- What unlike has made of i values. -/
def UnlTo (w wr : World) (us : List Nat) (i : Nat) (v : Value) : Prop :=
 ∃ D : DataW Unit, Own (w.heap.size + 1) wr 34 v (cellsU (uniq (us.take i))) ∧ OMap wr w.heap.size i D ∧ Plcs D (uniq (us.take i)) ∧ (uniq (us.take i)).length ≤ 256 ∧ Mod (fun _ => False) w wr
/-- What unlike answers. -/
def UnlE (w w' : World) (us : List Nat) (e : Ending) : Prop :=
 ∃ (v : Value) (b n : Nat) (D : DataW Unit) (l : List Nat), e = .returned (.tuple #[v, .map (some b)]) ∧ w.heap.size ≤ b ∧ Own w.heap.size w' 34 v (cellsU l) ∧ OMap w' b n D ∧ Mod (fun _ => False) w w' ∧ l.length ≤ 257 ∧
  ((256 < l.length ∧ 256 < (uniq us).length) ∨ (l = uniq us ∧ l.length ≤ 256 ∧ Plcs D l))
theorem uniq_take_le (us : List Nat) (i : Nat) : (uniq (us.take i)).length ≤ (uniq us).length := by
 obtain ⟨t, ht⟩ := uniq_app (us.take i) (us.drop i)
 rw [List.take_append_drop] at ht
 rw [ht, List.length_append]
 omega
set_option maxHeartbeats 4000000 in
set_option maxRecDepth 100000 in
theorem unlike_any (A : Option Addr) (n cap B : Nat) (us : List Nat) (w : World) (hs : Rds w B A n (cellsU us)) (hB : B ≤ w.heap.size) (hu : ∀ x ∈ us, x < 2 ^ 64) (hn : n ≤ 1000000) :
  Calls Tryz.prog 99 #[.slice A n cap] w fun e w' => UnlE w w' us e := by
 have hul : us.length = n := by have := hs.1; rwa [cellsU_length] at this
 have hmm := @run_makeMap Tryz.prog
 have U0 : Hid (UnlTo w (w.alloc (.map #[] 0)) us 0 (.slice none 0 0)) := Lib.hid ⟨.map [], Own.nil _ _ _, OMap.made w, Plcs.nil, Nat.zero_le _, (Mod.refl _ _).alloc _⟩
 have Hs := Lib.hid hs; have Hu := Lib.hid hu; have HB := Lib.hid hB; have Hul := Lib.hid hul
 clear hs hu hB hul
 go_enter Tryz.func99, Tryz.ntmps99
 go_wp2_with fail
 go_loopg [4, 13] n (fun l s4 s13 wr => ∃ i : Nat, i + l = n ∧ s13 = .int .i64 (i : Int) ∧ UnlTo w wr us i s4)
 case atStart => exact ⟨0, by omega, rfl, U0.out⟩
 case round =>
  obtain ⟨i, hil, rfl, D, hown, hmap, hplc, hlen, hm⟩ := hrel
  have Hown := Lib.hid hown; have Hmap := Lib.hid hmap; have Hplc := Lib.hid hplc; have Hlen := Lib.hid hlen; have Hm := Lib.hid hm; have Hil := Lib.hid hil
  clear hown hmap hplc hlen hm hil U0 hmm
  by_cases hin : i < n
  ·obtain ⟨ad, x, rfl, hx, hcx⟩ := Hs.out.at2 hin HB.out Hm.out (fun _ _ h => h)
   have Hx64 := Lib.hid (Hu.out x (List.mem_of_getElem? hx))
   have Htk := Lib.hid (take_succ_of hx)
   have hi0 : (0 : Int) ≤ (i : Int) := by omega
   clear hx
   by_cases hin2 : x ∈ uniq (us.take i)
   ·have hhas : Maps.has D (.int .u64 (x : Int)) = true := by rw [Hplc.out.2.1, decide_eq_true hin2]
    have Hq : Hid (uniq (us.take (i + 1)) = uniq (us.take i)) := Lib.hid (by rw [Htk.out, uniq_snoc, if_pos hin2])
    clear hin2
    go_wp2_with (at_lookup; refine wpList_lookup_own_ok_int _ rfl _ _ 130 rfl 34 34 .u64 lawU Tryz.underlying130 Tryz.underlying34 (zeroU _) w.heap.size i D rfl Hmap.out _ _ rfl (keyU Hx64.out) ?_; intro c hat hwc; clear hat hwc)
    go_roundg (gk - 1)
    case measure => have := Hil.out; omega
    case rel => exact ⟨i + 1, by have := Hil.out; omega, by go_num, D, by rw [Hq.out]; exact Hown.out, Hmap.out.mono (by omega), by rw [Hq.out]; exact Hplc.out, by rw [Hq.out]; exact Hlen.out, Hm.out⟩
   ·have hhas : Maps.has D (.int .u64 (x : Int)) = false := by rw [Hplc.out.2.1, decide_eq_false hin2]
    obtain ⟨A4, L, c4, rfl, HL, _, _⟩ := own_formUN Hown.out
    have hL256 : L ≤ 256 := by have := HL.out; have := Hlen.out; omega
    have hLi : L ≤ i := by have h1 := uniq_le (us.take i); have h2 := HL.out; rw [List.length_take] at h1; omega
    have Hq : Hid (uniq (us.take (i + 1)) = uniq (us.take i) ++ [x]) := Lib.hid (by rw [Htk.out, uniq_snoc, if_neg hin2])
    have Hput : Hid (Plcs (D.put (.int .u64 (x : Int)) (.lit (.int .u64 (L : Int)))) (uniq (us.take (i + 1)))) := Lib.hid (by have h := Hplc.out.put hin2; rw [HL.out] at h; rw [Hq.out]; exact h)
    have Hlt := Lib.hid Hmap.out.lt
    have hr1 : (cellsU (uniq (us.take i))).length + 1 ≤ maxLen := by rw [cellsU_length, HL.out]; unfold maxLen; omega
    have hr2 : ((cellsU (uniq (us.take i))).length + 1) * 8 ≤ 140737488355328 := by rw [cellsU_length, HL.out]; omega
    have him : i < maxLen := by unfold maxLen; omega
    have HL' : Hid (∀ L', (uniq (us.take (i + 1))).length = L' → L' = L + 1) := Lib.hid (fun L' h => by rw [Hq.out, List.length_append, HL.out] at h; exact h.symm)
    have Hmono : Hid ((uniq (us.take (i + 1))).length ≤ (uniq us).length) := Lib.hid (uniq_take_le us (i + 1))
    have Hr1 := Lib.hid hr1; have Hr2 := Lib.hid hr2; have Him := Lib.hid him
    clear hin2 hr1 hr2 him
    go_wp2_with (first
     | (at_lookup; refine wpList_lookup_own_ok_int _ rfl _ _ 130 rfl 34 34 .u64 lawU Tryz.underlying130 Tryz.underlying34 (zeroU _) w.heap.size i D rfl Hmap.out _ _ rfl (keyU Hx64.out) ?_; intro c hat hwc; clear hat hwc)
     | (at_mapUpdate; refine wpList_mapUpdate_own _ rfl _ _ _ 130 rfl 34 34 lawU Tryz.underlying130 (plainElem (H := Unit) Tryz.prog 34) w.heap.size i D rfl Hmap.out Him.out _ _ _ rfl rfl (keyU Hx64.out) (.lit (.int .u64 (L : Int))) [] (plainElem_int Tryz.underlying34 (WalkArith.wf_u64 (by omega))) ?_; intro w1 hmap1 hgrow1; have Hmap1 : Hid (OMap w1 w.heap.size (i + 1) (D.put (.int .u64 (x : Int)) (.lit (.int .u64 (L : Int))))) := Lib.hid hmap1; have Hown1 := Lib.hid (Hown.out.far hgrow1 (fun e => by have := (Hown.out.block _ e.symm).1; omega)); have Hm1 := Lib.hid (Hm.out.grown hgrow1 (fun k hk hlt => by injection hk with hk; omega)); have hsz1 : w.heap.size + 1 ≤ w1.heap.size := Nat.lt_of_lt_of_le Hlt.out hgrow1.size; clear hmap1 hgrow1)
     | (at_builtin; refine wpList_app1 rfl (.tmp 29) (.tmp 31) _ rfl eltU rfl Hown1.out rfl rfl rfl Hr1.out Hr2.out hsz1 ?_; intro v' w2 HO HBl; have HO' : Hid (Own (w.heap.size + 1) w2 34 v' (cellsU (uniq (us.take (i + 1))))) := Lib.hid (by rw [Hq.out, cellsU_snoc]; exact HO.out); clear HO; obtain ⟨A5, L5, c5, rfl, HL5, _, _⟩ := own_formUN HO'.out; obtain rfl := HL'.out L5 HL5.out))
    ·have Hmap2 := Lib.hid (Hmap1.out.mod (Mod.of_below HBl.out) (by omega))
     have Hm2 := Lib.hid (Hm1.out.trans (Mod.of_below HBl.out) (fun i hi h => by omega))
     go_ret2
     exact ⟨_, w.heap.size, _, _, _, rfl, Nat.le_refl _, HO'.out.mono (Nat.le_succ _), Hmap2.out, Hm2.out, by have := HL5.out; omega, .inl ⟨by have := HL5.out; omega, by have := HL5.out; have := Hmono.out; omega⟩⟩
    ·have Hmap2 := Lib.hid (Hmap1.out.mod (Mod.of_below HBl.out) (by omega))
     have Hm2 := Lib.hid (Hm1.out.trans (Mod.of_below HBl.out) (fun i hi h => by omega))
     go_roundg (gk - 1)
     case measure => have := Hil.out; omega
     case rel => exact ⟨i + 1, by have := Hil.out; omega, by go_num, _, HO'.out, Hmap2.out, Hput.out, by have := HL5.out; omega, Hm2.out⟩
  ·have hi : i = n := by have := Hil.out; omega
   subst hi
   go_wp2_with fail
   go_ret2
   have e : us.take i = us := List.take_of_length_le (by rw [Hul.out]; exact Nat.le_refl _)
   have h1 := Hown.out; have h2 := Hplc.out; have h3 := Hlen.out
   rw [e] at h1 h2 h3
   exact ⟨_, w.heap.size, _, _, _, rfl, Nat.le_refl _, h1.mono (Nat.le_succ _), Hmap.out, Hm.out, by omega, .inr ⟨rfl, h3, h2⟩⟩
end Go.Proofs.YthgoppmgapaajaaGreatDoor

/- A row of values is told by its runs: Encode. -/
namespace Go.Proofs.YthgoppmgapaajaaGreatDoor
open Go.RowKit

/-- What the loop has told of the first i values. -/
def LencTo (w wr : World) (us : List Nat) (i : Nat) (v : Value) : Prop :=
 ∃ done, Own w.heap.size wr 5 v (cells8 done) ∧ encR us = done ++ encR (us.drop i) ∧ done.length ≤ 20 * i ∧ Mod (fun _ => False) w wr
theorem lenc_step {us done : List Nat} {i x : Nat} (hx : (us.drop i)[0]? = some x) (h : encR us = done ++ encR (us.drop i)) :
  encR us = ((done ++ enc (lead x (us.drop i))) ++ enc x) ++ encR (us.drop (i + lead x (us.drop i))) := by
 rw [h, encR_at (by rw [List.getElem?_drop] at hx; simpa using hx), List.append_assoc, List.append_assoc]
set_option maxHeartbeats 4000000 in
set_option maxRecDepth 100000 in
theorem lenc_any (A : Option Addr) (n cap B : Nat) (us : List Nat) (w : World) (hs : Rds w B A n (cellsU us)) (hB : B ≤ w.heap.size) (hu : ∀ x ∈ us, x < 2 ^ 64) (hn : n ≤ 1000000) (hcap : n ≤ cap) :
  Calls Tryz.prog 81 #[.slice A n cap] w fun e w' => ∃ v, e = .returned v ∧ Own w.heap.size w' 5 v (cells8 (encR us)) ∧ Mod (fun _ => False) w w' := by
 have hul : us.length = n := by have := hs.1; rwa [cellsU_length] at this
 have H0 : Hid (LencTo w w us 0 (.slice none 0 0)) := Lib.hid ⟨[], Own.nil _ _ _, by rw [List.drop_zero]; rfl, Nat.zero_le _, Mod.refl _ _⟩
 have Hs := Lib.hid hs; have Hu := Lib.hid hu; have HB := Lib.hid hB; have Hul := Lib.hid hul
 clear hs hu hB hul
 go_enter Tryz.func81, Tryz.ntmps81
 go_wp2_with fail
 go_loopg [0, 3] n (fun l s0 s3 wr => ∃ (i : Nat) (Ai : Option Addr) (ci : Nat), i + l = n ∧ s0 = .slice Ai l ci ∧ l ≤ ci ∧ Rds wr B Ai l (cellsU (us.drop i)) ∧ LencTo w wr us i s3)
 case atStart => exact ⟨0, A, cap, by omega, rfl, hcap, by rw [List.drop_zero]; exact Hs.out, H0.out⟩
 case round =>
  obtain ⟨i, Ai, ci, hil, rfl, hci, hr, hE⟩ := hrel
  have Hil := Lib.hid hil; have Hr := Lib.hid hr; have HE := Lib.hid hE
  clear hil hr hE H0 Hs
  by_cases hg : 0 < gk
  ·go_wp2_with fail
   obtain ⟨done, hown, henc, hdl, hm⟩ := HE.out
   have Hm := Lib.hid hm
   have Hown := Lib.hid hown; have Hdl := Lib.hid hdl; have Henc := Lib.hid henc
   have hBr : Hid (B ≤ wr.heap.size) := Lib.hid (Nat.le_trans HB.out hm.size)
   clear hm hown hdl henc
   refine (lfirst_any Ai gk ci B (us.drop i) wr Hr.out hBr.out (by have := Hil.out; omega) hg).mono ?_
   rintro e w1 ⟨x, hx, rfl, hm1⟩
   have hst := lenc_step hx Henc.out
   have hlp : 1 ≤ lead x (us.drop i) := by
    cases hd : us.drop i with
    | nil => rw [hd] at hx; cases hx
    | cons y ys => rw [hd] at hx; injection hx with hx; subst hx; exact lead_pos _ _
   have hll : lead x (us.drop i) ≤ gk := by
    have h := lead_le x (us.drop i)
    rw [List.length_drop, Hul.out] at h
    have := Hil.out
    omega
   obtain ⟨k, hk⟩ : ∃ k, lead x (us.drop i) = k := ⟨_, rfl⟩
   rw [hk] at hst hlp hll ⊢
   have hx64 : Lt64 x := by
    have h := Hu.out x (List.mem_of_mem_drop (List.mem_of_getElem? hx))
    unfold Lt64
    omega
   have hk64 : Lt64 k := by have := Hil.out; unfold Lt64; omega
   obtain ⟨W1, hW1⟩ : ∃ W1, W1 = w1.alloc (.cells #[.int .u64 (k : Int), .int .u64 (x : Int)] 127) := ⟨_, rfl⟩
   have hmW : Mod (fun _ => False) w1 W1 := by rw [hW1]; exact (Mod.refl _ _).alloc _
   have hbW : Blk W1 w1.heap.size 127 #[.int .u64 (k : Int), .int .u64 (x : Int)] := by rw [hW1]; exact Blk.new _ _ _
   have hmm := (Hm.out.trans hm1 (fun _ _ h => h)).trans hmW (fun _ _ h => h)
   have hownW := (Hown.out.mod hm1).mod hmW
   have hrW := (Hr.out.mod hm1 hBr.out (fun _ _ h => h)).mod hmW (Nat.le_trans hBr.out hm1.size) (fun _ _ h => h)
   have hd0 := hbW.cell 0
   have hd1 := hbW.cell 1
   simp at hd0 hd1
   have Hst := Lib.hid hst; have HW1 := Lib.hid hW1; have HbW := Lib.hid hbW; have Hmm := Lib.hid hmm; have HownW := Lib.hid hownW; have HrW := Lib.hid hrW; have Hx64 := Lib.hid hx64; have Hk64 := Lib.hid hk64
   have hBW : Hid (B ≤ W1.heap.size) := Lib.hid (Nat.le_trans hBr.out (Nat.le_trans hm1.size hmW.size))
   clear hx hk hst hW1 hmW hbW hm1 hmm hownW hrW Hr Hown hx64 hk64 HE
   go_wp2_with (first | (rw [← HW1.out]))
   refine (vput_any none 0 0 0 [] k W1 (Rds.nil _ _ _) (by omega) Hk64.out).mono ?_
   rintro e w2 ⟨v2, rfl, ho2, hb2⟩
   rw [List.nil_append] at ho2
   obtain ⟨A2, c2, rfl, _, _, hr2⟩ := own_form8 ho2
   have hq10 := enc_len10 Hk64.out.out
   have hq10' := enc_len10 Hx64.out.out
   have Hq := Lib.hid hq10; have Hq' := Lib.hid hq10'
   have Hown2 := Lib.hid (HownW.out.below hb2); have Hr2 := Lib.hid hr2
   have hb2b := HbW.out.below hb2 HbW.out.lt
   have Hb2b := Lib.hid hb2b
   have Hm2 := Lib.hid (Hmm.out.trans (mod_below hb2) (fun _ _ h => h))
   have Hrr2 := Lib.hid (HrW.out.mod (mod_below hb2) hBW.out (fun _ _ h => h))
   have hB2 : Hid (B ≤ w2.heap.size) := Lib.hid (Nat.le_trans hBW.out hb2.size)
   have hsz2 : w.heap.size ≤ w2.heap.size := Hm2.out.size
   have hR1 := Room.mk (cells8 done).length (enc k).length (by rw [cells8_length]; have := Hdl.out; have := Hil.out; omega)
   have HR1 := Lib.hid hR1
   have hone : Hid (∀ u ∈ cells8 (enc k), u.oneCell' = true) := Lib.hid (cells8_one _)
   have hone' : Hid (∀ u ∈ cells8 (enc x), u.oneCell' = true) := Lib.hid (cells8_one _)
   clear hq10 hq10' hb2 ho2 hr2 hb2b hR1 hd0 hd1 HownW HbW
   go_wp2_with (at_builtin; refine wpList_app rfl (.tmp 10) (.tmp 13) _ rfl elt8 rfl Hown2.out rfl Hr2.out hone.out HR1.out.1 HR1.out.2 hsz2 ?_; intro v3 w3 HO3 HBl3 HG3; have hb3 := Hb2b.out.app Hown2.out (by decide) HG3.out.1; have hd0 := hb3.cell 0; have hd1 := hb3.cell 1; simp at hd0 hd1; have Hb3 := Lib.hid hb3; clear hone HG3 hb3)
   have hO3 : Own w.heap.size w3 5 v3 (cells8 (done ++ enc k)) := by
    have h := HO3.out
    rwa [cells8_app] at h
   have HO3' := Lib.hid hO3
   have Hm3 := Lib.hid (Hm2.out.trans (Mod.of_below HBl3.out) (fun i hi h => by omega))
   have Hrr3 := Lib.hid (Hrr2.out.mod (Mod.of_below HBl3.out) hB2.out (fun j hj h => by have := HB.out; omega))
   clear hO3 HO3 HBl3 Hrr2 Hm2
   refine (vput_any none 0 0 0 [] x w3 (Rds.nil _ _ _) (by omega) Hx64.out).mono ?_
   rintro e w4 ⟨v4, rfl, ho4, hb4⟩
   rw [List.nil_append] at ho4
   obtain ⟨A4, c4, rfl, _, _, hr4⟩ := own_form8 ho4
   have Hown4 := Lib.hid (HO3'.out.below hb4); have Hr4 := Lib.hid hr4
   have Hb4b := Lib.hid (Hb3.out.below hb4 Hb3.out.lt)
   have Hm4 := Lib.hid (Hm3.out.trans (mod_below hb4) (fun _ _ h => h))
   have hB3 : Hid (B ≤ w3.heap.size) := Lib.hid (Nat.le_trans HB.out Hm3.out.size)
   have Hrr4 := Lib.hid (Hrr3.out.mod (mod_below hb4) hB3.out (fun _ _ h => h))
   have hsz4 : w.heap.size ≤ w4.heap.size := Hm4.out.size
   have hR2 := Room.mk (cells8 (done ++ enc k)).length (enc x).length (by rw [cells8_length, List.length_append]; have := Hdl.out; have := Hil.out; have := Hq.out; have := Hq'.out; omega)
   have HR2 := Lib.hid hR2
   obtain ⟨A5, hA5⟩ : ∃ A5, (if ci = k then Ai else Ai.map (·.add k)) = A5 := ⟨_, rfl⟩
   have Hr5 : Hid (Rds w4 B A5 (gk - k) ((cellsU (us.drop i)).drop k)) := Lib.hid (by rw [← hA5]; exact Hrr4.out.drop hll hci)
   have hkci : (k : Int) ≤ (ci : Int) := by omega
   have hkgi : (k : Int) ≤ (gk : Int) := by omega
   have hk0 : (0 : Int) ≤ (k : Int) := by omega
   clear hb4 ho4 hr4 hR2 hd0 hd1 HO3' Hb3 Hrr3 Hm3 Hown2 Hr2 Hb2b HR1
   go_wp2_with (at_builtin; refine wpList_app rfl (.tmp 15) (.tmp 18) _ rfl elt8 rfl Hown4.out rfl Hr4.out hone'.out HR2.out.1 HR2.out.2 hsz4 ?_; intro v5 w5 HO5 HBl5 HG5; have hb5 := Hb4b.out.app Hown4.out (by decide) HG5.out.1; have hd0 := hb5.cell 0; have hd1 := hb5.cell 1; simp at hd0 hd1; clear HG5 hb5)
   have hO5 : Own w.heap.size w5 5 v5 (cells8 ((done ++ enc k) ++ enc x)) := by
    have h := HO5.out
    rwa [cells8_app] at h
   have Hm5 := Lib.hid (Hm4.out.trans (Mod.of_below HBl5.out) (fun i hi h => by omega))
   have hB4 : B ≤ w4.heap.size := Nat.le_trans HB.out Hm4.out.size
   have Hr6 : Hid (Rds w5 B A5 (gk - k) (cellsU (us.drop (i + k)))) := Lib.hid (by
    have h := Hr5.out.mod (Mod.of_below HBl5.out) hB4 (fun j hj h => by have := HB.out; omega)
    rwa [show (cellsU (us.drop i)).drop k = cellsU (us.drop (i + k)) by simp [cellsU, ← List.map_drop]] at h)
   have HE5 : Hid (LencTo w w5 us (i + k) v5) := Lib.hid ⟨_, hO5, Hst.out, by rw [List.length_append, List.length_append]; have := Hdl.out; have := Hq.out; have := Hq'.out; omega, Hm5.out⟩
   clear hA5 hO5 HO5 HBl5 hB4 Hr5 Hrr4
   go_roundg (gk - k)
   case measure => omega
   case rel => exact ⟨i + k, A5, ci - k, by have := Hil.out; omega, rfl, by omega, Hr6.out, HE5.out⟩
  ·go_wp2_with fail
   go_ret
   obtain ⟨done, hown, henc, hdl, hm⟩ := HE.out
   have e : encR us = done := by
    rw [henc, List.drop_of_length_le (by have := Hul.out; have := Hil.out; omega), encR_nil, List.append_nil]
   rw [e]
   exact ⟨_, rfl, hown, hm⟩
end Go.Proofs.YthgoppmgapaajaaGreatDoor

/- The least and the greatest of a row of values of 64 bits: slices.Min, slices.Max; min and max as rules for whatever world. -/
namespace Go.Proofs.YthgoppmgapaajaaGreatDoor
open Go.RowKit

theorem minU_is {P : Program} {t ty : TypeId} {n1 n2 m : Nat} (h : min n1 n2 = m) : ∀ w, (Builtin.min_ #[t, t] ty #[.int .u64 (n1 : Int), .int .u64 (n2 : Int)]).run P w = .ok (.int .u64 (m : Int)) w := by
 intro w
 have hx : (if (n2 : Int) < (n1 : Int) then (n2 : Int) else (n1 : Int)) = (m : Int) := by
  split <;> omega
 simp only [Builtin.min_, List.foldlM, Builtin.min2, Sem.run_bind, Sem.run_pure, Result.andThen_ok, hx]
theorem maxU_is {P : Program} {t ty : TypeId} {n1 n2 m : Nat} (h : max n1 n2 = m) : ∀ w, (Builtin.max_ #[t, t] ty #[.int .u64 (n1 : Int), .int .u64 (n2 : Int)]).run P w = .ok (.int .u64 (m : Int)) w := by
 intro w
 have hx : (if (n1 : Int) < (n2 : Int) then (n2 : Int) else (n1 : Int)) = (m : Int) := by
  split <;> omega
 simp only [Builtin.max_, List.foldlM, Builtin.max2, Sem.run_bind, Sem.run_pure, Result.andThen_ok, hx]
/-- The least, and the greatest, of the first i. -/
def loI (us : List Nat) (i : Nat) : Nat := (us.take i).foldl min (us.getD 0 0)
def hiI (us : List Nat) (i : Nat) : Nat := (us.take i).foldl max (us.getD 0 0)
theorem loI_all {us : List Nat} {i : Nat} (h : us.length ≤ i) : loI us i = loV us := by unfold loI loV; rw [List.take_of_length_le h]
theorem hiI_all {us : List Nat} {i : Nat} (h : us.length ≤ i) : hiI us i = hiV us := by unfold hiI hiV; rw [List.take_of_length_le h]
theorem loI_succ {us : List Nat} {i x : Nat} (h : us[i]? = some x) : loI us (i + 1) = min (loI us i) x := by
 unfold loI; rw [take_succ_of h, List.foldl_append]; rfl
theorem hiI_succ {us : List Nat} {i x : Nat} (h : us[i]? = some x) : hiI us (i + 1) = max (hiI us i) x := by
 unfold hiI; rw [take_succ_of h, List.foldl_append]; rfl
theorem loI_one {us : List Nat} {x : Nat} (h : us[0]? = some x) : loI us 1 = x := by
 rw [loI_succ (i := 0) h]
 show min (us.getD 0 0) x = x
 rw [List.getD_eq_getElem?_getD, h]
 exact Nat.min_self x
theorem hiI_one {us : List Nat} {x : Nat} (h : us[0]? = some x) : hiI us 1 = x := by
 rw [hiI_succ (i := 0) h]
 show max (us.getD 0 0) x = x
 rw [List.getD_eq_getElem?_getD, h]
 exact Nat.max_self x
theorem loI_zero (us : List Nat) : loI us 0 = us.getD 0 0 := rfl
theorem hiI_zero (us : List Nat) : hiI us 0 = us.getD 0 0 := rfl
theorem add_nought (a : Addr) : a.add 0 = a := by unfold Addr.add; simp
set_option maxHeartbeats 1000000 in
theorem umin_any (A : Option Addr) (n cap B L : Nat) (us : List Nat) (w : World) (hs : Rds w B A n (cellsU us)) (hB : B ≤ w.heap.size) (h0 : 0 < n) (hn : n ≤ 1000000) (hL : loV us = L) :
  Calls Tryz.prog 96 #[.slice A n cap] w fun e w' => e = .returned (.int .u64 (L : Int)) ∧ w = w' := by
 have hul : us.length = n := by have := hs.1; rwa [cellsU_length] at this
 have Hs := Lib.hid hs; have HB := Lib.hid hB; have Hul := Lib.hid hul; have HL := Lib.hid hL
 obtain ⟨ad, x0, rfl, hx0, hc0⟩ := hs.at2 h0 hB (Mod.refl (fun _ => False) w) (fun _ _ h => h)
 have hc0' := hc0
 rw [add_nought] at hc0'
 have h1 := Lib.hid (loI_one hx0)
 clear hs hB hul hL hx0
 go_enter Tryz.func96, Tryz.ntmps96
 go_wp2_with fail
 clear hc0 hc0'
 go_loopg [3, 4] (n - 1) (fun l s3 s4 wr => ∃ (i m : Nat), i + l = n ∧ 0 < i ∧ s4 = .int .i64 (i : Int) ∧ s3 = .int .u64 (m : Int) ∧ Hid (loI us i = m) ∧ w = wr)
 case atStart => exact ⟨1, x0, by omega, by omega, rfl, rfl, h1, rfl⟩
 case round =>
  obtain ⟨i, m, hil, hi0, rfl, rfl, hm, rfl⟩ := hrel
  have Hil := Lib.hid hil
  clear hil h1
  by_cases hin : i < n
  ·obtain ⟨ad', x, he, hx, hcx⟩ := Hs.out.at2 hin HB.out (Mod.refl (fun _ => False) w) (fun _ _ h => h)
   injection he with he
   subst he
   obtain ⟨m2, hm2⟩ : ∃ m2, min m x = m2 := ⟨_, rfl⟩
   have hmin := minU_is (P := Tryz.prog) (t := 34) (ty := 34) hm2
   have Hm2 : Hid (loI us (i + 1) = m2) := Lib.hid (by rw [loI_succ hx, hm.out, hm2])
   have hi1 : (0 : Int) ≤ (i : Int) := by omega
   clear hx hm2
   go_wp2_with fail
   go_roundg (gk - 1)
   case measure => have := Hil.out; omega
   case rel => exact ⟨i + 1, m2, by have := Hil.out; omega, by omega, by go_num, rfl, Hm2, rfl⟩
  ·go_wp2_with fail
   go_ret
   have e : m = L := by rw [← hm.out, ← HL.out]; exact loI_all (by have := Hul.out; omega)
   subst e
   exact ⟨rfl, rfl⟩
set_option maxHeartbeats 1000000 in
theorem umax_any (A : Option Addr) (n cap B L : Nat) (us : List Nat) (w : World) (hs : Rds w B A n (cellsU us)) (hB : B ≤ w.heap.size) (h0 : 0 < n) (hn : n ≤ 1000000) (hL : hiV us = L) :
  Calls Tryz.prog 98 #[.slice A n cap] w fun e w' => e = .returned (.int .u64 (L : Int)) ∧ w = w' := by
 have hul : us.length = n := by have := hs.1; rwa [cellsU_length] at this
 have Hs := Lib.hid hs; have HB := Lib.hid hB; have Hul := Lib.hid hul; have HL := Lib.hid hL
 obtain ⟨ad, x0, rfl, hx0, hc0⟩ := hs.at2 h0 hB (Mod.refl (fun _ => False) w) (fun _ _ h => h)
 have hc0' := hc0
 rw [add_nought] at hc0'
 have h1 := Lib.hid (hiI_one hx0)
 clear hs hB hul hL hx0
 go_enter Tryz.func98, Tryz.ntmps98
 go_wp2_with fail
 clear hc0 hc0'
 go_loopg [3, 4] (n - 1) (fun l s3 s4 wr => ∃ (i m : Nat), i + l = n ∧ 0 < i ∧ s4 = .int .i64 (i : Int) ∧ s3 = .int .u64 (m : Int) ∧ Hid (hiI us i = m) ∧ w = wr)
 case atStart => exact ⟨1, x0, by omega, by omega, rfl, rfl, h1, rfl⟩
 case round =>
  obtain ⟨i, m, hil, hi0, rfl, rfl, hm, rfl⟩ := hrel
  have Hil := Lib.hid hil
  clear hil h1
  by_cases hin : i < n
  ·obtain ⟨ad', x, he, hx, hcx⟩ := Hs.out.at2 hin HB.out (Mod.refl (fun _ => False) w) (fun _ _ h => h)
   injection he with he
   subst he
   obtain ⟨m2, hm2⟩ : ∃ m2, max m x = m2 := ⟨_, rfl⟩
   have hmax := maxU_is (P := Tryz.prog) (t := 34) (ty := 34) hm2
   have Hm2 : Hid (hiI us (i + 1) = m2) := Lib.hid (by rw [hiI_succ hx, hm.out, hm2])
   have hi1 : (0 : Int) ≤ (i : Int) := by omega
   clear hx hm2
   go_wp2_with fail
   go_roundg (gk - 1)
   case measure => have := Hil.out; omega
   case rel => exact ⟨i + 1, m2, by have := Hil.out; omega, by omega, by go_num, rfl, Hm2, rfl⟩
  ·go_wp2_with fail
   go_ret
   have e : m = L := by rw [← hm.out, ← HL.out]; exact hiI_all (by have := Hul.out; omega)
   subst e
   exact ⟨rfl, rfl⟩
theorem difV_at {us : List Nat} {i x L : Nat} (h : us[i]? = some x) (hL : loV us = L) : (difV us)[i]? = some (x - L) := by
 unfold difV
 rw [List.getElem?_map, h, hL]
 rfl
end Go.Proofs.YthgoppmgapaajaaGreatDoor

/- The numbers of a word: unpack. -/
namespace Go.Proofs.YthgoppmgapaajaaGreatDoor
open Go.RowKit

theorem nums_len (k w m : Nat) : (nums k w m).length = m := by simp [nums]
theorem nums_snoc (k w i : Nat) : nums k w (i + 1) = nums k w i ++ [if bitN k = 0 then 0 else w / 2 ^ (i * bitN k) % 2 ^ bitN k] := by
 unfold nums
 rw [List.range_succ, List.map_append]
 rfl
theorem nums_lt {k w m : Nat} (hk : k < 16) : ∀ x ∈ nums k w m, x < 2 ^ 60 := by
 intro x hx
 unfold nums at hx
 obtain ⟨j, _, rfl⟩ := List.mem_map.1 hx
 show (if bitN k = 0 then 0 else w / 2 ^ (j * bitN k) % 2 ^ bitN k) < 2 ^ 60
 split
 ·exact Nat.two_pow_pos _
 ·exact Nat.lt_of_lt_of_le (Nat.mod_lt _ (Nat.two_pow_pos _)) (Nat.pow_le_pow_right (by omega) (num_pos hk).2.2.2)
/-- What the text's operations give of one number. -/
theorem unpack_one {k w i : Nat} (hk : k < 16) (hw : w < 2 ^ 64) (hi : i < numN k) :
  ∃ p y q m r : Nat, p = i * bitN k ∧ p ≤ 60 ∧ y = w / 2 ^ p ∧ q = 2 ^ bitN k ∧ m = q - 1 ∧ 1 ≤ q ∧ q ≤ 2 ^ 60 ∧ y < 2 ^ 64 ∧ r = (if bitN k = 0 then 0 else w / 2 ^ (i * bitN k) % 2 ^ bitN k) ∧ bits .and .u64 (y : Int) (m : Int) = (r : Int) := by
 have hnp := num_pos hk
 have h1 : (i + 1) * bitN k ≤ 60 := Nat.le_trans (Nat.mul_le_mul_right _ hi) hnp.2.2.1
 have hq : 2 ^ bitN k ≤ 2 ^ 60 := Nat.pow_le_pow_right (by omega) hnp.2.2.2
 have hy : w / 2 ^ (i * bitN k) < 2 ^ 64 := Nat.lt_of_le_of_lt (Nat.div_le_self _ _) hw
 refine ⟨i * bitN k, w / 2 ^ (i * bitN k), 2 ^ bitN k, 2 ^ bitN k - 1, _, rfl, by rw [Nat.add_mul] at h1; omega, rfl, rfl, rfl, Nat.two_pow_pos _, hq, hy, rfl, ?_⟩
 rw [u64_and_nat _ _ hy (by omega), Nat.and_two_pow_sub_one_eq_mod]
 split
 ·rename_i h
  rw [h, Nat.pow_zero, Nat.mod_one]
 ·rfl
/-- What the loop has read. -/
def UnpTo (w wr : World) (h k x i : Nat) (c s : Nat) (v : Value) : Prop := Own (h + 1) wr 34 v (cellsU (nums k x i)) ∧ Blk wr h 148 #[.int .i64 (c : Int), .int .i64 (s : Int)] ∧ Mod (fun _ => False) w wr
set_option maxHeartbeats 4000000 in
set_option maxRecDepth 100000 in
theorem unpack_any (k x : Nat) (M : Nat) (w : World) (hx : x < 2 ^ 64) (hk : x / 2 ^ 60 = k) (hkin : Kin w) :
  Calls Tryz.prog 137 #[.int .u64 (x : Int), .int .i64 (M : Int)] w fun e w' => ∃ v, e = .returned v ∧ Own w.heap.size w' 34 v (cellsU (nums k x (min (numN k) M))) ∧ Mod (fun _ => False) w w' := by
 have hk16 : k < 16 := by omega
 have hnp := num_pos hk16
 obtain ⟨c, hc⟩ : ∃ c, c = numN k := ⟨_, rfl⟩
 obtain ⟨s, hs⟩ : ∃ s, s = bitN k := ⟨_, rfl⟩
 have hc2 : c ≤ 240 := by rw [hc]; exact hnp.2.1
 have hs2 : s ≤ 60 := by rw [hs]; exact hnp.2.2.2
 have hd1 := (hkin.2 k hk16).2
 have hd0 := (hkin.2 k hk16).1
 rw [← hc] at hd0
 rw [← hs] at hd1
 obtain ⟨m, hm⟩ : ∃ m, min c M = m := ⟨_, rfl⟩
 have hmin := min2_is (P := Tryz.prog) (t := 3) (ty := 3) hm
 have hmc : m ≤ c := by omega
 obtain ⟨W, hW⟩ : ∃ W, W = w.alloc (.cells #[.int .i64 (c : Int), .int .i64 (s : Int)] 148) := ⟨_, rfl⟩
 have hmW : Mod (fun _ => False) w W := by rw [hW]; exact (Mod.refl _ _).alloc _
 have hbW : Blk W w.heap.size 148 #[.int .i64 (c : Int), .int .i64 (s : Int)] := by rw [hW]; exact Blk.new _ _ _
 have hx60 : (x : Int) / 1152921504606846976 = (k : Int) := by omega
 have Hc := Lib.hid hc; have Hss := Lib.hid hs; have HW := Lib.hid hW; have HbW := Lib.hid hbW; have Hm := Lib.hid hm; have Hx := Lib.hid hx
 have H0 : Hid (UnpTo w W w.heap.size k x 0 c s (.slice none 0 0)) := Lib.hid ⟨Own.nil _ _ _, hbW, hmW⟩
 have hh0 := hbW.cell 0
 simp at hh0
 have hkk : (k : Int) < 16 := by omega
 have hk0 : (0 : Int) ≤ (k : Int) := by omega
 clear hc hs hW hbW hmW hm hnp hkin hk hx
 go_enter Tryz.func137, Tryz.ntmps137
 go_wp2_with (first | (rw [← HW.out]))
 clear hmin hd0 hd1 hh0 HW HbW
 go_loopg [6, 16] m (fun l s6 s16 wr => ∃ i : Nat, i + l = m ∧ s16 = .int .i64 (i : Int) ∧ UnpTo w wr w.heap.size k x i c s s6)
 case atStart => exact ⟨0, by omega, rfl, H0.out⟩
 case round =>
  obtain ⟨i, hil, rfl, hU⟩ := hrel
  have HU := Lib.hid hU; have Hil := Lib.hid hil
  clear hil hU
  by_cases hin : i < m
  ·obtain ⟨hown, hblk, hm⟩ := HU.out
   obtain ⟨h, hh⟩ : ∃ h, h = w.heap.size := ⟨_, rfl⟩
   rw [← hh] at hown hblk ⊢
   have hc1 := hblk.cell 1
   simp at hc1
   have hX : ∀ W, Below (h + 1) wr W → W.cell? ⟨h, 1, none⟩ = some (.int .i64 (s : Int)) := fun W hW => (hW.cell (p := ⟨h, 1, none⟩) (by simp)).trans hc1
   have hle : h + 1 ≤ wr.heap.size := hblk.lt
   obtain ⟨p, y, q, mk, r, hp, hp60, hy, hq, hmk, hq1, hq60, hy64, hr, hand⟩ := unpack_one (i := i) hk16 Hx.out (by rw [← Hc.out]; omega)
   have hpi : IntKind.i64.wrap ((i : Int) * (s : Int)) = (p : Int) := by
    have e : (i : Int) * (s : Int) = (p : Int) := by rw [hp, Hss.out]; simp
    rw [e, IntKind.wrap_i64]
    omega
   have hyi : (x : Int) / 2 ^ p = (y : Int) := by rw [hy, Int.natCast_ediv]; simp
   have hqi : IntKind.u64.wrap ((2 : Int) ^ s) = (q : Int) := by
    have e : (2 : Int) ^ s = (q : Int) := by rw [hq, Hss.out]; simp
    rw [e, IntKind.wrap_u64]
    omega
   have hmi : IntKind.u64.wrap ((q : Int) - 1) = (mk : Int) := by rw [IntKind.wrap_u64]; omega
   have Hsn : Hid (nums k x (i + 1) = nums k x i ++ [r]) := Lib.hid (by rw [nums_snoc, hr])
   have hr1 : (cellsU (nums k x i)).length + 1 ≤ maxLen := by rw [cellsU_length, nums_len]; unfold maxLen; omega
   have hr2 : ((cellsU (nums k x i)).length + 1) * 8 ≤ 140737488355328 := by rw [cellsU_length, nums_len]; omega
   have Hown := Lib.hid hown; have Hblk := Lib.hid hblk; have Hm2 := Lib.hid hm; have HX := Lib.hid hX; have Hh := Lib.hid hh
   have Hone : Hid (∀ u ∈ (#[Value.int .u64 (r : Int)] : Array Value).toList, u.oneCell' = true) := Lib.hid (by simp [Value.oneCell'])
   clear hown hblk hm hX hh hp hy hq hmk hq60 hy64 hr hq1
   go_upto_region 6 with fail
   go_region_held_law (fun w' => w'.cell? ⟨h, 1, none⟩ = some (.int .i64 (s : Int)))
    (first | exact HX.out _ (Below.refl _ _).drew | exact HX.out _ (((Below.refl _ _).drew).alloc hle _) | exact HX.out _ HBB.out)
    (first
     | (refine step_app rfl (.tmp 19) (.tmp 31) _ rfl eltU rfl ((Hown.out.drew).alloc _) rfl (Rds.lit _ 34 #[.int .u64 (r : Int)]) Hone.out hr1 hr2 (Nat.le_trans hle (le_alloc _ _)) ?_; intro v' w2 HO HB HG; clear HG; have HBB : Hid (Below (h + 1) wr w2) := Lib.hid ((((Below.refl _ _).drew).alloc hle _).trans HB.out)))
   have HU2 : Hid (UnpTo w w2 h k x (i + 1) c s v') := Lib.hid ⟨by rw [Hsn.out, cellsU_snoc]; exact HO.out, Hblk.out.below HBB.out (by omega), Hm2.out.trans (Mod.of_below HBB.out) (fun i hi e => by have := Hh.out; omega)⟩
   go_wp2_with fail
   obtain rfl := Hh.out
   go_roundg (gk - 1)
   case measure => have := Hil.out; omega
   case rel => exact ⟨i + 1, by have := Hil.out; omega, by go_num, HU2.out⟩
  ·go_wp2_with fail
   go_ret
   have hi : i = m := by have := Hil.out; omega
   subst hi
   rw [← Hc.out, Hm.out]
   exact ⟨_, rfl, HU.out.1.mono (by omega), HU.out.2.2⟩
end Go.Proofs.YthgoppmgapaajaaGreatDoor

/- Two rows of words compared, whatever they are: SameWords, slices.Equal. -/
namespace Go.Proofs.YthgoppmgapaajaaGreatDoor
open Go.RowKit

/-- The first i are alike. -/
def AlikeTo (xs ys : List Nat) (i : Nat) : Prop := ∀ j, j < i → xs[j]? = ys[j]?
theorem AlikeTo.more {xs ys : List Nat} {i x : Nat} (h : AlikeTo xs ys i) (hx : xs[i]? = some x) (hy : ys[i]? = some x) : AlikeTo xs ys (i + 1) := by
 intro j hj
 rcases Nat.lt_or_ge j i with h1 | h1
 ·exact h j h1
 ·obtain rfl : j = i := by omega
  rw [hx, hy]
theorem AlikeTo.all {xs ys : List Nat} {n : Nat} (h : AlikeTo xs ys n) (hx : xs.length = n) (hy : ys.length = n) : xs = ys := by
 apply List.ext_getElem?
 intro j
 rcases Nat.lt_or_ge j n with h1 | h1
 ·exact h j h1
 ·rw [List.getElem?_eq_none (by omega), List.getElem?_eq_none (by omega)]
theorem bool_ret {a b : Bool} (h : a = b) : Ending.returned (.bool a) = .returned (.bool b) := by rw [h]
theorem unlike_len {xs ys : List Nat} {n m : Nat} (hx : xs.length = n) (hy : ys.length = m) (h : ¬ n = m) : decide (xs = ys) = false := by
 rw [decide_eq_false_iff_not]
 rintro rfl
 omega
theorem unlike_at {xs ys : List Nat} {i x y : Nat} (hx : xs[i]? = some x) (hy : ys[i]? = some y) (h : ¬ x = y) : decide (xs = ys) = false := by
 rw [decide_eq_false_iff_not]
 rintro rfl
 rw [hx] at hy
 injection hy with hy
 exact h hy
set_option maxHeartbeats 1000000 in
theorem equal_any (A A2 : Option Addr) (n n2 c c2 B B2 : Nat) (xs ys : List Nat) (w : World) (h1 : Rds w B A n (cellsU xs)) (h2 : Rds w B2 A2 n2 (cellsU ys)) (hn : n ≤ 1000000) (hn2 : n2 ≤ 140737488355328) :
  Calls Tryz.prog 138 #[.slice A n c, .slice A2 n2 c2] w fun e w' => e = .returned (.bool (decide (xs = ys))) ∧ Mod (fun _ => False) w w' := by
 have hx : xs.length = n := by have := h1.1; rwa [cellsU_length] at this
 have hy : ys.length = n2 := by have := h2.1; rwa [cellsU_length] at this
 have H1 := Lib.hid h1.fit; have H2 := Lib.hid h2.fit; have Hx := Lib.hid hx; have Hy := Lib.hid hy
 clear h1 h2 hx hy
 by_cases hnn : n = n2
 ·subst hnn
  go_enter Tryz.func138, Tryz.ntmps138
  go_wp2_with fail
  go_loopg [13] n (fun l s13 wr => ∃ i : Nat, i + l = n ∧ s13 = .int .i64 (i : Int) ∧ AlikeTo xs ys i ∧ Mod (fun _ => False) w wr)
  case atStart => exact ⟨0, by omega, rfl, (fun j h => by omega), Mod.refl _ _⟩
  case round =>
   obtain ⟨i, hil, rfl, ha, hm⟩ := hrel
   have Hm := Lib.hid hm; have Hil := Lib.hid hil; have Ha := Lib.hid ha
   clear hm hil ha
   by_cases hin : i < n
   ·obtain ⟨ad, x, rfl, hx, hc⟩ := H1.out.at2 hin (Nat.le_refl _) Hm.out (fun _ _ h => h)
    obtain ⟨ad2, y, rfl, hy, hc2⟩ := H2.out.at2 hin (Nat.le_refl _) Hm.out (fun _ _ h => h)
    have Hx2 := Lib.hid hx; have Hy2 := Lib.hid hy
    clear hx hy
    by_cases hxy : x = y
    ·subst hxy
     go_upto_region 6 with fail
     go_quiet (fail)
     go_wp2_with fail
     go_roundg (gk - 1)
     case measure => have := Hil.out; omega
     case rel => exact ⟨i + 1, by have := Hil.out; omega, by go_num, Ha.out.more Hx2.out Hy2.out, Hm.out.drewN _⟩
    ·have hxb : ((x : Int) != (y : Int)) = true := by simp only [bne_iff_ne, ne_eq]; omega
     have Hxy := Lib.hid hxy
     clear hxy
     go_upto_region 6 with fail
     go_quiet (fail)
     go_wp2_with fail
     go_ret
     exact ⟨bool_ret (unlike_at Hx2.out Hy2.out Hxy.out).symm, Hm.out.drewN _⟩
   ·go_wp2_with fail
    go_ret
    have hi : i = n := by have := Hil.out; omega
    subst hi
    exact ⟨bool_ret (decide_eq_true (Ha.out.all Hx.out Hy.out)).symm, Hm.out⟩
 ·have hnb : ((n : Int) != (n2 : Int)) = true := by simp only [bne_iff_ne, ne_eq]; omega
  have Hnn := Lib.hid hnn
  clear hnn
  go_enter Tryz.func138, Tryz.ntmps138
  go_wp2_with fail
  go_ret
  exact ⟨bool_ret (unlike_len Hx.out Hy.out Hnn.out).symm, Mod.refl _ _⟩
end Go.Proofs.YthgoppmgapaajaaGreatDoor

/- Words are read: Decode. -/
namespace Go.Proofs.YthgoppmgapaajaaGreatDoor
open Go.RowKit

/-- What the loop has read of the first i words. -/
def DecTo (w wr : World) (ws : List Nat) (N i L : Nat) (v : Value) : Prop :=
 ∃ out, Own w.heap.size wr 34 v (cellsU out) ∧ out.length = L ∧ L ≤ N ∧ (∀ x ∈ out, x < 2 ^ 60) ∧ rdS N ws = out ++ rdS (N - L) (ws.drop i) ∧ Mod (fun _ => False) w wr
theorem dec_step {ws out : List Nat} {N L i x : Nat} (hx : ws[i]? = some x) (h : rdS N ws = out ++ rdS (N - L) (ws.drop i)) :
  rdS N ws = (out ++ nums (x / 2 ^ 60) x (min (numN (x / 2 ^ 60)) (N - L))) ++ rdS (N - (L + min (numN (x / 2 ^ 60)) (N - L))) (ws.drop (i + 1)) := by
 have hd : ws.drop i = x :: ws.drop (i + 1) := drop_at' hx
 rw [h, hd]
 show out ++ (nums (x / 2 ^ 60) x (min (numN (x / 2 ^ 60)) (N - L)) ++ rdS (N - L - min (numN (x / 2 ^ 60)) (N - L)) (ws.drop (i + 1))) = _
 rw [List.append_assoc, Nat.sub_sub]
theorem decS_few {N : Nat} {ws : List Nat} (h : (rdS N ws).length < N) : decS N ws = none := by
 unfold decS
 rw [if_neg (fun h2 => by omega)]
theorem decS_is {N : Nat} {ws told : List Nat} (h : (rdS N ws).length = N) (ht : encS (rdS N ws) = some told) : decS N ws = if told = ws then some (rdS N ws) else none := by
 unfold decS
 rw [ht]
 by_cases e : told = ws
 ·rw [if_pos e, if_pos ⟨h, by rw [e]⟩]
 ·rw [if_neg e, if_neg (fun h2 => e (by injection h2.2))]
set_option maxHeartbeats 1000000 in
set_option maxRecDepth 100000 in
theorem sdec_any (A : Option Addr) (n cap B N : Nat) (m : Int) (ws : List Nat) (w : World) (hs : Rds w B A n (cellsU ws)) (hB : B ≤ w.heap.size) (hu : ∀ x ∈ ws, x < 2 ^ 64) (hn : n ≤ 1000000) (hN : max 0 (min m 65535) = (N : Int)) (hk : Kin w) :
  Calls Tryz.prog 124 #[.slice A n cap, .int .i64 m] w fun e w' => EncE w w' (decS N ws) e := by
 have hul : ws.length = n := by have := hs.1; rwa [cellsU_length] at this
 have H0 : Hid (DecTo w w ws N 0 0 (.slice none 0 0)) := Lib.hid ⟨[], Own.nil _ _ _, rfl, Nat.zero_le _, (fun _ h => by cases h), by rw [List.drop_zero]; rfl, Mod.refl _ _⟩
 have Hs := Lib.hid hs; have Hu := Lib.hid hu; have HB := Lib.hid hB; have Hul := Lib.hid hul; have Hkin := Lib.hid hk
 obtain ⟨mn, hmn⟩ : ∃ mn : Int, min m 65535 = mn := ⟨_, rfl⟩
 have hmin := minI_is (P := Tryz.prog) (t := 3) (ty := 3) hmn
 have hmax := maxI_is (P := Tryz.prog) (t := 3) (ty := 3) (n1 := 0) (n2 := mn) (m := (N : Int)) (by rw [← hmn]; exact hN)
 have hN65 : N ≤ 65535 := by omega
 clear hs hu hB hul hk hN hmn
 go_enter Tryz.func124, Tryz.ntmps124
 go_wp2_with fail
 clear hmin hmax
 go_loopg [6, 16] n (fun l s6 s16 wr => ∃ (i L : Nat) (Av : Option Addr) (cv : Nat), i + l = n ∧ s16 = .int .i64 (i : Int) ∧ s6 = .slice Av L cv ∧ L ≤ cv ∧ DecTo w wr ws N i L (.slice Av L cv))
 case atStart => exact ⟨0, 0, none, 0, by omega, rfl, rfl, Nat.le_refl _, H0.out⟩
 case round =>
  obtain ⟨i, L, Av, cv, hil, rfl, rfl, hLc, hD⟩ := hrel
  have HD := Lib.hid hD; have Hil := Lib.hid hil
  clear hD hil H0
  obtain ⟨out, hown, hol, hLN, ho60, hrd, hm⟩ := HD.out
  have Hown := Lib.hid hown; have Hol := Lib.hid hol; have Ho60 := Lib.hid ho60; have Hrd := Lib.hid hrd; have Hm := Lib.hid hm
  clear hown hol ho60 hrd hm
  by_cases hin : i < n
  ·obtain ⟨ad, x, rfl, hx, hcx⟩ := Hs.out.at2 hin HB.out Hm.out (fun _ _ h => h)
   have Hx := Lib.hid hx
   have hxl := Lib.hid (Hu.out x (List.mem_of_getElem? hx))
   obtain ⟨d, hd⟩ : ∃ d : Nat, d = N - L := ⟨_, rfl⟩
   have hdi : (N : Int) - (L : Int) = (d : Int) := by omega
   have Hd := Lib.hid hd
   have hd65 : d ≤ 65535 := by omega
   obtain ⟨k, hk⟩ : ∃ k, x / 2 ^ 60 = k := ⟨_, rfl⟩
   have Hk := Lib.hid hk
   clear hx hd hk
   go_wp2_with fail
   refine (unpack_any k x d _ hxl.out Hk.out (Hkin.out.new Hm.out)).mono ?_
   rintro e w1 ⟨v, rfl, ho1, hm1⟩
   obtain ⟨A1, c1, rfl, _, hr1⟩ := own_formU ho1
   have Hr1 := Lib.hid hr1
   have hst := dec_step Hx.out Hrd.out
   rw [Hk.out, ← Hd.out] at hst
   have hlt := nums_lt (k := k) (w := x) (m := min (numN k) d) (by have := hxl.out; have := Hk.out; omega)
   rw [nums_len] at Hr1 ⊢
   obtain ⟨q, hq⟩ : ∃ q, q = min (numN k) d := ⟨_, rfl⟩
   rw [← hq] at hst hlt Hr1 ⊢
   have hqd : q ≤ d := by omega
   have hLq : L + q ≤ N := by have := Hd.out; omega
   have hnl : (nums k x q).length = q := nums_len _ _ _
   have Hst := Lib.hid hst; have Hlt := Lib.hid hlt; have Hnl := Lib.hid hnl
   have Hown1 := Lib.hid (hm1.owns Hown.out (fun _ _ h => h))
   have Hm1 := Lib.hid (Hm.out.trans hm1 (fun _ _ h => h))
   have Hone : Hid (∀ u ∈ cellsU (nums k x q), u.oneCell' = true) := Lib.hid (by
    intro u hu
    simp only [cellsU, List.mem_map] at hu
    obtain ⟨b, _, rfl⟩ := hu
    rfl)
   have hr1 : (cellsU out).length + q ≤ maxLen := by rw [cellsU_length]; unfold maxLen; have := Hol.out; omega
   have hr2 : ((cellsU out).length + q) * 8 ≤ 140737488355328 := by rw [cellsU_length]; have := Hol.out; omega
   have hsz : w.heap.size ≤ w1.heap.size := Hm1.out.size
   clear hst hlt hnl hm1 ho1 hq hdi hcx
   go_wp2_with (at_builtin; refine wpList_app rfl (.tmp 20) (.tmp 26) _ rfl eltU rfl Hown1.out rfl Hr1.out Hone.out hr1 hr2 hsz ?_; intro v' w2 HO HBl HG; clear HG)
   have hO : Own w.heap.size w2 34 v' (cellsU (out ++ nums k x q)) := by
    have h := HO.out
    rw [show cellsU out ++ cellsU (nums k x q) = cellsU (out ++ nums k x q) by simp [cellsU]] at h
    exact h
   obtain ⟨A2, c2, rfl, hc2, _⟩ := own_formU hO
   have hl2 : (out ++ nums k x q).length = L + q := by rw [List.length_append, Hol.out, Hnl.out]
   rw [hl2] at hO hc2 ⊢
   have HD2 : Hid (DecTo w w2 ws N (i + 1) (L + q) (.slice A2 (L + q) c2)) := Lib.hid ⟨_, hO, hl2, hLq, (fun y hy => by
    rcases List.mem_append.1 hy with hy | hy
    ·exact Ho60.out y hy
    ·exact Hlt.out y hy), Hst.out, Hm1.out.trans (Mod.of_below HBl.out) (fun i hi h => by omega)⟩
   have HC2 := Lib.hid hc2
   clear hO hl2 hc2
   go_wp2_with fail
   go_roundg (gk - 1)
   case measure => have := Hil.out; omega
   case rel => exact ⟨i + 1, L + q, A2, c2, by have := Hil.out; omega, by go_num, rfl, HC2.out, HD2.out⟩
  ·have hi : i = n := by have := Hil.out; omega
   have hrw : rdS N ws = out := by
    rw [Hrd.out, List.drop_of_length_le (by have := Hul.out; omega)]
    show out ++ [] = out
    simp
   have Hrw := Lib.hid hrw
   clear hrw
   by_cases hLl : L < N
   ·go_wp2_with fail
    go_ret2
    rw [decS_few (by rw [Hrw.out, Hol.out]; exact hLl)]
    exact ⟨rfl, Hm.out⟩
   ·obtain ⟨told, htold⟩ := encS_can _ out rfl Ho60.out
    obtain ⟨htl, ht64⟩ := encS_len _ out told rfl htold
    have Htold := Lib.hid htold; have Htl := Lib.hid htl; have Ht64 := Lib.hid ht64
    have hLN' : L = N := by omega
    have Hdec : Hid (decS N ws = if told = ws then some out else none) := Lib.hid (by
     have h := decS_is (N := N) (ws := ws) (told := told) (by rw [Hrw.out, Hol.out]; exact hLN') (by rw [Hrw.out]; exact htold)
     rw [Hrw.out] at h
     exact h)
    have HLN := Lib.hid hLN'; have Hi := Lib.hid hi
    clear htold htl ht64 hLN' hi
    have Ho64 : Hid (∀ x ∈ out, x < 2 ^ 64) := Lib.hid fun x hx => Nat.lt_of_lt_of_le (Ho60.out x hx) (Nat.pow_le_pow_right (by omega) (by omega))
    have Hro : Hid (Rds wr wr.heap.size Av L (cellsU out)) := Lib.hid (Hown.out.rds Hol.out)
    go_wp2_with fail
    refine (enc_any Av L cv _ out wr Hro.out (Nat.le_refl _) Ho64.out (by omega) hLc (Hkin.out.new Hm.out)).mono ?_
    intro e w1 hE
    obtain ⟨v, rfl, ho1, hm1⟩ := hE.some_ Htold.out
    obtain ⟨A1, c1, rfl, _, hr1⟩ := own_formU ho1
    have Hr1 := Lib.hid hr1
    have Hown1 := Lib.hid (hm1.owns Hown.out (fun _ _ h => h))
    have Hm1 := Lib.hid (Hm.out.trans hm1 (fun _ _ h => h))
    have Hs1 := Lib.hid (Hs.out.mod Hm1.out HB.out (fun _ _ h => h))
    clear hE ho1 hm1 hr1
    by_cases hb : told = ws
    ·have hbb : decide (told = ws) = true := decide_eq_true hb
     have Hb := Lib.hid hb; have Hbb := Lib.hid hbb
     clear hb hbb
     go_wp2_with fail
     refine (equal_any A1 A told.length n c1 cap _ _ told ws w1 Hr1.out Hs1.out (by have := Htl.out; have := Hol.out; omega) (by omega)).mono ?_
     rintro e w2 ⟨rfl, hm2⟩
     have Hm2 := Lib.hid hm2
     rw [Hbb.out]
     clear hm2
     go_wp2_with fail
     go_ret2
     rw [Hdec.out, if_pos Hb.out]
     exact ⟨_, rfl, Hm2.out.owns Hown1.out (fun _ _ h => h), Hm1.out.trans Hm2.out (fun _ _ h => h)⟩
    ·have hbb : decide (told = ws) = false := decide_eq_false hb
     have Hb := Lib.hid hb; have Hbb := Lib.hid hbb
     clear hb hbb
     go_wp2_with fail
     refine (equal_any A1 A told.length n c1 cap _ _ told ws w1 Hr1.out Hs1.out (by have := Htl.out; have := Hol.out; omega) (by omega)).mono ?_
     rintro e w2 ⟨rfl, hm2⟩
     have Hm2 := Lib.hid hm2
     rw [Hbb.out]
     clear hm2
     go_wp2_with fail
     go_ret2
     rw [Hdec.out, if_neg Hb.out]
     exact ⟨rfl, Hm1.out.trans Hm2.out (fun _ _ h => h)⟩
end Go.Proofs.YthgoppmgapaajaaGreatDoor

/- The list that bytes begin with: getList. -/
namespace Go.Proofs.YthgoppmgapaajaaGreatDoor
open Go.RowKit Go.Maps

/-- What getList answers. -/
def GetLE (w w' : World) (bs : List Nat) (e : Ending) : Prop :=
 ∃ (A1 : Option Addr) (L c1 : Nat) (l : List Nat) (A2 : Option Addr) (n2 c2 : Nat), e = .returned (.tuple #[.slice A1 L c1, .slice A2 n2 c2]) ∧ Own w.heap.size w' 34 (.slice A1 L c1) (cellsU l) ∧ l.length = L ∧ Mod (fun _ => False) w w' ∧
  ((L = 0 ∧ ∀ l rest, getL bs = some (l, rest) → (dec bs).1 = 0) ∨ (¬ L = 0 ∧ ∃ rest, getL bs = some (l, rest) ∧ Rds w' w'.heap.size A2 n2 (cells8 rest) ∧ A2 ≠ none ∧ n2 ≤ c2 ∧ c2 ≤ maxLen))
/-- What getList has read of i numbers. -/
def GetLTo (w wr : World) (b1 : List Nat) (i : Nat) (s0 s6 : Value) : Prop :=
 ∃ (A : Option Addr) (n c : Nat) (l r : List Nat), s0 = .slice A n c ∧ n ≤ c ∧ c ≤ maxLen ∧ Rds wr w.heap.size A n (cells8 r) ∧ rdV i b1 = some (l, r) ∧ Own w.heap.size wr 34 s6 (cellsU l) ∧ Mod (fun _ => False) w wr ∧ (i = 0 ∨ A ≠ none)
set_option maxHeartbeats 4000000 in
set_option maxRecDepth 100000 in
theorem getList_any (A : Option Addr) (n cap B : Nat) (bs : List Nat) (w : World) (hs : Rds w B A n (cells8 bs)) (hB : B ≤ w.heap.size) (hlt : lt256 bs) (hnc : n ≤ cap) (hcm : cap ≤ maxLen) :
  Calls Tryz.prog 140 #[.slice A n cap] w fun e w' => GetLE w w' bs e := by
 have hul : bs.length = n := by have := hs.1; rwa [cells8_length] at this
 have hcall := vget_any A n cap B bs w hs hlt hnc hcm
 obtain ⟨K, hK⟩ : ∃ K, (dec bs).1 = K := ⟨_, rfl⟩
 obtain ⟨p, hp⟩ : ∃ p, (dec bs).2 = p := ⟨_, rfl⟩
 have hpn : p ≤ n := by
  rw [← hp, ← hul]
  rcases Nat.eq_zero_or_pos (dec bs).2 with h | h
  ·omega
  ·exact (dec_some hlt h).1
 rw [hK, hp] at hcall
 by_cases hK256 : 256 < K
 ·have hKi : (256 : Int) < (K : Int) := by omega
  have Hn : Hid (∀ l rest, getL bs = some (l, rest) → (dec bs).1 = 0) := Lib.hid (fun l rest h => by unfold getL at h; rw [if_pos (by rw [hK]; exact hK256)] at h; cases h)
  have Hcall := Lib.hid hcall
  clear hs hcall hK hp hpn hul hK256
  go_enter Tryz.func140, Tryz.ntmps140
  go_wp2_with fail
  refine Hcall.out.mono ?_
  rintro e w' ⟨rfl, rfl⟩
  go_wp2_with fail
  go_ret2
  exact ⟨none, 0, 0, [], none, 0, 0, rfl, Own.nil _ _ _, rfl, Mod.refl _ _, .inl ⟨rfl, Hn.out⟩⟩
 ·have hKi : ¬ (256 : Int) < (K : Int) := by omega
  obtain ⟨A1, hA1⟩ : ∃ A1, (if cap = p then A else A.map (·.add p)) = A1 := ⟨_, rfl⟩
  have hr1 : Rds w w.heap.size A1 (n - p) (cells8 (bs.drop p)) := by
   have h := (hs.more hB).drop hpn hnc
   rw [show (cells8 bs).drop p = cells8 (bs.drop p) by simp [cells8, List.map_drop]] at h
   rw [← hA1]
   exact h
  have hpi : (p : Int) ≤ (n : Int) := by omega
  have hpc : (p : Int) ≤ (cap : Int) := by omega
  have hp0 : (0 : Int) ≤ (p : Int) := by omega
  have HgL : Hid (getL bs = rdV K (bs.drop p)) := Lib.hid (by unfold getL; rw [hK, hp, if_neg hK256])
  have G0 : Hid (GetLTo w w (bs.drop p) 0 (.slice A1 (n - p) (cap - p)) (.slice none 0 0)) := Lib.hid ⟨A1, n - p, cap - p, [], bs.drop p, rfl, by omega, by omega, hr1, rfl, Own.nil _ _ _, Mod.refl _ _, .inl rfl⟩
  have Hlt : Hid (lt256 (bs.drop p)) := Lib.hid (fun b hb => hlt b (List.mem_of_mem_drop hb))
  have Hcall := Lib.hid hcall; have HK := Lib.hid hK
  have hK2 : K ≤ 256 := by omega
  clear hs hcall hK hp hul hr1 hpn hlt hB hcm hnc hK256
  go_enter Tryz.func140, Tryz.ntmps140
  go_wp2_with fail
  refine Hcall.out.mono ?_
  rintro e w' ⟨rfl, rfl⟩
  go_wp2_with fail
  clear hpi hpc hp0 hA1
  go_loopg [0, 6, 20] K (fun l s0 s6 s20 wr => ∃ i : Nat, i + l = K ∧ s20 = .int .u64 (i : Int) ∧ GetLTo w wr (bs.drop p) i s0 s6)
  case atStart => exact ⟨0, by omega, rfl, G0.out⟩
  case round =>
   obtain ⟨i, hil, rfl, A0, n0, c0, l, r, rfl, hnc0, hcm0, hr0, hrd, hown, hm, hA0⟩ := hrel
   obtain ⟨hl1, hl2, hl3, _⟩ := rdV_some _ _ _ _ Hlt.out hrd
   have hrl : r.length = n0 := by have := hr0.1; rwa [cells8_length] at this
   have Hr0 := Lib.hid hr0; have Hrd := Lib.hid hrd; have Hown := Lib.hid hown; have Hm := Lib.hid hm; have HA0 := Lib.hid hA0; have Hil := Lib.hid hil; have Hl1 := Lib.hid hl1; have Hl3 := Lib.hid hl3
   have Hcm0 := Lib.hid hcm0
   clear hr0 hrd hown hm hA0 hil G0 hl1 hl2 hl3 hcm0
   by_cases hin : i < K
   ·have hcall := vget_any A0 n0 c0 _ r wr Hr0.out Hl3.out hnc0 Hcm0.out
    have hx64 : (dec r).1 < 2 ^ 64 := dec_lt Hl3.out
    have hst := rdV_succ i (bs.drop p)
    rw [Hrd.out] at hst
    have hst' : rdV (i + 1) (bs.drop p) = if (dec r).2 = 0 then none else some (l ++ [(dec r).1], r.drop (dec r).2) := hst
    have hqr : (dec r).2 ≤ r.length := by
     rcases Nat.eq_zero_or_pos (dec r).2 with h | h
     ·omega
     ·exact (dec_some Hl3.out h).1
    obtain ⟨x, hx⟩ : ∃ x, (dec r).1 = x := ⟨_, rfl⟩
    obtain ⟨q, hq⟩ : ∃ q, (dec r).2 = q := ⟨_, rfl⟩
    rw [hx, hq] at hcall hst'
    rw [hx] at hx64
    rw [hq, hrl] at hqr
    have Hcall2 := Lib.hid hcall
    clear hcall hst hrl hx hq
    by_cases hq0 : q = 0
    ·have hqb : ((q : Int) == 0) = true := by simp; omega
     have Hn : Hid (∀ l rest, getL bs = some (l, rest) → (dec bs).1 = 0) := Lib.hid (fun l rest h => by
      rw [HgL.out, rdV_none_le (hst'.trans (if_pos hq0)) (by omega)] at h
      cases h)
     clear hst' hx64 hq0 hqr
     go_wp2_with fail
     refine Hcall2.out.mono ?_
     rintro e w' ⟨rfl, rfl⟩
     go_wp2_with fail
     go_ret2
     exact ⟨none, 0, 0, [], none, 0, 0, rfl, Own.nil _ _ _, rfl, Hm.out, .inl ⟨rfl, Hn.out⟩⟩
    ·have hqb : ((q : Int) == 0) = false := by simp; omega
     obtain ⟨A1', hA1⟩ : ∃ A1, (if c0 = q then A0 else A0.map (·.add q)) = A1 := ⟨_, rfl⟩
     have hr1 : Rds wr w.heap.size A1' (n0 - q) (cells8 (r.drop q)) := by
      have h := Hr0.out.drop hqr hnc0
      rw [show (cells8 r).drop q = cells8 (r.drop q) by simp [cells8, List.map_drop]] at h
      rw [← hA1]
      exact h
     have hA1n : A1' ≠ none := by
      obtain ⟨ad, e, _⟩ := Hr0.out.2 (by omega)
      rw [← hA1, e]
      split <;> simp
     have Hr1 := Lib.hid hr1; have HA1n := Lib.hid hA1n
     have Hst : Hid (rdV (i + 1) (bs.drop p) = some (l ++ [x], r.drop q)) := Lib.hid (hst'.trans (if_neg hq0))
     have hqi : (q : Int) ≤ (n0 : Int) := by omega
     have hqc : (q : Int) ≤ (c0 : Int) := by omega
     have hqz : (0 : Int) ≤ (q : Int) := by omega
     have hnc1 : n0 - q ≤ c0 - q := by omega
     have hcm1 : Hid (c0 - q ≤ maxLen) := Lib.hid (by have := Hcm0.out; omega)
     have hra : (cellsU l).length + 1 ≤ maxLen := by rw [cellsU_length, Hl1.out]; unfold maxLen; omega
     have hrb : ((cellsU l).length + 1) * 8 ≤ 140737488355328 := by rw [cellsU_length, Hl1.out]; omega
     have Hra := Lib.hid hra; have Hrb := Lib.hid hrb
     clear hst' hx64 hq0 hr1 hA1n hra hrb
     go_wp2_with fail
     refine Hcall2.out.mono ?_
     rintro e w' ⟨rfl, rfl⟩
     go_wp2_with (at_builtin; refine wpList_app1 rfl (.tmp 29) (.tmp 31) _ rfl eltU rfl Hown.out rfl rfl rfl Hra.out Hrb.out Hm.out.size ?_; intro v' w2 HO HBl)
     have HG : Hid (GetLTo w w2 (bs.drop p) (i + 1) (.slice A1' (n0 - q) (c0 - q)) v') := Lib.hid ⟨A1', n0 - q, c0 - q, l ++ [x], r.drop q, rfl, hnc1, hcm1.out, Hr1.out.below HBl.out, Hst.out, by rw [cellsU_snoc]; exact HO.out, Hm.out.trans (Mod.of_below HBl.out) (fun i hi h => by omega), .inr HA1n.out⟩
     clear HO HBl
     go_roundg (gk - 1)
     case measure => have := Hil.out; omega
     case rel => exact ⟨i + 1, by have := Hil.out; omega, by go_num, HG.out⟩
   ·have hi : i = K := by have := Hil.out; omega
    subst hi
    obtain ⟨A6, L, c6, rfl, HL, _, _⟩ := own_formUN Hown.out
    go_wp2_with fail
    go_ret2
    have hLi : L = i := by have h1 := HL.out; have h2 := Hl1.out; omega
    refine ⟨A6, L, c6, l, A0, n0, c0, rfl, Hown.out, HL.out, Hm.out, ?_⟩
    by_cases hL0 : L = 0
    ·exact .inl ⟨hL0, fun _ _ _ => by rw [HK.out]; omega⟩
    ·exact .inr ⟨hL0, r, HgL.out.trans Hrd.out, Hr0.out.more Hm.out.size, HA0.out.resolve_left (by omega), hnc0, Hcm0.out⟩
end Go.Proofs.YthgoppmgapaajaaGreatDoor

/- slices.Repeat of a row of one value; bits.Mul where nothing goes over. -/
namespace Go.Proofs.YthgoppmgapaajaaGreatDoor
open Go.RowKit

/-- A product of one factor 1 does not go over. -/
theorem mul64_one (k : Nat) (w : World) (hk : k ≤ 65535) : Calls Tryz.prog 142 #[.int .u64 1, .int .u64 (k : Int)] w fun e w' => e = .returned (.tuple #[.int .u64 0, .int .u64 (k : Int)]) ∧ w = w' := by
 have h2 : bits .and .u64 (k : Int) 4294967295 = (k : Int) := by
  rw [show (4294967295 : Int) = ((4294967295 : Nat) : Int) from rfl, u64_and_nat k _ (by omega) (by omega)]
  congr 1
  exact (Nat.and_two_pow_sub_one_eq_mod k 32).trans (Nat.mod_eq_of_lt (by omega))
 have h3 : (k : Int) / 4294967296 = 0 := by omega
 have h1 : bits .and .u64 1 4294967295 = 1 := by decide
 have h4 : bits .and .u64 0 4294967295 = 0 := by decide
 go_enter Tryz.func142, Tryz.ntmps142
 go_wp2
 go_ret2
 exact ⟨rfl, rfl⟩
theorem mul_one (k : Nat) (w : World) (hk : k ≤ 65535) : Calls Tryz.prog 139 #[.int .u64 1, .int .u64 (k : Int)] w fun e w' => e = .returned (.tuple #[.int .u64 0, .int .u64 (k : Int)]) ∧ w = w' := by
 go_enter Tryz.func139, Tryz.ntmps139
 go_wp2_with (go_at_call 142; refine (mul64_one k _ hk).mono ?_; rintro e w' ⟨rfl, rfl⟩)
 go_ret2
 exact ⟨rfl, rfl⟩

/-- copy(x[n:], x[:n]) -/
theorem step_cpy_self {P : Program} {w : World} {ops : Array Oper} {o : Oper} {a : Act} {K : Act → World → Prop} {Q : Exit → Act → World → Prop} {E : Prop} (hgd : o.guard = none) (d s : Operand) (t : TypeId)
  (ho : o.op = .call { callee := .builtin .copy, args := #[d, s], argTypes := #[t, t] }) {e : TypeId} {z : Value} {bytes : Nat} (hE : Elt P t e z bytes)
  {B g L cap n dLen dCap sCap : Nat} {dp : Option Addr} {xs : List Value} (hown : Own B w e (.slice (some ⟨g, 0, none⟩) L cap) xs) (hL : xs.length = L) (hd : a.eval d = .slice dp dLen dCap) (hdp : dp = some ⟨g, n, none⟩) (hdl : dLen = L - n)
  (hs : a.eval s = .slice (some ⟨g, 0, none⟩) n sCap) (hn : n ≤ L) (m : Nat) (hm : min n (L - n) = m) (h1 : ∀ u ∈ xs, u.oneCell' = true)
  (h : ∀ w', Hid (Own B w' e (.slice (some ⟨g, 0, none⟩) L cap) (splice xs n (xs.take m))) → Hid (Below B w w') → K (a.put o.dst (goInt m)) w') : if Region.wanted o (yielded ops a.tmps) = true then Oper.wp P o a w K Q else E := by
 obtain ⟨ht, ⟨i, hi, hz, hsize, hby⟩, hzs⟩ := hE
 subst hdl hdp
 have hlt : (xs.take m).length = m := by rw [List.length_take]; omega
 have hro : Rds w w.heap.size (some ⟨g, 0, none⟩) L xs := by
  have h0 := hown
  unfold Own at h0
  rw [hL] at h0
  exact Rds.of_own h0
 rcases hown.2 with ⟨h0, _⟩ | ⟨g', cap', cur, hv, hB, hgg, hnc, hcm, hcs, htk⟩
 ·cases h0
 ·injection hv with e1 e2 e3
  injection e1 with e1
  injection e1 with e1
  subst e1
  subst e3
  refine step_copy_splice hgd d s t t ho e ht (by rw [hi]; simp [hsize]) (some ⟨g, n, none⟩) (some ⟨g, 0, none⟩) (L - n) dCap n sCap hd hs g n cur.toList e (by simpa using hgg) (xs.take m) (by rw [hlt]; exact hm.symm)
   (fun hp => ⟨rfl, ⟨g, 0, none⟩, rfl, fun j u hu => ?_⟩) (by rw [hlt]; simp at hcs ⊢; omega) (fun u hu => h1 u (List.mem_of_mem_take hu)) B w (Below.refl _ _) hB ?_
  ·obtain ⟨ad, e4, _, hc⟩ := hro.2 (by rw [hlt] at hp; omega)
   injection e4 with e4
   subst e4
   refine hc j u ?_
   rw [List.getElem?_take] at hu
   split at hu
   ·exact hu
   ·cases hu
  ·intro w' hg' hb'
   rw [hlt]
   refine h w' ?_ hb'
   have hl : (splice xs n (xs.take m)).length = L := by rw [length_splice _ _ _ (by rw [hlt]; omega), hL]
   unfold Own
   rw [hl]
   refine ⟨by simp [hl], .inr ⟨g, cap, _, rfl, hB, hg'.out, by omega, hcm, ?_, ?_⟩⟩
   ·rw [List.size_toArray, length_splice _ _ _ (by rw [hlt]; simp at hcs ⊢; omega)]
    simpa using hcs
   ·have htk' : cur.toList.take L = xs := by rw [← hL]; simpa using htk
    rw [Nat.mul_one]
    show (splice cur.toList n (xs.take m)).take L = _
    conv => rhs; rw [← htk']
    unfold splice
    rw [← htk'] at hlt ⊢
    apply List.ext_getElem?
    intro j
    have hcl : L ≤ cur.toList.length := by simp at hcs ⊢; omega
    simp only [List.getElem?_take, List.getElem?_append, List.length_take, List.getElem?_drop] at hlt ⊢
    repeat' split
    all_goals first | rfl | (exfalso; omega) | (congr 1; omega) | (rw [List.getElem?_eq_none]; omega)
theorem part_double {n m k v : Nat} (hmn : m ≤ n) (hk : n + m ≤ k) : splice (cellsU (part n k v)) n ((cellsU (part n k v)).take m) = cellsU (part (n + m) k v) := by
 unfold splice cellsU part
 apply List.ext_getElem?
 intro j
 simp only [List.getElem?_take, List.getElem?_append, List.length_take, List.getElem?_drop, List.getElem?_map, List.length_map, List.length_append, List.length_replicate, List.getElem?_replicate]
 repeat' split
 all_goals first | rfl | (exfalso; omega)

/-- What the loop has laid. -/
def RepTo (w wr : World) (g k v n : Nat) : Prop := Own w.heap.size wr 34 (.slice (some ⟨g, 0, none⟩) k k) (cellsU (part n k v)) ∧ Below w.heap.size w wr
set_option maxHeartbeats 1000000 in
set_option maxRecDepth 100000 in
theorem repeat_any (A : Option Addr) (c B k v : Nat) (w : World) (hs : Rds w B A 1 (cellsU [v])) (hk : k ≤ 65535) (hk1 : 1 ≤ k) :
  Calls Tryz.prog 127 #[.slice A 1 c, .int .i64 (k : Int)] w fun e w' => ∃ cc g, e = .returned (.slice (some ⟨g, 0, none⟩) k cc) ∧ k ≤ cc ∧ Own w.heap.size w' 34 (.slice (some ⟨g, 0, none⟩) k cc) (cellsU (List.replicate k v)) ∧ Below w.heap.size w w' := by
 have Hs := Lib.hid hs.fit
 have hb : 8 * k ≤ 281474976710656 := by omega
 have hm : k ≤ maxLen := by unfold maxLen; omega
 have hk0 : (0 : Int) ≤ (k : Int) := by omega
 have hone : Hid (∀ u ∈ cellsU [v], u.oneCell' = true) := Lib.hid (by intro u hu; simp [cellsU] at hu; subst hu; rfl)
 have hle1 : Hid (1 ≤ (List.replicate k (Value.int .u64 0)).length) := Lib.hid (by simpa using hk1)
 have Hb := Lib.hid hb; have Hm := Lib.hid hm
 have Hone2 : Hid (∀ n, ∀ u ∈ cellsU (part n k v), u.oneCell' = true) := Lib.hid (by
  intro n u hu
  simp only [cellsU, List.mem_map] at hu
  obtain ⟨b, _, rfl⟩ := hu
  rfl)
 clear hs hb hm
 go_enter Tryz.func127, Tryz.ntmps127
 go_wp2_with (first
  | (go_at_call 139; refine (mul_one k _ hk).mono ?_; rintro e w' ⟨rfl, rfl⟩)
  | (at_make; refine wpList_mk rfl (.tmp 29) (.tmp 29) _ rfl eltU (n := k) (cap := k) rfl rfl rfl rfl (by simp) (Nat.le_refl _) Hb.out Hm.out ?_; intro w1 H1 H2)
  | (refine wpList_cpy rfl (.tmp 31) (.tmp 32) 23 rfl eltU (v := .slice (some ⟨w.heap.size, 0, none⟩) k k) rfl H1.out rfl (Hs.out.below H2.out) hone.out hle1.out ?_; intro w2 H3 H4))
 have P0 : Hid (RepTo w w2 w.heap.size k v 1) := Lib.hid ⟨by
  have h := H3.out
  have e : cellsU [v] ++ (List.replicate k (Value.int .u64 0)).drop 1 = cellsU (part 1 k v) := by simp [cellsU, part]
  rwa [e] at h, H2.out.trans H4.out⟩
 clear H1 H2 H3 H4
 go_loopw [8] (fun s8 wr => ∃ n : Nat, s8 = .int .i64 (n : Int) ∧ 1 ≤ n ∧ n ≤ k ∧ RepTo w wr w.heap.size k v n) (fun s8 _ => k - (intOf s8).toNat)
 case atStart => exact ⟨1, rfl, Nat.le_refl _, hk1, P0.out⟩
 case round =>
  obtain ⟨n, rfl, hn1, hnk, hR⟩ := hrel
  have HR := Lib.hid hR
  clear hR P0
  by_cases h : n < k
  ·obtain ⟨m, hm⟩ : ∃ m, min n (k - n) = m := ⟨_, rfl⟩
   have hmn : m ≤ n := by omega
   have hmk : n + m ≤ k := by omega
   have hm1 : 1 ≤ m := by omega
   have Hmm := Lib.hid hm
   have hn0 : (0 : Int) ≤ (n : Int) := by omega
   have hnk' : (n : Int) ≤ (k : Int) := by omega
   have Hpl : Hid ((cellsU (part n k v)).length = k) := Lib.hid (by rw [cellsU_length, part_len hnk])
   clear hm
   go_wp2_with fail
   have hdp : (if k = n then some (⟨w.heap.size, 0, none⟩ : Addr) else some ⟨w.heap.size, n, none⟩) = some ⟨w.heap.size, n, none⟩ := if_neg (by omega)
   go_region_law ((refine step_cpy_self rfl (.tmp 41) (.tmp 44) _ rfl eltU (B := w.heap.size) (g := w.heap.size) (L := k) (cap := k) (n := n) (xs := cellsU (part n k v)) (dp := some ⟨w.heap.size, n, none⟩) (dLen := k - n) (dCap := k - n) (sCap := k) (HR.out.1.drew) Hpl.out (by kernel_rfl) rfl rfl (by kernel_rfl) hnk m Hmm.out (Hone2.out n) ?_; intro w5 H5 H6))
   have hR2 : RepTo w w5 w.heap.size k v (n + m) := ⟨by
    have h := H5.out
    rwa [part_double hmn hmk] at h, HR.out.2.drew.trans H6.out⟩
   have HR2 := Lib.hid hR2
   clear hR2 H5 H6
   simp only [Act.put, List.getElem_toArray, List.getElem_cons_succ, List.getElem_cons_zero, List.setIfInBounds_toArray, List.set_cons_succ, List.set_cons_zero]
   have hwr : IntKind.i64.wrap ((n : Int) + (m : Int)) = ((n + m : Nat) : Int) := by rw [IntKind.wrap_i64]; omega
   rw [hwr]
   go_roundw
   case rel => exact ⟨_, _, _, _, _, _, _, _, _, _, _, _, _, _, ⟨n + m, rfl, by omega, hmk, HR2.out⟩, rfl⟩
   case measure => simp [intOf]; omega
  ·have hnk2 : n = k := by omega
   subst hnk2
   go_wp2_with fail
   go_ret
   have h := HR.out.1
   rw [part_all] at h
   exact ⟨_, _, rfl, Nat.le_refl _, h, HR.out.2⟩
end Go.Proofs.YthgoppmgapaajaaGreatDoor

/- Bytes are read as runs: Decode. -/
namespace Go.Proofs.YthgoppmgapaajaaGreatDoor
open Go.RowKit

/-- What bytes are read as, with as many rounds as there are bytes. -/
def dR (r : Nat) (p : Option Nat) (bs : List Nat) : Option (List Nat) := getR bs.length r p bs
theorem dR_nil (r : Nat) (p : Option Nat) : dR r p [] = if r = 0 then some [] else none := getR_nil _ _ _
theorem dR_step {r : Nat} {p : Option Nat} {bs : List Nat} (h : bs ≠ []) :
  dR r p bs = if (runP bs).2.2 = 0 ∨ (runP bs).1 = 0 ∨ r < (runP bs).1 ∨ p = some (runP bs).2.1 then none else (dR (r - (runP bs).1) (some (runP bs).2.1) (bs.drop (runP bs).2.2)).map fun us => List.replicate (runP bs).1 (runP bs).2.1 ++ us := by
 have hl : 0 < bs.length := List.length_pos_iff.2 h
 obtain ⟨f, hf⟩ : ∃ f, bs.length = f + 1 := ⟨bs.length - 1, by omega⟩
 unfold dR
 rw [hf, getR_step f r p h]
 by_cases hz : (dec bs).2 = 0 ∨ (dec (bs.drop (dec bs).2)).2 = 0
 ·have e : runP bs = (0, 0, 0) := by unfold runP; rw [if_pos hz]
  rw [if_pos (by rcases hz with h | h <;> simp [h]), e, if_pos (by simp)]
 ·have e : runP bs = ((dec bs).1, (dec (bs.drop (dec bs).2)).1, (dec bs).2 + (dec (bs.drop (dec bs).2)).2) := by unfold runP; rw [if_neg hz]
  rw [e]
  simp only
  by_cases hc : (dec bs).1 = 0 ∨ r < (dec bs).1 ∨ p = some (dec (bs.drop (dec bs).2)).1
  ·rw [if_pos (Or.inr (Or.inr hc)), if_pos (Or.inr hc)]
  ·rw [if_neg (by intro h; rcases h with h | h | h; exact hz (Or.inl h); exact hz (Or.inr h); exact hc h), if_neg (by intro h; rcases h with h | h; omega; exact hc h)]
   rw [List.drop_drop]
   rw [getR_any f _ _ _ _ (by rw [List.length_drop]; omega) (Nat.le_refl _)]
theorem runP_len {bs : List Nat} (hlt : lt256 bs) : (runP bs).2.2 ≤ bs.length ∧ (runP bs).2.2 ≤ 20 := by
 unfold runP
 by_cases hz : (dec bs).2 = 0 ∨ (dec (bs.drop (dec bs).2)).2 = 0
 ·rw [if_pos hz]; exact ⟨Nat.zero_le _, Nat.zero_le _⟩
 ·rw [if_neg hz]
  have h1 := dec_le_len hlt
  have h2 := dec_le_len (bs := bs.drop (dec bs).2) (fun b hb => hlt b (List.mem_of_mem_drop hb))
  rw [List.length_drop] at h2
  have h3 := dec_le bs
  have h4 := dec_le (bs.drop (dec bs).2)
  constructor
  ·show (dec bs).2 + (dec (bs.drop (dec bs).2)).2 ≤ _; omega
  ·show (dec bs).2 + (dec (bs.drop (dec bs).2)).2 ≤ _; omega
theorem runP_lt {bs : List Nat} (hlt : lt256 bs) : (runP bs).1 < 18446744073709551616 ∧ (runP bs).2.1 < 18446744073709551616 := by
 unfold runP
 by_cases hz : (dec bs).2 = 0 ∨ (dec (bs.drop (dec bs).2)).2 = 0
 ·rw [if_pos hz]; exact ⟨by decide, by decide⟩
 ·rw [if_neg hz]
  exact ⟨dec_lt hlt, dec_lt (bs := bs.drop (dec bs).2) (fun b hb => hlt b (List.mem_of_mem_drop hb))⟩
/-- What the loop has read of the first i bytes. -/
def LdecTo (w wr : World) (bs : List Nat) (N i L : Nat) (v : Value) : Prop :=
 ∃ out, Own w.heap.size wr 34 v (cellsU out) ∧ out.length = L ∧ L ≤ N ∧ (∀ x ∈ out, x < 2 ^ 64) ∧ decR N bs = (dR (N - L) out.getLast? (bs.drop i)).map (out ++ ·) ∧ Mod (fun _ => False) w wr
theorem ldec_step {bs out : List Nat} {N L i K V S : Nat} (hi : i < bs.length) (hr : runP (bs.drop i) = (K, V, S)) (hL : out.length = L) (hS : S ≠ 0) (hf : fitsR out K V N = true)
  (h : decR N bs = (dR (N - L) out.getLast? (bs.drop i)).map (out ++ ·)) :
  K ≠ 0 ∧ L + K ≤ N ∧ decR N bs = (dR (N - (L + K)) (out ++ List.replicate K V).getLast? (bs.drop (i + S))).map ((out ++ List.replicate K V) ++ ·) := by
 have hne : bs.drop i ≠ [] := by
  intro e
  have := congrArg List.length e
  rw [List.length_drop] at this
  simp at this
  omega
 unfold fitsR at hf
 rw [hL] at hf
 have hf' := of_decide_eq_true hf
 have hK : K ≠ 0 := fun e => hf' (Or.inl e)
 have hKL : ¬ N - L < K := fun e => hf' (Or.inr (Or.inl e))
 refine ⟨hK, by omega, ?_⟩
 obtain ⟨j, hj⟩ : ∃ j, K = j + 1 := ⟨K - 1, by omega⟩
 have hlast : (out ++ List.replicate K V).getLast? = some V := by
  rw [hj, List.replicate_succ', ← List.append_assoc, List.getLast?_append]
  simp
 rw [h, dR_step hne, hr]
 simp only
 rw [if_neg (by intro h; rcases h with h | h; exact hS h; exact hf' h), Option.map_map, hlast, List.drop_drop, Nat.sub_sub]
 congr 1
 funext us
 simp
theorem ldec_stop {bs out : List Nat} {N L i K V S : Nat} (hi : i < bs.length) (hr : runP (bs.drop i) = (K, V, S)) (hL : out.length = L) (hf : S = 0 ∨ fitsR out K V N = false)
  (h : decR N bs = (dR (N - L) out.getLast? (bs.drop i)).map (out ++ ·)) : decR N bs = none := by
 have hne : bs.drop i ≠ [] := by
  intro e
  have := congrArg List.length e
  rw [List.length_drop] at this
  simp at this
  omega
 rw [h, dR_step hne, hr]
 simp only
 rw [if_pos]
 ·rfl
 ·rcases hf with hf | hf
  ·exact Or.inl hf
  ·refine Or.inr ?_
   unfold fitsR at hf
   rw [hL] at hf
   exact Decidable.not_not.1 (of_decide_eq_false hf)
theorem ldec_end {bs out : List Nat} {N L i : Nat} (hi : bs.length ≤ i) (hLN : L ≤ N) (h : decR N bs = (dR (N - L) out.getLast? (bs.drop i)).map (out ++ ·)) : decR N bs = if L < N then none else some out := by
 rw [h, List.drop_of_length_le hi, dR_nil]
 by_cases hl : L < N
 ·rw [if_pos hl, if_neg (by omega)]; rfl
 ·rw [if_neg hl, if_pos (by omega)]; simp
set_option maxHeartbeats 4000000 in
set_option maxRecDepth 100000 in
theorem ldec_any (A : Option Addr) (n cap B N : Nat) (m : Int) (bs : List Nat) (w : World) (hs : Rds w B A n (cells8 bs)) (hB : B ≤ w.heap.size) (hlt : lt256 bs) (hnc : n ≤ cap) (hcm : cap ≤ maxLen) (hN : max 0 (min m 65535) = (N : Int)) :
  Calls Tryz.prog 107 #[.slice A n cap, .int .i64 m] w fun e w' => EncE w w' (decR N bs) e := by
 have hul : bs.length = n := by have := hs.1; rwa [cells8_length] at this
 have H0 : Hid (LdecTo w w bs N 0 0 (.slice none 0 0)) := Lib.hid ⟨[], Own.nil _ _ _, rfl, Nat.zero_le _, (fun _ h => by cases h), by
  rw [List.drop_zero]
  show decR N bs = (dR N none bs).map _
  unfold decR dR
  cases getR bs.length N none bs <;> rfl, Mod.refl _ _⟩
 have Hs := Lib.hid hs; have Hlt := Lib.hid hlt; have HB := Lib.hid hB; have Hul := Lib.hid hul; have Hcm := Lib.hid hcm
 obtain ⟨mn, hmn⟩ : ∃ mn : Int, min m 65535 = mn := ⟨_, rfl⟩
 have hmin := minI_is (P := Tryz.prog) (t := 3) (ty := 3) hmn
 have hmax := maxI_is (P := Tryz.prog) (t := 3) (ty := 3) (n1 := 0) (n2 := mn) (m := (N : Int)) (by rw [← hmn]; exact hN)
 have hN65 : N ≤ 65535 := by omega
 clear hs hlt hB hul hN hmn hcm
 go_enter Tryz.func107, Tryz.ntmps107
 go_wp2_with fail
 clear hmin hmax
 go_loopg [0, 6] n (fun l s0 s6 wr => ∃ (i : Nat) (Ab : Option Addr) (cb L : Nat) (Av : Option Addr) (cv : Nat), i + l = n ∧ s0 = .slice Ab l cb ∧ l ≤ cb ∧ cb ≤ maxLen ∧ Rds wr B Ab l (cells8 (bs.drop i)) ∧ s6 = .slice Av L cv ∧ L ≤ cv ∧ LdecTo w wr bs N i L (.slice Av L cv))
 case atStart => exact ⟨0, A, cap, 0, none, 0, by omega, rfl, hnc, Hcm.out, by rw [List.drop_zero]; exact Hs.out, rfl, Nat.le_refl _, H0.out⟩
 case round =>
  obtain ⟨i, Ab, cb, L, Av, cv, hil, rfl, hlb, hcbm, hr, rfl, hLc, hD⟩ := hrel
  have HD := Lib.hid hD; have Hil := Lib.hid hil; have Hr := Lib.hid hr; have Hcbm := Lib.hid hcbm
  clear hD hil H0 hr hcbm Hs
  obtain ⟨out, hown, hol, hLN, ho64, hrd, hm⟩ := HD.out
  have Hown := Lib.hid hown; have Hol := Lib.hid hol; have Ho64 := Lib.hid ho64; have Hrd := Lib.hid hrd; have Hm := Lib.hid hm
  have hBr : Hid (B ≤ wr.heap.size) := Lib.hid (Nat.le_trans HB.out hm.size)
  clear hown hol ho64 hrd hm HD
  have hlt2 : lt256 (bs.drop i) := fun b hb => Hlt.out b (List.mem_of_mem_drop hb)
  by_cases hg : 0 < gk
  ·obtain ⟨K, hK⟩ : ∃ K, K = (runP (bs.drop i)).1 := ⟨_, rfl⟩
   obtain ⟨V, hV⟩ : ∃ V, V = (runP (bs.drop i)).2.1 := ⟨_, rfl⟩
   obtain ⟨S, hS⟩ : ∃ S, S = (runP (bs.drop i)).2.2 := ⟨_, rfl⟩
   have hrun : runP (bs.drop i) = (K, V, S) := by rw [hK, hV, hS]
   have hSl := runP_len hlt2
   have hKV := runP_lt hlt2
   rw [← hS, List.length_drop, Hul.out] at hSl
   rw [← hK, ← hV] at hKV
   have hSg : S ≤ gk := by have := Hil.out; omega
   have hcall := lget_any Ab gk cb B (bs.drop i) wr Hr.out hBr.out hlt2 hlb Hcbm.out
   rw [← hK, ← hV, ← hS] at hcall
   have Hcall := Lib.hid hcall; have Hrun := Lib.hid hrun; have HKV := Lib.hid hKV
   clear hcall hrun hK hV hS hSl hKV hlt2
   go_wp2_with fail
   refine Hcall.out.mono ?_
   rintro e w1 ⟨rfl, hm1⟩
   obtain ⟨W1, hW1⟩ : ∃ W1, W1 = w1.alloc (.cells #[.int .u64 (K : Int), .int .u64 (V : Int)] 127) := ⟨_, rfl⟩
   have hmW : Mod (fun _ => False) w1 W1 := by rw [hW1]; exact (Mod.refl _ _).alloc _
   have hbW : Blk W1 w1.heap.size 127 #[.int .u64 (K : Int), .int .u64 (V : Int)] := by rw [hW1]; exact Blk.new _ _ _
   have hmm := hm1.trans hmW (fun _ _ h => h)
   have hd0 := hbW.cell 0
   have hd1 := hbW.cell 1
   simp at hd0 hd1
   have HW1 := Lib.hid hW1; have Hmm := Lib.hid hmm; have HbW := Lib.hid hbW
   clear hW1 hm1 hmW hmm hbW Hcall
   by_cases hS0 : S = 0
   ·have hnone := ldec_stop (by have := Hul.out; have := Hil.out; omega) Hrun.out Hol.out (Or.inl hS0) Hrd.out
    have Hnone := Lib.hid hnone
    subst hS0
    clear hnone
    go_wp2_with (first | (rw [← HW1.out]))
    go_ret2
    rw [Hnone.out]
    exact ⟨rfl, Hm.out.trans Hmm.out (fun _ _ h => h)⟩
   ·have hS0b : ((S : Int) == 0) = false := by simp; omega
    have HS0 := Lib.hid hS0
    have HownW := Lib.hid (Hown.out.mod Hmm.out)
    have HrW := Lib.hid (Hr.out.mod Hmm.out hBr.out (fun _ _ h => h))
    have HroW := Lib.hid (Own.rds HownW.out Hol.out)
    clear hS0
    cases hf : fitsR out K V N with
    | false =>
     have hnone := ldec_stop (by have := Hul.out; have := Hil.out; omega) Hrun.out Hol.out (Or.inr hf) Hrd.out
     have Hnone := Lib.hid hnone; have Hf := Lib.hid hf
     clear hnone hf
     go_wp2_with (first | (rw [← HW1.out]))
     refine (lfits_any Av L cv _ K V N out W1 HroW.out (Nat.le_refl _) hN65 hLN hLc).mono ?_
     rintro e w2 ⟨rfl, hm2⟩
     rw [Hf.out]
     have Hm2 := Lib.hid hm2
     clear hm2
     go_wp2_with fail
     go_ret2
     rw [Hnone.out]
     exact ⟨rfl, (Hm.out.trans Hmm.out (fun _ _ h => h)).trans Hm2.out (fun _ _ h => h)⟩
    | true =>
     obtain ⟨hK0, hKN, hst⟩ := ldec_step (by have := Hul.out; have := Hil.out; omega) Hrun.out Hol.out HS0.out hf Hrd.out
     have Hst := Lib.hid hst; have Hf := Lib.hid hf
     have hK1 : 1 ≤ K := by omega
     clear hst hf hK0
     go_wp2_with (first | (rw [← HW1.out]))
     refine (lfits_any Av L cv _ K V N out W1 HroW.out (Nat.le_refl _) hN65 hLN hLc).mono ?_
     rintro e w2 ⟨rfl, hm2⟩
     rw [Hf.out]
     have hb2 := hm2.blk HbW.out (fun h => h)
     obtain ⟨W2, hW2⟩ : ∃ W2, W2 = w2.alloc (.cells #[.int .u64 (V : Int)] 34) := ⟨_, rfl⟩
     have hmW2 : Mod (fun _ => False) w2 W2 := by rw [hW2]; exact (Mod.refl _ _).alloc _
     have hb2W := hmW2.blk hb2 (fun h => h)
     have hlit : Rds W2 (w2.heap.size + 1) (some ⟨w2.heap.size, 0, none⟩) 1 (cellsU [V]) := by rw [hW2]; exact Rds.lit w2 34 #[.int .u64 (V : Int)]
     have hmm2 := hm2.trans hmW2 (fun _ _ h => h)
     have hc0 := hb2.cell 0
     have hc1 := hb2.cell 1
     have he0 := hb2W.cell 0
     have he1 := hb2W.cell 1
     simp at hc0 hc1 he0 he1
     have hKi : (K : Int) ≤ 65535 := by omega
     have Hown2 := Lib.hid (HownW.out.mod hmm2)
     have Hr2 := Lib.hid (HrW.out.mod hmm2 (Nat.le_trans hBr.out Hmm.out.size) (fun _ _ h => h))
     have HW2 := Lib.hid hW2; have Hlit := Lib.hid hlit; have Hb2W := Lib.hid hb2W; have Hmm2 := Lib.hid hmm2
     clear hm2 hb2 hW2 hmW2 hb2W hlit hmm2 HroW HownW HrW hd0 hd1
     go_wp2_with (first | (rw [← HW2.out]))
     refine (repeat_any _ _ _ K V W2 Hlit.out (by omega) hK1).mono ?_
     rintro e w3 ⟨cc, g3, rfl, hcc, ho3, hb3⟩
     have Hown3 := Lib.hid (Hown2.out.below hb3)
     have Hr3 := Lib.hid (Own.rds ho3 (by simp))
     have Hmm3 := Lib.hid ((Hmm.out.trans Hmm2.out (fun _ _ h => h)).trans (mod_below hb3) (fun _ _ h => h))
     have hB2 : Hid (B ≤ W2.heap.size) := Lib.hid (Nat.le_trans hBr.out (Nat.le_trans Hmm.out.size Hmm2.out.size))
     have Hrb3 := Lib.hid (Hr2.out.mod (mod_below hb3) hB2.out (fun _ _ h => h))
     have hone : Hid (∀ u ∈ cellsU (List.replicate K V), u.oneCell' = true) := Lib.hid (cellsU_one _)
     have hr1 : (cellsU out).length + K ≤ maxLen := by rw [cellsU_length]; unfold maxLen; have := Hol.out; omega
     have hr2 : ((cellsU out).length + K) * 8 ≤ 140737488355328 := by rw [cellsU_length]; have := Hol.out; omega
     have hsz : w.heap.size ≤ w3.heap.size := Nat.le_trans Hm.out.size Hmm3.out.size
     have hSgi : (S : Int) ≤ (gk : Int) := by omega
     have hS0i : (0 : Int) ≤ (S : Int) := by omega
     obtain ⟨A5, hA5⟩ : ∃ A5, (if cb = S then Ab else Ab.map (·.add S)) = A5 := ⟨_, rfl⟩
     have Hr5 : Hid (Rds w3 B A5 (gk - S) ((cells8 (bs.drop i)).drop S)) := Lib.hid (by rw [← hA5]; exact Hrb3.out.drop hSg hlb)
     have hSci : (S : Int) ≤ (cb : Int) := by omega
     clear ho3 hb3 Hown2 Hr2 Hrb3 hc0 hc1 he0 he1 Hb2W Hlit
     go_wp2_with (at_builtin; refine wpList_app rfl (.tmp 29) (.tmp 36) _ rfl eltU rfl Hown3.out rfl Hr3.out hone.out hr1 hr2 hsz ?_; intro v' w4 HO HBl HG; clear HG)
     have hO : Own w.heap.size w4 34 v' (cellsU (out ++ List.replicate K V)) := by
      have h := HO.out
      rwa [cellsU_app] at h
     obtain ⟨A2, c2, rfl, hc2, _⟩ := own_formU hO
     have hl2 : (out ++ List.replicate K V).length = L + K := by rw [List.length_append, Hol.out, List.length_replicate]
     rw [hl2] at hO hc2 ⊢
     have hmw := (Hm.out.trans Hmm3.out (fun _ _ h => h)).trans (Mod.of_below HBl.out) (fun i hi h => by omega)
     have HD2 : Hid (LdecTo w w4 bs N (i + S) (L + K) (.slice A2 (L + K) c2)) := Lib.hid ⟨_, hO, hl2, hKN, (fun y hy => by
      rcases List.mem_append.1 hy with hy | hy
      ·exact Ho64.out y hy
      ·rw [List.eq_of_mem_replicate hy]; have := HKV.out.2; omega), Hst.out, hmw⟩
     have hB3 : B ≤ w3.heap.size := Nat.le_trans hBr.out Hmm3.out.size
     have Hr6 : Hid (Rds w4 B A5 (gk - S) (cells8 (bs.drop (i + S)))) := Lib.hid (by
      have h := Hr5.out.mod (Mod.of_below HBl.out) hB3 (fun j hj h => by have := HB.out; omega)
      rwa [show (cells8 (bs.drop i)).drop S = cells8 (bs.drop (i + S)) by simp [cells8, ← List.map_drop]] at h)
     have HC2 := Lib.hid hc2
     have hS1 : 1 ≤ S := by have := HS0.out; omega
     clear hO hl2 hmw hB3 hA5 hc2 HO HBl Hr5
     go_roundg (gk - S)
     case measure => omega
     case rel => exact ⟨i + S, A5, cb - S, L + K, A2, c2, by have := Hil.out; omega, rfl, by omega, by have := Hcbm.out; omega, Hr6.out, rfl, HC2.out, HD2.out⟩
  ·have hi : i = n := by have := Hil.out; omega
   have hend := ldec_end (by have := Hul.out; omega) hLN Hrd.out
   have Hend := Lib.hid hend
   clear hend
   by_cases hLl : L < N
   ·go_wp2_with fail
    go_ret2
    rw [Hend.out, if_pos hLl]
    exact ⟨rfl, Hm.out⟩
   ·go_wp2_with fail
    go_ret2
    rw [Hend.out, if_neg hLl]
    exact ⟨_, rfl, Hown.out, Hm.out⟩
end Go.Proofs.YthgoppmgapaajaaGreatDoor

/- Rows of elements of K cells each, of whatever type: what a slice reads as; a row of the call's own; append; one cell of one element read and written. -/
namespace Go.Proofs.YthgoppmgapaajaaGreatDoor
open Go.RowKit

/-- Each element has K cells. -/
def AllK (K : Nat) (rows : List (List Value)) : Prop := ∀ r ∈ rows, r.length = K
theorem AllK.nil (K : Nat) : AllK K [] := fun _ h => by cases h
theorem AllK.cons {K : Nat} {r : List Value} {rows : List (List Value)} (h : r.length = K) (hr : AllK K rows) : AllK K (r :: rows) := fun x hx => by
 rcases List.mem_cons.1 hx with rfl | hx
 ·exact h
 ·exact hr x hx
theorem AllK.app {K : Nat} {a b : List (List Value)} (ha : AllK K a) (hb : AllK K b) : AllK K (a ++ b) := fun x hx => by
 rcases List.mem_append.1 hx with hx | hx
 ·exact ha x hx
 ·exact hb x hx
theorem AllK.take {K : Nat} {a : List (List Value)} (ha : AllK K a) (i : Nat) : AllK K (a.take i) := fun x hx => ha x (List.mem_of_mem_take hx)
theorem AllK.drop {K : Nat} {a : List (List Value)} (ha : AllK K a) (i : Nat) : AllK K (a.drop i) := fun x hx => ha x (List.mem_of_mem_drop hx)
theorem AllK.set_ {K : Nat} {a : List (List Value)} (ha : AllK K a) (i : Nat) {r : List Value} (hr : r.length = K) : AllK K (a.set i r) := fun x hx => by
 rcases List.mem_or_eq_of_mem_set hx with h | h
 ·exact ha x h
 ·rw [h]; exact hr
theorem flat_len {K : Nat} : ∀ {rows : List (List Value)}, AllK K rows → rows.flatten.length = rows.length * K := by
 intro rows
 induction rows with
 | nil => intro _; simp
 | cons r rows ih =>
  intro h
  rw [List.flatten_cons, List.length_append, ih (fun x hx => h x (List.mem_cons_of_mem _ hx)), h r (List.mem_cons_self ..), List.length_cons, Nat.add_mul]
  omega
theorem flat_get {K : Nat} : ∀ {rows : List (List Value)} {i j : Nat} {r : List Value}, AllK K rows → rows[i]? = some r → j < K → rows.flatten[i * K + j]? = r[j]? := by
 intro rows
 induction rows with
 | nil => intro i j r _ h; simp at h
 | cons q rows ih =>
  intro i j r ha h hj
  have hq := ha q (List.mem_cons_self ..)
  cases i with
  | zero =>
   rw [List.getElem?_cons_zero] at h
   injection h with h
   subst h
   rw [List.flatten_cons, Nat.zero_mul, Nat.zero_add, List.getElem?_append_left (by omega)]
  | succ i =>
   rw [List.getElem?_cons_succ] at h
   rw [List.flatten_cons, List.getElem?_append_right (by rw [hq, Nat.add_mul]; omega), hq, show (i + 1) * K + j - K = i * K + j by rw [Nat.add_mul]; omega]
   exact ih (fun x hx => ha x (List.mem_cons_of_mem _ hx)) h hj
theorem flat_set {K : Nat} : ∀ {rows : List (List Value)} {i j : Nat} {r : List Value} (u : Value), AllK K rows → rows[i]? = some r → j < K → rows.flatten.set (i * K + j) u = (rows.set i (r.set j u)).flatten := by
 intro rows
 induction rows with
 | nil => intro i j r u _ h; simp at h
 | cons q rows ih =>
  intro i j r u ha h hj
  have hq := ha q (List.mem_cons_self ..)
  cases i with
  | zero =>
   rw [List.getElem?_cons_zero] at h
   injection h with h
   subst h
   rw [List.flatten_cons, Nat.zero_mul, Nat.zero_add, List.set_append_left _ _ (by omega), List.set_cons_zero, List.flatten_cons]
  | succ i =>
   rw [List.getElem?_cons_succ] at h
   rw [List.flatten_cons, List.set_append_right _ _ (by rw [hq, Nat.add_mul]; omega), hq, show (i + 1) * K + j - K = i * K + j by rw [Nat.add_mul]; omega, ih u (fun x hx => ha x (List.mem_cons_of_mem _ hx)) h hj, List.set_cons_succ, List.flatten_cons]
theorem flat_take {K : Nat} : ∀ {rows : List (List Value)} (i : Nat), AllK K rows → rows.flatten.take (i * K) = (rows.take i).flatten := by
 intro rows
 induction rows with
 | nil => intro i _; simp
 | cons q rows ih =>
  intro i ha
  have hq := ha q (List.mem_cons_self ..)
  cases i with
  | zero => simp
  | succ i => rw [List.flatten_cons, List.take_succ_cons, List.flatten_cons, ← ih i (fun x hx => ha x (List.mem_cons_of_mem _ hx)), List.take_append, List.take_of_length_le (by rw [hq, Nat.add_mul]; omega), hq, show (i + 1) * K - K = i * K by rw [Nat.add_mul]; omega]
theorem flat_drop {K : Nat} : ∀ {rows : List (List Value)} (i : Nat), AllK K rows → rows.flatten.drop (i * K) = (rows.drop i).flatten := by
 intro rows
 induction rows with
 | nil => intro i _; simp
 | cons q rows ih =>
  intro i ha
  have hq := ha q (List.mem_cons_self ..)
  cases i with
  | zero => simp
  | succ i => rw [List.flatten_cons, List.drop_succ_cons, ← ih i (fun x hx => ha x (List.mem_cons_of_mem _ hx)), List.drop_append, List.drop_eq_nil_of_le (by rw [hq, Nat.add_mul]; omega), hq, show (i + 1) * K - K = i * K by rw [Nat.add_mul]; omega, List.nil_append]
/-- The slice at A, n elements of K cells long, reads as these, below block B. -/
def RdsK (K : Nat) (w : World) (B : Nat) (A : Option Addr) (n : Nat) (rows : List (List Value)) : Prop := rows.length = n ∧ AllK K rows ∧ Rds w B A (n * K) rows.flatten
section
variable {K : Nat} {w w' : World} {B B' n : Nat} {A : Option Addr} {rows : List (List Value)}
theorem RdsK.nil (K : Nat) (w : World) (B : Nat) (A : Option Addr) : RdsK K w B A 0 [] := ⟨rfl, AllK.nil K, by rw [Nat.zero_mul]; exact Rds.nil _ _ _⟩
theorem RdsK.more (h : RdsK K w B A n rows) (hB : B ≤ B') : RdsK K w B' A n rows := ⟨h.1, h.2.1, h.2.2.more hB⟩
theorem RdsK.drew (h : RdsK K w B A n rows) : RdsK K w.drew B A n rows := h
theorem RdsK.alloc (h : RdsK K w B A n rows) (hB : B ≤ w.heap.size) (o : Obj) : RdsK K (w.alloc o) B A n rows := ⟨h.1, h.2.1, h.2.2.alloc hB o⟩
theorem RdsK.fit (h : RdsK K w B A n rows) : RdsK K w w.heap.size A n rows := ⟨h.1, h.2.1, h.2.2.fit⟩
theorem RdsK.mod {S : Nat → Prop} (h : RdsK K w B A n rows) (hm : Mod S w w') (hB : B ≤ w.heap.size) (hS : ∀ j, j < B → ¬ S j) : RdsK K w' B A n rows := ⟨h.1, h.2.1, h.2.2.mod hm hB hS⟩
theorem RdsK.new (h : RdsK K w B A n rows) (hm : Mod (fun _ => False) w w') : RdsK K w' w.heap.size A n rows := ⟨h.1, h.2.1, h.2.2.new hm⟩
theorem RdsK.below (h : RdsK K w B A n rows) (hb : Below B w w') : RdsK K w' B A n rows := ⟨h.1, h.2.1, h.2.2.below hb⟩
/-- One element: where it lies, and its cells. -/
theorem RdsK.at_ (h : RdsK K w B A n rows) {i : Nat} (hi : i < n) (hK : 0 < K) : ∃ ad r, A = some ad ∧ ad.block < B ∧ rows[i]? = some r ∧ r.length = K ∧ ∀ j u, r[j]? = some u → w.cell? (ad.add (i * K + j)) = some u := by
 have hl := h.1
 have hir : i < rows.length := by omega
 obtain ⟨ad, e, hb, hc⟩ := h.2.2.2 (Nat.mul_pos (by omega) hK)
 refine ⟨ad, rows[i], e, hb, List.getElem?_eq_getElem hir, h.2.1 _ (List.getElem_mem hir), fun j u hu => hc _ _ ?_⟩
 have hj : j < K := by
  have h1 := (List.getElem?_eq_some_iff.1 hu).1
  have h2 := h.2.1 _ (List.getElem_mem hir)
  omega
 rw [flat_get h.2.1 (List.getElem?_eq_getElem hir) hj]
 exact hu
/-- s[:k] -/
theorem RdsK.take (h : RdsK K w B A n rows) {k : Nat} (hk : k ≤ n) : RdsK K w B A k (rows.take k) := by
 refine ⟨by rw [List.length_take, h.1]; omega, h.2.1.take k, ?_⟩
 rw [← flat_take k h.2.1]
 exact h.2.2.take (Nat.mul_le_mul_right K hk)
/-- s[k:] -/
theorem RdsK.drop (h : RdsK K w B A n rows) {k cap : Nat} (hk : k ≤ n) (hc : n ≤ cap) (hK : 0 < K) : RdsK K w B (if cap = k then A else A.map (·.add (k * K))) (n - k) (rows.drop k) := by
 refine ⟨by rw [List.length_drop, h.1], h.2.1.drop k, ?_⟩
 have h2 := h.2.2.drop (k := k * K) (cap := cap * K) (Nat.mul_le_mul_right K hk) (Nat.mul_le_mul_right K hc)
 rw [flat_drop k h.2.1, ← Nat.sub_mul] at h2
 by_cases e : cap = k
 ·rw [if_pos (by rw [e])] at h2
  rw [if_pos e]
  exact h2
 ·rw [if_neg (fun e2 => e (Nat.eq_of_mul_eq_mul_right hK e2))] at h2
  rw [if_neg e]
  exact h2
end
/-- A row of the call's own of such elements: all that it has lies from block B on. -/
def OwnK (K B : Nat) (w : World) (e : TypeId) (v : Value) (rows : List (List Value)) : Prop := AllK K rows ∧ w.ownsRow B e K v rows.length rows.flatten
section
variable {K : Nat} {w w' : World} {B B' : Nat} {e : TypeId} {v : Value} {rows : List (List Value)}
theorem OwnK.nil (K B : Nat) (w : World) (e : TypeId) : OwnK K B w e (.slice none 0 0) [] := ⟨AllK.nil K, World.ownsRow_nil _ _ _ _⟩
theorem OwnK.drew (h : OwnK K B w e v rows) : OwnK K B w.drew e v rows := h
theorem OwnK.alloc (h : OwnK K B w e v rows) (o : Obj) : OwnK K B (w.alloc o) e v rows := ⟨h.1, World.ownsRow.alloc h.2 o⟩
theorem OwnK.mono (h : OwnK K B w e v rows) (hB : B' ≤ B) : OwnK K B' w e v rows := by
 refine ⟨h.1, h.2.1, ?_⟩
 rcases h.2.2 with hn | ⟨g, cap, cur, rfl, hb, rest⟩
 ·exact .inl hn
 ·exact .inr ⟨g, cap, cur, rfl, by omega, rest⟩
theorem OwnK.below (h : OwnK K B w e v rows) (hb : Below w.heap.size w w') : OwnK K B w' e v rows := by
 refine ⟨h.1, h.2.1, ?_⟩
 rcases h.2.2 with hn | ⟨g, cap, cur, rfl, hB, hgg, rest⟩
 ·exact .inl hn
 ·refine .inr ⟨g, cap, cur, rfl, hB, ?_, rest⟩
  rw [hb.block g (Array.getElem?_eq_some_iff.1 hgg).1]
  exact hgg
theorem OwnK.mod (h : OwnK K B w e v rows) (hm : Mod (fun _ => False) w w') : OwnK K B w' e v rows := ⟨h.1, hm.owns h.2 (fun _ _ h => h)⟩
theorem OwnK.modS {S : Nat → Prop} (h : OwnK K B w e v rows) (hm : Mod S w w') (hS : ∀ k, v.ownBlock = some k → ¬ S k) : OwnK K B w' e v rows := ⟨h.1, hm.owns h.2 hS⟩
theorem OwnK.block (h : OwnK K B w e v rows) : ∀ k, v.ownBlock = some k → B ≤ k ∧ k < w.heap.size := World.ownsRow.lt h.2
/-- What its value looks like. -/
theorem OwnK.form (h : OwnK K B w e v rows) : ∃ A c, v = .slice A rows.length c ∧ (A = none → c = 0) ∧ rows.length ≤ c ∧ c ≤ maxLen ∧ RdsK K w w.heap.size A rows.length rows := by
 obtain ⟨hK, ho⟩ := h
 have hl := flat_len hK
 rcases ho.2 with ⟨rfl, h0⟩ | ⟨g, cap, cur, rfl, hB, hgg, hnc, hcm, hcs, htk⟩
 ·obtain rfl : rows = [] := List.eq_nil_of_length_eq_zero h0
  exact ⟨none, 0, rfl, fun _ => rfl, Nat.le_refl _, Nat.zero_le _, RdsK.nil _ _ _ _⟩
 ·exact ⟨_, cap, rfl, (fun h => by cases h), hnc, hcm, rfl, hK, hl, fun _ => ⟨_, rfl, (Array.getElem?_eq_some_iff.1 hgg).1, World.ownsRow.cells ho (g := g) rfl⟩⟩
theorem OwnK.formN (h : OwnK K B w e v rows) : ∃ A L c, v = .slice A L c ∧ Hid (rows.length = L) ∧ L ≤ c ∧ c ≤ maxLen ∧ RdsK K w w.heap.size A L rows := by
 obtain ⟨A, c, e, _, h1, h2, h3⟩ := h.form
 exact ⟨A, rows.length, c, e, Lib.hid rfl, h1, h2, h3⟩
theorem OwnK.rds {A : Option Addr} {n c : Nat} (h : OwnK K B w e (.slice A n c) rows) (hn : rows.length = n) : RdsK K w w.heap.size A n rows := by
 obtain ⟨A', c', e, _, _, _, hr⟩ := h.form
 injection e with e1 e2 e3
 subst e1 e2
 exact hr
/-- Where it lies, if it is not empty. -/
theorem OwnK.form' (h : OwnK K B w e v rows) (hn : 0 < rows.length) : ∃ g cap, v = .slice (some ⟨g, 0, none⟩) rows.length cap ∧ rows.length ≤ cap ∧ cap ≤ maxLen ∧ B ≤ g ∧ g < w.heap.size := by
 rcases h.2.2 with ⟨rfl, h0⟩ | ⟨g, cap, cur, rfl, hB, hgg, hnc, hcm, _⟩
 ·omega
 ·exact ⟨g, cap, rfl, hnc, hcm, hB, (Array.getElem?_eq_some_iff.1 hgg).1⟩
/-- One cell of one element written: s[i].f = u. -/
theorem OwnK.set_ {g n cap i j : Nat} {r : List Value} (h : OwnK K B w e (.slice (some ⟨g, 0, none⟩) n cap) rows) (hn : rows.length = n) (hr : rows[i]? = some r) (hj : j < K) (u : Value) :
  (∃ x, r[j]? = some x ∧ w.cell? ⟨g, i * K + j, none⟩ = some x) ∧ w.frozen? ⟨g, i * K + j, none⟩ = false ∧ OwnK K B (w.setCell ⟨g, i * K + j, none⟩ u) e (.slice (some ⟨g, 0, none⟩) n cap) (rows.set i (r.set j u)) := by
 obtain ⟨hK, ho⟩ := h
 have hir := (List.getElem?_eq_some_iff.1 hr).1
 have hrl : r.length = K := hK r (List.mem_of_getElem? hr)
 have hl := flat_len hK
 have hlt : i * K + j < rows.length * K := by
  have := Nat.mul_le_mul_right K hir
  rw [Nat.succ_mul] at this
  omega
 rw [hn] at ho
 refine ⟨⟨r[j]'(by omega), List.getElem?_eq_getElem (by omega), ?_⟩, ho.frozenAt _, hK.set_ i (by rw [List.length_set]; exact hrl), ?_⟩
 ·rw [ho.cellAt _ (by rw [← hn]; exact hlt), flat_get hK hr hj, List.getElem?_eq_getElem (by omega)]
 ·have h2 := (ho.stored (i * K + j) u).1
  rw [flat_set u hK hr hj] at h2
  rw [List.length_set, hn]
  exact h2
end
/-- A slice type's element of K cells: its row of the table. -/
def EltK (P : Program) (t e : TypeId) (z : Value) (K bytes : Nat) : Prop := P.underlying t = some (.slice e) ∧ (∃ i, P.info? e = some i ∧ i.zero = some z ∧ i.size = K ∧ i.bytes = bytes) ∧ z.cells.size = K ∧ 0 < K
theorem EltK.mk {P : Program} {t e : TypeId} {z : Value} {K bytes : Nat} (h1 : P.underlying t = some (.slice e)) (h2 : (P.info? e).map (fun i => (i.zero, i.size, i.bytes)) = some (some z, K, bytes)) (h3 : z.cells.size = K) (h4 : 0 < K) : EltK P t e z K bytes :=
 ⟨h1, info_parts h2, h3, h4⟩
section
variable {P : Program} {w : World}
theorem run_append_nilK (t ty e : TypeId) (i : TypeInfo) (ht : P.underlying t = some (.slice e)) (hi : P.info? e = some i) {K B : Nat} {v : Value} {rows : List (List Value)} (hown : OwnK K B w e v rows) (c : Nat) :
  (Builtin.append_ #[t, t] ty #[v, .slice none 0 c]).run P w = .ok v w := by
 rcases hown.2.2 with ⟨rfl, h0⟩ | ⟨g, cap, cur, rfl, _, _, hnc, _⟩
 ·simp [Builtin.append_, run_underlying ht, sizeOf, typeInfo, hi, Builtin.lenOf, Builtin.firstCells]
 ·simp [Builtin.append_, run_underlying ht, sizeOf, typeInfo, hi, Builtin.lenOf, Builtin.firstCells, hnc, storeCells]
theorem run_appK {t ty e : TypeId} {z : Value} {K bytes B B2 m c : Nat} {v : Value} {rows news : List (List Value)} {A : Option Addr} (hE : EltK P t e z K bytes) (hown : OwnK K B w e v rows) (hr : RdsK K w B2 A m news) (h1 : ∀ u ∈ news.flatten, u.oneCell' = true)
  (hm : rows.length + m ≤ maxLen) (hb : (rows.length + m) * bytes ≤ 140737488355328) (hB : B ≤ w.heap.size) :
  ∃ v' w', (Builtin.append_ #[t, t] ty #[v, .slice A m c]).run P w = .ok v' w' ∧ OwnK K B w' e v' (rows ++ news) ∧ w.grownBy w' v.ownBlock ∧ (v'.ownBlock = v.ownBlock ∨ v'.ownBlock = some w.heap.size) := by
 obtain ⟨ht, ⟨i, hi, hz, hsize, hby⟩, hzs, hK⟩ := hE
 have hrl := hr.1
 have hfl := flat_len hr.2.1
 rcases A with _ | ad
 ·have hm0 : m = 0 := by
   rcases Nat.eq_zero_or_pos m with h0 | h0
   ·exact h0
   ·obtain ⟨ad, h, _⟩ := hr.2.2.2 (Nat.mul_pos h0 hK)
    cases h
  subst hm0
  obtain rfl : news = [] := List.eq_nil_of_length_eq_zero hrl
  exact ⟨v, w, run_append_nilK t ty e i ht hi hown c, by simpa using hown, World.grownBy.refl w _, .inl rfl⟩
 ·have hcells : ∀ j u, news.flatten[j]? = some u → w.cell? (ad.add j) = some u := by
   intro j u hu
   rcases Nat.eq_zero_or_pos m with h0 | h0
   ·subst h0
    obtain rfl : news = [] := List.eq_nil_of_length_eq_zero hrl
    simp at hu
   ·obtain ⟨ad', h, _, hc⟩ := hr.2.2.2 (Nat.mul_pos h0 hK)
    injection h with h
    subst h
    exact hc j u hu
  obtain ⟨v', w', hrun, h2, h3, _, h5⟩ := run_append_own_at (P := P) w B t ty e i z K bytes ht hi hz hsize hby hzs hK v rows.length rows.flatten hown.2 ad m c news.flatten (by rw [hfl, hrl]) hcells h1 hm hb hB
  refine ⟨v', w', hrun, ⟨hown.1.app hr.2.1, ?_⟩, h3, h5⟩
  rw [List.length_append, hrl, List.flatten_append]
  exact h2
/-- append(s, x..), s a row of the call's own. -/
theorem wpList_appK {ops : Array Oper} {rest : List Oper} {o : Oper} {a : Act} {Q : Exit → Act → World → Prop} (hgd : o.guard = none) (s x : Operand) (t : TypeId)
  (ho : o.op = .call { callee := .builtin .append, args := #[s, x], argTypes := #[t, t] }) {e : TypeId} {z : Value} {K bytes : Nat} (hE : EltK P t e z K bytes)
  {B : Nat} {v : Value} {rows : List (List Value)} (hs : a.eval s = v) (hown : OwnK K B w e v rows) {B2 m c : Nat} {A : Option Addr} {news : List (List Value)} (hx : a.eval x = .slice A m c) (hr : RdsK K w B2 A m news) (h1 : ∀ u ∈ news.flatten, u.oneCell' = true)
  (hm : rows.length + m ≤ maxLen) (hb : (rows.length + m) * bytes ≤ 140737488355328) (hB : B ≤ w.heap.size)
  (h : ∀ v' w', Hid (OwnK K B w' e v' (rows ++ news)) → Hid (Below B w w') → Hid (w.grownBy w' v.ownBlock ∧ (v'.ownBlock = v.ownBlock ∨ v'.ownBlock = some w.heap.size)) → wpList P ops Q rest (a.put o.dst v') w') : wpList P ops Q (o :: rest) a w := by
 refine wpList_plain hgd fun _ hK => ?_
 obtain ⟨v', w', hrun, h2, h3, h4⟩ := run_appK (ty := o.type) (c := c) hE hown hr h1 hm hb hB
 unfold Oper.wp execOp
 simp only [ho, resolve, invoke, builtin, Sem.run_bind, Sem.run_pure, Result.andThen_ok, List.map_toArray, List.map_cons, List.map_nil, hs, hx, hrun]
 exact hK _ _ (h v' w' (Lib.hid h2) (Lib.hid ((Below.refl B w).grown h3 hB fun k hk => (hown.block k hk).1)) (Lib.hid ⟨h3, h4⟩))
end
end Go.Proofs.YthgoppmgapaajaaGreatDoor

/- The document's numbers, bits, held, fits. -/
namespace Go.Proofs.YthgoppmgapaajaaGreatDoor
open Go.RowKit

def numsV : Array Value := #[.int .i64 240, .int .i64 120, .int .i64 60, .int .i64 30, .int .i64 20, .int .i64 15, .int .i64 12, .int .i64 10, .int .i64 8, .int .i64 7, .int .i64 6, .int .i64 5, .int .i64 4, .int .i64 3, .int .i64 2, .int .i64 1]
def bitsV : Array Value := #[.int .i64 0, .int .i64 0, .int .i64 1, .int .i64 2, .int .i64 3, .int .i64 4, .int .i64 5, .int .i64 6, .int .i64 7, .int .i64 8, .int .i64 10, .int .i64 12, .int .i64 15, .int .i64 20, .int .i64 30, .int .i64 60]
theorem numsV_at : ∀ k : Fin 16, numsV[k.val]? = some (.int .i64 (numN k.val : Int)) := by
 intro ⟨k, hk⟩
 have h : k = 0 ∨ k = 1 ∨ k = 2 ∨ k = 3 ∨ k = 4 ∨ k = 5 ∨ k = 6 ∨ k = 7 ∨ k = 8 ∨ k = 9 ∨ k = 10 ∨ k = 11 ∨ k = 12 ∨ k = 13 ∨ k = 14 ∨ k = 15 := by omega
 rcases h with rfl | rfl | rfl | rfl | rfl | rfl | rfl | rfl | rfl | rfl | rfl | rfl | rfl | rfl | rfl | rfl <;> rfl
theorem bitsV_at : ∀ k : Fin 16, bitsV[k.val]? = some (.int .i64 (bitN k.val : Int)) := by
 intro ⟨k, hk⟩
 have h : k = 0 ∨ k = 1 ∨ k = 2 ∨ k = 3 ∨ k = 4 ∨ k = 5 ∨ k = 6 ∨ k = 7 ∨ k = 8 ∨ k = 9 ∨ k = 10 ∨ k = 11 ∨ k = 12 ∨ k = 13 ∨ k = 14 ∨ k = 15 := by omega
 rcases h with rfl | rfl | rfl | rfl | rfl | rfl | rfl | rfl | rfl | rfl | rfl | rfl | rfl | rfl | rfl | rfl <;> rfl
set_option maxHeartbeats 1000000 in
theorem numbers_any (k : Nat) (w : World) (hk : k < 16) : Calls Tryz.prog 71 #[.int .i64 (k : Int)] w fun e w' => e = .returned (.int .i64 (numN k : Int)) ∧ Mod (fun _ => False) w w' := by
 obtain ⟨W, hW⟩ : ∃ W, W = w.alloc (.cells numsV 120) := ⟨_, rfl⟩
 have hmW : Mod (fun _ => False) w W := by rw [hW]; exact (Mod.refl _ _).alloc _
 have hbW : Blk W w.heap.size 120 numsV := by rw [hW]; exact Blk.new _ _ _
 have hd := (hbW.cell k).trans (numsV_at ⟨k, hk⟩)
 simp only at hd
 obtain ⟨c, hc⟩ : ∃ c, c = numN k := ⟨_, rfl⟩
 rw [← hc] at hd ⊢
 have hk0 : (0 : Int) ≤ (k : Int) := by omega
 have hk1 : (k : Int) < 16 := by omega
 unfold numsV at hW
 have HW := Lib.hid hW; have HmW := Lib.hid hmW
 clear hW hmW hbW hc
 go_enter Tryz.func71, Tryz.ntmps71
 go_wp2_with (first | (rw [← HW.out]))
 go_ret
 exact ⟨rfl, HmW.out⟩
set_option maxHeartbeats 1000000 in
theorem bits_any (k : Nat) (w : World) (hk : k < 16) : Calls Tryz.prog 72 #[.int .i64 (k : Int)] w fun e w' => e = .returned (.int .i64 (bitN k : Int)) ∧ Mod (fun _ => False) w w' := by
 obtain ⟨W, hW⟩ : ∃ W, W = w.alloc (.cells bitsV 120) := ⟨_, rfl⟩
 have hmW : Mod (fun _ => False) w W := by rw [hW]; exact (Mod.refl _ _).alloc _
 have hbW : Blk W w.heap.size 120 bitsV := by rw [hW]; exact Blk.new _ _ _
 have hd := (hbW.cell k).trans (bitsV_at ⟨k, hk⟩)
 simp only at hd
 obtain ⟨c, hc⟩ : ∃ c, c = bitN k := ⟨_, rfl⟩
 rw [← hc] at hd ⊢
 have hk0 : (0 : Int) ≤ (k : Int) := by omega
 have hk1 : (k : Int) < 16 := by omega
 unfold bitsV at hW
 have HW := Lib.hid hW; have HmW := Lib.hid hmW
 clear hW hmW hbW hc
 go_enter Tryz.func72, Tryz.ntmps72
 go_wp2_with (first | (rw [← HW.out]))
 go_ret
 exact ⟨rfl, HmW.out⟩
theorem numbers_is (k c : Nat) (w : World) (hk : k < 16) (hc : numN k = c) : Calls Tryz.prog 71 #[.int .i64 (k : Int)] w fun e w' => e = .returned (.int .i64 (c : Int)) ∧ Mod (fun _ => False) w w' := by
 subst hc
 exact numbers_any k w hk
theorem bits_is (k c : Nat) (w : World) (hk : k < 16) (hc : bitN k = c) : Calls Tryz.prog 72 #[.int .i64 (k : Int)] w fun e w' => e = .returned (.int .i64 (c : Int)) ∧ Mod (fun _ => False) w w' := by
 subst hc
 exact bits_any k w hk
end Go.Proofs.YthgoppmgapaajaaGreatDoor

/- Whether the next numbers may stand in a word of a kind: the document's fits. -/
namespace Go.Proofs.YthgoppmgapaajaaGreatDoor
open Go.RowKit

set_option maxHeartbeats 1000000 in
set_option maxRecDepth 100000 in
theorem fits_any (A : Option Addr) (n cap B k : Nat) (us : List Nat) (w : World) (hs : Rds w B A n (cellsU us)) (hB : B ≤ w.heap.size) (hu : ∀ x ∈ us, x < 2 ^ 64) (hk : k < 16) (hn : n ≤ 1000000) :
  Calls Tryz.prog 70 #[.slice A n cap, .int .i64 (k : Int)] w fun e w' => e = .returned (.bool (fitsK us k)) ∧ Mod (fun _ => False) w w' := by
 have hul : us.length = n := by have := hs.1; rwa [cellsU_length] at this
 have Hs := Lib.hid hs; have Hu := Lib.hid hu; have Hul := Lib.hid hul; have HB := Lib.hid hB; have Hk := Lib.hid hk
 clear hs hu hul hB
 obtain ⟨c, hc⟩ : ∃ c, numN k = c := ⟨_, rfl⟩
 obtain ⟨s, hs⟩ : ∃ s, bitN k = s := ⟨_, rfl⟩
 have hnp := num_pos hk
 rw [hc, hs] at hnp
 have hc2 : c ≤ 240 := hnp.2.1
 have hs2 : s ≤ 60 := hnp.2.2.2
 have Hc := Lib.hid hc; have Hss := Lib.hid hs
 have hk0 : (0 : Int) ≤ (k : Int) := by omega
 have hkk : (k : Int) < 16 := by omega
 clear hc hs hnp
 by_cases hfew : k < 2 ∧ n < c
 ·obtain ⟨hk2, hnc⟩ := hfew
  have Hk2 := Lib.hid hk2
  have hkd : (k : Int) < 2 := by omega
  clear hk2
  go_enter Tryz.func70, Tryz.ntmps70
  go_wp2_with fail
  refine (numbers_is k c _ hk Hc.out).mono ?_
  rintro e w1 ⟨rfl, hm1⟩
  have Hm1 := Lib.hid hm1
  clear hm1
  go_wp2_with fail
  go_ret
  exact ⟨ret_bool (by rw [fitsK_few Hk2.out (by rw [Hul.out, Hc.out]; exact hnc)]), Hm1.out⟩
 ·have Hfew := Lib.hid hfew
  clear hfew
  have hsn : ¬ (k : Int) < 2 ∨ ((k : Int) < 2 ∧ ¬ n < c) := by
   by_cases h : k < 2
   ·exact .inr ⟨by omega, fun h2 => Hfew.out ⟨h, h2⟩⟩
   ·exact .inl (by omega)
  go_enter Tryz.func70, Tryz.ntmps70
  rcases hsn with hkd | ⟨hkd, hnc⟩
  all_goals go_wp2_with (first | (go_at_call 71; refine (numbers_is k c _ hk Hc.out).mono ?_; rintro e w1 ⟨rfl, hm1⟩; have Hm1 := Lib.hid hm1; clear hm1))
  all_goals
   go_loopg [5] (n + 1) (fun l s5 wr => ∃ i : Nat, i + l = n + 1 ∧ i ≤ c ∧ i ≤ n ∧ s5 = .int .i64 (i : Int) ∧ Seen us s i ∧ Mod (fun _ => False) w wr)
   case atStart => exact ⟨0, by omega, Nat.zero_le _, Nat.zero_le _, rfl, (fun x h => by simp at h), by first | exact Hm1.out | exact Mod.refl _ _⟩
   case round =>
    obtain ⟨i, hil, hic, hin', rfl, hS, hm⟩ := hrel
    have HS := Lib.hid hS; have Hil := Lib.hid hil; have Hmr := Lib.hid hm
    clear hS hil hm
    by_cases hin : i < n
    ·by_cases hic2 : i < c
     ·obtain ⟨ad, x, rfl, hx, hcx⟩ := Hs.out.at2 hin HB.out Hmr.out (fun _ _ h => h)
      have Hx := Lib.hid hx
      have hxl := Lib.hid (Hu.out x (List.mem_of_getElem? hx))
      clear hx
      go_upto_region 6 with (first | (go_at_call 71; refine (numbers_is k c _ hk Hc.out).mono ?_; rintro e w2 ⟨rfl, hm2⟩; have Hm2 := Lib.hid hm2; clear hm2))
      have hX : ∀ W, Mod (fun _ => False) w2 W → W.cell? (ad.add i) = some (.int .u64 (x : Int)) := fun W hW => ((Hm2.out.trans hW (fun _ _ h => h)).cell (by rw [add_block]; exact World.block_lt_of_cell? _ _ hcx |> fun h => by rwa [add_block] at h) (fun h => h)).trans hcx
      have HX := Lib.hid hX
      have hsw : IntKind.u64.wrap (s : Int) = (s : Int) := by rw [IntKind.wrap_u64]; omega
      have hi0 : (0 : Int) ≤ (i : Int) := by omega
      have hi1 : (i : Int) < (n : Int) := by omega
      clear hX hcx
      by_cases hq : x < 2 ^ s
      ·have hqb : ((x : Int) / 2 ^ s != 0) = false := div_nought hq
       have Hq := Lib.hid hq
       clear hq
       go_region_held_law (fun w' => w'.cell? (ad.add i) = some (.int .u64 (x : Int))) (first | exact HX.out _ S5.out | exact HX.out _ (Mod.refl _ _).drew)
        (first | (go_at_call 72; refine (bits_is k s _ hk Hss.out).mono ?_; rintro e w5 ⟨rfl, hm5⟩; have S5 : Hid (Mod (fun _ => False) w2 w5) := Lib.hid (((Mod.refl _ _).drew).trans hm5 (fun _ _ h => h)); clear hm5))
       go_wp2_with fail
       go_roundg (gk - 1)
       case measure => have := Hil.out; omega
       case rel => exact ⟨i + 1, by have := Hil.out; omega, by omega, by omega, by go_num, HS.out.more Hx.out Hq.out, (Hmr.out.trans Hm2.out (fun _ _ h => h)).trans S5.out (fun _ _ h => h)⟩
      ·have hqb : ((x : Int) / 2 ^ s != 0) = true := div_some hq
       have Hq := Lib.hid hq
       clear hq
       go_region_held_law (fun w' => w'.cell? (ad.add i) = some (.int .u64 (x : Int))) (first | exact HX.out _ S5.out | exact HX.out _ (Mod.refl _ _).drew)
        (first | (go_at_call 72; refine (bits_is k s _ hk Hss.out).mono ?_; rintro e w5 ⟨rfl, hm5⟩; have S5 : Hid (Mod (fun _ => False) w2 w5) := Lib.hid (((Mod.refl _ _).drew).trans hm5 (fun _ _ h => h)); clear hm5))
       go_wp2_with fail
       go_ret
       exact ⟨ret_bool (by rw [fitsK_no (by rw [Hc.out]; exact hic2) Hx.out (by rw [Hss.out]; exact Hq.out)]), (Hmr.out.trans Hm2.out (fun _ _ h => h)).trans S5.out (fun _ _ h => h)⟩
     ·go_wp2_with (first | (go_at_call 71; refine (numbers_is k c _ hk Hc.out).mono ?_; rintro e w2 ⟨rfl, hm2⟩; have Hm2 := Lib.hid hm2; clear hm2))
      go_ret
      refine ⟨ret_bool ?_, Hmr.out.trans Hm2.out (fun _ _ h => h)⟩
      rw [fitsK_yes (by rw [Hul.out, Hc.out]; exact Hfew.out)]
      intro x hx
      rw [Hss.out]
      rw [Hc.out] at hx
      refine HS.out x ?_
      rw [show i = c by omega]
      exact hx
    ·go_wp2_with fail
     go_ret
     refine ⟨ret_bool ?_, Hmr.out⟩
     rw [fitsK_yes (by rw [Hul.out, Hc.out]; exact Hfew.out)]
     intro x hx
     rw [Hss.out]
     refine HS.out x ?_
     rw [List.take_of_length_le (by rw [Hul.out]; omega)]
     exact List.mem_of_mem_take hx
end Go.Proofs.YthgoppmgapaajaaGreatDoor

/- Rows of small numbers are told: the document's Simple. -/
namespace Go.Proofs.YthgoppmgapaajaaGreatDoor
open Go.RowKit

theorem fits_is (A : Option Addr) (n cap B k : Nat) (us : List Nat) (w : World) (b : Bool) (hs : Rds w B A n (cellsU us)) (hB : B ≤ w.heap.size) (hu : ∀ x ∈ us, x < 2 ^ 64) (hk : k < 16) (hn : n ≤ 1000000) (hb : fitsK us k = b) :
  Calls Tryz.prog 70 #[.slice A n cap, .int .i64 (k : Int)] w fun e w' => e = .returned (.bool b) ∧ Mod (fun _ => False) w w' := by
 subst hb
 exact fits_any A n cap B k us w hs hB hu hk hn
set_option maxHeartbeats 4000000 in
set_option maxRecDepth 100000 in
theorem simple_any (A : Option Addr) (n cap B : Nat) (us : List Nat) (w : World) (hs : Rds w B A n (cellsU us)) (hB : B ≤ w.heap.size) (hu : ∀ x ∈ us, x < 2 ^ 64) (hn : n ≤ 1000000) (hcap : n ≤ cap) :
  Calls Tryz.prog 49 #[.slice A n cap] w fun e w' => EncE w w' (encS us) e := by
 have hul : us.length = n := by have := hs.1; rwa [cellsU_length] at this
 have H0 : Hid (EncTo w w us 0 (.slice none 0 0)) := Lib.hid ⟨[], Own.nil _ _ _, Nat.zero_le _, by rw [List.drop_zero]; cases encS us <;> rfl, Mod.refl _ _⟩
 have Hs := Lib.hid hs; have Hu := Lib.hid hu; have HB := Lib.hid hB; have Hul := Lib.hid hul
 clear hs hu hB hul
 go_enter Tryz.func49, Tryz.ntmps49
 go_wp2_with fail
 go_loopg [4, 5] n (fun l s4 s5 wr => ∃ i : Nat, i + l = n ∧ s5 = .int .i64 (i : Int) ∧ EncTo w wr us i s4)
 case atStart => exact ⟨0, by omega, rfl, H0.out⟩
 case round =>
  obtain ⟨i, hil, rfl, hE⟩ := hrel
  have Hil := Lib.hid hil; have HE := Lib.hid hE
  clear hil hE H0
  by_cases hin : i < n
  ·obtain ⟨done, hown, hdl, henc, hm⟩ := HE.out
   have Hm := Lib.hid hm; have Hown := Lib.hid hown; have Hdl := Lib.hid hdl; have Henc := Lib.hid henc
   clear hm hown hdl henc
   have hi0 : (0 : Int) ≤ (i : Int) := by omega
   obtain ⟨A2, hA2⟩ : ∃ A2, (if cap = i then A else A.map (·.add i)) = A2 := ⟨_, rfl⟩
   have Hr2 : Hid (Rds w B A2 (n - i) (cellsU (us.drop i))) := Lib.hid (by
    have h := Hs.out.drop (Nat.le_of_lt hin) hcap
    rw [hA2, show (cellsU us).drop i = cellsU (us.drop i) by simp [cellsU, ← List.map_drop]] at h
    exact h)
   have Hud : Hid (∀ x ∈ us.drop i, x < 2 ^ 64) := Lib.hid fun x hx => Hu.out x (List.mem_of_mem_drop hx)
   go_upto_block 2 with fail
   go_cut [6] (fun s6 wc => s6 = .int .i64 (kindOf (us.drop i) : Int) ∧ Mod (fun _ => False) wr wc)
   case first =>
    go_wp2_with fail
    go_loopg [6] 16 (fun l s6 wq => ∃ k : Nat, k + l = 16 ∧ s6 = .int .i64 (k : Int) ∧ k ≤ kindOf (us.drop i) ∧ Mod (fun _ => False) wr wq)
    case atStart => exact ⟨0, rfl, rfl, Nat.zero_le _, Mod.refl _ _⟩
    case round =>
     obtain ⟨k, hkl, rfl, hki, hm⟩ := hrel
     have Hkl := Lib.hid hkl; have Hki := Lib.hid hki; have Hmq := Lib.hid hm
     clear hkl hki hm
     by_cases hk : k < 16
     ·cases hf : fitsK (us.drop i) k with
      | true =>
       have Hf := Lib.hid hf
       clear hf
       go_wp2_with fail
       refine (fits_is A2 (n - i) (cap - i) B k (us.drop i) _ true (Hr2.out.mod (Hm.out.trans Hmq.out (fun _ _ h => h)) HB.out (fun _ _ h => h)) (Nat.le_trans HB.out (Hm.out.trans Hmq.out (fun _ _ h => h)).size) Hud.out hk (by omega) Hf.out).mono ?_
       rintro e w1 ⟨rfl, hm1⟩
       have Hm1 := Lib.hid (Hmq.out.trans hm1 (fun _ _ h => h))
       clear hm1
       go_wp2_with fail
       go_meet
       case rel => exact ⟨by rw [kind_is Hki.out Hf.out], Hm1.out⟩
      | false =>
       have Hf := Lib.hid hf
       clear hf
       go_wp2_with fail
       refine (fits_is A2 (n - i) (cap - i) B k (us.drop i) _ false (Hr2.out.mod (Hm.out.trans Hmq.out (fun _ _ h => h)) HB.out (fun _ _ h => h)) (Nat.le_trans HB.out (Hm.out.trans Hmq.out (fun _ _ h => h)).size) Hud.out hk (by omega) Hf.out).mono ?_
       rintro e w1 ⟨rfl, hm1⟩
       have Hm1 := Lib.hid (Hmq.out.trans hm1 (fun _ _ h => h))
       clear hm1
       go_wp2_with fail
       go_roundg (gk - 1)
       case measure => have := Hkl.out; omega
       case rel => exact ⟨k + 1, by have := Hkl.out; omega, by go_num, kind_more hk Hki.out Hf.out, Hm1.out⟩
     ·go_wp2_with fail
      go_meet
      case rel =>
       have hki := kindS_le (us.drop i)
       have := Hki.out
       exact ⟨by rw [show kindOf (us.drop i) = k by omega], Hmq.out⟩
   case rest =>
    obtain ⟨rfl, hmc⟩ := hcut
    have Hmc := Lib.hid (Hm.out.trans hmc (fun _ _ h => h)); have Hmrc := Lib.hid hmc
    obtain ⟨k, hk⟩ : ∃ k, k = kindOf (us.drop i) := ⟨_, rfl⟩
    rw [← hk]
    have hk16 : k ≤ 16 := by rw [hk]; exact kindS_le _
    have Hk := Lib.hid hk
    clear hmc hk hA2
    by_cases h16 : k = 16
    ·have hkb : ((k : Int) == 16) = true := by simp; omega
     have H16 := Lib.hid h16
     clear h16
     go_wp2_with fail
     go_ret2
     have hn := enc_stop (us := us) (i := i) (done := done) (by have := Hul.out; omega) Henc.out (by rw [← Hk.out]; exact H16.out)
     rw [hn]
     exact ⟨rfl, Hmc.out⟩
    ·have hkb : ((k : Int) == 16) = false := by simp; omega
     have hk15 : k < 16 := by omega
     have hnp := num_pos hk15
     obtain ⟨c, hc⟩ : ∃ c, numN k = c := ⟨_, rfl⟩
     obtain ⟨s, hs⟩ : ∃ s, bitN k = s := ⟨_, rfl⟩
     rw [hc, hs] at hnp
     have hc1 : 1 ≤ c := hnp.1
     have hc2 : c ≤ 240 := hnp.2.1
     have hs2 : s ≤ 60 := hnp.2.2.2
     obtain ⟨d, hd⟩ : ∃ d : Nat, d = n - i := ⟨_, rfl⟩
     have hdi : (n : Int) - (i : Int) = (d : Int) := by omega
     obtain ⟨m, hmm⟩ : ∃ m, min c d = m := ⟨_, rfl⟩
     have hmin := min2_is (P := Tryz.prog) (t := 3) (ty := 3) hmm
     have hm1 : 1 ≤ m := by omega
     have hmc : m ≤ c := by omega
     have hmd : i + m ≤ n := by omega
     have hk0 : (0 : Int) ≤ (k : Int) := by omega
     have hkk : (k : Int) < 16 := by omega
     have Hc := Lib.hid hc; have Hss := Lib.hid hs; have Hd := Lib.hid hd; have Hmm := Lib.hid hmm
     obtain ⟨T, hT⟩ : ∃ T, T = wordN k [] := ⟨_, rfl⟩
     have HT := Lib.hid hT
     have hTe : T = k * 1152921504606846976 := by rw [hT]; show k * 2 ^ 60 + 0 = _; omega
     have HTe := Lib.hid hTe
     have Hfit : Hid (∀ x ∈ (us.drop i).take m, x < 2 ^ bitN k) := Lib.hid (by
      have h := fitsK_all (kind_fits (u := us.drop i) (by rw [← Hk.out]; exact hk15))
      rw [← Hk.out] at h
      intro x hx
      refine h x ?_
      have e : ((us.drop i).take (numN k)).take m = (us.drop i).take m := by rw [List.take_take]; congr 1; omega
      rw [← e] at hx
      exact List.mem_of_mem_take hx)
     clear hc hs hd hmm hT hTe hnp h16
     go_wp2_with fail
     refine (numbers_is k c _ hk15 Hc.out).mono ?_
     rintro e w1 ⟨rfl, hmw1⟩
     have Hm1 := Lib.hid (Hmc.out.trans hmw1 (fun _ _ h => h)); have Hmr1 := Lib.hid (Hmrc.out.trans hmw1 (fun _ _ h => h))
     clear hmw1
     go_wp2_with fail
     clear hmin hdi
     obtain ⟨go, rfl⟩ : ∃ go : Nat, go = gk := ⟨_, rfl⟩
     go_loopg [7, 9] m (fun l s7 s9 wq => ∃ (j a : Nat), j + l = m ∧ s9 = .int .i64 (j : Int) ∧ s7 = .int .u64 (a : Int) ∧ a = wordN k (((us.drop i).take m).take j) ∧ Mod (fun _ => False) w1 wq)
     case atStart => exact ⟨0, T, by omega, rfl, by rw [HTe.out]; go_num, HT.out, Mod.refl _ _⟩
     case round =>
      obtain ⟨j, a, hjl, rfl, rfl, ha, hm⟩ := hrel
      have Hjl := Lib.hid hjl; have Ha := Lib.hid ha; have Hmq := Lib.hid hm
      clear hjl ha hm
      by_cases hjm : j < m
      ·have hmwq := Hm1.out.trans Hmq.out (fun _ _ h => h)
       obtain ⟨pp, hpp⟩ : ∃ pp, pp = i + j := ⟨_, rfl⟩
       obtain ⟨ad, x, rfl, hx, hcx⟩ := Hs.out.at2 (i := pp) (by omega) HB.out hmwq (fun _ _ h => h)
       have hx2 : ((us.drop i).take m)[j]? = some x := by rw [List.getElem?_take, if_pos hjm, List.getElem?_drop, ← hpp]; exact hx
       obtain ⟨hq60, hb, hor, hale⟩ := pack_step hk15 (by rw [Hc.out]; omega) hx2 Hfit.out
       rw [Hss.out] at hq60 hb hor
       rw [← Ha.out] at hor hale
       obtain ⟨q, hq⟩ : ∃ q, q = j * s := ⟨_, rfl⟩
       rw [← hq] at hq60 hb hor
       obtain ⟨b, hbe⟩ : ∃ b, b = x * 2 ^ q := ⟨_, rfl⟩
       rw [← hbe] at hb hor
       obtain ⟨a2, ha2⟩ : ∃ a2, a2 = wordN k (((us.drop i).take m).take (j + 1)) := ⟨_, rfl⟩
       rw [← ha2] at hor
       have Ha2 := Lib.hid ha2
       have hpi : IntKind.i64.wrap ((i : Int) + (j : Int)) = (pp : Int) := by rw [IntKind.wrap_i64]; omega
       have hp0 : (0 : Int) ≤ (pp : Int) := by omega
       have hpn : (pp : Int) < (n : Int) := by omega
       have hqi : IntKind.i64.wrap ((j : Int) * (s : Int)) = (q : Int) := by
        have e : (j : Int) * (s : Int) = (q : Int) := by rw [hq]; simp
        rw [e, IntKind.wrap_i64]
        omega
       have hqu : IntKind.u64.wrap (q : Int) = (q : Int) := by rw [IntKind.wrap_u64]; omega
       have hbi : IntKind.u64.wrap ((x : Int) * 2 ^ q) = (b : Int) := by
        have e : (x : Int) * 2 ^ q = (b : Int) := by rw [hbe]; simp
        rw [e, IntKind.wrap_u64]
        omega
       have hX : ∀ W, Mod (fun _ => False) wr W → W.cell? (ad.add pp) = some (.int .u64 (x : Int)) := fun W hW => (hW.cell (World.block_lt_of_cell? _ _ hcx) (fun h => h)).trans hcx
       have HX := Lib.hid hX
       clear hx hx2 hpp hq hbe ha2 hX hcx hmwq hb hale
       go_upto_region 14 with fail
       go_region_held_law (fun w' => w'.cell? (ad.add pp) = some (.int .u64 (x : Int))) (first | exact HX.out _ S5.out | exact HX.out _ (Mod.refl _ _).drew)
        (first | (go_at_call 72; refine (bits_is k s _ hk15 Hss.out).mono ?_; rintro e w5 ⟨rfl, hm5⟩; have S5 : Hid (Mod (fun _ => False) wr w5) := Lib.hid (((Mod.refl _ _).drew).trans hm5 (fun _ _ h => h)); clear hm5))
       go_wp2_with fail
       go_roundg (gk - 1)
       case measure => have := Hjl.out; omega
       case rel => exact ⟨j + 1, a2, by have := Hjl.out; omega, by go_num, rfl, Ha2.out, Hmq.out.trans S5.out (fun _ _ h => h)⟩
      ·have hj : j = m := by have := Hjl.out; omega
       have hmw := Hm1.out.trans Hmq.out (fun _ _ h => h)
       have Hown1 := Lib.hid ((Hmr1.out.trans Hmq.out (fun _ _ h => h)).owns Hown.out (fun _ _ h => h))
       have hr1 : (cellsU done).length + 1 ≤ maxLen := by rw [cellsU_length]; unfold maxLen; have := Hdl.out; omega
       have hr2 : ((cellsU done).length + 1) * 8 ≤ 140737488355328 := by rw [cellsU_length]; have := Hdl.out; omega
       have hsz : w.heap.size ≤ wr.heap.size := hmw.size
       have Hmw := Lib.hid hmw
       have hae : a = wordN k ((us.drop i).take m) := by rw [Ha.out, List.take_of_length_le (by rw [List.length_take]; omega)]
       have Hae := Lib.hid hae
       have Hgo : Hid (i + go = n) := Lib.hid Hil.out
       clear hj hmw hae
       go_wp2_with (at_builtin; refine wpList_app1 rfl (.tmp 57) (.tmp 59) _ rfl eltU rfl Hown1.out rfl rfl rfl hr1 hr2 hsz ?_; intro v' w2 HO HBl)
       have hmin2 : min (numN k) (us.length - i) = m := by have := Hmm.out; have := Hc.out; have := Hul.out; have := Hd.out; omega
       have hst := enc_step (us := us) (i := i) (k := k) (done := done) (by have := Hul.out; omega) Henc.out Hk.out.symm hk15
       rw [hmin2, ← Hae.out] at hst
       have HE2 : Hid (EncTo w w2 us (i + m) v') := Lib.hid ⟨done ++ [a], by rw [cellsU_snoc]; exact HO.out, by rw [List.length_append, List.length_singleton]; have := Hdl.out; omega, hst, Hmw.out.trans (Mod.of_below HBl.out) (fun i hi h => by omega)⟩
       clear hst hmin2
       go_wp2_with fail
       go_roundg (go - m)
       case measure => have := Hgo.out; omega
       case rel => exact ⟨i + m, by have := Hgo.out; omega, by go_num, HE2.out⟩
  ·go_wp2_with fail
   go_ret2
   obtain ⟨done, hown, hdl, henc, hm⟩ := HE.out
   have e : encS us = some done := by
    rw [henc, List.drop_of_length_le (by have := Hul.out; have := Hil.out; omega), encS_nil]
    simp
   rw [e]
   exact ⟨_, rfl, hown, hm⟩
end Go.Proofs.YthgoppmgapaajaaGreatDoor

/- The document's own answer: a row of values is told by its runs. -/
namespace Go.Proofs.YthgoppmgapaajaaGreatDoor
open Go.RowKit

set_option maxHeartbeats 1000000 in
set_option maxRecDepth 100000 in
theorem lrenc_any (A : Option Addr) (n cap B : Nat) (us : List Nat) (w : World) (hs : Rds w B A n (cellsU us)) (hB : B ≤ w.heap.size) (hu : ∀ x ∈ us, x < 2 ^ 64) (hn : n ≤ 1000000) :
  Calls Tryz.prog 51 #[.slice A n cap] w fun e w' => ∃ v, e = .returned v ∧ Own w.heap.size w' 5 v (cells8 (encR us)) ∧ Mod (fun _ => False) w w' := by
 have hul : us.length = n := by have := hs.1; rwa [cellsU_length] at this
 have H0 : Hid (LencTo w w us 0 (.slice none 0 0)) := Lib.hid ⟨[], Own.nil _ _ _, by rw [List.drop_zero]; rfl, Nat.zero_le _, Mod.refl _ _⟩
 have Hs := Lib.hid hs; have Hu := Lib.hid hu; have HB := Lib.hid hB; have Hul := Lib.hid hul
 clear hs hu hB hul
 go_enter Tryz.func51, Tryz.ntmps51
 go_wp2_with fail
 go_loopg [3, 4] n (fun l s3 s4 wr => ∃ i : Nat, i + l = n ∧ s4 = .int .i64 (i : Int) ∧ LencTo w wr us i s3)
 case atStart => exact ⟨0, by omega, rfl, H0.out⟩
 case round =>
  obtain ⟨i, hil, rfl, hE⟩ := hrel
  obtain ⟨done, hown, henc, hdl, hm⟩ := hE
  obtain ⟨Ao, Lo, co, rfl, HLo, _, _, hro⟩ := own_formN8 hown
  have Hil := Lib.hid hil; have Hm := Lib.hid hm; have Hown := Lib.hid hown; have Hdl := Lib.hid hdl; have Henc := Lib.hid henc; have Hro := Lib.hid hro
  have hBr : Hid (B ≤ wr.heap.size) := Lib.hid (Nat.le_trans HB.out hm.size)
  clear hil H0 hm hown hdl henc hro
  by_cases hin : i < n
  ·obtain ⟨ad, x, rfl, hx, hcx⟩ := Hs.out.at2 hin HB.out Hm.out (fun _ _ h => h)
   have hx64 : Lt64 x := by
    have h := Hu.out x (List.mem_of_getElem? hx)
    unfold Lt64
    omega
   have Hx := Lib.hid hx; have Hx64 := Lib.hid hx64
   have hX : ∀ W, Mod (fun _ => False) wr W → W.cell? (ad.add i) = some (.int .u64 (x : Int)) := fun W hW => (hW.cell (World.block_lt_of_cell? _ _ hcx) (fun h => h)).trans hcx
   have HX := Lib.hid hX
   have hi0 : (0 : Int) ≤ (i : Int) := by omega
   have hini : (i : Int) < (n : Int) := by omega
   clear hx hx64 hX hcx
   go_wp2_with fail
   obtain ⟨go, rfl⟩ : ∃ go : Nat, go = gk := ⟨_, rfl⟩
   obtain ⟨wo, rfl⟩ : ∃ wo : World, wo = wr := ⟨_, rfl⟩
   go_loopg [5] (n - i) (fun l s5 wi => ∃ k : Nat, k + l = n ∧ i ≤ k ∧ s5 = .int .i64 (k : Int) ∧ (∀ j, j < k - i → (us.drop i)[j]? = some x) ∧ Mod (fun _ => False) wo wi)
   case atStart => exact ⟨i, by omega, Nat.le_refl _, rfl, (fun j hj => by omega), Mod.refl _ _⟩
   case round =>
    obtain ⟨k, hkl, hik, rfl, hall, hm⟩ := hrel
    have Hkl := Lib.hid hkl; have Hall := Lib.hid hall; have Hmi := Lib.hid hm
    have hcx := HX.out _ hm
    have hk0 : (0 : Int) ≤ (k : Int) := by omega
    clear hkl hall hm
    by_cases hgo : k < n ∧ us[k]? = some x
    ·obtain ⟨hkn, hy⟩ := hgo
     obtain ⟨ad2, y, hA2, hy2, hcy⟩ := Hs.out.at2 hkn HB.out (Hm.out.trans Hmi.out (fun _ _ h => h)) (fun _ _ h => h)
     injection hA2 with hA2
     subst hA2
     obtain rfl : y = x := by rw [hy2] at hy; injection hy
     have Hy := Lib.hid hy
     have hkni : (k : Int) < (n : Int) := by omega
     clear hy hy2
     go_upto_region 5 with fail
     go_quiet (fail)
     go_wp2_with fail
     go_roundg (gk - 1)
     case measure => have := Hkl.out; omega
     case rel => exact ⟨k + 1, by have := Hkl.out; omega, by omega, by go_num, (fun j hj => by
      rcases Nat.lt_or_ge j (k - i) with h | h
      ·exact Hall.out j h
      ·rw [List.getElem?_drop, show i + j = k by omega]
       exact Hy.out), Hmi.out.drewN _⟩
    ·have hlead : lead x (us.drop i) = k - i := lead_is Hall.out (fun y hy => by
      rw [List.getElem?_drop, show i + (k - i) = k by omega] at hy
      rintro rfl
      exact hgo ⟨by have := (List.getElem?_eq_some_iff.1 hy).1; have := Hul.out; omega, hy⟩)
     have hx0 : (us.drop i)[0]? = some x := by rw [List.getElem?_drop]; exact Hx.out
     have hlp : 1 ≤ lead x (us.drop i) := by
      cases hd : us.drop i with
      | nil => rw [hd] at hx0; cases hx0
      | cons y ys => rw [hd] at hx0; injection hx0 with hx0; subst hx0; exact lead_pos _ _
     have hst := lenc_step hx0 Henc.out
     obtain ⟨m, hmk⟩ : ∃ m, m = k - i := ⟨_, rfl⟩
     rw [hlead, ← hmk] at hst hlp
     rw [show i + m = k by omega] at hst
     have hkn1 : k ≤ n := by have := Hkl.out; omega
     have hmi : (k : Int) - (i : Int) = (m : Int) := by omega
     have hwm : IntKind.u64.wrap (m : Int) = (m : Int) := by rw [IntKind.wrap_u64]; omega
     have hwi : IntKind.i64.wrap (m : Int) = (m : Int) := by rw [IntKind.wrap_i64]; omega
     have hm64 : Lt64 m := by unfold Lt64; omega
     have hd9 : done.length ≤ 1000000000 := by have := Hdl.out; omega
     have hq10 := enc_len10 hm64.out
     have hq10' := enc_len10 Hx64.out.out
     have hda : (done ++ enc m).length ≤ 1000000000 := by rw [List.length_append]; have := Hdl.out; omega
     have hways : k = n ∨ (k < n ∧ us[k]? ≠ some x) := by
      rcases Nat.lt_or_ge k n with h | h
      ·exact Or.inr ⟨h, fun e => hgo ⟨h, e⟩⟩
      ·exact Or.inl (by omega)
     have Hst := Lib.hid hst; have Hm64 := Lib.hid hm64; have Hd9 := Lib.hid hd9; have Hda := Lib.hid hda; have Hmk := Lib.hid hmk; have Hq := Lib.hid hq10; have Hq' := Lib.hid hq10'
     clear hlead hx0 hst hm64 hd9 hda hgo hmk hq10 hq10'
     rcases hways with hkn | ⟨hkn, hne⟩
     ·have hknb : ¬ k < n := by omega
      have Hkn := Lib.hid hkn
      clear hkn
      go_upto_region 5 with fail
      go_quiet (fail)
      go_upto_region 7 with fail
      go_region_held_law (fun w' => w'.cell? (ad.add i) = some (.int .u64 (x : Int))) (first | (with_reducible exact HX.out _ S6.out) | (with_reducible exact HX.out _ S5.out) | (with_reducible exact HX.out _ ((Hmi.out.drewN _).drew)) | (with_reducible exact HX.out _ (Hmi.out.drewN _)))
       (first
        | (go_at_call 20; refine (vrput_any A5 L5 c5 w5.heap.size (done ++ enc m) x _ Hr5.out (by rw [← HL5.out]; exact Hda.out) Hx64.out).mono ?_; rintro e w6 ⟨v6, rfl, ho6, hb6⟩; have Ho6 := Lib.hid ho6; have S6 : Hid (Mod (fun _ => False) wo w6) := Lib.hid (S5.out.trans (mod_below hb6) (fun _ _ h => h)); have Hle6 := Lib.hid S5.out.size; clear ho6 hb6)
        | (go_at_call 20; refine (vrput_any Ao Lo co _ done m _ (Hro.out.new (Hmi.out.drewN _)) (by rw [← HLo.out]; exact Hd9.out) Hm64.out).mono ?_; rintro e w5 ⟨v5, rfl, ho5, hb5⟩; obtain ⟨A5, L5, c5, rfl, HL5, _, _, hr5⟩ := own_formN8 ho5; have Hr5 := Lib.hid hr5; have S5 : Hid (Mod (fun _ => False) wo w5) := Lib.hid ((Hmi.out.drewN _).trans (mod_below hb5) (fun _ _ h => h)); clear ho5 hb5 hr5))
      have HE6 : Hid (LencTo w w6 us k v6) := Lib.hid ⟨_, Ho6.out.mono (Nat.le_trans Hm.out.size Hle6.out), Hst.out, by rw [List.length_append, List.length_append]; have := Hdl.out; have := Hq.out; have := Hq'.out; omega, Hm.out.trans S6.out (fun _ _ h => h)⟩
      go_wp2_with fail
      go_roundg (go - m)
      case measure => have := Hil.out; have := Hmk.out; omega
      case rel => exact ⟨k, by have := Hil.out; have := Hmk.out; omega, by go_num, HE6.out⟩
     ·obtain ⟨ad2, y, hA2, hy, hcy⟩ := Hs.out.at2 hkn HB.out (Hm.out.trans Hmi.out (fun _ _ h => h)) (fun _ _ h => h)
      injection hA2 with hA2
      subst hA2
      have hyx : y ≠ x := fun e => hne (by rw [hy, e])
      have hyb : ((y : Int) == (x : Int)) = false := by simp; omega
      have hkni : (k : Int) < (n : Int) := by omega
      clear hy hyx hne
      go_upto_region 5 with fail
      go_quiet (fail)
      go_upto_region 7 with fail
      go_region_held_law (fun w' => w'.cell? (ad.add i) = some (.int .u64 (x : Int))) (first | (with_reducible exact HX.out _ S6.out) | (with_reducible exact HX.out _ S5.out) | (with_reducible exact HX.out _ ((Hmi.out.drewN _).drew)) | (with_reducible exact HX.out _ (Hmi.out.drewN _)))
       (first
        | (go_at_call 20; refine (vrput_any A5 L5 c5 w5.heap.size (done ++ enc m) x _ Hr5.out (by rw [← HL5.out]; exact Hda.out) Hx64.out).mono ?_; rintro e w6 ⟨v6, rfl, ho6, hb6⟩; have Ho6 := Lib.hid ho6; have S6 : Hid (Mod (fun _ => False) wo w6) := Lib.hid (S5.out.trans (mod_below hb6) (fun _ _ h => h)); have Hle6 := Lib.hid S5.out.size; clear ho6 hb6)
        | (go_at_call 20; refine (vrput_any Ao Lo co _ done m _ (Hro.out.new (Hmi.out.drewN _)) (by rw [← HLo.out]; exact Hd9.out) Hm64.out).mono ?_; rintro e w5 ⟨v5, rfl, ho5, hb5⟩; obtain ⟨A5, L5, c5, rfl, HL5, _, _, hr5⟩ := own_formN8 ho5; have Hr5 := Lib.hid hr5; have S5 : Hid (Mod (fun _ => False) wo w5) := Lib.hid ((Hmi.out.drewN _).trans (mod_below hb5) (fun _ _ h => h)); clear ho5 hb5 hr5))
      have HE6 : Hid (LencTo w w6 us k v6) := Lib.hid ⟨_, Ho6.out.mono (Nat.le_trans Hm.out.size Hle6.out), Hst.out, by rw [List.length_append, List.length_append]; have := Hdl.out; have := Hq.out; have := Hq'.out; omega, Hm.out.trans S6.out (fun _ _ h => h)⟩
      go_wp2_with fail
      go_roundg (go - m)
      case measure => have := Hil.out; have := Hmk.out; omega
      case rel => exact ⟨k, by have := Hil.out; have := Hmk.out; omega, by go_num, HE6.out⟩
  ·go_wp2_with fail
   go_ret
   have e : encR us = done := by
    rw [Henc.out, List.drop_of_length_le (by have := Hul.out; have := Hil.out; omega), encR_nil, List.append_nil]
   rw [e]
   exact ⟨_, rfl, Hown.out, Hm.out⟩
end Go.Proofs.YthgoppmgapaajaaGreatDoor

/- append of one element, with what else turns: only the row's own block. -/
namespace Go.Proofs.YthgoppmgapaajaaGreatDoor
open Go.RowKit
section
variable {P : Program} {w : World}
theorem wpList_app1g {ops : Array Oper} {rest : List Oper} {o : Oper} {a : Act} {Q : Exit → Act → World → Prop} (hgd : o.guard = none) (s x : Operand) (t : TypeId)
  (ho : o.op = .call { callee := .builtin .append, args := #[s, x], argTypes := #[t, t] }) {e : TypeId} {z : Value} {bytes : Nat} (hE : Elt P t e z bytes)
  {B H : Nat} {v u : Value} {xs : List Value} {te : TypeId} (hs : a.eval s = v) (hown : Own B w e v xs) (hx : a.eval x = .slice (some ⟨H, 0, none⟩) 1 1) (hH : w.heap.size = H) (h1 : u.oneCell' = true)
  (hm : xs.length + 1 ≤ maxLen) (hb : (xs.length + 1) * bytes ≤ 140737488355328) (hB : B ≤ w.heap.size)
  (h : ∀ v' w', Hid (Own B w' e v' (xs ++ [u])) → Hid (Below B w w') → Hid (Mod (fun k => v.ownBlock = some k) w w' ∧ (v'.ownBlock = v.ownBlock ∨ ∃ k, v'.ownBlock = some k ∧ w.heap.size ≤ k)) → wpList P ops Q rest (a.put o.dst v') w') : wpList P ops Q (o :: rest) a (w.alloc (.cells #[u] te)) := by
 subst hH
 refine wpList_app hgd s x t ho hE hs (hown.alloc _) hx (Rds.lit w te #[u]) (by simpa using h1) hm hb (by simp; omega) ?_
 intro v' w' h2 h3 h4
 refine h v' w' h2 (((Below.refl B w).alloc hB _).trans h3) ⟨(((Mod.refl _ w).alloc _).grown h4.out.1 (fun k hk _ => hk)), ?_⟩
 rcases h4.out.2 with h5 | h5
 ·exact .inl h5
 ·exact .inr ⟨_, h5, by simp⟩
end
/-- Two rows of the call's own that share nothing. -/
def Twain (v u : Value) : Prop := ∀ k, v.ownBlock = some k → u.ownBlock ≠ some k
theorem Twain.symm {v u : Value} (h : Twain v u) : Twain u v := fun k hk e => h k e hk
theorem Twain.step {B : Nat} {w : World} {e : TypeId} {v v' u : Value} {xs : List Value} (h : Twain v u) (ho : Own B w e u xs) (hv : v'.ownBlock = v.ownBlock ∨ ∃ k, v'.ownBlock = some k ∧ w.heap.size ≤ k) : Twain v' u := by
 intro k hk e'
 rcases hv with h1 | ⟨j, h1, h2⟩
 ·exact h k (by rw [← h1]; exact hk) e'
 ·rw [h1] at hk
  injection hk with hk
  have := (ho.block k e').2
  omega
end Go.Proofs.YthgoppmgapaajaaGreatDoor

/- From the row's list to the kinds of words. -/
namespace Go.Proofs.YthgoppmgapaajaaGreatDoor
open Go.RowKit

/-- An array of structs of two integers, as a row lists it. -/
def pairData {H : Type} (ps : List (Int × Int)) : DataW H := .agg (ps.map fun p => .agg [.lit (.int .i64 p.1), .lit (.int .i64 p.2)])
theorem cells_of_pairs {H : Type} {enc : TypeId × Value → H} {P : Program} {w : World} {base : Nat} {sp : Nat → Bool} {held : Bool} {fuel : Nat} {t e : TypeId} {n : Nat} {cs : List Value} {ps : List (Int × Int)} {p : List MemPlace} {f0 f1 : Field}
  (ht : P.underlying t = some (.array n e)) (he : P.underlying e = some (.struct #[f0, f1])) (h0 : P.underlying f0.type = some (.int .i64)) (h1 : P.underlying f1.type = some (.int .i64)) (o0 : f0.offset = 0) (o1 : f1.offset = 1) (c0 : P.cellsOf f0.type = 1) (c1 : P.cellsOf f1.type = 1)
  (hce : P.cellsOf e = 2) (hct : P.cellsOf t = n * 2)
  (h : DataW.trod enc P w base sp held fuel t cs = some (pairData ps, p)) : ∀ i a b, ps[i]? = some (a, b) → cs[i * 2]? = some (.int .i64 a) ∧ cs[i * 2 + 1]? = some (.int .i64 b) := by
 cases fuel with
 | zero => simp [DataW.trod] at h
 | succ fuel =>
  simp only [DataW.trod, ht, hce, hct] at h
  split at h
  ·rename_i hl
   obtain ⟨xs, hm, hx⟩ := Option.map_eq_some_iff.1 h
   have hxs : xs.map (·.1) = ps.map fun p => (DataW.agg [.lit (.int .i64 p.1), .lit (.int .i64 p.2)] : DataW H) := by
    have := congrArg Prod.fst hx
    simpa [pairData] using this
   have hxl : xs.length = n := by simpa using Lib.mapM_length hm
   intro i a b hi
   have hin : i < n := by
    have h2 := (List.getElem?_eq_some_iff.1 hi).1
    have h3 := congrArg List.length hxs
    simp at h3
    omega
   obtain ⟨y, hy, hf⟩ := Lib.mapM_at hm i i (by simp [hin])
   have hy1 : y.1 = .agg [.lit (.int .i64 a), .lit (.int .i64 b)] := by
    have h2 : (xs.map (·.1))[i]? = some y.1 := by simp [hy]
    rw [hxs, List.getElem?_map, hi] at h2
    simpa using h2.symm
   obtain ⟨y0, y1, m, hye, _, t0, t1⟩ := Go.ChangeShapes.trod_struct2 he hf
   obtain ⟨a', e0, hy0, _⟩ := DataW.trod_int h0 t0
   obtain ⟨b', e1, hy1', _⟩ := DataW.trod_int h1 t1
   have hagg : y.1 = .agg [y0.1, y1.1] := by rw [hye]
   rw [hy1, hy0, hy1'] at hagg
   simp only [DataW.agg.injEq, List.cons.injEq, DataW.lit.injEq, Lit.int.injEq, true_and, and_true] at hagg
   obtain ⟨rfl, rfl⟩ := hagg
   rw [o0, c0] at e0
   rw [o1, c1] at e1
   have g0 := congrArg (·[0]?) e0
   have g1 := congrArg (·[0]?) e1
   simp [List.getElem?_drop] at g0 g1
   exact ⟨g0, g1⟩
  ·cases h
def kindP : List (Int × Int) := [(240, 0), (120, 0), (60, 1), (30, 2), (20, 3), (15, 4), (12, 5), (10, 6), (8, 7), (7, 8), (6, 10), (5, 12), (4, 15), (3, 20), (2, 30), (1, 60)]
theorem kindP_at : ∀ k : Fin 16, kindP[k.val]? = some ((numN k.val : Int), (bitN k.val : Int)) := by decide
theorem kin_of_laid {W : World} {rest : List (String × DataW Unit)} (h : laidMet Tryz.prog (("ephemeris/simp.kinds", pairData kindP) :: rest) W) : Kin W := by
 obtain ⟨ps, ⟨g', t', cs, fuel, p, q, hg', ht', hvar, hd, _, _⟩, _⟩ := h
 obtain rfl := Option.some.inj ((show Tryz.prog.globalNamed "ephemeris/simp.kinds" = some 0 by kernel_rfl).symm.trans hg')
 obtain rfl := Option.some.inj ((show (Tryz.prog.globals[0]?).map (·.type) = some 149 by kernel_rfl).symm.trans ht')
 have hc := cells_of_pairs Tryz.underlying149 Tryz.underlying148 Tryz.underlying3 Tryz.underlying3 rfl rfl (by kernel_rfl) (by kernel_rfl) (by kernel_rfl) (by kernel_rfl) hd
 have hk : ∀ k, k < 16 → W.cell? ⟨0, k * 2, none⟩ = some (.int .i64 (numN k : Int)) ∧ W.cell? ⟨0, k * 2 + 1, none⟩ = some (.int .i64 (bitN k : Int)) := by
  intro k hk
  obtain ⟨h0, h1⟩ := hc k _ _ (kindP_at ⟨k, hk⟩)
  have v0 := World.var?_cell hg' hvar (k * 2)
  have v1 := World.var?_cell hg' hvar (k * 2 + 1)
  rw [Array.getElem?_toList] at h0 h1
  exact ⟨v0.trans h0, v1.trans h1⟩
 exact ⟨World.block_lt_of_cell? W _ (hk 0 (by decide)).1, hk⟩
end Go.Proofs.YthgoppmgapaajaaGreatDoor

/- From the row's step to values of 64 bits. -/
namespace Go.Proofs.YthgoppmgapaajaaGreatDoor
open Go.RowKit
theorem rdsU_of {w : World} {A : Option Addr} {n : Nat} {zs : List Int} (h : SeesI .u64 w w.heap.size A n zs) (hw : ∀ x ∈ zs, (Lit.int .u64 x).wf = true) : ∃ us : List Nat, Rds w w.heap.size A n (cellsU us) ∧ ∀ x ∈ us, x < 2 ^ 64 := by
 have hb : ∀ x ∈ zs, 0 ≤ x ∧ x < 18446744073709551616 := fun x hx => (fit_u64 (hw x hx)).out
 refine ⟨zs.map Int.toNat, ⟨by rw [cellsU_length]; simp; exact h.1, fun h0 => ?_⟩, fun x hx => ?_⟩
 ·obtain ⟨ad, e, hb', hc⟩ := h.2 h0
  refine ⟨ad, e, hb', fun j u hu => ?_⟩
  rw [cellsU_get, List.getElem?_map] at hu
  cases hz : zs[j]? with
  | none => rw [hz] at hu; cases hu
  | some z =>
   rw [hz] at hu
   have hu' : u = .int .u64 ((z.toNat : Nat) : Int) := by simpa using hu.symm
   have := hb z (List.mem_of_getElem? hz)
   rw [hu', Int.toNat_of_nonneg this.1]
   exact hc j z hz
 ·obtain ⟨z, hz, rfl⟩ := List.mem_map.1 hx
  have := hb z hz
  omega
end Go.Proofs.YthgoppmgapaajaaGreatDoor

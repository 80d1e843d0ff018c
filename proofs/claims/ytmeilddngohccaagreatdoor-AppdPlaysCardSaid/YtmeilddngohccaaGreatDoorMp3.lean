/- The texts Lm, Du, Le, Mu, Su, Sq, Sd, Ld, Rk, Kap, Sg, Sh, Si, Lr, Gr, He, Sj, Ls, Slm, So, one behind the other. -/
import Derived.Test.YtmeilddngohccaaGreatDoorMp1
/- How many bits a number has: math/bits.Len64 and the document's width tell wid. -/
namespace Go.Proofs.YtmeilddngohccaaGreatDoor
open Go.RowKit

theorem bitLen_wid {u : Nat} (h : u < 2 ^ 64) : Lib.bitLen u = wid u := by
 have h1 := wid_lt h
 have hle := wid_le u
 rcases Nat.eq_zero_or_pos (wid u) with h0 | h0
 ·rw [h0]
  have h2 := Lib.bitLen_le u 0 (by omega) (by rw [h0] at h1; exact h1)
  omega
 ·have h2 := wid_least (u := u) (j := wid u - 1) (by omega)
  obtain ⟨k, hk⟩ : ∃ k, wid u = k + 1 := ⟨wid u - 1, by omega⟩
  rw [hk] at h1 h2 ⊢
  rw [Nat.add_sub_cancel] at h2
  have h3 := Lib.bitLen_shift k u (by omega) h
  have h4 : u / 2 ^ k = 1 := by
   have hp := Nat.two_pow_pos k
   have a1 : 1 ≤ u / 2 ^ k := (Nat.le_div_iff_mul_le hp).2 (by omega)
   have a2 : u / 2 ^ k < 2 := (Nat.div_lt_iff_lt_mul hp).2 (by rw [Nat.pow_succ] at h1; omega)
   omega
  rw [h4] at h3
  have h5 : Lib.bitLen 1 = 1 := by decide +kernel
  omega
theorem len64_wid (x S : Nat) (w : World) (hx : Lt64 x) (hS : wid x = S) : Calls Tryz.prog 86 #[.int .u64 (x : Int)] w fun e w' => e = .returned (.int .i64 (S : Int)) ∧ w = w' := by
 have := len64_any x w hx
 rwa [bitLen_wid hx.out, hS] at this
set_option maxHeartbeats 1000000 in
/-- The document's own width. -/
theorem rwidth_any (x S : Nat) (w : World) (hx : Lt64 x) (hS : wid x = S) : Calls Tryz.prog 75 #[.int .u64 (x : Int)] w fun e w' => e = .returned (.int .i64 (S : Int)) ∧ w = w' := by
 have hS64 : S ≤ 64 := by rw [← hS]; exact wid_le x
 have hlt : Hid (x < 2 ^ S) := Lib.hid (by rw [← hS]; exact wid_lt hx.out)
 have hle : Hid (∀ j, j < S → ¬ x < 2 ^ j) := Lib.hid (fun j h => wid_least (by rw [hS]; exact h))
 clear hS
 go_enter Tryz.func75, Tryz.ntmps75
 go_wp2_with fail
 go_loopg [3] S (fun l s3 wr => ∃ i : Nat, i + l = S ∧ s3 = .int .i64 (i : Int) ∧ w = wr)
 case atStart => exact ⟨0, by omega, rfl, rfl⟩
 case round =>
  obtain ⟨i, hil, rfl, rfl⟩ := hrel
  have Hil := Lib.hid hil
  clear hil
  have hw8 : IntKind.u64.wrap (i : Int) = (i : Int) := by rw [IntKind.wrap_u64]; have := Hil.out; omega
  by_cases hi : i < S
  ·have hb := div_some (hle.out i hi)
   have hi64 : (i : Int) < 64 := by omega
   have hmin : min i 64 = i := by omega
   go_wp2_with fail
   go_roundg (gk - 1)
   case measure => have := Hil.out; omega
   case rel => exact ⟨i + 1, by have := Hil.out; omega, by go_num, rfl⟩
  ·have hiS : i = S := by have := Hil.out; omega
   subst hiS
   have hb := div_nought hlt.out
   have hmin : min i 64 = i := by omega
   by_cases h64 : i < 64
   ·go_wp2_with fail
    go_ret
    exact ⟨rfl, rfl⟩
   ·go_wp2_with fail
    go_ret
    exact ⟨rfl, rfl⟩
end Go.Proofs.YtmeilddngohccaaGreatDoor

/- A dictionary's list: how many bits a place has; the values that are unlike, and where each stands. -/
namespace Go.Proofs.YtmeilddngohccaaGreatDoor
open Go.RowKit Go.Maps

set_option maxHeartbeats 1000000 in
theorem len_wid (x S : Nat) (w : World) (hx : Lt64 x) (hS : wid x = S) : Calls Tryz.prog 104 #[.int .u64 (x : Int)] w fun e w' => e = .returned (.int .i64 (S : Int)) ∧ w = w' := by
 have Hc := Lib.hid (len64_wid x S w hx hS)
 have hxi : (x : Int) % 18446744073709551616 = (x : Int) := by have := hx.out; omega
 clear hx hS
 go_enter Tryz.func104, Tryz.ntmps104
 go_wp2_with fail
 refine Hc.out.mono ?_
 rintro e w1 ⟨rfl, rfl⟩
 go_wp2_with fail
 go_ret
 exact ⟨rfl, rfl⟩
set_option maxHeartbeats 1000000 in
theorem dsize_any (A : Option Addr) (L c S : Nat) (w : World) (hL : ¬ L = 0) (hL2 : L ≤ 1000000) (hS : wid (L - 1) = S) : Calls Tryz.prog 89 #[.slice A L c] w fun e w' => e = .returned (.int .i64 (S : Int)) ∧ w = w' := by
 obtain ⟨y, hy⟩ : ∃ y, y = L - 1 := ⟨_, rfl⟩
 rw [← hy] at hS
 have hyi : (L : Int) - 1 = (y : Int) := by omega
 have hyL : y ≤ 1000000 := by omega
 have Hc := Lib.hid (fun W => len_wid y S W (by unfold Lt64; omega) hS)
 clear hy hS
 go_enter Tryz.func89, Tryz.ntmps89
 go_wp2_with fail
 refine (Hc.out _).mono ?_
 rintro e w1 ⟨rfl, rfl⟩
 go_wp2_with fail
 go_ret
 exact ⟨rfl, rfl⟩
/-- What unlike has made of i values. -/
def UnlTo (w wr : World) (us : List Nat) (i : Nat) (v : Value) : Prop :=
 ∃ D : DataW Unit, Own (w.heap.size + 1) wr 26 v (cellsU (uniq (us.take i))) ∧ OMap wr w.heap.size i D ∧ Plcs D (uniq (us.take i)) ∧ (uniq (us.take i)).length ≤ 256 ∧ Mod (fun _ => False) w wr
/-- What unlike answers. -/
def UnlE (w w' : World) (us : List Nat) (e : Ending) : Prop :=
 ∃ (v : Value) (b n : Nat) (D : DataW Unit) (l : List Nat), e = .returned (.tuple #[v, .map (some b)]) ∧ w.heap.size ≤ b ∧ Own w.heap.size w' 26 v (cellsU l) ∧ OMap w' b n D ∧ Mod (fun _ => False) w w' ∧ l.length ≤ 257 ∧
  ((256 < l.length ∧ 256 < (uniq us).length) ∨ (l = uniq us ∧ l.length ≤ 256 ∧ Plcs D l))
theorem uniq_take_le (us : List Nat) (i : Nat) : (uniq (us.take i)).length ≤ (uniq us).length := by
 obtain ⟨t, ht⟩ := uniq_app (us.take i) (us.drop i)
 rw [List.take_append_drop] at ht
 rw [ht, List.length_append]
 omega
set_option maxHeartbeats 4000000 in
set_option maxRecDepth 100000 in
theorem unlike_any (A : Option Addr) (n cap B : Nat) (us : List Nat) (w : World) (hs : Rds w B A n (cellsU us)) (hB : B ≤ w.heap.size) (hu : ∀ x ∈ us, x < 2 ^ 64) (hn : n ≤ 1000000) :
  Calls Tryz.prog 88 #[.slice A n cap] w fun e w' => UnlE w w' us e := by
 have hul : us.length = n := by have := hs.1; rwa [cellsU_length] at this
 have hmm := @run_makeMap Tryz.prog
 have U0 : Hid (UnlTo w (w.alloc (.map #[] 0)) us 0 (.slice none 0 0)) := Lib.hid ⟨.map [], Own.nil _ _ _, OMap.made w, Plcs.nil, Nat.zero_le _, (Mod.refl _ _).alloc _⟩
 have Hs := Lib.hid hs; have Hu := Lib.hid hu; have HB := Lib.hid hB; have Hul := Lib.hid hul
 clear hs hu hB hul
 go_enter Tryz.func88, Tryz.ntmps88
 go_wp2_with fail
 go_loopg [4, 13] n (fun l s4 s13 wr => ∃ i : Nat, i + l = n ∧ s13 = .int .i64 (i : Int) ∧ UnlTo w wr us i s4)
 case atStart => exact ⟨0, by omega, rfl, U0.out⟩
 case round =>
  obtain ⟨i, hil, rfl, D, hown, hmap, hplc, hlen, hm⟩ := hrel
  have Hown := Lib.hid hown; have Hmap := Lib.hid hmap; have Hplc := Lib.hid hplc; have Hlen := Lib.hid hlen; have Hm := Lib.hid hm; have Hil := Lib.hid hil
  clear hown hmap hplc hlen hm hil U0 hmm
  by_cases hin : i < n
  ·obtain ⟨ad, x, rfl, hx, hcx⟩ := Hs.out.at2 hin HB.out Hm.out (fun _ _ h => h)
   have Hx64 := Lib.hid (Hu.out x (List.mem_of_getElem? hx))
   have Htk := Lib.hid (take_succ_of hx)
   have hi0 : (0 : Int) ≤ (i : Int) := by omega
   clear hx
   by_cases hin2 : x ∈ uniq (us.take i)
   ·have hhas : Maps.has D (.int .u64 (x : Int)) = true := by rw [Hplc.out.2.1, decide_eq_true hin2]
    have Hq : Hid (uniq (us.take (i + 1)) = uniq (us.take i)) := Lib.hid (by rw [Htk.out, uniq_snoc, if_pos hin2])
    clear hin2
    go_wp2_with (at_lookup; refine wpList_lookup_own_ok_int _ rfl _ _ 122 rfl 26 26 .u64 lawU Tryz.underlying122 Tryz.underlying26 (zeroU _) w.heap.size i D rfl Hmap.out _ _ rfl (keyU Hx64.out) ?_; intro c hat hwc; clear hat hwc)
    go_roundg (gk - 1)
    case measure => have := Hil.out; omega
    case rel => exact ⟨i + 1, by have := Hil.out; omega, by go_num, D, by rw [Hq.out]; exact Hown.out, Hmap.out.mono (by omega), by rw [Hq.out]; exact Hplc.out, by rw [Hq.out]; exact Hlen.out, Hm.out⟩
   ·have hhas : Maps.has D (.int .u64 (x : Int)) = false := by rw [Hplc.out.2.1, decide_eq_false hin2]
    obtain ⟨A4, L, c4, rfl, HL, _, _⟩ := own_formUN Hown.out
    have hL256 : L ≤ 256 := by have := HL.out; have := Hlen.out; omega
    have hLi : L ≤ i := by have h1 := uniq_le (us.take i); have h2 := HL.out; rw [List.length_take] at h1; omega
    have Hq : Hid (uniq (us.take (i + 1)) = uniq (us.take i) ++ [x]) := Lib.hid (by rw [Htk.out, uniq_snoc, if_neg hin2])
    have Hput : Hid (Plcs (D.put (.int .u64 (x : Int)) (.lit (.int .u64 (L : Int)))) (uniq (us.take (i + 1)))) := Lib.hid (by have h := Hplc.out.put hin2; rw [HL.out] at h; rw [Hq.out]; exact h)
    have Hlt := Lib.hid Hmap.out.lt
    have hr1 : (cellsU (uniq (us.take i))).length + 1 ≤ maxLen := by rw [cellsU_length, HL.out]; unfold maxLen; omega
    have hr2 : ((cellsU (uniq (us.take i))).length + 1) * 8 ≤ 140737488355328 := by rw [cellsU_length, HL.out]; omega
    have him : i < maxLen := by unfold maxLen; omega
    have HL' : Hid (∀ L', (uniq (us.take (i + 1))).length = L' → L' = L + 1) := Lib.hid (fun L' h => by rw [Hq.out, List.length_append, HL.out] at h; exact h.symm)
    have Hmono : Hid ((uniq (us.take (i + 1))).length ≤ (uniq us).length) := Lib.hid (uniq_take_le us (i + 1))
    have Hr1 := Lib.hid hr1; have Hr2 := Lib.hid hr2; have Him := Lib.hid him
    clear hin2 hr1 hr2 him
    go_wp2_with (first
     | (at_lookup; refine wpList_lookup_own_ok_int _ rfl _ _ 122 rfl 26 26 .u64 lawU Tryz.underlying122 Tryz.underlying26 (zeroU _) w.heap.size i D rfl Hmap.out _ _ rfl (keyU Hx64.out) ?_; intro c hat hwc; clear hat hwc)
     | (at_mapUpdate; refine wpList_mapUpdate_own _ rfl _ _ _ 122 rfl 26 26 lawU Tryz.underlying122 (plainElem (H := Unit) Tryz.prog 26) w.heap.size i D rfl Hmap.out Him.out _ _ _ rfl rfl (keyU Hx64.out) (.lit (.int .u64 (L : Int))) [] (plainElem_int Tryz.underlying26 (WalkArith.wf_u64 (by omega))) ?_; intro w1 hmap1 hgrow1; have Hmap1 : Hid (OMap w1 w.heap.size (i + 1) (D.put (.int .u64 (x : Int)) (.lit (.int .u64 (L : Int))))) := Lib.hid hmap1; have Hown1 := Lib.hid (Hown.out.far hgrow1 (fun e => by have := (Hown.out.block _ e.symm).1; omega)); have Hm1 := Lib.hid (Hm.out.grown hgrow1 (fun k hk hlt => by injection hk with hk; omega)); have hsz1 : w.heap.size + 1 ≤ w1.heap.size := Nat.lt_of_lt_of_le Hlt.out hgrow1.size; clear hmap1 hgrow1)
     | (at_builtin; refine wpList_app1 rfl (.tmp 29) (.tmp 31) _ rfl eltU rfl Hown1.out rfl rfl rfl Hr1.out Hr2.out hsz1 ?_; intro v' w2 HO HBl; have HO' : Hid (Own (w.heap.size + 1) w2 26 v' (cellsU (uniq (us.take (i + 1))))) := Lib.hid (by rw [Hq.out, cellsU_snoc]; exact HO.out); clear HO; obtain ⟨A5, L5, c5, rfl, HL5, _, _⟩ := own_formUN HO'.out; obtain rfl := HL'.out L5 HL5.out))
    ·have Hmap2 := Lib.hid (Hmap1.out.mod (Mod.of_below HBl.out) (by omega))
     have Hm2 := Lib.hid (Hm1.out.trans (Mod.of_below HBl.out) (fun i hi h => by omega))
     go_ret2
     exact ⟨_, w.heap.size, _, _, _, rfl, Nat.le_refl _, HO'.out.mono (Nat.le_succ _), Hmap2.out, Hm2.out, by have := HL5.out; omega, .inl ⟨by have := HL5.out; omega, by have := HL5.out; have := Hmono.out; omega⟩⟩
    ·have Hmap2 := Lib.hid (Hmap1.out.mod (Mod.of_below HBl.out) (by omega))
     have Hm2 := Lib.hid (Hm1.out.trans (Mod.of_below HBl.out) (fun i hi h => by omega))
     go_roundg (gk - 1)
     case measure => have := Hil.out; omega
     case rel => exact ⟨i + 1, by have := Hil.out; omega, by go_num, _, HO'.out, Hmap2.out, Hput.out, by have := HL5.out; omega, Hm2.out⟩
  ·have hi : i = n := by have := Hil.out; omega
   subst hi
   go_wp2_with fail
   go_ret2
   have e : us.take i = us := List.take_of_length_le (by rw [Hul.out]; exact Nat.le_refl _)
   have h1 := Hown.out; have h2 := Hplc.out; have h3 := Hlen.out
   rw [e] at h1 h2 h3
   exact ⟨_, w.heap.size, _, _, _, rfl, Nat.le_refl _, h1.mono (Nat.le_succ _), Hmap.out, Hm.out, by omega, .inr ⟨rfl, h3, h2⟩⟩
end Go.Proofs.YtmeilddngohccaaGreatDoor

/- A row of values is told by its runs: Encode. -/
namespace Go.Proofs.YtmeilddngohccaaGreatDoor
open Go.RowKit

/-- What the loop has told of the first i values. -/
def LencTo (w wr : World) (us : List Nat) (i : Nat) (v : Value) : Prop :=
 ∃ done, Own w.heap.size wr 5 v (cells8 done) ∧ encR us = done ++ encR (us.drop i) ∧ done.length ≤ 20 * i ∧ Mod (fun _ => False) w wr
theorem lenc_step {us done : List Nat} {i x : Nat} (hx : (us.drop i)[0]? = some x) (h : encR us = done ++ encR (us.drop i)) :
  encR us = ((done ++ enc (lead x (us.drop i))) ++ enc x) ++ encR (us.drop (i + lead x (us.drop i))) := by
 rw [h, encR_at (by rw [List.getElem?_drop] at hx; simpa using hx), List.append_assoc, List.append_assoc]
set_option maxHeartbeats 4000000 in
set_option maxRecDepth 100000 in
theorem lenc_any (A : Option Addr) (n cap B : Nat) (us : List Nat) (w : World) (hs : Rds w B A n (cellsU us)) (hB : B ≤ w.heap.size) (hu : ∀ x ∈ us, x < 2 ^ 64) (hn : n ≤ 1000000) (hcap : n ≤ cap) :
  Calls Tryz.prog 60 #[.slice A n cap] w fun e w' => ∃ v, e = .returned v ∧ Own w.heap.size w' 5 v (cells8 (encR us)) ∧ Mod (fun _ => False) w w' := by
 have hul : us.length = n := by have := hs.1; rwa [cellsU_length] at this
 have H0 : Hid (LencTo w w us 0 (.slice none 0 0)) := Lib.hid ⟨[], Own.nil _ _ _, by rw [List.drop_zero]; rfl, Nat.zero_le _, Mod.refl _ _⟩
 have Hs := Lib.hid hs; have Hu := Lib.hid hu; have HB := Lib.hid hB; have Hul := Lib.hid hul
 clear hs hu hB hul
 go_enter Tryz.func60, Tryz.ntmps60
 go_wp2_with fail
 go_loopg [0, 3] n (fun l s0 s3 wr => ∃ (i : Nat) (Ai : Option Addr) (ci : Nat), i + l = n ∧ s0 = .slice Ai l ci ∧ l ≤ ci ∧ Rds wr B Ai l (cellsU (us.drop i)) ∧ LencTo w wr us i s3)
 case atStart => exact ⟨0, A, cap, by omega, rfl, hcap, by rw [List.drop_zero]; exact Hs.out, H0.out⟩
 case round =>
  obtain ⟨i, Ai, ci, hil, rfl, hci, hr, hE⟩ := hrel
  have Hil := Lib.hid hil; have Hr := Lib.hid hr; have HE := Lib.hid hE
  clear hil hr hE H0 Hs
  by_cases hg : 0 < gk
  ·go_wp2_with fail
   obtain ⟨done, hown, henc, hdl, hm⟩ := HE.out
   have Hm := Lib.hid hm
   have Hown := Lib.hid hown; have Hdl := Lib.hid hdl; have Henc := Lib.hid henc
   have hBr : Hid (B ≤ wr.heap.size) := Lib.hid (Nat.le_trans HB.out hm.size)
   clear hm hown hdl henc
   refine (lfirst_any Ai gk ci B (us.drop i) wr Hr.out hBr.out (by have := Hil.out; omega) hg).mono ?_
   rintro e w1 ⟨x, hx, rfl, hm1⟩
   have hst := lenc_step hx Henc.out
   have hlp : 1 ≤ lead x (us.drop i) := by
    cases hd : us.drop i with
    | nil => rw [hd] at hx; cases hx
    | cons y ys => rw [hd] at hx; injection hx with hx; subst hx; exact lead_pos _ _
   have hll : lead x (us.drop i) ≤ gk := by
    have h := lead_le x (us.drop i)
    rw [List.length_drop, Hul.out] at h
    have := Hil.out
    omega
   obtain ⟨k, hk⟩ : ∃ k, lead x (us.drop i) = k := ⟨_, rfl⟩
   rw [hk] at hst hlp hll ⊢
   have hx64 : Lt64 x := by
    have h := Hu.out x (List.mem_of_mem_drop (List.mem_of_getElem? hx))
    unfold Lt64
    omega
   have hk64 : Lt64 k := by have := Hil.out; unfold Lt64; omega
   obtain ⟨W1, hW1⟩ : ∃ W1, W1 = w1.alloc (.cells #[.int .u64 (k : Int), .int .u64 (x : Int)] 119) := ⟨_, rfl⟩
   have hmW : Mod (fun _ => False) w1 W1 := by rw [hW1]; exact (Mod.refl _ _).alloc _
   have hbW : Blk W1 w1.heap.size 119 #[.int .u64 (k : Int), .int .u64 (x : Int)] := by rw [hW1]; exact Blk.new _ _ _
   have hmm := (Hm.out.trans hm1 (fun _ _ h => h)).trans hmW (fun _ _ h => h)
   have hownW := (Hown.out.mod hm1).mod hmW
   have hrW := (Hr.out.mod hm1 hBr.out (fun _ _ h => h)).mod hmW (Nat.le_trans hBr.out hm1.size) (fun _ _ h => h)
   have hd0 := hbW.cell 0
   have hd1 := hbW.cell 1
   simp at hd0 hd1
   have Hst := Lib.hid hst; have HW1 := Lib.hid hW1; have HbW := Lib.hid hbW; have Hmm := Lib.hid hmm; have HownW := Lib.hid hownW; have HrW := Lib.hid hrW; have Hx64 := Lib.hid hx64; have Hk64 := Lib.hid hk64
   have hBW : Hid (B ≤ W1.heap.size) := Lib.hid (Nat.le_trans hBr.out (Nat.le_trans hm1.size hmW.size))
   clear hx hk hst hW1 hmW hbW hm1 hmm hownW hrW Hr Hown hx64 hk64 HE
   go_wp2_with (first | (rw [← HW1.out]))
   refine (vput_any none 0 0 0 [] k W1 (Rds.nil _ _ _) (by omega) Hk64.out).mono ?_
   rintro e w2 ⟨v2, rfl, ho2, hb2⟩
   rw [List.nil_append] at ho2
   obtain ⟨A2, c2, rfl, _, _, hr2⟩ := own_form8 ho2
   have hq10 := enc_len10 Hk64.out.out
   have hq10' := enc_len10 Hx64.out.out
   have Hq := Lib.hid hq10; have Hq' := Lib.hid hq10'
   have Hown2 := Lib.hid (HownW.out.below hb2); have Hr2 := Lib.hid hr2
   have hb2b := HbW.out.below hb2 HbW.out.lt
   have Hb2b := Lib.hid hb2b
   have Hm2 := Lib.hid (Hmm.out.trans (mod_below hb2) (fun _ _ h => h))
   have Hrr2 := Lib.hid (HrW.out.mod (mod_below hb2) hBW.out (fun _ _ h => h))
   have hB2 : Hid (B ≤ w2.heap.size) := Lib.hid (Nat.le_trans hBW.out hb2.size)
   have hsz2 : w.heap.size ≤ w2.heap.size := Hm2.out.size
   have hR1 := Room.mk (cells8 done).length (enc k).length (by rw [cells8_length]; have := Hdl.out; have := Hil.out; omega)
   have HR1 := Lib.hid hR1
   have hone : Hid (∀ u ∈ cells8 (enc k), u.oneCell' = true) := Lib.hid (cells8_one _)
   have hone' : Hid (∀ u ∈ cells8 (enc x), u.oneCell' = true) := Lib.hid (cells8_one _)
   clear hq10 hq10' hb2 ho2 hr2 hb2b hR1 hd0 hd1 HownW HbW
   go_wp2_with (at_builtin; refine wpList_app rfl (.tmp 10) (.tmp 13) _ rfl elt8 rfl Hown2.out rfl Hr2.out hone.out HR1.out.1 HR1.out.2 hsz2 ?_; intro v3 w3 HO3 HBl3 HG3; have hb3 := Hb2b.out.app Hown2.out (by decide) HG3.out.1; have hd0 := hb3.cell 0; have hd1 := hb3.cell 1; simp at hd0 hd1; have Hb3 := Lib.hid hb3; clear hone HG3 hb3)
   have hO3 : Own w.heap.size w3 5 v3 (cells8 (done ++ enc k)) := by
    have h := HO3.out
    rwa [cells8_app] at h
   have HO3' := Lib.hid hO3
   have Hm3 := Lib.hid (Hm2.out.trans (Mod.of_below HBl3.out) (fun i hi h => by omega))
   have Hrr3 := Lib.hid (Hrr2.out.mod (Mod.of_below HBl3.out) hB2.out (fun j hj h => by have := HB.out; omega))
   clear hO3 HO3 HBl3 Hrr2 Hm2
   refine (vput_any none 0 0 0 [] x w3 (Rds.nil _ _ _) (by omega) Hx64.out).mono ?_
   rintro e w4 ⟨v4, rfl, ho4, hb4⟩
   rw [List.nil_append] at ho4
   obtain ⟨A4, c4, rfl, _, _, hr4⟩ := own_form8 ho4
   have Hown4 := Lib.hid (HO3'.out.below hb4); have Hr4 := Lib.hid hr4
   have Hb4b := Lib.hid (Hb3.out.below hb4 Hb3.out.lt)
   have Hm4 := Lib.hid (Hm3.out.trans (mod_below hb4) (fun _ _ h => h))
   have hB3 : Hid (B ≤ w3.heap.size) := Lib.hid (Nat.le_trans HB.out Hm3.out.size)
   have Hrr4 := Lib.hid (Hrr3.out.mod (mod_below hb4) hB3.out (fun _ _ h => h))
   have hsz4 : w.heap.size ≤ w4.heap.size := Hm4.out.size
   have hR2 := Room.mk (cells8 (done ++ enc k)).length (enc x).length (by rw [cells8_length, List.length_append]; have := Hdl.out; have := Hil.out; have := Hq.out; have := Hq'.out; omega)
   have HR2 := Lib.hid hR2
   obtain ⟨A5, hA5⟩ : ∃ A5, (if ci = k then Ai else Ai.map (·.add k)) = A5 := ⟨_, rfl⟩
   have Hr5 : Hid (Rds w4 B A5 (gk - k) ((cellsU (us.drop i)).drop k)) := Lib.hid (by rw [← hA5]; exact Hrr4.out.drop hll hci)
   have hkci : (k : Int) ≤ (ci : Int) := by omega
   have hkgi : (k : Int) ≤ (gk : Int) := by omega
   have hk0 : (0 : Int) ≤ (k : Int) := by omega
   clear hb4 ho4 hr4 hR2 hd0 hd1 HO3' Hb3 Hrr3 Hm3 Hown2 Hr2 Hb2b HR1
   go_wp2_with (at_builtin; refine wpList_app rfl (.tmp 15) (.tmp 18) _ rfl elt8 rfl Hown4.out rfl Hr4.out hone'.out HR2.out.1 HR2.out.2 hsz4 ?_; intro v5 w5 HO5 HBl5 HG5; have hb5 := Hb4b.out.app Hown4.out (by decide) HG5.out.1; have hd0 := hb5.cell 0; have hd1 := hb5.cell 1; simp at hd0 hd1; clear HG5 hb5)
   have hO5 : Own w.heap.size w5 5 v5 (cells8 ((done ++ enc k) ++ enc x)) := by
    have h := HO5.out
    rwa [cells8_app] at h
   have Hm5 := Lib.hid (Hm4.out.trans (Mod.of_below HBl5.out) (fun i hi h => by omega))
   have hB4 : B ≤ w4.heap.size := Nat.le_trans HB.out Hm4.out.size
   have Hr6 : Hid (Rds w5 B A5 (gk - k) (cellsU (us.drop (i + k)))) := Lib.hid (by
    have h := Hr5.out.mod (Mod.of_below HBl5.out) hB4 (fun j hj h => by have := HB.out; omega)
    rwa [show (cellsU (us.drop i)).drop k = cellsU (us.drop (i + k)) by simp [cellsU, ← List.map_drop]] at h)
   have HE5 : Hid (LencTo w w5 us (i + k) v5) := Lib.hid ⟨_, hO5, Hst.out, by rw [List.length_append, List.length_append]; have := Hdl.out; have := Hq.out; have := Hq'.out; omega, Hm5.out⟩
   clear hA5 hO5 HO5 HBl5 hB4 Hr5 Hrr4
   go_roundg (gk - k)
   case measure => omega
   case rel => exact ⟨i + k, A5, ci - k, by have := Hil.out; omega, rfl, by omega, Hr6.out, HE5.out⟩
  ·go_wp2_with fail
   go_ret
   obtain ⟨done, hown, henc, hdl, hm⟩ := HE.out
   have e : encR us = done := by
    rw [henc, List.drop_of_length_le (by have := Hul.out; have := Hil.out; omega), encR_nil, List.append_nil]
   rw [e]
   exact ⟨_, rfl, hown, hm⟩
end Go.Proofs.YtmeilddngohccaaGreatDoor

/- The least and the greatest of a row of values of 64 bits: slices.Min, slices.Max; min and max as rules for whatever world. -/
namespace Go.Proofs.YtmeilddngohccaaGreatDoor
open Go.RowKit

theorem minU_is {P : Program} {t ty : TypeId} {n1 n2 m : Nat} (h : min n1 n2 = m) : ∀ w, (Builtin.min_ #[t, t] ty #[.int .u64 (n1 : Int), .int .u64 (n2 : Int)]).run P w = .ok (.int .u64 (m : Int)) w := by
 intro w
 have hx : (if (n2 : Int) < (n1 : Int) then (n2 : Int) else (n1 : Int)) = (m : Int) := by
  split <;> omega
 simp only [Builtin.min_, List.foldlM, Builtin.min2, Sem.run_bind, Sem.run_pure, Result.andThen_ok, hx]
theorem maxU_is {P : Program} {t ty : TypeId} {n1 n2 m : Nat} (h : max n1 n2 = m) : ∀ w, (Builtin.max_ #[t, t] ty #[.int .u64 (n1 : Int), .int .u64 (n2 : Int)]).run P w = .ok (.int .u64 (m : Int)) w := by
 intro w
 have hx : (if (n1 : Int) < (n2 : Int) then (n2 : Int) else (n1 : Int)) = (m : Int) := by
  split <;> omega
 simp only [Builtin.max_, List.foldlM, Builtin.max2, Sem.run_bind, Sem.run_pure, Result.andThen_ok, hx]
/-- The least, and the greatest, of the first i. -/
def loI (us : List Nat) (i : Nat) : Nat := (us.take i).foldl min (us.getD 0 0)
def hiI (us : List Nat) (i : Nat) : Nat := (us.take i).foldl max (us.getD 0 0)
theorem loI_all {us : List Nat} {i : Nat} (h : us.length ≤ i) : loI us i = loV us := by unfold loI loV; rw [List.take_of_length_le h]
theorem hiI_all {us : List Nat} {i : Nat} (h : us.length ≤ i) : hiI us i = hiV us := by unfold hiI hiV; rw [List.take_of_length_le h]
theorem loI_succ {us : List Nat} {i x : Nat} (h : us[i]? = some x) : loI us (i + 1) = min (loI us i) x := by
 unfold loI; rw [take_succ_of h, List.foldl_append]; rfl
theorem hiI_succ {us : List Nat} {i x : Nat} (h : us[i]? = some x) : hiI us (i + 1) = max (hiI us i) x := by
 unfold hiI; rw [take_succ_of h, List.foldl_append]; rfl
theorem loI_one {us : List Nat} {x : Nat} (h : us[0]? = some x) : loI us 1 = x := by
 rw [loI_succ (i := 0) h]
 show min (us.getD 0 0) x = x
 rw [List.getD_eq_getElem?_getD, h]
 exact Nat.min_self x
theorem hiI_one {us : List Nat} {x : Nat} (h : us[0]? = some x) : hiI us 1 = x := by
 rw [hiI_succ (i := 0) h]
 show max (us.getD 0 0) x = x
 rw [List.getD_eq_getElem?_getD, h]
 exact Nat.max_self x
theorem loI_zero (us : List Nat) : loI us 0 = us.getD 0 0 := rfl
theorem hiI_zero (us : List Nat) : hiI us 0 = us.getD 0 0 := rfl
theorem add_nought (a : Addr) : a.add 0 = a := by unfold Addr.add; simp
set_option maxHeartbeats 1000000 in
theorem umin_any (A : Option Addr) (n cap B L : Nat) (us : List Nat) (w : World) (hs : Rds w B A n (cellsU us)) (hB : B ≤ w.heap.size) (h0 : 0 < n) (hn : n ≤ 1000000) (hL : loV us = L) :
  Calls Tryz.prog 85 #[.slice A n cap] w fun e w' => e = .returned (.int .u64 (L : Int)) ∧ w = w' := by
 have hul : us.length = n := by have := hs.1; rwa [cellsU_length] at this
 have Hs := Lib.hid hs; have HB := Lib.hid hB; have Hul := Lib.hid hul; have HL := Lib.hid hL
 obtain ⟨ad, x0, rfl, hx0, hc0⟩ := hs.at2 h0 hB (Mod.refl (fun _ => False) w) (fun _ _ h => h)
 have hc0' := hc0
 rw [add_nought] at hc0'
 have h1 := Lib.hid (loI_one hx0)
 clear hs hB hul hL hx0
 go_enter Tryz.func85, Tryz.ntmps85
 go_wp2_with fail
 clear hc0 hc0'
 go_loopg [3, 4] (n - 1) (fun l s3 s4 wr => ∃ (i m : Nat), i + l = n ∧ 0 < i ∧ s4 = .int .i64 (i : Int) ∧ s3 = .int .u64 (m : Int) ∧ Hid (loI us i = m) ∧ w = wr)
 case atStart => exact ⟨1, x0, by omega, by omega, rfl, rfl, h1, rfl⟩
 case round =>
  obtain ⟨i, m, hil, hi0, rfl, rfl, hm, rfl⟩ := hrel
  have Hil := Lib.hid hil
  clear hil h1
  by_cases hin : i < n
  ·obtain ⟨ad', x, he, hx, hcx⟩ := Hs.out.at2 hin HB.out (Mod.refl (fun _ => False) w) (fun _ _ h => h)
   injection he with he
   subst he
   obtain ⟨m2, hm2⟩ : ∃ m2, min m x = m2 := ⟨_, rfl⟩
   have hmin := minU_is (P := Tryz.prog) (t := 26) (ty := 26) hm2
   have Hm2 : Hid (loI us (i + 1) = m2) := Lib.hid (by rw [loI_succ hx, hm.out, hm2])
   have hi1 : (0 : Int) ≤ (i : Int) := by omega
   clear hx hm2
   go_wp2_with fail
   go_roundg (gk - 1)
   case measure => have := Hil.out; omega
   case rel => exact ⟨i + 1, m2, by have := Hil.out; omega, by omega, by go_num, rfl, Hm2, rfl⟩
  ·go_wp2_with fail
   go_ret
   have e : m = L := by rw [← hm.out, ← HL.out]; exact loI_all (by have := Hul.out; omega)
   subst e
   exact ⟨rfl, rfl⟩
set_option maxHeartbeats 1000000 in
theorem umax_any (A : Option Addr) (n cap B L : Nat) (us : List Nat) (w : World) (hs : Rds w B A n (cellsU us)) (hB : B ≤ w.heap.size) (h0 : 0 < n) (hn : n ≤ 1000000) (hL : hiV us = L) :
  Calls Tryz.prog 87 #[.slice A n cap] w fun e w' => e = .returned (.int .u64 (L : Int)) ∧ w = w' := by
 have hul : us.length = n := by have := hs.1; rwa [cellsU_length] at this
 have Hs := Lib.hid hs; have HB := Lib.hid hB; have Hul := Lib.hid hul; have HL := Lib.hid hL
 obtain ⟨ad, x0, rfl, hx0, hc0⟩ := hs.at2 h0 hB (Mod.refl (fun _ => False) w) (fun _ _ h => h)
 have hc0' := hc0
 rw [add_nought] at hc0'
 have h1 := Lib.hid (hiI_one hx0)
 clear hs hB hul hL hx0
 go_enter Tryz.func87, Tryz.ntmps87
 go_wp2_with fail
 clear hc0 hc0'
 go_loopg [3, 4] (n - 1) (fun l s3 s4 wr => ∃ (i m : Nat), i + l = n ∧ 0 < i ∧ s4 = .int .i64 (i : Int) ∧ s3 = .int .u64 (m : Int) ∧ Hid (hiI us i = m) ∧ w = wr)
 case atStart => exact ⟨1, x0, by omega, by omega, rfl, rfl, h1, rfl⟩
 case round =>
  obtain ⟨i, m, hil, hi0, rfl, rfl, hm, rfl⟩ := hrel
  have Hil := Lib.hid hil
  clear hil h1
  by_cases hin : i < n
  ·obtain ⟨ad', x, he, hx, hcx⟩ := Hs.out.at2 hin HB.out (Mod.refl (fun _ => False) w) (fun _ _ h => h)
   injection he with he
   subst he
   obtain ⟨m2, hm2⟩ : ∃ m2, max m x = m2 := ⟨_, rfl⟩
   have hmax := maxU_is (P := Tryz.prog) (t := 26) (ty := 26) hm2
   have Hm2 : Hid (hiI us (i + 1) = m2) := Lib.hid (by rw [hiI_succ hx, hm.out, hm2])
   have hi1 : (0 : Int) ≤ (i : Int) := by omega
   clear hx hm2
   go_wp2_with fail
   go_roundg (gk - 1)
   case measure => have := Hil.out; omega
   case rel => exact ⟨i + 1, m2, by have := Hil.out; omega, by omega, by go_num, rfl, Hm2, rfl⟩
  ·go_wp2_with fail
   go_ret
   have e : m = L := by rw [← hm.out, ← HL.out]; exact hiI_all (by have := Hul.out; omega)
   subst e
   exact ⟨rfl, rfl⟩
theorem difV_at {us : List Nat} {i x L : Nat} (h : us[i]? = some x) (hL : loV us = L) : (difV us)[i]? = some (x - L) := by
 unfold difV
 rw [List.getElem?_map, h, hL]
 rfl
end Go.Proofs.YtmeilddngohccaaGreatDoor

/- The numbers of a word: unpack. -/
namespace Go.Proofs.YtmeilddngohccaaGreatDoor
open Go.RowKit

theorem nums_len (k w m : Nat) : (nums k w m).length = m := by simp [nums]
theorem nums_snoc (k w i : Nat) : nums k w (i + 1) = nums k w i ++ [if bitN k = 0 then 0 else w / 2 ^ (i * bitN k) % 2 ^ bitN k] := by
 unfold nums
 rw [List.range_succ, List.map_append]
 rfl
theorem nums_lt {k w m : Nat} (hk : k < 16) : ∀ x ∈ nums k w m, x < 2 ^ 60 := by
 intro x hx
 unfold nums at hx
 obtain ⟨j, _, rfl⟩ := List.mem_map.1 hx
 show (if bitN k = 0 then 0 else w / 2 ^ (j * bitN k) % 2 ^ bitN k) < 2 ^ 60
 split
 ·exact Nat.two_pow_pos _
 ·exact Nat.lt_of_lt_of_le (Nat.mod_lt _ (Nat.two_pow_pos _)) (Nat.pow_le_pow_right (by omega) (num_pos hk).2.2.2)
/-- What the text's operations give of one number. -/
theorem unpack_one {k w i : Nat} (hk : k < 16) (hw : w < 2 ^ 64) (hi : i < numN k) :
  ∃ p y q m r : Nat, p = i * bitN k ∧ p ≤ 60 ∧ y = w / 2 ^ p ∧ q = 2 ^ bitN k ∧ m = q - 1 ∧ 1 ≤ q ∧ q ≤ 2 ^ 60 ∧ y < 2 ^ 64 ∧ r = (if bitN k = 0 then 0 else w / 2 ^ (i * bitN k) % 2 ^ bitN k) ∧ bits .and .u64 (y : Int) (m : Int) = (r : Int) := by
 have hnp := num_pos hk
 have h1 : (i + 1) * bitN k ≤ 60 := Nat.le_trans (Nat.mul_le_mul_right _ hi) hnp.2.2.1
 have hq : 2 ^ bitN k ≤ 2 ^ 60 := Nat.pow_le_pow_right (by omega) hnp.2.2.2
 have hy : w / 2 ^ (i * bitN k) < 2 ^ 64 := Nat.lt_of_le_of_lt (Nat.div_le_self _ _) hw
 refine ⟨i * bitN k, w / 2 ^ (i * bitN k), 2 ^ bitN k, 2 ^ bitN k - 1, _, rfl, by rw [Nat.add_mul] at h1; omega, rfl, rfl, rfl, Nat.two_pow_pos _, hq, hy, rfl, ?_⟩
 rw [u64_and_nat _ _ hy (by omega), Nat.and_two_pow_sub_one_eq_mod]
 split
 ·rename_i h
  rw [h, Nat.pow_zero, Nat.mod_one]
 ·rfl
end Go.Proofs.YtmeilddngohccaaGreatDoor

/- Two rows of words compared, whatever they are: SameWords, slices.Equal. -/
namespace Go.Proofs.YtmeilddngohccaaGreatDoor
open Go.RowKit

/-- The first i are alike. -/
def AlikeTo (xs ys : List Nat) (i : Nat) : Prop := ∀ j, j < i → xs[j]? = ys[j]?
theorem AlikeTo.more {xs ys : List Nat} {i x : Nat} (h : AlikeTo xs ys i) (hx : xs[i]? = some x) (hy : ys[i]? = some x) : AlikeTo xs ys (i + 1) := by
 intro j hj
 rcases Nat.lt_or_ge j i with h1 | h1
 ·exact h j h1
 ·obtain rfl : j = i := by omega
  rw [hx, hy]
theorem AlikeTo.all {xs ys : List Nat} {n : Nat} (h : AlikeTo xs ys n) (hx : xs.length = n) (hy : ys.length = n) : xs = ys := by
 apply List.ext_getElem?
 intro j
 rcases Nat.lt_or_ge j n with h1 | h1
 ·exact h j h1
 ·rw [List.getElem?_eq_none (by omega), List.getElem?_eq_none (by omega)]
theorem bool_ret {a b : Bool} (h : a = b) : Ending.returned (.bool a) = .returned (.bool b) := by rw [h]
theorem unlike_len {xs ys : List Nat} {n m : Nat} (hx : xs.length = n) (hy : ys.length = m) (h : ¬ n = m) : decide (xs = ys) = false := by
 rw [decide_eq_false_iff_not]
 rintro rfl
 omega
theorem unlike_at {xs ys : List Nat} {i x y : Nat} (hx : xs[i]? = some x) (hy : ys[i]? = some y) (h : ¬ x = y) : decide (xs = ys) = false := by
 rw [decide_eq_false_iff_not]
 rintro rfl
 rw [hx] at hy
 injection hy with hy
 exact h hy
set_option maxHeartbeats 1000000 in
theorem sameW_any (A A2 : Option Addr) (n n2 c c2 B B2 : Nat) (xs ys : List Nat) (w : World) (h1 : Rds w B A n (cellsU xs)) (h2 : Rds w B2 A2 n2 (cellsU ys)) (hn : n ≤ 1000000) (hn2 : n2 ≤ 140737488355328) :
  Calls Tryz.prog 72 #[.slice A n c, .slice A2 n2 c2] w fun e w' => e = .returned (.bool (decide (xs = ys))) ∧ Mod (fun _ => False) w w' := by
 have hx : xs.length = n := by have := h1.1; rwa [cellsU_length] at this
 have hy : ys.length = n2 := by have := h2.1; rwa [cellsU_length] at this
 have H1 := Lib.hid h1.fit; have H2 := Lib.hid h2.fit; have Hx := Lib.hid hx; have Hy := Lib.hid hy
 clear h1 h2 hx hy
 by_cases hnn : n = n2
 ·subst hnn
  go_enter Tryz.func72, Tryz.ntmps72
  go_wp2_with fail
  go_loopg [5] n (fun l s5 wr => ∃ i : Nat, i + l = n ∧ s5 = .int .i64 (i : Int) ∧ AlikeTo xs ys i ∧ Mod (fun _ => False) w wr)
  case atStart => exact ⟨0, by omega, rfl, (fun j h => by omega), Mod.refl _ _⟩
  case round =>
   obtain ⟨i, hil, rfl, ha, hm⟩ := hrel
   have Hm := Lib.hid hm; have Hil := Lib.hid hil; have Ha := Lib.hid ha
   clear hm hil ha
   by_cases hin : i < n
   ·obtain ⟨ad, x, rfl, hx, hc⟩ := H1.out.at2 hin (Nat.le_refl _) Hm.out (fun _ _ h => h)
    obtain ⟨ad2, y, rfl, hy, hc2⟩ := H2.out.at2 hin (Nat.le_refl _) Hm.out (fun _ _ h => h)
    have Hx2 := Lib.hid hx; have Hy2 := Lib.hid hy
    clear hx hy
    by_cases hxy : x = y
    ·subst hxy
     go_upto_region 6 with fail
     go_quiet (fail)
     go_wp2_with fail
     go_roundg (gk - 1)
     case measure => have := Hil.out; omega
     case rel => exact ⟨i + 1, by have := Hil.out; omega, by go_num, Ha.out.more Hx2.out Hy2.out, Hm.out.drewN _⟩
    ·have hxb : ((x : Int) != (y : Int)) = true := by simp only [bne_iff_ne, ne_eq]; omega
     have Hxy := Lib.hid hxy
     clear hxy
     go_upto_region 6 with fail
     go_quiet (fail)
     go_wp2_with fail
     go_ret
     exact ⟨bool_ret (unlike_at Hx2.out Hy2.out Hxy.out).symm, Hm.out.drewN _⟩
   ·go_wp2_with fail
    go_ret
    have hi : i = n := by have := Hil.out; omega
    subst hi
    exact ⟨bool_ret (decide_eq_true (Ha.out.all Hx.out Hy.out)).symm, Hm.out⟩
 ·have hnb : ((n : Int) != (n2 : Int)) = true := by simp only [bne_iff_ne, ne_eq]; omega
  have Hnn := Lib.hid hnn
  clear hnn
  go_enter Tryz.func72, Tryz.ntmps72
  go_wp2_with fail
  go_ret
  exact ⟨bool_ret (unlike_len Hx.out Hy.out Hnn.out).symm, Mod.refl _ _⟩
end Go.Proofs.YtmeilddngohccaaGreatDoor

/- Words are read: Decode. -/
namespace Go.Proofs.YtmeilddngohccaaGreatDoor
open Go.RowKit

/-- What the loop has read of the first i words. -/
def DecTo (w wr : World) (ws : List Nat) (N i L : Nat) (v : Value) : Prop :=
 ∃ out, Own w.heap.size wr 26 v (cellsU out) ∧ out.length = L ∧ L ≤ N ∧ (∀ x ∈ out, x < 2 ^ 60) ∧ rdS N ws = out ++ rdS (N - L) (ws.drop i) ∧ Mod (fun _ => False) w wr
theorem dec_step {ws out : List Nat} {N L i x : Nat} (hx : ws[i]? = some x) (h : rdS N ws = out ++ rdS (N - L) (ws.drop i)) :
  rdS N ws = (out ++ nums (x / 2 ^ 60) x (min (numN (x / 2 ^ 60)) (N - L))) ++ rdS (N - (L + min (numN (x / 2 ^ 60)) (N - L))) (ws.drop (i + 1)) := by
 have hd : ws.drop i = x :: ws.drop (i + 1) := drop_at' hx
 rw [h, hd]
 show out ++ (nums (x / 2 ^ 60) x (min (numN (x / 2 ^ 60)) (N - L)) ++ rdS (N - L - min (numN (x / 2 ^ 60)) (N - L)) (ws.drop (i + 1))) = _
 rw [List.append_assoc, Nat.sub_sub]
theorem decS_few {N : Nat} {ws : List Nat} (h : (rdS N ws).length < N) : decS N ws = none := by
 unfold decS
 rw [if_neg (fun h2 => by omega)]
theorem decS_is {N : Nat} {ws told : List Nat} (h : (rdS N ws).length = N) (ht : encS (rdS N ws) = some told) : decS N ws = if told = ws then some (rdS N ws) else none := by
 unfold decS
 rw [ht]
 by_cases e : told = ws
 ·rw [if_pos e, if_pos ⟨h, by rw [e]⟩]
 ·rw [if_neg e, if_neg (fun h2 => e (by injection h2.2))]
end Go.Proofs.YtmeilddngohccaaGreatDoor

/- Bytes are read as runs: Decode. -/
namespace Go.Proofs.YtmeilddngohccaaGreatDoor
open Go.RowKit

/-- What bytes are read as, with as many rounds as there are bytes. -/
def dR (r : Nat) (p : Option Nat) (bs : List Nat) : Option (List Nat) := getR bs.length r p bs
theorem dR_nil (r : Nat) (p : Option Nat) : dR r p [] = if r = 0 then some [] else none := getR_nil _ _ _
theorem dR_step {r : Nat} {p : Option Nat} {bs : List Nat} (h : bs ≠ []) :
  dR r p bs = if (runP bs).2.2 = 0 ∨ (runP bs).1 = 0 ∨ r < (runP bs).1 ∨ p = some (runP bs).2.1 then none else (dR (r - (runP bs).1) (some (runP bs).2.1) (bs.drop (runP bs).2.2)).map fun us => List.replicate (runP bs).1 (runP bs).2.1 ++ us := by
 have hl : 0 < bs.length := List.length_pos_iff.2 h
 obtain ⟨f, hf⟩ : ∃ f, bs.length = f + 1 := ⟨bs.length - 1, by omega⟩
 unfold dR
 rw [hf, getR_step f r p h]
 by_cases hz : (dec bs).2 = 0 ∨ (dec (bs.drop (dec bs).2)).2 = 0
 ·have e : runP bs = (0, 0, 0) := by unfold runP; rw [if_pos hz]
  rw [if_pos (by rcases hz with h | h <;> simp [h]), e, if_pos (by simp)]
 ·have e : runP bs = ((dec bs).1, (dec (bs.drop (dec bs).2)).1, (dec bs).2 + (dec (bs.drop (dec bs).2)).2) := by unfold runP; rw [if_neg hz]
  rw [e]
  simp only
  by_cases hc : (dec bs).1 = 0 ∨ r < (dec bs).1 ∨ p = some (dec (bs.drop (dec bs).2)).1
  ·rw [if_pos (Or.inr (Or.inr hc)), if_pos (Or.inr hc)]
  ·rw [if_neg (by intro h; rcases h with h | h | h; exact hz (Or.inl h); exact hz (Or.inr h); exact hc h), if_neg (by intro h; rcases h with h | h; omega; exact hc h)]
   rw [List.drop_drop]
   rw [getR_any f _ _ _ _ (by rw [List.length_drop]; omega) (Nat.le_refl _)]
/-- What the loop has read of the first i bytes. -/
def LdecTo (w wr : World) (bs : List Nat) (N i L : Nat) (v : Value) : Prop :=
 ∃ out, Own w.heap.size wr 26 v (cellsU out) ∧ out.length = L ∧ L ≤ N ∧ (∀ x ∈ out, x < 2 ^ 64) ∧ decR N bs = (dR (N - L) out.getLast? (bs.drop i)).map (out ++ ·) ∧ Mod (fun _ => False) w wr
theorem ldec_step {bs out : List Nat} {N L i K V S : Nat} (hi : i < bs.length) (hr : runP (bs.drop i) = (K, V, S)) (hL : out.length = L) (hS : S ≠ 0) (hf : fitsR out K V N = true)
  (h : decR N bs = (dR (N - L) out.getLast? (bs.drop i)).map (out ++ ·)) :
  K ≠ 0 ∧ L + K ≤ N ∧ decR N bs = (dR (N - (L + K)) (out ++ List.replicate K V).getLast? (bs.drop (i + S))).map ((out ++ List.replicate K V) ++ ·) := by
 have hne : bs.drop i ≠ [] := by
  intro e
  have := congrArg List.length e
  rw [List.length_drop] at this
  simp at this
  omega
 unfold fitsR at hf
 rw [hL] at hf
 have hf' := of_decide_eq_true hf
 have hK : K ≠ 0 := fun e => hf' (Or.inl e)
 have hKL : ¬ N - L < K := fun e => hf' (Or.inr (Or.inl e))
 refine ⟨hK, by omega, ?_⟩
 obtain ⟨j, hj⟩ : ∃ j, K = j + 1 := ⟨K - 1, by omega⟩
 have hlast : (out ++ List.replicate K V).getLast? = some V := by
  rw [hj, List.replicate_succ', ← List.append_assoc, List.getLast?_append]
  simp
 rw [h, dR_step hne, hr]
 simp only
 rw [if_neg (by intro h; rcases h with h | h; exact hS h; exact hf' h), Option.map_map, hlast, List.drop_drop, Nat.sub_sub]
 congr 1
 funext us
 simp
theorem ldec_stop {bs out : List Nat} {N L i K V S : Nat} (hi : i < bs.length) (hr : runP (bs.drop i) = (K, V, S)) (hL : out.length = L) (hf : S = 0 ∨ fitsR out K V N = false)
  (h : decR N bs = (dR (N - L) out.getLast? (bs.drop i)).map (out ++ ·)) : decR N bs = none := by
 have hne : bs.drop i ≠ [] := by
  intro e
  have := congrArg List.length e
  rw [List.length_drop] at this
  simp at this
  omega
 rw [h, dR_step hne, hr]
 simp only
 rw [if_pos]
 ·rfl
 ·rcases hf with hf | hf
  ·exact Or.inl hf
  ·refine Or.inr ?_
   unfold fitsR at hf
   rw [hL] at hf
   exact Decidable.not_not.1 (of_decide_eq_false hf)
theorem ldec_end {bs out : List Nat} {N L i : Nat} (hi : bs.length ≤ i) (hLN : L ≤ N) (h : decR N bs = (dR (N - L) out.getLast? (bs.drop i)).map (out ++ ·)) : decR N bs = if L < N then none else some out := by
 rw [h, List.drop_of_length_le hi, dR_nil]
 by_cases hl : L < N
 ·rw [if_pos hl, if_neg (by omega)]; rfl
 ·rw [if_neg hl, if_pos (by omega)]; simp
end Go.Proofs.YtmeilddngohccaaGreatDoor

/- Rows of elements of K cells each, of whatever type: what a slice reads as; a row of the call's own; append; one cell of one element read and written. -/
namespace Go.Proofs.YtmeilddngohccaaGreatDoor
open Go.RowKit

/-- Each element has K cells. -/
def AllK (K : Nat) (rows : List (List Value)) : Prop := ∀ r ∈ rows, r.length = K
theorem AllK.nil (K : Nat) : AllK K [] := fun _ h => by cases h
theorem AllK.cons {K : Nat} {r : List Value} {rows : List (List Value)} (h : r.length = K) (hr : AllK K rows) : AllK K (r :: rows) := fun x hx => by
 rcases List.mem_cons.1 hx with rfl | hx
 ·exact h
 ·exact hr x hx
theorem AllK.app {K : Nat} {a b : List (List Value)} (ha : AllK K a) (hb : AllK K b) : AllK K (a ++ b) := fun x hx => by
 rcases List.mem_append.1 hx with hx | hx
 ·exact ha x hx
 ·exact hb x hx
theorem AllK.take {K : Nat} {a : List (List Value)} (ha : AllK K a) (i : Nat) : AllK K (a.take i) := fun x hx => ha x (List.mem_of_mem_take hx)
theorem AllK.drop {K : Nat} {a : List (List Value)} (ha : AllK K a) (i : Nat) : AllK K (a.drop i) := fun x hx => ha x (List.mem_of_mem_drop hx)
theorem AllK.set_ {K : Nat} {a : List (List Value)} (ha : AllK K a) (i : Nat) {r : List Value} (hr : r.length = K) : AllK K (a.set i r) := fun x hx => by
 rcases List.mem_or_eq_of_mem_set hx with h | h
 ·exact ha x h
 ·rw [h]; exact hr
theorem flat_len {K : Nat} : ∀ {rows : List (List Value)}, AllK K rows → rows.flatten.length = rows.length * K := by
 intro rows
 induction rows with
 | nil => intro _; simp
 | cons r rows ih =>
  intro h
  rw [List.flatten_cons, List.length_append, ih (fun x hx => h x (List.mem_cons_of_mem _ hx)), h r (List.mem_cons_self ..), List.length_cons, Nat.add_mul]
  omega
theorem flat_get {K : Nat} : ∀ {rows : List (List Value)} {i j : Nat} {r : List Value}, AllK K rows → rows[i]? = some r → j < K → rows.flatten[i * K + j]? = r[j]? := by
 intro rows
 induction rows with
 | nil => intro i j r _ h; simp at h
 | cons q rows ih =>
  intro i j r ha h hj
  have hq := ha q (List.mem_cons_self ..)
  cases i with
  | zero =>
   rw [List.getElem?_cons_zero] at h
   injection h with h
   subst h
   rw [List.flatten_cons, Nat.zero_mul, Nat.zero_add, List.getElem?_append_left (by omega)]
  | succ i =>
   rw [List.getElem?_cons_succ] at h
   rw [List.flatten_cons, List.getElem?_append_right (by rw [hq, Nat.add_mul]; omega), hq, show (i + 1) * K + j - K = i * K + j by rw [Nat.add_mul]; omega]
   exact ih (fun x hx => ha x (List.mem_cons_of_mem _ hx)) h hj
theorem flat_set {K : Nat} : ∀ {rows : List (List Value)} {i j : Nat} {r : List Value} (u : Value), AllK K rows → rows[i]? = some r → j < K → rows.flatten.set (i * K + j) u = (rows.set i (r.set j u)).flatten := by
 intro rows
 induction rows with
 | nil => intro i j r u _ h; simp at h
 | cons q rows ih =>
  intro i j r u ha h hj
  have hq := ha q (List.mem_cons_self ..)
  cases i with
  | zero =>
   rw [List.getElem?_cons_zero] at h
   injection h with h
   subst h
   rw [List.flatten_cons, Nat.zero_mul, Nat.zero_add, List.set_append_left _ _ (by omega), List.set_cons_zero, List.flatten_cons]
  | succ i =>
   rw [List.getElem?_cons_succ] at h
   rw [List.flatten_cons, List.set_append_right _ _ (by rw [hq, Nat.add_mul]; omega), hq, show (i + 1) * K + j - K = i * K + j by rw [Nat.add_mul]; omega, ih u (fun x hx => ha x (List.mem_cons_of_mem _ hx)) h hj, List.set_cons_succ, List.flatten_cons]
theorem flat_take {K : Nat} : ∀ {rows : List (List Value)} (i : Nat), AllK K rows → rows.flatten.take (i * K) = (rows.take i).flatten := by
 intro rows
 induction rows with
 | nil => intro i _; simp
 | cons q rows ih =>
  intro i ha
  have hq := ha q (List.mem_cons_self ..)
  cases i with
  | zero => simp
  | succ i => rw [List.flatten_cons, List.take_succ_cons, List.flatten_cons, ← ih i (fun x hx => ha x (List.mem_cons_of_mem _ hx)), List.take_append, List.take_of_length_le (by rw [hq, Nat.add_mul]; omega), hq, show (i + 1) * K - K = i * K by rw [Nat.add_mul]; omega]
theorem flat_drop {K : Nat} : ∀ {rows : List (List Value)} (i : Nat), AllK K rows → rows.flatten.drop (i * K) = (rows.drop i).flatten := by
 intro rows
 induction rows with
 | nil => intro i _; simp
 | cons q rows ih =>
  intro i ha
  have hq := ha q (List.mem_cons_self ..)
  cases i with
  | zero => simp
  | succ i => rw [List.flatten_cons, List.drop_succ_cons, ← ih i (fun x hx => ha x (List.mem_cons_of_mem _ hx)), List.drop_append, List.drop_eq_nil_of_le (by rw [hq, Nat.add_mul]; omega), hq, show (i + 1) * K - K = i * K by rw [Nat.add_mul]; omega, List.nil_append]
/-- The slice at A, n elements of K cells long, reads as these, below block B. -/
def RdsK (K : Nat) (w : World) (B : Nat) (A : Option Addr) (n : Nat) (rows : List (List Value)) : Prop := rows.length = n ∧ AllK K rows ∧ Rds w B A (n * K) rows.flatten
section
variable {K : Nat} {w w' : World} {B B' n : Nat} {A : Option Addr} {rows : List (List Value)}
theorem RdsK.nil (K : Nat) (w : World) (B : Nat) (A : Option Addr) : RdsK K w B A 0 [] := ⟨rfl, AllK.nil K, by rw [Nat.zero_mul]; exact Rds.nil _ _ _⟩
theorem RdsK.more (h : RdsK K w B A n rows) (hB : B ≤ B') : RdsK K w B' A n rows := ⟨h.1, h.2.1, h.2.2.more hB⟩
theorem RdsK.drew (h : RdsK K w B A n rows) : RdsK K w.drew B A n rows := h
theorem RdsK.alloc (h : RdsK K w B A n rows) (hB : B ≤ w.heap.size) (o : Obj) : RdsK K (w.alloc o) B A n rows := ⟨h.1, h.2.1, h.2.2.alloc hB o⟩
theorem RdsK.fit (h : RdsK K w B A n rows) : RdsK K w w.heap.size A n rows := ⟨h.1, h.2.1, h.2.2.fit⟩
theorem RdsK.mod {S : Nat → Prop} (h : RdsK K w B A n rows) (hm : Mod S w w') (hB : B ≤ w.heap.size) (hS : ∀ j, j < B → ¬ S j) : RdsK K w' B A n rows := ⟨h.1, h.2.1, h.2.2.mod hm hB hS⟩
theorem RdsK.new (h : RdsK K w B A n rows) (hm : Mod (fun _ => False) w w') : RdsK K w' w.heap.size A n rows := ⟨h.1, h.2.1, h.2.2.new hm⟩
theorem RdsK.below (h : RdsK K w B A n rows) (hb : Below B w w') : RdsK K w' B A n rows := ⟨h.1, h.2.1, h.2.2.below hb⟩
/-- One element: where it lies, and its cells. -/
theorem RdsK.at_ (h : RdsK K w B A n rows) {i : Nat} (hi : i < n) (hK : 0 < K) : ∃ ad r, A = some ad ∧ ad.block < B ∧ rows[i]? = some r ∧ r.length = K ∧ ∀ j u, r[j]? = some u → w.cell? (ad.add (i * K + j)) = some u := by
 have hl := h.1
 have hir : i < rows.length := by omega
 obtain ⟨ad, e, hb, hc⟩ := h.2.2.2 (Nat.mul_pos (by omega) hK)
 refine ⟨ad, rows[i], e, hb, List.getElem?_eq_getElem hir, h.2.1 _ (List.getElem_mem hir), fun j u hu => hc _ _ ?_⟩
 have hj : j < K := by
  have h1 := (List.getElem?_eq_some_iff.1 hu).1
  have h2 := h.2.1 _ (List.getElem_mem hir)
  omega
 rw [flat_get h.2.1 (List.getElem?_eq_getElem hir) hj]
 exact hu
/-- s[:k] -/
theorem RdsK.take (h : RdsK K w B A n rows) {k : Nat} (hk : k ≤ n) : RdsK K w B A k (rows.take k) := by
 refine ⟨by rw [List.length_take, h.1]; omega, h.2.1.take k, ?_⟩
 rw [← flat_take k h.2.1]
 exact h.2.2.take (Nat.mul_le_mul_right K hk)
/-- s[k:] -/
theorem RdsK.drop (h : RdsK K w B A n rows) {k cap : Nat} (hk : k ≤ n) (hc : n ≤ cap) (hK : 0 < K) : RdsK K w B (if cap = k then A else A.map (·.add (k * K))) (n - k) (rows.drop k) := by
 refine ⟨by rw [List.length_drop, h.1], h.2.1.drop k, ?_⟩
 have h2 := h.2.2.drop (k := k * K) (cap := cap * K) (Nat.mul_le_mul_right K hk) (Nat.mul_le_mul_right K hc)
 rw [flat_drop k h.2.1, ← Nat.sub_mul] at h2
 by_cases e : cap = k
 ·rw [if_pos (by rw [e])] at h2
  rw [if_pos e]
  exact h2
 ·rw [if_neg (fun e2 => e (Nat.eq_of_mul_eq_mul_right hK e2))] at h2
  rw [if_neg e]
  exact h2
end
/-- A row of the call's own of such elements: all that it has lies from block B on. -/
def OwnK (K B : Nat) (w : World) (e : TypeId) (v : Value) (rows : List (List Value)) : Prop := AllK K rows ∧ w.ownsRow B e K v rows.length rows.flatten
section
variable {K : Nat} {w w' : World} {B B' : Nat} {e : TypeId} {v : Value} {rows : List (List Value)}
theorem OwnK.nil (K B : Nat) (w : World) (e : TypeId) : OwnK K B w e (.slice none 0 0) [] := ⟨AllK.nil K, World.ownsRow_nil _ _ _ _⟩
theorem OwnK.drew (h : OwnK K B w e v rows) : OwnK K B w.drew e v rows := h
theorem OwnK.alloc (h : OwnK K B w e v rows) (o : Obj) : OwnK K B (w.alloc o) e v rows := ⟨h.1, World.ownsRow.alloc h.2 o⟩
theorem OwnK.mono (h : OwnK K B w e v rows) (hB : B' ≤ B) : OwnK K B' w e v rows := by
 refine ⟨h.1, h.2.1, ?_⟩
 rcases h.2.2 with hn | ⟨g, cap, cur, rfl, hb, rest⟩
 ·exact .inl hn
 ·exact .inr ⟨g, cap, cur, rfl, by omega, rest⟩
theorem OwnK.below (h : OwnK K B w e v rows) (hb : Below w.heap.size w w') : OwnK K B w' e v rows := by
 refine ⟨h.1, h.2.1, ?_⟩
 rcases h.2.2 with hn | ⟨g, cap, cur, rfl, hB, hgg, rest⟩
 ·exact .inl hn
 ·refine .inr ⟨g, cap, cur, rfl, hB, ?_, rest⟩
  rw [hb.block g (Array.getElem?_eq_some_iff.1 hgg).1]
  exact hgg
theorem OwnK.mod (h : OwnK K B w e v rows) (hm : Mod (fun _ => False) w w') : OwnK K B w' e v rows := ⟨h.1, hm.owns h.2 (fun _ _ h => h)⟩
theorem OwnK.modS {S : Nat → Prop} (h : OwnK K B w e v rows) (hm : Mod S w w') (hS : ∀ k, v.ownBlock = some k → ¬ S k) : OwnK K B w' e v rows := ⟨h.1, hm.owns h.2 hS⟩
theorem OwnK.block (h : OwnK K B w e v rows) : ∀ k, v.ownBlock = some k → B ≤ k ∧ k < w.heap.size := World.ownsRow.lt h.2
/-- What its value looks like. -/
theorem OwnK.form (h : OwnK K B w e v rows) : ∃ A c, v = .slice A rows.length c ∧ (A = none → c = 0) ∧ rows.length ≤ c ∧ c ≤ maxLen ∧ RdsK K w w.heap.size A rows.length rows := by
 obtain ⟨hK, ho⟩ := h
 have hl := flat_len hK
 rcases ho.2 with ⟨rfl, h0⟩ | ⟨g, cap, cur, rfl, hB, hgg, hnc, hcm, hcs, htk⟩
 ·obtain rfl : rows = [] := List.eq_nil_of_length_eq_zero h0
  exact ⟨none, 0, rfl, fun _ => rfl, Nat.le_refl _, Nat.zero_le _, RdsK.nil _ _ _ _⟩
 ·exact ⟨_, cap, rfl, (fun h => by cases h), hnc, hcm, rfl, hK, hl, fun _ => ⟨_, rfl, (Array.getElem?_eq_some_iff.1 hgg).1, World.ownsRow.cells ho (g := g) rfl⟩⟩
theorem OwnK.formN (h : OwnK K B w e v rows) : ∃ A L c, v = .slice A L c ∧ Hid (rows.length = L) ∧ L ≤ c ∧ c ≤ maxLen ∧ RdsK K w w.heap.size A L rows := by
 obtain ⟨A, c, e, _, h1, h2, h3⟩ := h.form
 exact ⟨A, rows.length, c, e, Lib.hid rfl, h1, h2, h3⟩
theorem OwnK.rds {A : Option Addr} {n c : Nat} (h : OwnK K B w e (.slice A n c) rows) (hn : rows.length = n) : RdsK K w w.heap.size A n rows := by
 obtain ⟨A', c', e, _, _, _, hr⟩ := h.form
 injection e with e1 e2 e3
 subst e1 e2
 exact hr
/-- Where it lies, if it is not empty. -/
theorem OwnK.form' (h : OwnK K B w e v rows) (hn : 0 < rows.length) : ∃ g cap, v = .slice (some ⟨g, 0, none⟩) rows.length cap ∧ rows.length ≤ cap ∧ cap ≤ maxLen ∧ B ≤ g ∧ g < w.heap.size := by
 rcases h.2.2 with ⟨rfl, h0⟩ | ⟨g, cap, cur, rfl, hB, hgg, hnc, hcm, _⟩
 ·omega
 ·exact ⟨g, cap, rfl, hnc, hcm, hB, (Array.getElem?_eq_some_iff.1 hgg).1⟩
/-- One cell of one element written: s[i].f = u. -/
theorem OwnK.set_ {g n cap i j : Nat} {r : List Value} (h : OwnK K B w e (.slice (some ⟨g, 0, none⟩) n cap) rows) (hn : rows.length = n) (hr : rows[i]? = some r) (hj : j < K) (u : Value) :
  (∃ x, r[j]? = some x ∧ w.cell? ⟨g, i * K + j, none⟩ = some x) ∧ w.frozen? ⟨g, i * K + j, none⟩ = false ∧ OwnK K B (w.setCell ⟨g, i * K + j, none⟩ u) e (.slice (some ⟨g, 0, none⟩) n cap) (rows.set i (r.set j u)) := by
 obtain ⟨hK, ho⟩ := h
 have hir := (List.getElem?_eq_some_iff.1 hr).1
 have hrl : r.length = K := hK r (List.mem_of_getElem? hr)
 have hl := flat_len hK
 have hlt : i * K + j < rows.length * K := by
  have := Nat.mul_le_mul_right K hir
  rw [Nat.succ_mul] at this
  omega
 rw [hn] at ho
 refine ⟨⟨r[j]'(by omega), List.getElem?_eq_getElem (by omega), ?_⟩, ho.frozenAt _, hK.set_ i (by rw [List.length_set]; exact hrl), ?_⟩
 ·rw [ho.cellAt _ (by rw [← hn]; exact hlt), flat_get hK hr hj, List.getElem?_eq_getElem (by omega)]
 ·have h2 := (ho.stored (i * K + j) u).1
  rw [flat_set u hK hr hj] at h2
  rw [List.length_set, hn]
  exact h2
end
/-- A slice type's element of K cells: its row of the table. -/
def EltK (P : Program) (t e : TypeId) (z : Value) (K bytes : Nat) : Prop := P.underlying t = some (.slice e) ∧ (∃ i, P.info? e = some i ∧ i.zero = some z ∧ i.size = K ∧ i.bytes = bytes) ∧ z.cells.size = K ∧ 0 < K
theorem EltK.mk {P : Program} {t e : TypeId} {z : Value} {K bytes : Nat} (h1 : P.underlying t = some (.slice e)) (h2 : (P.info? e).map (fun i => (i.zero, i.size, i.bytes)) = some (some z, K, bytes)) (h3 : z.cells.size = K) (h4 : 0 < K) : EltK P t e z K bytes :=
 ⟨h1, info_parts h2, h3, h4⟩
section
variable {P : Program} {w : World}
theorem run_append_nilK (t ty e : TypeId) (i : TypeInfo) (ht : P.underlying t = some (.slice e)) (hi : P.info? e = some i) {K B : Nat} {v : Value} {rows : List (List Value)} (hown : OwnK K B w e v rows) (c : Nat) :
  (Builtin.append_ #[t, t] ty #[v, .slice none 0 c]).run P w = .ok v w := by
 rcases hown.2.2 with ⟨rfl, h0⟩ | ⟨g, cap, cur, rfl, _, _, hnc, _⟩
 ·simp [Builtin.append_, run_underlying ht, sizeOf, typeInfo, hi, Builtin.lenOf, Builtin.firstCells]
 ·simp [Builtin.append_, run_underlying ht, sizeOf, typeInfo, hi, Builtin.lenOf, Builtin.firstCells, hnc, storeCells]
theorem run_appK {t ty e : TypeId} {z : Value} {K bytes B B2 m c : Nat} {v : Value} {rows news : List (List Value)} {A : Option Addr} (hE : EltK P t e z K bytes) (hown : OwnK K B w e v rows) (hr : RdsK K w B2 A m news) (h1 : ∀ u ∈ news.flatten, u.oneCell' = true)
  (hm : rows.length + m ≤ maxLen) (hb : (rows.length + m) * bytes ≤ 140737488355328) (hB : B ≤ w.heap.size) :
  ∃ v' w', (Builtin.append_ #[t, t] ty #[v, .slice A m c]).run P w = .ok v' w' ∧ OwnK K B w' e v' (rows ++ news) ∧ w.grownBy w' v.ownBlock ∧ (v'.ownBlock = v.ownBlock ∨ v'.ownBlock = some w.heap.size) := by
 obtain ⟨ht, ⟨i, hi, hz, hsize, hby⟩, hzs, hK⟩ := hE
 have hrl := hr.1
 have hfl := flat_len hr.2.1
 rcases A with _ | ad
 ·have hm0 : m = 0 := by
   rcases Nat.eq_zero_or_pos m with h0 | h0
   ·exact h0
   ·obtain ⟨ad, h, _⟩ := hr.2.2.2 (Nat.mul_pos h0 hK)
    cases h
  subst hm0
  obtain rfl : news = [] := List.eq_nil_of_length_eq_zero hrl
  exact ⟨v, w, run_append_nilK t ty e i ht hi hown c, by simpa using hown, World.grownBy.refl w _, .inl rfl⟩
 ·have hcells : ∀ j u, news.flatten[j]? = some u → w.cell? (ad.add j) = some u := by
   intro j u hu
   rcases Nat.eq_zero_or_pos m with h0 | h0
   ·subst h0
    obtain rfl : news = [] := List.eq_nil_of_length_eq_zero hrl
    simp at hu
   ·obtain ⟨ad', h, _, hc⟩ := hr.2.2.2 (Nat.mul_pos h0 hK)
    injection h with h
    subst h
    exact hc j u hu
  obtain ⟨v', w', hrun, h2, h3, _, h5⟩ := run_append_own_at (P := P) w B t ty e i z K bytes ht hi hz hsize hby hzs hK v rows.length rows.flatten hown.2 ad m c news.flatten (by rw [hfl, hrl]) hcells h1 hm hb hB
  refine ⟨v', w', hrun, ⟨hown.1.app hr.2.1, ?_⟩, h3, h5⟩
  rw [List.length_append, hrl, List.flatten_append]
  exact h2
/-- append(s, x..), s a row of the call's own. -/
theorem wpList_appK {ops : Array Oper} {rest : List Oper} {o : Oper} {a : Act} {Q : Exit → Act → World → Prop} (hgd : o.guard = none) (s x : Operand) (t : TypeId)
  (ho : o.op = .call { callee := .builtin .append, args := #[s, x], argTypes := #[t, t] }) {e : TypeId} {z : Value} {K bytes : Nat} (hE : EltK P t e z K bytes)
  {B : Nat} {v : Value} {rows : List (List Value)} (hs : a.eval s = v) (hown : OwnK K B w e v rows) {B2 m c : Nat} {A : Option Addr} {news : List (List Value)} (hx : a.eval x = .slice A m c) (hr : RdsK K w B2 A m news) (h1 : ∀ u ∈ news.flatten, u.oneCell' = true)
  (hm : rows.length + m ≤ maxLen) (hb : (rows.length + m) * bytes ≤ 140737488355328) (hB : B ≤ w.heap.size)
  (h : ∀ v' w', Hid (OwnK K B w' e v' (rows ++ news)) → Hid (Below B w w') → Hid (w.grownBy w' v.ownBlock ∧ (v'.ownBlock = v.ownBlock ∨ v'.ownBlock = some w.heap.size)) → wpList P ops Q rest (a.put o.dst v') w') : wpList P ops Q (o :: rest) a w := by
 refine wpList_plain hgd fun _ hK => ?_
 obtain ⟨v', w', hrun, h2, h3, h4⟩ := run_appK (ty := o.type) (c := c) hE hown hr h1 hm hb hB
 unfold Oper.wp execOp
 simp only [ho, resolve, invoke, builtin, Sem.run_bind, Sem.run_pure, Result.andThen_ok, List.map_toArray, List.map_cons, List.map_nil, hs, hx, hrun]
 exact hK _ _ (h v' w' (Lib.hid h2) (Lib.hid ((Below.refl B w).grown h3 hB fun k hk => (hown.block k hk).1)) (Lib.hid ⟨h3, h4⟩))
end
end Go.Proofs.YtmeilddngohccaaGreatDoor

/- append of one sample as a step of a region that draws its order. -/
namespace Go.Proofs.YtmeilddngohccaaGreatDoor
open Go.RowKit

/-- append(l, p) as a step of a region that draws its order. -/
theorem step_appS {ops : Array Oper} {o : Oper} {a : Act} {K : Act → World → Prop} {Q : Exit → Act → World → Prop} {E : Prop} {w : World} (hgd : o.guard = none) (s x : Operand)
  (ho : o.op = .call { callee := .builtin .append, args := #[s, x], argTypes := #[23, 23] })
  {B H : Nat} {v : Value} {l : List (Int × Nat)} {p : Int × Nat} {te : TypeId} (hs : a.eval s = v) (hown : OwnS B w v l) (hx : a.eval x = .slice (some ⟨H, 0, none⟩) 1 1) (hH : w.heap.size = H)
  (hm : l.length + 1 ≤ maxLen) (hb : (l.length + 1) * 16 ≤ 140737488355328) (hB : B ≤ w.heap.size)
  (h : ∀ v' w', Hid (OwnS B w' v' (l ++ [p])) → Hid (Below B w w') → K (a.put o.dst v') w') :
  if Region.wanted o (yielded ops a.tmps) = true then Oper.wp Tryz.prog o a (w.alloc (.cells #[.int .i64 p.1, .int .u64 (p.2 : Int)] te)) K Q else E := by
 subst hH
 have hw : Region.wanted o (yielded ops a.tmps) = true := by simp [Region.wanted, hgd]
 rw [if_pos hw]
 obtain ⟨i, hi, hz0, hz1, hz2⟩ := info_parts infoS
 obtain ⟨v', w', hr, h2, h3, _, _⟩ := run_append_own_at (P := Tryz.prog) (w.alloc (.cells #[.int .i64 p.1, .int .u64 (p.2 : Int)] te)) B 23 o.type 28 i (.agg #[.int .i64 0, .int .u64 0]) 2 16 Tryz.underlying23 hi hz0 hz1 hz2 rfl (by decide) v l.length (cellsS l) (hown.alloc _) ⟨w.heap.size, 0, none⟩ 1 1
  [.int .i64 p.1, .int .u64 (p.2 : Int)] rfl (cell_two_new _ _ _ _) (fun u hu => by simp at hu; rcases hu with rfl | rfl <;> rfl) hm hb (by simp; omega)
 unfold Oper.wp execOp
 simp only [ho, resolve, invoke, builtin, Sem.run_bind, Sem.run_pure, Result.andThen_ok, List.map_toArray, List.map_cons, List.map_nil, hs, hx, hr]
 refine h v' w' ?_ ?_
 ·show OwnS B w' v' (l ++ [p])
  unfold OwnS
  rw [List.length_append, cellsS_app]
  exact h2
 ·exact ((Below.refl B w).alloc hB _).trans ((Below.refl B _).grown h3 (by simp; omega) (fun k hk => (hown.block k hk).1))
end Go.Proofs.YtmeilddngohccaaGreatDoor

/- The document's numbers, bits, held, fits. -/
namespace Go.Proofs.YtmeilddngohccaaGreatDoor
open Go.RowKit

def numsV : Array Value := #[.int .i64 240, .int .i64 120, .int .i64 60, .int .i64 30, .int .i64 20, .int .i64 15, .int .i64 12, .int .i64 10, .int .i64 8, .int .i64 7, .int .i64 6, .int .i64 5, .int .i64 4, .int .i64 3, .int .i64 2, .int .i64 1]
def bitsV : Array Value := #[.int .i64 0, .int .i64 0, .int .i64 1, .int .i64 2, .int .i64 3, .int .i64 4, .int .i64 5, .int .i64 6, .int .i64 7, .int .i64 8, .int .i64 10, .int .i64 12, .int .i64 15, .int .i64 20, .int .i64 30, .int .i64 60]
theorem numsV_at : ∀ k : Fin 16, numsV[k.val]? = some (.int .i64 (numN k.val : Int)) := by
 intro ⟨k, hk⟩
 have h : k = 0 ∨ k = 1 ∨ k = 2 ∨ k = 3 ∨ k = 4 ∨ k = 5 ∨ k = 6 ∨ k = 7 ∨ k = 8 ∨ k = 9 ∨ k = 10 ∨ k = 11 ∨ k = 12 ∨ k = 13 ∨ k = 14 ∨ k = 15 := by omega
 rcases h with rfl | rfl | rfl | rfl | rfl | rfl | rfl | rfl | rfl | rfl | rfl | rfl | rfl | rfl | rfl | rfl <;> rfl
theorem bitsV_at : ∀ k : Fin 16, bitsV[k.val]? = some (.int .i64 (bitN k.val : Int)) := by
 intro ⟨k, hk⟩
 have h : k = 0 ∨ k = 1 ∨ k = 2 ∨ k = 3 ∨ k = 4 ∨ k = 5 ∨ k = 6 ∨ k = 7 ∨ k = 8 ∨ k = 9 ∨ k = 10 ∨ k = 11 ∨ k = 12 ∨ k = 13 ∨ k = 14 ∨ k = 15 := by omega
 rcases h with rfl | rfl | rfl | rfl | rfl | rfl | rfl | rfl | rfl | rfl | rfl | rfl | rfl | rfl | rfl | rfl <;> rfl
set_option maxHeartbeats 1000000 in
theorem numbers_any (k : Nat) (w : World) (hk : k < 16) : Calls Tryz.prog 69 #[.int .i64 (k : Int)] w fun e w' => e = .returned (.int .i64 (numN k : Int)) ∧ Mod (fun _ => False) w w' := by
 obtain ⟨W, hW⟩ : ∃ W, W = w.alloc (.cells numsV 128) := ⟨_, rfl⟩
 have hmW : Mod (fun _ => False) w W := by rw [hW]; exact (Mod.refl _ _).alloc _
 have hbW : Blk W w.heap.size 128 numsV := by rw [hW]; exact Blk.new _ _ _
 have hd := (hbW.cell k).trans (numsV_at ⟨k, hk⟩)
 simp only at hd
 obtain ⟨c, hc⟩ : ∃ c, c = numN k := ⟨_, rfl⟩
 rw [← hc] at hd ⊢
 have hk0 : (0 : Int) ≤ (k : Int) := by omega
 have hk1 : (k : Int) < 16 := by omega
 unfold numsV at hW
 have HW := Lib.hid hW; have HmW := Lib.hid hmW
 clear hW hmW hbW hc
 go_enter Tryz.func69, Tryz.ntmps69
 go_wp2_with (first | (rw [← HW.out]))
 go_ret
 exact ⟨rfl, HmW.out⟩
set_option maxHeartbeats 1000000 in
theorem bits_any (k : Nat) (w : World) (hk : k < 16) : Calls Tryz.prog 70 #[.int .i64 (k : Int)] w fun e w' => e = .returned (.int .i64 (bitN k : Int)) ∧ Mod (fun _ => False) w w' := by
 obtain ⟨W, hW⟩ : ∃ W, W = w.alloc (.cells bitsV 128) := ⟨_, rfl⟩
 have hmW : Mod (fun _ => False) w W := by rw [hW]; exact (Mod.refl _ _).alloc _
 have hbW : Blk W w.heap.size 128 bitsV := by rw [hW]; exact Blk.new _ _ _
 have hd := (hbW.cell k).trans (bitsV_at ⟨k, hk⟩)
 simp only at hd
 obtain ⟨c, hc⟩ : ∃ c, c = bitN k := ⟨_, rfl⟩
 rw [← hc] at hd ⊢
 have hk0 : (0 : Int) ≤ (k : Int) := by omega
 have hk1 : (k : Int) < 16 := by omega
 unfold bitsV at hW
 have HW := Lib.hid hW; have HmW := Lib.hid hmW
 clear hW hmW hbW hc
 go_enter Tryz.func70, Tryz.ntmps70
 go_wp2_with (first | (rw [← HW.out]))
 go_ret
 exact ⟨rfl, HmW.out⟩
theorem numbers_is (k c : Nat) (w : World) (hk : k < 16) (hc : numN k = c) : Calls Tryz.prog 69 #[.int .i64 (k : Int)] w fun e w' => e = .returned (.int .i64 (c : Int)) ∧ Mod (fun _ => False) w w' := by
 subst hc
 exact numbers_any k w hk
theorem bits_is (k c : Nat) (w : World) (hk : k < 16) (hc : bitN k = c) : Calls Tryz.prog 70 #[.int .i64 (k : Int)] w fun e w' => e = .returned (.int .i64 (c : Int)) ∧ Mod (fun _ => False) w w' := by
 subst hc
 exact bits_any k w hk
end Go.Proofs.YtmeilddngohccaaGreatDoor

/- Whether the next numbers may stand in a word of a kind: the document's fits. -/
namespace Go.Proofs.YtmeilddngohccaaGreatDoor
open Go.RowKit

set_option maxHeartbeats 1000000 in
set_option maxRecDepth 100000 in
theorem fits_any (A : Option Addr) (n cap B k : Nat) (us : List Nat) (w : World) (hs : Rds w B A n (cellsU us)) (hB : B ≤ w.heap.size) (hu : ∀ x ∈ us, x < 2 ^ 64) (hk : k < 16) (hn : n ≤ 1000000) :
  Calls Tryz.prog 95 #[.slice A n cap, .int .i64 (k : Int)] w fun e w' => e = .returned (.bool (fitsK us k)) ∧ Mod (fun _ => False) w w' := by
 have hul : us.length = n := by have := hs.1; rwa [cellsU_length] at this
 have Hs := Lib.hid hs; have Hu := Lib.hid hu; have Hul := Lib.hid hul; have HB := Lib.hid hB; have Hk := Lib.hid hk
 clear hs hu hul hB
 obtain ⟨c, hc⟩ : ∃ c, numN k = c := ⟨_, rfl⟩
 obtain ⟨s, hs⟩ : ∃ s, bitN k = s := ⟨_, rfl⟩
 have hnp := num_pos hk
 rw [hc, hs] at hnp
 have hc2 : c ≤ 240 := hnp.2.1
 have hs2 : s ≤ 60 := hnp.2.2.2
 have Hc := Lib.hid hc; have Hss := Lib.hid hs
 have hk0 : (0 : Int) ≤ (k : Int) := by omega
 have hkk : (k : Int) < 16 := by omega
 clear hc hs hnp
 by_cases hfew : k < 2 ∧ n < c
 ·obtain ⟨hk2, hnc⟩ := hfew
  have Hk2 := Lib.hid hk2
  have hkd : (k : Int) < 2 := by omega
  clear hk2
  go_enter Tryz.func95, Tryz.ntmps95
  go_wp2_with fail
  refine (numbers_is k c _ hk Hc.out).mono ?_
  rintro e w1 ⟨rfl, hm1⟩
  have Hm1 := Lib.hid hm1
  clear hm1
  go_wp2_with fail
  go_ret
  exact ⟨ret_bool (by rw [fitsK_few Hk2.out (by rw [Hul.out, Hc.out]; exact hnc)]), Hm1.out⟩
 ·have Hfew := Lib.hid hfew
  clear hfew
  have hsn : ¬ (k : Int) < 2 ∨ ((k : Int) < 2 ∧ ¬ n < c) := by
   by_cases h : k < 2
   ·exact .inr ⟨by omega, fun h2 => Hfew.out ⟨h, h2⟩⟩
   ·exact .inl (by omega)
  go_enter Tryz.func95, Tryz.ntmps95
  rcases hsn with hkd | ⟨hkd, hnc⟩
  all_goals go_wp2_with (first | (go_at_call 69; refine (numbers_is k c _ hk Hc.out).mono ?_; rintro e w1 ⟨rfl, hm1⟩; have Hm1 := Lib.hid hm1; clear hm1))
  all_goals
   go_loopg [5] (n + 1) (fun l s5 wr => ∃ i : Nat, i + l = n + 1 ∧ i ≤ c ∧ i ≤ n ∧ s5 = .int .i64 (i : Int) ∧ Seen us s i ∧ Mod (fun _ => False) w wr)
   case atStart => exact ⟨0, by omega, Nat.zero_le _, Nat.zero_le _, rfl, (fun x h => by simp at h), by first | exact Hm1.out | exact Mod.refl _ _⟩
   case round =>
    obtain ⟨i, hil, hic, hin', rfl, hS, hm⟩ := hrel
    have HS := Lib.hid hS; have Hil := Lib.hid hil; have Hmr := Lib.hid hm
    clear hS hil hm
    by_cases hin : i < n
    ·by_cases hic2 : i < c
     ·obtain ⟨ad, x, rfl, hx, hcx⟩ := Hs.out.at2 hin HB.out Hmr.out (fun _ _ h => h)
      have Hx := Lib.hid hx
      have hxl := Lib.hid (Hu.out x (List.mem_of_getElem? hx))
      clear hx
      go_upto_region 6 with (first | (go_at_call 69; refine (numbers_is k c _ hk Hc.out).mono ?_; rintro e w2 ⟨rfl, hm2⟩; have Hm2 := Lib.hid hm2; clear hm2))
      have hX : ∀ W, Mod (fun _ => False) w2 W → W.cell? (ad.add i) = some (.int .u64 (x : Int)) := fun W hW => ((Hm2.out.trans hW (fun _ _ h => h)).cell (by rw [add_block]; exact World.block_lt_of_cell? _ _ hcx |> fun h => by rwa [add_block] at h) (fun h => h)).trans hcx
      have HX := Lib.hid hX
      have hsw : IntKind.u64.wrap (s : Int) = (s : Int) := by rw [IntKind.wrap_u64]; omega
      have hi0 : (0 : Int) ≤ (i : Int) := by omega
      have hi1 : (i : Int) < (n : Int) := by omega
      clear hX hcx
      by_cases hq : x < 2 ^ s
      ·have hqb : ((x : Int) / 2 ^ s != 0) = false := div_nought hq
       have Hq := Lib.hid hq
       clear hq
       go_region_held_law (fun w' => w'.cell? (ad.add i) = some (.int .u64 (x : Int))) (first | exact HX.out _ S5.out | exact HX.out _ (Mod.refl _ _).drew)
        (first | (go_at_call 70; refine (bits_is k s _ hk Hss.out).mono ?_; rintro e w5 ⟨rfl, hm5⟩; have S5 : Hid (Mod (fun _ => False) w2 w5) := Lib.hid (((Mod.refl _ _).drew).trans hm5 (fun _ _ h => h)); clear hm5))
       go_wp2_with fail
       go_roundg (gk - 1)
       case measure => have := Hil.out; omega
       case rel => exact ⟨i + 1, by have := Hil.out; omega, by omega, by omega, by go_num, HS.out.more Hx.out Hq.out, (Hmr.out.trans Hm2.out (fun _ _ h => h)).trans S5.out (fun _ _ h => h)⟩
      ·have hqb : ((x : Int) / 2 ^ s != 0) = true := div_some hq
       have Hq := Lib.hid hq
       clear hq
       go_region_held_law (fun w' => w'.cell? (ad.add i) = some (.int .u64 (x : Int))) (first | exact HX.out _ S5.out | exact HX.out _ (Mod.refl _ _).drew)
        (first | (go_at_call 70; refine (bits_is k s _ hk Hss.out).mono ?_; rintro e w5 ⟨rfl, hm5⟩; have S5 : Hid (Mod (fun _ => False) w2 w5) := Lib.hid (((Mod.refl _ _).drew).trans hm5 (fun _ _ h => h)); clear hm5))
       go_wp2_with fail
       go_ret
       exact ⟨ret_bool (by rw [fitsK_no (by rw [Hc.out]; exact hic2) Hx.out (by rw [Hss.out]; exact Hq.out)]), (Hmr.out.trans Hm2.out (fun _ _ h => h)).trans S5.out (fun _ _ h => h)⟩
     ·go_wp2_with (first | (go_at_call 69; refine (numbers_is k c _ hk Hc.out).mono ?_; rintro e w2 ⟨rfl, hm2⟩; have Hm2 := Lib.hid hm2; clear hm2))
      go_ret
      refine ⟨ret_bool ?_, Hmr.out.trans Hm2.out (fun _ _ h => h)⟩
      rw [fitsK_yes (by rw [Hul.out, Hc.out]; exact Hfew.out)]
      intro x hx
      rw [Hss.out]
      rw [Hc.out] at hx
      refine HS.out x ?_
      rw [show i = c by omega]
      exact hx
    ·go_wp2_with fail
     go_ret
     refine ⟨ret_bool ?_, Hmr.out⟩
     rw [fitsK_yes (by rw [Hul.out, Hc.out]; exact Hfew.out)]
     intro x hx
     rw [Hss.out]
     refine HS.out x ?_
     rw [List.take_of_length_le (by rw [Hul.out]; omega)]
     exact List.mem_of_mem_take hx
end Go.Proofs.YtmeilddngohccaaGreatDoor

/- Rows of small numbers are told: the document's Simple. -/
namespace Go.Proofs.YtmeilddngohccaaGreatDoor
open Go.RowKit

theorem fits_is (A : Option Addr) (n cap B k : Nat) (us : List Nat) (w : World) (b : Bool) (hs : Rds w B A n (cellsU us)) (hB : B ≤ w.heap.size) (hu : ∀ x ∈ us, x < 2 ^ 64) (hk : k < 16) (hn : n ≤ 1000000) (hb : fitsK us k = b) :
  Calls Tryz.prog 95 #[.slice A n cap, .int .i64 (k : Int)] w fun e w' => e = .returned (.bool b) ∧ Mod (fun _ => False) w w' := by
 subst hb
 exact fits_any A n cap B k us w hs hB hu hk hn
set_option maxHeartbeats 4000000 in
set_option maxRecDepth 100000 in
theorem simple_any (A : Option Addr) (n cap B : Nat) (us : List Nat) (w : World) (hs : Rds w B A n (cellsU us)) (hB : B ≤ w.heap.size) (hu : ∀ x ∈ us, x < 2 ^ 64) (hn : n ≤ 1000000) (hcap : n ≤ cap) :
  Calls Tryz.prog 71 #[.slice A n cap] w fun e w' => EncE w w' (encS us) e := by
 have hul : us.length = n := by have := hs.1; rwa [cellsU_length] at this
 have H0 : Hid (EncTo w w us 0 (.slice none 0 0)) := Lib.hid ⟨[], Own.nil _ _ _, Nat.zero_le _, by rw [List.drop_zero]; cases encS us <;> rfl, Mod.refl _ _⟩
 have Hs := Lib.hid hs; have Hu := Lib.hid hu; have HB := Lib.hid hB; have Hul := Lib.hid hul
 clear hs hu hB hul
 go_enter Tryz.func71, Tryz.ntmps71
 go_wp2_with fail
 go_loopg [4, 5] n (fun l s4 s5 wr => ∃ i : Nat, i + l = n ∧ s5 = .int .i64 (i : Int) ∧ EncTo w wr us i s4)
 case atStart => exact ⟨0, by omega, rfl, H0.out⟩
 case round =>
  obtain ⟨i, hil, rfl, hE⟩ := hrel
  have Hil := Lib.hid hil; have HE := Lib.hid hE
  clear hil hE H0
  by_cases hin : i < n
  ·obtain ⟨done, hown, hdl, henc, hm⟩ := HE.out
   have Hm := Lib.hid hm; have Hown := Lib.hid hown; have Hdl := Lib.hid hdl; have Henc := Lib.hid henc
   clear hm hown hdl henc
   have hi0 : (0 : Int) ≤ (i : Int) := by omega
   obtain ⟨A2, hA2⟩ : ∃ A2, (if cap = i then A else A.map (·.add i)) = A2 := ⟨_, rfl⟩
   have Hr2 : Hid (Rds w B A2 (n - i) (cellsU (us.drop i))) := Lib.hid (by
    have h := Hs.out.drop (Nat.le_of_lt hin) hcap
    rw [hA2, show (cellsU us).drop i = cellsU (us.drop i) by simp [cellsU, ← List.map_drop]] at h
    exact h)
   have Hud : Hid (∀ x ∈ us.drop i, x < 2 ^ 64) := Lib.hid fun x hx => Hu.out x (List.mem_of_mem_drop hx)
   go_upto_block 2 with fail
   go_cut [6] (fun s6 wc => s6 = .int .i64 (kindOf (us.drop i) : Int) ∧ Mod (fun _ => False) wr wc)
   case first =>
    go_wp2_with fail
    go_loopg [6] 16 (fun l s6 wq => ∃ k : Nat, k + l = 16 ∧ s6 = .int .i64 (k : Int) ∧ k ≤ kindOf (us.drop i) ∧ Mod (fun _ => False) wr wq)
    case atStart => exact ⟨0, rfl, rfl, Nat.zero_le _, Mod.refl _ _⟩
    case round =>
     obtain ⟨k, hkl, rfl, hki, hm⟩ := hrel
     have Hkl := Lib.hid hkl; have Hki := Lib.hid hki; have Hmq := Lib.hid hm
     clear hkl hki hm
     by_cases hk : k < 16
     ·cases hf : fitsK (us.drop i) k with
      | true =>
       have Hf := Lib.hid hf
       clear hf
       go_wp2_with fail
       refine (fits_is A2 (n - i) (cap - i) B k (us.drop i) _ true (Hr2.out.mod (Hm.out.trans Hmq.out (fun _ _ h => h)) HB.out (fun _ _ h => h)) (Nat.le_trans HB.out (Hm.out.trans Hmq.out (fun _ _ h => h)).size) Hud.out hk (by omega) Hf.out).mono ?_
       rintro e w1 ⟨rfl, hm1⟩
       have Hm1 := Lib.hid (Hmq.out.trans hm1 (fun _ _ h => h))
       clear hm1
       go_wp2_with fail
       go_meet
       case rel => exact ⟨by rw [kind_is Hki.out Hf.out], Hm1.out⟩
      | false =>
       have Hf := Lib.hid hf
       clear hf
       go_wp2_with fail
       refine (fits_is A2 (n - i) (cap - i) B k (us.drop i) _ false (Hr2.out.mod (Hm.out.trans Hmq.out (fun _ _ h => h)) HB.out (fun _ _ h => h)) (Nat.le_trans HB.out (Hm.out.trans Hmq.out (fun _ _ h => h)).size) Hud.out hk (by omega) Hf.out).mono ?_
       rintro e w1 ⟨rfl, hm1⟩
       have Hm1 := Lib.hid (Hmq.out.trans hm1 (fun _ _ h => h))
       clear hm1
       go_wp2_with fail
       go_roundg (gk - 1)
       case measure => have := Hkl.out; omega
       case rel => exact ⟨k + 1, by have := Hkl.out; omega, by go_num, kind_more hk Hki.out Hf.out, Hm1.out⟩
     ·go_wp2_with fail
      go_meet
      case rel =>
       have hki := kindS_le (us.drop i)
       have := Hki.out
       exact ⟨by rw [show kindOf (us.drop i) = k by omega], Hmq.out⟩
   case rest =>
    obtain ⟨rfl, hmc⟩ := hcut
    have Hmc := Lib.hid (Hm.out.trans hmc (fun _ _ h => h)); have Hmrc := Lib.hid hmc
    obtain ⟨k, hk⟩ : ∃ k, k = kindOf (us.drop i) := ⟨_, rfl⟩
    rw [← hk]
    have hk16 : k ≤ 16 := by rw [hk]; exact kindS_le _
    have Hk := Lib.hid hk
    clear hmc hk hA2
    by_cases h16 : k = 16
    ·have hkb : ((k : Int) == 16) = true := by simp; omega
     have H16 := Lib.hid h16
     clear h16
     go_wp2_with fail
     go_ret2
     have hn := enc_stop (us := us) (i := i) (done := done) (by have := Hul.out; omega) Henc.out (by rw [← Hk.out]; exact H16.out)
     rw [hn]
     exact ⟨rfl, Hmc.out⟩
    ·have hkb : ((k : Int) == 16) = false := by simp; omega
     have hk15 : k < 16 := by omega
     have hnp := num_pos hk15
     obtain ⟨c, hc⟩ : ∃ c, numN k = c := ⟨_, rfl⟩
     obtain ⟨s, hs⟩ : ∃ s, bitN k = s := ⟨_, rfl⟩
     rw [hc, hs] at hnp
     have hc1 : 1 ≤ c := hnp.1
     have hc2 : c ≤ 240 := hnp.2.1
     have hs2 : s ≤ 60 := hnp.2.2.2
     obtain ⟨d, hd⟩ : ∃ d : Nat, d = n - i := ⟨_, rfl⟩
     have hdi : (n : Int) - (i : Int) = (d : Int) := by omega
     obtain ⟨m, hmm⟩ : ∃ m, min c d = m := ⟨_, rfl⟩
     have hmin := min2_is (P := Tryz.prog) (t := 3) (ty := 3) hmm
     have hm1 : 1 ≤ m := by omega
     have hmc : m ≤ c := by omega
     have hmd : i + m ≤ n := by omega
     have hk0 : (0 : Int) ≤ (k : Int) := by omega
     have hkk : (k : Int) < 16 := by omega
     have Hc := Lib.hid hc; have Hss := Lib.hid hs; have Hd := Lib.hid hd; have Hmm := Lib.hid hmm
     obtain ⟨T, hT⟩ : ∃ T, T = wordN k [] := ⟨_, rfl⟩
     have HT := Lib.hid hT
     have hTe : T = k * 1152921504606846976 := by rw [hT]; show k * 2 ^ 60 + 0 = _; omega
     have HTe := Lib.hid hTe
     have Hfit : Hid (∀ x ∈ (us.drop i).take m, x < 2 ^ bitN k) := Lib.hid (by
      have h := fitsK_all (kind_fits (u := us.drop i) (by rw [← Hk.out]; exact hk15))
      rw [← Hk.out] at h
      intro x hx
      refine h x ?_
      have e : ((us.drop i).take (numN k)).take m = (us.drop i).take m := by rw [List.take_take]; congr 1; omega
      rw [← e] at hx
      exact List.mem_of_mem_take hx)
     clear hc hs hd hmm hT hTe hnp h16
     go_wp2_with fail
     refine (numbers_is k c _ hk15 Hc.out).mono ?_
     rintro e w1 ⟨rfl, hmw1⟩
     have Hm1 := Lib.hid (Hmc.out.trans hmw1 (fun _ _ h => h)); have Hmr1 := Lib.hid (Hmrc.out.trans hmw1 (fun _ _ h => h))
     clear hmw1
     go_wp2_with fail
     clear hmin hdi
     obtain ⟨go, rfl⟩ : ∃ go : Nat, go = gk := ⟨_, rfl⟩
     go_loopg [7, 9] m (fun l s7 s9 wq => ∃ (j a : Nat), j + l = m ∧ s9 = .int .i64 (j : Int) ∧ s7 = .int .u64 (a : Int) ∧ a = wordN k (((us.drop i).take m).take j) ∧ Mod (fun _ => False) w1 wq)
     case atStart => exact ⟨0, T, by omega, rfl, by rw [HTe.out]; go_num, HT.out, Mod.refl _ _⟩
     case round =>
      obtain ⟨j, a, hjl, rfl, rfl, ha, hm⟩ := hrel
      have Hjl := Lib.hid hjl; have Ha := Lib.hid ha; have Hmq := Lib.hid hm
      clear hjl ha hm
      by_cases hjm : j < m
      ·have hmwq := Hm1.out.trans Hmq.out (fun _ _ h => h)
       obtain ⟨pp, hpp⟩ : ∃ pp, pp = i + j := ⟨_, rfl⟩
       obtain ⟨ad, x, rfl, hx, hcx⟩ := Hs.out.at2 (i := pp) (by omega) HB.out hmwq (fun _ _ h => h)
       have hx2 : ((us.drop i).take m)[j]? = some x := by rw [List.getElem?_take, if_pos hjm, List.getElem?_drop, ← hpp]; exact hx
       obtain ⟨hq60, hb, hor, hale⟩ := pack_step hk15 (by rw [Hc.out]; omega) hx2 Hfit.out
       rw [Hss.out] at hq60 hb hor
       rw [← Ha.out] at hor hale
       obtain ⟨q, hq⟩ : ∃ q, q = j * s := ⟨_, rfl⟩
       rw [← hq] at hq60 hb hor
       obtain ⟨b, hbe⟩ : ∃ b, b = x * 2 ^ q := ⟨_, rfl⟩
       rw [← hbe] at hb hor
       obtain ⟨a2, ha2⟩ : ∃ a2, a2 = wordN k (((us.drop i).take m).take (j + 1)) := ⟨_, rfl⟩
       rw [← ha2] at hor
       have Ha2 := Lib.hid ha2
       have hpi : IntKind.i64.wrap ((i : Int) + (j : Int)) = (pp : Int) := by rw [IntKind.wrap_i64]; omega
       have hp0 : (0 : Int) ≤ (pp : Int) := by omega
       have hpn : (pp : Int) < (n : Int) := by omega
       have hqi : IntKind.i64.wrap ((j : Int) * (s : Int)) = (q : Int) := by
        have e : (j : Int) * (s : Int) = (q : Int) := by rw [hq]; simp
        rw [e, IntKind.wrap_i64]
        omega
       have hqu : IntKind.u64.wrap (q : Int) = (q : Int) := by rw [IntKind.wrap_u64]; omega
       have hbi : IntKind.u64.wrap ((x : Int) * 2 ^ q) = (b : Int) := by
        have e : (x : Int) * 2 ^ q = (b : Int) := by rw [hbe]; simp
        rw [e, IntKind.wrap_u64]
        omega
       have hX : ∀ W, Mod (fun _ => False) wr W → W.cell? (ad.add pp) = some (.int .u64 (x : Int)) := fun W hW => (hW.cell (World.block_lt_of_cell? _ _ hcx) (fun h => h)).trans hcx
       have HX := Lib.hid hX
       clear hx hx2 hpp hq hbe ha2 hX hcx hmwq hb hale
       go_upto_region 14 with fail
       go_region_held_law (fun w' => w'.cell? (ad.add pp) = some (.int .u64 (x : Int))) (first | exact HX.out _ S5.out | exact HX.out _ (Mod.refl _ _).drew)
        (first | (go_at_call 70; refine (bits_is k s _ hk15 Hss.out).mono ?_; rintro e w5 ⟨rfl, hm5⟩; have S5 : Hid (Mod (fun _ => False) wr w5) := Lib.hid (((Mod.refl _ _).drew).trans hm5 (fun _ _ h => h)); clear hm5))
       go_wp2_with fail
       go_roundg (gk - 1)
       case measure => have := Hjl.out; omega
       case rel => exact ⟨j + 1, a2, by have := Hjl.out; omega, by go_num, rfl, Ha2.out, Hmq.out.trans S5.out (fun _ _ h => h)⟩
      ·have hj : j = m := by have := Hjl.out; omega
       have hmw := Hm1.out.trans Hmq.out (fun _ _ h => h)
       have Hown1 := Lib.hid ((Hmr1.out.trans Hmq.out (fun _ _ h => h)).owns Hown.out (fun _ _ h => h))
       have hr1 : (cellsU done).length + 1 ≤ maxLen := by rw [cellsU_length]; unfold maxLen; have := Hdl.out; omega
       have hr2 : ((cellsU done).length + 1) * 8 ≤ 140737488355328 := by rw [cellsU_length]; have := Hdl.out; omega
       have hsz : w.heap.size ≤ wr.heap.size := hmw.size
       have Hmw := Lib.hid hmw
       have hae : a = wordN k ((us.drop i).take m) := by rw [Ha.out, List.take_of_length_le (by rw [List.length_take]; omega)]
       have Hae := Lib.hid hae
       have Hgo : Hid (i + go = n) := Lib.hid Hil.out
       clear hj hmw hae
       go_wp2_with (at_builtin; refine wpList_app1 rfl (.tmp 57) (.tmp 59) _ rfl eltU rfl Hown1.out rfl rfl rfl hr1 hr2 hsz ?_; intro v' w2 HO HBl)
       have hmin2 : min (numN k) (us.length - i) = m := by have := Hmm.out; have := Hc.out; have := Hul.out; have := Hd.out; omega
       have hst := enc_step (us := us) (i := i) (k := k) (done := done) (by have := Hul.out; omega) Henc.out Hk.out.symm hk15
       rw [hmin2, ← Hae.out] at hst
       have HE2 : Hid (EncTo w w2 us (i + m) v') := Lib.hid ⟨done ++ [a], by rw [cellsU_snoc]; exact HO.out, by rw [List.length_append, List.length_singleton]; have := Hdl.out; omega, hst, Hmw.out.trans (Mod.of_below HBl.out) (fun i hi h => by omega)⟩
       clear hst hmin2
       go_wp2_with fail
       go_roundg (go - m)
       case measure => have := Hgo.out; omega
       case rel => exact ⟨i + m, by have := Hgo.out; omega, by go_num, HE2.out⟩
  ·go_wp2_with fail
   go_ret2
   obtain ⟨done, hown, hdl, henc, hm⟩ := HE.out
   have e : encS us = some done := by
    rw [henc, List.drop_of_length_le (by have := Hul.out; have := Hil.out; omega), encS_nil]
    simp
   rw [e]
   exact ⟨_, rfl, hown, hm⟩
end Go.Proofs.YtmeilddngohccaaGreatDoor

/- The document's own answer: a row of values is told by its runs. -/
namespace Go.Proofs.YtmeilddngohccaaGreatDoor
open Go.RowKit

set_option maxHeartbeats 1000000 in
set_option maxRecDepth 100000 in
theorem lrenc_any (A : Option Addr) (n cap B : Nat) (us : List Nat) (w : World) (hs : Rds w B A n (cellsU us)) (hB : B ≤ w.heap.size) (hu : ∀ x ∈ us, x < 2 ^ 64) (hn : n ≤ 1000000) :
  Calls Tryz.prog 78 #[.slice A n cap] w fun e w' => ∃ v, e = .returned v ∧ Own w.heap.size w' 5 v (cells8 (encR us)) ∧ Mod (fun _ => False) w w' := by
 have hul : us.length = n := by have := hs.1; rwa [cellsU_length] at this
 have H0 : Hid (LencTo w w us 0 (.slice none 0 0)) := Lib.hid ⟨[], Own.nil _ _ _, by rw [List.drop_zero]; rfl, Nat.zero_le _, Mod.refl _ _⟩
 have Hs := Lib.hid hs; have Hu := Lib.hid hu; have HB := Lib.hid hB; have Hul := Lib.hid hul
 clear hs hu hB hul
 go_enter Tryz.func78, Tryz.ntmps78
 go_wp2_with fail
 go_loopg [3, 4] n (fun l s3 s4 wr => ∃ i : Nat, i + l = n ∧ s4 = .int .i64 (i : Int) ∧ LencTo w wr us i s3)
 case atStart => exact ⟨0, by omega, rfl, H0.out⟩
 case round =>
  obtain ⟨i, hil, rfl, hE⟩ := hrel
  obtain ⟨done, hown, henc, hdl, hm⟩ := hE
  obtain ⟨Ao, Lo, co, rfl, HLo, _, _, hro⟩ := own_formN8 hown
  have Hil := Lib.hid hil; have Hm := Lib.hid hm; have Hown := Lib.hid hown; have Hdl := Lib.hid hdl; have Henc := Lib.hid henc; have Hro := Lib.hid hro
  have hBr : Hid (B ≤ wr.heap.size) := Lib.hid (Nat.le_trans HB.out hm.size)
  clear hil H0 hm hown hdl henc hro
  by_cases hin : i < n
  ·obtain ⟨ad, x, rfl, hx, hcx⟩ := Hs.out.at2 hin HB.out Hm.out (fun _ _ h => h)
   have hx64 : Lt64 x := by
    have h := Hu.out x (List.mem_of_getElem? hx)
    unfold Lt64
    omega
   have Hx := Lib.hid hx; have Hx64 := Lib.hid hx64
   have hX : ∀ W, Mod (fun _ => False) wr W → W.cell? (ad.add i) = some (.int .u64 (x : Int)) := fun W hW => (hW.cell (World.block_lt_of_cell? _ _ hcx) (fun h => h)).trans hcx
   have HX := Lib.hid hX
   have hi0 : (0 : Int) ≤ (i : Int) := by omega
   have hini : (i : Int) < (n : Int) := by omega
   clear hx hx64 hX hcx
   go_wp2_with fail
   obtain ⟨go, rfl⟩ : ∃ go : Nat, go = gk := ⟨_, rfl⟩
   obtain ⟨wo, rfl⟩ : ∃ wo : World, wo = wr := ⟨_, rfl⟩
   go_loopg [5] (n - i) (fun l s5 wi => ∃ k : Nat, k + l = n ∧ i ≤ k ∧ s5 = .int .i64 (k : Int) ∧ (∀ j, j < k - i → (us.drop i)[j]? = some x) ∧ Mod (fun _ => False) wo wi)
   case atStart => exact ⟨i, by omega, Nat.le_refl _, rfl, (fun j hj => by omega), Mod.refl _ _⟩
   case round =>
    obtain ⟨k, hkl, hik, rfl, hall, hm⟩ := hrel
    have Hkl := Lib.hid hkl; have Hall := Lib.hid hall; have Hmi := Lib.hid hm
    have hcx := HX.out _ hm
    have hk0 : (0 : Int) ≤ (k : Int) := by omega
    clear hkl hall hm
    by_cases hgo : k < n ∧ us[k]? = some x
    ·obtain ⟨hkn, hy⟩ := hgo
     obtain ⟨ad2, y, hA2, hy2, hcy⟩ := Hs.out.at2 hkn HB.out (Hm.out.trans Hmi.out (fun _ _ h => h)) (fun _ _ h => h)
     injection hA2 with hA2
     subst hA2
     obtain rfl : y = x := by rw [hy2] at hy; injection hy
     have Hy := Lib.hid hy
     have hkni : (k : Int) < (n : Int) := by omega
     clear hy hy2
     go_upto_region 5 with fail
     go_quiet (fail)
     go_wp2_with fail
     go_roundg (gk - 1)
     case measure => have := Hkl.out; omega
     case rel => exact ⟨k + 1, by have := Hkl.out; omega, by omega, by go_num, (fun j hj => by
      rcases Nat.lt_or_ge j (k - i) with h | h
      ·exact Hall.out j h
      ·rw [List.getElem?_drop, show i + j = k by omega]
       exact Hy.out), Hmi.out.drewN _⟩
    ·have hlead : lead x (us.drop i) = k - i := lead_is Hall.out (fun y hy => by
      rw [List.getElem?_drop, show i + (k - i) = k by omega] at hy
      rintro rfl
      exact hgo ⟨by have := (List.getElem?_eq_some_iff.1 hy).1; have := Hul.out; omega, hy⟩)
     have hx0 : (us.drop i)[0]? = some x := by rw [List.getElem?_drop]; exact Hx.out
     have hlp : 1 ≤ lead x (us.drop i) := by
      cases hd : us.drop i with
      | nil => rw [hd] at hx0; cases hx0
      | cons y ys => rw [hd] at hx0; injection hx0 with hx0; subst hx0; exact lead_pos _ _
     have hst := lenc_step hx0 Henc.out
     obtain ⟨m, hmk⟩ : ∃ m, m = k - i := ⟨_, rfl⟩
     rw [hlead, ← hmk] at hst hlp
     rw [show i + m = k by omega] at hst
     have hkn1 : k ≤ n := by have := Hkl.out; omega
     have hmi : (k : Int) - (i : Int) = (m : Int) := by omega
     have hwm : IntKind.u64.wrap (m : Int) = (m : Int) := by rw [IntKind.wrap_u64]; omega
     have hwi : IntKind.i64.wrap (m : Int) = (m : Int) := by rw [IntKind.wrap_i64]; omega
     have hm64 : Lt64 m := by unfold Lt64; omega
     have hd9 : done.length ≤ 1000000000 := by have := Hdl.out; omega
     have hq10 := enc_len10 hm64.out
     have hq10' := enc_len10 Hx64.out.out
     have hda : (done ++ enc m).length ≤ 1000000000 := by rw [List.length_append]; have := Hdl.out; omega
     have hways : k = n ∨ (k < n ∧ us[k]? ≠ some x) := by
      rcases Nat.lt_or_ge k n with h | h
      ·exact Or.inr ⟨h, fun e => hgo ⟨h, e⟩⟩
      ·exact Or.inl (by omega)
     have Hst := Lib.hid hst; have Hm64 := Lib.hid hm64; have Hd9 := Lib.hid hd9; have Hda := Lib.hid hda; have Hmk := Lib.hid hmk; have Hq := Lib.hid hq10; have Hq' := Lib.hid hq10'
     clear hlead hx0 hst hm64 hd9 hda hgo hmk hq10 hq10'
     rcases hways with hkn | ⟨hkn, hne⟩
     ·have hknb : ¬ k < n := by omega
      have Hkn := Lib.hid hkn
      clear hkn
      go_upto_region 5 with fail
      go_quiet (fail)
      go_upto_region 7 with fail
      go_region_held_law (fun w' => w'.cell? (ad.add i) = some (.int .u64 (x : Int))) (first | (with_reducible exact HX.out _ S6.out) | (with_reducible exact HX.out _ S5.out) | (with_reducible exact HX.out _ ((Hmi.out.drewN _).drew)) | (with_reducible exact HX.out _ (Hmi.out.drewN _)))
       (first
        | (go_at_call 31; refine (vrput_any A5 L5 c5 w5.heap.size (done ++ enc m) x _ Hr5.out (by rw [← HL5.out]; exact Hda.out) Hx64.out).mono ?_; rintro e w6 ⟨v6, rfl, ho6, hb6⟩; have Ho6 := Lib.hid ho6; have S6 : Hid (Mod (fun _ => False) wo w6) := Lib.hid (S5.out.trans (mod_below hb6) (fun _ _ h => h)); have Hle6 := Lib.hid S5.out.size; clear ho6 hb6)
        | (go_at_call 31; refine (vrput_any Ao Lo co _ done m _ (Hro.out.new (Hmi.out.drewN _)) (by rw [← HLo.out]; exact Hd9.out) Hm64.out).mono ?_; rintro e w5 ⟨v5, rfl, ho5, hb5⟩; obtain ⟨A5, L5, c5, rfl, HL5, _, _, hr5⟩ := own_formN8 ho5; have Hr5 := Lib.hid hr5; have S5 : Hid (Mod (fun _ => False) wo w5) := Lib.hid ((Hmi.out.drewN _).trans (mod_below hb5) (fun _ _ h => h)); clear ho5 hb5 hr5))
      have HE6 : Hid (LencTo w w6 us k v6) := Lib.hid ⟨_, Ho6.out.mono (Nat.le_trans Hm.out.size Hle6.out), Hst.out, by rw [List.length_append, List.length_append]; have := Hdl.out; have := Hq.out; have := Hq'.out; omega, Hm.out.trans S6.out (fun _ _ h => h)⟩
      go_wp2_with fail
      go_roundg (go - m)
      case measure => have := Hil.out; have := Hmk.out; omega
      case rel => exact ⟨k, by have := Hil.out; have := Hmk.out; omega, by go_num, HE6.out⟩
     ·obtain ⟨ad2, y, hA2, hy, hcy⟩ := Hs.out.at2 hkn HB.out (Hm.out.trans Hmi.out (fun _ _ h => h)) (fun _ _ h => h)
      injection hA2 with hA2
      subst hA2
      have hyx : y ≠ x := fun e => hne (by rw [hy, e])
      have hyb : ((y : Int) == (x : Int)) = false := by simp; omega
      have hkni : (k : Int) < (n : Int) := by omega
      clear hy hyx hne
      go_upto_region 5 with fail
      go_quiet (fail)
      go_upto_region 7 with fail
      go_region_held_law (fun w' => w'.cell? (ad.add i) = some (.int .u64 (x : Int))) (first | (with_reducible exact HX.out _ S6.out) | (with_reducible exact HX.out _ S5.out) | (with_reducible exact HX.out _ ((Hmi.out.drewN _).drew)) | (with_reducible exact HX.out _ (Hmi.out.drewN _)))
       (first
        | (go_at_call 31; refine (vrput_any A5 L5 c5 w5.heap.size (done ++ enc m) x _ Hr5.out (by rw [← HL5.out]; exact Hda.out) Hx64.out).mono ?_; rintro e w6 ⟨v6, rfl, ho6, hb6⟩; have Ho6 := Lib.hid ho6; have S6 : Hid (Mod (fun _ => False) wo w6) := Lib.hid (S5.out.trans (mod_below hb6) (fun _ _ h => h)); have Hle6 := Lib.hid S5.out.size; clear ho6 hb6)
        | (go_at_call 31; refine (vrput_any Ao Lo co _ done m _ (Hro.out.new (Hmi.out.drewN _)) (by rw [← HLo.out]; exact Hd9.out) Hm64.out).mono ?_; rintro e w5 ⟨v5, rfl, ho5, hb5⟩; obtain ⟨A5, L5, c5, rfl, HL5, _, _, hr5⟩ := own_formN8 ho5; have Hr5 := Lib.hid hr5; have S5 : Hid (Mod (fun _ => False) wo w5) := Lib.hid ((Hmi.out.drewN _).trans (mod_below hb5) (fun _ _ h => h)); clear ho5 hb5 hr5))
      have HE6 : Hid (LencTo w w6 us k v6) := Lib.hid ⟨_, Ho6.out.mono (Nat.le_trans Hm.out.size Hle6.out), Hst.out, by rw [List.length_append, List.length_append]; have := Hdl.out; have := Hq.out; have := Hq'.out; omega, Hm.out.trans S6.out (fun _ _ h => h)⟩
      go_wp2_with fail
      go_roundg (go - m)
      case measure => have := Hil.out; have := Hmk.out; omega
      case rel => exact ⟨k, by have := Hil.out; have := Hmk.out; omega, by go_num, HE6.out⟩
  ·go_wp2_with fail
   go_ret
   have e : encR us = done := by
    rw [Henc.out, List.drop_of_length_le (by have := Hul.out; have := Hil.out; omega), encR_nil, List.append_nil]
   rw [e]
   exact ⟨_, rfl, Hown.out, Hm.out⟩
end Go.Proofs.YtmeilddngohccaaGreatDoor

/- append of one element, with what else turns: only the row's own block. -/
namespace Go.Proofs.YtmeilddngohccaaGreatDoor
open Go.RowKit
section
variable {P : Program} {w : World}
theorem wpList_app1g {ops : Array Oper} {rest : List Oper} {o : Oper} {a : Act} {Q : Exit → Act → World → Prop} (hgd : o.guard = none) (s x : Operand) (t : TypeId)
  (ho : o.op = .call { callee := .builtin .append, args := #[s, x], argTypes := #[t, t] }) {e : TypeId} {z : Value} {bytes : Nat} (hE : Elt P t e z bytes)
  {B H : Nat} {v u : Value} {xs : List Value} {te : TypeId} (hs : a.eval s = v) (hown : Own B w e v xs) (hx : a.eval x = .slice (some ⟨H, 0, none⟩) 1 1) (hH : w.heap.size = H) (h1 : u.oneCell' = true)
  (hm : xs.length + 1 ≤ maxLen) (hb : (xs.length + 1) * bytes ≤ 140737488355328) (hB : B ≤ w.heap.size)
  (h : ∀ v' w', Hid (Own B w' e v' (xs ++ [u])) → Hid (Below B w w') → Hid (Mod (fun k => v.ownBlock = some k) w w' ∧ (v'.ownBlock = v.ownBlock ∨ ∃ k, v'.ownBlock = some k ∧ w.heap.size ≤ k)) → wpList P ops Q rest (a.put o.dst v') w') : wpList P ops Q (o :: rest) a (w.alloc (.cells #[u] te)) := by
 subst hH
 refine wpList_app hgd s x t ho hE hs (hown.alloc _) hx (Rds.lit w te #[u]) (by simpa using h1) hm hb (by simp; omega) ?_
 intro v' w' h2 h3 h4
 refine h v' w' h2 (((Below.refl B w).alloc hB _).trans h3) ⟨(((Mod.refl _ w).alloc _).grown h4.out.1 (fun k hk _ => hk)), ?_⟩
 rcases h4.out.2 with h5 | h5
 ·exact .inl h5
 ·exact .inr ⟨_, h5, by simp⟩
end
/-- Two rows of the call's own that share nothing. -/
def Twain (v u : Value) : Prop := ∀ k, v.ownBlock = some k → u.ownBlock ≠ some k
theorem Twain.symm {v u : Value} (h : Twain v u) : Twain u v := fun k hk e => h k e hk
theorem Twain.step {B : Nat} {w : World} {e : TypeId} {v v' u : Value} {xs : List Value} (h : Twain v u) (ho : Own B w e u xs) (hv : v'.ownBlock = v.ownBlock ∨ ∃ k, v'.ownBlock = some k ∧ w.heap.size ≤ k) : Twain v' u := by
 intro k hk e'
 rcases hv with h1 | ⟨j, h1, h2⟩
 ·exact h k (by rw [← h1]; exact hk) e'
 ·rw [h1] at hk
  injection hk with hk
  have := (ho.block k e').2
  omega
end Go.Proofs.YtmeilddngohccaaGreatDoor

/- The document holds a number to 0 to 65,535. -/
namespace Go.Proofs.YtmeilddngohccaaGreatDoor
open Go.RowKit

theorem rheld_any (m : Int) (N : Nat) (w : World) (hN : max 0 (min m 65535) = (N : Int)) : Calls Tryz.prog 42 #[.int .i64 m] w fun e w' => e = .returned (.int .i64 (N : Int)) ∧ w = w' := by
 obtain ⟨mx, hmx⟩ : ∃ mx : Int, max m 0 = mx := ⟨_, rfl⟩
 have hmax := maxI_is (P := Tryz.prog) (t := 3) (ty := 3) hmx
 have hmin := minI_is (P := Tryz.prog) (t := 3) (ty := 3) (n1 := mx) (n2 := 65535) (m := (N : Int)) (by omega)
 clear hmx hN
 go_enter Tryz.func42, Tryz.ntmps42
 go_wp2_with fail
 go_ret
 exact ⟨rfl, rfl⟩
end Go.Proofs.YtmeilddngohccaaGreatDoor

/- Words are read: the document's GetSimple. -/
namespace Go.Proofs.YtmeilddngohccaaGreatDoor
open Go.RowKit

theorem rdS_zero (ws : List Nat) : rdS 0 ws = [] := by
 induction ws with
 | nil => rfl
 | cons x ws ih =>
  show nums (x / 2 ^ 60) x (min (numN (x / 2 ^ 60)) 0) ++ rdS (0 - min (numN (x / 2 ^ 60)) 0) ws = []
  rw [Nat.min_zero, ih]
  rfl
/-- What the inner loop has read of a word: j numbers more. -/
def GetIn (w wq : World) (out : List Nat) (k x j : Nat) (v : Value) : Prop := Own w.heap.size wq 26 v (cellsU (out ++ nums k x j)) ∧ Mod (fun _ => False) w wq
theorem GetIn.next {w wq w2 : World} {out : List Nat} {k x j r : Nat} {v v' : Value} (h : GetIn w wq out k x j v) {w1 : World} (hm : Mod (fun _ => False) wq w1) (hr : nums k x (j + 1) = nums k x j ++ [r])
  (ho : Own w.heap.size w2 26 v' (cellsU (out ++ nums k x j) ++ [.int .u64 (r : Int)])) (hb : Below w.heap.size w1 w2) : GetIn w w2 out k x (j + 1) v' := by
 refine ⟨?_, (h.2.trans hm (fun _ _ h => h)).trans (Mod.of_below hb) (fun i hi h => by omega)⟩
 rw [hr, ← List.append_assoc, cellsU_snoc]
 exact ho
theorem GetIn.form {w wq : World} {out : List Nat} {k x j t : Nat} {v : Value} (h : GetIn w wq out k x j v) (ht : t = out.length + j) : ∃ A c, v = .slice A t c ∧ t ≤ c := by
 obtain ⟨A, c, e, hc, _⟩ := own_formU h.1
 have hl : (out ++ nums k x j).length = t := by rw [List.length_append, nums_len, ht]
 rw [hl] at e hc
 exact ⟨A, c, e, hc⟩
set_option maxHeartbeats 4000000 in
set_option maxRecDepth 100000 in
theorem gets_any (A : Option Addr) (n cap B N : Nat) (m : Int) (ws : List Nat) (w : World) (hs : Rds w B A n (cellsU ws)) (hB : B ≤ w.heap.size) (hu : ∀ x ∈ ws, x < 2 ^ 64) (hn : n ≤ 1000000) (hN : max 0 (min m 65535) = (N : Int)) :
  Calls Tryz.prog 46 #[.slice A n cap, .int .i64 m] w fun e w' => EncE w w' (decS N ws) e := by
 have hul : ws.length = n := by have := hs.1; rwa [cellsU_length] at this
 have H0 : Hid (DecTo w w ws N 0 0 (.slice none 0 0)) := Lib.hid ⟨[], Own.nil _ _ _, rfl, Nat.zero_le _, (fun _ h => by cases h), by rw [List.drop_zero]; rfl, Mod.refl _ _⟩
 have Hs := Lib.hid hs; have Hu := Lib.hid hu; have HB := Lib.hid hB; have Hul := Lib.hid hul; have HN := Lib.hid hN
 have hN65 : N ≤ 65535 := by omega
 clear hs hu hB hul hN
 go_enter Tryz.func46, Tryz.ntmps46
 go_wp2_with fail
 refine (rheld_any m N _ HN.out).mono ?_
 rintro e w0 ⟨rfl, rfl⟩
 go_wp2_with fail
 go_loopg [6, 7] n (fun l s6 s7 wr => ∃ (i L : Nat) (Av : Option Addr) (cv : Nat), i + l = n ∧ s7 = .int .i64 (i : Int) ∧ s6 = .slice Av L cv ∧ L ≤ cv ∧ DecTo w wr ws N i L (.slice Av L cv))
 case atStart => exact ⟨0, 0, none, 0, by omega, rfl, rfl, Nat.le_refl _, H0.out⟩
 case round =>
  obtain ⟨i, L, Av, cv, hil, rfl, rfl, hLc, hD⟩ := hrel
  have HD := Lib.hid hD; have Hil := Lib.hid hil
  clear hD hil H0
  obtain ⟨out, hown, hol, hLN, ho60, hrd, hm⟩ := HD.out
  have Hown := Lib.hid hown; have Hol := Lib.hid hol; have Ho60 := Lib.hid ho60; have Hrd := Lib.hid hrd; have Hm := Lib.hid hm
  clear hown hol ho60 hrd hm
  by_cases hgo : i < n ∧ L < N
  ·obtain ⟨hin, hLl⟩ := hgo
   obtain ⟨ad, x, rfl, hx, hcx⟩ := Hs.out.at2 hin HB.out Hm.out (fun _ _ h => h)
   have Hx := Lib.hid hx
   have hxl := Lib.hid (Hu.out x (List.mem_of_getElem? hx))
   obtain ⟨k, hk⟩ : ∃ k, x / 2 ^ 60 = k := ⟨_, rfl⟩
   have hk16 : k < 16 := by have := hxl.out; omega
   have hx60 : (x : Int) / 1152921504606846976 = (k : Int) := by omega
   have Hk := Lib.hid hk
   obtain ⟨c, hc⟩ : ∃ c, numN k = c := ⟨_, rfl⟩
   obtain ⟨s, hs⟩ : ∃ s, bitN k = s := ⟨_, rfl⟩
   have hnp := num_pos hk16
   rw [hc, hs] at hnp
   have hc2 : c ≤ 240 := hnp.2.1
   have hs2 : s ≤ 60 := hnp.2.2.2
   obtain ⟨q, hq⟩ : ∃ q, q = min c (N - L) := ⟨_, rfl⟩
   have Hc := Lib.hid hc; have Hss := Lib.hid hs; have Hq := Lib.hid hq
   have hi0 : (0 : Int) ≤ (i : Int) := by omega
   have hi1 : (i : Int) < (n : Int) := by omega
   have hk0 : (0 : Int) ≤ (k : Int) := by omega
   have hkk : (k : Int) < 16 := by omega
   have hadb : ad.block < w.heap.size := by
    obtain ⟨ad', _, e, hb, _, _⟩ := Hs.out.at_ hin
    injection e with e
    subst e
    have := HB.out
    omega
   have HX : Hid (∀ W, Below w.heap.size wr W → W.cell? (ad.add i) = some (.int .u64 (x : Int))) := Lib.hid fun W hW => (hW.cell (p := ad.add i) (by rw [add_block]; exact hadb)).trans hcx
   have HG0 : Hid (GetIn w wr out k x 0 (.slice Av L cv)) := Lib.hid ⟨by rw [show nums k x 0 = [] from rfl, List.append_nil]; exact Hown.out, Hm.out⟩
   have hst := dec_step Hx.out Hrd.out
   rw [Hk.out, Hc.out, ← Hq.out] at hst
   have Hst := Lib.hid hst
   clear hx hk hc hs hq hnp hst
   go_wp2_with fail
   clear hcx hx60
   obtain ⟨go, rfl⟩ : ∃ go : Nat, go = gk := ⟨_, rfl⟩
   have Hgo : Hid (i + go = n) := Lib.hid Hil.out
   go_loopg [6, 9] q (fun l s6 s9 wq => ∃ (j t : Nat) (Aj : Option Addr) (cj : Nat), j + l = q ∧ t = L + j ∧ s9 = .int .i64 (j : Int) ∧ s6 = .slice Aj t cj ∧ t ≤ cj ∧ GetIn w wq out k x j (.slice Aj t cj) ∧ Below w.heap.size wr wq)
   case atStart => exact ⟨0, L, Av, cv, by omega, rfl, rfl, rfl, hLc, HG0.out, Below.refl _ _⟩
   case round =>
    obtain ⟨j, t, Aj, cj, hjl, ht, rfl, rfl, htc, hG, hmq⟩ := hrel
    have Hjl := Lib.hid hjl; have Ht := Lib.hid ht; have HG := Lib.hid hG; have Hmq := Lib.hid hmq
    have htN : t ≤ N := by have := Hq.out; omega
    by_cases hjq : j < q
    ·have hjc : j < c := by have := Hq.out; omega
     have htl : t < N := by have := Hq.out; omega
     have Hog : Hid (out.length + j = t) := Lib.hid (by rw [Hol.out]; omega)
     have hr1 : (cellsU (out ++ nums k x j)).length + 1 ≤ maxLen := by rw [cellsU_length, List.length_append, nums_len, Hog.out]; unfold maxLen; omega
     have hr2 : ((cellsU (out ++ nums k x j)).length + 1) * 8 ≤ 140737488355328 := by rw [cellsU_length, List.length_append, nums_len, Hog.out]; omega
     clear hjl ht hG hmq
     obtain ⟨p, y, qq, mk, r, hp, hp60, hy, hqq, hmk, hq1, hq60, hy64, hr, hand⟩ := unpack_one (k := k) (w := x) (i := j) hk16 hxl.out (by rw [Hc.out]; exact hjc)
     rw [Hss.out] at hp hqq
     have Hsn : Hid (nums k x (j + 1) = nums k x j ++ [r]) := Lib.hid (by rw [nums_snoc, hr])
     have Hjq := Lib.hid hjq; have HtN := Lib.hid htN
     clear hjq htN
     by_cases hs0 : s = 0
     ·have hr0 : r = 0 := by rw [hr, Hss.out, if_pos hs0]
      subst hr0
      have Hs0 := Lib.hid hs0
      have hsg : ¬ 0 < s := by omega
      clear hs0 hp hp60 hy hqq hmk hq1 hq60 hy64 hr hand
      go_wp2_with fail
      refine (numbers_is k c _ hk16 Hc.out).mono ?_
      rintro e w1 ⟨rfl, hm1⟩
      have Hm1 := Lib.hid hm1
      clear hm1
      go_wp2_with fail
      refine (bits_is k s _ hk16 Hss.out).mono ?_
      rintro e w2 ⟨rfl, hm2⟩
      have Hm2 := Lib.hid (Hm1.out.trans hm2 (fun _ _ h => h))
      clear hm2
      have Hown1 := Lib.hid (Hm2.out.owns HG.out.1 (fun _ _ h => h))
      have hsz : w.heap.size ≤ w2.heap.size := (HG.out.2.trans Hm2.out (fun _ _ h => h)).size
      go_wp2_with (at_builtin; refine wpList_app1 rfl (.tmp 64) (.tmp 66) _ rfl eltU rfl Hown1.out rfl rfl rfl hr1 hr2 hsz ?_; intro v' w3 HO HBl)
      have HG3 := Lib.hid (GetIn.next HG.out Hm2.out Hsn.out HO.out HBl.out)
      obtain ⟨A3, c3, rfl, hc3⟩ := HG3.out.form (t := t + 1) (by have := Hog.out; omega)
      have Hc3 := Lib.hid hc3
      have Hm3 := Lib.hid ((Hmq.out.trans (Hm2.out.below HG.out.2.size (fun _ h => h.elim))).trans HBl.out)
      clear hc3
      go_roundg (gk - 1)
      case measure => have := Hjl.out; have := Hjq.out; omega
      case rel => exact ⟨j + 1, t + 1, A3, c3, by have := Hjl.out; have := Hjq.out; omega, by have := Ht.out; omega, by go_num, rfl, Hc3.out, HG3.out, Hm3.out⟩
     ·have hsg : 0 < s := by omega
      have hpi : IntKind.i64.wrap ((j : Int) * (s : Int)) = (p : Int) := by
       have e : (j : Int) * (s : Int) = (p : Int) := by rw [hp]; simp
       rw [e, IntKind.wrap_i64]
       omega
      have hpu : IntKind.u64.wrap (p : Int) = (p : Int) := by rw [IntKind.wrap_u64]; omega
      have hsu : IntKind.u64.wrap (s : Int) = (s : Int) := by rw [IntKind.wrap_u64]; omega
      have hyi : (x : Int) / 2 ^ p = (y : Int) := by rw [hy, Int.natCast_ediv]; simp
      have hqi : IntKind.u64.wrap ((2 : Int) ^ s) = (qq : Int) := by
       have e : (2 : Int) ^ s = (qq : Int) := by rw [hqq]; simp
       rw [e, IntKind.wrap_u64]
       omega
      have hmi : IntKind.u64.wrap ((qq : Int) - 1) = (mk : Int) := by rw [IntKind.wrap_u64]; omega
      clear hs0 hp hy hqq hmk hq60 hy64 hr hq1
      go_wp2_with fail
      refine (numbers_is k c _ hk16 Hc.out).mono ?_
      rintro e w1 ⟨rfl, hm1⟩
      have Hm1 := Lib.hid hm1
      clear hm1
      go_wp2_with fail
      refine (bits_is k s _ hk16 Hss.out).mono ?_
      rintro e w2 ⟨rfl, hm2⟩
      have Hm2 := Lib.hid (Hm1.out.trans hm2 (fun _ _ h => h))
      have HX2 : Hid (∀ W, Mod (fun _ => False) w2 W → W.cell? (ad.add i) = some (.int .u64 (x : Int))) := Lib.hid fun W hW => HX.out W (Hmq.out.trans ((Hm2.out.trans hW (fun _ _ h => h)).below HG.out.2.size (fun _ h => h.elim)))
      clear hm2
      go_upto_region 12 with fail
      go_region_held_law (fun w' => w'.cell? (ad.add i) = some (.int .u64 (x : Int))) (first | exact HX2.out _ S5.out | exact HX2.out _ (Mod.refl _ _).drew)
       (first | (go_at_call 70; refine (bits_is k s _ hk16 Hss.out).mono ?_; rintro e w5 ⟨rfl, hm5⟩; have S5 : Hid (Mod (fun _ => False) w2 w5) := Lib.hid (Mod.trans (by first | exact S5.out | exact (Mod.refl _ _).drew) hm5 (fun _ _ h => h)); clear hm5))
      all_goals
       have Hm5 := Lib.hid (Hm2.out.trans S5.out (fun _ _ h => h))
       have Hown1 := Lib.hid (Hm5.out.owns HG.out.1 (fun _ _ h => h))
       have hsz := (HG.out.2.trans Hm5.out (fun _ _ h => h)).size
       go_wp2_with (at_builtin; refine wpList_app1 rfl (.tmp 64) (.tmp 66) _ rfl eltU rfl Hown1.out rfl rfl rfl hr1 hr2 hsz ?_; intro v' w3 HO HBl)
       have HG3 := Lib.hid (GetIn.next HG.out Hm5.out Hsn.out HO.out HBl.out)
       obtain ⟨A3, c3, rfl, hc3⟩ := HG3.out.form (t := t + 1) (by have := Hog.out; omega)
       have Hc3 := Lib.hid hc3
       have Hm3 := Lib.hid ((Hmq.out.trans (Hm5.out.below HG.out.2.size (fun _ h => h.elim))).trans HBl.out)
       clear hc3
       go_roundg (gk - 1)
       case measure => have := Hjl.out; have := Hjq.out; omega
       case rel => exact ⟨j + 1, t + 1, A3, c3, by have := Hjl.out; have := Hjq.out; omega, by have := Ht.out; omega, by go_num, rfl, Hc3.out, HG3.out, Hm3.out⟩
    ·have hjq2 : j = q := by omega
     have Hl3 : Hid ((out ++ nums k x j).length = t) := Lib.hid (by rw [List.length_append, nums_len, Hol.out, ht])
     have Hlt := Lib.hid (nums_lt (k := k) (w := x) (m := j) hk16)
     have HD2 : Hid (∀ W, Mod (fun _ => False) wr W → DecTo w W ws N (i + 1) t (.slice Aj t cj)) := Lib.hid (fun W hW => ⟨out ++ nums k x j, hW.owns HG.out.1 (fun _ _ h => h), Hl3.out, htN, (fun y hy => by
      rcases List.mem_append.1 hy with hy | hy
      ·exact Ho60.out y hy
      ·exact Hlt.out y hy), by
       have h := Hst.out
       rw [← hjq2, ← ht] at h
       exact h, HG.out.2.trans hW (fun _ _ h => h)⟩)
     have hjt : (j < c ∧ ¬ t < N) ∨ ¬ j < c := by
      by_cases h : j < c
      ·exact .inl ⟨h, by have := Hq.out; omega⟩
      ·exact .inr h
     clear hjl ht hG hmq hjq2 hjq
     rcases hjt with ⟨hjc, htn⟩ | hjc
     all_goals
      go_wp2_with fail
      refine (numbers_is k c _ hk16 Hc.out).mono ?_
      rintro e w1 ⟨rfl, hm1⟩
      have HD3 := Lib.hid (HD2.out _ hm1)
      clear hm1
      go_wp2_with fail
      go_roundg (go - 1)
      case measure => have := Hgo.out; omega
      case rel => exact ⟨i + 1, t, Aj, cj, by have := Hgo.out; omega, by go_num, rfl, htc, HD3.out⟩
  ·have hrw : rdS N ws = out := by
    have h := Hrd.out
    by_cases hin : i < n
    ·rw [show N - L = 0 by omega, rdS_zero, List.append_nil] at h
     exact h
    ·rw [List.drop_of_length_le (by have := Hul.out; omega)] at h
     rw [h]
     show out ++ [] = out
     simp
   obtain ⟨told, htold⟩ := encS_can _ out rfl Ho60.out
   obtain ⟨htl, ht64⟩ := encS_len _ out told rfl htold
   have Hrw := Lib.hid hrw; have Htold := Lib.hid htold; have Htl := Lib.hid htl
   have Ho64 : Hid (∀ x ∈ out, x < 2 ^ 64) := Lib.hid fun x hx => Nat.lt_of_lt_of_le (Ho60.out x hx) (Nat.pow_le_pow_right (by omega) (by omega))
   have Hro : Hid (Rds wr wr.heap.size Av L (cellsU out)) := Lib.hid (Hown.out.rds Hol.out)
   have hways : (¬ i < n ∧ L < N) ∨ (¬ i < n ∧ ¬ L < N) ∨ (i < n ∧ ¬ L < N) := by omega
   have Hgo := Lib.hid hgo
   clear hrw htold htl ht64 hgo
   rcases hways with ⟨hin, hLl⟩ | ⟨hin, hLl⟩ | ⟨hin, hLl⟩
   ·have hLb : ((L : Int) != (N : Int)) = true := by simp only [bne_iff_ne, ne_eq]; omega
    go_wp2_with fail
    refine (simple_any Av L cv _ out wr Hro.out (Nat.le_refl _) Ho64.out (by omega) hLc).mono ?_
    intro e w1 hE
    obtain ⟨v, rfl, ho1, hm1⟩ := hE.some_ Htold.out
    have Hm1 := Lib.hid (Hm.out.trans hm1 (fun _ _ h => h))
    clear hE ho1 hm1
    go_wp2_with fail
    go_ret2
    rw [decS_few (by rw [Hrw.out, Hol.out]; exact hLl)]
    exact ⟨rfl, Hm1.out⟩
   all_goals
    have hLb : ((L : Int) != (N : Int)) = false := by simp only [bne_eq_false_iff_eq]; omega
    have Hdec : Hid (decS N ws = if told = ws then some out else none) := Lib.hid (by
     have h := decS_is (N := N) (ws := ws) (told := told) (by rw [Hrw.out, Hol.out]; omega) (by rw [Hrw.out]; exact Htold.out)
     rw [Hrw.out] at h
     exact h)
    go_wp2_with fail
    refine (simple_any Av L cv _ out wr Hro.out (Nat.le_refl _) Ho64.out (by omega) hLc).mono ?_
    intro e w1 hE
    obtain ⟨v, rfl, ho1, hm1⟩ := hE.some_ Htold.out
    obtain ⟨A1, c1, rfl, _, hr1⟩ := own_formU ho1
    have Hr1 := Lib.hid hr1
    have Hown1 := Lib.hid (hm1.owns Hown.out (fun _ _ h => h))
    have Hm1 := Lib.hid (Hm.out.trans hm1 (fun _ _ h => h))
    have Hs1 := Lib.hid (Hs.out.mod Hm1.out HB.out (fun _ _ h => h))
    clear hE ho1 hm1 hr1
    by_cases hb : told = ws
    ·have hbb : decide (told = ws) = true := decide_eq_true hb
     have Hb := Lib.hid hb; have Hbb := Lib.hid hbb
     clear hb hbb
     go_wp2_with fail
     refine (sameW_any A1 A told.length n c1 cap _ _ told ws w1 Hr1.out Hs1.out (by have := Htl.out; have := Hol.out; omega) (by omega)).mono ?_
     rintro e w2 ⟨rfl, hm2⟩
     have Hm2 := Lib.hid hm2
     rw [Hbb.out]
     clear hm2
     go_wp2_with fail
     go_ret2
     rw [Hdec.out, if_pos Hb.out]
     exact ⟨_, rfl, Hm2.out.owns Hown1.out (fun _ _ h => h), Hm1.out.trans Hm2.out (fun _ _ h => h)⟩
    ·have hbb : decide (told = ws) = false := decide_eq_false hb
     have Hb := Lib.hid hb; have Hbb := Lib.hid hbb
     clear hb hbb
     go_wp2_with fail
     refine (sameW_any A1 A told.length n c1 cap _ _ told ws w1 Hr1.out Hs1.out (by have := Htl.out; have := Hol.out; omega) (by omega)).mono ?_
     rintro e w2 ⟨rfl, hm2⟩
     have Hm2 := Lib.hid hm2
     rw [Hbb.out]
     clear hm2
     go_wp2_with fail
     go_ret2
     rw [Hdec.out, if_neg Hb.out]
     exact ⟨rfl, Hm1.out.trans Hm2.out (fun _ _ h => h)⟩
end Go.Proofs.YtmeilddngohccaaGreatDoor

/- The document's own answer: bytes are read as runs. -/
namespace Go.Proofs.YtmeilddngohccaaGreatDoor
open Go.RowKit

/-- What the inner loop has laid. -/
def LrepTo (w wr : World) (out : List Nat) (V j : Nat) (v : Value) : Prop :=
 Own w.heap.size wr 26 v (cellsU (out ++ List.replicate j V)) ∧ Mod (fun _ => False) w wr
set_option maxHeartbeats 1000000 in
set_option maxRecDepth 100000 in
theorem lrdec_any (A : Option Addr) (n cap B N : Nat) (m : Int) (bs : List Nat) (w : World) (hs : Rds w B A n (cells8 bs)) (hB : B ≤ w.heap.size) (hlt : lt256 bs) (hnc : n ≤ cap) (hcm : cap ≤ maxLen) (hN : max 0 (min m 65535) = (N : Int)) :
  Calls Tryz.prog 47 #[.slice A n cap, .int .i64 m] w fun e w' => EncE w w' (decR N bs) e := by
 have hul : bs.length = n := by have := hs.1; rwa [cells8_length] at this
 have H0 : Hid (LdecTo w w bs N 0 0 (.slice none 0 0)) := Lib.hid ⟨[], Own.nil _ _ _, rfl, Nat.zero_le _, (fun _ h => by cases h), by
  rw [List.drop_zero]
  show decR N bs = (dR N none bs).map _
  unfold decR dR
  cases getR bs.length N none bs <;> rfl, Mod.refl _ _⟩
 have Hs := Lib.hid hs; have Hlt := Lib.hid hlt; have HB := Lib.hid hB; have Hul := Lib.hid hul; have Hcm := Lib.hid hcm
 have hN65 : N ≤ 65535 := by omega
 have Hheld := Lib.hid (fun W => rheld_any m N W hN)
 clear hs hlt hB hul hN hcm
 go_enter Tryz.func47, Tryz.ntmps47
 go_wp2_with fail
 refine (Hheld.out _).mono ?_
 rintro e w' ⟨rfl, rfl⟩
 go_wp2_with fail
 go_loopg [6, 7] n (fun l s6 s7 wr => ∃ (i : Nat) (Ab : Option Addr) (cb L : Nat) (Av : Option Addr) (cv : Nat), i + l = n ∧ s6 = .slice Ab l cb ∧ l ≤ cb ∧ cb ≤ maxLen ∧ Rds wr B Ab l (cells8 (bs.drop i)) ∧ s7 = .slice Av L cv ∧ L ≤ cv ∧ LdecTo w wr bs N i L (.slice Av L cv))
 case atStart => exact ⟨0, A, cap, 0, none, 0, by omega, rfl, hnc, Hcm.out, by rw [List.drop_zero]; exact Hs.out, rfl, Nat.le_refl _, H0.out⟩
 case round =>
  obtain ⟨i, Ab, cb, L, Av, cv, hil, rfl, hlb, hcbm, hr, rfl, hLc, hD⟩ := hrel
  have HD := Lib.hid hD; have Hil := Lib.hid hil; have Hr := Lib.hid hr; have Hcbm := Lib.hid hcbm
  clear hD hil H0 hr hcbm Hs
  obtain ⟨out, hown, hol, hLN, ho64, hrd, hm⟩ := HD.out
  have Hown := Lib.hid hown; have Hol := Lib.hid hol; have Ho64 := Lib.hid ho64; have Hrd := Lib.hid hrd; have Hm := Lib.hid hm
  have hBr : Hid (B ≤ wr.heap.size) := Lib.hid (Nat.le_trans HB.out hm.size)
  clear hown hol ho64 hrd hm HD
  have hlt2 : lt256 (bs.drop i) := fun b hb => Hlt.out b (List.mem_of_mem_drop hb)
  by_cases hg : 0 < gk
  ·obtain ⟨K, hK⟩ : ∃ K, K = (dec (bs.drop i)).1 := ⟨_, rfl⟩
   obtain ⟨p, hp⟩ : ∃ p, p = (dec (bs.drop i)).2 := ⟨_, rfl⟩
   obtain ⟨V, hV⟩ : ∃ V, V = (dec ((bs.drop i).drop p)).1 := ⟨_, rfl⟩
   obtain ⟨q, hq⟩ : ∃ q, q = (dec ((bs.drop i).drop p)).2 := ⟨_, rfl⟩
   have hlt3 : lt256 ((bs.drop i).drop p) := fun b hb => hlt2 b (List.mem_of_mem_drop hb)
   have hpg : p ≤ gk := by
    have h := dec_le_len hlt2
    rw [← hp, List.length_drop, Hul.out] at h
    have := Hil.out
    omega
   have hqg : q ≤ gk - p := by
    have h := dec_le_len hlt3
    rw [← hq, List.length_drop, List.length_drop, Hul.out] at h
    have := Hil.out
    omega
   have hK64 : K < 2 ^ 64 := by rw [hK]; exact dec_lt hlt2
   have hV64 : V < 2 ^ 64 := by rw [hV]; exact dec_lt hlt3
   have hrun : runP (bs.drop i) = if p = 0 ∨ q = 0 then (0, 0, 0) else (K, V, p + q) := by unfold runP; rw [hV, hq, hK, hp]
   have hcall := vrget_any Ab gk cb B (bs.drop i) wr Hr.out hlt2 (by have := Hcbm.out; omega)
   rw [← hK, ← hp] at hcall
   have hcd : (cells8 (bs.drop i)).drop p = cells8 ((bs.drop i).drop p) := by simp [cells8, List.map_drop]
   obtain ⟨A1, hA1⟩ : ∃ A1, (if cb = p then Ab else Ab.map (·.add p)) = A1 := ⟨_, rfl⟩
   have hr1 : Rds wr B A1 (gk - p) (cells8 ((bs.drop i).drop p)) := by rw [← hA1, ← hcd]; exact Hr.out.drop hpg hlb
   have hcall2 := vrget_any A1 (gk - p) (cb - p) B ((bs.drop i).drop p) wr hr1 hlt3 (by have := Hcbm.out; omega)
   rw [← hV, ← hq] at hcall2
   obtain ⟨A2, hA2⟩ : ∃ A2, (if cb - p = q then A1 else A1.map (·.add q)) = A2 := ⟨_, rfl⟩
   have hcd2 : (cells8 ((bs.drop i).drop p)).drop q = cells8 (bs.drop (i + (p + q))) := by simp [cells8, List.map_drop, List.drop_drop, Nat.add_assoc]
   have hr2 : Rds wr B A2 (gk - p - q) (cells8 (bs.drop (i + (p + q)))) := by rw [← hA2, ← hcd2]; exact hr1.drop hqg (by omega)
   have Hcall := Lib.hid hcall; have Hcall2 := Lib.hid hcall2; have Hrun := Lib.hid hrun; have HK64 := Lib.hid hK64; have HV64 := Lib.hid hV64; have Hr2 := Lib.hid hr2
   have hpi : (p : Int) ≤ (gk : Int) := by omega
   have hp0 : (0 : Int) ≤ (p : Int) := by omega
   have hpc : (p : Int) ≤ (cb : Int) := by omega
   have hgc : (gk : Int) ≤ (cb : Int) := by omega
   clear hcall hcall2 hK hp hV hq hrun hlt2 hlt3 hcd hcd2 hr1 hr2 Hr hK64 hV64
   go_wp2_with fail
   refine Hcall.out.mono ?_
   rintro e w' ⟨rfl, rfl⟩
   go_wp2_with fail
   refine Hcall2.out.mono ?_
   rintro e w' ⟨rfl, rfl⟩
   have hqgi : (q : Int) ≤ ((gk - p : Nat) : Int) := by omega
   have hgci : ((gk - p : Nat) : Int) ≤ ((cb - p : Nat) : Int) := by omega
   have hqci : (q : Int) ≤ ((cb - p : Nat) : Int) := by omega
   have hq0 : (0 : Int) ≤ (q : Int) := by omega
   have hib : i < bs.length := by have := Hul.out; have := Hil.out; omega
   obtain ⟨d, hd⟩ : ∃ d, d = N - L := ⟨_, rfl⟩
   have hdi : (N : Int) - (L : Int) = (d : Int) := by omega
   have hdw : IntKind.i64.wrap (d : Int) = (d : Int) := by rw [IntKind.wrap_i64]; omega
   have hwd : IntKind.u64.wrap (d : Int) = (d : Int) := by rw [IntKind.wrap_u64]; omega
   have Hd := Lib.hid hd; have Hib := Lib.hid hib
   clear Hcall Hcall2 hd hib
   by_cases hz : p = 0 ∨ q = 0
   ·have hnone := ldec_stop (K := 0) (V := 0) (S := 0) Hib.out (by rw [Hrun.out, if_pos hz]) Hol.out (Or.inl rfl) Hrd.out
    have Hnone := Lib.hid hnone
    clear hnone
    have hz2 : p = 0 ∨ (p ≠ 0 ∧ q = 0) := by omega
    clear hz
    rcases hz2 with h | ⟨h, h'⟩
    ·have hpb : ((p : Int) == 0) = true := by simp [h]
     clear h
     go_wp2_with fail
     go_ret2
     rw [Hnone.out]
     exact ⟨rfl, Hm.out⟩
    ·have hpb : ((p : Int) == 0) = false := by simp; omega
     have hqb : ((q : Int) == 0) = true := by simp [h']
     clear h h'
     go_wp2_with fail
     go_ret2
     rw [Hnone.out]
     exact ⟨rfl, Hm.out⟩
   ·have hrun2 : runP (bs.drop i) = (K, V, p + q) := by rw [Hrun.out, if_neg hz]
    have hpb : ((p : Int) == 0) = false := by simp; omega
    have hqb : ((q : Int) == 0) = false := by simp; omega
    have hpq : p + q ≠ 0 := by omega
    have Hrun2 := Lib.hid hrun2; have Hpq := Lib.hid hpq
    clear hz hrun2 hpq Hrun
    cases hf : fitsR out K V N with
    | false =>
     have hnone := ldec_stop Hib.out Hrun2.out Hol.out (Or.inr hf) Hrd.out
     have Hnone := Lib.hid hnone
     have hf' : K = 0 ∨ (K ≠ 0 ∧ d < K) ∨ (K ≠ 0 ∧ K ≤ d ∧ out.getLast? = some V) := by
      unfold fitsR at hf
      have h := Decidable.not_not.1 (of_decide_eq_false hf)
      rw [Hol.out, ← Hd.out] at h
      rcases Nat.eq_zero_or_pos K with h0 | h0
      ·exact Or.inl h0
      ·rcases Nat.lt_or_ge d K with h1 | h1
       ·exact Or.inr (Or.inl ⟨by omega, h1⟩)
       ·rcases h with h | h | h
        ·omega
        ·omega
        ·exact Or.inr (Or.inr ⟨by omega, h1, h⟩)
     clear hnone hf
     rcases hf' with h | ⟨h, h1⟩ | ⟨h, h1, h2⟩
     ·have hKb : ((K : Int) == 0) = true := by simp [h]
      clear h
      go_wp2_with fail
      go_ret2
      rw [Hnone.out]
      exact ⟨rfl, Hm.out⟩
     ·have hKb : ((K : Int) == 0) = false := by simp; omega
      have hdK : (d : Int) < (K : Int) := by omega
      clear h h1
      go_wp2_with fail
      go_ret2
      rw [Hnone.out]
      exact ⟨rfl, Hm.out⟩
     ·have hKb : ((K : Int) == 0) = false := by simp; omega
      have hdK : (K : Int) ≤ (d : Int) := by omega
      have hL0 : 0 < L := by
       rcases Nat.eq_zero_or_pos L with h0 | h0
       ·have h3 := Hol.out
        rw [h0] at h3
        rw [List.eq_nil_of_length_eq_zero h3] at h2
        cases h2
       ·exact h0
      obtain ⟨j, hj⟩ : ∃ j, L = j + 1 := ⟨L - 1, by omega⟩
      obtain ⟨ad, y, rfl, hy, hcy⟩ := (Own.rds Hown.out Hol.out).at2 (show j < L by omega) (Nat.le_refl _) (Mod.refl (fun _ => False) _) (fun _ _ h => h)
      obtain rfl : y = V := by
       rw [List.getLast?_eq_getElem?, Hol.out, hj] at h2
       rw [show j + 1 - 1 = j by omega, hy] at h2
       injection h2
      have hLj : (L : Int) - 1 = (j : Int) := by omega
      have hL0i : (0 : Int) < (L : Int) := by omega
      have hj0 : (0 : Int) ≤ (j : Int) := by omega
      have hjL : (j : Int) < (L : Int) := by omega
      clear h h1 h2 hj hy hL0
      go_wp2_with fail
      go_ret2
      rw [Hnone.out]
      exact ⟨rfl, Hm.out⟩
    | true =>
     obtain ⟨hK0, hKN, hst⟩ := ldec_step Hib.out Hrun2.out Hol.out Hpq.out hf Hrd.out
     have hKb : ((K : Int) == 0) = false := by simp; omega
     have hdK : (K : Int) ≤ (d : Int) := by have := Hd.out; omega
     have hdKb : decide (d < K) = false := decide_eq_false (by have := Hd.out; omega)
     have Hst := Lib.hid hst
     have hf' : L = 0 ∨ (0 < L ∧ out.getLast? ≠ some V) := by
      unfold fitsR at hf
      have h := of_decide_eq_true hf
      rcases Nat.eq_zero_or_pos L with h0 | h0
      ·exact Or.inl h0
      ·exact Or.inr ⟨h0, fun e => h (Or.inr (Or.inr e))⟩
     have P0 : Hid (LrepTo w wr out V 0 (.slice Av L cv)) := Lib.hid ⟨by rw [List.replicate_zero, List.append_nil]; exact Hown.out, Hm.out⟩
     clear hst hf
     obtain ⟨go, rfl⟩ : ∃ go : Nat, go = gk := ⟨_, rfl⟩
     rcases hf' with h | ⟨h, h2⟩
     ·have hLn : ¬ (0 : Int) < (L : Int) := by omega
      clear h
      go_wp2_with fail
      clear hpb hqb hKb hdK hdi hdw hwd hpi hp0 hpc hgc hqgi hgci hqci hq0 hA1 hA2
      go_loopg [7, 8] K (fun l s7 s8 wi => ∃ (j t : Nat) (Aj : Option Addr) (cj : Nat), j + l = K ∧ t = L + j ∧ s7 = .slice Aj t cj ∧ t ≤ cj ∧ s8 = .int .u64 (l : Int) ∧ LrepTo w wi out V j (.slice Aj t cj))
      case atStart => exact ⟨0, L, Av, cv, by omega, by omega, rfl, hLc, rfl, P0.out⟩
      case round =>
       obtain ⟨j, t, Aj, cj, hjl, ht, rfl, htc, rfl, hP⟩ := hrel
       have Hjl := Lib.hid hjl; have Ht := Lib.hid ht; have HP := Lib.hid hP; have Htc := Lib.hid htc
       have hsz : w.heap.size ≤ wr.heap.size := hP.2.size
       have hcl : (cellsU (out ++ List.replicate j V)).length = t := by rw [cellsU_length, List.length_append, List.length_replicate, Hol.out, ht]
       have hr1 : (cellsU (out ++ List.replicate j V)).length + 1 ≤ maxLen := by rw [hcl]; unfold maxLen; omega
       have hr2 : ((cellsU (out ++ List.replicate j V)).length + 1) * 8 ≤ 140737488355328 := by rw [hcl]; omega
       have hone : (Value.int .u64 (V : Int)).oneCell' = true := rfl
       have Hr1 := Lib.hid hr1; have Hr2' := Lib.hid hr2
       clear hjl ht hP htc P0 hcl hr1 hr2
       by_cases hgk : 0 < gk
       ·have hwk : IntKind.u64.wrap ((gk : Int) - 1) = ((gk - 1 : Nat) : Int) := by rw [IntKind.wrap_u64]; have := Hjl.out; omega
        have hgki : (0 : Int) < (gk : Int) := by omega
        go_wp2_with (at_builtin; refine wpList_app1 rfl (.tmp 72) (.tmp 74) _ rfl eltU rfl HP.out.1 rfl rfl hone Hr1.out Hr2'.out hsz ?_; intro v' w3 HO HBl)
        have hO : Own w.heap.size w3 26 v' (cellsU (out ++ List.replicate (j + 1) V)) := by
         have h := HO.out
         rw [show [Value.int .u64 (V : Int)] = cellsU [V] from rfl, cellsU_app, List.append_assoc, ← List.replicate_succ'] at h
         exact h
        obtain ⟨A3, c3, rfl, hc3, _⟩ := own_formU hO
        have hl3 : (out ++ List.replicate (j + 1) V).length = t + 1 := by rw [List.length_append, List.length_replicate, Hol.out, Ht.out, Nat.add_assoc]
        rw [hl3] at hO hc3 ⊢
        have HP3 : Hid (LrepTo w w3 out V (j + 1) (.slice A3 (t + 1) c3)) := Lib.hid ⟨hO, HP.out.2.trans (Mod.of_below HBl.out) (fun i hi h => by omega)⟩
        have Hc3 := Lib.hid hc3
        clear hO hl3 hc3 HO HBl HP
        go_roundg (gk - 1)
        case measure => omega
        case rel => exact ⟨j + 1, t + 1, A3, c3, by have := Hjl.out; omega, by have := Ht.out; omega, rfl, Hc3.out, by go_num, HP3.out⟩
       ·have hgk0 : gk = 0 := by omega
        subst hgk0
        have hjK : j = K := by have := Hjl.out; omega
        subst hjK
        have HD2 : Hid (LdecTo w wr bs N (i + (p + q)) t (.slice Aj t cj)) := Lib.hid ⟨_, HP.out.1, by rw [List.length_append, List.length_replicate, Hol.out, Ht.out], by rw [Ht.out]; exact hKN, (fun y hy => by
         rcases List.mem_append.1 hy with hy | hy
         ·exact Ho64.out y hy
         ·rw [List.eq_of_mem_replicate hy]; exact HV64.out), by rw [Ht.out]; exact Hst.out, HP.out.2⟩
        have Hr3 : Hid (Rds wr B A2 (go - p - q) (cells8 (bs.drop (i + (p + q))))) := Lib.hid (Hr2.out.keep fun a ha => (HP.out.2.cell (Nat.lt_of_lt_of_le ha HB.out) (fun h => h)).trans (Hm.out.cell (Nat.lt_of_lt_of_le ha HB.out) (fun h => h)).symm)
        go_wp2_with fail
        go_roundg (go - p - q)
        case measure => have := Hpq.out; omega
        case rel => exact ⟨i + (p + q), A2, cb - p - q, t, Aj, cj, by have := Hil.out; omega, rfl, by omega, by have := Hcbm.out; omega, Hr3.out, rfl, Htc.out, HD2.out⟩
     ·obtain ⟨j, hj⟩ : ∃ j, L = j + 1 := ⟨L - 1, by omega⟩
      obtain ⟨ad, y, rfl, hy, hcy⟩ := (Own.rds Hown.out Hol.out).at2 (show j < L by omega) (Nat.le_refl _) (Mod.refl (fun _ => False) _) (fun _ _ h => h)
      have hyV : y ≠ V := by
       rintro rfl
       apply h2
       rw [List.getLast?_eq_getElem?, Hol.out, hj, show j + 1 - 1 = j by omega]
       exact hy
      have hyb : ((y : Int) == (V : Int)) = false := by simp; omega
      have hLj : (L : Int) - 1 = (j : Int) := by omega
      have hL0i : (0 : Int) < (L : Int) := by omega
      have hj0 : (0 : Int) ≤ (j : Int) := by omega
      have hjL : (j : Int) < (L : Int) := by omega
      clear h h2 hj hy hyV
      go_wp2_with fail
      clear hpb hqb hKb hdK hdi hdw hwd hpi hp0 hpc hgc hqgi hgci hqci hq0 hA1 hA2
      go_loopg [7, 8] K (fun l s7 s8 wi => ∃ (j t : Nat) (Aj : Option Addr) (cj : Nat), j + l = K ∧ t = L + j ∧ s7 = .slice Aj t cj ∧ t ≤ cj ∧ s8 = .int .u64 (l : Int) ∧ LrepTo w wi out V j (.slice Aj t cj))
      case atStart => exact ⟨0, L, some ad, cv, by omega, by omega, rfl, hLc, rfl, P0.out⟩
      case round =>
       obtain ⟨j, t, Aj, cj, hjl, ht, rfl, htc, rfl, hP⟩ := hrel
       have Hjl := Lib.hid hjl; have Ht := Lib.hid ht; have HP := Lib.hid hP; have Htc := Lib.hid htc
       have hsz : w.heap.size ≤ wr.heap.size := hP.2.size
       have hcl : (cellsU (out ++ List.replicate j V)).length = t := by rw [cellsU_length, List.length_append, List.length_replicate, Hol.out, ht]
       have hr1 : (cellsU (out ++ List.replicate j V)).length + 1 ≤ maxLen := by rw [hcl]; unfold maxLen; omega
       have hr2 : ((cellsU (out ++ List.replicate j V)).length + 1) * 8 ≤ 140737488355328 := by rw [hcl]; omega
       have hone : (Value.int .u64 (V : Int)).oneCell' = true := rfl
       have Hr1 := Lib.hid hr1; have Hr2' := Lib.hid hr2
       clear hjl ht hP htc P0 hcl hr1 hr2
       by_cases hgk : 0 < gk
       ·have hwk : IntKind.u64.wrap ((gk : Int) - 1) = ((gk - 1 : Nat) : Int) := by rw [IntKind.wrap_u64]; have := Hjl.out; omega
        have hgki : (0 : Int) < (gk : Int) := by omega
        go_wp2_with (at_builtin; refine wpList_app1 rfl (.tmp 72) (.tmp 74) _ rfl eltU rfl HP.out.1 rfl rfl hone Hr1.out Hr2'.out hsz ?_; intro v' w3 HO HBl)
        have hO : Own w.heap.size w3 26 v' (cellsU (out ++ List.replicate (j + 1) V)) := by
         have h := HO.out
         rw [show [Value.int .u64 (V : Int)] = cellsU [V] from rfl, cellsU_app, List.append_assoc, ← List.replicate_succ'] at h
         exact h
        obtain ⟨A3, c3, rfl, hc3, _⟩ := own_formU hO
        have hl3 : (out ++ List.replicate (j + 1) V).length = t + 1 := by rw [List.length_append, List.length_replicate, Hol.out, Ht.out, Nat.add_assoc]
        rw [hl3] at hO hc3 ⊢
        have HP3 : Hid (LrepTo w w3 out V (j + 1) (.slice A3 (t + 1) c3)) := Lib.hid ⟨hO, HP.out.2.trans (Mod.of_below HBl.out) (fun i hi h => by omega)⟩
        have Hc3 := Lib.hid hc3
        clear hO hl3 hc3 HO HBl HP
        go_roundg (gk - 1)
        case measure => omega
        case rel => exact ⟨j + 1, t + 1, A3, c3, by have := Hjl.out; omega, by have := Ht.out; omega, rfl, Hc3.out, by go_num, HP3.out⟩
       ·have hgk0 : gk = 0 := by omega
        subst hgk0
        have hjK : j = K := by have := Hjl.out; omega
        subst hjK
        have HD2 : Hid (LdecTo w wr bs N (i + (p + q)) t (.slice Aj t cj)) := Lib.hid ⟨_, HP.out.1, by rw [List.length_append, List.length_replicate, Hol.out, Ht.out], by rw [Ht.out]; exact hKN, (fun y hy => by
         rcases List.mem_append.1 hy with hy | hy
         ·exact Ho64.out y hy
         ·rw [List.eq_of_mem_replicate hy]; exact HV64.out), by rw [Ht.out]; exact Hst.out, HP.out.2⟩
        have Hr3 : Hid (Rds wr B A2 (go - p - q) (cells8 (bs.drop (i + (p + q))))) := Lib.hid (Hr2.out.keep fun a ha => (HP.out.2.cell (Nat.lt_of_lt_of_le ha HB.out) (fun h => h)).trans (Hm.out.cell (Nat.lt_of_lt_of_le ha HB.out) (fun h => h)).symm)
        go_wp2_with fail
        go_roundg (go - p - q)
        case measure => have := Hpq.out; omega
        case rel => exact ⟨i + (p + q), A2, cb - p - q, t, Aj, cj, by have := Hil.out; omega, rfl, by omega, by have := Hcbm.out; omega, Hr3.out, rfl, Htc.out, HD2.out⟩
  ·have hi : i = n := by have := Hil.out; omega
   have hend := ldec_end (by have := Hul.out; omega) hLN Hrd.out
   have Hend := Lib.hid hend
   clear hend
   by_cases hLl : L < N
   ·have hLn : (L : Int) ≠ (N : Int) := by omega
    go_wp2_with fail
    go_ret2
    rw [Hend.out, if_pos hLl]
    exact ⟨rfl, Hm.out⟩
   ·obtain rfl : L = N := by omega
    go_wp2_with fail
    go_ret2
    rw [Hend.out, if_neg hLl]
    exact ⟨_, rfl, Hown.out, Hm.out⟩
end Go.Proofs.YtmeilddngohccaaGreatDoor

/- Integers that came in: they stay. -/
namespace Go.Proofs.YtmeilddngohccaaGreatDoor
open Go.RowKit

theorem SeesI.modS {k : IntKind} {w w' : World} {B : Nat} {A : Option Addr} {n : Nat} {zs : List Int} {S : Nat → Prop} (h : SeesI k w B A n zs) (hm : Mod S w w') (hB : B ≤ w.heap.size) (hS : ∀ j, j < B → ¬ S j) : SeesI k w' B A n zs := ⟨h.1, fun h0 => by
 obtain ⟨ad, e, hb, hc⟩ := h.2 h0
 exact ⟨ad, e, hb, fun j u hu => (hm.cell (by rw [addr_block]; omega) (by rw [addr_block]; exact hS _ hb)).trans (hc j u hu)⟩⟩
theorem SeesI.up {k : IntKind} {w : World} {B B' : Nat} {A : Option Addr} {n : Nat} {zs : List Int} (h : SeesI k w B A n zs) (hB : B ≤ B') : SeesI k w B' A n zs := ⟨h.1, fun h0 => by
 obtain ⟨ad, e, hb, hc⟩ := h.2 h0
 exact ⟨ad, e, by omega, hc⟩⟩
end Go.Proofs.YtmeilddngohccaaGreatDoor

/- From the row's list to the kinds of words. -/
namespace Go.Proofs.YtmeilddngohccaaGreatDoor
open Go.RowKit

/-- An array of structs of two integers, as a row lists it. -/
def pairData {H : Type} (ps : List (Int × Int)) : DataW H := .agg (ps.map fun p => .agg [.lit (.int .i64 p.1), .lit (.int .i64 p.2)])
theorem cells_of_pairs {H : Type} {enc : TypeId × Value → H} {P : Program} {w : World} {base : Nat} {sp : Nat → Bool} {held : Bool} {fuel : Nat} {t e : TypeId} {n : Nat} {cs : List Value} {ps : List (Int × Int)} {p : List MemPlace} {f0 f1 : Field}
  (ht : P.underlying t = some (.array n e)) (he : P.underlying e = some (.struct #[f0, f1])) (h0 : P.underlying f0.type = some (.int .i64)) (h1 : P.underlying f1.type = some (.int .i64)) (o0 : f0.offset = 0) (o1 : f1.offset = 1) (c0 : P.cellsOf f0.type = 1) (c1 : P.cellsOf f1.type = 1)
  (hce : P.cellsOf e = 2) (hct : P.cellsOf t = n * 2)
  (h : DataW.trod enc P w base sp held fuel t cs = some (pairData ps, p)) : ∀ i a b, ps[i]? = some (a, b) → cs[i * 2]? = some (.int .i64 a) ∧ cs[i * 2 + 1]? = some (.int .i64 b) := by
 cases fuel with
 | zero => simp [DataW.trod] at h
 | succ fuel =>
  simp only [DataW.trod, ht, hce, hct] at h
  split at h
  ·rename_i hl
   obtain ⟨xs, hm, hx⟩ := Option.map_eq_some_iff.1 h
   have hxs : xs.map (·.1) = ps.map fun p => (DataW.agg [.lit (.int .i64 p.1), .lit (.int .i64 p.2)] : DataW H) := by
    have := congrArg Prod.fst hx
    simpa [pairData] using this
   have hxl : xs.length = n := by simpa using Lib.mapM_length hm
   intro i a b hi
   have hin : i < n := by
    have h2 := (List.getElem?_eq_some_iff.1 hi).1
    have h3 := congrArg List.length hxs
    simp at h3
    omega
   obtain ⟨y, hy, hf⟩ := Lib.mapM_at hm i i (by simp [hin])
   have hy1 : y.1 = .agg [.lit (.int .i64 a), .lit (.int .i64 b)] := by
    have h2 : (xs.map (·.1))[i]? = some y.1 := by simp [hy]
    rw [hxs, List.getElem?_map, hi] at h2
    simpa using h2.symm
   obtain ⟨y0, y1, m, hye, _, t0, t1⟩ := Go.ChangeShapes.trod_struct2 he hf
   obtain ⟨a', e0, hy0, _⟩ := DataW.trod_int h0 t0
   obtain ⟨b', e1, hy1', _⟩ := DataW.trod_int h1 t1
   have hagg : y.1 = .agg [y0.1, y1.1] := by rw [hye]
   rw [hy1, hy0, hy1'] at hagg
   simp only [DataW.agg.injEq, List.cons.injEq, DataW.lit.injEq, Lit.int.injEq, true_and, and_true] at hagg
   obtain ⟨rfl, rfl⟩ := hagg
   rw [o0, c0] at e0
   rw [o1, c1] at e1
   have g0 := congrArg (·[0]?) e0
   have g1 := congrArg (·[0]?) e1
   simp [List.getElem?_drop] at g0 g1
   exact ⟨g0, g1⟩
  ·cases h
def kindP : List (Int × Int) := [(240, 0), (120, 0), (60, 1), (30, 2), (20, 3), (15, 4), (12, 5), (10, 6), (8, 7), (7, 8), (6, 10), (5, 12), (4, 15), (3, 20), (2, 30), (1, 60)]
theorem kindP_at : ∀ k : Fin 16, kindP[k.val]? = some ((numN k.val : Int), (bitN k.val : Int)) := by decide
theorem kin_of_laid {W : World} {rest : List (String × DataW Unit)} (h : laidMet Tryz.prog (("ephemeris/simp.kinds", pairData kindP) :: rest) W) : Kin W := by
 obtain ⟨ps, ⟨g', t', cs, fuel, p, q, hg', ht', hvar, hd, _, _⟩, _⟩ := h
 obtain rfl := Option.some.inj ((show Tryz.prog.globalNamed "ephemeris/simp.kinds" = some 0 by kernel_rfl).symm.trans hg')
 obtain rfl := Option.some.inj ((show (Tryz.prog.globals[0]?).map (·.type) = some 139 by kernel_rfl).symm.trans ht')
 have hc := cells_of_pairs Tryz.underlying139 Tryz.underlying138 Tryz.underlying3 Tryz.underlying3 rfl rfl (by kernel_rfl) (by kernel_rfl) (by kernel_rfl) (by kernel_rfl) hd
 have hk : ∀ k, k < 16 → W.cell? ⟨0, k * 2, none⟩ = some (.int .i64 (numN k : Int)) ∧ W.cell? ⟨0, k * 2 + 1, none⟩ = some (.int .i64 (bitN k : Int)) := by
  intro k hk
  obtain ⟨h0, h1⟩ := hc k _ _ (kindP_at ⟨k, hk⟩)
  have v0 := World.var?_cell hg' hvar (k * 2)
  have v1 := World.var?_cell hg' hvar (k * 2 + 1)
  rw [Array.getElem?_toList] at h0 h1
  exact ⟨v0.trans h0, v1.trans h1⟩
 exact ⟨World.block_lt_of_cell? W _ (hk 0 (by decide)).1, hk⟩
end Go.Proofs.YtmeilddngohccaaGreatDoor

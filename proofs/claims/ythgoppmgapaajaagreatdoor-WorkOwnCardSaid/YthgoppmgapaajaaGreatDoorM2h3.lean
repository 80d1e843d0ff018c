/- The texts Kt, Ku, Pp, Tt, Kn, Ks, Rt, Ru, Tx, one behind the other. -/
import Derived.Test.YthgoppmgapaajaaGreatDoorM2h1
import Derived.Test.YthgoppmgapaajaaGreatDoorM2h2
/- The times of a row, as bytes behind how many these are: putTimes. -/
namespace Go.Proofs.YthgoppmgapaajaaGreatDoor
open Go.RowKit

theorem Packed.packF {bs : List Nat} {fs : List (Nat × Nat)} (h : Packed bs (fnum fs) (flen fs)) : bs = packF fs := by
 obtain ⟨hlt, free, hf, hl, hv⟩ := h
 exact packB_one (fnum_lt fs) hlt hf hl hv
/-- A writer of the call's own, at the end. -/
theorem Wrote.done {w w1 w2 : World} {g : Nat} {fs : List (Nat × Nat)} (h : Wrote w1 w2 g none 0 0 fs) (hg : w.heap.size ≤ g) (hm : Mod (fun _ => False) w w1) : ∃ row, Wr w2 g row (fnum fs) (flen fs) ∧ Mod (fun _ => False) w w2 := by
 obtain ⟨row, a1, a2, _⟩ := h
 rw [Nat.zero_mul, Nat.zero_add, Nat.zero_add] at a1
 exact ⟨row, a1, hm.trans a2 (fun i hi h => h.elim (fun e => by omega) (fun e => by cases e))⟩
theorem lt64_of {n : Nat} (h : n ≤ 1000000000) : Lt64 n := by unfold Lt64; omega
set_option maxHeartbeats 1000000 in
set_option maxRecDepth 100000 in
theorem ptimes_any (A : Option Addr) (n c : Nat) (ts : List Int) (w : World) (hs : Rds w w.heap.size A n (cellsI ts)) (hf : ∀ x ∈ ts, Fits x) (hn : n ≤ 1000000) (hwid : Wid w) :
  Calls Tryz.prog 59 #[.slice A n c] w fun e w' => ∃ v, e = .returned v ∧ Own w.heap.size w' 5 v (cells8 (enc (packF (encRow ts)).length ++ packF (encRow ts))) ∧ Mod (fun _ => False) w w' := by
 have hl := hs.1
 rw [cellsI_length] at hl
 have Hs := Lib.hid hs; have Hf := Lib.hid hf; have Hl := Lib.hid hl; have Hwid := Lib.hid hwid
 clear hs hf hl hwid
 go_enter Tryz.func59, Tryz.ntmps59
 go_wp2_with fail
 refine (newWriter_wr w).mono ?_
 rintro e w1 ⟨g, rfl, hg1, hg2, hwr, hm1⟩
 have Hs1 := Lib.hid (Hs.out.mod hm1 (Nat.le_refl _) (fun _ _ h => h)).seesI
 have Hap : Hid (0 < n → ∀ ad, A = some ad → ¬ (ad.block = g ∨ none = some ad.block)) := Lib.hid (fun h0 ad hA h => by
  obtain ⟨ad', hA', hb, _⟩ := Hs.out.2 h0
  rw [hA] at hA'
  injection hA' with hA'
  subst hA'
  rcases h with h | h
  ·omega
  ·cases h)
 have Hwid1 := Lib.hid (Hwid.out.mod hm1 (fun h => h))
 have hg0 : g ≠ 1 := by have := Hwid.out.1; omega
 have Hg := Lib.hid hg1; have Hm1 := Lib.hid hm1; have Hwr := Lib.hid hwr; have Hg0 := Lib.hid hg0
 clear hg1 hg2 hwr hm1 hg0
 go_wp2_with fail
 refine (encode_any w.heap.size g none 0 0 n c A ts w1 Hs1.out Hf.out Hm1.out.size Hap.out Hg0.out (by intro h; cases h) Hwr.out Hwid1.out (by omega)).mono ?_
 rintro e w2 ⟨rfl, h2⟩
 obtain ⟨row, hwr2, hm2⟩ := h2.done Hg.out Hm1.out
 have hfl := encRow_len ts
 rw [Hl.out] at hfl
 have Hwr2 := Lib.hid hwr2; have Hm2 := Lib.hid hm2; have Hfl := Lib.hid hfl
 clear h2 hwr2 hm2 hfl Hs1 Hwid1 Hwr
 go_wp2_with fail
 refine (bytes_any g row _ _ w2 Hwr2.out (by have := Hfl.out; omega)).mono ?_
 rintro e w3 ⟨v3, bs, rfl, hnew, hpk⟩
 obtain ⟨A3, c3, rfl, hr3, hm3⟩ := hnew.rds
 obtain rfl := hpk.packF
 have hpl := packF_len (encRow ts)
 obtain ⟨bs, hbs⟩ : ∃ bs, bs = packF (encRow ts) := ⟨_, rfl⟩
 rw [← hbs] at hr3 hpl
 rw [← hbs]
 obtain ⟨L, hL⟩ : ∃ L, bs.length = L := ⟨_, rfl⟩
 have hLs : L ≤ 10000000 := by have := Hfl.out; omega
 have hcv : IntKind.u64.wrap (L : Int) = (L : Int) := by rw [IntKind.wrap_u64]; omega
 rw [hL] at hr3
 rw [hL]
 have Hr3 := Lib.hid hr3; have Hm3 := Lib.hid (Hm2.out.trans hm3 (fun _ _ h => h)); have HL := Lib.hid hL; have Hbs := Lib.hid hbs
 clear hnew hpk hr3 hm3 hpl hL hbs Hwr2 Hm2
 go_wp2_with fail
 refine (vput_any none 0 0 0 [] L w3 (Rds.nil _ _ _) (by omega) (lt64_of (by omega))).mono ?_
 rintro e w4 ⟨v4, rfl, ho4, hb4⟩
 rw [List.nil_append] at ho4
 have hq := enc_len10 (u := L) (by omega)
 have hR : Room (cells8 (enc L)).length L := Room.mk _ _ (by rw [cells8_length]; omega)
 have HR := Lib.hid hR; have Ho4 := Lib.hid ho4; have Hr4 := Lib.hid (Hr3.out.below hb4); have Hm4 := Lib.hid (Hm3.out.trans (mod_below hb4) (fun _ _ h => h))
 have Hone : Hid (∀ u ∈ cells8 bs, u.oneCell' = true) := Lib.hid (cells8_one _)
 have hsz : w3.heap.size ≤ w4.heap.size := hb4.size
 clear ho4 hb4 hq hR hcv
 go_wp2_with (at_builtin; refine wpList_app rfl (.tmp 14) (.tmp 15) _ rfl elt8 rfl Ho4.out rfl Hr4.out Hone.out HR.out.1 HR.out.2 hsz ?_; intro v5 w5 HO5 HBl5 HG5; clear HG5)
 go_ret
 have ho5 := HO5.out
 rw [cells8_app] at ho5
 rw [← Hbs.out, HL.out]
 exact ⟨_, rfl, ho5.mono Hm3.out.size, Hm4.out.trans (Mod.of_below HBl5.out) (fun i hi h => by have := Hm3.out.size; omega)⟩
end Go.Proofs.YthgoppmgapaajaaGreatDoor

/- The times that bytes begin with, and what is behind them: getTimes. -/
namespace Go.Proofs.YthgoppmgapaajaaGreatDoor
open Go.RowKit

def timesOf (N : Nat) (bs : List Nat) : Option (List Int × List Nat) :=
 if (dec bs).2 = 0 ∨ bs.length - (dec bs).2 < (dec bs).1 then none
 else (rdRow N (val ((bs.drop (dec bs).2).take (dec bs).1)) (8 * ((bs.drop (dec bs).2).take (dec bs).1).length)).map fun p => (p.1, (bs.drop (dec bs).2).drop (dec bs).1)
def GetT (w w' : World) (o : Option (List Int × List Nat)) (e : Ending) : Prop :=
 match o with
 | some (ts, rest) => ∃ A1 c1 A2 c2, e = .returned (.tuple #[.slice A1 ts.length c1, .slice A2 rest.length c2, .bool true]) ∧ A2 ≠ none ∧ rest.length ≤ c2 ∧ c2 ≤ maxLen ∧ Rds w' w'.heap.size A1 ts.length (cellsI ts) ∧ Rds w' w.heap.size A2 rest.length (cells8 rest) ∧ Mod (fun _ => False) w w'
 | none => ∃ v1 v2, e = .returned (.tuple #[v1, v2, .bool false]) ∧ Mod (fun _ => False) w w'
theorem GetT.some_ {w w' : World} {o : Option (List Int × List Nat)} {ts : List Int} {rest : List Nat} {e : Ending} (h : GetT w w' o e) (ho : o = some (ts, rest)) :
  ∃ A1 c1 A2 c2, e = .returned (.tuple #[.slice A1 ts.length c1, .slice A2 rest.length c2, .bool true]) ∧ A2 ≠ none ∧ rest.length ≤ c2 ∧ c2 ≤ maxLen ∧ Rds w' w'.heap.size A1 ts.length (cellsI ts) ∧ Rds w' w.heap.size A2 rest.length (cells8 rest) ∧ Mod (fun _ => False) w w' := by
 subst ho
 exact h
theorem GetT.none_ {w w' : World} {o : Option (List Int × List Nat)} {e : Ending} (h : GetT w w' o e) (ho : o = none) : ∃ v1 v2, e = .returned (.tuple #[v1, v2, .bool false]) ∧ Mod (fun _ => False) w w' := by
 subst ho
 exact h
theorem timesOf_no0 {N : Nat} {bs : List Nat} (h : (dec bs).2 = 0) : timesOf N bs = none := by unfold timesOf; rw [if_pos (.inl h)]
theorem timesOf_no1 {N : Nat} {bs : List Nat} (h : bs.length - (dec bs).2 < (dec bs).1) : timesOf N bs = none := by unfold timesOf; rw [if_pos (.inr h)]
theorem timesOf_at {N a K m : Nat} {bs : List Nat} (h1 : (dec bs).2 = a) (h2 : (dec bs).1 = K) (ha : ¬ a = 0) (hm : bs.length - a = m) (hK : ¬ m < K) :
  timesOf N bs = (rdRow N (val ((bs.drop a).take K)) (8 * K)).map fun p => (p.1, (bs.drop a).drop K) := by
 unfold timesOf
 rw [h1, h2, hm, if_neg (by omega), show ((bs.drop a).take K).length = K by rw [List.length_take, List.length_drop, hm]; omega]
theorem timesOf_some {N : Nat} {bs : List Nat} {ts : List Int} {rest : List Nat} (hlt : lt256 bs) (h : timesOf N bs = some (ts, rest)) : ts.length = N ∧ (∀ x ∈ ts, Fits x) ∧ lt256 rest ∧ rest.length ≤ bs.length := by
 unfold timesOf at h
 split at h
 ·cases h
 obtain ⟨p, hp, h2⟩ := Option.map_eq_some_iff.1 h
 injection h2 with h2 h3
 subst h2 h3
 have hb : lt256 ((bs.drop (dec bs).2).take (dec bs).1) := fun x hx => hlt x (List.mem_of_mem_drop (List.mem_of_mem_take hx))
 obtain ⟨t1, t2, _⟩ := rdRow_some hp (val_lt hb)
 exact ⟨t1, t2, fun x hx => hlt x (List.mem_of_mem_drop (List.mem_of_mem_drop hx)), by rw [List.length_drop, List.length_drop]; omega⟩
set_option maxHeartbeats 1000000 in
set_option maxRecDepth 100000 in
theorem gtimes_any (A : Option Addr) (n cap N : Nat) (m : Int) (bs : List Nat) (w : World) (hs : Rds w w.heap.size A n (cells8 bs)) (hlt : lt256 bs) (hnc : n ≤ cap) (hcm : cap ≤ maxLen) (hn : n ≤ 1000000) (hN : max 0 (min m 65535) = (N : Int)) (hwid : Wid w) :
  Calls Tryz.prog 88 #[.slice A n cap, .int .i64 m] w fun e w' => GetT w w' (timesOf N bs) e := by
 have hul : bs.length = n := by have := hs.1; rwa [cells8_length] at this
 have hcall := vget_any A n cap _ bs w hs hlt hnc hcm
 obtain ⟨K, hK⟩ : ∃ K, (dec bs).1 = K := ⟨_, rfl⟩
 obtain ⟨a, ha⟩ : ∃ a, (dec bs).2 = a := ⟨_, rfl⟩
 have han : a ≤ n := by
  rw [← ha, ← hul]
  rcases Nat.eq_zero_or_pos (dec bs).2 with h | h
  ·omega
  ·exact (dec_some hlt h).1
 rw [hK, ha] at hcall
 obtain ⟨A1, hA1⟩ : ∃ A1, (if cap = a then A else A.map (·.add a)) = A1 := ⟨_, rfl⟩
 have hr1 : Rds w w.heap.size A1 (n - a) (cells8 (bs.drop a)) := by
  have h := hs.drop han hnc
  rw [show (cells8 bs).drop a = cells8 (bs.drop a) by simp [cells8, List.map_drop]] at h
  rw [← hA1]
  exact h
 obtain ⟨r, hr⟩ : ∃ r, n - a = r := ⟨_, rfl⟩
 obtain ⟨cr, hcr⟩ : ∃ cr, cap - a = cr := ⟨_, rfl⟩
 have hpi : (a : Int) ≤ (n : Int) := by omega
 have hpc : (a : Int) ≤ (cap : Int) := by omega
 have hp0 : (0 : Int) ≤ (a : Int) := by omega
 rw [hr] at hr1
 have hrc : r ≤ cr := by omega
 have hcv : IntKind.u64.wrap (r : Int) = (r : Int) := by rw [IntKind.wrap_u64]; omega
 by_cases ha0 : a = 0
 ·have hab : ((a : Int) == 0) = true := by simp; omega
  have Hno : Hid (timesOf N bs = none) := Lib.hid (timesOf_no0 (by rw [ha]; exact ha0))
  have Hcall := Lib.hid hcall
  clear hs hlt hcall hK ha hul hr1 hN ha0 hn hwid
  go_enter Tryz.func88, Tryz.ntmps88
  go_wp2_with fail
  refine Hcall.out.mono ?_
  rintro e w' ⟨rfl, rfl⟩
  go_wp2_with fail
  go_ret3
  unfold GetT
  rw [Hno.out]
  exact ⟨_, _, rfl, Mod.refl _ _⟩
 have hab : ((a : Int) == 0) = false := by simp; omega
 by_cases hKr : r < K
 ·have hKi : (r : Int) < (K : Int) := by omega
  have Hno : Hid (timesOf N bs = none) := Lib.hid (timesOf_no1 (by rw [ha, hK, hul, hr]; exact hKr))
  have Hcall := Lib.hid hcall
  clear hs hlt hcall hK ha hul hr1 hN ha0 hn hwid
  go_enter Tryz.func88, Tryz.ntmps88
  go_wp2_with fail
  refine Hcall.out.mono ?_
  rintro e w' ⟨rfl, rfl⟩
  go_wp2_with fail
  go_ret3
  unfold GetT
  rw [Hno.out]
  exact ⟨_, _, rfl, Mod.refl _ _⟩
 ·have hKi : ¬ (r : Int) < (K : Int) := by omega
  have hKi2 : (K : Int) ≤ (r : Int) := by omega
  have hKc : (K : Int) ≤ (cr : Int) := by omega
  have hK0 : (0 : Int) ≤ (K : Int) := by omega
  have hKs : K ≤ 1000000 := by omega
  have hA1n : A1 ≠ none := by
   obtain ⟨ad, e, _⟩ := hs.2 (by omega)
   rw [← hA1, e]
   split <;> simp
  obtain ⟨A2, hA2⟩ : ∃ A2, (if cr = K then A1 else A1.map (·.add K)) = A2 := ⟨_, rfl⟩
  have HA2n : Hid (A2 ≠ none) := Lib.hid (by
   rw [← hA2]
   split
   ·exact hA1n
   ·cases A1 with
    | none => exact absurd rfl hA1n
    | some a => simp)
  have hr2 : Rds w w.heap.size A2 (r - K) (cells8 ((bs.drop a).drop K)) := by
   have h := hr1.drop (k := K) (by omega) hrc
   rw [show (cells8 (bs.drop a)).drop K = cells8 ((bs.drop a).drop K) by simp [cells8, List.map_drop]] at h
   rw [← hA2]
   exact h
  have hw0 : 0 < w.heap.size := (hs.some_mem (Nat.le_refl _) (by omega)).1
  have hr1t : Rds w w.heap.size A1 K (cells8 ((bs.drop a).take K)) := by
   have h := hr1.take (k := K) (by omega)
   rw [show (cells8 (bs.drop a)).take K = cells8 ((bs.drop a).take K) by simp [cells8, List.map_take]] at h
   exact h
  obtain ⟨row0, hsee, _⟩ := hr1t.sees hw0
  have hlt2 : lt256 ((bs.drop a).take K) := fun b hb => hlt b (List.mem_of_mem_drop (List.mem_of_mem_take hb))
  have hnew := newReader_any row0 A1 K cr ((bs.drop a).take K) w hsee (fun h => absurd h hA1n) (by omega) hlt2
  have htk : ((bs.drop a).take K).length = K := by rw [List.length_take, List.length_drop, hul, hr]; omega
  have hdl : ((bs.drop a).drop K).length = r - K := by rw [List.length_drop, List.length_drop, hul, hr]
  have hto := timesOf_at (N := N) ha hK ha0 (by rw [hul, hr]) hKr
  obtain ⟨V, hV⟩ : ∃ V, V = val ((bs.drop a).take K) := ⟨_, rfl⟩
  rw [← hV] at hnew hto
  have Hcall := Lib.hid hcall; have Hnew := Lib.hid hnew; have Hr2 := Lib.hid hr2; have Hdl := Lib.hid hdl; have Hto := Lib.hid hto; have Hw0 := Lib.hid hw0; have Hwid := Lib.hid hwid; have HN := Lib.hid hN; have Hcm := Lib.hid hcm; have Hcr := Lib.hid hcr; have Hrc := Lib.hid hrc; have HKr := Lib.hid hKr
  have Hfits : Hid (∀ p, rdRow N V (8 * K) = some p → p.1.length = N) := Lib.hid (fun p hp => by
   have hvl := val_lt hlt2
   rw [htk, ← hV] at hvl
   exact (rdRow_some hp hvl).1)
  clear hs hlt hcall hK ha hul hr1 hN ha0 hn hr1t hsee hlt2 hnew htk hdl hto hV hr2 hw0 hA1n hwid hcm hrc hKr
  go_enter Tryz.func88, Tryz.ntmps88
  go_wp2_with fail
  refine Hcall.out.mono ?_
  rintro e w' ⟨rfl, rfl⟩
  go_wp2_with fail
  clear hA1 hpi hpc hp0 hcv hr hcr hab hKi
  refine Hnew.out.mono ?_
  rintro e w1 ⟨g, rowr, rfl, hg1, _, hm1, hrd⟩
  have Hwid1 := Lib.hid (Hwid.out.mod hm1 (fun h => h))
  have hgw : g ≠ 1 := by have := Hwid.out.1; omega
  obtain ⟨row, hrow, _, hrd'⟩ := hrd.real (by have := Hw0.out; omega) (by have := hm1.size; have := Hw0.out; omega)
  have Hrd := Lib.hid hrd'; have Hm1 := Lib.hid hm1; have Hg1 := Lib.hid hg1; have Hrow := Lib.hid hrow; have Hgw := Lib.hid hgw
  clear hg1 hm1 hrd hrow hrd' hgw
  go_wp2_with fail
  refine (decode_any g row V (8 * K) N m w1 HN.out Hrd.out (by omega) Hrow.out Hwid1.out Hgw.out).mono ?_
  intro e w2 hd
  have hd' : DecEnd w1 w2 g row (rdRow N V (8 * K)) e := hd
  clear hd
  cases hrr : rdRow N V (8 * K) with
  | none =>
   obtain ⟨rfl, _, hm2⟩ := DecEnd.none_ hd' hrr
   have Hm2 := Lib.hid (Hm1.out.trans hm2 (fun i hi e => by have := Hg1.out; omega))
   have Hno : Hid (timesOf N bs = none) := Lib.hid (by rw [Hto.out, hrr]; rfl)
   clear hd' hm2 hrr
   go_wp2_with fail
   go_quiet (fail)
   go_wp2_with fail
   go_ret3
   unfold GetT
   rw [Hno.out]
   exact ⟨_, _, rfl, Hm2.out.drewN _⟩
  | some p =>
   obtain ⟨ts, R2, rem2⟩ := p
   obtain ⟨v, rfl, hown, _, hm2⟩ := DecEnd.some_ hd' hrr
   obtain ⟨A3, c3, rfl, hr3⟩ := own_form hown
   have htl := Hfits.out _ hrr
   have Hm2 := Lib.hid (Hm1.out.trans hm2 (fun i hi e => by have := Hg1.out; omega))
   have Hyes : Hid (timesOf N bs = some (ts, (bs.drop a).drop K)) := Lib.hid (by rw [Hto.out, hrr]; rfl)
   have Hr3 := Lib.hid hr3; have Htl := Lib.hid htl
   clear hd' hm2 hrr hown hr3 htl
   go_wp2_with fail
   go_quiet (fail)
   go_wp2_with fail
   go_ret3
   unfold GetT
   rw [Hyes.out]
   refine ⟨A3, c3, A2, cr - K, ?_, HA2n.out, ?_, ?_, Hr3.out, ?_, Hm2.out.drewN _⟩
   ·rw [Hdl.out]
    rfl
   ·rw [Hdl.out]
    have := Hrc.out
    omega
   ·have := Hcm.out
    have := Hcr.out
    omega
   ·rw [Hdl.out]
    exact Hr2.out.mod (Hm2.out.drewN _) (Nat.le_refl _) (fun _ _ h => h)
end Go.Proofs.YthgoppmgapaajaaGreatDoor

/- The document's own: numbers of so many bits each are packed behind bytes, and unpacked. -/
namespace Go.Proofs.YthgoppmgapaajaaGreatDoor
open Go.RowKit

/-- What the document's writer has been told of i numbers of S bits. -/
def RFldTo (w0 w1 wr : World) (g S : Nat) (l : List Nat) (i : Nat) : Prop := RWrote w1 wr g none 0 0 (flds S (l.take i)) ∧ Mod (fun _ => False) w0 wr
theorem RFldTo.step {w0 w1 wr w2 : World} {g S i x : Nat} {l : List Nat} (hx : l[i]? = some x) (_h : RFldTo w0 w1 wr g S l i) (hg : w0.heap.size ≤ g) (hm : Mod (fun _ => False) w0 w1) (h2 : RWrote w1 w2 g none 0 0 (flds S (l.take i) ++ [(x, S)])) : RFldTo w0 w1 w2 g S l (i + 1) := by
 refine ⟨?_, ?_⟩
 ·rw [take_succ_of hx, flds_app]
  exact h2
 ·obtain ⟨row', _, a2, _⟩ := h2
  exact hm.trans a2 (fun i hi h => h.elim (fun e => by omega) (fun e => by cases e))
theorem RFldTo.wr {w0 w1 wr : World} {g S i n : Nat} {l : List Nat} (h : RFldTo w0 w1 wr g S l i) (hn : l.length = n) (hi : i = n) : ∃ row, RWr wr g row (fnum (flds S l)) (flen (flds S l)) := by
 obtain ⟨⟨row', a1, _, _⟩, _⟩ := h
 rw [List.take_of_length_le (by omega), Nat.zero_mul, Nat.zero_add, Nat.zero_add] at a1
 exact ⟨row', a1⟩
set_option maxHeartbeats 4000000 in
set_option maxRecDepth 100000 in
theorem rpack_any (A0 A1 : Option Addr) (n0 c0 n1 c1 B S : Nat) (hd l : List Nat) (w : World) (h0 : Rds w B A0 n0 (cells8 hd)) (h1 : Rds w B A1 n1 (cellsU l)) (hB : B ≤ w.heap.size) (hl : ∀ x ∈ l, x < 2 ^ 64) (hS : S ≤ 64) (hn0 : n0 ≤ 1000000) (hn1 : n1 ≤ 1000000) :
  Calls Tryz.prog 73 #[.slice A0 n0 c0, .slice A1 n1 c1, .int .i64 (S : Int)] w fun e w' => ∃ v, e = .returned v ∧ Own w.heap.size w' 5 v (cells8 (hd ++ packW S l)) ∧ Mod (fun _ => False) w w' := by
 have hhl : hd.length = n0 := by have := h0.1; rwa [cells8_length] at this
 have hll : l.length = n1 := by have := h1.1; rwa [cellsU_length] at this
 obtain ⟨W, hW⟩ : ∃ W, W = w.alloc (.cells #[.slice none 0 0] 69) := ⟨_, rfl⟩
 have hmW : Mod (fun _ => False) w W := by rw [hW]; exact (Mod.refl _ _).alloc _
 have hrw : RWr W w.heap.size none 0 0 := by
  refine ⟨.slice none 0 0, [], ?_, World.ownsRow_nil _ _ _ _, rfl, (fun _ h => by cases h), rfl, rfl⟩
  rw [hW]
  exact Blk.new _ _ _
 have F0 : Hid (RFldTo w W W w.heap.size S l 0) := Lib.hid ⟨RWrote.refl hrw, hmW⟩
 have H0 := Lib.hid h0; have H1 := Lib.hid h1; have HB := Lib.hid hB; have Hl := Lib.hid hl; have Hhl := Lib.hid hhl; have Hll := Lib.hid hll; have HW := Lib.hid hW; have HmW := Lib.hid hmW
 clear h0 h1 hB hl hhl hll hW hmW hrw
 go_enter Tryz.func73, Tryz.ntmps73
 go_wp2_with fail
 rw [← HW.out]
 go_loopg [8] n1 (fun l' s8 wr => ∃ i : Nat, i + l' = n1 ∧ s8 = .int .i64 (i : Int) ∧ RFldTo w W wr w.heap.size S l i)
 case atStart => exact ⟨0, by omega, rfl, F0.out⟩
 case round =>
  obtain ⟨i, hil, rfl, hF⟩ := hrel
  have HF := Lib.hid hF; have Hil := Lib.hid hil
  clear hF hil F0 HW
  by_cases hin : i < n1
  ·obtain ⟨ad, x, rfl, hx, hcx⟩ := H1.out.at2 hin HB.out HF.out.2 (fun _ _ h => h)
   have hx64 : Hid (Lt64 x) := Lib.hid (by have := Hl.out x (List.mem_of_getElem? hx); unfold Lt64; omega)
   have Hx := Lib.hid hx
   have hi1 : (0 : Int) ≤ (i : Int) := by omega
   clear hx
   go_wp2_with fail
   refine (rput_wrote W w.heap.size none 0 0 S _ x _ _ wr rfl rfl hS hx64.out HF.out.1 (by have := flds_small (i := i) hS (Nat.le_of_eq Hll.out) hn1; omega)).mono ?_
   rintro e w2 ⟨rfl, h2⟩
   have HF2 : Hid (RFldTo w W w2 w.heap.size S l (i + 1)) := Lib.hid (HF.out.step Hx.out (Nat.le_refl _) HmW.out h2)
   clear h2
   go_wp2_with fail
   go_roundg (gk - 1)
   case measure => have := Hil.out; omega
   case rel => exact ⟨i + 1, by have := Hil.out; omega, by go_num, HF2.out⟩
  ·have hi : i = n1 := by have := Hil.out; omega
   obtain ⟨row, hwr⟩ := HF.out.wr Hll.out hi
   have Hwr := Lib.hid hwr; have Hmr := Lib.hid HF.out.2
   have hr1 : ([] : List Value).length + n0 ≤ maxLen := by unfold maxLen; simp; omega
   have hr2 : (([] : List Value).length + n0) * 1 ≤ 140737488355328 := by simp; omega
   have h0m : (0 : Nat) ≤ maxLen := Nat.zero_le _
   have Hr0 : Hid (Rds wr wr.heap.size A0 n0 (cells8 hd)) := Lib.hid ((H0.out.mod Hmr.out HB.out (fun _ _ h => h)).more (Nat.le_trans HB.out Hmr.out.size))
   clear hwr HF hi
   obtain ⟨wo, rfl⟩ : ∃ wo : World, wo = wr := ⟨_, rfl⟩
   go_wp2_with (at_builtin; refine wpList_app rfl (.tmp 24) (.tmp 25) _ rfl elt8 rfl (Own.lit wo 5 #[] h0m) rfl (Hr0.out.alloc (Nat.le_refl _) _) (cells8_one hd) hr1 hr2 (le_alloc _ _) ?_; intro v3 w3 HO3 HBl3 HG3; clear HG3)
   have hbel : Below wo.heap.size wo w3 := ((Below.refl _ _).alloc (Nat.le_refl _) _).trans HBl3.out
   have hwr3 : RWr w3 w.heap.size row (fnum (flds S l)) (flen (flds S l)) := Hwr.out.mod (Mod.of_below hbel) (by have := Hwr.out.lt; omega) (fun k hk h => by have := Hwr.out.row_lt k hk; omega)
   have Ho3 : Hid (Own wo.heap.size w3 5 v3 (cells8 hd)) := Lib.hid HO3.out
   have Hwr3 := Lib.hid hwr3
   have Hm3 := Lib.hid (Hmr.out.trans (mod_below hbel) (fun _ _ h => h))
   have hsz3 := hbel.size
   clear hwr3 hbel HO3 HBl3 hr1 hr2
   go_wp2_with fail
   refine (rbytes_any w.heap.size row _ _ w3 Hwr3.out (by have := flds_small (i := n1) (l := l) hS (Nat.le_of_eq Hll.out) hn1; rw [List.take_of_length_le (by rw [Hll.out]; exact Nat.le_refl _)] at this; omega)).mono ?_
   rintro e w4 ⟨v4, bs, rfl, hnew, hpk⟩
   obtain ⟨A4, c4, rfl, hr4, hm4⟩ := hnew.rds
   obtain rfl := hpk.packW
   have Hr4 := Lib.hid hr4; have Ho4 := Lib.hid (Ho3.out.mod hm4); have Hm4 := Lib.hid (Hm3.out.trans hm4 (fun _ _ h => h))
   have hpl : (packW S l).length ≤ 8000001 := by rw [packW_len, Hll.out]; have := Nat.mul_le_mul hS hn1; omega
   have Hone : Hid (∀ u ∈ cells8 (packW S l), u.oneCell' = true) := Lib.hid (cells8_one _)
   have hR4 : Room (cells8 hd).length (packW S l).length := Room.mk _ _ (by rw [cells8_length, Hhl.out]; omega)
   have HR4 := Lib.hid hR4
   have hsz4 : wo.heap.size ≤ w4.heap.size := Nat.le_trans hsz3 hm4.size
   clear hnew hpk hr4 hm4 hR4 hpl
   go_wp2_with (at_builtin; refine wpList_app rfl (.tmp 26) (.tmp 28) _ rfl elt8 rfl Ho4.out rfl Hr4.out Hone.out HR4.out.1 HR4.out.2 hsz4 ?_; intro v5 w5 HO5 HBl5 HG5; clear HG5)
   go_ret
   have ho5 := HO5.out
   rw [cells8_app] at ho5
   exact ⟨_, rfl, ho5.mono Hmr.out.size, Hm4.out.trans (Mod.of_below HBl5.out) (fun i hi h => by have := Hmr.out.size; omega)⟩
theorem rd1_getO (k : Nat) (s : Option (Nat × Nat)) : rd1 k s = getO k s := by
 cases s with
 | none => rfl
 | some p =>
  obtain ⟨R, rem⟩ := p
  rw [getO_take]
  rfl
theorem getO_lt64 {k : Nat} {s : Option (Nat × Nat)} (hk : k ≤ 64) (hs : ∀ R rem, s = some (R, rem) → R < 2 ^ rem) : (getO k s).1 < 2 ^ 64 := by
 cases s with
 | none => exact Nat.two_pow_pos 64
 | some p =>
  obtain ⟨R, rem⟩ := p
  exact Nat.lt_of_lt_of_le (getO_lt (hs R rem rfl) k) (Nat.pow_le_pow_right (by omega) hk)
theorem rdW_next (w n : Nat) (s : Option (Nat × Nat)) : rdW w (n + 1) s = rdW w n s ++ [(getO w (lfW w n s)).1] := by rw [rdW_snoc, rd1_getO]
theorem lfW_next (w n : Nat) (s : Option (Nat × Nat)) : lfW w (n + 1) s = (getO w (lfW w n s)).2 := by rw [lfW_succ, rd1_getO]
end Go.Proofs.YthgoppmgapaajaaGreatDoor

/- The statements' own rows of times: Times. -/
namespace Go.Proofs.YthgoppmgapaajaaGreatDoor
open Go.RowKit

def TimesTo (w wr : World) (v : Value) (z : Int) (i : Nat) : Prop := ∃ ts : List Int, Own w.heap.size wr 2 v (cellsI ts) ∧ ts.length = i ∧ (∀ x ∈ ts, Fits x) ∧ FitI z ∧ Mod (fun _ => False) w wr
theorem wrap_fits (x : Int) : Fits (wrap64 x) := by rw [wrap_sg]; exact sg_fits (un_lt x)
theorem fitI_of {x : Int} (h : FitI x) : Fits x := by
 have h1 := h.out
 have hh : (H63 : Int) = 9223372036854775808 := rfl
 exact ⟨by omega, by omega⟩
theorem of_fits {x : Int} (h : Fits x) : FitI x := by
 have h1 := h.1; have h2 := h.2
 have hh : (H63 : Int) = 9223372036854775808 := rfl
 exact ⟨by omega, by omega⟩
theorem eight {a b c d e : Int} {j : Nat} (h : j < 8) : ∃ y : Int, (#[Value.int .i64 a, .int .i64 b, .int .i64 c, .int .i64 d, .int .i64 e, .int .i64 60, .int .i64 60, .int .i64 60] : Array Value)[j]? = some (.int .i64 y) := by
 have h' : j = 0 ∨ j = 1 ∨ j = 2 ∨ j = 3 ∨ j = 4 ∨ j = 5 ∨ j = 6 ∨ j = 7 := by omega
 rcases h' with rfl | rfl | rfl | rfl | rfl | rfl | rfl | rfl <;> exact ⟨_, rfl⟩
/-- Behind the literal: its cell j; nothing else has turned. -/
def TimC (wr : World) (p : Addr) (x : Int) (H j : Nat) (y : Int) (w' : World) : Prop := w'.cell? p = some (.int .i64 x) ∧ w'.cell? ⟨H, j, none⟩ = some (.int .i64 y) ∧ Mod (fun _ => False) wr w'
set_option maxHeartbeats 4000000 in
set_option maxRecDepth 100000 in
theorem times_any (A : Option Addr) (n c : Nat) (zs : List Int) (raw : Bool) (w : World) (hs : SeesI .i64 w w.heap.size A n zs) (hz : ∀ x ∈ zs, FitI x) :
  Calls Tryz.prog 17 #[.slice A n c, .bool raw] w fun e w' => ∃ (v : Value) (ts : List Int), e = .returned v ∧ Own w.heap.size w' 2 v (cellsI ts) ∧ ts.length ≤ 60 ∧ (∀ x ∈ ts, Fits x) ∧ Mod (fun _ => False) w w' := by
 have Hs := Lib.hid hs; have Hz := Lib.hid hz
 have H0 : Hid (∀ z, FitI z → TimesTo w w (.slice none 0 0) z 0) := Lib.hid (fun z hz => ⟨[], Own.nil _ _ _, rfl, (fun _ h => by cases h), hz, Mod.refl _ _⟩)
 clear hs hz
 go_enter Tryz.func17, Tryz.ntmps17
 go_upto_if 11 with fail
 go_cut [6] (fun s6 wc => ∃ z, FitI z ∧ s6 = .int .i64 z ∧ w = wc)
 case first =>
  by_cases h0 : 0 < n
  ·obtain ⟨ad, x, rfl, hx, hcx⟩ := Hs.out.at_ h0 (Nat.le_refl _) (Mod.refl (fun _ => False) w) (fun _ _ h => h)
   have hxf := Hz.out x (List.mem_of_getElem? hx)
   have hcx0 : w.cell? ad = some (.int .i64 x) := by rw [← add_zero' ad]; exact hcx
   clear hx hcx
   go_wp2_with fail
   go_meet
   case rel => exact ⟨x, hxf, rfl, rfl⟩
  ·go_wp2_with fail
   go_meet
   case rel => exact ⟨0, ⟨by decide, by decide⟩, rfl, rfl⟩
 case rest =>
  obtain ⟨z, hzf, rfl, rfl⟩ := hcut
  have H1 : Hid (TimesTo w w (.slice none 0 0) z 0) := Lib.hid (H0.out z hzf)
  clear H0 hzf
  go_wp2_with fail
  go_loopg [5, 6, 7] 60 (fun l s5 s6 s7 wr => ∃ (i : Nat) (z : Int), i + l = 60 ∧ s7 = .int .i64 (i : Int) ∧ s6 = .int .i64 z ∧ TimesTo w wr s5 z i)
  case atStart => exact ⟨0, z, by omega, rfl, rfl, H1.out⟩
  case round =>
   obtain ⟨i, z, hil, rfl, rfl, hT⟩ := hrel
   have HT := Lib.hid hT; have Hil := Lib.hid hil
   clear hT hil H1
   by_cases hin : i < n
   ·by_cases hi60 : i < 60
    ·obtain ⟨ts, hown, hl, hf, hzf, hm⟩ := HT.out
     obtain ⟨ad, x, rfl, hx, hcx⟩ := Hs.out.at_ hin (Nat.le_refl _) hm (fun _ _ h => h)
     have hxf := Hz.out x (List.mem_of_getElem? hx)
     have hlt := World.block_lt_of_cell? wr _ hcx
     have Hown := Lib.hid hown; have Hl := Lib.hid hl; have Hf := Lib.hid hf; have Hm := Lib.hid hm; have Hx := Lib.hid hx
     clear hown hl hf hm hx HT
     have hi0 : (0 : Int) ≤ (i : Int) := by omega
     have hw7 : IntKind.i64.wrap ((i : Int) + 1) = (i : Int) + 1 := IntWalk.i64_in _ (by omega)
     go_upto_if 30 with fail
     go_cut [8] (fun s8 wc => ∃ y, Fits y ∧ s8 = .int .i64 y ∧ Mod (fun _ => False) wr wc)
     case first =>
      cases raw with
      | true =>
       go_wp2_with fail
       go_meet
       case rel => exact ⟨x, fitI_of hxf, rfl, Mod.refl _ _⟩
      | false =>
       obtain ⟨j, hj, hj8⟩ : ∃ j : Nat, bits .and .i64 x 7 = (j : Int) ∧ j < 8 := and_nat x 7 3 rfl (by omega)
       have hcd : wr.drew.cell? (ad.add i) = some (.int .i64 x) := hcx
       have hal : ∀ o, (wr.drew.alloc o).cell? (ad.add i) = some (.int .i64 x) := fun o => (World.cell?_alloc_lt wr.drew o _ hlt).trans hcx
       go_wp2_with fail
       refine wp_region_held_drew (S := fun w' => w'.cell? (ad.add i) = some (.int .i64 x)) (by kernel_rfl) hcd (fun hHeld => ?_)
       refine wpAnyH_take (i := 0) (v := ?_) rfl (by kernel_rfl) (by kernel_rfl) (by kernel_rfl) (fun _ _ _ h => h) (Or.inl ⟨by rfl, ?_⟩) hHeld ?_
       rotate_left
       ·(intro w hSw; (try dsimp only at hSw); go_simp; first | done | with_reducible rfl)
       simp only [Act.put]
       refine wpAnyH_take (i := 1) (v := ?_) rfl (by kernel_rfl) (by kernel_rfl) (by kernel_rfl) (fun _ _ _ h => h) (Or.inl ⟨by rfl, ?_⟩) hHeld ?_
       rotate_left
       ·(intro w hSw; (try dsimp only at hSw); go_simp; first | done | with_reducible rfl)
       simp only [Act.put]
       refine wpAnyH_take (i := 2) (v := ?_) rfl (by kernel_rfl) (by kernel_rfl) (by kernel_rfl) (fun _ _ _ h => h) (Or.inl ⟨by rfl, ?_⟩) hHeld ?_
       rotate_left
       ·(intro w hSw; (try dsimp only at hSw); go_simp; first | done | with_reducible rfl)
       simp only [Act.put]
       refine wpAnyH_take (i := 3) (v := ?_) rfl (by kernel_rfl) (by kernel_rfl) (by kernel_rfl) (fun _ _ _ h => h) (Or.inl ⟨by rfl, ?_⟩) hHeld ?_
       rotate_left
       ·(intro w hSw; (try dsimp only at hSw); go_simp; first | done | with_reducible rfl)
       simp only [Act.put]
       refine wpAnyH_take (i := 4) (v := ?_) rfl (by kernel_rfl) (by kernel_rfl) (by kernel_rfl) (fun _ _ _ h => h) (Or.inl ⟨by rfl, ?_⟩) hHeld ?_
       rotate_left
       ·(intro w hSw; (try dsimp only at hSw); go_simp; first | done | with_reducible rfl)
       simp only [Act.put]
       refine wpAnyH_take (i := 5) (v := ?_) rfl (by kernel_rfl) (by kernel_rfl) (by kernel_rfl) (fun _ _ _ h => h) (Or.inl ⟨by rfl, ?_⟩) hHeld ?_
       rotate_left
       ·(intro w hSw; (try dsimp only at hSw); go_simp; first | done | with_reducible rfl)
       simp only [Act.put]
       refine wpAnyH_take (i := 6) (v := ?_) rfl (by kernel_rfl) (by kernel_rfl) (by kernel_rfl) (fun _ _ _ h => h) (Or.inl ⟨by rfl, ?_⟩) hHeld ?_
       rotate_left
       ·(intro w hSw; (try dsimp only at hSw); go_simp; first | done | with_reducible rfl)
       simp only [Act.put]
       refine wpAnyH_take (i := 7) (v := ?_) rfl (by kernel_rfl) (by kernel_rfl) (by kernel_rfl) (fun _ _ _ h => h) (Or.inl ⟨by rfl, ?_⟩) hHeld ?_
       rotate_left
       ·(intro w hSw; (try dsimp only at hSw); go_simp; first | done | with_reducible rfl)
       simp only [Act.put]
       refine wpAnyH_take (i := 8) (v := ?_) rfl (by kernel_rfl) (by kernel_rfl) (by kernel_rfl) (fun _ _ _ h => h) (Or.inl ⟨by rfl, ?_⟩) hHeld ?_
       rotate_left
       ·(intro w hSw; (try dsimp only at hSw); go_simp; first | done | with_reducible rfl)
       simp only [Act.put]
       refine wpAnyH_take (i := 9) (v := ?_) rfl (by kernel_rfl) (by kernel_rfl) (by kernel_rfl) (fun _ _ _ h => h) (Or.inl ⟨by rfl, ?_⟩) hHeld ?_
       rotate_left
       ·(intro w hSw; (try dsimp only at hSw); go_simp; first | done | with_reducible rfl)
       simp only [Act.put]
       refine wpAnyH_take (i := 10) (v := ?_) rfl (by kernel_rfl) (by kernel_rfl) (by kernel_rfl) (fun _ _ _ h => h) (Or.inl ⟨by rfl, ?_⟩) hHeld ?_
       rotate_left
       ·(intro w hSw; (try dsimp only at hSw); go_simp; first | done | with_reducible rfl)
       simp only [Act.put]
       refine wpAnyH_take (i := 11) (v := ?_) rfl (by kernel_rfl) (by kernel_rfl) (by kernel_rfl) (fun _ _ _ h => h) (Or.inl ⟨by rfl, ?_⟩) hHeld ?_
       rotate_left
       ·(intro w hSw; (try dsimp only at hSw); go_simp; first | done | with_reducible rfl)
       simp only [Act.put]
       refine wpAnyH_take (i := 12) (v := ?_) rfl (by kernel_rfl) (by kernel_rfl) (by kernel_rfl) (fun _ _ _ h => h) (Or.inl ⟨by rfl, ?_⟩) hHeld ?_
       rotate_left
       ·(intro w hSw; (try dsimp only at hSw); go_simp; first | done | with_reducible rfl)
       simp only [Act.put]
       refine wpAnyH_take (i := 13) (v := ?_) rfl (by kernel_rfl) (by kernel_rfl) (by kernel_rfl) (fun _ _ _ h => h) (Or.inl ⟨by rfl, ?_⟩) hHeld ?_
       rotate_left
       ·(intro w hSw; (try dsimp only at hSw); go_simp; first | done | with_reducible rfl)
       simp only [Act.put]
       refine wpAnyH_take (i := 14) (v := ?_) rfl (by kernel_rfl) (by kernel_rfl) (by kernel_rfl) (fun _ _ _ h => h) (Or.inl ⟨by rfl, ?_⟩) hHeld ?_
       rotate_left
       ·(intro w hSw; (try dsimp only at hSw); go_simp; first | done | with_reducible rfl)
       simp only [Act.put]
       refine wpAnyH_take (i := 15) (v := ?_) rfl (by kernel_rfl) (by kernel_rfl) (by kernel_rfl) (fun _ _ _ h => h) (Or.inl ⟨by rfl, ?_⟩) hHeld ?_
       rotate_left
       ·(intro w hSw; (try dsimp only at hSw); go_simp; first | done | with_reducible rfl)
       simp only [Act.put]
       refine wpAnyH_take (i := 16) (v := ?_) rfl (by kernel_rfl) (by kernel_rfl) (by kernel_rfl) (fun _ _ _ h => h) (Or.inl ⟨by rfl, ?_⟩) hHeld ?_
       rotate_left
       ·(intro w hSw; (try dsimp only at hSw); go_simp; first | done | with_reducible rfl)
       simp only [Act.put]
       refine wpAnyH_take (i := 17) (v := ?_) rfl (by kernel_rfl) (by kernel_rfl) (by kernel_rfl) (fun _ _ _ h => h) (Or.inl ⟨by rfl, ?_⟩) hHeld ?_
       rotate_left
       ·(intro w hSw; (try dsimp only at hSw); go_simp; first | done | with_reducible rfl)
       simp only [Act.put]
       refine wpAnyH_take (i := 18) (v := ?_) rfl (by kernel_rfl) (by kernel_rfl) (by kernel_rfl) (fun _ _ _ h => h) (Or.inl ⟨by rfl, ?_⟩) hHeld ?_
       rotate_left
       ·(intro w hSw; (try dsimp only at hSw); go_simp; first | done | with_reducible rfl)
       simp only [Act.put]
       refine wpAnyH_take (i := 19) (v := ?_) rfl (by kernel_rfl) (by kernel_rfl) (by kernel_rfl) (fun _ _ _ h => h) (Or.inl ⟨by rfl, ?_⟩) hHeld ?_
       rotate_left
       ·(intro w hSw; (try dsimp only at hSw); go_simp; first | done | with_reducible rfl)
       simp only [Act.put]
       refine wpAnyH_take (i := 20) (v := ?_) rfl (by kernel_rfl) (by kernel_rfl) (by kernel_rfl) (fun _ _ _ h => h) (Or.inl ⟨by rfl, ?_⟩) hHeld ?_
       rotate_left
       ·(intro w hSw; (try dsimp only at hSw); go_simp; first | done | with_reducible rfl)
       simp only [Act.put]
       refine wpAnyH_take (i := 21) (v := ?_) rfl (by kernel_rfl) (by kernel_rfl) (by kernel_rfl) (fun _ _ _ h => h) (Or.inl ⟨by rfl, ?_⟩) hHeld ?_
       rotate_left
       ·(intro w hSw; (try dsimp only at hSw); go_simp; first | done | with_reducible rfl)
       simp only [Act.put]
       refine wpAnyH_take (i := 22) (v := ?_) rfl (by kernel_rfl) (by kernel_rfl) (by kernel_rfl) (fun _ _ _ h => h) (Or.inl ⟨by rfl, ?_⟩) hHeld ?_
       rotate_left
       ·(intro w hSw; (try dsimp only at hSw); go_simp; first | done | with_reducible rfl)
       simp only [Act.put]
       refine wpAnyH_take (i := 23) (v := ?_) rfl (by kernel_rfl) (by kernel_rfl) (by kernel_rfl) (fun _ _ _ h => h) (Or.inl ⟨by rfl, ?_⟩) hHeld ?_
       rotate_left
       ·(intro w hSw; (try dsimp only at hSw); go_simp; first | done | with_reducible rfl)
       simp only [Act.put]
       refine wpAnyH_take (i := 24) (v := ?_) rfl (by kernel_rfl) (by kernel_rfl) (by kernel_rfl) (fun _ _ _ h => h) (Or.inl ⟨by rfl, ?_⟩) hHeld ?_
       rotate_left
       ·(intro w hSw; (try dsimp only at hSw); go_simp; first | done | with_reducible rfl)
       simp only [Act.put]
       refine wpAnyH_take (i := 25) (v := ?_) rfl (by kernel_rfl) (by kernel_rfl) (by kernel_rfl) (fun _ _ _ h => h) (Or.inl ⟨by rfl, ?_⟩) hHeld ?_
       rotate_left
       ·(intro w hSw; (try dsimp only at hSw); go_simp; first | done | with_reducible rfl)
       simp only [Act.put]
       refine wpAnyH_take (i := 26) (v := ?_) rfl (by kernel_rfl) (by kernel_rfl) (by kernel_rfl) (fun _ _ _ h => h) (Or.inl ⟨by rfl, ?_⟩) hHeld ?_
       rotate_left
       ·(intro w hSw; (try dsimp only at hSw); go_simp; first | done | with_reducible rfl)
       simp only [Act.put]
       refine wpAnyH_take (i := 27) (v := ?_) rfl (by kernel_rfl) (by kernel_rfl) (by kernel_rfl) (fun _ _ _ h => h) (Or.inl ⟨by rfl, ?_⟩) hHeld ?_
       rotate_left
       ·(intro w hSw; (try dsimp only at hSw); go_simp; first | done | with_reducible rfl)
       simp only [Act.put]
       refine wpAnyH_take (i := 28) (v := ?_) rfl (by kernel_rfl) (by kernel_rfl) (by kernel_rfl) (fun _ _ _ h => h) (Or.inl ⟨by rfl, ?_⟩) hHeld ?_
       rotate_left
       ·(intro w hSw; (try dsimp only at hSw); go_simp; first | done | with_reducible rfl)
       simp only [Act.put]
       refine wpAnyH_take (i := 29) (v := ?_) rfl (by kernel_rfl) (by kernel_rfl) (by kernel_rfl) (fun _ _ _ h => h) (Or.inl ⟨by rfl, ?_⟩) hHeld ?_
       rotate_left
       ·(intro w hSw; (try dsimp only at hSw); go_simp; first | done | with_reducible rfl)
       simp only [Act.put]
       refine wpAnyH_take (i := 30) (v := ?_) rfl (by kernel_rfl) (by kernel_rfl) (by kernel_rfl) (fun _ _ _ h => h) (Or.inl ⟨by rfl, ?_⟩) hHeld ?_
       rotate_left
       ·(intro w hSw; (try dsimp only at hSw); go_simp; first | done | with_reducible rfl)
       simp only [Act.put]
       refine wpAnyH_take (i := 31) (v := ?_) rfl (by kernel_rfl) (by kernel_rfl) (by kernel_rfl) (fun _ _ _ h => h) (Or.inl ⟨by rfl, ?_⟩) hHeld ?_
       rotate_left
       ·(intro w hSw; (try dsimp only at hSw); go_simp; first | done | with_reducible rfl)
       simp only [Act.put]
       refine wpAnyH_take (i := 32) (v := ?_) rfl (by kernel_rfl) (by kernel_rfl) (by kernel_rfl) (fun _ _ _ h => h) (Or.inl ⟨by rfl, ?_⟩) hHeld ?_
       rotate_left
       ·(intro w hSw; (try dsimp only at hSw); go_simp; first | done | with_reducible rfl)
       simp only [Act.put]
       refine wpAnyH_take (i := 34) (v := ?_) rfl (by kernel_rfl) (by kernel_rfl) (by kernel_rfl) (fun _ _ _ h => h) (Or.inl ⟨by rfl, ?_⟩) hHeld ?_
       rotate_left
       ·(intro w hSw; (try dsimp only at hSw); go_simp; first | done | with_reducible rfl)
       simp only [Act.put]
       refine wpAnyH_take (i := 35) (v := ?_) rfl (by kernel_rfl) (by kernel_rfl) (by kernel_rfl) (fun _ _ _ h => h) (Or.inl ⟨by rfl, ?_⟩) hHeld ?_
       rotate_left
       ·(intro w hSw; (try dsimp only at hSw); go_simp; first | done | with_reducible rfl)
       simp only [Act.put]
       refine wpAnyH_take (i := 36) (v := ?_) rfl (by kernel_rfl) (by kernel_rfl) (by kernel_rfl) (fun _ _ _ h => h) (Or.inl ⟨by rfl, ?_⟩) hHeld ?_
       rotate_left
       ·(intro w hSw; (try dsimp only at hSw); go_simp; first | done | with_reducible rfl)
       simp only [Act.put]
       refine wpAnyH_take (i := 37) (v := ?_) rfl (by kernel_rfl) (by kernel_rfl) (by kernel_rfl) (fun _ _ _ h => h) (Or.inl ⟨by rfl, ?_⟩) hHeld ?_
       rotate_left
       ·(intro w hSw; (try dsimp only at hSw); go_simp; first | done | with_reducible rfl)
       simp only [Act.put]
       refine wpAnyH_take (i := 38) (v := ?_) rfl (by kernel_rfl) (by kernel_rfl) (by kernel_rfl) (fun _ _ _ h => h) (Or.inl ⟨by rfl, ?_⟩) hHeld ?_
       rotate_left
       ·(intro w hSw; (try dsimp only at hSw); go_simp; first | done | with_reducible rfl)
       simp only [Act.put]
       refine wpAnyH_ready (rs := [33]) (by kernel_rfl) (by simp) (AllReadyH.cons rfl (fun K hK => ?_) AllReadyH.nil)
       go_simp
       refine hK.out _ _ (hal _) (fun _ => ?_)
       clear hK K
       obtain ⟨y, hy⟩ := eight (a := IntKind.i64.wrap ((bits BinOp.and IntKind.i64 (x / 256) 3).tdiv 3)) (b := bits BinOp.and IntKind.i64 (x / 256) 63) (c := bits BinOp.and IntKind.i64 (x / 256) 255) (d := bits BinOp.and IntKind.i64 (x / 256) 4095) (e := bits BinOp.and IntKind.i64 (x / 256) 16777215) hj8
       refine wpAnyH_lex (k := 39) (TimC wr (ad.add i) x wr.heap.size j y) ⟨hal _, ?_, ?_⟩ (fun _ h => h.1) (by kernel_rfl) rfl rfl (by kernel_rfl) ?_
       ·exact ((Blk.new wr _ _).cell j).trans hy
       ·exact ((Mod.refl _ _).alloc _).drew
       clear hy
       have hj0 : (0 : Int) ≤ (j : Int) := by omega
       have hj8' : (j : Int) < 8 := by omega
       quiet_step (exact fun _ => rfl)
       refine wpQuiet_step (fun K hK => ?_)
       go_simp
       refine ⟨.int .i64 y, fun w2 h2 => ?_, hK _ ?_⟩
       ·rw [h2.2.1]
        exact ⟨rfl, rfl⟩
       clear hK K
       iterate 2 quiet_step (exact fun _ => rfl)
       refine wpQuiet_nil ?_
       intro w2 h2
       have Hm2 := Lib.hid h2.2.2
       clear h2
       go_wp2_with fail
       go_meet
       case rel => exact ⟨IntKind.i64.wrap (IntKind.i64.wrap (z + 1) + y), by rw [IntWalk.i64_left]; exact wrap_fits _, rfl, Hm2.out⟩
     case rest =>
      obtain ⟨y, hyf, rfl, hm2⟩ := hcut
      have Hm2 := Lib.hid (Hm.out.trans hm2 (fun _ _ h => h))
      have Hown2 : Hid (Own w.heap.size wc 2 u5 (cellsI ts)) := Lib.hid (hm2.owns Hown.out (fun _ _ h => h))
      have Hyf := Lib.hid hyf
      have hsz := Hm2.out.size
      have hr1 : (cellsI ts).length + 1 ≤ maxLen := by rw [cellsI_length, Hl.out]; unfold maxLen; omega
      have hr2 : ((cellsI ts).length + 1) * 8 ≤ 140737488355328 := by rw [cellsI_length, Hl.out]; omega
      clear hm2 hcx hlt hyf hw7
      go_wp2_with (at_builtin; refine wpList_app1 rfl (.tmp 73) (.tmp 75) _ rfl elt64 rfl Hown2.out rfl rfl rfl hr1 hr2 hsz ?_; intro v' w2 HO HB)
      have HT2 : Hid (TimesTo w w2 v' y (i + 1)) := Lib.hid ⟨ts ++ [y], by rw [cellsI_snoc]; exact HO.out, by simp [Hl.out], fun u hu => (by
       rw [List.mem_append, List.mem_singleton] at hu
       rcases hu with hu | rfl
       ·exact Hf.out u hu
       ·exact Hyf.out), of_fits Hyf.out, Hm2.out.trans (Mod.of_below HB.out) (fun i hi h => by omega)⟩
      go_roundg (gk - 1)
      case measure => have := Hil.out; omega
      case rel => exact ⟨i + 1, y, by have := Hil.out; omega, by go_num, rfl, HT2.out⟩
    ·go_wp2_with fail
     go_ret
     obtain ⟨ts, hown, hl, hf, hzf, hm⟩ := HT.out
     exact ⟨_, ts, rfl, hown, by have := Hil.out; omega, hf, hm⟩
   ·go_wp2_with fail
    go_ret
    obtain ⟨ts, hown, hl, hf, hzf, hm⟩ := HT.out
    exact ⟨_, ts, rfl, hown, by have := Hil.out; omega, hf, hm⟩
end Go.Proofs.YthgoppmgapaajaaGreatDoor

/- The statements' own rows of samples: Row. -/
namespace Go.Proofs.YthgoppmgapaajaaGreatDoor
open Go.RowKit

/-- A row that rises, as far as i. -/
def RowSo (w wr : World) (v : Value) (l : List (Int × Nat)) (i : Nat) : Prop := OwnS w.heap.size wr v l ∧ GoodS l ∧ RiseTo l l.length ∧ l.length ≤ i ∧ Mod (fun _ => False) w wr
theorem RiseTo.snoc {l : List (Int × Nat)} {T : Int} {V : Nat} (h : RiseTo l l.length) (hl : l.length = 0 ∨ ∃ k q, l.length = k + 1 ∧ l[k]? = some q ∧ q.1 < T) : RiseTo (l ++ [(T, V)]) (l ++ [(T, V)]).length := by
 intro j a b hj ha hb
 have e : tsOf (l ++ [(T, V)]) = tsOf l ++ [T] := by simp [tsOf]
 rw [e] at ha hb
 rw [List.length_append, List.length_singleton] at hj
 rcases Nat.lt_or_ge (j + 1) l.length with h1 | h1
 ·rw [List.getElem?_append_left (by rw [tsOf_len]; omega)] at ha hb
  exact h j a b h1 ha hb
 ·obtain ⟨k, q, hk, hq, hlt⟩ : ∃ k q, l.length = k + 1 ∧ l[k]? = some q ∧ q.1 < T := by
   rcases hl with h0 | h0
   ·omega
   ·exact h0
  obtain rfl : j = k := by omega
  rw [List.getElem?_append_left (by rw [tsOf_len]; omega), ts_get hq] at ha
  rw [List.getElem?_append_right (by rw [tsOf_len]; omega), tsOf_len, hk, Nat.sub_self] at hb
  injection ha with ha
  injection hb with hb
  rw [← ha, ← hb]
  exact hlt
theorem RowSo.snoc {w wr w2 : World} {v v2 : Value} {l : List (Int × Nat)} {i : Nat} {T : Int} {V : Nat} (h : RowSo w wr v l i) (ho : OwnS w.heap.size w2 v2 (l ++ [(T, V)])) (hT : Fits T) (hV : V < 2 ^ 64) (hm : Mod (fun _ => False) w w2)
  (hl : l.length = 0 ∨ ∃ k q, l.length = k + 1 ∧ l[k]? = some q ∧ q.1 < T) : RowSo w w2 v2 (l ++ [(T, V)]) (i + 1) := by
 obtain ⟨_, h2, h3, h4, h5⟩ := h
 refine ⟨ho, fun p hp => ?_, h3.snoc hl, by rw [List.length_append, List.length_singleton]; omega, hm⟩
 rcases List.mem_append.1 hp with hp | hp
 ·exact h2 p hp
 ·rw [List.mem_singleton.1 hp]
  exact ⟨hT, hV⟩
theorem RowSo.stay {w wr w2 : World} {v : Value} {l : List (Int × Nat)} {i : Nat} (h : RowSo w wr v l i) (hm : Mod (fun _ => False) wr w2) : RowSo w w2 v l (i + 1) := by
 obtain ⟨h1, h2, h3, h4, h5⟩ := h
 exact ⟨h1.mod hm, h2, h3, by omega, h5.trans hm (fun _ _ h => h)⟩
set_option maxHeartbeats 2000000 in
set_option maxRecDepth 100000 in
theorem row_any (A A2 : Option Addr) (n c n2 c2 : Nat) (zs : List Int) (us : List Nat) (how : Int) (w : World) (hs : SeesI .i64 w w.heap.size A n zs) (hz : ∀ x ∈ zs, FitI x) (hs2 : Rds w w.heap.size A2 n2 (cellsU us)) (hu : ∀ x ∈ us, x < 2 ^ 64) :
  Calls Tryz.prog 5 #[.slice A n c, .slice A2 n2 c2, .int .i64 how] w fun e w' => ∃ (v : Value) (l : List (Int × Nat)), e = .returned v ∧ OwnS w.heap.size w' v l ∧ GoodS l ∧ riseB l = true ∧ l.length ≤ 60 ∧ Mod (fun _ => False) w w' := by
 have Hs := Lib.hid hs; have Hz := Lib.hid hz; have Hs2 := Lib.hid hs2; have Hu := Lib.hid hu
 have hcs : Tryz.prog.cellsOf 36 = 2 := by kernel_rfl
 clear hs hz hs2 hu
 go_enter Tryz.func5, Tryz.ntmps5
 go_wp2_with fail
 refine (times_any A n c zs _ w Hs.out Hz.out).mono ?_
 rintro e w1 ⟨v1, ts, rfl, hown1, hl60, hf, hm1⟩
 obtain ⟨A8, c8, rfl, hr8⟩ := own_form hown1
 obtain ⟨n8, hn8⟩ : ∃ n8, ts.length = n8 := ⟨_, rfl⟩
 rw [hn8] at hr8 hl60
 rw [hn8]
 have Hr8 := Lib.hid hr8; have Hf := Lib.hid hf; have Hm1 := Lib.hid hm1; have Hs21 := Lib.hid (Hs2.out.new hm1).fit
 clear hown1 hf hm1 hr8 hn8 Hs Hz Hs2
 go_wp2_with fail
 refine (values_any A2 n2 c2 us how w1 Hs21.out Hu.out).mono ?_
 rintro e w2 ⟨v2, vs, rfl, hown2, hv60, hv64, hm2⟩
 obtain ⟨A9, n9, c9, rfl, HL9, hc9, hr9⟩ := own_formUN hown2
 have hn9 : n9 ≤ 60 := by have := HL9.out; omega
 have Hr8b := Lib.hid (Hr8.out.new hm2).fit; have Hr9 := Lib.hid hr9; have Hm2 := Lib.hid (Hm1.out.trans hm2 (fun _ _ h => h)); have Hv64 := Lib.hid hv64
 have H0 : Hid (RowSo w2 w2 (.slice none 0 0) [] 0) := Lib.hid ⟨OwnS.nil _ _, (fun p h => by cases h), (fun j a b h => by simp at h), Nat.le_refl _, Mod.refl _ _⟩
 clear hown2 hv64 hm2 hr9 Hr8 Hm1 Hs21 Hu hv60 hc9
 go_wp2_with fail
 go_loopg [7, 23] n8 (fun k s7 s23 wr => ∃ (i : Nat) (l : List (Int × Nat)), i + k = n8 ∧ s23 = .int .i64 (i : Int) ∧ RowSo w2 wr s7 l i)
 case atStart => exact ⟨0, [], by omega, rfl, H0.out⟩
 case round =>
  obtain ⟨i, l, hik, rfl, hR⟩ := hrel
  have Hik := Lib.hid hik; have HR := Lib.hid hR
  clear hik hR H0
  by_cases hin : i < n8
  ·have hm := HR.out.2.2.2.2
   obtain ⟨ad, T, rfl, hT, hcT⟩ := Hr8b.out.seesI.at_ hin (Nat.le_refl _) hm (fun _ _ h => h)
   have HT : Hid (Fits T) := Lib.hid (Hf.out T (List.mem_of_getElem? hT))
   obtain ⟨gs, hgs⟩ : ∃ gs, gs = wr.heap.size := ⟨_, rfl⟩
   have Hm := Lib.hid hm; have Hgs := Lib.hid hgs
   clear hm hT hgs
   go_upto_if 33 with fail
   go_cut [11] (fun s11 wc => ∃ V : Nat, s11 = .pointer (some ⟨gs, 0, none⟩) ∧ V < 2 ^ 64 ∧ Blk wc gs 36 #[.int .i64 T, .int .u64 (V : Int)] ∧ Mod (fun _ => False) wr wc)
   case first =>
    by_cases hv : 0 < n9
    ·obtain ⟨j, hj⟩ : ∃ j, j = i % n9 := ⟨_, rfl⟩
     have hj9 : j < n9 := by rw [hj]; exact Nat.mod_lt _ hv
     have hmod : (i : Int) % (n9 : Int) = (j : Int) := by rw [hj]; rfl
     have htm : (i : Int).tmod (n9 : Int) = (j : Int) := by rw [Int.tmod_eq_emod_of_nonneg (by omega)]; exact hmod
     have hvi : (0 : Int) < (n9 : Int) := by omega
     have hv0 : ((n9 : Int) == 0) = false := by simp; omega
     obtain ⟨ad9, V, rfl, hV, hcV⟩ := Hr9.out.at2 hj9 (Nat.le_refl _) Hm.out (fun _ _ h => h)
     have HV := Lib.hid (Hv64.out V (List.mem_of_getElem? hV))
     have hlt := World.block_lt_of_cell? wr _ hcV
     have hcV2 : ∀ o, (wr.alloc o).cell? (ad9.add j) = some (.int .u64 (V : Int)) := fun o => (World.cell?_alloc_lt wr o _ hlt).trans hcV
     clear hj hV hlt
     go_wp2_with fail
     go_meet
     case rel => exact ⟨V, by rw [Hgs.out], HV.out, by rw [Hgs.out]; exact Blk.new _ _ _, (Mod.refl _ _).alloc _⟩
    ·go_wp2_with fail
     go_meet
     case rel => exact ⟨0, by rw [Hgs.out], by decide, by rw [Hgs.out]; exact Blk.new _ _ _, (Mod.refl _ _).alloc _⟩
   case rest =>
    obtain ⟨V, rfl, hV, hblk, hmc⟩ := hcut
    have hc0 := hblk.cell 0
    have hc1 := hblk.cell 1
    simp at hc0 hc1
    have hd0 : ∀ N, (wc.drewN N).cell? ⟨gs, 0, none⟩ = some (.int .i64 T) := fun N => hc0
    have hd1 : ∀ N, (wc.drewN N).cell? ⟨gs, 1, none⟩ = some (.int .u64 (V : Int)) := fun N => hc1
    obtain ⟨A7, L7, c7, hu7, HL7, hc7, hcm7, hr7⟩ := (HR.out.1.mod hmc).formN
    subst hu7
    have HV := Lib.hid hV; have Hmc := Lib.hid hmc; have Hr7 := Lib.hid hr7; have Hblk := Lib.hid hblk
    have Ho7 := Lib.hid (HR.out.1.mod hmc)
    have hLb : L7 ≤ 60 := by have := HL7.out; have := HR.out.2.2.2.1; omega
    clear hV hmc hr7 hblk
    by_cases h0 : L7 = 0
    ·subst h0
     go_upto_region 10 with fail
     go_quiet (fail)
     have HO := Lib.hid (show OwnS w2.heap.size (wc.drewN nq) (.slice A7 0 c7) l from Ho7.out)
     have HR1 : Hid (l.length + 1 ≤ maxLen ∧ (l.length + 1) * 16 ≤ 140737488355328) := Lib.hid ⟨by rw [HL7.out]; unfold maxLen; omega, by rw [HL7.out]; omega⟩
     have hsz : w2.heap.size ≤ (wc.drewN nq).heap.size := Nat.le_trans Hm.out.size Hmc.out.size
     go_wp2_with (at_builtin; refine wpList_appS (p := (T, V)) rfl (.tmp 57) (.tmp 59) rfl rfl HO.out rfl rfl HR1.out.1 HR1.out.2 hsz ?_; intro v3 w3 HO3 HB3)
     have HR3 : Hid (RowSo w2 w3 v3 (l ++ [(T, V)]) (i + 1)) := Lib.hid (HR.out.snoc HO3.out HT.out HV.out ((Hm.out.trans (Hmc.out.drewN nq) (fun _ _ h => h)).trans (Mod.of_below HB3.out) (fun i hi h => by omega)) (.inl HL7.out))
     go_roundg (gk - 1)
     case measure => have := Hik.out; omega
     case rel => exact ⟨i + 1, l ++ [(T, V)], by have := Hik.out; omega, by go_num, HR3.out⟩
    ·obtain ⟨k, hk⟩ : ∃ k, L7 = k + 1 := ⟨L7 - 1, by omega⟩
     have hkL : k < L7 := by omega
     obtain ⟨a7, ⟨S, U⟩, rfl, hab, hq, he0, _⟩ := Hr7.out.at_ hkL
     have he0' : ∀ N, (wc.drewN N).cell? (a7.add (k * 2)) = some (.int .i64 S) := fun N => he0
     have hL0 : ((L7 : Int) == 0) = false := by simp; omega
     have hwk : IntKind.i64.wrap ((L7 : Int) - 1) = (k : Int) := by rw [IntWalk.i64_in _ (by omega)]; omega
     have hkLi : (k : Int) < (L7 : Int) := by omega
     have Hq := Lib.hid hq; have Hk := Lib.hid hk
     clear hq hk h0
     by_cases hST : S < T
     ·go_upto_region 10 with fail
      go_quiet (fail)
      have HO := Lib.hid (show OwnS w2.heap.size (wc.drewN nq) (.slice (some a7) L7 c7) l from Ho7.out)
      have HR1 : Hid (l.length + 1 ≤ maxLen ∧ (l.length + 1) * 16 ≤ 140737488355328) := Lib.hid ⟨by rw [HL7.out]; unfold maxLen; omega, by rw [HL7.out]; omega⟩
      have hsz : w2.heap.size ≤ (wc.drewN nq).heap.size := Nat.le_trans Hm.out.size Hmc.out.size
      go_wp2_with (at_builtin; refine wpList_appS (p := (T, V)) rfl (.tmp 57) (.tmp 59) rfl rfl HO.out rfl rfl HR1.out.1 HR1.out.2 hsz ?_; intro v3 w3 HO3 HB3)
      have HR3 : Hid (RowSo w2 w3 v3 (l ++ [(T, V)]) (i + 1)) := Lib.hid (HR.out.snoc HO3.out HT.out HV.out ((Hm.out.trans (Hmc.out.drewN nq) (fun _ _ h => h)).trans (Mod.of_below HB3.out) (fun i hi h => by omega)) (.inr ⟨k, (S, U), by rw [HL7.out]; exact Hk.out, Hq.out, hST⟩))
      go_roundg (gk - 1)
      case measure => have := Hik.out; omega
      case rel => exact ⟨i + 1, l ++ [(T, V)], by have := Hik.out; omega, by go_num, HR3.out⟩
     ·have HR3 : Hid (∀ N, RowSo w2 (wc.drewN N) (.slice (some a7) L7 c7) l (i + 1)) := Lib.hid (fun N => HR.out.stay (Hmc.out.drewN N))
      go_upto_region 10 with fail
      go_quiet (fail)
      go_wp2_with fail
      go_roundg (gk - 1)
      case measure => have := Hik.out; omega
      case rel => exact ⟨i + 1, l, by have := Hik.out; omega, by go_num, HR3.out _⟩
  ·go_wp2_with fail
   go_ret
   have hl : l.length ≤ 60 := by have := HR.out.2.2.2.1; have := Hik.out; omega
   exact ⟨_, l, rfl, HR.out.1.mono Hm2.out.size, HR.out.2.1, riseB_true HR.out.2.2.1 (by omega), hl, Hm2.out.trans HR.out.2.2.2.2 (fun _ _ h => h)⟩
end Go.Proofs.YthgoppmgapaajaaGreatDoor

/- Two rows of samples compared: the document's Same. -/
namespace Go.Proofs.YthgoppmgapaajaaGreatDoor
open Go.RowKit

/-- The first i are alike. -/
def SameTo (l1 l2 : List (Int × Nat)) (i : Nat) : Prop := ∀ j, j < i → l1[j]? = l2[j]?
theorem SameTo.done {l1 l2 : List (Int × Nat)} {n : Nat} (h : SameTo l1 l2 n) (h1 : l1.length = n) (h2 : l2.length = n) : l1 = l2 := List.ext_getElem? fun j => by
 rcases Nat.lt_or_ge j n with hj | hj
 ·exact h j hj
 ·rw [List.getElem?_eq_none (by omega), List.getElem?_eq_none (by omega)]
set_option maxHeartbeats 1000000 in
set_option maxRecDepth 100000 in
theorem sameS_any (A1 A2 : Option Addr) (n1 n2 c1 c2 B1 B2 : Nat) (l1 l2 : List (Int × Nat)) (b : Bool) (w : World) (hs1 : RdsS w B1 A1 n1 l1) (hs2 : RdsS w B2 A2 n2 l2) (hn : n1 ≤ 1000000) (hb : decide (l1 = l2) = b) :
  Calls Tryz.prog 14 #[.slice A1 n1 c1, .slice A2 n2 c2] w fun e w' => e = .returned (.bool b) ∧ Mod (fun _ => False) w w' := by
 have Hs1 := Lib.hid hs1.fit; have Hs2 := Lib.hid hs2.fit; have Hl1 := Lib.hid hs1.1; have Hl2 := Lib.hid hs2.1; have Hb := Lib.hid hb
 have hcs : Tryz.prog.cellsOf 36 = 2 := by kernel_rfl
 clear hs1 hs2 hb
 by_cases hnn : n1 = n2
 ·subst hnn
  go_enter Tryz.func14, Tryz.ntmps14
  go_wp2_with fail
  go_loopg [5] n1 (fun k s5 wr => ∃ i : Nat, i + k = n1 ∧ s5 = .int .i64 (i : Int) ∧ SameTo l1 l2 i ∧ Mod (fun _ => False) w wr)
  case atStart => exact ⟨0, by omega, rfl, (fun j h => by omega), Mod.refl _ _⟩
  case round =>
   obtain ⟨i, hik, rfl, hr, hm⟩ := hrel
   have Hik := Lib.hid hik; have Hr := Lib.hid hr; have Hm := Lib.hid hm
   clear hik hr hm
   by_cases hin : i < n1
   ·obtain ⟨a1, ⟨T, V⟩, rfl, _, hp, hc0, hc1⟩ := Hs1.out.at2 hin (Nat.le_refl _) Hm.out (fun _ _ h => h)
    obtain ⟨a2, ⟨S, U⟩, rfl, _, hq, hd0, hd1⟩ := Hs2.out.at2 hin (Nat.le_refl _) Hm.out (fun _ _ h => h)
    have hc1' := cell_whole hc1
    have hd1' := cell_whole hd1
    have Hp := Lib.hid hp; have Hq := Lib.hid hq
    clear hp hq hc1 hd1
    have hin' : (i : Int) < (n1 : Int) := by omega
    by_cases hT : T = S
    ·subst hT
     by_cases hV : V = U
     ·subst hV
      go_upto_region 6 with fail
      go_quiet (fail)
      go_wp2_with fail
      go_roundg (gk - 1)
      case measure => have := Hik.out; omega
      case rel => exact ⟨i + 1, by have := Hik.out; omega, by go_num, (fun j hj => by
       rcases Nat.lt_or_ge j i with h | h
       ·exact Hr.out j h
       ·obtain rfl : j = i := by omega
        rw [Hp.out, Hq.out]), Hm.out.drewN _⟩
     ·have hVi : ¬ (V : Int) = (U : Int) := by omega
      have hVb : ((V : Int) == (U : Int)) = false := by simp; omega
      have Hno : Hid (b = false) := Lib.hid (by
       rw [← Hb.out, decide_eq_false_iff_not]
       intro e
       have h1 := Hp.out
       rw [e, Hq.out] at h1
       injection h1 with h1
       injection h1 with _ h1
       exact hV h1.symm)
      clear hV
      go_upto_region 6 with fail
      go_quiet (fail)
      go_wp2_with fail
      go_ret
      exact ⟨by rw [Hno.out]; rfl, Hm.out.drewN _⟩
    ·have hTb : (T == S) = false := by simp [hT]
     have Hno : Hid (b = false) := Lib.hid (by
      rw [← Hb.out, decide_eq_false_iff_not]
      intro e
      have h1 := Hp.out
      rw [e, Hq.out] at h1
      injection h1 with h1
      injection h1 with h1 _
      exact hT h1.symm)
     go_upto_region 6 with fail
     go_quiet (fail)
     go_wp2_with fail
     go_ret
     exact ⟨by rw [Hno.out]; rfl, Hm.out.drewN _⟩
   ·have hi : i = n1 := by have := Hik.out; omega
    have Hyes : Hid (b = true) := Lib.hid (by
     rw [← Hb.out, decide_eq_true_iff]
     exact SameTo.done (by rw [← hi]; exact Hr.out) Hl1.out Hl2.out)
    clear hi
    go_wp2_with fail
    go_ret
    exact ⟨by rw [Hyes.out]; rfl, Hm.out⟩
 ·have hni : ((n1 : Int) == (n2 : Int)) = false := by simp; omega
  have hni2 : ((n1 : Int) != (n2 : Int)) = true := by simp; omega
  have Hno : Hid (b = false) := Lib.hid (by
   rw [← Hb.out, decide_eq_false_iff_not]
   intro e
   apply hnn
   rw [← Hl1.out, ← Hl2.out, e])
  clear hnn
  go_enter Tryz.func14, Tryz.ntmps14
  go_wp2_with fail
  go_ret
  exact ⟨by rw [Hno.out]; rfl, Mod.refl _ _⟩
end Go.Proofs.YthgoppmgapaajaaGreatDoor

/- The document's own times: within, kind, Times. -/
namespace Go.Proofs.YthgoppmgapaajaaGreatDoor
open Go.RowKit

def InN (d : Int) (n : Nat) : Bool := decide (-((2 ^ (n - 1) : Nat) : Int) ≤ d ∧ d < ((2 ^ (n - 1) : Nat) : Int))
theorem within_any (d : Int) (n : Nat) (N : Int) (w : World) (hN : N = (n : Int)) (hn : n = 7 ∨ n = 9 ∨ n = 12) :
  Calls Tryz.prog 76 #[.int .i64 d, .int .i64 N] w fun e w' => e = .returned (.bool (InN d n)) ∧ w = w' := by
 subst hN
 rcases hn with rfl | rfl | rfl
 ·by_cases h1 : -64 ≤ d
  ·by_cases h2 : d < 64
   ·have e : InN d 7 = true := by unfold InN; simp; omega
    rw [e]
    clear e
    go_enter Tryz.func76, Tryz.ntmps76
    go_wp2
    go_ret
    exact ⟨rfl, rfl⟩
   ·have e : InN d 7 = false := by unfold InN; simp; omega
    rw [e]
    clear e
    go_enter Tryz.func76, Tryz.ntmps76
    go_wp2
    go_ret
    exact ⟨rfl, rfl⟩
  ·have e : InN d 7 = false := by unfold InN; simp; omega
   rw [e]
   clear e
   go_enter Tryz.func76, Tryz.ntmps76
   go_wp2
   go_ret
   exact ⟨rfl, rfl⟩
 ·by_cases h1 : -256 ≤ d
  ·by_cases h2 : d < 256
   ·have e : InN d 9 = true := by unfold InN; simp; omega
    rw [e]
    clear e
    go_enter Tryz.func76, Tryz.ntmps76
    go_wp2
    go_ret
    exact ⟨rfl, rfl⟩
   ·have e : InN d 9 = false := by unfold InN; simp; omega
    rw [e]
    clear e
    go_enter Tryz.func76, Tryz.ntmps76
    go_wp2
    go_ret
    exact ⟨rfl, rfl⟩
  ·have e : InN d 9 = false := by unfold InN; simp; omega
   rw [e]
   clear e
   go_enter Tryz.func76, Tryz.ntmps76
   go_wp2
   go_ret
   exact ⟨rfl, rfl⟩
 ·by_cases h1 : -2048 ≤ d
  ·by_cases h2 : d < 2048
   ·have e : InN d 12 = true := by unfold InN; simp; omega
    rw [e]
    clear e
    go_enter Tryz.func76, Tryz.ntmps76
    go_wp2
    go_ret
    exact ⟨rfl, rfl⟩
   ·have e : InN d 12 = false := by unfold InN; simp; omega
    rw [e]
    clear e
    go_enter Tryz.func76, Tryz.ntmps76
    go_wp2
    go_ret
    exact ⟨rfl, rfl⟩
  ·have e : InN d 12 = false := by unfold InN; simp; omega
   rw [e]
   clear e
   go_enter Tryz.func76, Tryz.ntmps76
   go_wp2
   go_ret
   exact ⟨rfl, rfl⟩
theorem within_at (d : Int) (n : Nat) (N : Int) (b : Bool) (w : World) (hN : N = (n : Int)) (hn : n = 7 ∨ n = 9 ∨ n = 12) (hb : InN d n = b) :
  Calls Tryz.prog 76 #[.int .i64 d, .int .i64 N] w fun e w' => e = .returned (.bool b) ∧ w = w' := by
 subst hb
 exact within_any d n N w hN hn
theorem kind_any (d : Int) (w : World) :
  Calls Tryz.prog 55 #[.int .i64 d] w fun e w' => e = .returned (.tuple #[.int .i64 (kindN d : Nat), .int .u64 (headN d : Nat), .int .i64 (longN d : Nat)]) ∧ w = w' := by
 by_cases h0 : d = 0
 ·subst h0
  go_enter Tryz.func55, Tryz.ntmps55
  go_wp2
  exact bodyPost_ret (v := .tuple #[.int .i64 0, .int .u64 0, .int .i64 1]) (by simp [results, Tryz.results55, go_sem]) rfl ⟨rfl, rfl⟩
 ·have hb0 : (d == 0) = false := by simpa using h0
  by_cases h1 : -64 ≤ d ∧ d < 64
  ·have e : InN d 7 = true := by unfold InN; simp; omega
   have ek : kindN d = 7 ∧ headN d = 2 ∧ longN d = 2 := by unfold kindN headN longN; rw [if_neg h0, if_pos h1, if_neg h0, if_pos h1, if_neg h0, if_pos h1]; exact ⟨rfl, rfl, rfl⟩
   have E := Lib.hid e; have Ek := Lib.hid ek
   clear e ek h1
   go_enter Tryz.func55, Tryz.ntmps55
   go_wp2_with fail
   refine (within_at d 7 7 true _ rfl (by omega) E.out).mono ?_
   rintro e w' ⟨rfl, rfl⟩
   go_wp2_with fail
   exact bodyPost_ret (v := .tuple #[.int .i64 7, .int .u64 2, .int .i64 2]) (by simp [results, Tryz.results55, go_sem]) rfl ⟨by rw [Ek.out.1, Ek.out.2.1, Ek.out.2.2]; rfl, rfl⟩
  ·by_cases h2 : -256 ≤ d ∧ d < 256
   ·have e : InN d 7 = false := by unfold InN; simp; omega
    have e2 : InN d 9 = true := by unfold InN; simp; omega
    have ek : kindN d = 9 ∧ headN d = 6 ∧ longN d = 3 := by unfold kindN headN longN; rw [if_neg h0, if_neg h1, if_pos h2, if_neg h0, if_neg h1, if_pos h2, if_neg h0, if_neg h1, if_pos h2]; exact ⟨rfl, rfl, rfl⟩
    have E := Lib.hid e; have E2 := Lib.hid e2; have Ek := Lib.hid ek
    clear e e2 ek h1 h2
    go_enter Tryz.func55, Tryz.ntmps55
    go_wp2_with fail
    refine (within_at d 7 7 false _ rfl (by omega) E.out).mono ?_
    rintro e w' ⟨rfl, rfl⟩
    go_wp2_with fail
    refine (within_at d 9 9 true _ rfl (by omega) E2.out).mono ?_
    rintro e w' ⟨rfl, rfl⟩
    go_wp2_with fail
    exact bodyPost_ret (v := .tuple #[.int .i64 9, .int .u64 6, .int .i64 3]) (by simp [results, Tryz.results55, go_sem]) rfl ⟨by rw [Ek.out.1, Ek.out.2.1, Ek.out.2.2]; rfl, rfl⟩
   ·have e : InN d 7 = false := by unfold InN; simp; omega
    have e2 : InN d 9 = false := by unfold InN; simp; omega
    have E := Lib.hid e; have E2 := Lib.hid e2
    by_cases h3 : -2048 ≤ d ∧ d < 2048
    ·have e3 : InN d 12 = true := by unfold InN; simp; omega
     have ek : kindN d = 12 ∧ headN d = 14 ∧ longN d = 4 := by unfold kindN headN longN; rw [if_neg h0, if_neg h1, if_neg h2, if_pos h3, if_neg h0, if_neg h1, if_neg h2, if_pos h3, if_neg h0, if_neg h1, if_neg h2]; exact ⟨rfl, rfl, rfl⟩
     have E3 := Lib.hid e3; have Ek := Lib.hid ek
     clear e e2 e3 ek h1 h2 h3
     go_enter Tryz.func55, Tryz.ntmps55
     go_wp2_with fail
     refine (within_at d 7 7 false _ rfl (by omega) E.out).mono ?_
     rintro e w' ⟨rfl, rfl⟩
     go_wp2_with fail
     refine (within_at d 9 9 false _ rfl (by omega) E2.out).mono ?_
     rintro e w' ⟨rfl, rfl⟩
     go_wp2_with fail
     refine (within_at d 12 12 true _ rfl (by omega) E3.out).mono ?_
     rintro e w' ⟨rfl, rfl⟩
     go_wp2_with fail
     exact bodyPost_ret (v := .tuple #[.int .i64 12, .int .u64 14, .int .i64 4]) (by simp [results, Tryz.results55, go_sem]) rfl ⟨by rw [Ek.out.1, Ek.out.2.1, Ek.out.2.2]; rfl, rfl⟩
    ·have e3 : InN d 12 = false := by unfold InN; simp; omega
     have ek : kindN d = 64 ∧ headN d = 15 ∧ longN d = 4 := by unfold kindN headN longN; rw [if_neg h0, if_neg h1, if_neg h2, if_neg h3, if_neg h0, if_neg h1, if_neg h2, if_neg h3, if_neg h0, if_neg h1, if_neg h2]; exact ⟨rfl, rfl, rfl⟩
     have E3 := Lib.hid e3; have Ek := Lib.hid ek
     clear e e2 e3 ek h1 h2 h3
     go_enter Tryz.func55, Tryz.ntmps55
     go_wp2_with fail
     refine (within_at d 7 7 false _ rfl (by omega) E.out).mono ?_
     rintro e w' ⟨rfl, rfl⟩
     go_wp2_with fail
     refine (within_at d 9 9 false _ rfl (by omega) E2.out).mono ?_
     rintro e w' ⟨rfl, rfl⟩
     go_wp2_with fail
     refine (within_at d 12 12 false _ rfl (by omega) E3.out).mono ?_
     rintro e w' ⟨rfl, rfl⟩
     go_wp2_with fail
     exact bodyPost_ret (v := .tuple #[.int .i64 64, .int .u64 15, .int .i64 4]) (by simp [results, Tryz.results55, go_sem]) rfl ⟨by rw [Ek.out.1, Ek.out.2.1, Ek.out.2.2]; rfl, rfl⟩
end Go.Proofs.YthgoppmgapaajaaGreatDoor

/- The document's own times are told: Times. -/
namespace Go.Proofs.YthgoppmgapaajaaGreatDoor
open Go.RowKit

def REnc1 (w wr : World) (g : Nat) (row : Option Nat) (N len : Nat) (zs : List Int) (i : Nat) (last : Nat) : Prop :=
 ∃ fs, RWrote w wr g row N len fs ∧ (i = 0 → fs = [] ∧ last = 0) ∧ (0 < i → ∃ prev, zs[i - 1]? = some prev ∧ fs ++ encT prev last (zs.drop i) = encRow zs)
theorem kind_le (d : Int) : kindN d ≤ 64 ∧ longN d ≤ 64 ∧ Lt64 (headN d) := by
 refine ⟨by rw [kind_hd]; exact sz_le _, ?_, ?_⟩
 ·unfold longN; split; omega; split; omega; split; omega; omega
 ·unfold headN Lt64; split; omega; split; omega; split; omega; split; omega; omega
theorem tstepU (x prev : Int) : IntKind.u64.wrap ((un x : Int) - (un prev : Int)) = (stepOf prev x : Int) := by
 rw [wrapU_un]
 unfold stepOf
 congr 1
 obtain ⟨a, ha⟩ := un_ex x
 obtain ⟨b, hb⟩ := un_ex prev
 exact un_of (k := a - b) (by rw [ha, hb, Int.sub_mul]; omega)
set_option maxHeartbeats 1000000 in
set_option maxRecDepth 100000 in
theorem rtimes_any (B g : Nat) (row : Option Nat) (N len n c : Nat) (A : Option Addr) (zs : List Int) (w : World) (hs : SeesI .i64 w B A n zs) (hz : ∀ x ∈ zs, Fits x) (hB : B ≤ w.heap.size) (hap : 0 < n → ∀ ad, A = some ad → ¬ (ad.block = g ∨ row = some ad.block))
  (hw : RWr w g row N len) (hlen : len + (64 + 68 * n) ≤ 900000000) :
  Calls Tryz.prog 36 #[.pointer (some ⟨g, 0, none⟩), .slice A n c] w fun e w' => e = .returned (.tuple #[]) ∧ RWrote w w' g row N len (encRow zs) := by
 have hzl := hs.1
 have Hs := Lib.hid hs; have Hz := Lib.hid hz; have HS := Lib.hid hap
 have H0 : Hid (REnc1 w w g row N len zs 0 0) := Lib.hid ⟨[], RWrote.refl hw, fun _ => ⟨rfl, rfl⟩, fun h => by omega⟩
 have Hzl := Lib.hid hzl
 have Htot : Hid (len + flen (encRow zs) ≤ 900000000) := Lib.hid (by have := encRow_len zs; rw [hzl] at this; omega)
 clear hs hz hw hap hzl
 go_enter Tryz.func36, Tryz.ntmps36
 go_wp2_with fail
 go_loopg [4, 5] n (fun l s4 s5 wr => ∃ (i last : Nat), i + l = n ∧ s5 = .int .i64 (i : Int) ∧ s4 = .int .u64 (last : Int) ∧ REnc1 w wr g row N len zs i last)
 case atStart => exact ⟨0, 0, by omega, rfl, rfl, H0.out⟩
 case round =>
  obtain ⟨i, last, hil, rfl, rfl, hE⟩ := hrel
  have HE := Lib.hid hE; have Hil := Lib.hid hil
  clear hE hil H0
  by_cases hin : i < n
  ·obtain ⟨fs, hwr, he0, he1⟩ := HE.out
   obtain ⟨ad, x, rfl, hx, hcx⟩ := Hs.out.at2 hin hB (by obtain ⟨_, _, a2, _⟩ := hwr; exact a2) (HS.out (by omega))
   have Hx := Lib.hid hx
   have hxf := Lib.hid (Hz.out x (List.mem_of_getElem? hx))
   have Hdr := Lib.hid (drop_at hx)
   have hxu : IntKind.u64.wrap x = (un x : Int) := wrapU_un x
   have hul : Hid (Lt64 (un x)) := Lib.hid (un_lt x)
   clear hx
   by_cases hi0 : i = 0
   ·obtain ⟨rfl, rfl⟩ := he0 hi0
    subst hi0
    have Hwr := Lib.hid hwr
    have hcx0 : wr.cell? ad = some (.int .i64 x) := by rw [← add_zero' ad]; exact hcx
    clear hwr he0 he1 HE
    go_wp2_with fail
    refine (rput_wrote w g row N len 64 [] (un x) _ _ _ rfl rfl (by omega) hul.out Hwr.out (by show len + 0 ≤ _; omega)).mono ?_
    rintro e w1 ⟨rfl, h1⟩
    have hd0 := Hdr.out
    rw [List.drop_zero] at hd0
    have H1 : Hid (REnc1 w w1 g row N len zs 1 0) := Lib.hid ⟨[(un x, 64)], h1, fun h => by omega, fun _ => ⟨x, Hx.out, by rw [hd0]; rfl⟩⟩
    clear h1 hd0 Hwr
    go_wp2_with fail
    go_roundg (gk - 1)
    case measure => have := Hil.out; omega
    case rel => exact ⟨1, 0, by have := Hil.out; omega, rfl, rfl, H1.out⟩
   ·have hb0 : ((i : Int) == 0) = false := by simp; omega
    obtain ⟨prev, hpv, hE1⟩ := he1 (by omega)
    obtain ⟨ad', x', e', hx', hcp⟩ := Hs.out.at2 (show i - 1 < n by omega) hB (by obtain ⟨_, _, a2, _⟩ := hwr; exact a2) (HS.out (by omega))
    injection e' with e'
    subst e'
    rw [hpv] at hx'
    injection hx' with hx'
    subst hx'
    have hpu : IntKind.u64.wrap prev = (un prev : Int) := wrapU_un prev
    obtain ⟨st, hst⟩ : ∃ st, st = stepOf prev x := ⟨_, rfl⟩
    have h1 : IntKind.u64.wrap ((un x : Int) - (un prev : Int)) = (st : Int) := by rw [hst]; exact tstepU x prev
    obtain ⟨dd, hdd⟩ : ∃ dd : Nat, dd = un ((st : Int) - (last : Int)) := ⟨_, rfl⟩
    have h2 : IntKind.u64.wrap ((st : Int) - (last : Int)) = (dd : Int) := by rw [hdd]; exact wrapU_un _
    obtain ⟨d, hd⟩ : ∃ d, d = diffOf prev last x := ⟨_, rfl⟩
    have h3 : wrap64 (dd : Int) = d := by
     rw [wrap_sg, hdd, un_nat (un_lt _), hd]
     unfold diffOf
     rw [hst]
    have hdu : IntKind.u64.wrap d = (un d : Int) := wrapU_un d
    have hi1 : IntKind.i64.wrap ((i : Int) - 1) = (i : Int) - 1 := IntWalk.i64_in _ (by omega)
    have hi2 : ((i : Int) - 1).toNat = i - 1 := by omega
    have hi3 : (0 : Int) ≤ (i : Int) - 1 := by omega
    have hi4 : (i : Int) - 1 < (n : Int) := by omega
    have hi5 : (i : Int) < (n : Int) := by omega
    have hi6 : (0 : Int) ≤ (i : Int) := by omega
    have Hwr := Lib.hid hwr; have HE1 := Lib.hid hE1; have Hd := Lib.hid hd; have Hst := Lib.hid hst
    have hl : Hid (len + flen fs ≤ 900000000) := Lib.hid (by have := Htot.out; rw [← HE1.out] at this; have := flen_le_app fs (encT prev last (zs.drop i)); omega)
    have hlt2 : Hid (len + flen (fs ++ [(headN d, longN d)]) ≤ 1000000000) := Lib.hid (by have := hl.out; have := (kind_le d).2.1; rw [flen_app]; show len + (flen fs + (longN d + 0)) ≤ _; omega)
    clear hwr he0 he1 HE hE1 hd hst hdd hpv hl
    go_upto_region 6 with fail
    go_quiet (fail)
    have Hwr2 := Lib.hid (Hwr.out.drewN nq)
    clear Hwr hcx hcp hi1 hi2 hi3 hi4 hi5 hi6 hpu hxu h1
    generalize wr.drewN nq = w2 at *
    go_wp2_with fail
    refine (kind_any d _).mono ?_
    rintro e w3 ⟨rfl, rfl⟩
    go_wp2_with fail
    refine (rput_wrote w g row N len (longN d) fs (headN d) _ _ _ rfl rfl (kind_le d).2.1 (kind_le d).2.2 Hwr2.out (by have := hlt2.out; rw [flen_app] at this; omega)).mono ?_
    rintro e w4 ⟨rfl, hw4⟩
    have Hw4 := Lib.hid hw4
    have hdul : Hid (Lt64 (un d)) := Lib.hid (un_lt d)
    clear hw4 Hwr2
    go_wp2_with fail
    refine (rput_wrote w g row N len (kindN d) _ (un d) _ _ _ rfl rfl (kind_le d).1 hdul.out Hw4.out hlt2.out).mono ?_
    rintro e w5 ⟨rfl, hw5⟩
    have H5 : Hid (REnc1 w w5 g row N len zs (i + 1) st) := Lib.hid ⟨_, hw5, fun h => by omega, fun _ => ⟨x, Hx.out, by
     rw [← HE1.out, Hdr.out, List.append_assoc, List.append_assoc, Hst.out, Hd.out]
     rfl⟩⟩
    clear hw5 Hw4
    go_wp2_with fail
    go_roundg (gk - 1)
    case measure => have := Hil.out; omega
    case rel => exact ⟨i + 1, st, by have := Hil.out; omega, by go_num, rfl, H5.out⟩
  ·go_wp2_with fail
   go_end0
   refine ⟨rfl, ?_⟩
   obtain ⟨fs, hwr, he0, he1⟩ := HE.out
   have hil := Hil.out
   have hzl := Hzl.out
   rcases Nat.eq_zero_or_pos i with h0 | h0
   ·obtain ⟨rfl, _⟩ := he0 h0
    have : zs = [] := List.eq_nil_of_length_eq_zero (by omega)
    subst this
    exact hwr
   ·obtain ⟨prev, _, this⟩ := he1 h0
    rw [List.drop_of_length_le (by omega)] at this
    have e : fs = encRow zs := by rw [← this]; show fs = fs ++ []; simp
    rw [← e]
    exact hwr
end Go.Proofs.YthgoppmgapaajaaGreatDoor

/- From the row's list to the widths. -/
namespace Go.Proofs.YthgoppmgapaajaaGreatDoor
open Go.RowKit
/-- The list without its first table. -/
theorem laid_tail {P : Program} {W : World} {x : String × DataW Unit} {rest : List (String × DataW Unit)} (h : laidMet P (x :: rest) W) : laidMet P rest W := by
 obtain ⟨n, d⟩ := x
 obtain ⟨ps, ⟨g, t, cs, fuel, p, q, _, _, _, _, hq, rfl⟩, hnd, hc⟩ := h
 exact ⟨q, hq, (List.nodup_append.1 hnd).2.1, fun b off hm => hc b off (List.mem_append_right _ hm)⟩
theorem wid_of_tab {w : World} (h : Lib.TabIs Tryz.prog w "ephemeris/time.widths" .i64 [0, 7, 9, 12, 64]) : Wid w := by
 have hc : ∀ i, i < 5 → w.cell? ⟨1, i, none⟩ = some (.int .i64 (([0, 7, 9, 12, 64] : List Int).getD i 0)) := fun i hi => h.cell (by kernel_rfl) i hi
 refine ⟨World.block_lt_of_cell? w _ (hc 0 (by decide)), fun i hi => ?_⟩
 rw [hc i hi]
 have hi' : i = 0 ∨ i = 1 ∨ i = 2 ∨ i = 3 ∨ i = 4 := by omega
 rcases hi' with rfl | rfl | rfl | rfl | rfl <;> rfl
end Go.Proofs.YthgoppmgapaajaaGreatDoor

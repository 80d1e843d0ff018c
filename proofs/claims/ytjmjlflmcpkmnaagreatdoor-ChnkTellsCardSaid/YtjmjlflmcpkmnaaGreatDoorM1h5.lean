/- The texts Kd, Jf, Jw, Jp0, Jp, Jr, Kxr, Wr, Wv, Pf, Df, Kxt, Kb, Rt, Ru, Kxe, Jm, Gl, Wn, Wq, Pg, Dh, Wu, one behind the other. -/
import Derived.Test.YtjmjlflmcpkmnaaGreatDoorM1h1
import Derived.Test.YtjmjlflmcpkmnaaGreatDoorM1h4
import Derived.Test.YtjmjlflmcpkmnaaGreatDoorM1h3
import Derived.Test.YtjmjlflmcpkmnaaGreatDoorM1h2
/- A row of samples read in a codec: read, Decode. -/
namespace Go.Proofs.YtjmjlflmcpkmnaaGreatDoor
open Go.RowKit

def readSm (tag : Int) (N : Nat) (bs : List Nat) : Option (List (Int × Nat)) :=
 match timesOf N bs with
 | none => none
 | some (ts, rest) => (readK tag N rest).map fun vs => ts.zip vs
theorem readSm_no {tag : Int} {N : Nat} {bs : List Nat} (h : timesOf N bs = none) : readSm tag N bs = none := by unfold readSm; rw [h]
theorem readSm_at {tag : Int} {N : Nat} {bs : List Nat} {ts : List Int} {rest : List Nat} (h : timesOf N bs = some (ts, rest)) : readSm tag N bs = (readK tag N rest).map fun vs => ts.zip vs := by unfold readSm; rw [h]
theorem readSm_some {tag : Int} {N : Nat} {bs : List Nat} {l : List (Int × Nat)} (hlt : lt256 bs) (h : readSm tag N bs = some l) : l.length = N ∧ GoodS l := by
 cases ht : timesOf N bs with
 | none => rw [readSm_no ht] at h; cases h
 | some p =>
  obtain ⟨ts, rest⟩ := p
  rw [readSm_at ht] at h
  obtain ⟨vs, hv, rfl⟩ := Option.map_eq_some_iff.1 h
  obtain ⟨t1, t2, t3, _⟩ := timesOf_some hlt ht
  obtain ⟨v1, v2⟩ := readK_some t3 hv
  refine ⟨by rw [List.length_zip, t1, v1]; omega, fun p hp => ?_⟩
  obtain ⟨a, b⟩ := p
  have := List.of_mem_zip hp
  exact ⟨t2 a this.1, v2 b this.2⟩
theorem decK_out {tag n : Int} {bs : List Nat} (h : n < 0 ∨ 65535 < n) : decK tag n bs = none := by unfold decK; rw [if_pos h]
theorem decK_via {tag : Int} {N : Nat} {bs : List Nat} (hN : N ≤ 65535) : decK tag (N : Int) bs = match readSm tag N bs with
  | none => none
  | some l => if encK tag l = some bs then some l else none := by
 unfold decK readSm timesOf
 rw [if_neg (by omega), Int.toNat_natCast]
 by_cases hb : (dec bs).2 = 0 ∨ bs.length - (dec bs).2 < (dec bs).1
 ·rw [if_pos hb, if_pos hb]
 ·rw [if_neg hb, if_neg hb]
  cases rdRow N (val ((bs.drop (dec bs).2).take (dec bs).1)) (8 * ((bs.drop (dec bs).2).take (dec bs).1).length) with
  | none => rfl
  | some p =>
   obtain ⟨ts, q⟩ := p
   show (match some (ts, q), readK tag N ((bs.drop (dec bs).2).drop (dec bs).1) with
    | some (ts, _), some vs => if encK tag (ts.zip vs) = some bs then some (ts.zip vs) else none
    | _, _ => none) = (match (readK tag N ((bs.drop (dec bs).2).drop (dec bs).1)).map (fun vs => ts.zip vs) with
    | none => none
    | some l => if encK tag l = some bs then some l else none)
   cases readK tag N ((bs.drop (dec bs).2).drop (dec bs).1) with
   | none => rfl
   | some vs => rfl
/-- A row of samples and true, or nil and false. -/
def EncS (w w' : World) (o : Option (List (Int × Nat))) (e : Ending) : Prop :=
 match o with
 | some l => ∃ v, e = .returned (.tuple #[v, .bool true]) ∧ OwnS w.heap.size w' v l ∧ Mod (fun _ => False) w w'
 | none => e = .returned (.tuple #[.slice none 0 0, .bool false]) ∧ Mod (fun _ => False) w w'
theorem EncS.some_ {w w' : World} {o : Option (List (Int × Nat))} {l : List (Int × Nat)} {e : Ending} (h : EncS w w' o e) (ho : o = some l) : ∃ v, e = .returned (.tuple #[v, .bool true]) ∧ OwnS w.heap.size w' v l ∧ Mod (fun _ => False) w w' := by
 subst ho
 exact h
theorem EncS.none_ {w w' : World} {o : Option (List (Int × Nat))} {e : Ending} (h : EncS w w' o e) (ho : o = none) : e = .returned (.tuple #[.slice none 0 0, .bool false]) ∧ Mod (fun _ => False) w w' := by
 subst ho
 exact h
theorem EncS.of_some {w w' : World} {o : Option (List (Int × Nat))} {l : List (Int × Nat)} {v : Value} (ho : o = some l) (h : OwnS w.heap.size w' v l) (hm : Mod (fun _ => False) w w') : EncS w w' o (.returned (.tuple #[v, .bool true])) := by
 rw [ho]
 exact ⟨v, rfl, h, hm⟩
theorem EncS.of_none {w w' : World} {o : Option (List (Int × Nat))} (ho : o = none) (hm : Mod (fun _ => False) w w') : EncS w w' o (.returned (.tuple #[.slice none 0 0, .bool false])) := by
 rw [ho]
 exact ⟨rfl, hm⟩
/-- As a row and a bool. -/
theorem EncS.any {w w' : World} {o : Option (List (Int × Nat))} {e : Ending} (h : EncS w w' o e) : ∃ (A : Option Addr) (c : Nat), e = .returned (.tuple #[.slice A (o.getD []).length c, .bool o.isSome]) ∧ RdsS w' w'.heap.size A (o.getD []).length (o.getD []) ∧ Mod (fun _ => False) w w' := by
 cases o with
 | none => obtain ⟨rfl, hm⟩ := h; exact ⟨none, 0, rfl, RdsS.nil _ _ _, hm⟩
 | some l =>
  obtain ⟨v, rfl, ho, hm⟩ := h
  obtain ⟨A, c, rfl, _, _, hr⟩ := ho.form
  exact ⟨A, c, rfl, hr, hm⟩
set_option maxHeartbeats 1000000 in
set_option maxRecDepth 100000 in
theorem readS_any (tag : Int) (A : Option Addr) (n cap N : Nat) (bs : List Nat) (w : World) (hs : Rds w w.heap.size A n (cells8 bs)) (hlt : lt256 bs) (hnc : n ≤ cap) (hcm : cap ≤ maxLen) (hn : n ≤ 1000000) (hN : N ≤ 65535) (ht : Tabs w) :
  Calls Tryz.prog 45 #[.int .i64 tag, .slice A n cap, .int .i64 (N : Int)] w fun e w' => EncS w w' (readSm tag N bs) e := by
 have hul : bs.length = n := by have := hs.1; rwa [cells8_length] at this
 have hcall := gtimes_any A n cap N (N : Int) bs w hs hlt hnc hcm hn (by omega) ht.wid
 have Hcall := Lib.hid hcall; have Hlt := Lib.hid hlt; have Ht := Lib.hid ht; have Hul := Lib.hid hul
 clear hs hlt hnc hcm ht hcall hul
 go_enter Tryz.func45, Tryz.ntmps45
 go_wp2_with fail
 refine Hcall.out.mono ?_
 intro e w1 he
 have he' : GetT w w1 (timesOf N bs) e := he
 clear he
 cases hto : timesOf N bs with
 | none =>
  obtain ⟨v1, v2, rfl, hm1⟩ := GetT.none_ he' hto
  have Hno : Hid (readSm tag N bs = none) := Lib.hid (readSm_no hto)
  have Hm1 := Lib.hid hm1
  clear he' hto hm1
  go_wp2_with fail
  go_ret2
  exact EncS.of_none Hno.out Hm1.out
 | some p =>
  obtain ⟨ts, rest⟩ := p
  obtain ⟨A1, c1, A2, c2, rfl, hA2, hc2, hcm2, hr1, hr2, hm1⟩ := GetT.some_ he' hto
  obtain ⟨t1, t2, t3, t4⟩ := timesOf_some Hlt.out hto
  have Hat : Hid (readSm tag N bs = (readK tag N rest).map fun vs => ts.zip vs) := Lib.hid (readSm_at hto)
  rw [t1] at hr1
  rw [t1]
  obtain ⟨L, hL⟩ : ∃ L, rest.length = L := ⟨_, rfl⟩
  rw [hL] at hc2 hr2
  rw [hL]
  have hLs : L ≤ 1000000 := by have := Hul.out; omega
  have Hr1 := Lib.hid hr1; have Hr2 := Lib.hid hr2.fit; have Hm1 := Lib.hid hm1; have HA2 := Lib.hid hA2; have Hcm2 := Lib.hid hcm2; have HT3 := Lib.hid t3; have HT1 := Lib.hid t1
  have Ht1 := Lib.hid (Ht.out.mod hm1)
  have Hc2 := Lib.hid hc2
  clear he' hto hA2 hcm2 hr1 hr2 hm1 t1 t2 t3 t4 hL hc2
  go_wp2_with fail
  refine (gvalues_any tag A2 L c2 N rest w1 Hr2.out HT3.out HA2.out Hc2.out Hcm2.out hLs hN Ht1.out).mono ?_
  intro e w2 he
  have he' : EncE w1 w2 (readK tag N rest) e := he
  clear he
  cases hv : readK tag N rest with
  | none =>
   obtain ⟨rfl, hm2⟩ := EncE.none_ he' hv
   have Hno : Hid (readSm tag N bs = none) := Lib.hid (by rw [Hat.out, hv]; rfl)
   have Hm2 := Lib.hid (Hm1.out.trans hm2 (fun _ _ h => h))
   clear he' hv hm2
   go_wp2_with fail
   go_ret2
   exact EncS.of_none Hno.out Hm2.out
  | some vs =>
   obtain ⟨v2, rfl, hov, hm2⟩ := EncE.some_ he' hv
   have hvl := (readK_some HT3.out hv).1
   obtain ⟨A3, L3, c3, rfl, HL3, _, hr3⟩ := own_formUN hov
   have hL3 : L3 = N := by have := HL3.out; omega
   subst hL3
   have Hyes : Hid (readSm tag L3 bs = some (ts.zip vs)) := Lib.hid (by rw [Hat.out, hv]; rfl)
   have Hm2 := Lib.hid (Hm1.out.trans hm2 (fun _ _ h => h)); have Hr3 := Lib.hid hr3; have Hr1b := Lib.hid (Hr1.out.new hm2).fit
   clear he' hv hm2 hov hvl hr3 Hm1
   go_wp2_with fail
   refine (joined_any A1 A3 L3 c1 c3 ts vs w2 Hr1b.out Hr3.out (by omega)).mono ?_
   rintro e w3 ⟨v, rfl, ho, hm3⟩
   have Ho := Lib.hid (ho.mono Hm2.out.size); have Hm3 := Lib.hid (Hm2.out.trans hm3 (fun _ _ h => h))
   clear ho hm3
   go_wp2_with fail
   go_ret2
   exact EncS.of_some Hyes.out Ho.out Hm3.out
set_option maxHeartbeats 1000000 in
set_option maxRecDepth 100000 in
theorem kdec_any (tag m : Int) (A : Option Addr) (n cap : Nat) (bs : List Nat) (w : World) (hs : Rds w w.heap.size A n (cells8 bs)) (hlt : lt256 bs) (hnc : n ≤ cap) (hcm : cap ≤ maxLen) (hn : n ≤ 1000000) (ht : Tabs w) :
  Calls Tryz.prog 25 #[.int .i64 tag, .slice A n cap, .int .i64 m] w fun e w' => EncS w w' (decK tag m bs) e := by
 by_cases h0 : m < 0
 ·have Hno : Hid (decK tag m bs = none) := Lib.hid (decK_out (.inl h0))
  clear hs hlt hnc hcm ht
  go_enter Tryz.func25, Tryz.ntmps25
  go_wp2_with fail
  go_ret2
  exact EncS.of_none Hno.out (Mod.refl _ _)
 by_cases h1 : 65535 < m
 ·have Hno : Hid (decK tag m bs = none) := Lib.hid (decK_out (.inr h1))
  clear hs hlt hnc hcm ht
  go_enter Tryz.func25, Tryz.ntmps25
  go_wp2_with fail
  go_ret2
  exact EncS.of_none Hno.out (Mod.refl _ _)
 obtain ⟨N, hNm⟩ : ∃ N : Nat, m = (N : Int) := ⟨m.toNat, by omega⟩
 subst hNm
 have hN : N ≤ 65535 := by omega
 have hcall := readS_any tag A n cap N bs w hs hlt hnc hcm hn hN ht
 have hvia := decK_via (tag := tag) (bs := bs) hN
 have Hcall := Lib.hid hcall; have Hlt := Lib.hid hlt; have Ht := Lib.hid ht; have Hs := Lib.hid hs; have Hvia := Lib.hid hvia
 clear hs hlt hnc hcm ht hcall hvia
 go_enter Tryz.func25, Tryz.ntmps25
 go_wp2_with fail
 refine Hcall.out.mono ?_
 intro e w1 he
 have he' : EncS w w1 (readSm tag N bs) e := he
 clear he h0 h1 Hcall
 cases hr : readSm tag N bs with
 | none =>
  obtain ⟨rfl, hm1⟩ := EncS.none_ he' hr
  have Hno : Hid (decK tag (N : Int) bs = none) := Lib.hid (by rw [Hvia.out, hr])
  have Hm1 := Lib.hid hm1
  clear he' hr hm1
  go_wp2_with fail
  go_ret2
  exact EncS.of_none Hno.out Hm1.out
 | some l =>
  obtain ⟨v1, rfl, ho1, hm1⟩ := EncS.some_ he' hr
  obtain ⟨hl, hg⟩ := readSm_some Hlt.out hr
  have Hvia2 : Hid (decK tag (N : Int) bs = if encK tag l = some bs then some l else none) := Lib.hid (by rw [Hvia.out, hr])
  have hos := ho1
  obtain ⟨A1, L1, c1, rfl, HL1, _, _, hr1⟩ := ho1.formN
  have Hr1 := Lib.hid hr1; have Hg := Lib.hid hg; have Hm1 := Lib.hid hm1; have Hos := Lib.hid hos; have Ht1 := Lib.hid (Ht.out.mod hm1)
  have Hs1 := Lib.hid (Hs.out.new hm1)
  clear he' hr ho1 hm1 hl hg hr1 hos
  go_wp2_with fail
  refine (kenc_any tag A1 L1 c1 l w1 Hr1.out Hg.out Ht1.out).mono ?_
  intro e w2 he
  have he' : EncB w1 w2 (encK tag l) e := he
  clear he
  cases ho : encK tag l with
  | none =>
   obtain ⟨rfl, hm2⟩ := EncB.none_ he' ho
   have Hno : Hid (decK tag (N : Int) bs = none) := Lib.hid (by rw [Hvia2.out, ho, if_neg (by intro h; cases h)])
   have Hm2 := Lib.hid (Hm1.out.trans hm2 (fun _ _ h => h))
   clear he' ho hm2
   go_wp2_with fail
   go_ret2
   exact EncS.of_none Hno.out Hm2.out
  | some b2 =>
   obtain ⟨v2, rfl, ho2, hm2⟩ := EncB.some_ he' ho
   have Hb2 : Hid (lt256 b2) := Lib.hid (encK_256 ho)
   have Hvia3 : Hid (decK tag (N : Int) bs = if b2 = bs then some l else none) := Lib.hid (by
    rw [Hvia2.out, ho]
    by_cases h : b2 = bs
    ·rw [if_pos (by rw [h]), if_pos h]
    ·rw [if_neg (by intro e; injection e with e; exact h e), if_neg h])
   obtain ⟨A2, L2, c2, rfl, HL2, _, _, hr2⟩ := own_formN8 ho2
   have Hr2 := Lib.hid hr2; have Hs2 := Lib.hid (Hs1.out.mod hm2 Hm1.out.size (fun _ _ h => h)); have Hos2 := Lib.hid (Hos.out.mod hm2)
   have Hm2 := Lib.hid (Hm1.out.trans hm2 (fun _ _ h => h))
   clear he' ho ho2 hm2 hr2 Hos Hs1
   go_wp2_with fail
   refine (bequal_any A2 A L2 n c2 cap _ _ b2 bs w2 Hr2.out Hs2.out Hb2.out Hlt.out).mono ?_
   rintro e w3 ⟨rfl, hm3⟩
   have Hm3 := Lib.hid (Hm2.out.trans hm3 (fun _ _ h => h)); have Hos3 := Lib.hid (Hos2.out.mod hm3)
   clear hm3 Hos2 Hr2 Hs2 Hm2
   by_cases hb : b2 = bs
   ·have hd : decide (b2 = bs) = true := by simp [hb]
    have Hyes : Hid (decK tag (N : Int) bs = some l) := Lib.hid (by rw [Hvia3.out, if_pos hb])
    rw [hd]
    clear hb hd
    go_wp2_with fail
    go_ret2
    exact EncS.of_some Hyes.out Hos3.out Hm3.out
   ·have hd : decide (b2 = bs) = false := by simp [hb]
    have Hno : Hid (decK tag (N : Int) bs = none) := Lib.hid (by rw [Hvia3.out, if_neg hb])
    rw [hd]
    clear hb hd
    go_wp2_with fail
    go_ret2
    exact EncS.of_none Hno.out Hm3.out
end Go.Proofs.YtjmjlflmcpkmnaaGreatDoor

/- Chunks, of the code: Open. -/
namespace Go.Proofs.YtjmjlflmcpkmnaaGreatDoor
open Go.RowKit

/-- What Open answers. -/
def EncO (w w' : World) (o : Option (List (Int × Nat) × Nat)) (e : Ending) : Prop :=
 match o with
 | some (l, t) => ∃ v, e = .returned (.tuple #[v, .int .i64 (t : Int), .bool true]) ∧ OwnS w.heap.size w' v l ∧ Mod (fun _ => False) w w'
 | none => e = .returned (.tuple #[.slice none 0 0, .int .i64 0, .bool false]) ∧ Mod (fun _ => False) w w'
theorem EncO.of_none {w w' : World} {o : Option (List (Int × Nat) × Nat)} (ho : o = none) (hm : Mod (fun _ => False) w w') : EncO w w' o (.returned (.tuple #[.slice none 0 0, .int .i64 0, .bool false])) := by
 rw [ho]
 exact ⟨rfl, hm⟩
theorem EncO.of_some {w w' : World} {o : Option (List (Int × Nat) × Nat)} {l : List (Int × Nat)} {t : Nat} {v : Value} (ho : o = some (l, t)) (h : OwnS w.heap.size w' v l) (hm : Mod (fun _ => False) w w') : EncO w w' o (.returned (.tuple #[v, .int .i64 (t : Int), .bool true])) := by
 rw [ho]
 exact ⟨v, rfl, h, hm⟩
theorem EncO.some_ {w w' : World} {o : Option (List (Int × Nat) × Nat)} {l : List (Int × Nat)} {t : Nat} {e : Ending} (h : EncO w w' o e) (ho : o = some (l, t)) : ∃ v, e = .returned (.tuple #[v, .int .i64 (t : Int), .bool true]) ∧ OwnS w.heap.size w' v l ∧ Mod (fun _ => False) w w' := by
 rw [ho] at h
 exact h
theorem EncO.none_ {w w' : World} {o : Option (List (Int × Nat) × Nat)} {e : Ending} (h : EncO w w' o e) (ho : o = none) : e = .returned (.tuple #[.slice none 0 0, .int .i64 0, .bool false]) ∧ Mod (fun _ => False) w w' := by
 rw [ho] at h
 exact h
theorem EncO.any {w w' : World} {o : Option (List (Int × Nat) × Nat)} {e : Ending} (h : EncO w w' o e) : ∃ (A : Option Addr) (c : Nat), e = .returned (.tuple #[.slice A ((o.map (·.1)).getD []).length c, .int .i64 (((o.map (·.2)).getD 0 : Nat) : Int), .bool o.isSome]) ∧ RdsS w' w'.heap.size A ((o.map (·.1)).getD []).length ((o.map (·.1)).getD []) ∧ Mod (fun _ => False) w w' := by
 cases o with
 | none =>
  obtain ⟨rfl, hm⟩ := h
  exact ⟨none, 0, rfl, RdsS.nil _ _ _, hm⟩
 | some p =>
  obtain ⟨v, rfl, ho, hm⟩ := h
  obtain ⟨A, c, rfl, _, _, hr⟩ := ho.form
  exact ⟨A, c, rfl, hr, hm⟩
theorem openX_few {c : List Nat} (h : c.length < 4) : openX c = none := by
 unfold openX
 rw [if_pos (.inl h)]
theorem openX_sum {c : List Nat} {k : Nat} (hk : c.length = k + 4) (h : sum4 (sumN ent (c.take k)) ≠ c.drop k) : openX c = none := by
 unfold openX
 rw [hk, Nat.add_sub_cancel, if_pos (.inr fun e => h e.symm)]
theorem openX_at {c : List Nat} {k : Nat} (hk : c.length = k + 4) (h : sum4 (sumN ent (c.take k)) = c.drop k) : openX c = match hdC (c.take k) with
  | none => none
  | some (h, j) => match decK (h.1 : Int) (h.2.1 : Int) ((c.take k).drop j) with
   | none => none
   | some l => if fstT l = h.2.2.1 ∧ lstT l = h.2.2.2 then some (l, h.1) else none := by
 unfold openX
 rw [hk, Nat.add_sub_cancel, if_neg (fun h0 => h0.elim (fun h2 => by omega) (fun h2 => h2 h.symm))]
 cases hdC (c.take k) <;> rfl
set_option maxHeartbeats 2000000 in
set_option maxRecDepth 100000 in
theorem jopen_any (A : Option Addr) (n c : Nat) (bs : List Nat) (w : World) (hs : Rds w w.heap.size A n (cells8 bs)) (hlt : lt256 bs) (hnc : n ≤ c) (hcm : c ≤ maxLen) (hn : n ≤ 1000000) (ht : Tabs w) :
  Calls Tryz.prog 8 #[.slice A n c] w fun e w' => EncO w w' (openX bs) e := by
 have hlen : bs.length = n := by have := hs.1; rwa [cells8_length] at this
 by_cases h4 : n < 4
 ·have Hno := Lib.hid (openX_few (c := bs) (by omega))
  clear hs hlt hnc hcm ht hlen
  go_enter Tryz.func8, Tryz.ntmps8
  go_wp2_with fail
  refine (unsealed_few A n c w h4).mono ?_
  rintro e w1 ⟨rfl, hm1⟩
  have Hm1 := Lib.hid hm1
  clear hm1
  go_wp2_with fail
  go_ret3
  exact EncO.of_none Hno.out Hm1.out
 obtain ⟨k, hk⟩ : ∃ k, n = k + 4 := ⟨n - 4, by omega⟩
 have hcall := unsealed_any A n c k bs w hs hlt hnc hcm hk
 have hct : (cells8 bs).take k = cells8 (bs.take k) := by simp [cells8, List.map_take]
 have htk := hs.take (k := k) (by omega)
 rw [hct] at htk
 have Htk := Lib.hid htk; have Hlt := Lib.hid hlt; have Ht := Lib.hid ht; have Hcm := Lib.hid hcm; have Hlen := Lib.hid hlen; have Hcall := Lib.hid hcall
 have Hk := Lib.hid hk
 clear hct htk hlt ht hcm hlen hs hcall hk
 by_cases hsm : sum4 (sumN ent (bs.take k)) = bs.drop k
 ·have Hat := Lib.hid (openX_at (c := bs) (by rw [Hlen.out, Hk.out]) hsm)
  have hdec : decide (sum4 (sumN ent (bs.take k)) = bs.drop k) = true := decide_eq_true hsm
  rw [hdec] at Hcall
  clear hsm hdec
  obtain ⟨b, hb⟩ : ∃ b, b = bs.take k := ⟨_, rfl⟩
  rw [← hb] at Hat Htk
  have hltb : lt256 b := hb ▸ lt256_take Hlt.out k
  obtain ⟨o, ho⟩ : ∃ o, o = openX bs := ⟨_, rfl⟩
  rw [← ho] at Hat ⊢
  have Hltb := Lib.hid hltb
  clear hb hltb ho Hlt
  go_enter Tryz.func8, Tryz.ntmps8
  go_wp2_with fail
  refine Hcall.out.mono ?_
  rintro e w1 ⟨rfl, hm1⟩
  have Htk1 := Lib.hid (Htk.out.new hm1).fit; have Hm1 := Lib.hid hm1
  clear hm1 Htk Hcall
  go_wp2_with fail
  refine (getHead_any A k c b w1 Htk1.out Hltb.out (by have := Hk.out; omega) Hcm.out).mono ?_
  intro e w2 he
  have he' : HeadEnd w1 w2 b k e := he
  clear he
  cases hd : hdC b with
  | none =>
   unfold HeadEnd at he'
   rw [hd] at he'
   obtain ⟨rfl, hm2⟩ := he'
   have Hno : Hid (o = none) := Lib.hid (by rw [Hat.out, hd])
   have Hm2 := Lib.hid ((Hm1.out.trans hm2 (fun _ _ h => h)).alloc (.cells #[.int .i64 0, .int .i64 0, .int .i64 0, .int .i64 0] 36))
   clear hm2 hd Hat
   go_wp2_with fail
   go_ret3
   exact EncO.of_none Hno.out Hm2.out
  | some p =>
   obtain ⟨⟨t, m, f, g⟩, j⟩ := p
   unfold HeadEnd at he'
   rw [hd] at he'
   obtain ⟨A2, L2, c2, hL2, hLc2, hcm2, rfl, hr2, hm2⟩ := he'
   obtain ⟨t1, t6, n1, n6, ff, fg, hfg, hkk, rest, hrest⟩ := hdC_some Hltb.out hd
   have hltd : lt256 (b.drop j) := fun x hx => Hltb.out x (List.mem_of_mem_drop hx)
   rw [hd] at Hat
   have hat := Hat.out
   simp only at hat hr2
   obtain ⟨bd, hbd⟩ : ∃ bd, bd = b.drop j := ⟨_, rfl⟩
   rw [← hbd] at hat hltd hr2
   obtain ⟨W2, hW2⟩ : ∃ W2, W2 = w2.alloc (.cells #[.int .i64 (t : Int), .int .i64 (m : Int), .int .i64 f, .int .i64 g] 36) := ⟨_, rfl⟩
   have hmW : Mod (fun _ => False) w2 W2 := by rw [hW2]; exact (Mod.refl _ _).alloc _
   have hbN : Blk W2 w2.heap.size 36 #[.int .i64 (t : Int), .int .i64 (m : Int), .int .i64 f, .int .i64 g] := by rw [hW2]; exact Blk.new _ _ _
   have hrW : Rds W2 W2.heap.size A2 L2 (cells8 bd) := ((hr2.more hm2.size).fit.new hmW).fit
   have k0 := hbN.cell 0
   have k1 := hbN.cell 1
   simp at k0 k1
   have HmW := Lib.hid ((Hm1.out.trans hm2 (fun _ _ h => h)).trans hmW (fun _ _ h => h)); have HbN := Lib.hid hbN; have HrW := Lib.hid hrW; have HW2 := Lib.hid hW2; have Hltd := Lib.hid hltd; have Hcm2 := Lib.hid hcm2
   have HT2 := Lib.hid (Ht.out.mod HmW.out)
   have Hat2 := Lib.hid hat
   clear hr2 hm2 hd hat hbd hW2 hmW hbN hrW hltd hcm2 hfg hkk hrest Hat Hm1 Htk1 Ht
   go_upto_region 5 with fail
   rw [← HW2.out]
   go_wp2_with fail
   have hL2n : L2 ≤ 1000000 := by have := Hk.out; omega
   refine (kdec_any (t : Int) (m : Int) A2 L2 c2 bd W2 HrW.out Hltd.out hLc2 Hcm2.out hL2n HT2.out).mono ?_
   intro e w3 he
   have he' : EncS W2 w3 (decK (t : Int) (m : Int) bd) e := he
   clear he
   cases hdk : decK (t : Int) (m : Int) bd with
   | none =>
    obtain ⟨rfl, hm3⟩ := EncS.none_ he' hdk
    have Hno : Hid (o = none) := Lib.hid (by rw [Hat2.out, hdk])
    have Hm3 := Lib.hid (HmW.out.trans hm3 (fun _ _ h => h))
    clear he' hdk hm3 Hat2 HrW HT2 k0 k1
    go_wp2_with fail
    first
     | (go_quiet (fail))
     | (go_region)
    go_wp2_with fail
    go_ret3
    exact EncO.of_none Hno.out (Hm3.out.drewN _)
   | some l =>
    obtain ⟨v3, rfl, ho3, hm3⟩ := EncS.some_ he' hdk
    obtain ⟨_, _, hln, hgl, _⟩ := decK_some Hltd.out hdk
    obtain ⟨A3, L3, c3, rfl, HL3, _, _, hr3⟩ := ho3.formN
    have hL3 : L3 = m := by have := HL3.out; omega
    subst hL3
    have hov : o = if fstT l = f ∧ lstT l = g then some (l, t) else none := by rw [Hat2.out, hdk]
    have hb3 := hm3.blk HbN.out (fun h => h)
    have q0 := hb3.cell 0
    have q1 := hb3.cell 1
    have q2 := hb3.cell 2
    have q3 := hb3.cell 3
    simp at q0 q1 q2 q3
    have HX : Hid (∀ W', Mod (fun _ => False) w3 W' → Mod (fun _ => False) w3 W' ∧ W'.cell? ⟨w2.heap.size, 0, none⟩ = some (.int .i64 (t : Int)) ∧ W'.cell? ⟨w2.heap.size, 1, none⟩ = some (.int .i64 (L3 : Int)) ∧ W'.cell? ⟨w2.heap.size, 2, none⟩ = some (.int .i64 f) ∧ W'.cell? ⟨w2.heap.size, 3, none⟩ = some (.int .i64 g)) :=
     Lib.hid (fun W' h => ⟨h, (h.cell (a := ⟨w2.heap.size, 0, none⟩) hb3.lt (fun h => h)).trans q0, (h.cell (a := ⟨w2.heap.size, 1, none⟩) hb3.lt (fun h => h)).trans q1, (h.cell (a := ⟨w2.heap.size, 2, none⟩) hb3.lt (fun h => h)).trans q2, (h.cell (a := ⟨w2.heap.size, 3, none⟩) hb3.lt (fun h => h)).trans q3⟩)
    have S1 := Lib.hid (HX.out w3.drew (Mod.refl _ _).drew)
    have S0 := Lib.hid (HX.out w3 (Mod.refl _ _))
    have hlc := headOf_any (t : Int) A3 L3 c3 l w3.drew hr3.drew.fit (by omega) (by unfold maxLen; omega)
    obtain ⟨f', hf'⟩ : ∃ f', f' = fstT l := ⟨_, rfl⟩
    obtain ⟨g', hg'⟩ : ∃ g', g' = lstT l := ⟨_, rfl⟩
    rw [← hf', ← hg'] at hlc hov
    have Hlc := Lib.hid hlc; have Hov := Lib.hid hov; have Ho3 := Lib.hid ho3; have Hm3 := Lib.hid (HmW.out.trans hm3 (fun _ _ h => h))
    have Hsz2 := Lib.hid HmW.out.size
    clear he' hdk hm3 Hat2 HrW HT2 k0 k1 q0 q1 q2 q3 hb3 hlc hov ho3 hln hgl hr3 hf' hg' HmW HbN
    go_upto_region 8 with fail
    go_cut [43] (fun s43 wc => s43 = .bool (!decide (f' = f ∧ g' = g)) ∧ Mod (fun _ => False) w3 wc)
    case first =>
     by_cases e1 : f' = f
     ·subst e1
      by_cases e2 : g' = g
      ·subst e2
       first
        | (go_region_held_law (fun W' => Mod (fun _ => False) w3 W' ∧ W'.cell? ⟨w2.heap.size, 0, none⟩ = some (.int .i64 (t : Int)) ∧ W'.cell? ⟨w2.heap.size, 1, none⟩ = some (.int .i64 (L3 : Int)) ∧ W'.cell? ⟨w2.heap.size, 2, none⟩ = some (.int .i64 f') ∧ W'.cell? ⟨w2.heap.size, 3, none⟩ = some (.int .i64 g')) (first | (with_reducible exact S2.out) | (with_reducible exact S1.out) | (with_reducible exact S0.out))
          (first
           | (go_at_call 17; refine Hlc.out.mono ?_; rintro e w4 ⟨rfl, hm4⟩; have S2 := Lib.hid (HX.out w4 ((Mod.refl _ _).drew.trans hm4 (fun _ _ h => h))); clear hm4)))
        | fail "held"
       all_goals
        go_wp2_with fail
        go_meet
        exact ⟨by simp, S2.out.1⟩
      ·first
        | (go_region_held_law (fun W' => Mod (fun _ => False) w3 W' ∧ W'.cell? ⟨w2.heap.size, 0, none⟩ = some (.int .i64 (t : Int)) ∧ W'.cell? ⟨w2.heap.size, 1, none⟩ = some (.int .i64 (L3 : Int)) ∧ W'.cell? ⟨w2.heap.size, 2, none⟩ = some (.int .i64 f') ∧ W'.cell? ⟨w2.heap.size, 3, none⟩ = some (.int .i64 g)) (first | (with_reducible exact S2.out) | (with_reducible exact S1.out) | (with_reducible exact S0.out))
          (first
           | (go_at_call 17; refine Hlc.out.mono ?_; rintro e w4 ⟨rfl, hm4⟩; have S2 := Lib.hid (HX.out w4 ((Mod.refl _ _).drew.trans hm4 (fun _ _ h => h))); clear hm4)))
        | fail "held"
       all_goals
        go_wp2_with fail
        go_meet
        exact ⟨by simp [e2], S2.out.1⟩
     ·first
       | (go_region_held_law (fun W' => Mod (fun _ => False) w3 W' ∧ W'.cell? ⟨w2.heap.size, 0, none⟩ = some (.int .i64 (t : Int)) ∧ W'.cell? ⟨w2.heap.size, 1, none⟩ = some (.int .i64 (L3 : Int)) ∧ W'.cell? ⟨w2.heap.size, 2, none⟩ = some (.int .i64 f) ∧ W'.cell? ⟨w2.heap.size, 3, none⟩ = some (.int .i64 g)) (first | (with_reducible exact S2.out) | (with_reducible exact S1.out) | (with_reducible exact S0.out))
         (first
          | (go_at_call 17; refine Hlc.out.mono ?_; rintro e w4 ⟨rfl, hm4⟩; have S2 := Lib.hid (HX.out w4 ((Mod.refl _ _).drew.trans hm4 (fun _ _ h => h))); clear hm4)))
       | fail "held"
      all_goals
       go_wp2_with fail
       go_meet
       exact ⟨by simp [e1], S2.out.1⟩
    case rest =>
    obtain ⟨rfl, hmc⟩ := hcut
    have Hmc := Lib.hid hmc
    have Hmf := Lib.hid (Hm3.out.trans hmc (fun _ _ h => h))
    have Hoc := Lib.hid (Ho3.out.mod hmc)
    have S5 := HX.out _ hmc
    have c0 := S5.2.1
    clear hmc S5 S1 S0 HX Hlc Ho3 Hm3
    by_cases e : f' = f ∧ g' = g
    ·have Hyes : Hid (o = some (l, t)) := Lib.hid (by rw [Hov.out, if_pos e])
     have hdc : (!decide (f' = f ∧ g' = g)) = false := by simp [e]
     rw [hdc]
     clear hdc Hov
     go_upto_region 10 with fail
     first
      | (go_quiet (fail))
      | (go_region)
     go_wp2_with fail
     go_ret3
     exact EncO.of_some Hyes.out (Hoc.out.mono Hsz2.out) (Hmf.out.drewN _)
    ·have Hno : Hid (o = none) := Lib.hid (by rw [Hov.out, if_neg e])
     have hdc : (!decide (f' = f ∧ g' = g)) = true := by simp [e]
     rw [hdc]
     clear hdc Hov
     go_wp2_with fail
     go_ret3
     exact EncO.of_none Hno.out Hmf.out
 ·have Hno := Lib.hid (openX_sum (c := bs) (by rw [Hlen.out, Hk.out]) hsm)
  have hdec : decide (sum4 (sumN ent (bs.take k)) = bs.drop k) = false := decide_eq_false hsm
  rw [hdec] at Hcall
  clear hsm hdec Htk Hlt Ht
  go_enter Tryz.func8, Tryz.ntmps8
  go_wp2_with fail
  refine Hcall.out.mono ?_
  rintro e w1 ⟨rfl, hm1⟩
  have Hm1 := Lib.hid hm1
  clear hm1 Hcall
  go_wp2_with fail
  go_ret3
  exact EncO.of_none Hno.out Hm1.out
end Go.Proofs.YtjmjlflmcpkmnaaGreatDoor

/- What the document fixes of layer 11: awake. -/
namespace Go.Proofs.YtjmjlflmcpkmnaaGreatDoor
open Go.RowKit

theorem rds_pair (w : World) (a b : Int) (x y : Nat) : RdsS (w.alloc (.cells #[.int .i64 a, .int .u64 (x : Int), .int .i64 b, .int .u64 (y : Int)] 43)) (w.heap.size + 1) (some ⟨w.heap.size, 0, none⟩) 2 [(a, x), (b, y)] :=
 ⟨rfl, Rds.lit w 43 #[.int .i64 a, .int .u64 (x : Int), .int .i64 b, .int .u64 (y : Int)]⟩
/-- The first four bytes of a row. -/
theorem four_at {w : World} {B g n : Nat} {bs : List Nat} {a b c d : Nat} (h : Rds w B (some ⟨g, 0, none⟩) n (cells8 bs)) (hn : 4 ≤ n) (ht : bs.take 4 = [a, b, c, d]) :
  w.cell? ⟨g, 0, none⟩ = some (.int .u8 (a : Int)) ∧ w.cell? ⟨g, 1, none⟩ = some (.int .u8 (b : Int)) ∧ w.cell? ⟨g, 2, none⟩ = some (.int .u8 (c : Int)) ∧ w.cell? ⟨g, 3, none⟩ = some (.int .u8 (d : Int)) := by
 obtain ⟨ad, e, _, hc⟩ := h.2 (by omega)
 injection e with e
 subst e
 have key : ∀ (i : Nat) (x : Nat), i < 4 → [a, b, c, d][i]? = some x → w.cell? ⟨g, i, none⟩ = some (.int .u8 (x : Int)) := by
  intro i x hi hx
  rw [← ht, List.getElem?_take, if_pos hi] at hx
  have h2 := hc i (.int .u8 (x : Int)) (by rw [cells8_get, hx]; rfl)
  rwa [add_addr, Nat.zero_add] at h2
 exact ⟨key 0 a (by decide) rfl, key 1 b (by decide) rfl, key 2 c (by decide) rfl, key 3 d (by decide) rfl⟩
/-- The tables stay where a row of the call's own turns. -/
theorem Tabs.mod1 {w0 w w' : World} {g : Nat} (h0 : Tabs w0) (h : Tabs w) (hm : Mod (fun k => k = g) w w') (hg : w0.heap.size ≤ g) : Tabs w' :=
 ⟨h.wid.mod hm (fun e => by have := h0.wid.1; omega), h.deb.mod hm (fun e => by have := h0.deb.1; omega), h.kin.mod hm (fun e => by have := h0.kin.1; omega)⟩
set_option maxHeartbeats 2000000 in
set_option maxRecDepth 100000 in
theorem jawake_any (w : World) (ht : Tabs w) : Calls Tryz.prog 4 #[] w fun e w' => e = .returned (.bool true) ∧ Mod (fun _ => False) w w' := by
 obtain ⟨b, hb, hb4, hbt, hbh, hb0⟩ := cTwo_facts
 have hlt := makeC_256 hb
 have hlen := makeC_len lTwo_good hb
 have hopen : openX b = some (lTwo, 6) := by rw [openX_eq hlt, openC_make lTwo_good hb]; rfl
 have hno : openX (b ++ [0]) = none := by rw [openX_eq (lt256_app hlt (fun x hx => by simp at hx; omega)), hb0]
 have hln : b.length ≤ 2795 := by have : lTwo.length = 2 := rfl; omega
 have hv : hdV (hdC b) = (6, 2, -1, 2) ∧ (hdC b).isSome = true := by rw [hbh]; exact ⟨rfl, rfl⟩
 have Ht := Lib.hid ht; have Hb := Lib.hid hb; have Hbt := Lib.hid hbt; have Hlt := Lib.hid hlt; have Hopen := Lib.hid hopen; have Hno := Lib.hid hno; have Hln := Lib.hid hln; have Hv := Lib.hid hv; have Hb4 := Lib.hid hb4
 clear ht hb hbt hlt hlen hopen hno hln hv hb4 hbh hb0
 go_enter Tryz.func4, Tryz.ntmps4
 go_wp2_with fail
 refine (jmake_any 6 _ 2 2 lTwo _ (rds_pair w (-1) 2 7 7).fit lTwo_good (Ht.out.mod ((Mod.refl _ _).alloc _))).mono ?_
 intro e w1 he
 have he' : EncB _ w1 (makeC 6 lTwo) e := he
 obtain ⟨v1, rfl, ho1, hm1⟩ := EncB.some_ he' Hb.out
 obtain ⟨L, hL⟩ : ∃ L, b.length = L := ⟨_, rfl⟩
 obtain ⟨A1, c1, rfl, hc1, hcm1, hA1⟩ := u_formN8 ho1 hL
 have hL4' : 4 ≤ L := by have := Hb4.out; omega
 have hLn : L ≤ 2795 := by have := Hln.out; omega
 obtain ⟨g, rfl, hgB, hgl⟩ := hA1 (by omega)
 have hr1 := Own.rds8 ho1 hL
 have HL := Lib.hid hL; have Ho1 := Lib.hid ho1; have Hr1 := Lib.hid hr1; have Hcm1 := Lib.hid hcm1; have Hgl := Lib.hid hgl
 have Hm1 := Lib.hid (((Mod.refl (fun _ => False) w).alloc (.cells #[.int .i64 (-1), .int .u64 ((7 : Nat) : Int), .int .i64 2, .int .u64 ((7 : Nat) : Int)] 43)).trans hm1 (fun _ _ h => h))
 have HgB : Hid (w.heap.size + 1 ≤ g) := Lib.hid (by simpa using hgB)
 have hm1s : w.heap.size + 1 ≤ w1.heap.size := by have := hm1.size; simpa using this
 have Hl1 := Lib.hid ((rds_pair w (-1) 2 7 7).mod hm1 (by simp) (fun _ _ h => h))
 have T1 := Lib.hid (Ht.out.mod Hm1.out)
 clear he he' hm1 hL ho1 hr1 hcm1 hgl hgB hA1
 go_wp2_with fail
 refine (jopen_any _ L c1 b w1 Hr1.out Hlt.out hc1 Hcm1.out (by omega) T1.out).mono ?_
 intro e w2 he
 have he' : EncO w1 w2 (openX b) e := he
 obtain ⟨v2, rfl, ho2, hm2⟩ := EncO.some_ he' Hopen.out
 obtain ⟨A2, L2, c2, rfl, HL2, _, _, hr2⟩ := ho2.formN
 have hL2 : L2 = 2 := by have := HL2.out; exact this.symm
 subst hL2
 have Hr2 := Lib.hid hr2; have Hm2 := Lib.hid (Hm1.out.trans hm2 (fun _ _ h => h)); have Ho2 := Lib.hid (Ho1.out.mod hm2); have Hl2 := Lib.hid (Hl1.out.mod hm2 (by have := hm1s; omega) (fun _ _ h => h)); have Hb2 := Lib.hid (Hr1.out.new hm2).fit; have T2 := Lib.hid (T1.out.mod hm2)
 have Hgl2 : Hid (g < w2.heap.size) := Lib.hid (Nat.lt_of_lt_of_le Hgl.out hm2.size)
 have Hv2 : Hid (OwnS w1.heap.size w2 (.slice A2 2 c2) lTwo) := Lib.hid ho2
 have hs2s : w.heap.size + 1 ≤ w2.heap.size := Nat.le_trans hm1s hm2.size
 clear he he' ho2 hm2 hr2 HL2 Ho1 Hr1 Hm1 Hl1 T1
 go_wp2_with fail
 refine (jhead_any _ L c1 b w2 Hb2.out Hlt.out hc1 Hcm1.out).mono ?_
 rintro e w3 ⟨rfl, hm3⟩
 rw [Hv.out.1, Hv.out.2]
 obtain ⟨W, hW⟩ : ∃ W, W = w3.alloc (.cells #[.int .i64 6, .int .i64 2, .int .i64 (-1), .int .i64 2] 36) := ⟨_, rfl⟩
 obtain ⟨hk, hhk⟩ : ∃ hk, hk = w3.heap.size := ⟨_, rfl⟩
 have hmW : Mod (fun _ => False) w2 W := by rw [hW]; exact hm3.alloc _
 have hbW : Blk W hk 36 #[.int .i64 6, .int .i64 2, .int .i64 (-1), .int .i64 2] := by rw [hW, hhk]; exact Blk.new _ _ _
 have hne : hk ≠ g := by have := Hgl2.out; have := hm3.size; omega
 have Hb3 := Lib.hid (Hb2.out.new hmW).fit; have Hm3 := Lib.hid (Hm2.out.trans hmW (fun _ _ h => h)); have Ho3 := Lib.hid (Ho2.out.mod hmW); have Hl3 := Lib.hid (Hl2.out.mod hmW (by have := hs2s; omega) (fun _ _ h => h)); have Hr3 := Lib.hid (Hv2.out.mod hmW); have T3 := Lib.hid (T2.out.mod hmW)
 have HbW := Lib.hid hbW; have HW := Lib.hid hW; have Hne := Lib.hid hne; have Hhk := Lib.hid hhk
 have HsW := Lib.hid hmW.size
 clear hm3 hW hmW hbW hne hhk Ho2 Hl2 Hr2 T2 Hb2 Hm2
 go_upto_region 5 with fail
 rw [← HW.out, ← Hhk.out]
 have Hl0 : Hid (Rds (W.alloc (.cells #[.int .u8 0] 5)) (W.heap.size + 1) (some ⟨W.heap.size, 0, none⟩) 1 [.int .u8 0]) := Lib.hid (Rds.lit W 5 #[.int .u8 0])
 have Ho3a := Lib.hid (Ho3.out.alloc (.cells #[.int .u8 0] 5))
 have HL8 : Hid ((cells8 b).length = L) := Lib.hid (by rw [cells8_length]; exact HL.out)
 have hsW : w.heap.size + 1 ≤ W.heap.size := Nat.le_trans hs2s HsW.out
 have hsz3 : (w.alloc (.cells #[.int .i64 (-1), .int .u64 ((7 : Nat) : Int), .int .i64 2, .int .u64 ((7 : Nat) : Int)] 43)).heap.size ≤ (W.alloc (.cells #[.int .u8 0] 5)).heap.size := by simp; omega
 have hmaxL : L + 1 ≤ maxLen := by unfold maxLen; omega
 have hbyL : (L + 1) * 1 ≤ 140737488355328 := by omega
 go_wp2_with (at_builtin; refine wpList_kept rfl (.tmp 34) (.tmp 35) _ rfl elt8 rfl Ho3a.out HL8.out rfl Hl0.out (by simp [Value.oneCell']) (by omega) hmaxL hbyL hsz3 ?_; intro v4 w4 HO4 HR4 HM4)
 have ho4 : Own (w.alloc (.cells #[.int .i64 (-1), .int .u64 ((7 : Nat) : Int), .int .i64 2, .int .u64 ((7 : Nat) : Int)] 43)).heap.size w4 5 v4 (cells8 (b ++ [0])) := by rw [cells8_snoc]; exact HO4.out
 obtain ⟨A4, L4, c4, rfl, HL4, hc4, hcm4, hr4⟩ := own_formN8 ho4
 have hL4 : L4 ≤ 3000 := by have := HL4.out; rw [List.length_append, HL.out] at this; simp at this; omega
 have hM4 : Mod (fun k => k = g) W w4 := ((Mod.refl _ W).alloc (.cells #[.int .u8 0] 5)).trans HM4.out (fun _ _ h => h)
 have Hm4 := Lib.hid (Hm3.out.trans hM4 (fun i hi h => by have := HgB.out; omega))
 have Hl4 := Lib.hid (Hl3.out.mod hM4 hsW (fun j hj h => by have := HgB.out; omega))
 have Hv4 : Hid (OwnS w1.heap.size w4 (.slice A2 2 c2) lTwo) := Lib.hid (hM4.owns Hr3.out (fun k hk h => by have := (Hr3.out.block k hk).1; have := Hgl.out; omega))
 have Hb4 := Lib.hid HR4.out; have HbH4 := Lib.hid (hM4.blk HbW.out Hne.out); have T4 := Lib.hid (Tabs.mod1 Ht.out T3.out hM4 (by have := HgB.out; omega))
 have Hr4 := Lib.hid hr4
 clear ho4 hr4 hM4 HO4 HR4 HM4 Hl3 Hr3 T3 Hm3 Ho3 Ho3a Hl0 Hb3 HbW HW HL8
 refine (jopen_any A4 L4 c4 (b ++ [0]) w4 Hr4.out (lt256_app Hlt.out (fun x hx => by simp at hx; omega)) hc4 hcm4 (by omega) T4.out).mono ?_
 intro e w5 he
 have he' : EncO w4 w5 (openX (b ++ [0])) e := he
 obtain ⟨rfl, hm5⟩ := EncO.none_ he' Hno.out
 have Hl5 := Lib.hid (Hl4.out.fit.new hm5).fit; have Hv5 := Lib.hid (Hv4.out.mod hm5); have Hb5 := Lib.hid (Hb4.out.new hm5).fit; have HbH5 := Lib.hid (hm5.blk HbH4.out (fun h => h)); have T5 := Lib.hid (T4.out.mod hm5); have Hm5 := Lib.hid (Hm4.out.trans hm5 (fun _ _ h => h))
 clear he he' hm5 Hl4 Hv4 Hb4 HbH4 T4 Hm4 Hr4 hc4 hcm4 hL4 HL4
 go_wp2_with fail
 refine (jmake_any 1 none 0 0 [] w5 (RdsS.nil _ _ _) (fun p hp => by cases hp) T5.out).mono ?_
 intro e w6 he
 have he' : EncB w5 w6 (makeC 1 []) e := he
 obtain ⟨rfl, hm6⟩ := EncB.none_ he' (makeC_nil 1)
 have Hl6 := Lib.hid (Hl5.out.new hm6).fit; have Hv6 := Lib.hid ((Hv5.out.mod hm6).rds rfl); have hb6 := (Hb5.out.new hm6).fit; have hh6 := hm6.blk HbH5.out (fun h => h); have Hm6 := Lib.hid (Hm5.out.trans hm6 (fun _ _ h => h))
 obtain ⟨q0, q1, q2, q3⟩ := four_at hb6 hL4' Hbt.out
 have HbH6 := Lib.hid hh6
 have h4L : (4 : Int) ≤ (L : Int) := by omega
 have h0L : (0 : Int) < (L : Int) := by omega
 have h1L : (1 : Int) < (L : Int) := by omega
 have h2L : (2 : Int) < (L : Int) := by omega
 have h3L : (3 : Int) < (L : Int) := by omega
 clear he he' hm6 hb6 hh6 Hl5 Hv5 Hb5 HbH5 T5 Hm5 hsz3
 go_wp2_with fail
 refine (sameS_any A2 _ 2 2 c2 2 _ _ lTwo lTwo true w6 Hv6.out Hl6.out (by decide) (by simp)).mono ?_
 rintro e w7 ⟨rfl, hm7⟩
 have hh7 := hm7.blk HbH6.out (fun h => h)
 have z0 := hh7.cell 0
 have z1 := hh7.cell 1
 have z2 := hh7.cell 2
 have z3 := hh7.cell 3
 simp at z0 z1 z2 z3
 have Hm7 := Lib.hid (Hm6.out.trans hm7 (fun _ _ h => h))
 clear hm7 hh7 HbH6 Hv6 Hl6 q0 q1 q2 q3
 go_wp2_with fail
 go_ret
 exact ⟨rfl, Hm7.out⟩
end Go.Proofs.YtjmjlflmcpkmnaaGreatDoor

/- Chunks, of the document: what head answers. -/
namespace Go.Proofs.YtjmjlflmcpkmnaaGreatDoor
open Go.RowKit

/-- How many bytes a head takes; none: 0. -/
def hdK (o : Option ((Nat × Nat × Int × Int) × Nat)) : Nat := (o.map (·.2)).getD 0
/-- What head answers. -/
def RHead (w w' : World) (bs : List Nat) (e : Ending) : Prop :=
 e = .returned (.tuple #[.agg #[.int .i64 ((hdV (hdC bs)).1 : Int), .int .i64 ((hdV (hdC bs)).2.1 : Int), .int .i64 (hdV (hdC bs)).2.2.1, .int .i64 (hdV (hdC bs)).2.2.2], .int .i64 (hdK (hdC bs) : Int), .bool (hdC bs).isSome]) ∧ Mod (fun _ => False) w w'
theorem RHead.of_none {w w' : World} {bs : List Nat} (h : hdC bs = none) (hm : Mod (fun _ => False) w w') : RHead w w' bs (.returned (.tuple #[.agg #[.int .i64 0, .int .i64 0, .int .i64 0, .int .i64 0], .int .i64 0, .bool false])) := by
 unfold RHead
 rw [h]
 exact ⟨rfl, hm⟩
theorem RHead.of_some {w w' : World} {bs : List Nat} {t n k : Nat} {f g : Int} (h : hdC bs = some ((t, n, f, g), k)) (hm : Mod (fun _ => False) w w') : RHead w w' bs (.returned (.tuple #[.agg #[.int .i64 (t : Int), .int .i64 (n : Int), .int .i64 f, .int .i64 g], .int .i64 (k : Int), .bool true])) := by
 unfold RHead
 rw [h]
 exact ⟨rfl, hm⟩
end Go.Proofs.YtjmjlflmcpkmnaaGreatDoor

/- Chunks, of the document: a head, and how many bytes it takes; Head. -/
namespace Go.Proofs.YtjmjlflmcpkmnaaGreatDoor
open Go.RowKit

set_option linter.unusedSimpArgs false in
set_option maxHeartbeats 1000000 in
set_option maxRecDepth 100000 in
theorem rhead_any (A : Option Addr) (n c : Nat) (bs : List Nat) (w : World) (hs : Rds w w.heap.size A n (cells8 bs)) (hlt : lt256 bs) (hnc : n ≤ c) (hcm : c ≤ maxLen) :
  Calls Tryz.prog 26 #[.slice A n c] w fun e w' => RHead w w' bs e := by
 have hlen : bs.length = n := by have := hs.1; rwa [cells8_length] at this
 unfold maxLen at hcm
 obtain ⟨W, hW⟩ : ∃ W, W = w.alloc (.cells #[.int .i64 0, .int .i64 0, .int .i64 0, .int .i64 0] 36) := ⟨_, rfl⟩
 have hmW : Mod (fun _ => False) w W := by rw [hW]; exact (Mod.refl _ _).alloc _
 have hbH : Blk W w.heap.size 36 #[.int .i64 0, .int .i64 0, .int .i64 0, .int .i64 0] := by rw [hW]; exact Blk.new _ _ _
 have hrW := (hs.new hmW).fit
 have hh0 := hbH.cell 0
 have hh1 := hbH.cell 1
 have hh2 := hbH.cell 2
 have hh3 := hbH.cell 3
 have hf0 := hbH.frozen 0
 have hf1 := hbH.frozen 1
 have hf2 := hbH.frozen 2
 have hf3 := hbH.frozen 3
 simp at hh0 hh1 hh2 hh3
 have HW := Lib.hid hW; have HmW := Lib.hid hmW; have HbH := Lib.hid hbH; have HrW := Lib.hid hrW; have Hlt := Lib.hid hlt; have Hlen := Lib.hid hlen
 clear hW hmW hbH hrW hlt hlen hs
 by_cases h0 : n = 0
 ·subst h0
  go_enter Tryz.func26, Tryz.ntmps26
  go_upto_region 1 with fail
  rw [← HW.out]
  go_wp2_with fail
  refine bodyPost_ret (v := .tuple #[.agg #[.int .i64 0, .int .i64 0, .int .i64 0, .int .i64 0], .int .i64 0, .bool false]) (by have h := HbH.out.four (.int .i64 0) (.int .i64 0) (.int .i64 0) (.int .i64 0); simp [results, Tryz.results26, go_sem, h.1, h.2.1, h.2.2.1, h.2.2.2.1]) rfl ?_
  exact RHead.of_none (by rw [List.length_eq_zero_iff.1 Hlen.out]; rfl) (HmW.out.four_new (Nat.le_refl _) _ _ _ _)
 ·obtain ⟨ad, t, rfl, hbt, htl, hcell⟩ := byte_at HrW.out Hlt.out (show 0 < n by omega)
  have ead : ad.add 0 = ad := by simp [Addr.add]
  rw [ead] at hcell
  have hb0 : ((n : Int) == 0) = false := by simp; omega
  have h0n : (0 : Int) < (n : Int) := by omega
  have h0nn : 0 < n := by omega
  have Hbt := Lib.hid hbt
  clear hbt ead
  go_enter Tryz.func26, Tryz.ntmps26
  go_upto_region 1 with fail
  rw [← HW.out]
  by_cases t1 : (t : Int) < 1
  ·go_wp2_with fail
   refine bodyPost_ret (v := .tuple #[.agg #[.int .i64 0, .int .i64 0, .int .i64 0, .int .i64 0], .int .i64 0, .bool false]) (by have h := HbH.out.four (.int .i64 0) (.int .i64 0) (.int .i64 0) (.int .i64 0); simp [results, Tryz.results26, go_sem, h.1, h.2.1, h.2.2.1, h.2.2.2.1]) rfl ?_
   exact RHead.of_none (hdC_bad Hbt.out (by omega)) (HmW.out.four_new (Nat.le_refl _) _ _ _ _)
  by_cases t6 : (6 : Int) < (t : Int)
  ·go_wp2_with fail
   refine bodyPost_ret (v := .tuple #[.agg #[.int .i64 0, .int .i64 0, .int .i64 0, .int .i64 0], .int .i64 0, .bool false]) (by have h := HbH.out.four (.int .i64 0) (.int .i64 0) (.int .i64 0) (.int .i64 0); simp [results, Tryz.results26, go_sem, h.1, h.2.1, h.2.2.1, h.2.2.2.1]) rfl ?_
   exact RHead.of_none (hdC_bad Hbt.out (by omega)) (HmW.out.four_new (Nat.le_refl _) _ _ _ _)
  have h1n : (1 : Int) ≤ (n : Int) := by omega
  have h1c : (1 : Int) ≤ (c : Int) := by omega
  obtain ⟨x0, ex0⟩ : ∃ x, x = hx bs 0 := ⟨_, rfl⟩
  obtain ⟨q0, eq0⟩ : ∃ x, x = hq bs 0 := ⟨_, rfl⟩
  obtain ⟨x1, ex1⟩ : ∃ x, x = hx bs 1 := ⟨_, rfl⟩
  obtain ⟨q1, eq1⟩ : ∃ x, x = hq bs 1 := ⟨_, rfl⟩
  obtain ⟨x2, ex2⟩ : ∃ x, x = hx bs 2 := ⟨_, rfl⟩
  obtain ⟨q2, eq2⟩ : ∃ x, x = hq bs 2 := ⟨_, rfl⟩
  obtain ⟨p1, ep1⟩ : ∃ x, x = hp bs 1 := ⟨_, rfl⟩
  obtain ⟨p2, ep2⟩ : ∃ x, x = hp bs 2 := ⟨_, rfl⟩
  obtain ⟨p3, ep3⟩ : ∃ x, x = hp bs 3 := ⟨_, rfl⟩
  have hlt' : ∀ k, lt256 (bs.drop k) := fun k x hx => Hlt.out x (List.mem_of_mem_drop hx)
  have b0 : p1 = 1 + q0 := by rw [ep1, eq0]; rfl
  have b1 : p2 = p1 + q1 := by rw [ep2, ep1, eq1]; rfl
  have b2 : p3 = p2 + q2 := by rw [ep3, ep2, eq2]; rfl
  have l0 : p1 ≤ n := by
   have h := dec_le_len (hlt' 1)
   rw [List.length_drop, Hlen.out] at h
   have : (dec (bs.drop 1)).2 = q0 := eq0.symm
   omega
  have l1 : p2 ≤ n := by
   have h := dec_le_len (hlt' p1)
   rw [List.length_drop, Hlen.out, ep1] at h
   have : (dec (bs.drop (hp bs 1))).2 = q1 := eq1.symm
   omega
  have l2 : p3 ≤ n := by
   have h := dec_le_len (hlt' p2)
   rw [List.length_drop, Hlen.out, ep2] at h
   have : (dec (bs.drop (hp bs 2))).2 = q2 := eq2.symm
   omega
  have hcd : ∀ k, (cells8 bs).drop k = cells8 (bs.drop k) := fun k => by simp [cells8, List.map_drop]
  obtain ⟨A1, hA1⟩ : ∃ A1, (if c = 1 then some ad else some ⟨ad.block, ad.off + 1, none⟩) = A1 := ⟨_, rfl⟩
  obtain ⟨A2, hA2⟩ : ∃ A2, (if c = p1 then some ad else some (ad.add p1)) = A2 := ⟨_, rfl⟩
  obtain ⟨A3, hA3⟩ : ∃ A3, (if c = p2 then some ad else some (ad.add p2)) = A3 := ⟨_, rfl⟩
  have d1 : Rds W W.heap.size A1 (n - 1) (cells8 (bs.drop 1)) := by
   have h := HrW.out.drop (k := 1) (cap := c) (by omega) hnc
   rw [hcd] at h
   rw [← hA1]
   exact h
  have d2 : Rds W W.heap.size A2 (n - p1) (cells8 (bs.drop p1)) := by
   have h := HrW.out.drop (k := p1) (cap := c) (by omega) hnc
   rw [hcd] at h
   rw [← hA2]
   exact h
  have d3 : Rds W W.heap.size A3 (n - p2) (cells8 (bs.drop p2)) := by
   have h := HrW.out.drop (k := p2) (cap := c) (by omega) hnc
   rw [hcd] at h
   rw [← hA3]
   exact h
  have c1 := vrget_any A1 (n - 1) (c - 1) W.heap.size (bs.drop 1) W d1 (hlt' 1) (by unfold maxLen; omega)
  have c2 := vrget_any A2 (n - p1) (c - p1) W.heap.size (bs.drop p1) W d2 (hlt' p1) (by unfold maxLen; omega)
  have c3 := vrget_any A3 (n - p2) (c - p2) W.heap.size (bs.drop p2) W d3 (hlt' p2) (by unfold maxLen; omega)
  have v1 : (dec (bs.drop 1)).1 = x0 ∧ (dec (bs.drop 1)).2 = q0 := ⟨ex0.symm, eq0.symm⟩
  have v2 : (dec (bs.drop p1)).1 = x1 ∧ (dec (bs.drop p1)).2 = q1 := by rw [ep1]; exact ⟨ex1.symm, eq1.symm⟩
  have v3 : (dec (bs.drop p2)).1 = x2 ∧ (dec (bs.drop p2)).2 = q2 := by rw [ep2]; exact ⟨ex2.symm, eq2.symm⟩
  rw [v1.1, v1.2] at c1
  rw [v2.1, v2.2] at c2
  rw [v3.1, v3.2] at c3
  have hw1 : IntKind.i64.wrap (1 + (q0 : Int)) = (p1 : Int) := by rw [IntWalk.i64_in _ (by omega)]; omega
  have hw2 : IntKind.i64.wrap ((p1 : Int) + (q1 : Int)) = (p2 : Int) := by rw [IntWalk.i64_in _ (by omega)]; omega
  have hw3 : IntKind.i64.wrap ((p2 : Int) + (q2 : Int)) = (p3 : Int) := by rw [IntWalk.i64_in _ (by omega)]; omega
  have hp1n : (p1 : Int) ≤ (n : Int) := by omega
  have hp2n : (p2 : Int) ≤ (n : Int) := by omega
  have hp1c : (p1 : Int) ≤ (c : Int) := by omega
  have hp2c : (p2 : Int) ≤ (c : Int) := by omega
  have hp10 : (0 : Int) ≤ (p1 : Int) := by omega
  have hp20 : (0 : Int) ≤ (p2 : Int) := by omega
  have hx0l : x0 < 18446744073709551616 := ex0 ▸ hx_lt Hlt.out 0
  have hx1l : x1 < 18446744073709551616 := ex1 ▸ hx_lt Hlt.out 1
  have hx2l : x2 < 18446744073709551616 := ex2 ▸ hx_lt Hlt.out 2
  obtain ⟨cn, hcn⟩ : ∃ cn : Nat, cn = min x0 65536 := ⟨_, rfl⟩
  have hcnl : cn ≤ 65536 := by omega
  have hmin : (if (65536 : Int) < (x0 : Int) then (65536 : Int) else (x0 : Int)) = (cn : Int) := by split <;> omega
  have hwc : IntKind.i64.wrap (cn : Int) = (cn : Int) := by rw [IntWalk.i64_in _ (by omega)]
  have hwt : IntKind.i64.wrap (t : Int) = (t : Int) := by rw [IntWalk.i64_in _ (by omega)]
  obtain ⟨f, hf⟩ : ∃ f, f = zag (x1 : Int) := ⟨_, rfl⟩
  obtain ⟨g, hg⟩ : ∃ g, g = zag (x2 : Int) := ⟨_, rfl⟩
  have hz1 := fun W' => rzag_any (x1 : Int) W' ⟨by omega, by omega⟩
  have hz2 := fun W' => rzag_any (x2 : Int) W' ⟨by omega, by omega⟩
  rw [← hf] at hz1
  rw [← hg] at hz2
  have C1 := Lib.hid c1; have C2 := Lib.hid c2; have C3 := Lib.hid c3; have Hz1 := Lib.hid hz1; have Hz2 := Lib.hid hz2
  have Ex0 := Lib.hid ex0; have Ex1 := Lib.hid ex1; have Ex2 := Lib.hid ex2; have Eq0 := Lib.hid eq0; have Eq1 := Lib.hid eq1; have Eq2 := Lib.hid eq2; have Ep3 := Lib.hid ep3; have Hf := Lib.hid hf; have Hg := Lib.hid hg; have Hcn := Lib.hid hcn
  have Hx1l : Hid (x1 < 18446744073709551616) := Lib.hid hx1l
  clear c1 c2 c3 hz1 hz2 ex0 ex1 ex2 eq0 eq1 eq2 ep1 ep2 ep3 hf hg hcn v1 v2 v3 d1 d2 d3 hlt' b0 b1 b2 hcd hx1l hx2l
  go_upto_region 3 with fail
  go_wp2_with fail
  refine C1.out.mono ?_
  rintro e w' ⟨rfl, rfl⟩
  go_wp2_with fail
  refine C2.out.mono ?_
  rintro e w' ⟨rfl, rfl⟩
  go_wp2_with fail
  refine C3.out.mono ?_
  rintro e w' ⟨rfl, rfl⟩
  have Had : Hid (ad.block < W.heap.size) := Lib.hid (by
   obtain ⟨ad', hA, hbl, _⟩ := HrW.out.2 (by omega)
   injection hA with hA
   subst hA
   exact hbl)
  have hX : ∀ W', Mod (fun _ => False) W W' → Mod (fun _ => False) W W' ∧ W'.cell? ad = some (.int .u8 (t : Int)) := fun W' h => ⟨h, (h.cell (a := ad) Had.out (fun h => h)).trans hcell⟩
  have S1 := Lib.hid (hX W.drew (Mod.refl _ _).drew)
  have S2 := Lib.hid (hX (W.alloc (.cells #[.int .i64 0, .int .i64 0, .int .i64 0, .int .i64 0] 36)).drew ((Mod.refl _ _).alloc _).drew)
  have S3 := Lib.hid (hX (W.alloc (.cells #[.int .i64 (t : Int), .int .i64 (cn : Int), .int .i64 f, .int .i64 g] 36)).drew ((Mod.refl _ _).alloc _).drew)
  obtain ⟨W2, hW2⟩ : ∃ W2, W2 = (W.alloc (.cells #[.int .i64 (t : Int), .int .i64 (cn : Int), .int .i64 f, .int .i64 g] 36)).drew := ⟨_, rfl⟩
  have hm2 : Mod (fun _ => False) w W2 := by rw [hW2]; exact (HmW.out.alloc _).drew
  have hbH2 : Blk W2 w.heap.size 36 #[.int .i64 0, .int .i64 0, .int .i64 0, .int .i64 0] := by rw [hW2]; exact (HbH.out.alloc _).drew
  have hbN : Blk W2 W.heap.size 36 #[.int .i64 (t : Int), .int .i64 (cn : Int), .int .i64 f, .int .i64 g] := by rw [hW2]; exact (Blk.new _ _ _).drew
  have HW2 := Lib.hid hW2; have Hm2 := Lib.hid hm2; have HbH2 := Lib.hid hbH2; have HbN := Lib.hid hbN
  clear hW2 hm2 hbH2 hbN hcell hh0 hh1 hh2 hh3 hf0 hf1 hf2 hf3 hX C1 C2 C3 hA1 hA2 hA3
  have Hw1 := Lib.hid hw1; have Hw2 := Lib.hid hw2; have Hw3 := Lib.hid hw3; have Hb0 := Lib.hid hb0; have Hnc := Lib.hid hnc; have T1 := Lib.hid t1; have T6 := Lib.hid t6
  go_upto_region 6 with fail
  clear hw1 hw2 hw3 hb0 hnc t1 t6 hp1n hp2n hp1c hp2c hp10 hp20 l0 l1 l2 h1n h1c hcm h0
  go_cut [11] (fun s11 wc => s11 = .pointer (some ⟨W.heap.size, 0, none⟩) ∧ wc = W2)
  case first =>
   refine wp_region_held_drew (S := (fun W' => Mod (fun _ => False) W W' ∧ W'.cell? ad = some (.int .u8 (t : Int)))) (by kernel_rfl) S1.out (fun hHeld => ?_)
   refine wpAnyH_take (i := 0) (v := ?_) rfl (by kernel_rfl) (by kernel_rfl) (by kernel_rfl) (fun _ _ _ h => h) (Or.inl ⟨by rfl, ?_⟩) hHeld ?_
   rotate_left
   ·(intro w hSw; (try dsimp only at hSw); go_simp; first | done | with_reducible rfl)
   simp only [Act.put, List.setIfInBounds_toArray, List.set_cons_zero, List.set_cons_succ]
   refine wpAnyH_take (i := 1) (v := ?_) rfl (by kernel_rfl) (by kernel_rfl) (by kernel_rfl) (fun _ _ _ h => h) (Or.inl ⟨by rfl, ?_⟩) hHeld ?_
   rotate_left
   ·(intro w hSw; (try dsimp only at hSw); go_simp; first | done | with_reducible rfl)
   simp only [Act.put, List.setIfInBounds_toArray, List.set_cons_zero, List.set_cons_succ]
   refine wpAnyH_take (i := 2) (v := ?_) rfl (by kernel_rfl) (by kernel_rfl) (by kernel_rfl) (fun _ _ _ h => h) (Or.inl ⟨by rfl, ?_⟩) hHeld ?_
   rotate_left
   ·(intro w hSw; (try dsimp only at hSw); go_simp; first | done | with_reducible rfl)
   simp only [Act.put, List.setIfInBounds_toArray, List.set_cons_zero, List.set_cons_succ]
   refine wpAnyH_take (i := 3) (v := ?_) rfl (by kernel_rfl) (by kernel_rfl) (by kernel_rfl) (fun _ _ _ h => h) (Or.inl ⟨by rfl, ?_⟩) hHeld ?_
   rotate_left
   ·(intro w hSw; (try dsimp only at hSw); go_simp; first | done | with_reducible rfl)
   simp only [Act.put, List.setIfInBounds_toArray, List.set_cons_zero, List.set_cons_succ]
   refine wpAnyH_take (i := 4) (v := ?_) rfl (by kernel_rfl) (by kernel_rfl) (by kernel_rfl) (fun _ _ _ h => h) (Or.inl ⟨by rfl, ?_⟩) hHeld ?_
   rotate_left
   ·(intro w hSw; (try dsimp only at hSw); go_simp; first | done | with_reducible rfl)
   simp only [Act.put, List.setIfInBounds_toArray, List.set_cons_zero, List.set_cons_succ]
   refine wpAnyH_take (i := 5) (v := ?_) rfl (by kernel_rfl) (by kernel_rfl) (by kernel_rfl) (fun _ _ _ h => h) (Or.inl ⟨by rfl, ?_⟩) hHeld ?_
   rotate_left
   ·(intro w hSw; (try dsimp only at hSw); go_simp; first | done | with_reducible rfl)
   simp only [Act.put, List.setIfInBounds_toArray, List.set_cons_zero, List.set_cons_succ]
   refine wpAnyH_take (i := 6) (v := ?_) rfl (by kernel_rfl) (by kernel_rfl) (by kernel_rfl) (fun _ _ _ h => h) (Or.inl ⟨by rfl, ?_⟩) hHeld ?_
   rotate_left
   ·(intro w hSw; (try dsimp only at hSw); go_simp; first | done | with_reducible rfl)
   simp only [Act.put, List.setIfInBounds_toArray, List.set_cons_zero, List.set_cons_succ]
   refine wpAnyH_take (i := 7) (v := ?_) rfl (by kernel_rfl) (by kernel_rfl) (by kernel_rfl) (fun _ _ _ h => h) (Or.inl ⟨by rfl, ?_⟩) hHeld ?_
   rotate_left
   ·(intro w hSw; (try dsimp only at hSw); go_simp; first | done | with_reducible rfl)
   simp only [Act.put, List.setIfInBounds_toArray, List.set_cons_zero, List.set_cons_succ]
   refine wpAnyH_take (i := 9) (v := ?_) rfl (by kernel_rfl) (by kernel_rfl) (by kernel_rfl) (fun _ _ _ h => h) (Or.inl ⟨by rfl, ?_⟩) hHeld ?_
   rotate_left
   ·(intro w hSw; (try dsimp only at hSw); go_simp; first | done | with_reducible rfl)
   simp only [Act.put, List.setIfInBounds_toArray, List.set_cons_zero, List.set_cons_succ]
   refine wpAnyH_ready (rs := [8, 12]) (by kernel_rfl) (by simp) (AllReadyH.cons rfl (fun K hK => ?_) (AllReadyH.cons rfl (fun K hK => ?_) AllReadyH.nil))
   ·go_simp
    go_wp2_with (go_at_call 47; with_reducible refine (Hz1.out _).mono ?_; rintro e w1 ⟨rfl, rfl⟩)
    refine hK.out _ _ S1.out (fun hHeld => ?_)
    clear hK K
    refine wpAnyH_ready (rs := [10, 12]) (by kernel_rfl) (by simp) (AllReadyH.cons rfl (fun K hK => ?_) (AllReadyH.cons rfl (fun K hK => ?_) AllReadyH.nil))
    ·go_simp
     go_wp2_with (go_at_call 47; with_reducible refine (Hz2.out _).mono ?_; rintro e w1 ⟨rfl, rfl⟩)
     refine hK.out _ _ S1.out (fun hHeld => ?_)
     clear hK K
     refine wpAnyH_take (i := 11) (v := ?_) rfl (by kernel_rfl) (by kernel_rfl) (by kernel_rfl) (fun _ _ _ h => h) (Or.inl ⟨by rfl, ?_⟩) hHeld ?_
     rotate_left
     ·(intro w hSw; (try dsimp only at hSw); go_simp; first | done | with_reducible rfl)
     simp only [Act.put, List.setIfInBounds_toArray, List.set_cons_zero, List.set_cons_succ]
     refine wpAnyH_ready (rs := [12]) (by kernel_rfl) (by simp) (AllReadyH.cons rfl (fun K hK => ?_) AllReadyH.nil)
     go_simp
     refine hK.out _ _ S2.out (fun hHeld => ?_)
     clear hK K
     refine wpAnyH_ready (rs := [13]) (by kernel_rfl) (by simp) (AllReadyH.cons rfl (fun K hK => ?_) AllReadyH.nil)
     go_simp
     refine hK.out _ _ S3.out (fun hHeld => ?_)
     clear hK K
     refine wpAnyH_done (by kernel_rfl) ?_ _
     go_wp2_with fail
     go_meet
     exact ⟨rfl, HW2.out.symm⟩
    ·go_simp
     refine hK.out _ _ S2.out (fun hHeld => ?_)
     clear hK K
     refine wpAnyH_ready (rs := [10]) (by kernel_rfl) (by simp) (AllReadyH.cons rfl (fun K hK => ?_) AllReadyH.nil)
     go_simp
     go_wp2_with (go_at_call 47; with_reducible refine (Hz2.out _).mono ?_; rintro e w1 ⟨rfl, rfl⟩)
     refine hK.out _ _ S2.out (fun hHeld => ?_)
     clear hK K
     refine wpAnyH_take (i := 11) (v := ?_) rfl (by kernel_rfl) (by kernel_rfl) (by kernel_rfl) (fun _ _ _ h => h) (Or.inl ⟨by rfl, ?_⟩) hHeld ?_
     rotate_left
     ·(intro w hSw; (try dsimp only at hSw); go_simp; first | done | with_reducible rfl)
     simp only [Act.put, List.setIfInBounds_toArray, List.set_cons_zero, List.set_cons_succ]
     refine wpAnyH_ready (rs := [13]) (by kernel_rfl) (by simp) (AllReadyH.cons rfl (fun K hK => ?_) AllReadyH.nil)
     go_simp
     refine hK.out _ _ S3.out (fun hHeld => ?_)
     clear hK K
     refine wpAnyH_done (by kernel_rfl) ?_ _
     go_wp2_with fail
     go_meet
     exact ⟨rfl, HW2.out.symm⟩
   ·go_simp
    refine hK.out _ _ S2.out (fun hHeld => ?_)
    clear hK K
    refine wpAnyH_ready (rs := [8]) (by kernel_rfl) (by simp) (AllReadyH.cons rfl (fun K hK => ?_) AllReadyH.nil)
    go_simp
    go_wp2_with (go_at_call 47; with_reducible refine (Hz1.out _).mono ?_; rintro e w1 ⟨rfl, rfl⟩)
    refine hK.out _ _ S2.out (fun hHeld => ?_)
    clear hK K
    refine wpAnyH_ready (rs := [10]) (by kernel_rfl) (by simp) (AllReadyH.cons rfl (fun K hK => ?_) AllReadyH.nil)
    go_simp
    go_wp2_with (go_at_call 47; with_reducible refine (Hz2.out _).mono ?_; rintro e w1 ⟨rfl, rfl⟩)
    refine hK.out _ _ S2.out (fun hHeld => ?_)
    clear hK K
    refine wpAnyH_take (i := 11) (v := ?_) rfl (by kernel_rfl) (by kernel_rfl) (by kernel_rfl) (fun _ _ _ h => h) (Or.inl ⟨by rfl, ?_⟩) hHeld ?_
    rotate_left
    ·(intro w hSw; (try dsimp only at hSw); go_simp; first | done | with_reducible rfl)
    simp only [Act.put, List.setIfInBounds_toArray, List.set_cons_zero, List.set_cons_succ]
    refine wpAnyH_ready (rs := [13]) (by kernel_rfl) (by simp) (AllReadyH.cons rfl (fun K hK => ?_) AllReadyH.nil)
    go_simp
    refine hK.out _ _ S3.out (fun hHeld => ?_)
    clear hK K
    refine wpAnyH_done (by kernel_rfl) ?_ _
    go_wp2_with fail
    go_meet
    exact ⟨rfl, HW2.out.symm⟩
  case rest =>
  obtain ⟨rfl, rfl⟩ := hcut
  have hw1 := Hw1.out; have hw2 := Hw2.out; have hw3 := Hw3.out; have t1 := T1.out; have t6 := T6.out
  have k0 := HbN.out.cell 0
  have k1 := HbN.out.cell 1
  have k2 := HbN.out.cell 2
  have k3 := HbN.out.cell 3
  have z0 := HbH2.out.cell 0
  have z1 := HbH2.out.cell 1
  have z2 := HbH2.out.cell 2
  have z3 := HbH2.out.cell 3
  have y0 := HbH2.out.frozen 0
  have y1 := HbH2.out.frozen 1
  have y2 := HbH2.out.frozen 2
  have y3 := HbH2.out.frozen 3
  simp at k0 k1 k2 k3 z0 z1 z2 z3
  clear S1 S2 S3 Hz1 Hz2 HbN HW2 hmin hwc hwt
  by_cases n0 : q0 = 0
  ·have Hno : Hid (hdC bs = none) := Lib.hid (hdC_stop (i := 0) (by omega) (by rw [← Eq0.out]; exact n0))
   subst n0
   go_wp2_with fail
   refine bodyPost_ret (v := .tuple #[.agg #[.int .i64 0, .int .i64 0, .int .i64 0, .int .i64 0], .int .i64 0, .bool false]) (by have h := HbH2.out.four (.int .i64 0) (.int .i64 0) (.int .i64 0) (.int .i64 0); simp [results, Tryz.results26, go_sem, h.1, h.2.1, h.2.2.1, h.2.2.2.1]) rfl ?_
   exact RHead.of_none (Hno.out) (Hm2.out.four_new (Nat.le_refl _) _ _ _ _)
  have n0b : ((q0 : Int) == 0) = false := by simp; omega
  by_cases n1 : q1 = 0
  ·have Hno : Hid (hdC bs = none) := Lib.hid (hdC_stop (i := 1) (by omega) (by rw [← Eq1.out]; exact n1))
   subst n1
   go_wp2_with fail
   refine bodyPost_ret (v := .tuple #[.agg #[.int .i64 0, .int .i64 0, .int .i64 0, .int .i64 0], .int .i64 0, .bool false]) (by have h := HbH2.out.four (.int .i64 0) (.int .i64 0) (.int .i64 0) (.int .i64 0); simp [results, Tryz.results26, go_sem, h.1, h.2.1, h.2.2.1, h.2.2.2.1]) rfl ?_
   exact RHead.of_none (Hno.out) (Hm2.out.four_new (Nat.le_refl _) _ _ _ _)
  have n1b : ((q1 : Int) == 0) = false := by simp; omega
  by_cases n2 : q2 = 0
  ·have Hno : Hid (hdC bs = none) := Lib.hid (hdC_stop (i := 2) (by omega) (by rw [← Eq2.out]; exact n2))
   subst n2
   go_wp2_with fail
   refine bodyPost_ret (v := .tuple #[.agg #[.int .i64 0, .int .i64 0, .int .i64 0, .int .i64 0], .int .i64 0, .bool false]) (by have h := HbH2.out.four (.int .i64 0) (.int .i64 0) (.int .i64 0) (.int .i64 0); simp [results, Tryz.results26, go_sem, h.1, h.2.1, h.2.2.1, h.2.2.2.1]) rfl ?_
   exact RHead.of_none (Hno.out) (Hm2.out.four_new (Nat.le_refl _) _ _ _ _)
  have n2b : ((q2 : Int) == 0) = false := by simp; omega
  by_cases u1 : (x0 : Int) < 1
  ·go_wp2_with fail
   refine bodyPost_ret (v := .tuple #[.agg #[.int .i64 0, .int .i64 0, .int .i64 0, .int .i64 0], .int .i64 0, .bool false]) (by have h := HbH2.out.four (.int .i64 0) (.int .i64 0) (.int .i64 0) (.int .i64 0); simp [results, Tryz.results26, go_sem, h.1, h.2.1, h.2.2.1, h.2.2.2.1]) rfl ?_
   exact RHead.of_none (hdC_bad Hbt.out (by rw [← Ex0.out, ← Ex1.out, ← Ex2.out, ← Hf.out, ← Hg.out]; omega)) (Hm2.out.four_new (Nat.le_refl _) _ _ _ _)
  by_cases u2 : (65535 : Int) < (x0 : Int)
  ·go_wp2_with fail
   refine bodyPost_ret (v := .tuple #[.agg #[.int .i64 0, .int .i64 0, .int .i64 0, .int .i64 0], .int .i64 0, .bool false]) (by have h := HbH2.out.four (.int .i64 0) (.int .i64 0) (.int .i64 0) (.int .i64 0); simp [results, Tryz.results26, go_sem, h.1, h.2.1, h.2.2.1, h.2.2.2.1]) rfl ?_
   exact RHead.of_none (hdC_bad Hbt.out (by rw [← Ex0.out, ← Ex1.out, ← Ex2.out, ← Hf.out, ← Hg.out]; omega)) (Hm2.out.four_new (Nat.le_refl _) _ _ _ _)
  by_cases fg : g < f
  ·go_wp2_with fail
   refine bodyPost_ret (v := .tuple #[.agg #[.int .i64 0, .int .i64 0, .int .i64 0, .int .i64 0], .int .i64 0, .bool false]) (by have h := HbH2.out.four (.int .i64 0) (.int .i64 0) (.int .i64 0) (.int .i64 0); simp [results, Tryz.results26, go_sem, h.1, h.2.1, h.2.2.1, h.2.2.2.1]) rfl ?_
   exact RHead.of_none (hdC_bad Hbt.out (by rw [← Ex0.out, ← Ex1.out, ← Ex2.out, ← Hf.out, ← Hg.out]; omega)) (Hm2.out.four_new (Nat.le_refl _) _ _ _ _)
  have hgood : hdC bs = some ((t, cn, f, g), p3) := by
   have hcx : cn = x0 := by rw [Hcn.out]; omega
   rw [hcx, Ex0.out, Hf.out, Hg.out, Ex1.out, Ex2.out, Ep3.out]
   refine hdC_good Hbt.out (by omega) (by omega) (fun i hi => ?_) (by rw [← Ex0.out]; omega) (by rw [← Ex0.out]; omega) (by rw [← Ex1.out, ← Ex2.out, ← Hf.out, ← Hg.out]; omega)
   have h3 : i = 0 ∨ i = 1 ∨ i = 2 := by omega
   rcases h3 with rfl | rfl | rfl
   ·rw [← Eq0.out]; exact n0
   ·rw [← Eq1.out]; exact n1
   ·rw [← Eq2.out]; exact n2
  have Hgood := Lib.hid hgood
  clear hgood
  go_wp2_with fail
  refine bodyPost_ret (v := .tuple #[.agg #[.int .i64 (t : Int), .int .i64 (cn : Int), .int .i64 f, .int .i64 g], .int .i64 (p3 : Int), .bool true]) (by have h := HbH2.out.four (.int .i64 (t : Int)) (.int .i64 (cn : Int)) (.int .i64 f) (.int .i64 g); simp [results, Tryz.results26, go_sem, h.1, h.2.1, h.2.2.1, h.2.2.2.1]) rfl ?_
  exact RHead.of_some Hgood.out (Hm2.out.four_new (Nat.le_refl _) _ _ _ _)
end Go.Proofs.YtjmjlflmcpkmnaaGreatDoor

/- Chunks, of the document: Head. -/
namespace Go.Proofs.YtjmjlflmcpkmnaaGreatDoor
open Go.RowKit

set_option maxHeartbeats 1000000 in
set_option maxRecDepth 100000 in
theorem rheadF_any (A : Option Addr) (n c : Nat) (bs : List Nat) (w : World) (hs : Rds w w.heap.size A n (cells8 bs)) (hlt : lt256 bs) (hnc : n ≤ c) (hcm : c ≤ maxLen) :
  Calls Tryz.prog 11 #[.slice A n c] w fun e w' => e = .returned (.tuple #[.agg #[.int .i64 ((hdV (hdC bs)).1 : Int), .int .i64 ((hdV (hdC bs)).2.1 : Int), .int .i64 (hdV (hdC bs)).2.2.1, .int .i64 (hdV (hdC bs)).2.2.2], .bool (hdC bs).isSome]) ∧ Mod (fun _ => False) w w' := by
 obtain ⟨W, hW⟩ : ∃ W, W = w.alloc (.cells #[.int .i64 0, .int .i64 0, .int .i64 0, .int .i64 0] 36) := ⟨_, rfl⟩
 have hmW : Mod (fun _ => False) w W := by rw [hW]; exact (Mod.refl _ _).alloc _
 have hbW : Blk W w.heap.size 36 #[.int .i64 0, .int .i64 0, .int .i64 0, .int .i64 0] := by rw [hW]; exact Blk.new _ _ _
 have hcall := rhead_any A n c bs W (hs.new hmW).fit hlt hnc hcm
 obtain ⟨a0, ha0⟩ : ∃ a0, a0 = (((hdV (hdC bs)).1 : Nat) : Int) := ⟨_, rfl⟩
 obtain ⟨a1, ha1⟩ : ∃ a1, a1 = (((hdV (hdC bs)).2.1 : Nat) : Int) := ⟨_, rfl⟩
 obtain ⟨a2, ha2⟩ : ∃ a2, a2 = (hdV (hdC bs)).2.2.1 := ⟨_, rfl⟩
 obtain ⟨a3, ha3⟩ : ∃ a3, a3 = (hdV (hdC bs)).2.2.2 := ⟨_, rfl⟩
 obtain ⟨ok, hok⟩ : ∃ ok, ok = (hdC bs).isSome := ⟨_, rfl⟩
 rw [← ha0, ← ha1, ← ha2, ← ha3, ← hok]
 have HW := Lib.hid hW; have HmW := Lib.hid hmW; have HbW := Lib.hid hbW; have Hcall := Lib.hid hcall
 have H0 := Lib.hid ha0; have H1 := Lib.hid ha1; have H2 := Lib.hid ha2; have H3 := Lib.hid ha3; have Hok := Lib.hid hok
 clear hW hmW hbW hcall ha0 ha1 ha2 ha3 hok hs hlt
 go_enter Tryz.func11, Tryz.ntmps11
 go_upto_region 1 with fail
 rw [← HW.out]
 go_wp2_with fail
 refine Hcall.out.mono ?_
 intro e w1 he
 have he' : RHead W w1 bs e := he
 obtain ⟨rfl, hm1⟩ := he'
 rw [← H0.out, ← H1.out, ← H2.out, ← H3.out, ← Hok.out]
 obtain ⟨W2, hW2⟩ : ∃ W2, W2 = w1.alloc (.cells #[.int .i64 a0, .int .i64 a1, .int .i64 a2, .int .i64 a3] 36) := ⟨_, rfl⟩
 have hm2 : Mod (fun _ => False) w W2 := by rw [hW2]; exact (HmW.out.trans hm1 (fun _ _ h => h)).alloc _
 have hbH2 : Blk W2 w.heap.size 36 #[.int .i64 0, .int .i64 0, .int .i64 0, .int .i64 0] := by rw [hW2]; exact (hm1.blk HbW.out (fun h => h)).alloc _
 have hbN : Blk W2 w1.heap.size 36 #[.int .i64 a0, .int .i64 a1, .int .i64 a2, .int .i64 a3] := by rw [hW2]; exact Blk.new _ _ _
 have k0 := hbN.cell 0
 have k1 := hbN.cell 1
 have k2 := hbN.cell 2
 have k3 := hbN.cell 3
 have z0 := hbH2.cell 0
 have z1 := hbH2.cell 1
 have z2 := hbH2.cell 2
 have z3 := hbH2.cell 3
 have y0 := hbH2.frozen 0
 have y1 := hbH2.frozen 1
 have y2 := hbH2.frozen 2
 have y3 := hbH2.frozen 3
 simp at k0 k1 k2 k3 z0 z1 z2 z3
 have HW2 := Lib.hid hW2; have Hm2 := Lib.hid hm2; have HbH2 := Lib.hid hbH2
 clear he hm1 hW2 hm2 hbH2 hbN HW HmW HbW Hcall H0 H1 H2 H3 Hok
 go_upto_region 2 with fail
 rw [← HW2.out]
 go_wp2_with fail
 refine bodyPost_ret (v := .tuple #[.agg #[.int .i64 a0, .int .i64 a1, .int .i64 a2, .int .i64 a3], .bool ok]) (by have h := HbH2.out.four (.int .i64 a0) (.int .i64 a1) (.int .i64 a2) (.int .i64 a3); simp [results, Tryz.results11, go_sem, h.1, h.2.1, h.2.2.1, h.2.2.2.1]) rfl ⟨rfl, ?_⟩
 exact Hm2.out.four_new (Nat.le_refl _) _ _ _ _
end Go.Proofs.YtjmjlflmcpkmnaaGreatDoor

/- The document's own Rising, values and steps. -/
namespace Go.Proofs.YtjmjlflmcpkmnaaGreatDoor
open Go.RowKit

set_option maxHeartbeats 1000000 in
set_option maxRecDepth 100000 in
theorem rrising_any (A : Option Addr) (n c : Nat) (l : List (Int × Nat)) (w : World) (hs : RdsS w w.heap.size A n l) (hn : n ≤ 1000000) :
  Calls Tryz.prog 38 #[.slice A n c] w fun e w' => e = .returned (.bool (riseB l)) ∧ Mod (fun _ => False) w w' := by
 have Hs := Lib.hid hs; have Hl := Lib.hid hs.1
 have hcs : Tryz.prog.cellsOf 43 = 2 := by kernel_rfl
 clear hs
 go_enter Tryz.func38, Tryz.ntmps38
 go_wp2_with fail
 go_loopg [3] n (fun k s3 wr => ∃ i : Nat, i + k = n + 1 ∧ 1 ≤ i ∧ s3 = .int .i64 (i : Int) ∧ RiseTo l i ∧ Mod (fun _ => False) w wr)
 case atStart => exact ⟨1, by omega, Nat.le_refl _, rfl, (fun j a b h => by omega), Mod.refl _ _⟩
 case round =>
  obtain ⟨i, hik, hi1, rfl, hr, hm⟩ := hrel
  have Hik := Lib.hid hik; have Hr := Lib.hid hr; have Hm := Lib.hid hm
  clear hik hr hm
  by_cases hin : i < n
  ·obtain ⟨ad, p, rfl, _, hp, hc0, _⟩ := Hs.out.at2 hin (Nat.le_refl _) Hm.out (fun _ _ h => h)
   have Hp := Lib.hid hp
   clear hp
   obtain ⟨j, hj⟩ : ∃ j, i = j + 1 := ⟨i - 1, by omega⟩
   have hjn : j < n := by omega
   have hwj : IntKind.i64.wrap ((i : Int) - 1) = (j : Int) := by rw [IntWalk.i64_in _ (by omega)]; omega
   have hwj2 : (i : Int) - 1 = (j : Int) := by omega
   have hini : (i : Int) < (n : Int) := by omega
   have hjni : (j : Int) < (n : Int) := by omega
   have Hj := Lib.hid hj
   clear hj
   obtain ⟨ad2, q, hA2, _, hq, hd0, _⟩ := Hs.out.at2 hjn (Nat.le_refl _) Hm.out (fun _ _ h => h)
   injection hA2 with hA2
   subst hA2
   have Hq := Lib.hid hq
   clear hq
   obtain ⟨x, hx⟩ : ∃ x, x = p.1 := ⟨_, rfl⟩
   obtain ⟨y, hy⟩ : ∃ y, y = q.1 := ⟨_, rfl⟩
   rw [← hx] at hc0
   rw [← hy] at hd0
   have Hx := Lib.hid hx; have Hy := Lib.hid hy
   clear hx hy
   by_cases hxy : x ≤ y
   ·go_upto_region 4 with fail
    go_quiet (fail)
    go_wp2_with fail
    go_ret
    refine ⟨?_, Hm.out.drewN _⟩
    rw [riseB_fall (i := j) Hq.out (by rw [← Hj.out]; exact Hp.out) (by rw [← Hx.out, ← Hy.out]; exact hxy)]
    rfl
   ·go_upto_region 4 with fail
    go_quiet (fail)
    go_wp2_with fail
    go_roundg (gk - 1)
    case measure => have := Hik.out; omega
    case rel => exact ⟨i + 1, by have := Hik.out; omega, by omega, by go_num, (by
     have h1 := Hr.out; have h2 := Hp.out; have h3 := Hj.out
     subst h3
     exact h1.more Hq.out h2 (by rw [← Hx.out, ← Hy.out]; omega)), Hm.out.drewN _⟩
  ·have hall : Hid (RiseTo l l.length) := Lib.hid (fun j a b hj ha hb => Hr.out j a b (by have := Hl.out; omega) ha hb)
   by_cases hbig : n ≤ 65535
   ·have hbi : decide ((n : Int) ≤ 65535) = true := by simp; omega
    have hbn : (n : Int) ≤ 65535 := by omega
    go_wp2_with fail
    go_ret
    refine ⟨?_, Hm.out⟩
    rw [riseB_true hall.out (by rw [Hl.out]; exact hbig)]
    rfl
   ·have hbn : ¬ (n : Int) ≤ 65535 := by omega
    have hbi : decide ((n : Int) ≤ 65535) = false := by simp; omega
    go_wp2_with fail
    go_ret
    refine ⟨?_, Hm.out⟩
    rw [riseB_long (by rw [Hl.out]; omega)]
    rfl
/-- The first i values. -/
def RowVals (w wr : World) (l : List (Int × Nat)) (i : Nat) (v : Value) : Prop := Own w.heap.size wr 41 v (cellsU (vsOf (l.take i))) ∧ Mod (fun _ => False) w wr
theorem vs_take {l : List (Int × Nat)} {i : Nat} {p : Int × Nat} (h : l[i]? = some p) : vsOf (l.take (i + 1)) = vsOf (l.take i) ++ [p.2] := by
 have e : l.take (i + 1) = l.take i ++ [p] := by
  obtain ⟨hi, rfl⟩ := List.getElem?_eq_some_iff.1 h
  exact List.take_succ_eq_append_getElem hi
 rw [e]
 simp [vsOf]
theorem ts_take {l : List (Int × Nat)} {i : Nat} {p : Int × Nat} (h : l[i]? = some p) : tsOf (l.take (i + 1)) = tsOf (l.take i) ++ [p.1] := by
 have e : l.take (i + 1) = l.take i ++ [p] := by
  obtain ⟨hi, rfl⟩ := List.getElem?_eq_some_iff.1 h
  exact List.take_succ_eq_append_getElem hi
 rw [e]
 simp [tsOf]
set_option maxHeartbeats 1000000 in
set_option maxRecDepth 100000 in
theorem rvals_any (A : Option Addr) (n c : Nat) (l : List (Int × Nat)) (w : World) (hs : RdsS w w.heap.size A n l) (hn : n ≤ 1000000) :
  Calls Tryz.prog 37 #[.slice A n c] w fun e w' => ∃ v, e = .returned v ∧ Own w.heap.size w' 41 v (cellsU (vsOf l)) ∧ Mod (fun _ => False) w w' := by
 have Hs := Lib.hid hs; have Hl := Lib.hid hs.1
 have hcs : Tryz.prog.cellsOf 43 = 2 := by kernel_rfl
 have H0 : Hid (RowVals w w l 0 (.slice none 0 0)) := Lib.hid ⟨Own.nil _ _ _, Mod.refl _ _⟩
 clear hs
 go_enter Tryz.func37, Tryz.ntmps37
 go_wp2_with fail
 go_loopg [3, 4] n (fun k s3 s4 wr => ∃ i : Nat, i + k = n ∧ s4 = .int .i64 (i : Int) ∧ RowVals w wr l i s3)
 case atStart => exact ⟨0, by omega, rfl, H0.out⟩
 case round =>
  obtain ⟨i, hik, rfl, hV⟩ := hrel
  have Hik := Lib.hid hik; have HV := Lib.hid hV
  clear hik hV H0
  by_cases hin : i < n
  ·obtain ⟨ad, ⟨T, V⟩, rfl, _, hp, _, hc1⟩ := Hs.out.at2 hin (Nat.le_refl _) HV.out.2 (fun _ _ h => h)
   have hc1' := cell_whole hc1
   have hini : (i : Int) < (n : Int) := by omega
   have Hp := Lib.hid hp
   have hlen : (cellsU (vsOf (l.take i))).length ≤ 1000000 := by rw [cellsU_length, vsOf_len, List.length_take]; omega
   have HR : Hid ((cellsU (vsOf (l.take i))).length + 1 ≤ maxLen ∧ ((cellsU (vsOf (l.take i))).length + 1) * 8 ≤ 140737488355328) := Lib.hid ⟨by unfold maxLen; omega, by omega⟩
   have hsz := HV.out.2.size
   clear hp hlen
   go_wp2_with (at_builtin; refine wpList_app1 rfl (.tmp 11) (.tmp 17) _ rfl eltU rfl HV.out.1 rfl rfl rfl HR.out.1 HR.out.2 hsz ?_; intro v2 w2 HO HB)
   have HV2 : Hid (RowVals w w2 l (i + 1) v2) := Lib.hid ⟨by rw [vs_take Hp.out, cellsU_snoc]; exact HO.out, HV.out.2.trans (Mod.of_below HB.out) (fun i hi h => by omega)⟩
   go_roundg (gk - 1)
   case measure => have := Hik.out; omega
   case rel => exact ⟨i + 1, by have := Hik.out; omega, by go_num, HV2.out⟩
  ·have hi : i = n := by have := Hik.out; omega
   obtain ⟨h1, h2⟩ := HV.out
   rw [List.take_of_length_le (by rw [Hl.out]; omega)] at h1
   have X := Lib.hid (And.intro h1 h2)
   clear h1 h2 hi
   go_wp2_with fail
   go_ret
   exact ⟨_, rfl, X.out⟩
set_option maxHeartbeats 1000000 in
set_option maxRecDepth 100000 in
theorem rsteps_any (A : Option Addr) (n cap : Nat) (us : List Nat) (w : World) (hs : Rds w w.heap.size A n (cellsU us)) (hu : ∀ x ∈ us, x < 2 ^ 64) (hn : n ≤ 1000000) :
  Calls Tryz.prog 62 #[.slice A n cap] w fun e w' => ∃ v, e = .returned v ∧ Own w.heap.size w' 41 v (cellsU (stepsU 0 us)) ∧ Mod (fun _ => False) w w' := by
 have hul : us.length = n := by have := hs.1; rwa [cellsU_length] at this
 have Hs := Lib.hid hs; have Hu := Lib.hid hu; have Hul := Lib.hid hul
 have H0 : Hid (StepTo w w us 0 (.slice none 0 0) 0) := Lib.hid ⟨Own.nil _ _ _, rfl, by decide, Mod.refl _ _⟩
 clear hs hu hul
 go_enter Tryz.func62, Tryz.ntmps62
 go_wp2_with fail
 go_loopg [3, 4, 5] n (fun l s3 s4 s5 wr => ∃ i last : Nat, i + l = n ∧ s5 = .int .i64 (i : Int) ∧ s4 = .int .u64 (last : Int) ∧ StepTo w wr us i s3 last)
 case atStart => exact ⟨0, 0, by omega, rfl, rfl, H0.out⟩
 case round =>
  obtain ⟨i, last, hil, rfl, rfl, hP⟩ := hrel
  have Hil := Lib.hid hil; have HP := Lib.hid hP
  clear hil hP H0
  by_cases hin : i < n
  ·obtain ⟨ad, x, rfl, hx, hcx⟩ := Hs.out.at2 hin (Nat.le_refl _) HP.out.2.2.2 (fun _ _ h => h)
   have hx64 := Hu.out x (List.mem_of_getElem? hx)
   have hl64 := HP.out.2.2.1
   have hini : (i : Int) < (n : Int) := by omega
   obtain ⟨y, hy⟩ : ∃ y, y = (x + M64 - last) % M64 := ⟨_, rfl⟩
   have hyl : y < M64 := by rw [hy]; exact Nat.mod_lt _ (by decide)
   have hw1 : IntKind.u64.wrap ((x : Int) - (last : Int)) = (y : Int) := by
    rw [IntKind.wrap_u64, hy]
    show _ = (((x + 18446744073709551616 - last) % 18446744073709551616 : Nat) : Int)
    omega
   have hw2 : wrap64 (y : Int) = sg y := by rw [wrap_sg, un_nat hyl]
   have hfi : FitI (sg y) := of_fits' (sg_fits hyl)
   obtain ⟨d, hd⟩ : ∃ d, d = sg y := ⟨_, rfl⟩
   rw [← hd] at hw2 hfi
   obtain ⟨z, hz⟩ : ∃ z, z = zig d := ⟨_, rfl⟩
   have HX : Hid (us[i]? = some x ∧ x < 2 ^ 64 ∧ z = zig (sg ((x + M64 - last) % M64))) := Lib.hid ⟨hx, hx64, by rw [hz, hd, hy]⟩
   have Hfi := Lib.hid hfi; have Hz := Lib.hid hz
   have hlen : (cellsU (stepsU 0 (us.take i))).length ≤ 1000000 := by rw [cellsU_length, stepsU_len, List.length_take]; omega
   have HR : Hid ((cellsU (stepsU 0 (us.take i))).length + 1 ≤ maxLen ∧ ((cellsU (stepsU 0 (us.take i))).length + 1) * 8 ≤ 140737488355328) := Lib.hid ⟨by unfold maxLen; omega, by omega⟩
   have hsz := HP.out.2.2.2.size
   clear hx hx64 hl64 hy hyl hfi hd hz hlen
   go_wp2_with fail
   refine (rzig_any d wr Hfi.out).mono ?_
   rintro e w1 ⟨rfl, rfl⟩
   rw [← Hz.out]
   clear hw1 hw2
   have hcx2 : ∀ (w2 : World), Below w.heap.size wr w2 → w2.cell? (ad.add i) = some (.int .u64 (x : Int)) := fun w2 hb => by
    obtain ⟨ad', hA, hb', _⟩ := Hs.out.2 (by omega)
    injection hA with hA
    subst hA
    rw [hb.cell (p := ad.add i) (by rw [add_block]; exact hb')]
    exact hcx
   have Hcx2 := Lib.hid hcx2
   clear hcx2
   go_wp2_with (at_builtin; refine wpList_app1 rfl (.tmp 12) (.tmp 21) _ rfl eltU rfl HP.out.1 rfl rfl rfl HR.out.1 HR.out.2 hsz ?_; intro v2 w2 HO HB; have hcx3 := Hcx2.out w2 HB.out)
   have HP2 : Hid (StepTo w w2 us (i + 1) v2 x) := Lib.hid (HP.out.step HX.out.1 HX.out.2.1 HX.out.2.2 HO.out HB.out)
   go_roundg (gk - 1)
   case measure => have := Hil.out; omega
   case rel => exact ⟨i + 1, x, by have := Hil.out; omega, by go_num, rfl, HP2.out⟩
  ·have hi : i = n := by have := Hil.out; omega
   obtain ⟨hown, _, _, hm⟩ := HP.out
   rw [List.take_of_length_le (by have := Hul.out; omega)] at hown
   have X := Lib.hid (And.intro hown hm)
   clear hi hown hm
   go_wp2_with fail
   go_ret
   exact ⟨_, rfl, X.out⟩
end Go.Proofs.YtjmjlflmcpkmnaaGreatDoor

/- The document's own values are told: ahead, behind, Values. -/
namespace Go.Proofs.YtjmjlflmcpkmnaaGreatDoor
open Go.RowKit

set_option maxHeartbeats 1000000 in
theorem rahead_any (x : Nat) (w : World) : Calls Tryz.prog 92 #[.int .u64 (x : Int)] w fun e w' => e = .returned (.int .i64 (aheadN x : Int)) ∧ w = w' := by
 go_enter Tryz.func92, Tryz.ntmps92
 go_wp2
 go_loop [3] (fun s3 => ∃ n f : Nat, n + f = 31 ∧ s3 = .int .i64 (n : Int) ∧ Hid (ahd f n x = aheadN x)) (fun s3 => 31 - (intOf s3).toNat)
 case atStart => exact ⟨0, 31, rfl, rfl, Lib.hid rfl⟩
 case round =>
  obtain ⟨n, f, hnf, rfl, hA⟩ := hrel
  cases f with
  | zero =>
   have hn : ¬ n < 31 := by omega
   go_wp2
   go_ret
   exact ⟨ret_int (by have h := hA.out; have h2 : ahd 0 n x = n := rfl; omega), rfl⟩
  | succ f =>
   have hn : n < 31 := by omega
   obtain ⟨k, hk⟩ : ∃ k, k = 63 - n := ⟨_, rfl⟩
   have hk1 : (63 : Int) - (n : Int) = (k : Int) := by omega
   have hk2 : IntKind.u64.wrap (k : Int) = (k : Int) := by rw [IntKind.wrap_u64]; omega
   obtain ⟨q, hq⟩ : ∃ q, q = x / 2 ^ k := ⟨_, rfl⟩
   have hq1 : (x : Int) / 2 ^ k = (q : Int) := by rw [hq]; simp
   have e : ahd (f + 1) n x = if x / 2 ^ (63 - n) = 0 then ahd f (n + 1) x else n := rfl
   have hA2 := hA.out
   rw [e, ← hk, ← hq] at hA2
   clear e hq hk hA
   by_cases hq0 : q = 0
   ·rw [if_pos hq0] at hA2
    have HA := Lib.hid hA2
    have hqb : ((q : Int) == 0) = true := by simp; omega
    clear hA2 hq0
    go_wp2
    go_round
    case rel => exact ⟨n + 1, f, by omega, by go_num, HA⟩
    case measure => simp [intOf]; omega
   ·rw [if_neg hq0] at hA2
    have HA := Lib.hid hA2
    have hqb : ((q : Int) == 0) = false := by simp; omega
    clear hA2 hq0
    go_wp2
    go_ret
    exact ⟨ret_int (by rw [HA.out]), rfl⟩
set_option maxHeartbeats 1000000 in
theorem rbehind_any (x : Nat) (w : World) (h0 : 0 < x) (hx : Lt64 x) : Calls Tryz.prog 93 #[.int .u64 (x : Int)] w fun e w' => e = .returned (.int .i64 (behindN x : Int)) ∧ w = w' := by
 have hb63 := (behind_form h0 hx.out).1
 have Hx := Lib.hid hx; have Hb63 := Lib.hid hb63
 clear hx hb63
 go_enter Tryz.func93, Tryz.ntmps93
 go_wp2
 go_loop [3] (fun s3 => ∃ n f : Nat, n + f = 64 ∧ s3 = .int .i64 (n : Int) ∧ Hid (bhd f n x = behindN x)) (fun s3 => 64 - (intOf s3).toNat)
 case atStart => exact ⟨0, 64, rfl, rfl, Lib.hid rfl⟩
 case round =>
  obtain ⟨n, f, hnf, rfl, hA⟩ := hrel
  cases f with
  | zero =>
   exfalso
   have h := hA.out
   have h2 : bhd 0 n x = n := rfl
   have := Hb63.out
   omega
  | succ f =>
   have hn : n ≤ 63 := by omega
   have hk2 : IntKind.u64.wrap (n : Int) = (n : Int) := by rw [IntKind.wrap_u64]; omega
   obtain ⟨q, hq⟩ : ∃ q, q = x / 2 ^ n % 2 := ⟨_, rfl⟩
   have hbit : bits BinOp.and IntKind.u64 ((x : Int) / 2 ^ n) 1 = (q : Int) := by rw [bit_u64 x n Hx.out, hq]
   have e : bhd (f + 1) n x = if x / 2 ^ n % 2 = 0 then bhd f (n + 1) x else n := rfl
   have hA2 := hA.out
   rw [e, ← hq] at hA2
   clear e hq hA
   by_cases hq0 : q = 0
   ·rw [if_pos hq0] at hA2
    have HA := Lib.hid hA2
    have hqb : ((q : Int) == 0) = true := by simp; omega
    clear hA2 hq0
    go_wp2
    go_round
    case rel => exact ⟨n + 1, f, by omega, by go_num, HA⟩
    case measure => simp [intOf]; omega
   ·rw [if_neg hq0] at hA2
    have HA := Lib.hid hA2
    have hqb : ((q : Int) == 0) = false := by simp; omega
    clear hA2 hq0
    go_wp2
    go_ret
    exact ⟨ret_int (by rw [HA.out]), rfl⟩
end Go.Proofs.YtjmjlflmcpkmnaaGreatDoor

/- The document's own rows of values are told: Values. -/
namespace Go.Proofs.YtjmjlflmcpkmnaaGreatDoor
open Go.RowKit

def winB : Option (Nat × Nat) → Nat
 | none => 0
 | some (_, b) => b
/-- What the document has told of i values. -/
def XREnc (w wr : World) (g : Nat) (row : Option Nat) (N len : Nat) (zs : List Nat) (i : Nat) (win : Option (Nat × Nat)) : Prop :=
 ∃ fs, RWrote w wr g row N len fs ∧ WinOk win ∧ (i = 0 → fs = [] ∧ win = none) ∧ (0 < i → ∃ prev, zs[i - 1]? = some prev ∧ fs ++ encX win prev (zs.drop i) = encVals zs)
theorem fits_dec {win : Option (Nat × Nat)} {x : Nat} : fitsX win x = (win.isSome && (decide (winA win ≤ aheadN x) && decide (winB win ≤ behindN x))) := by
 cases win with
 | none => rfl
 | some p =>
  obtain ⟨a, b⟩ := p
  show decide (a ≤ aheadN x ∧ b ≤ behindN x) = (true && (decide (a ≤ aheadN x) && decide (b ≤ behindN x)))
  simp
set_option maxHeartbeats 4000000 in
set_option maxRecDepth 100000 in
theorem rvalues_any (B g : Nat) (row : Option Nat) (N len n c : Nat) (A : Option Addr) (zs : List Nat) (w : World) (hs : Rds w B A n (cellsU zs)) (hz : ∀ x ∈ zs, x < 2 ^ 64) (hB : B ≤ w.heap.size) (hap : 0 < n → ∀ ad, A = some ad → ¬ (ad.block = g ∨ row = some ad.block))
  (hw : RWr w g row N len) (hlen : len + (64 + 77 * n) ≤ 900000000) :
  Calls Tryz.prog 60 #[.pointer (some ⟨g, 0, none⟩), .slice A n c] w fun e w' => e = .returned (.tuple #[]) ∧ RWrote w w' g row N len (encVals zs) := by
 have hzl : zs.length = n := by have := hs.1; rwa [cellsU_length] at this
 have Hs := Lib.hid hs; have Hz := Lib.hid hz; have HS := Lib.hid hap; have Hzl := Lib.hid hzl
 have H0 : Hid (XREnc w w g row N len zs 0 none) := Lib.hid ⟨[], RWrote.refl hw, trivial, fun _ => ⟨rfl, rfl⟩, fun h => by omega⟩
 have Htot : Hid (len + flen (encVals zs) ≤ 900000000) := Lib.hid (by have := encVals_len zs; rw [hzl] at this; omega)
 clear hs hz hw hap hzl
 go_enter Tryz.func60, Tryz.ntmps60
 go_wp2_with fail
 go_loopg [4, 5, 6, 7] n (fun l s4 s5 s6 s7 wr => ∃ (i : Nat) (win : Option (Nat × Nat)), i + l = n ∧ s7 = .int .i64 (i : Int) ∧ s4 = .bool win.isSome ∧ s5 = .int .i64 (winA win : Int) ∧ s6 = .int .i64 (winB win : Int) ∧ XREnc w wr g row N len zs i win)
 case atStart => exact ⟨0, none, by omega, rfl, rfl, rfl, rfl, H0.out⟩
 case round =>
  obtain ⟨i, win, hil, rfl, rfl, rfl, rfl, hE⟩ := hrel
  have HE := Lib.hid hE; have Hil := Lib.hid hil
  clear hE hil H0
  by_cases hin : i < n
  ·obtain ⟨fs, hwr, hok, he0, he1⟩ := HE.out
   obtain ⟨ad, v, rfl, hv, hcv⟩ := Hs.out.at2 hin hB (by obtain ⟨_, _, a2, _⟩ := hwr; exact a2) (HS.out (by omega))
   have Hv := Lib.hid hv
   have hvl := Lib.hid (Hz.out v (List.mem_of_getElem? hv))
   have Hdr := Lib.hid (drop_at' hv)
   have Hok := Lib.hid hok
   clear hv hok
   by_cases hi0 : i = 0
   ·obtain ⟨rfl, rfl⟩ := he0 hi0
    subst hi0
    have Hwr := Lib.hid hwr
    have hcx0 : wr.cell? ad = some (.int .u64 (v : Int)) := by rw [← add_zero' ad]; exact hcv
    clear hwr he0 he1 HE
    go_wp2_with fail
    refine (rput_wrote w g row N len 64 [] v _ _ _ rfl rfl (by omega) hvl.out Hwr.out (by show len + 0 ≤ _; omega)).mono ?_
    rintro e w1 ⟨rfl, h1⟩
    have hd0 := Hdr.out
    rw [List.drop_zero] at hd0
    have H1 : Hid (XREnc w w1 g row N len zs 1 none) := Lib.hid ⟨[(v, 64)], h1, trivial, fun h => by omega, fun _ => ⟨v, Hv.out, by rw [hd0]; rfl⟩⟩
    clear h1 hd0 Hwr
    go_wp2_with fail
    go_roundg (gk - 1)
    case measure => have := Hil.out; omega
    case rel => exact ⟨1, none, by have := Hil.out; omega, rfl, rfl, rfl, rfl, H1.out⟩
   ·have hb0 : ((i : Int) == 0) = false := by simp; omega
    obtain ⟨prev, hpv, hE1⟩ := he1 (by omega)
    obtain ⟨ad', x', e', hx', hcp⟩ := Hs.out.at2 (show i - 1 < n by omega) hB (by obtain ⟨_, _, a2, _⟩ := hwr; exact a2) (HS.out (by omega))
    injection e' with e'
    subst e'
    rw [hpv] at hx'
    injection hx' with hx'
    subst hx'
    have hpl := Lib.hid (Hz.out prev (List.mem_of_getElem? hpv))
    obtain ⟨x, hx⟩ : ∃ x : Nat, x = v ^^^ prev := ⟨_, rfl⟩
    have hxor : bits .xor .u64 (v : Int) (prev : Int) = (x : Int) := by rw [hx]; exact u64_xor_nat v prev hvl.out hpl.out
    have hxl : Hid (Lt64 x) := Lib.hid (by rw [hx]; exact Nat.xor_lt_two_pow hvl.out hpl.out)
    have hi1 : IntKind.i64.wrap ((i : Int) - 1) = (i : Int) - 1 := IntWalk.i64_in _ (by omega)
    have hi2 : ((i : Int) - 1).toNat = i - 1 := by omega
    have hi3 : (0 : Int) ≤ (i : Int) - 1 := by omega
    have hi4 : (i : Int) - 1 < (n : Int) := by omega
    have hi5 : (i : Int) < (n : Int) := by omega
    have hi6 : (0 : Int) ≤ (i : Int) := by omega
    have Hwr := Lib.hid hwr; have HE1 := Lib.hid hE1; have Hx := Lib.hid hx
    have hl : Hid (len + flen fs ≤ 900000000) := Lib.hid (by have := Htot.out; rw [← HE1.out] at this; have := flen_le_app fs (encX win prev (zs.drop i)); omega)
    have hnx : Hid (∀ w', RWrote w w' g row N len (fs ++ fieldsX win x) → XREnc w w' g row N len zs (i + 1) (winX win x)) := Lib.hid (fun w' h =>
     ⟨_, h, winX_ok Hok.out hxl.out, fun h => by omega, fun _ => ⟨v, Hv.out, by rw [← HE1.out, Hdr.out, List.append_assoc, Hx.out]; rfl⟩⟩)
    obtain ⟨a, ha⟩ : ∃ a, a = winA win := ⟨_, rfl⟩
    obtain ⟨b, hb⟩ : ∃ b, b = winB win := ⟨_, rfl⟩
    obtain ⟨any, hany⟩ : ∃ any, any = win.isSome := ⟨_, rfl⟩
    have Ha := Lib.hid ha; have Hb := Lib.hid hb; have Hany := Lib.hid hany
    rw [← ha, ← hb, ← hany]
    clear hwr he0 he1 HE hE1 hx hpv ha hb hany
    go_upto_region 6 with fail
    go_quiet (fail)
    have Hwr2 := Lib.hid (Hwr.out.drewN nq)
    clear Hwr hcv hcp hi1 hi2 hi3 hi4 hxor
    generalize wr.drewN nq = w2 at *
    by_cases hx0 : x = 0
    ·have hx0b : ((x : Int) == 0) = true := by simp; omega
     have hf0 : Hid (fieldsX win x = [(0, 1)] ∧ winX win x = win) := Lib.hid ⟨by unfold fieldsX; rw [if_pos hx0], by unfold winX; rw [if_pos hx0]⟩
     clear hx0
     go_wp2_with fail
     refine (rput_wrote w g row N len 1 fs 0 0 1 _ rfl rfl (by omega) (show (0 : Nat) < 18446744073709551616 by decide) Hwr2.out (by have := hl.out; omega)).mono ?_
     rintro e w3 ⟨rfl, h3⟩
     have H3 : Hid (XREnc w w3 g row N len zs (i + 1) win) := Lib.hid (by have h := hnx.out w3 (by rw [hf0.out.1]; exact h3); rwa [hf0.out.2] at h)
     clear h3
     go_wp2_with fail
     go_roundg (gk - 1)
     case measure => have := Hil.out; omega
     case rel => exact ⟨i + 1, win, by have := Hil.out; omega, by go_num, by rw [Hany.out], by rw [Ha.out], by rw [Hb.out], H3.out⟩
    ·have hx0b : ((x : Int) == 0) = false := by simp; omega
     go_wp2_with fail
     refine (rput_wrote w g row N len 1 fs 1 1 1 _ rfl rfl (by omega) (show (1 : Nat) < 18446744073709551616 by decide) Hwr2.out (by have := hl.out; omega)).mono ?_
     rintro e w3 ⟨rfl, h3⟩
     have H3 := Lib.hid h3
     obtain ⟨ah, hah⟩ : ∃ ah, ah = aheadN x := ⟨_, rfl⟩
     obtain ⟨be, hbe⟩ : ∃ be, be = behindN x := ⟨_, rfl⟩
     have hsum := sum_le (by omega) hxl.out
     have hah31 := (ahead_spec hxl.out).1
     rw [← hah] at hsum hah31
     rw [← hbe] at hsum
     have Hah := Lib.hid hah; have Hbe := Lib.hid hbe
     clear h3 hah hbe Hwr2
     have hfd := fits_dec (win := win) (x := x)
     rw [← Hany.out, ← Ha.out, ← Hb.out, ← Hah.out, ← Hbe.out] at hfd
     obtain ⟨fit, hfit⟩ : ∃ fit, fit = fitsX win x := ⟨_, rfl⟩
     rw [← hfit] at hfd
     have Hfd := Lib.hid hfd; have Hfit := Lib.hid hfit
     clear hfd hfit
     go_upto_region 10 with fail
     go_cut [50] (fun s50 wc => s50 = .bool fit ∧ w3 = wc)
     case first =>
      cases any with
      | false =>
       obtain rfl : fit = false := Hfd.out
       go_wp2_with fail
       go_meet
       case rel => exact ⟨rfl, rfl⟩
      | true =>
       by_cases h1 : a ≤ ah
       ·by_cases h2 : b ≤ be
        ·obtain rfl : fit = true := by rw [Hfd.out, decide_eq_true h1, decide_eq_true h2]; rfl
         go_wp2_with (first | (go_at_call 92; refine (rahead_any x _).mono ?_; rintro e w5 ⟨rfl, rfl⟩; rw [← Hah.out]) | (go_at_call 93; refine (rbehind_any x _ (by omega) hxl.out).mono ?_; rintro e w5 ⟨rfl, rfl⟩; rw [← Hbe.out]))
         go_meet
         case rel => exact ⟨rfl, rfl⟩
        ·obtain rfl : fit = false := by rw [Hfd.out, decide_eq_true h1, decide_eq_false h2]; rfl
         go_wp2_with (first | (go_at_call 92; refine (rahead_any x _).mono ?_; rintro e w5 ⟨rfl, rfl⟩; rw [← Hah.out]) | (go_at_call 93; refine (rbehind_any x _ (by omega) hxl.out).mono ?_; rintro e w5 ⟨rfl, rfl⟩; rw [← Hbe.out]))
         go_meet
         case rel => exact ⟨rfl, rfl⟩
       ·obtain rfl : fit = false := by rw [Hfd.out, decide_eq_false h1]; rfl
        go_wp2_with (first | (go_at_call 92; refine (rahead_any x _).mono ?_; rintro e w5 ⟨rfl, rfl⟩; rw [← Hah.out]) | (go_at_call 93; refine (rbehind_any x _ (by omega) hxl.out).mono ?_; rintro e w5 ⟨rfl, rfl⟩; rw [← Hbe.out]))
        go_meet
        case rel => exact ⟨rfl, rfl⟩
     case rest =>
      obtain ⟨rfl, rfl⟩ := hcut
      cases fit with
      | true =>
       have hin2 : WinOk win ∧ a + b ≤ 63 ∧ fieldsX win x = [(1, 1), (0, 1), (x / 2 ^ b, 64 - a - b)] ∧ winX win x = win := by
        have hf := Hfit.out.symm
        have hw := Hok.out
        rw [Ha.out, Hb.out]
        cases win with
        | none => cases hf
        | some p =>
         obtain ⟨a', b'⟩ := p
         refine ⟨hw, hw.2, ?_, ?_⟩
         ·unfold fieldsX; rw [if_neg hx0, if_pos hf]; rfl
         ·unfold winX; rw [if_neg hx0, if_pos hf]
       obtain ⟨_, hab, hfe, hwe⟩ := hin2
       obtain ⟨s, hs⟩ : ∃ s, s = 64 - a - b := ⟨_, rfl⟩
       obtain ⟨y, hy⟩ : ∃ y, y = x / 2 ^ b := ⟨_, rfl⟩
       have hs1 : (64 : Int) - (a : Int) - (b : Int) = (s : Int) := by omega
       have hy1 : (x : Int) / 2 ^ b = (y : Int) := by rw [hy]; simp
       have hyl : Hid (Lt64 y) := Lib.hid (by have := hxl.out.out; have := Nat.div_le_self x (2 ^ b); unfold Lt64; omega)
       have hbw : IntKind.u64.wrap (b : Int) = (b : Int) := by rw [IntKind.wrap_u64]; omega
       have hs64 : s ≤ 64 := by omega
       rw [← hs, ← hy] at hfe
       have Hfe := Lib.hid hfe; have Hwe := Lib.hid hwe
       clear hs hy hfe hwe
       go_wp2_with fail
       refine (rput_wrote w g row N len 1 _ 0 0 1 _ rfl rfl (by omega) (show (0 : Nat) < 18446744073709551616 by decide) H3.out (by rw [flen_app]; have := hl.out; show len + (flen fs + (1 + 0)) ≤ _; omega)).mono ?_
       rintro e w5 ⟨rfl, h5⟩
       have H5 := Lib.hid h5
       clear h5 H3
       go_wp2_with fail
       refine (rput_wrote w g row N len s _ y _ _ _ rfl rfl hs64 hyl.out H5.out (by rw [flen_app, flen_app]; have := hl.out; show len + (flen fs + (1 + 0) + (1 + 0)) ≤ _; omega)).mono ?_
       rintro e w6 ⟨rfl, h6⟩
       have H6 : Hid (XREnc w w6 g row N len zs (i + 1) win) := Lib.hid (by
        have h := hnx.out w6 (by rw [Hfe.out]; simpa using h6)
        rwa [Hwe.out] at h)
       clear h6 H5 hs1 hy1 hbw
       go_wp2_with fail
       go_roundg (gk - 1)
       case measure => have := Hil.out; omega
       case rel => exact ⟨i + 1, win, by have := Hil.out; omega, by go_num, by rw [Hany.out], by rw [Ha.out], by rw [Hb.out], H6.out⟩
      | false =>
       have hnf : ¬ fitsX win x = true := by rw [← Hfit.out]; decide
       have hfe : fieldsX win x = [(1, 1), (1, 1), (ah, 5), (63 - ah - be, 6), (x / 2 ^ be, 64 - ah - be)] := by rw [Hah.out, Hbe.out]; unfold fieldsX; rw [if_neg hx0, if_neg hnf]; rfl
       have hwe : winX win x = some (ah, be) := by rw [Hah.out, Hbe.out]; unfold winX; rw [if_neg hx0, if_neg hnf]
       obtain ⟨s, hs⟩ : ∃ s, s = 64 - ah - be := ⟨_, rfl⟩
       obtain ⟨m, hm⟩ : ∃ m, m = 63 - ah - be := ⟨_, rfl⟩
       obtain ⟨y, hy⟩ : ∃ y, y = x / 2 ^ be := ⟨_, rfl⟩
       have hs1 : (64 : Int) - (ah : Int) - (be : Int) = (s : Int) := by omega
       have hm1 : (63 : Int) - (ah : Int) - (be : Int) = (m : Int) := by omega
       have hy1 : (x : Int) / 2 ^ be = (y : Int) := by rw [hy]; simp
       have hyl : Hid (Lt64 y) := Lib.hid (by have := hxl.out.out; have := Nat.div_le_self x (2 ^ be); unfold Lt64; omega)
       have hbw : IntKind.u64.wrap (be : Int) = (be : Int) := by rw [IntKind.wrap_u64]; omega
       have haw : IntKind.u64.wrap (ah : Int) = (ah : Int) := by rw [IntKind.wrap_u64]; omega
       have hmw : IntKind.u64.wrap (m : Int) = (m : Int) := by rw [IntKind.wrap_u64]; omega
       have hs64 : s ≤ 64 := by omega
       have hm64 : m ≤ 63 := by omega
       rw [← hs, ← hm, ← hy] at hfe
       have Hfe := Lib.hid hfe; have Hwe := Lib.hid hwe
       clear hs hm hy hfe hwe hnf
       go_wp2_with (first | (go_at_call 92; refine (rahead_any x _).mono ?_; rintro e w5 ⟨rfl, rfl⟩; rw [← Hah.out]) | (go_at_call 93; refine (rbehind_any x _ (by omega) hxl.out).mono ?_; rintro e w5 ⟨rfl, rfl⟩; rw [← Hbe.out]))
       refine (rput_wrote w g row N len 1 _ 1 1 1 _ rfl rfl (by omega) (show (1 : Nat) < 18446744073709551616 by decide) H3.out (by rw [flen_app]; have := hl.out; show len + (flen fs + (1 + 0)) ≤ _; omega)).mono ?_
       rintro e w5 ⟨rfl, h5⟩
       have H5 := Lib.hid h5
       clear h5 H3
       go_wp2_with fail
       refine (rput_wrote w g row N len 5 _ ah _ 5 _ rfl rfl (by omega) (show ah < 18446744073709551616 by omega) H5.out (by rw [flen_app, flen_app]; have := hl.out; show len + (flen fs + (1 + 0) + (1 + 0)) ≤ _; omega)).mono ?_
       rintro e w6 ⟨rfl, h6⟩
       have H6 := Lib.hid h6
       clear h6 H5
       go_wp2_with fail
       refine (rput_wrote w g row N len 6 _ m _ 6 _ rfl rfl (by omega) (show m < 18446744073709551616 by omega) H6.out (by rw [flen_app, flen_app, flen_app]; have := hl.out; show len + (flen fs + (1 + 0) + (1 + 0) + (5 + 0)) ≤ _; omega)).mono ?_
       rintro e w7 ⟨rfl, h7⟩
       have H7 := Lib.hid h7
       clear h7 H6
       go_wp2_with fail
       refine (rput_wrote w g row N len s _ y _ _ _ rfl rfl hs64 hyl.out H7.out (by rw [flen_app, flen_app, flen_app, flen_app]; have := hl.out; show len + (flen fs + (1 + 0) + (1 + 0) + (5 + 0) + (6 + 0)) ≤ _; omega)).mono ?_
       rintro e w8 ⟨rfl, h8⟩
       have H8 : Hid (XREnc w w8 g row N len zs (i + 1) (some (ah, be))) := Lib.hid (by
        have h := hnx.out w8 (by rw [Hfe.out]; simpa using h8)
        rwa [Hwe.out] at h)
       clear h8 H7 hs1 hm1 hy1 hbw haw hmw
       go_wp2_with fail
       go_roundg (gk - 1)
       case measure => have := Hil.out; omega
       case rel => exact ⟨i + 1, some (ah, be), by have := Hil.out; omega, by go_num, rfl, rfl, rfl, H8.out⟩
  ·go_wp2_with fail
   go_end0
   refine ⟨rfl, ?_⟩
   obtain ⟨fs, hwr, hok, he0, he1⟩ := HE.out
   have hil := Hil.out
   have hzl := Hzl.out
   rcases Nat.eq_zero_or_pos i with h0 | h0
   ·obtain ⟨rfl, _⟩ := he0 h0
    have : zs = [] := List.eq_nil_of_length_eq_zero (by omega)
    subst this
    exact hwr
   ·obtain ⟨prev, _, this⟩ := he1 h0
    rw [List.drop_of_length_le (by omega)] at this
    have e : fs = encVals zs := by rw [← this]; show fs = fs ++ []; simp
    rw [← e]
    exact hwr
end Go.Proofs.YtjmjlflmcpkmnaaGreatDoor

/- The document's own answer: values are told by their least. -/
namespace Go.Proofs.YtjmjlflmcpkmnaaGreatDoor
open Go.RowKit

/-- The first loop: the least and the greatest of the first i; no memory is made. -/
def FrmTo (w wr : World) (us : List Nat) (i lo hi : Nat) : Prop := loI us i = lo ∧ hiI us i = hi ∧ lo < 2 ^ 64 ∧ hi < 2 ^ 64 ∧ Mod (fun _ => False) w wr
theorem FrmTo.step {w wr w2 : World} {us : List Nat} {i lo hi x lo2 hi2 : Nat} (h : FrmTo w wr us i lo hi) (hx : us[i]? = some x) (hx64 : x < 2 ^ 64) (h1 : min lo x = lo2) (h2 : max hi x = hi2) (hm : Mod (fun _ => False) wr w2) : FrmTo w w2 us (i + 1) lo2 hi2 := by
 obtain ⟨a1, a2, a3, a4, a5⟩ := h
 refine ⟨by rw [loI_succ hx, a1, h1], by rw [hiI_succ hx, a2, h2], by omega, by omega, a5.trans hm (fun _ _ h => h)⟩
/-- The second loop: how far each is from the least. -/
def DifTo (w wr : World) (us : List Nat) (i : Nat) (v : Value) : Prop := Own w.heap.size wr 41 v (cellsU ((difV us).take i)) ∧ Mod (fun _ => False) w wr
set_option maxHeartbeats 4000000 in
set_option maxRecDepth 100000 in
theorem rpenc_any (A : Option Addr) (n cap B : Nat) (us : List Nat) (w : World) (hs : Rds w B A n (cellsU us)) (hB : B ≤ w.heap.size) (hu : ∀ x ∈ us, x < 2 ^ 64) (hn : n ≤ 1000000) :
  Calls Tryz.prog 64 #[.slice A n cap] w fun e w' => ∃ v, e = .returned v ∧ Own w.heap.size w' 5 v (cells8 (encP us)) ∧ Mod (fun _ => False) w w' := by
 have hul : us.length = n := by have := hs.1; rwa [cellsU_length] at this
 by_cases h0 : n = 0
 ·subst h0
  obtain rfl := List.eq_nil_of_length_eq_zero hul
  clear hs
  go_enter Tryz.func64, Tryz.ntmps64
  go_wp2_with fail
  go_ret
  exact ⟨_, rfl, Own.nil _ _ _, Mod.refl _ _⟩
 ·have hne : us ≠ [] := by rintro rfl; exact h0 hul.symm
  have hp : 0 < n := by omega
  have hpi : (0 : Int) < (n : Int) := by omega
  have hn0 : ((n : Int) == 0) = false := by simp; omega
  obtain ⟨ad, x0, hA, hx0, hc0⟩ := hs.at2 hp hB (Mod.refl (fun _ => False) w) (fun _ _ h => h)
  have hc0' := hc0
  rw [add_nought] at hc0'
  have hx064 := hu x0 (List.mem_of_getElem? hx0)
  have hz1 : loI us 0 = x0 := by rw [loI_zero, List.getD_eq_getElem?_getD, hx0]; rfl
  have hz2 : hiI us 0 = x0 := by rw [hiI_zero, List.getD_eq_getElem?_getD, hx0]; rfl
  have H0 : Hid (∀ k, FrmTo w (w.drewN k) us 0 x0 x0) := Lib.hid (fun k => ⟨hz1, hz2, hx064, hx064, (Mod.refl _ _).drewN k⟩)
  have Hs := Lib.hid hs; have Hu := Lib.hid hu; have HB := Lib.hid hB; have Hul := Lib.hid hul; have Hne := Lib.hid hne
  clear hs hu hB hul hne hx0 hx064 hz1 hz2
  subst hA
  go_enter Tryz.func64, Tryz.ntmps64
  go_upto_region 3 with fail
  go_quiet (fail)
  go_wp2_with fail
  clear hc0 hc0'
  go_loopg [3, 4, 5] n (fun l s3 s4 s5 wr => ∃ (i lo hi : Nat), i + l = n ∧ s5 = .int .i64 (i : Int) ∧ s3 = .int .u64 (lo : Int) ∧ s4 = .int .u64 (hi : Int) ∧ FrmTo w wr us i lo hi)
  case atStart => exact ⟨0, x0, x0, by omega, rfl, rfl, rfl, H0.out _⟩
  case round =>
   obtain ⟨i, lo, hi, hil, rfl, rfl, rfl, hF⟩ := hrel
   have HF := Lib.hid hF; have Hil := Lib.hid hil
   clear hF hil H0
   by_cases hin : i < n
   ·obtain ⟨ad', x, he, hx, hcx⟩ := Hs.out.at2 hin HB.out HF.out.2.2.2.2 (fun _ _ h => h)
    injection he with he
    subst he
    obtain ⟨lo2, hlo2⟩ : ∃ m2, min lo x = m2 := ⟨_, rfl⟩
    obtain ⟨hi2, hhi2⟩ : ∃ m2, max hi x = m2 := ⟨_, rfl⟩
    have hmin := minU_is (P := Tryz.prog) (t := 41) (ty := 41) hlo2
    have hmax := maxU_is (P := Tryz.prog) (t := 41) (ty := 41) hhi2
    have HS : Hid (∀ k, FrmTo w (wr.drewN k) us (i + 1) lo2 hi2) := Lib.hid (fun k => HF.out.step hx (Hu.out x (List.mem_of_getElem? hx)) hlo2 hhi2 ((Mod.refl _ _).drewN k))
    have hi1 : (0 : Int) ≤ (i : Int) := by omega
    clear hx hlo2 hhi2
    go_upto_region 7 with fail
    go_quiet (fail)
    go_wp2_with fail
    go_roundg (gk - 1)
    case measure => have := Hil.out; omega
    case rel => exact ⟨i + 1, lo2, hi2, by have := Hil.out; omega, by go_num, rfl, rfl, HS.out _⟩
   ·have hin2 : i = n := by have := Hil.out; omega
    obtain ⟨hlo, hhi, hlo64, hhi64, hm⟩ := HF.out
    rw [loI_all (by have := Hul.out; omega)] at hlo
    rw [hiI_all (by have := Hul.out; omega)] at hhi
    have hLH : lo ≤ hi := by rw [← hlo, ← hhi]; exact Nat.le_trans (loV_le (getD_mem Hne.out)) (hiV_ge (getD_mem Hne.out))
    obtain ⟨d, hd⟩ : ∃ d, d = hi - lo := ⟨_, rfl⟩
    have hdw : IntKind.u64.wrap ((hi : Int) - (lo : Int)) = (d : Int) := by rw [IntKind.wrap_u64]; omega
    obtain ⟨S, hS⟩ : ∃ S, wid d = S := ⟨_, rfl⟩
    have hS64 : S ≤ 64 := by rw [← hS]; exact wid_le d
    have HS : Hid (widV us = S) := Lib.hid (by unfold widV; rw [hlo, hhi, ← hd]; exact hS)
    have hd64 : Lt64 d := by unfold Lt64; omega
    have hL64' : Lt64 lo := by unfold Lt64; omega
    have hcS : IntKind.u8.wrap (S : Int) = (S : Int) := by rw [IntKind.wrap_u8']; omega
    have hcS' : (S : Int) % 256 = (S : Int) := by omega
    have D0 : Hid (DifTo w wr us 0 (.slice none 0 0)) := Lib.hid ⟨Own.nil _ _ _, hm⟩
    have Hdl : Hid ((difV us).length = n) := Lib.hid (by rw [difV_len]; exact Hul.out)
    have HL := Lib.hid hlo; have Hd64 := Lib.hid hd64; have HL64 := Lib.hid hL64'; have HSd := Lib.hid hS
    clear hlo hhi hlo64 hhi64 hm hLH hd hS hd64 hL64' HF hin2
    go_wp2_with fail
    go_loopg [6, 7] n (fun l s6 s7 wq => ∃ i : Nat, i + l = n ∧ s7 = .int .i64 (i : Int) ∧ DifTo w wq us i s6)
    case atStart => exact ⟨0, by omega, rfl, D0.out⟩
    case round =>
     obtain ⟨j, hjl, rfl, hown, hm⟩ := hrel
     have Hown := Lib.hid hown; have Hm := Lib.hid hm; have Hjl := Lib.hid hjl
     clear hown hm hjl D0
     by_cases hjn : j < n
     ·obtain ⟨ad', x, he, hx, hcx⟩ := Hs.out.at2 hjn HB.out Hm.out (fun _ _ h => h)
      injection he with he
      subst he
      have hxl := Hu.out x (List.mem_of_getElem? hx)
      have hLx : lo ≤ x := by rw [← HL.out]; exact loV_le (List.mem_of_getElem? hx)
      obtain ⟨y, hy⟩ : ∃ y, y = x - lo := ⟨_, rfl⟩
      have hyw : IntKind.u64.wrap ((x : Int) - (lo : Int)) = (y : Int) := by rw [IntKind.wrap_u64]; omega
      have Hy : Hid ((difV us).take (j + 1) = (difV us).take j ++ [y]) := Lib.hid (by rw [hy]; exact take_succ_of (difV_at hx HL.out))
      have hj1 : (0 : Int) ≤ (j : Int) := by omega
      have htl : ((difV us).take j).length ≤ 1000000 := by rw [List.length_take]; omega
      have hr1 : (cellsU ((difV us).take j)).length + 1 ≤ maxLen := by rw [cellsU_length]; unfold maxLen; omega
      have hr2 : ((cellsU ((difV us).take j)).length + 1) * 8 ≤ 140737488355328 := by rw [cellsU_length]; omega
      have Hr1 := Lib.hid hr1; have Hr2 := Lib.hid hr2
      have hsz := Hm.out.size
      clear hxl hLx hx hy htl hr1 hr2
      go_wp2_with (at_builtin; refine wpList_app1 rfl (.tmp 41) (.tmp 48) _ rfl eltU rfl Hown.out rfl rfl rfl Hr1.out Hr2.out hsz ?_; intro v' w3 HO HBl)
      have HD : Hid (DifTo w w3 us (j + 1) v') := Lib.hid ⟨by rw [Hy.out, cellsU_snoc]; exact HO.out, Hm.out.trans (Mod.of_below HBl.out) (fun i hi h => by omega)⟩
      clear HO HBl
      go_roundg (gk - 1)
      case measure => have := Hjl.out; omega
      case rel => exact ⟨j + 1, by have := Hjl.out; omega, by go_num, HD.out⟩
     ·have htk : (difV us).take j = difV us := List.take_of_length_le (by have := Hjl.out; have := Hdl.out; omega)
      have hol := Hown.out
      rw [htk] at hol
      have Hol := Lib.hid hol
      clear hol htk Hown
      go_wp2_with fail
      refine (vrput_any none 0 0 0 [] lo wr (Rds.nil _ _ _) (by omega) HL64.out).mono ?_
      rintro e w2 ⟨v2, rfl, ho2, hb2⟩
      rw [List.nil_append] at ho2
      have Ho2 := Lib.hid ho2; have Hm2 := Lib.hid (Hm.out.trans (mod_below hb2) (fun _ _ h => h)); have Hol2 := Lib.hid (Hol.out.below hb2)
      have hq := enc_len10 HL64.out.out
      have hR : Room (cells8 (enc lo)).length 1 := Room.mk _ _ (by rw [cells8_length]; omega)
      have HR := Lib.hid hR
      have hsz : wr.heap.size ≤ w2.heap.size := hb2.size
      have hmsz := Hm.out.size
      have hbb := hb2
      clear ho2 hb2 hR
      go_wp2_with fail
      refine (rwidth_any d S w2 Hd64.out HSd.out).mono ?_
      rintro e w2' ⟨rfl, rfl⟩
      have Hb2 := Lib.hid hbb
      go_wp2_with (at_builtin; refine wpList_app1 rfl (.tmp 51) (.tmp 57) _ rfl elt8 rfl Ho2.out rfl rfl rfl HR.out.1 HR.out.2 hsz ?_; intro v3 w3 H1 H2)
      have hbel : Below wr.heap.size wr w3 := Hb2.out.trans H2.out
      have ho3 : Own wr.heap.size w3 5 v3 (cells8 (enc lo ++ [S])) := by rw [cells8_snoc]; exact H1.out
      have hol3 : Own w.heap.size w3 41 u6 (cellsU (difV us)) := (Mod.of_below hbel).owns Hol.out (fun k hk h => by have := (Hol.out.block k hk).2; omega)
      obtain ⟨A3, n3, c3, rfl, Hn3, _, _, hr3⟩ := own_formN8 ho3
      obtain ⟨A6, n6, c6, rfl, Hn6, _, hr6⟩ := own_formUN hol3
      have hn3 : n3 ≤ 1000000 := by rw [← Hn3.out, List.length_append, List.length_singleton]; omega
      have hn6 : n6 ≤ 1000000 := by rw [← Hn6.out, Hdl.out]; exact hn
      have Hr3 := Lib.hid hr3; have Hr6 := Lib.hid hr6; have Hm3 := Lib.hid (Hm.out.trans (mod_below hbel) (fun _ _ h => h))
      clear hbel ho3 hol3 hr3 hr6 H1 H2 Hb2 hbb Ho2 Hol2 Hm2
      go_wp2_with fail
      refine (rwidth_any d S w3 Hd64.out HSd.out).mono ?_
      rintro e w4 ⟨rfl, rfl⟩
      go_wp2_with fail
      refine (rpack_any A3 A6 n3 c3 n6 c6 w3.heap.size S _ _ w3 Hr3.out Hr6.out (Nat.le_refl _) (fun x hx => by
       obtain ⟨y, hy, rfl⟩ := List.mem_map.1 hx
       have := Hu.out y hy
       omega) hS64 hn3 hn6).mono ?_
      rintro e w4 ⟨v4, rfl, ho4, hm4⟩
      have Ho4 := Lib.hid ho4; have Hm4 := Lib.hid (Hm3.out.trans hm4 (fun _ _ h => h)); have hsz4 := Hm3.out.size
      clear ho4 hm4
      go_wp2_with fail
      go_ret
      have e : encP us = enc lo ++ (S :: packW S (difV us)) := by rw [encP_cons Hne.out, HL.out, HS.out]
      rw [e]
      have ho4 := Ho4.out
      rw [List.append_assoc] at ho4
      exact ⟨_, rfl, ho4.mono hsz4, Hm4.out⟩
end Go.Proofs.YtjmjlflmcpkmnaaGreatDoor

/- The document's own answer: a value's place, and values told by a list. -/
namespace Go.Proofs.YtjmjlflmcpkmnaaGreatDoor
open Go.RowKit Go.Maps

/-- What place tells. -/
def plcI (x : Nat) (l : List Nat) : Int := if x ∈ l then (plc x l : Int) else -1
theorem plcI_in {x : Nat} {l : List Nat} (h : x ∈ l) : plcI x l = (plc x l : Int) := if_pos h
theorem plcI_out {x : Nat} {l : List Nat} (h : x ∉ l) : plcI x l = -1 := if_neg h
set_option maxHeartbeats 1000000 in
set_option maxRecDepth 100000 in
theorem place_any (A : Option Addr) (n c B x : Nat) (l : List Nat) (w : World) (hs : Rds w B A n (cellsU l)) (hB : B ≤ w.heap.size) (hn : n ≤ 1000000) :
  Calls Tryz.prog 99 #[.slice A n c, .int .u64 (x : Int)] w fun e w' => e = .returned (.int .i64 (plcI x l)) ∧ w = w' := by
 have hul : l.length = n := by have := hs.1; rwa [cellsU_length] at this
 have Hs := Lib.hid hs; have HB := Lib.hid hB; have Hul := Lib.hid hul
 clear hs hB hul
 go_enter Tryz.func99, Tryz.ntmps99
 go_wp2_with fail
 go_loopg [5] n (fun l' s5 wr => ∃ i : Nat, i + l' = n ∧ s5 = .int .i64 (i : Int) ∧ (∀ j, j < i → l[j]? ≠ some x) ∧ w = wr)
 case atStart => exact ⟨0, by omega, rfl, (fun _ h => absurd h (Nat.not_lt_zero _)), rfl⟩
 case round =>
  obtain ⟨i, hil, rfl, hno, rfl⟩ := hrel
  have Hil := Lib.hid hil; have Hno := Lib.hid hno
  clear hil hno
  by_cases hin : i < n
  ·obtain ⟨ad, y, rfl, hy, hcy⟩ := Hs.out.at2 hin HB.out (Mod.refl (fun _ => False) w) (fun _ _ h => h)
   have hi0 : (0 : Int) ≤ (i : Int) := by omega
   by_cases hyx : y = x
   ·subst hyx
    have Hp : Hid (plcI y l = (i : Int)) := Lib.hid (by rw [plcI_in (List.mem_of_getElem? hy), plc_is hy Hno.out])
    clear hy
    go_wp2_with fail
    go_ret
    rw [Hp.out]
    exact ⟨rfl, rfl⟩
   ·have hyb : ((y : Int) == (x : Int)) = false := by simp; omega
    have Hno2 : Hid (∀ j, j < i + 1 → l[j]? ≠ some x) := Lib.hid (fun j hj e => by
     rcases Nat.lt_or_ge j i with h | h
     ·exact Hno.out j h e
     ·obtain rfl : j = i := by omega
      rw [hy] at e
      injection e with e
      exact hyx e)
    clear hy hyx
    go_wp2_with fail
    go_roundg (gk - 1)
    case measure => have := Hil.out; omega
    case rel => exact ⟨i + 1, by have := Hil.out; omega, by go_num, Hno2.out, rfl⟩
  ·have hi : i = n := by have := Hil.out; omega
   have Hp : Hid (plcI x l = -1) := Lib.hid (plcI_out (fun h => by
    obtain ⟨j, hj⟩ := List.mem_iff_getElem?.1 h
    have := (List.getElem?_eq_some_iff.1 hj).1
    exact Hno.out j (by rw [hi, ← Hul.out]; exact this) hj))
   go_wp2_with fail
   go_ret
   rw [Hp.out]
   exact ⟨rfl, rfl⟩
theorem uniq_keep {v : List Nat} {x : Nat} : ∃ t, uniq (v ++ [x]) = uniq v ++ t := uniq_app v [x]
/-- A value more: each has its place as it had. -/
theorem atD_step (v : List Nat) (x : Nat) : atD (v ++ [x]) = atD v ++ [plc x (uniq (v ++ [x]))] := by
 obtain ⟨t, ht⟩ := uniq_keep (v := v) (x := x)
 unfold atD
 rw [List.map_append]
 congr 1
 apply List.map_congr_left
 intro y hy
 rw [ht, plc_app (uniq_mem hy)]
/-- What Dict has made of i values. -/
def RDTo (w wr : World) (us : List Nat) (i : Nat) (v u : Value) : Prop :=
 Own w.heap.size wr 41 v (cellsU (uniq (us.take i))) ∧ Own w.heap.size wr 41 u (cellsU (atD (us.take i))) ∧ Twain v u ∧ (uniq (us.take i)).length ≤ 256 ∧ Mod (fun _ => False) w wr
set_option maxHeartbeats 4000000 in
set_option maxRecDepth 100000 in
theorem rdenc_any (A : Option Addr) (n cap B : Nat) (us : List Nat) (w : World) (hs : Rds w B A n (cellsU us)) (hB : B ≤ w.heap.size) (hu : ∀ x ∈ us, x < 2 ^ 64) (hn : n ≤ 1000000) :
  Calls Tryz.prog 65 #[.slice A n cap] w fun e w' => EncB w w' (encD us) e := by
 have hul : us.length = n := by have := hs.1; rwa [cellsU_length] at this
 have R0 : Hid (RDTo w w us 0 (.slice none 0 0) (.slice none 0 0)) := Lib.hid ⟨Own.nil _ _ _, Own.nil _ _ _, (fun _ h => by cases h), Nat.zero_le _, Mod.refl _ _⟩
 have Hs := Lib.hid hs; have Hu := Lib.hid hu; have HB := Lib.hid hB; have Hul := Lib.hid hul
 clear hs hu hB hul
 go_enter Tryz.func65, Tryz.ntmps65
 go_wp2_with fail
 go_loopg [4, 5, 6] n (fun l s4 s5 s6 wr => ∃ i : Nat, i + l = n ∧ s6 = .int .i64 (i : Int) ∧ RDTo w wr us i s4 s5)
 case atStart => exact ⟨0, by omega, rfl, R0.out⟩
 case round =>
  obtain ⟨i, hil, rfl, hown4, hown5, htw, hlen, hm⟩ := hrel
  obtain ⟨A4, L, c4, rfl, HL, _, hr4⟩ := own_formUN hown4
  have H4 := Lib.hid hown4; have H5 := Lib.hid hown5; have Htw := Lib.hid htw; have Hm := Lib.hid hm; have Hil := Lib.hid hil; have Hr4 := Lib.hid hr4
  have hL256 : L ≤ 256 := by have := HL.out; omega
  clear hown4 hown5 htw hm hil hr4 R0 hlen
  by_cases hin : i < n
  ·obtain ⟨ad, x, rfl, hx, hcx⟩ := Hs.out.at2 hin HB.out Hm.out (fun _ _ h => h)
   have Hcell : Hid (∀ W, Mod (fun _ => False) w W → W.cell? (ad.add i) = some (.int .u64 (x : Int))) := Lib.hid (fun W hW => by
    obtain ⟨ad', x', e, hx', hc⟩ := Hs.out.at2 hin HB.out hW (fun _ _ h => h)
    injection e with e
    subst e
    rw [hx] at hx'
    injection hx' with hx'
    subst hx'
    exact hc)
   have Htk := Lib.hid (take_succ_of hx)
   have Hat : Hid (atD (us.take (i + 1)) = atD (us.take i) ++ [plc x (uniq (us.take (i + 1)))]) := Lib.hid (by rw [Htk.out, atD_step])
   have hi0 : (0 : Int) ≤ (i : Int) := by omega
   have hini : (i : Int) < (n : Int) := by omega
   have hatl : (atD (us.take i)).length ≤ 1000000 := by rw [atD_len, List.length_take]; omega
   have hr3 : (cellsU (atD (us.take i))).length + 1 ≤ maxLen := by rw [cellsU_length]; unfold maxLen; omega
   have hr4 : ((cellsU (atD (us.take i))).length + 1) * 8 ≤ 140737488355328 := by rw [cellsU_length]; omega
   have Hr3 := Lib.hid hr3; have Hr34 := Lib.hid hr4
   clear hx hatl hr3 hr4
   by_cases hin2 : x ∈ uniq (us.take i)
   ·have Hq : Hid (uniq (us.take (i + 1)) = uniq (us.take i)) := Lib.hid (by rw [Htk.out, uniq_snoc, if_pos hin2])
    obtain ⟨p, hp⟩ : ∃ p, plc x (uniq (us.take i)) = p := ⟨_, rfl⟩
    have hp256 : p < 256 := by have h := plc_lt hin2; have := HL.out; omega
    have Hpl : Hid (plcI x (uniq (us.take i)) = (p : Int)) := Lib.hid (by rw [plcI_in hin2, hp])
    have Hp2 : Hid (plc x (uniq (us.take (i + 1))) = p) := Lib.hid (by rw [Hq.out]; exact hp)
    have Hplace := Lib.hid (place_any A4 L c4 _ x (uniq (us.take i)) wr Hr4.out (Nat.le_refl _) (by omega))
    have hp0 : ¬ (p : Int) < 0 := by omega
    have hsz := Hm.out.size
    have hLb : ¬ (256 : Int) < (L : Int) := by omega
    clear hin2 hp
    go_wp2_with fail
    refine Hplace.out.mono ?_
    rintro e w1 ⟨rfl, rfl⟩
    rw [Hpl.out]
    go_wp2_with fail
    refine Hplace.out.mono ?_
    rintro e w1 ⟨rfl, rfl⟩
    rw [Hpl.out]
    go_wp2_with (at_builtin; refine wpList_app1g rfl (.tmp 29) (.tmp 37) _ rfl eltU rfl H5.out rfl rfl rfl Hr3.out Hr34.out hsz ?_; intro v5 w5 HO5 HB5 HG5)
    have HR : Hid (RDTo w w5 us (i + 1) (.slice A4 L c4) v5) := Lib.hid ⟨by rw [Hq.out]; exact HG5.out.1.owns H4.out (fun k hk e => Htw.out k hk e), by rw [Hat.out, cellsU_snoc, Hp2.out]; exact HO5.out, (Htw.out.symm.step H4.out HG5.out.2).symm, by rw [Hq.out, HL.out]; exact hL256, Hm.out.trans (Mod.of_below HB5.out) (fun i hi h => by omega)⟩
    clear HO5 HB5 HG5
    go_roundg (gk - 1)
    case measure => have := Hil.out; omega
    case rel => exact ⟨i + 1, by have := Hil.out; omega, by go_num, HR.out⟩
   ·have Hq : Hid (uniq (us.take (i + 1)) = uniq (us.take i) ++ [x]) := Lib.hid (by rw [Htk.out, uniq_snoc, if_neg hin2])
    have hxm : x ∈ uniq (us.take (i + 1)) := by rw [Hq.out]; simp
    have Hp2 : Hid (plc x (uniq (us.take (i + 1))) = L) := Lib.hid (by
     rw [Hq.out]
     refine plc_is (by rw [List.getElem?_append_right (by rw [HL.out]; exact Nat.le_refl _), HL.out, Nat.sub_self]; rfl) fun j hj => ?_
     rw [List.getElem?_append_left (by rw [HL.out]; exact hj)]
     exact fun e => hin2 (List.mem_of_getElem? e))
    have Hpl : Hid (plcI x (uniq (us.take i)) = -1) := Lib.hid (plcI_out hin2)
    have Hpl2 : Hid (plcI x (uniq (us.take (i + 1))) = (L : Int)) := Lib.hid (by rw [plcI_in hxm, Hp2.out])
    have Hplace := Lib.hid (place_any A4 L c4 _ x (uniq (us.take i)) wr Hr4.out (Nat.le_refl _) (by omega))
    have HL' : Hid (∀ L', (uniq (us.take (i + 1))).length = L' → L' = L + 1) := Lib.hid (fun L' h => by rw [Hq.out, List.length_append, HL.out] at h; exact h.symm)
    have Hmono : Hid ((uniq (us.take (i + 1))).length ≤ (uniq us).length) := Lib.hid (uniq_take_le us (i + 1))
    have hr1 : (cellsU (uniq (us.take i))).length + 1 ≤ maxLen := by rw [cellsU_length, HL.out]; unfold maxLen; omega
    have hr2 : ((cellsU (uniq (us.take i))).length + 1) * 8 ≤ 140737488355328 := by rw [cellsU_length, HL.out]; omega
    have Hr1 := Lib.hid hr1; have Hr2 := Lib.hid hr2
    have hsz := Hm.out.size
    clear hin2 hxm hr1 hr2
    go_wp2_with fail
    refine Hplace.out.mono ?_
    rintro e w1 ⟨rfl, rfl⟩
    rw [Hpl.out]
    go_wp2_with (at_builtin; refine wpList_app1g rfl (.tmp 22) (.tmp 27) _ rfl eltU rfl H4.out rfl rfl rfl Hr1.out Hr2.out hsz ?_; intro v4 w4 HO4 HB4 HG4; have Hm4 := Lib.hid (Hm.out.trans (Mod.of_below HB4.out) (fun i hi h => by omega)); have H5a : Hid (Own w.heap.size w4 41 u5 (cellsU (atD (us.take i)))) := Lib.hid (HG4.out.1.owns H5.out (fun k hk e => Htw.out.symm k hk e)); have Htw4 := Lib.hid (Htw.out.step H5.out HG4.out.2); have H4' : Hid (Own w.heap.size w4 41 v4 (cellsU (uniq (us.take (i + 1))))) := Lib.hid (by rw [Hq.out, cellsU_snoc]; exact HO4.out); clear HO4 HB4 HG4; obtain ⟨A6, L6, c6, rfl, HL6, _, hr6⟩ := own_formUN H4'.out; obtain rfl := HL'.out L6 HL6.out; have Hplace4 := Lib.hid (place_any A6 (L + 1) c6 _ x (uniq (us.take (i + 1))) w4 hr6 (Nat.le_refl _) (by omega)); clear hr6; have hcx4 := Hcell.out _ Hm4.out; have hsz4 : w.heap.size ≤ w4.heap.size := Hm4.out.size)
    refine Hplace4.out.mono ?_
    rintro e w1 ⟨rfl, rfl⟩
    rw [Hpl2.out]
    go_wp2_with (at_builtin; refine wpList_app1g rfl (.tmp 29) (.tmp 37) _ rfl eltU rfl H5a.out rfl rfl rfl Hr3.out Hr34.out hsz4 ?_; intro v5 w5 HO5 HB5 HG5)
    ·have Hd : Hid (encD us = none) := Lib.hid (encD_many (by have := Hmono.out; have := HL6.out; omega))
     have Hm5 := Lib.hid (Hm4.out.trans (Mod.of_below HB5.out) (fun i hi h => by omega))
     go_ret2
     rw [Hd.out]
     exact ⟨rfl, Hm5.out⟩
    ·have HR : Hid (RDTo w w5 us (i + 1) (.slice A6 (L + 1) c6) v5) := Lib.hid ⟨HG5.out.1.owns H4'.out (fun k hk e => Htw4.out k hk e), by rw [Hat.out, cellsU_snoc, Hp2.out]; exact HO5.out, (Htw4.out.symm.step H4'.out HG5.out.2).symm, by rw [HL6.out]; omega, Hm4.out.trans (Mod.of_below HB5.out) (fun i hi h => by omega)⟩
     clear HO5 HB5 HG5
     go_roundg (gk - 1)
     case measure => have := Hil.out; omega
     case rel => exact ⟨i + 1, by have := Hil.out; omega, by go_num, HR.out⟩
  ·have hi : i = n := by have := Hil.out; omega
   obtain ⟨A5, m5, c5, rfl, HL5, _, hr5⟩ := own_formUN H5.out
   have htk : us.take i = us := List.take_of_length_le (by rw [Hul.out]; omega)
   rw [htk] at HL HL5 hr5
   have hr4 := Hr4.out
   rw [htk] at hr4
   obtain rfl : m5 = n := by have := HL5.out; rw [atD_len, Hul.out] at this; exact this.symm
   have Hr5 := Lib.hid hr5; have Hr4' := Lib.hid hr4
   clear hr5 hr4 htk H4 H5 Htw Hr4 hin
   by_cases h0 : m5 = 0
   ·have hn0 : ((m5 : Int) == 0) = true := by simp; omega
    have Hd : Hid (encD us = some []) := Lib.hid (by
     have e : us = [] := List.eq_nil_of_length_eq_zero (by rw [Hul.out]; exact h0)
     rw [e]
     exact encD_nil)
    clear h0
    go_wp2_with fail
    go_ret2
    rw [Hd.out]
    exact ⟨_, rfl, Own.nil _ _ _, Hm.out⟩
   ·have hn0 : ((m5 : Int) == 0) = false := by simp; omega
    have Hne : Hid (us ≠ []) := Lib.hid (by rintro rfl; exact h0 Hul.out.symm)
    have hL0 : ¬ L = 0 := by have h := uniq_pos Hne.out; have := HL.out; omega
    have hL64 : Hid (Lt64 L) := Lib.hid (by unfold Lt64; omega)
    obtain ⟨S, hS⟩ : ∃ S, wid (L - 1) = S := ⟨_, rfl⟩
    have hS64 : S ≤ 64 := by rw [← hS]; exact wid_le _
    obtain ⟨y, hy⟩ : ∃ y, y = L - 1 := ⟨_, rfl⟩
    have hyi : (L : Int) - 1 = (y : Int) := by omega
    have hyL : y ≤ 1000000 := by omega
    have Hwid : Hid (∀ W, Calls Tryz.prog 98 #[.int .u64 (y : Int)] W fun e w' => e = .returned (.int .i64 (S : Int)) ∧ W = w') := Lib.hid (fun W => rwidth_any y S W (by unfold Lt64; omega) (by rw [hy]; exact hS))
    have HS := Lib.hid hS
    have Hu2 : Hid (∀ x ∈ uniq us, x < 2 ^ 64) := Lib.hid (fun x hx => Hu.out x (uniq_of hx))
    have Hat2 : Hid (∀ x ∈ atD us, x < 2 ^ 64) := Lib.hid (fun x hx => by
     obtain ⟨z, hz, rfl⟩ := List.mem_map.1 hx
     have := plc_lt (uniq_mem hz)
     have := HL.out
     omega)
    clear h0 hL0 hS hy
    go_wp2_with fail
    refine (vrput_any none 0 0 0 [] L wr (Rds.nil _ _ _) (by omega) hL64.out).mono ?_
    rintro e w1 ⟨v1, rfl, ho1, hb1⟩
    rw [List.nil_append] at ho1
    have P0 : Hid (ListTo wr w1 (uniq us) 0 v1) := Lib.hid ⟨by rw [HL.out, List.take_zero]; show Own _ _ _ _ (cells8 (enc L ++ [])); rw [List.append_nil]; exact ho1, mod_below hb1⟩
    clear ho1 hb1
    generalize wr = wP at *
    go_wp2_with fail
    go_loopg [7, 8] L (fun l' s7 s8 wr => ∃ j : Nat, j + l' = L ∧ s8 = .int .i64 (j : Int) ∧ ListTo wP wr (uniq us) j s7)
    case atStart => exact ⟨0, by omega, rfl, P0.out⟩
    case round =>
     obtain ⟨j, hjl, rfl, hown, hm⟩ := hrel
     have Hown := Lib.hid hown; have Hmj := Lib.hid hm; have Hjl := Lib.hid hjl
     clear hown hm hjl P0
     have hjL : j ≤ L := by have := Hjl.out; omega
     obtain ⟨A3, L3, c3, rfl, HL3, _, _, hr3⟩ := own_formN8 Hown.out
     have hL3 : L3 ≤ 100000 := by
      have h1 := enc_len10 hL64.out.out
      have h2 := encV_len (l := (uniq us).take j) (fun x hx => Hu2.out x (List.mem_of_mem_take hx))
      have h3 : ((uniq us).take j).length ≤ L := by rw [List.length_take, HL.out]; omega
      have h4 := HL3.out
      rw [HL.out, List.length_append] at h4
      omega
     have Hr3 := Lib.hid hr3
     clear hr3
     by_cases hjn : j < L
     ·obtain ⟨ad, x, rfl, hx, hcx⟩ := Hr4'.out.at2 hjn (Nat.le_refl _) Hmj.out (fun _ _ h => h)
      have Hx64 : Hid (Lt64 x) := Lib.hid (Hu2.out x (List.mem_of_getElem? hx))
      have Htk : Hid (encV ((uniq us).take (j + 1)) = encV ((uniq us).take j) ++ enc x) := Lib.hid (by rw [take_succ_of hx, encV_snoc])
      have hj0 : (0 : Int) ≤ (j : Int) := by omega
      clear hx
      go_wp2_with fail
      refine (vrput_any A3 L3 c3 _ _ x wr Hr3.out (by omega) Hx64.out).mono ?_
      rintro e w2 ⟨v2, rfl, ho2, hb2⟩
      rw [List.append_assoc, ← Htk.out] at ho2
      have HP : Hid (ListTo wP w2 (uniq us) (j + 1) v2) := Lib.hid ⟨ho2.mono Hmj.out.size, Hmj.out.trans (mod_below hb2) (fun _ _ h => h)⟩
      clear ho2 hb2
      go_wp2_with fail
      go_roundg (gk - 1)
      case measure => have := Hjl.out; omega
      case rel => exact ⟨j + 1, by have := Hjl.out; omega, by go_num, HP.out⟩
     ·have hjL2 : j = L := by have := Hjl.out; omega
      have Hr3' : Hid (Rds wr wr.heap.size A3 L3 (cells8 (enc L ++ encV (uniq us)))) := Lib.hid (by
       have h := Hr3.out
       rw [List.take_of_length_le (by rw [HL.out]; omega), HL.out] at h
       exact h)
      clear Hr3 HL3 hjn
      go_wp2_with fail
      refine (Hwid.out _).mono ?_
      rintro e w1 ⟨rfl, rfl⟩
      go_wp2_with fail
      refine (rpack_any A3 A5 L3 c3 m5 c5 _ S (enc L ++ encV (uniq us)) (atD us) wr Hr3'.out (Hr5.out.new Hmj.out).fit (Nat.le_refl _) Hat2.out hS64 (by omega) hn).mono ?_
      rintro e w2 ⟨v2, rfl, ho2, hm2⟩
      have Ho2 := Lib.hid ho2; have Hm2 := Lib.hid ((Hm.out.trans Hmj.out (fun _ _ h => h)).trans hm2 (fun _ _ h => h))
      clear ho2 hm2
      go_wp2_with fail
      go_ret2
      have ho := Ho2.out
      rw [encD_cons Hne.out (by rw [HL.out]; omega), HL.out, HS.out]
      rw [List.append_assoc] at ho
      exact ⟨_, rfl, ho.mono (Nat.le_trans Hm.out.size Hmj.out.size), Hm2.out⟩
end Go.Proofs.YtjmjlflmcpkmnaaGreatDoor

/- Values told in a codec, as the document has it: told. -/
namespace Go.Proofs.YtjmjlflmcpkmnaaGreatDoor
open Go.RowKit

theorem RWrote.done {w w1 w2 : World} {g : Nat} {fs : List (Nat × Nat)} (h : RWrote w1 w2 g none 0 0 fs) (hg : w.heap.size ≤ g) (hm : Mod (fun _ => False) w w1) : ∃ row, RWr w2 g row (fnum fs) (flen fs) ∧ Mod (fun _ => False) w w2 := by
 obtain ⟨row, a1, a2, _⟩ := h
 rw [Nat.zero_mul, Nat.zero_add, Nat.zero_add] at a1
 exact ⟨row, a1, hm.trans a2 (fun i hi h => h.elim (fun e => by omega) (fun e => by cases e))⟩
theorem RWr.new (w : World) : RWr (w.alloc (.cells #[.slice none 0 0] 72)) w.heap.size none 0 0 :=
 ⟨.slice none 0 0, [], Blk.new _ _ _, World.ownsRow_nil _ _ _ _, rfl, (fun _ h => by cases h), rfl, rfl⟩
theorem w8_len (x : Nat) : (w8 x).length = 8 := rfl
theorem w8_at (x : Nat) : ∀ j, j < 8 → (w8 x)[j]? = some (x / 2 ^ (8 * (7 - j)) % 256) := by
 intro j hj
 have h' : j = 0 ∨ j = 1 ∨ j = 2 ∨ j = 3 ∨ j = 4 ∨ j = 5 ∨ j = 6 ∨ j = 7 := by omega
 rcases h' with rfl | rfl | rfl | rfl | rfl | rfl | rfl | rfl
 ·rfl
 ·rfl
 ·rfl
 ·rfl
 ·rfl
 ·rfl
 ·rfl
 ·show some (x % 256) = some (x / 2 ^ (8 * 0) % 256)
  rw [Nat.mul_zero, Nat.pow_zero, Nat.div_one]
theorem words8_take {ws : List Nat} {i x : Nat} (h : ws[i]? = some x) : words8 (ws.take (i + 1)) = words8 (ws.take i) ++ w8 x := by
 rw [take_succ_of h, words8_app]
 show _ ++ (w8 x ++ []) = _
 rw [List.append_nil]
/-- The first i words and j bytes of the next. -/
def BytTo (w wr : World) (ws : List Nat) (i : Nat) (tl : List Nat) (v : Value) : Prop := Own w.heap.size wr 5 v (cells8 (words8 (ws.take i) ++ tl)) ∧ Mod (fun _ => False) w wr
set_option maxHeartbeats 4000000 in
set_option maxRecDepth 100000 in
theorem rtold_any (tag : Int) (A : Option Addr) (n cap : Nat) (us : List Nat) (w : World) (hs : Rds w w.heap.size A n (cellsU us)) (hu : ∀ x ∈ us, x < 2 ^ 64) (hn : n ≤ 1000000) (hcap : n ≤ cap) :
  Calls Tryz.prog 36 #[.int .i64 tag, .slice A n cap] w fun e w' => EncB w w' (toldK tag us) e := by
 have hul : us.length = n := by have := hs.1; rwa [cellsU_length] at this
 by_cases h1 : tag = 1
 ·subst h1
  obtain ⟨W, hW⟩ : ∃ W, W = w.alloc (.cells #[.slice none 0 0] 72) := ⟨_, rfl⟩
  have hmW : Mod (fun _ => False) w W := by rw [hW]; exact (Mod.refl _ _).alloc _
  have hrw : RWr W w.heap.size none 0 0 := by rw [hW]; exact RWr.new w
  have Hs1 := Lib.hid (hs.mod hmW (Nat.le_refl _) (fun _ _ h => h))
  have Hap : Hid (0 < n → ∀ ad, A = some ad → ¬ (ad.block = w.heap.size ∨ none = some ad.block)) := Lib.hid (fun h0 ad hA h => by
   obtain ⟨ad', hA', hb, _⟩ := hs.2 h0
   rw [hA] at hA'
   injection hA' with hA'
   subst hA'
   rcases h with h | h
   ·omega
   ·cases h)
  have Hs := Lib.hid hs; have Hu := Lib.hid hu; have Hul := Lib.hid hul; have HW := Lib.hid hW; have HmW := Lib.hid hmW; have Hrw := Lib.hid hrw
  clear hs hu hul hW hmW hrw
  go_enter Tryz.func36, Tryz.ntmps36
  go_wp2_with fail
  rw [← HW.out]
  refine (rvalues_any w.heap.size w.heap.size none 0 0 n cap A us W Hs1.out Hu.out HmW.out.size Hap.out Hrw.out (by omega)).mono ?_
  rintro e w2 ⟨rfl, h2⟩
  obtain ⟨row, hwr2, hm2⟩ := h2.done (Nat.le_refl _) HmW.out
  have hfl := encVals_len us
  rw [Hul.out] at hfl
  have Hwr2 := Lib.hid hwr2; have Hm2 := Lib.hid hm2; have Hfl := Lib.hid hfl
  clear h2 hwr2 hm2 hfl Hs1 Hrw
  go_wp2_with fail
  refine (rbytes_any w.heap.size row _ _ w2 Hwr2.out (by have := Hfl.out; omega)).mono ?_
  rintro e w3 ⟨v3, bs, rfl, hnew, hpk⟩
  obtain rfl := hpk.packF
  have Ho3 := Lib.hid (hnew.own.mono Hm2.out.size); have Hm3 := Lib.hid (Hm2.out.trans hnew.2.1 (fun _ _ h => h))
  clear hnew hpk
  go_wp2_with fail
  go_ret2
  exact EncB.of_own Ho3.out Hm3.out
 by_cases h2 : tag = 2
 ·subst h2
  have Hs := Lib.hid hs; have Hu := Lib.hid hu; have Hul := Lib.hid hul
  have Htk : Hid (toldK 2 us = (encS (stepsU 0 us)).map words8) := Lib.hid rfl
  clear hs hu hul
  go_enter Tryz.func36, Tryz.ntmps36
  go_wp2_with fail
  refine (rsteps_any A n cap us w Hs.out Hu.out hn).mono ?_
  rintro e w1 ⟨v1, rfl, ho1, hm1⟩
  obtain ⟨A1, L1, c1, rfl, HL1, hc1, hr1⟩ := own_formUN ho1
  have hL1 : L1 ≤ 1000000 := by have := HL1.out; rw [stepsU_len] at this; have := Hul.out; omega
  have Hr1 := Lib.hid hr1; have Hm1 := Lib.hid hm1; have Hst : Hid (∀ x ∈ stepsU 0 us, x < 2 ^ 64) := Lib.hid (stepsU_lt us 0)
  have Hc1 := Lib.hid hc1
  clear ho1 hm1 hr1 hc1 Hs Hu
  go_wp2_with fail
  refine (simple_any A1 L1 c1 w1.heap.size (stepsU 0 us) w1 Hr1.out (Nat.le_refl _) Hst.out hL1 Hc1.out).mono ?_
  intro e w2 he
  have he' : EncE w1 w2 (encS (stepsU 0 us)) e := he
  clear he
  cases ho : encS (stepsU 0 us) with
  | none =>
   obtain ⟨rfl, hm2⟩ := EncE.none_ he' ho
   have Hno : Hid (toldK 2 us = none) := Lib.hid (by rw [Htk.out, ho]; rfl)
   have Hm2 := Lib.hid (Hm1.out.trans hm2 (fun _ _ h => h))
   clear he' ho hm2
   go_wp2_with fail
   go_loopg [9, 10] 0 (fun k s9 s10 wr => s9 = .slice none 0 0 ∧ s10 = .int .i64 0 ∧ wr = w2)
   case atStart => exact ⟨rfl, rfl, rfl⟩
   case round =>
    obtain ⟨rfl, rfl, rfl⟩ := hrel
    go_wp2_with fail
    go_ret2
    rw [Hno.out]
    exact ⟨rfl, Hm2.out⟩
  | some ws =>
   obtain ⟨v2, rfl, how, hm2⟩ := EncE.some_ he' ho
   obtain ⟨hwl, hw64⟩ := encS_len _ _ _ rfl ho
   obtain ⟨A2, L2, c2, rfl, HL2, hc2, hr2⟩ := own_formUN how
   have hL2 : L2 ≤ 1000000 := by have := HL2.out; have := HL1.out; omega
   have Hyes : Hid (toldK 2 us = some (words8 ws)) := Lib.hid (by rw [Htk.out, ho]; rfl)
   have Hm2 := Lib.hid (Hm1.out.trans hm2 (fun _ _ h => h)); have Hr2 := Lib.hid hr2; have Hw64 := Lib.hid hw64
   have B0 : Hid (BytTo w2 w2 ws 0 [] (.slice none 0 0)) := Lib.hid ⟨Own.nil _ _ _, Mod.refl _ _⟩
   clear he' ho how hm2 hwl hw64 hr2 hc2 Hm1 Hr1 Hst Hc1 Htk
   go_wp2_with fail
   go_loopg [9, 10] L2 (fun k s9 s10 wr => ∃ i : Nat, i + k = L2 ∧ s10 = .int .i64 (i : Int) ∧ BytTo w2 wr ws i [] s9)
   case atStart => exact ⟨0, by omega, rfl, B0.out⟩
   case round =>
    obtain ⟨i, hik, rfl, hB⟩ := hrel
    have Hik := Lib.hid hik; have HB := Lib.hid hB
    clear hik hB B0
    by_cases hin : i < L2
    ·obtain ⟨ad, x, rfl, hx, hcx⟩ := Hr2.out.at2 hin (Nat.le_refl _) HB.out.2 (fun _ _ h => h)
     have hx64 := Hw64.out x (List.mem_of_getElem? hx)
     have hini : (i : Int) < (L2 : Int) := by omega
     have Hx := Lib.hid hx; have Hx64 := Lib.hid hx64
     obtain ⟨k1, hk1⟩ : ∃ k1 : Nat, k1 = gk - 1 := ⟨_, rfl⟩
     have Hk1 : Hid (i + 1 + k1 = L2 ∧ k1 < gk) := Lib.hid (by have := Hik.out; omega)
     clear hk1
     have Hcx : Hid (∀ w', Mod (fun _ => False) w2 w' → w'.cell? (ad.add i) = some (.int .u64 (x : Int))) := Lib.hid (fun w' hm' => by
      obtain ⟨ad', x', hA, hx', hc'⟩ := Hr2.out.at2 hin (Nat.le_refl _) hm' (fun _ _ h => h)
      injection hA with hA
      subst hA
      rw [hx] at hx'
      injection hx' with hx'
      subst hx'
      exact hc')
     have C0 : Hid (BytTo w2 wr ws i ((w8 x).take 0) u9) := Lib.hid HB.out
     clear hx hx64 hcx
     go_wp2_with fail
     go_loopg [9, 11] 8 (fun k s9 s11 wq => ∃ (j : Nat) (kk : Int), j + k = 8 ∧ kk = 7 - (j : Int) ∧ s11 = .int .i64 kk ∧ BytTo w2 wq ws i ((w8 x).take j) s9)
     case atStart => exact ⟨0, 7, by omega, rfl, rfl, C0.out⟩
     case round =>
      obtain ⟨j, kk, hjk, hkk, rfl, hC⟩ := hrel
      have Hjk := Lib.hid hjk; have HC := Lib.hid hC; have Hkk := Lib.hid hkk
      clear hjk hC C0 hkk
      by_cases hj8 : j < 8
      ·have hcxq := Hcx.out wr HC.out.2
       obtain ⟨m, hm⟩ : ∃ m : Nat, m = 7 - j := ⟨_, rfl⟩
       obtain rfl : kk = (m : Int) := by have := Hkk.out; omega
       obtain ⟨q, hq⟩ : ∃ q : Nat, q = 8 * m := ⟨_, rfl⟩
       have hq56 : q ≤ 56 := by omega
       have hqi : 8 * (m : Int) = (q : Int) := by omega
       have hm0 : (0 : Int) ≤ (m : Int) := by omega
       obtain ⟨b, hb⟩ : ∃ b : Nat, b = x / 2 ^ q % 256 := ⟨_, rfl⟩
       have hbi : (x : Int) / 2 ^ q % 256 = (b : Int) := by rw [hb]; simp
       have Hb : Hid ((w8 x)[j]? = some b) := Lib.hid (by rw [w8_at x j hj8, hb, hq, hm])
       have hlen : (cells8 (words8 (ws.take i) ++ (w8 x).take j)).length ≤ 8000008 := by
        rw [cells8_length, List.length_append, words8_len, List.length_take, List.length_take, w8_len]
        omega
       have HR : Hid (Room (cells8 (words8 (ws.take i) ++ (w8 x).take j)).length 1) := Lib.hid (Room.mk _ _ (by omega))
       have hsz := HC.out.2.size
       have hmj : Hid (m = 7 - j) := Lib.hid hm
       clear hb hlen hq hm
       go_wp2_with (at_builtin; refine wpList_app1 rfl (.tmp 41) (.tmp 51) _ rfl elt8 rfl HC.out.1 rfl rfl rfl HR.out.1 HR.out.2 hsz ?_; intro v4 w4 HO4 HB4)
       have HC2 : Hid (BytTo w2 w4 ws i ((w8 x).take (j + 1)) v4) := Lib.hid ⟨by
        have e : words8 (ws.take i) ++ (w8 x).take (j + 1) = (words8 (ws.take i) ++ (w8 x).take j) ++ [b] := by
         rw [take_succ_of Hb.out, List.append_assoc]
        rw [e, cells8_snoc]
        exact HO4.out, HC.out.2.trans (Mod.of_below HB4.out) (fun i hi h => by omega)⟩
       go_roundg (gk - 1)
       case measure => have := Hjk.out; omega
       case rel => exact ⟨j + 1, (m : Int) - 1, by have := Hjk.out; omega, by have := hmj.out; omega, by go_num, HC2.out⟩
      ·have hk0 : ¬ (0 : Int) ≤ kk := by have := Hkk.out; omega
       have HB2 : Hid (BytTo w2 wr ws (i + 1) [] u9) := Lib.hid (by
        have h := HC.out
        rw [show (w8 x).take j = w8 x from List.take_of_length_le (by rw [w8_len]; omega)] at h
        unfold BytTo at h ⊢
        rw [List.append_nil, words8_take Hx.out]
        exact h)
       clear HC Hcx
       go_wp2_with fail
       go_roundg k1
       case measure => exact Hk1.out.2
       case rel => exact ⟨i + 1, Hk1.out.1, by go_num, HB2.out⟩
    ·have hi : i = L2 := by have := Hik.out; omega
     obtain ⟨k1, k2⟩ := HB.out
     rw [List.append_nil, List.take_of_length_le (by rw [HL2.out]; omega)] at k1
     have Ho := Lib.hid (k1.mono Hm2.out.size); have Hm := Lib.hid (Hm2.out.trans k2 (fun _ _ h => h))
     clear hi k1 k2
     go_wp2_with fail
     go_ret2
     exact EncB.of_some Hyes.out Ho.out Hm.out
 by_cases h3 : tag = 3
 ·subst h3
  have hcall := lrenc_any A n cap w.heap.size us w hs (Nat.le_refl _) hu hn
  have Hcall := Lib.hid hcall
  clear hs hu hcall
  go_enter Tryz.func36, Tryz.ntmps36
  go_wp2_with fail
  refine Hcall.out.mono ?_
  rintro e w1 ⟨v, rfl, ho, hm⟩
  have Ho := Lib.hid ho; have Hm := Lib.hid hm
  clear ho hm
  go_wp2_with fail
  go_ret2
  exact EncB.of_own Ho.out Hm.out
 by_cases h4 : tag = 4
 ·subst h4
  have hcall := rpenc_any A n cap w.heap.size us w hs (Nat.le_refl _) hu hn
  have Hcall := Lib.hid hcall
  clear hs hu hcall
  go_enter Tryz.func36, Tryz.ntmps36
  go_wp2_with fail
  refine Hcall.out.mono ?_
  rintro e w1 ⟨v, rfl, ho, hm⟩
  have Ho := Lib.hid ho; have Hm := Lib.hid hm
  clear ho hm
  go_wp2_with fail
  go_ret2
  exact EncB.of_own Ho.out Hm.out
 by_cases h5 : tag = 5
 ·subst h5
  have hcall := rdenc_any A n cap w.heap.size us w hs (Nat.le_refl _) hu hn
  have Hcall := Lib.hid hcall
  clear hs hu hcall
  go_enter Tryz.func36, Tryz.ntmps36
  go_wp2_with fail
  refine Hcall.out.mono ?_
  intro e w1 he
  obtain ⟨v, rfl, he⟩ := he.parts
  have He := Lib.hid he
  clear he
  go_wp2_with fail
  go_ret2
  exact He.out
 by_cases h6 : tag = 6
 ·subst h6
  have Htk : Hid (toldK 6 us = toldSame us) := Lib.hid rfl
  by_cases h0 : n = 0
  ·subst h0
   obtain rfl := List.eq_nil_of_length_eq_zero hul
   clear hs
   go_enter Tryz.func36, Tryz.ntmps36
   go_wp2_with fail
   go_ret2
   exact EncB.of_some Htk.out (Own.nil _ _ _) (Mod.refl _ _)
  ·have hn0 : ((n : Int) == 0) = false := by simp; omega
   obtain ⟨ad, x, rfl, hx, hcx⟩ := hs.at2 (show 0 < n by omega) (Nat.le_refl _) (Mod.refl (fun _ => False) w) (fun _ _ h => h)
   have hx64 : Lt64 x := by have := hu x (List.mem_of_getElem? hx); unfold Lt64; omega
   have hnp : (0 : Int) < (n : Int) := by omega
   have Hs := Lib.hid hs; have Hul := Lib.hid hul; have Hx := Lib.hid hx; have Hx64 := Lib.hid hx64
   clear hs hu hul hx hx64 hcx h0
   go_enter Tryz.func36, Tryz.ntmps36
   go_wp2_with fail
   go_loopg [12] n (fun l s12 wr => ∃ i : Nat, i + l = n ∧ s12 = .int .i64 (i : Int) ∧ Mod (fun _ => False) w wr ∧ ∀ j y : Nat, j < i → us[j]? = some y → y = x)
   case atStart => exact ⟨0, by omega, rfl, Mod.refl _ _, fun j y h => by omega⟩
   case round =>
    obtain ⟨i, hil, rfl, hm, hall⟩ := hrel
    have Hil := Lib.hid hil; have Hall := Lib.hid hall; have Hm := Lib.hid hm
    obtain ⟨ad0, x0, hA0, hx0, hc0⟩ := Hs.out.at2 (show 0 < n by omega) (Nat.le_refl _) hm (fun _ _ h => h)
    injection hA0 with hA0
    subst hA0
    obtain rfl : x0 = x := by have := Hx.out; rw [hx0] at this; injection this
    have hcx0 : wr.cell? ad = some (.int .u64 (x0 : Int)) := by rw [← add_zero' ad]; exact hc0
    clear hil hall hx0 hc0
    by_cases hin : i < n
    ·obtain ⟨ad', y, hA, hy, hcy⟩ := Hs.out.at2 hin (Nat.le_refl _) hm (fun _ _ h => h)
     injection hA with hA
     subst hA
     have hini : (i : Int) < (n : Int) := by omega
     have Hy := Lib.hid hy
     clear hy hm
     by_cases hyx : y = x0
     ·subst hyx
      go_upto_region 29 with fail
      go_quiet (fail)
      go_wp2_with fail
      go_roundg (gk - 1)
      case measure => have := Hil.out; omega
      case rel => exact ⟨i + 1, by have := Hil.out; omega, by go_num, Hm.out.drewN _, fun j z hj hz => by
       rcases Nat.lt_or_ge j i with h | h
       ·exact Hall.out j z h hz
       ·obtain rfl : j = i := by omega
        rw [Hy.out] at hz
        injection hz with hz
        exact hz.symm⟩
     ·have hyb : ((y : Int) == (x0 : Int)) = false := by simp; omega
      have hyb2 : ((y : Int) != (x0 : Int)) = true := by simp; omega
      have Hno : Hid (toldK 6 us = none) := Lib.hid (by rw [Htk.out]; exact toldSame_none Hx.out Hy.out hyx)
      clear hyx
      go_upto_region 29 with fail
      go_quiet (fail)
      go_wp2_with fail
      go_ret2
      exact EncB.of_none Hno.out (Hm.out.drewN _)
    ·have hi : i = n := by have := Hil.out; omega
     have Hyes : Hid (toldK 6 us = some (enc x0)) := Lib.hid (by rw [Htk.out]; exact toldSame_some Hx.out (fun j y hy => Hall.out j y (by have := (List.getElem?_eq_some_iff.1 hy).1; have := Hul.out; omega) hy))
     clear hi hm
     go_wp2_with fail
     refine (vrput_any none 0 0 0 [] x0 wr (Rds.nil _ _ _) (by omega) Hx64.out).mono ?_
     rintro e w4 ⟨v4, rfl, ho4, hb4⟩
     rw [List.nil_append] at ho4
     have Ho4 := Lib.hid (ho4.mono Hm.out.size); have Hm4 := Lib.hid (Hm.out.trans (mod_below hb4) (fun _ _ h => h))
     clear ho4 hb4
     go_wp2_with fail
     go_ret2
     exact EncB.of_some Hyes.out Ho4.out Hm4.out
 have b1 : (tag == 1) = false := by simp [h1]
 have b2 : (tag == 2) = false := by simp [h2]
 have b3 : (tag == 3) = false := by simp [h3]
 have b4 : (tag == 4) = false := by simp [h4]
 have b5 : (tag == 5) = false := by simp [h5]
 have b6 : (tag == 6) = false := by simp [h6]
 have Hno : Hid (toldK tag us = none) := Lib.hid (toldK_other h1 h2 h3 h4 h5 h6)
 clear hs hu h1 h2 h3 h4 h5 h6
 go_enter Tryz.func36, Tryz.ntmps36
 go_wp2_with fail
 go_ret2
 rw [Hno.out]
 exact ⟨rfl, Mod.refl _ _⟩
end Go.Proofs.YtjmjlflmcpkmnaaGreatDoor

/- The codec that takes the fewest bytes: Best. -/
namespace Go.Proofs.YtjmjlflmcpkmnaaGreatDoor
open Go.RowKit

/-- The best of the first i. -/
def BestTo (w wr : World) (l : List (Int × Nat)) (i : Nat) (bt : Int) (v : Value) : Prop :=
 bt = (bestTo l i).1 ∧ Own w.heap.size wr 5 v (cells8 (bestTo l i).2) ∧ Mod (fun _ => False) w wr
theorem BestTo.stay {w wr w2 : World} {l : List (Int × Nat)} {i : Nat} {bt : Int} {v : Value} (h : BestTo w wr l i bt v) (hm : Mod (fun _ => False) wr w2) (hs : bestTo l (i + 1) = bestTo l i) : BestTo w w2 l (i + 1) bt v := by
 obtain ⟨h1, h2, h3⟩ := h
 refine ⟨by rw [hs]; exact h1, by rw [hs]; exact h2.mod hm, h3.trans hm (fun _ _ h => h)⟩
end Go.Proofs.YtjmjlflmcpkmnaaGreatDoor

/- The document's own times: within, kind, Times. -/
namespace Go.Proofs.YtjmjlflmcpkmnaaGreatDoor
open Go.RowKit

def InN (d : Int) (n : Nat) : Bool := decide (-((2 ^ (n - 1) : Nat) : Int) ≤ d ∧ d < ((2 ^ (n - 1) : Nat) : Int))
theorem within_any (d : Int) (n : Nat) (N : Int) (w : World) (hN : N = (n : Int)) (hn : n = 7 ∨ n = 9 ∨ n = 12) :
  Calls Tryz.prog 100 #[.int .i64 d, .int .i64 N] w fun e w' => e = .returned (.bool (InN d n)) ∧ w = w' := by
 subst hN
 rcases hn with rfl | rfl | rfl
 ·by_cases h1 : -64 ≤ d
  ·by_cases h2 : d < 64
   ·have e : InN d 7 = true := by unfold InN; simp; omega
    rw [e]
    clear e
    go_enter Tryz.func100, Tryz.ntmps100
    go_wp2
    go_ret
    exact ⟨rfl, rfl⟩
   ·have e : InN d 7 = false := by unfold InN; simp; omega
    rw [e]
    clear e
    go_enter Tryz.func100, Tryz.ntmps100
    go_wp2
    go_ret
    exact ⟨rfl, rfl⟩
  ·have e : InN d 7 = false := by unfold InN; simp; omega
   rw [e]
   clear e
   go_enter Tryz.func100, Tryz.ntmps100
   go_wp2
   go_ret
   exact ⟨rfl, rfl⟩
 ·by_cases h1 : -256 ≤ d
  ·by_cases h2 : d < 256
   ·have e : InN d 9 = true := by unfold InN; simp; omega
    rw [e]
    clear e
    go_enter Tryz.func100, Tryz.ntmps100
    go_wp2
    go_ret
    exact ⟨rfl, rfl⟩
   ·have e : InN d 9 = false := by unfold InN; simp; omega
    rw [e]
    clear e
    go_enter Tryz.func100, Tryz.ntmps100
    go_wp2
    go_ret
    exact ⟨rfl, rfl⟩
  ·have e : InN d 9 = false := by unfold InN; simp; omega
   rw [e]
   clear e
   go_enter Tryz.func100, Tryz.ntmps100
   go_wp2
   go_ret
   exact ⟨rfl, rfl⟩
 ·by_cases h1 : -2048 ≤ d
  ·by_cases h2 : d < 2048
   ·have e : InN d 12 = true := by unfold InN; simp; omega
    rw [e]
    clear e
    go_enter Tryz.func100, Tryz.ntmps100
    go_wp2
    go_ret
    exact ⟨rfl, rfl⟩
   ·have e : InN d 12 = false := by unfold InN; simp; omega
    rw [e]
    clear e
    go_enter Tryz.func100, Tryz.ntmps100
    go_wp2
    go_ret
    exact ⟨rfl, rfl⟩
  ·have e : InN d 12 = false := by unfold InN; simp; omega
   rw [e]
   clear e
   go_enter Tryz.func100, Tryz.ntmps100
   go_wp2
   go_ret
   exact ⟨rfl, rfl⟩
theorem within_at (d : Int) (n : Nat) (N : Int) (b : Bool) (w : World) (hN : N = (n : Int)) (hn : n = 7 ∨ n = 9 ∨ n = 12) (hb : InN d n = b) :
  Calls Tryz.prog 100 #[.int .i64 d, .int .i64 N] w fun e w' => e = .returned (.bool b) ∧ w = w' := by
 subst hb
 exact within_any d n N w hN hn
theorem kind_any (d : Int) (w : World) :
  Calls Tryz.prog 67 #[.int .i64 d] w fun e w' => e = .returned (.tuple #[.int .i64 (kindN d : Nat), .int .u64 (headN d : Nat), .int .i64 (longN d : Nat)]) ∧ w = w' := by
 by_cases h0 : d = 0
 ·subst h0
  go_enter Tryz.func67, Tryz.ntmps67
  go_wp2
  exact bodyPost_ret (v := .tuple #[.int .i64 0, .int .u64 0, .int .i64 1]) (by simp [results, Tryz.results67, go_sem]) rfl ⟨rfl, rfl⟩
 ·have hb0 : (d == 0) = false := by simpa using h0
  by_cases h1 : -64 ≤ d ∧ d < 64
  ·have e : InN d 7 = true := by unfold InN; simp; omega
   have ek : kindN d = 7 ∧ headN d = 2 ∧ longN d = 2 := by unfold kindN headN longN; rw [if_neg h0, if_pos h1, if_neg h0, if_pos h1, if_neg h0, if_pos h1]; exact ⟨rfl, rfl, rfl⟩
   have E := Lib.hid e; have Ek := Lib.hid ek
   clear e ek h1
   go_enter Tryz.func67, Tryz.ntmps67
   go_wp2_with fail
   refine (within_at d 7 7 true _ rfl (by omega) E.out).mono ?_
   rintro e w' ⟨rfl, rfl⟩
   go_wp2_with fail
   exact bodyPost_ret (v := .tuple #[.int .i64 7, .int .u64 2, .int .i64 2]) (by simp [results, Tryz.results67, go_sem]) rfl ⟨by rw [Ek.out.1, Ek.out.2.1, Ek.out.2.2]; rfl, rfl⟩
  ·by_cases h2 : -256 ≤ d ∧ d < 256
   ·have e : InN d 7 = false := by unfold InN; simp; omega
    have e2 : InN d 9 = true := by unfold InN; simp; omega
    have ek : kindN d = 9 ∧ headN d = 6 ∧ longN d = 3 := by unfold kindN headN longN; rw [if_neg h0, if_neg h1, if_pos h2, if_neg h0, if_neg h1, if_pos h2, if_neg h0, if_neg h1, if_pos h2]; exact ⟨rfl, rfl, rfl⟩
    have E := Lib.hid e; have E2 := Lib.hid e2; have Ek := Lib.hid ek
    clear e e2 ek h1 h2
    go_enter Tryz.func67, Tryz.ntmps67
    go_wp2_with fail
    refine (within_at d 7 7 false _ rfl (by omega) E.out).mono ?_
    rintro e w' ⟨rfl, rfl⟩
    go_wp2_with fail
    refine (within_at d 9 9 true _ rfl (by omega) E2.out).mono ?_
    rintro e w' ⟨rfl, rfl⟩
    go_wp2_with fail
    exact bodyPost_ret (v := .tuple #[.int .i64 9, .int .u64 6, .int .i64 3]) (by simp [results, Tryz.results67, go_sem]) rfl ⟨by rw [Ek.out.1, Ek.out.2.1, Ek.out.2.2]; rfl, rfl⟩
   ·have e : InN d 7 = false := by unfold InN; simp; omega
    have e2 : InN d 9 = false := by unfold InN; simp; omega
    have E := Lib.hid e; have E2 := Lib.hid e2
    by_cases h3 : -2048 ≤ d ∧ d < 2048
    ·have e3 : InN d 12 = true := by unfold InN; simp; omega
     have ek : kindN d = 12 ∧ headN d = 14 ∧ longN d = 4 := by unfold kindN headN longN; rw [if_neg h0, if_neg h1, if_neg h2, if_pos h3, if_neg h0, if_neg h1, if_neg h2, if_pos h3, if_neg h0, if_neg h1, if_neg h2]; exact ⟨rfl, rfl, rfl⟩
     have E3 := Lib.hid e3; have Ek := Lib.hid ek
     clear e e2 e3 ek h1 h2 h3
     go_enter Tryz.func67, Tryz.ntmps67
     go_wp2_with fail
     refine (within_at d 7 7 false _ rfl (by omega) E.out).mono ?_
     rintro e w' ⟨rfl, rfl⟩
     go_wp2_with fail
     refine (within_at d 9 9 false _ rfl (by omega) E2.out).mono ?_
     rintro e w' ⟨rfl, rfl⟩
     go_wp2_with fail
     refine (within_at d 12 12 true _ rfl (by omega) E3.out).mono ?_
     rintro e w' ⟨rfl, rfl⟩
     go_wp2_with fail
     exact bodyPost_ret (v := .tuple #[.int .i64 12, .int .u64 14, .int .i64 4]) (by simp [results, Tryz.results67, go_sem]) rfl ⟨by rw [Ek.out.1, Ek.out.2.1, Ek.out.2.2]; rfl, rfl⟩
    ·have e3 : InN d 12 = false := by unfold InN; simp; omega
     have ek : kindN d = 64 ∧ headN d = 15 ∧ longN d = 4 := by unfold kindN headN longN; rw [if_neg h0, if_neg h1, if_neg h2, if_neg h3, if_neg h0, if_neg h1, if_neg h2, if_neg h3, if_neg h0, if_neg h1, if_neg h2]; exact ⟨rfl, rfl, rfl⟩
     have E3 := Lib.hid e3; have Ek := Lib.hid ek
     clear e e2 e3 ek h1 h2 h3
     go_enter Tryz.func67, Tryz.ntmps67
     go_wp2_with fail
     refine (within_at d 7 7 false _ rfl (by omega) E.out).mono ?_
     rintro e w' ⟨rfl, rfl⟩
     go_wp2_with fail
     refine (within_at d 9 9 false _ rfl (by omega) E2.out).mono ?_
     rintro e w' ⟨rfl, rfl⟩
     go_wp2_with fail
     refine (within_at d 12 12 false _ rfl (by omega) E3.out).mono ?_
     rintro e w' ⟨rfl, rfl⟩
     go_wp2_with fail
     exact bodyPost_ret (v := .tuple #[.int .i64 64, .int .u64 15, .int .i64 4]) (by simp [results, Tryz.results67, go_sem]) rfl ⟨by rw [Ek.out.1, Ek.out.2.1, Ek.out.2.2]; rfl, rfl⟩
end Go.Proofs.YtjmjlflmcpkmnaaGreatDoor

/- The document's own times are told: Times. -/
namespace Go.Proofs.YtjmjlflmcpkmnaaGreatDoor
open Go.RowKit

def REnc1 (w wr : World) (g : Nat) (row : Option Nat) (N len : Nat) (zs : List Int) (i : Nat) (last : Nat) : Prop :=
 ∃ fs, RWrote w wr g row N len fs ∧ (i = 0 → fs = [] ∧ last = 0) ∧ (0 < i → ∃ prev, zs[i - 1]? = some prev ∧ fs ++ encT prev last (zs.drop i) = encRow zs)
theorem kind_le (d : Int) : kindN d ≤ 64 ∧ longN d ≤ 64 ∧ Lt64 (headN d) := by
 refine ⟨by rw [kind_hd]; exact sz_le _, ?_, ?_⟩
 ·unfold longN; split; omega; split; omega; split; omega; omega
 ·unfold headN Lt64; split; omega; split; omega; split; omega; split; omega; omega
theorem tstepU (x prev : Int) : IntKind.u64.wrap ((un x : Int) - (un prev : Int)) = (stepOf prev x : Int) := by
 rw [wrapU_un]
 unfold stepOf
 congr 1
 obtain ⟨a, ha⟩ := un_ex x
 obtain ⟨b, hb⟩ := un_ex prev
 exact un_of (k := a - b) (by rw [ha, hb, Int.sub_mul]; omega)
set_option maxHeartbeats 1000000 in
set_option maxRecDepth 100000 in
theorem rtimes_any (B g : Nat) (row : Option Nat) (N len n c : Nat) (A : Option Addr) (zs : List Int) (w : World) (hs : SeesI .i64 w B A n zs) (hz : ∀ x ∈ zs, Fits x) (hB : B ≤ w.heap.size) (hap : 0 < n → ∀ ad, A = some ad → ¬ (ad.block = g ∨ row = some ad.block))
  (hw : RWr w g row N len) (hlen : len + (64 + 68 * n) ≤ 900000000) :
  Calls Tryz.prog 39 #[.pointer (some ⟨g, 0, none⟩), .slice A n c] w fun e w' => e = .returned (.tuple #[]) ∧ RWrote w w' g row N len (encRow zs) := by
 have hzl := hs.1
 have Hs := Lib.hid hs; have Hz := Lib.hid hz; have HS := Lib.hid hap
 have H0 : Hid (REnc1 w w g row N len zs 0 0) := Lib.hid ⟨[], RWrote.refl hw, fun _ => ⟨rfl, rfl⟩, fun h => by omega⟩
 have Hzl := Lib.hid hzl
 have Htot : Hid (len + flen (encRow zs) ≤ 900000000) := Lib.hid (by have := encRow_len zs; rw [hzl] at this; omega)
 clear hs hz hw hap hzl
 go_enter Tryz.func39, Tryz.ntmps39
 go_wp2_with fail
 go_loopg [4, 5] n (fun l s4 s5 wr => ∃ (i last : Nat), i + l = n ∧ s5 = .int .i64 (i : Int) ∧ s4 = .int .u64 (last : Int) ∧ REnc1 w wr g row N len zs i last)
 case atStart => exact ⟨0, 0, by omega, rfl, rfl, H0.out⟩
 case round =>
  obtain ⟨i, last, hil, rfl, rfl, hE⟩ := hrel
  have HE := Lib.hid hE; have Hil := Lib.hid hil
  clear hE hil H0
  by_cases hin : i < n
  ·obtain ⟨fs, hwr, he0, he1⟩ := HE.out
   obtain ⟨ad, x, rfl, hx, hcx⟩ := Hs.out.at2 hin hB (by obtain ⟨_, _, a2, _⟩ := hwr; exact a2) (HS.out (by omega))
   have Hx := Lib.hid hx
   have hxf := Lib.hid (Hz.out x (List.mem_of_getElem? hx))
   have Hdr := Lib.hid (drop_at hx)
   have hxu : IntKind.u64.wrap x = (un x : Int) := wrapU_un x
   have hul : Hid (Lt64 (un x)) := Lib.hid (un_lt x)
   clear hx
   by_cases hi0 : i = 0
   ·obtain ⟨rfl, rfl⟩ := he0 hi0
    subst hi0
    have Hwr := Lib.hid hwr
    have hcx0 : wr.cell? ad = some (.int .i64 x) := by rw [← add_zero' ad]; exact hcx
    clear hwr he0 he1 HE
    go_wp2_with fail
    refine (rput_wrote w g row N len 64 [] (un x) _ _ _ rfl rfl (by omega) hul.out Hwr.out (by show len + 0 ≤ _; omega)).mono ?_
    rintro e w1 ⟨rfl, h1⟩
    have hd0 := Hdr.out
    rw [List.drop_zero] at hd0
    have H1 : Hid (REnc1 w w1 g row N len zs 1 0) := Lib.hid ⟨[(un x, 64)], h1, fun h => by omega, fun _ => ⟨x, Hx.out, by rw [hd0]; rfl⟩⟩
    clear h1 hd0 Hwr
    go_wp2_with fail
    go_roundg (gk - 1)
    case measure => have := Hil.out; omega
    case rel => exact ⟨1, 0, by have := Hil.out; omega, rfl, rfl, H1.out⟩
   ·have hb0 : ((i : Int) == 0) = false := by simp; omega
    obtain ⟨prev, hpv, hE1⟩ := he1 (by omega)
    obtain ⟨ad', x', e', hx', hcp⟩ := Hs.out.at2 (show i - 1 < n by omega) hB (by obtain ⟨_, _, a2, _⟩ := hwr; exact a2) (HS.out (by omega))
    injection e' with e'
    subst e'
    rw [hpv] at hx'
    injection hx' with hx'
    subst hx'
    have hpu : IntKind.u64.wrap prev = (un prev : Int) := wrapU_un prev
    obtain ⟨st, hst⟩ : ∃ st, st = stepOf prev x := ⟨_, rfl⟩
    have h1 : IntKind.u64.wrap ((un x : Int) - (un prev : Int)) = (st : Int) := by rw [hst]; exact tstepU x prev
    obtain ⟨dd, hdd⟩ : ∃ dd : Nat, dd = un ((st : Int) - (last : Int)) := ⟨_, rfl⟩
    have h2 : IntKind.u64.wrap ((st : Int) - (last : Int)) = (dd : Int) := by rw [hdd]; exact wrapU_un _
    obtain ⟨d, hd⟩ : ∃ d, d = diffOf prev last x := ⟨_, rfl⟩
    have h3 : wrap64 (dd : Int) = d := by
     rw [wrap_sg, hdd, un_nat (un_lt _), hd]
     unfold diffOf
     rw [hst]
    have hdu : IntKind.u64.wrap d = (un d : Int) := wrapU_un d
    have hi1 : IntKind.i64.wrap ((i : Int) - 1) = (i : Int) - 1 := IntWalk.i64_in _ (by omega)
    have hi2 : ((i : Int) - 1).toNat = i - 1 := by omega
    have hi3 : (0 : Int) ≤ (i : Int) - 1 := by omega
    have hi4 : (i : Int) - 1 < (n : Int) := by omega
    have hi5 : (i : Int) < (n : Int) := by omega
    have hi6 : (0 : Int) ≤ (i : Int) := by omega
    have Hwr := Lib.hid hwr; have HE1 := Lib.hid hE1; have Hd := Lib.hid hd; have Hst := Lib.hid hst
    have hl : Hid (len + flen fs ≤ 900000000) := Lib.hid (by have := Htot.out; rw [← HE1.out] at this; have := flen_le_app fs (encT prev last (zs.drop i)); omega)
    have hlt2 : Hid (len + flen (fs ++ [(headN d, longN d)]) ≤ 1000000000) := Lib.hid (by have := hl.out; have := (kind_le d).2.1; rw [flen_app]; show len + (flen fs + (longN d + 0)) ≤ _; omega)
    clear hwr he0 he1 HE hE1 hd hst hdd hpv hl
    go_upto_region 6 with fail
    go_quiet (fail)
    have Hwr2 := Lib.hid (Hwr.out.drewN nq)
    clear Hwr hcx hcp hi1 hi2 hi3 hi4 hi5 hi6 hpu hxu h1
    generalize wr.drewN nq = w2 at *
    go_wp2_with fail
    refine (kind_any d _).mono ?_
    rintro e w3 ⟨rfl, rfl⟩
    go_wp2_with fail
    refine (rput_wrote w g row N len (longN d) fs (headN d) _ _ _ rfl rfl (kind_le d).2.1 (kind_le d).2.2 Hwr2.out (by have := hlt2.out; rw [flen_app] at this; omega)).mono ?_
    rintro e w4 ⟨rfl, hw4⟩
    have Hw4 := Lib.hid hw4
    have hdul : Hid (Lt64 (un d)) := Lib.hid (un_lt d)
    clear hw4 Hwr2
    go_wp2_with fail
    refine (rput_wrote w g row N len (kindN d) _ (un d) _ _ _ rfl rfl (kind_le d).1 hdul.out Hw4.out hlt2.out).mono ?_
    rintro e w5 ⟨rfl, hw5⟩
    have H5 : Hid (REnc1 w w5 g row N len zs (i + 1) st) := Lib.hid ⟨_, hw5, fun h => by omega, fun _ => ⟨x, Hx.out, by
     rw [← HE1.out, Hdr.out, List.append_assoc, List.append_assoc, Hst.out, Hd.out]
     rfl⟩⟩
    clear hw5 Hw4
    go_wp2_with fail
    go_roundg (gk - 1)
    case measure => have := Hil.out; omega
    case rel => exact ⟨i + 1, st, by have := Hil.out; omega, by go_num, rfl, H5.out⟩
  ·go_wp2_with fail
   go_end0
   refine ⟨rfl, ?_⟩
   obtain ⟨fs, hwr, he0, he1⟩ := HE.out
   have hil := Hil.out
   have hzl := Hzl.out
   rcases Nat.eq_zero_or_pos i with h0 | h0
   ·obtain ⟨rfl, _⟩ := he0 h0
    have : zs = [] := List.eq_nil_of_length_eq_zero (by omega)
    subst this
    exact hwr
   ·obtain ⟨prev, _, this⟩ := he1 h0
    rw [List.drop_of_length_le (by omega)] at this
    have e : fs = encRow zs := by rw [← this]; show fs = fs ++ []; simp
    rw [← e]
    exact hwr
end Go.Proofs.YtjmjlflmcpkmnaaGreatDoor

/- A row of samples told in a codec, as the document has it: Encode; and the codec that takes the fewest bytes: Best. -/
namespace Go.Proofs.YtjmjlflmcpkmnaaGreatDoor
open Go.RowKit

/-- The first i times; the writer stands as it stood. -/
def RTimTo (W wr : World) (l : List (Int × Nat)) (i : Nat) (v : Value) : Prop := Own W.heap.size wr 2 v (cellsI (tsOf (l.take i))) ∧ Below W.heap.size W wr
set_option maxHeartbeats 2000000 in
set_option maxRecDepth 100000 in
theorem rkenc_any (tag : Int) (A : Option Addr) (n c : Nat) (l : List (Int × Nat)) (w : World) (hs : RdsS w w.heap.size A n l) (hg : GoodS l) (hn : n ≤ 1000000) :
  Calls Tryz.prog 19 #[.int .i64 tag, .slice A n c] w fun e w' => EncB w w' (encK tag l) e := by
 have Hs := Lib.hid hs; have Hg := Lib.hid hg; have Hl := Lib.hid hs.1
 have hcs : Tryz.prog.cellsOf 43 = 2 := by kernel_rfl
 clear hs hg
 go_enter Tryz.func19, Tryz.ntmps19
 go_wp2_with fail
 refine (rvals_any A n c l w Hs.out hn).mono ?_
 rintro e w1 ⟨v1, rfl, ho1, hm1⟩
 obtain ⟨A1, L1, c1, rfl, HL1, hc1, hr1⟩ := own_formUN ho1
 have hL1 : L1 = n := by have := HL1.out; rw [vsOf_len, Hl.out] at this; exact this.symm
 subst hL1
 have Hr1 := Lib.hid hr1; have Hm1 := Lib.hid hm1; have Hs1 := Lib.hid (Hs.out.new hm1).fit; have Hc1 := Lib.hid hc1
 clear ho1 hm1 hr1 hc1 Hs
 go_wp2_with fail
 refine (rtold_any tag A1 L1 c1 (vsOf l) w1 Hr1.out Hg.out.vs hn Hc1.out).mono ?_
 intro e w2 he
 have he' : EncB w1 w2 (toldK tag (vsOf l)) e := he
 clear he
 cases ho : toldK tag (vsOf l) with
 | none =>
  obtain ⟨rfl, hm2⟩ := EncB.none_ he' ho
  have Hno : Hid (encK tag l = none) := Lib.hid (by unfold encK; rw [ho]; cases riseB l <;> rfl)
  have Hm2 := Lib.hid (Hm1.out.trans hm2 (fun _ _ h => h))
  clear he' ho hm2
  go_wp2_with fail
  go_ret2
  exact EncB.of_none Hno.out Hm2.out
 | some vb =>
  obtain ⟨v2, rfl, ho2, hm2⟩ := EncB.some_ he' ho
  obtain ⟨A2, L2, c2, rfl, HL2, _, _, hr2⟩ := own_formN8 ho2
  have Hr2 := Lib.hid hr2; have Hm2 := Lib.hid (Hm1.out.trans hm2 (fun _ _ h => h)); have Hs2 := Lib.hid (Hs1.out.new hm2).fit; have Ho := Lib.hid ho
  clear he' ho ho2 hm2 hr2 Hs1 Hr1 Hm1
  go_wp2_with fail
  refine (rrising_any A L1 c l w2 Hs2.out hn).mono ?_
  rintro e w3 ⟨rfl, hm3⟩
  have Hr3 := Lib.hid (Hr2.out.new hm3).fit; have Hm3 := Lib.hid (Hm2.out.trans hm3 (fun _ _ h => h)); have Hs3 := Lib.hid (Hs2.out.new hm3).fit
  clear hm3 Hr2 Hm2 Hs2
  cases hri : riseB l with
  | false =>
   have Hno : Hid (encK tag l = none) := Lib.hid (encK_no hri)
   clear hri
   go_wp2_with fail
   go_ret2
   exact EncB.of_none Hno.out Hm3.out
  | true =>
   have hn65 : L1 ≤ 65535 := by rw [← Hl.out]; exact ((riseB_iff l).1 hri).2
   have Hyes : Hid (encK tag l = some (enc (tbK l).length ++ (tbK l ++ vb))) := Lib.hid (encK_of hri Ho.out)
   have hvl := toldK_len Hg.out.vs (by rw [vsOf_len, Hl.out]; exact hn65) Ho.out
   rw [vsOf_len, Hl.out] at hvl
   have hL2 : L2 ≤ 2000000 := by have := HL2.out; omega
   have HL2b := Lib.hid hL2
   obtain ⟨W, hW⟩ : ∃ W, W = w3.alloc (.cells #[.slice none 0 0] 72) := ⟨_, rfl⟩
   have hmW : Mod (fun _ => False) w3 W := by rw [hW]; exact (Mod.refl _ _).alloc _
   have hrw : RWr W w3.heap.size none 0 0 := by rw [hW]; exact RWr.new w3
   obtain ⟨g, hg⟩ : ∃ g, g = w3.heap.size := ⟨_, rfl⟩
   have hgW : g < W.heap.size := by rw [hW, hg]; simp
   have HsW := Lib.hid (Hs3.out.new hmW).fit; have HmW := Lib.hid (Hm3.out.trans hmW (fun _ _ h => h))
   have T0 : Hid (RTimTo W W l 0 (.slice none 0 0)) := Lib.hid ⟨Own.nil _ _ _, Below.refl _ _⟩
   rw [← hg] at hrw
   have HrW : Hid (Rds W g A2 L2 (cells8 vb)) := Lib.hid (by rw [hg]; exact Hr3.out.mod hmW (Nat.le_refl _) (fun _ _ h => h))
   have Hrw := Lib.hid hrw; have HW := Lib.hid hW; have Hg3 := Lib.hid hg; have HgW := Lib.hid hgW
   clear hri hvl hL2 hW hmW hrw hg hgW Hs3 Hr3
   go_wp2_with fail
   rw [← HW.out, ← Hg3.out]
   clear HW
   go_loopg [9, 10] L1 (fun k s9 s10 wr => ∃ i : Nat, i + k = L1 ∧ s10 = .int .i64 (i : Int) ∧ RTimTo W wr l i s9)
   case atStart => exact ⟨0, by omega, rfl, T0.out⟩
   case round =>
    obtain ⟨i, hik, rfl, hT⟩ := hrel
    have Hik := Lib.hid hik; have HT := Lib.hid hT
    clear hik hT T0
    by_cases hin : i < L1
    ·obtain ⟨ad, ⟨T, V⟩, rfl, _, hp, hc0, _⟩ := HsW.out.at2 hin (Nat.le_refl _) (Mod.of_below HT.out.2) (fun ad hA => by
      obtain ⟨ad', hA', hb⟩ := HsW.out.some_ (show 0 < L1 by omega)
      rw [hA] at hA'
      injection hA' with hA'
      subst hA'
      omega)
     have hini : (i : Int) < (L1 : Int) := by omega
     have Hp := Lib.hid hp
     have hlen : (cellsI (tsOf (l.take i))).length ≤ 1000000 := by rw [cellsI_length, tsOf_len, List.length_take]; omega
     have HR : Hid ((cellsI (tsOf (l.take i))).length + 1 ≤ maxLen ∧ ((cellsI (tsOf (l.take i))).length + 1) * 8 ≤ 140737488355328) := Lib.hid ⟨by unfold maxLen; omega, by omega⟩
     have hsz := HT.out.2.size
     clear hp hlen
     go_wp2_with (at_builtin; refine wpList_app1 rfl (.tmp 34) (.tmp 40) _ rfl elt64 rfl HT.out.1 rfl rfl rfl HR.out.1 HR.out.2 hsz ?_; intro v4 w4 HO4 HB4)
     have HT2 : Hid (RTimTo W w4 l (i + 1) v4) := Lib.hid ⟨by rw [ts_take Hp.out, cellsI_snoc]; exact HO4.out, HT.out.2.trans HB4.out⟩
     go_roundg (gk - 1)
     case measure => have := Hik.out; omega
     case rel => exact ⟨i + 1, by have := Hik.out; omega, by go_num, HT2.out⟩
    ·have hi : i = L1 := by have := Hik.out; omega
     obtain ⟨k1, k2⟩ := HT.out
     rw [List.take_of_length_le (by rw [Hl.out]; omega)] at k1
     obtain ⟨A4, c4, rfl, hr4⟩ := own_form k1
     have hl4 : (tsOf l).length = L1 := by rw [tsOf_len]; exact Hl.out
     rw [hl4] at hr4
     have hin4 : 0 < L1 → ∀ ad, A4 = some ad → W.heap.size ≤ ad.block := fun h0 ad hA => by
      have hb := k1.block ad.block (by rw [hA]; rfl)
      exact hb.1
     have Hap : Hid (0 < L1 → ∀ ad, A4 = some ad → ¬ (ad.block = g ∨ none = some ad.block)) := Lib.hid (fun h0 ad hA h => by
      have := hin4 h0 ad hA
      rcases h with h | h
      ·have := HgW.out; omega
      ·cases h)
     have Hrw4 := Lib.hid (Hrw.out.mod (Mod.of_below k2) (by have := HgW.out; omega) (fun k hk => by cases hk))
     have HrW4 : Hid (Rds wr g A2 L2 (cells8 vb)) := Lib.hid (HrW.out.mod (Mod.of_below k2) (Nat.le_of_lt HgW.out) (fun j hj h => by have := HgW.out; omega))
     have Hr4 := Lib.hid hr4.seesI; have Hm4 := Lib.hid (HmW.out.trans (Mod.of_below k2) (fun i hi h => by have := HmW.out.size; omega))
     have Hwr4 : Hid (W.heap.size ≤ wr.heap.size) := Lib.hid k2.size
     have Hgw : Hid (w.heap.size ≤ g) := Lib.hid (by rw [Hg3.out]; exact Hm3.out.size)
     rw [hl4]
     clear hi k1 k2 hl4 hr4 hin4 Hrw HrW HmW HT
     obtain ⟨wo, rfl⟩ : ∃ wo : World, wo = wr := ⟨_, rfl⟩
     go_wp2_with fail
     refine (rtimes_any wo.heap.size g none 0 0 L1 c4 A4 (tsOf l) wo Hr4.out Hg.out.ts (Nat.le_refl _) Hap.out Hrw4.out (by omega)).mono ?_
     rintro e w5 ⟨rfl, h5⟩
     have h5' := h5
     obtain ⟨row, a1, a2, _⟩ := h5'
     rw [Nat.zero_mul, Nat.zero_add, Nat.zero_add] at a1
     have hfl := encRow_len (tsOf l)
     rw [tsOf_len, Hl.out] at hfl
     have Hwr5 := Lib.hid a1; have Hm5 := Lib.hid (Hm4.out.trans a2 (fun i hi h => h.elim (fun e => by have := Hgw.out; omega) (fun e => by cases e))); have Hfl := Lib.hid hfl
     have HrW5 : Hid (Rds w5 w5.heap.size A2 L2 (cells8 vb)) := Lib.hid ((HrW4.out.mod a2 (by have := Hwr4.out; have := HgW.out; omega) (fun j hj h => by
      rcases h with h | h
      ·omega
      ·cases h)).fit)
     clear h5 a1 a2 hfl HrW4 Hr4 Hrw4 Hm4
     go_wp2_with fail
     refine (rbytes_any g row _ _ w5 Hwr5.out (by have := Hfl.out; omega)).mono ?_
     rintro e w6 ⟨v6, bs, rfl, hnew, hpk⟩
     obtain rfl := hpk.packF
     obtain ⟨A6, c6, rfl, hr6, hm6⟩ := hnew.rds
     have htl := tbK_len l
     rw [Hl.out] at htl
     obtain ⟨tb, htb⟩ : ∃ tb, tb = packF (encRow (tsOf l)) := ⟨_, rfl⟩
     rw [← htb] at hr6
     rw [← htb]
     have htb' : tb = tbK l := htb
     obtain ⟨Lt, hLt⟩ : ∃ Lt, tb.length = Lt := ⟨_, rfl⟩
     rw [hLt] at hr6
     rw [hLt]
     have hLts : Lt ≤ 700000 := by rw [← hLt, htb']; omega
     have hcv : IntKind.u64.wrap (Lt : Int) = (Lt : Int) := by rw [IntKind.wrap_u64]; omega
     have Hr6 := Lib.hid hr6; have Hm6 := Lib.hid (Hm5.out.trans hm6 (fun _ _ h => h)); have Hb6 := Lib.hid (HrW5.out.new hm6).fit; have Htb := Lib.hid htb'; have HLt := Lib.hid hLt
     clear hnew hpk hr6 hm6 htl htb htb' hLt Hwr5 Hm5 HrW5
     go_wp2_with fail
     refine (vrput_any none 0 0 0 [] Lt w6 (Rds.nil _ _ _) (by omega) (lt64_of (by omega))).mono ?_
     rintro e w7 ⟨v7, rfl, ho7, hb7⟩
     rw [List.nil_append] at ho7
     have hq := enc_len10 (u := Lt) (by omega)
     have HR7 : Hid (Room (cells8 (enc Lt)).length Lt) := Lib.hid (Room.mk _ _ (by rw [cells8_length]; omega))
     have Ho7 := Lib.hid ho7; have Hr7 := Lib.hid (Hr6.out.below hb7); have Hm7 := Lib.hid (Hm6.out.trans (mod_below hb7) (fun _ _ h => h)); have Hb7 := Lib.hid (Hb6.out.below hb7)
     have Hone : Hid (∀ u ∈ cells8 tb, u.oneCell' = true) := Lib.hid (cells8_one _)
     have Hone2 : Hid (∀ u ∈ cells8 vb, u.oneCell' = true) := Lib.hid (cells8_one _)
     have hsz7 : w6.heap.size ≤ w7.heap.size := hb7.size
     have HR8 : Hid (Room (cells8 (enc Lt) ++ cells8 tb).length L2) := Lib.hid (Room.mk _ _ (by rw [List.length_append, cells8_length, cells8_length, HLt.out]; have := HL2b.out; omega))
     have Hwo7 : Hid (w6.heap.size ≤ w7.heap.size) := Lib.hid hsz7
     clear ho7 hb7 hq hcv
     go_wp2_with (first
      | (at_builtin; refine wpList_app rfl (.tmp 50) (.tmp 51) _ rfl elt8 rfl Ho7.out rfl Hr7.out Hone.out HR7.out.1 HR7.out.2 hsz7 ?_; intro v8 w8 HO8 HBl8 HG8; clear HG8; have hsz8 : w6.heap.size ≤ w8.heap.size := Nat.le_trans Hwo7.out HBl8.out.size; have Hb8 := Lib.hid (Hb7.out.mod (Mod.of_below HBl8.out) Hwo7.out (fun j hj h => by omega)))
      | (at_builtin; refine wpList_app rfl (.tmp 52) (.tmp 53) _ rfl elt8 rfl HO8.out rfl Hb8.out Hone2.out HR8.out.1 HR8.out.2 hsz8 ?_; intro v9 w9 HO9 HBl9 HG9; clear HG9))
     go_ret2
     have ho9 := HO9.out
     rw [cells8_app, cells8_app, List.append_assoc, Htb.out] at ho9
     have e : enc (tbK l).length = enc Lt := by rw [← Htb.out, HLt.out]
     refine EncB.of_some Hyes.out ?_ ?_
     ·rw [e]
      exact ho9.mono Hm6.out.size
     ·exact (Hm7.out.trans (Mod.of_below HBl8.out) (fun i hi h => by have := Hm6.out.size; omega)).trans (Mod.of_below HBl9.out) (fun i hi h => by have := Hm6.out.size; omega)
end Go.Proofs.YtjmjlflmcpkmnaaGreatDoor

/- Chunks, of the document: Make. -/
namespace Go.Proofs.YtjmjlflmcpkmnaaGreatDoor
open Go.RowKit

theorem mod_drew_new {w w' : World} (h : Below w.drew.heap.size w.drew w') : Mod (fun _ => False) w w' := (Mod.refl (fun _ => False) w).drew.trans (Mod.of_below h) (fun _ hi k => absurd k (Nat.not_le_of_lt hi))
theorem mod_more_new {w w1 w' : World} (h1 : Mod (fun _ => False) w w1) (h : Below w1.heap.size w1 w') : Mod (fun _ => False) w w' := h1.trans (Mod.of_below h) (fun _ hi k => absurd k (Nat.not_le_of_lt (Nat.lt_of_lt_of_le hi h1.size)))
set_option maxHeartbeats 600000 in
set_option maxRecDepth 100000 in
theorem rmake_any (tag : Int) (A : Option Addr) (n c : Nat) (l : List (Int × Nat)) (w : World) (hs : RdsS w w.heap.size A n l) (hg : GoodS l) (hn : n ≤ 1000000) :
  Calls Tryz.prog 7 #[.int .i64 tag, .slice A n c] w fun e w' => EncB w w' (makeC tag l) e := by
 have Hs := Lib.hid hs; have Hg := Lib.hid hg; have Hl := Lib.hid hs.1
 clear hs hg
 go_enter Tryz.func7, Tryz.ntmps7
 go_wp2_with fail
 refine (rkenc_any tag A n c l w Hs.out Hg.out hn).mono ?_
 intro e w1 he
 have he' : EncB w w1 (encK tag l) e := he
 clear he
 cases ho : encK tag l with
 | none =>
  obtain ⟨rfl, hm1⟩ := EncB.none_ he' ho
  have Hno : Hid (makeC tag l = none) := Lib.hid (makeC_no ho)
  have Hm1 := Lib.hid hm1
  clear he' ho hm1
  go_wp2_with fail
  go_ret2
  exact EncB.of_none Hno.out Hm1.out
 | some b =>
  obtain ⟨v1, rfl, ho1, hm1⟩ := EncB.some_ he' ho
  by_cases h0 : n = 0
  ·subst h0
   have Hno : Hid (makeC tag l = none) := Lib.hid (by unfold makeC; rw [if_pos (List.length_eq_zero_iff.1 Hl.out)])
   have Hm1 := Lib.hid hm1
   clear he' ho hm1 ho1
   go_wp2_with fail
   go_ret2
   exact EncB.of_none Hno.out Hm1.out
  have hb0 : ((n : Int) == 0) = false := by simp; omega
  have hne : l ≠ [] := fun h => h0 (by rw [← Hl.out, h]; rfl)
  have hyes := makeC_of hne ho
  have htag := encK_tag ho
  have hn65 := (rise_ends (encK_some ho).1).2
  rw [Hl.out] at hn65
  have hbl := encK_len Hg.out ho
  rw [Hl.out] at hbl
  have hlt := encK_256 ho
  obtain ⟨A1, L1, c1, rfl, HL1, _, _, hr1⟩ := own_formN8 ho1
  have hL1 : L1 ≤ 2000000 := by have := HL1.out; omega
  obtain ⟨tb, htb⟩ : ∃ tb : Nat, tb = tag.toNat := ⟨_, rfl⟩
  have hw8 : IntKind.u8.wrap tag = (tb : Int) := by rw [tag_byte htag, htb]
  have hw64 : IntKind.u64.wrap (n : Int) = (n : Int) := by rw [IntKind.wrap_u64]; omega
  have Hr1 := Lib.hid hr1; have Hm1 := Lib.hid hm1; have Hs1 := Lib.hid (Hs.out.new hm1).fit
  have Hyes := Lib.hid hyes; have Hlt := Lib.hid hlt; have Htb := Lib.hid htb; have Htag := Lib.hid htag
  clear he' ho ho1 hm1 hne hyes htag hbl hlt hr1 htb Hs
  go_wp2_with fail
  refine (vrput_any _ 1 1 (w1.heap.size + 1) [tb] n (w1.alloc (.cells #[.int .u8 (tb : Int)] 5)) (Rds.lit w1 5 #[.int .u8 (tb : Int)]) (by omega) (by unfold Lt64; omega)).mono ?_
  rintro e w2 ⟨v2, rfl, ho2, hl2⟩
  obtain ⟨A2, L2, c2, rfl, HL2, _, _, hr2⟩ := own_formN8 ho2
  have hm2 : Mod (fun _ => False) w1 w2 := ((Mod.refl _ w1).alloc (.cells #[.int .u8 (tb : Int)] 5)).trans (Mod.of_below hl2) (fun i hi h => by simp at h; omega)
  have hL2 : L2 ≤ 20 := by
   have h1 := enc_len10 (u := n) (by omega)
   have h2 := HL2.out
   simp at h2
   omega
  have Hr2 := Lib.hid hr2; have Hm2 := Lib.hid (Hm1.out.trans hm2 (fun _ _ h => h)); have Hr12 := Lib.hid (Hr1.out.new hm2).fit; have hs2 := (Hs1.out.new hm2).fit
  clear ho2 hl2 hr2 hm2 Hr1 Hm1 Hs1
  obtain ⟨j, hj⟩ : ∃ j, n = j + 1 := ⟨n - 1, by omega⟩
  obtain ⟨ad, p, rfl, hadb, hp, hc0, _⟩ := hs2.at2 (show 0 < n by omega) (Nat.le_refl _) (Mod.refl (fun _ => False) _) (fun _ _ h => h)
  obtain ⟨ad2, q, e2, _, hq, hd0, _⟩ := hs2.at2 (show j < n by omega) (Nat.le_refl _) (Mod.refl (fun _ => False) _) (fun _ _ h => h)
  injection e2 with e2
  subst e2
  have hf : fstT l = p.1 := first_get hp
  have hgt : lstT l = q.1 := last_get (by rw [Hl.out, hj, Nat.add_sub_cancel]; exact hq)
  have ead : ad.add (0 * 2) = ad := by simp [Addr.add]
  rw [ead] at hc0
  obtain ⟨f, hff⟩ : ∃ f, f = p.1 := ⟨_, rfl⟩
  obtain ⟨g, hgg⟩ : ∃ g, g = q.1 := ⟨_, rfl⟩
  rw [← hff] at hc0 hf
  rw [← hgg] at hd0 hgt
  have hFf : Fits f := hf ▸ fstT_fits Hg.out
  have hFg : Fits g := hgt ▸ lstT_fits Hg.out
  obtain ⟨zf, zf2⟩ := zig_nat hFf
  obtain ⟨zg, zg2⟩ := zig_nat hFg
  obtain ⟨kf, hkf⟩ : ∃ kf : Nat, kf = (zig f).toNat := ⟨_, rfl⟩
  obtain ⟨kg, hkg⟩ : ∃ kg : Nat, kg = (zig g).toNat := ⟨_, rfl⟩
  rw [← hkf] at zf zf2
  rw [← hkg] at zg zg2
  have hH : (H63 : Int) = 9223372036854775808 := by decide
  have hz1 := fun W' => rzig_any f W' ⟨by have := hFf.1; omega, by have := hFf.2; omega⟩
  have hz2 := fun W' => rzig_any g W' ⟨by have := hFg.1; omega, by have := hFg.2; omega⟩
  rw [← zf] at hz1
  rw [← zg] at hz2
  have hX : ∀ W', Mod (fun _ => False) w2 W' → Mod (fun _ => False) w2 W' ∧ W'.cell? ad = some (.int .i64 f) ∧ W'.cell? (ad.add (j * 2)) = some (.int .i64 g) := fun W' h => ⟨h, (h.cell (a := ad) hadb (fun h => h)).trans hc0, (h.cell (a := ad.add (j * 2)) (by rw [add_block]; exact hadb) (fun h => h)).trans hd0⟩
  have S1 := Lib.hid (hX w2.drew (Mod.refl _ _).drew)
  have S0 := Lib.hid (hX w2 (Mod.refl _ _))
  have HX := Lib.hid hX; have Hz1 := Lib.hid hz1; have Hz2 := Lib.hid hz2
  have Hhd : Hid (headR tag l = [tb] ++ enc n ++ enc kf ++ enc kg) := Lib.hid (by unfold headR headC; rw [Hl.out, hf, hgt, ← hkf, ← hkg, ← Htb.out]; simp)
  have hwj : IntKind.i64.wrap ((n : Int) - 1) = (j : Int) := by rw [IntWalk.i64_in _ (by omega)]; omega
  have h0n : (0 : Int) < (n : Int) := by omega
  have h0nn : 0 < n := by omega
  have hjn : (j : Int) < (n : Int) := by omega
  have hjnn : j < n := by omega
  have hcs : Tryz.prog.cellsOf 43 = 2 := by kernel_rfl
  have hm1a : (1 : Int) ≤ (n : Int) := by omega
  have Hj := Lib.hid hj
  clear hs2 hp hq hc0 hd0 hf hgt hff hgg hFf hFg zf zg hkf hkg hz1 hz2 hX hadb hH hj
  have Hput1 := Lib.hid (vrput_any A2 L2 c2 _ ([tb] ++ enc n) kf w2.drew Hr2.out.drew (by omega) (by unfold Lt64; omega))
  go_upto_region 5 with fail
  go_cut [8] (fun s8 wc => ∃ (A5 : Option Addr) (L5 c5 : Nat), s8 = .slice A5 L5 c5 ∧ L5 ≤ 60 ∧ Own w2.heap.size wc 5 (.slice A5 L5 c5) (cells8 (headR tag l)) ∧ Mod (fun _ => False) w2 wc)
  case first =>
   first
    | (go_region_held_law (fun W' => Mod (fun _ => False) w2 W' ∧ W'.cell? ad = some (.int .i64 f) ∧ W'.cell? (ad.add (j * 2)) = some (.int .i64 g)) (first | (with_reducible exact S5.out) | (with_reducible exact S4.out) | (with_reducible exact S1.out) | (with_reducible exact S0.out))
      (first
       | (go_at_call 21; with_reducible refine (Hz1.out _).mono ?_; rintro e w' ⟨rfl, rfl⟩)
       | (go_at_call 21; with_reducible refine (Hz2.out _).mono ?_; rintro e w' ⟨rfl, rfl⟩)
       | (go_at_call 20; with_reducible refine Hput1.out.mono ?_; rintro e w4 ⟨v4, rfl, ho4, hl4⟩; obtain ⟨A4, L4, c4, rfl, HL4, _, _, hr4⟩ := own_formN8 ho4; have Hput2 := Lib.hid (vrput_any A4 L4 c4 _ ([tb] ++ enc n ++ enc kf) kg w4 hr4 (by have h1 := enc_len10 zf2; have h2 := HL4.out; have h3 := HL2.out; rw [List.length_append, h3] at h2; omega) (by unfold Lt64; omega)); have S4 := Lib.hid (HX.out w4 (mod_drew_new hl4)); have hL4b : L4 ≤ 40 := (by have h1 := enc_len10 zf2; have h2 := HL4.out; have h3 := HL2.out; rw [List.length_append, h3] at h2; omega); clear ho4 hr4 hl4 HL4)
       | (go_at_call 20; with_reducible refine Hput2.out.mono ?_; rintro e w5 ⟨v5, rfl, ho5, hl5⟩; obtain ⟨A5, L5, c5, rfl, HL5, _, _, hr5⟩ := own_formN8 ho5; have Ho5 := Lib.hid (ho5.mono S4.out.1.size); have S5 := Lib.hid (HX.out w5 (mod_more_new S4.out.1 hl5)); clear ho5 hl5 hr5)))
    | fail "held"
   all_goals
    go_wp2_with fail
    go_meet
    refine ⟨A5, L5, c5, rfl, ?_, ?_, S5.out.1⟩
    ·have h1 := enc_len10 zf2
     have h2 := enc_len10 zg2
     have h3 := HL2.out
     have h4 := HL5.out
     rw [List.length_append, List.length_append, h3] at h4
     omega
    ·rw [Hhd.out]
     exact Ho5.out
  case rest =>
  obtain ⟨A5, L5, c5, rfl, hL5, ho5, hm5⟩ := hcut
  have Ho5 := Lib.hid ho5; have Hr5 := Lib.hid (Hr12.out.new hm5).fit; have Hm5 := Lib.hid (Hm2.out.trans hm5 (fun _ _ h => h))
  have hh256 := headR_256 (l := l) Htag.out
  obtain ⟨hd, hhd⟩ : ∃ hd, hd = headR tag l := ⟨_, rfl⟩
  rw [← hhd] at Ho5 Hyes hh256
  have HL5 : Hid (hd.length ≤ 60) := Lib.hid (by
   have h := own_formN8 Ho5.out
   obtain ⟨_, _, _, e, h2, _⟩ := h
   injection e with _ e2 _
   rw [h2.out, ← e2]
   exact hL5)
  have HR : Hid (Room (cells8 hd).length L1) := Lib.hid (Room.mk _ _ (by rw [cells8_length]; have := HL5.out; omega))
  have Hone : Hid (∀ u ∈ cells8 b, u.oneCell' = true) := Lib.hid (cells8_one _)
  have hsz5 : w2.heap.size ≤ wc.heap.size := hm5.size
  have Hm2s : Hid (w.heap.size ≤ w2.heap.size) := Lib.hid Hm2.out.size
  have Hh256 := Lib.hid hh256
  clear ho5 hm5 hhd hh256 Hr12 Hm2 Hr2 S0 S1 HX Hz1 Hz2 Hput1 Hhd hwj h0n h0nn hjn hjnn hcs hm1a Hj
  go_wp2_with (at_builtin; refine wpList_app rfl (.tmp 46) (.tmp 47) _ rfl elt8 rfl Ho5.out rfl Hr5.out Hone.out HR.out.1 HR.out.2 hsz5 ?_; intro v6 w6 HO6 HBl6 HG6; clear HG6; obtain ⟨A6, L6, c6, rfl, HL6, hc6, hcm6, hr6⟩ := own_formN8 (show Own w2.heap.size w6 5 v6 (cells8 (hd ++ b)) by rw [← cells8_app]; exact HO6.out))
  obtain ⟨hb, hhb⟩ : ∃ hb, hb = hd ++ b := ⟨_, rfl⟩
  rw [← hhb] at hr6 HL6
  have Ho6 : Hid (Own w2.heap.size w6 5 (.slice A6 L6 c6) (cells8 hb)) := Lib.hid (by rw [hhb, ← cells8_app]; exact HO6.out)
  have hb256 : lt256 hb := by rw [hhb]; exact lt256_app Hh256.out Hlt.out
  have hL6 : L6 ≤ 2000060 := by have h1 := HL6.out; rw [hhb, List.length_append] at h1; have := HL5.out; have := HL1.out; omega
  have Hyes2 : Hid (makeC tag l = some (hb ++ sum4 (sumN ent hb))) := Lib.hid (by rw [hhb]; exact Hyes.out)
  have Hm6 := Lib.hid (Hm5.out.trans (Mod.of_below HBl6.out) (fun i hi h => absurd h (Nat.not_le_of_lt (Nat.lt_of_lt_of_le hi Hm2s.out))))
  have Hsz6 := Lib.hid (Nat.le_trans hsz5 HBl6.out.size)
  have Hr6 := Lib.hid hr6; have Hb256 := Lib.hid hb256
  clear hhb hr6 hb256 HO6 HBl6 Hm5 Ho5 Hr5 Hyes Hh256 Hlt HR Hone hsz5 HL5 hL5
  refine (rsum_any A6 L6 c6 w6.heap.size hb w6 Hr6.out Hb256.out (by unfold maxLen; omega)).mono ?_
  rintro e w7 ⟨rfl, rfl⟩
  obtain ⟨s, hs⟩ : ∃ s, s = sumN ent hb := ⟨_, rfl⟩
  have hsl : s < 4294967296 := hs ▸ sumN_ent_lt Hb256.out
  rw [← hs] at Hyes2 ⊢
  obtain ⟨b1, b2, b3, b4⟩ := sum4_bytes s
  have HR6 : Hid (Room (cells8 hb).length 4) := Lib.hid (Room.mk _ _ (by rw [cells8_length]; have := HL6.out; omega))
  have Hlit : Hid (Rds (w6.alloc (.cells #[.int .u8 ((s / 16777216 % 256 : Nat) : Int), .int .u8 ((s / 65536 % 256 : Nat) : Int), .int .u8 ((s / 256 % 256 : Nat) : Int), .int .u8 ((s % 256 : Nat) : Int)] 5)) (w6.heap.size + 1) (some ⟨w6.heap.size, 0, none⟩) 4 (cells8 (sum4 s))) := Lib.hid (Rds.lit w6 5 #[.int .u8 ((s / 16777216 % 256 : Nat) : Int), .int .u8 ((s / 65536 % 256 : Nat) : Int), .int .u8 ((s / 256 % 256 : Nat) : Int), .int .u8 ((s % 256 : Nat) : Int)])
  have Hone6 : Hid (∀ u ∈ cells8 (sum4 s), u.oneCell' = true) := Lib.hid (cells8_one _)
  have Ho6a := Lib.hid (Ho6.out.alloc (.cells #[.int .u8 ((s / 16777216 % 256 : Nat) : Int), .int .u8 ((s / 65536 % 256 : Nat) : Int), .int .u8 ((s / 256 % 256 : Nat) : Int), .int .u8 ((s % 256 : Nat) : Int)] 5))
  have hsz6 : w2.heap.size ≤ (w6.alloc (.cells #[.int .u8 ((s / 16777216 % 256 : Nat) : Int), .int .u8 ((s / 65536 % 256 : Nat) : Int), .int .u8 ((s / 256 % 256 : Nat) : Int), .int .u8 ((s % 256 : Nat) : Int)] 5)).heap.size := Nat.le_trans Hsz6.out (le_alloc _ _)
  clear hs Hr6 Ho6
  go_wp2_with (at_builtin; refine wpList_app rfl (.tmp 51) (.tmp 63) _ rfl elt8 rfl Ho6a.out rfl Hlit.out Hone6.out HR6.out.1 HR6.out.2 hsz6 ?_; intro v8 w8 HO8 HBl8 HG8; clear HG8)
  go_ret2
  have ho8 := HO8.out
  rw [cells8_app] at ho8
  exact EncB.of_some Hyes2.out (ho8.mono Hm2s.out) ((Hm6.out.alloc (.cells #[.int .u8 ((s / 16777216 % 256 : Nat) : Int), .int .u8 ((s / 65536 % 256 : Nat) : Int), .int .u8 ((s / 256 % 256 : Nat) : Int), .int .u8 ((s % 256 : Nat) : Int)] 5)).trans (Mod.of_below HBl8.out) (fun i hi h => absurd h (Nat.not_le_of_lt (Nat.lt_of_lt_of_le hi Hm2s.out))))
end Go.Proofs.YtjmjlflmcpkmnaaGreatDoor

/- Rows, literals of rows, two writers: what statements that tell and read have at hand. -/
namespace Go.Proofs.YtjmjlflmcpkmnaaGreatDoor
open Go.RowKit

theorem Wr.packed {w : World} {g N L : Nat} {row : Option Nat} (h : Wr w g row N L) : ∃ bs, Packed bs N L := by
 obtain ⟨free, hf, v, bs, _, _, _, hlt, hl, hv, _⟩ := h
 exact ⟨bs, hlt, free, hf, hl, hv⟩
/-- The two writers at the same bits. -/
structure Both (w0 w : World) (a : Nat) (ra : Option Nat) (b : Nat) (rb : Option Nat) (N L : Nat) : Prop where
 wa : Wr w a ra N L
 wb : RWr w b rb N L
 mod : Mod (fun _ => False) w0 w
theorem Both.new {w0 w w' : World} {a b N L : Nat} {ra rb : Option Nat} (h : Both w0 w a ra b rb N L) (hm : Mod (fun _ => False) w w') : Both w0 w' a ra b rb N L :=
 ⟨h.wa.mod hm (fun h => h) (fun _ _ h => h), h.wb.mod hm (fun h => h) (fun _ _ h => h), h.mod.trans hm (fun _ _ h => h)⟩
theorem RWr.len {w : World} {g N L : Nat} {row : Option Nat} (h : RWr w g row N L) : ∃ Ax cx, w.cell? ⟨g, 0, none⟩ = some (.slice Ax L cx) := by
 obtain ⟨sv, l, hblk, hown, _, _, hL, _⟩ := h
 have hc0 := hblk.cell 0
 simp at hc0
 rcases hown.2 with ⟨h1, h2⟩ | ⟨g', cap, cur, h1, _⟩
 ·exact ⟨none, 0, by rw [hc0, h1, ← hL, h2]⟩
 ·exact ⟨_, cap, by rw [hc0, h1, hL]⟩
theorem Sees.take {w : World} {row n k : Nat} {A : Option Addr} {bs : List Nat} (h : Sees w row A n (cells8 bs)) (hk : k ≤ n) : Sees w row A k (cells8 (bs.take k)) := by
 have hl := h.1
 rw [cells8_length] at hl
 refine ⟨by rw [cells8_length, List.length_take]; omega, fun h0 => ?_⟩
 obtain ⟨o, e, hlt, hc⟩ := h.2 (by omega)
 refine ⟨o, e, hlt, fun j u hu => hc j u ?_⟩
 rw [cells8_take, List.getElem?_take] at hu
 split at hu
 ·exact hu
 ·cases hu
/-- Four rows of bytes in a literal. -/
def Rows4 (w : World) (lit : Nat) : Prop := lit < w.heap.size ∧ ∀ j, j < 4 → ∃ (A : Option Addr) (n c row : Nat) (cs : List Nat), w.cell? ⟨lit, j, none⟩ = some (.slice A n c) ∧ Sees w row A n (cells8 cs) ∧ (A = none → c = 0) ∧ n ≤ 1000 ∧ lt256 cs
theorem Rows4.mod {w w' : World} {lit : Nat} (h : Rows4 w lit) (hm : Mod (fun _ => False) w w') : Rows4 w' lit := by
 refine ⟨Nat.lt_of_lt_of_le h.1 hm.size, fun j hj => ?_⟩
 obtain ⟨A, n, c, row, cs, h1, h2, h3⟩ := h.2 j hj
 exact ⟨A, n, c, row, cs, (hm.cell (a := ⟨lit, j, none⟩) h.1 (fun h => h)).trans h1, h2.mod hm (fun _ h => h), h3⟩
end Go.Proofs.YtjmjlflmcpkmnaaGreatDoor

/- What the document's own reading of values stands on: rows read loosely, one turn more; two rows of bits held beside each other. -/
namespace Go.Proofs.YtjmjlflmcpkmnaaGreatDoor
open Go.RowKit

theorem rdVals_first {k R rem : Nat} (hk : 0 < k) : ((getO 64 (some (R, rem))).2 = none → rdVals k R rem = none) ∧ ∀ R' rem', (getO 64 (some (R, rem))).2 = some (R', rem') → rdVals k R rem = (rdXs (k - 1) none (getO 64 (some (R, rem))).1 R' rem').map fun p => ((getO 64 (some (R, rem))).1 :: p.1, p.2) := by
 obtain ⟨k, rfl⟩ : ∃ j, k = j + 1 := ⟨k - 1, by omega⟩
 have e : rdVals (k + 1) R rem = match takeB 64 R rem with | none => none | some (u, R1, rem1) => (rdXs k none u R1 rem1).map fun (p : List Nat × Nat × Nat) => (u :: p.1, p.2) := rfl
 rw [e, getO_take]
 cases ht : takeB 64 R rem with
 | none => exact ⟨fun _ => rfl, fun _ _ h => by cases h⟩
 | some q =>
  obtain ⟨u, R1, rem1⟩ := q
  refine ⟨fun h => (by cases h), fun R' rem' h => ?_⟩
  have h2 : some (R1, rem1) = some (R', rem') := h
  injection h2 with h2
  injection h2 with h3 h4
  subst h3 h4
  rfl
theorem rdVals_next {k R rem i : Nat} {win s : Option (Nat × Nat)} {prev : Nat} {xs : List Nat} (hi : i < k) (h : ∀ R' rem', s = some (R', rem') → rdVals k R rem = (rdXs (k - i) win prev R' rem').map fun p => (xs ++ p.1, p.2)) (hs : s.isSome = true) :
  (rdO win s = none → rdVals k R rem = none) ∧ ∀ x win' R1 rem1, rdO win s = some (x, win', R1, rem1) → rdVals k R rem = (rdXs (k - (i + 1)) win' (prev ^^^ x) R1 rem1).map fun p => ((xs ++ [prev ^^^ x]) ++ p.1, p.2) := by
 obtain ⟨j, hj⟩ : ∃ j, k - i = j + 1 := ⟨k - i - 1, by omega⟩
 have hj2 : k - (i + 1) = j := by omega
 cases s with
 | none => cases hs
 | some p =>
  obtain ⟨R0, rem0⟩ := p
  have h1 := h R0 rem0 rfl
  rw [hj] at h1
  have e : rdXs (j + 1) win prev R0 rem0 = match rdX win R0 rem0 with | none => none | some (x, win', R1, rem1) => (rdXs j win' (prev ^^^ x) R1 rem1).map fun (p : List Nat × Nat × Nat) => ((prev ^^^ x) :: p.1, p.2) := rfl
  rw [e] at h1
  refine ⟨fun hn => ?_, fun x win' R1 rem1 hs => ?_⟩
  ·have hn' : rdX win R0 rem0 = none := hn
   rw [h1, hn']; rfl
  ·have hs' : rdX win R0 rem0 = some (x, win', R1, rem1) := hs
   rw [h1, hs', hj2]
   show ((rdXs j win' (prev ^^^ x) R1 rem1).map _).map _ = _
   rw [Option.map_map]
   congr 1
   funext p
   simp
theorem valRow_none {n R rem : Nat} (h : rdVals n R rem = none) : valRow n R rem = none := by unfold valRow; rw [h]
theorem valRow_if {n R rem : Nat} {vs : List Nat} {R' rem' : Nat} (h : rdVals n R rem = some (vs, R', rem')) : valRow n R rem = if flen (encVals vs) + rem' = rem ∧ fnum (encVals vs) = R / 2 ^ rem' then some (vs, R', rem') else none := by unfold valRow; rw [h]
/-- Rows of bits. -/
theorem bval_acc (bs : List Nat) (acc : Nat) : bs.foldl (fun a b => a * 2 + b) acc = acc * 2 ^ bs.length + bval bs := by
 induction bs generalizing acc with
 | nil => show acc = acc * 2 ^ 0 + 0; omega
 | cons b bs ih =>
  have e : bval (b :: bs) = bs.foldl (fun a b => a * 2 + b) (0 * 2 + b) := rfl
  rw [e, ih]
  show bs.foldl (fun a b => a * 2 + b) (acc * 2 + b) = _
  rw [ih, List.length_cons, Nat.pow_succ, Nat.add_mul, Nat.add_mul, Nat.mul_assoc, Nat.mul_comm 2]
  omega
theorem bval_app (cs bs : List Nat) : bval (cs ++ bs) = bval cs * 2 ^ bs.length + bval bs := by
 show (cs ++ bs).foldl (fun a b => a * 2 + b) 0 = _
 rw [List.foldl_append, bval_acc]
 rfl
theorem bval_lt {bs : List Nat} (h : lt2 bs) : bval bs < 2 ^ bs.length := by
 induction bs with
 | nil => exact Nat.one_pos
 | cons b bs ih =>
  have h1 := ih (fun x hx => h x (by simp [hx]))
  have h2 := h b (by simp)
  have e : bval (b :: bs) = b * 2 ^ bs.length + bval bs := by
   have := bval_app [b] bs
   have e0 : bval [b] = b := by show 0 * 2 + b = b; omega
   rwa [e0] at this
  rw [e, List.length_cons, Nat.pow_succ]
  have h3 : b * 2 ^ bs.length ≤ 1 * 2 ^ bs.length := Nat.mul_le_mul_right _ (by omega)
  omega
/-- One bit more of a row of bits, and of a number. -/
theorem bval_take {bs : List Nat} {i b : Nat} (hb : bs[i]? = some b) : bval (bs.take (i + 1)) = bval (bs.take i) * 2 + b := by
 have hi : i < bs.length := (List.getElem?_eq_some_iff.1 hb).1
 rw [List.take_succ_eq_append_getElem hi, bval_snoc, (List.getElem?_eq_some_iff.1 hb).2]
theorem bval_div {bs : List Nat} (h : lt2 bs) (i : Nat) : bval bs / 2 ^ (bs.length - i) = bval (bs.take i) := by
 have h1 : bval bs = bval (bs.take i) * 2 ^ (bs.length - i) + bval (bs.drop i) := by
  conv => lhs; rw [← List.take_append_drop i bs]
  rw [bval_app, List.length_drop]
 have h2 : bval (bs.drop i) < 2 ^ (bs.length - i) := by
  have := bval_lt (bs := bs.drop i) (fun x hx => h x (List.mem_of_mem_drop hx))
  rwa [List.length_drop] at this
 rw [h1, Nat.mul_comm, Nat.mul_add_div (Nat.two_pow_pos _), Nat.div_eq_of_lt h2, Nat.add_zero]
theorem num_more (R rem i : Nat) (hi : i < rem) : R / 2 ^ (rem - (i + 1)) = R / 2 ^ (rem - i) * 2 + R / 2 ^ (rem - (i + 1)) % 2 := by
 have e : rem - i = (rem - (i + 1)) + 1 := by omega
 rw [e, Nat.pow_succ, ← Nat.div_div_eq_div_mul]
 omega
/-- The bits that have been held beside each other are alike. -/
def Alike (bs : List Nat) (R rem i : Nat) : Prop := i ≤ bs.length ∧ bs.length ≤ rem ∧ bval (bs.take i) = R / 2 ^ (rem - i)
theorem alike_zero {bs : List Nat} {R rem : Nat} (hR : R < 2 ^ rem) (hl : bs.length ≤ rem) : Alike bs R rem 0 := ⟨Nat.zero_le _, hl, by rw [Nat.sub_zero, Nat.div_eq_of_lt hR]; rfl⟩
theorem alike_more {bs : List Nat} {R rem i b c : Nat} (h : Alike bs R rem i) (hb : bs[i]? = some b) (hc : R / 2 ^ (rem - (i + 1)) % 2 = c) (he : b = c) : Alike bs R rem (i + 1) := by
 obtain ⟨h1, h2, h3⟩ := h
 have hi : i < bs.length := (List.getElem?_eq_some_iff.1 hb).1
 refine ⟨hi, h2, ?_⟩
 rw [bval_take hb, num_more R rem i (by omega), hc, h3, he]
theorem alike_not {bs : List Nat} {R rem i b c : Nat} (hl2 : lt2 bs) (h : Alike bs R rem i) (hb : bs[i]? = some b) (hc : R / 2 ^ (rem - (i + 1)) % 2 = c) (he : b ≠ c) : bval bs ≠ R / 2 ^ (rem - bs.length) := by
 obtain ⟨h1, h2, h3⟩ := h
 have hi : i < bs.length := (List.getElem?_eq_some_iff.1 hb).1
 intro e
 have e1 := bval_div hl2 (i + 1)
 rw [e, Nat.div_div_eq_div_mul, ← Nat.pow_add, show rem - bs.length + (bs.length - (i + 1)) = rem - (i + 1) by omega, num_more R rem i (by omega), hc, bval_take hb, h3] at e1
 omega
theorem alike_all {bs : List Nat} {R rem : Nat} (h : Alike bs R rem bs.length) : bval bs = R / 2 ^ (rem - bs.length) := by
 have := h.2.2
 rwa [List.take_length] at this
/-- The bit of a reader's bytes, r bits ahead of the end. -/
theorem read_bit {bs : List Nat} {n a r b R rem i : Nat} (hn : bs.length = n) (hlt : lt256 bs) (hR : R = val bs % 2 ^ rem) (hr : r = rem - i) (hi : i < rem) (har : a + r = 8 * n) (hb : bs[a / 8]? = some b) : R / 2 ^ (rem - (i + 1)) % 2 = b / 2 ^ (7 - a % 8) % 2 := by
 have h := bit_at bs n a r b hn (by omega) har hlt hb
 rw [← h, hR]
 have e1 : rem - (i + 1) = r - 1 := by omega
 rw [e1]
 have e2 : val bs % 2 ^ r = R % 2 ^ r := by rw [hR, Nat.mod_mod_of_dvd _ (Nat.pow_dvd_pow 2 (by omega))]
 rw [e2, ← hR]
 have e3 : (2 : Nat) ^ r = 2 ^ (r - 1) * 2 := by rw [← Nat.pow_succ]; congr 1; omega
 rw [e3, Nat.mod_mul_right_div_self]
end Go.Proofs.YtjmjlflmcpkmnaaGreatDoor

/- The document's own values are read: GetValues, its loop. -/
namespace Go.Proofs.YtjmjlflmcpkmnaaGreatDoor
open Go.RowKit

theorem held5_any (n : Int) (k : Nat) (w : World) (hk : max 0 (min n 65535) = (k : Int)) :
  Calls Tryz.prog 72 #[.int .i64 n] w fun e w' => e = .returned (.int .i64 (k : Int)) ∧ w = w' := by
 exact rheld_any n k w hk
def XRDecEnd (w w' : World) (g row : Nat) (bs : List Nat) (o : Option (List Nat × Nat × Nat)) (e : Ending) : Prop :=
 match o with
 | some (xs, R, rem) => ∃ v, e = .returned (.tuple #[v, .bool true]) ∧ Own w.heap.size w' 41 v (cellsU xs) ∧ RRdO w' g row bs (some (R, rem)) ∧ Mod (fun i => i = g) w w'
 | none => e = .returned (.tuple #[.slice none 0 0, .bool false]) ∧ Mod (fun i => i = g) w w'
theorem XRDecEnd.none_ {w w' : World} {g row : Nat} {bs : List Nat} {o : Option (List Nat × Nat × Nat)} {e : Ending} (ho : o = none) (he : e = .returned (.tuple #[.slice none 0 0, .bool false])) (hm : Mod (fun i => i = g) w w') : XRDecEnd w w' g row bs o e := by
 subst ho
 exact ⟨he, hm⟩
/-- What the window is, where there are bits left. -/
def IsWin (any : Bool) (a b : Int) (win : Option (Nat × Nat)) : Prop := WinOk win ∧ any = win.isSome ∧ a = (winA win : Int) ∧ b = (winB win : Int)
/-- What the loop has read of i values. -/
def XRDec (w wr : World) (g row : Nat) (bs : List Nat) (k R rem i : Nat) (v : Value) (any : Bool) (a b : Int) (s : Option (Nat × Nat)) : Prop :=
 ∃ xs, Own w.heap.size wr 41 v (cellsU xs) ∧ RRdO wr g row bs s ∧ Mod (fun i => i = g) w wr ∧ xs.length = i ∧ (∀ x ∈ xs, x < 2 ^ 64) ∧ (i = 0 → xs = [] ∧ s = some (R, rem) ∧ any = false ∧ a = 0 ∧ b = 0) ∧
  (0 < i → (s = none → rdVals k R rem = none) ∧ ∀ R' rem', s = some (R', rem') → ∃ win prev, IsWin any a b win ∧ xs[i - 1]? = some prev ∧ rdVals k R rem = (rdXs (k - i) win prev R' rem').map fun p => (xs ++ p.1, p.2))
theorem XRDec.mk {w w1 w2 : World} {g row : Nat} {bs : List Nat} {k R rem i : Nat} {v2 : Value} {x : Nat} {any : Bool} {a b : Int} {s' : Option (Nat × Nat)} {xs : List Nat} (hgl : g < w.heap.size) (hrow : row < w.heap.size)
  (h1 : RRdO w1 g row bs s') (hm : Mod (fun i => i = g) w w1) (hown : Own w.heap.size w2 41 v2 (cellsU xs ++ [.int .u64 (x : Int)])) (hb : Below w.heap.size w1 w2) (hxl : xs.length = i) (hxs : ∀ y ∈ xs, y < 2 ^ 64) (hx : x < 2 ^ 64)
  (hn : (s' = none → rdVals k R rem = none) ∧ ∀ R' rem', s' = some (R', rem') → ∃ win, IsWin any a b win ∧ rdVals k R rem = (rdXs (k - (i + 1)) win x R' rem').map fun p => ((xs ++ [x]) ++ p.1, p.2)) :
  XRDec w w2 g row bs k R rem (i + 1) v2 any a b s' := by
 refine ⟨xs ++ [x], ?_, h1.mod (Mod.of_below hb) (by omega) (fun _ => by omega), hm.trans (Mod.of_below hb) (fun i hi h => by omega), by simp [hxl], fun y hy => ?_, fun h => by omega, fun _ => ⟨hn.1, fun R' rem' hs => ?_⟩⟩
 ·rw [cellsU_snoc]; exact hown
 ·rw [List.mem_append, List.mem_singleton] at hy
  rcases hy with hy | rfl
  ·exact hxs y hy
  ·exact hx
 ·obtain ⟨win, h2, h3⟩ := hn.2 R' rem' hs
  refine ⟨win, x, h2, ?_, h3⟩
  rw [Nat.add_sub_cancel, List.getElem?_append_right (by omega), hxl, Nat.sub_self]
  rfl
/-- Behind one turn. -/
def XRMid (w wc : World) (g row : Nat) (bs : List Nat) (s : Option (Nat × Nat)) (win : Option (Nat × Nat)) (any : Bool) (a b : Int) (x : Nat) : Prop :=
 ∃ s', RRdO wc g row bs s' ∧ Mod (fun i => i = g) w wc ∧ x < 2 ^ 64 ∧ (s' = none → rdO win s = none) ∧ ∀ R1 rem1, s' = some (R1, rem1) → ∃ win', IsWin any a b win' ∧ rdO win s = some (x, win', R1, rem1)
theorem XRMid.mk {w wc : World} {g row : Nat} {bs : List Nat} {s win s' : Option (Nat × Nat)} {any : Bool} {a b : Int} {x : Nat} {win' : Option (Nat × Nat)} (hr : RRdO wc g row bs s') (hm : Mod (fun i => i = g) w wc) (hx : x < 2 ^ 64) (hw : IsWin any a b win') (h : rdO win s = s'.map fun p => (x, win', p.1, p.2)) : XRMid w wc g row bs s win any a b x := by
 refine ⟨s', hr, hm, hx, fun e => by rw [h, e]; rfl, fun R1 rem1 e => ⟨win', hw, by rw [h, e]; rfl⟩⟩
set_option maxHeartbeats 8000000 in
set_option maxRecDepth 100000 in
theorem rgetvals_any (g row R rem k : Nat) (bs : List Nat) (n : Int) (w : World) (hk : max 0 (min n 65535) = (k : Int)) (hr : RRd w g row bs R rem true) (hR : R < 2 ^ rem) (hrow : row < w.heap.size) :
  Calls Tryz.prog 75 #[.pointer (some ⟨g, 0, none⟩), .int .i64 n] w fun e w' => XRDecEnd w w' g row bs (valRow k R rem) e := by
 have H0 : Hid (XRDec w w g row bs k R rem 0 (.slice none 0 0) false 0 0 (some (R, rem))) := Lib.hid ⟨[], Own.nil _ _ _, ⟨hr, hR⟩, Mod.refl _ _, rfl, (fun _ h => by cases h), fun _ => ⟨rfl, rfl, rfl, rfl, rfl⟩, fun h => by omega⟩
 have hgl := Lib.hid hr.lt'
 have Hrow := Lib.hid hrow; have HR := Lib.hid hR; have Hk := Lib.hid hk
 have hk65 : k ≤ 65535 := by omega
 obtain ⟨A0, n0, c0, fr, hblk, hs0, hne0, hfr8, hn0, hlt0, h10, _⟩ := hr
 obtain ⟨hfr, hRv⟩ := h10 rfl
 have hcA := hblk.cell 1
 simp at hcA
 have Hfr : Hid (fr + rem = 8 * bs.length ∧ R = val bs % 2 ^ rem ∧ bs.length ≤ 1000000) := Lib.hid ⟨by have := hs0.1; rw [cells8_length] at this; omega, hRv, by have := hs0.1; rw [cells8_length] at this; omega⟩
 clear hR hrow hk hblk hs0 hne0 hfr8 hn0 hlt0 h10 hfr hRv
 go_enter Tryz.func75, Tryz.ntmps75
 go_wp2_with fail
 refine (held5_any n k _ Hk.out).mono ?_
 rintro e w' ⟨rfl, rfl⟩
 clear Hk
 go_wp2_with fail
 clear hcA
 go_loopg [7, 8, 9, 10, 11] k (fun l s7 s8 s9 s10 s11 wr => ∃ (i : Nat) (any : Bool) (a b : Int) (s : Option (Nat × Nat)), i + l = k ∧ s11 = .int .i64 (i : Int) ∧ s8 = .bool any ∧ s9 = .int .i64 a ∧ s10 = .int .i64 b ∧ XRDec w wr g row bs k R rem i s7 any a b s)
 case atStart => exact ⟨0, false, 0, 0, _, by omega, rfl, rfl, rfl, rfl, H0.out⟩
 case round =>
  obtain ⟨i, any, a, b, s, hil, rfl, rfl, rfl, rfl, hD⟩ := hrel
  have HD := Lib.hid hD; have Hil := Lib.hid hil
  clear hD hil H0
  obtain ⟨xs, hown, hro, hm, hxl, hxs, hi0, hi1⟩ := HD.out
  have Hro := Lib.hid hro; have Hm := Lib.hid hm; have Hown := Lib.hid hown; have Hxl := Lib.hid hxl; have Hxs := Lib.hid hxs
  have hfl := hro.flag
  clear hown hro hm hxl hxs
  by_cases hin : i < k
  ·cases hs : s.isSome with
   | false =>
    rw [hs] at hfl
    have hsn : s = none := by
     cases s with
     | none => rfl
     | some p => cases hs
    have Hnone : Hid (rdVals k R rem = none) := Lib.hid (by
     rcases Nat.eq_zero_or_pos i with h0 | h0
     ·have := (hi0 h0).2.1
      rw [hsn] at this
      cases this
     ·exact (hi1 h0).1 hsn)
    clear hi0 hi1 hs hsn
    go_wp2_with fail
    go_ret2
    exact XRDecEnd.none_ (valRow_none Hnone.out) rfl Hm.out
   | true =>
    rw [hs] at hfl
    have Hs := Lib.hid hs
    clear hs
    by_cases h0 : i = 0
    ·obtain ⟨rfl, rfl, rfl, rfl, rfl⟩ := hi0 h0
     subst h0
     clear hi0 hi1
     go_wp2_with fail
     refine (rget_o g row 64 64 bs _ _ rfl (by decide) Hro.out).mono ?_
     rintro e w1 ⟨rfl, h1, hm1⟩
     obtain ⟨u, hu⟩ : ∃ u, u = (getO 64 (some (R, rem))).1 := ⟨_, rfl⟩
     have hu64 : Hid (u < 2 ^ 64) := Lib.hid (by rw [hu]; exact getO_lt HR.out 64)
     have hN : Hid (((getO 64 (some (R, rem))).2 = none → rdVals k R rem = none) ∧ ∀ R' rem', (getO 64 (some (R, rem))).2 = some (R', rem') → ∃ win, IsWin false 0 0 win ∧ rdVals k R rem = (rdXs (k - (0 + 1)) win u R' rem').map fun p => (([] ++ [u]) ++ p.1, p.2)) :=
      Lib.hid ⟨(rdVals_first hin).1, fun R' rem' h => ⟨none, ⟨trivial, rfl, rfl, rfl⟩, by rw [hu]; exact (rdVals_first hin).2 R' rem' h⟩⟩
     rw [← hu]
     have Hown1 : Hid (Own w.heap.size w1 41 u7 (cellsU [])) := Lib.hid (hm1.owns Hown.out (fun k hk e => by have := (Hown.out.block k hk).1; have := hgl.out; omega))
     have H1 := Lib.hid h1; have Hm1 := Lib.hid (Hm.out.trans hm1 (fun _ _ h => h))
     have hsz := Hm1.out.size
     have hr1 : (cellsU []).length + 1 ≤ maxLen := by unfold maxLen; decide
     have hr2 : ((cellsU []).length + 1) * 8 ≤ 140737488355328 := by decide
     clear hu h1 hm1 hfl
     go_wp2_with (at_builtin; refine wpList_app1 rfl (.tmp 37) (.tmp 40) _ rfl eltU rfl Hown1.out rfl rfl rfl hr1 hr2 hsz ?_; intro v' w2 HO HB)
     have HD2 : Hid (XRDec w w2 g row bs k R rem (0 + 1) v' false 0 0 (getO 64 (some (R, rem))).2) := Lib.hid (XRDec.mk hgl.out Hrow.out H1.out Hm1.out HO.out HB.out rfl (fun _ h => by cases h) hu64.out hN.out)
     go_roundg (gk - 1)
     case measure => have := Hil.out; omega
     case rel => exact ⟨0 + 1, false, 0, 0, _, by have := Hil.out; omega, rfl, rfl, rfl, rfl, HD2.out⟩
    ·have hb0 : ((i : Int) == 0) = false := by simp; omega
     obtain ⟨R0, rem0, hs0⟩ : ∃ R0 rem0, s = some (R0, rem0) := by
      have := Hs.out
      cases s with
      | none => cases this
      | some p => exact ⟨_, _, rfl⟩
     obtain ⟨win, prev, hw, hpv, hcur⟩ := (hi1 (by omega)).2 R0 rem0 hs0
     have hN := rdVals_next (s := s) (win := win) (prev := prev) hin (fun R' rem' h => by rw [hs0] at h; injection h with h; injection h with h3 h4; subst h3 h4; exact hcur) Hs.out
     have HN := Lib.hid hN; have Hw := Lib.hid hw; have Hpv := Lib.hid hpv
     have hsm : Hid (SmallO s) := Lib.hid Hro.out.small
     have hp64 : Hid (prev < 2 ^ 64) := Lib.hid (Hxs.out prev (List.mem_of_getElem? hpv))
     clear hi0 hi1 hs0 hw hpv hcur hN
     obtain ⟨hwok, hany, ha, hb⟩ := Hw.out
     obtain ⟨c0, hc0⟩ : ∃ c0, c0 = (getO 1 s).1 := ⟨_, rfl⟩
     have hc0b : c0 = 0 ∨ c0 = 1 := by rw [hc0]; exact hsm.out.bit
     have Hc0 := Lib.hid hc0; have Hc0b := Lib.hid hc0b; have Hwok := Lib.hid hwok; have Hany := Lib.hid hany; have Ha := Lib.hid ha; have Hb := Lib.hid hb
     have hbnd : Hid ((0 ≤ a ∧ a ≤ 31) ∧ (0 ≤ b ∧ a + b ≤ 63)) := Lib.hid (by
      rw [ha, hb]
      cases win with
      | none => exact ⟨⟨by decide, by decide⟩, by decide, by decide⟩
      | some p =>
       obtain ⟨a', b'⟩ := p
       obtain ⟨w1, w2⟩ := hwok
       show (0 ≤ (a' : Int) ∧ (a' : Int) ≤ 31) ∧ (0 ≤ (b' : Int) ∧ (a' : Int) + (b' : Int) ≤ 63)
       omega)
     clear hc0 hc0b hwok hany ha hb
     go_wp2_with fail
     refine (rget_o g row 1 1 bs _ _ rfl (by decide) Hro.out).mono ?_
     rintro e w1 ⟨rfl, hr1, hm1⟩
     rw [← Hc0.out]
     have Hr1 := Lib.hid hr1; have Hm1 := Lib.hid hm1
     clear hr1 hm1
     go_upto_if 44 with fail
     go_cut [8, 9, 10, 12] (fun s8 s9 s10 s12 wc => ∃ (any' : Bool) (a' b' : Int) (x : Nat), s8 = .bool any' ∧ s9 = .int .i64 a' ∧ s10 = .int .i64 b' ∧ s12 = .int .u64 (x : Int) ∧ XRMid wr wc g row bs s win any' a' b' x)
     case first =>
      rcases Hc0b.out with h1 | h1
      ·have hz : (getO 1 s).1 = 0 := by rw [← Hc0.out, h1]
       have HM : Hid (XRMid wr w1 g row bs s win any a b 0) := Lib.hid (XRMid.mk Hr1.out Hm1.out (by decide) Hw.out (rdO_zero hz))
       subst h1
       clear hz
       go_wp2_with fail
       go_meet
       case rel => exact ⟨any, a, b, 0, rfl, rfl, rfl, rfl, HM.out⟩
      ·have hz : Hid ((getO 1 s).1 ≠ 0) := Lib.hid (by rw [← Hc0.out, h1]; decide)
       subst h1
       obtain ⟨c1, hc1⟩ : ∃ c1, c1 = (getO 1 (getO 1 s).2).1 := ⟨_, rfl⟩
       have hc1b : c1 = 0 ∨ c1 = 1 := by rw [hc1]; exact (hsm.out.get 1).bit
       have Hc1 := Lib.hid hc1; have Hc1b := Lib.hid hc1b
       clear hc1 hc1b
       go_wp2_with fail
       refine (rget_o g row 1 1 bs _ _ rfl (by decide) Hr1.out).mono ?_
       rintro e w2 ⟨rfl, hr2, hm2⟩
       rw [← Hc1.out]
       have Hr2 := Lib.hid hr2; have Hm2 := Lib.hid (Hm1.out.trans hm2 (fun _ _ h => h))
       clear hr2 hm2 Hr1 Hm1
       rcases Hc1b.out with h1 | h1
       ·have hz1 : (getO 1 (getO 1 s).2).1 = 0 := by rw [← Hc1.out, h1]
        rw [h1]
        clear h1
        cases win with
        | none =>
         obtain rfl : any = false := Hany.out
         have Hnone : Hid (rdVals k R rem = none) := Lib.hid (HN.out.1 (rdO_in_none hz.out hz1))
         have Hm9 := Lib.hid (Hm.out.trans Hm2.out (fun _ _ h => h))
         clear hz1
         go_wp2_with fail
         go_ret2
         exact XRDecEnd.none_ (valRow_none Hnone.out) rfl Hm9.out
        | some p =>
         obtain ⟨a', b'⟩ := p
         obtain rfl : any = true := Hany.out
         obtain rfl : a = (a' : Int) := Ha.out
         obtain rfl : b = (b' : Int) := Hb.out
         obtain ⟨hb1, hb2⟩ := hbnd.out
         obtain ⟨z, hzz⟩ : ∃ z, z = 64 - a' - b' := ⟨_, rfl⟩
         have hz2 : (64 : Int) - (a' : Int) - (b' : Int) = (z : Int) := by omega
         have hbw : IntKind.u64.wrap (b' : Int) = (b' : Int) := by rw [IntKind.wrap_u64]; omega
         have hz64 : z ≤ 64 := by omega
         have hmain := rdO_in (a := a') (b := b') hz.out hz1
         rw [← hzz] at hmain
         obtain ⟨y, hy⟩ : ∃ y, y = (getO z (getO 1 (getO 1 s).2).2).1 := ⟨_, rfl⟩
         have hylt : y < 2 ^ z := by rw [hy]; exact ((hsm.out.get 1).get 1).lt z
         obtain ⟨x, hx⟩ : ∃ x, x = y * 2 ^ b' := ⟨_, rfl⟩
         have hxl : x < 2 ^ 64 := by
          rw [hx]
          have h := Nat.mul_lt_mul_of_pos_right hylt (Nat.two_pow_pos b')
          rw [← Nat.pow_add] at h
          exact Nat.lt_of_lt_of_le h (Nat.pow_le_pow_right (by omega) (by omega))
         have hshl : IntKind.u64.wrap ((y : Int) * 2 ^ b') = (x : Int) := by
          have e1 : ((y : Int) * 2 ^ b') = ((y * 2 ^ b' : Nat) : Int) := by simp
          rw [IntKind.wrap_u64, e1, ← hx]
          omega
         rw [← hy, ← hx] at hmain
         have Hmain := Lib.hid hmain; have Hy := Lib.hid hy; have Hxl := Lib.hid hxl
         clear hz1 hzz hmain hy hylt hx hxl
         go_wp2_with fail
         refine (rget_o g row z _ bs _ _ rfl hz64 Hr2.out).mono ?_
         rintro e w3 ⟨rfl, hr3, hm3⟩
         rw [← Hy.out]
         have HM : Hid (XRMid wr w3 g row bs s (some (a', b')) true (a' : Int) (b' : Int) x) := Lib.hid (XRMid.mk hr3 (Hm2.out.trans hm3 (fun _ _ h => h)) Hxl.out Hw.out Hmain.out)
         clear hr3 hm3 Hr2 Hm2
         go_wp2_with fail
         go_meet
         case rel => exact ⟨true, (a' : Int), (b' : Int), x, rfl, rfl, rfl, rfl, HM.out⟩
       ·have hz1 : Hid ((getO 1 (getO 1 s).2).1 ≠ 0) := Lib.hid (by rw [← Hc1.out, h1]; decide)
        rw [h1]
        clear h1
        obtain ⟨a', ha'⟩ : ∃ a', a' = (getO 5 (getO 1 (getO 1 s).2).2).1 := ⟨_, rfl⟩
        have ha5 : a' < 32 := by rw [ha']; exact ((hsm.out.get 1).get 1).lt 5
        have hcv : wrap64 (a' : Int) = (a' : Int) := IntWalk.wrap64_in _ (by omega)
        have Ha' := Lib.hid ha'
        clear ha'
        go_wp2_with fail
        refine (rget_o g row 5 5 bs _ _ rfl (by decide) Hr2.out).mono ?_
        rintro e w3 ⟨rfl, hr3, hm3⟩
        rw [← Ha'.out]
        have Hr3 := Lib.hid hr3; have Hm3 := Lib.hid (Hm2.out.trans hm3 (fun _ _ h => h))
        obtain ⟨m, hm⟩ : ∃ m, m = (getO 6 (getO 5 (getO 1 (getO 1 s).2).2).2).1 := ⟨_, rfl⟩
        have hm6 : m < 64 := by rw [hm]; exact (((hsm.out.get 1).get 1).get 5).lt 6
        have hcm : wrap64 (m : Int) = (m : Int) := IntWalk.wrap64_in _ (by omega)
        have Hmm := Lib.hid hm
        clear hr3 hm3 hm Hr2 Hm2
        go_wp2_with fail
        refine (rget_o g row 6 6 bs _ _ rfl (by decide) Hr3.out).mono ?_
        rintro e w4 ⟨rfl, hr4, hm4⟩
        rw [← Hmm.out]
        have Hr4 := Lib.hid hr4; have Hm4 := Lib.hid (Hm3.out.trans hm4 (fun _ _ h => h))
        obtain ⟨z, hzz⟩ : ∃ z, z = m + 1 := ⟨_, rfl⟩
        have hz2 : (m : Int) + 1 = (z : Int) := by omega
        have hz64 : z ≤ 64 := by omega
        have Hz := Lib.hid hzz
        clear hr4 hm4 hzz Hr3 Hm3
        by_cases hfar : 64 < a' + z
        ·have Hnone : Hid (rdVals k R rem = none) := Lib.hid (HN.out.1 (rdO_far hz.out hz1.out (by rw [← Ha'.out, ← Hmm.out, ← Hz.out]; exact hfar)))
         have Hm9 := Lib.hid (Hm.out.trans Hm4.out (fun _ _ h => h))
         have hfar2 : (64 : Int) < (a' : Int) + (z : Int) := by omega
         go_wp2_with fail
         go_ret2
         exact XRDecEnd.none_ (valRow_none Hnone.out) rfl Hm9.out
        ·obtain ⟨b', hb'⟩ : ∃ b', b' = 64 - a' - z := ⟨_, rfl⟩
         have hb2 : (64 : Int) - (a' : Int) - (z : Int) = (b' : Int) := by omega
         have hz3 : (64 : Int) - (a' : Int) - (b' : Int) = (z : Int) := by omega
         have hfar2 : ¬ (64 : Int) < (a' : Int) + (z : Int) := by omega
         have hbw : IntKind.u64.wrap (b' : Int) = (b' : Int) := by rw [IntKind.wrap_u64]; omega
         have hmain := rdO_fresh (win := win) hz.out hz1.out Ha'.out Hmm.out (by rw [← Hz.out]; exact hfar)
         rw [← Hz.out, ← hb'] at hmain
         obtain ⟨y, hy⟩ : ∃ y, y = (getO z (getO 6 (getO 5 (getO 1 (getO 1 s).2).2).2).2).1 := ⟨_, rfl⟩
         have hylt : y < 2 ^ z := by rw [hy]; exact ((((hsm.out.get 1).get 1).get 5).get 6).lt z
         obtain ⟨x, hx⟩ : ∃ x, x = y * 2 ^ b' := ⟨_, rfl⟩
         have hxl : x < 2 ^ 64 := by
          rw [hx]
          have h := Nat.mul_lt_mul_of_pos_right hylt (Nat.two_pow_pos b')
          rw [← Nat.pow_add] at h
          exact Nat.lt_of_lt_of_le h (Nat.pow_le_pow_right (by omega) (by omega))
         have hshl : IntKind.u64.wrap ((y : Int) * 2 ^ b') = (x : Int) := by
          have e1 : ((y : Int) * 2 ^ b') = ((y * 2 ^ b' : Nat) : Int) := by simp
          rw [IntKind.wrap_u64, e1, ← hx]
          omega
         rw [← hy, ← hx] at hmain
         have hz1' := Hz.out
         have Hmain := Lib.hid hmain; have Hy := Lib.hid hy; have Hxl := Lib.hid hxl
         have hwin' : Hid (IsWin true (a' : Int) (b' : Int) (some (a', b'))) := Lib.hid ⟨⟨by omega, by omega⟩, rfl, rfl, rfl⟩
         clear hb' hmain hy hylt hx hxl hfar hz1'
         go_wp2_with fail
         refine (rget_o g row z _ bs _ _ rfl hz64 Hr4.out).mono ?_
         rintro e w5 ⟨rfl, hr5, hm5⟩
         rw [← Hy.out]
         have HM : Hid (XRMid wr w5 g row bs s win true (a' : Int) (b' : Int) x) := Lib.hid (XRMid.mk hr5 (Hm4.out.trans hm5 (fun _ _ h => h)) Hxl.out hwin'.out Hmain.out)
         clear hr5 hm5 Hr4 Hm4
         go_wp2_with fail
         go_meet
         case rel => exact ⟨true, (a' : Int), (b' : Int), x, rfl, rfl, rfl, rfl, HM.out⟩
     case rest =>
      obtain ⟨any', a', b', x, rfl, rfl, rfl, rfl, hM⟩ := hcut
      obtain ⟨s2, hr2, hm2, hxl, hbad, hgood⟩ := hM
      have Hxs2 := Lib.hid hxl; have Hbad := Lib.hid hbad; have Hgood := Lib.hid hgood
      have Hown2 : Hid (Own w.heap.size wc 41 u7 (cellsU xs)) := Lib.hid (hm2.owns Hown.out (fun k hk e => by have := (Hown.out.block k hk).1; have := hgl.out; omega))
      have Hr2 := Lib.hid hr2; have Hm2 := Lib.hid (Hm.out.trans hm2 (fun _ _ h => h))
      obtain ⟨gv, cap, hv, _, hglt⟩ := Hown2.out.form' (by rw [cellsU_length, Hxl.out]; omega)
      have hcell : wc.cell? ⟨gv, i - 1, none⟩ = some (.int .u64 (prev : Int)) := by
       have h := Hown2.out.cell' hv (i - 1) (by rw [cellsU_length, Hxl.out]; omega)
       rw [h, cellsU_get, Hpv.out]
       rfl
      rw [cellsU_length, Hxl.out] at hv
      subst hv
      obtain ⟨y, hy⟩ : ∃ y : Nat, y = prev ^^^ x := ⟨_, rfl⟩
      have hxor : bits .xor .u64 (prev : Int) (x : Int) = (y : Int) := by rw [hy]; exact u64_xor_nat prev x hp64.out hxl
      have hyl : Hid (y < 2 ^ 64) := Lib.hid (by rw [hy]; exact Nat.xor_lt_two_pow hp64.out hxl)
      have HN2 : Hid ((s2 = none → rdVals k R rem = none) ∧ ∀ R' rem', s2 = some (R', rem') → ∃ win, IsWin any' a' b' win ∧ rdVals k R rem = (rdXs (k - (i + 1)) win y R' rem').map fun p => ((xs ++ [y]) ++ p.1, p.2)) := Lib.hid ⟨fun h => HN.out.1 (hbad h), fun R' rem' h => by
       obtain ⟨win', h1, h2⟩ := hgood R' rem' h
       exact ⟨win', h1, by rw [hy]; exact HN.out.2 x win' R' rem' h2⟩⟩
      have hi3 : (0 : Int) ≤ (i : Int) - 1 := by omega
      have hi4 : (1 : Int) ≤ (i : Int) := by omega
      have hsz := Hm2.out.size
      have hr1' : (cellsU xs).length + 1 ≤ maxLen := by rw [cellsU_length, Hxl.out]; unfold maxLen; omega
      have hr2' : ((cellsU xs).length + 1) * 8 ≤ 140737488355328 := by rw [cellsU_length, Hxl.out]; omega
      clear hxl hbad hgood hr2 hm2 hy hfl
      go_wp2_with (at_builtin; refine wpList_app1 rfl (.tmp 74) (.tmp 82) _ rfl eltU rfl Hown2.out rfl rfl rfl hr1' hr2' hsz ?_; intro v' w4 HO HB)
      have HD2 : Hid (XRDec w w4 g row bs k R rem (i + 1) v' any' a' b' s2) := Lib.hid (XRDec.mk hgl.out Hrow.out Hr2.out Hm2.out HO.out HB.out Hxl.out Hxs.out hyl.out HN2.out)
      go_roundg (gk - 1)
      case measure => have := Hil.out; omega
      case rel => exact ⟨i + 1, any', a', b', s2, by have := Hil.out; omega, by go_num, rfl, rfl, rfl, HD2.out⟩
  ·have hik : i = k := by have := Hil.out; omega
   have Hres : Hid ((s = none → rdVals k R rem = none) ∧ ∀ R' rem', s = some (R', rem') → rdVals k R rem = some (xs, R', rem')) := Lib.hid (by
    rcases Nat.eq_zero_or_pos i with h0 | h0
    ·obtain ⟨b1, b4, _⟩ := hi0 h0
     subst b1 b4
     have hk0 : k = 0 := by omega
     subst hk0
     refine ⟨fun h => (by cases h), fun R' rem' h => ?_⟩
     injection h with h
     injection h with h3 h4
     subst h3 h4
     rfl
    ·obtain ⟨b1, b2⟩ := hi1 h0
     refine ⟨b1, fun R' rem' h => ?_⟩
     obtain ⟨win, prev, _, _, b3⟩ := b2 R' rem' h
     rw [b3, hik, Nat.sub_self]
     show some (xs ++ [], R', rem') = _
     rw [List.append_nil])
   have hxlk : xs.length = k := by rw [Hxl.out, hik]
   have Hxlk := Lib.hid hxlk
   clear hi0 hi1 hik hxlk
   have hres1 : s = none → Hid (rdVals k R rem = none) := fun h => Lib.hid (Hres.out.1 h)
   cases s with
   | none =>
    have hres2 := hres1 rfl
    have hfl' : wr.cell? ⟨g, 2, none⟩ = some (.bool true) := hfl
    clear Hres hres1 hfl
    go_wp2_with fail
    go_ret2
    exact XRDecEnd.none_ (valRow_none hres2.out) rfl Hm.out
   | some p =>
    obtain ⟨R', rem'⟩ := p
    have hres2 : Hid (rdVals k R rem = some (xs, R', rem')) := Lib.hid (Hres.out.2 R' rem' rfl)
    have hfl' : wr.cell? ⟨g, 2, none⟩ = some (.bool false) := hfl
    obtain ⟨Ao, co, rfl, _, hro2⟩ := own_formU Hown.out
    have Hro2 := Lib.hid hro2
    clear Hres hres1 hfl hro2
    have hlen := Hxlk.out
    obtain ⟨⟨fs0, ht0⟩, _, hxl64⟩ := rdVals_some hres2.out HR.out
    have hrle : rem' ≤ rem := by have := ht0.2.2; omega
    have Hxl64 := Lib.hid hxl64
    rw [hlen] at Hro2 ⊢
    obtain ⟨wA, hwA⟩ : ∃ wA, wA = wr.alloc (.cells #[.slice none 0 0] 72) := ⟨_, rfl⟩
    obtain ⟨h, hh⟩ : ∃ h, h = wr.heap.size := ⟨_, rfl⟩
    have hmA : Mod (fun _ => False) wr wA := by rw [hwA]; exact (Mod.refl _ _).alloc _
    have hwh : RWr wA h none 0 0 := by rw [hwA, hh]; exact ⟨.slice none 0 0, [], Blk.new _ _ _, World.ownsRow_nil _ _ _ _, rfl, (fun _ h => by cases h), rfl, rfl⟩
    have Hwh := Lib.hid hwh; have HmA := Lib.hid hmA; have HwA := Lib.hid hwA; have Hh := Lib.hid hh
    have HroA := Lib.hid (Hro2.out.mod hmA (Nat.le_refl _) (fun _ _ h => h))
    have hszA : wr.heap.size ≤ wA.heap.size := hmA.size
    have HownA : Hid (Own w.heap.size wA 41 (.slice Ao k co) (cellsU xs)) := Lib.hid (by have h := hmA.owns Hown.out (fun _ _ h => h); rw [hlen] at h; exact h)
    have HroR := Lib.hid (Hro.out.1.mod hmA (fun h => h) (fun _ h => h))
    clear hlen ht0 hxl64 hwA hh hmA hwh Hro2
    go_wp2_with (first | (rw [← Hh.out, ← HwA.out]))
    refine (rvalues_any wr.heap.size h none 0 0 k co Ao xs wA HroA.out Hxl64.out hszA (fun h0 ad e hq => by
     obtain ⟨ad', e', hb, _⟩ := HroA.out.2 h0
     rw [e] at e'
     injection e' with e'
     subst e'
     have := Hh.out
     rcases hq with hq | hq
     ·omega
     ·cases hq) Hwh.out (by omega)).mono ?_
    rintro e w2 ⟨rfl, rowh, hw2, hm2, hrt2⟩
    obtain ⟨L, hL⟩ : ∃ L, L = flen (encVals xs) := ⟨_, rfl⟩
    obtain ⟨N, hN⟩ : ∃ N, N = fnum (encVals xs) := ⟨_, rfl⟩
    rw [← hL, ← hN, Nat.zero_add, Nat.zero_mul, Nat.zero_add] at hw2
    have hLb : L ≤ 64 + 77 * k := by rw [hL, ← Hxlk.out]; exact encVals_len xs
    have hsmR : R' < 2 ^ rem' := by obtain ⟨⟨_, ht1⟩, _⟩ := rdVals_some hres2.out HR.out; exact ht1.2.1
    have HsmR := Lib.hid hsmR
    clear hsmR
    have hgw : g < wr.heap.size := by have := hgl.out; have := Hm.out.size; omega
    have hrw : row < wr.heap.size := by have := Hrow.out; have := Hm.out.size; omega
    have hrd := HroR.out.mod hm2 (fun e => by have := Hh.out; rcases e with e | e; omega; cases e) (fun _ e => by have := Hh.out; rcases e with e | e; omega; cases e)
    have Hm02 := Lib.hid (Hm.out.trans (HmA.out.trans hm2 (fun i hi e => by have := Hh.out; rcases e with e | e; omega; cases e)) (fun _ _ h => h.elim))
    have Hown2 : Hid (Own w.heap.size w2 41 (.slice Ao k co) (cellsU xs)) := Lib.hid (hm2.owns HownA.out (fun q hq e => by
     have hlt := (Hown.out.block q (by have h1 := Hxlk.out; rw [h1]; exact hq)).2
     have := Hh.out
     rcases e with e | e
     ·omega
     ·cases e))
    obtain ⟨Ax, cx, hx0⟩ := hw2.len
    have Hval := Lib.hid (valRow_if hres2.out)
    have HL := Lib.hid hL; have HNN := Lib.hid hN
    have Hrd := Lib.hid hrd; have Hw2 := Lib.hid hw2
    obtain ⟨A1, n1, c1, at1, hblk1, hsees, hne1, h81, hn1, hlt1, hok1, _⟩ := hrd
    obtain ⟨hat1, hR1⟩ := hok1 rfl
    have hn1l := hsees.1
    rw [cells8_length] at hn1l
    have hc1 := hblk1.cell 1
    simp at hc1
    obtain ⟨dl, hdl⟩ : ∃ dl, dl = rem - rem' := ⟨_, rfl⟩
    have hdw : IntKind.i64.wrap ((at1 : Int) - (fr : Int)) = (dl : Int) := by
     have := Hfr.out
     rw [IntWalk.i64_in _ (by omega)]
     omega
    have Hdl := Lib.hid hdl; have Hsees := Lib.hid hsees; have Hblk1 := Lib.hid hblk1; have Hlt1 := Lib.hid hlt1; have Hn1 := Lib.hid hn1l; have Hn1m := Lib.hid hn1; have Hrle := Lib.hid hrle
    clear hw2 hm2 hrt2 hL hN HroR hsees hne1 h81 hlt1 hok1 hat1 hR1 hn1l hblk1 hdl Hwh HmA HwA HroA HownA Hro hszA hrle hn1
    by_cases hLd : L = dl
    ·have hneb : ((L : Int) != (dl : Int)) = false := by simp; omega
     have HLd := Lib.hid hLd
     clear hLd
     go_wp2_with fail
     go_quiet (fail)
     clear hx0 hc1 hdw hneb
     obtain ⟨v0, Lb, hblkh, hownh, hrowh, hlt2, hLbl, hNb⟩ := Hw2.out
     have hal0 : Alike Lb R rem 0 := alike_zero HR.out (by rw [hLbl, HLd.out, Hdl.out]; omega)
     have Hal0 := Lib.hid hal0; have Hblkh := Lib.hid hblkh; have Hownh := Lib.hid hownh; have Hlt2 := Lib.hid hlt2; have HLbl := Lib.hid hLbl; have HNb := Lib.hid hNb
     have Hd0 : Hid (Mod (fun _ => False) w2 (w2.drewN nq)) := Lib.hid ((Mod.refl _ _).drewN nq)
     clear hblkh hownh hrowh hlt2 hLbl hNb hal0
     go_wp2_with fail
     go_loopg [15] L (fun l s15 wq => ∃ j : Nat, j + l = L ∧ s15 = .int .i64 (j : Int) ∧ Alike Lb R rem j ∧ Mod (fun _ => False) w2 wq)
     case atStart => exact ⟨0, by omega, rfl, Hal0.out, Hd0.out⟩
     case round =>
      obtain ⟨j, hjl, rfl, hal, hmq⟩ := hrel
      have Hal := Lib.hid hal; have Hmq := Lib.hid hmq; have Hjl := Lib.hid hjl
      clear hal hjl Hal0 Hd0
      by_cases hjL : j < L
      ·have hx0 := (Hmq.out.blk Hblkh.out (fun h => h)).cell 0
       simp at hx0
       rcases Hownh.out.2 with ⟨hv1, hv2⟩ | ⟨gb, capb, cur, hv1, hv2⟩
       ·exfalso
        have := HLbl.out
        omega
       ·subst hv1
        rw [HLbl.out] at hx0
        have hcb := Hownh.out.cellAt j (by have := HLbl.out; omega)
        obtain ⟨bb, hbb⟩ : ∃ bb, Lb[j]? = some bb := ⟨Lb[j]'(by have := HLbl.out; omega), List.getElem?_eq_getElem _⟩
        have hbb2 := Hlt2.out bb (List.mem_of_getElem? hbb)
        rw [cells8_get, hbb] at hcb
        have hcb' : wr.cell? ⟨gb, j, none⟩ = some (.int .u8 (bb : Int)) := by
         rw [hmq.cell (a := ⟨gb, j, none⟩) (World.block_lt_of_cell? w2 _ hcb) (fun h => h)]
         exact hcb
        have hj2 : j < rem := by have := Hal.out.2.1; have := HLbl.out; omega
        obtain ⟨t, ht⟩ : ∃ t, t = fr + j := ⟨_, rfl⟩
        have ht1 : (fr : Int) + (j : Int) = (t : Int) := by omega
        have ht8 : t < 8 * n1 := by have := Hfr.out; have := Hn1.out; omega
        have hn0 : 0 < n1 := by omega
        have hseq := Hsees.out
        obtain ⟨o, rfl, hrl, hcellb⟩ := hseq.2 hn0
        obtain ⟨by_, hby⟩ : ∃ by_, bs[t / 8]? = some by_ := ⟨bs[t / 8]'(by have := Hn1.out; omega), List.getElem?_eq_getElem _⟩
        have hcc := hcellb (t / 8) (.int .u8 (by_ : Int)) (by rw [cells8_get, hby]; rfl)
        have hcc' : wr.cell? ⟨row, o + t / 8, none⟩ = some (.int .u8 (by_ : Int)) := by
         rw [hmq.cell (a := ⟨row, o + t / 8, none⟩) hrl (fun h => h)]
         exact hcc
        have hby256 : by_ < 256 := Hlt1.out by_ (List.mem_of_getElem? hby)
        have hg0 := (Hmq.out.blk Hblk1.out (fun h => h)).cell 0
        simp at hg0
        obtain ⟨q, hq⟩ : ∃ q, q = t / 8 := ⟨_, rfl⟩
        obtain ⟨r8, hr8⟩ : ∃ r8, r8 = t % 8 := ⟨_, rfl⟩
        rw [← hq] at hcc'
        have ha1 : (t : Int) / 8 = (q : Int) := by omega
        have ha2 : (t : Int).tdiv 8 = (q : Int) := by rw [Int.tdiv_eq_ediv_of_nonneg (by omega)]; omega
        have ha3 : (t : Int).tmod 8 = (r8 : Int) := by rw [Int.tmod_eq_emod_of_nonneg (by omega)]; omega
        obtain ⟨f, hf⟩ : ∃ f, f = 7 - r8 := ⟨_, rfl⟩
        have hw7 : IntKind.i64.wrap (7 - (r8 : Int)) = (f : Int) := by rw [IntWalk.i64_in _ (by omega)]; omega
        have hw8 : IntKind.u64.wrap (f : Int) = (f : Int) := by rw [IntKind.wrap_u64]; omega
        have hwq : IntKind.i64.wrap (q : Int) = (q : Int) := IntWalk.i64_in _ (by have := Hn1m.out; omega)
        have hmin : min f 8 = f := by omega
        have hq0 : (0 : Int) ≤ (q : Int) := by omega
        have hq1 : (q : Int) < (n1 : Int) := by omega
        have hj0 : (0 : Int) ≤ (j : Int) := by omega
        have hjL' : (j : Int) < (L : Int) := by omega
        obtain ⟨cc, hcv⟩ : ∃ cc, cc = by_ / 2 ^ f % 2 := ⟨_, rfl⟩
        have hbit : bits .and .u8 ((by_ : Int) / 2 ^ f) 1 = (cc : Int) := by
         have e : (by_ : Int) / 2 ^ f = ((by_ / 2 ^ f : Nat) : Int) := by simp
         have h1 := Nat.div_le_self by_ (2 ^ f)
         rw [e, hcv]
         generalize by_ / 2 ^ f = x at *
         have h2 := u8_and_nat x 1 (by omega) (by decide)
         rw [nat_mask1] at h2
         exact h2
        have hread := read_bit (bs := bs) (n := n1) (a := t) (r := rem - j) (b := by_) (R := R) (rem := rem) (i := j) Hn1.out Hlt1.out Hfr.out.2.1 rfl hj2 (by have := Hfr.out; have := Hn1.out; omega) hby
        rw [← hr8, ← hf, ← hcv] at hread
        have Hread := Lib.hid hread; have Hbb := Lib.hid hbb
        have ht3 : t ≤ 8000000 := by have := Hn1m.out; omega
        clear hcb hbb ht hseq hcellb hby hcc hq hr8 hf hcv hread hmq hv2
        by_cases hbc : bb = cc
        ·have hneb : ((bb : Int) != (cc : Int)) = false := by simp; omega
         have HA2 : Hid (Alike Lb R rem (j + 1)) := Lib.hid (alike_more Hal.out Hbb.out Hread.out hbc)
         clear hbc
         go_wp2_with fail
         go_quiet (fail)
         have Hm3 : Hid (Mod (fun _ => False) w2 (wr.drewN nq)) := Lib.hid (Hmq.out.drewN nq)
         go_wp2_with fail
         go_roundg (gk - 1)
         case measure => have := Hjl.out; omega
         case rel => exact ⟨j + 1, by have := Hjl.out; omega, by go_num, HA2.out, Hm3.out⟩
        ·have hneb : ((bb : Int) != (cc : Int)) = true := by simp; omega
         have hnone : Hid (valRow k R rem = none) := Lib.hid (by
          rw [Hval.out, if_neg]
          rintro ⟨_, e2⟩
          have h := alike_not Hlt2.out Hal.out Hbb.out Hread.out hbc
          rw [HNb.out, HLbl.out, HNN.out, e2] at h
          exact h (by rw [show rem - L = rem' by have := HLd.out; have := Hdl.out; have := Hrle.out; omega]))
         clear hbc
         go_wp2_with fail
         go_quiet (fail)
         go_wp2_with fail
         go_ret2
         exact XRDecEnd.none_ hnone.out rfl ((Hm02.out.trans Hmq.out (fun _ _ h => h.elim)).drewN _)
      ·obtain rfl : j = L := by have := Hjl.out; omega
       obtain ⟨Ax2, cx2, hx0⟩ := (Hw2.out.mod Hmq.out (fun h => h) (fun _ _ h => h)).len
       have hsome : Hid (valRow k R rem = some (xs, R', rem')) := Lib.hid (by
        rw [Hval.out, if_pos]
        refine ⟨by rw [← HL.out]; have := HLd.out; have := Hdl.out; have := Hrle.out; omega, ?_⟩
        have h := Hal.out
        rw [← HLbl.out] at h
        have h2 := alike_all h
        rw [HNb.out, HLbl.out, HNN.out] at h2
        rw [h2, show rem - j = rem' by have := HLd.out; have := Hdl.out; have := Hrle.out; omega])
       go_wp2_with fail
       go_ret2
       unfold XRDecEnd
       rw [hsome.out]
       exact ⟨_, rfl, Hmq.out.owns Hown2.out (fun _ _ h => h), ⟨Hrd.out.mod Hmq.out (fun h => h) (fun _ h => h), HsmR.out⟩, Hm02.out.trans Hmq.out (fun _ _ h => h.elim)⟩
    ·have hneb : ((L : Int) != (dl : Int)) = true := by simp; omega
     have hnone : Hid (valRow k R rem = none) := Lib.hid (by
      rw [Hval.out, if_neg]
      rintro ⟨e1, _⟩
      rw [← HL.out] at e1
      exact hLd (by rw [Hdl.out]; omega))
     clear hLd
     go_wp2_with fail
     go_quiet (fail)
     go_wp2_with fail
     go_ret2
     exact XRDecEnd.none_ hnone.out rfl (Hm02.out.drewN _)
end Go.Proofs.YtjmjlflmcpkmnaaGreatDoor

/- The document's own answer: bytes are read as values by their least. -/
namespace Go.Proofs.YtjmjlflmcpkmnaaGreatDoor
open Go.RowKit

/-- Encode, then string(..) of what it answers: the document's own. -/
theorem rpenc_at (A : Option Addr) (n cap B : Nat) (us : List Nat) (s : ByteArray) (w : World) (hs : Rds w B A n (cellsU us)) (hB : B ≤ w.heap.size) (hu : ∀ x ∈ us, x < 2 ^ 64) (hn : n ≤ 1000000) (hss : strOf (encP us) = s) :
  Calls Tryz.prog 64 #[.slice A n cap] w fun e w' => ∃ A' n' c', e = .returned (.slice A' n' c') ∧ (convert 25 9 (.slice A' n' c')).run Tryz.prog w' = .ok (.string s) w' ∧ Mod (fun _ => False) w w' := by
 subst hss
 refine (rpenc_any A n cap B us w hs hB hu hn).mono ?_
 rintro e w' ⟨v, rfl, ho, hm⟩
 obtain ⟨A', c', rfl, _, _, hr⟩ := own_form8 ho
 exact ⟨A', _, c', rfl, conv_rds Tryz.underlying25 Tryz.underlying5 Tryz.underlying9 w' hr (encP_256 us), hm⟩
/-- i of the numbers have the least added. -/
def mixL (lo i : Nat) (l : List Nat) : List Nat := addL lo (l.take i) ++ l.drop i
theorem mixL_len {lo i : Nat} {l : List Nat} : (mixL lo i l).length = l.length := by
 unfold mixL
 rw [List.length_append, addL_len, List.length_take, List.length_drop]
 omega
theorem mixL_zero (lo : Nat) (l : List Nat) : mixL lo 0 l = l := by unfold mixL addL; simp
theorem mixL_all {lo i : Nat} {l : List Nat} (h : l.length ≤ i) : mixL lo i l = addL lo l := by
 unfold mixL
 rw [List.take_of_length_le h, List.drop_of_length_le h, List.append_nil]
theorem mixL_at {lo i x : Nat} {l : List Nat} (h : l[i]? = some x) : (mixL lo i l)[i]? = some x := by
 have hi := (List.getElem?_eq_some_iff.1 h).1
 have hl : (addL lo (l.take i)).length = i := by rw [addL_len, List.length_take]; omega
 unfold mixL
 rw [List.getElem?_append_right (by omega), hl, Nat.sub_self, List.getElem?_drop, Nat.add_zero]
 exact h
theorem mixL_set {lo i x : Nat} {l : List Nat} (h : l[i]? = some x) : (mixL lo i l).set i ((x + lo) % 2 ^ 64) = mixL lo (i + 1) l := by
 have hi := (List.getElem?_eq_some_iff.1 h).1
 have hl : (addL lo (l.take i)).length = i := by rw [addL_len, List.length_take]; omega
 unfold mixL
 rw [List.set_append_right _ _ (by omega), hl, Nat.sub_self, drop_at' h, List.set_cons_zero, take_succ_of h, addL_snoc, List.append_assoc]
 rfl
theorem decP_bad {N : Nat} {bs : List Nat} (hN : ¬ N = 0) (h : (dec bs).2 = 0 ∨ bs.length ≤ (dec bs).2 ∨ 64 < bs.getD (dec bs).2 0) : decP N bs = none := by
 unfold decP
 rw [if_neg hN, if_pos h]
theorem decP_good {N lo a sz : Nat} {bs : List Nat} (hN : ¬ N = 0) (hlo : (dec bs).1 = lo) (ha : (dec bs).2 = a) (hsz : bs.getD a 0 = sz) (h0 : ¬ a = 0) (hn : a < bs.length) (h64 : sz ≤ 64) :
  decP N bs = if encP (addL lo (rdW sz N (some (val (bs.drop (a + 1)), 8 * (bs.drop (a + 1)).length)))) = bs then some (addL lo (rdW sz N (some (val (bs.drop (a + 1)), 8 * (bs.drop (a + 1)).length)))) else none := by
 have e : outP N bs = addL lo (rdW sz N (some (val (bs.drop (a + 1)), 8 * (bs.drop (a + 1)).length))) := by
  unfold outP
  rw [ha, hsz, hlo]
  rfl
 unfold decP
 rw [if_neg hN, if_neg (by rw [ha, hsz]; omega), e]
set_option maxHeartbeats 4000000 in
set_option maxRecDepth 100000 in
theorem rpdec_any (A : Option Addr) (n cap B N : Nat) (m : Int) (bs : List Nat) (w : World) (hs : Rds w B A n (cells8 bs)) (hB : B ≤ w.heap.size) (hlt : lt256 bs) (hnc : n ≤ cap) (hcm : cap ≤ maxLen) (hn : n ≤ 1000000) (hN : max 0 (min m 65535) = (N : Int)) :
  Calls Tryz.prog 78 #[.slice A n cap, .int .i64 m] w fun e w' => EncE w w' (decP N bs) e := by
 have hul : bs.length = n := by have := hs.1; rwa [cells8_length] at this
 have hN65 : N ≤ 65535 := by omega
 have Hheld := Lib.hid (fun W => rheld_any m N W hN)
 clear hN
 by_cases hN0 : N = 0
 ·subst hN0
  have hdec : decP 0 bs = if bs = [] then some [] else none := by unfold decP; rw [if_pos rfl]
  by_cases hn0 : n = 0
  ·obtain rfl := List.eq_nil_of_length_eq_zero (hul.trans hn0)
   have Hd := Lib.hid hdec
   have hnb : ((n : Int) == 0) = true := by simp; omega
   clear hs hdec
   go_enter Tryz.func78, Tryz.ntmps78
   go_wp2_with fail
   refine (Hheld.out _).mono ?_
   rintro e w' ⟨rfl, rfl⟩
   go_wp2_with fail
   go_ret2
   rw [Hd.out]
   exact ⟨_, rfl, Own.nil _ _ _, Mod.refl _ _⟩
  ·have hne : ¬ bs = [] := by rintro rfl; exact hn0 hul.symm
   have Hd : Hid (decP 0 bs = none) := Lib.hid (by rw [hdec, if_neg hne])
   have hnb : ((n : Int) == 0) = false := by simp; omega
   clear hs hdec hne hul
   go_enter Tryz.func78, Tryz.ntmps78
   go_wp2_with fail
   refine (Hheld.out _).mono ?_
   rintro e w' ⟨rfl, rfl⟩
   go_wp2_with fail
   go_ret2
   rw [Hd.out]
   exact ⟨rfl, Mod.refl _ _⟩
 ·have hNb : ((N : Int) == 0) = false := by simp; omega
  have hcall := vrget_any A n cap B bs w hs hlt (by omega)
  obtain ⟨lo, hlo⟩ : ∃ lo, (dec bs).1 = lo := ⟨_, rfl⟩
  obtain ⟨a, ha⟩ : ∃ a, (dec bs).2 = a := ⟨_, rfl⟩
  rw [hlo, ha] at hcall
  have Hcall := Lib.hid hcall
  have Hlo := Lib.hid hlo; have Ha := Lib.hid ha; have Hlt := Lib.hid hlt; have HB := Lib.hid hB; have Hul := Lib.hid hul; have Hcm := Lib.hid hcm; have Hs := Lib.hid hs
  have hlo64 : Hid (lo < 2 ^ 64) := Lib.hid (by rw [← hlo]; exact dec_lt hlt)
  clear hcall hlo ha hlt hB hul hs hcm
  by_cases ha0 : a = 0
  ·have hab : ((a : Int) == 0) = true := by simp; omega
   have Hd : Hid (decP N bs = none) := Lib.hid (decP_bad hN0 (.inl (by rw [Ha.out]; exact ha0)))
   clear Hs ha0
   go_enter Tryz.func78, Tryz.ntmps78
   go_wp2_with fail
   refine (Hheld.out _).mono ?_
   rintro e w' ⟨rfl, rfl⟩
   go_wp2_with fail
   refine Hcall.out.mono ?_
   rintro e w' ⟨rfl, rfl⟩
   go_wp2_with fail
   go_ret2
   rw [Hd.out]
   exact ⟨rfl, Mod.refl _ _⟩
  ·have hab : ((a : Int) == 0) = false := by simp; omega
   by_cases han : n ≤ a
   ·have hani : (n : Int) ≤ (a : Int) := by omega
    have Hd : Hid (decP N bs = none) := Lib.hid (decP_bad hN0 (.inr (.inl (by rw [Ha.out, Hul.out]; exact han))))
    clear Hs ha0 han
    go_enter Tryz.func78, Tryz.ntmps78
    go_wp2_with fail
    refine (Hheld.out _).mono ?_
    rintro e w' ⟨rfl, rfl⟩
    go_wp2_with fail
    refine Hcall.out.mono ?_
    rintro e w' ⟨rfl, rfl⟩
    go_wp2_with fail
    go_ret2
    rw [Hd.out]
    exact ⟨rfl, Mod.refl _ _⟩
   ·have hani : (a : Int) < (n : Int) := by omega
    have ha0i : (0 : Int) ≤ (a : Int) := by omega
    obtain ⟨ad, u, rfl, hadb, hu, hcu⟩ := Hs.out.at_ (show a < n by omega)
    rw [cells8_get] at hu
    obtain ⟨sz, hsz, rfl⟩ := Option.map_eq_some_iff.1 hu
    have hsz256 : sz < 256 := Hlt.out sz (List.mem_of_getElem? hsz)
    have Hsz : Hid (bs.getD a 0 = sz) := Lib.hid (by rw [List.getD_eq_getElem?_getD, hsz]; rfl)
    by_cases h64 : 64 < sz
    ·have h64i : (64 : Int) < (sz : Int) := by omega
     have Hd : Hid (decP N bs = none) := Lib.hid (decP_bad hN0 (.inr (.inr (by rw [Ha.out, Hsz.out]; exact h64))))
     clear Hs ha0 han hu hsz hadb
     go_enter Tryz.func78, Tryz.ntmps78
     go_wp2_with fail
     refine (Hheld.out _).mono ?_
     rintro e w' ⟨rfl, rfl⟩
     go_wp2_with fail
     refine Hcall.out.mono ?_
     rintro e w' ⟨rfl, rfl⟩
     go_wp2_with fail
     go_ret2
     rw [Hd.out]
     exact ⟨rfl, Mod.refl _ _⟩
    ·have hsz64 : sz ≤ 64 := by omega
     have h64i : ¬ (64 : Int) < (sz : Int) := by omega
     obtain ⟨p, hp⟩ : ∃ p, p = a + 1 := ⟨_, rfl⟩
     have hpi : (a : Int) + 1 = (p : Int) := by omega
     have hpn : p ≤ n := by omega
     obtain ⟨A1, hA1⟩ : ∃ A1, (if cap = p then some ad else some (ad.add p)) = A1 := ⟨_, rfl⟩
     have hr1 : Rds w B A1 (n - p) (cells8 (bs.drop p)) := by
      have h := Hs.out.drop hpn hnc
      rw [show (cells8 bs).drop p = cells8 (bs.drop p) by simp [cells8, List.map_drop]] at h
      rw [← hA1]
      exact h
     have hw0 : 0 < w.heap.size := (Hs.out.some_mem HB.out (by omega)).1
     have hlt2 : lt256 (bs.drop p) := fun b hb => Hlt.out b (List.mem_of_mem_drop hb)
     obtain ⟨raw, hraw⟩ : ∃ raw, raw = rdW sz N (some (val (bs.drop p), 8 * (bs.drop p).length)) := ⟨_, rfl⟩
     have Hrl : Hid (raw.length = N) := Lib.hid (by rw [hraw, rdW_len])
     obtain ⟨V, hV⟩ : ∃ V, V = addL lo raw := ⟨_, rfl⟩
     have HV64 : Hid (∀ x ∈ V, x < 2 ^ 64) := Lib.hid (by rw [hV]; exact addL_lt _ _)
     have Hdec : Hid (decP N bs = if encP V = bs then some V else none) := Lib.hid (by
      have h := decP_good (N := N) hN0 Hlo.out Ha.out Hsz.out ha0 (by rw [Hul.out]; omega) hsz64
      rw [← hp, ← hraw, ← hV] at h
      exact h)
     have hunp := fun c W (hW : Mod (fun _ => False) w W) => runpack_any A1 (n - p) c B N sz (bs.drop p) W (hr1.mod hW HB.out (fun _ _ h => h)) (Nat.le_trans HB.out hW.size) hlt2 (by omega) hN65 hsz64 (Nat.lt_of_lt_of_le hw0 hW.size)
     rw [← hraw] at hunp
     have hpci : (p : Int) ≤ (cap : Int) := by omega
     have hpni : (p : Int) ≤ (n : Int) := by omega
     have hp0 : (0 : Int) ≤ (p : Int) := by omega
     have Hunp := Lib.hid hunp; have HV := Lib.hid hV; have Hcell : Hid (∀ W, Mod (fun _ => False) w W → W.cell? (ad.add a) = some (.int .u8 (sz : Int))) := Lib.hid (fun W hW => (hW.cell (a := ad.add a) (by rw [add_block]; have := HB.out; omega) (fun h => h)).trans hcu)
     clear hu hsz hr1 hw0 hlt2 hraw hV hunp hp ha0 han h64 hadb Hsz
     go_enter Tryz.func78, Tryz.ntmps78
     go_wp2_with fail
     refine (Hheld.out _).mono ?_
     rintro e w' ⟨rfl, rfl⟩
     go_wp2_with fail
     refine Hcall.out.mono ?_
     rintro e w' ⟨rfl, rfl⟩
     go_upto_region 7 with fail
     have S0 : Hid (Mod (fun _ => False) w w.drew) := Lib.hid (Mod.refl _ _).drew
     go_cut [8] (fun s8 wc => ∃ (g8 c8 : Nat), s8 = .slice (some ⟨g8, 0, none⟩) N c8 ∧ w.heap.size ≤ g8 ∧ Own w.heap.size wc 41 (.slice (some ⟨g8, 0, none⟩) N c8) (cellsU raw) ∧ Mod (fun _ => False) w wc)
     case first =>
      clear hcu
      have hcd := Hcell.out _ S0.out
      have hwp : IntKind.i64.wrap (p : Int) = (p : Int) := IntWalk.i64_in _ (by omega)
      have hws : IntKind.i64.wrap (sz : Int) = (sz : Int) := IntWalk.i64_in _ (by omega)
      go_region_held_law (fun w' => w'.cell? (ad.add a) = some (.int .u8 (sz : Int))) (first | exact Hcell.out _ S1.out | exact Hcell.out _ S0.out)
       (first
        | (go_at_call 111; refine (Hunp.out _ _ S0.out).mono ?_; rintro e w1 ⟨v1, rfl, ho1, hm1⟩; have S1 : Hid (Mod (fun _ => False) w w1) := Lib.hid (S0.out.trans hm1 (fun _ _ h => h)); have O1 : Hid (Own w.heap.size w1 41 v1 (cellsU raw)) := Lib.hid ho1; clear ho1 hm1))
      all_goals
       obtain ⟨g8, c8, rfl, hg8, _⟩ := O1.out.form' (by rw [cellsU_length, Hrl.out]; omega)
       have hO1 := O1.out
       rw [cellsU_length, Hrl.out] at hO1 ⊢
       have HO1 := Lib.hid hO1; have Hg8 := Lib.hid hg8
       clear hO1 hg8 O1
       go_wp2_with fail
       go_meet
       exact ⟨_, _, rfl, Hg8.out, HO1.out, S1.out⟩
     case rest =>
      obtain ⟨g8, c8, rfl, hg8, hown, hm1⟩ := hcut
      have Hg8 := Lib.hid hg8
      have M0 : Hid (Own w.heap.size wc 41 (.slice (some ⟨g8, 0, none⟩) N c8) (cellsU (mixL lo 0 raw)) ∧ Mod (fun _ => False) w wc) := Lib.hid ⟨by rw [mixL_zero]; exact hown, hm1⟩
      clear hg8 hown hm1 hcu S0
      go_wp2_with fail
      go_loopg [9] N (fun l s9 wr => ∃ i : Nat, i + l = N ∧ s9 = .int .i64 (i : Int) ∧ Own w.heap.size wr 41 (.slice (some ⟨g8, 0, none⟩) N c8) (cellsU (mixL lo i raw)) ∧ Mod (fun _ => False) w wr)
      case atStart => exact ⟨0, by omega, rfl, M0.out⟩
      case round =>
       obtain ⟨i, hil, rfl, hown, hm⟩ := hrel
       have Hown := Lib.hid hown; have Hm := Lib.hid hm; have Hil := Lib.hid hil
       clear hown hm hil M0
       by_cases hin : i < N
       ·obtain ⟨x, hx⟩ : ∃ x, raw[i]? = some x := ⟨raw[i]'(by rw [Hrl.out]; exact hin), List.getElem?_eq_getElem _⟩
        obtain ⟨y, hy⟩ : ∃ y, y = (x + lo) % 2 ^ 64 := ⟨_, rfl⟩
        have hml : (mixL lo i raw).length = N := by rw [mixL_len, Hrl.out]
        obtain ⟨_, hfz, hset⟩ := own_setU (b := y) Hown.out hml.symm hin
        have hcx : wr.cell? ⟨g8, i, none⟩ = some (.int .u64 (x : Int)) := by
         rw [Hown.out.cell' rfl i (by rw [cellsU_length, hml]; exact hin), cellsU_get, mixL_at hx]
         rfl
        rw [hy, mixL_set hx, ← hy] at hset
        have hxr : x < 2 ^ 64 ∨ True := .inr trivial
        clear hxr
        have hyw : IntKind.u64.wrap ((x : Int) + (lo : Int)) = (y : Int) := by rw [IntKind.wrap_u64]; omega
        have Hset := Lib.hid hset
        have hi0 : (0 : Int) ≤ (i : Int) := by omega
        have hiN : (i : Int) < (N : Int) := by omega
        clear hx hy hml hset
        go_wp2_with fail
        go_roundg (gk - 1)
        case measure => have := Hil.out; omega
        case rel => exact ⟨i + 1, by have := Hil.out; omega, by go_num, Hset.out, Hm.out.setCell (fun h => absurd h (by have := Hg8.out; simp; omega)) _⟩
       ·have hi : i = N := by have := Hil.out; omega
        subst hi
        have hown := Hown.out
        rw [mixL_all (by rw [Hrl.out]; exact Nat.le_refl _), ← HV.out] at hown
        have HownV := Lib.hid hown
        have Hr8 : Hid (Rds wr wr.heap.size (some ⟨g8, 0, none⟩) i (cellsU V)) := Lib.hid (Own.rds hown (by rw [HV.out, addL_len, Hrl.out]))
        obtain ⟨s1, hs1⟩ : ∃ s1, strOf (encP V) = s1 := ⟨_, rfl⟩
        obtain ⟨s2, hs2⟩ : ∃ s2, strOf bs = s2 := ⟨_, rfl⟩
        have HCV : Hid (∀ W, Mod (fun _ => False) w W → (convert 25 9 (.slice (some ad) n cap)).run Tryz.prog W = .ok (.string s2) W) := Lib.hid (fun W hW => by
         rw [← hs2]
         exact conv_rds Tryz.underlying25 Tryz.underlying5 Tryz.underlying9 W (Hs.out.mod hW HB.out (fun _ _ h => h)) Hlt.out)
        have Hfr : Hid (∀ W c, Mod (fun _ => False) wr W → Calls Tryz.prog 64 #[.slice (some ⟨g8, 0, none⟩) i c] W fun e w' => ∃ A' n' c', e = .returned (.slice A' n' c') ∧ (convert 25 9 (.slice A' n' c')).run Tryz.prog w' = .ok (.string s1) w' ∧ Mod (fun _ => False) W w') := Lib.hid (fun W c hW => rpenc_at _ i c _ V s1 W (Hr8.out.new hW) hW.size HV64.out (by omega) hs1)
        obtain ⟨b, hb⟩ : ∃ b, decide (encP V = bs) = b := ⟨_, rfl⟩
        obtain ⟨hq, hq'⟩ := str_ne hs1 hs2 (encP_256 V) Hlt.out hb
        have Hb := Lib.hid hb
        have S0 : Hid (Mod (fun _ => False) wr wr.drew) := Lib.hid (Mod.refl _ _).drew
        clear hs1 hs2 hb hown Hown
        go_upto_region 12 with fail
        go_cut [67] (fun s67 wc => s67 = .bool (!b) ∧ Mod (fun _ => False) wr wc)
        case first =>
         have cv0 := HCV.out _ (Hm.out.trans S0.out (fun _ _ h => h))
         go_region_held_law (fun w' => Mod (fun _ => False) wr w') (first | exact S1.out | exact S0.out)
          (first
           | (go_at_call 64; refine (Hfr.out _ _ S0.out).mono ?_; rintro e w5 ⟨A5, n5, c5, rfl, hcv, hm5⟩; have S1 : Hid (Mod (fun _ => False) wr w5) := Lib.hid (S0.out.trans hm5 (fun _ _ h => h)); have cv5 := HCV.out _ (Hm.out.trans S1.out (fun _ _ h => h)); clear hm5))
         all_goals
          go_wp2_with fail
          go_meet
          exact ⟨rfl, S1.out⟩
        case rest =>
         obtain ⟨rfl, hm7⟩ := hcut
         have Hm7 := Lib.hid (Hm.out.trans hm7 (fun _ _ h => h)); have Hown7 := Lib.hid (HownV.out.mod hm7)
         clear hm7 hq hq' S0
         cases b with
         | true =>
          have Hd : Hid (decP i bs = some V) := Lib.hid (by rw [Hdec.out, if_pos (of_decide_eq_true Hb.out)])
          go_wp2_with fail
          go_ret2
          rw [Hd.out]
          exact ⟨_, rfl, Hown7.out, Hm7.out⟩
         | false =>
          have Hd : Hid (decP i bs = none) := Lib.hid (by rw [Hdec.out, if_neg (of_decide_eq_false Hb.out)])
          go_wp2_with fail
          go_ret2
          rw [Hd.out]
          exact ⟨rfl, Hm7.out⟩
end Go.Proofs.YtjmjlflmcpkmnaaGreatDoor

/- The document's own answer: bytes are read as values by their list. -/
namespace Go.Proofs.YtjmjlflmcpkmnaaGreatDoor
open Go.RowKit Go.Maps

/-- What GetDict has laid of i values. -/
def ROutTo (wB wr : World) (l raw : List Nat) (i : Nat) (v : Value) : Prop :=
 Own wB.heap.size wr 41 v (cellsU (outD l (raw.take i))) ∧ (∀ j ∈ raw.take i, j < l.length) ∧ Mod (fun _ => False) wB wr
theorem decD_bad {N : Nat} {bs : List Nat} (hN : ¬ N = 0) (h : (dec bs).2 = 0 ∨ (dec bs).1 = 0 ∨ 256 < (dec bs).1) : decD N bs = none := by
 unfold decD
 rw [if_neg hN, if_pos h]
set_option maxHeartbeats 4000000 in
set_option maxRecDepth 100000 in
theorem rddec_any (A : Option Addr) (n cap B N : Nat) (m : Int) (bs : List Nat) (w : World) (hs : Rds w B A n (cells8 bs)) (hB : B ≤ w.heap.size) (hlt : lt256 bs) (hnc : n ≤ cap) (hcm : cap ≤ maxLen) (hn : n ≤ 1000000) (hN : max 0 (min m 65535) = (N : Int)) :
  Calls Tryz.prog 79 #[.slice A n cap, .int .i64 m] w fun e w' => EncE w w' (decD N bs) e := by
 have hul : bs.length = n := by have := hs.1; rwa [cells8_length] at this
 have hN65 : N ≤ 65535 := by omega
 have Hheld := Lib.hid (fun W => rheld_any m N W hN)
 clear hN
 by_cases hN0 : N = 0
 ·subst hN0
  have hdec : decD 0 bs = if bs = [] then some [] else none := by unfold decD; rw [if_pos rfl]
  by_cases hn0 : n = 0
  ·obtain rfl := List.eq_nil_of_length_eq_zero (hul.trans hn0)
   have Hd := Lib.hid hdec
   have hnb : ((n : Int) == 0) = true := by simp; omega
   clear hs hdec
   go_enter Tryz.func79, Tryz.ntmps79
   go_wp2_with fail
   refine (Hheld.out _).mono ?_
   rintro e w' ⟨rfl, rfl⟩
   go_wp2_with fail
   go_ret2
   rw [Hd.out]
   exact ⟨_, rfl, Own.nil _ _ _, Mod.refl _ _⟩
  ·have hne : ¬ bs = [] := by rintro rfl; exact hn0 hul.symm
   have Hd : Hid (decD 0 bs = none) := Lib.hid (by rw [hdec, if_neg hne])
   have hnb : ((n : Int) == 0) = false := by simp; omega
   clear hs hdec hne hul
   go_enter Tryz.func79, Tryz.ntmps79
   go_wp2_with fail
   refine (Hheld.out _).mono ?_
   rintro e w' ⟨rfl, rfl⟩
   go_wp2_with fail
   go_ret2
   rw [Hd.out]
   exact ⟨rfl, Mod.refl _ _⟩
 ·have hNb : ((N : Int) == 0) = false := by simp; omega
  have hcall := vrget_any A n cap B bs w hs hlt (by omega)
  obtain ⟨K, hK⟩ : ∃ K, (dec bs).1 = K := ⟨_, rfl⟩
  obtain ⟨p, hp⟩ : ∃ p, (dec bs).2 = p := ⟨_, rfl⟩
  rw [hK, hp] at hcall
  have Hcall := Lib.hid hcall
  clear hcall
  by_cases hbad : p = 0 ∨ K = 0 ∨ 256 < K
  ·have Hd : Hid (decD N bs = none) := Lib.hid (decD_bad hN0 (by rw [hK, hp]; exact hbad))
   clear hs hK hp
   have hways : p = 0 ∨ ¬ p = 0 ∧ (K = 0 ∨ ¬ K = 0 ∧ 256 < K) := by omega
   clear hbad
   rcases hways with h1 | ⟨h1, h2 | ⟨h2, h3⟩⟩
   ·have hb1 : ((p : Int) == 0) = true := by simp; omega
    go_enter Tryz.func79, Tryz.ntmps79
    go_wp2_with fail
    refine (Hheld.out _).mono ?_
    rintro e w' ⟨rfl, rfl⟩
    go_wp2_with fail
    refine Hcall.out.mono ?_
    rintro e w' ⟨rfl, rfl⟩
    go_wp2_with fail
    go_ret2
    rw [Hd.out]
    exact ⟨rfl, Mod.refl _ _⟩
   ·have hb1 : ((p : Int) == 0) = false := by simp; omega
    have hb2 : ((K : Int) == 0) = true := by simp; omega
    go_enter Tryz.func79, Tryz.ntmps79
    go_wp2_with fail
    refine (Hheld.out _).mono ?_
    rintro e w' ⟨rfl, rfl⟩
    go_wp2_with fail
    refine Hcall.out.mono ?_
    rintro e w' ⟨rfl, rfl⟩
    go_wp2_with fail
    go_ret2
    rw [Hd.out]
    exact ⟨rfl, Mod.refl _ _⟩
   ·have hb1 : ((p : Int) == 0) = false := by simp; omega
    have hb2 : ((K : Int) == 0) = false := by simp; omega
    have hb3 : (256 : Int) < (K : Int) := by omega
    go_enter Tryz.func79, Tryz.ntmps79
    go_wp2_with fail
    refine (Hheld.out _).mono ?_
    rintro e w' ⟨rfl, rfl⟩
    go_wp2_with fail
    refine Hcall.out.mono ?_
    rintro e w' ⟨rfl, rfl⟩
    go_wp2_with fail
    go_ret2
    rw [Hd.out]
    exact ⟨rfl, Mod.refl _ _⟩
  ·have hpn : p ≤ n := by
    rw [← hp, ← hul]
    rcases Nat.eq_zero_or_pos (dec bs).2 with h | h
    ·omega
    ·exact (dec_some hlt h).1
   have hb1 : ((p : Int) == 0) = false := by simp; omega
   have hb2 : ((K : Int) == 0) = false := by simp; omega
   have hb3 : ¬ (256 : Int) < (K : Int) := by omega
   obtain ⟨A1, hA1⟩ : ∃ A1, (if cap = p then A else A.map (·.add p)) = A1 := ⟨_, rfl⟩
   have hr1 : Rds w w.heap.size A1 (n - p) (cells8 (bs.drop p)) := by
    have h := (hs.more hB).drop hpn hnc
    rw [show (cells8 bs).drop p = cells8 (bs.drop p) by simp [cells8, List.map_drop]] at h
    rw [← hA1]
    exact h
   have hw0 : 0 < w.heap.size := (hs.some_mem hB (by omega)).1
   have hpi : (p : Int) ≤ (n : Int) := by omega
   have hpc : (p : Int) ≤ (cap : Int) := by omega
   have hp0 : (0 : Int) ≤ (p : Int) := by omega
   have HgL : Hid (getL bs = rdV K (bs.drop p)) := Lib.hid (by unfold getL; rw [hK, hp, if_neg (by omega)])
   have G0 : Hid (GetLTo w w (bs.drop p) 0 (.slice A1 (n - p) (cap - p)) (.slice none 0 0)) := Lib.hid ⟨A1, n - p, cap - p, [], bs.drop p, rfl, by omega, by omega, hr1, rfl, Own.nil _ _ _, Mod.refl _ _, .inl rfl⟩
   have Hlt' : Hid (lt256 (bs.drop p)) := Lib.hid (fun b hb => hlt b (List.mem_of_mem_drop hb))
   have hK2 : K ≤ 256 := by omega
   have hK1 : 1 ≤ K := by omega
   have Hs := Lib.hid hs; have Hlt := Lib.hid hlt; have HB := Lib.hid hB; have Hul := Lib.hid hul; have Hw0 := Lib.hid hw0
   clear hs hK hp hul hr1 hpn hlt hB hcm hnc hbad hw0
   go_enter Tryz.func79, Tryz.ntmps79
   go_wp2_with fail
   refine (Hheld.out _).mono ?_
   rintro e w' ⟨rfl, rfl⟩
   go_wp2_with fail
   refine Hcall.out.mono ?_
   rintro e w' ⟨rfl, rfl⟩
   go_wp2_with fail
   clear hpi hpc hp0 hA1 hb1 hb2 hb3
   go_loopg [8, 9, 10] K (fun l s8 s9 s10 wr => ∃ i : Nat, i + l = K ∧ s10 = .int .u64 (i : Int) ∧ GetLTo w wr (bs.drop p) i s8 s9)
   case atStart => exact ⟨0, by omega, rfl, G0.out⟩
   case round =>
    obtain ⟨i, hil, rfl, A0, n0, c0, l, r, rfl, hnc0, hcm0, hr0, hrd, hown, hm, hA0⟩ := hrel
    obtain ⟨hl1, hl2, hl3, hl4⟩ := rdV_some _ _ _ _ Hlt'.out hrd
    have hrl : r.length = n0 := by have := hr0.1; rwa [cells8_length] at this
    have Hr0 := Lib.hid hr0; have Hrd := Lib.hid hrd; have Hown := Lib.hid hown; have Hm := Lib.hid hm; have HA0 := Lib.hid hA0; have Hil := Lib.hid hil; have Hl1 := Lib.hid hl1; have Hl2 := Lib.hid hl2; have Hl3 := Lib.hid hl3
    have Hcm0 := Lib.hid hcm0
    have hn0 : n0 ≤ 1000000 := by
     have h := congrArg List.length hl4
     have h2 := Hul.out
     rw [List.length_drop, List.length_append] at h
     omega
    clear hr0 hrd hown hm hA0 hil G0 hl1 hl2 hl3 hl4 hcm0
    by_cases hin : i < K
    ·have hcall := vrget_any A0 n0 c0 _ r wr Hr0.out Hl3.out (by unfold maxLen; omega)
     have hst := rdV_succ i (bs.drop p)
     rw [Hrd.out] at hst
     have hst' : rdV (i + 1) (bs.drop p) = if (dec r).2 = 0 then none else some (l ++ [(dec r).1], r.drop (dec r).2) := hst
     have hqr : (dec r).2 ≤ r.length := by
      rcases Nat.eq_zero_or_pos (dec r).2 with h | h
      ·omega
      ·exact (dec_some Hl3.out h).1
     obtain ⟨x, hx⟩ : ∃ x, (dec r).1 = x := ⟨_, rfl⟩
     obtain ⟨q, hq⟩ : ∃ q, (dec r).2 = q := ⟨_, rfl⟩
     rw [hx, hq] at hcall hst'
     rw [hq, hrl] at hqr
     have Hcall2 := Lib.hid hcall
     clear hcall hst hrl hx hq
     by_cases hq0 : q = 0
     ·have hqb : ((q : Int) == 0) = true := by simp; omega
      have Hd : Hid (decD N bs = none) := Lib.hid (decD_noL hN0 (fun l rest h => by
       rw [HgL.out, rdV_none_le (hst'.trans (if_pos hq0)) (by omega)] at h
       cases h))
      clear hst' hq0 hqr
      go_wp2_with fail
      refine Hcall2.out.mono ?_
      rintro e w' ⟨rfl, rfl⟩
      go_wp2_with fail
      go_ret2
      rw [Hd.out]
      exact ⟨rfl, Hm.out⟩
     ·have hqb : ((q : Int) == 0) = false := by simp; omega
      obtain ⟨A1', hA1⟩ : ∃ A1, (if c0 = q then A0 else A0.map (·.add q)) = A1 := ⟨_, rfl⟩
      have hr1 : Rds wr w.heap.size A1' (n0 - q) (cells8 (r.drop q)) := by
       have h := Hr0.out.drop hqr hnc0
       rw [show (cells8 r).drop q = cells8 (r.drop q) by simp [cells8, List.map_drop]] at h
       rw [← hA1]
       exact h
      have hA1n : A1' ≠ none := by
       obtain ⟨ad, e, _⟩ := Hr0.out.2 (by omega)
       rw [← hA1, e]
       split <;> simp
      have Hr1 := Lib.hid hr1; have HA1n := Lib.hid hA1n
      have Hst : Hid (rdV (i + 1) (bs.drop p) = some (l ++ [x], r.drop q)) := Lib.hid (hst'.trans (if_neg hq0))
      have hqi : (q : Int) ≤ (n0 : Int) := by omega
      have hqc : (q : Int) ≤ (c0 : Int) := by omega
      have hqz : (0 : Int) ≤ (q : Int) := by omega
      have hnc1 : n0 - q ≤ c0 - q := by omega
      have hcm1 : Hid (c0 - q ≤ maxLen) := Lib.hid (by have := Hcm0.out; omega)
      have hra : (cellsU l).length + 1 ≤ maxLen := by rw [cellsU_length, Hl1.out]; unfold maxLen; omega
      have hrb : ((cellsU l).length + 1) * 8 ≤ 140737488355328 := by rw [cellsU_length, Hl1.out]; omega
      have Hra := Lib.hid hra; have Hrb := Lib.hid hrb
      clear hst' hq0 hr1 hA1n hra hrb
      go_wp2_with fail
      refine Hcall2.out.mono ?_
      rintro e w' ⟨rfl, rfl⟩
      go_wp2_with (at_builtin; refine wpList_app1 rfl (.tmp 55) (.tmp 57) _ rfl eltU rfl Hown.out rfl rfl rfl Hra.out Hrb.out Hm.out.size ?_; intro v' w2 HO HBl)
      have HG : Hid (GetLTo w w2 (bs.drop p) (i + 1) (.slice A1' (n0 - q) (c0 - q)) v') := Lib.hid ⟨A1', n0 - q, c0 - q, l ++ [x], r.drop q, rfl, hnc1, hcm1.out, Hr1.out.below HBl.out, Hst.out, by rw [cellsU_snoc]; exact HO.out, Hm.out.trans (Mod.of_below HBl.out) (fun i hi h => by omega), .inr HA1n.out⟩
      clear HO HBl
      go_roundg (gk - 1)
      case measure => have := Hil.out; omega
      case rel => exact ⟨i + 1, by have := Hil.out; omega, by go_num, HG.out⟩
    ·have hi : i = K := by have := Hil.out; omega
     subst hi
     obtain ⟨A6, L, c6, rfl, HL, _, hr6⟩ := own_formUN Hown.out
     obtain rfl : L = i := by have h1 := HL.out; have h2 := Hl1.out; omega
     have HgLs : Hid (getL bs = some (l, r)) := Lib.hid (HgL.out.trans Hrd.out)
     obtain ⟨S, hS⟩ : ∃ S, wid (L - 1) = S := ⟨_, rfl⟩
     have hS64 : S ≤ 64 := by rw [← hS]; exact wid_le _
     have HS' : Hid (wid (l.length - 1) = S) := Lib.hid (by rw [HL.out]; exact hS)
     obtain ⟨y, hy⟩ : ∃ y, y = L - 1 := ⟨_, rfl⟩
     have hyi : (L : Int) - 1 = (y : Int) := by omega
     have hyL : y ≤ 1000000 := by omega
     have Hwid : Hid (∀ W, Calls Tryz.prog 98 #[.int .u64 (y : Int)] W fun e w' => e = .returned (.int .i64 (S : Int)) ∧ W = w') := Lib.hid (fun W => rwidth_any y S W (by unfold Lt64; omega) (by rw [hy]; exact hS))
     obtain ⟨raw, hraw⟩ : ∃ raw, raw = rdW S N (some (val r, 8 * r.length)) := ⟨_, rfl⟩
     have Hrawl : Hid (raw.length = N) := Lib.hid (by rw [hraw, rdW_len])
     have hunp := runpack_any A0 n0 c0 _ N S r wr Hr0.out Hm.out.size Hl3.out hn0 hN65 hS64 (Nat.lt_of_lt_of_le Hw0.out Hm.out.size)
     rw [← hraw] at hunp
     have Hunp := Lib.hid hunp; have Hraw := Lib.hid hraw; have Hr6 := Lib.hid hr6
     clear hS hy hraw hunp hr6 hin Hrd Hown
     go_wp2_with fail
     refine (Hwid.out _).mono ?_
     rintro e w1 ⟨rfl, rfl⟩
     go_wp2_with fail
     refine Hunp.out.mono ?_
     rintro e wB ⟨v13, rfl, ho13, hmB⟩
     obtain ⟨A13, N13, c13, rfl, HN13, _, hr13⟩ := own_formUN ho13
     obtain rfl : N13 = N := by have := HN13.out; have := Hrawl.out; omega
     have Hr13 := Lib.hid hr13; have HmB := Lib.hid (Hm.out.trans hmB (fun _ _ h => h)); have Hr6B := Lib.hid (Hr6.out.new hmB).fit
     have O0 : Hid (ROutTo wB wB l raw 0 (.slice none 0 0)) := Lib.hid ⟨Own.nil _ _ _, (fun _ h => by cases h), Mod.refl _ _⟩
     clear ho13 hmB hr13 Hunp Hwid Hr6 hyi
     go_wp2_with fail
     go_loopg [14, 15] N13 (fun l' s14 s15 wq => ∃ j : Nat, j + l' = N13 ∧ s15 = .int .i64 (j : Int) ∧ ROutTo wB wq l raw j s14)
     case atStart => exact ⟨0, by omega, rfl, O0.out⟩
     case round =>
      obtain ⟨j, hjl, rfl, hown, hall, hm2⟩ := hrel
      have Hown := Lib.hid hown; have Hall := Lib.hid hall; have Hm2 := Lib.hid hm2; have Hjl := Lib.hid hjl
      clear hown hall hm2 hjl O0
      by_cases hjn : j < N13
      ·obtain ⟨ad, x, rfl, hx, hcx⟩ := Hr13.out.at2 hjn (Nat.le_refl _) Hm2.out (fun _ _ h => h)
       have hj0 : (0 : Int) ≤ (j : Int) := by omega
       by_cases hxl : x < L
       ·have hxi : ¬ (L : Int) ≤ (x : Int) := by omega
        have hxi' : (x : Int) < (L : Int) := by omega
        have hx0 : (0 : Int) ≤ (x : Int) := by omega
        obtain ⟨ad6, z, rfl, hz, hcz⟩ := Hr6B.out.at2 hxl (Nat.le_refl _) Hm2.out (fun _ _ h => h)
        have Hxo : Hid (outD l (raw.take (j + 1)) = outD l (raw.take j) ++ [z]) := Lib.hid (by rw [take_succ_of hx, outD_snoc, List.getD_eq_getElem?_getD, hz]; rfl)
        have Hall2 : Hid (∀ q ∈ raw.take (j + 1), q < l.length) := Lib.hid (by
         rw [take_succ_of hx]
         intro q hq
         rcases List.mem_append.1 hq with hq | hq
         ·exact Hall.out q hq
         ·rw [List.mem_singleton.1 hq, HL.out]; exact hxl)
        have hol : (outD l (raw.take j)).length ≤ 65535 := by rw [outD_len, List.length_take]; omega
        have hra : (cellsU (outD l (raw.take j))).length + 1 ≤ maxLen := by rw [cellsU_length]; unfold maxLen; omega
        have hrb : ((cellsU (outD l (raw.take j))).length + 1) * 8 ≤ 140737488355328 := by rw [cellsU_length]; omega
        have Hra := Lib.hid hra; have Hrb := Lib.hid hrb
        have hsz := Hm2.out.size
        clear hx hz hxl hol hra hrb
        go_wp2_with (at_builtin; refine wpList_app1 rfl (.tmp 79) (.tmp 87) _ rfl eltU rfl Hown.out rfl rfl rfl Hra.out Hrb.out hsz ?_; intro v' w2 HO HBl)
        have HU : Hid (ROutTo wB w2 l raw (j + 1) v') := Lib.hid ⟨by rw [Hxo.out, cellsU_snoc]; exact HO.out, Hall2.out, Hm2.out.trans (Mod.of_below HBl.out) (fun i hi h => by omega)⟩
        clear HO HBl
        go_roundg (gk - 1)
        case measure => have := Hjl.out; omega
        case rel => exact ⟨j + 1, by have := Hjl.out; omega, by go_num, HU.out⟩
       ·have hxi : (L : Int) ≤ (x : Int) := by omega
        have Hd : Hid (decD N13 bs = none) := Lib.hid (readD_far Hlt.out hN0 HgLs.out (by rw [HL.out]; omega) HS'.out (by rw [← Hraw.out]; exact hx) (by rw [HL.out]; omega))
        clear hxl hx
        go_wp2_with fail
        go_ret2
        rw [Hd.out]
        exact ⟨rfl, HmB.out.trans Hm2.out (fun _ _ h => h)⟩
      ·have hjN : j = N13 := by have := Hjl.out; omega
       have htk : raw.take j = raw := List.take_of_length_le (by rw [Hrawl.out]; omega)
       obtain ⟨V, hV⟩ : ∃ V, V = outD l raw := ⟨_, rfl⟩
       have hown := Hown.out
       have hall := Hall.out
       rw [htk] at hown hall
       obtain ⟨hV1, hV2, hV3⟩ := readD_done Hlt.out hN0 HgLs.out (by rw [HL.out]; omega) HS'.out (by rw [← Hraw.out]; exact hall)
       rw [← Hraw.out, ← hV] at hV1 hV2 hV3
       rw [← hV] at hown
       obtain ⟨A14, L14, c14, rfl, HL14, _, hr14⟩ := own_formUN hown
       have Hr14 := Lib.hid hr14; have Ho14 := Lib.hid hown; have HV2 := Lib.hid hV2; have HV3 := Lib.hid hV3
       have hL14 : L14 ≤ 1000000 := by have := HL14.out; omega
       have HwB : Hid (w.heap.size ≤ wB.heap.size) := Lib.hid HmB.out.size
       have Hmr := Lib.hid (HmB.out.trans Hm2.out (fun _ _ h => h))
       clear htk hV hown hall hV1 hV2 hV3 hr14 Hown Hall hjn
       go_wp2_with fail
       refine (rdenc_any A14 L14 c14 _ V wr Hr14.out (Nat.le_refl _) HV2.out hL14).mono ?_
       intro e w5 hE
       cases he : encD V with
       | none =>
        obtain ⟨rfl, hm5⟩ := hE.none_ he
        have Hd : Hid (decD N13 bs = none) := Lib.hid (by rw [HV3.out, he, if_neg (fun e => by cases e)])
        have Hm5 := Lib.hid (Hmr.out.trans hm5 (fun _ _ h => h))
        clear hE he hm5
        go_wp2_with fail
        go_ret2
        rw [Hd.out]
        exact ⟨rfl, Hm5.out⟩
       | some cs =>
        obtain ⟨v5, rfl, ho5, hm5⟩ := hE.some_ he
        obtain ⟨A5, L5, c5, rfl, _, _, _, hr5⟩ := own_formN8 ho5
        have Hm5 := Lib.hid (Hmr.out.trans hm5 (fun _ _ h => h)); have Ho145 := Lib.hid (Ho14.out.mod hm5)
        obtain ⟨s1, hs1⟩ : ∃ s1, strOf cs = s1 := ⟨_, rfl⟩
        obtain ⟨s2, hs2⟩ : ∃ s2, strOf bs = s2 := ⟨_, rfl⟩
        obtain ⟨b, hb⟩ : ∃ b, decide (cs = bs) = b := ⟨_, rfl⟩
        obtain ⟨hq, hq'⟩ := str_ne hs1 hs2 (encD_256 he) Hlt.out hb
        have hcv1 : (convert 25 9 (.slice A5 L5 c5)).run Tryz.prog w5 = .ok (.string s1) w5 := by
         rw [← hs1]
         exact conv_rds Tryz.underlying25 Tryz.underlying5 Tryz.underlying9 w5 hr5 (encD_256 he)
        have hcv2 : (convert 25 9 (.slice A n cap)).run Tryz.prog w5 = .ok (.string s2) w5 := by
         rw [← hs2]
         exact conv_rds Tryz.underlying25 Tryz.underlying5 Tryz.underlying9 w5 (Hs.out.mod Hm5.out HB.out (fun _ _ h => h)) Hlt.out
        have Hdec : Hid (decD N13 bs = if cs = bs then some V else none) := Lib.hid (by rw [HV3.out, he]; by_cases h : cs = bs <;> simp [h])
        have Hb := Lib.hid hb
        clear hE he hm5 hr5 ho5 hs1 hs2 hb
        cases b with
        | true =>
         have Hd : Hid (decD N13 bs = some V) := Lib.hid (by rw [Hdec.out, if_pos (of_decide_eq_true Hb.out)])
         go_wp2_with fail
         go_ret2
         rw [Hd.out]
         exact ⟨_, rfl, Ho145.out.mono HwB.out, Hm5.out⟩
        | false =>
         have Hd : Hid (decD N13 bs = none) := Lib.hid (by rw [Hdec.out, if_neg (of_decide_eq_false Hb.out)])
         go_wp2_with fail
         go_ret2
         rw [Hd.out]
         exact ⟨rfl, Hm5.out⟩
end Go.Proofs.YtjmjlflmcpkmnaaGreatDoor

/- From the row's list to the table of math/bits. -/
namespace Go.Proofs.YtjmjlflmcpkmnaaGreatDoor
open Go.RowKit
theorem deb_of_tab {w : World} (h : Lib.TabIs Tryz.prog w "math/bits.deBruijn64tab" .u8 [0, 1, 56, 2, 57, 49, 28, 3, 61, 58, 42, 50, 38, 29, 17, 4, 62, 47, 59, 36, 45, 43, 51, 22, 53, 39, 33, 30, 24, 18, 12, 5, 63, 55, 48, 27, 60, 41, 37, 16, 46, 35, 44, 21, 52, 32, 23, 11, 54, 26, 40, 15, 34, 20, 31, 10, 25, 14, 19, 9, 13, 8, 7, 6]) : Deb w := by
 have hd : ∀ t : Fin 64, (([0, 1, 56, 2, 57, 49, 28, 3, 61, 58, 42, 50, 38, 29, 17, 4, 62, 47, 59, 36, 45, 43, 51, 22, 53, 39, 33, 30, 24, 18, 12, 5, 63, 55, 48, 27, 60, 41, 37, 16, 46, 35, 44, 21, 52, 32, 23, 11, 54, 26, 40, 15, 34, 20, 31, 10, 25, 14, 19, 9, 13, 8, 7, 6] : List Int).getD t.val 0) = (deb t.val : Int) := by decide +kernel
 have hc : ∀ t, t < 64 → w.cell? ⟨2, t, none⟩ = some (.int .u8 (deb t : Int)) := fun t ht => by
  rw [← hd ⟨t, ht⟩]
  exact h.cell (by kernel_rfl) t ht
 exact ⟨World.block_lt_of_cell? w _ (hc 0 (by decide)), hc⟩
end Go.Proofs.YtjmjlflmcpkmnaaGreatDoor

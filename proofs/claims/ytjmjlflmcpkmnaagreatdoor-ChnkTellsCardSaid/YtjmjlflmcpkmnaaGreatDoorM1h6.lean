/- The texts Kxd, Rg, Rh, Kxc, Jv, Tt, Kn, Jx, one behind the other. -/
import Derived.Test.YtjmjlflmcpkmnaaGreatDoorM1h1
import Derived.Test.YtjmjlflmcpkmnaaGreatDoorM1h5
import Derived.Test.YtjmjlflmcpkmnaaGreatDoorM1h4
import Derived.Test.YtjmjlflmcpkmnaaGreatDoorM1h3
import Derived.Test.YtjmjlflmcpkmnaaGreatDoorM1h2
/- Values read in a codec, as the document has it: read. -/
namespace Go.Proofs.YtjmjlflmcpkmnaaGreatDoor
open Go.RowKit

/-- Values and true, or whatever and false. -/
def RdE (w w' : World) (o : Option (List Nat)) (e : Ending) : Prop :=
 match o with
 | some us => ∃ v, e = .returned (.tuple #[v, .bool true]) ∧ Own w.heap.size w' 41 v (cellsU us) ∧ Mod (fun _ => False) w w'
 | none => ∃ v, e = .returned (.tuple #[v, .bool false]) ∧ Mod (fun _ => False) w w'
theorem RdE.some_ {w w' : World} {o : Option (List Nat)} {us : List Nat} {e : Ending} (h : RdE w w' o e) (ho : o = some us) : ∃ v, e = .returned (.tuple #[v, .bool true]) ∧ Own w.heap.size w' 41 v (cellsU us) ∧ Mod (fun _ => False) w w' := by
 subst ho
 exact h
theorem RdE.none_ {w w' : World} {o : Option (List Nat)} {e : Ending} (h : RdE w w' o e) (ho : o = none) : ∃ v, e = .returned (.tuple #[v, .bool false]) ∧ Mod (fun _ => False) w w' := by
 subst ho
 exact h
theorem RdE.of_encE {w w' : World} {o : Option (List Nat)} {e : Ending} (h : EncE w w' o e) : RdE w w' o e := by
 cases o with
 | none => exact ⟨_, h.1, h.2⟩
 | some us => exact h
theorem RdE.of_some {w w' : World} {o : Option (List Nat)} {us : List Nat} {v : Value} (ho : o = some us) (h : Own w.heap.size w' 41 v (cellsU us)) (hm : Mod (fun _ => False) w w') : RdE w w' o (.returned (.tuple #[v, .bool true])) := by
 rw [ho]
 exact ⟨v, rfl, h, hm⟩
theorem RdE.of_none {w w' : World} {o : Option (List Nat)} {v : Value} (ho : o = none) (hm : Mod (fun _ => False) w w') : RdE w w' o (.returned (.tuple #[v, .bool false])) := by
 rw [ho]
 exact ⟨v, rfl, hm⟩
/-- A reader of its own, at the beginning. -/
theorem RRd.new {w : World} {A : Option Addr} {n c : Nat} {bs : List Nat} (hs : Rds w w.heap.size A n (cells8 bs)) (hlt : lt256 bs) (hn : n ≤ 1000000) (hw : 0 < w.heap.size) :
  ∃ row, row < w.heap.size ∧ RRd (w.alloc (.cells #[.slice A n c, .int .i64 0, .bool false] 85)) w.heap.size row bs (val bs) (8 * n) true := by
 obtain ⟨row, hsee, hrow⟩ := hs.sees hw
 have hbl : bs.length = n := by have := hs.1; rwa [cells8_length] at this
 have hval : val bs < 2 ^ (8 * n) := by rw [← hbl]; exact val_lt hlt
 refine ⟨row, hrow, A, n, c, 0, Blk.new _ _ _, hsee.mod ((Mod.refl (fun _ => False) w).alloc _) (fun _ h => h), by omega, by omega, hn, hlt, (fun _ => ⟨by omega, (Nat.mod_eq_of_lt hval).symm⟩), fun h => by cases h⟩
set_option maxRecDepth 100000 in
theorem unw8_step {bs : List Nat} (h : 8 ≤ bs.length) : unw8 bs = val (bs.take 8) :: unw8 (bs.drop 8) := by
 match bs, h with
 | a :: b :: c :: d :: e :: f :: g :: h' :: r, _ =>
  show un8 a b c d e f g h' :: unw8 r = val [a, b, c, d, e, f, g, h'] :: unw8 r
  congr 1
  unfold un8
  simp [val]
theorem or_byte {V b : Nat} (hb : b < 256) (hV : V * 256 + 256 ≤ 18446744073709551616) : bits BinOp.or IntKind.u64 ((V * 256 : Nat) : Int) (b : Int) = ((V * 256 + b : Nat) : Int) := by
 have h0 := nat_join 8 (V * 256) b (by omega) (by omega)
 rw [u64_or_nat _ _ (by omega) (by omega), h0]
/-- Words read so far; p is where the next one begins. -/
def RWordTo (w wr : World) (bs : List Nat) (v : Value) (p left : Nat) : Prop :=
 ∃ ws, Own w.heap.size wr 41 v (cellsU ws) ∧ p ≤ bs.length ∧ ws.length ≤ p ∧ (∀ x ∈ ws, x < 2 ^ 64) ∧ unw8 bs = ws ++ unw8 (bs.drop p) ∧ (unw8 (bs.drop p)).length = left ∧ Mod (fun _ => False) w wr
/-- Values so far. -/
def RBackTo (w wr : World) (us : List Nat) (i last : Nat) (v : Value) : Prop :=
 Own w.heap.size wr 41 v (cellsU (unstepsU 0 (us.take i))) ∧ last = (unstepsU 0 (us.take i)).getLast?.getD 0 ∧ last < 2 ^ 64 ∧ Mod (fun _ => False) w wr
theorem RBackTo.step {w wr w2 : World} {us : List Nat} {i last u : Nat} {v v2 : Value} (h : RBackTo w wr us i last v) (hu : us[i]? = some u) (ho : Own w.heap.size w2 41 v2 (cellsU (unstepsU 0 (us.take i)) ++ [.int .u64 (backU last u : Int)])) (hb : Below w.heap.size wr w2) : RBackTo w w2 us (i + 1) (backU last u) v2 := by
 obtain ⟨_, h2, _, h4⟩ := h
 refine ⟨?_, ?_, backU_lt _ _, h4.trans (Mod.of_below hb) (fun i hi h => by omega)⟩
 ·rw [take_succ_of hu, unstepsU_snoc, ← h2, cellsU_snoc]
  exact ho
 ·rw [take_succ_of hu, unstepsU_snoc, ← h2, List.getLast?_concat]
  rfl
/-- One value again and again. -/
def RRepTo (w wr : World) (x i : Nat) (v : Value) : Prop := Own w.heap.size wr 41 v (cellsU (List.replicate i x)) ∧ Mod (fun _ => False) w wr
set_option maxHeartbeats 4000000 in
set_option maxRecDepth 100000 in
theorem rread_any (tag : Int) (A : Option Addr) (n cap N : Nat) (bs : List Nat) (w : World) (hs : Rds w w.heap.size A n (cells8 bs)) (hlt : lt256 bs) (hnc : n ≤ cap) (hcm : cap ≤ maxLen) (hn : n ≤ 1000000) (hN : N ≤ 65535) (hw0 : 0 < w.heap.size) :
  Calls Tryz.prog 49 #[.int .i64 tag, .slice A n cap, .int .i64 (N : Int)] w fun e w' => RdE w w' (readK tag N bs) e := by
 have hul : bs.length = n := by have := hs.1; rwa [cells8_length] at this
 have hNN : max 0 (min (N : Int) 65535) = (N : Int) := by omega
 by_cases h1 : tag = 1
 ·subst h1
  obtain ⟨row, hrow, hrr⟩ := RRd.new (c := cap) hs hlt hn hw0
  obtain ⟨W, hW⟩ : ∃ W, W = w.alloc (.cells #[.slice A n cap, .int .i64 0, .bool false] 85) := ⟨_, rfl⟩
  rw [← hW] at hrr
  have hmW : Mod (fun _ => False) w W := by rw [hW]; exact (Mod.refl _ _).alloc _
  have hval : val bs < 2 ^ (8 * n) := by rw [← hul]; exact val_lt hlt
  obtain ⟨o, ho⟩ : ∃ o, o = readK 1 N bs := ⟨_, rfl⟩
  have ho2 : o = (valRow N (val bs) (8 * n)).map (·.1) := by rw [ho, ← hul]; rfl
  have HW := Lib.hid hW; have HmW := Lib.hid hmW; have Hrr := Lib.hid hrr; have Hrow := Lib.hid (Nat.lt_of_lt_of_le hrow hmW.size); have Hval := Lib.hid hval; have Ho := Lib.hid ho; have Ho2 := Lib.hid ho2; have HN := Lib.hid hNN
  clear hs hlt hul hW hmW hrr hrow hval ho ho2 hNN
  go_enter Tryz.func49, Tryz.ntmps49
  go_wp2_with fail
  rw [← HW.out]
  refine (rgetvals_any w.heap.size row (val bs) (8 * n) N bs (N : Int) W HN.out Hrr.out Hval.out Hrow.out).mono ?_
  intro e w2 hd
  have hd' : XRDecEnd W w2 w.heap.size row bs (valRow N (val bs) (8 * n)) e := hd
  clear hd
  cases hv : valRow N (val bs) (8 * n) with
  | none =>
   rw [hv] at hd'
   obtain ⟨rfl, hm2⟩ := hd'
   have Hno : Hid (o = none) := Lib.hid (by rw [Ho2.out, hv]; rfl)
   have Hm2 := Lib.hid (HmW.out.trans hm2 (fun i hi e => by omega))
   clear hv hm2
   go_wp2_with fail
   go_ret2
   exact RdE.of_none (by rw [← Ho.out, Hno.out]) Hm2.out
  | some p =>
   obtain ⟨us, R2, rem2⟩ := p
   rw [hv] at hd'
   obtain ⟨v, rfl, hown, _, hm2⟩ := hd'
   have Hyes : Hid (o = some us) := Lib.hid (by rw [Ho2.out, hv]; rfl)
   have Hm2 := Lib.hid (HmW.out.trans hm2 (fun i hi e => by omega)); have Hown := Lib.hid (hown.mono HmW.out.size)
   clear hv hm2 hown
   go_wp2_with fail
   go_ret2
   exact RdE.of_some (by rw [← Ho.out, Hyes.out]) Hown.out Hm2.out
 by_cases h2 : tag = 2
 ·subst h2
  have Hrk : Hid (readK 2 N bs = (decS N (unw8 bs)).map (unstepsU 0)) := Lib.hid rfl
  have W0 : Hid (RWordTo w w bs (.slice none 0 0) 0 (unw8 bs).length) := Lib.hid ⟨[], Own.nil _ _ _, Nat.zero_le _, Nat.le_refl _, (fun _ h => by cases h), rfl, rfl, Mod.refl _ _⟩
  have Hs := Lib.hid hs; have Hlt := Lib.hid hlt; have Hul := Lib.hid hul; have HN := Lib.hid hNN
  clear hs hlt hul hNN
  go_enter Tryz.func49, Tryz.ntmps49
  go_wp2_with fail
  go_loopg [8, 9] (unw8 bs).length (fun l s8 s9 wr => ∃ p : Nat, s9 = .int .i64 (p : Int) ∧ RWordTo w wr bs s8 p l)
  case atStart => exact ⟨0, rfl, W0.out⟩
  case round =>
   obtain ⟨p, rfl, ws, k1, k2, k3, k4, k5, k6, k7⟩ := hrel
   have K1 := Lib.hid k1; have K3 := Lib.hid k3; have K4 := Lib.hid k4; have K5 := Lib.hid k5; have K6 := Lib.hid k6; have K7 := Lib.hid k7
   have hpn : p ≤ n := by have := Hul.out; omega
   clear k1 k2 k3 k4 k5 k6 k7 W0
   obtain ⟨k0, hk0⟩ : ∃ k0 : Nat, k0 = gk - 1 := ⟨_, rfl⟩
   have Hk0 := Lib.hid hk0
   clear hk0
   by_cases h8 : p + 8 ≤ n
   ·have hp8 : (p : Int) + 8 ≤ (n : Int) := by omega
    obtain ⟨wo, rfl⟩ : ∃ wo : World, wo = wr := ⟨_, rfl⟩
    have hdl : (bs.drop p).length = n - p := by rw [List.length_drop, Hul.out]
    have Hdl := Lib.hid hdl
    clear hdl
    go_wp2_with fail
    go_loopg [10, 11] 8 (fun l s10 s11 wq => ∃ (j V : Nat), j + l = 8 ∧ s11 = .int .i64 (j : Int) ∧ s10 = .int .u64 (V : Int) ∧ V = val ((bs.drop p).take j) ∧ wq = wo)
    case atStart => exact ⟨0, 0, rfl, rfl, rfl, rfl, rfl⟩
    case round =>
     obtain ⟨j, V, hjl, rfl, rfl, hV, rfl⟩ := hrel
     have Hjl := Lib.hid hjl; have HV := Lib.hid hV
     clear hjl hV
     by_cases hj8 : j < 8
     ·obtain ⟨r, hr⟩ : ∃ r, r = p + j := ⟨_, rfl⟩
      have hrn : r < n := by omega
      obtain ⟨ad, u, rfl, _, hb, hcb⟩ := Hs.out.at_ hrn
      rw [cells8_get] at hb
      obtain ⟨b, hbb, rfl⟩ := Option.map_eq_some_iff.1 hb
      have hb256 : b < 256 := Hlt.out b (List.mem_of_getElem? hbb)
      have hcbw : wr.cell? (ad.add r) = some (.int .u8 (b : Int)) := by
       obtain ⟨ad', hA, hbl, _⟩ := Hs.out.2 (show 0 < n by omega)
       injection hA with hA
       subst hA
       rw [K7.out.cell (a := ad.add r) (by rw [add_block]; exact hbl) (fun h => h)]
       exact hcb
      have hpj : (p : Int) + (j : Int) = (r : Int) := by omega
      have hri : (r : Int) < (n : Int) := by omega
      have hr0 : (0 : Int) ≤ (r : Int) := by omega
      have hbj : (bs.drop p)[j]? = some b := by rw [List.getElem?_drop, ← hr]; exact hbb
      have hVlt : V < 2 ^ (8 * j) := by
       have h := val_lt (bs := (bs.drop p).take j) (fun x hx => Hlt.out x (List.mem_of_mem_drop (List.mem_of_mem_take hx)))
       rw [List.length_take, Hdl.out, Nat.min_eq_left (by omega)] at h
       rw [HV.out]
       exact h
      have hVb : V < 2 ^ 56 := Nat.lt_of_lt_of_le hVlt (Nat.pow_le_pow_right (by decide) (by omega))
      have hVm : V * 256 + 256 ≤ 18446744073709551616 := by omega
      obtain ⟨y, hy⟩ : ∃ y, y = V * 256 := ⟨_, rfl⟩
      have hsh : IntKind.u64.wrap ((V : Int) * 256) = (y : Int) := by rw [IntKind.wrap_u64]; omega
      obtain ⟨z, hz⟩ : ∃ z, z = V * 256 + b := ⟨_, rfl⟩
      have hor : bits BinOp.or IntKind.u64 (y : Int) (b : Int) = (z : Int) := by rw [hy, hz]; exact or_byte hb256 hVm
      have hcvb : IntKind.u64.wrap (b : Int) = (b : Int) := by rw [IntKind.wrap_u64]; omega
      have HV2 : Hid (z = val ((bs.drop p).take (j + 1))) := Lib.hid (by rw [hz, take_succ_of hbj, val_snoc, ← HV.out])
      clear hb hbb hcb hbj hVlt hVb hVm hy hz hr
      go_wp2_with fail
      go_roundg (gk - 1)
      case measure => have := Hjl.out; omega
      case rel => exact ⟨j + 1, z, by have := Hjl.out; omega, by go_num, rfl, HV2.out, rfl⟩
     ·have hj : j = 8 := by have := Hjl.out; omega
      have hx64 : V < 2 ^ 64 := by
       have h := val_lt (bs := (bs.drop p).take 8) (fun x hx => Hlt.out x (List.mem_of_mem_drop (List.mem_of_mem_take hx)))
       rw [List.length_take, Hdl.out, Nat.min_eq_left (by omega)] at h
       rw [HV.out, hj]
       exact h
      have hst := unw8_step (bs := bs.drop p) (by rw [Hdl.out]; omega)
      rw [List.drop_drop] at hst
      have hV8 : V = val ((bs.drop p).take 8) := by rw [HV.out, hj]
      rw [← hV8] at hst
      have Hst := Lib.hid hst; have Hx64 := Lib.hid hx64
      have HR : Hid ((cellsU ws).length + 1 ≤ maxLen ∧ ((cellsU ws).length + 1) * 8 ≤ 140737488355328) := Lib.hid ⟨by rw [cellsU_length]; have := K3.out; unfold maxLen; omega, by rw [cellsU_length]; have := K3.out; omega⟩
      have hsz := K7.out.size
      clear hx64 hst hV8 hj HV
      go_wp2_with (at_builtin; refine wpList_app1 rfl (.tmp 54) (.tmp 56) _ rfl eltU rfl K1.out rfl rfl rfl HR.out.1 HR.out.2 hsz ?_; intro v4 w4 HO4 HB4)
      have HW2 : Hid (RWordTo w w4 bs v4 (p + 8) k0) := Lib.hid ⟨ws ++ [V], by rw [cellsU_snoc]; exact HO4.out, by rw [Hul.out]; exact h8, by rw [List.length_append, List.length_singleton]; have := K3.out; omega, fun x hx => by
        rcases List.mem_append.1 hx with h | h
        ·exact K4.out x h
        ·rw [List.mem_singleton.1 h]
         exact Hx64.out, by rw [K5.out, Hst.out, List.append_assoc]; rfl, by
        have h := K6.out
        rw [Hst.out, List.length_cons] at h
        have := Hk0.out
        omega, K7.out.trans (Mod.of_below HB4.out) (fun i hi h => by omega)⟩
      go_roundg k0
      case measure =>
       have h := K6.out
       rw [Hst.out, List.length_cons] at h
       have := Hk0.out
       omega
      case rel => exact ⟨p + 8, by go_num, HW2.out⟩
   ·have hp8 : ¬ (p : Int) + 8 ≤ (n : Int) := by omega
    have hnil : unw8 (bs.drop p) = [] := unw8_few (by rw [List.length_drop, Hul.out]; omega)
    have hws : unw8 bs = ws := by rw [K5.out, hnil, List.append_nil]
    obtain ⟨A1, L1, c1, hv1, HL1, hc1, hr1⟩ := own_formUN K1.out
    subst hv1
    have Hr1 := Lib.hid hr1; have Hws := Lib.hid hws
    have hL1 : L1 ≤ 1000000 := by have := HL1.out; have := K3.out; omega
    have HL1b := Lib.hid hL1
    clear hnil hws hr1 hL1 K5 K6 Hk0
    go_wp2_with fail
    refine (gets_any A1 L1 c1 wr.heap.size N (N : Int) ws wr Hr1.out (Nat.le_refl _) K4.out HL1b.out HN.out).mono ?_
    intro e w3 he
    have he' : EncE wr w3 (decS N ws) e := he
    clear he
    cases ho : decS N ws with
    | none =>
     obtain ⟨rfl, hm3⟩ := EncE.none_ he' ho
     have Hno : Hid (readK 2 N bs = none) := Lib.hid (by rw [Hrk.out, Hws.out, ho]; rfl)
     have Hm3 := Lib.hid (K7.out.trans hm3 (fun _ _ h => h))
     clear he' ho hm3
     go_wp2_with fail
     go_loopg [14, 15, 16] 0 (fun l s14 s15 s16 wq => s14 = .slice none 0 0 ∧ s15 = .int .u64 0 ∧ s16 = .int .i64 0 ∧ wq = w3)
     case atStart => exact ⟨rfl, rfl, rfl, rfl⟩
     case round =>
      obtain ⟨rfl, rfl, rfl, rfl⟩ := hrel
      go_wp2_with fail
      go_ret2
      exact RdE.of_none Hno.out Hm3.out
    | some us =>
     obtain ⟨v3, rfl, ho3, hm3⟩ := EncE.some_ he' ho
     have hu64 := decS_lt ho
     have hul := (decS_some ho).1
     obtain ⟨A3, L3, c3, rfl, HL3, hc3, hr3⟩ := own_formUN ho3
     have hL3 : L3 = N := by have := HL3.out; omega
     subst hL3
     have Hyes : Hid (readK 2 L3 bs = some (unstepsU 0 us)) := Lib.hid (by rw [Hrk.out, Hws.out, ho]; rfl)
     have Hm3 := Lib.hid (K7.out.trans hm3 (fun _ _ h => h)); have Hr3 := Lib.hid hr3; have Hu64 := Lib.hid hu64
     have B0 : Hid (RBackTo w3 w3 us 0 0 (.slice none 0 0)) := Lib.hid ⟨Own.nil _ _ _, rfl, by decide, Mod.refl _ _⟩
     clear he' ho ho3 hm3 hu64 hul hc3 hc1 hr3 K1 K3 K4 K7 Hr1 Hws HL1 HL1b
     go_wp2_with fail
     go_loopg [14, 15, 16] L3 (fun l s14 s15 s16 wq => ∃ i last : Nat, i + l = L3 ∧ s16 = .int .i64 (i : Int) ∧ s15 = .int .u64 (last : Int) ∧ RBackTo w3 wq us i last s14)
     case atStart => exact ⟨0, 0, by omega, rfl, rfl, B0.out⟩
     case round =>
      obtain ⟨i, last, hil, rfl, rfl, hP⟩ := hrel
      have Hil := Lib.hid hil; have HP := Lib.hid hP
      clear hil hP B0
      by_cases hin : i < L3
      ·obtain ⟨ad, u, rfl, hu, hcu⟩ := Hr3.out.at2 hin (Nat.le_refl _) HP.out.2.2.2 (fun _ _ h => h)
       have hu64 := Hu64.out u (List.mem_of_getElem? hu)
       have hini : (i : Int) < (L3 : Int) := by omega
       obtain ⟨z, hz⟩ : ∃ z, z = zag (u : Int) := ⟨_, rfl⟩
       have hw1 : IntKind.u64.wrap z = (un z : Int) := wrapU_un z
       obtain ⟨y, hy⟩ : ∃ y, y = un z := ⟨_, rfl⟩
       rw [← hy] at hw1
       have hl64 := HP.out.2.2.1
       have hw2 : IntKind.u64.wrap ((last : Int) + (y : Int)) = (backU last u : Int) := by
        rw [IntKind.wrap_u64]
        unfold backU
        rw [← hz, ← hy]
        show _ = (((last + y) % 18446744073709551616 : Nat) : Int)
        omega
       obtain ⟨bk, hbk⟩ : ∃ bk, bk = backU last u := ⟨_, rfl⟩
       rw [← hbk] at hw2
       have hfit : Fit64 (u : Int) := ⟨by omega, by omega⟩
       have Hfit := Lib.hid hfit; have Hz := Lib.hid hz; have Hbk := Lib.hid hbk; have Hu := Lib.hid hu
       have hlen : (cellsU (unstepsU 0 (us.take i))).length ≤ 1000000 := by rw [cellsU_length, unstepsU_len, List.length_take]; omega
       have HR : Hid ((cellsU (unstepsU 0 (us.take i))).length + 1 ≤ maxLen ∧ ((cellsU (unstepsU 0 (us.take i))).length + 1) * 8 ≤ 140737488355328) := Lib.hid ⟨by unfold maxLen; omega, by omega⟩
       have hsz := HP.out.2.2.2.size
       clear hu hu64 hz hy hl64 hbk hfit hlen
       go_wp2_with fail
       refine (rzag_any (u : Int) _ Hfit.out).mono ?_
       rintro e w4 ⟨rfl, rfl⟩
       rw [← Hz.out]
       go_wp2_with (at_builtin; refine wpList_app1 rfl (.tmp 78) (.tmp 80) _ rfl eltU rfl HP.out.1 rfl rfl rfl HR.out.1 HR.out.2 hsz ?_; intro v4 w5 HO4 HB4)
       have HP2 : Hid (RBackTo w3 w5 us (i + 1) bk v4) := Lib.hid (by
        have h := HO4.out
        rw [Hbk.out] at h ⊢
        exact HP.out.step Hu.out h HB4.out)
       go_roundg (gk - 1)
       case measure => have := Hil.out; omega
       case rel => exact ⟨i + 1, bk, by have := Hil.out; omega, by go_num, rfl, HP2.out⟩
      ·have hi : i = L3 := by have := Hil.out; omega
       obtain ⟨k1, _, _, k4⟩ := HP.out
       rw [List.take_of_length_le (by rw [HL3.out]; omega)] at k1
       have K1 := Lib.hid (k1.mono Hm3.out.size); have K4 := Lib.hid (Hm3.out.trans k4 (fun _ _ h => h))
       clear hi k1 k4 HP
       go_wp2_with fail
       go_ret2
       exact RdE.of_some Hyes.out K1.out K4.out
 by_cases h3 : tag = 3
 ·subst h3
  have hcall := lrdec_any A n cap w.heap.size N (N : Int) bs w hs (Nat.le_refl _) hlt hnc hcm hNN
  have Hcall := Lib.hid hcall
  clear hs hlt hcall hNN hul
  go_enter Tryz.func49, Tryz.ntmps49
  go_wp2_with fail
  refine Hcall.out.mono ?_
  intro e w1 he
  obtain ⟨o, hoo⟩ : ∃ o, o = readK 3 N bs := ⟨_, rfl⟩
  have he' : EncE w w1 o e := by rw [hoo]; exact he
  obtain ⟨v, rfl, he2⟩ := EncE.parts he'
  have He := Lib.hid (RdE.of_encE he2); have Hoo := Lib.hid hoo
  clear he he' he2 hoo
  go_wp2_with fail
  go_ret2
  rw [← Hoo.out]
  exact He.out
 by_cases h4 : tag = 4
 ·subst h4
  have hcall := rpdec_any A n cap w.heap.size N (N : Int) bs w hs (Nat.le_refl _) hlt hnc hcm hn hNN
  have Hcall := Lib.hid hcall
  clear hs hlt hcall hNN hul
  go_enter Tryz.func49, Tryz.ntmps49
  go_wp2_with fail
  refine Hcall.out.mono ?_
  intro e w1 he
  obtain ⟨o, hoo⟩ : ∃ o, o = readK 4 N bs := ⟨_, rfl⟩
  have he' : EncE w w1 o e := by rw [hoo]; exact he
  obtain ⟨v, rfl, he2⟩ := EncE.parts he'
  have He := Lib.hid (RdE.of_encE he2); have Hoo := Lib.hid hoo
  clear he he' he2 hoo
  go_wp2_with fail
  go_ret2
  rw [← Hoo.out]
  exact He.out
 by_cases h5 : tag = 5
 ·subst h5
  have hcall := rddec_any A n cap w.heap.size N (N : Int) bs w hs (Nat.le_refl _) hlt hnc hcm hn hNN
  have Hcall := Lib.hid hcall
  clear hs hlt hcall hNN hul
  go_enter Tryz.func49, Tryz.ntmps49
  go_wp2_with fail
  refine Hcall.out.mono ?_
  intro e w1 he
  obtain ⟨o, hoo⟩ : ∃ o, o = readK 5 N bs := ⟨_, rfl⟩
  have he' : EncE w w1 o e := by rw [hoo]; exact he
  obtain ⟨v, rfl, he2⟩ := EncE.parts he'
  have He := Lib.hid (RdE.of_encE he2); have Hoo := Lib.hid hoo
  clear he he' he2 hoo
  go_wp2_with fail
  go_ret2
  rw [← Hoo.out]
  exact He.out
 by_cases h6 : tag = 6
 ·subst h6
  have Hrk : Hid (readK 6 N bs = readSame N bs) := Lib.hid rfl
  have hcall := vrget_any A n cap _ bs w hs hlt (Nat.le_trans hnc hcm)
  have hx64 : (dec bs).1 < 2 ^ 64 := dec_lt hlt
  obtain ⟨x, hx⟩ : ∃ x, (dec bs).1 = x := ⟨_, rfl⟩
  obtain ⟨a, ha⟩ : ∃ a, (dec bs).2 = a := ⟨_, rfl⟩
  rw [hx, ha] at hcall
  have Hcall := Lib.hid hcall; have Hx := Lib.hid hx; have Ha := Lib.hid ha
  have R0 : Hid (RRepTo w w x 0 (.slice none 0 0)) := Lib.hid ⟨Own.nil _ _ _, Mod.refl _ _⟩
  clear hs hlt hcall hNN hul hx ha
  go_enter Tryz.func49, Tryz.ntmps49
  go_wp2_with fail
  refine Hcall.out.mono ?_
  rintro e w' ⟨rfl, rfl⟩
  go_wp2_with fail
  go_loopg [19, 20] N (fun l s19 s20 wr => ∃ i : Nat, i + l = N ∧ s20 = .int .i64 (i : Int) ∧ RRepTo w wr x i s19)
  case atStart => exact ⟨0, by omega, rfl, R0.out⟩
  case round =>
   obtain ⟨i, hil, rfl, hR⟩ := hrel
   have Hil := Lib.hid hil; have HRp := Lib.hid hR
   clear hil hR R0
   by_cases hin : i < N
   ·have hini : (i : Int) < (N : Int) := by omega
    have HR : Hid ((cellsU (List.replicate i x)).length + 1 ≤ maxLen ∧ ((cellsU (List.replicate i x)).length + 1) * 8 ≤ 140737488355328) := Lib.hid ⟨by rw [cellsU_length, List.length_replicate]; unfold maxLen; omega, by rw [cellsU_length, List.length_replicate]; omega⟩
    have hsz := HRp.out.2.size
    go_wp2_with (at_builtin; refine wpList_app1 rfl (.tmp 117) (.tmp 119) _ rfl eltU rfl HRp.out.1 rfl rfl rfl HR.out.1 HR.out.2 hsz ?_; intro v4 w4 HO4 HB4)
    have HR2 : Hid (RRepTo w w4 x (i + 1) v4) := Lib.hid ⟨by rw [List.replicate_succ', cellsU_snoc]; exact HO4.out, HRp.out.2.trans (Mod.of_below HB4.out) (fun i hi h => by omega)⟩
    go_roundg (gk - 1)
    case measure => have := Hil.out; omega
    case rel => exact ⟨i + 1, by have := Hil.out; omega, by go_num, HR2.out⟩
   ·have hi : i = N := by have := Hil.out; omega
    obtain ⟨k1, k2⟩ := HRp.out
    rw [hi] at k1
    have K1 := Lib.hid k1; have K2 := Lib.hid k2
    have hini : ¬ (i : Int) < (N : Int) := by omega
    clear hi k1 k2 HRp hin
    by_cases h0 : N = 0
    ·have hN0 : ((N : Int) == 0) = true := by simp; omega
     have Hyes : Hid (readK 6 N bs = some (List.replicate N x)) := Lib.hid (by rw [Hrk.out]; unfold readSame; rw [if_pos h0, h0]; rfl)
     clear h0
     go_wp2_with fail
     go_ret2
     exact RdE.of_some Hyes.out K1.out K2.out
    ·have hN0 : ((N : Int) == 0) = false := by simp; omega
     by_cases ha0 : a = 0
     ·have hai : ¬ (0 : Int) < (a : Int) := by omega
      have had : decide (0 < a) = false := by simp; omega
      have hadi : decide ((0 : Int) < (a : Int)) = false := by simp; omega
      have Hno : Hid (readK 6 N bs = none) := Lib.hid (by rw [Hrk.out]; unfold readSame; rw [if_neg h0, Ha.out, if_pos ha0])
      clear h0 ha0
      go_wp2_with fail
      go_ret2
      exact RdE.of_none Hno.out K2.out
     ·have hai : (0 : Int) < (a : Int) := by omega
      have had : decide (0 < a) = true := by simp; omega
      have hadi : decide ((0 : Int) < (a : Int)) = true := by simp; omega
      have Hyes : Hid (readK 6 N bs = some (List.replicate N x)) := Lib.hid (by rw [Hrk.out]; unfold readSame; rw [if_neg h0, Ha.out, if_neg ha0, Hx.out])
      clear h0 ha0
      go_wp2_with fail
      go_ret2
      exact RdE.of_some Hyes.out K1.out K2.out
 have b1 : (tag == 1) = false := by simp [h1]
 have b2 : (tag == 2) = false := by simp [h2]
 have b3 : (tag == 3) = false := by simp [h3]
 have b4 : (tag == 4) = false := by simp [h4]
 have b5 : (tag == 5) = false := by simp [h5]
 have b6 : (tag == 6) = false := by simp [h6]
 have Hno : Hid (readK tag N bs = none) := Lib.hid (readK_other h1 h2 h3 h4 h5 h6)
 clear hs hlt h1 h2 h3 h4 h5 h6 hNN hul
 go_enter Tryz.func49, Tryz.ntmps49
 go_wp2_with fail
 go_ret2
 exact RdE.of_none Hno.out (Mod.refl _ _)
end Go.Proofs.YtjmjlflmcpkmnaaGreatDoor

/- The document's own times are read: difference, GetTimes. -/
namespace Go.Proofs.YtjmjlflmcpkmnaaGreatDoor
open Go.RowKit

def RMarkTo (w wr : World) (g row : Nat) (bs : List Nat) (s s' : Option (Nat × Nat)) (l f : Nat) : Prop := markO l f s' = markO 4 0 s ∧ RRdO wr g row bs s' ∧ Mod (fun i => i = g) w wr
def RMarkEnd (w wr : World) (g row : Nat) (bs : List Nat) (s : Option (Nat × Nat)) (f : Nat) : Prop := f = formO s ∧ RRdO wr g row bs (markO 4 0 s).2 ∧ Mod (fun i => i = g) w wr
theorem RMarkTo.stop {w wr w1 : World} {g row : Nat} {bs : List Nat} {s s' : Option (Nat × Nat)} {l f : Nat} (h : RMarkTo w wr g row bs s s' (l + 1) f) (hne : ¬ (getO 1 s').1 = 1) (h1 : RRdO w1 g row bs (getO 1 s').2) (hm : Mod (fun i => i = g) wr w1) : RMarkEnd w w1 g row bs s f := by
 have e : markO (l + 1) f s' = (f, (getO 1 s').2) := by
  show (if (getO 1 s').1 = 1 then markO l (f + 1) (getO 1 s').2 else (f, (getO 1 s').2)) = _
  rw [if_neg hne]
 have e2 := h.1
 rw [e] at e2
 refine ⟨?_, ?_, h.2.2.trans hm (fun _ _ h => h)⟩
 ·unfold formO; rw [← e2]
 ·rw [← e2]; exact h1
theorem RMarkTo.next {w wr w1 : World} {g row : Nat} {bs : List Nat} {s s' : Option (Nat × Nat)} {l f : Nat} (h : RMarkTo w wr g row bs s s' (l + 1) f) (hne : (getO 1 s').1 = 1) (h1 : RRdO w1 g row bs (getO 1 s').2) (hm : Mod (fun i => i = g) wr w1) : RMarkTo w w1 g row bs s (getO 1 s').2 l (f + 1) := by
 have e : markO (l + 1) f s' = markO l (f + 1) (getO 1 s').2 := by
  show (if (getO 1 s').1 = 1 then markO l (f + 1) (getO 1 s').2 else (f, (getO 1 s').2)) = _
  rw [if_pos hne]
 exact ⟨e ▸ h.1, h1, h.2.2.trans hm (fun _ _ h => h)⟩
theorem RMarkTo.full {w wr : World} {g row : Nat} {bs : List Nat} {s s' : Option (Nat × Nat)} {f : Nat} (h : RMarkTo w wr g row bs s s' 0 f) : RMarkEnd w wr g row bs s f := by
 have e2 : (f, s') = markO 4 0 s := h.1
 refine ⟨?_, ?_, h.2.2⟩
 ·unfold formO; rw [← e2]
 ·rw [← e2]; exact h.2.1
def RDiffEnd (w wr : World) (g row : Nat) (bs : List Nat) (s : Option (Nat × Nat)) (e : Ending) : Prop :=
 e = .returned (.tuple #[.int .i64 (diffO s), .bool (decide (kindN (diffO s) = sz (formO s)))]) ∧ RRdO wr g row bs (behindO s) ∧ Mod (fun i => i = g) w wr
theorem small_cast {u n : Nat} (h : u < n) (hn : n ≤ 4096) : wrap64 (u : Int) = (u : Int) := IntWalk.wrap64_in _ (by omega)
/-- What the last step tells. -/
theorem rdiff_end {w w1 w2 : World} {g row h : Nat} {bs : List Nat} {s : Option (Nat × Nat)} {d : Int} {b : Bool} (hd : diffO s = d) (hf : formO s = h) (hb : decide (kindN d = sz h) = b) (h1 : RRdO w2 g row bs (behindO s)) (hm : Mod (fun i => i = g) w w2) (hw : w2 = w1) :
  RDiffEnd w w1 g row bs s (.returned (.tuple #[.int .i64 d, .bool b])) := by
 subst hw
 refine ⟨?_, h1, hm⟩
 rw [hd, hf, hb]
set_option maxHeartbeats 4000000 in
set_option maxRecDepth 100000 in
theorem rdiff_o (g row : Nat) (bs : List Nat) (s : Option (Nat × Nat)) (w : World) (h : RRdO w g row bs s) :
  Calls Tryz.prog 74 #[.pointer (some ⟨g, 0, none⟩)] w fun e w' => RDiffEnd w w' g row bs s e := by
 have H0 : Hid (RMarkTo w w g row bs s s 4 0) := Lib.hid ⟨rfl, h, Mod.refl _ _⟩
 have Hlt := Lib.hid (bitsO_lt s h.small)
 clear h
 go_enter Tryz.func74, Tryz.ntmps74
 go_upto_block 0 with fail
 go_cut [4] (fun s4 wc => ∃ f : Nat, s4 = .int .i64 (f : Int) ∧ RMarkEnd w wc g row bs s f)
 case first =>
  go_wp2_with fail
  go_loopg [4] 4 (fun l s4 wr => ∃ f s', f + l = 4 ∧ s4 = .int .i64 (f : Int) ∧ RMarkTo w wr g row bs s s' l f)
  case atStart => exact ⟨0, s, rfl, rfl, H0.out⟩
  case round =>
   obtain ⟨f, s', hfl, rfl, hM⟩ := hrel
   have HM := Lib.hid hM; have Hfl := Lib.hid hfl
   clear hM hfl H0
   by_cases hl0 : gk = 0
   ·have hf : ¬ f < 4 := by have := Hfl.out; omega
    subst hl0
    go_wp2_with fail
    go_meet
    case rel => exact ⟨f, rfl, HM.out.full⟩
   ·obtain ⟨l, rfl⟩ : ∃ l, gk = l + 1 := ⟨gk - 1, by omega⟩
    have hf : f < 4 := by have := Hfl.out; omega
    clear hl0
    go_wp2_with fail
    refine (rget_o g row 1 1 bs s' _ rfl (by decide) HM.out.2.1).mono ?_
    rintro e w1 ⟨rfl, h1, hm⟩
    have H1 := Lib.hid h1; have Hm := Lib.hid hm
    clear h1 hm
    by_cases hb : (getO 1 s').1 = 1
    ·have N1 := Lib.hid (HM.out.next hb H1.out Hm.out)
     rw [hb]
     clear hb H1 Hm HM
     go_wp2_with fail
     go_roundg l
     case measure => omega
     case rel => exact ⟨f + 1, _, by have := Hfl.out; omega, by go_num, N1.out⟩
    ·have N1 := Lib.hid (HM.out.stop hb H1.out Hm.out)
     have hb2 : ((((getO 1 s').1 : Nat) : Int) == 1) = false := by simp; omega
     clear hb H1 Hm HM
     go_wp2_with fail
     go_meet
     case rel => exact ⟨f, rfl, N1.out⟩
 case rest =>
  obtain ⟨f, rfl, hf, h1, hm⟩ := hcut
  have hf4 := formO_le s
  rw [← hf] at hf4
  have Hf := Lib.hid hf.symm
  have hwA : Hid (Mod (fun _ => False) wc (wc.alloc (.cells #[.int .i64 0, .int .i64 7, .int .i64 9, .int .i64 12, .int .i64 64] 135))) := Lib.hid ((Mod.refl _ _).alloc _)
  have H1 := Lib.hid (h1.mod hwA.out (fun h => h) (fun _ h => h)); have Hm := Lib.hid (hm.trans hwA.out (fun _ _ h => h.elim))
  have hi : f = 0 ∨ f = 1 ∨ f = 2 ∨ f = 3 ∨ f = 4 := by omega
  clear hf h1 hm H0 hwA hf4
  rcases hi with rfl | rfl | rfl | rfl | rfl
  ·go_wp2_with fail
   refine (rget_o g row 0 0 bs _ _ rfl (by decide) H1.out).mono ?_
   rintro e w2 ⟨rfl, h2, hm2⟩
   obtain ⟨u, hu⟩ : ∃ u, u = (getO 0 (markO 4 0 s).2).1 := ⟨_, rfl⟩
   rw [← hu]
   have hbit : bitsO s = getO 0 (markO 4 0 s).2 := by unfold bitsO; rw [Hf.out]; rfl
   have hul : u < 2 ^ 0 := by have := Hlt.out; rw [hbit, Hf.out] at this; rw [hu]; exact this
   have hdf : diffO s = sgn 0 u := by unfold diffO; rw [hbit, Hf.out, hu]; rfl
   have Hdf := Lib.hid hdf; have Hul := Lib.hid hul
   have H2 : Hid (RRdO w2 g row bs (behindO s)) := Lib.hid (by unfold behindO; rw [hbit]; exact h2)
   have Hm2 := Lib.hid (Hm.out.trans hm2 (fun _ _ h => h))
   clear hu hbit hdf h2 hm2 H1 Hm
   have hu0 : u = 0 := by omega
   subst hu0
   clear hul
   go_wp2_with fail
   refine (kind_any 0 _).mono ?_
   rintro e w3 ⟨rfl, rfl⟩
   by_cases hk : kindN 0 = 0
   ·have hk2 : ((kindN 0 : Int) == 0) = true := by rw [hk]; rfl
    go_wp2_with fail
    go_ret2
    exact rdiff_end (Hdf.out.trans (by decide)) Hf.out (decide_eq_true hk) H2.out Hm2.out rfl
   ·have hk2 : ((kindN 0 : Int) == 0) = false := by simp; omega
    go_wp2_with fail
    go_ret2
    exact rdiff_end (Hdf.out.trans (by decide)) Hf.out (decide_eq_false hk) H2.out Hm2.out rfl
  ·go_wp2_with fail
   refine (rget_o g row 7 7 bs _ _ rfl (by decide) H1.out).mono ?_
   rintro e w2 ⟨rfl, h2, hm2⟩
   obtain ⟨u, hu⟩ : ∃ u, u = (getO 7 (markO 4 0 s).2).1 := ⟨_, rfl⟩
   rw [← hu]
   have hbit : bitsO s = getO 7 (markO 4 0 s).2 := by unfold bitsO; rw [Hf.out]; rfl
   have hul : u < 2 ^ 7 := by have := Hlt.out; rw [hbit, Hf.out] at this; rw [hu]; exact this
   have hdf : diffO s = sgn 7 u := by unfold diffO; rw [hbit, Hf.out, hu]; rfl
   have Hdf := Lib.hid hdf; have Hul := Lib.hid hul
   have H2 : Hid (RRdO w2 g row bs (behindO s)) := Lib.hid (by unfold behindO; rw [hbit]; exact h2)
   have Hm2 := Lib.hid (Hm.out.trans hm2 (fun _ _ h => h))
   clear hu hbit hdf h2 hm2 H1 Hm
   have hcv : wrap64 (u : Int) = (u : Int) := small_cast hul (by decide)
   have hul2 : u < 128 := hul
   by_cases hbit : 64 ≤ u
   ·have hq : (u : Int) / 64 = 1 := by omega
    have Hd : Hid (sgn 7 u = (u : Int) - 128) := Lib.hid (by
     unfold sgn
     rw [if_neg (by decide), if_pos ⟨by decide, by show u / 64 % 2 = 1; omega⟩]
     rfl)
    have hneg : wrap64 ((u : Int) - 128) = (u : Int) - 128 := IntWalk.wrap64_in _ (by omega)
    obtain ⟨d, hd⟩ : ∃ d, (u : Int) - 128 = d := ⟨_, rfl⟩
    have Hd2 : Hid (diffO s = d) := Lib.hid (by rw [Hdf.out, Hd.out, hd])
    rw [hd] at hneg
    clear hul Hd Hdf
    go_wp2_with fail
    refine (kind_any d _).mono ?_
    rintro e w3 ⟨rfl, rfl⟩
    by_cases hk : kindN d = 7
    ·have hk2 : ((kindN d : Int) == 7) = true := by rw [hk]; rfl
     go_wp2_with fail
     go_ret2
     exact rdiff_end Hd2.out Hf.out (decide_eq_true hk) H2.out Hm2.out rfl
    ·have hk2 : ((kindN d : Int) == 7) = false := by simp; omega
     go_wp2_with fail
     go_ret2
     exact rdiff_end Hd2.out Hf.out (decide_eq_false hk) H2.out Hm2.out rfl

   ·have hq : (u : Int) / 64 = 0 := by omega
    have Hd : Hid (diffO s = (u : Int)) := Lib.hid (by
     rw [Hdf.out]
     unfold sgn
     rw [if_neg (by decide), if_neg (fun h => by have h2 : u / 64 % 2 = 1 := h.2; omega)])
    clear hul Hdf
    go_wp2_with fail
    refine (kind_any (u : Int) _).mono ?_
    rintro e w3 ⟨rfl, rfl⟩
    by_cases hk : kindN (u : Int) = 7
    ·have hk2 : ((kindN (u : Int) : Int) == 7) = true := by rw [hk]; rfl
     go_wp2_with fail
     go_ret2
     exact rdiff_end Hd.out Hf.out (decide_eq_true hk) H2.out Hm2.out rfl
    ·have hk2 : ((kindN (u : Int) : Int) == 7) = false := by simp; omega
     go_wp2_with fail
     go_ret2
     exact rdiff_end Hd.out Hf.out (decide_eq_false hk) H2.out Hm2.out rfl
  ·go_wp2_with fail
   refine (rget_o g row 9 9 bs _ _ rfl (by decide) H1.out).mono ?_
   rintro e w2 ⟨rfl, h2, hm2⟩
   obtain ⟨u, hu⟩ : ∃ u, u = (getO 9 (markO 4 0 s).2).1 := ⟨_, rfl⟩
   rw [← hu]
   have hbit : bitsO s = getO 9 (markO 4 0 s).2 := by unfold bitsO; rw [Hf.out]; rfl
   have hul : u < 2 ^ 9 := by have := Hlt.out; rw [hbit, Hf.out] at this; rw [hu]; exact this
   have hdf : diffO s = sgn 9 u := by unfold diffO; rw [hbit, Hf.out, hu]; rfl
   have Hdf := Lib.hid hdf; have Hul := Lib.hid hul
   have H2 : Hid (RRdO w2 g row bs (behindO s)) := Lib.hid (by unfold behindO; rw [hbit]; exact h2)
   have Hm2 := Lib.hid (Hm.out.trans hm2 (fun _ _ h => h))
   clear hu hbit hdf h2 hm2 H1 Hm
   have hcv : wrap64 (u : Int) = (u : Int) := small_cast hul (by decide)
   have hul2 : u < 512 := hul
   by_cases hbit : 256 ≤ u
   ·have hq : (u : Int) / 256 = 1 := by omega
    have Hd : Hid (sgn 9 u = (u : Int) - 512) := Lib.hid (by
     unfold sgn
     rw [if_neg (by decide), if_pos ⟨by decide, by show u / 256 % 2 = 1; omega⟩]
     rfl)
    have hneg : wrap64 ((u : Int) - 512) = (u : Int) - 512 := IntWalk.wrap64_in _ (by omega)
    obtain ⟨d, hd⟩ : ∃ d, (u : Int) - 512 = d := ⟨_, rfl⟩
    have Hd2 : Hid (diffO s = d) := Lib.hid (by rw [Hdf.out, Hd.out, hd])
    rw [hd] at hneg
    clear hul Hd Hdf
    go_wp2_with fail
    refine (kind_any d _).mono ?_
    rintro e w3 ⟨rfl, rfl⟩
    by_cases hk : kindN d = 9
    ·have hk2 : ((kindN d : Int) == 9) = true := by rw [hk]; rfl
     go_wp2_with fail
     go_ret2
     exact rdiff_end Hd2.out Hf.out (decide_eq_true hk) H2.out Hm2.out rfl
    ·have hk2 : ((kindN d : Int) == 9) = false := by simp; omega
     go_wp2_with fail
     go_ret2
     exact rdiff_end Hd2.out Hf.out (decide_eq_false hk) H2.out Hm2.out rfl

   ·have hq : (u : Int) / 256 = 0 := by omega
    have Hd : Hid (diffO s = (u : Int)) := Lib.hid (by
     rw [Hdf.out]
     unfold sgn
     rw [if_neg (by decide), if_neg (fun h => by have h2 : u / 256 % 2 = 1 := h.2; omega)])
    clear hul Hdf
    go_wp2_with fail
    refine (kind_any (u : Int) _).mono ?_
    rintro e w3 ⟨rfl, rfl⟩
    by_cases hk : kindN (u : Int) = 9
    ·have hk2 : ((kindN (u : Int) : Int) == 9) = true := by rw [hk]; rfl
     go_wp2_with fail
     go_ret2
     exact rdiff_end Hd.out Hf.out (decide_eq_true hk) H2.out Hm2.out rfl
    ·have hk2 : ((kindN (u : Int) : Int) == 9) = false := by simp; omega
     go_wp2_with fail
     go_ret2
     exact rdiff_end Hd.out Hf.out (decide_eq_false hk) H2.out Hm2.out rfl
  ·go_wp2_with fail
   refine (rget_o g row 12 12 bs _ _ rfl (by decide) H1.out).mono ?_
   rintro e w2 ⟨rfl, h2, hm2⟩
   obtain ⟨u, hu⟩ : ∃ u, u = (getO 12 (markO 4 0 s).2).1 := ⟨_, rfl⟩
   rw [← hu]
   have hbit : bitsO s = getO 12 (markO 4 0 s).2 := by unfold bitsO; rw [Hf.out]; rfl
   have hul : u < 2 ^ 12 := by have := Hlt.out; rw [hbit, Hf.out] at this; rw [hu]; exact this
   have hdf : diffO s = sgn 12 u := by unfold diffO; rw [hbit, Hf.out, hu]; rfl
   have Hdf := Lib.hid hdf; have Hul := Lib.hid hul
   have H2 : Hid (RRdO w2 g row bs (behindO s)) := Lib.hid (by unfold behindO; rw [hbit]; exact h2)
   have Hm2 := Lib.hid (Hm.out.trans hm2 (fun _ _ h => h))
   clear hu hbit hdf h2 hm2 H1 Hm
   have hcv : wrap64 (u : Int) = (u : Int) := small_cast hul (by decide)
   have hul2 : u < 4096 := hul
   by_cases hbit : 2048 ≤ u
   ·have hq : (u : Int) / 2048 = 1 := by omega
    have Hd : Hid (sgn 12 u = (u : Int) - 4096) := Lib.hid (by
     unfold sgn
     rw [if_neg (by decide), if_pos ⟨by decide, by show u / 2048 % 2 = 1; omega⟩]
     rfl)
    have hneg : wrap64 ((u : Int) - 4096) = (u : Int) - 4096 := IntWalk.wrap64_in _ (by omega)
    obtain ⟨d, hd⟩ : ∃ d, (u : Int) - 4096 = d := ⟨_, rfl⟩
    have Hd2 : Hid (diffO s = d) := Lib.hid (by rw [Hdf.out, Hd.out, hd])
    rw [hd] at hneg
    clear hul Hd Hdf
    go_wp2_with fail
    refine (kind_any d _).mono ?_
    rintro e w3 ⟨rfl, rfl⟩
    by_cases hk : kindN d = 12
    ·have hk2 : ((kindN d : Int) == 12) = true := by rw [hk]; rfl
     go_wp2_with fail
     go_ret2
     exact rdiff_end Hd2.out Hf.out (decide_eq_true hk) H2.out Hm2.out rfl
    ·have hk2 : ((kindN d : Int) == 12) = false := by simp; omega
     go_wp2_with fail
     go_ret2
     exact rdiff_end Hd2.out Hf.out (decide_eq_false hk) H2.out Hm2.out rfl

   ·have hq : (u : Int) / 2048 = 0 := by omega
    have Hd : Hid (diffO s = (u : Int)) := Lib.hid (by
     rw [Hdf.out]
     unfold sgn
     rw [if_neg (by decide), if_neg (fun h => by have h2 : u / 2048 % 2 = 1 := h.2; omega)])
    clear hul Hdf
    go_wp2_with fail
    refine (kind_any (u : Int) _).mono ?_
    rintro e w3 ⟨rfl, rfl⟩
    by_cases hk : kindN (u : Int) = 12
    ·have hk2 : ((kindN (u : Int) : Int) == 12) = true := by rw [hk]; rfl
     go_wp2_with fail
     go_ret2
     exact rdiff_end Hd.out Hf.out (decide_eq_true hk) H2.out Hm2.out rfl
    ·have hk2 : ((kindN (u : Int) : Int) == 12) = false := by simp; omega
     go_wp2_with fail
     go_ret2
     exact rdiff_end Hd.out Hf.out (decide_eq_false hk) H2.out Hm2.out rfl
  ·go_wp2_with fail
   refine (rget_o g row 64 64 bs _ _ rfl (by decide) H1.out).mono ?_
   rintro e w2 ⟨rfl, h2, hm2⟩
   obtain ⟨u, hu⟩ : ∃ u, u = (getO 64 (markO 4 0 s).2).1 := ⟨_, rfl⟩
   rw [← hu]
   have hbit : bitsO s = getO 64 (markO 4 0 s).2 := by unfold bitsO; rw [Hf.out]; rfl
   have hul : u < 2 ^ 64 := by have := Hlt.out; rw [hbit, Hf.out] at this; rw [hu]; exact this
   have hdf : diffO s = sgn 64 u := by unfold diffO; rw [hbit, Hf.out, hu]; rfl
   have Hdf := Lib.hid hdf; have Hul := Lib.hid hul
   have H2 : Hid (RRdO w2 g row bs (behindO s)) := Lib.hid (by unfold behindO; rw [hbit]; exact h2)
   have Hm2 := Lib.hid (Hm.out.trans hm2 (fun _ _ h => h))
   clear hu hbit hdf h2 hm2 H1 Hm
   have hcv : wrap64 (u : Int) = sg u := by rw [wrap_sg, un_nat (by rw [M64_pow]; exact hul)]
   obtain ⟨d, hd⟩ : ∃ d, d = sg u := ⟨_, rfl⟩
   rw [← hd] at hcv
   have Hd := Lib.hid hd
   clear hul hd
   go_wp2_with fail
   refine (kind_any d _).mono ?_
   rintro e w3 ⟨rfl, rfl⟩
   by_cases hk : kindN d = 64
   ·have hk2 : ((kindN d : Int) == 64) = true := by rw [hk]; rfl
    go_wp2_with fail
    go_ret2
    exact rdiff_end (Hdf.out.trans (by rw [Hd.out]; rfl)) Hf.out (decide_eq_true hk) H2.out Hm2.out rfl
   ·have hk2 : ((kindN d : Int) == 64) = false := by simp; omega
    go_wp2_with fail
    go_ret2
    exact rdiff_end (Hdf.out.trans (by rw [Hd.out]; rfl)) Hf.out (decide_eq_false hk) H2.out Hm2.out rfl
end Go.Proofs.YtjmjlflmcpkmnaaGreatDoor

/- The document's own times are read: GetTimes. -/
namespace Go.Proofs.YtjmjlflmcpkmnaaGreatDoor
open Go.RowKit

theorem held4_any (n : Int) (k : Nat) (w : World) (hk : max 0 (min n 65535) = (k : Int)) :
  Calls Tryz.prog 72 #[.int .i64 n] w fun e w' => e = .returned (.int .i64 (k : Int)) ∧ w = w' := by
 obtain ⟨mx, hmx, hmx2⟩ : ∃ mx : Int, (if n < 0 then (0 : Int) else n) = mx ∧ mx = max n 0 := ⟨_, rfl, by split <;> omega⟩
 have hmn : (if 65535 < mx then (65535 : Int) else mx) = (k : Int) := by split <;> omega
 clear hk hmx2
 go_enter Tryz.func72, Tryz.ntmps72
 go_wp2
 go_ret
 exact ⟨rfl, rfl⟩
def RDecEnd (w w' : World) (g row : Nat) (bs : List Nat) (o : Option (List Int × Nat × Nat)) (e : Ending) : Prop :=
 match o with
 | some (xs, R, rem) => ∃ v, e = .returned (.tuple #[v, .bool true]) ∧ Own w.heap.size w' 2 v (cellsI xs) ∧ RRdO w' g row bs (some (R, rem)) ∧ Mod (fun i => i = g) w w'
 | none => e = .returned (.tuple #[.slice none 0 0, .bool false]) ∧ Mod (fun i => i = g) w w'
def RDec1 (w wr : World) (g row : Nat) (bs : List Nat) (k R rem i : Nat) (v : Value) (last : Nat) (s : Option (Nat × Nat)) : Prop :=
 ∃ xs, Own w.heap.size wr 2 v (cellsI xs) ∧ RRdO wr g row bs s ∧ Mod (fun i => i = g) w wr ∧ xs.length = i ∧ last < M64 ∧ (i = 0 → xs = [] ∧ last = 0 ∧ s = some (R, rem)) ∧
  (0 < i → ∃ prev, xs[i - 1]? = some prev ∧ (s = none → rdRow k R rem = none) ∧ ∀ R' rem', s = some (R', rem') → rdRow k R rem = (rdTimes (k - i) prev last R' rem').map fun p => (xs ++ p.1, p.2))
theorem RDec1.mk {w w1 w2 : World} {g row : Nat} {bs : List Nat} {k R rem i : Nat} {v2 : Value} {x : Int} {last' : Nat} {s' : Option (Nat × Nat)} {xs : List Int} (hgl : g < w.heap.size) (hrow : row < w.heap.size)
  (h1 : RRdO w1 g row bs s') (hm : Mod (fun i => i = g) w w1) (hown : Own w.heap.size w2 2 v2 (cellsI xs ++ [.int .i64 x])) (hb : Below w.heap.size w1 w2) (hxl : xs.length = i) (hl : last' < M64)
  (hn : (s' = none → rdRow k R rem = none) ∧ ∀ R' rem', s' = some (R', rem') → rdRow k R rem = (rdTimes (k - (i + 1)) x last' R' rem').map fun p => ((xs ++ [x]) ++ p.1, p.2)) :
  RDec1 w w2 g row bs k R rem (i + 1) v2 last' s' := by
 refine ⟨xs ++ [x], ?_, h1.mod (Mod.of_below hb) (by omega) (fun _ => by omega), hm.trans (Mod.of_below hb) (fun i hi h => by omega), by simp [hxl], hl, fun h => by omega, fun _ => ⟨x, ?_, hn⟩⟩
 ·rw [cellsI_snoc]
  exact hown
 ·rw [Nat.add_sub_cancel, List.getElem?_append_right (by omega), hxl, Nat.sub_self]
  rfl
/-- The step of a difference that was read, or not, as the document goes on. -/
theorem rdRow_next {k R rem i last : Nat} {prev : Int} {xs : List Int} {s : Option (Nat × Nat)} (hs : s.isSome = true) (hi : i < k) (hk : kindN (diffO s) = sz (formO s))
  (h : ∀ R' rem', s = some (R', rem') → rdRow k R rem = (rdTimes (k - i) prev last R' rem').map fun p => (xs ++ p.1, p.2)) :
  (behindO s = none → rdRow k R rem = none) ∧ ∀ R' rem', behindO s = some (R', rem') → rdRow k R rem = (rdTimes (k - (i + 1)) (nextX prev (nextL last (diffO s))) (nextL last (diffO s)) R' rem').map fun p => ((xs ++ [nextX prev (nextL last (diffO s))]) ++ p.1, p.2) := by
 have hf : formO s = hd (diffO s) := by
  rw [kind_hd] at hk
  exact (sz_inj (hd_le _) (formO_le s) hk).symm
 cases s with
 | none => cases hs
 | some p =>
  obtain ⟨R0, rem0⟩ := p
  have e1 := h R0 rem0 rfl
  obtain ⟨d1, d2⟩ := rdDiff_O R0 rem0
  obtain ⟨j, hj⟩ : ∃ j, k - i = j + 1 := ⟨k - i - 1, by omega⟩
  cases hd' : rdDiff R0 rem0 with
  | none =>
   have hb : behindO (some (R0, rem0)) = none := by
    rcases d2 hd' with h2 | h2
    ·exact h2
    ·exact absurd hf h2
   refine ⟨fun _ => ?_, fun R' rem' h2 => (by rw [hb] at h2; cases h2)⟩
   rw [e1, hj, rdTimes_more.2 hd']
   rfl
  | some q =>
   obtain ⟨d, R2, rem2⟩ := q
   obtain ⟨c1, c2, c3⟩ := d1 d R2 rem2 hd'
   refine ⟨fun h2 => (by rw [c2] at h2; cases h2), fun R' rem' h2 => ?_⟩
   rw [c2] at h2
   injection h2 with h2
   injection h2 with h3 h4
   subst h3 h4
   rw [e1, hj, rdTimes_more.1 d R2 rem2 hd', c1, show k - (i + 1) = j by omega, Option.map_map]
   congr 1
   funext p
   simp
theorem rdRow_stop {k R rem i last : Nat} {prev : Int} {xs : List Int} {s : Option (Nat × Nat)} (hs : s.isSome = true) (hi : i < k) (hk : ¬ kindN (diffO s) = sz (formO s))
  (h : ∀ R' rem', s = some (R', rem') → rdRow k R rem = (rdTimes (k - i) prev last R' rem').map fun p => (xs ++ p.1, p.2)) : rdRow k R rem = none := by
 cases s with
 | none => cases hs
 | some p =>
  obtain ⟨R0, rem0⟩ := p
  have e1 := h R0 rem0 rfl
  obtain ⟨d1, d2⟩ := rdDiff_O R0 rem0
  obtain ⟨j, hj⟩ : ∃ j, k - i = j + 1 := ⟨k - i - 1, by omega⟩
  have : rdDiff R0 rem0 = none := by
   cases hd' : rdDiff R0 rem0 with
   | none => rfl
   | some q =>
    obtain ⟨d, R2, rem2⟩ := q
    obtain ⟨c1, c2, c3⟩ := d1 d R2 rem2 hd'
    exact absurd (by rw [kind_hd, c3, c1]) hk
  rw [e1, hj, rdTimes_more.2 this]
  rfl
theorem nextL_u (last : Nat) (d : Int) : IntKind.u64.wrap ((last : Int) + (un d : Int)) = (nextL last d : Int) := by
 rw [IntKind.wrap_u64]
 unfold nextL
 have e : ((M64 : Nat) : Int) = 18446744073709551616 := rfl
 rw [Int.natCast_emod, e, Int.natCast_add]
theorem nextX_u (prev : Int) (last : Nat) : wrap64 (IntKind.u64.wrap ((un prev : Int) + (last : Int))) = nextX prev last := by
 have e : ((M64 : Nat) : Int) = 18446744073709551616 := rfl
 have h : IntKind.u64.wrap ((un prev : Int) + (last : Int)) = (((un prev + last) % M64 : Nat) : Int) := by rw [IntKind.wrap_u64, Int.natCast_emod, e, Int.natCast_add]
 rw [h, wrap_sg, un_nat (Nat.mod_lt _ (by decide))]
 rfl
set_option maxHeartbeats 2000000 in
set_option maxRecDepth 100000 in
theorem gettimes_any (g row R rem k : Nat) (bs : List Nat) (n : Int) (w : World) (hk : max 0 (min n 65535) = (k : Int)) (hr : RRd w g row bs R rem true) (hR : R < 2 ^ rem) (hrow : row < w.heap.size) :
  Calls Tryz.prog 48 #[.pointer (some ⟨g, 0, none⟩), .int .i64 n] w fun e w' => RDecEnd w w' g row bs (rdRow k R rem) e := by
 have H0 : Hid (RDec1 w w g row bs k R rem 0 (.slice none 0 0) 0 (some (R, rem))) := Lib.hid ⟨[], Own.nil _ _ _, ⟨hr, hR⟩, Mod.refl _ _, rfl, by decide, fun _ => ⟨rfl, rfl, rfl⟩, fun h => by omega⟩
 have hgl := Lib.hid hr.lt'
 have Hrow := Lib.hid hrow; have HR := Lib.hid hR; have Hk := Lib.hid hk
 have hk65 : k ≤ 65535 := by omega
 clear hr hR hrow hk
 go_enter Tryz.func48, Tryz.ntmps48
 go_wp2_with fail
 refine (held4_any n k _ Hk.out).mono ?_
 rintro e w' ⟨rfl, rfl⟩
 clear Hk
 go_wp2_with fail
 go_loopg [6, 7, 8] k (fun l s6 s7 s8 wr => ∃ (i last : Nat) (s : Option (Nat × Nat)), i + l = k ∧ s8 = .int .i64 (i : Int) ∧ s7 = .int .u64 (last : Int) ∧ RDec1 w wr g row bs k R rem i s6 last s)
 case atStart => exact ⟨0, 0, _, by omega, rfl, rfl, H0.out⟩
 case round =>
  obtain ⟨i, last, s, hil, rfl, rfl, hD⟩ := hrel
  have HD := Lib.hid hD; have Hil := Lib.hid hil
  clear hD hil H0
  obtain ⟨xs, hown, hro, hm, hxl, hl64, hi0, hi1⟩ := HD.out
  have Hro := Lib.hid hro; have Hm := Lib.hid hm; have Hown := Lib.hid hown; have Hxl := Lib.hid hxl
  have hfl := hro.flag
  clear hown hro hm hxl
  by_cases hin : i < k
  ·cases hs : s.isSome with
   | false =>
    rw [hs] at hfl
    have hsn : s = none := by
     cases s with
     | none => rfl
     | some p => cases hs
    have Hnone : Hid (rdRow k R rem = none) := Lib.hid (by
     rcases Nat.eq_zero_or_pos i with h0 | h0
     ·have := (hi0 h0).2.2
      rw [hsn] at this
      cases this
     ·obtain ⟨_, _, h2, _⟩ := hi1 h0
      exact h2 hsn)
    clear hi0 hi1 hs hsn
    go_wp2_with fail
    go_ret2
    unfold RDecEnd
    rw [Hnone.out]
    exact ⟨rfl, Hm.out⟩
   | true =>
    rw [hs] at hfl
    have Hs := Lib.hid hs
    clear hs
    by_cases h0 : i = 0
    ·obtain ⟨rfl, rfl, rfl⟩ := hi0 h0
     subst h0
     clear hi0 hi1
     go_wp2_with fail
     refine (rget_o g row 64 64 bs _ _ rfl (by decide) Hro.out).mono ?_
     rintro e w1 ⟨rfl, h1, hm1⟩
     obtain ⟨u, hu⟩ : ∃ u, u = (getO 64 (some (R, rem))).1 := ⟨_, rfl⟩
     have hu64 : u < 2 ^ 64 := by rw [hu]; exact getO_lt HR.out 64
     have hcv : wrap64 (u : Int) = sg u := by rw [wrap_sg, un_nat (by rw [M64_pow]; exact hu64)]
     have hN : Hid (((getO 64 (some (R, rem))).2 = none → rdRow k R rem = none) ∧ ∀ R' rem', (getO 64 (some (R, rem))).2 = some (R', rem') → rdRow k R rem = (rdTimes (k - (0 + 1)) (sg u) 0 R' rem').map fun p => (([] ++ [sg u]) ++ p.1, p.2)) :=
      Lib.hid ⟨rdRow_first hin, fun R' rem' h => by rw [hu]; exact rdRow_first2 hin h⟩
     rw [← hu]
     have Hown1 : Hid (Own w.heap.size w1 2 u6 (cellsI [])) := Lib.hid (hm1.owns Hown.out (fun k hk e => by have := (Hown.out.block k hk).1; have := hgl.out; omega))
     have H1 := Lib.hid h1; have Hm1 := Lib.hid (Hm.out.trans hm1 (fun _ _ h => h))
     have hsz := Hm1.out.size
     have hr1 : (cellsI []).length + 1 ≤ maxLen := by unfold maxLen; decide
     have hr2 : ((cellsI []).length + 1) * 8 ≤ 140737488355328 := by decide
     clear hu hu64 h1 hm1 hfl
     go_wp2_with (at_builtin; refine wpList_app1 rfl (.tmp 27) (.tmp 31) _ rfl elt64 rfl Hown1.out rfl rfl rfl hr1 hr2 hsz ?_; intro v' w2 HO HB)
     have HD2 : Hid (RDec1 w w2 g row bs k R rem (0 + 1) v' 0 (getO 64 (some (R, rem))).2) := Lib.hid (RDec1.mk hgl.out Hrow.out H1.out Hm1.out HO.out HB.out rfl (by decide) hN.out)
     go_roundg (gk - 1)
     case measure => have := Hil.out; omega
     case rel => exact ⟨0 + 1, 0, _, by have := Hil.out; omega, rfl, rfl, HD2.out⟩
    ·have hb0 : ((i : Int) == 0) = false := by simp; omega
     obtain ⟨prev, hpv, h1n, h1i⟩ := hi1 (by omega)
     have H1i := Lib.hid h1i; have Hpv := Lib.hid hpv
     clear hi0 hi1 h1i h1n hpv
     go_wp2_with fail
     refine (rdiff_o g row bs s _ Hro.out).mono ?_
     rintro e w1 ⟨rfl, h1, hm1⟩
     have H1 := Lib.hid h1; have Hm1 := Lib.hid (Hm.out.trans hm1 (fun _ _ h => h))
     have Hown1 : Hid (Own w.heap.size w1 2 u6 (cellsI xs)) := Lib.hid (hm1.owns Hown.out (fun k hk e => by have := (Hown.out.block k hk).1; have := hgl.out; omega))
     clear h1 hm1 hfl
     by_cases hkd : kindN (diffO s) = sz (formO s)
     ·rw [decide_eq_true hkd]
      have hN := Lib.hid (rdRow_next (i := i) (last := last) (prev := prev) (xs := xs) Hs.out hin hkd H1i.out)
      obtain ⟨gr, cap, hv, _, hglt⟩ := Hown1.out.form' (by rw [cellsI_length, Hxl.out]; omega)
      have hcell : w1.cell? ⟨gr, i - 1, none⟩ = some (.int .i64 prev) := by
       have h := Hown1.out.cell' hv (i - 1) (by rw [cellsI_length, Hxl.out]; omega)
       rw [h, cellsI_get, Hpv.out]
       rfl
      rw [cellsI_length, Hxl.out] at hv
      subst hv
      have hdu : IntKind.u64.wrap (diffO s) = (un (diffO s) : Int) := wrapU_un _
      have hpu : IntKind.u64.wrap prev = (un prev : Int) := wrapU_un prev
      obtain ⟨l', hl'⟩ : ∃ l', l' = nextL last (diffO s) := ⟨_, rfl⟩
      have hlu : IntKind.u64.wrap ((last : Int) + (un (diffO s) : Int)) = (l' : Int) := by rw [hl']; exact nextL_u _ _
      obtain ⟨x, hx⟩ : ∃ x, x = nextX prev l' := ⟨_, rfl⟩
      obtain ⟨xu, hxu⟩ : ∃ xu : Nat, xu = (un prev + l') % M64 := ⟨_, rfl⟩
      have hxu1 : IntKind.u64.wrap ((un prev : Int) + (l' : Int)) = (xu : Int) := by
       have e : ((M64 : Nat) : Int) = 18446744073709551616 := rfl
       rw [hxu, IntKind.wrap_u64, Int.natCast_emod, e, Int.natCast_add]
      have hxu2 : wrap64 (xu : Int) = x := by rw [← hxu1, hx]; exact nextX_u _ _
      rw [← hl', ← hx] at hN
      have Hl' := Lib.hid hl'
      have hi3 : (0 : Int) ≤ (i : Int) - 1 := by omega
      have hi4 : (1 : Int) ≤ (i : Int) := by omega
      have hsz := Hm1.out.size
      have hr1 : (cellsI xs).length + 1 ≤ maxLen := by rw [cellsI_length, Hxl.out]; unfold maxLen; omega
      have hr2 : ((cellsI xs).length + 1) * 8 ≤ 140737488355328 := by rw [cellsI_length, Hxl.out]; omega
      clear hkd hl' hx hxu
      go_wp2_with (at_builtin; refine wpList_app1 rfl (.tmp 44) (.tmp 54) _ rfl elt64 rfl Hown1.out rfl rfl rfl hr1 hr2 hsz ?_; intro v' w2 HO HB)
      have HD2 : Hid (RDec1 w w2 g row bs k R rem (i + 1) v' l' (behindO s)) := Lib.hid (RDec1.mk hgl.out Hrow.out H1.out Hm1.out HO.out HB.out Hxl.out (by rw [Hl'.out]; exact nextL_lt _ _) hN.out)
      go_roundg (gk - 1)
      case measure => have := Hil.out; omega
      case rel => exact ⟨i + 1, l', _, by have := Hil.out; omega, by go_num, rfl, HD2.out⟩
     ·rw [decide_eq_false hkd]
      have Hnone := Lib.hid (rdRow_stop Hs.out hin hkd H1i.out)
      clear hkd
      go_wp2_with fail
      go_ret2
      unfold RDecEnd
      rw [Hnone.out]
      exact ⟨rfl, Hm1.out⟩
  ·have hik : i = k := by have := Hil.out; omega
   have Hres : Hid ((s = none → rdRow k R rem = none) ∧ ∀ R' rem', s = some (R', rem') → rdRow k R rem = some (xs, R', rem')) := Lib.hid (by
    rcases Nat.eq_zero_or_pos i with h0 | h0
    ·obtain ⟨b1, b2, b4⟩ := hi0 h0
     subst b1 b4
     have hk0 : k = 0 := by omega
     subst hk0
     refine ⟨fun h => (by cases h), fun R' rem' h => ?_⟩
     injection h with h
     injection h with h3 h4
     subst h3 h4
     rfl
    ·obtain ⟨prev, _, b1, b2⟩ := hi1 h0
     refine ⟨b1, fun R' rem' h => ?_⟩
     rw [b2 R' rem' h, hik, Nat.sub_self]
     show some (xs ++ [], R', rem') = _
     rw [List.append_nil])
   clear hi0 hi1 hik
   have hres1 : s = none → Hid (rdRow k R rem = none) := fun h => Lib.hid (Hres.out.1 h)
   cases s with
   | none =>
    have hres2 := hres1 rfl
    have hfl' : wr.cell? ⟨g, 2, none⟩ = some (.bool true) := hfl
    clear Hres hres1 hfl
    go_wp2_with fail
    go_ret2
    unfold RDecEnd
    rw [hres2.out]
    exact ⟨rfl, Hm.out⟩
   | some p =>
    obtain ⟨R', rem'⟩ := p
    have hres2 : Hid (rdRow k R rem = some (xs, R', rem')) := Lib.hid (Hres.out.2 R' rem' rfl)
    have hfl' : wr.cell? ⟨g, 2, none⟩ = some (.bool false) := hfl
    clear Hres hres1 hfl
    go_wp2_with fail
    go_ret2
    unfold RDecEnd
    rw [hres2.out]
    exact ⟨_, rfl, Hown.out, Hro.out, Hm.out⟩
end Go.Proofs.YtjmjlflmcpkmnaaGreatDoor

/- A row of samples read in a codec, as the document has it: Decode. -/
namespace Go.Proofs.YtjmjlflmcpkmnaaGreatDoor
open Go.RowKit

/-- The first i samples. -/
def RowTo' (w wr : World) (l : List (Int × Nat)) (i : Nat) (v : Value) : Prop := OwnS w.heap.size wr v (l.take i) ∧ Mod (fun _ => False) w wr
/-- append(l, p) as a step of a region that draws its order. -/
theorem step_appS {ops : Array Oper} {o : Oper} {a : Act} {K : Act → World → Prop} {Q : Exit → Act → World → Prop} {E : Prop} {w : World} (hgd : o.guard = none) (s x : Operand)
  (ho : o.op = .call { callee := .builtin .append, args := #[s, x], argTypes := #[22, 22] })
  {B H : Nat} {v : Value} {l : List (Int × Nat)} {p : Int × Nat} {te : TypeId} (hs : a.eval s = v) (hown : OwnS B w v l) (hx : a.eval x = .slice (some ⟨H, 0, none⟩) 1 1) (hH : w.heap.size = H)
  (hm : l.length + 1 ≤ maxLen) (hb : (l.length + 1) * 16 ≤ 140737488355328) (hB : B ≤ w.heap.size)
  (h : ∀ v' w', Hid (OwnS B w' v' (l ++ [p])) → Hid (Below B w w') → K (a.put o.dst v') w') :
  if Region.wanted o (yielded ops a.tmps) = true then Oper.wp Tryz.prog o a (w.alloc (.cells #[.int .i64 p.1, .int .u64 (p.2 : Int)] te)) K Q else E := by
 subst hH
 have hw : Region.wanted o (yielded ops a.tmps) = true := by simp [Region.wanted, hgd]
 rw [if_pos hw]
 obtain ⟨i, hi, hz0, hz1, hz2⟩ := info_parts infoS
 obtain ⟨v', w', hr, h2, h3, _, _⟩ := run_append_own_at (P := Tryz.prog) (w.alloc (.cells #[.int .i64 p.1, .int .u64 (p.2 : Int)] te)) B 22 o.type 43 i (.agg #[.int .i64 0, .int .u64 0]) 2 16 Tryz.underlying22 hi hz0 hz1 hz2 rfl (by decide) v l.length (cellsS l) (hown.alloc _) ⟨w.heap.size, 0, none⟩ 1 1
  [.int .i64 p.1, .int .u64 (p.2 : Int)] rfl (cell_two_new _ _ _ _) (fun u hu => by simp at hu; rcases hu with rfl | rfl <;> rfl) hm hb (by simp; omega)
 unfold Oper.wp execOp
 simp only [ho, resolve, invoke, builtin, Sem.run_bind, Sem.run_pure, Result.andThen_ok, List.map_toArray, List.map_cons, List.map_nil, hs, hx, hr]
 refine h v' w' ?_ ?_
 ·show OwnS B w' v' (l ++ [p])
  unfold OwnS
  rw [List.length_append, cellsS_app]
  exact h2
 ·exact ((Below.refl B w).alloc hB _).trans ((Below.refl B _).grown h3 (by simp; omega) (fun k hk => (hown.block k hk).1))
set_option maxHeartbeats 4000000 in
set_option maxRecDepth 100000 in
theorem rkdec_any (tag m : Int) (A : Option Addr) (n cap : Nat) (bs : List Nat) (w : World) (hs : Rds w w.heap.size A n (cells8 bs)) (hlt : lt256 bs) (hnc : n ≤ cap) (hcm : cap ≤ maxLen) (hn : n ≤ 1000000) (hw0 : 0 < w.heap.size) :
  Calls Tryz.prog 27 #[.int .i64 tag, .slice A n cap, .int .i64 m] w fun e w' => EncS w w' (decK tag m bs) e := by
 have hul : bs.length = n := by have := hs.1; rwa [cells8_length] at this
 have hcall := vrget_any A n cap _ bs w hs hlt (Nat.le_trans hnc hcm)
 obtain ⟨K, hK⟩ : ∃ K, (dec bs).1 = K := ⟨_, rfl⟩
 obtain ⟨a, ha⟩ : ∃ a, (dec bs).2 = a := ⟨_, rfl⟩
 have han : a ≤ n := by
  rw [← ha, ← hul]
  rcases Nat.eq_zero_or_pos (dec bs).2 with h | h
  ·omega
  ·exact (dec_some hlt h).1
 rw [hK, ha] at hcall
 have Hcall := Lib.hid hcall
 by_cases h0 : m < 0
 ·have Hno : Hid (decK tag m bs = none) := Lib.hid (decK_out (.inl h0))
  clear hs hlt hnc hcm hcall hK ha hul
  go_enter Tryz.func27, Tryz.ntmps27
  go_wp2_with fail
  refine Hcall.out.mono ?_
  rintro e w' ⟨rfl, rfl⟩
  go_wp2_with fail
  go_ret2
  exact EncS.of_none Hno.out (Mod.refl _ _)
 by_cases h1 : 65535 < m
 ·have Hno : Hid (decK tag m bs = none) := Lib.hid (decK_out (.inr h1))
  clear hs hlt hnc hcm hcall hK ha hul
  go_enter Tryz.func27, Tryz.ntmps27
  go_wp2_with fail
  refine Hcall.out.mono ?_
  rintro e w' ⟨rfl, rfl⟩
  go_wp2_with fail
  go_ret2
  exact EncS.of_none Hno.out (Mod.refl _ _)
 obtain ⟨N, hNm⟩ : ∃ N : Nat, m = (N : Int) := ⟨m.toNat, by omega⟩
 subst hNm
 have hN : N ≤ 65535 := by omega
 have hN0 : ¬ ((N : Nat) : Int) < 0 := by omega
 have hvia := decK_via (tag := tag) (bs := bs) hN
 obtain ⟨r, hr⟩ : ∃ r, n - a = r := ⟨_, rfl⟩
 have hri : (n : Int) - (a : Int) = (r : Int) := by omega
 have hcv : IntKind.u64.wrap (r : Int) = (r : Int) := by rw [IntKind.wrap_u64]; omega
 by_cases ha0 : a = 0
 ·have hab : ((a : Int) == 0) = true := by simp; omega
  have Hno : Hid (decK tag (N : Int) bs = none) := Lib.hid (by rw [hvia, readSm_no (timesOf_no0 (by rw [ha]; exact ha0))])
  clear hs hlt hnc hcm hcall hK ha hul hvia ha0 hr
  go_enter Tryz.func27, Tryz.ntmps27
  go_wp2_with fail
  refine Hcall.out.mono ?_
  rintro e w' ⟨rfl, rfl⟩
  go_wp2_with fail
  go_ret2
  exact EncS.of_none Hno.out (Mod.refl _ _)
 have hab : ((a : Int) == 0) = false := by simp; omega
 by_cases hKr : r < K
 ·have hKi : (r : Int) < (K : Int) := by omega
  have Hno : Hid (decK tag (N : Int) bs = none) := Lib.hid (by rw [hvia, readSm_no (timesOf_no1 (by rw [ha, hK, hul, hr]; exact hKr))])
  clear hs hlt hnc hcm hcall hK ha hul hvia ha0 hr
  go_enter Tryz.func27, Tryz.ntmps27
  go_wp2_with fail
  refine Hcall.out.mono ?_
  rintro e w' ⟨rfl, rfl⟩
  go_wp2_with fail
  go_ret2
  exact EncS.of_none Hno.out (Mod.refl _ _)
 have hKi : ¬ (r : Int) < (K : Int) := by omega
 have hb1 : decide (((N : Nat) : Int) < 0) = false := by simp
 have hb2 : decide ((65535 : Int) < ((N : Nat) : Int)) = false := by simp; omega
 have hb3 : decide (r < K) = false := by simp; omega
 have hKs : K ≤ 1000000 := by omega
 obtain ⟨s, hs'⟩ : ∃ s, s = a + K := ⟨_, rfl⟩
 have hsi : (a : Int) + (K : Int) = (s : Int) := by omega
 have hsn : s ≤ n := by omega
 have hsa : s - a = K := by omega
 have hai : (a : Int) ≤ (s : Int) := by omega
 have hsni : (s : Int) ≤ (n : Int) := by omega
 have hsci : (s : Int) ≤ (cap : Int) := by omega
 have haci : (a : Int) ≤ (cap : Int) := by omega
 have ha0i : (0 : Int) ≤ (a : Int) := by omega
 have hs0i : (0 : Int) ≤ (s : Int) := by omega
 obtain ⟨A1, hA1⟩ : ∃ A1, (if cap = a then A else A.map (·.add a)) = A1 := ⟨_, rfl⟩
 obtain ⟨A2, hA2⟩ : ∃ A2, (if cap = s then A else A.map (·.add s)) = A2 := ⟨_, rfl⟩
 have hr1 : Rds w w.heap.size A1 K (cells8 ((bs.drop a).take K)) := by
  have h := (hs.drop han hnc).take (k := K) (by omega)
  rw [show ((cells8 bs).drop a).take K = cells8 ((bs.drop a).take K) by simp [cells8, List.map_drop, List.map_take]] at h
  rw [← hA1]
  exact h
 have hr2 : Rds w w.heap.size A2 (n - s) (cells8 (bs.drop s)) := by
  have h := hs.drop hsn hnc
  rw [show (cells8 bs).drop s = cells8 (bs.drop s) by simp [cells8, List.map_drop]] at h
  rw [← hA2]
  exact h
 have hlt1 : lt256 ((bs.drop a).take K) := fun b hb => hlt b (List.mem_of_mem_drop (List.mem_of_mem_take hb))
 have hlt2 : lt256 (bs.drop s) := fun b hb => hlt b (List.mem_of_mem_drop hb)
 obtain ⟨row, hrow, hrr⟩ := RRd.new (c := cap - a) hr1 hlt1 hKs hw0
 obtain ⟨W, hW⟩ : ∃ W, W = w.alloc (.cells #[.slice A1 K (cap - a), .int .i64 0, .bool false] 85) := ⟨_, rfl⟩
 rw [← hW] at hrr
 have hmW : Mod (fun _ => False) w W := by rw [hW]; exact (Mod.refl _ _).alloc _
 have hto := timesOf_at (N := N) ha hK ha0 (by rw [hul, hr]) hKr
 rw [List.drop_drop, ← hs'] at hto
 obtain ⟨V, hV⟩ : ∃ V, V = val ((bs.drop a).take K) := ⟨_, rfl⟩
 have hVlt : V < 2 ^ (8 * K) := by
  have h := val_lt hlt1
  rw [List.length_take, List.length_drop, hul, hr, Nat.min_eq_left (by omega), ← hV] at h
  exact h
 rw [← hV] at hrr hto
 obtain ⟨L2, hL2⟩ : ∃ L2, n - s = L2 := ⟨_, rfl⟩
 obtain ⟨c2, hc2⟩ : ∃ c2, cap - s = c2 := ⟨_, rfl⟩
 rw [hL2] at hr2
 have hLc : L2 ≤ c2 := by omega
 have hL2s : L2 ≤ 1000000 := by omega
 have HW := Lib.hid hW; have HmW := Lib.hid hmW; have Hrr := Lib.hid hrr; have Hrow := Lib.hid (Nat.lt_of_lt_of_le hrow hmW.size); have HVlt := Lib.hid hVlt; have Hto := Lib.hid hto; have Hr2 := Lib.hid hr2; have Hlt := Lib.hid hlt; have Hlt2 := Lib.hid hlt2; have Hvia := Lib.hid hvia; have Hs := Lib.hid hs; have Hw0 := Lib.hid hw0
 have Hc2m : Hid (c2 ≤ maxLen) := Lib.hid (by omega)
 have HLc := Lib.hid hLc
 clear hs hlt hcm hcall hK ha hul hvia ha0 hr hKr hs' hr1 hr2 hlt1 hlt2 hrow hrr hW hmW hto hV hVlt hnc hLc hw0
 go_enter Tryz.func27, Tryz.ntmps27
 go_wp2_with fail
 refine Hcall.out.mono ?_
 rintro e w' ⟨rfl, rfl⟩
 clear Hcall
 go_upto_region 4 with fail
 clear hcv hri hab hKi h1 hN0 h0 hb1 hb2 hb3
 go_wp2_with fail
 rw [← HW.out]
 refine (gettimes_any w.heap.size row V (8 * K) N ((bs.drop a).take K) (N : Int) W (by omega) Hrr.out HVlt.out Hrow.out).mono ?_
 intro e w2 hd
 clear HW hA1 hai haci ha0i hsa
 have hd' : RDecEnd W w2 w.heap.size row ((bs.drop a).take K) (rdRow N V (8 * K)) e := hd
 clear hd
 have htimes : ∃ (o : Option (List Int)) (v : Value), e = .returned (.tuple #[v, .bool o.isSome]) ∧ timesOf N bs = o.map (fun ts => (ts, bs.drop s)) ∧ (∀ ts, o = some ts → ts.length = N ∧ Own W.heap.size w2 2 v (cellsI ts)) ∧ Mod (fun _ => False) w w2 := by
  cases hv : rdRow N V (8 * K) with
  | none =>
   rw [hv] at hd'
   obtain ⟨rfl, hm2⟩ := hd'
   exact ⟨none, _, rfl, by rw [Hto.out, hv]; rfl, (fun ts h => by cases h), HmW.out.trans hm2 (fun i hi e => by omega)⟩
  | some p =>
   obtain ⟨ts, R2, rem2⟩ := p
   have hlen := (rdRow_some hv HVlt.out).1
   rw [hv] at hd'
   obtain ⟨v, rfl, hown, _, hm2⟩ := hd'
   exact ⟨some ts, v, rfl, by rw [Hto.out, hv]; rfl, (fun ts' h => by injection h with h; subst h; exact ⟨hlen, hown⟩), HmW.out.trans hm2 (fun i hi e => by omega)⟩
 obtain ⟨o, v1, rfl, hto2, hown1, hm2⟩ := htimes
 obtain ⟨ob, hob⟩ : ∃ ob, o.isSome = ob := ⟨_, rfl⟩
 rw [hob]
 have Hob := Lib.hid hob; have Hto2 := Lib.hid hto2; have Hown1 := Lib.hid hown1; have Hm2 := Lib.hid hm2
 have Hr22 := Lib.hid (Hr2.out.new hm2).fit; have Hs22 := Lib.hid (Hs.out.mod hm2 (Nat.le_refl _) (fun _ _ h => h))
 have Hw2 : Hid (0 < w2.heap.size) := Lib.hid (Nat.lt_of_lt_of_le Hw0.out hm2.size)
 clear hd' hob hto2 hown1 hm2 Hr2 Hto HVlt Hrr Hrow
 go_wp2_with fail
 refine (rread_any tag A2 L2 c2 N (bs.drop s) w2 (Hr22.out.fit) Hlt2.out HLc.out Hc2m.out hL2s hN Hw2.out).mono ?_
 intro e w3 he
 have he' : RdE w2 w3 (readK tag N (bs.drop s)) e := he
 clear he hA2 hsni hsci hs0i hL2 hc2 hsi
 cases o with
 | none =>
  obtain rfl : ob = false := Hob.out.symm
  have hnone : decK tag (N : Int) bs = none := by rw [Hvia.out, readSm_no Hto2.out]
  have hend : ∃ v2 b2, e = .returned (.tuple #[v2, .bool b2]) ∧ Mod (fun _ => False) w2 w3 := by
   cases hv : readK tag N (bs.drop s) with
   | none => obtain ⟨v, h1, h2⟩ := RdE.none_ he' hv; exact ⟨v, _, h1, h2⟩
   | some vs => obtain ⟨v, h1, _, h2⟩ := RdE.some_ he' hv; exact ⟨v, _, h1, h2⟩
  obtain ⟨v2, b2, rfl, hm3⟩ := hend
  have Hno := Lib.hid hnone; have Hm3 := Lib.hid (Hm2.out.trans hm3 (fun _ _ h => h))
  clear hnone hm3 he'
  go_wp2_with fail
  go_ret2
  exact EncS.of_none Hno.out Hm3.out
 | some ts =>
  obtain rfl : ob = true := Hob.out.symm
  have hat : readSm tag N bs = (readK tag N (bs.drop s)).map fun vs => ts.zip vs := readSm_at Hto2.out
  obtain ⟨htl, hot⟩ := Hown1.out ts rfl
  cases hv : readK tag N (bs.drop s) with
  | none =>
   obtain ⟨v2, rfl, hm3⟩ := RdE.none_ he' hv
   have hnone : decK tag (N : Int) bs = none := by rw [Hvia.out, hat, hv]; rfl
   have Hno := Lib.hid hnone; have Hm3 := Lib.hid (Hm2.out.trans hm3 (fun _ _ h => h))
   clear hnone hm3 he' hat hv hot htl
   go_wp2_with fail
   go_ret2
   exact EncS.of_none Hno.out Hm3.out
  | some vs =>
   obtain ⟨v2, rfl, hov, hm3⟩ := RdE.some_ he' hv
   have hvl := (readK_some Hlt2.out hv).1
   have hsm : readSm tag N bs = some (ts.zip vs) := by rw [hat, hv]; rfl
   obtain ⟨hll, hgl⟩ := readSm_some Hlt.out hsm
   have hdk : decK tag (N : Int) bs = if encK tag (ts.zip vs) = some bs then some (ts.zip vs) else none := by rw [Hvia.out, hsm]
   obtain ⟨A4, c4, rfl, hr4⟩ := own_form hot
   rw [htl] at hr4
   obtain ⟨A5, L5, c5, rfl, HL5, _, hr5⟩ := own_formUN hov
   have hL5 : L5 = N := by have := HL5.out; omega
   subst hL5
   rw [htl]
   have Hr4 := Lib.hid (hr4.new hm3).fit; have Hr5 := Lib.hid hr5
   obtain ⟨l, hl⟩ : ∃ l, l = ts.zip vs := ⟨_, rfl⟩
   rw [← hl] at hdk hll hgl
   have Hdk := Lib.hid hdk; have Hll := Lib.hid hll; have Hgl := Lib.hid hgl; have Hl := Lib.hid hl
   have Hm3 := Lib.hid (Hm2.out.trans hm3 (fun _ _ h => h)); have Hs3 := Lib.hid (Hs22.out.mod hm3 Hm2.out.size (fun _ _ h => h))
   have R0 : Hid (RowTo' w3 w3 l 0 (.slice none 0 0)) := Lib.hid ⟨OwnS.nil _ _, Mod.refl _ _⟩
   have hcs : Tryz.prog.cellsOf 43 = 2 := by kernel_rfl
   clear he' hat hv hot htl hov hm3 hvl hsm hll hgl hdk hl hr4 hr5 Hm2 Hs22 Hr22 Hob Hto2 Hown1
   go_wp2_with fail
   go_loopg [14, 15] L5 (fun k s14 s15 wr => ∃ i : Nat, i + k = L5 ∧ s15 = .int .i64 (i : Int) ∧ RowTo' w3 wr l i s14)
   case atStart => exact ⟨0, by omega, rfl, R0.out⟩
   case round =>
    obtain ⟨i, hik, rfl, hR⟩ := hrel
    have Hik := Lib.hid hik; have HRo := Lib.hid hR
    clear hik hR R0
    by_cases hin : i < L5
    ·obtain ⟨ad4, T, rfl, hT, hcT⟩ := Hr4.out.seesI.at_ hin (Nat.le_refl _) HRo.out.2 (fun _ _ h => h)
     obtain ⟨ad5, V5, rfl, hV, hcV⟩ := Hr5.out.at2 hin (Nat.le_refl _) HRo.out.2 (fun _ _ h => h)
     have hli : l[i]? = some (T, V5) := by rw [Hl.out]; exact (List.getElem?_zip_eq_some (z := (T, V5))).2 ⟨hT, hV⟩
     have Hli := Lib.hid hli
     have hini : (i : Int) < (L5 : Int) := by omega
     have hlen : (l.take i).length ≤ 65535 := by rw [List.length_take]; omega
     have HR1 : Hid ((l.take i).length + 1 ≤ maxLen ∧ ((l.take i).length + 1) * 16 ≤ 140737488355328) := Lib.hid ⟨by unfold maxLen; omega, by omega⟩
     clear hT hV hli hlen
     go_upto_region 12 with fail
     have HOd : Hid (OwnS w3.heap.size wr.drew u14 (l.take i)) := Lib.hid HRo.out.1
     have Hmd : Hid (Mod (fun _ => False) w3 wr.drew) := Lib.hid HRo.out.2.drew
     have hszd := Hmd.out.size
     go_region_law ((refine step_appS (p := (T, V5)) rfl (.tmp 91) (.tmp 101) rfl rfl HOd.out rfl rfl HR1.out.1 HR1.out.2 hszd ?_; intro v6 w6 HO6 HB6))
     all_goals (
      have HR2 : Hid (RowTo' w3 w6 l (i + 1) v6) := Lib.hid ⟨by
       have e : l.take (i + 1) = l.take i ++ [(T, V5)] := by
        obtain ⟨hi, he⟩ := List.getElem?_eq_some_iff.1 Hli.out
        rw [List.take_succ_eq_append_getElem hi, he]
       rw [e]
       exact HO6.out, Hmd.out.trans (Mod.of_below HB6.out) (fun i hi h => by omega)⟩
      simp only [Act.put, List.getElem_toArray, List.getElem_cons_succ, List.getElem_cons_zero, List.setIfInBounds_toArray, List.set_cons_succ, List.set_cons_zero]
      go_wp2_with fail
      go_roundg (gk - 1)
      case measure => have := Hik.out; omega
      case rel => exact ⟨i + 1, by have := Hik.out; omega, by go_num, HR2.out⟩)
    ·have hi : i = L5 := by have := Hik.out; omega
     obtain ⟨k1, k2⟩ := HRo.out
     rw [List.take_of_length_le (by rw [Hll.out]; omega)] at k1
     have k1' := k1
     obtain ⟨A6, L6, c6, hu6, HL6, _, _, hr6⟩ := k1.formN
     subst hu6
     have hL6 : L6 = L5 := by have := HL6.out; have := Hll.out; omega
     subst hL6
     have Hr6 := Lib.hid hr6; have Ho6 := Lib.hid (k1'.mono Hm3.out.size); have Hm6 := Lib.hid (Hm3.out.trans k2 (fun _ _ h => h)); have Hs6 := Lib.hid (Hs3.out.mod k2 Hm3.out.size (fun _ _ h => h))
     clear hi k1 k1' k2 hr6 HRo
     go_wp2_with fail
     refine (rkenc_any tag A6 L6 c6 l wr Hr6.out Hgl.out (by omega)).mono ?_
     intro e w7 he
     have he' : EncB wr w7 (encK tag l) e := he
     clear he
     cases ho : encK tag l with
     | none =>
      obtain ⟨rfl, hm7⟩ := EncB.none_ he' ho
      have Hno : Hid (decK tag (L6 : Int) bs = none) := Lib.hid (by rw [Hdk.out, ho, if_neg (by intro h; cases h)])
      have Hm7 := Lib.hid (Hm6.out.trans hm7 (fun _ _ h => h))
      clear he' ho hm7
      go_wp2_with fail
      go_ret2
      exact EncS.of_none Hno.out Hm7.out
     | some b2 =>
      obtain ⟨v7, rfl, ho7, hm7⟩ := EncB.some_ he' ho
      have hb256 := encK_256 ho
      have hdk2 : decK tag (L6 : Int) bs = if b2 = bs then some l else none := by
       rw [Hdk.out, ho]
       by_cases h : b2 = bs
       ·rw [if_pos (by rw [h]), if_pos h]
       ·rw [if_neg (by intro e; injection e with e; exact h e), if_neg h]
      obtain ⟨A7, L7, c7, rfl, HL7, _, _, hr7⟩ := own_formN8 ho7
      obtain ⟨s1, hs1⟩ : ∃ s1, strOf b2 = s1 := ⟨_, rfl⟩
      obtain ⟨s2, hs2⟩ : ∃ s2, strOf bs = s2 := ⟨_, rfl⟩
      have hcv1 : (convert 25 9 (.slice A7 L7 c7)).run Tryz.prog w7 = .ok (.string (strOf b2)) w7 := conv_rds Tryz.underlying25 Tryz.underlying5 Tryz.underlying9 w7 hr7 hb256
      have hcv2 : (convert 25 9 (.slice A n cap)).run Tryz.prog w7 = .ok (.string (strOf bs)) w7 := conv_rds Tryz.underlying25 Tryz.underlying5 Tryz.underlying9 w7 (Hs6.out.mod hm7 (Nat.le_trans Hm6.out.size (Nat.le_refl _)) (fun _ _ h => h)) Hlt.out
      rw [hs1] at hcv1
      rw [hs2] at hcv2
      have Hm7 := Lib.hid (Hm6.out.trans hm7 (fun _ _ h => h)); have Ho7 := Lib.hid (Ho6.out.mod hm7)
      by_cases hb : b2 = bs
      ·obtain ⟨e1, e2⟩ := str_ne hs1 hs2 hb256 Hlt.out (show decide (b2 = bs) = true by simp [hb])
       have Hyes : Hid (decK tag (L6 : Int) bs = some l) := Lib.hid (by rw [hdk2, if_pos hb])
       clear he' ho ho7 hm7 hb256 hdk2 hr7 hs1 hs2 hb
       go_wp2_with fail
       go_ret2
       exact EncS.of_some Hyes.out Ho7.out Hm7.out
      ·obtain ⟨e1, e2⟩ := str_ne hs1 hs2 hb256 Hlt.out (show decide (b2 = bs) = false by simp [hb])
       have Hno : Hid (decK tag (L6 : Int) bs = none) := Lib.hid (by rw [hdk2, if_neg hb])
       clear he' ho ho7 hm7 hb256 hdk2 hr7 hs1 hs2 hb
       go_wp2_with fail
       go_ret2
       exact EncS.of_none Hno.out Hm7.out
end Go.Proofs.YtjmjlflmcpkmnaaGreatDoor

/- Chunks, of the document: Open. -/
namespace Go.Proofs.YtjmjlflmcpkmnaaGreatDoor
open Go.RowKit

theorem openC_no {bs : List Nat} (h : hdC bs = none) : openC bs = none := by
 unfold openC
 rw [h]
theorem openC_at {bs : List Nat} {t m k : Nat} {f g : Int} (h : hdC bs = some ((t, m, f, g), k)) : openC bs = if bs.length < k + 4 then none else match decK (t : Int) (m : Int) ((bs.take (bs.length - 4)).drop k) with
  | none => none
  | some l => if makeC (t : Int) l = some bs then some (l, t) else none := by
 unfold openC
 rw [h]
 simp only
 congr 1
set_option maxHeartbeats 1000000 in
set_option maxRecDepth 100000 in
theorem ropen_any (A : Option Addr) (n c : Nat) (bs : List Nat) (w : World) (hs : Rds w w.heap.size A n (cells8 bs)) (hlt : lt256 bs) (hnc : n ≤ c) (hcm : c ≤ maxLen) (hn : n ≤ 1000000) :
  Calls Tryz.prog 9 #[.slice A n c] w fun e w' => EncO w w' (openC bs) e := by
 have hlen : bs.length = n := by have := hs.1; rwa [cells8_length] at this
 have Hs := Lib.hid hs; have Hlt := Lib.hid hlt; have Hcm := Lib.hid hcm; have Hlen := Lib.hid hlen
 clear hs hlt hcm hlen
 obtain ⟨o, ho⟩ : ∃ o, o = openC bs := ⟨_, rfl⟩
 rw [← ho]
 have Ho := Lib.hid ho
 clear ho
 go_enter Tryz.func9, Tryz.ntmps9
 go_wp2_with fail
 refine (rhead_any A n c bs w Hs.out Hlt.out hnc Hcm.out).mono ?_
 intro e w1 he
 have he' : RHead w w1 bs e := he
 obtain ⟨rfl, hm1⟩ := he'
 have Hm1 := Lib.hid hm1
 clear he hm1
 cases hd : hdC bs with
 | none =>
  have Hno : Hid (o = none) := Lib.hid (by rw [Ho.out]; exact openC_no hd)
  have Hm2 := Lib.hid (Hm1.out.alloc (.cells #[.int .i64 0, .int .i64 0, .int .i64 0, .int .i64 0] 36))
  simp only [hdV, hdK, Option.map_none, Option.getD_none, Option.isSome_none]
  clear hd
  go_wp2_with fail
  go_ret3
  exact EncO.of_none Hno.out Hm2.out
 | some p =>
  obtain ⟨⟨t, m, f, g⟩, k⟩ := p
  obtain ⟨t1, t6, n1, n6, ff, fg, hfg, hkk, rest, hrest⟩ := hdC_some Hlt.out hd
  have hat := openC_at hd
  have hkn : k ≤ n := by rw [← Hlen.out, hrest, hkk, List.length_append]; omega
  simp only [hdV, hdK, Option.map_some, Option.getD_some, Option.isSome_some]
  rw [← Ho.out, Hlen.out] at hat
  have Hat := Lib.hid hat
  clear hd hat Ho ff fg hfg hkk hrest rest
  obtain ⟨W2, hW2⟩ : ∃ W2, W2 = w1.alloc (.cells #[.int .i64 (t : Int), .int .i64 (m : Int), .int .i64 f, .int .i64 g] 36) := ⟨_, rfl⟩
  obtain ⟨hk, hhk⟩ : ∃ hk, hk = w1.heap.size := ⟨_, rfl⟩
  have hmW : Mod (fun _ => False) w1 W2 := by rw [hW2]; exact (Mod.refl _ _).alloc _
  have hbN : Blk W2 hk 36 #[.int .i64 (t : Int), .int .i64 (m : Int), .int .i64 f, .int .i64 g] := by rw [hW2, hhk]; exact Blk.new _ _ _
  have HmW := Lib.hid (Hm1.out.trans hmW (fun _ _ h => h)); have HbN := Lib.hid hbN; have HW2 := Lib.hid hW2; have Hhk := Lib.hid hhk
  have HrW := Lib.hid (Hs.out.new HmW.out).fit
  have hw4 : IntKind.i64.wrap ((k : Int) + 4) = (k : Int) + 4 := by rw [IntWalk.i64_in _ (by omega)]
  clear hmW hbN hW2 hhk Hm1 Hs
  go_upto_region 2 with fail
  rw [← HW2.out, ← Hhk.out]
  by_cases h4 : (n : Int) < (k : Int) + 4
  ·have Hno : Hid (o = none) := Lib.hid (by rw [Hat.out, if_pos (by omega)])
   go_wp2_with fail
   go_ret3
   exact EncO.of_none Hno.out HmW.out
  ·obtain ⟨N, hN⟩ : ∃ N, n = N + 4 := ⟨n - 4, by omega⟩
   have hkN : k ≤ N := by omega
   have hov : o = match decK (t : Int) (m : Int) ((bs.take N).drop k) with | none => none | some l => if makeC (t : Int) l = some bs then some (l, t) else none := by
    rw [Hat.out, if_neg (by omega), hN, Nat.add_sub_cancel]
   have hdr := (HrW.out.take (k := N) (by omega)).drop (k := k) (cap := c) hkN (by omega)
   have hcd : ((cells8 bs).take N).drop k = cells8 ((bs.take N).drop k) := by simp [cells8, List.map_drop, List.map_take]
   rw [hcd] at hdr
   obtain ⟨A1, hA1⟩ : ∃ A1, (if c = k then A else A.map (·.add k)) = A1 := ⟨_, rfl⟩
   rw [hA1] at hdr
   have hltd : lt256 ((bs.take N).drop k) := fun x hx => Hlt.out x (List.mem_of_mem_take (List.mem_of_mem_drop hx))
   obtain ⟨bd, hbd⟩ : ∃ bd, bd = (bs.take N).drop k := ⟨_, rfl⟩
   rw [← hbd] at hov hdr hltd
   have hwN : IntKind.i64.wrap ((n : Int) - 4) = (N : Int) := by rw [IntWalk.i64_in _ (by omega)]; omega
   have hkNi : (k : Int) ≤ (N : Int) := by omega
   have hNci : (N : Int) ≤ (c : Int) := by omega
   have hk0 : (0 : Int) ≤ (k : Int) := by omega
   have hN0 : (0 : Int) ≤ (N : Int) := by omega
   have q0 := HbN.out.cell 0
   have q1 := HbN.out.cell 1
   simp at q0 q1
   have hHl := HbN.out.lt
   have HX : Hid (∀ W', Mod (fun _ => False) W2 W' → Mod (fun _ => False) W2 W' ∧ W'.cell? ⟨hk, 0, none⟩ = some (.int .i64 (t : Int)) ∧ W'.cell? ⟨hk, 1, none⟩ = some (.int .i64 (m : Int))) :=
    Lib.hid (fun W' h => ⟨h, (h.cell (a := ⟨hk, 0, none⟩) hHl (fun h => h)).trans q0, (h.cell (a := ⟨hk, 1, none⟩) hHl (fun h => h)).trans q1⟩)
   have S1 := Lib.hid (HX.out W2.drew (Mod.refl _ _).drew)
   have S0 := Lib.hid (HX.out W2 (Mod.refl _ _))
   have hcall := rkdec_any (t : Int) (m : Int) A1 (N - k) (c - k) bd W2.drew hdr.drew.fit hltd (by omega) (by have := Hcm.out; omega) (by omega) (by have := HmW.out.size; show 0 < W2.heap.size; omega)
   have Hcall := Lib.hid hcall; have Hov := Lib.hid hov; have HN := Lib.hid hN; have Hltd := Lib.hid hltd
   have Hsz2 := Lib.hid HmW.out.size
   have Hh4 := Lib.hid h4
   clear hov hdr hltd hbd hcall hcd hHl hN
   go_upto_region 4 with fail
   clear hw4 Hh4 h4
   cases hdk : decK (t : Int) (m : Int) bd with
   | none =>
    have Hno : Hid (o = none) := Lib.hid (by rw [Hov.out, hdk])
    go_cut [8, 9] (fun s8 s9 wc => s8 = .slice none 0 0 ∧ s9 = .bool false ∧ Mod (fun _ => False) W2 wc)
    case first =>
     first
      | (go_region_held_law (fun W' => Mod (fun _ => False) W2 W' ∧ W'.cell? ⟨hk, 0, none⟩ = some (.int .i64 (t : Int)) ∧ W'.cell? ⟨hk, 1, none⟩ = some (.int .i64 (m : Int))) (first | (with_reducible exact S2.out) | (with_reducible exact S1.out) | (with_reducible exact S0.out))
        (first
         | (go_at_call 27; refine Hcall.out.mono ?_; intro e w3 he; have he' : EncS W2.drew w3 (decK (t : Int) (m : Int) bd) e := he; clear he; obtain ⟨rfl, hm3⟩ := EncS.none_ he' hdk; have Hm3 := Lib.hid ((Mod.refl (fun _ => False) W2).drew.trans hm3 (fun _ _ h => h)); have S2 := Lib.hid (HX.out _ Hm3.out); clear he' hm3)))
      | fail "held"
     all_goals
      go_wp2_with fail
      go_meet
      exact ⟨rfl, rfl, Hm3.out⟩
    case rest =>
    obtain ⟨rfl, rfl, hmc⟩ := hcut
    have Hmc := Lib.hid (HmW.out.trans hmc (fun _ _ h => h))
    clear hmc
    go_wp2_with fail
    go_ret3
    exact EncO.of_none Hno.out Hmc.out
   | some l =>
    have hov2 : o = if makeC (t : Int) l = some bs then some (l, t) else none := by rw [Hov.out, hdk]
    have Hov2 := Lib.hid hov2
    have hgl := (decK_some Hltd.out hdk).2.2.2.1
    have hln := (decK_some Hltd.out hdk).2.2.1
    have Hgl := Lib.hid hgl
    have hl6 : l.length ≤ 65535 := by omega
    clear hov2 hgl hln Hov
    go_cut [8, 9] (fun s8 s9 wc => s9 = .bool true ∧ OwnS W2.heap.size wc s8 l ∧ Mod (fun _ => False) W2 wc)
    case first =>
     first
      | (go_region_held_law (fun W' => Mod (fun _ => False) W2 W' ∧ W'.cell? ⟨hk, 0, none⟩ = some (.int .i64 (t : Int)) ∧ W'.cell? ⟨hk, 1, none⟩ = some (.int .i64 (m : Int))) (first | (with_reducible exact S2.out) | (with_reducible exact S1.out) | (with_reducible exact S0.out))
        (first
         | (go_at_call 27; refine Hcall.out.mono ?_; intro e w3 he; have he' : EncS W2.drew w3 (decK (t : Int) (m : Int) bd) e := he; clear he; obtain ⟨v3, rfl, ho3, hm3⟩ := EncS.some_ he' hdk; have Ho3 := Lib.hid ho3; have Hm3 := Lib.hid ((Mod.refl (fun _ => False) W2).drew.trans hm3 (fun _ _ h => h)); have S2 := Lib.hid (HX.out _ Hm3.out); clear he' hm3 ho3)))
      | fail "held"
     all_goals
      go_wp2_with fail
      go_meet
      exact ⟨rfl, Ho3.out, Hm3.out⟩
    case rest =>
    obtain ⟨rfl, ho3, hmc⟩ := hcut
    obtain ⟨A3, L3, c3, rfl, HL3, _, _, hr3⟩ := ho3.formN
    have hL3 : L3 ≤ 65535 := by rw [← HL3.out]; exact hl6
    have Hmc := Lib.hid (HmW.out.trans hmc (fun _ _ h => h)); have Ho3 := Lib.hid (ho3.mono Hsz2.out); have Hr3 := Lib.hid hr3
    have S5 := HX.out _ hmc
    have c0 := S5.2.1
    have HbC := Lib.hid (hmc.blk HbN.out (fun h => h))
    have Hrc := Lib.hid (HrW.out.new hmc).fit
    clear hdk hmc ho3 hr3 S5 S1 S0 HX Hcall hl6 q0 q1 hA1 hwN
    go_wp2_with fail
    refine (rmake_any (t : Int) A3 L3 c3 l wc Hr3.out Hgl.out (by omega)).mono ?_
    intro e w4 he
    have he' : EncB wc w4 (makeC (t : Int) l) e := he
    clear he
    cases hmk : makeC (t : Int) l with
    | none =>
     obtain ⟨rfl, hm4⟩ := EncB.none_ he' hmk
     have Hno : Hid (o = none) := Lib.hid (by rw [Hov2.out, hmk, if_neg (by simp)])
     have Hm4 := Lib.hid (Hmc.out.trans hm4 (fun _ _ h => h))
     clear he' hmk hm4 c0
     go_wp2_with fail
     go_ret3
     exact EncO.of_none Hno.out Hm4.out
    | some cs =>
     obtain ⟨v4, rfl, ho4, hm4⟩ := EncB.some_ he' hmk
     have hltc := makeC_256 hmk
     obtain ⟨A4, L4, c4, rfl, HL4, _, _, hr4⟩ := own_formN8 ho4
     have hcv1 : (convert 25 9 (.slice A4 L4 c4)).run Tryz.prog w4 = .ok (.string (strOf cs)) w4 := conv_rds Tryz.underlying25 Tryz.underlying5 Tryz.underlying9 w4 hr4 hltc
     have hcv2 : (convert 25 9 (.slice A n c)).run Tryz.prog w4 = .ok (.string (strOf bs)) w4 := conv_rds Tryz.underlying25 Tryz.underlying5 Tryz.underlying9 w4 (Hrc.out.new hm4).fit Hlt.out
     obtain ⟨s1, hs1⟩ : ∃ s1, strOf cs = s1 := ⟨_, rfl⟩
     obtain ⟨s2, hs2⟩ : ∃ s2, strOf bs = s2 := ⟨_, rfl⟩
     rw [hs1] at hcv1
     rw [hs2] at hcv2
     obtain ⟨hq, hne⟩ := str_ne hs1 hs2 hltc Hlt.out rfl
     have hh4 := hm4.blk HbC.out (fun h => h)
     have r0 := hh4.cell 0
     simp at r0
     have Hm4 := Lib.hid (Hmc.out.trans hm4 (fun _ _ h => h)); have Ho4 := Lib.hid (Ho3.out.mod hm4)
     clear he' ho4 hltc hr4 hs1 hs2 hh4 hm4 c0
     by_cases hcb : cs = bs
     ·have Hyes : Hid (o = some (l, t)) := Lib.hid (by rw [Hov2.out, hmk, hcb, if_pos rfl])
      rw [decide_eq_true hcb] at hq hne
      clear hmk hcb
      go_upto_region 10 with fail
      first
       | (go_quiet (fail))
       | (go_region)
      go_wp2_with fail
      go_ret3
      exact EncO.of_some Hyes.out Ho4.out (Hm4.out.drewN _)
     ·have Hno : Hid (o = none) := Lib.hid (by rw [Hov2.out, hmk, if_neg (fun h => hcb (by injection h))])
      rw [decide_eq_false hcb] at hq hne
      clear hmk hcb
      go_wp2_with fail
      go_ret3
      exact EncO.of_none Hno.out Hm4.out
end Go.Proofs.YtjmjlflmcpkmnaaGreatDoor

/- The statements' own rows of times: Times. -/
namespace Go.Proofs.YtjmjlflmcpkmnaaGreatDoor
open Go.RowKit

def TimesTo (w wr : World) (v : Value) (z : Int) (i : Nat) : Prop := ∃ ts : List Int, Own w.heap.size wr 2 v (cellsI ts) ∧ ts.length = i ∧ (∀ x ∈ ts, Fits x) ∧ FitI z ∧ Mod (fun _ => False) w wr
theorem wrap_fits (x : Int) : Fits (wrap64 x) := by rw [wrap_sg]; exact sg_fits (un_lt x)
theorem fitI_of {x : Int} (h : FitI x) : Fits x := by
 have h1 := h.out
 have hh : (H63 : Int) = 9223372036854775808 := rfl
 exact ⟨by omega, by omega⟩
theorem of_fits {x : Int} (h : Fits x) : FitI x := by
 have h1 := h.1; have h2 := h.2
 have hh : (H63 : Int) = 9223372036854775808 := rfl
 exact ⟨by omega, by omega⟩
theorem eight {a b c d e : Int} {j : Nat} (h : j < 8) : ∃ y : Int, (#[Value.int .i64 a, .int .i64 b, .int .i64 c, .int .i64 d, .int .i64 e, .int .i64 60, .int .i64 60, .int .i64 60] : Array Value)[j]? = some (.int .i64 y) := by
 have h' : j = 0 ∨ j = 1 ∨ j = 2 ∨ j = 3 ∨ j = 4 ∨ j = 5 ∨ j = 6 ∨ j = 7 := by omega
 rcases h' with rfl | rfl | rfl | rfl | rfl | rfl | rfl | rfl <;> exact ⟨_, rfl⟩
/-- Behind the literal: its cell j; nothing else has turned. -/
def TimC (wr : World) (p : Addr) (x : Int) (H j : Nat) (y : Int) (w' : World) : Prop := w'.cell? p = some (.int .i64 x) ∧ w'.cell? ⟨H, j, none⟩ = some (.int .i64 y) ∧ Mod (fun _ => False) wr w'
set_option maxHeartbeats 4000000 in
set_option maxRecDepth 100000 in
theorem times_any (A : Option Addr) (n c : Nat) (zs : List Int) (raw : Bool) (w : World) (hs : SeesI .i64 w w.heap.size A n zs) (hz : ∀ x ∈ zs, FitI x) :
  Calls Tryz.prog 13 #[.slice A n c, .bool raw] w fun e w' => ∃ (v : Value) (ts : List Int), e = .returned v ∧ Own w.heap.size w' 2 v (cellsI ts) ∧ ts.length ≤ 60 ∧ (∀ x ∈ ts, Fits x) ∧ Mod (fun _ => False) w w' := by
 have Hs := Lib.hid hs; have Hz := Lib.hid hz
 have H0 : Hid (∀ z, FitI z → TimesTo w w (.slice none 0 0) z 0) := Lib.hid (fun z hz => ⟨[], Own.nil _ _ _, rfl, (fun _ h => by cases h), hz, Mod.refl _ _⟩)
 clear hs hz
 go_enter Tryz.func13, Tryz.ntmps13
 go_upto_if 11 with fail
 go_cut [6] (fun s6 wc => ∃ z, FitI z ∧ s6 = .int .i64 z ∧ w = wc)
 case first =>
  by_cases h0 : 0 < n
  ·obtain ⟨ad, x, rfl, hx, hcx⟩ := Hs.out.at_ h0 (Nat.le_refl _) (Mod.refl (fun _ => False) w) (fun _ _ h => h)
   have hxf := Hz.out x (List.mem_of_getElem? hx)
   have hcx0 : w.cell? ad = some (.int .i64 x) := by rw [← add_zero' ad]; exact hcx
   clear hx hcx
   go_wp2_with fail
   go_meet
   case rel => exact ⟨x, hxf, rfl, rfl⟩
  ·go_wp2_with fail
   go_meet
   case rel => exact ⟨0, ⟨by decide, by decide⟩, rfl, rfl⟩
 case rest =>
  obtain ⟨z, hzf, rfl, rfl⟩ := hcut
  have H1 : Hid (TimesTo w w (.slice none 0 0) z 0) := Lib.hid (H0.out z hzf)
  clear H0 hzf
  go_wp2_with fail
  go_loopg [5, 6, 7] 60 (fun l s5 s6 s7 wr => ∃ (i : Nat) (z : Int), i + l = 60 ∧ s7 = .int .i64 (i : Int) ∧ s6 = .int .i64 z ∧ TimesTo w wr s5 z i)
  case atStart => exact ⟨0, z, by omega, rfl, rfl, H1.out⟩
  case round =>
   obtain ⟨i, z, hil, rfl, rfl, hT⟩ := hrel
   have HT := Lib.hid hT; have Hil := Lib.hid hil
   clear hT hil H1
   by_cases hin : i < n
   ·by_cases hi60 : i < 60
    ·obtain ⟨ts, hown, hl, hf, hzf, hm⟩ := HT.out
     obtain ⟨ad, x, rfl, hx, hcx⟩ := Hs.out.at_ hin (Nat.le_refl _) hm (fun _ _ h => h)
     have hxf := Hz.out x (List.mem_of_getElem? hx)
     have hlt := World.block_lt_of_cell? wr _ hcx
     have Hown := Lib.hid hown; have Hl := Lib.hid hl; have Hf := Lib.hid hf; have Hm := Lib.hid hm; have Hx := Lib.hid hx
     clear hown hl hf hm hx HT
     have hi0 : (0 : Int) ≤ (i : Int) := by omega
     have hw7 : IntKind.i64.wrap ((i : Int) + 1) = (i : Int) + 1 := IntWalk.i64_in _ (by omega)
     go_upto_if 30 with fail
     go_cut [8] (fun s8 wc => ∃ y, Fits y ∧ s8 = .int .i64 y ∧ Mod (fun _ => False) wr wc)
     case first =>
      cases raw with
      | true =>
       go_wp2_with fail
       go_meet
       case rel => exact ⟨x, fitI_of hxf, rfl, Mod.refl _ _⟩
      | false =>
       obtain ⟨j, hj, hj8⟩ : ∃ j : Nat, bits .and .i64 x 7 = (j : Int) ∧ j < 8 := and_nat x 7 3 rfl (by omega)
       have hcd : wr.drew.cell? (ad.add i) = some (.int .i64 x) := hcx
       have hal : ∀ o, (wr.drew.alloc o).cell? (ad.add i) = some (.int .i64 x) := fun o => (World.cell?_alloc_lt wr.drew o _ hlt).trans hcx
       go_wp2_with fail
       refine wp_region_held_drew (S := fun w' => w'.cell? (ad.add i) = some (.int .i64 x)) (by kernel_rfl) hcd (fun hHeld => ?_)
       refine wpAnyH_take (i := 0) (v := ?_) rfl (by kernel_rfl) (by kernel_rfl) (by kernel_rfl) (fun _ _ _ h => h) (Or.inl ⟨by rfl, ?_⟩) hHeld ?_
       rotate_left
       ·(intro w hSw; (try dsimp only at hSw); go_simp; first | done | with_reducible rfl)
       simp only [Act.put]
       refine wpAnyH_take (i := 1) (v := ?_) rfl (by kernel_rfl) (by kernel_rfl) (by kernel_rfl) (fun _ _ _ h => h) (Or.inl ⟨by rfl, ?_⟩) hHeld ?_
       rotate_left
       ·(intro w hSw; (try dsimp only at hSw); go_simp; first | done | with_reducible rfl)
       simp only [Act.put]
       refine wpAnyH_take (i := 2) (v := ?_) rfl (by kernel_rfl) (by kernel_rfl) (by kernel_rfl) (fun _ _ _ h => h) (Or.inl ⟨by rfl, ?_⟩) hHeld ?_
       rotate_left
       ·(intro w hSw; (try dsimp only at hSw); go_simp; first | done | with_reducible rfl)
       simp only [Act.put]
       refine wpAnyH_take (i := 3) (v := ?_) rfl (by kernel_rfl) (by kernel_rfl) (by kernel_rfl) (fun _ _ _ h => h) (Or.inl ⟨by rfl, ?_⟩) hHeld ?_
       rotate_left
       ·(intro w hSw; (try dsimp only at hSw); go_simp; first | done | with_reducible rfl)
       simp only [Act.put]
       refine wpAnyH_take (i := 4) (v := ?_) rfl (by kernel_rfl) (by kernel_rfl) (by kernel_rfl) (fun _ _ _ h => h) (Or.inl ⟨by rfl, ?_⟩) hHeld ?_
       rotate_left
       ·(intro w hSw; (try dsimp only at hSw); go_simp; first | done | with_reducible rfl)
       simp only [Act.put]
       refine wpAnyH_take (i := 5) (v := ?_) rfl (by kernel_rfl) (by kernel_rfl) (by kernel_rfl) (fun _ _ _ h => h) (Or.inl ⟨by rfl, ?_⟩) hHeld ?_
       rotate_left
       ·(intro w hSw; (try dsimp only at hSw); go_simp; first | done | with_reducible rfl)
       simp only [Act.put]
       refine wpAnyH_take (i := 6) (v := ?_) rfl (by kernel_rfl) (by kernel_rfl) (by kernel_rfl) (fun _ _ _ h => h) (Or.inl ⟨by rfl, ?_⟩) hHeld ?_
       rotate_left
       ·(intro w hSw; (try dsimp only at hSw); go_simp; first | done | with_reducible rfl)
       simp only [Act.put]
       refine wpAnyH_take (i := 7) (v := ?_) rfl (by kernel_rfl) (by kernel_rfl) (by kernel_rfl) (fun _ _ _ h => h) (Or.inl ⟨by rfl, ?_⟩) hHeld ?_
       rotate_left
       ·(intro w hSw; (try dsimp only at hSw); go_simp; first | done | with_reducible rfl)
       simp only [Act.put]
       refine wpAnyH_take (i := 8) (v := ?_) rfl (by kernel_rfl) (by kernel_rfl) (by kernel_rfl) (fun _ _ _ h => h) (Or.inl ⟨by rfl, ?_⟩) hHeld ?_
       rotate_left
       ·(intro w hSw; (try dsimp only at hSw); go_simp; first | done | with_reducible rfl)
       simp only [Act.put]
       refine wpAnyH_take (i := 9) (v := ?_) rfl (by kernel_rfl) (by kernel_rfl) (by kernel_rfl) (fun _ _ _ h => h) (Or.inl ⟨by rfl, ?_⟩) hHeld ?_
       rotate_left
       ·(intro w hSw; (try dsimp only at hSw); go_simp; first | done | with_reducible rfl)
       simp only [Act.put]
       refine wpAnyH_take (i := 10) (v := ?_) rfl (by kernel_rfl) (by kernel_rfl) (by kernel_rfl) (fun _ _ _ h => h) (Or.inl ⟨by rfl, ?_⟩) hHeld ?_
       rotate_left
       ·(intro w hSw; (try dsimp only at hSw); go_simp; first | done | with_reducible rfl)
       simp only [Act.put]
       refine wpAnyH_take (i := 11) (v := ?_) rfl (by kernel_rfl) (by kernel_rfl) (by kernel_rfl) (fun _ _ _ h => h) (Or.inl ⟨by rfl, ?_⟩) hHeld ?_
       rotate_left
       ·(intro w hSw; (try dsimp only at hSw); go_simp; first | done | with_reducible rfl)
       simp only [Act.put]
       refine wpAnyH_take (i := 12) (v := ?_) rfl (by kernel_rfl) (by kernel_rfl) (by kernel_rfl) (fun _ _ _ h => h) (Or.inl ⟨by rfl, ?_⟩) hHeld ?_
       rotate_left
       ·(intro w hSw; (try dsimp only at hSw); go_simp; first | done | with_reducible rfl)
       simp only [Act.put]
       refine wpAnyH_take (i := 13) (v := ?_) rfl (by kernel_rfl) (by kernel_rfl) (by kernel_rfl) (fun _ _ _ h => h) (Or.inl ⟨by rfl, ?_⟩) hHeld ?_
       rotate_left
       ·(intro w hSw; (try dsimp only at hSw); go_simp; first | done | with_reducible rfl)
       simp only [Act.put]
       refine wpAnyH_take (i := 14) (v := ?_) rfl (by kernel_rfl) (by kernel_rfl) (by kernel_rfl) (fun _ _ _ h => h) (Or.inl ⟨by rfl, ?_⟩) hHeld ?_
       rotate_left
       ·(intro w hSw; (try dsimp only at hSw); go_simp; first | done | with_reducible rfl)
       simp only [Act.put]
       refine wpAnyH_take (i := 15) (v := ?_) rfl (by kernel_rfl) (by kernel_rfl) (by kernel_rfl) (fun _ _ _ h => h) (Or.inl ⟨by rfl, ?_⟩) hHeld ?_
       rotate_left
       ·(intro w hSw; (try dsimp only at hSw); go_simp; first | done | with_reducible rfl)
       simp only [Act.put]
       refine wpAnyH_take (i := 16) (v := ?_) rfl (by kernel_rfl) (by kernel_rfl) (by kernel_rfl) (fun _ _ _ h => h) (Or.inl ⟨by rfl, ?_⟩) hHeld ?_
       rotate_left
       ·(intro w hSw; (try dsimp only at hSw); go_simp; first | done | with_reducible rfl)
       simp only [Act.put]
       refine wpAnyH_take (i := 17) (v := ?_) rfl (by kernel_rfl) (by kernel_rfl) (by kernel_rfl) (fun _ _ _ h => h) (Or.inl ⟨by rfl, ?_⟩) hHeld ?_
       rotate_left
       ·(intro w hSw; (try dsimp only at hSw); go_simp; first | done | with_reducible rfl)
       simp only [Act.put]
       refine wpAnyH_take (i := 18) (v := ?_) rfl (by kernel_rfl) (by kernel_rfl) (by kernel_rfl) (fun _ _ _ h => h) (Or.inl ⟨by rfl, ?_⟩) hHeld ?_
       rotate_left
       ·(intro w hSw; (try dsimp only at hSw); go_simp; first | done | with_reducible rfl)
       simp only [Act.put]
       refine wpAnyH_take (i := 19) (v := ?_) rfl (by kernel_rfl) (by kernel_rfl) (by kernel_rfl) (fun _ _ _ h => h) (Or.inl ⟨by rfl, ?_⟩) hHeld ?_
       rotate_left
       ·(intro w hSw; (try dsimp only at hSw); go_simp; first | done | with_reducible rfl)
       simp only [Act.put]
       refine wpAnyH_take (i := 20) (v := ?_) rfl (by kernel_rfl) (by kernel_rfl) (by kernel_rfl) (fun _ _ _ h => h) (Or.inl ⟨by rfl, ?_⟩) hHeld ?_
       rotate_left
       ·(intro w hSw; (try dsimp only at hSw); go_simp; first | done | with_reducible rfl)
       simp only [Act.put]
       refine wpAnyH_take (i := 21) (v := ?_) rfl (by kernel_rfl) (by kernel_rfl) (by kernel_rfl) (fun _ _ _ h => h) (Or.inl ⟨by rfl, ?_⟩) hHeld ?_
       rotate_left
       ·(intro w hSw; (try dsimp only at hSw); go_simp; first | done | with_reducible rfl)
       simp only [Act.put]
       refine wpAnyH_take (i := 22) (v := ?_) rfl (by kernel_rfl) (by kernel_rfl) (by kernel_rfl) (fun _ _ _ h => h) (Or.inl ⟨by rfl, ?_⟩) hHeld ?_
       rotate_left
       ·(intro w hSw; (try dsimp only at hSw); go_simp; first | done | with_reducible rfl)
       simp only [Act.put]
       refine wpAnyH_take (i := 23) (v := ?_) rfl (by kernel_rfl) (by kernel_rfl) (by kernel_rfl) (fun _ _ _ h => h) (Or.inl ⟨by rfl, ?_⟩) hHeld ?_
       rotate_left
       ·(intro w hSw; (try dsimp only at hSw); go_simp; first | done | with_reducible rfl)
       simp only [Act.put]
       refine wpAnyH_take (i := 24) (v := ?_) rfl (by kernel_rfl) (by kernel_rfl) (by kernel_rfl) (fun _ _ _ h => h) (Or.inl ⟨by rfl, ?_⟩) hHeld ?_
       rotate_left
       ·(intro w hSw; (try dsimp only at hSw); go_simp; first | done | with_reducible rfl)
       simp only [Act.put]
       refine wpAnyH_take (i := 25) (v := ?_) rfl (by kernel_rfl) (by kernel_rfl) (by kernel_rfl) (fun _ _ _ h => h) (Or.inl ⟨by rfl, ?_⟩) hHeld ?_
       rotate_left
       ·(intro w hSw; (try dsimp only at hSw); go_simp; first | done | with_reducible rfl)
       simp only [Act.put]
       refine wpAnyH_take (i := 26) (v := ?_) rfl (by kernel_rfl) (by kernel_rfl) (by kernel_rfl) (fun _ _ _ h => h) (Or.inl ⟨by rfl, ?_⟩) hHeld ?_
       rotate_left
       ·(intro w hSw; (try dsimp only at hSw); go_simp; first | done | with_reducible rfl)
       simp only [Act.put]
       refine wpAnyH_take (i := 27) (v := ?_) rfl (by kernel_rfl) (by kernel_rfl) (by kernel_rfl) (fun _ _ _ h => h) (Or.inl ⟨by rfl, ?_⟩) hHeld ?_
       rotate_left
       ·(intro w hSw; (try dsimp only at hSw); go_simp; first | done | with_reducible rfl)
       simp only [Act.put]
       refine wpAnyH_take (i := 28) (v := ?_) rfl (by kernel_rfl) (by kernel_rfl) (by kernel_rfl) (fun _ _ _ h => h) (Or.inl ⟨by rfl, ?_⟩) hHeld ?_
       rotate_left
       ·(intro w hSw; (try dsimp only at hSw); go_simp; first | done | with_reducible rfl)
       simp only [Act.put]
       refine wpAnyH_take (i := 29) (v := ?_) rfl (by kernel_rfl) (by kernel_rfl) (by kernel_rfl) (fun _ _ _ h => h) (Or.inl ⟨by rfl, ?_⟩) hHeld ?_
       rotate_left
       ·(intro w hSw; (try dsimp only at hSw); go_simp; first | done | with_reducible rfl)
       simp only [Act.put]
       refine wpAnyH_take (i := 30) (v := ?_) rfl (by kernel_rfl) (by kernel_rfl) (by kernel_rfl) (fun _ _ _ h => h) (Or.inl ⟨by rfl, ?_⟩) hHeld ?_
       rotate_left
       ·(intro w hSw; (try dsimp only at hSw); go_simp; first | done | with_reducible rfl)
       simp only [Act.put]
       refine wpAnyH_take (i := 31) (v := ?_) rfl (by kernel_rfl) (by kernel_rfl) (by kernel_rfl) (fun _ _ _ h => h) (Or.inl ⟨by rfl, ?_⟩) hHeld ?_
       rotate_left
       ·(intro w hSw; (try dsimp only at hSw); go_simp; first | done | with_reducible rfl)
       simp only [Act.put]
       refine wpAnyH_take (i := 32) (v := ?_) rfl (by kernel_rfl) (by kernel_rfl) (by kernel_rfl) (fun _ _ _ h => h) (Or.inl ⟨by rfl, ?_⟩) hHeld ?_
       rotate_left
       ·(intro w hSw; (try dsimp only at hSw); go_simp; first | done | with_reducible rfl)
       simp only [Act.put]
       refine wpAnyH_take (i := 34) (v := ?_) rfl (by kernel_rfl) (by kernel_rfl) (by kernel_rfl) (fun _ _ _ h => h) (Or.inl ⟨by rfl, ?_⟩) hHeld ?_
       rotate_left
       ·(intro w hSw; (try dsimp only at hSw); go_simp; first | done | with_reducible rfl)
       simp only [Act.put]
       refine wpAnyH_take (i := 35) (v := ?_) rfl (by kernel_rfl) (by kernel_rfl) (by kernel_rfl) (fun _ _ _ h => h) (Or.inl ⟨by rfl, ?_⟩) hHeld ?_
       rotate_left
       ·(intro w hSw; (try dsimp only at hSw); go_simp; first | done | with_reducible rfl)
       simp only [Act.put]
       refine wpAnyH_take (i := 36) (v := ?_) rfl (by kernel_rfl) (by kernel_rfl) (by kernel_rfl) (fun _ _ _ h => h) (Or.inl ⟨by rfl, ?_⟩) hHeld ?_
       rotate_left
       ·(intro w hSw; (try dsimp only at hSw); go_simp; first | done | with_reducible rfl)
       simp only [Act.put]
       refine wpAnyH_take (i := 37) (v := ?_) rfl (by kernel_rfl) (by kernel_rfl) (by kernel_rfl) (fun _ _ _ h => h) (Or.inl ⟨by rfl, ?_⟩) hHeld ?_
       rotate_left
       ·(intro w hSw; (try dsimp only at hSw); go_simp; first | done | with_reducible rfl)
       simp only [Act.put]
       refine wpAnyH_take (i := 38) (v := ?_) rfl (by kernel_rfl) (by kernel_rfl) (by kernel_rfl) (fun _ _ _ h => h) (Or.inl ⟨by rfl, ?_⟩) hHeld ?_
       rotate_left
       ·(intro w hSw; (try dsimp only at hSw); go_simp; first | done | with_reducible rfl)
       simp only [Act.put]
       refine wpAnyH_ready (rs := [33]) (by kernel_rfl) (by simp) (AllReadyH.cons rfl (fun K hK => ?_) AllReadyH.nil)
       go_simp
       refine hK.out _ _ (hal _) (fun _ => ?_)
       clear hK K
       obtain ⟨y, hy⟩ := eight (a := IntKind.i64.wrap ((bits BinOp.and IntKind.i64 (x / 256) 3).tdiv 3)) (b := bits BinOp.and IntKind.i64 (x / 256) 63) (c := bits BinOp.and IntKind.i64 (x / 256) 255) (d := bits BinOp.and IntKind.i64 (x / 256) 4095) (e := bits BinOp.and IntKind.i64 (x / 256) 16777215) hj8
       refine wpAnyH_lex (k := 39) (TimC wr (ad.add i) x wr.heap.size j y) ⟨hal _, ?_, ?_⟩ (fun _ h => h.1) (by kernel_rfl) rfl rfl (by kernel_rfl) ?_
       ·exact ((Blk.new wr _ _).cell j).trans hy
       ·exact ((Mod.refl _ _).alloc _).drew
       clear hy
       have hj0 : (0 : Int) ≤ (j : Int) := by omega
       have hj8' : (j : Int) < 8 := by omega
       quiet_step (exact fun _ => rfl)
       refine wpQuiet_step (fun K hK => ?_)
       go_simp
       refine ⟨.int .i64 y, fun w2 h2 => ?_, hK _ ?_⟩
       ·rw [h2.2.1]
        exact ⟨rfl, rfl⟩
       clear hK K
       iterate 2 quiet_step (exact fun _ => rfl)
       refine wpQuiet_nil ?_
       intro w2 h2
       have Hm2 := Lib.hid h2.2.2
       clear h2
       go_wp2_with fail
       go_meet
       case rel => exact ⟨IntKind.i64.wrap (IntKind.i64.wrap (z + 1) + y), by rw [IntWalk.i64_left]; exact wrap_fits _, rfl, Hm2.out⟩
     case rest =>
      obtain ⟨y, hyf, rfl, hm2⟩ := hcut
      have Hm2 := Lib.hid (Hm.out.trans hm2 (fun _ _ h => h))
      have Hown2 : Hid (Own w.heap.size wc 2 u5 (cellsI ts)) := Lib.hid (hm2.owns Hown.out (fun _ _ h => h))
      have Hyf := Lib.hid hyf
      have hsz := Hm2.out.size
      have hr1 : (cellsI ts).length + 1 ≤ maxLen := by rw [cellsI_length, Hl.out]; unfold maxLen; omega
      have hr2 : ((cellsI ts).length + 1) * 8 ≤ 140737488355328 := by rw [cellsI_length, Hl.out]; omega
      clear hm2 hcx hlt hyf hw7
      go_wp2_with (at_builtin; refine wpList_app1 rfl (.tmp 73) (.tmp 75) _ rfl elt64 rfl Hown2.out rfl rfl rfl hr1 hr2 hsz ?_; intro v' w2 HO HB)
      have HT2 : Hid (TimesTo w w2 v' y (i + 1)) := Lib.hid ⟨ts ++ [y], by rw [cellsI_snoc]; exact HO.out, by simp [Hl.out], fun u hu => (by
       rw [List.mem_append, List.mem_singleton] at hu
       rcases hu with hu | rfl
       ·exact Hf.out u hu
       ·exact Hyf.out), of_fits Hyf.out, Hm2.out.trans (Mod.of_below HB.out) (fun i hi h => by omega)⟩
      go_roundg (gk - 1)
      case measure => have := Hil.out; omega
      case rel => exact ⟨i + 1, y, by have := Hil.out; omega, by go_num, rfl, HT2.out⟩
    ·go_wp2_with fail
     go_ret
     obtain ⟨ts, hown, hl, hf, hzf, hm⟩ := HT.out
     exact ⟨_, ts, rfl, hown, by have := Hil.out; omega, hf, hm⟩
   ·go_wp2_with fail
    go_ret
    obtain ⟨ts, hown, hl, hf, hzf, hm⟩ := HT.out
    exact ⟨_, ts, rfl, hown, by have := Hil.out; omega, hf, hm⟩
end Go.Proofs.YtjmjlflmcpkmnaaGreatDoor

/- The statements' own rows of samples: Row. -/
namespace Go.Proofs.YtjmjlflmcpkmnaaGreatDoor
open Go.RowKit

/-- A row that rises, as far as i. -/
def RowSo (w wr : World) (v : Value) (l : List (Int × Nat)) (i : Nat) : Prop := OwnS w.heap.size wr v l ∧ GoodS l ∧ RiseTo l l.length ∧ l.length ≤ i ∧ Mod (fun _ => False) w wr
theorem RiseTo.snoc {l : List (Int × Nat)} {T : Int} {V : Nat} (h : RiseTo l l.length) (hl : l.length = 0 ∨ ∃ k q, l.length = k + 1 ∧ l[k]? = some q ∧ q.1 < T) : RiseTo (l ++ [(T, V)]) (l ++ [(T, V)]).length := by
 intro j a b hj ha hb
 have e : tsOf (l ++ [(T, V)]) = tsOf l ++ [T] := by simp [tsOf]
 rw [e] at ha hb
 rw [List.length_append, List.length_singleton] at hj
 rcases Nat.lt_or_ge (j + 1) l.length with h1 | h1
 ·rw [List.getElem?_append_left (by rw [tsOf_len]; omega)] at ha hb
  exact h j a b h1 ha hb
 ·obtain ⟨k, q, hk, hq, hlt⟩ : ∃ k q, l.length = k + 1 ∧ l[k]? = some q ∧ q.1 < T := by
   rcases hl with h0 | h0
   ·omega
   ·exact h0
  obtain rfl : j = k := by omega
  rw [List.getElem?_append_left (by rw [tsOf_len]; omega), ts_get hq] at ha
  rw [List.getElem?_append_right (by rw [tsOf_len]; omega), tsOf_len, hk, Nat.sub_self] at hb
  injection ha with ha
  injection hb with hb
  rw [← ha, ← hb]
  exact hlt
theorem RowSo.snoc {w wr w2 : World} {v v2 : Value} {l : List (Int × Nat)} {i : Nat} {T : Int} {V : Nat} (h : RowSo w wr v l i) (ho : OwnS w.heap.size w2 v2 (l ++ [(T, V)])) (hT : Fits T) (hV : V < 2 ^ 64) (hm : Mod (fun _ => False) w w2)
  (hl : l.length = 0 ∨ ∃ k q, l.length = k + 1 ∧ l[k]? = some q ∧ q.1 < T) : RowSo w w2 v2 (l ++ [(T, V)]) (i + 1) := by
 obtain ⟨_, h2, h3, h4, h5⟩ := h
 refine ⟨ho, fun p hp => ?_, h3.snoc hl, by rw [List.length_append, List.length_singleton]; omega, hm⟩
 rcases List.mem_append.1 hp with hp | hp
 ·exact h2 p hp
 ·rw [List.mem_singleton.1 hp]
  exact ⟨hT, hV⟩
theorem RowSo.stay {w wr w2 : World} {v : Value} {l : List (Int × Nat)} {i : Nat} (h : RowSo w wr v l i) (hm : Mod (fun _ => False) wr w2) : RowSo w w2 v l (i + 1) := by
 obtain ⟨h1, h2, h3, h4, h5⟩ := h
 exact ⟨h1.mod hm, h2, h3, by omega, h5.trans hm (fun _ _ h => h)⟩
set_option maxHeartbeats 2000000 in
set_option maxRecDepth 100000 in
theorem row_any (A A2 : Option Addr) (n c n2 c2 : Nat) (zs : List Int) (us : List Nat) (how : Int) (w : World) (hs : SeesI .i64 w w.heap.size A n zs) (hz : ∀ x ∈ zs, FitI x) (hs2 : Rds w w.heap.size A2 n2 (cellsU us)) (hu : ∀ x ∈ us, x < 2 ^ 64) :
  Calls Tryz.prog 5 #[.slice A n c, .slice A2 n2 c2, .int .i64 how] w fun e w' => ∃ (v : Value) (l : List (Int × Nat)), e = .returned v ∧ OwnS w.heap.size w' v l ∧ GoodS l ∧ riseB l = true ∧ l.length ≤ 60 ∧ Mod (fun _ => False) w w' := by
 have Hs := Lib.hid hs; have Hz := Lib.hid hz; have Hs2 := Lib.hid hs2; have Hu := Lib.hid hu
 have hcs : Tryz.prog.cellsOf 43 = 2 := by kernel_rfl
 clear hs hz hs2 hu
 go_enter Tryz.func5, Tryz.ntmps5
 go_wp2_with fail
 refine (times_any A n c zs _ w Hs.out Hz.out).mono ?_
 rintro e w1 ⟨v1, ts, rfl, hown1, hl60, hf, hm1⟩
 obtain ⟨A8, c8, rfl, hr8⟩ := own_form hown1
 obtain ⟨n8, hn8⟩ : ∃ n8, ts.length = n8 := ⟨_, rfl⟩
 rw [hn8] at hr8 hl60
 rw [hn8]
 have Hr8 := Lib.hid hr8; have Hf := Lib.hid hf; have Hm1 := Lib.hid hm1; have Hs21 := Lib.hid (Hs2.out.new hm1).fit
 clear hown1 hf hm1 hr8 hn8 Hs Hz Hs2
 go_wp2_with fail
 refine (values_any A2 n2 c2 us how w1 Hs21.out Hu.out).mono ?_
 rintro e w2 ⟨v2, vs, rfl, hown2, hv60, hv64, hm2⟩
 obtain ⟨A9, n9, c9, rfl, HL9, hc9, hr9⟩ := own_formUN hown2
 have hn9 : n9 ≤ 60 := by have := HL9.out; omega
 have Hr8b := Lib.hid (Hr8.out.new hm2).fit; have Hr9 := Lib.hid hr9; have Hm2 := Lib.hid (Hm1.out.trans hm2 (fun _ _ h => h)); have Hv64 := Lib.hid hv64
 have H0 : Hid (RowSo w2 w2 (.slice none 0 0) [] 0) := Lib.hid ⟨OwnS.nil _ _, (fun p h => by cases h), (fun j a b h => by simp at h), Nat.le_refl _, Mod.refl _ _⟩
 clear hown2 hv64 hm2 hr9 Hr8 Hm1 Hs21 Hu hv60 hc9
 go_wp2_with fail
 go_loopg [7, 23] n8 (fun k s7 s23 wr => ∃ (i : Nat) (l : List (Int × Nat)), i + k = n8 ∧ s23 = .int .i64 (i : Int) ∧ RowSo w2 wr s7 l i)
 case atStart => exact ⟨0, [], by omega, rfl, H0.out⟩
 case round =>
  obtain ⟨i, l, hik, rfl, hR⟩ := hrel
  have Hik := Lib.hid hik; have HR := Lib.hid hR
  clear hik hR H0
  by_cases hin : i < n8
  ·have hm := HR.out.2.2.2.2
   obtain ⟨ad, T, rfl, hT, hcT⟩ := Hr8b.out.seesI.at_ hin (Nat.le_refl _) hm (fun _ _ h => h)
   have HT : Hid (Fits T) := Lib.hid (Hf.out T (List.mem_of_getElem? hT))
   obtain ⟨gs, hgs⟩ : ∃ gs, gs = wr.heap.size := ⟨_, rfl⟩
   have Hm := Lib.hid hm; have Hgs := Lib.hid hgs
   clear hm hT hgs
   go_upto_if 33 with fail
   go_cut [11] (fun s11 wc => ∃ V : Nat, s11 = .pointer (some ⟨gs, 0, none⟩) ∧ V < 2 ^ 64 ∧ Blk wc gs 43 #[.int .i64 T, .int .u64 (V : Int)] ∧ Mod (fun _ => False) wr wc)
   case first =>
    by_cases hv : 0 < n9
    ·obtain ⟨j, hj⟩ : ∃ j, j = i % n9 := ⟨_, rfl⟩
     have hj9 : j < n9 := by rw [hj]; exact Nat.mod_lt _ hv
     have hmod : (i : Int) % (n9 : Int) = (j : Int) := by rw [hj]; rfl
     have htm : (i : Int).tmod (n9 : Int) = (j : Int) := by rw [Int.tmod_eq_emod_of_nonneg (by omega)]; exact hmod
     have hvi : (0 : Int) < (n9 : Int) := by omega
     have hv0 : ((n9 : Int) == 0) = false := by simp; omega
     obtain ⟨ad9, V, rfl, hV, hcV⟩ := Hr9.out.at2 hj9 (Nat.le_refl _) Hm.out (fun _ _ h => h)
     have HV := Lib.hid (Hv64.out V (List.mem_of_getElem? hV))
     have hlt := World.block_lt_of_cell? wr _ hcV
     have hcV2 : ∀ o, (wr.alloc o).cell? (ad9.add j) = some (.int .u64 (V : Int)) := fun o => (World.cell?_alloc_lt wr o _ hlt).trans hcV
     clear hj hV hlt
     go_wp2_with fail
     go_meet
     case rel => exact ⟨V, by rw [Hgs.out], HV.out, by rw [Hgs.out]; exact Blk.new _ _ _, (Mod.refl _ _).alloc _⟩
    ·go_wp2_with fail
     go_meet
     case rel => exact ⟨0, by rw [Hgs.out], by decide, by rw [Hgs.out]; exact Blk.new _ _ _, (Mod.refl _ _).alloc _⟩
   case rest =>
    obtain ⟨V, rfl, hV, hblk, hmc⟩ := hcut
    have hc0 := hblk.cell 0
    have hc1 := hblk.cell 1
    simp at hc0 hc1
    have hd0 : ∀ N, (wc.drewN N).cell? ⟨gs, 0, none⟩ = some (.int .i64 T) := fun N => hc0
    have hd1 : ∀ N, (wc.drewN N).cell? ⟨gs, 1, none⟩ = some (.int .u64 (V : Int)) := fun N => hc1
    obtain ⟨A7, L7, c7, hu7, HL7, hc7, hcm7, hr7⟩ := (HR.out.1.mod hmc).formN
    subst hu7
    have HV := Lib.hid hV; have Hmc := Lib.hid hmc; have Hr7 := Lib.hid hr7; have Hblk := Lib.hid hblk
    have Ho7 := Lib.hid (HR.out.1.mod hmc)
    have hLb : L7 ≤ 60 := by have := HL7.out; have := HR.out.2.2.2.1; omega
    clear hV hmc hr7 hblk
    by_cases h0 : L7 = 0
    ·subst h0
     go_upto_region 10 with fail
     go_quiet (fail)
     have HO := Lib.hid (show OwnS w2.heap.size (wc.drewN nq) (.slice A7 0 c7) l from Ho7.out)
     have HR1 : Hid (l.length + 1 ≤ maxLen ∧ (l.length + 1) * 16 ≤ 140737488355328) := Lib.hid ⟨by rw [HL7.out]; unfold maxLen; omega, by rw [HL7.out]; omega⟩
     have hsz : w2.heap.size ≤ (wc.drewN nq).heap.size := Nat.le_trans Hm.out.size Hmc.out.size
     go_wp2_with (at_builtin; refine wpList_appS (p := (T, V)) rfl (.tmp 57) (.tmp 59) rfl rfl HO.out rfl rfl HR1.out.1 HR1.out.2 hsz ?_; intro v3 w3 HO3 HB3)
     have HR3 : Hid (RowSo w2 w3 v3 (l ++ [(T, V)]) (i + 1)) := Lib.hid (HR.out.snoc HO3.out HT.out HV.out ((Hm.out.trans (Hmc.out.drewN nq) (fun _ _ h => h)).trans (Mod.of_below HB3.out) (fun i hi h => by omega)) (.inl HL7.out))
     go_roundg (gk - 1)
     case measure => have := Hik.out; omega
     case rel => exact ⟨i + 1, l ++ [(T, V)], by have := Hik.out; omega, by go_num, HR3.out⟩
    ·obtain ⟨k, hk⟩ : ∃ k, L7 = k + 1 := ⟨L7 - 1, by omega⟩
     have hkL : k < L7 := by omega
     obtain ⟨a7, ⟨S, U⟩, rfl, hab, hq, he0, _⟩ := Hr7.out.at_ hkL
     have he0' : ∀ N, (wc.drewN N).cell? (a7.add (k * 2)) = some (.int .i64 S) := fun N => he0
     have hL0 : ((L7 : Int) == 0) = false := by simp; omega
     have hwk : IntKind.i64.wrap ((L7 : Int) - 1) = (k : Int) := by rw [IntWalk.i64_in _ (by omega)]; omega
     have hkLi : (k : Int) < (L7 : Int) := by omega
     have Hq := Lib.hid hq; have Hk := Lib.hid hk
     clear hq hk h0
     by_cases hST : S < T
     ·go_upto_region 10 with fail
      go_quiet (fail)
      have HO := Lib.hid (show OwnS w2.heap.size (wc.drewN nq) (.slice (some a7) L7 c7) l from Ho7.out)
      have HR1 : Hid (l.length + 1 ≤ maxLen ∧ (l.length + 1) * 16 ≤ 140737488355328) := Lib.hid ⟨by rw [HL7.out]; unfold maxLen; omega, by rw [HL7.out]; omega⟩
      have hsz : w2.heap.size ≤ (wc.drewN nq).heap.size := Nat.le_trans Hm.out.size Hmc.out.size
      go_wp2_with (at_builtin; refine wpList_appS (p := (T, V)) rfl (.tmp 57) (.tmp 59) rfl rfl HO.out rfl rfl HR1.out.1 HR1.out.2 hsz ?_; intro v3 w3 HO3 HB3)
      have HR3 : Hid (RowSo w2 w3 v3 (l ++ [(T, V)]) (i + 1)) := Lib.hid (HR.out.snoc HO3.out HT.out HV.out ((Hm.out.trans (Hmc.out.drewN nq) (fun _ _ h => h)).trans (Mod.of_below HB3.out) (fun i hi h => by omega)) (.inr ⟨k, (S, U), by rw [HL7.out]; exact Hk.out, Hq.out, hST⟩))
      go_roundg (gk - 1)
      case measure => have := Hik.out; omega
      case rel => exact ⟨i + 1, l ++ [(T, V)], by have := Hik.out; omega, by go_num, HR3.out⟩
     ·have HR3 : Hid (∀ N, RowSo w2 (wc.drewN N) (.slice (some a7) L7 c7) l (i + 1)) := Lib.hid (fun N => HR.out.stay (Hmc.out.drewN N))
      go_upto_region 10 with fail
      go_quiet (fail)
      go_wp2_with fail
      go_roundg (gk - 1)
      case measure => have := Hik.out; omega
      case rel => exact ⟨i + 1, l, by have := Hik.out; omega, by go_num, HR3.out _⟩
  ·go_wp2_with fail
   go_ret
   have hl : l.length ≤ 60 := by have := HR.out.2.2.2.1; have := Hik.out; omega
   exact ⟨_, l, rfl, HR.out.1.mono Hm2.out.size, HR.out.2.1, riseB_true HR.out.2.2.1 (by omega), hl, Hm2.out.trans HR.out.2.2.2.2 (fun _ _ h => h)⟩
end Go.Proofs.YtjmjlflmcpkmnaaGreatDoor

/- ChnkTells' walk. -/
namespace Go.Proofs.YtjmjlflmcpkmnaaGreatDoor
open Go.RowKit

/-- Three numbers in a literal. -/
def Nums3 (w : World) (lit : Nat) : Prop := lit < w.heap.size ∧ ∀ j, j < 3 → ∃ m : Int, w.cell? ⟨lit, j, none⟩ = some (.int .i64 m)
theorem Nums3.mod {w w' : World} {lit : Nat} (h : Nums3 w lit) (hm : Mod (fun _ => False) w w') : Nums3 w' lit := by
 refine ⟨Nat.lt_of_lt_of_le h.1 hm.size, fun j hj => ?_⟩
 obtain ⟨m, h2⟩ := h.2 j hj
 exact ⟨m, (hm.cell (a := ⟨lit, j, none⟩) h.1 (fun h => h)).trans h2⟩
theorem nums3_new (w : World) (e : TypeId) (m0 m1 m2 : Int) : Nums3 (w.alloc (.cells #[.int .i64 m0, .int .i64 m1, .int .i64 m2] e)) w.heap.size := by
 have hb := Blk.new w e #[.int .i64 m0, .int .i64 m1, .int .i64 m2]
 refine ⟨hb.lt, fun j hj => ?_⟩
 have hj' : j = 0 ∨ j = 1 ∨ j = 2 := by omega
 rcases hj' with rfl | rfl | rfl
 ·exact ⟨m0, hb.cell 0⟩
 ·exact ⟨m1, hb.cell 1⟩
 ·exact ⟨m2, hb.cell 2⟩
/-- Two rows of samples in a literal. -/
def Rows2s (w : World) (lit : Nat) : Prop := lit < w.heap.size ∧ ∀ j, j < 2 → ∃ (A : Option Addr) (n c : Nat) (l : List (Int × Nat)), w.cell? ⟨lit, j, none⟩ = some (.slice A n c) ∧ RdsS w w.heap.size A n l ∧ GoodS l ∧ n ≤ 60
theorem Rows2s.mod {w w' : World} {lit : Nat} (h : Rows2s w lit) (hm : Mod (fun _ => False) w w') : Rows2s w' lit := by
 refine ⟨Nat.lt_of_lt_of_le h.1 hm.size, fun j hj => ?_⟩
 obtain ⟨A, n, c, l, h1, h2, h3⟩ := h.2 j hj
 exact ⟨A, n, c, l, (hm.cell (a := ⟨lit, j, none⟩) h.1 (fun h => h)).trans h1, (h2.new hm).fit, h3⟩
theorem rows2s_new {w : World} {e : TypeId} {A0 A1 : Option Addr} {n0 c0 n1 c1 : Nat} {l0 l1 : List (Int × Nat)} (h0 : RdsS w w.heap.size A0 n0 l0) (g0 : GoodS l0) (k0 : n0 ≤ 60) (h1 : RdsS w w.heap.size A1 n1 l1) (g1 : GoodS l1) (k1 : n1 ≤ 60) :
  Rows2s (w.alloc (.cells #[.slice A0 n0 c0, .slice A1 n1 c1] e)) w.heap.size := by
 have hb := Blk.new w e #[.slice A0 n0 c0, .slice A1 n1 c1]
 refine ⟨hb.lt, fun j hj => ?_⟩
 have hj' : j = 0 ∨ j = 1 := by omega
 rcases hj' with rfl | rfl
 ·exact ⟨A0, n0, c0, l0, hb.cell 0, (h0.alloc (Nat.le_refl _) _).fit, g0, k0⟩
 ·exact ⟨A1, n1, c1, l1, hb.cell 1, (h1.alloc (Nat.le_refl _) _).fit, g1, k1⟩
theorem makeC_len60 {k : Int} {l : List (Int × Nat)} {n : Nat} (hg : GoodS l) (hl : l.length = n) (hn : n ≤ 60) : ((makeC k l).getD []).length ≤ 4600 ∧ lt256 ((makeC k l).getD []) := by
 cases ho : makeC k l with
 | none => exact ⟨Nat.zero_le _, lt256_nil⟩
 | some b =>
  have h1 := makeC_len hg ho
  exact ⟨by show b.length ≤ 4600; omega, makeC_256 ho⟩
theorem openC_len {c : List Nat} (hlt : lt256 c) : (((openC c).map (·.1)).getD []).length ≤ 1000000 := by
 cases ho : openC c with
 | none => exact Nat.zero_le _
 | some p =>
  obtain ⟨l, t⟩ := p
  obtain ⟨_, b, hb, _⟩ := makeC_some (openC_some hlt ho).2
  have := (rise_ends (encK_some hb).1).2
  show l.length ≤ 1000000
  omega
set_option maxHeartbeats 1200000 in
set_option maxRecDepth 100000 in
theorem ctells_long (A0 A1 A2 A5 : Option Addr) (n0 c0 n1 c1 n2 c2 n5 c5 : Nat) (how tag at' by_ : Int) (w : World) (ht : Tabs w) (h : 60 < n0 ∨ 200 < n5) :
  Calls Tryz.prog 3 #[.slice A0 n0 c0, .slice A1 n1 c1, .slice A2 n2 c2, .int .i64 how, .int .i64 tag, .slice A5 n5 c5, .int .i64 at', .int .u8 by_] w fun e w' => e = .returned (.bool true) ∧ Mod (fun _ => False) w w' := by
 have Ht := Lib.hid ht
 clear ht
 by_cases h0 : 60 < n0
 ·have h1 : (60 : Int) < (n0 : Int) := by omega
  clear h
  go_enter Tryz.func3, Tryz.ntmps3
  go_wp2_with fail
  refine (jawake_any _ Ht.out).mono ?_
  rintro e w1 ⟨rfl, hm⟩
  have Hm := Lib.hid hm
  clear hm
  go_wp2_with fail
  go_ret
  exact ⟨rfl, Hm.out⟩
 ·have h1 : ¬ (60 : Int) < (n0 : Int) := by omega
  have h2 : (200 : Int) < (n5 : Int) := by omega
  clear h
  go_enter Tryz.func3, Tryz.ntmps3
  go_wp2_with fail
  refine (jawake_any _ Ht.out).mono ?_
  rintro e w1 ⟨rfl, hm⟩
  have Hm := Lib.hid hm
  clear hm
  go_wp2_with fail
  go_ret
  exact ⟨rfl, Hm.out⟩
set_option maxHeartbeats 1200000 in
set_option maxRecDepth 100000 in
theorem ctells_walk (A0 A1 A2 A5 : Option Addr) (n0 c0 n1 c1 n2 c2 n5 c5 : Nat) (raw : List (Int × Nat)) (zs : List Int) (us : List Nat) (rs : List Nat) (how tag at' : Int) (by_ : Nat) (w : World)
  (hraw : RdsS w w.heap.size A0 n0 raw) (hgr : GoodS raw) (hs : SeesI .i64 w w.heap.size A1 n1 zs) (hz : ∀ x ∈ zs, FitI x) (hs2 : Rds w w.heap.size A2 n2 (cellsU us)) (hu : ∀ x ∈ us, x < 2 ^ 64)
  (hr : Rds w w.heap.size A5 n5 (cells8 rs)) (hrl : lt256 rs) (hrc : n5 ≤ c5 ∧ c5 ≤ maxLen) (hby : by_ < 256) (h60 : n0 ≤ 60) (h200 : n5 ≤ 200) (ht : Tabs w) :
  Calls Tryz.prog 3 #[.slice A0 n0 c0, .slice A1 n1 c1, .slice A2 n2 c2, .int .i64 how, .int .i64 tag, .slice A5 n5 c5, .int .i64 at', .int .u8 (by_ : Int)] w fun e w' => e = .returned (.bool true) ∧ Mod (fun _ => False) w w' := by
 have Hraw := Lib.hid hraw; have Hgr := Lib.hid hgr; have Hs := Lib.hid hs; have Hz := Lib.hid hz; have Hs2 := Lib.hid hs2; have Hu := Lib.hid hu; have Hr := Lib.hid hr; have Hrl := Lib.hid hrl; have Hrc := Lib.hid hrc; have Hby := Lib.hid hby; have Ht := Lib.hid ht
 have hb60 : ¬ (60 : Int) < (n0 : Int) := by omega
 have hb100 : ¬ (200 : Int) < (n5 : Int) := by omega
 have hd60 : decide ((60 : Int) < (n0 : Int)) = false := by simp; omega
 have hd100 : decide ((200 : Int) < (n5 : Int)) = false := by simp; omega
 obtain ⟨y7, hy7, hy8⟩ : ∃ y : Nat, bits .and .i64 tag 7 = (y : Int) ∧ y < 2 ^ 3 := and_nat tag 7 3 rfl (by omega)
 obtain ⟨z7, hz7, hz8⟩ : ∃ y : Nat, bits .and .i64 (how / 16) 7 = (y : Int) ∧ y < 2 ^ 3 := and_nat (how / 16) 7 3 rfl (by omega)
 obtain ⟨z6, hz6⟩ : ∃ z, z = 1 + z7 % 6 := ⟨_, rfl⟩
 have hz6i : 1 + (z7 : Int) % 6 = (z6 : Int) := by omega
 clear hraw hgr hs hz hs2 hu hr hrl hrc hby ht hz6
 go_enter Tryz.func3, Tryz.ntmps3
 go_wp2_with fail
 refine (row_any A1 A2 n1 c1 n2 c2 zs us how w Hs.out Hz.out Hs2.out Hu.out).mono ?_
 rintro e w1 ⟨v, l, rfl, ho1, hg, hri, hl60, hm1⟩
 obtain ⟨Al, L, cl, rfl, HL, _, _, hr1⟩ := ho1.formN
 have hL60 : L ≤ 60 := by have := HL.out; omega
 have Hr1 := Lib.hid hr1; have Hg := Lib.hid hg; have Hm1 := Lib.hid hm1; have T1 := Lib.hid (Ht.out.mod hm1); have Hraw1 := Lib.hid (Hraw.out.new hm1).fit
 clear ho1 hg hri hl60 hm1 hr1 Hs Hz Hs2 Hu hb60 hb100
 obtain ⟨wL, hwL⟩ : ∃ wL, wL = w1.alloc (.cells #[.int .i64 tag, .int .i64 (y7 : Int), .int .i64 (z6 : Int)] 3) := ⟨_, rfl⟩
 have hmL : Mod (fun _ => False) w1 wL := by rw [hwL]; exact (Mod.refl _ _).alloc _
 have HN3 : Hid (Nums3 wL w1.heap.size) := Lib.hid (by rw [hwL]; exact nums3_new _ _ _ _ _)
 have HwL := Lib.hid hwL
 have HrL := Lib.hid (Hr1.out.new hmL).fit; have HrawL := Lib.hid (Hraw1.out.new hmL).fit; have HmL := Lib.hid (Hm1.out.trans hmL (fun _ _ h => h)); have TL := Lib.hid (T1.out.mod hmL)
 clear hwL hmL Hr1 Hraw1 Hm1 T1 Hraw Ht
 go_wp2_with fail
 rw [← HwL.out]
 clear HwL hy7 hz7 hz6i hy8 hz8
 generalize w1.heap.size = lit0 at *
 go_loopg [64] 3 (fun k s64 wr => ∃ i : Nat, i + k = 3 ∧ s64 = .int .i64 (i : Int) ∧ Mod (fun _ => False) wL wr)
 case atStart => exact ⟨0, rfl, rfl, Mod.refl _ _⟩
 case round =>
  obtain ⟨i, hik, rfl, hm⟩ := hrel
  have Hik := Lib.hid hik; have Hm := Lib.hid hm
  clear hik hm
  by_cases hi3 : i < 3
  ·have hi0 : (0 : Int) ≤ (i : Int) := by omega
   obtain ⟨kk, hcell⟩ := (HN3.out.mod Hm.out).2 i hi3
   have Hmr := Lib.hid (HmL.out.trans Hm.out (fun _ _ h => h))
   have Hr1 := Lib.hid (HrL.out.new Hm.out).fit; have Hraw1 := Lib.hid (HrawL.out.new Hm.out).fit
   obtain ⟨wM, hwM⟩ : ∃ wM, wM = wr.alloc (.cells #[.slice A0 n0 c0, .slice Al L cl] 22) := ⟨_, rfl⟩
   have hmM : Mod (fun _ => False) wr wM := by rw [hwM]; exact (Mod.refl _ _).alloc _
   have HR2 : Hid (Rows2s wM wr.heap.size) := Lib.hid (by rw [hwM]; exact rows2s_new Hraw1.out Hgr.out h60 Hr1.out Hg.out hL60)
   have HwM := Lib.hid hwM; have HmM := Lib.hid (Hm.out.trans hmM (fun _ _ h => h)); have TM := Lib.hid (TL.out.mod (Hm.out.trans hmM (fun _ _ h => h)))
   have HbM := Lib.hid ((Hr.out.new (Hmr.out.trans hmM (fun _ _ h => h))).fit)
   have hi3b : decide ((i : Int) < 3) = true := by simp; omega
   clear hwM hmM Hr1 Hraw1 Hmr
   obtain ⟨go0, rfl⟩ : ∃ go0 : Nat, go0 = gk := ⟨_, rfl⟩
   go_wp2_with fail
   rw [← HwM.out]
   clear HwM hcell
   generalize wr.heap.size = lit1 at *
   go_loopg [72] 2 (fun k s72 wr => ∃ i : Nat, i + k = 2 ∧ s72 = .int .i64 (i : Int) ∧ Mod (fun _ => False) wM wr)
   case atStart => exact ⟨0, rfl, rfl, Mod.refl _ _⟩
   case round =>
    obtain ⟨i2, hik2, rfl, hm⟩ := hrel
    have Hik2 := Lib.hid hik2; have Hm2 := Lib.hid hm
    clear hik2 hm
    by_cases hi2 : i2 < 2
    ·have hi20 : (0 : Int) ≤ (i2 : Int) := by omega
     obtain ⟨A, nc, cc, x, hcell, hsx, hgx, hnx⟩ := (HR2.out.mod Hm2.out).2 i2 hi2
     have hi2b : decide ((i2 : Int) < 2) = true := by simp; omega
     have Hsx := Lib.hid hsx; have Hgx := Lib.hid hgx; have Tx := Lib.hid (TM.out.mod Hm2.out)
     obtain ⟨tw, htw⟩ : ∃ tw, (makeC kk x).getD [] = tw := ⟨_, rfl⟩
     obtain ⟨bk, hbk⟩ : ∃ bk, (makeC kk x).isSome = bk := ⟨_, rfl⟩
     obtain ⟨hlen, h256⟩ := makeC_len60 (k := kk) hgx hsx.1 hnx
     rw [htw] at hlen h256
     obtain ⟨s, hss⟩ : ∃ s, strOf tw = s := ⟨_, rfl⟩
     obtain ⟨q, hq⟩ : ∃ q, tw.length = q := ⟨_, rfl⟩
     have hq12 : q ≤ 4600 := by omega
     have Htw := Lib.hid htw; have Hbk := Lib.hid hbk; have H256 := Lib.hid h256; have Hss := Lib.hid hss; have Hq := Lib.hid hq
     clear hsx hgx htw hbk h256 hss hq hlen
     obtain ⟨go1, rfl⟩ : ∃ go1 : Nat, go1 = gk := ⟨_, rfl⟩
     go_wp2_with fail
     refine (jmake_any kk A nc cc x wr Hsx.out Hgx.out Tx.out).mono ?_
     intro e w4 hE
     have hE' : EncB wr w4 (makeC kk x) e := hE
     obtain ⟨A8, c8, rfl, _, _, hr8, hm4⟩ := hE'.any
     rw [Htw.out, Hq.out] at hr8 ⊢
     rw [Hbk.out]
     have Hr8 := Lib.hid hr8; have Hm4 := Lib.hid (Hm2.out.trans hm4 (fun _ _ h => h)); have Hs4 := Lib.hid (Hsx.out.new hm4).fit; have T4 := Lib.hid (Tx.out.mod hm4)
     clear hE hE' hm4 hr8 Hsx Tx Hm2 hcell
     go_wp2_with fail
     refine (rmake_any kk A nc cc x w4 Hs4.out Hgx.out (by omega)).mono ?_
     intro e w5 hE
     have hE' : EncB w4 w5 (makeC kk x) e := hE
     obtain ⟨A6, c6, rfl, hc6, hcm6, hr6, hm5⟩ := hE'.any
     rw [Htw.out, Hq.out] at hc6 hr6 ⊢
     rw [Hbk.out]
     have hcv1 : (convert 25 9 (.slice A8 q c8)).run Tryz.prog w5 = .ok (.string s) w5 := by
      rw [← Hss.out]
      exact conv_rds Tryz.underlying25 Tryz.underlying5 Tryz.underlying9 w5 (Hr8.out.new hm5) H256.out
     have hcv2 : (convert 25 9 (.slice A6 q c6)).run Tryz.prog w5 = .ok (.string s) w5 := by
      rw [← Hss.out]
      exact conv_rds Tryz.underlying25 Tryz.underlying5 Tryz.underlying9 w5 hr6 H256.out
     have hbb0 : (bk != bk) = false := by simp
     have hstr : (s.toList != s.toList) = false := by simp
     have Hm7 := Lib.hid (Hm4.out.trans hm5 (fun _ _ h => h)); have Hr7 := Lib.hid hr6; have Hcm6 := Lib.hid hcm6
     have T7 := Lib.hid (T4.out.mod hm5)
     clear hE hE' hm5 hr6 hcm6 Hm4 Hr8 Hs4 T4 Hss Hbk Htw Hgx
     have hr1 : ([] : List Value).length + q ≤ maxLen := by unfold maxLen; simp; omega
     have hr2 : (([] : List Value).length + q) * 1 ≤ 140737488355328 := by simp; omega
     have h0m : (0 : Nat) ≤ maxLen := Nat.zero_le _
     obtain ⟨w7, rfl⟩ : ∃ w7 : World, w7 = w5 := ⟨_, rfl⟩
     go_upto_if 103 with (at_builtin; refine wpList_app rfl (.tmp 98) (.tmp 99) _ rfl elt8 rfl (Own.lit w7 5 #[] h0m) rfl (Hr7.out.alloc (Nat.le_refl _) _) (cells8_one tw) hr1 hr2 (le_alloc _ _) ?_; intro v' w10 HO HBl HG; clear HG; obtain ⟨Au, cu, rfl, hAu⟩ := u_formN8 (bs := tw) HO.out Hq.out; have HAu := Lib.hid hAu; clear hAu)
     have Hm10 : Hid (Mod (fun _ => False) w7 w10) := Lib.hid (((Mod.refl (fun _ => False) w7).alloc _).trans (Mod.of_below HBl.out) (fun i hi h => by omega))
     go_cut [27] (fun s16 wc => ∃ (k : Nat) (us : List Nat), s16 = .int .i64 (k : Int) ∧ k ≤ q ∧ us.length = q ∧ lt256 us ∧ Own w7.heap.size wc 5 (.slice Au q cu) (cells8 us) ∧ Mod (fun _ => False) w7 wc)
     case first =>
      clear hr1 hr2 h0m
      by_cases h0 : 0 < q
      ·obtain ⟨gu, rfl, hgB, hgl⟩ := HAu.out.2.2 h0
       obtain ⟨x, hx, hx4⟩ : ∃ x : Nat, bits .and .i64 at' 65535 = (x : Int) ∧ x < 65536 := and_nat at' 65535 16 rfl (by omega)
       obtain ⟨k, hk, hkl⟩ : ∃ k : Nat, (x : Int) % (q : Int) = (k : Int) ∧ k < q := ⟨x % q, by rw [Int.natCast_emod], Nat.mod_lt _ h0⟩
       have hown : Own w7.heap.size w10 5 (.slice (some ⟨gu, 0, none⟩) q cu) (cells8 tw) := HO.out
       obtain ⟨⟨u0, hu0⟩, hfz, hset⟩ := own_set (b := by_) hown Hq.out.symm hkl
       have hk0 : (0 : Int) ≤ (k : Int) := by omega
       have hk1 : (k : Int) < (q : Int) := by omega
       have hkk : k ≤ q := by omega
       have Hset := Lib.hid hset
       have Hgg : Hid (w7.heap.size ≤ gu) := Lib.hid hgB
       clear hset hown hgB hgl
       go_wp2_with fail
       go_meet
       case rel => exact ⟨k, tw.set k by_, rfl, hkk, by rw [List.length_set, Hq.out], (fun z hz => (List.mem_or_eq_of_mem_set hz).elim (fun h => H256.out z h) (fun h => h ▸ Hby.out)), Hset.out, Hm10.out.setCell (fun h => absurd h (by have := Hgg.out; simp; omega)) _⟩
      ·go_wp2_with fail
       go_meet
       case rel => exact ⟨0, tw, rfl, Nat.zero_le _, Hq.out, H256.out, HO.out, Hm10.out⟩
     case rest =>
      obtain ⟨k, us, rfl, hkq, hul, hu256, hown, hm11⟩ := hcut
      have Hmc := Lib.hid (Hm7.out.trans hm11 (fun _ _ h => h))
      have H0 := Lib.hid (HbM.out.new Hmc.out).fit; have H6 := Lib.hid (Hr7.out.new hm11).fit; have HU := Lib.hid (Own.rds8 hown hul).fit; have Hul := Lib.hid hul; have Hu256 := Lib.hid hu256
      have hkc : (k : Int) ≤ (c6 : Int) := by omega
      have hk0 : (0 : Int) ≤ (k : Int) := by omega
      have hr3 : (cells8 tw).length + 1 ≤ maxLen := by rw [cells8_length, Hq.out]; unfold maxLen; omega
      have hr4 : ((cells8 tw).length + 1) * 1 ≤ 140737488355328 := by rw [cells8_length, Hq.out]; omega
      have Hone : Hid (∀ u ∈ [Value.int .u8 (by_ : Int)], u.oneCell' = true) := Lib.hid (by simp [Value.oneCell'])
      have Hone6 : Hid (∀ u ∈ cells8 tw, u.oneCell' = true) := Lib.hid (cells8_one tw)
      have Hcu := Lib.hid (HAu.out.1); have Hcmu := Lib.hid HAu.out.2.1
      have Tc := Lib.hid (T7.out.mod hm11)
      clear hul hu256 hown hm11 HO HBl HAu Hm10 Hr7 Hm7 T7
      go_upto_region 19 with fail
      go_cut [125, 126, 127] (fun s67 s68 s69 wd => ∃ lit : Nat, s67 = .slice (some ⟨lit, 0, none⟩) 5 5 ∧ s68 = .int .i64 5 ∧ s69 = .int .i64 0 ∧ Rows5b wd 6000 lit ∧ Mod (fun _ => False) wc wd)
      case first =>
       go_region_held_law (fun w' => Below wc.heap.size wc w') (repeat' first | (with_reducible exact S93.out) | (with_reducible exact S90.out) | (with_reducible exact Below.refl _ _) | (with_reducible refine Below.drew ?_) | (with_reducible refine below_alloc ?_ (Nat.le_refl _) _))
        (first
         | (refine step_app rfl (.tmp 119) (.tmp 120) _ rfl elt8 (B := wc.heap.size) (v := .slice (some ⟨_, 0, none⟩) 0 0) (xs := []) rfl (by repeat' first | (with_reducible refine Own.drew ?_) | (exact own_lit0 (by simp) (by first | exact Nat.le_refl _ | simp)) | (with_reducible refine Own.alloc ?_ _)) rfl (H6.out.below (by repeat' first | (with_reducible exact S93.out) | (with_reducible exact S90.out) | (with_reducible exact Below.refl _ _) | (with_reducible refine Below.drew ?_) | (with_reducible refine below_alloc ?_ (Nat.le_refl _) _))) Hone6.out hr1 hr2 (Below.size (B := wc.heap.size) (by repeat' first | (with_reducible exact S93.out) | (with_reducible exact S90.out) | (with_reducible exact Below.refl _ _) | (with_reducible refine Below.drew ?_) | (with_reducible refine below_alloc ?_ (Nat.le_refl _) _))) ?_; intro v90 w90 O90 B90 G90; have P90 : Hid (Own wc.heap.size w90 5 v90 (cells8 tw)) := Lib.hid O90.out; have S90 : Hid (Below wc.heap.size wc w90) := Lib.hid (Below.trans (by repeat' first | (with_reducible exact S93.out) | (with_reducible exact S90.out) | (with_reducible exact Below.refl _ _) | (with_reducible refine Below.drew ?_) | (with_reducible refine below_alloc ?_ (Nat.le_refl _) _)) B90.out))
         | (refine step_app rfl (.tmp 121) (.tmp 123) _ rfl elt8 (B := wc.heap.size) (v := v90) (xs := cells8 tw) rfl (by repeat' first | (with_reducible exact P90.out) | (with_reducible refine Own.drew ?_) | (with_reducible refine Own.alloc ?_ _)) rfl (Has.rds (xs := [.int .u8 (by_ : Int)]) (by repeat' first | ((with_reducible refine has_lit ?_); simp; done) | (with_reducible refine Has.drew ?_) | (with_reducible refine Has.alloc ?_ _) | (with_reducible refine Has.far ?_ G90.out.1 (own_ne (by first | (simp; done) | (simp; omega)))))) Hone.out hr3 hr4 (Below.size (B := wc.heap.size) (by repeat' first | (with_reducible exact S93.out) | (with_reducible exact S90.out) | (with_reducible exact Below.refl _ _) | (with_reducible refine Below.drew ?_) | (with_reducible refine below_alloc ?_ (Nat.le_refl _) _))) ?_; intro v93 w93 O93 B93 G93; clear G93; obtain ⟨A93, c93, rfl, hc93, hcm93, _⟩ := u_formN8 (bs := tw ++ [by_]) (n := q + 1) (by rw [cells8_snoc]; exact O93.out) (by rw [List.length_append, Hq.out]; rfl); have S93 : Hid (Below wc.heap.size wc w93) := Lib.hid (Below.trans (by repeat' first | (with_reducible exact S93.out) | (with_reducible exact S90.out) | (with_reducible exact Below.refl _ _) | (with_reducible refine Below.drew ?_) | (with_reducible refine below_alloc ?_ (Nat.le_refl _) _)) B93.out)))
       all_goals
        have HR5 : Hid (Rows5b (w93.alloc (.cells #[.slice A5 n5 c5, .slice A6 q c6, .slice Au q cu, .slice A6 k c6, .slice A93 (q + 1) c93] 25)) 6000 w93.heap.size) := Lib.hid (rows5b_new (H0.out.below S93.out).fit (by omega) Hrc.out Hrl.out (H6.out.below S93.out).fit (by omega) ⟨hc6, Hcm6.out⟩ H256.out (HU.out.below S93.out).fit ⟨Hcu.out, Hcmu.out⟩ Hu256.out hkq (Own.rds8 (xs := tw ++ [by_]) (by rw [cells8_snoc]; exact O93.out) (by rw [List.length_append, Hq.out]; rfl)) (by omega) ⟨hc93, hcm93⟩ (fun x hx => by
         rcases List.mem_append.1 hx with hx | hx
         ·exact H256.out x hx
         ·rw [List.mem_singleton.1 hx]; exact Hby.out))
        have HM5 : Hid (Mod (fun _ => False) wc (w93.alloc (.cells #[.slice A5 n5 c5, .slice A6 q c6, .slice Au q cu, .slice A6 k c6, .slice A93 (q + 1) c93] 25))) := Lib.hid ((mod_below S93.out).alloc _)
        clear hc93 hcm93
        go_wp2_with fail
        go_meet
        exact ⟨_, rfl, rfl, rfl, HR5.out, HM5.out⟩
      case rest =>
       obtain ⟨lit, rfl, rfl, rfl, hR5, hmd⟩ := hcut
       have HR5 := Lib.hid hR5; have HmN := Lib.hid (Hmc.out.trans hmd (fun _ _ h => h)); have TN := Lib.hid (Tc.out.mod hmd)
       clear hR5 hmd H0 H6 HU Hul Hu256 Hone Hone6 hr1 hr2 hr3 hr4 h0m Hmc hkc hk0 hkq H256 Hcu Hcmu Hcm6 Tc
       obtain ⟨wE, rfl⟩ : ∃ wE : World, wE = wc := ⟨_, rfl⟩
       go_wp2_with fail
       go_loopg [127] 5 (fun l s69 wr => ∃ j : Nat, j + l = 5 ∧ s69 = .int .i64 (j : Int) ∧ Mod (fun _ => False) wE wr)
       case atStart => exact ⟨0, rfl, rfl, Mod.refl _ _⟩
       case round =>
        obtain ⟨j, hjl, rfl, hm⟩ := hrel
        have Hmj := Lib.hid hm; have Hjl := Lib.hid hjl
        clear hm hjl
        by_cases hj : j < 5
        ·have hj0 : (0 : Int) ≤ (j : Int) := by omega
         have hjb : decide ((j : Int) < 5) = true := by simp; omega
         obtain ⟨A, nc, cc, cs, hcell, hsc, hnc2, hncc, hccm, hlt⟩ := (HR5.out.mod Hmj.out).2 j hj
         have Hsc := Lib.hid hsc; have Hlt := Lib.hid hlt; have Hccm := Lib.hid hccm
         have Ty := Lib.hid (TN.out.mod Hmj.out)
         obtain ⟨ty, hty⟩ : ∃ ty, ty = ((openC cs).map (·.1)).getD [] := ⟨_, rfl⟩
         obtain ⟨oT, hoT⟩ : ∃ oT, oT = ((openC cs).map (·.2)).getD 0 := ⟨_, rfl⟩
         obtain ⟨b2, hb2⟩ : ∃ b2, b2 = (openC cs).isSome := ⟨_, rfl⟩
         obtain ⟨ny, hny⟩ : ∃ ny, ny = ty.length := ⟨_, rfl⟩
         obtain ⟨a0, ha0⟩ : ∃ a0, a0 = (hdV (hdC cs)).1 := ⟨_, rfl⟩
         obtain ⟨a1, ha1⟩ : ∃ a1, a1 = (hdV (hdC cs)).2.1 := ⟨_, rfl⟩
         obtain ⟨a2, ha2⟩ : ∃ a2, a2 = (hdV (hdC cs)).2.2.1 := ⟨_, rfl⟩
         obtain ⟨a3, ha3⟩ : ∃ a3, a3 = (hdV (hdC cs)).2.2.2 := ⟨_, rfl⟩
         obtain ⟨b3, hb3⟩ : ∃ b3, b3 = (hdC cs).isSome := ⟨_, rfl⟩
         have hlen : ny ≤ 1000000 := by rw [hny, hty]; exact openC_len hlt
         have Hty := Lib.hid hty; have HoT := Lib.hid hoT; have Hb2 := Lib.hid hb2; have Hny := Lib.hid hny; have Hlen := Lib.hid hlen
         have Ha0 := Lib.hid ha0; have Ha1 := Lib.hid ha1; have Ha2 := Lib.hid ha2; have Ha3 := Lib.hid ha3; have Hb3 := Lib.hid hb3
         have HX := Lib.hid (openX_eq hlt)
         clear hsc hlt hccm hty hoT hb2 hny hlen ha0 ha1 ha2 ha3 hb3
         go_wp2_with fail
         refine (jopen_any A nc cc cs wr Hsc.out Hlt.out hncc Hccm.out (by omega) Ty.out).mono ?_
         intro e x1 hE
         have hE' : EncO wr x1 (openX cs) e := hE
         rw [HX.out] at hE'
         obtain ⟨Ay, cy, rfl, hry, hmy⟩ := hE'.any
         rw [← Hty.out, ← Hny.out, ← HoT.out, ← Hb2.out]
         rw [← Hty.out, ← Hny.out] at hry
         have Hry := Lib.hid hry; have Hm1 := Lib.hid (Hmj.out.trans hmy (fun _ _ h => h)); have Hs1 := Lib.hid (Hsc.out.new hmy).fit
         clear hE hE' hry hmy Hsc Ty hcell
         go_wp2_with fail
         refine (ropen_any A nc cc cs x1 Hs1.out Hlt.out hncc Hccm.out (by omega)).mono ?_
         intro e x2 hE
         have hE' : EncO x1 x2 (openC cs) e := hE
         obtain ⟨Az, cz, rfl, hrz, hmz⟩ := hE'.any
         rw [← Hty.out, ← Hny.out, ← HoT.out, ← Hb2.out]
         rw [← Hty.out, ← Hny.out] at hrz
         have Hrz := Lib.hid hrz; have Hm2 := Lib.hid (Hm1.out.trans hmz (fun _ _ h => h)); have Hs2 := Lib.hid (Hs1.out.new hmz).fit; have Hry2 := Lib.hid (Hry.out.new hmz).fit
         clear hE hE' hrz hmz Hs1 Hm1 Hry
         go_wp2_with fail
         refine (jhead_any A nc cc cs x2 Hs2.out Hlt.out hncc Hccm.out).mono ?_
         rintro e x3 ⟨rfl, hm3⟩
         rw [← Ha0.out, ← Ha1.out, ← Ha2.out, ← Ha3.out, ← Hb3.out]
         obtain ⟨W3, hW3⟩ : ∃ W3, W3 = x3.alloc (.cells #[.int .i64 (a0 : Int), .int .i64 (a1 : Int), .int .i64 a2, .int .i64 a3] 36) := ⟨_, rfl⟩
         obtain ⟨h3, hh3⟩ : ∃ h3, h3 = x3.heap.size := ⟨_, rfl⟩
         have hmW3 : Mod (fun _ => False) x2 W3 := by rw [hW3]; exact hm3.alloc _
         have hbW3 : Blk W3 h3 36 #[.int .i64 (a0 : Int), .int .i64 (a1 : Int), .int .i64 a2, .int .i64 a3] := by rw [hW3, hh3]; exact Blk.new _ _ _
         have HW3 := Lib.hid hW3; have Hh3 := Lib.hid hh3; have HbW3 := Lib.hid hbW3; have Hm3 := Lib.hid (Hm2.out.trans hmW3 (fun _ _ h => h)); have Hs3 := Lib.hid (Hs2.out.new hmW3).fit; have Hry3 := Lib.hid (Hry2.out.new hmW3).fit; have Hrz3 := Lib.hid (Hrz.out.new hmW3).fit
         clear hm3 hW3 hh3 hmW3 hbW3 Hs2 Hm2 Hry2 Hrz
         go_upto_region 25 with fail
         rw [← HW3.out, ← Hh3.out]
         go_wp2_with fail
         refine (rheadF_any A nc cc cs W3 Hs3.out Hlt.out hncc Hccm.out).mono ?_
         rintro e x4 ⟨rfl, hm4⟩
         rw [← Ha0.out, ← Ha1.out, ← Ha2.out, ← Ha3.out, ← Hb3.out]
         obtain ⟨W4, hW4⟩ : ∃ W4, W4 = x4.alloc (.cells #[.int .i64 (a0 : Int), .int .i64 (a1 : Int), .int .i64 a2, .int .i64 a3] 36) := ⟨_, rfl⟩
         obtain ⟨h4, hh4⟩ : ∃ h4, h4 = x4.heap.size := ⟨_, rfl⟩
         have hmW4 : Mod (fun _ => False) W3 W4 := by rw [hW4]; exact hm4.alloc _
         have hbW4 : Blk W4 h4 36 #[.int .i64 (a0 : Int), .int .i64 (a1 : Int), .int .i64 a2, .int .i64 a3] := by rw [hW4, hh4]; exact Blk.new _ _ _
         have HW4 := Lib.hid hW4; have Hh4 := Lib.hid hh4; have HbW4 := Lib.hid hbW4; have HbV := Lib.hid (hmW4.blk HbW3.out (fun h => h)); have Hm4 := Lib.hid (Hm3.out.trans hmW4 (fun _ _ h => h)); have Hry4 := Lib.hid (Hry3.out.new hmW4).fit; have Hrz4 := Lib.hid (Hrz3.out.new hmW4).fit
         have hbb2 : (b2 != b2) = false := by simp
         have hbb3 : (b3 != b3) = false := by simp
         have hoo : ((oT : Int) != (oT : Int)) = false := by simp
         clear hm4 hW4 hh4 hmW4 hbW4 Hs3 Hm3 Hry3 Hrz3 HbW3 HW3 Hh3 HX Ha0 Ha1 Ha2 Ha3 Hb3 Hb2 HoT Hty Hny
         go_upto_region 26 with fail
         rw [← HW4.out, ← Hh4.out]
         go_wp2_with fail
         refine (sameS_any Ay Az ny ny cy cz _ _ ty ty true W4 Hry4.out Hrz4.out Hlen.out (by simp)).mono ?_
         rintro e x5 ⟨rfl, hm5⟩
         have hc := hm5.blk HbW4.out (fun h => h)
         have hd := hm5.blk HbV.out (fun h => h)
         have y0 := hc.cell 0
         have y1 := hc.cell 1
         have y2 := hc.cell 2
         have y3 := hc.cell 3
         have z0 := hd.cell 0
         have z1 := hd.cell 1
         have z2 := hd.cell 2
         have z3 := hd.cell 3
         simp at y0 y1 y2 y3 z0 z1 z2 z3
         have Hm5 := Lib.hid (Hm4.out.trans hm5 (fun _ _ h => h))
         clear hm5 hc hd HbW4 HbV HW4 Hh4 Hry4 Hrz4 Hm4
         go_wp2_with fail
         go_roundg (gk - 1)
         case measure => have := Hjl.out; omega
         case rel => exact ⟨j + 1, by have := Hjl.out; omega, by go_num, Hm5.out⟩
        ·have hji : ¬ (j : Int) < 5 := by omega
         go_wp2_with fail
         go_roundg (go1 - 1)
         case measure => have := Hik2.out; omega
         case rel => exact ⟨i2 + 1, by have := Hik2.out; omega, by go_num, HmN.out.trans Hmj.out (fun _ _ h => h)⟩
    ·have hi2i : ¬ (i2 : Int) < 2 := by omega
     go_wp2_with fail
     go_roundg (go0 - 1)
     case measure => have := Hik.out; omega
     case rel => exact ⟨i + 1, by have := Hik.out; omega, by go_num, HmM.out.trans Hm2.out (fun _ _ h => h)⟩
  ·have hi3i : ¬ (i : Int) < 3 := by omega
   have Tf := Lib.hid (TL.out.mod Hm.out)
   have Hmf0 := Lib.hid (HmL.out.trans Hm.out (fun _ _ h => h))
   go_wp2_with fail
   refine (jawake_any _ Tf.out).mono ?_
   rintro e wf ⟨rfl, hmf⟩
   have Hmf := Lib.hid (Hmf0.out.trans hmf (fun _ _ h => h))
   clear hmf
   go_wp2_with fail
   go_ret
   exact ⟨rfl, Hmf.out⟩
end Go.Proofs.YtjmjlflmcpkmnaaGreatDoor

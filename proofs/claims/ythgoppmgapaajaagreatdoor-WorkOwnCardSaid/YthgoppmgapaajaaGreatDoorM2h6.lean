/- The texts Zw, Kxr, Wr, Wv, Pf, Df, Kxt, Kxe, Jm, Zo, one behind the other. -/
import Derived.Test.YthgoppmgapaajaaGreatDoorM2h1
import Derived.Test.YthgoppmgapaajaaGreatDoorM2h5
import Derived.Test.YthgoppmgapaajaaGreatDoorM2h3
import Derived.Test.YthgoppmgapaajaaGreatDoorM2h2
import Derived.Test.YthgoppmgapaajaaGreatDoorM2h4
/- What the document fixes of layer 12: awake. -/
namespace Go.Proofs.YthgoppmgapaajaaGreatDoor
open Go.RowKit

def lThree : List (Int × Nat) := [(1, 7), (2, 7), (3, 9)]
def noChunk : List Nat := [110, 111, 32, 99, 104, 117, 110, 107]
theorem lThree_good : GoodS lThree := by
 intro p hp
 simp only [lThree, List.mem_cons, List.not_mem_nil, or_false] at hp
 rcases hp with rfl | rfl | rfl <;> exact ⟨⟨by decide, by decide⟩, by decide⟩
theorem cThree_some : ∃ b, makeC 1 lThree = some b := by
 refine ⟨(makeC 1 lThree).getD [], ?_⟩
 decide +kernel
theorem noChunk_none : openX noChunk = none := by decide +kernel
theorem noChunk_256 : lt256 noChunk := by
 intro x hx
 simp only [noChunk, List.mem_cons, List.not_mem_nil, or_false] at hx
 omega
theorem rds_mark (w : World) (t : TypeId) (cs : Array Value) (fr : Nat × Nat) : Rds (w.alloc (.cells cs t fr)) (w.heap.size + 1) (some ⟨w.heap.size, 0, none⟩) cs.size cs.toList :=
 ⟨by simp, fun _ => ⟨_, rfl, by simp, fun j u hu => by
  rw [add_addr, Nat.zero_add]
  refine (World.cell?_alloc_mark w cs t fr j).trans ?_
  simpa using hu⟩⟩
theorem rds_no (w : World) (fr : Nat × Nat) : Rds (w.alloc (.cells #[.int .u8 110, .int .u8 111, .int .u8 32, .int .u8 99, .int .u8 104, .int .u8 117, .int .u8 110, .int .u8 107] 5 fr)) (w.heap.size + 1) (some ⟨w.heap.size, 0, none⟩) 8 (cells8 noChunk) :=
 rds_mark w 5 #[.int .u8 110, .int .u8 111, .int .u8 32, .int .u8 99, .int .u8 104, .int .u8 117, .int .u8 110, .int .u8 107] fr
theorem conv_lit0 (w : World) (C : Array Value) (n c : Nat) : (convert 26 26 (.slice (some ⟨w.heap.size, 0, none⟩) n c)).run Tryz.prog (w.alloc (.cells C 5)) = .ok (.slice (some ⟨w.heap.size, 0, none⟩) n c) (w.alloc (.cells C 5 (C.size, C.size + 1))) :=
 Lib.run_convert_bytes_const (P := Tryz.prog) w 26 5 C n c Tryz.underlying26 Tryz.underlying5
set_option maxHeartbeats 1000000 in
set_option maxRecDepth 100000 in
theorem wawake_any (w : World) (ht : Tabs w) : Calls Tryz.prog 7 #[] w fun e w' => e = .returned (.bool true) ∧ Mod (fun _ => False) w w' := by
 obtain ⟨b, hb⟩ := cThree_some
 have hlt := makeC_256 hb
 have hlen := makeC_len lThree_good hb
 have hopen : openX b = some (lThree, 1) := openX_of lThree_good hb
 have hln : b.length ≤ 2825 := by have : lThree.length = 3 := rfl; omega
 have Ht := Lib.hid ht; have Hb := Lib.hid hb; have Hlt := Lib.hid hlt; have Hopen := Lib.hid hopen; have Hln := Lib.hid hln
 obtain ⟨W, hW⟩ : ∃ W, W = w.alloc (.cells #[.int .i64 1, .int .u64 7, .int .i64 2, .int .u64 7, .int .i64 3, .int .u64 9] 36) := ⟨_, rfl⟩
 have Hl0 : Hid (RdsS W (w.heap.size + 1) (some ⟨w.heap.size, 0, none⟩) 3 lThree) := Lib.hid (by rw [hW]; exact rds_three w 1 2 3 7 7 9)
 have HmW : Hid (Mod (fun _ => False) w W) := Lib.hid (by rw [hW]; exact (Mod.refl _ _).alloc _)
 have hWs : w.heap.size + 1 = W.heap.size := by rw [hW]; simp
 have HW := Lib.hid hW; have HWs := Lib.hid hWs
 clear ht hb hlt hlen hopen hln hW hWs
 go_enter Tryz.func7, Tryz.ntmps7
 go_upto_region 2 with fail
 rw [← HW.out]
 go_wp2_with fail
 refine (newEnc_any 1 _ 3 3 lThree W Hl0.out.fit lThree_good (Ht.out.mod HmW.out) (by decide)).mono ?_
 rintro e w1 ⟨ge, rfl, ht1, hm1⟩
 rw [Hb.out] at ht1
 obtain ⟨Be, hBe⟩ : ∃ Be, Be = W.heap.size := ⟨_, rfl⟩
 obtain ⟨Ee, hEe⟩ : ∃ Ee, Ee = w1.heap.size := ⟨_, rfl⟩
 have ht1' : TskB w1 Be Ee ge (some b) 3 := by rw [hBe, hEe]; exact ht1
 have Hge : Hid (w.heap.size + 1 ≤ ge) := Lib.hid (by have := ht1'.lt; have := HWs.out; omega)
 have He1 := Lib.hid ht1'; have Hm1 := Lib.hid (HmW.out.trans hm1 (fun _ _ h => h)); have Hl1 := Lib.hid (Hl0.out.mod hm1 (by have := HWs.out; omega) (fun _ _ h => h)); have HBe := Lib.hid hBe; have HEe := Lib.hid hEe
 clear ht1 ht1' hm1 hBe hEe Hl0 HmW
 go_wp2_with fail
 refine (estep_any Be Ee ge 3 (some b) 2 w1 He1.out (by decide)).mono ?_
 rintro e w2 ⟨rfl, ht2, hm2⟩
 have e1 : lessS 3 2 = 1 := by decide
 rw [e1] at ht2 ⊢
 have He2 := Lib.hid ht2; have Hm2 := Lib.hid (Hm1.out.trans hm2 (fun i hi h => by have := Hge.out; omega)); have Hl2 := Lib.hid (Hl1.out.mod hm2 (by have := Hm1.out.size; have := HWs.out; have := HEe.out; have := He1.out.lt; have := HBe.out; omega) (fun j hj h => by have := Hge.out; omega))
 clear ht2 hm2 e1 He1 Hm1 Hl1
 go_wp2_with fail
 refine (estep_any Be Ee ge 1 (some b) 1 w2 He2.out (by decide)).mono ?_
 rintro e w3 ⟨rfl, ht3, hm3⟩
 have e1 : lessS 1 1 = 0 := by decide
 rw [e1] at ht3 ⊢
 have He3 := Lib.hid ht3; have Hm3 := Lib.hid (Hm2.out.trans hm3 (fun i hi h => by have := Hge.out; omega)); have Hl3 := Lib.hid (Hl2.out.mod hm3 (by have := Hge.out; have := He2.out.lt; omega) (fun j hj h => by have := Hge.out; omega))
 clear ht3 hm3 e1 He2 Hm2 Hl2
 go_wp2_with fail
 refine (edone_any Be Ee ge 0 (some b) w3 He3.out).mono ?_
 intro e w4 he
 rw [if_pos rfl] at he
 obtain ⟨v4, rfl, ho4, hm4⟩ := EncB.some_ he rfl
 obtain ⟨A4, L4, c4, rfl, HL4, hc4, hcm4, hr4⟩ := own_formN8 ho4
 have hL4 : L4 ≤ 1000000 := by have := HL4.out; have := Hln.out; omega
 have Hm4 := Lib.hid (Hm3.out.trans hm4 (fun _ _ h => h)); have Hr4 := Lib.hid hr4
 have Hl4 := Lib.hid (Hl3.out.mod hm4 (by have := Hge.out; have := He3.out.lt; omega) (fun _ _ h => h))
 have Hsz4 : Hid (w.heap.size + 1 ≤ w4.heap.size) := Lib.hid (by have := Hge.out; have := He3.out.lt; have := hm4.size; omega)
 clear he ho4 hm4 hr4 He3 Hm3 Hl3
 go_wp2_with fail
 refine (newDec_any A4 L4 c4 b (some (lThree, 1)) w4 Hr4.out Hlt.out hc4 hcm4 hL4 (Ht.out.mod Hm4.out) Hopen.out (by intro l t e; injection e with e; injection e with e1 e2; rw [← e1]; decide)).mono ?_
 rintro e w5 ⟨gd, rfl, ht5, hm5⟩
 obtain ⟨Bd, hBd⟩ : ∃ Bd, Bd = w4.heap.size := ⟨_, rfl⟩
 obtain ⟨Ed, hEd⟩ : ∃ Ed, Ed = w5.heap.size := ⟨_, rfl⟩
 have ht5' : TskS w5 Bd Ed gd (some lThree) 3 := by rw [hBd, hEd]; exact ht5
 have Hgd : Hid (w.heap.size + 1 ≤ gd) := Lib.hid (by have := ht5'.lt; have := Hsz4.out; omega)
 have Hd5 := Lib.hid ht5'; have Hm5 := Lib.hid (Hm4.out.trans hm5 (fun _ _ h => h)); have Hl5 := Lib.hid (Hl4.out.mod hm5 Hsz4.out (fun _ _ h => h))
 have HEd := Lib.hid hEd
 clear ht5 ht5' hm5 hBd hEd Hr4 Hm4 Hl4 hc4 hcm4 hL4 HL4 HEe HBe
 go_wp2_with fail
 refine (ddone_any Bd Ed gd 3 (some lThree) w5 Hd5.out).mono ?_
 intro e w6 he
 rw [if_neg (by decide)] at he
 obtain ⟨rfl, hm6⟩ := EncS.none_ he rfl
 have Hd6 := Lib.hid (Hd5.out.new hm6); have Hm6 := Lib.hid (Hm5.out.trans hm6 (fun _ _ h => h)); have Hl6 := Lib.hid (Hl5.out.mod hm6 (by have := Hgd.out; have := Hd5.out.lt; omega) (fun _ _ h => h))
 clear he hm6 Hd5 Hm5 Hl5
 go_wp2_with fail
 refine (dstep_any Bd Ed gd 3 (some lThree) 5 w6 Hd6.out (by decide)).mono ?_
 rintro e w7 ⟨rfl, ht7, hm7⟩
 have e1 : lessS 3 5 = 0 := by decide
 rw [e1] at ht7 ⊢
 have Hd7 := Lib.hid ht7; have Hm7 := Lib.hid (Hm6.out.trans hm7 (fun i hi h => by have := Hgd.out; omega)); have Hl7 := Lib.hid (Hl6.out.mod hm7 (by have := Hgd.out; have := Hd6.out.lt; omega) (fun j hj h => by have := Hgd.out; omega))
 clear ht7 hm7 e1 Hd6 Hm6 Hl6
 go_wp2_with fail
 refine (ddone_any Bd Ed gd 0 (some lThree) w7 Hd7.out).mono ?_
 intro e w8 he
 rw [if_pos rfl] at he
 obtain ⟨v8, rfl, ho8, hm8⟩ := EncS.some_ he rfl
 obtain ⟨A8, L8, c8, rfl, HL8, _, _, hr8⟩ := ho8.formN
 obtain rfl : L8 = 3 := HL8.out.symm
 have Hd8 := Lib.hid (Hd7.out.new hm8); have Hm8 := Lib.hid (Hm7.out.trans hm8 (fun _ _ h => h)); have Hl8 := Lib.hid (Hl7.out.mod hm8 (by have := Hgd.out; have := Hd7.out.lt; omega) (fun _ _ h => h)); have Hr8 := Lib.hid hr8
 obtain ⟨W9, hW9⟩ : ∃ W9, W9 = w8.alloc (.cells #[.int .u8 110, .int .u8 111, .int .u8 32, .int .u8 99, .int .u8 104, .int .u8 117, .int .u8 110, .int .u8 107] 5 (8, 9)) := ⟨_, rfl⟩
 have kc := conv_lit0 w8
 have hm9 : Mod (fun _ => False) w8 W9 := by rw [hW9]; exact (Mod.refl _ _).alloc _
 have Hx9 : Hid (Rds W9 W9.heap.size (some ⟨w8.heap.size, 0, none⟩) 8 (cells8 noChunk)) := Lib.hid (by rw [hW9]; exact (rds_no w8 (8, 9)).fit)
 have HW9 := Lib.hid hW9
 have Hs9 : Hid (Ed ≤ W9.heap.size ∧ w.heap.size + 1 ≤ W9.heap.size) := Lib.hid (by have h1 := Hd8.out.lt; have h2 := hm9.size; have := Hgd.out; omega)
 have Hd9 := Lib.hid (Hd8.out.new hm9); have Hm9 := Lib.hid (Hm8.out.trans hm9 (fun _ _ h => h)); have Hl9 := Lib.hid (Hl8.out.mod hm9 (by have := Hgd.out; have := Hd8.out.lt; omega) (fun _ _ h => h)); have Hr9 := Lib.hid (Hr8.out.new hm9).fit
 clear he ho8 hm8 hr8 hW9 hm9 Hd7 Hm7 Hl7 Hd8 Hm8 Hl8 Hr8
 go_wp2_with fail
 rw [← HW9.out]
 refine (newDec_any (some ⟨w8.heap.size, 0, none⟩) 8 8 noChunk none W9 Hx9.out noChunk_256 (Nat.le_refl _) (by unfold maxLen; omega) (by decide) (Ht.out.mod Hm9.out) noChunk_none (by intro l t e; cases e)).mono ?_
 rintro e w10 ⟨gf, rfl, ht10, hm10⟩
 obtain ⟨Bf, hBf⟩ : ∃ Bf, Bf = W9.heap.size := ⟨_, rfl⟩
 obtain ⟨Ef, hEf⟩ : ∃ Ef, Ef = w10.heap.size := ⟨_, rfl⟩
 have ht10' : TskS w10 Bf Ef gf none 1 := by rw [hBf, hEf]; exact ht10
 have Hgf : Hid (w.heap.size + 1 ≤ gf ∧ Ed ≤ gf ∧ W9.heap.size ≤ gf) := Lib.hid (by have := ht10'.lt; have := Hs9.out; omega)
 have Hf10 := Lib.hid ht10'; have Hm10 := Lib.hid (Hm9.out.trans hm10 (fun _ _ h => h)); have Hd10 := Lib.hid (Hd9.out.new hm10); have Hl10 := Lib.hid (Hl9.out.mod hm10 (by have := Hgd.out; have := Hd9.out.lt; omega) (fun _ _ h => h)); have Hr10 := Lib.hid (Hr9.out.mod hm10 (Nat.le_refl _) (fun _ _ h => h))
 clear ht10 ht10' hm10 hBf hEf Hd9 Hm9 Hl9 Hr9 Hx9 HW9 kc
 go_wp2_with fail
 refine (dstep_any Bf Ef gf 1 none 1 w10 Hf10.out (by decide)).mono ?_
 rintro e w11 ⟨rfl, ht11, hm11⟩
 have e1 : lessS 1 1 = 0 := by decide
 rw [e1] at ht11 ⊢
 have Hf11 := Lib.hid ht11; have Hm11 := Lib.hid (Hm10.out.trans hm11 (fun i hi h => by have := Hgf.out; omega)); have Hl11 := Lib.hid (Hl10.out.mod hm11 (by have := Hgf.out; have := Hf10.out.lt; omega) (fun j hj h => by have := Hgf.out; omega))
 have Hd11 := Lib.hid (Hd10.out.mod hm11 (fun i h => by have := Hgf.out; omega)); have Hr11 := Lib.hid (Hr10.out.mod hm11 (by have := Hgf.out; have := Hf10.out.lt; omega) (fun j hj h => by have := Hgf.out; omega))
 clear ht11 hm11 e1 Hf10 Hm10 Hl10 Hd10 Hr10
 go_wp2_with fail
 refine (ddone_any Bf Ef gf 0 none w11 Hf11.out).mono ?_
 intro e w12 he
 rw [if_pos rfl] at he
 obtain ⟨rfl, hm12⟩ := EncS.none_ he rfl
 have Hf12 := Lib.hid (Hf11.out.new hm12); have Hd12 := Lib.hid (Hd11.out.new hm12); have Hm12 := Lib.hid (Hm11.out.trans hm12 (fun _ _ h => h)); have Hl12 := Lib.hid (Hl11.out.fit.new hm12); have Hr12 := Lib.hid (Hr11.out.fit.new hm12)
 clear he hm12 Hf11 Hd11 Hm11 Hl11 Hr11
 go_wp2_with fail
 refine (sameS_any A8 _ 3 3 c8 3 _ _ lThree lThree true w12 Hr12.out Hl12.out (by decide) (by simp)).mono ?_
 rintro e w13 ⟨rfl, hm13⟩
 have Hf13 := Lib.hid (Hf12.out.new hm13); have Hd13 := Lib.hid (Hd12.out.new hm13); have Hm13 := Lib.hid (Hm12.out.trans hm13 (fun _ _ h => h))
 clear hm13 Hf12 Hd12 Hm12 Hl12 Hr12
 go_wp2_with fail
 refine (dbad_any Bf Ef gf 0 none w13 Hf13.out).mono ?_
 rintro e w14 ⟨rfl, rfl⟩
 have e1 : (decide ((0 : Nat) = 0) && (none : Option (List (Int × Nat))).isNone) = true := rfl
 rw [e1]
 clear e1
 go_wp2_with fail
 refine (dbad_any Bd Ed gd 0 (some lThree) w13 Hd13.out).mono ?_
 rintro e w14 ⟨rfl, rfl⟩
 have e1 : (decide ((0 : Nat) = 0) && (some lThree).isNone) = false := rfl
 rw [e1]
 clear e1
 go_wp2_with fail
 go_ret
 exact ⟨rfl, Hm13.out⟩
end Go.Proofs.YthgoppmgapaajaaGreatDoor

/- The document's own Rising, values and steps. -/
namespace Go.Proofs.YthgoppmgapaajaaGreatDoor
open Go.RowKit

set_option maxHeartbeats 1000000 in
set_option maxRecDepth 100000 in
theorem rrising_any (A : Option Addr) (n c : Nat) (l : List (Int × Nat)) (w : World) (hs : RdsS w w.heap.size A n l) (hn : n ≤ 1000000) :
  Calls Tryz.prog 35 #[.slice A n c] w fun e w' => e = .returned (.bool (riseB l)) ∧ Mod (fun _ => False) w w' := by
 have Hs := Lib.hid hs; have Hl := Lib.hid hs.1
 have hcs : Tryz.prog.cellsOf 36 = 2 := by kernel_rfl
 clear hs
 go_enter Tryz.func35, Tryz.ntmps35
 go_wp2_with fail
 go_loopg [3] n (fun k s3 wr => ∃ i : Nat, i + k = n + 1 ∧ 1 ≤ i ∧ s3 = .int .i64 (i : Int) ∧ RiseTo l i ∧ Mod (fun _ => False) w wr)
 case atStart => exact ⟨1, by omega, Nat.le_refl _, rfl, (fun j a b h => by omega), Mod.refl _ _⟩
 case round =>
  obtain ⟨i, hik, hi1, rfl, hr, hm⟩ := hrel
  have Hik := Lib.hid hik; have Hr := Lib.hid hr; have Hm := Lib.hid hm
  clear hik hr hm
  by_cases hin : i < n
  ·obtain ⟨ad, p, rfl, _, hp, hc0, _⟩ := Hs.out.at2 hin (Nat.le_refl _) Hm.out (fun _ _ h => h)
   have Hp := Lib.hid hp
   clear hp
   obtain ⟨j, hj⟩ : ∃ j, i = j + 1 := ⟨i - 1, by omega⟩
   have hjn : j < n := by omega
   have hwj : IntKind.i64.wrap ((i : Int) - 1) = (j : Int) := by rw [IntWalk.i64_in _ (by omega)]; omega
   have hwj2 : (i : Int) - 1 = (j : Int) := by omega
   have hini : (i : Int) < (n : Int) := by omega
   have hjni : (j : Int) < (n : Int) := by omega
   have Hj := Lib.hid hj
   clear hj
   obtain ⟨ad2, q, hA2, _, hq, hd0, _⟩ := Hs.out.at2 hjn (Nat.le_refl _) Hm.out (fun _ _ h => h)
   injection hA2 with hA2
   subst hA2
   have Hq := Lib.hid hq
   clear hq
   obtain ⟨x, hx⟩ : ∃ x, x = p.1 := ⟨_, rfl⟩
   obtain ⟨y, hy⟩ : ∃ y, y = q.1 := ⟨_, rfl⟩
   rw [← hx] at hc0
   rw [← hy] at hd0
   have Hx := Lib.hid hx; have Hy := Lib.hid hy
   clear hx hy
   by_cases hxy : x ≤ y
   ·go_upto_region 4 with fail
    go_quiet (fail)
    go_wp2_with fail
    go_ret
    refine ⟨?_, Hm.out.drewN _⟩
    rw [riseB_fall (i := j) Hq.out (by rw [← Hj.out]; exact Hp.out) (by rw [← Hx.out, ← Hy.out]; exact hxy)]
    rfl
   ·go_upto_region 4 with fail
    go_quiet (fail)
    go_wp2_with fail
    go_roundg (gk - 1)
    case measure => have := Hik.out; omega
    case rel => exact ⟨i + 1, by have := Hik.out; omega, by omega, by go_num, (by
     have h1 := Hr.out; have h2 := Hp.out; have h3 := Hj.out
     subst h3
     exact h1.more Hq.out h2 (by rw [← Hx.out, ← Hy.out]; omega)), Hm.out.drewN _⟩
  ·have hall : Hid (RiseTo l l.length) := Lib.hid (fun j a b hj ha hb => Hr.out j a b (by have := Hl.out; omega) ha hb)
   by_cases hbig : n ≤ 65535
   ·have hbi : decide ((n : Int) ≤ 65535) = true := by simp; omega
    have hbn : (n : Int) ≤ 65535 := by omega
    go_wp2_with fail
    go_ret
    refine ⟨?_, Hm.out⟩
    rw [riseB_true hall.out (by rw [Hl.out]; exact hbig)]
    rfl
   ·have hbn : ¬ (n : Int) ≤ 65535 := by omega
    have hbi : decide ((n : Int) ≤ 65535) = false := by simp; omega
    go_wp2_with fail
    go_ret
    refine ⟨?_, Hm.out⟩
    rw [riseB_long (by rw [Hl.out]; omega)]
    rfl
/-- The first i values. -/
def RowVals (w wr : World) (l : List (Int × Nat)) (i : Nat) (v : Value) : Prop := Own w.heap.size wr 34 v (cellsU (vsOf (l.take i))) ∧ Mod (fun _ => False) w wr
theorem vs_take {l : List (Int × Nat)} {i : Nat} {p : Int × Nat} (h : l[i]? = some p) : vsOf (l.take (i + 1)) = vsOf (l.take i) ++ [p.2] := by
 have e : l.take (i + 1) = l.take i ++ [p] := by
  obtain ⟨hi, rfl⟩ := List.getElem?_eq_some_iff.1 h
  exact List.take_succ_eq_append_getElem hi
 rw [e]
 simp [vsOf]
theorem ts_take {l : List (Int × Nat)} {i : Nat} {p : Int × Nat} (h : l[i]? = some p) : tsOf (l.take (i + 1)) = tsOf (l.take i) ++ [p.1] := by
 have e : l.take (i + 1) = l.take i ++ [p] := by
  obtain ⟨hi, rfl⟩ := List.getElem?_eq_some_iff.1 h
  exact List.take_succ_eq_append_getElem hi
 rw [e]
 simp [tsOf]
set_option maxHeartbeats 1000000 in
set_option maxRecDepth 100000 in
theorem rvals_any (A : Option Addr) (n c : Nat) (l : List (Int × Nat)) (w : World) (hs : RdsS w w.heap.size A n l) (hn : n ≤ 1000000) :
  Calls Tryz.prog 34 #[.slice A n c] w fun e w' => ∃ v, e = .returned v ∧ Own w.heap.size w' 34 v (cellsU (vsOf l)) ∧ Mod (fun _ => False) w w' := by
 have Hs := Lib.hid hs; have Hl := Lib.hid hs.1
 have hcs : Tryz.prog.cellsOf 36 = 2 := by kernel_rfl
 have H0 : Hid (RowVals w w l 0 (.slice none 0 0)) := Lib.hid ⟨Own.nil _ _ _, Mod.refl _ _⟩
 clear hs
 go_enter Tryz.func34, Tryz.ntmps34
 go_wp2_with fail
 go_loopg [3, 4] n (fun k s3 s4 wr => ∃ i : Nat, i + k = n ∧ s4 = .int .i64 (i : Int) ∧ RowVals w wr l i s3)
 case atStart => exact ⟨0, by omega, rfl, H0.out⟩
 case round =>
  obtain ⟨i, hik, rfl, hV⟩ := hrel
  have Hik := Lib.hid hik; have HV := Lib.hid hV
  clear hik hV H0
  by_cases hin : i < n
  ·obtain ⟨ad, ⟨T, V⟩, rfl, _, hp, _, hc1⟩ := Hs.out.at2 hin (Nat.le_refl _) HV.out.2 (fun _ _ h => h)
   have hc1' := cell_whole hc1
   have hini : (i : Int) < (n : Int) := by omega
   have Hp := Lib.hid hp
   have hlen : (cellsU (vsOf (l.take i))).length ≤ 1000000 := by rw [cellsU_length, vsOf_len, List.length_take]; omega
   have HR : Hid ((cellsU (vsOf (l.take i))).length + 1 ≤ maxLen ∧ ((cellsU (vsOf (l.take i))).length + 1) * 8 ≤ 140737488355328) := Lib.hid ⟨by unfold maxLen; omega, by omega⟩
   have hsz := HV.out.2.size
   clear hp hlen
   go_wp2_with (at_builtin; refine wpList_app1 rfl (.tmp 11) (.tmp 17) _ rfl eltU rfl HV.out.1 rfl rfl rfl HR.out.1 HR.out.2 hsz ?_; intro v2 w2 HO HB)
   have HV2 : Hid (RowVals w w2 l (i + 1) v2) := Lib.hid ⟨by rw [vs_take Hp.out, cellsU_snoc]; exact HO.out, HV.out.2.trans (Mod.of_below HB.out) (fun i hi h => by omega)⟩
   go_roundg (gk - 1)
   case measure => have := Hik.out; omega
   case rel => exact ⟨i + 1, by have := Hik.out; omega, by go_num, HV2.out⟩
  ·have hi : i = n := by have := Hik.out; omega
   obtain ⟨h1, h2⟩ := HV.out
   rw [List.take_of_length_le (by rw [Hl.out]; omega)] at h1
   have X := Lib.hid (And.intro h1 h2)
   clear h1 h2 hi
   go_wp2_with fail
   go_ret
   exact ⟨_, rfl, X.out⟩
set_option maxHeartbeats 1000000 in
set_option maxRecDepth 100000 in
theorem rsteps_any (A : Option Addr) (n cap : Nat) (us : List Nat) (w : World) (hs : Rds w w.heap.size A n (cellsU us)) (hu : ∀ x ∈ us, x < 2 ^ 64) (hn : n ≤ 1000000) :
  Calls Tryz.prog 50 #[.slice A n cap] w fun e w' => ∃ v, e = .returned v ∧ Own w.heap.size w' 34 v (cellsU (stepsU 0 us)) ∧ Mod (fun _ => False) w w' := by
 have hul : us.length = n := by have := hs.1; rwa [cellsU_length] at this
 have Hs := Lib.hid hs; have Hu := Lib.hid hu; have Hul := Lib.hid hul
 have H0 : Hid (StepTo w w us 0 (.slice none 0 0) 0) := Lib.hid ⟨Own.nil _ _ _, rfl, by decide, Mod.refl _ _⟩
 clear hs hu hul
 go_enter Tryz.func50, Tryz.ntmps50
 go_wp2_with fail
 go_loopg [3, 4, 5] n (fun l s3 s4 s5 wr => ∃ i last : Nat, i + l = n ∧ s5 = .int .i64 (i : Int) ∧ s4 = .int .u64 (last : Int) ∧ StepTo w wr us i s3 last)
 case atStart => exact ⟨0, 0, by omega, rfl, rfl, H0.out⟩
 case round =>
  obtain ⟨i, last, hil, rfl, rfl, hP⟩ := hrel
  have Hil := Lib.hid hil; have HP := Lib.hid hP
  clear hil hP H0
  by_cases hin : i < n
  ·obtain ⟨ad, x, rfl, hx, hcx⟩ := Hs.out.at2 hin (Nat.le_refl _) HP.out.2.2.2 (fun _ _ h => h)
   have hx64 := Hu.out x (List.mem_of_getElem? hx)
   have hl64 := HP.out.2.2.1
   have hini : (i : Int) < (n : Int) := by omega
   obtain ⟨y, hy⟩ : ∃ y, y = (x + M64 - last) % M64 := ⟨_, rfl⟩
   have hyl : y < M64 := by rw [hy]; exact Nat.mod_lt _ (by decide)
   have hw1 : IntKind.u64.wrap ((x : Int) - (last : Int)) = (y : Int) := by
    rw [IntKind.wrap_u64, hy]
    show _ = (((x + 18446744073709551616 - last) % 18446744073709551616 : Nat) : Int)
    omega
   have hw2 : wrap64 (y : Int) = sg y := by rw [wrap_sg, un_nat hyl]
   have hfi : FitI (sg y) := of_fits' (sg_fits hyl)
   obtain ⟨d, hd⟩ : ∃ d, d = sg y := ⟨_, rfl⟩
   rw [← hd] at hw2 hfi
   obtain ⟨z, hz⟩ : ∃ z, z = zig d := ⟨_, rfl⟩
   have HX : Hid (us[i]? = some x ∧ x < 2 ^ 64 ∧ z = zig (sg ((x + M64 - last) % M64))) := Lib.hid ⟨hx, hx64, by rw [hz, hd, hy]⟩
   have Hfi := Lib.hid hfi; have Hz := Lib.hid hz
   have hlen : (cellsU (stepsU 0 (us.take i))).length ≤ 1000000 := by rw [cellsU_length, stepsU_len, List.length_take]; omega
   have HR : Hid ((cellsU (stepsU 0 (us.take i))).length + 1 ≤ maxLen ∧ ((cellsU (stepsU 0 (us.take i))).length + 1) * 8 ≤ 140737488355328) := Lib.hid ⟨by unfold maxLen; omega, by omega⟩
   have hsz := HP.out.2.2.2.size
   clear hx hx64 hl64 hy hyl hfi hd hz hlen
   go_wp2_with fail
   refine (rzig_any d wr Hfi.out).mono ?_
   rintro e w1 ⟨rfl, rfl⟩
   rw [← Hz.out]
   clear hw1 hw2
   have hcx2 : ∀ (w2 : World), Below w.heap.size wr w2 → w2.cell? (ad.add i) = some (.int .u64 (x : Int)) := fun w2 hb => by
    obtain ⟨ad', hA, hb', _⟩ := Hs.out.2 (by omega)
    injection hA with hA
    subst hA
    rw [hb.cell (p := ad.add i) (by rw [add_block]; exact hb')]
    exact hcx
   have Hcx2 := Lib.hid hcx2
   clear hcx2
   go_wp2_with (at_builtin; refine wpList_app1 rfl (.tmp 12) (.tmp 21) _ rfl eltU rfl HP.out.1 rfl rfl rfl HR.out.1 HR.out.2 hsz ?_; intro v2 w2 HO HB; have hcx3 := Hcx2.out w2 HB.out)
   have HP2 : Hid (StepTo w w2 us (i + 1) v2 x) := Lib.hid (HP.out.step HX.out.1 HX.out.2.1 HX.out.2.2 HO.out HB.out)
   go_roundg (gk - 1)
   case measure => have := Hil.out; omega
   case rel => exact ⟨i + 1, x, by have := Hil.out; omega, by go_num, rfl, HP2.out⟩
  ·have hi : i = n := by have := Hil.out; omega
   obtain ⟨hown, _, _, hm⟩ := HP.out
   rw [List.take_of_length_le (by have := Hul.out; omega)] at hown
   have X := Lib.hid (And.intro hown hm)
   clear hi hown hm
   go_wp2_with fail
   go_ret
   exact ⟨_, rfl, X.out⟩
end Go.Proofs.YthgoppmgapaajaaGreatDoor

/- The document's own values are told: ahead, behind, Values. -/
namespace Go.Proofs.YthgoppmgapaajaaGreatDoor
open Go.RowKit

set_option maxHeartbeats 1000000 in
theorem rahead_any (x : Nat) (w : World) : Calls Tryz.prog 68 #[.int .u64 (x : Int)] w fun e w' => e = .returned (.int .i64 (aheadN x : Int)) ∧ w = w' := by
 go_enter Tryz.func68, Tryz.ntmps68
 go_wp2
 go_loop [3] (fun s3 => ∃ n f : Nat, n + f = 31 ∧ s3 = .int .i64 (n : Int) ∧ Hid (ahd f n x = aheadN x)) (fun s3 => 31 - (intOf s3).toNat)
 case atStart => exact ⟨0, 31, rfl, rfl, Lib.hid rfl⟩
 case round =>
  obtain ⟨n, f, hnf, rfl, hA⟩ := hrel
  cases f with
  | zero =>
   have hn : ¬ n < 31 := by omega
   go_wp2
   go_ret
   exact ⟨ret_int (by have h := hA.out; have h2 : ahd 0 n x = n := rfl; omega), rfl⟩
  | succ f =>
   have hn : n < 31 := by omega
   obtain ⟨k, hk⟩ : ∃ k, k = 63 - n := ⟨_, rfl⟩
   have hk1 : (63 : Int) - (n : Int) = (k : Int) := by omega
   have hk2 : IntKind.u64.wrap (k : Int) = (k : Int) := by rw [IntKind.wrap_u64]; omega
   obtain ⟨q, hq⟩ : ∃ q, q = x / 2 ^ k := ⟨_, rfl⟩
   have hq1 : (x : Int) / 2 ^ k = (q : Int) := by rw [hq]; simp
   have e : ahd (f + 1) n x = if x / 2 ^ (63 - n) = 0 then ahd f (n + 1) x else n := rfl
   have hA2 := hA.out
   rw [e, ← hk, ← hq] at hA2
   clear e hq hk hA
   by_cases hq0 : q = 0
   ·rw [if_pos hq0] at hA2
    have HA := Lib.hid hA2
    have hqb : ((q : Int) == 0) = true := by simp; omega
    clear hA2 hq0
    go_wp2
    go_round
    case rel => exact ⟨n + 1, f, by omega, by go_num, HA⟩
    case measure => simp [intOf]; omega
   ·rw [if_neg hq0] at hA2
    have HA := Lib.hid hA2
    have hqb : ((q : Int) == 0) = false := by simp; omega
    clear hA2 hq0
    go_wp2
    go_ret
    exact ⟨ret_int (by rw [HA.out]), rfl⟩
set_option maxHeartbeats 1000000 in
theorem rbehind_any (x : Nat) (w : World) (h0 : 0 < x) (hx : Lt64 x) : Calls Tryz.prog 69 #[.int .u64 (x : Int)] w fun e w' => e = .returned (.int .i64 (behindN x : Int)) ∧ w = w' := by
 have hb63 := (behind_form h0 hx.out).1
 have Hx := Lib.hid hx; have Hb63 := Lib.hid hb63
 clear hx hb63
 go_enter Tryz.func69, Tryz.ntmps69
 go_wp2
 go_loop [3] (fun s3 => ∃ n f : Nat, n + f = 64 ∧ s3 = .int .i64 (n : Int) ∧ Hid (bhd f n x = behindN x)) (fun s3 => 64 - (intOf s3).toNat)
 case atStart => exact ⟨0, 64, rfl, rfl, Lib.hid rfl⟩
 case round =>
  obtain ⟨n, f, hnf, rfl, hA⟩ := hrel
  cases f with
  | zero =>
   exfalso
   have h := hA.out
   have h2 : bhd 0 n x = n := rfl
   have := Hb63.out
   omega
  | succ f =>
   have hn : n ≤ 63 := by omega
   have hk2 : IntKind.u64.wrap (n : Int) = (n : Int) := by rw [IntKind.wrap_u64]; omega
   obtain ⟨q, hq⟩ : ∃ q, q = x / 2 ^ n % 2 := ⟨_, rfl⟩
   have hbit : bits BinOp.and IntKind.u64 ((x : Int) / 2 ^ n) 1 = (q : Int) := by rw [bit_u64 x n Hx.out, hq]
   have e : bhd (f + 1) n x = if x / 2 ^ n % 2 = 0 then bhd f (n + 1) x else n := rfl
   have hA2 := hA.out
   rw [e, ← hq] at hA2
   clear e hq hA
   by_cases hq0 : q = 0
   ·rw [if_pos hq0] at hA2
    have HA := Lib.hid hA2
    have hqb : ((q : Int) == 0) = true := by simp; omega
    clear hA2 hq0
    go_wp2
    go_round
    case rel => exact ⟨n + 1, f, by omega, by go_num, HA⟩
    case measure => simp [intOf]; omega
   ·rw [if_neg hq0] at hA2
    have HA := Lib.hid hA2
    have hqb : ((q : Int) == 0) = false := by simp; omega
    clear hA2 hq0
    go_wp2
    go_ret
    exact ⟨ret_int (by rw [HA.out]), rfl⟩
end Go.Proofs.YthgoppmgapaajaaGreatDoor

/- The document's own rows of values are told: Values. -/
namespace Go.Proofs.YthgoppmgapaajaaGreatDoor
open Go.RowKit

def winB : Option (Nat × Nat) → Nat
 | none => 0
 | some (_, b) => b
/-- What the document has told of i values. -/
def XREnc (w wr : World) (g : Nat) (row : Option Nat) (N len : Nat) (zs : List Nat) (i : Nat) (win : Option (Nat × Nat)) : Prop :=
 ∃ fs, RWrote w wr g row N len fs ∧ WinOk win ∧ (i = 0 → fs = [] ∧ win = none) ∧ (0 < i → ∃ prev, zs[i - 1]? = some prev ∧ fs ++ encX win prev (zs.drop i) = encVals zs)
theorem fits_dec {win : Option (Nat × Nat)} {x : Nat} : fitsX win x = (win.isSome && (decide (winA win ≤ aheadN x) && decide (winB win ≤ behindN x))) := by
 cases win with
 | none => rfl
 | some p =>
  obtain ⟨a, b⟩ := p
  show decide (a ≤ aheadN x ∧ b ≤ behindN x) = (true && (decide (a ≤ aheadN x) && decide (b ≤ behindN x)))
  simp
set_option maxHeartbeats 4000000 in
set_option maxRecDepth 100000 in
theorem rvalues_any (B g : Nat) (row : Option Nat) (N len n c : Nat) (A : Option Addr) (zs : List Nat) (w : World) (hs : Rds w B A n (cellsU zs)) (hz : ∀ x ∈ zs, x < 2 ^ 64) (hB : B ≤ w.heap.size) (hap : 0 < n → ∀ ad, A = some ad → ¬ (ad.block = g ∨ row = some ad.block))
  (hw : RWr w g row N len) (hlen : len + (64 + 77 * n) ≤ 900000000) :
  Calls Tryz.prog 48 #[.pointer (some ⟨g, 0, none⟩), .slice A n c] w fun e w' => e = .returned (.tuple #[]) ∧ RWrote w w' g row N len (encVals zs) := by
 have hzl : zs.length = n := by have := hs.1; rwa [cellsU_length] at this
 have Hs := Lib.hid hs; have Hz := Lib.hid hz; have HS := Lib.hid hap; have Hzl := Lib.hid hzl
 have H0 : Hid (XREnc w w g row N len zs 0 none) := Lib.hid ⟨[], RWrote.refl hw, trivial, fun _ => ⟨rfl, rfl⟩, fun h => by omega⟩
 have Htot : Hid (len + flen (encVals zs) ≤ 900000000) := Lib.hid (by have := encVals_len zs; rw [hzl] at this; omega)
 clear hs hz hw hap hzl
 go_enter Tryz.func48, Tryz.ntmps48
 go_wp2_with fail
 go_loopg [4, 5, 6, 7] n (fun l s4 s5 s6 s7 wr => ∃ (i : Nat) (win : Option (Nat × Nat)), i + l = n ∧ s7 = .int .i64 (i : Int) ∧ s4 = .bool win.isSome ∧ s5 = .int .i64 (winA win : Int) ∧ s6 = .int .i64 (winB win : Int) ∧ XREnc w wr g row N len zs i win)
 case atStart => exact ⟨0, none, by omega, rfl, rfl, rfl, rfl, H0.out⟩
 case round =>
  obtain ⟨i, win, hil, rfl, rfl, rfl, rfl, hE⟩ := hrel
  have HE := Lib.hid hE; have Hil := Lib.hid hil
  clear hE hil H0
  by_cases hin : i < n
  ·obtain ⟨fs, hwr, hok, he0, he1⟩ := HE.out
   obtain ⟨ad, v, rfl, hv, hcv⟩ := Hs.out.at2 hin hB (by obtain ⟨_, _, a2, _⟩ := hwr; exact a2) (HS.out (by omega))
   have Hv := Lib.hid hv
   have hvl := Lib.hid (Hz.out v (List.mem_of_getElem? hv))
   have Hdr := Lib.hid (drop_at' hv)
   have Hok := Lib.hid hok
   clear hv hok
   by_cases hi0 : i = 0
   ·obtain ⟨rfl, rfl⟩ := he0 hi0
    subst hi0
    have Hwr := Lib.hid hwr
    have hcx0 : wr.cell? ad = some (.int .u64 (v : Int)) := by rw [← add_zero' ad]; exact hcv
    clear hwr he0 he1 HE
    go_wp2_with fail
    refine (rput_wrote w g row N len 64 [] v _ _ _ rfl rfl (by omega) hvl.out Hwr.out (by show len + 0 ≤ _; omega)).mono ?_
    rintro e w1 ⟨rfl, h1⟩
    have hd0 := Hdr.out
    rw [List.drop_zero] at hd0
    have H1 : Hid (XREnc w w1 g row N len zs 1 none) := Lib.hid ⟨[(v, 64)], h1, trivial, fun h => by omega, fun _ => ⟨v, Hv.out, by rw [hd0]; rfl⟩⟩
    clear h1 hd0 Hwr
    go_wp2_with fail
    go_roundg (gk - 1)
    case measure => have := Hil.out; omega
    case rel => exact ⟨1, none, by have := Hil.out; omega, rfl, rfl, rfl, rfl, H1.out⟩
   ·have hb0 : ((i : Int) == 0) = false := by simp; omega
    obtain ⟨prev, hpv, hE1⟩ := he1 (by omega)
    obtain ⟨ad', x', e', hx', hcp⟩ := Hs.out.at2 (show i - 1 < n by omega) hB (by obtain ⟨_, _, a2, _⟩ := hwr; exact a2) (HS.out (by omega))
    injection e' with e'
    subst e'
    rw [hpv] at hx'
    injection hx' with hx'
    subst hx'
    have hpl := Lib.hid (Hz.out prev (List.mem_of_getElem? hpv))
    obtain ⟨x, hx⟩ : ∃ x : Nat, x = v ^^^ prev := ⟨_, rfl⟩
    have hxor : bits .xor .u64 (v : Int) (prev : Int) = (x : Int) := by rw [hx]; exact u64_xor_nat v prev hvl.out hpl.out
    have hxl : Hid (Lt64 x) := Lib.hid (by rw [hx]; exact Nat.xor_lt_two_pow hvl.out hpl.out)
    have hi1 : IntKind.i64.wrap ((i : Int) - 1) = (i : Int) - 1 := IntWalk.i64_in _ (by omega)
    have hi2 : ((i : Int) - 1).toNat = i - 1 := by omega
    have hi3 : (0 : Int) ≤ (i : Int) - 1 := by omega
    have hi4 : (i : Int) - 1 < (n : Int) := by omega
    have hi5 : (i : Int) < (n : Int) := by omega
    have hi6 : (0 : Int) ≤ (i : Int) := by omega
    have Hwr := Lib.hid hwr; have HE1 := Lib.hid hE1; have Hx := Lib.hid hx
    have hl : Hid (len + flen fs ≤ 900000000) := Lib.hid (by have := Htot.out; rw [← HE1.out] at this; have := flen_le_app fs (encX win prev (zs.drop i)); omega)
    have hnx : Hid (∀ w', RWrote w w' g row N len (fs ++ fieldsX win x) → XREnc w w' g row N len zs (i + 1) (winX win x)) := Lib.hid (fun w' h =>
     ⟨_, h, winX_ok Hok.out hxl.out, fun h => by omega, fun _ => ⟨v, Hv.out, by rw [← HE1.out, Hdr.out, List.append_assoc, Hx.out]; rfl⟩⟩)
    obtain ⟨a, ha⟩ : ∃ a, a = winA win := ⟨_, rfl⟩
    obtain ⟨b, hb⟩ : ∃ b, b = winB win := ⟨_, rfl⟩
    obtain ⟨any, hany⟩ : ∃ any, any = win.isSome := ⟨_, rfl⟩
    have Ha := Lib.hid ha; have Hb := Lib.hid hb; have Hany := Lib.hid hany
    rw [← ha, ← hb, ← hany]
    clear hwr he0 he1 HE hE1 hx hpv ha hb hany
    go_upto_region 6 with fail
    go_quiet (fail)
    have Hwr2 := Lib.hid (Hwr.out.drewN nq)
    clear Hwr hcv hcp hi1 hi2 hi3 hi4 hxor
    generalize wr.drewN nq = w2 at *
    by_cases hx0 : x = 0
    ·have hx0b : ((x : Int) == 0) = true := by simp; omega
     have hf0 : Hid (fieldsX win x = [(0, 1)] ∧ winX win x = win) := Lib.hid ⟨by unfold fieldsX; rw [if_pos hx0], by unfold winX; rw [if_pos hx0]⟩
     clear hx0
     go_wp2_with fail
     refine (rput_wrote w g row N len 1 fs 0 0 1 _ rfl rfl (by omega) (show (0 : Nat) < 18446744073709551616 by decide) Hwr2.out (by have := hl.out; omega)).mono ?_
     rintro e w3 ⟨rfl, h3⟩
     have H3 : Hid (XREnc w w3 g row N len zs (i + 1) win) := Lib.hid (by have h := hnx.out w3 (by rw [hf0.out.1]; exact h3); rwa [hf0.out.2] at h)
     clear h3
     go_wp2_with fail
     go_roundg (gk - 1)
     case measure => have := Hil.out; omega
     case rel => exact ⟨i + 1, win, by have := Hil.out; omega, by go_num, by rw [Hany.out], by rw [Ha.out], by rw [Hb.out], H3.out⟩
    ·have hx0b : ((x : Int) == 0) = false := by simp; omega
     go_wp2_with fail
     refine (rput_wrote w g row N len 1 fs 1 1 1 _ rfl rfl (by omega) (show (1 : Nat) < 18446744073709551616 by decide) Hwr2.out (by have := hl.out; omega)).mono ?_
     rintro e w3 ⟨rfl, h3⟩
     have H3 := Lib.hid h3
     obtain ⟨ah, hah⟩ : ∃ ah, ah = aheadN x := ⟨_, rfl⟩
     obtain ⟨be, hbe⟩ : ∃ be, be = behindN x := ⟨_, rfl⟩
     have hsum := sum_le (by omega) hxl.out
     have hah31 := (ahead_spec hxl.out).1
     rw [← hah] at hsum hah31
     rw [← hbe] at hsum
     have Hah := Lib.hid hah; have Hbe := Lib.hid hbe
     clear h3 hah hbe Hwr2
     have hfd := fits_dec (win := win) (x := x)
     rw [← Hany.out, ← Ha.out, ← Hb.out, ← Hah.out, ← Hbe.out] at hfd
     obtain ⟨fit, hfit⟩ : ∃ fit, fit = fitsX win x := ⟨_, rfl⟩
     rw [← hfit] at hfd
     have Hfd := Lib.hid hfd; have Hfit := Lib.hid hfit
     clear hfd hfit
     go_upto_region 10 with fail
     go_cut [50] (fun s50 wc => s50 = .bool fit ∧ w3 = wc)
     case first =>
      cases any with
      | false =>
       obtain rfl : fit = false := Hfd.out
       go_wp2_with fail
       go_meet
       case rel => exact ⟨rfl, rfl⟩
      | true =>
       by_cases h1 : a ≤ ah
       ·by_cases h2 : b ≤ be
        ·obtain rfl : fit = true := by rw [Hfd.out, decide_eq_true h1, decide_eq_true h2]; rfl
         go_wp2_with (first | (go_at_call 68; refine (rahead_any x _).mono ?_; rintro e w5 ⟨rfl, rfl⟩; rw [← Hah.out]) | (go_at_call 69; refine (rbehind_any x _ (by omega) hxl.out).mono ?_; rintro e w5 ⟨rfl, rfl⟩; rw [← Hbe.out]))
         go_meet
         case rel => exact ⟨rfl, rfl⟩
        ·obtain rfl : fit = false := by rw [Hfd.out, decide_eq_true h1, decide_eq_false h2]; rfl
         go_wp2_with (first | (go_at_call 68; refine (rahead_any x _).mono ?_; rintro e w5 ⟨rfl, rfl⟩; rw [← Hah.out]) | (go_at_call 69; refine (rbehind_any x _ (by omega) hxl.out).mono ?_; rintro e w5 ⟨rfl, rfl⟩; rw [← Hbe.out]))
         go_meet
         case rel => exact ⟨rfl, rfl⟩
       ·obtain rfl : fit = false := by rw [Hfd.out, decide_eq_false h1]; rfl
        go_wp2_with (first | (go_at_call 68; refine (rahead_any x _).mono ?_; rintro e w5 ⟨rfl, rfl⟩; rw [← Hah.out]) | (go_at_call 69; refine (rbehind_any x _ (by omega) hxl.out).mono ?_; rintro e w5 ⟨rfl, rfl⟩; rw [← Hbe.out]))
        go_meet
        case rel => exact ⟨rfl, rfl⟩
     case rest =>
      obtain ⟨rfl, rfl⟩ := hcut
      cases fit with
      | true =>
       have hin2 : WinOk win ∧ a + b ≤ 63 ∧ fieldsX win x = [(1, 1), (0, 1), (x / 2 ^ b, 64 - a - b)] ∧ winX win x = win := by
        have hf := Hfit.out.symm
        have hw := Hok.out
        rw [Ha.out, Hb.out]
        cases win with
        | none => cases hf
        | some p =>
         obtain ⟨a', b'⟩ := p
         refine ⟨hw, hw.2, ?_, ?_⟩
         ·unfold fieldsX; rw [if_neg hx0, if_pos hf]; rfl
         ·unfold winX; rw [if_neg hx0, if_pos hf]
       obtain ⟨_, hab, hfe, hwe⟩ := hin2
       obtain ⟨s, hs⟩ : ∃ s, s = 64 - a - b := ⟨_, rfl⟩
       obtain ⟨y, hy⟩ : ∃ y, y = x / 2 ^ b := ⟨_, rfl⟩
       have hs1 : (64 : Int) - (a : Int) - (b : Int) = (s : Int) := by omega
       have hy1 : (x : Int) / 2 ^ b = (y : Int) := by rw [hy]; simp
       have hyl : Hid (Lt64 y) := Lib.hid (by have := hxl.out.out; have := Nat.div_le_self x (2 ^ b); unfold Lt64; omega)
       have hbw : IntKind.u64.wrap (b : Int) = (b : Int) := by rw [IntKind.wrap_u64]; omega
       have hs64 : s ≤ 64 := by omega
       rw [← hs, ← hy] at hfe
       have Hfe := Lib.hid hfe; have Hwe := Lib.hid hwe
       clear hs hy hfe hwe
       go_wp2_with fail
       refine (rput_wrote w g row N len 1 _ 0 0 1 _ rfl rfl (by omega) (show (0 : Nat) < 18446744073709551616 by decide) H3.out (by rw [flen_app]; have := hl.out; show len + (flen fs + (1 + 0)) ≤ _; omega)).mono ?_
       rintro e w5 ⟨rfl, h5⟩
       have H5 := Lib.hid h5
       clear h5 H3
       go_wp2_with fail
       refine (rput_wrote w g row N len s _ y _ _ _ rfl rfl hs64 hyl.out H5.out (by rw [flen_app, flen_app]; have := hl.out; show len + (flen fs + (1 + 0) + (1 + 0)) ≤ _; omega)).mono ?_
       rintro e w6 ⟨rfl, h6⟩
       have H6 : Hid (XREnc w w6 g row N len zs (i + 1) win) := Lib.hid (by
        have h := hnx.out w6 (by rw [Hfe.out]; simpa using h6)
        rwa [Hwe.out] at h)
       clear h6 H5 hs1 hy1 hbw
       go_wp2_with fail
       go_roundg (gk - 1)
       case measure => have := Hil.out; omega
       case rel => exact ⟨i + 1, win, by have := Hil.out; omega, by go_num, by rw [Hany.out], by rw [Ha.out], by rw [Hb.out], H6.out⟩
      | false =>
       have hnf : ¬ fitsX win x = true := by rw [← Hfit.out]; decide
       have hfe : fieldsX win x = [(1, 1), (1, 1), (ah, 5), (63 - ah - be, 6), (x / 2 ^ be, 64 - ah - be)] := by rw [Hah.out, Hbe.out]; unfold fieldsX; rw [if_neg hx0, if_neg hnf]; rfl
       have hwe : winX win x = some (ah, be) := by rw [Hah.out, Hbe.out]; unfold winX; rw [if_neg hx0, if_neg hnf]
       obtain ⟨s, hs⟩ : ∃ s, s = 64 - ah - be := ⟨_, rfl⟩
       obtain ⟨m, hm⟩ : ∃ m, m = 63 - ah - be := ⟨_, rfl⟩
       obtain ⟨y, hy⟩ : ∃ y, y = x / 2 ^ be := ⟨_, rfl⟩
       have hs1 : (64 : Int) - (ah : Int) - (be : Int) = (s : Int) := by omega
       have hm1 : (63 : Int) - (ah : Int) - (be : Int) = (m : Int) := by omega
       have hy1 : (x : Int) / 2 ^ be = (y : Int) := by rw [hy]; simp
       have hyl : Hid (Lt64 y) := Lib.hid (by have := hxl.out.out; have := Nat.div_le_self x (2 ^ be); unfold Lt64; omega)
       have hbw : IntKind.u64.wrap (be : Int) = (be : Int) := by rw [IntKind.wrap_u64]; omega
       have haw : IntKind.u64.wrap (ah : Int) = (ah : Int) := by rw [IntKind.wrap_u64]; omega
       have hmw : IntKind.u64.wrap (m : Int) = (m : Int) := by rw [IntKind.wrap_u64]; omega
       have hs64 : s ≤ 64 := by omega
       have hm64 : m ≤ 63 := by omega
       rw [← hs, ← hm, ← hy] at hfe
       have Hfe := Lib.hid hfe; have Hwe := Lib.hid hwe
       clear hs hm hy hfe hwe hnf
       go_wp2_with (first | (go_at_call 68; refine (rahead_any x _).mono ?_; rintro e w5 ⟨rfl, rfl⟩; rw [← Hah.out]) | (go_at_call 69; refine (rbehind_any x _ (by omega) hxl.out).mono ?_; rintro e w5 ⟨rfl, rfl⟩; rw [← Hbe.out]))
       refine (rput_wrote w g row N len 1 _ 1 1 1 _ rfl rfl (by omega) (show (1 : Nat) < 18446744073709551616 by decide) H3.out (by rw [flen_app]; have := hl.out; show len + (flen fs + (1 + 0)) ≤ _; omega)).mono ?_
       rintro e w5 ⟨rfl, h5⟩
       have H5 := Lib.hid h5
       clear h5 H3
       go_wp2_with fail
       refine (rput_wrote w g row N len 5 _ ah _ 5 _ rfl rfl (by omega) (show ah < 18446744073709551616 by omega) H5.out (by rw [flen_app, flen_app]; have := hl.out; show len + (flen fs + (1 + 0) + (1 + 0)) ≤ _; omega)).mono ?_
       rintro e w6 ⟨rfl, h6⟩
       have H6 := Lib.hid h6
       clear h6 H5
       go_wp2_with fail
       refine (rput_wrote w g row N len 6 _ m _ 6 _ rfl rfl (by omega) (show m < 18446744073709551616 by omega) H6.out (by rw [flen_app, flen_app, flen_app]; have := hl.out; show len + (flen fs + (1 + 0) + (1 + 0) + (5 + 0)) ≤ _; omega)).mono ?_
       rintro e w7 ⟨rfl, h7⟩
       have H7 := Lib.hid h7
       clear h7 H6
       go_wp2_with fail
       refine (rput_wrote w g row N len s _ y _ _ _ rfl rfl hs64 hyl.out H7.out (by rw [flen_app, flen_app, flen_app, flen_app]; have := hl.out; show len + (flen fs + (1 + 0) + (1 + 0) + (5 + 0) + (6 + 0)) ≤ _; omega)).mono ?_
       rintro e w8 ⟨rfl, h8⟩
       have H8 : Hid (XREnc w w8 g row N len zs (i + 1) (some (ah, be))) := Lib.hid (by
        have h := hnx.out w8 (by rw [Hfe.out]; simpa using h8)
        rwa [Hwe.out] at h)
       clear h8 H7 hs1 hm1 hy1 hbw haw hmw
       go_wp2_with fail
       go_roundg (gk - 1)
       case measure => have := Hil.out; omega
       case rel => exact ⟨i + 1, some (ah, be), by have := Hil.out; omega, by go_num, rfl, rfl, rfl, H8.out⟩
  ·go_wp2_with fail
   go_end0
   refine ⟨rfl, ?_⟩
   obtain ⟨fs, hwr, hok, he0, he1⟩ := HE.out
   have hil := Hil.out
   have hzl := Hzl.out
   rcases Nat.eq_zero_or_pos i with h0 | h0
   ·obtain ⟨rfl, _⟩ := he0 h0
    have : zs = [] := List.eq_nil_of_length_eq_zero (by omega)
    subst this
    exact hwr
   ·obtain ⟨prev, _, this⟩ := he1 h0
    rw [List.drop_of_length_le (by omega)] at this
    have e : fs = encVals zs := by rw [← this]; show fs = fs ++ []; simp
    rw [← e]
    exact hwr
end Go.Proofs.YthgoppmgapaajaaGreatDoor

/- The document's own answer: values are told by their least. -/
namespace Go.Proofs.YthgoppmgapaajaaGreatDoor
open Go.RowKit

/-- The first loop: the least and the greatest of the first i; no memory is made. -/
def FrmTo (w wr : World) (us : List Nat) (i lo hi : Nat) : Prop := loI us i = lo ∧ hiI us i = hi ∧ lo < 2 ^ 64 ∧ hi < 2 ^ 64 ∧ Mod (fun _ => False) w wr
theorem FrmTo.step {w wr w2 : World} {us : List Nat} {i lo hi x lo2 hi2 : Nat} (h : FrmTo w wr us i lo hi) (hx : us[i]? = some x) (hx64 : x < 2 ^ 64) (h1 : min lo x = lo2) (h2 : max hi x = hi2) (hm : Mod (fun _ => False) wr w2) : FrmTo w w2 us (i + 1) lo2 hi2 := by
 obtain ⟨a1, a2, a3, a4, a5⟩ := h
 refine ⟨by rw [loI_succ hx, a1, h1], by rw [hiI_succ hx, a2, h2], by omega, by omega, a5.trans hm (fun _ _ h => h)⟩
/-- The second loop: how far each is from the least. -/
def DifTo (w wr : World) (us : List Nat) (i : Nat) (v : Value) : Prop := Own w.heap.size wr 34 v (cellsU ((difV us).take i)) ∧ Mod (fun _ => False) w wr
set_option maxHeartbeats 4000000 in
set_option maxRecDepth 100000 in
theorem rpenc_any (A : Option Addr) (n cap B : Nat) (us : List Nat) (w : World) (hs : Rds w B A n (cellsU us)) (hB : B ≤ w.heap.size) (hu : ∀ x ∈ us, x < 2 ^ 64) (hn : n ≤ 1000000) :
  Calls Tryz.prog 52 #[.slice A n cap] w fun e w' => ∃ v, e = .returned v ∧ Own w.heap.size w' 5 v (cells8 (encP us)) ∧ Mod (fun _ => False) w w' := by
 have hul : us.length = n := by have := hs.1; rwa [cellsU_length] at this
 by_cases h0 : n = 0
 ·subst h0
  obtain rfl := List.eq_nil_of_length_eq_zero hul
  clear hs
  go_enter Tryz.func52, Tryz.ntmps52
  go_wp2_with fail
  go_ret
  exact ⟨_, rfl, Own.nil _ _ _, Mod.refl _ _⟩
 ·have hne : us ≠ [] := by rintro rfl; exact h0 hul.symm
  have hp : 0 < n := by omega
  have hpi : (0 : Int) < (n : Int) := by omega
  have hn0 : ((n : Int) == 0) = false := by simp; omega
  obtain ⟨ad, x0, hA, hx0, hc0⟩ := hs.at2 hp hB (Mod.refl (fun _ => False) w) (fun _ _ h => h)
  have hc0' := hc0
  rw [add_nought] at hc0'
  have hx064 := hu x0 (List.mem_of_getElem? hx0)
  have hz1 : loI us 0 = x0 := by rw [loI_zero, List.getD_eq_getElem?_getD, hx0]; rfl
  have hz2 : hiI us 0 = x0 := by rw [hiI_zero, List.getD_eq_getElem?_getD, hx0]; rfl
  have H0 : Hid (∀ k, FrmTo w (w.drewN k) us 0 x0 x0) := Lib.hid (fun k => ⟨hz1, hz2, hx064, hx064, (Mod.refl _ _).drewN k⟩)
  have Hs := Lib.hid hs; have Hu := Lib.hid hu; have HB := Lib.hid hB; have Hul := Lib.hid hul; have Hne := Lib.hid hne
  clear hs hu hB hul hne hx0 hx064 hz1 hz2
  subst hA
  go_enter Tryz.func52, Tryz.ntmps52
  go_upto_region 3 with fail
  go_quiet (fail)
  go_wp2_with fail
  clear hc0 hc0'
  go_loopg [3, 4, 5] n (fun l s3 s4 s5 wr => ∃ (i lo hi : Nat), i + l = n ∧ s5 = .int .i64 (i : Int) ∧ s3 = .int .u64 (lo : Int) ∧ s4 = .int .u64 (hi : Int) ∧ FrmTo w wr us i lo hi)
  case atStart => exact ⟨0, x0, x0, by omega, rfl, rfl, rfl, H0.out _⟩
  case round =>
   obtain ⟨i, lo, hi, hil, rfl, rfl, rfl, hF⟩ := hrel
   have HF := Lib.hid hF; have Hil := Lib.hid hil
   clear hF hil H0
   by_cases hin : i < n
   ·obtain ⟨ad', x, he, hx, hcx⟩ := Hs.out.at2 hin HB.out HF.out.2.2.2.2 (fun _ _ h => h)
    injection he with he
    subst he
    obtain ⟨lo2, hlo2⟩ : ∃ m2, min lo x = m2 := ⟨_, rfl⟩
    obtain ⟨hi2, hhi2⟩ : ∃ m2, max hi x = m2 := ⟨_, rfl⟩
    have hmin := minU_is (P := Tryz.prog) (t := 34) (ty := 34) hlo2
    have hmax := maxU_is (P := Tryz.prog) (t := 34) (ty := 34) hhi2
    have HS : Hid (∀ k, FrmTo w (wr.drewN k) us (i + 1) lo2 hi2) := Lib.hid (fun k => HF.out.step hx (Hu.out x (List.mem_of_getElem? hx)) hlo2 hhi2 ((Mod.refl _ _).drewN k))
    have hi1 : (0 : Int) ≤ (i : Int) := by omega
    clear hx hlo2 hhi2
    go_upto_region 7 with fail
    go_quiet (fail)
    go_wp2_with fail
    go_roundg (gk - 1)
    case measure => have := Hil.out; omega
    case rel => exact ⟨i + 1, lo2, hi2, by have := Hil.out; omega, by go_num, rfl, rfl, HS.out _⟩
   ·have hin2 : i = n := by have := Hil.out; omega
    obtain ⟨hlo, hhi, hlo64, hhi64, hm⟩ := HF.out
    rw [loI_all (by have := Hul.out; omega)] at hlo
    rw [hiI_all (by have := Hul.out; omega)] at hhi
    have hLH : lo ≤ hi := by rw [← hlo, ← hhi]; exact Nat.le_trans (loV_le (getD_mem Hne.out)) (hiV_ge (getD_mem Hne.out))
    obtain ⟨d, hd⟩ : ∃ d, d = hi - lo := ⟨_, rfl⟩
    have hdw : IntKind.u64.wrap ((hi : Int) - (lo : Int)) = (d : Int) := by rw [IntKind.wrap_u64]; omega
    obtain ⟨S, hS⟩ : ∃ S, wid d = S := ⟨_, rfl⟩
    have hS64 : S ≤ 64 := by rw [← hS]; exact wid_le d
    have HS : Hid (widV us = S) := Lib.hid (by unfold widV; rw [hlo, hhi, ← hd]; exact hS)
    have hd64 : Lt64 d := by unfold Lt64; omega
    have hL64' : Lt64 lo := by unfold Lt64; omega
    have hcS : IntKind.u8.wrap (S : Int) = (S : Int) := by rw [IntKind.wrap_u8']; omega
    have hcS' : (S : Int) % 256 = (S : Int) := by omega
    have D0 : Hid (DifTo w wr us 0 (.slice none 0 0)) := Lib.hid ⟨Own.nil _ _ _, hm⟩
    have Hdl : Hid ((difV us).length = n) := Lib.hid (by rw [difV_len]; exact Hul.out)
    have HL := Lib.hid hlo; have Hd64 := Lib.hid hd64; have HL64 := Lib.hid hL64'; have HSd := Lib.hid hS
    clear hlo hhi hlo64 hhi64 hm hLH hd hS hd64 hL64' HF hin2
    go_wp2_with fail
    go_loopg [6, 7] n (fun l s6 s7 wq => ∃ i : Nat, i + l = n ∧ s7 = .int .i64 (i : Int) ∧ DifTo w wq us i s6)
    case atStart => exact ⟨0, by omega, rfl, D0.out⟩
    case round =>
     obtain ⟨j, hjl, rfl, hown, hm⟩ := hrel
     have Hown := Lib.hid hown; have Hm := Lib.hid hm; have Hjl := Lib.hid hjl
     clear hown hm hjl D0
     by_cases hjn : j < n
     ·obtain ⟨ad', x, he, hx, hcx⟩ := Hs.out.at2 hjn HB.out Hm.out (fun _ _ h => h)
      injection he with he
      subst he
      have hxl := Hu.out x (List.mem_of_getElem? hx)
      have hLx : lo ≤ x := by rw [← HL.out]; exact loV_le (List.mem_of_getElem? hx)
      obtain ⟨y, hy⟩ : ∃ y, y = x - lo := ⟨_, rfl⟩
      have hyw : IntKind.u64.wrap ((x : Int) - (lo : Int)) = (y : Int) := by rw [IntKind.wrap_u64]; omega
      have Hy : Hid ((difV us).take (j + 1) = (difV us).take j ++ [y]) := Lib.hid (by rw [hy]; exact take_succ_of (difV_at hx HL.out))
      have hj1 : (0 : Int) ≤ (j : Int) := by omega
      have htl : ((difV us).take j).length ≤ 1000000 := by rw [List.length_take]; omega
      have hr1 : (cellsU ((difV us).take j)).length + 1 ≤ maxLen := by rw [cellsU_length]; unfold maxLen; omega
      have hr2 : ((cellsU ((difV us).take j)).length + 1) * 8 ≤ 140737488355328 := by rw [cellsU_length]; omega
      have Hr1 := Lib.hid hr1; have Hr2 := Lib.hid hr2
      have hsz := Hm.out.size
      clear hxl hLx hx hy htl hr1 hr2
      go_wp2_with (at_builtin; refine wpList_app1 rfl (.tmp 41) (.tmp 48) _ rfl eltU rfl Hown.out rfl rfl rfl Hr1.out Hr2.out hsz ?_; intro v' w3 HO HBl)
      have HD : Hid (DifTo w w3 us (j + 1) v') := Lib.hid ⟨by rw [Hy.out, cellsU_snoc]; exact HO.out, Hm.out.trans (Mod.of_below HBl.out) (fun i hi h => by omega)⟩
      clear HO HBl
      go_roundg (gk - 1)
      case measure => have := Hjl.out; omega
      case rel => exact ⟨j + 1, by have := Hjl.out; omega, by go_num, HD.out⟩
     ·have htk : (difV us).take j = difV us := List.take_of_length_le (by have := Hjl.out; have := Hdl.out; omega)
      have hol := Hown.out
      rw [htk] at hol
      have Hol := Lib.hid hol
      clear hol htk Hown
      go_wp2_with fail
      refine (vrput_any none 0 0 0 [] lo wr (Rds.nil _ _ _) (by omega) HL64.out).mono ?_
      rintro e w2 ⟨v2, rfl, ho2, hb2⟩
      rw [List.nil_append] at ho2
      have Ho2 := Lib.hid ho2; have Hm2 := Lib.hid (Hm.out.trans (mod_below hb2) (fun _ _ h => h)); have Hol2 := Lib.hid (Hol.out.below hb2)
      have hq := enc_len10 HL64.out.out
      have hR : Room (cells8 (enc lo)).length 1 := Room.mk _ _ (by rw [cells8_length]; omega)
      have HR := Lib.hid hR
      have hsz : wr.heap.size ≤ w2.heap.size := hb2.size
      have hmsz := Hm.out.size
      have hbb := hb2
      clear ho2 hb2 hR
      go_wp2_with fail
      refine (rwidth_any d S w2 Hd64.out HSd.out).mono ?_
      rintro e w2' ⟨rfl, rfl⟩
      have Hb2 := Lib.hid hbb
      go_wp2_with (at_builtin; refine wpList_app1 rfl (.tmp 51) (.tmp 57) _ rfl elt8 rfl Ho2.out rfl rfl rfl HR.out.1 HR.out.2 hsz ?_; intro v3 w3 H1 H2)
      have hbel : Below wr.heap.size wr w3 := Hb2.out.trans H2.out
      have ho3 : Own wr.heap.size w3 5 v3 (cells8 (enc lo ++ [S])) := by rw [cells8_snoc]; exact H1.out
      have hol3 : Own w.heap.size w3 34 u6 (cellsU (difV us)) := (Mod.of_below hbel).owns Hol.out (fun k hk h => by have := (Hol.out.block k hk).2; omega)
      obtain ⟨A3, n3, c3, rfl, Hn3, _, _, hr3⟩ := own_formN8 ho3
      obtain ⟨A6, n6, c6, rfl, Hn6, _, hr6⟩ := own_formUN hol3
      have hn3 : n3 ≤ 1000000 := by rw [← Hn3.out, List.length_append, List.length_singleton]; omega
      have hn6 : n6 ≤ 1000000 := by rw [← Hn6.out, Hdl.out]; exact hn
      have Hr3 := Lib.hid hr3; have Hr6 := Lib.hid hr6; have Hm3 := Lib.hid (Hm.out.trans (mod_below hbel) (fun _ _ h => h))
      clear hbel ho3 hol3 hr3 hr6 H1 H2 Hb2 hbb Ho2 Hol2 Hm2
      go_wp2_with fail
      refine (rwidth_any d S w3 Hd64.out HSd.out).mono ?_
      rintro e w4 ⟨rfl, rfl⟩
      go_wp2_with fail
      refine (rpack_any A3 A6 n3 c3 n6 c6 w3.heap.size S _ _ w3 Hr3.out Hr6.out (Nat.le_refl _) (fun x hx => by
       obtain ⟨y, hy, rfl⟩ := List.mem_map.1 hx
       have := Hu.out y hy
       omega) hS64 hn3 hn6).mono ?_
      rintro e w4 ⟨v4, rfl, ho4, hm4⟩
      have Ho4 := Lib.hid ho4; have Hm4 := Lib.hid (Hm3.out.trans hm4 (fun _ _ h => h)); have hsz4 := Hm3.out.size
      clear ho4 hm4
      go_wp2_with fail
      go_ret
      have e : encP us = enc lo ++ (S :: packW S (difV us)) := by rw [encP_cons Hne.out, HL.out, HS.out]
      rw [e]
      have ho4 := Ho4.out
      rw [List.append_assoc] at ho4
      exact ⟨_, rfl, ho4.mono hsz4, Hm4.out⟩
end Go.Proofs.YthgoppmgapaajaaGreatDoor

/- The document's own answer: a value's place, and values told by a list. -/
namespace Go.Proofs.YthgoppmgapaajaaGreatDoor
open Go.RowKit Go.Maps

/-- What place tells. -/
def plcI (x : Nat) (l : List Nat) : Int := if x ∈ l then (plc x l : Int) else -1
theorem plcI_in {x : Nat} {l : List Nat} (h : x ∈ l) : plcI x l = (plc x l : Int) := if_pos h
theorem plcI_out {x : Nat} {l : List Nat} (h : x ∉ l) : plcI x l = -1 := if_neg h
set_option maxHeartbeats 1000000 in
set_option maxRecDepth 100000 in
theorem place_any (A : Option Addr) (n c B x : Nat) (l : List Nat) (w : World) (hs : Rds w B A n (cellsU l)) (hB : B ≤ w.heap.size) (hn : n ≤ 1000000) :
  Calls Tryz.prog 75 #[.slice A n c, .int .u64 (x : Int)] w fun e w' => e = .returned (.int .i64 (plcI x l)) ∧ w = w' := by
 have hul : l.length = n := by have := hs.1; rwa [cellsU_length] at this
 have Hs := Lib.hid hs; have HB := Lib.hid hB; have Hul := Lib.hid hul
 clear hs hB hul
 go_enter Tryz.func75, Tryz.ntmps75
 go_wp2_with fail
 go_loopg [5] n (fun l' s5 wr => ∃ i : Nat, i + l' = n ∧ s5 = .int .i64 (i : Int) ∧ (∀ j, j < i → l[j]? ≠ some x) ∧ w = wr)
 case atStart => exact ⟨0, by omega, rfl, (fun _ h => absurd h (Nat.not_lt_zero _)), rfl⟩
 case round =>
  obtain ⟨i, hil, rfl, hno, rfl⟩ := hrel
  have Hil := Lib.hid hil; have Hno := Lib.hid hno
  clear hil hno
  by_cases hin : i < n
  ·obtain ⟨ad, y, rfl, hy, hcy⟩ := Hs.out.at2 hin HB.out (Mod.refl (fun _ => False) w) (fun _ _ h => h)
   have hi0 : (0 : Int) ≤ (i : Int) := by omega
   by_cases hyx : y = x
   ·subst hyx
    have Hp : Hid (plcI y l = (i : Int)) := Lib.hid (by rw [plcI_in (List.mem_of_getElem? hy), plc_is hy Hno.out])
    clear hy
    go_wp2_with fail
    go_ret
    rw [Hp.out]
    exact ⟨rfl, rfl⟩
   ·have hyb : ((y : Int) == (x : Int)) = false := by simp; omega
    have Hno2 : Hid (∀ j, j < i + 1 → l[j]? ≠ some x) := Lib.hid (fun j hj e => by
     rcases Nat.lt_or_ge j i with h | h
     ·exact Hno.out j h e
     ·obtain rfl : j = i := by omega
      rw [hy] at e
      injection e with e
      exact hyx e)
    clear hy hyx
    go_wp2_with fail
    go_roundg (gk - 1)
    case measure => have := Hil.out; omega
    case rel => exact ⟨i + 1, by have := Hil.out; omega, by go_num, Hno2.out, rfl⟩
  ·have hi : i = n := by have := Hil.out; omega
   have Hp : Hid (plcI x l = -1) := Lib.hid (plcI_out (fun h => by
    obtain ⟨j, hj⟩ := List.mem_iff_getElem?.1 h
    have := (List.getElem?_eq_some_iff.1 hj).1
    exact Hno.out j (by rw [hi, ← Hul.out]; exact this) hj))
   go_wp2_with fail
   go_ret
   rw [Hp.out]
   exact ⟨rfl, rfl⟩
theorem uniq_keep {v : List Nat} {x : Nat} : ∃ t, uniq (v ++ [x]) = uniq v ++ t := uniq_app v [x]
/-- A value more: each has its place as it had. -/
theorem atD_step (v : List Nat) (x : Nat) : atD (v ++ [x]) = atD v ++ [plc x (uniq (v ++ [x]))] := by
 obtain ⟨t, ht⟩ := uniq_keep (v := v) (x := x)
 unfold atD
 rw [List.map_append]
 congr 1
 apply List.map_congr_left
 intro y hy
 rw [ht, plc_app (uniq_mem hy)]
/-- What Dict has made of i values. -/
def RDTo (w wr : World) (us : List Nat) (i : Nat) (v u : Value) : Prop :=
 Own w.heap.size wr 34 v (cellsU (uniq (us.take i))) ∧ Own w.heap.size wr 34 u (cellsU (atD (us.take i))) ∧ Twain v u ∧ (uniq (us.take i)).length ≤ 256 ∧ Mod (fun _ => False) w wr
set_option maxHeartbeats 4000000 in
set_option maxRecDepth 100000 in
theorem rdenc_any (A : Option Addr) (n cap B : Nat) (us : List Nat) (w : World) (hs : Rds w B A n (cellsU us)) (hB : B ≤ w.heap.size) (hu : ∀ x ∈ us, x < 2 ^ 64) (hn : n ≤ 1000000) :
  Calls Tryz.prog 53 #[.slice A n cap] w fun e w' => EncB w w' (encD us) e := by
 have hul : us.length = n := by have := hs.1; rwa [cellsU_length] at this
 have R0 : Hid (RDTo w w us 0 (.slice none 0 0) (.slice none 0 0)) := Lib.hid ⟨Own.nil _ _ _, Own.nil _ _ _, (fun _ h => by cases h), Nat.zero_le _, Mod.refl _ _⟩
 have Hs := Lib.hid hs; have Hu := Lib.hid hu; have HB := Lib.hid hB; have Hul := Lib.hid hul
 clear hs hu hB hul
 go_enter Tryz.func53, Tryz.ntmps53
 go_wp2_with fail
 go_loopg [4, 5, 6] n (fun l s4 s5 s6 wr => ∃ i : Nat, i + l = n ∧ s6 = .int .i64 (i : Int) ∧ RDTo w wr us i s4 s5)
 case atStart => exact ⟨0, by omega, rfl, R0.out⟩
 case round =>
  obtain ⟨i, hil, rfl, hown4, hown5, htw, hlen, hm⟩ := hrel
  obtain ⟨A4, L, c4, rfl, HL, _, hr4⟩ := own_formUN hown4
  have H4 := Lib.hid hown4; have H5 := Lib.hid hown5; have Htw := Lib.hid htw; have Hm := Lib.hid hm; have Hil := Lib.hid hil; have Hr4 := Lib.hid hr4
  have hL256 : L ≤ 256 := by have := HL.out; omega
  clear hown4 hown5 htw hm hil hr4 R0 hlen
  by_cases hin : i < n
  ·obtain ⟨ad, x, rfl, hx, hcx⟩ := Hs.out.at2 hin HB.out Hm.out (fun _ _ h => h)
   have Hcell : Hid (∀ W, Mod (fun _ => False) w W → W.cell? (ad.add i) = some (.int .u64 (x : Int))) := Lib.hid (fun W hW => by
    obtain ⟨ad', x', e, hx', hc⟩ := Hs.out.at2 hin HB.out hW (fun _ _ h => h)
    injection e with e
    subst e
    rw [hx] at hx'
    injection hx' with hx'
    subst hx'
    exact hc)
   have Htk := Lib.hid (take_succ_of hx)
   have Hat : Hid (atD (us.take (i + 1)) = atD (us.take i) ++ [plc x (uniq (us.take (i + 1)))]) := Lib.hid (by rw [Htk.out, atD_step])
   have hi0 : (0 : Int) ≤ (i : Int) := by omega
   have hini : (i : Int) < (n : Int) := by omega
   have hatl : (atD (us.take i)).length ≤ 1000000 := by rw [atD_len, List.length_take]; omega
   have hr3 : (cellsU (atD (us.take i))).length + 1 ≤ maxLen := by rw [cellsU_length]; unfold maxLen; omega
   have hr4 : ((cellsU (atD (us.take i))).length + 1) * 8 ≤ 140737488355328 := by rw [cellsU_length]; omega
   have Hr3 := Lib.hid hr3; have Hr34 := Lib.hid hr4
   clear hx hatl hr3 hr4
   by_cases hin2 : x ∈ uniq (us.take i)
   ·have Hq : Hid (uniq (us.take (i + 1)) = uniq (us.take i)) := Lib.hid (by rw [Htk.out, uniq_snoc, if_pos hin2])
    obtain ⟨p, hp⟩ : ∃ p, plc x (uniq (us.take i)) = p := ⟨_, rfl⟩
    have hp256 : p < 256 := by have h := plc_lt hin2; have := HL.out; omega
    have Hpl : Hid (plcI x (uniq (us.take i)) = (p : Int)) := Lib.hid (by rw [plcI_in hin2, hp])
    have Hp2 : Hid (plc x (uniq (us.take (i + 1))) = p) := Lib.hid (by rw [Hq.out]; exact hp)
    have Hplace := Lib.hid (place_any A4 L c4 _ x (uniq (us.take i)) wr Hr4.out (Nat.le_refl _) (by omega))
    have hp0 : ¬ (p : Int) < 0 := by omega
    have hsz := Hm.out.size
    have hLb : ¬ (256 : Int) < (L : Int) := by omega
    clear hin2 hp
    go_wp2_with fail
    refine Hplace.out.mono ?_
    rintro e w1 ⟨rfl, rfl⟩
    rw [Hpl.out]
    go_wp2_with fail
    refine Hplace.out.mono ?_
    rintro e w1 ⟨rfl, rfl⟩
    rw [Hpl.out]
    go_wp2_with (at_builtin; refine wpList_app1g rfl (.tmp 29) (.tmp 37) _ rfl eltU rfl H5.out rfl rfl rfl Hr3.out Hr34.out hsz ?_; intro v5 w5 HO5 HB5 HG5)
    have HR : Hid (RDTo w w5 us (i + 1) (.slice A4 L c4) v5) := Lib.hid ⟨by rw [Hq.out]; exact HG5.out.1.owns H4.out (fun k hk e => Htw.out k hk e), by rw [Hat.out, cellsU_snoc, Hp2.out]; exact HO5.out, (Htw.out.symm.step H4.out HG5.out.2).symm, by rw [Hq.out, HL.out]; exact hL256, Hm.out.trans (Mod.of_below HB5.out) (fun i hi h => by omega)⟩
    clear HO5 HB5 HG5
    go_roundg (gk - 1)
    case measure => have := Hil.out; omega
    case rel => exact ⟨i + 1, by have := Hil.out; omega, by go_num, HR.out⟩
   ·have Hq : Hid (uniq (us.take (i + 1)) = uniq (us.take i) ++ [x]) := Lib.hid (by rw [Htk.out, uniq_snoc, if_neg hin2])
    have hxm : x ∈ uniq (us.take (i + 1)) := by rw [Hq.out]; simp
    have Hp2 : Hid (plc x (uniq (us.take (i + 1))) = L) := Lib.hid (by
     rw [Hq.out]
     refine plc_is (by rw [List.getElem?_append_right (by rw [HL.out]; exact Nat.le_refl _), HL.out, Nat.sub_self]; rfl) fun j hj => ?_
     rw [List.getElem?_append_left (by rw [HL.out]; exact hj)]
     exact fun e => hin2 (List.mem_of_getElem? e))
    have Hpl : Hid (plcI x (uniq (us.take i)) = -1) := Lib.hid (plcI_out hin2)
    have Hpl2 : Hid (plcI x (uniq (us.take (i + 1))) = (L : Int)) := Lib.hid (by rw [plcI_in hxm, Hp2.out])
    have Hplace := Lib.hid (place_any A4 L c4 _ x (uniq (us.take i)) wr Hr4.out (Nat.le_refl _) (by omega))
    have HL' : Hid (∀ L', (uniq (us.take (i + 1))).length = L' → L' = L + 1) := Lib.hid (fun L' h => by rw [Hq.out, List.length_append, HL.out] at h; exact h.symm)
    have Hmono : Hid ((uniq (us.take (i + 1))).length ≤ (uniq us).length) := Lib.hid (uniq_take_le us (i + 1))
    have hr1 : (cellsU (uniq (us.take i))).length + 1 ≤ maxLen := by rw [cellsU_length, HL.out]; unfold maxLen; omega
    have hr2 : ((cellsU (uniq (us.take i))).length + 1) * 8 ≤ 140737488355328 := by rw [cellsU_length, HL.out]; omega
    have Hr1 := Lib.hid hr1; have Hr2 := Lib.hid hr2
    have hsz := Hm.out.size
    clear hin2 hxm hr1 hr2
    go_wp2_with fail
    refine Hplace.out.mono ?_
    rintro e w1 ⟨rfl, rfl⟩
    rw [Hpl.out]
    go_wp2_with (at_builtin; refine wpList_app1g rfl (.tmp 22) (.tmp 27) _ rfl eltU rfl H4.out rfl rfl rfl Hr1.out Hr2.out hsz ?_; intro v4 w4 HO4 HB4 HG4; have Hm4 := Lib.hid (Hm.out.trans (Mod.of_below HB4.out) (fun i hi h => by omega)); have H5a : Hid (Own w.heap.size w4 34 u5 (cellsU (atD (us.take i)))) := Lib.hid (HG4.out.1.owns H5.out (fun k hk e => Htw.out.symm k hk e)); have Htw4 := Lib.hid (Htw.out.step H5.out HG4.out.2); have H4' : Hid (Own w.heap.size w4 34 v4 (cellsU (uniq (us.take (i + 1))))) := Lib.hid (by rw [Hq.out, cellsU_snoc]; exact HO4.out); clear HO4 HB4 HG4; obtain ⟨A6, L6, c6, rfl, HL6, _, hr6⟩ := own_formUN H4'.out; obtain rfl := HL'.out L6 HL6.out; have Hplace4 := Lib.hid (place_any A6 (L + 1) c6 _ x (uniq (us.take (i + 1))) w4 hr6 (Nat.le_refl _) (by omega)); clear hr6; have hcx4 := Hcell.out _ Hm4.out; have hsz4 : w.heap.size ≤ w4.heap.size := Hm4.out.size)
    refine Hplace4.out.mono ?_
    rintro e w1 ⟨rfl, rfl⟩
    rw [Hpl2.out]
    go_wp2_with (at_builtin; refine wpList_app1g rfl (.tmp 29) (.tmp 37) _ rfl eltU rfl H5a.out rfl rfl rfl Hr3.out Hr34.out hsz4 ?_; intro v5 w5 HO5 HB5 HG5)
    ·have Hd : Hid (encD us = none) := Lib.hid (encD_many (by have := Hmono.out; have := HL6.out; omega))
     have Hm5 := Lib.hid (Hm4.out.trans (Mod.of_below HB5.out) (fun i hi h => by omega))
     go_ret2
     rw [Hd.out]
     exact ⟨rfl, Hm5.out⟩
    ·have HR : Hid (RDTo w w5 us (i + 1) (.slice A6 (L + 1) c6) v5) := Lib.hid ⟨HG5.out.1.owns H4'.out (fun k hk e => Htw4.out k hk e), by rw [Hat.out, cellsU_snoc, Hp2.out]; exact HO5.out, (Htw4.out.symm.step H4'.out HG5.out.2).symm, by rw [HL6.out]; omega, Hm4.out.trans (Mod.of_below HB5.out) (fun i hi h => by omega)⟩
     clear HO5 HB5 HG5
     go_roundg (gk - 1)
     case measure => have := Hil.out; omega
     case rel => exact ⟨i + 1, by have := Hil.out; omega, by go_num, HR.out⟩
  ·have hi : i = n := by have := Hil.out; omega
   obtain ⟨A5, m5, c5, rfl, HL5, _, hr5⟩ := own_formUN H5.out
   have htk : us.take i = us := List.take_of_length_le (by rw [Hul.out]; omega)
   rw [htk] at HL HL5 hr5
   have hr4 := Hr4.out
   rw [htk] at hr4
   obtain rfl : m5 = n := by have := HL5.out; rw [atD_len, Hul.out] at this; exact this.symm
   have Hr5 := Lib.hid hr5; have Hr4' := Lib.hid hr4
   clear hr5 hr4 htk H4 H5 Htw Hr4 hin
   by_cases h0 : m5 = 0
   ·have hn0 : ((m5 : Int) == 0) = true := by simp; omega
    have Hd : Hid (encD us = some []) := Lib.hid (by
     have e : us = [] := List.eq_nil_of_length_eq_zero (by rw [Hul.out]; exact h0)
     rw [e]
     exact encD_nil)
    clear h0
    go_wp2_with fail
    go_ret2
    rw [Hd.out]
    exact ⟨_, rfl, Own.nil _ _ _, Hm.out⟩
   ·have hn0 : ((m5 : Int) == 0) = false := by simp; omega
    have Hne : Hid (us ≠ []) := Lib.hid (by rintro rfl; exact h0 Hul.out.symm)
    have hL0 : ¬ L = 0 := by have h := uniq_pos Hne.out; have := HL.out; omega
    have hL64 : Hid (Lt64 L) := Lib.hid (by unfold Lt64; omega)
    obtain ⟨S, hS⟩ : ∃ S, wid (L - 1) = S := ⟨_, rfl⟩
    have hS64 : S ≤ 64 := by rw [← hS]; exact wid_le _
    obtain ⟨y, hy⟩ : ∃ y, y = L - 1 := ⟨_, rfl⟩
    have hyi : (L : Int) - 1 = (y : Int) := by omega
    have hyL : y ≤ 1000000 := by omega
    have Hwid : Hid (∀ W, Calls Tryz.prog 74 #[.int .u64 (y : Int)] W fun e w' => e = .returned (.int .i64 (S : Int)) ∧ W = w') := Lib.hid (fun W => rwidth_any y S W (by unfold Lt64; omega) (by rw [hy]; exact hS))
    have HS := Lib.hid hS
    have Hu2 : Hid (∀ x ∈ uniq us, x < 2 ^ 64) := Lib.hid (fun x hx => Hu.out x (uniq_of hx))
    have Hat2 : Hid (∀ x ∈ atD us, x < 2 ^ 64) := Lib.hid (fun x hx => by
     obtain ⟨z, hz, rfl⟩ := List.mem_map.1 hx
     have := plc_lt (uniq_mem hz)
     have := HL.out
     omega)
    clear h0 hL0 hS hy
    go_wp2_with fail
    refine (vrput_any none 0 0 0 [] L wr (Rds.nil _ _ _) (by omega) hL64.out).mono ?_
    rintro e w1 ⟨v1, rfl, ho1, hb1⟩
    rw [List.nil_append] at ho1
    have P0 : Hid (ListTo wr w1 (uniq us) 0 v1) := Lib.hid ⟨by rw [HL.out, List.take_zero]; show Own _ _ _ _ (cells8 (enc L ++ [])); rw [List.append_nil]; exact ho1, mod_below hb1⟩
    clear ho1 hb1
    generalize wr = wP at *
    go_wp2_with fail
    go_loopg [7, 8] L (fun l' s7 s8 wr => ∃ j : Nat, j + l' = L ∧ s8 = .int .i64 (j : Int) ∧ ListTo wP wr (uniq us) j s7)
    case atStart => exact ⟨0, by omega, rfl, P0.out⟩
    case round =>
     obtain ⟨j, hjl, rfl, hown, hm⟩ := hrel
     have Hown := Lib.hid hown; have Hmj := Lib.hid hm; have Hjl := Lib.hid hjl
     clear hown hm hjl P0
     have hjL : j ≤ L := by have := Hjl.out; omega
     obtain ⟨A3, L3, c3, rfl, HL3, _, _, hr3⟩ := own_formN8 Hown.out
     have hL3 : L3 ≤ 100000 := by
      have h1 := enc_len10 hL64.out.out
      have h2 := encV_len (l := (uniq us).take j) (fun x hx => Hu2.out x (List.mem_of_mem_take hx))
      have h3 : ((uniq us).take j).length ≤ L := by rw [List.length_take, HL.out]; omega
      have h4 := HL3.out
      rw [HL.out, List.length_append] at h4
      omega
     have Hr3 := Lib.hid hr3
     clear hr3
     by_cases hjn : j < L
     ·obtain ⟨ad, x, rfl, hx, hcx⟩ := Hr4'.out.at2 hjn (Nat.le_refl _) Hmj.out (fun _ _ h => h)
      have Hx64 : Hid (Lt64 x) := Lib.hid (Hu2.out x (List.mem_of_getElem? hx))
      have Htk : Hid (encV ((uniq us).take (j + 1)) = encV ((uniq us).take j) ++ enc x) := Lib.hid (by rw [take_succ_of hx, encV_snoc])
      have hj0 : (0 : Int) ≤ (j : Int) := by omega
      clear hx
      go_wp2_with fail
      refine (vrput_any A3 L3 c3 _ _ x wr Hr3.out (by omega) Hx64.out).mono ?_
      rintro e w2 ⟨v2, rfl, ho2, hb2⟩
      rw [List.append_assoc, ← Htk.out] at ho2
      have HP : Hid (ListTo wP w2 (uniq us) (j + 1) v2) := Lib.hid ⟨ho2.mono Hmj.out.size, Hmj.out.trans (mod_below hb2) (fun _ _ h => h)⟩
      clear ho2 hb2
      go_wp2_with fail
      go_roundg (gk - 1)
      case measure => have := Hjl.out; omega
      case rel => exact ⟨j + 1, by have := Hjl.out; omega, by go_num, HP.out⟩
     ·have hjL2 : j = L := by have := Hjl.out; omega
      have Hr3' : Hid (Rds wr wr.heap.size A3 L3 (cells8 (enc L ++ encV (uniq us)))) := Lib.hid (by
       have h := Hr3.out
       rw [List.take_of_length_le (by rw [HL.out]; omega), HL.out] at h
       exact h)
      clear Hr3 HL3 hjn
      go_wp2_with fail
      refine (Hwid.out _).mono ?_
      rintro e w1 ⟨rfl, rfl⟩
      go_wp2_with fail
      refine (rpack_any A3 A5 L3 c3 m5 c5 _ S (enc L ++ encV (uniq us)) (atD us) wr Hr3'.out (Hr5.out.new Hmj.out).fit (Nat.le_refl _) Hat2.out hS64 (by omega) hn).mono ?_
      rintro e w2 ⟨v2, rfl, ho2, hm2⟩
      have Ho2 := Lib.hid ho2; have Hm2 := Lib.hid ((Hm.out.trans Hmj.out (fun _ _ h => h)).trans hm2 (fun _ _ h => h))
      clear ho2 hm2
      go_wp2_with fail
      go_ret2
      have ho := Ho2.out
      rw [encD_cons Hne.out (by rw [HL.out]; omega), HL.out, HS.out]
      rw [List.append_assoc] at ho
      exact ⟨_, rfl, ho.mono (Nat.le_trans Hm.out.size Hmj.out.size), Hm2.out⟩
end Go.Proofs.YthgoppmgapaajaaGreatDoor

/- Values told in a codec, as the document has it: told. -/
namespace Go.Proofs.YthgoppmgapaajaaGreatDoor
open Go.RowKit

theorem RWrote.done {w w1 w2 : World} {g : Nat} {fs : List (Nat × Nat)} (h : RWrote w1 w2 g none 0 0 fs) (hg : w.heap.size ≤ g) (hm : Mod (fun _ => False) w w1) : ∃ row, RWr w2 g row (fnum fs) (flen fs) ∧ Mod (fun _ => False) w w2 := by
 obtain ⟨row, a1, a2, _⟩ := h
 rw [Nat.zero_mul, Nat.zero_add, Nat.zero_add] at a1
 exact ⟨row, a1, hm.trans a2 (fun i hi h => h.elim (fun e => by omega) (fun e => by cases e))⟩
theorem RWr.new (w : World) : RWr (w.alloc (.cells #[.slice none 0 0] 69)) w.heap.size none 0 0 :=
 ⟨.slice none 0 0, [], Blk.new _ _ _, World.ownsRow_nil _ _ _ _, rfl, (fun _ h => by cases h), rfl, rfl⟩
theorem w8_len (x : Nat) : (w8 x).length = 8 := rfl
theorem w8_at (x : Nat) : ∀ j, j < 8 → (w8 x)[j]? = some (x / 2 ^ (8 * (7 - j)) % 256) := by
 intro j hj
 have h' : j = 0 ∨ j = 1 ∨ j = 2 ∨ j = 3 ∨ j = 4 ∨ j = 5 ∨ j = 6 ∨ j = 7 := by omega
 rcases h' with rfl | rfl | rfl | rfl | rfl | rfl | rfl | rfl
 ·rfl
 ·rfl
 ·rfl
 ·rfl
 ·rfl
 ·rfl
 ·rfl
 ·show some (x % 256) = some (x / 2 ^ (8 * 0) % 256)
  rw [Nat.mul_zero, Nat.pow_zero, Nat.div_one]
theorem words8_take {ws : List Nat} {i x : Nat} (h : ws[i]? = some x) : words8 (ws.take (i + 1)) = words8 (ws.take i) ++ w8 x := by
 rw [take_succ_of h, words8_app]
 show _ ++ (w8 x ++ []) = _
 rw [List.append_nil]
/-- The first i words and j bytes of the next. -/
def BytTo (w wr : World) (ws : List Nat) (i : Nat) (tl : List Nat) (v : Value) : Prop := Own w.heap.size wr 5 v (cells8 (words8 (ws.take i) ++ tl)) ∧ Mod (fun _ => False) w wr
set_option maxHeartbeats 4000000 in
set_option maxRecDepth 100000 in
theorem rtold_any (tag : Int) (A : Option Addr) (n cap : Nat) (us : List Nat) (w : World) (hs : Rds w w.heap.size A n (cellsU us)) (hu : ∀ x ∈ us, x < 2 ^ 64) (hn : n ≤ 1000000) (hcap : n ≤ cap) :
  Calls Tryz.prog 33 #[.int .i64 tag, .slice A n cap] w fun e w' => EncB w w' (toldK tag us) e := by
 have hul : us.length = n := by have := hs.1; rwa [cellsU_length] at this
 by_cases h1 : tag = 1
 ·subst h1
  obtain ⟨W, hW⟩ : ∃ W, W = w.alloc (.cells #[.slice none 0 0] 69) := ⟨_, rfl⟩
  have hmW : Mod (fun _ => False) w W := by rw [hW]; exact (Mod.refl _ _).alloc _
  have hrw : RWr W w.heap.size none 0 0 := by rw [hW]; exact RWr.new w
  have Hs1 := Lib.hid (hs.mod hmW (Nat.le_refl _) (fun _ _ h => h))
  have Hap : Hid (0 < n → ∀ ad, A = some ad → ¬ (ad.block = w.heap.size ∨ none = some ad.block)) := Lib.hid (fun h0 ad hA h => by
   obtain ⟨ad', hA', hb, _⟩ := hs.2 h0
   rw [hA] at hA'
   injection hA' with hA'
   subst hA'
   rcases h with h | h
   ·omega
   ·cases h)
  have Hs := Lib.hid hs; have Hu := Lib.hid hu; have Hul := Lib.hid hul; have HW := Lib.hid hW; have HmW := Lib.hid hmW; have Hrw := Lib.hid hrw
  clear hs hu hul hW hmW hrw
  go_enter Tryz.func33, Tryz.ntmps33
  go_wp2_with fail
  rw [← HW.out]
  refine (rvalues_any w.heap.size w.heap.size none 0 0 n cap A us W Hs1.out Hu.out HmW.out.size Hap.out Hrw.out (by omega)).mono ?_
  rintro e w2 ⟨rfl, h2⟩
  obtain ⟨row, hwr2, hm2⟩ := h2.done (Nat.le_refl _) HmW.out
  have hfl := encVals_len us
  rw [Hul.out] at hfl
  have Hwr2 := Lib.hid hwr2; have Hm2 := Lib.hid hm2; have Hfl := Lib.hid hfl
  clear h2 hwr2 hm2 hfl Hs1 Hrw
  go_wp2_with fail
  refine (rbytes_any w.heap.size row _ _ w2 Hwr2.out (by have := Hfl.out; omega)).mono ?_
  rintro e w3 ⟨v3, bs, rfl, hnew, hpk⟩
  obtain rfl := hpk.packF
  have Ho3 := Lib.hid (hnew.own.mono Hm2.out.size); have Hm3 := Lib.hid (Hm2.out.trans hnew.2.1 (fun _ _ h => h))
  clear hnew hpk
  go_wp2_with fail
  go_ret2
  exact EncB.of_own Ho3.out Hm3.out
 by_cases h2 : tag = 2
 ·subst h2
  have Hs := Lib.hid hs; have Hu := Lib.hid hu; have Hul := Lib.hid hul
  have Htk : Hid (toldK 2 us = (encS (stepsU 0 us)).map words8) := Lib.hid rfl
  clear hs hu hul
  go_enter Tryz.func33, Tryz.ntmps33
  go_wp2_with fail
  refine (rsteps_any A n cap us w Hs.out Hu.out hn).mono ?_
  rintro e w1 ⟨v1, rfl, ho1, hm1⟩
  obtain ⟨A1, L1, c1, rfl, HL1, hc1, hr1⟩ := own_formUN ho1
  have hL1 : L1 ≤ 1000000 := by have := HL1.out; rw [stepsU_len] at this; have := Hul.out; omega
  have Hr1 := Lib.hid hr1; have Hm1 := Lib.hid hm1; have Hst : Hid (∀ x ∈ stepsU 0 us, x < 2 ^ 64) := Lib.hid (stepsU_lt us 0)
  have Hc1 := Lib.hid hc1
  clear ho1 hm1 hr1 hc1 Hs Hu
  go_wp2_with fail
  refine (simple_any A1 L1 c1 w1.heap.size (stepsU 0 us) w1 Hr1.out (Nat.le_refl _) Hst.out hL1 Hc1.out).mono ?_
  intro e w2 he
  have he' : EncE w1 w2 (encS (stepsU 0 us)) e := he
  clear he
  cases ho : encS (stepsU 0 us) with
  | none =>
   obtain ⟨rfl, hm2⟩ := EncE.none_ he' ho
   have Hno : Hid (toldK 2 us = none) := Lib.hid (by rw [Htk.out, ho]; rfl)
   have Hm2 := Lib.hid (Hm1.out.trans hm2 (fun _ _ h => h))
   clear he' ho hm2
   go_wp2_with fail
   go_loopg [9, 10] 0 (fun k s9 s10 wr => s9 = .slice none 0 0 ∧ s10 = .int .i64 0 ∧ wr = w2)
   case atStart => exact ⟨rfl, rfl, rfl⟩
   case round =>
    obtain ⟨rfl, rfl, rfl⟩ := hrel
    go_wp2_with fail
    go_ret2
    rw [Hno.out]
    exact ⟨rfl, Hm2.out⟩
  | some ws =>
   obtain ⟨v2, rfl, how, hm2⟩ := EncE.some_ he' ho
   obtain ⟨hwl, hw64⟩ := encS_len _ _ _ rfl ho
   obtain ⟨A2, L2, c2, rfl, HL2, hc2, hr2⟩ := own_formUN how
   have hL2 : L2 ≤ 1000000 := by have := HL2.out; have := HL1.out; omega
   have Hyes : Hid (toldK 2 us = some (words8 ws)) := Lib.hid (by rw [Htk.out, ho]; rfl)
   have Hm2 := Lib.hid (Hm1.out.trans hm2 (fun _ _ h => h)); have Hr2 := Lib.hid hr2; have Hw64 := Lib.hid hw64
   have B0 : Hid (BytTo w2 w2 ws 0 [] (.slice none 0 0)) := Lib.hid ⟨Own.nil _ _ _, Mod.refl _ _⟩
   clear he' ho how hm2 hwl hw64 hr2 hc2 Hm1 Hr1 Hst Hc1 Htk
   go_wp2_with fail
   go_loopg [9, 10] L2 (fun k s9 s10 wr => ∃ i : Nat, i + k = L2 ∧ s10 = .int .i64 (i : Int) ∧ BytTo w2 wr ws i [] s9)
   case atStart => exact ⟨0, by omega, rfl, B0.out⟩
   case round =>
    obtain ⟨i, hik, rfl, hB⟩ := hrel
    have Hik := Lib.hid hik; have HB := Lib.hid hB
    clear hik hB B0
    by_cases hin : i < L2
    ·obtain ⟨ad, x, rfl, hx, hcx⟩ := Hr2.out.at2 hin (Nat.le_refl _) HB.out.2 (fun _ _ h => h)
     have hx64 := Hw64.out x (List.mem_of_getElem? hx)
     have hini : (i : Int) < (L2 : Int) := by omega
     have Hx := Lib.hid hx; have Hx64 := Lib.hid hx64
     obtain ⟨k1, hk1⟩ : ∃ k1 : Nat, k1 = gk - 1 := ⟨_, rfl⟩
     have Hk1 : Hid (i + 1 + k1 = L2 ∧ k1 < gk) := Lib.hid (by have := Hik.out; omega)
     clear hk1
     have Hcx : Hid (∀ w', Mod (fun _ => False) w2 w' → w'.cell? (ad.add i) = some (.int .u64 (x : Int))) := Lib.hid (fun w' hm' => by
      obtain ⟨ad', x', hA, hx', hc'⟩ := Hr2.out.at2 hin (Nat.le_refl _) hm' (fun _ _ h => h)
      injection hA with hA
      subst hA
      rw [hx] at hx'
      injection hx' with hx'
      subst hx'
      exact hc')
     have C0 : Hid (BytTo w2 wr ws i ((w8 x).take 0) u9) := Lib.hid HB.out
     clear hx hx64 hcx
     go_wp2_with fail
     go_loopg [9, 11] 8 (fun k s9 s11 wq => ∃ (j : Nat) (kk : Int), j + k = 8 ∧ kk = 7 - (j : Int) ∧ s11 = .int .i64 kk ∧ BytTo w2 wq ws i ((w8 x).take j) s9)
     case atStart => exact ⟨0, 7, by omega, rfl, rfl, C0.out⟩
     case round =>
      obtain ⟨j, kk, hjk, hkk, rfl, hC⟩ := hrel
      have Hjk := Lib.hid hjk; have HC := Lib.hid hC; have Hkk := Lib.hid hkk
      clear hjk hC C0 hkk
      by_cases hj8 : j < 8
      ·have hcxq := Hcx.out wr HC.out.2
       obtain ⟨m, hm⟩ : ∃ m : Nat, m = 7 - j := ⟨_, rfl⟩
       obtain rfl : kk = (m : Int) := by have := Hkk.out; omega
       obtain ⟨q, hq⟩ : ∃ q : Nat, q = 8 * m := ⟨_, rfl⟩
       have hq56 : q ≤ 56 := by omega
       have hqi : 8 * (m : Int) = (q : Int) := by omega
       have hm0 : (0 : Int) ≤ (m : Int) := by omega
       obtain ⟨b, hb⟩ : ∃ b : Nat, b = x / 2 ^ q % 256 := ⟨_, rfl⟩
       have hbi : (x : Int) / 2 ^ q % 256 = (b : Int) := by rw [hb]; simp
       have Hb : Hid ((w8 x)[j]? = some b) := Lib.hid (by rw [w8_at x j hj8, hb, hq, hm])
       have hlen : (cells8 (words8 (ws.take i) ++ (w8 x).take j)).length ≤ 8000008 := by
        rw [cells8_length, List.length_append, words8_len, List.length_take, List.length_take, w8_len]
        omega
       have HR : Hid (Room (cells8 (words8 (ws.take i) ++ (w8 x).take j)).length 1) := Lib.hid (Room.mk _ _ (by omega))
       have hsz := HC.out.2.size
       have hmj : Hid (m = 7 - j) := Lib.hid hm
       clear hb hlen hq hm
       go_wp2_with (at_builtin; refine wpList_app1 rfl (.tmp 41) (.tmp 51) _ rfl elt8 rfl HC.out.1 rfl rfl rfl HR.out.1 HR.out.2 hsz ?_; intro v4 w4 HO4 HB4)
       have HC2 : Hid (BytTo w2 w4 ws i ((w8 x).take (j + 1)) v4) := Lib.hid ⟨by
        have e : words8 (ws.take i) ++ (w8 x).take (j + 1) = (words8 (ws.take i) ++ (w8 x).take j) ++ [b] := by
         rw [take_succ_of Hb.out, List.append_assoc]
        rw [e, cells8_snoc]
        exact HO4.out, HC.out.2.trans (Mod.of_below HB4.out) (fun i hi h => by omega)⟩
       go_roundg (gk - 1)
       case measure => have := Hjk.out; omega
       case rel => exact ⟨j + 1, (m : Int) - 1, by have := Hjk.out; omega, by have := hmj.out; omega, by go_num, HC2.out⟩
      ·have hk0 : ¬ (0 : Int) ≤ kk := by have := Hkk.out; omega
       have HB2 : Hid (BytTo w2 wr ws (i + 1) [] u9) := Lib.hid (by
        have h := HC.out
        rw [show (w8 x).take j = w8 x from List.take_of_length_le (by rw [w8_len]; omega)] at h
        unfold BytTo at h ⊢
        rw [List.append_nil, words8_take Hx.out]
        exact h)
       clear HC Hcx
       go_wp2_with fail
       go_roundg k1
       case measure => exact Hk1.out.2
       case rel => exact ⟨i + 1, Hk1.out.1, by go_num, HB2.out⟩
    ·have hi : i = L2 := by have := Hik.out; omega
     obtain ⟨k1, k2⟩ := HB.out
     rw [List.append_nil, List.take_of_length_le (by rw [HL2.out]; omega)] at k1
     have Ho := Lib.hid (k1.mono Hm2.out.size); have Hm := Lib.hid (Hm2.out.trans k2 (fun _ _ h => h))
     clear hi k1 k2
     go_wp2_with fail
     go_ret2
     exact EncB.of_some Hyes.out Ho.out Hm.out
 by_cases h3 : tag = 3
 ·subst h3
  have hcall := lrenc_any A n cap w.heap.size us w hs (Nat.le_refl _) hu hn
  have Hcall := Lib.hid hcall
  clear hs hu hcall
  go_enter Tryz.func33, Tryz.ntmps33
  go_wp2_with fail
  refine Hcall.out.mono ?_
  rintro e w1 ⟨v, rfl, ho, hm⟩
  have Ho := Lib.hid ho; have Hm := Lib.hid hm
  clear ho hm
  go_wp2_with fail
  go_ret2
  exact EncB.of_own Ho.out Hm.out
 by_cases h4 : tag = 4
 ·subst h4
  have hcall := rpenc_any A n cap w.heap.size us w hs (Nat.le_refl _) hu hn
  have Hcall := Lib.hid hcall
  clear hs hu hcall
  go_enter Tryz.func33, Tryz.ntmps33
  go_wp2_with fail
  refine Hcall.out.mono ?_
  rintro e w1 ⟨v, rfl, ho, hm⟩
  have Ho := Lib.hid ho; have Hm := Lib.hid hm
  clear ho hm
  go_wp2_with fail
  go_ret2
  exact EncB.of_own Ho.out Hm.out
 by_cases h5 : tag = 5
 ·subst h5
  have hcall := rdenc_any A n cap w.heap.size us w hs (Nat.le_refl _) hu hn
  have Hcall := Lib.hid hcall
  clear hs hu hcall
  go_enter Tryz.func33, Tryz.ntmps33
  go_wp2_with fail
  refine Hcall.out.mono ?_
  intro e w1 he
  obtain ⟨v, rfl, he⟩ := he.parts
  have He := Lib.hid he
  clear he
  go_wp2_with fail
  go_ret2
  exact He.out
 by_cases h6 : tag = 6
 ·subst h6
  have Htk : Hid (toldK 6 us = toldSame us) := Lib.hid rfl
  by_cases h0 : n = 0
  ·subst h0
   obtain rfl := List.eq_nil_of_length_eq_zero hul
   clear hs
   go_enter Tryz.func33, Tryz.ntmps33
   go_wp2_with fail
   go_ret2
   exact EncB.of_some Htk.out (Own.nil _ _ _) (Mod.refl _ _)
  ·have hn0 : ((n : Int) == 0) = false := by simp; omega
   obtain ⟨ad, x, rfl, hx, hcx⟩ := hs.at2 (show 0 < n by omega) (Nat.le_refl _) (Mod.refl (fun _ => False) w) (fun _ _ h => h)
   have hx64 : Lt64 x := by have := hu x (List.mem_of_getElem? hx); unfold Lt64; omega
   have hnp : (0 : Int) < (n : Int) := by omega
   have Hs := Lib.hid hs; have Hul := Lib.hid hul; have Hx := Lib.hid hx; have Hx64 := Lib.hid hx64
   clear hs hu hul hx hx64 hcx h0
   go_enter Tryz.func33, Tryz.ntmps33
   go_wp2_with fail
   go_loopg [12] n (fun l s12 wr => ∃ i : Nat, i + l = n ∧ s12 = .int .i64 (i : Int) ∧ Mod (fun _ => False) w wr ∧ ∀ j y : Nat, j < i → us[j]? = some y → y = x)
   case atStart => exact ⟨0, by omega, rfl, Mod.refl _ _, fun j y h => by omega⟩
   case round =>
    obtain ⟨i, hil, rfl, hm, hall⟩ := hrel
    have Hil := Lib.hid hil; have Hall := Lib.hid hall; have Hm := Lib.hid hm
    obtain ⟨ad0, x0, hA0, hx0, hc0⟩ := Hs.out.at2 (show 0 < n by omega) (Nat.le_refl _) hm (fun _ _ h => h)
    injection hA0 with hA0
    subst hA0
    obtain rfl : x0 = x := by have := Hx.out; rw [hx0] at this; injection this
    have hcx0 : wr.cell? ad = some (.int .u64 (x0 : Int)) := by rw [← add_zero' ad]; exact hc0
    clear hil hall hx0 hc0
    by_cases hin : i < n
    ·obtain ⟨ad', y, hA, hy, hcy⟩ := Hs.out.at2 hin (Nat.le_refl _) hm (fun _ _ h => h)
     injection hA with hA
     subst hA
     have hini : (i : Int) < (n : Int) := by omega
     have Hy := Lib.hid hy
     clear hy hm
     by_cases hyx : y = x0
     ·subst hyx
      go_upto_region 29 with fail
      go_quiet (fail)
      go_wp2_with fail
      go_roundg (gk - 1)
      case measure => have := Hil.out; omega
      case rel => exact ⟨i + 1, by have := Hil.out; omega, by go_num, Hm.out.drewN _, fun j z hj hz => by
       rcases Nat.lt_or_ge j i with h | h
       ·exact Hall.out j z h hz
       ·obtain rfl : j = i := by omega
        rw [Hy.out] at hz
        injection hz with hz
        exact hz.symm⟩
     ·have hyb : ((y : Int) == (x0 : Int)) = false := by simp; omega
      have hyb2 : ((y : Int) != (x0 : Int)) = true := by simp; omega
      have Hno : Hid (toldK 6 us = none) := Lib.hid (by rw [Htk.out]; exact toldSame_none Hx.out Hy.out hyx)
      clear hyx
      go_upto_region 29 with fail
      go_quiet (fail)
      go_wp2_with fail
      go_ret2
      exact EncB.of_none Hno.out (Hm.out.drewN _)
    ·have hi : i = n := by have := Hil.out; omega
     have Hyes : Hid (toldK 6 us = some (enc x0)) := Lib.hid (by rw [Htk.out]; exact toldSame_some Hx.out (fun j y hy => Hall.out j y (by have := (List.getElem?_eq_some_iff.1 hy).1; have := Hul.out; omega) hy))
     clear hi hm
     go_wp2_with fail
     refine (vrput_any none 0 0 0 [] x0 wr (Rds.nil _ _ _) (by omega) Hx64.out).mono ?_
     rintro e w4 ⟨v4, rfl, ho4, hb4⟩
     rw [List.nil_append] at ho4
     have Ho4 := Lib.hid (ho4.mono Hm.out.size); have Hm4 := Lib.hid (Hm.out.trans (mod_below hb4) (fun _ _ h => h))
     clear ho4 hb4
     go_wp2_with fail
     go_ret2
     exact EncB.of_some Hyes.out Ho4.out Hm4.out
 have b1 : (tag == 1) = false := by simp [h1]
 have b2 : (tag == 2) = false := by simp [h2]
 have b3 : (tag == 3) = false := by simp [h3]
 have b4 : (tag == 4) = false := by simp [h4]
 have b5 : (tag == 5) = false := by simp [h5]
 have b6 : (tag == 6) = false := by simp [h6]
 have Hno : Hid (toldK tag us = none) := Lib.hid (toldK_other h1 h2 h3 h4 h5 h6)
 clear hs hu h1 h2 h3 h4 h5 h6
 go_enter Tryz.func33, Tryz.ntmps33
 go_wp2_with fail
 go_ret2
 rw [Hno.out]
 exact ⟨rfl, Mod.refl _ _⟩
end Go.Proofs.YthgoppmgapaajaaGreatDoor

/- A row of samples told in a codec, as the document has it: Encode; and the codec that takes the fewest bytes: Best. -/
namespace Go.Proofs.YthgoppmgapaajaaGreatDoor
open Go.RowKit

/-- The first i times; the writer stands as it stood. -/
def RTimTo (W wr : World) (l : List (Int × Nat)) (i : Nat) (v : Value) : Prop := Own W.heap.size wr 2 v (cellsI (tsOf (l.take i))) ∧ Below W.heap.size W wr
set_option maxHeartbeats 2000000 in
set_option maxRecDepth 100000 in
theorem rkenc_any (tag : Int) (A : Option Addr) (n c : Nat) (l : List (Int × Nat)) (w : World) (hs : RdsS w w.heap.size A n l) (hg : GoodS l) (hn : n ≤ 1000000) :
  Calls Tryz.prog 19 #[.int .i64 tag, .slice A n c] w fun e w' => EncB w w' (encK tag l) e := by
 have Hs := Lib.hid hs; have Hg := Lib.hid hg; have Hl := Lib.hid hs.1
 have hcs : Tryz.prog.cellsOf 36 = 2 := by kernel_rfl
 clear hs hg
 go_enter Tryz.func19, Tryz.ntmps19
 go_wp2_with fail
 refine (rvals_any A n c l w Hs.out hn).mono ?_
 rintro e w1 ⟨v1, rfl, ho1, hm1⟩
 obtain ⟨A1, L1, c1, rfl, HL1, hc1, hr1⟩ := own_formUN ho1
 have hL1 : L1 = n := by have := HL1.out; rw [vsOf_len, Hl.out] at this; exact this.symm
 subst hL1
 have Hr1 := Lib.hid hr1; have Hm1 := Lib.hid hm1; have Hs1 := Lib.hid (Hs.out.new hm1).fit; have Hc1 := Lib.hid hc1
 clear ho1 hm1 hr1 hc1 Hs
 go_wp2_with fail
 refine (rtold_any tag A1 L1 c1 (vsOf l) w1 Hr1.out Hg.out.vs hn Hc1.out).mono ?_
 intro e w2 he
 have he' : EncB w1 w2 (toldK tag (vsOf l)) e := he
 clear he
 cases ho : toldK tag (vsOf l) with
 | none =>
  obtain ⟨rfl, hm2⟩ := EncB.none_ he' ho
  have Hno : Hid (encK tag l = none) := Lib.hid (by unfold encK; rw [ho]; cases riseB l <;> rfl)
  have Hm2 := Lib.hid (Hm1.out.trans hm2 (fun _ _ h => h))
  clear he' ho hm2
  go_wp2_with fail
  go_ret2
  exact EncB.of_none Hno.out Hm2.out
 | some vb =>
  obtain ⟨v2, rfl, ho2, hm2⟩ := EncB.some_ he' ho
  obtain ⟨A2, L2, c2, rfl, HL2, _, _, hr2⟩ := own_formN8 ho2
  have Hr2 := Lib.hid hr2; have Hm2 := Lib.hid (Hm1.out.trans hm2 (fun _ _ h => h)); have Hs2 := Lib.hid (Hs1.out.new hm2).fit; have Ho := Lib.hid ho
  clear he' ho ho2 hm2 hr2 Hs1 Hr1 Hm1
  go_wp2_with fail
  refine (rrising_any A L1 c l w2 Hs2.out hn).mono ?_
  rintro e w3 ⟨rfl, hm3⟩
  have Hr3 := Lib.hid (Hr2.out.new hm3).fit; have Hm3 := Lib.hid (Hm2.out.trans hm3 (fun _ _ h => h)); have Hs3 := Lib.hid (Hs2.out.new hm3).fit
  clear hm3 Hr2 Hm2 Hs2
  cases hri : riseB l with
  | false =>
   have Hno : Hid (encK tag l = none) := Lib.hid (encK_no hri)
   clear hri
   go_wp2_with fail
   go_ret2
   exact EncB.of_none Hno.out Hm3.out
  | true =>
   have hn65 : L1 ≤ 65535 := by rw [← Hl.out]; exact ((riseB_iff l).1 hri).2
   have Hyes : Hid (encK tag l = some (enc (tbK l).length ++ (tbK l ++ vb))) := Lib.hid (encK_of hri Ho.out)
   have hvl := toldK_len Hg.out.vs (by rw [vsOf_len, Hl.out]; exact hn65) Ho.out
   rw [vsOf_len, Hl.out] at hvl
   have hL2 : L2 ≤ 2000000 := by have := HL2.out; omega
   have HL2b := Lib.hid hL2
   obtain ⟨W, hW⟩ : ∃ W, W = w3.alloc (.cells #[.slice none 0 0] 69) := ⟨_, rfl⟩
   have hmW : Mod (fun _ => False) w3 W := by rw [hW]; exact (Mod.refl _ _).alloc _
   have hrw : RWr W w3.heap.size none 0 0 := by rw [hW]; exact RWr.new w3
   obtain ⟨g, hg⟩ : ∃ g, g = w3.heap.size := ⟨_, rfl⟩
   have hgW : g < W.heap.size := by rw [hW, hg]; simp
   have HsW := Lib.hid (Hs3.out.new hmW).fit; have HmW := Lib.hid (Hm3.out.trans hmW (fun _ _ h => h))
   have T0 : Hid (RTimTo W W l 0 (.slice none 0 0)) := Lib.hid ⟨Own.nil _ _ _, Below.refl _ _⟩
   rw [← hg] at hrw
   have HrW : Hid (Rds W g A2 L2 (cells8 vb)) := Lib.hid (by rw [hg]; exact Hr3.out.mod hmW (Nat.le_refl _) (fun _ _ h => h))
   have Hrw := Lib.hid hrw; have HW := Lib.hid hW; have Hg3 := Lib.hid hg; have HgW := Lib.hid hgW
   clear hri hvl hL2 hW hmW hrw hg hgW Hs3 Hr3
   go_wp2_with fail
   rw [← HW.out, ← Hg3.out]
   clear HW
   go_loopg [9, 10] L1 (fun k s9 s10 wr => ∃ i : Nat, i + k = L1 ∧ s10 = .int .i64 (i : Int) ∧ RTimTo W wr l i s9)
   case atStart => exact ⟨0, by omega, rfl, T0.out⟩
   case round =>
    obtain ⟨i, hik, rfl, hT⟩ := hrel
    have Hik := Lib.hid hik; have HT := Lib.hid hT
    clear hik hT T0
    by_cases hin : i < L1
    ·obtain ⟨ad, ⟨T, V⟩, rfl, _, hp, hc0, _⟩ := HsW.out.at2 hin (Nat.le_refl _) (Mod.of_below HT.out.2) (fun ad hA => by
      obtain ⟨ad', hA', hb⟩ := HsW.out.some_ (show 0 < L1 by omega)
      rw [hA] at hA'
      injection hA' with hA'
      subst hA'
      omega)
     have hini : (i : Int) < (L1 : Int) := by omega
     have Hp := Lib.hid hp
     have hlen : (cellsI (tsOf (l.take i))).length ≤ 1000000 := by rw [cellsI_length, tsOf_len, List.length_take]; omega
     have HR : Hid ((cellsI (tsOf (l.take i))).length + 1 ≤ maxLen ∧ ((cellsI (tsOf (l.take i))).length + 1) * 8 ≤ 140737488355328) := Lib.hid ⟨by unfold maxLen; omega, by omega⟩
     have hsz := HT.out.2.size
     clear hp hlen
     go_wp2_with (at_builtin; refine wpList_app1 rfl (.tmp 34) (.tmp 40) _ rfl elt64 rfl HT.out.1 rfl rfl rfl HR.out.1 HR.out.2 hsz ?_; intro v4 w4 HO4 HB4)
     have HT2 : Hid (RTimTo W w4 l (i + 1) v4) := Lib.hid ⟨by rw [ts_take Hp.out, cellsI_snoc]; exact HO4.out, HT.out.2.trans HB4.out⟩
     go_roundg (gk - 1)
     case measure => have := Hik.out; omega
     case rel => exact ⟨i + 1, by have := Hik.out; omega, by go_num, HT2.out⟩
    ·have hi : i = L1 := by have := Hik.out; omega
     obtain ⟨k1, k2⟩ := HT.out
     rw [List.take_of_length_le (by rw [Hl.out]; omega)] at k1
     obtain ⟨A4, c4, rfl, hr4⟩ := own_form k1
     have hl4 : (tsOf l).length = L1 := by rw [tsOf_len]; exact Hl.out
     rw [hl4] at hr4
     have hin4 : 0 < L1 → ∀ ad, A4 = some ad → W.heap.size ≤ ad.block := fun h0 ad hA => by
      have hb := k1.block ad.block (by rw [hA]; rfl)
      exact hb.1
     have Hap : Hid (0 < L1 → ∀ ad, A4 = some ad → ¬ (ad.block = g ∨ none = some ad.block)) := Lib.hid (fun h0 ad hA h => by
      have := hin4 h0 ad hA
      rcases h with h | h
      ·have := HgW.out; omega
      ·cases h)
     have Hrw4 := Lib.hid (Hrw.out.mod (Mod.of_below k2) (by have := HgW.out; omega) (fun k hk => by cases hk))
     have HrW4 : Hid (Rds wr g A2 L2 (cells8 vb)) := Lib.hid (HrW.out.mod (Mod.of_below k2) (Nat.le_of_lt HgW.out) (fun j hj h => by have := HgW.out; omega))
     have Hr4 := Lib.hid hr4.seesI; have Hm4 := Lib.hid (HmW.out.trans (Mod.of_below k2) (fun i hi h => by have := HmW.out.size; omega))
     have Hwr4 : Hid (W.heap.size ≤ wr.heap.size) := Lib.hid k2.size
     have Hgw : Hid (w.heap.size ≤ g) := Lib.hid (by rw [Hg3.out]; exact Hm3.out.size)
     rw [hl4]
     clear hi k1 k2 hl4 hr4 hin4 Hrw HrW HmW HT
     obtain ⟨wo, rfl⟩ : ∃ wo : World, wo = wr := ⟨_, rfl⟩
     go_wp2_with fail
     refine (rtimes_any wo.heap.size g none 0 0 L1 c4 A4 (tsOf l) wo Hr4.out Hg.out.ts (Nat.le_refl _) Hap.out Hrw4.out (by omega)).mono ?_
     rintro e w5 ⟨rfl, h5⟩
     have h5' := h5
     obtain ⟨row, a1, a2, _⟩ := h5'
     rw [Nat.zero_mul, Nat.zero_add, Nat.zero_add] at a1
     have hfl := encRow_len (tsOf l)
     rw [tsOf_len, Hl.out] at hfl
     have Hwr5 := Lib.hid a1; have Hm5 := Lib.hid (Hm4.out.trans a2 (fun i hi h => h.elim (fun e => by have := Hgw.out; omega) (fun e => by cases e))); have Hfl := Lib.hid hfl
     have HrW5 : Hid (Rds w5 w5.heap.size A2 L2 (cells8 vb)) := Lib.hid ((HrW4.out.mod a2 (by have := Hwr4.out; have := HgW.out; omega) (fun j hj h => by
      rcases h with h | h
      ·omega
      ·cases h)).fit)
     clear h5 a1 a2 hfl HrW4 Hr4 Hrw4 Hm4
     go_wp2_with fail
     refine (rbytes_any g row _ _ w5 Hwr5.out (by have := Hfl.out; omega)).mono ?_
     rintro e w6 ⟨v6, bs, rfl, hnew, hpk⟩
     obtain rfl := hpk.packF
     obtain ⟨A6, c6, rfl, hr6, hm6⟩ := hnew.rds
     have htl := tbK_len l
     rw [Hl.out] at htl
     obtain ⟨tb, htb⟩ : ∃ tb, tb = packF (encRow (tsOf l)) := ⟨_, rfl⟩
     rw [← htb] at hr6
     rw [← htb]
     have htb' : tb = tbK l := htb
     obtain ⟨Lt, hLt⟩ : ∃ Lt, tb.length = Lt := ⟨_, rfl⟩
     rw [hLt] at hr6
     rw [hLt]
     have hLts : Lt ≤ 700000 := by rw [← hLt, htb']; omega
     have hcv : IntKind.u64.wrap (Lt : Int) = (Lt : Int) := by rw [IntKind.wrap_u64]; omega
     have Hr6 := Lib.hid hr6; have Hm6 := Lib.hid (Hm5.out.trans hm6 (fun _ _ h => h)); have Hb6 := Lib.hid (HrW5.out.new hm6).fit; have Htb := Lib.hid htb'; have HLt := Lib.hid hLt
     clear hnew hpk hr6 hm6 htl htb htb' hLt Hwr5 Hm5 HrW5
     go_wp2_with fail
     refine (vrput_any none 0 0 0 [] Lt w6 (Rds.nil _ _ _) (by omega) (lt64_of (by omega))).mono ?_
     rintro e w7 ⟨v7, rfl, ho7, hb7⟩
     rw [List.nil_append] at ho7
     have hq := enc_len10 (u := Lt) (by omega)
     have HR7 : Hid (Room (cells8 (enc Lt)).length Lt) := Lib.hid (Room.mk _ _ (by rw [cells8_length]; omega))
     have Ho7 := Lib.hid ho7; have Hr7 := Lib.hid (Hr6.out.below hb7); have Hm7 := Lib.hid (Hm6.out.trans (mod_below hb7) (fun _ _ h => h)); have Hb7 := Lib.hid (Hb6.out.below hb7)
     have Hone : Hid (∀ u ∈ cells8 tb, u.oneCell' = true) := Lib.hid (cells8_one _)
     have Hone2 : Hid (∀ u ∈ cells8 vb, u.oneCell' = true) := Lib.hid (cells8_one _)
     have hsz7 : w6.heap.size ≤ w7.heap.size := hb7.size
     have HR8 : Hid (Room (cells8 (enc Lt) ++ cells8 tb).length L2) := Lib.hid (Room.mk _ _ (by rw [List.length_append, cells8_length, cells8_length, HLt.out]; have := HL2b.out; omega))
     have Hwo7 : Hid (w6.heap.size ≤ w7.heap.size) := Lib.hid hsz7
     clear ho7 hb7 hq hcv
     go_wp2_with (first
      | (at_builtin; refine wpList_app rfl (.tmp 50) (.tmp 51) _ rfl elt8 rfl Ho7.out rfl Hr7.out Hone.out HR7.out.1 HR7.out.2 hsz7 ?_; intro v8 w8 HO8 HBl8 HG8; clear HG8; have hsz8 : w6.heap.size ≤ w8.heap.size := Nat.le_trans Hwo7.out HBl8.out.size; have Hb8 := Lib.hid (Hb7.out.mod (Mod.of_below HBl8.out) Hwo7.out (fun j hj h => by omega)))
      | (at_builtin; refine wpList_app rfl (.tmp 52) (.tmp 53) _ rfl elt8 rfl HO8.out rfl Hb8.out Hone2.out HR8.out.1 HR8.out.2 hsz8 ?_; intro v9 w9 HO9 HBl9 HG9; clear HG9))
     go_ret2
     have ho9 := HO9.out
     rw [cells8_app, cells8_app, List.append_assoc, Htb.out] at ho9
     have e : enc (tbK l).length = enc Lt := by rw [← Htb.out, HLt.out]
     refine EncB.of_some Hyes.out ?_ ?_
     ·rw [e]
      exact ho9.mono Hm6.out.size
     ·exact (Hm7.out.trans (Mod.of_below HBl8.out) (fun i hi h => by have := Hm6.out.size; omega)).trans (Mod.of_below HBl9.out) (fun i hi h => by have := Hm6.out.size; omega)
end Go.Proofs.YthgoppmgapaajaaGreatDoor

/- Chunks, of the document: Make. -/
namespace Go.Proofs.YthgoppmgapaajaaGreatDoor
open Go.RowKit

theorem mod_drew_new {w w' : World} (h : Below w.drew.heap.size w.drew w') : Mod (fun _ => False) w w' := (Mod.refl (fun _ => False) w).drew.trans (Mod.of_below h) (fun _ hi k => absurd k (Nat.not_le_of_lt hi))
theorem mod_more_new {w w1 w' : World} (h1 : Mod (fun _ => False) w w1) (h : Below w1.heap.size w1 w') : Mod (fun _ => False) w w' := h1.trans (Mod.of_below h) (fun _ hi k => absurd k (Nat.not_le_of_lt (Nat.lt_of_lt_of_le hi h1.size)))
set_option maxHeartbeats 600000 in
set_option maxRecDepth 100000 in
theorem rmake_any (tag : Int) (A : Option Addr) (n c : Nat) (l : List (Int × Nat)) (w : World) (hs : RdsS w w.heap.size A n l) (hg : GoodS l) (hn : n ≤ 1000000) :
  Calls Tryz.prog 6 #[.int .i64 tag, .slice A n c] w fun e w' => EncB w w' (makeC tag l) e := by
 have Hs := Lib.hid hs; have Hg := Lib.hid hg; have Hl := Lib.hid hs.1
 clear hs hg
 go_enter Tryz.func6, Tryz.ntmps6
 go_wp2_with fail
 refine (rkenc_any tag A n c l w Hs.out Hg.out hn).mono ?_
 intro e w1 he
 have he' : EncB w w1 (encK tag l) e := he
 clear he
 cases ho : encK tag l with
 | none =>
  obtain ⟨rfl, hm1⟩ := EncB.none_ he' ho
  have Hno : Hid (makeC tag l = none) := Lib.hid (makeC_no ho)
  have Hm1 := Lib.hid hm1
  clear he' ho hm1
  go_wp2_with fail
  go_ret2
  exact EncB.of_none Hno.out Hm1.out
 | some b =>
  obtain ⟨v1, rfl, ho1, hm1⟩ := EncB.some_ he' ho
  by_cases h0 : n = 0
  ·subst h0
   have Hno : Hid (makeC tag l = none) := Lib.hid (by unfold makeC; rw [if_pos (List.length_eq_zero_iff.1 Hl.out)])
   have Hm1 := Lib.hid hm1
   clear he' ho hm1 ho1
   go_wp2_with fail
   go_ret2
   exact EncB.of_none Hno.out Hm1.out
  have hb0 : ((n : Int) == 0) = false := by simp; omega
  have hne : l ≠ [] := fun h => h0 (by rw [← Hl.out, h]; rfl)
  have hyes := makeC_of hne ho
  have htag := encK_tag ho
  have hn65 := (rise_ends (encK_some ho).1).2
  rw [Hl.out] at hn65
  have hbl := encK_len Hg.out ho
  rw [Hl.out] at hbl
  have hlt := encK_256 ho
  obtain ⟨A1, L1, c1, rfl, HL1, _, _, hr1⟩ := own_formN8 ho1
  have hL1 : L1 ≤ 2000000 := by have := HL1.out; omega
  obtain ⟨tb, htb⟩ : ∃ tb : Nat, tb = tag.toNat := ⟨_, rfl⟩
  have hw8 : IntKind.u8.wrap tag = (tb : Int) := by rw [tag_byte htag, htb]
  have hw64 : IntKind.u64.wrap (n : Int) = (n : Int) := by rw [IntKind.wrap_u64]; omega
  have Hr1 := Lib.hid hr1; have Hm1 := Lib.hid hm1; have Hs1 := Lib.hid (Hs.out.new hm1).fit
  have Hyes := Lib.hid hyes; have Hlt := Lib.hid hlt; have Htb := Lib.hid htb; have Htag := Lib.hid htag
  clear he' ho ho1 hm1 hne hyes htag hbl hlt hr1 htb Hs
  go_wp2_with fail
  refine (vrput_any _ 1 1 (w1.heap.size + 1) [tb] n (w1.alloc (.cells #[.int .u8 (tb : Int)] 5)) (Rds.lit w1 5 #[.int .u8 (tb : Int)]) (by omega) (by unfold Lt64; omega)).mono ?_
  rintro e w2 ⟨v2, rfl, ho2, hl2⟩
  obtain ⟨A2, L2, c2, rfl, HL2, _, _, hr2⟩ := own_formN8 ho2
  have hm2 : Mod (fun _ => False) w1 w2 := ((Mod.refl _ w1).alloc (.cells #[.int .u8 (tb : Int)] 5)).trans (Mod.of_below hl2) (fun i hi h => by simp at h; omega)
  have hL2 : L2 ≤ 20 := by
   have h1 := enc_len10 (u := n) (by omega)
   have h2 := HL2.out
   simp at h2
   omega
  have Hr2 := Lib.hid hr2; have Hm2 := Lib.hid (Hm1.out.trans hm2 (fun _ _ h => h)); have Hr12 := Lib.hid (Hr1.out.new hm2).fit; have hs2 := (Hs1.out.new hm2).fit
  clear ho2 hl2 hr2 hm2 Hr1 Hm1 Hs1
  obtain ⟨j, hj⟩ : ∃ j, n = j + 1 := ⟨n - 1, by omega⟩
  obtain ⟨ad, p, rfl, hadb, hp, hc0, _⟩ := hs2.at2 (show 0 < n by omega) (Nat.le_refl _) (Mod.refl (fun _ => False) _) (fun _ _ h => h)
  obtain ⟨ad2, q, e2, _, hq, hd0, _⟩ := hs2.at2 (show j < n by omega) (Nat.le_refl _) (Mod.refl (fun _ => False) _) (fun _ _ h => h)
  injection e2 with e2
  subst e2
  have hf : fstT l = p.1 := first_get hp
  have hgt : lstT l = q.1 := last_get (by rw [Hl.out, hj, Nat.add_sub_cancel]; exact hq)
  have ead : ad.add (0 * 2) = ad := by simp [Addr.add]
  rw [ead] at hc0
  obtain ⟨f, hff⟩ : ∃ f, f = p.1 := ⟨_, rfl⟩
  obtain ⟨g, hgg⟩ : ∃ g, g = q.1 := ⟨_, rfl⟩
  rw [← hff] at hc0 hf
  rw [← hgg] at hd0 hgt
  have hFf : Fits f := hf ▸ fstT_fits Hg.out
  have hFg : Fits g := hgt ▸ lstT_fits Hg.out
  obtain ⟨zf, zf2⟩ := zig_nat hFf
  obtain ⟨zg, zg2⟩ := zig_nat hFg
  obtain ⟨kf, hkf⟩ : ∃ kf : Nat, kf = (zig f).toNat := ⟨_, rfl⟩
  obtain ⟨kg, hkg⟩ : ∃ kg : Nat, kg = (zig g).toNat := ⟨_, rfl⟩
  rw [← hkf] at zf zf2
  rw [← hkg] at zg zg2
  have hH : (H63 : Int) = 9223372036854775808 := by decide
  have hz1 := fun W' => rzig_any f W' ⟨by have := hFf.1; omega, by have := hFf.2; omega⟩
  have hz2 := fun W' => rzig_any g W' ⟨by have := hFg.1; omega, by have := hFg.2; omega⟩
  rw [← zf] at hz1
  rw [← zg] at hz2
  have hX : ∀ W', Mod (fun _ => False) w2 W' → Mod (fun _ => False) w2 W' ∧ W'.cell? ad = some (.int .i64 f) ∧ W'.cell? (ad.add (j * 2)) = some (.int .i64 g) := fun W' h => ⟨h, (h.cell (a := ad) hadb (fun h => h)).trans hc0, (h.cell (a := ad.add (j * 2)) (by rw [add_block]; exact hadb) (fun h => h)).trans hd0⟩
  have S1 := Lib.hid (hX w2.drew (Mod.refl _ _).drew)
  have S0 := Lib.hid (hX w2 (Mod.refl _ _))
  have HX := Lib.hid hX; have Hz1 := Lib.hid hz1; have Hz2 := Lib.hid hz2
  have Hhd : Hid (headR tag l = [tb] ++ enc n ++ enc kf ++ enc kg) := Lib.hid (by unfold headR headC; rw [Hl.out, hf, hgt, ← hkf, ← hkg, ← Htb.out]; simp)
  have hwj : IntKind.i64.wrap ((n : Int) - 1) = (j : Int) := by rw [IntWalk.i64_in _ (by omega)]; omega
  have h0n : (0 : Int) < (n : Int) := by omega
  have h0nn : 0 < n := by omega
  have hjn : (j : Int) < (n : Int) := by omega
  have hjnn : j < n := by omega
  have hcs : Tryz.prog.cellsOf 36 = 2 := by kernel_rfl
  have hm1a : (1 : Int) ≤ (n : Int) := by omega
  have Hj := Lib.hid hj
  clear hs2 hp hq hc0 hd0 hf hgt hff hgg hFf hFg zf zg hkf hkg hz1 hz2 hX hadb hH hj
  have Hput1 := Lib.hid (vrput_any A2 L2 c2 _ ([tb] ++ enc n) kf w2.drew Hr2.out.drew (by omega) (by unfold Lt64; omega))
  go_upto_region 5 with fail
  go_cut [8] (fun s8 wc => ∃ (A5 : Option Addr) (L5 c5 : Nat), s8 = .slice A5 L5 c5 ∧ L5 ≤ 60 ∧ Own w2.heap.size wc 5 (.slice A5 L5 c5) (cells8 (headR tag l)) ∧ Mod (fun _ => False) w2 wc)
  case first =>
   first
    | (go_region_held_law (fun W' => Mod (fun _ => False) w2 W' ∧ W'.cell? ad = some (.int .i64 f) ∧ W'.cell? (ad.add (j * 2)) = some (.int .i64 g)) (first | (with_reducible exact S5.out) | (with_reducible exact S4.out) | (with_reducible exact S1.out) | (with_reducible exact S0.out))
      (first
       | (go_at_call 21; with_reducible refine (Hz1.out _).mono ?_; rintro e w' ⟨rfl, rfl⟩)
       | (go_at_call 21; with_reducible refine (Hz2.out _).mono ?_; rintro e w' ⟨rfl, rfl⟩)
       | (go_at_call 20; with_reducible refine Hput1.out.mono ?_; rintro e w4 ⟨v4, rfl, ho4, hl4⟩; obtain ⟨A4, L4, c4, rfl, HL4, _, _, hr4⟩ := own_formN8 ho4; have Hput2 := Lib.hid (vrput_any A4 L4 c4 _ ([tb] ++ enc n ++ enc kf) kg w4 hr4 (by have h1 := enc_len10 zf2; have h2 := HL4.out; have h3 := HL2.out; rw [List.length_append, h3] at h2; omega) (by unfold Lt64; omega)); have S4 := Lib.hid (HX.out w4 (mod_drew_new hl4)); have hL4b : L4 ≤ 40 := (by have h1 := enc_len10 zf2; have h2 := HL4.out; have h3 := HL2.out; rw [List.length_append, h3] at h2; omega); clear ho4 hr4 hl4 HL4)
       | (go_at_call 20; with_reducible refine Hput2.out.mono ?_; rintro e w5 ⟨v5, rfl, ho5, hl5⟩; obtain ⟨A5, L5, c5, rfl, HL5, _, _, hr5⟩ := own_formN8 ho5; have Ho5 := Lib.hid (ho5.mono S4.out.1.size); have S5 := Lib.hid (HX.out w5 (mod_more_new S4.out.1 hl5)); clear ho5 hl5 hr5)))
    | fail "held"
   all_goals
    go_wp2_with fail
    go_meet
    refine ⟨A5, L5, c5, rfl, ?_, ?_, S5.out.1⟩
    ·have h1 := enc_len10 zf2
     have h2 := enc_len10 zg2
     have h3 := HL2.out
     have h4 := HL5.out
     rw [List.length_append, List.length_append, h3] at h4
     omega
    ·rw [Hhd.out]
     exact Ho5.out
  case rest =>
  obtain ⟨A5, L5, c5, rfl, hL5, ho5, hm5⟩ := hcut
  have Ho5 := Lib.hid ho5; have Hr5 := Lib.hid (Hr12.out.new hm5).fit; have Hm5 := Lib.hid (Hm2.out.trans hm5 (fun _ _ h => h))
  have hh256 := headR_256 (l := l) Htag.out
  obtain ⟨hd, hhd⟩ : ∃ hd, hd = headR tag l := ⟨_, rfl⟩
  rw [← hhd] at Ho5 Hyes hh256
  have HL5 : Hid (hd.length ≤ 60) := Lib.hid (by
   have h := own_formN8 Ho5.out
   obtain ⟨_, _, _, e, h2, _⟩ := h
   injection e with _ e2 _
   rw [h2.out, ← e2]
   exact hL5)
  have HR : Hid (Room (cells8 hd).length L1) := Lib.hid (Room.mk _ _ (by rw [cells8_length]; have := HL5.out; omega))
  have Hone : Hid (∀ u ∈ cells8 b, u.oneCell' = true) := Lib.hid (cells8_one _)
  have hsz5 : w2.heap.size ≤ wc.heap.size := hm5.size
  have Hm2s : Hid (w.heap.size ≤ w2.heap.size) := Lib.hid Hm2.out.size
  have Hh256 := Lib.hid hh256
  clear ho5 hm5 hhd hh256 Hr12 Hm2 Hr2 S0 S1 HX Hz1 Hz2 Hput1 Hhd hwj h0n h0nn hjn hjnn hcs hm1a Hj
  go_wp2_with (at_builtin; refine wpList_app rfl (.tmp 46) (.tmp 47) _ rfl elt8 rfl Ho5.out rfl Hr5.out Hone.out HR.out.1 HR.out.2 hsz5 ?_; intro v6 w6 HO6 HBl6 HG6; clear HG6; obtain ⟨A6, L6, c6, rfl, HL6, hc6, hcm6, hr6⟩ := own_formN8 (show Own w2.heap.size w6 5 v6 (cells8 (hd ++ b)) by rw [← cells8_app]; exact HO6.out))
  obtain ⟨hb, hhb⟩ : ∃ hb, hb = hd ++ b := ⟨_, rfl⟩
  rw [← hhb] at hr6 HL6
  have Ho6 : Hid (Own w2.heap.size w6 5 (.slice A6 L6 c6) (cells8 hb)) := Lib.hid (by rw [hhb, ← cells8_app]; exact HO6.out)
  have hb256 : lt256 hb := by rw [hhb]; exact lt256_app Hh256.out Hlt.out
  have hL6 : L6 ≤ 2000060 := by have h1 := HL6.out; rw [hhb, List.length_append] at h1; have := HL5.out; have := HL1.out; omega
  have Hyes2 : Hid (makeC tag l = some (hb ++ sum4 (sumN ent hb))) := Lib.hid (by rw [hhb]; exact Hyes.out)
  have Hm6 := Lib.hid (Hm5.out.trans (Mod.of_below HBl6.out) (fun i hi h => absurd h (Nat.not_le_of_lt (Nat.lt_of_lt_of_le hi Hm2s.out))))
  have Hsz6 := Lib.hid (Nat.le_trans hsz5 HBl6.out.size)
  have Hr6 := Lib.hid hr6; have Hb256 := Lib.hid hb256
  clear hhb hr6 hb256 HO6 HBl6 Hm5 Ho5 Hr5 Hyes Hh256 Hlt HR Hone hsz5 HL5 hL5
  refine (rsum_any A6 L6 c6 w6.heap.size hb w6 Hr6.out Hb256.out (by unfold maxLen; omega)).mono ?_
  rintro e w7 ⟨rfl, rfl⟩
  obtain ⟨s, hs⟩ : ∃ s, s = sumN ent hb := ⟨_, rfl⟩
  have hsl : s < 4294967296 := hs ▸ sumN_ent_lt Hb256.out
  rw [← hs] at Hyes2 ⊢
  obtain ⟨b1, b2, b3, b4⟩ := sum4_bytes s
  have HR6 : Hid (Room (cells8 hb).length 4) := Lib.hid (Room.mk _ _ (by rw [cells8_length]; have := HL6.out; omega))
  have Hlit : Hid (Rds (w6.alloc (.cells #[.int .u8 ((s / 16777216 % 256 : Nat) : Int), .int .u8 ((s / 65536 % 256 : Nat) : Int), .int .u8 ((s / 256 % 256 : Nat) : Int), .int .u8 ((s % 256 : Nat) : Int)] 5)) (w6.heap.size + 1) (some ⟨w6.heap.size, 0, none⟩) 4 (cells8 (sum4 s))) := Lib.hid (Rds.lit w6 5 #[.int .u8 ((s / 16777216 % 256 : Nat) : Int), .int .u8 ((s / 65536 % 256 : Nat) : Int), .int .u8 ((s / 256 % 256 : Nat) : Int), .int .u8 ((s % 256 : Nat) : Int)])
  have Hone6 : Hid (∀ u ∈ cells8 (sum4 s), u.oneCell' = true) := Lib.hid (cells8_one _)
  have Ho6a := Lib.hid (Ho6.out.alloc (.cells #[.int .u8 ((s / 16777216 % 256 : Nat) : Int), .int .u8 ((s / 65536 % 256 : Nat) : Int), .int .u8 ((s / 256 % 256 : Nat) : Int), .int .u8 ((s % 256 : Nat) : Int)] 5))
  have hsz6 : w2.heap.size ≤ (w6.alloc (.cells #[.int .u8 ((s / 16777216 % 256 : Nat) : Int), .int .u8 ((s / 65536 % 256 : Nat) : Int), .int .u8 ((s / 256 % 256 : Nat) : Int), .int .u8 ((s % 256 : Nat) : Int)] 5)).heap.size := Nat.le_trans Hsz6.out (le_alloc _ _)
  clear hs Hr6 Ho6
  go_wp2_with (at_builtin; refine wpList_app rfl (.tmp 51) (.tmp 63) _ rfl elt8 rfl Ho6a.out rfl Hlit.out Hone6.out HR6.out.1 HR6.out.2 hsz6 ?_; intro v8 w8 HO8 HBl8 HG8; clear HG8)
  go_ret2
  have ho8 := HO8.out
  rw [cells8_app] at ho8
  exact EncB.of_some Hyes2.out (ho8.mono Hm2s.out) ((Hm6.out.alloc (.cells #[.int .u8 ((s / 16777216 % 256 : Nat) : Int), .int .u8 ((s / 65536 % 256 : Nat) : Int), .int .u8 ((s / 256 % 256 : Nat) : Int), .int .u8 ((s % 256 : Nat) : Int)] 5)).trans (Mod.of_below HBl8.out) (fun i hi h => absurd h (Nat.not_le_of_lt (Nat.lt_of_lt_of_le hi Hm2s.out))))
end Go.Proofs.YthgoppmgapaajaaGreatDoor

/- WorkOwn's walk. -/
namespace Go.Proofs.YthgoppmgapaajaaGreatDoor
open Go.RowKit

theorem Tabs.modS {w0 w w' : World} {S : Nat → Prop} (h0 : Tabs w0) (h : Tabs w) (hm : Mod S w w') (hS : ∀ i, S i → w0.heap.size ≤ i) : Tabs w' :=
 ⟨h.wid.mod hm (fun e => by have := h0.wid.1; have := hS _ e; omega), h.deb.mod hm (fun e => by have := h0.deb.1; have := hS _ e; omega), h.kin.mod hm (fun e => by have := h0.kin.1; have := hS _ e; omega)⟩
theorem lessS_one (L i : Nat) : lessS (L - i) 1 = L - (i + 1) := by unfold lessS; omega
/-- One cell of one sample written: l[k].V = x; l[k].T = x. -/
theorem cellsS_setV {l : List (Int × Nat)} {i : Nat} {p : Int × Nat} (h : l[i]? = some p) (x : Nat) : (cellsS l).set (i * 2 + 1) (.int .u64 (x : Int)) = cellsS (l.set i (p.1, x)) := by
 have h1 := cellsS_set l i (p.1, x)
 obtain ⟨h2, e⟩ := List.getElem?_eq_some_iff.1 (cellsS_get h).1
 have h3 : (cellsS l).set (i * 2) (.int .i64 p.1) = cellsS l := by rw [← e]; exact List.set_getElem_self h2
 rw [h3] at h1
 exact h1
theorem cellsS_setT {l : List (Int × Nat)} {i : Nat} {p : Int × Nat} (h : l[i]? = some p) (x : Int) : (cellsS l).set (i * 2) (.int .i64 x) = cellsS (l.set i (x, p.2)) := by
 have h1 := cellsS_set l i (x, p.2)
 obtain ⟨h2, e⟩ := List.getElem?_eq_some_iff.1 (cellsS_get h).2
 have h3 : ((cellsS l).set (i * 2) (.int .i64 x)).set (i * 2 + 1) (.int .u64 (p.2 : Int)) = (cellsS l).set (i * 2) (.int .i64 x) := by
  rw [List.set_comm _ _ (by omega), ← e, List.set_getElem_self h2]
 rw [h3] at h1
 exact h1
theorem OwnS.setV {w : World} {B g n cap k : Nat} {l : List (Int × Nat)} {p : Int × Nat} (h : OwnS B w (.slice (some ⟨g, 0, none⟩) n cap) l) (hn : l.length = n) (hp : l[k]? = some p) (x : Nat) :
  w.cell? ⟨g, k * 2 + 1, none⟩ = some (.int .u64 (p.2 : Int)) ∧ w.frozen? ⟨g, k * 2 + 1, none⟩ = false ∧ OwnS B (w.setCell ⟨g, k * 2 + 1, none⟩ (.int .u64 (x : Int))) (.slice (some ⟨g, 0, none⟩) n cap) (l.set k (p.1, x)) := by
 have h' : w.ownsRow B 36 2 (.slice (some ⟨g, 0, none⟩) n cap) n (cellsS l) := by
  have := h; unfold OwnS at this; rwa [hn] at this
 have hk := (List.getElem?_eq_some_iff.1 hp).1
 have hl := cellsS_len l
 refine ⟨?_, h'.frozenAt _, ?_⟩
 ·rw [h'.cellAt _ (by omega)]; exact (cellsS_get hp).2
 ·have h2 := (h'.stored (k * 2 + 1) (.int .u64 (x : Int))).1
  rw [cellsS_setV hp] at h2
  unfold OwnS
  rw [List.length_set, hn]
  exact h2
theorem OwnS.setT {w : World} {B g n cap k : Nat} {l : List (Int × Nat)} {p : Int × Nat} (h : OwnS B w (.slice (some ⟨g, 0, none⟩) n cap) l) (hn : l.length = n) (hp : l[k]? = some p) (x : Int) :
  w.cell? ⟨g, k * 2, none⟩ = some (.int .i64 p.1) ∧ w.frozen? ⟨g, k * 2, none⟩ = false ∧ OwnS B (w.setCell ⟨g, k * 2, none⟩ (.int .i64 x)) (.slice (some ⟨g, 0, none⟩) n cap) (l.set k (x, p.2)) := by
 have h' : w.ownsRow B 36 2 (.slice (some ⟨g, 0, none⟩) n cap) n (cellsS l) := by
  have := h; unfold OwnS at this; rwa [hn] at this
 have hk := (List.getElem?_eq_some_iff.1 hp).1
 have hl := cellsS_len l
 refine ⟨?_, h'.frozenAt _, ?_⟩
 ·rw [h'.cellAt _ (by omega)]; exact (cellsS_get hp).1
 ·have h2 := (h'.stored (k * 2) (.int .i64 x)).1
  rw [cellsS_setT hp] at h2
  unfold OwnS
  rw [List.length_set, hn]
  exact h2
theorem at_gx (g k : Nat) : (⟨g, 0, none⟩ : Addr).add (k * 2) = ⟨g, k * 2, none⟩ := by rw [add_addr, Nat.zero_add]
set_option maxHeartbeats 1000000 in
set_option maxRecDepth 100000 in
theorem workOwn_walk (A A2 : Option Addr) (n c n2 c2 : Nat) (zs : List Int) (us : List Nat) (how : Int) (w : World) (hs : SeesI .i64 w w.heap.size A n zs) (hz : ∀ x ∈ zs, FitI x) (hs2 : Rds w w.heap.size A2 n2 (cellsU us)) (hu : ∀ x ∈ us, x < 2 ^ 64) (ht : Tabs w) :
  Calls Tryz.prog 3 #[.slice A n c, .slice A2 n2 c2, .int .i64 how] w fun e w' => e = .returned (.bool true) ∧ Mod (fun _ => False) w w' := by
 have Hs := Lib.hid hs; have Hz := Lib.hid hz; have Hs2 := Lib.hid hs2; have Hu := Lib.hid hu; have Ht := Lib.hid ht
 have hcs : Tryz.prog.cellsOf 36 = 2 := by kernel_rfl
 clear hs hz hs2 hu ht
 go_enter Tryz.func3, Tryz.ntmps3
 go_wp2_with fail
 refine (row_any A A2 n c n2 c2 zs us how w Hs.out Hz.out Hs2.out Hu.out).mono ?_
 rintro e w1 ⟨v, l, rfl, ho1, hg, _, hl60, hm1⟩
 obtain ⟨A1, L, c1, rfl, HL, hc1, _, hr1⟩ := ho1.formN
 have Hr1 := Lib.hid hr1; have Hg := Lib.hid hg; have Hm1 := Lib.hid hm1; have T1 := Lib.hid (Ht.out.mod hm1)
 have hL60 : L ≤ 60 := by have := HL.out; omega
 have T0 := Lib.hid Ht.out
 clear ho1 hg hl60 hm1 hr1 Hs Hz Hs2 Hu Ht hc1
 go_wp2_with fail
 refine (rmake_any 1 A1 L c1 l w1 Hr1.out Hg.out (by omega)).mono ?_
 intro e w2 he
 cases ho : makeC 1 l with
 | none =>
  obtain ⟨rfl, hm2⟩ := EncB.none_ he ho
  have Hm2 := Lib.hid (Hm1.out.trans hm2 (fun _ _ h => h)); have T2 := Lib.hid (T1.out.mod hm2)
  clear he ho hm2 Hr1 Hm1 T1
  go_wp2_with fail
  refine (wawake_any w2 T2.out).mono ?_
  rintro e w4 ⟨rfl, hm4⟩
  have Hm4 := Lib.hid (Hm2.out.trans hm4 (fun _ _ h => h))
  clear hm4
  go_wp2_with fail
  go_ret
  exact ⟨rfl, Hm4.out⟩
 | some b =>
  obtain ⟨v2, rfl, ho2, hm2⟩ := EncB.some_ he ho
  have hlt := makeC_256 ho
  have hlen := makeC_len Hg.out ho
  have hlen8 := makeC_len8 ho
  have hopen : openX b = some (l, 1) := openX_of Hg.out ho
  have hne : l ≠ [] := (makeC_some ho).1
  have hL0 : 0 < L := by
   have := HL.out
   cases l with
   | nil => exact absurd rfl hne
   | cons a r => rw [List.length_cons] at this; omega
  obtain ⟨N, hN⟩ : ∃ N, b.length = N := ⟨_, rfl⟩
  obtain ⟨A3, c3, rfl, hc3, hcm3, _⟩ := u_formN8 ho2 hN
  have hr3 := Own.rds8 ho2 hN
  have hN1 : N ≤ 10000 := by have := HL.out; omega
  have hN8 : 8 ≤ N := by omega
  have Ho := Lib.hid ho; have Hlt := Lib.hid hlt; have Hopen := Lib.hid hopen; have Hb2 := Lib.hid hr3; have HN := Lib.hid hN
  have Hr2 := Lib.hid (Hr1.out.new hm2).fit; have Hm2 := Lib.hid (Hm1.out.trans hm2 (fun _ _ h => h)); have T2 := Lib.hid (T1.out.mod hm2); have Hs2 : Hid (w.heap.size ≤ w2.heap.size) := Lib.hid Hm2.out.size
  clear he ho ho2 hm2 hlt hlen hlen8 hopen hN hr3 hcm3 Hr1 Hm1 T1 hne hc3
  have Hown : Hid (OwnK 2 w2.heap.size (w2.alloc (.cells #[] 36)) 36 (.slice (some ⟨w2.heap.size, 0, none⟩) 0 0) []) := Lib.hid (own_litK (Nat.le_refl _))
  have Hr := Lib.hid (Hr2.out.alloc (Nat.le_refl _) (.cells #[] 36)).toK
  have Hone : Hid (∀ u ∈ (rowsS l).flatten, u.oneCell' = true) := Lib.hid (by rw [rowsS_flat]; exact cellsS_one _)
  have hq1 : ([] : List (List Value)).length + L ≤ maxLen := by unfold maxLen; simp; omega
  have hq2 : (([] : List (List Value)).length + L) * 16 ≤ 140737488355328 := by simp; omega
  have hsz : w2.heap.size ≤ (w2.alloc (.cells #[] 36)).heap.size := by simp
  have hr1 : ([] : List Value).length + N ≤ maxLen := by unfold maxLen; simp; omega
  have hr2 : (([] : List Value).length + N) * 1 ≤ 140737488355328 := by simp; omega
  have h0m : (0 : Nat) ≤ maxLen := Nat.zero_le _
  go_wp2_with (at_builtin; first
   | (refine wpList_appK rfl (.tmp 36) (.tmp 37) _ rfl eltS2 rfl Hown.out rfl Hr.out Hone.out hq1 hq2 hsz ?_; intro v3 w3 HO HB HG; clear HG)
   | (refine wpList_app rfl (.tmp 39) (.tmp 40) _ rfl elt8 rfl (Own.lit w3 5 #[] h0m) rfl ((Hb2.out.mod (((Mod.refl (fun _ => False) w2).alloc _).trans (Mod.of_below HB.out) (fun i hi h => by omega)) (Nat.le_refl _) (fun _ _ h => h)).alloc (Nat.le_trans hsz HB.out.size) _) (cells8_one b) hr1 hr2 (le_alloc _ _) ?_; intro v4 w4 HO4 HB4 HG; clear HG))
  have hm3 : Mod (fun _ => False) w2 w3 := ((Mod.refl (fun _ => False) w2).alloc _).trans (Mod.of_below HB.out) (fun i hi h => by omega)
  have hm4 : Mod (fun _ => False) w3 w4 := ((Mod.refl (fun _ => False) w3).alloc _).trans (Mod.of_below HB4.out) (fun i hi h => by omega)
  have hx : OwnS w2.heap.size w3 v3 l := by have := HO.out; rw [List.nil_append] at this; exact this.toS
  have hb : Own w3.heap.size w4 5 v4 (cells8 b) := by have := HO4.out; rwa [List.nil_append] at this
  obtain ⟨gx, cx, rfl, hcx, hcx2, hgx, hgx2⟩ := hx.form' (by rw [HL.out]; exact hL0)
  obtain ⟨gb, cb, rfl, hgb, hgb2, hcb, hcb2⟩ := own_some hb HN.out.symm (by omega)
  rw [HL.out] at hx
  rw [HL.out]
  have Hgx : Hid (w2.heap.size ≤ gx ∧ gx < w3.heap.size) := Lib.hid ⟨hgx, hgx2⟩
  have Hgb : Hid (w3.heap.size ≤ gb ∧ gb < w4.heap.size) := Lib.hid ⟨hgb, hgb2⟩
  have Hx4 := Lib.hid (hx.mod hm4); have Hb4 := Lib.hid hb
  have Hl4 := Lib.hid ((Hr2.out.mod hm3 (Nat.le_refl _) (fun _ _ h => h)).mod hm4 hm3.size (fun _ _ h => h))
  have Hw4 := Lib.hid ((Hb2.out.mod hm3 (Nat.le_refl _) (fun _ _ h => h)).mod hm4 hm3.size (fun _ _ h => h))
  have Hm4 := Lib.hid ((Hm2.out.trans hm3 (fun _ _ h => h)).trans hm4 (fun _ _ h => h)); have T4 := Lib.hid ((T2.out.mod hm3).mod hm4)
  have Hs4 : Hid (w2.heap.size ≤ w3.heap.size ∧ w3.heap.size ≤ w4.heap.size) := Lib.hid ⟨hm3.size, hm4.size⟩
  have hxr : RdsS w4 w4.heap.size (some ⟨gx, 0, none⟩) L l := Hx4.out.rds HL.out
  have hbr : Rds w4 w4.heap.size (some ⟨gb, 0, none⟩) N (cells8 b) := Own.rds8 hb HN.out
  have Hxr := Lib.hid hxr; have Hbr := Lib.hid hbr; have Hcb := Lib.hid (And.intro hcb hcb2)
  clear hm3 hm4 hx hb hcx hcx2 hgx hgx2 hgb hgb2 hcb hcb2 hxr hbr HO HB HO4 HB4 Hr2 Hb2 Hm2 T2 Hown Hr Hone hq1 hq2 hsz hr1 hr2 h0m
  refine (newEnc_any 1 (some ⟨gx, 0, none⟩) L cx l w4 Hxr.out Hg.out T4.out (by omega)).mono ?_
  rintro e w5 ⟨ge, rfl, ht5, hm5⟩
  rw [Ho.out] at ht5
  obtain ⟨Be, hBe⟩ : ∃ Be, Be = w4.heap.size := ⟨_, rfl⟩
  obtain ⟨Ee, hEe⟩ : ∃ Ee, Ee = w5.heap.size := ⟨_, rfl⟩
  have ht5' : TskB w5 Be Ee ge (some b) L := by rw [hBe, hEe]; exact ht5
  have Hge : Hid (w4.heap.size ≤ ge ∧ w4.heap.size = Be) := Lib.hid (by have := ht5'.lt; omega)
  have He5 := Lib.hid ht5'; have Hm5 := Lib.hid (Hm4.out.trans hm5 (fun _ _ h => h)); have T5 := Lib.hid (T4.out.mod hm5)
  have Hx5 := Lib.hid (Hx4.out.mod hm5); have Hb5 := Lib.hid (Hb4.out.mod hm5); have Hl5 := Lib.hid (Hl4.out.mod hm5 (by have := Hs4.out; omega) (fun _ _ h => h)); have Hw5 := Lib.hid (Hw4.out.mod hm5 (by have := Hs4.out; omega) (fun _ _ h => h)); have Hbr5 := Lib.hid (Hbr.out.new hm5).fit
  have Hs5 : Hid (w4.heap.size ≤ w5.heap.size) := Lib.hid hm5.size
  clear ht5 ht5' hm5 hBe hEe Hx4 Hb4 Hl4 Hw4 Hm4 T4 Hxr Hbr
  go_wp2_with fail
  refine (newDec_any (some ⟨gb, 0, none⟩) N cb b (some (l, 1)) w5 Hbr5.out Hlt.out Hcb.out.1 Hcb.out.2 (by omega) T5.out Hopen.out (by intro l' t e; injection e with e; injection e with e1 e2; rw [← e1, HL.out]; omega)).mono ?_
  rintro e w6 ⟨gd, rfl, ht6, hm6⟩
  obtain ⟨Bd, hBd⟩ : ∃ Bd, Bd = w5.heap.size := ⟨_, rfl⟩
  obtain ⟨Ed, hEd⟩ : ∃ Ed, Ed = w6.heap.size := ⟨_, rfl⟩
  have ht6' : TskS w6 Bd Ed gd (some l) L := by rw [hBd, hEd]; rw [← HL.out]; exact ht6
  have Hgd : Hid (w4.heap.size ≤ gd ∧ Ee ≤ Bd ∧ Bd ≤ gd ∧ w5.heap.size = Bd ∧ Be ≤ Bd) := Lib.hid (by have := ht6'.lt; have := He5.out.lt; have := Hs5.out; have := Hge.out; omega)
  have Hd6 := Lib.hid ht6'; have He6 := Lib.hid (He5.out.new hm6); have Hm6 := Lib.hid (Hm5.out.trans hm6 (fun _ _ h => h)); have T6 := Lib.hid (T5.out.mod hm6)
  have Hx6 := Lib.hid (Hx5.out.mod hm6); have Hb6 := Lib.hid (Hb5.out.mod hm6); have Hl6 := Lib.hid (Hl5.out.mod hm6 (by have := Hs4.out; have := Hs5.out; omega) (fun _ _ h => h)); have Hw6 := Lib.hid (Hw5.out.mod hm6 (by have := Hs4.out; have := Hs5.out; omega) (fun _ _ h => h))
  have Hs6 : Hid (w5.heap.size ≤ w6.heap.size) := Lib.hid hm6.size
  clear ht6 ht6' hm6 hBd hEd He5 Hm5 T5 Hx5 Hb5 Hl5 Hw5 Hbr5 Hcb Hopen Ho
  go_wp2_with fail
  go_loopg [14, 54] L (fun gk s14 s54 wr => ∃ (i : Nat) (lx : List (Int × Nat)), i + gk = L ∧ s54 = .int .i64 (i : Int) ∧ lx.length = L ∧ OwnS w2.heap.size wr (.slice (some ⟨gx, 0, none⟩) L cx) lx ∧ Mod (fun k => k = gx) w6 wr)
  case atStart => exact ⟨0, l, by omega, rfl, HL.out, Hx6.out, Mod.refl _ _⟩
  case round =>
   obtain ⟨i, lx, hik, rfl, hlx, hox, hm⟩ := hrel
   have Hik := Lib.hid hik; have Hlx := Lib.hid hlx; have Hox := Lib.hid hox; have Hm := Lib.hid hm
   clear hik hlx hox hm
   by_cases hin : i < L
   ·have hi0 : (0 : Int) ≤ (i : Int) := by omega
    have hii : (i : Int) < (L : Int) := by omega
    obtain ⟨p, hp⟩ : ∃ p, lx[i]? = some p := ⟨lx[i]'(by rw [Hlx.out]; exact hin), List.getElem?_eq_getElem _⟩
    obtain ⟨x, hx⟩ : ∃ x : Nat, x = (p.2 + 1) % 18446744073709551616 := ⟨_, rfl⟩
    have hwx : IntKind.u64.wrap ((p.2 : Int) + 1) = (x : Int) := by rw [IntKind.wrap_u64, hx]; omega
    obtain ⟨hc, hf, hset⟩ := Hox.out.setV Hlx.out hp x
    have hat := at_gx gx i
    have Hset := Lib.hid hset; have Hp := Lib.hid hp
    clear hset hp hx
    go_wp2_with fail
    go_roundg (gk - 1)
    case measure => have := Hik.out; omega
    case rel => exact ⟨i + 1, lx.set i (p.1, x), by have := Hik.out; omega, by go_num, by rw [List.length_set]; exact Hlx.out, Hset.out, Hm.out.setCell (fun _ => rfl) _⟩
   ·obtain ⟨w7, rfl⟩ : ∃ w7, w7 = wr := ⟨_, rfl⟩
    have He7 := Lib.hid (He6.out.mod Hm.out (fun i h => by have := Hgx.out; have := Hge.out; have := Hs4.out; omega))
    have Hd7 := Lib.hid (Hd6.out.mod Hm.out (fun i h => by have := Hgx.out; have := Hgd.out; have := Hs4.out; have := Hs5.out; omega))
    have Hb7 : Hid (Own w3.heap.size w7 5 (.slice (some ⟨gb, 0, none⟩) N cb) (cells8 b)) := Lib.hid (Hm.out.owns Hb6.out (fun k hk h => by have := (Hb6.out.block k hk).1; have := Hgx.out; omega))
    have Hl7 := Lib.hid (Hl6.out.mod Hm.out (by have := Hs4.out; have := Hs5.out; have := Hs6.out; omega) (fun j hj h => by have := Hgx.out; omega))
    have Hw7 := Lib.hid (Hw6.out.mod Hm.out (by have := Hs4.out; have := Hs5.out; have := Hs6.out; omega) (fun j hj h => by have := Hgx.out; omega))
    have Hm7 := Lib.hid (Hm6.out.trans Hm.out (fun i hi h => by have := Hgx.out; have := Hs2.out; omega))
    have T7 := Lib.hid (Tabs.modS T0.out T6.out Hm.out (fun i h => by have := Hgx.out; have := Hs2.out; omega))
    have Hs7 : Hid (w6.heap.size ≤ w7.heap.size) := Lib.hid Hm.out.size
    clear He6 Hd6 Hb6 Hl6 Hw6 Hm6 T6 Hx6 Hox Hm Hlx Hik
    go_wp2_with fail
    go_loopg [15, 68] N (fun gk s15 s68 wr => ∃ (i : Nat) (bx : List Nat), i + gk = N ∧ s68 = .int .i64 (i : Int) ∧ bx.length = N ∧ Own w3.heap.size wr 5 (.slice (some ⟨gb, 0, none⟩) N cb) (cells8 bx) ∧ Mod (fun k => k = gb) w7 wr)
    case atStart => exact ⟨0, b, by omega, rfl, HN.out, Hb7.out, Mod.refl _ _⟩
    case round =>
     obtain ⟨i2, bx, hik, rfl, hbx, hob, hm⟩ := hrel
     have Hik := Lib.hid hik; have Hbx := Lib.hid hbx; have Hob := Lib.hid hob; have Hm := Lib.hid hm
     clear hik hbx hob hm
     by_cases hin2 : i2 < N
     ·have hi0 : (0 : Int) ≤ (i2 : Int) := by omega
      have hii : (i2 : Int) < (N : Int) := by omega
      obtain ⟨y, hy, hcy⟩ := own_at Hob.out Hbx.out.symm hin2
      obtain ⟨x, hx⟩ : ∃ x : Nat, x = (y + 1) % 256 := ⟨_, rfl⟩
      have hwx : IntKind.u8.wrap ((y : Int) + 1) = (x : Int) := by rw [IntKind.wrap_u8', hx]; omega
      obtain ⟨_, hf, hset⟩ := own_set (b := x) Hob.out Hbx.out.symm hin2
      have Hset := Lib.hid hset
      clear hset hy hx
      go_wp2_with fail
      go_roundg (gk - 1)
      case measure => have := Hik.out; omega
      case rel => exact ⟨i2 + 1, bx.set i2 x, by have := Hik.out; omega, by go_num, by rw [List.length_set]; exact Hbx.out, Hset.out, Hm.out.setCell (fun _ => rfl) _⟩
     ·obtain ⟨w8, rfl⟩ : ∃ w8, w8 = wr := ⟨_, rfl⟩
      have He8 := Lib.hid (He7.out.mod Hm.out (fun i h => by have := Hgb.out; have := Hge.out; have := Hs4.out; omega))
      have Hd8 := Lib.hid (Hd7.out.mod Hm.out (fun i h => by have := Hgb.out; have := Hgd.out; have := Hs4.out; have := Hs5.out; omega))
      have Hl8 := Lib.hid (Hl7.out.mod Hm.out (by have := Hs4.out; have := Hs5.out; have := Hs6.out; have := Hs7.out; omega) (fun j hj h => by have := Hgb.out; have := Hs4.out; omega))
      have Hw8 := Lib.hid (Hw7.out.mod Hm.out (by have := Hs4.out; have := Hs5.out; have := Hs6.out; have := Hs7.out; omega) (fun j hj h => by have := Hgb.out; have := Hs4.out; omega))
      have Hm8 := Lib.hid (Hm7.out.trans Hm.out (fun i hi h => by have := Hgb.out; have := Hs4.out; have := Hs2.out; omega))
      have T8 := Lib.hid (Tabs.modS T0.out T7.out Hm.out (fun i h => by have := Hgb.out; have := Hs4.out; have := Hs2.out; omega))
      have Hs8 : Hid (w2.heap.size ≤ w8.heap.size) := Lib.hid (by have := Hm.out.size; have := Hs4.out; have := Hs5.out; have := Hs6.out; have := Hs7.out; omega)
      clear He7 Hd7 Hb7 Hl7 Hw7 Hm7 T7 Hob Hm Hbx Hik
      go_wp2_with fail
      go_loopg [16] 100 (fun gk s16 wr => ∃ i : Nat, i + gk = 100 ∧ s16 = .int .i64 (i : Int) ∧ TskB wr Be Ee ge (some b) (L - i) ∧ TskS wr Bd Ed gd (some l) (L - i) ∧ Mod (fun k => k = ge ∨ k = gd) w8 wr)
      case atStart => exact ⟨0, by omega, rfl, He8.out, Hd8.out, Mod.refl _ _⟩
      case round =>
       obtain ⟨i3, hik, rfl, hte, htd, hm⟩ := hrel
       have Hik := Lib.hid hik; have Hte := Lib.hid hte; have Htd := Lib.hid htd; have Hm := Lib.hid hm
       clear hik hte htd hm
       by_cases hin3 : i3 < 100
       ·go_wp2_with fail
        refine (estep_any Be Ee ge (L - i3) (some b) 1 wr Hte.out (by omega)).mono ?_
        rintro e wa ⟨rfl, hta, hma⟩
        rw [lessS_one] at hta
        have Hta := Lib.hid hta; have Htd1 := Lib.hid (Htd.out.mod hma (fun i h => by have := Hgd.out; have := Hte.out.lt; omega)); have Hma := Lib.hid (Hm.out.trans hma (fun _ _ h => .inl h))
        clear hta hma Hte Htd Hm
        go_wp2_with fail
        refine (dstep_any Bd Ed gd (L - i3) (some l) 1 wa Htd1.out (by omega)).mono ?_
        rintro e wb ⟨rfl, htb, hmb⟩
        rw [lessS_one] at htb
        have Htb := Lib.hid htb; have Hta1 := Lib.hid (Hta.out.mod hmb (fun i h => by have := Hgd.out; omega)); have Hmb := Lib.hid (Hma.out.trans hmb (fun _ _ h => .inr h))
        clear htb hmb Hta Htd1 Hma
        go_wp2_with fail
        go_roundg (gk - 1)
        case measure => have := Hik.out; omega
        case rel => exact ⟨i3 + 1, by have := Hik.out; omega, by go_num, Hta1.out, Htb.out, Hmb.out⟩
       ·go_wp2_with fail
        have h0 : L - i3 = 0 := by have := Hik.out; omega
        have Hte0 : Hid (TskB wr Be Ee ge (some b) 0) := Lib.hid (by have := Hte.out; rwa [h0] at this)
        have Htd0 : Hid (TskS wr Bd Ed gd (some l) 0) := Lib.hid (by have := Htd.out; rwa [h0] at this)
        have hS : ∀ i, (i = ge ∨ i = gd) → w4.heap.size ≤ i := fun i h => by have := Hge.out; have := Hgd.out; omega
        have Hl9 := Lib.hid (Hl8.out.mod Hm.out Hs8.out (fun j hj h => by have := hS j h; have := Hs4.out; omega))
        have Hw9 := Lib.hid (Hw8.out.mod Hm.out Hs8.out (fun j hj h => by have := hS j h; have := Hs4.out; omega))
        have Hm9 := Lib.hid (Hm8.out.trans Hm.out (fun i hi h => by have := hS i h; have := Hs4.out; have := Hs2.out; omega))
        have T9 := Lib.hid (Tabs.modS T0.out T8.out Hm.out (fun i h => by have := hS i h; have := Hs4.out; have := Hs2.out; omega))
        have Hs9 : Hid (w2.heap.size ≤ wr.heap.size) := Lib.hid (Nat.le_trans Hs8.out Hm.out.size)
        clear Hte Htd Hl8 Hw8 Hm8 T8 Hm h0 hS He8 Hd8
        refine (edone_any Be Ee ge 0 (some b) wr Hte0.out).mono ?_
        intro e wa he
        rw [if_pos rfl] at he
        obtain ⟨va, rfl, hoa, hma⟩ := EncB.some_ he rfl
        obtain ⟨Aa, ca, rfl, _, _, _⟩ := u_formN8 hoa HN.out
        have Hca := Lib.hid (Own.rds8 hoa HN.out)
        have Hla := Lib.hid (Hl9.out.mod hma Hs9.out (fun _ _ h => h)); have Hwa := Lib.hid (Hw9.out.mod hma Hs9.out (fun _ _ h => h)); have Hma := Lib.hid (Hm9.out.trans hma (fun _ _ h => h)); have Ta := Lib.hid (T9.out.mod hma)
        have Hda := Lib.hid (Htd0.out.new hma); have Hsa : Hid (w2.heap.size ≤ wa.heap.size) := Lib.hid (Nat.le_trans Hs9.out hma.size)
        clear he hoa hma Hte0 Htd0 Hl9 Hw9 Hm9 T9
        go_wp2_with fail
        refine (ddone_any Bd Ed gd 0 (some l) wa Hda.out).mono ?_
        intro e wb he
        rw [if_pos rfl] at he
        obtain ⟨vb, rfl, hob, hmb⟩ := EncS.some_ he rfl
        obtain ⟨gy, cy, rfl, _, _, hgy, hgy2⟩ := hob.form' (by rw [HL.out]; exact hL0)
        rw [HL.out] at hob
        rw [HL.out]
        have Hgy : Hid (wa.heap.size ≤ gy ∧ gy < wb.heap.size) := Lib.hid ⟨hgy, hgy2⟩
        have Hyb : Hid (OwnS wa.heap.size wb (.slice (some ⟨gy, 0, none⟩) L cy) l) := Lib.hid hob
        have Hcb := Lib.hid (Hca.out.new hmb)
        have Hlb := Lib.hid (Hla.out.mod hmb Hsa.out (fun _ _ h => h)); have Hwb := Lib.hid (Hwa.out.mod hmb Hsa.out (fun _ _ h => h)); have Hmb := Lib.hid (Hma.out.trans hmb (fun _ _ h => h)); have Tb := Lib.hid (Ta.out.mod hmb)
        have Hdb := Lib.hid (Hda.out.new hmb); have HEd : Hid (Ed ≤ wa.heap.size) := Lib.hid (by have := Hda.out.lt; omega); have Hsb : Hid (wa.heap.size ≤ wb.heap.size) := Lib.hid hmb.size
        clear he hob hmb hgy hgy2 Hca Hla Hwa Hma Ta Hda
        go_wp2_with fail
        go_loopg [21, 98] L (fun gk s21 s98 wr => ∃ (i : Nat) (lx : List (Int × Nat)), i + gk = L ∧ s98 = .int .i64 (i : Int) ∧ lx.length = L ∧ OwnS wa.heap.size wr (.slice (some ⟨gy, 0, none⟩) L cy) lx ∧ Mod (fun k => k = gy) wb wr)
        case atStart => exact ⟨0, l, by omega, rfl, HL.out, Hyb.out, Mod.refl _ _⟩
        case round =>
         obtain ⟨i4, lx, hik, rfl, hlx, hox, hm⟩ := hrel
         have Hik := Lib.hid hik; have Hlx := Lib.hid hlx; have Hox := Lib.hid hox; have Hm := Lib.hid hm
         clear hik hlx hox hm
         by_cases hin4 : i4 < L
         ·have hi0 : (0 : Int) ≤ (i4 : Int) := by omega
          have hii : (i4 : Int) < (L : Int) := by omega
          obtain ⟨p, hp⟩ : ∃ p, lx[i4]? = some p := ⟨lx[i4]'(by rw [Hlx.out]; exact hin4), List.getElem?_eq_getElem _⟩
          obtain ⟨hc, hf, hset⟩ := Hox.out.setT Hlx.out hp 5
          have hat := at_gx gy i4
          have Hset := Lib.hid hset
          clear hset hp
          go_wp2_with fail
          go_roundg (gk - 1)
          case measure => have := Hik.out; omega
          case rel => exact ⟨i4 + 1, lx.set i4 (5, p.2), by have := Hik.out; omega, by go_num, by rw [List.length_set]; exact Hlx.out, Hset.out, Hm.out.setCell (fun _ => rfl) _⟩
         ·have Hlc := Lib.hid (Hlb.out.mod Hm.out (by have := Hsa.out; have := Hsb.out; omega) (fun j hj h => by have := Hgy.out; have := Hsa.out; omega))
          have Hwc := Lib.hid (Hwb.out.mod Hm.out (by have := Hsa.out; have := Hsb.out; omega) (fun j hj h => by have := Hgy.out; have := Hsa.out; omega))
          have Hcc := Lib.hid (Hcb.out.mod Hm.out Hsb.out (fun j hj h => by have := Hgy.out; omega))
          have Hdc := Lib.hid (Hdb.out.mod Hm.out (fun i h => by have := Hgy.out; have := HEd.out; omega))
          have Hmc := Lib.hid (Hmb.out.trans Hm.out (fun i hi h => by have := Hgy.out; have := Hsa.out; have := Hs2.out; omega))
          have Tc := Lib.hid (Tabs.modS T0.out Tb.out Hm.out (fun i h => by have := Hgy.out; have := Hsa.out; have := Hs2.out; omega))
          clear Hlb Hwb Hcb Hdb Hmb Tb Hyb Hox Hm Hlx Hik
          go_wp2_with fail
          refine (ddone_any Bd Ed gd 0 (some l) wr Hdc.out).mono ?_
          intro e wd he
          rw [if_pos rfl] at he
          obtain ⟨vd, rfl, hod, hmd⟩ := EncS.some_ he rfl
          obtain ⟨Ad, Ld, cd, rfl, HLd, _, _, hrd⟩ := hod.formN
          obtain rfl : Ld = L := by have := HLd.out; have := HL.out; omega
          have Hrd := Lib.hid hrd
          have Hld := Lib.hid (Hlc.out.fit.new hmd).fit; have hwd := (Hwc.out.fit.new hmd).fit; have hcd := (Hcc.out.fit.new hmd).fit; have Hmd := Lib.hid (Hmc.out.trans hmd (fun _ _ h => h)); have Td := Lib.hid (Tc.out.mod hmd)
          obtain ⟨s, hss⟩ : ∃ s, strOf b = s := ⟨_, rfl⟩
          have hcv1 : (convert 26 9 (.slice Aa N ca)).run Tryz.prog wd = .ok (.string s) wd := by
           rw [← hss]
           exact conv_rds Tryz.underlying26 Tryz.underlying5 Tryz.underlying9 wd hcd Hlt.out
          have hcv2 : (convert 26 9 (.slice A3 N c3)).run Tryz.prog wd = .ok (.string s) wd := by
           rw [← hss]
           exact conv_rds Tryz.underlying26 Tryz.underlying5 Tryz.underlying9 wd hwd Hlt.out
          have hstr : (s.toList == s.toList) = true := by simp
          clear he hod hmd hrd hwd hcd hss Hlc Hwc Hcc Hdc Hmc Tc
          go_wp2_with fail
          refine (sameS_any Ad A1 Ld Ld cd c1 _ _ l l true wd Hrd.out Hld.out (by omega) (by simp)).mono ?_
          rintro e we ⟨rfl, hme⟩
          have Te := Lib.hid (Td.out.mod hme); have Hme := Lib.hid (Hmd.out.trans hme (fun _ _ h => h))
          clear hme Td Hmd Hrd Hld hcv1 hcv2
          go_wp2_with fail
          refine (wawake_any we Te.out).mono ?_
          rintro e wf ⟨rfl, hmf⟩
          have Hmf := Lib.hid (Hme.out.trans hmf (fun _ _ h => h))
          clear hmf
          go_wp2_with fail
          go_ret
          exact ⟨rfl, Hmf.out⟩
end Go.Proofs.YthgoppmgapaajaaGreatDoor

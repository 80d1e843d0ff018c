/- DireMany's walk. -/
import Derived.Test.YteegdbbmamabiaaMx1
import Derived.Test.YteegdbbmamabiaaMx2
namespace Go.Proofs.Yteegdbbmamabiaa
open Go.RowKit

/-- Who takes which. -/
def byF (zs : List Int) (n : Nat) (i : Nat) : Int := if i < n then zs.getD i 0 % 8 else (i : Int) % 8
set_option maxHeartbeats 1000000 in
theorem diBy_any {A0 : Option Addr} {n0 c0 gb i : Nat} {zs : List Int} (w : World) (hs : SeesI .i64 w w.heap.size A0 n0 zs) (hb : Blk w gb 22 #[.slice A0 n0 c0]) (hi : i < 16) :
    Calls Try.prog 13 #[.int .i64 (i : Int), .pointer (some ⟨gb, 0, none⟩)] w fun e w' => e = .returned (.int .i64 (byF zs n0 i)) ∧ Mod (fun _ => False) w w' := by
  have z0 := hb.cell 0
  simp at z0
  have hi0 : (0 : Int) ≤ (i : Int) := by omega
  by_cases h : i < n0
  · obtain ⟨ad, x, rfl, hx, hc⟩ := hs.at_ (w' := w) h (Nat.le_refl _) (Mod.refl (fun _ => False) w) (fun _ _ h => h)
    have e : byF zs n0 i = x % 8 := by unfold byF; rw [if_pos h, List.getD_eq_getElem?_getD, hx]; rfl
    rw [e]
    have hm := i64_and7 x
    have hin : (i : Int) < (n0 : Int) := by omega
    clear hs hb hx e h
    go_enter Try.func13, Try.ntmps13
    go_wp2_with fail
    go_ret
    exact ⟨rfl, Mod.refl _ _⟩
  · have e : byF zs n0 i = (i : Int) % 8 := by unfold byF; rw [if_neg h]
    rw [e]
    have hm := i64_and7 (i : Int)
    have hin : ¬ (i : Int) < (n0 : Int) := by omega
    clear hs hb e h
    go_enter Try.func13, Try.ntmps13
    go_wp2_with fail
    go_ret
    exact ⟨rfl, Mod.refl _ _⟩
theorem perm_and {k o q : Nat} (hq : permD o k = q) : bits .and .i64 ((k : Int) * 5 + (o : Int)) 15 = (q : Int) := by
  refine (i64_mask _ 15 4 rfl (by omega)).trans ?_
  rw [← hq]
  unfold permD
  omega
set_option maxHeartbeats 16000000 in
set_option maxRecDepth 100000 in
theorem dimany_walk (A0 : Option Addr) (n0 c0 : Nat) (zs : List Int) (a1 : Int) (v : World) (hs : SeesI .i64 v v.heap.size A0 n0 zs) : Calls Try.prog 5 #[.slice A0 n0 c0, .int .i64 a1] v fun e w' => e = .returned (.bool true) ∧ Mod (fun _ => False) v w' := by
  obtain ⟨w, hW, hmW, hbW, hzW⟩ := new_box v 22 #[.slice A0 n0 c0]
  obtain ⟨gb, hgb⟩ : ∃ x, x = v.heap.size := ⟨_, rfl⟩
  rw [← hgb] at hbW hzW
  have HW := Lib.hid hW; have Hgb := Lib.hid hgb; have HmW := Lib.hid hmW
  obtain ⟨f, hf⟩ : ∃ f, f = byF zs n0 := ⟨_, rfl⟩
  have HBY : Hid (∀ w1, Mod (fun _ => False) w w1 → ∀ i : Nat, i < 16 → Calls Try.prog 13 #[.int .i64 (i : Int), .pointer (some ⟨gb, 0, none⟩)] w1 fun e w' => e = .returned (.int .i64 (f i)) ∧ Mod (fun _ => False) w1 w') := Lib.hid (fun w1 h1 i hi => by
    rw [hf]
    refine diBy_any w1 ?_ (h1.blk hbW (fun h => h)) hi
    refine ⟨hs.1, fun h0 => ?_⟩
    obtain ⟨ad, e, hlt, hc⟩ := hs.2 h0
    have h2 := hmW.trans h1 (fun _ _ h => h)
    exact ⟨ad, e, Nat.lt_of_lt_of_le hlt h2.size, fun j u hu => cell_new h2 (hc j u hu)⟩)
  obtain ⟨o, ho⟩ : ∃ o : Nat, a1 % 16 = (o : Int) := ⟨(a1 % 16).toNat, by omega⟩
  have m1 : bits .and .i64 a1 15 = (o : Int) := by rw [← ho]; exact i64_mask a1 15 4 rfl (by omega)
  have Ho : Hid (o < 16) := Lib.hid (by omega)
  clear hs hW hmW hbW hzW hgb hf ho
  go_enter Try.func5, Try.ntmps5
  go_upto_region 1 with fail
  rw [← HW.out, ← Hgb.out]
  go_wp2_with fail
  refine (diNew_any w).mono ?_
  rintro e w0 ⟨g, rfl, hc, hm0, hg0⟩
  have HD0 : Hid (DirV (fun _ => True) g 0 w0 newD) := Lib.hid (hc _)
  have HM0 := Lib.hid hm0
  have HNew : Hid (w.heap.size ≤ g) := Lib.hid hg0
  clear hc hm0 hg0
  go_wp2_with fail
  go_loopg [7] 16 (fun gk s7 wr => ∃ (k : Nat) (d : DirN), k + gk = 16 ∧ s7 = .int .i64 (k : Int) ∧ DirV (fun _ => True) g k wr d ∧ TookD f k d ∧ Mod (fun _ => False) w wr)
  case atStart => exact ⟨0, newD, by omega, rfl, HD0.out, took_new f, HM0.out⟩
  case round =>
    obtain ⟨k, d4, hk, rfl, hd, ht, hm⟩ := hrel
    obtain ⟨w1, rfl⟩ : ∃ w9, w9 = wr := ⟨_, rfl⟩
    have HD1 := Lib.hid hd; have HM1 := Lib.hid hm; have Hk := Lib.hid ht
    clear hd hm ht HD0 HM0
    by_cases hin : k < 16
    · obtain ⟨d1, e1, hk1⟩ := took_step Hk.out hin
      have E1 := Lib.hid e1; have Hk1 := Lib.hid hk1
      have hin' : (k : Int) < 16 := by omega
      clear e1 hk1
      go_wp2_with fail
      refine (HBY.out w1 HM1.out k (by first | omega | exact perm_lt _ _)).mono ?_
      rintro e w2 ⟨rfl, h2⟩
      have HD2 := Lib.hid (HD1.out.new h2)
      have HM2 : Hid (Mod (fun _ => False) w w2) := Lib.hid (HM1.out.trans h2 (fun _ _ h => h))
      clear h2
      go_wp2_with fail
      refine (call_dtake (ok := true) E1.out HD2.out (by omega)).mono ?_
      rintro e w3 ⟨rfl, h1, h2⟩
      have HD3 : Hid (DirV (fun _ => True) g (k + 1) w3 (d1)) := Lib.hid h1
      have HM3 : Hid (Mod (fun _ => False) w w3) := Lib.hid (HM2.out.trans h2 (fun i hi h => by have := HNew.out; omega))
      have HS3 : Hid (Mod (fun j => j = g) w2 w3) := Lib.hid (h2)
      clear h1 h2
      go_wp2_with fail
      go_roundg (gk - 1)
      case measure => omega
      case rel => exact ⟨k + 1, d1, by omega, by go_num, HD3.out, Hk1.out, HM3.out⟩
    · obtain rfl : k = 16 := by omega
      clear hin
      have H16 := Lib.hid Hk.out
      clear Hk
      go_wp2_with fail
      go_loopg [8, 9, 10] 16 (fun gk s8 s9 s10 wr => ∃ (k : Nat), k + gk = 16 ∧ s8 = .int .i64 (k : Int) ∧ DirV (fun _ => True) g (16 + k) wr d4 ∧ Mod (fun _ => False) w wr)
      case atStart => exact ⟨0, by omega, rfl, HD1.out, HM1.out⟩
      case round =>
        obtain ⟨k, hk, rfl, hd, hm⟩ := hrel
        obtain ⟨w4, rfl⟩ : ∃ w9, w9 = wr := ⟨_, rfl⟩
        have HD4 := Lib.hid hd; have HM4 := Lib.hid hm
        clear hd hm HD1 HM1
        by_cases hin : k < 16
        · obtain ⟨e1, e2⟩ := took_all H16.out hin (f k)
          have E1 := Lib.hid e1; have E2 := Lib.hid e2
          have hin' : (k : Int) < 16 := by omega
          clear e1 e2
          go_wp2_with fail
          refine (call_dlook (s := zeroSlot) (o := none) (ok := false) E1.out rfl rfl HD4.out (by omega)).mono ?_
          rintro e v5 ⟨A5, n5, c5, P5, m5, d5, rfl, hz, ho, hp, hd, hm⟩
          obtain ⟨w5, hW, hmW, hbW, hzW⟩ := new_box v5 32 #[.bool zeroSlot.there, .bool zeroSlot.shut, .int .i64 zeroSlot.life, .int .i64 zeroSlot.ver, .bool zeroSlot.opn.any, .int .i64 zeroSlot.opn.last, .slice A5 n5 c5, .slice P5 m5 d5]
          obtain ⟨g5, hg⟩ : ∃ x, x = v5.heap.size := ⟨_, rfl⟩
          rw [← hg] at hbW hzW
          have HD5 : Hid (DirV (fun _ => True) g (16 + k) w5 (d4)) := Lib.hid (hd.new hmW)
          have HM5 : Hid (Mod (fun _ => False) w w5) := Lib.hid (HM4.out.trans (hm.trans hmW (fun _ _ h => h)) (fun _ _ h => h))
          have HS5 : Hid (Mod (fun j => j = g) w4 w5) := Lib.hid ((hm.trans hmW (fun _ _ h => h)).mono (fun _ _ h => h.elim))
          have HO5 : Hid (OwnS w4.heap.size w5 (.slice A5 n5 c5) (zeroSlot).opn.list) := Lib.hid (hmW.owns ho (fun _ _ h => h))
          have HP5 : Hid (OwnPt w4.heap.size w5 40 (.slice P5 m5 d5) (zeroSlot).chunks) := Lib.hid (OwnPt.mod hp hmW)
          have HZ5 := Lib.hid hz
          have Hlt5 : Hid (g < w4.heap.size ∧ w4.heap.size ≤ g5 ∧ g5 < w5.heap.size) := Lib.hid ⟨HD4.out.lt, by have := hm.size; omega, by omega⟩
          have HB5 : Hid (∀ W', Mod (fun j => j = g) w5 W' → Blk W' g5 32 #[.bool zeroSlot.there, .bool zeroSlot.shut, .int .i64 zeroSlot.life, .int .i64 zeroSlot.ver, .bool zeroSlot.opn.any, .int .i64 zeroSlot.opn.last, .slice A5 n5 c5, .slice P5 m5 d5]) := Lib.hid (fun W' h => h.blk hbW (fun e => by have := Hlt5.out; omega))
          have HW := Lib.hid hW; have Hg := Lib.hid hg
          clear hz ho hp hd hm hW hmW hbW hzW hg
          go_upto_region 14 with fail
          rw [← HW.out, ← Hg.out]
          clear HW Hg
          go_wp2_with fail
          refine (HBY.out w5 HM5.out k (by first | omega | exact perm_lt _ _)).mono ?_
          rintro e w6 ⟨rfl, h2⟩
          have HD6 := Lib.hid (HD5.out.new h2)
          have HM6 : Hid (Mod (fun _ => False) w w6) := Lib.hid (HM5.out.trans h2 (fun _ _ h => h))
          clear h2
          go_wp2_with fail
          refine (call_dtake (ok := false) E2.out HD6.out (by omega)).mono ?_
          rintro e w7 ⟨rfl, h1, h2⟩
          have HD7 : Hid (DirV (fun _ => True) g (16 + k + 1) w7 (d4)) := Lib.hid h1
          have HM7 : Hid (Mod (fun _ => False) w w7) := Lib.hid (HM6.out.trans h2 (fun i hi h => by have := HNew.out; omega))
          have HS7 : Hid (Mod (fun j => j = g) w6 w7) := Lib.hid (h2)
          clear h1 h2
          go_wp2_with fail
          go_roundg (gk - 1)
          case measure => omega
          case rel => exact ⟨k + 1, by omega, by go_num, HD7.out, HM7.out⟩
        · obtain rfl : k = 16 := by omega
          clear hin
          go_wp2_with fail
          go_loopg [11, 12, 13, 14, 15, 16] 16 (fun gk s11 s12 s13 s14 s15 s16 wr => ∃ (k : Nat) (d8 : DirN), k + gk = 16 ∧ s11 = .int .i64 (k : Int) ∧ DirV (fun _ => True) g (32 + k) wr d8 ∧ LeftD f o k d8 ∧ Mod (fun _ => False) w wr)
          case atStart => exact ⟨0, d4, by omega, rfl, HD4.out, left_new o H16.out, HM4.out⟩
          case round =>
            obtain ⟨k, d8, hk, rfl, hd, hl, hm⟩ := hrel
            obtain ⟨w8, rfl⟩ : ∃ w9, w9 = wr := ⟨_, rfl⟩
            have HD8 := Lib.hid hd; have HM8 := Lib.hid hm; have Hl8 := Lib.hid hl
            clear hd hm hl HD4 HM4
            by_cases hin : k < 16
            · obtain ⟨q, hq⟩ : ∃ q, permD o k = q := ⟨_, rfl⟩
              obtain ⟨d9, e1, e2, e3, e4⟩ := left_step Hl8.out hin { zeroSlot with life := (q : Int) + 1 }
              rw [hq] at e1 e2 e4
              have hq16 : q < 16 := by rw [← hq]; exact perm_lt _ _
              have hw1 : IntKind.i64.wrap ((k : Int) * 5) = (k : Int) * 5 := IntWalk.i64_in _ (by omega)
              have hw2 : IntKind.i64.wrap ((k : Int) * 5 + (o : Int)) = (k : Int) * 5 + (o : Int) := IntWalk.i64_in _ (by have := Ho.out; omega)
              have hand := perm_and hq
              have hw3 : IntKind.i64.wrap ((q : Int) + 1) = (q : Int) + 1 := IntWalk.i64_in _ (by omega)
              have E1 := Lib.hid e1; have E2 := Lib.hid e2; have Hl9 := Lib.hid e3; have E4 := Lib.hid e4; have Hq16 := Lib.hid hq16; have Hq := Lib.hid hq
              have hin' : (k : Int) < 16 := by omega
              have hqi : (q : Int) < 16 := by omega
              obtain ⟨x, hx⟩ : ∃ x, f q = x := ⟨_, rfl⟩
              rw [hx] at e1 e2
              have Hx := Lib.hid hx; have E1 := Lib.hid e1; have E2 := Lib.hid e2
              clear e1 e2 e3 e4 hq16 hq hx
              go_wp2_with fail
              refine (call_dflag (o := some x) (v := x) (ok := true) E1.out rfl rfl HD8.out (by omega)).mono ?_
              rintro e w9 ⟨rfl, h1, h2⟩
              have HD9 : Hid (DirV (fun _ => True) g (32 + k) w9 (d8)) := Lib.hid h1
              have HM9 : Hid (Mod (fun _ => False) w w9) := Lib.hid (HM8.out.trans h2 (fun _ _ h => h))
              have HS9 : Hid (Mod (fun j => j = g) w8 w9) := Lib.hid (h2.mono (fun _ _ h => h.elim))
              clear h1 h2
              go_wp2_with fail
              refine (HBY.out w9 HM9.out q (by first | omega | exact perm_lt _ _)).mono ?_
              rintro e w10 ⟨rfl, h2⟩
              rw [Hx.out]
              have HD10 := Lib.hid (HD9.out.new h2)
              have HM10 : Hid (Mod (fun _ => False) w w10) := Lib.hid (HM9.out.trans h2 (fun _ _ h => h))
              clear h2
              go_wp2_with fail
              refine (HBY.out w10 HM10.out q (by first | omega | exact perm_lt _ _)).mono ?_
              rintro e w11 ⟨rfl, h2⟩
              rw [Hx.out]
              have HD11 := Lib.hid (HD10.out.new h2)
              have HM11 : Hid (Mod (fun _ => False) w w11) := Lib.hid (HM10.out.trans h2 (fun _ _ h => h))
              clear h2
              go_wp2_with fail
              refine (call_dleave (s := { zeroSlot with life := (q : Int) + 1 }) (A := none) (A2 := none) (n := 0) (n2 := 0) (c := 0) (c2 := 0) (ok := true) E2.out HD11.out (by omega) ⟨RdsS.nil _ _ _, RdsPt.nil _ _ _, by omega, by omega⟩ (fun _ _ => trivial)).mono ?_
              rintro e w12 ⟨rfl, h1, h2⟩
              have HD12 : Hid (DirV (fun _ => True) g (32 + k + 1) w12 (d9)) := Lib.hid h1
              have HM12 : Hid (Mod (fun _ => False) w w12) := Lib.hid (HM11.out.trans h2 (fun i hi h => by have := HNew.out; omega))
              have HS12 : Hid (Mod (fun j => j = g) w11 w12) := Lib.hid (h2)
              clear h1 h2
              go_wp2_with fail
              refine (call_dlook (s := ({ zeroSlot with life := (q : Int) + 1, ver := 2 } : SlotN)) (o := some { zeroSlot with life := (q : Int) + 1, ver := 2 }) (ok := true) E4.out rfl rfl HD12.out (by omega)).mono ?_
              rintro e v13 ⟨A13, n13, c13, P13, m13, d13, rfl, hz, ho, hp, hd, hm⟩
              obtain ⟨w13, hW, hmW, hbW, hzW⟩ := new_box v13 32 #[.bool ({ zeroSlot with life := (q : Int) + 1, ver := 2 } : SlotN).there, .bool ({ zeroSlot with life := (q : Int) + 1, ver := 2 } : SlotN).shut, .int .i64 ({ zeroSlot with life := (q : Int) + 1, ver := 2 } : SlotN).life, .int .i64 ({ zeroSlot with life := (q : Int) + 1, ver := 2 } : SlotN).ver, .bool ({ zeroSlot with life := (q : Int) + 1, ver := 2 } : SlotN).opn.any, .int .i64 ({ zeroSlot with life := (q : Int) + 1, ver := 2 } : SlotN).opn.last, .slice A13 n13 c13, .slice P13 m13 d13]
              obtain ⟨g13, hg⟩ : ∃ x, x = v13.heap.size := ⟨_, rfl⟩
              rw [← hg] at hbW hzW
              have HD13 : Hid (DirV (fun _ => True) g (32 + k + 1) w13 (d9)) := Lib.hid (hd.new hmW)
              have HM13 : Hid (Mod (fun _ => False) w w13) := Lib.hid (HM12.out.trans (hm.trans hmW (fun _ _ h => h)) (fun _ _ h => h))
              have HS13 : Hid (Mod (fun j => j = g) w12 w13) := Lib.hid ((hm.trans hmW (fun _ _ h => h)).mono (fun _ _ h => h.elim))
              have HO13 : Hid (OwnS w12.heap.size w13 (.slice A13 n13 c13) (({ zeroSlot with life := (q : Int) + 1, ver := 2 } : SlotN)).opn.list) := Lib.hid (hmW.owns ho (fun _ _ h => h))
              have HP13 : Hid (OwnPt w12.heap.size w13 40 (.slice P13 m13 d13) (({ zeroSlot with life := (q : Int) + 1, ver := 2 } : SlotN)).chunks) := Lib.hid (OwnPt.mod hp hmW)
              have HZ13 := Lib.hid hz
              have Hlt13 : Hid (g < w12.heap.size ∧ w12.heap.size ≤ g13 ∧ g13 < w13.heap.size) := Lib.hid ⟨HD12.out.lt, by have := hm.size; omega, by omega⟩
              have HB13 : Hid (∀ W', Mod (fun j => j = g) w13 W' → Blk W' g13 32 #[.bool ({ zeroSlot with life := (q : Int) + 1, ver := 2 } : SlotN).there, .bool ({ zeroSlot with life := (q : Int) + 1, ver := 2 } : SlotN).shut, .int .i64 ({ zeroSlot with life := (q : Int) + 1, ver := 2 } : SlotN).life, .int .i64 ({ zeroSlot with life := (q : Int) + 1, ver := 2 } : SlotN).ver, .bool ({ zeroSlot with life := (q : Int) + 1, ver := 2 } : SlotN).opn.any, .int .i64 ({ zeroSlot with life := (q : Int) + 1, ver := 2 } : SlotN).opn.last, .slice A13 n13 c13, .slice P13 m13 d13]) := Lib.hid (fun W' h => h.blk hbW (fun e => by have := Hlt13.out; omega))
              have HW := Lib.hid hW; have Hg := Lib.hid hg
              clear hz ho hp hd hm hW hmW hbW hzW hg
              go_upto_region 24 with fail
              rw [← HW.out, ← Hg.out]
              clear HW Hg
              have t2 := (HB13.out w13 (Mod.refl _ _)).cell 2
              have t3 := (HB13.out w13 (Mod.refl _ _)).cell 3
              simp at t2 t3
              go_wp2_with fail
              go_roundg (gk - 1)
              case measure => omega
              case rel => exact ⟨k + 1, d9, by omega, by go_num, HD13.out, Hl9.out, HM13.out⟩
            · obtain rfl : k = 16 := by omega
              clear hin
              go_wp2_with fail
              refine (diAwake_any w8).mono ?_
              rintro e w99 ⟨rfl, h2⟩
              have HM99 : Hid (Mod (fun _ => False) v w99) := Lib.hid (HmW.out.trans (HM8.out.trans h2 (fun _ _ h => h)) (fun _ _ h => h))
              clear h2
              go_wp2_with fail
              go_ret
              exact ⟨rfl, HM99.out⟩
end Go.Proofs.Yteegdbbmamabiaa

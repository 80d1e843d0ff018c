/- DireOwn's walk. -/
import Derived.Test.YteegdbbmamabiaaMx1
import Derived.Test.YteegdbbmamabiaaMx2
namespace Go.Proofs.Yteegdbbmamabiaa
open Go.RowKit

/-- The law's slot: these samples, one part. -/
def ownX (l : List (Int × Nat)) (v : Int) : SlotN := ⟨true, false, 0, v, ⟨true, 0, l⟩, [⟨7, 0, 0, 0, 0⟩]⟩
theorem rds_lit1 {w : World} {g : Nat} {t : TypeId} (hb : Blk w g t #[.int .i64 7, .int .i64 0, .int .i64 0, .int .i64 0, .int .i64 0]) : RdsPt w w.heap.size (some ⟨g, 0, none⟩) 1 [⟨7, 0, 0, 0, 0⟩] := by
  refine ⟨rfl, partC_all _, rfl, fun _ => ⟨_, rfl, hb.lt, fun j u hu => ?_⟩⟩
  rw [add_addr, Nat.zero_add, hb.cell j]
  have e : ([⟨7, 0, 0, 0, 0⟩] : List PartN).map partC = [[.int .i64 7, .int .i64 0, .int .i64 0, .int .i64 0, .int .i64 0]] := rfl
  rw [e] at hu
  simpa using hu
theorem DirV.far {B : Nat → Prop} {g N : Nat} {w w' : World} {d : DirN} {S : Nat → Prop} (h : DirV B g N w d) (hm : Mod S w w') (hg : ¬ S g) (hS : ∀ k, B k → ¬ S k) : DirV B g N w' d := h.modS hm hg (fun k _ _ hB _ _ => hS k hB)
theorem at_g5 (g k : Nat) : (⟨g, 0, none⟩ : Addr).add (k * 5) = ⟨g, k * 5, none⟩ := by rw [add_addr, Nat.zero_add]
set_option maxHeartbeats 16000000 in
set_option maxRecDepth 100000 in
theorem diown_walk (A0 : Option Addr) (n0 c0 : Nat) (l : List (Int × Nat)) (w : World) (hs : RdsS w w.heap.size A0 n0 l) : Calls Try.prog 4 #[.slice A0 n0 c0] w fun e w' => e = .returned (.bool true) ∧ Mod (fun _ => False) w w' := by
  have Hs := Lib.hid hs; have Hll := Lib.hid hs.1
  have hcs : Try.prog.cellsOf 43 = 2 := by kernel_rfl
  have hcp : Try.prog.cellsOf 40 = 5 := by kernel_rfl
  clear hs
  rcases Nat.lt_or_ge 50 n0 with hn | hn
  · have hn1 : (50 : Int) < (n0 : Int) := by omega
    go_enter Try.func4, Try.ntmps4
    go_wp2_with fail
    refine (diAwake_any w).mono ?_
    rintro e w1 ⟨rfl, hm⟩
    have Hm := Lib.hid hm
    clear hm
    go_wp2_with fail
    go_ret
    exact ⟨rfl, Hm.out⟩
  have hn1 : ¬ (50 : Int) < (n0 : Int) := by omega
  have Hn := Lib.hid hn
  clear hn
  obtain ⟨d1, d2, e1, e2, e3, _, _, _, _, e8, _, _, _, _, _, _, e10⟩ := trip (i := 1) (by omega) goodD_new rfl (ownX l 0) zeroSlot 0
  have E2 : Hid (takeD newD 1 0 = (d1, true)) := Lib.hid e2; have E8 : Hid (leaveD d1 1 0 (ownX l 0) = (d2, true)) := Lib.hid e8; have E10 : Hid (lookD d2 1 = some (ownX l 2)) := Lib.hid e10
  clear e1 e2 e3 e8 e10
  go_enter Try.func4, Try.ntmps4
  go_wp2_with fail
  refine (diNew_any w).mono ?_
  rintro e w0 ⟨g, rfl, hc, hm0, hg0⟩
  have HC := Lib.hid hc; have HM0 := Lib.hid hm0
  have HNew : Hid (w.heap.size ≤ g) := Lib.hid hg0
  have Hg : Hid (g < w0.heap.size) := Lib.hid (hc (fun _ => True)).lt
  clear hc hm0 hg0
  have Hown : Hid (OwnK 2 w0.heap.size (w0.alloc (.cells #[] 43)) 43 (.slice (some ⟨w0.heap.size, 0, none⟩) 0 0) []) := Lib.hid (own_litK (Nat.le_refl _))
  have Hr := Lib.hid ((Hs.out.new HM0.out).fit.alloc (Nat.le_refl _) (.cells #[] 43)).toK
  have Hone := Lib.hid (oneS l)
  have hr1 : ([] : List (List Value)).length + n0 ≤ maxLen := by have := Hn.out; unfold maxLen; simp; omega
  have hr2 : (([] : List (List Value)).length + n0) * 16 ≤ 140737488355328 := by have := Hn.out; simp; omega
  have hsz : w0.heap.size ≤ (w0.alloc (.cells #[] 43)).heap.size := by simp
  have HX : Hid (∀ (v2 : Value) (w2 : World), OwnK 2 w0.heap.size w2 43 v2 ([] ++ rowsS l) → Below w0.heap.size (w0.alloc (.cells #[] 43)) w2 → ∃ A2 c2, v2 = .slice A2 n0 c2 ∧ n0 ≤ c2 ∧ c2 ≤ maxLen ∧ OwnS w0.heap.size w2 (.slice A2 n0 c2) l ∧ Mod (fun _ => False) w0 w2) := Lib.hid (fun v2 w2 h1 h2 => by
    rw [List.nil_append] at h1
    have h3 := h1.toS
    obtain ⟨A2, n2, c2, e, h4, h5, h6, _⟩ := h3.formN
    have h7 : n0 = n2 := by have := h4.out; have := Hll.out; omega
    subst h7
    subst e
    exact ⟨A2, c2, rfl, h5, h6, h3, ((Mod.refl (fun _ => False) w0).alloc (.cells #[] 43)).trans (Mod.of_below h2) (fun i hi h => by omega)⟩)
  go_upto_region 7 with (at_builtin; refine wpList_appK (v := .slice (some ⟨w0.heap.size, 0, none⟩) 0 0) rfl (.tmp 19) (.tmp 20) _ rfl eltS2 rfl Hown.out rfl Hr.out Hone.out hr1 hr2 hsz ?_; intro v2 v21 HO HBl HG; clear HG; obtain ⟨A2, c2, rfl, hn2, hc2, ho2, hm2⟩ := HX.out v2 v21 HO.out HBl.out; have HO2 := Lib.hid ho2; have Hm02 := Lib.hid hm2; clear ho2 hm2 HO HBl)
  clear hr1 hr2 hsz
  obtain ⟨gp, hgp⟩ : ∃ x, x = v21.heap.size := ⟨_, rfl⟩
  obtain ⟨gx, hgx⟩ : ∃ x, x = v21.heap.size + 1 := ⟨_, rfl⟩
  obtain ⟨w1, hW⟩ : ∃ W, W = (v21.alloc (.cells #[.int .i64 7, .int .i64 0, .int .i64 0, .int .i64 0, .int .i64 0] 40)).alloc (.cells #[.bool true, .bool false, .int .i64 0, .int .i64 0, .bool true, .int .i64 0, .slice A2 n0 c2, .slice (some ⟨gp, 0, none⟩) 1 1] 32) := ⟨_, rfl⟩
  have hm1 : Mod (fun _ => False) v21 w1 := by rw [hW]; exact ((Mod.refl _ _).alloc _).alloc _
  have hbp : Blk w1 gp 40 #[.int .i64 7, .int .i64 0, .int .i64 0, .int .i64 0, .int .i64 0] := by rw [hW, hgp]; exact (Blk.new _ _ _).alloc _
  have hbx : Blk w1 gx 32 #[.bool true, .bool false, .int .i64 0, .int .i64 0, .bool true, .int .i64 0, .slice A2 n0 c2, .slice (some ⟨gp, 0, none⟩) 1 1] := by
    rw [hW, hgx]
    have h := Blk.new (v21.alloc (.cells #[.int .i64 7, .int .i64 0, .int .i64 0, .int .i64 0, .int .i64 0] 40)) 32 #[.bool true, .bool false, .int .i64 0, .int .i64 0, .bool true, .int .i64 0, .slice A2 n0 c2, .slice (some ⟨gp, 0, none⟩) 1 1]
    simpa using h
  have hz1 : w1.heap.size = gx + 1 := by rw [hW, hgx]; simp
  rw [hgp] at hW
  have HW := Lib.hid hW; have Hgp := Lib.hid hgp; have Hgx := Lib.hid hgx
  obtain ⟨B1, hB1⟩ : ∃ B1, B1 = w1.heap.size := ⟨_, rfl⟩
  have H01 : Hid (Mod (fun _ => False) w0 w1) := Lib.hid (Hm02.out.trans hm1 (fun _ _ h => h))
  have HM1 : Hid (Mod (fun _ => False) w w1) := Lib.hid (HM0.out.trans H01.out (fun _ _ h => h))
  have HD1 : Hid (DirV (fun j => B1 ≤ j) g 0 w1 newD) := Lib.hid ((HC.out _).new H01.out)
  have HO1 : Hid (OwnS w0.heap.size w1 (.slice A2 n0 c2) l) := Lib.hid (hm1.owns HO2.out (fun _ _ h => h))
  have HSb : Hid (∀ k, (Value.slice A2 n0 c2).ownBlock = some k → w0.heap.size ≤ k ∧ k < gp) := Lib.hid (fun k hk => by have h := OwnS.block HO2.out k hk; omega)
  have Hord : Hid (g < w0.heap.size ∧ w0.heap.size ≤ gp ∧ gx = gp + 1 ∧ B1 = gx + 1) := Lib.hid (by have := Hg.out; have := Hm02.out.size; omega)
  have HBp : Hid (∀ W', Mod (fun j => j = g) w1 W' → Blk W' gp 40 #[.int .i64 7, .int .i64 0, .int .i64 0, .int .i64 0, .int .i64 0]) := Lib.hid (fun W' h => h.blk hbp (fun e => by have := Hord.out; omega))
  have HBx : Hid (∀ W', Mod (fun j => j = g) w1 W' → Blk W' gx 32 #[.bool true, .bool false, .int .i64 0, .int .i64 0, .bool true, .int .i64 0, .slice A2 n0 c2, .slice (some ⟨gp, 0, none⟩) 1 1]) := Lib.hid (fun W' h => h.blk hbx (fun e => by have := Hord.out; omega))
  have HR1 : Hid (∀ W', Mod (fun j => j = g) w1 W' → RdsSlot W' (ownX l 0) A2 n0 (some ⟨gp, 0, none⟩) 1) := Lib.hid (fun W' h => ⟨(((OwnS.toK HO1.out).modS h (fun k hk e => by have h3 := (OwnK.block (OwnS.toK HO1.out) k hk).1; have := Hord.out; omega)).toS).rds Hll.out, rds_lit1 (HBp.out W' h), by have := Hn.out; omega, by omega⟩)
  have HS1 : Hid (Mod (fun j => j = g) w1 w1) := Lib.hid (Mod.refl _ _)
  have HB1 := Lib.hid hB1
  clear hW hgp hgx hm1 hbp hbx hz1 HO2 Hm02 HX Hr Hone Hown HC hB1
  rw [← HW.out, ← Hgx.out, ← Hgp.out]
  clear HW Hgp Hgx
  go_wp2_with fail
  refine (call_dtake (ok := true) E2.out HD1.out (by omega)).mono ?_
  rintro e w2 ⟨rfl, h1, h2⟩
  have HD2 : Hid (DirV (fun j => B1 ≤ j) g (0 + 1) w2 (d1)) := Lib.hid h1
  have HM2 : Hid (Mod (fun _ => False) w w2) := Lib.hid (HM1.out.trans h2 (fun i hi h => by have := HNew.out; omega))
  have HS2 : Hid (Mod (fun j => j = g) w1 w2) := Lib.hid (h2)
  clear h1 h2
  have z0 := (HBx.out w2 HS2.out).cell 0
  have z1 := (HBx.out w2 HS2.out).cell 1
  have z2 := (HBx.out w2 HS2.out).cell 2
  have z3 := (HBx.out w2 HS2.out).cell 3
  have z4 := (HBx.out w2 HS2.out).cell 4
  have z5 := (HBx.out w2 HS2.out).cell 5
  have z6 := (HBx.out w2 HS2.out).cell 6
  have z7 := (HBx.out w2 HS2.out).cell 7
  simp at z0 z1 z2 z3 z4 z5 z6 z7
  go_wp2_with fail
  refine (call_dleave (s := ownX l 0) (ok := true) E8.out HD2.out (by omega) (HR1.out _ HS2.out) (fun k hk => by have := HB1.out; have := HS2.out.size; omega)).mono ?_
  rintro e w3 ⟨rfl, h1, h2⟩
  have HD3 : Hid (DirV (fun j => B1 ≤ j) g (0 + 1 + 1) w3 (d2)) := Lib.hid h1
  have HM3 : Hid (Mod (fun _ => False) w w3) := Lib.hid (HM2.out.trans h2 (fun i hi h => by have := HNew.out; omega))
  have HS3 : Hid (Mod (fun j => j = g) w2 w3) := Lib.hid (h2)
  clear h1 h2
  have HS13 : Hid (Mod (fun j => j = g) w1 w3) := Lib.hid (HS2.out.trans HS3.out (fun _ _ h => h))
  have hbx := HBx.out w3 HS13.out
  have hbp := HBp.out w3 HS13.out
  have x6 := hbx.cell 6
  have x7 := hbx.cell 7
  have p0 := hbp.cell 0
  have q0 := hbp.frozen 0
  simp at x6 x7 p0
  obtain ⟨w4, hW⟩ : ∃ W, W = w3.setCell ⟨gp, 0, none⟩ (.int .i64 8) := ⟨_, rfl⟩
  have hm34 : Mod (fun j => j = gp) w3 w4 := by rw [hW]; exact one_cell _ _ _ _
  have HD4 : Hid (DirV (fun j => B1 ≤ j) g (0 + 1 + 1) w4 d2) := Lib.hid (HD3.out.far hm34 (by have := Hord.out; omega) (fun k hk e => by have := Hord.out; omega))
  have HM4 : Hid (Mod (fun _ => False) w w4) := Lib.hid (HM3.out.trans hm34 (fun i hi h => by have := Hord.out; have := HM0.out.size; omega))
  have HO4 : Hid (OwnS w0.heap.size w4 (.slice A2 n0 c2) l) := Lib.hid (hm34.owns (HS13.out.owns HO1.out (fun k hk e => by have := HSb.out k hk; have := Hord.out; omega)) (fun k hk e => by have := HSb.out k hk; omega))
  have Hbx4 : Hid (Blk w4 gx 32 #[.bool true, .bool false, .int .i64 0, .int .i64 0, .bool true, .int .i64 0, .slice A2 n0 c2, .slice (some ⟨gp, 0, none⟩) 1 1]) := Lib.hid (hm34.blk hbx (by have := Hord.out; omega))
  have Hz34 : Hid (w3.heap.size ≤ w4.heap.size) := Lib.hid hm34.size
  have HW := Lib.hid hW
  clear hm34 hW hbx hbp
  go_upto_region 10 with fail
  rw [← HW.out]
  clear HW p0 q0 x6 x7 z0 z1 z2 z3 z4 z5 z6 z7
  have x6 := Hbx4.out.cell 6
  simp at x6
  go_wp2_with fail
  clear x6
  go_loopg [5, 43] n0 (fun lk s5 s43 wr => ∃ (i : Nat) (lx : List (Int × Nat)), i + lk = n0 ∧ s43 = .int .i64 (i : Int) ∧ lx.length = n0 ∧ OwnS w0.heap.size wr (.slice A2 n0 c2) lx ∧ Mod (fun j => (Value.slice A2 n0 c2).ownBlock = some j) w4 wr)
  case atStart => exact ⟨0, l, by omega, rfl, Hll.out, HO4.out, Mod.refl _ _⟩
  case round =>
    obtain ⟨i, lx, hik, rfl, hlx, hox, hm⟩ := hrel
    have Hik := Lib.hid hik; have Hlx := Lib.hid hlx; have Hox3 := Lib.hid hox; have Hm := Lib.hid hm
    clear hik hlx hox hm
    by_cases hin : i < n0
    · have hi0 : (0 : Int) ≤ (i : Int) := by omega
      have hii : (i : Int) < (n0 : Int) := by omega
      have hi5 : (i : Int) ≤ 100 := by have := Hn.out; omega
      have hbx := Hm.out.blk Hbx4.out (fun e => by have := HSb.out _ e; have := Hord.out; omega)
      have x6 := hbx.cell 6
      simp at x6
      obtain ⟨gy, cy2, ex, q1, q2, q3, q4⟩ := OwnS.form' Hox3.out (by rw [Hlx.out]; omega)
      injection ex with ex ey ez
      subst ex
      clear ey ez q1 q2 q3 q4 hbx
      obtain ⟨p, hp⟩ : ∃ p, lx[i]? = some p := ⟨lx[i]'(by rw [Hlx.out]; exact hin), List.getElem?_eq_getElem _⟩
      obtain ⟨x, hx⟩ : ∃ x : Nat, x = (p.2 + 1) % 18446744073709551616 := ⟨_, rfl⟩
      have hwx : IntKind.u64.wrap ((p.2 : Int) + 1) = (x : Int) := by rw [IntKind.wrap_u64, hx]; omega
      obtain ⟨hc, hf, hset⟩ := Hox3.out.setV Hlx.out hp x
      have hat := at_gx gy i
      have Hset := Lib.hid hset
      clear hset hp hx
      go_wp2_with fail
      go_roundg (gk - 1)
      case measure => have := Hik.out; omega
      case rel => exact ⟨i + 1, lx.set i (p.1, x), by have := Hik.out; omega, by go_num, by rw [List.length_set]; exact Hlx.out, Hset.out, Hm.out.setCell (fun _ => by simp [Value.ownBlock]) _⟩
    · obtain ⟨q1, hq⟩ : ∃ q, q = i := ⟨_, rfl⟩
      rw [← hq] at hin ⊢
      have hqq : ¬ (q1 : Int) < (n0 : Int) := by omega
      clear hin hq Hlx Hox3 Hik
      obtain ⟨w5, rfl⟩ : ∃ w9, w9 = wr := ⟨_, rfl⟩
      have HD5 : Hid (DirV (fun k => B1 ≤ k ∧ k < w5.heap.size) g (0 + 1 + 1) w5 d2) := Lib.hid (DirV.tight (HD4.out.far Hm.out (fun h => by have := HSb.out _ h; have := Hord.out; omega) (fun k hk h => by have := HSb.out _ h; have := Hord.out; omega)))
      have HM5 : Hid (Mod (fun _ => False) w w5) := Lib.hid (HM4.out.trans Hm.out (fun i hi h => by have := HSb.out _ h; have := HM0.out.size; omega))
      have Hg5 : Hid (B1 ≤ w5.heap.size) := Lib.hid (by have := HS13.out.size; have := HB1.out; have h1 : w3.heap.size ≤ w4.heap.size := Hz34.out; have := Hm.out.size; omega)
      clear Hm HD4 HM4 HO4 Hbx4
      go_wp2_with fail
      refine (call_dlook (s := (ownX l 2)) (o := some (ownX l 2)) (ok := true) E10.out rfl rfl HD5.out (by omega)).mono ?_
      rintro e v6 ⟨A6, n6, c6, P6, m6, d6, rfl, hz, ho, hp, hd, hm⟩
      obtain ⟨w6, hW, hmW, hbW, hzW⟩ := new_box v6 32 #[.bool (ownX l 2).there, .bool (ownX l 2).shut, .int .i64 (ownX l 2).life, .int .i64 (ownX l 2).ver, .bool (ownX l 2).opn.any, .int .i64 (ownX l 2).opn.last, .slice A6 n6 c6, .slice P6 m6 d6]
      obtain ⟨g6, hg⟩ : ∃ x, x = v6.heap.size := ⟨_, rfl⟩
      rw [← hg] at hbW hzW
      have HD6 : Hid (DirV (fun k => B1 ≤ k ∧ k < w5.heap.size) g (0 + 1 + 1) w6 (d2)) := Lib.hid (hd.new hmW)
      have HM6 : Hid (Mod (fun _ => False) w w6) := Lib.hid (HM5.out.trans (hm.trans hmW (fun _ _ h => h)) (fun _ _ h => h))
      have HS6 : Hid (Mod (fun j => j = g) w5 w6) := Lib.hid ((hm.trans hmW (fun _ _ h => h)).mono (fun _ _ h => h.elim))
      have HO6 : Hid (OwnS w5.heap.size w6 (.slice A6 n6 c6) ((ownX l 2)).opn.list) := Lib.hid (hmW.owns ho (fun _ _ h => h))
      have HP6 : Hid (OwnPt w5.heap.size w6 40 (.slice P6 m6 d6) ((ownX l 2)).chunks) := Lib.hid (OwnPt.mod hp hmW)
      have HZ6 := Lib.hid hz
      have Hlt6 : Hid (g < w5.heap.size ∧ w5.heap.size ≤ g6 ∧ g6 < w6.heap.size) := Lib.hid ⟨HD5.out.lt, by have := hm.size; omega, by omega⟩
      have HB6 : Hid (∀ W', Mod (fun j => j = g) w6 W' → Blk W' g6 32 #[.bool (ownX l 2).there, .bool (ownX l 2).shut, .int .i64 (ownX l 2).life, .int .i64 (ownX l 2).ver, .bool (ownX l 2).opn.any, .int .i64 (ownX l 2).opn.last, .slice A6 n6 c6, .slice P6 m6 d6]) := Lib.hid (fun W' h => h.blk hbW (fun e => by have := Hlt6.out; omega))
      have HW := Lib.hid hW; have Hg := Lib.hid hg
      clear hz ho hp hd hm hW hmW hbW hzW hg
      go_upto_region 16 with fail
      rw [← HW.out, ← Hg.out]
      clear HW Hg
      obtain ⟨k1, _, _, k2, _, _⟩ := HZ6.out
      have hn6 : n0 = n6 := by have h1 : l.length = n6 := k1.out; have := Hll.out; omega
      subst hn6
      have hm6 : 1 = m6 := k2.out
      subst hm6
      clear k1 k2 hqq
      have hbx6 := HB6.out w6 (Mod.refl _ _)
      have Hbx6 := Lib.hid hbx6
      have x7 := hbx6.cell 7
      simp at x7
      clear hbx6
      obtain ⟨gq, dq, eq1, r1, r2, r3, r4⟩ := OwnK.form' HP6.out (Nat.zero_lt_one)
      injection eq1 with eq1 ey ez
      subst eq1
      obtain ⟨cur, hbq, _, _, hd6, _, hcz, _⟩ := OwnK.blk HP6.out
      have Hbq := Lib.hid hbq; have Hcz := Lib.hid hcz; have Hgq : Hid (w5.heap.size ≤ gq) := Lib.hid r3; have Hd6 := Lib.hid hd6
      clear ey ez r1 r2 r3 r4 hbq hcz hd6
      go_wp2_with fail
      clear x7
      go_loopg [8, 65] 1 (fun lk s8 s65 wr => ∃ (i : Nat) (cc : Array Value), i + lk = 1 ∧ s65 = .int .i64 (i : Int) ∧ Blk wr gq 40 cc ∧ cc.size = d6 * 5 ∧ Mod (fun j => j = gq) w6 wr)
      case atStart => exact ⟨0, cur, by omega, rfl, Hbq.out, Hcz.out, Mod.refl _ _⟩
      case round =>
        obtain ⟨i, cc, hik, rfl, hbc, hcc, hm⟩ := hrel
        have Hik := Lib.hid hik; have Hbc := Lib.hid hbc; have Hcc := Lib.hid hcc; have Hm := Lib.hid hm
        clear hik hbc hcc hm
        have Hneq : Hid (g6 ≠ gq) := Lib.hid (Blk.ne_ Hbx6.out Hbq.out (by decide))
        by_cases hin : i < 1
        · have hi0 : (0 : Int) ≤ (i : Int) := by omega
          have hii : (i : Int) < 1 := by omega
          have hbx := Hm.out.blk Hbx6.out Hneq.out
          have x7 := hbx.cell 7
          simp at x7
          have hlt : i * 5 < cc.size := by rw [Hcc.out]; have := Hd6.out; omega
          have hc := Hbc.out.cell (i * 5)
          obtain ⟨u0, hu0⟩ : ∃ u, cc[i * 5]? = some u := ⟨_, Array.getElem?_eq_getElem hlt⟩
          rw [hu0] at hc
          have hf := Hbc.out.frozen (i * 5)
          have hat := at_g5 gq i
          clear hbx hlt hu0
          go_wp2_with fail
          go_roundg (gk - 1)
          case measure => have := Hik.out; omega
          case rel => exact ⟨i + 1, _, by have := Hik.out; omega, by go_num, Hbc.out.set_ _ _, by rw [Array.size_setIfInBounds]; exact Hcc.out, Hm.out.setCell (fun _ => rfl) _⟩
        · obtain ⟨q2, hq⟩ : ∃ q, q = i := ⟨_, rfl⟩
          rw [← hq] at hin ⊢
          have hqq : ¬ (q2 : Int) < 1 := by omega
          clear hin hq Hik Hbc Hcc
          obtain ⟨w7, rfl⟩ : ∃ w9, w9 = wr := ⟨_, rfl⟩
          have HO7 : Hid (OwnS w5.heap.size w7 (.slice A6 n0 c6) l) := Lib.hid (own_other (OwnS.toK (show OwnS w5.heap.size w6 (.slice A6 n0 c6) l from HO6.out)) Hm.out Hbq.out (by decide)).toS
          have HD7 : Hid (DirV (fun k => B1 ≤ k ∧ k < w5.heap.size) g (0 + 1 + 1) w7 d2) := Lib.hid (HD6.out.far Hm.out (by have := Hgq.out; have := Hord.out; have := Hg5.out; omega) (fun k hk e => by have := Hgq.out; omega))
          have HM7 : Hid (Mod (fun _ => False) w w7) := Lib.hid (HM6.out.trans Hm.out (fun i hi h => by have := Hgq.out; have := HM5.out.size; omega))
          have Hbx7 : Hid (Blk w7 g6 32 #[.bool (ownX l 2).there, .bool (ownX l 2).shut, .int .i64 (ownX l 2).life, .int .i64 (ownX l 2).ver, .bool (ownX l 2).opn.any, .int .i64 (ownX l 2).opn.last, .slice A6 n0 c6, .slice (some ⟨gq, 0, none⟩) 1 d6]) := Lib.hid (Hm.out.blk Hbx6.out Hneq.out)
          have HSc : Hid (∀ k, (Value.slice A6 n0 c6).ownBlock = some k → w5.heap.size ≤ k ∧ k ≠ g6) := Lib.hid (fun k hk => ⟨(OwnS.block HO7.out k hk).1, fun e => by subst e; exact own_blk_ne (OwnS.toK HO7.out).2 Hbx7.out (by decide) hk⟩)
          clear Hm HO6 HD6 HM6 Hbx6 Hbq
          have x6 := Hbx7.out.cell 6
          simp at x6
          go_wp2_with fail
          clear hqq
          clear x6
          go_loopg [9, 78] n0 (fun lk s9 s78 wr => ∃ (i : Nat) (lx : List (Int × Nat)), i + lk = n0 ∧ s78 = .int .i64 (i : Int) ∧ lx.length = n0 ∧ OwnS w5.heap.size wr (.slice A6 n0 c6) lx ∧ Mod (fun j => (Value.slice A6 n0 c6).ownBlock = some j) w7 wr)
          case atStart => exact ⟨0, l, by omega, rfl, Hll.out, HO7.out, Mod.refl _ _⟩
          case round =>
            obtain ⟨i, lx, hik, rfl, hlx, hox, hm⟩ := hrel
            have Hik := Lib.hid hik; have Hlx := Lib.hid hlx; have Hox3 := Lib.hid hox; have Hm := Lib.hid hm
            clear hik hlx hox hm
            by_cases hin : i < n0
            · have hi0 : (0 : Int) ≤ (i : Int) := by omega
              have hii : (i : Int) < (n0 : Int) := by omega
              have hi5 : (i : Int) ≤ 100 := by have := Hn.out; omega
              have hbx := Hm.out.blk Hbx7.out (fun e => by have := HSc.out _ e; omega)
              have x6 := hbx.cell 6
              simp at x6
              obtain ⟨gy, cy2, ex, q1, q2, q3, q4⟩ := OwnS.form' Hox3.out (by rw [Hlx.out]; omega)
              injection ex with ex ey ez
              subst ex
              clear ey ez q1 q2 q3 q4 hbx
              obtain ⟨p, hp⟩ : ∃ p, lx[i]? = some p := ⟨lx[i]'(by rw [Hlx.out]; exact hin), List.getElem?_eq_getElem _⟩
              obtain ⟨x, hx⟩ : ∃ x : Int, x = wrap64 (p.1 + 1) := ⟨_, rfl⟩
              have hwx2 : wrap64 (p.1 + 1) = x := hx.symm
              obtain ⟨hc, hf, hset⟩ := Hox3.out.setT Hlx.out hp x
              have hat := at_gx gy i
              have Hset := Lib.hid hset
              clear hset hp hx
              go_wp2_with fail
              go_roundg (gk - 1)
              case measure => have := Hik.out; omega
              case rel => exact ⟨i + 1, lx.set i (x, p.2), by have := Hik.out; omega, by go_num, by rw [List.length_set]; exact Hlx.out, Hset.out, Hm.out.setCell (fun _ => by simp [Value.ownBlock]) _⟩
            · obtain ⟨q3, hq⟩ : ∃ q, q = i := ⟨_, rfl⟩
              rw [← hq] at hin ⊢
              have hqq : ¬ (q3 : Int) < (n0 : Int) := by omega
              clear hin hq Hlx Hox3 Hik
              obtain ⟨w8, rfl⟩ : ∃ w9, w9 = wr := ⟨_, rfl⟩
              have HD8 : Hid (DirV (fun k => B1 ≤ k ∧ k < w5.heap.size) g (0 + 1 + 1) w8 d2) := Lib.hid (HD7.out.far Hm.out (fun h => by have := HSc.out _ h; have := Hord.out; have := Hg5.out; omega) (fun k hk h => by have := HSc.out _ h; omega))
              have HM8 : Hid (Mod (fun _ => False) w w8) := Lib.hid (HM7.out.trans Hm.out (fun i hi h => by have := HSc.out _ h; have := HM5.out.size; omega))
              clear Hm HD7 HM7 HO7 Hbx7
              go_wp2_with fail
              refine (call_dlook (s := (ownX l 2)) (o := some (ownX l 2)) (ok := true) E10.out rfl rfl HD8.out (by omega)).mono ?_
              rintro e v9 ⟨A9, n9, c9, P9, m9, d9, rfl, hz, ho, hp, hd, hm⟩
              obtain ⟨w9, hW, hmW, hbW, hzW⟩ := new_box v9 32 #[.bool (ownX l 2).there, .bool (ownX l 2).shut, .int .i64 (ownX l 2).life, .int .i64 (ownX l 2).ver, .bool (ownX l 2).opn.any, .int .i64 (ownX l 2).opn.last, .slice A9 n9 c9, .slice P9 m9 d9]
              obtain ⟨g9, hg⟩ : ∃ x, x = v9.heap.size := ⟨_, rfl⟩
              rw [← hg] at hbW hzW
              have HD9 : Hid (DirV (fun k => B1 ≤ k ∧ k < w5.heap.size) g (0 + 1 + 1) w9 (d2)) := Lib.hid (hd.new hmW)
              have HM9 : Hid (Mod (fun _ => False) w w9) := Lib.hid (HM8.out.trans (hm.trans hmW (fun _ _ h => h)) (fun _ _ h => h))
              have HS9 : Hid (Mod (fun j => j = g) w8 w9) := Lib.hid ((hm.trans hmW (fun _ _ h => h)).mono (fun _ _ h => h.elim))
              have HO9 : Hid (OwnS w8.heap.size w9 (.slice A9 n9 c9) ((ownX l 2)).opn.list) := Lib.hid (hmW.owns ho (fun _ _ h => h))
              have HP9 : Hid (OwnPt w8.heap.size w9 40 (.slice P9 m9 d9) ((ownX l 2)).chunks) := Lib.hid (OwnPt.mod hp hmW)
              have HZ9 := Lib.hid hz
              have Hlt9 : Hid (g < w8.heap.size ∧ w8.heap.size ≤ g9 ∧ g9 < w9.heap.size) := Lib.hid ⟨HD8.out.lt, by have := hm.size; omega, by omega⟩
              have HB9 : Hid (∀ W', Mod (fun j => j = g) w9 W' → Blk W' g9 32 #[.bool (ownX l 2).there, .bool (ownX l 2).shut, .int .i64 (ownX l 2).life, .int .i64 (ownX l 2).ver, .bool (ownX l 2).opn.any, .int .i64 (ownX l 2).opn.last, .slice A9 n9 c9, .slice P9 m9 d9]) := Lib.hid (fun W' h => h.blk hbW (fun e => by have := Hlt9.out; omega))
              have HW := Lib.hid hW; have Hg := Lib.hid hg
              clear hz ho hp hd hm hW hmW hbW hzW hg
              go_upto_region 27 with fail
              rw [← HW.out, ← Hg.out]
              clear HW Hg
              obtain ⟨k1, _, _, k2, _, _⟩ := HZ9.out
              have hn9 : n0 = n9 := by have h1 : l.length = n9 := k1.out; have := Hll.out; omega
              subst hn9
              have hm9 : 1 = m9 := k2.out
              subst hm9
              clear k1 k2 hqq
              have z0 := (HB9.out w9 (Mod.refl _ _)).cell 0
              have z1 := (HB9.out w9 (Mod.refl _ _)).cell 1
              have z2 := (HB9.out w9 (Mod.refl _ _)).cell 2
              have z3 := (HB9.out w9 (Mod.refl _ _)).cell 3
              have z4 := (HB9.out w9 (Mod.refl _ _)).cell 4
              have z5 := (HB9.out w9 (Mod.refl _ _)).cell 5
              have z6 := (HB9.out w9 (Mod.refl _ _)).cell 6
              have z7 := (HB9.out w9 (Mod.refl _ _)).cell 7
              simp at z0 z1 z2 z3 z4 z5 z6 z7
              obtain ⟨gr, dr, er1, r1, r2, r3, r4⟩ := OwnK.form' HP9.out (Nat.zero_lt_one)
              injection er1 with er1 ey ez
              subst er1
              have hr0 : w9.cell? ⟨gr, 0, none⟩ = some (.int .i64 7) := by
                obtain ⟨ad, p, e, _, hp, h0, _⟩ := RdsPt.at_ (OwnK.rds HP9.out rfl) (i := 0) (by omega)
                injection e with e
                subst e
                have h1 : some p = some (⟨7, 0, 0, 0, 0⟩ : PartN) := hp.symm
                injection h1 with h1
                subst h1
                exact h0
              clear ey ez r1 r2 r3 r4
              obtain ⟨w10, hW, hmW, hbW, hzW⟩ := new_box w9 40 #[.int .i64 7, .int .i64 0, .int .i64 0, .int .i64 0, .int .i64 0]
              obtain ⟨gt, hgt⟩ : ∃ x, x = w9.heap.size := ⟨_, rfl⟩
              rw [← hgt] at hbW
              have HM10 : Hid (Mod (fun _ => False) w w10) := Lib.hid (HM9.out.trans hmW (fun _ _ h => h))
              have HSS : Hid (Calls Try.prog 12 #[.agg #[.bool (ownX l 2).there, .bool (ownX l 2).shut, .int .i64 (ownX l 2).life, .int .i64 (ownX l 2).ver, .bool (ownX l 2).opn.any, .int .i64 (ownX l 2).opn.last, .slice A9 n0 c9, .slice (some ⟨gr, 0, none⟩) 1 d9], .agg #[.bool (ownX l 2).there, .bool (ownX l 2).shut, .int .i64 (ownX l 2).life, .int .i64 (ownX l 2).ver, .bool (ownX l 2).opn.any, .int .i64 (ownX l 2).opn.last, .slice A0 n0 c0, .slice (some ⟨gt, 0, none⟩) 1 1]] w10 fun e w' => e = .returned (.bool true) ∧ Mod (fun _ => False) w10 w') := Lib.hid (sameSlot_any (ownX l 2) w10 ((OwnS.mod HO9.out hmW).rds Hll.out) (Hs.out.mod HM10.out (Nat.le_refl _) (fun _ _ h => h)).fit (OwnK.rds (OwnPt.mod HP9.out hmW) rfl) (rds_lit1 hbW) (by have := Hn.out; omega) (by omega))
              have HW := Lib.hid hW; have Hgt := Lib.hid hgt
              clear hW hmW hbW hzW hgt
              go_wp2_with fail
              rw [← HW.out, ← Hgt.out]
              refine HSS.out.mono ?_
              rintro e w11 ⟨rfl, h2⟩
              have HM11 : Hid (Mod (fun _ => False) w w11) := Lib.hid (HM10.out.trans h2 (fun _ _ h => h))
              clear h2
              go_wp2_with fail
              refine (diAwake_any w11).mono ?_
              rintro e w99 ⟨rfl, h2⟩
              have HM99 : Hid (Mod (fun _ => False) w w99) := Lib.hid (HM11.out.trans h2 (fun _ _ h => h))
              clear h2
              go_wp2_with fail
              go_ret
              exact ⟨rfl, HM99.out⟩
end Go.Proofs.Yteegdbbmamabiaa

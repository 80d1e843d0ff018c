/- The texts Kte, one behind the other. -/
import Derived.Test.YtmcemeofkjfhhaaGreatDoorM4h1
import Derived.Test.YtmcemeofkjfhhaaGreatDoorM4h4
import Derived.Test.YtmcemeofkjfhhaaGreatDoorM4h5
import Derived.Test.YtmcemeofkjfhhaaGreatDoorM4h3
/- SuitTells' walk. -/
namespace Go.Proofs.YtmcemeofkjfhhaaGreatDoor
open Go.RowKit

/-- Three numbers in a literal. -/
def Nums3 (w : World) (lit : Nat) : Prop := lit < w.heap.size ∧ ∀ j, j < 3 → ∃ m : Int, w.cell? ⟨lit, j, none⟩ = some (.int .i64 m)
theorem Nums3.mod {w w' : World} {lit : Nat} (h : Nums3 w lit) (hm : Mod (fun _ => False) w w') : Nums3 w' lit := by
  refine ⟨Nat.lt_of_lt_of_le h.1 hm.size, fun j hj => ?_⟩
  obtain ⟨m, h2⟩ := h.2 j hj
  exact ⟨m, (hm.cell (a := ⟨lit, j, none⟩) h.1 (fun h => h)).trans h2⟩
theorem nums3_new (w : World) (e : TypeId) (m0 m1 m2 : Int) : Nums3 (w.alloc (.cells #[.int .i64 m0, .int .i64 m1, .int .i64 m2] e)) w.heap.size := by
  have hb := Blk.new w e #[.int .i64 m0, .int .i64 m1, .int .i64 m2]
  refine ⟨hb.lt, fun j hj => ?_⟩
  have hj' : j = 0 ∨ j = 1 ∨ j = 2 := by omega
  rcases hj' with rfl | rfl | rfl
  · exact ⟨m0, hb.cell 0⟩
  · exact ⟨m1, hb.cell 1⟩
  · exact ⟨m2, hb.cell 2⟩
/-- Two rows of samples in a literal. -/
def Rows2s (w : World) (lit : Nat) : Prop := lit < w.heap.size ∧ ∀ j, j < 2 → ∃ (A : Option Addr) (n c : Nat) (l : List (Int × Nat)), w.cell? ⟨lit, j, none⟩ = some (.slice A n c) ∧ RdsS w w.heap.size A n l ∧ GoodS l ∧ n ≤ 60
theorem Rows2s.mod {w w' : World} {lit : Nat} (h : Rows2s w lit) (hm : Mod (fun _ => False) w w') : Rows2s w' lit := by
  refine ⟨Nat.lt_of_lt_of_le h.1 hm.size, fun j hj => ?_⟩
  obtain ⟨A, n, c, l, h1, h2, h3⟩ := h.2 j hj
  exact ⟨A, n, c, l, (hm.cell (a := ⟨lit, j, none⟩) h.1 (fun h => h)).trans h1, (h2.new hm).fit, h3⟩
theorem rows2s_new {w : World} {e : TypeId} {A0 A1 : Option Addr} {n0 c0 n1 c1 : Nat} {l0 l1 : List (Int × Nat)} (h0 : RdsS w w.heap.size A0 n0 l0) (g0 : GoodS l0) (k0 : n0 ≤ 60) (h1 : RdsS w w.heap.size A1 n1 l1) (g1 : GoodS l1) (k1 : n1 ≤ 60) :
    Rows2s (w.alloc (.cells #[.slice A0 n0 c0, .slice A1 n1 c1] e)) w.heap.size := by
  have hb := Blk.new w e #[.slice A0 n0 c0, .slice A1 n1 c1]
  refine ⟨hb.lt, fun j hj => ?_⟩
  have hj' : j = 0 ∨ j = 1 := by omega
  rcases hj' with rfl | rfl
  · exact ⟨A0, n0, c0, l0, hb.cell 0, (h0.alloc (Nat.le_refl _) _).fit, g0, k0⟩
  · exact ⟨A1, n1, c1, l1, hb.cell 1, (h1.alloc (Nat.le_refl _) _).fit, g1, k1⟩
theorem encK_len60 {k : Int} {l : List (Int × Nat)} {n : Nat} (hg : GoodS l) (hl : l.length = n) (hn : n ≤ 60) : ((encK k l).getD []).length ≤ 4500 ∧ lt256 ((encK k l).getD []) := by
  cases ho : encK k l with
  | none => exact ⟨Nat.zero_le _, lt256_nil⟩
  | some b =>
    have h1 := encK_len hg ho
    exact ⟨by show b.length ≤ 4500; omega, encK_256 ho⟩
theorem best_256 (l : List (Int × Nat)) : lt256 (bestK l).2 := by
  rcases bestTo_is l 6 with ⟨h1, _⟩ | ⟨_, _, h3, _⟩
  · show lt256 (bestTo l 6).2
    rw [h1]
    exact lt256_nil
  · exact encK_256 h3
set_option maxHeartbeats 4000000 in
set_option maxRecDepth 100000 in
theorem ktells_long (A0 A1 A2 A5 : Option Addr) (n0 c0 n1 c1 n2 c2 n5 c5 : Nat) (how tag at' by_ n : Int) (w : World) (ht : Tabs w) (h : 60 < n0 ∨ 100 < n5) :
    Calls Tryz.prog 4 #[.slice A0 n0 c0, .slice A1 n1 c1, .slice A2 n2 c2, .int .i64 how, .int .i64 tag, .slice A5 n5 c5, .int .i64 at', .int .u8 by_, .int .i64 n] w fun e w' => e = .returned (.bool true) ∧ Mod (fun _ => False) w w' := by
  have Ht := Lib.hid ht
  clear ht
  by_cases h0 : 60 < n0
  · have h1 : (60 : Int) < (n0 : Int) := by omega
    clear h
    go_enter Tryz.func4, Tryz.ntmps4
    go_wp2_with fail
    refine (kawake_any _ Ht.out).mono ?_
    rintro e w1 ⟨rfl, hm⟩
    have Hm := Lib.hid hm
    clear hm
    go_wp2_with fail
    go_ret
    exact ⟨rfl, Hm.out⟩
  · have h1 : ¬ (60 : Int) < (n0 : Int) := by omega
    have h2 : (100 : Int) < (n5 : Int) := by omega
    clear h
    go_enter Tryz.func4, Tryz.ntmps4
    go_wp2_with fail
    refine (kawake_any _ Ht.out).mono ?_
    rintro e w1 ⟨rfl, hm⟩
    have Hm := Lib.hid hm
    clear hm
    go_wp2_with fail
    go_ret
    exact ⟨rfl, Hm.out⟩
set_option maxHeartbeats 8000000 in
set_option maxRecDepth 100000 in
theorem ktells_walk (A0 A1 A2 A5 : Option Addr) (n0 c0 n1 c1 n2 c2 n5 c5 : Nat) (raw : List (Int × Nat)) (zs : List Int) (us : List Nat) (rs : List Nat) (how tag at' n : Int) (by_ : Nat) (w : World)
    (hraw : RdsS w w.heap.size A0 n0 raw) (hgr : GoodS raw) (hs : SeesI .i64 w w.heap.size A1 n1 zs) (hz : ∀ x ∈ zs, FitI x) (hs2 : Rds w w.heap.size A2 n2 (cellsU us)) (hu : ∀ x ∈ us, x < 2 ^ 64)
    (hr : Rds w w.heap.size A5 n5 (cells8 rs)) (hrl : lt256 rs) (hrc : n5 ≤ c5 ∧ c5 ≤ maxLen) (hby : by_ < 256) (h60 : n0 ≤ 60) (h100 : n5 ≤ 100) (ht : Tabs w) :
    Calls Tryz.prog 4 #[.slice A0 n0 c0, .slice A1 n1 c1, .slice A2 n2 c2, .int .i64 how, .int .i64 tag, .slice A5 n5 c5, .int .i64 at', .int .u8 (by_ : Int), .int .i64 n] w fun e w' => e = .returned (.bool true) ∧ Mod (fun _ => False) w w' := by
  have Hraw := Lib.hid hraw; have Hgr := Lib.hid hgr; have Hs := Lib.hid hs; have Hz := Lib.hid hz; have Hs2 := Lib.hid hs2; have Hu := Lib.hid hu; have Hr := Lib.hid hr; have Hrl := Lib.hid hrl; have Hrc := Lib.hid hrc; have Hby := Lib.hid hby; have Ht := Lib.hid ht
  have hb60 : ¬ (60 : Int) < (n0 : Int) := by omega
  have hb100 : ¬ (100 : Int) < (n5 : Int) := by omega
  have hd60 : decide ((60 : Int) < (n0 : Int)) = false := by simp; omega
  have hd100 : decide ((100 : Int) < (n5 : Int)) = false := by simp; omega
  clear hraw hgr hs hz hs2 hu hr hrl hrc hby ht
  go_enter Tryz.func4, Tryz.ntmps4
  go_wp2_with fail
  refine (row_any A1 A2 n1 c1 n2 c2 zs us how w Hs.out Hz.out Hs2.out Hu.out).mono ?_
  rintro e w1 ⟨v, l, rfl, ho1, hg, hri, hl60, hm1⟩
  obtain ⟨Al, L, cl, rfl, HL, _, _, hr1⟩ := ho1.formN
  have hL60 : L ≤ 60 := by have := HL.out; omega
  have Hr1 := Lib.hid hr1; have Hg := Lib.hid hg; have Hm1 := Lib.hid hm1; have T1 := Lib.hid (Ht.out.mod hm1); have Hraw1 := Lib.hid (Hraw.out.new hm1).fit
  clear ho1 hg hri hl60 hm1 hr1 Hs Hz Hs2 Hu hb60 hb100
  obtain ⟨wL, hwL⟩ : ∃ wL, wL = w1.alloc (.cells #[.slice A0 n0 c0, .slice Al L cl] 23) := ⟨_, rfl⟩
  have hmL : Mod (fun _ => False) w1 wL := by rw [hwL]; exact (Mod.refl _ _).alloc _
  have HR2 : Hid (Rows2s wL w1.heap.size) := Lib.hid (by rw [hwL]; exact rows2s_new Hraw1.out Hgr.out h60 Hr1.out Hg.out hL60)
  have HwL := Lib.hid hwL
  have HrL := Lib.hid (Hr1.out.new hmL).fit; have HrawL := Lib.hid (Hraw1.out.new hmL).fit; have HmL := Lib.hid (Hm1.out.trans hmL (fun _ _ h => h)); have TL := Lib.hid (T1.out.mod hmL)
  clear hwL hmL Hr1 Hraw1 Hm1 T1
  go_wp2_with fail
  rw [← HwL.out]
  clear HwL
  generalize w1.heap.size = lit1 at *
  go_loopg [63] 2 (fun k s63 wr => ∃ i : Nat, i + k = 2 ∧ s63 = .int .i64 (i : Int) ∧ Mod (fun _ => False) wL wr)
  case atStart => exact ⟨0, rfl, rfl, Mod.refl _ _⟩
  case round =>
    obtain ⟨i, hik, rfl, hm⟩ := hrel
    have Hik := Lib.hid hik; have Hm := Lib.hid hm
    clear hik hm
    by_cases hi2 : i < 2
    · have hi0 : (0 : Int) ≤ (i : Int) := by omega
      obtain ⟨A, nc, cc, x, hcell, hsx, hgx, hnx⟩ := (HR2.out.mod Hm.out).2 i hi2
      have Hsx := Lib.hid hsx; have Hgx := Lib.hid hgx; have Tx := Lib.hid (TL.out.mod Hm.out)
      obtain ⟨rb, hrb⟩ : ∃ rb, rb = riseB x := ⟨_, rfl⟩
      obtain ⟨bt, hbt⟩ : ∃ bt, bt = (bestK x).1 := ⟨_, rfl⟩
      obtain ⟨bb, hbb⟩ : ∃ bb, bb = (bestK x).2 := ⟨_, rfl⟩
      have Hrb := Lib.hid hrb; have Hbt := Lib.hid hbt; have Hbb := Lib.hid hbb
      have Hb256 : Hid (lt256 bb) := Lib.hid (by rw [hbb]; exact best_256 x)
      clear hsx hgx hrb hbt hbb
      go_wp2_with fail
      refine (rising_any A nc cc x wr Hsx.out).mono ?_
      rintro e x1 ⟨rfl, hx1⟩
      rw [← Hrb.out]
      have Hx1 := Lib.hid hx1; have Hs1 := Lib.hid (Hsx.out.new hx1).fit
      clear hx1 Hsx
      go_wp2_with fail
      refine (rrising_any A nc cc x x1 Hs1.out (by omega)).mono ?_
      rintro e x2 ⟨rfl, hx2⟩
      rw [← Hrb.out]
      have hbb2 : (rb != rb) = false := by simp
      have Hx2 := Lib.hid (Hx1.out.trans hx2 (fun _ _ h => h)); have Hs2 := Lib.hid (Hs1.out.new hx2).fit; have T2 := Lib.hid (Tx.out.mod Hx2.out)
      clear hx2 Hx1 Hs1
      go_wp2_with fail
      refine (kbest_any A nc cc x x2 Hs2.out Hgx.out T2.out).mono ?_
      rintro e x3 ⟨v3, rfl, ho3, hx3⟩
      rw [← Hbb.out] at ho3
      rw [← Hbt.out]
      obtain ⟨A3, L3, c3, rfl, _, _, _, hr3⟩ := own_formN8 ho3
      have Hr3 := Lib.hid hr3; have Hx3 := Lib.hid (Hx2.out.trans hx3 (fun _ _ h => h)); have Hs3 := Lib.hid (Hs2.out.new hx3).fit
      clear ho3 hr3 hx3 Hx2 Hs2 T2 hbb2
      go_wp2_with fail
      refine (rkbest_any A nc cc x x3 Hs3.out Hgx.out (by omega)).mono ?_
      rintro e x4 ⟨v4, rfl, ho4, hx4⟩
      rw [← Hbb.out] at ho4
      rw [← Hbt.out]
      obtain ⟨A4, L4, c4, rfl, _, _, _, hr4⟩ := own_formN8 ho4
      obtain ⟨s, hs⟩ : ∃ s, s = strOf bb := ⟨_, rfl⟩
      have hcv1 : (convert 29 9 (.slice A3 L3 c3)).run Tryz.prog x4 = .ok (.string (strOf bb)) x4 := conv_rds Tryz.underlying29 Tryz.underlying5 Tryz.underlying9 x4 (Hr3.out.new hx4) Hb256.out
      have hcv2 : (convert 29 9 (.slice A4 L4 c4)).run Tryz.prog x4 = .ok (.string (strOf bb)) x4 := conv_rds Tryz.underlying29 Tryz.underlying5 Tryz.underlying9 x4 hr4 Hb256.out
      rw [← hs] at hcv1 hcv2
      have hbtb : (bt != bt) = false := by simp
      have hstr : (s.toList != s.toList) = false := by simp
      have Hx4 := Lib.hid (Hm.out.trans (Hx3.out.trans hx4 (fun _ _ h => h)) (fun _ _ h => h))
      clear ho4 hr4 hx4 hs Hx3 Hs3 Hr3
      go_wp2_with fail
      go_roundg (gk - 1)
      case measure => have := Hik.out; omega
      case rel => exact ⟨i + 1, by have := Hik.out; omega, by go_num, Hx4.out⟩
    · have Hrawq := Lib.hid (HrawL.out.new Hm.out).fit; have Hrq := Lib.hid (HrL.out.new Hm.out).fit; have Hmq := Lib.hid (HmL.out.trans Hm.out (fun _ _ h => h)); have Tq := Lib.hid (TL.out.mod Hm.out)
      have Hbq := Lib.hid ((Hr.out.new (HmL.out.trans Hm.out (fun _ _ h => h))).fit)
      have hi2i : ¬ (i : Int) < 2 := by omega
      have hi2d : decide ((i : Int) < 2) = false := by simp; omega
      clear HR2 HrL HrawL HmL TL Hr Hraw Hik Hm
      obtain ⟨wF, rfl⟩ : ∃ wF : World, wF = wr := ⟨_, rfl⟩
      go_wp2_with fail
      go_loopg [26] 8 (fun k s26 wr => ∃ jq : Nat, jq + k = 8 ∧ s26 = .int .i64 (jq : Int) ∧ Mod (fun _ => False) wF wr)
      case atStart => exact ⟨0, rfl, rfl, Mod.refl _ _⟩
      case round =>
        obtain ⟨jq, hjqk, rfl, hm⟩ := hrel
        have Hjq := Lib.hid hjqk; have Hm := Lib.hid hm
        clear hjqk hm
        by_cases hq8 : jq < 8
        · have hjq0 : (0 : Int) ≤ (jq : Int) := by omega
          have hjq7 : (jq : Int) ≤ 7 := by omega
          have hjqb : decide ((jq : Int) ≤ 7) = true := by simp; omega
          obtain ⟨go1, rfl⟩ : ∃ go1 : Nat, go1 = gk := ⟨_, rfl⟩
          go_upto_if 99 with fail
          go_cut [27] (fun s27 wc => ∃ kk : Int, s27 = .int .i64 kk ∧ Mod (fun _ => False) wF wc)
          case first =>
            by_cases h7 : jq = 7
            · have hjqe : ((jq : Int) == 7) = true := by simp; omega
              rw [hjqe]
              go_wp2_with fail
              go_meet
              case rel => exact ⟨_, rfl, Hm.out⟩
            · have hjqe : ((jq : Int) == 7) = false := by simp; omega
              rw [hjqe]
              go_wp2_with fail
              go_meet
              case rel => exact ⟨_, rfl, Hm.out⟩
          case rest =>
          obtain ⟨kk, rfl, hmc⟩ := hcut
          obtain ⟨tw, htw⟩ : ∃ tw, (encK kk l).getD [] = tw := ⟨_, rfl⟩
          obtain ⟨bk, hbk⟩ : ∃ bk, (encK kk l).isSome = bk := ⟨_, rfl⟩
          obtain ⟨hlen, h256⟩ := encK_len60 (k := kk) Hg.out HL.out hL60
          rw [htw] at hlen h256
          obtain ⟨tx, htx⟩ : ∃ tx, (encK kk raw).getD [] = tx := ⟨_, rfl⟩
          obtain ⟨bx, hbx⟩ : ∃ bx, (encK kk raw).isSome = bx := ⟨_, rfl⟩
          obtain ⟨_, h256x⟩ := encK_len60 (k := kk) Hgr.out Hrawq.out.1 h60
          rw [htx] at h256x
          obtain ⟨s, hss⟩ : ∃ s, strOf tw = s := ⟨_, rfl⟩
          obtain ⟨sx, hsx⟩ : ∃ sx, strOf tx = sx := ⟨_, rfl⟩
          obtain ⟨q, hq⟩ : ∃ q, tw.length = q := ⟨_, rfl⟩
          obtain ⟨qx, hqx⟩ : ∃ qx, tx.length = qx := ⟨_, rfl⟩
          have hq12 : q ≤ 4500 := by omega
          have Htw := Lib.hid htw; have Hbk := Lib.hid hbk; have H256 := Lib.hid h256; have Hss := Lib.hid hss; have Hq := Lib.hid hq
          have Htx := Lib.hid htx; have Hbx := Lib.hid hbx; have H256x := Lib.hid h256x; have Hsx := Lib.hid hsx; have Hqx := Lib.hid hqx
          have Hrc0 := Lib.hid (Hrq.out.new hmc).fit; have Tc := Lib.hid (Tq.out.mod hmc); have Hm3 := Lib.hid hmc
          clear htw hbk h256 hss hq hlen htx hbx h256x hsx hqx hmc Hm
          go_wp2_with fail
          refine (kenc_any kk Al L cl l wc Hrc0.out Hg.out Tc.out).mono ?_
          intro e w4 hE
          obtain ⟨A8, c8, rfl, _, _, hr8, hm4⟩ := hE.any
          rw [Htw.out, Hq.out] at hr8 ⊢
          rw [Hbk.out]
          have Hr8 := Lib.hid hr8; have Hm4 := Lib.hid (Hm3.out.trans hm4 (fun _ _ h => h)); have Hr14 := Lib.hid (Hrc0.out.new hm4).fit; have T4 := Lib.hid (Tc.out.mod hm4)
          clear hE hm4 hr8 Hm3 Hrc0 Tc
          go_wp2_with fail
          refine (rkenc_any kk Al L cl l w4 Hr14.out Hg.out (by omega)).mono ?_
          intro e w5 hE
          obtain ⟨A6, c6, rfl, hc6, hcm6, hr6, hm5⟩ := hE.any
          rw [Htw.out, Hq.out] at hc6 hr6 ⊢
          rw [Hbk.out]
          have hcv1 : (convert 29 9 (.slice A8 q c8)).run Tryz.prog w5 = .ok (.string s) w5 := by
            rw [← Hss.out]
            exact conv_rds Tryz.underlying29 Tryz.underlying5 Tryz.underlying9 w5 (Hr8.out.new hm5) H256.out
          have hcv2 : (convert 29 9 (.slice A6 q c6)).run Tryz.prog w5 = .ok (.string s) w5 := by
            rw [← Hss.out]
            exact conv_rds Tryz.underlying29 Tryz.underlying5 Tryz.underlying9 w5 hr6 H256.out
          have hbb0 : (bk != bk) = false := by simp
          have hstr : (s.toList != s.toList) = false := by simp
          have Hm5 := Lib.hid (Hm4.out.trans hm5 (fun _ _ h => h)); have Hr6 := Lib.hid hr6; have T5 := Lib.hid (T4.out.mod hm5); have Hcm6 := Lib.hid hcm6
          have Hraw5 := Lib.hid (Hrawq.out.new Hm5.out).fit
          clear hE hm5 hr6 hcm6 Hm4 Hr8 Hr14 T4 Hss Hbk
          go_wp2_with fail
          refine (kenc_any kk A0 n0 c0 raw w5 Hraw5.out Hgr.out T5.out).mono ?_
          intro e w8 hE
          obtain ⟨A9, c9, rfl, _, _, hr9, hm8⟩ := hE.any
          rw [Htx.out, Hqx.out] at hr9 ⊢
          rw [Hbx.out]
          have Hr9 := Lib.hid hr9; have Hm8 := Lib.hid (Hm5.out.trans hm8 (fun _ _ h => h)); have Hraw8 := Lib.hid (Hraw5.out.new hm8).fit; have Hr68 := Lib.hid (Hr6.out.new hm8).fit
          clear hE hm8 hr9 Hm5 T5 Hraw5 Hr6 hcv1 hcv2 hbb0 hstr
          go_wp2_with fail
          refine (rkenc_any kk A0 n0 c0 raw w8 Hraw8.out Hgr.out (by omega)).mono ?_
          intro e w9 hE
          obtain ⟨A7, c7, rfl, _, _, hr7, hm9⟩ := hE.any
          rw [Htx.out, Hqx.out] at hr7 ⊢
          rw [Hbx.out]
          have hcv1 : (convert 29 9 (.slice A9 qx c9)).run Tryz.prog w9 = .ok (.string sx) w9 := by
            rw [← Hsx.out]
            exact conv_rds Tryz.underlying29 Tryz.underlying5 Tryz.underlying9 w9 (Hr9.out.new hm9) H256x.out
          have hcv2 : (convert 29 9 (.slice A7 qx c7)).run Tryz.prog w9 = .ok (.string sx) w9 := by
            rw [← Hsx.out]
            exact conv_rds Tryz.underlying29 Tryz.underlying5 Tryz.underlying9 w9 hr7 H256x.out
          have hbb0 : (bx != bx) = false := by simp
          have hstr : (sx.toList != sx.toList) = false := by simp
          have Hm7 := Lib.hid (Hm8.out.trans hm9 (fun _ _ h => h)); have Hr7 := Lib.hid (Hr68.out.new hm9).fit
          clear hE hm9 hr7 Hm8 Hr9 Hraw8 Hr68 Hsx Hbx Htx Hqx H256x
          have hr1 : ([] : List Value).length + q ≤ maxLen := by unfold maxLen; simp; omega
          have hr2 : (([] : List Value).length + q) * 1 ≤ 140737488355328 := by simp; omega
          have h0m : (0 : Nat) ≤ maxLen := Nat.zero_le _
          obtain ⟨w7, rfl⟩ : ∃ w7 : World, w7 = w9 := ⟨_, rfl⟩
          go_upto_if 150 with (at_builtin; refine wpList_app rfl (.tmp 145) (.tmp 146) _ rfl elt8 rfl (Own.lit w7 5 #[] h0m) rfl (Hr7.out.alloc (Nat.le_refl _) _) (cells8_one tw) hr1 hr2 (le_alloc _ _) ?_; intro v' w10 HO HBl HG; clear HG; obtain ⟨Au, cu, rfl, hAu⟩ := u_formN8 (bs := tw) HO.out Hq.out; have HAu := Lib.hid hAu; clear hAu)
          have Hm10 : Hid (Mod (fun _ => False) w7 w10) := Lib.hid (((Mod.refl (fun _ => False) w7).alloc _).trans (Mod.of_below HBl.out) (fun i hi h => by omega))
          go_cut [37] (fun s16 wc => ∃ (k : Nat) (us : List Nat), s16 = .int .i64 (k : Int) ∧ k ≤ q ∧ us.length = q ∧ lt256 us ∧ Own w7.heap.size wc 5 (.slice Au q cu) (cells8 us) ∧ Mod (fun _ => False) w7 wc)
          case first =>
            clear hr1 hr2 h0m
            by_cases h0 : 0 < q
            · obtain ⟨gu, rfl, hgB, hgl⟩ := HAu.out.2.2 h0
              obtain ⟨x, hx, hx4⟩ : ∃ x : Nat, bits .and .i64 at' 65535 = (x : Int) ∧ x < 65536 := and_nat at' 65535 16 rfl (by omega)
              obtain ⟨k, hk, hkl⟩ : ∃ k : Nat, (x : Int) % (q : Int) = (k : Int) ∧ k < q := ⟨x % q, by rw [Int.natCast_emod], Nat.mod_lt _ h0⟩
              have hown : Own w7.heap.size w10 5 (.slice (some ⟨gu, 0, none⟩) q cu) (cells8 tw) := HO.out
              obtain ⟨⟨u0, hu0⟩, hfz, hset⟩ := own_set (b := by_) hown Hq.out.symm hkl
              have hk0 : (0 : Int) ≤ (k : Int) := by omega
              have hk1 : (k : Int) < (q : Int) := by omega
              have hkk : k ≤ q := by omega
              have Hset := Lib.hid hset
              have Hgg : Hid (w7.heap.size ≤ gu) := Lib.hid hgB
              clear hset hown hgB hgl
              go_wp2_with fail
              go_meet
              case rel => exact ⟨k, tw.set k by_, rfl, hkk, by rw [List.length_set, Hq.out], (fun z hz => (List.mem_or_eq_of_mem_set hz).elim (fun h => H256.out z h) (fun h => h ▸ Hby.out)), Hset.out, Hm10.out.setCell (fun h => absurd h (by have := Hgg.out; simp; omega)) _⟩
            · go_wp2_with fail
              go_meet
              case rel => exact ⟨0, tw, rfl, Nat.zero_le _, Hq.out, H256.out, HO.out, Hm10.out⟩
          case rest =>
            obtain ⟨k, us, rfl, hkq, hul, hu256, hown, hm11⟩ := hcut
            have Hmc := Lib.hid (Hm7.out.trans hm11 (fun _ _ h => h))
            have H0 := Lib.hid (Hbq.out.new Hmc.out).fit; have H6 := Lib.hid (Hr7.out.new hm11).fit; have HU := Lib.hid (Own.rds8 hown hul).fit; have Hul := Lib.hid hul; have Hu256 := Lib.hid hu256
            have hkc : (k : Int) ≤ (c6 : Int) := by omega
            have hk0 : (0 : Int) ≤ (k : Int) := by omega
            have hr3 : (cells8 tw).length + 1 ≤ maxLen := by rw [cells8_length, Hq.out]; unfold maxLen; omega
            have hr4 : ((cells8 tw).length + 1) * 1 ≤ 140737488355328 := by rw [cells8_length, Hq.out]; omega
            have Hone : Hid (∀ u ∈ [Value.int .u8 (by_ : Int)], u.oneCell' = true) := Lib.hid (by simp [Value.oneCell'])
            have Hone6 : Hid (∀ u ∈ cells8 tw, u.oneCell' = true) := Lib.hid (cells8_one tw)
            have Hcu := Lib.hid (HAu.out.1); have Hcmu := Lib.hid HAu.out.2.1
            clear hul hu256 hown hm11 HO HBl HAu Hm10 Hr7 Hm7
            go_upto_region 33 with fail
            go_cut [172, 173, 174] (fun s67 s68 s69 wd => ∃ lit : Nat, s67 = .slice (some ⟨lit, 0, none⟩) 5 5 ∧ s68 = .int .i64 5 ∧ s69 = .int .i64 0 ∧ Rows5b wd 6000 lit ∧ Mod (fun _ => False) wc wd)
            case first =>
              go_region_held_law (fun w' => Below wc.heap.size wc w') (repeat' first | (with_reducible exact S93.out) | (with_reducible exact S90.out) | (with_reducible exact Below.refl _ _) | (with_reducible refine Below.drew ?_) | (with_reducible refine below_alloc ?_ (Nat.le_refl _) _))
                (first
                  | (refine step_app rfl (.tmp 166) (.tmp 167) _ rfl elt8 (B := wc.heap.size) (v := .slice (some ⟨_, 0, none⟩) 0 0) (xs := []) rfl (by repeat' first | (with_reducible refine Own.drew ?_) | (exact own_lit0 (by simp) (by first | exact Nat.le_refl _ | simp)) | (with_reducible refine Own.alloc ?_ _)) rfl (H6.out.below (by repeat' first | (with_reducible exact S93.out) | (with_reducible exact S90.out) | (with_reducible exact Below.refl _ _) | (with_reducible refine Below.drew ?_) | (with_reducible refine below_alloc ?_ (Nat.le_refl _) _))) Hone6.out hr1 hr2 (Below.size (B := wc.heap.size) (by repeat' first | (with_reducible exact S93.out) | (with_reducible exact S90.out) | (with_reducible exact Below.refl _ _) | (with_reducible refine Below.drew ?_) | (with_reducible refine below_alloc ?_ (Nat.le_refl _) _))) ?_; intro v90 w90 O90 B90 G90; have P90 : Hid (Own wc.heap.size w90 5 v90 (cells8 tw)) := Lib.hid O90.out; have S90 : Hid (Below wc.heap.size wc w90) := Lib.hid (Below.trans (by repeat' first | (with_reducible exact S93.out) | (with_reducible exact S90.out) | (with_reducible exact Below.refl _ _) | (with_reducible refine Below.drew ?_) | (with_reducible refine below_alloc ?_ (Nat.le_refl _) _)) B90.out))
                  | (refine step_app rfl (.tmp 168) (.tmp 170) _ rfl elt8 (B := wc.heap.size) (v := v90) (xs := cells8 tw) rfl (by repeat' first | (with_reducible exact P90.out) | (with_reducible refine Own.drew ?_) | (with_reducible refine Own.alloc ?_ _)) rfl (Has.rds (xs := [.int .u8 (by_ : Int)]) (by repeat' first | ((with_reducible refine has_lit ?_); simp; done) | (with_reducible refine Has.drew ?_) | (with_reducible refine Has.alloc ?_ _) | (with_reducible refine Has.far ?_ G90.out.1 (own_ne (by first | (simp; done) | (simp; omega)))))) Hone.out hr3 hr4 (Below.size (B := wc.heap.size) (by repeat' first | (with_reducible exact S93.out) | (with_reducible exact S90.out) | (with_reducible exact Below.refl _ _) | (with_reducible refine Below.drew ?_) | (with_reducible refine below_alloc ?_ (Nat.le_refl _) _))) ?_; intro v93 w93 O93 B93 G93; clear G93; obtain ⟨A93, c93, rfl, hc93, hcm93, _⟩ := u_formN8 (bs := tw ++ [by_]) (n := q + 1) (by rw [cells8_snoc]; exact O93.out) (by rw [List.length_append, Hq.out]; rfl); have S93 : Hid (Below wc.heap.size wc w93) := Lib.hid (Below.trans (by repeat' first | (with_reducible exact S93.out) | (with_reducible exact S90.out) | (with_reducible exact Below.refl _ _) | (with_reducible refine Below.drew ?_) | (with_reducible refine below_alloc ?_ (Nat.le_refl _) _)) B93.out)))
              all_goals
                have HR5 : Hid (Rows5b (w93.alloc (.cells #[.slice A5 n5 c5, .slice A6 q c6, .slice Au q cu, .slice A6 k c6, .slice A93 (q + 1) c93] 29)) 6000 w93.heap.size) := Lib.hid (rows5b_new (H0.out.below S93.out).fit (by omega) Hrc.out Hrl.out (H6.out.below S93.out).fit (by omega) ⟨hc6, Hcm6.out⟩ H256.out (HU.out.below S93.out).fit ⟨Hcu.out, Hcmu.out⟩ Hu256.out hkq (Own.rds8 (xs := tw ++ [by_]) (by rw [cells8_snoc]; exact O93.out) (by rw [List.length_append, Hq.out]; rfl)) (by omega) ⟨hc93, hcm93⟩ (fun x hx => by
                  rcases List.mem_append.1 hx with hx | hx
                  · exact H256.out x hx
                  · rw [List.mem_singleton.1 hx]; exact Hby.out))
                have HM5 : Hid (Mod (fun _ => False) wc (w93.alloc (.cells #[.slice A5 n5 c5, .slice A6 q c6, .slice Au q cu, .slice A6 k c6, .slice A93 (q + 1) c93] 29))) := Lib.hid ((mod_below S93.out).alloc _)
                clear hc93 hcm93
                go_wp2_with fail
                go_meet
                exact ⟨_, rfl, rfl, rfl, HR5.out, HM5.out⟩
            case rest =>
              obtain ⟨lit, rfl, rfl, rfl, hR5, hmd⟩ := hcut
              have HR5 := Lib.hid hR5; have HmL := Lib.hid (Hmc.out.trans hmd (fun _ _ h => h)); have TL := Lib.hid (Tq.out.mod (Hmc.out.trans hmd (fun _ _ h => h)))
              clear hR5 hmd H0 H6 HU Hul Hu256 Hone Hone6 hr1 hr2 hr3 hr4 h0m Hmc hkc hk0 hkq H256 Hcu Hcmu Hcm6
              obtain ⟨wE, rfl⟩ : ∃ wE : World, wE = wc := ⟨_, rfl⟩
              go_wp2_with fail
              go_loopg [174] 5 (fun l s69 wr => ∃ j : Nat, j + l = 5 ∧ s69 = .int .i64 (j : Int) ∧ Mod (fun _ => False) wE wr)
              case atStart => exact ⟨0, rfl, rfl, Mod.refl _ _⟩
              case round =>
                obtain ⟨j, hjl, rfl, hm⟩ := hrel
                have Hmj := Lib.hid hm; have Hjl := Lib.hid hjl
                clear hm hjl
                by_cases hj : j < 5
                · have hj0 : (0 : Int) ≤ (j : Int) := by omega
                  have hjb : decide ((j : Int) < 5) = true := by simp; omega
                  obtain ⟨A, nc, cc, cs, hcell, hsc, hnc2, hncc, hccm, hlt⟩ := (HR5.out.mod Hmj.out).2 j hj
                  obtain ⟨nm, hnm, hnm64⟩ : ∃ nm : Nat, bits .and .i64 n 63 = (nm : Int) ∧ nm < 64 := and_nat n 63 6 rfl (by omega)
                  obtain ⟨wI, hwI⟩ : ∃ wI, wI = wr.alloc (.cells #[.int .i64 (L : Int), .int .i64 (nm : Int), .int .i64 n] 3) := ⟨_, rfl⟩
                  have HN3 : Hid (Nums3 wI wr.heap.size) := Lib.hid (by rw [hwI]; exact nums3_new _ _ _ _ _)
                  have hmI : Mod (fun _ => False) wr wI := by rw [hwI]; exact (Mod.refl _ _).alloc _
                  have HmI := Lib.hid (Hmj.out.trans hmI (fun _ _ h => h)); have HWI := Lib.hid hwI; have Hsc := Lib.hid (hsc.new hmI).fit; have Hlt := Lib.hid hlt; have Hccm := Lib.hid hccm
                  clear hsc hlt hwI hmI hccm
                  obtain ⟨go2, rfl⟩ : ∃ go2 : Nat, go2 = gk := ⟨_, rfl⟩
                  go_wp2_with fail
                  rw [← HWI.out]
                  clear HWI hcell
                  generalize wr.heap.size = lit2 at *
                  go_loopg [185] 3 (fun l s80 wq => ∃ i : Nat, i + l = 3 ∧ s80 = .int .i64 (i : Int) ∧ Mod (fun _ => False) wI wq)
                  case atStart => exact ⟨0, rfl, rfl, Mod.refl _ _⟩
                  case round =>
                    obtain ⟨i3, hil, rfl, hm⟩ := hrel
                    have Hm2 := Lib.hid hm; have Hil := Lib.hid hil
                    clear hm hil
                    by_cases hi3 : i3 < 3
                    · have hi30 : (0 : Int) ≤ (i3 : Int) := by omega
                      obtain ⟨m, hcell⟩ := (HN3.out.mod Hm2.out).2 i3 hi3
                      have Hr := Lib.hid (Hsc.out.new Hm2.out).fit; have Ty := Lib.hid (TL.out.mod (HmI.out.trans Hm2.out (fun _ _ h => h)))
                      go_wp2_with fail
                      refine (kdec_any kk m A nc cc cs wr Hr.out Hlt.out hncc Hccm.out (by omega) Ty.out).mono ?_
                      intro e x1 hE
                      obtain ⟨Ay, cy, rfl, hry, hmy⟩ := hE.any
                      have hlen : ((decK kk m cs).getD []).length ≤ 1000000 := by
                        cases hd : decK kk m cs with
                        | none => exact Nat.zero_le _
                        | some us =>
                          obtain ⟨_, h1, h2, _⟩ := decK_some Hlt.out hd
                          show us.length ≤ 1000000
                          omega
                      obtain ⟨b2, hb2⟩ : ∃ b2, b2 = (decK kk m cs).isSome := ⟨_, rfl⟩
                      obtain ⟨ty, hty⟩ : ∃ ty, ty = (decK kk m cs).getD [] := ⟨_, rfl⟩
                      obtain ⟨ny, hny⟩ : ∃ ny, ny = ty.length := ⟨_, rfl⟩
                      rw [← hb2, ← hty, ← hny]
                      rw [← hty, ← hny] at hry hlen
                      have Hb2 := Lib.hid hb2; have Hty := Lib.hid hty; have Hlen := Lib.hid hlen; have Hny := Lib.hid hny
                      have Hry := Lib.hid hry; have Hmy := Lib.hid (Hm2.out.trans hmy (fun _ _ h => h)); have Hry0 := Lib.hid (Hr.out.new hmy).fit
                      have Hw0 : Hid (0 < x1.heap.size) := Lib.hid (Nat.lt_of_le_of_lt (Nat.zero_le _) (Ty.out.mod hmy).wid.1)
                      clear hE hb2 hty hlen hry hmy Hr hcell hny Ty
                      go_wp2_with fail
                      refine (rkdec_any kk m A nc cc cs x1 Hry0.out Hlt.out hncc Hccm.out (by omega) Hw0.out).mono ?_
                      intro e x2 hE
                      obtain ⟨Az, cz, rfl, hrz, hmz⟩ := hE.any
                      rw [← Hb2.out, ← Hty.out, ← Hny.out]
                      rw [← Hty.out, ← Hny.out] at hrz
                      have Hrz := Lib.hid hrz; have Hmz := Lib.hid (Hmy.out.trans hmz (fun _ _ h => h)); have Hryz := Lib.hid (Hry.out.new hmz).fit
                      clear hE hrz hmz Hmy Hry Hry0 Hw0
                      have hbb2 : (b2 != b2) = false := by simp
                      go_wp2_with fail
                      refine (sameS_any Ay Az ny ny cy cz _ _ ty ty true x2 Hryz.out Hrz.out Hlen.out (by simp)).mono ?_
                      rintro e x3 ⟨rfl, hm3⟩
                      have Hm3 := Lib.hid (Hmz.out.trans hm3 (fun _ _ h => h))
                      clear hm3 Hmz Hrz Hryz hbb2
                      go_wp2_with fail
                      go_roundg (gk - 1)
                      case measure => have := Hil.out; omega
                      case rel => exact ⟨i3 + 1, by have := Hil.out; omega, by go_num, Hm3.out⟩
                    · go_wp2_with fail
                      go_roundg (go2 - 1)
                      case measure => have := Hjl.out; omega
                      case rel => exact ⟨j + 1, by have := Hjl.out; omega, by go_num, HmI.out.trans Hm2.out (fun _ _ h => h)⟩
                · have hji : ¬ (j : Int) < 5 := by omega
                  go_wp2_with fail
                  go_roundg (go1 - 1)
                  case measure => have := Hjq.out; omega
                  case rel => exact ⟨jq + 1, by have := Hjq.out; omega, by go_num, HmL.out.trans Hmj.out (fun _ _ h => h)⟩
        · have hqn : ¬ (jq : Int) ≤ 7 := by omega
          have hqnb : decide ((jq : Int) ≤ 7) = false := by simp; omega
          have Tf := Lib.hid (Tq.out.mod Hm.out)
          go_wp2_with fail
          refine (kawake_any _ Tf.out).mono ?_
          rintro e wf ⟨rfl, hmf⟩
          have Hmf := Lib.hid ((Hmq.out.trans Hm.out (fun _ _ h => h)).trans hmf (fun _ _ h => h))
          clear hmf
          go_wp2_with fail
          go_ret
          exact ⟨rfl, Hmf.out⟩
end Go.Proofs.YtmcemeofkjfhhaaGreatDoor

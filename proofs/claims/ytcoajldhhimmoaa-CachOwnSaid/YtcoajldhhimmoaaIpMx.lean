/- CachOwn's walk. -/
import Derived.Test.YtcoajldhhimmoaaMx1
import Derived.Test.YtcoajldhhimmoaaIiMx
import Derived.Test.YtcoajldhhimmoaaMx6
namespace Go.Proofs.Ytcoajldhhimmoaa
open Go.RowKit

def ok1 : ClkN := ⟨2, 1, [⟨kA, 2, false, true, 0⟩], 0, 0, 0⟩
def ok2 : ClkN := ⟨2, 1, [⟨kA, 2, true, true, 0⟩], 0, 0, 0⟩
def oc1 (l : List (Int × Nat)) : CacN := ⟨ok1, setC (fun _ => none) kA l []⟩
def oc2 (l : List (Int × Nat)) : CacN := ⟨ok2, setC (fun _ => none) kA l []⟩
theorem oe1 (l : List (Int × Nat)) : putC (newC 2) kA l = (oc1 l, true) := put_eq_yes (c := newC 2) (c2 := ok1) (os := []) l (by decide)
theorem oe_sam (l : List (Int × Nat)) : setC (fun _ => none) kA l [] kA = some l := by unfold setC; rw [if_pos rfl]
theorem oe2 (l : List (Int × Nat)) : getC (oc1 l) kA = (oc2 l, some l) := by
  have h := get_eq_yes (c := oc1 l) (k := kA) (c2 := ok2) (by show touchK ok1 kA = (ok2, true); decide)
  rw [h]
  show (oc2 l, setC (fun _ => none) kA l [] kA) = _
  rw [oe_sam]
theorem oe3 (l : List (Int × Nat)) : getC (oc2 l) kA = (oc2 l, some l) := by
  have h := get_eq_yes (c := oc2 l) (k := kA) (c2 := ok2) (by show touchK ok2 kA = (ok2, true); decide)
  rw [h]
  show (oc2 l, setC (fun _ => none) kA l [] kA) = _
  rw [oe_sam]
theorem oe4 (l : List (Int × Nat)) : unpinC (oc2 l) kA = (oc2 l, false) := unpin_eq_no (c := oc2 l) (by show ¬ (resAt ok2 kA = true ∧ 0 < pinsC ok2 kA); decide)
theorem own_old {w : World} {B k : Nat} {v : Value} {l : List (Int × Nat)} (h : OwnS B w v l) (hk : v.ownBlock = some k) : ∃ cs, Blk w k 31 cs := by
  rcases h.2 with ⟨rfl, _⟩ | ⟨g, cap, cur, rfl, _, hg, _⟩
  · simp [Value.ownBlock] at hk
  · have : g = k := by simpa [Value.ownBlock] using hk
    subst this
    exact ⟨cur, hg⟩
set_option maxHeartbeats 16000000 in
set_option maxRecDepth 100000 in
theorem ccown_walk (A0 : Option Addr) (n0 c0 : Nat) (l : List (Int × Nat)) (w : World) (hs : RdsS w w.heap.size A0 n0 l) : Calls Try.prog 3 #[.slice A0 n0 c0] w fun e w' => e = .returned (.bool true) ∧ Mod (fun _ => False) w w' := by
  have Hs := Lib.hid hs
  have hcs : Try.prog.cellsOf 31 = 2 := by kernel_rfl
  clear hs
  go_enter Try.func3, Try.ntmps3
  rcases Nat.lt_or_ge 50 n0 with hn | hn
  · have hn1 : (50 : Int) < (n0 : Int) := by omega
    go_wp2_with fail
    refine (ccAwake_any w).mono ?_
    rintro e w1 ⟨rfl, hm⟩
    have Hm := Lib.hid hm
    clear hm
    go_wp2_with fail
    go_ret
    exact ⟨rfl, Hm.out⟩
  have hn1 : ¬ (50 : Int) < (n0 : Int) := by omega
  have Hn := Lib.hid hn
  clear hn
  go_wp2_with fail
  refine (ccNew_any 2 w).mono ?_
  rintro e w0 ⟨g, b, rfl, hc0, hm0, hb0, hg0⟩
  have HC0 := Lib.hid hc0; have Hm0 := Lib.hid hm0; have Hgb := Lib.hid (show w.heap.size ≤ g ∧ w.heap.size ≤ b ∧ g < w0.heap.size ∧ b < w0.heap.size by have := (hc0 _ (Mod.refl _ _) 0 (Nat.zero_le _)).lt; omega)
  clear hc0 hm0 hb0 hg0
  have Hown : Hid (OwnK 2 w0.heap.size (w0.alloc (.cells #[] 31)) 31 (.slice (some ⟨w0.heap.size, 0, none⟩) 0 0) []) := Lib.hid (own_litK (Nat.le_refl _))
  have Hr := Lib.hid ((Hs.out.new Hm0.out).fit.alloc (Nat.le_refl _) (.cells #[] 31)).toK
  have Hone : Hid (∀ u ∈ (rowsS l).flatten, u.oneCell' = true) := Lib.hid (by rw [rowsS_flat]; exact cellsS_one _)
  have hr1 : ([] : List (List Value)).length + n0 ≤ maxLen := by have := Hn.out; unfold maxLen; simp; omega
  have hr2 : (([] : List (List Value)).length + n0) * 16 ≤ 140737488355328 := by have := Hn.out; simp; omega
  have hsz : w0.heap.size ≤ (w0.alloc (.cells #[] 31)).heap.size := by simp
  go_upto_region 7 with (at_builtin; refine wpList_appK (v := .slice (some ⟨w0.heap.size, 0, none⟩) 0 0) rfl (.tmp 20) (.tmp 21) _ rfl eltS2 rfl Hown.out rfl Hr.out Hone.out hr1 hr2 hsz ?_; intro vx W HO HB HG; clear HG)
  have hox : OwnS w0.heap.size W vx l := by have := HO.out; rw [List.nil_append] at this; exact this.toS
  obtain ⟨Ax, nx, cx, rfl, hnx, hnc, hcm, hrx⟩ := hox.formN
  have hnn : n0 = nx := by have h1 := hnx.out; have h2 := Hs.out.1; omega
  subst hnn
  have Hox := Lib.hid hox
  have Hm1 : Hid (Mod (fun _ => False) w0 W) := Lib.hid (((Mod.refl (fun _ => False) w0).alloc _).trans (Mod.of_below HB.out) (fun i hi h => by omega))
  have HE1 : Hid (Mod (fun _ => False) w W) := Lib.hid (Hm0.out.trans Hm1.out (fun _ _ h => h))
  have HC1 : Hid (CacV W.heap.size g b 0 W (newC 2)) := Lib.hid (HC0.out W Hm1.out W.heap.size (Nat.le_refl _))
  have Hsx : Hid (SliH 0 W (Value.slice Ax n0 cx) l) := Lib.hid (SliH.of_own (hox.mono (Nat.zero_le _)))
  have HfA : Hid (KeyFit kA) := Lib.hid (keyFit_lit 1 (by omega) (by omega))
  have hn2 : n0 ≤ 100000 := by have := Hn.out; omega
  have Hn2 := Lib.hid hn2
  have Hxb : Hid (∀ k, (Value.slice Ax n0 cx).ownBlock = some k → w0.heap.size ≤ k ∧ k < W.heap.size) := Lib.hid (fun k hk => hox.block k hk)
  clear hox hnx hnc hcm hrx hn2 HO HB Hown Hr Hone hr1 hr2 hsz HC0
  go_wp2_with fail
  refine (call_put (k := kA) (oe1 l) HC1.out HfA.out Hsx.out Hn2.out (by omega)).mono ?_
  rintro e w2 ⟨rfl, hc2, hm2⟩
  have HC2 : Hid (CacV W.heap.size g b (0 + 1) w2 (oc1 l)) := Lib.hid hc2
  have HE2 : Hid (Mod (fun _ => False) w w2) := Lib.hid (HE1.out.trans hm2 (fun i hi h => by have := Hgb.out; omega))
  have Hox2 : Hid (OwnS w0.heap.size w2 (Value.slice Ax n0 cx) l) := Lib.hid (hm2.owns Hox.out (fun k hk h => by have := (Hxb.out k hk).1; have := Hgb.out; omega))
  clear hc2 hm2 HC1 Hsx Hm1 HE1 Hox
  go_wp2_with fail
  go_loopg [30] n0 (fun lk s30 wr => ∃ (i : Nat) (lx : List (Int × Nat)), i + lk = n0 ∧ s30 = .int .i64 (i : Int) ∧ lx.length = n0 ∧ OwnS w0.heap.size wr (Value.slice Ax n0 cx) lx ∧ Mod (fun k => (Value.slice Ax n0 cx).ownBlock = some k) w2 wr)
  case atStart => exact ⟨0, l, by omega, rfl, Hs.out.1, Hox2.out, Mod.refl _ _⟩
  case round =>
    obtain ⟨i, lx, hik, rfl, hlx, hox, hm⟩ := hrel
    have Hik := Lib.hid hik; have Hlx := Lib.hid hlx; have Hox3 := Lib.hid hox; have Hm := Lib.hid hm
    clear hik hlx hox hm
    by_cases hin : i < n0
    · have hi0 : (0 : Int) ≤ (i : Int) := by omega
      have hii : (i : Int) < (n0 : Int) := by omega
      have hi5 : (i : Int) ≤ 100 := by have := Hn.out; omega
      obtain ⟨gx, cx2, ex, q1, q2, q3, q4⟩ := OwnS.form' Hox3.out (by rw [Hlx.out]; omega)
      injection ex with ex ey ez
      subst ex
      clear ey ez q1 q2 q3 q4
      obtain ⟨p, hp⟩ : ∃ p, lx[i]? = some p := ⟨lx[i]'(by rw [Hlx.out]; exact hin), List.getElem?_eq_getElem _⟩
      obtain ⟨x, hx⟩ : ∃ x : Nat, x = (p.2 + 1) % 18446744073709551616 := ⟨_, rfl⟩
      have hwx : IntKind.u64.wrap ((p.2 : Int) + 1) = (x : Int) := by rw [IntKind.wrap_u64, hx]; omega
      obtain ⟨hc, hf, hset⟩ := Hox3.out.setV Hlx.out hp x
      have hat := at_gx gx i
      have Hset := Lib.hid hset
      clear hset hp hx
      go_wp2_with fail
      go_roundg (gk - 1)
      case measure => have := Hik.out; omega
      case rel => exact ⟨i + 1, lx.set i (p.1, x), by have := Hik.out; omega, by go_num, by rw [List.length_set]; exact Hlx.out, Hset.out, Hm.out.setCell (fun _ => by simp [Value.ownBlock]) _⟩
    · obtain ⟨q, hq⟩ : ∃ q, q = i := ⟨_, rfl⟩
      rw [← hq] at hin ⊢
      have hqq : ¬ (q : Int) < (n0 : Int) := by omega
      obtain ⟨w3, rfl⟩ : ∃ w9 : World, w9 = wr := ⟨_, rfl⟩
      have HC3 : Hid (CacV W.heap.size g b (0 + 1) w3 (oc1 l)) := Lib.hid (HC2.out.modS Hm.out (fun h => by have := (Hxb.out _ h).1; have := Hgb.out; omega) (fun h => by have := (Hxb.out _ h).1; have := Hgb.out; omega) (fun j cs hj _ h => by have := (Hxb.out _ h).2; omega) (fun j cs hj _ h => by have := (Hxb.out _ h).2; omega))
      have HE3 : Hid (Mod (fun _ => False) w w3) := Lib.hid (HE2.out.trans Hm.out (fun i hi h => by have := (Hxb.out _ h).1; have := Hgb.out; omega))
      clear hin hq HC2 HE2 Hox2 Hm Hox3
      clear Hlx
      have hgo1 : True := trivial
      clear hgo1
      go_wp2_with fail
      clear hqq
      refine (call_get (k := kA) (oe2 l) HC3.out HfA.out).mono ?_
      rintro e w4 ⟨Ay, ny, cy, rfl, Hny, hncy, hcmy, hoy, Hc4, hm4⟩
      have hyl : n0 = ny := by have h1 := Hny.out; have h2 := Hs.out.1; have h3 : ((some l).getD []).length = l.length := rfl; omega
      subst hyl
      have hoy : OwnS w3.heap.size w4 (.slice Ay n0 cy) l := hoy
      have Hoy := Lib.hid hoy
      have HE4 : Hid (Mod (fun _ => False) w w4) := Lib.hid (HE3.out.trans hm4 (fun i hi h => by have := Hgb.out; omega))
      have Hyb : Hid (∀ k, (Value.slice Ay n0 cy).ownBlock = some k → w3.heap.size ≤ k) := Lib.hid (fun k hk => (hoy.block k hk).1)
      clear hncy hcmy hoy hm4 HC3
      go_wp2_with fail
      go_loopg [50] n0 (fun lk s50 wr => ∃ (i : Nat) (lx : List (Int × Nat)), i + lk = n0 ∧ s50 = .int .i64 (i : Int) ∧ lx.length = n0 ∧ OwnS w3.heap.size wr (.slice Ay n0 cy) lx ∧ Mod (fun k => (Value.slice Ay n0 cy).ownBlock = some k) w4 wr)
      case atStart => exact ⟨0, l, by omega, rfl, Hs.out.1, Hoy.out, Mod.refl _ _⟩
      case round =>
        obtain ⟨i, lx, hik, rfl, hlx, hox, hm⟩ := hrel
        clear Hik
        have Hik := Lib.hid hik; have Hlx := Lib.hid hlx; have Hox3 := Lib.hid hox; have Hm := Lib.hid hm
        clear hik hlx hox hm
        by_cases hin : i < n0
        · have hi0 : (0 : Int) ≤ (i : Int) := by omega
          have hii : (i : Int) < (n0 : Int) := by omega
          have hi5 : (i : Int) ≤ 100 := by have := Hn.out; omega
          obtain ⟨gx, cx2, ex, q1, q2, q3, q4⟩ := OwnS.form' Hox3.out (by rw [Hlx.out]; omega)
          injection ex with ex ey ez
          subst ex
          clear ey ez q1 q2 q3 q4
          obtain ⟨p, hp⟩ : ∃ p, lx[i]? = some p := ⟨lx[i]'(by rw [Hlx.out]; exact hin), List.getElem?_eq_getElem _⟩
          obtain ⟨x, hx⟩ : ∃ x : Int, x = wrap64 (p.1 + 1) := ⟨_, rfl⟩
          have hwx2 : wrap64 (p.1 + 1) = x := hx.symm
          obtain ⟨hc, hf, hset⟩ := Hox3.out.setT Hlx.out hp x
          have hat := at_gx gx i
          have Hset := Lib.hid hset
          clear hset hp hx
          go_wp2_with fail
          go_roundg (gk - 1)
          case measure => have := Hik.out; omega
          case rel => exact ⟨i + 1, lx.set i (x, p.2), by have := Hik.out; omega, by go_num, by rw [List.length_set]; exact Hlx.out, Hset.out, Hm.out.setCell (fun _ => by simp [Value.ownBlock]) _⟩
        · obtain ⟨q2, hq⟩ : ∃ q2, q2 = i := ⟨_, rfl⟩
          rw [← hq] at hin ⊢
          have hqq : ¬ (q2 : Int) < (n0 : Int) := by omega
          obtain ⟨w5, rfl⟩ : ∃ w9 : World, w9 = wr := ⟨_, rfl⟩
          have HC5 : Hid (CacV W.heap.size g b (0 + 1) w5 (oc2 l)) := Lib.hid (Hc4.out w5 Hm.out)
          have HE5 : Hid (Mod (fun _ => False) w w5) := Lib.hid (HE4.out.trans Hm.out (fun i hi h => by have := Hyb.out _ h; have := HE3.out.size; omega))
          clear hin hq Hc4 HE4 Hoy Hm Hox3 Hlx
          go_wp2_with fail
          clear hqq
          refine (call_clock (n := 1) HC5.out rfl).mono ?_
          rintro e w6 ⟨v0, v1, v3, v4, v5, Ap, cp, rfl, hncp, hcmp, Hop, hm6⟩
          have HC6 : Hid (CacV W.heap.size g b (0 + 1) w5 (oc2 l)) := HC5
          have HE6 : Hid (Mod (fun _ => False) w w6) := Lib.hid (HE5.out.trans hm6 (fun _ _ h => h))
          have Hm6 := Lib.hid hm6
          have hfd := field_pages v0 v1 (.slice Ap 1 cp) v3 v4 v5 w6
          obtain ⟨gp, cp2, ep, q1, q2, q3, q4⟩ := OwnP.form' Hop.out (Nat.zero_lt_one)
          injection ep with ep ey ez
          subst ep
          have Hgp : Hid (w5.heap.size ≤ gp) := Lib.hid q3
          clear ey ez q1 q2 q3 q4 hm6
          go_wp2_with fail
          clear hfd
          go_loopg [67] 1 (fun lk s67 wr => ∃ (i : Nat) (ps : List PagN), i + lk = 1 ∧ s67 = .int .i64 (i : Int) ∧ ps.length = 1 ∧ OwnP w5.heap.size wr 39 (.slice (some ⟨gp, 0, none⟩) 1 cp) ps ∧ Mod (fun k => k = gp) w6 wr)
          case atStart => exact ⟨0, _, by omega, rfl, rfl, Hop.out, Mod.refl _ _⟩
          case round =>
            obtain ⟨i, ps, hik, rfl, hlp, hop, hm⟩ := hrel
            clear Hik
            have Hik := Lib.hid hik; have Hlp := Lib.hid hlp; have Hop3 := Lib.hid hop; have Hm := Lib.hid hm
            clear hik hlp hop hm
            by_cases hin : i < 1
            · have hi0 : (0 : Int) ≤ (i : Int) := by omega
              have hii : (i : Int) < 1 := by omega
              obtain ⟨p, hp⟩ : ∃ p, ps[i]? = some p := ⟨ps[i]'(by rw [Hlp.out]; exact hin), List.getElem?_eq_getElem _⟩
              obtain ⟨⟨x, _, hc⟩, hf, hset⟩ := OwnP.put_ (j := 6) (u := .int .i64 9) (q := { p with pins := 9 }) Hop3.out Hlp.out hp (by decide) rfl
              have hat : (⟨gp, 0, none⟩ : Addr).add (i * 7) = ⟨gp, i * 7, none⟩ := by rw [add_addr, Nat.zero_add]
              have Hset := Lib.hid hset
              clear hset hp
              go_wp2_with fail
              go_roundg (gk - 1)
              case measure => have := Hik.out; omega
              case rel => exact ⟨i + 1, ps.set i { p with pins := 9 }, by have := Hik.out; omega, by go_num, by rw [List.length_set]; exact Hlp.out, Hset.out, Hm.out.setCell (fun _ => rfl) _⟩
            · obtain ⟨q3, hq⟩ : ∃ q3, q3 = i := ⟨_, rfl⟩
              rw [← hq] at hin ⊢
              have hqq : ¬ (q3 : Int) < 1 := by omega
              obtain ⟨w7, rfl⟩ : ∃ w9 : World, w9 = wr := ⟨_, rfl⟩
              have HC7 : Hid (CacV W.heap.size g b (0 + 1) w7 (oc2 l)) := Lib.hid (HC5.out.new (Hm6.out.trans Hm.out (fun i hi h => by have := Hgp.out; omega)))
              have HE7 : Hid (Mod (fun _ => False) w w7) := Lib.hid (HE6.out.trans Hm.out (fun i hi h => by have := Hgp.out; have := HE5.out.size; omega))
              clear hin hq HC6 HE6 Hm Hop3 Hlp Hop Hm6
              go_wp2_with fail
              clear hqq
              refine (call_get (k := kA) (oe3 l) HC7.out HfA.out).mono ?_
              rintro e w8 ⟨Az, nz, cz, rfl, Hnz, hncz, hcmz, hoz, Hc8, hm8⟩
              have hzl : n0 = nz := by have h1 := Hnz.out; have h2 := Hs.out.1; have h3 : ((some l).getD []).length = l.length := rfl; omega
              subst hzl
              have hoz : OwnS w7.heap.size w8 (.slice Az n0 cz) l := hoz
              have HC8 : Hid (CacV W.heap.size g b (0 + 1) w8 (oc2 l)) := Lib.hid (Hc8.out _ (Mod.refl _ _))
              have HE8 : Hid (Mod (fun _ => False) w w8) := Lib.hid (HE7.out.trans hm8 (fun i hi h => by have := Hgb.out; omega))
              have Hrz := Lib.hid (hoz.rds Hs.out.1)
              clear hncz hcmz hoz hm8 Hc8
              go_wp2_with fail
              refine (sameS_any Az A0 n0 n0 cz c0 w8.heap.size w8.heap.size l l true w8 Hrz.out (Hs.out.new HE8.out).fit (by have := Hn2.out; omega) (decide_eq_true rfl)).mono ?_
              rintro e w9 ⟨rfl, hm9⟩
              have HC9 : Hid (CacV W.heap.size g b (0 + 1) w9 (oc2 l)) := Lib.hid (HC8.out.new hm9)
              have HE9 : Hid (Mod (fun _ => False) w w9) := Lib.hid (HE8.out.trans hm9 (fun _ _ h => h))
              clear hm9
              go_wp2_with fail
              refine (call_unpin (k := kA) (oe4 l) HC9.out (by omega)).mono ?_
              rintro e w10 ⟨rfl, hc10, hm10⟩
              have HE10 : Hid (Mod (fun _ => False) w w10) := Lib.hid (HE9.out.trans hm10 (fun i hi h => by have := Hgb.out; omega))
              clear hc10 hm10
              go_wp2_with fail
              refine (ccAwake_any w10).mono ?_
              rintro e w11 ⟨rfl, hm11⟩
              have HE11 : Hid (Mod (fun _ => False) w w11) := Lib.hid (HE10.out.trans hm11 (fun _ _ h => h))
              clear hm11
              go_wp2_with fail
              go_ret
              exact ⟨rfl, HE11.out⟩
end Go.Proofs.Ytcoajldhhimmoaa

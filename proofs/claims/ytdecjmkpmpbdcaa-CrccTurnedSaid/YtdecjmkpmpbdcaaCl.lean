import Derived.Test.YtdecjmkpmpbdcaaCa
import Derived.Test.YtdecjmkpmpbdcaaFit
import Derived.Deep.DeepCutAuto
namespace Go.Proofs.Ytdecjmkpmpbdcaa
open Go.RowKit

theorem elt8 : Elt Try.prog 28 5 (.int .u8 0) 1 := Elt.mk Try.underlying28 (by kernel_rfl) rfl
/-- x[k] = b -/
theorem own_set {B g nb cap k b : Nat} {w : World} {bs : List Nat} (h : Own B w 5 (.slice (some ⟨g, 0, none⟩) nb cap) (cells8 bs)) (hn : nb = bs.length) (hk : k < nb) :
    (∃ u, w.cell? ⟨g, k, none⟩ = some u) ∧ w.frozen? ⟨g, k, none⟩ = false ∧ Own B (w.setCell ⟨g, k, none⟩ (.int .u8 (b : Int))) 5 (.slice (some ⟨g, 0, none⟩) nb cap) (cells8 (bs.set k b)) := by
  have h' : w.ownsRow B 5 1 (.slice (some ⟨g, 0, none⟩) nb cap) nb (cells8 bs) := by
    have := h; unfold Own at this; rwa [cells8_length, ← hn] at this
  refine ⟨⟨.int .u8 (bs[k]'(by omega)), ?_⟩, h'.frozenAt k, ?_⟩
  · rw [h'.cellAt k (by omega), cells8_get, List.getElem?_eq_getElem (by omega)]
    rfl
  · have h2 := (h'.stored k (.int .u8 (b : Int))).1
    rw [cells8_set] at h2
    unfold Own
    rw [cells8_length, List.length_set, ← hn]
    exact h2

/-- What has been laid, at the i-th byte. -/
def layTo (f : Nat → Nat) (m i : Nat) : List Nat := (List.range m).map fun j => if j < i then f j else 0
theorem layTo_length (f : Nat → Nat) (m i : Nat) : (layTo f m i).length = m := by simp [layTo]
theorem layTo_zero (f : Nat → Nat) (m : Nat) : cells8 (layTo f m 0) = List.replicate m (.int .u8 0) := by
  apply List.ext_getElem?
  intro j
  rw [cells8_get]
  rcases Nat.lt_or_ge j m with h | h
  · simp [layTo, h]
  · rw [List.getElem?_eq_none (by rw [layTo_length]; exact h), List.getElem?_eq_none (by simpa using h)]
    rfl
theorem layTo_more (f : Nat → Nat) {m i : Nat} (h : i < m) : (layTo f m i).set i (f i) = layTo f m (i + 1) := by
  apply List.ext_getElem?
  intro j
  rw [List.getElem?_set]
  rcases Nat.lt_or_ge j m with hj | hj
  · by_cases e : i = j
    · subst e
      simp [layTo, h]
    · rw [if_neg e]
      simp only [layTo, List.getElem?_map, List.getElem?_range hj, Option.map_some]
      by_cases h2 : j < i
      · rw [if_pos h2, if_pos (by omega)]
      · rw [if_neg h2, if_neg (by omega)]
  · rw [if_neg (by omega), List.getElem?_eq_none (by rw [layTo_length]; exact hj), List.getElem?_eq_none (by rw [layTo_length]; exact hj)]
theorem layTo_lt {f : Nat → Nat} (hf : ∀ j, f j < 256) (m i : Nat) : lt256 (layTo f m i) := by
  intro b hb
  simp only [layTo, List.mem_map] at hb
  obtain ⟨j, _, rfl⟩ := hb
  split
  · exact hf j
  · omega
theorem layTo_all (ps bs cs : List Nat) (m : Nat) (ha : m ≤ ps.length) (hb : m ≤ bs.length) (hc : m ≤ cs.length) :
    layTo (fun j => ps.getD j 0 ^^^ bs.getD j 0 ^^^ cs.getD j 0) m m = List.zipWith (· ^^^ ·) (List.zipWith (· ^^^ ·) (ps.take m) (bs.take m)) (cs.take m) := by
  apply List.ext_getElem?
  intro j
  rcases Nat.lt_or_ge j m with hj | hj
  · simp only [layTo, List.getElem?_map, List.getElem?_range hj, Option.map_some, List.getElem?_zipWith, List.getElem?_take, if_pos hj]
    rw [List.getElem?_eq_getElem (by omega : j < ps.length), List.getElem?_eq_getElem (by omega : j < bs.length), List.getElem?_eq_getElem (by omega : j < cs.length)]
    simp [List.getD_eq_getElem?_getD, List.getElem?_eq_getElem (by omega : j < ps.length), List.getElem?_eq_getElem (by omega : j < bs.length), List.getElem?_eq_getElem (by omega : j < cs.length)]
  · rw [List.getElem?_eq_none (by rw [layTo_length]; exact hj), List.getElem?_eq_none (by simp only [List.length_zipWith, List.length_take]; omega)]
theorem getD_lt {bs : List Nat} (h : lt256 bs) (j : Nat) : bs.getD j 0 < 256 := by
  rw [List.getD_eq_getElem?_getD]
  cases hb : bs[j]? with
  | none => decide
  | some x => exact h x (List.mem_of_getElem? hb)
theorem getD_of {bs : List Nat} {j x : Nat} (h : bs[j]? = some x) : bs.getD j 0 = x := by rw [List.getD_eq_getElem?_getD, h]; rfl
theorem lt256_take {bs : List Nat} (h : lt256 bs) (k : Nat) : lt256 (bs.take k) := fun b hb => h b (List.mem_of_mem_take hb)
theorem cells8_take (bs : List Nat) (k : Nat) : cells8 (bs.take k) = (cells8 bs).take k := by simp [cells8, List.map_take]

def LinTo (w wr : World) (f : Nat → Nat) (m i : Nat) : Prop := Own w.heap.size wr 5 (.slice (some ⟨w.heap.size, 0, none⟩) m m) (cells8 (layTo f m i)) ∧ Below w.heap.size w wr
theorem LinTo.drew {w wr : World} {f : Nat → Nat} {m i : Nat} (h : LinTo w wr f m i) : LinTo w wr.drew f m i := ⟨h.1.drew, h.2.drew⟩
theorem linTo_more {w wr : World} {f : Nat → Nat} {m i v : Nat} (h : LinTo w wr f m i) (hi : i < m) (hv : v = f i) : LinTo w ((wr.setCell ⟨w.heap.size, i, none⟩ (.int .u8 (v : Int)))) f m (i + 1) := by
  subst hv
  have h2 := (own_set (b := f i) h.1 (layTo_length f m i).symm hi).2.2
  rw [layTo_more f hi] at h2
  exact ⟨h2, h.2.setCell (by exact Nat.le_refl _) _⟩

theorem min4 {P : Program} {t ty : TypeId} (n1 n2 n3 : Nat) : ∃ m : Nat, (∀ w, (Builtin.min_ #[t, t, t, t] ty #[.int .i64 n1, .int .i64 n2, .int .i64 n3, .int .i64 200]).run P w = .ok (.int .i64 (m : Int)) w) ∧ m ≤ n1 ∧ m ≤ n2 ∧ m ≤ n3 ∧ m ≤ 200 := by
  obtain ⟨x, hx, h1, h2⟩ : ∃ x : Nat, (if (n2 : Int) < (n1 : Int) then (n2 : Int) else (n1 : Int)) = (x : Int) ∧ x ≤ n1 ∧ x ≤ n2 := by
    by_cases h : n2 < n1
    · exact ⟨n2, by rw [if_pos (by omega)], by omega, by omega⟩
    · exact ⟨n1, by rw [if_neg (by omega)], by omega, by omega⟩
  obtain ⟨y, hy, h3, h4⟩ : ∃ y : Nat, (if (n3 : Int) < (x : Int) then (n3 : Int) else (x : Int)) = (y : Int) ∧ y ≤ x ∧ y ≤ n3 := by
    by_cases h : n3 < x
    · exact ⟨n3, by rw [if_pos (by omega)], by omega, by omega⟩
    · exact ⟨x, by rw [if_neg (by omega)], by omega, by omega⟩
  obtain ⟨z, hz, h5, h6⟩ : ∃ z : Nat, (if (200 : Int) < (y : Int) then (200 : Int) else (y : Int)) = (z : Int) ∧ z ≤ y ∧ z ≤ 200 := by
    by_cases h : 200 < y
    · exact ⟨200, by rw [if_pos (by omega)]; rfl, by omega, by omega⟩
    · exact ⟨y, by rw [if_neg (by omega)], by omega, by omega⟩
  refine ⟨z, fun w => ?_, by omega, by omega, by omega, h6⟩
  simp only [Builtin.min_, List.foldlM, Builtin.min2, Sem.run_bind, Sem.run_pure, Result.andThen_ok, hx, hy, hz]

set_option maxHeartbeats 4000000 in
set_option maxRecDepth 100000 in
theorem linear_walk (A1 A2 A3 : Option Addr) (n1 n2 n3 c1 c2 c3 : Nat) (b1 b2 b3 : List Nat) (w : World) (r1 : Rds w w.heap.size A1 n1 (cells8 b1)) (r2 : Rds w w.heap.size A2 n2 (cells8 b2)) (r3 : Rds w w.heap.size A3 n3 (cells8 b3))
    (l1 : lt256 b1) (l2 : lt256 b2) (l3 : lt256 b3) (h1 : n1 ≤ c1) (h2 : n2 ≤ c2) (h3 : n3 ≤ c3) (m1 : c1 ≤ maxLen) :
    Calls Try.prog 4 #[.slice A1 n1 c1, .slice A2 n2 c2, .slice A3 n3 c3] w fun e w' => e = .returned (.bool true) ∧ Below w.heap.size w w' := by
  have R1 := Lib.hid r1; have R2 := Lib.hid r2; have R3 := Lib.hid r3; have L1 := Lib.hid l1; have L2 := Lib.hid l2; have L3 := Lib.hid l3
  clear r1 r2 r3 l1 l2 l3
  unfold maxLen at m1
  obtain ⟨m, hmin, i1, i2, i3, i4⟩ := min4 (P := Try.prog) (t := 3) (ty := 3) n1 n2 n3
  obtain ⟨f, hf⟩ : ∃ f : Nat → Nat, f = fun j => b1.getD j 0 ^^^ b2.getD j 0 ^^^ b3.getD j 0 := ⟨_, rfl⟩
  have Hf := Lib.hid hf
  clear hf
  have hmx : m ≤ maxLen := by unfold maxLen; omega
  have hb1 : 1 * m ≤ 281474976710656 := by omega
  have hz := zero26
  go_enter Try.func4, Try.ntmps4
  go_wp2_with (with_reducible refine wpList_mk rfl (.tmp 18) (.tmp 18) _ rfl elt8 rfl rfl rfl rfl rfl (Nat.le_refl _) hb1 hmx ?_; intro w0 H1 H2)
  have P0 : Hid (LinTo w w0 f m 0) := Lib.hid ⟨by rw [layTo_zero]; exact H1.out, H2.out⟩
  clear H1 H2 hmx hb1 hmin
  go_loopw [22] (fun s22 wr => ∃ i : Nat, i ≤ m ∧ s22 = .int .i64 (i : Int) ∧ LinTo w wr f m i) (fun s22 _ => m - (intOf s22).toNat)
  case atStart => exact ⟨0, by omega, rfl, P0.out⟩
  case round =>
    obtain ⟨i, him, rfl, hP⟩ := hrel
    have HP := Lib.hid hP
    clear hP P0
    by_cases hi : i < m
    · obtain ⟨a1, x1, rfl, hx1, hl1, hc1⟩ := byte_at (R1.out.below HP.out.2) L1.out (show i < n1 by omega)
      obtain ⟨a2, x2, rfl, hx2, hl2, hc2⟩ := byte_at (R2.out.below HP.out.2) L2.out (show i < n2 by omega)
      obtain ⟨a3, x3, rfl, hx3, hl3, hc3⟩ := byte_at (R3.out.below HP.out.2) L3.out (show i < n3 by omega)
      obtain ⟨y, hy, hy2⟩ : ∃ y : Nat, bits .xor .u8 (x1 : Int) (x2 : Int) = (y : Int) ∧ y = x1 ^^^ x2 := ⟨_, u8_xor_nat x1 x2 hl1 hl2, rfl⟩
      have hyl : y < 256 := hy2 ▸ xor_lt8 hl1 hl2
      obtain ⟨v, hv, hv2⟩ : ∃ v : Nat, bits .xor .u8 (y : Int) (x3 : Int) = (v : Int) ∧ v = y ^^^ x3 := ⟨_, u8_xor_nat y x3 hyl hl3, rfl⟩
      have HV : Hid (v = f i) := Lib.hid (by rw [hv2, hy2, Hf.out]; show _ = b1.getD i 0 ^^^ b2.getD i 0 ^^^ b3.getD i 0; rw [getD_of hx1, getD_of hx2, getD_of hx3])
      have hi0 : (0 : Int) ≤ (i : Int) := by omega
      have hi1 : (i : Int) < (m : Int) := by omega
      have hi2 : (i : Int) < (n1 : Int) := by omega
      have hi3 : (i : Int) < (n2 : Int) := by omega
      have hi4 : (i : Int) < (n3 : Int) := by omega
      clear hx1 hx2 hx3 hy2 hv2
      go_upto_region 6 with fail
      go_still_tail 17, (by kernel_rfl)
      change wpList _ _ _ _ _ wr.drew
      have HP1 := Lib.hid HP.out.drew
      clear hc1 hc2 hc3 HP
      generalize wr.drew = wd at *
      obtain ⟨⟨u, hcx⟩, hfx, _⟩ := own_set (b := v) HP1.out.1 (layTo_length f m i).symm hi
      go_wp2
      go_roundw
      case rel => exact ⟨i + 1, by omega, by go_num, linTo_more HP1.out hi HV.out⟩
      case measure => simp [intOf]; omega
    · obtain rfl : i = m := by omega
      have hlx : Hid (Rds wr wr.heap.size (some ⟨w.heap.size, 0, none⟩) i (cells8 (layTo f i i))) := Lib.hid (by
        have := HP.out.1
        unfold Own at this
        rw [cells8_length, layTo_length] at this
        exact Rds.of_own this)
      have Hbl := Lib.hid HP.out.2
      have Q1 := Lib.hid ((R1.out.below HP.out.2).fit.take i1)
      have Q2 := Lib.hid ((R2.out.below HP.out.2).fit.take i2)
      have Q3 := Lib.hid ((R3.out.below HP.out.2).fit.take i3)
      have e1 : b1.length = n1 := by have := R1.out.1; rwa [cells8_length] at this
      have e2 : b2.length = n2 := by have := R2.out.1; rwa [cells8_length] at this
      have e3 : b3.length = n3 := by have := R3.out.1; rwa [cells8_length] at this
      rw [← cells8_take] at Q1 Q2 Q3
      have hflt : ∀ j, f j < 256 := fun j => by rw [Hf.out]; exact xor_lt8 (xor_lt8 (getD_lt L1.out j) (getD_lt L2.out j)) (getD_lt L3.out j)
      have LX := Lib.hid (layTo_lt hflt i i)
      obtain ⟨s1, hs1⟩ : ∃ s1, s1 = sumN ent (b1.take i) := ⟨_, rfl⟩
      obtain ⟨s2, hs2⟩ : ∃ s2, s2 = sumN ent (b2.take i) := ⟨_, rfl⟩
      obtain ⟨s3, hs3⟩ : ∃ s3, s3 = sumN ent (b3.take i) := ⟨_, rfl⟩
      have t1 : s1 < 4294967296 := hs1 ▸ sumN_lt tab_ent _ (lt256_take L1.out i)
      have t2 : s2 < 4294967296 := hs2 ▸ sumN_lt tab_ent _ (lt256_take L2.out i)
      have t3 : s3 < 4294967296 := hs3 ▸ sumN_lt tab_ent _ (lt256_take L3.out i)
      obtain ⟨x, hx, hx2⟩ : ∃ x : Nat, bits .xor .u32 (s1 : Int) (s2 : Int) = (x : Int) ∧ x = s1 ^^^ s2 := ⟨_, u32_xor_nat s1 s2 t1 t2, rfl⟩
      have tx : x < 4294967296 := hx2 ▸ xor_lt t1 t2
      obtain ⟨z, hz1, hz2⟩ : ∃ z : Nat, bits .xor .u32 (x : Int) (s3 : Int) = (z : Int) ∧ z = x ^^^ s3 := ⟨_, u32_xor_nat x s3 tx t3, rfl⟩
      have HZ : Hid ((sumN ent (layTo f i i) : Int) = (z : Int)) := Lib.hid (by
        rw [hz2, hx2, hs1, hs2, hs3, sum_linear (b1.take i) (b2.take i) (b3.take i) i (lt256_take L1.out i) (lt256_take L2.out i) (lt256_take L3.out i) (by rw [List.length_take]; omega) (by rw [List.length_take]; omega) (by rw [List.length_take]; omega) _ LX.out (by rw [Hf.out]; exact layTo_all b1 b2 b3 i (by omega) (by omega) (by omega))])
      have S1 : Hid ((sumN ent (b1.take i) : Int) = (s1 : Int)) := Lib.hid (by rw [hs1])
      have S2 : Hid ((sumN ent (b2.take i) : Int) = (s2 : Int)) := Lib.hid (by rw [hs2])
      have S3 : Hid ((sumN ent (b3.take i) : Int) = (s3 : Int)) := Lib.hid (by rw [hs3])
      have hmx : i ≤ maxLen := by unfold maxLen; omega
      have Hmx := Lib.hid hmx
      have hc1 : (i : Int) ≤ (c1 : Int) := by omega
      have hc2 : (i : Int) ≤ (c2 : Int) := by omega
      have hc3 : (i : Int) ≤ (c3 : Int) := by omega
      have hi0 : (0 : Int) ≤ (i : Int) := by omega
      clear hmx hs1 hs2 hs3 hx2 hz2 HP e1 e2 e3 R1 R2 R3 hflt h1 h2 h3
      go_wp2_with fail
      refine (table_any _).mono ?_
      rintro e w1 ⟨rfl, hb1⟩
      have Hb1 := Lib.hid hb1
      clear hb1
      go_wp2_with (with_reducible refine wpList_store_new rfl 26 (.tmp 10) (.tmp 43) rfl rfl rfl (size26 ent) ((tabOf_size _).trans (tabOf_size _).symm) (tabOf_one ent) ?_)
      have HT : Hid (Tbd ent wr w1.heap.size (w1.alloc (.cells (tabOf ent) 26))) := Lib.hid ⟨Blk.new _ _ _, Hb1.out.alloc Hb1.out.size _⟩
      generalize w1.alloc (.cells (tabOf ent) 26) = W at *
      generalize w1.heap.size = g at *
      obtain ⟨L, hL⟩ : ∃ L, L = (tabOf ent).toList := ⟨_, rfl⟩
      have HL := Lib.hid hL
      have hu := Try.underlying26
      have hin := size26L HL
      have Hent := Lib.hid tab_ent
      clear hL Hb1 hz
      go_wp2_with fail
      refine wp_region_class (Tbd ent wr g) (by kernel_rfl) (by kernel_rfl) HT.out.drew ?_
      refine quiet_load_mid (by rfl) _ _ rfl _ _ rfl (fun w h => Tbd.range h HL) hu rfl hin ?_
      simp only [Act.put, List.setIfInBounds_toArray, List.set_cons_zero, List.set_cons_succ]
      iterate 1 quiet_step (exact fun _ => rfl)
      refine wpQuiet_step (fun K hK => ?_)
      go_simp
      refine ⟨.int .u32 (z : Int), fun w2 h2 => (sum_at HL Hent _ _ _ _ (layTo f i i) (z : Int) _ (hlx.out.below h2.2) LX.out Hmx.out HZ.out).mono ?_, hK _ ?_⟩
      · rintro e w3 ⟨rfl, hb⟩
        exact ⟨rfl, h2.below hb⟩
      clear hK K
      refine quiet_load_mid (by rfl) _ _ rfl _ _ rfl (fun w h => Tbd.range h HL) hu rfl hin ?_
      simp only [Act.put, List.setIfInBounds_toArray, List.set_cons_zero, List.set_cons_succ]
      iterate 3 quiet_step (exact fun _ => rfl)
      refine wpQuiet_step (fun K hK => ?_)
      go_simp
      refine ⟨.int .u32 (s1 : Int), fun w2 h2 => (sum_at HL Hent _ _ _ _ (b1.take i) (s1 : Int) _ (Q1.out.below h2.2) (lt256_take L1.out i) Hmx.out S1.out).mono ?_, hK _ ?_⟩
      · rintro e w3 ⟨rfl, hb⟩
        exact ⟨rfl, h2.below hb⟩
      clear hK K
      refine quiet_load_mid (by rfl) _ _ rfl _ _ rfl (fun w h => Tbd.range h HL) hu rfl hin ?_
      simp only [Act.put, List.setIfInBounds_toArray, List.set_cons_zero, List.set_cons_succ]
      iterate 3 quiet_step (exact fun _ => rfl)
      refine wpQuiet_step (fun K hK => ?_)
      go_simp
      refine ⟨.int .u32 (s2 : Int), fun w2 h2 => (sum_at HL Hent _ _ _ _ (b2.take i) (s2 : Int) _ (Q2.out.below h2.2) (lt256_take L2.out i) Hmx.out S2.out).mono ?_, hK _ ?_⟩
      · rintro e w3 ⟨rfl, hb⟩
        exact ⟨rfl, h2.below hb⟩
      clear hK K
      iterate 1 quiet_step (exact fun _ => rfl)
      refine quiet_load_mid (by rfl) _ _ rfl _ _ rfl (fun w h => Tbd.range h HL) hu rfl hin ?_
      simp only [Act.put, List.setIfInBounds_toArray, List.set_cons_zero, List.set_cons_succ]
      iterate 3 quiet_step (exact fun _ => rfl)
      refine wpQuiet_step (fun K hK => ?_)
      go_simp
      refine ⟨.int .u32 (s3 : Int), fun w2 h2 => (sum_at HL Hent _ _ _ _ (b3.take i) (s3 : Int) _ (Q3.out.below h2.2) (lt256_take L3.out i) Hmx.out S3.out).mono ?_, hK _ ?_⟩
      · rintro e w3 ⟨rfl, hb⟩
        exact ⟨rfl, h2.below hb⟩
      clear hK K
      iterate 3 quiet_step (exact fun _ => rfl)
      refine wpQuiet_step (fun K hK => ?_)
      go_simp
      refine ⟨.bool true, fun w2 h2 => (awake_any _).mono ?_, hK _ ?_⟩
      · rintro e w3 ⟨rfl, hb⟩
        exact ⟨rfl, h2.below hb⟩
      clear hK K
      iterate 2 quiet_step (exact fun _ => rfl)
      refine wpQuiet_nil ?_
      intro w4 h4
      have H4 := Lib.hid h4.2
      clear h4
      go_wp2
      go_ret
      exact ⟨rfl, Hbl.out.trans (H4.out.mono Hbl.out.size)⟩
end Go.Proofs.Ytdecjmkpmpbdcaa

/- slices.Repeat of a row of one value; bits.Mul where nothing goes over. -/
import Derived.Test.YtomdphepbihmcaaUw
import Derived.Test.YtomdphepbihmcaaAnd
import Derived.Test.YtomdphepbihmcaaProg
import Derived.WalkKit
import Derived.ProofKit
import Derived.Lib.Hide
import Derived.Outline
import Derived.Deep.RegionLaw
import Derived.Deep.DeepCutAuto
import Derived.Deep.LoopGhost
namespace Go.Proofs.Ytomdphepbihmcaa
open Go.RowKit

/-- A product of one factor 1 does not go over. -/
theorem mul64_one (k : Nat) (w : World) (hk : k ≤ 65535) : Calls Try.prog 25 #[.int .u64 1, .int .u64 (k : Int)] w fun e w' => e = .returned (.tuple #[.int .u64 0, .int .u64 (k : Int)]) ∧ w = w' := by
  have h2 : bits .and .u64 (k : Int) 4294967295 = (k : Int) := by
    rw [show (4294967295 : Int) = ((4294967295 : Nat) : Int) from rfl, u64_and_nat k _ (by omega) (by omega)]
    congr 1
    exact (Nat.and_two_pow_sub_one_eq_mod k 32).trans (Nat.mod_eq_of_lt (by omega))
  have h3 : (k : Int) / 4294967296 = 0 := by omega
  have h1 : bits .and .u64 1 4294967295 = 1 := by decide
  have h4 : bits .and .u64 0 4294967295 = 0 := by decide
  go_enter Try.func25, Try.ntmps25
  go_wp2
  go_ret2
  exact ⟨rfl, rfl⟩
theorem mul_one (k : Nat) (w : World) (hk : k ≤ 65535) : Calls Try.prog 22 #[.int .u64 1, .int .u64 (k : Int)] w fun e w' => e = .returned (.tuple #[.int .u64 0, .int .u64 (k : Int)]) ∧ w = w' := by
  go_enter Try.func22, Try.ntmps22
  go_wp2_with (go_at_call 25; refine (mul64_one k _ hk).mono ?_; rintro e w' ⟨rfl, rfl⟩)
  go_ret2
  exact ⟨rfl, rfl⟩

/-- copy(x[n:], x[:n]) -/
theorem step_cpy_self {P : Program} {w : World} {ops : Array Oper} {o : Oper} {a : Act} {K : Act → World → Prop} {Q : Exit → Act → World → Prop} {E : Prop} (hgd : o.guard = none) (d s : Operand) (t : TypeId)
    (ho : o.op = .call { callee := .builtin .copy, args := #[d, s], argTypes := #[t, t] }) {e : TypeId} {z : Value} {bytes : Nat} (hE : Elt P t e z bytes)
    {B g L cap n dLen dCap sCap : Nat} {dp : Option Addr} {xs : List Value} (hown : Own B w e (.slice (some ⟨g, 0, none⟩) L cap) xs) (hL : xs.length = L) (hd : a.eval d = .slice dp dLen dCap) (hdp : dp = some ⟨g, n, none⟩) (hdl : dLen = L - n)
    (hs : a.eval s = .slice (some ⟨g, 0, none⟩) n sCap) (hn : n ≤ L) (m : Nat) (hm : min n (L - n) = m) (h1 : ∀ u ∈ xs, u.oneCell' = true)
    (h : ∀ w', Hid (Own B w' e (.slice (some ⟨g, 0, none⟩) L cap) (splice xs n (xs.take m))) → Hid (Below B w w') → K (a.put o.dst (goInt m)) w') : if Region.wanted o (yielded ops a.tmps) = true then Oper.wp P o a w K Q else E := by
  obtain ⟨ht, ⟨i, hi, hz, hsize, hby⟩, hzs⟩ := hE
  subst hdl hdp
  have hlt : (xs.take m).length = m := by rw [List.length_take]; omega
  have hro : Rds w w.heap.size (some ⟨g, 0, none⟩) L xs := by
    have h0 := hown
    unfold Own at h0
    rw [hL] at h0
    exact Rds.of_own h0
  rcases hown.2 with ⟨h0, _⟩ | ⟨g', cap', cur, hv, hB, hgg, hnc, hcm, hcs, htk⟩
  · cases h0
  · injection hv with e1 e2 e3
    injection e1 with e1
    injection e1 with e1
    subst e1
    subst e3
    refine step_copy_splice hgd d s t t ho e ht (by rw [hi]; simp [hsize]) (some ⟨g, n, none⟩) (some ⟨g, 0, none⟩) (L - n) dCap n sCap hd hs g n cur.toList e (by simpa using hgg) (xs.take m) (by rw [hlt]; exact hm.symm)
      (fun hp => ⟨rfl, ⟨g, 0, none⟩, rfl, fun j u hu => ?_⟩) (by rw [hlt]; simp at hcs ⊢; omega) (fun u hu => h1 u (List.mem_of_mem_take hu)) B w (Below.refl _ _) hB ?_
    · obtain ⟨ad, e4, _, hc⟩ := hro.2 (by rw [hlt] at hp; omega)
      injection e4 with e4
      subst e4
      refine hc j u ?_
      rw [List.getElem?_take] at hu
      split at hu
      · exact hu
      · cases hu
    · intro w' hg' hb'
      rw [hlt]
      refine h w' ?_ hb'
      have hl : (splice xs n (xs.take m)).length = L := by rw [length_splice _ _ _ (by rw [hlt]; omega), hL]
      unfold Own
      rw [hl]
      refine ⟨by simp [hl], .inr ⟨g, cap, _, rfl, hB, hg'.out, by omega, hcm, ?_, ?_⟩⟩
      · rw [List.size_toArray, length_splice _ _ _ (by rw [hlt]; simp at hcs ⊢; omega)]
        simpa using hcs
      · have htk' : cur.toList.take L = xs := by rw [← hL]; simpa using htk
        rw [Nat.mul_one]
        show (splice cur.toList n (xs.take m)).take L = _
        conv => rhs; rw [← htk']
        unfold splice
        rw [← htk'] at hlt ⊢
        apply List.ext_getElem?
        intro j
        have hcl : L ≤ cur.toList.length := by simp at hcs ⊢; omega
        simp only [List.getElem?_take, List.getElem?_append, List.length_take, List.getElem?_drop] at hlt ⊢
        repeat' split
        all_goals first | rfl | (exfalso; omega) | (congr 1; omega) | (rw [List.getElem?_eq_none]; omega)
theorem part_double {n m k v : Nat} (hmn : m ≤ n) (hk : n + m ≤ k) : splice (cellsU (part n k v)) n ((cellsU (part n k v)).take m) = cellsU (part (n + m) k v) := by
  unfold splice cellsU part
  apply List.ext_getElem?
  intro j
  simp only [List.getElem?_take, List.getElem?_append, List.length_take, List.getElem?_drop, List.getElem?_map, List.length_map, List.length_append, List.length_replicate, List.getElem?_replicate]
  repeat' split
  all_goals first | rfl | (exfalso; omega)

/-- What the loop has laid. -/
def RepTo (w wr : World) (g k v n : Nat) : Prop := Own w.heap.size wr 37 (.slice (some ⟨g, 0, none⟩) k k) (cellsU (part n k v)) ∧ Below w.heap.size w wr
set_option maxHeartbeats 1000000 in
set_option maxRecDepth 100000 in
theorem repeat_any (A : Option Addr) (c B k v : Nat) (w : World) (hs : Rds w B A 1 (cellsU [v])) (hk : k ≤ 65535) (hk1 : 1 ≤ k) :
    Calls Try.prog 15 #[.slice A 1 c, .int .i64 (k : Int)] w fun e w' => ∃ cc g, e = .returned (.slice (some ⟨g, 0, none⟩) k cc) ∧ k ≤ cc ∧ Own w.heap.size w' 37 (.slice (some ⟨g, 0, none⟩) k cc) (cellsU (List.replicate k v)) ∧ Below w.heap.size w w' := by
  have Hs := Lib.hid hs.fit
  have hb : 8 * k ≤ 281474976710656 := by omega
  have hm : k ≤ maxLen := by unfold maxLen; omega
  have hk0 : (0 : Int) ≤ (k : Int) := by omega
  have hone : Hid (∀ u ∈ cellsU [v], u.oneCell' = true) := Lib.hid (by intro u hu; simp [cellsU] at hu; subst hu; rfl)
  have hle1 : Hid (1 ≤ (List.replicate k (Value.int .u64 0)).length) := Lib.hid (by simpa using hk1)
  have Hb := Lib.hid hb; have Hm := Lib.hid hm
  have Hone2 : Hid (∀ n, ∀ u ∈ cellsU (part n k v), u.oneCell' = true) := Lib.hid (by
    intro n u hu
    simp only [cellsU, List.mem_map] at hu
    obtain ⟨b, _, rfl⟩ := hu
    rfl)
  clear hs hb hm
  go_enter Try.func15, Try.ntmps15
  go_wp2_with (first
    | (go_at_call 22; refine (mul_one k _ hk).mono ?_; rintro e w' ⟨rfl, rfl⟩)
    | (at_make; refine wpList_mk rfl (.tmp 29) (.tmp 29) _ rfl eltU (n := k) (cap := k) rfl rfl rfl rfl (by simp) (Nat.le_refl _) Hb.out Hm.out ?_; intro w1 H1 H2)
    | (refine wpList_cpy rfl (.tmp 31) (.tmp 32) 24 rfl eltU (v := .slice (some ⟨w.heap.size, 0, none⟩) k k) rfl H1.out rfl (Hs.out.below H2.out) hone.out hle1.out ?_; intro w2 H3 H4))
  have P0 : Hid (RepTo w w2 w.heap.size k v 1) := Lib.hid ⟨by
    have h := H3.out
    have e : cellsU [v] ++ (List.replicate k (Value.int .u64 0)).drop 1 = cellsU (part 1 k v) := by simp [cellsU, part]
    rwa [e] at h, H2.out.trans H4.out⟩
  clear H1 H2 H3 H4
  go_loopw [8] (fun s8 wr => ∃ n : Nat, s8 = .int .i64 (n : Int) ∧ 1 ≤ n ∧ n ≤ k ∧ RepTo w wr w.heap.size k v n) (fun s8 _ => k - (intOf s8).toNat)
  case atStart => exact ⟨1, rfl, Nat.le_refl _, hk1, P0.out⟩
  case round =>
    obtain ⟨n, rfl, hn1, hnk, hR⟩ := hrel
    have HR := Lib.hid hR
    clear hR P0
    by_cases h : n < k
    · obtain ⟨m, hm⟩ : ∃ m, min n (k - n) = m := ⟨_, rfl⟩
      have hmn : m ≤ n := by omega
      have hmk : n + m ≤ k := by omega
      have hm1 : 1 ≤ m := by omega
      have Hmm := Lib.hid hm
      have hn0 : (0 : Int) ≤ (n : Int) := by omega
      have hnk' : (n : Int) ≤ (k : Int) := by omega
      have Hpl : Hid ((cellsU (part n k v)).length = k) := Lib.hid (by rw [cellsU_length, part_len hnk])
      clear hm
      go_wp2_with fail
      have hdp : (if k = n then some (⟨w.heap.size, 0, none⟩ : Addr) else some ⟨w.heap.size, n, none⟩) = some ⟨w.heap.size, n, none⟩ := if_neg (by omega)
      go_region_law ((refine step_cpy_self rfl (.tmp 41) (.tmp 44) _ rfl eltU (B := w.heap.size) (g := w.heap.size) (L := k) (cap := k) (n := n) (xs := cellsU (part n k v)) (dp := some ⟨w.heap.size, n, none⟩) (dLen := k - n) (dCap := k - n) (sCap := k) (HR.out.1.drew) Hpl.out (by kernel_rfl) rfl rfl (by kernel_rfl) hnk m Hmm.out (Hone2.out n) ?_; intro w5 H5 H6))
      have hR2 : RepTo w w5 w.heap.size k v (n + m) := ⟨by
        have h := H5.out
        rwa [part_double hmn hmk] at h, HR.out.2.drew.trans H6.out⟩
      have HR2 := Lib.hid hR2
      clear hR2 H5 H6
      simp only [Act.put, List.getElem_toArray, List.getElem_cons_succ, List.getElem_cons_zero, List.setIfInBounds_toArray, List.set_cons_succ, List.set_cons_zero]
      have hwr : IntKind.i64.wrap ((n : Int) + (m : Int)) = ((n + m : Nat) : Int) := by rw [IntKind.wrap_i64]; omega
      rw [hwr]
      go_roundw
      case rel => exact ⟨_, _, _, _, _, _, _, _, _, _, _, _, _, _, ⟨n + m, rfl, by omega, hmk, HR2.out⟩, rfl⟩
      case measure => simp [intOf]; omega
    · have hnk2 : n = k := by omega
      subst hnk2
      go_wp2_with fail
      go_ret
      have h := HR.out.1
      rw [part_all] at h
      exact ⟨_, _, rfl, Nat.le_refl _, h, HR.out.2⟩
end Go.Proofs.Ytomdphepbihmcaa

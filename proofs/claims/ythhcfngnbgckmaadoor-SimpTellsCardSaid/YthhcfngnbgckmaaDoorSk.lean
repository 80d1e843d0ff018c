/- The kinds of words where their variable lies; may: whether the next numbers may stand in a word of a kind. -/
import Derived.Test.YthhcfngnbgckmaaDoorUs
import Derived.Test.YthhcfngnbgckmaaDoorSm
import Derived.Test.YthhcfngnbgckmaaDoorProg
namespace Go.Proofs.YthhcfngnbgckmaaDoor
open Go.RowKit

/-- The kinds, where their variable lies. -/
def Kin (w : World) : Prop := 0 < w.heap.size ∧ ∀ k, k < 16 → w.cell? ⟨0, k * 2, none⟩ = some (.int .i64 (numN k : Int)) ∧ w.cell? ⟨0, k * 2 + 1, none⟩ = some (.int .i64 (bitN k : Int))
theorem Kin.mod {w w' : World} {S : Nat → Prop} (h : Kin w) (hm : Mod S w w') (hn : ¬ S 0) : Kin w' :=
  ⟨Nat.lt_of_lt_of_le h.1 hm.size, fun k hk => ⟨(hm.cell (a := ⟨0, k * 2, none⟩) h.1 hn).trans (h.2 k hk).1, (hm.cell (a := ⟨0, k * 2 + 1, none⟩) h.1 hn).trans (h.2 k hk).2⟩⟩
theorem Kin.new {w w' : World} (h : Kin w) (hm : Mod (fun _ => False) w w') : Kin w' := h.mod hm (fun h => h)
theorem ret_bool {a b : Bool} (h : a = b) : Ending.returned (.bool a) = .returned (.bool b) := by rw [h]
theorem bit_zero_iff : ∀ k : Fin 16, bitN k.val = 0 ↔ k.val < 2 := by decide
theorem fitsK_few {u : List Nat} {k : Nat} (hk : k < 2) (hl : u.length < numN k) : fitsK u k = false := by
  unfold fitsK
  simp [hk, hl]
theorem fitsK_no {u : List Nat} {k j x : Nat} (hj : j < numN k) (hx : u[j]? = some x) (hb : ¬ x < 2 ^ bitN k) : fitsK u k = false := by
  unfold fitsK
  rw [Bool.and_eq_false_iff]
  refine .inr ?_
  rw [List.all_eq_false]
  refine ⟨x, ?_, by simpa using hb⟩
  rw [List.mem_iff_getElem?]
  exact ⟨j, by rw [List.getElem?_take, if_pos hj]; exact hx⟩
theorem fitsK_yes {u : List Nat} {k : Nat} (hk : ¬ (k < 2 ∧ u.length < numN k)) (h : ∀ x ∈ u.take (numN k), x < 2 ^ bitN k) : fitsK u k = true := by
  unfold fitsK
  rw [Bool.and_eq_true]
  refine ⟨?_, List.all_eq_true.2 fun x hx => decide_eq_true (h x hx)⟩
  rw [Bool.not_eq_true', Bool.and_eq_false_iff]
  by_cases h1 : k < 2
  · exact .inr (decide_eq_false (fun h2 => hk ⟨h1, h2⟩))
  · exact .inl (decide_eq_false h1)

/-- What the loop has seen. -/
def Seen (us : List Nat) (s j : Nat) : Prop := ∀ x ∈ us.take j, x < 2 ^ s
theorem Seen.more {us : List Nat} {s j x : Nat} (h : Seen us s j) (hx : us[j]? = some x) (hb : x < 2 ^ s) : Seen us s (j + 1) := by
  intro y hy
  rw [List.getElem?_eq_some_iff] at hx
  obtain ⟨hj, rfl⟩ := hx
  rw [List.take_succ_eq_append_getElem hj, List.mem_append, List.mem_singleton] at hy
  rcases hy with hy | rfl
  · exact h y hy
  · exact hb
/-- min of two, as a rule for whatever world. -/
theorem min2_is {P : Program} {t ty : TypeId} {n1 n2 m : Nat} (h : min n1 n2 = m) : ∀ w, (Builtin.min_ #[t, t] ty #[.int .i64 (n1 : Int), .int .i64 (n2 : Int)]).run P w = .ok (.int .i64 (m : Int)) w := by
  intro w
  have hx : (if (n2 : Int) < (n1 : Int) then (n2 : Int) else (n1 : Int)) = (m : Int) := by
    split <;> omega
  simp only [Builtin.min_, List.foldlM, Builtin.min2, Sem.run_bind, Sem.run_pure, Result.andThen_ok, hx]
theorem minI_is {P : Program} {t ty : TypeId} {n1 n2 m : Int} (h : min n1 n2 = m) : ∀ w, (Builtin.min_ #[t, t] ty #[.int .i64 n1, .int .i64 n2]).run P w = .ok (.int .i64 m) w := by
  intro w
  have hx : (if n2 < n1 then n2 else n1) = m := by
    split <;> omega
  simp only [Builtin.min_, List.foldlM, Builtin.min2, Sem.run_bind, Sem.run_pure, Result.andThen_ok, hx]
theorem maxI_is {P : Program} {t ty : TypeId} {n1 n2 m : Int} (h : max n1 n2 = m) : ∀ w, (Builtin.max_ #[t, t] ty #[.int .i64 n1, .int .i64 n2]).run P w = .ok (.int .i64 m) w := by
  intro w
  have hx : (if n1 < n2 then n2 else n1) = m := by
    split <;> omega
  simp only [Builtin.max_, List.foldlM, Builtin.max2, Sem.run_bind, Sem.run_pure, Result.andThen_ok, hx]
theorem div_nought {x s : Nat} (h : x < 2 ^ s) : ((x : Int) / 2 ^ s != 0) = false := by
  have e : (x : Int) / 2 ^ s = ((x / 2 ^ s : Nat) : Int) := by rw [Int.natCast_ediv]; simp
  rw [e, Nat.div_eq_of_lt h]
  rfl
theorem div_some {x s : Nat} (h : ¬ x < 2 ^ s) : ((x : Int) / 2 ^ s != 0) = true := by
  have e : (x : Int) / 2 ^ s = ((x / 2 ^ s : Nat) : Int) := by rw [Int.natCast_ediv]; simp
  have h1 : 1 ≤ x / 2 ^ s := by rw [Nat.le_div_iff_mul_le (Nat.two_pow_pos _)]; omega
  rw [e]
  simp only [bne_iff_ne, ne_eq]
  omega
set_option maxHeartbeats 1000000 in
set_option maxRecDepth 100000 in
theorem may_any (A : Option Addr) (n cap B k : Nat) (us : List Nat) (w : World) (hs : Rds w B A n (cellsU us)) (hB : B ≤ w.heap.size) (hu : ∀ x ∈ us, x < 2 ^ 64) (hk : k < 16) (hn : n ≤ 1000000) (hcap : n ≤ cap) :
    Calls Tryd.prog 20 #[.agg #[.int .i64 (numN k : Int), .int .i64 (bitN k : Int)], .slice A n cap] w fun e w' => e = .returned (.bool (fitsK us k)) ∧ Mod (fun _ => False) w w' := by
  have hul : us.length = n := by have := hs.1; rwa [cellsU_length] at this
  have Hs := Lib.hid hs; have Hu := Lib.hid hu; have Hul := Lib.hid hul
  clear hs hu hul
  obtain ⟨c, hc⟩ : ∃ c, c = numN k := ⟨_, rfl⟩
  obtain ⟨s, hs⟩ : ∃ s, s = bitN k := ⟨_, rfl⟩
  have hnp := num_pos hk
  have hz := bit_zero_iff ⟨k, hk⟩
  simp only at hz
  rw [← hc, ← hs] at hnp ⊢
  rw [← hs] at hz
  have hc1 : 1 ≤ c := hnp.1
  have hc2 : c ≤ 240 := hnp.2.1
  have hs2 : s ≤ 60 := hnp.2.2.2
  have Hc := Lib.hid hc; have Hss := Lib.hid hs; have Hz := Lib.hid hz
  obtain ⟨W, hW⟩ : ∃ W, W = w.alloc (.cells #[.int .i64 (c : Int), .int .i64 (s : Int)] 38) := ⟨_, rfl⟩
  have hmW : Mod (fun _ => False) w W := by rw [hW]; exact (Mod.refl _ _).alloc _
  have hbW : Blk W w.heap.size 38 #[.int .i64 (c : Int), .int .i64 (s : Int)] := by rw [hW]; exact Blk.new _ _ _
  have hd0 := hbW.cell 0
  have hd1 := hbW.cell 1
  simp at hd0 hd1
  have HmW := Lib.hid hmW; have HW := Lib.hid hW; have HB := Lib.hid hB
  obtain ⟨m, hm⟩ : ∃ m, min c n = m := ⟨_, rfl⟩
  have hmin := min2_is (P := Tryd.prog) (t := 3) (ty := 3) hm
  have hmn : m ≤ n := by omega
  have hmc : m ≤ c := by omega
  have hmcap : (m : Int) ≤ (cap : Int) := by omega
  have hm0 : (0 : Int) ≤ (m : Int) := by omega
  have Hm := Lib.hid hm
  clear hc hs hnp hz hW hmW hbW hm hB
  go_enter Tryd.func20, Tryd.ntmps20
  by_cases hfew : s = 0 ∧ n < c
  · obtain ⟨hs0, hnc⟩ := hfew
    have hsb : ((s : Int) == 0) = true := by simp [hs0]
    have Hs0 := Lib.hid hs0
    clear hs0
    go_wp2_with (first | (rw [← HW.out]))
    go_ret
    exact ⟨ret_bool (by rw [fitsK_few (Hz.out.1 Hs0.out) (by rw [Hul.out, ← Hc.out]; exact hnc)]), HmW.out⟩
  · have Hfew := Lib.hid hfew
    clear hfew
    have hsn : ((s : Int) == 0) = false ∨ (((s : Int) == 0) = true ∧ ¬ n < c) := by
      by_cases h : s = 0
      · exact .inr ⟨by simp [h], fun h2 => Hfew.out ⟨h, h2⟩⟩
      · exact .inl (by simp; omega)
    rcases hsn with hsb | ⟨hsb, hnc⟩
    all_goals
      go_wp2_with (first | (rw [← HW.out]))
      clear hmin HW
      go_loopg [25] m (fun l s25 wr => ∃ i : Nat, i + l = m ∧ s25 = .int .i64 (i : Int) ∧ Seen us s i ∧ wr = W)
      case atStart => exact ⟨0, by omega, rfl, (fun x h => by simp at h), rfl⟩
      case round =>
        obtain ⟨i, hil, rfl, hS, rfl⟩ := hrel
        have HS := Lib.hid hS; have Hil := Lib.hid hil
        clear hS hil
        by_cases him : i < m
        · obtain ⟨ad, x, rfl, hx, hcx⟩ := Hs.out.at2 (Nat.lt_of_lt_of_le him hmn) HB.out HmW.out (fun _ _ h => h)
          have Hx := Lib.hid hx
          have hxl := Lib.hid (Hu.out x (List.mem_of_getElem? hx))
          clear hx
          by_cases hq : x < 2 ^ s
          · have hqb : ((x : Int) / 2 ^ s != 0) = false := div_nought hq
            have Hq := Lib.hid hq
            clear hq
            go_wp2_with fail
            go_roundg (gk - 1)
            case measure => have := Hil.out; omega
            case rel => exact ⟨i + 1, by have := Hil.out; omega, by go_num, HS.out.more Hx.out Hq.out, rfl⟩
          · have hqb : ((x : Int) / 2 ^ s != 0) = true := div_some hq
            have Hq := Lib.hid hq
            clear hq
            go_wp2_with fail
            go_ret
            exact ⟨ret_bool (by rw [fitsK_no (by rw [← Hc.out]; omega) Hx.out (by rw [← Hss.out]; exact Hq.out)]), HmW.out⟩
        · go_wp2_with fail
          go_ret
          refine ⟨ret_bool ?_, HmW.out⟩
          rw [fitsK_yes]
          · rw [Hz.out.symm, Hul.out, ← Hc.out]
            exact Hfew.out
          · have hi : i = m := by have := Hil.out; omega
            have h := HS.out
            rw [hi] at h
            rw [← Hss.out, ← Hc.out]
            intro x hx
            refine h x ?_
            have e : us.take c = us.take m := by
              have h1 := Hm.out
              have h2 := Hul.out
              rcases Nat.lt_or_ge n c with h3 | h3
              · rw [List.take_of_length_le (by omega), List.take_of_length_le (by omega)]
              · congr 1; omega
            rw [← e]
            exact hx
end Go.Proofs.YthhcfngnbgckmaaDoor

/- The first kind that may be: first. -/
import Derived.Test.YthhcfngnbgckmaaDoorSk
import Derived.Deep.MidRow
namespace Go.Proofs.YthhcfngnbgckmaaDoor
open Go.RowKit

/-- The kinds as one value. -/
def kindL : List Value := (List.range 32).map fun j => .int .i64 ((if j % 2 = 0 then numN (j / 2) else bitN (j / 2) : Nat) : Int)
theorem kindL_size : kindL.length = 32 := by simp [kindL]
theorem kindL_range {w : World} (h : Kin w) : w.rangeAt 0 0 kindL := by
  intro j v hv
  have hj : j < 32 := by have := (List.getElem?_eq_some_iff.1 hv).1; rwa [kindL_size] at this
  unfold kindL at hv
  rw [List.getElem?_map, List.getElem?_range hj] at hv
  injection hv with hv
  subst hv
  rw [Nat.zero_add]
  have hk := h.2 (j / 2) (by omega)
  show _ = some (Value.int IntKind.i64 ((if j % 2 = 0 then numN (j / 2) else bitN (j / 2) : Nat) : Int))
  by_cases h0 : j % 2 = 0
  · have e : j / 2 * 2 = j := by omega
    rw [if_pos h0]
    have := hk.1
    rwa [e] at this
  · have e : j / 2 * 2 + 1 = j := by omega
    rw [if_neg h0]
    have := hk.2
    rwa [e] at this
theorem kindL_index {k : Nat} (hk : k < 16) : ∀ w : World, (Instr.index 39 (.agg kindL.toArray) (.int .i64 (k : Int))).run Tryd.prog w = .ok (.agg #[.int .i64 (numN k : Int), .int .i64 (bitN k : Int)]) w := by
  have h : k = 0 ∨ k = 1 ∨ k = 2 ∨ k = 3 ∨ k = 4 ∨ k = 5 ∨ k = 6 ∨ k = 7 ∨ k = 8 ∨ k = 9 ∨ k = 10 ∨ k = 11 ∨ k = 12 ∨ k = 13 ∨ k = 14 ∨ k = 15 := by omega
  intro w
  rcases h with rfl | rfl | rfl | rfl | rfl | rfl | rfl | rfl | rfl | rfl | rfl | rfl | rfl | rfl | rfl | rfl <;> kernel_rfl
theorem may_is (A : Option Addr) (n cap B k : Nat) (us : List Nat) (w : World) (b : Bool) (hs : Rds w B A n (cellsU us)) (hB : B ≤ w.heap.size) (hu : ∀ x ∈ us, x < 2 ^ 64) (hk : k < 16) (hn : n ≤ 1000000) (hcap : n ≤ cap) (c s : Nat) (hc : c = numN k) (hss : s = bitN k) (hb : fitsK us k = b) :
    Calls Tryd.prog 20 #[.agg #[.int .i64 (c : Int), .int .i64 (s : Int)], .slice A n cap] w fun e w' => e = .returned (.bool b) ∧ Mod (fun _ => False) w w' := by
  subst hc hss hb
  exact may_any A n cap B k us w hs hB hu hk hn hcap
/-- What first answers. -/
def FirstE (u : List Nat) (e : Ending) : Prop := (kindOf u < 16 ∧ e = .returned (.tuple #[.int .i64 (kindOf u : Int), .bool true])) ∨ (kindOf u = 16 ∧ e = .returned (.tuple #[.int .i64 0, .bool false]))
theorem kind_is {u : List Nat} {k : Nat} (hle : k ≤ kindOf u) (hf : fitsK u k = true) : kindOf u = k := by
  rcases Nat.lt_or_ge k (kindOf u) with h | h
  · have := kind_first h
    rw [hf] at this
    cases this
  · omega
theorem kind_more {u : List Nat} {k : Nat} (hk : k < 16) (hle : k ≤ kindOf u) (hf : fitsK u k = false) : k + 1 ≤ kindOf u := by
  rcases Nat.lt_or_ge k (kindOf u) with h | h
  · omega
  · have e : kindOf u = k := by omega
    have := kind_fits (u := u) (by omega)
    rw [e, hf] at this
    cases this
set_option maxHeartbeats 1000000 in
set_option maxRecDepth 100000 in
theorem first_any (A : Option Addr) (n cap B : Nat) (us : List Nat) (w : World) (hs : Rds w B A n (cellsU us)) (hB : B ≤ w.heap.size) (hu : ∀ x ∈ us, x < 2 ^ 64) (hn : n ≤ 1000000) (hcap : n ≤ cap) (hk : Kin w) :
    Calls Tryd.prog 12 #[.slice A n cap] w fun e w' => FirstE us e ∧ Mod (fun _ => False) w w' := by
  have Hs := Lib.hid hs; have Hu := Lib.hid hu; have HB := Lib.hid hB
  have hrange := kindL_range hk
  have hu39 := Tryd.underlying39
  have hi39 : (Tryd.prog.info? 39).map (·.size) = some kindL.length := by rw [kindL_size]; kernel_rfl
  have hidx : Hid (∀ k : Nat, k < 16 → ∀ w : World, (Instr.index 39 (.agg kindL.toArray) (.int .i64 (k : Int))).run Tryd.prog w = .ok (.agg #[.int .i64 (numN k : Int), .int .i64 (bitN k : Int)]) w) := Lib.hid fun _ hk => kindL_index hk
  obtain ⟨V, hV⟩ : ∃ V, V = Value.agg kindL.toArray := ⟨_, rfl⟩
  rw [← hV] at hidx
  have HV := Lib.hid hV; have Hrange := Lib.hid hrange; have Hi39 := Lib.hid hi39
  clear hs hu hB hk hrange hV hi39
  go_enter Tryd.func12, Tryd.ntmps12
  go_wp2_with (with_reducible refine wpList_load_mid rfl _ _ rfl 0 0 rfl kindL _ Hrange.out hu39 rfl Hi39.out ?_)
  rw [← HV.out]
  clear Hrange hu39 Hi39 HV
  go_loopg [7] 16 (fun l s7 wr => ∃ i : Nat, i + l = 16 ∧ s7 = .int .i64 (i : Int) ∧ i ≤ kindOf us ∧ Mod (fun _ => False) w wr)
  case atStart => exact ⟨0, rfl, rfl, Nat.zero_le _, Mod.refl _ _⟩
  case round =>
    obtain ⟨i, hil, rfl, hik, hm⟩ := hrel
    have Hik := Lib.hid hik; have Hil := Lib.hid hil; have Hm := Lib.hid hm
    clear hik hil hm
    by_cases hi : i < 16
    · have hix := hidx.out i hi
      obtain ⟨c, hc⟩ : ∃ c, c = numN i := ⟨_, rfl⟩
      obtain ⟨s, hs⟩ : ∃ s, s = bitN i := ⟨_, rfl⟩
      rw [← hc, ← hs] at hix
      obtain ⟨W, hW⟩ : ∃ W, W = wr.alloc (.cells #[.int .i64 (c : Int), .int .i64 (s : Int)] 38) := ⟨_, rfl⟩
      have hmW : Mod (fun _ => False) wr W := by rw [hW]; exact (Mod.refl _ _).alloc _
      have hbW : Blk W wr.heap.size 38 #[.int .i64 (c : Int), .int .i64 (s : Int)] := by rw [hW]; exact Blk.new _ _ _
      have hd0 := hbW.cell 0
      have hd1 := hbW.cell 1
      simp at hd0 hd1
      have hi0 : (0 : Int) ≤ (i : Int) := by omega
      have Hc := Lib.hid hc; have Hss := Lib.hid hs; have HW := Lib.hid hW
      have HmW := Lib.hid (Hm.out.trans hmW (fun _ _ h => h))
      clear hc hs hW hmW hbW
      cases hf : fitsK us i with
      | true =>
        have Hf := Lib.hid hf
        clear hf
        go_wp2_with (first | (rw [← HW.out]))
        refine (may_is A n cap B i us W true (Hs.out.mod HmW.out HB.out (fun _ _ h => h)) (Nat.le_trans HB.out HmW.out.size) Hu.out hi hn hcap c s Hc.out Hss.out Hf.out).mono ?_
        rintro e w1 ⟨rfl, hm1⟩
        have Hm1 := Lib.hid (HmW.out.trans hm1 (fun _ _ h => h))
        clear hm1
        go_wp2_with fail
        go_ret2
        have hki := kind_is Hik.out Hf.out
        exact ⟨.inl ⟨by omega, by rw [hki]; rfl⟩, Hm1.out⟩
      | false =>
        have Hf := Lib.hid hf
        clear hf
        go_wp2_with (first | (rw [← HW.out]))
        refine (may_is A n cap B i us W false (Hs.out.mod HmW.out HB.out (fun _ _ h => h)) (Nat.le_trans HB.out HmW.out.size) Hu.out hi hn hcap c s Hc.out Hss.out Hf.out).mono ?_
        rintro e w1 ⟨rfl, hm1⟩
        have Hm1 := Lib.hid (HmW.out.trans hm1 (fun _ _ h => h))
        clear hm1
        go_wp2_with fail
        go_roundg (gk - 1)
        case measure => have := Hil.out; omega
        case rel => exact ⟨i + 1, by have := Hil.out; omega, by go_num, kind_more hi Hik.out Hf.out, Hm1.out⟩
    · go_wp2_with fail
      go_ret2
      have hki := kind_le us
      have := Hik.out
      exact ⟨.inr ⟨by omega, rfl⟩, Hm.out⟩
end Go.Proofs.YthhcfngnbgckmaaDoor

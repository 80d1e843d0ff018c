/- The run that a row begins with: first. -/
import Derived.Test.YtomdphepbihmcaaRm
import Derived.Test.YtomdphepbihmcaaUw
import Derived.Test.YtomdphepbihmcaaNu
import Derived.WalkKit
import Derived.ProofKit
import Derived.Lib.Hide
import Derived.Outline
import Derived.BigQuiet
import Derived.Deep.QuietTactic
import Derived.Deep.DeepCutAuto
import Derived.Deep.LoopGhost
namespace Go.Proofs.Ytomdphepbihmcaa
open Go.RowKit

/-- A new block's two cells are written. -/
theorem Mod.two_new {w w1 : World} {g : Nat} (h : Mod (fun _ => False) w w1) (hg : w.heap.size ≤ g) (u v : Value) : Mod (fun _ => False) w ((w1.setCell ⟨g, 0, none⟩ u).setCell ⟨g, 1, none⟩ v) :=
  (h.setCell (p := ⟨g, 0, none⟩) (fun h => by simp at h; omega) u).setCell (p := ⟨g, 1, none⟩) (fun h => by simp at h; omega) v
set_option maxHeartbeats 1000000 in
set_option maxRecDepth 100000 in
theorem lfirst_any (A : Option Addr) (n cap B : Nat) (us : List Nat) (w : World) (hs : Rds w B A n (cellsU us)) (hB : B ≤ w.heap.size) (hn : n ≤ 1000000) (hn1 : 1 ≤ n) :
    Calls Try.prog 16 #[.slice A n cap] w fun e w' => ∃ x, us[0]? = some x ∧ e = .returned (.agg #[.int .u64 ((lead x us : Nat) : Int), .int .u64 (x : Int)]) ∧ Mod (fun _ => False) w w' := by
  have hul : us.length = n := by have := hs.1; rwa [cellsU_length] at this
  obtain ⟨W, hW⟩ : ∃ W, W = w.alloc (.cells #[.int .u64 0, .int .u64 0] 39) := ⟨_, rfl⟩
  have hmW : Mod (fun _ => False) w W := by rw [hW]; exact (Mod.refl _ _).alloc _
  have hbW : Blk W w.heap.size 39 #[.int .u64 0, .int .u64 0] := by rw [hW]; exact Blk.new _ _ _
  obtain ⟨x, hx⟩ : ∃ x, us[0]? = some x := ⟨_, List.getElem?_eq_getElem (by omega)⟩
  have Hs := Lib.hid hs; have HB := Lib.hid hB; have Hul := Lib.hid hul; have HW := Lib.hid hW; have HmW := Lib.hid hmW; have HbW := Lib.hid hbW; have Hx := Lib.hid hx
  clear hs hB hul hW hmW hbW hx
  go_enter Try.func16, Try.ntmps16
  go_wp2_with fail
  rw [← HW.out]
  go_loopg [3] n (fun l s3 wr => ∃ i : Nat, i + l = n + 1 ∧ 1 ≤ i ∧ i ≤ n ∧ s3 = .int .i64 (i : Int) ∧ (∀ j, j < i → us[j]? = some x) ∧ Mod (fun _ => False) W wr)
  case atStart => exact ⟨1, by omega, Nat.le_refl _, hn1, rfl, (fun j hj => by
    have h0 : j = 0 := by omega
    rw [h0]
    exact Hx.out), Mod.refl _ _⟩
  case round =>
    obtain ⟨i, hil, hi1, hin1, rfl, hall, hm⟩ := hrel
    have Hil := Lib.hid hil; have Hall := Lib.hid hall
    have hmm := HmW.out.trans hm (fun _ _ h => h)
    obtain ⟨ad, x', hA, hx', hc0⟩ := Hs.out.at2 (show 0 < n by omega) HB.out hmm (fun _ _ h => h)
    obtain rfl : x' = x := by have := Hx.out; rw [hx'] at this; injection this
    have hc0' : wr.cell? ad = some (.int .u64 (x' : Int)) := hc0
    have hbr := hm.blk HbW.out (fun h => h)
    have Hm := Lib.hid hm; have Hmm := Lib.hid hmm; have Hbr := Lib.hid hbr
    subst hA
    clear hil hall hm hmm hbr hc0 hx'
    by_cases hin : i < n
    · obtain ⟨ad2, y, hA2, hy, hcy⟩ := Hs.out.at2 hin HB.out Hmm.out (fun _ _ h => h)
      injection hA2 with hA2
      subst hA2
      have Hy := Lib.hid hy
      clear hy
      by_cases hyx : y = x'
      · subst hyx
        go_upto_region 2 with fail
        go_quiet (fail)
        go_wp2_with fail
        go_roundg (gk - 1)
        case measure => have := Hil.out; omega
        case rel => exact ⟨i + 1, by have := Hil.out; omega, by omega, by omega, by go_num, (fun j hj => by
          rcases Nat.lt_or_ge j i with h | h
          · exact Hall.out j h
          · obtain rfl : j = i := by omega
            exact Hy.out), Hm.out.drewN _⟩
      · have hyb : ((y : Int) == (x' : Int)) = false := by simp; omega
        have hlead : lead x' us = i := lead_is Hall.out (fun z hz => by have := Hy.out; rw [hz] at this; injection this with this; rw [this]; exact hyx)
        have hwr : IntKind.u64.wrap (i : Int) = (i : Int) := by rw [IntKind.wrap_u64]; omega
        have Hlead := Lib.hid hlead; have Hyx := Lib.hid hyx
        clear hlead hyx
        have hf0 : ∀ N, (wr.drewN N).frozen? ⟨w.heap.size, 0, none⟩ = false := fun N => (Hbr.out.drewN N).frozen 0
        have hf1 : ∀ N, (wr.drewN N).frozen? ⟨w.heap.size, 1, none⟩ = false := fun N => (Hbr.out.drewN N).frozen 1
        have hd0 := Hbr.out.cell 0
        have hd1 := Hbr.out.cell 1
        simp at hd0 hd1
        go_upto_region 2 with fail
        go_quiet (fail)
        go_wp2_with fail
        refine bodyPost_ret (v := .agg #[.int .u64 (i : Int), .int .u64 (x' : Int)]) (by have h := (Hbr.out.drewN nq).two (.int .u64 (i : Int)) (.int .u64 (x' : Int)); simp [results, Try.results16, go_sem, h.1, h.2.1]) rfl ⟨x', Hx.out, by rw [Hlead.out], ?_⟩
        exact (Hmm.out.drewN _).two_new (Nat.le_refl _) _ _
    · have hlead : lead x' us = i := lead_is Hall.out (fun z hz => by have := (List.getElem?_eq_some_iff.1 hz).1; have := Hul.out; omega)
      have hwr : IntKind.u64.wrap (i : Int) = (i : Int) := by rw [IntKind.wrap_u64]; omega
      have Hlead := Lib.hid hlead
      clear hlead
      have hf0 : ∀ N, (wr.drewN N).frozen? ⟨w.heap.size, 0, none⟩ = false := fun N => (Hbr.out.drewN N).frozen 0
      have hf1 : ∀ N, (wr.drewN N).frozen? ⟨w.heap.size, 1, none⟩ = false := fun N => (Hbr.out.drewN N).frozen 1
      have hd0 := Hbr.out.cell 0
      have hd1 := Hbr.out.cell 1
      simp at hd0 hd1
      go_upto_region 2 with fail
      go_quiet (fail)
      go_wp2_with fail
      refine bodyPost_ret (v := .agg #[.int .u64 (i : Int), .int .u64 (x' : Int)]) (by have h := (Hbr.out.drewN nq).two (.int .u64 (i : Int)) (.int .u64 (x' : Int)); simp [results, Try.results16, go_sem, h.1, h.2.1]) rfl ⟨x', Hx.out, by rw [Hlead.out], ?_⟩
      exact (Hmm.out.drewN _).two_new (Nat.le_refl _) _ _
end Go.Proofs.Ytomdphepbihmcaa

/- Two arrays of 256 numbers, compared. -/
import Derived.Test.YtdecjmkpmpbdcaaCt
import Derived.Laws.StructEq
namespace Go.Proofs.Ytdecjmkpmpbdcaa
open Go.RowKit

theorem run_part_tab (T : Nat → Nat) (w : World) (i : Nat) (h : i < 256) : (part 22 (tabOf T) i).run Try.prog w = .ok (.int .u32 (T i : Int)) w := by
  have hs : (isAgg 22).run Try.prog w = .ok false w := by kernel_rfl
  simp only [part, Sem.run_bind, hs, Result.andThen_ok, tabOf_get T i h, Bool.false_eq_true, if_false, Sem.run_pure]
theorem run_equalIn_tab (d : Nat) (T : Nat → Nat) (w : World) (hd : ∀ (a : Int) (w : World), (Op.equalIn d 22 (.int .u32 a) (.int .u32 a)).run Try.prog w = .ok true w) :
    (Op.equalIn (d + 1) 26 (.agg (tabOf T)) (.agg (tabOf T))).run Try.prog w = .ok true w := by
  have hs : (sizeOf 22).run Try.prog w = .ok 1 w := by kernel_rfl
  simp only [Op.equalIn, Sem.run_bind, run_underlying Try.underlying26, Result.andThen_ok, hs]
  rw [Std.Legacy.Range.forIn_eq_forIn_range']
  have key : ∀ l : List Nat, (∀ i ∈ l, i < 256) → (forIn (m := Sem) l ((none : Option Bool), ()) fun i __s => do
            let a ← part 22 (tabOf T) (i * 1)
            let b ← part 22 (tabOf T) (i * 1)
            let r ← Op.equalIn d 22 a b
            if (!r) = true then pure (ForInStep.done (some false, ())) else pure (ForInStep.yield (none, ()))).run Try.prog w = .ok (none, ()) w := by
    intro l hl
    induction l with
    | nil => rfl
    | cons i l ih =>
      simp only [List.forIn_cons, Sem.run_bind, Nat.mul_one, run_part_tab T w i (hl i (by simp)), Result.andThen_ok, hd, Bool.not_true, Bool.false_eq_true, if_false, Sem.run_pure]
      have := ih (fun j hj => hl j (by simp [hj]))
      simpa only [Nat.mul_one] using this
  rw [key _ (by intro i hi; simp [List.mem_range'] at hi; omega)]
  rfl
theorem run_eql_tab (T : Nat → Nat) (w : World) : (binOp .eql 26 (.agg (tabOf T)) (.agg (tabOf T))).run Try.prog w = .ok (.bool true) w := by
  rw [run_eql_struct, run_equalIn_tab 9999 T w (fun a w => by rw [run_equalIn_int w 9998 22 .u32 .u32 a a Try.underlying22, beq_self_eq_true])]
  rfl
theorem run_eqGuard_tab (op : BinOp) (x y : Operand) (S T : Nat → Nat) (w : World) : (eqGuard op 26 x y (.agg (tabOf S)) (.agg (tabOf T))).run Try.prog w = .ok () w := run_eqGuard_agg w op _ x y _ _ (by kernel_rfl)
end Go.Proofs.Ytdecjmkpmpbdcaa

/- What the document fixes, as the statements of layer 3 ask it at their end. -/
import Derived.Test.YtdecjmkpmpbdcaaCs
import Derived.Test.YtdecjmkpmpbdcaaRow2
import Derived.Test.YtdecjmkpmpbdcaaQc
import Derived.Deep.RegionHeldLaw
import Derived.StillTailTactics
import Derived.Deep.CutBlock
import Derived.Lib.SlBytesConst
namespace Go.Proofs.Ytdecjmkpmpbdcaa
open Go.RowKit

section
variable {P : Program}
/-- A whole array into the block that was made last. -/
theorem wpList_store_new {ops : Array Oper} {rest : List Oper} {op : Oper} {a : Act} {w : World} {Q : Exit → Act → World → Prop} (hgd : op.guard = none) (ty : TypeId) (x y : Operand) (ho : op.op = .store ty x y)
    {c c' : Array Value} (hx : a.eval x = .pointer (some ⟨w.heap.size, 0, none⟩)) (hy : a.eval y = .agg c')
    (hi : (P.info? ty).map (·.size) = some c'.size) (hs : c.size = c'.size) (h1 : c'.all (·.oneCell') = true)
    (h : wpList P ops Q rest (a.put op.dst undef) (w.alloc (.cells c' ty))) : wpList P ops Q (op :: rest) a (w.alloc (.cells c ty)) :=
  wpList_plain hgd fun K hK => by
    unfold Oper.wp execOp
    simp only [ho, hx, hy, Instr.storeAt, Instr.sureAddr, Sem.run_bind, Sem.run_pure, Result.andThen_ok, run_storeVar_new w ty c c' hi hs h1]
    exact hK _ _ h
end

/-- []byte{..}, as a conversion to its own type, in a region that draws its order. -/
theorem conv_lit (w : World) (C : Array Value) (n c : Nat) : (convert 28 28 (.slice (some ⟨w.heap.size, 0, none⟩) n c)).run Try.prog (w.alloc (.cells C 5)).drew = .ok (.slice (some ⟨w.heap.size, 0, none⟩) n c) (w.alloc (.cells C 5 (C.size, C.size + 1))).drew :=
  Lib.run_convert_bytes_const (P := Try.prog) w.drew 28 5 C n c Try.underlying28 Try.underlying5
theorem rds_lit_mark (w : World) (t : TypeId) (cs : Array Value) (fr : Nat × Nat) : Rds (w.alloc (.cells cs t fr)).drew (w.heap.size + 1) (some ⟨w.heap.size, 0, none⟩) cs.size cs.toList :=
  ⟨by simp, fun _ => ⟨_, rfl, by simp, fun j u hu => by
    rw [add_addr, Nat.zero_add]
    refine (World.cell?_alloc_mark w cs t fr j).trans ?_
    simpa using hu⟩⟩
/-- Block g is the table of T, and what was there at w3 is as it was. -/
def Tbd (T : Nat → Nat) (w3 : World) (g : Nat) (w : World) : Prop := Blk w g 26 (tabOf T) ∧ Below w3.heap.size w3 w
theorem Tbd.mk {T : Nat → Nat} {w3 w : World} {g : Nat} (h : Blk w g 26 (tabOf T)) (hb : Below w3.heap.size w3 w) : Tbd T w3 g w := ⟨h, hb⟩
theorem Tbd.alloc {T : Nat → Nat} {w3 w : World} {g : Nat} (h : Tbd T w3 g w) (o : Obj) : Tbd T w3 g (w.alloc o) := ⟨h.1.alloc o, h.2.alloc h.2.size o⟩
theorem Tbd.drew {T : Nat → Nat} {w3 w : World} {g : Nat} (h : Tbd T w3 g w) : Tbd T w3 g w.drew := ⟨h.1.drew, h.2.drew⟩
theorem Tbd.below {T : Nat → Nat} {w3 w w' : World} {g : Nat} (h : Tbd T w3 g w) (hb : Below w.heap.size w w') : Tbd T w3 g w' := ⟨h.1.below hb h.1.lt, h.2.trans (hb.mono h.2.size)⟩
theorem Tbd.range {T : Nat → Nat} {w3 w : World} {g : Nat} {L : List Value} (h : Tbd T w3 g w) (hL : Hid (L = (tabOf T).toList)) : w.rangeAt g 0 L := by
  rw [hL.out]
  exact h.1.range
theorem Tbd.at_ {T : Nat → Nat} {w3 w : World} {g i : Nat} (h : Tbd T w3 g w) (hi : i < 256) {v : Int} (hv : (T i : Int) = v) : w.cell? ⟨g, i, none⟩ = some (.int .u32 v) := by
  rw [h.1.cell i, tabOf_get T i hi, hv]

theorem sum_at {T : Nat → Nat} {L : List Value} (hL : Hid (L = (tabOf T).toList)) (hT : Hid (Tab T)) (A : Option Addr) (n c B : Nat) (bs : List Nat) (v : Int) (w : World) (hs : Rds w B A n (cells8 bs)) (hlt : lt256 bs) (hn : n ≤ maxLen) (hv : (sumN T bs : Int) = v) :
    Calls Try.prog 7 #[.agg L.toArray, .slice A n c] w fun e w' => e = .returned (.int .u32 v) ∧ Below w.heap.size w w' := by
  have e : L.toArray = tabOf T := by rw [hL.out]
  rw [e]
  subst hv
  exact sum_any T hT.out A n c B bs w hs hlt hn
theorem rentry_at (x : Nat) (v : Int) (w : World) (h : x < 4294967296) (hv : (ent x : Int) = v) : Calls Try.prog 10 #[.int .u32 (x : Int)] w fun e w' => e = .returned (.int .u32 v) ∧ w = w' := hv ▸ rentry_any x w h
/-- The table, and the nine digits, at H. -/
def AwkC (w3 : World) (g H : Nat) (w : World) : Prop := Tbd ent w3 g w ∧ Rds w (H + 1) (some ⟨H, 0, none⟩) 9 (cells8 [49, 50, 51, 52, 53, 54, 55, 56, 57])
theorem AwkC.below {w3 w w' : World} {g H : Nat} (h : AwkC w3 g H w) (hb : Below w.heap.size w w') : AwkC w3 g H w' :=
  ⟨h.1.below hb, h.2.keep fun p hp => hb.cell (by have := h.2.at_ (k := 0) (by decide); obtain ⟨ad, u, e, _, _, hc⟩ := this; have := World.block_lt_of_cell? w _ hc; rw [add_block] at this; injection e with e; subst e; simp at this; omega)⟩
theorem size26L {T : Nat → Nat} {L : List Value} (hL : Hid (L = (tabOf T).toList)) : (Try.prog.info? 26).map (·.size) = some L.length := by
  rw [hL.out]
  exact size26l T

set_option maxHeartbeats 1000000 in
set_option maxRecDepth 100000 in
theorem awake_any (w : World) : Calls Try.prog 9 #[] w fun e w' => e = .returned (.bool true) ∧ Below w.heap.size w w' := by
  have hz := zero26
  have kc := conv_lit
  go_enter Try.func9, Try.ntmps9
  go_wp2_with fail
  refine (table_any _).mono ?_
  rintro e w1 ⟨rfl, hb1⟩
  have Hb1 := Lib.hid hb1
  clear hb1
  go_wp2_with (with_reducible refine wpList_store_new rfl 26 (.tmp 1) (.tmp 2) rfl rfl rfl (size26 ent) ((tabOf_size _).trans (tabOf_size _).symm) (tabOf_one ent) ?_)
  have HT : Hid (Tbd ent w w1.heap.size (w1.alloc (.cells (tabOf ent) 26))) := Lib.hid ⟨Blk.new _ _ _, Hb1.out.alloc Hb1.out.size _⟩
  generalize w1.alloc (.cells (tabOf ent) 26) = W at *
  generalize w1.heap.size = g at *
  obtain ⟨L, hL⟩ : ∃ L, L = (tabOf ent).toList := ⟨_, rfl⟩
  have HL := Lib.hid hL
  have hu := Try.underlying26
  have hi := size26L HL
  have Hent := Lib.hid tab_ent
  clear hL Hb1 hz
  go_wp2_with fail
  refine wp_region_held_drew (S := fun w' => Tbd ent w g w') (by kernel_rfl) HT.out.drew (fun hHeld => ?_)
  refine wpAnyH_take (i := 0) rfl (by kernel_rfl) (by kernel_rfl) (by kernel_rfl) (fun _ _ _ h => h) (yieldsIf_load_mid (by rfl) _ _ rfl _ _ rfl _ _ (fun w h => Tbd.range h HL) hu rfl hi) hHeld ?_
  simp only [Act.put, List.setIfInBounds_toArray]
  refine wpAnyH_ready (rs := [1]) (by kernel_rfl) (by simp) (AllReadyH.cons rfl (fun K hK => ?_) AllReadyH.nil)
  go_simp
  refine hK.out _ _ (HT.out.alloc _).drew (fun _ => ?_)
  clear hK K hHeld
  refine wpAnyH_ready (rs := [2]) (by kernel_rfl) (by simp) (AllReadyH.cons rfl (fun K hK => ?_) AllReadyH.nil)
  go_simp
  refine hK.out _ _ (HT.out.alloc _).drew (fun _ => ?_)
  clear hK K
  refine wpAnyH_lex (k := 3) (AwkC w g W.heap.size) ⟨(HT.out.alloc _).drew, rds_lit_mark W _ #[.int .u8 49, .int .u8 50, .int .u8 51, .int .u8 52, .int .u8 53, .int .u8 54, .int .u8 55, .int .u8 56, .int .u8 57] _⟩ (fun _ h => h.1) (by kernel_rfl) rfl rfl (by kernel_rfl) ?_
  refine wpQuiet_step (fun K hK => ?_)
  go_simp
  refine ⟨.int .u32 3808858755, fun w2 h2 => (sum_at HL Hent _ 9 9 _ [49, 50, 51, 52, 53, 54, 55, 56, 57] 3808858755 _ h2.2 (by unfold lt256; decide) (by decide) (by decide +kernel)).mono ?_, hK _ ?_⟩
  · rintro e w3 ⟨rfl, hb⟩
    exact ⟨rfl, h2.below hb⟩
  clear hK K
  iterate 2 quiet_step (exact fun _ => rfl)
  refine quiet_load_mid (by rfl) _ _ rfl _ _ rfl (fun w h => Tbd.range h.1 HL) hu rfl hi ?_
  simp only [Act.put, List.setIfInBounds_toArray, List.set_cons_zero, List.set_cons_succ]
  refine wpQuiet_step (fun K hK => ?_)
  go_simp
  refine ⟨.int .u32 0, fun w2 h2 => (sum_at HL Hent none 0 0 0 [] 0 _ (Rds.nil _ _ _) lt256_nil (Nat.zero_le _) (by decide +kernel)).mono ?_, hK _ ?_⟩
  · rintro e w3 ⟨rfl, hb⟩
    exact ⟨rfl, h2.below hb⟩
  clear hK K
  iterate 4 quiet_step (exact fun _ => rfl)
  refine wpQuiet_step (fun K hK => ?_)
  go_simp
  refine ⟨.int .u32 0, fun w2 h2 => ?_, hK _ ?_⟩
  · rw [h2.1.at_ (i := 0) (v := 0) (by decide) (by decide +kernel)]
    exact ⟨rfl, rfl⟩
  clear hK K
  iterate 4 quiet_step (exact fun _ => rfl)
  refine wpQuiet_step (fun K hK => ?_)
  go_simp
  refine ⟨.int .u32 4067132163, fun w2 h2 => ?_, hK _ ?_⟩
  · rw [h2.1.at_ (i := 1) (v := 4067132163) (by decide) (by decide +kernel)]
    exact ⟨rfl, rfl⟩
  clear hK K
  refine wpQuiet_step (fun K hK => ?_)
  go_simp
  refine ⟨.int .u32 4067132163, fun w2 h2 => (rentry_at 1 4067132163 _ (by decide) (by decide +kernel)).mono ?_, hK _ ?_⟩
  · rintro e w3 ⟨rfl, rfl⟩
    exact ⟨rfl, h2⟩
  clear hK K
  iterate 3 quiet_step (exact fun _ => rfl)
  refine wpQuiet_nil ?_
  intro w4 h4
  have H4 := Lib.hid h4.1.2
  clear h4
  go_wp2
  go_ret
  exact ⟨rfl, H4.out⟩
end Go.Proofs.Ytdecjmkpmpbdcaa

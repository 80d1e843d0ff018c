/- The texts Jd, De, Pe, Kv, Kw, Ke, Dr, Pr, Ky, Kz, Kd, Jf, Za, Qf, Rkg, one behind the other. -/
import Derived.Test.YthogflfjdfcpeaaMq1
import Derived.Test.YthogflfjdfcpeaaMq3
import Derived.Test.YthogflfjdfcpeaaMq2
import Derived.Test.YthogflfjdfcpeaaMq5
/- Chunks, of the code: getHead. -/
namespace Go.Proofs.Ythogflfjdfcpeaa
open Go.RowKit

end Go.Proofs.Ythogflfjdfcpeaa

/- Values are told by a list of those that are unlike: putList, Encode. -/
namespace Go.Proofs.Ythogflfjdfcpeaa
open Go.RowKit Go.Maps

end Go.Proofs.Ythogflfjdfcpeaa

/- Values are told by their least: Encode. -/
namespace Go.Proofs.Ythogflfjdfcpeaa
open Go.RowKit

end Go.Proofs.Ythogflfjdfcpeaa

/- Values told in each codec: putSimple, putSame, putValues. -/
namespace Go.Proofs.Ythogflfjdfcpeaa
open Go.RowKit

theorem NewRow.own {w w1 : World} {v : Value} {bs : List Nat} (h : NewRow w w1 v bs.length (cells8 bs)) : Own w.heap.size w1 5 v (cells8 bs) := by
  obtain ⟨h1, _, h3⟩ := h
  unfold Own
  rw [cells8_length]
  refine ⟨h1.1, ?_⟩
  rcases h1.2 with hn | ⟨g, cap, cur, rfl, _, rest⟩
  · exact .inl hn
  · refine .inr ⟨g, cap, cur, rfl, ?_, rest⟩
    rcases h3 with h3 | ⟨r, h3, hr⟩
    · simp [Value.ownBlock] at h3
    · have : g = r := by simpa [Value.ownBlock] using h3
      omega
end Go.Proofs.Ythogflfjdfcpeaa

/- Values told in a codec: putValues. -/
namespace Go.Proofs.Ythogflfjdfcpeaa
open Go.RowKit

theorem EncB.of_own {w w' : World} {bs : List Nat} {v : Value} (h : Own w.heap.size w' 5 v (cells8 bs)) (hm : Mod (fun _ => False) w w') : EncB w w' (some bs) (.returned (.tuple #[v, .bool true])) := ⟨v, rfl, h, hm⟩
end Go.Proofs.Ythogflfjdfcpeaa

/- A row of samples told in a codec: Encode. -/
namespace Go.Proofs.Ythogflfjdfcpeaa
open Go.RowKit

end Go.Proofs.Ythogflfjdfcpeaa

/- Bytes are read as values by their list: read, Decode. -/
namespace Go.Proofs.Ythogflfjdfcpeaa
open Go.RowKit Go.Maps

end Go.Proofs.Ythogflfjdfcpeaa

/- Bytes are read as values by their least: read, Decode. -/
namespace Go.Proofs.Ythogflfjdfcpeaa
open Go.RowKit

end Go.Proofs.Ythogflfjdfcpeaa

/- Values read in each codec: getSimple, getSame, getValues. -/
namespace Go.Proofs.Ythogflfjdfcpeaa
open Go.RowKit

end Go.Proofs.Ythogflfjdfcpeaa

/- Values read in a codec: getSame, getValues. -/
namespace Go.Proofs.Ythogflfjdfcpeaa
open Go.RowKit

end Go.Proofs.Ythogflfjdfcpeaa

/- A row of samples read in a codec: read, Decode. -/
namespace Go.Proofs.Ythogflfjdfcpeaa
open Go.RowKit

end Go.Proofs.Ythogflfjdfcpeaa

/- Chunks, of the code: Open. -/
namespace Go.Proofs.Ythogflfjdfcpeaa
open Go.RowKit

end Go.Proofs.Ythogflfjdfcpeaa

/- Work by steps, of the code: what a task is in memory; a row copied; newTask, step, done, bad. -/
namespace Go.Proofs.Ythogflfjdfcpeaa
open Go.RowKit

theorem own_litK {K B : Nat} {w : World} {e : TypeId} (hB : B ≤ w.heap.size) : OwnK K B (w.alloc (.cells #[] e)) e (.slice (some ⟨w.heap.size, 0, none⟩) 0 0) [] := by
  refine ⟨AllK.nil K, ?_⟩
  refine ⟨by simp, .inr ⟨w.heap.size, 0, #[], rfl, hB, heap_alloc_new w _, Nat.le_refl _, Nat.zero_le _, by simp, by simp⟩⟩

/-- A struct of three cells is written. -/
theorem Blk.three {w : World} {g : Nat} {t : TypeId} {c0 c1 c2 : Value} (h : Blk w g t #[c0, c1, c2]) (a b c : Value) :
    (((w.setCell ⟨g, 0, none⟩ a).setCell ⟨g, 1, none⟩ b).setCell ⟨g, 2, none⟩ c).cell? ⟨g, 0, none⟩ = some a ∧ (((w.setCell ⟨g, 0, none⟩ a).setCell ⟨g, 1, none⟩ b).setCell ⟨g, 2, none⟩ c).cell? ⟨g, 1, none⟩ = some b ∧
    (((w.setCell ⟨g, 0, none⟩ a).setCell ⟨g, 1, none⟩ b).setCell ⟨g, 2, none⟩ c).cell? ⟨g, 2, none⟩ = some c ∧
    Blk (((w.setCell ⟨g, 0, none⟩ a).setCell ⟨g, 1, none⟩ b).setCell ⟨g, 2, none⟩ c) g t #[a, b, c] := by
  have h3 : Blk (((w.setCell ⟨g, 0, none⟩ a).setCell ⟨g, 1, none⟩ b).setCell ⟨g, 2, none⟩ c) g t #[a, b, c] := by
    have := ((h.set_ 0 a).set_ 1 b).set_ 2 c
    simpa using this
  refine ⟨?_, ?_, ?_, h3⟩
  · have := h3.cell 0; simpa using this
  · have := h3.cell 1; simpa using this
  · have := h3.cell 2; simpa using this
theorem Mod.three_new {w w' : World} {g : Nat} (h : Mod (fun _ => False) w w') (hg : w.heap.size ≤ g) (a b c : Value) : Mod (fun _ => False) w (((w'.setCell ⟨g, 0, none⟩ a).setCell ⟨g, 1, none⟩ b).setCell ⟨g, 2, none⟩ c) :=
  ((h.setCell (fun hlt => absurd hlt (by simp; omega)) a).setCell (fun hlt => absurd hlt (by simp; omega)) b).setCell (fun hlt => absurd hlt (by simp; omega)) c

end Go.Proofs.Ythogflfjdfcpeaa

/- The clock's smallest steps: the target moved, the next place, the three hands, a copy. -/
namespace Go.Proofs.Ythogflfjdfcpeaa
open Go.RowKit

set_option maxHeartbeats 1000000 in
set_option maxRecDepth 100000 in
theorem aim_any (B g : Nat) (vp : Value) (c : ClkN) (n : Int) (w : World) (h : ClkV B g w vp c) (hb : BaseK c) (hn : -1 ≤ n ∧ n ≤ 1) :
    Calls Try.prog 41 #[.pointer (some ⟨g, 0, none⟩), .int .i64 n] w fun e w' => e = .returned (.tuple #[]) ∧ ClkTo B g w w' vp (aimK c n) := by
  obtain ⟨y0, y1, _, _, _, _⟩ := h.cells
  have f1 := h.frozen 1
  have h1 := hb.most
  have h2 := hb.target
  obtain ⟨T1, hT1⟩ : ∃ x, c.target + n = x := ⟨_, rfl⟩
  obtain ⟨M, hM⟩ : ∃ x, min T1 c.most = x := ⟨_, rfl⟩
  obtain ⟨R, hR⟩ : ∃ x, max 1 M = x := ⟨_, rfl⟩
  have hmin := minI_is (P := Try.prog) (t := 3) (ty := 3) hM
  have hmax := maxI_is (P := Try.prog) (t := 3) (ty := 3) hR
  have hwr : IntKind.i64.wrap (c.target + n) = T1 := by rw [hT1]; exact IntWalk.i64_in _ (by omega)
  have Hfin : Hid (ClkTo B g w (w.setCell ⟨g, 1, none⟩ (.int .i64 R)) vp (aimK c n)) := Lib.hid (ClkTo.num h 1 _ (by
    have e : min (max (c.target + n) 1) c.most = R := by omega
    show (clkC c vp).setIfInBounds 1 _ = clkC { c with target := min (max (c.target + n) 1) c.most } vp
    rw [e]
    rfl) rfl)
  have HT1 := Lib.hid hT1; have HM := Lib.hid hM; have HR := Lib.hid hR
  clear hT1 hM hR h h1 h2 hn hb
  go_enter Try.func41, Try.ntmps41
  go_region
  go_end0
  exact ⟨rfl, Hfin.out.then_ (Mod.refl _ _).drew⟩
set_option maxHeartbeats 1000000 in
set_option maxRecDepth 100000 in
theorem ckNext_any (B g : Nat) (vp : Value) (c : ClkN) (i : Nat) (w : World) (h : ClkV B g w vp c) (hi : i < c.ps.length) (hn : c.ps.length ≤ 1000000) :
    Calls Try.prog 71 #[.pointer (some ⟨g, 0, none⟩), .int .i64 (i : Int)] w fun e w' => e = .returned (.int .i64 ((onK c.ps.length i : Nat) : Int)) ∧ Mod (fun _ => False) w w' := by
  obtain ⟨A, n, cap, rfl, Hn, _, _, _⟩ := h.form
  obtain ⟨_, _, y2, _, _, _⟩ := h.cells
  have hn2 := Hn.out
  rw [hn2] at hi hn ⊢
  have hm : ((i : Int) + 1).tmod (n : Int) = ((onK n i : Nat) : Int) := by
    unfold onK
    by_cases h1 : n ≤ i + 1
    · have : n = i + 1 := by omega
      subst this
      rw [if_pos (Nat.le_refl _)]
      have e : ((i : Int) + 1) = (((i + 1 : Nat)) : Int) := by omega
      rw [e]
      simp
    · rw [if_neg h1]
      rw [Int.tmod_eq_of_lt (by omega) (by omega)]
      omega
  have hm2 : ((i : Int) + 1) % (n : Int) = ((onK n i : Nat) : Int) := by
    rw [← hm, Int.tmod_eq_emod_of_nonneg (by omega)]
  have h0 : ¬ (n : Int) = 0 := by omega
  have b1 : (i : Int) < (n : Int) := by omega
  have b2 : (n : Int) ≤ 1000000 := by omega
  clear hn2 h hi hn
  go_enter Try.func71, Try.ntmps71
  go_wp2_with fail
  go_ret
  exact ⟨rfl, Mod.refl _ _⟩
set_option maxHeartbeats 1000000 in
set_option maxRecDepth 100000 in
theorem hands_any (B g : Nat) (vp : Value) (c : ClkN) (w : World) (_h : ClkV B g w vp c) :
    Calls Try.prog 42 #[.pointer (some ⟨g, 0, none⟩)] w fun e w' => e = .returned (.agg #[.pointer (some ⟨g, 3, none⟩), .pointer (some ⟨g, 4, none⟩), .pointer (some ⟨g, 5, none⟩)]) ∧ Mod (fun _ => False) w w' := by
  obtain ⟨W, hW, hmW, hbW, hzW⟩ := Blk.boxed w 63 #[.pointer none, .pointer none, .pointer none]
  obtain ⟨G, hG⟩ : ∃ g, g = w.heap.size := ⟨_, rfl⟩
  rw [← hG] at hbW
  have r0 := hbW.cell 0
  have r1 := hbW.cell 1
  have r2 := hbW.cell 2
  have f0 := hbW.frozen 0
  have f1 := hbW.frozen 1
  have f2 := hbW.frozen 2
  simp at r0 r1 r2
  have HW := Lib.hid hW; have HmW := Lib.hid hmW; have HbW := Lib.hid hbW; have HG := Lib.hid hG
  clear hW hmW hbW hzW hG
  go_enter Try.func42, Try.ntmps42
  go_upto_region 1 with fail
  rw [← HW.out, ← HG.out]
  go_region
  go_wp2_with fail
  refine bodyPost_ret (v := .agg #[.pointer (some ⟨g, 3, none⟩), .pointer (some ⟨g, 4, none⟩), .pointer (some ⟨g, 5, none⟩)]) (by have h := HbW.out.three (.pointer (some ⟨g, 3, none⟩)) (.pointer (some ⟨g, 4, none⟩)) (.pointer (some ⟨g, 5, none⟩)); simp [results, Try.results42, go_sem, h.1, h.2.1, h.2.2.1]) rfl ?_
  exact ⟨rfl, (HmW.out.three_new (by have := HG.out; omega) _ _ _).drew⟩
set_option maxHeartbeats 1000000 in
set_option maxRecDepth 100000 in
theorem ckCopied_any (c : ClkN) (A : Option Addr) (n cap : Nat) (w : World) (hs : RdsP w w.heap.size A n c.ps) (hn : n ≤ 1000000) :
    Calls Try.prog 22 #[.agg (clkC c (.slice A n cap))] w fun e w' => ∃ vp, e = .returned (.agg (clkC c vp)) ∧ OwnP (w.heap.size + 2) w' 30 vp c.ps ∧ Mod (fun _ => False) w w' := by
  obtain ⟨m, t, ps, h, cl, ts⟩ := c
  unfold clkC
  dsimp only at hs ⊢
  obtain ⟨W, hW⟩ : ∃ W, W = (w.alloc (.cells #[.int .i64 m, .int .i64 t, .slice A n cap, .int .i64 (h : Int), .int .i64 (cl : Int), .int .i64 (ts : Int)] 25)).alloc (.cells #[.int .i64 0, .int .i64 0, .slice none 0 0, .int .i64 0, .int .i64 0, .int .i64 0] 25) := ⟨_, rfl⟩
  obtain ⟨g, hg⟩ : ∃ g, g = w.heap.size := ⟨_, rfl⟩
  obtain ⟨g2, hg2⟩ : ∃ g, g = w.heap.size + 1 := ⟨_, rfl⟩
  have hmW : Mod (fun _ => False) w W := by rw [hW]; exact ((Mod.refl _ _).alloc _).alloc _
  have hzW : W.heap.size = w.heap.size + 2 := by rw [hW]; simp
  have hbW : Blk W g 25 #[.int .i64 m, .int .i64 t, .slice A n cap, .int .i64 (h : Int), .int .i64 (cl : Int), .int .i64 (ts : Int)] := by rw [hW, hg]; exact (Blk.new _ _ _).alloc _
  have hrW : Blk W g2 25 #[.int .i64 0, .int .i64 0, .slice none 0 0, .int .i64 0, .int .i64 0, .int .i64 0] := by
    rw [hW, hg2]
    have h := Blk.new (w.alloc (.cells #[.int .i64 m, .int .i64 t, .slice A n cap, .int .i64 (h : Int), .int .i64 (cl : Int), .int .i64 (ts : Int)] 25)) 25 #[.int .i64 0, .int .i64 0, .slice none 0 0, .int .i64 0, .int .i64 0, .int .i64 0]
    simpa using h
  have y2 := hbW.cell 2
  simp at y2
  have Hown : Hid (OwnK 7 W.heap.size W 30 (.slice none 0 0) []) := Lib.hid (OwnK.nil _ _ _ _)
  have Hr := Lib.hid (RdsK.fit (RdsP.new hs hmW))
  have Hone := Lib.hid (pagC_one ps)
  have Hl := Lib.hid hs.len
  have hr1 : ([] : List (List Value)).length + n ≤ maxLen := by unfold maxLen; simp; omega
  have hr2 : (([] : List (List Value)).length + n) * 48 ≤ 140737488355328 := by simp; omega
  have HW := Lib.hid hW; have HmW := Lib.hid hmW; have HbW := Lib.hid hbW; have HrW := Lib.hid hrW; have Hg := Lib.hid hg; have Hg2 := Lib.hid hg2; have HzW := Lib.hid hzW
  clear hW hmW hbW hrW hg hg2 hzW hs
  go_enter Try.func22, Try.ntmps22
  go_upto_region 1 with fail
  rw [← HW.out, ← Hg2.out, ← Hg.out]
  go_upto_region 2 with (at_builtin; refine wpList_appK (v := .slice none 0 0) rfl (.const (.slice none 0 0)) (.tmp 4) _ rfl eltPag rfl Hown.out rfl Hr.out Hone.out hr1 hr2 (Nat.le_refl _) ?_; intro v4 w4 HO HB HG; clear HG; obtain ⟨A4, L4, c4, rfl, HL4, _, _, _⟩ := HO.out.formN; have hb4 := HbW.out.below HB.out (HbW.out.lt); have f2 := hb4.frozen 2; have z2 := hb4.cell 2; simp at z2; have Hb4 := Lib.hid hb4; clear hb4)
  obtain ⟨W5, hW5⟩ : ∃ W5, W5 = w4.setCell ⟨g, 2, none⟩ (.slice A4 L4 c4) := ⟨_, rfl⟩
  have hb5 : Blk W5 g 25 #[.int .i64 m, .int .i64 t, .slice A4 L4 c4, .int .i64 (h : Int), .int .i64 (cl : Int), .int .i64 (ts : Int)] := by rw [hW5]; exact Hb4.out.set_ 2 _
  have hr5 : Blk W5 g2 25 #[.int .i64 0, .int .i64 0, .slice none 0 0, .int .i64 0, .int .i64 0, .int .i64 0] := by rw [hW5]; exact (HrW.out.below HB.out HrW.out.lt).far (p := ⟨g, 2, none⟩) (by have := Hg.out; have := Hg2.out; show g2 ≠ g; omega) _
  have hm45 : Mod (fun _ => False) w w4 := HmW.out.trans (Mod.of_below HB.out) (fun i hi h => by have := HzW.out; omega)
  have hm5 : Mod (fun _ => False) w W5 := by rw [hW5]; exact hm45.trans (mod_oneCell w4 g 2 _) (fun i hi h => by have := Hg.out; omega)
  have ho5 : OwnK 7 (w.heap.size + 2) W5 30 (.slice A4 L4 c4) (ps.map pagC) := by
    have h1 := HO.out
    rw [List.nil_append] at h1
    have h2 := OwnK.modS h1 (mod_oneCell w4 g 2 (.slice A4 L4 c4)) (fun k hk h => by have := (OwnK.block h1 k hk).1; have := HzW.out; have := Hg.out; omega)
    rw [hW5]
    exact h2.mono (by have := HzW.out; omega)
  have z0 := hb5.cell 0
  have z1 := hb5.cell 1
  have z2 := hb5.cell 2
  have z3 := hb5.cell 3
  have z4 := hb5.cell 4
  have z5 := hb5.cell 5
  have r0 := hr5.cell 0
  have r1 := hr5.cell 1
  have r2 := hr5.cell 2
  have r3 := hr5.cell 3
  have r4 := hr5.cell 4
  have r5 := hr5.cell 5
  have q0 := hr5.frozen 0
  have q1 := hr5.frozen 1
  have q2 := hr5.frozen 2
  have q3 := hr5.frozen 3
  have q4 := hr5.frozen 4
  have q5 := hr5.frozen 5
  simp at z0 z1 z2 z3 z4 z5 r0 r1 r2 r3 r4 r5
  have HW5 := Lib.hid hW5; have Hr5 := Lib.hid hr5; have Hm5 := Lib.hid hm5; have Ho5 := Lib.hid ho5
  clear hW5 hb5 hr5 hm45 hm5 ho5
  rw [← HW5.out]
  go_wp2_with fail
  refine bodyPost_ret (v := .agg #[.int .i64 m, .int .i64 t, .slice A4 L4 c4, .int .i64 (h : Int), .int .i64 (cl : Int), .int .i64 (ts : Int)]) (by have hh := Hr5.out.six (.int .i64 m) (.int .i64 t) (.slice A4 L4 c4) (.int .i64 (h : Int)) (.int .i64 (cl : Int)) (.int .i64 (ts : Int)); simp [results, Try.results22, go_sem, hh.1, hh.2.1, hh.2.2.1, hh.2.2.2.1, hh.2.2.2.2.1, hh.2.2.2.2.2.1]) rfl ?_
  exact ⟨_, rfl, OwnK.modS Ho5.out (Mod.six_one _ _ _ _ _ _ _ _) (fun k hk h => by have := (OwnK.block Ho5.out k hk).1; have := Hg2.out; omega), Hm5.out.six_new (by have := Hg2.out; omega) _ _ _ _ _ _⟩
end Go.Proofs.Ythogflfjdfcpeaa

/- append of one element of K cells, with what else turns; rows of samples. -/
namespace Go.Proofs.Ythogflfjdfcpeaa
open Go.RowKit
section
variable {P : Program} {w : World}
theorem wpList_appK1g {ops : Array Oper} {rest : List Oper} {o : Oper} {a : Act} {Q : Exit → Act → World → Prop} (hgd : o.guard = none) (s x : Operand) (t : TypeId)
    (ho : o.op = .call { callee := .builtin .append, args := #[s, x], argTypes := #[t, t] }) {e : TypeId} {z : Value} {K bytes : Nat} (hE : EltK P t e z K bytes)
    {B H : Nat} {v : Value} {rows : List (List Value)} {r : List Value} {te : TypeId} (hs : a.eval s = v) (hown : OwnK K B w e v rows) (hx : a.eval x = .slice (some ⟨H, 0, none⟩) 1 1) (hH : w.heap.size = H) (hrK : r.length = K) (h1 : ∀ u ∈ r, u.oneCell' = true)
    (hm : rows.length + 1 ≤ maxLen) (hb : (rows.length + 1) * bytes ≤ 140737488355328) (hB : B ≤ w.heap.size)
    (h : ∀ v' w', Hid (OwnK K B w' e v' (rows ++ [r])) → Hid (Mod (fun k => v.ownBlock = some k) w w') → Hid (v'.ownBlock = v.ownBlock ∨ ∃ k, v'.ownBlock = some k ∧ w.heap.size ≤ k) → wpList P ops Q rest (a.put o.dst v') w') : wpList P ops Q (o :: rest) a (w.alloc (.cells r.toArray te)) := by
  subst hH hrK
  refine wpList_appK hgd s x t ho hE hs (hown.alloc _) hx (RdsK.lit1 w te r) (by simpa using h1) hm hb (by simp; omega) ?_
  intro v' w' h2 _ h4
  refine h v' w' h2 (Lib.hid (((Mod.refl _ w).alloc _).grown h4.out.1 (fun k hk _ => hk))) (Lib.hid ?_)
  rcases h4.out.2 with h5 | h5
  · exact .inl h5
  · exact .inr ⟨_, h5, by simp⟩
end
end Go.Proofs.Ythogflfjdfcpeaa

/- The texts Id, one behind the other. -/
import Derived.Test.YtcoajldhhimmoaaMx1
import Derived.Test.YtcoajldhhimmoaaMx7
import Derived.Test.YtcoajldhhimmoaaMx10
/- New, Clock, Frames of the cache. -/
namespace Go.Proofs.Ytcoajldhhimmoaa
open Go.RowKit

theorem cac_new {w W : World} {b : Nat} (m : Int) (hb : b = w.heap.size) (hW : W = (w.alloc (.map #[] 0)).alloc (.cells (cacC (newK m) (.slice none 0 0) b) 55)) : (∀ W2, Mod (fun _ => False) W W2 → ∀ B, B ≤ W2.heap.size → CacV B (b + 1) b 0 W2 (newC m)) ∧ Mod (fun _ => False) w W ∧ W.heap.size = b + 2 := by
  subst hb
  have hm : Mod (fun _ => False) w W := by rw [hW]; exact ((Mod.refl _ _).alloc _).alloc _
  have hz : W.heap.size = w.heap.size + 2 := by rw [hW]; simp
  refine ⟨fun W2 h2 B hB => ⟨goodC_new m, ⟨.slice none 0 0, ?_, OwnK.nil _ _ _ _⟩, ?_, (fun k hk => by cases hk), pinsLe_new m, hB, (fun k r hr => by cases hr)⟩, hm, hz⟩
  · refine h2.blk ?_ (fun h => h)
    rw [hW]
    have h := Blk.new (w.alloc (.map #[] 0)) 55 (cacC (newK m) (.slice none 0 0) w.heap.size)
    simpa [newC] using h
  · refine MapC.new ?_ h2
    rw [hW]
    exact (MapC.made B w).new ((Mod.refl _ _).alloc _)
set_option maxHeartbeats 4000000 in
set_option maxRecDepth 100000 in
theorem ccNew_any (m : Int) (w : World) : Calls Try.prog 8 #[.int .i64 m] w fun e w' => ∃ g b, e = .returned (.pointer (some ⟨g, 0, none⟩)) ∧ (∀ W2, Mod (fun _ => False) w' W2 → ∀ B, B ≤ W2.heap.size → CacV B g b 0 W2 (newC m)) ∧ Mod (fun _ => False) w w' ∧ w.heap.size ≤ b ∧ w.heap.size ≤ g := by
  have hmm := @run_makeMap Try.prog
  go_enter Try.func8, Try.ntmps8
  go_wp2_with fail
  refine (ckNew_any m w).mono ?_
  rintro e w1 ⟨rfl, hm1⟩
  obtain ⟨b, hb⟩ : ∃ b, b = w1.heap.size := ⟨_, rfl⟩
  obtain ⟨W, hW⟩ : ∃ W, W = (w1.alloc (.map #[] 0)).alloc (.cells #[.int .i64 (newK m).most, .int .i64 1, .slice none 0 0, .int .i64 0, .int .i64 0, .int .i64 0, .map (some b)] 55) := ⟨_, rfl⟩
  obtain ⟨h1, h2, h3⟩ := cac_new m hb (W := W) hW
  have H1 := Lib.hid h1; have H2 := Lib.hid (hm1.trans h2 (fun _ _ h => h)); have Hb := Lib.hid hb; have HW := Lib.hid hW; have H3 := Lib.hid hm1.size
  clear h1 h2 h3 hb hW hm1
  go_wp2_with fail
  rw [← Hb.out, ← HW.out]
  go_ret
  exact ⟨b + 1, b, rfl, H1.out, H2.out, by have := Hb.out; have := H3.out; omega, by have := Hb.out; have := H3.out; omega⟩
theorem ccFrames_any {B g b N : Nat} {c : CacN} (w : World) (h : CacV B g b N w c) : Calls Try.prog 16 #[.pointer (some ⟨g, 0, none⟩)] w fun e w' => e = .returned (.int .i64 (framesC c : Int)) ∧ Mod (fun _ => False) w w' := by
  have hl := fun ty => h.map_.len_ ty
  obtain ⟨A, n, cap, Hb, _, _, _⟩ := h.open_
  have y6 := Hb.out.cell 6
  simp [cacC] at y6
  clear h
  go_enter Try.func16, Try.ntmps16
  go_wp2_with fail
  go_ret
  exact ⟨rfl, Mod.refl _ _⟩
set_option maxHeartbeats 4000000 in
set_option maxRecDepth 100000 in
theorem ccClock_any {B g b N : Nat} {c : CacN} (w : World) (h : CacV B g b N w c) : Calls Try.prog 11 #[.pointer (some ⟨g, 0, none⟩)] w fun e w' => ∃ A n cap, e = .returned (.agg (clkC c.clk (.slice A n cap))) ∧ OwnP w.heap.size w' 39 (.slice A n cap) c.clk.ps ∧ Mod (fun _ => False) w w' := by
  obtain ⟨A, n, cap, Hb, Hp, Hn, Hr⟩ := h.open_
  have Hlt := Lib.hid h.lt
  have hn2 : n ≤ 2000 := by have h1 := Hn.out; have h9 : c.clk.ps.length ≤ 2000 := h.good.clk.len; omega
  clear h
  obtain ⟨m, hm⟩ : ∃ m, c.clk.most = m := ⟨_, rfl⟩
  obtain ⟨t, ht⟩ : ∃ m, c.clk.target = m := ⟨_, rfl⟩
  obtain ⟨x3, h3⟩ : ∃ m, c.clk.hot = m := ⟨_, rfl⟩
  obtain ⟨x4, h4⟩ : ∃ m, c.clk.cold = m := ⟨_, rfl⟩
  obtain ⟨x5, h5⟩ : ∃ m, c.clk.test = m := ⟨_, rfl⟩
  obtain ⟨ps, hps⟩ : ∃ m, c.clk.ps = m := ⟨_, rfl⟩
  have hb := Hb.out
  have hr := Hr.out
  unfold cacC at hb
  unfold clkC
  rw [hm, ht, h3, h4, h5] at hb ⊢
  rw [hps] at hr ⊢
  have hl := hr.len
  clear Hb Hp Hr Hn hm ht h3 h4 h5 hps
  obtain ⟨W, hW⟩ : ∃ W, W = (w.alloc (.cells #[.int .i64 0, .int .i64 0, .slice none 0 0, .int .i64 0, .int .i64 0, .int .i64 0] 36)).alloc (.cells #[.int .i64 m, .int .i64 t, .slice A n cap, .int .i64 (x3 : Int), .int .i64 (x4 : Int), .int .i64 (x5 : Int)] 36) := ⟨_, rfl⟩
  obtain ⟨g2, hg2⟩ : ∃ g, g = w.heap.size := ⟨_, rfl⟩
  obtain ⟨g3, hg3⟩ : ∃ g, g = w.heap.size + 1 := ⟨_, rfl⟩
  have hmW : Mod (fun _ => False) w W := by rw [hW]; exact ((Mod.refl _ _).alloc _).alloc _
  have hzW : W.heap.size = w.heap.size + 2 := by rw [hW]; simp
  have hrW : Blk W g2 36 #[.int .i64 0, .int .i64 0, .slice none 0 0, .int .i64 0, .int .i64 0, .int .i64 0] := by rw [hW, hg2]; exact (Blk.new _ _ _).alloc _
  have hbW : Blk W g3 36 #[.int .i64 m, .int .i64 t, .slice A n cap, .int .i64 (x3 : Int), .int .i64 (x4 : Int), .int .i64 (x5 : Int)] := by
    rw [hW, hg3]
    have h := Blk.new (w.alloc (.cells #[.int .i64 0, .int .i64 0, .slice none 0 0, .int .i64 0, .int .i64 0, .int .i64 0] 36)) 36 #[.int .i64 m, .int .i64 t, .slice A n cap, .int .i64 (x3 : Int), .int .i64 (x4 : Int), .int .i64 (x5 : Int)]
    simpa using h
  have Hown : Hid (OwnK 7 W.heap.size W 39 (.slice none 0 0) []) := Lib.hid (OwnK.nil _ _ _ _)
  have Hr := Lib.hid (RdsK.fit (RdsP.new hr hmW))
  have Hone := Lib.hid (pagC_one ps)
  have hr1 : ([] : List (List Value)).length + n ≤ maxLen := by unfold maxLen; simp; omega
  have hr2 : (([] : List (List Value)).length + n) * 48 ≤ 140737488355328 := by simp; omega
  have hb1 := hb.alloc (.cells #[.int .i64 0, .int .i64 0, .slice none 0 0, .int .i64 0, .int .i64 0, .int .i64 0] 36)
  have v0 := hb1.cell 0
  have v1 := hb1.cell 1
  have v2 := hb1.cell 2
  have v3 := hb1.cell 3
  have v4 := hb1.cell 4
  have v5 := hb1.cell 5
  simp at v0 v1 v2 v3 v4 v5
  have y2 := hbW.cell 2
  simp at y2
  have HW := Lib.hid hW; have HmW := Lib.hid hmW; have HbW := Lib.hid hbW; have HrW := Lib.hid hrW; have Hg2 := Lib.hid hg2; have Hg3 := Lib.hid hg3; have HzW := Lib.hid hzW; have Hl := Lib.hid hl
  clear hW hmW hbW hrW hg2 hg3 hzW hr hb hb1 hl
  go_enter Try.func11, Try.ntmps11
  go_upto_region 2 with fail
  rw [← HW.out, ← Hg3.out, ← Hg2.out]
  clear v0 v1 v2 v3 v4 v5
  go_upto_region 3 with (at_builtin; refine wpList_appK (v := .slice none 0 0) rfl (.const (.slice none 0 0)) (.tmp 9) _ rfl eltPag rfl Hown.out rfl Hr.out Hone.out hr1 hr2 (Nat.le_refl _) ?_; intro v4 w4 HO HB HG; clear HG; obtain ⟨A4, L4, c4, rfl, HL4, _, _, _⟩ := HO.out.formN; have hb4 := HbW.out.below HB.out (HbW.out.lt); have f2 := hb4.frozen 2; have z2 := hb4.cell 2; simp at z2; have Hb4 := Lib.hid hb4; clear hb4)
  obtain ⟨W5, hW5⟩ : ∃ W5, W5 = w4.setCell ⟨g3, 2, none⟩ (.slice A4 L4 c4) := ⟨_, rfl⟩
  have hb5 : Blk W5 g3 36 #[.int .i64 m, .int .i64 t, .slice A4 L4 c4, .int .i64 (x3 : Int), .int .i64 (x4 : Int), .int .i64 (x5 : Int)] := by rw [hW5]; exact Hb4.out.set_ 2 _
  have hr5 : Blk W5 g2 36 #[.int .i64 0, .int .i64 0, .slice none 0 0, .int .i64 0, .int .i64 0, .int .i64 0] := by rw [hW5]; exact (HrW.out.below HB.out HrW.out.lt).far (p := ⟨g3, 2, none⟩) (by have := Hg2.out; have := Hg3.out; show g2 ≠ g3; omega) _
  have hm45 : Mod (fun _ => False) w w4 := HmW.out.trans (Mod.of_below HB.out) (fun i hi h => by have := HzW.out; omega)
  have hm5 : Mod (fun _ => False) w W5 := by rw [hW5]; exact hm45.trans (mod_oneCell w4 g3 2 _) (fun i hi h => by have := Hg3.out; omega)
  have ho5 : OwnK 7 (w.heap.size + 2) W5 39 (.slice A4 L4 c4) (ps.map pagC) := by
    have h1 := HO.out
    rw [List.nil_append] at h1
    have h2 := OwnK.modS h1 (mod_oneCell w4 g3 2 (.slice A4 L4 c4)) (fun k hk h => by have := (OwnK.block h1 k hk).1; have := HzW.out; have := Hg3.out; omega)
    rw [hW5]
    exact h2.mono (by have := HzW.out; omega)
  have z0 := hb5.cell 0
  have r0 := hr5.cell 0
  have q0 := hr5.frozen 0
  have z1 := hb5.cell 1
  have r1 := hr5.cell 1
  have q1 := hr5.frozen 1
  have z2 := hb5.cell 2
  have r2 := hr5.cell 2
  have q2 := hr5.frozen 2
  have z3 := hb5.cell 3
  have r3 := hr5.cell 3
  have q3 := hr5.frozen 3
  have z4 := hb5.cell 4
  have r4 := hr5.cell 4
  have q4 := hr5.frozen 4
  have z5 := hb5.cell 5
  have r5 := hr5.cell 5
  have q5 := hr5.frozen 5
  simp at z0 z1 z2 z3 z4 z5 r0 r1 r2 r3 r4 r5
  have HW5 := Lib.hid hW5; have Hr5 := Lib.hid hr5; have Hm5 := Lib.hid hm5; have Ho5 := Lib.hid ho5
  clear hW5 hb5 hr5 hm45 hm5 ho5
  rw [← HW5.out]
  go_wp2_with fail
  refine bodyPost_ret (v := .agg #[.int .i64 m, .int .i64 t, .slice A4 L4 c4, .int .i64 (x3 : Int), .int .i64 (x4 : Int), .int .i64 (x5 : Int)]) (by have hh := Hr5.out.six (.int .i64 m) (.int .i64 t) (.slice A4 L4 c4) (.int .i64 (x3 : Int)) (.int .i64 (x4 : Int)) (.int .i64 (x5 : Int)); simp [results, Try.results11, go_sem, hh.1, hh.2.1, hh.2.2.1, hh.2.2.2.1, hh.2.2.2.2.1, hh.2.2.2.2.2.1]) rfl ?_
  exact ⟨_, _, _, rfl, OwnK.mono (OwnK.modS Ho5.out (Mod.six_one _ _ _ _ _ _ _ _) (fun k hk h => by have := (OwnK.block Ho5.out k hk).1; have := Hg2.out; omega)) (by omega), Hm5.out.six_new (by have := Hg2.out; omega) _ _ _ _ _ _⟩
end Go.Proofs.Ytcoajldhhimmoaa

/- The texts Qe, one behind the other. -/
import Derived.Test.YthogflfjdfcpeaaMq1
import Derived.Test.YthogflfjdfcpeaaMq3
import Derived.Lib.Overlaps
/- slices.Delete and slices.Insert of one page. -/
namespace Go.Proofs.Ythogflfjdfcpeaa
open Go.RowKit

set_option maxHeartbeats 1000000 in
set_option maxRecDepth 100000 in
theorem delP_any (B g n cap i j q : Nat) (rows : List (List Value)) (w : World) (h : OwnK 7 B w 30 (.slice (some ⟨g, 0, none⟩) n cap) rows) (hone : ∀ u ∈ rows.flatten, u.oneCell' = true) (hj : i + 1 = j) (hi : j ≤ n) (hq : q + 1 = n) (hn : n ≤ 1000000) :
    Calls Try.prog 49 #[.slice (some ⟨g, 0, none⟩) n cap, .int .i64 (i : Int), .int .i64 (j : Int)] w fun e w' =>
      e = .returned (.slice (some ⟨g, 0, none⟩) q cap) ∧ OwnK 7 B w' 30 (.slice (some ⟨g, 0, none⟩) q cap) (rows.take i ++ rows.drop j) ∧ Mod (fun k => k = g) w w' := by
  obtain ⟨cur, hb, hB, hr, hnc, hc, hs, ht⟩ := h.blk
  obtain ⟨A, hA⟩ : ∃ A, some (⟨g, 0, none⟩ : Addr) = A := ⟨_, rfl⟩
  obtain ⟨A1, hA1⟩ : ∃ A1, (if cap = j then A else A.map (·.add (j * 7))) = A1 := ⟨_, rfl⟩
  obtain ⟨A2, hA2⟩ : ∃ A2, (if cap = q then A else A.map (·.add (q * 7))) = A2 := ⟨_, rfl⟩
  have hne : A1 ≠ none := by rw [← hA1, ← hA]; split <;> simp
  have hA2' : A2 = some ⟨g, q * 7, none⟩ := by rw [← hA2, ← hA, if_neg (by omega), Option.map_some, add_addr, Nat.zero_add]
  have hR : RdsK 7 w w.heap.size A1 (n - j) (rows.drop j) := by rw [← hA1, ← hA]; exact (h.rds hr).drop (by omega) hnc (by decide)
  have h1c : ∀ u ∈ (rows.drop j).flatten, u.oneCell' = true := fun u hu => by
    obtain ⟨r, hr, hu⟩ := List.mem_flatten.1 hu
    exact hone u (List.mem_flatten.2 ⟨r, List.mem_of_mem_drop hr, hu⟩)
  obtain ⟨W1, hW1⟩ : ∃ W1, W1 = w.drew.setCells g (i * 7) (rows.drop j).flatten := ⟨_, rfl⟩
  have run1 : ∀ ty c, (Builtin.append_ #[23, 23] ty #[.slice A i cap, .slice A1 (n - j) c]).run Try.prog w.drew = .ok (.slice A q cap) W1 := by
    intro ty c
    have h2 := run_append_in (w := w.drew) (c := c) eltPag (n := i) h.drew hne ⟨_, hR.drew⟩ h1c (by omega) ty
    rw [show i + (n - j) = q by omega] at h2
    rw [hW1, ← hA]
    exact h2
  have hO1 : OwnK 7 B W1 30 (.slice (some ⟨g, 0, none⟩) q cap) (rows.take i ++ rows.drop j) := by
    have h2 := (h.drew.cut (k := i) (by omega)).grown (news := rows.drop j) (m := n - j) (h.1.drop j) (by rw [List.length_drop]; omega) (by omega)
    rw [show i + (n - j) = q by omega] at h2
    rw [hW1]
    exact h2
  have hM1 : Mod (fun k => k = g) w W1 := by rw [hW1]; exact mod_setCells _ _ _ _ _ (Mod.refl _ w).drew
  obtain ⟨vs, hvl, hcl⟩ := run_clearK (P := Try.prog) (w := W1) eltPag Try.zeroValue30 (by decide) (b := g) (o := q * 7) (n := n - q) (by omega) (fun j hj => (hO1.open_ (by omega)).1) (fun j hj => (hO1.open_ (by omega)).2)
  have hfin : OwnK 7 B (W1.setCells g (q * 7) vs) 30 (.slice (some ⟨g, 0, none⟩) q cap) (rows.take i ++ rows.drop j) ∧ Mod (fun k => k = g) w (W1.setCells g (q * 7) vs) :=
    ⟨hO1.behind (Nat.le_refl _) (by rw [hvl]; omega), mod_setCells _ _ _ _ _ hM1⟩
  have Hcl : Hid (∀ ty c, (Builtin.clear_ #[23] ty #[.slice A2 (n - q) c]).run Try.prog W1 = .ok (.tuple #[]) (W1.setCells g (q * 7) vs)) := Lib.hid (by rw [hA2']; exact hcl)
  have Hrun1 := Lib.hid run1
  have Hfin := Lib.hid hfin
  have HA := Lib.hid hA
  have b1 : (i : Int) ≤ (j : Int) := by omega
  have b2 : (j : Int) ≤ (n : Int) := by omega
  have b3 : (n : Int) ≤ (cap : Int) := by omega
  have b4 : ¬ (i : Int) = (j : Int) := by omega
  have b5 : (q : Int) ≤ (n : Int) := by omega
  have b6 : (i : Int) ≤ (cap : Int) := by omega
  have b7 : (n : Int) ≤ 1000000 := by omega
  rw [hA]
  clear h hone hj hi hq hn hb hB hr hnc hc hs ht hne hA2' hR h1c hW1 run1 hO1 hM1 hvl hcl hfin hA
  go_enter Try.func49, Try.ntmps49
  go_wp2_with fail
  go_region_law (refine step_append_run (v := .slice A i cap) (u := .slice A1 (n - j) (cap - j)) rfl (.tmp 22) (.tmp 25) _ rfl (by kernel_rfl) (by kernel_rfl) (Hrun1.out _ _) ?_)
  all_goals (
    have hcl := Hcl.out
    go_wp2_with fail
    go_ret
    have h := Hfin.out
    rw [HA.out] at h
    exact ⟨rfl, h⟩)
set_option maxHeartbeats 4000000 in
set_option maxRecDepth 100000 in
/-- The end, whatever the row. -/
theorem insP_end (B n H : Nat) (v : Value) (rows : List (List Value)) (r : List Value) (te : TypeId) (w : World) (h : OwnK 7 B w 30 v rows) (hn : rows.length = n) (hH : Blk w H te r.toArray) (hr : r.length = 7) (hone : ∀ u ∈ r, u.oneCell' = true) (hB : B ≤ w.heap.size) (hnm : n ≤ 1000000) :
    Calls Try.prog 46 #[v, .int .i64 (n : Int), .slice (some ⟨H, 0, none⟩) 1 1] w fun e w' =>
      ∃ v', e = .returned v' ∧ OwnK 7 B w' 30 v' (rows ++ [r]) ∧ Mod (fun k => v.ownBlock = some k) w w' ∧ ∀ k, v'.ownBlock = some k → v.ownBlock = some k ∨ w.heap.size ≤ k := by
  obtain ⟨A, c, rfl, _, hnc, hcm, _⟩ := h.form
  rw [hn] at h ⊢
  rw [hn] at hnc
  have Hr : Hid (RdsK 7 w (H + 1) (some ⟨H, 0, none⟩) 1 [r]) := Lib.hid ⟨rfl, AllK.cons hr (AllK.nil _), by simp [hr], fun _ => ⟨_, rfl, Nat.lt_succ_self _, fun j u hu => by rw [add_addr, Nat.zero_add, hH.cell]; simpa using hu⟩⟩
  have Hone : Hid (∀ u ∈ [r].flatten, u.oneCell' = true) := Lib.hid (by simpa using hone)
  have Hown := Lib.hid h
  have hr1 : rows.length + 1 ≤ maxLen := by unfold maxLen; omega
  have hr2 : (rows.length + 1) * 48 ≤ 140737488355328 := by omega
  have b1 : (n : Int) ≤ (c : Int) := by omega
  have b2 : (n : Int) ≤ 1000000 := by omega
  have HB := Lib.hid hB
  obtain ⟨A1, hA1⟩ : ∃ A1, (if c = n then A else A.map (·.add (n * 7))) = A1 := ⟨_, rfl⟩
  clear h hn hH hr hone hnc hcm hB hnm
  go_enter Try.func46, Try.ntmps46
  go_wp2_with (at_builtin; refine wpList_appK (v := .slice A n c) rfl (.tmp 23) (.tmp 24) _ rfl eltPag rfl Hown.out rfl Hr.out Hone.out hr1 hr2 HB.out ?_; intro v4 w4 HO HBl HG)
  go_ret
  exact ⟨v4, rfl, HO.out, (Mod.refl _ w).grown HG.out.1 (fun k hk _ => hk), fun k hk => HG.out.2.elim (fun h => .inl (h ▸ hk)) (fun h => .inr (by rw [h] at hk; injection hk with hk; omega))⟩
set_option maxHeartbeats 600000 in
set_option maxRecDepth 100000 in
/-- Ahead of others, with room: in place. -/
theorem insP_room (B g n n1 p p1 cap H : Nat) (rows : List (List Value)) (r : List Value) (te : TypeId) (w : World) (h : OwnK 7 B w 30 (.slice (some ⟨g, 0, none⟩) n cap) rows) (hone : ∀ u ∈ rows.flatten, u.oneCell' = true) (hH : Blk w H te r.toArray) (hr : r.length = 7) (hre : ∀ u ∈ r, u.oneCell' = true)
    (hgH : H ≠ g) (hp : p < n) (hn1 : n + 1 = n1) (hp1 : p + 1 = p1) (hroom : n1 ≤ cap) (hnm : n ≤ 1000000) :
    Calls Try.prog 46 #[.slice (some ⟨g, 0, none⟩) n cap, .int .i64 (p : Int), .slice (some ⟨H, 0, none⟩) 1 1] w fun e w' =>
      e = .returned (.slice (some ⟨g, 0, none⟩) n1 cap) ∧ OwnK 7 B w' 30 (.slice (some ⟨g, 0, none⟩) n1 cap) (rows.take p ++ [r] ++ rows.drop p) ∧ Mod (fun k => k = g) w w' := by
  obtain ⟨cur, hb, hB, hrl, hnc, hc, hs, ht⟩ := h.blk
  obtain ⟨A, hA⟩ : ∃ A, some (⟨g, 0, none⟩ : Addr) = A := ⟨_, rfl⟩
  obtain ⟨A1, hA1⟩ : ∃ A1, A.map (fun x => x.add (p1 * 7)) = A1 := ⟨_, rfl⟩
  obtain ⟨A2, hA2⟩ : ∃ A2, A.map (fun x => x.add (p * 7)) = A2 := ⟨_, rfl⟩
  have hA1' : A1 = some ⟨g, p1 * 7, none⟩ := by rw [← hA1, ← hA, Option.map_some, add_addr, Nat.zero_add]
  have hA2' : A2 = some ⟨g, p * 7, none⟩ := by rw [← hA2, ← hA, Option.map_some, add_addr, Nat.zero_add]
  obtain ⟨x, hx⟩ := h.extend (by omega)
  have h1c : ∀ u ∈ (rows.drop p).flatten, u.oneCell' = true := fun u hu => by
    obtain ⟨r, hr, hu⟩ := List.mem_flatten.1 hu
    exact hone u (List.mem_flatten.2 ⟨r, List.mem_of_mem_drop hr, hu⟩)
  have hdl : (rows.drop p).flatten.length = (n - p) * 7 := by rw [flat_len (h.1.drop p), List.length_drop, hrl]
  have hov : ∀ lb cb, (callFunc 62 #[.slice (some ⟨H, 0, none⟩) 1 1, .slice A1 lb cb]).run Try.prog w = .ok (.value (.bool false)) w := fun lb cb => by
    rw [hA1', run_callFunc_extern Try.func62 (by kernel_rfl) (by kernel_rfl) (by kernel_rfl) (e := Extern.SlicesOverlaps.overlaps #[23, 23] #[4]) (by kernel_rfl),
      Lib.run_overlaps_apart w 23 4 30 Try.underlying23 7 Try.sizeOf30 ⟨H, 0, none⟩ ⟨g, p1 * 7, none⟩ 1 1 lb cb hgH te 30 _ _ hH.shape_ hb.shape_ (by omega) (hH.frozen 0) (hH.frozen _)]
    rfl
  obtain ⟨W1, hW1⟩ : ∃ W1, W1 = w.drew.setCells g (p1 * 7) (rows.drop p).flatten := ⟨_, rfl⟩
  have hc1 : ∀ ty dc sc, (Builtin.copy_ #[23, 23] ty #[.slice A1 (n1 - p1) dc, .slice A2 (n1 - p) sc]).run Try.prog w.drew = .ok (goInt ((n - p : Nat) : Int)) W1 := fun ty dc sc => by
    rw [hA1', hA2', hW1]
    refine run_copyK (w := w.drew) (b := g) (o := p1 * 7) (dLen := n1 - p1) (sLen := n1 - p) (m := n - p) eltPag (by simp only [Nat.min_def]; split <;> omega) hdl (fun j u hu => ?_) (fun j hj => (h.drew.open_ (by rw [hdl] at hj; omega)).1) (fun j hj => (h.drew.open_ (by rw [hdl] at hj; omega)).2) h1c ty
    rw [add_addr]
    show w.cell? _ = _
    rw [hb.cell]
    have h6 : j < (n - p) * 7 := by rw [← hdl]; exact (List.getElem?_eq_some_iff.1 hu).1
    rw [← flat_drop p h.1, List.getElem?_drop, ← ht, List.getElem?_take] at hu
    rw [if_pos (by omega)] at hu
    simpa using hu
  have hH1 : Blk W1 H te r.toArray := by rw [hW1]; exact (Mod.setCells w.drew g _ _).blk hH.drew hgH
  have hO1 : OwnK 7 B W1 30 (.slice (some ⟨g, 0, none⟩) n1 cap) ((rows ++ [x]).take p1 ++ rows.drop p ++ (rows ++ [x]).drop (p1 + (rows.drop p).length)) := by
    rw [hW1]
    rw [hn1] at hx
    exact hx.drew.laid (p := p1) (h.1.drop p) (by rw [List.length_drop]; omega)
  have hc2 : ∀ ty dc, (Builtin.copy_ #[23, 23] ty #[.slice A2 (n1 - p) dc, .slice (some ⟨H, 0, none⟩) 1 1]).run Try.prog W1 = .ok (goInt 1) (W1.setCells g (p * 7) r) := fun ty dc => by
    rw [hA2']
    refine run_copyK (w := W1) (b := g) (o := p * 7) (dLen := n1 - p) (sLen := 1) (m := 1) eltPag (by simp only [Nat.min_def]; split <;> omega) (by rw [hr]) (fun j u hu => ?_) (fun j hj => (hO1.open_ (by omega)).1) (fun j hj => (hO1.open_ (by omega)).2) hre ty
    rw [add_addr, Nat.zero_add, hH1.cell]
    simpa using hu
  have hfin : OwnK 7 B (W1.setCells g (p * 7) r) 30 (.slice (some ⟨g, 0, none⟩) n1 cap) (rows.take p ++ [r] ++ rows.drop p) ∧ Mod (fun k => k = g) w (W1.setCells g (p * 7) r) := by
    have h5 := hO1.laid (p := p) (news := [r]) (AllK.cons hr (AllK.nil _)) (by simp; omega)
    have e5 : [r].flatten = r := by simp
    rw [e5, ← hp1, insert_at rows x r hrl (by omega)] at h5
    exact ⟨h5, mod_setCells _ _ _ _ _ (by rw [hW1]; exact mod_setCells _ _ _ _ _ (Mod.refl _ w).drew)⟩
  have Hc1 := Lib.hid hc1
  have Hc2 := Lib.hid hc2
  have Hfin := Lib.hid hfin
  have HA := Lib.hid hA
  have b1 : ¬ (p : Int) = (n : Int) := by omega
  have b2 : (p : Int) ≤ (n : Int) := by omega
  have b3 : (n : Int) ≤ (cap : Int) := by omega
  have b4 : ¬ (cap : Int) < (n1 : Int) := by omega
  have b5 : (n : Int) + 1 = (n1 : Int) := by omega
  have b6 : (p : Int) + 1 = (p1 : Int) := by omega
  have b7 : (n : Int) ≤ 1000000 := by omega
  have b8 : (p1 : Int) ≤ (n1 : Int) := by omega
  have b9 : (p : Int) ≤ (n1 : Int) := by omega
  have b10 : (n1 : Int) ≤ (cap : Int) := by omega
  have b12 : ¬ cap = p1 := by omega
  have b13 : ¬ cap = p := by omega
  have b11 : IntKind.i64.wrap (p1 : Int) = (p1 : Int) := IntWalk.i64_in _ (by omega)
  rw [hA]
  clear h hone hH hr hre hgH hp hn1 hp1 hroom hnm hb hB hrl hnc hc hs ht hA1' hA2' hx h1c hdl hW1 hc1 hH1 hO1 hc2 hfin hA
  go_enter Try.func46, Try.ntmps46
  go_wp2_with (simp only [hov])
  go_region_law (refine step_copy_run (v := .slice A1 (n1 - p1) (cap - p1)) (u := .slice A2 (n1 - p) (cap - p)) rfl (.tmp 73) (.tmp 76) _ rfl (by kernel_rfl) (by kernel_rfl) (Hc1.out _ _ _) ?_)
  all_goals (
    have hc2 := Hc2.out
    go_wp2_with fail
    go_ret
    have h := Hfin.out
    rw [HA.out] at h
    exact ⟨rfl, h⟩)
set_option maxHeartbeats 1000000 in
set_option maxRecDepth 100000 in
/-- Ahead of others, without room: a new row. -/
theorem insP_grow (B g n n1 p p1 k cap H : Nat) (rows : List (List Value)) (r : List Value) (te : TypeId) (w : World) (h : OwnK 7 B w 30 (.slice (some ⟨g, 0, none⟩) n cap) rows) (hone : ∀ u ∈ rows.flatten, u.oneCell' = true) (hH : Blk w H te r.toArray) (hr : r.length = 7) (hre : ∀ u ∈ r, u.oneCell' = true)
    (hp : p < n) (hn1 : n + 1 = n1) (hp1 : p + 1 = p1) (hk : p + k = n1) (hroom : cap < n1) (hnm : n ≤ 1000000) :
    Calls Try.prog 46 #[.slice (some ⟨g, 0, none⟩) n cap, .int .i64 (p : Int), .slice (some ⟨H, 0, none⟩) 1 1] w fun e w' =>
      ∃ v', e = .returned v' ∧ OwnK 7 w.heap.size w' 30 v' (rows.take p ++ [r] ++ rows.drop p) ∧ Mod (fun _ => False) w w' := by
  obtain ⟨cur, hb, hB, hrl, hnc, hc, hs, ht⟩ := h.blk
  obtain ⟨A, hA⟩ : ∃ A, some (⟨g, 0, none⟩ : Addr) = A := ⟨_, rfl⟩
  obtain ⟨G, hG⟩ : ∃ G, G = w.heap.size := ⟨_, rfl⟩
  obtain ⟨E, hE⟩ : ∃ E, some (⟨G, 0, none⟩ : Addr) = E := ⟨_, rfl⟩
  obtain ⟨E1, hE1⟩ : ∃ E1, E.map (fun x => x.add (p1 * 7)) = E1 := ⟨_, rfl⟩
  obtain ⟨E2, hE2⟩ : ∃ E2, E.map (fun x => x.add (p * 7)) = E2 := ⟨_, rfl⟩
  obtain ⟨A2, hA2⟩ : ∃ A2, A.map (fun x => x.add (p * 7)) = A2 := ⟨_, rfl⟩
  have hE1' : E1 = some ⟨G, p1 * 7, none⟩ := by rw [← hE1, ← hE, Option.map_some, add_addr, Nat.zero_add]
  have hE2' : E2 = some ⟨G, p * 7, none⟩ := by rw [← hE2, ← hE, Option.map_some, add_addr, Nat.zero_add]
  have hA2' : A2 = some ⟨g, p * 7, none⟩ := by rw [← hA2, ← hA, Option.map_some, add_addr, Nat.zero_add]
  have h1c : ∀ u ∈ (rows.drop p).flatten, u.oneCell' = true := fun u hu => by
    obtain ⟨r, hr, hu⟩ := List.mem_flatten.1 hu
    exact hone u (List.mem_flatten.2 ⟨r, List.mem_of_mem_drop hr, hu⟩)
  have hdl : (rows.drop p).flatten.length = (n - p) * 7 := by rw [flat_len (h.1.drop p), List.length_drop, hrl]
  obtain ⟨C, W1, hC, hCm, hrun, hO1, hm1⟩ := run_grow_zeros (P := Try.prog) (tn := 3) (kn := .i64) (p := p) (k := k) eltPag Try.underlying3 h (by omega) (by omega) (by omega) (by unfold maxLen; omega) (by omega)
  rw [hk, ← hG] at hrun hO1
  rw [hk] at hC
  have run1 : ∀ ty, (Builtin.append_ #[23, 3] ty #[.slice A p cap, .int .i64 (k : Int)]).run Try.prog w = .ok (.slice E n1 C) W1 := by
    intro ty
    rw [← hA, ← hE]
    exact hrun ty
  obtain ⟨W2, hW2⟩ : ∃ W2, W2 = W1.setCells G (p * 7) r := ⟨_, rfl⟩
  have hHG : H ≠ G := by have := hH.lt; omega
  have hgG : g ≠ G := by have := hb.lt; omega
  have hH1 : Blk W1 H te r.toArray := hm1.blk hH (fun h => h)
  have hc1 : ∀ ty dc, (Builtin.copy_ #[23, 23] ty #[.slice E2 (n1 - p) dc, .slice (some ⟨H, 0, none⟩) 1 1]).run Try.prog W1 = .ok (goInt 1) W2 := fun ty dc => by
    rw [hE2', hW2]
    refine run_copyK (w := W1) (b := G) (o := p * 7) (dLen := n1 - p) (sLen := 1) (m := 1) eltPag (by simp only [Nat.min_def]; split <;> omega) (by rw [hr]) (fun j u hu => ?_) (fun j hj => (hO1.open_ (by omega)).1) (fun j hj => (hO1.open_ (by omega)).2) hre ty
    rw [add_addr, Nat.zero_add, hH1.cell]
    simpa using hu
  have hO2 : OwnK 7 G W2 30 (.slice (some ⟨G, 0, none⟩) n1 C) ((rows.take p ++ List.replicate k zeroPag.cells.toList).take p ++ [r] ++ (rows.take p ++ List.replicate k zeroPag.cells.toList).drop (p + [r].length)) := by
    have h5 := hO1.laid (p := p) (news := [r]) (AllK.cons hr (AllK.nil _)) (by simp; omega)
    have e5 : [r].flatten = r := by simp
    rw [e5] at h5
    rw [hW2]
    exact h5
  have hb2 : Blk W2 g 30 cur := by rw [hW2]; exact (Mod.setCells W1 G _ _).blk (hm1.blk hb (fun h => h)) hgG
  obtain ⟨W3, hW3⟩ : ∃ W3, W3 = W2.drew.setCells G (p1 * 7) (rows.drop p).flatten := ⟨_, rfl⟩
  have hc2 : ∀ ty dc sc, (Builtin.copy_ #[23, 23] ty #[.slice E1 (n1 - p1) dc, .slice A2 (n - p) sc]).run Try.prog W2.drew = .ok (goInt ((n - p : Nat) : Int)) W3 := fun ty dc sc => by
    rw [hE1', hA2', hW3]
    refine run_copyK (w := W2.drew) (b := G) (o := p1 * 7) (dLen := n1 - p1) (sLen := n - p) (m := n - p) eltPag (by simp only [Nat.min_def]; split <;> omega) hdl (fun j u hu => ?_) (fun j hj => (hO2.drew.open_ (by rw [hdl] at hj; omega)).1) (fun j hj => (hO2.drew.open_ (by rw [hdl] at hj; omega)).2) h1c ty
    rw [add_addr]
    show W2.cell? _ = _
    rw [hb2.cell]
    have h6 : j < (n - p) * 7 := by rw [← hdl]; exact (List.getElem?_eq_some_iff.1 hu).1
    rw [← flat_drop p h.1, List.getElem?_drop, ← ht, List.getElem?_take] at hu
    rw [if_pos (by omega)] at hu
    simpa using hu
  have hfin : OwnK 7 w.heap.size W3 30 (.slice E n1 C) (rows.take p ++ [r] ++ rows.drop p) ∧ Mod (fun _ => False) w W3 := by
    have h5 := hO2.drew.laid (p := p1) (h.1.drop p) (by rw [List.length_drop]; omega)
    have ek : k = n + 1 - p := by omega
    rw [← hp1, ek, insert_grown rows zeroPag.cells.toList r hrl (by omega)] at h5
    rw [← hE, hW3, ← hp1, ← hG]
    refine ⟨h5, ?_⟩
    have h6 : Mod (fun k => k = G) W1 W3 := by rw [hW3, hW2]; exact mod_setCells _ _ _ _ _ (mod_setCells _ _ _ _ _ (Mod.refl _ W1)).drew
    rw [hp1, ← hW3]
    exact hm1.trans h6 (fun i hi e => by omega)
  have Hrun := Lib.hid run1
  have Hc1 := Lib.hid hc1
  have Hc2 := Lib.hid hc2
  have Hfin := Lib.hid hfin
  have b1 : ¬ (p : Int) = (n : Int) := by omega
  have b2 : (p : Int) ≤ (n : Int) := by omega
  have b3 : (n : Int) ≤ (cap : Int) := by omega
  have b4 : (cap : Int) < (n1 : Int) := by omega
  have b5 : (n : Int) + 1 = (n1 : Int) := by omega
  have b6 : (p : Int) + 1 = (p1 : Int) := by omega
  have b7 : (n : Int) ≤ 1000000 := by omega
  have b8 : (p1 : Int) ≤ (n1 : Int) := by omega
  have b9 : (p : Int) ≤ (n1 : Int) := by omega
  have b10 : (n1 : Int) ≤ (C : Int) := by omega
  have b11 : IntKind.i64.wrap (p1 : Int) = (p1 : Int) := IntWalk.i64_in _ (by omega)
  have b12 : ¬ cap = p := by omega
  have b13 : ¬ C = p := by omega
  have b14 : ¬ C = p1 := by omega
  have b15 : (n1 : Int) - (p : Int) = (k : Int) := by omega
  have b16 : (p : Int) ≤ (C : Int) := by omega
  have b17 : (p1 : Int) ≤ (C : Int) := by omega
  have b18 : (p : Int) ≤ (cap : Int) := by omega
  have hCm2 : (C : Int) ≤ 9223372036854775807 := by unfold maxLen at hCm; omega
  rw [hA]
  clear h hone hH hr hre hp hn1 hp1 hk hroom hnm hb hB hrl hnc hc hs ht hE1' hE2' hA2' h1c hdl hC hCm hrun hO1 hm1 run1 hW2 hHG hgG hH1 hc1 hO2 hb2 hW3 hc2 hfin hA hG hE
  go_enter Try.func46, Try.ntmps46
  have hc1 := Hc1.out
  go_wp2_with (at_builtin; refine Lib.wpList_append_run w rfl (.tmp 34) (.tmp 39) 23 3 rfl (.slice A p cap) (.int .i64 (k : Int)) (by kernel_rfl) (by kernel_rfl) (.slice E n1 C) W1 (Hrun.out _) ?_)
  go_region_law (refine step_copy_run (v := .slice E1 (n1 - p1) (C - p1)) (u := .slice A2 (n - p) (cap - p)) rfl (.tmp 50) (.tmp 53) _ rfl (by kernel_rfl) (by kernel_rfl) (Hc2.out _ _ _) ?_)
  all_goals (
    go_wp2_with fail
    go_ret
    exact ⟨_, rfl, Hfin.out⟩)
/-- slices.Insert(s, p, x) -/
theorem insP_any (B n p H : Nat) (v : Value) (rows : List (List Value)) (r : List Value) (te : TypeId) (w : World) (h : OwnK 7 B w 30 v rows) (hn : rows.length = n) (hone : ∀ u ∈ rows.flatten, u.oneCell' = true) (hH : Blk w H te r.toArray) (hr : r.length = 7) (hre : ∀ u ∈ r, u.oneCell' = true)
    (hHv : v.ownBlock ≠ some H) (hp : p ≤ n) (hB : B ≤ w.heap.size) (hnm : n ≤ 1000000) :
    Calls Try.prog 46 #[v, .int .i64 (p : Int), .slice (some ⟨H, 0, none⟩) 1 1] w fun e w' =>
      ∃ v', e = .returned v' ∧ OwnK 7 B w' 30 v' (rows.take p ++ [r] ++ rows.drop p) ∧ Mod (fun k => v.ownBlock = some k) w w' ∧ ∀ k, v'.ownBlock = some k → v.ownBlock = some k ∨ w.heap.size ≤ k := by
  by_cases hpn : p = n
  · subst hpn
    have e1 : rows.take p ++ [r] ++ rows.drop p = rows ++ [r] := by rw [List.take_of_length_le (by omega), List.drop_of_length_le (by omega), List.append_nil]
    rw [e1]
    exact insP_end B p H v rows r te w h hn hH hr hre hB hnm
  · obtain ⟨g, cap, rfl, hnc, hcm, hBg, hgl⟩ := h.form' (by omega)
    rw [hn] at h ⊢
    rw [hn] at hnc
    by_cases hroom : n + 1 ≤ cap
    · refine (insP_room B g n (n + 1) p (p + 1) cap H rows r te w h hone hH hr hre (fun e => hHv (by simp [Value.ownBlock, e])) (by omega) rfl rfl hroom hnm).mono ?_
      rintro e w' ⟨rfl, h1, h2⟩
      exact ⟨_, rfl, h1, h2.mono (fun k _ e => by simp [Value.ownBlock, e]), fun k hk => .inl hk⟩
    · refine (insP_grow B g n (n + 1) p (p + 1) (n + 1 - p) cap H rows r te w h hone hH hr hre (by omega) rfl rfl (by omega) (by omega) hnm).mono ?_
      rintro e w' ⟨v', rfl, h1, h2⟩
      exact ⟨_, rfl, h1.mono hB, h2.mono (fun k _ e => e.elim), fun k hk => .inr (h1.block k hk).1⟩
end Go.Proofs.Ythogflfjdfcpeaa

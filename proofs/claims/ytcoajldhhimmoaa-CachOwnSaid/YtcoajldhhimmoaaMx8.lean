/- The texts Qe, Qg, Qh, Qi, Qj, Qk, one behind the other. -/
import Derived.Test.YtcoajldhhimmoaaMx1
import Derived.Test.YtcoajldhhimmoaaMx6
import Derived.Lib.Overlaps
/- slices.Delete and slices.Insert of one page. -/
namespace Go.Proofs.Ytcoajldhhimmoaa
open Go.RowKit

set_option maxHeartbeats 1000000 in
set_option maxRecDepth 100000 in
theorem delP_any (B g n cap i j q : Nat) (rows : List (List Value)) (w : World) (h : OwnK 7 B w 39 (.slice (some ⟨g, 0, none⟩) n cap) rows) (hone : ∀ u ∈ rows.flatten, u.oneCell' = true) (hj : i + 1 = j) (hi : j ≤ n) (hq : q + 1 = n) (hn : n ≤ 1000000) :
    Calls Try.prog 50 #[.slice (some ⟨g, 0, none⟩) n cap, .int .i64 (i : Int), .int .i64 (j : Int)] w fun e w' =>
      e = .returned (.slice (some ⟨g, 0, none⟩) q cap) ∧ OwnK 7 B w' 39 (.slice (some ⟨g, 0, none⟩) q cap) (rows.take i ++ rows.drop j) ∧ Mod (fun k => k = g) w w' := by
  obtain ⟨cur, hb, hB, hr, hnc, hc, hs, ht⟩ := h.blk
  obtain ⟨A, hA⟩ : ∃ A, some (⟨g, 0, none⟩ : Addr) = A := ⟨_, rfl⟩
  obtain ⟨A1, hA1⟩ : ∃ A1, (if cap = j then A else A.map (·.add (j * 7))) = A1 := ⟨_, rfl⟩
  obtain ⟨A2, hA2⟩ : ∃ A2, (if cap = q then A else A.map (·.add (q * 7))) = A2 := ⟨_, rfl⟩
  have hne : A1 ≠ none := by rw [← hA1, ← hA]; split <;> simp
  have hA2' : A2 = some ⟨g, q * 7, none⟩ := by rw [← hA2, ← hA, if_neg (by omega), Option.map_some, add_addr, Nat.zero_add]
  have hR : RdsK 7 w w.heap.size A1 (n - j) (rows.drop j) := by rw [← hA1, ← hA]; exact (h.rds hr).drop (by omega) hnc (by decide)
  have h1c : ∀ u ∈ (rows.drop j).flatten, u.oneCell' = true := fun u hu => by
    obtain ⟨r, hr, hu⟩ := List.mem_flatten.1 hu
    exact hone u (List.mem_flatten.2 ⟨r, List.mem_of_mem_drop hr, hu⟩)
  obtain ⟨W1, hW1⟩ : ∃ W1, W1 = w.drew.setCells g (i * 7) (rows.drop j).flatten := ⟨_, rfl⟩
  have run1 : ∀ ty c, (Builtin.append_ #[34, 34] ty #[.slice A i cap, .slice A1 (n - j) c]).run Try.prog w.drew = .ok (.slice A q cap) W1 := by
    intro ty c
    have h2 := run_append_in (w := w.drew) (c := c) eltPag (n := i) h.drew hne ⟨_, hR.drew⟩ h1c (by omega) ty
    rw [show i + (n - j) = q by omega] at h2
    rw [hW1, ← hA]
    exact h2
  have hO1 : OwnK 7 B W1 39 (.slice (some ⟨g, 0, none⟩) q cap) (rows.take i ++ rows.drop j) := by
    have h2 := (h.drew.cut (k := i) (by omega)).grown (news := rows.drop j) (m := n - j) (h.1.drop j) (by rw [List.length_drop]; omega) (by omega)
    rw [show i + (n - j) = q by omega] at h2
    rw [hW1]
    exact h2
  have hM1 : Mod (fun k => k = g) w W1 := by rw [hW1]; exact mod_setCells _ _ _ _ _ (Mod.refl _ w).drew
  obtain ⟨vs, hvl, hcl⟩ := run_clearK (P := Try.prog) (w := W1) eltPag Try.zeroValue39 (by decide) (b := g) (o := q * 7) (n := n - q) (by omega) (fun j hj => (hO1.open_ (by omega)).1) (fun j hj => (hO1.open_ (by omega)).2)
  have hfin : OwnK 7 B (W1.setCells g (q * 7) vs) 39 (.slice (some ⟨g, 0, none⟩) q cap) (rows.take i ++ rows.drop j) ∧ Mod (fun k => k = g) w (W1.setCells g (q * 7) vs) :=
    ⟨hO1.behind (Nat.le_refl _) (by rw [hvl]; omega), mod_setCells _ _ _ _ _ hM1⟩
  have Hcl : Hid (∀ ty c, (Builtin.clear_ #[34] ty #[.slice A2 (n - q) c]).run Try.prog W1 = .ok (.tuple #[]) (W1.setCells g (q * 7) vs)) := Lib.hid (by rw [hA2']; exact hcl)
  have Hrun1 := Lib.hid run1
  have Hfin := Lib.hid hfin
  have HA := Lib.hid hA
  have b1 : (i : Int) ≤ (j : Int) := by omega
  have b2 : (j : Int) ≤ (n : Int) := by omega
  have b3 : (n : Int) ≤ (cap : Int) := by omega
  have b4 : ¬ (i : Int) = (j : Int) := by omega
  have b5 : (q : Int) ≤ (n : Int) := by omega
  have b6 : (i : Int) ≤ (cap : Int) := by omega
  have b7 : (n : Int) ≤ 1000000 := by omega
  rw [hA]
  clear h hone hj hi hq hn hb hB hr hnc hc hs ht hne hA2' hR h1c hW1 run1 hO1 hM1 hvl hcl hfin hA
  go_enter Try.func50, Try.ntmps50
  go_wp2_with fail
  go_region_law (refine step_append_run (v := .slice A i cap) (u := .slice A1 (n - j) (cap - j)) rfl (.tmp 22) (.tmp 25) _ rfl (by kernel_rfl) (by kernel_rfl) (Hrun1.out _ _) ?_)
  all_goals (
    have hcl := Hcl.out
    go_wp2_with fail
    go_ret
    have h := Hfin.out
    rw [HA.out] at h
    exact ⟨rfl, h⟩)
set_option maxHeartbeats 4000000 in
set_option maxRecDepth 100000 in
/-- The end, whatever the row. -/
theorem insP_end (B n H : Nat) (v : Value) (rows : List (List Value)) (r : List Value) (te : TypeId) (w : World) (h : OwnK 7 B w 39 v rows) (hn : rows.length = n) (hH : Blk w H te r.toArray) (hr : r.length = 7) (hone : ∀ u ∈ r, u.oneCell' = true) (hB : B ≤ w.heap.size) (hnm : n ≤ 1000000) :
    Calls Try.prog 44 #[v, .int .i64 (n : Int), .slice (some ⟨H, 0, none⟩) 1 1] w fun e w' =>
      ∃ v', e = .returned v' ∧ OwnK 7 B w' 39 v' (rows ++ [r]) ∧ Mod (fun k => v.ownBlock = some k) w w' ∧ ∀ k, v'.ownBlock = some k → v.ownBlock = some k ∨ w.heap.size ≤ k := by
  obtain ⟨A, c, rfl, _, hnc, hcm, _⟩ := h.form
  rw [hn] at h ⊢
  rw [hn] at hnc
  have Hr : Hid (RdsK 7 w (H + 1) (some ⟨H, 0, none⟩) 1 [r]) := Lib.hid ⟨rfl, AllK.cons hr (AllK.nil _), by simp [hr], fun _ => ⟨_, rfl, Nat.lt_succ_self _, fun j u hu => by rw [add_addr, Nat.zero_add, hH.cell]; simpa using hu⟩⟩
  have Hone : Hid (∀ u ∈ [r].flatten, u.oneCell' = true) := Lib.hid (by simpa using hone)
  have Hown := Lib.hid h
  have hr1 : rows.length + 1 ≤ maxLen := by unfold maxLen; omega
  have hr2 : (rows.length + 1) * 48 ≤ 140737488355328 := by omega
  have b1 : (n : Int) ≤ (c : Int) := by omega
  have b2 : (n : Int) ≤ 1000000 := by omega
  have HB := Lib.hid hB
  obtain ⟨A1, hA1⟩ : ∃ A1, (if c = n then A else A.map (·.add (n * 7))) = A1 := ⟨_, rfl⟩
  clear h hn hH hr hone hnc hcm hB hnm
  go_enter Try.func44, Try.ntmps44
  go_wp2_with (at_builtin; refine wpList_appK (v := .slice A n c) rfl (.tmp 23) (.tmp 24) _ rfl eltPag rfl Hown.out rfl Hr.out Hone.out hr1 hr2 HB.out ?_; intro v4 w4 HO HBl HG)
  go_ret
  exact ⟨v4, rfl, HO.out, (Mod.refl _ w).grown HG.out.1 (fun k hk _ => hk), fun k hk => HG.out.2.elim (fun h => .inl (h ▸ hk)) (fun h => .inr (by rw [h] at hk; injection hk with hk; omega))⟩
set_option maxHeartbeats 600000 in
set_option maxRecDepth 100000 in
/-- Ahead of others, with room: in place. -/
theorem insP_room (B g n n1 p p1 cap H : Nat) (rows : List (List Value)) (r : List Value) (te : TypeId) (w : World) (h : OwnK 7 B w 39 (.slice (some ⟨g, 0, none⟩) n cap) rows) (hone : ∀ u ∈ rows.flatten, u.oneCell' = true) (hH : Blk w H te r.toArray) (hr : r.length = 7) (hre : ∀ u ∈ r, u.oneCell' = true)
    (hgH : H ≠ g) (hp : p < n) (hn1 : n + 1 = n1) (hp1 : p + 1 = p1) (hroom : n1 ≤ cap) (hnm : n ≤ 1000000) :
    Calls Try.prog 44 #[.slice (some ⟨g, 0, none⟩) n cap, .int .i64 (p : Int), .slice (some ⟨H, 0, none⟩) 1 1] w fun e w' =>
      e = .returned (.slice (some ⟨g, 0, none⟩) n1 cap) ∧ OwnK 7 B w' 39 (.slice (some ⟨g, 0, none⟩) n1 cap) (rows.take p ++ [r] ++ rows.drop p) ∧ Mod (fun k => k = g) w w' := by
  obtain ⟨cur, hb, hB, hrl, hnc, hc, hs, ht⟩ := h.blk
  obtain ⟨A, hA⟩ : ∃ A, some (⟨g, 0, none⟩ : Addr) = A := ⟨_, rfl⟩
  obtain ⟨A1, hA1⟩ : ∃ A1, A.map (fun x => x.add (p1 * 7)) = A1 := ⟨_, rfl⟩
  obtain ⟨A2, hA2⟩ : ∃ A2, A.map (fun x => x.add (p * 7)) = A2 := ⟨_, rfl⟩
  have hA1' : A1 = some ⟨g, p1 * 7, none⟩ := by rw [← hA1, ← hA, Option.map_some, add_addr, Nat.zero_add]
  have hA2' : A2 = some ⟨g, p * 7, none⟩ := by rw [← hA2, ← hA, Option.map_some, add_addr, Nat.zero_add]
  obtain ⟨x, hx⟩ := h.extend (by omega)
  have h1c : ∀ u ∈ (rows.drop p).flatten, u.oneCell' = true := fun u hu => by
    obtain ⟨r, hr, hu⟩ := List.mem_flatten.1 hu
    exact hone u (List.mem_flatten.2 ⟨r, List.mem_of_mem_drop hr, hu⟩)
  have hdl : (rows.drop p).flatten.length = (n - p) * 7 := by rw [flat_len (h.1.drop p), List.length_drop, hrl]
  have hov : ∀ lb cb, (callFunc 54 #[.slice (some ⟨H, 0, none⟩) 1 1, .slice A1 lb cb]).run Try.prog w = .ok (.value (.bool false)) w := fun lb cb => by
    rw [hA1', run_callFunc_extern Try.func54 (by kernel_rfl) (by kernel_rfl) (by kernel_rfl) (e := Extern.SlicesOverlaps.overlaps #[34, 34] #[4]) (by kernel_rfl),
      Lib.run_overlaps_apart w 34 4 39 Try.underlying34 7 Try.sizeOf39 ⟨H, 0, none⟩ ⟨g, p1 * 7, none⟩ 1 1 lb cb hgH te 39 _ _ hH.shape_ hb.shape_ (by omega) (hH.frozen 0) (hH.frozen _)]
    rfl
  obtain ⟨W1, hW1⟩ : ∃ W1, W1 = w.drew.setCells g (p1 * 7) (rows.drop p).flatten := ⟨_, rfl⟩
  have hc1 : ∀ ty dc sc, (Builtin.copy_ #[34, 34] ty #[.slice A1 (n1 - p1) dc, .slice A2 (n1 - p) sc]).run Try.prog w.drew = .ok (goInt ((n - p : Nat) : Int)) W1 := fun ty dc sc => by
    rw [hA1', hA2', hW1]
    refine run_copyK (w := w.drew) (b := g) (o := p1 * 7) (dLen := n1 - p1) (sLen := n1 - p) (m := n - p) eltPag (by simp only [Nat.min_def]; split <;> omega) hdl (fun j u hu => ?_) (fun j hj => (h.drew.open_ (by rw [hdl] at hj; omega)).1) (fun j hj => (h.drew.open_ (by rw [hdl] at hj; omega)).2) h1c ty
    rw [add_addr]
    show w.cell? _ = _
    rw [hb.cell]
    have h6 : j < (n - p) * 7 := by rw [← hdl]; exact (List.getElem?_eq_some_iff.1 hu).1
    rw [← flat_drop p h.1, List.getElem?_drop, ← ht, List.getElem?_take] at hu
    rw [if_pos (by omega)] at hu
    simpa using hu
  have hH1 : Blk W1 H te r.toArray := by rw [hW1]; exact (Mod.setCells w.drew g _ _).blk hH.drew hgH
  have hO1 : OwnK 7 B W1 39 (.slice (some ⟨g, 0, none⟩) n1 cap) ((rows ++ [x]).take p1 ++ rows.drop p ++ (rows ++ [x]).drop (p1 + (rows.drop p).length)) := by
    rw [hW1]
    rw [hn1] at hx
    exact hx.drew.laid (p := p1) (h.1.drop p) (by rw [List.length_drop]; omega)
  have hc2 : ∀ ty dc, (Builtin.copy_ #[34, 34] ty #[.slice A2 (n1 - p) dc, .slice (some ⟨H, 0, none⟩) 1 1]).run Try.prog W1 = .ok (goInt 1) (W1.setCells g (p * 7) r) := fun ty dc => by
    rw [hA2']
    refine run_copyK (w := W1) (b := g) (o := p * 7) (dLen := n1 - p) (sLen := 1) (m := 1) eltPag (by simp only [Nat.min_def]; split <;> omega) (by rw [hr]) (fun j u hu => ?_) (fun j hj => (hO1.open_ (by omega)).1) (fun j hj => (hO1.open_ (by omega)).2) hre ty
    rw [add_addr, Nat.zero_add, hH1.cell]
    simpa using hu
  have hfin : OwnK 7 B (W1.setCells g (p * 7) r) 39 (.slice (some ⟨g, 0, none⟩) n1 cap) (rows.take p ++ [r] ++ rows.drop p) ∧ Mod (fun k => k = g) w (W1.setCells g (p * 7) r) := by
    have h5 := hO1.laid (p := p) (news := [r]) (AllK.cons hr (AllK.nil _)) (by simp; omega)
    have e5 : [r].flatten = r := by simp
    rw [e5, ← hp1, insert_at rows x r hrl (by omega)] at h5
    exact ⟨h5, mod_setCells _ _ _ _ _ (by rw [hW1]; exact mod_setCells _ _ _ _ _ (Mod.refl _ w).drew)⟩
  have Hc1 := Lib.hid hc1
  have Hc2 := Lib.hid hc2
  have Hfin := Lib.hid hfin
  have HA := Lib.hid hA
  have b1 : ¬ (p : Int) = (n : Int) := by omega
  have b2 : (p : Int) ≤ (n : Int) := by omega
  have b3 : (n : Int) ≤ (cap : Int) := by omega
  have b4 : ¬ (cap : Int) < (n1 : Int) := by omega
  have b5 : (n : Int) + 1 = (n1 : Int) := by omega
  have b6 : (p : Int) + 1 = (p1 : Int) := by omega
  have b7 : (n : Int) ≤ 1000000 := by omega
  have b8 : (p1 : Int) ≤ (n1 : Int) := by omega
  have b9 : (p : Int) ≤ (n1 : Int) := by omega
  have b10 : (n1 : Int) ≤ (cap : Int) := by omega
  have b12 : ¬ cap = p1 := by omega
  have b13 : ¬ cap = p := by omega
  have b11 : IntKind.i64.wrap (p1 : Int) = (p1 : Int) := IntWalk.i64_in _ (by omega)
  rw [hA]
  clear h hone hH hr hre hgH hp hn1 hp1 hroom hnm hb hB hrl hnc hc hs ht hA1' hA2' hx h1c hdl hW1 hc1 hH1 hO1 hc2 hfin hA
  go_enter Try.func44, Try.ntmps44
  go_wp2_with (simp only [hov])
  go_region_law (refine step_copy_run (v := .slice A1 (n1 - p1) (cap - p1)) (u := .slice A2 (n1 - p) (cap - p)) rfl (.tmp 73) (.tmp 76) _ rfl (by kernel_rfl) (by kernel_rfl) (Hc1.out _ _ _) ?_)
  all_goals (
    have hc2 := Hc2.out
    go_wp2_with fail
    go_ret
    have h := Hfin.out
    rw [HA.out] at h
    exact ⟨rfl, h⟩)
set_option maxHeartbeats 1000000 in
set_option maxRecDepth 100000 in
/-- Ahead of others, without room: a new row. -/
theorem insP_grow (B g n n1 p p1 k cap H : Nat) (rows : List (List Value)) (r : List Value) (te : TypeId) (w : World) (h : OwnK 7 B w 39 (.slice (some ⟨g, 0, none⟩) n cap) rows) (hone : ∀ u ∈ rows.flatten, u.oneCell' = true) (hH : Blk w H te r.toArray) (hr : r.length = 7) (hre : ∀ u ∈ r, u.oneCell' = true)
    (hp : p < n) (hn1 : n + 1 = n1) (hp1 : p + 1 = p1) (hk : p + k = n1) (hroom : cap < n1) (hnm : n ≤ 1000000) :
    Calls Try.prog 44 #[.slice (some ⟨g, 0, none⟩) n cap, .int .i64 (p : Int), .slice (some ⟨H, 0, none⟩) 1 1] w fun e w' =>
      ∃ v', e = .returned v' ∧ OwnK 7 w.heap.size w' 39 v' (rows.take p ++ [r] ++ rows.drop p) ∧ Mod (fun _ => False) w w' := by
  obtain ⟨cur, hb, hB, hrl, hnc, hc, hs, ht⟩ := h.blk
  obtain ⟨A, hA⟩ : ∃ A, some (⟨g, 0, none⟩ : Addr) = A := ⟨_, rfl⟩
  obtain ⟨G, hG⟩ : ∃ G, G = w.heap.size := ⟨_, rfl⟩
  obtain ⟨E, hE⟩ : ∃ E, some (⟨G, 0, none⟩ : Addr) = E := ⟨_, rfl⟩
  obtain ⟨E1, hE1⟩ : ∃ E1, E.map (fun x => x.add (p1 * 7)) = E1 := ⟨_, rfl⟩
  obtain ⟨E2, hE2⟩ : ∃ E2, E.map (fun x => x.add (p * 7)) = E2 := ⟨_, rfl⟩
  obtain ⟨A2, hA2⟩ : ∃ A2, A.map (fun x => x.add (p * 7)) = A2 := ⟨_, rfl⟩
  have hE1' : E1 = some ⟨G, p1 * 7, none⟩ := by rw [← hE1, ← hE, Option.map_some, add_addr, Nat.zero_add]
  have hE2' : E2 = some ⟨G, p * 7, none⟩ := by rw [← hE2, ← hE, Option.map_some, add_addr, Nat.zero_add]
  have hA2' : A2 = some ⟨g, p * 7, none⟩ := by rw [← hA2, ← hA, Option.map_some, add_addr, Nat.zero_add]
  have h1c : ∀ u ∈ (rows.drop p).flatten, u.oneCell' = true := fun u hu => by
    obtain ⟨r, hr, hu⟩ := List.mem_flatten.1 hu
    exact hone u (List.mem_flatten.2 ⟨r, List.mem_of_mem_drop hr, hu⟩)
  have hdl : (rows.drop p).flatten.length = (n - p) * 7 := by rw [flat_len (h.1.drop p), List.length_drop, hrl]
  obtain ⟨C, W1, hC, hCm, hrun, hO1, hm1⟩ := run_grow_zeros (P := Try.prog) (tn := 3) (kn := .i64) (p := p) (k := k) eltPag Try.underlying3 h (by omega) (by omega) (by omega) (by unfold maxLen; omega) (by omega)
  rw [hk, ← hG] at hrun hO1
  rw [hk] at hC
  have run1 : ∀ ty, (Builtin.append_ #[34, 3] ty #[.slice A p cap, .int .i64 (k : Int)]).run Try.prog w = .ok (.slice E n1 C) W1 := by
    intro ty
    rw [← hA, ← hE]
    exact hrun ty
  obtain ⟨W2, hW2⟩ : ∃ W2, W2 = W1.setCells G (p * 7) r := ⟨_, rfl⟩
  have hHG : H ≠ G := by have := hH.lt; omega
  have hgG : g ≠ G := by have := hb.lt; omega
  have hH1 : Blk W1 H te r.toArray := hm1.blk hH (fun h => h)
  have hc1 : ∀ ty dc, (Builtin.copy_ #[34, 34] ty #[.slice E2 (n1 - p) dc, .slice (some ⟨H, 0, none⟩) 1 1]).run Try.prog W1 = .ok (goInt 1) W2 := fun ty dc => by
    rw [hE2', hW2]
    refine run_copyK (w := W1) (b := G) (o := p * 7) (dLen := n1 - p) (sLen := 1) (m := 1) eltPag (by simp only [Nat.min_def]; split <;> omega) (by rw [hr]) (fun j u hu => ?_) (fun j hj => (hO1.open_ (by omega)).1) (fun j hj => (hO1.open_ (by omega)).2) hre ty
    rw [add_addr, Nat.zero_add, hH1.cell]
    simpa using hu
  have hO2 : OwnK 7 G W2 39 (.slice (some ⟨G, 0, none⟩) n1 C) ((rows.take p ++ List.replicate k zeroPag.cells.toList).take p ++ [r] ++ (rows.take p ++ List.replicate k zeroPag.cells.toList).drop (p + [r].length)) := by
    have h5 := hO1.laid (p := p) (news := [r]) (AllK.cons hr (AllK.nil _)) (by simp; omega)
    have e5 : [r].flatten = r := by simp
    rw [e5] at h5
    rw [hW2]
    exact h5
  have hb2 : Blk W2 g 39 cur := by rw [hW2]; exact (Mod.setCells W1 G _ _).blk (hm1.blk hb (fun h => h)) hgG
  obtain ⟨W3, hW3⟩ : ∃ W3, W3 = W2.drew.setCells G (p1 * 7) (rows.drop p).flatten := ⟨_, rfl⟩
  have hc2 : ∀ ty dc sc, (Builtin.copy_ #[34, 34] ty #[.slice E1 (n1 - p1) dc, .slice A2 (n - p) sc]).run Try.prog W2.drew = .ok (goInt ((n - p : Nat) : Int)) W3 := fun ty dc sc => by
    rw [hE1', hA2', hW3]
    refine run_copyK (w := W2.drew) (b := G) (o := p1 * 7) (dLen := n1 - p1) (sLen := n - p) (m := n - p) eltPag (by simp only [Nat.min_def]; split <;> omega) hdl (fun j u hu => ?_) (fun j hj => (hO2.drew.open_ (by rw [hdl] at hj; omega)).1) (fun j hj => (hO2.drew.open_ (by rw [hdl] at hj; omega)).2) h1c ty
    rw [add_addr]
    show W2.cell? _ = _
    rw [hb2.cell]
    have h6 : j < (n - p) * 7 := by rw [← hdl]; exact (List.getElem?_eq_some_iff.1 hu).1
    rw [← flat_drop p h.1, List.getElem?_drop, ← ht, List.getElem?_take] at hu
    rw [if_pos (by omega)] at hu
    simpa using hu
  have hfin : OwnK 7 w.heap.size W3 39 (.slice E n1 C) (rows.take p ++ [r] ++ rows.drop p) ∧ Mod (fun _ => False) w W3 := by
    have h5 := hO2.drew.laid (p := p1) (h.1.drop p) (by rw [List.length_drop]; omega)
    have ek : k = n + 1 - p := by omega
    rw [← hp1, ek, insert_grown rows zeroPag.cells.toList r hrl (by omega)] at h5
    rw [← hE, hW3, ← hp1, ← hG]
    refine ⟨h5, ?_⟩
    have h6 : Mod (fun k => k = G) W1 W3 := by rw [hW3, hW2]; exact mod_setCells _ _ _ _ _ (mod_setCells _ _ _ _ _ (Mod.refl _ W1)).drew
    rw [hp1, ← hW3]
    exact hm1.trans h6 (fun i hi e => by omega)
  have Hrun := Lib.hid run1
  have Hc1 := Lib.hid hc1
  have Hc2 := Lib.hid hc2
  have Hfin := Lib.hid hfin
  have b1 : ¬ (p : Int) = (n : Int) := by omega
  have b2 : (p : Int) ≤ (n : Int) := by omega
  have b3 : (n : Int) ≤ (cap : Int) := by omega
  have b4 : (cap : Int) < (n1 : Int) := by omega
  have b5 : (n : Int) + 1 = (n1 : Int) := by omega
  have b6 : (p : Int) + 1 = (p1 : Int) := by omega
  have b7 : (n : Int) ≤ 1000000 := by omega
  have b8 : (p1 : Int) ≤ (n1 : Int) := by omega
  have b9 : (p : Int) ≤ (n1 : Int) := by omega
  have b10 : (n1 : Int) ≤ (C : Int) := by omega
  have b11 : IntKind.i64.wrap (p1 : Int) = (p1 : Int) := IntWalk.i64_in _ (by omega)
  have b12 : ¬ cap = p := by omega
  have b13 : ¬ C = p := by omega
  have b14 : ¬ C = p1 := by omega
  have b15 : (n1 : Int) - (p : Int) = (k : Int) := by omega
  have b16 : (p : Int) ≤ (C : Int) := by omega
  have b17 : (p1 : Int) ≤ (C : Int) := by omega
  have b18 : (p : Int) ≤ (cap : Int) := by omega
  have hCm2 : (C : Int) ≤ 9223372036854775807 := by unfold maxLen at hCm; omega
  rw [hA]
  clear h hone hH hr hre hp hn1 hp1 hk hroom hnm hb hB hrl hnc hc hs ht hE1' hE2' hA2' h1c hdl hC hCm hrun hO1 hm1 run1 hW2 hHG hgG hH1 hc1 hO2 hb2 hW3 hc2 hfin hA hG hE
  go_enter Try.func44, Try.ntmps44
  have hc1 := Hc1.out
  go_wp2_with (at_builtin; refine Lib.wpList_append_run w rfl (.tmp 34) (.tmp 39) 34 3 rfl (.slice A p cap) (.int .i64 (k : Int)) (by kernel_rfl) (by kernel_rfl) (.slice E n1 C) W1 (Hrun.out _) ?_)
  go_region_law (refine step_copy_run (v := .slice E1 (n1 - p1) (C - p1)) (u := .slice A2 (n - p) (cap - p)) rfl (.tmp 50) (.tmp 53) _ rfl (by kernel_rfl) (by kernel_rfl) (Hc2.out _ _ _) ?_)
  all_goals (
    go_wp2_with fail
    go_ret
    exact ⟨_, rfl, Hfin.out⟩)
/-- slices.Insert(s, p, x) -/
theorem insP_any (B n p H : Nat) (v : Value) (rows : List (List Value)) (r : List Value) (te : TypeId) (w : World) (h : OwnK 7 B w 39 v rows) (hn : rows.length = n) (hone : ∀ u ∈ rows.flatten, u.oneCell' = true) (hH : Blk w H te r.toArray) (hr : r.length = 7) (hre : ∀ u ∈ r, u.oneCell' = true)
    (hHv : v.ownBlock ≠ some H) (hp : p ≤ n) (hB : B ≤ w.heap.size) (hnm : n ≤ 1000000) :
    Calls Try.prog 44 #[v, .int .i64 (p : Int), .slice (some ⟨H, 0, none⟩) 1 1] w fun e w' =>
      ∃ v', e = .returned v' ∧ OwnK 7 B w' 39 v' (rows.take p ++ [r] ++ rows.drop p) ∧ Mod (fun k => v.ownBlock = some k) w w' ∧ ∀ k, v'.ownBlock = some k → v.ownBlock = some k ∨ w.heap.size ≤ k := by
  by_cases hpn : p = n
  · subst hpn
    have e1 : rows.take p ++ [r] ++ rows.drop p = rows ++ [r] := by rw [List.take_of_length_le (by omega), List.drop_of_length_le (by omega), List.append_nil]
    rw [e1]
    exact insP_end B p H v rows r te w h hn hH hr hre hB hnm
  · obtain ⟨g, cap, rfl, hnc, hcm, hBg, hgl⟩ := h.form' (by omega)
    rw [hn] at h ⊢
    rw [hn] at hnc
    by_cases hroom : n + 1 ≤ cap
    · refine (insP_room B g n (n + 1) p (p + 1) cap H rows r te w h hone hH hr hre (fun e => hHv (by simp [Value.ownBlock, e])) (by omega) rfl rfl hroom hnm).mono ?_
      rintro e w' ⟨rfl, h1, h2⟩
      exact ⟨_, rfl, h1, h2.mono (fun k _ e => by simp [Value.ownBlock, e]), fun k hk => .inl hk⟩
    · refine (insP_grow B g n (n + 1) p (p + 1) (n + 1 - p) cap H rows r te w h hone hH hr hre (by omega) rfl rfl (by omega) (by omega) hnm).mono ?_
      rintro e w' ⟨v', rfl, h1, h2⟩
      exact ⟨_, rfl, h1.mono hB, h2.mono (fun k _ e => e.elim), fun k hk => .inr (h1.block k hk).1⟩
end Go.Proofs.Ytcoajldhhimmoaa

/- A page leaves, comes; hands are held. -/
namespace Go.Proofs.Ytcoajldhhimmoaa
open Go.RowKit

theorem strike_len {ps : List PagN} {i : Nat} (hi : i < ps.length) : (strikeK ps i).length + 1 = ps.length := by
  unfold strikeK
  rw [List.length_append, List.length_take, List.length_drop]
  omega
theorem strike_map (ps : List PagN) (i : Nat) : (ps.map pagC).take i ++ (ps.map pagC).drop (i + 1) = (strikeK ps i).map pagC := by
  unfold strikeK
  rw [List.map_append, List.map_take, List.map_drop]
/-- The first j of the hands are set right. -/
def leftJ (c : ClkN) (i j : Nat) : ClkN :=
  { c with ps := strikeK c.ps i, hot := if 0 < j then goneK (strikeK c.ps i).length c.hot i else c.hot, cold := if 1 < j then goneK (strikeK c.ps i).length c.cold i else c.cold, test := if 2 < j then goneK (strikeK c.ps i).length c.test i else c.test }
theorem left_zero (c : ClkN) (i : Nat) : leftJ c i 0 = { c with ps := strikeK c.ps i } := rfl
theorem left_three (c : ClkN) (i : Nat) : leftJ c i 3 = goesK c i := rfl
theorem gone_up {n h i : Nat} (hi : i < h) : ((goneK n h i : Nat) : Int) = (h : Int) - 1 := by
  unfold goneK
  rw [if_pos hi]
  omega
theorem gone_last {n h i : Nat} (hi : ¬ i < h) (hn : n ≤ h) : goneK n h i = 0 := by
  unfold goneK
  rw [if_neg hi, if_pos hn]
theorem gone_not {n h i : Nat} (hi : ¬ i < h) (hn : ¬ n ≤ h) : goneK n h i = h := by
  unfold goneK
  rw [if_neg hi, if_neg hn]
set_option maxHeartbeats 4000000 in
set_option maxRecDepth 100000 in
theorem leave_any (B g : Nat) (vp : Value) (c : ClkN) (i : Nat) (w : World) (h : ClkV B g w vp c) (hb : BaseK c) (hi : i < c.ps.length) (hn : c.ps.length ≤ 100000) :
    Calls Try.prog 37 #[.pointer (some ⟨g, 0, none⟩), .int .i64 (i : Int)] w fun e w' => e = .returned (.tuple #[]) ∧ ClkTo B g w w' vp (goesK c i) := by
  obtain ⟨p, hp⟩ : ∃ p, c.ps[i]? = some p := ⟨_, List.getElem?_eq_getElem hi⟩
  obtain ⟨pg, n, cap, rfl, Hn, hnc, hcm, hin, Hpg, hne, _⟩ := h.at_ hp
  obtain ⟨q, hq⟩ : ∃ q, (strikeK c.ps i).length = q := ⟨_, rfl⟩
  have hq1 : q + 1 = n := by rw [← hq, strike_len hi, Hn.out]
  obtain ⟨_, _, y2, _, _, _⟩ := h.cells
  have b1 : (i : Int) ≤ 1000000 := by omega
  obtain ⟨i1, hi1⟩ : ∃ i1, i + 1 = i1 := ⟨_, rfl⟩
  have bw : (i : Int) + 1 = (i1 : Int) := by omega
  have Hi1 := Lib.hid hi1
  have Hdel := Lib.hid (delP_any B pg n cap i i1 q (c.ps.map pagC) w h.ps (pagC_one _) hi1 (by omega) hq1 (by have := Hn.out; omega))
  have H := Lib.hid h; have Hb := Lib.hid hb; have HN := Lib.hid hn; have Hq := Lib.hid hq; have HQ := Lib.hid hq1; have Hne := Lib.hid hne; have Hi := Lib.hid hi
  clear h hb hi hn hp hq hq1 hne hcm hnc hin hi1
  go_enter Try.func37, Try.ntmps37
  go_wp2_with fail
  refine Hdel.out.mono ?_
  rintro e w1 ⟨rfl, ho1, hm1⟩
  have hb1 := hm1.blk H.out.blk Hne.out.symm
  have x2 := hb1.cell 2
  have g2 := hb1.frozen 2
  simp [clkC] at x2
  obtain ⟨W2, hW2⟩ : ∃ W2, W2 = w1.setCell ⟨g, 2, none⟩ (.slice (some ⟨pg, 0, none⟩) q cap) := ⟨_, rfl⟩
  have hc2 : ClkV B g W2 (.slice (some ⟨pg, 0, none⟩) q cap) (leftJ c i 0) := by
    rw [hW2, left_zero]
    refine ClkV.rows hb1 ?_
    show OwnK 7 B w1 _ _ ((strikeK c.ps i).map pagC)
    rw [← strike_map, Hi1.out]
    exact ho1
  have hm2 : Mod (ClkS g (.slice (some ⟨pg, 0, none⟩) n cap)) w W2 := by
    rw [hW2]
    exact (hm1.mono (fun k _ e => .inr (by rw [e]; rfl))).setCell (p := ⟨g, 2, none⟩) (fun _ => .inl rfl) _
  have y2 := hc2.cells.2.2.1
  have HW2 := Lib.hid hW2; have Hc2 := Lib.hid hc2; have Hm2 := Lib.hid hm2
  clear hW2 hc2 hm2 hb1 ho1 hm1
  go_upto_region 1 with fail
  rw [← HW2.out]
  go_wp2_with fail
  refine (hands_any B g _ _ W2 Hc2.out).mono ?_
  rintro e w3 ⟨rfl, hm3⟩
  have i0 : ∀ w, (Instr.index 77 (.agg #[.pointer (some ⟨g, 3, none⟩), .pointer (some ⟨g, 4, none⟩), .pointer (some ⟨g, 5, none⟩)]) (.int .i64 0)).run Try.prog w = .ok (.pointer (some ⟨g, 3, none⟩)) w := fun _ => by kernel_rfl
  have i1 : ∀ w, (Instr.index 77 (.agg #[.pointer (some ⟨g, 3, none⟩), .pointer (some ⟨g, 4, none⟩), .pointer (some ⟨g, 5, none⟩)]) (.int .i64 1)).run Try.prog w = .ok (.pointer (some ⟨g, 4, none⟩)) w := fun _ => by kernel_rfl
  have i2 : ∀ w, (Instr.index 77 (.agg #[.pointer (some ⟨g, 3, none⟩), .pointer (some ⟨g, 4, none⟩), .pointer (some ⟨g, 5, none⟩)]) (.int .i64 2)).run Try.prog w = .ok (.pointer (some ⟨g, 5, none⟩)) w := fun _ => by kernel_rfl
  have Hc3 := Lib.hid (Hc2.out.new hm3)
  have Hm3 := Lib.hid (Hm2.out.trans hm3 (fun _ _ h => h.elim))
  clear hm3
  go_wp2_with fail
  go_loopg [19] 3 (fun k s19 wr => ∃ j : Nat, j + k = 3 ∧ s19 = .int .i64 (j : Int) ∧ ClkV B g wr (.slice (some ⟨pg, 0, none⟩) q cap) (leftJ c i j) ∧ Mod (fun k => k = g) w3 wr)
  case atStart => exact ⟨0, by omega, rfl, Hc3.out, Mod.refl _ _⟩
  case round =>
    obtain ⟨j, hjk, rfl, hc, hm⟩ := hrel
    have Hc := Lib.hid hc; have Hm := Lib.hid hm; have Hjk := Lib.hid hjk
    have hj : j = 0 ∨ j = 1 ∨ j = 2 ∨ j = 3 := by omega
    clear hc hm hjk
    rcases hj with rfl | rfl | rfl | rfl
    · -- hand hot
      have y2 := Hc.out.cells.2.2.1
      have y3 := Hc.out.cells.2.2.2.1
      have f3 := Hc.out.frozen 3
      simp [leftJ] at y3
      by_cases h1 : i < c.hot
      · have b1 : (i : Int) < (c.hot : Int) := by omega
        have b2 : (c.hot : Int) ≤ 1000000 := by have := Hb.out.hot; have := HN.out; omega
        have E := Lib.hid (gone_up (n := (strikeK c.ps i).length) h1)
        clear h1
        go_wp2_with fail
        go_roundg (gk - 1)
        case measure => have := Hjk.out; omega
        case rel =>
          refine ⟨1, by have := Hjk.out; omega, by go_num, ?_, Hm.out.setCell (p := ⟨g, 3, none⟩) (fun _ => rfl) _⟩
          exact Hc.out.num 3 _ (by show (clkC (leftJ c i 0) _).setIfInBounds 3 _ = clkC (leftJ c i 1) _; simp [clkC, leftJ, E.out]) rfl
      · have b1 : ¬ (i : Int) < (c.hot : Int) := by omega
        by_cases h2 : c.hot = i
        · by_cases h3 : i = q
          · have b3 : ((c.hot : Int) == (i : Int)) = true := by simp [h2]
            have b4 : ((i : Int) == (q : Int)) = true := by simp [h3]
            have E := Lib.hid (gone_last (n := (strikeK c.ps i).length) h1 (by have := Hq.out; omega))
            clear h1 h2 h3
            go_wp2_with fail
            go_roundg (gk - 1)
            case measure => have := Hjk.out; omega
            case rel =>
              refine ⟨1, by have := Hjk.out; omega, by go_num, ?_, Hm.out.setCell (p := ⟨g, 3, none⟩) (fun _ => rfl) _⟩
              exact Hc.out.num 3 _ (by show (clkC (leftJ c i 0) _).setIfInBounds 3 _ = clkC (leftJ c i 1) _; simp [clkC, leftJ, E.out]) rfl
          · have b3 : ((c.hot : Int) == (i : Int)) = true := by simp [h2]
            have b4 : ((i : Int) == (q : Int)) = false := by simp; omega
            have E := Lib.hid (gone_not (n := (strikeK c.ps i).length) h1 (by have := Hq.out; have := HQ.out; have := Hi.out; have := Hn.out; omega))
            clear h1 h2 h3
            go_wp2_with fail
            go_roundg (gk - 1)
            case measure => have := Hjk.out; omega
            case rel =>
              refine ⟨1, by have := Hjk.out; omega, by go_num, ?_, Hm.out⟩
              have h5 : leftJ c i 1 = leftJ c i 0 := by simp [leftJ, E.out]
              rw [h5]
              exact Hc.out
        · have b3 : ((c.hot : Int) == (i : Int)) = false := by simp; omega
          have E := Lib.hid (gone_not (n := (strikeK c.ps i).length) h1 (by have := Hq.out; have := HQ.out; have := Hi.out; have := Hn.out; omega))
          clear h1 h2
          go_wp2_with fail
          go_roundg (gk - 1)
          case measure => have := Hjk.out; omega
          case rel =>
            refine ⟨1, by have := Hjk.out; omega, by go_num, ?_, Hm.out⟩
            have h5 : leftJ c i 1 = leftJ c i 0 := by simp [leftJ, E.out]
            rw [h5]
            exact Hc.out
    · -- hand cold
      have y2 := Hc.out.cells.2.2.1
      have y4 := Hc.out.cells.2.2.2.2.1
      have f4 := Hc.out.frozen 4
      simp [leftJ] at y4
      by_cases h1 : i < c.cold
      · have b1 : (i : Int) < (c.cold : Int) := by omega
        have b2 : (c.cold : Int) ≤ 1000000 := by have := Hb.out.cold; have := HN.out; omega
        have E := Lib.hid (gone_up (n := (strikeK c.ps i).length) h1)
        clear h1
        go_wp2_with fail
        go_roundg (gk - 1)
        case measure => have := Hjk.out; omega
        case rel =>
          refine ⟨2, by have := Hjk.out; omega, by go_num, ?_, Hm.out.setCell (p := ⟨g, 4, none⟩) (fun _ => rfl) _⟩
          exact Hc.out.num 4 _ (by show (clkC (leftJ c i 1) _).setIfInBounds 4 _ = clkC (leftJ c i 2) _; simp [clkC, leftJ, E.out]) rfl
      · have b1 : ¬ (i : Int) < (c.cold : Int) := by omega
        by_cases h2 : c.cold = i
        · by_cases h3 : i = q
          · have b3 : ((c.cold : Int) == (i : Int)) = true := by simp [h2]
            have b4 : ((i : Int) == (q : Int)) = true := by simp [h3]
            have E := Lib.hid (gone_last (n := (strikeK c.ps i).length) h1 (by have := Hq.out; omega))
            clear h1 h2 h3
            go_wp2_with fail
            go_roundg (gk - 1)
            case measure => have := Hjk.out; omega
            case rel =>
              refine ⟨2, by have := Hjk.out; omega, by go_num, ?_, Hm.out.setCell (p := ⟨g, 4, none⟩) (fun _ => rfl) _⟩
              exact Hc.out.num 4 _ (by show (clkC (leftJ c i 1) _).setIfInBounds 4 _ = clkC (leftJ c i 2) _; simp [clkC, leftJ, E.out]) rfl
          · have b3 : ((c.cold : Int) == (i : Int)) = true := by simp [h2]
            have b4 : ((i : Int) == (q : Int)) = false := by simp; omega
            have E := Lib.hid (gone_not (n := (strikeK c.ps i).length) h1 (by have := Hq.out; have := HQ.out; have := Hi.out; have := Hn.out; omega))
            clear h1 h2 h3
            go_wp2_with fail
            go_roundg (gk - 1)
            case measure => have := Hjk.out; omega
            case rel =>
              refine ⟨2, by have := Hjk.out; omega, by go_num, ?_, Hm.out⟩
              have h5 : leftJ c i 2 = leftJ c i 1 := by simp [leftJ, E.out]
              rw [h5]
              exact Hc.out
        · have b3 : ((c.cold : Int) == (i : Int)) = false := by simp; omega
          have E := Lib.hid (gone_not (n := (strikeK c.ps i).length) h1 (by have := Hq.out; have := HQ.out; have := Hi.out; have := Hn.out; omega))
          clear h1 h2
          go_wp2_with fail
          go_roundg (gk - 1)
          case measure => have := Hjk.out; omega
          case rel =>
            refine ⟨2, by have := Hjk.out; omega, by go_num, ?_, Hm.out⟩
            have h5 : leftJ c i 2 = leftJ c i 1 := by simp [leftJ, E.out]
            rw [h5]
            exact Hc.out
    · -- hand test
      have y2 := Hc.out.cells.2.2.1
      have y5 := Hc.out.cells.2.2.2.2.2
      have f5 := Hc.out.frozen 5
      simp [leftJ] at y5
      by_cases h1 : i < c.test
      · have b1 : (i : Int) < (c.test : Int) := by omega
        have b2 : (c.test : Int) ≤ 1000000 := by have := Hb.out.test; have := HN.out; omega
        have E := Lib.hid (gone_up (n := (strikeK c.ps i).length) h1)
        clear h1
        go_wp2_with fail
        go_roundg (gk - 1)
        case measure => have := Hjk.out; omega
        case rel =>
          refine ⟨3, by have := Hjk.out; omega, by go_num, ?_, Hm.out.setCell (p := ⟨g, 5, none⟩) (fun _ => rfl) _⟩
          exact Hc.out.num 5 _ (by show (clkC (leftJ c i 2) _).setIfInBounds 5 _ = clkC (leftJ c i 3) _; simp [clkC, leftJ, E.out]) rfl
      · have b1 : ¬ (i : Int) < (c.test : Int) := by omega
        by_cases h2 : c.test = i
        · by_cases h3 : i = q
          · have b3 : ((c.test : Int) == (i : Int)) = true := by simp [h2]
            have b4 : ((i : Int) == (q : Int)) = true := by simp [h3]
            have E := Lib.hid (gone_last (n := (strikeK c.ps i).length) h1 (by have := Hq.out; omega))
            clear h1 h2 h3
            go_wp2_with fail
            go_roundg (gk - 1)
            case measure => have := Hjk.out; omega
            case rel =>
              refine ⟨3, by have := Hjk.out; omega, by go_num, ?_, Hm.out.setCell (p := ⟨g, 5, none⟩) (fun _ => rfl) _⟩
              exact Hc.out.num 5 _ (by show (clkC (leftJ c i 2) _).setIfInBounds 5 _ = clkC (leftJ c i 3) _; simp [clkC, leftJ, E.out]) rfl
          · have b3 : ((c.test : Int) == (i : Int)) = true := by simp [h2]
            have b4 : ((i : Int) == (q : Int)) = false := by simp; omega
            have E := Lib.hid (gone_not (n := (strikeK c.ps i).length) h1 (by have := Hq.out; have := HQ.out; have := Hi.out; have := Hn.out; omega))
            clear h1 h2 h3
            go_wp2_with fail
            go_roundg (gk - 1)
            case measure => have := Hjk.out; omega
            case rel =>
              refine ⟨3, by have := Hjk.out; omega, by go_num, ?_, Hm.out⟩
              have h5 : leftJ c i 3 = leftJ c i 2 := by simp [leftJ, E.out]
              rw [h5]
              exact Hc.out
        · have b3 : ((c.test : Int) == (i : Int)) = false := by simp; omega
          have E := Lib.hid (gone_not (n := (strikeK c.ps i).length) h1 (by have := Hq.out; have := HQ.out; have := Hi.out; have := Hn.out; omega))
          clear h1 h2
          go_wp2_with fail
          go_roundg (gk - 1)
          case measure => have := Hjk.out; omega
          case rel =>
            refine ⟨3, by have := Hjk.out; omega, by go_num, ?_, Hm.out⟩
            have h5 : leftJ c i 3 = leftJ c i 2 := by simp [leftJ, E.out]
            rw [h5]
            exact Hc.out
    · go_wp2_with fail
      go_end0
      refine ⟨rfl, .slice (some ⟨pg, 0, none⟩) q cap, by rw [← left_three]; exact Hc.out, Hm3.out.trans Hm.out (fun _ _ h => .inl h), fun k hk => .inl hk⟩
end Go.Proofs.Ytcoajldhhimmoaa

/- A page's test ends; hands are held; a page comes. -/
namespace Go.Proofs.Ytcoajldhhimmoaa
open Go.RowKit

set_option maxHeartbeats 1000000 in
set_option maxRecDepth 100000 in
theorem expire_any (B g : Nat) (vp : Value) (c : ClkN) (i : Nat) (w : World) (h : ClkV B g w vp c) (hb : BaseK c) (hi : i < c.ps.length) (hn : c.ps.length ≤ 100000) :
    Calls Try.prog 60 #[.pointer (some ⟨g, 0, none⟩), .int .i64 (i : Int)] w fun e w' => e = .returned (.tuple #[]) ∧ ClkTo B g w w' vp (aimK (goesK c i) (-1)) := by
  have Hg := Lib.hid (goes_base hb (List.getElem?_eq_getElem hi))
  have Hl := Lib.hid (leave_any B g vp c i w h hb hi hn)
  clear h hb hi hn
  go_enter Try.func60, Try.ntmps60
  go_wp2_with fail
  refine Hl.out.mono ?_
  rintro e w1 ⟨rfl, vp1, h1, h2, h3⟩
  have H1 := Lib.hid h1; have H2 := Lib.hid h2; have H3 := Lib.hid h3
  clear h1 h2 h3
  go_wp2_with fail
  refine (aim_any B g vp1 _ (-1) w1 H1.out Hg.out (by omega)).mono ?_
  rintro e w2 ⟨rfl, ht⟩
  have Ht := Lib.hid ht
  clear ht
  go_wp2_with fail
  go_end0
  exact ⟨rfl, ClkTo.step H2.out H3.out Ht.out⟩
theorem aim_none {c : ClkN} (hb : BaseK c) : aimK c 0 = c := by
  have h1 := hb.most
  have h2 := hb.target
  have e : min (max (c.target + 0) 1) c.most = c.target := by omega
  show { c with target := min (max (c.target + 0) 1) c.most } = c
  rw [e]
set_option maxHeartbeats 4000000 in
set_option maxRecDepth 100000 in
theorem hold_any (B g : Nat) (vp : Value) (c : ClkN) (w : World) (h : ClkV B g w vp c) (hb : BaseK c) (hn : c.ps.length ≤ 100000) :
    Calls Try.prog 30 #[.pointer (some ⟨g, 0, none⟩)] w fun e w' => e = .returned (.tuple #[]) ∧ ClkTo B g w w' vp c := by
  have Ha := Lib.hid (aim_any B g vp c 0 w h hb (by omega))
  have Hb := Lib.hid hb; have Hn := Lib.hid hn
  clear h hb hn
  go_enter Try.func30, Try.ntmps30
  go_wp2_with fail
  refine Ha.out.mono ?_
  rw [aim_none Hb.out]
  rintro e w1 ⟨rfl, vp1, h1, h2, h3⟩
  have H1 := Lib.hid h1; have H2 := Lib.hid h2; have H3 := Lib.hid h3
  clear h1 h2 h3
  go_wp2_with fail
  refine (hands_any B g vp1 c w1 H1.out).mono ?_
  rintro e w3 ⟨rfl, hm3⟩
  have Hc3 := Lib.hid (H1.out.new hm3)
  have Hm3 := Lib.hid (H2.out.trans hm3 (fun _ _ h => h.elim))
  clear hm3
  obtain ⟨A, n, cap, rfl, Hnn, hnc, hcm, _⟩ := Hc3.out.form
  have i0 : ∀ w, (Instr.index 77 (.agg #[.pointer (some ⟨g, 3, none⟩), .pointer (some ⟨g, 4, none⟩), .pointer (some ⟨g, 5, none⟩)]) (.int .i64 0)).run Try.prog w = .ok (.pointer (some ⟨g, 3, none⟩)) w := fun _ => by kernel_rfl
  have i1 : ∀ w, (Instr.index 77 (.agg #[.pointer (some ⟨g, 3, none⟩), .pointer (some ⟨g, 4, none⟩), .pointer (some ⟨g, 5, none⟩)]) (.int .i64 1)).run Try.prog w = .ok (.pointer (some ⟨g, 4, none⟩)) w := fun _ => by kernel_rfl
  have i2 : ∀ w, (Instr.index 77 (.agg #[.pointer (some ⟨g, 3, none⟩), .pointer (some ⟨g, 4, none⟩), .pointer (some ⟨g, 5, none⟩)]) (.int .i64 2)).run Try.prog w = .ok (.pointer (some ⟨g, 5, none⟩)) w := fun _ => by kernel_rfl
  go_wp2_with fail
  go_loopg [8] 3 (fun k s8 wr => ∃ j : Nat, j + k = 3 ∧ s8 = .int .i64 (j : Int) ∧ ClkV B g wr (.slice A n cap) c ∧ Mod (fun k => k = g) w3 wr)
  case atStart => exact ⟨0, by omega, rfl, Hc3.out, Mod.refl _ _⟩
  case round =>
    obtain ⟨j, hjk, rfl, hc, hm⟩ := hrel
    have Hc := Lib.hid hc; have Hm := Lib.hid hm; have Hjk := Lib.hid hjk
    have hj : j = 0 ∨ j = 1 ∨ j = 2 ∨ j = 3 := by omega
    clear hc hm hjk
    rcases hj with rfl | rfl | rfl | rfl
    · -- hand hot
      have y2 := Hc.out.cells.2.2.1
      have y3 := Hc.out.cells.2.2.2.1
      have f3 := Hc.out.frozen 3
      have d1 : decide ((c.hot : Int) < 0) = false := decide_eq_false (by omega)
      by_cases h0 : n = 0
      · have hz : c.hot = 0 := by have := Hb.out.hot; have := Hnn.out; omega
        have d2 : decide ((n : Int) ≤ (c.hot : Int)) = true := decide_eq_true (by omega)
        have d3 : decide (n ≤ c.hot) = true := decide_eq_true (by omega)
        have Hz := Lib.hid hz
        clear hz h0
        go_upto_region 4 with fail
        go_quiet (fail)
        go_wp2_with fail
        go_roundg (gk - 1)
        case measure => have := Hjk.out; omega
        case rel =>
          refine ⟨1, by have := Hjk.out; omega, by go_num, ?_, (Hm.out.drewN _).setCell (p := ⟨g, 3, none⟩) (fun _ => rfl) _⟩
          exact (Hc.out.drewN _).num 3 (.int .i64 0) (by simp [clkC, Hz.out]) rfl
      · have d2 : decide ((n : Int) ≤ (c.hot : Int)) = false := decide_eq_false (by have := Hb.out.hot; have := Hnn.out; omega)
        have d3 : decide (n ≤ c.hot) = false := decide_eq_false (by have := Hb.out.hot; have := Hnn.out; omega)
        clear h0
        go_upto_region 4 with fail
        go_quiet (fail)
        go_wp2_with fail
        go_roundg (gk - 1)
        case measure => have := Hjk.out; omega
        case rel => exact ⟨1, by have := Hjk.out; omega, by go_num, Hc.out.drewN _, Hm.out.drewN _⟩
    · -- hand cold
      have y2 := Hc.out.cells.2.2.1
      have y4 := Hc.out.cells.2.2.2.2.1
      have f4 := Hc.out.frozen 4
      have d1 : decide ((c.cold : Int) < 0) = false := decide_eq_false (by omega)
      by_cases h0 : n = 0
      · have hz : c.cold = 0 := by have := Hb.out.cold; have := Hnn.out; omega
        have d2 : decide ((n : Int) ≤ (c.cold : Int)) = true := decide_eq_true (by omega)
        have d3 : decide (n ≤ c.cold) = true := decide_eq_true (by omega)
        have Hz := Lib.hid hz
        clear hz h0
        go_upto_region 4 with fail
        go_quiet (fail)
        go_wp2_with fail
        go_roundg (gk - 1)
        case measure => have := Hjk.out; omega
        case rel =>
          refine ⟨2, by have := Hjk.out; omega, by go_num, ?_, (Hm.out.drewN _).setCell (p := ⟨g, 4, none⟩) (fun _ => rfl) _⟩
          exact (Hc.out.drewN _).num 4 (.int .i64 0) (by simp [clkC, Hz.out]) rfl
      · have d2 : decide ((n : Int) ≤ (c.cold : Int)) = false := decide_eq_false (by have := Hb.out.cold; have := Hnn.out; omega)
        have d3 : decide (n ≤ c.cold) = false := decide_eq_false (by have := Hb.out.cold; have := Hnn.out; omega)
        clear h0
        go_upto_region 4 with fail
        go_quiet (fail)
        go_wp2_with fail
        go_roundg (gk - 1)
        case measure => have := Hjk.out; omega
        case rel => exact ⟨2, by have := Hjk.out; omega, by go_num, Hc.out.drewN _, Hm.out.drewN _⟩
    · -- hand test
      have y2 := Hc.out.cells.2.2.1
      have y5 := Hc.out.cells.2.2.2.2.2
      have f5 := Hc.out.frozen 5
      have d1 : decide ((c.test : Int) < 0) = false := decide_eq_false (by omega)
      by_cases h0 : n = 0
      · have hz : c.test = 0 := by have := Hb.out.test; have := Hnn.out; omega
        have d2 : decide ((n : Int) ≤ (c.test : Int)) = true := decide_eq_true (by omega)
        have d3 : decide (n ≤ c.test) = true := decide_eq_true (by omega)
        have Hz := Lib.hid hz
        clear hz h0
        go_upto_region 4 with fail
        go_quiet (fail)
        go_wp2_with fail
        go_roundg (gk - 1)
        case measure => have := Hjk.out; omega
        case rel =>
          refine ⟨3, by have := Hjk.out; omega, by go_num, ?_, (Hm.out.drewN _).setCell (p := ⟨g, 5, none⟩) (fun _ => rfl) _⟩
          exact (Hc.out.drewN _).num 5 (.int .i64 0) (by simp [clkC, Hz.out]) rfl
      · have d2 : decide ((n : Int) ≤ (c.test : Int)) = false := decide_eq_false (by have := Hb.out.test; have := Hnn.out; omega)
        have d3 : decide (n ≤ c.test) = false := decide_eq_false (by have := Hb.out.test; have := Hnn.out; omega)
        clear h0
        go_upto_region 4 with fail
        go_quiet (fail)
        go_wp2_with fail
        go_roundg (gk - 1)
        case measure => have := Hjk.out; omega
        case rel => exact ⟨3, by have := Hjk.out; omega, by go_num, Hc.out.drewN _, Hm.out.drewN _⟩
    · go_wp2_with fail
      go_end0
      refine ⟨rfl, .slice A n cap, Hc.out, Hm3.out.trans Hm.out (fun _ _ h => .inl h), fun k hk => H3.out k hk⟩
end Go.Proofs.Ytcoajldhhimmoaa

/- A page comes. -/
namespace Go.Proofs.Ytcoajldhhimmoaa
open Go.RowKit

/-- The first j of the hands have gone on. -/
def camJ (c : ClkN) (j : Nat) : ClkN :=
  { c with hot := if 0 < j then c.hot + 1 else c.hot, cold := if 1 < j then (if c.hot ≤ c.cold then c.cold + 1 else c.cold) else c.cold, test := if 2 < j then (if c.hot ≤ c.test then c.test + 1 else c.test) else c.test }
theorem cam_three {c : ClkN} (h : c.ps ≠ []) (p : PagN) : { camJ c 3 with ps := c.ps.take c.hot ++ p :: c.ps.drop c.hot } = comeK c p := by
  unfold comeK
  rw [if_neg h]
  rfl
theorem cam_none {c : ClkN} (hb : BaseK c) (h : c.ps = []) (p : PagN) : { c with ps := c.ps.take c.hot ++ p :: c.ps.drop c.hot } = comeK c p := by
  have h1 := hb.hot
  have h2 := hb.cold
  have h3 := hb.test
  unfold comeK
  rw [if_pos h]
  rw [h] at h1 h2 h3 ⊢
  simp only [List.length_nil] at h1 h2 h3
  have e1 : c.hot = 0 := by omega
  have e2 : c.cold = 0 := by omega
  have e3 : c.test = 0 := by omega
  simp [e1, e2, e3]
/-- The row with one more, laid in by the code's Insert. -/
theorem ins_page (B g H0 : Nat) (A : Option Addr) (n cap : Nat) (c : ClkN) (p : PagN) (k : Nat) (w : World) (h : ClkV B g w (.slice A n cap) c) (hn : c.ps.length = n) (hk : k ≤ n) (hnm : n ≤ 100000) (hB : B ≤ w.heap.size) (_hH : H0 < w.heap.size) :
    Calls Try.prog 44 #[.slice A n cap, .int .i64 (k : Int), .slice (some ⟨w.heap.size, 0, none⟩) 1 1] (w.alloc (.cells #[.int .i64 p.key.s, .int .i64 p.key.l, .int .i64 p.key.b, .int .i64 p.kind, .bool p.ref, .bool p.trial, .int .i64 p.pins] 39)).drew fun e w' =>
      ∃ A' L' c', e = .returned (.slice A' L' c') ∧ OwnP B w' 39 (.slice A' L' c') (c.ps.take k ++ p :: c.ps.drop k) ∧ Mod (fun j => (Value.slice A n cap).ownBlock = some j) w w' ∧ Blk w' g 36 (clkC c (.slice A n cap)) ∧
        ∀ j, (Value.slice A' L' c').ownBlock = some j → (Value.slice A n cap).ownBlock = some j ∨ w.heap.size ≤ j := by
  have ho : OwnK 7 B w 39 (.slice A n cap) (c.ps.map pagC) := h.ps
  refine (insP_any B n k w.heap.size (.slice A n cap) (c.ps.map pagC) [.int .i64 p.key.s, .int .i64 p.key.l, .int .i64 p.key.b, .int .i64 p.kind, .bool p.ref, .bool p.trial, .int .i64 p.pins] 39 _ (OwnK.drew (ho.alloc _)) (by rw [List.length_map]; exact hn) (pagC_one _) (Blk.drew (Blk.new w _ _)) rfl (by intro u hu; simp at hu; rcases hu with rfl | rfl | rfl | rfl | rfl | rfl | rfl <;> rfl) (fun e => by have := (ho.block _ e).2; omega) hk (by show B ≤ (w.alloc _).heap.size; simp; omega) (by omega)).mono ?_
  rintro e w' ⟨v', rfl, h1, h2, h3⟩
  have h4 : Mod (fun j => (Value.slice A n cap).ownBlock = some j) w w' := (((Mod.refl _ w).alloc _).drew).trans h2 (fun i _ h => h)
  obtain ⟨A', L', c', e', _⟩ := h1.formN
  subst e'
  refine ⟨A', L', c', rfl, ?_, h4, h4.blk h.blk (fun e => h.ne e), fun j hj => (h3 j hj).imp id (fun h => ?_)⟩
  · unfold OwnP
    rw [List.map_append, List.map_cons, List.map_take, List.map_drop]
    have e5 : (c.ps.map pagC).take k ++ [[.int .i64 p.key.s, .int .i64 p.key.l, .int .i64 p.key.b, .int .i64 p.kind, .bool p.ref, .bool p.trial, .int .i64 p.pins]] ++ (c.ps.map pagC).drop k = (c.ps.map pagC).take k ++ pagC p :: (c.ps.map pagC).drop k := by simp [pagC]
    rw [← e5]
    exact h1
  · have : (w.alloc (.cells #[.int .i64 p.key.s, .int .i64 p.key.l, .int .i64 p.key.b, .int .i64 p.kind, .bool p.ref, .bool p.trial, .int .i64 p.pins] 39)).drew.heap.size = w.heap.size + 1 := by show (w.alloc _).heap.size = _; simp
    omega
set_option maxHeartbeats 4000000 in
set_option maxRecDepth 100000 in
theorem come_any (B g : Nat) (vp : Value) (c : ClkN) (p : PagN) (w : World) (h : ClkV B g w vp c) (hb : BaseK c) (hn : c.ps.length ≤ 100000) (hB : B ≤ w.heap.size) :
    Calls Try.prog 33 #[.pointer (some ⟨g, 0, none⟩), pagV p] w fun e w' => e = .returned (.tuple #[]) ∧ ClkTo B g w w' vp (comeK c p) := by
  obtain ⟨A, n, cap, rfl, Hnn, hnc, hcm, _⟩ := h.form
  obtain ⟨⟨s, l, b⟩, kd, rf, tr, pn⟩ := p
  unfold pagV
  dsimp only
  obtain ⟨W, hW, hmW, hbW, hzW⟩ := Blk.boxed w 39 #[.int .i64 s, .int .i64 l, .int .i64 b, .int .i64 kd, .bool rf, .bool tr, .int .i64 pn]
  obtain ⟨H0, hH0⟩ : ∃ g, g = w.heap.size := ⟨_, rfl⟩
  rw [← hH0] at hbW
  have Hc := Lib.hid (h.new hmW)
  have y2 := Hc.out.cells.2.2.1
  have y3 := Hc.out.cells.2.2.2.1
  have hgw := h.blk.lt
  have hne0 : H0 ≠ g := by omega
  have Hpg : Hid (∀ k, (Value.slice A n cap).ownBlock = some k → k < w.heap.size) := Lib.hid (fun k hk => (h.lt k hk).2)
  have HW := Lib.hid hW; have HmW := Lib.hid hmW; have HbW := Lib.hid hbW; have HzW := Lib.hid hzW; have HH0 := Lib.hid hH0
  have Hb := Lib.hid hb; have Hn := Lib.hid hn; have HB := Lib.hid hB; have Hne0 := Lib.hid hne0; have Hgw := Lib.hid hgw
  clear hW hmW hbW hzW hH0 hb hn h hB hne0 hgw
  have i0 : ∀ w, (Instr.index 77 (.agg #[.pointer (some ⟨g, 3, none⟩), .pointer (some ⟨g, 4, none⟩), .pointer (some ⟨g, 5, none⟩)]) (.int .i64 0)).run Try.prog w = .ok (.pointer (some ⟨g, 3, none⟩)) w := fun _ => by kernel_rfl
  have i1 : ∀ w, (Instr.index 77 (.agg #[.pointer (some ⟨g, 3, none⟩), .pointer (some ⟨g, 4, none⟩), .pointer (some ⟨g, 5, none⟩)]) (.int .i64 1)).run Try.prog w = .ok (.pointer (some ⟨g, 4, none⟩)) w := fun _ => by kernel_rfl
  have i2 : ∀ w, (Instr.index 77 (.agg #[.pointer (some ⟨g, 3, none⟩), .pointer (some ⟨g, 4, none⟩), .pointer (some ⟨g, 5, none⟩)]) (.int .i64 2)).run Try.prog w = .ok (.pointer (some ⟨g, 5, none⟩)) w := fun _ => by kernel_rfl
  go_enter Try.func33, Try.ntmps33
  go_upto_region 1 with fail
  rw [← HW.out, ← HH0.out]
  by_cases h0 : n = 0
  · subst h0
    have he : c.ps = [] := List.eq_nil_of_length_eq_zero Hnn.out
    have Hfin := Lib.hid (cam_none Hb.out he ⟨⟨s, l, b⟩, kd, rf, tr, pn⟩)
    clear he
    have hbp := HbW.out
    have p0 := hbp.cell 0
    have p1 := hbp.cell 1
    have p2 := hbp.cell 2
    have p3 := hbp.cell 3
    have p4 := hbp.cell 4
    have p5 := hbp.cell 5
    have p6 := hbp.cell 6
    simp at p0 p1 p2 p3 p4 p5 p6
    have x2 := Hc.out.cells.2.2.1
    have x2a : ∀ o, (W.alloc o).cell? ⟨g, 2, none⟩ = some (.slice A 0 cap) := fun o => by have := (Hc.out.blk.alloc o).cell 2; exact this
    have Hins := Lib.hid (ins_page B g H0 A 0 cap c ⟨⟨s, l, b⟩, kd, rf, tr, pn⟩ c.hot W Hc.out Hnn.out (by have := Hb.out.hot; have := Hnn.out; omega) (by have := Hn.out; have := Hnn.out; omega) (by have := HB.out; have := HmW.out.size; have := (HmW.out.mono (S' := ClkS g (.slice A 0 cap)) (fun _ _ h => h.elim)).size; omega) hbp.lt)
    have HM := Lib.hid (HmW.out.mono (S' := ClkS g (.slice A 0 cap)) (fun _ _ h => h.elim))
    clear hbp
    go_upto_region 9 with fail
    go_region_with (first
      | (go_at_call 44; refine Hins.out.mono ?_; rintro e w2 ⟨A', L', c', rfl, h1, h2, h3, h4⟩; have H1 := Lib.hid h1; have H2 := Lib.hid h2; have H3 := Lib.hid h3; have H4 := Lib.hid h4; have q0 := h3.cell 2; have f0 := h3.frozen 2; simp [clkC] at q0; clear h1 h2 h3 h4))
    all_goals (
      go_wp2_with fail
      go_end0
      refine ⟨rfl, .slice A' L' c', ?_, ?_, fun k hk => ?_⟩
      · rw [← Hfin.out]
        exact ClkV.rows H3.out H1.out
      · exact ((HM.out.trans H2.out (fun _ _ h => .inr h)).setCell (p := ⟨g, 2, none⟩) (fun _ => .inl rfl) _)
      · exact (H4.out k hk).imp id (fun h => by have := HM.out.size; omega))
  · have hne : c.ps ≠ [] := fun e => h0 (by rw [← Hnn.out, e]; rfl)
    have Hfin := Lib.hid (cam_three hne ⟨⟨s, l, b⟩, kd, rf, tr, pn⟩)
    have b0 : (0 : Int) < (n : Int) := by omega
    have bh : (c.hot : Int) ≤ 1000000 := by have := Hb.out.hot; have := Hn.out; omega
    have bc : (c.cold : Int) ≤ 1000000 := by have := Hb.out.cold; have := Hn.out; omega
    have bt : (c.test : Int) ≤ 1000000 := by have := Hb.out.test; have := Hn.out; omega
    clear hne h0
    go_wp2_with fail
    refine (hands_any B g _ c W Hc.out).mono ?_
    rintro e w3 ⟨rfl, hm3⟩
    have Hc3 := Lib.hid (Hc.out.new hm3)
    have Hb3 := Lib.hid (hm3.blk HbW.out (fun h => h))
    have Hm3 := Lib.hid (HmW.out.trans hm3 (fun _ _ h => h))
    clear hm3
    go_wp2_with fail
    go_loopg [19] 3 (fun k s19 wr => ∃ j : Nat, j + k = 3 ∧ s19 = .int .i64 (j : Int) ∧ ClkV B g wr (.slice A n cap) (camJ c j) ∧ Mod (fun k => k = g) w3 wr)
    case atStart => exact ⟨0, by omega, rfl, Hc3.out, Mod.refl _ _⟩
    case round =>
      obtain ⟨j, hjk, rfl, hc, hm⟩ := hrel
      have HC := Lib.hid hc; have Hm := Lib.hid hm; have Hjk := Lib.hid hjk
      have hj : j = 0 ∨ j = 1 ∨ j = 2 ∨ j = 3 := by omega
      clear hc hm hjk
      rcases hj with rfl | rfl | rfl | rfl
      · -- hand hot
        have y3 := HC.out.cells.2.2.2.1
        have f3 := HC.out.frozen 3
        simp [camJ] at y3
        go_wp2_with fail
        go_roundg (gk - 1)
        case measure => have := Hjk.out; omega
        case rel =>
          refine ⟨1, by have := Hjk.out; omega, by go_num, ?_, Hm.out.setCell (p := ⟨g, 3, none⟩) (fun _ => rfl) _⟩
          exact HC.out.num 3 _ (by show (clkC (camJ c 0) _).setIfInBounds 3 _ = clkC (camJ c 1) _; simp [clkC, camJ]) rfl
      · -- hand cold
        have y4 := HC.out.cells.2.2.2.2.1
        have f4 := HC.out.frozen 4
        simp [camJ] at y4
        by_cases h1 : c.hot ≤ c.cold
        · have Hge := Lib.hid h1
          have b1 : (c.hot : Int) ≤ (c.cold : Int) := by omega
          clear h1
          go_wp2_with fail
          go_roundg (gk - 1)
          case measure => have := Hjk.out; omega
          case rel =>
            refine ⟨2, by have := Hjk.out; omega, by go_num, ?_, Hm.out.setCell (p := ⟨g, 4, none⟩) (fun _ => rfl) _⟩
            exact HC.out.num 4 _ (by have := Hge.out; show (clkC (camJ c 1) _).setIfInBounds 4 _ = clkC (camJ c 2) _; simp [clkC, camJ, this]) rfl
        · have Hge := Lib.hid h1
          have b1 : ¬ (c.hot : Int) ≤ (c.cold : Int) := by omega
          clear h1
          go_wp2_with fail
          go_roundg (gk - 1)
          case measure => have := Hjk.out; omega
          case rel =>
            refine ⟨2, by have := Hjk.out; omega, by go_num, ?_, Hm.out⟩
            have h5 : camJ c 2 = camJ c 1 := by have := Hge.out; simp [camJ, this]
            rw [h5]
            exact HC.out
      · -- hand test
        have y5 := HC.out.cells.2.2.2.2.2
        have f5 := HC.out.frozen 5
        simp [camJ] at y5
        by_cases h1 : c.hot ≤ c.test
        · have Hge := Lib.hid h1
          have b1 : (c.hot : Int) ≤ (c.test : Int) := by omega
          clear h1
          go_wp2_with fail
          go_roundg (gk - 1)
          case measure => have := Hjk.out; omega
          case rel =>
            refine ⟨3, by have := Hjk.out; omega, by go_num, ?_, Hm.out.setCell (p := ⟨g, 5, none⟩) (fun _ => rfl) _⟩
            exact HC.out.num 5 _ (by have := Hge.out; show (clkC (camJ c 2) _).setIfInBounds 5 _ = clkC (camJ c 3) _; simp [clkC, camJ, this]) rfl
        · have Hge := Lib.hid h1
          have b1 : ¬ (c.hot : Int) ≤ (c.test : Int) := by omega
          clear h1
          go_wp2_with fail
          go_roundg (gk - 1)
          case measure => have := Hjk.out; omega
          case rel =>
            refine ⟨3, by have := Hjk.out; omega, by go_num, ?_, Hm.out⟩
            have h5 : camJ c 3 = camJ c 2 := by have := Hge.out; simp [camJ, this]
            rw [h5]
            exact HC.out
      · have HmC := Lib.hid ((Hm3.out.mono (S' := ClkS g (.slice A n cap)) (fun _ _ h => h.elim)).trans Hm.out (fun _ _ h => .inl h))
        have hbp := (Hm.out.blk Hb3.out (fun h => Hne0.out h))
        have p0 := hbp.cell 0
        have p1 := hbp.cell 1
        have p2 := hbp.cell 2
        have p3 := hbp.cell 3
        have p4 := hbp.cell 4
        have p5 := hbp.cell 5
        have p6 := hbp.cell 6
        simp at p0 p1 p2 p3 p4 p5 p6
        have x2 := HC.out.cells.2.2.1
        have x2a : ∀ o, (wr.alloc o).cell? ⟨g, 2, none⟩ = some (.slice A n cap) := fun o => by have := (HC.out.blk.alloc o).cell 2; exact this
        have Hins := Lib.hid (ins_page B g H0 A n cap (camJ c 3) ⟨⟨s, l, b⟩, kd, rf, tr, pn⟩ c.hot wr HC.out Hnn.out (by have := Hb.out.hot; have := Hnn.out; omega) (by have := Hn.out; have := Hnn.out; omega) (by have := HB.out; have := HmW.out.size; have := HmC.out.size; omega) hbp.lt)
        have HM := Lib.hid HmC.out
        clear hbp
        go_upto_region 9 with fail
        go_region_with (first
          | (go_at_call 44; refine Hins.out.mono ?_; rintro e w2 ⟨A', L', c', rfl, h1, h2, h3, h4⟩; have H1 := Lib.hid h1; have H2 := Lib.hid h2; have H3 := Lib.hid h3; have H4 := Lib.hid h4; have q0 := h3.cell 2; have f0 := h3.frozen 2; simp [clkC] at q0; clear h1 h2 h3 h4))
        all_goals (
          go_wp2_with fail
          go_end0
          refine ⟨rfl, .slice A' L' c', ?_, ?_, fun k hk => ?_⟩
          · rw [← Hfin.out]
            exact ClkV.rows H3.out H1.out
          · exact ((HM.out.trans H2.out (fun _ _ h => .inr h)).setCell (p := ⟨g, 2, none⟩) (fun _ => .inl rfl) _)
          · exact (H4.out k hk).imp id (fun h => by have := HM.out.size; omega))
end Go.Proofs.Ytcoajldhhimmoaa

/- The hand Hot, the hand Test: one look, and a turn. -/
namespace Go.Proofs.Ytcoajldhhimmoaa
open Go.RowKit

section
variable {B g pg n cap i : Nat} {w : World} {c : ClkN} {p : PagN}
/-- The i-th page's cells, where it is known where they lie. -/
theorem ClkV.page_ (h : ClkV B g w (.slice (some ⟨pg, 0, none⟩) n cap) c) (hp : c.ps[i]? = some p) :
    w.cell? ⟨pg, i * 7, none⟩ = some (.int .i64 p.key.s) ∧ w.cell? ⟨pg, i * 7 + 1, none⟩ = some (.int .i64 p.key.l) ∧ w.cell? ⟨pg, i * 7 + 2, none⟩ = some (.int .i64 p.key.b) ∧ w.cell? ⟨pg, i * 7 + 3, none⟩ = some (.int .i64 p.kind) ∧
    w.cell? ⟨pg, i * 7 + 4, none⟩ = some (.bool p.ref) ∧ w.cell? ⟨pg, i * 7 + 5, none⟩ = some (.bool p.trial) ∧ w.cell? ⟨pg, i * 7 + 6, none⟩ = some (.int .i64 p.pins) ∧ ∀ j, w.frozen? ⟨pg, j, none⟩ = false := by
  obtain ⟨pg', n', cap', e, _, _, _, _, _, _, x0, x1, x2, x3, x4, x5, x6, f⟩ := h.at_ hp
  injection e with e1 e2 e3
  injection e1 with e1
  injection e1 with e1
  subst e1
  exact ⟨x0, x1, x2, x3, x4, x5, x6, f⟩
end
theorem isHot_is (p : PagN) (b : Bool) (h : isHot p = b) (w : World) : Calls Try.prog 45 #[pagV p] w fun e w' => e = .returned (.bool b) ∧ Mod (fun _ => False) w w' := h ▸ isHot_any p w
theorem isTest_is (p : PagN) (b : Bool) (h : isTest p = b) (w : World) : Calls Try.prog 42 #[pagV p] w fun e w' => e = .returned (.bool b) ∧ Mod (fun _ => False) w w' := h ▸ isTest_any p w
theorem isFreeC_is (p : PagN) (b : Bool) (h : isFreeC p = b) (w : World) : Calls Try.prog 58 #[pagV p] w fun e w' => e = .returned (.bool b) ∧ Mod (fun _ => False) w w' := h ▸ isFreeC_any p w
set_option maxHeartbeats 4000000 in
set_option maxRecDepth 100000 in
theorem lookHot_any (B g : Nat) (vp : Value) (c : ClkN) (w : World) (h : ClkV B g w vp c) (hb : BaseK c) (hc : cntK 1 c.ps ≠ 0) (hn : c.ps.length ≤ 100000) :
    Calls Try.prog 56 #[.pointer (some ⟨g, 0, none⟩)] w fun e w' => ∃ c' b, hotF (c, false) = some (c', b) ∧ e = .returned (.bool b) ∧ ClkTo B g w w' vp c' := by
  obtain ⟨p, hp, hok, hlt⟩ := hb.hot_at hc
  obtain ⟨pg, n, cap, rfl, Hnn, hnc, hcm, hin, Hpg, hne, x0, x1, x2, x3, x4, x5, x6, fz⟩ := h.at_ hp
  have y2 := h.cells.2.2.1
  have y3 := h.cells.2.2.2.1
  have hat7 : (⟨pg, 0, none⟩ : Addr).add (c.hot * 7) = ⟨pg, c.hot * 7, none⟩ := by rw [add_addr, Nat.zero_add]
  have hin' : (c.hot : Int) < (n : Int) := by omega
  have Hc := Lib.hid h; have Hb := Lib.hid hb; have Hn := Lib.hid hn; have Hp := Lib.hid hp; have Hne := Lib.hid hne; have Hok := Lib.hid hok; have Hlt := Lib.hid hlt
  have Hhc := Lib.hid hc
  have Mw : Hid (Mod (fun _ => False) w w) := Lib.hid (Mod.refl _ _)
  clear hc h hb hn hp hne hok hlt hnc hcm hin
  obtain ⟨⟨s, l, b⟩, kd, rf, tr, pn⟩ := p
  simp only at x0 x1 x2 x3 x4 x5 x6
  have yh := y3
  clear y3
  go_enter Try.func56, Try.ntmps56
  go_upto_region 1 with fail
  go_region
  have Hc0 := Lib.hid Hc.out.drew
  have Mw0 : Hid (Mod (fun _ => False) w w.drew) := Lib.hid (Mod.refl _ _).drew
  obtain ⟨wa, hwa⟩ : ∃ wa, wa = w.drew := ⟨_, rfl⟩
  rw [← hwa] at Hc0 Mw0 ⊢
  have Mwa := Mw0
  clear hwa Mw0 Mw x0 x1 x2 x3 x4 x5 x6 y2 yh fz
  obtain ⟨x0, x1, x2, x3, x4, x5, x6, fz⟩ := Hc0.out.page_ Hp.out
  have y2 := Hc0.out.cells.2.2.1
  have yh := Hc0.out.cells.2.2.2.1
  simp only at x0 x1 x2 x3 x4 x5 x6
  have hkd := Hok.out.1
  simp only at hkd
  rcases hkd with rfl | rfl | rfl
  · cases rf with
    | true =>
      go_wp2_with fail
      clear x0 x1 x2 x3 x4 x5 x6 y2 yh fz
      refine (isHot_is ⟨⟨s, l, b⟩, 1, true, tr, pn⟩ true rfl wa).mono ?_
      rintro e w1 ⟨rfl, hm1⟩
      have Hc1 := Lib.hid (Hc0.out.new hm1)
      have Mw1 := Lib.hid (Mwa.out.trans hm1 (fun _ _ h => h))
      clear hm1
      obtain ⟨x0, x1, x2, x3, x4, x5, x6, fz⟩ := Hc1.out.page_ Hp.out
      have y2 := Hc1.out.cells.2.2.1
      have yh := Hc1.out.cells.2.2.2.1
      simp only at x0 x1 x2 x3 x4 x5 x6
      go_wp2_with fail
      clear x0 x1 x2 x3 x4 x5 x6 y2 yh fz
      refine (isTest_is ⟨⟨s, l, b⟩, 1, true, tr, pn⟩ false rfl w1).mono ?_
      rintro e w2 ⟨rfl, hm1⟩
      have Hc2 := Lib.hid (Hc1.out.new hm1)
      have Mw2 := Lib.hid (Mw1.out.trans hm1 (fun _ _ h => h))
      clear hm1
      obtain ⟨x0, x1, x2, x3, x4, x5, x6, fz⟩ := Hc2.out.page_ Hp.out
      have y2 := Hc2.out.cells.2.2.1
      have yh := Hc2.out.cells.2.2.2.1
      simp only at x0 x1 x2 x3 x4 x5 x6
      go_wp2_with fail
      clear x0 x1 x2 x3 x4 x5 x6 y2 yh fz
      refine (isHot_is ⟨⟨s, l, b⟩, 1, true, tr, pn⟩ true rfl w2).mono ?_
      rintro e w3 ⟨rfl, hm1⟩
      have Hc3 := Lib.hid (Hc2.out.new hm1)
      have Mw3 := Lib.hid (Mw2.out.trans hm1 (fun _ _ h => h))
      clear hm1
      obtain ⟨x0, x1, x2, x3, x4, x5, x6, fz⟩ := Hc3.out.page_ Hp.out
      have y2 := Hc3.out.cells.2.2.1
      have yh := Hc3.out.cells.2.2.2.1
      simp only at x0 x1 x2 x3 x4 x5 x6
      have hf : ClkV B g (w3.setCell ⟨pg, c.hot * 7 + 4, none⟩ (.bool false)) (.slice (some ⟨pg, 0, none⟩) n cap) { c with ps := c.ps.set c.hot ⟨⟨s, l, b⟩, 1, false, tr, pn⟩ } := Hc3.out.field (j := 4) Hnn.out Hp.out (by decide) rfl
      obtain ⟨w4, hw4⟩ : ∃ w4, w4 = w3.setCell ⟨pg, c.hot * 7 + 4, none⟩ (.bool false) := ⟨_, rfl⟩
      rw [← hw4] at hf
      have Hc4 := Lib.hid hf
      have Mw4 := Lib.hid ((Mw3.out.mono (S' := ClkS g (.slice (some ⟨pg, 0, none⟩) n cap)) (fun _ _ h => h.elim)).setCell (p := ⟨pg, c.hot * 7 + 4, none⟩) (fun _ => .inr rfl) (.bool false))
      rw [← hw4] at Mw4
      have Hw4 := Lib.hid hw4
      clear hf hw4
      go_upto_region 12 with fail
      rw [← Hw4.out]
      clear x0 x1 x2 x3 x4 x5 x6 y2 yh fz
      have y2 := Hc4.out.cells.2.2.1
      have yh := Hc4.out.cells.2.2.2.1
      go_wp2_with fail
      refine (ckNext_any B g _ _ c.hot w4 Hc4.out (by first | (show c.hot < (c.ps.set _ _).length; rw [List.length_set]; exact Hlt.out) | exact Hlt.out) (by first | (show (c.ps.set _ _).length ≤ _; rw [List.length_set]; have := Hn.out; omega) | (have := Hn.out; omega))).mono ?_
      rintro e w9 ⟨rfl, hm9⟩
      have Hc9 := Lib.hid (Hc4.out.new hm9)
      have M9 := Lib.hid (Mw4.out.trans hm9 (fun _ _ h => h.elim))
      clear hm9 y2 yh
      have yh := Hc9.out.cells.2.2.2.1
      have fh := Hc9.out.frozen 3
      go_wp2_with fail
      go_ret
      refine ⟨_, _, hotF_ref Hhc.out Hp.out rfl rfl, rfl, _, Hc9.out.num 3 _ rfl rfl, M9.out.setCell (p := ⟨g, 3, none⟩) (fun _ => .inl rfl) _, fun _ h => .inl h⟩
    | false =>
      go_wp2_with fail
      clear x0 x1 x2 x3 x4 x5 x6 y2 yh fz
      refine (isHot_is ⟨⟨s, l, b⟩, 1, false, tr, pn⟩ true rfl wa).mono ?_
      rintro e w1 ⟨rfl, hm1⟩
      have Hc1 := Lib.hid (Hc0.out.new hm1)
      have Mw1 := Lib.hid (Mwa.out.trans hm1 (fun _ _ h => h))
      clear hm1
      obtain ⟨x0, x1, x2, x3, x4, x5, x6, fz⟩ := Hc1.out.page_ Hp.out
      have y2 := Hc1.out.cells.2.2.1
      have yh := Hc1.out.cells.2.2.2.1
      simp only at x0 x1 x2 x3 x4 x5 x6
      go_wp2_with fail
      clear x0 x1 x2 x3 x4 x5 x6 y2 yh fz
      refine (isTest_is ⟨⟨s, l, b⟩, 1, false, tr, pn⟩ false rfl w1).mono ?_
      rintro e w2 ⟨rfl, hm1⟩
      have Hc2 := Lib.hid (Hc1.out.new hm1)
      have Mw2 := Lib.hid (Mw1.out.trans hm1 (fun _ _ h => h))
      clear hm1
      obtain ⟨x0, x1, x2, x3, x4, x5, x6, fz⟩ := Hc2.out.page_ Hp.out
      have y2 := Hc2.out.cells.2.2.1
      have yh := Hc2.out.cells.2.2.2.1
      simp only at x0 x1 x2 x3 x4 x5 x6
      have hf : ClkV B g ((w2.setCell ⟨pg, c.hot * 7 + 3, none⟩ (.int .i64 2)).setCell ⟨pg, c.hot * 7 + 5, none⟩ (.bool false)) (.slice (some ⟨pg, 0, none⟩) n cap) { c with ps := c.ps.set c.hot ⟨⟨s, l, b⟩, 2, false, false, pn⟩ } := by
        have h1 : ClkV B g (w2.setCell ⟨pg, c.hot * 7 + 3, none⟩ (.int .i64 2)) (.slice (some ⟨pg, 0, none⟩) n cap) { c with ps := c.ps.set c.hot ⟨⟨s, l, b⟩, 2, false, tr, pn⟩ } := Hc2.out.field (j := 3) Hnn.out Hp.out (by decide) rfl
        have h2 := h1.field (i := c.hot) (j := 5) (p := ⟨⟨s, l, b⟩, 2, false, tr, pn⟩) (q := ⟨⟨s, l, b⟩, 2, false, false, pn⟩) (u := .bool false) (by show (c.ps.set _ _).length = n; rw [List.length_set]; exact Hnn.out) (by show (c.ps.set _ _)[_]? = _; rw [List.getElem?_set_self Hlt.out]) (by decide) rfl
        simp only [List.set_set] at h2
        exact h2
      obtain ⟨w4, hw4⟩ : ∃ w4, w4 = (w2.setCell ⟨pg, c.hot * 7 + 3, none⟩ (.int .i64 2)).setCell ⟨pg, c.hot * 7 + 5, none⟩ (.bool false) := ⟨_, rfl⟩
      rw [← hw4] at hf
      have Hc4 := Lib.hid hf
      have Mw4 := Lib.hid (((Mw2.out.mono (S' := ClkS g (.slice (some ⟨pg, 0, none⟩) n cap)) (fun _ _ h => h.elim)).setCell (p := ⟨pg, c.hot * 7 + 3, none⟩) (fun _ => .inr rfl) (.int .i64 2)).setCell (p := ⟨pg, c.hot * 7 + 5, none⟩) (fun _ => .inr rfl) (.bool false))
      rw [← hw4] at Mw4
      have Hw4 := Lib.hid hw4
      clear hf hw4
      go_upto_region 12 with fail
      rw [← Hw4.out]
      clear x0 x1 x2 x3 x4 x5 x6 y2 yh fz
      have y2 := Hc4.out.cells.2.2.1
      have yh := Hc4.out.cells.2.2.2.1
      go_wp2_with fail
      refine (ckNext_any B g _ _ c.hot w4 Hc4.out (by first | (show c.hot < (c.ps.set _ _).length; rw [List.length_set]; exact Hlt.out) | exact Hlt.out) (by first | (show (c.ps.set _ _).length ≤ _; rw [List.length_set]; have := Hn.out; omega) | (have := Hn.out; omega))).mono ?_
      rintro e w9 ⟨rfl, hm9⟩
      have Hc9 := Lib.hid (Hc4.out.new hm9)
      have M9 := Lib.hid (Mw4.out.trans hm9 (fun _ _ h => h.elim))
      clear hm9 y2 yh
      have yh := Hc9.out.cells.2.2.2.1
      have fh := Hc9.out.frozen 3
      go_wp2_with fail
      go_ret
      refine ⟨_, _, hotF_cool Hhc.out Hp.out rfl rfl, rfl, _, Hc9.out.num 3 _ rfl rfl, M9.out.setCell (p := ⟨g, 3, none⟩) (fun _ => .inl rfl) _, fun _ h => .inl h⟩
  · go_wp2_with fail
    clear x0 x1 x2 x3 x4 x5 x6 y2 yh fz
    refine (isHot_is ⟨⟨s, l, b⟩, 2, rf, tr, pn⟩ false rfl wa).mono ?_
    rintro e w1 ⟨rfl, hm1⟩
    have Hc1 := Lib.hid (Hc0.out.new hm1)
    have Mw1 := Lib.hid (Mwa.out.trans hm1 (fun _ _ h => h))
    clear hm1
    obtain ⟨x0, x1, x2, x3, x4, x5, x6, fz⟩ := Hc1.out.page_ Hp.out
    have y2 := Hc1.out.cells.2.2.1
    have yh := Hc1.out.cells.2.2.2.1
    simp only at x0 x1 x2 x3 x4 x5 x6
    go_wp2_with fail
    clear x0 x1 x2 x3 x4 x5 x6 y2 yh fz
    refine (isTest_is ⟨⟨s, l, b⟩, 2, rf, tr, pn⟩ false rfl w1).mono ?_
    rintro e w2 ⟨rfl, hm1⟩
    have Hc2 := Lib.hid (Hc1.out.new hm1)
    have Mw2 := Lib.hid (Mw1.out.trans hm1 (fun _ _ h => h))
    clear hm1
    obtain ⟨x0, x1, x2, x3, x4, x5, x6, fz⟩ := Hc2.out.page_ Hp.out
    have y2 := Hc2.out.cells.2.2.1
    have yh := Hc2.out.cells.2.2.2.1
    simp only at x0 x1 x2 x3 x4 x5 x6
    go_wp2_with fail
    clear x0 x1 x2 x3 x4 x5 x6 y2 yh fz
    refine (isHot_is ⟨⟨s, l, b⟩, 2, rf, tr, pn⟩ false rfl w2).mono ?_
    rintro e w3 ⟨rfl, hm1⟩
    have Hc3 := Lib.hid (Hc2.out.new hm1)
    have Mw3 := Lib.hid (Mw2.out.trans hm1 (fun _ _ h => h))
    clear hm1
    obtain ⟨x0, x1, x2, x3, x4, x5, x6, fz⟩ := Hc3.out.page_ Hp.out
    have y2 := Hc3.out.cells.2.2.1
    have yh := Hc3.out.cells.2.2.2.1
    simp only at x0 x1 x2 x3 x4 x5 x6
    have hf : ClkV B g (w3.setCell ⟨pg, c.hot * 7 + 5, none⟩ (.bool false)) (.slice (some ⟨pg, 0, none⟩) n cap) { c with ps := c.ps.set c.hot ⟨⟨s, l, b⟩, 2, rf, false, pn⟩ } := Hc3.out.field (j := 5) Hnn.out Hp.out (by decide) rfl
    obtain ⟨w4, hw4⟩ : ∃ w4, w4 = w3.setCell ⟨pg, c.hot * 7 + 5, none⟩ (.bool false) := ⟨_, rfl⟩
    rw [← hw4] at hf
    have Hc4 := Lib.hid hf
    have Mw4 := Lib.hid ((Mw3.out.mono (S' := ClkS g (.slice (some ⟨pg, 0, none⟩) n cap)) (fun _ _ h => h.elim)).setCell (p := ⟨pg, c.hot * 7 + 5, none⟩) (fun _ => .inr rfl) (.bool false))
    rw [← hw4] at Mw4
    have Hw4 := Lib.hid hw4
    clear hf hw4
    go_upto_region 12 with fail
    rw [← Hw4.out]
    clear x0 x1 x2 x3 x4 x5 x6 y2 yh fz
    have y2 := Hc4.out.cells.2.2.1
    have yh := Hc4.out.cells.2.2.2.1
    go_wp2_with fail
    refine (ckNext_any B g _ _ c.hot w4 Hc4.out (by first | (show c.hot < (c.ps.set _ _).length; rw [List.length_set]; exact Hlt.out) | exact Hlt.out) (by first | (show (c.ps.set _ _).length ≤ _; rw [List.length_set]; have := Hn.out; omega) | (have := Hn.out; omega))).mono ?_
    rintro e w9 ⟨rfl, hm9⟩
    have Hc9 := Lib.hid (Hc4.out.new hm9)
    have M9 := Lib.hid (Mw4.out.trans hm9 (fun _ _ h => h.elim))
    clear hm9 y2 yh
    have yh := Hc9.out.cells.2.2.2.1
    have fh := Hc9.out.frozen 3
    go_wp2_with fail
    go_ret
    refine ⟨_, _, hotF_cold Hhc.out Hp.out rfl, rfl, _, Hc9.out.num 3 _ rfl rfl, M9.out.setCell (p := ⟨g, 3, none⟩) (fun _ => .inl rfl) _, fun _ h => .inl h⟩
  · go_wp2_with fail
    clear x0 x1 x2 x3 x4 x5 x6 y2 yh fz
    refine (isHot_is ⟨⟨s, l, b⟩, 3, rf, tr, pn⟩ false rfl wa).mono ?_
    rintro e w1 ⟨rfl, hm1⟩
    have Hc1 := Lib.hid (Hc0.out.new hm1)
    have Mw1 := Lib.hid (Mwa.out.trans hm1 (fun _ _ h => h))
    clear hm1
    obtain ⟨x0, x1, x2, x3, x4, x5, x6, fz⟩ := Hc1.out.page_ Hp.out
    have y2 := Hc1.out.cells.2.2.1
    have yh := Hc1.out.cells.2.2.2.1
    simp only at x0 x1 x2 x3 x4 x5 x6
    go_wp2_with fail
    clear x0 x1 x2 x3 x4 x5 x6 y2 yh fz
    refine (isTest_is ⟨⟨s, l, b⟩, 3, rf, tr, pn⟩ true rfl w1).mono ?_
    rintro e w2 ⟨rfl, hm1⟩
    have Hc2 := Lib.hid (Hc1.out.new hm1)
    have Mw2 := Lib.hid (Mw1.out.trans hm1 (fun _ _ h => h))
    clear hm1
    obtain ⟨x0, x1, x2, x3, x4, x5, x6, fz⟩ := Hc2.out.page_ Hp.out
    have y2 := Hc2.out.cells.2.2.1
    have yh := Hc2.out.cells.2.2.2.1
    simp only at x0 x1 x2 x3 x4 x5 x6
    go_wp2_with fail
    clear x0 x1 x2 x3 x4 x5 x6 y2 yh fz
    refine (expire_any B g _ c c.hot w2 Hc2.out Hb.out Hlt.out Hn.out).mono ?_
    rintro e w4 ⟨rfl, ht⟩
    have Ht := Lib.hid ht
    clear ht
    go_wp2_with fail
    go_ret
    exact ⟨_, _, hotF_goes Hhc.out Hp.out (by show (3 : Int) ≠ 1; decide) (by show (3 : Int) ≠ 2; decide), rfl, Ht.out.after Mw2.out⟩
set_option maxHeartbeats 1000000 in
set_option maxRecDepth 100000 in
theorem turnHot_any (B g : Nat) (vp : Value) (c : ClkN) (w : World) (h : ClkV B g w vp c) (hb : BaseK c) (hc : cntK 1 c.ps ≠ 0) (hn : c.ps.length ≤ 100000) :
    Calls Try.prog 46 #[.pointer (some ⟨g, 0, none⟩)] w fun e w' => e = .returned (.tuple #[]) ∧ ClkTo B g w w' vp (turnHotK c) := by
  obtain ⟨_, _, _, K, bK, hE⟩ := hot_ends hb
  have Hc := Lib.hid h; have Hb := Lib.hid hb; have Hn := Lib.hid hn; have HE := Lib.hid hE; have Hhc := Lib.hid hc
  clear h hb hn hE hc
  go_enter Try.func46, Try.ntmps46
  go_wp2_with fail
  go_loopg [] K (fun k wr => ∃ cx vx, Ends hotF k (cx, false) (turnHotK c, bK) ∧ BaseK cx ∧ cntK 1 cx.ps ≠ 0 ∧ cx.ps.length ≤ c.ps.length ∧ ClkV B g wr vx cx ∧ Mod (ClkS g vp) w wr ∧ ∀ k, vx.ownBlock = some k → vp.ownBlock = some k ∨ w.heap.size ≤ k)
  case atStart => exact ⟨c, vp, HE.out, Hb.out, Hhc.out, Nat.le_refl _, Hc.out, Mod.refl _ _, fun _ h => .inl h⟩
  case round =>
    obtain ⟨cx, vx, he, hbx, hcx, hlx, hvx, hmx, hox⟩ := hrel
    have HEx := Lib.hid he; have Hbx := Lib.hid hbx; have Hcx := Lib.hid hcx; have Hlx := Lib.hid hlx; have Hvx := Lib.hid hvx; have Hmx := Lib.hid hmx; have Hox := Lib.hid hox
    clear he hbx hcx hlx hvx hmx hox
    go_wp2_with fail
    refine (lookHot_any B g vx cx wr Hvx.out Hbx.out Hcx.out (by have := Hlx.out; have := Hn.out; omega)).mono ?_
    rintro e w1 ⟨c1, r, hf, rfl, v1, h1, h2, h3⟩
    have Hf := Lib.hid hf; have H1 := Lib.hid h1; have H2 := Lib.hid h2; have H3 := Lib.hid h3
    have HT : Hid (ClkTo B g w w1 vp c1) := Lib.hid (ClkTo.step Hmx.out Hox.out ⟨v1, H1.out, H2.out, H3.out⟩)
    clear hf h1 h2 h3
    obtain ⟨j, hj, hE1⟩ := HEx.out.some_ Hf.out
    have Hj := Lib.hid hj; have HE1 := Lib.hid hE1
    clear hj hE1
    cases r with
    | true =>
      go_wp2_with fail
      go_end0
      refine ⟨rfl, ?_⟩
      have h4 := (HE1.out.none_ hotF_done).2
      injection h4 with h4 _
      rw [h4]
      exact HT.out
    | false =>
      have Hk := Lib.hid (hot_keep Hbx.out Hf.out)
      have Hcn : Hid (cntK 1 c1.ps ≠ 0) := Lib.hid (by
        have h5 := (hotF_step (K := cx.ps.length + 1) Hbx.out (by omega) Hf.out).2.1
        have h6 := Hcx.out
        simp at h5
        omega)
      obtain ⟨v2, k1, k2, k3⟩ := HT.out
      have K1 := Lib.hid k1; have K2 := Lib.hid k2; have K3 := Lib.hid k3
      clear k1 k2 k3
      go_wp2_with fail
      go_roundg (gk - 1)
      case measure => have := Hj.out; omega
      case rel =>
        have e1 : gk - 1 = j := by have := Hj.out; omega
        rw [e1]
        exact ⟨c1, v2, HE1.out, Hk.out.1, Hcn.out, Nat.le_trans Hk.out.2.1 Hlx.out, K1.out, K2.out, K3.out⟩
end Go.Proofs.Ytcoajldhhimmoaa

/- The hand Test: one look, and a turn; as long as there are too many hot ones; as long as no cold one is loose. -/
namespace Go.Proofs.Ytcoajldhhimmoaa
open Go.RowKit

theorem set_base {c : ClkN} (h : BaseK c) {i : Nat} {p q : PagN} (hp : c.ps[i]? = some p) (hk : q.key = p.key) (hpin : q.pins = p.pins) (hr : q.resi = p.resi) (hq : OkP q) (ht : q.kind = 3 → p.kind = 3) (href : q.ref = true → p.ref = true) : BaseK { c with ps := c.ps.set i q } :=
  (turn_set h hp hk hpin hr hq ht href { c with ps := c.ps.set i q } rfl rfl rfl h.hot h.cold h.test).base
set_option maxHeartbeats 4000000 in
set_option maxRecDepth 100000 in
theorem lookTest_any (B g : Nat) (vp : Value) (c : ClkN) (w : World) (h : ClkV B g w vp c) (hb : BaseK c) (hc : cntK 3 c.ps ≠ 0) (hn : c.ps.length ≤ 100000) :
    Calls Try.prog 53 #[.pointer (some ⟨g, 0, none⟩)] w fun e w' => ∃ c' b, testF (c, false) = some (c', b) ∧ e = .returned (.bool b) ∧ ClkTo B g w w' vp c' := by
  obtain ⟨p, hp, hok, hlt⟩ := hb.test_at hc
  obtain ⟨pg, n, cap, rfl, Hnn, hnc, hcm, hin, Hpg, hne, x0, x1, x2, x3, x4, x5, x6, fz⟩ := h.at_ hp
  have y2 := h.cells.2.2.1
  have y5 := h.cells.2.2.2.2.2
  have hat7 : (⟨pg, 0, none⟩ : Addr).add (c.test * 7) = ⟨pg, c.test * 7, none⟩ := by rw [add_addr, Nat.zero_add]
  have hin' : (c.test : Int) < (n : Int) := by omega
  have Hc := Lib.hid h; have Hb := Lib.hid hb; have Hn := Lib.hid hn; have Hp := Lib.hid hp; have Hne := Lib.hid hne; have Hok := Lib.hid hok; have Hlt := Lib.hid hlt
  have Hhc := Lib.hid hc
  have Mw : Hid (Mod (fun _ => False) w w) := Lib.hid (Mod.refl _ _)
  clear hc h hb hn hp hne hok hlt hnc hcm hin
  obtain ⟨⟨s, l, b⟩, kd, rf, tr, pn⟩ := p
  simp only at x0 x1 x2 x3 x4 x5 x6
  have yh := y5
  clear y5
  go_enter Try.func53, Try.ntmps53
  go_upto_region 1 with fail
  go_region
  have Hc0 := Lib.hid Hc.out.drew
  have Mw0 : Hid (Mod (fun _ => False) w w.drew) := Lib.hid (Mod.refl _ _).drew
  obtain ⟨wa, hwa⟩ : ∃ wa, wa = w.drew := ⟨_, rfl⟩
  rw [← hwa] at Hc0 Mw0 ⊢
  have Mwa := Mw0
  clear hwa Mw0 Mw x0 x1 x2 x3 x4 x5 x6 y2 yh fz
  obtain ⟨x0, x1, x2, x3, x4, x5, x6, fz⟩ := Hc0.out.page_ Hp.out
  have y2 := Hc0.out.cells.2.2.1
  have yh := Hc0.out.cells.2.2.2.2.2
  simp only at x0 x1 x2 x3 x4 x5 x6
  have hkd := Hok.out.1
  simp only at hkd
  rcases hkd with rfl | rfl | rfl
  · go_wp2_with fail
    clear x0 x1 x2 x3 x4 x5 x6 y2 yh fz
    refine (isTest_is ⟨⟨s, l, b⟩, 1, rf, tr, pn⟩ false rfl wa).mono ?_
    rintro e w1 ⟨rfl, hm1⟩
    have Hc1 := Lib.hid (Hc0.out.new hm1)
    have Mw1 := Lib.hid (Mwa.out.trans hm1 (fun _ _ h => h))
    clear hm1
    obtain ⟨x0, x1, x2, x3, x4, x5, x6, fz⟩ := Hc1.out.page_ Hp.out
    have y2 := Hc1.out.cells.2.2.1
    have yh := Hc1.out.cells.2.2.2.2.2
    simp only at x0 x1 x2 x3 x4 x5 x6
    have Mw1s := Lib.hid (Mw1.out.mono (S' := ClkS g (.slice (some ⟨pg, 0, none⟩) n cap)) (fun _ _ h => h.elim))
    clear Mw1
    have Mw1 := Mw1s
    clear y2 yh
    have y2 := Hc1.out.cells.2.2.1
    have yh := Hc1.out.cells.2.2.2.2.2
    go_wp2_with fail
    refine (ckNext_any B g _ _ c.test w1 Hc1.out (by first | (show c.test < (c.ps.set _ _).length; rw [List.length_set]; exact Hlt.out) | exact Hlt.out) (by first | (show (c.ps.set _ _).length ≤ _; rw [List.length_set]; have := Hn.out; omega) | (have := Hn.out; omega))).mono ?_
    rintro e w9 ⟨rfl, hm9⟩
    have Hc9 := Lib.hid (Hc1.out.new hm9)
    have M9 := Lib.hid (Mw1.out.trans hm9 (fun _ _ h => h.elim))
    clear hm9 y2 yh
    have yh := Hc9.out.cells.2.2.2.2.2
    have fh := Hc9.out.frozen 5
    go_wp2_with fail
    go_ret
    refine ⟨_, _, testF_on Hhc.out Hp.out (by show (1 : Int) ≠ 3; decide) (by rintro ⟨h, _⟩; exact absurd h (by show (1 : Int) ≠ 2; decide)), rfl, _, Hc9.out.num 5 _ rfl rfl, M9.out.setCell (p := ⟨g, 5, none⟩) (fun _ => .inl rfl) _, fun _ h => .inl h⟩
  · cases tr with
    | false =>
      go_wp2_with fail
      clear x0 x1 x2 x3 x4 x5 x6 y2 yh fz
      refine (isTest_is ⟨⟨s, l, b⟩, 2, rf, false, pn⟩ false rfl wa).mono ?_
      rintro e w1 ⟨rfl, hm1⟩
      have Hc1 := Lib.hid (Hc0.out.new hm1)
      have Mw1 := Lib.hid (Mwa.out.trans hm1 (fun _ _ h => h))
      clear hm1
      obtain ⟨x0, x1, x2, x3, x4, x5, x6, fz⟩ := Hc1.out.page_ Hp.out
      have y2 := Hc1.out.cells.2.2.1
      have yh := Hc1.out.cells.2.2.2.2.2
      simp only at x0 x1 x2 x3 x4 x5 x6
      have Mw1s := Lib.hid (Mw1.out.mono (S' := ClkS g (.slice (some ⟨pg, 0, none⟩) n cap)) (fun _ _ h => h.elim))
      clear Mw1
      have Mw1 := Mw1s
      clear y2 yh
      have y2 := Hc1.out.cells.2.2.1
      have yh := Hc1.out.cells.2.2.2.2.2
      go_wp2_with fail
      refine (ckNext_any B g _ _ c.test w1 Hc1.out (by first | (show c.test < (c.ps.set _ _).length; rw [List.length_set]; exact Hlt.out) | exact Hlt.out) (by first | (show (c.ps.set _ _).length ≤ _; rw [List.length_set]; have := Hn.out; omega) | (have := Hn.out; omega))).mono ?_
      rintro e w9 ⟨rfl, hm9⟩
      have Hc9 := Lib.hid (Hc1.out.new hm9)
      have M9 := Lib.hid (Mw1.out.trans hm9 (fun _ _ h => h.elim))
      clear hm9 y2 yh
      have yh := Hc9.out.cells.2.2.2.2.2
      have fh := Hc9.out.frozen 5
      go_wp2_with fail
      go_ret
      refine ⟨_, _, testF_on Hhc.out Hp.out (by show (2 : Int) ≠ 3; decide) (by rintro ⟨_, h⟩; cases h), rfl, _, Hc9.out.num 5 _ rfl rfl, M9.out.setCell (p := ⟨g, 5, none⟩) (fun _ => .inl rfl) _, fun _ h => .inl h⟩
    | true =>
      go_wp2_with fail
      clear x0 x1 x2 x3 x4 x5 x6 y2 yh fz
      refine (isTest_is ⟨⟨s, l, b⟩, 2, rf, true, pn⟩ false rfl wa).mono ?_
      rintro e w1 ⟨rfl, hm1⟩
      have Hc1 := Lib.hid (Hc0.out.new hm1)
      have Mw1 := Lib.hid (Mwa.out.trans hm1 (fun _ _ h => h))
      clear hm1
      obtain ⟨x0, x1, x2, x3, x4, x5, x6, fz⟩ := Hc1.out.page_ Hp.out
      have y2 := Hc1.out.cells.2.2.1
      have yh := Hc1.out.cells.2.2.2.2.2
      simp only at x0 x1 x2 x3 x4 x5 x6
      have hf : ClkV B g (w1.setCell ⟨pg, c.test * 7 + 5, none⟩ (.bool false)) (.slice (some ⟨pg, 0, none⟩) n cap) { c with ps := c.ps.set c.test ⟨⟨s, l, b⟩, 2, rf, false, pn⟩ } := Hc1.out.field (j := 5) Hnn.out Hp.out (by decide) rfl
      obtain ⟨w4, hw4⟩ : ∃ w4, w4 = w1.setCell ⟨pg, c.test * 7 + 5, none⟩ (.bool false) := ⟨_, rfl⟩
      rw [← hw4] at hf
      have Hc4 := Lib.hid hf
      have Mw4 := Lib.hid ((Mw1.out.mono (S' := ClkS g (.slice (some ⟨pg, 0, none⟩) n cap)) (fun _ _ h => h.elim)).setCell (p := ⟨pg, c.test * 7 + 5, none⟩) (fun _ => .inr rfl) (.bool false))
      rw [← hw4] at Mw4
      have Hw4 := Lib.hid hw4
      have Hb4 := Lib.hid (set_base (q := ⟨⟨s, l, b⟩, 2, rf, false, pn⟩) Hb.out Hp.out rfl rfl rfl ⟨.inr (.inl rfl), Hok.out.2.1, fun h => Hok.out.2.2 h⟩ (fun h => h) (fun h => h))
      clear hf hw4
      go_upto_region 7 with fail
      rw [← Hw4.out]
      clear x0 x1 x2 x3 x4 x5 x6 y2 yh fz
      go_wp2_with fail
      refine (aim_any B g _ _ (-1) w4 Hc4.out Hb4.out (by omega)).mono ?_
      rintro e w5 ⟨rfl, vp5, h1, h2, h3⟩
      have Hc5 := Lib.hid h1; have H3 := Lib.hid h3
      have Mw5 := Lib.hid (Mw4.out.trans h2 (fun i hi h => h.elim .inl (fun h => (.inr h : ClkS g (.slice (some ⟨pg, 0, none⟩) n cap) i))))
      clear h1 h2 h3
      have y2 := Hc5.out.cells.2.2.1
      have yh := Hc5.out.cells.2.2.2.2.2
      simp only [aimK] at yh
      go_wp2_with fail
      refine (ckNext_any B g _ _ c.test w5 Hc5.out (by show c.test < (c.ps.set _ _).length; rw [List.length_set]; exact Hlt.out) (by show (c.ps.set _ _).length ≤ _; rw [List.length_set]; have := Hn.out; omega)).mono ?_
      rintro e w9 ⟨rfl, hm9⟩
      have Hc9 := Lib.hid (Hc5.out.new hm9)
      have M9 := Lib.hid (Mw5.out.trans hm9 (fun _ _ h => h.elim))
      clear hm9 y2 yh
      have yh := Hc9.out.cells.2.2.2.2.2
      have fh := Hc9.out.frozen 5
      go_wp2_with fail
      go_ret
      refine ⟨_, _, testF_trial Hhc.out Hp.out rfl rfl, rfl, _, Hc9.out.num 5 _ (by show _ = clkC (aimK { c with ps := _, test := _ } (-1)) _; simp [clkC, aimK]; try rfl) rfl, M9.out.setCell (p := ⟨g, 5, none⟩) (fun _ => .inl rfl) _, fun k hk => (H3.out k hk).imp id (fun h => Nat.le_trans Mw4.out.size h)⟩
  · go_wp2_with fail
    clear x0 x1 x2 x3 x4 x5 x6 y2 yh fz
    refine (isTest_is ⟨⟨s, l, b⟩, 3, rf, tr, pn⟩ true rfl wa).mono ?_
    rintro e w1 ⟨rfl, hm1⟩
    have Hc1 := Lib.hid (Hc0.out.new hm1)
    have Mw1 := Lib.hid (Mwa.out.trans hm1 (fun _ _ h => h))
    clear hm1
    obtain ⟨x0, x1, x2, x3, x4, x5, x6, fz⟩ := Hc1.out.page_ Hp.out
    have y2 := Hc1.out.cells.2.2.1
    have yh := Hc1.out.cells.2.2.2.2.2
    simp only at x0 x1 x2 x3 x4 x5 x6
    go_wp2_with fail
    clear x0 x1 x2 x3 x4 x5 x6 y2 yh fz
    refine (expire_any B g _ c c.test w1 Hc1.out Hb.out Hlt.out Hn.out).mono ?_
    rintro e w4 ⟨rfl, ht⟩
    have Ht := Lib.hid ht
    clear ht
    go_wp2_with fail
    go_ret
    exact ⟨_, _, testF_goes Hhc.out Hp.out rfl, rfl, Ht.out.after Mw1.out⟩
set_option maxHeartbeats 1000000 in
set_option maxRecDepth 100000 in
theorem turnTest_any (B g : Nat) (vp : Value) (c : ClkN) (w : World) (h : ClkV B g w vp c) (hb : BaseK c) (hc : cntK 3 c.ps ≠ 0) (hn : c.ps.length ≤ 100000) :
    Calls Try.prog 43 #[.pointer (some ⟨g, 0, none⟩)] w fun e w' => e = .returned (.tuple #[]) ∧ ClkTo B g w w' vp (turnTestK c) := by
  obtain ⟨_, _, _, K, bK, hE⟩ := test_ends hb
  have Hc := Lib.hid h; have Hb := Lib.hid hb; have Hn := Lib.hid hn; have HE := Lib.hid hE; have Hhc := Lib.hid hc
  clear h hb hn hE hc
  go_enter Try.func43, Try.ntmps43
  go_wp2_with fail
  go_loopg [] K (fun k wr => ∃ cx vx, Ends testF k (cx, false) (turnTestK c, bK) ∧ BaseK cx ∧ cntK 3 cx.ps ≠ 0 ∧ cx.ps.length ≤ c.ps.length ∧ ClkV B g wr vx cx ∧ Mod (ClkS g vp) w wr ∧ ∀ k, vx.ownBlock = some k → vp.ownBlock = some k ∨ w.heap.size ≤ k)
  case atStart => exact ⟨c, vp, HE.out, Hb.out, Hhc.out, Nat.le_refl _, Hc.out, Mod.refl _ _, fun _ h => .inl h⟩
  case round =>
    obtain ⟨cx, vx, he, hbx, hcx, hlx, hvx, hmx, hox⟩ := hrel
    have HEx := Lib.hid he; have Hbx := Lib.hid hbx; have Hcx := Lib.hid hcx; have Hlx := Lib.hid hlx; have Hvx := Lib.hid hvx; have Hmx := Lib.hid hmx; have Hox := Lib.hid hox
    clear he hbx hcx hlx hvx hmx hox
    go_wp2_with fail
    refine (lookTest_any B g vx cx wr Hvx.out Hbx.out Hcx.out (by have := Hlx.out; have := Hn.out; omega)).mono ?_
    rintro e w1 ⟨c1, r, hf, rfl, v1, h1, h2, h3⟩
    have Hf := Lib.hid hf; have H1 := Lib.hid h1; have H2 := Lib.hid h2; have H3 := Lib.hid h3
    have HT : Hid (ClkTo B g w w1 vp c1) := Lib.hid (ClkTo.step Hmx.out Hox.out ⟨v1, H1.out, H2.out, H3.out⟩)
    clear hf h1 h2 h3
    obtain ⟨j, hj, hE1⟩ := HEx.out.some_ Hf.out
    have Hj := Lib.hid hj; have HE1 := Lib.hid hE1
    clear hj hE1
    cases r with
    | true =>
      go_wp2_with fail
      go_end0
      refine ⟨rfl, ?_⟩
      have h4 := (HE1.out.none_ testF_done).2
      injection h4 with h4 _
      rw [h4]
      exact HT.out
    | false =>
      have Hk := Lib.hid (test_keep Hbx.out Hf.out)
      have Hcn : Hid (cntK 3 c1.ps ≠ 0) := Lib.hid (by
        have h5 := (testF_step Hbx.out Hf.out).2.1
        have h6 := Hcx.out
        simp at h5
        omega)
      obtain ⟨v2, k1, k2, k3⟩ := HT.out
      have K1 := Lib.hid k1; have K2 := Lib.hid k2; have K3 := Lib.hid k3
      clear k1 k2 k3
      go_wp2_with fail
      go_roundg (gk - 1)
      case measure => have := Hj.out; omega
      case rel =>
        have e1 : gk - 1 = j := by have := Hj.out; omega
        rw [e1]
        exact ⟨c1, v2, HE1.out, Hk.out.1, Hcn.out, Nat.le_trans Hk.out.2.1 Hlx.out, K1.out, K2.out, K3.out⟩
end Go.Proofs.Ytcoajldhhimmoaa

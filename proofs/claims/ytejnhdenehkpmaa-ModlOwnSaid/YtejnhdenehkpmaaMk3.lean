/- The texts Od, Oj, Ok, Ol, Om, Ona, Onb, Onc, Oo, Oq, Or, Ot, Oxa, Oya, Ox, Oyb, Ma, Ozo, Mia, one behind the other. -/
import Derived.Test.YtejnhdenehkpmaaMk1
import Derived.Test.YtejnhdenehkpmaaMk2
import Derived.Lib.Overlaps
import Derived.Deep.CutBlock
/- slices.Insert of one series (anywhere), of one iterator (at the end). -/
namespace Go.Proofs.Ytejnhdenehkpmaa
open Go.RowKit

section
variable {w : World} {g n cap K B : Nat} {e : TypeId} {rows : List (List Value)}
theorem Blk.shape_ {t : TypeId} {cs : Array Value} (h : Blk w g t cs) : w.shape? g = some (t, cs.size) := by
  unfold Blk at h
  simp [World.shape?, h]
/-- The spare room's first element, as it is. -/
theorem OwnK.extend (h : OwnK K B w e (.slice (some ⟨g, 0, none⟩) n cap) rows) (hp : n + 1 ≤ cap) : ∃ x, OwnK K B w e (.slice (some ⟨g, 0, none⟩) (n + 1) cap) (rows ++ [x]) := by
  obtain ⟨cur, hb, hB, hr, hnc, hc, hs, ht⟩ := h.blk
  have h2 : (n + 1) * K ≤ cap * K := Nat.mul_le_mul_right K hp
  have h3 : (n + 1) * K = n * K + K := by rw [Nat.add_mul, Nat.one_mul]
  have hsz : cur.toList.length = cap * K := by simpa using hs
  refine ⟨(cur.toList.drop (n * K)).take K, OwnK.of_blk hb hB (by simp [hr]) hp hc hs (h.1.app (AllK.cons (by rw [List.length_take, List.length_drop]; omega) (AllK.nil K))) ?_⟩
  rw [h3, List.take_add, ht, List.flatten_append]
  simp
theorem zeroCells_flat {z : Array Value} {K : Nat} (hz : z.size = K) (hK : 0 < K) (k : Nat) : (Builtin.zeroCells z k).toList = (List.replicate k z.toList).flatten := by
  have ha : AllK K (List.replicate k z.toList) := fun r hr => by rw [List.eq_of_mem_replicate hr]; simpa using hz
  have hl := flat_len ha
  rw [List.length_replicate] at hl
  apply List.ext_getElem?
  intro x
  by_cases hx : x < k * K
  · have hq : x / K < k := Nat.div_lt_of_lt_mul (by rw [Nat.mul_comm]; exact hx)
    have h1 := flat_get ha (i := x / K) (j := x % K) (r := z.toList) (by simp [hq]) (Nat.mod_lt _ hK)
    have h2 : x / K * K + x % K = x := by rw [Nat.mul_comm]; exact Nat.div_add_mod x K
    rw [h2] at h1
    rw [h1]
    have hm : x % K < z.size := by rw [hz]; exact Nat.mod_lt _ hK
    simp only [Builtin.zeroCells, Array.toList_map, List.getElem?_map, Array.toList_range, hz]
    rw [List.getElem?_range hx]
    simp [hm]
  · rw [List.getElem?_eq_none (by simp [Builtin.zeroCells, hz]; omega), List.getElem?_eq_none (by omega)]
/-- append(s[:p], make([]T, k)..) without room. -/
theorem run_grow_zeros {P : Program} {t tn : TypeId} {kn : IntKind} {z : Value} {bytes p k : Nat} (hE : EltK P t e z K bytes) (htn : P.underlying tn = some (.int kn)) (h : OwnK K B w e (.slice (some ⟨g, 0, none⟩) n cap) rows) (hp : p ≤ n) (hk : 0 < k) (hg : cap < p + k)
    (hm : p + k ≤ maxLen) (hb : (p + k) * bytes ≤ 140737488355328) :
    ∃ C W1, p + k ≤ C ∧ C ≤ maxLen ∧ (∀ ty, (Builtin.append_ #[t, tn] ty #[.slice (some ⟨g, 0, none⟩) p cap, .int .i64 (k : Int)]).run P w = .ok (.slice (some ⟨w.heap.size, 0, none⟩) (p + k) C) W1) ∧
      OwnK K w.heap.size W1 e (.slice (some ⟨w.heap.size, 0, none⟩) (p + k) C) (rows.take p ++ List.replicate k z.cells.toList) ∧ Mod (fun _ => False) w W1 := by
  obtain ⟨ht, ⟨i, hi, hz, hsize, hby⟩, hzs, hK⟩ := hE
  have hcut := h.cut hp
  have hfl := flat_len hcut.1
  have hlen : (rows.take p).length = p := by obtain ⟨_, _, _, hr, _⟩ := h.blk; rw [List.length_take]; omega
  have hold : (Builtin.firstCells i.size p (.slice (some ⟨g, 0, none⟩) p cap)).run P w.drew = .ok (rows.take p).flatten.toArray w.drew := by
    refine run_firstCells_some (P := P) w.drew i.size p ⟨g, 0, none⟩ p cap (rows.take p).flatten (by rw [hfl, hlen, hsize]) (fun j u hu => ?_)
    have h3 : w.ownsRow B e K (.slice (some ⟨g, 0, none⟩) p cap) (rows.take p).length (rows.take p).flatten := hcut.2
    exact h3.cells (g := g) rfl j u hu
  have hm' : ((p + k : Nat) : Int) ≤ 9223372036854775807 := by unfold maxLen at hm; omega
  have hkb : k * i.bytes ≤ 281474976710656 := by
    rw [hby]
    have := Nat.mul_le_mul_right bytes (Nat.le_add_left k p)
    omega
  have hge := grownCap_ge w (p + k) cap e
  have hcm := grownCap_le_maxLen w (p + k) cap e hm
  have hall : AllK K (rows.take p ++ List.replicate k z.cells.toList) := hcut.1.app (fun r hr => by rw [List.eq_of_mem_replicate hr]; simpa using hzs)
  refine ⟨_, _, hge, hcm, fun ty => Lib.run_append_grow_zeros (P := P) w t tn ty e i z .i64 kn ht htn hi hz (some ⟨g, 0, none⟩) p cap _ hold k hk (by omega) hg hm' hkb (by rw [hby]; exact growslice_fits (by omega) hb), ?_, ((Mod.refl _ w).drew).alloc _⟩
  refine OwnK.of_blk (heap_alloc_new w.drew _) (Nat.le_refl _) (by simp [hlen]) hge hcm ?_ hall ?_
  · simp only [Array.size_append, List.size_toArray, size_zeroCells, hzs, hfl, hlen, ← Nat.add_mul]
    congr 1
    omega
  · rw [Array.toList_append, Array.toList_append, zeroCells_flat hzs hK k, List.append_assoc, ← List.append_assoc, List.flatten_append]
    have h5 : (p + k) * K = ((rows.take p).flatten ++ (List.replicate k z.cells.toList).flatten).length := by
      rw [← List.flatten_append, flat_len hall]
      simp [hlen]
    rw [h5]
    exact List.take_left
end
/-- One laid in. -/
theorem insert_at {α : Type} (rows : List α) (x r : α) {p n : Nat} (hn : rows.length = n) (hp : p ≤ n) :
    ((((rows ++ [x]).take (p + 1) ++ rows.drop p ++ (rows ++ [x]).drop (p + 1 + (rows.drop p).length)).take p) ++ [r]) ++ ((((rows ++ [x]).take (p + 1) ++ rows.drop p ++ (rows ++ [x]).drop (p + 1 + (rows.drop p).length))).drop (p + [r].length)) = rows.take p ++ [r] ++ rows.drop p := by
  have hl : ((rows ++ [x]).take (p + 1)).length = p + 1 := by simp; omega
  have h1 : (rows ++ [x]).drop (p + 1 + (rows.drop p).length) = [] := List.drop_eq_nil_of_le (by simp; omega)
  rw [h1, List.append_nil, List.take_append_of_le_length (by omega), List.take_take, Nat.min_eq_left (by omega), List.take_append_of_le_length (by omega)]
  congr 1
  rw [show p + [r].length = ((rows ++ [x]).take (p + 1)).length by rw [hl]; rfl, List.drop_left]
theorem insert_grown {α : Type} (rows : List α) (z r : α) {p n : Nat} (hn : rows.length = n) (hp : p ≤ n) :
    (((rows.take p ++ List.replicate (n + 1 - p) z).take p ++ [r] ++ (rows.take p ++ List.replicate (n + 1 - p) z).drop (p + [r].length)).take (p + 1) ++ rows.drop p ++
      ((rows.take p ++ List.replicate (n + 1 - p) z).take p ++ [r] ++ (rows.take p ++ List.replicate (n + 1 - p) z).drop (p + [r].length)).drop (p + 1 + (rows.drop p).length)) = rows.take p ++ [r] ++ rows.drop p := by
  have hl : (rows.take p).length = p := by simp; omega
  have e1 : (rows.take p ++ List.replicate (n + 1 - p) z).take p = rows.take p := by rw [List.take_append_of_le_length (by omega), List.take_of_length_le (by omega)]
  rw [e1]
  generalize ht : (rows.take p ++ List.replicate (n + 1 - p) z).drop (p + [r].length) = tail
  have htl : tail.length = n - p := by
    rw [← ht, List.length_drop, List.length_append, List.length_replicate, hl, List.length_singleton]
    omega
  have h2 : (rows.take p ++ [r]).length = p + 1 := by simp [hl]
  have h3 : (rows.take p ++ [r] ++ tail).take (p + 1) = rows.take p ++ [r] := by rw [← h2, List.take_left]
  have h4 : (rows.take p ++ [r] ++ tail).drop (p + 1 + (rows.drop p).length) = [] := List.drop_eq_nil_of_le (by rw [List.length_append, h2, htl, List.length_drop]; omega)
  rw [h3, h4, List.append_nil]
set_option maxHeartbeats 4000000 in
set_option maxRecDepth 100000 in
/-- The end, whatever the row. -/
theorem insS_end (B n H : Nat) (v : Value) (rows : List (List Value)) (r : List Value) (te : TypeId) (w : World) (h : OwnK 5 B w 43 v rows) (hn : rows.length = n) (hH : Blk w H te r.toArray) (hr : r.length = 5) (hone : ∀ u ∈ r, u.oneCell' = true) (hB : B ≤ w.heap.size) (hnm : n ≤ 1000000) :
    Calls Try.prog 51 #[v, .int .i64 (n : Int), .slice (some ⟨H, 0, none⟩) 1 1] w fun e w' =>
      ∃ v', e = .returned v' ∧ OwnK 5 B w' 43 v' (rows ++ [r]) ∧ Mod (fun k => v.ownBlock = some k) w w' := by
  obtain ⟨A, c, rfl, _, hnc, hcm, _⟩ := h.form
  rw [hn] at h ⊢
  rw [hn] at hnc
  have Hr : Hid (RdsK 5 w (H + 1) (some ⟨H, 0, none⟩) 1 [r]) := Lib.hid ⟨rfl, AllK.cons hr (AllK.nil _), by simp [hr], fun _ => ⟨_, rfl, Nat.lt_succ_self _, fun j u hu => by rw [add_addr, Nat.zero_add, hH.cell]; simpa using hu⟩⟩
  have Hone : Hid (∀ u ∈ [r].flatten, u.oneCell' = true) := Lib.hid (by simpa using hone)
  have Hown := Lib.hid h
  have hr1 : rows.length + 1 ≤ maxLen := by unfold maxLen; omega
  have hr2 : (rows.length + 1) * 48 ≤ 140737488355328 := by omega
  have b1 : (n : Int) ≤ (c : Int) := by omega
  have b2 : (n : Int) ≤ 1000000 := by omega
  have HB := Lib.hid hB
  obtain ⟨A1, hA1⟩ : ∃ A1, (if c = n then A else A.map (·.add (n * 5))) = A1 := ⟨_, rfl⟩
  clear h hn hH hr hone hnc hcm hB hnm
  go_enter Try.func51, Try.ntmps51
  go_wp2_with (at_builtin; refine wpList_appK (v := .slice A n c) rfl (.tmp 23) (.tmp 24) _ rfl eltSer rfl Hown.out rfl Hr.out Hone.out hr1 hr2 HB.out ?_; intro v4 w4 HO HBl HG)
  go_ret
  exact ⟨_, rfl, HO.out, (Mod.refl _ w).grown HG.out.1 (fun k hk _ => hk)⟩
set_option maxHeartbeats 600000 in
set_option maxRecDepth 100000 in
/-- Ahead of others, with room: in place. -/
theorem insS_room (B g n n1 p p1 cap H : Nat) (rows : List (List Value)) (r : List Value) (te : TypeId) (w : World) (h : OwnK 5 B w 43 (.slice (some ⟨g, 0, none⟩) n cap) rows) (hone : ∀ u ∈ rows.flatten, u.oneCell' = true) (hH : Blk w H te r.toArray) (hr : r.length = 5) (hre : ∀ u ∈ r, u.oneCell' = true)
    (hgH : H ≠ g) (hp : p < n) (hn1 : n + 1 = n1) (hp1 : p + 1 = p1) (hroom : n1 ≤ cap) (hnm : n ≤ 1000000) :
    Calls Try.prog 51 #[.slice (some ⟨g, 0, none⟩) n cap, .int .i64 (p : Int), .slice (some ⟨H, 0, none⟩) 1 1] w fun e w' =>
      e = .returned (.slice (some ⟨g, 0, none⟩) n1 cap) ∧ OwnK 5 B w' 43 (.slice (some ⟨g, 0, none⟩) n1 cap) (rows.take p ++ [r] ++ rows.drop p) ∧ Mod (fun k => k = g) w w' := by
  obtain ⟨cur, hb, hB, hrl, hnc, hc, hs, ht⟩ := h.blk
  obtain ⟨A, hA⟩ : ∃ A, some (⟨g, 0, none⟩ : Addr) = A := ⟨_, rfl⟩
  obtain ⟨A1, hA1⟩ : ∃ A1, A.map (fun x => x.add (p1 * 5)) = A1 := ⟨_, rfl⟩
  obtain ⟨A2, hA2⟩ : ∃ A2, A.map (fun x => x.add (p * 5)) = A2 := ⟨_, rfl⟩
  have hA1' : A1 = some ⟨g, p1 * 5, none⟩ := by rw [← hA1, ← hA, Option.map_some, add_addr, Nat.zero_add]
  have hA2' : A2 = some ⟨g, p * 5, none⟩ := by rw [← hA2, ← hA, Option.map_some, add_addr, Nat.zero_add]
  obtain ⟨x, hx⟩ := h.extend (by omega)
  have h1c : ∀ u ∈ (rows.drop p).flatten, u.oneCell' = true := fun u hu => by
    obtain ⟨r, hr, hu⟩ := List.mem_flatten.1 hu
    exact hone u (List.mem_flatten.2 ⟨r, List.mem_of_mem_drop hr, hu⟩)
  have hdl : (rows.drop p).flatten.length = (n - p) * 5 := by rw [flat_len (h.1.drop p), List.length_drop, hrl]
  have hov : ∀ lb cb, (callFunc 56 #[.slice (some ⟨H, 0, none⟩) 1 1, .slice A1 lb cb]).run Try.prog w = .ok (.value (.bool false)) w := fun lb cb => by
    rw [hA1', run_callFunc_extern Try.func56 (by kernel_rfl) (by kernel_rfl) (by kernel_rfl) (e := Extern.SlicesOverlaps.overlaps #[28, 28] #[4]) (by kernel_rfl),
      Lib.run_overlaps_apart w 28 4 43 Try.underlying28 5 Try.sizeOf43 ⟨H, 0, none⟩ ⟨g, p1 * 5, none⟩ 1 1 lb cb hgH te 43 _ _ hH.shape_ hb.shape_ (by omega) (hH.frozen 0) (hH.frozen _)]
    rfl
  obtain ⟨W1, hW1⟩ : ∃ W1, W1 = w.drew.setCells g (p1 * 5) (rows.drop p).flatten := ⟨_, rfl⟩
  have hc1 : ∀ ty dc sc, (Builtin.copy_ #[28, 28] ty #[.slice A1 (n1 - p1) dc, .slice A2 (n1 - p) sc]).run Try.prog w.drew = .ok (goInt ((n - p : Nat) : Int)) W1 := fun ty dc sc => by
    rw [hA1', hA2', hW1]
    refine run_copyK (w := w.drew) (b := g) (o := p1 * 5) (dLen := n1 - p1) (sLen := n1 - p) (m := n - p) eltSer (by simp only [Nat.min_def]; split <;> omega) hdl (fun j u hu => ?_) (fun j hj => (h.drew.open_ (by rw [hdl] at hj; omega)).1) (fun j hj => (h.drew.open_ (by rw [hdl] at hj; omega)).2) h1c ty
    rw [add_addr]
    show w.cell? _ = _
    rw [hb.cell]
    have h6 : j < (n - p) * 5 := by rw [← hdl]; exact (List.getElem?_eq_some_iff.1 hu).1
    rw [← flat_drop p h.1, List.getElem?_drop, ← ht, List.getElem?_take] at hu
    rw [if_pos (by omega)] at hu
    simpa using hu
  have hH1 : Blk W1 H te r.toArray := by rw [hW1]; exact (Mod.setCells w.drew g _ _).blk hH.drew hgH
  have hO1 : OwnK 5 B W1 43 (.slice (some ⟨g, 0, none⟩) n1 cap) ((rows ++ [x]).take p1 ++ rows.drop p ++ (rows ++ [x]).drop (p1 + (rows.drop p).length)) := by
    rw [hW1]
    rw [hn1] at hx
    exact hx.drew.laid (p := p1) (h.1.drop p) (by rw [List.length_drop]; omega)
  have hc2 : ∀ ty dc, (Builtin.copy_ #[28, 28] ty #[.slice A2 (n1 - p) dc, .slice (some ⟨H, 0, none⟩) 1 1]).run Try.prog W1 = .ok (goInt 1) (W1.setCells g (p * 5) r) := fun ty dc => by
    rw [hA2']
    refine run_copyK (w := W1) (b := g) (o := p * 5) (dLen := n1 - p) (sLen := 1) (m := 1) eltSer (by simp only [Nat.min_def]; split <;> omega) (by rw [hr]) (fun j u hu => ?_) (fun j hj => (hO1.open_ (by omega)).1) (fun j hj => (hO1.open_ (by omega)).2) hre ty
    rw [add_addr, Nat.zero_add, hH1.cell]
    simpa using hu
  have hfin : OwnK 5 B (W1.setCells g (p * 5) r) 43 (.slice (some ⟨g, 0, none⟩) n1 cap) (rows.take p ++ [r] ++ rows.drop p) ∧ Mod (fun k => k = g) w (W1.setCells g (p * 5) r) := by
    have h5 := hO1.laid (p := p) (news := [r]) (AllK.cons hr (AllK.nil _)) (by simp; omega)
    have e5 : [r].flatten = r := by simp
    rw [e5, ← hp1, insert_at rows x r hrl (by omega)] at h5
    exact ⟨h5, mod_setCells _ _ _ _ _ (by rw [hW1]; exact mod_setCells _ _ _ _ _ (Mod.refl _ w).drew)⟩
  have Hc1 := Lib.hid hc1
  have Hc2 := Lib.hid hc2
  have Hfin := Lib.hid hfin
  have HA := Lib.hid hA
  have b1 : ¬ (p : Int) = (n : Int) := by omega
  have b2 : (p : Int) ≤ (n : Int) := by omega
  have b3 : (n : Int) ≤ (cap : Int) := by omega
  have b4 : ¬ (cap : Int) < (n1 : Int) := by omega
  have b5 : (n : Int) + 1 = (n1 : Int) := by omega
  have b6 : (p : Int) + 1 = (p1 : Int) := by omega
  have b7 : (n : Int) ≤ 1000000 := by omega
  have b8 : (p1 : Int) ≤ (n1 : Int) := by omega
  have b9 : (p : Int) ≤ (n1 : Int) := by omega
  have b10 : (n1 : Int) ≤ (cap : Int) := by omega
  have b12 : ¬ cap = p1 := by omega
  have b13 : ¬ cap = p := by omega
  have b11 : IntKind.i64.wrap (p1 : Int) = (p1 : Int) := IntWalk.i64_in _ (by omega)
  rw [hA]
  clear h hone hH hr hre hgH hp hn1 hp1 hroom hnm hb hB hrl hnc hc hs ht hA1' hA2' hx h1c hdl hW1 hc1 hH1 hO1 hc2 hfin hA
  go_enter Try.func51, Try.ntmps51
  go_wp2_with (simp only [hov])
  go_region_law (refine step_copy_run (v := .slice A1 (n1 - p1) (cap - p1)) (u := .slice A2 (n1 - p) (cap - p)) rfl (.tmp 73) (.tmp 76) _ rfl (by kernel_rfl) (by kernel_rfl) (Hc1.out _ _ _) ?_)
  all_goals (
    have hc2 := Hc2.out
    go_wp2_with fail
    go_ret
    have h := Hfin.out
    rw [HA.out] at h
    exact ⟨rfl, h⟩)
set_option maxHeartbeats 4000000 in
set_option maxRecDepth 100000 in
/-- The end, whatever the row. -/
theorem insI_end (B n H : Nat) (v : Value) (rows : List (List Value)) (r : List Value) (te : TypeId) (w : World) (h : OwnK 2 B w 50 v rows) (hn : rows.length = n) (hH : Blk w H te r.toArray) (hr : r.length = 2) (hone : ∀ u ∈ r, u.oneCell' = true) (hB : B ≤ w.heap.size) (hnm : n ≤ 1000000) :
    Calls Try.prog 55 #[v, .int .i64 (n : Int), .slice (some ⟨H, 0, none⟩) 1 1] w fun e w' =>
      ∃ v', e = .returned v' ∧ OwnK 2 B w' 50 v' (rows ++ [r]) ∧ Mod (fun k => v.ownBlock = some k) w w' := by
  obtain ⟨A, c, rfl, _, hnc, hcm, _⟩ := h.form
  rw [hn] at h ⊢
  rw [hn] at hnc
  have Hr : Hid (RdsK 2 w (H + 1) (some ⟨H, 0, none⟩) 1 [r]) := Lib.hid ⟨rfl, AllK.cons hr (AllK.nil _), by simp [hr], fun _ => ⟨_, rfl, Nat.lt_succ_self _, fun j u hu => by rw [add_addr, Nat.zero_add, hH.cell]; simpa using hu⟩⟩
  have Hone : Hid (∀ u ∈ [r].flatten, u.oneCell' = true) := Lib.hid (by simpa using hone)
  have Hown := Lib.hid h
  have hr1 : rows.length + 1 ≤ maxLen := by unfold maxLen; omega
  have hr2 : (rows.length + 1) * 32 ≤ 140737488355328 := by omega
  have b1 : (n : Int) ≤ (c : Int) := by omega
  have b2 : (n : Int) ≤ 1000000 := by omega
  have HB := Lib.hid hB
  obtain ⟨A1, hA1⟩ : ∃ A1, (if c = n then A else A.map (·.add (n * 2))) = A1 := ⟨_, rfl⟩
  clear h hn hH hr hone hnc hcm hB hnm
  go_enter Try.func55, Try.ntmps55
  go_wp2_with (at_builtin; refine wpList_appK (v := .slice A n c) rfl (.tmp 23) (.tmp 24) _ rfl eltIte rfl Hown.out rfl Hr.out Hone.out hr1 hr2 HB.out ?_; intro v4 w4 HO HBl HG)
  go_ret
  exact ⟨_, rfl, HO.out, (Mod.refl _ w).grown HG.out.1 (fun k hk _ => hk)⟩
set_option maxHeartbeats 1000000 in
set_option maxRecDepth 100000 in
/-- Ahead of others, without room: a new row. -/
theorem insS_grow (B g n n1 p p1 k cap H : Nat) (rows : List (List Value)) (r : List Value) (te : TypeId) (w : World) (h : OwnK 5 B w 43 (.slice (some ⟨g, 0, none⟩) n cap) rows) (hone : ∀ u ∈ rows.flatten, u.oneCell' = true) (hH : Blk w H te r.toArray) (hr : r.length = 5) (hre : ∀ u ∈ r, u.oneCell' = true)
    (hp : p < n) (hn1 : n + 1 = n1) (hp1 : p + 1 = p1) (hk : p + k = n1) (hroom : cap < n1) (hnm : n ≤ 1000000) :
    Calls Try.prog 51 #[.slice (some ⟨g, 0, none⟩) n cap, .int .i64 (p : Int), .slice (some ⟨H, 0, none⟩) 1 1] w fun e w' =>
      ∃ v', e = .returned v' ∧ OwnK 5 w.heap.size w' 43 v' (rows.take p ++ [r] ++ rows.drop p) ∧ Mod (fun _ => False) w w' := by
  obtain ⟨cur, hb, hB, hrl, hnc, hc, hs, ht⟩ := h.blk
  obtain ⟨A, hA⟩ : ∃ A, some (⟨g, 0, none⟩ : Addr) = A := ⟨_, rfl⟩
  obtain ⟨G, hG⟩ : ∃ G, G = w.heap.size := ⟨_, rfl⟩
  obtain ⟨E, hE⟩ : ∃ E, some (⟨G, 0, none⟩ : Addr) = E := ⟨_, rfl⟩
  obtain ⟨E1, hE1⟩ : ∃ E1, E.map (fun x => x.add (p1 * 5)) = E1 := ⟨_, rfl⟩
  obtain ⟨E2, hE2⟩ : ∃ E2, E.map (fun x => x.add (p * 5)) = E2 := ⟨_, rfl⟩
  obtain ⟨A2, hA2⟩ : ∃ A2, A.map (fun x => x.add (p * 5)) = A2 := ⟨_, rfl⟩
  have hE1' : E1 = some ⟨G, p1 * 5, none⟩ := by rw [← hE1, ← hE, Option.map_some, add_addr, Nat.zero_add]
  have hE2' : E2 = some ⟨G, p * 5, none⟩ := by rw [← hE2, ← hE, Option.map_some, add_addr, Nat.zero_add]
  have hA2' : A2 = some ⟨g, p * 5, none⟩ := by rw [← hA2, ← hA, Option.map_some, add_addr, Nat.zero_add]
  have h1c : ∀ u ∈ (rows.drop p).flatten, u.oneCell' = true := fun u hu => by
    obtain ⟨r, hr, hu⟩ := List.mem_flatten.1 hu
    exact hone u (List.mem_flatten.2 ⟨r, List.mem_of_mem_drop hr, hu⟩)
  have hdl : (rows.drop p).flatten.length = (n - p) * 5 := by rw [flat_len (h.1.drop p), List.length_drop, hrl]
  obtain ⟨C, W1, hC, hCm, hrun, hO1, hm1⟩ := run_grow_zeros (P := Try.prog) (tn := 3) (kn := .i64) (p := p) (k := k) eltSer Try.underlying3 h (by omega) (by omega) (by omega) (by unfold maxLen; omega) (by omega)
  rw [hk, ← hG] at hrun hO1
  rw [hk] at hC
  have run1 : ∀ ty, (Builtin.append_ #[28, 3] ty #[.slice A p cap, .int .i64 (k : Int)]).run Try.prog w = .ok (.slice E n1 C) W1 := by
    intro ty
    rw [← hA, ← hE]
    exact hrun ty
  obtain ⟨W2, hW2⟩ : ∃ W2, W2 = W1.setCells G (p * 5) r := ⟨_, rfl⟩
  have hHG : H ≠ G := by have := hH.lt; omega
  have hgG : g ≠ G := by have := hb.lt; omega
  have hH1 : Blk W1 H te r.toArray := hm1.blk hH (fun h => h)
  have hc1 : ∀ ty dc, (Builtin.copy_ #[28, 28] ty #[.slice E2 (n1 - p) dc, .slice (some ⟨H, 0, none⟩) 1 1]).run Try.prog W1 = .ok (goInt 1) W2 := fun ty dc => by
    rw [hE2', hW2]
    refine run_copyK (w := W1) (b := G) (o := p * 5) (dLen := n1 - p) (sLen := 1) (m := 1) eltSer (by simp only [Nat.min_def]; split <;> omega) (by rw [hr]) (fun j u hu => ?_) (fun j hj => (hO1.open_ (by omega)).1) (fun j hj => (hO1.open_ (by omega)).2) hre ty
    rw [add_addr, Nat.zero_add, hH1.cell]
    simpa using hu
  have hO2 : OwnK 5 G W2 43 (.slice (some ⟨G, 0, none⟩) n1 C) ((rows.take p ++ List.replicate k zeroSer.cells.toList).take p ++ [r] ++ (rows.take p ++ List.replicate k zeroSer.cells.toList).drop (p + [r].length)) := by
    have h5 := hO1.laid (p := p) (news := [r]) (AllK.cons hr (AllK.nil _)) (by simp; omega)
    have e5 : [r].flatten = r := by simp
    rw [e5] at h5
    rw [hW2]
    exact h5
  have hb2 : Blk W2 g 43 cur := by rw [hW2]; exact (Mod.setCells W1 G _ _).blk (hm1.blk hb (fun h => h)) hgG
  obtain ⟨W3, hW3⟩ : ∃ W3, W3 = W2.drew.setCells G (p1 * 5) (rows.drop p).flatten := ⟨_, rfl⟩
  have hc2 : ∀ ty dc sc, (Builtin.copy_ #[28, 28] ty #[.slice E1 (n1 - p1) dc, .slice A2 (n - p) sc]).run Try.prog W2.drew = .ok (goInt ((n - p : Nat) : Int)) W3 := fun ty dc sc => by
    rw [hE1', hA2', hW3]
    refine run_copyK (w := W2.drew) (b := G) (o := p1 * 5) (dLen := n1 - p1) (sLen := n - p) (m := n - p) eltSer (by simp only [Nat.min_def]; split <;> omega) hdl (fun j u hu => ?_) (fun j hj => (hO2.drew.open_ (by rw [hdl] at hj; omega)).1) (fun j hj => (hO2.drew.open_ (by rw [hdl] at hj; omega)).2) h1c ty
    rw [add_addr]
    show W2.cell? _ = _
    rw [hb2.cell]
    have h6 : j < (n - p) * 5 := by rw [← hdl]; exact (List.getElem?_eq_some_iff.1 hu).1
    rw [← flat_drop p h.1, List.getElem?_drop, ← ht, List.getElem?_take] at hu
    rw [if_pos (by omega)] at hu
    simpa using hu
  have hfin : OwnK 5 w.heap.size W3 43 (.slice E n1 C) (rows.take p ++ [r] ++ rows.drop p) ∧ Mod (fun _ => False) w W3 := by
    have h5 := hO2.drew.laid (p := p1) (h.1.drop p) (by rw [List.length_drop]; omega)
    have ek : k = n + 1 - p := by omega
    rw [← hp1, ek, insert_grown rows zeroSer.cells.toList r hrl (by omega)] at h5
    rw [← hE, hW3, ← hp1, ← hG]
    refine ⟨h5, ?_⟩
    have h6 : Mod (fun k => k = G) W1 W3 := by rw [hW3, hW2]; exact mod_setCells _ _ _ _ _ (mod_setCells _ _ _ _ _ (Mod.refl _ W1)).drew
    rw [hp1, ← hW3]
    exact hm1.trans h6 (fun i hi e => by omega)
  have Hrun := Lib.hid run1
  have Hc1 := Lib.hid hc1
  have Hc2 := Lib.hid hc2
  have Hfin := Lib.hid hfin
  have b1 : ¬ (p : Int) = (n : Int) := by omega
  have b2 : (p : Int) ≤ (n : Int) := by omega
  have b3 : (n : Int) ≤ (cap : Int) := by omega
  have b4 : (cap : Int) < (n1 : Int) := by omega
  have b5 : (n : Int) + 1 = (n1 : Int) := by omega
  have b6 : (p : Int) + 1 = (p1 : Int) := by omega
  have b7 : (n : Int) ≤ 1000000 := by omega
  have b8 : (p1 : Int) ≤ (n1 : Int) := by omega
  have b9 : (p : Int) ≤ (n1 : Int) := by omega
  have b10 : (n1 : Int) ≤ (C : Int) := by omega
  have b11 : IntKind.i64.wrap (p1 : Int) = (p1 : Int) := IntWalk.i64_in _ (by omega)
  have b12 : ¬ cap = p := by omega
  have b13 : ¬ C = p := by omega
  have b14 : ¬ C = p1 := by omega
  have b15 : (n1 : Int) - (p : Int) = (k : Int) := by omega
  have b16 : (p : Int) ≤ (C : Int) := by omega
  have b17 : (p1 : Int) ≤ (C : Int) := by omega
  have b18 : (p : Int) ≤ (cap : Int) := by omega
  have hCm2 : (C : Int) ≤ 9223372036854775807 := by unfold maxLen at hCm; omega
  rw [hA]
  clear h hone hH hr hre hp hn1 hp1 hk hroom hnm hb hB hrl hnc hc hs ht hE1' hE2' hA2' h1c hdl hC hCm hrun hO1 hm1 run1 hW2 hHG hgG hH1 hc1 hO2 hb2 hW3 hc2 hfin hA hG hE
  go_enter Try.func51, Try.ntmps51
  have hc1 := Hc1.out
  go_wp2_with (at_builtin; refine Lib.wpList_append_run w rfl (.tmp 34) (.tmp 39) 28 3 rfl (.slice A p cap) (.int .i64 (k : Int)) (by kernel_rfl) (by kernel_rfl) (.slice E n1 C) W1 (Hrun.out _) ?_)
  go_region_law (refine step_copy_run (v := .slice E1 (n1 - p1) (C - p1)) (u := .slice A2 (n - p) (cap - p)) rfl (.tmp 50) (.tmp 53) _ rfl (by kernel_rfl) (by kernel_rfl) (Hc2.out _ _ _) ?_)
  all_goals (
    go_wp2_with fail
    go_ret
    exact ⟨_, rfl, Hfin.out⟩)
/-- slices.Insert(s, p, x) -/
theorem insS_any (B n p H : Nat) (v : Value) (rows : List (List Value)) (r : List Value) (te : TypeId) (w : World) (h : OwnK 5 B w 43 v rows) (hn : rows.length = n) (hone : ∀ u ∈ rows.flatten, u.oneCell' = true) (hH : Blk w H te r.toArray) (hr : r.length = 5) (hre : ∀ u ∈ r, u.oneCell' = true)
    (hHv : v.ownBlock ≠ some H) (hp : p ≤ n) (hB : B ≤ w.heap.size) (hnm : n ≤ 1000000) :
    Calls Try.prog 51 #[v, .int .i64 (p : Int), .slice (some ⟨H, 0, none⟩) 1 1] w fun e w' =>
      ∃ v', e = .returned v' ∧ OwnK 5 B w' 43 v' (rows.take p ++ [r] ++ rows.drop p) ∧ Mod (fun k => v.ownBlock = some k) w w' := by
  by_cases hpn : p = n
  · subst hpn
    have e1 : rows.take p ++ [r] ++ rows.drop p = rows ++ [r] := by rw [List.take_of_length_le (by omega), List.drop_of_length_le (by omega), List.append_nil]
    rw [e1]
    exact insS_end B p H v rows r te w h hn hH hr hre hB hnm
  · obtain ⟨g, cap, rfl, hnc, hcm, hBg, hgl⟩ := h.form' (by omega)
    rw [hn] at h ⊢
    rw [hn] at hnc
    by_cases hroom : n + 1 ≤ cap
    · refine (insS_room B g n (n + 1) p (p + 1) cap H rows r te w h hone hH hr hre (fun e => hHv (by simp [Value.ownBlock, e])) (by omega) rfl rfl hroom hnm).mono ?_
      rintro e w' ⟨rfl, h1, h2⟩
      exact ⟨_, rfl, h1, h2.mono (fun k _ e => by simp [Value.ownBlock, e])⟩
    · refine (insS_grow B g n (n + 1) p (p + 1) (n + 1 - p) cap H rows r te w h hone hH hr hre (by omega) rfl rfl (by omega) (by omega) hnm).mono ?_
      rintro e w' ⟨v', rfl, h1, h2⟩
      exact ⟨_, rfl, h1.mono hB, h2.mono (fun k _ e => e.elim)⟩
end Go.Proofs.Ytejnhdenehkpmaa

/- begin: a series comes among the others. -/
namespace Go.Proofs.Ytejnhdenehkpmaa
open Go.RowKit

def newN (id : Int) : SerN := ⟨id, false, false, 0, []⟩
def BeginEnd (B : Nat) (w w' : World) (gm : Nat) (v v2 : Value) (m : ModN) (id : Int) (e : Ending) : Prop :=
  ∃ (k : Nat) (v' : Value), e = .returned (.int .i64 (k : Int)) ∧ LstN (fun q => id < q.id) m.ser k ∧ Blk w' gm 31 #[v', v2, .int .i64 m.next] ∧ HavM B w' v' v2 { m with ser := m.ser.take k ++ newN id :: m.ser.drop k } ∧ Mod (fun j => v.ownBlock = some j ∨ j = gm) w w'
set_option maxHeartbeats 2000000 in
set_option maxRecDepth 100000 in
theorem begin_any (B gm : Nat) (v v2 : Value) (m : ModN) (id : Int) (w : World) (hb : Blk w gm 31 #[v, v2, .int .i64 m.next]) (hM : HavM B w v v2 m) (hB : B ≤ w.heap.size) (hn : m.ser.length ≤ 100000) :
    Calls Try.prog 39 #[.pointer (some ⟨gm, 0, none⟩), .int .i64 id] w fun e w' => BeginEnd B w w' gm v v2 m id e := by
  obtain ⟨ps, hps, hS, hput⟩ := hM.ser
  obtain ⟨A, c, rfl, hnc, hcm, hR⟩ := hS.form
  obtain ⟨n, hnn⟩ : ∃ n, n = ps.length := ⟨_, rfl⟩
  rw [← hnn] at hnc hR hb hS hM hput ⊢
  have hln : n ≤ 100000 := by rw [hnn, ← List.length_map (f := (·.1)), hps]; exact hn
  obtain ⟨W, hW, hmW, hbW, hzW⟩ := Blk.box w 3 #[.int .i64 id]
  obtain ⟨G, hG⟩ : ∃ g, g = w.heap.size := ⟨_, rfl⟩
  rw [← hG] at hbW
  have hgm := hb.lt
  have z0 := (hmW.blk hb (fun h => h)).cell 0
  have y0 := hbW.cell 0
  simp at z0 y0
  have Hone := Lib.hid (serC_one hS.2)
  have HR := Lib.hid (hR.mod hmW (Nat.le_refl _) (fun _ _ h => h)); have HS := Lib.hid hS; have Hb := Lib.hid hb; have Hput := Lib.hid hput; have Hps := Lib.hid hps
  have HW := Lib.hid hW; have HmW := Lib.hid hmW; have HbW := Lib.hid hbW; have HG := Lib.hid hG; have HzW := Lib.hid hzW; have Hgm := Lib.hid hgm; have Hnn := Lib.hid hnn; have HB := Lib.hid hB; have HM := Lib.hid hM
  have hln1 : n ≤ 1000000 := by omega
  clear hW hmW hbW hG hzW hb hM hB hn hps hS hput hR hgm hnn
  go_enter Try.func39, Try.ntmps39
  go_upto_region 1 with fail
  rw [← HW.out, ← HG.out]
  go_wp2_with fail
  refine (placeS A n c _ ps G id W HR.out y0 hln1).mono ?_
  rintro e w1 ⟨k, rfl, hk, hm1⟩
  have hkn : k ≤ n := by have := hk.1; rw [List.length_map, ← Hnn.out] at this; exact this
  have hmw := HmW.out.trans hm1 (fun _ _ h => h)
  have hb1 := hmw.blk Hb.out (fun h => h)
  have hG1 := hm1.blk HbW.out (fun h => h)
  have hO1 : OwnK 5 B w1 43 (.slice A n c) (ps.map serC) := HS.out.1.mod hmw
  have x0 := hb1.cell 0
  have x1 := hG1.cell 0
  simp at x0 x1
  have x0a : ∀ o, (w1.alloc o).cell? ⟨gm, 0, none⟩ = some (.slice A n c) := fun o => by have := (hb1.alloc o).cell 0; simpa using this
  have x1a : ∀ o, (w1.alloc o).cell? ⟨G, 0, none⟩ = some (.int .i64 id) := fun o => by have := (hG1.alloc o).cell 0; simpa using this
  have hown : ∀ j, (Value.slice A n c).ownBlock = some j → j < w1.heap.size := fun j hj => (hO1.block j hj).2
  have Hins : Hid (Calls Try.prog 51 #[.slice A n c, .int .i64 (k : Int), .slice (some ⟨w1.heap.size, 0, none⟩) 1 1] (w1.alloc (.cells #[.int .i64 id, .bool false, .bool false, .int .i64 0, .slice none 0 0] 43)).drew fun e w' =>
      ∃ A' L' c', e = .returned (.slice A' L' c') ∧ OwnK 5 B w' 43 (.slice A' L' c') ((ps.map serC).take k ++ [serC (newN id, .slice none 0 0)] ++ (ps.map serC).drop k) ∧ Mod (fun j => (Value.slice A n c).ownBlock = some j) w1 w' ∧ Blk w' gm 31 #[.slice A n c, v2, .int .i64 m.next]) := Lib.hid (by
    refine (insS_any B n k w1.heap.size (.slice A n c) (ps.map serC) [.int .i64 id, .bool false, .bool false, .int .i64 0, .slice none 0 0] 43 _ (OwnK.drew (hO1.alloc _)) (by rw [List.length_map]; exact Hnn.out.symm) Hone.out (Blk.drew (Blk.new w1 _ _)) rfl (by intro u hu; simp at hu; rcases hu with rfl | rfl | rfl | rfl | rfl <;> rfl) (fun e => by have := hown _ e; omega) hkn (by have := HB.out; have := hmw.size; show B ≤ (w1.alloc _).heap.size; simp; omega) hln1).mono ?_
    rintro e w' ⟨v', rfl, h1, h2⟩
    have h3 : Mod (fun j => (Value.slice A n c).ownBlock = some j) w1 w' := (((Mod.refl _ w1).alloc _).drew).trans h2 (fun i _ h => h)
    obtain ⟨A', L', c', e', _⟩ := h1.formN
    subst e'
    refine ⟨A', L', c', rfl, h1, h3, h3.blk hb1 (fun e => ?_)⟩
    obtain ⟨cs, hcs⟩ := own_blk hO1 gm e
    exact Blk.ne_ hcs hb1 (by decide) rfl)
  have Hfin : Hid (∀ A' L' c' w', OwnK 5 B w' 43 (.slice A' L' c') ((ps.map serC).take k ++ [serC (newN id, .slice none 0 0)] ++ (ps.map serC).drop k) → Mod (fun j => (Value.slice A n c).ownBlock = some j) w1 w' → Blk w' gm 31 #[.slice A n c, v2, .int .i64 m.next] →
      BeginEnd B w (w'.setCell ⟨gm, 0, none⟩ (.slice A' L' c')) gm (.slice A n c) v2 m id (.returned (.int .i64 (k : Int)))) := Lib.hid (by
    intro A' L' c' w' h1 h2 h3
    have h4 := Hput.out w' (.slice A' L' c') (ps.take k ++ [(newN id, .slice none 0 0)] ++ ps.drop k) { m with ser := m.ser.take k ++ newN id :: m.ser.drop k } (hmw.mono (fun _ _ h => h.elim) |>.trans h2 (fun _ _ h => h)) (by simpa using h1) (fun p hp => by
      rcases List.mem_append.1 hp with hp | hp
      · rcases List.mem_append.1 hp with hp | hp
        · exact .inl (List.mem_of_mem_take hp)
        · rw [List.mem_singleton.1 hp]; exact .inr (SliH.nil _ _)
      · exact .inl (List.mem_of_mem_drop hp)) (by simp [← Hps.out]) rfl
    have h5 : Mod (fun j => j = gm) w' (w'.setCell ⟨gm, 0, none⟩ (.slice A' L' c')) := (Mod.refl (fun j => j = gm) w').setCell (p := ⟨gm, 0, none⟩) (fun _ => rfl) _
    refine ⟨k, _, rfl, by rw [← Hps.out]; exact hk, by have := h3.set_ 0 (.slice A' L' c'); simpa using this, h4.far h5 (Far.one h3 (by decide) (by decide) (by decide)), (hmw.mono (fun _ _ h => h.elim) |>.trans h2 (fun _ _ h => .inl h)).trans h5 (fun _ _ h => .inr h)⟩)
  clear z0 y0 hk hkn hmw hb1 hG1 hO1 hown hm1
  go_upto_region 2 with fail
  go_region_with (first
    | (go_at_call 51; refine Hins.out.mono ?_; rintro e w2 ⟨A', L', c', rfl, h1, h2, h3⟩; have H1 := Lib.hid h1; have H2 := Lib.hid h2; have H3 := Lib.hid h3; have q0 := h3.cell 0; have p0 := h3.frozen 0; simp at q0; clear h1 h2 h3))
  all_goals (
    go_wp2_with fail
    go_ret
    exact Hfin.out _ _ _ _ H1.out H2.out H3.out)
end Go.Proofs.Ytejnhdenehkpmaa

/- open: an iterator is begun. -/
namespace Go.Proofs.Ytejnhdenehkpmaa
open Go.RowKit

def OpenEnd (B : Nat) (w w' : World) (gm : Nat) (v v2 : Value) (m : ModN) (l3 : List (Int × Nat)) (e : Ending) : Prop :=
  (8 ≤ m.ite.length ∧ e = .returned (.agg #[.int .i64 5, .int .i64 0, .slice none 0 0]) ∧ Mod (fun _ => False) w w') ∨
  (m.ite.length < 8 ∧ e = .returned (.agg #[.int .i64 0, .int .i64 (m.next + 1), .slice none 0 0]) ∧ ∃ v', Blk w' gm 31 #[v, v', .int .i64 (m.next + 1)] ∧ HavM B w' v v' { m with next := m.next + 1, ite := m.ite ++ [⟨m.next + 1, l3⟩] } ∧
    Mod (fun j => v2.ownBlock = some j ∨ j = gm ∨ w.heap.size ≤ j) w w')
set_option maxHeartbeats 2000000 in
set_option maxRecDepth 100000 in
theorem open_any (B gm : Nat) (v v2 : Value) (m : ModN) (A3 : Option Addr) (n3 c3 : Nat) (l3 : List (Int × Nat)) (w : World) (hb : Blk w gm 31 #[v, v2, .int .i64 m.next]) (hM : HavM B w v v2 m) (hB : B ≤ w.heap.size) (hs : SliH B w (.slice A3 n3 c3) l3)
    (hn : m.ite.length ≤ 8) (hi : ∀ i ∈ m.ite, i.id ≤ m.next) (hx : 0 ≤ m.next ∧ m.next ≤ 1000000) :
    Calls Try.prog 43 #[.pointer (some ⟨gm, 0, none⟩), .slice A3 n3 c3] w fun e w' => OpenEnd B w w' gm v v2 m l3 e := by
  obtain ⟨ps, hps, hS, hput⟩ := hM.ite
  obtain ⟨A, c, rfl, hnc, hcm, hR⟩ := hS.form
  obtain ⟨n, hnn⟩ : ∃ n, n = ps.length := ⟨_, rfl⟩
  rw [← hnn] at hnc hR hb hS hM hput ⊢
  have hln : m.ite.length = n := by rw [hnn, ← hps, List.length_map]
  obtain ⟨N, hN⟩ : ∃ N, N = m.next := ⟨_, rfl⟩
  have hb' := hb
  rw [← hN] at hb' hx
  obtain ⟨W, hW, hmW, hbW, hzW⟩ := Blk.box w 34 #[.int .i64 0, .int .i64 0, .slice none 0 0]
  obtain ⟨G, hG⟩ : ∃ g, g = w.heap.size := ⟨_, rfl⟩
  rw [← hG] at hbW
  have hgm := hb.lt
  have z1 := (hmW.blk hb' (fun h => h)).cell 1
  have z2 := (hmW.blk hb' (fun h => h)).cell 2
  simp at z1 z2
  have Hb' := Lib.hid (hmW.blk hb' (fun h => h))
  have Hone := Lib.hid (iteC_one hS.2)
  have HR := Lib.hid (hR.mod hmW (Nat.le_refl _) (fun _ _ h => h)); have HS := Lib.hid hS; have Hput := Lib.hid hput; have Hps := Lib.hid hps; have Hs := Lib.hid hs; have Hi := Lib.hid hi
  have HW := Lib.hid hW; have HmW := Lib.hid hmW; have HbW := Lib.hid hbW; have HG := Lib.hid hG; have HzW := Lib.hid hzW; have Hgm := Lib.hid hgm; have Hnn := Lib.hid hnn; have HB := Lib.hid hB; have HN := Lib.hid hN; have Hln := Lib.hid hln
  have hx0 := hx.1
  have hx1 := hx.2
  have hn8 : n ≤ 8 := by omega
  have hln1 : n ≤ 1000000 := by omega
  clear hW hmW hbW hG hzW hb hb' hM hB hn hps hS hput hR hgm hnn hs hi hx hN hln
  go_enter Try.func43, Try.ntmps43
  by_cases h8 : 8 ≤ n
  · have h8i : (8 : Int) ≤ (n : Int) := by omega
    have H8 := Lib.hid h8
    clear h8 z2
    go_upto_region 1 with fail
    rw [← HW.out, ← HG.out]
    go_wp2_with fail
    refine (failed_any 5 W).mono ?_
    rintro e w1 ⟨rfl, hm1⟩
    have hb1 := hm1.blk HbW.out (fun h => h)
    have r0 := hb1.cell 0
    have r1 := hb1.cell 1
    have r2 := hb1.cell 2
    have f0 := hb1.frozen 0
    have f1 := hb1.frozen 1
    have f2 := hb1.frozen 2
    simp at r0 r1 r2
    have Hb1 := Lib.hid hb1; have Hm1 := Lib.hid (HmW.out.trans hm1 (fun _ _ h => h))
    clear hb1 hm1
    go_wp2_with fail
    refine bodyPost_ret (v := .agg #[.int .i64 5, .int .i64 0, .slice none 0 0]) (by have h := Hb1.out.three (.int .i64 5) (.int .i64 0) (.slice none 0 0); simp [results, Try.results43, go_sem, h.1, h.2.1, h.2.2.1]) rfl ?_
    exact .inl ⟨by rw [Hln.out]; exact H8.out, rfl, Hm1.out.three_new (by have := HG.out; omega) _ _ _⟩
  · have h8i : ¬ (8 : Int) ≤ (n : Int) := by omega
    have h8j : (n : Int) < 8 := by omega
    have H8 := Lib.hid h8
    clear h8
    go_upto_region 1 with fail
    rw [← HW.out, ← HG.out]
    obtain ⟨W2, hW2, hm2, hb2, hz2⟩ := Blk.box W 3 #[.int .i64 (N + 1)]
    obtain ⟨G2, hG2⟩ : ∃ g, g = W.heap.size := ⟨_, rfl⟩
    rw [← hG2] at hb2
    have x1 := (hm2.blk Hb'.out (fun h => h)).cell 1
    have y0 := hb2.cell 0
    simp at x1 y0
    have HR2 := Lib.hid (HR.out.mod hm2 (by have := HzW.out; omega) (fun _ _ h => h))
    have Hb2' := Lib.hid (hm2.blk Hb'.out (fun h => h))
    have HW2 := Lib.hid hW2; have Hm2 := Lib.hid hm2; have Hb2 := Lib.hid hb2; have HG2 := Lib.hid hG2
    have Hr2 := Lib.hid (hm2.blk HbW.out (fun h => h))
    clear hW2 hm2 hb2 hG2 hz2
    go_upto_region 4 with fail
    rw [← HW2.out, ← HG2.out]
    go_wp2_with fail
    refine (placeI A n c _ ps G2 (N + 1) W2 HR2.out y0 hln1).mono ?_
    rintro e w1 ⟨k, rfl, hk, hm1⟩
    have hkn : k = n := by
      rcases hk.2.2 with h | ⟨s, h1, h2⟩
      · rw [h, List.length_map]; exact Hnn.out.symm
      · have h3 := Hi.out s (by rw [← Hps.out]; exact List.mem_of_getElem? h1)
        have := HN.out
        omega
    subst hkn
    have hmw := Hm2.out.trans hm1 (fun _ _ h => h)
    have hmw0 := HmW.out.trans hmw (fun _ _ h => h)
    have hb1 := hm1.blk Hb2'.out (fun h => h)
    have hG1 := hm1.blk Hb2.out (fun h => h)
    have hr1 := hm1.blk Hr2.out (fun h => h)
    have hO1 : OwnK 2 B w1 50 (.slice A k c) (ps.map iteC) := HS.out.1.mod hmw0
    have u1 := hb1.cell 1
    have u0 := hG1.cell 0
    simp at u1 u0
    have u1a : ∀ o, (w1.alloc o).cell? ⟨gm, 1, none⟩ = some (.slice A k c) := fun o => by have := (hb1.alloc o).cell 1; simpa using this
    have u0a : ∀ o, (w1.alloc o).cell? ⟨G2, 0, none⟩ = some (.int .i64 (N + 1)) := fun o => by have := (hG1.alloc o).cell 0; simpa using this
    have hown : ∀ j, (Value.slice A k c).ownBlock = some j → j < w1.heap.size := fun j hj => (hO1.block j hj).2
    have Hins : Hid (Calls Try.prog 55 #[.slice A k c, .int .i64 (k : Int), .slice (some ⟨w1.heap.size, 0, none⟩) 1 1] (w1.alloc (.cells #[.int .i64 (N + 1), .slice A3 n3 c3] 50)).drew fun e w' =>
        ∃ A' L' c', e = .returned (.slice A' L' c') ∧ OwnK 2 B w' 50 (.slice A' L' c') (ps.map iteC ++ [iteC (⟨N + 1, l3⟩, .slice A3 n3 c3)]) ∧ Mod (fun j => (Value.slice A k c).ownBlock = some j) w1 w' ∧ Blk w' gm 31 #[v, .slice A k c, .int .i64 N] ∧ Blk w' G2 3 #[.int .i64 (N + 1)] ∧ Blk w' G 34 #[.int .i64 0, .int .i64 0, .slice none 0 0]) := Lib.hid (by
      refine (insI_end B k w1.heap.size (.slice A k c) (ps.map iteC) [.int .i64 (N + 1), .slice A3 n3 c3] 50 _ (OwnK.drew (hO1.alloc _)) (by rw [List.length_map]; exact Hnn.out.symm) (Blk.drew (Blk.new w1 _ _)) rfl (by intro u hu; simp at hu; rcases hu with rfl | rfl <;> rfl) (by have := HB.out; have := hmw0.size; show B ≤ (w1.alloc _).heap.size; simp; omega) hln1).mono ?_
      rintro e w' ⟨v', rfl, h1, h2⟩
      have h3 : Mod (fun j => (Value.slice A k c).ownBlock = some j) w1 w' := (((Mod.refl _ w1).alloc _).drew).trans h2 (fun i _ h => h)
      obtain ⟨A', L', c', e', _⟩ := h1.formN
      subst e'
      refine ⟨A', L', c', rfl, h1, h3, h3.blk hb1 (fun e => ?_), h3.blk hG1 (fun e => ?_), h3.blk hr1 (fun e => ?_)⟩
      · obtain ⟨cs, hcs⟩ := own_blk hO1 gm e
        exact Blk.ne_ hcs hb1 (by decide) rfl
      · obtain ⟨cs, hcs⟩ := own_blk hO1 G2 e
        exact Blk.ne_ hcs hG1 (by decide) rfl
      · obtain ⟨cs, hcs⟩ := own_blk hO1 G e
        exact Blk.ne_ hcs hr1 (by decide) rfl)
    have hne1 : ¬ G = gm := by have := HG.out; have := Hgm.out; omega
    have hne2 : ¬ G2 = gm := by have := HG2.out; have := HzW.out; have := Hgm.out; omega
    have Hne1 := Lib.hid hne1
    have Hfin : Hid (∀ A' L' c' w' w'', OwnK 2 B w' 50 (.slice A' L' c') (ps.map iteC ++ [iteC (⟨N + 1, l3⟩, .slice A3 n3 c3)]) → Mod (fun j => (Value.slice A k c).ownBlock = some j) w1 w' → Blk w' gm 31 #[v, .slice A k c, .int .i64 N] → Blk w' G 34 #[.int .i64 0, .int .i64 0, .slice none 0 0] →
        Mod (fun j => j = G) ((w'.setCell ⟨gm, 1, none⟩ (.slice A' L' c')).setCell ⟨gm, 2, none⟩ (.int .i64 (N + 1))) w'' →
        OpenEnd B w w'' gm v (.slice A k c) m l3 (.returned (.agg #[.int .i64 0, .int .i64 (N + 1), .slice none 0 0]))) := Lib.hid (by
      intro A' L' c' w' w'' h1 h2 h3 h3' h6
      have h4 := Hput.out w' (.slice A' L' c') (ps ++ [(⟨N + 1, l3⟩, .slice A3 n3 c3)]) { m with next := m.next + 1, ite := m.ite ++ [⟨m.next + 1, l3⟩] } (hmw0.mono (fun _ _ h => h.elim) |>.trans h2 (fun _ _ h => h)) (by simpa using h1) (fun p hp => by
        rcases List.mem_append.1 hp with hp | hp
        · exact .inl hp
        · rw [List.mem_singleton.1 hp]; exact .inr Hs.out) (by simp [← Hps.out, HN.out]) rfl
      have h5 : Mod (fun j => j = gm) w' ((w'.setCell ⟨gm, 1, none⟩ (.slice A' L' c')).setCell ⟨gm, 2, none⟩ (.int .i64 (N + 1))) := ((Mod.refl (fun j => j = gm) w').setCell (p := ⟨gm, 1, none⟩) (fun _ => rfl) _).setCell (p := ⟨gm, 2, none⟩) (fun _ => rfl) _
      have h7 : Blk ((w'.setCell ⟨gm, 1, none⟩ (.slice A' L' c')).setCell ⟨gm, 2, none⟩ (.int .i64 (N + 1))) gm 31 #[v, .slice A' L' c', .int .i64 (N + 1)] := by have := (h3.set_ 1 (.slice A' L' c')).set_ 2 (.int .i64 (N + 1)); simpa using this
      have h8 : Blk ((w'.setCell ⟨gm, 1, none⟩ (.slice A' L' c')).setCell ⟨gm, 2, none⟩ (.int .i64 (N + 1))) G 34 #[.int .i64 0, .int .i64 0, .slice none 0 0] := h5.blk h3' Hne1.out
      refine .inr ⟨by rw [Hln.out]; have := H8.out; omega, by rw [HN.out], .slice A' L' c', by rw [← HN.out]; exact h6.blk h7 (fun e => Hne1.out e.symm), (h4.far h5 (Far.one h3 (by decide) (by decide) (by decide))).far h6 (Far.one h8 (by decide) (by decide) (by decide)), ?_⟩
      exact ((hmw0.mono (fun _ _ h => h.elim) |>.trans h2 (fun _ _ h => .inl h)).trans h5 (fun _ _ h => .inr (.inl h))).trans h6 (fun _ _ h => .inr (.inr (by have := HG.out; omega))))
    clear x1 y0 z1 z2 hk hmw hmw0 hb1 hG1 hr1 hO1 hown hm1
    go_upto_region 5 with fail
    go_region_with (first
      | (go_at_call 55; refine Hins.out.mono ?_; rintro e w2 ⟨A', L', c', rfl, h1, h2, h3, h4, h5⟩; have H1 := Lib.hid h1; have H2 := Lib.hid h2; have H3 := Lib.hid h3; have H5 := Lib.hid h5; have q0 := h3.cell 1; have p0 := h3.frozen 1; have q2 := h3.cell 2; have p2 := h3.frozen 2; have q4 := h4.cell 0; simp at q0 q2 q4; clear h1 h2 h3 h4 h5))
    all_goals (
      obtain ⟨W3, hW3⟩ : ∃ W3, W3 = (w2.setCell ⟨gm, 1, none⟩ (.slice A' L' c')).setCell ⟨gm, 2, none⟩ (.int .i64 (N + 1)) := ⟨_, rfl⟩
      have hb3 : Blk W3 G 34 #[.int .i64 0, .int .i64 0, .slice none 0 0] := by rw [hW3]; exact (H5.out.far (p := ⟨gm, 1, none⟩) hne1 _).far (p := ⟨gm, 2, none⟩) hne1 _
      have r0 := hb3.cell 0
      have r1 := hb3.cell 1
      have r2 := hb3.cell 2
      have f0 := hb3.frozen 0
      have f1 := hb3.frozen 1
      have f2 := hb3.frozen 2
      have t0 : W3.cell? ⟨G2, 0, none⟩ = some (.int .i64 (N + 1)) := by
        rw [hW3, World.cell?_setCell_other _ _ _ _ (by simp), World.cell?_setCell_other _ _ _ _ (by simp)]
        exact q4
      simp at r0 r1 r2
      have HW3 := Lib.hid hW3; have Hb3 := Lib.hid hb3
      clear hW3 hb3
      go_upto_region 7 with fail
      rw [← HW3.out]
      go_wp2_with fail
      refine bodyPost_ret (v := .agg #[.int .i64 0, .int .i64 (N + 1), .slice none 0 0]) (by have h := Hb3.out.three (.int .i64 0) (.int .i64 (N + 1)) (.slice none 0 0); simp [results, Try.results43, go_sem, h.1, h.2.1, h.2.2.1]) rfl ?_
      exact Hfin.out _ _ _ w2 _ H1.out H2.out H3.out H5.out (by rw [← HW3.out]; exact Mod.three_one _ _ _ _ _))
end Go.Proofs.Ytejnhdenehkpmaa

/- What an op comes to in memory: the model's struct, its rows, what is answered. -/
namespace Go.Proofs.Ytejnhdenehkpmaa
open Go.RowKit

/-- What may turn: what is the model's, and what is new; what ops and results lie in stays. -/
def Low (B : Nat) (w : World) (j : Nat) : Prop := B ≤ j ∧ ∀ t cs, Blk w j t cs → t ≠ 34 ∧ t ≠ 24
theorem Low.of {B g : Nat} {w w3 : World} (h : Mod (Low B w) w w3) {t : TypeId} {cs : Array Value} (hb : Blk w3 g t cs) (h1 : t ≠ 34) (h2 : t ≠ 24) (hB : B ≤ g) : Low B w g := by
  refine ⟨hB, fun t' cs' hb' => ?_⟩
  constructor
  · rintro rfl
    exact Blk.ne_ (h.blk hb' (fun hl => (hl.2 _ _ hb').1 rfl)) hb (fun e => h1 e.symm) rfl
  · rintro rfl
    exact Blk.ne_ (h.blk hb' (fun hl => (hl.2 _ _ hb').2 rfl)) hb (fun e => h2 e.symm) rfl
def ApEnd (B : Nat) (w w' : World) (gm : Nat) (m' : ModN) (r : ResN) (e : Ending) : Prop := ∃ v v2 A3 n3 c3, e = .returned (.agg #[.int .i64 r.err, .int .i64 r.iter, .slice A3 n3 c3]) ∧ Blk w' gm 31 #[v, v2, .int .i64 m'.next] ∧ HavM B w' v v2 m' ∧ SliH B w' (.slice A3 n3 c3) r.l ∧ Mod (Low B w) w w'
/-- All but the store into what is answered. -/
def Tail (B : Nat) (w w2 : World) (gm G : Nat) (m' : ModN) (r : ResN) (x it : Int) (v3 : Value) : Prop :=
  Blk w2 G 34 #[.int .i64 0, .int .i64 0, .slice none 0 0] ∧ ∀ w'', Mod (fun j => j = G) w2 w'' → ApEnd B w w'' gm m' r (.returned (.agg #[.int .i64 x, .int .i64 it, v3]))
section
variable {B gm G : Nat} {w w2 : World} {m m' : ModN} {r : ResN} {v v2 : Value}
theorem Tail.mk {A3 : Option Addr} {n3 c3 : Nat} {x it : Int} (h1 : Blk w2 gm 31 #[v, v2, .int .i64 m'.next]) (h2 : HavM B w2 v v2 m') (h3 : SliH B w2 (.slice A3 n3 c3) r.l) (h4 : Blk w2 G 34 #[.int .i64 0, .int .i64 0, .slice none 0 0]) (h5 : Mod (Low B w) w w2) (h6 : w.heap.size ≤ G)
    (hr : r.err = x) (hi : r.iter = it) : Tail B w w2 gm G m' r x it (.slice A3 n3 c3) := by
  refine ⟨h4, fun w'' hm => ⟨v, v2, A3, n3, c3, by rw [hr, hi], hm.blk h1 (fun e => ?_), h2.far hm (Far.one h4 (by decide) (by decide) (by decide)), h3.mod hm (fun k cs _ hb e => ?_), h5.trans hm (fun _ hi e => by omega)⟩⟩
  · rw [e] at h1; exact Blk.ne_ h1 h4 (by decide) rfl
  · rw [e] at hb; exact Blk.ne_ hb h4 (by decide) rfl
/-- What stands where an op has looked for its series, its iterator. -/
structure Base (B : Nat) (w w1 : World) (gm G G0 : Nat) (v v2 : Value) (m : ModN) (o : OpN) : Prop where
  mod : Mod (Low B w) w w1
  blk : Blk w1 gm 31 #[v, v2, .int .i64 m.next]
  hav : HavM B w1 v v2 m
  op : Blk w1 G0 24 #[.int .i64 o.kind, .int .i64 o.series, .int .i64 o.iter, .int .i64 o.t, .int .u64 (o.v : Int), .int .i64 o.from_, .int .i64 o.to_, .int .i64 o.n]
  res : Blk w1 G 34 #[.int .i64 0, .int .i64 0, .slice none 0 0]
  low : B ≤ w.heap.size
  lowg : B ≤ gm
  lowG : w.heap.size ≤ G
variable {w1 : World} {G0 : Nat} {o : OpN}
theorem Base.new (h : Base B w w1 gm G G0 v v2 m o) (hm : Mod (fun _ => False) w1 w2) : Base B w w2 gm G G0 v v2 m o :=
  ⟨h.mod.trans hm (fun _ _ h => h.elim), hm.blk h.blk (fun h => h), h.hav.new hm, hm.blk h.op (fun h => h), hm.blk h.res (fun h => h), h.low, h.lowg, h.lowG⟩
/-- Nothing is done. -/
theorem Base.same (h : Base B w w1 gm G G0 v v2 m o) (hm : Mod (fun _ => False) w1 w2) (x : Int) (hd : doN m o = (m, .of x)) : Tail B w w2 gm G (doN m o).1 (doN m o).2 x 0 (.slice none 0 0) := by
  rw [hd]
  have h2 := h.new hm
  exact Tail.mk h2.blk h2.hav (SliH.nil _ _) h2.res h2.mod h.lowG rfl rfl
/-- Samples are told, nothing is done. -/
theorem Base.told (h : Base B w w1 gm G G0 v v2 m o) (hm : Mod (fun _ => False) w1 w2) {A3 : Option Addr} {n3 c3 : Nat} {l : List (Int × Nat)} (ho : OwnS w1.heap.size w2 (.slice A3 n3 c3) l) (hd : doN m o = (m, ⟨0, 0, l⟩)) : Tail B w w2 gm G (doN m o).1 (doN m o).2 0 0 (.slice A3 n3 c3) := by
  rw [hd]
  have h2 := h.new hm
  exact Tail.mk h2.blk h2.hav ((SliH.of_own ho).mono (by have := h.low; have := h.mod.size; omega)) h2.res h2.mod h.lowG rfl rfl
/-- One cell of one series is written. -/
theorem Base.cellS {g n c i j : Nat} {u : Value} {s s' : SerN} {u4 u4' : Value} (hv : v = .slice (some ⟨g, 0, none⟩) n c) (h : HavM B w1 v v2 m) {ps : List (SerN × Value)} (hps : ps.map (·.1) = m.ser) (hS : HavSer B w1 v ps) (hp : ps[i]? = some (s, u4)) (hj : j < 5) (hu : (serC (s, u4)).set j u = serC (s', u4')) (hs : SliH B w1 u4' s'.l) :
    HavM B (w1.setCell ⟨g, i * 5 + j, none⟩ u) v v2 { m with ser := m.ser.set i s' } ∧ Mod (fun k => k = g) w1 (w1.setCell ⟨g, i * 5 + j, none⟩ u) ∧ HavSer B (w1.setCell ⟨g, i * 5 + j, none⟩ u) v (ps.set i (s', u4')) := by
  subst hv
  obtain ⟨hO, hI⟩ := hS
  obtain ⟨ps2, is, e1, e2, h3, h4⟩ := h
  have hm : Mod (fun k => k = g) w1 (w1.setCell ⟨g, i * 5 + j, none⟩ u) := (Mod.refl (fun k => k = g) w1).setCell (p := ⟨g, i * 5 + j, none⟩) (fun _ => rfl) u
  have hr : (ps.map serC)[i]? = some (serC (s, u4)) := by rw [List.getElem?_map, hp]; rfl
  have hO2 := (hO.set_ (by obtain ⟨_, _, _, hl, _⟩ := hO.blk; exact hl) hr hj u).2.2
  rw [hu, ← List.map_set] at hO2
  obtain ⟨cs, hcs⟩ := own_blk hO g (by simp [Value.ownBlock])
  have hSer : HavSer B (w1.setCell ⟨g, i * 5 + j, none⟩ u) (.slice (some ⟨g, 0, none⟩) n c) (ps.set i (s', u4')) := ⟨hO2, fun p hp => by
    have key : SliH B w1 p.2 p.1.l := by
      rcases List.mem_or_eq_of_mem_set hp with hp | rfl
      · exact hI p hp
      · exact hs
    exact key.mod hm (fun k cs' _ hb e => by rw [e] at hb; exact Blk.ne_ hb hcs (by decide) rfl)⟩
  refine ⟨⟨_, is, by rw [List.map_set, hps], e2, hSer, h4.1.modS hm (fun k hk e => ?_), fun p hp => (h4.2 p hp).mod hm (fun k cs' _ hb e => by rw [e] at hb; exact Blk.ne_ hb hcs (by decide) rfl)⟩, hm, hSer⟩
  obtain ⟨cs2, hcs2⟩ := own_blk h4.1 k hk
  rw [e] at hcs2
  exact Blk.ne_ hcs2 hcs (by decide) rfl
end
end Go.Proofs.Ytejnhdenehkpmaa

/- What each op of a series comes to in memory. -/
namespace Go.Proofs.Ytejnhdenehkpmaa
open Go.RowKit

/-- Who is not there is begun: then it is as if it had been there. -/
theorem begin_same {m : ModN} {o : OpN} (hK : KeepM m) (hk : o.kind = 1) (hs : ¬ (o.series < 0 ∨ 15 < o.series)) (hat : atS o.series m.ser = none) {k : Nat} (hl : LstN (fun q => o.series < q.id) m.ser k) :
    KeepM { m with ser := m.ser.take k ++ newN o.series :: m.ser.drop k } ∧ atS o.series (m.ser.take k ++ newN o.series :: m.ser.drop k) = some k ∧ (m.ser.take k ++ newN o.series :: m.ser.drop k)[k]? = some (newN o.series) ∧
      doN { m with ser := m.ser.take k ++ newN o.series :: m.ser.drop k } o = doN m o := by
  obtain ⟨h1, h2, h3⟩ := hl
  have hno := atS_none hat
  have hcut : cutS o.series m.ser = k := cutS_of (fun j q hj hq => by
    have := h2 j q hj hq
    have := hno q (List.mem_of_getElem? hq)
    omega) (h3.elim .inl (fun ⟨s, hs1, hs2⟩ => .inr ⟨s, hs1, by omega⟩)) h1
  have hbeg : begunS o.series m.ser = m.ser.take k ++ newN o.series :: m.ser.drop k := by
    unfold begunS
    rw [hcut]
    cases hc : m.ser[k]? with
    | none => rfl
    | some s => simp only; rw [if_neg (hno s (List.mem_of_getElem? hc))]; rfl
  have hget : (m.ser.take k ++ newN o.series :: m.ser.drop k)[k]? = some (newN o.series) := by
    rw [List.getElem?_append_right (by rw [List.length_take]; omega), List.length_take, Nat.min_eq_left h1, Nat.sub_self]
    rfl
  have hrise : ((m.ser.take k ++ newN o.series :: m.ser.drop k).map (·.id)).Pairwise (· < ·) := by rw [← hbeg]; exact begunS_rise hK.1.1
  have hat1 : atS o.series (m.ser.take k ++ newN o.series :: m.ser.drop k) = some k := atS_found (fun j q hj hq => by
    rw [List.getElem?_append_left (by rw [List.length_take]; omega), List.getElem?_take_of_lt hj] at hq
    exact hno q (List.mem_of_getElem? hq)) hget rfl
  refine ⟨⟨⟨hrise, hK.1.2⟩, hK.2.1, hK.2.2.1, hK.2.2.2.1, fun s hsm => ?_⟩, hat1, hget, ?_⟩
  · rcases List.mem_append.1 hsm with h | h
    · exact hK.2.2.2.2 s (List.mem_of_mem_take h)
    · rcases List.mem_cons.1 h with rfl | h
      · exact ⟨by show (0 : Int) ≤ o.series; omega, by show o.series ≤ 15; omega⟩
      · exact hK.2.2.2.2 s (List.mem_of_mem_drop h)
  · rw [doN_begin hk hs hat, doN_put (s := newN o.series) hk hs hat1 hget rfl (fun h => by cases h.1)]
    unfold putN
    simp only
    obtain ⟨e1, e2⟩ := begunS_is hrise hat1
    rw [e1, e2, hcut, hbeg]
theorem keep_len {m : ModN} (h : KeepM m) : m.ser.length ≤ 16 := by
  have key : ∀ (l : List Int) (a : Int), l.Pairwise (· < ·) → (∀ x ∈ l, a ≤ x ∧ x ≤ 15) → (l.length : Int) ≤ max 0 (16 - a) := by
    intro l
    induction l with
    | nil => intro a _ _; simp only [List.length_nil]; omega
    | cons x l ih =>
      intro a hp hb
      rw [List.pairwise_cons] at hp
      have hx := hb x (List.mem_cons_self ..)
      have := ih (x + 1) hp.2 (fun y hy => ⟨by have := hp.1 y hy; omega, (hb y (List.mem_cons_of_mem _ hy)).2⟩)
      rw [List.length_cons]
      omega
  have h1 := key (m.ser.map (·.id)) 0 h.1.1 (fun x hx => by
    obtain ⟨s, hs, rfl⟩ := List.mem_map.1 hx
    exact h.2.2.2.2 s hs)
  rw [List.length_map] at h1
  omega
section
variable {B gm G G0 i g n c G' : Nat} {w w1 w2 w3 w4 : World} {m m' : ModN} {o : OpN} {v2 u4 : Value} {s : SerN} {ps : List (SerN × Value)} {e : Ending} {cs : Array Value}
/-- A row's block has turned, then what a call has answered. -/
theorem Base.after {v : Value} (h3 : Base B w w3 gm G G0 v v2 m o) {t : TypeId} {cs : Array Value} (hSb : Blk w3 g t cs) (ht : t = 43 ∨ t = 50) (hBg : B ≤ g) (hm : Mod (fun k => k = g) w3 w4) (hH : HavM B w4 v v2 m') (hn : m'.next = m.next) {cs' : Array Value} (hbG : Blk w3 G' 34 cs') (hGG : G ≠ G') (hBG : w.heap.size ≤ G') (hm4 : Mod (fun k => k = G') w4 w2)
    {A3 : Option Addr} {n3 c3 : Nat} {l : List (Int × Nat)} (hs : SliH B w2 (.slice A3 n3 c3) l) (hd : doN m o = (m', ⟨0, 0, l⟩)) : Tail B w w2 gm G (doN m o).1 (doN m o).2 0 0 (.slice A3 n3 c3) := by
  have hne : ∀ {k : Nat} {t' : TypeId} {cs'' : Array Value}, Blk w3 k t' cs'' → t' ≠ 43 → t' ≠ 50 → k ≠ g := fun {k t' cs''} hb h1 h2 => by
    rintro rfl
    rcases ht with rfl | rfl
    · exact Blk.ne_ hb hSb h1 rfl
    · exact Blk.ne_ hb hSb h2 rfl
  have hG4 : Blk w4 G' 34 cs' := hm.blk hbG (hne hbG (by decide) (by decide))
  rw [hd]
  refine Tail.mk (hm4.blk (hm.blk (by rw [hn]; exact h3.blk) (hne h3.blk (by decide) (by decide))) (fun e => ?_)) (hH.far hm4 (Far.one hG4 (by decide) (by decide) (by decide))) hs (hm4.blk (hm.blk h3.res (hne h3.res (by decide) (by decide))) hGG) ?_ h3.lowG rfl rfl
  · have h5 := hm.blk h3.blk (hne h3.blk (by decide) (by decide))
    rw [e] at h5
    exact Blk.ne_ h5 hG4 (by decide) rfl
  · exact (h3.mod.trans hm (fun i _ e => by subst e; exact Low.of h3.mod hSb (by rcases ht with rfl | rfl <;> decide) (by rcases ht with rfl | rfl <;> decide) hBg)).trans hm4 (fun _ hi e => by omega)
theorem HavSer.at_ (hS : HavSer B w1 (.slice (some ⟨g, 0, none⟩) n c) ps) : (∃ cs, Blk w1 g 43 cs) ∧ B ≤ g ∧ ps.length = n ∧ n ≤ c := by
  obtain ⟨cur, hb, hB, hr, hnc, _⟩ := hS.1.blk
  exact ⟨⟨cur, hb⟩, hB, by rw [← hr, List.length_map], hnc⟩
theorem Base.sealR (h : Base B w w1 gm G G0 (.slice (some ⟨g, 0, none⟩) n c) v2 m o) (hk : o.kind = 3) (h2 : ¬ (o.series < 0 ∨ 15 < o.series)) (hat : atS o.series m.ser = some i) (hps : ps.map (·.1) = m.ser) (hS : HavSer B w1 (.slice (some ⟨g, 0, none⟩) n c) ps) (hp : ps[i]? = some (s, u4))
    (he : SealEnd w1 w2 ⟨g, i * 5 + 1, none⟩ s.sea e) : ∃ x : Int, e = .returned (.agg #[.int .i64 x, .int .i64 0, .slice none 0 0]) ∧ Tail B w w2 gm G (doN m o).1 (doN m o).2 x 0 (.slice none 0 0) := by
  have hms : m.ser[i]? = some s := by rw [← hps, List.getElem?_map, hp]; rfl
  rcases he with ⟨hb, rfl, hm⟩ | ⟨hb, rfl, w3, G', cs, hm3, hG', hbG, hm4⟩
  · exact ⟨2, rfl, h.same hm 2 (by rw [doN_seal hk h2 hat hms, if_pos hb])⟩
  · have h3 := h.new hm3
    have hS3 := hS.far hm3 (Far.none_ _)
    obtain ⟨⟨cur, hcur⟩, hBg, _, _⟩ := hS3.at_
    obtain ⟨H1, H2, _⟩ := Base.cellS (j := 1) (u := .bool true) (s' := { s with sea := true }) (u4' := u4) rfl h3.hav hps hS3 hp (by decide) rfl (hS3.2 _ (List.mem_of_getElem? hp))
    refine ⟨0, rfl, h3.after hcur (.inl rfl) hBg H2 H1 rfl hbG (by have := h.res.lt; omega) (by have := h.mod.size; omega) hm4 (SliH.nil _ _) ?_⟩
    rw [doN_seal hk h2 hat hms, if_neg (by rw [hb]; decide)]
    rfl
theorem Base.addR (h : Base B w w1 gm G G0 (.slice (some ⟨g, 0, none⟩) n c) v2 m o) (hK : KeepM m) (hk : o.kind = 1) (h2 : ¬ (o.series < 0 ∨ 15 < o.series)) (hat : atS o.series m.ser = some i) (hps : ps.map (·.1) = m.ser) (hS : HavSer B w1 (.slice (some ⟨g, 0, none⟩) n c) ps) (hp : ps[i]? = some (s, u4))
    (he : AddEnd w1 w2 g (i * 5) s.sea s.any s.last s.l o.t o.v e) : ∃ x : Int, e = .returned (.agg #[.int .i64 x, .int .i64 0, .slice none 0 0]) ∧ Tail B w w2 gm G (doN m o).1 (doN m o).2 x 0 (.slice none 0 0) := by
  have hms : m.ser[i]? = some s := by rw [← hps, List.getElem?_map, hp]; rfl
  rcases he with ⟨hb, rfl, hm⟩ | ⟨hb, ho, rfl, hm⟩ | ⟨hb, ho, rfl, w3, v5, G', cs, hm3, ho5, hG', hbG, hm4⟩
  · exact ⟨2, rfl, h.same hm 2 (doN_sealed hk h2 hat hms hb)⟩
  · exact ⟨1, rfl, h.same hm 1 (doN_order hk h2 hat hms hb ho)⟩
  · have h3 := h.new hm3
    have hS3 := hS.far hm3 (Far.none_ _)
    obtain ⟨⟨cur, hcur⟩, hBg, hpl, _⟩ := hS3.at_
    have hil : i < ps.length := (List.getElem?_eq_some_iff.1 hp).1
    obtain ⟨H1, M1, S1⟩ := Base.cellS (j := 2) (u := .bool true) (s' := { s with any := true }) (u4' := u4) rfl h3.hav hps hS3 hp (by decide) rfl (hS3.2 _ (List.mem_of_getElem? hp))
    have hps1 : (ps.set i ({ s with any := true }, u4)).map (·.1) = m.ser.set i { s with any := true } := by rw [List.map_set, hps]
    have hp1 : (ps.set i ({ s with any := true }, u4))[i]? = some ({ s with any := true }, u4) := List.getElem?_set_self hil
    obtain ⟨H2, M2, S2⟩ := Base.cellS (j := 3) (u := .int .i64 o.t) (s' := { s with any := true, last := o.t }) (u4' := u4) rfl H1 hps1 S1 hp1 (by decide) rfl (S1.2 _ (List.mem_of_getElem? hp1))
    have hps2 : ((ps.set i ({ s with any := true }, u4)).set i ({ s with any := true, last := o.t }, u4)).map (·.1) = (m.ser.set i { s with any := true }).set i { s with any := true, last := o.t } := by rw [List.map_set, hps1]
    have hp2 : ((ps.set i ({ s with any := true }, u4)).set i ({ s with any := true, last := o.t }, u4))[i]? = some ({ s with any := true, last := o.t }, u4) := List.getElem?_set_self (by rw [List.length_set]; exact hil)
    have hs5 : SliH B ((w3.setCell ⟨g, i * 5 + 2, none⟩ (.bool true)).setCell ⟨g, i * 5 + 3, none⟩ (.int .i64 o.t)) v5 (s.l ++ [(o.t, o.v)]) := by
      have h6 := (SliH.of_own ho5).mono (B' := B) (by have := h.low; have := h.mod.size; omega)
      refine h6.mod (M1.trans M2 (fun _ _ e => e)) (fun k cs _ hb e => ?_)
      rw [e] at hb
      exact Blk.ne_ hb hcur (by decide) rfl
    obtain ⟨H3, M3, _⟩ := Base.cellS (j := 4) (u := v5) (s' := s.put o.t o.v) (u4' := v5) rfl H2 hps2 S2 hp2 (by decide) rfl hs5
    refine ⟨0, rfl, h3.after hcur (.inl rfl) hBg ((M1.trans M2 (fun _ _ e => e)).trans M3 (fun _ _ e => e)) H3 rfl hbG (by have := h.res.lt; omega) (by have := h.mod.size; omega) hm4 (SliH.nil _ _) ?_⟩
    rw [doN_put hk h2 hat hms hb ho]
    have hpq : (putN m o).ser = m.ser.set i (s.put o.t o.v) := by
      obtain ⟨e1, e2⟩ := begunS_is hK.1.1 hat
      unfold putN
      simp only
      rw [e1, e2, modify_at _ hms]
    have e1 : putN m o = { m with ser := m.ser.set i (s.put o.t o.v) } := by rw [← hpq]; rfl
    rw [e1]
    simp only [List.set_set]
    rfl
theorem HavSer.cells (hS : HavSer B w1 (.slice (some ⟨g, 0, none⟩) n c) ps) (hp : ps[i]? = some (s, u4)) :
    w1.cell? ⟨g, i * 5 + 1, none⟩ = some (.bool s.sea) ∧ w1.cell? ⟨g, i * 5 + 2, none⟩ = some (.bool s.any) ∧ w1.cell? ⟨g, i * 5 + 3, none⟩ = some (.int .i64 s.last) ∧ w1.cell? ⟨g, i * 5 + 4, none⟩ = some u4 ∧ ∀ j, w1.frozen? ⟨g, i * 5 + j, none⟩ = false := by
  obtain ⟨cur, hb, _, hr, _, _, _, _⟩ := hS.1.blk
  have hi := (List.getElem?_eq_some_iff.1 hp).1
  obtain ⟨ad, r, e, _, h1, _, h2⟩ := (hS.1.rds hr).at_ (i := i) (by rw [← hr, List.length_map]; exact hi) (by decide)
  injection e with e
  subst e
  rw [List.getElem?_map, hp] at h1
  injection h1 with h1
  subst h1
  have key : ∀ j u, (serC (s, u4))[j]? = some u → w1.cell? ⟨g, i * 5 + j, none⟩ = some u := fun j u hu => by
    have h3 := h2 j u hu
    rwa [add_addr, Nat.zero_add] at h3
  exact ⟨key 1 _ rfl, key 2 _ rfl, key 3 _ rfl, key 4 _ rfl, fun j => hb.frozen _⟩
theorem fst_some {ss : List SerN} {S k : Int} {i : Nat} (h : FstN (fun q => q.id = S) ss k) (hat : atS S ss = some i) : k = (i : Int) := by
  rcases h with ⟨j, rfl, s, h1, h2, h3⟩ | ⟨_, h1⟩
  · have h4 := atS_found h3 h1 h2
    rw [hat] at h4
    injection h4 with h4
    rw [h4]
  · obtain ⟨s, h2, h3⟩ := atS_some hat
    exact absurd h3 (h1 i s h2)
theorem fst_none {ss : List SerN} {S k : Int} (h : FstN (fun q => q.id = S) ss k) (hat : atS S ss = none) : k = -1 := by
  rcases h with ⟨j, rfl, s, h1, h2, h3⟩ | ⟨h0, _⟩
  · exact absurd h2 (atS_none hat s (List.mem_of_getElem? h1))
  · exact h0
/-- Where it stands in memory. -/
theorem HavSer.some_ {v : Value} (hS : HavSer B w1 v ps) (hps : ps.map (·.1) = m.ser) (hms : m.ser[i]? = some s) : ∃ g n c u4, v = .slice (some ⟨g, 0, none⟩) n c ∧ ps[i]? = some (s, u4) ∧ i < n ∧ n ≤ c ∧ ps.length = n := by
  have h1 : (ps.map (·.1))[i]? = some s := by rw [hps]; exact hms
  rw [List.getElem?_map] at h1
  obtain ⟨⟨s', u4⟩, h2, h3⟩ := Option.map_eq_some_iff.1 h1
  simp only at h3
  subst h3
  have hi := (List.getElem?_eq_some_iff.1 h2).1
  obtain ⟨g, cap, e, h4, _⟩ := hS.1.form' (by rw [List.length_map]; omega)
  rw [List.length_map] at e h4
  exact ⟨g, ps.length, cap, u4, e, h2, hi, h4, rfl⟩
/-- One is struck out. -/
theorem Base.delR {q : Nat} (h : Base B w w1 gm G G0 (.slice (some ⟨g, 0, none⟩) n c) v2 m o) (hk : o.kind = 4) (h2 : ¬ (o.series < 0 ∨ 15 < o.series)) (hat : atS o.series m.ser = some i) (hms : m.ser[i]? = some s) (hps : ps.map (·.1) = m.ser) (hS : HavSer B w1 (.slice (some ⟨g, 0, none⟩) n c) ps)
    (hO : OwnK 5 B w2 43 (.slice (some ⟨g, 0, none⟩) q c) ((ps.map serC).take i ++ (ps.map serC).drop (i + 1))) (hm : Mod (fun k => k = g) w1 w2) :
    Tail B w (w2.setCell ⟨gm, 0, none⟩ (.slice (some ⟨g, 0, none⟩) q c)) gm G (doN m o).1 (doN m o).2 0 0 (.slice none 0 0) ∧ Blk w2 gm 31 #[.slice (some ⟨g, 0, none⟩) n c, v2, .int .i64 m.next] := by
  obtain ⟨⟨cur, hcur⟩, hBg, _, _⟩ := hS.at_
  obtain ⟨ps2, is, e1, e2, hS2, h4⟩ := h.hav
  have hne : ∀ {k : Nat} {t' : TypeId} {cs'' : Array Value}, Blk w1 k t' cs'' → t' ≠ 43 → k ≠ g := fun {k t' cs''} hb h1 => by
    rintro rfl
    exact Blk.ne_ hb hcur h1 rfl
  have hb2 := hm.blk h.blk (hne h.blk (by decide))
  have hM : HavM B w2 (.slice (some ⟨g, 0, none⟩) q c) v2 { m with ser := m.ser.take i ++ m.ser.drop (i + 1) } :=
    ⟨ps.take i ++ ps.drop (i + 1), is, by rw [List.map_append, List.map_take, List.map_drop, hps], e2, ⟨by rw [List.map_append, List.map_take, List.map_drop]; exact hO, fun p hp => by
      have hp' : p ∈ ps := by
        rcases List.mem_append.1 hp with hp | hp
        · exact List.mem_of_mem_take hp
        · exact List.mem_of_mem_drop hp
      exact (hS.2 p hp').mod hm (fun k cs' _ hb e => hne hb (by decide) e)⟩, h4.1.modS hm (fun k hk e => by
        obtain ⟨cs2, hcs2⟩ := own_blk h4.1 k hk
        exact hne hcs2 (by decide) e), fun p hp => (h4.2 p hp).mod hm (fun k cs' _ hb e => hne hb (by decide) e)⟩
  have hm5 : Mod (fun k => k = gm) w2 (w2.setCell ⟨gm, 0, none⟩ (.slice (some ⟨g, 0, none⟩) q c)) := (Mod.refl (fun k => k = gm) w2).setCell (p := ⟨gm, 0, none⟩) (fun _ => rfl) _
  refine ⟨?_, hb2⟩
  rw [doN_delete hk h2 hat hms]
  refine Tail.mk (v := .slice (some ⟨g, 0, none⟩) q c) (v2 := v2) (by have := hb2.set_ 0 (.slice (some ⟨g, 0, none⟩) q c); simpa using this) (hM.far hm5 (Far.one hb2 (by decide) (by decide) (by decide))) (SliH.nil _ _) (hm5.blk (hm.blk h.res (hne h.res (by decide))) (fun e => ?_)) ((h.mod.trans hm (fun i _ e => by subst e; exact Low.of h.mod hcur (by decide) (by decide) hBg)).trans hm5 (fun i _ e => by subst e; exact Low.of h.mod h.blk (by decide) (by decide) h.lowg)) h.lowG rfl rfl
  have h9 := h.res
  rw [e] at h9
  exact Blk.ne_ h9 h.blk (by decide) rfl
/-- A series was begun. -/
theorem Base.begun {v v1 : Value} {m1 : ModN} (h : Base B w w1 gm G G0 v v2 m o) (hb2 : Blk w2 gm 31 #[v1, v2, .int .i64 m1.next]) (hM2 : HavM B w2 v1 v2 m1) (hm2 : Mod (fun j => v.ownBlock = some j ∨ j = gm) w1 w2) : Base B w w2 gm G G0 v1 v2 m1 o := by
  obtain ⟨ps', _, hS, _⟩ := h.hav.ser
  have hno : ∀ {k : Nat} {t : TypeId} {cs : Array Value}, Blk w1 k t cs → t ≠ 43 → t ≠ 31 → ¬ (v.ownBlock = some k ∨ k = gm) := by
    intro k t cs hb h1 h2 he
    rcases he with he | rfl
    · obtain ⟨cs', hcs⟩ := own_blk hS.1 k he
      exact Blk.ne_ hb hcs h1 rfl
    · exact Blk.ne_ hb h.blk h2 rfl
  refine ⟨h.mod.trans hm2 (fun j hj he => ?_), hb2, hM2, hm2.blk h.op (hno h.op (by decide) (by decide)), hm2.blk h.res (hno h.res (by decide) (by decide)), h.low, h.lowg, h.lowG⟩
  rcases he with he | rfl
  · obtain ⟨cs', hcs⟩ := own_blk hS.1 j he
    exact Low.of h.mod hcs (by decide) (by decide) (hS.1.block j he).1
  · exact Low.of h.mod h.blk (by decide) (by decide) h.lowg
/-- An iterator was begun, or not. -/
theorem Base.openR {v : Value} {i : Nat} (h : Base B w w1 gm G G0 v v2 m o) (hk : o.kind = 5) (h2 : ¬ (o.series < 0 ∨ 15 < o.series)) (hat : atS o.series m.ser = some i) (hms : m.ser[i]? = some s) (he : OpenEnd B w1 w2 gm v v2 m (spanN o.from_ o.to_ s.l) e) :
    ∃ x y : Int, e = .returned (.agg #[.int .i64 x, .int .i64 y, .slice none 0 0]) ∧ Tail B w w2 gm G (doN m o).1 (doN m o).2 x y (.slice none 0 0) := by
  rcases he with ⟨h8, rfl, hm⟩ | ⟨h8, rfl, v', hb2, hM2, hm2⟩
  · exact ⟨5, 0, rfl, h.same hm 5 (by rw [doN_open hk h2 hat hms, if_pos h8])⟩
  · refine ⟨0, m.next + 1, rfl, ?_⟩
    rw [doN_open hk h2 hat hms, if_neg (by omega)]
    obtain ⟨ps', _, hS, _⟩ := h.hav.ite
    have hno : ¬ (v2.ownBlock = some G ∨ G = gm ∨ w1.heap.size ≤ G) := by
      rintro (he | he | he)
      · obtain ⟨cs', hcs⟩ := own_blk hS.1 G he
        exact Blk.ne_ h.res hcs (by decide) rfl
      · have h9 := h.res
        rw [he] at h9
        exact Blk.ne_ h9 h.blk (by decide) rfl
      · have := h.res.lt
        omega
    refine Tail.mk hb2 hM2 (SliH.nil _ _) (hm2.blk h.res hno) (h.mod.trans hm2 (fun j hj he => ?_)) h.lowG rfl rfl
    rcases he with he | rfl | he
    · obtain ⟨cs', hcs⟩ := own_blk hS.1 j he
      exact Low.of h.mod hcs (by decide) (by decide) (hS.1.block j he).1
    · exact Low.of h.mod h.blk (by decide) (by decide) h.lowg
    · have := h.mod.size; omega
end
end Go.Proofs.Ytejnhdenehkpmaa

/- applyToSeries: the ops of a series. -/
namespace Go.Proofs.Ytejnhdenehkpmaa
open Go.RowKit

set_option maxHeartbeats 400000 in
set_option maxRecDepth 100000 in
theorem serNone (B gm : Nat) (v v2 : Value) (m : ModN) (o : OpN) (w : World) (hb : Blk w gm 31 #[v, v2, .int .i64 m.next]) (hM : HavM B w v v2 m) (hB : B ≤ w.heap.size) (hBg : B ≤ gm) (hK : KeepM m) (hL : LenM m 100000) (hx : m.next ≤ 1000000) (hs0 : ¬ (o.series < 0 ∨ 15 < o.series)) (hat : atS o.series m.ser = none) (hk0 : 2 ≤ o.kind ∧ o.kind ≤ 5) :
    Calls Try.prog 35 #[.pointer (some ⟨gm, 0, none⟩), .agg #[.int .i64 o.kind, .int .i64 o.series, .int .i64 o.iter, .int .i64 o.t, .int .u64 (o.v : Int), .int .i64 o.from_, .int .i64 o.to_, .int .i64 o.n]] w fun e w' => ApEnd B w w' gm (doN m o).1 (doN m o).2 e := by
  obtain ⟨W, hW⟩ : ∃ W, W = (w.alloc (.cells #[.int .i64 o.kind, .int .i64 o.series, .int .i64 o.iter, .int .i64 o.t, .int .u64 (o.v : Int), .int .i64 o.from_, .int .i64 o.to_, .int .i64 o.n] 24)).alloc (.cells #[.int .i64 0, .int .i64 0, .slice none 0 0] 34) := ⟨_, rfl⟩
  obtain ⟨G0, hG0⟩ : ∃ g, g = w.heap.size := ⟨_, rfl⟩
  obtain ⟨G, hG⟩ : ∃ g, g = w.heap.size + 1 := ⟨_, rfl⟩
  have hmW : Mod (fun _ => False) w W := by rw [hW]; exact ((Mod.refl _ _).alloc _).alloc _
  have hb0 : Blk W G0 24 #[.int .i64 o.kind, .int .i64 o.series, .int .i64 o.iter, .int .i64 o.t, .int .u64 (o.v : Int), .int .i64 o.from_, .int .i64 o.to_, .int .i64 o.n] := by rw [hW, hG0]; exact (Blk.new _ _ _).alloc _
  have hbW : Blk W G 34 #[.int .i64 0, .int .i64 0, .slice none 0 0] := by
    rw [hW, hG]
    have h := Blk.new (w.alloc (.cells #[.int .i64 o.kind, .int .i64 o.series, .int .i64 o.iter, .int .i64 o.t, .int .u64 (o.v : Int), .int .i64 o.from_, .int .i64 o.to_, .int .i64 o.n] 24)) 34 #[.int .i64 0, .int .i64 0, .slice none 0 0]
    simpa using h
  have HBase : Hid (Base B w W gm G G0 v v2 m o) := Lib.hid ⟨hmW.mono (fun _ _ h => h.elim), hmW.blk hb (fun h => h), hM.new hmW, hb0, hbW, hB, hBg, by omega⟩
  obtain ⟨ps, hps, hS0, hput0⟩ := HBase.out.hav.ser
  obtain ⟨A, c, rfl, hnc, hcm, hR⟩ := hS0.form
  obtain ⟨n, hnn⟩ : ∃ n, n = ps.length := ⟨_, rfl⟩
  rw [← hnn] at hnc hR HBase hS0
  have hlen := keep_len hK
  have hln1 : n ≤ 1000000 := by rw [hnn, ← List.length_map (f := (·.1)), hps]; omega
  have hneG : ¬ G = gm := by
    have := hb.lt
    omega
  have z0 := HBase.out.blk.cell 0
  have y1 := HBase.out.op.cell 1
  simp at z0 y1
  have HW := Lib.hid hW; have HG0 := Lib.hid hG0; have HG := Lib.hid hG; have HR := Lib.hid hR; have Hps := Lib.hid hps; have HK := Lib.hid hK; have HL := Lib.hid hL; have Hs0 := Lib.hid hs0; have Hx := Lib.hid hx; have Hnn := Lib.hid hnn; have HS0 := Lib.hid hS0
  clear hW hG0 hG hmW hb0 hbW hb hM hB hBg hK hL hx hs0 hps hS0 hput0 hR hnn hlen
  go_enter Try.func35, Try.ntmps35
  go_upto_region 1 with fail
  rw [← HW.out, ← HG.out, ← HG0.out]
  go_wp2_with fail
  refine (idxEqS (A) n c _ ps G0 o.series W HR.out y1 hln1).mono ?_
  rintro e w1 ⟨k, rfl, hk, hm1⟩
  have hk1 := fst_none (by rw [← Hps.out]; exact hk) hat
  subst hk1
  have hk5 := Lib.hid hk0
  have hB1 := HBase.out.new hm1
  have y0 := hB1.op.cell 0
  simp at y0
  have HB1 := Lib.hid hB1
  have hkk : ((o.kind : Int) == 1) = false := by simp; omega
  clear hk hm1 hB1 z0 y1
  go_wp2_with fail
  refine (failed_any 3 w1).mono ?_
  rintro e w2 ⟨rfl, hm2⟩
  have Ht := Lib.hid (HB1.out.same hm2 3 (doN_nowhere hk5.out Hs0.out hat))
  clear hm2
  have hrb := Ht.out.1
  have r0 := hrb.cell 0
  have r1 := hrb.cell 1
  have r2 := hrb.cell 2
  have f0 := hrb.frozen 0
  have f1 := hrb.frozen 1
  have f2 := hrb.frozen 2
  simp at r0 r1 r2
  clear hrb
  go_wp2_with fail
  refine bodyPost_ret (v := .agg #[.int .i64 3, .int .i64 0, .slice none 0 0]) (by have h := Ht.out.1.three (.int .i64 3) (.int .i64 0) (.slice none 0 0); simp [results, Try.results35, go_sem, h.1, h.2.1, h.2.2.1]) rfl (Ht.out.2 _ (Mod.three_one _ _ _ _ _))
set_option maxHeartbeats 400000 in
set_option maxRecDepth 100000 in
theorem serSeal (B gm : Nat) (v v2 : Value) (m : ModN) (o : OpN) (w : World) (hb : Blk w gm 31 #[v, v2, .int .i64 m.next]) (hM : HavM B w v v2 m) (hB : B ≤ w.heap.size) (hBg : B ≤ gm) (hK : KeepM m) (hL : LenM m 100000) (hx : m.next ≤ 1000000) (hs0 : ¬ (o.series < 0 ∨ 15 < o.series)) (i : Nat) (hat : atS o.series m.ser = some i) (hkd : o.kind = 3) :
    Calls Try.prog 35 #[.pointer (some ⟨gm, 0, none⟩), .agg #[.int .i64 o.kind, .int .i64 o.series, .int .i64 o.iter, .int .i64 o.t, .int .u64 (o.v : Int), .int .i64 o.from_, .int .i64 o.to_, .int .i64 o.n]] w fun e w' => ApEnd B w w' gm (doN m o).1 (doN m o).2 e := by
  obtain ⟨W, hW⟩ : ∃ W, W = (w.alloc (.cells #[.int .i64 o.kind, .int .i64 o.series, .int .i64 o.iter, .int .i64 o.t, .int .u64 (o.v : Int), .int .i64 o.from_, .int .i64 o.to_, .int .i64 o.n] 24)).alloc (.cells #[.int .i64 0, .int .i64 0, .slice none 0 0] 34) := ⟨_, rfl⟩
  obtain ⟨G0, hG0⟩ : ∃ g, g = w.heap.size := ⟨_, rfl⟩
  obtain ⟨G, hG⟩ : ∃ g, g = w.heap.size + 1 := ⟨_, rfl⟩
  have hmW : Mod (fun _ => False) w W := by rw [hW]; exact ((Mod.refl _ _).alloc _).alloc _
  have hb0 : Blk W G0 24 #[.int .i64 o.kind, .int .i64 o.series, .int .i64 o.iter, .int .i64 o.t, .int .u64 (o.v : Int), .int .i64 o.from_, .int .i64 o.to_, .int .i64 o.n] := by rw [hW, hG0]; exact (Blk.new _ _ _).alloc _
  have hbW : Blk W G 34 #[.int .i64 0, .int .i64 0, .slice none 0 0] := by
    rw [hW, hG]
    have h := Blk.new (w.alloc (.cells #[.int .i64 o.kind, .int .i64 o.series, .int .i64 o.iter, .int .i64 o.t, .int .u64 (o.v : Int), .int .i64 o.from_, .int .i64 o.to_, .int .i64 o.n] 24)) 34 #[.int .i64 0, .int .i64 0, .slice none 0 0]
    simpa using h
  have HBase : Hid (Base B w W gm G G0 v v2 m o) := Lib.hid ⟨hmW.mono (fun _ _ h => h.elim), hmW.blk hb (fun h => h), hM.new hmW, hb0, hbW, hB, hBg, by omega⟩
  obtain ⟨ps, hps, hS0, hput0⟩ := HBase.out.hav.ser
  obtain ⟨A, c, rfl, hnc, hcm, hR⟩ := hS0.form
  obtain ⟨n, hnn⟩ : ∃ n, n = ps.length := ⟨_, rfl⟩
  rw [← hnn] at hnc hR HBase hS0
  have hlen := keep_len hK
  have hln1 : n ≤ 1000000 := by rw [hnn, ← List.length_map (f := (·.1)), hps]; omega
  have hneG : ¬ G = gm := by
    have := hb.lt
    omega
  have z0 := HBase.out.blk.cell 0
  have y1 := HBase.out.op.cell 1
  simp at z0 y1
  have HW := Lib.hid hW; have HG0 := Lib.hid hG0; have HG := Lib.hid hG; have HR := Lib.hid hR; have Hps := Lib.hid hps; have HK := Lib.hid hK; have HL := Lib.hid hL; have Hs0 := Lib.hid hs0; have Hx := Lib.hid hx; have Hnn := Lib.hid hnn; have HS0 := Lib.hid hS0
  obtain ⟨s, hms, hjunk⟩ := atS_some hat
  clear hjunk
  obtain ⟨g, n', c', u4, e0, hp, hin, hnc', hpn⟩ := HS0.out.some_ Hps.out hms
  injection e0 with e1 e2 e3
  subst e1 e2 e3
  obtain ⟨A4, n4, c4, rfl, hjunk⟩ := HS0.out.2 _ (List.mem_of_getElem? hp)
  clear hjunk
  have hat5 : (⟨g, 0, none⟩ : Addr).add (i * 5) = ⟨g, i * 5, none⟩ := by rw [add_addr, Nat.zero_add]
  have hn4 : n4 ≤ 100000 := by
    have h1 := (HL.out.1 s (List.mem_of_getElem? hms)).1
    have h2 := (HS0.out.2 _ (List.mem_of_getElem? hp)).rds.1
    simp only at h2
    omega
  have Hat := Lib.hid hat; have Hms := Lib.hid hms; have Hp := Lib.hid hp
  have hin0 : (0 : Int) ≤ (i : Int) := by omega
  have hin1 : (i : Int) < (n : Int) := by omega
  clear hat hms hp hnc' hpn
  have hk1 : ((o.kind : Int) == 1) = false := by rw [hkd]; rfl
  have hk3 : ((o.kind : Int) == 3) = true := by rw [hkd]; rfl
  have hk4 : ((o.kind : Int) == 4) = false := by rw [hkd]; rfl
  have hk5 : ((o.kind : Int) == 5) = false := by rw [hkd]; rfl
  have Hkd := Lib.hid hkd
  clear hkd
  clear hW hG0 hG hmW hb0 hbW hb hM hB hBg hK hL hx hs0 hps hS0 hput0 hR hnn hlen
  go_enter Try.func35, Try.ntmps35
  go_upto_region 1 with fail
  rw [← HW.out, ← HG.out, ← HG0.out]
  go_wp2_with fail
  refine (idxEqS (some ⟨g, 0, none⟩) n c _ ps G0 o.series W HR.out y1 hln1).mono ?_
  rintro e w1 ⟨k, rfl, hk, hm1⟩
  have hk1 := fst_some (by rw [← Hps.out]; exact hk) Hat.out
  subst hk1
  have hB1 := HBase.out.new hm1
  have hS1 : HavSer B w1 (.slice (some ⟨g, 0, none⟩) n c) ps := HS0.out.far hm1 (Far.none_ _)
  have HB1 := Lib.hid hB1; have HS1 := Lib.hid hS1
  have z0 := hB1.blk.cell 0
  have z1 := hB1.op.cell 0
  simp at z0 z1
  obtain ⟨x1, x2, x3, x4, x5⟩ := hS1.cells Hp.out
  have Hrd := Lib.hid (hS1.2 _ (List.mem_of_getElem? Hp.out)).rds
  clear hk hm1 hB1 hS1 y1
  have x50 := x5 1
  go_wp2_with fail
  refine (seal_any g (i * 5) s.sea w1 x1 x50).mono ?_
  intro e w2 he
  obtain ⟨x, rfl, ht⟩ := HB1.out.sealR Hkd.out Hs0.out Hat.out Hps.out HS1.out Hp.out he
  have Ht := Lib.hid ht
  clear ht he
  have hrb := Ht.out.1
  have r0 := hrb.cell 0
  have r1 := hrb.cell 1
  have r2 := hrb.cell 2
  have f0 := hrb.frozen 0
  have f1 := hrb.frozen 1
  have f2 := hrb.frozen 2
  simp at r0 r1 r2
  clear hrb
  go_wp2_with fail
  refine bodyPost_ret (v := .agg #[.int .i64 x, .int .i64 0, .slice none 0 0]) (by have h := Ht.out.1.three (.int .i64 x) (.int .i64 0) (.slice none 0 0); simp [results, Try.results35, go_sem, h.1, h.2.1, h.2.2.1]) rfl (Ht.out.2 _ (Mod.three_one _ _ _ _ _))
set_option maxHeartbeats 400000 in
set_option maxRecDepth 100000 in
theorem serDelete (B gm : Nat) (v v2 : Value) (m : ModN) (o : OpN) (w : World) (hb : Blk w gm 31 #[v, v2, .int .i64 m.next]) (hM : HavM B w v v2 m) (hB : B ≤ w.heap.size) (hBg : B ≤ gm) (hK : KeepM m) (hL : LenM m 100000) (hx : m.next ≤ 1000000) (hs0 : ¬ (o.series < 0 ∨ 15 < o.series)) (i : Nat) (hat : atS o.series m.ser = some i) (hkd : o.kind = 4) :
    Calls Try.prog 35 #[.pointer (some ⟨gm, 0, none⟩), .agg #[.int .i64 o.kind, .int .i64 o.series, .int .i64 o.iter, .int .i64 o.t, .int .u64 (o.v : Int), .int .i64 o.from_, .int .i64 o.to_, .int .i64 o.n]] w fun e w' => ApEnd B w w' gm (doN m o).1 (doN m o).2 e := by
  obtain ⟨W, hW⟩ : ∃ W, W = (w.alloc (.cells #[.int .i64 o.kind, .int .i64 o.series, .int .i64 o.iter, .int .i64 o.t, .int .u64 (o.v : Int), .int .i64 o.from_, .int .i64 o.to_, .int .i64 o.n] 24)).alloc (.cells #[.int .i64 0, .int .i64 0, .slice none 0 0] 34) := ⟨_, rfl⟩
  obtain ⟨G0, hG0⟩ : ∃ g, g = w.heap.size := ⟨_, rfl⟩
  obtain ⟨G, hG⟩ : ∃ g, g = w.heap.size + 1 := ⟨_, rfl⟩
  have hmW : Mod (fun _ => False) w W := by rw [hW]; exact ((Mod.refl _ _).alloc _).alloc _
  have hb0 : Blk W G0 24 #[.int .i64 o.kind, .int .i64 o.series, .int .i64 o.iter, .int .i64 o.t, .int .u64 (o.v : Int), .int .i64 o.from_, .int .i64 o.to_, .int .i64 o.n] := by rw [hW, hG0]; exact (Blk.new _ _ _).alloc _
  have hbW : Blk W G 34 #[.int .i64 0, .int .i64 0, .slice none 0 0] := by
    rw [hW, hG]
    have h := Blk.new (w.alloc (.cells #[.int .i64 o.kind, .int .i64 o.series, .int .i64 o.iter, .int .i64 o.t, .int .u64 (o.v : Int), .int .i64 o.from_, .int .i64 o.to_, .int .i64 o.n] 24)) 34 #[.int .i64 0, .int .i64 0, .slice none 0 0]
    simpa using h
  have HBase : Hid (Base B w W gm G G0 v v2 m o) := Lib.hid ⟨hmW.mono (fun _ _ h => h.elim), hmW.blk hb (fun h => h), hM.new hmW, hb0, hbW, hB, hBg, by omega⟩
  obtain ⟨ps, hps, hS0, hput0⟩ := HBase.out.hav.ser
  obtain ⟨A, c, rfl, hnc, hcm, hR⟩ := hS0.form
  obtain ⟨n, hnn⟩ : ∃ n, n = ps.length := ⟨_, rfl⟩
  rw [← hnn] at hnc hR HBase hS0
  have hlen := keep_len hK
  have hln1 : n ≤ 1000000 := by rw [hnn, ← List.length_map (f := (·.1)), hps]; omega
  have hneG : ¬ G = gm := by
    have := hb.lt
    omega
  have z0 := HBase.out.blk.cell 0
  have y1 := HBase.out.op.cell 1
  simp at z0 y1
  have HW := Lib.hid hW; have HG0 := Lib.hid hG0; have HG := Lib.hid hG; have HR := Lib.hid hR; have Hps := Lib.hid hps; have HK := Lib.hid hK; have HL := Lib.hid hL; have Hs0 := Lib.hid hs0; have Hx := Lib.hid hx; have Hnn := Lib.hid hnn; have HS0 := Lib.hid hS0
  obtain ⟨s, hms, hjunk⟩ := atS_some hat
  clear hjunk
  obtain ⟨g, n', c', u4, e0, hp, hin, hnc', hpn⟩ := HS0.out.some_ Hps.out hms
  injection e0 with e1 e2 e3
  subst e1 e2 e3
  obtain ⟨A4, n4, c4, rfl, hjunk⟩ := HS0.out.2 _ (List.mem_of_getElem? hp)
  clear hjunk
  have hat5 : (⟨g, 0, none⟩ : Addr).add (i * 5) = ⟨g, i * 5, none⟩ := by rw [add_addr, Nat.zero_add]
  have hn4 : n4 ≤ 100000 := by
    have h1 := (HL.out.1 s (List.mem_of_getElem? hms)).1
    have h2 := (HS0.out.2 _ (List.mem_of_getElem? hp)).rds.1
    simp only at h2
    omega
  have Hat := Lib.hid hat; have Hms := Lib.hid hms; have Hp := Lib.hid hp
  have hin0 : (0 : Int) ≤ (i : Int) := by omega
  have hin1 : (i : Int) < (n : Int) := by omega
  clear hat hms hp hnc' hpn
  have hk1 : ((o.kind : Int) == 1) = false := by rw [hkd]; rfl
  have hk3 : ((o.kind : Int) == 3) = false := by rw [hkd]; rfl
  have hk4 : ((o.kind : Int) == 4) = true := by rw [hkd]; rfl
  have hk5 : ((o.kind : Int) == 5) = false := by rw [hkd]; rfl
  have Hkd := Lib.hid hkd
  clear hkd
  clear hW hG0 hG hmW hb0 hbW hb hM hB hBg hK hL hx hs0 hps hS0 hput0 hR hnn hlen
  go_enter Try.func35, Try.ntmps35
  go_upto_region 1 with fail
  rw [← HW.out, ← HG.out, ← HG0.out]
  go_wp2_with fail
  refine (idxEqS (some ⟨g, 0, none⟩) n c _ ps G0 o.series W HR.out y1 hln1).mono ?_
  rintro e w1 ⟨k, rfl, hk, hm1⟩
  have hk1 := fst_some (by rw [← Hps.out]; exact hk) Hat.out
  subst hk1
  have hB1 := HBase.out.new hm1
  have hS1 : HavSer B w1 (.slice (some ⟨g, 0, none⟩) n c) ps := HS0.out.far hm1 (Far.none_ _)
  have HB1 := Lib.hid hB1; have HS1 := Lib.hid hS1
  have z0 := hB1.blk.cell 0
  have z1 := hB1.op.cell 0
  simp at z0 z1
  obtain ⟨x1, x2, x3, x4, x5⟩ := hS1.cells Hp.out
  have Hrd := Lib.hid (hS1.2 _ (List.mem_of_getElem? Hp.out)).rds
  clear hk hm1 hB1 hS1 y1
  obtain ⟨j, hj⟩ : ∃ j, i + 1 = j := ⟨_, rfl⟩
  obtain ⟨q, hq⟩ : ∃ q, q + 1 = n := ⟨n - 1, by omega⟩
  have hji : (i : Int) + 1 = (j : Int) := by omega
  have Hj := Lib.hid hj
  have hdel := (delS_any B g n c i j q (ps.map serC) w1 HS1.out.1 (serC_one HS1.out.2) hj (by omega) hq hln1)
  have Hdel := Lib.hid hdel
  clear hdel hj hq x1 x2 x3 x4 x5
  go_wp2_with fail
  refine Hdel.out.mono ?_
  rintro e w2 ⟨rfl, ho2, hm2⟩
  rw [← Hj.out] at ho2
  obtain ⟨ht, hb2⟩ := HB1.out.delR Hkd.out Hs0.out Hat.out Hms.out Hps.out HS1.out ho2 hm2
  have q0 := hb2.cell 0
  have p0 := hb2.frozen 0
  simp at q0
  obtain ⟨W4, hW4⟩ : ∃ W4, W4 = w2.setCell ⟨gm, 0, none⟩ (.slice (some ⟨g, 0, none⟩) q c) := ⟨_, rfl⟩
  rw [← hW4] at ht
  have Ht := Lib.hid ht; have HW4 := Lib.hid hW4
  clear ht ho2 hm2 hb2 hW4
  go_upto_region 13 with fail
  rw [← HW4.out]
  have hrb := Ht.out.1
  have r0 := hrb.cell 0
  have r1 := hrb.cell 1
  have r2 := hrb.cell 2
  have f0 := hrb.frozen 0
  have f1 := hrb.frozen 1
  have f2 := hrb.frozen 2
  simp at r0 r1 r2
  clear hrb
  go_wp2_with fail
  refine bodyPost_ret (v := .agg #[.int .i64 0, .int .i64 0, .slice none 0 0]) (by have h := Ht.out.1.three (.int .i64 0) (.int .i64 0) (.slice none 0 0); simp [results, Try.results35, go_sem, h.1, h.2.1, h.2.2.1]) rfl (Ht.out.2 _ (Mod.three_one _ _ _ _ _))
end Go.Proofs.Ytejnhdenehkpmaa

/- applyToSeries: the ops of a series. -/
namespace Go.Proofs.Ytejnhdenehkpmaa
open Go.RowKit

set_option maxHeartbeats 400000 in
set_option maxRecDepth 100000 in
theorem serRead (B gm : Nat) (v v2 : Value) (m : ModN) (o : OpN) (w : World) (hb : Blk w gm 31 #[v, v2, .int .i64 m.next]) (hM : HavM B w v v2 m) (hB : B ≤ w.heap.size) (hBg : B ≤ gm) (hK : KeepM m) (hL : LenM m 100000) (hx : m.next ≤ 1000000) (hs0 : ¬ (o.series < 0 ∨ 15 < o.series)) (i : Nat) (hat : atS o.series m.ser = some i) (hkd : o.kind = 2) :
    Calls Try.prog 35 #[.pointer (some ⟨gm, 0, none⟩), .agg #[.int .i64 o.kind, .int .i64 o.series, .int .i64 o.iter, .int .i64 o.t, .int .u64 (o.v : Int), .int .i64 o.from_, .int .i64 o.to_, .int .i64 o.n]] w fun e w' => ApEnd B w w' gm (doN m o).1 (doN m o).2 e := by
  obtain ⟨W, hW⟩ : ∃ W, W = (w.alloc (.cells #[.int .i64 o.kind, .int .i64 o.series, .int .i64 o.iter, .int .i64 o.t, .int .u64 (o.v : Int), .int .i64 o.from_, .int .i64 o.to_, .int .i64 o.n] 24)).alloc (.cells #[.int .i64 0, .int .i64 0, .slice none 0 0] 34) := ⟨_, rfl⟩
  obtain ⟨G0, hG0⟩ : ∃ g, g = w.heap.size := ⟨_, rfl⟩
  obtain ⟨G, hG⟩ : ∃ g, g = w.heap.size + 1 := ⟨_, rfl⟩
  have hmW : Mod (fun _ => False) w W := by rw [hW]; exact ((Mod.refl _ _).alloc _).alloc _
  have hb0 : Blk W G0 24 #[.int .i64 o.kind, .int .i64 o.series, .int .i64 o.iter, .int .i64 o.t, .int .u64 (o.v : Int), .int .i64 o.from_, .int .i64 o.to_, .int .i64 o.n] := by rw [hW, hG0]; exact (Blk.new _ _ _).alloc _
  have hbW : Blk W G 34 #[.int .i64 0, .int .i64 0, .slice none 0 0] := by
    rw [hW, hG]
    have h := Blk.new (w.alloc (.cells #[.int .i64 o.kind, .int .i64 o.series, .int .i64 o.iter, .int .i64 o.t, .int .u64 (o.v : Int), .int .i64 o.from_, .int .i64 o.to_, .int .i64 o.n] 24)) 34 #[.int .i64 0, .int .i64 0, .slice none 0 0]
    simpa using h
  have HBase : Hid (Base B w W gm G G0 v v2 m o) := Lib.hid ⟨hmW.mono (fun _ _ h => h.elim), hmW.blk hb (fun h => h), hM.new hmW, hb0, hbW, hB, hBg, by omega⟩
  obtain ⟨ps, hps, hS0, hput0⟩ := HBase.out.hav.ser
  obtain ⟨A, c, rfl, hnc, hcm, hR⟩ := hS0.form
  obtain ⟨n, hnn⟩ : ∃ n, n = ps.length := ⟨_, rfl⟩
  rw [← hnn] at hnc hR HBase hS0
  have hlen := keep_len hK
  have hln1 : n ≤ 1000000 := by rw [hnn, ← List.length_map (f := (·.1)), hps]; omega
  have hneG : ¬ G = gm := by
    have := hb.lt
    omega
  have z0 := HBase.out.blk.cell 0
  have y1 := HBase.out.op.cell 1
  simp at z0 y1
  have HW := Lib.hid hW; have HG0 := Lib.hid hG0; have HG := Lib.hid hG; have HR := Lib.hid hR; have Hps := Lib.hid hps; have HK := Lib.hid hK; have HL := Lib.hid hL; have Hs0 := Lib.hid hs0; have Hx := Lib.hid hx; have Hnn := Lib.hid hnn; have HS0 := Lib.hid hS0
  obtain ⟨s, hms, hjunk⟩ := atS_some hat
  clear hjunk
  obtain ⟨g, n', c', u4, e0, hp, hin, hnc', hpn⟩ := HS0.out.some_ Hps.out hms
  injection e0 with e1 e2 e3
  subst e1 e2 e3
  obtain ⟨A4, n4, c4, rfl, hjunk⟩ := HS0.out.2 _ (List.mem_of_getElem? hp)
  clear hjunk
  have hat5 : (⟨g, 0, none⟩ : Addr).add (i * 5) = ⟨g, i * 5, none⟩ := by rw [add_addr, Nat.zero_add]
  have hn4 : n4 ≤ 100000 := by
    have h1 := (HL.out.1 s (List.mem_of_getElem? hms)).1
    have h2 := (HS0.out.2 _ (List.mem_of_getElem? hp)).rds.1
    simp only at h2
    omega
  have Hat := Lib.hid hat; have Hms := Lib.hid hms; have Hp := Lib.hid hp
  have hin0 : (0 : Int) ≤ (i : Int) := by omega
  have hin1 : (i : Int) < (n : Int) := by omega
  clear hat hms hp hnc' hpn
  have hk1 : ((o.kind : Int) == 1) = false := by rw [hkd]; rfl
  have hk3 : ((o.kind : Int) == 3) = false := by rw [hkd]; rfl
  have hk4 : ((o.kind : Int) == 4) = false := by rw [hkd]; rfl
  have hk5 : ((o.kind : Int) == 5) = false := by rw [hkd]; rfl
  have Hkd := Lib.hid hkd
  clear hkd
  clear hW hG0 hG hmW hb0 hbW hb hM hB hBg hK hL hx hs0 hps hS0 hput0 hR hnn hlen
  go_enter Try.func35, Try.ntmps35
  go_upto_region 1 with fail
  rw [← HW.out, ← HG.out, ← HG0.out]
  go_wp2_with fail
  refine (idxEqS (some ⟨g, 0, none⟩) n c _ ps G0 o.series W HR.out y1 hln1).mono ?_
  rintro e w1 ⟨k, rfl, hk, hm1⟩
  have hk1 := fst_some (by rw [← Hps.out]; exact hk) Hat.out
  subst hk1
  have hB1 := HBase.out.new hm1
  have hS1 : HavSer B w1 (.slice (some ⟨g, 0, none⟩) n c) ps := HS0.out.far hm1 (Far.none_ _)
  have HB1 := Lib.hid hB1; have HS1 := Lib.hid hS1
  have z0 := hB1.blk.cell 0
  have z1 := hB1.op.cell 0
  simp at z0 z1
  obtain ⟨x1, x2, x3, x4, x5⟩ := hS1.cells Hp.out
  have Hrd := Lib.hid (hS1.2 _ (List.mem_of_getElem? Hp.out)).rds
  clear hk hm1 hB1 hS1 y1
  have y0 := HB1.out.op.cell 0
  have y1 := HB1.out.op.cell 1
  have y2 := HB1.out.op.cell 2
  have y3 := HB1.out.op.cell 3
  have y4 := HB1.out.op.cell 4
  have y5 := HB1.out.op.cell 5
  have y6 := HB1.out.op.cell 6
  have y7 := HB1.out.op.cell 7
  simp at y0 y1 y2 y3 y4 y5 y6 y7
  have Hw : Hid (Calls Try.prog 44 #[.slice A4 n4 c4, .agg #[.int .i64 o.kind, .int .i64 o.series, .int .i64 o.iter, .int .i64 o.t, .int .u64 (o.v : Int), .int .i64 o.from_, .int .i64 o.to_, .int .i64 o.n]] w1.drew fun e w2 => ∃ A5 n5 c5, e = .returned (.slice A5 n5 c5) ∧ OwnS w1.heap.size w2 (.slice A5 n5 c5) (spanN o.from_ o.to_ s.l) ∧ Mod (fun _ => False) w1 w2) := Lib.hid (by
    refine (within_any A4 n4 c4 s.l o w1.drew Hrd.out.2.2.2 (by omega)).mono ?_
    rintro e w2 ⟨v5, rfl, h1, h2⟩
    obtain ⟨A5, n5, c5, rfl, _⟩ := h1.formN
    exact ⟨A5, n5, c5, rfl, h1, (Mod.refl _ w1).drew.trans h2 (fun _ _ h => h)⟩)
  clear x1 x2 x3 x5
  go_upto_region 16 with fail
  go_region_with (first
    | (go_at_call 44; refine Hw.out.mono ?_; rintro e w2 ⟨A5, n5, c5, rfl, h1, h2⟩; have Ht := Lib.hid (HB1.out.told h2 h1 (doN_read Hkd.out Hs0.out Hat.out Hms.out)); have hrb := Ht.out.1; have r0 := hrb.cell 0; have r1 := hrb.cell 1; have r2 := hrb.cell 2; have f0 := hrb.frozen 0; have f1 := hrb.frozen 1; have f2 := hrb.frozen 2; simp at r0 r1 r2; clear hrb; clear h1 h2))
  all_goals (
    go_wp2_with fail
    refine bodyPost_ret (v := .agg #[.int .i64 0, .int .i64 0, .slice A5 n5 c5]) (by have h := Ht.out.1.three (.int .i64 0) (.int .i64 0) (.slice A5 n5 c5); simp [results, Try.results35, go_sem, h.1, h.2.1, h.2.2.1]) rfl (Ht.out.2 _ (Mod.three_one _ _ _ _ _)))
set_option maxHeartbeats 400000 in
set_option maxRecDepth 100000 in
theorem serAdd (B gm : Nat) (v v2 : Value) (m : ModN) (o : OpN) (w : World) (hb : Blk w gm 31 #[v, v2, .int .i64 m.next]) (hM : HavM B w v v2 m) (hB : B ≤ w.heap.size) (hBg : B ≤ gm) (hK : KeepM m) (hL : LenM m 100000) (hx : m.next ≤ 1000000) (hs0 : ¬ (o.series < 0 ∨ 15 < o.series)) (i : Nat) (hat : atS o.series m.ser = some i) (hkd : o.kind = 1) :
    Calls Try.prog 35 #[.pointer (some ⟨gm, 0, none⟩), .agg #[.int .i64 o.kind, .int .i64 o.series, .int .i64 o.iter, .int .i64 o.t, .int .u64 (o.v : Int), .int .i64 o.from_, .int .i64 o.to_, .int .i64 o.n]] w fun e w' => ApEnd B w w' gm (doN m o).1 (doN m o).2 e := by
  obtain ⟨W, hW⟩ : ∃ W, W = (w.alloc (.cells #[.int .i64 o.kind, .int .i64 o.series, .int .i64 o.iter, .int .i64 o.t, .int .u64 (o.v : Int), .int .i64 o.from_, .int .i64 o.to_, .int .i64 o.n] 24)).alloc (.cells #[.int .i64 0, .int .i64 0, .slice none 0 0] 34) := ⟨_, rfl⟩
  obtain ⟨G0, hG0⟩ : ∃ g, g = w.heap.size := ⟨_, rfl⟩
  obtain ⟨G, hG⟩ : ∃ g, g = w.heap.size + 1 := ⟨_, rfl⟩
  have hmW : Mod (fun _ => False) w W := by rw [hW]; exact ((Mod.refl _ _).alloc _).alloc _
  have hb0 : Blk W G0 24 #[.int .i64 o.kind, .int .i64 o.series, .int .i64 o.iter, .int .i64 o.t, .int .u64 (o.v : Int), .int .i64 o.from_, .int .i64 o.to_, .int .i64 o.n] := by rw [hW, hG0]; exact (Blk.new _ _ _).alloc _
  have hbW : Blk W G 34 #[.int .i64 0, .int .i64 0, .slice none 0 0] := by
    rw [hW, hG]
    have h := Blk.new (w.alloc (.cells #[.int .i64 o.kind, .int .i64 o.series, .int .i64 o.iter, .int .i64 o.t, .int .u64 (o.v : Int), .int .i64 o.from_, .int .i64 o.to_, .int .i64 o.n] 24)) 34 #[.int .i64 0, .int .i64 0, .slice none 0 0]
    simpa using h
  have HBase : Hid (Base B w W gm G G0 v v2 m o) := Lib.hid ⟨hmW.mono (fun _ _ h => h.elim), hmW.blk hb (fun h => h), hM.new hmW, hb0, hbW, hB, hBg, by omega⟩
  obtain ⟨ps, hps, hS0, hput0⟩ := HBase.out.hav.ser
  obtain ⟨A, c, rfl, hnc, hcm, hR⟩ := hS0.form
  obtain ⟨n, hnn⟩ : ∃ n, n = ps.length := ⟨_, rfl⟩
  rw [← hnn] at hnc hR HBase hS0
  have hlen := keep_len hK
  have hln1 : n ≤ 1000000 := by rw [hnn, ← List.length_map (f := (·.1)), hps]; omega
  have hneG : ¬ G = gm := by
    have := hb.lt
    omega
  have z0 := HBase.out.blk.cell 0
  have y1 := HBase.out.op.cell 1
  simp at z0 y1
  have HW := Lib.hid hW; have HG0 := Lib.hid hG0; have HG := Lib.hid hG; have HR := Lib.hid hR; have Hps := Lib.hid hps; have HK := Lib.hid hK; have HL := Lib.hid hL; have Hs0 := Lib.hid hs0; have Hx := Lib.hid hx; have Hnn := Lib.hid hnn; have HS0 := Lib.hid hS0
  obtain ⟨s, hms, hjunk⟩ := atS_some hat
  clear hjunk
  obtain ⟨g, n', c', u4, e0, hp, hin, hnc', hpn⟩ := HS0.out.some_ Hps.out hms
  injection e0 with e1 e2 e3
  subst e1 e2 e3
  obtain ⟨A4, n4, c4, rfl, hjunk⟩ := HS0.out.2 _ (List.mem_of_getElem? hp)
  clear hjunk
  have hat5 : (⟨g, 0, none⟩ : Addr).add (i * 5) = ⟨g, i * 5, none⟩ := by rw [add_addr, Nat.zero_add]
  have hn4 : n4 ≤ 100000 := by
    have h1 := (HL.out.1 s (List.mem_of_getElem? hms)).1
    have h2 := (HS0.out.2 _ (List.mem_of_getElem? hp)).rds.1
    simp only at h2
    omega
  have Hat := Lib.hid hat; have Hms := Lib.hid hms; have Hp := Lib.hid hp
  have hin0 : (0 : Int) ≤ (i : Int) := by omega
  have hin1 : (i : Int) < (n : Int) := by omega
  clear hat hms hp hnc' hpn
  have hk1 : ((o.kind : Int) == 1) = true := by rw [hkd]; rfl
  have hk3 : ((o.kind : Int) == 3) = false := by rw [hkd]; rfl
  have hk4 : ((o.kind : Int) == 4) = false := by rw [hkd]; rfl
  have hk5 : ((o.kind : Int) == 5) = false := by rw [hkd]; rfl
  have Hkd := Lib.hid hkd
  clear hkd
  clear hW hG0 hG hmW hb0 hbW hb hM hB hBg hK hL hx hs0 hps hS0 hput0 hR hnn hlen
  go_enter Try.func35, Try.ntmps35
  go_upto_region 1 with fail
  rw [← HW.out, ← HG.out, ← HG0.out]
  go_wp2_with fail
  refine (idxEqS (some ⟨g, 0, none⟩) n c _ ps G0 o.series W HR.out y1 hln1).mono ?_
  rintro e w1 ⟨k, rfl, hk, hm1⟩
  have hk1 := fst_some (by rw [← Hps.out]; exact hk) Hat.out
  subst hk1
  have hB1 := HBase.out.new hm1
  have hS1 : HavSer B w1 (.slice (some ⟨g, 0, none⟩) n c) ps := HS0.out.far hm1 (Far.none_ _)
  have HB1 := Lib.hid hB1; have HS1 := Lib.hid hS1
  have z0 := hB1.blk.cell 0
  have z1 := hB1.op.cell 0
  simp at z0 z1
  obtain ⟨x1, x2, x3, x4, x5⟩ := hS1.cells Hp.out
  have Hrd := Lib.hid (hS1.2 _ (List.mem_of_getElem? Hp.out)).rds
  clear hk hm1 hB1 hS1 y1
  have y0 := HB1.out.op.cell 0
  have y1 := HB1.out.op.cell 1
  have y2 := HB1.out.op.cell 2
  have y3 := HB1.out.op.cell 3
  have y4 := HB1.out.op.cell 4
  have y5 := HB1.out.op.cell 5
  have y6 := HB1.out.op.cell 6
  have y7 := HB1.out.op.cell 7
  simp at y0 y1 y2 y3 y4 y5 y6 y7
  have Hadd : Hid (Calls Try.prog 40 #[.pointer (some ⟨g, i * 5, none⟩), .agg #[.int .i64 o.kind, .int .i64 o.series, .int .i64 o.iter, .int .i64 o.t, .int .u64 (o.v : Int), .int .i64 o.from_, .int .i64 o.to_, .int .i64 o.n]] w1.drew fun e w2 => ∃ x : Int, e = .returned (.agg #[.int .i64 x, .int .i64 0, .slice none 0 0]) ∧ Tail B w w2 gm G (doN m o).1 (doN m o).2 x 0 (.slice none 0 0)) := Lib.hid (by
    refine (madd_any g (i * 5) s.sea s.any s.last A4 n4 c4 s.l o w1.drew x1 x2 x3 x4 x5 Hrd.out.2.2.2 (by omega)).mono ?_
    intro e w2 he
    exact (HB1.out.new (Mod.refl _ w1).drew).addR HK.out Hkd.out Hs0.out Hat.out Hps.out (HS1.out.far (Mod.refl (fun _ => False) w1).drew (Far.none_ _)) Hp.out he)
  clear x1 x2 x3 x4 x5
  go_upto_region 5 with fail
  go_region_with (first
    | (go_at_call 40; refine Hadd.out.mono ?_; rintro e w2 ⟨x, rfl, ht⟩; have Ht := Lib.hid ht; have hrb := Ht.out.1; have r0 := hrb.cell 0; have r1 := hrb.cell 1; have r2 := hrb.cell 2; have f0 := hrb.frozen 0; have f1 := hrb.frozen 1; have f2 := hrb.frozen 2; simp at r0 r1 r2; clear hrb; clear ht))
  all_goals (
    go_wp2_with fail
    refine bodyPost_ret (v := .agg #[.int .i64 x, .int .i64 0, .slice none 0 0]) (by have h := Ht.out.1.three (.int .i64 x) (.int .i64 0) (.slice none 0 0); simp [results, Try.results35, go_sem, h.1, h.2.1, h.2.2.1]) rfl (Ht.out.2 _ (Mod.three_one _ _ _ _ _)))
end Go.Proofs.Ytejnhdenehkpmaa

/- applyToSeries: the ops of a series. -/
namespace Go.Proofs.Ytejnhdenehkpmaa
open Go.RowKit

set_option maxHeartbeats 400000 in
set_option maxRecDepth 100000 in
theorem serBegin (B gm : Nat) (v v2 : Value) (m : ModN) (o : OpN) (w : World) (hb : Blk w gm 31 #[v, v2, .int .i64 m.next]) (hM : HavM B w v v2 m) (hB : B ≤ w.heap.size) (hBg : B ≤ gm) (hK : KeepM m) (hL : LenM m 100000) (hx : m.next ≤ 1000000) (hs0 : ¬ (o.series < 0 ∨ 15 < o.series)) (hat : atS o.series m.ser = none) (hkd : o.kind = 1) :
    Calls Try.prog 35 #[.pointer (some ⟨gm, 0, none⟩), .agg #[.int .i64 o.kind, .int .i64 o.series, .int .i64 o.iter, .int .i64 o.t, .int .u64 (o.v : Int), .int .i64 o.from_, .int .i64 o.to_, .int .i64 o.n]] w fun e w' => ApEnd B w w' gm (doN m o).1 (doN m o).2 e := by
  obtain ⟨W, hW⟩ : ∃ W, W = (w.alloc (.cells #[.int .i64 o.kind, .int .i64 o.series, .int .i64 o.iter, .int .i64 o.t, .int .u64 (o.v : Int), .int .i64 o.from_, .int .i64 o.to_, .int .i64 o.n] 24)).alloc (.cells #[.int .i64 0, .int .i64 0, .slice none 0 0] 34) := ⟨_, rfl⟩
  obtain ⟨G0, hG0⟩ : ∃ g, g = w.heap.size := ⟨_, rfl⟩
  obtain ⟨G, hG⟩ : ∃ g, g = w.heap.size + 1 := ⟨_, rfl⟩
  have hmW : Mod (fun _ => False) w W := by rw [hW]; exact ((Mod.refl _ _).alloc _).alloc _
  have hb0 : Blk W G0 24 #[.int .i64 o.kind, .int .i64 o.series, .int .i64 o.iter, .int .i64 o.t, .int .u64 (o.v : Int), .int .i64 o.from_, .int .i64 o.to_, .int .i64 o.n] := by rw [hW, hG0]; exact (Blk.new _ _ _).alloc _
  have hbW : Blk W G 34 #[.int .i64 0, .int .i64 0, .slice none 0 0] := by
    rw [hW, hG]
    have h := Blk.new (w.alloc (.cells #[.int .i64 o.kind, .int .i64 o.series, .int .i64 o.iter, .int .i64 o.t, .int .u64 (o.v : Int), .int .i64 o.from_, .int .i64 o.to_, .int .i64 o.n] 24)) 34 #[.int .i64 0, .int .i64 0, .slice none 0 0]
    simpa using h
  have HBase : Hid (Base B w W gm G G0 v v2 m o) := Lib.hid ⟨hmW.mono (fun _ _ h => h.elim), hmW.blk hb (fun h => h), hM.new hmW, hb0, hbW, hB, hBg, by omega⟩
  obtain ⟨ps, hps, hS0, hput0⟩ := HBase.out.hav.ser
  obtain ⟨A, c, rfl, hnc, hcm, hR⟩ := hS0.form
  obtain ⟨n, hnn⟩ : ∃ n, n = ps.length := ⟨_, rfl⟩
  rw [← hnn] at hnc hR HBase hS0
  have hlen := keep_len hK
  have hln1 : n ≤ 1000000 := by rw [hnn, ← List.length_map (f := (·.1)), hps]; omega
  have hneG : ¬ G = gm := by
    have := hb.lt
    omega
  have z0 := HBase.out.blk.cell 0
  have y1 := HBase.out.op.cell 1
  simp at z0 y1
  have HW := Lib.hid hW; have HG0 := Lib.hid hG0; have HG := Lib.hid hG; have HR := Lib.hid hR; have Hps := Lib.hid hps; have HK := Lib.hid hK; have HL := Lib.hid hL; have Hs0 := Lib.hid hs0; have Hx := Lib.hid hx; have Hnn := Lib.hid hnn; have HS0 := Lib.hid hS0
  have hk1 : ((o.kind : Int) == 1) = true := by rw [hkd]; rfl
  have hk3 : ((o.kind : Int) == 3) = false := by rw [hkd]; rfl
  have hk4 : ((o.kind : Int) == 4) = false := by rw [hkd]; rfl
  have hk5 : ((o.kind : Int) == 5) = false := by rw [hkd]; rfl
  have Hkd := Lib.hid hkd
  clear hkd
  clear hW hG0 hG hmW hb0 hbW hb hM hB hBg hK hL hx hs0 hps hS0 hput0 hR hnn hlen
  go_enter Try.func35, Try.ntmps35
  go_upto_region 1 with fail
  rw [← HW.out, ← HG.out, ← HG0.out]
  go_wp2_with fail
  refine (idxEqS (A) n c _ ps G0 o.series W HR.out y1 hln1).mono ?_
  rintro e w1 ⟨k, rfl, hk, hm1⟩
  have hk1' := fst_none (by rw [← Hps.out]; exact hk) hat
  subst hk1'
  have hB1 := HBase.out.new hm1
  have z1 := hB1.op.cell 0
  have z2 := hB1.op.cell 1
  simp at z1 z2
  have HB1 := Lib.hid hB1
  clear hk hm1 hB1 z0 y1
  go_wp2_with fail
  refine (begin_any B gm (.slice A n c) v2 m o.series w1 HB1.out.blk HB1.out.hav (by have := HB1.out.low; have := HB1.out.res.lt; have := HG.out; omega) (by have := keep_len HK.out; omega)).mono ?_
  rintro e w2 ⟨i, v1, rfl, hl, hb2, hM2, hm2⟩
  obtain ⟨hK1, hat1, hms, hdo⟩ := begin_same HK.out Hkd.out Hs0.out hat hl
  obtain ⟨m1, hm1⟩ : ∃ m1 : ModN, { m with ser := m.ser.take i ++ newN o.series :: m.ser.drop i } = m1 := ⟨_, rfl⟩
  have hn1 : m1.next = m.next := by rw [← hm1]
  have hser1 : m1.ser = m.ser.take i ++ newN o.series :: m.ser.drop i := by rw [← hm1]
  rw [hm1] at hM2 hK1 hdo
  rw [← hser1] at hat1 hms
  have HB2 := Lib.hid (HB1.out.begun (by rw [hn1]; exact hb2) hM2 hm2)
  obtain ⟨ps1, hps1, hS2, hjunk⟩ := hM2.ser
  clear hjunk
  obtain ⟨g, n', c', u4, rfl, hp, hin, hnc', hpn⟩ := hS2.some_ hps1 hms
  obtain ⟨A4, n4, c4, rfl, hjunk⟩ := hS2.2 _ (List.mem_of_getElem? hp)
  clear hjunk
  have hat5 : (⟨g, 0, none⟩ : Addr).add (i * 5) = ⟨g, i * 5, none⟩ := by rw [add_addr, Nat.zero_add]
  obtain ⟨s, hse⟩ : ∃ s, s = newN o.series := ⟨_, rfl⟩
  rw [← hse] at hms hp
  have hn4 : n4 = 0 := by
    have h2 := (hS2.2 _ (List.mem_of_getElem? hp)).rds.1
    rw [hse] at h2
    exact h2.symm
  obtain ⟨x1, x2, x3, x4, x5⟩ := hS2.cells hp
  have Hrd := Lib.hid (hS2.2 _ (List.mem_of_getElem? hp)).rds
  have Hat := Lib.hid hat1; have Hp := Lib.hid hp; have HK1 := Lib.hid hK1; have Hdo := Lib.hid hdo; have Hps1 := Lib.hid hps1; have HS2 := Lib.hid hS2
  have hin0 : (0 : Int) ≤ (i : Int) := by omega
  have hin1 : (i : Int) < (n' : Int) := by omega
  have z0 := HB2.out.blk.cell 0
  simp at z0
  clear hat hat1 hms hp hnc' hpn hl hb2 hM2 hm2 hm1 hn1 hser1 hdo hK1 hps1 hS2 hse z1 z2
  have y0 := HB2.out.op.cell 0
  have y1 := HB2.out.op.cell 1
  have y2 := HB2.out.op.cell 2
  have y3 := HB2.out.op.cell 3
  have y4 := HB2.out.op.cell 4
  have y5 := HB2.out.op.cell 5
  have y6 := HB2.out.op.cell 6
  have y7 := HB2.out.op.cell 7
  simp at y0 y1 y2 y3 y4 y5 y6 y7
  have Hadd : Hid (Calls Try.prog 40 #[.pointer (some ⟨g, i * 5, none⟩), .agg #[.int .i64 o.kind, .int .i64 o.series, .int .i64 o.iter, .int .i64 o.t, .int .u64 (o.v : Int), .int .i64 o.from_, .int .i64 o.to_, .int .i64 o.n]] w2.drew fun e w3 => ∃ x : Int, e = .returned (.agg #[.int .i64 x, .int .i64 0, .slice none 0 0]) ∧ Tail B w w3 gm G (doN m o).1 (doN m o).2 x 0 (.slice none 0 0)) := Lib.hid (by
    refine (madd_any g (i * 5) s.sea s.any s.last A4 n4 c4 s.l o w2.drew x1 x2 x3 x4 x5 Hrd.out.2.2.2 (by omega)).mono ?_
    intro e w3 he
    exact (by rw [← Hdo.out]; exact (HB2.out.new (Mod.refl _ w2).drew).addR HK1.out Hkd.out Hs0.out Hat.out Hps1.out (HS2.out.far (Mod.refl (fun _ => False) w2).drew (Far.none_ _)) Hp.out he))
  clear x1 x2 x3 x4 x5
  go_upto_region 5 with fail
  go_region_with (first
    | (go_at_call 40; refine Hadd.out.mono ?_; rintro e w3 ⟨x, rfl, ht⟩; have Ht := Lib.hid ht; have hrb := Ht.out.1; have r0 := hrb.cell 0; have r1 := hrb.cell 1; have r2 := hrb.cell 2; have f0 := hrb.frozen 0; have f1 := hrb.frozen 1; have f2 := hrb.frozen 2; simp at r0 r1 r2; clear hrb; clear ht))
  all_goals (
    go_wp2_with fail
    refine bodyPost_ret (v := .agg #[.int .i64 x, .int .i64 0, .slice none 0 0]) (by have h := Ht.out.1.three (.int .i64 x) (.int .i64 0) (.slice none 0 0); simp [results, Try.results35, go_sem, h.1, h.2.1, h.2.2.1]) rfl (Ht.out.2 _ (Mod.three_one _ _ _ _ _)))
set_option maxHeartbeats 400000 in
set_option maxRecDepth 100000 in
theorem serOpen (B gm : Nat) (v v2 : Value) (m : ModN) (o : OpN) (w : World) (hb : Blk w gm 31 #[v, v2, .int .i64 m.next]) (hM : HavM B w v v2 m) (hB : B ≤ w.heap.size) (hBg : B ≤ gm) (hK : KeepM m) (hL : LenM m 100000) (hx : m.next ≤ 1000000) (hs0 : ¬ (o.series < 0 ∨ 15 < o.series)) (i : Nat) (hat : atS o.series m.ser = some i) (hkd : o.kind = 5) :
    Calls Try.prog 35 #[.pointer (some ⟨gm, 0, none⟩), .agg #[.int .i64 o.kind, .int .i64 o.series, .int .i64 o.iter, .int .i64 o.t, .int .u64 (o.v : Int), .int .i64 o.from_, .int .i64 o.to_, .int .i64 o.n]] w fun e w' => ApEnd B w w' gm (doN m o).1 (doN m o).2 e := by
  obtain ⟨W, hW⟩ : ∃ W, W = (w.alloc (.cells #[.int .i64 o.kind, .int .i64 o.series, .int .i64 o.iter, .int .i64 o.t, .int .u64 (o.v : Int), .int .i64 o.from_, .int .i64 o.to_, .int .i64 o.n] 24)).alloc (.cells #[.int .i64 0, .int .i64 0, .slice none 0 0] 34) := ⟨_, rfl⟩
  obtain ⟨G0, hG0⟩ : ∃ g, g = w.heap.size := ⟨_, rfl⟩
  obtain ⟨G, hG⟩ : ∃ g, g = w.heap.size + 1 := ⟨_, rfl⟩
  have hmW : Mod (fun _ => False) w W := by rw [hW]; exact ((Mod.refl _ _).alloc _).alloc _
  have hb0 : Blk W G0 24 #[.int .i64 o.kind, .int .i64 o.series, .int .i64 o.iter, .int .i64 o.t, .int .u64 (o.v : Int), .int .i64 o.from_, .int .i64 o.to_, .int .i64 o.n] := by rw [hW, hG0]; exact (Blk.new _ _ _).alloc _
  have hbW : Blk W G 34 #[.int .i64 0, .int .i64 0, .slice none 0 0] := by
    rw [hW, hG]
    have h := Blk.new (w.alloc (.cells #[.int .i64 o.kind, .int .i64 o.series, .int .i64 o.iter, .int .i64 o.t, .int .u64 (o.v : Int), .int .i64 o.from_, .int .i64 o.to_, .int .i64 o.n] 24)) 34 #[.int .i64 0, .int .i64 0, .slice none 0 0]
    simpa using h
  have HBase : Hid (Base B w W gm G G0 v v2 m o) := Lib.hid ⟨hmW.mono (fun _ _ h => h.elim), hmW.blk hb (fun h => h), hM.new hmW, hb0, hbW, hB, hBg, by omega⟩
  obtain ⟨ps, hps, hS0, hput0⟩ := HBase.out.hav.ser
  obtain ⟨A, c, rfl, hnc, hcm, hR⟩ := hS0.form
  obtain ⟨n, hnn⟩ : ∃ n, n = ps.length := ⟨_, rfl⟩
  rw [← hnn] at hnc hR HBase hS0
  have hlen := keep_len hK
  have hln1 : n ≤ 1000000 := by rw [hnn, ← List.length_map (f := (·.1)), hps]; omega
  have hneG : ¬ G = gm := by
    have := hb.lt
    omega
  have z0 := HBase.out.blk.cell 0
  have y1 := HBase.out.op.cell 1
  simp at z0 y1
  have HW := Lib.hid hW; have HG0 := Lib.hid hG0; have HG := Lib.hid hG; have HR := Lib.hid hR; have Hps := Lib.hid hps; have HK := Lib.hid hK; have HL := Lib.hid hL; have Hs0 := Lib.hid hs0; have Hx := Lib.hid hx; have Hnn := Lib.hid hnn; have HS0 := Lib.hid hS0
  obtain ⟨s, hms, hjunk⟩ := atS_some hat
  clear hjunk
  obtain ⟨g, n', c', u4, e0, hp, hin, hnc', hpn⟩ := HS0.out.some_ Hps.out hms
  injection e0 with e1 e2 e3
  subst e1 e2 e3
  obtain ⟨A4, n4, c4, rfl, hjunk⟩ := HS0.out.2 _ (List.mem_of_getElem? hp)
  clear hjunk
  have hat5 : (⟨g, 0, none⟩ : Addr).add (i * 5) = ⟨g, i * 5, none⟩ := by rw [add_addr, Nat.zero_add]
  have hn4 : n4 ≤ 100000 := by
    have h1 := (HL.out.1 s (List.mem_of_getElem? hms)).1
    have h2 := (HS0.out.2 _ (List.mem_of_getElem? hp)).rds.1
    simp only at h2
    omega
  have Hat := Lib.hid hat; have Hms := Lib.hid hms; have Hp := Lib.hid hp
  have hin0 : (0 : Int) ≤ (i : Int) := by omega
  have hin1 : (i : Int) < (n : Int) := by omega
  clear hat hms hp hnc' hpn
  have hk1 : ((o.kind : Int) == 1) = false := by rw [hkd]; rfl
  have hk3 : ((o.kind : Int) == 3) = false := by rw [hkd]; rfl
  have hk4 : ((o.kind : Int) == 4) = false := by rw [hkd]; rfl
  have hk5 : ((o.kind : Int) == 5) = true := by rw [hkd]; rfl
  have Hkd := Lib.hid hkd
  clear hkd
  clear hW hG0 hG hmW hb0 hbW hb hM hB hBg hK hL hx hs0 hps hS0 hput0 hR hnn hlen
  go_enter Try.func35, Try.ntmps35
  go_upto_region 1 with fail
  rw [← HW.out, ← HG.out, ← HG0.out]
  go_wp2_with fail
  refine (idxEqS (some ⟨g, 0, none⟩) n c _ ps G0 o.series W HR.out y1 hln1).mono ?_
  rintro e w1 ⟨k, rfl, hk, hm1⟩
  have hk1 := fst_some (by rw [← Hps.out]; exact hk) Hat.out
  subst hk1
  have hB1 := HBase.out.new hm1
  have hS1 : HavSer B w1 (.slice (some ⟨g, 0, none⟩) n c) ps := HS0.out.far hm1 (Far.none_ _)
  have HB1 := Lib.hid hB1; have HS1 := Lib.hid hS1
  have z0 := hB1.blk.cell 0
  have z1 := hB1.op.cell 0
  simp at z0 z1
  obtain ⟨x1, x2, x3, x4, x5⟩ := hS1.cells Hp.out
  have Hrd := Lib.hid (hS1.2 _ (List.mem_of_getElem? Hp.out)).rds
  clear hk hm1 hB1 hS1 y1
  have y0 := HB1.out.op.cell 0
  have y1 := HB1.out.op.cell 1
  have y2 := HB1.out.op.cell 2
  have y3 := HB1.out.op.cell 3
  have y4 := HB1.out.op.cell 4
  have y5 := HB1.out.op.cell 5
  have y6 := HB1.out.op.cell 6
  have y7 := HB1.out.op.cell 7
  simp at y0 y1 y2 y3 y4 y5 y6 y7
  have Hw : Hid (Calls Try.prog 44 #[.slice A4 n4 c4, .agg #[.int .i64 o.kind, .int .i64 o.series, .int .i64 o.iter, .int .i64 o.t, .int .u64 (o.v : Int), .int .i64 o.from_, .int .i64 o.to_, .int .i64 o.n]] w1.drew fun e w2 => ∃ A5 n5 c5, e = .returned (.slice A5 n5 c5) ∧ Calls Try.prog 43 #[.pointer (some ⟨gm, 0, none⟩), .slice A5 n5 c5] w2 fun e w3 => ∃ x y : Int, e = .returned (.agg #[.int .i64 x, .int .i64 y, .slice none 0 0]) ∧ Tail B w w3 gm G (doN m o).1 (doN m o).2 x y (.slice none 0 0)) := Lib.hid (by
    refine (within_any A4 n4 c4 s.l o w1.drew Hrd.out.2.2.2 (by omega)).mono ?_
    rintro e w2 ⟨v5, rfl, h1, h2⟩
    obtain ⟨A5, n5, c5, rfl, _⟩ := h1.formN
    have hB2 := HB1.out.new ((Mod.refl _ w1).drew.trans h2 (fun _ _ h => h))
    have hlo : B ≤ w1.heap.size := by have := HB1.out.low; have := HB1.out.mod.size; omega
    refine ⟨A5, n5, c5, rfl, (open_any B gm (.slice (some ⟨g, 0, none⟩) n c) v2 m A5 n5 c5 (spanN o.from_ o.to_ s.l) w2 hB2.blk hB2.hav (by have := hB2.low; have := hB2.mod.size; omega) ((SliH.of_own h1).mono hlo) HK.out.2.2.1 (fun i hi => (HK.out.2.1 i hi).2) ⟨HK.out.2.2.2.1, Hx.out⟩).mono ?_⟩
    intro e w3 he
    exact hB2.openR Hkd.out Hs0.out Hat.out Hms.out he)
  clear x1 x2 x3 x5
  go_upto_region 15 with fail
  go_region_with (first
    | (go_at_call 43; refine Ho5.out.mono ?_; rintro e w3 ⟨x, y, rfl, ht⟩; have Ht := Lib.hid ht; have hrb := Ht.out.1; have r0 := hrb.cell 0; have r1 := hrb.cell 1; have r2 := hrb.cell 2; have f0 := hrb.frozen 0; have f1 := hrb.frozen 1; have f2 := hrb.frozen 2; simp at r0 r1 r2; clear hrb; clear ht)
    | (go_at_call 44; refine Hw.out.mono ?_; rintro e w2 ⟨A5, n5, c5, rfl, ho5⟩; have Ho5 := Lib.hid ho5; clear ho5))
  all_goals (
    go_wp2_with fail
    refine bodyPost_ret (v := .agg #[.int .i64 x, .int .i64 y, .slice none 0 0]) (by have h := Ht.out.1.three (.int .i64 x) (.int .i64 y) (.slice none 0 0); simp [results, Try.results35, go_sem, h.1, h.2.1, h.2.2.1]) rfl (Ht.out.2 _ (Mod.three_one _ _ _ _ _)))
end Go.Proofs.Ytejnhdenehkpmaa

/- What each op of an iterator comes to in memory. -/
namespace Go.Proofs.Ytejnhdenehkpmaa
open Go.RowKit

section
variable {B gm G G0 i g n c : Nat} {w w1 w2 : World} {m m' : ModN} {o : OpN} {v u4 : Value} {s : IteN} {ps : List (IteN × Value)} {e : Ending}
theorem HavIte.at_ (hS : HavIte B w1 (.slice (some ⟨g, 0, none⟩) n c) ps) : (∃ cs, Blk w1 g 50 cs) ∧ B ≤ g ∧ ps.length = n ∧ n ≤ c := by
  obtain ⟨cur, hb, hB, hr, hnc, _⟩ := hS.1.blk
  exact ⟨⟨cur, hb⟩, hB, by rw [← hr, List.length_map], hnc⟩
theorem HavIte.cells (hS : HavIte B w1 (.slice (some ⟨g, 0, none⟩) n c) ps) (hp : ps[i]? = some (s, u4)) : w1.cell? ⟨g, i * 2 + 1, none⟩ = some u4 ∧ ∀ j, w1.frozen? ⟨g, i * 2 + j, none⟩ = false := by
  obtain ⟨cur, hb, _, hr, _, _, _, _⟩ := hS.1.blk
  have hi := (List.getElem?_eq_some_iff.1 hp).1
  obtain ⟨ad, r, e, _, h1, _, h2⟩ := (hS.1.rds hr).at_ (i := i) (by rw [← hr, List.length_map]; exact hi) (by decide)
  injection e with e
  subst e
  rw [List.getElem?_map, hp] at h1
  injection h1 with h1
  subst h1
  have h3 := h2 1 _ rfl
  rw [add_addr, Nat.zero_add] at h3
  exact ⟨h3, fun j => hb.frozen _⟩
theorem HavIte.some_ (hS : HavIte B w1 v ps) (hps : ps.map (·.1) = m.ite) (hms : m.ite[i]? = some s) : ∃ g n c u4, v = .slice (some ⟨g, 0, none⟩) n c ∧ ps[i]? = some (s, u4) ∧ i < n ∧ n ≤ c ∧ ps.length = n := by
  have h1 : (ps.map (·.1))[i]? = some s := by rw [hps]; exact hms
  rw [List.getElem?_map] at h1
  obtain ⟨⟨s', u4⟩, h2, h3⟩ := Option.map_eq_some_iff.1 h1
  simp only at h3
  subst h3
  have hi := (List.getElem?_eq_some_iff.1 h2).1
  obtain ⟨g, cap, e, h4, _⟩ := hS.1.form' (by rw [List.length_map]; omega)
  rw [List.length_map] at e h4
  exact ⟨g, ps.length, cap, u4, e, h2, hi, h4, rfl⟩
theorem fstI_some {ss : List IteN} {S k : Int} {i : Nat} (h : FstN (fun q => q.id = S) ss k) (hat : atI S ss = some i) : k = (i : Int) := by
  rcases h with ⟨j, rfl, s, h1, h2, h3⟩ | ⟨_, h1⟩
  · have h4 := atI_found h3 h1 h2
    rw [hat] at h4
    injection h4 with h4
    rw [h4]
  · obtain ⟨s, h2, h3⟩ := atI_some hat
    exact absurd h3 (h1 i s h2)
theorem fstI_none {ss : List IteN} {S k : Int} (h : FstN (fun q => q.id = S) ss k) (hat : atI S ss = none) : k = -1 := by
  rcases h with ⟨j, rfl, s, h1, h2, h3⟩ | ⟨h0, _⟩
  · exact absurd h2 (atI_none hat s (List.mem_of_getElem? h1))
  · exact h0
variable {v1 : Value}
/-- One cell of one iterator is written. -/
theorem Base.cellI {j : Nat} {u : Value} {s s' : IteN} {u4 u4' : Value} (h : HavM B w1 v1 (.slice (some ⟨g, 0, none⟩) n c) m) (hps : ps.map (·.1) = m.ite) (hS : HavIte B w1 (.slice (some ⟨g, 0, none⟩) n c) ps) (hp : ps[i]? = some (s, u4)) (hj : j < 2) (hu : (iteC (s, u4)).set j u = iteC (s', u4')) (hs : SliH B w1 u4' s'.rest) :
    HavM B (w1.setCell ⟨g, i * 2 + j, none⟩ u) v1 (.slice (some ⟨g, 0, none⟩) n c) { m with ite := m.ite.set i s' } ∧ Mod (fun k => k = g) w1 (w1.setCell ⟨g, i * 2 + j, none⟩ u) := by
  obtain ⟨hO, hI⟩ := hS
  obtain ⟨ss, ps2, e1, e2, h3, h4⟩ := h
  have hm : Mod (fun k => k = g) w1 (w1.setCell ⟨g, i * 2 + j, none⟩ u) := (Mod.refl (fun k => k = g) w1).setCell (p := ⟨g, i * 2 + j, none⟩) (fun _ => rfl) u
  have hr : (ps.map iteC)[i]? = some (iteC (s, u4)) := by rw [List.getElem?_map, hp]; rfl
  have hO2 := (hO.set_ (by obtain ⟨_, _, _, hl, _⟩ := hO.blk; exact hl) hr hj u).2.2
  rw [hu, ← List.map_set] at hO2
  obtain ⟨cs, hcs⟩ := own_blk hO g (by simp [Value.ownBlock])
  refine ⟨⟨ss, _, e1, by rw [List.map_set, hps], ⟨h3.1.modS hm (fun k hk e => ?_), fun p hp => (h3.2 p hp).mod hm (fun k cs' _ hb e => by rw [e] at hb; exact Blk.ne_ hb hcs (by decide) rfl)⟩, hO2, fun p hp => ?_⟩, hm⟩
  · obtain ⟨cs2, hcs2⟩ := own_blk h3.1 k hk
    rw [e] at hcs2
    exact Blk.ne_ hcs2 hcs (by decide) rfl
  · have key : SliH B w1 p.2 p.1.rest := by
      rcases List.mem_or_eq_of_mem_set hp with hp | rfl
      · exact hI p hp
      · exact hs
    exact key.mod hm (fun k cs' _ hb e => by rw [e] at hb; exact Blk.ne_ hb hcs (by decide) rfl)
theorem Base.tellR {A4 : Option Addr} {n4 c4 : Nat} (h : Base B w w1 gm G G0 v1 (.slice (some ⟨g, 0, none⟩) n c) m o) (hk : o.kind = 6) (hat : atI o.iter m.ite = some i) (hps : ps.map (·.1) = m.ite) (hS : HavIte B w1 (.slice (some ⟨g, 0, none⟩) n c) ps) (hp : ps[i]? = some (s, .slice A4 n4 c4)) (hn4 : s.rest.length = n4)
    (he : TellEnd w1 w2 ⟨g, i * 2 + 1, none⟩ A4 n4 c4 s.rest o.n e) : ∃ A5 n5 c5, e = .returned (.agg #[.int .i64 0, .int .i64 0, .slice A5 n5 c5]) ∧ Tail B w w2 gm G (doN m o).1 (doN m o).2 0 0 (.slice A5 n5 c5) := by
  have hms : m.ite[i]? = some s := by rw [← hps, List.getElem?_map, hp]; rfl
  obtain ⟨v5, rfl, ho5, w3, G', cs, hm3, hG', hbG, hm4⟩ := he
  obtain ⟨A5, n5, c5, rfl, _⟩ := ho5.formN
  have h3 := h.new hm3
  have hS3 := hS.far hm3 (Far.none_ _)
  obtain ⟨⟨cur, hcur⟩, hBg, _, _⟩ := hS3.at_
  have hsl : SliH B w3 (restV A4 n4 c4 (manyN o.n n4)) (s.rest.drop (manyN o.n n4)) := (hS3.2 _ (List.mem_of_getElem? hp)).drop (manyN_le o.n n4)
  obtain ⟨H1, H2⟩ := Base.cellI (j := 1) (u := restV A4 n4 c4 (manyN o.n n4)) (s' := { s with rest := s.rest.drop (manyN o.n n4) }) (u4' := restV A4 n4 c4 (manyN o.n n4)) h3.hav hps hS3 hp (by decide) rfl hsl
  refine ⟨A5, n5, c5, rfl, h3.after hcur (.inr rfl) hBg H2 H1 rfl hbG (by have := h.res.lt; omega) (by have := h.mod.size; omega) hm4 (l := s.rest.take (manyN o.n n4)) ((SliH.of_own ho5).mono (by have := h.low; have := h.mod.size; omega)) ?_⟩
  rw [doN_more hk hat hms, hn4]
theorem Base.delI {q : Nat} (h : Base B w w1 gm G G0 v1 (.slice (some ⟨g, 0, none⟩) n c) m o) (hk : o.kind = 7) (hat : atI o.iter m.ite = some i) (hms : m.ite[i]? = some s) (hps : ps.map (·.1) = m.ite) (hS : HavIte B w1 (.slice (some ⟨g, 0, none⟩) n c) ps)
    (hO : OwnK 2 B w2 50 (.slice (some ⟨g, 0, none⟩) q c) ((ps.map iteC).take i ++ (ps.map iteC).drop (i + 1))) (hm : Mod (fun k => k = g) w1 w2) :
    Tail B w (w2.setCell ⟨gm, 1, none⟩ (.slice (some ⟨g, 0, none⟩) q c)) gm G (doN m o).1 (doN m o).2 0 0 (.slice none 0 0) ∧ Blk w2 gm 31 #[v1, .slice (some ⟨g, 0, none⟩) n c, .int .i64 m.next] := by
  obtain ⟨⟨cur, hcur⟩, hBg, _, _⟩ := hS.at_
  obtain ⟨ss, ps2, e1, e2, h3, hS2⟩ := h.hav
  have hne : ∀ {k : Nat} {t' : TypeId} {cs'' : Array Value}, Blk w1 k t' cs'' → t' ≠ 50 → k ≠ g := fun {k t' cs''} hb h1 => by
    rintro rfl
    exact Blk.ne_ hb hcur h1 rfl
  have hb2 := hm.blk h.blk (hne h.blk (by decide))
  have hM : HavM B w2 v1 (.slice (some ⟨g, 0, none⟩) q c) { m with ite := m.ite.take i ++ m.ite.drop (i + 1) } :=
    ⟨ss, ps.take i ++ ps.drop (i + 1), e1, by rw [List.map_append, List.map_take, List.map_drop, hps], ⟨h3.1.modS hm (fun k hk e => by
        obtain ⟨cs2, hcs2⟩ := own_blk h3.1 k hk
        exact hne hcs2 (by decide) e), fun p hp => (h3.2 p hp).mod hm (fun k cs' _ hb e => hne hb (by decide) e)⟩, by rw [List.map_append, List.map_take, List.map_drop]; exact hO, fun p hp => by
      have hp' : p ∈ ps := by
        rcases List.mem_append.1 hp with hp | hp
        · exact List.mem_of_mem_take hp
        · exact List.mem_of_mem_drop hp
      exact (hS.2 p hp').mod hm (fun k cs' _ hb e => hne hb (by decide) e)⟩
  have hm5 : Mod (fun k => k = gm) w2 (w2.setCell ⟨gm, 1, none⟩ (.slice (some ⟨g, 0, none⟩) q c)) := (Mod.refl (fun k => k = gm) w2).setCell (p := ⟨gm, 1, none⟩) (fun _ => rfl) _
  refine ⟨?_, hb2⟩
  rw [doN_close hk hat hms]
  refine Tail.mk (v := v1) (v2 := .slice (some ⟨g, 0, none⟩) q c) (by have := hb2.set_ 1 (.slice (some ⟨g, 0, none⟩) q c); simpa using this) (hM.far hm5 (Far.one hb2 (by decide) (by decide) (by decide))) (SliH.nil _ _) (hm5.blk (hm.blk h.res (hne h.res (by decide))) (fun e => ?_)) ((h.mod.trans hm (fun i _ e => by subst e; exact Low.of h.mod hcur (by decide) (by decide) hBg)).trans hm5 (fun i _ e => by subst e; exact Low.of h.mod h.blk (by decide) (by decide) h.lowg)) h.lowG rfl rfl
  have h9 := h.res
  rw [e] at h9
  exact Blk.ne_ h9 h.blk (by decide) rfl
end
end Go.Proofs.Ytejnhdenehkpmaa

/- applyToIter: the ops of an iterator. -/
namespace Go.Proofs.Ytejnhdenehkpmaa
open Go.RowKit

set_option maxHeartbeats 400000 in
set_option maxRecDepth 100000 in
theorem iteNone (B gm : Nat) (v v2 : Value) (m : ModN) (o : OpN) (w : World) (hb : Blk w gm 31 #[v, v2, .int .i64 m.next]) (hM : HavM B w v v2 m) (hB : B ≤ w.heap.size) (hBg : B ≤ gm) (hK : KeepM m) (hL : LenM m 100000) (hat : atI o.iter m.ite = none) (hk0 : o.kind = 6 ∨ o.kind = 7) :
    Calls Try.prog 36 #[.pointer (some ⟨gm, 0, none⟩), .agg #[.int .i64 o.kind, .int .i64 o.series, .int .i64 o.iter, .int .i64 o.t, .int .u64 (o.v : Int), .int .i64 o.from_, .int .i64 o.to_, .int .i64 o.n]] w fun e w' => ApEnd B w w' gm (doN m o).1 (doN m o).2 e := by
  obtain ⟨W, hW⟩ : ∃ W, W = (w.alloc (.cells #[.int .i64 o.kind, .int .i64 o.series, .int .i64 o.iter, .int .i64 o.t, .int .u64 (o.v : Int), .int .i64 o.from_, .int .i64 o.to_, .int .i64 o.n] 24)).alloc (.cells #[.int .i64 0, .int .i64 0, .slice none 0 0] 34) := ⟨_, rfl⟩
  obtain ⟨G0, hG0⟩ : ∃ g, g = w.heap.size := ⟨_, rfl⟩
  obtain ⟨G, hG⟩ : ∃ g, g = w.heap.size + 1 := ⟨_, rfl⟩
  have hmW : Mod (fun _ => False) w W := by rw [hW]; exact ((Mod.refl _ _).alloc _).alloc _
  have hb0 : Blk W G0 24 #[.int .i64 o.kind, .int .i64 o.series, .int .i64 o.iter, .int .i64 o.t, .int .u64 (o.v : Int), .int .i64 o.from_, .int .i64 o.to_, .int .i64 o.n] := by rw [hW, hG0]; exact (Blk.new _ _ _).alloc _
  have hbW : Blk W G 34 #[.int .i64 0, .int .i64 0, .slice none 0 0] := by
    rw [hW, hG]
    have h := Blk.new (w.alloc (.cells #[.int .i64 o.kind, .int .i64 o.series, .int .i64 o.iter, .int .i64 o.t, .int .u64 (o.v : Int), .int .i64 o.from_, .int .i64 o.to_, .int .i64 o.n] 24)) 34 #[.int .i64 0, .int .i64 0, .slice none 0 0]
    simpa using h
  have HBase : Hid (Base B w W gm G G0 v v2 m o) := Lib.hid ⟨hmW.mono (fun _ _ h => h.elim), hmW.blk hb (fun h => h), hM.new hmW, hb0, hbW, hB, hBg, by omega⟩
  obtain ⟨ps, hps, hS0, hput0⟩ := HBase.out.hav.ite
  obtain ⟨A, c, rfl, hnc, hcm, hR⟩ := hS0.form
  obtain ⟨n, hnn⟩ : ∃ n, n = ps.length := ⟨_, rfl⟩
  rw [← hnn] at hnc hR HBase hS0
  have hlen := hK.2.2.1
  have hln1 : n ≤ 1000000 := by rw [hnn, ← List.length_map (f := (·.1)), hps]; omega
  have z0 := HBase.out.blk.cell 1
  have y1 := HBase.out.op.cell 2
  simp at z0 y1
  have HW := Lib.hid hW; have HG0 := Lib.hid hG0; have HG := Lib.hid hG; have HR := Lib.hid hR; have Hps := Lib.hid hps; have HK := Lib.hid hK; have HL := Lib.hid hL; have HS0 := Lib.hid hS0
  clear hW hG0 hG hmW hb0 hbW hb hM hB hBg hK hL hps hS0 hput0 hR hnn hlen
  go_enter Try.func36, Try.ntmps36
  go_upto_region 1 with fail
  rw [← HW.out, ← HG.out, ← HG0.out]
  go_wp2_with fail
  refine (idxEqI (A) n c _ ps G0 o.iter W HR.out y1 hln1).mono ?_
  rintro e w1 ⟨k, rfl, hk, hm1⟩
  have hk1 := fstI_none (by rw [← Hps.out]; exact hk) hat
  subst hk1
  have hk5 := Lib.hid hk0
  have HB1 := Lib.hid (HBase.out.new hm1)
  clear hk hm1 z0 y1 hk0
  go_wp2_with fail
  refine (failed_any 3 w1).mono ?_
  rintro e w2 ⟨rfl, hm2⟩
  have Ht := Lib.hid (HB1.out.same hm2 3 (doN_iterless hk5.out hat))
  clear hm2
  have hrb := Ht.out.1; have r0 := hrb.cell 0; have r1 := hrb.cell 1; have r2 := hrb.cell 2; have f0 := hrb.frozen 0; have f1 := hrb.frozen 1; have f2 := hrb.frozen 2; simp at r0 r1 r2; clear hrb
  go_wp2_with fail
  refine bodyPost_ret (v := .agg #[.int .i64 3, .int .i64 0, .slice none 0 0]) (by have h := Ht.out.1.three (.int .i64 3) (.int .i64 0) (.slice none 0 0); simp [results, Try.results36, go_sem, h.1, h.2.1, h.2.2.1]) rfl (Ht.out.2 _ (Mod.three_one _ _ _ _ _))
set_option maxHeartbeats 400000 in
set_option maxRecDepth 100000 in
theorem iteNext (B gm : Nat) (v v2 : Value) (m : ModN) (o : OpN) (w : World) (hb : Blk w gm 31 #[v, v2, .int .i64 m.next]) (hM : HavM B w v v2 m) (hB : B ≤ w.heap.size) (hBg : B ≤ gm) (hK : KeepM m) (hL : LenM m 100000) (i : Nat) (hat : atI o.iter m.ite = some i) (hkd : o.kind = 6) :
    Calls Try.prog 36 #[.pointer (some ⟨gm, 0, none⟩), .agg #[.int .i64 o.kind, .int .i64 o.series, .int .i64 o.iter, .int .i64 o.t, .int .u64 (o.v : Int), .int .i64 o.from_, .int .i64 o.to_, .int .i64 o.n]] w fun e w' => ApEnd B w w' gm (doN m o).1 (doN m o).2 e := by
  obtain ⟨W, hW⟩ : ∃ W, W = (w.alloc (.cells #[.int .i64 o.kind, .int .i64 o.series, .int .i64 o.iter, .int .i64 o.t, .int .u64 (o.v : Int), .int .i64 o.from_, .int .i64 o.to_, .int .i64 o.n] 24)).alloc (.cells #[.int .i64 0, .int .i64 0, .slice none 0 0] 34) := ⟨_, rfl⟩
  obtain ⟨G0, hG0⟩ : ∃ g, g = w.heap.size := ⟨_, rfl⟩
  obtain ⟨G, hG⟩ : ∃ g, g = w.heap.size + 1 := ⟨_, rfl⟩
  have hmW : Mod (fun _ => False) w W := by rw [hW]; exact ((Mod.refl _ _).alloc _).alloc _
  have hb0 : Blk W G0 24 #[.int .i64 o.kind, .int .i64 o.series, .int .i64 o.iter, .int .i64 o.t, .int .u64 (o.v : Int), .int .i64 o.from_, .int .i64 o.to_, .int .i64 o.n] := by rw [hW, hG0]; exact (Blk.new _ _ _).alloc _
  have hbW : Blk W G 34 #[.int .i64 0, .int .i64 0, .slice none 0 0] := by
    rw [hW, hG]
    have h := Blk.new (w.alloc (.cells #[.int .i64 o.kind, .int .i64 o.series, .int .i64 o.iter, .int .i64 o.t, .int .u64 (o.v : Int), .int .i64 o.from_, .int .i64 o.to_, .int .i64 o.n] 24)) 34 #[.int .i64 0, .int .i64 0, .slice none 0 0]
    simpa using h
  have HBase : Hid (Base B w W gm G G0 v v2 m o) := Lib.hid ⟨hmW.mono (fun _ _ h => h.elim), hmW.blk hb (fun h => h), hM.new hmW, hb0, hbW, hB, hBg, by omega⟩
  obtain ⟨ps, hps, hS0, hput0⟩ := HBase.out.hav.ite
  obtain ⟨A, c, rfl, hnc, hcm, hR⟩ := hS0.form
  obtain ⟨n, hnn⟩ : ∃ n, n = ps.length := ⟨_, rfl⟩
  rw [← hnn] at hnc hR HBase hS0
  have hlen := hK.2.2.1
  have hln1 : n ≤ 1000000 := by rw [hnn, ← List.length_map (f := (·.1)), hps]; omega
  have z0 := HBase.out.blk.cell 1
  have y1 := HBase.out.op.cell 2
  simp at z0 y1
  have HW := Lib.hid hW; have HG0 := Lib.hid hG0; have HG := Lib.hid hG; have HR := Lib.hid hR; have Hps := Lib.hid hps; have HK := Lib.hid hK; have HL := Lib.hid hL; have HS0 := Lib.hid hS0
  obtain ⟨s, hms, hjunk⟩ := atI_some hat
  clear hjunk
  obtain ⟨g, n', c', u4, e0, hp, hin, hnc', hpn⟩ := HS0.out.some_ Hps.out hms
  injection e0 with e1 e2 e3
  subst e1 e2 e3
  obtain ⟨A4, n4, c4, rfl, hjunk⟩ := HS0.out.2 _ (List.mem_of_getElem? hp)
  clear hjunk
  have hat5 : (⟨g, 0, none⟩ : Addr).add (i * 2) = ⟨g, i * 2, none⟩ := by rw [add_addr, Nat.zero_add]
  have hn4 : n4 ≤ 100000 := by
    have h1 := (HL.out.2 s (List.mem_of_getElem? hms)).1
    have h2 := (HS0.out.2 _ (List.mem_of_getElem? hp)).rds.1
    simp only at h2
    omega
  have Hat := Lib.hid hat; have Hms := Lib.hid hms; have Hp := Lib.hid hp
  have hin0 : (0 : Int) ≤ (i : Int) := by omega
  have hin1 : (i : Int) < (n : Int) := by omega
  clear hat hms hp hnc' hpn
  have hk6 : ((o.kind : Int) == 6) = true := by rw [hkd]; rfl
  have Hkd := Lib.hid hkd
  clear hkd
  clear hW hG0 hG hmW hb0 hbW hb hM hB hBg hK hL hps hS0 hput0 hR hnn hlen
  go_enter Try.func36, Try.ntmps36
  go_upto_region 1 with fail
  rw [← HW.out, ← HG.out, ← HG0.out]
  go_wp2_with fail
  refine (idxEqI (some ⟨g, 0, none⟩) n c _ ps G0 o.iter W HR.out y1 hln1).mono ?_
  rintro e w1 ⟨k, rfl, hk, hm1⟩
  have hk1 := fstI_some (by rw [← Hps.out]; exact hk) Hat.out
  subst hk1
  have hB1 := HBase.out.new hm1
  have hS1 : HavIte B w1 (.slice (some ⟨g, 0, none⟩) n c) ps := HS0.out.far hm1 (Far.none_ _)
  have HB1 := Lib.hid hB1; have HS1 := Lib.hid hS1
  have z0 := hB1.blk.cell 1
  have z1 := hB1.op.cell 0
  simp at z0 z1
  obtain ⟨x4, x5⟩ := hS1.cells Hp.out
  have Hrd := Lib.hid (hS1.2 _ (List.mem_of_getElem? Hp.out)).rds
  clear hk hm1 hB1 hS1 y1
  have y7 := HB1.out.op.cell 7
  simp at y7
  have Htl : Hid (Calls Try.prog 47 #[.pointer (some ⟨g, i * 2, none⟩), .int .i64 o.n] w1.drew fun e w2 => ∃ A5 n5 c5, e = .returned (.agg #[.int .i64 0, .int .i64 0, .slice A5 n5 c5]) ∧ Tail B w w2 gm G (doN m o).1 (doN m o).2 0 0 (.slice A5 n5 c5)) := Lib.hid (by
    refine (tell_any g (i * 2) A4 n4 c4 s.rest o.n w1.drew x4 (x5 1) Hrd.out.2.2.2 Hrd.out.2.1 (by omega)).mono ?_
    intro e w2 he
    exact (HB1.out.new (Mod.refl _ w1).drew).tellR Hkd.out Hat.out Hps.out (HS1.out.far (Mod.refl (fun _ => False) w1).drew (Far.none_ _)) Hp.out Hrd.out.1 he)
  clear x4 x5
  go_upto_region 5 with fail
  go_region_with (first
    | (go_at_call 47; refine Htl.out.mono ?_; rintro e w2 ⟨A5, n5, c5, rfl, ht⟩; have Ht := Lib.hid ht; have hrb := Ht.out.1; have r0 := hrb.cell 0; have r1 := hrb.cell 1; have r2 := hrb.cell 2; have f0 := hrb.frozen 0; have f1 := hrb.frozen 1; have f2 := hrb.frozen 2; simp at r0 r1 r2; clear hrb; clear ht))
  all_goals (
    go_wp2_with fail
    refine bodyPost_ret (v := .agg #[.int .i64 0, .int .i64 0, .slice A5 n5 c5]) (by have h := Ht.out.1.three (.int .i64 0) (.int .i64 0) (.slice A5 n5 c5); simp [results, Try.results36, go_sem, h.1, h.2.1, h.2.2.1]) rfl (Ht.out.2 _ (Mod.three_one _ _ _ _ _)))
set_option maxHeartbeats 400000 in
set_option maxRecDepth 100000 in
theorem iteClose (B gm : Nat) (v v2 : Value) (m : ModN) (o : OpN) (w : World) (hb : Blk w gm 31 #[v, v2, .int .i64 m.next]) (hM : HavM B w v v2 m) (hB : B ≤ w.heap.size) (hBg : B ≤ gm) (hK : KeepM m) (hL : LenM m 100000) (i : Nat) (hat : atI o.iter m.ite = some i) (hkd : o.kind = 7) :
    Calls Try.prog 36 #[.pointer (some ⟨gm, 0, none⟩), .agg #[.int .i64 o.kind, .int .i64 o.series, .int .i64 o.iter, .int .i64 o.t, .int .u64 (o.v : Int), .int .i64 o.from_, .int .i64 o.to_, .int .i64 o.n]] w fun e w' => ApEnd B w w' gm (doN m o).1 (doN m o).2 e := by
  obtain ⟨W, hW⟩ : ∃ W, W = (w.alloc (.cells #[.int .i64 o.kind, .int .i64 o.series, .int .i64 o.iter, .int .i64 o.t, .int .u64 (o.v : Int), .int .i64 o.from_, .int .i64 o.to_, .int .i64 o.n] 24)).alloc (.cells #[.int .i64 0, .int .i64 0, .slice none 0 0] 34) := ⟨_, rfl⟩
  obtain ⟨G0, hG0⟩ : ∃ g, g = w.heap.size := ⟨_, rfl⟩
  obtain ⟨G, hG⟩ : ∃ g, g = w.heap.size + 1 := ⟨_, rfl⟩
  have hmW : Mod (fun _ => False) w W := by rw [hW]; exact ((Mod.refl _ _).alloc _).alloc _
  have hb0 : Blk W G0 24 #[.int .i64 o.kind, .int .i64 o.series, .int .i64 o.iter, .int .i64 o.t, .int .u64 (o.v : Int), .int .i64 o.from_, .int .i64 o.to_, .int .i64 o.n] := by rw [hW, hG0]; exact (Blk.new _ _ _).alloc _
  have hbW : Blk W G 34 #[.int .i64 0, .int .i64 0, .slice none 0 0] := by
    rw [hW, hG]
    have h := Blk.new (w.alloc (.cells #[.int .i64 o.kind, .int .i64 o.series, .int .i64 o.iter, .int .i64 o.t, .int .u64 (o.v : Int), .int .i64 o.from_, .int .i64 o.to_, .int .i64 o.n] 24)) 34 #[.int .i64 0, .int .i64 0, .slice none 0 0]
    simpa using h
  have HBase : Hid (Base B w W gm G G0 v v2 m o) := Lib.hid ⟨hmW.mono (fun _ _ h => h.elim), hmW.blk hb (fun h => h), hM.new hmW, hb0, hbW, hB, hBg, by omega⟩
  obtain ⟨ps, hps, hS0, hput0⟩ := HBase.out.hav.ite
  obtain ⟨A, c, rfl, hnc, hcm, hR⟩ := hS0.form
  obtain ⟨n, hnn⟩ : ∃ n, n = ps.length := ⟨_, rfl⟩
  rw [← hnn] at hnc hR HBase hS0
  have hlen := hK.2.2.1
  have hln1 : n ≤ 1000000 := by rw [hnn, ← List.length_map (f := (·.1)), hps]; omega
  have z0 := HBase.out.blk.cell 1
  have y1 := HBase.out.op.cell 2
  simp at z0 y1
  have HW := Lib.hid hW; have HG0 := Lib.hid hG0; have HG := Lib.hid hG; have HR := Lib.hid hR; have Hps := Lib.hid hps; have HK := Lib.hid hK; have HL := Lib.hid hL; have HS0 := Lib.hid hS0
  obtain ⟨s, hms, hjunk⟩ := atI_some hat
  clear hjunk
  obtain ⟨g, n', c', u4, e0, hp, hin, hnc', hpn⟩ := HS0.out.some_ Hps.out hms
  injection e0 with e1 e2 e3
  subst e1 e2 e3
  obtain ⟨A4, n4, c4, rfl, hjunk⟩ := HS0.out.2 _ (List.mem_of_getElem? hp)
  clear hjunk
  have hat5 : (⟨g, 0, none⟩ : Addr).add (i * 2) = ⟨g, i * 2, none⟩ := by rw [add_addr, Nat.zero_add]
  have hn4 : n4 ≤ 100000 := by
    have h1 := (HL.out.2 s (List.mem_of_getElem? hms)).1
    have h2 := (HS0.out.2 _ (List.mem_of_getElem? hp)).rds.1
    simp only at h2
    omega
  have Hat := Lib.hid hat; have Hms := Lib.hid hms; have Hp := Lib.hid hp
  have hin0 : (0 : Int) ≤ (i : Int) := by omega
  have hin1 : (i : Int) < (n : Int) := by omega
  clear hat hms hp hnc' hpn
  have hk6 : ((o.kind : Int) == 6) = false := by rw [hkd]; rfl
  have Hkd := Lib.hid hkd
  clear hkd
  clear hW hG0 hG hmW hb0 hbW hb hM hB hBg hK hL hps hS0 hput0 hR hnn hlen
  go_enter Try.func36, Try.ntmps36
  go_upto_region 1 with fail
  rw [← HW.out, ← HG.out, ← HG0.out]
  go_wp2_with fail
  refine (idxEqI (some ⟨g, 0, none⟩) n c _ ps G0 o.iter W HR.out y1 hln1).mono ?_
  rintro e w1 ⟨k, rfl, hk, hm1⟩
  have hk1 := fstI_some (by rw [← Hps.out]; exact hk) Hat.out
  subst hk1
  have hB1 := HBase.out.new hm1
  have hS1 : HavIte B w1 (.slice (some ⟨g, 0, none⟩) n c) ps := HS0.out.far hm1 (Far.none_ _)
  have HB1 := Lib.hid hB1; have HS1 := Lib.hid hS1
  have z0 := hB1.blk.cell 1
  have z1 := hB1.op.cell 0
  simp at z0 z1
  obtain ⟨x4, x5⟩ := hS1.cells Hp.out
  have Hrd := Lib.hid (hS1.2 _ (List.mem_of_getElem? Hp.out)).rds
  clear hk hm1 hB1 hS1 y1
  obtain ⟨j, hj⟩ : ∃ j, i + 1 = j := ⟨_, rfl⟩
  obtain ⟨q, hq⟩ : ∃ q, q + 1 = n := ⟨n - 1, by omega⟩
  have hji : (i : Int) + 1 = (j : Int) := by omega
  have Hj := Lib.hid hj
  have Hdel := Lib.hid (delI_any B g n c i j q (ps.map iteC) w1 HS1.out.1 (iteC_one HS1.out.2) hj (by omega) hq hln1)
  clear hj hq x4 x5
  go_wp2_with fail
  refine Hdel.out.mono ?_
  rintro e w2 ⟨rfl, ho2, hm2⟩
  rw [← Hj.out] at ho2
  obtain ⟨ht, hb2⟩ := HB1.out.delI Hkd.out Hat.out Hms.out Hps.out HS1.out ho2 hm2
  have q0 := hb2.cell 1
  have p0 := hb2.frozen 1
  simp at q0
  obtain ⟨W4, hW4⟩ : ∃ W4, W4 = w2.setCell ⟨gm, 1, none⟩ (.slice (some ⟨g, 0, none⟩) q c) := ⟨_, rfl⟩
  rw [← hW4] at ht
  have Ht := Lib.hid ht; have HW4 := Lib.hid hW4
  clear ht ho2 hm2 hb2 hW4
  go_upto_region 7 with fail
  rw [← HW4.out]
  have hrb := Ht.out.1; have r0 := hrb.cell 0; have r1 := hrb.cell 1; have r2 := hrb.cell 2; have f0 := hrb.frozen 0; have f1 := hrb.frozen 1; have f2 := hrb.frozen 2; simp at r0 r1 r2; clear hrb
  go_wp2_with fail
  refine bodyPost_ret (v := .agg #[.int .i64 0, .int .i64 0, .slice none 0 0]) (by have h := Ht.out.1.three (.int .i64 0) (.int .i64 0) (.slice none 0 0); simp [results, Try.results36, go_sem, h.1, h.2.1, h.2.2.1]) rfl (Ht.out.2 _ (Mod.three_one _ _ _ _ _))
end Go.Proofs.Ytejnhdenehkpmaa

/- apply: any op, done to a model of the call's own. -/
namespace Go.Proofs.Ytejnhdenehkpmaa
open Go.RowKit

theorem serAll (B gm : Nat) (v v2 : Value) (m : ModN) (o : OpN) (w : World) (hb : Blk w gm 31 #[v, v2, .int .i64 m.next]) (hM : HavM B w v v2 m) (hB : B ≤ w.heap.size) (hBg : B ≤ gm) (hK : KeepM m) (hL : LenM m 100000) (hx : m.next ≤ 1000000) (hs0 : ¬ (o.series < 0 ∨ 15 < o.series)) (hk : 1 ≤ o.kind ∧ o.kind ≤ 5) :
    Calls Try.prog 35 #[.pointer (some ⟨gm, 0, none⟩), .agg #[.int .i64 o.kind, .int .i64 o.series, .int .i64 o.iter, .int .i64 o.t, .int .u64 (o.v : Int), .int .i64 o.from_, .int .i64 o.to_, .int .i64 o.n]] w fun e w' => ApEnd B w w' gm (doN m o).1 (doN m o).2 e := by
  cases hat : atS o.series m.ser with
  | none =>
    by_cases h1 : o.kind = 1
    · exact serBegin B gm v v2 m o w hb hM hB hBg hK hL hx hs0 hat h1
    · exact serNone B gm v v2 m o w hb hM hB hBg hK hL hx hs0 hat ⟨by omega, hk.2⟩
  | some i =>
    have h : o.kind = 1 ∨ o.kind = 2 ∨ o.kind = 3 ∨ o.kind = 4 ∨ o.kind = 5 := by omega
    rcases h with h | h | h | h | h
    · exact serAdd B gm v v2 m o w hb hM hB hBg hK hL hx hs0 i hat h
    · exact serRead B gm v v2 m o w hb hM hB hBg hK hL hx hs0 i hat h
    · exact serSeal B gm v v2 m o w hb hM hB hBg hK hL hx hs0 i hat h
    · exact serDelete B gm v v2 m o w hb hM hB hBg hK hL hx hs0 i hat h
    · exact serOpen B gm v v2 m o w hb hM hB hBg hK hL hx hs0 i hat h
theorem iteAll (B gm : Nat) (v v2 : Value) (m : ModN) (o : OpN) (w : World) (hb : Blk w gm 31 #[v, v2, .int .i64 m.next]) (hM : HavM B w v v2 m) (hB : B ≤ w.heap.size) (hBg : B ≤ gm) (hK : KeepM m) (hL : LenM m 100000) (hk : o.kind = 6 ∨ o.kind = 7) :
    Calls Try.prog 36 #[.pointer (some ⟨gm, 0, none⟩), .agg #[.int .i64 o.kind, .int .i64 o.series, .int .i64 o.iter, .int .i64 o.t, .int .u64 (o.v : Int), .int .i64 o.from_, .int .i64 o.to_, .int .i64 o.n]] w fun e w' => ApEnd B w w' gm (doN m o).1 (doN m o).2 e := by
  cases hat : atI o.iter m.ite with
  | none => exact iteNone B gm v v2 m o w hb hM hB hBg hK hL hat hk
  | some i =>
    rcases hk with h | h
    · exact iteNext B gm v v2 m o w hb hM hB hBg hK hL i hat h
    · exact iteClose B gm v v2 m o w hb hM hB hBg hK hL i hat h
/-- What a call within has come to, but for the store into what is answered. -/
theorem ApEnd.tail {B gm G : Nat} {w W w1 : World} {m' : ModN} {r : ResN} {e : Ending} (h : ApEnd B W w1 gm m' r e) (hW : Mod (fun _ => False) w W) (hG : Blk W G 34 #[.int .i64 0, .int .i64 0, .slice none 0 0]) (hGw : w.heap.size ≤ G) :
    ∃ (x y : Int) (A3 : Option Addr) (n3 c3 : Nat), e = .returned (.agg #[.int .i64 x, .int .i64 y, .slice A3 n3 c3]) ∧ Tail B w w1 gm G m' r x y (.slice A3 n3 c3) := by
  obtain ⟨v, v2, A3, n3, c3, rfl, h1, h2, h3, h4⟩ := h
  refine ⟨_, _, A3, n3, c3, rfl, Tail.mk h1 h2 h3 (h4.blk hG (fun hl => (hl.2 _ _ hG).1 rfl)) (hW.mono (fun _ _ h => h.elim) |>.trans h4 (fun i hi hl => ⟨hl.1, fun t cs hb => hl.2 t cs (hW.blk hb (fun h => h))⟩)) hGw rfl rfl⟩
set_option maxHeartbeats 1000000 in
set_option maxRecDepth 100000 in
theorem apply1 (B gm : Nat) (v v2 : Value) (m : ModN) (o : OpN) (w : World) (hb : Blk w gm 31 #[v, v2, .int .i64 m.next]) (hM : HavM B w v v2 m) (hB : B ≤ w.heap.size) (hBg : B ≤ gm) (hK : KeepM m) (hL : LenM m 100000) (hx : m.next ≤ 1000000) (hkd : 1 ≤ o.kind ∧ o.kind ≤ 5) (hk1 : ((o.kind : Int) == 1) = true) :
    Calls Try.prog 19 #[.pointer (some ⟨gm, 0, none⟩), .agg #[.int .i64 o.kind, .int .i64 o.series, .int .i64 o.iter, .int .i64 o.t, .int .u64 (o.v : Int), .int .i64 o.from_, .int .i64 o.to_, .int .i64 o.n]] w fun e w' => ApEnd B w w' gm (doN m o).1 (doN m o).2 e := by
  obtain ⟨W, hW⟩ : ∃ W, W = (w.alloc (.cells #[.int .i64 o.kind, .int .i64 o.series, .int .i64 o.iter, .int .i64 o.t, .int .u64 (o.v : Int), .int .i64 o.from_, .int .i64 o.to_, .int .i64 o.n] 24)).alloc (.cells #[.int .i64 0, .int .i64 0, .slice none 0 0] 34) := ⟨_, rfl⟩
  obtain ⟨G0, hG0⟩ : ∃ g, g = w.heap.size := ⟨_, rfl⟩
  obtain ⟨G, hG⟩ : ∃ g, g = w.heap.size + 1 := ⟨_, rfl⟩
  have hmW : Mod (fun _ => False) w W := by rw [hW]; exact ((Mod.refl _ _).alloc _).alloc _
  have hb0 : Blk W G0 24 #[.int .i64 o.kind, .int .i64 o.series, .int .i64 o.iter, .int .i64 o.t, .int .u64 (o.v : Int), .int .i64 o.from_, .int .i64 o.to_, .int .i64 o.n] := by rw [hW, hG0]; exact (Blk.new _ _ _).alloc _
  have hbW : Blk W G 34 #[.int .i64 0, .int .i64 0, .slice none 0 0] := by
    rw [hW, hG]
    have h := Blk.new (w.alloc (.cells #[.int .i64 o.kind, .int .i64 o.series, .int .i64 o.iter, .int .i64 o.t, .int .u64 (o.v : Int), .int .i64 o.from_, .int .i64 o.to_, .int .i64 o.n] 24)) 34 #[.int .i64 0, .int .i64 0, .slice none 0 0]
    simpa using h
  have HBase : Hid (Base B w W gm G G0 v v2 m o) := Lib.hid ⟨hmW.mono (fun _ _ h => h.elim), hmW.blk hb (fun h => h), hM.new hmW, hb0, hbW, hB, hBg, by omega⟩
  have y0 := HBase.out.op.cell 0
  have y1 := HBase.out.op.cell 1
  have y2 := HBase.out.op.cell 2
  have y3 := HBase.out.op.cell 3
  have y4 := HBase.out.op.cell 4
  have y5 := HBase.out.op.cell 5
  have y6 := HBase.out.op.cell 6
  have y7 := HBase.out.op.cell 7
  simp at y0 y1 y2 y3 y4 y5 y6 y7
  have HW := Lib.hid hW; have HG0 := Lib.hid hG0; have HG := Lib.hid hG; have HmW := Lib.hid hmW
  have HK := Lib.hid hK; have HL := Lib.hid hL; have Hx := Lib.hid hx; have Hkd := Lib.hid hkd
  clear hK hL hx hkd
  clear hW hG0 hG hmW hb0 hbW hb hM hB hBg
  go_enter Try.func19, Try.ntmps19
  go_upto_region 1 with fail
  rw [← HW.out, ← HG.out, ← HG0.out]
  by_cases hs : o.series < 0 ∨ 15 < o.series
  · have Hs := Lib.hid hs
    rcases hs with hs | hs
    all_goals (
      go_wp2_with fail
      refine (failed_any 4 W).mono ?_
      rintro e w2 ⟨rfl, hm2⟩
      have Ht := Lib.hid (HBase.out.same hm2 4 (doN_unnamed Hkd.out Hs.out))
      clear hm2
      have hrb := Ht.out.1; have r0 := hrb.cell 0; have r1 := hrb.cell 1; have r2 := hrb.cell 2; have f0 := hrb.frozen 0; have f1 := hrb.frozen 1; have f2 := hrb.frozen 2; simp at r0 r1 r2; clear hrb
      go_wp2_with fail
      refine bodyPost_ret (v := .agg #[.int .i64 4, .int .i64 0, .slice none 0 0]) (by have h := Ht.out.1.three (.int .i64 4) (.int .i64 0) (.slice none 0 0); simp [results, Try.results19, go_sem, h.1, h.2.1, h.2.2.1]) rfl (Ht.out.2 _ (Mod.three_one _ _ _ _ _)))
  · have Hs := Lib.hid hs
    have hs1 : ¬ o.series < 0 := fun h => hs (.inl h)
    have hs2 : ¬ 15 < o.series := fun h => hs (.inr h)
    clear hs
    go_wp2_with fail
    refine (serAll B gm v v2 m o W HBase.out.blk HBase.out.hav (by have := HBase.out.low; have := HmW.out.size; omega) HBase.out.lowg HK.out HL.out Hx.out Hs.out Hkd.out).mono ?_
    intro e w2 he
    obtain ⟨x, y, A3, n3, c3, rfl, ht⟩ := he.tail HmW.out HBase.out.res HBase.out.lowG
    have Ht := Lib.hid ht
    clear ht he
    have hrb := Ht.out.1; have r0 := hrb.cell 0; have r1 := hrb.cell 1; have r2 := hrb.cell 2; have f0 := hrb.frozen 0; have f1 := hrb.frozen 1; have f2 := hrb.frozen 2; simp at r0 r1 r2; clear hrb
    go_wp2_with fail
    refine bodyPost_ret (v := .agg #[.int .i64 x, .int .i64 y, .slice A3 n3 c3]) (by have h := Ht.out.1.three (.int .i64 x) (.int .i64 y) (.slice A3 n3 c3); simp [results, Try.results19, go_sem, h.1, h.2.1, h.2.2.1]) rfl (Ht.out.2 _ (Mod.three_one _ _ _ _ _))
set_option maxHeartbeats 1000000 in
set_option maxRecDepth 100000 in
theorem apply2 (B gm : Nat) (v v2 : Value) (m : ModN) (o : OpN) (w : World) (hb : Blk w gm 31 #[v, v2, .int .i64 m.next]) (hM : HavM B w v v2 m) (hB : B ≤ w.heap.size) (hBg : B ≤ gm) (hK : KeepM m) (hL : LenM m 100000) (hx : m.next ≤ 1000000) (hkd : 1 ≤ o.kind ∧ o.kind ≤ 5) (hk1 : ((o.kind : Int) == 1) = false) (hk2 : ((o.kind : Int) == 2) = true) :
    Calls Try.prog 19 #[.pointer (some ⟨gm, 0, none⟩), .agg #[.int .i64 o.kind, .int .i64 o.series, .int .i64 o.iter, .int .i64 o.t, .int .u64 (o.v : Int), .int .i64 o.from_, .int .i64 o.to_, .int .i64 o.n]] w fun e w' => ApEnd B w w' gm (doN m o).1 (doN m o).2 e := by
  obtain ⟨W, hW⟩ : ∃ W, W = (w.alloc (.cells #[.int .i64 o.kind, .int .i64 o.series, .int .i64 o.iter, .int .i64 o.t, .int .u64 (o.v : Int), .int .i64 o.from_, .int .i64 o.to_, .int .i64 o.n] 24)).alloc (.cells #[.int .i64 0, .int .i64 0, .slice none 0 0] 34) := ⟨_, rfl⟩
  obtain ⟨G0, hG0⟩ : ∃ g, g = w.heap.size := ⟨_, rfl⟩
  obtain ⟨G, hG⟩ : ∃ g, g = w.heap.size + 1 := ⟨_, rfl⟩
  have hmW : Mod (fun _ => False) w W := by rw [hW]; exact ((Mod.refl _ _).alloc _).alloc _
  have hb0 : Blk W G0 24 #[.int .i64 o.kind, .int .i64 o.series, .int .i64 o.iter, .int .i64 o.t, .int .u64 (o.v : Int), .int .i64 o.from_, .int .i64 o.to_, .int .i64 o.n] := by rw [hW, hG0]; exact (Blk.new _ _ _).alloc _
  have hbW : Blk W G 34 #[.int .i64 0, .int .i64 0, .slice none 0 0] := by
    rw [hW, hG]
    have h := Blk.new (w.alloc (.cells #[.int .i64 o.kind, .int .i64 o.series, .int .i64 o.iter, .int .i64 o.t, .int .u64 (o.v : Int), .int .i64 o.from_, .int .i64 o.to_, .int .i64 o.n] 24)) 34 #[.int .i64 0, .int .i64 0, .slice none 0 0]
    simpa using h
  have HBase : Hid (Base B w W gm G G0 v v2 m o) := Lib.hid ⟨hmW.mono (fun _ _ h => h.elim), hmW.blk hb (fun h => h), hM.new hmW, hb0, hbW, hB, hBg, by omega⟩
  have y0 := HBase.out.op.cell 0
  have y1 := HBase.out.op.cell 1
  have y2 := HBase.out.op.cell 2
  have y3 := HBase.out.op.cell 3
  have y4 := HBase.out.op.cell 4
  have y5 := HBase.out.op.cell 5
  have y6 := HBase.out.op.cell 6
  have y7 := HBase.out.op.cell 7
  simp at y0 y1 y2 y3 y4 y5 y6 y7
  have HW := Lib.hid hW; have HG0 := Lib.hid hG0; have HG := Lib.hid hG; have HmW := Lib.hid hmW
  have HK := Lib.hid hK; have HL := Lib.hid hL; have Hx := Lib.hid hx; have Hkd := Lib.hid hkd
  clear hK hL hx hkd
  clear hW hG0 hG hmW hb0 hbW hb hM hB hBg
  go_enter Try.func19, Try.ntmps19
  go_upto_region 1 with fail
  rw [← HW.out, ← HG.out, ← HG0.out]
  by_cases hs : o.series < 0 ∨ 15 < o.series
  · have Hs := Lib.hid hs
    rcases hs with hs | hs
    all_goals (
      go_wp2_with fail
      refine (failed_any 4 W).mono ?_
      rintro e w2 ⟨rfl, hm2⟩
      have Ht := Lib.hid (HBase.out.same hm2 4 (doN_unnamed Hkd.out Hs.out))
      clear hm2
      have hrb := Ht.out.1; have r0 := hrb.cell 0; have r1 := hrb.cell 1; have r2 := hrb.cell 2; have f0 := hrb.frozen 0; have f1 := hrb.frozen 1; have f2 := hrb.frozen 2; simp at r0 r1 r2; clear hrb
      go_wp2_with fail
      refine bodyPost_ret (v := .agg #[.int .i64 4, .int .i64 0, .slice none 0 0]) (by have h := Ht.out.1.three (.int .i64 4) (.int .i64 0) (.slice none 0 0); simp [results, Try.results19, go_sem, h.1, h.2.1, h.2.2.1]) rfl (Ht.out.2 _ (Mod.three_one _ _ _ _ _)))
  · have Hs := Lib.hid hs
    have hs1 : ¬ o.series < 0 := fun h => hs (.inl h)
    have hs2 : ¬ 15 < o.series := fun h => hs (.inr h)
    clear hs
    go_wp2_with fail
    refine (serAll B gm v v2 m o W HBase.out.blk HBase.out.hav (by have := HBase.out.low; have := HmW.out.size; omega) HBase.out.lowg HK.out HL.out Hx.out Hs.out Hkd.out).mono ?_
    intro e w2 he
    obtain ⟨x, y, A3, n3, c3, rfl, ht⟩ := he.tail HmW.out HBase.out.res HBase.out.lowG
    have Ht := Lib.hid ht
    clear ht he
    have hrb := Ht.out.1; have r0 := hrb.cell 0; have r1 := hrb.cell 1; have r2 := hrb.cell 2; have f0 := hrb.frozen 0; have f1 := hrb.frozen 1; have f2 := hrb.frozen 2; simp at r0 r1 r2; clear hrb
    go_wp2_with fail
    refine bodyPost_ret (v := .agg #[.int .i64 x, .int .i64 y, .slice A3 n3 c3]) (by have h := Ht.out.1.three (.int .i64 x) (.int .i64 y) (.slice A3 n3 c3); simp [results, Try.results19, go_sem, h.1, h.2.1, h.2.2.1]) rfl (Ht.out.2 _ (Mod.three_one _ _ _ _ _))
set_option maxHeartbeats 1000000 in
set_option maxRecDepth 100000 in
theorem apply3 (B gm : Nat) (v v2 : Value) (m : ModN) (o : OpN) (w : World) (hb : Blk w gm 31 #[v, v2, .int .i64 m.next]) (hM : HavM B w v v2 m) (hB : B ≤ w.heap.size) (hBg : B ≤ gm) (hK : KeepM m) (hL : LenM m 100000) (hx : m.next ≤ 1000000) (hkd : 1 ≤ o.kind ∧ o.kind ≤ 5) (hk1 : ((o.kind : Int) == 1) = false) (hk2 : ((o.kind : Int) == 2) = false) (hk3 : ((o.kind : Int) == 3) = true) :
    Calls Try.prog 19 #[.pointer (some ⟨gm, 0, none⟩), .agg #[.int .i64 o.kind, .int .i64 o.series, .int .i64 o.iter, .int .i64 o.t, .int .u64 (o.v : Int), .int .i64 o.from_, .int .i64 o.to_, .int .i64 o.n]] w fun e w' => ApEnd B w w' gm (doN m o).1 (doN m o).2 e := by
  obtain ⟨W, hW⟩ : ∃ W, W = (w.alloc (.cells #[.int .i64 o.kind, .int .i64 o.series, .int .i64 o.iter, .int .i64 o.t, .int .u64 (o.v : Int), .int .i64 o.from_, .int .i64 o.to_, .int .i64 o.n] 24)).alloc (.cells #[.int .i64 0, .int .i64 0, .slice none 0 0] 34) := ⟨_, rfl⟩
  obtain ⟨G0, hG0⟩ : ∃ g, g = w.heap.size := ⟨_, rfl⟩
  obtain ⟨G, hG⟩ : ∃ g, g = w.heap.size + 1 := ⟨_, rfl⟩
  have hmW : Mod (fun _ => False) w W := by rw [hW]; exact ((Mod.refl _ _).alloc _).alloc _
  have hb0 : Blk W G0 24 #[.int .i64 o.kind, .int .i64 o.series, .int .i64 o.iter, .int .i64 o.t, .int .u64 (o.v : Int), .int .i64 o.from_, .int .i64 o.to_, .int .i64 o.n] := by rw [hW, hG0]; exact (Blk.new _ _ _).alloc _
  have hbW : Blk W G 34 #[.int .i64 0, .int .i64 0, .slice none 0 0] := by
    rw [hW, hG]
    have h := Blk.new (w.alloc (.cells #[.int .i64 o.kind, .int .i64 o.series, .int .i64 o.iter, .int .i64 o.t, .int .u64 (o.v : Int), .int .i64 o.from_, .int .i64 o.to_, .int .i64 o.n] 24)) 34 #[.int .i64 0, .int .i64 0, .slice none 0 0]
    simpa using h
  have HBase : Hid (Base B w W gm G G0 v v2 m o) := Lib.hid ⟨hmW.mono (fun _ _ h => h.elim), hmW.blk hb (fun h => h), hM.new hmW, hb0, hbW, hB, hBg, by omega⟩
  have y0 := HBase.out.op.cell 0
  have y1 := HBase.out.op.cell 1
  have y2 := HBase.out.op.cell 2
  have y3 := HBase.out.op.cell 3
  have y4 := HBase.out.op.cell 4
  have y5 := HBase.out.op.cell 5
  have y6 := HBase.out.op.cell 6
  have y7 := HBase.out.op.cell 7
  simp at y0 y1 y2 y3 y4 y5 y6 y7
  have HW := Lib.hid hW; have HG0 := Lib.hid hG0; have HG := Lib.hid hG; have HmW := Lib.hid hmW
  have HK := Lib.hid hK; have HL := Lib.hid hL; have Hx := Lib.hid hx; have Hkd := Lib.hid hkd
  clear hK hL hx hkd
  clear hW hG0 hG hmW hb0 hbW hb hM hB hBg
  go_enter Try.func19, Try.ntmps19
  go_upto_region 1 with fail
  rw [← HW.out, ← HG.out, ← HG0.out]
  by_cases hs : o.series < 0 ∨ 15 < o.series
  · have Hs := Lib.hid hs
    rcases hs with hs | hs
    all_goals (
      go_wp2_with fail
      refine (failed_any 4 W).mono ?_
      rintro e w2 ⟨rfl, hm2⟩
      have Ht := Lib.hid (HBase.out.same hm2 4 (doN_unnamed Hkd.out Hs.out))
      clear hm2
      have hrb := Ht.out.1; have r0 := hrb.cell 0; have r1 := hrb.cell 1; have r2 := hrb.cell 2; have f0 := hrb.frozen 0; have f1 := hrb.frozen 1; have f2 := hrb.frozen 2; simp at r0 r1 r2; clear hrb
      go_wp2_with fail
      refine bodyPost_ret (v := .agg #[.int .i64 4, .int .i64 0, .slice none 0 0]) (by have h := Ht.out.1.three (.int .i64 4) (.int .i64 0) (.slice none 0 0); simp [results, Try.results19, go_sem, h.1, h.2.1, h.2.2.1]) rfl (Ht.out.2 _ (Mod.three_one _ _ _ _ _)))
  · have Hs := Lib.hid hs
    have hs1 : ¬ o.series < 0 := fun h => hs (.inl h)
    have hs2 : ¬ 15 < o.series := fun h => hs (.inr h)
    clear hs
    go_wp2_with fail
    refine (serAll B gm v v2 m o W HBase.out.blk HBase.out.hav (by have := HBase.out.low; have := HmW.out.size; omega) HBase.out.lowg HK.out HL.out Hx.out Hs.out Hkd.out).mono ?_
    intro e w2 he
    obtain ⟨x, y, A3, n3, c3, rfl, ht⟩ := he.tail HmW.out HBase.out.res HBase.out.lowG
    have Ht := Lib.hid ht
    clear ht he
    have hrb := Ht.out.1; have r0 := hrb.cell 0; have r1 := hrb.cell 1; have r2 := hrb.cell 2; have f0 := hrb.frozen 0; have f1 := hrb.frozen 1; have f2 := hrb.frozen 2; simp at r0 r1 r2; clear hrb
    go_wp2_with fail
    refine bodyPost_ret (v := .agg #[.int .i64 x, .int .i64 y, .slice A3 n3 c3]) (by have h := Ht.out.1.three (.int .i64 x) (.int .i64 y) (.slice A3 n3 c3); simp [results, Try.results19, go_sem, h.1, h.2.1, h.2.2.1]) rfl (Ht.out.2 _ (Mod.three_one _ _ _ _ _))
set_option maxHeartbeats 1000000 in
set_option maxRecDepth 100000 in
theorem apply4 (B gm : Nat) (v v2 : Value) (m : ModN) (o : OpN) (w : World) (hb : Blk w gm 31 #[v, v2, .int .i64 m.next]) (hM : HavM B w v v2 m) (hB : B ≤ w.heap.size) (hBg : B ≤ gm) (hK : KeepM m) (hL : LenM m 100000) (hx : m.next ≤ 1000000) (hkd : 1 ≤ o.kind ∧ o.kind ≤ 5) (hk1 : ((o.kind : Int) == 1) = false) (hk2 : ((o.kind : Int) == 2) = false) (hk3 : ((o.kind : Int) == 3) = false) (hk4 : ((o.kind : Int) == 4) = true) :
    Calls Try.prog 19 #[.pointer (some ⟨gm, 0, none⟩), .agg #[.int .i64 o.kind, .int .i64 o.series, .int .i64 o.iter, .int .i64 o.t, .int .u64 (o.v : Int), .int .i64 o.from_, .int .i64 o.to_, .int .i64 o.n]] w fun e w' => ApEnd B w w' gm (doN m o).1 (doN m o).2 e := by
  obtain ⟨W, hW⟩ : ∃ W, W = (w.alloc (.cells #[.int .i64 o.kind, .int .i64 o.series, .int .i64 o.iter, .int .i64 o.t, .int .u64 (o.v : Int), .int .i64 o.from_, .int .i64 o.to_, .int .i64 o.n] 24)).alloc (.cells #[.int .i64 0, .int .i64 0, .slice none 0 0] 34) := ⟨_, rfl⟩
  obtain ⟨G0, hG0⟩ : ∃ g, g = w.heap.size := ⟨_, rfl⟩
  obtain ⟨G, hG⟩ : ∃ g, g = w.heap.size + 1 := ⟨_, rfl⟩
  have hmW : Mod (fun _ => False) w W := by rw [hW]; exact ((Mod.refl _ _).alloc _).alloc _
  have hb0 : Blk W G0 24 #[.int .i64 o.kind, .int .i64 o.series, .int .i64 o.iter, .int .i64 o.t, .int .u64 (o.v : Int), .int .i64 o.from_, .int .i64 o.to_, .int .i64 o.n] := by rw [hW, hG0]; exact (Blk.new _ _ _).alloc _
  have hbW : Blk W G 34 #[.int .i64 0, .int .i64 0, .slice none 0 0] := by
    rw [hW, hG]
    have h := Blk.new (w.alloc (.cells #[.int .i64 o.kind, .int .i64 o.series, .int .i64 o.iter, .int .i64 o.t, .int .u64 (o.v : Int), .int .i64 o.from_, .int .i64 o.to_, .int .i64 o.n] 24)) 34 #[.int .i64 0, .int .i64 0, .slice none 0 0]
    simpa using h
  have HBase : Hid (Base B w W gm G G0 v v2 m o) := Lib.hid ⟨hmW.mono (fun _ _ h => h.elim), hmW.blk hb (fun h => h), hM.new hmW, hb0, hbW, hB, hBg, by omega⟩
  have y0 := HBase.out.op.cell 0
  have y1 := HBase.out.op.cell 1
  have y2 := HBase.out.op.cell 2
  have y3 := HBase.out.op.cell 3
  have y4 := HBase.out.op.cell 4
  have y5 := HBase.out.op.cell 5
  have y6 := HBase.out.op.cell 6
  have y7 := HBase.out.op.cell 7
  simp at y0 y1 y2 y3 y4 y5 y6 y7
  have HW := Lib.hid hW; have HG0 := Lib.hid hG0; have HG := Lib.hid hG; have HmW := Lib.hid hmW
  have HK := Lib.hid hK; have HL := Lib.hid hL; have Hx := Lib.hid hx; have Hkd := Lib.hid hkd
  clear hK hL hx hkd
  clear hW hG0 hG hmW hb0 hbW hb hM hB hBg
  go_enter Try.func19, Try.ntmps19
  go_upto_region 1 with fail
  rw [← HW.out, ← HG.out, ← HG0.out]
  by_cases hs : o.series < 0 ∨ 15 < o.series
  · have Hs := Lib.hid hs
    rcases hs with hs | hs
    all_goals (
      go_wp2_with fail
      refine (failed_any 4 W).mono ?_
      rintro e w2 ⟨rfl, hm2⟩
      have Ht := Lib.hid (HBase.out.same hm2 4 (doN_unnamed Hkd.out Hs.out))
      clear hm2
      have hrb := Ht.out.1; have r0 := hrb.cell 0; have r1 := hrb.cell 1; have r2 := hrb.cell 2; have f0 := hrb.frozen 0; have f1 := hrb.frozen 1; have f2 := hrb.frozen 2; simp at r0 r1 r2; clear hrb
      go_wp2_with fail
      refine bodyPost_ret (v := .agg #[.int .i64 4, .int .i64 0, .slice none 0 0]) (by have h := Ht.out.1.three (.int .i64 4) (.int .i64 0) (.slice none 0 0); simp [results, Try.results19, go_sem, h.1, h.2.1, h.2.2.1]) rfl (Ht.out.2 _ (Mod.three_one _ _ _ _ _)))
  · have Hs := Lib.hid hs
    have hs1 : ¬ o.series < 0 := fun h => hs (.inl h)
    have hs2 : ¬ 15 < o.series := fun h => hs (.inr h)
    clear hs
    go_wp2_with fail
    refine (serAll B gm v v2 m o W HBase.out.blk HBase.out.hav (by have := HBase.out.low; have := HmW.out.size; omega) HBase.out.lowg HK.out HL.out Hx.out Hs.out Hkd.out).mono ?_
    intro e w2 he
    obtain ⟨x, y, A3, n3, c3, rfl, ht⟩ := he.tail HmW.out HBase.out.res HBase.out.lowG
    have Ht := Lib.hid ht
    clear ht he
    have hrb := Ht.out.1; have r0 := hrb.cell 0; have r1 := hrb.cell 1; have r2 := hrb.cell 2; have f0 := hrb.frozen 0; have f1 := hrb.frozen 1; have f2 := hrb.frozen 2; simp at r0 r1 r2; clear hrb
    go_wp2_with fail
    refine bodyPost_ret (v := .agg #[.int .i64 x, .int .i64 y, .slice A3 n3 c3]) (by have h := Ht.out.1.three (.int .i64 x) (.int .i64 y) (.slice A3 n3 c3); simp [results, Try.results19, go_sem, h.1, h.2.1, h.2.2.1]) rfl (Ht.out.2 _ (Mod.three_one _ _ _ _ _))
set_option maxHeartbeats 1000000 in
set_option maxRecDepth 100000 in
theorem apply5 (B gm : Nat) (v v2 : Value) (m : ModN) (o : OpN) (w : World) (hb : Blk w gm 31 #[v, v2, .int .i64 m.next]) (hM : HavM B w v v2 m) (hB : B ≤ w.heap.size) (hBg : B ≤ gm) (hK : KeepM m) (hL : LenM m 100000) (hx : m.next ≤ 1000000) (hkd : 1 ≤ o.kind ∧ o.kind ≤ 5) (hk1 : ((o.kind : Int) == 1) = false) (hk2 : ((o.kind : Int) == 2) = false) (hk3 : ((o.kind : Int) == 3) = false) (hk4 : ((o.kind : Int) == 4) = false) (hk5 : ((o.kind : Int) == 5) = true) :
    Calls Try.prog 19 #[.pointer (some ⟨gm, 0, none⟩), .agg #[.int .i64 o.kind, .int .i64 o.series, .int .i64 o.iter, .int .i64 o.t, .int .u64 (o.v : Int), .int .i64 o.from_, .int .i64 o.to_, .int .i64 o.n]] w fun e w' => ApEnd B w w' gm (doN m o).1 (doN m o).2 e := by
  obtain ⟨W, hW⟩ : ∃ W, W = (w.alloc (.cells #[.int .i64 o.kind, .int .i64 o.series, .int .i64 o.iter, .int .i64 o.t, .int .u64 (o.v : Int), .int .i64 o.from_, .int .i64 o.to_, .int .i64 o.n] 24)).alloc (.cells #[.int .i64 0, .int .i64 0, .slice none 0 0] 34) := ⟨_, rfl⟩
  obtain ⟨G0, hG0⟩ : ∃ g, g = w.heap.size := ⟨_, rfl⟩
  obtain ⟨G, hG⟩ : ∃ g, g = w.heap.size + 1 := ⟨_, rfl⟩
  have hmW : Mod (fun _ => False) w W := by rw [hW]; exact ((Mod.refl _ _).alloc _).alloc _
  have hb0 : Blk W G0 24 #[.int .i64 o.kind, .int .i64 o.series, .int .i64 o.iter, .int .i64 o.t, .int .u64 (o.v : Int), .int .i64 o.from_, .int .i64 o.to_, .int .i64 o.n] := by rw [hW, hG0]; exact (Blk.new _ _ _).alloc _
  have hbW : Blk W G 34 #[.int .i64 0, .int .i64 0, .slice none 0 0] := by
    rw [hW, hG]
    have h := Blk.new (w.alloc (.cells #[.int .i64 o.kind, .int .i64 o.series, .int .i64 o.iter, .int .i64 o.t, .int .u64 (o.v : Int), .int .i64 o.from_, .int .i64 o.to_, .int .i64 o.n] 24)) 34 #[.int .i64 0, .int .i64 0, .slice none 0 0]
    simpa using h
  have HBase : Hid (Base B w W gm G G0 v v2 m o) := Lib.hid ⟨hmW.mono (fun _ _ h => h.elim), hmW.blk hb (fun h => h), hM.new hmW, hb0, hbW, hB, hBg, by omega⟩
  have y0 := HBase.out.op.cell 0
  have y1 := HBase.out.op.cell 1
  have y2 := HBase.out.op.cell 2
  have y3 := HBase.out.op.cell 3
  have y4 := HBase.out.op.cell 4
  have y5 := HBase.out.op.cell 5
  have y6 := HBase.out.op.cell 6
  have y7 := HBase.out.op.cell 7
  simp at y0 y1 y2 y3 y4 y5 y6 y7
  have HW := Lib.hid hW; have HG0 := Lib.hid hG0; have HG := Lib.hid hG; have HmW := Lib.hid hmW
  have HK := Lib.hid hK; have HL := Lib.hid hL; have Hx := Lib.hid hx; have Hkd := Lib.hid hkd
  clear hK hL hx hkd
  clear hW hG0 hG hmW hb0 hbW hb hM hB hBg
  go_enter Try.func19, Try.ntmps19
  go_upto_region 1 with fail
  rw [← HW.out, ← HG.out, ← HG0.out]
  by_cases hs : o.series < 0 ∨ 15 < o.series
  · have Hs := Lib.hid hs
    rcases hs with hs | hs
    all_goals (
      go_wp2_with fail
      refine (failed_any 4 W).mono ?_
      rintro e w2 ⟨rfl, hm2⟩
      have Ht := Lib.hid (HBase.out.same hm2 4 (doN_unnamed Hkd.out Hs.out))
      clear hm2
      have hrb := Ht.out.1; have r0 := hrb.cell 0; have r1 := hrb.cell 1; have r2 := hrb.cell 2; have f0 := hrb.frozen 0; have f1 := hrb.frozen 1; have f2 := hrb.frozen 2; simp at r0 r1 r2; clear hrb
      go_wp2_with fail
      refine bodyPost_ret (v := .agg #[.int .i64 4, .int .i64 0, .slice none 0 0]) (by have h := Ht.out.1.three (.int .i64 4) (.int .i64 0) (.slice none 0 0); simp [results, Try.results19, go_sem, h.1, h.2.1, h.2.2.1]) rfl (Ht.out.2 _ (Mod.three_one _ _ _ _ _)))
  · have Hs := Lib.hid hs
    have hs1 : ¬ o.series < 0 := fun h => hs (.inl h)
    have hs2 : ¬ 15 < o.series := fun h => hs (.inr h)
    clear hs
    go_wp2_with fail
    refine (serAll B gm v v2 m o W HBase.out.blk HBase.out.hav (by have := HBase.out.low; have := HmW.out.size; omega) HBase.out.lowg HK.out HL.out Hx.out Hs.out Hkd.out).mono ?_
    intro e w2 he
    obtain ⟨x, y, A3, n3, c3, rfl, ht⟩ := he.tail HmW.out HBase.out.res HBase.out.lowG
    have Ht := Lib.hid ht
    clear ht he
    have hrb := Ht.out.1; have r0 := hrb.cell 0; have r1 := hrb.cell 1; have r2 := hrb.cell 2; have f0 := hrb.frozen 0; have f1 := hrb.frozen 1; have f2 := hrb.frozen 2; simp at r0 r1 r2; clear hrb
    go_wp2_with fail
    refine bodyPost_ret (v := .agg #[.int .i64 x, .int .i64 y, .slice A3 n3 c3]) (by have h := Ht.out.1.three (.int .i64 x) (.int .i64 y) (.slice A3 n3 c3); simp [results, Try.results19, go_sem, h.1, h.2.1, h.2.2.1]) rfl (Ht.out.2 _ (Mod.three_one _ _ _ _ _))
set_option maxHeartbeats 1000000 in
set_option maxRecDepth 100000 in
theorem apply6 (B gm : Nat) (v v2 : Value) (m : ModN) (o : OpN) (w : World) (hb : Blk w gm 31 #[v, v2, .int .i64 m.next]) (hM : HavM B w v v2 m) (hB : B ≤ w.heap.size) (hBg : B ≤ gm) (hK : KeepM m) (hL : LenM m 100000) (hkd : o.kind = 6 ∨ o.kind = 7) (hk1 : ((o.kind : Int) == 1) = false) (hk2 : ((o.kind : Int) == 2) = false) (hk3 : ((o.kind : Int) == 3) = false) (hk4 : ((o.kind : Int) == 4) = false) (hk5 : ((o.kind : Int) == 5) = false) (hk6 : ((o.kind : Int) == 6) = true) :
    Calls Try.prog 19 #[.pointer (some ⟨gm, 0, none⟩), .agg #[.int .i64 o.kind, .int .i64 o.series, .int .i64 o.iter, .int .i64 o.t, .int .u64 (o.v : Int), .int .i64 o.from_, .int .i64 o.to_, .int .i64 o.n]] w fun e w' => ApEnd B w w' gm (doN m o).1 (doN m o).2 e := by
  obtain ⟨W, hW⟩ : ∃ W, W = (w.alloc (.cells #[.int .i64 o.kind, .int .i64 o.series, .int .i64 o.iter, .int .i64 o.t, .int .u64 (o.v : Int), .int .i64 o.from_, .int .i64 o.to_, .int .i64 o.n] 24)).alloc (.cells #[.int .i64 0, .int .i64 0, .slice none 0 0] 34) := ⟨_, rfl⟩
  obtain ⟨G0, hG0⟩ : ∃ g, g = w.heap.size := ⟨_, rfl⟩
  obtain ⟨G, hG⟩ : ∃ g, g = w.heap.size + 1 := ⟨_, rfl⟩
  have hmW : Mod (fun _ => False) w W := by rw [hW]; exact ((Mod.refl _ _).alloc _).alloc _
  have hb0 : Blk W G0 24 #[.int .i64 o.kind, .int .i64 o.series, .int .i64 o.iter, .int .i64 o.t, .int .u64 (o.v : Int), .int .i64 o.from_, .int .i64 o.to_, .int .i64 o.n] := by rw [hW, hG0]; exact (Blk.new _ _ _).alloc _
  have hbW : Blk W G 34 #[.int .i64 0, .int .i64 0, .slice none 0 0] := by
    rw [hW, hG]
    have h := Blk.new (w.alloc (.cells #[.int .i64 o.kind, .int .i64 o.series, .int .i64 o.iter, .int .i64 o.t, .int .u64 (o.v : Int), .int .i64 o.from_, .int .i64 o.to_, .int .i64 o.n] 24)) 34 #[.int .i64 0, .int .i64 0, .slice none 0 0]
    simpa using h
  have HBase : Hid (Base B w W gm G G0 v v2 m o) := Lib.hid ⟨hmW.mono (fun _ _ h => h.elim), hmW.blk hb (fun h => h), hM.new hmW, hb0, hbW, hB, hBg, by omega⟩
  have y0 := HBase.out.op.cell 0
  have y1 := HBase.out.op.cell 1
  have y2 := HBase.out.op.cell 2
  have y3 := HBase.out.op.cell 3
  have y4 := HBase.out.op.cell 4
  have y5 := HBase.out.op.cell 5
  have y6 := HBase.out.op.cell 6
  have y7 := HBase.out.op.cell 7
  simp at y0 y1 y2 y3 y4 y5 y6 y7
  have HW := Lib.hid hW; have HG0 := Lib.hid hG0; have HG := Lib.hid hG; have HmW := Lib.hid hmW
  have HK := Lib.hid hK; have HL := Lib.hid hL; have Hkd := Lib.hid hkd
  clear hK hL hkd
  clear hW hG0 hG hmW hb0 hbW hb hM hB hBg
  go_enter Try.func19, Try.ntmps19
  go_upto_region 1 with fail
  rw [← HW.out, ← HG.out, ← HG0.out]
  go_wp2_with fail
  refine (iteAll B gm v v2 m o W HBase.out.blk HBase.out.hav (by have := HBase.out.low; have := HmW.out.size; omega) HBase.out.lowg HK.out HL.out Hkd.out).mono ?_
  intro e w2 he
  obtain ⟨x, y, A3, n3, c3, rfl, ht⟩ := he.tail HmW.out HBase.out.res HBase.out.lowG
  have Ht := Lib.hid ht
  clear ht he
  have hrb := Ht.out.1; have r0 := hrb.cell 0; have r1 := hrb.cell 1; have r2 := hrb.cell 2; have f0 := hrb.frozen 0; have f1 := hrb.frozen 1; have f2 := hrb.frozen 2; simp at r0 r1 r2; clear hrb
  go_wp2_with fail
  refine bodyPost_ret (v := .agg #[.int .i64 x, .int .i64 y, .slice A3 n3 c3]) (by have h := Ht.out.1.three (.int .i64 x) (.int .i64 y) (.slice A3 n3 c3); simp [results, Try.results19, go_sem, h.1, h.2.1, h.2.2.1]) rfl (Ht.out.2 _ (Mod.three_one _ _ _ _ _))
set_option maxHeartbeats 1000000 in
set_option maxRecDepth 100000 in
theorem apply7 (B gm : Nat) (v v2 : Value) (m : ModN) (o : OpN) (w : World) (hb : Blk w gm 31 #[v, v2, .int .i64 m.next]) (hM : HavM B w v v2 m) (hB : B ≤ w.heap.size) (hBg : B ≤ gm) (hK : KeepM m) (hL : LenM m 100000) (hkd : o.kind = 6 ∨ o.kind = 7) (hk1 : ((o.kind : Int) == 1) = false) (hk2 : ((o.kind : Int) == 2) = false) (hk3 : ((o.kind : Int) == 3) = false) (hk4 : ((o.kind : Int) == 4) = false) (hk5 : ((o.kind : Int) == 5) = false) (hk6 : ((o.kind : Int) == 6) = false) (hk7 : ((o.kind : Int) == 7) = true) :
    Calls Try.prog 19 #[.pointer (some ⟨gm, 0, none⟩), .agg #[.int .i64 o.kind, .int .i64 o.series, .int .i64 o.iter, .int .i64 o.t, .int .u64 (o.v : Int), .int .i64 o.from_, .int .i64 o.to_, .int .i64 o.n]] w fun e w' => ApEnd B w w' gm (doN m o).1 (doN m o).2 e := by
  obtain ⟨W, hW⟩ : ∃ W, W = (w.alloc (.cells #[.int .i64 o.kind, .int .i64 o.series, .int .i64 o.iter, .int .i64 o.t, .int .u64 (o.v : Int), .int .i64 o.from_, .int .i64 o.to_, .int .i64 o.n] 24)).alloc (.cells #[.int .i64 0, .int .i64 0, .slice none 0 0] 34) := ⟨_, rfl⟩
  obtain ⟨G0, hG0⟩ : ∃ g, g = w.heap.size := ⟨_, rfl⟩
  obtain ⟨G, hG⟩ : ∃ g, g = w.heap.size + 1 := ⟨_, rfl⟩
  have hmW : Mod (fun _ => False) w W := by rw [hW]; exact ((Mod.refl _ _).alloc _).alloc _
  have hb0 : Blk W G0 24 #[.int .i64 o.kind, .int .i64 o.series, .int .i64 o.iter, .int .i64 o.t, .int .u64 (o.v : Int), .int .i64 o.from_, .int .i64 o.to_, .int .i64 o.n] := by rw [hW, hG0]; exact (Blk.new _ _ _).alloc _
  have hbW : Blk W G 34 #[.int .i64 0, .int .i64 0, .slice none 0 0] := by
    rw [hW, hG]
    have h := Blk.new (w.alloc (.cells #[.int .i64 o.kind, .int .i64 o.series, .int .i64 o.iter, .int .i64 o.t, .int .u64 (o.v : Int), .int .i64 o.from_, .int .i64 o.to_, .int .i64 o.n] 24)) 34 #[.int .i64 0, .int .i64 0, .slice none 0 0]
    simpa using h
  have HBase : Hid (Base B w W gm G G0 v v2 m o) := Lib.hid ⟨hmW.mono (fun _ _ h => h.elim), hmW.blk hb (fun h => h), hM.new hmW, hb0, hbW, hB, hBg, by omega⟩
  have y0 := HBase.out.op.cell 0
  have y1 := HBase.out.op.cell 1
  have y2 := HBase.out.op.cell 2
  have y3 := HBase.out.op.cell 3
  have y4 := HBase.out.op.cell 4
  have y5 := HBase.out.op.cell 5
  have y6 := HBase.out.op.cell 6
  have y7 := HBase.out.op.cell 7
  simp at y0 y1 y2 y3 y4 y5 y6 y7
  have HW := Lib.hid hW; have HG0 := Lib.hid hG0; have HG := Lib.hid hG; have HmW := Lib.hid hmW
  have HK := Lib.hid hK; have HL := Lib.hid hL; have Hkd := Lib.hid hkd
  clear hK hL hkd
  clear hW hG0 hG hmW hb0 hbW hb hM hB hBg
  go_enter Try.func19, Try.ntmps19
  go_upto_region 1 with fail
  rw [← HW.out, ← HG.out, ← HG0.out]
  go_wp2_with fail
  refine (iteAll B gm v v2 m o W HBase.out.blk HBase.out.hav (by have := HBase.out.low; have := HmW.out.size; omega) HBase.out.lowg HK.out HL.out Hkd.out).mono ?_
  intro e w2 he
  obtain ⟨x, y, A3, n3, c3, rfl, ht⟩ := he.tail HmW.out HBase.out.res HBase.out.lowG
  have Ht := Lib.hid ht
  clear ht he
  have hrb := Ht.out.1; have r0 := hrb.cell 0; have r1 := hrb.cell 1; have r2 := hrb.cell 2; have f0 := hrb.frozen 0; have f1 := hrb.frozen 1; have f2 := hrb.frozen 2; simp at r0 r1 r2; clear hrb
  go_wp2_with fail
  refine bodyPost_ret (v := .agg #[.int .i64 x, .int .i64 y, .slice A3 n3 c3]) (by have h := Ht.out.1.three (.int .i64 x) (.int .i64 y) (.slice A3 n3 c3); simp [results, Try.results19, go_sem, h.1, h.2.1, h.2.2.1]) rfl (Ht.out.2 _ (Mod.three_one _ _ _ _ _))
set_option maxHeartbeats 1000000 in
set_option maxRecDepth 100000 in
theorem apply0 (B gm : Nat) (v v2 : Value) (m : ModN) (o : OpN) (w : World) (hb : Blk w gm 31 #[v, v2, .int .i64 m.next]) (hM : HavM B w v v2 m) (hB : B ≤ w.heap.size) (hBg : B ≤ gm) (hkd : o.kind < 1 ∨ 7 < o.kind) (hk1 : ((o.kind : Int) == 1) = false) (hk2 : ((o.kind : Int) == 2) = false) (hk3 : ((o.kind : Int) == 3) = false) (hk4 : ((o.kind : Int) == 4) = false) (hk5 : ((o.kind : Int) == 5) = false) (hk6 : ((o.kind : Int) == 6) = false) (hk7 : ((o.kind : Int) == 7) = false) :
    Calls Try.prog 19 #[.pointer (some ⟨gm, 0, none⟩), .agg #[.int .i64 o.kind, .int .i64 o.series, .int .i64 o.iter, .int .i64 o.t, .int .u64 (o.v : Int), .int .i64 o.from_, .int .i64 o.to_, .int .i64 o.n]] w fun e w' => ApEnd B w w' gm (doN m o).1 (doN m o).2 e := by
  obtain ⟨W, hW⟩ : ∃ W, W = (w.alloc (.cells #[.int .i64 o.kind, .int .i64 o.series, .int .i64 o.iter, .int .i64 o.t, .int .u64 (o.v : Int), .int .i64 o.from_, .int .i64 o.to_, .int .i64 o.n] 24)).alloc (.cells #[.int .i64 0, .int .i64 0, .slice none 0 0] 34) := ⟨_, rfl⟩
  obtain ⟨G0, hG0⟩ : ∃ g, g = w.heap.size := ⟨_, rfl⟩
  obtain ⟨G, hG⟩ : ∃ g, g = w.heap.size + 1 := ⟨_, rfl⟩
  have hmW : Mod (fun _ => False) w W := by rw [hW]; exact ((Mod.refl _ _).alloc _).alloc _
  have hb0 : Blk W G0 24 #[.int .i64 o.kind, .int .i64 o.series, .int .i64 o.iter, .int .i64 o.t, .int .u64 (o.v : Int), .int .i64 o.from_, .int .i64 o.to_, .int .i64 o.n] := by rw [hW, hG0]; exact (Blk.new _ _ _).alloc _
  have hbW : Blk W G 34 #[.int .i64 0, .int .i64 0, .slice none 0 0] := by
    rw [hW, hG]
    have h := Blk.new (w.alloc (.cells #[.int .i64 o.kind, .int .i64 o.series, .int .i64 o.iter, .int .i64 o.t, .int .u64 (o.v : Int), .int .i64 o.from_, .int .i64 o.to_, .int .i64 o.n] 24)) 34 #[.int .i64 0, .int .i64 0, .slice none 0 0]
    simpa using h
  have HBase : Hid (Base B w W gm G G0 v v2 m o) := Lib.hid ⟨hmW.mono (fun _ _ h => h.elim), hmW.blk hb (fun h => h), hM.new hmW, hb0, hbW, hB, hBg, by omega⟩
  have y0 := HBase.out.op.cell 0
  have y1 := HBase.out.op.cell 1
  have y2 := HBase.out.op.cell 2
  have y3 := HBase.out.op.cell 3
  have y4 := HBase.out.op.cell 4
  have y5 := HBase.out.op.cell 5
  have y6 := HBase.out.op.cell 6
  have y7 := HBase.out.op.cell 7
  simp at y0 y1 y2 y3 y4 y5 y6 y7
  have HW := Lib.hid hW; have HG0 := Lib.hid hG0; have HG := Lib.hid hG; have HmW := Lib.hid hmW
  have Hkd := Lib.hid hkd
  clear hkd
  clear hW hG0 hG hmW hb0 hbW hb hM hB hBg
  go_enter Try.func19, Try.ntmps19
  go_upto_region 1 with fail
  rw [← HW.out, ← HG.out, ← HG0.out]
  go_wp2_with fail
  refine (failed_any 4 W).mono ?_
  rintro e w2 ⟨rfl, hm2⟩
  have Ht := Lib.hid (HBase.out.same hm2 4 (doN_kindless Hkd.out))
  clear hm2
  have hrb := Ht.out.1; have r0 := hrb.cell 0; have r1 := hrb.cell 1; have r2 := hrb.cell 2; have f0 := hrb.frozen 0; have f1 := hrb.frozen 1; have f2 := hrb.frozen 2; simp at r0 r1 r2; clear hrb
  go_wp2_with fail
  refine bodyPost_ret (v := .agg #[.int .i64 4, .int .i64 0, .slice none 0 0]) (by have h := Ht.out.1.three (.int .i64 4) (.int .i64 0) (.slice none 0 0); simp [results, Try.results19, go_sem, h.1, h.2.1, h.2.2.1]) rfl (Ht.out.2 _ (Mod.three_one _ _ _ _ _))
theorem apply_any (B gm : Nat) (v v2 : Value) (m : ModN) (o : OpN) (w : World) (hb : Blk w gm 31 #[v, v2, .int .i64 m.next]) (hM : HavM B w v v2 m) (hB : B ≤ w.heap.size) (hBg : B ≤ gm) (hK : KeepM m) (hL : LenM m 100000) (hx : m.next ≤ 1000000) :
    Calls Try.prog 19 #[.pointer (some ⟨gm, 0, none⟩), .agg #[.int .i64 o.kind, .int .i64 o.series, .int .i64 o.iter, .int .i64 o.t, .int .u64 (o.v : Int), .int .i64 o.from_, .int .i64 o.to_, .int .i64 o.n]] w fun e w' => ApEnd B w w' gm (doN m o).1 (doN m o).2 e := by
  by_cases hk : o.kind < 1 ∨ 7 < o.kind
  · exact apply0 B gm v v2 m o w hb hM hB hBg hk (by simp; omega) (by simp; omega) (by simp; omega) (by simp; omega) (by simp; omega) (by simp; omega) (by simp; omega)
  · have h : o.kind = 1 ∨ o.kind = 2 ∨ o.kind = 3 ∨ o.kind = 4 ∨ o.kind = 5 ∨ o.kind = 6 ∨ o.kind = 7 := by omega
    rcases h with h | h | h | h | h | h | h
    · exact apply1 B gm v v2 m o w hb hM hB hBg hK hL hx ⟨by omega, by omega⟩ (by rw [h]; rfl)
    · exact apply2 B gm v v2 m o w hb hM hB hBg hK hL hx ⟨by omega, by omega⟩ (by rw [h]; rfl) (by rw [h]; rfl)
    · exact apply3 B gm v v2 m o w hb hM hB hBg hK hL hx ⟨by omega, by omega⟩ (by rw [h]; rfl) (by rw [h]; rfl) (by rw [h]; rfl)
    · exact apply4 B gm v v2 m o w hb hM hB hBg hK hL hx ⟨by omega, by omega⟩ (by rw [h]; rfl) (by rw [h]; rfl) (by rw [h]; rfl) (by rw [h]; rfl)
    · exact apply5 B gm v v2 m o w hb hM hB hBg hK hL hx ⟨by omega, by omega⟩ (by rw [h]; rfl) (by rw [h]; rfl) (by rw [h]; rfl) (by rw [h]; rfl) (by rw [h]; rfl)
    · exact apply6 B gm v v2 m o w hb hM hB hBg hK hL (by omega) (by rw [h]; rfl) (by rw [h]; rfl) (by rw [h]; rfl) (by rw [h]; rfl) (by rw [h]; rfl) (by rw [h]; rfl)
    · exact apply7 B gm v v2 m o w hb hM hB hBg hK hL (by omega) (by rw [h]; rfl) (by rw [h]; rfl) (by rw [h]; rfl) (by rw [h]; rfl) (by rw [h]; rfl) (by rw [h]; rfl) (by rw [h]; rfl)
end Go.Proofs.Ytejnhdenehkpmaa

/- Do: any op, done by one hand alone. -/
namespace Go.Proofs.Ytejnhdenehkpmaa
open Go.RowKit

/-- What is answered: the model behind, in memory of the call's own, and a result. -/
def DoEnd (w w' : World) (d : ModN × ResN) (e : Ending) : Prop := ∃ v v2 A3 n3 c3, e = .returned (.tuple #[.agg #[v, v2, .int .i64 d.1.next], .agg #[.int .i64 d.2.err, .int .i64 d.2.iter, .slice A3 n3 c3]]) ∧ HavM w.heap.size w' v v2 d.1 ∧ SliH w.heap.size w' (.slice A3 n3 c3) d.2.l ∧ Mod (fun _ => False) w w'
set_option maxHeartbeats 1000000 in
set_option maxRecDepth 100000 in
theorem mdo_any (A : Option Addr) (n c : Nat) (A2 : Option Addr) (n2 c2 : Nat) (m : ModN) (o : OpN) (w : World) (h : RdsM w w.heap.size A n c A2 n2 c2 m) (hK : KeepM m) (hL : LenM m 100000) (hx : m.next ≤ 1000000) :
    Calls Try.prog 8 #[.agg #[.slice A n c, .slice A2 n2 c2, .int .i64 m.next], .agg #[.int .i64 o.kind, .int .i64 o.series, .int .i64 o.iter, .int .i64 o.t, .int .u64 (o.v : Int), .int .i64 o.from_, .int .i64 o.to_, .int .i64 o.n]] w fun e w' => DoEnd w w' (doN m o) e := by
  obtain ⟨W, hW⟩ : ∃ W, W = (((w.alloc (.cells #[.slice A n c, .slice A2 n2 c2, .int .i64 m.next] 31)).alloc (.cells #[.int .i64 o.kind, .int .i64 o.series, .int .i64 o.iter, .int .i64 o.t, .int .u64 (o.v : Int), .int .i64 o.from_, .int .i64 o.to_, .int .i64 o.n] 24)).alloc (.cells #[.slice none 0 0, .slice none 0 0, .int .i64 0] 31)).alloc (.cells #[.int .i64 0, .int .i64 0, .slice none 0 0] 34) := ⟨_, rfl⟩
  obtain ⟨G0, hG0⟩ : ∃ g, g = w.heap.size := ⟨_, rfl⟩
  obtain ⟨G1, hG1⟩ : ∃ g, g = w.heap.size + 1 := ⟨_, rfl⟩
  obtain ⟨G2, hG2⟩ : ∃ g, g = w.heap.size + 1 + 1 := ⟨_, rfl⟩
  obtain ⟨G3, hG3⟩ : ∃ g, g = w.heap.size + 1 + 1 + 1 := ⟨_, rfl⟩
  have hmW : Mod (fun _ => False) w W := by rw [hW]; exact ((((Mod.refl _ _).alloc _).alloc _).alloc _).alloc _
  have hzW : W.heap.size = G3 + 1 := by rw [hW, hG3]; simp
  have hb0 : Blk W G0 31 #[.slice A n c, .slice A2 n2 c2, .int .i64 m.next] := by rw [hW, hG0]; exact (((Blk.new _ _ _).alloc _).alloc _).alloc _
  have hb1 : Blk W G1 24 #[.int .i64 o.kind, .int .i64 o.series, .int .i64 o.iter, .int .i64 o.t, .int .u64 (o.v : Int), .int .i64 o.from_, .int .i64 o.to_, .int .i64 o.n] := by
    rw [hW, hG1]
    have h := ((Blk.new (w.alloc (.cells #[.slice A n c, .slice A2 n2 c2, .int .i64 m.next] 31)) 24 #[.int .i64 o.kind, .int .i64 o.series, .int .i64 o.iter, .int .i64 o.t, .int .u64 (o.v : Int), .int .i64 o.from_, .int .i64 o.to_, .int .i64 o.n]).alloc (.cells #[.slice none 0 0, .slice none 0 0, .int .i64 0] 31)).alloc (.cells #[.int .i64 0, .int .i64 0, .slice none 0 0] 34)
    simpa using h
  have hb2 : Blk W G2 31 #[.slice none 0 0, .slice none 0 0, .int .i64 0] := by
    rw [hW, hG2]
    have h := (Blk.new ((w.alloc (.cells #[.slice A n c, .slice A2 n2 c2, .int .i64 m.next] 31)).alloc (.cells #[.int .i64 o.kind, .int .i64 o.series, .int .i64 o.iter, .int .i64 o.t, .int .u64 (o.v : Int), .int .i64 o.from_, .int .i64 o.to_, .int .i64 o.n] 24)) 31 #[.slice none 0 0, .slice none 0 0, .int .i64 0]).alloc (.cells #[.int .i64 0, .int .i64 0, .slice none 0 0] 34)
    simpa using h
  have hb3 : Blk W G3 34 #[.int .i64 0, .int .i64 0, .slice none 0 0] := by
    rw [hW, hG3]
    have h := Blk.new (((w.alloc (.cells #[.slice A n c, .slice A2 n2 c2, .int .i64 m.next] 31)).alloc (.cells #[.int .i64 o.kind, .int .i64 o.series, .int .i64 o.iter, .int .i64 o.t, .int .u64 (o.v : Int), .int .i64 o.from_, .int .i64 o.to_, .int .i64 o.n] 24)).alloc (.cells #[.slice none 0 0, .slice none 0 0, .int .i64 0] 31)) 34 #[.int .i64 0, .int .i64 0, .slice none 0 0]
    simpa using h
  obtain ⟨hl1, hl2⟩ := h.lens
  have hn : n ≤ 1000 := by have := keep_len hK; omega
  have hn2 : n2 ≤ 1000 := by have := hK.2.2.1; omega
  have z0 := hb0.cell 0
  have z1 := hb0.cell 1
  have z2 := hb0.cell 2
  simp at z0 z1 z2
  have Hr := Lib.hid (h.new hmW).fit
  have HW := Lib.hid hW; have HG0 := Lib.hid hG0; have HG1 := Lib.hid hG1; have HG2 := Lib.hid hG2; have HG3 := Lib.hid hG3; have HmW := Lib.hid hmW; have HzW := Lib.hid hzW
  have Hb1 := Lib.hid hb1; have Hb2 := Lib.hid hb2; have Hb3 := Lib.hid hb3; have HK := Lib.hid hK; have HL := Lib.hid hL; have Hx := Lib.hid hx
  clear hW hG0 hG1 hG2 hG3 hmW hzW hb0 hb1 hb2 hb3 h hl1 hl2 hK hL hx
  go_enter Try.func8, Try.ntmps8
  go_upto_region 1 with fail
  rw [← HW.out, ← HG3.out, ← HG2.out, ← HG1.out, ← HG0.out]
  go_wp2_with fail
  refine (mcopied_any A n c A2 n2 c2 m W Hr.out HL.out hn hn2).mono ?_
  rintro e w1 ⟨v, v2, rfl, hM1, hm1⟩
  obtain ⟨Av, nv, cv, Aw, nw, cw, rfl, rfl, _⟩ := hM1.rds
  obtain ⟨W2, hW2, hm2, hbm, hz2⟩ := Blk.box w1 31 #[.slice Av nv cv, .slice Aw nw cw, .int .i64 m.next]
  obtain ⟨gm, hgm⟩ : ∃ g, g = w1.heap.size := ⟨_, rfl⟩
  rw [← hgm] at hbm
  have hop2 := hm2.blk (hm1.blk Hb1.out (fun h => h)) (fun h => h)
  have y0 := hop2.cell 0
  have y1 := hop2.cell 1
  have y2 := hop2.cell 2
  have y3 := hop2.cell 3
  have y4 := hop2.cell 4
  have y5 := hop2.cell 5
  have y6 := hop2.cell 6
  have y7 := hop2.cell 7
  simp at y0 y1 y2 y3 y4 y5 y6 y7
  have Hap := Lib.hid (apply_any W.heap.size gm (.slice Av nv cv) (.slice Aw nw cw) m o W2 hbm (hM1.new hm2) (by have := hm1.size; have := hm2.size; omega) (by have := hm1.size; omega) HK.out HL.out Hx.out)
  have HW2 := Lib.hid hW2; have Hgm := Lib.hid hgm
  have Hm12 := Lib.hid (hm1.trans hm2 (fun _ _ h => h))
  have Hw1 := Lib.hid hm1.size; have Hw2 := Lib.hid hm2.size
  clear hW2 hm2 hbm hz2 hgm hop2 hM1 hm1 z0 z1 z2
  go_upto_region 2 with fail
  rw [← HW2.out, ← Hgm.out]
  go_wp2_with fail
  refine Hap.out.mono ?_
  rintro e w3 ⟨u, u2, A3, n3, c3, rfl, hbu, hMu, hSu, hmu⟩
  obtain ⟨Au, nu, cu, Ax, nx, cx, rfl, rfl, _⟩ := hMu.rds
  obtain ⟨m', hm'⟩ : ∃ m', (doN m o).1 = m' := ⟨_, rfl⟩
  obtain ⟨r', hr'⟩ : ∃ r', (doN m o).2 = r' := ⟨_, rfl⟩
  rw [hm'] at hbu hMu
  rw [hr'] at hSu ⊢
  obtain ⟨W4, hW4, hm4, hb4, hz4⟩ := Blk.box w3 34 #[.int .i64 r'.err, .int .i64 r'.iter, .slice A3 n3 c3]
  obtain ⟨gr, hgr⟩ : ∃ g, g = w3.heap.size := ⟨_, rfl⟩
  rw [← hgr] at hb4
  have hWs : Mod (fun j => W.heap.size ≤ j) W W4 := ((Hm12.out.mono (fun _ _ h => h.elim) : Mod (fun j => W.heap.size ≤ j) W W2).trans hmu (fun j _ h => h.1)).trans hm4 (fun _ _ h => h.elim)
  have hb24 := hWs.blk Hb2.out (fun h => by have := HzW.out; have := HG3.out; have := HG2.out; omega)
  have hb34 := hWs.blk Hb3.out (fun h => by have := HzW.out; omega)
  have hbu4 := hm4.blk hbu (fun h => h)
  have Hfin : Hid (∀ w'', Mod (fun j => j = G2 ∨ j = G3) W4 w'' → DoEnd w w'' (doN m o) (.returned (.tuple #[.agg #[.slice Au nu cu, .slice Ax nx cx, .int .i64 m'.next], .agg #[.int .i64 r'.err, .int .i64 r'.iter, .slice A3 n3 c3]]))) := Lib.hid (by
    intro w'' hm
    have hfar : Far (fun j => j = G2 ∨ j = G3) W4 := by
      rintro k t cs hk ht (rfl | rfl)
      · rcases ht with rfl | rfl | rfl
        · exact Blk.ne_ hb24 hk (by decide) rfl
        · exact Blk.ne_ hb24 hk (by decide) rfl
        · exact Blk.ne_ hb24 hk (by decide) rfl
      · rcases ht with rfl | rfl | rfl
        · exact Blk.ne_ hb34 hk (by decide) rfl
        · exact Blk.ne_ hb34 hk (by decide) rfl
        · exact Blk.ne_ hb34 hk (by decide) rfl
    refine ⟨_, _, A3, n3, c3, by rw [hm', hr'], ?_, ?_, ?_⟩
    · rw [hm']; exact ((hMu.new hm4).far hm hfar).mono HmW.out.size
    · rw [hr']; exact ((hSu.new hm4).mod hm (fun k cs _ hb h => hfar k _ cs hb (.inr (.inr rfl)) h)).mono HmW.out.size
    · have h5 : Mod (fun j => w.heap.size ≤ j) w w'' := ((HmW.out.mono (fun _ _ h => h.elim) : Mod (fun j => w.heap.size ≤ j) w W).trans hWs (fun j _ h => by have := HmW.out.size; omega)).trans hm (fun j _ h => by have := HG2.out; have := HG3.out; omega)
      exact h5.mono (fun j hj h => by omega))
  have hne : ¬ G2 = G3 := by have := HG2.out; have := HG3.out; omega
  have hne' : ¬ G3 = G2 := fun h => hne h.symm
  have c0 := hbu4.cell 0
  have c1 := hbu4.cell 1
  have c2 := hbu4.cell 2
  have d0 := hb4.cell 0
  have d1 := hb4.cell 1
  have d2 := hb4.cell 2
  have r0 := hb34.cell 0
  have r1 := hb34.cell 1
  have r2 := hb34.cell 2
  have f0 := hb34.frozen 0
  have f1 := hb34.frozen 1
  have f2 := hb34.frozen 2
  have q0 := hb24.cell 0
  have q1 := hb24.cell 1
  have q2 := hb24.cell 2
  have p0 := hb24.frozen 0
  have p1 := hb24.frozen 1
  have p2 := hb24.frozen 2
  simp at c0 c1 c2 d0 d1 d2 r0 r1 r2 q0 q1 q2
  have hw3 := hmu.size
  have g1 : ¬ gm = G2 := by have := Hgm.out; have := Hw1.out; have := HzW.out; have := HG2.out; have := HG3.out; omega
  have g2 : ¬ gm = G3 := by have := Hgm.out; have := Hw1.out; have := HzW.out; omega
  have g3 : ¬ gr = G2 := by have := Hw1.out; have := Hw2.out; have := HzW.out; have := HG2.out; have := HG3.out; omega
  have g4 : ¬ gr = G3 := by have := Hw1.out; have := Hw2.out; have := HzW.out; omega
  clear hw3
  have HW4 := Lib.hid hW4; have Hgr := Lib.hid hgr; have H24 := Lib.hid hb24; have H34 := Lib.hid hb34
  clear hW4 hm4 hb4 hz4 hgr hWs hb24 hb34 hbu4 hbu hMu hSu hmu y0 y1 y2 y3 y4 y5 y6 y7
  go_upto_region 3 with fail
  rw [← HW4.out, ← Hgr.out]
  go_region
  obtain ⟨W5, hW5⟩ : ∃ W5, W5 = ((((((W4.setCell ⟨G2, 0, none⟩ (.slice Au nu cu)).setCell ⟨G2, 1, none⟩ (.slice Ax nx cx)).setCell ⟨G2, 2, none⟩ (.int .i64 m'.next)).setCell ⟨G3, 0, none⟩ (.int .i64 r'.err)).setCell ⟨G3, 1, none⟩ (.int .i64 r'.iter)).setCell ⟨G3, 2, none⟩ (.slice A3 n3 c3)).drew := ⟨_, rfl⟩
  have k1 := (H24.out.three (.slice Au nu cu) (.slice Ax nx cx) (.int .i64 m'.next)).2.2.2
  have k2 := (Mod.three_one W4 G2 (.slice Au nu cu) (.slice Ax nx cx) (.int .i64 m'.next)).blk H34.out hne'
  have k3 : Blk W5 G3 34 #[.int .i64 r'.err, .int .i64 r'.iter, .slice A3 n3 c3] := by rw [hW5]; exact Blk.drew (k2.three (.int .i64 r'.err) (.int .i64 r'.iter) (.slice A3 n3 c3)).2.2.2
  have k4 : Blk W5 G2 31 #[.slice Au nu cu, .slice Ax nx cx, .int .i64 m'.next] := by rw [hW5]; exact Blk.drew ((Mod.three_one (((W4.setCell ⟨G2, 0, none⟩ (.slice Au nu cu)).setCell ⟨G2, 1, none⟩ (.slice Ax nx cx)).setCell ⟨G2, 2, none⟩ (.int .i64 m'.next)) G3 (.int .i64 r'.err) (.int .i64 r'.iter) (.slice A3 n3 c3)).blk k1 hne)
  have km : Mod (fun j => j = G2 ∨ j = G3) W4 W5 := by
    rw [hW5]
    have j1 : Mod (fun j => j = G2 ∨ j = G3) W4 _ := (Mod.three_one W4 G2 (.slice Au nu cu) (.slice Ax nx cx) (.int .i64 m'.next)).mono (fun _ _ h => .inl h)
    have j2 := j1.trans (Mod.three_one _ G3 (.int .i64 r'.err) (.int .i64 r'.iter) (.slice A3 n3 c3)) (fun _ _ h => .inr h)
    exact j2.drew
  have a0 := k4.cell 0
  have a1 := k4.cell 1
  have a2 := k4.cell 2
  have b0 := k3.cell 0
  have b1 := k3.cell 1
  have b2 := k3.cell 2
  simp at a0 a1 a2 b0 b1 b2
  rw [← hW5]
  have Km := Lib.hid km
  clear hW5 k1 k2 k3 k4 km
  go_wp2_with fail
  refine bodyPost_ret (v := .tuple #[.agg #[.slice Au nu cu, .slice Ax nx cx, .int .i64 m'.next], .agg #[.int .i64 r'.err, .int .i64 r'.iter, .slice A3 n3 c3]]) (by simp [results, Try.results8, go_sem, a0, a1, a2, b0, b1, b2]) rfl (Hfin.out _ Km.out)
end Go.Proofs.Ytejnhdenehkpmaa

/- A call of Do, told by what it comes to; models and results in structs of the call's own. -/
namespace Go.Proofs.Ytejnhdenehkpmaa
open Go.RowKit

theorem HavM.rdm {B : Nat} {w : World} {A A2 : Option Addr} {n c n2 c2 : Nat} {m : ModN} (h : HavM B w (.slice A n c) (.slice A2 n2 c2) m) : RdsM w w.heap.size A n c A2 n2 c2 m := by
  obtain ⟨A', n', c', A2', n2', c2', e1, e2, hr⟩ := h.rds
  injection e1 with e1 e3 e4
  injection e2 with e2 e5 e6
  subst e1 e3 e4 e2 e5 e6
  exact hr
theorem HavM.nil (B : Nat) (w : World) : HavM B w (.slice none 0 0) (.slice none 0 0) .nil := ⟨[], [], rfl, rfl, ⟨OwnK.nil _ _ _ _, fun _ h => by cases h⟩, ⟨OwnK.nil _ _ _ _, fun _ h => by cases h⟩⟩
def DidM (w w' : World) (m' : ModN) (N x y : Int) (l : List (Int × Nat)) (e : Ending) : Prop := ∃ A n c A2 n2 c2 A3 n3 c3, e = .returned (.tuple #[.agg #[.slice A n c, .slice A2 n2 c2, .int .i64 N], .agg #[.int .i64 x, .int .i64 y, .slice A3 n3 c3]]) ∧ HavM w.heap.size w' (.slice A n c) (.slice A2 n2 c2) m' ∧ SliH w.heap.size w' (.slice A3 n3 c3) l ∧ Mod (fun _ => False) w w'
theorem DoEnd.did {w w' : World} {d : ModN × ResN} {m' : ModN} {N x y : Int} {l : List (Int × Nat)} {e : Ending} (h : DoEnd w w' d e) (hd : d = (m', ⟨x, y, l⟩)) (hN : m'.next = N) : DidM w w' m' N x y l e := by
  subst hd hN
  obtain ⟨v, v2, A3, n3, c3, rfl, hM, hS, hm⟩ := h
  obtain ⟨A, n, c, A2, n2, c2, rfl, rfl, hr⟩ := hM.rds
  exact ⟨A, n, c, A2, n2, c2, A3, n3, c3, rfl, hM, hS, hm⟩
/-- A model and a result, each in a struct of the call's own. -/
theorem lay_two (w : World) (a b c d e f : Value) : ∃ W, W = (w.alloc (.cells #[a, b, c] 31)).alloc (.cells #[d, e, f] 34) ∧ Mod (fun _ => False) w W ∧ Blk W w.heap.size 31 #[a, b, c] ∧ Blk W (w.heap.size + 1) 34 #[d, e, f] ∧ W.heap.size = w.heap.size + 1 + 1 := by
  refine ⟨_, rfl, ((Mod.refl _ _).alloc _).alloc _, (Blk.new _ _ _).alloc _, ?_, by simp⟩
  have h := Blk.new (w.alloc (.cells #[a, b, c] 31)) 34 #[d, e, f]
  simpa using h
theorem fits_small {n : Int} (h : -1000000000 ≤ n ∧ n ≤ 1000000000) : Fits n := by
  unfold Fits
  have : (H63 : Int) = 9223372036854775808 := rfl
  omega
/-- A model's struct is written anew, and a result's, which is new. -/
theorem lay_over {w3 : World} {g2 : Nat} {a0 b0 c0 : Value} (hb : Blk w3 g2 31 #[a0, b0, c0]) (a b c d e f : Value) : ∃ W3, W3 = ((((((w3.alloc (.cells #[.int .i64 0, .int .i64 0, .slice none 0 0] 34)).setCell ⟨g2, 0, none⟩ a).setCell ⟨g2, 1, none⟩ b).setCell ⟨g2, 2, none⟩ c).setCell ⟨w3.heap.size, 0, none⟩ d).setCell ⟨w3.heap.size, 1, none⟩ e).setCell ⟨w3.heap.size, 2, none⟩ f ∧
    Blk W3 g2 31 #[a, b, c] ∧ Blk W3 w3.heap.size 34 #[d, e, f] ∧ Mod (fun j => j = g2) w3 W3 ∧ ∀ {B : Nat} {v v2 : Value} {m : ModN}, HavM B w3 v v2 m → HavM B W3 v v2 m := by
  have hlt := hb.lt
  have e1 : ¬ w3.heap.size = g2 := by omega
  have e2 : ¬ g2 = w3.heap.size := by omega
  have hb2 := hb.alloc (.cells #[.int .i64 0, .int .i64 0, .slice none 0 0] 34)
  have hr3 := Blk.new w3 34 #[.int .i64 0, .int .i64 0, .slice none 0 0]
  have m0 : Mod (fun _ => False) w3 (w3.alloc (.cells #[.int .i64 0, .int .i64 0, .slice none 0 0] 34)) := (Mod.refl _ w3).alloc _
  have m1 := Mod.three_one (w3.alloc (.cells #[.int .i64 0, .int .i64 0, .slice none 0 0] 34)) g2 a b c
  have k1 := (hb2.three a b c).2.2.2
  have k2 := m1.blk hr3 e1
  have m2 := Mod.three_one ((((w3.alloc (.cells #[.int .i64 0, .int .i64 0, .slice none 0 0] 34)).setCell ⟨g2, 0, none⟩ a).setCell ⟨g2, 1, none⟩ b).setCell ⟨g2, 2, none⟩ c) w3.heap.size d e f
  refine ⟨_, rfl, m2.blk k1 e2, (k2.three d e f).2.2.2, ((m0.mono (fun _ _ h => h.elim)).trans m1 (fun _ _ h => h)).trans m2 (fun i hi h => by omega), fun h => ((h.new m0).far m1 (Far.one hb2 (by decide) (by decide) (by decide))).far m2 (Far.one k2 (by decide) (by decide) (by decide))⟩
end Go.Proofs.Ytejnhdenehkpmaa

/- The closure of ModlEdges: Do, its error alone. -/
namespace Go.Proofs.Ytejnhdenehkpmaa
open Go.RowKit

end Go.Proofs.Ytejnhdenehkpmaa

/- awake: what the document fixes. -/
namespace Go.Proofs.Ytejnhdenehkpmaa
open Go.RowKit

set_option maxHeartbeats 2000000 in
set_option maxRecDepth 100000 in
theorem mawake_any (w : World) : Calls Try.prog 10 #[] w fun e w' => e = .returned (.bool true) ∧ Mod (fun _ => False) w w' := by
  obtain ⟨d1, d2, d3, d4, d5, d6⟩ := awk_all
  obtain ⟨mN, hmN⟩ : ∃ mN : ModN, mN = { awkM with ite := [⟨1, [(5, 7)]⟩], next := 1 } := ⟨_, rfl⟩
  obtain ⟨mD, hmD⟩ : ∃ mD : ModN, mD = (doN awkN { opZ with kind := 6, iter := 1, n := 5 }).1 := ⟨_, rfl⟩
  have d4' : doN awkN { opZ with kind := 6, iter := 1, n := 5 } = (mD, ⟨0, 0, [(5, 7)]⟩) := by rw [hmD, ← d4]
  rw [← hmN] at d2 d3
  have K1 : KeepM awkM := by have h := doN_keep KeepM.nil (appO 3 5 7); rw [d1] at h; exact h
  have K2 : KeepM mN := by have h := doN_keep K1 { opZ with kind := 5, series := 3, from_ := 0, to_ := 9 }; rw [d2] at h; exact h
  have K3 : KeepM awkN := by have h := doN_keep K2 { opZ with kind := 4, series := 3 }; rw [d3] at h; exact h
  have L1 : LenM awkM 1 := by have h := (doN_len (LenM.nil 0) (o := appO 3 5 7) (fits_small (by decide)) (by decide)).1; rw [d1] at h; exact h
  have L2 : LenM mN 2 := by have h := (doN_len L1 (o := { opZ with kind := 5, series := 3, from_ := 0, to_ := 9 }) (fits_small (by decide)) (by decide)).1; rw [d2] at h; exact h
  have L3 : LenM awkN 3 := by have h := (doN_len L2 (o := { opZ with kind := 4, series := 3 }) (fits_small (by decide)) (by decide)).1; rw [d3] at h; exact h
  have x1 : mN.next ≤ 1000000 := by rw [hmN]; decide
  have x1' : mN.next = 1 := by rw [hmN]
  have Hd1 : Hid (Calls Try.prog 8 #[.agg #[.slice none 0 0, .slice none 0 0, .int .i64 0], .agg #[.int .i64 1, .int .i64 3, .int .i64 0, .int .i64 5, .int .u64 7, .int .i64 0, .int .i64 0, .int .i64 0]] w fun e w' => DidM w w' awkM 0 0 0 [] e) := Lib.hid ((mdo_any none 0 0 none 0 0 .nil (appO 3 5 7) w (RdsM.nil _ _) KeepM.nil (LenM.nil _) (by decide)).mono (fun e w' h => h.did d1 rfl))
  have Hc2 : Hid (∀ (W : World) A n c A2 n2 c2, HavM 0 W (.slice A n c) (.slice A2 n2 c2) awkM → Calls Try.prog 8 #[.agg #[.slice A n c, .slice A2 n2 c2, .int .i64 0], .agg #[.int .i64 5, .int .i64 3, .int .i64 0, .int .i64 0, .int .u64 0, .int .i64 0, .int .i64 9, .int .i64 0]] W fun e w' => DidM W w' mN 1 0 1 [] e) := Lib.hid (fun W A n c A2 n2 c2 h => (mdo_any A n c A2 n2 c2 awkM { opZ with kind := 5, series := 3, from_ := 0, to_ := 9 } W h.rdm K1 (L1.more (by decide)) (by decide)).mono (fun e w' h => h.did d2 x1'))
  have Hc3 : Hid (∀ (W : World) A n c A2 n2 c2, HavM 0 W (.slice A n c) (.slice A2 n2 c2) mN → Calls Try.prog 8 #[.agg #[.slice A n c, .slice A2 n2 c2, .int .i64 1], .agg #[.int .i64 4, .int .i64 3, .int .i64 0, .int .i64 0, .int .u64 0, .int .i64 0, .int .i64 0, .int .i64 0]] W fun e w' => DidM W w' awkN 1 0 0 [] e) := Lib.hid (fun W A n c A2 n2 c2 h => by
    have h2 := (mdo_any A n c A2 n2 c2 mN { opZ with kind := 4, series := 3 } W h.rdm K2 (L2.more (by decide)) x1).mono (fun e w' h => h.did d3 rfl)
    rw [x1'] at h2
    exact h2)
  have Hc4 : Hid (∀ (W : World) A n c A2 n2 c2, HavM 0 W (.slice A n c) (.slice A2 n2 c2) awkN → Calls Try.prog 8 #[.agg #[.slice A n c, .slice A2 n2 c2, .int .i64 1], .agg #[.int .i64 6, .int .i64 0, .int .i64 1, .int .i64 0, .int .u64 0, .int .i64 0, .int .i64 0, .int .i64 5]] W fun e w' => DidM W w' mD mD.next 0 0 [(5, 7)] e) := Lib.hid (fun W A n c A2 n2 c2 h => (mdo_any A n c A2 n2 c2 awkN { opZ with kind := 6, iter := 1, n := 5 } W h.rdm K3 (L3.more (by decide)) (by decide)).mono (fun e w' h => h.did d4' rfl))
  have Hc5 : Hid (∀ (W : World) A n c A2 n2 c2, HavM 0 W (.slice A n c) (.slice A2 n2 c2) awkM → Calls Try.prog 8 #[.agg #[.slice A n c, .slice A2 n2 c2, .int .i64 0], .agg #[.int .i64 1, .int .i64 3, .int .i64 0, .int .i64 5, .int .u64 0, .int .i64 0, .int .i64 0, .int .i64 0]] W fun e w' => DidM W w' awkM 0 1 0 [] e) := Lib.hid (fun W A n c A2 n2 c2 h => (mdo_any A n c A2 n2 c2 awkM (appO 3 5 0) W h.rdm K1 (L1.more (by decide)) (by decide)).mono (fun e w' h => h.did d5 rfl))
  have Hc6 : Hid (∀ (W : World) A n c A2 n2 c2, HavM 0 W (.slice A n c) (.slice A2 n2 c2) awkM → Calls Try.prog 8 #[.agg #[.slice A n c, .slice A2 n2 c2, .int .i64 0], .agg #[.int .i64 2, .int .i64 16, .int .i64 0, .int .i64 0, .int .u64 0, .int .i64 0, .int .i64 0, .int .i64 0]] W fun e w' => DidM W w' awkM 0 4 0 [] e) := Lib.hid (fun W A n c A2 n2 c2 h => (mdo_any A n c A2 n2 c2 awkM { opZ with kind := 2, series := 16 } W h.rdm K1 (L1.more (by decide)) (by decide)).mono (fun e w' h => h.did d6 rfl))
  obtain ⟨ND, hND⟩ : ∃ ND, ND = mD.next := ⟨_, rfl⟩
  rw [← hND] at Hc4
  have HL1 := Lib.hid L1; have HL3 := Lib.hid L3
  clear d1 d2 d3 d4 d4' d5 d6 hmN hmD K1 K2 K3 L1 L2 L3 x1 x1' hND
  go_enter Try.func10, Try.ntmps10
  go_wp2_with fail
  refine Hd1.out.mono ?_
  rintro e w1 ⟨A, n, c, A2, n2, c2, A3, n3, c3, rfl, hM, hS, hm⟩
  obtain ⟨W1, hW1, hm1, hbm, hbr, hz1⟩ := lay_two w1 (.slice A n c) (.slice A2 n2 c2) (.int .i64 0) (.int .i64 0) (.int .i64 0) (.slice A3 n3 c3)
  obtain ⟨g1, hg1⟩ : ∃ g, g = w1.heap.size := ⟨_, rfl⟩
  rw [← hg1] at hbm hbr hz1
  have x0 := hbm.cell 0
  have x1 := hbm.cell 1
  have x2 := hbm.cell 2
  simp at x0 x1 x2
  have HM1 := Lib.hid ((hM.new hm1).mono (Nat.zero_le _)); have HS1 := Lib.hid ((hS.new hm1).mono (Nat.zero_le _)); have HW1 := Lib.hid hW1; have Hg1 := Lib.hid hg1; have Hm1 := Lib.hid (hm.trans hm1 (fun _ _ h => h)); have Hbm1 := Lib.hid hbm; have Hbr1 := Lib.hid hbr
  have Hz1 := Lib.hid hz1
  clear hM hS hW1 hg1 hm hm1 hbm hbr hz1 Hd1
  go_upto_region 2 with fail
  rw [← HW1.out, ← Hg1.out]
  go_wp2_with fail
  refine (Hc2.out W1 A n c A2 n2 c2 HM1.out).mono ?_
  rintro e w2 ⟨B, k, d, B2, k2, d2, B3, k3, d3, rfl, hM, hS, hm⟩
  obtain ⟨W2, hW2, hm2, hbm, hbr, hz2⟩ := lay_two w2 (.slice B k d) (.slice B2 k2 d2) (.int .i64 1) (.int .i64 0) (.int .i64 1) (.slice B3 k3 d3)
  obtain ⟨g2, hg2⟩ : ∃ g, g = w2.heap.size := ⟨_, rfl⟩
  rw [← hg2] at hbm hbr hz2
  have y0 := hbm.cell 0
  have y1 := hbm.cell 1
  have y2 := hbm.cell 2
  simp at y0 y1 y2
  have Hm12 := Lib.hid (hm.trans hm2 (fun _ _ h => h)); have Hs2 := Lib.hid hm.size
  have HM2 := Lib.hid ((hM.new hm2).mono (Nat.zero_le _)); have HS2 := Lib.hid ((hS.new hm2).mono (Nat.zero_le _)); have HW2 := Lib.hid hW2; have Hg2 := Lib.hid hg2; have Hbm2 := Lib.hid hbm; have Hbr2 := Lib.hid hbr
  have Hz2 := Lib.hid hz2
  clear hM hS hW2 hg2 hm hm2 hbm hbr hz2 x0 x1 x2
  go_upto_region 3 with fail
  rw [← HW2.out, ← Hg2.out]
  go_wp2_with fail
  refine (Hc3.out W2 B k d B2 k2 d2 HM2.out).mono ?_
  rintro e w3 ⟨E, i, f, E2, i2, f2, E3, i3, f3, rfl, hM, hS, hm⟩
  have hb2 := (hm.blk Hbm2.out (fun h => h)).alloc (.cells #[.int .i64 0, .int .i64 0, .slice none 0 0] 34)
  have hr3 := Blk.new w3 34 #[.int .i64 0, .int .i64 0, .slice none 0 0]
  have y0 := hb2.cell 0
  have y1 := hb2.cell 1
  have y2 := hb2.cell 2
  have q0 := hb2.frozen 0
  have q1 := hb2.frozen 1
  have q2 := hb2.frozen 2
  have r0 := hr3.cell 0
  have r1 := hr3.cell 1
  have r2 := hr3.cell 2
  have p0 := hr3.frozen 0
  have p1 := hr3.frozen 1
  have p2 := hr3.frozen 2
  simp at y0 y1 y2 r0 r1 r2
  have e1 : ¬ w3.heap.size = g2 := by have := hm.size; have := Hz2.out; omega
  have e2 : ¬ g2 = w3.heap.size := fun h => e1 h.symm
  obtain ⟨W3, hW3, hbm, hbr, hm3, hH3⟩ := lay_over (hm.blk Hbm2.out (fun h => h)) (.slice E i f) (.slice E2 i2 f2) (.int .i64 1) (.int .i64 0) (.int .i64 0) (.slice E3 i3 f3)
  obtain ⟨g3, hg3⟩ : ∃ g, g = w3.heap.size := ⟨_, rfl⟩
  rw [← hg3] at hbr
  have HM3 := Lib.hid ((hH3 hM).mono (Nat.zero_le _)); have Hbm3 := Lib.hid hbm; have Hbr3 := Lib.hid hbr
  have Hm23 : Hid (Mod (fun j => j = g2) W2 W3) := Lib.hid ((hm.mono (fun _ _ h => h.elim)).trans hm3 (fun _ _ h => h))
  have n1 : ¬ g1 = g2 := by have := Hz1.out; have := Hg2.out; have := Hs2.out; omega
  have n2' : ¬ g1 + 1 = g2 := by have := Hz1.out; have := Hg2.out; have := Hs2.out; omega
  have n3' : ¬ g2 + 1 = g2 := by omega
  have HM1' := Lib.hid ((HM1.out.new Hm12.out).far Hm23.out (Far.one Hbm2.out (by decide) (by decide) (by decide)))
  have HS1' := Lib.hid ((HS1.out.new Hm12.out).mod Hm23.out (fun k cs _ hb e => by rw [e] at hb; exact Blk.ne_ hb Hbm2.out (by decide) rfl))
  have HS2' := Lib.hid (HS2.out.mod Hm23.out (fun k cs _ hb e => by rw [e] at hb; exact Blk.ne_ hb Hbm2.out (by decide) rfl))
  have hb3m := hb2
  have HS3 := Lib.hid (((hS.mono (Nat.zero_le _)).mod hm3 (fun k cs _ hb e => by rw [e] at hb; exact Blk.ne_ hb (hm.blk Hbm2.out (fun h => h)) (by decide) rfl) : SliH 0 W3 (.slice E3 i3 f3) []))
  have Hbm1' := Lib.hid (Hm23.out.blk (Hm12.out.blk Hbm1.out (fun h => h)) n1)
  have Hbr1' := Lib.hid (Hm23.out.blk (Hm12.out.blk Hbr1.out (fun h => h)) n2')
  have Hbr2' := Lib.hid (Hm23.out.blk Hbr2.out n3')
  have HW3 := Lib.hid hW3; have Hg3 := Lib.hid hg3; have Hm3 := Lib.hid hm3.size
  have Hs3 := Lib.hid hm.size
  go_upto_region 4 with fail
  rw [← HW3.out, ← Hg3.out]
  have v0 := Hbm3.out.cell 0
  have v1 := Hbm3.out.cell 1
  have v2 := Hbm3.out.cell 2
  simp at v0 v1 v2
  clear hb2 hr3 y0 y1 y2 q0 q1 q2 r0 r1 r2 p0 p1 p2 e1 e2 hb3m hbm hbr hm3 hW3 hg3 hM hS hm hH3 HM1 HS1 HS2 Hbm1 Hbr1 Hbr2 n1 n2' n3' HM2 Hc2 Hc3
  go_wp2_with fail
  refine (Hc4.out W3 E i f E2 i2 f2 HM3.out).mono ?_
  rintro e w4 ⟨P, r, s, P2, r2, s2, P3, r3, s3, rfl, hM, hS, hm⟩
  obtain ⟨W4, hW4, hm4, hbm, hbr, hz4⟩ := lay_two w4 (.slice P r s) (.slice P2 r2 s2) (.int .i64 ND) (.int .i64 0) (.int .i64 0) (.slice P3 r3 s3)
  obtain ⟨g4, hg4⟩ : ∃ g, g = w4.heap.size := ⟨_, rfl⟩
  rw [← hg4] at hbm hbr hz4
  have Hm34 := Lib.hid (hm.trans hm4 (fun _ _ h => h))
  have HS4 := Lib.hid ((hS.new hm4).mono (Nat.zero_le _)); have HW4 := Lib.hid hW4; have Hg4 := Lib.hid hg4; have Hbr4 := Lib.hid hbr
  have x0 := (Hm34.out.blk Hbm1'.out (fun h => h)).cell 0
  have x1 := (Hm34.out.blk Hbm1'.out (fun h => h)).cell 1
  have x2 := (Hm34.out.blk Hbm1'.out (fun h => h)).cell 2
  simp at x0 x1 x2
  have HM4 := Lib.hid (HM1'.out.new Hm34.out)
  clear hM hS hm hm4 hbm hbr hz4 hW4 hg4 v0 v1 v2
  go_upto_region 5 with fail
  rw [← HW4.out, ← Hg4.out]
  go_wp2_with fail
  refine (Hc5.out W4 A n c A2 n2 c2 HM4.out).mono ?_
  rintro e w5 ⟨Q, r, s, Q2, r2, s2, Q3, r3', s3', rfl, hM, hS, hm⟩
  obtain ⟨W5, hW5, hm5, hbm, hbr, hz5⟩ := lay_two w5 (.slice Q r s) (.slice Q2 r2 s2) (.int .i64 0) (.int .i64 1) (.int .i64 0) (.slice Q3 r3' s3')
  obtain ⟨g5, hg5⟩ : ∃ g, g = w5.heap.size := ⟨_, rfl⟩
  rw [← hg5] at hbm hbr hz5
  have Hm45 := Lib.hid (hm.trans hm5 (fun _ _ h => h))
  have HW5 := Lib.hid hW5; have Hg5 := Lib.hid hg5; have Hbr5 := Lib.hid hbr
  have Hm35 := Lib.hid (Hm34.out.trans Hm45.out (fun _ _ h => h))
  have x0 := (Hm35.out.blk Hbm1'.out (fun h => h)).cell 0
  have x1 := (Hm35.out.blk Hbm1'.out (fun h => h)).cell 1
  have x2 := (Hm35.out.blk Hbm1'.out (fun h => h)).cell 2
  simp at x0 x1 x2
  have HM5 := Lib.hid (HM1'.out.new Hm35.out)
  clear hM hS hm hm5 hbm hbr hz5 hW5 hg5
  go_upto_region 6 with fail
  rw [← HW5.out, ← Hg5.out]
  go_wp2_with fail
  refine (Hc6.out W5 A n c A2 n2 c2 HM5.out).mono ?_
  rintro e w6 ⟨Q', r', s', Q2', r2', s2', Q3', r3'', s3'', rfl, hM, hS, hm⟩
  obtain ⟨W6, hW6, hm6, hbm, hbr, hz6⟩ := lay_two w6 (.slice Q' r' s') (.slice Q2' r2' s2') (.int .i64 0) (.int .i64 4) (.int .i64 0) (.slice Q3' r3'' s3'')
  obtain ⟨g6, hg6⟩ : ∃ g, g = w6.heap.size := ⟨_, rfl⟩
  rw [← hg6] at hbm hbr hz6
  have hm56 := hm.trans hm6 (fun _ _ h => h)
  have hm36 := Hm35.out.trans hm56 (fun _ _ h => h)
  -- all that the last row reads, in whatever world behind
  have hd : r3 = 1 := by have h := HS4.out.rds.1; exact h.symm
  subst hd
  obtain ⟨Ad, nd, cd, ed, hd1, hd2, hd3, hd4⟩ := HS4.out
  injection ed with ed1 ed2 ed3
  subst ed1 ed2 ed3
  obtain ⟨gd, od, csd, rfl, _, hbd, hcd⟩ := hd4 (by decide)
  have hcd1 := hcd 1 _ rfl
  have hi0 : i = 0 := by have h := HM3.out.rdm.lens.1; exact h.symm
  subst hi0
  have Hall : Hid (∀ W', Mod (fun _ => False) W6 W' → W'.cell? ⟨g1 + 1, 0, none⟩ = some (.int .i64 0) ∧ W'.cell? ⟨g1 + 1, 1, none⟩ = some (.int .i64 0) ∧ W'.cell? ⟨g1 + 1, 2, none⟩ = some (.slice A3 n3 c3) ∧
      W'.cell? ⟨g2 + 1, 0, none⟩ = some (.int .i64 0) ∧ W'.cell? ⟨g2 + 1, 1, none⟩ = some (.int .i64 1) ∧ W'.cell? ⟨g2 + 1, 2, none⟩ = some (.slice B3 k3 d3) ∧
      W'.cell? ⟨g3, 0, none⟩ = some (.int .i64 0) ∧ W'.cell? ⟨g3, 1, none⟩ = some (.int .i64 0) ∧ W'.cell? ⟨g3, 2, none⟩ = some (.slice E3 i3 f3) ∧
      W'.cell? ⟨g1, 0, none⟩ = some (.slice A n c) ∧ W'.cell? ⟨g1, 1, none⟩ = some (.slice A2 n2 c2) ∧ W'.cell? ⟨g1, 2, none⟩ = some (.int .i64 0) ∧
      W'.cell? ⟨g2, 0, none⟩ = some (.slice E 0 f) ∧ W'.cell? ⟨g2, 1, none⟩ = some (.slice E2 i2 f2) ∧ W'.cell? ⟨g2, 2, none⟩ = some (.int .i64 1) ∧
      HavM 0 W' (.slice A n c) (.slice A2 n2 c2) awkM ∧ HavM 0 W' (.slice E 0 f) (.slice E2 i2 f2) awkN ∧ SliH 0 W' (.slice A3 n3 c3) [] ∧ SliH 0 W' (.slice B3 k3 d3) [] ∧ SliH 0 W' (.slice E3 i3 f3) []) := Lib.hid (fun W' h => by
    have hm := hm36.trans h (fun _ _ h => h)
    have b1 := hm.blk Hbr1'.out (fun h => h)
    have b2 := hm.blk Hbr2'.out (fun h => h)
    have b3 := hm.blk Hbr3.out (fun h => h)
    have b4 := hm.blk Hbm1'.out (fun h => h)
    have b5 := hm.blk Hbm3.out (fun h => h)
    exact ⟨b1.cell 0, b1.cell 1, b1.cell 2, b2.cell 0, b2.cell 1, b2.cell 2, b3.cell 0, b3.cell 1, b3.cell 2, b4.cell 0, b4.cell 1, b4.cell 2, b5.cell 0, b5.cell 1, b5.cell 2, HM1'.out.new hm, HM3.out.new hm, HS1'.out.new hm, HS2'.out.new hm, HS3.out.new hm⟩)
  have h46 := Hm45.out.trans hm56 (fun _ _ h => h)
  have bd4 := h46.blk Hbr4.out (fun h => h)
  have u2 := bd4.cell 2
  have ud := (h46.blk hbd (fun h => h)).cell (od + 1)
  rw [hcd1] at ud
  have u5 := (hm56.blk Hbr5.out (fun h => h)).cell 0
  have u6 := hbr.cell 0
  simp at u2 u5 u6
  obtain ⟨a0, a1, a2, b0, b1, b2, c0, c1, c2', x0, x1, x2, y0, y1, y2, hMa, hMn, hSa, hSb, hSc⟩ := Hall.out W6 (Mod.refl _ _)
  have HMa := Lib.hid hMa; have HMn := Lib.hid hMn
  have hln := HMa.out.rdm.lens
  have hn1 : n ≤ 1000 := by have h := hln.1; have : awkM.ser.length = 1 := rfl; omega
  have hn2 : n2 ≤ 1000 := by have h := hln.2; have : awkM.ite.length = 0 := rfl; omega
  have Hsm := Lib.hid (msame_any awkM awkM A A2 A A2 n c n2 c2 n c n2 c2 _ _ W6 hMa.rdm hMa.rdm hn1 hn2 (HL1.out.more (by decide)))
  have Hm06 : Hid (Mod (fun _ => False) w W6) := Lib.hid (by
    have h1 := (Hm1.out.trans Hm12.out (fun _ _ h => h))
    have h2 : Mod (fun j => w.heap.size ≤ j) w W3 := (h1.mono (fun _ _ h => h.elim)).trans Hm23.out (fun j hj e => by have := Hz1.out; have := Hg2.out; have := Hs2.out; have := Hm1.out.size; omega)
    exact (h2.trans hm36 (fun _ _ h => h.elim)).mono (fun j hj h => by omega))
  have HW6 := Lib.hid hW6; have Hg6 := Lib.hid hg6; have Hln1 := Lib.hid hn1; have Hln2 := Lib.hid hn2
  clear hM hS hm hm6 hbm hbr hz6 hW6 hg6 hm56 hm36 hd1 hd2 hd3 hd4 hbd hcd hcd1 h46 bd4 hMa hMn hSa hSb hSc hln hn1 hn2
  clear Hc4 Hc5 Hc6 Hm1 Hm12 Hm23 Hz1 Hz2 Hg1 Hg2 Hg3 Hg4 Hg5 HW1 HW2 HW3 HW4 HW5 Hs2 Hs3 Hm3 Hm34 Hm35 Hm45 HS1' HS2' HS3 HS4 HM1' HM3 HM4 HM5 Hbm1' Hbr1' Hbr2' Hbm3 Hbr3 Hbr4 Hbr5
  go_upto_region 7 with fail
  rw [← HW6.out, ← Hg6.out]
  go_wp2_with fail
  refine Hsm.out.mono ?_
  rintro e w7 ⟨b, rfl, hb, hm7⟩
  obtain rfl : b = true := by simpa using hb
  have Hm7 := Lib.hid hm7
  clear a0 a1 a2 b0 b1 b2 c0 c1 c2' x0 x1 x2 y0 y1 y2 u2 ud u5 u6 hb hm7
  obtain ⟨a0, a1, a2, b0, b1, b2, c0, c1, c2', x0, x1, x2, y0, y1, y2, hMa, hMn, hSa, hSb, hSc⟩ := Hall.out w7 Hm7.out
  have Hsm2 := Lib.hid (msame_any awkM awkN A A2 E E2 n c n2 c2 0 f i2 f2 _ _ w7 hMa.rdm hMn.rdm Hln1.out Hln2.out (HL1.out.more (by decide)))
  clear hMa hMn hSa hSb hSc
  go_wp2_with fail
  refine Hsm2.out.mono ?_
  rintro e w8 ⟨b, rfl, hb, hm8⟩
  obtain rfl : b = false := by
    cases b with
    | false => rfl
    | true => exact absurd (by simpa using hb) awk_ne.1
  have Hm8 := Lib.hid (Hm7.out.trans hm8 (fun _ _ h => h))
  clear a0 a1 a2 b0 b1 b2 c0 c1 c2' x0 x1 x2 y0 y1 y2 hb hm8
  obtain ⟨a0, a1, a2, b0, b1, b2, c0, c1, c2', x0, x1, x2, y0, y1, y2, hMa, hMn, hSa, hSb, hSc⟩ := Hall.out w8 Hm8.out
  have Hsr := Lib.hid (msameR_any ⟨0, 0, []⟩ ⟨0, 0, []⟩ A3 E3 n3 c3 i3 f3 _ _ w8 hSa.rds.2.2.2 hSc.rds.2.2.2 (by have h := hSa.rds.1; simp at h; omega))
  clear hMa hMn hSa hSb hSc
  go_wp2_with fail
  refine Hsr.out.mono ?_
  rintro e w9 ⟨b, rfl, hb, hm9⟩
  obtain rfl : b = true := by simpa using hb
  have Hm9 := Lib.hid (Hm8.out.trans hm9 (fun _ _ h => h))
  clear a0 a1 a2 b0 b1 b2 c0 c1 c2' x0 x1 x2 y0 y1 y2 hb hm9
  obtain ⟨a0, a1, a2, b0, b1, b2, c0, c1, c2', x0, x1, x2, y0, y1, y2, hMa, hMn, hSa, hSb, hSc⟩ := Hall.out w9 Hm9.out
  have Hsr2 := Lib.hid (msameR_any ⟨0, 0, []⟩ ⟨0, 1, []⟩ A3 B3 n3 c3 k3 d3 _ _ w9 hSa.rds.2.2.2 hSb.rds.2.2.2 (by have h := hSa.rds.1; simp at h; omega))
  clear hMa hMn hSa hSb hSc
  go_wp2_with fail
  refine Hsr2.out.mono ?_
  rintro e w10 ⟨b, rfl, hb, hm10⟩
  obtain rfl : b = false := by
    cases b with
    | false => rfl
    | true => simp at hb
  have Hm10 := Lib.hid ((Hm06.out.trans Hm9.out (fun _ _ h => h)).trans hm10 (fun _ _ h => h))
  clear a0 a1 a2 b0 b1 b2 c0 c1 c2' x0 x1 x2 y0 y1 y2 hb hm10
  go_wp2_with fail
  go_ret
  exact ⟨rfl, Hm10.out⟩
end Go.Proofs.Ytejnhdenehkpmaa

/- ModlEdges: the walk. -/
namespace Go.Proofs.Ytejnhdenehkpmaa
open Go.RowKit

/-- A model's struct is written anew. -/
theorem lay_over1 {w3 : World} {g2 : Nat} {a0 b0 c0 : Value} (hb : Blk w3 g2 31 #[a0, b0, c0]) (a b c : Value) : ∃ W3, W3 = ((w3.setCell ⟨g2, 0, none⟩ a).setCell ⟨g2, 1, none⟩ b).setCell ⟨g2, 2, none⟩ c ∧
    Blk W3 g2 31 #[a, b, c] ∧ Mod (fun j => j = g2) w3 W3 ∧ ∀ {B : Nat} {v v2 : Value} {m : ModN}, HavM B w3 v v2 m → HavM B W3 v v2 m := by
  have m1 := Mod.three_one w3 g2 a b c
  exact ⟨_, rfl, (hb.three a b c).2.2.2, m1, fun h => h.far m1 (Far.one hb (by decide) (by decide) (by decide))⟩
theorem Mod.own {w w1 w2 : World} {g : Nat} (h : Mod (fun _ => False) w w1) (hm : Mod (fun j => j = g) w1 w2) (hg : w.heap.size ≤ g) : Mod (fun _ => False) w w2 :=
  h.trans hm (fun i hi e => by omega)
end Go.Proofs.Ytejnhdenehkpmaa

/- Scripts of ops: what Do comes to, told step by step; a model whose memory is young. -/
namespace Go.Proofs.Ytejnhdenehkpmaa
open Go.RowKit

theorem HavM.low {B : Nat} {w w' : World} {v v2 : Value} {m : ModN} {S : Nat → Prop} (h : HavM B w v v2 m) (hm : Mod S w w') (hS : ∀ k, B ≤ k → ¬ S k) : HavM B w' v v2 m := by
  obtain ⟨ps, qs, h1, h2, h3, h4⟩ := h
  exact ⟨ps, qs, h1, h2, ⟨h3.1.modS hm (fun k hk => hS k (h3.1.block k hk).1), fun p hp => (h3.2 p hp).mod hm (fun k _ hB _ => hS k hB)⟩, ⟨h4.1.modS hm (fun k hk => hS k (h4.1.block k hk).1), fun p hp => (h4.2 p hp).mod hm (fun k _ hB _ => hS k hB)⟩⟩
theorem did_facts {m m' : ModN} {o : OpN} {k : Nat} {x y : Int} {l : List (Int × Nat)} (hK : KeepM m) (hL : LenM m k) (ht : Fits o.t) (hv : o.v < 2 ^ 64) (hd : doN m o = (m', ⟨x, y, l⟩)) :
    KeepM m' ∧ LenM m' (k + 1) ∧ m.next ≤ m'.next ∧ m'.next ≤ m.next + 1 ∧ l.length ≤ k ∧ GoodS l := by
  have h1 := doN_keep hK o
  obtain ⟨h2, h3, h4⟩ := doN_len hL ht hv
  have h5 := @doN_next m o
  rw [hd] at h1 h2 h3 h4 h5
  exact ⟨h1, h2, h5.1, h5.2, h3, h4⟩
theorem mdo_did {B : Nat} (A : Option Addr) (n c : Nat) (A2 : Option Addr) (n2 c2 : Nat) (m : ModN) (o : OpN) (N : Int) (k : Nat) (W : World) (h : HavM B W (.slice A n c) (.slice A2 n2 c2) m) (hK : KeepM m) (hL : LenM m k) (hk : k ≤ 1000) (hx : m.next ≤ 1000) (hN : m.next = N)
    {m' : ModN} {N' x y : Int} {l : List (Int × Nat)} (hd : doN m o = (m', ⟨x, y, l⟩)) (hN' : m'.next = N') :
    Calls Try.prog 8 #[.agg #[.slice A n c, .slice A2 n2 c2, .int .i64 N], .agg #[.int .i64 o.kind, .int .i64 o.series, .int .i64 o.iter, .int .i64 o.t, .int .u64 (o.v : Int), .int .i64 o.from_, .int .i64 o.to_, .int .i64 o.n]] W fun e w' => DidM W w' m' N' x y l e := by
  subst hN
  exact (mdo_any A n c A2 n2 c2 m o W h.rdm hK (hL.more (by omega)) (by omega)).mono (fun e w' h => h.did hd hN')
/-- What a script has come to: a model in a struct at g. -/
def ScrTo (w wr : World) (g i : Nat) : Prop := ∃ (M : ModN) (N : Int) (A : Option Addr) (n c : Nat) (A2 : Option Addr) (n2 c2 : Nat), Blk wr g 31 #[.slice A n c, .slice A2 n2 c2, .int .i64 N] ∧ HavM 0 wr (.slice A n c) (.slice A2 n2 c2) M ∧ KeepM M ∧ LenM M i ∧ M.next = N ∧ N ≤ (i : Int) ∧ Mod (fun _ => False) w wr
end Go.Proofs.Ytejnhdenehkpmaa

/- Op: an op of a number. -/
namespace Go.Proofs.Ytejnhdenehkpmaa
open Go.RowKit

theorem lay_eight {w3 : World} {g2 : Nat} {a0 a1 a2 a3 a4 a5 a6 a7 : Value} (hb : Blk w3 g2 24 #[a0, a1, a2, a3, a4, a5, a6, a7]) (b0 b1 b2 b3 b4 b5 b6 b7 : Value) :
    ∃ W3, W3 = (((((((w3.setCell ⟨g2, 0, none⟩ b0).setCell ⟨g2, 1, none⟩ b1).setCell ⟨g2, 2, none⟩ b2).setCell ⟨g2, 3, none⟩ b3).setCell ⟨g2, 4, none⟩ b4).setCell ⟨g2, 5, none⟩ b5).setCell ⟨g2, 6, none⟩ b6).setCell ⟨g2, 7, none⟩ b7 ∧ Blk W3 g2 24 #[b0, b1, b2, b3, b4, b5, b6, b7] ∧ Mod (fun j => j = g2) w3 W3 := by
  have h := (((((((hb.set_ 0 b0).set_ 1 b1).set_ 2 b2).set_ 3 b3).set_ 4 b4).set_ 5 b5).set_ 6 b6).set_ 7 b7
  refine ⟨_, rfl, by simpa using h, ?_⟩
  exact ((((((((Mod.refl (fun j => j = g2) w3).setCell (p := ⟨g2, 0, none⟩) (fun _ => rfl) b0).setCell (p := ⟨g2, 1, none⟩) (fun _ => rfl) b1).setCell (p := ⟨g2, 2, none⟩) (fun _ => rfl) b2).setCell (p := ⟨g2, 3, none⟩) (fun _ => rfl) b3).setCell (p := ⟨g2, 4, none⟩) (fun _ => rfl) b4).setCell (p := ⟨g2, 5, none⟩) (fun _ => rfl) b5).setCell (p := ⟨g2, 6, none⟩) (fun _ => rfl) b6).setCell (p := ⟨g2, 7, none⟩) (fun _ => rfl) b7
set_option maxHeartbeats 2000000 in
set_option maxRecDepth 100000 in
theorem op_any (n at_ : Int) (hn : Fits n) (ha : 0 ≤ at_ ∧ at_ ≤ 1000) (w : World) :
    Calls Try.prog 12 #[.int .i64 n, .int .i64 at_] w fun e w' => e = .returned (.agg #[.int .i64 (opN n at_).kind, .int .i64 (opN n at_).series, .int .i64 (opN n at_).iter, .int .i64 (opN n at_).t, .int .u64 ((opN n at_).v : Int), .int .i64 (opN n at_).from_, .int .i64 (opN n at_).to_, .int .i64 (opN n at_).n]) ∧ Mod (fun _ => False) w w' := by
  have h63 : (H63 : Int) = 9223372036854775808 := rfl
  have hn' : -9223372036854775808 ≤ n ∧ n < 9223372036854775808 := by unfold Fits at hn; omega
  obtain ⟨o, ho⟩ : ∃ o, opN n at_ = o := ⟨_, rfl⟩
  rw [ho]
  unfold opN at ho
  simp only at ho
  have m1 : bits .and .i64 (n / 64) 3 = n / 64 % 4 := i64_and3 _
  have m2 : bits .and .i64 (n / 256) 7 = n / 256 % 8 := i64_and7 _
  have m3 : bits .and .i64 (n / 2048) 3 = n / 2048 % 4 := i64_and3 _
  have m4 : bits .and .i64 (n / 8192) 255 = n / 8192 % 256 := i64_and255 _
  have m5 : bits .and .i64 (n / 8192) 63 = n / 8192 % 64 := i64_and63 _
  have m6 : bits .and .i64 (n / 524288) 15 = n / 524288 % 16 := i64_mask _ 15 4 rfl (by omega)
  have m7 : bits .and .i64 (n / 8388608) 15 = n / 8388608 % 16 := i64_mask _ 15 4 rfl (by omega)
  have m8 : bits .and .i64 n 63 = n % 64 := i64_and63 _
  have m9 : bits .and .i64 (n / 2097152) 7 = n / 2097152 % 8 := i64_and7 _
  have m10 : bits .and .i64 (n / 8388608) 3 = n / 8388608 % 4 := i64_and3 _
  have m11 : bits .and .i64 (n / 64) 15 = n / 64 % 16 := i64_mask _ 15 4 rfl (by omega)
  have m12 : bits .and .i64 (n / 1024) 31 = n / 1024 % 32 := i64_mask _ 31 5 rfl (by omega)
  have w1 : wrap64 (at_ + n / 2048 % 4) = at_ + n / 2048 % 4 := IntWalk.wrap64_in _ (by omega)
  have w2 : wrap64 (at_ - n / 8192 % 64) = at_ - n / 8192 % 64 := IntWalk.wrap64_in _ (by omega)
  have w3 : wrap64 (at_ + n / 524288 % 16) = at_ + n / 524288 % 16 := IntWalk.wrap64_in _ (by omega)
  have w4 : wrap64 (at_ + n / 524288 % 16 - 4) = at_ + n / 524288 % 16 - 4 := IntWalk.wrap64_in _ (by omega)
  have w5 : wrap64 (n / 1024 % 32 - 5) = n / 1024 % 32 - 5 := IntWalk.wrap64_in _ (by omega)
  obtain ⟨V, hV⟩ : ∃ V : Nat, (n / 8192 % 256).toNat = V := ⟨_, rfl⟩
  have u1 : IntKind.u64.wrap (n / 8192 % 256) = (V : Int) := by rw [← hV, Int.toNat_of_nonneg (by omega)]; show (n / 8192 % 256) % 18446744073709551616 = _; omega
  obtain ⟨Q, hQ⟩ : ∃ Q : Nat, (n % 18446744073709551616 * 11400714819323198485 % 18446744073709551616).toNat = Q := ⟨_, rfl⟩
  have u2 : IntKind.u64.wrap n = n % 18446744073709551616 := rfl
  have u3 : IntKind.u64.wrap (n % 18446744073709551616 * 11400714819323198485) = (Q : Int) := by rw [← hQ, Int.toNat_of_nonneg (by omega)]; rfl
  rw [hV, hQ] at ho
  obtain ⟨S, hS⟩ : ∃ S, n / 64 % 4 = S := ⟨_, rfl⟩
  obtain ⟨I, hI⟩ : ∃ I, n / 256 % 8 = I := ⟨_, rfl⟩
  obtain ⟨T, hT⟩ : ∃ T, at_ + n / 2048 % 4 = T := ⟨_, rfl⟩
  obtain ⟨F, hF⟩ : ∃ F, at_ - n / 8192 % 64 = F := ⟨_, rfl⟩
  obtain ⟨To, hTo⟩ : ∃ To, at_ + n / 524288 % 16 - 4 = To := ⟨_, rfl⟩
  obtain ⟨N, hN⟩ : ∃ N, n / 8388608 % 16 = N := ⟨_, rfl⟩
  obtain ⟨k, hk⟩ : ∃ k, n % 64 = k := ⟨_, rfl⟩
  obtain ⟨a7, ha7⟩ : ∃ a7, n / 2097152 % 8 = a7 := ⟨_, rfl⟩
  obtain ⟨a3, ha3⟩ : ∃ a3, n / 8388608 % 4 = a3 := ⟨_, rfl⟩
  obtain ⟨a15, ha15⟩ : ∃ a15, n / 64 % 16 = a15 := ⟨_, rfl⟩
  obtain ⟨a31, ha31⟩ : ∃ a31, n / 1024 % 32 - 5 = a31 := ⟨_, rfl⟩
  rw [hS, hI, hT, hF, hTo, hN, hk, ha7, ha3, ha15, ha31] at ho
  replace w1 := w1.trans hT
  replace w2 := w2.trans hF
  replace w4 := w4.trans hTo
  have w5b : wrap64 a31 = a31 := by rw [← ha31]; exact w5
  replace w5 := w5.trans ha31
  replace m1 := m1.trans hS
  replace m2 := m2.trans hI
  replace m7 := m7.trans hN
  replace m8 := m8.trans hk
  replace m9 := m9.trans ha7
  replace m10 := m10.trans ha3
  replace m11 := m11.trans ha15
  obtain ⟨W, hW⟩ : ∃ W, W = (w.alloc (.cells #[.int .i64 0, .int .i64 0, .int .i64 0, .int .i64 0, .int .u64 0, .int .i64 0, .int .i64 0, .int .i64 0] 24)).alloc (.cells #[.int .i64 0, .int .i64 S, .int .i64 I, .int .i64 T, .int .u64 (V : Int), .int .i64 F, .int .i64 To, .int .i64 N] 24) := ⟨_, rfl⟩
  obtain ⟨G0, hG0⟩ : ∃ g, g = w.heap.size := ⟨_, rfl⟩
  obtain ⟨G, hG⟩ : ∃ g, g = w.heap.size + 1 := ⟨_, rfl⟩
  have hmW : Mod (fun _ => False) w W := by rw [hW]; exact ((Mod.refl _ _).alloc _).alloc _
  have hb0 : Blk W G0 24 #[.int .i64 0, .int .i64 0, .int .i64 0, .int .i64 0, .int .u64 0, .int .i64 0, .int .i64 0, .int .i64 0] := by rw [hW, hG0]; exact (Blk.new _ _ _).alloc _
  have hb1 : Blk W G 24 #[.int .i64 0, .int .i64 S, .int .i64 I, .int .i64 T, .int .u64 (V : Int), .int .i64 F, .int .i64 To, .int .i64 N] := by
    rw [hW, hG]
    have h := Blk.new (w.alloc (.cells #[.int .i64 0, .int .i64 0, .int .i64 0, .int .i64 0, .int .u64 0, .int .i64 0, .int .i64 0, .int .i64 0] 24)) 24 #[.int .i64 0, .int .i64 S, .int .i64 I, .int .i64 T, .int .u64 (V : Int), .int .i64 F, .int .i64 To, .int .i64 N]
    simpa using h
  have hne : ¬ G0 = G := by omega
  have HW := Lib.hid hW; have HG0 := Lib.hid hG0; have HG := Lib.hid hG; have HmW := Lib.hid hmW; have Hb0 := Lib.hid hb0; have Hb1 := Lib.hid hb1
  clear hW hG0 hG hmW hb0 hb1 hn hn' ha h63 hV hQ hS hI hT hF hTo hN hk ha7 ha3 ha15
  go_enter Try.func12, Try.ntmps12
  go_upto_region 2 with fail
  rw [← HW.out, ← HG.out, ← HG0.out]
  have x0 := Hb0.out.cell 0
  have t0 := Hb1.out.cell 0
  have t1 := Hb1.out.cell 1
  have t2 := Hb1.out.cell 2
  have t3 := Hb1.out.cell 3
  have t4 := Hb1.out.cell 4
  have t5 := Hb1.out.cell 5
  have t6 := Hb1.out.cell 6
  have t7 := Hb1.out.cell 7
  have f0 := Hb1.out.frozen 0
  have f1 := Hb1.out.frozen 1
  have f4 := Hb1.out.frozen 4
  have y0 := Hb0.out.cell 0
  have y1 := Hb0.out.cell 1
  have y2 := Hb0.out.cell 2
  have y3 := Hb0.out.cell 3
  have y4 := Hb0.out.cell 4
  have y5 := Hb0.out.cell 5
  have y6 := Hb0.out.cell 6
  have y7 := Hb0.out.cell 7
  have p0 := Hb0.out.frozen 0
  have p1 := Hb0.out.frozen 1
  have p2 := Hb0.out.frozen 2
  have p3 := Hb0.out.frozen 3
  have p4 := Hb0.out.frozen 4
  have p5 := Hb0.out.frozen 5
  have p6 := Hb0.out.frozen 6
  have p7 := Hb0.out.frozen 7
  simp at x0 t0 t1 t2 t3 t4 t5 t6 t7 y0 y1 y2 y3 y4 y5 y6 y7
  have hne2 : ¬ G = G0 := fun h => hne h.symm
  by_cases k1 : k < 34
  · rw [if_pos k1] at ho
    by_cases k2 : a7 = 0
    · rw [if_pos k2] at ho
      subst ho
      have k3 : (a7 == 0) = true := by simp [k2]
      clear k2
      go_upto_region 25 with fail
      obtain ⟨W2, hW2⟩ : ∃ W2, W2 = (W.setCell ⟨G, 0, none⟩ (.int .i64 1)).setCell ⟨G, 4, none⟩ (.int .u64 (Q : Int)) := ⟨_, rfl⟩
      have hb2 : Blk W2 G 24 #[.int .i64 1, .int .i64 S, .int .i64 I, .int .i64 T, .int .u64 (Q : Int), .int .i64 F, .int .i64 To, .int .i64 N] := by rw [hW2]; have h := ((Hb1.out).set_ 0 (.int .i64 1)).set_ 4 (.int .u64 (Q : Int)); simpa using h
      have hm2 : Mod (fun j => j = G) W W2 := by rw [hW2]; exact ((Mod.refl (fun j => j = G) W).setCell (p := ⟨G, 0, none⟩) (fun _ => rfl) (.int .i64 1)).setCell (p := ⟨G, 4, none⟩) (fun _ => rfl) (.int .u64 (Q : Int))
      have hb02 := hm2.blk Hb0.out hne
      obtain ⟨W3, hW3, hb3, hm3⟩ := lay_eight hb02 (.int .i64 1) (.int .i64 S) (.int .i64 I) (.int .i64 T) (.int .u64 (Q : Int)) (.int .i64 F) (.int .i64 To) (.int .i64 N)
      rw [← hW2]
      have t0 := hb2.cell 0
      have y0 := hb02.cell 0
      have p0 := hb02.frozen 0
      have t1 := hb2.cell 1
      have y1 := hb02.cell 1
      have p1 := hb02.frozen 1
      have t2 := hb2.cell 2
      have y2 := hb02.cell 2
      have p2 := hb02.frozen 2
      have t3 := hb2.cell 3
      have y3 := hb02.cell 3
      have p3 := hb02.frozen 3
      have t4 := hb2.cell 4
      have y4 := hb02.cell 4
      have p4 := hb02.frozen 4
      have t5 := hb2.cell 5
      have y5 := hb02.cell 5
      have p5 := hb02.frozen 5
      have t6 := hb2.cell 6
      have y6 := hb02.cell 6
      have p6 := hb02.frozen 6
      have t7 := hb2.cell 7
      have y7 := hb02.cell 7
      have p7 := hb02.frozen 7
      simp at t0 y0 t1 y1 t2 y2 t3 y3 t4 y4 t5 y5 t6 y6 t7 y7
      have HW3 := Lib.hid hW3; have Hb3 := Lib.hid hb3; have Hm : Hid (Mod (fun _ => False) w W3) := Lib.hid ((HmW.out.own hm2 (by have := HG.out; omega)).own hm3 (by have := HG0.out; omega))
      clear hW2 hb2 hm2 hb02 hW3 hb3 hm3
      go_wp2_with fail
      rw [← HW3.out]
      have a0_ := Hb3.out.cell 0
      have a1_ := Hb3.out.cell 1
      have a2_ := Hb3.out.cell 2
      have a3_ := Hb3.out.cell 3
      have a4_ := Hb3.out.cell 4
      have a5_ := Hb3.out.cell 5
      have a6_ := Hb3.out.cell 6
      have a7_ := Hb3.out.cell 7
      simp at a0_ a1_ a2_ a3_ a4_ a5_ a6_ a7_
      refine bodyPost_ret (v := .agg #[.int .i64 1, .int .i64 S, .int .i64 I, .int .i64 T, .int .u64 (Q : Int), .int .i64 F, .int .i64 To, .int .i64 N]) (by simp [results, Try.results12, go_sem, a0_, a1_, a2_, a3_, a4_, a5_, a6_, a7_]) rfl ?_
      exact ⟨rfl, Hm.out⟩
    · rw [if_neg k2] at ho
      subst ho
      have k3 : (a7 == 0) = false := by simp [k2]
      clear k2
      go_upto_region 25 with fail
      obtain ⟨W2, hW2⟩ : ∃ W2, W2 = W.setCell ⟨G, 0, none⟩ (.int .i64 1) := ⟨_, rfl⟩
      have hb2 : Blk W2 G 24 #[.int .i64 1, .int .i64 S, .int .i64 I, .int .i64 T, .int .u64 (V : Int), .int .i64 F, .int .i64 To, .int .i64 N] := by rw [hW2]; have h := (Hb1.out).set_ 0 (.int .i64 1); simpa using h
      have hm2 : Mod (fun j => j = G) W W2 := by rw [hW2]; exact (Mod.refl (fun j => j = G) W).setCell (p := ⟨G, 0, none⟩) (fun _ => rfl) (.int .i64 1)
      have hb02 := hm2.blk Hb0.out hne
      obtain ⟨W3, hW3, hb3, hm3⟩ := lay_eight hb02 (.int .i64 1) (.int .i64 S) (.int .i64 I) (.int .i64 T) (.int .u64 (V : Int)) (.int .i64 F) (.int .i64 To) (.int .i64 N)
      rw [← hW2]
      have t0 := hb2.cell 0
      have y0 := hb02.cell 0
      have p0 := hb02.frozen 0
      have t1 := hb2.cell 1
      have y1 := hb02.cell 1
      have p1 := hb02.frozen 1
      have t2 := hb2.cell 2
      have y2 := hb02.cell 2
      have p2 := hb02.frozen 2
      have t3 := hb2.cell 3
      have y3 := hb02.cell 3
      have p3 := hb02.frozen 3
      have t4 := hb2.cell 4
      have y4 := hb02.cell 4
      have p4 := hb02.frozen 4
      have t5 := hb2.cell 5
      have y5 := hb02.cell 5
      have p5 := hb02.frozen 5
      have t6 := hb2.cell 6
      have y6 := hb02.cell 6
      have p6 := hb02.frozen 6
      have t7 := hb2.cell 7
      have y7 := hb02.cell 7
      have p7 := hb02.frozen 7
      simp at t0 y0 t1 y1 t2 y2 t3 y3 t4 y4 t5 y5 t6 y6 t7 y7
      have HW3 := Lib.hid hW3; have Hb3 := Lib.hid hb3; have Hm : Hid (Mod (fun _ => False) w W3) := Lib.hid ((HmW.out.own hm2 (by have := HG.out; omega)).own hm3 (by have := HG0.out; omega))
      clear hW2 hb2 hm2 hb02 hW3 hb3 hm3
      go_wp2_with fail
      rw [← HW3.out]
      have a0_ := Hb3.out.cell 0
      have a1_ := Hb3.out.cell 1
      have a2_ := Hb3.out.cell 2
      have a3_ := Hb3.out.cell 3
      have a4_ := Hb3.out.cell 4
      have a5_ := Hb3.out.cell 5
      have a6_ := Hb3.out.cell 6
      have a7_ := Hb3.out.cell 7
      simp at a0_ a1_ a2_ a3_ a4_ a5_ a6_ a7_
      refine bodyPost_ret (v := .agg #[.int .i64 1, .int .i64 S, .int .i64 I, .int .i64 T, .int .u64 (V : Int), .int .i64 F, .int .i64 To, .int .i64 N]) (by simp [results, Try.results12, go_sem, a0_, a1_, a2_, a3_, a4_, a5_, a6_, a7_]) rfl ?_
      exact ⟨rfl, Hm.out⟩
  rw [if_neg k1] at ho
  by_cases k2 : k < 44
  · rw [if_pos k2] at ho
    subst ho
    go_upto_region 25 with fail
    obtain ⟨W2, hW2⟩ : ∃ W2, W2 = W.setCell ⟨G, 0, none⟩ (.int .i64 2) := ⟨_, rfl⟩
    have hb2 : Blk W2 G 24 #[.int .i64 2, .int .i64 S, .int .i64 I, .int .i64 T, .int .u64 (V : Int), .int .i64 F, .int .i64 To, .int .i64 N] := by rw [hW2]; have h := (Hb1.out).set_ 0 (.int .i64 2); simpa using h
    have hm2 : Mod (fun j => j = G) W W2 := by rw [hW2]; exact (Mod.refl (fun j => j = G) W).setCell (p := ⟨G, 0, none⟩) (fun _ => rfl) (.int .i64 2)
    have hb02 := hm2.blk Hb0.out hne
    obtain ⟨W3, hW3, hb3, hm3⟩ := lay_eight hb02 (.int .i64 2) (.int .i64 S) (.int .i64 I) (.int .i64 T) (.int .u64 (V : Int)) (.int .i64 F) (.int .i64 To) (.int .i64 N)
    rw [← hW2]
    have t0 := hb2.cell 0
    have y0 := hb02.cell 0
    have p0 := hb02.frozen 0
    have t1 := hb2.cell 1
    have y1 := hb02.cell 1
    have p1 := hb02.frozen 1
    have t2 := hb2.cell 2
    have y2 := hb02.cell 2
    have p2 := hb02.frozen 2
    have t3 := hb2.cell 3
    have y3 := hb02.cell 3
    have p3 := hb02.frozen 3
    have t4 := hb2.cell 4
    have y4 := hb02.cell 4
    have p4 := hb02.frozen 4
    have t5 := hb2.cell 5
    have y5 := hb02.cell 5
    have p5 := hb02.frozen 5
    have t6 := hb2.cell 6
    have y6 := hb02.cell 6
    have p6 := hb02.frozen 6
    have t7 := hb2.cell 7
    have y7 := hb02.cell 7
    have p7 := hb02.frozen 7
    simp at t0 y0 t1 y1 t2 y2 t3 y3 t4 y4 t5 y5 t6 y6 t7 y7
    have HW3 := Lib.hid hW3; have Hb3 := Lib.hid hb3; have Hm : Hid (Mod (fun _ => False) w W3) := Lib.hid ((HmW.out.own hm2 (by have := HG.out; omega)).own hm3 (by have := HG0.out; omega))
    clear hW2 hb2 hm2 hb02 hW3 hb3 hm3
    go_wp2_with fail
    rw [← HW3.out]
    have a0_ := Hb3.out.cell 0
    have a1_ := Hb3.out.cell 1
    have a2_ := Hb3.out.cell 2
    have a3_ := Hb3.out.cell 3
    have a4_ := Hb3.out.cell 4
    have a5_ := Hb3.out.cell 5
    have a6_ := Hb3.out.cell 6
    have a7_ := Hb3.out.cell 7
    simp at a0_ a1_ a2_ a3_ a4_ a5_ a6_ a7_
    refine bodyPost_ret (v := .agg #[.int .i64 2, .int .i64 S, .int .i64 I, .int .i64 T, .int .u64 (V : Int), .int .i64 F, .int .i64 To, .int .i64 N]) (by simp [results, Try.results12, go_sem, a0_, a1_, a2_, a3_, a4_, a5_, a6_, a7_]) rfl ?_
    exact ⟨rfl, Hm.out⟩
  rw [if_neg k2] at ho
  by_cases k3 : k < 46
  · rw [if_pos k3] at ho
    by_cases k9 : 0 < a3
    · rw [if_pos k9] at ho
      subst ho
      go_upto_region 25 with fail
      obtain ⟨W2, hW2⟩ : ∃ W2, W2 = (W.setCell ⟨G, 0, none⟩ (.int .i64 3)).setCell ⟨G, 0, none⟩ (.int .i64 2) := ⟨_, rfl⟩
      have hb2 : Blk W2 G 24 #[.int .i64 2, .int .i64 S, .int .i64 I, .int .i64 T, .int .u64 (V : Int), .int .i64 F, .int .i64 To, .int .i64 N] := by rw [hW2]; have h := ((Hb1.out).set_ 0 (.int .i64 3)).set_ 0 (.int .i64 2); simpa using h
      have hm2 : Mod (fun j => j = G) W W2 := by rw [hW2]; exact ((Mod.refl (fun j => j = G) W).setCell (p := ⟨G, 0, none⟩) (fun _ => rfl) (.int .i64 3)).setCell (p := ⟨G, 0, none⟩) (fun _ => rfl) (.int .i64 2)
      have hb02 := hm2.blk Hb0.out hne
      obtain ⟨W3, hW3, hb3, hm3⟩ := lay_eight hb02 (.int .i64 2) (.int .i64 S) (.int .i64 I) (.int .i64 T) (.int .u64 (V : Int)) (.int .i64 F) (.int .i64 To) (.int .i64 N)
      rw [← hW2]
      have t0 := hb2.cell 0
      have y0 := hb02.cell 0
      have p0 := hb02.frozen 0
      have t1 := hb2.cell 1
      have y1 := hb02.cell 1
      have p1 := hb02.frozen 1
      have t2 := hb2.cell 2
      have y2 := hb02.cell 2
      have p2 := hb02.frozen 2
      have t3 := hb2.cell 3
      have y3 := hb02.cell 3
      have p3 := hb02.frozen 3
      have t4 := hb2.cell 4
      have y4 := hb02.cell 4
      have p4 := hb02.frozen 4
      have t5 := hb2.cell 5
      have y5 := hb02.cell 5
      have p5 := hb02.frozen 5
      have t6 := hb2.cell 6
      have y6 := hb02.cell 6
      have p6 := hb02.frozen 6
      have t7 := hb2.cell 7
      have y7 := hb02.cell 7
      have p7 := hb02.frozen 7
      simp at t0 y0 t1 y1 t2 y2 t3 y3 t4 y4 t5 y5 t6 y6 t7 y7
      have HW3 := Lib.hid hW3; have Hb3 := Lib.hid hb3; have Hm : Hid (Mod (fun _ => False) w W3) := Lib.hid ((HmW.out.own hm2 (by have := HG.out; omega)).own hm3 (by have := HG0.out; omega))
      clear hW2 hb2 hm2 hb02 hW3 hb3 hm3
      go_wp2_with fail
      rw [← HW3.out]
      have a0_ := Hb3.out.cell 0
      have a1_ := Hb3.out.cell 1
      have a2_ := Hb3.out.cell 2
      have a3_ := Hb3.out.cell 3
      have a4_ := Hb3.out.cell 4
      have a5_ := Hb3.out.cell 5
      have a6_ := Hb3.out.cell 6
      have a7_ := Hb3.out.cell 7
      simp at a0_ a1_ a2_ a3_ a4_ a5_ a6_ a7_
      refine bodyPost_ret (v := .agg #[.int .i64 2, .int .i64 S, .int .i64 I, .int .i64 T, .int .u64 (V : Int), .int .i64 F, .int .i64 To, .int .i64 N]) (by simp [results, Try.results12, go_sem, a0_, a1_, a2_, a3_, a4_, a5_, a6_, a7_]) rfl ?_
      exact ⟨rfl, Hm.out⟩
    · rw [if_neg k9] at ho
      subst ho
      go_upto_region 25 with fail
      obtain ⟨W2, hW2⟩ : ∃ W2, W2 = W.setCell ⟨G, 0, none⟩ (.int .i64 3) := ⟨_, rfl⟩
      have hb2 : Blk W2 G 24 #[.int .i64 3, .int .i64 S, .int .i64 I, .int .i64 T, .int .u64 (V : Int), .int .i64 F, .int .i64 To, .int .i64 N] := by rw [hW2]; have h := (Hb1.out).set_ 0 (.int .i64 3); simpa using h
      have hm2 : Mod (fun j => j = G) W W2 := by rw [hW2]; exact (Mod.refl (fun j => j = G) W).setCell (p := ⟨G, 0, none⟩) (fun _ => rfl) (.int .i64 3)
      have hb02 := hm2.blk Hb0.out hne
      obtain ⟨W3, hW3, hb3, hm3⟩ := lay_eight hb02 (.int .i64 3) (.int .i64 S) (.int .i64 I) (.int .i64 T) (.int .u64 (V : Int)) (.int .i64 F) (.int .i64 To) (.int .i64 N)
      rw [← hW2]
      have t0 := hb2.cell 0
      have y0 := hb02.cell 0
      have p0 := hb02.frozen 0
      have t1 := hb2.cell 1
      have y1 := hb02.cell 1
      have p1 := hb02.frozen 1
      have t2 := hb2.cell 2
      have y2 := hb02.cell 2
      have p2 := hb02.frozen 2
      have t3 := hb2.cell 3
      have y3 := hb02.cell 3
      have p3 := hb02.frozen 3
      have t4 := hb2.cell 4
      have y4 := hb02.cell 4
      have p4 := hb02.frozen 4
      have t5 := hb2.cell 5
      have y5 := hb02.cell 5
      have p5 := hb02.frozen 5
      have t6 := hb2.cell 6
      have y6 := hb02.cell 6
      have p6 := hb02.frozen 6
      have t7 := hb2.cell 7
      have y7 := hb02.cell 7
      have p7 := hb02.frozen 7
      simp at t0 y0 t1 y1 t2 y2 t3 y3 t4 y4 t5 y5 t6 y6 t7 y7
      have HW3 := Lib.hid hW3; have Hb3 := Lib.hid hb3; have Hm : Hid (Mod (fun _ => False) w W3) := Lib.hid ((HmW.out.own hm2 (by have := HG.out; omega)).own hm3 (by have := HG0.out; omega))
      clear hW2 hb2 hm2 hb02 hW3 hb3 hm3
      go_wp2_with fail
      rw [← HW3.out]
      have a0_ := Hb3.out.cell 0
      have a1_ := Hb3.out.cell 1
      have a2_ := Hb3.out.cell 2
      have a3_ := Hb3.out.cell 3
      have a4_ := Hb3.out.cell 4
      have a5_ := Hb3.out.cell 5
      have a6_ := Hb3.out.cell 6
      have a7_ := Hb3.out.cell 7
      simp at a0_ a1_ a2_ a3_ a4_ a5_ a6_ a7_
      refine bodyPost_ret (v := .agg #[.int .i64 3, .int .i64 S, .int .i64 I, .int .i64 T, .int .u64 (V : Int), .int .i64 F, .int .i64 To, .int .i64 N]) (by simp [results, Try.results12, go_sem, a0_, a1_, a2_, a3_, a4_, a5_, a6_, a7_]) rfl ?_
      exact ⟨rfl, Hm.out⟩
  rw [if_neg k3] at ho
  by_cases k4 : k < 48
  · rw [if_pos k4] at ho
    by_cases k9 : 0 < a3
    · rw [if_pos k9] at ho
      subst ho
      go_upto_region 25 with fail
      obtain ⟨W2, hW2⟩ : ∃ W2, W2 = (W.setCell ⟨G, 0, none⟩ (.int .i64 4)).setCell ⟨G, 0, none⟩ (.int .i64 1) := ⟨_, rfl⟩
      have hb2 : Blk W2 G 24 #[.int .i64 1, .int .i64 S, .int .i64 I, .int .i64 T, .int .u64 (V : Int), .int .i64 F, .int .i64 To, .int .i64 N] := by rw [hW2]; have h := ((Hb1.out).set_ 0 (.int .i64 4)).set_ 0 (.int .i64 1); simpa using h
      have hm2 : Mod (fun j => j = G) W W2 := by rw [hW2]; exact ((Mod.refl (fun j => j = G) W).setCell (p := ⟨G, 0, none⟩) (fun _ => rfl) (.int .i64 4)).setCell (p := ⟨G, 0, none⟩) (fun _ => rfl) (.int .i64 1)
      have hb02 := hm2.blk Hb0.out hne
      obtain ⟨W3, hW3, hb3, hm3⟩ := lay_eight hb02 (.int .i64 1) (.int .i64 S) (.int .i64 I) (.int .i64 T) (.int .u64 (V : Int)) (.int .i64 F) (.int .i64 To) (.int .i64 N)
      rw [← hW2]
      have t0 := hb2.cell 0
      have y0 := hb02.cell 0
      have p0 := hb02.frozen 0
      have t1 := hb2.cell 1
      have y1 := hb02.cell 1
      have p1 := hb02.frozen 1
      have t2 := hb2.cell 2
      have y2 := hb02.cell 2
      have p2 := hb02.frozen 2
      have t3 := hb2.cell 3
      have y3 := hb02.cell 3
      have p3 := hb02.frozen 3
      have t4 := hb2.cell 4
      have y4 := hb02.cell 4
      have p4 := hb02.frozen 4
      have t5 := hb2.cell 5
      have y5 := hb02.cell 5
      have p5 := hb02.frozen 5
      have t6 := hb2.cell 6
      have y6 := hb02.cell 6
      have p6 := hb02.frozen 6
      have t7 := hb2.cell 7
      have y7 := hb02.cell 7
      have p7 := hb02.frozen 7
      simp at t0 y0 t1 y1 t2 y2 t3 y3 t4 y4 t5 y5 t6 y6 t7 y7
      have HW3 := Lib.hid hW3; have Hb3 := Lib.hid hb3; have Hm : Hid (Mod (fun _ => False) w W3) := Lib.hid ((HmW.out.own hm2 (by have := HG.out; omega)).own hm3 (by have := HG0.out; omega))
      clear hW2 hb2 hm2 hb02 hW3 hb3 hm3
      go_wp2_with fail
      rw [← HW3.out]
      have a0_ := Hb3.out.cell 0
      have a1_ := Hb3.out.cell 1
      have a2_ := Hb3.out.cell 2
      have a3_ := Hb3.out.cell 3
      have a4_ := Hb3.out.cell 4
      have a5_ := Hb3.out.cell 5
      have a6_ := Hb3.out.cell 6
      have a7_ := Hb3.out.cell 7
      simp at a0_ a1_ a2_ a3_ a4_ a5_ a6_ a7_
      refine bodyPost_ret (v := .agg #[.int .i64 1, .int .i64 S, .int .i64 I, .int .i64 T, .int .u64 (V : Int), .int .i64 F, .int .i64 To, .int .i64 N]) (by simp [results, Try.results12, go_sem, a0_, a1_, a2_, a3_, a4_, a5_, a6_, a7_]) rfl ?_
      exact ⟨rfl, Hm.out⟩
    · rw [if_neg k9] at ho
      subst ho
      go_upto_region 25 with fail
      obtain ⟨W2, hW2⟩ : ∃ W2, W2 = W.setCell ⟨G, 0, none⟩ (.int .i64 4) := ⟨_, rfl⟩
      have hb2 : Blk W2 G 24 #[.int .i64 4, .int .i64 S, .int .i64 I, .int .i64 T, .int .u64 (V : Int), .int .i64 F, .int .i64 To, .int .i64 N] := by rw [hW2]; have h := (Hb1.out).set_ 0 (.int .i64 4); simpa using h
      have hm2 : Mod (fun j => j = G) W W2 := by rw [hW2]; exact (Mod.refl (fun j => j = G) W).setCell (p := ⟨G, 0, none⟩) (fun _ => rfl) (.int .i64 4)
      have hb02 := hm2.blk Hb0.out hne
      obtain ⟨W3, hW3, hb3, hm3⟩ := lay_eight hb02 (.int .i64 4) (.int .i64 S) (.int .i64 I) (.int .i64 T) (.int .u64 (V : Int)) (.int .i64 F) (.int .i64 To) (.int .i64 N)
      rw [← hW2]
      have t0 := hb2.cell 0
      have y0 := hb02.cell 0
      have p0 := hb02.frozen 0
      have t1 := hb2.cell 1
      have y1 := hb02.cell 1
      have p1 := hb02.frozen 1
      have t2 := hb2.cell 2
      have y2 := hb02.cell 2
      have p2 := hb02.frozen 2
      have t3 := hb2.cell 3
      have y3 := hb02.cell 3
      have p3 := hb02.frozen 3
      have t4 := hb2.cell 4
      have y4 := hb02.cell 4
      have p4 := hb02.frozen 4
      have t5 := hb2.cell 5
      have y5 := hb02.cell 5
      have p5 := hb02.frozen 5
      have t6 := hb2.cell 6
      have y6 := hb02.cell 6
      have p6 := hb02.frozen 6
      have t7 := hb2.cell 7
      have y7 := hb02.cell 7
      have p7 := hb02.frozen 7
      simp at t0 y0 t1 y1 t2 y2 t3 y3 t4 y4 t5 y5 t6 y6 t7 y7
      have HW3 := Lib.hid hW3; have Hb3 := Lib.hid hb3; have Hm : Hid (Mod (fun _ => False) w W3) := Lib.hid ((HmW.out.own hm2 (by have := HG.out; omega)).own hm3 (by have := HG0.out; omega))
      clear hW2 hb2 hm2 hb02 hW3 hb3 hm3
      go_wp2_with fail
      rw [← HW3.out]
      have a0_ := Hb3.out.cell 0
      have a1_ := Hb3.out.cell 1
      have a2_ := Hb3.out.cell 2
      have a3_ := Hb3.out.cell 3
      have a4_ := Hb3.out.cell 4
      have a5_ := Hb3.out.cell 5
      have a6_ := Hb3.out.cell 6
      have a7_ := Hb3.out.cell 7
      simp at a0_ a1_ a2_ a3_ a4_ a5_ a6_ a7_
      refine bodyPost_ret (v := .agg #[.int .i64 4, .int .i64 S, .int .i64 I, .int .i64 T, .int .u64 (V : Int), .int .i64 F, .int .i64 To, .int .i64 N]) (by simp [results, Try.results12, go_sem, a0_, a1_, a2_, a3_, a4_, a5_, a6_, a7_]) rfl ?_
      exact ⟨rfl, Hm.out⟩
  rw [if_neg k4] at ho
  by_cases k5 : k < 53
  · rw [if_pos k5] at ho
    subst ho
    go_upto_region 25 with fail
    obtain ⟨W2, hW2⟩ : ∃ W2, W2 = W.setCell ⟨G, 0, none⟩ (.int .i64 5) := ⟨_, rfl⟩
    have hb2 : Blk W2 G 24 #[.int .i64 5, .int .i64 S, .int .i64 I, .int .i64 T, .int .u64 (V : Int), .int .i64 F, .int .i64 To, .int .i64 N] := by rw [hW2]; have h := (Hb1.out).set_ 0 (.int .i64 5); simpa using h
    have hm2 : Mod (fun j => j = G) W W2 := by rw [hW2]; exact (Mod.refl (fun j => j = G) W).setCell (p := ⟨G, 0, none⟩) (fun _ => rfl) (.int .i64 5)
    have hb02 := hm2.blk Hb0.out hne
    obtain ⟨W3, hW3, hb3, hm3⟩ := lay_eight hb02 (.int .i64 5) (.int .i64 S) (.int .i64 I) (.int .i64 T) (.int .u64 (V : Int)) (.int .i64 F) (.int .i64 To) (.int .i64 N)
    rw [← hW2]
    have t0 := hb2.cell 0
    have y0 := hb02.cell 0
    have p0 := hb02.frozen 0
    have t1 := hb2.cell 1
    have y1 := hb02.cell 1
    have p1 := hb02.frozen 1
    have t2 := hb2.cell 2
    have y2 := hb02.cell 2
    have p2 := hb02.frozen 2
    have t3 := hb2.cell 3
    have y3 := hb02.cell 3
    have p3 := hb02.frozen 3
    have t4 := hb2.cell 4
    have y4 := hb02.cell 4
    have p4 := hb02.frozen 4
    have t5 := hb2.cell 5
    have y5 := hb02.cell 5
    have p5 := hb02.frozen 5
    have t6 := hb2.cell 6
    have y6 := hb02.cell 6
    have p6 := hb02.frozen 6
    have t7 := hb2.cell 7
    have y7 := hb02.cell 7
    have p7 := hb02.frozen 7
    simp at t0 y0 t1 y1 t2 y2 t3 y3 t4 y4 t5 y5 t6 y6 t7 y7
    have HW3 := Lib.hid hW3; have Hb3 := Lib.hid hb3; have Hm : Hid (Mod (fun _ => False) w W3) := Lib.hid ((HmW.out.own hm2 (by have := HG.out; omega)).own hm3 (by have := HG0.out; omega))
    clear hW2 hb2 hm2 hb02 hW3 hb3 hm3
    go_wp2_with fail
    rw [← HW3.out]
    have a0_ := Hb3.out.cell 0
    have a1_ := Hb3.out.cell 1
    have a2_ := Hb3.out.cell 2
    have a3_ := Hb3.out.cell 3
    have a4_ := Hb3.out.cell 4
    have a5_ := Hb3.out.cell 5
    have a6_ := Hb3.out.cell 6
    have a7_ := Hb3.out.cell 7
    simp at a0_ a1_ a2_ a3_ a4_ a5_ a6_ a7_
    refine bodyPost_ret (v := .agg #[.int .i64 5, .int .i64 S, .int .i64 I, .int .i64 T, .int .u64 (V : Int), .int .i64 F, .int .i64 To, .int .i64 N]) (by simp [results, Try.results12, go_sem, a0_, a1_, a2_, a3_, a4_, a5_, a6_, a7_]) rfl ?_
    exact ⟨rfl, Hm.out⟩
  rw [if_neg k5] at ho
  by_cases k6 : k < 60
  · rw [if_pos k6] at ho
    subst ho
    go_upto_region 25 with fail
    obtain ⟨W2, hW2⟩ : ∃ W2, W2 = W.setCell ⟨G, 0, none⟩ (.int .i64 6) := ⟨_, rfl⟩
    have hb2 : Blk W2 G 24 #[.int .i64 6, .int .i64 S, .int .i64 I, .int .i64 T, .int .u64 (V : Int), .int .i64 F, .int .i64 To, .int .i64 N] := by rw [hW2]; have h := (Hb1.out).set_ 0 (.int .i64 6); simpa using h
    have hm2 : Mod (fun j => j = G) W W2 := by rw [hW2]; exact (Mod.refl (fun j => j = G) W).setCell (p := ⟨G, 0, none⟩) (fun _ => rfl) (.int .i64 6)
    have hb02 := hm2.blk Hb0.out hne
    obtain ⟨W3, hW3, hb3, hm3⟩ := lay_eight hb02 (.int .i64 6) (.int .i64 S) (.int .i64 I) (.int .i64 T) (.int .u64 (V : Int)) (.int .i64 F) (.int .i64 To) (.int .i64 N)
    rw [← hW2]
    have t0 := hb2.cell 0
    have y0 := hb02.cell 0
    have p0 := hb02.frozen 0
    have t1 := hb2.cell 1
    have y1 := hb02.cell 1
    have p1 := hb02.frozen 1
    have t2 := hb2.cell 2
    have y2 := hb02.cell 2
    have p2 := hb02.frozen 2
    have t3 := hb2.cell 3
    have y3 := hb02.cell 3
    have p3 := hb02.frozen 3
    have t4 := hb2.cell 4
    have y4 := hb02.cell 4
    have p4 := hb02.frozen 4
    have t5 := hb2.cell 5
    have y5 := hb02.cell 5
    have p5 := hb02.frozen 5
    have t6 := hb2.cell 6
    have y6 := hb02.cell 6
    have p6 := hb02.frozen 6
    have t7 := hb2.cell 7
    have y7 := hb02.cell 7
    have p7 := hb02.frozen 7
    simp at t0 y0 t1 y1 t2 y2 t3 y3 t4 y4 t5 y5 t6 y6 t7 y7
    have HW3 := Lib.hid hW3; have Hb3 := Lib.hid hb3; have Hm : Hid (Mod (fun _ => False) w W3) := Lib.hid ((HmW.out.own hm2 (by have := HG.out; omega)).own hm3 (by have := HG0.out; omega))
    clear hW2 hb2 hm2 hb02 hW3 hb3 hm3
    go_wp2_with fail
    rw [← HW3.out]
    have a0_ := Hb3.out.cell 0
    have a1_ := Hb3.out.cell 1
    have a2_ := Hb3.out.cell 2
    have a3_ := Hb3.out.cell 3
    have a4_ := Hb3.out.cell 4
    have a5_ := Hb3.out.cell 5
    have a6_ := Hb3.out.cell 6
    have a7_ := Hb3.out.cell 7
    simp at a0_ a1_ a2_ a3_ a4_ a5_ a6_ a7_
    refine bodyPost_ret (v := .agg #[.int .i64 6, .int .i64 S, .int .i64 I, .int .i64 T, .int .u64 (V : Int), .int .i64 F, .int .i64 To, .int .i64 N]) (by simp [results, Try.results12, go_sem, a0_, a1_, a2_, a3_, a4_, a5_, a6_, a7_]) rfl ?_
    exact ⟨rfl, Hm.out⟩
  rw [if_neg k6] at ho
  by_cases k7 : k < 62
  · rw [if_pos k7] at ho
    subst ho
    go_upto_region 25 with fail
    obtain ⟨W2, hW2⟩ : ∃ W2, W2 = W.setCell ⟨G, 0, none⟩ (.int .i64 7) := ⟨_, rfl⟩
    have hb2 : Blk W2 G 24 #[.int .i64 7, .int .i64 S, .int .i64 I, .int .i64 T, .int .u64 (V : Int), .int .i64 F, .int .i64 To, .int .i64 N] := by rw [hW2]; have h := (Hb1.out).set_ 0 (.int .i64 7); simpa using h
    have hm2 : Mod (fun j => j = G) W W2 := by rw [hW2]; exact (Mod.refl (fun j => j = G) W).setCell (p := ⟨G, 0, none⟩) (fun _ => rfl) (.int .i64 7)
    have hb02 := hm2.blk Hb0.out hne
    obtain ⟨W3, hW3, hb3, hm3⟩ := lay_eight hb02 (.int .i64 7) (.int .i64 S) (.int .i64 I) (.int .i64 T) (.int .u64 (V : Int)) (.int .i64 F) (.int .i64 To) (.int .i64 N)
    rw [← hW2]
    have t0 := hb2.cell 0
    have y0 := hb02.cell 0
    have p0 := hb02.frozen 0
    have t1 := hb2.cell 1
    have y1 := hb02.cell 1
    have p1 := hb02.frozen 1
    have t2 := hb2.cell 2
    have y2 := hb02.cell 2
    have p2 := hb02.frozen 2
    have t3 := hb2.cell 3
    have y3 := hb02.cell 3
    have p3 := hb02.frozen 3
    have t4 := hb2.cell 4
    have y4 := hb02.cell 4
    have p4 := hb02.frozen 4
    have t5 := hb2.cell 5
    have y5 := hb02.cell 5
    have p5 := hb02.frozen 5
    have t6 := hb2.cell 6
    have y6 := hb02.cell 6
    have p6 := hb02.frozen 6
    have t7 := hb2.cell 7
    have y7 := hb02.cell 7
    have p7 := hb02.frozen 7
    simp at t0 y0 t1 y1 t2 y2 t3 y3 t4 y4 t5 y5 t6 y6 t7 y7
    have HW3 := Lib.hid hW3; have Hb3 := Lib.hid hb3; have Hm : Hid (Mod (fun _ => False) w W3) := Lib.hid ((HmW.out.own hm2 (by have := HG.out; omega)).own hm3 (by have := HG0.out; omega))
    clear hW2 hb2 hm2 hb02 hW3 hb3 hm3
    go_wp2_with fail
    rw [← HW3.out]
    have a0_ := Hb3.out.cell 0
    have a1_ := Hb3.out.cell 1
    have a2_ := Hb3.out.cell 2
    have a3_ := Hb3.out.cell 3
    have a4_ := Hb3.out.cell 4
    have a5_ := Hb3.out.cell 5
    have a6_ := Hb3.out.cell 6
    have a7_ := Hb3.out.cell 7
    simp at a0_ a1_ a2_ a3_ a4_ a5_ a6_ a7_
    refine bodyPost_ret (v := .agg #[.int .i64 7, .int .i64 S, .int .i64 I, .int .i64 T, .int .u64 (V : Int), .int .i64 F, .int .i64 To, .int .i64 N]) (by simp [results, Try.results12, go_sem, a0_, a1_, a2_, a3_, a4_, a5_, a6_, a7_]) rfl ?_
    exact ⟨rfl, Hm.out⟩
  rw [if_neg k7] at ho
  subst ho
  go_upto_region 25 with fail
  obtain ⟨W2, hW2⟩ : ∃ W2, W2 = (W.setCell ⟨G, 0, none⟩ (.int .i64 a15)).setCell ⟨G, 1, none⟩ (.int .i64 a31) := ⟨_, rfl⟩
  have hb2 : Blk W2 G 24 #[.int .i64 a15, .int .i64 a31, .int .i64 I, .int .i64 T, .int .u64 (V : Int), .int .i64 F, .int .i64 To, .int .i64 N] := by rw [hW2]; have h := ((Hb1.out).set_ 0 (.int .i64 a15)).set_ 1 (.int .i64 a31); simpa using h
  have hm2 : Mod (fun j => j = G) W W2 := by rw [hW2]; exact ((Mod.refl (fun j => j = G) W).setCell (p := ⟨G, 0, none⟩) (fun _ => rfl) (.int .i64 a15)).setCell (p := ⟨G, 1, none⟩) (fun _ => rfl) (.int .i64 a31)
  have hb02 := hm2.blk Hb0.out hne
  obtain ⟨W3, hW3, hb3, hm3⟩ := lay_eight hb02 (.int .i64 a15) (.int .i64 a31) (.int .i64 I) (.int .i64 T) (.int .u64 (V : Int)) (.int .i64 F) (.int .i64 To) (.int .i64 N)
  rw [← hW2]
  have t0 := hb2.cell 0
  have y0 := hb02.cell 0
  have p0 := hb02.frozen 0
  have t1 := hb2.cell 1
  have y1 := hb02.cell 1
  have p1 := hb02.frozen 1
  have t2 := hb2.cell 2
  have y2 := hb02.cell 2
  have p2 := hb02.frozen 2
  have t3 := hb2.cell 3
  have y3 := hb02.cell 3
  have p3 := hb02.frozen 3
  have t4 := hb2.cell 4
  have y4 := hb02.cell 4
  have p4 := hb02.frozen 4
  have t5 := hb2.cell 5
  have y5 := hb02.cell 5
  have p5 := hb02.frozen 5
  have t6 := hb2.cell 6
  have y6 := hb02.cell 6
  have p6 := hb02.frozen 6
  have t7 := hb2.cell 7
  have y7 := hb02.cell 7
  have p7 := hb02.frozen 7
  simp at t0 y0 t1 y1 t2 y2 t3 y3 t4 y4 t5 y5 t6 y6 t7 y7
  have HW3 := Lib.hid hW3; have Hb3 := Lib.hid hb3; have Hm : Hid (Mod (fun _ => False) w W3) := Lib.hid ((HmW.out.own hm2 (by have := HG.out; omega)).own hm3 (by have := HG0.out; omega))
  clear hW2 hb2 hm2 hb02 hW3 hb3 hm3
  go_wp2_with fail
  rw [← HW3.out]
  have a0_ := Hb3.out.cell 0
  have a1_ := Hb3.out.cell 1
  have a2_ := Hb3.out.cell 2
  have a3_ := Hb3.out.cell 3
  have a4_ := Hb3.out.cell 4
  have a5_ := Hb3.out.cell 5
  have a6_ := Hb3.out.cell 6
  have a7_ := Hb3.out.cell 7
  simp at a0_ a1_ a2_ a3_ a4_ a5_ a6_ a7_
  refine bodyPost_ret (v := .agg #[.int .i64 a15, .int .i64 a31, .int .i64 I, .int .i64 T, .int .u64 (V : Int), .int .i64 F, .int .i64 To, .int .i64 N]) (by simp [results, Try.results12, go_sem, a0_, a1_, a2_, a3_, a4_, a5_, a6_, a7_]) rfl ?_
  exact ⟨rfl, Hm.out⟩
end Go.Proofs.Ytejnhdenehkpmaa

/- ModlIters: the walk. -/
namespace Go.Proofs.Ytejnhdenehkpmaa
open Go.RowKit

theorem fits_fit {x : Int} (h : FitI x) : Fits x := by
  unfold Fits
  have : (H63 : Int) = 9223372036854775808 := rfl
  unfold FitI at h
  omega
/-- An iterator goes on: a model in a struct at g; what was told in a row of the call's own. -/
def ItTo (w0 w wr : World) (g : Nat) (id : Int) (l : List (Int × Nat)) (i : Nat) (s19 : Value) : Prop := ∃ (M : ModN) (N : Int) (A : Option Addr) (n c : Nat) (A2 : Option Addr) (n2 c2 : Nat) (told : List (Int × Nat)), Blk wr g 31 #[.slice A n c, .slice A2 n2 c2, .int .i64 N] ∧ HavM 0 wr (.slice A n c) (.slice A2 n2 c2) M ∧ LenM M (100 + i + i) ∧ M.next = N ∧ N ≤ 100 + 2 * (i : Int) ∧ TellN id l M told i ∧ OwnS w.heap.size wr s19 told ∧ Mod (fun j => j = g) w wr ∧ Mod (fun _ => False) w0 wr
set_option maxHeartbeats 4000000 in
set_option maxRecDepth 100000 in
theorem miters_walk (A0 A3 : Option Addr) (n0 c0 n3 c3 : Nat) (zs qs : List Int) (a1 a2 a4 : Int) (w : World) (hs : SeesI .i64 w w.heap.size A0 n0 zs) (hz : ∀ x ∈ zs, FitI x) (hs3 : SeesI .i64 w w.heap.size A3 n3 qs) (hq : ∀ x ∈ qs, FitI x) :
    Calls Try.prog 7 #[.slice A0 n0 c0, .int .i64 a1, .int .i64 a2, .slice A3 n3 c3, .int .i64 a4] w fun e w' => e = .returned (.bool true) ∧ Mod (fun _ => False) w w' := by
  have Haw : Hid (∀ W, Calls Try.prog 10 #[] W fun e w' => e = .returned (.bool true) ∧ Mod (fun _ => False) W w') := Lib.hid mawake_any
  obtain ⟨W1, hW1, hm1, hb1, hz1⟩ := Blk.box w 31 #[.slice none 0 0, .slice none 0 0, .int .i64 0]
  obtain ⟨g, hg⟩ : ∃ g, g = w.heap.size := ⟨_, rfl⟩
  rw [← hg] at hb1
  have Hs := Lib.hid hs; have Hz := Lib.hid hz; have Hs3 := Lib.hid hs3; have Hq := Lib.hid hq; have HW1 := Lib.hid hW1; have Hm1 := Lib.hid hm1; have Hb1 := Lib.hid hb1; have Hg := Lib.hid hg
  have Hg0 : Hid (w.heap.size ≤ g) := Lib.hid (by omega)
  clear hs hz hs3 hq hW1 hm1 hb1 hz1 hg
  go_enter Try.func7, Try.ntmps7
  go_upto_region 2 with fail
  rw [← HW1.out, ← Hg.out]
  go_upto_block 0 with fail
  go_cut [12] (fun s12 wc => (∃ p : Int, s12 = .int .i64 p) ∧ ScrTo w wc g 60)
  case first =>
    go_wp2_with fail
    go_loopg [12] 60 (fun gk s12 wr => ∃ i : Nat, i + gk = 60 ∧ s12 = .int .i64 (i : Int) ∧ ScrTo w wr g i)
    case atStart => exact ⟨0, by omega, rfl, .nil, 0, none, 0, 0, none, 0, 0, Hb1.out, HavM.nil _ _, KeepM.nil, LenM.nil 0, rfl, by decide, Hm1.out⟩
    case round =>
      obtain ⟨i, hik, rfl, M, N, A, n, c, A2, n2, c2, hb, hM, hK, hL, hN, hNi, hm⟩ := hrel
      have Hik := Lib.hid hik; have Hb := Lib.hid hb; have HM := Lib.hid hM; have HK := Lib.hid hK; have HL := Lib.hid hL; have HN := Lib.hid hN; have HNi := Lib.hid hNi; have Hm := Lib.hid hm
      have hi60 : i ≤ 60 := by omega
      clear hik hb hM hK hL hN hNi hm
      by_cases hin : i < n0 ∧ i < 60
      · obtain ⟨hi0, hi6⟩ := hin
        obtain ⟨ad, x, rfl, hx, hcx⟩ := Hs.out.at_ hi0 (Nat.le_refl _) Hm.out (fun _ _ h => h)
        have hfx := fits_fit (Hz.out x (List.mem_of_getElem? hx))
        obtain ⟨o, ho⟩ : ∃ o, opN x (i : Int) = o := ⟨_, rfl⟩
        have hgo := opN_good x (i : Int) (by omega)
        rw [ho] at hgo
        obtain ⟨M', N', x', y', l', hd, hN'⟩ : ∃ M' N' x' y' l', doN M o = (M', ⟨x', y', l'⟩) ∧ M'.next = N' := ⟨_, _, _, _, _, rfl, rfl⟩
        have hfa := did_facts HK.out HL.out hgo.1 hgo.2 hd
        have Hop : Hid (Calls Try.prog 12 #[.int .i64 x, .int .i64 (i : Int)] wr.drew fun e w' => e = .returned (.agg #[.int .i64 o.kind, .int .i64 o.series, .int .i64 o.iter, .int .i64 o.t, .int .u64 (o.v : Int), .int .i64 o.from_, .int .i64 o.to_, .int .i64 o.n]) ∧ Mod (fun _ => False) wr w') := Lib.hid (by
          rw [← ho]
          exact (op_any x (i : Int) hfx (by omega) wr.drew).mono (fun e w' h => ⟨h.1, (Mod.refl _ wr).drew.trans h.2 (fun _ _ h => h)⟩))
        have Hdo : Hid (∀ W, Mod (fun _ => False) wr W → Calls Try.prog 8 #[.agg #[.slice A n c, .slice A2 n2 c2, .int .i64 N], .agg #[.int .i64 o.kind, .int .i64 o.series, .int .i64 o.iter, .int .i64 o.t, .int .u64 (o.v : Int), .int .i64 o.from_, .int .i64 o.to_, .int .i64 o.n]] W fun e w' => DidM W w' M' N' x' y' l' e) := Lib.hid (fun W h => mdo_did A n c A2 n2 c2 M o N i W (HM.out.new h) HK.out HL.out (by omega) (by have := HN.out; have := HNi.out; omega) HN.out hd hN')
        have Hfa := Lib.hid hfa; have HN' := Lib.hid hN'
        have hi0i : (i : Int) < (n0 : Int) := by omega
        have hi6i : (i : Int) < 60 := by omega
        have hip : (0 : Int) ≤ (i : Int) := by omega
        have x0 := Hb.out.cell 0
        have x1 := Hb.out.cell 1
        have x2 := Hb.out.cell 2
        simp at x0 x1 x2
        clear hx hfx ho hgo hd hfa hN'
        go_upto_region 5 with fail
        go_region_with (first
          | (go_at_call 8; refine (Hdo.out w4 Hm4.out).mono ?_; rintro e w5 ⟨E, k, d, E2, k2, d2, E3, k3, d3, rfl, hM5, hS5, hm5⟩; have hbo := hm5.blk (Hm4.out.blk Hb.out (fun h => h)) (fun h => h); have y0 := hbo.cell 0; have y1 := hbo.cell 1; have y2 := hbo.cell 2; have p0 := hbo.frozen 0; have p1 := hbo.frozen 1; have p2 := hbo.frozen 2; simp at y0 y1 y2; obtain ⟨W6, hW6, hb6, hmo6, hMo6⟩ := lay_over1 hbo (.slice E k d) (.slice E2 k2 d2) (.int .i64 N'); have HM6 := Lib.hid ((hMo6 hM5).mono (Nat.zero_le _)); have Hb6 := Lib.hid hb6; have Hm6 := Lib.hid (((Hm.out.trans Hm4.out (fun _ _ h => h)).trans hm5 (fun _ _ h => h)).own hmo6 Hg0.out); have HW6 := Lib.hid hW6; clear hM5 hS5 hm5 hbo hW6 hb6 hmo6 hMo6)
          | (go_at_call 12; refine Hop.out.mono ?_; rintro e w4 ⟨rfl, hm4⟩; have hb4 := hm4.blk Hb.out (fun h => h); have q0 := hb4.cell 0; have q1 := hb4.cell 1; have q2 := hb4.cell 2; simp at q0 q1 q2; have Hm4 := Lib.hid hm4; clear hm4 hb4))
        all_goals (
          go_wp2_with fail
          rw [← HW6.out]
          go_roundg (gk - 1)
          case measure => have := Hik.out; omega
          case rel => exact ⟨i + 1, by have := Hik.out; omega, by go_num, M', N', E, k, d, E2, k2, d2, Hb6.out, HM6.out, Hfa.out.1, Hfa.out.2.1, HN'.out, by have := Hfa.out.2.2.2.1; have := HN.out; have := HNi.out; have := HN'.out; omega, Hm6.out⟩)
      · have hsc : Hid (ScrTo w wr g 60) := Lib.hid ⟨M, N, A, n, c, A2, n2, c2, Hb.out, HM.out, HK.out, HL.out.more hi60, HN.out, by have := HNi.out; omega, Hm.out⟩
        by_cases hi0 : i < n0
        · have hi0i : (i : Int) < (n0 : Int) := by omega
          have hi6i : ¬ (i : Int) < 60 := by omega
          clear hin hi0
          go_wp2_with fail
          go_meet
          exact ⟨⟨_, rfl⟩, hsc.out⟩
        · have hi0i : ¬ (i : Int) < (n0 : Int) := by omega
          clear hin hi0
          go_wp2_with fail
          go_meet
          exact ⟨⟨_, rfl⟩, hsc.out⟩
  case rest =>
    obtain ⟨⟨p12, rfl⟩, M, N, A, n, c, A2, n2, c2, hb, hM, hK, hL, hN, hNi, hm⟩ := hcut
    obtain ⟨S, hS⟩ : ∃ S, a1 % 4 = S := ⟨_, rfl⟩
    obtain ⟨F, hF⟩ : ∃ F, a1 / 4 % 64 = F := ⟨_, rfl⟩
    obtain ⟨T, hT⟩ : ∃ T, a2 % 128 = T := ⟨_, rfl⟩
    have m1 : bits .and .i64 a1 3 = S := (i64_and3 _).trans hS
    have m2 : bits .and .i64 (a1 / 4) 63 = F := (i64_and63 _).trans hF
    have m3 : bits .and .i64 a2 127 = T := (i64_and127 _).trans hT
    obtain ⟨oR, hoR⟩ : ∃ o : OpN, o = { opZ with kind := 2, series := S, from_ := F, to_ := T } := ⟨_, rfl⟩
    obtain ⟨oO, hoO⟩ : ∃ o : OpN, o = { opZ with kind := 5, series := S, from_ := F, to_ := T } := ⟨_, rfl⟩
    have hOR : { oO with kind := 2 } = oR := by rw [hoR, hoO]
    have hkO : oO.kind = 5 := by rw [hoO]
    obtain ⟨MR, NR, xR, yR, l, hdR, hNR⟩ : ∃ M' N' x' y' l', doN M oR = (M', ⟨x', y', l'⟩) ∧ M'.next = N' := ⟨_, _, _, _, _, rfl, rfl⟩
    obtain ⟨MO, NO, xO, yO, lO, hdO, hNO⟩ : ∃ M' N' x' y' l', doN M oO = (M', ⟨x', y', l'⟩) ∧ M'.next = N' := ⟨_, _, _, _, _, rfl, rfl⟩
    have hfR := did_facts hK hL (by rw [hoR]; exact fits_0) (by rw [hoR]; show (0 : Nat) < 2 ^ 64; decide) hdR
    have hfO := did_facts hK hL (by rw [hoO]; exact fits_0) (by rw [hoO]; show (0 : Nat) < 2 ^ 64; decide) hdO
    have herr := @open_err M oO hkO
    have hopn := @rest_open M hK oO hkO
    rw [hOR, hdO, hdR] at herr hopn
    simp only at herr hopn
    have HdR : Hid (∀ W, Mod (fun _ => False) wc W → Calls Try.prog 8 #[.agg #[.slice A n c, .slice A2 n2 c2, .int .i64 N], .agg #[.int .i64 2, .int .i64 S, .int .i64 0, .int .i64 0, .int .u64 0, .int .i64 F, .int .i64 T, .int .i64 0]] W fun e w' => DidM W w' MR NR xR yR l e) := Lib.hid (fun W h => by
      have h9 := mdo_did A n c A2 n2 c2 M oR N 60 W (hM.new h) hK hL (by omega) (by omega) hN hdR hNR
      rw [hoR] at h9
      exact h9)
    have HdO : Hid (∀ W, Mod (fun _ => False) wc W → Calls Try.prog 8 #[.agg #[.slice A n c, .slice A2 n2 c2, .int .i64 N], .agg #[.int .i64 5, .int .i64 S, .int .i64 0, .int .i64 0, .int .u64 0, .int .i64 F, .int .i64 T, .int .i64 0]] W fun e w' => DidM W w' MO NO xO yO lO e) := Lib.hid (fun W h => by
      have h9 := mdo_did A n c A2 n2 c2 M oO N 60 W (hM.new h) hK hL (by omega) (by omega) hN hdO hNO
      rw [hoO] at h9
      exact h9)
    have Hb := Lib.hid hb; have Hm := Lib.hid hm; have HN := Lib.hid hN; have HNi := Lib.hid hNi; have HfR := Lib.hid hfR; have HfO := Lib.hid hfO; have Herr := Lib.hid herr; have Hopn := Lib.hid hopn; have HNO := Lib.hid hNO
    have x0 := hb.cell 0
    have x1 := hb.cell 1
    have x2 := hb.cell 2
    simp at x0 x1 x2
    clear hb hM hK hL hN hNi hm hS hF hT hoR hoO hOR hkO hdR hNR hdO hNO hfR hfO herr hopn Hb1 Hm1 HW1
    go_upto_region 8 with fail
    go_wp2_with fail
    refine (HdR.out wc (Mod.refl _ _)).mono ?_
    rintro e w2 ⟨E, k, d, E2, k2, d2, E3, k3, d3, rfl, hM2, hS2, hm2⟩
    obtain ⟨W2, hW, hmo, hbx, hbr, hz2⟩ := lay_two w2 (.slice E k d) (.slice E2 k2 d2) (.int .i64 NR) (.int .i64 xR) (.int .i64 yR) (.slice E3 k3 d3)
    obtain ⟨gw, hgw⟩ : ∃ g, g = w2.heap.size := ⟨_, rfl⟩
    rw [← hgw] at hbx hbr hz2
    have h2 := hm2.trans hmo (fun _ _ h => h)
    have Hcm := Lib.hid h2; have Hb2 := Lib.hid (h2.blk Hb.out (fun h => h)); have Hbr := Lib.hid hbr; have HSr := Lib.hid ((hS2.new hmo).mono (Nat.zero_le _)); have HW := Lib.hid hW; have Hgw := Lib.hid hgw
    clear x0 x1 x2 hM2 hS2 hm2 hW hmo hbx hbr hz2 hgw h2
    go_upto_region 9 with fail
    rw [← HW.out, ← Hgw.out]
    clear HW Hgw
    have x0 := Hb2.out.cell 0
    have x1 := Hb2.out.cell 1
    have x2 := Hb2.out.cell 2
    simp at x0 x1 x2
    go_wp2_with fail
    refine (HdO.out W2 Hcm.out).mono ?_
    rintro e w3 ⟨E, k, d, E2, k2, d2, E4, k4, d4, rfl, hM3, hS3, hm3⟩
    have hbo := hm3.blk Hb2.out (fun h => h)
    have hb2 := hbo.alloc (.cells #[.int .i64 0, .int .i64 0, .slice none 0 0] 34)
    have hr3 := Blk.new w3 34 #[.int .i64 0, .int .i64 0, .slice none 0 0]
    have y0 := hb2.cell 0
    have y1 := hb2.cell 1
    have y2 := hb2.cell 2
    have q0 := hb2.frozen 0
    have q1 := hb2.frozen 1
    have q2 := hb2.frozen 2
    have r0 := hr3.cell 0
    have r1 := hr3.cell 1
    have r2 := hr3.cell 2
    have p0 := hr3.frozen 0
    have p1 := hr3.frozen 1
    have p2 := hr3.frozen 2
    simp at y0 y1 y2 r0 r1 r2
    have e1 : ¬ w3.heap.size = g := by have := hbo.lt; omega
    have e2 : ¬ g = w3.heap.size := fun h => e1 h.symm
    obtain ⟨W3, hW, hbn, hbr3, hmo, hMo⟩ := lay_over hbo (.slice E k d) (.slice E2 k2 d2) (.int .i64 NO) (.int .i64 xO) (.int .i64 yO) (.slice E4 k4 d4)
    obtain ⟨gr, hgr⟩ : ∃ g, g = w3.heap.size := ⟨_, rfl⟩
    rw [← hgr] at hbr3
    have hne1 : ¬ gr = g := by have := hbo.lt; omega
    have hne2 : ¬ g = gr := fun h => hne1 h.symm
    have hbw3 := hm3.blk Hbr.out (fun h => h)
    have hbr9 := hmo.blk hbw3 (fun e => by rw [e] at hbw3; exact Blk.ne_ hbo hbw3 (by decide) rfl)
    have hS9 := (HSr.out.new hm3).mod hmo (fun j cs _ hb e => by rw [e] at hb; exact Blk.ne_ hbo hb (by decide) rfl)
    have Hm3 := Lib.hid ((((Hm.out.trans Hcm.out (fun _ _ h => h)).trans hm3 (fun _ _ h => h))).own hmo Hg0.out)
    have HM3 := Lib.hid ((hMo hM3).mono (Nat.zero_le _)); have Hb3 := Lib.hid hbn; have Hbr3 := Lib.hid hbr3; have HW := Lib.hid hW; have Hgr := Lib.hid hgr; have Hbw := Lib.hid hbr9; have HSw := Lib.hid hS9
    clear x0 x1 x2 hM3 hS3 hm3 hbo hW hbn hbr3 hmo hMo hgr hbw3 hbr9 hS9 HdR HdO Hb2 Hbr HSr hb2 hr3
    go_upto_region 10 with fail
    rw [← HW.out, ← Hgr.out]
    clear HW y0 y1 y2 q0 q1 q2 r0 r1 r2 p0 p1 p2 e1 e2
    have v0 := Hbr3.out.cell 0
    have v1 := Hbr3.out.cell 1
    have u0 := Hbw.out.cell 0
    have u2 := Hbw.out.cell 2
    simp at v0 v1 u0 u2
    by_cases hx0 : xO = 0
    · subst hx0
      obtain ⟨l2, hyO, hNO1, hrest, hR0⟩ : ∃ l2, yO = M.next + 1 ∧ MO.next = M.next + 1 ∧ restN (M.next + 1) MO = some l2 ∧ (⟨xR, yR, l⟩ : ResN) = ⟨0, 0, l2⟩ := by
        obtain ⟨h1, h2, l2, h3, h4⟩ := Hopn.out rfl
        exact ⟨l2, h1, h2, h3, h4⟩
      injection hR0 with hR1 hR2 hR3
      subst hR1 hR2 hR3
      have hlen := HfR.out.2.2.2.2.1
      have hT0 : TellN yO l MO [] 0 := TellN.begin HfO.out.1 (by omega) (by rw [hyO]; exact hrest)
      have Hl := Lib.hid hlen
      have HI0 : Hid (ItTo w W3 W3 g yO l 0 (.slice none 0 0)) := Lib.hid ⟨MO, NO, E, k, d, E2, k2, d2, [], Hb3.out, HM3.out, HfO.out.2.1.more (by omega), HNO.out, by have := HfO.out.2.2.2.1; have := HN.out; have := HNi.out; have := HNO.out; omega, hT0, OwnS.nil _ _, Mod.refl _ _, Hm3.out⟩
      have Hgg : Hid (g < W3.heap.size ∧ ¬ g = gw + 1 ∧ ¬ g = gr) := Lib.hid ⟨Hb3.out.lt, fun e => by have h := Hbw.out; rw [← e] at h; exact Blk.ne_ Hb3.out h (by decide) rfl, hne2⟩
      obtain ⟨q, hqq⟩ : ∃ q : Int, a4 % 4 + 1 = q := ⟨_, rfl⟩
      have m4 : bits .and .i64 a4 3 = a4 % 4 := i64_and3 _
      have m5 : wrap64 (a4 % 4 + 1) = q := by rw [IntWalk.wrap64_in _ (by omega)]; exact hqq
      have Hm4_ := Lib.hid m4; have Hm5_ := Lib.hid m5; have Hm6_ := Lib.hid hqq
      clear m1 m2 m3 m4 m5
      have Hq14 : Hid (1 ≤ q ∧ q ≤ 4) := Lib.hid (by omega)
      clear hyO hNO1 hrest hlen hT0 HfR HfO Herr Hopn HNO HN HNi Hm Hcm hqq u0 u2 v0 v1 hne1 hne2
      have v0 := Hbr3.out.cell 0
      simp at v0
      go_wp2_with fail
      go_loopg [19, 20] 100 (fun gk s19 s20 wr => ∃ i : Nat, i + gk = 100 ∧ s20 = .int .i64 (i : Int) ∧ ItTo w W3 wr g yO l i s19)
      case atStart => exact ⟨0, by omega, rfl, HI0.out⟩
      case round =>
        obtain ⟨i, hik, rfl, M1, N1, A, n, c, A2, n2, c2, told, hb, hM, hL, hN, hNi, hTe, ho, hmg, hm⟩ := hrel
        obtain ⟨At, nt, ct, rfl, Hnt, _, _, _⟩ := ho.formN
        have Hik := Lib.hid hik; have Hb := Lib.hid hb; have HM := Lib.hid hM; have HL := Lib.hid hL; have HN := Lib.hid hN; have HNi := Lib.hid hNi; have HTe := Lib.hid hTe; have Ho := Lib.hid ho; have Hmg := Lib.hid hmg; have Hm := Lib.hid hm
        have hi100 : i ≤ 100 := by omega
        clear hik hb hM hL hN hNi hTe ho hmg hm v0
        by_cases hin : i < 100
        · have hini : (i : Int) < 100 := by omega
          have hip : (0 : Int) ≤ (i : Int) := by omega
          have Hsome : Hid (∀ wx, Mod (fun j => j = g) W3 wx → wx.cell? ⟨gr, 0, none⟩ = some (.int .i64 0) ∧ wx.cell? ⟨gr, 1, none⟩ = some (.int .i64 yO)) := Lib.hid (fun wx h => by
            have hbx := h.blk Hbr3.out (fun e => Hgg.out.2.2 e.symm)
            have h0 := hbx.cell 0
            have h1 := hbx.cell 1
            simp at h0 h1
            exact ⟨h0, h1⟩)
          go_upto_if 93 with fail
          go_cut [20] (fun s20 wx => s20 = .int .i64 (i : Int) ∧ ∃ (M : ModN) (N : Int) (A : Option Addr) (n c : Nat) (A2 : Option Addr) (n2 c2 : Nat), Blk wx g 31 #[.slice A n c, .slice A2 n2 c2, .int .i64 N] ∧ HavM 0 wx (.slice A n c) (.slice A2 n2 c2) M ∧ LenM M (100 + i + i + 1) ∧ M.next = N ∧ N ≤ 101 + 2 * (i : Int) ∧ TellN yO l M told i ∧ OwnS W3.heap.size wx (.slice At nt ct) told ∧ Mod (fun j => j = g) W3 wx ∧ Mod (fun _ => False) w wx)
          case first =>
            have Hsame : Hid (∃ (M : ModN) (N : Int) (A : Option Addr) (n c : Nat) (A2 : Option Addr) (n2 c2 : Nat), Blk wr g 31 #[.slice A n c, .slice A2 n2 c2, .int .i64 N] ∧ HavM 0 wr (.slice A n c) (.slice A2 n2 c2) M ∧ LenM M (100 + i + i + 1) ∧ M.next = N ∧ N ≤ 101 + 2 * (i : Int) ∧ TellN yO l M told i ∧ OwnS W3.heap.size wr (.slice At nt ct) told ∧ Mod (fun j => j = g) W3 wr ∧ Mod (fun _ => False) w wr) := Lib.hid ⟨M1, N1, A, n, c, A2, n2, c2, Hb.out, HM.out, HL.out.more (by omega), HN.out, by have := HNi.out; omega, HTe.out, Ho.out, Hmg.out, Hm.out⟩
            by_cases hi3 : i < n3
            · obtain ⟨ad, x, rfl, hx, hcx⟩ := Hs3.out.at_ hi3 (Nat.le_refl _) Hm.out (fun _ _ h => h)
              have hfx := fits_fit (Hq.out x (List.mem_of_getElem? hx))
              obtain ⟨at6, hat6⟩ : ∃ a : Int, a = 60 + (i : Int) := ⟨_, rfl⟩
              obtain ⟨o, ho⟩ : ∃ o, opN x at6 = o := ⟨_, rfl⟩
              have hgo := opN_good x at6 (by omega)
              rw [ho] at hgo
              have Hop : Hid (Calls Try.prog 12 #[.int .i64 x, .int .i64 at6] wr fun e w' => e = .returned (.agg #[.int .i64 o.kind, .int .i64 o.series, .int .i64 o.iter, .int .i64 o.t, .int .u64 (o.v : Int), .int .i64 o.from_, .int .i64 o.to_, .int .i64 o.n]) ∧ Mod (fun _ => False) wr w') := Lib.hid (by
                rw [← ho]
                exact op_any x at6 hfx (by omega) wr)
              have Hgo := Lib.hid hgo
              have hi3i : (i : Int) < (n3 : Int) := by omega
              have ha6 : wrap64 (60 + (i : Int)) = at6 := by rw [IntWalk.wrap64_in _ (by omega)]; exact hat6.symm
              have ha7 : 60 + (i : Int) = at6 := hat6.symm
              clear hx hfx hat6 ho hgo hi3
              go_wp2_with fail
              refine Hop.out.mono ?_
              rintro e w4 ⟨rfl, hm4⟩
              obtain ⟨W4, hW4, hmo4, hbo4, _⟩ := Blk.box w4 24 #[.int .i64 o.kind, .int .i64 o.series, .int .i64 o.iter, .int .i64 o.t, .int .u64 (o.v : Int), .int .i64 o.from_, .int .i64 o.to_, .int .i64 o.n]
              obtain ⟨go_, hgo_⟩ : ∃ g, g = w4.heap.size := ⟨_, rfl⟩
              rw [← hgo_] at hbo4
              have h4 := hm4.trans hmo4 (fun _ _ h => h)
              have Hm4 := Lib.hid h4; have HW4 := Lib.hid hW4; have Hgo_ := Lib.hid hgo_; have Hbo4 := Lib.hid hbo4
              clear hm4 hW4 hmo4 hgo_ hbo4 h4 hcx
              go_upto_region 18 with fail
              rw [← HW4.out, ← Hgo_.out]
              clear HW4 Hgo_ ha6 ha7
              obtain ⟨v0, v1⟩ := Hsome.out W4 (Hmg.out.trans Hm4.out (fun _ _ h => h.elim))
              have t0 := Hbo4.out.cell 0
              have t1 := Hbo4.out.cell 1
              have t2 := Hbo4.out.cell 2
              have t3 := Hbo4.out.cell 3
              have t4 := Hbo4.out.cell 4
              have t5 := Hbo4.out.cell 5
              have t6 := Hbo4.out.cell 6
              have t7 := Hbo4.out.cell 7
              simp at t0 t1 t2 t3 t4 t5 t6 t7
              by_cases hne : o.iter = yO
              · have hk : ((o.iter : Int) != yO) = false := by simp [hne]
                have hk2 : ((o.iter : Int) == yO) = true := by simp [hne]
                have Hsame4 : Hid (∃ (M : ModN) (N : Int) (A : Option Addr) (n c : Nat) (A2 : Option Addr) (n2 c2 : Nat), Blk W4 g 31 #[.slice A n c, .slice A2 n2 c2, .int .i64 N] ∧ HavM 0 W4 (.slice A n c) (.slice A2 n2 c2) M ∧ LenM M (100 + i + i + 1) ∧ M.next = N ∧ N ≤ 101 + 2 * (i : Int) ∧ TellN yO l M told i ∧ OwnS W3.heap.size W4 (.slice At nt ct) told ∧ Mod (fun j => j = g) W3 W4 ∧ Mod (fun _ => False) w W4) := Lib.hid ⟨M1, N1, A, n, c, A2, n2, c2, Hm4.out.blk Hb.out (fun h => h), HM.out.new Hm4.out, HL.out.more (by omega), HN.out, by have := HNi.out; omega, HTe.out, Ho.out.mod Hm4.out, Hmg.out.trans Hm4.out (fun _ _ h => h.elim), Hm.out.trans Hm4.out (fun _ _ h => h)⟩
                clear hne t0 t1 t3 t4 t5 t6 t7
                go_wp2_with fail
                go_meet
                exact ⟨rfl, Hsame4.out⟩
              · have hk : ((o.iter : Int) != yO) = true := by simp [hne]
                have hk2 : ((o.iter : Int) == yO) = false := by simp [hne]
                obtain ⟨M', N', x', y', l', hd, hN'⟩ : ∃ M' N' x' y' l', doN M1 o = (M', ⟨x', y', l'⟩) ∧ M'.next = N' := ⟨_, _, _, _, _, rfl, rfl⟩
                have hfa := did_facts HTe.out.1 HL.out Hgo.out.1 Hgo.out.2 hd
                have hte := HTe.out.other (o := o) hne
                rw [hd] at hte
                have Hdo := Lib.hid (mdo_did A n c A2 n2 c2 M1 o N1 (100 + i + i) W4 (HM.out.new Hm4.out) HTe.out.1 HL.out (by omega) (by have := HN.out; have := HNi.out; omega) HN.out hd hN')
                have Hfa := Lib.hid hfa; have HN' := Lib.hid hN'; have Hte := Lib.hid hte
                have hb4 := Hm4.out.blk Hb.out (fun h => h)
                have Hb4 := Lib.hid hb4
                clear hne hd hfa hte hN'
                have x0 := hb4.cell 0
                have x1 := hb4.cell 1
                have x2 := hb4.cell 2
                simp at x0 x1 x2
                clear hb4
                go_wp2_with fail
                refine Hdo.out.mono ?_
                rintro e w5 ⟨E, k, d, E2, k2, d2, E3, k3, d3, rfl, hM5, hS5, hm5⟩
                have hbo := hm5.blk Hb4.out (fun h => h)
                have y0 := hbo.cell 0
                have y1 := hbo.cell 1
                have y2 := hbo.cell 2
                simp at y0 y1 y2
                have p0 := hbo.frozen 0
                have p1 := hbo.frozen 1
                have p2 := hbo.frozen 2
                obtain ⟨W6, hW6, hb6, hmo6, hMo6⟩ := lay_over1 hbo (.slice E k d) (.slice E2 k2 d2) (.int .i64 N')
                have h46 := Hm4.out.trans hm5 (fun _ _ h => h)
                have HM6 := Lib.hid ((hMo6 hM5).mono (Nat.zero_le _)); have Hb6 := Lib.hid hb6; have Hm6 := Lib.hid ((Hm.out.trans h46 (fun _ _ h => h)).own hmo6 Hg0.out); have HW6 := Lib.hid hW6
                have Hmg6 := Lib.hid ((Hmg.out.trans h46 (fun _ _ h => h.elim)).trans hmo6 (fun _ _ h => h))
                have Ho6 := Lib.hid ((Ho.out.mod h46).besideB hbo (by decide) hmo6)
                clear hM5 hS5 hm5 hbo hW6 hb6 hmo6 hMo6 h46
                go_wp2_with fail
                rw [← HW6.out]
                go_meet
                exact ⟨rfl, M', N', E, k, d, E2, k2, d2, Hb6.out, HM6.out, Hfa.out.2.1, HN'.out, by have := Hfa.out.2.2.2.1; have := HN.out; have := HNi.out; have := HN'.out; omega, Hte.out, Ho6.out, Hmg6.out, Hm6.out⟩
            · have hi3i : ¬ (i : Int) < (n3 : Int) := by omega
              clear hi3
              go_wp2_with fail
              go_meet
              exact ⟨rfl, Hsame.out⟩
          case rest =>
            clear Hb HM HL HN HNi HTe Ho Hmg Hm
            obtain ⟨rfl, M1, N1, A, n, c, A2, n2, c2, hb, hM, hL, hN, hNi, hTe, ho, hmg, hm⟩ := hcut
            obtain ⟨v0, v1⟩ := Hsome.out wc hmg
            obtain ⟨oN, hoN⟩ : ∃ o : OpN, o = { opZ with kind := 6, iter := yO, n := q } := ⟨_, rfl⟩
            obtain ⟨M', N', x', y', l', hd, hN'⟩ : ∃ M' N' x' y' l', doN M1 oN = (M', ⟨x', y', l'⟩) ∧ M'.next = N' := ⟨_, _, _, _, _, rfl, rfl⟩
            have hfa := did_facts hTe.1 hL (by rw [hoN]; exact fits_0) (by rw [hoN]; show (0 : Nat) < 2 ^ 64; decide) hd
            obtain ⟨hx, hln, hte⟩ := hTe.next (o := oN) (by rw [hoN]) (by rw [hoN]) (by rw [hoN]; have := Hq14.out; show 1 ≤ q ∧ q ≤ 1000; omega)
            rw [hd] at hx hln hte
            have hln' : (l'.length : Int) ≤ q := by rw [hoN] at hln; exact hln
            have hx' : x' = 0 := hx
            subst hx'
            have Hdo : Hid (Calls Try.prog 8 #[.agg #[.slice A n c, .slice A2 n2 c2, .int .i64 N1], .agg #[.int .i64 6, .int .i64 0, .int .i64 yO, .int .i64 0, .int .u64 0, .int .i64 0, .int .i64 0, .int .i64 q]] wc fun e w' => DidM wc w' M' N' 0 y' l' e) := Lib.hid (by
              have h9 := mdo_did A n c A2 n2 c2 M1 oN N1 (100 + i + i + 1) wc hM hTe.1 hL (by omega) (by omega) hN hd hN'
              rw [hoN] at h9
              exact h9)
            have htl : told.length ≤ 60 := by
              obtain ⟨_, _, k9, h9, _⟩ := hTe
              rw [h9, List.length_take]
              have := Hl.out
              omega
            have Hb := Lib.hid hb; have HN := Lib.hid hN; have HNi := Lib.hid hNi; have Ho := Lib.hid ho; have Hmg := Lib.hid hmg; have Hm := Lib.hid hm; have Hfa := Lib.hid hfa; have HN' := Lib.hid hN'; have Hte := Lib.hid hte; have Hln := Lib.hid hln'; have Htl := Lib.hid htl
            have x0 := hb.cell 0
            have x1 := hb.cell 1
            have x2 := hb.cell 2
            simp at x0 x1 x2
            clear hb hM hL hN hNi hTe ho hmg hm hoN hd hfa hx hln hte hN' hln' htl
            have m4 := Hm4_.out
            have m5 := Hm5_.out
            have m6 := Hm6_.out
            go_upto_region 20 with fail
            go_wp2_with fail
            refine Hdo.out.mono ?_
            rintro e w7 ⟨E, k, d, E2, k2, d2, E3, k3, d3, rfl, hM7, hS7, hm7⟩
            obtain ⟨W7, hW, hmo, hbx, hbr, hz7⟩ := lay_two w7 (.slice E k d) (.slice E2 k2 d2) (.int .i64 N') (.int .i64 0) (.int .i64 y') (.slice E3 k3 d3)
            obtain ⟨gk7, hgk7⟩ : ∃ g, g = w7.heap.size := ⟨_, rfl⟩
            rw [← hgk7] at hbx hbr hz7
            have h7 := hm7.trans hmo (fun _ _ h => h)
            have hk3 := hS7.rds.1
            have hk3q : ¬ (k3 : Int) > q := by have := Hln.out; omega
            have hbo := h7.blk Hb.out (fun h => h)
            have Hb7 := Lib.hid hbo; have HM7 := Lib.hid (hM7.new hmo); have HS7 := Lib.hid (hS7.new hmo); have Hm7 := Lib.hid h7; have HW := Lib.hid hW; have Hgk := Lib.hid hgk7; have Hbx := Lib.hid hbx; have Hbr := Lib.hid hbr; have Hk3 := Lib.hid hk3; have Ho7 := Lib.hid (Ho.out.mod h7); have Hsz : Hid (w7.heap.size = gk7 ∧ wc.heap.size ≤ gk7) := Lib.hid ⟨hgk7.symm, by have := hm7.size; omega⟩
            clear x0 x1 x2 hM7 hS7 hm7 hW hmo hbx hbr hz7 hgk7 h7 hk3 hbo
            go_upto_region 21 with fail
            rw [← HW.out, ← Hgk.out]
            clear HW Hgk
            have r0 := Hbr.out.cell 0
            have r2 := Hbr.out.cell 2
            simp at r0 r2
            go_upto_region 23 with fail
            clear m4 m5 m6
            have y0 := Hb7.out.cell 0
            have y1 := Hb7.out.cell 1
            have y2 := Hb7.out.cell 2
            simp at y0 y1 y2
            have p0 := Hb7.out.frozen 0
            have p1 := Hb7.out.frozen 1
            have p2 := Hb7.out.frozen 2
            have z0 := Hbx.out.cell 0
            have z1 := Hbx.out.cell 1
            have z2 := Hbx.out.cell 2
            simp at z0 z1 z2
            obtain ⟨W8, hW8, hb8, hmo8, hMo8⟩ := lay_over1 Hb7.out (.slice E k d) (.slice E2 k2 d2) (.int .i64 N')
            have h8 : ¬ gk7 + 1 = g := fun e => by have h := Hbr.out; rw [e] at h; exact Blk.ne_ Hb7.out h (by decide) rfl
            have hbr8 := hmo8.blk Hbr.out h8
            have r2' := hbr8.cell 2
            simp at r2'
            have HM8 := Lib.hid (hMo8 HM7.out); have Hb8 := Lib.hid hb8; have HW8 := Lib.hid hW8
            have HS8 := Lib.hid (HS7.out.mod hmo8 (fun j cs _ hb e => by rw [e] at hb; exact Blk.ne_ Hb7.out hb (by decide) rfl))
            have Ho8 := Lib.hid (Ho7.out.besideB Hb7.out (by decide) hmo8)
            have Hm8 := Lib.hid ((Hm.out.trans Hm7.out (fun _ _ h => h)).own hmo8 Hg0.out)
            have Hmg8 := Lib.hid ((Hmg.out.trans Hm7.out (fun _ _ h => h.elim)).trans hmo8 (fun _ _ h => h))
            clear hW8 hb8 hmo8 hMo8 h8 hbr8
            go_upto_region 24 with fail
            rw [← HW8.out]
            clear HW8 y0 y1 y2 p0 p1 p2 z0 z1 z2 r0 r2
            have Hr8 := Lib.hid HS8.out.rds.2.2.2.toK
            have Hone := Lib.hid (oneS l')
            have hr1 : (rowsS told).length + k3 ≤ maxLen := by rw [rowsS_len]; have := Htl.out; have := Hk3.out; have := Hln.out; have := Hq14.out; unfold maxLen; omega
            have hr2 : ((rowsS told).length + k3) * 16 ≤ 140737488355328 := by rw [rowsS_len]; have := Htl.out; have := Hk3.out; have := Hln.out; have := Hq14.out; omega
            have hsz : W3.heap.size ≤ W8.heap.size := Hmg8.out.size
            clear hk3q
            go_wp2_with (at_builtin; refine wpList_appK (v := .slice At nt ct) rfl (.tmp 136) (.tmp 138) _ rfl eltS2 rfl Ho8.out.toK rfl Hr8.out Hone.out hr1 hr2 hsz ?_; intro v9 w9 HO HB HG)
            go_roundg (gk - 1)
            case measure => have := Hik.out; omega
            case rel =>
              have hm9 : Mod (fun j => (Value.slice At nt ct).ownBlock = some j) W8 w9 := (Mod.refl _ W8).grown HG.out.1 (fun k hk _ => hk)
              have hlow : ∀ j, (Value.slice At nt ct).ownBlock = some j → W3.heap.size ≤ j ∧ j < W8.heap.size := fun j hj => Ho8.out.block j hj
              have hlow2 : ∀ j, (Value.slice At nt ct).ownBlock = some j → j < wc.heap.size := fun j hj => (Ho.out.block j hj).2
              have hO9 : OwnS W3.heap.size w9 v9 (told ++ l') := by have h := HO.out; rw [show rowsS told ++ rowsS l' = rowsS (told ++ l') by simp [rowsS]] at h; exact h.toS
              exact ⟨i + 1, by have := Hik.out; omega, by go_num, M', N', E, k, d, E2, k2, d2, told ++ l', hm9.blk Hb8.out (fun e => by have := hlow g e; have := Hgg.out.1; omega), (HM8.out.low hm9 (fun j hj e => by have := hlow2 j e; have := Hsz.out; omega)).mono (Nat.zero_le _), Hfa.out.2.1.more (by omega), HN'.out, by have := Hfa.out.2.2.2.1; have := HN.out; have := HNi.out; have := HN'.out; omega, Hte.out, hO9, Hmg8.out.trans hm9 (fun j hj e => by have := hlow j e; omega), Hm8.out.trans hm9 (fun j hj e => by have := hlow j e; have := Hm3.out.size; omega)⟩
        · have hini : ¬ (i : Int) < 100 := by omega
          have hte : told = l := HTe.out.done (by have := Hl.out; omega)
          subst hte
          have hbw := Hmg.out.blk Hbw.out (fun e => Hgg.out.2.1 e.symm)
          have u0 := hbw.cell 0
          have u2 := hbw.cell 2
          simp at u0 u2
          have hSw := HSw.out.mod Hmg.out (fun j cs _ hb e => by rw [e] at hb; exact Blk.ne_ Hb3.out hb (by decide) rfl)
          have Hsm := Lib.hid (sameS_any At E3 nt k3 ct d3 wr.heap.size wr.heap.size told told true wr (Ho.out.rds Hnt.out) hSw.rds.2.2.2 (by have := Hnt.out; have := Hl.out; omega) (by simp))
          clear hbw hSw HSw Hbw Hb3 Hbr3
          go_wp2_with fail
          refine Hsm.out.mono ?_
          rintro e w6 ⟨rfl, hm6⟩
          have Hm6 := Lib.hid (Hm.out.trans hm6 (fun _ _ h => h))
          clear hm6
          go_wp2_with fail
          refine (Haw.out w6).mono ?_
          rintro e w7 ⟨rfl, hm7⟩
          go_wp2_with fail
          go_ret
          exact ⟨rfl, Hm6.out.trans hm7 (fun _ _ h => h)⟩
    · have kx : ((xO : Int) != 0) = true := by simp [hx0]
      have kx2 : ((xO : Int) == 0) = false := by simp [hx0]
      have Hx0 := Lib.hid hx0
      clear hx0
      by_cases hxe : xO = xR
      · subst hxe
        go_wp2_with fail
        refine (Haw.out W3).mono ?_
        rintro e w7 ⟨rfl, hm7⟩
        go_wp2_with fail
        go_ret
        exact ⟨rfl, Hm3.out.trans hm7 (fun _ _ h => h)⟩
      · have hx5 : xO = 5 := by
          rcases Herr.out with h | h | h
          · exact absurd h Hx0.out
          · exact absurd h hxe
          · exact h
        subst hx5
        have ke : ((5 : Int) == xR) = false := by simp; exact hxe
        have Hxe := Lib.hid hxe
        clear hxe
        go_wp2_with fail
        refine (Haw.out W3).mono ?_
        rintro e w7 ⟨rfl, hm7⟩
        go_wp2_with fail
        go_ret
        exact ⟨rfl, Hm3.out.trans hm7 (fun _ _ h => h)⟩
end Go.Proofs.Ytejnhdenehkpmaa

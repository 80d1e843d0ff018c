/- The texts Ia, Ib, one behind the other. -/
import Derived.Test.YtcoajldhhimmoaaMx1
import Derived.Test.YtcoajldhhimmoaaMx2
import Derived.Test.YtcoajldhhimmoaaMx3
import Derived.Test.YtcoajldhhimmoaaMx5
import Derived.Test.YtcoajldhhimmoaaMx6
import Derived.Test.YtcoajldhhimmoaaMx4
/- The cache in memory: its clock's cells, its map, the rows that lie in it; copied. -/
namespace Go.Proofs.Ytcoajldhhimmoaa
open Go.RowKit Go.Maps

theorem mapTy : Try.prog.underlying 53 = some (.map 28 22) := Try.underlying53
/-- At each name that fits there stands a slice that reads as F says; its row lies in a block of samples from B on. -/
def MapC (B : Nat) (w : World) (b n : Nat) (F : KeyN → Option (List (Int × Nat))) (s : Nat) : Prop :=
  ∃ f, MapK w b n f s ∧ ∀ k, KeyFit k → (F k = none → f k = none) ∧ ∀ r, F k = some r → ∃ v, f k = some v ∧ SliH B w v r
theorem MapK.not_cells {w : World} {b n s : Nat} {g : KeyN → Option Value} (h : MapK w b n g s) {t : TypeId} {cs : Array Value} : ¬ Blk w b t cs := by
  obtain ⟨f, ⟨D, ⟨es, clock, h1, _⟩, _⟩, _⟩ := h
  intro hb
  unfold Blk at hb
  rw [h1] at hb
  injection hb with hb
  cases hb
section
variable {w w' : World} {B B' b n s : Nat} {F : KeyN → Option (List (Int × Nat))} {k : KeyN}
theorem MapC.lt (h : MapC B w b n F s) : b < w.heap.size := by obtain ⟨f, h1, _⟩ := h; exact h1.lt
theorem MapC.not_cells (h : MapC B w b n F s) {t : TypeId} {cs : Array Value} : ¬ Blk w b t cs := by obtain ⟨f, h1, _⟩ := h; exact h1.not_cells
theorem MapC.more {n' : Nat} (h : MapC B w b n F s) (hn : n ≤ n') : MapC B w b n' F s := by obtain ⟨f, h1, h2⟩ := h; exact ⟨f, h1.more hn, h2⟩
theorem MapC.mod {S : Nat → Prop} (h : MapC B w b n F s) (hm : Mod S w w') (hb : ¬ S b) (hS : ∀ j cs, B ≤ j → Blk w j 31 cs → ¬ S j) : MapC B w' b n F s := by
  obtain ⟨f, h1, h2⟩ := h
  refine ⟨f, h1.mod hm hb, fun l hl => ⟨(h2 l hl).1, fun r hr => ?_⟩⟩
  obtain ⟨v, h3, h4⟩ := (h2 l hl).2 r hr
  exact ⟨v, h3, h4.mod hm hS⟩
theorem MapC.new (h : MapC B w b n F s) (hm : Mod (fun _ => False) w w') : MapC B w' b n F s := h.mod hm id (fun _ _ _ _ h => h)
theorem MapC.mono (h : MapC B w b n F s) (hB : B' ≤ B) : MapC B' w b n F s := by
  obtain ⟨f, h1, h2⟩ := h
  refine ⟨f, h1, fun l hl => ⟨(h2 l hl).1, fun r hr => ?_⟩⟩
  obtain ⟨v, h3, h4⟩ := (h2 l hl).2 r hr
  exact ⟨v, h3, h4.mono hB⟩
theorem MapC.made (B : Nat) (w : World) : MapC B (w.alloc (.map #[] 0)) w.heap.size 0 (fun _ => none) 0 :=
  ⟨fun _ => none, MapK.made _, fun _ _ => ⟨fun _ => rfl, fun _ h => by cases h⟩⟩
theorem zero_sli (w : World) : (zeroValue 22).run Try.prog w = .ok (.slice none 0 0) w := by kernel_rfl
/-- m[k]. -/
theorem MapC.look (h : MapC B w b n F s) (hk : KeyFit k) :
    ∃ v, (Instr.lookup 53 (.map (some b)) (.agg #[.int .i64 k.s, .int .i64 k.l, .int .i64 k.b]) false).run Try.prog w = .ok v w ∧ SliH B w v ((F k).getD []) := by
  obtain ⟨f, h1, h2⟩ := h
  have hrun := h1.look mapTy (zero_sli w) hk
  cases hF : F k with
  | none =>
    rw [(h2 k hk).1 hF] at hrun
    exact ⟨_, hrun, SliH.nil _ _⟩
  | some r =>
    obtain ⟨v, h3, h4⟩ := (h2 k hk).2 r hF
    rw [h3] at hrun
    exact ⟨v, hrun, h4⟩
theorem MapC.isSome {f : KeyN → Option Value} (h2 : ∀ l, KeyFit l → (F l = none → f l = none) ∧ ∀ r, F l = some r → ∃ v, f l = some v ∧ SliH B w v r) {l : KeyN} (hl : KeyFit l) : (f l).isSome = (F l).isSome := by
  cases hF : F l with
  | none => rw [(h2 l hl).1 hF]; rfl
  | some r =>
    obtain ⟨v, h3, _⟩ := (h2 l hl).2 r hF
    rw [h3]
    rfl
theorem MapC.len_ (h : MapC B w b n F s) (ty : TypeId) : (Builtin.len_ #[53] ty #[.map (some b)]).run Try.prog w = .ok (.int .i64 s) w := by
  obtain ⟨f, h1, _⟩ := h
  exact h1.len_ mapTy ty
def setR (F : KeyN → Option (List (Int × Nat))) (k : KeyN) (r : Option (List (Int × Nat))) : KeyN → Option (List (Int × Nat)) := fun x => if x = k then r else F x
/-- m[k] = v. -/
theorem MapC.store (h : MapC B w b n F s) (hn : n < maxLen) (hk : KeyFit k) {v : Value} {r : List (Int × Nat)} (hv : SliH B w v r) :
    ∃ w', (Instr.mapUpdate 53 (.map (some b)) (.agg #[.int .i64 k.s, .int .i64 k.l, .int .i64 k.b]) v).run Try.prog w = .ok () w' ∧ MapC B w' b (n + 1) (setR F k (some r)) (if (F k).isSome then s else s + 1) ∧ Mod (fun j => j = b) w w' := by
  have hnc := fun (t : TypeId) (cs : Array Value) => h.not_cells (t := t) (cs := cs)
  obtain ⟨f, h1, h2⟩ := h
  obtain ⟨w', hrun, h3, h4⟩ := h1.store mapTy hn hk v
  have hS : ∀ j cs, B ≤ j → Blk w j 31 cs → ¬ j = b := fun j cs _ hb e => hnc _ cs (by rw [← e]; exact hb)
  rw [MapC.isSome h2 hk] at h3
  refine ⟨w', hrun, ⟨_, h3, fun l hl => ?_⟩, h4⟩
  by_cases e : l = k
  · subst e
    simp only [setK, setR, if_true]
    exact ⟨fun e => (by cases e), fun r' hr => ⟨v, rfl, by injection hr with hr; rw [← hr]; exact hv.mod h4 hS⟩⟩
  · simp only [setK, setR, if_neg e]
    refine ⟨(h2 l hl).1, fun r' hr => ?_⟩
    obtain ⟨v', h5, h6⟩ := (h2 l hl).2 r' hr
    exact ⟨v', h5, h6.mod h4 hS⟩
/-- delete(m, k). -/
theorem MapC.drop (h : MapC B w b n F s) (hk : KeyFit k) (ty : TypeId) :
    ∃ w', (Builtin.delete_ #[53, 28] ty #[.map (some b), .agg #[.int .i64 k.s, .int .i64 k.l, .int .i64 k.b]]).run Try.prog w = .ok (.tuple #[]) w' ∧ MapC B w' b n (setR F k none) (if (F k).isSome then s - 1 else s) ∧ Mod (fun j => j = b) w w' := by
  have hnc := fun (t : TypeId) (cs : Array Value) => h.not_cells (t := t) (cs := cs)
  obtain ⟨f, h1, h2⟩ := h
  obtain ⟨w', hrun, h3, h4⟩ := h1.drop mapTy hk ty
  have hS : ∀ j cs, B ≤ j → Blk w j 31 cs → ¬ j = b := fun j cs _ hb e => hnc _ cs (by rw [← e]; exact hb)
  rw [MapC.isSome h2 hk] at h3
  refine ⟨w', hrun, ⟨_, h3, fun l hl => ?_⟩, h4⟩
  by_cases e : l = k
  · subst e
    simp only [setK, setR, if_true]
    exact ⟨fun _ => trivial, fun r' hr => by cases hr⟩
  · simp only [setK, setR, if_neg e]
    refine ⟨(h2 l hl).1, fun r' hr => ?_⟩
    obtain ⟨v', h5, h6⟩ := (h2 l hl).2 r' hr
    exact ⟨v', h5, h6.mod h4 hS⟩
end
/-- Its seven cells. -/
def cacC (c : ClkN) (vp : Value) (b : Nat) : Array Value := #[.int .i64 c.most, .int .i64 c.target, vp, .int .i64 c.hot, .int .i64 c.cold, .int .i64 c.test, .map (some b)]
/-- A cache at block g, its map at block b: pages of its own from B on, rows of samples in blocks from B on; N bounds how often it was put, and its pins. -/
structure CacV (B g b N : Nat) (w : World) (c : CacN) : Prop where
  good : GoodC c
  box : ∃ vp, Blk w g 55 (cacC c.clk vp b) ∧ OwnP B w 39 vp c.clk.ps
  map_ : MapC B w b N c.sam (framesC c)
  fit : ∀ k, (c.sam k).isSome = true → KeyFit k
  pins : PinsLe (N : Int) c.clk
  low : B ≤ w.heap.size
  short : ∀ k r, c.sam k = some r → r.length ≤ 100000
section
variable {w w' : World} {B g b N : Nat} {c : CacN}
theorem CacV.modS {S : Nat → Prop} (h : CacV B g b N w c) (hm : Mod S w w') (hg : ¬ S g) (hb : ¬ S b) (hp : ∀ j cs, B ≤ j → Blk w j 39 cs → ¬ S j) (hs : ∀ j cs, B ≤ j → Blk w j 31 cs → ¬ S j) : CacV B g b N w' c := by
  obtain ⟨h1, ⟨vp, h2, h3⟩, h4, h5, h6, h7, h8⟩ := h
  refine ⟨h1, ⟨vp, hm.blk h2 hg, OwnK.modS h3 hm (fun k hk => ?_)⟩, h4.mod hm hb hs, h5, h6, Nat.le_trans h7 hm.size, h8⟩
  obtain ⟨cs, hbk⟩ := own_blk h3 k hk
  exact hp k cs (OwnK.block h3 k hk).1 hbk
theorem CacV.new (h : CacV B g b N w c) (hm : Mod (fun _ => False) w w') : CacV B g b N w' c := h.modS hm id id (fun _ _ _ _ h => h) (fun _ _ _ _ h => h)
theorem CacV.more {N' : Nat} (h : CacV B g b N w c) (hN : N ≤ N') : CacV B g b N' w c := ⟨h.good, h.box, h.map_.more hN, h.fit, h.pins.mono (by omega), h.low, h.short⟩
theorem CacV.ne (h : CacV B g b N w c) : b ≠ g := by
  obtain ⟨vp, h2, _⟩ := h.box
  exact fun e => h.map_.not_cells (by rw [e]; exact h2)
theorem CacV.lt (h : CacV B g b N w c) : g < w.heap.size ∧ b < w.heap.size := by
  obtain ⟨vp, h2, _⟩ := h.box
  exact ⟨h2.lt, h.map_.lt⟩
end
set_option maxHeartbeats 1000000 in
set_option maxRecDepth 100000 in
theorem ccCopied_any (A : Option Addr) (n c : Nat) (l : List (Int × Nat)) (w : World) (hs : RdsS w w.heap.size A n l) (hm : n ≤ 1000000) :
    Calls Try.prog 21 #[.slice A n c] w fun e w' => ∃ v, e = .returned v ∧ OwnS w.heap.size w' v l ∧ Mod (fun _ => False) w w' := by
  have Hown : Hid (OwnK 2 w.heap.size w 31 (.slice none 0 0) []) := Lib.hid (OwnK.nilS _ _)
  have Hr := Lib.hid hs.toK
  have Hone := Lib.hid (oneS l)
  have hr1 : ([] : List (List Value)).length + n ≤ maxLen := by unfold maxLen; simp; omega
  have hr2 : (([] : List (List Value)).length + n) * 16 ≤ 140737488355328 := by simp; omega
  clear hs
  go_enter Try.func21, Try.ntmps21
  go_wp2_with (at_builtin; refine wpList_appK rfl (.const (.slice none 0 0)) (.tmp 3) _ rfl eltS2 rfl Hown.out rfl Hr.out Hone.out hr1 hr2 (Nat.le_refl _) ?_; intro v4 w4 HO HB HG; clear HG)
  go_ret
  exact ⟨_, rfl, by have := HO.out; rw [List.nil_append] at this; exact this.toS, (Mod.of_below HB.out).mono (fun i hi h => by omega)⟩
end Go.Proofs.Ytcoajldhhimmoaa

/- What the cache's calls do to its clock: mathematics; its clock stored; who has pins. -/
namespace Go.Proofs.Ytcoajldhhimmoaa
open Go.RowKit

theorem pin_none {c : ClkN} {k : KeyN} {m : Int} (e : (pinK c k m).2 = false) : (pinK c k m).1 = c := by
  unfold pinK at e ⊢
  cases hf : findK k c.ps with
  | none => rfl
  | some i =>
    rw [hf] at e
    obtain ⟨p, hp, _⟩ := findK_some hf
    simp only [hp] at e ⊢
    by_cases hr : p.resi = true
    · rw [if_pos hr] at e; cases e
    · rw [if_neg hr]
theorem cnt_put {A B : List PagN} {p q : PagN} (h : q.kind = p.kind) (n : Int) : cntK n (A ++ q :: B) = cntK n (A ++ p :: B) := by
  unfold cntK
  simp only [List.countP_append, List.countP_cons, h]
theorem pin_cntK {c : ClkN} {k : KeyN} {m : Int} (n : Int) : cntK n (pinK c k m).1.ps = cntK n c.ps := by
  unfold pinK
  cases hf : findK k c.ps with
  | none => rfl
  | some i =>
    obtain ⟨p, hp, _⟩ := findK_some hf
    simp only [hp]
    by_cases hr : p.resi = true
    · rw [if_pos hr]
      obtain ⟨A, B, e, rfl⟩ := split_at hp
      show cntK n (c.ps.set A.length _) = _
      rw [e, set_split]
      exact cnt_put (p := p) (q := { p with pins := max (p.pins + m) 0 }) rfl n
    · rw [if_neg hr]
theorem touch_cntK {c : ClkN} {k : KeyN} (n : Int) : cntK n (touchK c k).1.ps = cntK n c.ps := by
  unfold touchK
  cases hf : findK k c.ps with
  | none => rfl
  | some i =>
    obtain ⟨p, hp, _⟩ := findK_some hf
    simp only [hp]
    by_cases hr : p.resi = true
    · rw [if_pos hr]
      obtain ⟨A, B, e, rfl⟩ := split_at hp
      show cntK n (c.ps.set A.length _) = _
      rw [e, set_split]
      exact cnt_put (p := p) (q := { p with ref := true }) rfl n
    · rw [if_neg hr]
theorem pin_frames (c : CacN) (k : KeyN) (m : Int) : framesC { c with clk := (pinK c.clk k m).1 } = framesC c := by
  show cntK 1 (pinK c.clk k m).1.ps + cntK 2 (pinK c.clk k m).1.ps = cntK 1 c.clk.ps + cntK 2 c.clk.ps
  rw [pin_cntK, pin_cntK]
theorem touch_frames (c : CacN) (k : KeyN) : framesC { c with clk := (touchK c.clk k).1 } = framesC c := by
  show cntK 1 (touchK c.clk k).1.ps + cntK 2 (touchK c.clk k).1.ps = cntK 1 c.clk.ps + cntK 2 c.clk.ps
  rw [touch_cntK, touch_cntK]
theorem pins_found {c : ClkN} {k : KeyN} {i : Nat} {p : PagN} (hf : findK k c.ps = some i) (hp : c.ps[i]? = some p) : pinsC c k = p.pins := by
  unfold pinsC
  rw [hf]
  simp only [hp]
theorem pins_lost {c : ClkN} {k : KeyN} (hf : findK k c.ps = none) : pinsC c k = 0 := by
  unfold pinsC
  rw [hf]
/-- Who has pins is resident. -/
theorem pins_resi {c : ClkN} (h : Good c) {k : KeyN} (hp : 0 < pinsC c k) : resAt c k = true := by
  cases hf : findK k c.ps with
  | none => rw [pins_lost hf] at hp; omega
  | some i =>
    obtain ⟨p, hp2, _⟩ := findK_some hf
    rw [pins_found hf hp2] at hp
    unfold resAt
    rw [hf]
    simp only [hp2]
    have hok := h.base.ok_at hp2
    refine (resi_of hok).2 (fun e => ?_)
    have := hok.2.2 e
    omega
theorem pins_pos {c : ClkN} (h : Good c) (k : KeyN) : 0 ≤ pinsC c k := by
  cases hf : findK k c.ps with
  | none => rw [pins_lost hf]; exact Int.le_refl _
  | some i =>
    obtain ⟨p, hp2, _⟩ := findK_some hf
    rw [pins_found hf hp2]
    exact (h.base.ok_at hp2).2.1
theorem CacV.open_ {B g b N : Nat} {w : World} {c : CacN} (h : CacV B g b N w c) : ∃ A n cap, Hid (Blk w g 55 (cacC c.clk (.slice A n cap) b)) ∧ Hid (OwnP B w 39 (.slice A n cap) c.clk.ps) ∧ Hid (c.clk.ps.length = n) ∧ Hid (RdsP w w.heap.size A n c.clk.ps) := by
  obtain ⟨vp, h1, h2⟩ := h.box
  obtain ⟨A, cap, rfl, _, _, h3⟩ := OwnP.form h2
  exact ⟨A, _, cap, Lib.hid h1, Lib.hid h2, Lib.hid rfl, Lib.hid h3⟩
/-- A new clock is stored. -/
theorem cac_stored {B B2 g g7 b N : Nat} {w : World} {c : CacN} {c2 : ClkN} {A A7 : Option Addr} {n cap n7 c7 : Nat} (h : CacV B g b N w c) (hB : B ≤ B2) (hb : Blk w g 55 (cacC c.clk (.slice A n cap) b)) (hc : ClkV B2 g7 w (.slice A7 n7 c7) c2) :
    ∃ w8, w8 = (((((w.setCell ⟨g, 0, none⟩ (.int .i64 c2.most)).setCell ⟨g, 1, none⟩ (.int .i64 c2.target)).setCell ⟨g, 2, none⟩ (.slice A7 n7 c7)).setCell ⟨g, 3, none⟩ (.int .i64 (c2.hot : Int))).setCell ⟨g, 4, none⟩ (.int .i64 (c2.cold : Int))).setCell ⟨g, 5, none⟩ (.int .i64 (c2.test : Int)) ∧
      Blk w8 g 55 (cacC c2 (.slice A7 n7 c7) b) ∧ OwnP B w8 39 (.slice A7 n7 c7) c2.ps ∧ MapC B w8 b N c.sam (framesC c) ∧ Mod (fun j => j = g) w w8 := by
  obtain ⟨w8, hw8⟩ : ∃ w8, w8 = (((((w.setCell ⟨g, 0, none⟩ (.int .i64 c2.most)).setCell ⟨g, 1, none⟩ (.int .i64 c2.target)).setCell ⟨g, 2, none⟩ (.slice A7 n7 c7)).setCell ⟨g, 3, none⟩ (.int .i64 (c2.hot : Int))).setCell ⟨g, 4, none⟩ (.int .i64 (c2.cold : Int))).setCell ⟨g, 5, none⟩ (.int .i64 (c2.test : Int)) := ⟨_, rfl⟩
  have hm8 : Mod (fun j => j = g) w w8 := by rw [hw8]; exact Mod.six_one _ _ _ _ _ _ _ _
  have hb8 : Blk w8 g 55 (cacC c2 (.slice A7 n7 c7) b) := by
    have h1 := ((((((hb.set_ 0 (.int .i64 c2.most)).set_ 1 (.int .i64 c2.target)).set_ 2 (.slice A7 n7 c7)).set_ 3 (.int .i64 (c2.hot : Int))).set_ 4 (.int .i64 (c2.cold : Int))).set_ 5 (.int .i64 (c2.test : Int)))
    rw [hw8]
    simpa [cacC] using h1
  refine ⟨w8, hw8, hb8, OwnK.mono (OwnK.modS hc.ps hm8 (fun k hk e => own_blk_ne hc.ps.2 hb (by decide) (by rw [hk, e]))) hB, h.map_.mod hm8 h.ne (fun j cs _ hj e => ?_), hm8⟩
  subst e
  exact Blk.ne_ hj hb (by decide) rfl
set_option maxHeartbeats 4000000 in
set_option maxRecDepth 100000 in
theorem ccIsPinned_any {B g b N : Nat} {c : CacN} (k : KeyN) (w : World) (h : CacV B g b N w c) : Calls Try.prog 23 #[.pointer (some ⟨g, 0, none⟩), .agg #[.int .i64 k.s, .int .i64 k.l, .int .i64 k.b]] w fun e w' => e = .returned (.bool (decide (0 < pinsC c.clk k))) ∧ Mod (fun _ => False) w w' := by
  obtain ⟨A, n, cap, Hb, Hp, Hn, Hr⟩ := h.open_
  obtain ⟨W, hW, hmW, hkW, hzW⟩ := Blk.boxed w 28 #[.int .i64 k.s, .int .i64 k.l, .int .i64 k.b]
  obtain ⟨g4, hg4⟩ : ∃ g, g = w.heap.size := ⟨_, rfl⟩
  rw [← hg4] at hkW
  have Hh := Lib.hid h
  have Hhw := Lib.hid (h.new hmW)
  have HW := Lib.hid hW; have HmW := Lib.hid hmW; have HkW := Lib.hid hkW; have Hg4 := Lib.hid hg4
  have Hne4 : Hid (g4 ≠ g ∧ g < w.heap.size) := Lib.hid (by have := h.lt; omega)
  have HbW := Lib.hid (hmW.blk Hb.out (fun h => h))
  have Hn2 : Hid (n ≤ 2000) := Lib.hid (by have h1 := Hn.out; have h9 : c.clk.ps.length ≤ 2000 := h.good.clk.len; omega)
  clear h hW hmW hkW hg4 hzW
  obtain ⟨z, hz⟩ : ∃ z, placeK k c.clk.ps = z := ⟨_, rfl⟩
  have Hz := Lib.hid hz
  clear hz
  have HF : Hid (∀ W', Mod (fun _ => False) W W' → Calls Try.prog 35 #[.agg #[.int .i64 c.clk.most, .int .i64 c.clk.target, .slice A n cap, .int .i64 (c.clk.hot : Int), .int .i64 (c.clk.cold : Int), .int .i64 (c.clk.test : Int)], .agg #[.int .i64 k.s, .int .i64 k.l, .int .i64 k.b]] W' fun e w' => e = .returned (.int .i64 z) ∧ Mod (fun _ => False) W' w') := Lib.hid (fun W' h => by
    have h := find_any c.clk k A n cap W' (RdsP.new Hr.out (HmW.out.trans h (fun _ _ h => h))).fit (by have := Hn2.out; omega)
    rw [Hz.out] at h
    exact h)
  have y0 := HbW.out.cell 0
  have y1 := HbW.out.cell 1
  have y2 := HbW.out.cell 2
  have y3 := HbW.out.cell 3
  have y4 := HbW.out.cell 4
  have y5 := HbW.out.cell 5
  have y6 := HbW.out.cell 6
  simp [cacC] at y0 y1 y2 y3 y4 y5 y6
  have z0 := HkW.out.cell 0
  have z1 := HkW.out.cell 1
  have z2 := HkW.out.cell 2
  simp at z0 z1 z2
  go_enter Try.func23, Try.ntmps23
  go_upto_region 1 with fail
  rw [← HW.out, ← Hg4.out]
  go_cut [5] from 5 to 11 (fun s5 wx => s5 = .int .i64 z ∧ Mod (fun _ => False) W wx)
  case first =>
    as_aux_lemma =>
      go_region_with (go_at_call 35; (with_reducible refine (HF.out W.drew ((Mod.refl _ _).drew)).mono ?_); rintro e w5 ⟨rfl, h3⟩; have H3 : Hid (Mod (fun _ => False) W w5) := Lib.hid (((Mod.refl _ _).drew).trans h3 (fun _ _ h => h)); clear h3)
      all_goals (go_wp2_with fail; go_meet)
      all_goals exact ⟨rfl, H3.out⟩
  obtain ⟨w5, rfl⟩ : ∃ w0 : World, w0 = wc := ⟨_, rfl⟩
  obtain ⟨rfl, h3⟩ := hcut
  have H3 := Lib.hid h3
  clear h3
  have HmE := Lib.hid (HmW.out.trans H3.out (fun _ _ h => h))
  have hb5 := H3.out.blk HbW.out (fun h => h)
  have u2 := hb5.cell 2
  simp [cacC] at u2
  clear hb5 y0 y1 y2 y3 y4 y5 y6 z0 z1 z2
  cases hf : findK k c.clk.ps with
  | none =>
    have hz : z = -1 := by rw [← Hz.out]; unfold placeK; rw [hf]
    subst hz
    go_wp2_with fail
    go_ret
    exact ⟨by rw [pins_lost hf]; rfl, HmE.out⟩
  | some i =>
    have hz : z = (i : Int) := by rw [← Hz.out]; unfold placeK; rw [hf]
    subst hz
    obtain ⟨p, hp, _⟩ := findK_some hf
    have hin : i < n := by rw [← Hn.out]; exact (List.getElem?_eq_some_iff.1 hp).1
    obtain ⟨ad, q, e1, _, hq, c0, c1, c2, c3, c4, c5, c6⟩ := RdsP.at_ (i := i) (RdsP.new Hr.out HmE.out) hin
    subst e1
    rw [hp] at hq
    injection hq with hq
    subst hq
    clear c0 c1 c2 c3 c4 c5
    obtain ⟨P, hP⟩ : ∃ P, p.pins = P := ⟨_, rfl⟩
    have HP : Hid (pinsC c.clk k = P) := Lib.hid (by rw [pins_found hf hp, hP])
    rw [hP] at c6
    have hi0 : (0 : Int) ≤ (i : Int) := by omega
    have hi1 : (i : Int) < (n : Int) := by omega
    clear hP hf hp
    go_wp2_with fail
    go_ret
    exact ⟨by rw [HP.out]; rfl, HmE.out⟩
end Go.Proofs.Ytcoajldhhimmoaa

/- A map by whole numbers whose elements are told by a word of one's own; bytes that live anywhere in blocks of bytes from B on. -/
import Derived.Test.YtnfpbjioiiedeaaHd
import Derived.Test.YtnfpbjioiiedeaaMkz
import Derived.Test.YtnfpbjioiiedeaaRow
import Derived.Test.YtnfpbjioiiedeaaUg
namespace Go.Proofs.Ytnfpbjioiiedeaa
open Go.RowKit Go.Maps

/-- At each number that fits there stands a value of which R says what F says. -/
def MapG {α : Type} (R : World → Value → α → Prop) (w : World) (b n : Nat) (F : Int → Option α) (s : Nat) : Prop :=
  ∃ f, MapZ w b n f s ∧ ∀ k, FitI k → (F k = none → f k = none) ∧ ∀ x, F k = some x → ∃ v, f k = some v ∧ R w v x
def setG {α : Type} (F : Int → Option α) (k : Int) (r : Option α) : Int → Option α := fun x => if x = k then r else F x
section
variable {α : Type} {R : World → Value → α → Prop} {w w' : World} {e t : TypeId} {b n s : Nat} {F : Int → Option α} {k : Int}
theorem MapG.lt (h : MapG R w b n F s) : b < w.heap.size := by obtain ⟨f, h1, _⟩ := h; exact h1.lt
theorem MapG.size_le (h : MapG R w b n F s) : s ≤ n := by obtain ⟨f, h1, _⟩ := h; exact h1.size_le
theorem MapG.not_cells (h : MapG R w b n F s) {t : TypeId} {cs : Array Value} : ¬ Blk w b t cs := by obtain ⟨f, h1, _⟩ := h; exact h1.not_cells
theorem MapG.more {n' : Nat} (h : MapG R w b n F s) (hn : n ≤ n') : MapG R w b n' F s := by obtain ⟨f, h1, h2⟩ := h; exact ⟨f, h1.more hn, h2⟩
theorem MapG.mod {S : Nat → Prop} (h : MapG R w b n F s) (hm : Mod S w w') (hb : ¬ S b) (hR : ∀ v x, R w v x → R w' v x) : MapG R w' b n F s := by
  obtain ⟨f, h1, h2⟩ := h
  refine ⟨f, h1.mod hm hb, fun l hl => ⟨(h2 l hl).1, fun r hr => ?_⟩⟩
  obtain ⟨v, h3, h4⟩ := (h2 l hl).2 r hr
  exact ⟨v, h3, hR _ _ h4⟩
theorem MapG.mono {R' : World → Value → α → Prop} (h : MapG R w b n F s) (hR : ∀ v x, R w v x → R' w v x) : MapG R' w b n F s := by
  obtain ⟨f, h1, h2⟩ := h
  refine ⟨f, h1, fun l hl => ⟨(h2 l hl).1, fun r hr => ?_⟩⟩
  obtain ⟨v, h3, h4⟩ := (h2 l hl).2 r hr
  exact ⟨v, h3, hR _ _ h4⟩
theorem MapG.made (R : World → Value → α → Prop) (w : World) : MapG R (w.alloc (.map #[] 0)) w.heap.size 0 (fun _ => none) 0 :=
  ⟨fun _ => none, MapZ.made _, fun _ _ => ⟨fun _ => rfl, fun _ h => by cases h⟩⟩
theorem MapG.len_ (h : MapG R w b n F s) (ht : Try.prog.underlying t = some (.map 3 e)) (ty : TypeId) : (Builtin.len_ #[t] ty #[.map (some b)]).run Try.prog w = .ok (.int .i64 s) w := by
  obtain ⟨f, h1, _⟩ := h
  exact h1.len_ ht ty
theorem MapG.isSome {f : Int → Option Value} (h2 : ∀ l, FitI l → (F l = none → f l = none) ∧ ∀ x, F l = some x → ∃ v, f l = some v ∧ R w v x) {l : Int} (hl : FitI l) : (f l).isSome = (F l).isSome := by
  cases hF : F l with
  | none => rw [(h2 l hl).1 hF]; rfl
  | some r =>
    obtain ⟨v, h3, _⟩ := (h2 l hl).2 r hF
    rw [h3]
    rfl
/-- m[k]: the zero where there is none. -/
theorem MapG.look (h : MapG R w b n F s) (ht : Try.prog.underlying t = some (.map 3 e)) {z : Value} (hz : (zeroValue e).run Try.prog w = .ok z w) (hk : FitI k) :
    ∃ v, (Instr.lookup t (.map (some b)) (.int .i64 k) false).run Try.prog w = .ok v w ∧ (F k = none → v = z) ∧ ∀ x, F k = some x → R w v x := by
  obtain ⟨f, h1, h2⟩ := h
  refine ⟨_, h1.look ht hz hk, fun hF => by rw [(h2 k hk).1 hF]; rfl, fun x hx => ?_⟩
  obtain ⟨v, h3, h4⟩ := (h2 k hk).2 x hx
  rw [h3]
  exact h4
/-- v, ok := m[k]. -/
theorem MapG.look_ok (h : MapG R w b n F s) (ht : Try.prog.underlying t = some (.map 3 e)) {z : Value} (hz : (zeroValue e).run Try.prog w = .ok z w) (hk : FitI k) :
    ∃ v, (Instr.lookup t (.map (some b)) (.int .i64 k) true).run Try.prog w = .ok (.tuple #[v, .bool (F k).isSome]) w ∧ (F k = none → v = z) ∧ ∀ x, F k = some x → R w v x := by
  obtain ⟨f, h1, h2⟩ := h
  have hrun := h1.look_ok ht hz hk
  rw [MapG.isSome h2 hk] at hrun
  refine ⟨_, hrun, fun hF => by rw [(h2 k hk).1 hF]; rfl, fun x hx => ?_⟩
  obtain ⟨v, h3, h4⟩ := (h2 k hk).2 x hx
  rw [h3]
  exact h4
/-- m[k] = v. -/
theorem MapG.store (h : MapG R w b n F s) (ht : Try.prog.underlying t = some (.map 3 e)) (hn : n < maxLen) (hk : FitI k) (hR : ∀ w' v x, Mod (fun j => j = b) w w' → R w v x → R w' v x) {v : Value} {x : α} (hv : R w v x) :
    ∃ w', (Instr.mapUpdate t (.map (some b)) (.int .i64 k) v).run Try.prog w = .ok () w' ∧ MapG R w' b (n + 1) (setG F k (some x)) (if (F k).isSome then s else s + 1) ∧ Mod (fun j => j = b) w w' := by
  obtain ⟨f, h1, h2⟩ := h
  obtain ⟨w', hrun, h3, h4⟩ := h1.store ht hn hk v
  rw [MapG.isSome h2 hk] at h3
  refine ⟨w', hrun, ⟨_, h3, fun l hl => ?_⟩, h4⟩
  by_cases e : l = k
  · subst e
    simp only [setZ, setG, if_true]
    exact ⟨fun e => (by cases e), fun r' hr => ⟨v, rfl, by injection hr with hr; rw [← hr]; exact hR _ _ _ h4 hv⟩⟩
  · simp only [setZ, setG, if_neg e]
    refine ⟨(h2 l hl).1, fun r' hr => ?_⟩
    obtain ⟨v', h5, h6⟩ := (h2 l hl).2 r' hr
    exact ⟨v', h5, hR _ _ _ h4 h6⟩
/-- delete(m, k). -/
theorem MapG.drop (h : MapG R w b n F s) (ht : Try.prog.underlying t = some (.map 3 e)) (hk : FitI k) (hR : ∀ w' v x, Mod (fun j => j = b) w w' → R w v x → R w' v x) (ty : TypeId) :
    ∃ w', (Builtin.delete_ #[t, 3] ty #[.map (some b), .int .i64 k]).run Try.prog w = .ok (.tuple #[]) w' ∧ MapG R w' b n (setG F k none) (if (F k).isSome then s - 1 else s) ∧ Mod (fun j => j = b) w w' := by
  obtain ⟨f, h1, h2⟩ := h
  obtain ⟨w', hrun, h3, h4⟩ := h1.drop ht hk ty
  rw [MapG.isSome h2 hk] at h3
  refine ⟨w', hrun, ⟨_, h3, fun l hl => ?_⟩, h4⟩
  by_cases e : l = k
  · subst e
    simp only [setZ, setG, if_true]
    exact ⟨fun _ => trivial, fun r' hr => by cases hr⟩
  · simp only [setZ, setG, if_neg e]
    refine ⟨(h2 l hl).1, fun r' hr => ?_⟩
    obtain ⟨v', h5, h6⟩ := (h2 l hl).2 r' hr
    exact ⟨v', h5, hR _ _ _ h4 h6⟩
end
/-- The slice v reads as these bytes; it lies in a block of bytes that B says may be. -/
def SliB (B : Nat → Prop) (w : World) (v : Value) (bs : List Nat) : Prop :=
  ∃ A n c, v = .slice A n c ∧ bs.length = n ∧ n ≤ c ∧ c ≤ maxLen ∧ (0 < n → ∃ g o cs, A = some ⟨g, o, none⟩ ∧ B g ∧ Blk w g 5 cs ∧ ∀ j u, (cells8 bs)[j]? = some u → cs[o + j]? = some u)
section
variable {w w' : World} {B B' : Nat → Prop} {v : Value} {bs : List Nat}
theorem SliB.nil (B : Nat → Prop) (w : World) : SliB B w (.slice none 0 0) [] := ⟨none, 0, 0, rfl, rfl, Nat.le_refl _, Nat.zero_le _, fun h => absurd h (by decide)⟩
theorem SliB.form (h : SliB B w v bs) : ∃ A n c, v = .slice A n c ∧ Hid (bs.length = n) ∧ n ≤ c ∧ c ≤ maxLen ∧ Rds w w.heap.size A n (cells8 bs) := by
  obtain ⟨A, n, c, e, h1, h2, h3, h4⟩ := h
  refine ⟨A, n, c, e, Lib.hid h1, h2, h3, by rw [cells8_length, h1], fun h0 => ?_⟩
  obtain ⟨g, o, cs, rfl, _, hb, hc⟩ := h4 h0
  exact ⟨_, rfl, hb.lt, fun j u hu => by rw [add_addr, hb.cell]; exact hc j u hu⟩
theorem SliB.rds {A : Option Addr} {n c : Nat} (h : SliB B w (.slice A n c) bs) : bs.length = n ∧ n ≤ c ∧ c ≤ maxLen ∧ Rds w w.heap.size A n (cells8 bs) := by
  obtain ⟨A', n', c', e, h1, h2, h3, h4⟩ := h.form
  injection e with e1 e2 e3
  subst e1 e2 e3
  exact ⟨h1.out, h2, h3, h4⟩
theorem SliB.mod {S : Nat → Prop} (h : SliB B w v bs) (hm : Mod S w w') (hS : ∀ k cs, B k → Blk w k 5 cs → ¬ S k) : SliB B w' v bs := by
  obtain ⟨A, n, c, e, h1, h2, h3, h4⟩ := h
  refine ⟨A, n, c, e, h1, h2, h3, fun h0 => ?_⟩
  obtain ⟨g, o, cs, e1, hB, hb, hc⟩ := h4 h0
  exact ⟨g, o, cs, e1, hB, hm.blk hb (hS g cs hB hb), hc⟩
theorem SliB.new (h : SliB B w v bs) (hm : Mod (fun _ => False) w w') : SliB B w' v bs := h.mod hm (fun _ _ _ _ h => h)
theorem SliB.mono (h : SliB B w v bs) (hB : ∀ k, B k → B' k) : SliB B' w v bs := by
  obtain ⟨A, n, c, e, h1, h2, h3, h4⟩ := h
  refine ⟨A, n, c, e, h1, h2, h3, fun h0 => ?_⟩
  obtain ⟨g, o, cs, e1, hB2, hb, hc⟩ := h4 h0
  exact ⟨g, o, cs, e1, hB g hB2, hb, hc⟩
/-- Its block is one of those that there are. -/
theorem SliB.tight (h : SliB B w v bs) : SliB (fun k => B k ∧ k < w.heap.size) w v bs := by
  obtain ⟨A, n, c, e, h1, h2, h3, h4⟩ := h
  refine ⟨A, n, c, e, h1, h2, h3, fun h0 => ?_⟩
  obtain ⟨g, o, cs, e1, hB2, hb, hc⟩ := h4 h0
  exact ⟨g, o, cs, e1, ⟨hB2, hb.lt⟩, hb, hc⟩
theorem SliB.of_own {B0 : Nat} (h : Own B0 w 5 v (cells8 bs)) (hB0 : ∀ k, B0 ≤ k → B k) : SliB B w v bs := by
  rcases h.2 with ⟨rfl, h0⟩ | ⟨g, cap, cur, rfl, hB, hgg, hnc, hcm, hcs, htk⟩
  · rw [cells8_length] at h0
    obtain rfl : bs = [] := List.eq_nil_of_length_eq_zero h0
    exact SliB.nil _ _
  · rw [cells8_length] at hnc
    refine ⟨_, _, _, rfl, by rw [cells8_length], by rw [cells8_length]; exact hnc, hcm, fun _ => ⟨g, 0, cur, rfl, hB0 g hB, hgg, fun j u hu => ?_⟩⟩
    rw [← htk, List.getElem?_take] at hu
    split at hu
    · rw [Nat.zero_add]; simpa using hu
    · cases hu
end
end Go.Proofs.Ytnfpbjioiiedeaa

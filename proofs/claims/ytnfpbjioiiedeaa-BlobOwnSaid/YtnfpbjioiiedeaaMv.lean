/- A map of the call's own whose elements are taken as they are (slices, pointers, numbers, strings): which value stands at which key, and how many there are. -/
import Derived.Test.YtnfpbjioiiedeaaHd
import Derived.Test.YtnfpbjioiiedeaaMem
import Derived.Maps.OwnSet
import Derived.Maps.Views
namespace Go.Proofs.Ytnfpbjioiiedeaa
open Go.RowKit Go.Maps

/-- Whatever the value is: it is taken as it is. -/
def valR (v : Value) : Option (DataW Value × List MemPlace) := some (.held v, [])
theorem valR_inv {v : Value} {d : DataW Value} {ps : List MemPlace} (h : valR v = some (d, ps)) : d = .held v := by
  injection h with h
  injection h with h _
  exact h.symm
open Classical in
/-- At kl there stands v from now on. -/
noncomputable def putL (f : Lit → Option Value) (kl : Lit) (v : Option Value) : Lit → Option Value := fun l => if l = kl then v else f l
theorem putL_same (f : Lit → Option Value) (kl : Lit) (v : Option Value) : putL f kl v kl = v := if_pos rfl
theorem putL_other (f : Lit → Option Value) {kl l : Lit} (v : Option Value) (h : l ≠ kl) : putL f kl v l = f l := if_neg h
/-- Block b is a map; at l there stands f l; s keys in all (n at most). -/
def MapV (w : World) (P : Program) (k : TypeId) (b n : Nat) (f : Lit → Option Value) (s : Nat) : Prop :=
  ∃ D, w.ownsMap P k valR b n D ∧ Maps.size D = s ∧ ∀ l, Maps.has D l = (f l).isSome ∧ ∀ z, D.atKey l (.held z) = .held ((f l).getD z)
section
variable {w w' : World} {P : Program} {k e t : TypeId} {b n s : Nat} {f : Lit → Option Value}
theorem MapV.lt (h : MapV w P k b n f s) : b < w.heap.size := by obtain ⟨D, h1, _⟩ := h; exact World.ownsMap.lt h1
theorem MapV.mod {S : Nat → Prop} (h : MapV w P k b n f s) (hm : Mod S w w') (hb : ¬ S b) : MapV w' P k b n f s := by
  have hlt := h.lt
  obtain ⟨D, ⟨es, clock, h1, h2⟩, h3⟩ := h
  exact ⟨D, ⟨es, clock, (hm.block b hlt hb).trans h1, h2⟩, h3⟩
theorem MapV.made (w : World) (P : Program) (k : TypeId) : MapV (w.alloc (.map #[] 0)) P k w.heap.size 0 (fun _ => none) 0 :=
  ⟨.map [], World.ownsMap_made _ _ _ _, rfl, fun _ => ⟨rfl, fun _ => rfl⟩⟩
theorem MapV.more {n' : Nat} (h : MapV w P k b n f s) (hn : n ≤ n') : MapV w P k b n' f s := by
  obtain ⟨D, h1, h2⟩ := h
  exact ⟨D, World.ownsMap.mono h1 hn, h2⟩
theorem MapV.size_le (h : MapV w P k b n f s) : s ≤ n := by
  obtain ⟨D, h1, rfl, _⟩ := h
  exact World.ownsMap.size_le h1
theorem MapV.same {f' : Lit → Option Value} (h : MapV w P k b n f s) (e : ∀ l, f' l = f l) : MapV w P k b n f' s := by rw [funext e]; exact h
/-- m[k]. -/
theorem MapV.look (h : MapV w P k b n f s) (K : Keyed P k) (ht : P.underlying t = some (.map k e)) {z : Value} (hz : (zeroValue e).run P w = .ok z w) {key : Value} {kl : Lit} (hkey : keyOf P k key = some kl) :
    (Instr.lookup t (.map (some b)) key false).run P w = .ok ((f kl).getD z) w := by
  obtain ⟨D, h1, _, h3⟩ := h
  obtain ⟨v, ps, hrun, hv⟩ := World.ownsMap.lookup h1 K ht hz (zd := .held z) (zp := []) rfl hkey
  rw [(h3 kl).2 z] at hv
  have := valR_inv hv
  injection this with this
  rw [hrun, this]
/-- v, ok := m[k]. -/
theorem MapV.look_ok (h : MapV w P k b n f s) (K : Keyed P k) (ht : P.underlying t = some (.map k e)) {z : Value} (hz : (zeroValue e).run P w = .ok z w) {key : Value} {kl : Lit} (hkey : keyOf P k key = some kl) :
    (Instr.lookup t (.map (some b)) key true).run P w = .ok (.tuple #[(f kl).getD z, .bool (f kl).isSome]) w := by
  obtain ⟨D, h1, _, h3⟩ := h
  obtain ⟨v, ps, hrun, hv⟩ := World.ownsMap.look_ok h1 K ht hz (zd := .held z) (zp := []) rfl hkey
  rw [(h3 kl).2 z] at hv
  have := valR_inv hv
  injection this with this
  rw [hrun, this, (h3 kl).1]
/-- len(m). -/
theorem MapV.len_ (h : MapV w P k b n f s) (ht : P.underlying t = some (.map k e)) (ty : TypeId) : (Builtin.len_ #[t] ty #[.map (some b)]).run P w = .ok (.int .i64 s) w := by
  obtain ⟨D, h1, rfl, _⟩ := h
  exact World.ownsMap.len h1 ht ty
theorem turned_mod {b : Nat} (h : w.mapTurned w' b) : Mod (fun j => j = b) w w' := (Mod.refl (fun j => j = b) w).grown h.grown (fun j hj _ => by injection hj with hj; exact hj.symm)
/-- m[k] = v. -/
theorem MapV.store (h : MapV w P k b n f s) (K : Keyed P k) (ht : P.underlying t = some (.map k e)) (hn : n < maxLen) {key : Value} (val : Value) {kl : Lit} (hkey : keyOf P k key = some kl) :
    ∃ w', (Instr.mapUpdate t (.map (some b)) key val).run P w = .ok () w' ∧ MapV w' P k b (n + 1) (putL f kl (some val)) (if (f kl).isSome then s else s + 1) ∧ Mod (fun j => j = b) w w' := by
  obtain ⟨D, h1, h2, h3⟩ := h
  obtain ⟨w', hrun, h4, h5⟩ := World.ownsMap.store h1 K ht hn hkey (val := val) (d := .held val) (ps := []) rfl
  refine ⟨w', hrun, ⟨D.put kl (.held val), h4, ?_, fun l => ?_⟩, turned_mod h5⟩
  · rw [size_put (World.ownsMap.tidy h1 K), (h3 kl).1, h2]
  · by_cases e : l = kl
    · subst e
      rw [putL_same, has_put_same (World.ownsMap.isMap h1) (K.key hkey)]
      exact ⟨rfl, fun z => by rw [atKey_put_same (World.ownsMap.isMap h1) (K.key hkey)]; rfl⟩
    · rw [putL_other _ _ e, has_put_other e]
      exact ⟨(h3 l).1, fun z => by rw [atKey_put_other e]; exact (h3 l).2 z⟩
/-- delete(m, k). -/
theorem MapV.drop (h : MapV w P k b n f s) (K : Keyed P k) (ht : P.underlying t = some (.map k e)) {key : Value} {kl : Lit} (hkey : keyOf P k key = some kl) (ty : TypeId) :
    ∃ w', (Builtin.delete_ #[t, k] ty #[.map (some b), key]).run P w = .ok (.tuple #[]) w' ∧ MapV w' P k b n (putL f kl none) (if (f kl).isSome then s - 1 else s) ∧ Mod (fun j => j = b) w w' := by
  obtain ⟨D, h1, h2, h3⟩ := h
  obtain ⟨w', hrun, h4, h5⟩ := World.ownsMap.drop h1 K ht hkey ty
  refine ⟨w', hrun, ⟨D.del kl, h4, ?_, fun l => ?_⟩, turned_mod h5⟩
  · have := size_del (k := kl) (World.ownsMap.tidy h1 K)
    rw [(h3 kl).1] at this
    split
    · rename_i hs
      rw [if_pos hs] at this
      omega
    · rename_i hs
      rw [if_neg hs] at this
      omega
  · by_cases e : l = kl
    · subst e
      rw [putL_same, has_del_same]
      exact ⟨rfl, fun z => by rw [atKey_del_same]; rfl⟩
    · rw [putL_other _ _ e, has_del_other e]
      exact ⟨(h3 l).1, fun z => by rw [atKey_del_other e]; exact (h3 l).2 z⟩
end
end Go.Proofs.Ytnfpbjioiiedeaa

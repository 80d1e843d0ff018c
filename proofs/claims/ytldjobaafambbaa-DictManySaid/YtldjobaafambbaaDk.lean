/- What a dictionary's map says of a list of values; a list of numbers read step by step; what the code and the document ask of bytes, in these words. -/
import Derived.Test.YtldjobaafambbaaDm
import Derived.Test.YtldjobaafambbaaUw
import Derived.Test.YtldjobaafambbaaOz
import Derived.Maps.OwnSet
namespace Go.Proofs.Ytldjobaafambbaa
open Go.RowKit Go.Maps

theorem lawU : Keyed Try.prog 32 := int_keyed Try.underlying32
theorem zeroU (w : World) : (zeroValue 32).run Try.prog w = .ok (.int .u64 0) w := by kernel_rfl
theorem keyU {x : Nat} (h : x < 2 ^ 64) : keyOf Try.prog 32 (.int .u64 (x : Int)) = some (.int .u64 (x : Int)) := keyOf_int_mk Try.underlying32 (WalkArith.wf_u64 (by omega))
theorem wfU {x : Nat} (h : x < 2 ^ 64) : (Lit.int .u64 (x : Int)).wf = true := WalkArith.wf_u64 (by omega)
/-- Block b is a map of at most n entries that says what D says. -/
def OMap (w : World) (b n : Nat) (D : DataW Unit) : Prop := w.ownsMap Try.prog 32 (plainElem Try.prog 32) b n D
theorem OMap.out {w : World} {b n : Nat} {D : DataW Unit} (h : OMap w b n D) : w.ownsMap Try.prog 32 (plainElem Try.prog 32) b n D := h
theorem OMap.lt {w : World} {b n : Nat} {D : DataW Unit} (h : OMap w b n D) : b < w.heap.size := World.ownsMap.lt h
theorem OMap.mod {S : Nat → Prop} {w w' : World} {b n : Nat} {D : DataW Unit} (h : OMap w b n D) (hm : Mod S w w') (hb : ¬ S b) : OMap w' b n D := by
  have hlt := h.lt
  obtain ⟨es, clock, h1, h2⟩ := h
  exact ⟨es, clock, (hm.block b hlt hb).trans h1, h2⟩
theorem OMap.mono {w : World} {b n n' : Nat} {D : DataW Unit} (h : OMap w b n D) (hn : n ≤ n') : OMap w b n' D := World.ownsMap.mono h hn
theorem OMap.made (w : World) : OMap (w.alloc (.map #[] 0)) w.heap.size 0 (.map []) := World.ownsMap_made _ _ _ _
/-- The map says of each value on the list where it stands, and of no other. -/
def Plcs (D : DataW Unit) (l : List Nat) : Prop := IsMap D ∧ (∀ x : Nat, Maps.has D (.int .u64 (x : Int)) = decide (x ∈ l)) ∧ ∀ x : Nat, x ∈ l → D.atKey (.int .u64 (x : Int)) (.lit (.int .u64 0)) = .lit (.int .u64 (plc x l : Int))
theorem Plcs.nil : Plcs (.map []) [] := ⟨isMap_empty, (fun _ => rfl), fun _ h => by cases h⟩
theorem Plcs.put {D : DataW Unit} {l : List Nat} {x : Nat} (h : Plcs D l) (hx : x ∉ l) : Plcs (D.put (.int .u64 (x : Int)) (.lit (.int .u64 (l.length : Int)))) (l ++ [x]) := by
  obtain ⟨h1, h2, h3⟩ := h
  have hk : WideAt.IsKeyLit (.int .u64 (x : Int)) := trivial
  have hne : ∀ y : Nat, y ≠ x → Lit.int .u64 (y : Int) ≠ Lit.int .u64 (x : Int) := fun y hy e => by
    injection e with _ e
    exact hy (by omega)
  refine ⟨h1.put _ _, fun y => ?_, fun y hy => ?_⟩
  · by_cases e : y = x
    · subst e
      rw [has_put_same h1 hk, decide_eq_true (by simp)]
    · rw [has_put_other (hne y e), h2 y]
      simp [e]
  · by_cases e : y = x
    · subst e
      rw [atKey_put_same h1 hk]
      have e2 : plc y (l ++ [y]) = l.length := by
        refine plc_is (by simp) fun i hi => ?_
        rw [List.getElem?_append_left hi]
        intro e3
        exact hx (List.mem_of_getElem? e3)
      rw [e2]
    · have hy' : y ∈ l := by
        rcases List.mem_append.1 hy with hy | hy
        · exact hy
        · exact absurd (List.mem_singleton.1 hy) e
      rw [atKey_put_other (hne y e), h3 y hy', plc_app hy']
/-- What a look-up tells. -/
theorem Plcs.look {D : DataW Unit} {l : List Nat} {x : Nat} {c : Int} (h : Plcs D l) (hx : x ∈ l) (hc : D.atKey (.int .u64 (x : Int)) (.lit (.int .u64 0)) = .lit (.int .u64 c)) : c = (plc x l : Int) := by
  rw [h.2.2 x hx] at hc
  injection hc with hc
  injection hc with _ hc
  exact hc.symm
/-- Numbers read step by step. -/
theorem rdV_succ (k : Nat) : ∀ b, rdV (k + 1) b = match rdV k b with | none => none | some (l, r) => if (dec r).2 = 0 then none else some (l ++ [(dec r).1], r.drop (dec r).2) := by
  induction k with
  | zero =>
    intro b
    show (if (dec b).2 = 0 then none else (rdV 0 (b.drop (dec b).2)).map _) = (if (dec b).2 = 0 then none else some ([] ++ [(dec b).1], b.drop (dec b).2))
    rfl
  | succ k ih =>
    intro b
    have e1 : rdV (k + 1 + 1) b = if (dec b).2 = 0 then none else (rdV (k + 1) (b.drop (dec b).2)).map fun p => ((dec b).1 :: p.1, p.2) := rfl
    have e2 : rdV (k + 1) b = if (dec b).2 = 0 then none else (rdV k (b.drop (dec b).2)).map fun p => ((dec b).1 :: p.1, p.2) := rfl
    rw [e1, e2]
    by_cases h : (dec b).2 = 0
    · rw [if_pos h, if_pos h]
    · rw [if_neg h, if_neg h, ih]
      cases hr : rdV k (b.drop (dec b).2) with
      | none => rfl
      | some p =>
        obtain ⟨l, r⟩ := p
        show Option.map _ (if (dec r).2 = 0 then none else some (l ++ [(dec r).1], r.drop (dec r).2)) = if (dec r).2 = 0 then none else some (((dec b).1 :: l) ++ [(dec r).1], r.drop (dec r).2)
        by_cases h2 : (dec r).2 = 0
        · rw [if_pos h2, if_pos h2]; rfl
        · rw [if_neg h2, if_neg h2]; rfl
theorem rdV_none_le {k k' : Nat} {b : List Nat} (h : rdV k b = none) (hk : k ≤ k') : rdV k' b = none := by
  induction k' with
  | zero =>
    obtain rfl : k = 0 := by omega
    exact h
  | succ k' ih =>
    rcases Nat.lt_or_ge k' k with h2 | h2
    · obtain rfl : k = k' + 1 := by omega
      exact h
    · rw [rdV_succ, ih h2]
/-- The list that bytes begin with, and what is behind it. -/
def getL (bs : List Nat) : Option (List Nat × List Nat) := if 256 < (dec bs).1 then none else rdV (dec bs).1 (bs.drop (dec bs).2)
theorem getL_some {bs l rest : List Nat} (hlt : lt256 bs) (h : getL bs = some (l, rest)) : l.length = (dec bs).1 ∧ l.length ≤ 256 ∧ (∀ x ∈ l, x < 2 ^ 64) ∧ lt256 rest ∧ rest.length ≤ bs.length ∧ rdV (dec bs).1 (bs.drop (dec bs).2) = some (l, rest) := by
  unfold getL at h
  split at h
  · cases h
  · rename_i h2
    obtain ⟨a1, a2, a3, a4⟩ := rdV_some _ _ _ _ (fun x hx => hlt x (List.mem_of_mem_drop hx)) h
    refine ⟨a1, by omega, a2, a3, ?_, h⟩
    have := congrArg List.length a4
    rw [List.length_drop, List.length_append] at this
    omega
theorem decD_noL {N : Nat} {bs : List Nat} (hN : ¬ N = 0) (h : ∀ l rest, getL bs = some (l, rest) → (dec bs).1 = 0) : decD N bs = none := by
  unfold decD
  rw [if_neg hN]
  by_cases hc : (dec bs).2 = 0 ∨ (dec bs).1 = 0 ∨ 256 < (dec bs).1
  · rw [if_pos hc]
  · rw [if_neg hc]
    have e : getL bs = rdV (dec bs).1 (bs.drop (dec bs).2) := by unfold getL; rw [if_neg (by omega)]
    cases hr : rdV (dec bs).1 (bs.drop (dec bs).2) with
    | none => rfl
    | some p =>
      have := h p.1 p.2 (by rw [e, hr])
      omega
theorem decD_L {N S : Nat} {bs l rest : List Nat} (hlt : lt256 bs) (hN : ¬ N = 0) (h : getL bs = some (l, rest)) (hl : ¬ l.length = 0) (hS : wid (l.length - 1) = S) :
    decD N bs = if ∃ j ∈ rdW S N (some (val rest, 8 * rest.length)), l.length ≤ j then none else if encD (outD l (rdW S N (some (val rest, 8 * rest.length)))) = some bs then some (outD l (rdW S N (some (val rest, 8 * rest.length)))) else none := by
  obtain ⟨a1, a2, _, _, _, a6⟩ := getL_some hlt h
  have h2 : ¬ (dec bs).2 = 0 := fun e => hl (by rw [a1, dec_none e])
  subst hS
  unfold decD
  rw [if_neg hN, if_neg (by rintro (e | e | e) <;> omega), a6, ← a1]
/-- What Encode told has its list, and its places behind it. -/
theorem getL_enc {v bs : List Nat} (hv : v ≠ []) (hv2 : ∀ x ∈ v, x < 2 ^ 64) (h : encD v = some bs) : getL bs = some (uniq v, packW (wid ((uniq v).length - 1)) (atD v)) := by
  have hu : ¬ 256 < (uniq v).length := by
    intro hu
    rw [encD_many hu] at h
    cases h
  rw [encD_cons hv hu] at h
  injection h with h
  have hd := dec_enc (uniq v).length (by omega) (encV (uniq v) ++ packW (wid ((uniq v).length - 1)) (atD v))
  rw [h] at hd
  unfold getL
  rw [hd]
  show (if 256 < (uniq v).length then none else rdV (uniq v).length (bs.drop (enc (uniq v).length).length)) = _
  rw [if_neg hu, ← h, List.drop_left]
  exact rdV_enc (uniq v) _ (fun x hx => hv2 x (uniq_of hx))
theorem decD_few {N S : Nat} {bs l rest : List Nat} (hlt : lt256 bs) (hN : ¬ N = 0) (h : getL bs = some (l, rest)) (hS : wid (l.length - 1) = S) (hf : 8 * rest.length < N * S) : decD N bs = none := by
  cases hd : decD N bs with
  | none => rfl
  | some v =>
    obtain ⟨h1, h2, h3⟩ := decD_some hlt hd
    have hg := getL_enc (by rintro rfl; exact hN h1.symm) h2 h3
    rw [h] at hg
    injection hg with hg
    injection hg with e1 e2
    subst e1 e2
    rw [packW_len, atD_len, h1, hS, Nat.mul_comm S N] at hf
    omega
theorem atD_snoc_len (v : List Nat) : (atD v).length = v.length := atD_len v
/-- What read tells of bytes. -/
def ReadD (N : Nat) (bs : List Nat) : Option (List Nat) → Prop
  | none => decD N bs = none
  | some v => v.length = N ∧ (∀ x ∈ v, x < 2 ^ 64) ∧ decD N bs = if encD v = some bs then some v else none
theorem readD_nought (bs : List Nat) : ReadD 0 bs (some []) := by
  refine ⟨rfl, (fun _ h => by cases h), ?_⟩
  unfold decD
  rw [if_pos rfl, encD_nil]
  by_cases h : bs = []
  · rw [if_pos h, if_pos (by rw [h])]
  · rw [if_neg h, if_neg (fun e => h (by injection e with e; exact e.symm))]
theorem outD_len (l at_ : List Nat) : (outD l at_).length = at_.length := by simp [outD]
theorem outD_snoc (l at_ : List Nat) (j : Nat) : outD l (at_ ++ [j]) = outD l at_ ++ [l.getD j 0] := by simp [outD]
theorem outD_lt {l at_ : List Nat} (hl : ∀ x ∈ l, x < 2 ^ 64) : ∀ x ∈ outD l at_, x < 2 ^ 64 := by
  intro x hx
  obtain ⟨j, _, rfl⟩ := List.mem_map.1 hx
  show l.getD j 0 < 2 ^ 64
  rw [List.getD_eq_getElem?_getD]
  cases hj : l[j]? with
  | none => exact Nat.two_pow_pos 64
  | some y => exact hl y (List.mem_of_getElem? hj)
theorem readD_far {N S i : Nat} {bs l rest : List Nat} {x : Nat} (hlt : lt256 bs) (hN : ¬ N = 0) (h : getL bs = some (l, rest)) (hl : ¬ l.length = 0) (hS : wid (l.length - 1) = S) (hx : (rdW S N (some (val rest, 8 * rest.length)))[i]? = some x) (hxl : l.length ≤ x) : ReadD N bs none := by
  show decD N bs = none
  rw [decD_L hlt hN h hl hS, if_pos ⟨x, List.mem_of_getElem? hx, hxl⟩]
theorem readD_done {N S : Nat} {bs l rest : List Nat} (hlt : lt256 bs) (hN : ¬ N = 0) (h : getL bs = some (l, rest)) (hl : ¬ l.length = 0) (hS : wid (l.length - 1) = S) (hj : ∀ j ∈ rdW S N (some (val rest, 8 * rest.length)), j < l.length) :
    ReadD N bs (some (outD l (rdW S N (some (val rest, 8 * rest.length))))) := by
  obtain ⟨_, _, a3, _⟩ := getL_some hlt h
  refine ⟨by rw [outD_len, rdW_len], outD_lt a3, ?_⟩
  rw [decD_L hlt hN h hl hS, if_neg (by rintro ⟨j, h1, h2⟩; have := hj j h1; omega)]
/-- A row that is read number by number begins as it began. -/
theorem rdW_at {w n i : Nat} {s : Option (Nat × Nat)} (hi : i < n) : (rdW w n s)[i]? = some (rd1 w (lfW w i s)).1 := by
  induction n with
  | zero => omega
  | succ n ih =>
    rw [rdW_snoc]
    rcases Nat.lt_or_ge i n with h | h
    · rw [List.getElem?_append_left (by rw [rdW_len]; exact h)]
      exact ih h
    · obtain rfl : i = n := by omega
      rw [List.getElem?_append_right (by rw [rdW_len]; exact Nat.le_refl _), rdW_len, Nat.sub_self]
      rfl
/-- A row of bytes and true, or nil and false. -/
def EncB (w w' : World) (o : Option (List Nat)) (e : Ending) : Prop :=
  match o with
  | some bs => ∃ v, e = .returned (.tuple #[v, .bool true]) ∧ Own w.heap.size w' 5 v (cells8 bs) ∧ Mod (fun _ => False) w w'
  | none => e = .returned (.tuple #[.slice none 0 0, .bool false]) ∧ Mod (fun _ => False) w w'
theorem EncB.some_ {w w' : World} {o : Option (List Nat)} {bs : List Nat} {e : Ending} (h : EncB w w' o e) (ho : o = some bs) : ∃ v, e = .returned (.tuple #[v, .bool true]) ∧ Own w.heap.size w' 5 v (cells8 bs) ∧ Mod (fun _ => False) w w' := by
  rw [ho] at h
  exact h
theorem EncB.none_ {w w' : World} {o : Option (List Nat)} {e : Ending} (h : EncB w w' o e) (ho : o = none) : e = .returned (.tuple #[.slice none 0 0, .bool false]) ∧ Mod (fun _ => False) w w' := by
  rw [ho] at h
  exact h
/-- An answer as a row: none is nil. -/
theorem EncB.any {w w' : World} {o : Option (List Nat)} {e : Ending} (h : EncB w w' o e) : ∃ (A : Option Addr) (c : Nat), e = .returned (.tuple #[.slice A (o.getD []).length c, .bool o.isSome]) ∧ (o.getD []).length ≤ c ∧ c ≤ maxLen ∧ Rds w' w'.heap.size A (o.getD []).length (cells8 (o.getD [])) ∧ Mod (fun _ => False) w w' := by
  cases o with
  | none =>
    obtain ⟨rfl, hm⟩ := h.none_ rfl
    exact ⟨none, 0, rfl, Nat.le_refl _, Nat.zero_le _, Rds.nil _ _ _, hm⟩
  | some ws =>
    obtain ⟨v, rfl, ho, hm⟩ := h.some_ rfl
    obtain ⟨A, c, rfl, hc, hcm, hr⟩ := own_form8 ho
    exact ⟨A, c, rfl, hc, hcm, hr, hm⟩
end Go.Proofs.Ytldjobaafambbaa

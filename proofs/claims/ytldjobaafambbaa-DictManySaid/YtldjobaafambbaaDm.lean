/- Plain mathematics of a dictionary: the values that are unlike, each value's place among them; what is told, and that it is read back, and nothing else is. -/
import Derived.Test.YtldjobaafambbaaPk
import Derived.Test.YtldjobaafambbaaVm
namespace Go.Proofs.Ytldjobaafambbaa

/-- The values that are unlike, in the order in which each comes first, behind those that are there. -/
def uniqF : List Nat → List Nat → List Nat
  | acc, [] => acc
  | acc, x :: xs => if x ∈ acc then uniqF acc xs else uniqF (acc ++ [x]) xs
def uniq (v : List Nat) : List Nat := uniqF [] v
theorem uniqF_pre (v : List Nat) : ∀ acc, ∃ t, uniqF acc v = acc ++ t := by
  induction v with
  | nil => intro acc; exact ⟨[], by simp [uniqF]⟩
  | cons x xs ih =>
    intro acc
    unfold uniqF
    by_cases h : x ∈ acc
    · rw [if_pos h]; exact ih acc
    · rw [if_neg h]
      obtain ⟨t, ht⟩ := ih (acc ++ [x])
      exact ⟨[x] ++ t, by rw [ht, List.append_assoc]⟩
theorem uniqF_has (v : List Nat) : ∀ acc x, x ∈ acc ∨ x ∈ v → x ∈ uniqF acc v := by
  induction v with
  | nil => intro acc x h; exact h.elim id (fun h => by cases h)
  | cons y ys ih =>
    intro acc x h
    unfold uniqF
    by_cases hy : y ∈ acc
    · rw [if_pos hy]
      refine ih acc x ?_
      rcases h with h | h
      · exact .inl h
      · rcases List.mem_cons.1 h with rfl | h
        · exact .inl hy
        · exact .inr h
    · rw [if_neg hy]
      refine ih _ x ?_
      rcases h with h | h
      · exact .inl (List.mem_append_left _ h)
      · rcases List.mem_cons.1 h with rfl | h
        · exact .inl (by simp)
        · exact .inr h
theorem uniqF_of (v : List Nat) : ∀ acc x, x ∈ uniqF acc v → x ∈ acc ∨ x ∈ v := by
  induction v with
  | nil => intro acc x h; exact .inl h
  | cons y ys ih =>
    intro acc x h
    unfold uniqF at h
    by_cases hy : y ∈ acc
    · rw [if_pos hy] at h
      exact (ih acc x h).imp id (fun h => by simp [h])
    · rw [if_neg hy] at h
      rcases ih _ x h with h | h
      · rw [List.mem_append, List.mem_singleton] at h
        rcases h with h | rfl
        · exact .inl h
        · exact .inr (by simp)
      · exact .inr (by simp [h])
theorem uniqF_len (v : List Nat) : ∀ acc, acc.length ≤ (uniqF acc v).length ∧ (uniqF acc v).length ≤ acc.length + v.length := by
  induction v with
  | nil => intro acc; exact ⟨Nat.le_refl _, Nat.le_refl _⟩
  | cons x xs ih =>
    intro acc
    unfold uniqF
    by_cases h : x ∈ acc
    · rw [if_pos h]
      have := ih acc
      exact ⟨this.1, by rw [List.length_cons]; omega⟩
    · rw [if_neg h]
      have := ih (acc ++ [x])
      rw [List.length_append, List.length_singleton] at this
      exact ⟨by omega, by rw [List.length_cons]; omega⟩
theorem uniq_mem {v : List Nat} {x : Nat} (h : x ∈ v) : x ∈ uniq v := uniqF_has v [] x (.inr h)
theorem uniq_of {v : List Nat} {x : Nat} (h : x ∈ uniq v) : x ∈ v := (uniqF_of v [] x h).elim (fun h => by cases h) id
theorem uniq_le (v : List Nat) : (uniq v).length ≤ v.length := by have := (uniqF_len v []).2; rw [List.length_nil, Nat.zero_add] at this; exact this
theorem uniq_pos {v : List Nat} (h : v ≠ []) : 1 ≤ (uniq v).length := by
  cases v with
  | nil => exact absurd rfl h
  | cons x xs => exact List.length_pos_of_mem (uniq_mem (x := x) (by simp))
/-- Step by step: what the first i values have. -/
theorem uniq_snoc (v : List Nat) (x : Nat) : uniq (v ++ [x]) = if x ∈ uniq v then uniq v else uniq v ++ [x] := by
  have h : ∀ (v : List Nat) (acc : List Nat), uniqF acc (v ++ [x]) = if x ∈ uniqF acc v then uniqF acc v else uniqF acc v ++ [x] := by
    intro v
    induction v with
    | nil => intro acc; show (if x ∈ acc then uniqF acc [] else uniqF (acc ++ [x]) []) = _; rfl
    | cons y ys ih =>
      intro acc
      show (if y ∈ acc then uniqF acc (ys ++ [x]) else uniqF (acc ++ [y]) (ys ++ [x])) = _
      by_cases hy : y ∈ acc
      · have e : uniqF acc (y :: ys) = uniqF acc ys := by show (if y ∈ acc then _ else _) = _; rw [if_pos hy]
        rw [if_pos hy, ih acc, e]
      · have e : uniqF acc (y :: ys) = uniqF (acc ++ [y]) ys := by show (if y ∈ acc then _ else _) = _; rw [if_neg hy]
        rw [if_neg hy, ih (acc ++ [y]), e]
  exact h v []
theorem uniq_app (v u : List Nat) : ∃ t, uniq (v ++ u) = uniq v ++ t := by
  have h : ∀ (v : List Nat) (acc : List Nat), uniqF acc (v ++ u) = uniqF (uniqF acc v) u := by
    intro v
    induction v with
    | nil => intro acc; rfl
    | cons y ys ih =>
      intro acc
      show (if y ∈ acc then uniqF acc (ys ++ u) else uniqF (acc ++ [y]) (ys ++ u)) = uniqF (if y ∈ acc then uniqF acc ys else uniqF (acc ++ [y]) ys) u
      by_cases hy : y ∈ acc
      · rw [if_pos hy, if_pos hy, ih]
      · rw [if_neg hy, if_neg hy, ih]
  obtain ⟨t, ht⟩ := uniqF_pre u (uniq v)
  exact ⟨t, (h v []).trans ht⟩
/-- Where a value stands; as long as the row, where nowhere. -/
def plc (x : Nat) : List Nat → Nat
  | [] => 0
  | y :: ys => if y = x then 0 else plc x ys + 1
theorem plc_le (x : Nat) (l : List Nat) : plc x l ≤ l.length := by
  induction l with
  | nil => exact Nat.le_refl _
  | cons y ys ih =>
    unfold plc
    split
    · omega
    · rw [List.length_cons]; omega
theorem plc_lt {x : Nat} {l : List Nat} (h : x ∈ l) : plc x l < l.length := by
  induction l with
  | nil => cases h
  | cons y ys ih =>
    unfold plc
    split
    · rw [List.length_cons]; omega
    · rename_i hy
      rcases List.mem_cons.1 h with rfl | h
      · exact absurd rfl hy
      · have := ih h
        rw [List.length_cons]
        omega
theorem plc_get {x : Nat} {l : List Nat} (h : x ∈ l) : l[plc x l]? = some x := by
  induction l with
  | nil => cases h
  | cons y ys ih =>
    unfold plc
    split
    · rename_i hy; subst hy; rfl
    · rename_i hy
      rcases List.mem_cons.1 h with rfl | h
      · exact absurd rfl hy
      · rw [List.getElem?_cons_succ]; exact ih h
theorem plc_first {x j : Nat} {l : List Nat} (h : j < plc x l) : l[j]? ≠ some x := by
  induction l generalizing j with
  | nil => exact absurd h (Nat.not_lt_zero _)
  | cons y ys ih =>
    unfold plc at h
    split at h
    · omega
    · rename_i hy
      cases j with
      | zero => rw [List.getElem?_cons_zero]; intro e; injection e with e; exact hy e
      | succ j => rw [List.getElem?_cons_succ]; exact ih (by omega)
/-- Where the j-th is the value and none ahead of it, it stands at j. -/
theorem plc_is {x j : Nat} {l : List Nat} (hj : l[j]? = some x) (hl : ∀ i, i < j → l[i]? ≠ some x) : plc x l = j := by
  rcases Nat.lt_trichotomy (plc x l) j with h | h | h
  · exact absurd (plc_get (List.mem_iff_getElem?.2 ⟨j, hj⟩)) (hl _ h)
  · exact h
  · exact absurd hj (plc_first h)
theorem plc_none {x : Nat} {l : List Nat} (h : x ∉ l) : plc x l = l.length := by
  induction l with
  | nil => rfl
  | cons y ys ih =>
    unfold plc
    rw [if_neg (fun e => h (by simp [e])), ih (fun h2 => h (by simp [h2])), List.length_cons]
theorem plc_app {x : Nat} {l : List Nat} (h : x ∈ l) (t : List Nat) : plc x (l ++ t) = plc x l := by
  induction l with
  | nil => cases h
  | cons y ys ih =>
    show (if y = x then 0 else plc x (ys ++ t) + 1) = if y = x then 0 else plc x ys + 1
    by_cases hy : y = x
    · rw [if_pos hy, if_pos hy]
    · rw [if_neg hy, if_neg hy]
      rcases List.mem_cons.1 h with rfl | h
      · exact absurd rfl hy
      · rw [ih h]
/-- Numbers one behind the other. -/
def encV : List Nat → List Nat
  | [] => []
  | x :: xs => enc x ++ encV xs
theorem encV_app (a b : List Nat) : encV (a ++ b) = encV a ++ encV b := by
  induction a with
  | nil => rfl
  | cons x xs ih => show enc x ++ encV (xs ++ b) = (enc x ++ encV xs) ++ encV b; rw [ih, List.append_assoc]
theorem encV_256 (l : List Nat) : lt256 (encV l) := by
  induction l with
  | nil => exact lt256_nil
  | cons x xs ih => intro b hb; exact (List.mem_append.1 hb).elim (enc_256 x b) (ih b)
theorem encV_len {l : List Nat} (h : ∀ x ∈ l, x < 2 ^ 64) : (encV l).length ≤ 10 * l.length := by
  induction l with
  | nil => exact Nat.le_refl _
  | cons x xs ih =>
    have h1 := enc_len10 (u := x) (h x (by simp))
    have h2 := ih (fun y hy => h y (by simp [hy]))
    show (enc x ++ encV xs).length ≤ 10 * (xs.length + 1)
    rw [List.length_append]
    omega
/-- k numbers off the beginning. -/
def rdV : Nat → List Nat → Option (List Nat × List Nat)
  | 0, b => some ([], b)
  | k + 1, b => if (dec b).2 = 0 then none else (rdV k (b.drop (dec b).2)).map fun p => ((dec b).1 :: p.1, p.2)
theorem rdV_enc (l rest : List Nat) (h : ∀ x ∈ l, x < 2 ^ 64) : rdV l.length (encV l ++ rest) = some (l, rest) := by
  induction l with
  | nil => rfl
  | cons x xs ih =>
    have hd := dec_enc x (h x (by simp)) (encV xs ++ rest)
    have e : encV (x :: xs) ++ rest = enc x ++ (encV xs ++ rest) := by show (enc x ++ encV xs) ++ rest = _; rw [List.append_assoc]
    rw [e]
    show (if (dec (enc x ++ (encV xs ++ rest))).2 = 0 then none else _) = _
    have hp := enc_pos x
    rw [hd]
    simp only
    rw [if_neg (by omega), List.drop_left, ih (fun y hy => h y (by simp [hy]))]
    rfl
theorem rdV_some (k : Nat) : ∀ (b l rest : List Nat), lt256 b → rdV k b = some (l, rest) → l.length = k ∧ (∀ x ∈ l, x < 2 ^ 64) ∧ lt256 rest ∧ b = encV l ++ rest := by
  induction k with
  | zero =>
    intro b l rest hlt h
    injection h with h
    injection h with h1 h2
    subst h1 h2
    exact ⟨rfl, (fun _ h => by cases h), hlt, rfl⟩
  | succ k ih =>
    intro b l rest hlt h
    have e : rdV (k + 1) b = if (dec b).2 = 0 then none else (rdV k (b.drop (dec b).2)).map fun p => ((dec b).1 :: p.1, p.2) := rfl
    rw [e] at h
    split at h
    · cases h
    · rename_i h0
      obtain ⟨⟨l', r'⟩, h1, h2⟩ := Option.map_eq_some_iff.1 h
      injection h2 with h2 h3
      subst h2 h3
      obtain ⟨a1, a2, a3, a4⟩ := ih _ _ _ (fun b hb => hlt b (List.mem_of_mem_drop hb)) h1
      have hs := dec_some hlt (by omega)
      refine ⟨by rw [List.length_cons, a1], fun x hx => ?_, a3, ?_⟩
      · rcases List.mem_cons.1 hx with rfl | hx
        · exact dec_lt hlt
        · exact a2 x hx
      · show b = (enc (dec b).1 ++ encV l') ++ r'
        rw [List.append_assoc, ← a4, hs.2, List.take_append_drop]
/-- Encode. -/
def atD (v : List Nat) : List Nat := v.map fun x => plc x (uniq v)
def encD (v : List Nat) : Option (List Nat) :=
  if 256 < (uniq v).length then none
  else if v = [] then some []
  else some (enc (uniq v).length ++ (encV (uniq v) ++ packW (wid ((uniq v).length - 1)) (atD v)))
theorem encD_nil : encD [] = some [] := rfl
theorem encD_many {v : List Nat} (h : 256 < (uniq v).length) : encD v = none := by unfold encD; rw [if_pos h]
theorem encD_cons {v : List Nat} (h : v ≠ []) (hu : ¬ 256 < (uniq v).length) : encD v = some (enc (uniq v).length ++ (encV (uniq v) ++ packW (wid ((uniq v).length - 1)) (atD v))) := by
  unfold encD
  rw [if_neg hu, if_neg h]
theorem atD_lt {v : List Nat} (hu : (uniq v).length ≤ 256) : ∀ x ∈ atD v, x < 2 ^ wid ((uniq v).length - 1) := by
  intro x hx
  obtain ⟨y, hy, rfl⟩ := List.mem_map.1 hx
  have := plc_lt (uniq_mem hy)
  exact wid_mono (by omega) (by omega)
theorem atD_len (v : List Nat) : (atD v).length = v.length := by simp [atD]
theorem encD_256 {v b : List Nat} (h : encD v = some b) : lt256 b := by
  unfold encD at h
  split at h
  · cases h
  · split at h
    · injection h with h; subst h; exact lt256_nil
    · injection h with h
      subst h
      intro x hx
      rw [List.mem_append, List.mem_append] at hx
      rcases hx with hx | hx | hx
      · exact enc_256 _ x hx
      · exact encV_256 _ x hx
      · exact packW_256 _ _ x hx
theorem encD_len {v b : List Nat} (hv : ∀ x ∈ v, x < 2 ^ 64) (h : encD v = some b) : b.length ≤ 2580 + 8 * v.length := by
  unfold encD at h
  split at h
  · cases h
  · rename_i hu
    split at h
    · injection h with h; subst h; exact Nat.zero_le _
    · injection h with h
      subst h
      rw [List.length_append, List.length_append, packW_len, atD_len]
      have h1 := enc_len10 (u := (uniq v).length) (by omega)
      have h2 := encV_len (l := uniq v) (fun x hx => hv x (uniq_of hx))
      have h3 := Nat.mul_le_mul_right v.length (wid_le ((uniq v).length - 1))
      omega
/-- What bytes are read as: words by their places. -/
def outD (words at_ : List Nat) : List Nat := at_.map fun j => words.getD j 0
def decD (n : Nat) (b : List Nat) : Option (List Nat) :=
  if n = 0 then (if b = [] then some [] else none)
  else if (dec b).2 = 0 ∨ (dec b).1 = 0 ∨ 256 < (dec b).1 then none
  else match rdV (dec b).1 (b.drop (dec b).2) with
    | none => none
    | some (words, rest) =>
      if ∃ j ∈ rdW (wid ((dec b).1 - 1)) n (some (val rest, 8 * rest.length)), (dec b).1 ≤ j then none
      else if encD (outD words (rdW (wid ((dec b).1 - 1)) n (some (val rest, 8 * rest.length)))) = some b then some (outD words (rdW (wid ((dec b).1 - 1)) n (some (val rest, 8 * rest.length))))
      else none
theorem outD_back {v : List Nat} : outD (uniq v) (atD v) = v := by
  unfold outD atD
  rw [List.map_map]
  conv => rhs; rw [← List.map_id v]
  apply List.map_congr_left
  intro x hx
  show (uniq v).getD (plc x (uniq v)) 0 = x
  rw [List.getD_eq_getElem?_getD, plc_get (uniq_mem hx)]
  rfl
theorem decD_of {v b : List Nat} (hv : ∀ x ∈ v, x < 2 ^ 64) (hb : encD v = some b) : decD v.length b = some v := by
  by_cases h : v = []
  · subst h
    rw [encD_nil] at hb
    injection hb with hb
    subst hb
    rfl
  · have hl : ¬ v.length = 0 := fun e => h (List.eq_nil_of_length_eq_zero e)
    have hu : ¬ 256 < (uniq v).length := by
      intro hu
      rw [encD_many hu] at hb
      cases hb
    have hb2 := hb
    rw [encD_cons h hu] at hb2
    injection hb2 with hb2
    have hp := uniq_pos h
    have hd := dec_enc (uniq v).length (by omega) (encV (uniq v) ++ packW (wid ((uniq v).length - 1)) (atD v))
    rw [hb2] at hd
    have hep := enc_pos (uniq v).length
    have hdr : b.drop (enc (uniq v).length).length = encV (uniq v) ++ packW (wid ((uniq v).length - 1)) (atD v) := by rw [← hb2, List.drop_left]
    have hrd := rdV_enc (uniq v) (packW (wid ((uniq v).length - 1)) (atD v)) (fun x hx => hv x (uniq_of hx))
    have hrw := rdW_packW (atD_lt (v := v) (by omega))
    rw [atD_len] at hrw
    unfold decD
    rw [if_neg hl, hd]
    simp only
    rw [if_neg (by rintro (e | e | e) <;> omega), hdr, hrd]
    simp only
    rw [hrw, if_neg, outD_back, if_pos hb]
    rintro ⟨j, hj, hj2⟩
    obtain ⟨x, hx, rfl⟩ := List.mem_map.1 hj
    have := plc_lt (uniq_mem hx)
    omega
theorem decD_some {n : Nat} {b v : List Nat} (hlt : lt256 b) (h : decD n b = some v) : v.length = n ∧ (∀ x ∈ v, x < 2 ^ 64) ∧ encD v = some b := by
  unfold decD at h
  split at h
  · rename_i hn
    split at h
    · rename_i hb
      injection h with h
      subst h hb hn
      exact ⟨rfl, (fun _ h => by cases h), rfl⟩
    · cases h
  · split at h
    · cases h
    · split at h
      · cases h
      · rename_i words rest hr
        obtain ⟨w1, w2, _, _⟩ := rdV_some _ _ _ _ (fun x hx => hlt x (List.mem_of_mem_drop hx)) hr
        split at h
        · cases h
        · rename_i hj
          split at h
          · rename_i he
            injection h with h
            subst h
            refine ⟨by unfold outD; rw [List.length_map, rdW_len], fun x hx => ?_, he⟩
            obtain ⟨j, hj1, rfl⟩ := List.mem_map.1 hx
            have hjl : j < words.length := by
              rcases Nat.lt_or_ge j words.length with h | h
              · exact h
              · exact absurd ⟨j, hj1, by omega⟩ hj
            show words.getD j 0 < 2 ^ 64
            rw [List.getD_eq_getElem?_getD, List.getElem?_eq_getElem hjl]
            exact w2 _ (List.getElem_mem hjl)
          · cases h
theorem decD_iff {n : Nat} {b v : List Nat} (hlt : lt256 b) : decD n b = some v ↔ v.length = n ∧ (∀ x ∈ v, x < 2 ^ 64) ∧ encD v = some b := by
  refine ⟨decD_some hlt, ?_⟩
  rintro ⟨rfl, h2, h3⟩
  exact decD_of h2 h3
/-- What is there already adds nothing. -/
theorem uniqF_in (u : List Nat) : ∀ acc, (∀ x ∈ u, x ∈ acc) → uniqF acc u = acc := by
  induction u with
  | nil => intro acc _; rfl
  | cons y ys ih =>
    intro acc h
    show (if y ∈ acc then uniqF acc ys else _) = acc
    rw [if_pos (h y (by simp))]
    exact ih acc (fun x hx => h x (by simp [hx]))
theorem uniqF_app (v u : List Nat) : ∀ acc, uniqF acc (v ++ u) = uniqF (uniqF acc v) u := by
  induction v with
  | nil => intro acc; rfl
  | cons y ys ih =>
    intro acc
    show (if y ∈ acc then uniqF acc (ys ++ u) else uniqF (acc ++ [y]) (ys ++ u)) = uniqF (if y ∈ acc then uniqF acc ys else uniqF (acc ++ [y]) ys) u
    by_cases hy : y ∈ acc
    · rw [if_pos hy, if_pos hy, ih]
    · rw [if_neg hy, if_neg hy, ih]
/-- Values of which each is another are their own list. -/
theorem uniqF_apart (v : List Nat) : ∀ acc, (∀ x ∈ v, x ∉ acc) → v.Nodup → uniqF acc v = acc ++ v := by
  induction v with
  | nil => intro acc _ _; show acc = acc ++ []; rw [List.append_nil]
  | cons y ys ih =>
    intro acc h hn
    obtain ⟨h1, h2⟩ := List.nodup_cons.1 hn
    show (if y ∈ acc then _ else uniqF (acc ++ [y]) ys) = _
    rw [if_neg (h y (by simp)), ih (acc ++ [y]) (fun x hx hm => ?_) h2, List.append_assoc]
    · rfl
    · rw [List.mem_append, List.mem_singleton] at hm
      rcases hm with hm | rfl
      · exact h x (by simp [hx]) hm
      · exact h1 hx
/-- A row again and again: DictMany's. -/
def rowM (n : Nat) : List Nat := (List.range n).map fun i => i * 3
def manyM (n t : Nat) : List Nat := (List.replicate t (rowM n)).flatten
theorem rowM_len (n : Nat) : (rowM n).length = n := by simp [rowM]
theorem rowM_snoc (n : Nat) : rowM (n + 1) = rowM n ++ [n * 3] := by simp [rowM, List.range_succ]
theorem rowM_lt {n x : Nat} (h : x ∈ rowM n) : x < 3 * n := by
  obtain ⟨i, hi, rfl⟩ := List.mem_map.1 h
  rw [List.mem_range] at hi
  omega
theorem rowM_nodup (n : Nat) : (rowM n).Nodup := by
  induction n with
  | zero => exact List.nodup_nil
  | succ n ih =>
    rw [rowM_snoc, List.nodup_append]
    refine ⟨ih, by simp, fun a ha b hb => ?_⟩
    rw [List.mem_singleton] at hb
    have := rowM_lt ha
    omega
theorem manyM_zero (n : Nat) : manyM n 0 = [] := rfl
theorem manyM_succ (n t : Nat) : manyM n (t + 1) = manyM n t ++ rowM n := by
  unfold manyM
  rw [List.replicate_succ', List.flatten_append]
  simp
theorem manyM_len (n t : Nat) : (manyM n t).length = t * n := by
  induction t with
  | zero => simp [manyM]
  | succ t ih => rw [manyM_succ, List.length_append, ih, rowM_len, Nat.succ_mul]
theorem manyM_lt {n t x : Nat} (h : x ∈ manyM n t) : x < 3 * n := by
  induction t with
  | zero => cases h
  | succ t ih =>
    rw [manyM_succ] at h
    exact (List.mem_append.1 h).elim ih rowM_lt
theorem uniq_many (n t : Nat) (ht : 1 ≤ t) : uniq (manyM n t) = rowM n := by
  induction t with
  | zero => omega
  | succ t ih =>
    rw [manyM_succ]
    show uniqF [] (manyM n t ++ rowM n) = _
    rw [uniqF_app]
    rcases Nat.eq_zero_or_pos t with h0 | h0
    · subst h0
      show uniqF [] (rowM n) = _
      rw [uniqF_apart _ _ (fun _ _ h => by cases h) (rowM_nodup n)]
      rfl
    · have e : uniqF [] (manyM n t) = rowM n := ih h0
      rw [e]
      exact uniqF_in _ _ (fun _ h => h)
/-- What DictMany's rows are told in. -/
theorem encD_manyM {n t : Nat} (hn : 1 ≤ n) (h : n ≤ 256) (ht : 1 ≤ t) : encD (manyM n t) = some ((enc n ++ encV (rowM n)) ++ packW (wid (n - 1)) (atD (manyM n t))) := by
  have hne : manyM n t ≠ [] := by
    intro e
    have := manyM_len n t
    rw [e] at this
    have h2 : 1 ≤ t * n := Nat.mul_le_mul ht hn
    have h3 : 0 = t * n := this
    omega
  rw [encD_cons hne (by rw [uniq_many n t ht, rowM_len]; omega), uniq_many n t ht, rowM_len, List.append_assoc]
theorem encD_manyM_none {n t : Nat} (h : 256 < n) (ht : 1 ≤ t) : encD (manyM n t) = none := encD_many (by rw [uniq_many n t ht, rowM_len]; exact h)
theorem manyM_packed (n t : Nat) (w : Nat) : (packW w (atD (manyM n t))).length = (w * (manyM n t).length + 7) / 8 := by rw [packW_len, atD_len]
end Go.Proofs.Ytldjobaafambbaa

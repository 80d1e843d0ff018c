/- Plain mathematics of small numbers, many to a word: what a word holds; what is told of numbers; that it is read back, and that only they are told so. -/
import Derived.Test.YthhcfngnbgckmaaDoorBitm
namespace Go.Proofs.YthhcfngnbgckmaaDoor

/-- How many numbers a word of a kind holds, and in how many bits each. -/
def numN (k : Nat) : Nat := ([240, 120, 60, 30, 20, 15, 12, 10, 8, 7, 6, 5, 4, 3, 2, 1] : List Nat).getD k 0
def bitN (k : Nat) : Nat := ([0, 0, 1, 2, 3, 4, 5, 6, 7, 8, 10, 12, 15, 20, 30, 60] : List Nat).getD k 0
theorem num_all : ∀ k : Fin 16, 1 ≤ numN k.val ∧ numN k.val ≤ 240 ∧ numN k.val * bitN k.val ≤ 60 ∧ bitN k.val ≤ 60 := by decide
theorem num_pos {k : Nat} (h : k < 16) : 1 ≤ numN k ∧ numN k ≤ 240 ∧ numN k * bitN k ≤ 60 ∧ bitN k ≤ 60 := num_all ⟨k, h⟩
theorem bit_pos_all : ∀ k : Fin 16, 2 ≤ k.val → 1 ≤ bitN k.val := by decide
/-- Numbers of b bits, the first one lowest. -/
def pk (b : Nat) : List Nat → Nat
  | [] => 0
  | x :: xs => x + 2 ^ b * pk b xs
theorem pk_lt {b : Nat} {xs : List Nat} (h : ∀ x ∈ xs, x < 2 ^ b) : pk b xs < 2 ^ (b * xs.length) := by
  induction xs with
  | nil => show 0 < 2 ^ (b * 0); rw [Nat.mul_zero]; decide
  | cons x xs ih =>
    have h1 := ih (fun y hy => h y (by simp [hy]))
    have h2 := h x (by simp)
    show x + 2 ^ b * pk b xs < 2 ^ (b * (xs.length + 1))
    rw [Nat.mul_add, Nat.mul_one, Nat.add_comm (b * _), Nat.pow_add]
    have h3 : 2 ^ b * (pk b xs + 1) ≤ 2 ^ b * 2 ^ (b * xs.length) := Nat.mul_le_mul_left _ h1
    rw [Nat.mul_add, Nat.mul_one] at h3
    omega
theorem pk_app (b : Nat) (xs ys : List Nat) : pk b (xs ++ ys) = pk b xs + 2 ^ (b * xs.length) * pk b ys := by
  induction xs with
  | nil => show pk b ys = 0 + 2 ^ (b * 0) * pk b ys; rw [Nat.mul_zero, Nat.pow_zero, Nat.one_mul, Nat.zero_add]
  | cons x xs ih =>
    show x + 2 ^ b * pk b (xs ++ ys) = x + 2 ^ b * pk b xs + 2 ^ (b * (xs.length + 1)) * pk b ys
    rw [ih, Nat.mul_add, Nat.mul_add b, Nat.mul_one, Nat.add_comm (b * _) b, Nat.pow_add, Nat.mul_assoc, Nat.add_assoc]
theorem pk_snoc (b x : Nat) (xs : List Nat) : pk b (xs ++ [x]) = pk b xs + 2 ^ (b * xs.length) * x := by
  rw [pk_app]
  show _ + _ * (x + 2 ^ b * 0) = _
  rw [Nat.mul_zero, Nat.add_zero]
theorem pk_zeros (b n : Nat) : pk b (List.replicate n 0) = 0 := by
  induction n with
  | zero => rfl
  | succ n ih => show 0 + 2 ^ b * pk b (List.replicate n 0) = 0; rw [ih]; simp
/-- The j-th number, 0 beyond the last one. -/
theorem pk_get {b : Nat} {xs : List Nat} (h : ∀ x ∈ xs, x < 2 ^ b) (j : Nat) : pk b xs / 2 ^ (j * b) % 2 ^ b = xs.getD j 0 := by
  induction xs generalizing j with
  | nil => simp [pk]
  | cons x xs ih =>
    have h1 := h x (by simp)
    have e : pk b (x :: xs) = x + 2 ^ b * pk b xs := rfl
    cases j with
    | zero => rw [e, Nat.zero_mul, Nat.pow_zero, Nat.div_one, Nat.add_mul_mod_self_left, Nat.mod_eq_of_lt h1]; rfl
    | succ j =>
      rw [e, Nat.add_mul, Nat.one_mul, Nat.add_comm (j * b) b, Nat.pow_add, ← Nat.div_div_eq_div_mul, Nat.add_mul_div_left _ _ (Nat.two_pow_pos b), Nat.div_eq_of_lt h1, Nat.zero_add, ih (fun y hy => h y (by simp [hy]))]
      simp
/-- A word: its kind, and the numbers. -/
def wordN (k : Nat) (xs : List Nat) : Nat := k * 2 ^ 60 + pk (bitN k) xs
theorem pk_60 {k : Nat} {xs : List Nat} (hk : k < 16) (hl : xs.length ≤ numN k) (h : ∀ x ∈ xs, x < 2 ^ bitN k) : pk (bitN k) xs < 2 ^ 60 := by
  have h1 := pk_lt h
  have h2 := (num_pos hk).2.2.1
  have h3 : bitN k * xs.length ≤ 60 := by
    have := Nat.mul_le_mul_left (bitN k) hl
    rw [Nat.mul_comm (bitN k) (numN k)] at this
    omega
  exact Nat.lt_of_lt_of_le h1 (Nat.pow_le_pow_right (by omega) h3)
theorem word_kind {k : Nat} {xs : List Nat} (hk : k < 16) (hl : xs.length ≤ numN k) (h : ∀ x ∈ xs, x < 2 ^ bitN k) : wordN k xs / 2 ^ 60 = k ∧ wordN k xs % 2 ^ 60 = pk (bitN k) xs ∧ wordN k xs < 2 ^ 64 := by
  have h1 := pk_60 hk hl h
  unfold wordN
  refine ⟨by omega, by omega, by omega⟩
/-- One number more is laid into a word by '|'. -/
theorem word_or {k x i : Nat} {xs : List Nat} (hk : k < 16) (hi : xs.length = i) (hl : i < numN k) (h : ∀ y ∈ xs, y < 2 ^ bitN k) (hx : x < 2 ^ bitN k) : wordN k xs ||| (x * 2 ^ (i * bitN k)) = wordN k (xs ++ [x]) := by
  subst hi
  have hl1 := pk_lt h
  have h60 := pk_60 (xs := xs) hk (by omega) h
  have h61 := pk_60 (xs := xs ++ [x]) hk (by simp; omega) (fun y hy => by
    rw [List.mem_append, List.mem_singleton] at hy
    rcases hy with hy | rfl
    · exact h y hy
    · exact hx)
  unfold wordN
  rw [pk_snoc] at h61 ⊢
  have e1 : k * 2 ^ 60 + pk (bitN k) xs = 2 ^ 60 * k ||| pk (bitN k) xs := by rw [← Nat.two_pow_add_eq_or_of_lt h60, Nat.mul_comm]
  have e2 : pk (bitN k) xs ||| (x * 2 ^ (xs.length * bitN k)) = pk (bitN k) xs + 2 ^ (bitN k * xs.length) * x := by
    rw [Nat.mul_comm xs.length, Nat.mul_comm x, Nat.or_comm, ← Nat.two_pow_add_eq_or_of_lt hl1, Nat.add_comm]
  rw [e1, Nat.or_assoc, e2, ← Nat.two_pow_add_eq_or_of_lt h61, Nat.mul_comm k]
/-- Whether the next numbers may stand in a word of a kind. -/
def fitsK (u : List Nat) (k : Nat) : Bool := !(decide (k < 2) && decide (u.length < numN k)) && (u.take (numN k)).all fun x => decide (x < 2 ^ bitN k)
theorem fitsK_all {u : List Nat} {k : Nat} (h : fitsK u k = true) : ∀ x ∈ u.take (numN k), x < 2 ^ bitN k := by
  unfold fitsK at h
  rw [Bool.and_eq_true] at h
  intro x hx
  exact of_decide_eq_true (List.all_eq_true.1 h.2 x hx)
/-- The first kind from k on that may be; f kinds are left. -/
def kindF (u : List Nat) : Nat → Nat → Nat
  | 0, k => k
  | f + 1, k => if fitsK u k = true then k else kindF u f (k + 1)
def kindOf (u : List Nat) : Nat := kindF u 16 0
theorem kindF_spec (u : List Nat) (f k : Nat) : k ≤ kindF u f k ∧ kindF u f k ≤ k + f ∧ (kindF u f k < k + f → fitsK u (kindF u f k) = true) ∧ ∀ j, k ≤ j → j < kindF u f k → fitsK u j = false := by
  induction f generalizing k with
  | zero => exact ⟨Nat.le_refl _, Nat.le_refl _, fun h => absurd h (Nat.lt_irrefl _), fun j h1 h2 => by have h3 : j < k := h2; omega⟩
  | succ f ih =>
    have e : kindF u (f + 1) k = if fitsK u k = true then k else kindF u f (k + 1) := rfl
    rw [e]
    by_cases h : fitsK u k = true
    · rw [if_pos h]
      exact ⟨Nat.le_refl _, by omega, fun _ => h, fun j h1 h2 => by omega⟩
    · rw [if_neg h]
      obtain ⟨a1, a2, a3, a4⟩ := ih (k + 1)
      refine ⟨by omega, by omega, fun h => a3 (by omega), fun j h1 h2 => ?_⟩
      by_cases hj : j = k
      · subst hj; simpa using h
      · exact a4 j (by omega) h2
theorem kind_le (u : List Nat) : kindOf u ≤ 16 := by have := (kindF_spec u 16 0).2.1; unfold kindOf; omega
theorem kind_fits {u : List Nat} (h : kindOf u < 16) : fitsK u (kindOf u) = true := (kindF_spec u 16 0).2.2.1 (by unfold kindOf at h; omega)
theorem kind_first {u : List Nat} {j : Nat} (h : j < kindOf u) : fitsK u j = false := (kindF_spec u 16 0).2.2.2 j (Nat.zero_le _) h
/-- Encode; f is a bound. -/
def encF : Nat → List Nat → Option (List Nat)
  | 0, _ => some []
  | f + 1, u => if u = [] then some [] else if kindOf u = 16 then none else (encF f (u.drop (numN (kindOf u)))).map fun ws => wordN (kindOf u) (u.take (numN (kindOf u))) :: ws
def encS (u : List Nat) : Option (List Nat) := encF u.length u
theorem encF_step (f : Nat) {u : List Nat} (h : u ≠ []) : encF (f + 1) u = if kindOf u = 16 then none else (encF f (u.drop (numN (kindOf u)))).map fun ws => wordN (kindOf u) (u.take (numN (kindOf u))) :: ws := by
  show (if u = [] then some [] else _) = _
  rw [if_neg h]
theorem drop_less {u : List Nat} (h : u ≠ []) (hk : kindOf u ≠ 16) : (u.drop (numN (kindOf u))).length < u.length := by
  have hk16 : kindOf u < 16 := by have := kind_le u; omega
  have hn := (num_pos hk16).1
  have hl : 0 < u.length := List.length_pos_iff.2 h
  rw [List.length_drop]
  omega
theorem encF_any (f : Nat) : ∀ (g : Nat) (u : List Nat), u.length ≤ f → u.length ≤ g → encF f u = encF g u := by
  induction f with
  | zero =>
    intro g u h _
    have : u = [] := List.eq_nil_of_length_eq_zero (by omega)
    subst this
    cases g <;> rfl
  | succ f ih =>
    intro g u h1 h2
    by_cases hu : u = []
    · subst hu
      cases g <;> rfl
    · have hl : 0 < u.length := List.length_pos_iff.2 hu
      obtain ⟨g', rfl⟩ : ∃ g', g = g' + 1 := ⟨g - 1, by omega⟩
      rw [encF_step f hu, encF_step g' hu]
      by_cases hk : kindOf u = 16
      · rw [if_pos hk, if_pos hk]
      · have := drop_less hu hk
        rw [if_neg hk, if_neg hk, ih g' _ (by omega) (by omega)]
theorem encS_nil : encS [] = some [] := rfl
theorem encS_step {u : List Nat} (h : u ≠ []) : encS u = if kindOf u = 16 then none else (encS (u.drop (numN (kindOf u)))).map fun ws => wordN (kindOf u) (u.take (numN (kindOf u))) :: ws := by
  have hl : 0 < u.length := List.length_pos_iff.2 h
  obtain ⟨n, hn⟩ : ∃ n, u.length = n + 1 := ⟨u.length - 1, by omega⟩
  unfold encS
  rw [hn, encF_step n h]
  by_cases hk : kindOf u = 16
  · rw [if_pos hk, if_pos hk]
  · have := drop_less h hk
    rw [if_neg hk, if_neg hk, encF_any n _ _ (by omega) (Nat.le_refl _)]
/-- The numbers of one word. -/
def nums (k w m : Nat) : List Nat := (List.range m).map fun j => if bitN k = 0 then 0 else w / 2 ^ (j * bitN k) % 2 ^ bitN k
/-- n numbers at most are read. -/
def rdS : Nat → List Nat → List Nat
  | _, [] => []
  | n, w :: ws => nums (w / 2 ^ 60) w (min (numN (w / 2 ^ 60)) n) ++ rdS (n - min (numN (w / 2 ^ 60)) n) ws
theorem nums_word {k m : Nat} {xs : List Nat} (hk : k < 16) (hl : xs.length ≤ numN k) (h : ∀ x ∈ xs, x < 2 ^ bitN k) (hm : m = xs.length) : nums k (wordN k xs) m = xs := by
  subst hm
  apply List.ext_getElem?
  intro j
  unfold nums
  rw [List.getElem?_map]
  by_cases hj : j < xs.length
  · rw [List.getElem?_range hj, List.getElem?_eq_getElem hj]
    have hx := h _ (List.getElem_mem hj)
    show some (if bitN k = 0 then 0 else wordN k xs / 2 ^ (j * bitN k) % 2 ^ bitN k) = some xs[j]
    by_cases hb : bitN k = 0
    · rw [if_pos hb]
      rw [hb] at hx
      have : xs[j] = 0 := by omega
      rw [this]
    · rw [if_neg hb]
      have h1 := pk_get h j
      have h2 : wordN k xs / 2 ^ (j * bitN k) % 2 ^ bitN k = pk (bitN k) xs / 2 ^ (j * bitN k) % 2 ^ bitN k := by
        have hle : (j + 1) * bitN k ≤ 60 := by
          have h3 := (num_pos hk).2.2.1
          have h4 := Nat.mul_le_mul_right (bitN k) (show j + 1 ≤ numN k by omega)
          omega
        have e : k * 2 ^ 60 = 2 ^ (j * bitN k) * (2 ^ bitN k * (k * 2 ^ (60 - (j + 1) * bitN k))) := by
          rw [← Nat.mul_assoc, ← Nat.pow_add, Nat.mul_left_comm, ← Nat.pow_add]
          congr 2
          rw [Nat.add_mul] at hle ⊢
          omega
        unfold wordN
        rw [e, Nat.mul_add_div (Nat.two_pow_pos _), Nat.mul_add_mod]
      rw [h2, h1, List.getD_eq_getElem?_getD, List.getElem?_eq_getElem hj]
      rfl
  · rw [List.getElem?_eq_none (by simp; omega), List.getElem?_eq_none (by omega)]
    rfl
/-- What is told is read. -/
theorem rdS_enc (n : Nat) : ∀ (u ws : List Nat), u.length = n → encS u = some ws → rdS n ws = u := by
  induction n using Nat.strongRecOn with
  | ind n ih =>
    intro u ws hn he
    by_cases hu : u = []
    · subst hu
      rw [encS_nil] at he
      injection he with he
      subst he
      rfl
    · rw [encS_step hu] at he
      by_cases hk : kindOf u = 16
      · rw [if_pos hk] at he; cases he
      · rw [if_neg hk] at he
        have hk16 : kindOf u < 16 := by have := kind_le u; omega
        obtain ⟨vs, h1, h2⟩ := Option.map_eq_some_iff.1 he
        subst h2
        have hf := fitsK_all (kind_fits hk16)
        have hlt : (u.take (numN (kindOf u))).length ≤ numN (kindOf u) := List.length_take_le _ _
        obtain ⟨w1, _, _⟩ := word_kind hk16 hlt hf
        have hm : min (numN (kindOf u)) n = (u.take (numN (kindOf u))).length := by rw [List.length_take, hn]
        show nums (wordN (kindOf u) _ / 2 ^ 60) _ (min (numN (wordN (kindOf u) _ / 2 ^ 60)) n) ++ rdS (n - min (numN (wordN (kindOf u) _ / 2 ^ 60)) n) vs = u
        rw [w1, nums_word hk16 hlt hf hm]
        have hd := drop_less hu hk
        have hdl : (u.drop (numN (kindOf u))).length = n - min (numN (kindOf u)) n := by rw [List.length_drop, hn]; omega
        rw [ih (n - min (numN (kindOf u)) n) (by omega) _ vs hdl h1, List.take_append_drop]
/-- Only they are told so. -/
theorem enc_one {u v ws : List Nat} (hl : u.length = v.length) (hu : encS u = some ws) (hv : encS v = some ws) : u = v := by
  have h1 := rdS_enc _ u ws rfl hu
  have h2 := rdS_enc _ v ws rfl hv
  rw [← h1, ← h2, hl]
/-- No word more than there are numbers; all words fit. -/
theorem encS_len (n : Nat) : ∀ (u ws : List Nat), u.length = n → encS u = some ws → ws.length ≤ n ∧ ∀ w ∈ ws, w < 2 ^ 64 := by
  induction n using Nat.strongRecOn with
  | ind n ih =>
    intro u ws hn he
    by_cases hu : u = []
    · subst hu
      rw [encS_nil] at he
      injection he with he
      subst he
      exact ⟨Nat.zero_le _, fun _ h => by cases h⟩
    · rw [encS_step hu] at he
      by_cases hk : kindOf u = 16
      · rw [if_pos hk] at he; cases he
      · rw [if_neg hk] at he
        have hk16 : kindOf u < 16 := by have := kind_le u; omega
        obtain ⟨vs, h1, h2⟩ := Option.map_eq_some_iff.1 he
        subst h2
        have hd := drop_less hu hk
        obtain ⟨a1, a2⟩ := ih (u.drop (numN (kindOf u))).length (by omega) _ vs rfl h1
        refine ⟨by rw [List.length_cons]; omega, fun w hw => ?_⟩
        rcases List.mem_cons.1 hw with rfl | hw
        · exact (word_kind hk16 (List.length_take_le _ _) (fitsK_all (kind_fits hk16))).2.2
        · exact a2 w hw
/-- Numbers of sixty bits can be told. -/
theorem encS_can (n : Nat) : ∀ u : List Nat, u.length = n → (∀ x ∈ u, x < 2 ^ 60) → ∃ ws, encS u = some ws := by
  induction n using Nat.strongRecOn with
  | ind n ih =>
    intro u hn h
    by_cases hu : u = []
    · subst hu
      exact ⟨[], rfl⟩
    · have h15 : fitsK u 15 = true := by
        unfold fitsK
        have : (u.take (numN 15)).all (fun x => decide (x < 2 ^ bitN 15)) = true := List.all_eq_true.2 fun x hx => decide_eq_true (h x (List.mem_of_mem_take hx))
        rw [this]
        rfl
      have hk : kindOf u ≠ 16 := by
        intro e
        have := kind_first (u := u) (j := 15) (by omega)
        rw [h15] at this
        cases this
      have hd := drop_less hu hk
      obtain ⟨vs, hv⟩ := ih (u.drop (numN (kindOf u))).length (by omega) _ rfl (fun x hx => h x (List.mem_of_mem_drop hx))
      rw [encS_step hu, if_neg hk, hv]
      exact ⟨_, rfl⟩
/-- A number of more than sixty bits can't. -/
theorem encS_no (n : Nat) : ∀ u : List Nat, u.length = n → (∃ x ∈ u, 2 ^ 60 ≤ x) → encS u = none := by
  induction n using Nat.strongRecOn with
  | ind n ih =>
    intro u hn h
    obtain ⟨x, hx, hx60⟩ := h
    have hu : u ≠ [] := by rintro rfl; cases hx
    rw [encS_step hu]
    by_cases hk : kindOf u = 16
    · rw [if_pos hk]
    · have hk16 : kindOf u < 16 := by have := kind_le u; omega
      have hf := fitsK_all (kind_fits hk16)
      have hd := drop_less hu hk
      rw [if_neg hk]
      rw [← List.take_append_drop (numN (kindOf u)) u, List.mem_append] at hx
      rcases hx with hx | hx
      · exfalso
        have h1 := hf x hx
        have h2 : 2 ^ bitN (kindOf u) ≤ 2 ^ 60 := Nat.pow_le_pow_right (by omega) (num_pos hk16).2.2.2
        omega
      · rw [ih (u.drop (numN (kindOf u))).length (by omega) _ rfl ⟨x, hx, hx60⟩]
        rfl
/-- Decode: n numbers that these words tell, and no others. -/
def decS (n : Nat) (ws : List Nat) : Option (List Nat) := if (rdS n ws).length = n ∧ encS (rdS n ws) = some ws then some (rdS n ws) else none
theorem decS_of {u ws : List Nat} {n : Nat} (hn : u.length = n) (he : encS u = some ws) : decS n ws = some u := by
  unfold decS
  rw [rdS_enc n u ws hn he, if_pos ⟨hn, he⟩]
theorem decS_some {u ws : List Nat} {n : Nat} (h : decS n ws = some u) : u.length = n ∧ encS u = some ws := by
  unfold decS at h
  split at h
  · rename_i hc
    injection h with h
    subst h
    exact hc
  · cases h
end Go.Proofs.YthhcfngnbgckmaaDoor

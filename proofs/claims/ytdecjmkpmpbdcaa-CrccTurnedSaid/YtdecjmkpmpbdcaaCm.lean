/- Plain mathematics of sums of bytes: eight steps, the sum by a table, and that it is linear. -/
import Derived.Test.YtdecjmkpmpbdcaaBitm
namespace Go.Proofs.Ytdecjmkpmpbdcaa

def poly : Nat := 2197175160
def stp (x : Nat) : Nat := if x % 2 = 1 then x / 2 ^^^ poly else x / 2
def stps : Nat → Nat → Nat
  | 0, x => x
  | k + 1, x => stp (stps k x)
def ent (x : Nat) : Nat := stps 8 x
def sumF (T : Nat → Nat) : Nat → List Nat → Nat
  | s, [] => s
  | s, b :: bs => sumF T (T (s % 256 ^^^ b) ^^^ s / 256) bs
def sumN (T : Nat → Nat) (bs : List Nat) : Nat := sumF T 4294967295 bs ^^^ 4294967295

theorem xor_lt {a b : Nat} (ha : a < 4294967296) (hb : b < 4294967296) : a ^^^ b < 4294967296 := Nat.xor_lt_two_pow (n := 32) ha hb
theorem xor_lt8 {a b : Nat} (ha : a < 256) (hb : b < 256) : a ^^^ b < 256 := Nat.xor_lt_two_pow (n := 8) ha hb
theorem xor_mod2 (a b : Nat) : (a ^^^ b) % 2 = (a % 2 + b % 2) % 2 := by
  have h := Nat.xor_mod_two_pow (a := a) (b := b) (n := 1)
  simp only [Nat.pow_one] at h
  rw [h]
  rcases Nat.mod_two_eq_zero_or_one a with ha | ha <;> rcases Nat.mod_two_eq_zero_or_one b with hb | hb <;> rw [ha, hb]
  all_goals decide
theorem xor_div2 (a b : Nat) : (a ^^^ b) / 2 = a / 2 ^^^ b / 2 := by
  have h := Nat.xor_div_two_pow (a := a) (b := b) (n := 1)
  simpa using h
theorem xor_mod256 (a b : Nat) : (a ^^^ b) % 256 = a % 256 ^^^ b % 256 := Nat.xor_mod_two_pow (a := a) (b := b) (n := 8)
theorem xor_div256 (a b : Nat) : (a ^^^ b) / 256 = a / 256 ^^^ b / 256 := Nat.xor_div_two_pow (a := a) (b := b) (n := 8)

theorem stp_lt {x : Nat} (h : x < 4294967296) : stp x < 4294967296 := by
  unfold stp
  split
  · exact xor_lt (by omega) (by decide)
  · omega
theorem stps_lt {x : Nat} (k : Nat) (h : x < 4294967296) : stps k x < 4294967296 := by
  induction k with
  | zero => exact h
  | succ k ih => exact stp_lt ih
theorem ent_lt {x : Nat} (h : x < 4294967296) : ent x < 4294967296 := stps_lt 8 h
theorem stp_zero : stp 0 = 0 := by decide
theorem stps_zero (k : Nat) : stps k 0 = 0 := by
  induction k with
  | zero => rfl
  | succ k ih => show stp (stps k 0) = 0; rw [ih, stp_zero]
theorem xor4 (a b p : Nat) : a ^^^ p ^^^ (b ^^^ p) = a ^^^ b := by
  apply Nat.eq_of_testBit_eq
  intro i
  simp only [Nat.testBit_xor]
  cases a.testBit i <;> cases b.testBit i <;> cases p.testBit i <;> rfl
theorem stp_xor (a b : Nat) : stp (a ^^^ b) = stp a ^^^ stp b := by
  unfold stp
  rw [xor_mod2, xor_div2]
  rcases Nat.mod_two_eq_zero_or_one a with ha | ha <;> rcases Nat.mod_two_eq_zero_or_one b with hb | hb <;> rw [ha, hb] <;> simp only [Nat.reduceAdd, Nat.reduceMod, if_true, if_false, Nat.reduceEqDiff]
  · rw [Nat.xor_assoc]
  · rw [Nat.xor_assoc, Nat.xor_assoc, Nat.xor_comm poly]
  · exact (xor4 _ _ _).symm
theorem stps_xor (k a b : Nat) : stps k (a ^^^ b) = stps k a ^^^ stps k b := by
  induction k with
  | zero => rfl
  | succ k ih => show stp (stps k (a ^^^ b)) = _; rw [ih, stp_xor]; rfl
theorem stps_add (k m x : Nat) : stps (k + m) x = stps k (stps m x) := by
  induction k with
  | zero => rw [Nat.zero_add]; rfl
  | succ k ih => rw [Nat.succ_add]; show stp (stps (k + m) x) = stp (stps k (stps m x)); rw [ih]
theorem stps_up (k z : Nat) : stps k (z * 2 ^ k) = z := by
  induction k generalizing z with
  | zero => show z * 2 ^ 0 = z; omega
  | succ k ih =>
    have e : z * 2 ^ (k + 1) = (z * 2) * 2 ^ k := by rw [Nat.pow_succ, Nat.mul_assoc, Nat.mul_comm 2]
    show stp (stps k (z * 2 ^ (k + 1))) = z
    rw [e, ih]
    unfold stp
    rw [if_neg (by omega)]
    omega
/-- One byte more, as eight steps of the state with the byte on it. -/
theorem ent_byte (s b : Nat) (hb : b < 256) : ent (s % 256 ^^^ b) ^^^ s / 256 = stps 8 (s ^^^ b) := by
  have h1 : (s ^^^ b) % 256 = s % 256 ^^^ b := by rw [xor_mod256, Nat.mod_eq_of_lt hb]
  have h2 : (s ^^^ b) / 256 = s / 256 := by rw [xor_div256, Nat.div_eq_of_lt hb, Nat.xor_zero]
  rw [← h1, ← h2]
  generalize s ^^^ b = z
  have h3 : z = z % 256 ^^^ (z / 256 * 2 ^ 8) := by
    apply Nat.eq_of_testBit_eq
    intro i
    rw [Nat.testBit_xor, show (256 : Nat) = 2 ^ 8 from rfl, Nat.testBit_mod_two_pow, Nat.testBit_mul_two_pow, Nat.testBit_div_two_pow]
    by_cases h : i < 8
    · simp [h, show ¬ 8 ≤ i by omega]
    · simp [h, show 8 ≤ i by omega]
  conv => rhs; rw [h3, stps_xor, stps_up]
  rfl
def foldB : Nat → List Nat → Nat
  | s, [] => s
  | s, b :: bs => foldB (stps 8 (s ^^^ b)) bs
theorem sumF_ent (s : Nat) (bs : List Nat) (h : lt256 bs) : sumF ent s bs = foldB s bs := by
  induction bs generalizing s with
  | nil => rfl
  | cons b bs ih =>
    show sumF ent (ent (s % 256 ^^^ b) ^^^ s / 256) bs = foldB (stps 8 (s ^^^ b)) bs
    rw [ent_byte s b (h b (by simp)), ih _ (fun x hx => h x (by simp [hx]))]
theorem xor22 (a b c d : Nat) : a ^^^ b ^^^ (c ^^^ d) = a ^^^ c ^^^ (b ^^^ d) := by
  apply Nat.eq_of_testBit_eq
  intro i
  simp only [Nat.testBit_xor]
  cases a.testBit i <;> cases b.testBit i <;> cases c.testBit i <;> cases d.testBit i <;> rfl
theorem foldB_xor (s t : Nat) (as bs : List Nat) (h : as.length = bs.length) : foldB (s ^^^ t) (List.zipWith (· ^^^ ·) as bs) = foldB s as ^^^ foldB t bs := by
  induction as generalizing s t bs with
  | nil => cases bs with
    | nil => rfl
    | cons b bs => cases h
  | cons a as ih => cases bs with
    | nil => cases h
    | cons b bs =>
      show foldB (stps 8 (s ^^^ t ^^^ (a ^^^ b))) (List.zipWith _ as bs) = foldB (stps 8 (s ^^^ a)) as ^^^ foldB (stps 8 (t ^^^ b)) bs
      rw [← ih _ _ _ (by simpa using h), ← stps_xor, xor22]
theorem sumF_lt {T : Nat → Nat} (hT : ∀ j, j < 256 → T j < 4294967296) (s : Nat) (bs : List Nat) (hs : s < 4294967296) (hb : lt256 bs) : sumF T s bs < 4294967296 := by
  induction bs generalizing s with
  | nil => exact hs
  | cons b bs ih => exact ih _ (xor_lt (hT _ (xor_lt8 (Nat.mod_lt _ (by decide)) (hb b (by simp)))) (by omega)) (fun x hx => hb x (by simp [hx]))
theorem sumN_lt {T : Nat → Nat} (hT : ∀ j, j < 256 → T j < 4294967296) (bs : List Nat) (hb : lt256 bs) : sumN T bs < 4294967296 := xor_lt (sumF_lt hT _ bs (by decide) hb) (by decide)

/-- Three rows laid on each other. -/
theorem sum_linear (as bs cs : List Nat) (n : Nat) (ha : lt256 as) (hb : lt256 bs) (hc : lt256 cs) (la : as.length = n) (lb : bs.length = n) (lc : cs.length = n) (xs : List Nat) (hx : lt256 xs) (h : xs = List.zipWith (· ^^^ ·) (List.zipWith (· ^^^ ·) as bs) cs) :
    sumN ent xs = sumN ent as ^^^ sumN ent bs ^^^ sumN ent cs := by
  unfold sumN
  rw [sumF_ent _ _ ha, sumF_ent _ _ hb, sumF_ent _ _ hc, sumF_ent _ _ hx, h]
  have h1 := foldB_xor (4294967295 ^^^ 4294967295) 4294967295 (List.zipWith (· ^^^ ·) as bs) cs (by simp [la, lb, lc])
  rw [foldB_xor 4294967295 4294967295 as bs (by rw [la, lb])] at h1
  rw [show 4294967295 ^^^ 4294967295 ^^^ 4294967295 = 4294967295 from by decide] at h1
  rw [h1, xor4 (foldB 4294967295 as) (foldB 4294967295 bs) 4294967295, Nat.xor_assoc, Nat.xor_assoc]

theorem stp_ne {x : Nat} (hx : x < 4294967296) (h : stp x = 0) : x = 0 := by
  unfold stp at h
  split at h
  · have := congrArg (fun y => y ^^^ poly) h
    simp only [Nat.xor_assoc, Nat.xor_self, Nat.xor_zero, Nat.zero_xor] at this
    unfold poly at this
    omega
  · omega
theorem stps_ne {k x : Nat} (hx : x < 4294967296) (h : stps k x = 0) : x = 0 := by
  induction k with
  | zero => exact h
  | succ k ih => exact ih (stp_ne (stps_lt k hx) h)
def word : List Nat → Nat
  | [] => 0
  | b :: bs => b + 256 * word bs
theorem foldB_lt (s : Nat) (bs : List Nat) (hs : s < 4294967296) (hb : lt256 bs) : foldB s bs < 4294967296 := by
  induction bs generalizing s with
  | nil => exact hs
  | cons b bs ih => exact ih _ (stps_lt 8 (xor_lt hs (by have := hb b (by simp); omega))) (fun x hx => hb x (by simp [hx]))
theorem foldB_word (s : Nat) (bs : List Nat) (hb : lt256 bs) : foldB s bs = stps (8 * bs.length) (s ^^^ word bs) := by
  induction bs generalizing s with
  | nil => show s = s ^^^ 0; rw [Nat.xor_zero]
  | cons b bs ih =>
    have hb0 := hb b (by simp)
    show foldB (stps 8 (s ^^^ b)) bs = _
    rw [ih _ (fun x hx => hb x (by simp [hx]))]
    have e : b + 256 * word bs = b ^^^ (word bs * 2 ^ 8) := by
      apply Nat.eq_of_testBit_eq
      intro i
      rw [Nat.testBit_xor, Nat.testBit_mul_two_pow, show b + 256 * word bs = 2 ^ 8 * word bs + b by omega, Nat.testBit_two_pow_mul_add _ (by omega)]
      by_cases h : i < 8
      · simp [h, show ¬ 8 ≤ i by omega]
      · rw [if_neg h, Nat.testBit_lt_two_pow (Nat.lt_of_lt_of_le hb0 (Nat.pow_le_pow_right (n := 2) (by omega) (show 8 ≤ i by omega)))]
        simp [show 8 ≤ i by omega]
    show _ = stps (8 * (bs.length + 1)) (s ^^^ (b + 256 * word bs))
    rw [Nat.mul_add, stps_add, e, ← Nat.xor_assoc, Nat.mul_one, stps_xor 8 (s ^^^ b), stps_up]
theorem foldB_app (s : Nat) (as bs : List Nat) : foldB s (as ++ bs) = foldB (foldB s as) bs := by
  induction as generalizing s with
  | nil => rfl
  | cons a as ih => exact ih _
/-- The row of what is turned. -/
def offs (e : Nat → Nat) : Nat → List Nat
  | 0 => []
  | n + 1 => e 0 :: offs (fun j => e (j + 1)) n
theorem offs_length (e : Nat → Nat) (n : Nat) : (offs e n).length = n := by
  induction n generalizing e with
  | zero => rfl
  | succ n ih => show (offs _ n).length + 1 = n + 1; rw [ih]
theorem offs_get (e : Nat → Nat) (n i : Nat) (h : i < n) : (offs e n)[i]? = some (e i) := by
  induction n generalizing e i with
  | zero => omega
  | succ n ih => cases i with
    | zero => rfl
    | succ i => show (offs _ n)[i]? = _; rw [ih _ i (by omega)]
theorem offs_lt {e : Nat → Nat} (he : ∀ j, e j < 256) (n : Nat) : lt256 (offs e n) := by
  intro b hb
  obtain ⟨i, hi, rfl⟩ := List.getElem_of_mem hb
  have := offs_get e n i (by rwa [offs_length] at hi)
  rw [List.getElem?_eq_getElem hi] at this
  rw [Option.some.inj this]
  exact he i
theorem offs_add (e : Nat → Nat) (m n : Nat) : offs e (m + n) = offs e m ++ offs (fun j => e (j + m)) n := by
  induction m generalizing e with
  | zero => rw [Nat.zero_add]; rfl
  | succ m ih =>
    rw [Nat.succ_add]
    show e 0 :: offs _ (m + n) = e 0 :: (offs _ m ++ _)
    rw [ih]
    rfl
theorem foldB_none (e : Nat → Nat) (n : Nat) (h : ∀ j, j < n → e j = 0) (s : Nat) : foldB s (offs e n) = stps (8 * n) s := by
  induction n generalizing e s with
  | zero => rfl
  | succ n ih =>
    show foldB (stps 8 (s ^^^ e 0)) (offs _ n) = _
    rw [h 0 (by omega), Nat.xor_zero, ih _ (fun j hj => h (j + 1) (by omega)), Nat.mul_add, stps_add]
theorem word_zero (e : Nat → Nat) (n : Nat) (h : word (offs e n) = 0) : ∀ j, j < n → e j = 0 := by
  induction n generalizing e with
  | zero => omega
  | succ n ih =>
    have h' : e 0 + 256 * word (offs (fun j => e (j + 1)) n) = 0 := h
    intro j hj
    cases j with
    | zero => omega
    | succ j => exact ih (fun j => e (j + 1)) (by omega) j (by omega)
theorem word_lt (bs : List Nat) (hb : lt256 bs) : word bs < 256 ^ bs.length := by
  induction bs with
  | nil => show 0 < 1; omega
  | cons b bs ih =>
    have := ih (fun x hx => hb x (by simp [hx]))
    have := hb b (by simp)
    show b + 256 * word bs < 256 ^ (bs.length + 1)
    rw [Nat.pow_succ]
    omega
/-- What is turned within four bytes leaves another state behind. -/
theorem foldB_turned (e : Nat → Nat) (he : ∀ j, e j < 256) (n : Nat) (h4 : ∀ j, 4 ≤ j → e j = 0) (h : foldB 0 (offs e n) = 0) : ∀ j, j < n → e j = 0 := by
  have key : ∀ m, m ≤ 4 → foldB 0 (offs e m) = 0 → ∀ j, j < m → e j = 0 := by
    intro m hm h0
    rw [foldB_word _ _ (offs_lt he m), Nat.zero_xor, offs_length] at h0
    have hw := word_lt _ (offs_lt he m)
    rw [offs_length] at hw
    have : (256 : Nat) ^ m ≤ 256 ^ 4 := Nat.pow_le_pow_right (by omega) hm
    exact word_zero e m (stps_ne (by omega) h0)
  rcases Nat.lt_or_ge n 5 with hn | hn
  · exact key n (by omega) h
  · obtain ⟨m, rfl⟩ : ∃ m, n = 4 + m := ⟨n - 4, by omega⟩
    rw [offs_add, foldB_app, foldB_none _ m (fun j _ => h4 _ (by omega))] at h
    have h0 := stps_ne (foldB_lt 0 _ (by omega) (offs_lt he 4)) h
    intro j hj
    rcases Nat.lt_or_ge j 4 with h5 | h5
    · exact key 4 (Nat.le_refl _) h0 j h5
    · exact h4 j h5
theorem foldB_turned_at (e : Nat → Nat) (he : ∀ j, e j < 256) (p n : Nat) (hp : p ≤ n) (h0 : ∀ j, j < p → e j = 0) (h4 : ∀ j, p + 4 ≤ j → e j = 0) (h : foldB 0 (offs e n) = 0) : ∀ j, j < n → e j = 0 := by
  obtain ⟨m, rfl⟩ : ∃ m, n = p + m := ⟨n - p, by omega⟩
  rw [offs_add, foldB_app, foldB_none _ p h0, stps_zero] at h
  have := foldB_turned (fun j => e (j + p)) (fun j => he _) m (fun j hj => h4 _ (by omega)) h
  intro j hj
  rcases Nat.lt_or_ge j p with h5 | h5
  · exact h0 j h5
  · have := this (j - p) (by omega)
    rwa [Nat.sub_add_cancel h5] at this
/-- Two rows of bytes that part within four bytes in a row, if at all, have one sum only if they are one. -/
theorem sum_turned (as bs : List Nat) (e : Nat → Nat) (p : Nat) (ha : lt256 as) (hb : lt256 bs) (he : ∀ j, e j < 256) (hl : as.length = bs.length) (hp : p ≤ bs.length) (h0 : ∀ j, j < p → e j = 0) (h4 : ∀ j, p + 4 ≤ j → e j = 0)
    (hx : ∀ j a b, as[j]? = some a → bs[j]? = some b → a = b ^^^ e j) : (sumN ent as = sumN ent bs ↔ ∀ j, j < bs.length → e j = 0) := by
  have hz : List.zipWith (· ^^^ ·) as bs = offs e bs.length := by
    apply List.ext_getElem?
    intro i
    rcases Nat.lt_or_ge i bs.length with hi | hi
    · rw [offs_get e _ i hi, List.getElem?_zipWith, List.getElem?_eq_getElem hi, List.getElem?_eq_getElem (by omega)]
      have := hx i _ _ (List.getElem?_eq_getElem (by omega)) (List.getElem?_eq_getElem hi)
      simp only [this]
      congr 1
      rw [Nat.xor_comm, ← Nat.xor_assoc, Nat.xor_self, Nat.zero_xor]
    · rw [List.getElem?_eq_none (l := offs e bs.length) (by rw [offs_length]; exact hi), List.getElem?_eq_none (by rw [List.length_zipWith]; omega)]
  have hd := foldB_xor 4294967295 4294967295 as bs hl
  rw [Nat.xor_self, hz] at hd
  have e1 : sumN ent as ^^^ sumN ent bs = foldB 0 (offs e bs.length) := by
    unfold sumN
    rw [sumF_ent _ _ ha, sumF_ent _ _ hb, xor4, hd]
  constructor
  · intro h
    rw [h, Nat.xor_self] at e1
    exact foldB_turned_at e he p _ hp h0 h4 e1.symm
  · intro h
    rw [foldB_none _ _ h, stps_zero] at e1
    have := congrArg (fun y => y ^^^ sumN ent bs) e1
    simpa only [Nat.xor_assoc, Nat.xor_self, Nat.xor_zero, Nat.zero_xor] using this
end Go.Proofs.Ytdecjmkpmpbdcaa

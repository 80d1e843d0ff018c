import Derived.Test.YtldjobaafambbaaBitm
namespace Go.Proofs.Ytldjobaafambbaa

theorem val_append (as' bs : List Nat) : val (as' ++ bs) = val as' * 256 ^ bs.length + val bs := by
  induction as' with
  | nil => simp [val]
  | cons a as' ih =>
    rw [List.cons_append, val_cons, val_cons, ih, List.length_append, Nat.pow_add, Nat.add_mul, Nat.mul_assoc]
    omega
/-- The bit of a row of bytes that has r bits from it on. -/
theorem bit_at (bs : List Nat) (n a r b : Nat) (hn : bs.length = n) (hr : 0 < r) (ha : a + r = 8 * n) (hlt : lt256 bs) (hb : bs[a / 8]? = some b) :
    val bs % 2 ^ r / 2 ^ (r - 1) = b / 2 ^ (7 - a % 8) % 2 := by
  have hj : a / 8 < bs.length := (List.getElem?_eq_some_iff.1 hb).1
  have e0 : bs = bs.take (a / 8) ++ b :: bs.drop (a / 8 + 1) := by
    rw [← (List.getElem?_eq_some_iff.1 hb).2, List.getElem_cons_drop, List.take_append_drop]
  have hl : (bs.drop (a / 8 + 1)).length = n - (a / 8 + 1) := by rw [List.length_drop, hn]
  have hlt2 : lt256 (bs.drop (a / 8 + 1)) := fun x hx => hlt x (List.mem_of_mem_drop hx)
  have hv := val_lt hlt2
  have e1 : (2 : Nat) ^ r = 2 ^ (r - 1) * 2 ^ 1 := by rw [← Nat.pow_add]; congr 1; omega
  have e2 : (2 : Nat) ^ (r - 1) = 2 ^ (8 * (bs.drop (a / 8 + 1)).length) * 2 ^ (7 - a % 8) := by rw [← Nat.pow_add]; congr 1; rw [hl]; omega
  rw [e1, Nat.mod_mul_right_div_self, Nat.pow_one, e2, ← Nat.div_div_eq_div_mul]
  generalize hpre : bs.take (a / 8) = pre at *
  generalize hpost : bs.drop (a / 8 + 1) = post at *
  rw [e0, val_append, val_cons, List.length_cons, pow_256, pow_256]
  have e3 : (val pre * 2 ^ (8 * (post.length + 1)) + (b * 2 ^ (8 * post.length) + val post)) / 2 ^ (8 * post.length) = val pre * 256 + b := by
    rw [show (2 : Nat) ^ (8 * (post.length + 1)) = 256 * 2 ^ (8 * post.length) by rw [Nat.mul_add, Nat.pow_add, Nat.mul_comm], ← Nat.mul_assoc, ← Nat.add_assoc, ← Nat.add_mul, Nat.mul_comm, Nat.mul_add_div (Nat.two_pow_pos _), Nat.div_eq_of_lt hv, Nat.add_zero]
  rw [e3]
  have e4 : (256 : Nat) = 2 ^ (7 - a % 8) * (2 ^ (a % 8) * 2) := by rw [← Nat.pow_succ, ← Nat.pow_add, show 7 - a % 8 + (a % 8).succ = 8 by omega]
  rw [e4, Nat.mul_left_comm, Nat.mul_add_div (Nat.two_pow_pos _), ← Nat.mul_assoc, Nat.mul_comm _ 2, Nat.mul_add_mod]
end Go.Proofs.Ytldjobaafambbaa

import Derived.Test.YtldjobaafambbaaRefw
import Derived.Test.YtldjobaafambbaaRefm
import Derived.Test.YtldjobaafambbaaTwo
namespace Go.Proofs.Ytldjobaafambbaa
open Go.RowKit

/-- The document's own reader at block g. -/
def RRd (w : World) (g row : Nat) (bs : List Nat) (R rem : Nat) (ok : Bool) : Prop :=
  ∃ (A : Option Addr) (n c a : Nat), Blk w g 78 #[.slice A n c, .int .i64 (a : Int), .bool (!ok)] ∧ Sees w row A n (cells8 bs) ∧ row ≠ g ∧ a ≤ 8 * n ∧ n ≤ 1000000 ∧ lt256 bs ∧
    (ok = true → a + rem = 8 * n ∧ R = val bs % 2 ^ rem) ∧ (ok = false → rem = 0 ∧ R = 0)
theorem RRd.mod {w w1 : World} {S : Nat → Prop} {g row R rem : Nat} {bs : List Nat} {ok : Bool} (h : RRd w g row bs R rem ok) (hm : Mod S w w1) (h1 : ¬ S g) (h2 : row < w.heap.size → ¬ S row) : RRd w1 g row bs R rem ok := by
  obtain ⟨A, n, c, a, hblk, hs, rest⟩ := h
  exact ⟨A, n, c, a, hm.blk hblk h1, hs.mod hm h2, rest⟩

theorem rleft_bad (g row R rem : Nat) (bs : List Nat) (w : World) (h : RRd w g row bs R rem false) :
    Calls Try.prog 46 #[.pointer (some ⟨g, 0, none⟩)] w fun e w' => e = .returned (.int .i64 0) ∧ Mod (fun _ => False) w w' := by
  obtain ⟨A, n, c, a, hblk, hs, hne, ha, hn, hlt, h1, h2⟩ := h
  have hc2 := hblk.cell 2
  simp at hc2
  clear hblk hs h1 h2 hlt
  go_enter Try.func46, Try.ntmps46
  go_wp2
  go_ret
  exact ⟨rfl, Mod.refl _ _⟩
theorem rleft_ok (g row R rem : Nat) (bs : List Nat) (w : World) (h : RRd w g row bs R rem true) :
    Calls Try.prog 46 #[.pointer (some ⟨g, 0, none⟩)] w fun e w' => e = .returned (.int .i64 (rem : Int)) ∧ Mod (fun _ => False) w w' := by
  obtain ⟨A, n, c, a, hblk, hs, hne, ha, hn, hlt, h1, h2⟩ := h
  have hc0 := hblk.cell 0
  have hc1 := hblk.cell 1
  have hc2 := hblk.cell 2
  simp at hc0 hc1 hc2
  have H1 := Lib.hid h1
  clear hblk hs h1 h2 hlt
  go_enter Try.func46, Try.ntmps46
  go_wp2
  go_quiet (fail)
  go_wp2
  go_ret
  exact ⟨ret_int (by have := (H1.out (by simp)).1; omega), (Mod.refl _ _).drewN _⟩
theorem rleft_ab (g row R rem : Nat) (bs : List Nat) (ok : Bool) (w : World) (h : RRd w g row bs R rem ok) :
    Calls Try.prog 46 #[.pointer (some ⟨g, 0, none⟩)] w fun e w' => e = .returned (.int .i64 (rem : Int)) ∧ Mod (fun _ => False) w w' := by
  cases ok with
  | true => exact rleft_ok g row R rem bs w h
  | false =>
    have h0 : rem = 0 := by obtain ⟨A, n, c, a, _, _, _, _, _, _, _, h2⟩ := h; exact (h2 rfl).1
    subst h0
    exact rleft_bad g row R 0 bs w h

theorem rget_many (g row R rem k : Nat) (bs : List Nat) (ok : Bool) (n : Int) (w : World) (hk : max 0 (min n 64) = (k : Int)) (h : RRd w g row bs R rem ok) (hkr : ok = true → ¬ k ≤ rem) :
    Calls Try.prog 41 #[.pointer (some ⟨g, 0, none⟩), .int .i64 n] w fun e w' => e = .returned (.int .u64 0) ∧ RRd w' g row bs 0 0 false ∧ Mod (fun i => i = g) w w' := by
  obtain ⟨mx, hmx, hmx2⟩ : ∃ mx : Int, (if n < 0 then (0 : Int) else n) = mx ∧ mx = max n 0 := ⟨_, rfl, by split <;> omega⟩
  have hmn : (if 64 < mx then (64 : Int) else mx) = (k : Int) := by split <;> omega
  have H := Lib.hid h
  obtain ⟨A, n', c, a, hblk, hs, hne, ha, hn, hlt, h1, h2⟩ := h
  have hc2 := hblk.cell 2
  have hf2 := hblk.frozen 2
  simp at hc2
  have Hblk := Lib.hid hblk; have Hs := Lib.hid hs; have Hne := Lib.hid hne; have Hlt := Lib.hid hlt; have Hkr := Lib.hid hkr; have Ha := Lib.hid ha; have Hn := Lib.hid hn
  clear hblk hs hne hlt h1 h2 hk hmx2 hkr ha hn
  cases ok with
  | false =>
    go_enter Try.func41, Try.ntmps41
    go_wp2_with fail
    go_ret
    have hm : Mod (fun i => i = g) w (w.setCell ⟨g, 2, none⟩ (.bool true)) := (Mod.refl (fun i => i = g) w).setCell (p := ⟨g, 2, none⟩) (fun _ => rfl) _
    exact ⟨rfl, ⟨A, n', c, a, by simpa using Hblk.out.set_ 2 (.bool true), Hs.out.mod hm (fun _ => Hne.out), Hne.out, Ha.out, Hn.out, Hlt.out, (fun h => by cases h), fun _ => ⟨rfl, rfl⟩⟩, hm⟩
  | true =>
    have hgt : rem < k := by have := Hkr.out (by simp); omega
    have hmn2 : (if 64 < n then (64 : Int) else n) = (k : Int) := by
      have h1 := hmx; have h2 := hmn
      split at h1 <;> split at h2 <;> split <;> omega
    go_enter Try.func41, Try.ntmps41
    go_wp2_with fail
    refine (rleft_ab g row R rem bs true _ H.out).mono ?_
    rintro e w1 ⟨rfl, hm1⟩
    have hblk1 := hm1.blk Hblk.out (fun h => h)
    have hd2 := hblk1.cell 2
    have he2 := hblk1.frozen 2
    simp at hd2
    have Hblk1 := Lib.hid hblk1; have Hm1 := Lib.hid hm1
    clear hblk1 hm1
    go_wp2_with fail
    go_ret
    have hm : Mod (fun i => i = g) w1 (w1.setCell ⟨g, 2, none⟩ (.bool true)) := (Mod.refl (fun i => i = g) w1).setCell (p := ⟨g, 2, none⟩) (fun _ => rfl) _
    exact ⟨rfl, ⟨A, n', c, a, by simpa using Hblk1.out.set_ 2 (.bool true), (Hs.out.mod Hm1.out (fun _ h => h)).mod hm (fun _ => Hne.out), Hne.out, Ha.out, Hn.out, Hlt.out, (fun h => by cases h), fun _ => ⟨rfl, rfl⟩⟩, (Hm1.out.mono (fun _ _ h => h.elim)).trans hm (fun _ _ h => h)⟩

theorem rget_or (V b f : Nat) (hb : b < 256) (hV : V * 2 ^ 1 + 2 ^ 1 ≤ 18446744073709551616) :
    bits BinOp.or IntKind.u64 (IntKind.u64.wrap ((V : Int) * 2)) (IntKind.u64.wrap (bits BinOp.and IntKind.u8 ((b : Int) / 2 ^ f) 1)) = ((V * 2 + b / 2 ^ f % 2 : Nat) : Int) := by
  have e : (b : Int) / 2 ^ f = ((b / 2 ^ f : Nat) : Int) := by simp
  have h1 := Nat.div_le_self b (2 ^ f)
  rw [e]
  generalize b / 2 ^ f = x at *
  have h2 := u8_and_nat x 1 (by omega) (by decide)
  rw [nat_mask1] at h2
  have h2' : bits BinOp.and IntKind.u8 (x : Int) 1 = ((x % 2 : Nat) : Int) := h2
  rw [h2']
  have h3 := get_or V x 0 1 hV
  simp only [Nat.pow_one, Nat.pow_zero, Nat.div_one, Int.pow_zero, Int.ediv_one] at h3
  have e1 : ((2 : Int) ^ 1) = 2 := rfl
  rw [e1] at h3
  rw [Int.natCast_emod]
  exact h3

set_option maxHeartbeats 1000000 in
set_option maxRecDepth 100000 in
theorem rget_any (g row R rem k : Nat) (bs : List Nat) (n : Int) (w : World) (hk : max 0 (min n 64) = (k : Int)) (h : RRd w g row bs R rem true) (hkr : k ≤ rem) :
    Calls Try.prog 41 #[.pointer (some ⟨g, 0, none⟩), .int .i64 n] w fun e w' => e = .returned (.int .u64 ((R / 2 ^ (rem - k) : Nat) : Int)) ∧ RRd w' g row bs (R % 2 ^ (rem - k)) (rem - k) true ∧ Mod (fun i => i = g) w w' := by
  obtain ⟨mx, hmx, hmx2⟩ : ∃ mx : Int, (if n < 0 then (0 : Int) else n) = mx ∧ mx = max n 0 := ⟨_, rfl, by split <;> omega⟩
  have hmn : (if 64 < mx then (64 : Int) else mx) = (k : Int) := by split <;> omega
  have hk64 : k ≤ 64 := by omega
  have H := Lib.hid h
  have HR : Hid (R < 2 ^ rem) := Lib.hid (by obtain ⟨A, n', c, a, _, _, _, _, _, _, h1, _⟩ := h; rw [(h1 rfl).2]; exact Nat.mod_lt _ (Nat.two_pow_pos _))
  have hc2 : w.cell? ⟨g, 2, none⟩ = some (.bool false) := by obtain ⟨A, n', c, a, hblk, _⟩ := h; have := hblk.cell 2; simpa using this
  have hgt : ¬ rem < k := by omega
  clear h hk hmx2
  go_enter Try.func41, Try.ntmps41
  go_wp2_with fail
  refine (rleft_ab g row R rem bs true _ H.out).mono ?_
  rintro e w1 ⟨rfl, hm1⟩
  have H1 := Lib.hid (H.out.mod hm1 (fun h => h) (fun _ h => h)); have Hm1 := Lib.hid hm1
  clear hm1 hc2 H
  go_upto_region 7 with fail
  go_loopg [5, 6] k (fun l s5 s6 wr => ∃ i : Nat, i + l = k ∧ s6 = .int .i64 (i : Int) ∧ s5 = .int .u64 ((R / 2 ^ (rem - i) : Nat) : Int) ∧ RRd wr g row bs (R % 2 ^ (rem - i)) (rem - i) true ∧ Mod (fun i => i = g) w wr)
  case atStart =>
    have hR := HR.out
    refine ⟨0, by omega, rfl, ?_, ?_, Hm1.out.mono (fun _ _ h => h.elim)⟩
    · rw [Nat.sub_zero, Nat.div_eq_of_lt hR]; rfl
    · rw [Nat.sub_zero, Nat.mod_eq_of_lt hR]
      exact H1.out
  case round =>
    obtain ⟨i, hik, rfl, rfl, hr, hm⟩ := hrel
    have Hr := Lib.hid hr; have Hm := Lib.hid hm; have Hik := Lib.hid hik
    clear hr hm H1 hik
    by_cases hl0 : gk = 0
    · have hi : ¬ i < k := by have := Hik.out; omega
      have hik : Hid (i = k) := Lib.hid (by have := Hik.out; omega)
      go_wp2
      go_ret
      have := Hr.out
      rw [hik.out] at this
      exact ⟨by rw [hik.out]; simp, this, Hm.out⟩
    · have hi : i < k := by have := Hik.out; omega
      obtain ⟨A, n', c, a, hblk, hs, hne, ha, hn, hlt, h1, h2⟩ := Hr.out
      obtain ⟨har, hR'⟩ := h1 rfl
      have hn0 : 0 < n' := by omega
      have hc0 := hblk.cell 0
      have hc1 := hblk.cell 1
      have hf1 := hblk.frozen 1
      simp at hc0 hc1
      obtain ⟨o, rfl, hrl, hcell⟩ := hs.2 hn0
      have hlen := hs.1
      rw [cells8_length] at hlen
      obtain ⟨b, hb⟩ : ∃ b, bs[a / 8]? = some b := ⟨bs[a / 8]'(by omega), List.getElem?_eq_getElem _⟩
      have hcb := hcell (a / 8) (.int .u8 (b : Int)) (by rw [cells8_get, hb]; rfl)
      have hb256 : b < 256 := hlt b (List.mem_of_getElem? hb)
      have Hans := Lib.hid (bit_at bs n' a (rem - i) b hlen (by omega) har hlt hb)
      obtain ⟨V, hV⟩ : ∃ V, V = R / 2 ^ (rem - i) := ⟨_, rfl⟩
      rw [← hV]
      obtain ⟨q, hq⟩ : ∃ q, q = a / 8 := ⟨_, rfl⟩
      obtain ⟨t, ht⟩ : ∃ t, t = a % 8 := ⟨_, rfl⟩
      rw [← hq] at hcb
      have ha1 : (a : Int) / 8 = (q : Int) := by omega
      have ha2 : (a : Int).tdiv 8 = (q : Int) := by rw [Int.tdiv_eq_ediv_of_nonneg (by omega)]; omega
      have ha3 : (a : Int).tmod 8 = (t : Int) := by rw [Int.tmod_eq_emod_of_nonneg (by omega)]; omega
      obtain ⟨f, hf⟩ : ∃ f, f = 7 - t := ⟨_, rfl⟩
      have hw7 : IntKind.i64.wrap (7 - (t : Int)) = (f : Int) := by rw [IntWalk.i64_in _ (by omega)]; omega
      have hw8 : IntKind.u64.wrap (f : Int) = (f : Int) := by rw [IntKind.wrap_u64]; omega
      have hwq : IntKind.i64.wrap (q : Int) = (q : Int) := IntWalk.i64_in _ (by omega)
      have hmin : min f 8 = f := by omega
      have hq0 : (0 : Int) ≤ (q : Int) := by omega
      have hq1 : (q : Int) < (n' : Int) := by omega
      have hqf : Hid (q = a / 8 ∧ t = a % 8 ∧ f = 7 - t) := Lib.hid ⟨hq, ht, hf⟩
      have hal : a ≤ 8000000 := by omega
      have Hans2 : Hid (R % 2 ^ (rem - i) / 2 ^ (rem - i - 1) = b / 2 ^ f % 2) := Lib.hid (by rw [hR', Hans.out, hf, ht])
      have HV := Lib.hid hV
      have Hblk := Lib.hid hblk; have Hs := Lib.hid hs; have Hne := Lib.hid hne; have Hlt := Lib.hid hlt; have Har := Lib.hid har; have HR' := Lib.hid hR'; have Ha := Lib.hid ha; have Hn := Lib.hid hn
      clear hblk hs hne hlt har hR' h1 h2 hq ht hf hV Hans hcell hb ha hn hmx hmn hlen
      go_upto_region 9 with fail
      go_quiet (fail)
      go_upto_region 10 with fail
      have hVb : Hid (V * 2 ^ 1 + 2 ^ 1 ≤ 18446744073709551616) := Lib.hid (get_bound (R := R) (rem := rem) (k := k) (l := k - i) (by rw [HV.out, show k - (k - i) = i by omega]) HR.out (by omega) hk64 (by omega) hkr)
      rw [rget_or V b f hb256 hVb.out]
      have hb0 : (wr.drewN nq).frozen? ⟨g, 1, none⟩ = false := hf1
      clear hVb
      go_wp2
      go_roundg (gk - 1)
      case measure => omega
      case rel =>
        have e1 : rem - (i + 1) = rem - i - 1 := by omega
        have e3 : V * 2 + b / 2 ^ f % 2 = R / 2 ^ (rem - (i + 1)) := by
          rw [e1, read_more R (rem - i) 1 (by omega), ← HV.out, Hans2.out, Nat.pow_one]
        have hm2 : Mod (fun i => i = g) wr ((wr.drewN nq).setCell ⟨g, 1, none⟩ (.int .i64 ((a : Int) + 1))) := ((Mod.refl (fun i => i = g) wr).drewN nq).setCell (p := ⟨g, 1, none⟩) (fun _ => rfl) _
        refine ⟨i + 1, by have := Hik.out; omega, by go_num, by rw [← e3], ⟨some ⟨row, o, none⟩, n', c, a + 1, ?_, Hs.out.mod hm2 (fun _ => Hne.out), Hne.out, by have := Har.out; omega, Hn.out, Hlt.out, fun _ => ⟨by have := Har.out; omega, ?_⟩, fun h => by cases h⟩, Hm.out.trans hm2 (fun _ _ h => h)⟩
        · have := (Hblk.out.drewN nq).set_ 1 (.int .i64 ((a : Int) + 1))
          simpa using this
        · have h1 := rest_bits (val bs) (rem - i) 1 (by omega)
          rw [← HR'.out] at h1
          rw [e1, ← h1, rest_bits _ _ _ (by omega)]
end Go.Proofs.Ytldjobaafambbaa

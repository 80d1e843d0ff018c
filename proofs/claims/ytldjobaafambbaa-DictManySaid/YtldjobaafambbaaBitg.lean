import Derived.Test.YtldjobaafambbaaBitq
namespace Go.Proofs.Ytldjobaafambbaa
open Go.RowKit

theorem pass_less (g n c used m : Nat) (A : Option Addr) (e : Bool) (w : World) (hblk : Blk w g 80 #[.slice A n c, .int .u64 (used : Int), .bool e]) (h : used + m < 8) :
    Calls Try.prog 43 #[.pointer (some ⟨g, 0, none⟩), .int .u64 (m : Int)] w fun e' w' => e' = .returned (.tuple #[]) ∧
      Blk w' g 80 #[.slice A n c, .int .u64 ((used + m : Nat) : Int), .bool e] ∧ Mod (fun i => i = g) w w' := by
  have hc1 := hblk.cell 1
  have hf1 := hblk.frozen 1
  simp at hc1
  have hb : ((used : Int) + (m : Int) == 8) = false := by simp; omega
  have Hblk := Lib.hid hblk
  clear hblk
  go_enter Try.func43, Try.ntmps43
  go_wp2
  go_end0
  refine ⟨rfl, ?_, (Mod.refl (fun i => i = g) w).setCell (p := ⟨g, 1, none⟩) (fun _ => rfl) _⟩
  simpa using Hblk.out.set_ 1 (.int .u64 ((used : Int) + (m : Int)))

theorem pass_byte (g row o n c used m : Nat) (e : Bool) (w : World) (hblk : Blk w g 80 #[.slice (some ⟨row, o, none⟩) (n + 1) (c + 1), .int .u64 (used : Int), .bool e]) (h : used + m = 8) (hnc : n ≤ c) (hm : m ≤ 8) :
    Calls Try.prog 43 #[.pointer (some ⟨g, 0, none⟩), .int .u64 (m : Int)] w fun e' w' => e' = .returned (.tuple #[]) ∧
      (∃ A', (0 < n → A' = some ⟨row, o + 1, none⟩) ∧ Blk w' g 80 #[.slice A' n c, .int .u64 0, .bool e]) ∧ Mod (fun i => i = g) w w' := by
  have hc0 := hblk.cell 0
  have hc1 := hblk.cell 1
  have hf1 := hblk.frozen 1
  have hf0 := hblk.frozen 0
  simp at hc0 hc1
  have hb : ((used : Int) + (m : Int) == 8) = true := by simp; omega
  have Hblk := Lib.hid hblk
  have H := Lib.hid h
  have h8 : used ≤ 8 := by omega
  clear hblk h
  go_enter Try.func43, Try.ntmps43
  go_wp2
  all_goals go_end0
  · obtain rfl : c = 0 := by assumption
    refine ⟨rfl, ⟨some ⟨row, o, none⟩, fun h => by omega, ?_⟩, ?_⟩
    · simpa using ((Hblk.out.set_ 1 (.int .u64 ((used : Int) + (m : Int)))).set_ 0 (.slice (some ⟨row, o, none⟩) n 0)).set_ 1 (.int .u64 0)
    · exact (((Mod.refl (fun i => i = g) w).setCell (p := ⟨g, 1, none⟩) (fun _ => rfl) _).setCell (p := ⟨g, 0, none⟩) (fun _ => rfl) _).setCell (p := ⟨g, 1, none⟩) (fun _ => rfl) _
  · refine ⟨rfl, ⟨some ⟨row, o + 1, none⟩, fun _ => rfl, ?_⟩, ?_⟩
    · simpa using ((Hblk.out.set_ 1 (.int .u64 ((used : Int) + (m : Int)))).set_ 0 (.slice (some ⟨row, o + 1, none⟩) n c)).set_ 1 (.int .u64 0)
    · exact (((Mod.refl (fun i => i = g) w).setCell (p := ⟨g, 1, none⟩) (fun _ => rfl) _).setCell (p := ⟨g, 0, none⟩) (fun _ => rfl) _).setCell (p := ⟨g, 1, none⟩) (fun _ => rfl) _

/-- A reader goes on by m bits of its first byte. -/
theorem pass_any (g row R rem m : Nat) (ok : Bool) (w : World) (A : Option Addr) (n c : Nat) (bs : List Nat) (used : Nat) (hblk : Blk w g 80 #[.slice A n c, .int .u64 (used : Int), .bool (!ok)]) (hnc : n ≤ c)
    (hs : Sees w row A n (cells8 bs)) (hne : row ≠ g) (hlt : lt256 bs) (hrem : rem + used = 8 * n) (hR : R = val bs % 2 ^ rem) (hok : ok = false → rem = 0) (hm0 : 0 < m) (hm : used + m ≤ 8) (hmr : m ≤ rem) :
    Calls Try.prog 43 #[.pointer (some ⟨g, 0, none⟩), .int .u64 (m : Int)] w fun e' w' => e' = .returned (.tuple #[]) ∧ Rdr w' g row (R % 2 ^ (rem - m)) (rem - m) ok ∧ Mod (fun i => i = g) w w' := by
  have hR2 : R % 2 ^ (rem - m) = val bs % 2 ^ (rem - m) := by rw [hR, rest_bits _ _ _ hmr]
  rcases Nat.lt_or_ge (used + m) 8 with h8 | h8
  · refine (pass_less g n c used m A (!ok) w hblk h8).mono ?_
    rintro e w' ⟨rfl, hb, hmod⟩
    exact ⟨rfl, ⟨A, n, c, bs, used + m, hb, hnc, hs.mod hmod (fun _ => hne), hne, hlt, by omega, h8, hR2, fun h => by have := hok h; omega⟩, hmod⟩
  · obtain ⟨n, rfl⟩ : ∃ n', n = n' + 1 := ⟨n - 1, by omega⟩
    obtain ⟨c, rfl⟩ : ∃ c', c = c' + 1 := ⟨c - 1, by omega⟩
    obtain ⟨o, rfl, hlr, hc⟩ := hs.2 (by omega)
    refine (pass_byte g row o n c used m (!ok) w hblk (by omega) (by omega) (by omega)).mono ?_
    rintro e w' ⟨rfl, ⟨A', hA', hb⟩, hmod⟩
    have hlen := hs.1
    rw [cells8_length] at hlen
    obtain ⟨b, bs, rfl⟩ : ∃ b bs', bs = b :: bs' := by
      cases bs with
      | nil => simp at hlen
      | cons b bs => exact ⟨b, bs, rfl⟩
    simp at hlen
    refine ⟨rfl, ⟨A', n, c, bs, 0, hb, by omega, ⟨by rw [cells8_length]; exact hlen, fun hn => ⟨o + 1, hA' hn, Nat.lt_of_lt_of_le hlr hmod.size, fun j u hu => ?_⟩⟩, hne, (lt256_cons.1 hlt).2, by omega, by omega, ?_, fun h => by have := hok h; omega⟩, hmod⟩
    · rw [hmod.cell (a := ⟨row, o + 1 + j, none⟩) hlr hne, show o + 1 + j = o + (j + 1) by omega]
      exact hc (j + 1) u (by simpa [cells8] using hu)
    · rw [hR2, show rem - m = 8 * bs.length by omega, drop_byte]

theorem get_bound {R rem k l m V : Nat} (hV : V = R / 2 ^ (rem - (k - l))) (hR : R < 2 ^ rem) (hl : l ≤ k) (hk : k ≤ 64) (hm : m ≤ l) (hkr : k ≤ rem) : V * 2 ^ m + 2 ^ m ≤ 18446744073709551616 := by
  have h1 : V < 2 ^ (k - l) := by
    rw [hV, Nat.div_lt_iff_lt_mul (Nat.two_pow_pos _), ← Nat.pow_add, show k - l + (rem - (k - l)) = rem by omega]
    exact hR
  calc V * 2 ^ m + 2 ^ m = (V + 1) * 2 ^ m := by rw [Nat.add_mul, Nat.one_mul]
    _ ≤ 2 ^ (k - l) * 2 ^ m := Nat.mul_le_mul_right _ h1
    _ = 2 ^ (k - l + m) := by rw [Nat.pow_add]
    _ ≤ 2 ^ 64 := Nat.pow_le_pow_right (by omega) (by omega)

theorem get_or (V b f m : Nat) (hV : V * 2 ^ m + 2 ^ m ≤ 18446744073709551616) :
    bits BinOp.or IntKind.u64 (IntKind.u64.wrap ((V : Int) * 2 ^ m)) (IntKind.u64.wrap ((b : Int) / 2 ^ f % 2 ^ m)) = ((V * 2 ^ m + b / 2 ^ f % 2 ^ m : Nat) : Int) := by
  have hx : b / 2 ^ f % 2 ^ m < 2 ^ m := Nat.mod_lt _ (Nat.two_pow_pos m)
  have e1 : (V : Int) * 2 ^ m = ((V * 2 ^ m : Nat) : Int) := by simp
  have e2 : (b : Int) / 2 ^ f % 2 ^ m = ((b / 2 ^ f % 2 ^ m : Nat) : Int) := by simp
  rw [e1, e2, IntKind.wrap_u64, IntKind.wrap_u64]
  have h0 := nat_join m (V * 2 ^ m) (b / 2 ^ f % 2 ^ m) (Nat.mul_mod_left _ _) hx
  generalize V * 2 ^ m = y at *
  generalize b / 2 ^ f % 2 ^ m = x at *
  generalize 2 ^ m = z at *
  rw [Int.emod_eq_of_lt (by omega) (by omega), Int.emod_eq_of_lt (by omega) (by omega), u64_or_nat _ _ (by omega) (by omega), h0]

/-- What Get has read, l bits from the end. -/
def GetTo (w wr : World) (g row R rem : Nat) (ok : Bool) (k l : Nat) : Prop :=
  Rdr wr g row (R % 2 ^ (rem - (k - l))) (rem - (k - l)) ok ∧ Mod (fun i => i = g) w wr

theorem get_many (g row R rem k : Nat) (ok : Bool) (n : Int) (w : World) (hn : FitI n) (hk : max 0 (min n 64) = (k : Int)) (h : Rdr w g row R rem ok) (hkr : ¬ k ≤ rem) (hm : rem ≤ 8000000000) :
    Calls Try.prog 33 #[.pointer (some ⟨g, 0, none⟩), .int .i64 n] w fun e w' => e = .returned (.int .u64 0) ∧ Rdr w' g row 0 0 false ∧ Mod (fun i => i = g) w w' := by
  go_enter Try.func33, Try.ntmps33
  go_wp2_with fail
  refine (held_any n _ hn.1 hn.2).mono ?_
  rintro e w' ⟨rfl, rfl⟩
  rw [hk]
  have hk64 : k ≤ 64 := by omega
  clear hk hn
  go_wp2_with fail
  refine (left_any g row R rem ok _ h hm).mono ?_
  rintro e w' ⟨rfl, nq, rfl⟩
  obtain ⟨A, n', c, bs, used, hblk, hnc, hs, hne, hlt, hrem, hused, hR, hok⟩ := h
  have hc0 := hblk.cell 0
  have hc1 := hblk.cell 1
  have hc2 := hblk.cell 2
  have hf0 := hblk.frozen 0
  have hf1 := hblk.frozen 1
  have hf2 := hblk.frozen 2
  simp at hc0 hc1 hc2
  have Hblk := Lib.hid hblk
  have Hne := Lib.hid hne
  clear hblk hs hrem hR hok hlt hnc hne
  go_wp2
  go_ret
  refine ⟨rfl, ⟨none, 0, 0, [], 0, ?_, Nat.le_refl _, ⟨rfl, fun h => by omega⟩, Hne.out, lt256_nil, rfl, by omega, rfl, fun _ => rfl⟩, ?_⟩
  · simpa using (((Hblk.out.drewN nq).set_ 0 (.slice none 0 0)).set_ 1 (.int .u64 0)).set_ 2 (.bool true)
  · exact ((((Mod.refl (fun i => i = g) w).drewN nq).setCell (p := ⟨g, 0, none⟩) (fun _ => rfl) _).setCell (p := ⟨g, 1, none⟩) (fun _ => rfl) _).setCell (p := ⟨g, 2, none⟩) (fun _ => rfl) _

set_option maxHeartbeats 1000000 in
set_option maxRecDepth 100000 in
theorem get_any (g row R rem k : Nat) (ok : Bool) (n : Int) (w : World) (hn : FitI n) (hk : max 0 (min n 64) = (k : Int)) (h : Rdr w g row R rem ok) (hR : R < 2 ^ rem) (hkr : k ≤ rem) (hm : rem ≤ 8000000000) :
    Calls Try.prog 33 #[.pointer (some ⟨g, 0, none⟩), .int .i64 n] w fun e w' => e = .returned (.int .u64 ((R / 2 ^ (rem - k) : Nat) : Int)) ∧ Rdr w' g row (R % 2 ^ (rem - k)) (rem - k) ok ∧ Mod (fun i => i = g) w w' := by
  go_enter Try.func33, Try.ntmps33
  go_wp2_with fail
  refine (held_any n _ hn.1 hn.2).mono ?_
  rintro e w' ⟨rfl, rfl⟩
  rw [hk]
  have hk64 : k ≤ 64 := by omega
  clear hk hn
  go_wp2_with fail
  refine (left_any g row R rem ok _ h hm).mono ?_
  rintro e w' ⟨rfl, nq, rfl⟩
  have hgt : ¬ rem < k := by omega
  have H := Lib.hid h
  have HR := Lib.hid hR
  clear h hR
  go_upto_region 6 with fail
  go_loopg [5, 6] k (fun l s5 s6 wr => l ≤ k ∧ s5 = .int .u64 (l : Int) ∧ s6 = .int .u64 ((R / 2 ^ (rem - (k - l)) : Nat) : Int) ∧ GetTo w wr g row R rem ok k l)
  case atStart =>
    have hR := HR.out
    refine ⟨Nat.le_refl _, rfl, ?_, ?_, (Mod.refl _ _).drewN _⟩
    · rw [Nat.sub_self, Nat.sub_zero, Nat.div_eq_of_lt hR]; rfl
    · rw [Nat.sub_self, Nat.sub_zero, Nat.mod_eq_of_lt hR]
      exact H.out
  case round =>
    obtain ⟨hl, rfl, rfl, ⟨A, n', c, bs, used, hblk, hnc, hs, hne, hlt, hrem, hused, hR', hok⟩, hmod⟩ := hrel
    by_cases hl0 : gk = 0
    · subst hl0
      have Hr : Hid (Rdr wr g row (R % 2 ^ (rem - k)) (rem - k) ok) := Lib.hid ⟨A, n', c, bs, used, hblk, hnc, hs, hne, hlt, hrem, hused, hR', hok⟩
      have Hmod := Lib.hid hmod
      clear hblk hs hrem hR' hok hlt hnc hne hmod
      go_wp2
      go_ret
      exact ⟨rfl, Hr.out, Hmod.out⟩
    · have hl1 : 0 < gk := by omega
      have hn1 : 0 < n' := by omega
      obtain ⟨o, rfl, hrl, hcell⟩ := hs.2 hn1
      have hlen := hs.1
      rw [cells8_length] at hlen
      obtain ⟨b, bs', rfl⟩ : ∃ b bs', bs = b :: bs' := by
        cases bs with
        | nil => simp at hlen; omega
        | cons b bs => exact ⟨b, bs, rfl⟩
      obtain ⟨q, hq⟩ : ∃ q : Nat, q = 8 - used := ⟨_, rfl⟩
      have hq1 : (8 : Int) - (used : Int) = (q : Int) := by omega
      obtain ⟨m, hm1, hm0, hml, hmq⟩ : ∃ m : Nat, (if q < gk then (q : Int) else (gk : Int)) = (m : Int) ∧ 0 < m ∧ m ≤ gk ∧ m ≤ q := by
        by_cases h : q < gk
        · exact ⟨q, by rw [if_pos h], by omega, by omega, by omega⟩
        · exact ⟨gk, by rw [if_neg h], by omega, by omega, by omega⟩
      obtain ⟨d, hd⟩ : ∃ d : Nat, d = gk - m := ⟨_, rfl⟩
      obtain ⟨f, hf⟩ : ∃ f : Nat, f = q - m := ⟨_, rfl⟩
      have hd1 : (gk : Int) - (m : Int) = (d : Int) := by omega
      have hf1 : (q : Int) - (m : Int) = (f : Int) := by omega
      have hq8 : q ≤ 8 := by omega
      have hm8 : m ≤ 8 := by omega
      have hf8 : f ≤ 8 := by omega
      have hd64 : d ≤ 64 := by omega
      have Hd := Lib.hid hd; have Hf := Lib.hid hf; have Hq := Lib.hid hq
      have hc0 := hblk.cell 0
      have hc1 := hblk.cell 1
      have hcb := hcell 0 (.int .u8 (b : Int)) (by simp [cells8])
      simp at hc0 hc1 hcb
      have Hblk := Lib.hid hblk; have Hs := Lib.hid hs; have Hrem := Lib.hid hrem; have HR' := Lib.hid hR'; have Hok := Lib.hid hok; have Hlt := Lib.hid hlt; have Hne := Lib.hid hne; have Hmod := Lib.hid hmod; have Hnc := Lib.hid hnc
      clear hblk hs hrem hR' hok hlt hne hmod hd hf hq hlen hcell
      go_upto_region 9 with fail
      obtain ⟨V, hV⟩ : ∃ V, V = R / 2 ^ (rem - (k - gk)) := ⟨_, rfl⟩
      rw [← hV]
      have HV := Lib.hid hV
      have hb64 : Lt64 b := by have := (lt256_cons.1 Hlt.out).1; unfold Lt64; omega
      have hw0 : IntKind.u64.wrap (q : Int) = (q : Int) := by rw [IntKind.wrap_u64]; omega
      have hw1 : IntKind.u64.wrap (f : Int) = (f : Int) := by rw [IntKind.wrap_u64]; omega
      have hw2 : IntKind.u64.wrap (b : Int) = (b : Int) := by have := hb64.out; rw [IntKind.wrap_u64]; omega
      have hn0 : (0 : Int) < (n' : Int) := by omega
      clear hV hc1 hd1 hm1
      have hc1 : wr.cell? ⟨g, 1, none⟩ = some (.int .u64 (used : Int)) := by simpa using Hblk.out.cell 1
      go_quiet ((go_at_call 35; exact Calls.quiet_of_same (low_of b f m _ hb64 hm8)))
      go_upto_region 10 with fail
      have hVb : Hid (V * 2 ^ m + 2 ^ m ≤ 18446744073709551616) := Lib.hid (get_bound HV.out HR.out hl hk64 hml hkr)
      rw [get_or V b f m hVb.out]
      clear hVb
      go_wp2_with fail
      refine (pass_any g row (R % 2 ^ (rem - (k - gk))) (rem - (k - gk)) m ok _ (some ⟨row, o, none⟩) n' c (b :: bs') used (Hblk.out.drewN nq) Hnc.out (Hs.out.mod ((Mod.refl (fun _ => False) wr).drewN nq) (fun _ h => h)) Hne.out Hlt.out Hrem.out HR'.out Hok.out hm0
        (by have := Hq.out; omega) (by have := Hrem.out; omega)).mono ?_
      rintro e w2 ⟨rfl, hr2, hmod2⟩
      have Hr2 := Lib.hid hr2
      have Hmod2 := Lib.hid hmod2
      clear hr2 hmod2
      go_wp2
      go_roundg d
      case measure => have := Hd.out; omega
      case rel =>
        have hd := Hd.out
        have e1 : rem - (k - d) = rem - (k - gk) - m := by omega
        have e2 : f = 8 - used - m := by have := Hf.out; have := Hq.out; omega
        have hlen := Hs.out.1
        simp [cells8] at hlen
        have e3 : V * 2 ^ m + b / 2 ^ f % 2 ^ m = R / 2 ^ (rem - (k - d)) := by
          rw [e1, read_more R (rem - (k - gk)) m (by omega), ← HV.out, HR'.out, e2, take_bits b bs' used m (rem - (k - gk)) Hlt.out (by have := Hq.out; omega) (by rw [hlen]; exact Hrem.out)]
        refine ⟨by omega, rfl, by rw [← e3]; simp, ?_, (Hmod.out.drewN nq).trans Hmod2.out (fun _ _ h => h)⟩
        rw [e1]
        have := Hr2.out
        rwa [rest_bits _ _ _ (by omega)] at this
end Go.Proofs.Ytldjobaafambbaa

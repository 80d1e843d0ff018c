/- The texts Bitq, Bitg, Bitw, Refw, Refb, Two, Refr, Play0, Conv, one behind the other. -/
import Derived.Test.YtldjobaafambbaaMg10
import Derived.Deep.QuietTactic
import Derived.BigQuiet
import Derived.Test.YtldjobaafambbaaMg1
import Derived.Laws.IdiomStrings
namespace Go.Proofs.Ytldjobaafambbaa
open Go.RowKit

theorem clone_nil (w : World) : Calls Try.prog 38 #[.slice none 0 0] w fun e w' => e = .returned (.slice none 0 0) ∧ w = w' := by
  have hq := @Lib.run_eql_slice_nil Try.prog
  go_enter Try.func38, Try.ntmps38
  go_wp2
  go_ret
  exact ⟨rfl, rfl⟩


/-- What a call answers that makes a row of its own. -/
def NewRow (w w' : World) (v : Value) (n : Nat) (xs : List Value) : Prop :=
  w'.ownsRow 0 5 1 v n xs ∧ Mod (fun _ => False) w w' ∧ ((v.ownBlock = none) ∨ ∃ r, v.ownBlock = some r ∧ w.heap.size ≤ r)

theorem clone_some (ad : Addr) (n c : Nat) (bs : List Nat) (w : World) (hn : bs.length = n) (hc : ∀ j u, (cells8 bs)[j]? = some u → w.cell? (ad.add j) = some u) (hg : bs = [] ∨ ad.block < w.heap.size) (hm : n ≤ 1000000000) :
    Calls Try.prog 38 #[.slice (some ad) n c] w fun e w' => ∃ v, e = .returned v ∧ NewRow w w' v n (cells8 bs) ∧ v ≠ .slice none 0 0 := by
  have hq := fun w => Lib.run_eql_slice_nil (P := Try.prog) w 27 5 (some ad) n c 0 0 Try.underlying27
  obtain ⟨i0, hi, hz0, hz1, hz2⟩ := info_parts Try.info5
  have Hb : Room 0 n := Room.mk _ _ (by omega)
  have Hown : Hid ((w.alloc (.cells #[] 5)).ownsRow 0 5 1 (.slice (some ⟨w.heap.size, 0, none⟩) 0 0) 0 []) := Lib.hid (World.ownsRow_lit w #[] 0 (Nat.zero_le _) (Nat.zero_le _) rfl)
  have Hc : Hid (∀ j u, (cells8 bs)[j]? = some u → (w.alloc (.cells #[] 5)).cell? (ad.add j) = some u) := Lib.hid (by
    intro j u hu
    rcases hg with rfl | hg
    · simp [cells8] at hu
    · rw [World.cell?_alloc_lt w _ _ (by rw [add_block]; exact hg)]
      exact hc j u hu)
  have Hn : Hid ((cells8 bs).length = n * 1) := Lib.hid (by rw [cells8_length]; omega)
  clear hc hn hm
  go_enter Try.func38, Try.ntmps38
  go_wp2_with (at_builtin; refine wpList_append_own_at _ rfl _ _ 27 rfl 0 5 i0 (.int .u8 0) 1 1 Try.underlying27 hi hz0 hz1 hz2 rfl (by decide) (.slice (some ⟨w.heap.size, 0, none⟩) 0 0) 0 [] rfl Hown.out ad n c (cells8 bs) rfl Hn.out Hc.out (cells8_one bs) Hb.1 Hb.2 (Nat.zero_le _) ?_; intro v' w1 hown' hgrow hnil hrow'; have Hown' := Lib.hid hown'; have Hgrow := Lib.hid hgrow; have Hnil := Lib.hid hnil; have Hrow' := Lib.hid hrow'; clear hown' hgrow hnil hrow')
  go_ret
  have h1 := Hgrow.out
  have h2 := Hrow'.out
  refine ⟨v', rfl, ⟨by simpa using Hown'.out, ?_, ?_⟩, ?_⟩
  · refine ((Mod.refl _ _).alloc _).grown h1 ?_
    intro k hk hlt
    simp [Value.ownBlock] at hk
    omega
  · rcases h2 with h2 | h2
    · exact .inr ⟨_, h2, by simp⟩
    · exact .inr ⟨_, h2, by simp⟩
  · intro h
    have := (Hnil.out.1 h).1
    simp at this

theorem clone_any (row : Nat) (A : Option Addr) (n c : Nat) (bs : List Nat) (w : World) (hs : Sees w row A n (cells8 bs)) (hA : A = none → c = 0) (hm : n ≤ 1000000000) :
    Calls Try.prog 38 #[.slice A n c] w fun e w' => ∃ v, e = .returned v ∧ NewRow w w' v n (cells8 bs) := by
  have hlen : bs.length = n := by have := hs.1; rwa [cells8_length] at this
  rcases A with _ | ad
  · obtain rfl := hA rfl
    have hn : n = 0 := by
      rcases Nat.eq_zero_or_pos n with h | h
      · exact h
      · obtain ⟨o, h', _⟩ := hs.2 h
        cases h'
    subst hn
    obtain rfl := List.eq_nil_of_length_eq_zero hlen
    refine (clone_nil w).mono ?_
    rintro e w' ⟨rfl, rfl⟩
    exact ⟨_, rfl, World.ownsRow_nil _ _ _ _, Mod.refl _ _, .inl rfl⟩
  · refine (clone_some ad n c bs w hlen ?_ ?_ hm).mono fun e w' ⟨v, h1, h2, _⟩ => ⟨v, h1, h2⟩
    · intro j u hu
      have hj : 0 < n := by have := (List.getElem?_eq_some_iff.1 hu).1; rw [cells8_length] at this; omega
      obtain ⟨o, h', _, hc⟩ := hs.2 hj
      injection h' with h'
      subst h'
      rw [add_addr]
      exact hc j u hu
    · rcases Nat.eq_zero_or_pos n with h | h
      · subst h
        exact .inl (List.eq_nil_of_length_eq_zero hlen)
      · obtain ⟨o, h', hl, _⟩ := hs.2 h
        injection h' with h'
        subst h'
        exact .inr hl

def Packed (bs : List Nat) (N len : Nat) : Prop := lt256 bs ∧ ∃ free, free < 8 ∧ len + free = 8 * bs.length ∧ val bs = N * 2 ^ free

theorem bytes_any (g : Nat) (row : Option Nat) (N len : Nat) (w : World) (hw : Wr w g row N len) (hlen : len ≤ 1000000000) :
    Calls Try.prog 23 #[.pointer (some ⟨g, 0, none⟩)] w fun e w' => ∃ v bs, e = .returned v ∧ NewRow w w' v bs.length (cells8 bs) ∧ Packed bs N len := by
  obtain ⟨free, hf8, sv, bs, hblk, hown, hrow, hlt, hlf, hval, hN⟩ := hw
  have hc0 := hblk.cell 0
  simp at hc0
  have hpk : Packed bs N len := ⟨hlt, free, hf8, hlf, hval⟩
  have hsv : ∃ A c, sv = .slice A bs.length c ∧ (A = none → c = 0) := by
    rcases hown.2 with ⟨h1, h2⟩ | ⟨g', cap, cur, h1, _⟩
    · exact ⟨none, 0, by rw [h1, h2], fun _ => rfl⟩
    · exact ⟨_, _, h1, fun h => by cases h⟩
  obtain ⟨A, c, rfl, hA⟩ := hsv
  obtain ⟨r, hr⟩ : ∃ r, 0 < bs.length → (Value.slice A bs.length c).ownBlock = some r := by
    cases A with
    | none => exact ⟨0, fun h => by
        rcases hown.2 with ⟨_, h2⟩ | ⟨g', cap, cur, h1, _⟩
        · omega
        · cases h1⟩
    | some a => exact ⟨a.block, fun _ => rfl⟩
  have Hs := Lib.hid (Sees.of_own hown hr)
  have HA := Lib.hid hA
  have Hm : bs.length ≤ 1000000000 := by omega
  have Hpk := Lib.hid hpk
  clear hblk hown hrow hlt hlf hval hN hpk hA hr hf8
  go_enter Try.func23, Try.ntmps23
  go_wp2_with fail
  refine (clone_any r A bs.length c bs w Hs.out HA.out Hm).mono ?_
  rintro e w' ⟨v, rfl, hnew⟩
  have Hnew := Lib.hid hnew
  clear hnew
  go_wp2
  go_ret
  exact ⟨v, bs, rfl, Hnew.out, Hpk.out⟩

/-- A reader at block g, its bytes in block 'row': rem bits are left, R is their number. -/
def Rdr (w : World) (g row : Nat) (R rem : Nat) (ok : Bool) : Prop :=
  ∃ (A : Option Addr) (n c : Nat) (bs : List Nat) (used : Nat), Blk w g 80 #[.slice A n c, .int .u64 (used : Int), .bool (!ok)] ∧ n ≤ c ∧ Sees w row A n (cells8 bs) ∧ row ≠ g ∧ lt256 bs ∧
    rem + used = 8 * n ∧ used < 8 ∧ R = val bs % 2 ^ rem ∧ (ok = false → rem = 0)

theorem NewRow.form {w w1 : World} {v : Value} {n : Nat} {bs : List Nat} (h : NewRow w w1 v n (cells8 bs)) :
    ∃ A c row, v = .slice A n c ∧ n ≤ c ∧ (A = none → c = 0) ∧ w.heap.size ≤ row ∧ row ≠ w1.heap.size ∧ Sees w1 row A n (cells8 bs) := by
  obtain ⟨hown, hmod, hrow⟩ := h
  rcases hown.2 with ⟨h1, h2⟩ | ⟨g', cap, cur, h1, _, hg, hnc, _⟩
  · subst h2
    refine ⟨none, 0, w1.heap.size + 1, h1, Nat.le_refl _, fun _ => rfl, by have := hmod.size; omega, by omega, ⟨?_, fun h => by omega⟩⟩
    simpa using hown.1
  · have hl := (Array.getElem?_eq_some_iff.1 hg).1
    refine ⟨_, cap, g', h1, hnc, (fun h => by cases h), ?_, by omega, Sees.of_own (h1 ▸ hown) (fun _ => rfl)⟩
    rw [h1] at hrow
    rcases hrow with hr | ⟨r, hr, hle⟩
    · cases hr
    · simp [Value.ownBlock] at hr
      omega

theorem newReader_any (row : Nat) (A : Option Addr) (n c : Nat) (bs : List Nat) (w : World) (hs : Sees w row A n (cells8 bs)) (hA : A = none → c = 0) (hm : n ≤ 1000000000) (hlt : lt256 bs) :
    Calls Try.prog 31 #[.slice A n c] w fun e w' => ∃ g row', e = .returned (.pointer (some ⟨g, 0, none⟩)) ∧ w.heap.size ≤ g ∧ w.heap.size ≤ row' ∧ Mod (fun _ => False) w w' ∧
      Rdr w' g row' (val bs) (8 * n) true := by
  have Hs := Lib.hid hs
  have HA := Lib.hid hA
  have hlen : Hid (bs.length = n) := Lib.hid (by have := hs.1; rwa [cells8_length] at this)
  clear hs hA
  go_enter Try.func31, Try.ntmps31
  go_wp2_with fail
  refine (clone_any row A n c bs w Hs.out HA.out hm).mono ?_
  rintro e w1 ⟨v, rfl, hnew⟩
  obtain ⟨A', c', r, rfl, hnc, _, hr1, hr2, hs'⟩ := hnew.form
  have Hs' := Lib.hid hs'
  have Hmod := Lib.hid hnew.2.1
  clear hnew hs'
  go_wp2
  go_ret
  refine ⟨w1.heap.size, r, rfl, Hmod.out.size, hr1, Hmod.out.alloc _, A', n, c', bs, 0, Blk.new _ _ _, hnc, ?_, hr2, hlt, by omega, by omega, ?_, fun h => by cases h⟩
  · exact Hs'.out.mod ((Mod.refl (fun _ => False) w1).alloc _) (fun _ h => h)
  · rw [Nat.mod_eq_of_lt]
    have := val_lt hlt
    rw [hlen.out] at this
    exact this

theorem left_any (g row R rem : Nat) (ok : Bool) (w : World) (h : Rdr w g row R rem ok) (hm : rem ≤ 8000000000) :
    Calls Try.prog 32 #[.pointer (some ⟨g, 0, none⟩)] w fun e w' => e = .returned (.int .i64 (rem : Int)) ∧ ∃ n, w' = w.drewN n := by
  obtain ⟨A, n, c, bs, used, hblk, hnc, hs, hne, hlt, hrem, hused, hR, hok⟩ := h
  have hc0 := hblk.cell 0
  have hc1 := hblk.cell 1
  simp at hc0 hc1
  have Hrem := Lib.hid hrem
  have hn : n ≤ 1000000001 := by omega
  clear hblk hs hrem hR hok hlt hnc hne
  go_enter Try.func32, Try.ntmps32
  go_wp2
  go_quiet (fail)
  go_wp2
  go_ret
  exact ⟨ret_int (by have := Hrem.out; omega), _, rfl⟩

end Go.Proofs.Ytldjobaafambbaa

namespace Go.Proofs.Ytldjobaafambbaa
open Go.RowKit

theorem pass_less (g n c used m : Nat) (A : Option Addr) (e : Bool) (w : World) (hblk : Blk w g 80 #[.slice A n c, .int .u64 (used : Int), .bool e]) (h : used + m < 8) :
    Calls Try.prog 43 #[.pointer (some ⟨g, 0, none⟩), .int .u64 (m : Int)] w fun e' w' => e' = .returned (.tuple #[]) ∧
      Blk w' g 80 #[.slice A n c, .int .u64 ((used + m : Nat) : Int), .bool e] ∧ Mod (fun i => i = g) w w' := by
  have hc1 := hblk.cell 1
  have hf1 := hblk.frozen 1
  simp at hc1
  have hb : ((used : Int) + (m : Int) == 8) = false := by simp; omega
  have Hblk := Lib.hid hblk
  clear hblk
  go_enter Try.func43, Try.ntmps43
  go_wp2
  go_end0
  refine ⟨rfl, ?_, (Mod.refl (fun i => i = g) w).setCell (p := ⟨g, 1, none⟩) (fun _ => rfl) _⟩
  simpa using Hblk.out.set_ 1 (.int .u64 ((used : Int) + (m : Int)))

theorem pass_byte (g row o n c used m : Nat) (e : Bool) (w : World) (hblk : Blk w g 80 #[.slice (some ⟨row, o, none⟩) (n + 1) (c + 1), .int .u64 (used : Int), .bool e]) (h : used + m = 8) (hnc : n ≤ c) (hm : m ≤ 8) :
    Calls Try.prog 43 #[.pointer (some ⟨g, 0, none⟩), .int .u64 (m : Int)] w fun e' w' => e' = .returned (.tuple #[]) ∧
      (∃ A', (0 < n → A' = some ⟨row, o + 1, none⟩) ∧ Blk w' g 80 #[.slice A' n c, .int .u64 0, .bool e]) ∧ Mod (fun i => i = g) w w' := by
  have hc0 := hblk.cell 0
  have hc1 := hblk.cell 1
  have hf1 := hblk.frozen 1
  have hf0 := hblk.frozen 0
  simp at hc0 hc1
  have hb : ((used : Int) + (m : Int) == 8) = true := by simp; omega
  have Hblk := Lib.hid hblk
  have H := Lib.hid h
  have h8 : used ≤ 8 := by omega
  clear hblk h
  go_enter Try.func43, Try.ntmps43
  go_wp2
  all_goals go_end0
  · obtain rfl : c = 0 := by assumption
    refine ⟨rfl, ⟨some ⟨row, o, none⟩, fun h => by omega, ?_⟩, ?_⟩
    · simpa using ((Hblk.out.set_ 1 (.int .u64 ((used : Int) + (m : Int)))).set_ 0 (.slice (some ⟨row, o, none⟩) n 0)).set_ 1 (.int .u64 0)
    · exact (((Mod.refl (fun i => i = g) w).setCell (p := ⟨g, 1, none⟩) (fun _ => rfl) _).setCell (p := ⟨g, 0, none⟩) (fun _ => rfl) _).setCell (p := ⟨g, 1, none⟩) (fun _ => rfl) _
  · refine ⟨rfl, ⟨some ⟨row, o + 1, none⟩, fun _ => rfl, ?_⟩, ?_⟩
    · simpa using ((Hblk.out.set_ 1 (.int .u64 ((used : Int) + (m : Int)))).set_ 0 (.slice (some ⟨row, o + 1, none⟩) n c)).set_ 1 (.int .u64 0)
    · exact (((Mod.refl (fun i => i = g) w).setCell (p := ⟨g, 1, none⟩) (fun _ => rfl) _).setCell (p := ⟨g, 0, none⟩) (fun _ => rfl) _).setCell (p := ⟨g, 1, none⟩) (fun _ => rfl) _

/-- A reader goes on by m bits of its first byte. -/
theorem pass_any (g row R rem m : Nat) (ok : Bool) (w : World) (A : Option Addr) (n c : Nat) (bs : List Nat) (used : Nat) (hblk : Blk w g 80 #[.slice A n c, .int .u64 (used : Int), .bool (!ok)]) (hnc : n ≤ c)
    (hs : Sees w row A n (cells8 bs)) (hne : row ≠ g) (hlt : lt256 bs) (hrem : rem + used = 8 * n) (hR : R = val bs % 2 ^ rem) (hok : ok = false → rem = 0) (hm0 : 0 < m) (hm : used + m ≤ 8) (hmr : m ≤ rem) :
    Calls Try.prog 43 #[.pointer (some ⟨g, 0, none⟩), .int .u64 (m : Int)] w fun e' w' => e' = .returned (.tuple #[]) ∧ Rdr w' g row (R % 2 ^ (rem - m)) (rem - m) ok ∧ Mod (fun i => i = g) w w' := by
  have hR2 : R % 2 ^ (rem - m) = val bs % 2 ^ (rem - m) := by rw [hR, rest_bits _ _ _ hmr]
  rcases Nat.lt_or_ge (used + m) 8 with h8 | h8
  · refine (pass_less g n c used m A (!ok) w hblk h8).mono ?_
    rintro e w' ⟨rfl, hb, hmod⟩
    exact ⟨rfl, ⟨A, n, c, bs, used + m, hb, hnc, hs.mod hmod (fun _ => hne), hne, hlt, by omega, h8, hR2, fun h => by have := hok h; omega⟩, hmod⟩
  · obtain ⟨n, rfl⟩ : ∃ n', n = n' + 1 := ⟨n - 1, by omega⟩
    obtain ⟨c, rfl⟩ : ∃ c', c = c' + 1 := ⟨c - 1, by omega⟩
    obtain ⟨o, rfl, hlr, hc⟩ := hs.2 (by omega)
    refine (pass_byte g row o n c used m (!ok) w hblk (by omega) (by omega) (by omega)).mono ?_
    rintro e w' ⟨rfl, ⟨A', hA', hb⟩, hmod⟩
    have hlen := hs.1
    rw [cells8_length] at hlen
    obtain ⟨b, bs, rfl⟩ : ∃ b bs', bs = b :: bs' := by
      cases bs with
      | nil => simp at hlen
      | cons b bs => exact ⟨b, bs, rfl⟩
    simp at hlen
    refine ⟨rfl, ⟨A', n, c, bs, 0, hb, by omega, ⟨by rw [cells8_length]; exact hlen, fun hn => ⟨o + 1, hA' hn, Nat.lt_of_lt_of_le hlr hmod.size, fun j u hu => ?_⟩⟩, hne, (lt256_cons.1 hlt).2, by omega, by omega, ?_, fun h => by have := hok h; omega⟩, hmod⟩
    · rw [hmod.cell (a := ⟨row, o + 1 + j, none⟩) hlr hne, show o + 1 + j = o + (j + 1) by omega]
      exact hc (j + 1) u (by simpa [cells8] using hu)
    · rw [hR2, show rem - m = 8 * bs.length by omega, drop_byte]

theorem get_bound {R rem k l m V : Nat} (hV : V = R / 2 ^ (rem - (k - l))) (hR : R < 2 ^ rem) (hl : l ≤ k) (hk : k ≤ 64) (hm : m ≤ l) (hkr : k ≤ rem) : V * 2 ^ m + 2 ^ m ≤ 18446744073709551616 := by
  have h1 : V < 2 ^ (k - l) := by
    rw [hV, Nat.div_lt_iff_lt_mul (Nat.two_pow_pos _), ← Nat.pow_add, show k - l + (rem - (k - l)) = rem by omega]
    exact hR
  calc V * 2 ^ m + 2 ^ m = (V + 1) * 2 ^ m := by rw [Nat.add_mul, Nat.one_mul]
    _ ≤ 2 ^ (k - l) * 2 ^ m := Nat.mul_le_mul_right _ h1
    _ = 2 ^ (k - l + m) := by rw [Nat.pow_add]
    _ ≤ 2 ^ 64 := Nat.pow_le_pow_right (by omega) (by omega)

theorem get_or (V b f m : Nat) (hV : V * 2 ^ m + 2 ^ m ≤ 18446744073709551616) :
    bits BinOp.or IntKind.u64 (IntKind.u64.wrap ((V : Int) * 2 ^ m)) (IntKind.u64.wrap ((b : Int) / 2 ^ f % 2 ^ m)) = ((V * 2 ^ m + b / 2 ^ f % 2 ^ m : Nat) : Int) := by
  have hx : b / 2 ^ f % 2 ^ m < 2 ^ m := Nat.mod_lt _ (Nat.two_pow_pos m)
  have e1 : (V : Int) * 2 ^ m = ((V * 2 ^ m : Nat) : Int) := by simp
  have e2 : (b : Int) / 2 ^ f % 2 ^ m = ((b / 2 ^ f % 2 ^ m : Nat) : Int) := by simp
  rw [e1, e2, IntKind.wrap_u64, IntKind.wrap_u64]
  have h0 := nat_join m (V * 2 ^ m) (b / 2 ^ f % 2 ^ m) (Nat.mul_mod_left _ _) hx
  generalize V * 2 ^ m = y at *
  generalize b / 2 ^ f % 2 ^ m = x at *
  generalize 2 ^ m = z at *
  rw [Int.emod_eq_of_lt (by omega) (by omega), Int.emod_eq_of_lt (by omega) (by omega), u64_or_nat _ _ (by omega) (by omega), h0]

/-- What Get has read, l bits from the end. -/
def GetTo (w wr : World) (g row R rem : Nat) (ok : Bool) (k l : Nat) : Prop :=
  Rdr wr g row (R % 2 ^ (rem - (k - l))) (rem - (k - l)) ok ∧ Mod (fun i => i = g) w wr

theorem get_many (g row R rem k : Nat) (ok : Bool) (n : Int) (w : World) (hn : FitI n) (hk : max 0 (min n 64) = (k : Int)) (h : Rdr w g row R rem ok) (hkr : ¬ k ≤ rem) (hm : rem ≤ 8000000000) :
    Calls Try.prog 33 #[.pointer (some ⟨g, 0, none⟩), .int .i64 n] w fun e w' => e = .returned (.int .u64 0) ∧ Rdr w' g row 0 0 false ∧ Mod (fun i => i = g) w w' := by
  go_enter Try.func33, Try.ntmps33
  go_wp2_with fail
  refine (held_any n _ hn.1 hn.2).mono ?_
  rintro e w' ⟨rfl, rfl⟩
  rw [hk]
  have hk64 : k ≤ 64 := by omega
  clear hk hn
  go_wp2_with fail
  refine (left_any g row R rem ok _ h hm).mono ?_
  rintro e w' ⟨rfl, nq, rfl⟩
  obtain ⟨A, n', c, bs, used, hblk, hnc, hs, hne, hlt, hrem, hused, hR, hok⟩ := h
  have hc0 := hblk.cell 0
  have hc1 := hblk.cell 1
  have hc2 := hblk.cell 2
  have hf0 := hblk.frozen 0
  have hf1 := hblk.frozen 1
  have hf2 := hblk.frozen 2
  simp at hc0 hc1 hc2
  have Hblk := Lib.hid hblk
  have Hne := Lib.hid hne
  clear hblk hs hrem hR hok hlt hnc hne
  go_wp2
  go_ret
  refine ⟨rfl, ⟨none, 0, 0, [], 0, ?_, Nat.le_refl _, ⟨rfl, fun h => by omega⟩, Hne.out, lt256_nil, rfl, by omega, rfl, fun _ => rfl⟩, ?_⟩
  · simpa using (((Hblk.out.drewN nq).set_ 0 (.slice none 0 0)).set_ 1 (.int .u64 0)).set_ 2 (.bool true)
  · exact ((((Mod.refl (fun i => i = g) w).drewN nq).setCell (p := ⟨g, 0, none⟩) (fun _ => rfl) _).setCell (p := ⟨g, 1, none⟩) (fun _ => rfl) _).setCell (p := ⟨g, 2, none⟩) (fun _ => rfl) _

set_option maxHeartbeats 1000000 in
set_option maxRecDepth 100000 in
theorem get_any (g row R rem k : Nat) (ok : Bool) (n : Int) (w : World) (hn : FitI n) (hk : max 0 (min n 64) = (k : Int)) (h : Rdr w g row R rem ok) (hR : R < 2 ^ rem) (hkr : k ≤ rem) (hm : rem ≤ 8000000000) :
    Calls Try.prog 33 #[.pointer (some ⟨g, 0, none⟩), .int .i64 n] w fun e w' => e = .returned (.int .u64 ((R / 2 ^ (rem - k) : Nat) : Int)) ∧ Rdr w' g row (R % 2 ^ (rem - k)) (rem - k) ok ∧ Mod (fun i => i = g) w w' := by
  go_enter Try.func33, Try.ntmps33
  go_wp2_with fail
  refine (held_any n _ hn.1 hn.2).mono ?_
  rintro e w' ⟨rfl, rfl⟩
  rw [hk]
  have hk64 : k ≤ 64 := by omega
  clear hk hn
  go_wp2_with fail
  refine (left_any g row R rem ok _ h hm).mono ?_
  rintro e w' ⟨rfl, nq, rfl⟩
  have hgt : ¬ rem < k := by omega
  have H := Lib.hid h
  have HR := Lib.hid hR
  clear h hR
  go_upto_region 6 with fail
  go_loopg [5, 6] k (fun l s5 s6 wr => l ≤ k ∧ s5 = .int .u64 (l : Int) ∧ s6 = .int .u64 ((R / 2 ^ (rem - (k - l)) : Nat) : Int) ∧ GetTo w wr g row R rem ok k l)
  case atStart =>
    have hR := HR.out
    refine ⟨Nat.le_refl _, rfl, ?_, ?_, (Mod.refl _ _).drewN _⟩
    · rw [Nat.sub_self, Nat.sub_zero, Nat.div_eq_of_lt hR]; rfl
    · rw [Nat.sub_self, Nat.sub_zero, Nat.mod_eq_of_lt hR]
      exact H.out
  case round =>
    obtain ⟨hl, rfl, rfl, ⟨A, n', c, bs, used, hblk, hnc, hs, hne, hlt, hrem, hused, hR', hok⟩, hmod⟩ := hrel
    by_cases hl0 : gk = 0
    · subst hl0
      have Hr : Hid (Rdr wr g row (R % 2 ^ (rem - k)) (rem - k) ok) := Lib.hid ⟨A, n', c, bs, used, hblk, hnc, hs, hne, hlt, hrem, hused, hR', hok⟩
      have Hmod := Lib.hid hmod
      clear hblk hs hrem hR' hok hlt hnc hne hmod
      go_wp2
      go_ret
      exact ⟨rfl, Hr.out, Hmod.out⟩
    · have hl1 : 0 < gk := by omega
      have hn1 : 0 < n' := by omega
      obtain ⟨o, rfl, hrl, hcell⟩ := hs.2 hn1
      have hlen := hs.1
      rw [cells8_length] at hlen
      obtain ⟨b, bs', rfl⟩ : ∃ b bs', bs = b :: bs' := by
        cases bs with
        | nil => simp at hlen; omega
        | cons b bs => exact ⟨b, bs, rfl⟩
      obtain ⟨q, hq⟩ : ∃ q : Nat, q = 8 - used := ⟨_, rfl⟩
      have hq1 : (8 : Int) - (used : Int) = (q : Int) := by omega
      obtain ⟨m, hm1, hm0, hml, hmq⟩ : ∃ m : Nat, (if q < gk then (q : Int) else (gk : Int)) = (m : Int) ∧ 0 < m ∧ m ≤ gk ∧ m ≤ q := by
        by_cases h : q < gk
        · exact ⟨q, by rw [if_pos h], by omega, by omega, by omega⟩
        · exact ⟨gk, by rw [if_neg h], by omega, by omega, by omega⟩
      obtain ⟨d, hd⟩ : ∃ d : Nat, d = gk - m := ⟨_, rfl⟩
      obtain ⟨f, hf⟩ : ∃ f : Nat, f = q - m := ⟨_, rfl⟩
      have hd1 : (gk : Int) - (m : Int) = (d : Int) := by omega
      have hf1 : (q : Int) - (m : Int) = (f : Int) := by omega
      have hq8 : q ≤ 8 := by omega
      have hm8 : m ≤ 8 := by omega
      have hf8 : f ≤ 8 := by omega
      have hd64 : d ≤ 64 := by omega
      have Hd := Lib.hid hd; have Hf := Lib.hid hf; have Hq := Lib.hid hq
      have hc0 := hblk.cell 0
      have hc1 := hblk.cell 1
      have hcb := hcell 0 (.int .u8 (b : Int)) (by simp [cells8])
      simp at hc0 hc1 hcb
      have Hblk := Lib.hid hblk; have Hs := Lib.hid hs; have Hrem := Lib.hid hrem; have HR' := Lib.hid hR'; have Hok := Lib.hid hok; have Hlt := Lib.hid hlt; have Hne := Lib.hid hne; have Hmod := Lib.hid hmod; have Hnc := Lib.hid hnc
      clear hblk hs hrem hR' hok hlt hne hmod hd hf hq hlen hcell
      go_upto_region 9 with fail
      obtain ⟨V, hV⟩ : ∃ V, V = R / 2 ^ (rem - (k - gk)) := ⟨_, rfl⟩
      rw [← hV]
      have HV := Lib.hid hV
      have hb64 : Lt64 b := by have := (lt256_cons.1 Hlt.out).1; unfold Lt64; omega
      have hw0 : IntKind.u64.wrap (q : Int) = (q : Int) := by rw [IntKind.wrap_u64]; omega
      have hw1 : IntKind.u64.wrap (f : Int) = (f : Int) := by rw [IntKind.wrap_u64]; omega
      have hw2 : IntKind.u64.wrap (b : Int) = (b : Int) := by have := hb64.out; rw [IntKind.wrap_u64]; omega
      have hn0 : (0 : Int) < (n' : Int) := by omega
      clear hV hc1 hd1 hm1
      have hc1 : wr.cell? ⟨g, 1, none⟩ = some (.int .u64 (used : Int)) := by simpa using Hblk.out.cell 1
      go_quiet ((go_at_call 35; exact Calls.quiet_of_same (low_of b f m _ hb64 hm8)))
      go_upto_region 10 with fail
      have hVb : Hid (V * 2 ^ m + 2 ^ m ≤ 18446744073709551616) := Lib.hid (get_bound HV.out HR.out hl hk64 hml hkr)
      rw [get_or V b f m hVb.out]
      clear hVb
      go_wp2_with fail
      refine (pass_any g row (R % 2 ^ (rem - (k - gk))) (rem - (k - gk)) m ok _ (some ⟨row, o, none⟩) n' c (b :: bs') used (Hblk.out.drewN nq) Hnc.out (Hs.out.mod ((Mod.refl (fun _ => False) wr).drewN nq) (fun _ h => h)) Hne.out Hlt.out Hrem.out HR'.out Hok.out hm0
        (by have := Hq.out; omega) (by have := Hrem.out; omega)).mono ?_
      rintro e w2 ⟨rfl, hr2, hmod2⟩
      have Hr2 := Lib.hid hr2
      have Hmod2 := Lib.hid hmod2
      clear hr2 hmod2
      go_wp2
      go_roundg d
      case measure => have := Hd.out; omega
      case rel =>
        have hd := Hd.out
        have e1 : rem - (k - d) = rem - (k - gk) - m := by omega
        have e2 : f = 8 - used - m := by have := Hf.out; have := Hq.out; omega
        have hlen := Hs.out.1
        simp [cells8] at hlen
        have e3 : V * 2 ^ m + b / 2 ^ f % 2 ^ m = R / 2 ^ (rem - (k - d)) := by
          rw [e1, read_more R (rem - (k - gk)) m (by omega), ← HV.out, HR'.out, e2, take_bits b bs' used m (rem - (k - gk)) Hlt.out (by have := Hq.out; omega) (by rw [hlen]; exact Hrem.out)]
        refine ⟨by omega, rfl, by rw [← e3]; simp, ?_, (Hmod.out.drewN nq).trans Hmod2.out (fun _ _ h => h)⟩
        rw [e1]
        have := Hr2.out
        rwa [rest_bits _ _ _ (by omega)] at this
end Go.Proofs.Ytldjobaafambbaa

namespace Go.Proofs.Ytldjobaafambbaa
open Go.RowKit

/-- Put, as its callers take it. -/
theorem put_wr (g : Nat) (row : Option Nat) (N len k : Nat) (v n : Int) (w : World) (hn : FitI n) (hv : Fit64 v) (hk : max 0 (min n 64) = (k : Int)) (hw : Wr w g row N len) (hlen : len ≤ 1000000000) :
    Calls Try.prog 20 #[.pointer (some ⟨g, 0, none⟩), .int .u64 v, .int .i64 n] w fun e w' => e = .returned (.tuple #[]) ∧
      ∃ row', Wr w' g row' (N * 2 ^ k + v.toNat % 2 ^ k) (len + k) ∧ Mod (fun i => i = g ∨ row = some i) w w' ∧ RowTo w row row' := by
  refine (put_any g row N len v n w hn hv hw hlen).mono ?_
  rintro e w' ⟨rfl, row', h1, h2, h3⟩
  rw [hk, Int.toNat_natCast, Nat.sub_zero, Nat.pow_zero, Nat.div_one] at h1
  exact ⟨rfl, row', h1, h2, h3⟩

theorem newWriter_wr (w : World) :
    Calls Try.prog 19 #[] w fun e w' => ∃ g, e = .returned (.pointer (some ⟨g, 0, none⟩)) ∧ w.heap.size ≤ g ∧ g < w'.heap.size ∧ Wr w' g none 0 0 ∧ Mod (fun _ => False) w w' := by
  refine (newWriter_any w).mono ?_
  rintro e w' ⟨rfl, rfl⟩
  exact ⟨_, rfl, Nat.le_refl _, by simp, ⟨0, by omega, .slice none 0 0, [], Blk.new _ _ _, World.ownsRow_nil _ _ _ _, rfl, lt256_nil, rfl, rfl, by omega⟩, (Mod.refl _ _).alloc _⟩

theorem Rdr.mod {w w1 : World} {S : Nat → Prop} {g row R rem : Nat} {ok : Bool} (h : Rdr w g row R rem ok) (hm : Mod S w w1) (h1 : ¬ S g) (h2 : row < w.heap.size → ¬ S row) : Rdr w1 g row R rem ok := by
  obtain ⟨A, n, c, bs, used, hblk, hnc, hs, rest⟩ := h
  exact ⟨A, n, c, bs, used, hm.blk hblk h1, hnc, hs.mod hm h2, rest⟩
theorem Wr.mod {w w1 : World} {S : Nat → Prop} {g : Nat} {row : Option Nat} {N len : Nat} (h : Wr w g row N len) (hm : Mod S w w1) (h1 : ¬ S g) (h2 : ∀ k, row = some k → ¬ S k) : Wr w1 g row N len := by
  obtain ⟨free, hf, v, bs, hblk, hown, hrow, rest⟩ := h
  exact ⟨free, hf, v, bs, hm.blk hblk h1, hm.owns hown (fun k hk => h2 k (by rw [← hrow]; exact hk)), hrow, rest⟩
theorem Wr.lt {w : World} {g : Nat} {row : Option Nat} {N len : Nat} (h : Wr w g row N len) : g < w.heap.size := by
  obtain ⟨free, hf, v, bs, hblk, _⟩ := h
  exact hblk.lt
theorem Rdr.lt {w : World} {g row R rem : Nat} {ok : Bool} (h : Rdr w g row R rem ok) : g < w.heap.size := by
  obtain ⟨A, n, c, bs, used, hblk, _⟩ := h
  exact hblk.lt
theorem Rdr.small {w : World} {g row R rem : Nat} {ok : Bool} (h : Rdr w g row R rem ok) : R < 2 ^ rem := by
  obtain ⟨A, n, c, bs, used, _, _, _, _, _, _, _, rfl, _⟩ := h
  exact Nat.mod_lt _ (Nat.two_pow_pos _)

theorem Wr.row_lt {w : World} {g : Nat} {row : Option Nat} {N len : Nat} (h : Wr w g row N len) : ∀ k, row = some k → k < w.heap.size := by
  obtain ⟨free, hf, v, bs, hblk, hown, hrow, _⟩ := h
  intro k hk
  exact (hown.lt k (by rw [hrow, hk])).2

end Go.Proofs.Ytldjobaafambbaa

namespace Go.Proofs.Ytldjobaafambbaa
open Go.RowKit

def bval (L : List Nat) : Nat := L.foldl (fun a b => a * 2 + b) 0
theorem bval_snoc (L : List Nat) (b : Nat) : bval (L ++ [b]) = bval L * 2 + b := by simp [bval]
def lt2 (L : List Nat) : Prop := ∀ b ∈ L, b < 2
theorem lt2_snoc {L : List Nat} {b : Nat} (h : lt2 L) (hb : b < 2) : lt2 (L ++ [b]) := by
  intro x hx
  rcases List.mem_append.1 hx with h1 | h1
  · exact h x h1
  · simp at h1; omega

/-- The document's own writer at block g: its bits, one to a byte. -/
def RWr (w : World) (g : Nat) (row : Option Nat) (N len : Nat) : Prop :=
  ∃ (v : Value) (L : List Nat), Blk w g 75 #[v] ∧ w.ownsRow 0 5 1 v L.length (cells8 L) ∧ v.ownBlock = row ∧ lt2 L ∧ L.length = len ∧ bval L = N
def RPutTo (w wr : World) (g : Nat) (row : Option Nat) (N len u k l : Nat) : Prop :=
  ∃ row', RWr wr g row' (N * 2 ^ (k - l) + u / 2 ^ l) (len + (k - l)) ∧ Mod (fun i => i = g ∨ row = some i) w wr ∧ RowTo w row row'

theorem bit_u64 (v l : Nat) (hv : v < 18446744073709551616) : bits BinOp.and IntKind.u64 ((v : Int) / 2 ^ l) 1 = ((v / 2 ^ l % 2 : Nat) : Int) := by
  have e : (v : Int) / 2 ^ l = ((v / 2 ^ l : Nat) : Int) := by simp
  have h1 := Nat.div_le_self v (2 ^ l)
  rw [e]
  generalize v / 2 ^ l = x at *
  have := u64_and_nat x 1 (by omega) (by decide)
  rw [nat_mask1] at this
  exact this

theorem rput_step {w wr w1 : World} {g gr cap : Nat} {row row' : Option Nat} {N len v k l b : Nat} {sv : Value} {L : List Nat} (hl : l + 1 ≤ k) (hb : b = v / 2 ^ l % 2) (hblk : Blk wr g 75 #[sv]) (hown : wr.ownsRow 0 5 1 sv L.length (cells8 L))
    (hrow : sv.ownBlock = row') (hlt : lt2 L) (hlen : L.length = len + (k - (l + 1))) (hval : bval L = N * 2 ^ (k - (l + 1)) + v % 2 ^ k / 2 ^ (l + 1)) (hmod : Mod (fun i => i = g ∨ row = some i) w wr) (hrr : RowTo w row row')
    (hgrow : (wr.alloc (.cells #[.int .u8 (b : Int)] 5)).grownBy w1 sv.ownBlock) (hown' : w1.ownsRow 0 5 1 (.slice (some ⟨gr, 0, none⟩) (L.length + 1) cap) (L.length + 1) (cells8 L ++ [.int .u8 (b : Int)]))
    (hrow' : (Value.slice (some ⟨gr, 0, none⟩) (L.length + 1) cap).ownBlock = sv.ownBlock ∨ (Value.slice (some ⟨gr, 0, none⟩) (L.length + 1) cap).ownBlock = some (wr.alloc (.cells #[.int .u8 (b : Int)] 5)).heap.size) :
    RPutTo w (w1.setCell ⟨g, 0, none⟩ (.slice (some ⟨gr, 0, none⟩) (L.length + 1) cap)) g row N len (v % 2 ^ k) k l := by
  subst hrow
  have hne := own_blk_ne hown hblk (by decide)
  have hblk1 := (hblk.alloc (.cells #[.int .u8 (b : Int)] 5)).grown hgrow hne.symm
  have hne1 := own_blk_ne hown' hblk1 (by decide)
  refine ⟨some gr, ⟨.slice (some ⟨gr, 0, none⟩) (L.length + 1) cap, L ++ [b], ?_, ?_, rfl, lt2_snoc hlt (by omega), by simp; omega, ?_⟩, ?_, ?_⟩
  · simpa using hblk1.set_ 0 (.slice (some ⟨gr, 0, none⟩) (L.length + 1) cap)
  · have h1 : Mod (fun i => i = g) w1 (w1.setCell ⟨g, 0, none⟩ (.slice (some ⟨gr, 0, none⟩) (L.length + 1) cap)) := (Mod.refl (fun i => i = g) w1).setCell (p := ⟨g, 0, none⟩) (fun _ => rfl) _
    have := h1.owns hown' (fun k hk e => hne1 (by rw [hk, e]))
    rw [cells8_snoc]
    simpa using this
  · have e1 := bits_more (v % 2 ^ k) (l + 1) 1 (by omega)
    rw [Nat.add_sub_cancel, mod_div_mod v k l 1 hl, Nat.pow_one, ← hb] at e1
    rw [bval_snoc, hval, e1, Nat.add_mul, Nat.mul_assoc, ← Nat.pow_succ, show (k - (l + 1)).succ = k - l by omega]
    omega
  · refine ((hmod.alloc _).grown hgrow ?_).setCell (fun _ => .inl rfl) _
    intro k hk hlt'
    exact .inr (hrr.in_ hk hlt')
  · refine hrr.trans (B := wr.heap.size) hmod.size ?_
    rcases hrow' with h | h
    · exact .inl h
    · exact .inr ⟨_, h, by simp⟩

set_option maxHeartbeats 1000000 in
set_option maxRecDepth 100000 in
theorem rput_any (g : Nat) (row : Option Nat) (N len k : Nat) (v : Nat) (n : Int) (w : World) (hk : max 0 (min n 64) = (k : Int)) (hv : Lt64 v) (hw : RWr w g row N len) (hlen : len ≤ 1000000000) :
    Calls Try.prog 39 #[.pointer (some ⟨g, 0, none⟩), .int .u64 (v : Int), .int .i64 n] w fun e w' => e = .returned (.tuple #[]) ∧
      RPutTo w w' g row N len (v % 2 ^ k) k 0 := by
  have hk64 : k ≤ 64 := by omega
  obtain ⟨mx, hmx, hmx2⟩ : ∃ mx : Int, (if n < 0 then (0 : Int) else n) = mx ∧ mx = max n 0 := ⟨_, rfl, by split <;> omega⟩
  have hmn : (if 64 < mx then (64 : Int) else mx) = (k : Int) := by split <;> omega
  have Hw := Lib.hid hw
  clear hw hk hmx2
  go_enter Try.func39, Try.ntmps39
  go_wp2_with fail
  clear hmx hmn
  go_loopg [6] k (fun l s6 wr => l ≤ k ∧ s6 = .int .i64 ((l : Int) - 1) ∧ RPutTo w wr g row N len (v % 2 ^ k) k l)
  case atStart =>
    refine ⟨Nat.le_refl _, rfl, row, ?_, Mod.refl _ _, .inl rfl⟩
    have e : v % 2 ^ k / 2 ^ k = 0 := Nat.div_eq_of_lt (Nat.mod_lt _ (Nat.two_pow_pos k))
    rw [Nat.sub_self, e, Nat.pow_zero, Nat.mul_one, Nat.add_zero, Nat.add_zero]
    exact Hw.out
  case round =>
    obtain ⟨hl, rfl, hP⟩ := hrel
    have HP := Lib.hid hP
    clear hP Hw
    by_cases hl0 : gk = 0
    · subst hl0
      go_wp2
      go_end0
      exact ⟨rfl, HP.out⟩
    · obtain ⟨l, rfl⟩ : ∃ l, gk = l + 1 := ⟨gk - 1, by omega⟩
      obtain ⟨row', ⟨sv, L, hblk, hown, hrow, hlt, hlen', hval⟩, hmod, hrr⟩ := HP.out
      have hc0 := hblk.cell 0
      have hf0 := hblk.frozen 0
      simp at hc0
      have hi1 : ((l + 1 : Nat) : Int) - 1 = (l : Int) := by omega
      rw [hi1]
      have Hlen' := Lib.hid hlen'; have Hval := Lib.hid hval; have Hrow := Lib.hid hrow; have Hrr := Lib.hid hrr; have Hlt := Lib.hid hlt; have Hown := Lib.hid hown
      have Hmod := Lib.hid hmod; have Hblk := Lib.hid hblk
      clear hlen' hval hrow hrr hlt hown hmod hblk HP hl0 hi1
      obtain ⟨b, hb⟩ : ∃ b, b = v / 2 ^ l % 2 := ⟨_, rfl⟩
      have hb2 : b < 2 := by omega
      have hbit : bits BinOp.and IntKind.u64 ((v : Int) / 2 ^ l) 1 = (b : Int) := by rw [bit_u64 v l hv.out, hb]
      have hb256 : (b : Int) % 256 = (b : Int) := by omega
      have Hb := Lib.hid hb
      clear hb
      obtain ⟨i0, hi, hz0, hz1, hz2⟩ := info_parts Try.info5
      have Hroom : Room L.length 1 := Room.mk _ _ (by have := Hlen'.out; omega)
      go_wp2_with (at_builtin; refine wpList_append_own_at _ rfl _ _ 27 rfl 0 5 i0 (.int .u8 0) 1 1 Try.underlying27 hi hz0 hz1 hz2 rfl (by decide) sv L.length (cells8 L) rfl (Hown.out.alloc _) ⟨wr.heap.size, 0, none⟩ 1 1 [.int .u8 (b : Int)] rfl rfl (cell_one_new _ _ _) (cells8_one [b]) Hroom.1 Hroom.2 (Nat.zero_le _) ?_; intro v' w1 hown' hgrow _ hrow'; obtain ⟨gr, cap, rfl, _, _⟩ := hown'.form (Nat.succ_pos _); have hblk1 := (Hblk.out.alloc _).grown hgrow (own_blk_ne Hown.out Hblk.out (by decide)).symm; have hd0 := hblk1.cell 0; have he0 := hblk1.frozen 0; simp at hd0; have Hblk1 := Lib.hid hblk1; have Hown' := Lib.hid hown'; have Hgrow := Lib.hid hgrow; have Hrow' := Lib.hid hrow'; clear hblk1 hown' hgrow hrow')
      go_roundg l
      case measure => omega
      case rel => exact ⟨by omega, rfl, rput_step hl Hb.out Hblk.out Hown.out Hrow.out Hlt.out Hlen'.out Hval.out Hmod.out Hrr.out Hgrow.out Hown'.out Hrow'.out⟩
end Go.Proofs.Ytldjobaafambbaa

namespace Go.Proofs.Ytldjobaafambbaa
open Go.RowKit

/-- What the document's own Bytes has made of i bits; the last byte has 'fr' to fill. -/
def RB (w wr : World) (vo : Value) (L : List Nat) (i fr : Nat) : Prop :=
  ∃ out : List Nat, wr.ownsRow 0 5 1 vo out.length (cells8 out) ∧ (vo.ownBlock = none ∨ ∃ r, vo.ownBlock = some r ∧ w.heap.size ≤ r) ∧ lt256 out ∧ i + fr = 8 * out.length ∧ val out = bval (L.take i) * 2 ^ fr ∧ Mod (fun _ => False) w wr

theorem rb_grow {w wr w1 : World} {vo v' : Value} {L : List Nat} {i : Nat} {out : List Nat} (hvo : vo.ownBlock = none ∨ ∃ r, vo.ownBlock = some r ∧ w.heap.size ≤ r) (hlt : lt256 out)
    (hlen : i + 0 = 8 * out.length) (hval : val out = bval (L.take i) * 2 ^ 0) (hmod : Mod (fun _ => False) w wr) (hgrow : (wr.alloc (.cells #[.int .u8 0] 5)).grownBy w1 vo.ownBlock) (hown' : w1.ownsRow 0 5 1 v' (out.length + 1) (cells8 out ++ [.int .u8 0]))
    (hrow' : v'.ownBlock = vo.ownBlock ∨ v'.ownBlock = some (wr.alloc (.cells #[.int .u8 0] 5)).heap.size) : RB w w1 v' L i 8 := by
  refine ⟨out ++ [0], by rw [cells8_snoc]; simpa using hown', ?_, lt256_snoc.2 ⟨hlt, by omega⟩, by simp; omega, by rw [val_snoc, hval]; omega, ?_⟩
  · rcases hrow' with h | h
    · rw [h]; exact hvo
    · exact .inr ⟨_, h, by have := hmod.size; simp; omega⟩
  · refine (hmod.alloc _).grown hgrow ?_
    intro k hk hlt'
    rcases hvo with h | ⟨r, h, hr⟩
    · rw [h] at hk; cases hk
    · rw [h] at hk; injection hk with hk; omega

theorem rb_or (x f b : Nat) (bs0 : List Nat) (N : Nat) (hx : x < 2) (hb : b < 256) (hf : f + 1 ≤ 8) (hv : val (bs0 ++ [b]) = N * 2 ^ (f + 1)) :
    bits BinOp.or IntKind.u8 (b : Int) (IntKind.u8.wrap ((x : Int) * 2 ^ f)) = ((b + x * 2 ^ f : Nat) : Int) ∧ b + x * 2 ^ f < 256 ∧ val (bs0 ++ [b + x * 2 ^ f]) = (N * 2 + x) * 2 ^ f := by
  obtain ⟨h1, h2, h3⟩ := last_step bs0 b N (f + 1) 1 x hb hf (by omega) (by omega) hv
  rw [Nat.add_sub_cancel] at h1 h2 h3
  rw [Nat.pow_one] at h3
  refine ⟨?_, h2, h3⟩
  have e : (x : Int) * 2 ^ f = ((x * 2 ^ f : Nat) : Int) := by simp
  rw [e, IntKind.wrap_u8', Int.emod_eq_of_lt (Int.natCast_nonneg _) (by omega), u8_or_nat _ _ hb (by omega), h1]

theorem take_more {L : List Nat} {i x : Nat} (h : L[i]? = some x) : L.take (i + 1) = L.take i ++ [x] := by
  have hi := (List.getElem?_eq_some_iff.1 h).1
  rw [List.take_succ_eq_append_getElem hi]
  congr 2
  exact (List.getElem?_eq_some_iff.1 h).2

set_option maxHeartbeats 1000000 in
set_option maxRecDepth 100000 in
theorem rbytes_any (g : Nat) (row : Option Nat) (N len : Nat) (w : World) (hw : RWr w g row N len) (hlen : len ≤ 1000000000) :
    Calls Try.prog 40 #[.pointer (some ⟨g, 0, none⟩)] w fun e w' => ∃ v bs, e = .returned v ∧ NewRow w w' v bs.length (cells8 bs) ∧ Packed bs N len := by
  obtain ⟨sv, L, hblk, hown, hrow, hlt, rfl, rfl⟩ := hw
  obtain ⟨A, c, rfl⟩ : ∃ A c, sv = .slice A L.length c := by
    rcases hown.2 with ⟨h1, h2⟩ | ⟨g', cap, cur, h1, _⟩
    · exact ⟨none, 0, by rw [h1, h2]⟩
    · exact ⟨_, _, h1⟩
  have Hblk := Lib.hid hblk; have Hown := Lib.hid hown; have Hlt := Lib.hid hlt
  have hc0 := hblk.cell 0
  simp at hc0
  clear hblk hown hrow hlt
  go_enter Try.func40, Try.ntmps40
  go_wp2_with fail
  go_loopg [3, 4] L.length (fun l s3 s4 wr => ∃ i fr : Nat, i + l = L.length ∧ s4 = .int .i64 (i : Int) ∧ fr < 8 ∧ RB w wr s3 L i fr)
  case atStart => exact ⟨0, 0, by omega, rfl, by omega, [], World.ownsRow_nil _ _ _ _, .inl rfl, lt256_nil, rfl, rfl, Mod.refl _ _⟩
  case round =>
    obtain ⟨i, fr, hil, rfl, hfr, out, hown, hvo, hlt, hlen', hval, hmod⟩ := hrel
    have hblkr : Hid (Blk wr g 75 #[.slice A L.length c]) := Lib.hid (hmod.blk Hblk.out (fun h => h))
    have hcr0 := hblkr.out.cell 0
    simp at hcr0
    have Hil := Lib.hid hil; have Hvo := Lib.hid hvo; have Hout := Lib.hid hown; have Hlt' := Lib.hid hlt; have Hlen := Lib.hid hlen'; have Hval := Lib.hid hval; have Hmod := Lib.hid hmod
    clear hvo hown hlt hlen' hval hmod hc0 hil
    by_cases hl0 : gk = 0
    · have hi : ¬ i < L.length := by have := Hil.out; omega
      go_wp2
      go_ret
      have hiL : i = L.length := by have := Hil.out; omega
      refine ⟨u3, out, rfl, ⟨Hout.out, Hmod.out, Hvo.out⟩, Hlt'.out, fr, hfr, by rw [← hiL]; exact Hlen.out, ?_⟩
      rw [Hval.out, hiL, List.take_length]
    · have hi : i < L.length := by have := Hil.out; omega
      have hi0 : (0 : Int) ≤ (i : Int) := by omega
      go_upto_if 16 with fail
      go_cut [3] (fun s3 wc => ∃ fr2, 0 < fr2 ∧ fr2 ≤ 8 ∧ RB w wc s3 L i fr2)
      case first =>
        by_cases hfr0 : fr = 0
        · have hfb : ((i : Int) % 8 == 0) = true := by have := Hlen.out; simp; omega
          rw [hfb]
          subst hfr0
          obtain ⟨i0, hi1, hz0, hz1, hz2⟩ := info_parts Try.info5
          have Hb : Room out.length 1 := Room.mk _ _ (by have := Hlen.out; omega)
          go_wp2_with (at_builtin; refine wpList_append_own_at _ rfl _ _ 27 rfl 0 5 i0 (.int .u8 0) 1 1 Try.underlying27 hi1 hz0 hz1 hz2 rfl (by decide) u3 out.length (cells8 out) rfl (Hout.out.alloc _) ⟨wr.heap.size, 0, none⟩ 1 1 [.int .u8 0] rfl rfl (cell_one_new _ _ _) (cells8_one [0]) Hb.1 Hb.2 (Nat.zero_le _) ?_; intro v' w1 hown' hgrow _ hrow'; have Hown' := Lib.hid hown'; have Hgrow := Lib.hid hgrow; have Hrow' := Lib.hid hrow'; clear hown' hgrow hrow')
          go_meet
          case rel => exact ⟨8, by omega, by omega, rb_grow Hvo.out Hlt'.out Hlen.out Hval.out Hmod.out Hgrow.out Hown'.out Hrow'.out⟩
        · have hfb : ((i : Int) % 8 == 0) = false := by have := Hlen.out; simp; omega
          rw [hfb]
          go_wp2_with fail
          go_meet
          case rel => exact ⟨fr, by omega, by omega, out, Hout.out, Hvo.out, Hlt'.out, Hlen.out, Hval.out, Hmod.out⟩
      case rest =>
        clear Hvo Hout Hlt' Hlen Hval Hmod hcr0 hblkr
        obtain ⟨fr2, hf1, hf2, out2, hown, hvo, hlt, hlen', hval, hmod⟩ := hcut
        obtain ⟨o0, b, rfl⟩ := snoc_of_ne (bs := out2) (by rintro rfl; simp at hlen'; omega)
        obtain ⟨gr, cap, rfl, _, _⟩ := hown.form (by simp)
        obtain ⟨f, rfl⟩ : ∃ f, fr2 = f + 1 := ⟨fr2 - 1, by omega⟩
        obtain ⟨x, hx⟩ : ∃ x, L[i]? = some x := ⟨L[i], List.getElem?_eq_getElem hi⟩
        have hx2 : x < 2 := Hlt.out x (List.mem_of_getElem? hx)
        obtain ⟨ab, rfl, hcx⟩ : ∃ ab, A = some ⟨ab, 0, none⟩ ∧ wc.cell? ⟨ab, i, none⟩ = some (.int .u8 (x : Int)) := by
          obtain ⟨ab, cap', e1, _, _⟩ := Hown.out.form (by omega)
          injection e1 with e1
          refine ⟨ab, e1, ?_⟩
          have ho := hmod.owns Hown.out (fun _ _ h => h)
          rw [e1] at ho
          rw [ho.cellAt i (by omega), cells8_get, hx]
          rfl
        have hblkr := hmod.blk Hblk.out (fun h => h)
        have hcr0 := hblkr.cell 0
        simp at hcr0
        have hq : (i : Int) / 8 = (o0.length : Int) := by simp at hlen'; omega
        obtain ⟨t, ht⟩ : ∃ t, t = i % 8 := ⟨_, rfl⟩
        have ht1 : (i : Int).tmod 8 = (t : Int) := by rw [Int.tmod_eq_emod_of_nonneg hi0]; omega
        have hw7 : IntKind.i64.wrap (7 - (t : Int)) = (f : Int) := by rw [IntWalk.i64_in _ (by omega)]; simp at hlen'; omega
        have hw8 : IntKind.u64.wrap (f : Int) = (f : Int) := by rw [IntKind.wrap_u64]; omega
        have hmin : min f 8 = f := by omega
        clear ht
        have hcb := hown.cellAt o0.length (by simp)
        have hfz := hown.frozenAt o0.length
        rw [cells8_snoc, List.getElem?_append_right (by simp [cells8]), cells8_length, Nat.sub_self] at hcb
        simp at hcb
        have hol : o0.length ≤ 1000000000 := by simp at hlen'; omega
        have hw1 : IntKind.i64.wrap (o0.length : Int) = (o0.length : Int) := IntWalk.i64_in _ (by omega)
        have hx0 : (0 : Int) ≤ (o0.length : Int) := by omega
        have hx1 : (o0.length : Int) < (o0.length : Int) + 1 := by omega
        have hi2 : (i : Int) < (L.length : Int) := by omega
        have Hown2 := Lib.hid hown; have Hvo := Lib.hid hvo; have Hlt2 := Lib.hid hlt; have Hlen := Lib.hid hlen'; have Hval := Lib.hid hval; have Hmod := Lib.hid hmod; have Hx := Lib.hid hx
        clear hown hvo hlt hlen' hval hmod hx hblkr
        go_upto_region 7 with fail
        go_still_tail 22, (by kernel_rfl)
        obtain ⟨h1, h2, h3⟩ := rb_or x f b o0 (bval (L.take i)) hx2 (lt256_snoc.1 Hlt2.out).2 (by omega) Hval.out
        rw [h1]
        change wpList _ _ _ _ _ wc.drew
        have hd0 : wc.drew.cell? ⟨gr, o0.length, none⟩ = _ := hcb
        have hd1 : wc.drew.frozen? ⟨gr, o0.length, none⟩ = _ := hfz
        have Hown3 : Hid (wc.drew.ownsRow _ _ _ _ _ _) := Lib.hid Hown2.out.drew
        have Hmod3 := Lib.hid Hmod.out.drew
        have H2 := Lib.hid h2; have H3 := Lib.hid h3
        clear hcb hfz Hown2 Hmod hcr0 hcx h1 h2 h3
        generalize wc.drew = w2 at *
        go_wp2
        go_roundg (gk - 1)
        case measure => omega
        case rel =>
          refine ⟨i + 1, f, by have := Hil.out; omega, by go_num, by omega, o0 ++ [b + x * 2 ^ f], ?_, ?_, lt256_snoc.2 ⟨(lt256_snoc.1 Hlt2.out).1, H2.out⟩, ?_, ?_, ?_⟩
          · have := (Hown3.out.stored o0.length (.int .u8 ((b + x * 2 ^ f : Nat) : Int))).1
            rw [cells8_set] at this
            simpa using this
          · simpa using Hvo.out
          · have := Hlen.out; simp at this ⊢; omega
          · rw [H3.out, take_more Hx.out, bval_snoc]
          · refine Hmod3.out.setCell ?_ _
            intro h
            rcases Hvo.out with h1 | ⟨r, h1, h2⟩
            · cases h1
            · simp [Value.ownBlock] at h1
              simp at h
              omega
end Go.Proofs.Ytldjobaafambbaa

/- Two writers that share nothing. -/
namespace Go.Proofs.Ytldjobaafambbaa
open Go.RowKit

theorem left_ab (g row R rem : Nat) (ok : Bool) (w : World) (h : Rdr w g row R rem ok) (hm : rem ≤ 8000000000) :
    Calls Try.prog 32 #[.pointer (some ⟨g, 0, none⟩)] w fun e w' => e = .returned (.int .i64 (rem : Int)) ∧ Mod (fun _ => False) w w' :=
  (left_any g row R rem ok w h hm).mono fun _ _ ⟨h1, n, h2⟩ => ⟨h1, h2 ▸ (Mod.refl _ _).drewN n⟩

def Apart (g : Nat) (row : Option Nat) (g2 : Nat) (row2 : Option Nat) : Prop := g ≠ g2 ∧ row ≠ some g2 ∧ row2 ≠ some g ∧ ∀ k, row = some k → row2 ≠ some k
theorem Apart.symm {g g2 : Nat} {row row2 : Option Nat} (h : Apart g row g2 row2) : Apart g2 row2 g row := ⟨fun e => h.1 e.symm, h.2.2.1, h.2.1, fun k hk e => h.2.2.2 k e hk⟩
theorem Wr.other {w w' : World} {g g2 N2 len2 : Nat} {row row2 : Option Nat} (h2 : Wr w g2 row2 N2 len2) (hm : Mod (fun i => i = g ∨ row = some i) w w') (hd : Apart g row g2 row2) : Wr w' g2 row2 N2 len2 :=
  h2.mod hm (fun h => h.elim (fun e => hd.1 e.symm) (fun e => hd.2.1 e)) (fun k hk h => h.elim (fun e => hd.2.2.1 (e ▸ hk)) (fun e => hd.2.2.2 k e hk))
theorem Apart.to {w : World} {g g2 N2 len2 : Nat} {row row' row2 : Option Nat} (h : Apart g row g2 row2) (hr : RowTo w row row') (h2 : Wr w g2 row2 N2 len2) : Apart g row' g2 row2 := by
  rcases hr with rfl | ⟨r, rfl, hr⟩
  · exact h
  · refine ⟨h.1, ?_, h.2.2.1, ?_⟩
    · intro e; injection e with e; have := h2.lt; omega
    · intro k hk e; injection hk with hk; have := h2.row_lt k e; omega

/-- A number in two parts, the higher one first. -/
theorem split_num (N v n at' : Nat) (h : at' ≤ n) : (N * 2 ^ at' + v / 2 ^ (n - at') % 2 ^ at') * 2 ^ (n - at') + v % 2 ^ (n - at') = N * 2 ^ n + v % 2 ^ n := by
  have e : (2 : Nat) ^ n = 2 ^ at' * 2 ^ (n - at') := by rw [← Nat.pow_add]; congr 1; omega
  rw [Nat.add_mul, Nat.mul_assoc, ← e, Nat.add_assoc]
  congr 1
  rw [e, Nat.mul_comm (2 ^ at'), Nat.mod_mul, Nat.mul_comm, Nat.add_comm]

theorem packed_one {bs bs' : List Nat} {N len : Nat} (h : Packed bs N len) (h' : Packed bs' N len) : bs' = bs := by
  obtain ⟨h1, f, hf, hl, hv⟩ := h
  obtain ⟨h1', f', hf', hl', hv'⟩ := h'
  have e : f' = f := by omega
  subst e
  exact val_inj bs.length bs' bs (by omega) rfl h1' h1 (by rw [hv, hv'])
theorem packed_len {bs : List Nat} {N len : Nat} (h : Packed bs N len) : bs.length = (len + 7) / 8 := by
  obtain ⟨h1, f, hf, hl, hv⟩ := h
  omega

section
variable {w w1 : World} {row n : Nat} {A : Option Addr} {xs : List Value}
theorem Sees.mod' {S : Nat → Prop} (h : Sees w row A n xs) (hm : Mod S w w1) (hn : 0 < n → ¬ S row) : Sees w1 row A n xs :=
  ⟨h.1, fun h0 => by
    obtain ⟨o, e, hl, hc⟩ := h.2 h0
    exact ⟨o, e, Nat.lt_of_lt_of_le hl hm.size, fun j u hu => (hm.cell hl (hn h0)).trans (hc j u hu)⟩⟩
end
theorem RowTo.low {B : Nat} {w : World} {row row' : Option Nat} (h : RowTo w row row') (hr : ∀ k, row = some k → B ≤ k) (hB : B ≤ w.heap.size) : ∀ k, row' = some k → B ≤ k := by
  intro k hk
  rcases h with rfl | ⟨r, rfl, hr'⟩
  · exact hr k hk
  · injection hk with hk; omega

/-- The call's own blocks alone have turned, a writer's that it made among them. -/
theorem Mod.put {w w' w0 : World} {g : Nat} {row : Option Nat} (h : Mod (fun _ => False) w0 w) (hm : Mod (fun i => i = g ∨ row = some i) w w') (hg : w0.heap.size ≤ g) (hr : ∀ k, row = some k → w0.heap.size ≤ k) : Mod (fun _ => False) w0 w' :=
  h.trans hm (fun i hi h => h.elim (fun e => by omega) (fun e => by have := hr i e; omega))
/-- Two writers of the call's own, beside nothing that was there. -/
structure St2 (w0 w : World) (a : Nat) (ra : Option Nat) (Na la b : Nat) (rb : Option Nat) (Nb lb : Nat) : Prop where
  wa : Wr w a ra Na la
  wb : Wr w b rb Nb lb
  apart : Apart a ra b rb
  mod : Mod (fun _ => False) w0 w
  ha : w0.heap.size ≤ a
  hb : w0.heap.size ≤ b
  hra : ∀ k, ra = some k → w0.heap.size ≤ k
  hrb : ∀ k, rb = some k → w0.heap.size ≤ k
section
variable {w0 w w' : World} {a Na la b Nb lb : Nat} {ra rb : Option Nat}
theorem St2.symm (h : St2 w0 w a ra Na la b rb Nb lb) : St2 w0 w b rb Nb lb a ra Na la := ⟨h.wb, h.wa, h.apart.symm, h.mod, h.hb, h.ha, h.hrb, h.hra⟩
theorem St2.put {ra' : Option Nat} {Na' la' : Nat} (h : St2 w0 w a ra Na la b rb Nb lb) (hw : Wr w' a ra' Na' la') (hm : Mod (fun i => i = a ∨ ra = some i) w w') (hr : RowTo w ra ra') : St2 w0 w' a ra' Na' la' b rb Nb lb :=
  ⟨hw, h.wb.other hm h.apart, h.apart.to hr h.wb, h.mod.trans hm (fun i hi e => e.elim (fun e => by have := h.ha; omega) (fun e => by have := h.hra i e; omega)), h.ha, h.hb, hr.low h.hra h.mod.size, h.hrb⟩
theorem St2.step {S : Nat → Prop} (h : St2 w0 w a ra Na la b rb Nb lb) (hm : Mod S w w') (hs : ∀ i, i < w.heap.size → S i → w0.heap.size ≤ i ∧ i ≠ a ∧ i ≠ b ∧ ra ≠ some i ∧ rb ≠ some i) : St2 w0 w' a ra Na la b rb Nb lb :=
  ⟨h.wa.mod hm (fun e => (hs a h.wa.lt e).2.1 rfl) (fun k hk e => (hs k (h.wa.row_lt k hk) e).2.2.2.1 hk), h.wb.mod hm (fun e => (hs b h.wb.lt e).2.2.1 rfl) (fun k hk e => (hs k (h.wb.row_lt k hk) e).2.2.2.2 hk), h.apart,
    h.mod.trans hm (fun i hi e => by have := (hs i (Nat.lt_of_lt_of_le hi h.mod.size) e).1; omega), h.ha, h.hb, h.hra, h.hrb⟩
theorem St2.new (h : St2 w0 w a ra Na la b rb Nb lb) (hm : Mod (fun _ => False) w w') : St2 w0 w' a ra Na la b rb Nb lb := h.step hm (fun _ _ e => e.elim)
theorem St2.begin {a b : Nat} {w1 w2 : World} (ha : w0.heap.size ≤ a) (ha2 : a < w1.heap.size) (hwa : Wr w1 a none 0 0) (hm1 : Mod (fun _ => False) w0 w1) (hb : w1.heap.size ≤ b) (hwb : Wr w2 b none 0 0) (hm2 : Mod (fun _ => False) w1 w2) : St2 w0 w2 a none 0 0 b none 0 0 :=
  ⟨hwa.mod hm2 (fun h => h) (fun _ _ h => h), hwb, ⟨by omega, by simp, by simp, by simp⟩, hm1.trans hm2 (fun _ _ h => h), ha, by have := hm1.size; omega, by simp, by simp⟩
end
end Go.Proofs.Ytldjobaafambbaa

namespace Go.Proofs.Ytldjobaafambbaa
open Go.RowKit

/-- The document's own reader at block g. -/
def RRd (w : World) (g row : Nat) (bs : List Nat) (R rem : Nat) (ok : Bool) : Prop :=
  ∃ (A : Option Addr) (n c a : Nat), Blk w g 78 #[.slice A n c, .int .i64 (a : Int), .bool (!ok)] ∧ Sees w row A n (cells8 bs) ∧ row ≠ g ∧ a ≤ 8 * n ∧ n ≤ 1000000 ∧ lt256 bs ∧
    (ok = true → a + rem = 8 * n ∧ R = val bs % 2 ^ rem) ∧ (ok = false → rem = 0 ∧ R = 0)
theorem RRd.mod {w w1 : World} {S : Nat → Prop} {g row R rem : Nat} {bs : List Nat} {ok : Bool} (h : RRd w g row bs R rem ok) (hm : Mod S w w1) (h1 : ¬ S g) (h2 : row < w.heap.size → ¬ S row) : RRd w1 g row bs R rem ok := by
  obtain ⟨A, n, c, a, hblk, hs, rest⟩ := h
  exact ⟨A, n, c, a, hm.blk hblk h1, hs.mod hm h2, rest⟩

theorem rleft_bad (g row R rem : Nat) (bs : List Nat) (w : World) (h : RRd w g row bs R rem false) :
    Calls Try.prog 46 #[.pointer (some ⟨g, 0, none⟩)] w fun e w' => e = .returned (.int .i64 0) ∧ Mod (fun _ => False) w w' := by
  obtain ⟨A, n, c, a, hblk, hs, hne, ha, hn, hlt, h1, h2⟩ := h
  have hc2 := hblk.cell 2
  simp at hc2
  clear hblk hs h1 h2 hlt
  go_enter Try.func46, Try.ntmps46
  go_wp2
  go_ret
  exact ⟨rfl, Mod.refl _ _⟩
theorem rleft_ok (g row R rem : Nat) (bs : List Nat) (w : World) (h : RRd w g row bs R rem true) :
    Calls Try.prog 46 #[.pointer (some ⟨g, 0, none⟩)] w fun e w' => e = .returned (.int .i64 (rem : Int)) ∧ Mod (fun _ => False) w w' := by
  obtain ⟨A, n, c, a, hblk, hs, hne, ha, hn, hlt, h1, h2⟩ := h
  have hc0 := hblk.cell 0
  have hc1 := hblk.cell 1
  have hc2 := hblk.cell 2
  simp at hc0 hc1 hc2
  have H1 := Lib.hid h1
  clear hblk hs h1 h2 hlt
  go_enter Try.func46, Try.ntmps46
  go_wp2
  go_quiet (fail)
  go_wp2
  go_ret
  exact ⟨ret_int (by have := (H1.out (by simp)).1; omega), (Mod.refl _ _).drewN _⟩
theorem rleft_ab (g row R rem : Nat) (bs : List Nat) (ok : Bool) (w : World) (h : RRd w g row bs R rem ok) :
    Calls Try.prog 46 #[.pointer (some ⟨g, 0, none⟩)] w fun e w' => e = .returned (.int .i64 (rem : Int)) ∧ Mod (fun _ => False) w w' := by
  cases ok with
  | true => exact rleft_ok g row R rem bs w h
  | false =>
    have h0 : rem = 0 := by obtain ⟨A, n, c, a, _, _, _, _, _, _, _, h2⟩ := h; exact (h2 rfl).1
    subst h0
    exact rleft_bad g row R 0 bs w h

theorem rget_many (g row R rem k : Nat) (bs : List Nat) (ok : Bool) (n : Int) (w : World) (hk : max 0 (min n 64) = (k : Int)) (h : RRd w g row bs R rem ok) (hkr : ok = true → ¬ k ≤ rem) :
    Calls Try.prog 41 #[.pointer (some ⟨g, 0, none⟩), .int .i64 n] w fun e w' => e = .returned (.int .u64 0) ∧ RRd w' g row bs 0 0 false ∧ Mod (fun i => i = g) w w' := by
  obtain ⟨mx, hmx, hmx2⟩ : ∃ mx : Int, (if n < 0 then (0 : Int) else n) = mx ∧ mx = max n 0 := ⟨_, rfl, by split <;> omega⟩
  have hmn : (if 64 < mx then (64 : Int) else mx) = (k : Int) := by split <;> omega
  have H := Lib.hid h
  obtain ⟨A, n', c, a, hblk, hs, hne, ha, hn, hlt, h1, h2⟩ := h
  have hc2 := hblk.cell 2
  have hf2 := hblk.frozen 2
  simp at hc2
  have Hblk := Lib.hid hblk; have Hs := Lib.hid hs; have Hne := Lib.hid hne; have Hlt := Lib.hid hlt; have Hkr := Lib.hid hkr; have Ha := Lib.hid ha; have Hn := Lib.hid hn
  clear hblk hs hne hlt h1 h2 hk hmx2 hkr ha hn
  cases ok with
  | false =>
    go_enter Try.func41, Try.ntmps41
    go_wp2_with fail
    go_ret
    have hm : Mod (fun i => i = g) w (w.setCell ⟨g, 2, none⟩ (.bool true)) := (Mod.refl (fun i => i = g) w).setCell (p := ⟨g, 2, none⟩) (fun _ => rfl) _
    exact ⟨rfl, ⟨A, n', c, a, by simpa using Hblk.out.set_ 2 (.bool true), Hs.out.mod hm (fun _ => Hne.out), Hne.out, Ha.out, Hn.out, Hlt.out, (fun h => by cases h), fun _ => ⟨rfl, rfl⟩⟩, hm⟩
  | true =>
    have hgt : rem < k := by have := Hkr.out (by simp); omega
    have hmn2 : (if 64 < n then (64 : Int) else n) = (k : Int) := by
      have h1 := hmx; have h2 := hmn
      split at h1 <;> split at h2 <;> split <;> omega
    go_enter Try.func41, Try.ntmps41
    go_wp2_with fail
    refine (rleft_ab g row R rem bs true _ H.out).mono ?_
    rintro e w1 ⟨rfl, hm1⟩
    have hblk1 := hm1.blk Hblk.out (fun h => h)
    have hd2 := hblk1.cell 2
    have he2 := hblk1.frozen 2
    simp at hd2
    have Hblk1 := Lib.hid hblk1; have Hm1 := Lib.hid hm1
    clear hblk1 hm1
    go_wp2_with fail
    go_ret
    have hm : Mod (fun i => i = g) w1 (w1.setCell ⟨g, 2, none⟩ (.bool true)) := (Mod.refl (fun i => i = g) w1).setCell (p := ⟨g, 2, none⟩) (fun _ => rfl) _
    exact ⟨rfl, ⟨A, n', c, a, by simpa using Hblk1.out.set_ 2 (.bool true), (Hs.out.mod Hm1.out (fun _ h => h)).mod hm (fun _ => Hne.out), Hne.out, Ha.out, Hn.out, Hlt.out, (fun h => by cases h), fun _ => ⟨rfl, rfl⟩⟩, (Hm1.out.mono (fun _ _ h => h.elim)).trans hm (fun _ _ h => h)⟩

theorem rget_or (V b f : Nat) (hb : b < 256) (hV : V * 2 ^ 1 + 2 ^ 1 ≤ 18446744073709551616) :
    bits BinOp.or IntKind.u64 (IntKind.u64.wrap ((V : Int) * 2)) (IntKind.u64.wrap (bits BinOp.and IntKind.u8 ((b : Int) / 2 ^ f) 1)) = ((V * 2 + b / 2 ^ f % 2 : Nat) : Int) := by
  have e : (b : Int) / 2 ^ f = ((b / 2 ^ f : Nat) : Int) := by simp
  have h1 := Nat.div_le_self b (2 ^ f)
  rw [e]
  generalize b / 2 ^ f = x at *
  have h2 := u8_and_nat x 1 (by omega) (by decide)
  rw [nat_mask1] at h2
  have h2' : bits BinOp.and IntKind.u8 (x : Int) 1 = ((x % 2 : Nat) : Int) := h2
  rw [h2']
  have h3 := get_or V x 0 1 hV
  simp only [Nat.pow_one, Nat.pow_zero, Nat.div_one, Int.pow_zero, Int.ediv_one] at h3
  have e1 : ((2 : Int) ^ 1) = 2 := rfl
  rw [e1] at h3
  rw [Int.natCast_emod]
  exact h3

set_option maxHeartbeats 1000000 in
set_option maxRecDepth 100000 in
theorem rget_any (g row R rem k : Nat) (bs : List Nat) (n : Int) (w : World) (hk : max 0 (min n 64) = (k : Int)) (h : RRd w g row bs R rem true) (hkr : k ≤ rem) :
    Calls Try.prog 41 #[.pointer (some ⟨g, 0, none⟩), .int .i64 n] w fun e w' => e = .returned (.int .u64 ((R / 2 ^ (rem - k) : Nat) : Int)) ∧ RRd w' g row bs (R % 2 ^ (rem - k)) (rem - k) true ∧ Mod (fun i => i = g) w w' := by
  obtain ⟨mx, hmx, hmx2⟩ : ∃ mx : Int, (if n < 0 then (0 : Int) else n) = mx ∧ mx = max n 0 := ⟨_, rfl, by split <;> omega⟩
  have hmn : (if 64 < mx then (64 : Int) else mx) = (k : Int) := by split <;> omega
  have hk64 : k ≤ 64 := by omega
  have H := Lib.hid h
  have HR : Hid (R < 2 ^ rem) := Lib.hid (by obtain ⟨A, n', c, a, _, _, _, _, _, _, h1, _⟩ := h; rw [(h1 rfl).2]; exact Nat.mod_lt _ (Nat.two_pow_pos _))
  have hc2 : w.cell? ⟨g, 2, none⟩ = some (.bool false) := by obtain ⟨A, n', c, a, hblk, _⟩ := h; have := hblk.cell 2; simpa using this
  have hgt : ¬ rem < k := by omega
  clear h hk hmx2
  go_enter Try.func41, Try.ntmps41
  go_wp2_with fail
  refine (rleft_ab g row R rem bs true _ H.out).mono ?_
  rintro e w1 ⟨rfl, hm1⟩
  have H1 := Lib.hid (H.out.mod hm1 (fun h => h) (fun _ h => h)); have Hm1 := Lib.hid hm1
  clear hm1 hc2 H
  go_upto_region 7 with fail
  go_loopg [5, 6] k (fun l s5 s6 wr => ∃ i : Nat, i + l = k ∧ s6 = .int .i64 (i : Int) ∧ s5 = .int .u64 ((R / 2 ^ (rem - i) : Nat) : Int) ∧ RRd wr g row bs (R % 2 ^ (rem - i)) (rem - i) true ∧ Mod (fun i => i = g) w wr)
  case atStart =>
    have hR := HR.out
    refine ⟨0, by omega, rfl, ?_, ?_, Hm1.out.mono (fun _ _ h => h.elim)⟩
    · rw [Nat.sub_zero, Nat.div_eq_of_lt hR]; rfl
    · rw [Nat.sub_zero, Nat.mod_eq_of_lt hR]
      exact H1.out
  case round =>
    obtain ⟨i, hik, rfl, rfl, hr, hm⟩ := hrel
    have Hr := Lib.hid hr; have Hm := Lib.hid hm; have Hik := Lib.hid hik
    clear hr hm H1 hik
    by_cases hl0 : gk = 0
    · have hi : ¬ i < k := by have := Hik.out; omega
      have hik : Hid (i = k) := Lib.hid (by have := Hik.out; omega)
      go_wp2
      go_ret
      have := Hr.out
      rw [hik.out] at this
      exact ⟨by rw [hik.out]; simp, this, Hm.out⟩
    · have hi : i < k := by have := Hik.out; omega
      obtain ⟨A, n', c, a, hblk, hs, hne, ha, hn, hlt, h1, h2⟩ := Hr.out
      obtain ⟨har, hR'⟩ := h1 rfl
      have hn0 : 0 < n' := by omega
      have hc0 := hblk.cell 0
      have hc1 := hblk.cell 1
      have hf1 := hblk.frozen 1
      simp at hc0 hc1
      obtain ⟨o, rfl, hrl, hcell⟩ := hs.2 hn0
      have hlen := hs.1
      rw [cells8_length] at hlen
      obtain ⟨b, hb⟩ : ∃ b, bs[a / 8]? = some b := ⟨bs[a / 8]'(by omega), List.getElem?_eq_getElem _⟩
      have hcb := hcell (a / 8) (.int .u8 (b : Int)) (by rw [cells8_get, hb]; rfl)
      have hb256 : b < 256 := hlt b (List.mem_of_getElem? hb)
      have Hans := Lib.hid (bit_at bs n' a (rem - i) b hlen (by omega) har hlt hb)
      obtain ⟨V, hV⟩ : ∃ V, V = R / 2 ^ (rem - i) := ⟨_, rfl⟩
      rw [← hV]
      obtain ⟨q, hq⟩ : ∃ q, q = a / 8 := ⟨_, rfl⟩
      obtain ⟨t, ht⟩ : ∃ t, t = a % 8 := ⟨_, rfl⟩
      rw [← hq] at hcb
      have ha1 : (a : Int) / 8 = (q : Int) := by omega
      have ha2 : (a : Int).tdiv 8 = (q : Int) := by rw [Int.tdiv_eq_ediv_of_nonneg (by omega)]; omega
      have ha3 : (a : Int).tmod 8 = (t : Int) := by rw [Int.tmod_eq_emod_of_nonneg (by omega)]; omega
      obtain ⟨f, hf⟩ : ∃ f, f = 7 - t := ⟨_, rfl⟩
      have hw7 : IntKind.i64.wrap (7 - (t : Int)) = (f : Int) := by rw [IntWalk.i64_in _ (by omega)]; omega
      have hw8 : IntKind.u64.wrap (f : Int) = (f : Int) := by rw [IntKind.wrap_u64]; omega
      have hwq : IntKind.i64.wrap (q : Int) = (q : Int) := IntWalk.i64_in _ (by omega)
      have hmin : min f 8 = f := by omega
      have hq0 : (0 : Int) ≤ (q : Int) := by omega
      have hq1 : (q : Int) < (n' : Int) := by omega
      have hqf : Hid (q = a / 8 ∧ t = a % 8 ∧ f = 7 - t) := Lib.hid ⟨hq, ht, hf⟩
      have hal : a ≤ 8000000 := by omega
      have Hans2 : Hid (R % 2 ^ (rem - i) / 2 ^ (rem - i - 1) = b / 2 ^ f % 2) := Lib.hid (by rw [hR', Hans.out, hf, ht])
      have HV := Lib.hid hV
      have Hblk := Lib.hid hblk; have Hs := Lib.hid hs; have Hne := Lib.hid hne; have Hlt := Lib.hid hlt; have Har := Lib.hid har; have HR' := Lib.hid hR'; have Ha := Lib.hid ha; have Hn := Lib.hid hn
      clear hblk hs hne hlt har hR' h1 h2 hq ht hf hV Hans hcell hb ha hn hmx hmn hlen
      go_upto_region 9 with fail
      go_quiet (fail)
      go_upto_region 10 with fail
      have hVb : Hid (V * 2 ^ 1 + 2 ^ 1 ≤ 18446744073709551616) := Lib.hid (get_bound (R := R) (rem := rem) (k := k) (l := k - i) (by rw [HV.out, show k - (k - i) = i by omega]) HR.out (by omega) hk64 (by omega) hkr)
      rw [rget_or V b f hb256 hVb.out]
      have hb0 : (wr.drewN nq).frozen? ⟨g, 1, none⟩ = false := hf1
      clear hVb
      go_wp2
      go_roundg (gk - 1)
      case measure => omega
      case rel =>
        have e1 : rem - (i + 1) = rem - i - 1 := by omega
        have e3 : V * 2 + b / 2 ^ f % 2 = R / 2 ^ (rem - (i + 1)) := by
          rw [e1, read_more R (rem - i) 1 (by omega), ← HV.out, Hans2.out, Nat.pow_one]
        have hm2 : Mod (fun i => i = g) wr ((wr.drewN nq).setCell ⟨g, 1, none⟩ (.int .i64 ((a : Int) + 1))) := ((Mod.refl (fun i => i = g) wr).drewN nq).setCell (p := ⟨g, 1, none⟩) (fun _ => rfl) _
        refine ⟨i + 1, by have := Hik.out; omega, by go_num, by rw [← e3], ⟨some ⟨row, o, none⟩, n', c, a + 1, ?_, Hs.out.mod hm2 (fun _ => Hne.out), Hne.out, by have := Har.out; omega, Hn.out, Hlt.out, fun _ => ⟨by have := Har.out; omega, ?_⟩, fun h => by cases h⟩, Hm.out.trans hm2 (fun _ _ h => h)⟩
        · have := (Hblk.out.drewN nq).set_ 1 (.int .i64 ((a : Int) + 1))
          simpa using this
        · have h1 := rest_bits (val bs) (rem - i) 1 (by omega)
          rw [← HR'.out] at h1
          rw [e1, ← h1, rest_bits _ _ _ (by omega)]
end Go.Proofs.Ytldjobaafambbaa

/- Two readers of one row of bytes: the project's, and the document's own. -/
namespace Go.Proofs.Ytldjobaafambbaa
open Go.RowKit

structure RS (w0 w : World) (g rg h rh : Nat) (bs : List Nat) (R rem : Nat) (ok : Bool) : Prop where
  rd : Rdr w g rg R rem ok
  rr : RRd w h rh bs R rem ok
  mod : Mod (fun _ => False) w0 w
  hg : w0.heap.size ≤ g
  hh : w0.heap.size ≤ h
  ne : g ≠ h
  ne1 : rg ≠ h
  ne2 : rh ≠ g
  small : rem ≤ 8000000
theorem Rdr.rerow {w : World} {g row row2 R : Nat} {ok : Bool} (h : Rdr w g row R 0 ok) (hne : row2 ≠ g) : Rdr w g row2 R 0 ok := by
  obtain ⟨A, n, c, bs, used, hblk, hnc, hs, hne', hlt, hrem, hused, hR, hok⟩ := h
  have hn : n = 0 := by omega
  exact ⟨A, n, c, bs, used, hblk, hnc, ⟨hs.1, fun h => by omega⟩, hne, hlt, hrem, hused, hR, hok⟩
theorem Rdr.row_real {w : World} {g row R rem : Nat} {ok : Bool} (h : Rdr w g row R rem ok) (hr : 0 < rem) : row < w.heap.size := by
  obtain ⟨A, n, c, bs, used, hblk, hnc, hs, hne', hlt, hrem, hused, hR, hok⟩ := h
  obtain ⟨o, _, h1, _⟩ := hs.2 (by omega)
  exact h1
section
variable {w0 w w' : World} {g rg h rh : Nat} {bs : List Nat} {R rem R' rem' : Nat} {ok ok' : Bool}
theorem RS.new (s : RS w0 w g rg h rh bs R rem ok) (hm : Mod (fun _ => False) w w') : RS w0 w' g rg h rh bs R rem ok :=
  ⟨s.rd.mod hm (fun h => h) (fun _ h => h), s.rr.mod hm (fun h => h) (fun _ h => h), s.mod.trans hm (fun _ _ h => h), s.hg, s.hh, s.ne, s.ne1, s.ne2, s.small⟩
/-- What one Get does to both. -/
def GetAns (R rem : Nat) (ok : Bool) (k : Nat) : Nat × Nat × Nat × Bool := if ok = true ∧ k ≤ rem then (R / 2 ^ (rem - k), R % 2 ^ (rem - k), rem - k, true) else (0, 0, 0, false)
theorem ans_yes {R rem k : Nat} (h : k ≤ rem) : GetAns R rem true k = (R / 2 ^ (rem - k), R % 2 ^ (rem - k), rem - k, true) := by unfold GetAns; rw [if_pos ⟨rfl, h⟩]
theorem ans_no {R rem k : Nat} {ok : Bool} (h : ¬ (ok = true ∧ k ≤ rem)) : GetAns R rem ok k = (0, 0, 0, false) := by unfold GetAns; rw [if_neg h]

theorem get_ans (n : Int) (k : Nat) (hn : FitI n) (hk : max 0 (min n 64) = (k : Int)) (hr : Rdr w g rg R rem ok) (hm : rem ≤ 8000000) :
    Calls Try.prog 33 #[.pointer (some ⟨g, 0, none⟩), .int .i64 n] w fun e w' => e = .returned (.int .u64 ((GetAns R rem ok k).1 : Int)) ∧ Rdr w' g rg (GetAns R rem ok k).2.1 (GetAns R rem ok k).2.2.1 (GetAns R rem ok k).2.2.2 ∧ Mod (fun i => i = g) w w' := by
  by_cases h1 : ok = true ∧ k ≤ rem
  · obtain ⟨rfl, h2⟩ := h1
    rw [ans_yes h2]
    exact get_any g rg R rem k true n w hn hk hr hr.small h2 (by omega)
  · rw [ans_no h1]
    by_cases h2 : k ≤ rem
    · have hok : ok = false := by
        cases ok with
        | false => rfl
        | true => exact absurd ⟨rfl, h2⟩ h1
      subst hok
      have h0 : rem = 0 := by obtain ⟨A, n', c, bs', used, _, _, _, _, _, _, _, _, hok⟩ := hr; exact hok rfl
      subst h0
      have hk0 : k = 0 := by omega
      subst hk0
      have hR : R = 0 := by have := hr.small; omega
      subst hR
      exact get_any g rg 0 0 0 false n w hn hk hr hr.small (Nat.le_refl _) (by omega)
    · exact get_many g rg R rem k ok n w hn hk hr h2 (by omega)
theorem rget_ans (n : Int) (k : Nat) (hk : max 0 (min n 64) = (k : Int)) (hr : RRd w h rh bs R rem ok) :
    Calls Try.prog 41 #[.pointer (some ⟨h, 0, none⟩), .int .i64 n] w fun e w' => e = .returned (.int .u64 ((GetAns R rem ok k).1 : Int)) ∧ RRd w' h rh bs (GetAns R rem ok k).2.1 (GetAns R rem ok k).2.2.1 (GetAns R rem ok k).2.2.2 ∧ Mod (fun i => i = h) w w' := by
  by_cases h1 : ok = true ∧ k ≤ rem
  · obtain ⟨rfl, h2⟩ := h1
    rw [ans_yes h2]
    exact rget_any h rh R rem k bs n w hk hr h2
  · rw [ans_no h1]
    exact rget_many h rh R rem k bs ok n w hk hr (fun e h2 => h1 ⟨e, h2⟩)
theorem ans_le (R rem : Nat) (ok : Bool) (k : Nat) : (GetAns R rem ok k).2.2.1 ≤ rem := by
  unfold GetAns
  split
  · exact Nat.sub_le _ _
  · exact Nat.zero_le _
theorem RRd.flag (hr : RRd w h rh bs R rem ok) : w.cell? ⟨h, 2, none⟩ = some (.bool (!ok)) := by
  obtain ⟨A, n, c, a, hblk, _⟩ := hr
  have := hblk.cell 2
  simpa using this
/-- Behind both Gets. -/
theorem RS.both {w1 w2 : World} (s : RS w0 w g rg h rh bs R rem ok) (h1 : Rdr w1 g rg R' rem' ok') (hm1 : Mod (fun i => i = g) w w1) (h2 : RRd w2 h rh bs R' rem' ok') (hm2 : Mod (fun i => i = h) w1 w2) (hle : rem' ≤ rem) : RS w0 w2 g rg h rh bs R' rem' ok' :=
  ⟨h1.mod hm2 (fun e => s.ne e) (fun _ e => s.ne1 e), h2, (s.mod.trans hm1 (fun i hi e => by have := s.hg; omega)).trans hm2 (fun i hi e => by have := s.hh; omega), s.hg, s.hh, s.ne, s.ne1, s.ne2, Nat.le_trans hle s.small⟩

/-- Behind the first Get, ahead of the other's. -/
structure RMid (w0 w : World) (g rg h rh : Nat) (bs : List Nat) (R rem : Nat) (ok : Bool) (R' rem' : Nat) (ok' : Bool) : Prop where
  rd : Rdr w g rg R' rem' ok'
  rr : RRd w h rh bs R rem ok
  mod : Mod (fun _ => False) w0 w
  hg : w0.heap.size ≤ g
  hh : w0.heap.size ≤ h
  ne : g ≠ h
  ne1 : rg ≠ h
  ne2 : rh ≠ g
  small : rem' ≤ 8000000
theorem RS.get (s : RS w0 w g rg h rh bs R rem ok) (n : Int) (k : Nat) (hn : FitI n) (hk : max 0 (min n 64) = (k : Int)) :
    Calls Try.prog 33 #[.pointer (some ⟨g, 0, none⟩), .int .i64 n] w fun e w' => e = .returned (.int .u64 ((GetAns R rem ok k).1 : Int)) ∧ RMid w0 w' g rg h rh bs R rem ok (GetAns R rem ok k).2.1 (GetAns R rem ok k).2.2.1 (GetAns R rem ok k).2.2.2 := by
  refine (get_ans n k hn hk s.rd s.small).mono ?_
  rintro e w' ⟨he, h1, hm⟩
  exact ⟨he, h1, s.rr.mod hm (fun e => s.ne e.symm) (fun _ e => s.ne2 e), s.mod.trans hm (fun i hi e => by have := s.hg; omega), s.hg, s.hh, s.ne, s.ne1, s.ne2, Nat.le_trans (ans_le _ _ _ _) s.small⟩
theorem RMid.get {k : Nat} (s : RMid w0 w g rg h rh bs R rem ok (GetAns R rem ok k).2.1 (GetAns R rem ok k).2.2.1 (GetAns R rem ok k).2.2.2) (n : Int) (hk : max 0 (min n 64) = (k : Int)) :
    Calls Try.prog 41 #[.pointer (some ⟨h, 0, none⟩), .int .i64 n] w fun e w' => e = .returned (.int .u64 ((GetAns R rem ok k).1 : Int)) ∧
      RS w0 w' g rg h rh bs (GetAns R rem ok k).2.1 (GetAns R rem ok k).2.2.1 (GetAns R rem ok k).2.2.2 ∧ w'.cell? ⟨h, 2, none⟩ = some (.bool (!(GetAns R rem ok k).2.2.2)) := by
  refine (rget_ans n k hk s.rr).mono ?_
  rintro e w' ⟨he, h2, hm⟩
  exact ⟨he, ⟨s.rd.mod hm (fun e => s.ne e) (fun _ e => s.ne1 e), h2, s.mod.trans hm (fun i hi e => by have := s.hh; omega), s.hg, s.hh, s.ne, s.ne1, s.ne2, s.small⟩, h2.flag⟩
theorem RS.left (s : RS w0 w g rg h rh bs R rem ok) :
    Calls Try.prog 32 #[.pointer (some ⟨g, 0, none⟩)] w fun e w' => e = .returned (.int .i64 (rem : Int)) ∧ RS w0 w' g rg h rh bs R rem ok ∧ w'.cell? ⟨h, 2, none⟩ = some (.bool (!ok)) :=
  (left_ab g rg R rem ok w s.rd (by have := s.small; omega)).mono fun _ _ ⟨he, hm⟩ => ⟨he, s.new hm, (s.new hm).rr.flag⟩
theorem RS.rleft (s : RS w0 w g rg h rh bs R rem ok) :
    Calls Try.prog 46 #[.pointer (some ⟨h, 0, none⟩)] w fun e w' => e = .returned (.int .i64 (rem : Int)) ∧ RS w0 w' g rg h rh bs R rem ok ∧ w'.cell? ⟨h, 2, none⟩ = some (.bool (!ok)) :=
  (rleft_ab h rh R rem bs ok w s.rr).mono fun _ _ ⟨he, hm⟩ => ⟨he, s.new hm, (s.new hm).rr.flag⟩
end
theorem RS.start {w0 wr w5 : World} {g rg R row n c : Nat} {A : Option Addr} {cs : List Nat} (hm : Mod (fun _ => False) w0 wr) (hm5 : Mod (fun _ => False) wr w5) (hg : wr.heap.size ≤ g) (hrd : Rdr w5 g rg R (8 * n) true) (hR : R = val cs) (hs : Sees wr row A n (cells8 cs))
    (hlt : lt256 cs) (hn : n ≤ 1000) :
    ∃ rg' rh, RS w0 (w5.alloc (.cells #[.slice A n c, .int .i64 0, .bool false] 78)) g rg' w5.heap.size rh cs (val cs) (8 * n) true := by
  subst hR
  have hma : Mod (fun _ => False) w5 (w5.alloc (.cells #[.slice A n c, .int .i64 0, .bool false] 78)) := (Mod.refl _ _).alloc _
  have hgl := hrd.lt
  have hval : val cs = val cs % 2 ^ (8 * n) := by
    have h1 := val_lt hlt
    have h2 := hs.1
    rw [cells8_length] at h2
    rw [h2] at h1
    exact (Nat.mod_eq_of_lt h1).symm
  have hs5 := (hs.mod hm5 (fun _ h => h)).mod hma (fun _ h => h)
  have hsz := hm.size
  have hsz5 := hm5.size
  have hmod := (hm.trans hm5 (fun _ _ h => h)).trans hma (fun _ _ h => h)
  rcases Nat.eq_zero_or_pos n with h0 | h0
  · subst h0
    refine ⟨g + w5.heap.size + 1, g + w5.heap.size + 1, (hrd.rerow (by omega)).mod hma (fun h => h) (fun _ h => h), ⟨A, 0, c, 0, Blk.new _ _ _, ⟨hs.1, fun h => by omega⟩, by omega, by omega, by omega, hlt, fun _ => ⟨rfl, hval⟩, fun h => by cases h⟩, hmod, by omega, by omega, by omega, by omega, by omega, by omega⟩
  · obtain ⟨o, _, hrl, _⟩ := hs.2 h0
    have hrgl := hrd.row_real (by omega)
    refine ⟨rg, row, hrd.mod hma (fun h => h) (fun _ h => h), ⟨A, n, c, 0, Blk.new _ _ _, hs5, by omega, by omega, by omega, hlt, fun _ => ⟨by omega, hval⟩, fun h => by cases h⟩, hmod, by omega, by omega, by omega, by omega, by omega, by omega⟩
end Go.Proofs.Ytldjobaafambbaa

namespace Go.Proofs.Ytldjobaafambbaa
open Go.RowKit

/-- string(b), b a slice that is seen. -/
theorem conv_seen {row n c : Nat} {A : Option Addr} {bs : List Nat} (w : World) (hs : Sees w row A n (cells8 bs)) (hlt : lt256 bs) (hA : A = none → c = 0) :
    (convert 27 9 (.slice A n c)).run Try.prog w = .ok (.string (strOf bs)) w := by
  have hlen := hs.1
  rw [cells8_length] at hlen
  rcases Nat.eq_zero_or_pos n with h0 | h0
  · subst h0
    obtain rfl := List.eq_nil_of_length_eq_zero hlen
    rw [run_convert_bytes_string w 27 9 5 A 0 c Try.underlying27 Try.underlying5 Try.underlying9]
    cases A <;> rfl
  · obtain ⟨o, rfl, hl, hc⟩ := hs.2 h0
    have := run_convert_bytes_back (P := Try.prog) w 27 9 5 ⟨row, o, none⟩ c (bs.map UInt8.ofNat) Try.underlying27 Try.underlying5 Try.underlying9 (by
      intro j hj
      simp at hj
      rw [add_addr]
      refine hc j _ ?_
      rw [cells8_get, List.getElem?_eq_getElem hj]
      have := hlt _ (List.getElem_mem hj)
      simp
      omega)
    rw [List.length_map, hlen] at this
    exact this
end Go.Proofs.Ytldjobaafambbaa

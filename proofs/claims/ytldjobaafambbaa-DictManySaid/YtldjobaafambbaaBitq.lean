import Derived.Test.YtldjobaafambbaaBitp
import Derived.Deep.QuietTactic
import Derived.BigQuiet
namespace Go.Proofs.Ytldjobaafambbaa
open Go.RowKit

theorem clone_nil (w : World) : Calls Try.prog 38 #[.slice none 0 0] w fun e w' => e = .returned (.slice none 0 0) ∧ w = w' := by
  have hq := @Lib.run_eql_slice_nil Try.prog
  go_enter Try.func38, Try.ntmps38
  go_wp2
  go_ret
  exact ⟨rfl, rfl⟩


/-- What a call answers that makes a row of its own. -/
def NewRow (w w' : World) (v : Value) (n : Nat) (xs : List Value) : Prop :=
  w'.ownsRow 0 5 1 v n xs ∧ Mod (fun _ => False) w w' ∧ ((v.ownBlock = none) ∨ ∃ r, v.ownBlock = some r ∧ w.heap.size ≤ r)

theorem clone_some (ad : Addr) (n c : Nat) (bs : List Nat) (w : World) (hn : bs.length = n) (hc : ∀ j u, (cells8 bs)[j]? = some u → w.cell? (ad.add j) = some u) (hg : bs = [] ∨ ad.block < w.heap.size) (hm : n ≤ 1000000000) :
    Calls Try.prog 38 #[.slice (some ad) n c] w fun e w' => ∃ v, e = .returned v ∧ NewRow w w' v n (cells8 bs) ∧ v ≠ .slice none 0 0 := by
  have hq := fun w => Lib.run_eql_slice_nil (P := Try.prog) w 27 5 (some ad) n c 0 0 Try.underlying27
  obtain ⟨i0, hi, hz0, hz1, hz2⟩ := info_parts Try.info5
  have Hb : Room 0 n := Room.mk _ _ (by omega)
  have Hown : Hid ((w.alloc (.cells #[] 5)).ownsRow 0 5 1 (.slice (some ⟨w.heap.size, 0, none⟩) 0 0) 0 []) := Lib.hid (World.ownsRow_lit w #[] 0 (Nat.zero_le _) (Nat.zero_le _) rfl)
  have Hc : Hid (∀ j u, (cells8 bs)[j]? = some u → (w.alloc (.cells #[] 5)).cell? (ad.add j) = some u) := Lib.hid (by
    intro j u hu
    rcases hg with rfl | hg
    · simp [cells8] at hu
    · rw [World.cell?_alloc_lt w _ _ (by rw [add_block]; exact hg)]
      exact hc j u hu)
  have Hn : Hid ((cells8 bs).length = n * 1) := Lib.hid (by rw [cells8_length]; omega)
  clear hc hn hm
  go_enter Try.func38, Try.ntmps38
  go_wp2_with (at_builtin; refine wpList_append_own_at _ rfl _ _ 27 rfl 0 5 i0 (.int .u8 0) 1 1 Try.underlying27 hi hz0 hz1 hz2 rfl (by decide) (.slice (some ⟨w.heap.size, 0, none⟩) 0 0) 0 [] rfl Hown.out ad n c (cells8 bs) rfl Hn.out Hc.out (cells8_one bs) Hb.1 Hb.2 (Nat.zero_le _) ?_; intro v' w1 hown' hgrow hnil hrow'; have Hown' := Lib.hid hown'; have Hgrow := Lib.hid hgrow; have Hnil := Lib.hid hnil; have Hrow' := Lib.hid hrow'; clear hown' hgrow hnil hrow')
  go_ret
  have h1 := Hgrow.out
  have h2 := Hrow'.out
  refine ⟨v', rfl, ⟨by simpa using Hown'.out, ?_, ?_⟩, ?_⟩
  · refine ((Mod.refl _ _).alloc _).grown h1 ?_
    intro k hk hlt
    simp [Value.ownBlock] at hk
    omega
  · rcases h2 with h2 | h2
    · exact .inr ⟨_, h2, by simp⟩
    · exact .inr ⟨_, h2, by simp⟩
  · intro h
    have := (Hnil.out.1 h).1
    simp at this

theorem clone_any (row : Nat) (A : Option Addr) (n c : Nat) (bs : List Nat) (w : World) (hs : Sees w row A n (cells8 bs)) (hA : A = none → c = 0) (hm : n ≤ 1000000000) :
    Calls Try.prog 38 #[.slice A n c] w fun e w' => ∃ v, e = .returned v ∧ NewRow w w' v n (cells8 bs) := by
  have hlen : bs.length = n := by have := hs.1; rwa [cells8_length] at this
  rcases A with _ | ad
  · obtain rfl := hA rfl
    have hn : n = 0 := by
      rcases Nat.eq_zero_or_pos n with h | h
      · exact h
      · obtain ⟨o, h', _⟩ := hs.2 h
        cases h'
    subst hn
    obtain rfl := List.eq_nil_of_length_eq_zero hlen
    refine (clone_nil w).mono ?_
    rintro e w' ⟨rfl, rfl⟩
    exact ⟨_, rfl, World.ownsRow_nil _ _ _ _, Mod.refl _ _, .inl rfl⟩
  · refine (clone_some ad n c bs w hlen ?_ ?_ hm).mono fun e w' ⟨v, h1, h2, _⟩ => ⟨v, h1, h2⟩
    · intro j u hu
      have hj : 0 < n := by have := (List.getElem?_eq_some_iff.1 hu).1; rw [cells8_length] at this; omega
      obtain ⟨o, h', _, hc⟩ := hs.2 hj
      injection h' with h'
      subst h'
      rw [add_addr]
      exact hc j u hu
    · rcases Nat.eq_zero_or_pos n with h | h
      · subst h
        exact .inl (List.eq_nil_of_length_eq_zero hlen)
      · obtain ⟨o, h', hl, _⟩ := hs.2 h
        injection h' with h'
        subst h'
        exact .inr hl

def Packed (bs : List Nat) (N len : Nat) : Prop := lt256 bs ∧ ∃ free, free < 8 ∧ len + free = 8 * bs.length ∧ val bs = N * 2 ^ free

theorem bytes_any (g : Nat) (row : Option Nat) (N len : Nat) (w : World) (hw : Wr w g row N len) (hlen : len ≤ 1000000000) :
    Calls Try.prog 23 #[.pointer (some ⟨g, 0, none⟩)] w fun e w' => ∃ v bs, e = .returned v ∧ NewRow w w' v bs.length (cells8 bs) ∧ Packed bs N len := by
  obtain ⟨free, hf8, sv, bs, hblk, hown, hrow, hlt, hlf, hval, hN⟩ := hw
  have hc0 := hblk.cell 0
  simp at hc0
  have hpk : Packed bs N len := ⟨hlt, free, hf8, hlf, hval⟩
  have hsv : ∃ A c, sv = .slice A bs.length c ∧ (A = none → c = 0) := by
    rcases hown.2 with ⟨h1, h2⟩ | ⟨g', cap, cur, h1, _⟩
    · exact ⟨none, 0, by rw [h1, h2], fun _ => rfl⟩
    · exact ⟨_, _, h1, fun h => by cases h⟩
  obtain ⟨A, c, rfl, hA⟩ := hsv
  obtain ⟨r, hr⟩ : ∃ r, 0 < bs.length → (Value.slice A bs.length c).ownBlock = some r := by
    cases A with
    | none => exact ⟨0, fun h => by
        rcases hown.2 with ⟨_, h2⟩ | ⟨g', cap, cur, h1, _⟩
        · omega
        · cases h1⟩
    | some a => exact ⟨a.block, fun _ => rfl⟩
  have Hs := Lib.hid (Sees.of_own hown hr)
  have HA := Lib.hid hA
  have Hm : bs.length ≤ 1000000000 := by omega
  have Hpk := Lib.hid hpk
  clear hblk hown hrow hlt hlf hval hN hpk hA hr hf8
  go_enter Try.func23, Try.ntmps23
  go_wp2_with fail
  refine (clone_any r A bs.length c bs w Hs.out HA.out Hm).mono ?_
  rintro e w' ⟨v, rfl, hnew⟩
  have Hnew := Lib.hid hnew
  clear hnew
  go_wp2
  go_ret
  exact ⟨v, bs, rfl, Hnew.out, Hpk.out⟩

/-- A reader at block g, its bytes in block 'row': rem bits are left, R is their number. -/
def Rdr (w : World) (g row : Nat) (R rem : Nat) (ok : Bool) : Prop :=
  ∃ (A : Option Addr) (n c : Nat) (bs : List Nat) (used : Nat), Blk w g 80 #[.slice A n c, .int .u64 (used : Int), .bool (!ok)] ∧ n ≤ c ∧ Sees w row A n (cells8 bs) ∧ row ≠ g ∧ lt256 bs ∧
    rem + used = 8 * n ∧ used < 8 ∧ R = val bs % 2 ^ rem ∧ (ok = false → rem = 0)

theorem NewRow.form {w w1 : World} {v : Value} {n : Nat} {bs : List Nat} (h : NewRow w w1 v n (cells8 bs)) :
    ∃ A c row, v = .slice A n c ∧ n ≤ c ∧ (A = none → c = 0) ∧ w.heap.size ≤ row ∧ row ≠ w1.heap.size ∧ Sees w1 row A n (cells8 bs) := by
  obtain ⟨hown, hmod, hrow⟩ := h
  rcases hown.2 with ⟨h1, h2⟩ | ⟨g', cap, cur, h1, _, hg, hnc, _⟩
  · subst h2
    refine ⟨none, 0, w1.heap.size + 1, h1, Nat.le_refl _, fun _ => rfl, by have := hmod.size; omega, by omega, ⟨?_, fun h => by omega⟩⟩
    simpa using hown.1
  · have hl := (Array.getElem?_eq_some_iff.1 hg).1
    refine ⟨_, cap, g', h1, hnc, (fun h => by cases h), ?_, by omega, Sees.of_own (h1 ▸ hown) (fun _ => rfl)⟩
    rw [h1] at hrow
    rcases hrow with hr | ⟨r, hr, hle⟩
    · cases hr
    · simp [Value.ownBlock] at hr
      omega

theorem newReader_any (row : Nat) (A : Option Addr) (n c : Nat) (bs : List Nat) (w : World) (hs : Sees w row A n (cells8 bs)) (hA : A = none → c = 0) (hm : n ≤ 1000000000) (hlt : lt256 bs) :
    Calls Try.prog 31 #[.slice A n c] w fun e w' => ∃ g row', e = .returned (.pointer (some ⟨g, 0, none⟩)) ∧ w.heap.size ≤ g ∧ w.heap.size ≤ row' ∧ Mod (fun _ => False) w w' ∧
      Rdr w' g row' (val bs) (8 * n) true := by
  have Hs := Lib.hid hs
  have HA := Lib.hid hA
  have hlen : Hid (bs.length = n) := Lib.hid (by have := hs.1; rwa [cells8_length] at this)
  clear hs hA
  go_enter Try.func31, Try.ntmps31
  go_wp2_with fail
  refine (clone_any row A n c bs w Hs.out HA.out hm).mono ?_
  rintro e w1 ⟨v, rfl, hnew⟩
  obtain ⟨A', c', r, rfl, hnc, _, hr1, hr2, hs'⟩ := hnew.form
  have Hs' := Lib.hid hs'
  have Hmod := Lib.hid hnew.2.1
  clear hnew hs'
  go_wp2
  go_ret
  refine ⟨w1.heap.size, r, rfl, Hmod.out.size, hr1, Hmod.out.alloc _, A', n, c', bs, 0, Blk.new _ _ _, hnc, ?_, hr2, hlt, by omega, by omega, ?_, fun h => by cases h⟩
  · exact Hs'.out.mod ((Mod.refl (fun _ => False) w1).alloc _) (fun _ h => h)
  · rw [Nat.mod_eq_of_lt]
    have := val_lt hlt
    rw [hlen.out] at this
    exact this

theorem left_any (g row R rem : Nat) (ok : Bool) (w : World) (h : Rdr w g row R rem ok) (hm : rem ≤ 8000000000) :
    Calls Try.prog 32 #[.pointer (some ⟨g, 0, none⟩)] w fun e w' => e = .returned (.int .i64 (rem : Int)) ∧ ∃ n, w' = w.drewN n := by
  obtain ⟨A, n, c, bs, used, hblk, hnc, hs, hne, hlt, hrem, hused, hR, hok⟩ := h
  have hc0 := hblk.cell 0
  have hc1 := hblk.cell 1
  simp at hc0 hc1
  have Hrem := Lib.hid hrem
  have hn : n ≤ 1000000001 := by omega
  clear hblk hs hrem hR hok hlt hnc hne
  go_enter Try.func32, Try.ntmps32
  go_wp2
  go_quiet (fail)
  go_wp2
  go_ret
  exact ⟨ret_int (by have := Hrem.out; omega), _, rfl⟩

end Go.Proofs.Ytldjobaafambbaa

import Derived.Test.YtcbljeiceahimaaBitw
import Derived.Deep.RegionWith
import Derived.Laws.IdiomStrings
namespace Go.Proofs.Ytcbljeiceahimaa
open Go.RowKit

/-- The rows by hand: a number, of how many bits, what it is put as. -/
def formRows : List (Int × Int × List Nat) := [(0, 0, []), (1, 1, [128]), (5, 3, [160]), (255, 8, [255]), (255, 4, [240]), (0x1234, 16, [0x12, 0x34]), (1, 9, [0, 128]), (18446744073709551615, 64, [255, 255, 255, 255, 255, 255, 255, 255]), (9223372036854775808, 64, [128, 0, 0, 0, 0, 0, 0, 0]), (7, 99, [0, 0, 0, 0, 0, 0, 0, 7]), (7, -3, [])]
def strOf (bs : List Nat) : ByteArray := ⟨(bs.map UInt8.ofNat).toArray⟩

def FormCut (w wc : World) (s4 : Value) : Prop :=
  ∃ (g : Nat) (v n : Int) (bs : List Nat), (v, n, bs) ∈ formRows ∧ s4 = .pointer (some ⟨g, 0, none⟩) ∧ Blk wc g 23 #[.int .u64 v, .int .i64 n, .string (strOf bs)] ∧ w.heap.size ≤ g ∧ Mod (fun _ => False) w wc

theorem form_mk (w : World) (o : Obj) (v n : Int) (bs : List Nat) (s : ByteArray) (hin : (v, n, bs) ∈ formRows) (hs : s = strOf bs) :
    FormCut w ((w.alloc o).alloc (.cells #[.int .u64 v, .int .i64 n, .string s] 23)) (.pointer (some ⟨w.heap.size + 1, 0, none⟩)) := by
  subst hs
  refine ⟨w.heap.size + 1, v, n, bs, hin, rfl, ?_, by omega, ((Mod.refl _ _).alloc _).alloc _⟩
  have := Blk.new (w.alloc o) 23 #[.int .u64 v, .int .i64 n, .string (strOf bs)]
  simpa using this

theorem form_bytes (v n : Int) (bs : List Nat) (hin : (v, n, bs) ∈ formRows) :
    FitI n ∧ Fit64 v ∧ ∃ k : Nat, max 0 (min n 64) = (k : Int) ∧ k ≤ 64 ∧ min (max n 0) 64 = (k : Int) ∧ ∀ bs', Packed bs' (0 * 2 ^ k + v.toNat % 2 ^ k) (0 + k) → bs' = bs := by
  have key : ∀ (k len x : Nat) (bs' bs : List Nat), Packed bs' x k → bs.length = len → 8 * len < k + 8 → k ≤ 8 * len → lt256 bs → val bs = x * 2 ^ (8 * len - k) → bs' = bs := by
    rintro k len x bs' bs ⟨h1, free, hf, hl, hv⟩ hlen h8 h8' hlt hval
    have e1 : bs'.length = len := by omega
    have e2 : 8 * len - k = free := by omega
    exact val_inj len bs' bs e1 hlen h1 hlt (by rw [hv, hval, e2])
  simp only [formRows, List.mem_cons, Prod.mk.injEq, List.not_mem_nil, or_false] at hin
  rcases hin with ⟨rfl, rfl, rfl⟩ | ⟨rfl, rfl, rfl⟩ | ⟨rfl, rfl, rfl⟩ | ⟨rfl, rfl, rfl⟩ | ⟨rfl, rfl, rfl⟩ | ⟨rfl, rfl, rfl⟩ | ⟨rfl, rfl, rfl⟩ | ⟨rfl, rfl, rfl⟩ | ⟨rfl, rfl, rfl⟩ | ⟨rfl, rfl, rfl⟩ | ⟨rfl, rfl, rfl⟩
  · exact ⟨⟨by decide, by decide⟩, ⟨by decide, by decide⟩, 0, by decide, by decide, by decide, fun bs' h => key _ 0 _ bs' _ h (by decide) (by decide) (by decide) (by unfold lt256; decide) (by decide)⟩
  · exact ⟨⟨by decide, by decide⟩, ⟨by decide, by decide⟩, 1, by decide, by decide, by decide, fun bs' h => key _ 1 _ bs' _ h (by decide) (by decide) (by decide) (by unfold lt256; decide) (by decide)⟩
  · exact ⟨⟨by decide, by decide⟩, ⟨by decide, by decide⟩, 3, by decide, by decide, by decide, fun bs' h => key _ 1 _ bs' _ h (by decide) (by decide) (by decide) (by unfold lt256; decide) (by decide)⟩
  · exact ⟨⟨by decide, by decide⟩, ⟨by decide, by decide⟩, 8, by decide, by decide, by decide, fun bs' h => key _ 1 _ bs' _ h (by decide) (by decide) (by decide) (by unfold lt256; decide) (by decide)⟩
  · exact ⟨⟨by decide, by decide⟩, ⟨by decide, by decide⟩, 4, by decide, by decide, by decide, fun bs' h => key _ 1 _ bs' _ h (by decide) (by decide) (by decide) (by unfold lt256; decide) (by decide)⟩
  · exact ⟨⟨by decide, by decide⟩, ⟨by decide, by decide⟩, 16, by decide, by decide, by decide, fun bs' h => key _ 2 _ bs' _ h (by decide) (by decide) (by decide) (by unfold lt256; decide) (by decide)⟩
  · exact ⟨⟨by decide, by decide⟩, ⟨by decide, by decide⟩, 9, by decide, by decide, by decide, fun bs' h => key _ 2 _ bs' _ h (by decide) (by decide) (by decide) (by unfold lt256; decide) (by decide)⟩
  · exact ⟨⟨by decide, by decide⟩, ⟨by decide, by decide⟩, 64, by decide, by decide, by decide, fun bs' h => key _ 8 _ bs' _ h (by decide) (by decide) (by decide) (by unfold lt256; decide) (by decide)⟩
  · exact ⟨⟨by decide, by decide⟩, ⟨by decide, by decide⟩, 64, by decide, by decide, by decide, fun bs' h => key _ 8 _ bs' _ h (by decide) (by decide) (by decide) (by unfold lt256; decide) (by decide)⟩
  · exact ⟨⟨by decide, by decide⟩, ⟨by decide, by decide⟩, 64, by decide, by decide, by decide, fun bs' h => key _ 8 _ bs' _ h (by decide) (by decide) (by decide) (by unfold lt256; decide) (by decide)⟩
  · exact ⟨⟨by decide, by decide⟩, ⟨by decide, by decide⟩, 0, by decide, by decide, by decide, fun bs' h => key _ 0 _ bs' _ h (by decide) (by decide) (by decide) (by unfold lt256; decide) (by decide)⟩

/-- string(b), b a slice that is seen. -/
theorem conv_seen {row n c : Nat} {A : Option Addr} {bs : List Nat} (w : World) (hs : Sees w row A n (cells8 bs)) (hlt : lt256 bs) (hA : A = none → c = 0) :
    (convert 28 9 (.slice A n c)).run Try.prog w = .ok (.string (strOf bs)) w := by
  have hlen := hs.1
  rw [cells8_length] at hlen
  rcases Nat.eq_zero_or_pos n with h0 | h0
  · subst h0
    obtain rfl := List.eq_nil_of_length_eq_zero hlen
    rw [run_convert_bytes_string w 28 9 5 A 0 c Try.underlying28 Try.underlying5 Try.underlying9]
    cases A <;> rfl
  · obtain ⟨o, rfl, hl, hc⟩ := hs.2 h0
    have := run_convert_bytes_back (P := Try.prog) w 28 9 5 ⟨row, o, none⟩ c (bs.map UInt8.ofNat) Try.underlying28 Try.underlying5 Try.underlying9 (by
      intro j hj
      simp at hj
      rw [add_addr]
      refine hc j _ ?_
      rw [cells8_get, List.getElem?_eq_getElem hj]
      have := hlt _ (List.getElem_mem hj)
      simp
      omega)
    rw [List.length_map, hlen] at this
    exact this

/-- The writer as it stands behind Put, and the row of the table. -/
def FormSt (w W : World) (g gx : Nat) (k : Nat) (v n : Int) (bs : List Nat) : Prop :=
  (∃ row, Wr W g row (0 * 2 ^ k + v.toNat % 2 ^ k) (0 + k)) ∧ Blk W gx 23 #[.int .u64 v, .int .i64 n, .string (strOf bs)] ∧ Mod (fun _ => False) w W
theorem FormSt.step {w W W' : World} {g gx k : Nat} {v n : Int} {bs : List Nat} (h : FormSt w W g gx k v n bs) (hm : Mod (fun _ => False) W W') : FormSt w W' g gx k v n bs := by
  obtain ⟨⟨row, h1⟩, h2, h3⟩ := h
  exact ⟨⟨row, h1.mod hm (fun h => h) (fun _ _ h => h)⟩, hm.blk h2 (fun h => h), h3.trans hm (fun _ _ h => h)⟩

theorem form_bytes_call {w W : World} {g gx k : Nat} {v n : Int} {bs : List Nat} (h : FormSt w W g gx k v n bs) (hk : k ≤ 64) (hu : ∀ bs', Packed bs' (0 * 2 ^ k + v.toNat % 2 ^ k) (0 + k) → bs' = bs) :
    Calls Try.prog 9 #[.pointer (some ⟨g, 0, none⟩)] W fun e W' => ∃ A c, e = .returned (.slice A bs.length c) ∧ (convert 28 9 (.slice A bs.length c)).run Try.prog W' = .ok (.string (strOf bs)) W' ∧ FormSt w W' g gx k v n bs := by
  obtain ⟨⟨row, h1⟩, h2, h3⟩ := h
  refine (bytes_any g row _ _ W h1 (by omega)).mono ?_
  rintro e W' ⟨v', bs', rfl, hnew, hpk⟩
  obtain rfl := hu bs' hpk
  obtain ⟨A, c, r, rfl, _, hA, _, _, hs⟩ := hnew.form
  exact ⟨A, c, rfl, conv_seen W' hs hpk.1 hA, FormSt.step ⟨⟨row, h1⟩, h2, h3⟩ hnew.2.1⟩
theorem form_len_call {w W : World} {g gx k : Nat} {v n : Int} {bs : List Nat} (h : FormSt w W g gx k v n bs) (hk : k ≤ 64) :
    Calls Try.prog 10 #[.pointer (some ⟨g, 0, none⟩)] W fun e W' => e = .returned (.int .i64 (k : Int)) ∧ FormSt w W' g gx k v n bs := by
  obtain ⟨⟨row, h1⟩, h2, h3⟩ := h
  refine (len_any g row _ _ W h1 (by omega)).mono ?_
  rintro e W' ⟨rfl, nq, rfl⟩
  exact ⟨by rw [Nat.zero_add], FormSt.step ⟨⟨row, h1⟩, h2, h3⟩ ((Mod.refl _ _).drewN nq)⟩
theorem form_awake_call {w W : World} {g gx k : Nat} {v n : Int} {bs : List Nat} (h : FormSt w W g gx k v n bs) :
    Calls Try.prog 11 #[] W fun e W' => e = .returned (.bool true) ∧ FormSt w W' g gx k v n bs :=
  (awake_any W).mono fun _ _ ⟨h1, h2⟩ => ⟨h1, h.step h2⟩

set_option maxHeartbeats 4000000 in
set_option maxRecDepth 100000 in
theorem forms_walk (a0 : Int) (j : Nat) (hj : j < 11) (w : World) (hand : bits .and .i64 a0 255 = (a0 % 256)) (hrem : (a0 % 256).tmod 11 = (j : Int)) :
    Calls Try.prog 3 #[.int .i64 a0] w fun e w' => e = .returned (.bool true) ∧ Mod (fun _ => False) w w' := by
  go_enter Try.func3, Try.ntmps3
  go_upto_region 2 with fail
  go_cut [4] (fun s4 wc => FormCut w wc s4)
  case first =>
    have h0 : 0 ≤ a0 % 256 := Int.emod_nonneg _ (by decide)
    have hj' : j = 0 ∨ j = 1 ∨ j = 2 ∨ j = 3 ∨ j = 4 ∨ j = 5 ∨ j = 6 ∨ j = 7 ∨ j = 8 ∨ j = 9 ∨ j = 10 := by omega
    clear hj
    rcases hj' with rfl | rfl | rfl | rfl | rfl | rfl | rfl | rfl | rfl | rfl | rfl
    all_goals
      go_wp2_with fail
      go_meet
    · case rel => exact form_mk w _ 0 0 [] _ (by simp [formRows]) rfl
    · case rel => exact form_mk w _ 1 1 [128] _ (by simp [formRows]) rfl
    · case rel => exact form_mk w _ 5 3 [160] _ (by simp [formRows]) rfl
    · case rel => exact form_mk w _ 255 8 [255] _ (by simp [formRows]) rfl
    · case rel => exact form_mk w _ 255 4 [240] _ (by simp [formRows]) rfl
    · case rel => exact form_mk w _ 0x1234 16 [0x12, 0x34] _ (by simp [formRows]) rfl
    · case rel => exact form_mk w _ 1 9 [0, 128] _ (by simp [formRows]) rfl
    · case rel => exact form_mk w _ 18446744073709551615 64 [255, 255, 255, 255, 255, 255, 255, 255] _ (by simp [formRows]) rfl
    · case rel => exact form_mk w _ 9223372036854775808 64 [128, 0, 0, 0, 0, 0, 0, 0] _ (by simp [formRows]) rfl
    · case rel => exact form_mk w _ 7 99 [0, 0, 0, 0, 0, 0, 0, 7] _ (by simp [formRows]) rfl
    · case rel => exact form_mk w _ 7 (-3) [] _ (by simp [formRows]) rfl
  case rest =>
    obtain ⟨gx, v, n, bs, hin, rfl, hblk, hgx, hmod⟩ := hcut
    obtain ⟨hn, hv, k, hk1, hk64, hk2, hu⟩ := form_bytes v n bs hin
    have Hblk := Lib.hid hblk; have Hmod := Lib.hid hmod; have Hu := Lib.hid hu; have Hk1 := Lib.hid hk1
    clear hblk hmod hu hk1 hand hrem hin
    go_wp2_with fail
    refine (newWriter_wr _).mono ?_
    rintro e w1 ⟨g, rfl, hg1, hg2, hw1, hm1⟩
    have hblk1 := hm1.blk Hblk.out (fun h => h)
    have hx0 := hblk1.cell 0
    have hx1 := hblk1.cell 1
    simp at hx0 hx1
    have Hgx : Hid (gx ≠ g) := Lib.hid (by have := Hblk.out.lt; omega)
    have Hw1 := Lib.hid hw1; have Hm1 := Lib.hid hm1; have Hblk1 := Lib.hid hblk1
    clear hw1 hm1 hblk1
    go_wp2_with fail
    refine (put_wr g none 0 0 k v n _ hn hv Hk1.out Hw1.out (by omega)).mono ?_
    rintro e w2 ⟨rfl, row2, hw2, hm2, hr2⟩
    have hst : FormSt w w2 g gx k v n bs := ⟨⟨row2, hw2⟩, hm2.blk Hblk1.out (fun h => h.elim (fun h => Hgx.out h) (fun h => by cases h)),
      (Hmod.out.trans Hm1.out (fun _ _ h => h)).trans hm2 (fun i hi h => h.elim (fun h => by have := Hmod.out.size; omega) (fun h => by cases h))⟩
    have hx1 := hst.2.1.cell 1
    have hx2 := hst.2.1.cell 2
    simp at hx1 hx2
    have Hst := Lib.hid hst
    clear hw2 hm2 hr2 hst
    obtain ⟨mx, hmx, hmx2⟩ : ∃ mx : Int, (if n < 0 then (0 : Int) else n) = mx ∧ mx = max n 0 := ⟨_, rfl, by split <;> omega⟩
    have hmn : (if 64 < mx then (64 : Int) else mx) = (k : Int) := by split <;> omega
    clear hk2 hmx2
    go_upto_region 7 with fail
    go_region_with
      (first
        | (go_at_call 9; refine (form_bytes_call (w := w) (gx := gx) (g := g) (k := k) (v := v) (n := n) (bs := bs) ?_ hk64 Hu.out).mono ?_; (exact FormSt.step Hst.out ((Mod.refl _ _).drew)); rintro e W1 ⟨A, c, rfl, hcv, hst1⟩; have hx1 := hst1.2.1.cell 1; have hx2 := hst1.2.1.cell 2; simp at hx1 hx2; have Hst1 := Lib.hid hst1; clear hst1)
        | (go_at_call 10; refine (form_len_call (w := w) (gx := gx) (g := g) (k := k) (v := v) (n := n) (bs := bs) ?_ hk64).mono ?_; (exact Hst1.out); rintro e W2 ⟨rfl, hst2⟩; have hx1 := hst2.2.1.cell 1; have hx2 := hst2.2.1.cell 2; simp at hx1 hx2; have Hst2 := Lib.hid hst2; clear hst2)
        | (go_at_call 11; refine (form_awake_call (w := w) (gx := gx) (g := g) (k := k) (v := v) (n := n) (bs := bs) ?_).mono ?_; (exact Hst2.out); rintro e W3 ⟨rfl, hst3⟩; have Hst3 := Lib.hid hst3; clear hst3))
    all_goals (go_wp2; go_ret; exact ⟨rfl, Hst3.out.2.2⟩)
end Go.Proofs.Ytcbljeiceahimaa

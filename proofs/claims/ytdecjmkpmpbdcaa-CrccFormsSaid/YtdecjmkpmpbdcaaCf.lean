import Derived.Test.YtdecjmkpmpbdcaaCa
import Derived.Test.YtdecjmkpmpbdcaaFit
namespace Go.Proofs.Ytdecjmkpmpbdcaa
open Go.RowKit

/-- The rows by hand: bytes, and their sum. -/
def crccRows : List (List Nat × Nat) := [([], 0), ([97], 3251651376), ([49, 50, 51, 52, 53, 54, 55, 56, 57], 3808858755), (List.replicate 32 0, 2324772522), (List.replicate 32 255, 1655221059)]
def CrccCut (w wc : World) (s4 : Value) : Prop :=
  ∃ (g : Nat) (bs : List Nat) (c : Nat), (bs, c) ∈ crccRows ∧ s4 = .pointer (some ⟨g, 0, none⟩) ∧ Blk wc g 23 #[.string (strOf bs), .int .u32 (c : Int)] ∧ w.heap.size ≤ g ∧ Below w.heap.size w wc
theorem crcc_mk (w : World) (o : Obj) (bs : List Nat) (c : Nat) (s : ByteArray) (ci : Int) (hin : (bs, c) ∈ crccRows) (hs : s = strOf bs) (hc : ci = (c : Int)) :
    CrccCut w ((w.alloc o).alloc (.cells #[.string s, .int .u32 ci] 23)) (.pointer (some ⟨w.heap.size + 1, 0, none⟩)) := by
  subst hs hc
  refine ⟨w.heap.size + 1, bs, c, hin, rfl, ?_, by omega, ((Below.refl _ _).alloc (Nat.le_refl _) _).alloc (by simp) _⟩
  have := Blk.new (w.alloc o) 23 #[.string (strOf bs), .int .u32 (c : Int)]
  simpa using this
theorem crcc_row (bs : List Nat) (c : Nat) (hin : (bs, c) ∈ crccRows) : lt256 bs ∧ bs.length ≤ 40 ∧ (sumN ent bs : Int) = (c : Int) := by
  have key : crccRows.all (fun p => decide ((∀ b ∈ p.1, b < 256) ∧ p.1.length ≤ 40 ∧ sumN ent p.1 = p.2)) = true := by decide +kernel
  have := of_decide_eq_true (List.all_eq_true.1 key _ hin)
  exact ⟨this.1, this.2.1, by rw [this.2.2]⟩

/-- []byte(s) -/
def cvC (s : ByteArray) (w : World) : Nat := grownCap w s.size 0 5
def cvW (s : ByteArray) (w : World) : World := w.drew.alloc (.cells (bytesRow s (cvC s w)) 5 ((bytesRow s (cvC s w)).size, (bytesRow s (cvC s w)).size + 1))
theorem cv_run (s : ByteArray) (w : World) : (convert 9 28 (.string s)).run Try.prog w = .ok (.slice (some ⟨w.heap.size, 0, none⟩) s.size (cvC s w)) (cvW s w) :=
  run_bytes_of_string (P := Try.prog) w 9 28 5 s Try.underlying9 Try.underlying28 Try.underlying5
theorem cv_below {B : Nat} {wc w : World} (h : Below B wc w) (hB : B ≤ wc.heap.size) (s : ByteArray) : Below B wc (cvW s w) := h.drew.alloc (Nat.le_trans hB h.size) _
theorem cv_rds {s : ByteArray} {bs : List Nat} (hs : Hid (s = strOf bs)) (hlt : Hid (lt256 bs)) (w : World) : Rds (cvW s w) (w.heap.size + 1) (some ⟨w.heap.size, 0, none⟩) s.size (cells8 bs) := by
  rw [hs.out]
  refine ⟨by rw [cells8_length, strOf_size], fun _ => ⟨_, rfl, by simp, fun j u hu => ?_⟩⟩
  rw [add_addr, Nat.zero_add]
  have hj : j < bs.length := by have := (List.getElem?_eq_some_iff.1 hu).1; rwa [cells8_length] at this
  refine (World.cell?_alloc_mark w.drew _ 5 _ j).trans ?_
  rw [bytesRow_at _ _ j (by simp [strOf]; exact hj)]
  rw [cells8_get, List.getElem?_eq_getElem hj] at hu
  have := hlt.out _ (List.getElem_mem hj)
  simp at hu
  rw [← hu]
  simp [strOf]
  omega
theorem since_trans {B : Nat} {w0 w w' : World} (h : Below B w0 w) (hB : B ≤ w0.heap.size) (k : Below w.heap.size w w') : Below B w0 w' := h.trans (k.mono (Nat.le_trans hB h.size))
theorem sum_tab (A : Option Addr) (n c B : Nat) (bs : List Nat) (v : Int) (w : World) (hs : Rds w B A n (cells8 bs)) (hlt : lt256 bs) (hn : n ≤ maxLen) (hv : (sumN ent bs : Int) = v) :
    Calls Try.prog 7 #[.agg (tabOf ent), .slice A n c] w fun e w' => e = .returned (.int .u32 v) ∧ Below w.heap.size w w' := by
  subst hv
  exact sum_any ent tab_ent A n c B bs w hs hlt hn
theorem crcc_keep {wc w : World} {g : Nat} {s : ByteArray} {c : Int} (h : Hid (Blk wc g 23 #[.string s, .int .u32 c])) (hb : Below wc.heap.size wc w) :
    Below wc.heap.size wc w ∧ w.cell? ⟨g, 0, none⟩ = some (.string s) ∧ w.cell? ⟨g, 1, none⟩ = some (.int .u32 c) := by
  have h' := h.out.below hb h.out.lt
  exact ⟨hb, h'.cell 0, h'.cell 1⟩

set_option maxHeartbeats 4000000 in
set_option maxRecDepth 100000 in
theorem cforms_walk (a0 : Int) (j : Nat) (hj : j < 5) (w : World) (hand : bits .and .i64 a0 255 = (a0 % 256)) (hrem : (a0 % 256).tmod 5 = (j : Int)) :
    Calls Try.prog 3 #[.int .i64 a0] w fun e w' => e = .returned (.bool true) ∧ Below w.heap.size w w' := by
  go_enter Try.func3, Try.ntmps3
  go_upto_region 2 with fail
  go_cut [4] (fun s4 wc => CrccCut w wc s4)
  case first =>
    have h0 : 0 ≤ a0 % 256 := Int.emod_nonneg _ (by decide)
    have hj' : j = 0 ∨ j = 1 ∨ j = 2 ∨ j = 3 ∨ j = 4 := by omega
    clear hj
    rcases hj' with rfl | rfl | rfl | rfl | rfl
    all_goals
      go_wp2_with fail
      go_meet
    · case rel => exact crcc_mk w _ [] 0 _ _ (by decide) rfl rfl
    · case rel => exact crcc_mk w _ [97] 3251651376 _ _ (by decide) rfl rfl
    · case rel => exact crcc_mk w _ [49, 50, 51, 52, 53, 54, 55, 56, 57] 3808858755 _ _ (by decide) rfl rfl
    · case rel => exact crcc_mk w _ (List.replicate 32 0) 2324772522 _ _ (by decide) rfl rfl
    · case rel => exact crcc_mk w _ (List.replicate 32 255) 1655221059 _ _ (by decide) rfl rfl
  case rest =>
    obtain ⟨g, bs, c, hin, rfl, hblk, hg, hb⟩ := hcut
    obtain ⟨hlt, hl40, hsum⟩ := crcc_row bs c hin
    obtain ⟨s, hs⟩ : ∃ s, s = strOf bs := ⟨_, rfl⟩
    rw [← hs] at hblk
    have hsz : s.size ≤ maxLen := by rw [hs, strOf_size]; unfold maxLen; omega
    have HB := Lib.hid hblk; have Hb := Lib.hid hb; have Hs := Lib.hid hs; have Hlt := Lib.hid hlt; have Hsum := Lib.hid hsum; have Hsz := Lib.hid hsz
    have cv := cv_run s
    clear hblk hb hs hlt hsum hsz hin hand hrem hg hl40
    go_wp2_with fail
    go_region_held_law (fun w' => Below wc.heap.size wc w' ∧ w'.cell? ⟨g, 0, none⟩ = some (.string s) ∧ w'.cell? ⟨g, 1, none⟩ = some (.int .u32 (c : Int)))
      ((go_split_ands; refine crcc_keep HB ?_; (repeat' first | (with_reducible assumption) | (with_reducible exact Below.refl _ _) | (with_reducible refine Below.drew ?_) | (with_reducible refine cv_below ?_ (Nat.le_refl _) _) | (with_reducible refine since_trans ?_ (Nat.le_refl _) (by assumption)))))
      (first
        | (go_at_call 8; refine (table_any _).mono ?_; rintro e w1 ⟨rfl, hb1⟩)
        | (go_at_call 7; refine (sum_tab _ _ _ _ bs (c : Int) _ (by (repeat' first | (with_reducible exact cv_rds Hs Hlt _) | (exact (cv_rds Hs Hlt wc.drew).fit) | (with_reducible refine Rds.below ?_ (by assumption)))) Hlt.out Hsz.out Hsum.out).mono ?_; rintro e w2 ⟨rfl, hb2⟩)
        | (go_at_call 9; refine (awake_any _).mono ?_; rintro e w3 ⟨rfl, hb3⟩))
    all_goals
      go_wp2
      go_ret
      go_split_ands
      exact ⟨rfl, since_trans Hb.out (Nat.le_refl _) (by assumption)⟩
end Go.Proofs.Ytdecjmkpmpbdcaa

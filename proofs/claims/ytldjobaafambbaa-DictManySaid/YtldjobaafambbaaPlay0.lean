/- Two readers of one row of bytes: the project's, and the document's own. -/
import Derived.Test.YtldjobaafambbaaRefr
namespace Go.Proofs.Ytldjobaafambbaa
open Go.RowKit

structure RS (w0 w : World) (g rg h rh : Nat) (bs : List Nat) (R rem : Nat) (ok : Bool) : Prop where
  rd : Rdr w g rg R rem ok
  rr : RRd w h rh bs R rem ok
  mod : Mod (fun _ => False) w0 w
  hg : w0.heap.size ≤ g
  hh : w0.heap.size ≤ h
  ne : g ≠ h
  ne1 : rg ≠ h
  ne2 : rh ≠ g
  small : rem ≤ 8000000
theorem Rdr.rerow {w : World} {g row row2 R : Nat} {ok : Bool} (h : Rdr w g row R 0 ok) (hne : row2 ≠ g) : Rdr w g row2 R 0 ok := by
  obtain ⟨A, n, c, bs, used, hblk, hnc, hs, hne', hlt, hrem, hused, hR, hok⟩ := h
  have hn : n = 0 := by omega
  exact ⟨A, n, c, bs, used, hblk, hnc, ⟨hs.1, fun h => by omega⟩, hne, hlt, hrem, hused, hR, hok⟩
theorem Rdr.row_real {w : World} {g row R rem : Nat} {ok : Bool} (h : Rdr w g row R rem ok) (hr : 0 < rem) : row < w.heap.size := by
  obtain ⟨A, n, c, bs, used, hblk, hnc, hs, hne', hlt, hrem, hused, hR, hok⟩ := h
  obtain ⟨o, _, h1, _⟩ := hs.2 (by omega)
  exact h1
section
variable {w0 w w' : World} {g rg h rh : Nat} {bs : List Nat} {R rem R' rem' : Nat} {ok ok' : Bool}
theorem RS.new (s : RS w0 w g rg h rh bs R rem ok) (hm : Mod (fun _ => False) w w') : RS w0 w' g rg h rh bs R rem ok :=
  ⟨s.rd.mod hm (fun h => h) (fun _ h => h), s.rr.mod hm (fun h => h) (fun _ h => h), s.mod.trans hm (fun _ _ h => h), s.hg, s.hh, s.ne, s.ne1, s.ne2, s.small⟩
/-- What one Get does to both. -/
def GetAns (R rem : Nat) (ok : Bool) (k : Nat) : Nat × Nat × Nat × Bool := if ok = true ∧ k ≤ rem then (R / 2 ^ (rem - k), R % 2 ^ (rem - k), rem - k, true) else (0, 0, 0, false)
theorem ans_yes {R rem k : Nat} (h : k ≤ rem) : GetAns R rem true k = (R / 2 ^ (rem - k), R % 2 ^ (rem - k), rem - k, true) := by unfold GetAns; rw [if_pos ⟨rfl, h⟩]
theorem ans_no {R rem k : Nat} {ok : Bool} (h : ¬ (ok = true ∧ k ≤ rem)) : GetAns R rem ok k = (0, 0, 0, false) := by unfold GetAns; rw [if_neg h]

theorem get_ans (n : Int) (k : Nat) (hn : FitI n) (hk : max 0 (min n 64) = (k : Int)) (hr : Rdr w g rg R rem ok) (hm : rem ≤ 8000000) :
    Calls Try.prog 33 #[.pointer (some ⟨g, 0, none⟩), .int .i64 n] w fun e w' => e = .returned (.int .u64 ((GetAns R rem ok k).1 : Int)) ∧ Rdr w' g rg (GetAns R rem ok k).2.1 (GetAns R rem ok k).2.2.1 (GetAns R rem ok k).2.2.2 ∧ Mod (fun i => i = g) w w' := by
  by_cases h1 : ok = true ∧ k ≤ rem
  · obtain ⟨rfl, h2⟩ := h1
    rw [ans_yes h2]
    exact get_any g rg R rem k true n w hn hk hr hr.small h2 (by omega)
  · rw [ans_no h1]
    by_cases h2 : k ≤ rem
    · have hok : ok = false := by
        cases ok with
        | false => rfl
        | true => exact absurd ⟨rfl, h2⟩ h1
      subst hok
      have h0 : rem = 0 := by obtain ⟨A, n', c, bs', used, _, _, _, _, _, _, _, _, hok⟩ := hr; exact hok rfl
      subst h0
      have hk0 : k = 0 := by omega
      subst hk0
      have hR : R = 0 := by have := hr.small; omega
      subst hR
      exact get_any g rg 0 0 0 false n w hn hk hr hr.small (Nat.le_refl _) (by omega)
    · exact get_many g rg R rem k ok n w hn hk hr h2 (by omega)
theorem rget_ans (n : Int) (k : Nat) (hk : max 0 (min n 64) = (k : Int)) (hr : RRd w h rh bs R rem ok) :
    Calls Try.prog 41 #[.pointer (some ⟨h, 0, none⟩), .int .i64 n] w fun e w' => e = .returned (.int .u64 ((GetAns R rem ok k).1 : Int)) ∧ RRd w' h rh bs (GetAns R rem ok k).2.1 (GetAns R rem ok k).2.2.1 (GetAns R rem ok k).2.2.2 ∧ Mod (fun i => i = h) w w' := by
  by_cases h1 : ok = true ∧ k ≤ rem
  · obtain ⟨rfl, h2⟩ := h1
    rw [ans_yes h2]
    exact rget_any h rh R rem k bs n w hk hr h2
  · rw [ans_no h1]
    exact rget_many h rh R rem k bs ok n w hk hr (fun e h2 => h1 ⟨e, h2⟩)
theorem ans_le (R rem : Nat) (ok : Bool) (k : Nat) : (GetAns R rem ok k).2.2.1 ≤ rem := by
  unfold GetAns
  split
  · exact Nat.sub_le _ _
  · exact Nat.zero_le _
theorem RRd.flag (hr : RRd w h rh bs R rem ok) : w.cell? ⟨h, 2, none⟩ = some (.bool (!ok)) := by
  obtain ⟨A, n, c, a, hblk, _⟩ := hr
  have := hblk.cell 2
  simpa using this
/-- Behind both Gets. -/
theorem RS.both {w1 w2 : World} (s : RS w0 w g rg h rh bs R rem ok) (h1 : Rdr w1 g rg R' rem' ok') (hm1 : Mod (fun i => i = g) w w1) (h2 : RRd w2 h rh bs R' rem' ok') (hm2 : Mod (fun i => i = h) w1 w2) (hle : rem' ≤ rem) : RS w0 w2 g rg h rh bs R' rem' ok' :=
  ⟨h1.mod hm2 (fun e => s.ne e) (fun _ e => s.ne1 e), h2, (s.mod.trans hm1 (fun i hi e => by have := s.hg; omega)).trans hm2 (fun i hi e => by have := s.hh; omega), s.hg, s.hh, s.ne, s.ne1, s.ne2, Nat.le_trans hle s.small⟩

/-- Behind the first Get, ahead of the other's. -/
structure RMid (w0 w : World) (g rg h rh : Nat) (bs : List Nat) (R rem : Nat) (ok : Bool) (R' rem' : Nat) (ok' : Bool) : Prop where
  rd : Rdr w g rg R' rem' ok'
  rr : RRd w h rh bs R rem ok
  mod : Mod (fun _ => False) w0 w
  hg : w0.heap.size ≤ g
  hh : w0.heap.size ≤ h
  ne : g ≠ h
  ne1 : rg ≠ h
  ne2 : rh ≠ g
  small : rem' ≤ 8000000
theorem RS.get (s : RS w0 w g rg h rh bs R rem ok) (n : Int) (k : Nat) (hn : FitI n) (hk : max 0 (min n 64) = (k : Int)) :
    Calls Try.prog 33 #[.pointer (some ⟨g, 0, none⟩), .int .i64 n] w fun e w' => e = .returned (.int .u64 ((GetAns R rem ok k).1 : Int)) ∧ RMid w0 w' g rg h rh bs R rem ok (GetAns R rem ok k).2.1 (GetAns R rem ok k).2.2.1 (GetAns R rem ok k).2.2.2 := by
  refine (get_ans n k hn hk s.rd s.small).mono ?_
  rintro e w' ⟨he, h1, hm⟩
  exact ⟨he, h1, s.rr.mod hm (fun e => s.ne e.symm) (fun _ e => s.ne2 e), s.mod.trans hm (fun i hi e => by have := s.hg; omega), s.hg, s.hh, s.ne, s.ne1, s.ne2, Nat.le_trans (ans_le _ _ _ _) s.small⟩
theorem RMid.get {k : Nat} (s : RMid w0 w g rg h rh bs R rem ok (GetAns R rem ok k).2.1 (GetAns R rem ok k).2.2.1 (GetAns R rem ok k).2.2.2) (n : Int) (hk : max 0 (min n 64) = (k : Int)) :
    Calls Try.prog 41 #[.pointer (some ⟨h, 0, none⟩), .int .i64 n] w fun e w' => e = .returned (.int .u64 ((GetAns R rem ok k).1 : Int)) ∧
      RS w0 w' g rg h rh bs (GetAns R rem ok k).2.1 (GetAns R rem ok k).2.2.1 (GetAns R rem ok k).2.2.2 ∧ w'.cell? ⟨h, 2, none⟩ = some (.bool (!(GetAns R rem ok k).2.2.2)) := by
  refine (rget_ans n k hk s.rr).mono ?_
  rintro e w' ⟨he, h2, hm⟩
  exact ⟨he, ⟨s.rd.mod hm (fun e => s.ne e) (fun _ e => s.ne1 e), h2, s.mod.trans hm (fun i hi e => by have := s.hh; omega), s.hg, s.hh, s.ne, s.ne1, s.ne2, s.small⟩, h2.flag⟩
theorem RS.left (s : RS w0 w g rg h rh bs R rem ok) :
    Calls Try.prog 32 #[.pointer (some ⟨g, 0, none⟩)] w fun e w' => e = .returned (.int .i64 (rem : Int)) ∧ RS w0 w' g rg h rh bs R rem ok ∧ w'.cell? ⟨h, 2, none⟩ = some (.bool (!ok)) :=
  (left_ab g rg R rem ok w s.rd (by have := s.small; omega)).mono fun _ _ ⟨he, hm⟩ => ⟨he, s.new hm, (s.new hm).rr.flag⟩
theorem RS.rleft (s : RS w0 w g rg h rh bs R rem ok) :
    Calls Try.prog 46 #[.pointer (some ⟨h, 0, none⟩)] w fun e w' => e = .returned (.int .i64 (rem : Int)) ∧ RS w0 w' g rg h rh bs R rem ok ∧ w'.cell? ⟨h, 2, none⟩ = some (.bool (!ok)) :=
  (rleft_ab h rh R rem bs ok w s.rr).mono fun _ _ ⟨he, hm⟩ => ⟨he, s.new hm, (s.new hm).rr.flag⟩
end
theorem RS.start {w0 wr w5 : World} {g rg R row n c : Nat} {A : Option Addr} {cs : List Nat} (hm : Mod (fun _ => False) w0 wr) (hm5 : Mod (fun _ => False) wr w5) (hg : wr.heap.size ≤ g) (hrd : Rdr w5 g rg R (8 * n) true) (hR : R = val cs) (hs : Sees wr row A n (cells8 cs))
    (hlt : lt256 cs) (hn : n ≤ 1000) :
    ∃ rg' rh, RS w0 (w5.alloc (.cells #[.slice A n c, .int .i64 0, .bool false] 78)) g rg' w5.heap.size rh cs (val cs) (8 * n) true := by
  subst hR
  have hma : Mod (fun _ => False) w5 (w5.alloc (.cells #[.slice A n c, .int .i64 0, .bool false] 78)) := (Mod.refl _ _).alloc _
  have hgl := hrd.lt
  have hval : val cs = val cs % 2 ^ (8 * n) := by
    have h1 := val_lt hlt
    have h2 := hs.1
    rw [cells8_length] at h2
    rw [h2] at h1
    exact (Nat.mod_eq_of_lt h1).symm
  have hs5 := (hs.mod hm5 (fun _ h => h)).mod hma (fun _ h => h)
  have hsz := hm.size
  have hsz5 := hm5.size
  have hmod := (hm.trans hm5 (fun _ _ h => h)).trans hma (fun _ _ h => h)
  rcases Nat.eq_zero_or_pos n with h0 | h0
  · subst h0
    refine ⟨g + w5.heap.size + 1, g + w5.heap.size + 1, (hrd.rerow (by omega)).mod hma (fun h => h) (fun _ h => h), ⟨A, 0, c, 0, Blk.new _ _ _, ⟨hs.1, fun h => by omega⟩, by omega, by omega, by omega, hlt, fun _ => ⟨rfl, hval⟩, fun h => by cases h⟩, hmod, by omega, by omega, by omega, by omega, by omega, by omega⟩
  · obtain ⟨o, _, hrl, _⟩ := hs.2 h0
    have hrgl := hrd.row_real (by omega)
    refine ⟨rg, row, hrd.mod hma (fun h => h) (fun _ h => h), ⟨A, n, c, 0, Blk.new _ _ _, hs5, by omega, by omega, by omega, hlt, fun _ => ⟨by omega, hval⟩, fun h => by cases h⟩, hmod, by omega, by omega, by omega, by omega, by omega, by omega⟩
end Go.Proofs.Ytldjobaafambbaa

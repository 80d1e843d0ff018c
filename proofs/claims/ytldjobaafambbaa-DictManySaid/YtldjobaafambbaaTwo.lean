/- Two writers that share nothing. -/
import Derived.Test.YtldjobaafambbaaBitw
namespace Go.Proofs.Ytldjobaafambbaa
open Go.RowKit

theorem left_ab (g row R rem : Nat) (ok : Bool) (w : World) (h : Rdr w g row R rem ok) (hm : rem ≤ 8000000000) :
    Calls Try.prog 32 #[.pointer (some ⟨g, 0, none⟩)] w fun e w' => e = .returned (.int .i64 (rem : Int)) ∧ Mod (fun _ => False) w w' :=
  (left_any g row R rem ok w h hm).mono fun _ _ ⟨h1, n, h2⟩ => ⟨h1, h2 ▸ (Mod.refl _ _).drewN n⟩

def Apart (g : Nat) (row : Option Nat) (g2 : Nat) (row2 : Option Nat) : Prop := g ≠ g2 ∧ row ≠ some g2 ∧ row2 ≠ some g ∧ ∀ k, row = some k → row2 ≠ some k
theorem Apart.symm {g g2 : Nat} {row row2 : Option Nat} (h : Apart g row g2 row2) : Apart g2 row2 g row := ⟨fun e => h.1 e.symm, h.2.2.1, h.2.1, fun k hk e => h.2.2.2 k e hk⟩
theorem Wr.other {w w' : World} {g g2 N2 len2 : Nat} {row row2 : Option Nat} (h2 : Wr w g2 row2 N2 len2) (hm : Mod (fun i => i = g ∨ row = some i) w w') (hd : Apart g row g2 row2) : Wr w' g2 row2 N2 len2 :=
  h2.mod hm (fun h => h.elim (fun e => hd.1 e.symm) (fun e => hd.2.1 e)) (fun k hk h => h.elim (fun e => hd.2.2.1 (e ▸ hk)) (fun e => hd.2.2.2 k e hk))
theorem Apart.to {w : World} {g g2 N2 len2 : Nat} {row row' row2 : Option Nat} (h : Apart g row g2 row2) (hr : RowTo w row row') (h2 : Wr w g2 row2 N2 len2) : Apart g row' g2 row2 := by
  rcases hr with rfl | ⟨r, rfl, hr⟩
  · exact h
  · refine ⟨h.1, ?_, h.2.2.1, ?_⟩
    · intro e; injection e with e; have := h2.lt; omega
    · intro k hk e; injection hk with hk; have := h2.row_lt k e; omega

/-- A number in two parts, the higher one first. -/
theorem split_num (N v n at' : Nat) (h : at' ≤ n) : (N * 2 ^ at' + v / 2 ^ (n - at') % 2 ^ at') * 2 ^ (n - at') + v % 2 ^ (n - at') = N * 2 ^ n + v % 2 ^ n := by
  have e : (2 : Nat) ^ n = 2 ^ at' * 2 ^ (n - at') := by rw [← Nat.pow_add]; congr 1; omega
  rw [Nat.add_mul, Nat.mul_assoc, ← e, Nat.add_assoc]
  congr 1
  rw [e, Nat.mul_comm (2 ^ at'), Nat.mod_mul, Nat.mul_comm, Nat.add_comm]

theorem packed_one {bs bs' : List Nat} {N len : Nat} (h : Packed bs N len) (h' : Packed bs' N len) : bs' = bs := by
  obtain ⟨h1, f, hf, hl, hv⟩ := h
  obtain ⟨h1', f', hf', hl', hv'⟩ := h'
  have e : f' = f := by omega
  subst e
  exact val_inj bs.length bs' bs (by omega) rfl h1' h1 (by rw [hv, hv'])
theorem packed_len {bs : List Nat} {N len : Nat} (h : Packed bs N len) : bs.length = (len + 7) / 8 := by
  obtain ⟨h1, f, hf, hl, hv⟩ := h
  omega

section
variable {w w1 : World} {row n : Nat} {A : Option Addr} {xs : List Value}
theorem Sees.mod' {S : Nat → Prop} (h : Sees w row A n xs) (hm : Mod S w w1) (hn : 0 < n → ¬ S row) : Sees w1 row A n xs :=
  ⟨h.1, fun h0 => by
    obtain ⟨o, e, hl, hc⟩ := h.2 h0
    exact ⟨o, e, Nat.lt_of_lt_of_le hl hm.size, fun j u hu => (hm.cell hl (hn h0)).trans (hc j u hu)⟩⟩
end
theorem RowTo.low {B : Nat} {w : World} {row row' : Option Nat} (h : RowTo w row row') (hr : ∀ k, row = some k → B ≤ k) (hB : B ≤ w.heap.size) : ∀ k, row' = some k → B ≤ k := by
  intro k hk
  rcases h with rfl | ⟨r, rfl, hr'⟩
  · exact hr k hk
  · injection hk with hk; omega

/-- The call's own blocks alone have turned, a writer's that it made among them. -/
theorem Mod.put {w w' w0 : World} {g : Nat} {row : Option Nat} (h : Mod (fun _ => False) w0 w) (hm : Mod (fun i => i = g ∨ row = some i) w w') (hg : w0.heap.size ≤ g) (hr : ∀ k, row = some k → w0.heap.size ≤ k) : Mod (fun _ => False) w0 w' :=
  h.trans hm (fun i hi h => h.elim (fun e => by omega) (fun e => by have := hr i e; omega))
/-- Two writers of the call's own, beside nothing that was there. -/
structure St2 (w0 w : World) (a : Nat) (ra : Option Nat) (Na la b : Nat) (rb : Option Nat) (Nb lb : Nat) : Prop where
  wa : Wr w a ra Na la
  wb : Wr w b rb Nb lb
  apart : Apart a ra b rb
  mod : Mod (fun _ => False) w0 w
  ha : w0.heap.size ≤ a
  hb : w0.heap.size ≤ b
  hra : ∀ k, ra = some k → w0.heap.size ≤ k
  hrb : ∀ k, rb = some k → w0.heap.size ≤ k
section
variable {w0 w w' : World} {a Na la b Nb lb : Nat} {ra rb : Option Nat}
theorem St2.symm (h : St2 w0 w a ra Na la b rb Nb lb) : St2 w0 w b rb Nb lb a ra Na la := ⟨h.wb, h.wa, h.apart.symm, h.mod, h.hb, h.ha, h.hrb, h.hra⟩
theorem St2.put {ra' : Option Nat} {Na' la' : Nat} (h : St2 w0 w a ra Na la b rb Nb lb) (hw : Wr w' a ra' Na' la') (hm : Mod (fun i => i = a ∨ ra = some i) w w') (hr : RowTo w ra ra') : St2 w0 w' a ra' Na' la' b rb Nb lb :=
  ⟨hw, h.wb.other hm h.apart, h.apart.to hr h.wb, h.mod.trans hm (fun i hi e => e.elim (fun e => by have := h.ha; omega) (fun e => by have := h.hra i e; omega)), h.ha, h.hb, hr.low h.hra h.mod.size, h.hrb⟩
theorem St2.step {S : Nat → Prop} (h : St2 w0 w a ra Na la b rb Nb lb) (hm : Mod S w w') (hs : ∀ i, i < w.heap.size → S i → w0.heap.size ≤ i ∧ i ≠ a ∧ i ≠ b ∧ ra ≠ some i ∧ rb ≠ some i) : St2 w0 w' a ra Na la b rb Nb lb :=
  ⟨h.wa.mod hm (fun e => (hs a h.wa.lt e).2.1 rfl) (fun k hk e => (hs k (h.wa.row_lt k hk) e).2.2.2.1 hk), h.wb.mod hm (fun e => (hs b h.wb.lt e).2.2.1 rfl) (fun k hk e => (hs k (h.wb.row_lt k hk) e).2.2.2.2 hk), h.apart,
    h.mod.trans hm (fun i hi e => by have := (hs i (Nat.lt_of_lt_of_le hi h.mod.size) e).1; omega), h.ha, h.hb, h.hra, h.hrb⟩
theorem St2.new (h : St2 w0 w a ra Na la b rb Nb lb) (hm : Mod (fun _ => False) w w') : St2 w0 w' a ra Na la b rb Nb lb := h.step hm (fun _ _ e => e.elim)
theorem St2.begin {a b : Nat} {w1 w2 : World} (ha : w0.heap.size ≤ a) (ha2 : a < w1.heap.size) (hwa : Wr w1 a none 0 0) (hm1 : Mod (fun _ => False) w0 w1) (hb : w1.heap.size ≤ b) (hwb : Wr w2 b none 0 0) (hm2 : Mod (fun _ => False) w1 w2) : St2 w0 w2 a none 0 0 b none 0 0 :=
  ⟨hwa.mod hm2 (fun h => h) (fun _ _ h => h), hwb, ⟨by omega, by simp, by simp, by simp⟩, hm1.trans hm2 (fun _ _ h => h), ha, by have := hm1.size; omega, by simp, by simp⟩
end
end Go.Proofs.Ytldjobaafambbaa

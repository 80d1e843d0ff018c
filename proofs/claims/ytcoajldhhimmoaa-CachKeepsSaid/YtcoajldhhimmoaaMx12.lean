/- The texts Ycc, one behind the other. -/
import Derived.Test.YtcoajldhhimmoaaMx1
import Derived.Test.YtcoajldhhimmoaaMx3
/- The cache's scripts: one page dropped again (CachDrops); one page pinned while others come (CachKeeps). -/
namespace Go.Proofs.Ytcoajldhhimmoaa

theorem find_one (k : KeyN) (a : Int) (b c : Bool) (d : Int) : findK k [⟨k, a, b, c, d⟩] = some 0 := by
  unfold findK
  simp
theorem find_other {k j : KeyN} (h : k ≠ j) (a : Int) (b c : Bool) (d : Int) : findK j [⟨k, a, b, c, d⟩] = none := by
  unfold findK
  simp [h]
/-- A clock of three with one page. -/
def oneK (k : KeyN) (n : Int) : ClkN := ⟨3, 1, [⟨k, 2, false, true, n⟩], 0, 0, 0⟩
theorem one_admit (k : KeyN) : admitK (newK 3) k = (oneK k 0, [], true) := rfl
theorem one_pin (k : KeyN) : pinK (oneK k 0) k 1 = (oneK k 1, true) := by
  unfold pinK
  have h : findK k (oneK k 0).ps = some 0 := find_one ..
  rw [h]
  rfl
theorem one_unpin (k : KeyN) : pinK (oneK k 1) k (-1) = (oneK k 0, true) := by
  unfold pinK
  have h : findK k (oneK k 1).ps = some 0 := find_one ..
  rw [h]
  rfl
theorem one_res (k : KeyN) (n : Int) : resAt (oneK k n) k = true := by
  unfold resAt
  have h : findK k (oneK k n).ps = some 0 := find_one ..
  rw [h]
  rfl
theorem one_pins (k : KeyN) (n : Int) : pinsC (oneK k n) k = n := by
  unfold pinsC
  have h : findK k (oneK k n).ps = some 0 := find_one ..
  rw [h]
  rfl
theorem one_drop (k : KeyN) : dropK (oneK k 0) k = (newK 3, true) := by
  unfold dropK
  have h : findK k (oneK k 0).ps = some 0 := find_one ..
  rw [h]
  rfl
theorem one_other {k j : KeyN} (h : k ≠ j) (n m : Int) : findK j (oneK k n).ps = none ∧ resAt (oneK k n) j = false ∧ pinK (oneK k n) j m = (oneK k n, false) := by
  have h1 : findK j (oneK k n).ps = none := find_other h ..
  refine ⟨h1, ?_, ?_⟩
  · unfold resAt; rw [h1]
  · unfold pinK; rw [h1]
theorem none_touch (most : Int) (k : KeyN) : touchK (newK most) k = (newK most, false) := rfl
/-- k is there with one pin and the samples s; nobody else has a pin. -/
structure KeepC (c : CacN) (k : KeyN) (s : List (Int × Nat)) : Prop where
  good : GoodC c
  here : (k, (1 : Int)) ∈ resL c.clk.ps
  others : ∀ x ∈ resL c.clk.ps, x.1 ≠ k → x.2 = 0
  sam : c.sam k = some s
section
variable {c : CacN} {k x : KeyN} {s l : List (Int × Nat)}
theorem KeepC.frames (h : KeepC c k s) : 1 ≤ framesC c ∧ (framesC c : Int) ≤ c.clk.most := by
  refine ⟨?_, h.good.clk.room⟩
  show 1 ≤ cntK 1 c.clk.ps + cntK 2 c.clk.ps
  rw [← res_len h.good.clk.base.pgs.1]
  exact List.length_pos_iff.2 (fun e => by have := h.here; rw [e] at this; cases this)
/-- Refused is who comes where one alone may be resident. -/
theorem KeepC.refused (h : KeepC c k s) (e : (putC c x l).2 = false) : c.clk.most = 1 ∧ x ≠ k := by
  obtain ⟨h1, h2, h3⟩ := put_no h.good e
  rw [free_res, List.any_eq_false] at h2
  have hall : ∀ y ∈ resL c.clk.ps, y = (k, 1) := fun y hy => by
    by_cases hk : y.1 = k
    · have hd := res_nodup h.good.clk.base.pgs.2
      obtain ⟨i, p, hf, hp, _, hpn⟩ := res_found h.good.clk hy
      obtain ⟨i', p', hf', hp', _, hpn'⟩ := res_found h.good.clk h.here
      simp only at hf' hpn'
      rw [hk, hf'] at hf
      injection hf with hf
      subst hf
      rw [hp] at hp'
      injection hp' with hp'
      subst hp'
      obtain ⟨y1, y2⟩ := y
      simp only at hk hpn
      rw [hk, ← hpn, hpn']
    · have h0 := h.others y hy hk
      have := h2 y hy
      rw [h0] at this
      exact absurd rfl this
  have hl : (resL c.clk.ps).length = 1 := by
    have hd := res_dup h.good.clk
    cases hr : resL c.clk.ps with
    | nil => have := h.here; rw [hr] at this; cases this
    | cons a t =>
      cases t with
      | nil => rfl
      | cons b t =>
        rw [hr] at hd hall
        have e1 := hall a (List.mem_cons_self ..)
        have e2 := hall b (List.mem_cons_of_mem _ (List.mem_cons_self ..))
        rw [e1, e2] at hd
        exact absurd (List.mem_cons_self ..) (List.nodup_cons.1 hd).1
  refine ⟨?_, fun e => ?_⟩
  · rw [← h1]
    show ((cntK 1 c.clk.ps + cntK 2 c.clk.ps : Nat) : Int) = 1
    rw [← res_len h.good.clk.base.pgs.1, hl]
    rfl
  · rw [e] at h3
    have := (resAt_res h.good.clk.base k).2 ⟨1, h.here⟩
    rw [this] at h3
    cases h3
theorem KeepC.put (h : KeepC c k s) : KeepC (putC c x l).1 k (if x = k then l else s) := by
  obtain ⟨g1, g2, g3⟩ := put_good h.good x l
  cases e : (putC c x l).2 with
  | false =>
    obtain ⟨_, hx⟩ := h.refused e
    rw [g3 e, if_neg hx]
    exact h
  | true =>
    obtain ⟨e1, hc, hs⟩ := put_yes h.good e
    refine ⟨g1, hc.pinned _ h.here (by show (1 : Int) ≠ 0; decide), fun y hy hk => ?_, ?_⟩
    · rcases hc.from_ y hy with h1 | h1
      · exact h.others y h1 hk
      · rw [h1]
    · by_cases hx : x = k
      · rw [if_pos hx, ← hx]
        exact hs
      · rw [if_neg hx, (put_keeps h.good h.here (by decide) (fun e => hx e.symm)).2]
        exact h.sam
theorem KeepC.get (h : KeepC c k s) : KeepC (getC c x).1 k s := by
  obtain ⟨g1, _, g3, g4, _⟩ := get_good h.good x
  exact ⟨g1, by rw [g4]; exact h.here, by rw [g4]; exact h.others, by rw [g3]; exact h.sam⟩
theorem KeepC.got (h : KeepC c k s) : (getC c k).2 = some s := by rw [(get_good h.good k).2.2.2.2, h.sam]
/-- It loses its pin, and is dropped. -/
theorem KeepC.ends (h : KeepC c k s) : (unpinC c k).2 = true ∧ GoodC (unpinC c k).1 ∧ (dropC (unpinC c k).1 k).2 = true := by
  have hr := (resAt_res h.good.clk.base k).2 ⟨1, h.here⟩
  have hp := pins_res h.good.clk h.here
  have eu : unpinC c k = ({ c with clk := (pinK c.clk k (-1)).1 }, true) := by
    unfold unpinC
    rw [if_pos ⟨hr, by rw [hp]; decide⟩]
  have hg := pinC_good h.good k (-1)
  obtain ⟨L1, L2, _, e2, _, _⟩ := pin_split h.good.clk h.here (-1)
  have h0 : (k, (0 : Int)) ∈ resL (pinK c.clk k (-1)).1.ps := by rw [e2]; exact List.mem_append_right _ (List.mem_cons_self ..)
  rw [eu]
  refine ⟨rfl, hg, ?_⟩
  obtain ⟨i, p, hf, _⟩ := res_found hg.clk h0
  unfold dropC
  rw [if_pos ⟨by show (findK k (pinK c.clk k (-1)).1.ps).isSome = true; rw [hf]; rfl, pins_res hg.clk h0⟩]
end
theorem keep_new (most : Int) (k : KeyN) (l : List (Int × Nat)) : (putC (newC most) k l).2 = true ∧ (pinC (putC (newC most) k l).1 k).2 = true ∧ KeepC (pinC (putC (newC most) k l).1 k).1 k l := by
  have ha := allOne_new most
  have hmost : (newK most).most = min (max most 1) 1000 := rfl
  obtain ⟨f1, f2, _, _, f5, f6, _, f8⟩ := fill_one (k := k) (good_new most) ha (fun h => h) (by rw [hmost]; omega)
  have hy : (putC (newC most) k l).2 = true := by
    unfold putC
    rw [if_pos (show (admitK (newC most).clk k).2.2 = true from f1)]
  obtain ⟨e1, hc, hs⟩ := put_yes (goodC_new most) hy
  have hclk : (putC (newC most) k l).1.clk = (admitK (newK most) k).1 := by rw [e1]; rfl
  refine ⟨hy, by show (pinK (putC (newC most) k l).1.clk k 1).2 = true; rw [hclk]; exact f5, pinC_good (put_good (goodC_new most) k l).1 k 1, ?_, fun x hx hk => ?_, hs⟩
  · show (k, (1 : Int)) ∈ resL (pinK (putC (newC most) k l).1.clk k 1).1.ps
    rw [hclk]
    exact (f8.mem _).2 ⟨.inr rfl, rfl⟩
  · have hx : x ∈ resL (pinK (putC (newC most) k l).1.clk k 1).1.ps := hx
    rw [hclk] at hx
    rcases ((f8.mem x).1 hx).1 with h1 | h1
    · exact h1.elim
    · exact absurd h1 hk
end Go.Proofs.Ytcoajldhhimmoaa

/- A run is read: get; it is held against what was read: fits. -/
import Derived.Test.YtomdphepbihmcaaLf
import Derived.Test.YtomdphepbihmcaaVg
import Derived.Test.YtomdphepbihmcaaMn
namespace Go.Proofs.Ytomdphepbihmcaa
open Go.RowKit

/-- What get answers: the count, the value, how many bytes. -/
def runP (bs : List Nat) : Nat × Nat × Nat :=
  if (dec bs).2 = 0 ∨ (dec (bs.drop (dec bs).2)).2 = 0 then (0, 0, 0) else ((dec bs).1, (dec (bs.drop (dec bs).2)).1, (dec bs).2 + (dec (bs.drop (dec bs).2)).2)
theorem dec_le_len {bs : List Nat} (hlt : lt256 bs) : (dec bs).2 ≤ bs.length := by
  rcases Nat.eq_zero_or_pos (dec bs).2 with h | h
  · omega
  · exact (dec_some hlt h).1
set_option maxHeartbeats 1000000 in
set_option maxRecDepth 100000 in
theorem lget_any (A : Option Addr) (n c B : Nat) (bs : List Nat) (w : World) (hs : Rds w B A n (cells8 bs)) (hB : B ≤ w.heap.size) (hlt : lt256 bs) (hnc : n ≤ c) (hc : c ≤ maxLen) :
    Calls Try.prog 13 #[.slice A n c] w fun e w' => e = .returned (.tuple #[.agg #[.int .u64 ((runP bs).1 : Int), .int .u64 ((runP bs).2.1 : Int)], .int .i64 ((runP bs).2.2 : Int)]) ∧ Mod (fun _ => False) w w' := by
  have hlen : bs.length = n := by have := hs.1; rwa [cells8_length] at this
  obtain ⟨W, hW⟩ : ∃ W, W = w.alloc (.cells #[.int .u64 0, .int .u64 0] 39) := ⟨_, rfl⟩
  have hmW : Mod (fun _ => False) w W := by rw [hW]; exact (Mod.refl _ _).alloc _
  have hbW : Blk W w.heap.size 39 #[.int .u64 0, .int .u64 0] := by rw [hW]; exact Blk.new _ _ _
  obtain ⟨K, hK⟩ : ∃ K, K = (dec bs).1 := ⟨_, rfl⟩
  obtain ⟨p, hp⟩ : ∃ p, p = (dec bs).2 := ⟨_, rfl⟩
  obtain ⟨V, hV⟩ : ∃ V, V = (dec (bs.drop p)).1 := ⟨_, rfl⟩
  obtain ⟨q, hq⟩ : ∃ q, q = (dec (bs.drop p)).2 := ⟨_, rfl⟩
  have hpn : p ≤ n := by rw [hp, ← hlen]; exact dec_le_len hlt
  have hp10 : p ≤ 10 := by rw [hp]; exact dec_le _
  have hq10 : q ≤ 10 := by rw [hq]; exact dec_le _
  have hrun : runP bs = if p = 0 ∨ q = 0 then (0, 0, 0) else (K, V, p + q) := by unfold runP; rw [hV, hq, hK, hp]
  have hsW := hs.mod hmW hB (fun _ _ h => h)
  have hcall := vget_any A n c B bs W hsW hlt hnc hc
  rw [← hK, ← hp] at hcall
  have hd := hsW.drop hpn hnc
  have hlt2 : lt256 (bs.drop p) := fun b hb => hlt b (List.mem_of_mem_drop hb)
  have hcd : (cells8 bs).drop p = cells8 (bs.drop p) := by simp [cells8, List.map_drop]
  rw [hcd] at hd
  have hcall2 := vget_any _ (n - p) (c - p) B (bs.drop p) W hd hlt2 (by omega) (by omega)
  rw [← hV, ← hq] at hcall2
  have hca : c = p → Calls Try.prog 21 #[.slice A 0 0] W fun e w' => e = .returned (.tuple #[.int .u64 (V : Int), .int .i64 (q : Int)]) ∧ W = w' := fun h => by
    rw [if_pos h, h, Nat.sub_self, show n - p = 0 by omega] at hcall2
    exact hcall2
  have hcb : c ≠ p → Calls Try.prog 21 #[.slice (A.map (·.add p)) (n - p) (c - p)] W fun e w' => e = .returned (.tuple #[.int .u64 (V : Int), .int .i64 (q : Int)]) ∧ W = w' := fun h => by
    rw [if_neg h] at hcall2
    exact hcall2
  have hd0 := hbW.cell 0
  have hd1 := hbW.cell 1
  have hf0 := hbW.frozen 0
  have hf1 := hbW.frozen 1
  simp at hd0 hd1
  have Hcall := Lib.hid hcall; have Hca := Lib.hid hca; have Hcb := Lib.hid hcb; have HW := Lib.hid hW; have HmW := Lib.hid hmW; have HbW := Lib.hid hbW; have Hrun := Lib.hid hrun
  have hpi : (p : Int) ≤ (n : Int) := by omega
  have hp0 : (0 : Int) ≤ (p : Int) := by omega
  have hnci : (n : Int) ≤ (c : Int) := by omega
  have hpci : (p : Int) ≤ (c : Int) := by omega
  clear hs hB hlt hlen hW hmW hbW hK hp hV hq hrun hsW hcall hd hlt2 hcd hcall2 hca hcb
  go_enter Try.func13, Try.ntmps13
  go_wp2_with fail
  rw [← HW.out]
  refine Hcall.out.mono ?_
  rintro e w' ⟨rfl, rfl⟩
  by_cases hcp : p = c
  · have Hc2 := Lib.hid (Hca.out hcp.symm)
    clear Hca Hcb
    subst hcp
    go_wp2_with fail
    refine Hc2.out.mono ?_
    rintro e w' ⟨rfl, rfl⟩
    by_cases hz : p = 0 ∨ q = 0
    · have h0 : runP bs = (0, 0, 0) := by rw [Hrun.out, if_pos hz]
      have hz2 : p = 0 ∨ (p ≠ 0 ∧ q = 0) := by omega
      have H0 := Lib.hid h0
      clear hz h0
      rcases hz2 with h | ⟨h, h'⟩
      all_goals
        go_wp2_with fail
        refine bodyPost_ret (v := .tuple #[.agg #[.int .u64 0, .int .u64 0], .int .i64 0]) (by have h := HbW.out.two (.int .u64 0) (.int .u64 0); simp [results, Try.results13, go_sem, h.1, h.2.1]) rfl ⟨by rw [H0.out]; rfl, ?_⟩
        exact HmW.out.two_new (Nat.le_refl _) _ _
    · have h0 : runP bs = (K, V, p + q) := by rw [Hrun.out, if_neg hz]
      have hp1 : ((p : Int) == 0) = false := by simp; omega
      have hq1 : ((q : Int) == 0) = false := by simp; omega
      have H0 := Lib.hid h0
      clear hz h0
      go_wp2_with fail
      refine bodyPost_ret (v := .tuple #[.agg #[.int .u64 (K : Int), .int .u64 (V : Int)], .int .i64 ((p + q : Nat) : Int)]) (by have h := HbW.out.two (.int .u64 (K : Int)) (.int .u64 (V : Int)); simp [results, Try.results13, go_sem, h.1, h.2.1]) rfl ⟨by rw [H0.out], ?_⟩
      exact HmW.out.two_new (Nat.le_refl _) _ _
  · have Hc2 := Lib.hid (Hcb.out (fun h => hcp h.symm))
    clear Hca Hcb
    go_wp2_with fail
    refine Hc2.out.mono ?_
    rintro e w' ⟨rfl, rfl⟩
    by_cases hz : p = 0 ∨ q = 0
    · have h0 : runP bs = (0, 0, 0) := by rw [Hrun.out, if_pos hz]
      have hz2 : p = 0 ∨ (p ≠ 0 ∧ q = 0) := by omega
      have H0 := Lib.hid h0
      clear hz h0
      rcases hz2 with h | ⟨h, h'⟩
      all_goals
        go_wp2_with fail
        refine bodyPost_ret (v := .tuple #[.agg #[.int .u64 0, .int .u64 0], .int .i64 0]) (by have h := HbW.out.two (.int .u64 0) (.int .u64 0); simp [results, Try.results13, go_sem, h.1, h.2.1]) rfl ⟨by rw [H0.out]; rfl, ?_⟩
        exact HmW.out.two_new (Nat.le_refl _) _ _
    · have h0 : runP bs = (K, V, p + q) := by rw [Hrun.out, if_neg hz]
      have hp1 : ((p : Int) == 0) = false := by simp; omega
      have hq1 : ((q : Int) == 0) = false := by simp; omega
      have H0 := Lib.hid h0
      clear hz h0
      go_wp2_with fail
      refine bodyPost_ret (v := .tuple #[.agg #[.int .u64 (K : Int), .int .u64 (V : Int)], .int .i64 ((p + q : Nat) : Int)]) (by have h := HbW.out.two (.int .u64 (K : Int)) (.int .u64 (V : Int)); simp [results, Try.results13, go_sem, h.1, h.2.1]) rfl ⟨by rw [H0.out], ?_⟩
      exact HmW.out.two_new (Nat.le_refl _) _ _
/-- Whether a run may stand behind what was read. -/
def fitsR (out : List Nat) (K V N : Nat) : Bool := decide (¬ (K = 0 ∨ N - out.length < K ∨ out.getLast? = some V))
set_option maxHeartbeats 1000000 in
set_option maxRecDepth 100000 in
theorem lfits_any (A : Option Addr) (L c B K V N : Nat) (out : List Nat) (w : World) (hs : Rds w B A L (cellsU out)) (hB : B ≤ w.heap.size) (hN : N ≤ 65535) (hLN : L ≤ N) (hLc : L ≤ c) :
    Calls Try.prog 14 #[.agg #[.int .u64 (K : Int), .int .u64 (V : Int)], .slice A L c, .int .i64 (N : Int)] w fun e w' => e = .returned (.bool (fitsR out K V N)) ∧ Mod (fun _ => False) w w' := by
  have hol : out.length = L := by have := hs.1; rwa [cellsU_length] at this
  obtain ⟨W, hW⟩ : ∃ W, W = w.alloc (.cells #[.int .u64 (K : Int), .int .u64 (V : Int)] 39) := ⟨_, rfl⟩
  have hmW : Mod (fun _ => False) w W := by rw [hW]; exact (Mod.refl _ _).alloc _
  have hbW : Blk W w.heap.size 39 #[.int .u64 (K : Int), .int .u64 (V : Int)] := by rw [hW]; exact Blk.new _ _ _
  have hd0 := hbW.cell 0
  have hd1 := hbW.cell 1
  simp at hd0 hd1
  obtain ⟨d, hd⟩ : ∃ d, d = N - L := ⟨_, rfl⟩
  have hdi : (N : Int) - (L : Int) = (d : Int) := by omega
  have hwd : IntKind.u64.wrap (d : Int) = (d : Int) := by rw [IntKind.wrap_u64]; omega
  have hfit : fitsR out K V N = decide (¬ (K = 0 ∨ d < K ∨ out.getLast? = some V)) := by unfold fitsR; rw [hol, hd]
  have Hs := Lib.hid (hs.mod hmW hB (fun _ _ h => h)); have Hol := Lib.hid hol; have HW := Lib.hid hW; have HmW := Lib.hid hmW; have Hfit := Lib.hid hfit; have Hd := Lib.hid hd
  have hBW : Hid (B ≤ W.heap.size) := Lib.hid (Nat.le_trans hB hmW.size)
  clear hs hB hol hW hmW hfit hbW hd
  by_cases hK0 : K = 0
  · have hr : fitsR out K V N = false := by rw [Hfit.out]; simp [hK0]
    subst hK0
    have Hr := Lib.hid hr
    clear hr
    go_enter Try.func14, Try.ntmps14
    go_wp2_with (first | (rw [← HW.out]))
    go_ret
    exact ⟨ret_bool (by rw [Hr.out]), (Mod.refl _ _).alloc _⟩
  have hK0b : ((K : Int) == 0) = false := by simp; omega
  have HK0 := Lib.hid hK0
  clear hK0
  by_cases hdK : d < K
  · have hr : fitsR out K V N = false := by rw [Hfit.out]; simp [hdK]
    have hdKi : (d : Int) < (K : Int) := by omega
    have Hr := Lib.hid hr
    clear hr
    go_enter Try.func14, Try.ntmps14
    go_wp2_with (first | (rw [← HW.out]))
    go_ret
    exact ⟨ret_bool (by rw [Hr.out]), HmW.out⟩
  have hKd : (K : Int) ≤ (d : Int) := by omega
  rcases Nat.eq_zero_or_pos L with hL0 | hL0
  · subst hL0
    obtain rfl : out = [] := List.eq_nil_of_length_eq_zero Hol.out
    have hr : fitsR [] K V N = true := by rw [Hfit.out]; have := HK0.out; simp; omega
    have Hr := Lib.hid hr
    clear hr
    go_enter Try.func14, Try.ntmps14
    go_wp2_with (first | (rw [← HW.out]))
    go_quiet (fail)
    go_wp2_with fail
    go_ret
    exact ⟨ret_bool (by rw [Hr.out]), HmW.out.drewN _⟩
  obtain ⟨j, hj⟩ : ∃ j, L = j + 1 := ⟨L - 1, by omega⟩
  obtain ⟨ad, y, rfl, hy, hcy⟩ := Hs.out.at2 (show j < L by omega) hBW.out (Mod.refl (fun _ => False) _) (fun _ _ h => h)
  have hlast : out.getLast? = some y := by rw [List.getLast?_eq_getElem?, Hol.out, hj]; exact hy
  have hLj : (L : Int) - 1 = (j : Int) := by omega
  have hL0b : ((L : Int) == 0) = false := by simp; omega
  have hj0 : (0 : Int) ≤ (j : Int) := by omega
  have hjL : (j : Int) < (L : Int) := by omega
  by_cases hyV : y = V
  · subst hyV
    have hr : fitsR out K y N = false := by rw [Hfit.out, hlast]; simp
    have Hr := Lib.hid hr
    clear hr hy hlast hj
    go_enter Try.func14, Try.ntmps14
    go_wp2_with (first | (rw [← HW.out]))
    go_quiet (fail)
    go_wp2_with fail
    go_ret
    exact ⟨ret_bool (by rw [Hr.out]), HmW.out.drewN _⟩
  · have hr : fitsR out K V N = true := by rw [Hfit.out, hlast]; have := HK0.out; simp; omega
    have Hr := Lib.hid hr
    clear hr hy hlast hj
    go_enter Try.func14, Try.ntmps14
    go_wp2_with (first | (rw [← HW.out]))
    go_quiet (fail)
    go_wp2_with fail
    go_ret
    exact ⟨ret_bool (by rw [Hr.out]; simp; omega), HmW.out.drewN _⟩
end Go.Proofs.Ytomdphepbihmcaa

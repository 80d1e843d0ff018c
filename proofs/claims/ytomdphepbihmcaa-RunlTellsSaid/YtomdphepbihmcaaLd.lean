/- Bytes are read as runs: Decode. -/
import Derived.Test.YtomdphepbihmcaaLg
import Derived.Test.YtomdphepbihmcaaLp
import Derived.Test.YtomdphepbihmcaaEa
import Derived.Test.YtomdphepbihmcaaOw
namespace Go.Proofs.Ytomdphepbihmcaa
open Go.RowKit

/-- What bytes are read as, with as many rounds as there are bytes. -/
def dR (r : Nat) (p : Option Nat) (bs : List Nat) : Option (List Nat) := getR bs.length r p bs
theorem dR_nil (r : Nat) (p : Option Nat) : dR r p [] = if r = 0 then some [] else none := getR_nil _ _ _
theorem dR_step {r : Nat} {p : Option Nat} {bs : List Nat} (h : bs ≠ []) :
    dR r p bs = if (runP bs).2.2 = 0 ∨ (runP bs).1 = 0 ∨ r < (runP bs).1 ∨ p = some (runP bs).2.1 then none else (dR (r - (runP bs).1) (some (runP bs).2.1) (bs.drop (runP bs).2.2)).map fun us => List.replicate (runP bs).1 (runP bs).2.1 ++ us := by
  have hl : 0 < bs.length := List.length_pos_iff.2 h
  obtain ⟨f, hf⟩ : ∃ f, bs.length = f + 1 := ⟨bs.length - 1, by omega⟩
  unfold dR
  rw [hf, getR_step f r p h]
  by_cases hz : (dec bs).2 = 0 ∨ (dec (bs.drop (dec bs).2)).2 = 0
  · have e : runP bs = (0, 0, 0) := by unfold runP; rw [if_pos hz]
    rw [if_pos (by rcases hz with h | h <;> simp [h]), e, if_pos (by simp)]
  · have e : runP bs = ((dec bs).1, (dec (bs.drop (dec bs).2)).1, (dec bs).2 + (dec (bs.drop (dec bs).2)).2) := by unfold runP; rw [if_neg hz]
    rw [e]
    simp only
    by_cases hc : (dec bs).1 = 0 ∨ r < (dec bs).1 ∨ p = some (dec (bs.drop (dec bs).2)).1
    · rw [if_pos (Or.inr (Or.inr hc)), if_pos (Or.inr hc)]
    · rw [if_neg (by intro h; rcases h with h | h | h; exact hz (Or.inl h); exact hz (Or.inr h); exact hc h), if_neg (by intro h; rcases h with h | h; omega; exact hc h)]
      rw [List.drop_drop]
      rw [getR_any f _ _ _ _ (by rw [List.length_drop]; omega) (Nat.le_refl _)]
theorem runP_len {bs : List Nat} (hlt : lt256 bs) : (runP bs).2.2 ≤ bs.length ∧ (runP bs).2.2 ≤ 20 := by
  unfold runP
  by_cases hz : (dec bs).2 = 0 ∨ (dec (bs.drop (dec bs).2)).2 = 0
  · rw [if_pos hz]; exact ⟨Nat.zero_le _, Nat.zero_le _⟩
  · rw [if_neg hz]
    have h1 := dec_le_len hlt
    have h2 := dec_le_len (bs := bs.drop (dec bs).2) (fun b hb => hlt b (List.mem_of_mem_drop hb))
    rw [List.length_drop] at h2
    have h3 := dec_le bs
    have h4 := dec_le (bs.drop (dec bs).2)
    constructor
    · show (dec bs).2 + (dec (bs.drop (dec bs).2)).2 ≤ _; omega
    · show (dec bs).2 + (dec (bs.drop (dec bs).2)).2 ≤ _; omega
theorem runP_lt {bs : List Nat} (hlt : lt256 bs) : (runP bs).1 < 18446744073709551616 ∧ (runP bs).2.1 < 18446744073709551616 := by
  unfold runP
  by_cases hz : (dec bs).2 = 0 ∨ (dec (bs.drop (dec bs).2)).2 = 0
  · rw [if_pos hz]; exact ⟨by decide, by decide⟩
  · rw [if_neg hz]
    exact ⟨dec_lt hlt, dec_lt (bs := bs.drop (dec bs).2) (fun b hb => hlt b (List.mem_of_mem_drop hb))⟩
/-- What the loop has read of the first i bytes. -/
def LdecTo (w wr : World) (bs : List Nat) (N i L : Nat) (v : Value) : Prop :=
  ∃ out, Own w.heap.size wr 37 v (cellsU out) ∧ out.length = L ∧ L ≤ N ∧ (∀ x ∈ out, x < 2 ^ 64) ∧ decR N bs = (dR (N - L) out.getLast? (bs.drop i)).map (out ++ ·) ∧ Mod (fun _ => False) w wr
theorem ldec_step {bs out : List Nat} {N L i K V S : Nat} (hi : i < bs.length) (hr : runP (bs.drop i) = (K, V, S)) (hL : out.length = L) (hS : S ≠ 0) (hf : fitsR out K V N = true)
    (h : decR N bs = (dR (N - L) out.getLast? (bs.drop i)).map (out ++ ·)) :
    K ≠ 0 ∧ L + K ≤ N ∧ decR N bs = (dR (N - (L + K)) (out ++ List.replicate K V).getLast? (bs.drop (i + S))).map ((out ++ List.replicate K V) ++ ·) := by
  have hne : bs.drop i ≠ [] := by
    intro e
    have := congrArg List.length e
    rw [List.length_drop] at this
    simp at this
    omega
  unfold fitsR at hf
  rw [hL] at hf
  have hf' := of_decide_eq_true hf
  have hK : K ≠ 0 := fun e => hf' (Or.inl e)
  have hKL : ¬ N - L < K := fun e => hf' (Or.inr (Or.inl e))
  refine ⟨hK, by omega, ?_⟩
  obtain ⟨j, hj⟩ : ∃ j, K = j + 1 := ⟨K - 1, by omega⟩
  have hlast : (out ++ List.replicate K V).getLast? = some V := by
    rw [hj, List.replicate_succ', ← List.append_assoc, List.getLast?_append]
    simp
  rw [h, dR_step hne, hr]
  simp only
  rw [if_neg (by intro h; rcases h with h | h; exact hS h; exact hf' h), Option.map_map, hlast, List.drop_drop, Nat.sub_sub]
  congr 1
  funext us
  simp
theorem ldec_stop {bs out : List Nat} {N L i K V S : Nat} (hi : i < bs.length) (hr : runP (bs.drop i) = (K, V, S)) (hL : out.length = L) (hf : S = 0 ∨ fitsR out K V N = false)
    (h : decR N bs = (dR (N - L) out.getLast? (bs.drop i)).map (out ++ ·)) : decR N bs = none := by
  have hne : bs.drop i ≠ [] := by
    intro e
    have := congrArg List.length e
    rw [List.length_drop] at this
    simp at this
    omega
  rw [h, dR_step hne, hr]
  simp only
  rw [if_pos]
  · rfl
  · rcases hf with hf | hf
    · exact Or.inl hf
    · refine Or.inr ?_
      unfold fitsR at hf
      rw [hL] at hf
      exact Decidable.not_not.1 (of_decide_eq_false hf)
theorem ldec_end {bs out : List Nat} {N L i : Nat} (hi : bs.length ≤ i) (hLN : L ≤ N) (h : decR N bs = (dR (N - L) out.getLast? (bs.drop i)).map (out ++ ·)) : decR N bs = if L < N then none else some out := by
  rw [h, List.drop_of_length_le hi, dR_nil]
  by_cases hl : L < N
  · rw [if_pos hl, if_neg (by omega)]; rfl
  · rw [if_neg hl, if_pos (by omega)]; simp
set_option maxHeartbeats 4000000 in
set_option maxRecDepth 100000 in
theorem ldec_any (A : Option Addr) (n cap B N : Nat) (m : Int) (bs : List Nat) (w : World) (hs : Rds w B A n (cells8 bs)) (hB : B ≤ w.heap.size) (hlt : lt256 bs) (hnc : n ≤ cap) (hcm : cap ≤ maxLen) (hN : max 0 (min m 65535) = (N : Int)) :
    Calls Try.prog 6 #[.slice A n cap, .int .i64 m] w fun e w' => EncE w w' (decR N bs) e := by
  have hul : bs.length = n := by have := hs.1; rwa [cells8_length] at this
  have H0 : Hid (LdecTo w w bs N 0 0 (.slice none 0 0)) := Lib.hid ⟨[], Own.nil _ _ _, rfl, Nat.zero_le _, (fun _ h => by cases h), by
    rw [List.drop_zero]
    show decR N bs = (dR N none bs).map _
    unfold decR dR
    cases getR bs.length N none bs <;> rfl, Mod.refl _ _⟩
  have Hs := Lib.hid hs; have Hlt := Lib.hid hlt; have HB := Lib.hid hB; have Hul := Lib.hid hul; have Hcm := Lib.hid hcm
  obtain ⟨mn, hmn⟩ : ∃ mn : Int, min m 65535 = mn := ⟨_, rfl⟩
  have hmin := minI_is (P := Try.prog) (t := 3) (ty := 3) hmn
  have hmax := maxI_is (P := Try.prog) (t := 3) (ty := 3) (n1 := 0) (n2 := mn) (m := (N : Int)) (by rw [← hmn]; exact hN)
  have hN65 : N ≤ 65535 := by omega
  clear hs hlt hB hul hN hmn hcm
  go_enter Try.func6, Try.ntmps6
  go_wp2_with fail
  clear hmin hmax
  go_loopg [0, 6] n (fun l s0 s6 wr => ∃ (i : Nat) (Ab : Option Addr) (cb L : Nat) (Av : Option Addr) (cv : Nat), i + l = n ∧ s0 = .slice Ab l cb ∧ l ≤ cb ∧ cb ≤ maxLen ∧ Rds wr B Ab l (cells8 (bs.drop i)) ∧ s6 = .slice Av L cv ∧ L ≤ cv ∧ LdecTo w wr bs N i L (.slice Av L cv))
  case atStart => exact ⟨0, A, cap, 0, none, 0, by omega, rfl, hnc, Hcm.out, by rw [List.drop_zero]; exact Hs.out, rfl, Nat.le_refl _, H0.out⟩
  case round =>
    obtain ⟨i, Ab, cb, L, Av, cv, hil, rfl, hlb, hcbm, hr, rfl, hLc, hD⟩ := hrel
    have HD := Lib.hid hD; have Hil := Lib.hid hil; have Hr := Lib.hid hr; have Hcbm := Lib.hid hcbm
    clear hD hil H0 hr hcbm Hs
    obtain ⟨out, hown, hol, hLN, ho64, hrd, hm⟩ := HD.out
    have Hown := Lib.hid hown; have Hol := Lib.hid hol; have Ho64 := Lib.hid ho64; have Hrd := Lib.hid hrd; have Hm := Lib.hid hm
    have hBr : Hid (B ≤ wr.heap.size) := Lib.hid (Nat.le_trans HB.out hm.size)
    clear hown hol ho64 hrd hm HD
    have hlt2 : lt256 (bs.drop i) := fun b hb => Hlt.out b (List.mem_of_mem_drop hb)
    by_cases hg : 0 < gk
    · obtain ⟨K, hK⟩ : ∃ K, K = (runP (bs.drop i)).1 := ⟨_, rfl⟩
      obtain ⟨V, hV⟩ : ∃ V, V = (runP (bs.drop i)).2.1 := ⟨_, rfl⟩
      obtain ⟨S, hS⟩ : ∃ S, S = (runP (bs.drop i)).2.2 := ⟨_, rfl⟩
      have hrun : runP (bs.drop i) = (K, V, S) := by rw [hK, hV, hS]
      have hSl := runP_len hlt2
      have hKV := runP_lt hlt2
      rw [← hS, List.length_drop, Hul.out] at hSl
      rw [← hK, ← hV] at hKV
      have hSg : S ≤ gk := by have := Hil.out; omega
      have hcall := lget_any Ab gk cb B (bs.drop i) wr Hr.out hBr.out hlt2 hlb Hcbm.out
      rw [← hK, ← hV, ← hS] at hcall
      have Hcall := Lib.hid hcall; have Hrun := Lib.hid hrun; have HKV := Lib.hid hKV
      clear hcall hrun hK hV hS hSl hKV hlt2
      go_wp2_with fail
      refine Hcall.out.mono ?_
      rintro e w1 ⟨rfl, hm1⟩
      obtain ⟨W1, hW1⟩ : ∃ W1, W1 = w1.alloc (.cells #[.int .u64 (K : Int), .int .u64 (V : Int)] 39) := ⟨_, rfl⟩
      have hmW : Mod (fun _ => False) w1 W1 := by rw [hW1]; exact (Mod.refl _ _).alloc _
      have hbW : Blk W1 w1.heap.size 39 #[.int .u64 (K : Int), .int .u64 (V : Int)] := by rw [hW1]; exact Blk.new _ _ _
      have hmm := hm1.trans hmW (fun _ _ h => h)
      have hd0 := hbW.cell 0
      have hd1 := hbW.cell 1
      simp at hd0 hd1
      have HW1 := Lib.hid hW1; have Hmm := Lib.hid hmm; have HbW := Lib.hid hbW
      clear hW1 hm1 hmW hmm hbW Hcall
      by_cases hS0 : S = 0
      · have hnone := ldec_stop (by have := Hul.out; have := Hil.out; omega) Hrun.out Hol.out (Or.inl hS0) Hrd.out
        have Hnone := Lib.hid hnone
        subst hS0
        clear hnone
        go_wp2_with (first | (rw [← HW1.out]))
        go_ret2
        rw [Hnone.out]
        exact ⟨rfl, Hm.out.trans Hmm.out (fun _ _ h => h)⟩
      · have hS0b : ((S : Int) == 0) = false := by simp; omega
        have HS0 := Lib.hid hS0
        have HownW := Lib.hid (Hown.out.mod Hmm.out)
        have HrW := Lib.hid (Hr.out.mod Hmm.out hBr.out (fun _ _ h => h))
        have HroW := Lib.hid (Own.rds HownW.out Hol.out)
        clear hS0
        cases hf : fitsR out K V N with
        | false =>
          have hnone := ldec_stop (by have := Hul.out; have := Hil.out; omega) Hrun.out Hol.out (Or.inr hf) Hrd.out
          have Hnone := Lib.hid hnone; have Hf := Lib.hid hf
          clear hnone hf
          go_wp2_with (first | (rw [← HW1.out]))
          refine (lfits_any Av L cv _ K V N out W1 HroW.out (Nat.le_refl _) hN65 hLN hLc).mono ?_
          rintro e w2 ⟨rfl, hm2⟩
          rw [Hf.out]
          have Hm2 := Lib.hid hm2
          clear hm2
          go_wp2_with fail
          go_ret2
          rw [Hnone.out]
          exact ⟨rfl, (Hm.out.trans Hmm.out (fun _ _ h => h)).trans Hm2.out (fun _ _ h => h)⟩
        | true =>
          obtain ⟨hK0, hKN, hst⟩ := ldec_step (by have := Hul.out; have := Hil.out; omega) Hrun.out Hol.out HS0.out hf Hrd.out
          have Hst := Lib.hid hst; have Hf := Lib.hid hf
          have hK1 : 1 ≤ K := by omega
          clear hst hf hK0
          go_wp2_with (first | (rw [← HW1.out]))
          refine (lfits_any Av L cv _ K V N out W1 HroW.out (Nat.le_refl _) hN65 hLN hLc).mono ?_
          rintro e w2 ⟨rfl, hm2⟩
          rw [Hf.out]
          have hb2 := hm2.blk HbW.out (fun h => h)
          obtain ⟨W2, hW2⟩ : ∃ W2, W2 = w2.alloc (.cells #[.int .u64 (V : Int)] 37) := ⟨_, rfl⟩
          have hmW2 : Mod (fun _ => False) w2 W2 := by rw [hW2]; exact (Mod.refl _ _).alloc _
          have hb2W := hmW2.blk hb2 (fun h => h)
          have hlit : Rds W2 (w2.heap.size + 1) (some ⟨w2.heap.size, 0, none⟩) 1 (cellsU [V]) := by rw [hW2]; exact Rds.lit w2 37 #[.int .u64 (V : Int)]
          have hmm2 := hm2.trans hmW2 (fun _ _ h => h)
          have hc0 := hb2.cell 0
          have hc1 := hb2.cell 1
          have he0 := hb2W.cell 0
          have he1 := hb2W.cell 1
          simp at hc0 hc1 he0 he1
          have hKi : (K : Int) ≤ 65535 := by omega
          have Hown2 := Lib.hid (HownW.out.mod hmm2)
          have Hr2 := Lib.hid (HrW.out.mod hmm2 (Nat.le_trans hBr.out Hmm.out.size) (fun _ _ h => h))
          have HW2 := Lib.hid hW2; have Hlit := Lib.hid hlit; have Hb2W := Lib.hid hb2W; have Hmm2 := Lib.hid hmm2
          clear hm2 hb2 hW2 hmW2 hb2W hlit hmm2 HroW HownW HrW hd0 hd1
          go_wp2_with (first | (rw [← HW2.out]))
          refine (repeat_any _ _ _ K V W2 Hlit.out (by omega) hK1).mono ?_
          rintro e w3 ⟨cc, g3, rfl, hcc, ho3, hb3⟩
          have Hown3 := Lib.hid (Hown2.out.below hb3)
          have Hr3 := Lib.hid (Own.rds ho3 (by simp))
          have Hmm3 := Lib.hid ((Hmm.out.trans Hmm2.out (fun _ _ h => h)).trans (mod_below hb3) (fun _ _ h => h))
          have hB2 : Hid (B ≤ W2.heap.size) := Lib.hid (Nat.le_trans hBr.out (Nat.le_trans Hmm.out.size Hmm2.out.size))
          have Hrb3 := Lib.hid (Hr2.out.mod (mod_below hb3) hB2.out (fun _ _ h => h))
          have hone : Hid (∀ u ∈ cellsU (List.replicate K V), u.oneCell' = true) := Lib.hid (cellsU_one _)
          have hr1 : (cellsU out).length + K ≤ maxLen := by rw [cellsU_length]; unfold maxLen; have := Hol.out; omega
          have hr2 : ((cellsU out).length + K) * 8 ≤ 140737488355328 := by rw [cellsU_length]; have := Hol.out; omega
          have hsz : w.heap.size ≤ w3.heap.size := Nat.le_trans Hm.out.size Hmm3.out.size
          have hSgi : (S : Int) ≤ (gk : Int) := by omega
          have hS0i : (0 : Int) ≤ (S : Int) := by omega
          obtain ⟨A5, hA5⟩ : ∃ A5, (if cb = S then Ab else Ab.map (·.add S)) = A5 := ⟨_, rfl⟩
          have Hr5 : Hid (Rds w3 B A5 (gk - S) ((cells8 (bs.drop i)).drop S)) := Lib.hid (by rw [← hA5]; exact Hrb3.out.drop hSg hlb)
          have hSci : (S : Int) ≤ (cb : Int) := by omega
          clear ho3 hb3 Hown2 Hr2 Hrb3 hc0 hc1 he0 he1 Hb2W Hlit
          go_wp2_with (at_builtin; refine wpList_app rfl (.tmp 29) (.tmp 36) _ rfl eltU rfl Hown3.out rfl Hr3.out hone.out hr1 hr2 hsz ?_; intro v' w4 HO HBl HG; clear HG)
          have hO : Own w.heap.size w4 37 v' (cellsU (out ++ List.replicate K V)) := by
            have h := HO.out
            rwa [cellsU_app] at h
          obtain ⟨A2, c2, rfl, hc2, _⟩ := own_formU hO
          have hl2 : (out ++ List.replicate K V).length = L + K := by rw [List.length_append, Hol.out, List.length_replicate]
          rw [hl2] at hO hc2 ⊢
          have hmw := (Hm.out.trans Hmm3.out (fun _ _ h => h)).trans (Mod.of_below HBl.out) (fun i hi h => by omega)
          have HD2 : Hid (LdecTo w w4 bs N (i + S) (L + K) (.slice A2 (L + K) c2)) := Lib.hid ⟨_, hO, hl2, hKN, (fun y hy => by
            rcases List.mem_append.1 hy with hy | hy
            · exact Ho64.out y hy
            · rw [List.eq_of_mem_replicate hy]; have := HKV.out.2; omega), Hst.out, hmw⟩
          have hB3 : B ≤ w3.heap.size := Nat.le_trans hBr.out Hmm3.out.size
          have Hr6 : Hid (Rds w4 B A5 (gk - S) (cells8 (bs.drop (i + S)))) := Lib.hid (by
            have h := Hr5.out.mod (Mod.of_below HBl.out) hB3 (fun j hj h => by have := HB.out; omega)
            rwa [show (cells8 (bs.drop i)).drop S = cells8 (bs.drop (i + S)) by simp [cells8, ← List.map_drop]] at h)
          have HC2 := Lib.hid hc2
          have hS1 : 1 ≤ S := by have := HS0.out; omega
          clear hO hl2 hmw hB3 hA5 hc2 HO HBl Hr5
          go_roundg (gk - S)
          case measure => omega
          case rel => exact ⟨i + S, A5, cb - S, L + K, A2, c2, by have := Hil.out; omega, rfl, by omega, by have := Hcbm.out; omega, Hr6.out, rfl, HC2.out, HD2.out⟩
    · have hi : i = n := by have := Hil.out; omega
      have hend := ldec_end (by have := Hul.out; omega) hLN Hrd.out
      have Hend := Lib.hid hend
      clear hend
      by_cases hLl : L < N
      · go_wp2_with fail
        go_ret2
        rw [Hend.out, if_pos hLl]
        exact ⟨rfl, Hm.out⟩
      · go_wp2_with fail
        go_ret2
        rw [Hend.out, if_neg hLl]
        exact ⟨_, rfl, Hown.out, Hm.out⟩
end Go.Proofs.Ytomdphepbihmcaa

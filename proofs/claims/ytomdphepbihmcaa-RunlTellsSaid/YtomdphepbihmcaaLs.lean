/- The document's own answer: bytes are read as runs. -/
import Derived.Test.YtomdphepbihmcaaLd
import Derived.Test.YtomdphepbihmcaaHe
import Derived.Deep.CutBlock
namespace Go.Proofs.Ytomdphepbihmcaa
open Go.RowKit

/-- What the inner loop has laid. -/
def LrepTo (w wr : World) (out : List Nat) (V j : Nat) (v : Value) : Prop :=
  Own w.heap.size wr 37 v (cellsU (out ++ List.replicate j V)) ∧ Mod (fun _ => False) w wr
set_option maxHeartbeats 1000000 in
set_option maxRecDepth 100000 in
theorem lrdec_any (A : Option Addr) (n cap B N : Nat) (m : Int) (bs : List Nat) (w : World) (hs : Rds w B A n (cells8 bs)) (hB : B ≤ w.heap.size) (hlt : lt256 bs) (hnc : n ≤ cap) (hcm : cap ≤ maxLen) (hN : max 0 (min m 65535) = (N : Int)) :
    Calls Try.prog 11 #[.slice A n cap, .int .i64 m] w fun e w' => EncE w w' (decR N bs) e := by
  have hul : bs.length = n := by have := hs.1; rwa [cells8_length] at this
  have H0 : Hid (LdecTo w w bs N 0 0 (.slice none 0 0)) := Lib.hid ⟨[], Own.nil _ _ _, rfl, Nat.zero_le _, (fun _ h => by cases h), by
    rw [List.drop_zero]
    show decR N bs = (dR N none bs).map _
    unfold decR dR
    cases getR bs.length N none bs <;> rfl, Mod.refl _ _⟩
  have Hs := Lib.hid hs; have Hlt := Lib.hid hlt; have HB := Lib.hid hB; have Hul := Lib.hid hul; have Hcm := Lib.hid hcm
  have hN65 : N ≤ 65535 := by omega
  have Hheld := Lib.hid (fun W => rheld_any m N W hN)
  clear hs hlt hB hul hN hcm
  go_enter Try.func11, Try.ntmps11
  go_wp2_with fail
  refine (Hheld.out _).mono ?_
  rintro e w' ⟨rfl, rfl⟩
  go_wp2_with fail
  go_loopg [6, 7] n (fun l s6 s7 wr => ∃ (i : Nat) (Ab : Option Addr) (cb L : Nat) (Av : Option Addr) (cv : Nat), i + l = n ∧ s6 = .slice Ab l cb ∧ l ≤ cb ∧ cb ≤ maxLen ∧ Rds wr B Ab l (cells8 (bs.drop i)) ∧ s7 = .slice Av L cv ∧ L ≤ cv ∧ LdecTo w wr bs N i L (.slice Av L cv))
  case atStart => exact ⟨0, A, cap, 0, none, 0, by omega, rfl, hnc, Hcm.out, by rw [List.drop_zero]; exact Hs.out, rfl, Nat.le_refl _, H0.out⟩
  case round =>
    obtain ⟨i, Ab, cb, L, Av, cv, hil, rfl, hlb, hcbm, hr, rfl, hLc, hD⟩ := hrel
    have HD := Lib.hid hD; have Hil := Lib.hid hil; have Hr := Lib.hid hr; have Hcbm := Lib.hid hcbm
    clear hD hil H0 hr hcbm Hs
    obtain ⟨out, hown, hol, hLN, ho64, hrd, hm⟩ := HD.out
    have Hown := Lib.hid hown; have Hol := Lib.hid hol; have Ho64 := Lib.hid ho64; have Hrd := Lib.hid hrd; have Hm := Lib.hid hm
    have hBr : Hid (B ≤ wr.heap.size) := Lib.hid (Nat.le_trans HB.out hm.size)
    clear hown hol ho64 hrd hm HD
    have hlt2 : lt256 (bs.drop i) := fun b hb => Hlt.out b (List.mem_of_mem_drop hb)
    by_cases hg : 0 < gk
    · obtain ⟨K, hK⟩ : ∃ K, K = (dec (bs.drop i)).1 := ⟨_, rfl⟩
      obtain ⟨p, hp⟩ : ∃ p, p = (dec (bs.drop i)).2 := ⟨_, rfl⟩
      obtain ⟨V, hV⟩ : ∃ V, V = (dec ((bs.drop i).drop p)).1 := ⟨_, rfl⟩
      obtain ⟨q, hq⟩ : ∃ q, q = (dec ((bs.drop i).drop p)).2 := ⟨_, rfl⟩
      have hlt3 : lt256 ((bs.drop i).drop p) := fun b hb => hlt2 b (List.mem_of_mem_drop hb)
      have hpg : p ≤ gk := by
        have h := dec_le_len hlt2
        rw [← hp, List.length_drop, Hul.out] at h
        have := Hil.out
        omega
      have hqg : q ≤ gk - p := by
        have h := dec_le_len hlt3
        rw [← hq, List.length_drop, List.length_drop, Hul.out] at h
        have := Hil.out
        omega
      have hK64 : K < 2 ^ 64 := by rw [hK]; exact dec_lt hlt2
      have hV64 : V < 2 ^ 64 := by rw [hV]; exact dec_lt hlt3
      have hrun : runP (bs.drop i) = if p = 0 ∨ q = 0 then (0, 0, 0) else (K, V, p + q) := by unfold runP; rw [hV, hq, hK, hp]
      have hcall := vrget_any Ab gk cb B (bs.drop i) wr Hr.out hlt2 (by have := Hcbm.out; omega)
      rw [← hK, ← hp] at hcall
      have hcd : (cells8 (bs.drop i)).drop p = cells8 ((bs.drop i).drop p) := by simp [cells8, List.map_drop]
      obtain ⟨A1, hA1⟩ : ∃ A1, (if cb = p then Ab else Ab.map (·.add p)) = A1 := ⟨_, rfl⟩
      have hr1 : Rds wr B A1 (gk - p) (cells8 ((bs.drop i).drop p)) := by rw [← hA1, ← hcd]; exact Hr.out.drop hpg hlb
      have hcall2 := vrget_any A1 (gk - p) (cb - p) B ((bs.drop i).drop p) wr hr1 hlt3 (by have := Hcbm.out; omega)
      rw [← hV, ← hq] at hcall2
      obtain ⟨A2, hA2⟩ : ∃ A2, (if cb - p = q then A1 else A1.map (·.add q)) = A2 := ⟨_, rfl⟩
      have hcd2 : (cells8 ((bs.drop i).drop p)).drop q = cells8 (bs.drop (i + (p + q))) := by simp [cells8, List.map_drop, List.drop_drop, Nat.add_assoc]
      have hr2 : Rds wr B A2 (gk - p - q) (cells8 (bs.drop (i + (p + q)))) := by rw [← hA2, ← hcd2]; exact hr1.drop hqg (by omega)
      have Hcall := Lib.hid hcall; have Hcall2 := Lib.hid hcall2; have Hrun := Lib.hid hrun; have HK64 := Lib.hid hK64; have HV64 := Lib.hid hV64; have Hr2 := Lib.hid hr2
      have hpi : (p : Int) ≤ (gk : Int) := by omega
      have hp0 : (0 : Int) ≤ (p : Int) := by omega
      have hpc : (p : Int) ≤ (cb : Int) := by omega
      have hgc : (gk : Int) ≤ (cb : Int) := by omega
      clear hcall hcall2 hK hp hV hq hrun hlt2 hlt3 hcd hcd2 hr1 hr2 Hr hK64 hV64
      go_wp2_with fail
      refine Hcall.out.mono ?_
      rintro e w' ⟨rfl, rfl⟩
      go_wp2_with fail
      refine Hcall2.out.mono ?_
      rintro e w' ⟨rfl, rfl⟩
      have hqgi : (q : Int) ≤ ((gk - p : Nat) : Int) := by omega
      have hgci : ((gk - p : Nat) : Int) ≤ ((cb - p : Nat) : Int) := by omega
      have hqci : (q : Int) ≤ ((cb - p : Nat) : Int) := by omega
      have hq0 : (0 : Int) ≤ (q : Int) := by omega
      have hib : i < bs.length := by have := Hul.out; have := Hil.out; omega
      obtain ⟨d, hd⟩ : ∃ d, d = N - L := ⟨_, rfl⟩
      have hdi : (N : Int) - (L : Int) = (d : Int) := by omega
      have hdw : IntKind.i64.wrap (d : Int) = (d : Int) := by rw [IntKind.wrap_i64]; omega
      have hwd : IntKind.u64.wrap (d : Int) = (d : Int) := by rw [IntKind.wrap_u64]; omega
      have Hd := Lib.hid hd; have Hib := Lib.hid hib
      clear Hcall Hcall2 hd hib
      by_cases hz : p = 0 ∨ q = 0
      · have hnone := ldec_stop (K := 0) (V := 0) (S := 0) Hib.out (by rw [Hrun.out, if_pos hz]) Hol.out (Or.inl rfl) Hrd.out
        have Hnone := Lib.hid hnone
        clear hnone
        have hz2 : p = 0 ∨ (p ≠ 0 ∧ q = 0) := by omega
        clear hz
        rcases hz2 with h | ⟨h, h'⟩
        · have hpb : ((p : Int) == 0) = true := by simp [h]
          clear h
          go_wp2_with fail
          go_ret2
          rw [Hnone.out]
          exact ⟨rfl, Hm.out⟩
        · have hpb : ((p : Int) == 0) = false := by simp; omega
          have hqb : ((q : Int) == 0) = true := by simp [h']
          clear h h'
          go_wp2_with fail
          go_ret2
          rw [Hnone.out]
          exact ⟨rfl, Hm.out⟩
      · have hrun2 : runP (bs.drop i) = (K, V, p + q) := by rw [Hrun.out, if_neg hz]
        have hpb : ((p : Int) == 0) = false := by simp; omega
        have hqb : ((q : Int) == 0) = false := by simp; omega
        have hpq : p + q ≠ 0 := by omega
        have Hrun2 := Lib.hid hrun2; have Hpq := Lib.hid hpq
        clear hz hrun2 hpq Hrun
        cases hf : fitsR out K V N with
        | false =>
          have hnone := ldec_stop Hib.out Hrun2.out Hol.out (Or.inr hf) Hrd.out
          have Hnone := Lib.hid hnone
          have hf' : K = 0 ∨ (K ≠ 0 ∧ d < K) ∨ (K ≠ 0 ∧ K ≤ d ∧ out.getLast? = some V) := by
            unfold fitsR at hf
            have h := Decidable.not_not.1 (of_decide_eq_false hf)
            rw [Hol.out, ← Hd.out] at h
            rcases Nat.eq_zero_or_pos K with h0 | h0
            · exact Or.inl h0
            · rcases Nat.lt_or_ge d K with h1 | h1
              · exact Or.inr (Or.inl ⟨by omega, h1⟩)
              · rcases h with h | h | h
                · omega
                · omega
                · exact Or.inr (Or.inr ⟨by omega, h1, h⟩)
          clear hnone hf
          rcases hf' with h | ⟨h, h1⟩ | ⟨h, h1, h2⟩
          · have hKb : ((K : Int) == 0) = true := by simp [h]
            clear h
            go_wp2_with fail
            go_ret2
            rw [Hnone.out]
            exact ⟨rfl, Hm.out⟩
          · have hKb : ((K : Int) == 0) = false := by simp; omega
            have hdK : (d : Int) < (K : Int) := by omega
            clear h h1
            go_wp2_with fail
            go_ret2
            rw [Hnone.out]
            exact ⟨rfl, Hm.out⟩
          · have hKb : ((K : Int) == 0) = false := by simp; omega
            have hdK : (K : Int) ≤ (d : Int) := by omega
            have hL0 : 0 < L := by
              rcases Nat.eq_zero_or_pos L with h0 | h0
              · have h3 := Hol.out
                rw [h0] at h3
                rw [List.eq_nil_of_length_eq_zero h3] at h2
                cases h2
              · exact h0
            obtain ⟨j, hj⟩ : ∃ j, L = j + 1 := ⟨L - 1, by omega⟩
            obtain ⟨ad, y, rfl, hy, hcy⟩ := (Own.rds Hown.out Hol.out).at2 (show j < L by omega) (Nat.le_refl _) (Mod.refl (fun _ => False) _) (fun _ _ h => h)
            obtain rfl : y = V := by
              rw [List.getLast?_eq_getElem?, Hol.out, hj] at h2
              rw [show j + 1 - 1 = j by omega, hy] at h2
              injection h2
            have hLj : (L : Int) - 1 = (j : Int) := by omega
            have hL0i : (0 : Int) < (L : Int) := by omega
            have hj0 : (0 : Int) ≤ (j : Int) := by omega
            have hjL : (j : Int) < (L : Int) := by omega
            clear h h1 h2 hj hy hL0
            go_wp2_with fail
            go_ret2
            rw [Hnone.out]
            exact ⟨rfl, Hm.out⟩
        | true =>
          obtain ⟨hK0, hKN, hst⟩ := ldec_step Hib.out Hrun2.out Hol.out Hpq.out hf Hrd.out
          have hKb : ((K : Int) == 0) = false := by simp; omega
          have hdK : (K : Int) ≤ (d : Int) := by have := Hd.out; omega
          have hdKb : decide (d < K) = false := decide_eq_false (by have := Hd.out; omega)
          have Hst := Lib.hid hst
          have hf' : L = 0 ∨ (0 < L ∧ out.getLast? ≠ some V) := by
            unfold fitsR at hf
            have h := of_decide_eq_true hf
            rcases Nat.eq_zero_or_pos L with h0 | h0
            · exact Or.inl h0
            · exact Or.inr ⟨h0, fun e => h (Or.inr (Or.inr e))⟩
          have P0 : Hid (LrepTo w wr out V 0 (.slice Av L cv)) := Lib.hid ⟨by rw [List.replicate_zero, List.append_nil]; exact Hown.out, Hm.out⟩
          clear hst hf
          obtain ⟨go, rfl⟩ : ∃ go : Nat, go = gk := ⟨_, rfl⟩
          rcases hf' with h | ⟨h, h2⟩
          · have hLn : ¬ (0 : Int) < (L : Int) := by omega
            clear h
            go_wp2_with fail
            clear hpb hqb hKb hdK hdi hdw hwd hpi hp0 hpc hgc hqgi hgci hqci hq0 hA1 hA2
            go_loopg [7, 8] K (fun l s7 s8 wi => ∃ (j t : Nat) (Aj : Option Addr) (cj : Nat), j + l = K ∧ t = L + j ∧ s7 = .slice Aj t cj ∧ t ≤ cj ∧ s8 = .int .u64 (l : Int) ∧ LrepTo w wi out V j (.slice Aj t cj))
            case atStart => exact ⟨0, L, Av, cv, by omega, by omega, rfl, hLc, rfl, P0.out⟩
            case round =>
              obtain ⟨j, t, Aj, cj, hjl, ht, rfl, htc, rfl, hP⟩ := hrel
              have Hjl := Lib.hid hjl; have Ht := Lib.hid ht; have HP := Lib.hid hP; have Htc := Lib.hid htc
              have hsz : w.heap.size ≤ wr.heap.size := hP.2.size
              have hcl : (cellsU (out ++ List.replicate j V)).length = t := by rw [cellsU_length, List.length_append, List.length_replicate, Hol.out, ht]
              have hr1 : (cellsU (out ++ List.replicate j V)).length + 1 ≤ maxLen := by rw [hcl]; unfold maxLen; omega
              have hr2 : ((cellsU (out ++ List.replicate j V)).length + 1) * 8 ≤ 140737488355328 := by rw [hcl]; omega
              have hone : (Value.int .u64 (V : Int)).oneCell' = true := rfl
              have Hr1 := Lib.hid hr1; have Hr2' := Lib.hid hr2
              clear hjl ht hP htc P0 hcl hr1 hr2
              by_cases hgk : 0 < gk
              · have hwk : IntKind.u64.wrap ((gk : Int) - 1) = ((gk - 1 : Nat) : Int) := by rw [IntKind.wrap_u64]; have := Hjl.out; omega
                have hgki : (0 : Int) < (gk : Int) := by omega
                go_wp2_with (at_builtin; refine wpList_app1 rfl (.tmp 72) (.tmp 74) _ rfl eltU rfl HP.out.1 rfl rfl hone Hr1.out Hr2'.out hsz ?_; intro v' w3 HO HBl)
                have hO : Own w.heap.size w3 37 v' (cellsU (out ++ List.replicate (j + 1) V)) := by
                  have h := HO.out
                  rw [show [Value.int .u64 (V : Int)] = cellsU [V] from rfl, cellsU_app, List.append_assoc, ← List.replicate_succ'] at h
                  exact h
                obtain ⟨A3, c3, rfl, hc3, _⟩ := own_formU hO
                have hl3 : (out ++ List.replicate (j + 1) V).length = t + 1 := by rw [List.length_append, List.length_replicate, Hol.out, Ht.out, Nat.add_assoc]
                rw [hl3] at hO hc3 ⊢
                have HP3 : Hid (LrepTo w w3 out V (j + 1) (.slice A3 (t + 1) c3)) := Lib.hid ⟨hO, HP.out.2.trans (Mod.of_below HBl.out) (fun i hi h => by omega)⟩
                have Hc3 := Lib.hid hc3
                clear hO hl3 hc3 HO HBl HP
                go_roundg (gk - 1)
                case measure => omega
                case rel => exact ⟨j + 1, t + 1, A3, c3, by have := Hjl.out; omega, by have := Ht.out; omega, rfl, Hc3.out, by go_num, HP3.out⟩
              · have hgk0 : gk = 0 := by omega
                subst hgk0
                have hjK : j = K := by have := Hjl.out; omega
                subst hjK
                have HD2 : Hid (LdecTo w wr bs N (i + (p + q)) t (.slice Aj t cj)) := Lib.hid ⟨_, HP.out.1, by rw [List.length_append, List.length_replicate, Hol.out, Ht.out], by rw [Ht.out]; exact hKN, (fun y hy => by
                  rcases List.mem_append.1 hy with hy | hy
                  · exact Ho64.out y hy
                  · rw [List.eq_of_mem_replicate hy]; exact HV64.out), by rw [Ht.out]; exact Hst.out, HP.out.2⟩
                have Hr3 : Hid (Rds wr B A2 (go - p - q) (cells8 (bs.drop (i + (p + q))))) := Lib.hid (Hr2.out.keep fun a ha => (HP.out.2.cell (Nat.lt_of_lt_of_le ha HB.out) (fun h => h)).trans (Hm.out.cell (Nat.lt_of_lt_of_le ha HB.out) (fun h => h)).symm)
                go_wp2_with fail
                go_roundg (go - p - q)
                case measure => have := Hpq.out; omega
                case rel => exact ⟨i + (p + q), A2, cb - p - q, t, Aj, cj, by have := Hil.out; omega, rfl, by omega, by have := Hcbm.out; omega, Hr3.out, rfl, Htc.out, HD2.out⟩
          · obtain ⟨j, hj⟩ : ∃ j, L = j + 1 := ⟨L - 1, by omega⟩
            obtain ⟨ad, y, rfl, hy, hcy⟩ := (Own.rds Hown.out Hol.out).at2 (show j < L by omega) (Nat.le_refl _) (Mod.refl (fun _ => False) _) (fun _ _ h => h)
            have hyV : y ≠ V := by
              rintro rfl
              apply h2
              rw [List.getLast?_eq_getElem?, Hol.out, hj, show j + 1 - 1 = j by omega]
              exact hy
            have hyb : ((y : Int) == (V : Int)) = false := by simp; omega
            have hLj : (L : Int) - 1 = (j : Int) := by omega
            have hL0i : (0 : Int) < (L : Int) := by omega
            have hj0 : (0 : Int) ≤ (j : Int) := by omega
            have hjL : (j : Int) < (L : Int) := by omega
            clear h h2 hj hy hyV
            go_wp2_with fail
            clear hpb hqb hKb hdK hdi hdw hwd hpi hp0 hpc hgc hqgi hgci hqci hq0 hA1 hA2
            go_loopg [7, 8] K (fun l s7 s8 wi => ∃ (j t : Nat) (Aj : Option Addr) (cj : Nat), j + l = K ∧ t = L + j ∧ s7 = .slice Aj t cj ∧ t ≤ cj ∧ s8 = .int .u64 (l : Int) ∧ LrepTo w wi out V j (.slice Aj t cj))
            case atStart => exact ⟨0, L, some ad, cv, by omega, by omega, rfl, hLc, rfl, P0.out⟩
            case round =>
              obtain ⟨j, t, Aj, cj, hjl, ht, rfl, htc, rfl, hP⟩ := hrel
              have Hjl := Lib.hid hjl; have Ht := Lib.hid ht; have HP := Lib.hid hP; have Htc := Lib.hid htc
              have hsz : w.heap.size ≤ wr.heap.size := hP.2.size
              have hcl : (cellsU (out ++ List.replicate j V)).length = t := by rw [cellsU_length, List.length_append, List.length_replicate, Hol.out, ht]
              have hr1 : (cellsU (out ++ List.replicate j V)).length + 1 ≤ maxLen := by rw [hcl]; unfold maxLen; omega
              have hr2 : ((cellsU (out ++ List.replicate j V)).length + 1) * 8 ≤ 140737488355328 := by rw [hcl]; omega
              have hone : (Value.int .u64 (V : Int)).oneCell' = true := rfl
              have Hr1 := Lib.hid hr1; have Hr2' := Lib.hid hr2
              clear hjl ht hP htc P0 hcl hr1 hr2
              by_cases hgk : 0 < gk
              · have hwk : IntKind.u64.wrap ((gk : Int) - 1) = ((gk - 1 : Nat) : Int) := by rw [IntKind.wrap_u64]; have := Hjl.out; omega
                have hgki : (0 : Int) < (gk : Int) := by omega
                go_wp2_with (at_builtin; refine wpList_app1 rfl (.tmp 72) (.tmp 74) _ rfl eltU rfl HP.out.1 rfl rfl hone Hr1.out Hr2'.out hsz ?_; intro v' w3 HO HBl)
                have hO : Own w.heap.size w3 37 v' (cellsU (out ++ List.replicate (j + 1) V)) := by
                  have h := HO.out
                  rw [show [Value.int .u64 (V : Int)] = cellsU [V] from rfl, cellsU_app, List.append_assoc, ← List.replicate_succ'] at h
                  exact h
                obtain ⟨A3, c3, rfl, hc3, _⟩ := own_formU hO
                have hl3 : (out ++ List.replicate (j + 1) V).length = t + 1 := by rw [List.length_append, List.length_replicate, Hol.out, Ht.out, Nat.add_assoc]
                rw [hl3] at hO hc3 ⊢
                have HP3 : Hid (LrepTo w w3 out V (j + 1) (.slice A3 (t + 1) c3)) := Lib.hid ⟨hO, HP.out.2.trans (Mod.of_below HBl.out) (fun i hi h => by omega)⟩
                have Hc3 := Lib.hid hc3
                clear hO hl3 hc3 HO HBl HP
                go_roundg (gk - 1)
                case measure => omega
                case rel => exact ⟨j + 1, t + 1, A3, c3, by have := Hjl.out; omega, by have := Ht.out; omega, rfl, Hc3.out, by go_num, HP3.out⟩
              · have hgk0 : gk = 0 := by omega
                subst hgk0
                have hjK : j = K := by have := Hjl.out; omega
                subst hjK
                have HD2 : Hid (LdecTo w wr bs N (i + (p + q)) t (.slice Aj t cj)) := Lib.hid ⟨_, HP.out.1, by rw [List.length_append, List.length_replicate, Hol.out, Ht.out], by rw [Ht.out]; exact hKN, (fun y hy => by
                  rcases List.mem_append.1 hy with hy | hy
                  · exact Ho64.out y hy
                  · rw [List.eq_of_mem_replicate hy]; exact HV64.out), by rw [Ht.out]; exact Hst.out, HP.out.2⟩
                have Hr3 : Hid (Rds wr B A2 (go - p - q) (cells8 (bs.drop (i + (p + q))))) := Lib.hid (Hr2.out.keep fun a ha => (HP.out.2.cell (Nat.lt_of_lt_of_le ha HB.out) (fun h => h)).trans (Hm.out.cell (Nat.lt_of_lt_of_le ha HB.out) (fun h => h)).symm)
                go_wp2_with fail
                go_roundg (go - p - q)
                case measure => have := Hpq.out; omega
                case rel => exact ⟨i + (p + q), A2, cb - p - q, t, Aj, cj, by have := Hil.out; omega, rfl, by omega, by have := Hcbm.out; omega, Hr3.out, rfl, Htc.out, HD2.out⟩
    · have hi : i = n := by have := Hil.out; omega
      have hend := ldec_end (by have := Hul.out; omega) hLN Hrd.out
      have Hend := Lib.hid hend
      clear hend
      by_cases hLl : L < N
      · have hLn : (L : Int) ≠ (N : Int) := by omega
        go_wp2_with fail
        go_ret2
        rw [Hend.out, if_pos hLl]
        exact ⟨rfl, Hm.out⟩
      · obtain rfl : L = N := by omega
        go_wp2_with fail
        go_ret2
        rw [Hend.out, if_neg hLl]
        exact ⟨_, rfl, Hown.out, Hm.out⟩
end Go.Proofs.Ytomdphepbihmcaa

/- A dictionary's list: how many bits a place has; the values that are unlike, and where each stands. -/
import Derived.Test.YtldjobaafambbaaDk
import Derived.Test.YtldjobaafambbaaLm
import Derived.Test.YtldjobaafambbaaRow2
import Derived.Deep.DeepCutAuto
import Derived.Deep.LoopGhost
namespace Go.Proofs.Ytldjobaafambbaa
open Go.RowKit Go.Maps

set_option maxHeartbeats 1000000 in
theorem len_wid (x S : Nat) (w : World) (hx : Lt64 x) (hS : wid x = S) : Calls Try.prog 36 #[.int .u64 (x : Int)] w fun e w' => e = .returned (.int .i64 (S : Int)) ∧ w = w' := by
  have Hc := Lib.hid (len64_wid x S w hx hS)
  have hxi : (x : Int) % 18446744073709551616 = (x : Int) := by have := hx.out; omega
  clear hx hS
  go_enter Try.func36, Try.ntmps36
  go_wp2_with fail
  refine Hc.out.mono ?_
  rintro e w1 ⟨rfl, rfl⟩
  go_wp2_with fail
  go_ret
  exact ⟨rfl, rfl⟩
set_option maxHeartbeats 1000000 in
theorem dsize_any (A : Option Addr) (L c S : Nat) (w : World) (hL : ¬ L = 0) (hL2 : L ≤ 1000000) (hS : wid (L - 1) = S) : Calls Try.prog 21 #[.slice A L c] w fun e w' => e = .returned (.int .i64 (S : Int)) ∧ w = w' := by
  obtain ⟨y, hy⟩ : ∃ y, y = L - 1 := ⟨_, rfl⟩
  rw [← hy] at hS
  have hyi : (L : Int) - 1 = (y : Int) := by omega
  have hyL : y ≤ 1000000 := by omega
  have Hc := Lib.hid (fun W => len_wid y S W (by unfold Lt64; omega) hS)
  clear hy hS
  go_enter Try.func21, Try.ntmps21
  go_wp2_with fail
  refine (Hc.out _).mono ?_
  rintro e w1 ⟨rfl, rfl⟩
  go_wp2_with fail
  go_ret
  exact ⟨rfl, rfl⟩
/-- What unlike has made of i values. -/
def UnlTo (w wr : World) (us : List Nat) (i : Nat) (v : Value) : Prop :=
  ∃ D : DataW Unit, Own (w.heap.size + 1) wr 32 v (cellsU (uniq (us.take i))) ∧ OMap wr w.heap.size i D ∧ Plcs D (uniq (us.take i)) ∧ (uniq (us.take i)).length ≤ 256 ∧ Mod (fun _ => False) w wr
/-- What unlike answers. -/
def UnlE (w w' : World) (us : List Nat) (e : Ending) : Prop :=
  ∃ (v : Value) (b n : Nat) (D : DataW Unit) (l : List Nat), e = .returned (.tuple #[v, .map (some b)]) ∧ w.heap.size ≤ b ∧ Own w.heap.size w' 32 v (cellsU l) ∧ OMap w' b n D ∧ Mod (fun _ => False) w w' ∧ l.length ≤ 257 ∧
    ((256 < l.length ∧ 256 < (uniq us).length) ∨ (l = uniq us ∧ l.length ≤ 256 ∧ Plcs D l))
theorem uniq_take_le (us : List Nat) (i : Nat) : (uniq (us.take i)).length ≤ (uniq us).length := by
  obtain ⟨t, ht⟩ := uniq_app (us.take i) (us.drop i)
  rw [List.take_append_drop] at ht
  rw [ht, List.length_append]
  omega
set_option maxHeartbeats 4000000 in
set_option maxRecDepth 100000 in
theorem unlike_any (A : Option Addr) (n cap B : Nat) (us : List Nat) (w : World) (hs : Rds w B A n (cellsU us)) (hB : B ≤ w.heap.size) (hu : ∀ x ∈ us, x < 2 ^ 64) (hn : n ≤ 1000000) :
    Calls Try.prog 18 #[.slice A n cap] w fun e w' => UnlE w w' us e := by
  have hul : us.length = n := by have := hs.1; rwa [cellsU_length] at this
  have hmm := @run_makeMap Try.prog
  have U0 : Hid (UnlTo w (w.alloc (.map #[] 0)) us 0 (.slice none 0 0)) := Lib.hid ⟨.map [], Own.nil _ _ _, OMap.made w, Plcs.nil, Nat.zero_le _, (Mod.refl _ _).alloc _⟩
  have Hs := Lib.hid hs; have Hu := Lib.hid hu; have HB := Lib.hid hB; have Hul := Lib.hid hul
  clear hs hu hB hul
  go_enter Try.func18, Try.ntmps18
  go_wp2_with fail
  go_loopg [4, 13] n (fun l s4 s13 wr => ∃ i : Nat, i + l = n ∧ s13 = .int .i64 (i : Int) ∧ UnlTo w wr us i s4)
  case atStart => exact ⟨0, by omega, rfl, U0.out⟩
  case round =>
    obtain ⟨i, hil, rfl, D, hown, hmap, hplc, hlen, hm⟩ := hrel
    have Hown := Lib.hid hown; have Hmap := Lib.hid hmap; have Hplc := Lib.hid hplc; have Hlen := Lib.hid hlen; have Hm := Lib.hid hm; have Hil := Lib.hid hil
    clear hown hmap hplc hlen hm hil U0 hmm
    by_cases hin : i < n
    · obtain ⟨ad, x, rfl, hx, hcx⟩ := Hs.out.at2 hin HB.out Hm.out (fun _ _ h => h)
      have Hx64 := Lib.hid (Hu.out x (List.mem_of_getElem? hx))
      have Htk := Lib.hid (take_succ_of hx)
      have hi0 : (0 : Int) ≤ (i : Int) := by omega
      clear hx
      by_cases hin2 : x ∈ uniq (us.take i)
      · have hhas : Maps.has D (.int .u64 (x : Int)) = true := by rw [Hplc.out.2.1, decide_eq_true hin2]
        have Hq : Hid (uniq (us.take (i + 1)) = uniq (us.take i)) := Lib.hid (by rw [Htk.out, uniq_snoc, if_pos hin2])
        clear hin2
        go_wp2_with (at_lookup; refine wpList_lookup_own_ok_int _ rfl _ _ 44 rfl 32 32 .u64 lawU Try.underlying44 Try.underlying32 (zeroU _) w.heap.size i D rfl Hmap.out _ _ rfl (keyU Hx64.out) ?_; intro c hat hwc; clear hat hwc)
        go_roundg (gk - 1)
        case measure => have := Hil.out; omega
        case rel => exact ⟨i + 1, by have := Hil.out; omega, by go_num, D, by rw [Hq.out]; exact Hown.out, Hmap.out.mono (by omega), by rw [Hq.out]; exact Hplc.out, by rw [Hq.out]; exact Hlen.out, Hm.out⟩
      · have hhas : Maps.has D (.int .u64 (x : Int)) = false := by rw [Hplc.out.2.1, decide_eq_false hin2]
        obtain ⟨A4, L, c4, rfl, HL, _, _⟩ := own_formUN Hown.out
        have hL256 : L ≤ 256 := by have := HL.out; have := Hlen.out; omega
        have hLi : L ≤ i := by have h1 := uniq_le (us.take i); have h2 := HL.out; rw [List.length_take] at h1; omega
        have Hq : Hid (uniq (us.take (i + 1)) = uniq (us.take i) ++ [x]) := Lib.hid (by rw [Htk.out, uniq_snoc, if_neg hin2])
        have Hput : Hid (Plcs (D.put (.int .u64 (x : Int)) (.lit (.int .u64 (L : Int)))) (uniq (us.take (i + 1)))) := Lib.hid (by have h := Hplc.out.put hin2; rw [HL.out] at h; rw [Hq.out]; exact h)
        have Hlt := Lib.hid Hmap.out.lt
        have hr1 : (cellsU (uniq (us.take i))).length + 1 ≤ maxLen := by rw [cellsU_length, HL.out]; unfold maxLen; omega
        have hr2 : ((cellsU (uniq (us.take i))).length + 1) * 8 ≤ 140737488355328 := by rw [cellsU_length, HL.out]; omega
        have him : i < maxLen := by unfold maxLen; omega
        have HL' : Hid (∀ L', (uniq (us.take (i + 1))).length = L' → L' = L + 1) := Lib.hid (fun L' h => by rw [Hq.out, List.length_append, HL.out] at h; exact h.symm)
        have Hmono : Hid ((uniq (us.take (i + 1))).length ≤ (uniq us).length) := Lib.hid (uniq_take_le us (i + 1))
        have Hr1 := Lib.hid hr1; have Hr2 := Lib.hid hr2; have Him := Lib.hid him
        clear hin2 hr1 hr2 him
        go_wp2_with (first
          | (at_lookup; refine wpList_lookup_own_ok_int _ rfl _ _ 44 rfl 32 32 .u64 lawU Try.underlying44 Try.underlying32 (zeroU _) w.heap.size i D rfl Hmap.out _ _ rfl (keyU Hx64.out) ?_; intro c hat hwc; clear hat hwc)
          | (at_mapUpdate; refine wpList_mapUpdate_own _ rfl _ _ _ 44 rfl 32 32 lawU Try.underlying44 (plainElem (H := Unit) Try.prog 32) w.heap.size i D rfl Hmap.out Him.out _ _ _ rfl rfl (keyU Hx64.out) (.lit (.int .u64 (L : Int))) [] (plainElem_int Try.underlying32 (WalkArith.wf_u64 (by omega))) ?_; intro w1 hmap1 hgrow1; have Hmap1 : Hid (OMap w1 w.heap.size (i + 1) (D.put (.int .u64 (x : Int)) (.lit (.int .u64 (L : Int))))) := Lib.hid hmap1; have Hown1 := Lib.hid (Hown.out.far hgrow1 (fun e => by have := (Hown.out.block _ e.symm).1; omega)); have Hm1 := Lib.hid (Hm.out.grown hgrow1 (fun k hk hlt => by injection hk with hk; omega)); have hsz1 : w.heap.size + 1 ≤ w1.heap.size := Nat.lt_of_lt_of_le Hlt.out hgrow1.size; clear hmap1 hgrow1)
          | (at_builtin; refine wpList_app1 rfl (.tmp 29) (.tmp 31) _ rfl eltU rfl Hown1.out rfl rfl rfl Hr1.out Hr2.out hsz1 ?_; intro v' w2 HO HBl; have HO' : Hid (Own (w.heap.size + 1) w2 32 v' (cellsU (uniq (us.take (i + 1))))) := Lib.hid (by rw [Hq.out, cellsU_snoc]; exact HO.out); clear HO; obtain ⟨A5, L5, c5, rfl, HL5, _, _⟩ := own_formUN HO'.out; obtain rfl := HL'.out L5 HL5.out))
        · have Hmap2 := Lib.hid (Hmap1.out.mod (Mod.of_below HBl.out) (by omega))
          have Hm2 := Lib.hid (Hm1.out.trans (Mod.of_below HBl.out) (fun i hi h => by omega))
          go_ret2
          exact ⟨_, w.heap.size, _, _, _, rfl, Nat.le_refl _, HO'.out.mono (Nat.le_succ _), Hmap2.out, Hm2.out, by have := HL5.out; omega, .inl ⟨by have := HL5.out; omega, by have := HL5.out; have := Hmono.out; omega⟩⟩
        · have Hmap2 := Lib.hid (Hmap1.out.mod (Mod.of_below HBl.out) (by omega))
          have Hm2 := Lib.hid (Hm1.out.trans (Mod.of_below HBl.out) (fun i hi h => by omega))
          go_roundg (gk - 1)
          case measure => have := Hil.out; omega
          case rel => exact ⟨i + 1, by have := Hil.out; omega, by go_num, _, HO'.out, Hmap2.out, Hput.out, by have := HL5.out; omega, Hm2.out⟩
    · have hi : i = n := by have := Hil.out; omega
      subst hi
      go_wp2_with fail
      go_ret2
      have e : us.take i = us := List.take_of_length_le (by rw [Hul.out]; exact Nat.le_refl _)
      have h1 := Hown.out; have h2 := Hplc.out; have h3 := Hlen.out
      rw [e] at h1 h2 h3
      exact ⟨_, w.heap.size, _, _, _, rfl, Nat.le_refl _, h1.mono (Nat.le_succ _), Hmap.out, Hm.out, by omega, .inr ⟨rfl, h3, h2⟩⟩
end Go.Proofs.Ytldjobaafambbaa

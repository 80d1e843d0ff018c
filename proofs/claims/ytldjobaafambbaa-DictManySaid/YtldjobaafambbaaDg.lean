/- The list that bytes begin with: getList. -/
import Derived.Test.YtldjobaafambbaaDk
import Derived.Test.YtldjobaafambbaaVg
import Derived.Deep.DeepCutAuto
import Derived.Deep.LoopGhost
namespace Go.Proofs.Ytldjobaafambbaa
open Go.RowKit Go.Maps

/-- What getList answers. -/
def GetLE (w w' : World) (bs : List Nat) (e : Ending) : Prop :=
  ∃ (A1 : Option Addr) (L c1 : Nat) (l : List Nat) (A2 : Option Addr) (n2 c2 : Nat), e = .returned (.tuple #[.slice A1 L c1, .slice A2 n2 c2]) ∧ Own w.heap.size w' 32 (.slice A1 L c1) (cellsU l) ∧ l.length = L ∧ Mod (fun _ => False) w w' ∧
    ((L = 0 ∧ ∀ l rest, getL bs = some (l, rest) → (dec bs).1 = 0) ∨ (¬ L = 0 ∧ ∃ rest, getL bs = some (l, rest) ∧ Rds w' w'.heap.size A2 n2 (cells8 rest) ∧ A2 ≠ none ∧ n2 ≤ c2 ∧ c2 ≤ maxLen))
/-- What getList has read of i numbers. -/
def GetLTo (w wr : World) (b1 : List Nat) (i : Nat) (s0 s6 : Value) : Prop :=
  ∃ (A : Option Addr) (n c : Nat) (l r : List Nat), s0 = .slice A n c ∧ n ≤ c ∧ c ≤ maxLen ∧ Rds wr w.heap.size A n (cells8 r) ∧ rdV i b1 = some (l, r) ∧ Own w.heap.size wr 32 s6 (cellsU l) ∧ Mod (fun _ => False) w wr ∧ (i = 0 ∨ A ≠ none)
set_option maxHeartbeats 4000000 in
set_option maxRecDepth 100000 in
theorem getList_any (A : Option Addr) (n cap B : Nat) (bs : List Nat) (w : World) (hs : Rds w B A n (cells8 bs)) (hB : B ≤ w.heap.size) (hlt : lt256 bs) (hnc : n ≤ cap) (hcm : cap ≤ maxLen) :
    Calls Try.prog 30 #[.slice A n cap] w fun e w' => GetLE w w' bs e := by
  have hul : bs.length = n := by have := hs.1; rwa [cells8_length] at this
  have hcall := vget_any A n cap B bs w hs hlt hnc hcm
  obtain ⟨K, hK⟩ : ∃ K, (dec bs).1 = K := ⟨_, rfl⟩
  obtain ⟨p, hp⟩ : ∃ p, (dec bs).2 = p := ⟨_, rfl⟩
  have hpn : p ≤ n := by
    rw [← hp, ← hul]
    rcases Nat.eq_zero_or_pos (dec bs).2 with h | h
    · omega
    · exact (dec_some hlt h).1
  rw [hK, hp] at hcall
  by_cases hK256 : 256 < K
  · have hKi : (256 : Int) < (K : Int) := by omega
    have Hn : Hid (∀ l rest, getL bs = some (l, rest) → (dec bs).1 = 0) := Lib.hid (fun l rest h => by unfold getL at h; rw [if_pos (by rw [hK]; exact hK256)] at h; cases h)
    have Hcall := Lib.hid hcall
    clear hs hcall hK hp hpn hul hK256
    go_enter Try.func30, Try.ntmps30
    go_wp2_with fail
    refine Hcall.out.mono ?_
    rintro e w' ⟨rfl, rfl⟩
    go_wp2_with fail
    go_ret2
    exact ⟨none, 0, 0, [], none, 0, 0, rfl, Own.nil _ _ _, rfl, Mod.refl _ _, .inl ⟨rfl, Hn.out⟩⟩
  · have hKi : ¬ (256 : Int) < (K : Int) := by omega
    obtain ⟨A1, hA1⟩ : ∃ A1, (if cap = p then A else A.map (·.add p)) = A1 := ⟨_, rfl⟩
    have hr1 : Rds w w.heap.size A1 (n - p) (cells8 (bs.drop p)) := by
      have h := (hs.more hB).drop hpn hnc
      rw [show (cells8 bs).drop p = cells8 (bs.drop p) by simp [cells8, List.map_drop]] at h
      rw [← hA1]
      exact h
    have hpi : (p : Int) ≤ (n : Int) := by omega
    have hpc : (p : Int) ≤ (cap : Int) := by omega
    have hp0 : (0 : Int) ≤ (p : Int) := by omega
    have HgL : Hid (getL bs = rdV K (bs.drop p)) := Lib.hid (by unfold getL; rw [hK, hp, if_neg hK256])
    have G0 : Hid (GetLTo w w (bs.drop p) 0 (.slice A1 (n - p) (cap - p)) (.slice none 0 0)) := Lib.hid ⟨A1, n - p, cap - p, [], bs.drop p, rfl, by omega, by omega, hr1, rfl, Own.nil _ _ _, Mod.refl _ _, .inl rfl⟩
    have Hlt : Hid (lt256 (bs.drop p)) := Lib.hid (fun b hb => hlt b (List.mem_of_mem_drop hb))
    have Hcall := Lib.hid hcall; have HK := Lib.hid hK
    have hK2 : K ≤ 256 := by omega
    clear hs hcall hK hp hul hr1 hpn hlt hB hcm hnc hK256
    go_enter Try.func30, Try.ntmps30
    go_wp2_with fail
    refine Hcall.out.mono ?_
    rintro e w' ⟨rfl, rfl⟩
    go_wp2_with fail
    clear hpi hpc hp0 hA1
    go_loopg [0, 6, 20] K (fun l s0 s6 s20 wr => ∃ i : Nat, i + l = K ∧ s20 = .int .u64 (i : Int) ∧ GetLTo w wr (bs.drop p) i s0 s6)
    case atStart => exact ⟨0, by omega, rfl, G0.out⟩
    case round =>
      obtain ⟨i, hil, rfl, A0, n0, c0, l, r, rfl, hnc0, hcm0, hr0, hrd, hown, hm, hA0⟩ := hrel
      obtain ⟨hl1, hl2, hl3, _⟩ := rdV_some _ _ _ _ Hlt.out hrd
      have hrl : r.length = n0 := by have := hr0.1; rwa [cells8_length] at this
      have Hr0 := Lib.hid hr0; have Hrd := Lib.hid hrd; have Hown := Lib.hid hown; have Hm := Lib.hid hm; have HA0 := Lib.hid hA0; have Hil := Lib.hid hil; have Hl1 := Lib.hid hl1; have Hl3 := Lib.hid hl3
      have Hcm0 := Lib.hid hcm0
      clear hr0 hrd hown hm hA0 hil G0 hl1 hl2 hl3 hcm0
      by_cases hin : i < K
      · have hcall := vget_any A0 n0 c0 _ r wr Hr0.out Hl3.out hnc0 Hcm0.out
        have hx64 : (dec r).1 < 2 ^ 64 := dec_lt Hl3.out
        have hst := rdV_succ i (bs.drop p)
        rw [Hrd.out] at hst
        have hst' : rdV (i + 1) (bs.drop p) = if (dec r).2 = 0 then none else some (l ++ [(dec r).1], r.drop (dec r).2) := hst
        have hqr : (dec r).2 ≤ r.length := by
          rcases Nat.eq_zero_or_pos (dec r).2 with h | h
          · omega
          · exact (dec_some Hl3.out h).1
        obtain ⟨x, hx⟩ : ∃ x, (dec r).1 = x := ⟨_, rfl⟩
        obtain ⟨q, hq⟩ : ∃ q, (dec r).2 = q := ⟨_, rfl⟩
        rw [hx, hq] at hcall hst'
        rw [hx] at hx64
        rw [hq, hrl] at hqr
        have Hcall2 := Lib.hid hcall
        clear hcall hst hrl hx hq
        by_cases hq0 : q = 0
        · have hqb : ((q : Int) == 0) = true := by simp; omega
          have Hn : Hid (∀ l rest, getL bs = some (l, rest) → (dec bs).1 = 0) := Lib.hid (fun l rest h => by
            rw [HgL.out, rdV_none_le (hst'.trans (if_pos hq0)) (by omega)] at h
            cases h)
          clear hst' hx64 hq0 hqr
          go_wp2_with fail
          refine Hcall2.out.mono ?_
          rintro e w' ⟨rfl, rfl⟩
          go_wp2_with fail
          go_ret2
          exact ⟨none, 0, 0, [], none, 0, 0, rfl, Own.nil _ _ _, rfl, Hm.out, .inl ⟨rfl, Hn.out⟩⟩
        · have hqb : ((q : Int) == 0) = false := by simp; omega
          obtain ⟨A1', hA1⟩ : ∃ A1, (if c0 = q then A0 else A0.map (·.add q)) = A1 := ⟨_, rfl⟩
          have hr1 : Rds wr w.heap.size A1' (n0 - q) (cells8 (r.drop q)) := by
            have h := Hr0.out.drop hqr hnc0
            rw [show (cells8 r).drop q = cells8 (r.drop q) by simp [cells8, List.map_drop]] at h
            rw [← hA1]
            exact h
          have hA1n : A1' ≠ none := by
            obtain ⟨ad, e, _⟩ := Hr0.out.2 (by omega)
            rw [← hA1, e]
            split <;> simp
          have Hr1 := Lib.hid hr1; have HA1n := Lib.hid hA1n
          have Hst : Hid (rdV (i + 1) (bs.drop p) = some (l ++ [x], r.drop q)) := Lib.hid (hst'.trans (if_neg hq0))
          have hqi : (q : Int) ≤ (n0 : Int) := by omega
          have hqc : (q : Int) ≤ (c0 : Int) := by omega
          have hqz : (0 : Int) ≤ (q : Int) := by omega
          have hnc1 : n0 - q ≤ c0 - q := by omega
          have hcm1 : Hid (c0 - q ≤ maxLen) := Lib.hid (by have := Hcm0.out; omega)
          have hra : (cellsU l).length + 1 ≤ maxLen := by rw [cellsU_length, Hl1.out]; unfold maxLen; omega
          have hrb : ((cellsU l).length + 1) * 8 ≤ 140737488355328 := by rw [cellsU_length, Hl1.out]; omega
          have Hra := Lib.hid hra; have Hrb := Lib.hid hrb
          clear hst' hx64 hq0 hr1 hA1n hra hrb
          go_wp2_with fail
          refine Hcall2.out.mono ?_
          rintro e w' ⟨rfl, rfl⟩
          go_wp2_with (at_builtin; refine wpList_app1 rfl (.tmp 29) (.tmp 31) _ rfl eltU rfl Hown.out rfl rfl rfl Hra.out Hrb.out Hm.out.size ?_; intro v' w2 HO HBl)
          have HG : Hid (GetLTo w w2 (bs.drop p) (i + 1) (.slice A1' (n0 - q) (c0 - q)) v') := Lib.hid ⟨A1', n0 - q, c0 - q, l ++ [x], r.drop q, rfl, hnc1, hcm1.out, Hr1.out.below HBl.out, Hst.out, by rw [cellsU_snoc]; exact HO.out, Hm.out.trans (Mod.of_below HBl.out) (fun i hi h => by omega), .inr HA1n.out⟩
          clear HO HBl
          go_roundg (gk - 1)
          case measure => have := Hil.out; omega
          case rel => exact ⟨i + 1, by have := Hil.out; omega, by go_num, HG.out⟩
      · have hi : i = K := by have := Hil.out; omega
        subst hi
        obtain ⟨A6, L, c6, rfl, HL, _, _⟩ := own_formUN Hown.out
        go_wp2_with fail
        go_ret2
        have hLi : L = i := by have h1 := HL.out; have h2 := Hl1.out; omega
        refine ⟨A6, L, c6, l, A0, n0, c0, rfl, Hown.out, HL.out, Hm.out, ?_⟩
        by_cases hL0 : L = 0
        · exact .inl ⟨hL0, fun _ _ _ => by rw [HK.out]; omega⟩
        · exact .inr ⟨hL0, r, HgL.out.trans Hrd.out, Hr0.out.more Hm.out.size, HA0.out.resolve_left (by omega), hnc0, Hcm0.out⟩
end Go.Proofs.Ytldjobaafambbaa

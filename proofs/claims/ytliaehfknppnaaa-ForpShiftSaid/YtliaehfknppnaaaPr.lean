/- Bytes are read as values by their least: read, Decode. -/
import Derived.Test.YtliaehfknppnaaaPp
import Derived.Test.YtliaehfknppnaaaEa
import Derived.Test.YtliaehfknppnaaaVg
namespace Go.Proofs.Ytliaehfknppnaaa
open Go.RowKit

theorem get_oh (g row k : Nat) (N : Int) (s : Option (Nat × Nat)) (w : World) (hN : FitI N) (hk : max 0 (min N 64) = (k : Int)) (h : RdrO w g row s) :
    Calls Try.prog 32 #[.pointer (some ⟨g, 0, none⟩), .int .i64 N] w fun e w' => e = .returned (.int .u64 ((getO k s).1 : Int)) ∧ RdrO w' g row (getO k s).2 ∧ Mod (fun i => i = g) w w' := by
  cases s with
  | none =>
    refine (get_ans N k hN hk h (by omega)).mono ?_
    rintro e w' ⟨rfl, h1, h2⟩
    exact ⟨rfl, h1, h2⟩
  | some p =>
    obtain ⟨R, rem⟩ := p
    refine (get_ans N k hN hk h.1 h.2).mono ?_
    rintro e w' ⟨rfl, h1, h2⟩
    by_cases hkr : k ≤ rem
    · rw [ans_yes hkr] at h1 ⊢
      have e1 : getO k (some (R, rem)) = (R / 2 ^ (rem - k), some (R % 2 ^ (rem - k), rem - k)) := if_pos hkr
      rw [e1]
      exact ⟨rfl, ⟨h1, by have := h.2; show rem - k ≤ 8000000; omega⟩, h2⟩
    · rw [ans_no (fun h => hkr h.2)] at h1 ⊢
      have e1 : getO k (some (R, rem)) = (0, none) := if_neg hkr
      rw [e1]
      exact ⟨rfl, h1, h2⟩
/-- bytes.Equal. -/
theorem bequal_any (A A2 : Option Addr) (n n2 c c2 B B2 : Nat) (xs bs : List Nat) (w : World) (h1 : Rds w B A n (cells8 xs)) (h2 : Rds w B2 A2 n2 (cells8 bs)) (l1 : lt256 xs) (l2 : lt256 bs) :
    Calls Try.prog 16 #[.slice A n c, .slice A2 n2 c2] w fun e w' => e = .returned (.bool (decide (xs = bs))) ∧ Mod (fun _ => False) w w' := by
  obtain ⟨s1, hs1⟩ : ∃ s1, strOf xs = s1 := ⟨_, rfl⟩
  obtain ⟨s2, hs2⟩ : ∃ s2, strOf bs = s2 := ⟨_, rfl⟩
  have c1 := fun c => conv_rds (P := Try.prog) (c := c) Try.underlying27 Try.underlying5 Try.underlying9 w h1 l1
  have c2' := fun c => conv_rds (P := Try.prog) (c := c) Try.underlying27 Try.underlying5 Try.underlying9 w h2 l2
  rw [hs1] at c1
  rw [hs2] at c2'
  have hq : (s1.toList == s2.toList) = decide (xs = bs) := by
    by_cases h : xs = bs
    · have e : s1 = s2 := by rw [← hs1, ← hs2, h]
      rw [e, decide_eq_true h, beq_self_eq_true]
    · rw [decide_eq_false h, beq_eq_false_iff_ne]
      intro e
      rw [ByteArray.toList_eq, ByteArray.toList_eq] at e
      exact h (strOf_inj l1 l2 (by rw [hs1, hs2]; exact ByteArray.ext (Array.toList_inj.1 e)))
  obtain ⟨b, hb⟩ : ∃ b, decide (xs = bs) = b := ⟨_, rfl⟩
  rw [hb] at hq ⊢
  clear h1 h2 l1 l2 hs1 hs2 hb
  go_enter Try.func16, Try.ntmps16
  go_wp2_with fail
  go_ret
  exact ⟨rfl, Mod.refl _ _⟩
/-- What read tells of bytes. -/
def ReadP (N : Nat) (bs : List Nat) : Option (List Nat) → Prop
  | none => decP N bs = none
  | some v => v.length = N ∧ (∀ x ∈ v, x < 2 ^ 64) ∧ decP N bs = if encP v = bs then some v else none
theorem readP_nought (bs : List Nat) : ReadP 0 bs (some []) := by
  refine ⟨rfl, (fun _ h => by cases h), ?_⟩
  unfold decP
  rw [if_pos rfl, encP_nil]
  by_cases h : bs = []
  · rw [if_pos h, if_pos h.symm]
  · rw [if_neg h, if_neg (fun e => h e.symm)]
theorem decP_early {N : Nat} {bs : List Nat} (hN : ¬ N = 0) (h : (dec bs).2 = 0 ∨ bs.length ≤ (dec bs).2) : decP N bs = none := by
  unfold decP
  rw [if_neg hN, if_pos (h.elim .inl (fun h => .inr (.inl h)))]
theorem encP_head {N : Nat} {v bs : List Nat} (hN : ¬ N = 0) (hl : v.length = N) (hv : ∀ x ∈ v, x < 2 ^ 64) (e : encP v = bs) : bs.getD (dec bs).2 0 = widV v ∧ bs.drop ((dec bs).2 + 1) = packW (widV v) (difV v) := by
  subst e
  obtain ⟨h1, h2, h3, _⟩ := encP_parts (v := v) (by rintro rfl; exact hN hl.symm) hv
  rw [h1]
  exact ⟨h2, h3⟩
theorem decP_few {N : Nat} {bs : List Nat} (hN : ¬ N = 0) (h : 8 * (bs.drop ((dec bs).2 + 1)).length < N * bs.getD (dec bs).2 0) : decP N bs = none :=
  decP_none fun v hl hv e => by
    obtain ⟨h1, h2⟩ := encP_head hN hl hv e
    rw [h1, h2, packW_len, difV_len, hl, Nat.mul_comm (widV v) N] at h
    omega
/-- What the numbers that were read are. -/
def addL (lo : Nat) (l : List Nat) : List Nat := l.map fun x => (x + lo) % 2 ^ 64
theorem addL_len (lo : Nat) (l : List Nat) : (addL lo l).length = l.length := by simp [addL]
theorem addL_snoc (lo : Nat) (l : List Nat) (x : Nat) : addL lo (l ++ [x]) = addL lo l ++ [(x + lo) % 2 ^ 64] := by simp [addL]
theorem addL_lt (lo : Nat) (l : List Nat) : ∀ x ∈ addL lo l, x < 2 ^ 64 := by
  intro x hx
  obtain ⟨y, _, rfl⟩ := List.mem_map.1 hx
  exact Nat.mod_lt _ (Nat.two_pow_pos 64)
theorem readP_done {N k sz lo : Nat} {bs : List Nat} (hN : ¬ N = 0) (h1 : ¬ (dec bs).2 = 0) (h2 : ¬ bs.length ≤ (dec bs).2) (hsz : bs.getD (dec bs).2 0 = sz) (hlo : (dec bs).1 = lo) (hk : k = min sz 64) :
    ReadP N bs (some (addL lo (rdW k N (some (val (bs.drop ((dec bs).2 + 1)), 8 * (bs.drop ((dec bs).2 + 1)).length))))) := by
  refine ⟨by rw [addL_len, rdW_len], addL_lt _ _, ?_⟩
  by_cases h64 : 64 < sz
  · rw [if_neg (fun e => by
      have := (encP_head hN (by rw [addL_len, rdW_len]) (addL_lt _ _) e).1
      rw [hsz] at this
      have hw := widV_le (addL lo (rdW k N (some (val (bs.drop ((dec bs).2 + 1)), 8 * (bs.drop ((dec bs).2 + 1)).length))))
      omega)]
    unfold decP
    rw [if_neg hN, if_pos (.inr (.inr (by rw [hsz]; exact h64)))]
  · have e : addL lo (rdW k N (some (val (bs.drop ((dec bs).2 + 1)), 8 * (bs.drop ((dec bs).2 + 1)).length))) = outP N bs := by
      unfold outP
      rw [hsz, hlo, show k = sz by omega]
      rfl
    rw [e]
    unfold decP
    rw [if_neg hN, if_neg (by rw [hsz]; rintro (h | h | h); exact h1 h; exact h2 h; exact h64 h)]
/-- What read has read of i numbers. -/
def ReadTo (w w1 wr : World) (g row k lo : Nat) (s0 : Option (Nat × Nat)) (i : Nat) (v : Value) : Prop :=
  Own w1.heap.size wr 31 v (cellsU (addL lo (rdW k i s0))) ∧ RdrO wr g row (lfW k i s0) ∧ Mod (fun _ => False) w wr ∧ w1.heap.size ≤ wr.heap.size
set_option maxHeartbeats 4000000 in
set_option maxRecDepth 100000 in
theorem pread_any (A : Option Addr) (n cap B N : Nat) (bs : List Nat) (w : World) (hs : Rds w B A n (cells8 bs)) (hB : B ≤ w.heap.size) (hlt : lt256 bs) (hnc : n ≤ cap) (hcm : cap ≤ maxLen) (hn : n ≤ 1000000) (hN : N ≤ 65535) :
    Calls Try.prog 15 #[.slice A n cap, .int .i64 (N : Int)] w fun e w' => ∃ o, EncE w w' o e ∧ ReadP N bs o := by
  have hul : bs.length = n := by have := hs.1; rwa [cells8_length] at this
  by_cases hN0 : N = 0
  · subst hN0
    clear hs
    go_enter Try.func15, Try.ntmps15
    go_wp2_with fail
    go_ret2
    exact ⟨some [], ⟨_, rfl, Own.nil _ _ _, Mod.refl _ _⟩, readP_nought bs⟩
  · have hNb : ((N : Int) == 0) = false := by simp; omega
    have hcall := vget_any A n cap B bs w hs hlt hnc hcm
    obtain ⟨lo, hlo⟩ : ∃ lo, (dec bs).1 = lo := ⟨_, rfl⟩
    obtain ⟨a, ha⟩ : ∃ a, (dec bs).2 = a := ⟨_, rfl⟩
    rw [hlo, ha] at hcall
    have Hcall := Lib.hid hcall
    have Hlo := Lib.hid hlo; have Ha := Lib.hid ha; have Hlt := Lib.hid hlt; have HB := Lib.hid hB; have Hul := Lib.hid hul; have Hcm := Lib.hid hcm; have Hs := Lib.hid hs
    have hlo64 : Hid (lo < 2 ^ 64) := Lib.hid (by rw [← hlo]; exact dec_lt hlt)
    have hal : a ≤ n := by
      rw [← ha, ← hul]
      rcases Nat.eq_zero_or_pos (dec bs).2 with h | h
      · omega
      · exact (dec_some hlt h).1
    clear hcall hlo ha hlt hB hul hs hcm
    by_cases ha0 : a = 0
    · have hab : ((a : Int) == 0) = true := by simp; omega
      have Hd : Hid (decP N bs = none) := Lib.hid (decP_early hN0 (.inl (by rw [Ha.out]; exact ha0)))
      clear Hs ha0
      go_enter Try.func15, Try.ntmps15
      go_wp2_with fail
      refine Hcall.out.mono ?_
      rintro e w' ⟨rfl, rfl⟩
      go_wp2_with fail
      go_ret2
      exact ⟨none, ⟨rfl, Mod.refl _ _⟩, Hd.out⟩
    · have hab : ((a : Int) == 0) = false := by simp; omega
      by_cases han : a = n
      · have hann : ((a : Int) == (n : Int)) = true := by simp; omega
        have Hd : Hid (decP N bs = none) := Lib.hid (decP_early hN0 (.inr (by rw [Ha.out, Hul.out]; omega)))
        clear Hs ha0 han hal
        go_enter Try.func15, Try.ntmps15
        go_wp2_with fail
        refine Hcall.out.mono ?_
        rintro e w' ⟨rfl, rfl⟩
        go_wp2_with fail
        go_ret2
        exact ⟨none, ⟨rfl, Mod.refl _ _⟩, Hd.out⟩
      · have hann : ((a : Int) == (n : Int)) = false := by simp; omega
        have hani : (a : Int) < (n : Int) := by omega
        have ha0i : (0 : Int) ≤ (a : Int) := by omega
        obtain ⟨ad, u, rfl, _, hu, hcu⟩ := Hs.out.at_ (show a < n by omega)
        rw [cells8_get] at hu
        obtain ⟨sz, hsz, rfl⟩ := Option.map_eq_some_iff.1 hu
        have hsz256 : sz < 256 := Hlt.out sz (List.mem_of_getElem? hsz)
        have Hsz : Hid (bs.getD (dec bs).2 0 = sz) := Lib.hid (by rw [Ha.out, List.getD_eq_getElem?_getD, hsz]; rfl)
        obtain ⟨p, hp⟩ : ∃ p, p = a + 1 := ⟨_, rfl⟩
        have hpi : (a : Int) + 1 = (p : Int) := by omega
        have hpn : p ≤ n := by omega
        obtain ⟨A1, hA1⟩ : ∃ A1, (if cap = p then some ad else some (ad.add p)) = A1 := ⟨_, rfl⟩
        have hr1 : Rds w B A1 (n - p) (cells8 (bs.drop p)) := by
          have h := Hs.out.drop hpn hnc
          rw [show (cells8 bs).drop p = cells8 (bs.drop p) by simp [cells8, List.map_drop]] at h
          rw [← hA1]
          exact h
        have hA1n : A1 ≠ none := by rw [← hA1]; split <;> simp
        have hw0 : 0 < w.heap.size := (Hs.out.some_mem HB.out (by omega)).1
        obtain ⟨row0, hsee, _⟩ := (hr1.more HB.out).sees hw0
        have hlt2 : lt256 (bs.drop p) := fun b hb => Hlt.out b (List.mem_of_mem_drop hb)
        have hbd : (bs.drop p).length = n - p := by rw [List.length_drop, Hul.out]
        obtain ⟨q, hq⟩ : ∃ q, q = N * sz := ⟨_, rfl⟩
        have hqi : (N : Int) * (sz : Int) = (q : Int) := by rw [hq, Int.natCast_mul]
        have hq9 : q ≤ 65535 * 255 := by rw [hq]; exact Nat.mul_le_mul hN (by omega)
        have hqb : q ≤ 16711425 := hq9
        obtain ⟨k, hk⟩ : ∃ k, k = min sz 64 := ⟨_, rfl⟩
        have hk64 : k ≤ 64 := by omega
        have hki : max 0 (min (sz : Int) 64) = (k : Int) := by omega
        obtain ⟨s0, hs0⟩ : ∃ s0, s0 = some (val (bs.drop p), 8 * (bs.drop p).length) := ⟨_, rfl⟩
        have hpc : p ≤ cap := by omega
        have hpci : (p : Int) ≤ (cap : Int) := by omega
        have hpni : (p : Int) ≤ (n : Int) := by omega
        have hp0 : (0 : Int) ≤ (p : Int) := by omega
        have Hsee := Lib.hid hsee; have Hlt2 := Lib.hid hlt2; have Hbd := Lib.hid hbd; have Hq := Lib.hid hq; have Hk := Lib.hid hk; have Hs0 := Lib.hid hs0; have Hp := Lib.hid hp; have HA1n := Lib.hid hA1n; have Hw0 := Lib.hid hw0; have Hki := Lib.hid hki
        have hnew := fun c => newReader_any row0 A1 (n - p) c (bs.drop p) w Hsee.out (fun h => absurd h HA1n.out) (by omega) Hlt2.out
        have Hnew := Lib.hid hnew
        clear hu hsz hr1 hA1n hw0 hsee hlt2 hbd hq hk hs0 hp hki hnew hq9
        go_enter Try.func15, Try.ntmps15
        go_wp2_with fail
        refine Hcall.out.mono ?_
        rintro e w' ⟨rfl, rfl⟩
        go_wp2_with fail
        refine (Hnew.out _).mono ?_
        rintro e w1 ⟨g, rowr, rfl, hg1, _, hm1, hrd⟩
        have hgl := hrd.lt
        obtain ⟨row, hrow, _, hrd'⟩ := hrd.real (by have := Hw0.out; omega) (by omega)
        have Hrd := Lib.hid hrd'; have Hm1 := Lib.hid hm1; have Hg1 := Lib.hid hg1; have Hgl := Lib.hid hgl; have Hrow := Lib.hid hrow
        clear hg1 hm1 hrd hgl hrow hrd' hcu
        go_wp2_with fail
        refine (left_ab g row _ _ true w1 Hrd.out (by omega)).mono ?_
        rintro e w2 ⟨rfl, hm2⟩
        have Hm2 := Lib.hid (Hm1.out.trans hm2 (fun _ _ h => h))
        have R0 : Hid (ReadTo w w1 w2 g row k lo s0 0 (.slice none 0 0)) := Lib.hid ⟨Own.nil _ _ _, by
          have h := Hrd.out.mod hm2 (fun h => h) (fun _ h => h)
          rw [Hs0.out]
          exact ⟨by rw [Hbd.out]; exact h, by rw [Hbd.out]; omega⟩, Hm2.out, hm2.size⟩
        clear hm2
        by_cases hfew : 8 * (n - p) < q
        · obtain ⟨e8, he8⟩ : ∃ e8, e8 = 8 * (n - p) := ⟨_, rfl⟩
          rw [← he8] at hfew ⊢
          have hfi : (e8 : Int) < (q : Int) := by omega
          have Hd : Hid (decP N bs = none) := Lib.hid (decP_few hN0 (by rw [Hsz.out, Ha.out, ← Hp.out, Hbd.out, ← Hq.out, ← he8]; exact hfew))
          clear he8 hfew
          go_wp2_with fail
          go_ret2
          exact ⟨none, ⟨rfl, Hm2.out⟩, Hd.out⟩
        · obtain ⟨e8, he8⟩ : ∃ e8, e8 = 8 * (n - p) := ⟨_, rfl⟩
          rw [← he8] at hfew ⊢
          have hfi : ¬ (e8 : Int) < (q : Int) := by omega
          have he8b : e8 ≤ 8000000 := by omega
          have hfd : decide (e8 < q) = false := by simp; omega
          clear he8 hfew
          go_wp2_with fail
          go_loopg [10, 43] N (fun l s10 s43 wr => ∃ i : Nat, i + l = N ∧ s43 = .int .i64 (i : Int) ∧ ReadTo w w1 wr g row k lo s0 i s10)
          case atStart => exact ⟨0, by omega, rfl, R0.out⟩
          case round =>
            obtain ⟨i, hil, rfl, hown, hro, hm, hsz1⟩ := hrel
            have Hown := Lib.hid hown; have Hro := Lib.hid hro; have Hm := Lib.hid hm; have Hil := Lib.hid hil; have Hsz1 := Lib.hid hsz1
            clear hown hro hm hil hsz1 R0
            by_cases hin : i < N
            · go_wp2_with fail
              refine (get_oh g row k (sz : Int) _ wr ⟨by omega, by omega⟩ Hki.out Hro.out).mono ?_
              rintro e w3 ⟨rfl, h3, hm3⟩
              obtain ⟨x, hx⟩ : ∃ x, x = (getO k (lfW k i s0)).1 := ⟨_, rfl⟩
              have hx64 : x < 2 ^ 64 := by rw [hx]; exact getO_lt64 hk64 Hro.out.small
              rw [← hx]
              obtain ⟨y, hy⟩ : ∃ y, y = (x + lo) % 2 ^ 64 := ⟨_, rfl⟩
              have hyw : IntKind.u64.wrap ((lo : Int) + (x : Int)) = (y : Int) := by rw [IntKind.wrap_u64]; omega
              have Hx : Hid (addL lo (rdW k (i + 1) s0) = addL lo (rdW k i s0) ++ [y]) := Lib.hid (by rw [hy, hx, rdW_next, addL_snoc])
              rw [← lfW_next] at h3
              have Hro3 := Lib.hid h3
              have Hown3 : Hid (Own w1.heap.size w3 31 u10 (cellsU (addL lo (rdW k i s0)))) := Lib.hid (hm3.owns Hown.out (fun k hk e => by have := (Hown.out.block k hk).1; have := Hgl.out; omega))
              have Hm3 := Lib.hid (Hm.out.trans hm3 (fun i hi h => by have := Hg1.out; omega))
              have hsz3 : w1.heap.size ≤ w3.heap.size := Nat.le_trans Hsz1.out hm3.size
              have hr1 : (cellsU (addL lo (rdW k i s0))).length + 1 ≤ maxLen := by rw [cellsU_length, addL_len, rdW_len]; unfold maxLen; omega
              have hr2 : ((cellsU (addL lo (rdW k i s0))).length + 1) * 8 ≤ 140737488355328 := by rw [cellsU_length, addL_len, rdW_len]; omega
              have Hr1 := Lib.hid hr1; have Hr2 := Lib.hid hr2
              clear hx h3 hm3 hr1 hr2 Hown Hro Hm hy hx64
              go_wp2_with (at_builtin; refine wpList_app1 rfl (.tmp 45) (.tmp 51) _ rfl eltU rfl Hown3.out rfl rfl rfl Hr1.out Hr2.out hsz3 ?_; intro v' w4 HO HBl)
              have HU : Hid (ReadTo w w1 w4 g row k lo s0 (i + 1) v') := Lib.hid ⟨by rw [Hx.out, cellsU_snoc]; exact HO.out, Hro3.out.mod (Mod.of_below HBl.out) (by have := Hgl.out; omega) (fun _ => by have := Hrow.out; omega), Hm3.out.trans (Mod.of_below HBl.out) (fun i hi h => by have := Hm1.out.size; omega), Nat.le_trans hsz3 HBl.out.size⟩
              clear HO HBl
              go_roundg (gk - 1)
              case measure => have := Hil.out; omega
              case rel => exact ⟨i + 1, by have := Hil.out; omega, by go_num, HU.out⟩
            · have hi : i = N := by have := Hil.out; omega
              subst hi
              go_wp2_with fail
              go_ret2
              refine ⟨some (addL lo (rdW k i s0)), ⟨_, rfl, Hown.out.mono Hm1.out.size, Hm.out⟩, ?_⟩
              have h := readP_done (N := i) (bs := bs) hN0 (by rw [Ha.out]; exact ha0) (by rw [Ha.out, Hul.out]; omega) Hsz.out Hlo.out Hk.out
              rw [Ha.out, ← Hp.out, ← Hs0.out] at h
              exact h
set_option maxHeartbeats 1000000 in
set_option maxRecDepth 100000 in
theorem pdec_any (A : Option Addr) (n cap B N : Nat) (m : Int) (bs : List Nat) (w : World) (hs : Rds w B A n (cells8 bs)) (hB : B ≤ w.heap.size) (hlt : lt256 bs) (hnc : n ≤ cap) (hcm : cap ≤ maxLen) (hn : n ≤ 1000000) (hN : max 0 (min m 65535) = (N : Int)) :
    Calls Try.prog 7 #[.slice A n cap, .int .i64 m] w fun e w' => EncE w w' (decP N bs) e := by
  have Hs := Lib.hid hs; have Hlt := Lib.hid hlt; have HB := Lib.hid hB; have Hcm := Lib.hid hcm
  obtain ⟨mn, hmn⟩ : ∃ mn : Int, min m 65535 = mn := ⟨_, rfl⟩
  have hmin := minI_is (P := Try.prog) (t := 3) (ty := 3) hmn
  have hmax := maxI_is (P := Try.prog) (t := 3) (ty := 3) (n1 := 0) (n2 := mn) (m := (N : Int)) (by rw [← hmn]; exact hN)
  have hN65 : N ≤ 65535 := by omega
  clear hs hlt hB hcm hN hmn
  go_enter Try.func7, Try.ntmps7
  go_wp2_with fail
  clear hmin hmax
  refine (pread_any A n cap B N bs w Hs.out HB.out Hlt.out hnc Hcm.out hn hN65).mono ?_
  rintro e w1 ⟨o, hE, hR⟩
  cases o with
  | none =>
    obtain ⟨rfl, hm1⟩ := hE.none_ rfl
    have Hm1 := Lib.hid hm1; have HR : Hid (decP N bs = none) := Lib.hid hR
    clear hE hR hm1
    go_wp2_with fail
    go_ret2
    rw [HR.out]
    exact ⟨rfl, Hm1.out⟩
  | some v =>
    obtain ⟨V, rfl, ho1, hm1⟩ := hE.some_ rfl
    obtain ⟨hvl, hv64, hdec⟩ := hR
    obtain ⟨A1, L, c1, rfl, HL, hLc, hr1⟩ := own_formUN ho1
    have hLN : L ≤ 1000000 := by have := HL.out; omega
    have Hm1 := Lib.hid hm1; have Hr1 := Lib.hid hr1; have Ho1 := Lib.hid ho1; have Hv64 := Lib.hid hv64; have Hdec := Lib.hid hdec
    clear hE hm1 hr1 ho1 hv64 hdec hvl
    go_wp2_with fail
    refine (penc_any A1 L c1 _ v w1 Hr1.out (Nat.le_refl _) Hv64.out hLN).mono ?_
    rintro e w2 ⟨v2, rfl, ho2, hm2⟩
    obtain ⟨A2, L2, c2, rfl, _, _, _, hr2⟩ := own_formN8 ho2
    have Hr2 := Lib.hid hr2; have Hm2 := Lib.hid (Hm1.out.trans hm2 (fun _ _ h => h)); have Ho12 := Lib.hid (Ho1.out.mod hm2)
    have Hs2 := Lib.hid (Hs.out.mod Hm2.out HB.out (fun _ _ h => h))
    clear hm2 hr2 ho2
    go_wp2_with fail
    refine (bequal_any A2 A L2 n c2 cap _ B (encP v) bs w2 Hr2.out Hs2.out (encP_256 v) Hlt.out).mono ?_
    rintro e w3 ⟨rfl, hm3⟩
    have Hm3 := Lib.hid (Hm2.out.trans hm3 (fun _ _ h => h)); have Ho13 := Lib.hid (Ho12.out.mod hm3)
    clear hm3
    by_cases he : encP v = bs
    · have hde : decide (encP v = bs) = true := decide_eq_true he
      rw [hde]
      have Hd : Hid (decP N bs = some v) := Lib.hid (by rw [Hdec.out, if_pos he])
      clear he hde
      go_wp2_with fail
      go_ret2
      rw [Hd.out]
      exact ⟨_, rfl, Ho13.out, Hm3.out⟩
    · have hde : decide (encP v = bs) = false := decide_eq_false he
      rw [hde]
      have Hd : Hid (decP N bs = none) := Lib.hid (by rw [Hdec.out, if_neg he])
      clear he hde
      go_wp2_with fail
      go_ret2
      rw [Hd.out]
      exact ⟨rfl, Hm3.out⟩
end Go.Proofs.Ytliaehfknppnaaa

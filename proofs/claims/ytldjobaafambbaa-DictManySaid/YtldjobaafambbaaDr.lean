/- Bytes are read as values by their list: read, Decode. -/
import Derived.Test.YtldjobaafambbaaDe
import Derived.Test.YtldjobaafambbaaDg
import Derived.Test.YtldjobaafambbaaPp
import Derived.Test.YtldjobaafambbaaEa
import Derived.Test.YtldjobaafambbaaBq
import Derived.Test.YtldjobaafambbaaMn
namespace Go.Proofs.Ytldjobaafambbaa
open Go.RowKit Go.Maps

/-- What read has read of i values. -/
def DRead (w1 w2 wr : World) (g row S : Nat) (l : List Nat) (s0 : Option (Nat × Nat)) (i : Nat) (v : Value) : Prop :=
  Own w2.heap.size wr 32 v (cellsU (outD l (rdW S i s0))) ∧ RdrO wr g row (lfW S i s0) ∧ Mod (fun _ => False) w1 wr ∧ w2.heap.size ≤ wr.heap.size ∧ ∀ j ∈ rdW S i s0, j < l.length
set_option maxHeartbeats 4000000 in
set_option maxRecDepth 100000 in
theorem dread_any (A : Option Addr) (n cap B N : Nat) (bs : List Nat) (w : World) (hs : Rds w B A n (cells8 bs)) (hB : B ≤ w.heap.size) (hlt : lt256 bs) (hnc : n ≤ cap) (hcm : cap ≤ maxLen) (hn : n ≤ 1000000) (hN : N ≤ 65535) :
    Calls Try.prog 16 #[.slice A n cap, .int .i64 (N : Int)] w fun e w' => ∃ o, EncE w w' o e ∧ ReadD N bs o := by
  have hul : bs.length = n := by have := hs.1; rwa [cells8_length] at this
  by_cases hN0 : N = 0
  · subst hN0
    clear hs
    go_enter Try.func16, Try.ntmps16
    go_wp2_with fail
    go_ret2
    exact ⟨some [], ⟨_, rfl, Own.nil _ _ _, Mod.refl _ _⟩, readD_nought bs⟩
  · have hNb : ((N : Int) == 0) = false := by simp; omega
    have Hcall := Lib.hid (getList_any A n cap B bs w hs hB hlt hnc hcm)
    have Hlt := Lib.hid hlt; have Hul := Lib.hid hul
    clear hs hlt hul hcm hnc
    go_enter Try.func16, Try.ntmps16
    go_wp2_with fail
    refine Hcall.out.mono ?_
    rintro e w1 ⟨A1, L, c1, l, A2, n2, c2, rfl, ho1, hl1, hm1, hor⟩
    have Ho1 := Lib.hid ho1; have Hl1 := Lib.hid hl1; have Hm1 := Lib.hid hm1
    clear ho1 hl1 hm1 Hcall
    rcases hor with ⟨hL0, hno⟩ | ⟨hL0, rest, hgl, hr2, hA2, hnc2, hcm2⟩
    · have hLb : ((L : Int) == 0) = true := by simp; omega
      have Hd : Hid (decD N bs = none) := Lib.hid (decD_noL hN0 hno)
      clear hno hL0
      go_wp2_with fail
      go_ret2
      exact ⟨none, ⟨rfl, Hm1.out⟩, Hd.out⟩
    · have hLb : ((L : Int) == 0) = false := by simp; omega
      obtain ⟨a1, a2, a3, a4, a5, _⟩ := getL_some Hlt.out hgl
      have hL256 : L ≤ 256 := by have := Hl1.out; omega
      obtain ⟨g1, c1', e1, hg1, hg1l⟩ := Ho1.out.form' (by rw [cellsU_length, Hl1.out]; omega)
      rw [cellsU_length, Hl1.out] at e1
      injection e1 with e1 _ e2
      subst e1 e2
      have hrl : rest.length = n2 := by have := hr2.1; rwa [cells8_length] at this
      have hn2 : n2 ≤ 1000000 := by have := Hul.out; omega
      obtain ⟨S, hS⟩ : ∃ S, wid (L - 1) = S := ⟨_, rfl⟩
      have hS8 : S ≤ 64 := by rw [← hS]; exact wid_le _
      have hS' : wid (l.length - 1) = S := by rw [Hl1.out]; exact hS
      have Hsize : Hid (∀ W, Calls Try.prog 21 #[.slice (some ⟨g1, 0, none⟩) L c1] W fun e w' => e = .returned (.int .i64 (S : Int)) ∧ W = w') := Lib.hid (fun W => dsize_any _ L c1 S W hL0 (by omega) hS)
      have hw0 : 0 < w1.heap.size := by omega
      obtain ⟨row0, hsee, _⟩ := hr2.sees hw0
      have Hnew := Lib.hid (newReader_any row0 A2 n2 c2 rest w1 hsee (fun h => absurd h hA2) (by omega) a4)
      obtain ⟨q, hq⟩ : ∃ q, q = N * S := ⟨_, rfl⟩
      have hqi : (N : Int) * (S : Int) = (q : Int) := by rw [hq, Int.natCast_mul]
      have hq9 : q ≤ 65535 * 64 := by rw [hq]; exact Nat.mul_le_mul hN hS8
      have hqb : q ≤ 4194240 := hq9
      obtain ⟨s0, hs0⟩ : ∃ s0, s0 = some (val rest, 8 * rest.length) := ⟨_, rfl⟩
      have Hgl := Lib.hid hgl; have Ha3 := Lib.hid a3; have Hrl := Lib.hid hrl; have HS' := Lib.hid hS'; have Hw0 := Lib.hid hw0; have Hq := Lib.hid hq; have Hs0 := Lib.hid hs0; have HL0 := Lib.hid hL0
      clear hgl a1 a2 a3 a4 a5 hg1 hg1l hr2 hA2 hnc2 hcm2 hrl hS hS' hw0 hsee hq hs0 hq9 hL0
      go_wp2_with fail
      refine Hnew.out.mono ?_
      rintro e w2 ⟨g, rowr, rfl, hg2, _, hm2, hrd⟩
      have hgl := hrd.lt
      obtain ⟨row, hrow, _, hrd'⟩ := hrd.real (by have := Hw0.out; omega) (by omega)
      have Hrd := Lib.hid hrd'; have Hm2 := Lib.hid hm2; have Hg2 := Lib.hid hg2; have Hgl2 := Lib.hid hgl; have Hrow := Lib.hid hrow
      clear hg2 hm2 hrd hgl hrow hrd' Hnew
      go_wp2_with fail
      refine (left_ab g row _ _ true w2 Hrd.out (by omega)).mono ?_
      rintro e w3 ⟨rfl, hm3⟩
      have R0 : Hid (DRead w1 w2 w3 g row S l s0 0 (.slice none 0 0)) := Lib.hid ⟨Own.nil _ _ _, by
        have h := Hrd.out.mod hm3 (fun h => h) (fun _ h => h)
        rw [Hs0.out]
        exact ⟨by rw [Hrl.out]; exact h, by rw [Hrl.out]; omega⟩, Hm2.out.trans hm3 (fun _ _ h => h), hm3.size, fun _ h => by cases h⟩
      clear hm3
      obtain ⟨e8, he8⟩ : ∃ e8, e8 = 8 * n2 := ⟨_, rfl⟩
      rw [← he8]
      have he8b : e8 ≤ 8000000 := by omega
      have He8 := Lib.hid he8
      clear he8
      go_wp2_with fail
      refine (Hsize.out _).mono ?_
      rintro e w4 ⟨rfl, rfl⟩
      by_cases hfew : e8 < q
      · have hfi : (e8 : Int) < (q : Int) := by omega
        have Hd : Hid (decD N bs = none) := Lib.hid (decD_few Hlt.out hN0 Hgl.out HS'.out (by rw [Hrl.out, ← Hq.out, ← He8.out]; exact hfew))
        clear hfew
        go_wp2_with fail
        go_ret2
        exact ⟨none, ⟨rfl, Hm1.out.trans R0.out.2.2.1 (fun _ _ h => h)⟩, Hd.out⟩
      · have hfi : ¬ (e8 : Int) < (q : Int) := by omega
        have hfd : decide (e8 < q) = false := by simp; omega
        clear hfew
        go_wp2_with fail
        go_loopg [9, 31] N (fun l' s9 s31 wr => ∃ i : Nat, i + l' = N ∧ s31 = .int .i64 (i : Int) ∧ DRead w1 w2 wr g row S l s0 i s9)
        case atStart => exact ⟨0, by omega, rfl, R0.out⟩
        case round =>
          obtain ⟨i, hil, rfl, hown, hro, hm, hsz1, hall⟩ := hrel
          have Hown := Lib.hid hown; have Hro := Lib.hid hro; have Hm := Lib.hid hm; have Hil := Lib.hid hil; have Hsz1 := Lib.hid hsz1; have Hall := Lib.hid hall
          clear hown hro hm hil hsz1 hall R0
          by_cases hin : i < N
          · go_wp2_with fail
            refine (Hsize.out _).mono ?_
            rintro e w4 ⟨rfl, rfl⟩
            go_wp2_with fail
            refine (get_o g row S _ _ wr rfl hS8 Hro.out).mono ?_
            rintro e w3 ⟨rfl, h3, hm3⟩
            obtain ⟨x, hx⟩ : ∃ x, x = (getO S (lfW S i s0)).1 := ⟨_, rfl⟩
            rw [← hx]
            have hx64 : x < 2 ^ 64 := by rw [hx]; exact getO_lt64 hS8 Hro.out.small
            have Hx64 : Hid (Lt64 x) := Lib.hid hx64
            have Hxn : Hid (rdW S (i + 1) s0 = rdW S i s0 ++ [x]) := Lib.hid (by rw [hx, rdW_next])
            have Hxa : Hid ((rdW S N s0)[i]? = some x) := Lib.hid (by rw [rdW_at hin, rd1_getO, hx])
            rw [← lfW_next] at h3
            have Hro3 := Lib.hid h3
            have Hm3 := Lib.hid (Hm.out.trans hm3 (fun i hi h => by have := Hg2.out; omega))
            have Hown3 : Hid (Own w2.heap.size w3 32 u9 (cellsU (outD l (rdW S i s0)))) := Lib.hid (hm3.owns Hown.out (fun k hk e => by have := (Hown.out.block k hk).1; have := Hgl2.out; omega))
            have hsz3 : w2.heap.size ≤ w3.heap.size := Nat.le_trans Hsz1.out hm3.size
            clear hx h3 hm3 Hown Hro Hm hx64
            by_cases hxl : x < L
            · have hxi : ¬ (L : Int) ≤ (x : Int) := by omega
              have hxi' : (x : Int) < (L : Int) := by omega
              have hx0 : (0 : Int) ≤ (x : Int) := by omega
              obtain ⟨y, hy⟩ : ∃ y, l[x]? = some y := ⟨l[x]'(by rw [Hl1.out]; exact hxl), List.getElem?_eq_getElem _⟩
              have hcy : w3.cell? ⟨g1, x, none⟩ = some (.int .u64 (y : Int)) := by
                rw [(Ho1.out.mod Hm3.out).cell' rfl x (by rw [cellsU_length, Hl1.out]; exact hxl), cellsU_get, hy]
                rfl
              have Hxo : Hid (outD l (rdW S (i + 1) s0) = outD l (rdW S i s0) ++ [y]) := Lib.hid (by rw [Hxn.out, outD_snoc, List.getD_eq_getElem?_getD, hy]; rfl)
              have Hall2 : Hid (∀ j ∈ rdW S (i + 1) s0, j < l.length) := Lib.hid (by
                rw [Hxn.out]
                intro j hj
                rcases List.mem_append.1 hj with hj | hj
                · exact Hall.out j hj
                · rw [List.mem_singleton.1 hj, Hl1.out]; exact hxl)
              have hr1 : (cellsU (outD l (rdW S i s0))).length + 1 ≤ maxLen := by rw [cellsU_length, outD_len, rdW_len]; unfold maxLen; omega
              have hr2 : ((cellsU (outD l (rdW S i s0))).length + 1) * 8 ≤ 140737488355328 := by rw [cellsU_length, outD_len, rdW_len]; omega
              have Hr1 := Lib.hid hr1; have Hr2 := Lib.hid hr2
              clear hy hr1 hr2 hxl
              go_wp2_with (at_builtin; refine wpList_app1 rfl (.tmp 42) (.tmp 47) _ rfl eltU rfl Hown3.out rfl rfl rfl Hr1.out Hr2.out hsz3 ?_; intro v' w4 HO HBl)
              have HU : Hid (DRead w1 w2 w4 g row S l s0 (i + 1) v') := Lib.hid ⟨by rw [Hxo.out, cellsU_snoc]; exact HO.out, Hro3.out.mod (Mod.of_below HBl.out) (by have := Hgl2.out; omega) (fun _ => by have := Hrow.out; omega), Hm3.out.trans (Mod.of_below HBl.out) (fun i hi h => by have := Hm2.out.size; omega), Nat.le_trans hsz3 HBl.out.size, Hall2.out⟩
              clear HO HBl
              go_roundg (gk - 1)
              case measure => have := Hil.out; omega
              case rel => exact ⟨i + 1, by have := Hil.out; omega, by go_num, HU.out⟩
            · have hxi : (L : Int) ≤ (x : Int) := by omega
              have Hd : Hid (decD N bs = none) := Lib.hid (readD_far Hlt.out hN0 Hgl.out (by rw [Hl1.out]; exact HL0.out) HS'.out (by rw [← Hs0.out]; exact Hxa.out) (by rw [Hl1.out]; omega))
              clear hxl
              go_wp2_with fail
              go_ret2
              exact ⟨none, ⟨rfl, Hm1.out.trans Hm3.out (fun _ _ h => h)⟩, Hd.out⟩
          · have hi : i = N := by have := Hil.out; omega
            subst hi
            go_wp2_with fail
            go_ret2
            have h := readD_done Hlt.out hN0 Hgl.out (by rw [Hl1.out]; exact HL0.out) HS'.out (by rw [← Hs0.out]; exact Hall.out)
            rw [← Hs0.out] at h
            exact ⟨some (outD l (rdW S i s0)), ⟨_, rfl, Hown.out.mono (Nat.le_trans Hm1.out.size Hm2.out.size), Hm1.out.trans Hm.out (fun _ _ h => h)⟩, h⟩
set_option maxHeartbeats 1000000 in
set_option maxRecDepth 100000 in
theorem ddec_any (A : Option Addr) (n cap B N : Nat) (m : Int) (bs : List Nat) (w : World) (hs : Rds w B A n (cells8 bs)) (hB : B ≤ w.heap.size) (hlt : lt256 bs) (hnc : n ≤ cap) (hcm : cap ≤ maxLen) (hn : n ≤ 1000000) (hN : max 0 (min m 65535) = (N : Int)) :
    Calls Try.prog 7 #[.slice A n cap, .int .i64 m] w fun e w' => EncE w w' (decD N bs) e := by
  have Hs := Lib.hid hs; have Hlt := Lib.hid hlt; have HB := Lib.hid hB; have Hcm := Lib.hid hcm
  obtain ⟨mn, hmn⟩ : ∃ mn : Int, min m 65535 = mn := ⟨_, rfl⟩
  have hmin := minI_is (P := Try.prog) (t := 3) (ty := 3) hmn
  have hmax := maxI_is (P := Try.prog) (t := 3) (ty := 3) (n1 := 0) (n2 := mn) (m := (N : Int)) (by rw [← hmn]; exact hN)
  have hN65 : N ≤ 65535 := by omega
  clear hs hlt hB hcm hN hmn
  go_enter Try.func7, Try.ntmps7
  go_wp2_with fail
  clear hmin hmax
  refine (dread_any A n cap B N bs w Hs.out HB.out Hlt.out hnc Hcm.out hn hN65).mono ?_
  rintro e w1 ⟨o, hE, hR⟩
  cases o with
  | none =>
    obtain ⟨rfl, hm1⟩ := hE.none_ rfl
    have Hm1 := Lib.hid hm1; have HR : Hid (decD N bs = none) := Lib.hid hR
    clear hE hR hm1
    go_wp2_with fail
    go_ret2
    rw [HR.out]
    exact ⟨rfl, Hm1.out⟩
  | some v =>
    obtain ⟨V, rfl, ho1, hm1⟩ := hE.some_ rfl
    obtain ⟨hvl, hv64, hdec⟩ := hR
    obtain ⟨A1, L, c1, rfl, HL, hLc, hr1⟩ := own_formUN ho1
    have hLN : L ≤ 1000000 := by have := HL.out; omega
    have Hm1 := Lib.hid hm1; have Hr1 := Lib.hid hr1; have Ho1 := Lib.hid ho1; have Hv64 := Lib.hid hv64; have Hdec := Lib.hid hdec
    clear hE hm1 hr1 ho1 hv64 hdec hvl
    go_wp2_with fail
    refine (denc_any A1 L c1 _ v w1 Hr1.out (Nat.le_refl _) Hv64.out hLN).mono ?_
    intro e w2 hE2
    cases he : encD v with
    | none =>
      obtain ⟨rfl, hm2⟩ := hE2.none_ he
      have Hm2 := Lib.hid (Hm1.out.trans hm2 (fun _ _ h => h))
      have Hd : Hid (decD N bs = none) := Lib.hid (by rw [Hdec.out, he, if_neg (fun e => by cases e)])
      clear hE2 hm2 he
      go_wp2_with fail
      go_ret2
      rw [Hd.out]
      exact ⟨rfl, Hm2.out⟩
    | some cs =>
      obtain ⟨v2, rfl, ho2, hm2⟩ := hE2.some_ he
      obtain ⟨A2, L2, c2, rfl, _, _, _, hr2⟩ := own_formN8 ho2
      have Hr2 := Lib.hid hr2; have Hm2 := Lib.hid (Hm1.out.trans hm2 (fun _ _ h => h)); have Ho12 := Lib.hid (Ho1.out.mod hm2)
      have Hs2 := Lib.hid (Hs.out.mod Hm2.out HB.out (fun _ _ h => h))
      have Hcs := Lib.hid (encD_256 he); have Hdec2 : Hid (decD N bs = if cs = bs then some v else none) := Lib.hid (by rw [Hdec.out, he]; by_cases h : cs = bs <;> simp [h])
      clear hm2 hr2 ho2 hE2 he Hdec
      go_wp2_with fail
      refine (bequal_any A2 A L2 n c2 cap _ B cs bs w2 Hr2.out Hs2.out Hcs.out Hlt.out).mono ?_
      rintro e w3 ⟨rfl, hm3⟩
      have Hm3 := Lib.hid (Hm2.out.trans hm3 (fun _ _ h => h)); have Ho13 := Lib.hid (Ho12.out.mod hm3)
      clear hm3
      by_cases he : cs = bs
      · have hde : decide (cs = bs) = true := decide_eq_true he
        rw [hde]
        have Hd : Hid (decD N bs = some v) := Lib.hid (by rw [Hdec2.out, if_pos he])
        clear he hde
        go_wp2_with fail
        go_ret2
        rw [Hd.out]
        exact ⟨_, rfl, Ho13.out, Hm3.out⟩
      · have hde : decide (cs = bs) = false := decide_eq_false he
        rw [hde]
        have Hd : Hid (decD N bs = none) := Lib.hid (by rw [Hdec2.out, if_neg he])
        clear he hde
        go_wp2_with fail
        go_ret2
        rw [Hd.out]
        exact ⟨rfl, Hm3.out⟩
end Go.Proofs.Ytldjobaafambbaa

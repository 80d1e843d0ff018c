/- The document's own answer: bytes are read as values by their least. -/
import Derived.Test.YtliaehfknppnaaaPf
import Derived.Test.YtliaehfknppnaaaPr
import Derived.Test.YtliaehfknppnaaaHe
import Derived.Deep.RegionHeldLaw
import Derived.Deep.CutBlock
namespace Go.Proofs.Ytliaehfknppnaaa
open Go.RowKit

/-- What the document tells, and that it is these bytes, or not, as strings. -/
theorem str_ne {xs bs : List Nat} {s1 s2 : ByteArray} {b : Bool} (h1 : strOf xs = s1) (h2 : strOf bs = s2) (l1 : lt256 xs) (l2 : lt256 bs) (hb : decide (xs = bs) = b) : (s1.toList == s2.toList) = b ∧ (s1.toList != s2.toList) = !b := by
  have hq : (s1.toList == s2.toList) = b := by
    rw [← hb]
    by_cases h : xs = bs
    · have e : s1 = s2 := by rw [← h1, ← h2, h]
      rw [e, decide_eq_true h, beq_self_eq_true]
    · rw [decide_eq_false h, beq_eq_false_iff_ne]
      intro e
      rw [ByteArray.toList_eq, ByteArray.toList_eq] at e
      exact h (strOf_inj l1 l2 (by rw [h1, h2]; exact ByteArray.ext (Array.toList_inj.1 e)))
  exact ⟨hq, by unfold bne; rw [hq]⟩
/-- Encode, then string(..) of what it answers: the document's own. -/
theorem rpenc_at (A : Option Addr) (n cap B : Nat) (us : List Nat) (s : ByteArray) (w : World) (hs : Rds w B A n (cellsU us)) (hB : B ≤ w.heap.size) (hu : ∀ x ∈ us, x < 2 ^ 64) (hn : n ≤ 1000000) (hss : strOf (encP us) = s) :
    Calls Try.prog 13 #[.slice A n cap] w fun e w' => ∃ A' n' c', e = .returned (.slice A' n' c') ∧ (convert 27 9 (.slice A' n' c')).run Try.prog w' = .ok (.string s) w' ∧ Mod (fun _ => False) w w' := by
  subst hss
  refine (rpenc_any A n cap B us w hs hB hu hn).mono ?_
  rintro e w' ⟨v, rfl, ho, hm⟩
  obtain ⟨A', c', rfl, _, _, hr⟩ := own_form8 ho
  exact ⟨A', _, c', rfl, conv_rds Try.underlying27 Try.underlying5 Try.underlying9 w' hr (encP_256 us), hm⟩
/-- i of the numbers have the least added. -/
def mixL (lo i : Nat) (l : List Nat) : List Nat := addL lo (l.take i) ++ l.drop i
theorem mixL_len {lo i : Nat} {l : List Nat} : (mixL lo i l).length = l.length := by
  unfold mixL
  rw [List.length_append, addL_len, List.length_take, List.length_drop]
  omega
theorem mixL_zero (lo : Nat) (l : List Nat) : mixL lo 0 l = l := by unfold mixL addL; simp
theorem mixL_all {lo i : Nat} {l : List Nat} (h : l.length ≤ i) : mixL lo i l = addL lo l := by
  unfold mixL
  rw [List.take_of_length_le h, List.drop_of_length_le h, List.append_nil]
theorem mixL_at {lo i x : Nat} {l : List Nat} (h : l[i]? = some x) : (mixL lo i l)[i]? = some x := by
  have hi := (List.getElem?_eq_some_iff.1 h).1
  have hl : (addL lo (l.take i)).length = i := by rw [addL_len, List.length_take]; omega
  unfold mixL
  rw [List.getElem?_append_right (by omega), hl, Nat.sub_self, List.getElem?_drop, Nat.add_zero]
  exact h
theorem mixL_set {lo i x : Nat} {l : List Nat} (h : l[i]? = some x) : (mixL lo i l).set i ((x + lo) % 2 ^ 64) = mixL lo (i + 1) l := by
  have hi := (List.getElem?_eq_some_iff.1 h).1
  have hl : (addL lo (l.take i)).length = i := by rw [addL_len, List.length_take]; omega
  unfold mixL
  rw [List.set_append_right _ _ (by omega), hl, Nat.sub_self, drop_at' h, List.set_cons_zero, take_succ_of h, addL_snoc, List.append_assoc]
  rfl
theorem decP_bad {N : Nat} {bs : List Nat} (hN : ¬ N = 0) (h : (dec bs).2 = 0 ∨ bs.length ≤ (dec bs).2 ∨ 64 < bs.getD (dec bs).2 0) : decP N bs = none := by
  unfold decP
  rw [if_neg hN, if_pos h]
theorem decP_good {N lo a sz : Nat} {bs : List Nat} (hN : ¬ N = 0) (hlo : (dec bs).1 = lo) (ha : (dec bs).2 = a) (hsz : bs.getD a 0 = sz) (h0 : ¬ a = 0) (hn : a < bs.length) (h64 : sz ≤ 64) :
    decP N bs = if encP (addL lo (rdW sz N (some (val (bs.drop (a + 1)), 8 * (bs.drop (a + 1)).length)))) = bs then some (addL lo (rdW sz N (some (val (bs.drop (a + 1)), 8 * (bs.drop (a + 1)).length)))) else none := by
  have e : outP N bs = addL lo (rdW sz N (some (val (bs.drop (a + 1)), 8 * (bs.drop (a + 1)).length))) := by
    unfold outP
    rw [ha, hsz, hlo]
    rfl
  unfold decP
  rw [if_neg hN, if_neg (by rw [ha, hsz]; omega), e]
set_option maxHeartbeats 4000000 in
set_option maxRecDepth 100000 in
theorem rpdec_any (A : Option Addr) (n cap B N : Nat) (m : Int) (bs : List Nat) (w : World) (hs : Rds w B A n (cells8 bs)) (hB : B ≤ w.heap.size) (hlt : lt256 bs) (hnc : n ≤ cap) (hcm : cap ≤ maxLen) (hn : n ≤ 1000000) (hN : max 0 (min m 65535) = (N : Int)) :
    Calls Try.prog 14 #[.slice A n cap, .int .i64 m] w fun e w' => EncE w w' (decP N bs) e := by
  have hul : bs.length = n := by have := hs.1; rwa [cells8_length] at this
  have hN65 : N ≤ 65535 := by omega
  have Hheld := Lib.hid (fun W => rheld_any m N W hN)
  clear hN
  by_cases hN0 : N = 0
  · subst hN0
    have hdec : decP 0 bs = if bs = [] then some [] else none := by unfold decP; rw [if_pos rfl]
    by_cases hn0 : n = 0
    · obtain rfl := List.eq_nil_of_length_eq_zero (hul.trans hn0)
      have Hd := Lib.hid hdec
      have hnb : ((n : Int) == 0) = true := by simp; omega
      clear hs hdec
      go_enter Try.func14, Try.ntmps14
      go_wp2_with fail
      refine (Hheld.out _).mono ?_
      rintro e w' ⟨rfl, rfl⟩
      go_wp2_with fail
      go_ret2
      rw [Hd.out]
      exact ⟨_, rfl, Own.nil _ _ _, Mod.refl _ _⟩
    · have hne : ¬ bs = [] := by rintro rfl; exact hn0 hul.symm
      have Hd : Hid (decP 0 bs = none) := Lib.hid (by rw [hdec, if_neg hne])
      have hnb : ((n : Int) == 0) = false := by simp; omega
      clear hs hdec hne hul
      go_enter Try.func14, Try.ntmps14
      go_wp2_with fail
      refine (Hheld.out _).mono ?_
      rintro e w' ⟨rfl, rfl⟩
      go_wp2_with fail
      go_ret2
      rw [Hd.out]
      exact ⟨rfl, Mod.refl _ _⟩
  · have hNb : ((N : Int) == 0) = false := by simp; omega
    have hcall := vrget_any A n cap B bs w hs hlt (by omega)
    obtain ⟨lo, hlo⟩ : ∃ lo, (dec bs).1 = lo := ⟨_, rfl⟩
    obtain ⟨a, ha⟩ : ∃ a, (dec bs).2 = a := ⟨_, rfl⟩
    rw [hlo, ha] at hcall
    have Hcall := Lib.hid hcall
    have Hlo := Lib.hid hlo; have Ha := Lib.hid ha; have Hlt := Lib.hid hlt; have HB := Lib.hid hB; have Hul := Lib.hid hul; have Hcm := Lib.hid hcm; have Hs := Lib.hid hs
    have hlo64 : Hid (lo < 2 ^ 64) := Lib.hid (by rw [← hlo]; exact dec_lt hlt)
    clear hcall hlo ha hlt hB hul hs hcm
    by_cases ha0 : a = 0
    · have hab : ((a : Int) == 0) = true := by simp; omega
      have Hd : Hid (decP N bs = none) := Lib.hid (decP_bad hN0 (.inl (by rw [Ha.out]; exact ha0)))
      clear Hs ha0
      go_enter Try.func14, Try.ntmps14
      go_wp2_with fail
      refine (Hheld.out _).mono ?_
      rintro e w' ⟨rfl, rfl⟩
      go_wp2_with fail
      refine Hcall.out.mono ?_
      rintro e w' ⟨rfl, rfl⟩
      go_wp2_with fail
      go_ret2
      rw [Hd.out]
      exact ⟨rfl, Mod.refl _ _⟩
    · have hab : ((a : Int) == 0) = false := by simp; omega
      by_cases han : n ≤ a
      · have hani : (n : Int) ≤ (a : Int) := by omega
        have Hd : Hid (decP N bs = none) := Lib.hid (decP_bad hN0 (.inr (.inl (by rw [Ha.out, Hul.out]; exact han))))
        clear Hs ha0 han
        go_enter Try.func14, Try.ntmps14
        go_wp2_with fail
        refine (Hheld.out _).mono ?_
        rintro e w' ⟨rfl, rfl⟩
        go_wp2_with fail
        refine Hcall.out.mono ?_
        rintro e w' ⟨rfl, rfl⟩
        go_wp2_with fail
        go_ret2
        rw [Hd.out]
        exact ⟨rfl, Mod.refl _ _⟩
      · have hani : (a : Int) < (n : Int) := by omega
        have ha0i : (0 : Int) ≤ (a : Int) := by omega
        obtain ⟨ad, u, rfl, hadb, hu, hcu⟩ := Hs.out.at_ (show a < n by omega)
        rw [cells8_get] at hu
        obtain ⟨sz, hsz, rfl⟩ := Option.map_eq_some_iff.1 hu
        have hsz256 : sz < 256 := Hlt.out sz (List.mem_of_getElem? hsz)
        have Hsz : Hid (bs.getD a 0 = sz) := Lib.hid (by rw [List.getD_eq_getElem?_getD, hsz]; rfl)
        by_cases h64 : 64 < sz
        · have h64i : (64 : Int) < (sz : Int) := by omega
          have Hd : Hid (decP N bs = none) := Lib.hid (decP_bad hN0 (.inr (.inr (by rw [Ha.out, Hsz.out]; exact h64))))
          clear Hs ha0 han hu hsz hadb
          go_enter Try.func14, Try.ntmps14
          go_wp2_with fail
          refine (Hheld.out _).mono ?_
          rintro e w' ⟨rfl, rfl⟩
          go_wp2_with fail
          refine Hcall.out.mono ?_
          rintro e w' ⟨rfl, rfl⟩
          go_wp2_with fail
          go_ret2
          rw [Hd.out]
          exact ⟨rfl, Mod.refl _ _⟩
        · have hsz64 : sz ≤ 64 := by omega
          have h64i : ¬ (64 : Int) < (sz : Int) := by omega
          obtain ⟨p, hp⟩ : ∃ p, p = a + 1 := ⟨_, rfl⟩
          have hpi : (a : Int) + 1 = (p : Int) := by omega
          have hpn : p ≤ n := by omega
          obtain ⟨A1, hA1⟩ : ∃ A1, (if cap = p then some ad else some (ad.add p)) = A1 := ⟨_, rfl⟩
          have hr1 : Rds w B A1 (n - p) (cells8 (bs.drop p)) := by
            have h := Hs.out.drop hpn hnc
            rw [show (cells8 bs).drop p = cells8 (bs.drop p) by simp [cells8, List.map_drop]] at h
            rw [← hA1]
            exact h
          have hw0 : 0 < w.heap.size := (Hs.out.some_mem HB.out (by omega)).1
          have hlt2 : lt256 (bs.drop p) := fun b hb => Hlt.out b (List.mem_of_mem_drop hb)
          obtain ⟨raw, hraw⟩ : ∃ raw, raw = rdW sz N (some (val (bs.drop p), 8 * (bs.drop p).length)) := ⟨_, rfl⟩
          have Hrl : Hid (raw.length = N) := Lib.hid (by rw [hraw, rdW_len])
          obtain ⟨V, hV⟩ : ∃ V, V = addL lo raw := ⟨_, rfl⟩
          have HV64 : Hid (∀ x ∈ V, x < 2 ^ 64) := Lib.hid (by rw [hV]; exact addL_lt _ _)
          have Hdec : Hid (decP N bs = if encP V = bs then some V else none) := Lib.hid (by
            have h := decP_good (N := N) hN0 Hlo.out Ha.out Hsz.out ha0 (by rw [Hul.out]; omega) hsz64
            rw [← hp, ← hraw, ← hV] at h
            exact h)
          have hunp := fun c W (hW : Mod (fun _ => False) w W) => runpack_any A1 (n - p) c B N sz (bs.drop p) W (hr1.mod hW HB.out (fun _ _ h => h)) (Nat.le_trans HB.out hW.size) hlt2 (by omega) hN65 hsz64 (Nat.lt_of_lt_of_le hw0 hW.size)
          rw [← hraw] at hunp
          have hpci : (p : Int) ≤ (cap : Int) := by omega
          have hpni : (p : Int) ≤ (n : Int) := by omega
          have hp0 : (0 : Int) ≤ (p : Int) := by omega
          have Hunp := Lib.hid hunp; have HV := Lib.hid hV; have Hcell : Hid (∀ W, Mod (fun _ => False) w W → W.cell? (ad.add a) = some (.int .u8 (sz : Int))) := Lib.hid (fun W hW => (hW.cell (a := ad.add a) (by rw [add_block]; have := HB.out; omega) (fun h => h)).trans hcu)
          clear hu hsz hr1 hw0 hlt2 hraw hV hunp hp ha0 han h64 hadb Hsz
          go_enter Try.func14, Try.ntmps14
          go_wp2_with fail
          refine (Hheld.out _).mono ?_
          rintro e w' ⟨rfl, rfl⟩
          go_wp2_with fail
          refine Hcall.out.mono ?_
          rintro e w' ⟨rfl, rfl⟩
          go_upto_region 7 with fail
          have S0 : Hid (Mod (fun _ => False) w w.drew) := Lib.hid (Mod.refl _ _).drew
          go_cut [8] (fun s8 wc => ∃ (g8 c8 : Nat), s8 = .slice (some ⟨g8, 0, none⟩) N c8 ∧ w.heap.size ≤ g8 ∧ Own w.heap.size wc 31 (.slice (some ⟨g8, 0, none⟩) N c8) (cellsU raw) ∧ Mod (fun _ => False) w wc)
          case first =>
            clear hcu
            have hcd := Hcell.out _ S0.out
            have hwp : IntKind.i64.wrap (p : Int) = (p : Int) := IntWalk.i64_in _ (by omega)
            have hws : IntKind.i64.wrap (sz : Int) = (sz : Int) := IntWalk.i64_in _ (by omega)
            go_region_held_law (fun w' => w'.cell? (ad.add a) = some (.int .u8 (sz : Int))) (first | exact Hcell.out _ S1.out | exact Hcell.out _ S0.out)
              (first
                | (go_at_call 28; refine (Hunp.out _ _ S0.out).mono ?_; rintro e w1 ⟨v1, rfl, ho1, hm1⟩; have S1 : Hid (Mod (fun _ => False) w w1) := Lib.hid (S0.out.trans hm1 (fun _ _ h => h)); have O1 : Hid (Own w.heap.size w1 31 v1 (cellsU raw)) := Lib.hid ho1; clear ho1 hm1))
            all_goals
              obtain ⟨g8, c8, rfl, hg8, _⟩ := O1.out.form' (by rw [cellsU_length, Hrl.out]; omega)
              have hO1 := O1.out
              rw [cellsU_length, Hrl.out] at hO1 ⊢
              have HO1 := Lib.hid hO1; have Hg8 := Lib.hid hg8
              clear hO1 hg8 O1
              go_wp2_with fail
              go_meet
              exact ⟨_, _, rfl, Hg8.out, HO1.out, S1.out⟩
          case rest =>
            obtain ⟨g8, c8, rfl, hg8, hown, hm1⟩ := hcut
            have Hg8 := Lib.hid hg8
            have M0 : Hid (Own w.heap.size wc 31 (.slice (some ⟨g8, 0, none⟩) N c8) (cellsU (mixL lo 0 raw)) ∧ Mod (fun _ => False) w wc) := Lib.hid ⟨by rw [mixL_zero]; exact hown, hm1⟩
            clear hg8 hown hm1 hcu S0
            go_wp2_with fail
            go_loopg [9] N (fun l s9 wr => ∃ i : Nat, i + l = N ∧ s9 = .int .i64 (i : Int) ∧ Own w.heap.size wr 31 (.slice (some ⟨g8, 0, none⟩) N c8) (cellsU (mixL lo i raw)) ∧ Mod (fun _ => False) w wr)
            case atStart => exact ⟨0, by omega, rfl, M0.out⟩
            case round =>
              obtain ⟨i, hil, rfl, hown, hm⟩ := hrel
              have Hown := Lib.hid hown; have Hm := Lib.hid hm; have Hil := Lib.hid hil
              clear hown hm hil M0
              by_cases hin : i < N
              · obtain ⟨x, hx⟩ : ∃ x, raw[i]? = some x := ⟨raw[i]'(by rw [Hrl.out]; exact hin), List.getElem?_eq_getElem _⟩
                obtain ⟨y, hy⟩ : ∃ y, y = (x + lo) % 2 ^ 64 := ⟨_, rfl⟩
                have hml : (mixL lo i raw).length = N := by rw [mixL_len, Hrl.out]
                obtain ⟨_, hfz, hset⟩ := own_setU (b := y) Hown.out hml.symm hin
                have hcx : wr.cell? ⟨g8, i, none⟩ = some (.int .u64 (x : Int)) := by
                  rw [Hown.out.cell' rfl i (by rw [cellsU_length, hml]; exact hin), cellsU_get, mixL_at hx]
                  rfl
                rw [hy, mixL_set hx, ← hy] at hset
                have hxr : x < 2 ^ 64 ∨ True := .inr trivial
                clear hxr
                have hyw : IntKind.u64.wrap ((x : Int) + (lo : Int)) = (y : Int) := by rw [IntKind.wrap_u64]; omega
                have Hset := Lib.hid hset
                have hi0 : (0 : Int) ≤ (i : Int) := by omega
                have hiN : (i : Int) < (N : Int) := by omega
                clear hx hy hml hset
                go_wp2_with fail
                go_roundg (gk - 1)
                case measure => have := Hil.out; omega
                case rel => exact ⟨i + 1, by have := Hil.out; omega, by go_num, Hset.out, Hm.out.setCell (fun h => absurd h (by have := Hg8.out; simp; omega)) _⟩
              · have hi : i = N := by have := Hil.out; omega
                subst hi
                have hown := Hown.out
                rw [mixL_all (by rw [Hrl.out]; exact Nat.le_refl _), ← HV.out] at hown
                have HownV := Lib.hid hown
                have Hr8 : Hid (Rds wr wr.heap.size (some ⟨g8, 0, none⟩) i (cellsU V)) := Lib.hid (Own.rds hown (by rw [HV.out, addL_len, Hrl.out]))
                obtain ⟨s1, hs1⟩ : ∃ s1, strOf (encP V) = s1 := ⟨_, rfl⟩
                obtain ⟨s2, hs2⟩ : ∃ s2, strOf bs = s2 := ⟨_, rfl⟩
                have HCV : Hid (∀ W, Mod (fun _ => False) w W → (convert 27 9 (.slice (some ad) n cap)).run Try.prog W = .ok (.string s2) W) := Lib.hid (fun W hW => by
                  rw [← hs2]
                  exact conv_rds Try.underlying27 Try.underlying5 Try.underlying9 W (Hs.out.mod hW HB.out (fun _ _ h => h)) Hlt.out)
                have Hfr : Hid (∀ W c, Mod (fun _ => False) wr W → Calls Try.prog 13 #[.slice (some ⟨g8, 0, none⟩) i c] W fun e w' => ∃ A' n' c', e = .returned (.slice A' n' c') ∧ (convert 27 9 (.slice A' n' c')).run Try.prog w' = .ok (.string s1) w' ∧ Mod (fun _ => False) W w') := Lib.hid (fun W c hW => rpenc_at _ i c _ V s1 W (Hr8.out.new hW) hW.size HV64.out (by omega) hs1)
                obtain ⟨b, hb⟩ : ∃ b, decide (encP V = bs) = b := ⟨_, rfl⟩
                obtain ⟨hq, hq'⟩ := str_ne hs1 hs2 (encP_256 V) Hlt.out hb
                have Hb := Lib.hid hb
                have S0 : Hid (Mod (fun _ => False) wr wr.drew) := Lib.hid (Mod.refl _ _).drew
                clear hs1 hs2 hb hown Hown
                go_upto_region 12 with fail
                go_cut [67] (fun s67 wc => s67 = .bool (!b) ∧ Mod (fun _ => False) wr wc)
                case first =>
                  have cv0 := HCV.out _ (Hm.out.trans S0.out (fun _ _ h => h))
                  go_region_held_law (fun w' => Mod (fun _ => False) wr w') (first | exact S1.out | exact S0.out)
                    (first
                      | (go_at_call 13; refine (Hfr.out _ _ S0.out).mono ?_; rintro e w5 ⟨A5, n5, c5, rfl, hcv, hm5⟩; have S1 : Hid (Mod (fun _ => False) wr w5) := Lib.hid (S0.out.trans hm5 (fun _ _ h => h)); have cv5 := HCV.out _ (Hm.out.trans S1.out (fun _ _ h => h)); clear hm5))
                  all_goals
                    go_wp2_with fail
                    go_meet
                    exact ⟨rfl, S1.out⟩
                case rest =>
                  obtain ⟨rfl, hm7⟩ := hcut
                  have Hm7 := Lib.hid (Hm.out.trans hm7 (fun _ _ h => h)); have Hown7 := Lib.hid (HownV.out.mod hm7)
                  clear hm7 hq hq' S0
                  cases b with
                  | true =>
                    have Hd : Hid (decP i bs = some V) := Lib.hid (by rw [Hdec.out, if_pos (of_decide_eq_true Hb.out)])
                    go_wp2_with fail
                    go_ret2
                    rw [Hd.out]
                    exact ⟨_, rfl, Hown7.out, Hm7.out⟩
                  | false =>
                    have Hd : Hid (decP i bs = none) := Lib.hid (by rw [Hdec.out, if_neg (of_decide_eq_false Hb.out)])
                    go_wp2_with fail
                    go_ret2
                    rw [Hd.out]
                    exact ⟨rfl, Hm7.out⟩
end Go.Proofs.Ytliaehfknppnaaa

/- Rows of small numbers are told: the document's Simple. -/
import Derived.Test.YthhcfngnbgckmaaDoorSh
import Derived.Test.YthhcfngnbgckmaaDoorSe
import Derived.Deep.DeepCutAuto
import Derived.Deep.CutBlock
namespace Go.Proofs.YthhcfngnbgckmaaDoor
open Go.RowKit

theorem fits_is (A : Option Addr) (n cap B k : Nat) (us : List Nat) (w : World) (b : Bool) (hs : Rds w B A n (cellsU us)) (hB : B ≤ w.heap.size) (hu : ∀ x ∈ us, x < 2 ^ 64) (hk : k < 16) (hn : n ≤ 1000000) (hb : fitsK us k = b) :
    Calls Tryd.prog 14 #[.slice A n cap, .int .i64 (k : Int)] w fun e w' => e = .returned (.bool b) ∧ Mod (fun _ => False) w w' := by
  subst hb
  exact fits_any A n cap B k us w hs hB hu hk hn
set_option maxHeartbeats 4000000 in
set_option maxRecDepth 100000 in
theorem simple_any (A : Option Addr) (n cap B : Nat) (us : List Nat) (w : World) (hs : Rds w B A n (cellsU us)) (hB : B ≤ w.heap.size) (hu : ∀ x ∈ us, x < 2 ^ 64) (hn : n ≤ 1000000) (hcap : n ≤ cap) :
    Calls Tryd.prog 7 #[.slice A n cap] w fun e w' => EncE w w' (encS us) e := by
  have hul : us.length = n := by have := hs.1; rwa [cellsU_length] at this
  have H0 : Hid (EncTo w w us 0 (.slice none 0 0)) := Lib.hid ⟨[], Own.nil _ _ _, Nat.zero_le _, by rw [List.drop_zero]; cases encS us <;> rfl, Mod.refl _ _⟩
  have Hs := Lib.hid hs; have Hu := Lib.hid hu; have HB := Lib.hid hB; have Hul := Lib.hid hul
  clear hs hu hB hul
  go_enter Tryd.func7, Tryd.ntmps7
  go_wp2_with fail
  go_loopg [4, 5] n (fun l s4 s5 wr => ∃ i : Nat, i + l = n ∧ s5 = .int .i64 (i : Int) ∧ EncTo w wr us i s4)
  case atStart => exact ⟨0, by omega, rfl, H0.out⟩
  case round =>
    obtain ⟨i, hil, rfl, hE⟩ := hrel
    have Hil := Lib.hid hil; have HE := Lib.hid hE
    clear hil hE H0
    by_cases hin : i < n
    · obtain ⟨done, hown, hdl, henc, hm⟩ := HE.out
      have Hm := Lib.hid hm; have Hown := Lib.hid hown; have Hdl := Lib.hid hdl; have Henc := Lib.hid henc
      clear hm hown hdl henc
      have hi0 : (0 : Int) ≤ (i : Int) := by omega
      obtain ⟨A2, hA2⟩ : ∃ A2, (if cap = i then A else A.map (·.add i)) = A2 := ⟨_, rfl⟩
      have Hr2 : Hid (Rds w B A2 (n - i) (cellsU (us.drop i))) := Lib.hid (by
        have h := Hs.out.drop (Nat.le_of_lt hin) hcap
        rw [hA2, show (cellsU us).drop i = cellsU (us.drop i) by simp [cellsU, ← List.map_drop]] at h
        exact h)
      have Hud : Hid (∀ x ∈ us.drop i, x < 2 ^ 64) := Lib.hid fun x hx => Hu.out x (List.mem_of_mem_drop hx)
      go_upto_block 2 with fail
      go_cut [6] (fun s6 wc => s6 = .int .i64 (kindOf (us.drop i) : Int) ∧ Mod (fun _ => False) wr wc)
      case first =>
        go_wp2_with fail
        go_loopg [6] 16 (fun l s6 wq => ∃ k : Nat, k + l = 16 ∧ s6 = .int .i64 (k : Int) ∧ k ≤ kindOf (us.drop i) ∧ Mod (fun _ => False) wr wq)
        case atStart => exact ⟨0, rfl, rfl, Nat.zero_le _, Mod.refl _ _⟩
        case round =>
          obtain ⟨k, hkl, rfl, hki, hm⟩ := hrel
          have Hkl := Lib.hid hkl; have Hki := Lib.hid hki; have Hmq := Lib.hid hm
          clear hkl hki hm
          by_cases hk : k < 16
          · cases hf : fitsK (us.drop i) k with
            | true =>
              have Hf := Lib.hid hf
              clear hf
              go_wp2_with fail
              refine (fits_is A2 (n - i) (cap - i) B k (us.drop i) _ true (Hr2.out.mod (Hm.out.trans Hmq.out (fun _ _ h => h)) HB.out (fun _ _ h => h)) (Nat.le_trans HB.out (Hm.out.trans Hmq.out (fun _ _ h => h)).size) Hud.out hk (by omega) Hf.out).mono ?_
              rintro e w1 ⟨rfl, hm1⟩
              have Hm1 := Lib.hid (Hmq.out.trans hm1 (fun _ _ h => h))
              clear hm1
              go_wp2_with fail
              go_meet
              case rel => exact ⟨by rw [kind_is Hki.out Hf.out], Hm1.out⟩
            | false =>
              have Hf := Lib.hid hf
              clear hf
              go_wp2_with fail
              refine (fits_is A2 (n - i) (cap - i) B k (us.drop i) _ false (Hr2.out.mod (Hm.out.trans Hmq.out (fun _ _ h => h)) HB.out (fun _ _ h => h)) (Nat.le_trans HB.out (Hm.out.trans Hmq.out (fun _ _ h => h)).size) Hud.out hk (by omega) Hf.out).mono ?_
              rintro e w1 ⟨rfl, hm1⟩
              have Hm1 := Lib.hid (Hmq.out.trans hm1 (fun _ _ h => h))
              clear hm1
              go_wp2_with fail
              go_roundg (gk - 1)
              case measure => have := Hkl.out; omega
              case rel => exact ⟨k + 1, by have := Hkl.out; omega, by go_num, kind_more hk Hki.out Hf.out, Hm1.out⟩
          · go_wp2_with fail
            go_meet
            case rel =>
              have hki := kind_le (us.drop i)
              have := Hki.out
              exact ⟨by rw [show kindOf (us.drop i) = k by omega], Hmq.out⟩
      case rest =>
        obtain ⟨rfl, hmc⟩ := hcut
        have Hmc := Lib.hid (Hm.out.trans hmc (fun _ _ h => h)); have Hmrc := Lib.hid hmc
        obtain ⟨k, hk⟩ : ∃ k, k = kindOf (us.drop i) := ⟨_, rfl⟩
        rw [← hk]
        have hk16 : k ≤ 16 := by rw [hk]; exact kind_le _
        have Hk := Lib.hid hk
        clear hmc hk hA2
        by_cases h16 : k = 16
        · have hkb : ((k : Int) == 16) = true := by simp; omega
          have H16 := Lib.hid h16
          clear h16
          go_wp2_with fail
          go_ret2
          have hn := enc_stop (us := us) (i := i) (done := done) (by have := Hul.out; omega) Henc.out (by rw [← Hk.out]; exact H16.out)
          rw [hn]
          exact ⟨rfl, Hmc.out⟩
        · have hkb : ((k : Int) == 16) = false := by simp; omega
          have hk15 : k < 16 := by omega
          have hnp := num_pos hk15
          obtain ⟨c, hc⟩ : ∃ c, numN k = c := ⟨_, rfl⟩
          obtain ⟨s, hs⟩ : ∃ s, bitN k = s := ⟨_, rfl⟩
          rw [hc, hs] at hnp
          have hc1 : 1 ≤ c := hnp.1
          have hc2 : c ≤ 240 := hnp.2.1
          have hs2 : s ≤ 60 := hnp.2.2.2
          obtain ⟨d, hd⟩ : ∃ d : Nat, d = n - i := ⟨_, rfl⟩
          have hdi : (n : Int) - (i : Int) = (d : Int) := by omega
          obtain ⟨m, hmm⟩ : ∃ m, min c d = m := ⟨_, rfl⟩
          have hmin := min2_is (P := Tryd.prog) (t := 3) (ty := 3) hmm
          have hm1 : 1 ≤ m := by omega
          have hmc : m ≤ c := by omega
          have hmd : i + m ≤ n := by omega
          have hk0 : (0 : Int) ≤ (k : Int) := by omega
          have hkk : (k : Int) < 16 := by omega
          have Hc := Lib.hid hc; have Hss := Lib.hid hs; have Hd := Lib.hid hd; have Hmm := Lib.hid hmm
          obtain ⟨T, hT⟩ : ∃ T, T = wordN k [] := ⟨_, rfl⟩
          have HT := Lib.hid hT
          have hTe : T = k * 1152921504606846976 := by rw [hT]; show k * 2 ^ 60 + 0 = _; omega
          have HTe := Lib.hid hTe
          have Hfit : Hid (∀ x ∈ (us.drop i).take m, x < 2 ^ bitN k) := Lib.hid (by
            have h := fitsK_all (kind_fits (u := us.drop i) (by rw [← Hk.out]; exact hk15))
            rw [← Hk.out] at h
            intro x hx
            refine h x ?_
            have e : ((us.drop i).take (numN k)).take m = (us.drop i).take m := by rw [List.take_take]; congr 1; omega
            rw [← e] at hx
            exact List.mem_of_mem_take hx)
          clear hc hs hd hmm hT hTe hnp h16
          go_wp2_with fail
          refine (numbers_is k c _ hk15 Hc.out).mono ?_
          rintro e w1 ⟨rfl, hmw1⟩
          have Hm1 := Lib.hid (Hmc.out.trans hmw1 (fun _ _ h => h)); have Hmr1 := Lib.hid (Hmrc.out.trans hmw1 (fun _ _ h => h))
          clear hmw1
          go_wp2_with fail
          clear hmin hdi
          obtain ⟨go, rfl⟩ : ∃ go : Nat, go = gk := ⟨_, rfl⟩
          go_loopg [7, 9] m (fun l s7 s9 wq => ∃ (j a : Nat), j + l = m ∧ s9 = .int .i64 (j : Int) ∧ s7 = .int .u64 (a : Int) ∧ a = wordN k (((us.drop i).take m).take j) ∧ Mod (fun _ => False) w1 wq)
          case atStart => exact ⟨0, T, by omega, rfl, by rw [HTe.out]; go_num, HT.out, Mod.refl _ _⟩
          case round =>
            obtain ⟨j, a, hjl, rfl, rfl, ha, hm⟩ := hrel
            have Hjl := Lib.hid hjl; have Ha := Lib.hid ha; have Hmq := Lib.hid hm
            clear hjl ha hm
            by_cases hjm : j < m
            · have hmwq := Hm1.out.trans Hmq.out (fun _ _ h => h)
              obtain ⟨pp, hpp⟩ : ∃ pp, pp = i + j := ⟨_, rfl⟩
              obtain ⟨ad, x, rfl, hx, hcx⟩ := Hs.out.at2 (i := pp) (by omega) HB.out hmwq (fun _ _ h => h)
              have hx2 : ((us.drop i).take m)[j]? = some x := by rw [List.getElem?_take, if_pos hjm, List.getElem?_drop, ← hpp]; exact hx
              obtain ⟨hq60, hb, hor, hale⟩ := pack_step hk15 (by rw [Hc.out]; omega) hx2 Hfit.out
              rw [Hss.out] at hq60 hb hor
              rw [← Ha.out] at hor hale
              obtain ⟨q, hq⟩ : ∃ q, q = j * s := ⟨_, rfl⟩
              rw [← hq] at hq60 hb hor
              obtain ⟨b, hbe⟩ : ∃ b, b = x * 2 ^ q := ⟨_, rfl⟩
              rw [← hbe] at hb hor
              obtain ⟨a2, ha2⟩ : ∃ a2, a2 = wordN k (((us.drop i).take m).take (j + 1)) := ⟨_, rfl⟩
              rw [← ha2] at hor
              have Ha2 := Lib.hid ha2
              have hpi : IntKind.i64.wrap ((i : Int) + (j : Int)) = (pp : Int) := by rw [IntKind.wrap_i64]; omega
              have hp0 : (0 : Int) ≤ (pp : Int) := by omega
              have hpn : (pp : Int) < (n : Int) := by omega
              have hqi : IntKind.i64.wrap ((j : Int) * (s : Int)) = (q : Int) := by
                have e : (j : Int) * (s : Int) = (q : Int) := by rw [hq]; simp
                rw [e, IntKind.wrap_i64]
                omega
              have hqu : IntKind.u64.wrap (q : Int) = (q : Int) := by rw [IntKind.wrap_u64]; omega
              have hbi : IntKind.u64.wrap ((x : Int) * 2 ^ q) = (b : Int) := by
                have e : (x : Int) * 2 ^ q = (b : Int) := by rw [hbe]; simp
                rw [e, IntKind.wrap_u64]
                omega
              have hX : ∀ W, Mod (fun _ => False) wr W → W.cell? (ad.add pp) = some (.int .u64 (x : Int)) := fun W hW => (hW.cell (World.block_lt_of_cell? _ _ hcx) (fun h => h)).trans hcx
              have HX := Lib.hid hX
              clear hx hx2 hpp hq hbe ha2 hX hcx hmwq hb hale
              go_upto_region 14 with fail
              go_region_held_law (fun w' => w'.cell? (ad.add pp) = some (.int .u64 (x : Int))) (first | exact HX.out _ S5.out | exact HX.out _ (Mod.refl _ _).drew)
                (first | (go_at_call 16; refine (bits_is k s _ hk15 Hss.out).mono ?_; rintro e w5 ⟨rfl, hm5⟩; have S5 : Hid (Mod (fun _ => False) wr w5) := Lib.hid (((Mod.refl _ _).drew).trans hm5 (fun _ _ h => h)); clear hm5))
              go_wp2_with fail
              go_roundg (gk - 1)
              case measure => have := Hjl.out; omega
              case rel => exact ⟨j + 1, a2, by have := Hjl.out; omega, by go_num, rfl, Ha2.out, Hmq.out.trans S5.out (fun _ _ h => h)⟩
            · have hj : j = m := by have := Hjl.out; omega
              have hmw := Hm1.out.trans Hmq.out (fun _ _ h => h)
              have Hown1 := Lib.hid ((Hmr1.out.trans Hmq.out (fun _ _ h => h)).owns Hown.out (fun _ _ h => h))
              have hr1 : (cellsU done).length + 1 ≤ maxLen := by rw [cellsU_length]; unfold maxLen; have := Hdl.out; omega
              have hr2 : ((cellsU done).length + 1) * 8 ≤ 140737488355328 := by rw [cellsU_length]; have := Hdl.out; omega
              have hsz : w.heap.size ≤ wr.heap.size := hmw.size
              have Hmw := Lib.hid hmw
              have hae : a = wordN k ((us.drop i).take m) := by rw [Ha.out, List.take_of_length_le (by rw [List.length_take]; omega)]
              have Hae := Lib.hid hae
              have Hgo : Hid (i + go = n) := Lib.hid Hil.out
              clear hj hmw hae
              go_wp2_with (at_builtin; refine wpList_app1 rfl (.tmp 57) (.tmp 59) _ rfl eltU rfl Hown1.out rfl rfl rfl hr1 hr2 hsz ?_; intro v' w2 HO HBl)
              have hmin2 : min (numN k) (us.length - i) = m := by have := Hmm.out; have := Hc.out; have := Hul.out; have := Hd.out; omega
              have hst := enc_step (us := us) (i := i) (k := k) (done := done) (by have := Hul.out; omega) Henc.out Hk.out.symm hk15
              rw [hmin2, ← Hae.out] at hst
              have HE2 : Hid (EncTo w w2 us (i + m) v') := Lib.hid ⟨done ++ [a], by rw [cellsU_snoc]; exact HO.out, by rw [List.length_append, List.length_singleton]; have := Hdl.out; omega, hst, Hmw.out.trans (Mod.of_below HBl.out) (fun i hi h => by omega)⟩
              clear hst hmin2
              go_wp2_with fail
              go_roundg (go - m)
              case measure => have := Hgo.out; omega
              case rel => exact ⟨i + m, by have := Hgo.out; omega, by go_num, HE2.out⟩
    · go_wp2_with fail
      go_ret2
      obtain ⟨done, hown, hdl, henc, hm⟩ := HE.out
      have e : encS us = some done := by
        rw [henc, List.drop_of_length_le (by have := Hul.out; have := Hil.out; omega), encS_nil]
        simp
      rw [e]
      exact ⟨_, rfl, hown, hm⟩
end Go.Proofs.YthhcfngnbgckmaaDoor

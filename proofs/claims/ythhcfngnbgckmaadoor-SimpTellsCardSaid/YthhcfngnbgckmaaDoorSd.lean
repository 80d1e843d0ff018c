/- Words are read: Decode. -/
import Derived.Test.YthhcfngnbgckmaaDoorSe
import Derived.Test.YthhcfngnbgckmaaDoorSu
import Derived.Test.YthhcfngnbgckmaaDoorSq
namespace Go.Proofs.YthhcfngnbgckmaaDoor
open Go.RowKit

/-- What the loop has read of the first i words. -/
def DecTo (w wr : World) (ws : List Nat) (N i L : Nat) (v : Value) : Prop :=
  ∃ out, Own w.heap.size wr 23 v (cellsU out) ∧ out.length = L ∧ L ≤ N ∧ (∀ x ∈ out, x < 2 ^ 60) ∧ rdS N ws = out ++ rdS (N - L) (ws.drop i) ∧ Mod (fun _ => False) w wr
theorem dec_step {ws out : List Nat} {N L i x : Nat} (hx : ws[i]? = some x) (h : rdS N ws = out ++ rdS (N - L) (ws.drop i)) :
    rdS N ws = (out ++ nums (x / 2 ^ 60) x (min (numN (x / 2 ^ 60)) (N - L))) ++ rdS (N - (L + min (numN (x / 2 ^ 60)) (N - L))) (ws.drop (i + 1)) := by
  have hd : ws.drop i = x :: ws.drop (i + 1) := drop_at' hx
  rw [h, hd]
  show out ++ (nums (x / 2 ^ 60) x (min (numN (x / 2 ^ 60)) (N - L)) ++ rdS (N - L - min (numN (x / 2 ^ 60)) (N - L)) (ws.drop (i + 1))) = _
  rw [List.append_assoc, Nat.sub_sub]
theorem decS_few {N : Nat} {ws : List Nat} (h : (rdS N ws).length < N) : decS N ws = none := by
  unfold decS
  rw [if_neg (fun h2 => by omega)]
theorem decS_is {N : Nat} {ws told : List Nat} (h : (rdS N ws).length = N) (ht : encS (rdS N ws) = some told) : decS N ws = if told = ws then some (rdS N ws) else none := by
  unfold decS
  rw [ht]
  by_cases e : told = ws
  · rw [if_pos e, if_pos ⟨h, by rw [e]⟩]
  · rw [if_neg e, if_neg (fun h2 => e (by injection h2.2))]
set_option maxHeartbeats 1000000 in
set_option maxRecDepth 100000 in
theorem sdec_any (A : Option Addr) (n cap B N : Nat) (m : Int) (ws : List Nat) (w : World) (hs : Rds w B A n (cellsU ws)) (hB : B ≤ w.heap.size) (hu : ∀ x ∈ ws, x < 2 ^ 64) (hn : n ≤ 1000000) (hN : max 0 (min m 65535) = (N : Int)) (hk : Kin w) :
    Calls Tryd.prog 9 #[.slice A n cap, .int .i64 m] w fun e w' => EncE w w' (decS N ws) e := by
  have hul : ws.length = n := by have := hs.1; rwa [cellsU_length] at this
  have H0 : Hid (DecTo w w ws N 0 0 (.slice none 0 0)) := Lib.hid ⟨[], Own.nil _ _ _, rfl, Nat.zero_le _, (fun _ h => by cases h), by rw [List.drop_zero]; rfl, Mod.refl _ _⟩
  have Hs := Lib.hid hs; have Hu := Lib.hid hu; have HB := Lib.hid hB; have Hul := Lib.hid hul; have Hkin := Lib.hid hk
  obtain ⟨mn, hmn⟩ : ∃ mn : Int, min m 65535 = mn := ⟨_, rfl⟩
  have hmin := minI_is (P := Tryd.prog) (t := 3) (ty := 3) hmn
  have hmax := maxI_is (P := Tryd.prog) (t := 3) (ty := 3) (n1 := 0) (n2 := mn) (m := (N : Int)) (by rw [← hmn]; exact hN)
  have hN65 : N ≤ 65535 := by omega
  clear hs hu hB hul hk hN hmn
  go_enter Tryd.func9, Tryd.ntmps9
  go_wp2_with fail
  clear hmin hmax
  go_loopg [6, 16] n (fun l s6 s16 wr => ∃ (i L : Nat) (Av : Option Addr) (cv : Nat), i + l = n ∧ s16 = .int .i64 (i : Int) ∧ s6 = .slice Av L cv ∧ L ≤ cv ∧ DecTo w wr ws N i L (.slice Av L cv))
  case atStart => exact ⟨0, 0, none, 0, by omega, rfl, rfl, Nat.le_refl _, H0.out⟩
  case round =>
    obtain ⟨i, L, Av, cv, hil, rfl, rfl, hLc, hD⟩ := hrel
    have HD := Lib.hid hD; have Hil := Lib.hid hil
    clear hD hil H0
    obtain ⟨out, hown, hol, hLN, ho60, hrd, hm⟩ := HD.out
    have Hown := Lib.hid hown; have Hol := Lib.hid hol; have Ho60 := Lib.hid ho60; have Hrd := Lib.hid hrd; have Hm := Lib.hid hm
    clear hown hol ho60 hrd hm
    by_cases hin : i < n
    · obtain ⟨ad, x, rfl, hx, hcx⟩ := Hs.out.at2 hin HB.out Hm.out (fun _ _ h => h)
      have Hx := Lib.hid hx
      have hxl := Lib.hid (Hu.out x (List.mem_of_getElem? hx))
      obtain ⟨d, hd⟩ : ∃ d : Nat, d = N - L := ⟨_, rfl⟩
      have hdi : (N : Int) - (L : Int) = (d : Int) := by omega
      have Hd := Lib.hid hd
      have hd65 : d ≤ 65535 := by omega
      obtain ⟨k, hk⟩ : ∃ k, x / 2 ^ 60 = k := ⟨_, rfl⟩
      have Hk := Lib.hid hk
      clear hx hd hk
      go_wp2_with fail
      refine (unpack_any k x d _ hxl.out Hk.out (Hkin.out.new Hm.out)).mono ?_
      rintro e w1 ⟨v, rfl, ho1, hm1⟩
      obtain ⟨A1, c1, rfl, _, hr1⟩ := own_formU ho1
      have Hr1 := Lib.hid hr1
      have hst := dec_step Hx.out Hrd.out
      rw [Hk.out, ← Hd.out] at hst
      have hlt := nums_lt (k := k) (w := x) (m := min (numN k) d) (by have := hxl.out; have := Hk.out; omega)
      rw [nums_len] at Hr1 ⊢
      obtain ⟨q, hq⟩ : ∃ q, q = min (numN k) d := ⟨_, rfl⟩
      rw [← hq] at hst hlt Hr1 ⊢
      have hqd : q ≤ d := by omega
      have hLq : L + q ≤ N := by have := Hd.out; omega
      have hnl : (nums k x q).length = q := nums_len _ _ _
      have Hst := Lib.hid hst; have Hlt := Lib.hid hlt; have Hnl := Lib.hid hnl
      have Hown1 := Lib.hid (hm1.owns Hown.out (fun _ _ h => h))
      have Hm1 := Lib.hid (Hm.out.trans hm1 (fun _ _ h => h))
      have Hone : Hid (∀ u ∈ cellsU (nums k x q), u.oneCell' = true) := Lib.hid (by
        intro u hu
        simp only [cellsU, List.mem_map] at hu
        obtain ⟨b, _, rfl⟩ := hu
        rfl)
      have hr1 : (cellsU out).length + q ≤ maxLen := by rw [cellsU_length]; unfold maxLen; have := Hol.out; omega
      have hr2 : ((cellsU out).length + q) * 8 ≤ 140737488355328 := by rw [cellsU_length]; have := Hol.out; omega
      have hsz : w.heap.size ≤ w1.heap.size := Hm1.out.size
      clear hst hlt hnl hm1 ho1 hq hdi hcx
      go_wp2_with (at_builtin; refine wpList_app rfl (.tmp 20) (.tmp 26) _ rfl eltU rfl Hown1.out rfl Hr1.out Hone.out hr1 hr2 hsz ?_; intro v' w2 HO HBl HG; clear HG)
      have hO : Own w.heap.size w2 23 v' (cellsU (out ++ nums k x q)) := by
        have h := HO.out
        rw [show cellsU out ++ cellsU (nums k x q) = cellsU (out ++ nums k x q) by simp [cellsU]] at h
        exact h
      obtain ⟨A2, c2, rfl, hc2, _⟩ := own_formU hO
      have hl2 : (out ++ nums k x q).length = L + q := by rw [List.length_append, Hol.out, Hnl.out]
      rw [hl2] at hO hc2 ⊢
      have HD2 : Hid (DecTo w w2 ws N (i + 1) (L + q) (.slice A2 (L + q) c2)) := Lib.hid ⟨_, hO, hl2, hLq, (fun y hy => by
        rcases List.mem_append.1 hy with hy | hy
        · exact Ho60.out y hy
        · exact Hlt.out y hy), Hst.out, Hm1.out.trans (Mod.of_below HBl.out) (fun i hi h => by omega)⟩
      have HC2 := Lib.hid hc2
      clear hO hl2 hc2
      go_wp2_with fail
      go_roundg (gk - 1)
      case measure => have := Hil.out; omega
      case rel => exact ⟨i + 1, L + q, A2, c2, by have := Hil.out; omega, by go_num, rfl, HC2.out, HD2.out⟩
    · have hi : i = n := by have := Hil.out; omega
      have hrw : rdS N ws = out := by
        rw [Hrd.out, List.drop_of_length_le (by have := Hul.out; omega)]
        show out ++ [] = out
        simp
      have Hrw := Lib.hid hrw
      clear hrw
      by_cases hLl : L < N
      · go_wp2_with fail
        go_ret2
        rw [decS_few (by rw [Hrw.out, Hol.out]; exact hLl)]
        exact ⟨rfl, Hm.out⟩
      · obtain ⟨told, htold⟩ := encS_can _ out rfl Ho60.out
        obtain ⟨htl, ht64⟩ := encS_len _ out told rfl htold
        have Htold := Lib.hid htold; have Htl := Lib.hid htl; have Ht64 := Lib.hid ht64
        have hLN' : L = N := by omega
        have Hdec : Hid (decS N ws = if told = ws then some out else none) := Lib.hid (by
          have h := decS_is (N := N) (ws := ws) (told := told) (by rw [Hrw.out, Hol.out]; exact hLN') (by rw [Hrw.out]; exact htold)
          rw [Hrw.out] at h
          exact h)
        have HLN := Lib.hid hLN'; have Hi := Lib.hid hi
        clear htold htl ht64 hLN' hi
        have Ho64 : Hid (∀ x ∈ out, x < 2 ^ 64) := Lib.hid fun x hx => Nat.lt_of_lt_of_le (Ho60.out x hx) (Nat.pow_le_pow_right (by omega) (by omega))
        have Hro : Hid (Rds wr wr.heap.size Av L (cellsU out)) := Lib.hid (Hown.out.rds Hol.out)
        go_wp2_with fail
        refine (enc_any Av L cv _ out wr Hro.out (Nat.le_refl _) Ho64.out (by omega) hLc (Hkin.out.new Hm.out)).mono ?_
        intro e w1 hE
        obtain ⟨v, rfl, ho1, hm1⟩ := hE.some_ Htold.out
        obtain ⟨A1, c1, rfl, _, hr1⟩ := own_formU ho1
        have Hr1 := Lib.hid hr1
        have Hown1 := Lib.hid (hm1.owns Hown.out (fun _ _ h => h))
        have Hm1 := Lib.hid (Hm.out.trans hm1 (fun _ _ h => h))
        have Hs1 := Lib.hid (Hs.out.mod Hm1.out HB.out (fun _ _ h => h))
        clear hE ho1 hm1 hr1
        by_cases hb : told = ws
        · have hbb : decide (told = ws) = true := decide_eq_true hb
          have Hb := Lib.hid hb; have Hbb := Lib.hid hbb
          clear hb hbb
          go_wp2_with fail
          refine (equal_any A1 A told.length n c1 cap _ _ told ws w1 Hr1.out Hs1.out (by have := Htl.out; have := Hol.out; omega) (by omega)).mono ?_
          rintro e w2 ⟨rfl, hm2⟩
          have Hm2 := Lib.hid hm2
          rw [Hbb.out]
          clear hm2
          go_wp2_with fail
          go_ret2
          rw [Hdec.out, if_pos Hb.out]
          exact ⟨_, rfl, Hm2.out.owns Hown1.out (fun _ _ h => h), Hm1.out.trans Hm2.out (fun _ _ h => h)⟩
        · have hbb : decide (told = ws) = false := decide_eq_false hb
          have Hb := Lib.hid hb; have Hbb := Lib.hid hbb
          clear hb hbb
          go_wp2_with fail
          refine (equal_any A1 A told.length n c1 cap _ _ told ws w1 Hr1.out Hs1.out (by have := Htl.out; have := Hol.out; omega) (by omega)).mono ?_
          rintro e w2 ⟨rfl, hm2⟩
          have Hm2 := Lib.hid hm2
          rw [Hbb.out]
          clear hm2
          go_wp2_with fail
          go_ret2
          rw [Hdec.out, if_neg Hb.out]
          exact ⟨rfl, Hm1.out.trans Hm2.out (fun _ _ h => h)⟩
end Go.Proofs.YthhcfngnbgckmaaDoor

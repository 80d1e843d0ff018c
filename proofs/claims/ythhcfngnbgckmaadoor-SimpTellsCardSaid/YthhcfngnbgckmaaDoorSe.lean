/- Rows of small numbers are told: Encode. -/
import Derived.Test.YthhcfngnbgckmaaDoorSf
import Derived.Test.YthhcfngnbgckmaaDoorSp
namespace Go.Proofs.YthhcfngnbgckmaaDoor
open Go.RowKit

/-- What Encode answers. -/
def EncE (w w' : World) (o : Option (List Nat)) (e : Ending) : Prop :=
  match o with
  | some ws => ∃ v, e = .returned (.tuple #[v, .bool true]) ∧ Own w.heap.size w' 23 v (cellsU ws) ∧ Mod (fun _ => False) w w'
  | none => e = .returned (.tuple #[.slice none 0 0, .bool false]) ∧ Mod (fun _ => False) w w'
theorem EncE.some_ {w w' : World} {o : Option (List Nat)} {ws : List Nat} {e : Ending} (h : EncE w w' o e) (ho : o = some ws) : ∃ v, e = .returned (.tuple #[v, .bool true]) ∧ Own w.heap.size w' 23 v (cellsU ws) ∧ Mod (fun _ => False) w w' := by
  rw [ho] at h
  exact h
theorem EncE.none_ {w w' : World} {o : Option (List Nat)} {e : Ending} (h : EncE w w' o e) (ho : o = none) : e = .returned (.tuple #[.slice none 0 0, .bool false]) ∧ Mod (fun _ => False) w w' := by
  rw [ho] at h
  exact h
/-- What the loop has told of the first i numbers. -/
def EncTo (w wr : World) (us : List Nat) (i : Nat) (v : Value) : Prop :=
  ∃ done, Own w.heap.size wr 23 v (cellsU done) ∧ done.length ≤ i ∧ encS us = (encS (us.drop i)).map (done ++ ·) ∧ Mod (fun _ => False) w wr
theorem enc_step {us : List Nat} {i k : Nat} {done : List Nat} (hi : i < us.length) (h : encS us = (encS (us.drop i)).map (done ++ ·)) (hk : kindOf (us.drop i) = k) (hk16 : k < 16) :
    encS us = (encS (us.drop (i + min (numN k) (us.length - i)))).map ((done ++ [wordN k ((us.drop i).take (min (numN k) (us.length - i)))]) ++ ·) := by
  have hne : us.drop i ≠ [] := by
    intro e
    have := congrArg List.length e
    rw [List.length_drop] at this
    simp at this
    omega
  have e1 : (us.drop i).take (min (numN k) (us.length - i)) = (us.drop i).take (numN k) := by
    rcases Nat.le_total (numN k) (us.length - i) with h1 | h1
    · rw [Nat.min_eq_left h1]
    · rw [Nat.min_eq_right h1, List.take_of_length_le (by rw [List.length_drop]; omega), List.take_of_length_le (by rw [List.length_drop]; omega)]
  have e2 : us.drop (i + min (numN k) (us.length - i)) = (us.drop i).drop (numN k) := by
    rw [List.drop_drop]
    rcases Nat.le_total (numN k) (us.length - i) with h1 | h1
    · rw [Nat.min_eq_left h1]
    · rw [Nat.min_eq_right h1, List.drop_of_length_le (by omega), List.drop_of_length_le (by omega)]
  rw [e1, e2, h, encS_step hne, hk, if_neg (by omega), Option.map_map]
  congr 1
  funext ws
  simp
theorem enc_stop {us : List Nat} {i : Nat} {done : List Nat} (hi : i < us.length) (h : encS us = (encS (us.drop i)).map (done ++ ·)) (hk : kindOf (us.drop i) = 16) : encS us = none := by
  have hne : us.drop i ≠ [] := by
    intro e
    have := congrArg List.length e
    rw [List.length_drop] at this
    simp at this
    omega
  rw [h, encS_step hne, if_pos hk]
  rfl
set_option maxHeartbeats 4000000 in
set_option maxRecDepth 100000 in
theorem enc_any (A : Option Addr) (n cap B : Nat) (us : List Nat) (w : World) (hs : Rds w B A n (cellsU us)) (hB : B ≤ w.heap.size) (hu : ∀ x ∈ us, x < 2 ^ 64) (hn : n ≤ 1000000) (hcap : n ≤ cap) (hk : Kin w) :
    Calls Tryd.prog 6 #[.slice A n cap] w fun e w' => EncE w w' (encS us) e := by
  have hul : us.length = n := by have := hs.1; rwa [cellsU_length] at this
  have H0 : Hid (EncTo w w us 0 (.slice none 0 0)) := Lib.hid ⟨[], Own.nil _ _ _, Nat.zero_le _, by rw [List.drop_zero]; cases encS us <;> rfl, Mod.refl _ _⟩
  have Hs := Lib.hid hs; have Hu := Lib.hid hu; have HB := Lib.hid hB; have Hul := Lib.hid hul; have Hkin := Lib.hid hk
  clear hs hu hB hul hk
  go_enter Tryd.func6, Tryd.ntmps6
  go_wp2_with fail
  go_loopg [0, 4] n (fun l s0 s4 wr => ∃ (i : Nat) (Ai : Option Addr) (ci : Nat), i + l = n ∧ s0 = .slice Ai l ci ∧ l ≤ ci ∧ Rds wr B Ai l (cellsU (us.drop i)) ∧ EncTo w wr us i s4)
  case atStart => exact ⟨0, A, cap, by omega, rfl, hcap, by rw [List.drop_zero]; exact Hs.out, H0.out⟩
  case round =>
    obtain ⟨i, Ai, ci, hil, rfl, hci, hr, hE⟩ := hrel
    have Hil := Lib.hid hil; have Hr := Lib.hid hr; have HE := Lib.hid hE
    clear hil hr hE H0 Hs
    by_cases hg : 0 < gk
    · go_wp2_with fail
      obtain ⟨done, hown, hdl, henc, hm⟩ := HE.out
      have Hm := Lib.hid hm
      have Hown := Lib.hid hown; have Hdl := Lib.hid hdl; have Henc := Lib.hid henc
      have Hud : Hid (∀ x ∈ us.drop i, x < 2 ^ 64) := Lib.hid fun x hx => Hu.out x (List.mem_of_mem_drop hx)
      clear hm hown hdl henc
      refine (first_any Ai gk ci B (us.drop i) wr Hr.out (Nat.le_trans HB.out Hm.out.size) Hud.out (by have := Hil.out; omega) hci (Hkin.out.new Hm.out)).mono ?_
      rintro e w1 ⟨hF, hm1⟩
      have Hm1 := Lib.hid hm1
      rcases hF with ⟨hk16, rfl⟩ | ⟨hk16, rfl⟩
      · obtain ⟨k, hk⟩ : ∃ k, k = kindOf (us.drop i) := ⟨_, rfl⟩
        rw [← hk] at hk16 ⊢
        have Hk := Lib.hid hk
        have hnp := num_pos hk16
        have hd0 := ((Hkin.out.new (Hm.out.trans Hm1.out (fun _ _ h => h))).2 k hk16).1
        obtain ⟨c, hc⟩ : ∃ c, c = numN k := ⟨_, rfl⟩
        rw [← hc] at hd0
        obtain ⟨m, hmm⟩ : ∃ m, min c gk = m := ⟨_, rfl⟩
        have hmin := min2_is (P := Tryd.prog) (t := 3) (ty := 3) hmm
        have hc1 : 1 ≤ c := by rw [hc]; exact hnp.1
        have hmc : m ≤ c := by omega
        have hmg : m ≤ gk := by omega
        have hm1' : 1 ≤ m := by omega
        have hm0 : (0 : Int) ≤ (m : Int) := by omega
        have hmci : (m : Int) ≤ (ci : Int) := by omega
        have hmgi : (m : Int) ≤ (gk : Int) := by omega
        have hk0 : (0 : Int) ≤ (k : Int) := by omega
        have hkk : (k : Int) < 16 := by omega
        have Hc := Lib.hid hc; have Hmm := Lib.hid hmm
        clear hk hc hmm hnp hm1
        have Hus : Hid (Rds w1 B Ai m (cellsU ((us.drop i).take m))) := Lib.hid (by rw [← cellsU_take]; exact (Hr.out.take hmg).mod Hm1.out (Nat.le_trans HB.out Hm.out.size) (fun _ _ h => h))
        have Hsz : Hid (B ≤ w1.heap.size) := Lib.hid (Nat.le_trans HB.out (Nat.le_trans Hm.out.size Hm1.out.size))
        have Hfit : Hid (∀ x ∈ (us.drop i).take m, x < 2 ^ bitN k) := Lib.hid (by
          have h := fitsK_all (kind_fits (u := us.drop i) (by rw [← Hk.out]; exact hk16))
          rw [← Hk.out] at h
          intro x hx
          refine h x ?_
          have e : ((us.drop i).take (numN k)).take m = (us.drop i).take m := by rw [List.take_take]; congr 1; have := Hc.out; omega
          rw [← e] at hx
          exact List.mem_of_mem_take hx)
        have Hkin1 := Lib.hid (Hkin.out.new (Hm.out.trans Hm1.out (fun _ _ h => h)))
        go_wp2_with fail
        refine (pack_any Ai m ci B k _ w1 Hus.out Hsz.out hk16 (by rw [← Hc.out]; exact hmc) Hfit.out Hkin1.out).mono ?_
        rintro e w2 ⟨rfl, rfl⟩
        have Hown1 := Lib.hid (Hm1.out.owns Hown.out (fun _ _ h => h))
        have hr1 : (cellsU done).length + 1 ≤ maxLen := by rw [cellsU_length]; unfold maxLen; have := Hdl.out; have := Hil.out; omega
        have hr2 : ((cellsU done).length + 1) * 8 ≤ 140737488355328 := by rw [cellsU_length]; have := Hdl.out; have := Hil.out; omega
        have hsz : w.heap.size ≤ w1.heap.size := Nat.le_trans Hm.out.size Hm1.out.size
        obtain ⟨wd, hwd⟩ : ∃ wd, wd = wordN k ((us.drop i).take m) := ⟨_, rfl⟩
        rw [← hwd]
        have Hwd := Lib.hid hwd
        clear hwd hmin hd0
        obtain ⟨A2, hA2⟩ : ∃ A2, (if ci = m then Ai else Ai.map (·.add m)) = A2 := ⟨_, rfl⟩
        have Hr2 : Hid (Rds wr B A2 (gk - m) ((cellsU (us.drop i)).drop m)) := Lib.hid (by rw [← hA2]; exact Hr.out.drop hmg hci)
        go_wp2_with (at_builtin; refine wpList_app1 rfl (.tmp 25) (.tmp 31) _ rfl eltU rfl Hown1.out rfl rfl rfl hr1 hr2 hsz ?_; intro v' w2 HO HBl)
        have hmin2 : min (numN k) (us.length - i) = m := by have := Hmm.out; have := Hc.out; have := Hul.out; have := Hil.out; omega
        have hst := enc_step (us := us) (i := i) (k := k) (done := done) (by have := Hul.out; have := Hil.out; omega) Henc.out Hk.out.symm hk16
        rw [hmin2, ← Hwd.out] at hst
        have Hm2 := Lib.hid ((Hm.out.trans Hm1.out (fun _ _ h => h)).trans (Mod.of_below HBl.out) (fun i hi h => by omega))
        have HE2 : Hid (EncTo w w2 us (i + m) v') := Lib.hid ⟨done ++ [wd], by rw [cellsU_snoc]; exact HO.out, by rw [List.length_append, List.length_singleton]; have := Hdl.out; omega, hst, Hm2.out⟩
        have Hr3 : Hid (Rds w2 B A2 (gk - m) (cellsU (us.drop (i + m)))) := Lib.hid (by
          have h := Hr2.out
          rw [show (cellsU (us.drop i)).drop m = cellsU (us.drop (i + m)) by simp [cellsU, ← List.map_drop]] at h
          exact (h.mod Hm1.out (Nat.le_trans HB.out Hm.out.size) (fun _ _ h => h)).mod (Mod.of_below HBl.out) Hsz.out (fun j hj h => by have := HB.out; omega))
        clear hst hmin2 hA2
        go_roundg (gk - m)
        case measure => omega
        case rel => exact ⟨i + m, A2, ci - m, by have := Hil.out; omega, rfl, by omega, Hr3.out, HE2.out⟩
      · have Hk := Lib.hid hk16
        clear hk16 hm1
        go_wp2_with fail
        go_ret2
        have hn := enc_stop (us := us) (i := i) (done := done) (by have := Hul.out; have := Hil.out; omega) Henc.out Hk.out
        rw [hn]
        exact ⟨rfl, Hm.out.trans Hm1.out (fun _ _ h => h)⟩
    · go_wp2_with fail
      go_ret2
      obtain ⟨done, hown, hdl, henc, hm⟩ := HE.out
      have e : encS us = some done := by
        rw [henc, List.drop_of_length_le (by have := Hul.out; have := Hil.out; omega), encS_nil]
        simp
      rw [e]
      exact ⟨_, rfl, hown, hm⟩
end Go.Proofs.YthhcfngnbgckmaaDoor

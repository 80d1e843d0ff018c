/- SimpBack's walk. -/
import Derived.Test.YthhcfngnbgckmaaDoorSa
import Derived.Test.YthhcfngnbgckmaaDoorUz
namespace Go.Proofs.YthhcfngnbgckmaaDoor
open Go.RowKit

/-- What the loop has laid. -/
def BackTo (w wr : World) (v : Value) (i : Nat) : Prop := ∃ ts : List Nat, Own w.heap.size wr 23 v (cellsU ts) ∧ ts.length = i ∧ (∀ x ∈ ts, x < 2 ^ 60) ∧ Mod (fun _ => False) w wr
theorem oneU (k : IntKind) (z : Int) : (Value.int k z).oneCell' = true := rfl
theorem cellsU_zeros (ts : List Nat) (k : Nat) : cellsU ts ++ List.replicate k (Value.int .u64 0) = cellsU (ts ++ List.replicate k 0) := by simp [cellsU]
set_option maxHeartbeats 4000000 in
set_option maxRecDepth 100000 in
theorem simpBack_walk (A : Option Addr) (n cap : Nat) (zs : List Nat) (bs zeros : Int) (w : World) (hs : Rds w w.heap.size A n (cellsU zs)) (hz : ∀ x ∈ zs, x < 2 ^ 64) (hk : Kin w) :
    Calls Tryd.prog 4 #[.slice A n cap, .int .i64 bs, .int .i64 zeros] w fun e w' => e = .returned (.bool true) ∧ Mod (fun _ => False) w w' := by
  have Hs := Lib.hid hs; have Hz := Lib.hid hz; have Hkin := Lib.hid hk
  have H0 : Hid (BackTo w w (.slice none 0 0) 0) := Lib.hid ⟨[], Own.nil _ _ _, rfl, (fun _ h => by cases h), Mod.refl _ _⟩
  clear hs hz hk
  go_enter Tryd.func4, Tryd.ntmps4
  go_wp2_with fail
  go_loopg [7, 8] 60 (fun l s7 s8 wr => ∃ i : Nat, i + l = 60 ∧ i ≤ n ∧ s8 = .int .i64 (i : Int) ∧ BackTo w wr s7 i)
  case atStart => exact ⟨0, rfl, Nat.zero_le _, rfl, H0.out⟩
  case round =>
    obtain ⟨i, hil, hin', rfl, hT⟩ := hrel
    have HT := Lib.hid hT; have Hil := Lib.hid hil
    clear hT hil H0
    by_cases hgo : i < n ∧ i < 60
    · obtain ⟨hin, hi60⟩ := hgo
      obtain ⟨ts, hown, hl, hf, hm⟩ := HT.out
      obtain ⟨ad, x, rfl, hx, hcx⟩ := Hs.out.at2 hin (Nat.le_refl _) hm (fun _ _ h => h)
      have hxf := Lib.hid (Hz.out x (List.mem_of_getElem? hx))
      obtain ⟨b, hb, hb256⟩ : ∃ b : Nat, bits .and .i64 bs 255 = (b : Int) ∧ b < 256 := and_nat bs 255 8 rfl (by omega)
      obtain ⟨h, hh, hh60⟩ : ∃ h : Nat, (b : Int) % 60 = (h : Int) ∧ h < 60 := ⟨b % 60, by omega, by omega⟩
      have Hown := Lib.hid hown; have Hl := Lib.hid hl; have Hf := Lib.hid hf; have Hm := Lib.hid hm
      clear hown hl hf hm hx HT
      have hi0 : (0 : Int) ≤ (i : Int) := by omega
      have hi1 : (i : Int) < (n : Int) := by omega
      obtain ⟨y, hy⟩ : ∃ y : Nat, y = x / 2 ^ (4 + h) := ⟨_, rfl⟩
      have hyi : (x : Int) / 2 ^ (4 + h) = (y : Int) := by rw [hy, Int.natCast_ediv]; simp
      have Hy60 : Hid (y < 2 ^ 60) := Lib.hid (by
        rw [hy, Nat.pow_add, ← Nat.div_div_eq_div_mul]
        refine Nat.lt_of_le_of_lt (Nat.div_le_self _ _) ?_
        have := hxf.out
        omega)
      have hsz := Hm.out.size
      have hr1 : (cellsU ts).length + 1 ≤ maxLen := by rw [cellsU_length, Hl.out]; unfold maxLen; omega
      have hr2 : ((cellsU ts).length + 1) * 8 ≤ 140737488355328 := by rw [cellsU_length, Hl.out]; omega
      clear hy
      go_wp2_with (at_builtin; refine wpList_app1 rfl (.tmp 23) (.tmp 34) _ rfl eltU rfl Hown.out rfl rfl rfl hr1 hr2 hsz ?_; intro v' w2 HO HB)
      have HT2 : Hid (BackTo w w2 v' (i + 1)) := Lib.hid ⟨ts ++ [y], by rw [cellsU_snoc]; exact HO.out, by simp [Hl.out], fun u hu => (by
        rw [List.mem_append, List.mem_singleton] at hu
        rcases hu with hu | rfl
        · exact Hf.out u hu
        · exact Hy60.out), Hm.out.trans (Mod.of_below HB.out) (fun i hi h => by omega)⟩
      go_roundg (gk - 1)
      case measure => have := Hil.out; omega
      case rel => exact ⟨i + 1, by have := Hil.out; omega, by omega, by go_num, HT2.out⟩
    · have hways : ¬ i < n ∨ (i < n ∧ ¬ i < 60) := by omega
      obtain ⟨ts, hown, hl, hf, hm⟩ := HT.out
      have Hown := Lib.hid hown; have Hl := Lib.hid hl; have Hf := Lib.hid hf; have Hm := Lib.hid hm
      obtain ⟨k, hk, hk1⟩ : ∃ k : Nat, bits .and .i64 zeros 1023 = (k : Int) ∧ k < 1024 := and_nat zeros 1023 10 rfl (by omega)
      have hi60 : i ≤ 60 := by have := Hil.out; omega
      have hr1 : (cellsU ts).length + k ≤ maxLen := by rw [cellsU_length, hl]; unfold maxLen; omega
      have hr2 : ((cellsU ts).length + k) * 8 ≤ 140737488355328 := by rw [cellsU_length, hl]; omega
      have hsz := hm.size
      clear hown hl hf hm HT hgo
      rcases hways with hin | ⟨hin, hi⟩
      all_goals
        go_wp2_with (at_builtin; refine wpList_zeros rfl (.tmp 36) (.tmp 38) _ 3 rfl eltU (kn := .i64) Tryd.underlying3 rfl (oneU _ _) rfl Hown.out rfl hr1 hr2 hsz ?_; intro v' w2 HO HBl)
        have hO : Own w.heap.size w2 23 v' (cellsU (ts ++ List.replicate k 0)) := by rw [← cellsU_zeros]; exact HO.out
        obtain ⟨vs, hvs⟩ : ∃ vs, vs = ts ++ List.replicate k 0 := ⟨_, rfl⟩
        rw [← hvs] at hO
        have hvl : vs.length = i + k := by rw [hvs]; simp [Hl.out]
        have Hv60 : Hid (∀ x ∈ vs, x < 2 ^ 60) := Lib.hid (by
          rw [hvs]
          intro x hx
          rcases List.mem_append.1 hx with hx | hx
          · exact Hf.out x hx
          · rw [List.eq_of_mem_replicate hx]; exact Nat.two_pow_pos _)
        have Hv64 : Hid (∀ x ∈ vs, x < 2 ^ 64) := Lib.hid fun x hx => Nat.lt_of_lt_of_le (Hv60.out x hx) (Nat.pow_le_pow_right (by omega) (by omega))
        obtain ⟨ws, hws⟩ := encS_can _ vs rfl Hv60.out
        obtain ⟨hwl, hw64⟩ := encS_len _ vs ws rfl hws
        obtain ⟨A2, c2, rfl, hc2, hr2'⟩ := own_formU hO
        have Hown2 := Lib.hid hO; have Hr2 := Lib.hid hr2'; have Hws := Lib.hid hws; have Hw64 := Lib.hid hw64
        have Hm2 := Lib.hid (Hm.out.trans (Mod.of_below HBl.out) (fun i hi h => by omega))
        have hvl2 : vs.length ≤ 2000 := by omega
        clear hO hvs hr2' hws hw64 HO hvl Hown
        go_wp2_with fail
        refine (enc_any A2 vs.length c2 _ vs w2 Hr2.out (Nat.le_refl _) Hv64.out (by omega) hc2 (Hkin.out.new Hm2.out)).mono ?_
        intro e w3 hE
        obtain ⟨v, rfl, ho3, hm3⟩ := hE.some_ Hws.out
        obtain ⟨A3, c3, rfl, _, hr3⟩ := own_formU ho3
        have Hr3 := Lib.hid hr3; have Hm3 := Lib.hid (Hm2.out.trans hm3 (fun _ _ h => h)); have Hr23 := Lib.hid (Hr2.out.new hm3)
        clear hE ho3 hm3 hr3
        go_wp2_with fail
        refine (sdec_any A3 ws.length c3 _ vs.length (vs.length : Int) ws w3 Hr3.out (Nat.le_refl _) Hw64.out (by omega) (by omega) (Hkin.out.new Hm3.out)).mono ?_
        intro e w4 hE
        obtain ⟨v, rfl, ho4, hm4⟩ := hE.some_ (decS_of rfl Hws.out)
        obtain ⟨A4, c4, rfl, _, hr4⟩ := own_formU ho4
        have Hr4 := Lib.hid hr4; have Hm4 := Lib.hid (Hm3.out.trans hm4 (fun _ _ h => h)); have Hr24 := Lib.hid (Hr23.out.fit.new hm4)
        clear hE ho4 hm4 hr4
        go_wp2_with fail
        refine (same_words A4 A2 vs.length c4 c2 _ _ vs w4 Hr4.out Hr24.out (by omega)).mono ?_
        rintro e w5 ⟨rfl, hm5⟩
        have Hm5 := Lib.hid (Hm4.out.trans hm5 (fun _ _ h => h))
        clear hm5
        go_wp2_with fail
        refine (sawake_any _ (Hkin.out.new Hm5.out)).mono ?_
        rintro e w6 ⟨rfl, hm6⟩
        have Hm6 := Lib.hid (Hm5.out.trans hm6 (fun _ _ h => h))
        clear hm6
        go_wp2_with fail
        go_ret
        exact ⟨rfl, Hm6.out⟩
end Go.Proofs.YthhcfngnbgckmaaDoor

/- Rows of words held beside each other; the statements' own rows of values. -/
import Derived.Test.YtldjobaafambbaaUw
import Derived.Test.YtldjobaafambbaaFit
import Derived.Deep.QuietTactic
import Derived.BigRegion
import Derived.Deep.CutBlock
import Derived.Deep.DeepCutAuto
namespace Go.Proofs.Ytldjobaafambbaa
open Go.RowKit

set_option maxHeartbeats 1000000 in
theorem same_words (A A2 : Option Addr) (n c c2 B B2 : Nat) (xs : List Nat) (w : World) (h1 : Rds w B A n (cellsU xs)) (h2 : Rds w B2 A2 n (cellsU xs)) (hn : n ≤ 1000000) :
    Calls Try.prog 11 #[.slice A n c, .slice A2 n c2] w fun e w' => e = .returned (.bool true) ∧ Mod (fun _ => False) w w' := by
  have H1 := Lib.hid h1.fit; have H2 := Lib.hid h2.fit
  clear h1 h2
  go_enter Try.func11, Try.ntmps11
  go_wp2_with fail
  go_loopg [5] n (fun l s5 wr => ∃ i : Nat, i + l = n ∧ s5 = .int .i64 (i : Int) ∧ Mod (fun _ => False) w wr)
  case atStart => exact ⟨0, by omega, rfl, Mod.refl _ _⟩
  case round =>
    obtain ⟨i, hil, rfl, hm⟩ := hrel
    have Hm := Lib.hid hm; have Hil := Lib.hid hil
    clear hm hil
    by_cases hin : i < n
    · obtain ⟨ad, u, rfl, hb, hu, hc⟩ := (H1.out.new Hm.out).at_ hin
      obtain ⟨ad2, u2, rfl, hb2, hu2, hc2⟩ := (H2.out.new Hm.out).at_ hin
      rw [hu] at hu2
      injection hu2 with hu2
      subst hu2
      rw [cellsU_get] at hu
      obtain ⟨x, hx, rfl⟩ := Option.map_eq_some_iff.1 hu
      clear hu hx hb hb2
      go_upto_region 6 with fail
      go_quiet (fail)
      go_wp2_with fail
      go_roundg (gk - 1)
      case measure => have := Hil.out; omega
      case rel => exact ⟨i + 1, by have := Hil.out; omega, by go_num, Hm.out.drewN _⟩
    · go_wp2_with fail
      go_ret
      exact ⟨rfl, Hm.out⟩
def ValsTo (w wr : World) (v : Value) (z : Nat) (i : Nat) : Prop := ∃ ts : List Nat, Own w.heap.size wr 32 v (cellsU ts) ∧ ts.length = i ∧ (∀ x ∈ ts, x < 2 ^ 64) ∧ z < 2 ^ 64 ∧ Mod (fun _ => False) w wr
set_option maxHeartbeats 4000000 in
set_option maxRecDepth 100000 in
theorem values_any (A : Option Addr) (n c : Nat) (zs : List Nat) (how : Int) (w : World) (hs : Rds w w.heap.size A n (cellsU zs)) (hz : ∀ x ∈ zs, x < 2 ^ 64) :
    Calls Try.prog 12 #[.slice A n c, .int .i64 how] w fun e w' => ∃ (v : Value) (ts : List Nat), e = .returned v ∧ Own w.heap.size w' 32 v (cellsU ts) ∧ ts.length ≤ 60 ∧ (∀ x ∈ ts, x < 2 ^ 64) ∧ Mod (fun _ => False) w w' := by
  have Hs := Lib.hid hs; have Hz := Lib.hid hz
  have H0 : Hid (ValsTo w w (.slice none 0 0) 0 0) := Lib.hid ⟨[], Own.nil _ _ _, rfl, (fun _ h => by cases h), by decide, Mod.refl _ _⟩
  obtain ⟨j, hj, hj8⟩ : ∃ j : Nat, bits .and .i64 how 7 = (j : Int) ∧ j < 8 := and_nat how 7 3 rfl (by omega)
  clear hs hz
  go_enter Try.func12, Try.ntmps12
  go_wp2_with fail
  go_loopg [5, 6, 7] 60 (fun l s5 s6 s7 wr => ∃ (i z : Nat), i + l = 60 ∧ s7 = .int .i64 (i : Int) ∧ s6 = .int .u64 (z : Int) ∧ ValsTo w wr s5 z i)
  case atStart => exact ⟨0, 0, by omega, rfl, rfl, H0.out⟩
  case round =>
    obtain ⟨i, z, hil, rfl, rfl, hT⟩ := hrel
    have HT := Lib.hid hT; have Hil := Lib.hid hil
    clear hT hil H0
    by_cases hin : i < n
    · by_cases hi60 : i < 60
      · obtain ⟨ts, hown, hl, hf, hzf, hm⟩ := HT.out
        obtain ⟨ad, x, rfl, hx, hcx⟩ := Hs.out.at2 hin (Nat.le_refl _) hm (fun _ _ h => h)
        have hxf := Lib.hid (Hz.out x (List.mem_of_getElem? hx))
        have Hown := Lib.hid hown; have Hl := Lib.hid hl; have Hf := Lib.hid hf; have Hm := Lib.hid hm; have Hzf := Lib.hid hzf
        clear hown hl hf hm hx HT hzf
        have hi0 : (0 : Int) ≤ (i : Int) := by omega
        go_upto_block 2 with fail
        go_cut [8] (fun s8 wc => ∃ y : Nat, y < 2 ^ 64 ∧ s8 = .int .u64 (y : Int) ∧ wr = wc)
        case first =>
          obtain ⟨b3, hb3, hb3l⟩ : ∃ y : Nat, bits .and .u64 (x : Int) 3 = (y : Int) ∧ y ≤ 3 := andU_ex x 3 hxf.out (by decide)
          obtain ⟨b15, hb15, hb15l⟩ : ∃ y : Nat, bits .and .u64 (x : Int) 15 = (y : Int) ∧ y ≤ 15 := andU_ex x 15 hxf.out (by decide)
          obtain ⟨b63, hb63, hb63l⟩ : ∃ y : Nat, bits .and .u64 (x : Int) 63 = (y : Int) ∧ y ≤ 63 := andU_ex x 63 hxf.out (by decide)
          obtain ⟨b1, hb1, hb1l⟩ : ∃ y : Nat, bits .and .u64 (x : Int) 1 = (y : Int) ∧ y ≤ 1 := andU_ex x 1 hxf.out (by decide)
          obtain ⟨bw, hbw, hbwl⟩ : ∃ y : Nat, bits .and .u64 (x : Int) 65535 = (y : Int) ∧ y ≤ 65535 := andU_ex x 65535 hxf.out (by decide)
          have hb63p : (0 : Int) ≤ (b63 : Int) := by omega
          obtain ⟨s1, hs1, hs1l⟩ := wrapU_ex ((z : Int) + (b15 : Int))
          obtain ⟨s4, hs4, hs4l⟩ := wrapU_ex ((z : Int) + (bw : Int))
          obtain ⟨d4, hd4, hd4l⟩ := wrapU_ex ((s4 : Int) - 32768)
          obtain ⟨m7, hm7, hm7l⟩ := wrapU_ex ((b1 : Int) * 7)
          obtain ⟨p2, hp2, hp2l⟩ := wrapU_ex ((2 : Int) ^ b63)
          obtain ⟨x2, hx2, hx2l⟩ := xorU_ex z p2 Hzf.out hp2l
          obtain ⟨q5, hq5, hq5l⟩ : ∃ q5 : Nat, (x : Int) / 16 = (q5 : Int) ∧ q5 < 2 ^ 64 := ⟨x / 16, by omega, by have := hxf.out; omega⟩
          have h3 : b3 < 2 ^ 64 := by omega
          have HL : Hid (s1 < 2 ^ 64 ∧ x2 < 2 ^ 64 ∧ m7 < 2 ^ 64 ∧ d4 < 2 ^ 64 ∧ q5 < 2 ^ 64 ∧ b3 < 2 ^ 64) := Lib.hid ⟨hs1l, hx2l, hm7l, hd4l, hq5l, h3⟩
          clear hs1l hx2l hm7l hd4l hq5l h3 hs4l hp2l
          have hjc : j = 0 ∨ j = 1 ∨ j = 2 ∨ j = 3 ∨ j = 4 ∨ j = 5 ∨ 5 < j := by omega
          rcases hjc with rfl | rfl | rfl | rfl | rfl | rfl | hj5
          · go_wp2_with fail
            go_meet
            case rel => exact ⟨b3, HL.out.2.2.2.2.2, rfl, rfl⟩
          · go_wp2_with fail
            go_meet
            case rel => exact ⟨s1, HL.out.1, rfl, rfl⟩
          · go_wp2_with fail
            go_meet
            case rel => exact ⟨x2, HL.out.2.1, rfl, rfl⟩
          · go_wp2_with fail
            go_meet
            case rel => exact ⟨m7, HL.out.2.2.1, rfl, rfl⟩
          · go_wp2_with fail
            go_meet
            case rel => exact ⟨d4, HL.out.2.2.2.1, rfl, rfl⟩
          · go_wp2_with fail
            go_meet
            case rel => exact ⟨q5, HL.out.2.2.2.2.1, rfl, rfl⟩
          · go_wp2_with fail
            go_meet
            case rel => exact ⟨x, hxf.out, rfl, rfl⟩
        case rest =>
          obtain ⟨y, hyf, rfl, rfl⟩ := hcut
          have Hyf := Lib.hid hyf
          have hsz := Hm.out.size
          have hr1 : (cellsU ts).length + 1 ≤ maxLen := by rw [cellsU_length, Hl.out]; unfold maxLen; omega
          have hr2 : ((cellsU ts).length + 1) * 8 ≤ 140737488355328 := by rw [cellsU_length, Hl.out]; omega
          clear hcx hyf hj
          go_wp2_with (at_builtin; refine wpList_app1 rfl (.tmp 58) (.tmp 60) _ rfl eltU rfl Hown.out rfl rfl rfl hr1 hr2 hsz ?_; intro v' w2 HO HB)
          have HT2 : Hid (ValsTo w w2 v' y (i + 1)) := Lib.hid ⟨ts ++ [y], by rw [cellsU_snoc]; exact HO.out, by simp [Hl.out], fun u hu => (by
            rw [List.mem_append, List.mem_singleton] at hu
            rcases hu with hu | rfl
            · exact Hf.out u hu
            · exact Hyf.out), Hyf.out, Hm.out.trans (Mod.of_below HB.out) (fun i hi h => by omega)⟩
          go_roundg (gk - 1)
          case measure => have := Hil.out; omega
          case rel => exact ⟨i + 1, y, by have := Hil.out; omega, by go_num, rfl, HT2.out⟩
      · go_wp2_with fail
        go_ret
        obtain ⟨ts, hown, hl, hf, hzf, hm⟩ := HT.out
        exact ⟨_, ts, rfl, hown, by have := Hil.out; omega, hf, hm⟩
    · go_wp2_with fail
      go_ret
      obtain ⟨ts, hown, hl, hf, hzf, hm⟩ := HT.out
      exact ⟨_, ts, rfl, hown, by have := Hil.out; omega, hf, hm⟩
end Go.Proofs.Ytldjobaafambbaa

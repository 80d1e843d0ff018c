/- The statements' own rows of times: Times. -/
import Derived.Test.YtjphlbnbgpjfmaaDoorTs
namespace Go.Proofs.YtjphlbnbgpjfmaaDoor
open Go.RowKit

def TimesTo (w wr : World) (v : Value) (z : Int) (i : Nat) : Prop := ∃ ts : List Int, Own w.heap.size wr 2 v (cellsI ts) ∧ ts.length = i ∧ (∀ x ∈ ts, Fits x) ∧ FitI z ∧ Mod (fun _ => False) w wr
theorem wrap_fits (x : Int) : Fits (wrap64 x) := by rw [wrap_sg]; exact sg_fits (un_lt x)
theorem fitI_of {x : Int} (h : FitI x) : Fits x := by
  have h1 := h.out
  have hh : (H63 : Int) = 9223372036854775808 := rfl
  exact ⟨by omega, by omega⟩
theorem of_fits {x : Int} (h : Fits x) : FitI x := by
  have h1 := h.1; have h2 := h.2
  have hh : (H63 : Int) = 9223372036854775808 := rfl
  exact ⟨by omega, by omega⟩
theorem eight {a b c d e : Int} {j : Nat} (h : j < 8) : ∃ y : Int, (#[Value.int .i64 a, .int .i64 b, .int .i64 c, .int .i64 d, .int .i64 e, .int .i64 60, .int .i64 60, .int .i64 60] : Array Value)[j]? = some (.int .i64 y) := by
  have h' : j = 0 ∨ j = 1 ∨ j = 2 ∨ j = 3 ∨ j = 4 ∨ j = 5 ∨ j = 6 ∨ j = 7 := by omega
  rcases h' with rfl | rfl | rfl | rfl | rfl | rfl | rfl | rfl <;> exact ⟨_, rfl⟩
/-- Behind the literal: its cell j; nothing else has turned. -/
def TimC (wr : World) (p : Addr) (x : Int) (H j : Nat) (y : Int) (w' : World) : Prop := w'.cell? p = some (.int .i64 x) ∧ w'.cell? ⟨H, j, none⟩ = some (.int .i64 y) ∧ Mod (fun _ => False) wr w'
set_option maxHeartbeats 4000000 in
set_option maxRecDepth 100000 in
theorem times_any (A : Option Addr) (n c : Nat) (zs : List Int) (raw : Bool) (w : World) (hs : SeesI .i64 w w.heap.size A n zs) (hz : ∀ x ∈ zs, FitI x) :
    Calls Tryd.prog 13 #[.slice A n c, .bool raw] w fun e w' => ∃ (v : Value) (ts : List Int), e = .returned v ∧ Own w.heap.size w' 2 v (cellsI ts) ∧ ts.length ≤ 60 ∧ (∀ x ∈ ts, Fits x) ∧ Mod (fun _ => False) w w' := by
  have Hs := Lib.hid hs; have Hz := Lib.hid hz
  have H0 : Hid (∀ z, FitI z → TimesTo w w (.slice none 0 0) z 0) := Lib.hid (fun z hz => ⟨[], Own.nil _ _ _, rfl, (fun _ h => by cases h), hz, Mod.refl _ _⟩)
  clear hs hz
  go_enter Tryd.func13, Tryd.ntmps13
  go_upto_if 11 with fail
  go_cut [6] (fun s6 wc => ∃ z, FitI z ∧ s6 = .int .i64 z ∧ w = wc)
  case first =>
    by_cases h0 : 0 < n
    · obtain ⟨ad, x, rfl, hx, hcx⟩ := Hs.out.at_ h0 (Nat.le_refl _) (Mod.refl (fun _ => False) w) (fun _ _ h => h)
      have hxf := Hz.out x (List.mem_of_getElem? hx)
      have hcx0 : w.cell? ad = some (.int .i64 x) := by rw [← add_zero' ad]; exact hcx
      clear hx hcx
      go_wp2_with fail
      go_meet
      case rel => exact ⟨x, hxf, rfl, rfl⟩
    · go_wp2_with fail
      go_meet
      case rel => exact ⟨0, ⟨by decide, by decide⟩, rfl, rfl⟩
  case rest =>
    obtain ⟨z, hzf, rfl, rfl⟩ := hcut
    have H1 : Hid (TimesTo w w (.slice none 0 0) z 0) := Lib.hid (H0.out z hzf)
    clear H0 hzf
    go_wp2_with fail
    go_loopg [5, 6, 7] 60 (fun l s5 s6 s7 wr => ∃ (i : Nat) (z : Int), i + l = 60 ∧ s7 = .int .i64 (i : Int) ∧ s6 = .int .i64 z ∧ TimesTo w wr s5 z i)
    case atStart => exact ⟨0, z, by omega, rfl, rfl, H1.out⟩
    case round =>
      obtain ⟨i, z, hil, rfl, rfl, hT⟩ := hrel
      have HT := Lib.hid hT; have Hil := Lib.hid hil
      clear hT hil H1
      by_cases hin : i < n
      · by_cases hi60 : i < 60
        · obtain ⟨ts, hown, hl, hf, hzf, hm⟩ := HT.out
          obtain ⟨ad, x, rfl, hx, hcx⟩ := Hs.out.at_ hin (Nat.le_refl _) hm (fun _ _ h => h)
          have hxf := Hz.out x (List.mem_of_getElem? hx)
          have hlt := World.block_lt_of_cell? wr _ hcx
          have Hown := Lib.hid hown; have Hl := Lib.hid hl; have Hf := Lib.hid hf; have Hm := Lib.hid hm; have Hx := Lib.hid hx
          clear hown hl hf hm hx HT
          have hi0 : (0 : Int) ≤ (i : Int) := by omega
          have hw7 : IntKind.i64.wrap ((i : Int) + 1) = (i : Int) + 1 := IntWalk.i64_in _ (by omega)
          go_upto_if 30 with fail
          go_cut [8] (fun s8 wc => ∃ y, Fits y ∧ s8 = .int .i64 y ∧ Mod (fun _ => False) wr wc)
          case first =>
            cases raw with
            | true =>
              go_wp2_with fail
              go_meet
              case rel => exact ⟨x, fitI_of hxf, rfl, Mod.refl _ _⟩
            | false =>
              obtain ⟨j, hj, hj8⟩ : ∃ j : Nat, bits .and .i64 x 7 = (j : Int) ∧ j < 8 := and_nat x 7 3 rfl (by omega)
              have hcd : wr.drew.cell? (ad.add i) = some (.int .i64 x) := hcx
              have hal : ∀ o, (wr.drew.alloc o).cell? (ad.add i) = some (.int .i64 x) := fun o => (World.cell?_alloc_lt wr.drew o _ hlt).trans hcx
              go_wp2_with fail
              refine wp_region_held_drew (S := fun w' => w'.cell? (ad.add i) = some (.int .i64 x)) (by kernel_rfl) hcd (fun hHeld => ?_)
              refine wpAnyH_take (i := 0) (v := ?_) rfl (by kernel_rfl) (by kernel_rfl) (by kernel_rfl) (fun _ _ _ h => h) (Or.inl ⟨by rfl, ?_⟩) hHeld ?_
              rotate_left
              · (intro w hSw; (try dsimp only at hSw); go_simp; first | done | with_reducible rfl)
              simp only [Act.put]
              refine wpAnyH_take (i := 1) (v := ?_) rfl (by kernel_rfl) (by kernel_rfl) (by kernel_rfl) (fun _ _ _ h => h) (Or.inl ⟨by rfl, ?_⟩) hHeld ?_
              rotate_left
              · (intro w hSw; (try dsimp only at hSw); go_simp; first | done | with_reducible rfl)
              simp only [Act.put]
              refine wpAnyH_take (i := 2) (v := ?_) rfl (by kernel_rfl) (by kernel_rfl) (by kernel_rfl) (fun _ _ _ h => h) (Or.inl ⟨by rfl, ?_⟩) hHeld ?_
              rotate_left
              · (intro w hSw; (try dsimp only at hSw); go_simp; first | done | with_reducible rfl)
              simp only [Act.put]
              refine wpAnyH_take (i := 3) (v := ?_) rfl (by kernel_rfl) (by kernel_rfl) (by kernel_rfl) (fun _ _ _ h => h) (Or.inl ⟨by rfl, ?_⟩) hHeld ?_
              rotate_left
              · (intro w hSw; (try dsimp only at hSw); go_simp; first | done | with_reducible rfl)
              simp only [Act.put]
              refine wpAnyH_take (i := 4) (v := ?_) rfl (by kernel_rfl) (by kernel_rfl) (by kernel_rfl) (fun _ _ _ h => h) (Or.inl ⟨by rfl, ?_⟩) hHeld ?_
              rotate_left
              · (intro w hSw; (try dsimp only at hSw); go_simp; first | done | with_reducible rfl)
              simp only [Act.put]
              refine wpAnyH_take (i := 5) (v := ?_) rfl (by kernel_rfl) (by kernel_rfl) (by kernel_rfl) (fun _ _ _ h => h) (Or.inl ⟨by rfl, ?_⟩) hHeld ?_
              rotate_left
              · (intro w hSw; (try dsimp only at hSw); go_simp; first | done | with_reducible rfl)
              simp only [Act.put]
              refine wpAnyH_take (i := 6) (v := ?_) rfl (by kernel_rfl) (by kernel_rfl) (by kernel_rfl) (fun _ _ _ h => h) (Or.inl ⟨by rfl, ?_⟩) hHeld ?_
              rotate_left
              · (intro w hSw; (try dsimp only at hSw); go_simp; first | done | with_reducible rfl)
              simp only [Act.put]
              refine wpAnyH_take (i := 7) (v := ?_) rfl (by kernel_rfl) (by kernel_rfl) (by kernel_rfl) (fun _ _ _ h => h) (Or.inl ⟨by rfl, ?_⟩) hHeld ?_
              rotate_left
              · (intro w hSw; (try dsimp only at hSw); go_simp; first | done | with_reducible rfl)
              simp only [Act.put]
              refine wpAnyH_take (i := 8) (v := ?_) rfl (by kernel_rfl) (by kernel_rfl) (by kernel_rfl) (fun _ _ _ h => h) (Or.inl ⟨by rfl, ?_⟩) hHeld ?_
              rotate_left
              · (intro w hSw; (try dsimp only at hSw); go_simp; first | done | with_reducible rfl)
              simp only [Act.put]
              refine wpAnyH_take (i := 9) (v := ?_) rfl (by kernel_rfl) (by kernel_rfl) (by kernel_rfl) (fun _ _ _ h => h) (Or.inl ⟨by rfl, ?_⟩) hHeld ?_
              rotate_left
              · (intro w hSw; (try dsimp only at hSw); go_simp; first | done | with_reducible rfl)
              simp only [Act.put]
              refine wpAnyH_take (i := 10) (v := ?_) rfl (by kernel_rfl) (by kernel_rfl) (by kernel_rfl) (fun _ _ _ h => h) (Or.inl ⟨by rfl, ?_⟩) hHeld ?_
              rotate_left
              · (intro w hSw; (try dsimp only at hSw); go_simp; first | done | with_reducible rfl)
              simp only [Act.put]
              refine wpAnyH_take (i := 11) (v := ?_) rfl (by kernel_rfl) (by kernel_rfl) (by kernel_rfl) (fun _ _ _ h => h) (Or.inl ⟨by rfl, ?_⟩) hHeld ?_
              rotate_left
              · (intro w hSw; (try dsimp only at hSw); go_simp; first | done | with_reducible rfl)
              simp only [Act.put]
              refine wpAnyH_take (i := 12) (v := ?_) rfl (by kernel_rfl) (by kernel_rfl) (by kernel_rfl) (fun _ _ _ h => h) (Or.inl ⟨by rfl, ?_⟩) hHeld ?_
              rotate_left
              · (intro w hSw; (try dsimp only at hSw); go_simp; first | done | with_reducible rfl)
              simp only [Act.put]
              refine wpAnyH_take (i := 13) (v := ?_) rfl (by kernel_rfl) (by kernel_rfl) (by kernel_rfl) (fun _ _ _ h => h) (Or.inl ⟨by rfl, ?_⟩) hHeld ?_
              rotate_left
              · (intro w hSw; (try dsimp only at hSw); go_simp; first | done | with_reducible rfl)
              simp only [Act.put]
              refine wpAnyH_take (i := 14) (v := ?_) rfl (by kernel_rfl) (by kernel_rfl) (by kernel_rfl) (fun _ _ _ h => h) (Or.inl ⟨by rfl, ?_⟩) hHeld ?_
              rotate_left
              · (intro w hSw; (try dsimp only at hSw); go_simp; first | done | with_reducible rfl)
              simp only [Act.put]
              refine wpAnyH_take (i := 15) (v := ?_) rfl (by kernel_rfl) (by kernel_rfl) (by kernel_rfl) (fun _ _ _ h => h) (Or.inl ⟨by rfl, ?_⟩) hHeld ?_
              rotate_left
              · (intro w hSw; (try dsimp only at hSw); go_simp; first | done | with_reducible rfl)
              simp only [Act.put]
              refine wpAnyH_take (i := 16) (v := ?_) rfl (by kernel_rfl) (by kernel_rfl) (by kernel_rfl) (fun _ _ _ h => h) (Or.inl ⟨by rfl, ?_⟩) hHeld ?_
              rotate_left
              · (intro w hSw; (try dsimp only at hSw); go_simp; first | done | with_reducible rfl)
              simp only [Act.put]
              refine wpAnyH_take (i := 17) (v := ?_) rfl (by kernel_rfl) (by kernel_rfl) (by kernel_rfl) (fun _ _ _ h => h) (Or.inl ⟨by rfl, ?_⟩) hHeld ?_
              rotate_left
              · (intro w hSw; (try dsimp only at hSw); go_simp; first | done | with_reducible rfl)
              simp only [Act.put]
              refine wpAnyH_take (i := 18) (v := ?_) rfl (by kernel_rfl) (by kernel_rfl) (by kernel_rfl) (fun _ _ _ h => h) (Or.inl ⟨by rfl, ?_⟩) hHeld ?_
              rotate_left
              · (intro w hSw; (try dsimp only at hSw); go_simp; first | done | with_reducible rfl)
              simp only [Act.put]
              refine wpAnyH_take (i := 19) (v := ?_) rfl (by kernel_rfl) (by kernel_rfl) (by kernel_rfl) (fun _ _ _ h => h) (Or.inl ⟨by rfl, ?_⟩) hHeld ?_
              rotate_left
              · (intro w hSw; (try dsimp only at hSw); go_simp; first | done | with_reducible rfl)
              simp only [Act.put]
              refine wpAnyH_take (i := 20) (v := ?_) rfl (by kernel_rfl) (by kernel_rfl) (by kernel_rfl) (fun _ _ _ h => h) (Or.inl ⟨by rfl, ?_⟩) hHeld ?_
              rotate_left
              · (intro w hSw; (try dsimp only at hSw); go_simp; first | done | with_reducible rfl)
              simp only [Act.put]
              refine wpAnyH_take (i := 21) (v := ?_) rfl (by kernel_rfl) (by kernel_rfl) (by kernel_rfl) (fun _ _ _ h => h) (Or.inl ⟨by rfl, ?_⟩) hHeld ?_
              rotate_left
              · (intro w hSw; (try dsimp only at hSw); go_simp; first | done | with_reducible rfl)
              simp only [Act.put]
              refine wpAnyH_take (i := 22) (v := ?_) rfl (by kernel_rfl) (by kernel_rfl) (by kernel_rfl) (fun _ _ _ h => h) (Or.inl ⟨by rfl, ?_⟩) hHeld ?_
              rotate_left
              · (intro w hSw; (try dsimp only at hSw); go_simp; first | done | with_reducible rfl)
              simp only [Act.put]
              refine wpAnyH_take (i := 23) (v := ?_) rfl (by kernel_rfl) (by kernel_rfl) (by kernel_rfl) (fun _ _ _ h => h) (Or.inl ⟨by rfl, ?_⟩) hHeld ?_
              rotate_left
              · (intro w hSw; (try dsimp only at hSw); go_simp; first | done | with_reducible rfl)
              simp only [Act.put]
              refine wpAnyH_take (i := 24) (v := ?_) rfl (by kernel_rfl) (by kernel_rfl) (by kernel_rfl) (fun _ _ _ h => h) (Or.inl ⟨by rfl, ?_⟩) hHeld ?_
              rotate_left
              · (intro w hSw; (try dsimp only at hSw); go_simp; first | done | with_reducible rfl)
              simp only [Act.put]
              refine wpAnyH_take (i := 25) (v := ?_) rfl (by kernel_rfl) (by kernel_rfl) (by kernel_rfl) (fun _ _ _ h => h) (Or.inl ⟨by rfl, ?_⟩) hHeld ?_
              rotate_left
              · (intro w hSw; (try dsimp only at hSw); go_simp; first | done | with_reducible rfl)
              simp only [Act.put]
              refine wpAnyH_take (i := 26) (v := ?_) rfl (by kernel_rfl) (by kernel_rfl) (by kernel_rfl) (fun _ _ _ h => h) (Or.inl ⟨by rfl, ?_⟩) hHeld ?_
              rotate_left
              · (intro w hSw; (try dsimp only at hSw); go_simp; first | done | with_reducible rfl)
              simp only [Act.put]
              refine wpAnyH_take (i := 27) (v := ?_) rfl (by kernel_rfl) (by kernel_rfl) (by kernel_rfl) (fun _ _ _ h => h) (Or.inl ⟨by rfl, ?_⟩) hHeld ?_
              rotate_left
              · (intro w hSw; (try dsimp only at hSw); go_simp; first | done | with_reducible rfl)
              simp only [Act.put]
              refine wpAnyH_take (i := 28) (v := ?_) rfl (by kernel_rfl) (by kernel_rfl) (by kernel_rfl) (fun _ _ _ h => h) (Or.inl ⟨by rfl, ?_⟩) hHeld ?_
              rotate_left
              · (intro w hSw; (try dsimp only at hSw); go_simp; first | done | with_reducible rfl)
              simp only [Act.put]
              refine wpAnyH_take (i := 29) (v := ?_) rfl (by kernel_rfl) (by kernel_rfl) (by kernel_rfl) (fun _ _ _ h => h) (Or.inl ⟨by rfl, ?_⟩) hHeld ?_
              rotate_left
              · (intro w hSw; (try dsimp only at hSw); go_simp; first | done | with_reducible rfl)
              simp only [Act.put]
              refine wpAnyH_take (i := 30) (v := ?_) rfl (by kernel_rfl) (by kernel_rfl) (by kernel_rfl) (fun _ _ _ h => h) (Or.inl ⟨by rfl, ?_⟩) hHeld ?_
              rotate_left
              · (intro w hSw; (try dsimp only at hSw); go_simp; first | done | with_reducible rfl)
              simp only [Act.put]
              refine wpAnyH_take (i := 31) (v := ?_) rfl (by kernel_rfl) (by kernel_rfl) (by kernel_rfl) (fun _ _ _ h => h) (Or.inl ⟨by rfl, ?_⟩) hHeld ?_
              rotate_left
              · (intro w hSw; (try dsimp only at hSw); go_simp; first | done | with_reducible rfl)
              simp only [Act.put]
              refine wpAnyH_take (i := 32) (v := ?_) rfl (by kernel_rfl) (by kernel_rfl) (by kernel_rfl) (fun _ _ _ h => h) (Or.inl ⟨by rfl, ?_⟩) hHeld ?_
              rotate_left
              · (intro w hSw; (try dsimp only at hSw); go_simp; first | done | with_reducible rfl)
              simp only [Act.put]
              refine wpAnyH_take (i := 34) (v := ?_) rfl (by kernel_rfl) (by kernel_rfl) (by kernel_rfl) (fun _ _ _ h => h) (Or.inl ⟨by rfl, ?_⟩) hHeld ?_
              rotate_left
              · (intro w hSw; (try dsimp only at hSw); go_simp; first | done | with_reducible rfl)
              simp only [Act.put]
              refine wpAnyH_take (i := 35) (v := ?_) rfl (by kernel_rfl) (by kernel_rfl) (by kernel_rfl) (fun _ _ _ h => h) (Or.inl ⟨by rfl, ?_⟩) hHeld ?_
              rotate_left
              · (intro w hSw; (try dsimp only at hSw); go_simp; first | done | with_reducible rfl)
              simp only [Act.put]
              refine wpAnyH_take (i := 36) (v := ?_) rfl (by kernel_rfl) (by kernel_rfl) (by kernel_rfl) (fun _ _ _ h => h) (Or.inl ⟨by rfl, ?_⟩) hHeld ?_
              rotate_left
              · (intro w hSw; (try dsimp only at hSw); go_simp; first | done | with_reducible rfl)
              simp only [Act.put]
              refine wpAnyH_take (i := 37) (v := ?_) rfl (by kernel_rfl) (by kernel_rfl) (by kernel_rfl) (fun _ _ _ h => h) (Or.inl ⟨by rfl, ?_⟩) hHeld ?_
              rotate_left
              · (intro w hSw; (try dsimp only at hSw); go_simp; first | done | with_reducible rfl)
              simp only [Act.put]
              refine wpAnyH_take (i := 38) (v := ?_) rfl (by kernel_rfl) (by kernel_rfl) (by kernel_rfl) (fun _ _ _ h => h) (Or.inl ⟨by rfl, ?_⟩) hHeld ?_
              rotate_left
              · (intro w hSw; (try dsimp only at hSw); go_simp; first | done | with_reducible rfl)
              simp only [Act.put]
              refine wpAnyH_ready (rs := [33]) (by kernel_rfl) (by simp) (AllReadyH.cons rfl (fun K hK => ?_) AllReadyH.nil)
              go_simp
              refine hK.out _ _ (hal _) (fun _ => ?_)
              clear hK K
              obtain ⟨y, hy⟩ := eight (a := IntKind.i64.wrap ((bits BinOp.and IntKind.i64 (x / 256) 3).tdiv 3)) (b := bits BinOp.and IntKind.i64 (x / 256) 63) (c := bits BinOp.and IntKind.i64 (x / 256) 255) (d := bits BinOp.and IntKind.i64 (x / 256) 4095) (e := bits BinOp.and IntKind.i64 (x / 256) 16777215) hj8
              refine wpAnyH_lex (k := 39) (TimC wr (ad.add i) x wr.heap.size j y) ⟨hal _, ?_, ?_⟩ (fun _ h => h.1) (by kernel_rfl) rfl rfl (by kernel_rfl) ?_
              · exact ((Blk.new wr _ _).cell j).trans hy
              · exact ((Mod.refl _ _).alloc _).drew
              clear hy
              have hj0 : (0 : Int) ≤ (j : Int) := by omega
              have hj8' : (j : Int) < 8 := by omega
              quiet_step (exact fun _ => rfl)
              refine wpQuiet_step (fun K hK => ?_)
              go_simp
              refine ⟨.int .i64 y, fun w2 h2 => ?_, hK _ ?_⟩
              · rw [h2.2.1]
                exact ⟨rfl, rfl⟩
              clear hK K
              iterate 2 quiet_step (exact fun _ => rfl)
              refine wpQuiet_nil ?_
              intro w2 h2
              have Hm2 := Lib.hid h2.2.2
              clear h2
              go_wp2_with fail
              go_meet
              case rel => exact ⟨IntKind.i64.wrap (IntKind.i64.wrap (z + 1) + y), by rw [IntWalk.i64_left]; exact wrap_fits _, rfl, Hm2.out⟩
          case rest =>
            obtain ⟨y, hyf, rfl, hm2⟩ := hcut
            have Hm2 := Lib.hid (Hm.out.trans hm2 (fun _ _ h => h))
            have Hown2 : Hid (Own w.heap.size wc 2 u5 (cellsI ts)) := Lib.hid (hm2.owns Hown.out (fun _ _ h => h))
            have Hyf := Lib.hid hyf
            have hsz := Hm2.out.size
            have hr1 : (cellsI ts).length + 1 ≤ maxLen := by rw [cellsI_length, Hl.out]; unfold maxLen; omega
            have hr2 : ((cellsI ts).length + 1) * 8 ≤ 140737488355328 := by rw [cellsI_length, Hl.out]; omega
            clear hm2 hcx hlt hyf hw7
            go_wp2_with (at_builtin; refine wpList_app1 rfl (.tmp 73) (.tmp 75) _ rfl elt64 rfl Hown2.out rfl rfl rfl hr1 hr2 hsz ?_; intro v' w2 HO HB)
            have HT2 : Hid (TimesTo w w2 v' y (i + 1)) := Lib.hid ⟨ts ++ [y], by rw [cellsI_snoc]; exact HO.out, by simp [Hl.out], fun u hu => (by
              rw [List.mem_append, List.mem_singleton] at hu
              rcases hu with hu | rfl
              · exact Hf.out u hu
              · exact Hyf.out), of_fits Hyf.out, Hm2.out.trans (Mod.of_below HB.out) (fun i hi h => by omega)⟩
            go_roundg (gk - 1)
            case measure => have := Hil.out; omega
            case rel => exact ⟨i + 1, y, by have := Hil.out; omega, by go_num, rfl, HT2.out⟩
        · go_wp2_with fail
          go_ret
          obtain ⟨ts, hown, hl, hf, hzf, hm⟩ := HT.out
          exact ⟨_, ts, rfl, hown, by have := Hil.out; omega, hf, hm⟩
      · go_wp2_with fail
        go_ret
        obtain ⟨ts, hown, hl, hf, hzf, hm⟩ := HT.out
        exact ⟨_, ts, rfl, hown, by have := Hil.out; omega, hf, hm⟩
end Go.Proofs.YtjphlbnbgpjfmaaDoor

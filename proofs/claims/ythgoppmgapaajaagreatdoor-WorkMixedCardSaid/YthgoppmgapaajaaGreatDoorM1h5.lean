/- The texts Tt, Kn, Ks, Kq, Kba, Jn, Jw, Zw, Zm, one behind the other. -/
import Derived.Test.YthgoppmgapaajaaGreatDoorM1h1
import Derived.Test.YthgoppmgapaajaaGreatDoorM1h2
import Derived.Test.YthgoppmgapaajaaGreatDoorM1h4
/- The statements' own rows of times: Times. -/
namespace Go.Proofs.YthgoppmgapaajaaGreatDoor
open Go.RowKit

def TimesTo (w wr : World) (v : Value) (z : Int) (i : Nat) : Prop := ∃ ts : List Int, Own w.heap.size wr 2 v (cellsI ts) ∧ ts.length = i ∧ (∀ x ∈ ts, Fits x) ∧ FitI z ∧ Mod (fun _ => False) w wr
theorem wrap_fits (x : Int) : Fits (wrap64 x) := by rw [wrap_sg]; exact sg_fits (un_lt x)
theorem fitI_of {x : Int} (h : FitI x) : Fits x := by
 have h1 := h.out
 have hh : (H63 : Int) = 9223372036854775808 := rfl
 exact ⟨by omega, by omega⟩
theorem of_fits {x : Int} (h : Fits x) : FitI x := by
 have h1 := h.1; have h2 := h.2
 have hh : (H63 : Int) = 9223372036854775808 := rfl
 exact ⟨by omega, by omega⟩
theorem eight {a b c d e : Int} {j : Nat} (h : j < 8) : ∃ y : Int, (#[Value.int .i64 a, .int .i64 b, .int .i64 c, .int .i64 d, .int .i64 e, .int .i64 60, .int .i64 60, .int .i64 60] : Array Value)[j]? = some (.int .i64 y) := by
 have h' : j = 0 ∨ j = 1 ∨ j = 2 ∨ j = 3 ∨ j = 4 ∨ j = 5 ∨ j = 6 ∨ j = 7 := by omega
 rcases h' with rfl | rfl | rfl | rfl | rfl | rfl | rfl | rfl <;> exact ⟨_, rfl⟩
/-- Behind the literal: its cell j; nothing else has turned. -/
def TimC (wr : World) (p : Addr) (x : Int) (H j : Nat) (y : Int) (w' : World) : Prop := w'.cell? p = some (.int .i64 x) ∧ w'.cell? ⟨H, j, none⟩ = some (.int .i64 y) ∧ Mod (fun _ => False) wr w'
set_option maxHeartbeats 4000000 in
set_option maxRecDepth 100000 in
theorem times_any (A : Option Addr) (n c : Nat) (zs : List Int) (raw : Bool) (w : World) (hs : SeesI .i64 w w.heap.size A n zs) (hz : ∀ x ∈ zs, FitI x) :
  Calls Tryz.prog 17 #[.slice A n c, .bool raw] w fun e w' => ∃ (v : Value) (ts : List Int), e = .returned v ∧ Own w.heap.size w' 2 v (cellsI ts) ∧ ts.length ≤ 60 ∧ (∀ x ∈ ts, Fits x) ∧ Mod (fun _ => False) w w' := by
 have Hs := Lib.hid hs; have Hz := Lib.hid hz
 have H0 : Hid (∀ z, FitI z → TimesTo w w (.slice none 0 0) z 0) := Lib.hid (fun z hz => ⟨[], Own.nil _ _ _, rfl, (fun _ h => by cases h), hz, Mod.refl _ _⟩)
 clear hs hz
 go_enter Tryz.func17, Tryz.ntmps17
 go_upto_if 11 with fail
 go_cut [6] (fun s6 wc => ∃ z, FitI z ∧ s6 = .int .i64 z ∧ w = wc)
 case first =>
  by_cases h0 : 0 < n
  ·obtain ⟨ad, x, rfl, hx, hcx⟩ := Hs.out.at_ h0 (Nat.le_refl _) (Mod.refl (fun _ => False) w) (fun _ _ h => h)
   have hxf := Hz.out x (List.mem_of_getElem? hx)
   have hcx0 : w.cell? ad = some (.int .i64 x) := by rw [← add_zero' ad]; exact hcx
   clear hx hcx
   go_wp2_with fail
   go_meet
   case rel => exact ⟨x, hxf, rfl, rfl⟩
  ·go_wp2_with fail
   go_meet
   case rel => exact ⟨0, ⟨by decide, by decide⟩, rfl, rfl⟩
 case rest =>
  obtain ⟨z, hzf, rfl, rfl⟩ := hcut
  have H1 : Hid (TimesTo w w (.slice none 0 0) z 0) := Lib.hid (H0.out z hzf)
  clear H0 hzf
  go_wp2_with fail
  go_loopg [5, 6, 7] 60 (fun l s5 s6 s7 wr => ∃ (i : Nat) (z : Int), i + l = 60 ∧ s7 = .int .i64 (i : Int) ∧ s6 = .int .i64 z ∧ TimesTo w wr s5 z i)
  case atStart => exact ⟨0, z, by omega, rfl, rfl, H1.out⟩
  case round =>
   obtain ⟨i, z, hil, rfl, rfl, hT⟩ := hrel
   have HT := Lib.hid hT; have Hil := Lib.hid hil
   clear hT hil H1
   by_cases hin : i < n
   ·by_cases hi60 : i < 60
    ·obtain ⟨ts, hown, hl, hf, hzf, hm⟩ := HT.out
     obtain ⟨ad, x, rfl, hx, hcx⟩ := Hs.out.at_ hin (Nat.le_refl _) hm (fun _ _ h => h)
     have hxf := Hz.out x (List.mem_of_getElem? hx)
     have hlt := World.block_lt_of_cell? wr _ hcx
     have Hown := Lib.hid hown; have Hl := Lib.hid hl; have Hf := Lib.hid hf; have Hm := Lib.hid hm; have Hx := Lib.hid hx
     clear hown hl hf hm hx HT
     have hi0 : (0 : Int) ≤ (i : Int) := by omega
     have hw7 : IntKind.i64.wrap ((i : Int) + 1) = (i : Int) + 1 := IntWalk.i64_in _ (by omega)
     go_upto_if 30 with fail
     go_cut [8] (fun s8 wc => ∃ y, Fits y ∧ s8 = .int .i64 y ∧ Mod (fun _ => False) wr wc)
     case first =>
      cases raw with
      | true =>
       go_wp2_with fail
       go_meet
       case rel => exact ⟨x, fitI_of hxf, rfl, Mod.refl _ _⟩
      | false =>
       obtain ⟨j, hj, hj8⟩ : ∃ j : Nat, bits .and .i64 x 7 = (j : Int) ∧ j < 8 := and_nat x 7 3 rfl (by omega)
       have hcd : wr.drew.cell? (ad.add i) = some (.int .i64 x) := hcx
       have hal : ∀ o, (wr.drew.alloc o).cell? (ad.add i) = some (.int .i64 x) := fun o => (World.cell?_alloc_lt wr.drew o _ hlt).trans hcx
       go_wp2_with fail
       refine wp_region_held_drew (S := fun w' => w'.cell? (ad.add i) = some (.int .i64 x)) (by kernel_rfl) hcd (fun hHeld => ?_)
       refine wpAnyH_take (i := 0) (v := ?_) rfl (by kernel_rfl) (by kernel_rfl) (by kernel_rfl) (fun _ _ _ h => h) (Or.inl ⟨by rfl, ?_⟩) hHeld ?_
       rotate_left
       ·(intro w hSw; (try dsimp only at hSw); go_simp; first | done | with_reducible rfl)
       simp only [Act.put]
       refine wpAnyH_take (i := 1) (v := ?_) rfl (by kernel_rfl) (by kernel_rfl) (by kernel_rfl) (fun _ _ _ h => h) (Or.inl ⟨by rfl, ?_⟩) hHeld ?_
       rotate_left
       ·(intro w hSw; (try dsimp only at hSw); go_simp; first | done | with_reducible rfl)
       simp only [Act.put]
       refine wpAnyH_take (i := 2) (v := ?_) rfl (by kernel_rfl) (by kernel_rfl) (by kernel_rfl) (fun _ _ _ h => h) (Or.inl ⟨by rfl, ?_⟩) hHeld ?_
       rotate_left
       ·(intro w hSw; (try dsimp only at hSw); go_simp; first | done | with_reducible rfl)
       simp only [Act.put]
       refine wpAnyH_take (i := 3) (v := ?_) rfl (by kernel_rfl) (by kernel_rfl) (by kernel_rfl) (fun _ _ _ h => h) (Or.inl ⟨by rfl, ?_⟩) hHeld ?_
       rotate_left
       ·(intro w hSw; (try dsimp only at hSw); go_simp; first | done | with_reducible rfl)
       simp only [Act.put]
       refine wpAnyH_take (i := 4) (v := ?_) rfl (by kernel_rfl) (by kernel_rfl) (by kernel_rfl) (fun _ _ _ h => h) (Or.inl ⟨by rfl, ?_⟩) hHeld ?_
       rotate_left
       ·(intro w hSw; (try dsimp only at hSw); go_simp; first | done | with_reducible rfl)
       simp only [Act.put]
       refine wpAnyH_take (i := 5) (v := ?_) rfl (by kernel_rfl) (by kernel_rfl) (by kernel_rfl) (fun _ _ _ h => h) (Or.inl ⟨by rfl, ?_⟩) hHeld ?_
       rotate_left
       ·(intro w hSw; (try dsimp only at hSw); go_simp; first | done | with_reducible rfl)
       simp only [Act.put]
       refine wpAnyH_take (i := 6) (v := ?_) rfl (by kernel_rfl) (by kernel_rfl) (by kernel_rfl) (fun _ _ _ h => h) (Or.inl ⟨by rfl, ?_⟩) hHeld ?_
       rotate_left
       ·(intro w hSw; (try dsimp only at hSw); go_simp; first | done | with_reducible rfl)
       simp only [Act.put]
       refine wpAnyH_take (i := 7) (v := ?_) rfl (by kernel_rfl) (by kernel_rfl) (by kernel_rfl) (fun _ _ _ h => h) (Or.inl ⟨by rfl, ?_⟩) hHeld ?_
       rotate_left
       ·(intro w hSw; (try dsimp only at hSw); go_simp; first | done | with_reducible rfl)
       simp only [Act.put]
       refine wpAnyH_take (i := 8) (v := ?_) rfl (by kernel_rfl) (by kernel_rfl) (by kernel_rfl) (fun _ _ _ h => h) (Or.inl ⟨by rfl, ?_⟩) hHeld ?_
       rotate_left
       ·(intro w hSw; (try dsimp only at hSw); go_simp; first | done | with_reducible rfl)
       simp only [Act.put]
       refine wpAnyH_take (i := 9) (v := ?_) rfl (by kernel_rfl) (by kernel_rfl) (by kernel_rfl) (fun _ _ _ h => h) (Or.inl ⟨by rfl, ?_⟩) hHeld ?_
       rotate_left
       ·(intro w hSw; (try dsimp only at hSw); go_simp; first | done | with_reducible rfl)
       simp only [Act.put]
       refine wpAnyH_take (i := 10) (v := ?_) rfl (by kernel_rfl) (by kernel_rfl) (by kernel_rfl) (fun _ _ _ h => h) (Or.inl ⟨by rfl, ?_⟩) hHeld ?_
       rotate_left
       ·(intro w hSw; (try dsimp only at hSw); go_simp; first | done | with_reducible rfl)
       simp only [Act.put]
       refine wpAnyH_take (i := 11) (v := ?_) rfl (by kernel_rfl) (by kernel_rfl) (by kernel_rfl) (fun _ _ _ h => h) (Or.inl ⟨by rfl, ?_⟩) hHeld ?_
       rotate_left
       ·(intro w hSw; (try dsimp only at hSw); go_simp; first | done | with_reducible rfl)
       simp only [Act.put]
       refine wpAnyH_take (i := 12) (v := ?_) rfl (by kernel_rfl) (by kernel_rfl) (by kernel_rfl) (fun _ _ _ h => h) (Or.inl ⟨by rfl, ?_⟩) hHeld ?_
       rotate_left
       ·(intro w hSw; (try dsimp only at hSw); go_simp; first | done | with_reducible rfl)
       simp only [Act.put]
       refine wpAnyH_take (i := 13) (v := ?_) rfl (by kernel_rfl) (by kernel_rfl) (by kernel_rfl) (fun _ _ _ h => h) (Or.inl ⟨by rfl, ?_⟩) hHeld ?_
       rotate_left
       ·(intro w hSw; (try dsimp only at hSw); go_simp; first | done | with_reducible rfl)
       simp only [Act.put]
       refine wpAnyH_take (i := 14) (v := ?_) rfl (by kernel_rfl) (by kernel_rfl) (by kernel_rfl) (fun _ _ _ h => h) (Or.inl ⟨by rfl, ?_⟩) hHeld ?_
       rotate_left
       ·(intro w hSw; (try dsimp only at hSw); go_simp; first | done | with_reducible rfl)
       simp only [Act.put]
       refine wpAnyH_take (i := 15) (v := ?_) rfl (by kernel_rfl) (by kernel_rfl) (by kernel_rfl) (fun _ _ _ h => h) (Or.inl ⟨by rfl, ?_⟩) hHeld ?_
       rotate_left
       ·(intro w hSw; (try dsimp only at hSw); go_simp; first | done | with_reducible rfl)
       simp only [Act.put]
       refine wpAnyH_take (i := 16) (v := ?_) rfl (by kernel_rfl) (by kernel_rfl) (by kernel_rfl) (fun _ _ _ h => h) (Or.inl ⟨by rfl, ?_⟩) hHeld ?_
       rotate_left
       ·(intro w hSw; (try dsimp only at hSw); go_simp; first | done | with_reducible rfl)
       simp only [Act.put]
       refine wpAnyH_take (i := 17) (v := ?_) rfl (by kernel_rfl) (by kernel_rfl) (by kernel_rfl) (fun _ _ _ h => h) (Or.inl ⟨by rfl, ?_⟩) hHeld ?_
       rotate_left
       ·(intro w hSw; (try dsimp only at hSw); go_simp; first | done | with_reducible rfl)
       simp only [Act.put]
       refine wpAnyH_take (i := 18) (v := ?_) rfl (by kernel_rfl) (by kernel_rfl) (by kernel_rfl) (fun _ _ _ h => h) (Or.inl ⟨by rfl, ?_⟩) hHeld ?_
       rotate_left
       ·(intro w hSw; (try dsimp only at hSw); go_simp; first | done | with_reducible rfl)
       simp only [Act.put]
       refine wpAnyH_take (i := 19) (v := ?_) rfl (by kernel_rfl) (by kernel_rfl) (by kernel_rfl) (fun _ _ _ h => h) (Or.inl ⟨by rfl, ?_⟩) hHeld ?_
       rotate_left
       ·(intro w hSw; (try dsimp only at hSw); go_simp; first | done | with_reducible rfl)
       simp only [Act.put]
       refine wpAnyH_take (i := 20) (v := ?_) rfl (by kernel_rfl) (by kernel_rfl) (by kernel_rfl) (fun _ _ _ h => h) (Or.inl ⟨by rfl, ?_⟩) hHeld ?_
       rotate_left
       ·(intro w hSw; (try dsimp only at hSw); go_simp; first | done | with_reducible rfl)
       simp only [Act.put]
       refine wpAnyH_take (i := 21) (v := ?_) rfl (by kernel_rfl) (by kernel_rfl) (by kernel_rfl) (fun _ _ _ h => h) (Or.inl ⟨by rfl, ?_⟩) hHeld ?_
       rotate_left
       ·(intro w hSw; (try dsimp only at hSw); go_simp; first | done | with_reducible rfl)
       simp only [Act.put]
       refine wpAnyH_take (i := 22) (v := ?_) rfl (by kernel_rfl) (by kernel_rfl) (by kernel_rfl) (fun _ _ _ h => h) (Or.inl ⟨by rfl, ?_⟩) hHeld ?_
       rotate_left
       ·(intro w hSw; (try dsimp only at hSw); go_simp; first | done | with_reducible rfl)
       simp only [Act.put]
       refine wpAnyH_take (i := 23) (v := ?_) rfl (by kernel_rfl) (by kernel_rfl) (by kernel_rfl) (fun _ _ _ h => h) (Or.inl ⟨by rfl, ?_⟩) hHeld ?_
       rotate_left
       ·(intro w hSw; (try dsimp only at hSw); go_simp; first | done | with_reducible rfl)
       simp only [Act.put]
       refine wpAnyH_take (i := 24) (v := ?_) rfl (by kernel_rfl) (by kernel_rfl) (by kernel_rfl) (fun _ _ _ h => h) (Or.inl ⟨by rfl, ?_⟩) hHeld ?_
       rotate_left
       ·(intro w hSw; (try dsimp only at hSw); go_simp; first | done | with_reducible rfl)
       simp only [Act.put]
       refine wpAnyH_take (i := 25) (v := ?_) rfl (by kernel_rfl) (by kernel_rfl) (by kernel_rfl) (fun _ _ _ h => h) (Or.inl ⟨by rfl, ?_⟩) hHeld ?_
       rotate_left
       ·(intro w hSw; (try dsimp only at hSw); go_simp; first | done | with_reducible rfl)
       simp only [Act.put]
       refine wpAnyH_take (i := 26) (v := ?_) rfl (by kernel_rfl) (by kernel_rfl) (by kernel_rfl) (fun _ _ _ h => h) (Or.inl ⟨by rfl, ?_⟩) hHeld ?_
       rotate_left
       ·(intro w hSw; (try dsimp only at hSw); go_simp; first | done | with_reducible rfl)
       simp only [Act.put]
       refine wpAnyH_take (i := 27) (v := ?_) rfl (by kernel_rfl) (by kernel_rfl) (by kernel_rfl) (fun _ _ _ h => h) (Or.inl ⟨by rfl, ?_⟩) hHeld ?_
       rotate_left
       ·(intro w hSw; (try dsimp only at hSw); go_simp; first | done | with_reducible rfl)
       simp only [Act.put]
       refine wpAnyH_take (i := 28) (v := ?_) rfl (by kernel_rfl) (by kernel_rfl) (by kernel_rfl) (fun _ _ _ h => h) (Or.inl ⟨by rfl, ?_⟩) hHeld ?_
       rotate_left
       ·(intro w hSw; (try dsimp only at hSw); go_simp; first | done | with_reducible rfl)
       simp only [Act.put]
       refine wpAnyH_take (i := 29) (v := ?_) rfl (by kernel_rfl) (by kernel_rfl) (by kernel_rfl) (fun _ _ _ h => h) (Or.inl ⟨by rfl, ?_⟩) hHeld ?_
       rotate_left
       ·(intro w hSw; (try dsimp only at hSw); go_simp; first | done | with_reducible rfl)
       simp only [Act.put]
       refine wpAnyH_take (i := 30) (v := ?_) rfl (by kernel_rfl) (by kernel_rfl) (by kernel_rfl) (fun _ _ _ h => h) (Or.inl ⟨by rfl, ?_⟩) hHeld ?_
       rotate_left
       ·(intro w hSw; (try dsimp only at hSw); go_simp; first | done | with_reducible rfl)
       simp only [Act.put]
       refine wpAnyH_take (i := 31) (v := ?_) rfl (by kernel_rfl) (by kernel_rfl) (by kernel_rfl) (fun _ _ _ h => h) (Or.inl ⟨by rfl, ?_⟩) hHeld ?_
       rotate_left
       ·(intro w hSw; (try dsimp only at hSw); go_simp; first | done | with_reducible rfl)
       simp only [Act.put]
       refine wpAnyH_take (i := 32) (v := ?_) rfl (by kernel_rfl) (by kernel_rfl) (by kernel_rfl) (fun _ _ _ h => h) (Or.inl ⟨by rfl, ?_⟩) hHeld ?_
       rotate_left
       ·(intro w hSw; (try dsimp only at hSw); go_simp; first | done | with_reducible rfl)
       simp only [Act.put]
       refine wpAnyH_take (i := 34) (v := ?_) rfl (by kernel_rfl) (by kernel_rfl) (by kernel_rfl) (fun _ _ _ h => h) (Or.inl ⟨by rfl, ?_⟩) hHeld ?_
       rotate_left
       ·(intro w hSw; (try dsimp only at hSw); go_simp; first | done | with_reducible rfl)
       simp only [Act.put]
       refine wpAnyH_take (i := 35) (v := ?_) rfl (by kernel_rfl) (by kernel_rfl) (by kernel_rfl) (fun _ _ _ h => h) (Or.inl ⟨by rfl, ?_⟩) hHeld ?_
       rotate_left
       ·(intro w hSw; (try dsimp only at hSw); go_simp; first | done | with_reducible rfl)
       simp only [Act.put]
       refine wpAnyH_take (i := 36) (v := ?_) rfl (by kernel_rfl) (by kernel_rfl) (by kernel_rfl) (fun _ _ _ h => h) (Or.inl ⟨by rfl, ?_⟩) hHeld ?_
       rotate_left
       ·(intro w hSw; (try dsimp only at hSw); go_simp; first | done | with_reducible rfl)
       simp only [Act.put]
       refine wpAnyH_take (i := 37) (v := ?_) rfl (by kernel_rfl) (by kernel_rfl) (by kernel_rfl) (fun _ _ _ h => h) (Or.inl ⟨by rfl, ?_⟩) hHeld ?_
       rotate_left
       ·(intro w hSw; (try dsimp only at hSw); go_simp; first | done | with_reducible rfl)
       simp only [Act.put]
       refine wpAnyH_take (i := 38) (v := ?_) rfl (by kernel_rfl) (by kernel_rfl) (by kernel_rfl) (fun _ _ _ h => h) (Or.inl ⟨by rfl, ?_⟩) hHeld ?_
       rotate_left
       ·(intro w hSw; (try dsimp only at hSw); go_simp; first | done | with_reducible rfl)
       simp only [Act.put]
       refine wpAnyH_ready (rs := [33]) (by kernel_rfl) (by simp) (AllReadyH.cons rfl (fun K hK => ?_) AllReadyH.nil)
       go_simp
       refine hK.out _ _ (hal _) (fun _ => ?_)
       clear hK K
       obtain ⟨y, hy⟩ := eight (a := IntKind.i64.wrap ((bits BinOp.and IntKind.i64 (x / 256) 3).tdiv 3)) (b := bits BinOp.and IntKind.i64 (x / 256) 63) (c := bits BinOp.and IntKind.i64 (x / 256) 255) (d := bits BinOp.and IntKind.i64 (x / 256) 4095) (e := bits BinOp.and IntKind.i64 (x / 256) 16777215) hj8
       refine wpAnyH_lex (k := 39) (TimC wr (ad.add i) x wr.heap.size j y) ⟨hal _, ?_, ?_⟩ (fun _ h => h.1) (by kernel_rfl) rfl rfl (by kernel_rfl) ?_
       ·exact ((Blk.new wr _ _).cell j).trans hy
       ·exact ((Mod.refl _ _).alloc _).drew
       clear hy
       have hj0 : (0 : Int) ≤ (j : Int) := by omega
       have hj8' : (j : Int) < 8 := by omega
       quiet_step (exact fun _ => rfl)
       refine wpQuiet_step (fun K hK => ?_)
       go_simp
       refine ⟨.int .i64 y, fun w2 h2 => ?_, hK _ ?_⟩
       ·rw [h2.2.1]
        exact ⟨rfl, rfl⟩
       clear hK K
       iterate 2 quiet_step (exact fun _ => rfl)
       refine wpQuiet_nil ?_
       intro w2 h2
       have Hm2 := Lib.hid h2.2.2
       clear h2
       go_wp2_with fail
       go_meet
       case rel => exact ⟨IntKind.i64.wrap (IntKind.i64.wrap (z + 1) + y), by rw [IntWalk.i64_left]; exact wrap_fits _, rfl, Hm2.out⟩
     case rest =>
      obtain ⟨y, hyf, rfl, hm2⟩ := hcut
      have Hm2 := Lib.hid (Hm.out.trans hm2 (fun _ _ h => h))
      have Hown2 : Hid (Own w.heap.size wc 2 u5 (cellsI ts)) := Lib.hid (hm2.owns Hown.out (fun _ _ h => h))
      have Hyf := Lib.hid hyf
      have hsz := Hm2.out.size
      have hr1 : (cellsI ts).length + 1 ≤ maxLen := by rw [cellsI_length, Hl.out]; unfold maxLen; omega
      have hr2 : ((cellsI ts).length + 1) * 8 ≤ 140737488355328 := by rw [cellsI_length, Hl.out]; omega
      clear hm2 hcx hlt hyf hw7
      go_wp2_with (at_builtin; refine wpList_app1 rfl (.tmp 73) (.tmp 75) _ rfl elt64 rfl Hown2.out rfl rfl rfl hr1 hr2 hsz ?_; intro v' w2 HO HB)
      have HT2 : Hid (TimesTo w w2 v' y (i + 1)) := Lib.hid ⟨ts ++ [y], by rw [cellsI_snoc]; exact HO.out, by simp [Hl.out], fun u hu => (by
       rw [List.mem_append, List.mem_singleton] at hu
       rcases hu with hu | rfl
       ·exact Hf.out u hu
       ·exact Hyf.out), of_fits Hyf.out, Hm2.out.trans (Mod.of_below HB.out) (fun i hi h => by omega)⟩
      go_roundg (gk - 1)
      case measure => have := Hil.out; omega
      case rel => exact ⟨i + 1, y, by have := Hil.out; omega, by go_num, rfl, HT2.out⟩
    ·go_wp2_with fail
     go_ret
     obtain ⟨ts, hown, hl, hf, hzf, hm⟩ := HT.out
     exact ⟨_, ts, rfl, hown, by have := Hil.out; omega, hf, hm⟩
   ·go_wp2_with fail
    go_ret
    obtain ⟨ts, hown, hl, hf, hzf, hm⟩ := HT.out
    exact ⟨_, ts, rfl, hown, by have := Hil.out; omega, hf, hm⟩
end Go.Proofs.YthgoppmgapaajaaGreatDoor

/- The statements' own rows of samples: Row. -/
namespace Go.Proofs.YthgoppmgapaajaaGreatDoor
open Go.RowKit

/-- A row that rises, as far as i. -/
def RowSo (w wr : World) (v : Value) (l : List (Int × Nat)) (i : Nat) : Prop := OwnS w.heap.size wr v l ∧ GoodS l ∧ RiseTo l l.length ∧ l.length ≤ i ∧ Mod (fun _ => False) w wr
theorem RiseTo.snoc {l : List (Int × Nat)} {T : Int} {V : Nat} (h : RiseTo l l.length) (hl : l.length = 0 ∨ ∃ k q, l.length = k + 1 ∧ l[k]? = some q ∧ q.1 < T) : RiseTo (l ++ [(T, V)]) (l ++ [(T, V)]).length := by
 intro j a b hj ha hb
 have e : tsOf (l ++ [(T, V)]) = tsOf l ++ [T] := by simp [tsOf]
 rw [e] at ha hb
 rw [List.length_append, List.length_singleton] at hj
 rcases Nat.lt_or_ge (j + 1) l.length with h1 | h1
 ·rw [List.getElem?_append_left (by rw [tsOf_len]; omega)] at ha hb
  exact h j a b h1 ha hb
 ·obtain ⟨k, q, hk, hq, hlt⟩ : ∃ k q, l.length = k + 1 ∧ l[k]? = some q ∧ q.1 < T := by
   rcases hl with h0 | h0
   ·omega
   ·exact h0
  obtain rfl : j = k := by omega
  rw [List.getElem?_append_left (by rw [tsOf_len]; omega), ts_get hq] at ha
  rw [List.getElem?_append_right (by rw [tsOf_len]; omega), tsOf_len, hk, Nat.sub_self] at hb
  injection ha with ha
  injection hb with hb
  rw [← ha, ← hb]
  exact hlt
theorem RowSo.snoc {w wr w2 : World} {v v2 : Value} {l : List (Int × Nat)} {i : Nat} {T : Int} {V : Nat} (h : RowSo w wr v l i) (ho : OwnS w.heap.size w2 v2 (l ++ [(T, V)])) (hT : Fits T) (hV : V < 2 ^ 64) (hm : Mod (fun _ => False) w w2)
  (hl : l.length = 0 ∨ ∃ k q, l.length = k + 1 ∧ l[k]? = some q ∧ q.1 < T) : RowSo w w2 v2 (l ++ [(T, V)]) (i + 1) := by
 obtain ⟨_, h2, h3, h4, h5⟩ := h
 refine ⟨ho, fun p hp => ?_, h3.snoc hl, by rw [List.length_append, List.length_singleton]; omega, hm⟩
 rcases List.mem_append.1 hp with hp | hp
 ·exact h2 p hp
 ·rw [List.mem_singleton.1 hp]
  exact ⟨hT, hV⟩
theorem RowSo.stay {w wr w2 : World} {v : Value} {l : List (Int × Nat)} {i : Nat} (h : RowSo w wr v l i) (hm : Mod (fun _ => False) wr w2) : RowSo w w2 v l (i + 1) := by
 obtain ⟨h1, h2, h3, h4, h5⟩ := h
 exact ⟨h1.mod hm, h2, h3, by omega, h5.trans hm (fun _ _ h => h)⟩
set_option maxHeartbeats 2000000 in
set_option maxRecDepth 100000 in
theorem row_any (A A2 : Option Addr) (n c n2 c2 : Nat) (zs : List Int) (us : List Nat) (how : Int) (w : World) (hs : SeesI .i64 w w.heap.size A n zs) (hz : ∀ x ∈ zs, FitI x) (hs2 : Rds w w.heap.size A2 n2 (cellsU us)) (hu : ∀ x ∈ us, x < 2 ^ 64) :
  Calls Tryz.prog 5 #[.slice A n c, .slice A2 n2 c2, .int .i64 how] w fun e w' => ∃ (v : Value) (l : List (Int × Nat)), e = .returned v ∧ OwnS w.heap.size w' v l ∧ GoodS l ∧ riseB l = true ∧ l.length ≤ 60 ∧ Mod (fun _ => False) w w' := by
 have Hs := Lib.hid hs; have Hz := Lib.hid hz; have Hs2 := Lib.hid hs2; have Hu := Lib.hid hu
 have hcs : Tryz.prog.cellsOf 36 = 2 := by kernel_rfl
 clear hs hz hs2 hu
 go_enter Tryz.func5, Tryz.ntmps5
 go_wp2_with fail
 refine (times_any A n c zs _ w Hs.out Hz.out).mono ?_
 rintro e w1 ⟨v1, ts, rfl, hown1, hl60, hf, hm1⟩
 obtain ⟨A8, c8, rfl, hr8⟩ := own_form hown1
 obtain ⟨n8, hn8⟩ : ∃ n8, ts.length = n8 := ⟨_, rfl⟩
 rw [hn8] at hr8 hl60
 rw [hn8]
 have Hr8 := Lib.hid hr8; have Hf := Lib.hid hf; have Hm1 := Lib.hid hm1; have Hs21 := Lib.hid (Hs2.out.new hm1).fit
 clear hown1 hf hm1 hr8 hn8 Hs Hz Hs2
 go_wp2_with fail
 refine (values_any A2 n2 c2 us how w1 Hs21.out Hu.out).mono ?_
 rintro e w2 ⟨v2, vs, rfl, hown2, hv60, hv64, hm2⟩
 obtain ⟨A9, n9, c9, rfl, HL9, hc9, hr9⟩ := own_formUN hown2
 have hn9 : n9 ≤ 60 := by have := HL9.out; omega
 have Hr8b := Lib.hid (Hr8.out.new hm2).fit; have Hr9 := Lib.hid hr9; have Hm2 := Lib.hid (Hm1.out.trans hm2 (fun _ _ h => h)); have Hv64 := Lib.hid hv64
 have H0 : Hid (RowSo w2 w2 (.slice none 0 0) [] 0) := Lib.hid ⟨OwnS.nil _ _, (fun p h => by cases h), (fun j a b h => by simp at h), Nat.le_refl _, Mod.refl _ _⟩
 clear hown2 hv64 hm2 hr9 Hr8 Hm1 Hs21 Hu hv60 hc9
 go_wp2_with fail
 go_loopg [7, 23] n8 (fun k s7 s23 wr => ∃ (i : Nat) (l : List (Int × Nat)), i + k = n8 ∧ s23 = .int .i64 (i : Int) ∧ RowSo w2 wr s7 l i)
 case atStart => exact ⟨0, [], by omega, rfl, H0.out⟩
 case round =>
  obtain ⟨i, l, hik, rfl, hR⟩ := hrel
  have Hik := Lib.hid hik; have HR := Lib.hid hR
  clear hik hR H0
  by_cases hin : i < n8
  ·have hm := HR.out.2.2.2.2
   obtain ⟨ad, T, rfl, hT, hcT⟩ := Hr8b.out.seesI.at_ hin (Nat.le_refl _) hm (fun _ _ h => h)
   have HT : Hid (Fits T) := Lib.hid (Hf.out T (List.mem_of_getElem? hT))
   obtain ⟨gs, hgs⟩ : ∃ gs, gs = wr.heap.size := ⟨_, rfl⟩
   have Hm := Lib.hid hm; have Hgs := Lib.hid hgs
   clear hm hT hgs
   go_upto_if 33 with fail
   go_cut [11] (fun s11 wc => ∃ V : Nat, s11 = .pointer (some ⟨gs, 0, none⟩) ∧ V < 2 ^ 64 ∧ Blk wc gs 36 #[.int .i64 T, .int .u64 (V : Int)] ∧ Mod (fun _ => False) wr wc)
   case first =>
    by_cases hv : 0 < n9
    ·obtain ⟨j, hj⟩ : ∃ j, j = i % n9 := ⟨_, rfl⟩
     have hj9 : j < n9 := by rw [hj]; exact Nat.mod_lt _ hv
     have hmod : (i : Int) % (n9 : Int) = (j : Int) := by rw [hj]; rfl
     have htm : (i : Int).tmod (n9 : Int) = (j : Int) := by rw [Int.tmod_eq_emod_of_nonneg (by omega)]; exact hmod
     have hvi : (0 : Int) < (n9 : Int) := by omega
     have hv0 : ((n9 : Int) == 0) = false := by simp; omega
     obtain ⟨ad9, V, rfl, hV, hcV⟩ := Hr9.out.at2 hj9 (Nat.le_refl _) Hm.out (fun _ _ h => h)
     have HV := Lib.hid (Hv64.out V (List.mem_of_getElem? hV))
     have hlt := World.block_lt_of_cell? wr _ hcV
     have hcV2 : ∀ o, (wr.alloc o).cell? (ad9.add j) = some (.int .u64 (V : Int)) := fun o => (World.cell?_alloc_lt wr o _ hlt).trans hcV
     clear hj hV hlt
     go_wp2_with fail
     go_meet
     case rel => exact ⟨V, by rw [Hgs.out], HV.out, by rw [Hgs.out]; exact Blk.new _ _ _, (Mod.refl _ _).alloc _⟩
    ·go_wp2_with fail
     go_meet
     case rel => exact ⟨0, by rw [Hgs.out], by decide, by rw [Hgs.out]; exact Blk.new _ _ _, (Mod.refl _ _).alloc _⟩
   case rest =>
    obtain ⟨V, rfl, hV, hblk, hmc⟩ := hcut
    have hc0 := hblk.cell 0
    have hc1 := hblk.cell 1
    simp at hc0 hc1
    have hd0 : ∀ N, (wc.drewN N).cell? ⟨gs, 0, none⟩ = some (.int .i64 T) := fun N => hc0
    have hd1 : ∀ N, (wc.drewN N).cell? ⟨gs, 1, none⟩ = some (.int .u64 (V : Int)) := fun N => hc1
    obtain ⟨A7, L7, c7, hu7, HL7, hc7, hcm7, hr7⟩ := (HR.out.1.mod hmc).formN
    subst hu7
    have HV := Lib.hid hV; have Hmc := Lib.hid hmc; have Hr7 := Lib.hid hr7; have Hblk := Lib.hid hblk
    have Ho7 := Lib.hid (HR.out.1.mod hmc)
    have hLb : L7 ≤ 60 := by have := HL7.out; have := HR.out.2.2.2.1; omega
    clear hV hmc hr7 hblk
    by_cases h0 : L7 = 0
    ·subst h0
     go_upto_region 10 with fail
     go_quiet (fail)
     have HO := Lib.hid (show OwnS w2.heap.size (wc.drewN nq) (.slice A7 0 c7) l from Ho7.out)
     have HR1 : Hid (l.length + 1 ≤ maxLen ∧ (l.length + 1) * 16 ≤ 140737488355328) := Lib.hid ⟨by rw [HL7.out]; unfold maxLen; omega, by rw [HL7.out]; omega⟩
     have hsz : w2.heap.size ≤ (wc.drewN nq).heap.size := Nat.le_trans Hm.out.size Hmc.out.size
     go_wp2_with (at_builtin; refine wpList_appS (p := (T, V)) rfl (.tmp 57) (.tmp 59) rfl rfl HO.out rfl rfl HR1.out.1 HR1.out.2 hsz ?_; intro v3 w3 HO3 HB3)
     have HR3 : Hid (RowSo w2 w3 v3 (l ++ [(T, V)]) (i + 1)) := Lib.hid (HR.out.snoc HO3.out HT.out HV.out ((Hm.out.trans (Hmc.out.drewN nq) (fun _ _ h => h)).trans (Mod.of_below HB3.out) (fun i hi h => by omega)) (.inl HL7.out))
     go_roundg (gk - 1)
     case measure => have := Hik.out; omega
     case rel => exact ⟨i + 1, l ++ [(T, V)], by have := Hik.out; omega, by go_num, HR3.out⟩
    ·obtain ⟨k, hk⟩ : ∃ k, L7 = k + 1 := ⟨L7 - 1, by omega⟩
     have hkL : k < L7 := by omega
     obtain ⟨a7, ⟨S, U⟩, rfl, hab, hq, he0, _⟩ := Hr7.out.at_ hkL
     have he0' : ∀ N, (wc.drewN N).cell? (a7.add (k * 2)) = some (.int .i64 S) := fun N => he0
     have hL0 : ((L7 : Int) == 0) = false := by simp; omega
     have hwk : IntKind.i64.wrap ((L7 : Int) - 1) = (k : Int) := by rw [IntWalk.i64_in _ (by omega)]; omega
     have hkLi : (k : Int) < (L7 : Int) := by omega
     have Hq := Lib.hid hq; have Hk := Lib.hid hk
     clear hq hk h0
     by_cases hST : S < T
     ·go_upto_region 10 with fail
      go_quiet (fail)
      have HO := Lib.hid (show OwnS w2.heap.size (wc.drewN nq) (.slice (some a7) L7 c7) l from Ho7.out)
      have HR1 : Hid (l.length + 1 ≤ maxLen ∧ (l.length + 1) * 16 ≤ 140737488355328) := Lib.hid ⟨by rw [HL7.out]; unfold maxLen; omega, by rw [HL7.out]; omega⟩
      have hsz : w2.heap.size ≤ (wc.drewN nq).heap.size := Nat.le_trans Hm.out.size Hmc.out.size
      go_wp2_with (at_builtin; refine wpList_appS (p := (T, V)) rfl (.tmp 57) (.tmp 59) rfl rfl HO.out rfl rfl HR1.out.1 HR1.out.2 hsz ?_; intro v3 w3 HO3 HB3)
      have HR3 : Hid (RowSo w2 w3 v3 (l ++ [(T, V)]) (i + 1)) := Lib.hid (HR.out.snoc HO3.out HT.out HV.out ((Hm.out.trans (Hmc.out.drewN nq) (fun _ _ h => h)).trans (Mod.of_below HB3.out) (fun i hi h => by omega)) (.inr ⟨k, (S, U), by rw [HL7.out]; exact Hk.out, Hq.out, hST⟩))
      go_roundg (gk - 1)
      case measure => have := Hik.out; omega
      case rel => exact ⟨i + 1, l ++ [(T, V)], by have := Hik.out; omega, by go_num, HR3.out⟩
     ·have HR3 : Hid (∀ N, RowSo w2 (wc.drewN N) (.slice (some a7) L7 c7) l (i + 1)) := Lib.hid (fun N => HR.out.stay (Hmc.out.drewN N))
      go_upto_region 10 with fail
      go_quiet (fail)
      go_wp2_with fail
      go_roundg (gk - 1)
      case measure => have := Hik.out; omega
      case rel => exact ⟨i + 1, l, by have := Hik.out; omega, by go_num, HR3.out _⟩
  ·go_wp2_with fail
   go_ret
   have hl : l.length ≤ 60 := by have := HR.out.2.2.2.1; have := Hik.out; omega
   exact ⟨_, l, rfl, HR.out.1.mono Hm2.out.size, HR.out.2.1, riseB_true HR.out.2.2.1 (by omega), hl, Hm2.out.trans HR.out.2.2.2.2 (fun _ _ h => h)⟩
end Go.Proofs.YthgoppmgapaajaaGreatDoor

/- Two rows of samples compared: the document's Same. -/
namespace Go.Proofs.YthgoppmgapaajaaGreatDoor
open Go.RowKit

/-- The first i are alike. -/
def SameTo (l1 l2 : List (Int × Nat)) (i : Nat) : Prop := ∀ j, j < i → l1[j]? = l2[j]?
theorem SameTo.done {l1 l2 : List (Int × Nat)} {n : Nat} (h : SameTo l1 l2 n) (h1 : l1.length = n) (h2 : l2.length = n) : l1 = l2 := List.ext_getElem? fun j => by
 rcases Nat.lt_or_ge j n with hj | hj
 ·exact h j hj
 ·rw [List.getElem?_eq_none (by omega), List.getElem?_eq_none (by omega)]
set_option maxHeartbeats 1000000 in
set_option maxRecDepth 100000 in
theorem sameS_any (A1 A2 : Option Addr) (n1 n2 c1 c2 B1 B2 : Nat) (l1 l2 : List (Int × Nat)) (b : Bool) (w : World) (hs1 : RdsS w B1 A1 n1 l1) (hs2 : RdsS w B2 A2 n2 l2) (hn : n1 ≤ 1000000) (hb : decide (l1 = l2) = b) :
  Calls Tryz.prog 14 #[.slice A1 n1 c1, .slice A2 n2 c2] w fun e w' => e = .returned (.bool b) ∧ Mod (fun _ => False) w w' := by
 have Hs1 := Lib.hid hs1.fit; have Hs2 := Lib.hid hs2.fit; have Hl1 := Lib.hid hs1.1; have Hl2 := Lib.hid hs2.1; have Hb := Lib.hid hb
 have hcs : Tryz.prog.cellsOf 36 = 2 := by kernel_rfl
 clear hs1 hs2 hb
 by_cases hnn : n1 = n2
 ·subst hnn
  go_enter Tryz.func14, Tryz.ntmps14
  go_wp2_with fail
  go_loopg [5] n1 (fun k s5 wr => ∃ i : Nat, i + k = n1 ∧ s5 = .int .i64 (i : Int) ∧ SameTo l1 l2 i ∧ Mod (fun _ => False) w wr)
  case atStart => exact ⟨0, by omega, rfl, (fun j h => by omega), Mod.refl _ _⟩
  case round =>
   obtain ⟨i, hik, rfl, hr, hm⟩ := hrel
   have Hik := Lib.hid hik; have Hr := Lib.hid hr; have Hm := Lib.hid hm
   clear hik hr hm
   by_cases hin : i < n1
   ·obtain ⟨a1, ⟨T, V⟩, rfl, _, hp, hc0, hc1⟩ := Hs1.out.at2 hin (Nat.le_refl _) Hm.out (fun _ _ h => h)
    obtain ⟨a2, ⟨S, U⟩, rfl, _, hq, hd0, hd1⟩ := Hs2.out.at2 hin (Nat.le_refl _) Hm.out (fun _ _ h => h)
    have hc1' := cell_whole hc1
    have hd1' := cell_whole hd1
    have Hp := Lib.hid hp; have Hq := Lib.hid hq
    clear hp hq hc1 hd1
    have hin' : (i : Int) < (n1 : Int) := by omega
    by_cases hT : T = S
    ·subst hT
     by_cases hV : V = U
     ·subst hV
      go_upto_region 6 with fail
      go_quiet (fail)
      go_wp2_with fail
      go_roundg (gk - 1)
      case measure => have := Hik.out; omega
      case rel => exact ⟨i + 1, by have := Hik.out; omega, by go_num, (fun j hj => by
       rcases Nat.lt_or_ge j i with h | h
       ·exact Hr.out j h
       ·obtain rfl : j = i := by omega
        rw [Hp.out, Hq.out]), Hm.out.drewN _⟩
     ·have hVi : ¬ (V : Int) = (U : Int) := by omega
      have hVb : ((V : Int) == (U : Int)) = false := by simp; omega
      have Hno : Hid (b = false) := Lib.hid (by
       rw [← Hb.out, decide_eq_false_iff_not]
       intro e
       have h1 := Hp.out
       rw [e, Hq.out] at h1
       injection h1 with h1
       injection h1 with _ h1
       exact hV h1.symm)
      clear hV
      go_upto_region 6 with fail
      go_quiet (fail)
      go_wp2_with fail
      go_ret
      exact ⟨by rw [Hno.out]; rfl, Hm.out.drewN _⟩
    ·have hTb : (T == S) = false := by simp [hT]
     have Hno : Hid (b = false) := Lib.hid (by
      rw [← Hb.out, decide_eq_false_iff_not]
      intro e
      have h1 := Hp.out
      rw [e, Hq.out] at h1
      injection h1 with h1
      injection h1 with h1 _
      exact hT h1.symm)
     go_upto_region 6 with fail
     go_quiet (fail)
     go_wp2_with fail
     go_ret
     exact ⟨by rw [Hno.out]; rfl, Hm.out.drewN _⟩
   ·have hi : i = n1 := by have := Hik.out; omega
    have Hyes : Hid (b = true) := Lib.hid (by
     rw [← Hb.out, decide_eq_true_iff]
     exact SameTo.done (by rw [← hi]; exact Hr.out) Hl1.out Hl2.out)
    clear hi
    go_wp2_with fail
    go_ret
    exact ⟨by rw [Hyes.out]; rfl, Hm.out⟩
 ·have hni : ((n1 : Int) == (n2 : Int)) = false := by simp; omega
  have hni2 : ((n1 : Int) != (n2 : Int)) = true := by simp; omega
  have Hno : Hid (b = false) := Lib.hid (by
   rw [← Hb.out, decide_eq_false_iff_not]
   intro e
   apply hnn
   rw [← Hl1.out, ← Hl2.out, e])
  clear hnn
  go_enter Tryz.func14, Tryz.ntmps14
  go_wp2_with fail
  go_ret
  exact ⟨by rw [Hno.out]; rfl, Mod.refl _ _⟩
end Go.Proofs.YthgoppmgapaajaaGreatDoor

/- What the document fixes of layer 10: awake. -/
namespace Go.Proofs.YthgoppmgapaajaaGreatDoor
open Go.RowKit

def l3 : List (Int × Nat) := [(1, 7), (2, 7), (3, 7)]
theorem rds_three (w : World) (a b c : Int) (x y z : Nat) : RdsS (w.alloc (.cells #[.int .i64 a, .int .u64 (x : Int), .int .i64 b, .int .u64 (y : Int), .int .i64 c, .int .u64 (z : Int)] 36)) (w.heap.size + 1) (some ⟨w.heap.size, 0, none⟩) 3 [(a, x), (b, y), (c, z)] :=
 ⟨rfl, Rds.lit w 36 #[.int .i64 a, .int .u64 (x : Int), .int .i64 b, .int .u64 (y : Int), .int .i64 c, .int .u64 (z : Int)]⟩
theorem Tabs.alloc {w : World} (h : Tabs w) (o : Obj) : Tabs (w.alloc o) := h.mod ((Mod.refl _ _).alloc o)
end Go.Proofs.YthgoppmgapaajaaGreatDoor

/- SuitBack's walk. -/
namespace Go.Proofs.YthgoppmgapaajaaGreatDoor
open Go.RowKit

theorem encK_some_of {tag : Int} {l : List (Int × Nat)} (hr : riseB l = true) (h : (toldK tag (vsOf l)).isSome = true) : (encK tag l).isSome = true := by
 unfold encK
 rw [hr, if_pos rfl]
 cases ho : toldK tag (vsOf l) with
 | none => rw [ho] at h; cases h
 | some b => rfl
theorem told1 (v : List Nat) : (toldK 1 v).isSome = true := rfl
theorem told3 (v : List Nat) : (toldK 3 v).isSome = true := rfl
theorem told4 (v : List Nat) : (toldK 4 v).isSome = true := rfl
theorem told5 {v : List Nat} (h : v.length ≤ 256) : (toldK 5 v).isSome = true := by
 show (encD v).isSome = true
 by_cases h0 : v = []
 ·subst h0
  rfl
 ·rw [encD_cons h0 (by have := uniq_le v; omega)]
  rfl
end Go.Proofs.YthgoppmgapaajaaGreatDoor

/- Chunks: which rows have a chunk, and bounds of such; what the laws of layer 11 ask. -/
namespace Go.Proofs.YthgoppmgapaajaaGreatDoor

/-- A row that rises has a chunk in each codec but two. -/
theorem makeC_is {p : Nat} {l : List (Int × Nat)} (hr : riseB l = true) (h60 : l.length ≤ 256) (h1 : 1 ≤ p) (h6 : p ≤ 6) (h : makeC (p : Int) l = none) : l = [] ∨ p = 2 ∨ p = 6 := by
 by_cases hl : l = []
 ·exact .inl hl
 ·refine .inr ?_
  unfold makeC at h
  rw [if_neg hl, Option.map_eq_none_iff] at h
  have key : ∀ t : Nat, (toldK (t : Int) (vsOf l)).isSome = true → ¬ p = t := fun t ht e => by
   have := encK_some_of hr ht
   rw [← e, h] at this
   cases this
  have n1 := key 1 (told1 _)
  have n3 := key 3 (told3 _)
  have n4 := key 4 (told4 _)
  have n5 := key 5 (told5 (by rw [vsOf_len]; exact h60))
  omega
/-- What a chunk is, is read; whatever stands behind its head. -/
theorem openX_of {tag : Int} {l : List (Int × Nat)} {c : List Nat} (hg : GoodS l) (h : makeC tag l = some c) : openX c = some (l, tag.toNat) := openX_make hg h
end Go.Proofs.YthgoppmgapaajaaGreatDoor

/- What the document fixes of layer 11: awake. -/
namespace Go.Proofs.YthgoppmgapaajaaGreatDoor
open Go.RowKit

/-- The tables stay where a row of the call's own turns. -/
theorem Tabs.mod1 {w0 w w' : World} {g : Nat} (h0 : Tabs w0) (h : Tabs w) (hm : Mod (fun k => k = g) w w') (hg : w0.heap.size ≤ g) : Tabs w' :=
 ⟨h.wid.mod hm (fun e => by have := h0.wid.1; omega), h.deb.mod hm (fun e => by have := h0.deb.1; omega), h.kin.mod hm (fun e => by have := h0.kin.1; omega)⟩
end Go.Proofs.YthgoppmgapaajaaGreatDoor

/- What the document fixes of layer 12: awake. -/
namespace Go.Proofs.YthgoppmgapaajaaGreatDoor
open Go.RowKit

def lThree : List (Int × Nat) := [(1, 7), (2, 7), (3, 9)]
def noChunk : List Nat := [110, 111, 32, 99, 104, 117, 110, 107]
theorem lThree_good : GoodS lThree := by
 intro p hp
 simp only [lThree, List.mem_cons, List.not_mem_nil, or_false] at hp
 rcases hp with rfl | rfl | rfl <;> exact ⟨⟨by decide, by decide⟩, by decide⟩
theorem cThree_some : ∃ b, makeC 1 lThree = some b := by
 refine ⟨(makeC 1 lThree).getD [], ?_⟩
 decide +kernel
theorem noChunk_none : openX noChunk = none := by decide +kernel
theorem noChunk_256 : lt256 noChunk := by
 intro x hx
 simp only [noChunk, List.mem_cons, List.not_mem_nil, or_false] at hx
 omega
theorem rds_mark (w : World) (t : TypeId) (cs : Array Value) (fr : Nat × Nat) : Rds (w.alloc (.cells cs t fr)) (w.heap.size + 1) (some ⟨w.heap.size, 0, none⟩) cs.size cs.toList :=
 ⟨by simp, fun _ => ⟨_, rfl, by simp, fun j u hu => by
  rw [add_addr, Nat.zero_add]
  refine (World.cell?_alloc_mark w cs t fr j).trans ?_
  simpa using hu⟩⟩
theorem rds_no (w : World) (fr : Nat × Nat) : Rds (w.alloc (.cells #[.int .u8 110, .int .u8 111, .int .u8 32, .int .u8 99, .int .u8 104, .int .u8 117, .int .u8 110, .int .u8 107] 5 fr)) (w.heap.size + 1) (some ⟨w.heap.size, 0, none⟩) 8 (cells8 noChunk) :=
 rds_mark w 5 #[.int .u8 110, .int .u8 111, .int .u8 32, .int .u8 99, .int .u8 104, .int .u8 117, .int .u8 110, .int .u8 107] fr
theorem conv_lit0 (w : World) (C : Array Value) (n c : Nat) : (convert 26 26 (.slice (some ⟨w.heap.size, 0, none⟩) n c)).run Tryz.prog (w.alloc (.cells C 5)) = .ok (.slice (some ⟨w.heap.size, 0, none⟩) n c) (w.alloc (.cells C 5 (C.size, C.size + 1))) :=
 Lib.run_convert_bytes_const (P := Tryz.prog) w 26 5 C n c Tryz.underlying26 Tryz.underlying5
set_option maxHeartbeats 1000000 in
set_option maxRecDepth 100000 in
theorem wawake_any (w : World) (ht : Tabs w) : Calls Tryz.prog 7 #[] w fun e w' => e = .returned (.bool true) ∧ Mod (fun _ => False) w w' := by
 obtain ⟨b, hb⟩ := cThree_some
 have hlt := makeC_256 hb
 have hlen := makeC_len lThree_good hb
 have hopen : openX b = some (lThree, 1) := openX_of lThree_good hb
 have hln : b.length ≤ 2825 := by have : lThree.length = 3 := rfl; omega
 have Ht := Lib.hid ht; have Hb := Lib.hid hb; have Hlt := Lib.hid hlt; have Hopen := Lib.hid hopen; have Hln := Lib.hid hln
 obtain ⟨W, hW⟩ : ∃ W, W = w.alloc (.cells #[.int .i64 1, .int .u64 7, .int .i64 2, .int .u64 7, .int .i64 3, .int .u64 9] 36) := ⟨_, rfl⟩
 have Hl0 : Hid (RdsS W (w.heap.size + 1) (some ⟨w.heap.size, 0, none⟩) 3 lThree) := Lib.hid (by rw [hW]; exact rds_three w 1 2 3 7 7 9)
 have HmW : Hid (Mod (fun _ => False) w W) := Lib.hid (by rw [hW]; exact (Mod.refl _ _).alloc _)
 have hWs : w.heap.size + 1 = W.heap.size := by rw [hW]; simp
 have HW := Lib.hid hW; have HWs := Lib.hid hWs
 clear ht hb hlt hlen hopen hln hW hWs
 go_enter Tryz.func7, Tryz.ntmps7
 go_upto_region 2 with fail
 rw [← HW.out]
 go_wp2_with fail
 refine (newEnc_any 1 _ 3 3 lThree W Hl0.out.fit lThree_good (Ht.out.mod HmW.out) (by decide)).mono ?_
 rintro e w1 ⟨ge, rfl, ht1, hm1⟩
 rw [Hb.out] at ht1
 obtain ⟨Be, hBe⟩ : ∃ Be, Be = W.heap.size := ⟨_, rfl⟩
 obtain ⟨Ee, hEe⟩ : ∃ Ee, Ee = w1.heap.size := ⟨_, rfl⟩
 have ht1' : TskB w1 Be Ee ge (some b) 3 := by rw [hBe, hEe]; exact ht1
 have Hge : Hid (w.heap.size + 1 ≤ ge) := Lib.hid (by have := ht1'.lt; have := HWs.out; omega)
 have He1 := Lib.hid ht1'; have Hm1 := Lib.hid (HmW.out.trans hm1 (fun _ _ h => h)); have Hl1 := Lib.hid (Hl0.out.mod hm1 (by have := HWs.out; omega) (fun _ _ h => h)); have HBe := Lib.hid hBe; have HEe := Lib.hid hEe
 clear ht1 ht1' hm1 hBe hEe Hl0 HmW
 go_wp2_with fail
 refine (estep_any Be Ee ge 3 (some b) 2 w1 He1.out (by decide)).mono ?_
 rintro e w2 ⟨rfl, ht2, hm2⟩
 have e1 : lessS 3 2 = 1 := by decide
 rw [e1] at ht2 ⊢
 have He2 := Lib.hid ht2; have Hm2 := Lib.hid (Hm1.out.trans hm2 (fun i hi h => by have := Hge.out; omega)); have Hl2 := Lib.hid (Hl1.out.mod hm2 (by have := Hm1.out.size; have := HWs.out; have := HEe.out; have := He1.out.lt; have := HBe.out; omega) (fun j hj h => by have := Hge.out; omega))
 clear ht2 hm2 e1 He1 Hm1 Hl1
 go_wp2_with fail
 refine (estep_any Be Ee ge 1 (some b) 1 w2 He2.out (by decide)).mono ?_
 rintro e w3 ⟨rfl, ht3, hm3⟩
 have e1 : lessS 1 1 = 0 := by decide
 rw [e1] at ht3 ⊢
 have He3 := Lib.hid ht3; have Hm3 := Lib.hid (Hm2.out.trans hm3 (fun i hi h => by have := Hge.out; omega)); have Hl3 := Lib.hid (Hl2.out.mod hm3 (by have := Hge.out; have := He2.out.lt; omega) (fun j hj h => by have := Hge.out; omega))
 clear ht3 hm3 e1 He2 Hm2 Hl2
 go_wp2_with fail
 refine (edone_any Be Ee ge 0 (some b) w3 He3.out).mono ?_
 intro e w4 he
 rw [if_pos rfl] at he
 obtain ⟨v4, rfl, ho4, hm4⟩ := EncB.some_ he rfl
 obtain ⟨A4, L4, c4, rfl, HL4, hc4, hcm4, hr4⟩ := own_formN8 ho4
 have hL4 : L4 ≤ 1000000 := by have := HL4.out; have := Hln.out; omega
 have Hm4 := Lib.hid (Hm3.out.trans hm4 (fun _ _ h => h)); have Hr4 := Lib.hid hr4
 have Hl4 := Lib.hid (Hl3.out.mod hm4 (by have := Hge.out; have := He3.out.lt; omega) (fun _ _ h => h))
 have Hsz4 : Hid (w.heap.size + 1 ≤ w4.heap.size) := Lib.hid (by have := Hge.out; have := He3.out.lt; have := hm4.size; omega)
 clear he ho4 hm4 hr4 He3 Hm3 Hl3
 go_wp2_with fail
 refine (newDec_any A4 L4 c4 b (some (lThree, 1)) w4 Hr4.out Hlt.out hc4 hcm4 hL4 (Ht.out.mod Hm4.out) Hopen.out (by intro l t e; injection e with e; injection e with e1 e2; rw [← e1]; decide)).mono ?_
 rintro e w5 ⟨gd, rfl, ht5, hm5⟩
 obtain ⟨Bd, hBd⟩ : ∃ Bd, Bd = w4.heap.size := ⟨_, rfl⟩
 obtain ⟨Ed, hEd⟩ : ∃ Ed, Ed = w5.heap.size := ⟨_, rfl⟩
 have ht5' : TskS w5 Bd Ed gd (some lThree) 3 := by rw [hBd, hEd]; exact ht5
 have Hgd : Hid (w.heap.size + 1 ≤ gd) := Lib.hid (by have := ht5'.lt; have := Hsz4.out; omega)
 have Hd5 := Lib.hid ht5'; have Hm5 := Lib.hid (Hm4.out.trans hm5 (fun _ _ h => h)); have Hl5 := Lib.hid (Hl4.out.mod hm5 Hsz4.out (fun _ _ h => h))
 have HEd := Lib.hid hEd
 clear ht5 ht5' hm5 hBd hEd Hr4 Hm4 Hl4 hc4 hcm4 hL4 HL4 HEe HBe
 go_wp2_with fail
 refine (ddone_any Bd Ed gd 3 (some lThree) w5 Hd5.out).mono ?_
 intro e w6 he
 rw [if_neg (by decide)] at he
 obtain ⟨rfl, hm6⟩ := EncS.none_ he rfl
 have Hd6 := Lib.hid (Hd5.out.new hm6); have Hm6 := Lib.hid (Hm5.out.trans hm6 (fun _ _ h => h)); have Hl6 := Lib.hid (Hl5.out.mod hm6 (by have := Hgd.out; have := Hd5.out.lt; omega) (fun _ _ h => h))
 clear he hm6 Hd5 Hm5 Hl5
 go_wp2_with fail
 refine (dstep_any Bd Ed gd 3 (some lThree) 5 w6 Hd6.out (by decide)).mono ?_
 rintro e w7 ⟨rfl, ht7, hm7⟩
 have e1 : lessS 3 5 = 0 := by decide
 rw [e1] at ht7 ⊢
 have Hd7 := Lib.hid ht7; have Hm7 := Lib.hid (Hm6.out.trans hm7 (fun i hi h => by have := Hgd.out; omega)); have Hl7 := Lib.hid (Hl6.out.mod hm7 (by have := Hgd.out; have := Hd6.out.lt; omega) (fun j hj h => by have := Hgd.out; omega))
 clear ht7 hm7 e1 Hd6 Hm6 Hl6
 go_wp2_with fail
 refine (ddone_any Bd Ed gd 0 (some lThree) w7 Hd7.out).mono ?_
 intro e w8 he
 rw [if_pos rfl] at he
 obtain ⟨v8, rfl, ho8, hm8⟩ := EncS.some_ he rfl
 obtain ⟨A8, L8, c8, rfl, HL8, _, _, hr8⟩ := ho8.formN
 obtain rfl : L8 = 3 := HL8.out.symm
 have Hd8 := Lib.hid (Hd7.out.new hm8); have Hm8 := Lib.hid (Hm7.out.trans hm8 (fun _ _ h => h)); have Hl8 := Lib.hid (Hl7.out.mod hm8 (by have := Hgd.out; have := Hd7.out.lt; omega) (fun _ _ h => h)); have Hr8 := Lib.hid hr8
 obtain ⟨W9, hW9⟩ : ∃ W9, W9 = w8.alloc (.cells #[.int .u8 110, .int .u8 111, .int .u8 32, .int .u8 99, .int .u8 104, .int .u8 117, .int .u8 110, .int .u8 107] 5 (8, 9)) := ⟨_, rfl⟩
 have kc := conv_lit0 w8
 have hm9 : Mod (fun _ => False) w8 W9 := by rw [hW9]; exact (Mod.refl _ _).alloc _
 have Hx9 : Hid (Rds W9 W9.heap.size (some ⟨w8.heap.size, 0, none⟩) 8 (cells8 noChunk)) := Lib.hid (by rw [hW9]; exact (rds_no w8 (8, 9)).fit)
 have HW9 := Lib.hid hW9
 have Hs9 : Hid (Ed ≤ W9.heap.size ∧ w.heap.size + 1 ≤ W9.heap.size) := Lib.hid (by have h1 := Hd8.out.lt; have h2 := hm9.size; have := Hgd.out; omega)
 have Hd9 := Lib.hid (Hd8.out.new hm9); have Hm9 := Lib.hid (Hm8.out.trans hm9 (fun _ _ h => h)); have Hl9 := Lib.hid (Hl8.out.mod hm9 (by have := Hgd.out; have := Hd8.out.lt; omega) (fun _ _ h => h)); have Hr9 := Lib.hid (Hr8.out.new hm9).fit
 clear he ho8 hm8 hr8 hW9 hm9 Hd7 Hm7 Hl7 Hd8 Hm8 Hl8 Hr8
 go_wp2_with fail
 rw [← HW9.out]
 refine (newDec_any (some ⟨w8.heap.size, 0, none⟩) 8 8 noChunk none W9 Hx9.out noChunk_256 (Nat.le_refl _) (by unfold maxLen; omega) (by decide) (Ht.out.mod Hm9.out) noChunk_none (by intro l t e; cases e)).mono ?_
 rintro e w10 ⟨gf, rfl, ht10, hm10⟩
 obtain ⟨Bf, hBf⟩ : ∃ Bf, Bf = W9.heap.size := ⟨_, rfl⟩
 obtain ⟨Ef, hEf⟩ : ∃ Ef, Ef = w10.heap.size := ⟨_, rfl⟩
 have ht10' : TskS w10 Bf Ef gf none 1 := by rw [hBf, hEf]; exact ht10
 have Hgf : Hid (w.heap.size + 1 ≤ gf ∧ Ed ≤ gf ∧ W9.heap.size ≤ gf) := Lib.hid (by have := ht10'.lt; have := Hs9.out; omega)
 have Hf10 := Lib.hid ht10'; have Hm10 := Lib.hid (Hm9.out.trans hm10 (fun _ _ h => h)); have Hd10 := Lib.hid (Hd9.out.new hm10); have Hl10 := Lib.hid (Hl9.out.mod hm10 (by have := Hgd.out; have := Hd9.out.lt; omega) (fun _ _ h => h)); have Hr10 := Lib.hid (Hr9.out.mod hm10 (Nat.le_refl _) (fun _ _ h => h))
 clear ht10 ht10' hm10 hBf hEf Hd9 Hm9 Hl9 Hr9 Hx9 HW9 kc
 go_wp2_with fail
 refine (dstep_any Bf Ef gf 1 none 1 w10 Hf10.out (by decide)).mono ?_
 rintro e w11 ⟨rfl, ht11, hm11⟩
 have e1 : lessS 1 1 = 0 := by decide
 rw [e1] at ht11 ⊢
 have Hf11 := Lib.hid ht11; have Hm11 := Lib.hid (Hm10.out.trans hm11 (fun i hi h => by have := Hgf.out; omega)); have Hl11 := Lib.hid (Hl10.out.mod hm11 (by have := Hgf.out; have := Hf10.out.lt; omega) (fun j hj h => by have := Hgf.out; omega))
 have Hd11 := Lib.hid (Hd10.out.mod hm11 (fun i h => by have := Hgf.out; omega)); have Hr11 := Lib.hid (Hr10.out.mod hm11 (by have := Hgf.out; have := Hf10.out.lt; omega) (fun j hj h => by have := Hgf.out; omega))
 clear ht11 hm11 e1 Hf10 Hm10 Hl10 Hd10 Hr10
 go_wp2_with fail
 refine (ddone_any Bf Ef gf 0 none w11 Hf11.out).mono ?_
 intro e w12 he
 rw [if_pos rfl] at he
 obtain ⟨rfl, hm12⟩ := EncS.none_ he rfl
 have Hf12 := Lib.hid (Hf11.out.new hm12); have Hd12 := Lib.hid (Hd11.out.new hm12); have Hm12 := Lib.hid (Hm11.out.trans hm12 (fun _ _ h => h)); have Hl12 := Lib.hid (Hl11.out.fit.new hm12); have Hr12 := Lib.hid (Hr11.out.fit.new hm12)
 clear he hm12 Hf11 Hd11 Hm11 Hl11 Hr11
 go_wp2_with fail
 refine (sameS_any A8 _ 3 3 c8 3 _ _ lThree lThree true w12 Hr12.out Hl12.out (by decide) (by simp)).mono ?_
 rintro e w13 ⟨rfl, hm13⟩
 have Hf13 := Lib.hid (Hf12.out.new hm13); have Hd13 := Lib.hid (Hd12.out.new hm13); have Hm13 := Lib.hid (Hm12.out.trans hm13 (fun _ _ h => h))
 clear hm13 Hf12 Hd12 Hm12 Hl12 Hr12
 go_wp2_with fail
 refine (dbad_any Bf Ef gf 0 none w13 Hf13.out).mono ?_
 rintro e w14 ⟨rfl, rfl⟩
 have e1 : (decide ((0 : Nat) = 0) && (none : Option (List (Int × Nat))).isNone) = true := rfl
 rw [e1]
 clear e1
 go_wp2_with fail
 refine (dbad_any Bd Ed gd 0 (some lThree) w13 Hd13.out).mono ?_
 rintro e w14 ⟨rfl, rfl⟩
 have e1 : (decide ((0 : Nat) = 0) && (some lThree).isNone) = false := rfl
 rw [e1]
 clear e1
 go_wp2_with fail
 go_ret
 exact ⟨rfl, Hm13.out⟩
end Go.Proofs.YthgoppmgapaajaaGreatDoor

/- WorkMixed's walk. -/
namespace Go.Proofs.YthgoppmgapaajaaGreatDoor
open Go.RowKit

theorem lessS_lt {k : Nat} (n : Int) (h : 0 < lessS k n) : lessS k n + 1 ≤ k := by unfold lessS at h ⊢; omega
theorem lessS_no {k : Nat} {n : Int} (h : ¬ 0 < lessS k n) : lessS k n = 0 := by omega
theorem SeesI.modS {k : IntKind} {w w' : World} {B : Nat} {A : Option Addr} {n : Nat} {zs : List Int} {S : Nat → Prop} (h : SeesI k w B A n zs) (hm : Mod S w w') (hB : B ≤ w.heap.size) (hS : ∀ j, j < B → ¬ S j) : SeesI k w' B A n zs := ⟨h.1, fun h0 => by
 obtain ⟨ad, e, hb, hc⟩ := h.2 h0
 exact ⟨ad, e, hb, fun j u hu => (hm.cell (by rw [addr_block]; omega) (by rw [addr_block]; exact hS _ hb)).trans (hc j u hu)⟩⟩
theorem SeesI.up {k : IntKind} {w : World} {B B' : Nat} {A : Option Addr} {n : Nat} {zs : List Int} (h : SeesI k w B A n zs) (hB : B ≤ B') : SeesI k w B' A n zs := ⟨h.1, fun h0 => by
 obtain ⟨ad, e, hb, hc⟩ := h.2 h0
 exact ⟨ad, e, by omega, hc⟩⟩
set_option maxHeartbeats 1000000 in
set_option maxRecDepth 100000 in
theorem workMixed_walk (A A2 A3 A4 : Option Addr) (n c n2 c2 n3 c3 n4 c4 : Nat) (zs qs bs : List Int) (us : List Nat) (how tag : Int) (w : World) (hs : SeesI .i64 w w.heap.size A n zs) (hz : ∀ x ∈ zs, FitI x) (hs2 : Rds w w.heap.size A2 n2 (cellsU us)) (hu : ∀ x ∈ us, x < 2 ^ 64)
  (ha : SeesI .i64 w w.heap.size A3 n3 qs) (hb : SeesI .i64 w w.heap.size A4 n4 bs) (ht : Tabs w) :
  Calls Tryz.prog 4 #[.slice A n c, .slice A2 n2 c2, .int .i64 how, .int .i64 tag, .slice A3 n3 c3, .slice A4 n4 c4] w fun e w' => e = .returned (.bool true) ∧ Mod (fun _ => False) w w' := by
 have Hs := Lib.hid hs; have Hz := Lib.hid hz; have Hs2 := Lib.hid hs2; have Hu := Lib.hid hu; have Ht := Lib.hid ht; have Ha := Lib.hid ha; have Hb := Lib.hid hb
 obtain ⟨x, hx, hx256⟩ : ∃ x : Nat, bits .and .i64 tag 255 = (x : Int) ∧ x < 256 := and_nat tag 255 8 rfl (by omega)
 obtain ⟨p, hp⟩ : ∃ p, p = x % 6 + 1 := ⟨_, rfl⟩
 have hp6 : 1 ≤ p ∧ p ≤ 6 := by omega
 have hxp : (x : Int) % 6 + 1 = (p : Int) := by omega
 clear hs hz hs2 hu ht hp ha hb
 go_enter Tryz.func4, Tryz.ntmps4
 go_wp2_with fail
 refine (row_any A A2 n c n2 c2 zs us how w Hs.out Hz.out Hs2.out Hu.out).mono ?_
 rintro e w1 ⟨v, l, rfl, ho1, hg, hr, hl60, hm1⟩
 obtain ⟨A1, L, c1, rfl, HL, hc1, _, hr1⟩ := ho1.formN
 have Hr1 := Lib.hid hr1; have Hg := Lib.hid hg; have Hr := Lib.hid hr; have Hm1 := Lib.hid hm1; have T1 := Lib.hid (Ht.out.mod hm1)
 have Ha1 := Lib.hid ((Ha.out.modS hm1 (Nat.le_refl _) (fun _ _ h => h)).up hm1.size); have Hb1 := Lib.hid ((Hb.out.modS hm1 (Nat.le_refl _) (fun _ _ h => h)).up hm1.size); have Hs1 : Hid (w.heap.size ≤ w1.heap.size) := Lib.hid hm1.size
 have hL60 : L ≤ 60 := by have := HL.out; omega
 clear ho1 hg hr hl60 hm1 hr1 Hs Hz Hs2 Hu Ht hc1 Ha Hb
 go_wp2_with fail
 refine (newEnc_any (p : Int) A1 L c1 l w1 Hr1.out Hg.out T1.out (by omega)).mono ?_
 rintro e w2 ⟨ge, rfl, ht2, hm2⟩
 obtain ⟨o, ho⟩ : ∃ o, o = makeC (p : Int) l := ⟨_, rfl⟩
 obtain ⟨k0, hk0⟩ : ∃ k0, k0 = if o.isSome then L else 1 := ⟨_, rfl⟩
 obtain ⟨Be, hBe⟩ : ∃ Be, Be = w1.heap.size := ⟨_, rfl⟩
 obtain ⟨Ee, hEe⟩ : ∃ Ee, Ee = w2.heap.size := ⟨_, rfl⟩
 rw [← ho, ← hk0, ← hBe, ← hEe] at ht2
 have hk60 : k0 ≤ 60 := by rw [hk0]; split <;> omega
 have He2 := Lib.hid ht2; have Hm2 := Lib.hid (Hm1.out.trans hm2 (fun _ _ h => h)); have T2 := Lib.hid (T1.out.mod hm2); have Hr2 := Lib.hid (Hr1.out.new hm2)
 have Ha2 := Lib.hid (Ha1.out.modS hm2 (Nat.le_refl _) (fun _ _ h => h)); have Hb2 := Lib.hid (Hb1.out.modS hm2 (Nat.le_refl _) (fun _ _ h => h)); have Hs2 : Hid (w1.heap.size ≤ w2.heap.size) := Lib.hid hm2.size
 have Ho := Lib.hid ho; have HBe := Lib.hid hBe; have HEe := Lib.hid hEe
 have Hge : Hid (w1.heap.size ≤ ge) := Lib.hid (by have := ht2.lt; omega)
 clear ht2 hm2 ho hk0 hBe hEe Hr1 Hm1 Ha1 Hb1
 go_upto_block 0 with fail
 go_cut [15, 16] (fun s15 s16 wc => TskB wc Be Ee ge o 0 ∧ Mod (fun k => k = ge) w2 wc)
 case first =>
  go_wp2_with fail
  go_loopg [15, 16] 100 (fun gk s15 s16 wr => ∃ i k : Nat, i + gk = 100 ∧ s15 = .int .i64 (i : Int) ∧ TskB wr Be Ee ge o k ∧ k + i ≤ 100 ∧ Mod (fun k => k = ge) w2 wr)
  case atStart => exact ⟨0, k0, by omega, rfl, He2.out, by omega, Mod.refl _ _⟩
  case round =>
   obtain ⟨i, k, hik, rfl, hT, hki, hm⟩ := hrel
   have Hik := Lib.hid hik; have HT := Lib.hid hT; have Hki := Lib.hid hki; have Hm := Lib.hid hm
   clear hik hT hki hm
   by_cases hin : i < 100
   ·go_upto_if 43 with fail
    go_cut [16] (fun s16 wc => ∃ m : Int, s16 = .int .i64 m ∧ wc = wr)
    case first =>
     by_cases hia : i < n3
     ·obtain ⟨ad, y, rfl, hy, hcy⟩ := Ha2.out.at_ hia Hs2.out Hm.out (fun j hj h => by have := Hge.out; omega)
      have hil : (i : Int) < (n3 : Int) := by omega
      clear hy
      go_wp2_with fail
      go_meet
      case rel => exact ⟨y, rfl, rfl⟩
     ·go_wp2_with fail
      go_meet
      case rel => exact ⟨1, rfl, rfl⟩
    case rest =>
     obtain ⟨m, rfl, rfl⟩ := hcut
     go_wp2_with fail
     refine (estep_any Be Ee ge k o m wc HT.out (by have := Hki.out; omega)).mono ?_
     rintro e w3 ⟨rfl, ht3, hm3⟩
     have HT3 := Lib.hid ht3; have Hm3 := Lib.hid (Hm.out.trans hm3 (fun _ _ h => h))
     clear ht3 hm3
     by_cases hmore : 0 < lessS k m
     ·have hd : decide (0 < lessS k m) = true := decide_eq_true hmore
      rw [hd]
      have Hless := Lib.hid (lessS_lt m hmore)
      clear hd hmore
      go_wp2_with fail
      go_roundg (gk - 1)
      case measure => have := Hik.out; omega
      case rel => exact ⟨i + 1, lessS k m, by have := Hik.out; omega, by go_num, HT3.out, by have := Hless.out; have := Hki.out; omega, Hm3.out⟩
     ·have hd : decide (0 < lessS k m) = false := decide_eq_false hmore
      rw [hd]
      have Hless := Lib.hid (lessS_no hmore)
      clear hd hmore
      go_wp2_with fail
      go_meet
      case rel => exact ⟨by have := HT3.out; rwa [Hless.out] at this, Hm3.out⟩
   ·go_wp2_with fail
    go_meet
    case rel => exact ⟨by have := HT.out; rwa [show k = 0 by have := Hki.out; omega] at this, Hm.out⟩
 case rest =>
  obtain ⟨hT, hmc⟩ := hcut
  have HTc := Lib.hid hT; have Tc := Lib.hid (Tabs.mod1 T1.out T2.out hmc Hge.out)
  have Hmc := Lib.hid (Hm2.out.trans hmc (fun i hi h => by have := Hge.out; have := Hs1.out; omega))
  have Hrc := Lib.hid (Hr2.out.mod hmc Hs2.out (fun j hj h => by have := Hge.out; omega))
  have Hbc := Lib.hid (Hb2.out.modS hmc Hs2.out (fun j hj h => by have := Hge.out; omega))
  have Hsc : Hid (w1.heap.size ≤ wc.heap.size) := Lib.hid (Nat.le_trans Hs2.out hmc.size)
  clear hT hmc He2 Hm2 T2 Hr2 Ha2 Hb2 HBe HEe hk60
  go_wp2_with fail
  refine (edone_any Be Ee ge 0 o wc HTc.out).mono ?_
  intro e w3 he
  rw [if_pos rfl] at he
  rcases o with _ | b
  ·obtain ⟨rfl, hm3⟩ := EncB.none_ he rfl
   have hwhich := makeC_is Hr.out (by rw [HL.out]; omega) hp6.1 hp6.2 Ho.out.symm
   have Hm3 := Lib.hid (Hmc.out.trans hm3 (fun _ _ h => h)); have T3 := Lib.hid (Tc.out.mod hm3); have HT3 := Lib.hid (HTc.out.new hm3)
   clear he hm3 Hrc Hmc Tc HTc Hbc Hsc
   obtain ⟨b0, hb0⟩ : ∃ b0, b0 = ((L : Int) == 0) := ⟨_, rfl⟩
   obtain ⟨b2, hb2⟩ : ∃ b2, b2 = ((p : Int) == 2) := ⟨_, rfl⟩
   obtain ⟨b6, hb6⟩ : ∃ b6, b6 = ((p : Int) == 6) := ⟨_, rfl⟩
   have hor : b0 = true ∨ b2 = true ∨ b6 = true := by
    rcases hwhich with h | h | h
    ·left; rw [hb0]; have : L = 0 := by rw [← HL.out, h]; rfl
     simp [this]
    ·right; left; rw [hb2, h]; rfl
    ·right; right; rw [hb6, h]; rfl
   clear hwhich
   have Hb0 := hb0.symm; have Hb2 := hb2.symm; have Hb6 := hb6.symm
   clear hb0 hb2 hb6
   go_wp2_with fail
   refine (ebad_any Be Ee ge 0 none w3 HT3.out).mono ?_
   rintro e w4 ⟨rfl, rfl⟩
   have e1 : (decide ((0 : Nat) = 0) && (none : Option (List Nat)).isNone) = true := rfl
   rw [e1]
   clear e1 HT3
   rcases b0 with _ | _
   ·rcases b2 with _ | _
    ·obtain rfl : b6 = true := by simpa using hor
     go_wp2_with fail
     refine (wawake_any w3 T3.out).mono ?_
     rintro e w4 ⟨rfl, hm4⟩
     have Hm4 := Lib.hid (Hm3.out.trans hm4 (fun _ _ h => h))
     clear hm4
     go_wp2_with fail
     go_ret
     exact ⟨rfl, Hm4.out⟩
    ·go_wp2_with fail
     refine (wawake_any w3 T3.out).mono ?_
     rintro e w4 ⟨rfl, hm4⟩
     have Hm4 := Lib.hid (Hm3.out.trans hm4 (fun _ _ h => h))
     clear hm4
     go_wp2_with fail
     go_ret
     exact ⟨rfl, Hm4.out⟩
   ·go_wp2_with fail
    refine (wawake_any w3 T3.out).mono ?_
    rintro e w4 ⟨rfl, hm4⟩
    have Hm4 := Lib.hid (Hm3.out.trans hm4 (fun _ _ h => h))
    clear hm4
    go_wp2_with fail
    go_ret
    exact ⟨rfl, Hm4.out⟩
  ·obtain ⟨v3, rfl, ho3, hm3⟩ := EncB.some_ he rfl
   have hmk := Ho.out.symm
   have hlt := makeC_256 hmk
   have hlen := makeC_len Hg.out hmk
   have hopen : openX b = some (l, p) := by rw [openX_of Hg.out hmk, Int.toNat_natCast]
   obtain ⟨A4, L4, c4, rfl, HL4, hc4, hcm4, hr4⟩ := own_formN8 ho3
   have hL4 : L4 ≤ 1000000 := by have := HL4.out; have := HL.out; omega
   have HTd := Lib.hid (HTc.out.new hm3); have Td := Lib.hid (Tc.out.mod hm3); have Hmd := Lib.hid (Hmc.out.trans hm3 (fun _ _ h => h)); have Hrd := Lib.hid (Hrc.out.mod hm3 Hsc.out (fun _ _ h => h)); have Hbd := Lib.hid (Hbc.out.modS hm3 Hsc.out (fun _ _ h => h)); have Hr4 := Lib.hid hr4
   have Hsd : Hid (w1.heap.size ≤ w3.heap.size) := Lib.hid (Nat.le_trans Hsc.out hm3.size)
   have Hlt := Lib.hid hlt; have Hopen := Lib.hid hopen
   clear he ho3 hmk hlt hlen hopen hr4 hm3 HTc Tc Hmc Hrc Hbc Hsc
   go_wp2_with fail
   refine (newDec_any A4 L4 c4 b (some (l, p)) w3 Hr4.out Hlt.out hc4 hcm4 hL4 Td.out Hopen.out (by intro l' t e; injection e with e; injection e with e1 e2; rw [← e1, HL.out]; omega)).mono ?_
   rintro e w4 ⟨gd, rfl, ht4, hm4⟩
   obtain ⟨Bd, hBd⟩ : ∃ Bd, Bd = w3.heap.size := ⟨_, rfl⟩
   obtain ⟨Ed, hEd⟩ : ∃ Ed, Ed = w4.heap.size := ⟨_, rfl⟩
   have ht4' : TskS w4 Bd Ed gd (some l) L := by rw [hBd, hEd]; rw [← HL.out]; exact ht4
   have Hgd : Hid (w1.heap.size ≤ gd ∧ Ee ≤ gd) := Lib.hid (by have := ht4'.lt; have := HTd.out.lt; have := Hsd.out; omega)
   have HD4 := Lib.hid ht4'; have HT4 := Lib.hid (HTd.out.new hm4); have Hm4 := Lib.hid (Hmd.out.trans hm4 (fun _ _ h => h)); have T4 := Lib.hid (Td.out.mod hm4)
   have Hrd4 := Lib.hid (Hrd.out.mod hm4 Hsd.out (fun _ _ h => h)); have Hb4 := Lib.hid (Hbd.out.modS hm4 Hsd.out (fun _ _ h => h)); have Hs4 : Hid (w1.heap.size ≤ w4.heap.size) := Lib.hid (Nat.le_trans Hsd.out hm4.size)
   clear ht4 ht4' hm4 hBd hEd HTd Hmd Td Hrd Hbd Hsd Hr4 hc4 hcm4 hL4 HL4 Hlt Hopen
   go_upto_block 2 with fail
   go_cut [20, 21] (fun s20 s21 wx => TskS wx Bd Ed gd (some l) 0 ∧ Mod (fun k => k = gd) w4 wx)
   case first =>
    go_wp2_with fail
    go_loopg [20, 21] 100 (fun gk s20 s21 wr => ∃ i k : Nat, i + gk = 100 ∧ s20 = .int .i64 (i : Int) ∧ TskS wr Bd Ed gd (some l) k ∧ k + i ≤ 100 ∧ Mod (fun k => k = gd) w4 wr)
    case atStart => exact ⟨0, L, by omega, rfl, HD4.out, by omega, Mod.refl _ _⟩
    case round =>
     obtain ⟨i, k, hik, rfl, hT, hki, hm⟩ := hrel
     have Hik := Lib.hid hik; have HT := Lib.hid hT; have Hki := Lib.hid hki; have Hm := Lib.hid hm
     clear hik hT hki hm
     by_cases hin : i < 100
     ·go_upto_if 94 with fail
      go_cut [21] (fun s21 wy => ∃ m : Int, s21 = .int .i64 m ∧ wy = wr)
      case first =>
       by_cases hia : i < n4
       ·obtain ⟨ad, y, rfl, hy, hcy⟩ := Hb4.out.at_ hia Hs4.out Hm.out (fun j hj h => by have := Hgd.out; omega)
        have hil : (i : Int) < (n4 : Int) := by omega
        clear hy
        go_wp2_with fail
        go_meet
        case rel => exact ⟨y, rfl, rfl⟩
       ·go_wp2_with fail
        go_meet
        case rel => exact ⟨1, rfl, rfl⟩
      case rest =>
       obtain ⟨m, rfl, rfl⟩ := hcut
       go_wp2_with fail
       refine (dstep_any Bd Ed gd k (some l) m wc HT.out (by have := Hki.out; omega)).mono ?_
       rintro e w5 ⟨rfl, ht5, hm5⟩
       have HT5 := Lib.hid ht5; have Hm5 := Lib.hid (Hm.out.trans hm5 (fun _ _ h => h))
       clear ht5 hm5
       by_cases hmore : 0 < lessS k m
       ·have hd : decide (0 < lessS k m) = true := decide_eq_true hmore
        rw [hd]
        have Hless := Lib.hid (lessS_lt m hmore)
        clear hd hmore
        go_wp2_with fail
        go_roundg (gk - 1)
        case measure => have := Hik.out; omega
        case rel => exact ⟨i + 1, lessS k m, by have := Hik.out; omega, by go_num, HT5.out, by have := Hless.out; have := Hki.out; omega, Hm5.out⟩
       ·have hd : decide (0 < lessS k m) = false := decide_eq_false hmore
        rw [hd]
        have Hless := Lib.hid (lessS_no hmore)
        clear hd hmore
        go_wp2_with fail
        go_meet
        case rel => exact ⟨by have := HT5.out; rwa [Hless.out] at this, Hm5.out⟩
     ·go_wp2_with fail
      go_meet
      case rel => exact ⟨by have := HT.out; rwa [show k = 0 by have := Hki.out; omega] at this, Hm.out⟩
   case rest =>
    obtain ⟨hD, hmx⟩ := hcut
    have HDx := Lib.hid hD; have Tx := Lib.hid (Tabs.mod1 T1.out T4.out hmx Hgd.out.1)
    have Hmx := Lib.hid (Hm4.out.trans hmx (fun i hi h => by have := Hgd.out; have := Hs1.out; omega))
    have Hrx := Lib.hid (Hrd4.out.mod hmx Hs4.out (fun j hj h => by have := Hgd.out; omega))
    have HEx := Lib.hid (HT4.out.mod hmx (fun i h => by have := Hgd.out; omega))
    clear hD hmx HD4 T4 Hm4 Hrd4 HT4 Hb4 T1
    go_wp2_with fail
    refine (ddone_any Bd Ed gd 0 (some l) wc HDx.out).mono ?_
    intro e w5 he
    rw [if_pos rfl] at he
    obtain ⟨v5, rfl, ho5, hm5⟩ := EncS.some_ he rfl
    obtain ⟨A5, L5, c5, rfl, HL5, _, _, hr5⟩ := ho5.formN
    obtain rfl : L5 = L := by have := HL5.out; have := HL.out; omega
    have HD5 := Lib.hid (HDx.out.new hm5); have T5 := Lib.hid (Tx.out.mod hm5); have Hm5 := Lib.hid (Hmx.out.trans hm5 (fun _ _ h => h)); have Hr5 := Lib.hid hr5; have Hrl5 := Lib.hid (Hrx.out.fit.new hm5).fit; have HE5 := Lib.hid (HEx.out.new hm5)
    clear he ho5 hm5 hr5 HDx Tx Hmx Hrx HEx
    go_wp2_with fail
    refine (sameS_any A5 A1 L5 L5 c5 c1 _ _ l l true w5 Hr5.out Hrl5.out (by omega) (by simp)).mono ?_
    rintro e w6 ⟨rfl, hm6⟩
    have HD6 := Lib.hid (HD5.out.new hm6); have T6 := Lib.hid (T5.out.mod hm6); have Hm6 := Lib.hid (Hm5.out.trans hm6 (fun _ _ h => h)); have HE6 := Lib.hid (HE5.out.new hm6)
    clear hm6 HD5 T5 Hm5 HE5 Hr5 Hrl5
    go_wp2_with fail
    refine (dbad_any Bd Ed gd 0 (some l) w6 HD6.out).mono ?_
    rintro e w7 ⟨rfl, rfl⟩
    have e1 : (decide ((0 : Nat) = 0) && (some l).isNone) = false := rfl
    rw [e1]
    clear e1
    go_wp2_with fail
    refine (ebad_any Be Ee ge 0 (some b) w6 HE6.out).mono ?_
    rintro e w7 ⟨rfl, rfl⟩
    have e1 : (decide ((0 : Nat) = 0) && (some b).isNone) = false := rfl
    rw [e1]
    clear e1 HD6 HE6
    go_wp2_with fail
    refine (wawake_any w6 T6.out).mono ?_
    rintro e w7 ⟨rfl, hm7⟩
    have Hm7 := Lib.hid (Hm6.out.trans hm7 (fun _ _ h => h))
    clear hm7
    go_wp2_with fail
    go_ret
    exact ⟨rfl, Hm7.out⟩
end Go.Proofs.YthgoppmgapaajaaGreatDoor

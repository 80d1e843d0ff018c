/- The document's own: numbers of so many bits each are packed behind bytes, and unpacked. -/
import Derived.Test.YtldjobaafambbaaPn
import Derived.Test.YtldjobaafambbaaUw
import Derived.Deep.DeepCutAuto
import Derived.Deep.LoopGhost
import Derived.Test.YtldjobaafambbaaProg
import Derived.Test.YtldjobaafambbaaRefb
import Derived.Test.YtldjobaafambbaaGo
import Derived.Test.YtldjobaafambbaaRow2
namespace Go.Proofs.Ytldjobaafambbaa
open Go.RowKit

/-- What the document's writer has been told of i numbers of S bits. -/
def RFldTo (w0 w1 wr : World) (g S : Nat) (l : List Nat) (i : Nat) : Prop := RWrote w1 wr g none 0 0 (flds S (l.take i)) ∧ Mod (fun _ => False) w0 wr
theorem RFldTo.step {w0 w1 wr w2 : World} {g S i x : Nat} {l : List Nat} (hx : l[i]? = some x) (_h : RFldTo w0 w1 wr g S l i) (hg : w0.heap.size ≤ g) (hm : Mod (fun _ => False) w0 w1) (h2 : RWrote w1 w2 g none 0 0 (flds S (l.take i) ++ [(x, S)])) : RFldTo w0 w1 w2 g S l (i + 1) := by
  refine ⟨?_, ?_⟩
  · rw [take_succ_of hx, flds_app]
    exact h2
  · obtain ⟨row', _, a2, _⟩ := h2
    exact hm.trans a2 (fun i hi h => h.elim (fun e => by omega) (fun e => by cases e))
theorem RFldTo.wr {w0 w1 wr : World} {g S i n : Nat} {l : List Nat} (h : RFldTo w0 w1 wr g S l i) (hn : l.length = n) (hi : i = n) : ∃ row, RWr wr g row (fnum (flds S l)) (flen (flds S l)) := by
  obtain ⟨⟨row', a1, _, _⟩, _⟩ := h
  rw [List.take_of_length_le (by omega), Nat.zero_mul, Nat.zero_add, Nat.zero_add] at a1
  exact ⟨row', a1⟩
set_option maxHeartbeats 4000000 in
set_option maxRecDepth 100000 in
theorem rpack_any (A0 A1 : Option Addr) (n0 c0 n1 c1 B S : Nat) (hd l : List Nat) (w : World) (h0 : Rds w B A0 n0 (cells8 hd)) (h1 : Rds w B A1 n1 (cellsU l)) (hB : B ≤ w.heap.size) (hl : ∀ x ∈ l, x < 2 ^ 64) (hS : S ≤ 64) (hn0 : n0 ≤ 1000000) (hn1 : n1 ≤ 1000000) :
    Calls Try.prog 25 #[.slice A0 n0 c0, .slice A1 n1 c1, .int .i64 (S : Int)] w fun e w' => ∃ v, e = .returned v ∧ Own w.heap.size w' 5 v (cells8 (hd ++ packW S l)) ∧ Mod (fun _ => False) w w' := by
  have hhl : hd.length = n0 := by have := h0.1; rwa [cells8_length] at this
  have hll : l.length = n1 := by have := h1.1; rwa [cellsU_length] at this
  obtain ⟨W, hW⟩ : ∃ W, W = w.alloc (.cells #[.slice none 0 0] 75) := ⟨_, rfl⟩
  have hmW : Mod (fun _ => False) w W := by rw [hW]; exact (Mod.refl _ _).alloc _
  have hrw : RWr W w.heap.size none 0 0 := by
    refine ⟨.slice none 0 0, [], ?_, World.ownsRow_nil _ _ _ _, rfl, (fun _ h => by cases h), rfl, rfl⟩
    rw [hW]
    exact Blk.new _ _ _
  have F0 : Hid (RFldTo w W W w.heap.size S l 0) := Lib.hid ⟨RWrote.refl hrw, hmW⟩
  have H0 := Lib.hid h0; have H1 := Lib.hid h1; have HB := Lib.hid hB; have Hl := Lib.hid hl; have Hhl := Lib.hid hhl; have Hll := Lib.hid hll; have HW := Lib.hid hW; have HmW := Lib.hid hmW
  clear h0 h1 hB hl hhl hll hW hmW hrw
  go_enter Try.func25, Try.ntmps25
  go_wp2_with fail
  rw [← HW.out]
  go_loopg [8] n1 (fun l' s8 wr => ∃ i : Nat, i + l' = n1 ∧ s8 = .int .i64 (i : Int) ∧ RFldTo w W wr w.heap.size S l i)
  case atStart => exact ⟨0, by omega, rfl, F0.out⟩
  case round =>
    obtain ⟨i, hil, rfl, hF⟩ := hrel
    have HF := Lib.hid hF; have Hil := Lib.hid hil
    clear hF hil F0 HW
    by_cases hin : i < n1
    · obtain ⟨ad, x, rfl, hx, hcx⟩ := H1.out.at2 hin HB.out HF.out.2 (fun _ _ h => h)
      have hx64 : Hid (Lt64 x) := Lib.hid (by have := Hl.out x (List.mem_of_getElem? hx); unfold Lt64; omega)
      have Hx := Lib.hid hx
      have hi1 : (0 : Int) ≤ (i : Int) := by omega
      clear hx
      go_wp2_with fail
      refine (rput_wrote W w.heap.size none 0 0 S _ x _ _ wr rfl rfl hS hx64.out HF.out.1 (by have := flds_small (i := i) hS (Nat.le_of_eq Hll.out) hn1; omega)).mono ?_
      rintro e w2 ⟨rfl, h2⟩
      have HF2 : Hid (RFldTo w W w2 w.heap.size S l (i + 1)) := Lib.hid (HF.out.step Hx.out (Nat.le_refl _) HmW.out h2)
      clear h2
      go_wp2_with fail
      go_roundg (gk - 1)
      case measure => have := Hil.out; omega
      case rel => exact ⟨i + 1, by have := Hil.out; omega, by go_num, HF2.out⟩
    · have hi : i = n1 := by have := Hil.out; omega
      obtain ⟨row, hwr⟩ := HF.out.wr Hll.out hi
      have Hwr := Lib.hid hwr; have Hmr := Lib.hid HF.out.2
      have hr1 : ([] : List Value).length + n0 ≤ maxLen := by unfold maxLen; simp; omega
      have hr2 : (([] : List Value).length + n0) * 1 ≤ 140737488355328 := by simp; omega
      have h0m : (0 : Nat) ≤ maxLen := Nat.zero_le _
      have Hr0 : Hid (Rds wr wr.heap.size A0 n0 (cells8 hd)) := Lib.hid ((H0.out.mod Hmr.out HB.out (fun _ _ h => h)).more (Nat.le_trans HB.out Hmr.out.size))
      clear hwr HF hi
      obtain ⟨wo, rfl⟩ : ∃ wo : World, wo = wr := ⟨_, rfl⟩
      go_wp2_with (at_builtin; refine wpList_app rfl (.tmp 24) (.tmp 25) _ rfl elt8 rfl (Own.lit wo 5 #[] h0m) rfl (Hr0.out.alloc (Nat.le_refl _) _) (cells8_one hd) hr1 hr2 (le_alloc _ _) ?_; intro v3 w3 HO3 HBl3 HG3; clear HG3)
      have hbel : Below wo.heap.size wo w3 := ((Below.refl _ _).alloc (Nat.le_refl _) _).trans HBl3.out
      have hwr3 : RWr w3 w.heap.size row (fnum (flds S l)) (flen (flds S l)) := Hwr.out.mod (Mod.of_below hbel) (by have := Hwr.out.lt; omega) (fun k hk h => by have := Hwr.out.row_lt k hk; omega)
      have Ho3 : Hid (Own wo.heap.size w3 5 v3 (cells8 hd)) := Lib.hid HO3.out
      have Hwr3 := Lib.hid hwr3
      have Hm3 := Lib.hid (Hmr.out.trans (mod_below hbel) (fun _ _ h => h))
      have hsz3 := hbel.size
      clear hwr3 hbel HO3 HBl3 hr1 hr2
      go_wp2_with fail
      refine (rbytes_any w.heap.size row _ _ w3 Hwr3.out (by have := flds_small (i := n1) (l := l) hS (Nat.le_of_eq Hll.out) hn1; rw [List.take_of_length_le (by rw [Hll.out]; exact Nat.le_refl _)] at this; omega)).mono ?_
      rintro e w4 ⟨v4, bs, rfl, hnew, hpk⟩
      obtain ⟨A4, c4, rfl, hr4, hm4⟩ := hnew.rds
      obtain rfl := hpk.packW
      have Hr4 := Lib.hid hr4; have Ho4 := Lib.hid (Ho3.out.mod hm4); have Hm4 := Lib.hid (Hm3.out.trans hm4 (fun _ _ h => h))
      have hpl : (packW S l).length ≤ 8000001 := by rw [packW_len, Hll.out]; have := Nat.mul_le_mul hS hn1; omega
      have Hone : Hid (∀ u ∈ cells8 (packW S l), u.oneCell' = true) := Lib.hid (cells8_one _)
      have hR4 : Room (cells8 hd).length (packW S l).length := Room.mk _ _ (by rw [cells8_length, Hhl.out]; omega)
      have HR4 := Lib.hid hR4
      have hsz4 : wo.heap.size ≤ w4.heap.size := Nat.le_trans hsz3 hm4.size
      clear hnew hpk hr4 hm4 hR4 hpl
      go_wp2_with (at_builtin; refine wpList_app rfl (.tmp 26) (.tmp 28) _ rfl elt8 rfl Ho4.out rfl Hr4.out Hone.out HR4.out.1 HR4.out.2 hsz4 ?_; intro v5 w5 HO5 HBl5 HG5; clear HG5)
      go_ret
      have ho5 := HO5.out
      rw [cells8_app] at ho5
      exact ⟨_, rfl, ho5.mono Hmr.out.size, Hm4.out.trans (Mod.of_below HBl5.out) (fun i hi h => by have := Hmr.out.size; omega)⟩
theorem rd1_getO (k : Nat) (s : Option (Nat × Nat)) : rd1 k s = getO k s := by
  cases s with
  | none => rfl
  | some p =>
    obtain ⟨R, rem⟩ := p
    rw [getO_take]
    rfl
theorem getO_lt64 {k : Nat} {s : Option (Nat × Nat)} (hk : k ≤ 64) (hs : ∀ R rem, s = some (R, rem) → R < 2 ^ rem) : (getO k s).1 < 2 ^ 64 := by
  cases s with
  | none => exact Nat.two_pow_pos 64
  | some p =>
    obtain ⟨R, rem⟩ := p
    exact Nat.lt_of_lt_of_le (getO_lt (hs R rem rfl) k) (Nat.pow_le_pow_right (by omega) hk)
theorem rdW_next (w n : Nat) (s : Option (Nat × Nat)) : rdW w (n + 1) s = rdW w n s ++ [(getO w (lfW w n s)).1] := by rw [rdW_snoc, rd1_getO]
theorem lfW_next (w n : Nat) (s : Option (Nat × Nat)) : lfW w (n + 1) s = (getO w (lfW w n s)).2 := by rw [lfW_succ, rd1_getO]
/-- What unpack has read of i numbers. -/
def UnpTo (w wr : World) (g row S : Nat) (bs : List Nat) (s0 : Option (Nat × Nat)) (i : Nat) (v : Value) : Prop :=
  Own (w.heap.size + 1) wr 32 v (cellsU (rdW S i s0)) ∧ RRdO wr g row bs (lfW S i s0) ∧ Mod (fun _ => False) w wr
set_option maxHeartbeats 4000000 in
set_option maxRecDepth 100000 in
theorem runpack_any (A : Option Addr) (n c B N S : Nat) (bs : List Nat) (w : World) (hs : Rds w B A n (cells8 bs)) (hB : B ≤ w.heap.size) (hlt : lt256 bs) (hn : n ≤ 1000000) (hN : N ≤ 65535) (hS : S ≤ 64) (hw : 0 < w.heap.size) :
    Calls Try.prog 29 #[.slice A n c, .int .i64 (N : Int), .int .i64 (S : Int)] w fun e w' => ∃ v, e = .returned v ∧ Own w.heap.size w' 32 v (cellsU (rdW S N (some (val bs, 8 * bs.length)))) ∧ Mod (fun _ => False) w w' := by
  have hbl : bs.length = n := by have := hs.1; rwa [cells8_length] at this
  obtain ⟨row, hsee, hrow⟩ := (hs.more hB).sees hw
  obtain ⟨s0, hs0⟩ : ∃ s0, s0 = some (val bs, 8 * bs.length) := ⟨_, rfl⟩
  rw [← hs0]
  obtain ⟨W, hW⟩ : ∃ W, W = w.alloc (.cells #[.slice A n c, .int .i64 0, .bool false] 78) := ⟨_, rfl⟩
  have hmW : Mod (fun _ => False) w W := by rw [hW]; exact (Mod.refl _ _).alloc _
  have hval : val bs < 2 ^ (8 * bs.length) := val_lt hlt
  have hrr : RRdO W w.heap.size row bs s0 := by
    rw [hs0]
    refine ⟨⟨A, n, c, 0, ?_, hsee.mod hmW (fun _ h => h), by omega, by omega, hn, hlt, (fun _ => ⟨by rw [hbl]; omega, (Nat.mod_eq_of_lt hval).symm⟩), fun h => by cases h⟩, hval⟩
    rw [hW]
    exact Blk.new _ _ _
  have U0 : Hid (UnpTo w W w.heap.size row S bs s0 0 (.slice none 0 0)) := Lib.hid ⟨Own.nil _ _ _, hrr, hmW⟩
  have Hrow := Lib.hid hrow; have HW := Lib.hid hW
  clear hs hB hlt hsee hval hrow hrr hmW hW hs0
  go_enter Try.func29, Try.ntmps29
  go_wp2_with fail
  rw [← HW.out]
  go_loopg [8, 9] N (fun l s8 s9 wr => ∃ i : Nat, i + l = N ∧ s9 = .int .i64 (i : Int) ∧ UnpTo w wr w.heap.size row S bs s0 i s8)
  case atStart => exact ⟨0, by omega, rfl, U0.out⟩
  case round =>
    obtain ⟨i, hil, rfl, hown, hrr, hm⟩ := hrel
    have Hown := Lib.hid hown; have Hrr := Lib.hid hrr; have Hm := Lib.hid hm; have Hil := Lib.hid hil
    clear hown hrr hm hil U0 HW
    by_cases hin : i < N
    · go_wp2_with fail
      refine (rget_o w.heap.size row S _ bs _ wr rfl hS Hrr.out).mono ?_
      rintro e w2 ⟨rfl, h2, hm2⟩
      obtain ⟨x, hx⟩ : ∃ x, x = (getO S (lfW S i s0)).1 := ⟨_, rfl⟩
      rw [← hx]
      have Hx : Hid (rdW S (i + 1) s0 = rdW S i s0 ++ [x]) := Lib.hid (by rw [hx]; exact rdW_next S i s0)
      rw [← lfW_next] at h2
      have Hrr2 := Lib.hid h2
      have Hown2 : Hid (Own (w.heap.size + 1) w2 32 u8 (cellsU (rdW S i s0))) := Lib.hid (hm2.owns Hown.out (fun k hk e => by have := (Hown.out.block k hk).1; omega))
      have Hm2 := Lib.hid (Hm.out.trans hm2 (fun i hi h => by omega))
      have hsz : w.heap.size + 1 ≤ w2.heap.size := by have := h2.lt; omega
      have hr1 : (cellsU (rdW S i s0)).length + 1 ≤ maxLen := by rw [cellsU_length, rdW_len]; unfold maxLen; omega
      have hr2 : ((cellsU (rdW S i s0)).length + 1) * 8 ≤ 140737488355328 := by rw [cellsU_length, rdW_len]; omega
      have Hr1 := Lib.hid hr1; have Hr2 := Lib.hid hr2
      clear hx h2 hm2 hr1 hr2 Hown Hrr Hm
      go_wp2_with (at_builtin; refine wpList_app1 rfl (.tmp 18) (.tmp 22) _ rfl eltU rfl Hown2.out rfl rfl rfl Hr1.out Hr2.out hsz ?_; intro v' w3 HO HBl)
      have HU : Hid (UnpTo w w3 w.heap.size row S bs s0 (i + 1) v') := Lib.hid ⟨by rw [Hx.out, cellsU_snoc]; exact HO.out, Hrr2.out.mod (Mod.of_below HBl.out) (by omega) (fun _ => by have := Hrow.out; omega), Hm2.out.trans (Mod.of_below HBl.out) (fun i hi h => by omega)⟩
      clear HO HBl
      go_roundg (gk - 1)
      case measure => have := Hil.out; omega
      case rel => exact ⟨i + 1, by have := Hil.out; omega, by go_num, HU.out⟩
    · have hi : i = N := by have := Hil.out; omega
      subst hi
      go_wp2_with fail
      go_ret
      exact ⟨_, rfl, Hown.out.mono (by omega), Hm.out⟩
end Go.Proofs.Ytldjobaafambbaa

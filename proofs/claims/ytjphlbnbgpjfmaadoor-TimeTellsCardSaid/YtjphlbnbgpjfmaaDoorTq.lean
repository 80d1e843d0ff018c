/- TimeTells' walk. -/
import Derived.Test.YtjphlbnbgpjfmaaDoorTt
import Derived.Test.YtjphlbnbgpjfmaaDoorRh
import Derived.Test.YtjphlbnbgpjfmaaDoorPlay0
import Derived.Test.YtjphlbnbgpjfmaaDoorConv
import Derived.Test.YtjphlbnbgpjfmaaDoorOw
import Derived.Test.YtjphlbnbgpjfmaaDoorRefb
import Derived.Deep.RegionWith
namespace Go.Proofs.YtjphlbnbgpjfmaaDoor
open Go.RowKit

theorem tells_long (A0 A2 : Option Addr) (n0 c0 n2 c2 : Nat) (rough : Bool) (at' by_ n : Int) (w : World) (hwid : Wid w) (h : 200 < n2) :
    Calls Tryd.prog 4 #[.slice A0 n0 c0, .bool rough, .slice A2 n2 c2, .int .i64 at', .int .u8 by_, .int .i64 n] w fun e w' => e = .returned (.bool true) ∧ Mod (fun _ => False) w w' := by
  have Hwid := Lib.hid hwid
  clear hwid
  go_enter Tryd.func4, Tryd.ntmps4
  go_wp2_with fail
  refine (awake_any _ Hwid.out).mono ?_
  rintro e w1 ⟨rfl, hm⟩
  have Hm := Lib.hid hm
  clear hm
  go_wp2_with fail
  go_ret
  exact ⟨rfl, Hm.out⟩
theorem Wr.packed {w : World} {g N L : Nat} {row : Option Nat} (h : Wr w g row N L) : ∃ bs, Packed bs N L := by
  obtain ⟨free, hf, v, bs, _, _, _, hlt, hl, hv, _⟩ := h
  exact ⟨bs, hlt, free, hf, hl, hv⟩
theorem u_form {B : Nat} {w : World} {v : Value} {bs : List Nat} (h : Own B w 5 v (cells8 bs)) : ∃ A c, v = .slice A bs.length c ∧ (A = none → c = 0) ∧ bs.length ≤ c ∧ (0 < bs.length → ∃ g, A = some ⟨g, 0, none⟩ ∧ B ≤ g ∧ g < w.heap.size) := by
  obtain ⟨A, c, e, hA, hc, _, _⟩ := h.form
  rw [cells8_length] at e hc
  refine ⟨A, c, e, hA, hc, fun h0 => ?_⟩
  obtain ⟨g, cap, e2, hB, hg⟩ := h.form' (by rw [cells8_length]; exact h0)
  rw [e] at e2
  injection e2 with e2
  exact ⟨g, e2, hB, hg⟩
/-- The two writers at the same bits. -/
structure Both (w0 w : World) (a : Nat) (ra : Option Nat) (b : Nat) (rb : Option Nat) (N L : Nat) : Prop where
  wa : Wr w a ra N L
  wb : RWr w b rb N L
  mod : Mod (fun _ => False) w0 w
theorem Both.new {w0 w w' : World} {a b N L : Nat} {ra rb : Option Nat} (h : Both w0 w a ra b rb N L) (hm : Mod (fun _ => False) w w') : Both w0 w' a ra b rb N L :=
  ⟨h.wa.mod hm (fun h => h) (fun _ _ h => h), h.wb.mod hm (fun h => h) (fun _ _ h => h), h.mod.trans hm (fun _ _ h => h)⟩
theorem RWr.len {w : World} {g N L : Nat} {row : Option Nat} (h : RWr w g row N L) : ∃ Ax cx, w.cell? ⟨g, 0, none⟩ = some (.slice Ax L cx) := by
  obtain ⟨sv, l, hblk, hown, _, _, hL, _⟩ := h
  have hc0 := hblk.cell 0
  simp at hc0
  rcases hown.2 with ⟨h1, h2⟩ | ⟨g', cap, cur, h1, _⟩
  · exact ⟨none, 0, by rw [hc0, h1, ← hL, h2]⟩
  · exact ⟨_, cap, by rw [hc0, h1, hL]⟩
theorem Sees.take {w : World} {row n k : Nat} {A : Option Addr} {bs : List Nat} (h : Sees w row A n (cells8 bs)) (hk : k ≤ n) : Sees w row A k (cells8 (bs.take k)) := by
  have hl := h.1
  rw [cells8_length] at hl
  refine ⟨by rw [cells8_length, List.length_take]; omega, fun h0 => ?_⟩
  obtain ⟨o, e, hlt, hc⟩ := h.2 (by omega)
  refine ⟨o, e, hlt, fun j u hu => hc j u ?_⟩
  rw [cells8_take, List.getElem?_take] at hu
  split at hu
  · exact hu
  · cases hu
theorem RRd.real {w : World} {g row R rem : Nat} {bs : List Nat} {ok : Bool} (h : RRd w g row bs R rem ok) (hg : g ≠ 0) (h0 : 0 < w.heap.size) : ∃ row', row' < w.heap.size ∧ (row' = row ∨ row' = 0) ∧ RRd w g row' bs R rem ok := by
  have h' := h
  obtain ⟨A, n, c, a, hblk, hs, hne, rest⟩ := h
  rcases Nat.eq_zero_or_pos n with hn | hn
  · subst hn
    exact ⟨0, h0, .inr rfl, A, 0, c, a, hblk, ⟨hs.1, fun h => by omega⟩, fun e => hg e.symm, rest⟩
  · obtain ⟨o, _, hl, _⟩ := hs.2 hn
    exact ⟨row, hl, .inl rfl, h'⟩
/-- Four rows of bytes in a literal. -/
def Rows4 (w : World) (lit : Nat) : Prop := lit < w.heap.size ∧ ∀ j, j < 4 → ∃ (A : Option Addr) (n c row : Nat) (cs : List Nat), w.cell? ⟨lit, j, none⟩ = some (.slice A n c) ∧ Sees w row A n (cells8 cs) ∧ (A = none → c = 0) ∧ n ≤ 1000 ∧ lt256 cs
theorem Rows4.mod {w w' : World} {lit : Nat} (h : Rows4 w lit) (hm : Mod (fun _ => False) w w') : Rows4 w' lit := by
  refine ⟨Nat.lt_of_lt_of_le h.1 hm.size, fun j hj => ?_⟩
  obtain ⟨A, n, c, row, cs, h1, h2, h3⟩ := h.2 j hj
  exact ⟨A, n, c, row, cs, (hm.cell (a := ⟨lit, j, none⟩) h.1 (fun h => h)).trans h1, h2.mod hm (fun _ h => h), h3⟩
/-- Four numbers in a literal. -/
def Nums4 (w : World) (lit : Nat) : Prop := lit < w.heap.size ∧ ∀ j, j < 4 → ∃ m : Int, FitI m ∧ w.cell? ⟨lit, j, none⟩ = some (.int .i64 m)
theorem Nums4.mod {w w' : World} {lit : Nat} (h : Nums4 w lit) (hm : Mod (fun _ => False) w w') : Nums4 w' lit := by
  refine ⟨Nat.lt_of_lt_of_le h.1 hm.size, fun j hj => ?_⟩
  obtain ⟨m, h1, h2⟩ := h.2 j hj
  exact ⟨m, h1, (hm.cell (a := ⟨lit, j, none⟩) h.1 (fun h => h)).trans h2⟩
theorem rows4_new {w : World} {e : TypeId} {A0 A1 A2 : Option Addr} {n0 c0 r0 n1 c1 r1 c2 r2 k : Nat} {b0 b1 b2 : List Nat} (h0 : Sees w r0 A0 n0 (cells8 b0)) (a0 : A0 = none → c0 = 0) (l0 : n0 ≤ 1000) (t0 : lt256 b0)
    (h1 : Sees w r1 A1 n1 (cells8 b1)) (a1 : A1 = none → c1 = 0) (l1 : n1 ≤ 1000) (t1 : lt256 b1) (h2 : Sees w r2 A2 n1 (cells8 b2)) (a2 : A2 = none → c2 = 0) (t2 : lt256 b2) (hk : k ≤ n1) :
    Rows4 (w.alloc (.cells #[.slice A0 n0 c0, .slice A1 n1 c1, .slice A2 n1 c2, .slice A1 k c1] e)) w.heap.size := by
  have hm : Mod (fun _ => False) w (w.alloc (.cells #[.slice A0 n0 c0, .slice A1 n1 c1, .slice A2 n1 c2, .slice A1 k c1] e)) := (Mod.refl _ _).alloc _
  have hb := Blk.new w e #[.slice A0 n0 c0, .slice A1 n1 c1, .slice A2 n1 c2, .slice A1 k c1]
  refine ⟨hb.lt, fun j hj => ?_⟩
  have hj' : j = 0 ∨ j = 1 ∨ j = 2 ∨ j = 3 := by omega
  rcases hj' with rfl | rfl | rfl | rfl
  · exact ⟨A0, n0, c0, r0, b0, hb.cell 0, h0.mod hm (fun _ h => h), a0, l0, t0⟩
  · exact ⟨A1, n1, c1, r1, b1, hb.cell 1, h1.mod hm (fun _ h => h), a1, l1, t1⟩
  · exact ⟨A2, n1, c2, r2, b2, hb.cell 2, h2.mod hm (fun _ h => h), a2, l1, t2⟩
  · exact ⟨A1, k, c1, r1, b1.take k, hb.cell 3, (h1.take hk).mod hm (fun _ h => h), a1, by omega, lt256_take t1 k⟩
theorem nums4_new {w : World} {e : TypeId} {m0 m1 m2 m3 : Int} (h0 : FitI m0) (h1 : FitI m1) (h2 : FitI m2) (h3 : FitI m3) : Nums4 (w.alloc (.cells #[.int .i64 m0, .int .i64 m1, .int .i64 m2, .int .i64 m3] e)) w.heap.size := by
  have hb := Blk.new w e #[.int .i64 m0, .int .i64 m1, .int .i64 m2, .int .i64 m3]
  refine ⟨hb.lt, fun j hj => ?_⟩
  have hj' : j = 0 ∨ j = 1 ∨ j = 2 ∨ j = 3 := by omega
  rcases hj' with rfl | rfl | rfl | rfl
  · exact ⟨m0, h0, hb.cell 0⟩
  · exact ⟨m1, h1, hb.cell 1⟩
  · exact ⟨m2, h2, hb.cell 2⟩
  · exact ⟨m3, h3, hb.cell 3⟩
theorem sees_own {B : Nat} {w : World} {A : Option Addr} {n c : Nat} {bs : List Nat} (h : Own B w 5 (.slice A n c) (cells8 bs)) (hn : bs.length = n) : ∃ row, Sees w row A n (cells8 bs) := by
  have h' : w.ownsRow B 5 1 (.slice A n c) n (cells8 bs) := by
    have := h; unfold Own at this; rwa [cells8_length, hn] at this
  rcases Nat.eq_zero_or_pos n with h0 | h0
  · subst h0
    exact ⟨0, by rw [cells8_length]; exact hn, fun h => by omega⟩
  · obtain ⟨g, cap, e, _, _⟩ := h.form' (by rw [cells8_length]; omega)
    injection e with e1 e2 e3
    subst e1
    exact ⟨g, Sees.of_own h' (fun _ => rfl)⟩
set_option maxHeartbeats 16000000 in
set_option maxRecDepth 100000 in
theorem tells_walk (A0 A2 : Option Addr) (n0 c0 n2 c2 : Nat) (zs : List Int) (rs : List Nat) (rowr : Nat) (rough : Bool) (at' n : Int) (by_ : Nat) (w : World) (hs : SeesI .i64 w w.heap.size A0 n0 zs) (hz : ∀ x ∈ zs, FitI x)
    (hr : Sees w rowr A2 n2 (cells8 rs)) (hrl : lt256 rs) (hrA : A2 = none → c2 = 0) (hat : FitI at') (hn : FitI n) (hby : by_ < 256) (hwid : Wid w) (h200 : ¬ 200 < n2) :
    Calls Tryd.prog 4 #[.slice A0 n0 c0, .bool rough, .slice A2 n2 c2, .int .i64 at', .int .u8 (by_ : Int), .int .i64 n] w fun e w' => e = .returned (.bool true) ∧ Mod (fun _ => False) w w' := by
  have Hs := Lib.hid hs; have Hz := Lib.hid hz; have Hr := Lib.hid hr; have Hrl := Lib.hid hrl; have HrA := Lib.hid hrA; have Hat := Lib.hid hat; have Hn := Lib.hid hn; have Hwid := Lib.hid hwid; have Hby := Lib.hid hby
  clear hs hz hr hrl hrA hat hn hwid hby
  go_enter Tryd.func4, Tryd.ntmps4
  go_wp2_with fail
  refine (times_any A0 n0 c0 zs rough _ Hs.out Hz.out).mono ?_
  rintro e w1 ⟨v, ts, rfl, hown, hl60, hf, hm1⟩
  obtain ⟨A1, c1, rfl, hr1⟩ := own_form hown
  have Hf := Lib.hid hf; have Hm1 := Lib.hid hm1; have Hr1 := Lib.hid hr1
  have Hwid1 := Lib.hid (Hwid.out.mod hm1 (fun h => h))
  clear hown hf hm1 hr1 Hs Hz
  go_wp2_with fail
  refine (written_any ts.length c1 A1 ts _ Hr1.out Hf.out Hwid1.out (by omega)).mono ?_
  rintro e w2 ⟨a, ra, rfl, hw2, hg2, hrow2, hm2⟩
  have hlen := encRow_len ts
  obtain ⟨L, hL⟩ : ∃ L, L = flen (encRow ts) := ⟨_, rfl⟩
  obtain ⟨N, hN⟩ : ∃ N, N = fnum (encRow ts) := ⟨_, rfl⟩
  have hLb : L ≤ 4144 := by omega
  rw [← hL, ← hN] at hw2
  obtain ⟨w3, hw3⟩ : ∃ w3, w3 = w2.alloc (.cells #[.slice none 0 0] 44) := ⟨_, rfl⟩
  have hm3 : Mod (fun _ => False) w2 w3 := by rw [hw3]; exact (Mod.refl _ _).alloc _
  have hwb3 : RWr w3 w2.heap.size none 0 0 := by rw [hw3]; exact ⟨.slice none 0 0, [], Blk.new _ _ _, World.ownsRow_nil _ _ _ _, rfl, (fun _ h => by cases h), rfl, rfl⟩
  have hsee : SeesI .i64 w3 w1.heap.size A1 ts.length ts := by
    have h := (Hr1.out.new (hm2.trans hm3 (fun _ _ h => h)))
    refine ⟨rfl, fun h0 => ?_⟩
    obtain ⟨ad, e1, hb, hc⟩ := h.2 h0
    exact ⟨ad, e1, hb, fun j u hu => hc j _ (by rw [cellsI_get, hu]; rfl)⟩
  have hab : a < w2.heap.size := hw2.lt
  have hrab : ∀ k, ra = some k → k < w2.heap.size := hw2.row_lt
  have Hwa3 := Lib.hid (hw2.mod hm3 (fun h => h) (fun _ _ h => h)); have Hwb3 := Lib.hid hwb3; have Hsee := Lib.hid hsee; have Hw3 := Lib.hid hw3
  have HL := Lib.hid hL; have HN := Lib.hid hN
  have Hm3 := Lib.hid ((Hm1.out.trans hm2 (fun _ _ h => h)).trans hm3 (fun _ _ h => h))
  have Hs13 : Hid (w1.heap.size ≤ w2.heap.size ∧ w1.heap.size ≤ w3.heap.size) := Lib.hid ⟨hm2.size, Nat.le_trans hm2.size hm3.size⟩
  have Hab : Hid (a < w2.heap.size ∧ (∀ k, ra = some k → k < w2.heap.size) ∧ w.heap.size ≤ w2.heap.size) := Lib.hid ⟨hab, hrab, by have := Hm1.out.size; have := hm2.size; omega⟩
  clear hw2 hg2 hrow2 hm2 hlen hL hN hw3 hm3 hwb3 hsee hab hrab
  go_wp2_with fail
  rw [← Hw3.out]
  clear Hw3
  generalize w2.heap.size = b at *
  refine (rtimes_any w1.heap.size b none 0 0 ts.length c1 A1 ts w3 Hsee.out Hf.out Hs13.out.2 (fun h0 ad e h => by
    obtain ⟨ad', e', hb, _⟩ := Hsee.out.2 h0
    rw [e] at e'
    injection e' with e'
    subst e'
    rcases h with h | h
    · have := Hs13.out.1; omega
    · cases h) Hwb3.out (by omega)).mono ?_
  rintro e w4 ⟨rfl, rb, hwb4, hm4, hrt4⟩
  rw [← HL.out, ← HN.out, Nat.zero_add, Nat.zero_mul, Nat.zero_add] at hwb4
  have HB : Hid (Both w w4 a ra b rb N L) := Lib.hid ⟨Hwa3.out.mod hm4 (fun h => h.elim (fun e => by have := Hab.out.1; omega) (fun e => by cases e)) (fun k hk h => h.elim (fun e => by have := Hab.out.2.1 k hk; omega) (fun e => by cases e)), hwb4,
    Hm3.out.trans hm4 (fun i hi h => h.elim (fun e => by have := Hab.out.2.2; omega) (fun e => by cases e))⟩
  have Hr4 : Hid (Rds w4 w1.heap.size A1 ts.length (cellsI ts)) := Lib.hid ⟨cellsI_length ts, fun h0 => by
    obtain ⟨ad, e1, hb, hc⟩ := Hsee.out.2 h0
    refine ⟨ad, e1, hb, fun j u hu => ?_⟩
    rw [cellsI_get] at hu
    obtain ⟨x, hx, rfl⟩ := Option.map_eq_some_iff.1 hu
    rw [hm4.cell (a := ad.add j) (by rw [add_block]; have := Hs13.out.2; omega) (fun h => by
      rw [add_block] at h
      rcases h with h | h
      · have := Hs13.out.1; omega
      · cases h)]
    exact hc j x hx⟩
  clear hwb4 hm4 hrt4 Hwa3 Hwb3 Hsee Hm3 Hr1
  obtain ⟨Ax, cx, hx0⟩ := HB.out.wb.len
  obtain ⟨bs, hpk⟩ := HB.out.wa.packed
  obtain ⟨s, hs⟩ : ∃ s, s = strOf bs := ⟨_, rfl⟩
  have hbl : bs.length ≤ 1000 := by have := packed_len hpk; omega
  have Hpk := Lib.hid hpk; have Hss := Lib.hid hs
  have cLen : Hid (∀ W, Mod (fun _ => False) w4 W → Calls Tryd.prog 16 #[.pointer (some ⟨a, 0, none⟩)] W fun e W' => e = .returned (.int .i64 (L : Int)) ∧ Mod (fun _ => False) w4 W') := Lib.hid (fun W hW =>
    (len_ab a ra N L W (HB.out.new hW).wa (by omega)).mono fun _ _ ⟨h1, h2⟩ => ⟨h1, hW.trans h2 (fun _ _ h => h)⟩)
  have cBy : Hid (∀ W, Mod (fun _ => False) w4 W → Calls Tryd.prog 9 #[.pointer (some ⟨a, 0, none⟩)] W fun e W' => ∃ Ab cb, e = .returned (.slice Ab bs.length cb) ∧ Mod (fun _ => False) w4 W' ∧ Mod (fun _ => False) W W' ∧
      ∀ W2, Mod (fun _ => False) W' W2 → (convert 31 9 (.slice Ab bs.length cb)).run Tryd.prog W2 = .ok (.string s) W2) := Lib.hid (fun W hW => by
    refine (bytes_any a ra N L W (HB.out.new hW).wa (by omega)).mono ?_
    rintro e W' ⟨v, bs', rfl, hnew, hpk'⟩
    obtain rfl := packed_one Hpk.out hpk'
    obtain ⟨Ab, cb, rw', rfl, _, hAb, _, _, hsb⟩ := hnew.form
    exact ⟨Ab, cb, rfl, hW.trans hnew.2.1 (fun _ _ h => h), hnew.2.1, fun W2 hW2 => by rw [Hss.out]; exact conv_seen W2 (hsb.mod hW2 (fun _ h => h)) hpk'.1 hAb⟩)
  have cRBy : Hid (∀ W, Mod (fun _ => False) w4 W → Calls Tryd.prog 17 #[.pointer (some ⟨b, 0, none⟩)] W fun e W' => ∃ Ab cb, e = .returned (.slice Ab bs.length cb) ∧ Mod (fun _ => False) w4 W' ∧ Mod (fun _ => False) W W' ∧
      ∀ W2, Mod (fun _ => False) W' W2 → (convert 31 9 (.slice Ab bs.length cb)).run Tryd.prog W2 = .ok (.string s) W2) := Lib.hid (fun W hW => by
    refine (rbytes_any b rb N L W (HB.out.new hW).wb (by omega)).mono ?_
    rintro e W' ⟨v, bs', rfl, hnew, hpk'⟩
    obtain rfl := packed_one Hpk.out hpk'
    obtain ⟨Ab, cb, rw', rfl, _, hAb, _, _, hsb⟩ := hnew.form
    exact ⟨Ab, cb, rfl, hW.trans hnew.2.1 (fun _ _ h => h), hnew.2.1, fun W2 hW2 => by rw [Hss.out]; exact conv_seen W2 (hsb.mod hW2 (fun _ h => h)) hpk'.1 hAb⟩)
  have S4 : Hid (Mod (fun _ => False) w4 w4.drew) := Lib.hid (Mod.refl _ _).drew
  have hX : ∀ W, Mod (fun _ => False) w4 W → Mod (fun _ => False) w4 W ∧ W.cell? ⟨b, 0, none⟩ = some (.slice Ax L cx) := fun W hW => ⟨hW, (hW.cell (a := ⟨b, 0, none⟩) HB.out.wb.lt (fun h => h)).trans hx0⟩
  have HX := Lib.hid hX
  clear hpk hs hX
  go_upto_region 7 with fail
  go_cut [67] (fun s67 wc => s67 = .bool false ∧ Mod (fun _ => False) w4 wc)
  case first =>
    clear hx0
    go_region_held_law (fun w' => Mod (fun _ => False) w4 w' ∧ w'.cell? ⟨b, 0, none⟩ = some (.slice Ax L cx)) (first | exact HX.out _ S7.out | exact HX.out _ S6.out | exact HX.out _ S5.out | exact HX.out _ S4.out)
      (first
        | (go_at_call 16; refine (cLen.out _ S4.out).mono ?_; rintro e w5 ⟨rfl, hm5⟩; have S5 := Lib.hid hm5; clear hm5)
        | (go_at_call 9; refine (cBy.out _ (by first | exact S7.out | exact S5.out)).mono ?_; rintro e w6 ⟨A6, c6, rfl, hm6, hst6, hcv6⟩; have S6 := Lib.hid hm6; have C6 := Lib.hid hcv6; have cv6 := C6.out _ (Mod.refl _ _); (try (have cv76 := C7.out _ hst6)); clear hm6 hcv6 hst6)
        | (go_at_call 17; refine (cRBy.out _ (by first | exact S6.out | exact S5.out)).mono ?_; rintro e w7 ⟨A7, c7, rfl, hm7, hst7, hcv7⟩; have S7 := Lib.hid hm7; have C7 := Lib.hid hcv7; have cv7 := C7.out _ (Mod.refl _ _); (try (have cv67 := C6.out _ hst7)); clear hm7 hcv7 hst7))
    all_goals
      go_wp2_with fail
      go_meet
      first
        | exact ⟨rfl, S7.out⟩
        | exact ⟨rfl, S6.out⟩
  case rest =>
    obtain ⟨rfl, hm8⟩ := hcut
    have HB8 := Lib.hid (HB.out.new hm8); have Hm48 := Lib.hid hm8
    clear hm8 cLen cBy cRBy S4 HX hx0 HB
    go_wp2_with fail
    refine (rbytes_any b rb N L _ HB8.out.wb (by omega)).mono ?_
    rintro e w9 ⟨v, bs', rfl, hnew, hpk'⟩
    obtain rfl := packed_one Hpk.out hpk'
    obtain ⟨Ab, cb, rowb, rfl, hcb, hAb, hrb1, _, hsb⟩ := hnew.form
    have hrb := Rds.of_own hnew.1
    have Hm49 := Lib.hid (Hm48.out.trans hnew.2.1 (fun _ _ h => h))
    have HMw := Lib.hid (HB8.out.mod.trans hnew.2.1 (fun _ _ h => h))
    have Hsb := Lib.hid hsb; have HAb := Lib.hid hAb; have Hrb := Lib.hid hrb
    have Hcb := Lib.hid hcb
    clear hnew hpk' hsb hAb hrb hcb hrb1 Hm48 HB8 Hss
    have hr1 : ([] : List Value).length + bs'.length ≤ maxLen := by unfold maxLen; simp; omega
    have hr2 : (([] : List Value).length + bs'.length) * 1 ≤ 140737488355328 := by simp; omega
    have h0m : (0 : Nat) ≤ maxLen := Nat.zero_le _
    go_upto_if 75 with (at_builtin; refine wpList_app rfl (.tmp 70) (.tmp 71) _ rfl elt8 rfl (Own.lit w9 5 #[] h0m) rfl (Hrb.out.alloc (Nat.le_refl _) _) (cells8_one bs') hr1 hr2 (le_alloc _ _) ?_; intro v' w10 HO HBl HG; clear HG; obtain ⟨Au, cu, rfl, hAu⟩ := u_form HO.out; have HAu := Lib.hid hAu; clear hAu)
    have Hm10 : Hid (Mod (fun _ => False) w9 w10) := Lib.hid (((Mod.refl (fun _ => False) w9).alloc _).trans (Mod.of_below HBl.out) (fun i hi h => by omega))
    go_cut [19] (fun s19 wc => ∃ (k : Nat) (us : List Nat), s19 = .int .i64 (k : Int) ∧ k ≤ bs'.length ∧ us.length = bs'.length ∧ lt256 us ∧ Own w9.heap.size wc 5 (.slice Au bs'.length cu) (cells8 us) ∧ Mod (fun _ => False) w9 wc)
    case first =>
      clear hr1 hr2 h0m
      by_cases h0 : 0 < bs'.length
      · obtain ⟨gu, rfl, hgB, hgl⟩ := HAu.out.2.2 h0
        obtain ⟨x, hx, hx4⟩ : ∃ x : Nat, bits .and .i64 at' 65535 = (x : Int) ∧ x < 65536 := and_nat at' 65535 16 rfl (by omega)
        obtain ⟨k, hk, hkl⟩ : ∃ k : Nat, (x : Int) % (bs'.length : Int) = (k : Int) ∧ k < bs'.length := ⟨x % bs'.length, by rw [Int.natCast_emod], Nat.mod_lt _ h0⟩
        have hown : Own w9.heap.size w10 5 (.slice (some ⟨gu, 0, none⟩) bs'.length cu) (cells8 bs') := HO.out
        obtain ⟨⟨u0, hu0⟩, hfz, hset⟩ := own_set (b := by_) hown rfl hkl
        have hk0 : (0 : Int) ≤ (k : Int) := by omega
        have hk1 : (k : Int) < (bs'.length : Int) := by omega
        have hkk : k ≤ bs'.length := by omega
        have Hset := Lib.hid hset
        have Hgg : Hid (w9.heap.size ≤ gu) := Lib.hid hgB
        clear hset hown hgB hgl
        go_wp2_with fail
        go_meet
        case rel => exact ⟨k, bs'.set k by_, rfl, hkk, by simp, (fun z hz => (List.mem_or_eq_of_mem_set hz).elim (fun h => Hpk.out.1 z h) (fun h => h ▸ Hby.out)), Hset.out, Hm10.out.setCell (fun h => absurd h (by have := Hgg.out; simp; omega)) _⟩
      · go_wp2_with fail
        go_meet
        case rel => exact ⟨0, bs', rfl, Nat.zero_le _, rfl, Hpk.out.1, HO.out, Hm10.out⟩
    case rest =>
      obtain ⟨k, us, rfl, hkl, hul, hult, hown, hmc⟩ := hcut
      have Hmc := Lib.hid (HMw.out.trans hmc (fun _ _ h => h))
      have hkc : (k : Int) ≤ (cb : Int) := by have := Hcb.out; omega
      have hk0 : (0 : Int) ≤ (k : Int) := by omega
      obtain ⟨ru, hsu⟩ := sees_own hown hul
      have HR4 : Hid (Rows4 (wc.alloc (.cells #[.slice A2 n2 c2, .slice Ab bs'.length cb, .slice Au bs'.length cu, .slice Ab k cb] 31)) wc.heap.size) := Lib.hid (rows4_new (Hr.out.mod Hmc.out (fun _ h => h)) HrA.out (by omega) Hrl.out (Hsb.out.mod hmc (fun _ h => h)) HAb.out hbl Hpk.out.1 hsu HAu.out.1 hult hkl)
      obtain ⟨wL, hwL⟩ : ∃ wL, wL = wc.alloc (.cells #[.slice A2 n2 c2, .slice Ab bs'.length cb, .slice Au bs'.length cu, .slice Ab k cb] 31) := ⟨_, rfl⟩
      rw [← hwL] at HR4
      have HmL : Hid (Mod (fun _ => False) w wL) := Lib.hid (by rw [hwL]; exact Hmc.out.alloc _)
      have HWL := Lib.hid hwL
      clear hown hmc hsu hult hwL hul HO HBl HAu Hm10 hr1 hr2 h0m Hrb Hsb HAb Hcb Hm49 HMw Hr4 Hpk Hr Hrl HrA Hmc HL HN Hab Hs13 Hwid1 Hf Hm1 Hat Hby
      go_wp2_with fail
      rw [← HWL.out]
      clear HWL
      generalize wc.heap.size = lit at *
      go_loopg [93] 4 (fun l s93 wr => ∃ j : Nat, j + l = 4 ∧ s93 = .int .i64 (j : Int) ∧ Mod (fun _ => False) wL wr)
      case atStart => exact ⟨0, rfl, rfl, Mod.refl _ _⟩
      case round =>
        obtain ⟨j, hjl, rfl, hm⟩ := hrel
        have Hm := Lib.hid hm; have Hjl := Lib.hid hjl
        clear hm hjl
        by_cases hl0 : gk = 0
        · have hj : ¬ j < 4 := by have := Hjl.out; omega
          go_wp2_with fail
          refine (awake_any _ (Hwid.out.mod (HmL.out.trans Hm.out (fun _ _ h => h)) (fun h => h))).mono ?_
          rintro e wf ⟨rfl, hmf⟩
          have Hmf := Lib.hid ((HmL.out.trans Hm.out (fun _ _ h => h)).trans hmf (fun _ _ h => h))
          clear hmf
          go_wp2_with fail
          go_ret
          exact ⟨rfl, Hmf.out⟩
        · have hj : j < 4 := by have := Hjl.out; omega
          have hj0 : (0 : Int) ≤ (j : Int) := by omega
          have hjb : decide ((j : Int) < 4) = true := by simp; omega
          obtain ⟨A, nc, cc, row, cs, hcell, hsc, hA, hnc, hlt⟩ := (HR4.out.mod Hm.out).2 j hj
          obtain ⟨nm, hnm, hnm64⟩ : ∃ nm : Nat, bits .and .i64 n 63 = (nm : Int) ∧ nm < 64 := and_nat n 63 6 rfl (by omega)
          have HN4 : Hid (Nums4 (wr.alloc (.cells #[.int .i64 n, .int .i64 (nm : Int), .int .i64 (ts.length : Int), .int .i64 (-1)] 3)) wr.heap.size) := Lib.hid (nums4_new Hn.out ⟨by omega, by omega⟩ ⟨by omega, by omega⟩ ⟨by decide, by decide⟩)
          obtain ⟨wI, hwI⟩ : ∃ wI, wI = wr.alloc (.cells #[.int .i64 n, .int .i64 (nm : Int), .int .i64 (ts.length : Int), .int .i64 (-1)] 3) := ⟨_, rfl⟩
          rw [← hwI] at HN4
          have hmI : Mod (fun _ => False) wr wI := by rw [hwI]; exact (Mod.refl _ _).alloc _
          have HmI := Lib.hid (Hm.out.trans hmI (fun _ _ h => h)); have HWI := Lib.hid hwI; have Hsc := Lib.hid (hsc.mod hmI (fun _ h => h)); have HA := Lib.hid hA; have Hlt := Lib.hid hlt
          clear hsc hA hlt hwI hmI
          go_wp2_with fail
          rw [← HWI.out]
          clear HWI hcell
          generalize wr.heap.size = lit2 at *
          obtain ⟨go, rfl⟩ : ∃ go : Nat, go = gk := ⟨_, rfl⟩
          have hgo : 0 < go := by omega
          clear hl0
          go_loopg [104] 4 (fun l s104 wq => ∃ i : Nat, i + l = 4 ∧ s104 = .int .i64 (i : Int) ∧ Mod (fun _ => False) wI wq)
          case atStart => exact ⟨0, rfl, rfl, Mod.refl _ _⟩
          case round =>
            obtain ⟨i, hil, rfl, hm⟩ := hrel
            have Hm2 := Lib.hid hm; have Hil := Lib.hid hil
            clear hm hil
            by_cases hl0 : gk = 0
            · have hi : ¬ i < 4 := by have := Hil.out; omega
              go_wp2_with fail
              go_roundg (go - 1)
              case measure => omega
              case rel => exact ⟨j + 1, by have := Hjl.out; omega, by go_num, HmI.out.trans Hm2.out (fun _ _ h => h)⟩
            · have hi : i < 4 := by have := Hil.out; omega
              have hi0 : (0 : Int) ≤ (i : Int) := by omega
              obtain ⟨m, hmf, hcell⟩ := (HN4.out.mod Hm2.out).2 i hi
              go_wp2_with fail
              refine (newReader_any row A nc cc cs _ (Hsc.out.mod Hm2.out (fun _ h => h)) HA.out (by omega) Hlt.out).mono ?_
              rintro e w5 ⟨g, rg, rfl, hg, hrg, hm5, hrd⟩
              have hscw := Hsc.out.mod Hm2.out (fun _ h => h)
              obtain ⟨rg', rh, hS⟩ := RS.start (c := cc) Hm2.out hm5 hg hrd rfl hscw Hlt.out hnc
              obtain ⟨w6, hw6⟩ : ∃ w6, w6 = w5.alloc (.cells #[.slice A nc cc, .int .i64 0, .bool false] 50) := ⟨_, rfl⟩
              rw [← hw6] at hS
              have HS := Lib.hid hS; have HW6 := Lib.hid hw6
              clear hS hw6 hg hrg hm5 hrd hscw hcell
              obtain ⟨k, hk, hk65⟩ : ∃ k : Nat, max 0 (min m 65535) = (k : Int) ∧ k ≤ 65535 := ⟨(max 0 (min m 65535)).toNat, by omega, by omega⟩
              have Hk := Lib.hid hk
              clear hk
              go_wp2_with fail
              rw [← HW6.out]
              clear HW6
              generalize w5.heap.size = h at *
              have Hwid6 := Lib.hid (Hwid.out.mod (HmL.out.trans (HmI.out.trans HS.out.mod (fun _ _ h => h)) (fun _ _ h => h)) (fun h => h))
              have HwI0 : Hid (0 < wI.heap.size) := Lib.hid (Nat.lt_of_lt_of_le Hwid.out.1 (HmL.out.trans HmI.out (fun _ _ h => h)).size)
              have hg0 : g ≠ 0 := by have := HS.out.hg; have := HwI0.out; omega
              have hh0 : h ≠ 0 := by have := HS.out.hh; have := HwI0.out; omega
              obtain ⟨row1, hrow1, hr1e, hrd1⟩ := HS.out.rd.real hg0 Hwid6.out.1
              obtain ⟨row2, hrow2, hr2e, hrd2⟩ := HS.out.rr.real hh0 Hwid6.out.1
              have Hgh : Hid (h ≠ g ∧ row2 ≠ g ∧ row1 ≠ h) := Lib.hid ⟨fun e => HS.out.ne e.symm, by rcases hr2e with rfl | rfl; exact HS.out.ne2; exact fun e => hg0 e.symm, by rcases hr1e with rfl | rfl; exact HS.out.ne1; exact fun e => hh0 e.symm⟩
              have Hrd1 := Lib.hid hrd1; have Hrd2 := Lib.hid hrd2; have Hrow1 := Lib.hid hrow1; have Hrow2 := Lib.hid hrow2
              have Hsm := Lib.hid hrd1.small
              clear hrd1 hrd2 hrow1 hrow2 hr1e hr2e hmf
              refine (decode_any g row1 (val cs) (8 * nc) k m _ Hk.out Hrd1.out (by omega) Hrow1.out Hwid6.out hg0).mono ?_
              intro e w7 hd7
              cases hrow : rdRow k (val cs) (8 * nc) with
              | none =>
                have Hrowe := Lib.hid hrow
                clear hrow
                obtain ⟨rfl, _, hm7⟩ := hd7.none_ Hrowe.out
                have Hm7 := Lib.hid (HS.out.mod.trans hm7 (fun i hi e => by have := HS.out.hg; omega))
                have Hr7 := Lib.hid (Hrd2.out.mod hm7 Hgh.out.1 (fun _ => Hgh.out.2.1))
                have Hrow7 : Hid (row2 < w7.heap.size) := Lib.hid (Nat.lt_of_lt_of_le Hrow2.out hm7.size)
                clear hd7 hm7 Hrd1 Hrd2 Hrow1 Hrow2
                go_wp2_with fail
                refine (gettimes_any h row2 (val cs) (8 * nc) k cs m _ Hk.out Hr7.out Hsm.out Hrow7.out).mono ?_
                intro e w8 hd8
                rw [Hrowe.out] at hd8
                obtain ⟨rfl, hm8⟩ := hd8
                have Hm8 := Lib.hid (Hm7.out.trans hm8 (fun i hi e => by have := HS.out.hh; omega))
                clear hm8 Hm7 Hr7
                go_wp2_with fail
                refine (same_any none none 0 0 0 0 0 [] _ (Rds.nil _ _ _) (Rds.nil _ _ _) (by decide)).mono ?_
                rintro e w9 ⟨rfl, hm9⟩
                have Hm9 := Lib.hid (Hm8.out.trans hm9 (fun _ _ h => h))
                clear hm9 Hm8
                go_wp2_with fail
                go_roundg (gk - 1)
                case measure => omega
                case rel => exact ⟨i + 1, by have := Hil.out; omega, by go_num, Hm9.out⟩
              | some p =>
                obtain ⟨xs, R', rem'⟩ := p
                have Hrowe := Lib.hid hrow
                obtain ⟨hxl, _, hR', hrem'⟩ := rdRow_some hrow Hsm.out
                clear hrow
                obtain ⟨v, rfl, hown, hro, hm7⟩ := hd7.some_ Hrowe.out
                obtain ⟨A7, c7, rfl, hr7⟩ := own_form hown
                have hxk : xs.length = k := hxl
                have Hm7 := Lib.hid (HS.out.mod.trans hm7 (fun i hi e => by have := HS.out.hg; omega))
                have Hr7 := Lib.hid (Hrd2.out.mod hm7 Hgh.out.1 (fun _ => Hgh.out.2.1))
                have Hrow7 : Hid (row2 < w7.heap.size) := Lib.hid (Nat.lt_of_lt_of_le Hrow2.out hm7.size)
                have Hy7 := Lib.hid hown; have Hro := Lib.hid hro.1
                have Hs67 : Hid (w6.heap.size ≤ w7.heap.size) := Lib.hid hm7.size
                have Hxk : Hid (xs.length ≤ 1000000) := Lib.hid (by omega)
                have hrem8 : Hid (rem' ≤ 8000000000) := Lib.hid (by simp only at hrem'; omega)
                have Hhl : Hid (h < w6.heap.size) := Lib.hid Hrd2.out.lt'
                clear hd7 hm7 Hrd1 Hrd2 Hrow2 hown hro hr7 hxl hxk hR' hrem'
                go_wp2_with fail
                refine (gettimes_any h row2 (val cs) (8 * nc) k cs m _ Hk.out Hr7.out Hsm.out Hrow7.out).mono ?_
                intro e w8 hd8
                rw [Hrowe.out] at hd8
                obtain ⟨v, rfl, hown, hro, hm8⟩ := hd8
                obtain ⟨A8, c8, rfl, hr8⟩ := own_form hown
                have hy8 : Own w6.heap.size w8 2 (.slice A7 xs.length c7) (cellsI xs) := hm8.owns Hy7.out (fun q hq e => by have := (Hy7.out.block q hq).1; have := Hhl.out; omega)
                have Hy8 := Lib.hid (by
                  obtain ⟨A', c', e', hr'⟩ := own_form hy8
                  injection e' with e1 e2 e3
                  subst e1
                  exact hr' : Rds w8 w8.heap.size A7 xs.length (cellsI xs))
                have Hr8 := Lib.hid hr8
                have Hm8 := Lib.hid (Hm7.out.trans hm8 (fun i hi e => by have := HS.out.hh; omega))
                have Hro8 := Lib.hid (Hro.out.mod hm8 (fun e => Hgh.out.1 e.symm) (fun _ e => Hgh.out.2.2 e))
                have Hrr8 := Lib.hid hro.1
                clear hown hro hm8 hr8 hy8 Hm7 Hr7 Hro Hy7
                go_wp2_with fail
                refine (same_any A7 A8 xs.length c7 c8 _ _ xs _ Hy8.out Hr8.out Hxk.out).mono ?_
                rintro e w9 ⟨rfl, hm9⟩
                have Hm9 := Lib.hid (Hm8.out.trans hm9 (fun _ _ h => h)); have Hro9 := Lib.hid (Hro8.out.mod hm9 (fun h => h) (fun _ h => h)); have Hrr9 := Lib.hid (Hrr8.out.mod hm9 (fun h => h) (fun _ h => h))
                clear hm9 Hm8 Hro8 Hrr8 Hy8 Hr8
                go_wp2_with fail
                refine (left_ab g row1 R' rem' true _ Hro9.out hrem8.out).mono ?_
                rintro e w10 ⟨rfl, hm10⟩
                have Hm10 := Lib.hid (Hm9.out.trans hm10 (fun _ _ h => h)); have Hrr10 := Lib.hid (Hrr9.out.mod hm10 (fun h => h) (fun _ h => h))
                clear hm10 Hm9 Hro9 Hrr9
                go_wp2_with fail
                refine (rleft_ab h row2 R' rem' cs true _ Hrr10.out).mono ?_
                rintro e w11 ⟨rfl, hm11⟩
                have Hm11 := Lib.hid (Hm10.out.trans hm11 (fun _ _ h => h))
                clear hm11 Hm10 Hrr10
                go_wp2_with fail
                go_roundg (gk - 1)
                case measure => omega
                case rel => exact ⟨i + 1, by have := Hil.out; omega, by go_num, Hm11.out⟩
end Go.Proofs.YtjphlbnbgpjfmaaDoor

/- The texts Mpa, Mob, one behind the other. -/
import Derived.Test.YtejnhdenehkpmaaMk1
import Derived.Test.YtejnhdenehkpmaaMk3
import Derived.Test.YtejnhdenehkpmaaMk5
import Derived.Test.YtejnhdenehkpmaaMk2
import Derived.Test.YtejnhdenehkpmaaMk6
import Derived.Test.YtejnhdenehkpmaaMk4
import Derived.Deep.CutBlock
/- ModlPlays: the walk. -/
namespace Go.Proofs.Ytejnhdenehkpmaa
open Go.RowKit

/-- Both hands have come to one model. -/
def PlyTo (w wr : World) (g h i : Nat) : Prop := ∃ (M : ModN) (N : Int) (A : Option Addr) (n c : Nat) (A2 : Option Addr) (n2 c2 : Nat) (E : Option Addr) (k d : Nat) (E2 : Option Addr) (k2 d2 : Nat), Blk wr g 31 #[.slice A n c, .slice A2 n2 c2, .int .i64 N] ∧ Blk wr h 31 #[.slice E k d, .slice E2 k2 d2, .int .i64 N] ∧ HavM 0 wr (.slice A n c) (.slice A2 n2 c2) M ∧ HavM 0 wr (.slice E k d) (.slice E2 k2 d2) M ∧ KeepM M ∧ LenM M i ∧ M.next = N ∧ N ≤ (i : Int) ∧ Mod (fun _ => False) w wr
theorem bool_dec {b0 bb : Bool} {p : Prop} [Decidable p] (h : b0 = true ↔ p) (hb : decide p = bb) : b0 = bb := by
  subst hb
  cases b0 <;> simp_all
/-- Two models' structs are written anew. -/
theorem lay_both {w3 : World} {G4 G5 : Nat} {a0 b0 c0 d0 e0 f0 : Value} (hb4 : Blk w3 G4 31 #[a0, b0, c0]) (hb5 : Blk w3 G5 31 #[d0, e0, f0]) (hne : ¬ G4 = G5) (a b c d e f : Value) :
    ∃ W, W = (((((w3.setCell ⟨G4, 0, none⟩ a).setCell ⟨G4, 1, none⟩ b).setCell ⟨G4, 2, none⟩ c).setCell ⟨G5, 0, none⟩ d).setCell ⟨G5, 1, none⟩ e).setCell ⟨G5, 2, none⟩ f ∧ Blk W G4 31 #[a, b, c] ∧ Blk W G5 31 #[d, e, f] ∧ Mod (fun j => j = G4 ∨ j = G5) w3 W ∧ Far (fun j => j = G4 ∨ j = G5) w3 := by
  have k1 := (hb4.three a b c).2.2.2
  have m1 := Mod.three_one w3 G4 a b c
  have k2 := m1.blk hb5 (fun h => hne h.symm)
  have k3 := (k2.three d e f).2.2.2
  have m2 := Mod.three_one (((w3.setCell ⟨G4, 0, none⟩ a).setCell ⟨G4, 1, none⟩ b).setCell ⟨G4, 2, none⟩ c) G5 d e f
  refine ⟨_, rfl, m2.blk k1 hne, k3, (m1.mono (fun _ _ h => .inl h)).trans m2 (fun _ _ h => .inr h), ?_⟩
  rintro k t cs hk ht (rfl | rfl)
  · exact Far.one hb4 (by decide) (by decide) (by decide) _ t cs hk ht rfl
  · exact Far.one hb5 (by decide) (by decide) (by decide) _ t cs hk ht rfl
theorem hav_len {B : Nat} {w : World} {A A2 : Option Addr} {n c n2 c2 : Nat} {m : ModN} (h : HavM B w (.slice A n c) (.slice A2 n2 c2) m) (hK : KeepM m) : n ≤ 1000 ∧ n2 ≤ 1000 := by
  have h1 := h.rdm.lens
  have h2 := keep_len hK
  have h3 := hK.2.2.1
  omega
set_option linter.unusedSimpArgs false in
set_option maxHeartbeats 4000000 in
set_option maxRecDepth 100000 in
theorem mplays_walk (A0 A1 : Option Addr) (n0 c0 n1 c1 : Nat) (zs : List Int) (ops : List OpN) (w : World) (hs : SeesI .i64 w w.heap.size A0 n0 zs) (hz : ∀ x ∈ zs, FitI x) (hr : RdsK 8 w w.heap.size A1 n1 (ops.map opC)) (hg : ∀ o ∈ ops, GoodO o) :
    Calls Try.prog 6 #[.slice A0 n0 c0, .slice A1 n1 c1] w fun e w' => e = .returned (.bool true) ∧ Mod (fun _ => False) w w' := by
  have Haw : Hid (∀ W, Calls Try.prog 10 #[] W fun e w' => e = .returned (.bool true) ∧ Mod (fun _ => False) W w') := Lib.hid mawake_any
  obtain ⟨W1, hW1⟩ : ∃ W, W = (w.alloc (.cells #[.slice none 0 0, .slice none 0 0, .int .i64 0] 31)).alloc (.cells #[.slice none 0 0, .slice none 0 0, .int .i64 0] 31) := ⟨_, rfl⟩
  obtain ⟨g5, hg5⟩ : ∃ g, g = w.heap.size := ⟨_, rfl⟩
  obtain ⟨g6, hg6⟩ : ∃ g, g = w.heap.size + 1 := ⟨_, rfl⟩
  have hb5 : Blk W1 g5 31 #[.slice none 0 0, .slice none 0 0, .int .i64 0] := by rw [hW1, hg5]; exact (Blk.new _ _ _).alloc _
  have hb6 : Blk W1 g6 31 #[.slice none 0 0, .slice none 0 0, .int .i64 0] := by
    rw [hW1, hg6]
    have h := Blk.new (w.alloc (.cells #[.slice none 0 0, .slice none 0 0, .int .i64 0] 31)) 31 #[.slice none 0 0, .slice none 0 0, .int .i64 0]
    simpa using h
  have hm1 : Mod (fun _ => False) w W1 := by rw [hW1]; exact ((Mod.refl _ _).alloc _).alloc _
  have Hs := Lib.hid hs; have Hz := Lib.hid hz; have Hr := Lib.hid hr; have Hgd := Lib.hid hg; have HW1 := Lib.hid hW1; have Hg5 := Lib.hid hg5; have Hg6 := Lib.hid hg6; have Hb5 := Lib.hid hb5; have Hb6 := Lib.hid hb6; have Hm1 := Lib.hid hm1
  have Hg0 : Hid (w.heap.size ≤ g5 ∧ g6 = g5 + 1) := Lib.hid (by omega)
  clear hs hz hr hg hW1 hg5 hg6 hb5 hb6 hm1
  go_enter Try.func6, Try.ntmps6
  go_upto_region 2 with fail
  rw [← HW1.out, ← Hg6.out, ← Hg5.out]
  go_wp2_with fail
  go_loopg [7] 120 (fun gk s7 wr => ∃ i : Nat, i + gk = 120 ∧ s7 = .int .i64 (i : Int) ∧ PlyTo w wr g5 g6 i)
  case atStart => exact ⟨0, by omega, rfl, .nil, 0, none, 0, 0, none, 0, 0, none, 0, 0, none, 0, 0, Hb5.out, Hb6.out, HavM.nil _ _, HavM.nil _ _, KeepM.nil, LenM.nil 0, rfl, by decide, Hm1.out⟩
  case round =>
    obtain ⟨i, hik, rfl, M, N, A, n, c, A2, n2, c2, E, k, d, E2, k2, d2, hb5, hb6, hM, hX, hK, hL, hN, hNi, hm⟩ := hrel
    have Hik := Lib.hid hik; have HM := Lib.hid hM; have HX0 := Lib.hid hX; have HK := Lib.hid hK; have HL := Lib.hid hL; have HN := Lib.hid hN; have HNi := Lib.hid hNi; have Hm := Lib.hid hm; have Hbm := Lib.hid hb5; have Hbx := Lib.hid hb6
    have hi120 : i ≤ 120 := by omega
    clear hik hM hX hK hL hN hNi hm hb5 hb6 Hb5 Hb6 Hm1 HW1
    by_cases hin : i < n0 ∧ i < 120
    · obtain ⟨hi0, hi6⟩ := hin
      obtain ⟨ad, x, rfl, hx, hcx⟩ := Hs.out.at_ hi0 (Nat.le_refl _) Hm.out (fun _ _ h => h)
      have hfx := fits_fit (Hz.out x (List.mem_of_getElem? hx))
      obtain ⟨o0, ho0⟩ : ∃ o, opN x (i : Int) = o := ⟨_, rfl⟩
      have hgo0 := opN_good x (i : Int) (by omega)
      rw [ho0] at hgo0
      have Hop : Hid (Calls Try.prog 12 #[.int .i64 x, .int .i64 (i : Int)] wr fun e w' => e = .returned (.agg #[.int .i64 o0.kind, .int .i64 o0.series, .int .i64 o0.iter, .int .i64 o0.t, .int .u64 (o0.v : Int), .int .i64 o0.from_, .int .i64 o0.to_, .int .i64 o0.n]) ∧ Mod (fun _ => False) wr w') := Lib.hid (by
        rw [← ho0]
        exact op_any x (i : Int) hfx (by omega) wr)
      have Hgo0 := Lib.hid hgo0
      have hi0i : (i : Int) < (n0 : Int) := by omega
      have hi6i : (i : Int) < 120 := by omega
      have hip : (0 : Int) ≤ (i : Int) := by omega
      obtain ⟨y, hy⟩ : ∃ y, x / 268435456 % 4 = y := ⟨_, rfl⟩
      have m1 : bits .and .i64 (x / 268435456) 3 = y := (i64_and3 _).trans hy
      have Hlx : Hid (ad.block < w.heap.size) := Lib.hid (by
        obtain ⟨ad', e', hb, _⟩ := Hs.out.2 (by omega)
        injection e' with e'
        rw [e']; exact hb)
      clear hx hfx ho0 hgo0 hy
      go_wp2_with fail
      refine Hop.out.mono ?_
      rintro e w2 ⟨rfl, hm2⟩
      obtain ⟨W2, hW2, hmo2, hbo2, hz2⟩ := Blk.box w2 24 #[.int .i64 o0.kind, .int .i64 o0.series, .int .i64 o0.iter, .int .i64 o0.t, .int .u64 (o0.v : Int), .int .i64 o0.from_, .int .i64 o0.to_, .int .i64 o0.n]
      obtain ⟨g8, hg8⟩ : ∃ g, g = w2.heap.size := ⟨_, rfl⟩
      rw [← hg8] at hbo2
      have h2 := hm2.trans hmo2 (fun _ _ h => h)
      have hcx2 : W2.cell? (ad.add i) = some (.int .i64 x) := (h2.cell (a := ad.add i) (World.block_lt_of_cell? wr _ hcx) (fun h => h)).trans hcx
      have Hm2 := Lib.hid h2; have Hbo2 := Lib.hid hbo2; have HW2 := Lib.hid hW2; have Hg8 := Lib.hid hg8; have Hg8l : Hid (wr.heap.size ≤ g8) := Lib.hid (by rw [hg8]; exact hm2.size)
      clear hm2 hW2 hmo2 hbo2 hz2 hg8 h2 hcx Hop
      go_upto_region 6 with fail
      rw [← HW2.out, ← Hg8.out]
      clear HW2 Hg8
      go_cut [41] from 29 to 41 (fun s41 wx => ∃ tt : Bool, s41 = .bool tt ∧ (tt = true → i < n1) ∧ wx = W2)
      case first =>
        by_cases hy1 : y = 0
        · have hyb : (y == 0) = true := by simp [hy1]
          by_cases hi1 : i < n1
          · have hi1i : (i : Int) < (n1 : Int) := by omega
            clear hy1
            go_wp2_with fail
            go_meet
            case rel => exact ⟨true, by simp, fun _ => hi1, rfl⟩
          · have hi1i : ¬ (i : Int) < (n1 : Int) := by omega
            clear hy1
            go_wp2_with fail
            go_meet
            case rel => exact ⟨false, by simp, (fun h => Bool.noConfusion h), rfl⟩
        · have hyb : (y == 0) = false := by simp [hy1]
          clear hy1
          go_wp2_with fail
          go_meet
          case rel => exact ⟨false, by simp, (fun h => Bool.noConfusion h), rfl⟩
      case rest =>
       obtain ⟨tt, rfl, htt, hwc⟩ := hcut
       rw [hwc]
       clear hwc
       have Htt := Lib.hid htt
       clear htt
       go_upto_if 41 with fail
       go_cut [8] from 42 to 45 (fun s8 wx => s8 = .pointer (some ⟨g8, 0, none⟩) ∧ ∃ o : OpN, Blk wx g8 24 #[.int .i64 o.kind, .int .i64 o.series, .int .i64 o.iter, .int .i64 o.t, .int .u64 (o.v : Int), .int .i64 o.from_, .int .i64 o.to_, .int .i64 o.n] ∧ Fits o.t ∧ o.v < 2 ^ 64 ∧ Mod (fun j => j = g8) W2 wx)
       case first =>
        cases tt with
        | true =>
          have hi1 : i < n1 := Htt.out rfl
          have hi1i : (i : Int) < (n1 : Int) := by omega
          obtain ⟨ad2, r, rfl, had2, hp, _, hcl⟩ := (Hr.out.mod (Hm.out.trans Hm2.out (fun _ _ h => h)) (Nat.le_refl _) (fun _ _ h => h)).at_ hi1 (by decide)
          obtain ⟨o, ho, rfl⟩ : ∃ o, ops[i]? = some o ∧ opC o = r := by
            rw [List.getElem?_map] at hp
            exact Option.map_eq_some_iff.1 hp
          have hgo := Hgd.out o (List.mem_of_getElem? ho)
          have c0' := hcl 0 _ rfl
          have c1' := hcl 1 _ rfl
          have c2' := hcl 2 _ rfl
          have c3' := hcl 3 _ rfl
          have c4' := hcl 4 _ rfl
          have c5' := hcl 5 _ rfl
          have c6' := hcl 6 _ rfl
          have c7' := hcl 7 _ rfl
          have had : ∀ j, 0 < j → (⟨(ad2.add (i * 8)).block, (ad2.add (i * 8)).off + j, none⟩ : Addr) = ad2.add (i * 8 + j) := fun j hj => by rw [add_field, if_neg (by omega)]
          rw [Nat.add_zero] at c0'
          rw [← had 1 (by decide)] at c1'
          rw [← had 2 (by decide)] at c2'
          rw [← had 3 (by decide)] at c3'
          rw [← had 4 (by decide)] at c4'
          rw [← had 5 (by decide)] at c5'
          rw [← had 6 (by decide)] at c6'
          rw [← had 7 (by decide)] at c7'
          obtain ⟨W3, hW3, hb3, hm3⟩ := lay_eight Hbo2.out (.int .i64 o.kind) (.int .i64 o.series) (.int .i64 o.iter) (.int .i64 o.t) (.int .u64 (o.v : Int)) (.int .i64 o.from_) (.int .i64 o.to_) (.int .i64 o.n)
          have Hgo := Lib.hid hgo; have HW3 := Lib.hid hW3; have Hb3 := Lib.hid hb3; have Hm3 := Lib.hid hm3
          have t0 := Hbo2.out.cell 0
          have t1 := Hbo2.out.cell 1
          have t2 := Hbo2.out.cell 2
          have t3 := Hbo2.out.cell 3
          have t4 := Hbo2.out.cell 4
          have t5 := Hbo2.out.cell 5
          have t6 := Hbo2.out.cell 6
          have t7 := Hbo2.out.cell 7
          simp at t0 t1 t2 t3 t4 t5 t6 t7
          have f0 := Hbo2.out.frozen 0
          have f1 := Hbo2.out.frozen 1
          have f2 := Hbo2.out.frozen 2
          have f3 := Hbo2.out.frozen 3
          have f4 := Hbo2.out.frozen 4
          have f5 := Hbo2.out.frozen 5
          have f6 := Hbo2.out.frozen 6
          have f7 := Hbo2.out.frozen 7
          clear hi1 had2 hp hcl ho hgo hW3 hb3 hm3 had
          go_wp2_with fail
          rw [← HW3.out]
          go_meet
          case rel => exact ⟨rfl, o, Hb3.out, Hgo.out.1, Hgo.out.2.1, Hm3.out⟩
        | false =>
          go_wp2_with fail
          go_meet
          case rel => exact ⟨rfl, o0, Hbo2.out, Hgo0.out.1, Hgo0.out.2, Mod.refl _ _⟩
       case rest =>
        obtain ⟨rfl, o, hbo, hgt, hgv, hm3⟩ := hcut
        obtain ⟨w3, rfl⟩ : ∃ w3 : World, w3 = wc := ⟨_, rfl⟩
        have h23 : Mod (fun _ => False) wr w3 := Hm2.out.own hm3 Hg8l.out
        obtain ⟨M', N', x', y', l', hd, hN'⟩ : ∃ M' N' x' y' l', doN M o = (M', ⟨x', y', l'⟩) ∧ M'.next = N' := ⟨_, _, _, _, _, rfl, rfl⟩
        have hfa := did_facts HK.out HL.out hgt hgv hd
        have Hdo := Lib.hid (mdo_did A n c A2 n2 c2 M o N i w3 (HM.out.new h23) HK.out HL.out (by omega) (by have := HN.out; have := HNi.out; omega) HN.out hd hN')
        have Hrdo : Hid (∀ W, Mod (fun _ => False) wr W → Calls Try.prog 13 #[.agg #[.slice E k d, .slice E2 k2 d2, .int .i64 N], .agg #[.int .i64 o.kind, .int .i64 o.series, .int .i64 o.iter, .int .i64 o.t, .int .u64 (o.v : Int), .int .i64 o.from_, .int .i64 o.to_, .int .i64 o.n]] W fun e w' => DidM W w' M' N' x' y' l' e) := Lib.hid (fun W h => rdo_did E k d E2 k2 d2 M o N i W (HX0.out.new h) HK.out HL.out (by omega) (by have := HN.out; have := HNi.out; omega) HN.out hd hN')
        have Hfa := Lib.hid hfa; have HN' := Lib.hid hN'; have H23 := Lib.hid h23; have Hbo := Lib.hid hbo
        have hb3 := h23.blk Hbm.out (fun h => h)
        have x0 := hb3.cell 0
        have x1 := hb3.cell 1
        have x2 := hb3.cell 2
        simp at x0 x1 x2
        have t0 := hbo.cell 0
        have t1 := hbo.cell 1
        have t2 := hbo.cell 2
        have t3 := hbo.cell 3
        have t4 := hbo.cell 4
        have t5 := hbo.cell 5
        have t6 := hbo.cell 6
        have t7 := hbo.cell 7
        simp at t0 t1 t2 t3 t4 t5 t6 t7
        clear hbo hgt hgv hm3 h23 hd hfa hN' hb3 Hm2 Hbo2 hcx2 m1
        go_upto_region 8 with fail
        go_wp2_with fail
        refine Hdo.out.mono ?_
        rintro e w4 ⟨P, r, s, P2, r2, s2, P3, r3, s3, rfl, hM4, hS4, hm4⟩
        obtain ⟨W4, hW, hmo, hbn, hbr, hz4⟩ := lay_two w4 (.slice P r s) (.slice P2 r2 s2) (.int .i64 N') (.int .i64 x') (.int .i64 y') (.slice P3 r3 s3)
        obtain ⟨g9, hg9⟩ : ∃ g, g = w4.heap.size := ⟨_, rfl⟩
        rw [← hg9] at hbn hbr hz4
        have h34 := hm4.trans hmo (fun _ _ h => h)
        have Hg9l : Hid (wr.heap.size ≤ g9) := Lib.hid (by have := H23.out.size; have := hm4.size; omega)
        have H34 := Lib.hid (H23.out.trans h34 (fun _ _ h => h)); have HM4 := Lib.hid (hM4.new hmo); have HS4 := Lib.hid (hS4.new hmo); have Hbn := Lib.hid hbn; have Hbr := Lib.hid hbr; have HW := Lib.hid hW; have Hg9 := Lib.hid hg9; have Hbo4 := Lib.hid (h34.blk Hbo.out (fun h => h))
        clear hM4 hS4 hm4 hW hmo hbn hbr hz4 hg9 h34 x0 x1 x2 t0 t1 t2 t3 t4 t5 t6 t7 Hdo
        go_upto_region 9 with fail
        rw [← HW.out, ← Hg9.out]
        clear HW Hg9
        have hb6 := H34.out.blk Hbx.out (fun h => h)
        have x0 := hb6.cell 0
        have x1 := hb6.cell 1
        have x2 := hb6.cell 2
        simp at x0 x1 x2
        have t0 := Hbo4.out.cell 0
        have t1 := Hbo4.out.cell 1
        have t2 := Hbo4.out.cell 2
        have t3 := Hbo4.out.cell 3
        have t4 := Hbo4.out.cell 4
        have t5 := Hbo4.out.cell 5
        have t6 := Hbo4.out.cell 6
        have t7 := Hbo4.out.cell 7
        simp at t0 t1 t2 t3 t4 t5 t6 t7
        clear hb6
        go_wp2_with fail
        refine (Hrdo.out W4 H34.out).mono ?_
        rintro e w5 ⟨U, a, b, U2, a2, b2, U3, a3, b3, rfl, hX5, hT5, hm5⟩
        obtain ⟨W5, hW, hmo, hbu, hbq, hz5⟩ := lay_two w5 (.slice U a b) (.slice U2 a2 b2) (.int .i64 N') (.int .i64 x') (.int .i64 y') (.slice U3 a3 b3)
        obtain ⟨g11, hg11⟩ : ∃ g, g = w5.heap.size := ⟨_, rfl⟩
        rw [← hg11] at hbu hbq hz5
        have h45 := hm5.trans hmo (fun _ _ h => h)
        have Hg11l : Hid (wr.heap.size ≤ g11) := Lib.hid (by have := H34.out.size; have := hm5.size; omega)
        have H35 := Lib.hid (H34.out.trans h45 (fun _ _ h => h)); have HX5 := Lib.hid (hX5.new hmo); have HT5 := Lib.hid (hT5.new hmo); have HM5 := Lib.hid (HM4.out.new h45); have HS5 := Lib.hid (HS4.out.new h45); have Hbn5 := Lib.hid (h45.blk Hbn.out (fun h => h)); have Hbr5 := Lib.hid (h45.blk Hbr.out (fun h => h)); have Hbu := Lib.hid hbu; have Hbq := Lib.hid hbq; have HW := Lib.hid hW; have Hg11 := Lib.hid hg11
        have Hbm5 := Lib.hid ((H34.out.trans h45 (fun _ _ h => h)).blk Hbm.out (fun h => h)); have Hbx5 := Lib.hid ((H34.out.trans h45 (fun _ _ h => h)).blk Hbx.out (fun h => h)); have HMo := Lib.hid (HM.out.new (H34.out.trans h45 (fun _ _ h => h))); have HXo := Lib.hid (HX0.out.new (H34.out.trans h45 (fun _ _ h => h)))
        clear hX5 hT5 hm5 hW hmo hbu hbq hz5 hg11 h45 x0 x1 x2 t0 t1 t2 t3 t4 t5 t6 t7 Hrdo HM4 HS4 Hbn Hbr Hbo4 Hbo
        go_upto_region 10 with fail
        rw [← HW.out, ← Hg11.out]
        clear HW Hg11
        obtain ⟨bb, hbb⟩ : ∃ bb, decide (M = M') = bb := ⟨_, rfl⟩
        have Hbb := Lib.hid hbb
        clear hbb
        have Ln := Lib.hid (fun (W' : World) (h : Mod (fun _ => False) W5 W') => (h.blk Hbn5.out (fun h => h)))
        have Lu := Lib.hid (fun (W' : World) (h : Mod (fun _ => False) W5 W') => (h.blk Hbu.out (fun h => h)))
        have Lr := Lib.hid (fun (W' : World) (h : Mod (fun _ => False) W5 W') => (h.blk Hbr5.out (fun h => h)))
        have Lq := Lib.hid (fun (W' : World) (h : Mod (fun _ => False) W5 W') => (h.blk Hbq.out (fun h => h)))
        have Lm := Lib.hid (fun (W' : World) (h : Mod (fun _ => False) W5 W') => (h.blk Hbm5.out (fun h => h)))
        have Lx := Lib.hid (fun (W' : World) (h : Mod (fun _ => False) W5 W') => (h.blk Hbx5.out (fun h => h)))
        have KM' := Hfa.out.1
        have Cnx : Hid (∀ W', Mod (fun _ => False) W5 W' → Calls Try.prog 9 #[.agg #[.slice P r s, .slice P2 r2 s2, .int .i64 N'], .agg #[.slice U a b, .slice U2 a2 b2, .int .i64 N']] W' fun e w' => e = .returned (.bool true) ∧ Mod (fun _ => False) W5 w') := Lib.hid (fun W' h => by
          have h1 := HM5.out.new h
          have h2 := HX5.out.new h
          obtain ⟨q1, q2⟩ := hav_len h1 KM'
          have h3 := rsame_any M' M' P P2 U U2 r s r2 s2 a b a2 b2 _ _ W' h1.rdm h2.rdm q1 q2 (Hfa.out.2.1.more (by omega))
          rw [HN'.out] at h3
          refine h3.mono ?_
          rintro e w' ⟨b0, rfl, hb0, hm0⟩
          obtain rfl : b0 = true := by simpa using hb0
          exact ⟨rfl, h.trans hm0 (fun _ _ h => h)⟩)
        have Crq : Hid (∀ W', Mod (fun _ => False) W5 W' → Calls Try.prog 14 #[.agg #[.int .i64 x', .int .i64 y', .slice P3 r3 s3], .agg #[.int .i64 x', .int .i64 y', .slice U3 a3 b3]] W' fun e w' => e = .returned (.bool true) ∧ Mod (fun _ => False) W5 w') := Lib.hid (fun W' h => by
          have h1 := (HS5.out.new h).rds
          have h2 := (HT5.out.new h).rds
          refine (rsameR_any ⟨x', y', l'⟩ ⟨x', y', l'⟩ P3 U3 r3 s3 a3 b3 _ _ W' h1.2.2.2 h2.2.2.2 (by have := h1.1; have := Hfa.out.2.2.2.2.1; omega)).mono ?_
          rintro e w' ⟨b0, rfl, hb0, hm0⟩
          obtain rfl : b0 = true := by simpa using hb0
          exact ⟨rfl, h.trans hm0 (fun _ _ h => h)⟩)
        have Mrq : Hid (∀ W', Mod (fun _ => False) W5 W' → Calls Try.prog 16 #[.agg #[.int .i64 x', .int .i64 y', .slice P3 r3 s3], .agg #[.int .i64 x', .int .i64 y', .slice U3 a3 b3]] W' fun e w' => e = .returned (.bool true) ∧ Mod (fun _ => False) W5 w') := Lib.hid (fun W' h => by
          have h1 := (HS5.out.new h).rds
          have h2 := (HT5.out.new h).rds
          refine (msameR_any ⟨x', y', l'⟩ ⟨x', y', l'⟩ P3 U3 r3 s3 a3 b3 _ _ W' h1.2.2.2 h2.2.2.2 (by have := h1.1; have := Hfa.out.2.2.2.2.1; omega)).mono ?_
          rintro e w' ⟨b0, rfl, hb0, hm0⟩
          obtain rfl : b0 = true := by simpa using hb0
          exact ⟨rfl, h.trans hm0 (fun _ _ h => h)⟩)
        have Mmn : Hid (∀ W', Mod (fun _ => False) W5 W' → Calls Try.prog 15 #[.agg #[.slice A n c, .slice A2 n2 c2, .int .i64 N], .agg #[.slice P r s, .slice P2 r2 s2, .int .i64 N']] W' fun e w' => e = .returned (.bool bb) ∧ Mod (fun _ => False) W5 w') := Lib.hid (fun W' h => by
          have h1 := HMo.out.new h
          have h2 := HM5.out.new h
          obtain ⟨q1, q2⟩ := hav_len h1 HK.out
          have h3 := msame_any M M' A A2 P P2 n c n2 c2 r s r2 s2 _ _ W' h1.rdm h2.rdm q1 q2 (HL.out.more (by omega))
          rw [HN'.out, HN.out] at h3
          refine h3.mono ?_
          rintro e w' ⟨b0, rfl, hb0, hm0⟩
          obtain rfl : b0 = bb := bool_dec hb0 Hbb.out
          exact ⟨rfl, h.trans hm0 (fun _ _ h => h)⟩)
        have Cwx : Hid (∀ W', Mod (fun _ => False) W5 W' → Calls Try.prog 9 #[.agg #[.slice E k d, .slice E2 k2 d2, .int .i64 N], .agg #[.slice U a b, .slice U2 a2 b2, .int .i64 N']] W' fun e w' => e = .returned (.bool bb) ∧ Mod (fun _ => False) W5 w') := Lib.hid (fun W' h => by
          have h1 := HXo.out.new h
          have h2 := HX5.out.new h
          obtain ⟨q1, q2⟩ := hav_len h1 HK.out
          have h3 := rsame_any M M' E E2 U U2 k d k2 d2 a b a2 b2 _ _ W' h1.rdm h2.rdm q1 q2 (HL.out.more (by omega))
          rw [HN'.out, HN.out] at h3
          refine h3.mono ?_
          rintro e w' ⟨b0, rfl, hb0, hm0⟩
          obtain rfl : b0 = bb := bool_dec hb0 Hbb.out
          exact ⟨rfl, h.trans hm0 (fun _ _ h => h)⟩)
        clear KM'
        go_cut [85] from 58 to 85 (fun s85 wx => s85 = .bool false ∧ Mod (fun _ => False) W5 wx)
        case first =>
          cases bb with
          | false =>
            refine wp_region_class (fun W' => Mod (fun _ => False) W5 W') (by kernel_rfl) (by kernel_rfl) (Mod.refl _ _).drew ?_
            refine wpQuiet_step (fun K hK => ?_)
            go_simp
            refine ⟨.agg #[.slice P r s, .slice P2 r2 s2, .int .i64 N'], fun w2 h2 => ?_, hK _ ?_⟩
            · have b0 := (Ln.out w2 h2).cell 0
              have b1 := (Ln.out w2 h2).cell 1
              have b2 := (Ln.out w2 h2).cell 2
              simp at b0 b1 b2
              simp only [b0, b1, b2, Result.andThen_ok]
              exact ⟨trivial, trivial⟩
            clear hK K
            refine wpQuiet_step (fun K hK => ?_)
            go_simp
            refine ⟨.agg #[.slice U a b, .slice U2 a2 b2, .int .i64 N'], fun w2 h2 => ?_, hK _ ?_⟩
            · have b0 := (Lu.out w2 h2).cell 0
              have b1 := (Lu.out w2 h2).cell 1
              have b2 := (Lu.out w2 h2).cell 2
              simp at b0 b1 b2
              simp only [b0, b1, b2, Result.andThen_ok]
              exact ⟨trivial, trivial⟩
            clear hK K
            refine wpQuiet_step (fun K hK => ?_)
            go_simp
            refine ⟨.bool true, fun w2 h2 => (Cnx.out w2 h2).mono ?_, hK _ ?_⟩
            · rintro e w3 ⟨rfl, hm⟩
              exact ⟨rfl, hm⟩
            clear hK K
            iterate 2 quiet_step (exact fun _ => rfl)
            refine wpQuiet_step (fun K hK => ?_)
            go_simp
            refine ⟨.agg #[.int .i64 x', .int .i64 y', .slice P3 r3 s3], fun w2 h2 => ?_, hK _ ?_⟩
            · have b0 := (Lr.out w2 h2).cell 0
              have b1 := (Lr.out w2 h2).cell 1
              have b2 := (Lr.out w2 h2).cell 2
              simp at b0 b1 b2
              simp only [b0, b1, b2, Result.andThen_ok]
              exact ⟨trivial, trivial⟩
            clear hK K
            refine wpQuiet_step (fun K hK => ?_)
            go_simp
            refine ⟨.agg #[.int .i64 x', .int .i64 y', .slice U3 a3 b3], fun w2 h2 => ?_, hK _ ?_⟩
            · have b0 := (Lq.out w2 h2).cell 0
              have b1 := (Lq.out w2 h2).cell 1
              have b2 := (Lq.out w2 h2).cell 2
              simp at b0 b1 b2
              simp only [b0, b1, b2, Result.andThen_ok]
              exact ⟨trivial, trivial⟩
            clear hK K
            refine wpQuiet_step (fun K hK => ?_)
            go_simp
            refine ⟨.bool true, fun w2 h2 => (Crq.out w2 h2).mono ?_, hK _ ?_⟩
            · rintro e w3 ⟨rfl, hm⟩
              exact ⟨rfl, hm⟩
            clear hK K
            iterate 3 quiet_step (exact fun _ => rfl)
            refine wpQuiet_step (fun K hK => ?_)
            go_simp
            refine ⟨.agg #[.slice A n c, .slice A2 n2 c2, .int .i64 N], fun w2 h2 => ?_, hK _ ?_⟩
            · have b0 := (Lm.out w2 h2).cell 0
              have b1 := (Lm.out w2 h2).cell 1
              have b2 := (Lm.out w2 h2).cell 2
              simp at b0 b1 b2
              simp only [b0, b1, b2, Result.andThen_ok]
              exact ⟨trivial, trivial⟩
            clear hK K
            refine wpQuiet_step (fun K hK => ?_)
            go_simp
            refine ⟨.agg #[.slice P r s, .slice P2 r2 s2, .int .i64 N'], fun w2 h2 => ?_, hK _ ?_⟩
            · have b0 := (Ln.out w2 h2).cell 0
              have b1 := (Ln.out w2 h2).cell 1
              have b2 := (Ln.out w2 h2).cell 2
              simp at b0 b1 b2
              simp only [b0, b1, b2, Result.andThen_ok]
              exact ⟨trivial, trivial⟩
            clear hK K
            refine wpQuiet_step (fun K hK => ?_)
            go_simp
            refine ⟨.bool false, fun w2 h2 => (Mmn.out w2 h2).mono ?_, hK _ ?_⟩
            · rintro e w3 ⟨rfl, hm⟩
              exact ⟨rfl, hm⟩
            clear hK K
            refine wpQuiet_step (fun K hK => ?_)
            go_simp
            refine ⟨.agg #[.slice E k d, .slice E2 k2 d2, .int .i64 N], fun w2 h2 => ?_, hK _ ?_⟩
            · have b0 := (Lx.out w2 h2).cell 0
              have b1 := (Lx.out w2 h2).cell 1
              have b2 := (Lx.out w2 h2).cell 2
              simp at b0 b1 b2
              simp only [b0, b1, b2, Result.andThen_ok]
              exact ⟨trivial, trivial⟩
            clear hK K
            refine wpQuiet_step (fun K hK => ?_)
            go_simp
            refine ⟨.agg #[.slice U a b, .slice U2 a2 b2, .int .i64 N'], fun w2 h2 => ?_, hK _ ?_⟩
            · have b0 := (Lu.out w2 h2).cell 0
              have b1 := (Lu.out w2 h2).cell 1
              have b2 := (Lu.out w2 h2).cell 2
              simp at b0 b1 b2
              simp only [b0, b1, b2, Result.andThen_ok]
              exact ⟨trivial, trivial⟩
            clear hK K
            refine wpQuiet_step (fun K hK => ?_)
            go_simp
            refine ⟨.bool false, fun w2 h2 => (Cwx.out w2 h2).mono ?_, hK _ ?_⟩
            · rintro e w3 ⟨rfl, hm⟩
              exact ⟨rfl, hm⟩
            clear hK K
            iterate 3 quiet_step (exact fun _ => rfl)
            refine wpQuiet_step (fun K hK => ?_)
            go_simp
            refine ⟨.agg #[.int .i64 x', .int .i64 y', .slice P3 r3 s3], fun w2 h2 => ?_, hK _ ?_⟩
            · have b0 := (Lr.out w2 h2).cell 0
              have b1 := (Lr.out w2 h2).cell 1
              have b2 := (Lr.out w2 h2).cell 2
              simp at b0 b1 b2
              simp only [b0, b1, b2, Result.andThen_ok]
              exact ⟨trivial, trivial⟩
            clear hK K
            refine wpQuiet_step (fun K hK => ?_)
            go_simp
            refine ⟨.agg #[.int .i64 x', .int .i64 y', .slice U3 a3 b3], fun w2 h2 => ?_, hK _ ?_⟩
            · have b0 := (Lq.out w2 h2).cell 0
              have b1 := (Lq.out w2 h2).cell 1
              have b2 := (Lq.out w2 h2).cell 2
              simp at b0 b1 b2
              simp only [b0, b1, b2, Result.andThen_ok]
              exact ⟨trivial, trivial⟩
            clear hK K
            refine wpQuiet_step (fun K hK => ?_)
            go_simp
            refine ⟨.bool true, fun w2 h2 => (Mrq.out w2 h2).mono ?_, hK _ ?_⟩
            · rintro e w3 ⟨rfl, hm⟩
              exact ⟨rfl, hm⟩
            clear hK K
            refine wpQuiet_step (fun K hK => ?_)
            go_simp
            refine ⟨.agg #[.int .i64 x', .int .i64 y', .slice P3 r3 s3], fun w2 h2 => ?_, hK _ ?_⟩
            · have b0 := (Lr.out w2 h2).cell 0
              have b1 := (Lr.out w2 h2).cell 1
              have b2 := (Lr.out w2 h2).cell 2
              simp at b0 b1 b2
              simp only [b0, b1, b2, Result.andThen_ok]
              exact ⟨trivial, trivial⟩
            clear hK K
            refine wpQuiet_step (fun K hK => ?_)
            go_simp
            refine ⟨.agg #[.int .i64 x', .int .i64 y', .slice U3 a3 b3], fun w2 h2 => ?_, hK _ ?_⟩
            · have b0 := (Lq.out w2 h2).cell 0
              have b1 := (Lq.out w2 h2).cell 1
              have b2 := (Lq.out w2 h2).cell 2
              simp at b0 b1 b2
              simp only [b0, b1, b2, Result.andThen_ok]
              exact ⟨trivial, trivial⟩
            clear hK K
            refine wpQuiet_step (fun K hK => ?_)
            go_simp
            refine ⟨.bool true, fun w2 h2 => (Crq.out w2 h2).mono ?_, hK _ ?_⟩
            · rintro e w3 ⟨rfl, hm⟩
              exact ⟨rfl, hm⟩
            clear hK K
            iterate 2 quiet_step (exact fun _ => rfl)
            refine wpQuiet_nil ?_
            intro w10 h10
            have H10 := Lib.hid h10
            clear h10
            go_wp2_with fail
            go_meet
            exact ⟨by simp, H10.out⟩
          | true =>
            refine wp_region_class (fun W' => Mod (fun _ => False) W5 W') (by kernel_rfl) (by kernel_rfl) (Mod.refl _ _).drew ?_
            refine wpQuiet_step (fun K hK => ?_)
            go_simp
            refine ⟨.agg #[.slice P r s, .slice P2 r2 s2, .int .i64 N'], fun w2 h2 => ?_, hK _ ?_⟩
            · have b0 := (Ln.out w2 h2).cell 0
              have b1 := (Ln.out w2 h2).cell 1
              have b2 := (Ln.out w2 h2).cell 2
              simp at b0 b1 b2
              simp only [b0, b1, b2, Result.andThen_ok]
              exact ⟨trivial, trivial⟩
            clear hK K
            refine wpQuiet_step (fun K hK => ?_)
            go_simp
            refine ⟨.agg #[.slice U a b, .slice U2 a2 b2, .int .i64 N'], fun w2 h2 => ?_, hK _ ?_⟩
            · have b0 := (Lu.out w2 h2).cell 0
              have b1 := (Lu.out w2 h2).cell 1
              have b2 := (Lu.out w2 h2).cell 2
              simp at b0 b1 b2
              simp only [b0, b1, b2, Result.andThen_ok]
              exact ⟨trivial, trivial⟩
            clear hK K
            refine wpQuiet_step (fun K hK => ?_)
            go_simp
            refine ⟨.bool true, fun w2 h2 => (Cnx.out w2 h2).mono ?_, hK _ ?_⟩
            · rintro e w3 ⟨rfl, hm⟩
              exact ⟨rfl, hm⟩
            clear hK K
            iterate 2 quiet_step (exact fun _ => rfl)
            refine wpQuiet_step (fun K hK => ?_)
            go_simp
            refine ⟨.agg #[.int .i64 x', .int .i64 y', .slice P3 r3 s3], fun w2 h2 => ?_, hK _ ?_⟩
            · have b0 := (Lr.out w2 h2).cell 0
              have b1 := (Lr.out w2 h2).cell 1
              have b2 := (Lr.out w2 h2).cell 2
              simp at b0 b1 b2
              simp only [b0, b1, b2, Result.andThen_ok]
              exact ⟨trivial, trivial⟩
            clear hK K
            refine wpQuiet_step (fun K hK => ?_)
            go_simp
            refine ⟨.agg #[.int .i64 x', .int .i64 y', .slice U3 a3 b3], fun w2 h2 => ?_, hK _ ?_⟩
            · have b0 := (Lq.out w2 h2).cell 0
              have b1 := (Lq.out w2 h2).cell 1
              have b2 := (Lq.out w2 h2).cell 2
              simp at b0 b1 b2
              simp only [b0, b1, b2, Result.andThen_ok]
              exact ⟨trivial, trivial⟩
            clear hK K
            refine wpQuiet_step (fun K hK => ?_)
            go_simp
            refine ⟨.bool true, fun w2 h2 => (Crq.out w2 h2).mono ?_, hK _ ?_⟩
            · rintro e w3 ⟨rfl, hm⟩
              exact ⟨rfl, hm⟩
            clear hK K
            iterate 3 quiet_step (exact fun _ => rfl)
            refine wpQuiet_step (fun K hK => ?_)
            go_simp
            refine ⟨.agg #[.slice A n c, .slice A2 n2 c2, .int .i64 N], fun w2 h2 => ?_, hK _ ?_⟩
            · have b0 := (Lm.out w2 h2).cell 0
              have b1 := (Lm.out w2 h2).cell 1
              have b2 := (Lm.out w2 h2).cell 2
              simp at b0 b1 b2
              simp only [b0, b1, b2, Result.andThen_ok]
              exact ⟨trivial, trivial⟩
            clear hK K
            refine wpQuiet_step (fun K hK => ?_)
            go_simp
            refine ⟨.agg #[.slice P r s, .slice P2 r2 s2, .int .i64 N'], fun w2 h2 => ?_, hK _ ?_⟩
            · have b0 := (Ln.out w2 h2).cell 0
              have b1 := (Ln.out w2 h2).cell 1
              have b2 := (Ln.out w2 h2).cell 2
              simp at b0 b1 b2
              simp only [b0, b1, b2, Result.andThen_ok]
              exact ⟨trivial, trivial⟩
            clear hK K
            refine wpQuiet_step (fun K hK => ?_)
            go_simp
            refine ⟨.bool true, fun w2 h2 => (Mmn.out w2 h2).mono ?_, hK _ ?_⟩
            · rintro e w3 ⟨rfl, hm⟩
              exact ⟨rfl, hm⟩
            clear hK K
            refine wpQuiet_step (fun K hK => ?_)
            go_simp
            refine ⟨.agg #[.slice E k d, .slice E2 k2 d2, .int .i64 N], fun w2 h2 => ?_, hK _ ?_⟩
            · have b0 := (Lx.out w2 h2).cell 0
              have b1 := (Lx.out w2 h2).cell 1
              have b2 := (Lx.out w2 h2).cell 2
              simp at b0 b1 b2
              simp only [b0, b1, b2, Result.andThen_ok]
              exact ⟨trivial, trivial⟩
            clear hK K
            refine wpQuiet_step (fun K hK => ?_)
            go_simp
            refine ⟨.agg #[.slice U a b, .slice U2 a2 b2, .int .i64 N'], fun w2 h2 => ?_, hK _ ?_⟩
            · have b0 := (Lu.out w2 h2).cell 0
              have b1 := (Lu.out w2 h2).cell 1
              have b2 := (Lu.out w2 h2).cell 2
              simp at b0 b1 b2
              simp only [b0, b1, b2, Result.andThen_ok]
              exact ⟨trivial, trivial⟩
            clear hK K
            refine wpQuiet_step (fun K hK => ?_)
            go_simp
            refine ⟨.bool true, fun w2 h2 => (Cwx.out w2 h2).mono ?_, hK _ ?_⟩
            · rintro e w3 ⟨rfl, hm⟩
              exact ⟨rfl, hm⟩
            clear hK K
            iterate 3 quiet_step (exact fun _ => rfl)
            refine wpQuiet_step (fun K hK => ?_)
            go_simp
            refine ⟨.agg #[.int .i64 x', .int .i64 y', .slice P3 r3 s3], fun w2 h2 => ?_, hK _ ?_⟩
            · have b0 := (Lr.out w2 h2).cell 0
              have b1 := (Lr.out w2 h2).cell 1
              have b2 := (Lr.out w2 h2).cell 2
              simp at b0 b1 b2
              simp only [b0, b1, b2, Result.andThen_ok]
              exact ⟨trivial, trivial⟩
            clear hK K
            refine wpQuiet_step (fun K hK => ?_)
            go_simp
            refine ⟨.agg #[.int .i64 x', .int .i64 y', .slice U3 a3 b3], fun w2 h2 => ?_, hK _ ?_⟩
            · have b0 := (Lq.out w2 h2).cell 0
              have b1 := (Lq.out w2 h2).cell 1
              have b2 := (Lq.out w2 h2).cell 2
              simp at b0 b1 b2
              simp only [b0, b1, b2, Result.andThen_ok]
              exact ⟨trivial, trivial⟩
            clear hK K
            refine wpQuiet_step (fun K hK => ?_)
            go_simp
            refine ⟨.bool true, fun w2 h2 => (Mrq.out w2 h2).mono ?_, hK _ ?_⟩
            · rintro e w3 ⟨rfl, hm⟩
              exact ⟨rfl, hm⟩
            clear hK K
            refine wpQuiet_step (fun K hK => ?_)
            go_simp
            refine ⟨.agg #[.int .i64 x', .int .i64 y', .slice P3 r3 s3], fun w2 h2 => ?_, hK _ ?_⟩
            · have b0 := (Lr.out w2 h2).cell 0
              have b1 := (Lr.out w2 h2).cell 1
              have b2 := (Lr.out w2 h2).cell 2
              simp at b0 b1 b2
              simp only [b0, b1, b2, Result.andThen_ok]
              exact ⟨trivial, trivial⟩
            clear hK K
            refine wpQuiet_step (fun K hK => ?_)
            go_simp
            refine ⟨.agg #[.int .i64 x', .int .i64 y', .slice U3 a3 b3], fun w2 h2 => ?_, hK _ ?_⟩
            · have b0 := (Lq.out w2 h2).cell 0
              have b1 := (Lq.out w2 h2).cell 1
              have b2 := (Lq.out w2 h2).cell 2
              simp at b0 b1 b2
              simp only [b0, b1, b2, Result.andThen_ok]
              exact ⟨trivial, trivial⟩
            clear hK K
            refine wpQuiet_step (fun K hK => ?_)
            go_simp
            refine ⟨.bool true, fun w2 h2 => (Crq.out w2 h2).mono ?_, hK _ ?_⟩
            · rintro e w3 ⟨rfl, hm⟩
              exact ⟨rfl, hm⟩
            clear hK K
            iterate 2 quiet_step (exact fun _ => rfl)
            refine wpQuiet_nil ?_
            intro w10 h10
            have H10 := Lib.hid h10
            clear h10
            go_wp2_with fail
            go_meet
            exact ⟨by simp, H10.out⟩
        case rest =>
          obtain ⟨rfl, hm6⟩ := hcut
          obtain ⟨w6, rfl⟩ : ∃ w6 : World, w6 = wc := ⟨_, rfl⟩
          have Hn6 := Lib.hid (hm6.blk Hbn5.out (fun h => h)); have Hu6 := Lib.hid (hm6.blk Hbu.out (fun h => h)); have Hm6b := Lib.hid (hm6.blk Hbm5.out (fun h => h)); have Hx6 := Lib.hid (hm6.blk Hbx5.out (fun h => h)); have HM6 := Lib.hid (HM5.out.new hm6); have HX6 := Lib.hid (HX5.out.new hm6); have H36 := Lib.hid (Hm.out.trans (H35.out.trans hm6 (fun _ _ h => h)) (fun _ _ h => h))
          have Hlt6 : Hid (g6 < g9 ∧ g6 < g11 ∧ g5 < g9 ∧ g5 < g11) := Lib.hid (by have := Hg9l.out; have := Hg11l.out; have := Hg0.out; have := Hbx.out.lt; omega)
          clear hm6 Ln Lu Lr Lq Lm Lx Cnx Crq Mrq Mmn Cwx
          go_upto_region 12 with fail
          obtain ⟨W7, hW7, hb57, hb67, hm7, hfar7⟩ := lay_both Hm6b.out Hx6.out (by have := Hg0.out; omega) (.slice P r s) (.slice P2 r2 s2) (.int .i64 N') (.slice U a b) (.slice U2 a2 b2) (.int .i64 N')
          have hn56 : ¬ g5 = g6 := by have := Hg0.out; omega
          have hn65 : ¬ g6 = g5 := fun h => hn56 h.symm
          have hn95 : ¬ g9 = g5 := by have := Hlt6.out; omega
          have hn96 : ¬ g9 = g6 := by have := Hlt6.out; omega
          have hn115 : ¬ g11 = g5 := by have := Hlt6.out; omega
          have hn116 : ¬ g11 = g6 := by have := Hlt6.out; omega
          have HW7 := Lib.hid hW7; have Hb57 := Lib.hid hb57.drew; have Hb67 := Lib.hid hb67.drew
          have HM7 := Lib.hid (((HM6.out.far hm7 hfar7).new (Mod.refl _ _).drew).mono (Nat.zero_le _)); have HX7 := Lib.hid (((HX6.out.far hm7 hfar7).new (Mod.refl _ _).drew).mono (Nat.zero_le _))
          have Hm7 : Hid (Mod (fun _ => False) w W7.drew) := Lib.hid (H36.out.trans hm7.drew (fun j hj e => by have := Hg0.out; omega))
          clear hW7 hb57 hb67 hm7 hfar7
          have x0 := Hn6.out.cell 0
          have x1 := Hn6.out.cell 1
          have x2 := Hn6.out.cell 2
          simp at x0 x1 x2
          have t0 := Hu6.out.cell 0
          have t1 := Hu6.out.cell 1
          have t2 := Hu6.out.cell 2
          simp at t0 t1 t2
          have y0 := Hm6b.out.cell 0
          have y1 := Hm6b.out.cell 1
          have y2 := Hm6b.out.cell 2
          simp at y0 y1 y2
          have p0 := Hm6b.out.frozen 0
          have p1 := Hm6b.out.frozen 1
          have p2 := Hm6b.out.frozen 2
          have z0 := Hx6.out.cell 0
          have z1 := Hx6.out.cell 1
          have z2 := Hx6.out.cell 2
          simp at z0 z1 z2
          have f0 := Hx6.out.frozen 0
          have f1 := Hx6.out.frozen 1
          have f2 := Hx6.out.frozen 2
          go_region
          all_goals (
            rw [← HW7.out]
            go_wp2_with fail
            go_roundg (gk - 1)
            case measure => have := Hik.out; omega
            case rel => exact ⟨i + 1, by have := Hik.out; omega, by go_num, M', N', P, r, s, P2, r2, s2, U, a, b, U2, a2, b2, Hb57.out, Hb67.out, HM7.out, HX7.out, Hfa.out.1, Hfa.out.2.1, HN'.out, by have := Hfa.out.2.2.2.1; have := HN.out; have := HNi.out; have := HN'.out; omega, Hm7.out⟩)
    · by_cases hi0 : i < n0
      · have hi0i : (i : Int) < (n0 : Int) := by omega
        have hi6i : ¬ (i : Int) < 120 := by omega
        clear hin hi0
        go_wp2_with fail
        refine (Haw.out wr).mono ?_
        rintro e w7 ⟨rfl, hm7⟩
        go_wp2_with fail
        go_ret
        exact ⟨rfl, Hm.out.trans hm7 (fun _ _ h => h)⟩
      · have hi0i : ¬ (i : Int) < (n0 : Int) := by omega
        clear hin hi0
        go_wp2_with fail
        refine (Haw.out wr).mono ?_
        rintro e w7 ⟨rfl, hm7⟩
        go_wp2_with fail
        go_ret
        exact ⟨rfl, Hm.out.trans hm7 (fun _ _ h => h)⟩
end Go.Proofs.Ytejnhdenehkpmaa

/- ModlOwn: the walk. -/
namespace Go.Proofs.Ytejnhdenehkpmaa
open Go.RowKit

set_option linter.unusedSimpArgs false in
set_option maxHeartbeats 8000000 in
set_option maxRecDepth 100000 in
theorem mown_walk (A0 : Option Addr) (n0 c0 : Nat) (zs : List Int) (a1 : Int) (w : World) (hs : SeesI .i64 w w.heap.size A0 n0 zs) (hz : ∀ x ∈ zs, FitI x) (ha1 : FitI a1) :
    Calls Try.prog 5 #[.slice A0 n0 c0, .int .i64 a1] w fun e w' => e = .returned (.bool true) ∧ Mod (fun _ => False) w w' := by
  have Haw : Hid (∀ W, Calls Try.prog 10 #[] W fun e w' => e = .returned (.bool true) ∧ Mod (fun _ => False) W w') := Lib.hid mawake_any
  obtain ⟨W1, hW1⟩ : ∃ W, W = (w.alloc (.cells #[.slice none 0 0, .slice none 0 0, .int .i64 0] 31)).alloc (.cells #[.slice none 0 0, .slice none 0 0, .int .i64 0] 31) := ⟨_, rfl⟩
  obtain ⟨g5, hg5⟩ : ∃ g, g = w.heap.size := ⟨_, rfl⟩
  obtain ⟨g6, hg6⟩ : ∃ g, g = w.heap.size + 1 := ⟨_, rfl⟩
  have hb5 : Blk W1 g5 31 #[.slice none 0 0, .slice none 0 0, .int .i64 0] := by rw [hW1, hg5]; exact (Blk.new _ _ _).alloc _
  have hb6 : Blk W1 g6 31 #[.slice none 0 0, .slice none 0 0, .int .i64 0] := by
    rw [hW1, hg6]
    have h := Blk.new (w.alloc (.cells #[.slice none 0 0, .slice none 0 0, .int .i64 0] 31)) 31 #[.slice none 0 0, .slice none 0 0, .int .i64 0]
    simpa using h
  have hm1 : Mod (fun _ => False) w W1 := by rw [hW1]; exact ((Mod.refl _ _).alloc _).alloc _
  have Hs := Lib.hid hs; have Hz := Lib.hid hz; have Ha1 := Lib.hid ha1; have HW1 := Lib.hid hW1; have Hg5 := Lib.hid hg5; have Hg6 := Lib.hid hg6; have Hb5 := Lib.hid hb5; have Hb6 := Lib.hid hb6; have Hm1 := Lib.hid hm1
  have Hg0 : Hid (w.heap.size ≤ g5 ∧ g6 = g5 + 1) := Lib.hid (by omega)
  clear hs hz ha1 hW1 hg5 hg6 hb5 hb6 hm1
  go_enter Try.func5, Try.ntmps5
  go_upto_region 2 with fail
  rw [← HW1.out, ← Hg6.out, ← Hg5.out]
  go_upto_block 0 with fail
  go_cut [7] from 15 to 46 (fun s7 wc => (∃ p : Int, s7 = .int .i64 p) ∧ PlyTo w wc g5 g6 50)
  case first =>
    go_wp2_with fail
    go_loopg [7] 50 (fun gk s7 wr => ∃ i : Nat, i + gk = 50 ∧ s7 = .int .i64 (i : Int) ∧ PlyTo w wr g5 g6 i)
    case atStart => exact ⟨0, by omega, rfl, .nil, 0, none, 0, 0, none, 0, 0, none, 0, 0, none, 0, 0, Hb5.out, Hb6.out, HavM.nil _ _, HavM.nil _ _, KeepM.nil, LenM.nil 0, rfl, by decide, Hm1.out⟩
    case round =>
      obtain ⟨i, hik, rfl, M, N, A, n, c, A2, n2, c2, U, a, b, U2, a2, b2, hb5, hb6, hM, hX, hK, hL, hN, hNi, hm⟩ := hrel
      have Hik := Lib.hid hik; have HM := Lib.hid hM; have HX0 := Lib.hid hX; have HK := Lib.hid hK; have HL := Lib.hid hL; have HN := Lib.hid hN; have HNi := Lib.hid hNi; have Hm := Lib.hid hm; have Hbm := Lib.hid hb5; have Hbx := Lib.hid hb6
      have hi50 : i ≤ 50 := by omega
      clear hik hM hX hK hL hN hNi hm hb5 hb6 Hb5 Hb6 Hm1 HW1
      by_cases hin : i < n0 ∧ i < 50
      · obtain ⟨hi0, hi6⟩ := hin
        obtain ⟨ad, x, rfl, hx, hcx⟩ := Hs.out.at_ hi0 (Nat.le_refl _) Hm.out (fun _ _ h => h)
        have hfx := fits_fit (Hz.out x (List.mem_of_getElem? hx))
        obtain ⟨o, ho⟩ : ∃ o, opN x (i : Int) = o := ⟨_, rfl⟩
        have hgo := opN_good x (i : Int) (by omega)
        rw [ho] at hgo
        obtain ⟨M', N', x', y', l', hd, hN'⟩ : ∃ M' N' x' y' l', doN M o = (M', ⟨x', y', l'⟩) ∧ M'.next = N' := ⟨_, _, _, _, _, rfl, rfl⟩
        have hfa := did_facts HK.out HL.out hgo.1 hgo.2 hd
        have HopA : Hid (∀ W0 : World, Calls Try.prog 12 #[.int .i64 x, .int .i64 (i : Int)] W0.drew fun e w' => e = .returned (.agg #[.int .i64 o.kind, .int .i64 o.series, .int .i64 o.iter, .int .i64 o.t, .int .u64 (o.v : Int), .int .i64 o.from_, .int .i64 o.to_, .int .i64 o.n]) ∧ Mod (fun _ => False) W0 w') := Lib.hid (fun W0 => by
          rw [← ho]
          exact (op_any x (i : Int) hfx (by omega) W0.drew).mono (fun e w' h => ⟨h.1, (Mod.refl _ W0).drew.trans h.2 (fun _ _ h => h)⟩))
        have Hdo : Hid (∀ W, Mod (fun _ => False) wr W → Calls Try.prog 8 #[.agg #[.slice A n c, .slice A2 n2 c2, .int .i64 N], .agg #[.int .i64 o.kind, .int .i64 o.series, .int .i64 o.iter, .int .i64 o.t, .int .u64 (o.v : Int), .int .i64 o.from_, .int .i64 o.to_, .int .i64 o.n]] W fun e w' => DidM W w' M' N' x' y' l' e) := Lib.hid (fun W h => mdo_did A n c A2 n2 c2 M o N i W (HM.out.new h) HK.out HL.out (by omega) (by have := HN.out; have := HNi.out; omega) HN.out hd hN')
        have HrdA : Hid (∀ W0, HavM 0 W0 (.slice U a b) (.slice U2 a2 b2) M → ∀ W, Mod (fun _ => False) W0 W → Calls Try.prog 13 #[.agg #[.slice U a b, .slice U2 a2 b2, .int .i64 N], .agg #[.int .i64 o.kind, .int .i64 o.series, .int .i64 o.iter, .int .i64 o.t, .int .u64 (o.v : Int), .int .i64 o.from_, .int .i64 o.to_, .int .i64 o.n]] W fun e w' => DidM W w' M' N' x' y' l' e) := Lib.hid (fun W0 hv W h => rdo_did U a b U2 a2 b2 M o N i W (hv.new h) HK.out HL.out (by omega) (by have := HN.out; have := HNi.out; omega) HN.out hd hN')
        have Hop := Lib.hid (HopA.out wr)
        have Hbt := Hbm
        have Hfa := Lib.hid hfa; have HN' := Lib.hid hN'
        have hi0i : (i : Int) < (n0 : Int) := by omega
        have hi6i : (i : Int) < 50 := by omega
        have hip : (0 : Int) ≤ (i : Int) := by omega
        have x0 := Hbm.out.cell 0
        have x1 := Hbm.out.cell 1
        have x2 := Hbm.out.cell 2
        simp at x0 x1 x2
        have Hcx := Lib.hid hcx
        clear hx hfx ho hgo hd hfa hN'
        go_upto_region 5 with fail
        go_cut [7] from 25 to 35 (fun s7 wx => s7 = .int .i64 (i : Int) ∧ ∃ (E : Option Addr) (k d : Nat) (E2 : Option Addr) (k2 d2 : Nat), Blk wx g5 31 #[.slice E k d, .slice E2 k2 d2, .int .i64 N'] ∧ HavM 0 wx (.slice E k d) (.slice E2 k2 d2) M' ∧ Mod (fun j => j = g5) wr wx)
        case first =>
          go_region_with (first
            | (go_at_call 8; refine (Hdo.out w4 Hm4.out).mono ?_; rintro e w5 ⟨E, k, d, E2, k2, d2, E3, k3, d3, rfl, hM5, hS5, hm5⟩; have hbo := hm5.blk (Hm4.out.blk Hbt.out (fun h => h)) (fun h => h); have y0 := hbo.cell 0; have y1 := hbo.cell 1; have y2 := hbo.cell 2; have p0 := hbo.frozen 0; have p1 := hbo.frozen 1; have p2 := hbo.frozen 2; simp at y0 y1 y2; obtain ⟨W6, hW6, hb6, hmo6, hMo6⟩ := lay_over1 hbo (.slice E k d) (.slice E2 k2 d2) (.int .i64 N'); have HM6 := Lib.hid ((hMo6 hM5).mono (Nat.zero_le _)); have Hb6 := Lib.hid hb6; have Hm6 := Lib.hid (((Hm4.out.trans hm5 (fun _ _ h => h)).mono (fun _ _ h => h.elim)).trans hmo6 (fun _ _ h => h)); have HW6 := Lib.hid hW6; clear hM5 hS5 hm5 hbo hW6 hb6 hmo6 hMo6)
            | (go_at_call 12; refine Hop.out.mono ?_; rintro e w4 ⟨rfl, hm4⟩; have hb4 := hm4.blk Hbt.out (fun h => h); have q0 := hb4.cell 0; have q1 := hb4.cell 1; have q2 := hb4.cell 2; simp at q0 q1 q2; have Hm4 := Lib.hid hm4; clear hm4 hb4))
          all_goals (
            go_wp2_with fail
            rw [← HW6.out]
            go_meet
            exact ⟨rfl, E, k, d, E2, k2, d2, Hb6.out, HM6.out, Hm6.out⟩)
        case rest =>
          obtain ⟨rfl, P, r, s, P2, r2, s2, hb5, hM5, hm5⟩ := hcut
          obtain ⟨w5, rfl⟩ : ∃ w5 : World, w5 = wc := ⟨_, rfl⟩
          clear Hop Hbt Hdo x0 x1 x2 hcx
          have hn65 : ¬ g6 = g5 := by have := Hg0.out; omega
          have hb6' := hm5.blk Hbx.out hn65
          have hX5 := HX0.out.far hm5 (Far.one Hbm.out (by decide) (by decide) (by decide))
          have hcx : w5.cell? (ad.add i) = some (.int .i64 x) := (hm5.cell (a := ad.add i) (World.block_lt_of_cell? wr _ Hcx.out) (fun e => by
            obtain ⟨ad', e', hb, _⟩ := Hs.out.2 (by omega)
            injection e' with e'
            rw [← e'] at hb
            rw [addr_block] at e
            have := Hg0.out
            omega)).trans Hcx.out
          have Hop := Lib.hid (HopA.out w5)
          have Hdo := Lib.hid (HrdA.out w5 hX5)
          have Hbt := Lib.hid hb6'
          have HM5 := Lib.hid hM5; have Hb5 := Lib.hid hb5; have Hm5 := Lib.hid hm5
          have x0 := hb6'.cell 0
          have x1 := hb6'.cell 1
          have x2 := hb6'.cell 2
          simp at x0 x1 x2
          clear hb5 hM5 hm5 hb6' hX5 hn65
          go_upto_region 6 with fail
          go_region_with (first
            | (go_at_call 13; refine (Hdo.out w4 Hm4.out).mono ?_; rintro e w5 ⟨E, k, d, E2, k2, d2, E3, k3, d3, rfl, hM5, hS5, hm5⟩; have hbo := hm5.blk (Hm4.out.blk Hbt.out (fun h => h)) (fun h => h); have y0 := hbo.cell 0; have y1 := hbo.cell 1; have y2 := hbo.cell 2; have p0 := hbo.frozen 0; have p1 := hbo.frozen 1; have p2 := hbo.frozen 2; simp at y0 y1 y2; obtain ⟨W6, hW6, hb6, hmo6, hMo6⟩ := lay_over1 hbo (.slice E k d) (.slice E2 k2 d2) (.int .i64 N'); have HM6 := Lib.hid ((hMo6 hM5).mono (Nat.zero_le _)); have Hb6 := Lib.hid hb6; have Hm6 := Lib.hid (((Hm4.out.trans hm5 (fun _ _ h => h)).mono (fun _ _ h => h.elim)).trans hmo6 (fun _ _ h => h)); have HW6 := Lib.hid hW6; clear hM5 hS5 hm5 hbo hW6 hb6 hmo6 hMo6)
            | (go_at_call 12; refine Hop.out.mono ?_; rintro e w4 ⟨rfl, hm4⟩; have hb4 := hm4.blk Hbt.out (fun h => h); have q0 := hb4.cell 0; have q1 := hb4.cell 1; have q2 := hb4.cell 2; simp at q0 q1 q2; have Hm4 := Lib.hid hm4; clear hm4 hb4))
          all_goals (
            go_wp2_with fail
            rw [← HW6.out]
            go_roundg (gk - 1)
            case measure => have := Hik.out; omega
            case rel => exact ⟨i + 1, by have := Hik.out; omega, by go_num, M', N', P, r, s, P2, r2, s2, E, k, d, E2, k2, d2, Hm6.out.blk Hb5.out (by have := Hg0.out; omega), Hb6.out, HM5.out.far Hm6.out (Far.one Hbt.out (by decide) (by decide) (by decide)), HM6.out, Hfa.out.1, Hfa.out.2.1, HN'.out, by have := Hfa.out.2.2.2.1; have := HN.out; have := HNi.out; have := HN'.out; omega, (Hm.out.own Hm5.out Hg0.out.1).own Hm6.out (by have := Hg0.out; omega)⟩)
      · have hsc : Hid (PlyTo w wr g5 g6 50) := Lib.hid ⟨M, N, A, n, c, A2, n2, c2, U, a, b, U2, a2, b2, Hbm.out, Hbx.out, HM.out, HX0.out, HK.out, HL.out.more hi50, HN.out, by have := HNi.out; omega, Hm.out⟩
        by_cases hi0 : i < n0
        · have hi0i : (i : Int) < (n0 : Int) := by omega
          have hi6i : ¬ (i : Int) < 50 := by omega
          clear hin hi0
          go_wp2_with fail
          go_meet
          exact ⟨⟨_, rfl⟩, hsc.out⟩
        · have hi0i : ¬ (i : Int) < (n0 : Int) := by omega
          clear hin hi0
          go_wp2_with fail
          go_meet
          exact ⟨⟨_, rfl⟩, hsc.out⟩
  case rest =>
    obtain ⟨⟨p7, rfl⟩, M, N, A, n, c, A2, n2, c2, U, a, b, U2, a2, b2, hb5, hb6, hM, hX, hK, hL, hN, hNi, hm⟩ := hcut
    obtain ⟨W0, rfl⟩ : ∃ W0 : World, W0 = wc := ⟨_, rfl⟩
    obtain ⟨o, ho⟩ : ∃ o, opN a1 50 = o := ⟨_, rfl⟩
    have Hop : Hid (∀ W, Mod (fun _ => False) W0 W → Calls Try.prog 12 #[.int .i64 a1, .int .i64 50] W fun e w' => e = .returned (.agg #[.int .i64 o.kind, .int .i64 o.series, .int .i64 o.iter, .int .i64 o.t, .int .u64 (o.v : Int), .int .i64 o.from_, .int .i64 o.to_, .int .i64 o.n]) ∧ Mod (fun _ => False) W w') := Lib.hid (fun W _ => by
      rw [← ho]
      exact op_any a1 50 (fits_fit Ha1.out) (by decide) W)
    obtain ⟨M', N', x', y', l', hd, hN'⟩ : ∃ M' N' x' y' l', doN M o = (M', ⟨x', y', l'⟩) ∧ M'.next = N' := ⟨_, _, _, _, _, rfl, rfl⟩
    have Hdo : Hid (∀ W, Mod (fun _ => False) W0 W → Calls Try.prog 8 #[.agg #[.slice A n c, .slice A2 n2 c2, .int .i64 N], .agg #[.int .i64 o.kind, .int .i64 o.series, .int .i64 o.iter, .int .i64 o.t, .int .u64 (o.v : Int), .int .i64 o.from_, .int .i64 o.to_, .int .i64 o.n]] W fun e w' => DidM W w' M' N' x' y' l' e) := Lib.hid (fun W h => mdo_did A n c A2 n2 c2 M o N 50 W (hM.new h) hK hL (by omega) (by omega) hN hd hN')
    have HX : Hid (∀ W', Mod (fun _ => False) W0 W' → W'.cell? ⟨g5, 0, none⟩ = some (.slice A n c) ∧ W'.cell? ⟨g5, 1, none⟩ = some (.slice A2 n2 c2) ∧ W'.cell? ⟨g5, 2, none⟩ = some (.int .i64 N)) := Lib.hid (fun W' h => by
      have h0 := (h.blk hb5 (fun h => h)).cell 0
      have h1 := (h.blk hb5 (fun h => h)).cell 1
      have h2 := (h.blk hb5 (fun h => h)).cell 2
      simp at h0 h1 h2
      exact ⟨h0, h1, h2⟩)
    have Hb5' := Lib.hid hb5; have Hb6' := Lib.hid hb6; have HM := Lib.hid hM; have HX0 := Lib.hid hX; have HK := Lib.hid hK; have HL := Lib.hid hL; have HN := Lib.hid hN; have HNi := Lib.hid hNi; have Hm := Lib.hid hm
    clear hb5 hb6 hM hX hK hL hN hNi hm ho hd hN' Hb5 Hb6 Hm1 HW1
    go_upto_region 7 with fail
    go_cut [8, 9] from 47 to 53 (fun s8 s9 wx => ∃ (ga gb : Nat) (P : Option Addr) (r s : Nat) (P2 : Option Addr) (r2 s2 : Nat) (P3 : Option Addr) (r3 s3 : Nat), s8 = .pointer (some ⟨ga, 0, none⟩) ∧ s9 = .pointer (some ⟨gb, 0, none⟩) ∧ XSt W0.heap.size W0 wx ga gb (.slice P r s) (.slice P2 r2 s2) (.int .i64 N') (.int .i64 x') (.int .i64 y') (.slice P3 r3 s3))
    case first =>
      refine wp_region_T (fun W' => W'.cell? ⟨g5, 0, none⟩ = some (.slice A n c) ∧ W'.cell? ⟨g5, 1, none⟩ = some (.slice A2 n2 c2) ∧ W'.cell? ⟨g5, 2, none⟩ = some (.int .i64 N)) 10 (by kernel_rfl) (HX.out _ (Mod.refl _ W0).drew) (fun hHeld => ?_)
      refine wpAnyT_take (i := 0) (v := ?_) rfl (by decide) (by kernel_rfl) (by kernel_rfl) (by kernel_rfl) (by kernel_rfl) (fun _ _ _ h => h) (Or.inl ⟨by rfl, ?_⟩) hHeld ?_
      rotate_left
      · (intro w hSw; (try dsimp only at hSw); go_simp; first | done | with_reducible rfl)
      simp only [Act.put, List.setIfInBounds_toArray, List.set_cons_zero, List.set_cons_succ]
      refine wpAnyT_take (i := 1) (v := ?_) rfl (by decide) (by kernel_rfl) (by kernel_rfl) (by kernel_rfl) (by kernel_rfl) (fun _ _ _ h => h) (Or.inl ⟨by rfl, ?_⟩) hHeld ?_
      rotate_left
      · (intro w hSw; (try dsimp only at hSw); go_simp; first | done | with_reducible rfl)
      simp only [Act.put, List.setIfInBounds_toArray, List.set_cons_zero, List.set_cons_succ]
      obtain ⟨w70, hw70⟩ : ∃ W, W = W0.drew := ⟨_, rfl⟩
      have Hw70 : Hid (Mod (fun _ => False) W0 w70) := Lib.hid (by rw [hw70]; exact (Mod.refl _ W0).drew)
      rw [← hw70] at hHeld ⊢
      clear hw70
      refine wpAnyT_ready (rs := [2, 7, 8]) (by kernel_rfl) (by simp) (AllReadyT.cons rfl (fun K hK => ?_) (AllReadyT.cons rfl (fun K hK => ?_) (AllReadyT.cons rfl (fun K hK => ?_) AllReadyT.nil)))
      · go_simp
        go_at_call 12
        refine (Hop.out w70 Hw70.out).mono ?_
        rintro e w702 ⟨rfl, hmn⟩
        have Hw702 := Lib.hid (Hw70.out.trans hmn (fun _ _ h => h))
        go_simp
        clear hmn
        refine hK.out _ _ (HX.out _ Hw702.out) (fun hHeld => ?_)
        clear hK K
        refine wpAnyT_ready (rs := [3, 7, 8]) (by kernel_rfl) (by simp) (AllReadyT.cons rfl (fun K hK => ?_) (AllReadyT.cons rfl (fun K hK => ?_) (AllReadyT.cons rfl (fun K hK => ?_) AllReadyT.nil)))
        · go_simp
          go_at_call 8
          refine (Hdo.out w702 Hw702.out).mono ?_
          rintro e w7023 ⟨P, r, s, P2, r2, s2, P3, r3, s3, rfl, hMn, hSn, hmn⟩
          have Hw7023 := Lib.hid (Hw702.out.trans hmn (fun _ _ h => h))
          have HMx := Lib.hid (hMn.mono Hw702.out.size)
          have HSx := Lib.hid (hSn.mono Hw702.out.size)
          clear hMn hSn
          go_simp
          clear hmn
          refine hK.out _ _ (HX.out _ Hw7023.out) (fun hHeld => ?_)
          clear hK K
          refine wpAnyT_take (i := 4) (v := ?_) rfl (by decide) (by kernel_rfl) (by kernel_rfl) (by kernel_rfl) (by kernel_rfl) (fun _ _ _ h => h) (Or.inl ⟨by rfl, ?_⟩) hHeld ?_
          rotate_left
          · (intro w hSw; (try dsimp only at hSw); go_simp; first | done | with_reducible rfl)
          simp only [Act.put, List.setIfInBounds_toArray, List.set_cons_zero, List.set_cons_succ]
          refine wpAnyT_take (i := 5) (v := ?_) rfl (by decide) (by kernel_rfl) (by kernel_rfl) (by kernel_rfl) (by kernel_rfl) (fun _ _ _ h => h) (Or.inl ⟨by rfl, ?_⟩) hHeld ?_
          rotate_left
          · (intro w hSw; (try dsimp only at hSw); go_simp; first | done | with_reducible rfl)
          simp only [Act.put, List.setIfInBounds_toArray, List.set_cons_zero, List.set_cons_succ]
          refine wpAnyT_take (i := 6) (v := ?_) rfl (by decide) (by kernel_rfl) (by kernel_rfl) (by kernel_rfl) (by kernel_rfl) (fun _ _ _ h => h) (Or.inl ⟨by rfl, ?_⟩) hHeld ?_
          rotate_left
          · (intro w hSw; (try dsimp only at hSw); go_simp; first | done | with_reducible rfl)
          simp only [Act.put, List.setIfInBounds_toArray, List.set_cons_zero, List.set_cons_succ]
          refine wpAnyT_ready (rs := [7, 8]) (by kernel_rfl) (by simp) (AllReadyT.cons rfl (fun K hK => ?_) (AllReadyT.cons rfl (fun K hK => ?_) AllReadyT.nil))
          · go_simp
            obtain ⟨w70237, hwn, hmn, hbn, hzn⟩ := Blk.box w7023 31 #[.slice none 0 0, .slice none 0 0, .int .i64 0]
            obtain ⟨ga, hg⟩ : ∃ g, g = w7023.heap.size := ⟨_, rfl⟩
            have Hgal : Hid (W0.heap.size ≤ ga) := Lib.hid (by rw [hg]; exact Hw7023.out.size)
            rw [← hg] at hbn
            rw [← hwn, ← hg]
            have Hw70237 := Lib.hid (Hw7023.out.trans hmn (fun _ _ h => h))
            have HBga := Lib.hid hbn
            clear hwn hbn hg hzn
            have HMx := Lib.hid (HMx.out.new hmn)
            have HSx := Lib.hid (HSx.out.new hmn)
            clear hmn
            refine hK.out _ _ (HX.out _ Hw70237.out) (fun hHeld => ?_)
            clear hK K
            refine wpAnyT_ready (rs := [8]) (by kernel_rfl) (by simp) (AllReadyT.cons rfl (fun K hK => ?_) AllReadyT.nil)
            · go_simp
              obtain ⟨w702378, hwn, hmn, hbn, hzn⟩ := Blk.box w70237 34 #[.int .i64 0, .int .i64 0, .slice none 0 0]
              obtain ⟨gb, hg⟩ : ∃ g, g = w70237.heap.size := ⟨_, rfl⟩
              have Hgbl : Hid (W0.heap.size ≤ gb) := Lib.hid (by rw [hg]; exact Hw70237.out.size)
              rw [← hg] at hbn
              rw [← hwn, ← hg]
              have Hw702378 := Lib.hid (Hw70237.out.trans hmn (fun _ _ h => h))
              have HBgb := Lib.hid hbn
              clear hwn hbn hg hzn
              have HBga := Lib.hid (hmn.blk HBga.out (fun h => h))
              have HMx := Lib.hid (HMx.out.new hmn)
              have HSx := Lib.hid (HSx.out.new hmn)
              clear hmn
              refine hK.out _ _ (HX.out _ Hw702378.out) (fun hHeld => ?_)
              clear hK K
              have k0 := HBga.out.cell 0
              have k1 := HBga.out.cell 1
              have k2 := HBga.out.cell 2
              simp at k0 k1 k2
              have p0 := HBga.out.frozen 0
              have p1 := HBga.out.frozen 1
              have p2 := HBga.out.frozen 2
              refine wpAnyT_ready (rs := [9]) (by kernel_rfl) (by simp) (AllReadyT.cons rfl (fun K hK => ?_) AllReadyT.nil)
              go_simp
              obtain ⟨W9, hW9, hb9, hm9, hM9⟩ := lay_over1 HBga.out (.slice P r s) (.slice P2 r2 s2) (.int .i64 N')
              rw [← hW9]
              have hab : ¬ gb = ga := fun e => by have h := HBgb.out; rw [e] at h; exact Blk.ne_ HBga.out h (by decide) rfl
              have H9 := Lib.hid (Hw702378.out.own hm9 Hgal.out)
              have HB9 := Lib.hid hb9
              have HBg := Lib.hid (hm9.blk HBgb.out hab)
              have HM9 := Lib.hid (hM9 HMx.out)
              have HS9 := Lib.hid (HSx.out.mod hm9 (fun j cs' _ hb e => by rw [e] at hb; exact Blk.ne_ HBga.out hb (by decide) rfl))
              clear hW9 hb9 hm9 hM9 k0 k1 k2 p0 p1 p2
              refine hK.out _ _ (HX.out _ H9.out) (fun hHeld => ?_)
              clear hK K hHeld
              have k0 := HBg.out.cell 0
              have k1 := HBg.out.cell 1
              have k2 := HBg.out.cell 2
              simp at k0 k1 k2
              have p0 := HBg.out.frozen 0
              have p1 := HBg.out.frozen 1
              have p2 := HBg.out.frozen 2
              refine wpAnyT_rest (by kernel_rfl) ?_
              refine wpAny_ready (rs := [10]) (by kernel_rfl) (by simp) (AllReady.cons rfl (fun K hK => ?_) AllReady.nil)
              go_simp
              refine hK _ _ ?_
              clear hK K
              refine wpAny_done (by kernel_rfl) ?_ _
              go_wp2_with fail
              go_meet
              have h3 := Mod.three_one W9 gb (.int .i64 x') (.int .i64 y') (.slice P3 r3 s3)
              exact ⟨ga, gb, P, r, s, P2, r2, s2, P3, r3, s3, rfl, rfl, h3.blk HB9.out (fun e => hab e.symm), (HBg.out.three _ _ _).2.2.2, ⟨M', HM9.out.far h3 (Far.one HBg.out (by decide) (by decide) (by decide))⟩, ⟨l', HS9.out.mod h3 (fun j cs' _ hb e => by rw [e] at hb; exact Blk.ne_ HBg.out hb (by decide) rfl)⟩, H9.out.own h3 Hgbl.out⟩
          · go_simp
            obtain ⟨w70238, hwn, hmn, hbn, hzn⟩ := Blk.box w7023 34 #[.int .i64 0, .int .i64 0, .slice none 0 0]
            obtain ⟨gb, hg⟩ : ∃ g, g = w7023.heap.size := ⟨_, rfl⟩
            have Hgbl : Hid (W0.heap.size ≤ gb) := Lib.hid (by rw [hg]; exact Hw7023.out.size)
            rw [← hg] at hbn
            rw [← hwn, ← hg]
            have Hw70238 := Lib.hid (Hw7023.out.trans hmn (fun _ _ h => h))
            have HBgb := Lib.hid hbn
            clear hwn hbn hg hzn
            have HMx := Lib.hid (HMx.out.new hmn)
            have HSx := Lib.hid (HSx.out.new hmn)
            clear hmn
            refine hK.out _ _ (HX.out _ Hw70238.out) (fun hHeld => ?_)
            clear hK K
            refine wpAnyT_ready (rs := [7]) (by kernel_rfl) (by simp) (AllReadyT.cons rfl (fun K hK => ?_) AllReadyT.nil)
            · go_simp
              obtain ⟨w702387, hwn, hmn, hbn, hzn⟩ := Blk.box w70238 31 #[.slice none 0 0, .slice none 0 0, .int .i64 0]
              obtain ⟨ga, hg⟩ : ∃ g, g = w70238.heap.size := ⟨_, rfl⟩
              have Hgal : Hid (W0.heap.size ≤ ga) := Lib.hid (by rw [hg]; exact Hw70238.out.size)
              rw [← hg] at hbn
              rw [← hwn, ← hg]
              have Hw702387 := Lib.hid (Hw70238.out.trans hmn (fun _ _ h => h))
              have HBga := Lib.hid hbn
              clear hwn hbn hg hzn
              have HBgb := Lib.hid (hmn.blk HBgb.out (fun h => h))
              have HMx := Lib.hid (HMx.out.new hmn)
              have HSx := Lib.hid (HSx.out.new hmn)
              clear hmn
              refine hK.out _ _ (HX.out _ Hw702387.out) (fun hHeld => ?_)
              clear hK K
              have k0 := HBga.out.cell 0
              have k1 := HBga.out.cell 1
              have k2 := HBga.out.cell 2
              simp at k0 k1 k2
              have p0 := HBga.out.frozen 0
              have p1 := HBga.out.frozen 1
              have p2 := HBga.out.frozen 2
              refine wpAnyT_ready (rs := [9]) (by kernel_rfl) (by simp) (AllReadyT.cons rfl (fun K hK => ?_) AllReadyT.nil)
              go_simp
              obtain ⟨W9, hW9, hb9, hm9, hM9⟩ := lay_over1 HBga.out (.slice P r s) (.slice P2 r2 s2) (.int .i64 N')
              rw [← hW9]
              have hab : ¬ gb = ga := fun e => by have h := HBgb.out; rw [e] at h; exact Blk.ne_ HBga.out h (by decide) rfl
              have H9 := Lib.hid (Hw702387.out.own hm9 Hgal.out)
              have HB9 := Lib.hid hb9
              have HBg := Lib.hid (hm9.blk HBgb.out hab)
              have HM9 := Lib.hid (hM9 HMx.out)
              have HS9 := Lib.hid (HSx.out.mod hm9 (fun j cs' _ hb e => by rw [e] at hb; exact Blk.ne_ HBga.out hb (by decide) rfl))
              clear hW9 hb9 hm9 hM9 k0 k1 k2 p0 p1 p2
              refine hK.out _ _ (HX.out _ H9.out) (fun hHeld => ?_)
              clear hK K hHeld
              have k0 := HBg.out.cell 0
              have k1 := HBg.out.cell 1
              have k2 := HBg.out.cell 2
              simp at k0 k1 k2
              have p0 := HBg.out.frozen 0
              have p1 := HBg.out.frozen 1
              have p2 := HBg.out.frozen 2
              refine wpAnyT_rest (by kernel_rfl) ?_
              refine wpAny_ready (rs := [10]) (by kernel_rfl) (by simp) (AllReady.cons rfl (fun K hK => ?_) AllReady.nil)
              go_simp
              refine hK _ _ ?_
              clear hK K
              refine wpAny_done (by kernel_rfl) ?_ _
              go_wp2_with fail
              go_meet
              have h3 := Mod.three_one W9 gb (.int .i64 x') (.int .i64 y') (.slice P3 r3 s3)
              exact ⟨ga, gb, P, r, s, P2, r2, s2, P3, r3, s3, rfl, rfl, h3.blk HB9.out (fun e => hab e.symm), (HBg.out.three _ _ _).2.2.2, ⟨M', HM9.out.far h3 (Far.one HBg.out (by decide) (by decide) (by decide))⟩, ⟨l', HS9.out.mod h3 (fun j cs' _ hb e => by rw [e] at hb; exact Blk.ne_ HBg.out hb (by decide) rfl)⟩, H9.out.own h3 Hgbl.out⟩
        · go_simp
          obtain ⟨w7027, hwn, hmn, hbn, hzn⟩ := Blk.box w702 31 #[.slice none 0 0, .slice none 0 0, .int .i64 0]
          obtain ⟨ga, hg⟩ : ∃ g, g = w702.heap.size := ⟨_, rfl⟩
          have Hgal : Hid (W0.heap.size ≤ ga) := Lib.hid (by rw [hg]; exact Hw702.out.size)
          rw [← hg] at hbn
          rw [← hwn, ← hg]
          have Hw7027 := Lib.hid (Hw702.out.trans hmn (fun _ _ h => h))
          have HBga := Lib.hid hbn
          clear hwn hbn hg hzn
          clear hmn
          refine hK.out _ _ (HX.out _ Hw7027.out) (fun hHeld => ?_)
          clear hK K
          refine wpAnyT_ready (rs := [3, 8]) (by kernel_rfl) (by simp) (AllReadyT.cons rfl (fun K hK => ?_) (AllReadyT.cons rfl (fun K hK => ?_) AllReadyT.nil))
          · go_simp
            go_at_call 8
            refine (Hdo.out w7027 Hw7027.out).mono ?_
            rintro e w70273 ⟨P, r, s, P2, r2, s2, P3, r3, s3, rfl, hMn, hSn, hmn⟩
            have Hw70273 := Lib.hid (Hw7027.out.trans hmn (fun _ _ h => h))
            have HMx := Lib.hid (hMn.mono Hw7027.out.size)
            have HSx := Lib.hid (hSn.mono Hw7027.out.size)
            clear hMn hSn
            have HBga := Lib.hid (hmn.blk HBga.out (fun h => h))
            go_simp
            clear hmn
            refine hK.out _ _ (HX.out _ Hw70273.out) (fun hHeld => ?_)
            clear hK K
            refine wpAnyT_take (i := 4) (v := ?_) rfl (by decide) (by kernel_rfl) (by kernel_rfl) (by kernel_rfl) (by kernel_rfl) (fun _ _ _ h => h) (Or.inl ⟨by rfl, ?_⟩) hHeld ?_
            rotate_left
            · (intro w hSw; (try dsimp only at hSw); go_simp; first | done | with_reducible rfl)
            simp only [Act.put, List.setIfInBounds_toArray, List.set_cons_zero, List.set_cons_succ]
            refine wpAnyT_take (i := 5) (v := ?_) rfl (by decide) (by kernel_rfl) (by kernel_rfl) (by kernel_rfl) (by kernel_rfl) (fun _ _ _ h => h) (Or.inl ⟨by rfl, ?_⟩) hHeld ?_
            rotate_left
            · (intro w hSw; (try dsimp only at hSw); go_simp; first | done | with_reducible rfl)
            simp only [Act.put, List.setIfInBounds_toArray, List.set_cons_zero, List.set_cons_succ]
            refine wpAnyT_take (i := 6) (v := ?_) rfl (by decide) (by kernel_rfl) (by kernel_rfl) (by kernel_rfl) (by kernel_rfl) (fun _ _ _ h => h) (Or.inl ⟨by rfl, ?_⟩) hHeld ?_
            rotate_left
            · (intro w hSw; (try dsimp only at hSw); go_simp; first | done | with_reducible rfl)
            simp only [Act.put, List.setIfInBounds_toArray, List.set_cons_zero, List.set_cons_succ]
            refine wpAnyT_ready (rs := [8]) (by kernel_rfl) (by simp) (AllReadyT.cons rfl (fun K hK => ?_) AllReadyT.nil)
            · go_simp
              obtain ⟨w702738, hwn, hmn, hbn, hzn⟩ := Blk.box w70273 34 #[.int .i64 0, .int .i64 0, .slice none 0 0]
              obtain ⟨gb, hg⟩ : ∃ g, g = w70273.heap.size := ⟨_, rfl⟩
              have Hgbl : Hid (W0.heap.size ≤ gb) := Lib.hid (by rw [hg]; exact Hw70273.out.size)
              rw [← hg] at hbn
              rw [← hwn, ← hg]
              have Hw702738 := Lib.hid (Hw70273.out.trans hmn (fun _ _ h => h))
              have HBgb := Lib.hid hbn
              clear hwn hbn hg hzn
              have HBga := Lib.hid (hmn.blk HBga.out (fun h => h))
              have HMx := Lib.hid (HMx.out.new hmn)
              have HSx := Lib.hid (HSx.out.new hmn)
              clear hmn
              refine hK.out _ _ (HX.out _ Hw702738.out) (fun hHeld => ?_)
              clear hK K
              have k0 := HBga.out.cell 0
              have k1 := HBga.out.cell 1
              have k2 := HBga.out.cell 2
              simp at k0 k1 k2
              have p0 := HBga.out.frozen 0
              have p1 := HBga.out.frozen 1
              have p2 := HBga.out.frozen 2
              refine wpAnyT_ready (rs := [9]) (by kernel_rfl) (by simp) (AllReadyT.cons rfl (fun K hK => ?_) AllReadyT.nil)
              go_simp
              obtain ⟨W9, hW9, hb9, hm9, hM9⟩ := lay_over1 HBga.out (.slice P r s) (.slice P2 r2 s2) (.int .i64 N')
              rw [← hW9]
              have hab : ¬ gb = ga := fun e => by have h := HBgb.out; rw [e] at h; exact Blk.ne_ HBga.out h (by decide) rfl
              have H9 := Lib.hid (Hw702738.out.own hm9 Hgal.out)
              have HB9 := Lib.hid hb9
              have HBg := Lib.hid (hm9.blk HBgb.out hab)
              have HM9 := Lib.hid (hM9 HMx.out)
              have HS9 := Lib.hid (HSx.out.mod hm9 (fun j cs' _ hb e => by rw [e] at hb; exact Blk.ne_ HBga.out hb (by decide) rfl))
              clear hW9 hb9 hm9 hM9 k0 k1 k2 p0 p1 p2
              refine hK.out _ _ (HX.out _ H9.out) (fun hHeld => ?_)
              clear hK K hHeld
              have k0 := HBg.out.cell 0
              have k1 := HBg.out.cell 1
              have k2 := HBg.out.cell 2
              simp at k0 k1 k2
              have p0 := HBg.out.frozen 0
              have p1 := HBg.out.frozen 1
              have p2 := HBg.out.frozen 2
              refine wpAnyT_rest (by kernel_rfl) ?_
              refine wpAny_ready (rs := [10]) (by kernel_rfl) (by simp) (AllReady.cons rfl (fun K hK => ?_) AllReady.nil)
              go_simp
              refine hK _ _ ?_
              clear hK K
              refine wpAny_done (by kernel_rfl) ?_ _
              go_wp2_with fail
              go_meet
              have h3 := Mod.three_one W9 gb (.int .i64 x') (.int .i64 y') (.slice P3 r3 s3)
              exact ⟨ga, gb, P, r, s, P2, r2, s2, P3, r3, s3, rfl, rfl, h3.blk HB9.out (fun e => hab e.symm), (HBg.out.three _ _ _).2.2.2, ⟨M', HM9.out.far h3 (Far.one HBg.out (by decide) (by decide) (by decide))⟩, ⟨l', HS9.out.mod h3 (fun j cs' _ hb e => by rw [e] at hb; exact Blk.ne_ HBg.out hb (by decide) rfl)⟩, H9.out.own h3 Hgbl.out⟩
          · go_simp
            obtain ⟨w70278, hwn, hmn, hbn, hzn⟩ := Blk.box w7027 34 #[.int .i64 0, .int .i64 0, .slice none 0 0]
            obtain ⟨gb, hg⟩ : ∃ g, g = w7027.heap.size := ⟨_, rfl⟩
            have Hgbl : Hid (W0.heap.size ≤ gb) := Lib.hid (by rw [hg]; exact Hw7027.out.size)
            rw [← hg] at hbn
            rw [← hwn, ← hg]
            have Hw70278 := Lib.hid (Hw7027.out.trans hmn (fun _ _ h => h))
            have HBgb := Lib.hid hbn
            clear hwn hbn hg hzn
            have HBga := Lib.hid (hmn.blk HBga.out (fun h => h))
            clear hmn
            refine hK.out _ _ (HX.out _ Hw70278.out) (fun hHeld => ?_)
            clear hK K
            refine wpAnyT_ready (rs := [3]) (by kernel_rfl) (by simp) (AllReadyT.cons rfl (fun K hK => ?_) AllReadyT.nil)
            · go_simp
              go_at_call 8
              refine (Hdo.out w70278 Hw70278.out).mono ?_
              rintro e w702783 ⟨P, r, s, P2, r2, s2, P3, r3, s3, rfl, hMn, hSn, hmn⟩
              have Hw702783 := Lib.hid (Hw70278.out.trans hmn (fun _ _ h => h))
              have HMx := Lib.hid (hMn.mono Hw70278.out.size)
              have HSx := Lib.hid (hSn.mono Hw70278.out.size)
              clear hMn hSn
              have HBga := Lib.hid (hmn.blk HBga.out (fun h => h))
              have HBgb := Lib.hid (hmn.blk HBgb.out (fun h => h))
              go_simp
              clear hmn
              refine hK.out _ _ (HX.out _ Hw702783.out) (fun hHeld => ?_)
              clear hK K
              refine wpAnyT_take (i := 4) (v := ?_) rfl (by decide) (by kernel_rfl) (by kernel_rfl) (by kernel_rfl) (by kernel_rfl) (fun _ _ _ h => h) (Or.inl ⟨by rfl, ?_⟩) hHeld ?_
              rotate_left
              · (intro w hSw; (try dsimp only at hSw); go_simp; first | done | with_reducible rfl)
              simp only [Act.put, List.setIfInBounds_toArray, List.set_cons_zero, List.set_cons_succ]
              refine wpAnyT_take (i := 5) (v := ?_) rfl (by decide) (by kernel_rfl) (by kernel_rfl) (by kernel_rfl) (by kernel_rfl) (fun _ _ _ h => h) (Or.inl ⟨by rfl, ?_⟩) hHeld ?_
              rotate_left
              · (intro w hSw; (try dsimp only at hSw); go_simp; first | done | with_reducible rfl)
              simp only [Act.put, List.setIfInBounds_toArray, List.set_cons_zero, List.set_cons_succ]
              refine wpAnyT_take (i := 6) (v := ?_) rfl (by decide) (by kernel_rfl) (by kernel_rfl) (by kernel_rfl) (by kernel_rfl) (fun _ _ _ h => h) (Or.inl ⟨by rfl, ?_⟩) hHeld ?_
              rotate_left
              · (intro w hSw; (try dsimp only at hSw); go_simp; first | done | with_reducible rfl)
              simp only [Act.put, List.setIfInBounds_toArray, List.set_cons_zero, List.set_cons_succ]
              have k0 := HBga.out.cell 0
              have k1 := HBga.out.cell 1
              have k2 := HBga.out.cell 2
              simp at k0 k1 k2
              have p0 := HBga.out.frozen 0
              have p1 := HBga.out.frozen 1
              have p2 := HBga.out.frozen 2
              refine wpAnyT_ready (rs := [9]) (by kernel_rfl) (by simp) (AllReadyT.cons rfl (fun K hK => ?_) AllReadyT.nil)
              go_simp
              obtain ⟨W9, hW9, hb9, hm9, hM9⟩ := lay_over1 HBga.out (.slice P r s) (.slice P2 r2 s2) (.int .i64 N')
              rw [← hW9]
              have hab : ¬ gb = ga := fun e => by have h := HBgb.out; rw [e] at h; exact Blk.ne_ HBga.out h (by decide) rfl
              have H9 := Lib.hid (Hw702783.out.own hm9 Hgal.out)
              have HB9 := Lib.hid hb9
              have HBg := Lib.hid (hm9.blk HBgb.out hab)
              have HM9 := Lib.hid (hM9 HMx.out)
              have HS9 := Lib.hid (HSx.out.mod hm9 (fun j cs' _ hb e => by rw [e] at hb; exact Blk.ne_ HBga.out hb (by decide) rfl))
              clear hW9 hb9 hm9 hM9 k0 k1 k2 p0 p1 p2
              refine hK.out _ _ (HX.out _ H9.out) (fun hHeld => ?_)
              clear hK K hHeld
              have k0 := HBg.out.cell 0
              have k1 := HBg.out.cell 1
              have k2 := HBg.out.cell 2
              simp at k0 k1 k2
              have p0 := HBg.out.frozen 0
              have p1 := HBg.out.frozen 1
              have p2 := HBg.out.frozen 2
              refine wpAnyT_rest (by kernel_rfl) ?_
              refine wpAny_ready (rs := [10]) (by kernel_rfl) (by simp) (AllReady.cons rfl (fun K hK => ?_) AllReady.nil)
              go_simp
              refine hK _ _ ?_
              clear hK K
              refine wpAny_done (by kernel_rfl) ?_ _
              go_wp2_with fail
              go_meet
              have h3 := Mod.three_one W9 gb (.int .i64 x') (.int .i64 y') (.slice P3 r3 s3)
              exact ⟨ga, gb, P, r, s, P2, r2, s2, P3, r3, s3, rfl, rfl, h3.blk HB9.out (fun e => hab e.symm), (HBg.out.three _ _ _).2.2.2, ⟨M', HM9.out.far h3 (Far.one HBg.out (by decide) (by decide) (by decide))⟩, ⟨l', HS9.out.mod h3 (fun j cs' _ hb e => by rw [e] at hb; exact Blk.ne_ HBg.out hb (by decide) rfl)⟩, H9.out.own h3 Hgbl.out⟩
        · go_simp
          obtain ⟨w7028, hwn, hmn, hbn, hzn⟩ := Blk.box w702 34 #[.int .i64 0, .int .i64 0, .slice none 0 0]
          obtain ⟨gb, hg⟩ : ∃ g, g = w702.heap.size := ⟨_, rfl⟩
          have Hgbl : Hid (W0.heap.size ≤ gb) := Lib.hid (by rw [hg]; exact Hw702.out.size)
          rw [← hg] at hbn
          rw [← hwn, ← hg]
          have Hw7028 := Lib.hid (Hw702.out.trans hmn (fun _ _ h => h))
          have HBgb := Lib.hid hbn
          clear hwn hbn hg hzn
          clear hmn
          refine hK.out _ _ (HX.out _ Hw7028.out) (fun hHeld => ?_)
          clear hK K
          refine wpAnyT_ready (rs := [3, 7]) (by kernel_rfl) (by simp) (AllReadyT.cons rfl (fun K hK => ?_) (AllReadyT.cons rfl (fun K hK => ?_) AllReadyT.nil))
          · go_simp
            go_at_call 8
            refine (Hdo.out w7028 Hw7028.out).mono ?_
            rintro e w70283 ⟨P, r, s, P2, r2, s2, P3, r3, s3, rfl, hMn, hSn, hmn⟩
            have Hw70283 := Lib.hid (Hw7028.out.trans hmn (fun _ _ h => h))
            have HMx := Lib.hid (hMn.mono Hw7028.out.size)
            have HSx := Lib.hid (hSn.mono Hw7028.out.size)
            clear hMn hSn
            have HBgb := Lib.hid (hmn.blk HBgb.out (fun h => h))
            go_simp
            clear hmn
            refine hK.out _ _ (HX.out _ Hw70283.out) (fun hHeld => ?_)
            clear hK K
            refine wpAnyT_take (i := 4) (v := ?_) rfl (by decide) (by kernel_rfl) (by kernel_rfl) (by kernel_rfl) (by kernel_rfl) (fun _ _ _ h => h) (Or.inl ⟨by rfl, ?_⟩) hHeld ?_
            rotate_left
            · (intro w hSw; (try dsimp only at hSw); go_simp; first | done | with_reducible rfl)
            simp only [Act.put, List.setIfInBounds_toArray, List.set_cons_zero, List.set_cons_succ]
            refine wpAnyT_take (i := 5) (v := ?_) rfl (by decide) (by kernel_rfl) (by kernel_rfl) (by kernel_rfl) (by kernel_rfl) (fun _ _ _ h => h) (Or.inl ⟨by rfl, ?_⟩) hHeld ?_
            rotate_left
            · (intro w hSw; (try dsimp only at hSw); go_simp; first | done | with_reducible rfl)
            simp only [Act.put, List.setIfInBounds_toArray, List.set_cons_zero, List.set_cons_succ]
            refine wpAnyT_take (i := 6) (v := ?_) rfl (by decide) (by kernel_rfl) (by kernel_rfl) (by kernel_rfl) (by kernel_rfl) (fun _ _ _ h => h) (Or.inl ⟨by rfl, ?_⟩) hHeld ?_
            rotate_left
            · (intro w hSw; (try dsimp only at hSw); go_simp; first | done | with_reducible rfl)
            simp only [Act.put, List.setIfInBounds_toArray, List.set_cons_zero, List.set_cons_succ]
            refine wpAnyT_ready (rs := [7]) (by kernel_rfl) (by simp) (AllReadyT.cons rfl (fun K hK => ?_) AllReadyT.nil)
            · go_simp
              obtain ⟨w702837, hwn, hmn, hbn, hzn⟩ := Blk.box w70283 31 #[.slice none 0 0, .slice none 0 0, .int .i64 0]
              obtain ⟨ga, hg⟩ : ∃ g, g = w70283.heap.size := ⟨_, rfl⟩
              have Hgal : Hid (W0.heap.size ≤ ga) := Lib.hid (by rw [hg]; exact Hw70283.out.size)
              rw [← hg] at hbn
              rw [← hwn, ← hg]
              have Hw702837 := Lib.hid (Hw70283.out.trans hmn (fun _ _ h => h))
              have HBga := Lib.hid hbn
              clear hwn hbn hg hzn
              have HBgb := Lib.hid (hmn.blk HBgb.out (fun h => h))
              have HMx := Lib.hid (HMx.out.new hmn)
              have HSx := Lib.hid (HSx.out.new hmn)
              clear hmn
              refine hK.out _ _ (HX.out _ Hw702837.out) (fun hHeld => ?_)
              clear hK K
              have k0 := HBga.out.cell 0
              have k1 := HBga.out.cell 1
              have k2 := HBga.out.cell 2
              simp at k0 k1 k2
              have p0 := HBga.out.frozen 0
              have p1 := HBga.out.frozen 1
              have p2 := HBga.out.frozen 2
              refine wpAnyT_ready (rs := [9]) (by kernel_rfl) (by simp) (AllReadyT.cons rfl (fun K hK => ?_) AllReadyT.nil)
              go_simp
              obtain ⟨W9, hW9, hb9, hm9, hM9⟩ := lay_over1 HBga.out (.slice P r s) (.slice P2 r2 s2) (.int .i64 N')
              rw [← hW9]
              have hab : ¬ gb = ga := fun e => by have h := HBgb.out; rw [e] at h; exact Blk.ne_ HBga.out h (by decide) rfl
              have H9 := Lib.hid (Hw702837.out.own hm9 Hgal.out)
              have HB9 := Lib.hid hb9
              have HBg := Lib.hid (hm9.blk HBgb.out hab)
              have HM9 := Lib.hid (hM9 HMx.out)
              have HS9 := Lib.hid (HSx.out.mod hm9 (fun j cs' _ hb e => by rw [e] at hb; exact Blk.ne_ HBga.out hb (by decide) rfl))
              clear hW9 hb9 hm9 hM9 k0 k1 k2 p0 p1 p2
              refine hK.out _ _ (HX.out _ H9.out) (fun hHeld => ?_)
              clear hK K hHeld
              have k0 := HBg.out.cell 0
              have k1 := HBg.out.cell 1
              have k2 := HBg.out.cell 2
              simp at k0 k1 k2
              have p0 := HBg.out.frozen 0
              have p1 := HBg.out.frozen 1
              have p2 := HBg.out.frozen 2
              refine wpAnyT_rest (by kernel_rfl) ?_
              refine wpAny_ready (rs := [10]) (by kernel_rfl) (by simp) (AllReady.cons rfl (fun K hK => ?_) AllReady.nil)
              go_simp
              refine hK _ _ ?_
              clear hK K
              refine wpAny_done (by kernel_rfl) ?_ _
              go_wp2_with fail
              go_meet
              have h3 := Mod.three_one W9 gb (.int .i64 x') (.int .i64 y') (.slice P3 r3 s3)
              exact ⟨ga, gb, P, r, s, P2, r2, s2, P3, r3, s3, rfl, rfl, h3.blk HB9.out (fun e => hab e.symm), (HBg.out.three _ _ _).2.2.2, ⟨M', HM9.out.far h3 (Far.one HBg.out (by decide) (by decide) (by decide))⟩, ⟨l', HS9.out.mod h3 (fun j cs' _ hb e => by rw [e] at hb; exact Blk.ne_ HBg.out hb (by decide) rfl)⟩, H9.out.own h3 Hgbl.out⟩
          · go_simp
            obtain ⟨w70287, hwn, hmn, hbn, hzn⟩ := Blk.box w7028 31 #[.slice none 0 0, .slice none 0 0, .int .i64 0]
            obtain ⟨ga, hg⟩ : ∃ g, g = w7028.heap.size := ⟨_, rfl⟩
            have Hgal : Hid (W0.heap.size ≤ ga) := Lib.hid (by rw [hg]; exact Hw7028.out.size)
            rw [← hg] at hbn
            rw [← hwn, ← hg]
            have Hw70287 := Lib.hid (Hw7028.out.trans hmn (fun _ _ h => h))
            have HBga := Lib.hid hbn
            clear hwn hbn hg hzn
            have HBgb := Lib.hid (hmn.blk HBgb.out (fun h => h))
            clear hmn
            refine hK.out _ _ (HX.out _ Hw70287.out) (fun hHeld => ?_)
            clear hK K
            refine wpAnyT_ready (rs := [3]) (by kernel_rfl) (by simp) (AllReadyT.cons rfl (fun K hK => ?_) AllReadyT.nil)
            · go_simp
              go_at_call 8
              refine (Hdo.out w70287 Hw70287.out).mono ?_
              rintro e w702873 ⟨P, r, s, P2, r2, s2, P3, r3, s3, rfl, hMn, hSn, hmn⟩
              have Hw702873 := Lib.hid (Hw70287.out.trans hmn (fun _ _ h => h))
              have HMx := Lib.hid (hMn.mono Hw70287.out.size)
              have HSx := Lib.hid (hSn.mono Hw70287.out.size)
              clear hMn hSn
              have HBga := Lib.hid (hmn.blk HBga.out (fun h => h))
              have HBgb := Lib.hid (hmn.blk HBgb.out (fun h => h))
              go_simp
              clear hmn
              refine hK.out _ _ (HX.out _ Hw702873.out) (fun hHeld => ?_)
              clear hK K
              refine wpAnyT_take (i := 4) (v := ?_) rfl (by decide) (by kernel_rfl) (by kernel_rfl) (by kernel_rfl) (by kernel_rfl) (fun _ _ _ h => h) (Or.inl ⟨by rfl, ?_⟩) hHeld ?_
              rotate_left
              · (intro w hSw; (try dsimp only at hSw); go_simp; first | done | with_reducible rfl)
              simp only [Act.put, List.setIfInBounds_toArray, List.set_cons_zero, List.set_cons_succ]
              refine wpAnyT_take (i := 5) (v := ?_) rfl (by decide) (by kernel_rfl) (by kernel_rfl) (by kernel_rfl) (by kernel_rfl) (fun _ _ _ h => h) (Or.inl ⟨by rfl, ?_⟩) hHeld ?_
              rotate_left
              · (intro w hSw; (try dsimp only at hSw); go_simp; first | done | with_reducible rfl)
              simp only [Act.put, List.setIfInBounds_toArray, List.set_cons_zero, List.set_cons_succ]
              refine wpAnyT_take (i := 6) (v := ?_) rfl (by decide) (by kernel_rfl) (by kernel_rfl) (by kernel_rfl) (by kernel_rfl) (fun _ _ _ h => h) (Or.inl ⟨by rfl, ?_⟩) hHeld ?_
              rotate_left
              · (intro w hSw; (try dsimp only at hSw); go_simp; first | done | with_reducible rfl)
              simp only [Act.put, List.setIfInBounds_toArray, List.set_cons_zero, List.set_cons_succ]
              have k0 := HBga.out.cell 0
              have k1 := HBga.out.cell 1
              have k2 := HBga.out.cell 2
              simp at k0 k1 k2
              have p0 := HBga.out.frozen 0
              have p1 := HBga.out.frozen 1
              have p2 := HBga.out.frozen 2
              refine wpAnyT_ready (rs := [9]) (by kernel_rfl) (by simp) (AllReadyT.cons rfl (fun K hK => ?_) AllReadyT.nil)
              go_simp
              obtain ⟨W9, hW9, hb9, hm9, hM9⟩ := lay_over1 HBga.out (.slice P r s) (.slice P2 r2 s2) (.int .i64 N')
              rw [← hW9]
              have hab : ¬ gb = ga := fun e => by have h := HBgb.out; rw [e] at h; exact Blk.ne_ HBga.out h (by decide) rfl
              have H9 := Lib.hid (Hw702873.out.own hm9 Hgal.out)
              have HB9 := Lib.hid hb9
              have HBg := Lib.hid (hm9.blk HBgb.out hab)
              have HM9 := Lib.hid (hM9 HMx.out)
              have HS9 := Lib.hid (HSx.out.mod hm9 (fun j cs' _ hb e => by rw [e] at hb; exact Blk.ne_ HBga.out hb (by decide) rfl))
              clear hW9 hb9 hm9 hM9 k0 k1 k2 p0 p1 p2
              refine hK.out _ _ (HX.out _ H9.out) (fun hHeld => ?_)
              clear hK K hHeld
              have k0 := HBg.out.cell 0
              have k1 := HBg.out.cell 1
              have k2 := HBg.out.cell 2
              simp at k0 k1 k2
              have p0 := HBg.out.frozen 0
              have p1 := HBg.out.frozen 1
              have p2 := HBg.out.frozen 2
              refine wpAnyT_rest (by kernel_rfl) ?_
              refine wpAny_ready (rs := [10]) (by kernel_rfl) (by simp) (AllReady.cons rfl (fun K hK => ?_) AllReady.nil)
              go_simp
              refine hK _ _ ?_
              clear hK K
              refine wpAny_done (by kernel_rfl) ?_ _
              go_wp2_with fail
              go_meet
              have h3 := Mod.three_one W9 gb (.int .i64 x') (.int .i64 y') (.slice P3 r3 s3)
              exact ⟨ga, gb, P, r, s, P2, r2, s2, P3, r3, s3, rfl, rfl, h3.blk HB9.out (fun e => hab e.symm), (HBg.out.three _ _ _).2.2.2, ⟨M', HM9.out.far h3 (Far.one HBg.out (by decide) (by decide) (by decide))⟩, ⟨l', HS9.out.mod h3 (fun j cs' _ hb e => by rw [e] at hb; exact Blk.ne_ HBg.out hb (by decide) rfl)⟩, H9.out.own h3 Hgbl.out⟩
      · go_simp
        obtain ⟨w707, hwn, hmn, hbn, hzn⟩ := Blk.box w70 31 #[.slice none 0 0, .slice none 0 0, .int .i64 0]
        obtain ⟨ga, hg⟩ : ∃ g, g = w70.heap.size := ⟨_, rfl⟩
        have Hgal : Hid (W0.heap.size ≤ ga) := Lib.hid (by rw [hg]; exact Hw70.out.size)
        rw [← hg] at hbn
        rw [← hwn, ← hg]
        have Hw707 := Lib.hid (Hw70.out.trans hmn (fun _ _ h => h))
        have HBga := Lib.hid hbn
        clear hwn hbn hg hzn
        clear hmn
        refine hK.out _ _ (HX.out _ Hw707.out) (fun hHeld => ?_)
        clear hK K
        refine wpAnyT_ready (rs := [2, 8]) (by kernel_rfl) (by simp) (AllReadyT.cons rfl (fun K hK => ?_) (AllReadyT.cons rfl (fun K hK => ?_) AllReadyT.nil))
        · go_simp
          go_at_call 12
          refine (Hop.out w707 Hw707.out).mono ?_
          rintro e w7072 ⟨rfl, hmn⟩
          have Hw7072 := Lib.hid (Hw707.out.trans hmn (fun _ _ h => h))
          have HBga := Lib.hid (hmn.blk HBga.out (fun h => h))
          go_simp
          clear hmn
          refine hK.out _ _ (HX.out _ Hw7072.out) (fun hHeld => ?_)
          clear hK K
          refine wpAnyT_ready (rs := [3, 8]) (by kernel_rfl) (by simp) (AllReadyT.cons rfl (fun K hK => ?_) (AllReadyT.cons rfl (fun K hK => ?_) AllReadyT.nil))
          · go_simp
            go_at_call 8
            refine (Hdo.out w7072 Hw7072.out).mono ?_
            rintro e w70723 ⟨P, r, s, P2, r2, s2, P3, r3, s3, rfl, hMn, hSn, hmn⟩
            have Hw70723 := Lib.hid (Hw7072.out.trans hmn (fun _ _ h => h))
            have HMx := Lib.hid (hMn.mono Hw7072.out.size)
            have HSx := Lib.hid (hSn.mono Hw7072.out.size)
            clear hMn hSn
            have HBga := Lib.hid (hmn.blk HBga.out (fun h => h))
            go_simp
            clear hmn
            refine hK.out _ _ (HX.out _ Hw70723.out) (fun hHeld => ?_)
            clear hK K
            refine wpAnyT_take (i := 4) (v := ?_) rfl (by decide) (by kernel_rfl) (by kernel_rfl) (by kernel_rfl) (by kernel_rfl) (fun _ _ _ h => h) (Or.inl ⟨by rfl, ?_⟩) hHeld ?_
            rotate_left
            · (intro w hSw; (try dsimp only at hSw); go_simp; first | done | with_reducible rfl)
            simp only [Act.put, List.setIfInBounds_toArray, List.set_cons_zero, List.set_cons_succ]
            refine wpAnyT_take (i := 5) (v := ?_) rfl (by decide) (by kernel_rfl) (by kernel_rfl) (by kernel_rfl) (by kernel_rfl) (fun _ _ _ h => h) (Or.inl ⟨by rfl, ?_⟩) hHeld ?_
            rotate_left
            · (intro w hSw; (try dsimp only at hSw); go_simp; first | done | with_reducible rfl)
            simp only [Act.put, List.setIfInBounds_toArray, List.set_cons_zero, List.set_cons_succ]
            refine wpAnyT_take (i := 6) (v := ?_) rfl (by decide) (by kernel_rfl) (by kernel_rfl) (by kernel_rfl) (by kernel_rfl) (fun _ _ _ h => h) (Or.inl ⟨by rfl, ?_⟩) hHeld ?_
            rotate_left
            · (intro w hSw; (try dsimp only at hSw); go_simp; first | done | with_reducible rfl)
            simp only [Act.put, List.setIfInBounds_toArray, List.set_cons_zero, List.set_cons_succ]
            refine wpAnyT_ready (rs := [8]) (by kernel_rfl) (by simp) (AllReadyT.cons rfl (fun K hK => ?_) AllReadyT.nil)
            · go_simp
              obtain ⟨w707238, hwn, hmn, hbn, hzn⟩ := Blk.box w70723 34 #[.int .i64 0, .int .i64 0, .slice none 0 0]
              obtain ⟨gb, hg⟩ : ∃ g, g = w70723.heap.size := ⟨_, rfl⟩
              have Hgbl : Hid (W0.heap.size ≤ gb) := Lib.hid (by rw [hg]; exact Hw70723.out.size)
              rw [← hg] at hbn
              rw [← hwn, ← hg]
              have Hw707238 := Lib.hid (Hw70723.out.trans hmn (fun _ _ h => h))
              have HBgb := Lib.hid hbn
              clear hwn hbn hg hzn
              have HBga := Lib.hid (hmn.blk HBga.out (fun h => h))
              have HMx := Lib.hid (HMx.out.new hmn)
              have HSx := Lib.hid (HSx.out.new hmn)
              clear hmn
              refine hK.out _ _ (HX.out _ Hw707238.out) (fun hHeld => ?_)
              clear hK K
              have k0 := HBga.out.cell 0
              have k1 := HBga.out.cell 1
              have k2 := HBga.out.cell 2
              simp at k0 k1 k2
              have p0 := HBga.out.frozen 0
              have p1 := HBga.out.frozen 1
              have p2 := HBga.out.frozen 2
              refine wpAnyT_ready (rs := [9]) (by kernel_rfl) (by simp) (AllReadyT.cons rfl (fun K hK => ?_) AllReadyT.nil)
              go_simp
              obtain ⟨W9, hW9, hb9, hm9, hM9⟩ := lay_over1 HBga.out (.slice P r s) (.slice P2 r2 s2) (.int .i64 N')
              rw [← hW9]
              have hab : ¬ gb = ga := fun e => by have h := HBgb.out; rw [e] at h; exact Blk.ne_ HBga.out h (by decide) rfl
              have H9 := Lib.hid (Hw707238.out.own hm9 Hgal.out)
              have HB9 := Lib.hid hb9
              have HBg := Lib.hid (hm9.blk HBgb.out hab)
              have HM9 := Lib.hid (hM9 HMx.out)
              have HS9 := Lib.hid (HSx.out.mod hm9 (fun j cs' _ hb e => by rw [e] at hb; exact Blk.ne_ HBga.out hb (by decide) rfl))
              clear hW9 hb9 hm9 hM9 k0 k1 k2 p0 p1 p2
              refine hK.out _ _ (HX.out _ H9.out) (fun hHeld => ?_)
              clear hK K hHeld
              have k0 := HBg.out.cell 0
              have k1 := HBg.out.cell 1
              have k2 := HBg.out.cell 2
              simp at k0 k1 k2
              have p0 := HBg.out.frozen 0
              have p1 := HBg.out.frozen 1
              have p2 := HBg.out.frozen 2
              refine wpAnyT_rest (by kernel_rfl) ?_
              refine wpAny_ready (rs := [10]) (by kernel_rfl) (by simp) (AllReady.cons rfl (fun K hK => ?_) AllReady.nil)
              go_simp
              refine hK _ _ ?_
              clear hK K
              refine wpAny_done (by kernel_rfl) ?_ _
              go_wp2_with fail
              go_meet
              have h3 := Mod.three_one W9 gb (.int .i64 x') (.int .i64 y') (.slice P3 r3 s3)
              exact ⟨ga, gb, P, r, s, P2, r2, s2, P3, r3, s3, rfl, rfl, h3.blk HB9.out (fun e => hab e.symm), (HBg.out.three _ _ _).2.2.2, ⟨M', HM9.out.far h3 (Far.one HBg.out (by decide) (by decide) (by decide))⟩, ⟨l', HS9.out.mod h3 (fun j cs' _ hb e => by rw [e] at hb; exact Blk.ne_ HBg.out hb (by decide) rfl)⟩, H9.out.own h3 Hgbl.out⟩
          · go_simp
            obtain ⟨w70728, hwn, hmn, hbn, hzn⟩ := Blk.box w7072 34 #[.int .i64 0, .int .i64 0, .slice none 0 0]
            obtain ⟨gb, hg⟩ : ∃ g, g = w7072.heap.size := ⟨_, rfl⟩
            have Hgbl : Hid (W0.heap.size ≤ gb) := Lib.hid (by rw [hg]; exact Hw7072.out.size)
            rw [← hg] at hbn
            rw [← hwn, ← hg]
            have Hw70728 := Lib.hid (Hw7072.out.trans hmn (fun _ _ h => h))
            have HBgb := Lib.hid hbn
            clear hwn hbn hg hzn
            have HBga := Lib.hid (hmn.blk HBga.out (fun h => h))
            clear hmn
            refine hK.out _ _ (HX.out _ Hw70728.out) (fun hHeld => ?_)
            clear hK K
            refine wpAnyT_ready (rs := [3]) (by kernel_rfl) (by simp) (AllReadyT.cons rfl (fun K hK => ?_) AllReadyT.nil)
            · go_simp
              go_at_call 8
              refine (Hdo.out w70728 Hw70728.out).mono ?_
              rintro e w707283 ⟨P, r, s, P2, r2, s2, P3, r3, s3, rfl, hMn, hSn, hmn⟩
              have Hw707283 := Lib.hid (Hw70728.out.trans hmn (fun _ _ h => h))
              have HMx := Lib.hid (hMn.mono Hw70728.out.size)
              have HSx := Lib.hid (hSn.mono Hw70728.out.size)
              clear hMn hSn
              have HBga := Lib.hid (hmn.blk HBga.out (fun h => h))
              have HBgb := Lib.hid (hmn.blk HBgb.out (fun h => h))
              go_simp
              clear hmn
              refine hK.out _ _ (HX.out _ Hw707283.out) (fun hHeld => ?_)
              clear hK K
              refine wpAnyT_take (i := 4) (v := ?_) rfl (by decide) (by kernel_rfl) (by kernel_rfl) (by kernel_rfl) (by kernel_rfl) (fun _ _ _ h => h) (Or.inl ⟨by rfl, ?_⟩) hHeld ?_
              rotate_left
              · (intro w hSw; (try dsimp only at hSw); go_simp; first | done | with_reducible rfl)
              simp only [Act.put, List.setIfInBounds_toArray, List.set_cons_zero, List.set_cons_succ]
              refine wpAnyT_take (i := 5) (v := ?_) rfl (by decide) (by kernel_rfl) (by kernel_rfl) (by kernel_rfl) (by kernel_rfl) (fun _ _ _ h => h) (Or.inl ⟨by rfl, ?_⟩) hHeld ?_
              rotate_left
              · (intro w hSw; (try dsimp only at hSw); go_simp; first | done | with_reducible rfl)
              simp only [Act.put, List.setIfInBounds_toArray, List.set_cons_zero, List.set_cons_succ]
              refine wpAnyT_take (i := 6) (v := ?_) rfl (by decide) (by kernel_rfl) (by kernel_rfl) (by kernel_rfl) (by kernel_rfl) (fun _ _ _ h => h) (Or.inl ⟨by rfl, ?_⟩) hHeld ?_
              rotate_left
              · (intro w hSw; (try dsimp only at hSw); go_simp; first | done | with_reducible rfl)
              simp only [Act.put, List.setIfInBounds_toArray, List.set_cons_zero, List.set_cons_succ]
              have k0 := HBga.out.cell 0
              have k1 := HBga.out.cell 1
              have k2 := HBga.out.cell 2
              simp at k0 k1 k2
              have p0 := HBga.out.frozen 0
              have p1 := HBga.out.frozen 1
              have p2 := HBga.out.frozen 2
              refine wpAnyT_ready (rs := [9]) (by kernel_rfl) (by simp) (AllReadyT.cons rfl (fun K hK => ?_) AllReadyT.nil)
              go_simp
              obtain ⟨W9, hW9, hb9, hm9, hM9⟩ := lay_over1 HBga.out (.slice P r s) (.slice P2 r2 s2) (.int .i64 N')
              rw [← hW9]
              have hab : ¬ gb = ga := fun e => by have h := HBgb.out; rw [e] at h; exact Blk.ne_ HBga.out h (by decide) rfl
              have H9 := Lib.hid (Hw707283.out.own hm9 Hgal.out)
              have HB9 := Lib.hid hb9
              have HBg := Lib.hid (hm9.blk HBgb.out hab)
              have HM9 := Lib.hid (hM9 HMx.out)
              have HS9 := Lib.hid (HSx.out.mod hm9 (fun j cs' _ hb e => by rw [e] at hb; exact Blk.ne_ HBga.out hb (by decide) rfl))
              clear hW9 hb9 hm9 hM9 k0 k1 k2 p0 p1 p2
              refine hK.out _ _ (HX.out _ H9.out) (fun hHeld => ?_)
              clear hK K hHeld
              have k0 := HBg.out.cell 0
              have k1 := HBg.out.cell 1
              have k2 := HBg.out.cell 2
              simp at k0 k1 k2
              have p0 := HBg.out.frozen 0
              have p1 := HBg.out.frozen 1
              have p2 := HBg.out.frozen 2
              refine wpAnyT_rest (by kernel_rfl) ?_
              refine wpAny_ready (rs := [10]) (by kernel_rfl) (by simp) (AllReady.cons rfl (fun K hK => ?_) AllReady.nil)
              go_simp
              refine hK _ _ ?_
              clear hK K
              refine wpAny_done (by kernel_rfl) ?_ _
              go_wp2_with fail
              go_meet
              have h3 := Mod.three_one W9 gb (.int .i64 x') (.int .i64 y') (.slice P3 r3 s3)
              exact ⟨ga, gb, P, r, s, P2, r2, s2, P3, r3, s3, rfl, rfl, h3.blk HB9.out (fun e => hab e.symm), (HBg.out.three _ _ _).2.2.2, ⟨M', HM9.out.far h3 (Far.one HBg.out (by decide) (by decide) (by decide))⟩, ⟨l', HS9.out.mod h3 (fun j cs' _ hb e => by rw [e] at hb; exact Blk.ne_ HBg.out hb (by decide) rfl)⟩, H9.out.own h3 Hgbl.out⟩
        · go_simp
          obtain ⟨w7078, hwn, hmn, hbn, hzn⟩ := Blk.box w707 34 #[.int .i64 0, .int .i64 0, .slice none 0 0]
          obtain ⟨gb, hg⟩ : ∃ g, g = w707.heap.size := ⟨_, rfl⟩
          have Hgbl : Hid (W0.heap.size ≤ gb) := Lib.hid (by rw [hg]; exact Hw707.out.size)
          rw [← hg] at hbn
          rw [← hwn, ← hg]
          have Hw7078 := Lib.hid (Hw707.out.trans hmn (fun _ _ h => h))
          have HBgb := Lib.hid hbn
          clear hwn hbn hg hzn
          have HBga := Lib.hid (hmn.blk HBga.out (fun h => h))
          clear hmn
          refine hK.out _ _ (HX.out _ Hw7078.out) (fun hHeld => ?_)
          clear hK K
          refine wpAnyT_ready (rs := [2]) (by kernel_rfl) (by simp) (AllReadyT.cons rfl (fun K hK => ?_) AllReadyT.nil)
          · go_simp
            go_at_call 12
            refine (Hop.out w7078 Hw7078.out).mono ?_
            rintro e w70782 ⟨rfl, hmn⟩
            have Hw70782 := Lib.hid (Hw7078.out.trans hmn (fun _ _ h => h))
            have HBga := Lib.hid (hmn.blk HBga.out (fun h => h))
            have HBgb := Lib.hid (hmn.blk HBgb.out (fun h => h))
            go_simp
            clear hmn
            refine hK.out _ _ (HX.out _ Hw70782.out) (fun hHeld => ?_)
            clear hK K
            refine wpAnyT_ready (rs := [3]) (by kernel_rfl) (by simp) (AllReadyT.cons rfl (fun K hK => ?_) AllReadyT.nil)
            · go_simp
              go_at_call 8
              refine (Hdo.out w70782 Hw70782.out).mono ?_
              rintro e w707823 ⟨P, r, s, P2, r2, s2, P3, r3, s3, rfl, hMn, hSn, hmn⟩
              have Hw707823 := Lib.hid (Hw70782.out.trans hmn (fun _ _ h => h))
              have HMx := Lib.hid (hMn.mono Hw70782.out.size)
              have HSx := Lib.hid (hSn.mono Hw70782.out.size)
              clear hMn hSn
              have HBga := Lib.hid (hmn.blk HBga.out (fun h => h))
              have HBgb := Lib.hid (hmn.blk HBgb.out (fun h => h))
              go_simp
              clear hmn
              refine hK.out _ _ (HX.out _ Hw707823.out) (fun hHeld => ?_)
              clear hK K
              refine wpAnyT_take (i := 4) (v := ?_) rfl (by decide) (by kernel_rfl) (by kernel_rfl) (by kernel_rfl) (by kernel_rfl) (fun _ _ _ h => h) (Or.inl ⟨by rfl, ?_⟩) hHeld ?_
              rotate_left
              · (intro w hSw; (try dsimp only at hSw); go_simp; first | done | with_reducible rfl)
              simp only [Act.put, List.setIfInBounds_toArray, List.set_cons_zero, List.set_cons_succ]
              refine wpAnyT_take (i := 5) (v := ?_) rfl (by decide) (by kernel_rfl) (by kernel_rfl) (by kernel_rfl) (by kernel_rfl) (fun _ _ _ h => h) (Or.inl ⟨by rfl, ?_⟩) hHeld ?_
              rotate_left
              · (intro w hSw; (try dsimp only at hSw); go_simp; first | done | with_reducible rfl)
              simp only [Act.put, List.setIfInBounds_toArray, List.set_cons_zero, List.set_cons_succ]
              refine wpAnyT_take (i := 6) (v := ?_) rfl (by decide) (by kernel_rfl) (by kernel_rfl) (by kernel_rfl) (by kernel_rfl) (fun _ _ _ h => h) (Or.inl ⟨by rfl, ?_⟩) hHeld ?_
              rotate_left
              · (intro w hSw; (try dsimp only at hSw); go_simp; first | done | with_reducible rfl)
              simp only [Act.put, List.setIfInBounds_toArray, List.set_cons_zero, List.set_cons_succ]
              have k0 := HBga.out.cell 0
              have k1 := HBga.out.cell 1
              have k2 := HBga.out.cell 2
              simp at k0 k1 k2
              have p0 := HBga.out.frozen 0
              have p1 := HBga.out.frozen 1
              have p2 := HBga.out.frozen 2
              refine wpAnyT_ready (rs := [9]) (by kernel_rfl) (by simp) (AllReadyT.cons rfl (fun K hK => ?_) AllReadyT.nil)
              go_simp
              obtain ⟨W9, hW9, hb9, hm9, hM9⟩ := lay_over1 HBga.out (.slice P r s) (.slice P2 r2 s2) (.int .i64 N')
              rw [← hW9]
              have hab : ¬ gb = ga := fun e => by have h := HBgb.out; rw [e] at h; exact Blk.ne_ HBga.out h (by decide) rfl
              have H9 := Lib.hid (Hw707823.out.own hm9 Hgal.out)
              have HB9 := Lib.hid hb9
              have HBg := Lib.hid (hm9.blk HBgb.out hab)
              have HM9 := Lib.hid (hM9 HMx.out)
              have HS9 := Lib.hid (HSx.out.mod hm9 (fun j cs' _ hb e => by rw [e] at hb; exact Blk.ne_ HBga.out hb (by decide) rfl))
              clear hW9 hb9 hm9 hM9 k0 k1 k2 p0 p1 p2
              refine hK.out _ _ (HX.out _ H9.out) (fun hHeld => ?_)
              clear hK K hHeld
              have k0 := HBg.out.cell 0
              have k1 := HBg.out.cell 1
              have k2 := HBg.out.cell 2
              simp at k0 k1 k2
              have p0 := HBg.out.frozen 0
              have p1 := HBg.out.frozen 1
              have p2 := HBg.out.frozen 2
              refine wpAnyT_rest (by kernel_rfl) ?_
              refine wpAny_ready (rs := [10]) (by kernel_rfl) (by simp) (AllReady.cons rfl (fun K hK => ?_) AllReady.nil)
              go_simp
              refine hK _ _ ?_
              clear hK K
              refine wpAny_done (by kernel_rfl) ?_ _
              go_wp2_with fail
              go_meet
              have h3 := Mod.three_one W9 gb (.int .i64 x') (.int .i64 y') (.slice P3 r3 s3)
              exact ⟨ga, gb, P, r, s, P2, r2, s2, P3, r3, s3, rfl, rfl, h3.blk HB9.out (fun e => hab e.symm), (HBg.out.three _ _ _).2.2.2, ⟨M', HM9.out.far h3 (Far.one HBg.out (by decide) (by decide) (by decide))⟩, ⟨l', HS9.out.mod h3 (fun j cs' _ hb e => by rw [e] at hb; exact Blk.ne_ HBg.out hb (by decide) rfl)⟩, H9.out.own h3 Hgbl.out⟩
      · go_simp
        obtain ⟨w708, hwn, hmn, hbn, hzn⟩ := Blk.box w70 34 #[.int .i64 0, .int .i64 0, .slice none 0 0]
        obtain ⟨gb, hg⟩ : ∃ g, g = w70.heap.size := ⟨_, rfl⟩
        have Hgbl : Hid (W0.heap.size ≤ gb) := Lib.hid (by rw [hg]; exact Hw70.out.size)
        rw [← hg] at hbn
        rw [← hwn, ← hg]
        have Hw708 := Lib.hid (Hw70.out.trans hmn (fun _ _ h => h))
        have HBgb := Lib.hid hbn
        clear hwn hbn hg hzn
        clear hmn
        refine hK.out _ _ (HX.out _ Hw708.out) (fun hHeld => ?_)
        clear hK K
        refine wpAnyT_ready (rs := [2, 7]) (by kernel_rfl) (by simp) (AllReadyT.cons rfl (fun K hK => ?_) (AllReadyT.cons rfl (fun K hK => ?_) AllReadyT.nil))
        · go_simp
          go_at_call 12
          refine (Hop.out w708 Hw708.out).mono ?_
          rintro e w7082 ⟨rfl, hmn⟩
          have Hw7082 := Lib.hid (Hw708.out.trans hmn (fun _ _ h => h))
          have HBgb := Lib.hid (hmn.blk HBgb.out (fun h => h))
          go_simp
          clear hmn
          refine hK.out _ _ (HX.out _ Hw7082.out) (fun hHeld => ?_)
          clear hK K
          refine wpAnyT_ready (rs := [3, 7]) (by kernel_rfl) (by simp) (AllReadyT.cons rfl (fun K hK => ?_) (AllReadyT.cons rfl (fun K hK => ?_) AllReadyT.nil))
          · go_simp
            go_at_call 8
            refine (Hdo.out w7082 Hw7082.out).mono ?_
            rintro e w70823 ⟨P, r, s, P2, r2, s2, P3, r3, s3, rfl, hMn, hSn, hmn⟩
            have Hw70823 := Lib.hid (Hw7082.out.trans hmn (fun _ _ h => h))
            have HMx := Lib.hid (hMn.mono Hw7082.out.size)
            have HSx := Lib.hid (hSn.mono Hw7082.out.size)
            clear hMn hSn
            have HBgb := Lib.hid (hmn.blk HBgb.out (fun h => h))
            go_simp
            clear hmn
            refine hK.out _ _ (HX.out _ Hw70823.out) (fun hHeld => ?_)
            clear hK K
            refine wpAnyT_take (i := 4) (v := ?_) rfl (by decide) (by kernel_rfl) (by kernel_rfl) (by kernel_rfl) (by kernel_rfl) (fun _ _ _ h => h) (Or.inl ⟨by rfl, ?_⟩) hHeld ?_
            rotate_left
            · (intro w hSw; (try dsimp only at hSw); go_simp; first | done | with_reducible rfl)
            simp only [Act.put, List.setIfInBounds_toArray, List.set_cons_zero, List.set_cons_succ]
            refine wpAnyT_take (i := 5) (v := ?_) rfl (by decide) (by kernel_rfl) (by kernel_rfl) (by kernel_rfl) (by kernel_rfl) (fun _ _ _ h => h) (Or.inl ⟨by rfl, ?_⟩) hHeld ?_
            rotate_left
            · (intro w hSw; (try dsimp only at hSw); go_simp; first | done | with_reducible rfl)
            simp only [Act.put, List.setIfInBounds_toArray, List.set_cons_zero, List.set_cons_succ]
            refine wpAnyT_take (i := 6) (v := ?_) rfl (by decide) (by kernel_rfl) (by kernel_rfl) (by kernel_rfl) (by kernel_rfl) (fun _ _ _ h => h) (Or.inl ⟨by rfl, ?_⟩) hHeld ?_
            rotate_left
            · (intro w hSw; (try dsimp only at hSw); go_simp; first | done | with_reducible rfl)
            simp only [Act.put, List.setIfInBounds_toArray, List.set_cons_zero, List.set_cons_succ]
            refine wpAnyT_ready (rs := [7]) (by kernel_rfl) (by simp) (AllReadyT.cons rfl (fun K hK => ?_) AllReadyT.nil)
            · go_simp
              obtain ⟨w708237, hwn, hmn, hbn, hzn⟩ := Blk.box w70823 31 #[.slice none 0 0, .slice none 0 0, .int .i64 0]
              obtain ⟨ga, hg⟩ : ∃ g, g = w70823.heap.size := ⟨_, rfl⟩
              have Hgal : Hid (W0.heap.size ≤ ga) := Lib.hid (by rw [hg]; exact Hw70823.out.size)
              rw [← hg] at hbn
              rw [← hwn, ← hg]
              have Hw708237 := Lib.hid (Hw70823.out.trans hmn (fun _ _ h => h))
              have HBga := Lib.hid hbn
              clear hwn hbn hg hzn
              have HBgb := Lib.hid (hmn.blk HBgb.out (fun h => h))
              have HMx := Lib.hid (HMx.out.new hmn)
              have HSx := Lib.hid (HSx.out.new hmn)
              clear hmn
              refine hK.out _ _ (HX.out _ Hw708237.out) (fun hHeld => ?_)
              clear hK K
              have k0 := HBga.out.cell 0
              have k1 := HBga.out.cell 1
              have k2 := HBga.out.cell 2
              simp at k0 k1 k2
              have p0 := HBga.out.frozen 0
              have p1 := HBga.out.frozen 1
              have p2 := HBga.out.frozen 2
              refine wpAnyT_ready (rs := [9]) (by kernel_rfl) (by simp) (AllReadyT.cons rfl (fun K hK => ?_) AllReadyT.nil)
              go_simp
              obtain ⟨W9, hW9, hb9, hm9, hM9⟩ := lay_over1 HBga.out (.slice P r s) (.slice P2 r2 s2) (.int .i64 N')
              rw [← hW9]
              have hab : ¬ gb = ga := fun e => by have h := HBgb.out; rw [e] at h; exact Blk.ne_ HBga.out h (by decide) rfl
              have H9 := Lib.hid (Hw708237.out.own hm9 Hgal.out)
              have HB9 := Lib.hid hb9
              have HBg := Lib.hid (hm9.blk HBgb.out hab)
              have HM9 := Lib.hid (hM9 HMx.out)
              have HS9 := Lib.hid (HSx.out.mod hm9 (fun j cs' _ hb e => by rw [e] at hb; exact Blk.ne_ HBga.out hb (by decide) rfl))
              clear hW9 hb9 hm9 hM9 k0 k1 k2 p0 p1 p2
              refine hK.out _ _ (HX.out _ H9.out) (fun hHeld => ?_)
              clear hK K hHeld
              have k0 := HBg.out.cell 0
              have k1 := HBg.out.cell 1
              have k2 := HBg.out.cell 2
              simp at k0 k1 k2
              have p0 := HBg.out.frozen 0
              have p1 := HBg.out.frozen 1
              have p2 := HBg.out.frozen 2
              refine wpAnyT_rest (by kernel_rfl) ?_
              refine wpAny_ready (rs := [10]) (by kernel_rfl) (by simp) (AllReady.cons rfl (fun K hK => ?_) AllReady.nil)
              go_simp
              refine hK _ _ ?_
              clear hK K
              refine wpAny_done (by kernel_rfl) ?_ _
              go_wp2_with fail
              go_meet
              have h3 := Mod.three_one W9 gb (.int .i64 x') (.int .i64 y') (.slice P3 r3 s3)
              exact ⟨ga, gb, P, r, s, P2, r2, s2, P3, r3, s3, rfl, rfl, h3.blk HB9.out (fun e => hab e.symm), (HBg.out.three _ _ _).2.2.2, ⟨M', HM9.out.far h3 (Far.one HBg.out (by decide) (by decide) (by decide))⟩, ⟨l', HS9.out.mod h3 (fun j cs' _ hb e => by rw [e] at hb; exact Blk.ne_ HBg.out hb (by decide) rfl)⟩, H9.out.own h3 Hgbl.out⟩
          · go_simp
            obtain ⟨w70827, hwn, hmn, hbn, hzn⟩ := Blk.box w7082 31 #[.slice none 0 0, .slice none 0 0, .int .i64 0]
            obtain ⟨ga, hg⟩ : ∃ g, g = w7082.heap.size := ⟨_, rfl⟩
            have Hgal : Hid (W0.heap.size ≤ ga) := Lib.hid (by rw [hg]; exact Hw7082.out.size)
            rw [← hg] at hbn
            rw [← hwn, ← hg]
            have Hw70827 := Lib.hid (Hw7082.out.trans hmn (fun _ _ h => h))
            have HBga := Lib.hid hbn
            clear hwn hbn hg hzn
            have HBgb := Lib.hid (hmn.blk HBgb.out (fun h => h))
            clear hmn
            refine hK.out _ _ (HX.out _ Hw70827.out) (fun hHeld => ?_)
            clear hK K
            refine wpAnyT_ready (rs := [3]) (by kernel_rfl) (by simp) (AllReadyT.cons rfl (fun K hK => ?_) AllReadyT.nil)
            · go_simp
              go_at_call 8
              refine (Hdo.out w70827 Hw70827.out).mono ?_
              rintro e w708273 ⟨P, r, s, P2, r2, s2, P3, r3, s3, rfl, hMn, hSn, hmn⟩
              have Hw708273 := Lib.hid (Hw70827.out.trans hmn (fun _ _ h => h))
              have HMx := Lib.hid (hMn.mono Hw70827.out.size)
              have HSx := Lib.hid (hSn.mono Hw70827.out.size)
              clear hMn hSn
              have HBga := Lib.hid (hmn.blk HBga.out (fun h => h))
              have HBgb := Lib.hid (hmn.blk HBgb.out (fun h => h))
              go_simp
              clear hmn
              refine hK.out _ _ (HX.out _ Hw708273.out) (fun hHeld => ?_)
              clear hK K
              refine wpAnyT_take (i := 4) (v := ?_) rfl (by decide) (by kernel_rfl) (by kernel_rfl) (by kernel_rfl) (by kernel_rfl) (fun _ _ _ h => h) (Or.inl ⟨by rfl, ?_⟩) hHeld ?_
              rotate_left
              · (intro w hSw; (try dsimp only at hSw); go_simp; first | done | with_reducible rfl)
              simp only [Act.put, List.setIfInBounds_toArray, List.set_cons_zero, List.set_cons_succ]
              refine wpAnyT_take (i := 5) (v := ?_) rfl (by decide) (by kernel_rfl) (by kernel_rfl) (by kernel_rfl) (by kernel_rfl) (fun _ _ _ h => h) (Or.inl ⟨by rfl, ?_⟩) hHeld ?_
              rotate_left
              · (intro w hSw; (try dsimp only at hSw); go_simp; first | done | with_reducible rfl)
              simp only [Act.put, List.setIfInBounds_toArray, List.set_cons_zero, List.set_cons_succ]
              refine wpAnyT_take (i := 6) (v := ?_) rfl (by decide) (by kernel_rfl) (by kernel_rfl) (by kernel_rfl) (by kernel_rfl) (fun _ _ _ h => h) (Or.inl ⟨by rfl, ?_⟩) hHeld ?_
              rotate_left
              · (intro w hSw; (try dsimp only at hSw); go_simp; first | done | with_reducible rfl)
              simp only [Act.put, List.setIfInBounds_toArray, List.set_cons_zero, List.set_cons_succ]
              have k0 := HBga.out.cell 0
              have k1 := HBga.out.cell 1
              have k2 := HBga.out.cell 2
              simp at k0 k1 k2
              have p0 := HBga.out.frozen 0
              have p1 := HBga.out.frozen 1
              have p2 := HBga.out.frozen 2
              refine wpAnyT_ready (rs := [9]) (by kernel_rfl) (by simp) (AllReadyT.cons rfl (fun K hK => ?_) AllReadyT.nil)
              go_simp
              obtain ⟨W9, hW9, hb9, hm9, hM9⟩ := lay_over1 HBga.out (.slice P r s) (.slice P2 r2 s2) (.int .i64 N')
              rw [← hW9]
              have hab : ¬ gb = ga := fun e => by have h := HBgb.out; rw [e] at h; exact Blk.ne_ HBga.out h (by decide) rfl
              have H9 := Lib.hid (Hw708273.out.own hm9 Hgal.out)
              have HB9 := Lib.hid hb9
              have HBg := Lib.hid (hm9.blk HBgb.out hab)
              have HM9 := Lib.hid (hM9 HMx.out)
              have HS9 := Lib.hid (HSx.out.mod hm9 (fun j cs' _ hb e => by rw [e] at hb; exact Blk.ne_ HBga.out hb (by decide) rfl))
              clear hW9 hb9 hm9 hM9 k0 k1 k2 p0 p1 p2
              refine hK.out _ _ (HX.out _ H9.out) (fun hHeld => ?_)
              clear hK K hHeld
              have k0 := HBg.out.cell 0
              have k1 := HBg.out.cell 1
              have k2 := HBg.out.cell 2
              simp at k0 k1 k2
              have p0 := HBg.out.frozen 0
              have p1 := HBg.out.frozen 1
              have p2 := HBg.out.frozen 2
              refine wpAnyT_rest (by kernel_rfl) ?_
              refine wpAny_ready (rs := [10]) (by kernel_rfl) (by simp) (AllReady.cons rfl (fun K hK => ?_) AllReady.nil)
              go_simp
              refine hK _ _ ?_
              clear hK K
              refine wpAny_done (by kernel_rfl) ?_ _
              go_wp2_with fail
              go_meet
              have h3 := Mod.three_one W9 gb (.int .i64 x') (.int .i64 y') (.slice P3 r3 s3)
              exact ⟨ga, gb, P, r, s, P2, r2, s2, P3, r3, s3, rfl, rfl, h3.blk HB9.out (fun e => hab e.symm), (HBg.out.three _ _ _).2.2.2, ⟨M', HM9.out.far h3 (Far.one HBg.out (by decide) (by decide) (by decide))⟩, ⟨l', HS9.out.mod h3 (fun j cs' _ hb e => by rw [e] at hb; exact Blk.ne_ HBg.out hb (by decide) rfl)⟩, H9.out.own h3 Hgbl.out⟩
        · go_simp
          obtain ⟨w7087, hwn, hmn, hbn, hzn⟩ := Blk.box w708 31 #[.slice none 0 0, .slice none 0 0, .int .i64 0]
          obtain ⟨ga, hg⟩ : ∃ g, g = w708.heap.size := ⟨_, rfl⟩
          have Hgal : Hid (W0.heap.size ≤ ga) := Lib.hid (by rw [hg]; exact Hw708.out.size)
          rw [← hg] at hbn
          rw [← hwn, ← hg]
          have Hw7087 := Lib.hid (Hw708.out.trans hmn (fun _ _ h => h))
          have HBga := Lib.hid hbn
          clear hwn hbn hg hzn
          have HBgb := Lib.hid (hmn.blk HBgb.out (fun h => h))
          clear hmn
          refine hK.out _ _ (HX.out _ Hw7087.out) (fun hHeld => ?_)
          clear hK K
          refine wpAnyT_ready (rs := [2]) (by kernel_rfl) (by simp) (AllReadyT.cons rfl (fun K hK => ?_) AllReadyT.nil)
          · go_simp
            go_at_call 12
            refine (Hop.out w7087 Hw7087.out).mono ?_
            rintro e w70872 ⟨rfl, hmn⟩
            have Hw70872 := Lib.hid (Hw7087.out.trans hmn (fun _ _ h => h))
            have HBga := Lib.hid (hmn.blk HBga.out (fun h => h))
            have HBgb := Lib.hid (hmn.blk HBgb.out (fun h => h))
            go_simp
            clear hmn
            refine hK.out _ _ (HX.out _ Hw70872.out) (fun hHeld => ?_)
            clear hK K
            refine wpAnyT_ready (rs := [3]) (by kernel_rfl) (by simp) (AllReadyT.cons rfl (fun K hK => ?_) AllReadyT.nil)
            · go_simp
              go_at_call 8
              refine (Hdo.out w70872 Hw70872.out).mono ?_
              rintro e w708723 ⟨P, r, s, P2, r2, s2, P3, r3, s3, rfl, hMn, hSn, hmn⟩
              have Hw708723 := Lib.hid (Hw70872.out.trans hmn (fun _ _ h => h))
              have HMx := Lib.hid (hMn.mono Hw70872.out.size)
              have HSx := Lib.hid (hSn.mono Hw70872.out.size)
              clear hMn hSn
              have HBga := Lib.hid (hmn.blk HBga.out (fun h => h))
              have HBgb := Lib.hid (hmn.blk HBgb.out (fun h => h))
              go_simp
              clear hmn
              refine hK.out _ _ (HX.out _ Hw708723.out) (fun hHeld => ?_)
              clear hK K
              refine wpAnyT_take (i := 4) (v := ?_) rfl (by decide) (by kernel_rfl) (by kernel_rfl) (by kernel_rfl) (by kernel_rfl) (fun _ _ _ h => h) (Or.inl ⟨by rfl, ?_⟩) hHeld ?_
              rotate_left
              · (intro w hSw; (try dsimp only at hSw); go_simp; first | done | with_reducible rfl)
              simp only [Act.put, List.setIfInBounds_toArray, List.set_cons_zero, List.set_cons_succ]
              refine wpAnyT_take (i := 5) (v := ?_) rfl (by decide) (by kernel_rfl) (by kernel_rfl) (by kernel_rfl) (by kernel_rfl) (fun _ _ _ h => h) (Or.inl ⟨by rfl, ?_⟩) hHeld ?_
              rotate_left
              · (intro w hSw; (try dsimp only at hSw); go_simp; first | done | with_reducible rfl)
              simp only [Act.put, List.setIfInBounds_toArray, List.set_cons_zero, List.set_cons_succ]
              refine wpAnyT_take (i := 6) (v := ?_) rfl (by decide) (by kernel_rfl) (by kernel_rfl) (by kernel_rfl) (by kernel_rfl) (fun _ _ _ h => h) (Or.inl ⟨by rfl, ?_⟩) hHeld ?_
              rotate_left
              · (intro w hSw; (try dsimp only at hSw); go_simp; first | done | with_reducible rfl)
              simp only [Act.put, List.setIfInBounds_toArray, List.set_cons_zero, List.set_cons_succ]
              have k0 := HBga.out.cell 0
              have k1 := HBga.out.cell 1
              have k2 := HBga.out.cell 2
              simp at k0 k1 k2
              have p0 := HBga.out.frozen 0
              have p1 := HBga.out.frozen 1
              have p2 := HBga.out.frozen 2
              refine wpAnyT_ready (rs := [9]) (by kernel_rfl) (by simp) (AllReadyT.cons rfl (fun K hK => ?_) AllReadyT.nil)
              go_simp
              obtain ⟨W9, hW9, hb9, hm9, hM9⟩ := lay_over1 HBga.out (.slice P r s) (.slice P2 r2 s2) (.int .i64 N')
              rw [← hW9]
              have hab : ¬ gb = ga := fun e => by have h := HBgb.out; rw [e] at h; exact Blk.ne_ HBga.out h (by decide) rfl
              have H9 := Lib.hid (Hw708723.out.own hm9 Hgal.out)
              have HB9 := Lib.hid hb9
              have HBg := Lib.hid (hm9.blk HBgb.out hab)
              have HM9 := Lib.hid (hM9 HMx.out)
              have HS9 := Lib.hid (HSx.out.mod hm9 (fun j cs' _ hb e => by rw [e] at hb; exact Blk.ne_ HBga.out hb (by decide) rfl))
              clear hW9 hb9 hm9 hM9 k0 k1 k2 p0 p1 p2
              refine hK.out _ _ (HX.out _ H9.out) (fun hHeld => ?_)
              clear hK K hHeld
              have k0 := HBg.out.cell 0
              have k1 := HBg.out.cell 1
              have k2 := HBg.out.cell 2
              simp at k0 k1 k2
              have p0 := HBg.out.frozen 0
              have p1 := HBg.out.frozen 1
              have p2 := HBg.out.frozen 2
              refine wpAnyT_rest (by kernel_rfl) ?_
              refine wpAny_ready (rs := [10]) (by kernel_rfl) (by simp) (AllReady.cons rfl (fun K hK => ?_) AllReady.nil)
              go_simp
              refine hK _ _ ?_
              clear hK K
              refine wpAny_done (by kernel_rfl) ?_ _
              go_wp2_with fail
              go_meet
              have h3 := Mod.three_one W9 gb (.int .i64 x') (.int .i64 y') (.slice P3 r3 s3)
              exact ⟨ga, gb, P, r, s, P2, r2, s2, P3, r3, s3, rfl, rfl, h3.blk HB9.out (fun e => hab e.symm), (HBg.out.three _ _ _).2.2.2, ⟨M', HM9.out.far h3 (Far.one HBg.out (by decide) (by decide) (by decide))⟩, ⟨l', HS9.out.mod h3 (fun j cs' _ hb e => by rw [e] at hb; exact Blk.ne_ HBg.out hb (by decide) rfl)⟩, H9.out.own h3 Hgbl.out⟩
    case rest =>
      obtain ⟨ga, gb, P, r, s, P2, r2, s2, P3, r3, s3, rfl, rfl, hx⟩ := hcut
      have HX0s := Lib.hid hx
      have hrm : r ≤ 9223372036854775807 ∧ r2 ≤ 9223372036854775807 ∧ r3 ≤ 9223372036854775807 := by
        obtain ⟨_, _, ⟨m9, h9⟩, ⟨l9, h8⟩, _⟩ := hx
        obtain ⟨ps9, is9, _, _, _, _, q1, q2, q3, q4⟩ := h9.rdm
        obtain ⟨_, q5, q6, _⟩ := h8.rds
        unfold maxLen at q2 q4 q6
        omega
      obtain ⟨hrm1, hrm2, hrm3⟩ := hrm
      clear hx Hop Hdo HX
      have y0 := HX0s.out.1.cell 0
      simp at y0
      go_upto_block 2 with fail
      clear y0
      go_cut [10, 11] from 57 to 89 (fun s10 s11 wx => XSt W0.heap.size W0 wx ga gb (.slice P r s) (.slice P2 r2 s2) (.int .i64 N') (.int .i64 x') (.int .i64 y') (.slice P3 r3 s3))
      case first =>
        go_wp2_with fail
        go_loopg [57] r (fun gk s57 wr => ∃ i : Nat, i + gk = r ∧ s57 = .int .i64 (i : Int) ∧ XSt W0.heap.size W0 wr ga gb (.slice P r s) (.slice P2 r2 s2) (.int .i64 N') (.int .i64 x') (.int .i64 y') (.slice P3 r3 s3))
        case atStart => exact ⟨0, by omega, rfl, HX0s.out⟩
        case round =>
          obtain ⟨i, hik, rfl, hx⟩ := hrel
          have Hik := Lib.hid hik
          by_cases hin : i < r
          · have hin' : (i : Int) < (r : Int) := by omega
            have hip : (0 : Int) ≤ (i : Int) := by omega
            obtain ⟨g, A4, n4, c4, rfl, hBg, ⟨z, k3⟩, f3, hx1, hro⟩ := hx.rowS hin (Nat.le_refl _)
            have hat5 : (⟨g, 0, none⟩ : Addr).add (i * 5) = ⟨g, i * 5, none⟩ := by rw [add_addr, Nat.zero_add]
            have x0 := hx.1.cell 0
            simp at x0
            obtain ⟨W1, hW1⟩ : ∃ W1, W1 = wr.setCell ⟨g, i * 5 + 3, none⟩ (.int .i64 777) := ⟨_, rfl⟩
            rw [← hW1] at hx1 hro
            have HW1 := Lib.hid hW1; have Hx1 := Lib.hid hx1; have Hro := Lib.hid hro
            have hwi : wrap64 ((i : Int) + 1) = (i : Int) + 1 := IntWalk.wrap64_in _ (by omega)
            have hn4m : n4 ≤ 9223372036854775807 := by
              obtain ⟨_, _, l9, h9⟩ := hro
              obtain ⟨_, q5, q6, _⟩ := h9.rds
              unfold maxLen at q6
              omega
            clear hik hx hW1 hx1 hro hin
            obtain ⟨go1, rfl⟩ : ∃ go1 : Nat, go1 = gk := ⟨_, rfl⟩
            obtain ⟨wo1, rfl⟩ : ∃ wo1 : World, wo1 = wr := ⟨_, rfl⟩
            go_upto_region 12 with fail
            rw [← HW1.out]
            clear HW1 k3 f3 x0
            have x0 := Hx1.out.1.cell 0
            have y4 := Hro.out.2.1
            simp at x0
            go_wp2_with fail
            clear x0 y4
            go_loopg [72] n4 (fun gk s72 wr => ∃ k : Nat, k + gk = n4 ∧ s72 = .int .i64 (k : Int) ∧ XSt W0.heap.size W0 wr ga gb (.slice (some ⟨g, 0, none⟩) r s) (.slice P2 r2 s2) (.int .i64 N') (.int .i64 x') (.int .i64 y') (.slice P3 r3 s3) ∧ RowAt W0.heap.size wr g (i * 5 + 4) 43 A4 n4 c4)
            case atStart => exact ⟨0, by omega, rfl, Hx1.out, Hro.out⟩
            case round =>
              clear Hx1 Hro
              obtain ⟨k, hkk, rfl, hx, hro⟩ := hrel
              have Hkk := Lib.hid hkk; have Hx := Lib.hid hx; have Hro := Lib.hid hro
              clear hkk hx hro
              by_cases hkn : k < n4
              · have hkn' : (k : Int) < (n4 : Int) := by omega
                have hkp : (0 : Int) ≤ (k : Int) := by omega
                have hwk : wrap64 ((k : Int) + 1) = (k : Int) + 1 := IntWalk.wrap64_in _ (by omega)
                obtain ⟨_, y4, l4, hl4⟩ := Hro.out
                obtain ⟨gs, o4, T, V, cs, rfl, hBs, hbs, hc0, V', rfl, hc1⟩ := hl4.at_ hkn
                have hat2 : (⟨gs, o4, none⟩ : Addr).add (k * 2) = ⟨gs, o4 + k * 2, none⟩ := by rw [add_addr]
                have v1 := hbs.cell (o4 + k * 2 + 1)
                rw [hc1] at v1
                have f1 := hbs.frozen (o4 + k * 2 + 1)
                obtain ⟨V2, hV2⟩ : ∃ V2 : Nat, IntKind.u64.wrap ((V' : Int) + 1) = (V2 : Int) := ⟨((V' : Int) + 1).toNat % 18446744073709551616, by show ((V' : Int) + 1) % 18446744073709551616 = _; omega⟩
                have hV3 : ((V' : Int) + 1) % 18446744073709551616 = (V2 : Int) := hV2
                have x0 := Hx.out.1.cell 0
                simp at x0
                have HxN := Lib.hid (Hx.out.poke hbs hBs hc1 (.inr ⟨V', V2, rfl, rfl⟩)); have HroN := Lib.hid (Hro.out.poke hbs hc1 (.inr ⟨V', V2, rfl, rfl⟩) (by decide))
                clear hl4 hBs hbs hc0 hc1 hkn
                go_wp2_with fail
                go_roundg (gk - 1)
                case measure => have := Hkk.out; omega
                case rel => exact ⟨k + 1, by have := Hkk.out; omega, by go_num, HxN.out, HroN.out⟩
              · have hkn' : ¬ (k : Int) < (n4 : Int) := by omega
                go_wp2_with fail
                go_roundg (go1 - 1)
                case measure => have := Hik.out; omega
                case rel => exact ⟨i + 1, by have := Hik.out; omega, by go_num, Hx.out⟩
          · have hin' : ¬ (i : Int) < (r : Int) := by omega
            have Hx := Lib.hid hx
            clear hx hik hin
            go_wp2_with fail
            go_meet
            case rel => exact Hx.out
      case rest =>
        have HXa := Lib.hid hcut
        clear hcut HX0s
        have y1 := HXa.out.1.cell 1
        simp at y1
        go_upto_block 6 with fail
        clear y1
        go_cut [12, 13] from 93 to 120 (fun s12 s13 wx => XSt W0.heap.size W0 wx ga gb (.slice P r s) (.slice P2 r2 s2) (.int .i64 N') (.int .i64 x') (.int .i64 y') (.slice P3 r3 s3))
        case first =>
          go_wp2_with fail
          go_loopg [93] r2 (fun gk s93 wr => ∃ i : Nat, i + gk = r2 ∧ s93 = .int .i64 (i : Int) ∧ XSt W0.heap.size W0 wr ga gb (.slice P r s) (.slice P2 r2 s2) (.int .i64 N') (.int .i64 x') (.int .i64 y') (.slice P3 r3 s3))
          case atStart => exact ⟨0, by omega, rfl, HXa.out⟩
          case round =>
            clear HXa
            obtain ⟨i, hik, rfl, hx⟩ := hrel
            have Hik := Lib.hid hik
            by_cases hin : i < r2
            · have hin' : (i : Int) < (r2 : Int) := by omega
              have hip : (0 : Int) ≤ (i : Int) := by omega
              obtain ⟨g, A4, n4, c4, rfl, hBg, hro⟩ := hx.rowI hin
              have hat5 : (⟨g, 0, none⟩ : Addr).add (i * 2) = ⟨g, i * 2, none⟩ := by rw [add_addr, Nat.zero_add]
              have hwi : wrap64 ((i : Int) + 1) = (i : Int) + 1 := IntWalk.wrap64_in _ (by omega)
              have hn4m : n4 ≤ 9223372036854775807 := by
                obtain ⟨_, _, l9, h9⟩ := hro
                obtain ⟨_, q5, q6, _⟩ := h9.rds
                unfold maxLen at q6
                omega
              have x1 := hx.1.cell 1
              have y4 := hro.2.1
              simp at x1
              have Hx := Lib.hid hx; have Hro := Lib.hid hro
              clear hik hx hro hin
              obtain ⟨go1, rfl⟩ : ∃ go1 : Nat, go1 = gk := ⟨_, rfl⟩
              obtain ⟨wo1, rfl⟩ : ∃ wo1 : World, wo1 = wr := ⟨_, rfl⟩
              go_wp2_with fail
              clear x1 y4
              go_loopg [103] n4 (fun gk s103 wr => ∃ k : Nat, k + gk = n4 ∧ s103 = .int .i64 (k : Int) ∧ XSt W0.heap.size W0 wr ga gb (.slice P r s) (.slice (some ⟨g, 0, none⟩) r2 s2) (.int .i64 N') (.int .i64 x') (.int .i64 y') (.slice P3 r3 s3) ∧ RowAt W0.heap.size wr g (i * 2 + 1) 50 A4 n4 c4)
              case atStart => exact ⟨0, by omega, rfl, Hx.out, Hro.out⟩
              case round =>
                clear Hx Hro
                obtain ⟨k, hkk, rfl, hx, hro⟩ := hrel
                have Hkk := Lib.hid hkk; have Hx := Lib.hid hx; have Hro := Lib.hid hro
                clear hkk hx hro
                by_cases hkn : k < n4
                · have hkn' : (k : Int) < (n4 : Int) := by omega
                  have hkp : (0 : Int) ≤ (k : Int) := by omega
                  have hwk : wrap64 ((k : Int) + 1) = (k : Int) + 1 := IntWalk.wrap64_in _ (by omega)
                  obtain ⟨_, y4, l4, hl4⟩ := Hro.out
                  obtain ⟨gs, o4, T, V, cs, rfl, hBs, hbs, hc0, V', rfl, hc1⟩ := hl4.at_ hkn
                  have hat2 : (⟨gs, o4, none⟩ : Addr).add (k * 2) = ⟨gs, o4 + k * 2, none⟩ := by rw [add_addr]
                  have v1 := hbs.cell (o4 + k * 2 + 1)
                  rw [hc1] at v1
                  have f1 := hbs.frozen (o4 + k * 2 + 1)
                  obtain ⟨V2, hV2⟩ : ∃ V2 : Nat, IntKind.u64.wrap ((V' : Int) + 1) = (V2 : Int) := ⟨((V' : Int) + 1).toNat % 18446744073709551616, by show ((V' : Int) + 1) % 18446744073709551616 = _; omega⟩
                  have hV3 : ((V' : Int) + 1) % 18446744073709551616 = (V2 : Int) := hV2
                  have x1 := Hx.out.1.cell 1
                  simp at x1
                  have HxN := Lib.hid (Hx.out.poke hbs hBs hc1 (.inr ⟨V', V2, rfl, rfl⟩)); have HroN := Lib.hid (Hro.out.poke hbs hc1 (.inr ⟨V', V2, rfl, rfl⟩) (by decide))
                  clear hl4 hBs hbs hc0 hc1 hkn
                  go_wp2_with fail
                  go_roundg (gk - 1)
                  case measure => have := Hkk.out; omega
                  case rel => exact ⟨k + 1, by have := Hkk.out; omega, by go_num, HxN.out, HroN.out⟩
                · have hkn' : ¬ (k : Int) < (n4 : Int) := by omega
                  go_wp2_with fail
                  go_roundg (go1 - 1)
                  case measure => have := Hik.out; omega
                  case rel => exact ⟨i + 1, by have := Hik.out; omega, by go_num, Hx.out⟩
            · have hin' : ¬ (i : Int) < (r2 : Int) := by omega
              have Hx := Lib.hid hx
              clear hx hik hin
              go_wp2_with fail
              go_meet
              case rel => exact Hx.out
        case rest =>
          have HXb := Lib.hid hcut
          clear hcut HXa
          have y2 := HXb.out.2.1.cell 2
          simp at y2
          go_upto_block 10 with fail
          clear y2
          go_cut [14] from 124 to 136 (fun s14 wx => XSt W0.heap.size W0 wx ga gb (.slice P r s) (.slice P2 r2 s2) (.int .i64 N') (.int .i64 x') (.int .i64 y') (.slice P3 r3 s3))
          case first =>
            go_wp2_with fail
            go_loopg [124] r3 (fun gk s124 wr => ∃ i : Nat, i + gk = r3 ∧ s124 = .int .i64 (i : Int) ∧ XSt W0.heap.size W0 wr ga gb (.slice P r s) (.slice P2 r2 s2) (.int .i64 N') (.int .i64 x') (.int .i64 y') (.slice P3 r3 s3))
            case atStart => exact ⟨0, by omega, rfl, HXb.out⟩
            case round =>
              clear HXb
              obtain ⟨k, hkk, rfl, hx⟩ := hrel
              have Hkk := Lib.hid hkk; have Hx := Lib.hid hx
              clear hkk hx
              by_cases hkn : k < r3
              · have hkn' : (k : Int) < (r3 : Int) := by omega
                have hkp : (0 : Int) ≤ (k : Int) := by omega
                have hwk : wrap64 ((k : Int) + 1) = (k : Int) + 1 := IntWalk.wrap64_in _ (by omega)
                obtain ⟨l4, hl4⟩ := Hx.out.2.2.2.1
                obtain ⟨gs, o4, T, V, cs, rfl, hBs, hbs, hc0, V', rfl, hc1⟩ := hl4.at_ hkn
                have hat2 : (⟨gs, o4, none⟩ : Addr).add (k * 2) = ⟨gs, o4 + k * 2, none⟩ := by rw [add_addr]
                have v1 := hbs.cell (o4 + k * 2)
                rw [hc0] at v1
                have f1 := hbs.frozen (o4 + k * 2)
                obtain ⟨T2, hT2⟩ : ∃ T2, wrap64 (T + 1) = T2 := ⟨_, rfl⟩
                have x2 := Hx.out.2.1.cell 2
                simp at x2
                have HxN := Lib.hid (Hx.out.poke hbs hBs hc0 (.inl ⟨T, T2, rfl, rfl⟩))
                clear hl4 hBs hbs hc0 hc1 hkn
                go_wp2_with fail
                go_roundg (gk - 1)
                case measure => have := Hkk.out; omega
                case rel => exact ⟨k + 1, by have := Hkk.out; omega, by go_num, HxN.out⟩
              · have hkn' : ¬ (k : Int) < (r3 : Int) := by omega
                clear hkn
                go_wp2_with fail
                go_meet
                case rel => exact Hx.out
          case rest =>
            obtain ⟨_, _, _, _, hmz⟩ := hcut
            obtain ⟨wz, rfl⟩ : ∃ wz : World, wz = wc := ⟨_, rfl⟩
            clear HXb
            have h5 := hmz.blk Hb5'.out (fun h => h)
            have h6 := hmz.blk Hb6'.out (fun h => h)
            have hMz := HM.out.new hmz
            have hXz := HX0.out.new hmz
            obtain ⟨q1, q2⟩ := hav_len hMz HK.out
            have hsm := rsame_any M M A A2 U U2 n c n2 c2 a b a2 b2 _ _ wz hMz.rdm hXz.rdm q1 q2 (HL.out.more (by omega))
            rw [HN.out] at hsm
            have Hsm := Lib.hid hsm
            have Hmz := Lib.hid (Hm.out.trans hmz (fun _ _ h => h))
            have x0 := h5.cell 0
            have x1 := h5.cell 1
            have x2 := h5.cell 2
            simp at x0 x1 x2
            have z0 := h6.cell 0
            have z1 := h6.cell 1
            have z2 := h6.cell 2
            simp at z0 z1 z2
            clear h5 h6 hMz hXz q1 q2 hsm hmz
            go_wp2_with fail
            refine Hsm.out.mono ?_
            rintro e w10 ⟨b0, rfl, hb0, hm10⟩
            obtain rfl : b0 = true := by simpa using hb0
            have Hm10 := Lib.hid (Hmz.out.trans hm10 (fun _ _ h => h))
            clear hb0 hm10
            go_wp2_with fail
            refine (Haw.out w10).mono ?_
            rintro e w11 ⟨rfl, hm11⟩
            go_wp2_with fail
            go_ret
            exact ⟨rfl, Hm10.out.trans hm11 (fun _ _ h => h)⟩
end Go.Proofs.Ytejnhdenehkpmaa

/- TimeLong's walk. -/
import Derived.Test.YtjphlbnbgpjfmaaDoorTs
import Derived.Deep.CutBlock
import Derived.Deep.RegionHeldLaw
namespace Go.Proofs.YtjphlbnbgpjfmaaDoor
open Go.RowKit

def LeastTo (d : Int) (i m : Nat) : Prop := m = (if i < 1 ∧ -64 ≤ d ∧ d < 64 then 1 else if i < 2 ∧ -256 ≤ d ∧ d < 256 then 2 else if i < 3 ∧ -2048 ≤ d ∧ d < 2048 then 3 else 4)
theorem LeastTo.in_ {d : Int} {i m : Nat} (_h : LeastTo d (i + 1) m) (hi : i < 3) (hd : (i = 0 ∧ -64 ≤ d ∧ d < 64) ∨ (i = 1 ∧ -256 ≤ d ∧ d < 256) ∨ (i = 2 ∧ -2048 ≤ d ∧ d < 2048)) : LeastTo d i (i + 1) := by
  unfold LeastTo at *
  have hi' : i = 0 ∨ i = 1 ∨ i = 2 := by omega
  rcases hi' with rfl | rfl | rfl <;> (split; omega; split; omega; split; omega; omega)
theorem LeastTo.out {d : Int} {i m : Nat} (h : LeastTo d (i + 1) m) (hi : i < 3) (hd : ¬ ((i = 0 ∧ -64 ≤ d ∧ d < 64) ∨ (i = 1 ∧ -256 ≤ d ∧ d < 256) ∨ (i = 2 ∧ -2048 ≤ d ∧ d < 2048))) : LeastTo d i m := by
  unfold LeastTo at *
  rw [h]
  have hi' : i = 0 ∨ i = 1 ∨ i = 2 := by omega
  rcases hi' with rfl | rfl | rfl
  · rw [if_neg (by omega), if_neg (show ¬ (0 < 1 ∧ -64 ≤ d ∧ d < 64) by omega)]
    by_cases h2 : -256 ≤ d ∧ d < 256
    · rw [if_pos (show 0 + 1 < 2 ∧ -256 ≤ d ∧ d < 256 by omega), if_pos (show 0 < 2 ∧ -256 ≤ d ∧ d < 256 by omega)]
    · rw [if_neg (by omega), if_neg (show ¬ (0 < 2 ∧ -256 ≤ d ∧ d < 256) by omega)]
      by_cases h3 : -2048 ≤ d ∧ d < 2048
      · rw [if_pos (by omega), if_pos (by omega)]
      · rw [if_neg (by omega), if_neg (by omega)]
  · rw [if_neg (by omega), if_neg (by omega), if_neg (show ¬ (1 < 1 ∧ -64 ≤ d ∧ d < 64) by omega), if_neg (show ¬ (1 < 2 ∧ -256 ≤ d ∧ d < 256) by omega)]
    by_cases h3 : -2048 ≤ d ∧ d < 2048
    · rw [if_pos (by omega), if_pos (by omega)]
    · rw [if_neg (by omega), if_neg (by omega)]
  · rw [if_neg (by omega), if_neg (by omega), if_neg (by omega), if_neg (by omega), if_neg (by omega), if_neg (by omega)]
theorem LeastTo.end_ {d : Int} {m : Nat} (h : LeastTo d 0 m) (h0 : d ≠ 0) : m = hd d := by
  unfold LeastTo at h
  unfold hd
  rw [h, if_neg h0]
  by_cases h1 : -64 ≤ d ∧ d < 64
  · rw [if_pos ⟨by omega, h1⟩, if_pos h1]
  · rw [if_neg (fun h => h1 h.2), if_neg h1]
    by_cases h2 : -256 ≤ d ∧ d < 256
    · rw [if_pos ⟨by omega, h2⟩, if_pos h2]
    · rw [if_neg (fun h => h2 h.2), if_neg h2]
      by_cases h3 : -2048 ≤ d ∧ d < 2048
      · rw [if_pos ⟨by omega, h3⟩, if_pos h3]
      · rw [if_neg (fun h => h3 h.2), if_neg h3]
theorem LeastTo.le {d : Int} {i m : Nat} (h : LeastTo d i m) : 1 ≤ m ∧ m ≤ 4 := by
  unfold LeastTo at h
  rw [h]
  split
  · omega
  · split
    · omega
    · split <;> omega
theorem hw_le4 (k : Nat) : hw k ≤ 4 := by unfold hw; split; omega; split; omega; split; omega; omega
theorem hw_le (k : Nat) : hw k ≤ 64 := by have := hw_le4 k; omega
theorem hv_lt64 (k : Nat) : Lt64 (hv k) := by
  have h : hv k ≤ 15 := by unfold hv; split; omega; split; omega; split; omega; split; omega; omega
  unfold Lt64
  omega
theorem wrap64_in' {x : Int} (h : -4000 ≤ x ∧ x ≤ 5000) : wrap64 x = x := IntWalk.wrap64_in x (by omega)
/-- The three literals: heads, and how many bits they have, and what stands behind. -/
structure Lits (w : World) (h6 h7 h8 : Nat) : Prop where
  hv : ∀ k, k < 5 → w.cell? ⟨h6, k, none⟩ = some (.int .u64 (hv k : Nat))
  hw : ∀ k, k < 5 → w.cell? ⟨h7, k, none⟩ = some (.int .i64 (hw k : Nat))
  sz : ∀ k, k < 5 → w.cell? ⟨h8, k, none⟩ = some (.int .i64 (sz k : Nat))
  l6 : h6 < w.heap.size
  l7 : h7 < w.heap.size
  l8 : h8 < w.heap.size
theorem Lits.mod {w w' : World} {h6 h7 h8 : Nat} {S : Nat → Prop} (h : Lits w h6 h7 h8) (hm : Mod S w w') (n6 : ¬ S h6) (n7 : ¬ S h7) (n8 : ¬ S h8) : Lits w' h6 h7 h8 :=
  ⟨fun k hk => (hm.cell (a := ⟨h6, k, none⟩) h.l6 n6).trans (h.hv k hk), fun k hk => (hm.cell (a := ⟨h7, k, none⟩) h.l7 n7).trans (h.hw k hk), fun k hk => (hm.cell (a := ⟨h8, k, none⟩) h.l8 n8).trans (h.sz k hk),
    Nat.lt_of_lt_of_le h.l6 hm.size, Nat.lt_of_lt_of_le h.l7 hm.size, Nat.lt_of_lt_of_le h.l8 hm.size⟩
theorem lits_new (w : World) : Lits (((w.alloc (.cells #[.int .u64 0, .int .u64 2, .int .u64 6, .int .u64 14, .int .u64 15] 23)).alloc (.cells #[.int .i64 1, .int .i64 2, .int .i64 3, .int .i64 4, .int .i64 4] 3)).alloc (.cells #[.int .i64 0, .int .i64 7, .int .i64 9, .int .i64 12, .int .i64 64] 3))
    w.heap.size (w.heap.size + 1) (w.heap.size + 1 + 1) := by
  have five : ∀ k, k < 5 → k = 0 ∨ k = 1 ∨ k = 2 ∨ k = 3 ∨ k = 4 := fun k hk => by omega
  have b6 := ((Blk.new w 23 #[.int .u64 0, .int .u64 2, .int .u64 6, .int .u64 14, .int .u64 15]).alloc (.cells #[.int .i64 1, .int .i64 2, .int .i64 3, .int .i64 4, .int .i64 4] 3)).alloc (.cells #[.int .i64 0, .int .i64 7, .int .i64 9, .int .i64 12, .int .i64 64] 3)
  have b7 := (Blk.new (w.alloc (.cells #[.int .u64 0, .int .u64 2, .int .u64 6, .int .u64 14, .int .u64 15] 23)) 3 #[.int .i64 1, .int .i64 2, .int .i64 3, .int .i64 4, .int .i64 4]).alloc (.cells #[.int .i64 0, .int .i64 7, .int .i64 9, .int .i64 12, .int .i64 64] 3)
  have b8 := Blk.new ((w.alloc (.cells #[.int .u64 0, .int .u64 2, .int .u64 6, .int .u64 14, .int .u64 15] 23)).alloc (.cells #[.int .i64 1, .int .i64 2, .int .i64 3, .int .i64 4, .int .i64 4] 3)) 3 #[.int .i64 0, .int .i64 7, .int .i64 9, .int .i64 12, .int .i64 64]
  have e7 : (w.alloc (.cells #[.int .u64 0, .int .u64 2, .int .u64 6, .int .u64 14, .int .u64 15] 23)).heap.size = w.heap.size + 1 := by simp
  have e8 : ((w.alloc (.cells #[.int .u64 0, .int .u64 2, .int .u64 6, .int .u64 14, .int .u64 15] 23)).alloc (.cells #[.int .i64 1, .int .i64 2, .int .i64 3, .int .i64 4, .int .i64 4] 3)).heap.size = w.heap.size + 1 + 1 := by simp
  rw [e7] at b7
  rw [e8] at b8
  exact ⟨fun k hk => (b6.cell k).trans (by rcases five k hk with rfl | rfl | rfl | rfl | rfl <;> rfl), fun k hk => (b7.cell k).trans (by rcases five k hk with rfl | rfl | rfl | rfl | rfl <;> rfl),
    fun k hk => (b8.cell k).trans (by rcases five k hk with rfl | rfl | rfl | rfl | rfl <;> rfl), b6.lt, b7.lt, b8.lt⟩
set_option maxHeartbeats 4000000 in
set_option maxRecDepth 100000 in
theorem timeLong_walk (n how : Int) (w : World) (hwid : Wid w) :
    Calls Tryd.prog 3 #[.int .i64 n, .int .i64 how] w fun e w' => e = .returned (.bool true) ∧ Mod (fun _ => False) w w' := by
  have Hwid := Lib.hid hwid
  clear hwid
  obtain ⟨x, hx, hx4⟩ : ∃ x : Nat, bits .and .i64 n 4095 = (x : Int) ∧ x < 4096 := and_nat n 4095 12 rfl (by omega)
  obtain ⟨b, hb, hb2⟩ : ∃ b : Nat, bits .and .i64 (n / 4096) 1 = (b : Int) ∧ b < 2 := and_nat (n / 4096) 1 1 rfl (by omega)
  obtain ⟨y, hy, hy8⟩ : ∃ y : Nat, bits .and .i64 how 255 = (y : Int) ∧ y < 256 := and_nat how 255 8 rfl (by omega)
  go_enter Tryd.func3, Tryd.ntmps3
  go_upto_if 21 with fail
  go_cut [5] (fun s5 wc => ∃ d : Int, -4095 ≤ d ∧ d ≤ 4095 ∧ s5 = .int .i64 d ∧ w = wc)
  case first =>
    by_cases h1 : b = 1
    · subst h1
      go_wp2_with fail
      go_meet
      case rel => exact ⟨-(x : Int), by omega, by omega, rfl, rfl⟩
    · have hb0 : ((b : Int) == 1) = false := by simp; omega
      go_wp2_with fail
      go_meet
      case rel => exact ⟨(x : Int), by omega, by omega, rfl, rfl⟩
  case rest =>
    obtain ⟨d, hd1, hd2, rfl, rfl⟩ := hcut
    clear hx hx4 hb hb2
    go_upto_block 0 with fail
    have HL : Hid (Lits _ _ _ _) := Lib.hid (lits_new w)
    obtain ⟨wL, hwL⟩ : ∃ wL, wL = (((w.alloc (.cells #[.int .u64 0, .int .u64 2, .int .u64 6, .int .u64 14, .int .u64 15] 23)).alloc (.cells #[.int .i64 1, .int .i64 2, .int .i64 3, .int .i64 4, .int .i64 4] 3)).alloc (.cells #[.int .i64 0, .int .i64 7, .int .i64 9, .int .i64 12, .int .i64 64] 3)) := ⟨_, rfl⟩
    have HmL : Hid (Mod (fun _ => False) w wL) := Lib.hid (by rw [hwL]; exact (((Mod.refl _ _).alloc _).alloc _).alloc _)
    rw [← hwL] at HL ⊢
    clear hwL
    go_cut [9, 10] (fun s9 s10 wc => ∃ m : Nat, s9 = .int .i64 (m : Int) ∧ s10 = .int .i64 0 ∧ LeastTo d 0 m ∧ wc = wL)
    case first =>
      go_wp2_with fail
      go_loopg [9, 10] 3 (fun l s9 s10 wr => ∃ m : Nat, l ≤ 3 ∧ s10 = .int .i64 (l : Int) ∧ s9 = .int .i64 (m : Int) ∧ LeastTo d l m ∧ wr = wL)
      case atStart => exact ⟨4, by omega, rfl, rfl, by unfold LeastTo; rw [if_neg (by omega), if_neg (by omega), if_neg (by omega)], rfl⟩
      case round =>
        obtain ⟨m, hl3, rfl, rfl, hM, rfl⟩ := hrel
        have HM := Lib.hid hM
        clear hM
        by_cases hl0 : gk = 0
        · subst hl0
          go_wp2_with fail
          go_meet
          case rel => exact ⟨m, rfl, rfl, HM.out, rfl⟩
        · obtain ⟨i, rfl⟩ : ∃ i, gk = i + 1 := ⟨gk - 1, by omega⟩
          have hi : i = 0 ∨ i = 1 ∨ i = 2 := by omega
          clear hl0
          rcases hi with rfl | rfl | rfl
          · have hc2 : wr.cell? ⟨w.heap.size + 1 + 1, 1, none⟩ = some (.int .i64 7) := HL.out.sz 1 (by omega)
            by_cases ha : -64 ≤ d
            · by_cases hb : d < 64
              · have HN := Lib.hid (HM.out.in_ (by omega) (.inl ⟨rfl, ha, hb⟩))
                go_wp2_with fail
                go_roundg 0
                case measure => omega
                case rel => exact ⟨1, by omega, by go_num, rfl, HN.out, rfl⟩
              · have HN := Lib.hid (HM.out.out (by omega) (by omega))
                go_wp2_with fail
                go_roundg 0
                case measure => omega
                case rel => exact ⟨m, by omega, by go_num, rfl, HN.out, rfl⟩
            · have HN := Lib.hid (HM.out.out (by omega) (by omega))
              go_wp2_with fail
              go_roundg 0
              case measure => omega
              case rel => exact ⟨m, by omega, by go_num, rfl, HN.out, rfl⟩
          · have hc2 : wr.cell? ⟨w.heap.size + 1 + 1, 2, none⟩ = some (.int .i64 9) := HL.out.sz 2 (by omega)
            by_cases ha : -256 ≤ d
            · by_cases hb : d < 256
              · have HN := Lib.hid (HM.out.in_ (by omega) (.inr (.inl ⟨rfl, ha, hb⟩)))
                go_wp2_with fail
                go_roundg 1
                case measure => omega
                case rel => exact ⟨2, by omega, by go_num, rfl, HN.out, rfl⟩
              · have HN := Lib.hid (HM.out.out (by omega) (by omega))
                go_wp2_with fail
                go_roundg 1
                case measure => omega
                case rel => exact ⟨m, by omega, by go_num, rfl, HN.out, rfl⟩
            · have HN := Lib.hid (HM.out.out (by omega) (by omega))
              go_wp2_with fail
              go_roundg 1
              case measure => omega
              case rel => exact ⟨m, by omega, by go_num, rfl, HN.out, rfl⟩
          · have hc2 : wr.cell? ⟨w.heap.size + 1 + 1, 3, none⟩ = some (.int .i64 12) := HL.out.sz 3 (by omega)
            by_cases ha : -2048 ≤ d
            · by_cases hb : d < 2048
              · have HN := Lib.hid (HM.out.in_ (by omega) (.inr (.inr ⟨rfl, ha, hb⟩)))
                go_wp2_with fail
                go_roundg 2
                case measure => omega
                case rel => exact ⟨3, by omega, by go_num, rfl, HN.out, rfl⟩
              · have HN := Lib.hid (HM.out.out (by omega) (by omega))
                go_wp2_with fail
                go_roundg 2
                case measure => omega
                case rel => exact ⟨m, by omega, by go_num, rfl, HN.out, rfl⟩
            · have HN := Lib.hid (HM.out.out (by omega) (by omega))
              go_wp2_with fail
              go_roundg 2
              case measure => omega
              case rel => exact ⟨m, by omega, by go_num, rfl, HN.out, rfl⟩
    case rest =>
      obtain ⟨m, rfl, rfl, hM, rfl⟩ := hcut
      have HM := Lib.hid hM
      clear hM
      go_upto_if 53 with fail
      have hm1 := HM.out.le
      have Hend : Hid (d ≠ 0 → m = hd d) := Lib.hid (fun h => HM.out.end_ h)
      clear HM
      obtain ⟨h, Hh⟩ : ∃ h, Hid (h = hd d) := ⟨_, Lib.hid rfl⟩
      have hh4 : h ≤ 4 := by rw [Hh.out]; exact hd_le d
      go_cut [9] (fun s9 w2 => s9 = .int .i64 (h : Int) ∧ w2 = wc)
      case first =>
        by_cases h0 : d = 0
        · have hz : h = 0 := by rw [Hh.out, h0]; rfl
          have hb : (d == 0) = true := by simp [h0]
          subst hz
          go_wp2_with fail
          go_meet
          case rel => exact ⟨rfl, rfl⟩
        · have hz : m = h := by rw [Hh.out]; exact Hend.out h0
          have hb : (d == 0) = false := by simp [h0]
          subst hz
          go_wp2_with fail
          go_meet
          case rel => exact ⟨rfl, rfl⟩
      case rest =>
        obtain ⟨rfl, rfl⟩ := hcut
        clear Hend hm1
        obtain ⟨q, hq, hq0⟩ : ∃ q : Nat, (5 : Int) - (h : Int) = (q : Int) ∧ 0 < q := ⟨5 - h, by omega, by omega⟩
        obtain ⟨z, hz, hz4⟩ : ∃ z : Nat, (y : Int) % (q : Int) = (z : Int) ∧ h + z ≤ 4 := ⟨y % q, by rw [Int.natCast_emod], by have := Nat.mod_lt y hq0; omega⟩
        obtain ⟨k, hkc, hhk, hk4⟩ : ∃ k : Nat, (h : Int) + (z : Int) = (k : Int) ∧ h ≤ k ∧ k ≤ 4 := ⟨h + z, by omega, by omega, hz4⟩
        have hdf : Hid (Fits d) := Lib.hid ⟨by have hh : (H63 : Int) = 9223372036854775808 := rfl; omega, by have hh : (H63 : Int) = 9223372036854775808 := rfl; omega⟩
        have hwu : IntKind.u64.wrap d = (un d : Int) := wrapU_un d
        have hul : Hid (Lt64 (un d)) := Lib.hid (un_lt d)
        go_wp2_with fail
        refine (newWriter_wr _).mono ?_
        rintro e w1 ⟨g, rfl, hg1, hg2, hw1, hm1⟩
        have HL1 := Lib.hid (HL.out.mod hm1 (fun h => h) (fun h => h) (fun h => h)); have Hm1 := Lib.hid (HmL.out.trans hm1 (fun _ _ h => h))
        have H1 := Lib.hid (Wrote.refl hw1)
        have hwl := HmL.out.size
        have Hgl : Hid (w.heap.size ≤ g ∧ g ≠ w.heap.size ∧ g ≠ w.heap.size + 1 ∧ g ≠ w.heap.size + 1 + 1) := Lib.hid ⟨by omega, by have := HL.out.l6; omega, by have := HL.out.l7; omega, by have := HL.out.l8; omega⟩
        have HL1' : Hid (w.heap.size + 1 + 1 < w1.heap.size) := Lib.hid HL1.out.l8
        clear hz hq hkc hy hw1 hm1 hg1 hg2 hwl HL HmL
        go_wp2_with fail
        refine (put_wrote w1 g none 0 0 64 [] 100 100 64 _ rfl rfl (by decide) (show (100 : Nat) < 18446744073709551616 by decide) H1.out (by decide)).mono ?_
        rintro e w2 ⟨rfl, h2⟩
        have H2 := Lib.hid h2
        have HL2 : Hid (Lits w2 _ _ _) := Lib.hid (by
          obtain ⟨_, _, a2, _⟩ := h2
          exact HL1.out.mod a2 (fun h => h.elim (fun e => Hgl.out.2.1 e.symm) (fun e => by cases e)) (fun h => h.elim (fun e => Hgl.out.2.2.1 e.symm) (fun e => by cases e)) (fun h => h.elim (fun e => Hgl.out.2.2.2 e.symm) (fun e => by cases e)))
        have hk5 : (k : Int) < 5 := by omega
        have hk0 : (0 : Int) ≤ (k : Int) := by omega
        have hc6 := HL2.out.hv k (by omega)
        have hc7 := HL2.out.hw k (by omega)
        clear h2 HL1 H1
        go_upto_region 20 with fail
        go_still_tail 9, (by kernel_rfl)
        change wpList _ _ _ _ _ w2.drew
        have H3 : Hid (Wrote w1 w2.drew g none 0 0 ([] ++ [(100, 64)])) := Lib.hid (by
          obtain ⟨row', a1, a2, a3⟩ := H2.out
          exact ⟨row', a1.mod (Mod.refl (fun _ => False) w2).drew (fun h => h) (fun _ _ h => h), a2.drew, a3⟩)
        have HL3 := Lib.hid (HL2.out.mod (Mod.refl (fun _ => False) w2).drew (fun h => h) (fun h => h) (fun h => h))
        clear H2 HL2 hc6 hc7
        generalize w2.drew = w3 at *
        go_wp2_with fail
        refine (put_wrote w1 g none 0 0 (hw k) _ (hv k) _ _ _ rfl rfl (hw_le k) (hv_lt64 k) H3.out (by decide)).mono ?_
        rintro e w4 ⟨rfl, h4⟩
        have H4 := Lib.hid h4
        have hc8 := (Lits.mod HL3.out (Mod.refl (fun _ => False) w3) (fun h => h) (fun h => h) (fun h => h)).sz k (by omega)
        have hc8' : w4.cell? ⟨w.heap.size + 1 + 1, k, none⟩ = some (.int .i64 (sz k : Nat)) := by
          obtain ⟨row3, b1, b2, b3⟩ := H3.out
          obtain ⟨_, _, a2, _⟩ := h4
          have hl8 : w.heap.size + 1 + 1 < w1.heap.size := HL1'.out
          rw [a2.cell (a := ⟨w.heap.size + 1 + 1, k, none⟩) hl8 (fun h => h.elim (fun e => Hgl.out.2.2.2 e.symm) (fun e => by cases e)), ← b2.cell (a := ⟨w.heap.size + 1 + 1, k, none⟩) hl8 (fun h => h.elim (fun e => Hgl.out.2.2.2 e.symm) (fun e => by cases e))]
          exact hc8
        clear h4 H3 HL3 hc8
        go_wp2_with fail
        refine (put_wrote w1 g none 0 0 (sz k) _ (un d) _ _ _ rfl rfl (sz_le k) hul.out H4.out (by have := hw_le k; rw [flen_app]; show 0 + (64 + (hw k + 0)) ≤ _; omega)).mono ?_
        rintro e w5 ⟨rfl, h5⟩
        clear H4 hc8'
        obtain ⟨row, a1, a2, a3⟩ := h5
        have Hm5 := Lib.hid (Hm1.out.trans a2 (fun i hi h => h.elim (fun e => by have := Hgl.out.1; omega) (fun e => by cases e)))
        have hfl : flen (([] ++ [(100, 64)]) ++ [(hv k, hw k)] ++ [(un d, sz k)]) = 64 + hw k + sz k := by rw [flen_app, flen_app]; show 0 + (64 + 0) + (hw k + 0) + (sz k + 0) = _; omega
        rw [Nat.zero_add, Nat.zero_mul, Nat.zero_add, hfl] at a1
        have H5 := Lib.hid a1
        have hw4 := hw_le4 k
        have hs64 := sz_le k
        clear a1 a2 a3 hfl hul hwu
        go_wp2_with fail
        refine (bytes_any g row _ _ _ H5.out (by omega)).mono ?_
        rintro e w6 ⟨v, bs, rfl, hnew, hpk⟩
        obtain ⟨A6, c6, r6, rfl, _, hA6, _, _, hs6⟩ := hnew.form
        have Hm6 := Lib.hid (Hm5.out.trans hnew.2.1 (fun _ _ h => h))
        have hbl : bs.length ≤ 100 := by have := packed_len hpk; omega
        have Hpk := Lib.hid hpk; have Hs6 := Lib.hid hs6; have HA6 := Lib.hid hA6
        clear hnew hpk hs6 hA6 Hm5 H5
        go_wp2_with fail
        refine (newReader_any r6 A6 bs.length c6 bs _ Hs6.out HA6.out (by omega) Hpk.out.1).mono ?_
        rintro e w7 ⟨gr, rr, rfl, hgr, hrr, hm7, hrd⟩
        have Hm7 := Lib.hid (Hm6.out.trans hm7 (fun _ _ h => h))
        have hgrw : w.heap.size ≤ gr := by have := Hm6.out.size; omega
        have Hwid7 := Lib.hid (Hwid.out.mod Hm7.out (fun h => h))
        have hgr0 : gr ≠ 0 := by have := Hwid.out.1; omega
        obtain ⟨rr', hrr1, _, hrd'⟩ := hrd.real hgr0 Hwid7.out.1
        have Hrd := Lib.hid hrd'; have Hrr1 := Lib.hid hrr1; have Hgrw := Lib.hid hgrw
        have hread : Hid (∃ free, rdRow 2 (val bs) (8 * bs.length) = if k = hd d then some ([100, sg ((un 100 + un d) % M64)], 0, free) else none) := Lib.hid (by
          obtain ⟨_, free, hf, hl, hv'⟩ := Hpk.out
          have hr := rdRow_long (x := 100) (d := d) (k := k) (X := 0) (r := free) (rem := 8 * bs.length) hk4 (by rw [← Hh.out]; exact hhk) ⟨by decide, by decide⟩ hdf.out (Nat.two_pow_pos free) (by omega)
          refine ⟨free, ?_⟩
          rw [hv', ← hr]
          rfl)
        clear hgr hrr hm7 hrd hrd' hrr1 hgrw Hm6 Hs6 HA6
        go_wp2_with fail
        refine (decode_any gr rr' (val bs) (8 * bs.length) 2 2 _ (by decide) Hrd.out (by omega) Hrr1.out Hwid7.out hgr0).mono ?_
        intro e w8 hd8
        obtain ⟨free, hread⟩ := hread.out
        by_cases hkh : k = h
        · subst hkh
          rw [if_pos Hh.out] at hread
          obtain ⟨v, rfl, hown, hro, hm8⟩ := hd8.some_ hread
          obtain ⟨A8, c8, rfl, hr8⟩ := own_form hown
          have hx2 : sg ((un 100 + un d) % M64) = 100 + d := by
            have := add_prev 100 (un d)
            rw [sg_un hdf.out, wrap64_in' (by omega)] at this
            exact this.symm
          rw [hx2] at hr8
          have Hm8 := Lib.hid (Hm7.out.trans hm8 (fun i hi e => by have := Hgrw.out; omega)); have Hr8 := Lib.hid hr8
          have hll : [(100 : Int), sg ((un 100 + un d) % M64)].length = 2 := rfl
          rw [hll]
          clear hd8 hread hown hro hm8 hr8 Hm7 Hrd hx2 hll
          go_wp2_with fail
          refine (same_any A8 _ 2 c8 2 _ _ [100, 100 + d] _ (Hr8.out.fit.alloc (Nat.le_refl _) _) (Rds.lit _ 2 #[.int .i64 100, .int .i64 (100 + d)]) (by decide)).mono ?_
          rintro e w9 ⟨rfl, hm9⟩
          have Hm9 := Lib.hid ((Hm8.out.alloc _).trans hm9 (fun _ _ h => h))
          clear hm9 Hm8 Hr8
          go_wp2_with fail
          refine (awake_any _ (Hwid.out.mod Hm9.out (fun h => h))).mono ?_
          rintro e w10 ⟨rfl, hm10⟩
          have Hm10 := Lib.hid (Hm9.out.trans hm10 (fun _ _ h => h))
          clear hm10
          go_wp2_with fail
          go_ret
          exact ⟨rfl, Hm10.out⟩
        · rw [if_neg (fun e => hkh (e.trans Hh.out.symm))] at hread
          obtain ⟨rfl, _, hm8⟩ := hd8.none_ hread
          have Hm8 := Lib.hid (Hm7.out.trans hm8 (fun i hi e => by have := Hgrw.out; omega))
          have hkb : ((k : Int) == (h : Int)) = false := by simp; omega
          clear hd8 hread hm8 Hm7 Hrd
          go_wp2_with fail
          refine (awake_any _ (Hwid.out.mod Hm8.out (fun h => h))).mono ?_
          rintro e w10 ⟨rfl, hm10⟩
          have Hm10 := Lib.hid (Hm8.out.trans hm10 (fun _ _ h => h))
          clear hm10
          go_wp2_with fail
          go_ret
          exact ⟨rfl, Hm10.out⟩
end Go.Proofs.YtjphlbnbgpjfmaaDoor

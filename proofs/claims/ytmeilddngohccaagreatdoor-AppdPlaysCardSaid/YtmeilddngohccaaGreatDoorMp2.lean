/- The texts Bit0, Bitp, Bitq, Bitg, Bitw, Refw, Refb, Two, Refr, Play0, Conv, All4, Go, Xs, Xo, Sx, Cx, Cy, Kr, Ja, Bq, Jc, Te, Tw, Bok, Gok, Tg, Gw, Tp, Tr, Kp, Jd, Pn, Kt, Wz, Wp, We, Ku, Pp, Wg, Wd, Gl, Tt, Kn, one behind the other. -/
import Derived.Test.YtmeilddngohccaaGreatDoorMp1
import Derived.Test.YtmeilddngohccaaGreatDoorRows
namespace Go.Proofs.YtmeilddngohccaaGreatDoor
open Go.RowKit

theorem held_any (n : Int) (w : World) (h1 : -9223372036854775808 ≤ n) (h2 : n ≤ 9223372036854775807) :
  Calls Tryz.prog 98 #[.int .i64 n] w fun e w' => e = .returned (.int .u64 (max 0 (min n 64))) ∧ w = w' := by
 go_enter Tryz.func98, Tryz.ntmps98
 go_wp2
 all_goals go_ret
 all_goals exact ⟨ret_int (by omega), rfl⟩

theorem pow_le_256 {k : Nat} (h : k ≤ 8) : 2 ^ k ≤ 256 := by
 have := Nat.pow_le_pow_right (n := 2) (by omega) h
 omega

theorem lowest_int (v k : Nat) (h1 : v < 18446744073709551616) (h2 : k ≤ 8) :
  bits BinOp.and IntKind.u64 (↑v) (IntKind.u64.wrap (IntKind.u64.wrap (2 ^ k) - 1)) % 256 = ((v % 2 ^ k : Nat) : Int) := by
 have hp := pow_le_256 h2
 have h0 : 0 < 2 ^ k := Nat.two_pow_pos k
 have e : (IntKind.u64.wrap (IntKind.u64.wrap (2 ^ k) - 1)) = ((2 ^ k - 1 : Nat) : Int) := by
  have : ((2 : Int) ^ k) = ((2 ^ k : Nat) : Int) := by simp
  rw [this, IntKind.wrap_u64, IntKind.wrap_u64]
  omega
 rw [e, u64_and_nat _ _ h1 (by omega), Nat.and_two_pow_sub_one_eq_mod]
 have := Nat.mod_lt v h0
 omega

theorem lowest_any (v : Int) (k : Int) (w : World) (h0 : 0 ≤ v) (h1 : v < 18446744073709551616) (h3 : 0 ≤ k) (h2 : k ≤ 8) :
  Calls Tryz.prog 99 #[.int .u64 v, .int .u64 k] w fun e w' => e = .returned (.int .u8 ((v.toNat % 2 ^ k.toNat : Nat))) ∧ w = w' := by
 obtain ⟨v, rfl⟩ := Int.eq_ofNat_of_zero_le h0
 obtain ⟨k, rfl⟩ := Int.eq_ofNat_of_zero_le h3
 go_enter Tryz.func99, Tryz.ntmps99
 go_wp2
 go_ret
 exact ⟨ret_int (lowest_int v k (by omega) (by omega)), rfl⟩

theorem newWriter_any (w : World) :
  Calls Tryz.prog 56 #[] w fun e w' => e = .returned (.pointer (some ⟨w.heap.size, 0, none⟩)) ∧ w' = w.alloc (.cells #[.slice none 0 0, .int .u64 0] 114) := by
 go_enter Tryz.func56, Tryz.ntmps56
 go_wp2
 go_ret
 exact ⟨rfl, rfl⟩
end Go.Proofs.YtmeilddngohccaaGreatDoor

namespace Go.Proofs.YtmeilddngohccaaGreatDoor
open Go.RowKit

theorem Tryz.info5 : (Tryz.prog.info? 5).map (fun i => (i.zero, i.size, i.bytes)) = some (some (.int .u8 0), 1, 1) := by kernel_rfl

/-- A writer at block g, its bytes in 'row': N, of len bits; the last byte has 'free' bits to fill. -/
def WrF (w : World) (g : Nat) (row : Option Nat) (N len free : Nat) : Prop :=
 ∃ (v : Value) (bs : List Nat), Blk w g 114 #[v, .int .u64 (free : Int)] ∧ w.ownsRow 0 5 1 v bs.length (cells8 bs) ∧ v.ownBlock = row ∧ lt256 bs ∧
  len + free = 8 * bs.length ∧ val bs = N * 2 ^ free ∧ N < 2 ^ len
def Wr (w : World) (g : Nat) (row : Option Nat) (N len : Nat) : Prop := ∃ free, free < 8 ∧ WrF w g row N len free

def RowTo (w : World) (row row' : Option Nat) : Prop := row' = row ∨ ∃ r, row' = some r ∧ w.heap.size ≤ r

/-- What l rounds from the end Put has done. -/
def PutTo (w wr : World) (g : Nat) (row : Option Nat) (N len u k l : Nat) : Prop :=
 ∃ row', Wr wr g row' (N * 2 ^ (k - l) + u / 2 ^ l) (len + (k - l)) ∧ Mod (fun i => i = g ∨ row = some i) w wr ∧ RowTo w row row'
/-- Behind the test: there is room in the last byte. -/
def PutMid (w wr : World) (g : Nat) (row : Option Nat) (N len u k l : Nat) : Prop :=
 ∃ row' free, 0 < free ∧ free ≤ 8 ∧ WrF wr g row' (N * 2 ^ (k - l) + u / 2 ^ l) (len + (k - l)) free ∧ Mod (fun i => i = g ∨ row = some i) w wr ∧ RowTo w row row'

theorem RowTo.trans {w : World} {row row' row2 : Option Nat} {B : Nat} (h : RowTo w row row') (hB : w.heap.size ≤ B) (h2 : row2 = row' ∨ ∃ r, row2 = some r ∧ B ≤ r) : RowTo w row row2 := by
 rcases h2 with rfl | ⟨r, rfl, hr⟩
 ·exact h
 ·exact .inr ⟨r, rfl, by omega⟩
theorem RowTo.in_ {w : World} {row row' : Option Nat} (h : RowTo w row row') {k : Nat} (hk : row' = some k) (hlt : k < w.heap.size) : row = some k := by
 rcases h with rfl | ⟨r, rfl, hr⟩
 ·exact hk
 ·injection hk with hk; omega

theorem low_of (v d m : Nat) (W : World) (hv : Lt64 v) (hm : m ≤ 8) :
  Calls Tryz.prog 99 #[.int .u64 ((v : Int) / 2 ^ d), .int .u64 (m : Int)] W fun e w' => e = .returned (.int .u8 ((v / 2 ^ d % 2 ^ m : Nat) : Int)) ∧ w' = W := by
 have e : (v : Int) / 2 ^ d = ((v / 2 ^ d : Nat) : Int) := by simp
 have := hv.out
 have h2 : v / 2 ^ d ≤ v := Nat.div_le_self _ _
 rw [e]
 generalize v / 2 ^ d = x at *
 refine (lowest_any (x : Int) (m : Int) W (by omega) (by omega) (by omega) (by omega)).mono ?_
 rintro e w' ⟨rfl, rfl⟩
 exact ⟨by rw [Int.toNat_natCast, Int.toNat_natCast], rfl⟩

theorem or_val (v d m f b : Nat) (bs0 : List Nat) (N : Nat) (hb : b < 256) (hf : f + m ≤ 8) (hv : val (bs0 ++ [b]) = N * 2 ^ (f + m)) :
  bits BinOp.or IntKind.u8 (b : Int) (IntKind.u8.wrap ((v : Int) / 2 ^ d % 2 ^ m * 2 ^ f)) = ((b + v / 2 ^ d % 2 ^ m * 2 ^ f : Nat) : Int) := by
 obtain ⟨h1, h2, _⟩ := last_step bs0 b N (f + m) m (v / 2 ^ d % 2 ^ m) hb hf (by omega) (Nat.mod_lt _ (Nat.two_pow_pos m)) hv
 rw [Nat.add_sub_cancel] at h1 h2
 have e : (v : Int) / 2 ^ d % 2 ^ m * 2 ^ f = ((v / 2 ^ d % 2 ^ m * 2 ^ f : Nat) : Int) := by simp
 rw [e, IntKind.wrap_u8', Int.emod_eq_of_lt (Int.natCast_nonneg _) (by omega), u8_or_nat _ _ hb (by omega), h1]

theorem put_grow {w wr w1 : World} {g gr cap : Nat} {row row' : Option Nat} {N len : Nat} {sv : Value} {bs : List Nat} (hblk : Blk wr g 114 #[sv, .int .u64 ((0 : Nat) : Int)]) (hown : wr.ownsRow 0 5 1 sv bs.length (cells8 bs))
  (hrow : sv.ownBlock = row') (hlt : lt256 bs) (hlf : len + 0 = 8 * bs.length) (hval : val bs = N * 2 ^ 0) (hN : N < 2 ^ len) (hmod : Mod (fun i => i = g ∨ row = some i) w wr) (hrr : RowTo w row row')
  (hgrow : (wr.alloc (.cells #[.int .u8 0] 5)).grownBy w1 sv.ownBlock) (hown' : w1.ownsRow 0 5 1 (.slice (some ⟨gr, 0, none⟩) (bs.length + 1) cap) (bs.length + 1) (cells8 bs ++ [.int .u8 0]))
  (hrow' : (Value.slice (some ⟨gr, 0, none⟩) (bs.length + 1) cap).ownBlock = sv.ownBlock ∨ (Value.slice (some ⟨gr, 0, none⟩) (bs.length + 1) cap).ownBlock = some (wr.alloc (.cells #[.int .u8 0] 5)).heap.size)
 :
  ∃ row2, WrF ((w1.setCell ⟨g, 0, none⟩ (.slice (some ⟨gr, 0, none⟩) (bs.length + 1) cap)).setCell ⟨g, 1, none⟩ (.int .u64 8)) g row2 N len 8 ∧
   Mod (fun i => i = g ∨ row = some i) w ((w1.setCell ⟨g, 0, none⟩ (.slice (some ⟨gr, 0, none⟩) (bs.length + 1) cap)).setCell ⟨g, 1, none⟩ (.int .u64 8)) ∧ RowTo w row row2 := by
 subst hrow
 have hne := own_blk_ne hown hblk (by decide)
 have hblk1 := (hblk.alloc (.cells #[.int .u8 0] 5)).grown hgrow hne.symm
 have hne1 := own_blk_ne hown' hblk1 (by decide)
 refine ⟨some gr, ⟨.slice (some ⟨gr, 0, none⟩) (bs.length + 1) cap, bs ++ [0], ?_, ?_, rfl, lt256_snoc.2 ⟨hlt, by omega⟩, by simp; omega, by rw [val_snoc, hval]; omega, hN⟩, ?_, ?_⟩
 ·have := (hblk1.set_ 0 (.slice (some ⟨gr, 0, none⟩) (bs.length + 1) cap)).set_ 1 (.int .u64 8)
  simpa using this
 ·have h1 : Mod (fun i => i = g) w1 ((w1.setCell ⟨g, 0, none⟩ (.slice (some ⟨gr, 0, none⟩) (bs.length + 1) cap)).setCell ⟨g, 1, none⟩ (.int .u64 8)) :=
   ((Mod.refl (fun i => i = g) w1).setCell (p := ⟨g, 0, none⟩) (fun _ => rfl) _).setCell (p := ⟨g, 1, none⟩) (fun _ => rfl) _
  have := h1.owns hown' (fun k hk e => hne1 (by rw [hk, e]))
  rw [cells8_snoc]
  simpa using this
 ·refine Mod.setCell (Mod.setCell ((hmod.alloc _).grown hgrow ?_) (fun _ => .inl rfl) _) (fun _ => .inl rfl) _
  intro k hk hlt'
  exact .inr (hrr.in_ hk hlt')
 ·refine hrr.trans (B := wr.heap.size) hmod.size ?_
  rcases hrow' with h | h
  ·exact .inl h
  ·exact .inr ⟨_, h, by simp⟩

theorem put_fill {w wc W2 : World} {g gr cap : Nat} {row row2 : Option Nat} {N len v k l m d f free : Nat} {bs0 : List Nat} {b : Nat} (hm1 : 0 < m) (hm2 : m ≤ l) (hm3 : m ≤ free) (hr2 : free ≤ 8) (hl : l ≤ k)
  (hd : d = l - m) (hf : f = free - m)
  (hrow : (Value.slice (some ⟨gr, 0, none⟩) (bs0 ++ [b]).length cap).ownBlock = row2) (hlt : lt256 (bs0 ++ [b])) (hlf : len + (k - l) + free = 8 * (bs0 ++ [b]).length)
  (hval : val (bs0 ++ [b]) = (N * 2 ^ (k - l) + v % 2 ^ k / 2 ^ l) * 2 ^ free) (hN : N * 2 ^ (k - l) + v % 2 ^ k / 2 ^ l < 2 ^ (len + (k - l))) (hmod : Mod (fun i => i = g ∨ row = some i) w wc) (hrr : RowTo w row row2)
  (hblk : Blk W2 g 114 #[.slice (some ⟨gr, 0, none⟩) (bs0 ++ [b]).length cap, .int .u64 (f : Int)]) (hmod2 : Mod (fun i => i = g) wc W2)
  (hown : W2.ownsRow 0 5 1 (.slice (some ⟨gr, 0, none⟩) (bs0 ++ [b]).length cap) (bs0 ++ [b]).length (cells8 (bs0 ++ [b]))) :
  PutTo w (W2.setCell ⟨gr, bs0.length, none⟩ (.int .u8 ((b + v / 2 ^ d % 2 ^ m * 2 ^ f : Nat) : Int))) g row N len (v % 2 ^ k) k d := by
 have hne := own_blk_ne hown hblk (by decide)
 have hx : v / 2 ^ d % 2 ^ m < 2 ^ m := Nat.mod_lt _ (Nat.two_pow_pos m)
 obtain ⟨h1, h2, h3⟩ := last_step bs0 b _ free m (v / 2 ^ d % 2 ^ m) (lt256_snoc.1 hlt).2 hr2 hm3 hx hval
 rw [← hf] at h1 h2 h3
 have e1 : v % 2 ^ k / 2 ^ d = v % 2 ^ k / 2 ^ l * 2 ^ m + v / 2 ^ d % 2 ^ m := by
  have := bits_more (v % 2 ^ k) l m hm2
  rw [← hd, mod_div_mod v k d m (by omega)] at this
  exact this
 have e2 : (N * 2 ^ (k - l) + v % 2 ^ k / 2 ^ l) * 2 ^ m + v / 2 ^ d % 2 ^ m = N * 2 ^ (k - d) + v % 2 ^ k / 2 ^ d := by
  rw [e1, Nat.add_mul, Nat.mul_assoc, ← Nat.pow_add, show k - l + m = k - d by omega, Nat.add_assoc]
 have e3 : len + (k - d) = len + (k - l) + m := by omega
 refine ⟨row2, ⟨f, by omega, .slice (some ⟨gr, 0, none⟩) (bs0 ++ [b]).length cap, bs0 ++ [b + v / 2 ^ d % 2 ^ m * 2 ^ f], ?_, ?_, hrow, lt256_snoc.2 ⟨(lt256_snoc.1 hlt).1, h2⟩, ?_, ?_, ?_⟩, ?_, hrr⟩
 ·exact hblk.far (p := ⟨gr, bs0.length, none⟩) (fun e => hne (by rw [e]; rfl)) _
 ·have := (hown.stored bs0.length (.int .u8 ((b + v / 2 ^ d % 2 ^ m * 2 ^ f : Nat) : Int))).1
  rw [cells8_set] at this
  simpa using this
 ·rw [e3]; simp at hlf ⊢; omega
 ·rw [h3, e2]
 ·rw [← e2, e3, Nat.pow_add]
  calc _ < (N * 2 ^ (k - l) + v % 2 ^ k / 2 ^ l) * 2 ^ m + 2 ^ m := by omega
   _ = (N * 2 ^ (k - l) + v % 2 ^ k / 2 ^ l + 1) * 2 ^ m := by rw [Nat.add_mul _ 1, Nat.one_mul]
   _ ≤ _ := Nat.mul_le_mul_right _ hN
 ·refine (hmod.trans hmod2 (fun i _ h => .inl h)).setCell ?_ _
  intro h
  exact .inr (hrr.in_ (by rw [← hrow]; rfl) h)

set_option maxHeartbeats 1000000 in
set_option maxRecDepth 100000 in
theorem put_any (g : Nat) (row : Option Nat) (N len : Nat) (v n : Int) (w : World) (hn : FitI n) (hv : Fit64 v)
  (hw : Wr w g row N len) (hlen : len ≤ 1000000000) :
  Calls Tryz.prog 80 #[.pointer (some ⟨g, 0, none⟩), .int .u64 v, .int .i64 n] w fun e w' => e = .returned (.tuple #[]) ∧
   PutTo w w' g row N len (v.toNat % 2 ^ (max 0 (min n 64)).toNat) (max 0 (min n 64)).toNat 0 := by
 obtain ⟨v, rfl⟩ := Int.eq_ofNat_of_zero_le hv.out.1
 have Hv1 : Lt64 v := by have := hv.out.2; unfold Lt64; omega
 rw [Int.toNat_natCast]
 obtain ⟨k, hk⟩ : ∃ k : Nat, max 0 (min n 64) = (k : Int) := ⟨(max 0 (min n 64)).toNat, by omega⟩
 have hk64 : k ≤ 64 := by omega
 rw [hk, Int.toNat_natCast]
 go_enter Tryz.func80, Tryz.ntmps80
 go_wp2_with (go_at_call 98; refine (held_any n _ hn.1 hn.2).mono ?_; rintro e w' ⟨rfl, rfl⟩)
 have Hw := Lib.hid hw
 clear hw hk hn hv
 go_loopg [6] k (fun l s6 wr => l ≤ k ∧ s6 = .int .u64 (l : Int) ∧ PutTo w wr g row N len (v % 2 ^ k) k l)
 case atStart =>
  refine ⟨Nat.le_refl _, rfl, row, ?_, Mod.refl _ _, .inl rfl⟩
  have e : v % 2 ^ k / 2 ^ k = 0 := Nat.div_eq_of_lt (Nat.mod_lt _ (Nat.two_pow_pos k))
  rw [Nat.sub_self, e, Nat.pow_zero, Nat.mul_one, Nat.add_zero, Nat.add_zero]
  exact Hw.out
 case round =>
  obtain ⟨hl, rfl, row', ⟨free, hf8, sv, bs, hblk, hown, hrow, hlt, hlf, hval, hN⟩, hmod, hrr⟩ := hrel
  have hc0 := hblk.cell 0
  have hc1 := hblk.cell 1
  have hf0 := hblk.frozen 0
  have hf1 := hblk.frozen 1
  simp at hc0 hc1
  have Hlf := Lib.hid hlf; have Hval := Lib.hid hval; have Hrow := Lib.hid hrow; have Hrr := Lib.hid hrr; have Hlt := Lib.hid hlt; have HN := Lib.hid hN; have Hown := Lib.hid hown
  have Hmod := Lib.hid hmod; have Hblk := Lib.hid hblk
  clear hlf hval hrow hrr hlt hN hown hmod hblk
  by_cases hl0 : gk = 0
  ·subst hl0
   go_wp2
   go_end0
   exact ⟨rfl, row', ⟨free, hf8, sv, bs, Hblk.out, Hown.out, Hrow.out, Hlt.out, Hlf.out, Hval.out, HN.out⟩, Hmod.out, Hrr.out⟩
  ·have hl1 : 0 < gk := by omega
   go_upto_if 16 with fail
   go_cut [] (fun wc => PutMid w wc g row N len (v % 2 ^ k) k gk)
   case first =>
    by_cases hfree : free = 0
    ·have hfb : ((free : Int) == 0) = true := by simp; omega
     rw [hfb]
     subst hfree
     obtain ⟨i0, hi, hz0, hz1, hz2⟩ := info_parts Tryz.info5
     have Hb : Room bs.length 1 := Room.mk _ _ (by have := Hlf.out; omega)
     clear hfb hf8
     go_wp2_with (at_builtin; go_loud (refine wpList_append_own_at _ rfl _ _ 34 rfl 0 5 i0 (.int .u8 0) 1 1 Tryz.underlying34 hi hz0 hz1 hz2 rfl (by decide) sv bs.length (cells8 bs) rfl (Hown.out.alloc _) ⟨wr.heap.size, 0, none⟩ 1 1 [.int .u8 0] rfl rfl (cell_one_new _ _ _) (cells8_one [0]) Hb.1 Hb.2 (Nat.zero_le _) ?_; intro v' w1 hown' hgrow _ hrow'; obtain ⟨gr, cap, rfl, _, _⟩ := hown'.form (Nat.succ_pos _); have hblk1 := (Hblk.out.alloc _).grown hgrow (own_blk_ne Hown.out Hblk.out (by decide)).symm; have hd0 := hblk1.cell 0; have hd1 := hblk1.cell 1; have he0 := hblk1.frozen 0; have he1 := hblk1.frozen 1; simp at hd0 hd1; have Hblk1 := Lib.hid hblk1; have Hown' := Lib.hid hown'; have Hgrow := Lib.hid hgrow; have Hrow' := Lib.hid hrow'; clear hblk1 hown' hgrow hrow'))
     go_meet
     case rel =>
      obtain ⟨row2, e1, e2, e3⟩ := put_grow Hblk.out Hown.out Hrow.out Hlt.out Hlf.out Hval.out HN.out Hmod.out Hrr.out Hgrow.out Hown'.out Hrow'.out
      exact ⟨row2, 8, by omega, by omega, e1, e2, e3⟩
    ·have hfb : ((free : Int) == 0) = false := by simp; omega
     rw [hfb]
     go_wp2_with fail
     go_meet
     case rel => exact ⟨row', free, by omega, by omega, ⟨sv, bs, Hblk.out, Hown.out, Hrow.out, Hlt.out, Hlf.out, Hval.out, HN.out⟩, Hmod.out, Hrr.out⟩
   case rest =>
    obtain ⟨row2, free2, hr1, hr2, ⟨sv2, bs2, hblk2, hown2, hrow2, hlt2, hlf2, hval2, hN2⟩, hmod2, hrr2⟩ := hcut
    obtain ⟨bs0, b, rfl⟩ := snoc_of_ne (bs := bs2) (by rintro rfl; simp at hlf2; omega)
    obtain ⟨gr, cap, rfl, _, _⟩ := hown2.form (by simp)
    obtain ⟨m, hm, hm1, hm2, hm3⟩ : ∃ m : Nat, (if free2 < gk then (free2 : Int) else (gk : Int)) = (m : Int) ∧ 0 < m ∧ m ≤ gk ∧ m ≤ free2 := by
     by_cases h : free2 < gk
     ·exact ⟨free2, by rw [if_pos h], by omega, by omega, by omega⟩
     ·exact ⟨gk, by rw [if_neg h], by omega, by omega, by omega⟩
    obtain ⟨d, hd⟩ : ∃ d : Nat, d = gk - m := ⟨_, rfl⟩
    obtain ⟨f, hf⟩ : ∃ f : Nat, f = free2 - m := ⟨_, rfl⟩
    have hd1 : (gk : Int) - (m : Int) = (d : Int) := by omega
    have hf1 : (free2 : Int) - (m : Int) = (f : Int) := by omega
    have Hd := Lib.hid hd; have Hf := Lib.hid hf
    have hd64 : d ≤ 64 := by omega
    have hf8' : f ≤ 8 := by omega
    have hm8 : m ≤ 8 := by omega
    have Hfm : Hid (f + m = free2) := Lib.hid (by omega)
    clear hd hf
    clear hc0 hc1 hf0 Hblk Hown Hrow Hlt Hlf Hval HN Hmod Hrr
    have hc0 := hblk2.cell 0
    have hc1 := hblk2.cell 1
    have hf0 := hblk2.frozen 0
    have hf1' := hblk2.frozen 1
    simp at hc0 hc1
    have Hblk2 := Lib.hid hblk2; have Hown2 := Lib.hid hown2; have Hrow2 := Lib.hid hrow2; have Hlt2 := Lib.hid hlt2; have Hlf2 := Lib.hid hlf2; have Hval2 := Lib.hid hval2; have HN2 := Lib.hid hN2
    have Hmod2 := Lib.hid hmod2; have Hrr2 := Lib.hid hrr2
    clear hblk2 hown2 hrow2 hlt2 hlf2 hval2 hN2 hmod2 hrr2
    go_upto_region 8 with fail
    generalize hW : wc.setCell ⟨g, 1, none⟩ (.int .u64 (f : Int)) = W1
    have hblk3 : Blk W1 g 114 #[.slice (some ⟨gr, 0, none⟩) (bs0 ++ [b]).length cap, .int .u64 (f : Int)] := by rw [← hW]; simpa using Hblk2.out.set_ 1 (.int .u64 (f : Int))
    have hmod3 : Mod (fun i => i = g) wc W1 := by rw [← hW]; exact (Mod.refl (fun i => i = g) wc).setCell (p := ⟨g, 1, none⟩) (fun _ => rfl) _
    have hne3 := own_blk_ne Hown2.out Hblk2.out (by decide)
    have hown3 := hmod3.owns Hown2.out (fun k hk e => hne3 (by rw [hk, e]))
    clear hd1 hf1 hm
    have hd0 := hblk3.cell 0
    have hd1 := hblk3.cell 1
    have hdb := hown3.cellAt bs0.length (by simp)
    have hfb := hown3.frozenAt bs0.length
    rw [cells8_snoc, List.getElem?_append_right (by simp [cells8]), cells8_length, Nat.sub_self] at hdb
    simp at hd0 hd1 hdb
    have Hblk3 := Lib.hid hblk3; have Hmod3 := Lib.hid hmod3; have Hown3 := Lib.hid hown3; have Hne3 := Lib.hid hne3
    clear hblk3 hmod3 hown3 hne3 hW
    have hbl : bs0.length ≤ 1000000000 := by have := Hlf2.out; simp at this; omega
    have hw1 : IntKind.i64.wrap (bs0.length : Int) = (bs0.length : Int) := IntWalk.i64_in _ (by omega)
    have hx0 : (0 : Int) ≤ (bs0.length : Int) := by omega
    have hx1 : (bs0.length : Int) < (bs0.length : Int) + 1 := by omega
    go_still_tail 24, (by kernel_rfl)
    still_call (low_of v d m _ Hv1 hm8)
    repeat still_step
    refine wpStill_nil ?_
    rw [or_val v d m f b bs0 _ (lt256_snoc.1 Hlt2.out).2 (by have := Hfm.out; omega) (by rw [Hfm.out]; exact Hval2.out)]
    change wpList _ _ _ _ _ W1.drew
    have hd0' : W1.drew.cell? ⟨gr, bs0.length, none⟩ = _ := hdb
    have hd1' : W1.drew.frozen? ⟨gr, bs0.length, none⟩ = _ := hfb
    have Hblk4 : Hid (Blk W1.drew g _ _) := Lib.hid Hblk3.out
    have Hmod4 := Lib.hid (Hmod3.out.drew)
    have Hown4 : Hid (W1.drew.ownsRow _ _ _ _ _ _) := Lib.hid Hown3.out.drew
    clear hdb hfb hd0 hd1 Hblk3 Hmod3 Hown3
    generalize W1.drew = W2 at *
    go_wp2
    go_roundg d
    case measure => have := Hd.out; omega
    case rel =>
     refine ⟨by have := Hd.out; omega, rfl, ?_⟩
     exact put_fill hm1 hm2 hm3 hr2 hl Hd.out Hf.out Hrow2.out Hlt2.out Hlf2.out Hval2.out HN2.out Hmod2.out Hrr2.out Hblk4.out Hmod4.out Hown4.out
end Go.Proofs.YtmeilddngohccaaGreatDoor

namespace Go.Proofs.YtmeilddngohccaaGreatDoor
open Go.RowKit

theorem clone_nil (w : World) : Calls Tryz.prog 82 #[.slice none 0 0] w fun e w' => e = .returned (.slice none 0 0) ∧ w = w' := by
 have hq := @Lib.run_eql_slice_nil Tryz.prog
 go_enter Tryz.func82, Tryz.ntmps82
 go_wp2
 go_ret
 exact ⟨rfl, rfl⟩


/-- What a call answers that makes a row of its own. -/
def NewRow (w w' : World) (v : Value) (n : Nat) (xs : List Value) : Prop :=
 w'.ownsRow 0 5 1 v n xs ∧ Mod (fun _ => False) w w' ∧ ((v.ownBlock = none) ∨ ∃ r, v.ownBlock = some r ∧ w.heap.size ≤ r)

theorem clone_some (ad : Addr) (n c : Nat) (bs : List Nat) (w : World) (hn : bs.length = n) (hc : ∀ j u, (cells8 bs)[j]? = some u → w.cell? (ad.add j) = some u) (hg : bs = [] ∨ ad.block < w.heap.size) (hm : n ≤ 1000000000) :
  Calls Tryz.prog 82 #[.slice (some ad) n c] w fun e w' => ∃ v, e = .returned v ∧ NewRow w w' v n (cells8 bs) ∧ v ≠ .slice none 0 0 := by
 have hq := fun w => Lib.run_eql_slice_nil (P := Tryz.prog) w 34 5 (some ad) n c 0 0 Tryz.underlying34
 obtain ⟨i0, hi, hz0, hz1, hz2⟩ := info_parts Tryz.info5
 have Hb : Room 0 n := Room.mk _ _ (by omega)
 have Hown : Hid ((w.alloc (.cells #[] 5)).ownsRow 0 5 1 (.slice (some ⟨w.heap.size, 0, none⟩) 0 0) 0 []) := Lib.hid (World.ownsRow_lit w #[] 0 (Nat.zero_le _) (Nat.zero_le _) rfl)
 have Hc : Hid (∀ j u, (cells8 bs)[j]? = some u → (w.alloc (.cells #[] 5)).cell? (ad.add j) = some u) := Lib.hid (by
  intro j u hu
  rcases hg with rfl | hg
  ·simp [cells8] at hu
  ·rw [World.cell?_alloc_lt w _ _ (by rw [add_block]; exact hg)]
   exact hc j u hu)
 have Hn : Hid ((cells8 bs).length = n * 1) := Lib.hid (by rw [cells8_length]; omega)
 clear hc hn hm
 go_enter Tryz.func82, Tryz.ntmps82
 go_wp2_with (at_builtin; refine wpList_append_own_at _ rfl _ _ 34 rfl 0 5 i0 (.int .u8 0) 1 1 Tryz.underlying34 hi hz0 hz1 hz2 rfl (by decide) (.slice (some ⟨w.heap.size, 0, none⟩) 0 0) 0 [] rfl Hown.out ad n c (cells8 bs) rfl Hn.out Hc.out (cells8_one bs) Hb.1 Hb.2 (Nat.zero_le _) ?_; intro v' w1 hown' hgrow hnil hrow'; have Hown' := Lib.hid hown'; have Hgrow := Lib.hid hgrow; have Hnil := Lib.hid hnil; have Hrow' := Lib.hid hrow'; clear hown' hgrow hnil hrow')
 go_ret
 have h1 := Hgrow.out
 have h2 := Hrow'.out
 refine ⟨v', rfl, ⟨by simpa using Hown'.out, ?_, ?_⟩, ?_⟩
 ·refine ((Mod.refl _ _).alloc _).grown h1 ?_
  intro k hk hlt
  simp [Value.ownBlock] at hk
  omega
 ·rcases h2 with h2 | h2
  ·exact .inr ⟨_, h2, by simp⟩
  ·exact .inr ⟨_, h2, by simp⟩
 ·intro h
  have := (Hnil.out.1 h).1
  simp at this

theorem clone_any (row : Nat) (A : Option Addr) (n c : Nat) (bs : List Nat) (w : World) (hs : Sees w row A n (cells8 bs)) (hA : A = none → c = 0) (hm : n ≤ 1000000000) :
  Calls Tryz.prog 82 #[.slice A n c] w fun e w' => ∃ v, e = .returned v ∧ NewRow w w' v n (cells8 bs) := by
 have hlen : bs.length = n := by have := hs.1; rwa [cells8_length] at this
 rcases A with _ | ad
 ·obtain rfl := hA rfl
  have hn : n = 0 := by
   rcases Nat.eq_zero_or_pos n with h | h
   ·exact h
   ·obtain ⟨o, h', _⟩ := hs.2 h
    cases h'
  subst hn
  obtain rfl := List.eq_nil_of_length_eq_zero hlen
  refine (clone_nil w).mono ?_
  rintro e w' ⟨rfl, rfl⟩
  exact ⟨_, rfl, World.ownsRow_nil _ _ _ _, Mod.refl _ _, .inl rfl⟩
 ·refine (clone_some ad n c bs w hlen ?_ ?_ hm).mono fun e w' ⟨v, h1, h2, _⟩ => ⟨v, h1, h2⟩
  ·intro j u hu
   have hj : 0 < n := by have := (List.getElem?_eq_some_iff.1 hu).1; rw [cells8_length] at this; omega
   obtain ⟨o, h', _, hc⟩ := hs.2 hj
   injection h' with h'
   subst h'
   rw [add_addr]
   exact hc j u hu
  ·rcases Nat.eq_zero_or_pos n with h | h
   ·subst h
    exact .inl (List.eq_nil_of_length_eq_zero hlen)
   ·obtain ⟨o, h', hl, _⟩ := hs.2 h
    injection h' with h'
    subst h'
    exact .inr hl

def Packed (bs : List Nat) (N len : Nat) : Prop := lt256 bs ∧ ∃ free, free < 8 ∧ len + free = 8 * bs.length ∧ val bs = N * 2 ^ free

theorem bytes_any (g : Nat) (row : Option Nat) (N len : Nat) (w : World) (hw : Wr w g row N len) (hlen : len ≤ 1000000000) :
  Calls Tryz.prog 58 #[.pointer (some ⟨g, 0, none⟩)] w fun e w' => ∃ v bs, e = .returned v ∧ NewRow w w' v bs.length (cells8 bs) ∧ Packed bs N len := by
 obtain ⟨free, hf8, sv, bs, hblk, hown, hrow, hlt, hlf, hval, hN⟩ := hw
 have hc0 := hblk.cell 0
 simp at hc0
 have hpk : Packed bs N len := ⟨hlt, free, hf8, hlf, hval⟩
 have hsv : ∃ A c, sv = .slice A bs.length c ∧ (A = none → c = 0) := by
  rcases hown.2 with ⟨h1, h2⟩ | ⟨g', cap, cur, h1, _⟩
  ·exact ⟨none, 0, by rw [h1, h2], fun _ => rfl⟩
  ·exact ⟨_, _, h1, fun h => by cases h⟩
 obtain ⟨A, c, rfl, hA⟩ := hsv
 obtain ⟨r, hr⟩ : ∃ r, 0 < bs.length → (Value.slice A bs.length c).ownBlock = some r := by
  cases A with
  | none => exact ⟨0, fun h => by
    rcases hown.2 with ⟨_, h2⟩ | ⟨g', cap, cur, h1, _⟩
    ·omega
    ·cases h1⟩
  | some a => exact ⟨a.block, fun _ => rfl⟩
 have Hs := Lib.hid (Sees.of_own hown hr)
 have HA := Lib.hid hA
 have Hm : bs.length ≤ 1000000000 := by omega
 have Hpk := Lib.hid hpk
 clear hblk hown hrow hlt hlf hval hN hpk hA hr hf8
 go_enter Tryz.func58, Tryz.ntmps58
 go_wp2_with fail
 refine (clone_any r A bs.length c bs w Hs.out HA.out Hm).mono ?_
 rintro e w' ⟨v, rfl, hnew⟩
 have Hnew := Lib.hid hnew
 clear hnew
 go_wp2
 go_ret
 exact ⟨v, bs, rfl, Hnew.out, Hpk.out⟩

theorem NewRow.form {w w1 : World} {v : Value} {n : Nat} {bs : List Nat} (h : NewRow w w1 v n (cells8 bs)) :
  ∃ A c row, v = .slice A n c ∧ n ≤ c ∧ (A = none → c = 0) ∧ w.heap.size ≤ row ∧ row ≠ w1.heap.size ∧ Sees w1 row A n (cells8 bs) := by
 obtain ⟨hown, hmod, hrow⟩ := h
 rcases hown.2 with ⟨h1, h2⟩ | ⟨g', cap, cur, h1, _, hg, hnc, _⟩
 ·subst h2
  refine ⟨none, 0, w1.heap.size + 1, h1, Nat.le_refl _, fun _ => rfl, by have := hmod.size; omega, by omega, ⟨?_, fun h => by omega⟩⟩
  simpa using hown.1
 ·have hl := (Array.getElem?_eq_some_iff.1 hg).1
  refine ⟨_, cap, g', h1, hnc, (fun h => by cases h), ?_, by omega, Sees.of_own (h1 ▸ hown) (fun _ => rfl)⟩
  rw [h1] at hrow
  rcases hrow with hr | ⟨r, hr, hle⟩
  ·cases hr
  ·simp [Value.ownBlock] at hr
   omega

end Go.Proofs.YtmeilddngohccaaGreatDoor

namespace Go.Proofs.YtmeilddngohccaaGreatDoor
open Go.RowKit

theorem get_bound {R rem k l m V : Nat} (hV : V = R / 2 ^ (rem - (k - l))) (hR : R < 2 ^ rem) (hl : l ≤ k) (hk : k ≤ 64) (hm : m ≤ l) (hkr : k ≤ rem) : V * 2 ^ m + 2 ^ m ≤ 18446744073709551616 := by
 have h1 : V < 2 ^ (k - l) := by
  rw [hV, Nat.div_lt_iff_lt_mul (Nat.two_pow_pos _), ← Nat.pow_add, show k - l + (rem - (k - l)) = rem by omega]
  exact hR
 calc V * 2 ^ m + 2 ^ m = (V + 1) * 2 ^ m := by rw [Nat.add_mul, Nat.one_mul]
  _ ≤ 2 ^ (k - l) * 2 ^ m := Nat.mul_le_mul_right _ h1
  _ = 2 ^ (k - l + m) := by rw [Nat.pow_add]
  _ ≤ 2 ^ 64 := Nat.pow_le_pow_right (by omega) (by omega)

theorem get_or (V b f m : Nat) (hV : V * 2 ^ m + 2 ^ m ≤ 18446744073709551616) :
  bits BinOp.or IntKind.u64 (IntKind.u64.wrap ((V : Int) * 2 ^ m)) (IntKind.u64.wrap ((b : Int) / 2 ^ f % 2 ^ m)) = ((V * 2 ^ m + b / 2 ^ f % 2 ^ m : Nat) : Int) := by
 have hx : b / 2 ^ f % 2 ^ m < 2 ^ m := Nat.mod_lt _ (Nat.two_pow_pos m)
 have e1 : (V : Int) * 2 ^ m = ((V * 2 ^ m : Nat) : Int) := by simp
 have e2 : (b : Int) / 2 ^ f % 2 ^ m = ((b / 2 ^ f % 2 ^ m : Nat) : Int) := by simp
 rw [e1, e2, IntKind.wrap_u64, IntKind.wrap_u64]
 have h0 := nat_join m (V * 2 ^ m) (b / 2 ^ f % 2 ^ m) (Nat.mul_mod_left _ _) hx
 generalize V * 2 ^ m = y at *
 generalize b / 2 ^ f % 2 ^ m = x at *
 generalize 2 ^ m = z at *
 rw [Int.emod_eq_of_lt (by omega) (by omega), Int.emod_eq_of_lt (by omega) (by omega), u64_or_nat _ _ (by omega) (by omega), h0]

end Go.Proofs.YtmeilddngohccaaGreatDoor

namespace Go.Proofs.YtmeilddngohccaaGreatDoor
open Go.RowKit

/-- Put, as its callers take it. -/
theorem put_wr (g : Nat) (row : Option Nat) (N len k : Nat) (v n : Int) (w : World) (hn : FitI n) (hv : Fit64 v) (hk : max 0 (min n 64) = (k : Int)) (hw : Wr w g row N len) (hlen : len ≤ 1000000000) :
  Calls Tryz.prog 80 #[.pointer (some ⟨g, 0, none⟩), .int .u64 v, .int .i64 n] w fun e w' => e = .returned (.tuple #[]) ∧
   ∃ row', Wr w' g row' (N * 2 ^ k + v.toNat % 2 ^ k) (len + k) ∧ Mod (fun i => i = g ∨ row = some i) w w' ∧ RowTo w row row' := by
 refine (put_any g row N len v n w hn hv hw hlen).mono ?_
 rintro e w' ⟨rfl, row', h1, h2, h3⟩
 rw [hk, Int.toNat_natCast, Nat.sub_zero, Nat.pow_zero, Nat.div_one] at h1
 exact ⟨rfl, row', h1, h2, h3⟩

theorem newWriter_wr (w : World) :
  Calls Tryz.prog 56 #[] w fun e w' => ∃ g, e = .returned (.pointer (some ⟨g, 0, none⟩)) ∧ w.heap.size ≤ g ∧ g < w'.heap.size ∧ Wr w' g none 0 0 ∧ Mod (fun _ => False) w w' := by
 refine (newWriter_any w).mono ?_
 rintro e w' ⟨rfl, rfl⟩
 exact ⟨_, rfl, Nat.le_refl _, by simp, ⟨0, by omega, .slice none 0 0, [], Blk.new _ _ _, World.ownsRow_nil _ _ _ _, rfl, lt256_nil, rfl, rfl, by omega⟩, (Mod.refl _ _).alloc _⟩

theorem Wr.mod {w w1 : World} {S : Nat → Prop} {g : Nat} {row : Option Nat} {N len : Nat} (h : Wr w g row N len) (hm : Mod S w w1) (h1 : ¬ S g) (h2 : ∀ k, row = some k → ¬ S k) : Wr w1 g row N len := by
 obtain ⟨free, hf, v, bs, hblk, hown, hrow, rest⟩ := h
 exact ⟨free, hf, v, bs, hm.blk hblk h1, hm.owns hown (fun k hk => h2 k (by rw [← hrow]; exact hk)), hrow, rest⟩
theorem Wr.lt {w : World} {g : Nat} {row : Option Nat} {N len : Nat} (h : Wr w g row N len) : g < w.heap.size := by
 obtain ⟨free, hf, v, bs, hblk, _⟩ := h
 exact hblk.lt
theorem Wr.row_lt {w : World} {g : Nat} {row : Option Nat} {N len : Nat} (h : Wr w g row N len) : ∀ k, row = some k → k < w.heap.size := by
 obtain ⟨free, hf, v, bs, hblk, hown, hrow, _⟩ := h
 intro k hk
 exact (hown.lt k (by rw [hrow, hk])).2

end Go.Proofs.YtmeilddngohccaaGreatDoor

namespace Go.Proofs.YtmeilddngohccaaGreatDoor
open Go.RowKit

def bval (L : List Nat) : Nat := L.foldl (fun a b => a * 2 + b) 0
theorem bval_snoc (L : List Nat) (b : Nat) : bval (L ++ [b]) = bval L * 2 + b := by simp [bval]
def lt2 (L : List Nat) : Prop := ∀ b ∈ L, b < 2
theorem lt2_snoc {L : List Nat} {b : Nat} (h : lt2 L) (hb : b < 2) : lt2 (L ++ [b]) := by
 intro x hx
 rcases List.mem_append.1 hx with h1 | h1
 ·exact h x h1
 ·simp at h1; omega

/-- The document's own writer at block g: its bits, one to a byte. -/
def RWr (w : World) (g : Nat) (row : Option Nat) (N len : Nat) : Prop :=
 ∃ (v : Value) (L : List Nat), Blk w g 92 #[v] ∧ w.ownsRow 0 5 1 v L.length (cells8 L) ∧ v.ownBlock = row ∧ lt2 L ∧ L.length = len ∧ bval L = N
def RPutTo (w wr : World) (g : Nat) (row : Option Nat) (N len u k l : Nat) : Prop :=
 ∃ row', RWr wr g row' (N * 2 ^ (k - l) + u / 2 ^ l) (len + (k - l)) ∧ Mod (fun i => i = g ∨ row = some i) w wr ∧ RowTo w row row'

theorem bit_u64 (v l : Nat) (hv : v < 18446744073709551616) : bits BinOp.and IntKind.u64 ((v : Int) / 2 ^ l) 1 = ((v / 2 ^ l % 2 : Nat) : Int) := by
 have e : (v : Int) / 2 ^ l = ((v / 2 ^ l : Nat) : Int) := by simp
 have h1 := Nat.div_le_self v (2 ^ l)
 rw [e]
 generalize v / 2 ^ l = x at *
 have := u64_and_nat x 1 (by omega) (by decide)
 rw [nat_mask1] at this
 exact this

theorem rput_step {w wr w1 : World} {g gr cap : Nat} {row row' : Option Nat} {N len v k l b : Nat} {sv : Value} {L : List Nat} (hl : l + 1 ≤ k) (hb : b = v / 2 ^ l % 2) (hblk : Blk wr g 92 #[sv]) (hown : wr.ownsRow 0 5 1 sv L.length (cells8 L))
  (hrow : sv.ownBlock = row') (hlt : lt2 L) (hlen : L.length = len + (k - (l + 1))) (hval : bval L = N * 2 ^ (k - (l + 1)) + v % 2 ^ k / 2 ^ (l + 1)) (hmod : Mod (fun i => i = g ∨ row = some i) w wr) (hrr : RowTo w row row')
  (hgrow : (wr.alloc (.cells #[.int .u8 (b : Int)] 5)).grownBy w1 sv.ownBlock) (hown' : w1.ownsRow 0 5 1 (.slice (some ⟨gr, 0, none⟩) (L.length + 1) cap) (L.length + 1) (cells8 L ++ [.int .u8 (b : Int)]))
  (hrow' : (Value.slice (some ⟨gr, 0, none⟩) (L.length + 1) cap).ownBlock = sv.ownBlock ∨ (Value.slice (some ⟨gr, 0, none⟩) (L.length + 1) cap).ownBlock = some (wr.alloc (.cells #[.int .u8 (b : Int)] 5)).heap.size) :
  RPutTo w (w1.setCell ⟨g, 0, none⟩ (.slice (some ⟨gr, 0, none⟩) (L.length + 1) cap)) g row N len (v % 2 ^ k) k l := by
 subst hrow
 have hne := own_blk_ne hown hblk (by decide)
 have hblk1 := (hblk.alloc (.cells #[.int .u8 (b : Int)] 5)).grown hgrow hne.symm
 have hne1 := own_blk_ne hown' hblk1 (by decide)
 refine ⟨some gr, ⟨.slice (some ⟨gr, 0, none⟩) (L.length + 1) cap, L ++ [b], ?_, ?_, rfl, lt2_snoc hlt (by omega), by simp; omega, ?_⟩, ?_, ?_⟩
 ·simpa using hblk1.set_ 0 (.slice (some ⟨gr, 0, none⟩) (L.length + 1) cap)
 ·have h1 : Mod (fun i => i = g) w1 (w1.setCell ⟨g, 0, none⟩ (.slice (some ⟨gr, 0, none⟩) (L.length + 1) cap)) := (Mod.refl (fun i => i = g) w1).setCell (p := ⟨g, 0, none⟩) (fun _ => rfl) _
  have := h1.owns hown' (fun k hk e => hne1 (by rw [hk, e]))
  rw [cells8_snoc]
  simpa using this
 ·have e1 := bits_more (v % 2 ^ k) (l + 1) 1 (by omega)
  rw [Nat.add_sub_cancel, mod_div_mod v k l 1 hl, Nat.pow_one, ← hb] at e1
  rw [bval_snoc, hval, e1, Nat.add_mul, Nat.mul_assoc, ← Nat.pow_succ, show (k - (l + 1)).succ = k - l by omega]
  omega
 ·refine ((hmod.alloc _).grown hgrow ?_).setCell (fun _ => .inl rfl) _
  intro k hk hlt'
  exact .inr (hrr.in_ hk hlt')
 ·refine hrr.trans (B := wr.heap.size) hmod.size ?_
  rcases hrow' with h | h
  ·exact .inl h
  ·exact .inr ⟨_, h, by simp⟩

set_option maxHeartbeats 1000000 in
set_option maxRecDepth 100000 in
theorem rput_any (g : Nat) (row : Option Nat) (N len k : Nat) (v : Nat) (n : Int) (w : World) (hk : max 0 (min n 64) = (k : Int)) (hv : Lt64 v) (hw : RWr w g row N len) (hlen : len ≤ 1000000000) :
  Calls Tryz.prog 79 #[.pointer (some ⟨g, 0, none⟩), .int .u64 (v : Int), .int .i64 n] w fun e w' => e = .returned (.tuple #[]) ∧
   RPutTo w w' g row N len (v % 2 ^ k) k 0 := by
 have hk64 : k ≤ 64 := by omega
 obtain ⟨mx, hmx, hmx2⟩ : ∃ mx : Int, (if n < 0 then (0 : Int) else n) = mx ∧ mx = max n 0 := ⟨_, rfl, by split <;> omega⟩
 have hmn : (if 64 < mx then (64 : Int) else mx) = (k : Int) := by split <;> omega
 have Hw := Lib.hid hw
 clear hw hk hmx2
 go_enter Tryz.func79, Tryz.ntmps79
 go_wp2_with fail
 clear hmx hmn
 go_loopg [6] k (fun l s6 wr => l ≤ k ∧ s6 = .int .i64 ((l : Int) - 1) ∧ RPutTo w wr g row N len (v % 2 ^ k) k l)
 case atStart =>
  refine ⟨Nat.le_refl _, rfl, row, ?_, Mod.refl _ _, .inl rfl⟩
  have e : v % 2 ^ k / 2 ^ k = 0 := Nat.div_eq_of_lt (Nat.mod_lt _ (Nat.two_pow_pos k))
  rw [Nat.sub_self, e, Nat.pow_zero, Nat.mul_one, Nat.add_zero, Nat.add_zero]
  exact Hw.out
 case round =>
  obtain ⟨hl, rfl, hP⟩ := hrel
  have HP := Lib.hid hP
  clear hP Hw
  by_cases hl0 : gk = 0
  ·subst hl0
   go_wp2
   go_end0
   exact ⟨rfl, HP.out⟩
  ·obtain ⟨l, rfl⟩ : ∃ l, gk = l + 1 := ⟨gk - 1, by omega⟩
   obtain ⟨row', ⟨sv, L, hblk, hown, hrow, hlt, hlen', hval⟩, hmod, hrr⟩ := HP.out
   have hc0 := hblk.cell 0
   have hf0 := hblk.frozen 0
   simp at hc0
   have hi1 : ((l + 1 : Nat) : Int) - 1 = (l : Int) := by omega
   rw [hi1]
   have Hlen' := Lib.hid hlen'; have Hval := Lib.hid hval; have Hrow := Lib.hid hrow; have Hrr := Lib.hid hrr; have Hlt := Lib.hid hlt; have Hown := Lib.hid hown
   have Hmod := Lib.hid hmod; have Hblk := Lib.hid hblk
   clear hlen' hval hrow hrr hlt hown hmod hblk HP hl0 hi1
   obtain ⟨b, hb⟩ : ∃ b, b = v / 2 ^ l % 2 := ⟨_, rfl⟩
   have hb2 : b < 2 := by omega
   have hbit : bits BinOp.and IntKind.u64 ((v : Int) / 2 ^ l) 1 = (b : Int) := by rw [bit_u64 v l hv.out, hb]
   have hb256 : (b : Int) % 256 = (b : Int) := by omega
   have Hb := Lib.hid hb
   clear hb
   obtain ⟨i0, hi, hz0, hz1, hz2⟩ := info_parts Tryz.info5
   have Hroom : Room L.length 1 := Room.mk _ _ (by have := Hlen'.out; omega)
   go_wp2_with (at_builtin; refine wpList_append_own_at _ rfl _ _ 34 rfl 0 5 i0 (.int .u8 0) 1 1 Tryz.underlying34 hi hz0 hz1 hz2 rfl (by decide) sv L.length (cells8 L) rfl (Hown.out.alloc _) ⟨wr.heap.size, 0, none⟩ 1 1 [.int .u8 (b : Int)] rfl rfl (cell_one_new _ _ _) (cells8_one [b]) Hroom.1 Hroom.2 (Nat.zero_le _) ?_; intro v' w1 hown' hgrow _ hrow'; obtain ⟨gr, cap, rfl, _, _⟩ := hown'.form (Nat.succ_pos _); have hblk1 := (Hblk.out.alloc _).grown hgrow (own_blk_ne Hown.out Hblk.out (by decide)).symm; have hd0 := hblk1.cell 0; have he0 := hblk1.frozen 0; simp at hd0; have Hblk1 := Lib.hid hblk1; have Hown' := Lib.hid hown'; have Hgrow := Lib.hid hgrow; have Hrow' := Lib.hid hrow'; clear hblk1 hown' hgrow hrow')
   go_roundg l
   case measure => omega
   case rel => exact ⟨by omega, rfl, rput_step hl Hb.out Hblk.out Hown.out Hrow.out Hlt.out Hlen'.out Hval.out Hmod.out Hrr.out Hgrow.out Hown'.out Hrow'.out⟩
end Go.Proofs.YtmeilddngohccaaGreatDoor

namespace Go.Proofs.YtmeilddngohccaaGreatDoor
open Go.RowKit

/-- What the document's own Bytes has made of i bits; the last byte has 'fr' to fill. -/
def RB (w wr : World) (vo : Value) (L : List Nat) (i fr : Nat) : Prop :=
 ∃ out : List Nat, wr.ownsRow 0 5 1 vo out.length (cells8 out) ∧ (vo.ownBlock = none ∨ ∃ r, vo.ownBlock = some r ∧ w.heap.size ≤ r) ∧ lt256 out ∧ i + fr = 8 * out.length ∧ val out = bval (L.take i) * 2 ^ fr ∧ Mod (fun _ => False) w wr

theorem rb_grow {w wr w1 : World} {vo v' : Value} {L : List Nat} {i : Nat} {out : List Nat} (hvo : vo.ownBlock = none ∨ ∃ r, vo.ownBlock = some r ∧ w.heap.size ≤ r) (hlt : lt256 out)
  (hlen : i + 0 = 8 * out.length) (hval : val out = bval (L.take i) * 2 ^ 0) (hmod : Mod (fun _ => False) w wr) (hgrow : (wr.alloc (.cells #[.int .u8 0] 5)).grownBy w1 vo.ownBlock) (hown' : w1.ownsRow 0 5 1 v' (out.length + 1) (cells8 out ++ [.int .u8 0]))
  (hrow' : v'.ownBlock = vo.ownBlock ∨ v'.ownBlock = some (wr.alloc (.cells #[.int .u8 0] 5)).heap.size) : RB w w1 v' L i 8 := by
 refine ⟨out ++ [0], by rw [cells8_snoc]; simpa using hown', ?_, lt256_snoc.2 ⟨hlt, by omega⟩, by simp; omega, by rw [val_snoc, hval]; omega, ?_⟩
 ·rcases hrow' with h | h
  ·rw [h]; exact hvo
  ·exact .inr ⟨_, h, by have := hmod.size; simp; omega⟩
 ·refine (hmod.alloc _).grown hgrow ?_
  intro k hk hlt'
  rcases hvo with h | ⟨r, h, hr⟩
  ·rw [h] at hk; cases hk
  ·rw [h] at hk; injection hk with hk; omega

theorem rb_or (x f b : Nat) (bs0 : List Nat) (N : Nat) (hx : x < 2) (hb : b < 256) (hf : f + 1 ≤ 8) (hv : val (bs0 ++ [b]) = N * 2 ^ (f + 1)) :
  bits BinOp.or IntKind.u8 (b : Int) (IntKind.u8.wrap ((x : Int) * 2 ^ f)) = ((b + x * 2 ^ f : Nat) : Int) ∧ b + x * 2 ^ f < 256 ∧ val (bs0 ++ [b + x * 2 ^ f]) = (N * 2 + x) * 2 ^ f := by
 obtain ⟨h1, h2, h3⟩ := last_step bs0 b N (f + 1) 1 x hb hf (by omega) (by omega) hv
 rw [Nat.add_sub_cancel] at h1 h2 h3
 rw [Nat.pow_one] at h3
 refine ⟨?_, h2, h3⟩
 have e : (x : Int) * 2 ^ f = ((x * 2 ^ f : Nat) : Int) := by simp
 rw [e, IntKind.wrap_u8', Int.emod_eq_of_lt (Int.natCast_nonneg _) (by omega), u8_or_nat _ _ hb (by omega), h1]

theorem take_more {L : List Nat} {i x : Nat} (h : L[i]? = some x) : L.take (i + 1) = L.take i ++ [x] := by
 have hi := (List.getElem?_eq_some_iff.1 h).1
 rw [List.take_succ_eq_append_getElem hi]
 congr 2
 exact (List.getElem?_eq_some_iff.1 h).2

set_option maxHeartbeats 1000000 in
set_option maxRecDepth 100000 in
theorem rbytes_any (g : Nat) (row : Option Nat) (N len : Nat) (w : World) (hw : RWr w g row N len) (hlen : len ≤ 1000000000) :
  Calls Tryz.prog 54 #[.pointer (some ⟨g, 0, none⟩)] w fun e w' => ∃ v bs, e = .returned v ∧ NewRow w w' v bs.length (cells8 bs) ∧ Packed bs N len := by
 obtain ⟨sv, L, hblk, hown, hrow, hlt, rfl, rfl⟩ := hw
 obtain ⟨A, c, rfl⟩ : ∃ A c, sv = .slice A L.length c := by
  rcases hown.2 with ⟨h1, h2⟩ | ⟨g', cap, cur, h1, _⟩
  ·exact ⟨none, 0, by rw [h1, h2]⟩
  ·exact ⟨_, _, h1⟩
 have Hblk := Lib.hid hblk; have Hown := Lib.hid hown; have Hlt := Lib.hid hlt
 have hc0 := hblk.cell 0
 simp at hc0
 clear hblk hown hrow hlt
 go_enter Tryz.func54, Tryz.ntmps54
 go_wp2_with fail
 go_loopg [3, 4] L.length (fun l s3 s4 wr => ∃ i fr : Nat, i + l = L.length ∧ s4 = .int .i64 (i : Int) ∧ fr < 8 ∧ RB w wr s3 L i fr)
 case atStart => exact ⟨0, 0, by omega, rfl, by omega, [], World.ownsRow_nil _ _ _ _, .inl rfl, lt256_nil, rfl, rfl, Mod.refl _ _⟩
 case round =>
  obtain ⟨i, fr, hil, rfl, hfr, out, hown, hvo, hlt, hlen', hval, hmod⟩ := hrel
  have hblkr : Hid (Blk wr g 92 #[.slice A L.length c]) := Lib.hid (hmod.blk Hblk.out (fun h => h))
  have hcr0 := hblkr.out.cell 0
  simp at hcr0
  have Hil := Lib.hid hil; have Hvo := Lib.hid hvo; have Hout := Lib.hid hown; have Hlt' := Lib.hid hlt; have Hlen := Lib.hid hlen'; have Hval := Lib.hid hval; have Hmod := Lib.hid hmod
  clear hvo hown hlt hlen' hval hmod hc0 hil
  by_cases hl0 : gk = 0
  ·have hi : ¬ i < L.length := by have := Hil.out; omega
   go_wp2
   go_ret
   have hiL : i = L.length := by have := Hil.out; omega
   refine ⟨u3, out, rfl, ⟨Hout.out, Hmod.out, Hvo.out⟩, Hlt'.out, fr, hfr, by rw [← hiL]; exact Hlen.out, ?_⟩
   rw [Hval.out, hiL, List.take_length]
  ·have hi : i < L.length := by have := Hil.out; omega
   have hi0 : (0 : Int) ≤ (i : Int) := by omega
   go_upto_if 16 with fail
   go_cut [3] (fun s3 wc => ∃ fr2, 0 < fr2 ∧ fr2 ≤ 8 ∧ RB w wc s3 L i fr2)
   case first =>
    by_cases hfr0 : fr = 0
    ·have hfb : ((i : Int) % 8 == 0) = true := by have := Hlen.out; simp; omega
     rw [hfb]
     subst hfr0
     obtain ⟨i0, hi1, hz0, hz1, hz2⟩ := info_parts Tryz.info5
     have Hb : Room out.length 1 := Room.mk _ _ (by have := Hlen.out; omega)
     go_wp2_with (at_builtin; refine wpList_append_own_at _ rfl _ _ 34 rfl 0 5 i0 (.int .u8 0) 1 1 Tryz.underlying34 hi1 hz0 hz1 hz2 rfl (by decide) u3 out.length (cells8 out) rfl (Hout.out.alloc _) ⟨wr.heap.size, 0, none⟩ 1 1 [.int .u8 0] rfl rfl (cell_one_new _ _ _) (cells8_one [0]) Hb.1 Hb.2 (Nat.zero_le _) ?_; intro v' w1 hown' hgrow _ hrow'; have Hown' := Lib.hid hown'; have Hgrow := Lib.hid hgrow; have Hrow' := Lib.hid hrow'; clear hown' hgrow hrow')
     go_meet
     case rel => exact ⟨8, by omega, by omega, rb_grow Hvo.out Hlt'.out Hlen.out Hval.out Hmod.out Hgrow.out Hown'.out Hrow'.out⟩
    ·have hfb : ((i : Int) % 8 == 0) = false := by have := Hlen.out; simp; omega
     rw [hfb]
     go_wp2_with fail
     go_meet
     case rel => exact ⟨fr, by omega, by omega, out, Hout.out, Hvo.out, Hlt'.out, Hlen.out, Hval.out, Hmod.out⟩
   case rest =>
    clear Hvo Hout Hlt' Hlen Hval Hmod hcr0 hblkr
    obtain ⟨fr2, hf1, hf2, out2, hown, hvo, hlt, hlen', hval, hmod⟩ := hcut
    obtain ⟨o0, b, rfl⟩ := snoc_of_ne (bs := out2) (by rintro rfl; simp at hlen'; omega)
    obtain ⟨gr, cap, rfl, _, _⟩ := hown.form (by simp)
    obtain ⟨f, rfl⟩ : ∃ f, fr2 = f + 1 := ⟨fr2 - 1, by omega⟩
    obtain ⟨x, hx⟩ : ∃ x, L[i]? = some x := ⟨L[i], List.getElem?_eq_getElem hi⟩
    have hx2 : x < 2 := Hlt.out x (List.mem_of_getElem? hx)
    obtain ⟨ab, rfl, hcx⟩ : ∃ ab, A = some ⟨ab, 0, none⟩ ∧ wc.cell? ⟨ab, i, none⟩ = some (.int .u8 (x : Int)) := by
     obtain ⟨ab, cap', e1, _, _⟩ := Hown.out.form (by omega)
     injection e1 with e1
     refine ⟨ab, e1, ?_⟩
     have ho := hmod.owns Hown.out (fun _ _ h => h)
     rw [e1] at ho
     rw [ho.cellAt i (by omega), cells8_get, hx]
     rfl
    have hblkr := hmod.blk Hblk.out (fun h => h)
    have hcr0 := hblkr.cell 0
    simp at hcr0
    have hq : (i : Int) / 8 = (o0.length : Int) := by simp at hlen'; omega
    obtain ⟨t, ht⟩ : ∃ t, t = i % 8 := ⟨_, rfl⟩
    have ht1 : (i : Int).tmod 8 = (t : Int) := by rw [Int.tmod_eq_emod_of_nonneg hi0]; omega
    have hw7 : IntKind.i64.wrap (7 - (t : Int)) = (f : Int) := by rw [IntWalk.i64_in _ (by omega)]; simp at hlen'; omega
    have hw8 : IntKind.u64.wrap (f : Int) = (f : Int) := by rw [IntKind.wrap_u64]; omega
    have hmin : min f 8 = f := by omega
    clear ht
    have hcb := hown.cellAt o0.length (by simp)
    have hfz := hown.frozenAt o0.length
    rw [cells8_snoc, List.getElem?_append_right (by simp [cells8]), cells8_length, Nat.sub_self] at hcb
    simp at hcb
    have hol : o0.length ≤ 1000000000 := by simp at hlen'; omega
    have hw1 : IntKind.i64.wrap (o0.length : Int) = (o0.length : Int) := IntWalk.i64_in _ (by omega)
    have hx0 : (0 : Int) ≤ (o0.length : Int) := by omega
    have hx1 : (o0.length : Int) < (o0.length : Int) + 1 := by omega
    have hi2 : (i : Int) < (L.length : Int) := by omega
    have Hown2 := Lib.hid hown; have Hvo := Lib.hid hvo; have Hlt2 := Lib.hid hlt; have Hlen := Lib.hid hlen'; have Hval := Lib.hid hval; have Hmod := Lib.hid hmod; have Hx := Lib.hid hx
    clear hown hvo hlt hlen' hval hmod hx hblkr
    go_upto_region 7 with fail
    go_still_tail 22, (by kernel_rfl)
    obtain ⟨h1, h2, h3⟩ := rb_or x f b o0 (bval (L.take i)) hx2 (lt256_snoc.1 Hlt2.out).2 (by omega) Hval.out
    rw [h1]
    change wpList _ _ _ _ _ wc.drew
    have hd0 : wc.drew.cell? ⟨gr, o0.length, none⟩ = _ := hcb
    have hd1 : wc.drew.frozen? ⟨gr, o0.length, none⟩ = _ := hfz
    have Hown3 : Hid (wc.drew.ownsRow _ _ _ _ _ _) := Lib.hid Hown2.out.drew
    have Hmod3 := Lib.hid Hmod.out.drew
    have H2 := Lib.hid h2; have H3 := Lib.hid h3
    clear hcb hfz Hown2 Hmod hcr0 hcx h1 h2 h3
    generalize wc.drew = w2 at *
    go_wp2
    go_roundg (gk - 1)
    case measure => omega
    case rel =>
     refine ⟨i + 1, f, by have := Hil.out; omega, by go_num, by omega, o0 ++ [b + x * 2 ^ f], ?_, ?_, lt256_snoc.2 ⟨(lt256_snoc.1 Hlt2.out).1, H2.out⟩, ?_, ?_, ?_⟩
     ·have := (Hown3.out.stored o0.length (.int .u8 ((b + x * 2 ^ f : Nat) : Int))).1
      rw [cells8_set] at this
      simpa using this
     ·simpa using Hvo.out
     ·have := Hlen.out; simp at this ⊢; omega
     ·rw [H3.out, take_more Hx.out, bval_snoc]
     ·refine Hmod3.out.setCell ?_ _
      intro h
      rcases Hvo.out with h1 | ⟨r, h1, h2⟩
      ·cases h1
      ·simp [Value.ownBlock] at h1
       simp at h
       omega
end Go.Proofs.YtmeilddngohccaaGreatDoor

/- Two writers that share nothing. -/
namespace Go.Proofs.YtmeilddngohccaaGreatDoor
open Go.RowKit

def Apart (g : Nat) (row : Option Nat) (g2 : Nat) (row2 : Option Nat) : Prop := g ≠ g2 ∧ row ≠ some g2 ∧ row2 ≠ some g ∧ ∀ k, row = some k → row2 ≠ some k
theorem Apart.symm {g g2 : Nat} {row row2 : Option Nat} (h : Apart g row g2 row2) : Apart g2 row2 g row := ⟨fun e => h.1 e.symm, h.2.2.1, h.2.1, fun k hk e => h.2.2.2 k e hk⟩
theorem Wr.other {w w' : World} {g g2 N2 len2 : Nat} {row row2 : Option Nat} (h2 : Wr w g2 row2 N2 len2) (hm : Mod (fun i => i = g ∨ row = some i) w w') (hd : Apart g row g2 row2) : Wr w' g2 row2 N2 len2 :=
 h2.mod hm (fun h => h.elim (fun e => hd.1 e.symm) (fun e => hd.2.1 e)) (fun k hk h => h.elim (fun e => hd.2.2.1 (e ▸ hk)) (fun e => hd.2.2.2 k e hk))
theorem Apart.to {w : World} {g g2 N2 len2 : Nat} {row row' row2 : Option Nat} (h : Apart g row g2 row2) (hr : RowTo w row row') (h2 : Wr w g2 row2 N2 len2) : Apart g row' g2 row2 := by
 rcases hr with rfl | ⟨r, rfl, hr⟩
 ·exact h
 ·refine ⟨h.1, ?_, h.2.2.1, ?_⟩
  ·intro e; injection e with e; have := h2.lt; omega
  ·intro k hk e; injection hk with hk; have := h2.row_lt k e; omega

section
variable {w w1 : World} {row n : Nat} {A : Option Addr} {xs : List Value}
end
theorem RowTo.low {B : Nat} {w : World} {row row' : Option Nat} (h : RowTo w row row') (hr : ∀ k, row = some k → B ≤ k) (hB : B ≤ w.heap.size) : ∀ k, row' = some k → B ≤ k := by
 intro k hk
 rcases h with rfl | ⟨r, rfl, hr'⟩
 ·exact hr k hk
 ·injection hk with hk; omega

/-- The call's own blocks alone have turned, a writer's that it made among them. -/
theorem Mod.put {w w' w0 : World} {g : Nat} {row : Option Nat} (h : Mod (fun _ => False) w0 w) (hm : Mod (fun i => i = g ∨ row = some i) w w') (hg : w0.heap.size ≤ g) (hr : ∀ k, row = some k → w0.heap.size ≤ k) : Mod (fun _ => False) w0 w' :=
 h.trans hm (fun i hi h => h.elim (fun e => by omega) (fun e => by have := hr i e; omega))
/-- Two writers of the call's own, beside nothing that was there. -/
structure St2 (w0 w : World) (a : Nat) (ra : Option Nat) (Na la b : Nat) (rb : Option Nat) (Nb lb : Nat) : Prop where
 wa : Wr w a ra Na la
 wb : Wr w b rb Nb lb
 apart : Apart a ra b rb
 mod : Mod (fun _ => False) w0 w
 ha : w0.heap.size ≤ a
 hb : w0.heap.size ≤ b
 hra : ∀ k, ra = some k → w0.heap.size ≤ k
 hrb : ∀ k, rb = some k → w0.heap.size ≤ k
section
variable {w0 w w' : World} {a Na la b Nb lb : Nat} {ra rb : Option Nat}
theorem St2.symm (h : St2 w0 w a ra Na la b rb Nb lb) : St2 w0 w b rb Nb lb a ra Na la := ⟨h.wb, h.wa, h.apart.symm, h.mod, h.hb, h.ha, h.hrb, h.hra⟩
theorem St2.put {ra' : Option Nat} {Na' la' : Nat} (h : St2 w0 w a ra Na la b rb Nb lb) (hw : Wr w' a ra' Na' la') (hm : Mod (fun i => i = a ∨ ra = some i) w w') (hr : RowTo w ra ra') : St2 w0 w' a ra' Na' la' b rb Nb lb :=
 ⟨hw, h.wb.other hm h.apart, h.apart.to hr h.wb, h.mod.trans hm (fun i hi e => e.elim (fun e => by have := h.ha; omega) (fun e => by have := h.hra i e; omega)), h.ha, h.hb, hr.low h.hra h.mod.size, h.hrb⟩
theorem St2.step {S : Nat → Prop} (h : St2 w0 w a ra Na la b rb Nb lb) (hm : Mod S w w') (hs : ∀ i, i < w.heap.size → S i → w0.heap.size ≤ i ∧ i ≠ a ∧ i ≠ b ∧ ra ≠ some i ∧ rb ≠ some i) : St2 w0 w' a ra Na la b rb Nb lb :=
 ⟨h.wa.mod hm (fun e => (hs a h.wa.lt e).2.1 rfl) (fun k hk e => (hs k (h.wa.row_lt k hk) e).2.2.2.1 hk), h.wb.mod hm (fun e => (hs b h.wb.lt e).2.2.1 rfl) (fun k hk e => (hs k (h.wb.row_lt k hk) e).2.2.2.2 hk), h.apart,
  h.mod.trans hm (fun i hi e => by have := (hs i (Nat.lt_of_lt_of_le hi h.mod.size) e).1; omega), h.ha, h.hb, h.hra, h.hrb⟩
theorem St2.new (h : St2 w0 w a ra Na la b rb Nb lb) (hm : Mod (fun _ => False) w w') : St2 w0 w' a ra Na la b rb Nb lb := h.step hm (fun _ _ e => e.elim)
theorem St2.begin {a b : Nat} {w1 w2 : World} (ha : w0.heap.size ≤ a) (ha2 : a < w1.heap.size) (hwa : Wr w1 a none 0 0) (hm1 : Mod (fun _ => False) w0 w1) (hb : w1.heap.size ≤ b) (hwb : Wr w2 b none 0 0) (hm2 : Mod (fun _ => False) w1 w2) : St2 w0 w2 a none 0 0 b none 0 0 :=
 ⟨hwa.mod hm2 (fun h => h) (fun _ _ h => h), hwb, ⟨by omega, by simp, by simp, by simp⟩, hm1.trans hm2 (fun _ _ h => h), ha, by have := hm1.size; omega, by simp, by simp⟩
end
end Go.Proofs.YtmeilddngohccaaGreatDoor

namespace Go.Proofs.YtmeilddngohccaaGreatDoor
open Go.RowKit

/-- The document's own reader at block g. -/
def RRd (w : World) (g row : Nat) (bs : List Nat) (R rem : Nat) (ok : Bool) : Prop :=
 ∃ (A : Option Addr) (n c a : Nat), Blk w g 66 #[.slice A n c, .int .i64 (a : Int), .bool (!ok)] ∧ Sees w row A n (cells8 bs) ∧ row ≠ g ∧ a ≤ 8 * n ∧ n ≤ 1000000 ∧ lt256 bs ∧
  (ok = true → a + rem = 8 * n ∧ R = val bs % 2 ^ rem) ∧ (ok = false → rem = 0 ∧ R = 0)
theorem RRd.mod {w w1 : World} {S : Nat → Prop} {g row R rem : Nat} {bs : List Nat} {ok : Bool} (h : RRd w g row bs R rem ok) (hm : Mod S w w1) (h1 : ¬ S g) (h2 : row < w.heap.size → ¬ S row) : RRd w1 g row bs R rem ok := by
 obtain ⟨A, n, c, a, hblk, hs, rest⟩ := h
 exact ⟨A, n, c, a, hm.blk hblk h1, hs.mod hm h2, rest⟩

theorem rleft_bad (g row R rem : Nat) (bs : List Nat) (w : World) (h : RRd w g row bs R rem false) :
  Calls Tryz.prog 66 #[.pointer (some ⟨g, 0, none⟩)] w fun e w' => e = .returned (.int .i64 0) ∧ Mod (fun _ => False) w w' := by
 obtain ⟨A, n, c, a, hblk, hs, hne, ha, hn, hlt, h1, h2⟩ := h
 have hc2 := hblk.cell 2
 simp at hc2
 clear hblk hs h1 h2 hlt
 go_enter Tryz.func66, Tryz.ntmps66
 go_wp2
 go_ret
 exact ⟨rfl, Mod.refl _ _⟩
theorem rleft_ok (g row R rem : Nat) (bs : List Nat) (w : World) (h : RRd w g row bs R rem true) :
  Calls Tryz.prog 66 #[.pointer (some ⟨g, 0, none⟩)] w fun e w' => e = .returned (.int .i64 (rem : Int)) ∧ Mod (fun _ => False) w w' := by
 obtain ⟨A, n, c, a, hblk, hs, hne, ha, hn, hlt, h1, h2⟩ := h
 have hc0 := hblk.cell 0
 have hc1 := hblk.cell 1
 have hc2 := hblk.cell 2
 simp at hc0 hc1 hc2
 have H1 := Lib.hid h1
 clear hblk hs h1 h2 hlt
 go_enter Tryz.func66, Tryz.ntmps66
 go_wp2
 go_quiet (fail)
 go_wp2
 go_ret
 exact ⟨ret_int (by have := (H1.out (by simp)).1; omega), (Mod.refl _ _).drewN _⟩
theorem rleft_ab (g row R rem : Nat) (bs : List Nat) (ok : Bool) (w : World) (h : RRd w g row bs R rem ok) :
  Calls Tryz.prog 66 #[.pointer (some ⟨g, 0, none⟩)] w fun e w' => e = .returned (.int .i64 (rem : Int)) ∧ Mod (fun _ => False) w w' := by
 cases ok with
 | true => exact rleft_ok g row R rem bs w h
 | false =>
  have h0 : rem = 0 := by obtain ⟨A, n, c, a, _, _, _, _, _, _, _, h2⟩ := h; exact (h2 rfl).1
  subst h0
  exact rleft_bad g row R 0 bs w h

theorem rget_many (g row R rem k : Nat) (bs : List Nat) (ok : Bool) (n : Int) (w : World) (hk : max 0 (min n 64) = (k : Int)) (h : RRd w g row bs R rem ok) (hkr : ok = true → ¬ k ≤ rem) :
  Calls Tryz.prog 43 #[.pointer (some ⟨g, 0, none⟩), .int .i64 n] w fun e w' => e = .returned (.int .u64 0) ∧ RRd w' g row bs 0 0 false ∧ Mod (fun i => i = g) w w' := by
 obtain ⟨mx, hmx, hmx2⟩ : ∃ mx : Int, (if n < 0 then (0 : Int) else n) = mx ∧ mx = max n 0 := ⟨_, rfl, by split <;> omega⟩
 have hmn : (if 64 < mx then (64 : Int) else mx) = (k : Int) := by split <;> omega
 have H := Lib.hid h
 obtain ⟨A, n', c, a, hblk, hs, hne, ha, hn, hlt, h1, h2⟩ := h
 have hc2 := hblk.cell 2
 have hf2 := hblk.frozen 2
 simp at hc2
 have Hblk := Lib.hid hblk; have Hs := Lib.hid hs; have Hne := Lib.hid hne; have Hlt := Lib.hid hlt; have Hkr := Lib.hid hkr; have Ha := Lib.hid ha; have Hn := Lib.hid hn
 clear hblk hs hne hlt h1 h2 hk hmx2 hkr ha hn
 cases ok with
 | false =>
  go_enter Tryz.func43, Tryz.ntmps43
  go_wp2_with fail
  go_ret
  have hm : Mod (fun i => i = g) w (w.setCell ⟨g, 2, none⟩ (.bool true)) := (Mod.refl (fun i => i = g) w).setCell (p := ⟨g, 2, none⟩) (fun _ => rfl) _
  exact ⟨rfl, ⟨A, n', c, a, by simpa using Hblk.out.set_ 2 (.bool true), Hs.out.mod hm (fun _ => Hne.out), Hne.out, Ha.out, Hn.out, Hlt.out, (fun h => by cases h), fun _ => ⟨rfl, rfl⟩⟩, hm⟩
 | true =>
  have hgt : rem < k := by have := Hkr.out (by simp); omega
  have hmn2 : (if 64 < n then (64 : Int) else n) = (k : Int) := by
   have h1 := hmx; have h2 := hmn
   split at h1 <;> split at h2 <;> split <;> omega
  go_enter Tryz.func43, Tryz.ntmps43
  go_wp2_with fail
  refine (rleft_ab g row R rem bs true _ H.out).mono ?_
  rintro e w1 ⟨rfl, hm1⟩
  have hblk1 := hm1.blk Hblk.out (fun h => h)
  have hd2 := hblk1.cell 2
  have he2 := hblk1.frozen 2
  simp at hd2
  have Hblk1 := Lib.hid hblk1; have Hm1 := Lib.hid hm1
  clear hblk1 hm1
  go_wp2_with fail
  go_ret
  have hm : Mod (fun i => i = g) w1 (w1.setCell ⟨g, 2, none⟩ (.bool true)) := (Mod.refl (fun i => i = g) w1).setCell (p := ⟨g, 2, none⟩) (fun _ => rfl) _
  exact ⟨rfl, ⟨A, n', c, a, by simpa using Hblk1.out.set_ 2 (.bool true), (Hs.out.mod Hm1.out (fun _ h => h)).mod hm (fun _ => Hne.out), Hne.out, Ha.out, Hn.out, Hlt.out, (fun h => by cases h), fun _ => ⟨rfl, rfl⟩⟩, (Hm1.out.mono (fun _ _ h => h.elim)).trans hm (fun _ _ h => h)⟩

theorem rget_or (V b f : Nat) (hb : b < 256) (hV : V * 2 ^ 1 + 2 ^ 1 ≤ 18446744073709551616) :
  bits BinOp.or IntKind.u64 (IntKind.u64.wrap ((V : Int) * 2)) (IntKind.u64.wrap (bits BinOp.and IntKind.u8 ((b : Int) / 2 ^ f) 1)) = ((V * 2 + b / 2 ^ f % 2 : Nat) : Int) := by
 have e : (b : Int) / 2 ^ f = ((b / 2 ^ f : Nat) : Int) := by simp
 have h1 := Nat.div_le_self b (2 ^ f)
 rw [e]
 generalize b / 2 ^ f = x at *
 have h2 := u8_and_nat x 1 (by omega) (by decide)
 rw [nat_mask1] at h2
 have h2' : bits BinOp.and IntKind.u8 (x : Int) 1 = ((x % 2 : Nat) : Int) := h2
 rw [h2']
 have h3 := get_or V x 0 1 hV
 simp only [Nat.pow_one, Nat.pow_zero, Nat.div_one, Int.pow_zero, Int.ediv_one] at h3
 have e1 : ((2 : Int) ^ 1) = 2 := rfl
 rw [e1] at h3
 rw [Int.natCast_emod]
 exact h3

set_option maxHeartbeats 1000000 in
set_option maxRecDepth 100000 in
theorem rget_any (g row R rem k : Nat) (bs : List Nat) (n : Int) (w : World) (hk : max 0 (min n 64) = (k : Int)) (h : RRd w g row bs R rem true) (hkr : k ≤ rem) :
  Calls Tryz.prog 43 #[.pointer (some ⟨g, 0, none⟩), .int .i64 n] w fun e w' => e = .returned (.int .u64 ((R / 2 ^ (rem - k) : Nat) : Int)) ∧ RRd w' g row bs (R % 2 ^ (rem - k)) (rem - k) true ∧ Mod (fun i => i = g) w w' := by
 obtain ⟨mx, hmx, hmx2⟩ : ∃ mx : Int, (if n < 0 then (0 : Int) else n) = mx ∧ mx = max n 0 := ⟨_, rfl, by split <;> omega⟩
 have hmn : (if 64 < mx then (64 : Int) else mx) = (k : Int) := by split <;> omega
 have hk64 : k ≤ 64 := by omega
 have H := Lib.hid h
 have HR : Hid (R < 2 ^ rem) := Lib.hid (by obtain ⟨A, n', c, a, _, _, _, _, _, _, h1, _⟩ := h; rw [(h1 rfl).2]; exact Nat.mod_lt _ (Nat.two_pow_pos _))
 have hc2 : w.cell? ⟨g, 2, none⟩ = some (.bool false) := by obtain ⟨A, n', c, a, hblk, _⟩ := h; have := hblk.cell 2; simpa using this
 have hgt : ¬ rem < k := by omega
 clear h hk hmx2
 go_enter Tryz.func43, Tryz.ntmps43
 go_wp2_with fail
 refine (rleft_ab g row R rem bs true _ H.out).mono ?_
 rintro e w1 ⟨rfl, hm1⟩
 have H1 := Lib.hid (H.out.mod hm1 (fun h => h) (fun _ h => h)); have Hm1 := Lib.hid hm1
 clear hm1 hc2 H
 go_upto_region 7 with fail
 go_loopg [5, 6] k (fun l s5 s6 wr => ∃ i : Nat, i + l = k ∧ s6 = .int .i64 (i : Int) ∧ s5 = .int .u64 ((R / 2 ^ (rem - i) : Nat) : Int) ∧ RRd wr g row bs (R % 2 ^ (rem - i)) (rem - i) true ∧ Mod (fun i => i = g) w wr)
 case atStart =>
  have hR := HR.out
  refine ⟨0, by omega, rfl, ?_, ?_, Hm1.out.mono (fun _ _ h => h.elim)⟩
  ·rw [Nat.sub_zero, Nat.div_eq_of_lt hR]; rfl
  ·rw [Nat.sub_zero, Nat.mod_eq_of_lt hR]
   exact H1.out
 case round =>
  obtain ⟨i, hik, rfl, rfl, hr, hm⟩ := hrel
  have Hr := Lib.hid hr; have Hm := Lib.hid hm; have Hik := Lib.hid hik
  clear hr hm H1 hik
  by_cases hl0 : gk = 0
  ·have hi : ¬ i < k := by have := Hik.out; omega
   have hik : Hid (i = k) := Lib.hid (by have := Hik.out; omega)
   go_wp2
   go_ret
   have := Hr.out
   rw [hik.out] at this
   exact ⟨by rw [hik.out]; simp, this, Hm.out⟩
  ·have hi : i < k := by have := Hik.out; omega
   obtain ⟨A, n', c, a, hblk, hs, hne, ha, hn, hlt, h1, h2⟩ := Hr.out
   obtain ⟨har, hR'⟩ := h1 rfl
   have hn0 : 0 < n' := by omega
   have hc0 := hblk.cell 0
   have hc1 := hblk.cell 1
   have hf1 := hblk.frozen 1
   simp at hc0 hc1
   obtain ⟨o, rfl, hrl, hcell⟩ := hs.2 hn0
   have hlen := hs.1
   rw [cells8_length] at hlen
   obtain ⟨b, hb⟩ : ∃ b, bs[a / 8]? = some b := ⟨bs[a / 8]'(by omega), List.getElem?_eq_getElem _⟩
   have hcb := hcell (a / 8) (.int .u8 (b : Int)) (by rw [cells8_get, hb]; rfl)
   have hb256 : b < 256 := hlt b (List.mem_of_getElem? hb)
   have Hans := Lib.hid (bit_at bs n' a (rem - i) b hlen (by omega) har hlt hb)
   obtain ⟨V, hV⟩ : ∃ V, V = R / 2 ^ (rem - i) := ⟨_, rfl⟩
   rw [← hV]
   obtain ⟨q, hq⟩ : ∃ q, q = a / 8 := ⟨_, rfl⟩
   obtain ⟨t, ht⟩ : ∃ t, t = a % 8 := ⟨_, rfl⟩
   rw [← hq] at hcb
   have ha1 : (a : Int) / 8 = (q : Int) := by omega
   have ha2 : (a : Int).tdiv 8 = (q : Int) := by rw [Int.tdiv_eq_ediv_of_nonneg (by omega)]; omega
   have ha3 : (a : Int).tmod 8 = (t : Int) := by rw [Int.tmod_eq_emod_of_nonneg (by omega)]; omega
   obtain ⟨f, hf⟩ : ∃ f, f = 7 - t := ⟨_, rfl⟩
   have hw7 : IntKind.i64.wrap (7 - (t : Int)) = (f : Int) := by rw [IntWalk.i64_in _ (by omega)]; omega
   have hw8 : IntKind.u64.wrap (f : Int) = (f : Int) := by rw [IntKind.wrap_u64]; omega
   have hwq : IntKind.i64.wrap (q : Int) = (q : Int) := IntWalk.i64_in _ (by omega)
   have hmin : min f 8 = f := by omega
   have hq0 : (0 : Int) ≤ (q : Int) := by omega
   have hq1 : (q : Int) < (n' : Int) := by omega
   have hqf : Hid (q = a / 8 ∧ t = a % 8 ∧ f = 7 - t) := Lib.hid ⟨hq, ht, hf⟩
   have hal : a ≤ 8000000 := by omega
   have Hans2 : Hid (R % 2 ^ (rem - i) / 2 ^ (rem - i - 1) = b / 2 ^ f % 2) := Lib.hid (by rw [hR', Hans.out, hf, ht])
   have HV := Lib.hid hV
   have Hblk := Lib.hid hblk; have Hs := Lib.hid hs; have Hne := Lib.hid hne; have Hlt := Lib.hid hlt; have Har := Lib.hid har; have HR' := Lib.hid hR'; have Ha := Lib.hid ha; have Hn := Lib.hid hn
   clear hblk hs hne hlt har hR' h1 h2 hq ht hf hV Hans hcell hb ha hn hmx hmn hlen
   go_upto_region 9 with fail
   go_quiet (fail)
   go_upto_region 10 with fail
   have hVb : Hid (V * 2 ^ 1 + 2 ^ 1 ≤ 18446744073709551616) := Lib.hid (get_bound (R := R) (rem := rem) (k := k) (l := k - i) (by rw [HV.out, show k - (k - i) = i by omega]) HR.out (by omega) hk64 (by omega) hkr)
   rw [rget_or V b f hb256 hVb.out]
   have hb0 : (wr.drewN nq).frozen? ⟨g, 1, none⟩ = false := hf1
   clear hVb
   go_wp2
   go_roundg (gk - 1)
   case measure => omega
   case rel =>
    have e1 : rem - (i + 1) = rem - i - 1 := by omega
    have e3 : V * 2 + b / 2 ^ f % 2 = R / 2 ^ (rem - (i + 1)) := by
     rw [e1, read_more R (rem - i) 1 (by omega), ← HV.out, Hans2.out, Nat.pow_one]
    have hm2 : Mod (fun i => i = g) wr ((wr.drewN nq).setCell ⟨g, 1, none⟩ (.int .i64 ((a : Int) + 1))) := ((Mod.refl (fun i => i = g) wr).drewN nq).setCell (p := ⟨g, 1, none⟩) (fun _ => rfl) _
    refine ⟨i + 1, by have := Hik.out; omega, by go_num, by rw [← e3], ⟨some ⟨row, o, none⟩, n', c, a + 1, ?_, Hs.out.mod hm2 (fun _ => Hne.out), Hne.out, by have := Har.out; omega, Hn.out, Hlt.out, fun _ => ⟨by have := Har.out; omega, ?_⟩, fun h => by cases h⟩, Hm.out.trans hm2 (fun _ _ h => h)⟩
    ·have := (Hblk.out.drewN nq).set_ 1 (.int .i64 ((a : Int) + 1))
     simpa using this
    ·have h1 := rest_bits (val bs) (rem - i) 1 (by omega)
     rw [← HR'.out] at h1
     rw [e1, ← h1, rest_bits _ _ _ (by omega)]
end Go.Proofs.YtmeilddngohccaaGreatDoor

/- Two readers of one row of bytes: the project's, and the document's own. -/
namespace Go.Proofs.YtmeilddngohccaaGreatDoor
open Go.RowKit

section
variable {w0 w w' : World} {g rg h rh : Nat} {bs : List Nat} {R rem R' rem' : Nat} {ok ok' : Bool}
/-- What one Get does to both. -/
def GetAns (R rem : Nat) (ok : Bool) (k : Nat) : Nat × Nat × Nat × Bool := if ok = true ∧ k ≤ rem then (R / 2 ^ (rem - k), R % 2 ^ (rem - k), rem - k, true) else (0, 0, 0, false)
theorem ans_yes {R rem k : Nat} (h : k ≤ rem) : GetAns R rem true k = (R / 2 ^ (rem - k), R % 2 ^ (rem - k), rem - k, true) := by unfold GetAns; rw [if_pos ⟨rfl, h⟩]
theorem ans_no {R rem k : Nat} {ok : Bool} (h : ¬ (ok = true ∧ k ≤ rem)) : GetAns R rem ok k = (0, 0, 0, false) := by unfold GetAns; rw [if_neg h]

theorem rget_ans (n : Int) (k : Nat) (hk : max 0 (min n 64) = (k : Int)) (hr : RRd w h rh bs R rem ok) :
  Calls Tryz.prog 43 #[.pointer (some ⟨h, 0, none⟩), .int .i64 n] w fun e w' => e = .returned (.int .u64 ((GetAns R rem ok k).1 : Int)) ∧ RRd w' h rh bs (GetAns R rem ok k).2.1 (GetAns R rem ok k).2.2.1 (GetAns R rem ok k).2.2.2 ∧ Mod (fun i => i = h) w w' := by
 by_cases h1 : ok = true ∧ k ≤ rem
 ·obtain ⟨rfl, h2⟩ := h1
  rw [ans_yes h2]
  exact rget_any h rh R rem k bs n w hk hr h2
 ·rw [ans_no h1]
  exact rget_many h rh R rem k bs ok n w hk hr (fun e h2 => h1 ⟨e, h2⟩)
theorem RRd.flag (hr : RRd w h rh bs R rem ok) : w.cell? ⟨h, 2, none⟩ = some (.bool (!ok)) := by
 obtain ⟨A, n, c, a, hblk, _⟩ := hr
 have := hblk.cell 2
 simpa using this
end
end Go.Proofs.YtmeilddngohccaaGreatDoor

namespace Go.Proofs.YtmeilddngohccaaGreatDoor
open Go.RowKit

end Go.Proofs.YtmeilddngohccaaGreatDoor

/- All that layer 4 stands on, together. -/

/- Readers in whatever state, the project's and the document's own: what is left, or nothing. -/
namespace Go.Proofs.YtmeilddngohccaaGreatDoor
open Go.RowKit

/-- A reader's state: what is left, or nothing. -/
def getO (k : Nat) : Option (Nat × Nat) → Nat × Option (Nat × Nat)
 | some (R, rem) => if k ≤ rem then (R / 2 ^ (rem - k), some (R % 2 ^ (rem - k), rem - k)) else (0, none)
 | none => (0, none)
theorem getO_take (k R rem : Nat) : getO k (some (R, rem)) = match takeB k R rem with | some (b, R1, rem1) => (b, some (R1, rem1)) | none => (0, none) := by
 unfold getO takeB
 by_cases h : k ≤ rem
 ·simp [h]
 ·simp [h]
theorem getO_lt {R rem : Nat} (h : R < 2 ^ rem) (k : Nat) : (getO k (some (R, rem))).1 < 2 ^ k := by
 unfold getO
 by_cases hk : k ≤ rem
 ·simp only [hk, if_true]
  rw [Nat.div_lt_iff_lt_mul (Nat.two_pow_pos _), ← Nat.pow_add, show k + (rem - k) = rem by omega]
  exact h
 ·simp only [hk, if_false]
  exact Nat.two_pow_pos k
section
variable {w w' : World} {g row : Nat} {s : Option (Nat × Nat)}
end
def RRdO (w : World) (g row : Nat) (bs : List Nat) : Option (Nat × Nat) → Prop
 | some (R, rem) => RRd w g row bs R rem true ∧ R < 2 ^ rem
 | none => RRd w g row bs 0 0 false
section
variable {w w' : World} {g row : Nat} {bs : List Nat} {s : Option (Nat × Nat)}
theorem RRdO.mod {S : Nat → Prop} (h : RRdO w g row bs s) (hm : Mod S w w') (h1 : ¬ S g) (h2 : row < w.heap.size → ¬ S row) : RRdO w' g row bs s := by
 cases s with
 | none => exact RRd.mod h hm h1 h2
 | some p => exact ⟨RRd.mod h.1 hm h1 h2, h.2⟩
theorem RRd.lt' {R rem : Nat} {ok : Bool} (h : RRd w g row bs R rem ok) : g < w.heap.size := by
 obtain ⟨A, n, c, a, hblk, _⟩ := h
 exact hblk.lt
theorem RRdO.lt (h : RRdO w g row bs s) : g < w.heap.size := by
 cases s with
 | none => exact RRd.lt' h
 | some p => exact RRd.lt' h.1
theorem RRdO.flag (h : RRdO w g row bs s) : w.cell? ⟨g, 2, none⟩ = some (.bool (!s.isSome)) := by
 cases s with
 | none => exact RRd.flag h
 | some p => exact RRd.flag h.1
theorem RRdO.small (h : RRdO w g row bs s) : ∀ R rem, s = some (R, rem) → R < 2 ^ rem := by
 rintro R rem rfl
 exact h.2
end
theorem rget_o (g row k : Nat) (N : Int) (bs : List Nat) (s : Option (Nat × Nat)) (w : World) (hN : N = (k : Int)) (hk : k ≤ 64) (h : RRdO w g row bs s) :
  Calls Tryz.prog 43 #[.pointer (some ⟨g, 0, none⟩), .int .i64 N] w fun e w' => e = .returned (.int .u64 ((getO k s).1 : Int)) ∧ RRdO w' g row bs (getO k s).2 ∧ Mod (fun i => i = g) w w' := by
 subst hN
 cases s with
 | none =>
  refine (rget_ans (k : Int) k (by omega) h).mono ?_
  rintro e w' ⟨rfl, h1, h2⟩
  exact ⟨rfl, h1, h2⟩
 | some p =>
  obtain ⟨R, rem⟩ := p
  refine (rget_ans (k : Int) k (by omega) h.1).mono ?_
  rintro e w' ⟨rfl, h1, h2⟩
  by_cases hkr : k ≤ rem
  ·rw [ans_yes hkr] at h1 ⊢
   have e1 : getO k (some (R, rem)) = (R / 2 ^ (rem - k), some (R % 2 ^ (rem - k), rem - k)) := if_pos hkr
   rw [e1]
   exact ⟨rfl, ⟨h1, Nat.mod_lt _ (Nat.two_pow_pos _)⟩, h2⟩
  ·rw [ans_no (fun h => hkr h.2)] at h1 ⊢
   have e1 : getO k (some (R, rem)) = (0, none) := if_neg hkr
   rw [e1]
   exact ⟨rfl, h1, h2⟩

end Go.Proofs.YtmeilddngohccaaGreatDoor

/- Plain mathematics of values by what turns, the second part: a row that is read step by step, and told again, is the same row. -/
namespace Go.Proofs.YtmeilddngohccaaGreatDoor

/-- Fields were taken off what a reader had. -/
def Took (fs : List (Nat × Nat)) (R rem R1 rem1 : Nat) : Prop := R = fnum fs * 2 ^ rem1 + R1 ∧ R1 < 2 ^ rem1 ∧ rem = flen fs + rem1
theorem Took.nil {R rem : Nat} (h : R < 2 ^ rem) : Took [] R rem R rem := ⟨by show R = 0 * _ + R; omega, h, by show rem = 0 + rem; omega⟩
theorem Took.app {fs gs : List (Nat × Nat)} {R rem R1 rem1 R2 rem2 : Nat} (h : Took fs R rem R1 rem1) (h2 : Took gs R1 rem1 R2 rem2) : Took (fs ++ gs) R rem R2 rem2 := by
 obtain ⟨a1, _, a3⟩ := h
 obtain ⟨b1, b2, b3⟩ := h2
 refine ⟨?_, b2, by rw [flen_app, a3, b3, Nat.add_assoc]⟩
 rw [a1, b1, b3, fnum_app, Nat.pow_add, Nat.add_mul, Nat.mul_assoc, Nat.add_assoc]
theorem took_take {k R rem v R1 rem1 : Nat} (h : takeB k R rem = some (v, R1, rem1)) (hR : R < 2 ^ rem) : Took [(v, k)] R rem R1 rem1 ∧ v < 2 ^ k := by
 obtain ⟨h1, h2, h3⟩ := takeB_some h hR
 unfold takeB at h
 split at h
 ·rename_i hk
  injection h with h
  injection h with e1 h
  injection h with e2 e3
  subst e3
  have hv : v < 2 ^ k := h1
  refine ⟨⟨?_, h2, by show rem = (k + 0) + (rem - k); omega⟩, hv⟩
  show R = (v % 2 ^ k * 2 ^ 0 + 0) * 2 ^ (rem - k) + R1
  rw [Nat.mod_eq_of_lt hv, Nat.pow_zero, Nat.mul_one, Nat.add_zero, ← e1, ← e2, Nat.mul_comm, Nat.div_add_mod]
 ·cases h
theorem Took.snoc {fs : List (Nat × Nat)} {R rem R1 rem1 k v R2 rem2 : Nat} (h : Took fs R rem R1 rem1) (ht : takeB k R1 rem1 = some (v, R2, rem2)) : Took (fs ++ [(v, k)]) R rem R2 rem2 := h.app (took_take ht h.2.1).1
theorem Took.same {fs gs : List (Nat × Nat)} {R rem R1 rem1 : Nat} (h : Took fs R rem R1 rem1) : (flen gs + rem1 = rem ∧ fnum gs = R / 2 ^ rem1) ↔ (flen gs = flen fs ∧ fnum gs = fnum fs) := by
 obtain ⟨a1, a2, a3⟩ := h
 have e : R / 2 ^ rem1 = fnum fs := by rw [a1, Nat.mul_comm, Nat.mul_add_div (Nat.two_pow_pos _), Nat.div_eq_of_lt a2, Nat.add_zero]
 rw [e]
 constructor
 ·rintro ⟨h1, h2⟩; exact ⟨by omega, h2⟩
 ·rintro ⟨h1, h2⟩; exact ⟨by omega, h2⟩
theorem Took.to {fs gs : List (Nat × Nat)} {R rem R1 rem1 : Nat} (h : Took fs R rem R1 rem1) (h1 : flen gs = flen fs) (h2 : fnum gs = fnum fs) : Took gs R rem R1 rem1 := ⟨by rw [h2]; exact h.1, h.2.1, by rw [h1]; exact h.2.2⟩

/-- What a turn's fields were. -/
def Shape (win : Option (Nat × Nat)) (x : Nat) (win' : Option (Nat × Nat)) (fs : List (Nat × Nat)) : Prop :=
 (fs = [(0, 1)] ∧ x = 0 ∧ win' = win) ∨
 (∃ a b y, win = some (a, b) ∧ fs = [(1, 1), (0, 1), (y, 64 - a - b)] ∧ y < 2 ^ (64 - a - b) ∧ x = y * 2 ^ b ∧ win' = win) ∨
 (∃ a m y, a < 32 ∧ m < 64 ∧ a + (m + 1) ≤ 64 ∧ fs = [(1, 1), (1, 1), (a, 5), (m, 6), (y, m + 1)] ∧ y < 2 ^ (m + 1) ∧ x = y * 2 ^ (64 - a - (m + 1)) ∧ win' = some (a, 64 - a - (m + 1)))
theorem rdX_shape {win win' : Option (Nat × Nat)} {R rem x R1 rem1 : Nat} (h : rdX win R rem = some (x, win', R1, rem1)) (hR : R < 2 ^ rem) : ∃ fs, Took fs R rem R1 rem1 ∧ Shape win x win' fs := by
 unfold rdX at h
 cases h0 : takeB 1 R rem with
 | none => rw [h0] at h; cases h
 | some p0 =>
  obtain ⟨c0, Ra, rema⟩ := p0
  rw [h0] at h
  obtain ⟨t0, l0⟩ := took_take h0 hR
  simp only at h
  by_cases hc0 : c0 = 0
  ·rw [if_pos hc0] at h
   injection h with h
   injection h with e1 h
   injection h with e2 h
   injection h with e3 e4
   subst e1 e2 e3 e4 hc0
   exact ⟨_, t0, .inl ⟨rfl, rfl, rfl⟩⟩
  ·rw [if_neg hc0] at h
   obtain rfl : c0 = 1 := by omega
   cases h1 : takeB 1 Ra rema with
   | none => rw [h1] at h; cases h
   | some p1 =>
    obtain ⟨c1, Rb, remb⟩ := p1
    rw [h1] at h
    obtain ⟨_, l1⟩ := took_take h1 t0.2.1
    have t1 := t0.snoc h1
    simp only at h
    by_cases hc1 : c1 = 0
    ·rw [if_pos hc1] at h
     subst hc1
     cases win with
     | none => cases h
     | some p =>
      obtain ⟨a, b⟩ := p
      simp only at h
      cases h2 : takeB (64 - a - b) Rb remb with
      | none => rw [h2] at h; cases h
      | some p2 =>
       obtain ⟨y, Rc, remc⟩ := p2
       rw [h2] at h
       obtain ⟨_, l2⟩ := took_take h2 t1.2.1
       have t2 := t1.snoc h2
       injection h with h
       injection h with e1 h
       injection h with e2 h
       injection h with e3 e4
       subst e3 e4
       exact ⟨_, t2, .inr (.inl ⟨a, b, y, rfl, rfl, l2, e1.symm, e2.symm⟩)⟩
    ·rw [if_neg hc1] at h
     obtain rfl : c1 = 1 := by omega
     cases h2 : takeB 5 Rb remb with
     | none => rw [h2] at h; cases h
     | some p2 =>
      obtain ⟨a, Rc, remc⟩ := p2
      rw [h2] at h
      obtain ⟨_, l2⟩ := took_take h2 t1.2.1
      have t2 := t1.snoc h2
      simp only at h
      cases h3 : takeB 6 Rc remc with
      | none => rw [h3] at h; cases h
      | some p3 =>
       obtain ⟨m, Rd, remd⟩ := p3
       rw [h3] at h
       obtain ⟨_, l3⟩ := took_take h3 t2.2.1
       have t3 := t2.snoc h3
       simp only at h
       by_cases hb : 64 < a + (m + 1)
       ·rw [if_pos hb] at h; cases h
       ·rw [if_neg hb] at h
        cases h4 : takeB (m + 1) Rd remd with
        | none => rw [h4] at h; cases h
        | some p4 =>
         obtain ⟨y, Re, reme⟩ := p4
         rw [h4] at h
         obtain ⟨_, l4⟩ := took_take h4 t3.2.1
         have t4 := t3.snoc h4
         injection h with h
         injection h with e1 h
         injection h with e2 h
         injection h with e3 e4
         subst e3 e4
         exact ⟨_, t4, .inr (.inr ⟨a, m, y, l2, l3, by omega, rfl, l4, e1.symm, e2.symm⟩)⟩
theorem Shape.lt {win win' : Option (Nat × Nat)} {x : Nat} {fs : List (Nat × Nat)} (h : Shape win x win' fs) (hw : WinOk win) : x < 2 ^ 64 := by
 rcases h with ⟨_, rfl, _⟩ | ⟨a, b, y, rfl, _, hy, rfl, _⟩ | ⟨a, m, y, ha, hm, hab, _, hy, rfl, _⟩
 ·decide
 ·obtain ⟨w1, w2⟩ := hw
  have := Nat.mul_lt_mul_of_pos_right hy (Nat.two_pow_pos b)
  rw [← Nat.pow_add] at this
  exact Nat.lt_of_lt_of_le this (Nat.pow_le_pow_right (by omega) (by omega))
 ·have := Nat.mul_lt_mul_of_pos_right hy (Nat.two_pow_pos (64 - a - (m + 1)))
  rw [← Nat.pow_add] at this
  exact Nat.lt_of_lt_of_le this (Nat.pow_le_pow_right (by omega) (by omega))
theorem Shape.ok {win win' : Option (Nat × Nat)} {x : Nat} {fs : List (Nat × Nat)} (h : Shape win x win' fs) (hw : WinOk win) : WinOk win' := by
 rcases h with ⟨_, _, rfl⟩ | ⟨a, b, y, _, _, _, _, rfl⟩ | ⟨a, m, y, ha, hm, hab, _, _, _, rfl⟩
 ·exact hw
 ·exact hw
 ·exact ⟨by omega, by omega⟩
theorem Shape.pos {win win' : Option (Nat × Nat)} {x : Nat} {fs : List (Nat × Nat)} (h : Shape win x win' fs) : 1 ≤ flen fs := by
 rcases h with ⟨rfl, _, _⟩ | ⟨a, b, y, _, rfl, _, _, _⟩ | ⟨a, m, y, ha, hm, hab, rfl, _, _, _⟩
 ·exact Nat.le_refl _
 ·show 1 ≤ 1 + _; omega
 ·show 1 ≤ 1 + _; omega

/-- A turn is read, and told again in these bits. -/
def stX (win : Option (Nat × Nat)) (R rem : Nat) : Option (Nat × Option (Nat × Nat) × Nat × Nat) :=
 match rdX win R rem with
 | none => none
 | some (x, _, R1, rem1) => if flen (fieldsX win x) + rem1 = rem ∧ fnum (fieldsX win x) = R / 2 ^ rem1 then some (x, winX win x, R1, rem1) else none
theorem stX_took {win win' : Option (Nat × Nat)} {R rem x R1 rem1 : Nat} (h : stX win R rem = some (x, win', R1, rem1)) (hR : R < 2 ^ rem) (hw : WinOk win) : Took (fieldsX win x) R rem R1 rem1 ∧ win' = winX win x ∧ x < 2 ^ 64 := by
 unfold stX at h
 cases h0 : rdX win R rem with
 | none => rw [h0] at h; cases h
 | some p =>
  obtain ⟨x', w2, R2, rem2⟩ := p
  rw [h0] at h
  simp only at h
  obtain ⟨fs, ht, hs⟩ := rdX_shape h0 hR
  split at h
  ·rename_i hc
   injection h with h
   injection h with e1 h
   injection h with e2 h
   injection h with e3 e4
   subst e1 e3 e4
   obtain ⟨c1, c2⟩ := ht.same.1 hc
   exact ⟨ht.to c1 c2, e2.symm, hs.lt hw⟩
  ·cases h
theorem stX_of {win : Option (Nat × Nat)} {x X r rem : Nat} (hw : WinOk win) (hx : x < 2 ^ 64) (fs : List (Nat × Nat)) (hX : X < 2 ^ r) (hr : rem = flen (fieldsX win x ++ fs) + r) :
  stX win (fnum (fieldsX win x ++ fs) * 2 ^ r + X) rem = some (x, winX win x, fnum fs * 2 ^ r + X, flen fs + r) := by
 have h := rdX_of hw hx fs hX hr
 unfold stX
 rw [h]
 simp only
 rw [if_pos]
 refine ⟨by rw [hr, flen_app]; omega, ?_⟩
 have h2 := fnum_tail fs hX
 rw [fnum_app, Nat.add_mul, Nat.mul_assoc, ← Nat.pow_add, Nat.add_assoc, Nat.mul_comm, Nat.mul_add_div (Nat.two_pow_pos _), Nat.div_eq_of_lt h2, Nat.add_zero]
def stXs : Nat → Option (Nat × Nat) → Nat → Nat → Nat → Option (List Nat × Nat × Nat)
 | 0, _, _, R, rem => some ([], R, rem)
 | k + 1, win, prev, R, rem =>
  match stX win R rem with
  | none => none
  | some (x, win', R1, rem1) => (stXs k win' (prev ^^^ x) R1 rem1).map fun p => ((prev ^^^ x) :: p.1, p.2)
def stVals : Nat → Nat → Nat → Option (List Nat × Nat × Nat)
 | 0, R, rem => some ([], R, rem)
 | n + 1, R, rem =>
  match takeB 64 R rem with
  | none => none
  | some (u, R1, rem1) => (stXs n none u R1 rem1).map fun p => (u :: p.1, p.2)
theorem xor_forth (prev x : Nat) : (prev ^^^ x) ^^^ prev = x := by rw [Nat.xor_comm, ← Nat.xor_assoc, Nat.xor_self, Nat.zero_xor]
theorem stXs_took {k : Nat} {win : Option (Nat × Nat)} {prev R rem : Nat} {vs : List Nat} {R1 rem1 : Nat} (h : stXs k win prev R rem = some (vs, R1, rem1)) (hR : R < 2 ^ rem) (hw : WinOk win) (hp : prev < 2 ^ 64) :
  Took (encX win prev vs) R rem R1 rem1 ∧ vs.length = k ∧ ∀ v ∈ vs, v < 2 ^ 64 := by
 induction k generalizing win prev R rem vs with
 | zero =>
  injection h with h
  injection h with e1 h
  injection h with e2 e3
  subst e1 e2 e3
  exact ⟨Took.nil hR, rfl, fun _ h => by cases h⟩
 | succ k ih =>
  have e : stXs (k + 1) win prev R rem = match stX win R rem with | none => none | some (x, win', R1, rem1) => (stXs k win' (prev ^^^ x) R1 rem1).map fun (p : List Nat × Nat × Nat) => ((prev ^^^ x) :: p.1, p.2) := rfl
  rw [e] at h
  cases h0 : stX win R rem with
  | none => rw [h0] at h; cases h
  | some q =>
   obtain ⟨x, win', R2, rem2⟩ := q
   rw [h0] at h
   obtain ⟨t1, t2, t3⟩ := stX_took h0 hR hw
   obtain ⟨p, hp1, hp2⟩ := Option.map_eq_some_iff.1 h
   obtain ⟨us, R3, rem3⟩ := p
   injection hp2 with e1 e2
   injection e2 with e2 e3
   subst e1 e2 e3
   have hv : prev ^^^ x < 2 ^ 64 := Nat.xor_lt_two_pow hp t3
   subst t2
   obtain ⟨i1, i2, i3⟩ := ih hp1 t1.2.1 (winX_ok hw t3) hv
   refine ⟨?_, by simp [i2], fun v hv' => ?_⟩
   ·show Took (fieldsX win ((prev ^^^ x) ^^^ prev) ++ encX (winX win ((prev ^^^ x) ^^^ prev)) (prev ^^^ x) us) R rem R3 rem3
    rw [xor_forth]
    exact t1.app i1
   ·rcases List.mem_cons.1 hv' with rfl | hm
    ·exact hv
    ·exact i3 v hm
theorem stVals_took {n R rem : Nat} {vs : List Nat} {R1 rem1 : Nat} (h : stVals n R rem = some (vs, R1, rem1)) (hR : R < 2 ^ rem) : Took (encVals vs) R rem R1 rem1 ∧ vs.length = n ∧ ∀ v ∈ vs, v < 2 ^ 64 := by
 cases n with
 | zero =>
  injection h with h
  injection h with e1 h
  injection h with e2 e3
  subst e1 e2 e3
  exact ⟨Took.nil hR, rfl, fun _ h => by cases h⟩
 | succ n =>
  have e : stVals (n + 1) R rem = match takeB 64 R rem with | none => none | some (u, R1, rem1) => (stXs n none u R1 rem1).map fun (p : List Nat × Nat × Nat) => (u :: p.1, p.2) := rfl
  rw [e] at h
  cases h0 : takeB 64 R rem with
  | none => rw [h0] at h; cases h
  | some q =>
   obtain ⟨u, R2, rem2⟩ := q
   rw [h0] at h
   obtain ⟨t1, hu⟩ := took_take h0 hR
   obtain ⟨p, hp1, hp2⟩ := Option.map_eq_some_iff.1 h
   obtain ⟨us, R3, rem3⟩ := p
   injection hp2 with e1 e2
   injection e2 with e2 e3
   subst e1 e2 e3
   obtain ⟨i1, i2, i3⟩ := stXs_took hp1 t1.2.1 trivial hu
   refine ⟨t1.app i1, by simp [i2], fun v hv' => ?_⟩
   rcases List.mem_cons.1 hv' with rfl | hm
   ·exact hu
   ·exact i3 v hm
theorem stXs_of (vs : List Nat) (hvs : ∀ v ∈ vs, v < 2 ^ 64) (win : Option (Nat × Nat)) (hw : WinOk win) (prev : Nat) (hp : prev < 2 ^ 64) {X r rem : Nat} (hX : X < 2 ^ r) (hr : rem = flen (encX win prev vs) + r) :
  stXs vs.length win prev (fnum (encX win prev vs) * 2 ^ r + X) rem = some (vs, X, r) := by
 induction vs generalizing win prev rem with
 | nil =>
  subst hr
  show some (([] : List Nat), 0 * 2 ^ r + X, 0 + r) = _
  rw [Nat.zero_mul, Nat.zero_add, Nat.zero_add]
 | cons v vs ih =>
  have hv := hvs v (by simp)
  have hx : v ^^^ prev < 2 ^ 64 := Nat.xor_lt_two_pow hv hp
  have h := stX_of (rem := rem) hw hx (encX (winX win (v ^^^ prev)) v vs) hX hr
  show (match stX win (fnum (fieldsX win (v ^^^ prev) ++ encX (winX win (v ^^^ prev)) v vs) * 2 ^ r + X) rem with | none => none | some (x, win', R1, rem1) => (stXs vs.length win' (prev ^^^ x) R1 rem1).map fun (p : List Nat × Nat × Nat) => ((prev ^^^ x) :: p.1, p.2)) = _
  rw [h]
  show (stXs vs.length (winX win (v ^^^ prev)) (prev ^^^ (v ^^^ prev)) _ _).map _ = _
  rw [xor_back, ih (fun y hy => hvs y (by simp [hy])) (winX win (v ^^^ prev)) (winX_ok hw hx) v hv rfl]
  rfl
theorem stVals_of (vs : List Nat) (hvs : ∀ v ∈ vs, v < 2 ^ 64) {X r rem : Nat} (hX : X < 2 ^ r) (hr : rem = flen (encVals vs) + r) : stVals vs.length (fnum (encVals vs) * 2 ^ r + X) rem = some (vs, X, r) := by
 cases vs with
 | nil =>
  subst hr
  show some (([] : List Nat), 0 * 2 ^ r + X, 0 + r) = _
  rw [Nat.zero_mul, Nat.zero_add, Nat.zero_add]
 | cons v vs =>
  have hv := hvs v (by simp)
  have ht := take_f (v := v) (w := 64) (fs := encX none v vs) (rem := rem) hX hr hv
  show (match takeB 64 (fnum ((v, 64) :: encX none v vs) * 2 ^ r + X) rem with | none => none | some (u, R1, rem1) => (stXs vs.length none u R1 rem1).map fun (p : List Nat × Nat × Nat) => (u :: p.1, p.2)) = _
  rw [ht]
  show (stXs vs.length none v _ _).map _ = _
  rw [stXs_of vs (fun y hy => hvs y (by simp [hy])) none trivial v hv hX rfl]
  rfl
/-- What is read loosely: how many, which, and how much is left. -/
theorem rdXs_some {k : Nat} {win : Option (Nat × Nat)} {prev R rem : Nat} {vs : List Nat} {R1 rem1 : Nat} (h : rdXs k win prev R rem = some (vs, R1, rem1)) (hR : R < 2 ^ rem) (hw : WinOk win) (hp : prev < 2 ^ 64) :
  (∃ fs, Took fs R rem R1 rem1 ∧ k ≤ flen fs) ∧ vs.length = k ∧ ∀ v ∈ vs, v < 2 ^ 64 := by
 induction k generalizing win prev R rem vs with
 | zero =>
  injection h with h
  injection h with e1 h
  injection h with e2 e3
  subst e1 e2 e3
  exact ⟨⟨_, Took.nil hR, Nat.zero_le _⟩, rfl, fun _ h => by cases h⟩
 | succ k ih =>
  have e : rdXs (k + 1) win prev R rem = match rdX win R rem with | none => none | some (x, win', R1, rem1) => (rdXs k win' (prev ^^^ x) R1 rem1).map fun (p : List Nat × Nat × Nat) => ((prev ^^^ x) :: p.1, p.2) := rfl
  rw [e] at h
  cases h0 : rdX win R rem with
  | none => rw [h0] at h; cases h
  | some q =>
   obtain ⟨x, win', R2, rem2⟩ := q
   rw [h0] at h
   obtain ⟨fs, t1, hs⟩ := rdX_shape h0 hR
   obtain ⟨p, hp1, hp2⟩ := Option.map_eq_some_iff.1 h
   obtain ⟨us, R3, rem3⟩ := p
   injection hp2 with e1 e2
   injection e2 with e2 e3
   subst e1 e2 e3
   have hv : prev ^^^ x < 2 ^ 64 := Nat.xor_lt_two_pow hp (hs.lt hw)
   obtain ⟨⟨gs, i1, i0⟩, i2, i3⟩ := ih hp1 t1.2.1 (hs.ok hw) hv
   refine ⟨⟨_, t1.app i1, ?_⟩, by simp [i2], fun v hv' => ?_⟩
   ·have := hs.pos
    rw [flen_app]; omega
   ·rcases List.mem_cons.1 hv' with rfl | hm
    ·exact hv
    ·exact i3 v hm
theorem rdVals_some {n R rem : Nat} {vs : List Nat} {R1 rem1 : Nat} (h : rdVals n R rem = some (vs, R1, rem1)) (hR : R < 2 ^ rem) : (∃ fs, Took fs R rem R1 rem1) ∧ vs.length = n ∧ ∀ v ∈ vs, v < 2 ^ 64 := by
 cases n with
 | zero =>
  injection h with h
  injection h with e1 h
  injection h with e2 e3
  subst e1 e2 e3
  exact ⟨⟨_, Took.nil hR⟩, rfl, fun _ h => by cases h⟩
 | succ n =>
  have e : rdVals (n + 1) R rem = match takeB 64 R rem with | none => none | some (u, R1, rem1) => (rdXs n none u R1 rem1).map fun (p : List Nat × Nat × Nat) => (u :: p.1, p.2) := rfl
  rw [e] at h
  cases h0 : takeB 64 R rem with
  | none => rw [h0] at h; cases h
  | some q =>
   obtain ⟨u, R2, rem2⟩ := q
   rw [h0] at h
   obtain ⟨t1, hu⟩ := took_take h0 hR
   obtain ⟨p, hp1, hp2⟩ := Option.map_eq_some_iff.1 h
   obtain ⟨us, R3, rem3⟩ := p
   injection hp2 with e1 e2
   injection e2 with e2 e3
   subst e1 e2 e3
   obtain ⟨⟨gs, i1, _⟩, i2, i3⟩ := rdXs_some hp1 t1.2.1 trivial hu
   refine ⟨⟨_, t1.app i1⟩, by simp [i2], fun v hv' => ?_⟩
   rcases List.mem_cons.1 hv' with rfl | hm
   ·exact hu
   ·exact i3 v hm
/-- Step by step, or told again as a whole: one row. -/
theorem stVals_eq {n R rem : Nat} (hR : R < 2 ^ rem) : stVals n R rem = valRow n R rem := by
 cases h : stVals n R rem with
 | some p =>
  obtain ⟨vs, R1, rem1⟩ := p
  obtain ⟨⟨t1, t2, t3⟩, hl, hv⟩ := stVals_took h hR
  have := valRow_of vs hv t2 t3
  rw [hl, ← t1] at this
  exact this.symm
 | none =>
  cases h2 : valRow n R rem with
  | none => rfl
  | some p =>
   exfalso
   unfold valRow at h2
   cases h3 : rdVals n R rem with
   | none => rw [h3] at h2; cases h2
   | some q =>
    obtain ⟨vs, R1, rem1⟩ := q
    rw [h3] at h2
    simp only at h2
    split at h2
    ·rename_i hc
     obtain ⟨⟨fs, ht⟩, hl, hv⟩ := rdVals_some h3 hR
     obtain ⟨c1, c2⟩ := ht.same.1 hc
     obtain ⟨t1, t2, t3⟩ := ht.to c1 c2
     have := stVals_of vs hv t2 t3
     rw [hl, ← t1, h] at this
     cases this
    ·cases h2
end Go.Proofs.YtmeilddngohccaaGreatDoor

/- A turn is read, as states of a reader: loosely, and as it is told; what values cost. -/
namespace Go.Proofs.YtmeilddngohccaaGreatDoor

def SmallO (s : Option (Nat × Nat)) : Prop := ∀ R rem, s = some (R, rem) → R < 2 ^ rem
theorem getO_some {k R1 rem1 : Nat} {s : Option (Nat × Nat)} (h : (getO k s).2 = some (R1, rem1)) : ∃ R rem, s = some (R, rem) ∧ takeB k R rem = some ((getO k s).1, R1, rem1) := by
 cases s with
 | none => cases h
 | some p =>
  obtain ⟨R, rem⟩ := p
  refine ⟨R, rem, rfl, ?_⟩
  rw [getO_take] at h ⊢
  cases ht : takeB k R rem with
  | none => rw [ht] at h; cases h
  | some q =>
   obtain ⟨v, R2, rem2⟩ := q
   rw [ht] at h
   have h2 : some (R2, rem2) = some (R1, rem1) := h
   injection h2 with h2
   injection h2 with e1 e2
   subst e1 e2
   rfl
theorem getO_bad {k R rem : Nat} (h : (getO k (some (R, rem))).2 = none) : takeB k R rem = none := by
 rw [getO_take] at h
 cases ht : takeB k R rem with
 | none => rfl
 | some q => rw [ht] at h; cases h
theorem getO_bad0 {k : Nat} {s : Option (Nat × Nat)} (h : (getO k s).2 = none) : (getO k s).1 = 0 := by
 cases s with
 | none => rfl
 | some p =>
  obtain ⟨R, rem⟩ := p
  have := getO_bad h
  rw [getO_take, this]
theorem SmallO.get {s : Option (Nat × Nat)} (h : SmallO s) (k : Nat) : SmallO (getO k s).2 := by
 intro R1 rem1 h1
 obtain ⟨R, rem, rfl, ht⟩ := getO_some h1
 exact (took_take ht (h _ _ rfl)).1.2.1
theorem SmallO.lt {s : Option (Nat × Nat)} (h : SmallO s) (k : Nat) : (getO k s).1 < 2 ^ k := by
 cases s with
 | none => exact Nat.two_pow_pos k
 | some p => exact getO_lt (h _ _ rfl) k
theorem SmallO.bit {s : Option (Nat × Nat)} (h : SmallO s) : (getO 1 s).1 = 0 ∨ (getO 1 s).1 = 1 := by
 have := h.lt 1
 omega
def rdO (win : Option (Nat × Nat)) : Option (Nat × Nat) → Option (Nat × Option (Nat × Nat) × Nat × Nat)
 | none => none
 | some (R, rem) => rdX win R rem
def stO (win : Option (Nat × Nat)) : Option (Nat × Nat) → Option (Nat × Option (Nat × Nat) × Nat × Nat)
 | none => none
 | some (R, rem) => stX win R rem
/-- Fields were taken off a state. -/
def TookO (fs : List (Nat × Nat)) (s : Option (Nat × Nat)) (R1 rem1 : Nat) : Prop := ∃ R rem, s = some (R, rem) ∧ Took fs R rem R1 rem1
theorem TookO.snoc {k R1 rem1 : Nat} {fs : List (Nat × Nat)} {s s' : Option (Nat × Nat)} (h : (getO k s').2 = some (R1, rem1)) (h0 : ∀ R2 rem2, s' = some (R2, rem2) → TookO fs s R2 rem2) : TookO (fs ++ [((getO k s').1, k)]) s R1 rem1 := by
 obtain ⟨R2, rem2, e, ht⟩ := getO_some h
 obtain ⟨R, rem, e0, ht0⟩ := h0 R2 rem2 e
 exact ⟨R, rem, e0, ht0.snoc ht⟩
theorem stO_none {win : Option (Nat × Nat)} {s : Option (Nat × Nat)} (hr : rdO win s = none) : stO win s = none := by
 cases s with
 | none => rfl
 | some p =>
  obtain ⟨R, rem⟩ := p
  have hr' : rdX win R rem = none := hr
  show stX win R rem = none
  unfold stX
  rw [hr']
section
variable {win : Option (Nat × Nat)} {s : Option (Nat × Nat)}
theorem rdO_zero (h : (getO 1 s).1 = 0) : rdO win s = (getO 1 s).2.map fun p => (0, win, p.1, p.2) := by
 cases s with
 | none => rfl
 | some p =>
  obtain ⟨R, rem⟩ := p
  show rdX win R rem = _
  unfold rdX
  rw [getO_take] at h ⊢
  cases ht : takeB 1 R rem with
  | none => rfl
  | some q =>
   obtain ⟨v, R1, rem1⟩ := q
   rw [ht] at h
   have h' : v = 0 := h
   subst h'
   rfl
theorem rdO_one (h0 : (getO 1 s).1 ≠ 0) : ∃ R rem R1 rem1, s = some (R, rem) ∧ takeB 1 R rem = some ((getO 1 s).1, R1, rem1) ∧ (getO 1 s).2 = some (R1, rem1) := by
 cases h : (getO 1 s).2 with
 | none => exact absurd (getO_bad0 h) h0
 | some p =>
  obtain ⟨R, rem, e, ht⟩ := getO_some (R1 := p.1) (rem1 := p.2) h
  exact ⟨R, rem, _, _, e, ht, rfl⟩
theorem rdO_in_none (h0 : (getO 1 s).1 ≠ 0) (h1 : (getO 1 (getO 1 s).2).1 = 0) : rdO none s = none := by
 obtain ⟨R, rem, R1, rem1, rfl, ht, e1⟩ := rdO_one h0
 rw [e1, getO_take] at h1
 show rdX none R rem = none
 unfold rdX
 rw [ht]
 simp only
 rw [if_neg h0]
 cases ht1 : takeB 1 R1 rem1 with
 | none => rfl
 | some q =>
  rw [ht1] at h1
  have h1' : q.1 = 0 := h1
  simp only [h1', if_true]
theorem rdO_in {a b : Nat} (h0 : (getO 1 s).1 ≠ 0) (h1 : (getO 1 (getO 1 s).2).1 = 0) :
  rdO (some (a, b)) s = (getO (64 - a - b) (getO 1 (getO 1 s).2).2).2.map fun p => ((getO (64 - a - b) (getO 1 (getO 1 s).2).2).1 * 2 ^ b, some (a, b), p.1, p.2) := by
 obtain ⟨R, rem, R1, rem1, rfl, ht, e1⟩ := rdO_one h0
 rw [e1] at h1 ⊢
 rw [getO_take] at h1 ⊢
 show rdX (some (a, b)) R rem = _
 unfold rdX
 rw [ht]
 simp only
 rw [if_neg h0]
 cases ht1 : takeB 1 R1 rem1 with
 | none => rfl
 | some q =>
  obtain ⟨v, R2, rem2⟩ := q
  rw [ht1] at h1
  have h1' : v = 0 := h1
  subst h1'
  simp only [if_true]
  rw [getO_take]
  cases takeB (64 - a - b) R2 rem2 <;> rfl
theorem rdO_far (h0 : (getO 1 s).1 ≠ 0) (h1 : (getO 1 (getO 1 s).2).1 ≠ 0)
  (hf : 64 < (getO 5 (getO 1 (getO 1 s).2).2).1 + ((getO 6 (getO 5 (getO 1 (getO 1 s).2).2).2).1 + 1)) : rdO win s = none := by
 obtain ⟨R, rem, R1, rem1, rfl, ht, e1⟩ := rdO_one h0
 rw [e1] at h1 hf
 obtain ⟨R1', rem1', R2, rem2, e1', ht1, e2⟩ := rdO_one h1
 injection e1' with e1'
 injection e1' with x1 x2
 subst x1 x2
 rw [e2] at hf
 show rdX win R rem = none
 unfold rdX
 rw [ht]
 simp only
 rw [if_neg h0, ht1]
 simp only
 rw [if_neg h1]
 rw [getO_take] at hf
 cases ht2 : takeB 5 R2 rem2 with
 | none => rfl
 | some q =>
  obtain ⟨a, R3, rem3⟩ := q
  rw [ht2] at hf
  simp only at hf ⊢
  rw [getO_take] at hf
  cases ht3 : takeB 6 R3 rem3 with
  | none => rfl
  | some q =>
   obtain ⟨m, R4, rem4⟩ := q
   rw [ht3] at hf
   simp only at hf ⊢
   rw [if_pos hf]
theorem rdO_fresh {a m : Nat} (h0 : (getO 1 s).1 ≠ 0) (h1 : (getO 1 (getO 1 s).2).1 ≠ 0) (ha : a = (getO 5 (getO 1 (getO 1 s).2).2).1) (hm : m = (getO 6 (getO 5 (getO 1 (getO 1 s).2).2).2).1) (hf : ¬ 64 < a + (m + 1)) :
  rdO win s = (getO (m + 1) (getO 6 (getO 5 (getO 1 (getO 1 s).2).2).2).2).2.map fun p => ((getO (m + 1) (getO 6 (getO 5 (getO 1 (getO 1 s).2).2).2).2).1 * 2 ^ (64 - a - (m + 1)), some (a, 64 - a - (m + 1)), p.1, p.2) := by
 obtain ⟨R, rem, R1, rem1, rfl, ht, e1⟩ := rdO_one h0
 rw [e1] at h1 ha hm ⊢
 obtain ⟨R1', rem1', R2, rem2, e1', ht1, e2⟩ := rdO_one h1
 injection e1' with e1'
 injection e1' with x1 x2
 subst x1 x2
 rw [e2] at ha hm ⊢
 show rdX win R rem = _
 unfold rdX
 rw [ht]
 simp only
 rw [if_neg h0, ht1]
 simp only
 rw [if_neg h1]
 rw [getO_take] at ha hm ⊢
 cases ht2 : takeB 5 R2 rem2 with
 | none => rfl
 | some q =>
  obtain ⟨a', R3, rem3⟩ := q
  rw [ht2] at ha hm
  simp only at ha hm ⊢
  subst ha
  rw [getO_take] at hm ⊢
  cases ht3 : takeB 6 R3 rem3 with
  | none => rfl
  | some q =>
   obtain ⟨m', R4, rem4⟩ := q
   rw [ht3] at hm
   simp only at hm ⊢
   subst hm
   rw [if_neg hf, getO_take]
   cases takeB (m + 1) R4 rem4 <;> rfl
theorem stO_far (h0 : (getO 1 s).1 ≠ 0) (h1 : (getO 1 (getO 1 s).2).1 ≠ 0)
  (hf : 64 < (getO 5 (getO 1 (getO 1 s).2).2).1 + ((getO 6 (getO 5 (getO 1 (getO 1 s).2).2).2).1 + 1)) : stO win s = none := stO_none (rdO_far h0 h1 hf)
end
theorem encX_len : ∀ (zs : List Nat) (win : Option (Nat × Nat)) (prev : Nat), flen (encX win prev zs) ≤ 77 * zs.length
 | [], _, _ => Nat.zero_le _
 | z :: zs, win, prev => by
  have := encX_len zs (winX win (z ^^^ prev)) z
  have := (fieldsX_len (win := win) (x := z ^^^ prev)).2.2
  show flen (fieldsX win (z ^^^ prev) ++ encX _ z zs) ≤ _
  rw [flen_app, List.length_cons]
  omega
theorem encVals_len (zs : List Nat) : flen (encVals zs) ≤ 64 + 77 * zs.length := by
 cases zs with
 | nil => exact Nat.zero_le _
 | cons z zs =>
  have := encX_len zs none z
  show 64 + _ ≤ _
  rw [List.length_cons]
  omega
end Go.Proofs.YtmeilddngohccaaGreatDoor

/- Plain mathematics of all codecs: what a row of samples is told in, in each of the six; that it is read back, and nothing else is; the one that takes the fewest bytes. -/
namespace Go.Proofs.YtmeilddngohccaaGreatDoor

/-- Fields as bytes. -/
def packF (fs : List (Nat × Nat)) : List Nat := packB (fnum fs) (flen fs)
theorem packF_len (fs : List (Nat × Nat)) : (packF fs).length = (flen fs + 7) / 8 := packB_len _ _
theorem packF_256 (fs : List (Nat × Nat)) : lt256 (packF fs) := packB_256 _ _
theorem packF_val (fs : List (Nat × Nat)) : val (packF fs) = fnum fs * 2 ^ (8 * ((flen fs + 7) / 8) - flen fs) + 0 ∧ 8 * (packF fs).length = flen fs + (8 * ((flen fs + 7) / 8) - flen fs) := by
 refine ⟨by rw [Nat.add_zero]; exact packB_val (fnum_lt fs), by rw [packF_len]; omega⟩
/-- Of values: how each differs from the one ahead, going round; as numbers without a sign. -/
def stepU (last x : Nat) : Nat := (zig (sg ((x + M64 - last) % M64))).toNat
def stepsU : Nat → List Nat → List Nat
 | _, [] => []
 | last, x :: xs => stepU last x :: stepsU x xs
def backU (last u : Nat) : Nat := (last + un (zag (u : Int))) % M64
def unstepsU : Nat → List Nat → List Nat
 | _, [] => []
 | last, u :: us => backU last u :: unstepsU (backU last u) us
theorem backU_lt (last u : Nat) : backU last u < 2 ^ 64 := by
 unfold backU
 rw [← M64_pow]
 exact Nat.mod_lt _ (by decide)
theorem step_sg (last x : Nat) : -9223372036854775808 ≤ sg ((x + M64 - last) % M64) ∧ sg ((x + M64 - last) % M64) ≤ 9223372036854775807 := by
 have h := sg_fits (u := (x + M64 - last) % M64) (Nat.mod_lt _ (by decide))
 have e : H63 = 9223372036854775808 := rfl
 obtain ⟨h1, h2⟩ := h
 omega
theorem stepU_lt (last x : Nat) : stepU last x < 2 ^ 64 := by
 have h := step_sg last x
 have h2 := zig_fit h.1 h.2
 unfold stepU
 omega
theorem stepU_int (last x : Nat) : (stepU last x : Int) = zig (sg ((x + M64 - last) % M64)) := by
 have h := step_sg last x
 have h2 := zig_fit h.1 h.2
 unfold stepU
 omega
theorem back_step {last x : Nat} (hl : last < 2 ^ 64) (hx : x < 2 ^ 64) : backU last (stepU last x) = x := by
 unfold backU
 rw [stepU_int, zag_zig, un_sg (Nat.mod_lt _ (by decide))]
 show (last + (x + 18446744073709551616 - last) % 18446744073709551616) % 18446744073709551616 = x
 omega
theorem stepsU_len (v : List Nat) : ∀ last, (stepsU last v).length = v.length := by
 induction v with
 | nil => intro _; rfl
 | cons x xs ih => intro last; show (stepsU x xs).length + 1 = xs.length + 1; rw [ih]
theorem stepsU_lt (v : List Nat) : ∀ last, ∀ u ∈ stepsU last v, u < 2 ^ 64 := by
 induction v with
 | nil => intro _ _ h; cases h
 | cons x xs ih =>
  intro last u hu
  rcases List.mem_cons.1 hu with rfl | hu
  ·exact stepU_lt _ _
  ·exact ih _ u hu
theorem unstepsU_len (v : List Nat) : ∀ last, (unstepsU last v).length = v.length := by
 induction v with
 | nil => intro _; rfl
 | cons x xs ih => intro last; show (unstepsU _ xs).length + 1 = xs.length + 1; rw [ih]
theorem unstepsU_lt (v : List Nat) : ∀ last, ∀ u ∈ unstepsU last v, u < 2 ^ 64 := by
 induction v with
 | nil => intro _ _ h; cases h
 | cons x xs ih =>
  intro last u hu
  rcases List.mem_cons.1 hu with rfl | hu
  ·exact backU_lt _ _
  ·exact ih _ u hu
theorem unsteps_steps (v : List Nat) : ∀ last, last < 2 ^ 64 → (∀ x ∈ v, x < 2 ^ 64) → unstepsU last (stepsU last v) = v := by
 induction v with
 | nil => intro _ _ _; rfl
 | cons x xs ih =>
  intro last hl h
  have hx := h x (by simp)
  show backU last (stepU last x) :: unstepsU (backU last (stepU last x)) (stepsU x xs) = x :: xs
  rw [back_step hl hx, ih x hx (fun y hy => h y (by simp [hy]))]
theorem stepsU_snoc (v : List Nat) (x : Nat) : ∀ last, stepsU last (v ++ [x]) = stepsU last v ++ [stepU (v.getLast?.getD last) x] := by
 induction v with
 | nil => intro last; rfl
 | cons y ys ih =>
  intro last
  show stepU last y :: stepsU y (ys ++ [x]) = stepU last y :: (stepsU y ys ++ _)
  rw [ih y, List.getLast?_cons]
  rfl
theorem unstepsU_snoc (v : List Nat) (x : Nat) : ∀ last, unstepsU last (v ++ [x]) = unstepsU last v ++ [backU ((unstepsU last v).getLast?.getD last) x] := by
 induction v with
 | nil => intro last; rfl
 | cons y ys ih =>
  intro last
  show backU last y :: unstepsU (backU last y) (ys ++ [x]) = backU last y :: (unstepsU (backU last y) ys ++ [backU ((backU last y :: unstepsU (backU last y) ys).getLast?.getD last) x])
  rw [ih, List.getLast?_cons]
  rfl
/-- Words as bytes, the highest first. -/
def w8 (w : Nat) : List Nat := [w / 2 ^ 56 % 256, w / 2 ^ 48 % 256, w / 2 ^ 40 % 256, w / 2 ^ 32 % 256, w / 2 ^ 24 % 256, w / 2 ^ 16 % 256, w / 2 ^ 8 % 256, w % 256]
def words8 : List Nat → List Nat
 | [] => []
 | w :: ws => w8 w ++ words8 ws
theorem words8_len (ws : List Nat) : (words8 ws).length = 8 * ws.length := by
 induction ws with
 | nil => rfl
 | cons w ws ih => show (w8 w ++ words8 ws).length = _; rw [List.length_append, ih, List.length_cons]; show 8 + _ = _; omega
theorem words8_app (a b : List Nat) : words8 (a ++ b) = words8 a ++ words8 b := by
 induction a with
 | nil => rfl
 | cons x xs ih => show w8 x ++ words8 (xs ++ b) = (w8 x ++ words8 xs) ++ words8 b; rw [ih, List.append_assoc]
theorem words8_256 (ws : List Nat) : lt256 (words8 ws) := by
 induction ws with
 | nil => exact lt256_nil
 | cons w ws ih =>
  intro b hb
  rcases List.mem_append.1 hb with hb | hb
  ·simp only [w8, List.mem_cons, List.not_mem_nil, or_false] at hb
   rcases hb with rfl | rfl | rfl | rfl | rfl | rfl | rfl | rfl <;> exact Nat.mod_lt _ (by decide)
  ·exact ih b hb
/-- Eight bytes as a word; what fills none is left. -/
def un8 (a b c d e f g h : Nat) : Nat := ((((((a * 256 + b) * 256 + c) * 256 + d) * 256 + e) * 256 + f) * 256 + g) * 256 + h
def unw8 : List Nat → List Nat
 | a :: b :: c :: d :: e :: f :: g :: h :: r => un8 a b c d e f g h :: unw8 r
 | _ => []
theorem un8_w8 {w : Nat} (h : w < 2 ^ 64) : un8 (w / 2 ^ 56 % 256) (w / 2 ^ 48 % 256) (w / 2 ^ 40 % 256) (w / 2 ^ 32 % 256) (w / 2 ^ 24 % 256) (w / 2 ^ 16 % 256) (w / 2 ^ 8 % 256) (w % 256) = w := by
 unfold un8
 omega
theorem unw8_words8 {ws : List Nat} (h : ∀ w ∈ ws, w < 2 ^ 64) : unw8 (words8 ws) = ws := by
 induction ws with
 | nil => rfl
 | cons w ws ih =>
  show un8 _ _ _ _ _ _ _ _ :: unw8 (words8 ws) = w :: ws
  rw [un8_w8 (h w (by simp)), ih (fun x hx => h x (by simp [hx]))]
/-- Values told in a codec. -/
def toldK (tag : Int) (v : List Nat) : Option (List Nat) :=
 if tag = 1 then some (packF (encVals v))
 else if tag = 2 then (encS (stepsU 0 v)).map words8
 else if tag = 3 then some (encR v)
 else if tag = 4 then some (encP v)
 else if tag = 5 then encD v
 else if tag = 6 then (if v = [] then some [] else if v.all (fun x => x == v.getD 0 0) then some (enc (v.getD 0 0)) else none)
 else none
theorem toldK_256 {tag : Int} {v b : List Nat} (h : toldK tag v = some b) : lt256 b := by
 unfold toldK at h
 split at h
 ·injection h with h; subst h; exact packF_256 _
 split at h
 ·obtain ⟨ws, _, rfl⟩ := Option.map_eq_some_iff.1 h; exact words8_256 _
 split at h
 ·injection h with h; subst h; exact encR_256 _ _ rfl
 split at h
 ·injection h with h; subst h; exact encP_256 _
 split at h
 ·exact encD_256 h
 split at h
 ·split at h
  ·injection h with h; subst h; exact lt256_nil
  ·split at h
   ·injection h with h; subst h; exact enc_256 _
   ·cases h
 ·cases h
theorem toldK_len {tag : Int} {v b : List Nat} (hv : ∀ x ∈ v, x < 2 ^ 64) (hn : v.length ≤ 65535) (h : toldK tag v = some b) : b.length ≤ 2600 + 20 * v.length := by
 unfold toldK at h
 split at h
 ·injection h with h
  subst h
  rw [packF_len]
  have := encVals_len v
  omega
 split at h
 ·obtain ⟨ws, hw, rfl⟩ := Option.map_eq_some_iff.1 h
  have := (encS_len _ _ _ rfl hw).1
  rw [stepsU_len] at this
  rw [words8_len]
  omega
 split at h
 ·injection h with h
  subst h
  have := encR_len _ v rfl (by omega) hv
  omega
 split at h
 ·injection h with h
  subst h
  have := encP_len hv
  omega
 split at h
 ·have := encD_len hv h
  omega
 split at h
 ·split at h
  ·injection h with h; subst h; exact Nat.zero_le _
  ·split at h
   ·injection h with h
    subst h
    rename_i hne _
    have hx : v.getD 0 0 < 2 ^ 64 := by
     cases v with
     | nil => exact absurd rfl hne
     | cons x xs => exact hv x (by simp)
    have := enc_len10 hx
    omega
   ·cases h
 ·cases h
/-- Values of a codec, read. -/
def readK (tag : Int) (n : Nat) (b : List Nat) : Option (List Nat) :=
 if tag = 1 then (valRow n (val b) (8 * b.length)).map (·.1)
 else if tag = 2 then (decS n (unw8 b)).map (unstepsU 0)
 else if tag = 3 then decR n b
 else if tag = 4 then decP n b
 else if tag = 5 then decD n b
 else if tag = 6 then (if n = 0 then some [] else if (dec b).2 = 0 then none else some (List.replicate n (dec b).1))
 else none
theorem all_same {v : List Nat} {x : Nat} (h : ∀ y ∈ v, y = x) : v = List.replicate v.length x := List.eq_replicate_iff.2 ⟨rfl, h⟩
theorem readK_told {tag : Int} {v b : List Nat} (hv : ∀ x ∈ v, x < 2 ^ 64) (hn : v.length ≤ 65535) (h : toldK tag v = some b) : readK tag v.length b = some v := by
 unfold toldK at h
 unfold readK
 split at h
 ·injection h with h
  subst h
  rw [if_pos (by assumption)]
  obtain ⟨h1, h2⟩ := packF_val (encVals v)
  rw [h1, h2, valRow_of v hv (Nat.two_pow_pos _) rfl]
  rfl
 rw [if_neg (by assumption)]
 split at h
 ·obtain ⟨ws, hw, rfl⟩ := Option.map_eq_some_iff.1 h
  rw [if_pos (by assumption), unw8_words8 (encS_len _ _ _ rfl hw).2, decS_of (stepsU_len v 0) hw, Option.map_some, unsteps_steps v 0 (by decide) hv]
 rw [if_neg (by assumption)]
 split at h
 ·injection h with h
  subst h
  rw [if_pos (by assumption), decR_of (by omega) hv]
 rw [if_neg (by assumption)]
 split at h
 ·injection h with h
  subst h
  rw [if_pos (by assumption), decP_of hv]
 rw [if_neg (by assumption)]
 split at h
 ·rw [if_pos (by assumption), decD_of hv h]
 rw [if_neg (by assumption)]
 split at h
 ·rw [if_pos (by assumption)]
  split at h
  ·rename_i hv0
   subst hv0
   rfl
  ·rename_i hne
   split at h
   ·rename_i hall
    injection h with h
    subst h
    have hl : ¬ v.length = 0 := fun e => hne (List.eq_nil_of_length_eq_zero e)
    have hx : v.getD 0 0 < 2 ^ 64 := by
     cases v with
     | nil => exact absurd rfl hne
     | cons x xs => exact hv x (by simp)
    have hd := dec_enc (v.getD 0 0) hx []
    rw [List.append_nil] at hd
    have hp := enc_pos (v.getD 0 0)
    rw [if_neg hl, hd, if_neg (by omega)]
    have := all_same (v := v) (x := v.getD 0 0) (fun y hy => by have := List.all_eq_true.1 hall y hy; simpa using this)
    rw [← this]
   ·cases h
 ·cases h
theorem valRow_some {n R rem : Nat} {p : List Nat × Nat × Nat} (h : valRow n R rem = some p) (hR : R < 2 ^ rem) : p.1.length = n ∧ ∀ x ∈ p.1, x < 2 ^ 64 := by
 obtain ⟨vs, R1, rem1⟩ := p
 rw [← stVals_eq hR] at h
 exact (stVals_took h hR).2
theorem readK_some {tag : Int} {n : Nat} {b v : List Nat} (hlt : lt256 b) (h : readK tag n b = some v) : v.length = n ∧ ∀ x ∈ v, x < 2 ^ 64 := by
 unfold readK at h
 split at h
 ·obtain ⟨p, hp, rfl⟩ := Option.map_eq_some_iff.1 h
  exact valRow_some hp (val_lt hlt)
 split at h
 ·obtain ⟨u, hu, rfl⟩ := Option.map_eq_some_iff.1 h
  exact ⟨by rw [unstepsU_len]; exact (decS_some hu).1, unstepsU_lt _ _⟩
 split at h
 ·obtain ⟨h1, h2, _⟩ := decR_some hlt h
  exact ⟨h1, h2⟩
 split at h
 ·obtain ⟨h1, h2, _⟩ := decP_some h
  exact ⟨h1, h2⟩
 split at h
 ·obtain ⟨h1, h2, _⟩ := decD_some hlt h
  exact ⟨h1, h2⟩
 split at h
 ·split at h
  ·injection h with h
   subst h
   rename_i hn
   exact ⟨hn.symm, (fun _ h => by cases h)⟩
  ·split at h
   ·cases h
   ·injection h with h
    subst h
    refine ⟨List.length_replicate .., fun x hx => ?_⟩
    rw [(List.mem_replicate.1 hx).2]
    exact dec_lt hlt
 ·cases h
/-- A row of samples: its times and its values; it rises. -/
def tsOf (l : List (Int × Nat)) : List Int := l.map (·.1)
def vsOf (l : List (Int × Nat)) : List Nat := l.map (·.2)
def GoodS (l : List (Int × Nat)) : Prop := ∀ p ∈ l, Fits p.1 ∧ p.2 < 2 ^ 64
theorem tsOf_len (l : List (Int × Nat)) : (tsOf l).length = l.length := by simp [tsOf]
theorem vsOf_len (l : List (Int × Nat)) : (vsOf l).length = l.length := by simp [vsOf]
theorem GoodS.ts {l : List (Int × Nat)} (h : GoodS l) : ∀ x ∈ tsOf l, Fits x := fun x hx => by
 obtain ⟨p, hp, rfl⟩ := List.mem_map.1 hx
 exact (h p hp).1
theorem GoodS.vs {l : List (Int × Nat)} (h : GoodS l) : ∀ x ∈ vsOf l, x < 2 ^ 64 := fun x hx => by
 obtain ⟨p, hp, rfl⟩ := List.mem_map.1 hx
 exact (h p hp).2
theorem zip_of (l : List (Int × Nat)) : (tsOf l).zip (vsOf l) = l := by
 induction l with
 | nil => rfl
 | cons p l ih => show (p.1, p.2) :: (tsOf l).zip (vsOf l) = p :: l; rw [ih]
theorem of_zip {ts : List Int} {vs : List Nat} (h : ts.length = vs.length) : tsOf (ts.zip vs) = ts ∧ vsOf (ts.zip vs) = vs := by
 induction ts generalizing vs with
 | nil =>
  cases vs with
  | nil => exact ⟨rfl, rfl⟩
  | cons _ _ => cases h
 | cons t ts ih =>
  cases vs with
  | nil => cases h
  | cons v vs =>
   obtain ⟨h1, h2⟩ := ih (vs := vs) (by simpa using h)
   exact ⟨by show t :: tsOf (ts.zip vs) = _; rw [h1], by show v :: vsOf (ts.zip vs) = _; rw [h2]⟩
def ascB : List Int → Bool
 | a :: b :: r => decide (a < b) && ascB (b :: r)
 | _ => true
theorem ascB_iff (ts : List Int) : ascB ts = true ↔ ∀ i a b, ts[i]? = some a → ts[i + 1]? = some b → a < b := by
 induction ts with
 | nil => exact ⟨fun _ i a b h => by simp at h, fun _ => rfl⟩
 | cons x xs ih =>
  cases xs with
  | nil => exact ⟨fun _ i a b _ h => by simp at h, fun _ => rfl⟩
  | cons y ys =>
   have e : ascB (x :: y :: ys) = (decide (x < y) && ascB (y :: ys)) := rfl
   rw [e, Bool.and_eq_true, decide_eq_true_iff, ih]
   constructor
   ·rintro ⟨h1, h2⟩ i a b ha hb
    cases i with
    | zero =>
     rw [List.getElem?_cons_zero] at ha
     rw [List.getElem?_cons_succ, List.getElem?_cons_zero] at hb
     injection ha with ha
     injection hb with hb
     subst ha hb
     exact h1
    | succ i => exact h2 i a b ha hb
   ·intro h
    exact ⟨h 0 x y rfl rfl, fun i a b ha hb => h (i + 1) a b ha hb⟩
def riseB (l : List (Int × Nat)) : Bool := ascB (tsOf l) && decide (l.length ≤ 65535)
theorem riseB_iff (l : List (Int × Nat)) : riseB l = true ↔ (∀ i a b, (tsOf l)[i]? = some a → (tsOf l)[i + 1]? = some b → a < b) ∧ l.length ≤ 65535 := by
 unfold riseB
 rw [Bool.and_eq_true, decide_eq_true_iff, ascB_iff]
/-- The bytes of its times. -/
def tbK (l : List (Int × Nat)) : List Nat := packF (encRow (tsOf l))
theorem tbK_len (l : List (Int × Nat)) : (tbK l).length ≤ 9 * l.length + 16 := by
 unfold tbK
 rw [packF_len]
 have := encRow_len (tsOf l)
 rw [tsOf_len] at this
 omega
/-- A row told in a codec. -/
def encK (tag : Int) (l : List (Int × Nat)) : Option (List Nat) :=
 if riseB l then (toldK tag (vsOf l)).map fun b => enc (tbK l).length ++ (tbK l ++ b) else none
theorem encK_some {tag : Int} {l : List (Int × Nat)} {b : List Nat} (h : encK tag l = some b) : riseB l = true ∧ ∃ vb, toldK tag (vsOf l) = some vb ∧ b = enc (tbK l).length ++ (tbK l ++ vb) := by
 unfold encK at h
 split at h
 ·rename_i hr
  obtain ⟨vb, h1, h2⟩ := Option.map_eq_some_iff.1 h
  exact ⟨hr, vb, h1, h2.symm⟩
 ·cases h
theorem encK_no {tag : Int} {l : List (Int × Nat)} (h : riseB l = false) : encK tag l = none := by
 unfold encK
 rw [h]
 rfl
theorem encK_of {tag : Int} {l : List (Int × Nat)} {vb : List Nat} (h : riseB l = true) (h2 : toldK tag (vsOf l) = some vb) : encK tag l = some (enc (tbK l).length ++ (tbK l ++ vb)) := by
 unfold encK
 rw [h, h2]
 rfl
theorem encK_256 {tag : Int} {l : List (Int × Nat)} {b : List Nat} (h : encK tag l = some b) : lt256 b := by
 obtain ⟨_, vb, h1, rfl⟩ := encK_some h
 intro x hx
 rw [List.mem_append, List.mem_append] at hx
 rcases hx with hx | hx | hx
 ·exact enc_256 _ x hx
 ·exact packF_256 _ x hx
 ·exact toldK_256 h1 x hx
theorem encK_len {tag : Int} {l : List (Int × Nat)} {b : List Nat} (hg : GoodS l) (h : encK tag l = some b) : b.length ≤ 2700 + 30 * l.length := by
 obtain ⟨hr, vb, h1, rfl⟩ := encK_some h
 have hn := ((riseB_iff l).1 hr).2
 have h2 := toldK_len hg.vs (by rw [vsOf_len]; exact hn) h1
 have h3 := tbK_len l
 have h4 := enc_len10 (u := (tbK l).length) (by omega)
 rw [vsOf_len] at h2
 rw [List.length_append, List.length_append]
 omega
/-- Bytes of a codec, read. -/
def decK (tag : Int) (n : Int) (b : List Nat) : Option (List (Int × Nat)) :=
 if n < 0 ∨ 65535 < n then none
 else if (dec b).2 = 0 ∨ b.length - (dec b).2 < (dec b).1 then none
 else match rdRow n.toNat (val ((b.drop (dec b).2).take (dec b).1)) (8 * ((b.drop (dec b).2).take (dec b).1).length), readK tag n.toNat ((b.drop (dec b).2).drop (dec b).1) with
  | some (ts, _), some vs => if encK tag (ts.zip vs) = some b then some (ts.zip vs) else none
  | _, _ => none
theorem decK_some {tag n : Int} {b : List Nat} {l : List (Int × Nat)} (hlt : lt256 b) (h : decK tag n b = some l) : 0 ≤ n ∧ n ≤ 65535 ∧ (l.length : Int) = n ∧ GoodS l ∧ encK tag l = some b := by
 unfold decK at h
 split at h
 ·cases h
 rename_i hn
 split at h
 ·cases h
 split at h
 ·rename_i ts p vs ht hv
  split at h
  ·rename_i he
   injection h with h
   have hb : lt256 ((b.drop (dec b).2).take (dec b).1) := fun x hx => hlt x (List.mem_of_mem_drop (List.mem_of_mem_take hx))
   obtain ⟨t1, t2, _⟩ := rdRow_some ht (val_lt hb)
   obtain ⟨v1, v2⟩ := readK_some (fun x hx => hlt x (List.mem_of_mem_drop (List.mem_of_mem_drop hx))) hv
   have hl : ts.length = vs.length := by rw [v1]; exact t1
   obtain ⟨z1, z2⟩ := of_zip hl
   subst h
   refine ⟨by omega, by omega, ?_, fun p hp => ?_, he⟩
   ·have h1 := tsOf_len (ts.zip vs)
    rw [z1] at h1
    have h2 : ts.length = n.toNat := t1
    omega
   ·obtain ⟨a, b⟩ := p
    have := List.of_mem_zip hp
    exact ⟨t2 a this.1, v2 b this.2⟩
  ·cases h
 ·cases h
theorem decK_of {tag : Int} {l : List (Int × Nat)} {b : List Nat} (hg : GoodS l) (h : encK tag l = some b) : decK tag (l.length : Int) b = some l := by
 obtain ⟨hr, vb, h1, hb⟩ := encK_some h
 have hn := ((riseB_iff l).1 hr).2
 have h3 := tbK_len l
 have hd := dec_enc (tbK l).length (by omega) (tbK l ++ vb)
 rw [← hb] at hd
 have hp := enc_pos (tbK l).length
 have hlen : b.length = (enc (tbK l).length).length + ((tbK l).length + vb.length) := by rw [hb, List.length_append, List.length_append]
 have hdr : b.drop (enc (tbK l).length).length = tbK l ++ vb := by rw [hb, List.drop_left]
 unfold decK
 rw [if_neg (by omega), hd, if_neg (by simp only; omega)]
 simp only [Int.toNat_natCast, hdr, List.take_left, List.drop_left]
 have e1 : rdRow l.length (val (tbK l)) (8 * (tbK l).length) = some (tsOf l, 0, 8 * ((flen (encRow (tsOf l)) + 7) / 8) - flen (encRow (tsOf l))) := by
  obtain ⟨q1, q2⟩ := packF_val (encRow (tsOf l))
  show rdRow l.length (val (packF (encRow (tsOf l)))) (8 * (packF (encRow (tsOf l))).length) = _
  rw [q1, q2]
  have := rdRow_of (tsOf l) hg.ts (X := 0) (r := 8 * ((flen (encRow (tsOf l)) + 7) / 8) - flen (encRow (tsOf l))) (Nat.two_pow_pos _) rfl
  rw [tsOf_len] at this
  exact this
 have e2 : readK tag l.length vb = some (vsOf l) := by
  have := readK_told hg.vs (by rw [vsOf_len]; exact hn) h1
  rw [vsOf_len] at this
  exact this
 rw [e1, e2]
 simp only [zip_of, h, if_true]
end Go.Proofs.YtmeilddngohccaaGreatDoor

/- Chunks: the mathematics. -/
namespace Go.Proofs.YtmeilddngohccaaGreatDoor

/-- The first and the last time of a row. -/
def fstT (l : List (Int × Nat)) : Int := (tsOf l).headD 0
def lstT (l : List (Int × Nat)) : Int := (tsOf l).getLastD 0
/-- A number of 32 bits in four bytes, the highest first. -/
def sum4 (s : Nat) : List Nat := [s / 16777216 % 256, s / 65536 % 256, s / 256 % 256, s % 256]
theorem sum4_256 (s : Nat) : lt256 (sum4 s) := by
 intro b hb
 simp [sum4] at hb
 omega
/-- What stands ahead of the samples. -/
def headC (t n : Nat) (f g : Int) : List Nat := t :: (enc n ++ (enc (zig f).toNat ++ enc (zig g).toNat))
def headR (tag : Int) (l : List (Int × Nat)) : List Nat := headC tag.toNat l.length (fstT l) (lstT l)
/-- A chunk. -/
def makeC (tag : Int) (l : List (Int × Nat)) : Option (List Nat) :=
 if l = [] then none else (encK tag l).map fun b => headR tag l ++ b ++ sum4 (sumN ent (headR tag l ++ b))
/-- The head that stands at the beginning, and how many bytes it takes. -/
def hdC : List Nat → Option ((Nat × Nat × Int × Int) × Nat)
 | [] => none
 | t :: r =>
  let n := dec r
  let f := dec (r.drop n.2)
  let g := dec (r.drop (n.2 + f.2))
  if t < 1 ∨ 6 < t ∨ n.2 = 0 ∨ f.2 = 0 ∨ g.2 = 0 ∨ n.1 < 1 ∨ 65535 < n.1 ∨ zag (g.1 : Int) < zag (f.1 : Int) then none
  else some ((t, n.1, zag (f.1 : Int), zag (g.1 : Int)), 1 + n.2 + f.2 + g.2)
/-- The row that a chunk holds. -/
def openC (c : List Nat) : Option (List (Int × Nat) × Nat) :=
 match hdC c with
 | none => none
 | some (h, k) =>
  if c.length < k + 4 then none
  else match decK (h.1 : Int) (h.2.1 : Int) ((c.take (c.length - 4)).drop k) with
   | none => none
   | some l => if makeC (h.1 : Int) l = some c then some (l, h.1) else none
theorem zig_nat {f : Int} (h : Fits f) : ((zig f).toNat : Int) = zig f ∧ (zig f).toNat < 18446744073709551616 := by
 have hH : (H63 : Int) = 9223372036854775808 := by decide
 have h1 := h.1
 have h2 := h.2
 obtain ⟨a, b⟩ := zig_fit (n := f) (by omega) (by omega)
 exact ⟨Int.toNat_of_nonneg a, by omega⟩
theorem hdC_head {t n : Nat} {f g : Int} (h1 : 1 ≤ t) (h6 : t ≤ 6) (hn : 1 ≤ n) (hn2 : n ≤ 65535) (hf : Fits f) (hg : Fits g) (hfg : f ≤ g) (rest : List Nat) : hdC (headC t n f g ++ rest) = some ((t, n, f, g), (headC t n f g).length) := by
 obtain ⟨f1, f2⟩ := zig_nat hf
 obtain ⟨g1, g2⟩ := zig_nat hg
 have e1 : dec (enc n ++ (enc (zig f).toNat ++ (enc (zig g).toNat ++ rest))) = (n, (enc n).length) := dec_enc n (by omega) _
 have e2 : dec (enc (zig f).toNat ++ (enc (zig g).toNat ++ rest)) = ((zig f).toNat, (enc (zig f).toNat).length) := dec_enc _ f2 _
 have e3 : dec (enc (zig g).toNat ++ rest) = ((zig g).toNat, (enc (zig g).toNat).length) := dec_enc _ g2 _
 have p1 := enc_pos n
 have p2 := enc_pos (zig f).toNat
 have p3 := enc_pos (zig g).toNat
 have ea : headC t n f g ++ rest = t :: (enc n ++ (enc (zig f).toNat ++ (enc (zig g).toNat ++ rest))) := by simp [headC]
 rw [ea]
 unfold hdC
 have d1 : (enc n ++ (enc (zig f).toNat ++ (enc (zig g).toNat ++ rest))).drop (enc n).length = enc (zig f).toNat ++ (enc (zig g).toNat ++ rest) := List.drop_left
 have d2 : (enc n ++ (enc (zig f).toNat ++ (enc (zig g).toNat ++ rest))).drop ((enc n).length + (enc (zig f).toNat).length) = enc (zig g).toNat ++ rest := by
  rw [← List.drop_drop, d1, List.drop_left]
 simp only [e1, d1, e2, d2, e3, f1, g1, zag_zig]
 rw [if_neg (by omega)]
 congr 2
 simp only [headC, List.length_cons, List.length_append]
 omega
theorem makeC_some {tag : Int} {l : List (Int × Nat)} {c : List Nat} (h : makeC tag l = some c) : l ≠ [] ∧ ∃ b, encK tag l = some b ∧ c = headR tag l ++ b ++ sum4 (sumN ent (headR tag l ++ b)) := by
 unfold makeC at h
 split at h
 ·cases h
 ·rename_i hl
  obtain ⟨b, h1, h2⟩ := Option.map_eq_some_iff.1 h
  exact ⟨hl, b, h1, h2.symm⟩
theorem makeC_of {tag : Int} {l : List (Int × Nat)} {b : List Nat} (hl : l ≠ []) (h : encK tag l = some b) : makeC tag l = some (headR tag l ++ b ++ sum4 (sumN ent (headR tag l ++ b))) := by
 unfold makeC
 rw [if_neg hl, h]
 rfl
theorem asc_le {ts : List Int} (h : ascB ts = true) : ts.headD 0 ≤ ts.getLastD 0 := by
 induction ts with
 | nil => exact Int.le_refl _
 | cons a r ih =>
  cases r with
  | nil => exact Int.le_refl _
  | cons b r =>
   simp only [ascB, Bool.and_eq_true, decide_eq_true_eq] at h
   have h2 := ih h.2
   have e : (a :: b :: r).getLastD 0 = (b :: r).getLastD 0 := by simp [List.getLastD]
   rw [e]
   have h3 : (b :: r).headD 0 = b := rfl
   rw [h3] at h2
   show a ≤ _
   omega
theorem fstT_fits {l : List (Int × Nat)} (hg : GoodS l) : Fits (fstT l) := by
 unfold fstT
 cases l with
 | nil => exact ⟨by decide, by decide⟩
 | cons p l => exact (hg p (List.mem_cons_self ..)).1
theorem getLastD_mem (r : List Int) : ∀ a : Int, r.getLastD a ∈ a :: r := by
 induction r with
 | nil => intro a; exact List.mem_cons_self ..
 | cons b r ih => intro a; rw [List.getLastD_cons]; exact List.mem_cons_of_mem _ (ih b)
theorem lstT_fits {l : List (Int × Nat)} (hg : GoodS l) : Fits (lstT l) := by
 unfold lstT
 cases hl : (tsOf l) with
 | nil => exact ⟨by decide, by decide⟩
 | cons a r =>
  have : (a :: r).getLastD 0 ∈ tsOf l := by rw [hl, List.getLastD_cons]; exact getLastD_mem r a
  exact hg.ts _ this
theorem toldK_tag {tag : Int} {us : List Nat} {b : List Nat} (h : toldK tag us = some b) : 1 ≤ tag ∧ tag ≤ 6 := by
 by_cases h1 : 1 ≤ tag ∧ tag ≤ 6
 ·exact h1
 ·have hno : toldK tag us = none := by
   unfold toldK
   rw [if_neg (by omega), if_neg (by omega), if_neg (by omega), if_neg (by omega), if_neg (by omega), if_neg (by omega)]
  rw [hno] at h
  cases h
theorem encK_tag {tag : Int} {l : List (Int × Nat)} {b : List Nat} (h : encK tag l = some b) : 1 ≤ tag ∧ tag ≤ 6 := by
 obtain ⟨_, vb, h1, _⟩ := encK_some h
 exact toldK_tag h1
theorem rise_ends {l : List (Int × Nat)} (h : riseB l = true) : fstT l ≤ lstT l ∧ l.length ≤ 65535 := by
 unfold riseB at h
 rw [Bool.and_eq_true, decide_eq_true_iff] at h
 exact ⟨asc_le h.1, h.2⟩
theorem headC_256 {t n : Nat} (f g : Int) (ht : t < 256) : lt256 (headC t n f g) := by
 intro b hb
 simp only [headC, List.mem_cons, List.mem_append] at hb
 rcases hb with rfl | hb | hb | hb
 ·exact ht
 ·exact enc_256 _ b hb
 ·exact enc_256 _ b hb
 ·exact enc_256 _ b hb
theorem headR_256 {tag : Int} {l : List (Int × Nat)} (h : 1 ≤ tag ∧ tag ≤ 6) : lt256 (headR tag l) := headC_256 _ _ (by omega)
/-- The head of a chunk, whatever stands behind. -/
theorem hdC_headR {tag : Int} {l : List (Int × Nat)} {b : List Nat} (hg : GoodS l) (hl : l ≠ []) (h : encK tag l = some b) (rest : List Nat) : hdC (headR tag l ++ rest) = some ((tag.toNat, l.length, fstT l, lstT l), (headR tag l).length) := by
 have ht := encK_tag h
 obtain ⟨h1, h2⟩ := rise_ends (encK_some h).1
 have hp : 0 < l.length := List.length_pos_iff.2 hl
 exact hdC_head (by omega) (by omega) hp h2 (fstT_fits hg) (lstT_fits hg) h1 rest
theorem makeC_256 {tag : Int} {l : List (Int × Nat)} {c : List Nat} (h : makeC tag l = some c) : lt256 c := by
 obtain ⟨_, b, h1, rfl⟩ := makeC_some h
 exact lt256_app (lt256_app (headR_256 (encK_tag h1)) (encK_256 h1)) (sum4_256 _)
/-- What a chunk is, is read of it. -/
theorem openC_make {tag : Int} {l : List (Int × Nat)} {c : List Nat} (hg : GoodS l) (h : makeC tag l = some c) : openC c = some (l, tag.toNat) := by
 obtain ⟨hl, b, h1, h2⟩ := makeC_some h
 have ht := encK_tag h1
 have hc : c = headR tag l ++ (b ++ sum4 (sumN ent (headR tag l ++ b))) := by rw [h2, List.append_assoc]
 have hlen : c.length = (headR tag l ++ b).length + 4 := by rw [h2, List.length_append]; rfl
 have hd : hdC c = some ((tag.toNat, l.length, fstT l, lstT l), (headR tag l).length) := by rw [hc]; exact hdC_headR hg hl h1 _
 have hb : (c.take (c.length - 4)).drop (headR tag l).length = b := by
  rw [hlen, Nat.add_sub_cancel, h2, List.take_left, List.drop_left]
 have etag : ((tag.toNat : Nat) : Int) = tag := Int.toNat_of_nonneg (by omega)
 unfold openC
 rw [hd]
 simp only
 rw [if_neg (by rw [hlen, List.length_append]; omega), hb, etag, decK_of hg h1]
 simp only
 rw [if_pos h]
end Go.Proofs.YtmeilddngohccaaGreatDoor

/- Chunks: what the code asks of a chunk, and what the document asks, is one. -/
namespace Go.Proofs.YtmeilddngohccaaGreatDoor

theorem dec_pre {bs : List Nat} (hlt : lt256 bs) (h : ¬ (dec bs).2 = 0) : ∃ v rest, v < 18446744073709551616 ∧ dec bs = (v, (enc v).length) ∧ bs = enc v ++ rest := by
 obtain ⟨h1, h2⟩ := dec_some hlt (Nat.pos_of_ne_zero h)
 refine ⟨(dec bs).1, bs.drop (dec bs).2, dec_lt hlt, ?_, ?_⟩
 ·rw [h2, List.length_take, Nat.min_eq_left h1]
 ·rw [h2, List.take_append_drop]
/-- What a head is, that is read. -/
theorem hdC_some {b : List Nat} {t n k : Nat} {f g : Int} (hlt : lt256 b) (h : hdC b = some ((t, n, f, g), k)) :
  1 ≤ t ∧ t ≤ 6 ∧ 1 ≤ n ∧ n ≤ 65535 ∧ Fits f ∧ Fits g ∧ f ≤ g ∧ k = (headC t n f g).length ∧ ∃ rest, b = headC t n f g ++ rest := by
 cases b with
 | nil => cases h
 | cons t0 r =>
  simp only [hdC] at h
  split at h
  ·cases h
  ·rename_i hc
   have hr : lt256 r := fun x hx => hlt x (List.mem_cons_of_mem _ hx)
   obtain ⟨n1, r1, ln1, e1, d1⟩ := dec_pre hr (by omega)
   have hr1 : lt256 r1 := fun x hx => hr x (by rw [d1]; exact List.mem_append_right _ hx)
   have q1 : r.drop (dec r).2 = r1 := by rw [e1, d1, List.drop_left]
   rw [q1] at h hc
   obtain ⟨f1, r2, lf1, e2, d2⟩ := dec_pre hr1 (by omega)
   have hr2 : lt256 r2 := fun x hx => hr1 x (by rw [d2]; exact List.mem_append_right _ hx)
   have q2 : r.drop ((dec r).2 + (dec r1).2) = r2 := by rw [← List.drop_drop, q1, e2, d2, List.drop_left]
   rw [q2] at h hc
   obtain ⟨g1, r3, lg1, e3, d3⟩ := dec_pre hr2 (by omega)
   rw [e1, e2, e3] at h hc
   simp only [Option.some.injEq, Prod.mk.injEq] at h
   obtain ⟨⟨rfl, rfl, rfl, rfl⟩, rfl⟩ := h
   have hH : (H63 : Int) = 9223372036854775808 := by decide
   have zf : zig (zag (f1 : Int)) = (f1 : Int) := zig_zag _ (by omega)
   have zg : zig (zag (g1 : Int)) = (g1 : Int) := zig_zag _ (by omega)
   have ff := zag_fit (u := (f1 : Int)) (by omega) (by omega)
   have fg := zag_fit (u := (g1 : Int)) (by omega) (by omega)
   simp only at hc
   have ehead : headC t0 n1 (zag (f1 : Int)) (zag (g1 : Int)) = t0 :: (enc n1 ++ (enc f1 ++ enc g1)) := by
    unfold headC
    rw [zf, zg, Int.toNat_natCast, Int.toNat_natCast]
   refine ⟨by omega, by omega, by omega, by omega, ⟨by omega, by omega⟩, ⟨by omega, by omega⟩, by omega, ?_, r3, ?_⟩
   ·rw [ehead]
    simp only [List.length_cons, List.length_append]
    omega
   ·rw [ehead, d1, d2, d3]
    simp
/-- Where the numbers of a head stand, and what they are. -/
def hp (bs : List Nat) : Nat → Nat
 | 0 => 1
 | i + 1 => hp bs i + (dec (bs.drop (hp bs i))).2
def hx (bs : List Nat) (i : Nat) : Nat := (dec (bs.drop (hp bs i))).1
def hq (bs : List Nat) (i : Nat) : Nat := (dec (bs.drop (hp bs i))).2
theorem hp_succ (bs : List Nat) (i : Nat) : hp bs (i + 1) = hp bs i + hq bs i := rfl
theorem hdC_via (t : Nat) (r : List Nat) : hdC (t :: r) = if t < 1 ∨ 6 < t ∨ hq (t :: r) 0 = 0 ∨ hq (t :: r) 1 = 0 ∨ hq (t :: r) 2 = 0 ∨ hx (t :: r) 0 < 1 ∨ 65535 < hx (t :: r) 0 ∨ zag (hx (t :: r) 2 : Int) < zag (hx (t :: r) 1 : Int) then none
  else some ((t, hx (t :: r) 0, zag (hx (t :: r) 1 : Int), zag (hx (t :: r) 2 : Int)), hp (t :: r) 3) := by
 have e0 : (t :: r).drop (hp (t :: r) 0) = r := rfl
 have q0 : hq (t :: r) 0 = (dec r).2 := rfl
 have x0 : hx (t :: r) 0 = (dec r).1 := rfl
 have p1 : hp (t :: r) 1 = 1 + (dec r).2 := rfl
 have e1 : (t :: r).drop (hp (t :: r) 1) = r.drop (dec r).2 := by rw [p1, Nat.add_comm, List.drop_succ_cons]
 have q1 : hq (t :: r) 1 = (dec (r.drop (dec r).2)).2 := by unfold hq; rw [e1]
 have x1 : hx (t :: r) 1 = (dec (r.drop (dec r).2)).1 := by unfold hx; rw [e1]
 have p2 : hp (t :: r) 2 = 1 + (dec r).2 + (dec (r.drop (dec r).2)).2 := by rw [hp_succ, p1, q1]
 have e2 : (t :: r).drop (hp (t :: r) 2) = r.drop ((dec r).2 + (dec (r.drop (dec r).2)).2) := by rw [p2, Nat.add_assoc, Nat.add_comm, List.drop_succ_cons]
 have q2 : hq (t :: r) 2 = (dec (r.drop ((dec r).2 + (dec (r.drop (dec r).2)).2))).2 := by unfold hq; rw [e2]
 have x2 : hx (t :: r) 2 = (dec (r.drop ((dec r).2 + (dec (r.drop (dec r).2)).2))).1 := by unfold hx; rw [e2]
 have p3 : hp (t :: r) 3 = 1 + (dec r).2 + (dec (r.drop (dec r).2)).2 + (dec (r.drop ((dec r).2 + (dec (r.drop (dec r).2)).2))).2 := by rw [hp_succ, p2, q2]
 rw [q0, q1, q2, x0, x1, x2, p3]
 rfl
theorem hx_lt {bs : List Nat} (hlt : lt256 bs) (i : Nat) : hx bs i < 18446744073709551616 := dec_lt fun x hx => hlt x (List.mem_of_mem_drop hx)
theorem hdC_stop {bs : List Nat} {i : Nat} (hi : i < 3) (h : hq bs i = 0) : hdC bs = none := by
 cases bs with
 | nil => rfl
 | cons t r =>
  rw [hdC_via, if_pos]
  have : i = 0 ∨ i = 1 ∨ i = 2 := by omega
  rcases this with rfl | rfl | rfl
  ·exact .inr (.inr (.inl h))
  ·exact .inr (.inr (.inr (.inl h)))
  ·exact .inr (.inr (.inr (.inr (.inl h))))
theorem hdC_bad {bs : List Nat} {t : Nat} (h0 : bs[0]? = some t) (h : t < 1 ∨ 6 < t ∨ hx bs 0 < 1 ∨ 65535 < hx bs 0 ∨ zag (hx bs 2 : Int) < zag (hx bs 1 : Int)) : hdC bs = none := by
 cases bs with
 | nil => rfl
 | cons t' r =>
  injection h0 with h0
  subst h0
  rw [hdC_via, if_pos]
  rcases h with h | h | h | h | h
  ·exact .inl h
  ·exact .inr (.inl h)
  ·exact .inr (.inr (.inr (.inr (.inr (.inl h)))))
  ·exact .inr (.inr (.inr (.inr (.inr (.inr (.inl h))))))
  ·exact .inr (.inr (.inr (.inr (.inr (.inr (.inr h))))))
theorem hdC_good {bs : List Nat} {t : Nat} (h0 : bs[0]? = some t) (h1 : 1 ≤ t) (h6 : t ≤ 6) (hs : ∀ i, i < 3 → hq bs i ≠ 0) (hn : 1 ≤ hx bs 0) (hn2 : hx bs 0 ≤ 65535) (h : zag (hx bs 1 : Int) ≤ zag (hx bs 2 : Int)) :
  hdC bs = some ((t, hx bs 0, zag (hx bs 1 : Int), zag (hx bs 2 : Int)), hp bs 3) := by
 cases bs with
 | nil => cases h0
 | cons t' r =>
  injection h0 with h0
  subst h0
  have a0 := hs 0 (by decide)
  have a1 := hs 1 (by decide)
  have a2 := hs 2 (by decide)
  rw [hdC_via, if_neg (by omega)]
end Go.Proofs.YtmeilddngohccaaGreatDoor

/- Rising. -/
namespace Go.Proofs.YtmeilddngohccaaGreatDoor
open Go.RowKit

theorem ts_get {l : List (Int × Nat)} {i : Nat} {p : Int × Nat} (h : l[i]? = some p) : (tsOf l)[i]? = some p.1 := by
 unfold tsOf
 rw [List.getElem?_map, h]
 rfl
theorem vs_get {l : List (Int × Nat)} {i : Nat} {p : Int × Nat} (h : l[i]? = some p) : (vsOf l)[i]? = some p.2 := by
 unfold vsOf
 rw [List.getElem?_map, h]
 rfl
/-- The first i rise. -/
def RiseTo (l : List (Int × Nat)) (i : Nat) : Prop := ∀ j a b, j + 1 < i → (tsOf l)[j]? = some a → (tsOf l)[j + 1]? = some b → a < b
theorem riseB_true {l : List (Int × Nat)} (h : RiseTo l l.length) (hn : l.length ≤ 65535) : riseB l = true :=
 (riseB_iff l).2 ⟨fun i a b ha hb => h i a b (by have := (List.getElem?_eq_some_iff.1 hb).1; rw [tsOf_len] at this; exact this) ha hb, hn⟩
theorem riseB_long {l : List (Int × Nat)} (h : 65535 < l.length) : riseB l = false := by
 cases hb : riseB l with
 | false => rfl
 | true => have := ((riseB_iff l).1 hb).2; omega
theorem riseB_fall {l : List (Int × Nat)} {i : Nat} {p q : Int × Nat} (hp : l[i]? = some p) (hq : l[i + 1]? = some q) (h : q.1 ≤ p.1) : riseB l = false := by
 cases hb : riseB l with
 | false => rfl
 | true => have := ((riseB_iff l).1 hb).1 i p.1 q.1 (ts_get hp) (ts_get hq); omega
theorem RiseTo.more {l : List (Int × Nat)} {j : Nat} {p q : Int × Nat} (h : RiseTo l (j + 1)) (hp : l[j]? = some p) (hq : l[j + 1]? = some q) (hlt : p.1 < q.1) : RiseTo l (j + 1 + 1) := by
 intro k a b hk ha hb
 rcases Nat.lt_or_ge (k + 1) (j + 1) with h1 | h1
 ·exact h k a b h1 ha hb
 ·obtain rfl : k = j := by omega
  rw [ts_get hp] at ha
  rw [ts_get hq] at hb
  injection ha with ha
  injection hb with hb
  subst ha hb
  exact hlt
set_option maxHeartbeats 1000000 in
set_option maxRecDepth 100000 in
theorem rising_any (A : Option Addr) (n c : Nat) (l : List (Int × Nat)) (w : World) (hs : RdsS w w.heap.size A n l) :
  Calls Tryz.prog 34 #[.slice A n c] w fun e w' => e = .returned (.bool (riseB l)) ∧ Mod (fun _ => False) w w' := by
 have Hs := Lib.hid hs; have Hl := Lib.hid hs.1
 have hcs : Tryz.prog.cellsOf 28 = 2 := by kernel_rfl
 clear hs
 by_cases hn : 65535 < n
 ·go_enter Tryz.func34, Tryz.ntmps34
  go_wp2_with fail
  go_ret
  exact ⟨by rw [riseB_long (by rw [Hl.out]; exact hn)]; rfl, Mod.refl _ _⟩
 ·go_enter Tryz.func34, Tryz.ntmps34
  go_wp2_with fail
  go_loopg [9] n (fun k s9 wr => ∃ i : Nat, i + k = n ∧ s9 = .int .i64 (i : Int) ∧ RiseTo l i ∧ Mod (fun _ => False) w wr)
  case atStart => exact ⟨0, by omega, rfl, (fun j a b h => by omega), Mod.refl _ _⟩
  case round =>
   obtain ⟨i, hik, rfl, hr, hm⟩ := hrel
   have Hik := Lib.hid hik; have Hr := Lib.hid hr; have Hm := Lib.hid hm
   clear hik hr hm
   by_cases hin : i < n
   ·obtain ⟨ad, p, rfl, _, hp, hc0, hc1⟩ := Hs.out.at2 hin (Nat.le_refl _) Hm.out (fun _ _ h => h)
    have Hp := Lib.hid hp
    clear hp hc1
    by_cases h0 : i = 0
    ·subst h0
     clear hc0
     go_upto_region 6 with fail
     go_quiet (fail)
     go_wp2_with fail
     go_roundg (gk - 1)
     case measure => have := Hik.out; omega
     case rel => exact ⟨1, by have := Hik.out; omega, rfl, (fun j a b h => by omega), Hm.out.drewN _⟩
    ·obtain ⟨j, hj⟩ : ∃ j, i = j + 1 := ⟨i - 1, by omega⟩
     have hjn : j < n := by omega
     have hwj : IntKind.i64.wrap ((i : Int) - 1) = (j : Int) := by rw [IntWalk.i64_in _ (by omega)]; omega
     have hi0 : decide (0 < i) = true := by simp; omega
     have Hj := Lib.hid hj
     clear hj h0
     obtain ⟨ad2, q, hA2, _, hq, hd0, _⟩ := Hs.out.at2 hjn (Nat.le_refl _) Hm.out (fun _ _ h => h)
     injection hA2 with hA2
     subst hA2
     have Hq := Lib.hid hq
     clear hq
     obtain ⟨x, hx⟩ : ∃ x, x = p.1 := ⟨_, rfl⟩
     obtain ⟨y, hy⟩ : ∃ y, y = q.1 := ⟨_, rfl⟩
     rw [← hx] at hc0
     rw [← hy] at hd0
     have Hx := Lib.hid hx; have Hy := Lib.hid hy
     clear hx hy
     by_cases hxy : x ≤ y
     ·go_upto_region 6 with fail
      go_quiet (fail)
      go_wp2_with fail
      go_ret
      refine ⟨?_, Hm.out.drewN _⟩
      rw [riseB_fall (i := j) Hq.out (by rw [← Hj.out]; exact Hp.out) (by rw [← Hx.out, ← Hy.out]; exact hxy)]
      rfl
     ·go_upto_region 6 with fail
      go_quiet (fail)
      go_wp2_with fail
      go_roundg (gk - 1)
      case measure => have := Hik.out; omega
      case rel => exact ⟨i + 1, by have := Hik.out; omega, by go_num, (by
       have h1 := Hr.out; have h2 := Hp.out; have h3 := Hj.out
       subst h3
       exact h1.more Hq.out h2 (by rw [← Hx.out, ← Hy.out]; omega)), Hm.out.drewN _⟩
   ·go_wp2_with fail
    go_ret
    have hi : i = n := by have := Hik.out; omega
    refine ⟨?_, Hm.out⟩
    rw [riseB_true (by rw [Hl.out, ← hi]; exact Hr.out) (by rw [Hl.out]; omega)]
    rfl
end Go.Proofs.YtmeilddngohccaaGreatDoor

/- Chunks, of the code: the sum in four bytes, the head of a row, and how it is told. -/
namespace Go.Proofs.YtmeilddngohccaaGreatDoor
open Go.RowKit

/-- A struct of four cells is written. -/
theorem Blk.four {w : World} {g : Nat} {t : TypeId} {c0 c1 c2 c3 : Value} (h : Blk w g t #[c0, c1, c2, c3]) (a b c d : Value) :
  (w.setCell ⟨g, 0, none⟩ a).cell? ⟨g, 0, none⟩ = some a ∧ ((w.setCell ⟨g, 0, none⟩ a).setCell ⟨g, 1, none⟩ b).cell? ⟨g, 1, none⟩ = some b ∧
  (((w.setCell ⟨g, 0, none⟩ a).setCell ⟨g, 1, none⟩ b).setCell ⟨g, 2, none⟩ c).cell? ⟨g, 2, none⟩ = some c ∧
  ((((w.setCell ⟨g, 0, none⟩ a).setCell ⟨g, 1, none⟩ b).setCell ⟨g, 2, none⟩ c).setCell ⟨g, 3, none⟩ d).cell? ⟨g, 3, none⟩ = some d ∧
  Blk ((((w.setCell ⟨g, 0, none⟩ a).setCell ⟨g, 1, none⟩ b).setCell ⟨g, 2, none⟩ c).setCell ⟨g, 3, none⟩ d) g t #[a, b, c, d] := by
 have h1 := h.set_ 0 a
 have h2 := h1.set_ 1 b
 have h3 := h2.set_ 2 c
 have h4 := h3.set_ 3 d
 refine ⟨?_, ?_, ?_, ?_, ?_⟩
 ·have := h1.cell 0; simpa using this
 ·have := h2.cell 1; simpa using this
 ·have := h3.cell 2; simpa using this
 ·have := h4.cell 3; simpa using this
 ·simpa using h4
theorem Mod.four_new {w w' : World} {g : Nat} (h : Mod (fun _ => False) w w') (hg : w.heap.size ≤ g) (a b c d : Value) :
  Mod (fun _ => False) w ((((w'.setCell ⟨g, 0, none⟩ a).setCell ⟨g, 1, none⟩ b).setCell ⟨g, 2, none⟩ c).setCell ⟨g, 3, none⟩ d) :=
 (((h.setCell (fun hlt => absurd hlt (by simp; omega)) a).setCell (fun hlt => absurd hlt (by simp; omega)) b).setCell (fun hlt => absurd hlt (by simp; omega)) c).setCell (fun hlt => absurd hlt (by simp; omega)) d

theorem last_get {l : List (Int × Nat)} {p : Int × Nat} (h : l[l.length - 1]? = some p) : lstT l = p.1 := by
 unfold lstT
 have h2 := ts_get h
 rw [← tsOf_len l, ← List.getLast?_eq_getElem?] at h2
 rw [List.getLastD_eq_getLast?, h2]
 rfl
theorem first_get {l : List (Int × Nat)} {p : Int × Nat} (h : l[0]? = some p) : fstT l = p.1 := by
 unfold fstT
 have h2 := ts_get h
 rw [List.headD_eq_head?_getD, List.head?_eq_getElem?, h2]
 rfl
set_option maxHeartbeats 1000000 in
set_option maxRecDepth 100000 in
theorem headOf_any (tag : Int) (A : Option Addr) (n c : Nat) (l : List (Int × Nat)) (w : World) (hs : RdsS w w.heap.size A n l) (hn : 0 < n) (hn2 : n ≤ maxLen) :
  Calls Tryz.prog 24 #[.int .i64 tag, .slice A n c] w fun e w' => e = .returned (.agg #[.int .i64 tag, .int .i64 (n : Int), .int .i64 (fstT l), .int .i64 (lstT l)]) ∧ Mod (fun _ => False) w w' := by
 unfold maxLen at hn2
 have hl := hs.1
 obtain ⟨W, hW⟩ : ∃ W, W = w.alloc (.cells #[.int .i64 0, .int .i64 0, .int .i64 0, .int .i64 0] 50) := ⟨_, rfl⟩
 have hmW : Mod (fun _ => False) w W := by rw [hW]; exact (Mod.refl _ _).alloc _
 have hbW : Blk W w.heap.size 50 #[.int .i64 0, .int .i64 0, .int .i64 0, .int .i64 0] := by rw [hW]; exact Blk.new _ _ _
 obtain ⟨j, hj⟩ : ∃ j, n = j + 1 := ⟨n - 1, by omega⟩
 obtain ⟨ad, p, rfl, _, hp, hc0, _⟩ := hs.at2 hn (Nat.le_refl _) hmW (fun _ _ h => h)
 obtain ⟨ad2, q, e2, _, hq, hd0, _⟩ := hs.at2 (show j < n by omega) (Nat.le_refl _) hmW (fun _ _ h => h)
 injection e2 with e2
 subst e2
 have hf : fstT l = p.1 := first_get hp
 have hg : lstT l = q.1 := last_get (by rw [hl, hj, Nat.add_sub_cancel]; exact hq)
 rw [← hf] at hc0
 rw [← hg] at hd0
 obtain ⟨x, hx⟩ : ∃ x, x = fstT l := ⟨_, rfl⟩
 obtain ⟨y, hy⟩ : ∃ y, y = lstT l := ⟨_, rfl⟩
 rw [← hx] at hc0 ⊢
 rw [← hy] at hd0 ⊢
 have hwj : IntKind.i64.wrap ((n : Int) - 1) = (j : Int) := by rw [IntWalk.i64_in _ (by omega)]; omega
 have h0n : (0 : Int) < (n : Int) := by omega
 have hjn : (j : Int) < (n : Int) := by omega
 have ead : ad.add (0 * 2) = ad := by simp [Addr.add]
 rw [ead] at hc0
 have hcs : Tryz.prog.cellsOf 28 = 2 := by kernel_rfl
 have HW := Lib.hid hW; have HmW := Lib.hid hmW; have HbW := Lib.hid hbW
 have hb0 := hbW.cell 0
 have hb1 := hbW.cell 1
 have hb2 := hbW.cell 2
 have hb3 := hbW.cell 3
 have hf0 := hbW.frozen 0
 have hf1 := hbW.frozen 1
 have hf2 := hbW.frozen 2
 have hf3 := hbW.frozen 3
 simp at hb0 hb1 hb2 hb3
 clear hs hl hW hmW hbW hp hq hf hg hx hy hj
 go_enter Tryz.func24, Tryz.ntmps24
 go_upto_region 1 with fail
 rw [← HW.out]
 go_region
 all_goals
  go_wp2_with fail
  refine bodyPost_ret (v := .agg #[.int .i64 tag, .int .i64 (n : Int), .int .i64 x, .int .i64 y]) (by have h := HbW.out.four (.int .i64 tag) (.int .i64 (n : Int)) (.int .i64 x) (.int .i64 y); simp [results, Tryz.results24, go_sem, h.1, h.2.1, h.2.2.1, h.2.2.2.1]) rfl ⟨rfl, ?_⟩
  exact (HmW.out.four_new (Nat.le_refl _) _ _ _ _).drew

theorem sum4_bytes (s : Nat) : IntKind.u8.wrap ((s : Int) / 16777216) = ((s / 16777216 % 256 : Nat) : Int) ∧ IntKind.u8.wrap ((s : Int) / 65536) = ((s / 65536 % 256 : Nat) : Int) ∧ IntKind.u8.wrap ((s : Int) / 256) = ((s / 256 % 256 : Nat) : Int) ∧ IntKind.u8.wrap (s : Int) = ((s % 256 : Nat) : Int) := by
 rw [IntKind.wrap_u8', IntKind.wrap_u8', IntKind.wrap_u8', IntKind.wrap_u8']
 omega
theorem sumN_ent_lt {bs : List Nat} (h : lt256 bs) : sumN ent bs < 4294967296 := sumN_lt (fun j hj => ent_lt (by omega)) bs h
set_option maxHeartbeats 1000000 in
set_option maxRecDepth 100000 in
theorem jsum_any (A : Option Addr) (n c : Nat) (bs : List Nat) (w : World) (hs : Rds w w.heap.size A n (cells8 bs)) (hlt : lt256 bs) (hn : n ≤ maxLen) :
  Calls Tryz.prog 25 #[.slice A n c] w fun e w' => ∃ v, e = .returned v ∧ Own w.heap.size w' 5 v (cells8 (sum4 (sumN ent bs))) ∧ Mod (fun _ => False) w w' := by
 obtain ⟨s, hs2⟩ : ∃ s, s = sumN ent bs := ⟨_, rfl⟩
 have hsl : s < 4294967296 := hs2 ▸ sumN_ent_lt hlt
 obtain ⟨b1, b2, b3, b4⟩ := sum4_bytes s
 rw [← hs2]
 have Hs := Lib.hid hs; have Hlt := Lib.hid hlt; have Hn := Lib.hid hn; have Hs2 := Lib.hid hs2
 clear hs hlt hn hs2
 go_enter Tryz.func25, Tryz.ntmps25
 go_wp2_with fail
 refine (table_any w).mono ?_
 rintro e w1 ⟨rfl, hb1⟩
 have Hb1 := Lib.hid hb1
 clear hb1
 go_wp2_with fail
 refine (sum_any ent tab_ent A n c w.heap.size bs w1 (Hs.out.below Hb1.out) Hlt.out Hn.out).mono ?_
 rintro e w2 ⟨rfl, hb2⟩
 rw [← Hs2.out]
 have Hm2 := Lib.hid ((Mod.of_below Hb1.out).trans (Mod.of_below hb2) (fun i hi h => by have := Hb1.out.size; omega))
 have hsz := Nat.le_trans Hb1.out.size hb2.size
 clear hb2 Hb1 Hs Hlt Hn Hs2
 go_wp2_with fail
 go_ret
 refine ⟨_, rfl, (Own.lit w2 5 #[.int .u8 ((s / 16777216 % 256 : Nat) : Int), .int .u8 ((s / 65536 % 256 : Nat) : Int), .int .u8 ((s / 256 % 256 : Nat) : Int), .int .u8 ((s % 256 : Nat) : Int)] (by unfold maxLen; simp)).mono hsz, (Hm2.out.mono (fun i hi h => by omega)).alloc _⟩

theorem tag_byte {tag : Int} (h : 1 ≤ tag ∧ tag ≤ 6) : IntKind.u8.wrap tag = ((tag.toNat : Nat) : Int) := by
 rw [IntKind.wrap_u8']
 omega
set_option maxHeartbeats 1000000 in
set_option maxRecDepth 100000 in
theorem putHead_any (tag f g : Int) (n : Nat) (w : World) (ht : 1 ≤ tag ∧ tag ≤ 6) (hn : n ≤ maxLen) (hf : Fits f) (hg : Fits g) :
  Calls Tryz.prog 23 #[.agg #[.int .i64 tag, .int .i64 (n : Int), .int .i64 f, .int .i64 g]] w fun e w' => ∃ v, e = .returned v ∧ Own w.heap.size w' 5 v (cells8 (headC tag.toNat n f g)) ∧ Mod (fun _ => False) w w' := by
 unfold maxLen at hn
 obtain ⟨tb, htb⟩ : ∃ tb : Nat, tb = tag.toNat := ⟨_, rfl⟩
 have hw8 : IntKind.u8.wrap tag = (tb : Int) := by rw [tag_byte ht, htb]
 have hw64 : IntKind.u64.wrap (n : Int) = (n : Int) := by rw [IntKind.wrap_u64]; omega
 obtain ⟨W, hW⟩ : ∃ W, W = w.alloc (.cells #[.int .i64 tag, .int .i64 (n : Int), .int .i64 f, .int .i64 g] 50) := ⟨_, rfl⟩
 have hmW : Mod (fun _ => False) w W := by rw [hW]; exact (Mod.refl _ _).alloc _
 have hbW : Blk W w.heap.size 50 #[.int .i64 tag, .int .i64 (n : Int), .int .i64 f, .int .i64 g] := by rw [hW]; exact Blk.new _ _ _
 obtain ⟨zf, zf2⟩ := zig_nat hf
 obtain ⟨zg, zg2⟩ := zig_nat hg
 obtain ⟨kf, hkf⟩ : ∃ kf : Nat, kf = (zig f).toNat := ⟨_, rfl⟩
 obtain ⟨kg, hkg⟩ : ∃ kg : Nat, kg = (zig g).toNat := ⟨_, rfl⟩
 rw [← hkf] at zf zf2
 rw [← hkg] at zg zg2
 have Hkf := Lib.hid hkf; have Hkg := Lib.hid hkg; have Zf := Lib.hid zf; have Zg := Lib.hid zg
 clear hkf hkg zf zg
 have HmW := Lib.hid hmW; have HbW := Lib.hid hbW; have HW := Lib.hid hW; have Hf := Lib.hid hf; have Hg := Lib.hid hg; have Htb := Lib.hid htb
 have hb0 := hbW.cell 0
 have hb1 := hbW.cell 1
 have hb1a := (hbW.alloc (.cells #[.int .u8 (tb : Int)] 5)).cell 1
 simp at hb0 hb1 hb1a
 clear hW hmW hbW hf hg htb hb1
 go_enter Tryz.func23, Tryz.ntmps23
 go_wp2_with (first | (rw [← HW.out]))
 refine (vput_any _ 1 1 (W.heap.size + 1) [tb] n (W.alloc (.cells #[.int .u8 (tb : Int)] 5)) (Rds.lit W 5 #[.int .u8 (tb : Int)]) (by omega) (by unfold Lt64; omega)).mono ?_
 rintro e w1 ⟨v1, rfl, ho1, hl1⟩
 obtain ⟨A1, L1, c1, rfl, HL1, hc1, hcm1, hr1⟩ := own_formN8 ho1
 have hb1w := (HbW.out.alloc (.cells #[.int .u8 (tb : Int)] 5)).below hl1 (by simp; have := HbW.out.lt; omega)
 have hb2 := hb1w.cell 2
 simp at hb2
 have hm1 : Mod (fun _ => False) w w1 := (HmW.out.alloc (.cells #[.int .u8 (tb : Int)] 5)).trans (Mod.of_below hl1) (fun i hi h => by have := HmW.out.size; simp at h; omega)
 have hL1 : L1 ≤ 20 := by
  have h1 := enc_len10 (u := n) (by omega)
  have h2 := HL1.out
  simp at h2
  omega
 have Hr1 := Lib.hid hr1; have Hm1 := Lib.hid hm1; have Hb1 := Lib.hid hb1w
 clear ho1 hl1 hr1 hm1 hb1w hb1a hb0 hc1 hcm1
 go_wp2_with fail
 refine (zig_any f w1 (by have h1 := Hf.out.1; have h2 := Hf.out.2; have hH : (H63 : Int) = 9223372036854775808 := (by decide); exact ⟨(by omega), (by omega)⟩)).mono ?_
 rintro e w1' ⟨rfl, rfl⟩
 rw [← Zf.out]
 go_wp2_with fail
 refine (vput_any A1 L1 c1 _ ([tb] ++ enc n) kf w1 Hr1.out (by omega) (by unfold Lt64; omega)).mono ?_
 rintro e w2 ⟨v2, rfl, ho2, hl2⟩
 obtain ⟨A2, L2, c2, rfl, HL2, hc2, hcm2, hr2⟩ := own_formN8 ho2
 have hb2w := Hb1.out.below hl2 Hb1.out.lt
 have hb3 := hb2w.cell 3
 simp at hb3
 have hL2 : L2 ≤ 40 := by
  have h1 := enc_len10 zf2
  have h2 := HL2.out
  have h3 := HL1.out
  rw [List.length_append] at h2
  omega
 have Hr2 := Lib.hid hr2; have Hm2 := Lib.hid (Hm1.out.trans (Mod.of_below hl2) (fun i hi h => by have := Hm1.out.size; omega))
 have hsz2 := Nat.le_trans Hm1.out.size hl2.size
 clear ho2 hl2 hr2 hb2w Hb1 Hm1 Hr1 hc2 hcm2 hb2
 go_wp2_with fail
 refine (zig_any g w2 (by have h1 := Hg.out.1; have h2 := Hg.out.2; have hH : (H63 : Int) = 9223372036854775808 := (by decide); exact ⟨(by omega), (by omega)⟩)).mono ?_
 rintro e w2' ⟨rfl, rfl⟩
 rw [← Zg.out]
 go_wp2_with fail
 refine (vput_any A2 L2 c2 _ ([tb] ++ enc n ++ enc kf) kg w2 Hr2.out (by omega) (by unfold Lt64; omega)).mono ?_
 rintro e w3 ⟨v3, rfl, ho3, hl3⟩
 have Hm3 := Lib.hid (Hm2.out.trans (Mod.of_below hl3) (fun i hi h => by have := Hm2.out.size; omega))
 have hel : [tb] ++ enc n ++ enc kf ++ enc kg = headC tag.toNat n f g := by rw [← Htb.out]; unfold headC; rw [← Hkf.out, ← Hkg.out]; simp
 rw [hel] at ho3
 have Ho3 := Lib.hid ho3
 clear hel ho3 hl3 hb3
 go_wp2_with fail
 go_ret
 exact ⟨_, rfl, Ho3.out.mono hsz2, Hm3.out⟩
end Go.Proofs.YtmeilddngohccaaGreatDoor

/- Get with a size that may be too great; bytes.Equal (parted from layer 8's Decode). -/
namespace Go.Proofs.YtmeilddngohccaaGreatDoor
open Go.RowKit

/-- What the document tells, and that it is these bytes, or not, as strings. -/
theorem str_ne {xs bs : List Nat} {s1 s2 : ByteArray} {b : Bool} (h1 : strOf xs = s1) (h2 : strOf bs = s2) (l1 : lt256 xs) (l2 : lt256 bs) (hb : decide (xs = bs) = b) : (s1.toList == s2.toList) = b ∧ (s1.toList != s2.toList) = !b := by
 have hq : (s1.toList == s2.toList) = b := by
  rw [← hb]
  by_cases h : xs = bs
  ·have e : s1 = s2 := by rw [← h1, ← h2, h]
   rw [e, decide_eq_true h, beq_self_eq_true]
  ·rw [decide_eq_false h, beq_eq_false_iff_ne]
   intro e
   rw [ByteArray.toList_eq, ByteArray.toList_eq] at e
   exact h (strOf_inj l1 l2 (by rw [h1, h2]; exact ByteArray.ext (Array.toList_inj.1 e)))
 exact ⟨hq, by unfold bne; rw [hq]⟩
end Go.Proofs.YtmeilddngohccaaGreatDoor

/- Chunks, of the code: whether the sum stands behind. -/
namespace Go.Proofs.YtmeilddngohccaaGreatDoor
open Go.RowKit

end Go.Proofs.YtmeilddngohccaaGreatDoor

/- Times: wrapping of 64 bits, by sg and un; a reader's states, bad ones too. -/
namespace Go.Proofs.YtmeilddngohccaaGreatDoor
open Go.RowKit

theorem wrap_sg (x : Int) : wrap64 x = sg (un x) := by
 have hm : (M64 : Int) = 18446744073709551616 := rfl
 have hh : (H63 : Int) = 9223372036854775808 := rfl
 have h1 := Int.emod_nonneg x (show (M64 : Int) ≠ 0 by decide)
 have h2 := Int.emod_lt_of_pos x (show (0 : Int) < (M64 : Int) by decide)
 have e : x % (M64 : Int) = x % 18446744073709551616 := rfl
 unfold wrap64 sg un
 rw [e] at *
 split <;> omega
theorem wrapU_un (x : Int) : IntKind.u64.wrap x = (un x : Int) := by
 rw [IntKind.wrap_u64]
 have h1 := Int.emod_nonneg x (show (M64 : Int) ≠ 0 by decide)
 have e : x % (M64 : Int) = x % 18446744073709551616 := rfl
 unfold un
 rw [e] at *
 omega
theorem signed_int {v n : Nat} (hn : n ≤ 64) : wrap64 (IntKind.u64.wrap ((v : Int) * 2 ^ (64 - n))) / 2 ^ (64 - n) = sgn n (v % 2 ^ n) := by
 rw [wrap_sg, wrapU_un, un_nat (un_lt _)]
 have hu : v % 2 ^ n < 2 ^ n := Nat.mod_lt _ (Nat.two_pow_pos n)
 have hM : (M64 : Nat) = 2 ^ n * 2 ^ (64 - n) := by rw [M64_pow, ← Nat.pow_add]; congr 1; omega
 have hp : 0 < 2 ^ (64 - n) := Nat.two_pow_pos _
 have hx : un ((v : Int) * 2 ^ (64 - n)) = v % 2 ^ n * 2 ^ (64 - n) := by
  have e : (v : Int) * 2 ^ (64 - n) = ((v * 2 ^ (64 - n) : Nat) : Int) := by simp
  unfold un
  rw [e, ← Int.natCast_emod, Int.toNat_natCast, hM, Nat.mul_mod_mul_right]
 rw [hx]
 have hc : (2 : Int) ^ (64 - n) = ((2 ^ (64 - n) : Nat) : Int) := by simp
 rw [hc]
 have hd : ∀ a : Int, a * ((2 ^ (64 - n) : Nat) : Int) / ((2 ^ (64 - n) : Nat) : Int) = a := fun a => Int.mul_ediv_cancel a (by omega)
 rcases Nat.eq_or_lt_of_le hn with rfl | hn
 ·unfold sgn
  rw [if_pos rfl]
  simp
 ·unfold sgn sg
  rw [if_neg (show ¬ n = 64 by omega)]
  rcases Nat.eq_zero_or_pos n with rfl | h0
  ·have : v % 2 ^ 0 = 0 := by omega
   rw [this]
   simp [H63_pos]
  ·have h63 : H63 = 2 ^ (n - 1) * 2 ^ (64 - n) := by rw [H63_pow, ← Nat.pow_add]; congr 1; omega
   have h2n : 2 ^ n = 2 ^ (n - 1) * 2 := by rw [← Nat.pow_succ]; congr 1; omega
   have hb : v % 2 ^ n / 2 ^ (n - 1) % 2 = 1 ↔ ¬ v % 2 ^ n < 2 ^ (n - 1) := by
    have h1 : v % 2 ^ n / 2 ^ (n - 1) < 2 := by rw [Nat.div_lt_iff_lt_mul (Nat.two_pow_pos _), Nat.mul_comm]; omega
    constructor
    ·intro h h2
     rw [Nat.div_eq_of_lt h2] at h
     omega
    ·intro h
     have : 1 ≤ v % 2 ^ n / 2 ^ (n - 1) := by rw [Nat.le_div_iff_mul_le (Nat.two_pow_pos _)]; omega
     omega
   have hlt : v % 2 ^ n * 2 ^ (64 - n) < H63 ↔ v % 2 ^ n < 2 ^ (n - 1) := by
    rw [h63]
    exact Nat.mul_lt_mul_right hp
   by_cases h : v % 2 ^ n < 2 ^ (n - 1)
   ·rw [if_pos (hlt.2 h), if_neg (fun h2 => hb.1 h2.2 h), Int.natCast_mul, hd]
   ·rw [if_neg (fun h2 => h (hlt.1 h2)), if_pos ⟨h0, hb.2 h⟩, hM, Int.natCast_mul, Int.natCast_mul, ← Int.sub_mul, hd]
    simp

def markO : Nat → Nat → Option (Nat × Nat) → Nat × Option (Nat × Nat)
 | 0, h, s => (h, s)
 | f + 1, h, s => if (getO 1 s).1 = 1 then markO f (h + 1) (getO 1 s).2 else (h, (getO 1 s).2)
def formO (s : Option (Nat × Nat)) : Nat := (markO 4 0 s).1
def bitsO (s : Option (Nat × Nat)) : Nat × Option (Nat × Nat) := getO (sz (formO s)) (markO 4 0 s).2
def diffO (s : Option (Nat × Nat)) : Int := sgn (sz (formO s)) (bitsO s).1
def behindO (s : Option (Nat × Nat)) : Option (Nat × Nat) := (bitsO s).2
theorem markO_le (f h : Nat) (s : Option (Nat × Nat)) : (markO f h s).1 ≤ h + f := by
 induction f generalizing h s with
 | zero => exact Nat.le_refl _
 | succ f ih =>
  unfold markO
  split
  ·have := ih (h + 1) (getO 1 s).2; omega
  ·show h ≤ _; omega
theorem formO_le (s : Option (Nat × Nat)) : formO s ≤ 4 := by have := markO_le 4 0 s; unfold formO; omega
theorem markO_head (f h R rem : Nat) : (∀ h' R1 rem1, rdHead f h R rem = some (h', R1, rem1) → markO f h (some (R, rem)) = (h', some (R1, rem1))) ∧ (rdHead f h R rem = none → (markO f h (some (R, rem))).2 = none) := by
 induction f generalizing h R rem with
 | zero =>
  refine ⟨fun h' R1 rem1 e => ?_, fun e => by cases e⟩
  injection e with e
  injection e with e1 e2
  injection e2 with e2 e3
  subst e1 e2 e3
  rfl
 | succ f ih =>
  have e1 : rdHead (f + 1) h R rem = match takeB 1 R rem with | none => none | some (b, R1, rem1) => if b = 1 then rdHead f (h + 1) R1 rem1 else some (h, R1, rem1) := rfl
  have e2 : markO (f + 1) h (some (R, rem)) = if (getO 1 (some (R, rem))).1 = 1 then markO f (h + 1) (getO 1 (some (R, rem))).2 else (h, (getO 1 (some (R, rem))).2) := rfl
  rw [e1, e2, getO_take]
  cases ht : takeB 1 R rem with
  | none => exact ⟨fun _ _ _ e => (by cases e), fun _ => rfl⟩
  | some q =>
   obtain ⟨b, R1, rem1⟩ := q
   by_cases hb : b = 1
   ·simpa [hb] using ih (h + 1) R1 rem1
   ·refine ⟨fun h' R2 rem2 e => ?_, fun e => ?_⟩
    ·simp [hb] at e ⊢
     exact e
    ·simp [hb] at e
theorem rdDiff_O (R rem : Nat) : (∀ d R1 rem1, rdDiff R rem = some (d, R1, rem1) → diffO (some (R, rem)) = d ∧ behindO (some (R, rem)) = some (R1, rem1) ∧ formO (some (R, rem)) = hd d) ∧
  (rdDiff R rem = none → behindO (some (R, rem)) = none ∨ formO (some (R, rem)) ≠ hd (diffO (some (R, rem)))) := by
 obtain ⟨a1, a2⟩ := markO_head 4 0 R rem
 have hf := formO_le (some (R, rem))
 unfold rdDiff
 cases h1 : rdHead 4 0 R rem with
 | none =>
  refine ⟨fun _ _ _ e => (by cases e), fun _ => .inl ?_⟩
  unfold behindO bitsO
  rw [a2 h1]
  rfl
 | some q =>
  obtain ⟨h, R1, rem1⟩ := q
  have e := a1 h R1 rem1 h1
  have ef : formO (some (R, rem)) = h := by unfold formO; rw [e]
  have eb : bitsO (some (R, rem)) = getO (sz h) (some (R1, rem1)) := by unfold bitsO; rw [ef, e]
  rw [getO_take] at eb
  show (∀ d R1' rem1', (match takeB (sz h) R1 rem1 with | none => none | some (u, R2, rem2) => if kindN (sgn (sz h) u) = sz h then some (sgn (sz h) u, R2, rem2) else none) = some (d, R1', rem1') → _) ∧ ((match takeB (sz h) R1 rem1 with | none => none | some (u, R2, rem2) => if kindN (sgn (sz h) u) = sz h then some (sgn (sz h) u, R2, rem2) else none) = none → _)
  cases h2 : takeB (sz h) R1 rem1 with
  | none =>
   refine ⟨fun _ _ _ e => (by cases e), fun _ => .inl ?_⟩
   unfold behindO
   rw [eb, h2]
  | some q2 =>
   obtain ⟨u, R2, rem2⟩ := q2
   rw [h2] at eb
   have ed : diffO (some (R, rem)) = sgn (sz h) u := by unfold diffO; rw [ef, eb]
   have ebh : behindO (some (R, rem)) = some (R2, rem2) := by unfold behindO; rw [eb]
   have hk : kindN (sgn (sz h) u) = sz h ↔ h = hd (sgn (sz h) u) := by
    rw [kind_hd]
    exact ⟨fun e => (sz_inj (hd_le _) (by omega) e).symm, fun e => by rw [← e]⟩
   refine ⟨fun d R1' rem1' e => ?_, fun e => .inr ?_⟩
   ·by_cases hk2 : kindN (sgn (sz h) u) = sz h
    ·simp [hk2] at e
     obtain ⟨rfl, rfl, rfl⟩ := e
     exact ⟨ed, ebh, ef.trans (hk.1 hk2)⟩
    ·simp [hk2] at e
   ·rw [ef, ed]
    intro h3
    simp [hk.2 h3] at e
end Go.Proofs.YtmeilddngohccaaGreatDoor

/- The widths' table, and what reads it: signed, shortest. -/
namespace Go.Proofs.YtmeilddngohccaaGreatDoor
open Go.RowKit

theorem ret_eq {k : IntKind} {a b : Int} (h : a = b) : Ending.returned (.int k a) = .returned (.int k b) := by rw [h]
theorem signed_any (v n : Nat) (w : World) (hv : Lt64 v) (hn : n ≤ 64) :
  Calls Tryz.prog 110 #[.int .u64 (v : Int), .int .i64 (n : Int)] w fun e w' => e = .returned (.int .i64 (sgn n (v % 2 ^ n))) ∧ w = w' := by
 have h0 : (0 : Int) ≤ 64 - (n : Int) := by omega
 have Hv := Lib.hid hv
 clear hv
 go_enter Tryz.func110, Tryz.ntmps110
 go_wp2
 go_ret
 exact ⟨ret_int (signed_int hn), rfl⟩

theorem signed_is (v n : Nat) (N r : Int) (w : World) (hN : N = (n : Int)) (hv : Lt64 v) (hn : n ≤ 64) (hr : sgn n (v % 2 ^ n) = r) :
  Calls Tryz.prog 110 #[.int .u64 (v : Int), .int .i64 N] w fun e w' => e = .returned (.int .i64 r) ∧ w = w' := by
 subst hN hr
 exact signed_any v n w hv hn
theorem sgn_range {n u : Nat} (h0 : 0 < n) (hn : n < 64) (hu : u < 2 ^ n) : -((2 ^ (n - 1) : Nat) : Int) ≤ sgn n u ∧ sgn n u < ((2 ^ (n - 1) : Nat) : Int) := by
 have h2n : 2 ^ n = 2 ^ (n - 1) * 2 := by rw [← Nat.pow_succ]; congr 1; omega
 have hc : (2 : Int) ^ n = ((2 ^ n : Nat) : Int) := by simp
 have hb : u / 2 ^ (n - 1) % 2 = 1 ↔ ¬ u < 2 ^ (n - 1) := by
  have h1 : u / 2 ^ (n - 1) < 2 := by rw [Nat.div_lt_iff_lt_mul (Nat.two_pow_pos _), Nat.mul_comm]; omega
  constructor
  ·intro h h2
   rw [Nat.div_eq_of_lt h2] at h
   omega
  ·intro h
   have : 1 ≤ u / 2 ^ (n - 1) := by rw [Nat.le_div_iff_mul_le (Nat.two_pow_pos _)]; omega
   omega
 unfold sgn
 rw [if_neg (show ¬ n = 64 by omega), hc]
 split
 ·rename_i h
  have := hb.1 h.2
  omega
 ·rename_i h
  have : u < 2 ^ (n - 1) := by
   rcases Nat.lt_or_ge u (2 ^ (n - 1)) with h1 | h1
   ·exact h1
   ·exact absurd ⟨h0, hb.2 (by omega)⟩ h
  omega
theorem sgn_not {d : Int} {k : Nat} (h : k < hd d) : sgn (sz k) (un d % 2 ^ sz k) ≠ d := by
 have hk := hd_le d
 intro e
 have hk' : k = 0 ∨ k = 1 ∨ k = 2 ∨ k = 3 := by omega
 unfold hd at h
 rcases hk' with rfl | rfl | rfl | rfl
 ·have hu : un d % 2 ^ 0 = 0 := by omega
  have e2 : sgn 0 (un d % 2 ^ 0) = d := e
  rw [hu] at e2
  have e3 : (0 : Int) = d := e2
  rw [if_pos e3.symm] at h
  omega
 ·have := sgn_range (n := 7) (by decide) (by decide) (Nat.mod_lt (un d) (Nat.two_pow_pos 7))
  have e2 : sgn 7 (un d % 2 ^ 7) = d := e
  rw [e2] at this
  have h1 : -64 ≤ d ∧ d < 64 := by omega
  by_cases h0 : d = 0
  ·rw [if_pos h0] at h; omega
  ·rw [if_neg h0, if_pos h1] at h; omega
 ·have := sgn_range (n := 9) (by decide) (by decide) (Nat.mod_lt (un d) (Nat.two_pow_pos 9))
  have e2 : sgn 9 (un d % 2 ^ 9) = d := e
  rw [e2] at this
  have h1 : -256 ≤ d ∧ d < 256 := by omega
  by_cases h0 : d = 0
  ·rw [if_pos h0] at h; omega
  ·rw [if_neg h0] at h
   by_cases h2 : -64 ≤ d ∧ d < 64
   ·rw [if_pos h2] at h; omega
   ·rw [if_neg h2, if_pos h1] at h; omega
 ·have := sgn_range (n := 12) (by decide) (by decide) (Nat.mod_lt (un d) (Nat.two_pow_pos 12))
  have e2 : sgn 12 (un d % 2 ^ 12) = d := e
  rw [e2] at this
  have h1 : -2048 ≤ d ∧ d < 2048 := by omega
  by_cases h0 : d = 0
  ·rw [if_pos h0] at h; omega
  ·rw [if_neg h0] at h
   by_cases h2 : -64 ≤ d ∧ d < 64
   ·rw [if_pos h2] at h; omega
   ·rw [if_neg h2] at h
    by_cases h3 : -256 ≤ d ∧ d < 256
    ·rw [if_pos h3] at h; omega
    ·rw [if_neg h3, if_pos h1] at h; omega
theorem sz_le (k : Nat) : sz k ≤ 64 := by unfold sz; split; omega; split; omega; split; omega; split; omega; omega

/-- The widths, where their variable lies. -/
def Wid (w : World) : Prop := 1 < w.heap.size ∧ ∀ i, i < 5 → w.cell? ⟨1, i, none⟩ = some (.int .i64 (sz i : Nat))
theorem Wid.mod {w w' : World} {S : Nat → Prop} (h : Wid w) (hm : Mod S w w') (hn : ¬ S 1) : Wid w' :=
 ⟨Nat.lt_of_lt_of_le h.1 hm.size, fun i hi => (hm.cell (a := ⟨1, i, none⟩) h.1 hn).trans (h.2 i hi)⟩
theorem shortest_any (d : Int) (w : World) (hf : Fits d) (hw : Wid w) :
  Calls Tryz.prog 105 #[.int .i64 d] w fun e w' => e = .returned (.int .i64 (hd d : Nat)) ∧ w = w' := by
 have h0 : w.cell? ⟨1, 0, none⟩ = some (.int .i64 0) := hw.2 0 (by decide)
 have h1 : w.cell? ⟨1, 1, none⟩ = some (.int .i64 7) := hw.2 1 (by decide)
 have h2 : w.cell? ⟨1, 2, none⟩ = some (.int .i64 9) := hw.2 2 (by decide)
 have h3 : w.cell? ⟨1, 3, none⟩ = some (.int .i64 12) := hw.2 3 (by decide)
 have h4 : w.cell? ⟨1, 4, none⟩ = some (.int .i64 64) := hw.2 4 (by decide)
 have Hf := Lib.hid hf
 have hwu : IntKind.u64.wrap d = (un d : Int) := wrapU_un d
 have hul : Hid (Lt64 (un d)) := Lib.hid (un_lt d)
 clear hw hf
 have i0 : ∀ w : World, (Instr.index 103 (.agg #[.int .i64 0, .int .i64 7, .int .i64 9, .int .i64 12, .int .i64 64]) (.int .i64 0)).run Tryz.prog w = .ok (.int .i64 0) w := fun _ => by kernel_rfl
 have i1 : ∀ w : World, (Instr.index 103 (.agg #[.int .i64 0, .int .i64 7, .int .i64 9, .int .i64 12, .int .i64 64]) (.int .i64 1)).run Tryz.prog w = .ok (.int .i64 7) w := fun _ => by kernel_rfl
 have i2 : ∀ w : World, (Instr.index 103 (.agg #[.int .i64 0, .int .i64 7, .int .i64 9, .int .i64 12, .int .i64 64]) (.int .i64 2)).run Tryz.prog w = .ok (.int .i64 9) w := fun _ => by kernel_rfl
 have i3 : ∀ w : World, (Instr.index 103 (.agg #[.int .i64 0, .int .i64 7, .int .i64 9, .int .i64 12, .int .i64 64]) (.int .i64 3)).run Tryz.prog w = .ok (.int .i64 12) w := fun _ => by kernel_rfl
 have i4 : ∀ w : World, (Instr.index 103 (.agg #[.int .i64 0, .int .i64 7, .int .i64 9, .int .i64 12, .int .i64 64]) (.int .i64 4)).run Tryz.prog w = .ok (.int .i64 64) w := fun _ => by kernel_rfl
 go_enter Tryz.func105, Tryz.ntmps105
 go_wp2_with fail
 go_loopg [6] 5 (fun l s6 wr => ∃ i : Nat, i + l = 5 ∧ i ≤ hd d ∧ s6 = .int .i64 (i : Int) ∧ wr = w)
 case atStart => exact ⟨0, rfl, Nat.zero_le _, rfl, rfl⟩
 case round =>
  obtain ⟨i, hil, hih, rfl, rfl⟩ := hrel
  have h5 := hd_le d
  have hi : i = 0 ∨ i = 1 ∨ i = 2 ∨ i = 3 ∨ i = 4 := by omega
  have Hil := Lib.hid hil
  clear hil
  rcases Nat.eq_or_lt_of_le hih with he | hlt
  ·have hs := sgn_in (h5) (Nat.le_refl _) Hf.out
   rw [← he] at hs
   have Hs := Lib.hid hs
   have He := Lib.hid he
   clear he hs hih h5
   rcases hi with rfl | rfl | rfl | rfl | rfl
   all_goals
    go_wp2_with fail
    first
     | refine (signed_is (un d) 0 0 d _ rfl hul.out (by decide) Hs.out).mono ?_
     | refine (signed_is (un d) 7 7 d _ rfl hul.out (by decide) Hs.out).mono ?_
     | refine (signed_is (un d) 9 9 d _ rfl hul.out (by decide) Hs.out).mono ?_
     | refine (signed_is (un d) 12 12 d _ rfl hul.out (by decide) Hs.out).mono ?_
     | refine (signed_is (un d) 64 64 d _ rfl hul.out (by decide) Hs.out).mono ?_
    rintro e w' ⟨rfl, rfl⟩
    go_wp2_with fail
    go_ret
    refine ⟨ret_eq ?_, rfl⟩
    rw [← He.out]
    rfl
  ·have hs := sgn_not hlt
   obtain ⟨r, hr⟩ : ∃ r, r = sgn (sz i) (un d % 2 ^ sz i) := ⟨_, rfl⟩
   rw [← hr] at hs
   have hne : (r == d) = false := by simpa using hs
   have Hr := Lib.hid hr.symm
   have Hlt := Lib.hid hlt
   clear hr hs hih h5
   rcases hi with rfl | rfl | rfl | rfl | rfl
   ·go_wp2_with fail
    refine (signed_is (un d) 0 0 r _ rfl hul.out (by decide) Hr.out).mono ?_
    rintro e w' ⟨rfl, rfl⟩
    go_wp2_with fail
    go_roundg (gk - 1)
    case measure => have := Hil.out; omega
    case rel => exact ⟨1, by have := Hil.out; omega, Hlt.out, rfl, rfl⟩
   ·go_wp2_with fail
    refine (signed_is (un d) 7 7 r _ rfl hul.out (by decide) Hr.out).mono ?_
    rintro e w' ⟨rfl, rfl⟩
    go_wp2_with fail
    go_roundg (gk - 1)
    case measure => have := Hil.out; omega
    case rel => exact ⟨2, by have := Hil.out; omega, Hlt.out, rfl, rfl⟩
   ·go_wp2_with fail
    refine (signed_is (un d) 9 9 r _ rfl hul.out (by decide) Hr.out).mono ?_
    rintro e w' ⟨rfl, rfl⟩
    go_wp2_with fail
    go_roundg (gk - 1)
    case measure => have := Hil.out; omega
    case rel => exact ⟨3, by have := Hil.out; omega, Hlt.out, rfl, rfl⟩
   ·go_wp2_with fail
    refine (signed_is (un d) 12 12 r _ rfl hul.out (by decide) Hr.out).mono ?_
    rintro e w' ⟨rfl, rfl⟩
    go_wp2_with fail
    go_roundg (gk - 1)
    case measure => have := Hil.out; omega
    case rel => exact ⟨4, by have := Hil.out; omega, Hlt.out, rfl, rfl⟩
   ·have := hd_le d; have := Hlt.out; omega
end Go.Proofs.YtmeilddngohccaaGreatDoor

/- A reader tells whether it is well. -/
namespace Go.Proofs.YtmeilddngohccaaGreatDoor
open Go.RowKit

end Go.Proofs.YtmeilddngohccaaGreatDoor

/- Ok of a reader in whatever state. -/
namespace Go.Proofs.YtmeilddngohccaaGreatDoor
open Go.RowKit

end Go.Proofs.YtmeilddngohccaaGreatDoor

/- A reader in whatever state; a difference is read: mark, get. -/
namespace Go.Proofs.YtmeilddngohccaaGreatDoor
open Go.RowKit

theorem sz_at {w : World} (hw : Wid w) {k : Nat} (hk : k ≤ 4) : w.cell? ⟨1, k, none⟩ = some (.int .i64 (sz k : Nat)) := hw.2 k (by omega)
theorem bitsO_lt (s : Option (Nat × Nat)) (hs : ∀ R rem, s = some (R, rem) → R < 2 ^ rem) : (bitsO s).1 < 2 ^ sz (formO s) := by
 have hp := Nat.two_pow_pos (sz (formO s))
 have key : ∀ (s' : Option (Nat × Nat)) (k : Nat), (∀ R rem, s' = some (R, rem) → R < 2 ^ rem) → (getO k s').1 < 2 ^ k ∧ ∀ R rem, (getO k s').2 = some (R, rem) → R < 2 ^ rem := by
  intro s' k h
  cases s' with
  | none => exact ⟨Nat.two_pow_pos k, fun _ _ h => by cases h⟩
  | some p =>
   obtain ⟨R, rem⟩ := p
   by_cases hk : k ≤ rem
   ·have e : getO k (some (R, rem)) = (R / 2 ^ (rem - k), some (R % 2 ^ (rem - k), rem - k)) := if_pos hk
    rw [e]
    refine ⟨?_, fun R' rem' h' => ?_⟩
    ·show R / 2 ^ (rem - k) < 2 ^ k
     rw [Nat.div_lt_iff_lt_mul (Nat.two_pow_pos _), ← Nat.pow_add, show k + (rem - k) = rem by omega]
     exact h R rem rfl
    ·injection h' with h'
     injection h' with h1 h2
     subst h1 h2
     exact Nat.mod_lt _ (Nat.two_pow_pos _)
   ·have e : getO k (some (R, rem)) = (0, none) := if_neg hk
    rw [e]
    exact ⟨Nat.two_pow_pos k, fun _ _ h => by cases h⟩
 have mk : ∀ (f h : Nat) (s' : Option (Nat × Nat)), (∀ R rem, s' = some (R, rem) → R < 2 ^ rem) → ∀ R rem, (markO f h s').2 = some (R, rem) → R < 2 ^ rem := by
  intro f
  induction f with
  | zero => exact fun h s' hs => hs
  | succ f ih =>
   intro h s' hs
   have e : markO (f + 1) h s' = if (getO 1 s').1 = 1 then markO f (h + 1) (getO 1 s').2 else (h, (getO 1 s').2) := rfl
   rw [e]
   by_cases hb : (getO 1 s').1 = 1
   ·rw [if_pos hb]; exact ih _ _ (key s' 1 hs).2
   ·rw [if_neg hb]; exact (key s' 1 hs).2
 exact (key _ _ (mk 4 0 s hs)).1
end Go.Proofs.YtmeilddngohccaaGreatDoor

/- Fields are told: the project's writer, and the document's own. -/
namespace Go.Proofs.YtmeilddngohccaaGreatDoor
open Go.RowKit

/-- Fields were added to what a writer had. -/
def Wrote (w0 w : World) (g : Nat) (row : Option Nat) (N len : Nat) (fs : List (Nat × Nat)) : Prop :=
 ∃ row', Wr w g row' (N * 2 ^ flen fs + fnum fs) (len + flen fs) ∧ Mod (fun i => i = g ∨ row = some i) w0 w ∧ RowTo w0 row row'
theorem num_snoc (N : Nat) (fs bs : List (Nat × Nat)) : (N * 2 ^ flen fs + fnum fs) * 2 ^ flen bs + fnum bs = N * 2 ^ flen (fs ++ bs) + fnum (fs ++ bs) := by
 rw [flen_app, fnum_app, Nat.pow_add, Nat.add_mul, Nat.mul_assoc, Nat.add_assoc]
section
variable {w0 w w' : World} {g N len : Nat} {row : Option Nat} {fs bs : List (Nat × Nat)}
theorem Wrote.refl (h : Wr w g row N len) : Wrote w w g row N len [] := ⟨row, by simpa [flen, fnum] using h, Mod.refl _ _, .inl rfl⟩
theorem Mod.more {row row' : Option Nat} {w2 : World} (h : Mod (fun i => i = g ∨ row = some i) w0 w) (hr : RowTo w0 row row') (h2 : Mod (fun i => i = g ∨ row' = some i) w w2) : Mod (fun i => i = g ∨ row = some i) w0 w2 :=
 h.trans h2 (fun _ hi h => h.elim .inl (fun e => .inr (hr.in_ e hi)))
theorem RowTo.two {row row' row2 : Option Nat} (h : RowTo w0 row row') (hs : w0.heap.size ≤ w.heap.size) (h2 : RowTo w row' row2) : RowTo w0 row row2 := by
 rcases h2 with rfl | ⟨r, rfl, hr⟩
 ·exact h
 ·exact .inr ⟨r, rfl, by omega⟩
theorem Wrote.app (h : Wrote w0 w g row N len fs) (h2 : ∀ row', RowTo w0 row row' → Wr w g row' (N * 2 ^ flen fs + fnum fs) (len + flen fs) → Wrote w w' g row' (N * 2 ^ flen fs + fnum fs) (len + flen fs) bs) : Wrote w0 w' g row N len (fs ++ bs) := by
 obtain ⟨row', a1, a2, a3⟩ := h
 obtain ⟨row2, b1, b2, b3⟩ := h2 row' a3 a1
 refine ⟨row2, ?_, a2.more a3 b2, a3.two a2.size b3⟩
 rw [num_snoc, Nat.add_assoc, ← flen_app] at b1
 exact b1
theorem Wrote.len_eq {fs' : List (Nat × Nat)} (h : Wrote w0 w g row N len fs) (h1 : flen fs = flen fs') (h2 : fnum fs = fnum fs') : Wrote w0 w g row N len fs' := by
 obtain ⟨row', a1, a2, a3⟩ := h
 refine ⟨row', ?_, a2, a3⟩
 rw [← h1, ← h2]
 exact a1
end
/-- Put adds one field. -/
theorem put_wrote (w0 : World) (g : Nat) (row : Option Nat) (N len k : Nat) (fs : List (Nat × Nat)) (v : Nat) (V n : Int) (w : World) (hV : V = (v : Int)) (hn : n = (k : Int)) (hk : k ≤ 64) (hv : Lt64 v) (hw : Wrote w0 w g row N len fs) (hlen : len + flen fs ≤ 1000000000) :
  Calls Tryz.prog 80 #[.pointer (some ⟨g, 0, none⟩), .int .u64 V, .int .i64 n] w fun e w' => e = .returned (.tuple #[]) ∧ Wrote w0 w' g row N len (fs ++ [(v, k)]) := by
 subst hV hn
 obtain ⟨row', a1, a2, a3⟩ := hw
 have hv' := hv.out
 refine (put_wr g row' _ _ k (v : Int) (k : Int) w ⟨by omega, by omega⟩ ⟨by omega, by omega⟩ (by omega) a1 hlen).mono ?_
 rintro e w' ⟨rfl, row2, b1, b2, b3⟩
 refine ⟨rfl, row2, ?_, a2.more a3 b2, a3.two a2.size b3⟩
 rw [Int.toNat_natCast] at b1
 have e1 : N * 2 ^ flen (fs ++ [(v, k)]) + fnum (fs ++ [(v, k)]) = (N * 2 ^ flen fs + fnum fs) * 2 ^ k + v % 2 ^ k := by
  rw [← num_snoc]
  show _ * 2 ^ (k + 0) + (v % 2 ^ k * 2 ^ 0 + 0) = _
  rw [Nat.add_zero, Nat.pow_zero, Nat.mul_one, Nat.add_zero]
 have e2 : len + flen (fs ++ [(v, k)]) = len + flen fs + k := by
  rw [flen_app]
  show len + (flen fs + (k + 0)) = _
  omega
 rw [e1, e2]
 exact b1

theorem app_len {fs cs bs : List (Nat × Nat)} (h : flen cs = flen bs) : flen (fs ++ cs) = flen (fs ++ bs) := by rw [flen_app, flen_app, h]
theorem app_num {fs cs bs : List (Nat × Nat)} (h1 : flen cs = flen bs) (h : fnum cs = fnum bs) : fnum (fs ++ cs) = fnum (fs ++ bs) := by rw [fnum_app, fnum_app, h, h1]
theorem add_zero' (a : Addr) : a.add 0 = a := by unfold Addr.add; simp
theorem drop_at {zs : List Int} {i : Nat} {x : Int} (h : zs[i]? = some x) : zs.drop i = x :: zs.drop (i + 1) := by
 rw [List.getElem?_eq_some_iff] at h
 obtain ⟨hi, rfl⟩ := h
 exact List.drop_eq_getElem_cons hi
theorem flen_le_app (fs cs : List (Nat × Nat)) : flen fs ≤ flen (fs ++ cs) := by rw [flen_app]; omega
theorem SeesI.at2 {k : IntKind} {w w' : World} {B n i : Nat} {A : Option Addr} {zs : List Int} (h : SeesI k w B A n zs) (hi : i < n) (hB : B ≤ w.heap.size) {S : Nat → Prop} (hm : Mod S w w') (hS : ∀ ad, A = some ad → ¬ S ad.block) :
  ∃ ad x, A = some ad ∧ zs[i]? = some x ∧ w'.cell? (ad.add i) = some (.int k x) := by
 obtain ⟨ad, e, hb, hc⟩ := h.2 (by omega)
 have hl : i < zs.length := by have := h.1; omega
 refine ⟨ad, zs[i], e, List.getElem?_eq_getElem hl, ?_⟩
 rw [hm.cell (a := ad.add i) (by rw [addr_block]; omega) (by rw [addr_block]; exact hS _ e)]
 exact hc i _ (List.getElem?_eq_getElem hl)
theorem RWr.mod {w w1 : World} {S : Nat → Prop} {g : Nat} {row : Option Nat} {N len : Nat} (h : RWr w g row N len) (hm : Mod S w w1) (h1 : ¬ S g) (h2 : ∀ k, row = some k → ¬ S k) : RWr w1 g row N len := by
 obtain ⟨v, L, hblk, hown, hrow, rest⟩ := h
 exact ⟨v, L, hm.blk hblk h1, hm.owns hown (fun k hk => h2 k (by rw [← hrow]; exact hk)), hrow, rest⟩
theorem RWr.lt {w : World} {g : Nat} {row : Option Nat} {N len : Nat} (h : RWr w g row N len) : g < w.heap.size := by
 obtain ⟨v, L, hblk, _⟩ := h
 exact hblk.lt
theorem RWr.row_lt {w : World} {g : Nat} {row : Option Nat} {N len : Nat} (h : RWr w g row N len) : ∀ k, row = some k → k < w.heap.size := by
 obtain ⟨v, L, hblk, hown, hrow, _⟩ := h
 intro k hk
 exact (hown.lt k (by rw [hrow, hk])).2
def RWrote (w0 w : World) (g : Nat) (row : Option Nat) (N len : Nat) (fs : List (Nat × Nat)) : Prop :=
 ∃ row', RWr w g row' (N * 2 ^ flen fs + fnum fs) (len + flen fs) ∧ Mod (fun i => i = g ∨ row = some i) w0 w ∧ RowTo w0 row row'
section
variable {w0 w w' : World} {g N len : Nat} {row : Option Nat} {fs bs : List (Nat × Nat)}
theorem RWrote.refl (h : RWr w g row N len) : RWrote w w g row N len [] := ⟨row, by simpa [flen, fnum] using h, Mod.refl _ _, .inl rfl⟩
theorem RWrote.drewN (h : RWrote w0 w g row N len fs) (n : Nat) : RWrote w0 (w.drewN n) g row N len fs := by
 obtain ⟨row', a1, a2, a3⟩ := h
 exact ⟨row', a1.mod ((Mod.refl (fun _ => False) w).drewN n) (fun h => h) (fun _ _ h => h), a2.drewN n, a3⟩
end
theorem rput_wrote (w0 : World) (g : Nat) (row : Option Nat) (N len k : Nat) (fs : List (Nat × Nat)) (v : Nat) (V n : Int) (w : World) (hV : V = (v : Int)) (hn : n = (k : Int)) (hk : k ≤ 64) (hv : Lt64 v) (hw : RWrote w0 w g row N len fs) (hlen : len + flen fs ≤ 1000000000) :
  Calls Tryz.prog 79 #[.pointer (some ⟨g, 0, none⟩), .int .u64 V, .int .i64 n] w fun e w' => e = .returned (.tuple #[]) ∧ RWrote w0 w' g row N len (fs ++ [(v, k)]) := by
 subst hV hn
 obtain ⟨row', a1, a2, a3⟩ := hw
 refine (rput_any g row' _ _ k v (k : Int) w (by omega) hv a1 hlen).mono ?_
 rintro e w' ⟨rfl, row2, b1, b2, b3⟩
 refine ⟨rfl, row2, ?_, a2.more a3 b2, a3.two a2.size b3⟩
 rw [Nat.sub_zero, Nat.pow_zero, Nat.div_one] at b1
 have e1 : N * 2 ^ flen (fs ++ [(v, k)]) + fnum (fs ++ [(v, k)]) = (N * 2 ^ flen fs + fnum fs) * 2 ^ k + v % 2 ^ k := by
  rw [← num_snoc]
  show _ * 2 ^ (k + 0) + (v % 2 ^ k * 2 ^ 0 + 0) = _
  rw [Nat.add_zero, Nat.pow_zero, Nat.mul_one, Nat.add_zero]
 have e2 : len + flen (fs ++ [(v, k)]) = len + flen fs + k := by
  rw [flen_app]
  show len + (flen fs + (k + 0)) = _
  omega
 rw [e1, e2]
 exact b1
end Go.Proofs.YtmeilddngohccaaGreatDoor

/- Differences, and rows of times, are told: put, Encode. -/
namespace Go.Proofs.YtmeilddngohccaaGreatDoor
open Go.RowKit

theorem fields_one {d : Int} {h : Nat} (hh : h < 4) (he : hd d = h) : flen [(15, h), (0, 1), (un d, sz h)] = flen (fieldsD d) ∧ fnum [(15, h), (0, 1), (un d, sz h)] = fnum (fieldsD d) := by
 obtain ⟨e1, e2⟩ := headN_hd d
 have ek := kind_hd d
 unfold fieldsD
 rw [e1, e2, ek, he]
 have hh' : h = 0 ∨ h = 1 ∨ h = 2 ∨ h = 3 := by omega
 rcases hh' with rfl | rfl | rfl | rfl
 ·exact ⟨rfl, by show 15 % 2 ^ 0 * 2 ^ (1 + (0 + 0)) + (0 % 2 ^ 1 * 2 ^ (0 + 0) + (un d % 2 ^ 0 * 2 ^ 0 + 0)) = 0 % 2 ^ 1 * 2 ^ (0 + 0) + (un d % 2 ^ 0 * 2 ^ 0 + 0); omega⟩
 ·exact ⟨rfl, by show 15 % 2 ^ 1 * 2 ^ (1 + (7 + 0)) + (0 % 2 ^ 1 * 2 ^ (7 + 0) + (un d % 2 ^ 7 * 2 ^ 0 + 0)) = 2 % 2 ^ 2 * 2 ^ (7 + 0) + (un d % 2 ^ 7 * 2 ^ 0 + 0); omega⟩
 ·exact ⟨rfl, by show 15 % 2 ^ 2 * 2 ^ (1 + (9 + 0)) + (0 % 2 ^ 1 * 2 ^ (9 + 0) + (un d % 2 ^ 9 * 2 ^ 0 + 0)) = 6 % 2 ^ 3 * 2 ^ (9 + 0) + (un d % 2 ^ 9 * 2 ^ 0 + 0); omega⟩
 ·exact ⟨rfl, by show 15 % 2 ^ 3 * 2 ^ (1 + (12 + 0)) + (0 % 2 ^ 1 * 2 ^ (12 + 0) + (un d % 2 ^ 12 * 2 ^ 0 + 0)) = 14 % 2 ^ 4 * 2 ^ (12 + 0) + (un d % 2 ^ 12 * 2 ^ 0 + 0); omega⟩
theorem fields_two {d : Int} (he : hd d = 4) : flen [(15, 4), (un d, 64)] = flen (fieldsD d) ∧ fnum [(15, 4), (un d, 64)] = fnum (fieldsD d) := by
 obtain ⟨e1, e2⟩ := headN_hd d
 have ek := kind_hd d
 unfold fieldsD
 rw [e1, e2, ek, he]
 exact ⟨rfl, rfl⟩
theorem Wrote.wid {w0 w : World} {g N len : Nat} {row : Option Nat} {fs : List (Nat × Nat)} (h : Wrote w0 w g row N len fs) (hw : Wid w0) (hg : g ≠ 1) (hr : row ≠ some 1) : Wid w := by
 obtain ⟨row', a1, a2, a3⟩ := h
 exact hw.mod a2 (fun h => h.elim (fun e => hg e.symm) hr)
set_option maxHeartbeats 1000000 in
theorem dput_wrote (w0 : World) (g : Nat) (row : Option Nat) (N len : Nat) (fs : List (Nat × Nat)) (d : Int) (w : World) (hf : Fits d) (hw : Wrote w0 w g row N len fs) (hlen : len + flen fs ≤ 900000000) (hwid : Wid w0) (hg : g ≠ 1) (hr : row ≠ some 1) :
  Calls Tryz.prog 91 #[.pointer (some ⟨g, 0, none⟩), .int .i64 d] w fun e w' => e = .returned (.tuple #[]) ∧ Wrote w0 w' g row N len (fs ++ fieldsD d) := by
 have Hf := Lib.hid hf; have Hw := Lib.hid hw; have Hwid := Lib.hid hwid; have Hg := Lib.hid hg; have Hr := Lib.hid hr
 have hwu : IntKind.u64.wrap d = (un d : Int) := wrapU_un d
 have hul : Hid (Lt64 (un d)) := Lib.hid (un_lt d)
 clear hf hw hwid hg hr
 have hh := hd_le d
 obtain ⟨h, Hh⟩ : ∃ h, Hid (hd d = h) := ⟨_, Lib.hid rfl⟩
 have hh4 : h ≤ 4 := Hh.out ▸ hh
 clear hh
 go_enter Tryz.func91, Tryz.ntmps91
 go_wp2_with fail
 refine (shortest_any d _ Hf.out (Hw.out.wid Hwid.out Hg.out Hr.out)).mono ?_
 rintro e w1 ⟨rfl, rfl⟩
 rw [Hh.out]
 go_wp2_with fail
 refine (put_wrote w0 g row N len h fs 15 15 (h : Int) _ rfl rfl (by omega) (show (15 : Nat) < 18446744073709551616 by decide) Hw.out (by omega)).mono ?_
 rintro e w1 ⟨rfl, h1⟩
 have H1 := Lib.hid h1
 clear h1 Hw
 have hl1 : flen (fs ++ [(15, h)]) = flen fs + h := by rw [flen_app]; show flen fs + (h + 0) = _; omega
 have Hl1 := Lib.hid hl1
 clear hl1
 have hs64 := sz_le h
 by_cases hlt : h < 4
 ·go_wp2_with fail
  refine (put_wrote w0 g row N len 1 _ 0 0 1 _ rfl rfl (by omega) (show (0 : Nat) < 18446744073709551616 by decide) H1.out (by rw [Hl1.out]; omega)).mono ?_
  rintro e w2 ⟨rfl, h2⟩
  have hc := sz_at (h2.wid Hwid.out Hg.out Hr.out) hh4
  have H2 := Lib.hid h2
  clear h2 H1
  have hl2 : Hid (flen ((fs ++ [(15, h)]) ++ [(0, 1)]) = flen fs + h + 1) := Lib.hid (by rw [flen_app, Hl1.out]; rfl)
  have hf0 : (0 : Int) ≤ (h : Int) := by omega
  have hf5 : (h : Int) < 5 := by omega
  go_wp2_with fail
  refine (put_wrote w0 g row N len (sz h) _ (un d) _ _ _ rfl rfl (by omega) hul.out H2.out (by rw [hl2.out]; omega)).mono ?_
  rintro e w3 ⟨rfl, h3⟩
  have H3 := Lib.hid h3
  clear h3 H2 hc
  go_wp2_with fail
  go_end0
  refine ⟨rfl, ?_⟩
  obtain ⟨e1, e2⟩ := fields_one hlt Hh.out
  refine H3.out.len_eq ?_ ?_
  ·rw [List.append_assoc, List.append_assoc]; exact app_len e1
  ·rw [List.append_assoc, List.append_assoc]; exact app_num e1 e2
 ·obtain rfl : h = 4 := by omega
  have hc := sz_at (H1.out.wid Hwid.out Hg.out Hr.out) hh4
  have hc' : w1.cell? ⟨1, 4, none⟩ = some (.int .i64 64) := hc
  clear hc hlt
  go_wp2_with fail
  refine (put_wrote w0 g row N len 64 _ (un d) _ _ _ rfl rfl (by omega) hul.out H1.out (by rw [Hl1.out]; omega)).mono ?_
  rintro e w3 ⟨rfl, h3⟩
  have H3 := Lib.hid h3
  clear h3 H1 hc'
  go_wp2_with fail
  go_end0
  refine ⟨rfl, ?_⟩
  obtain ⟨e1, e2⟩ := fields_two Hh.out
  refine H3.out.len_eq ?_ ?_
  ·rw [List.append_assoc]; exact app_len e1
  ·rw [List.append_assoc]; exact app_num e1 e2

theorem un_ex (x : Int) : ∃ k : Int, (un x : Int) = x + k * (M64 : Int) := by
 refine ⟨-(x / (M64 : Int)), ?_⟩
 have h := Int.mul_ediv_add_emod x (M64 : Int)
 have h0 := Int.emod_nonneg x (show (M64 : Int) ≠ 0 by decide)
 unfold un
 rw [Int.toNat_of_nonneg h0, Int.neg_mul, Int.mul_comm]
 omega
theorem sg_ex (u : Nat) : ∃ k : Int, sg u = (u : Int) + k * (M64 : Int) := by
 unfold sg
 split
 ·exact ⟨0, by simp⟩
 ·exact ⟨-1, by rw [Int.neg_mul, Int.one_mul]; omega⟩
theorem un_of {x y : Int} {k : Int} (h : x = y + k * (M64 : Int)) : un x = un y := by
 unfold un
 rw [h, Int.add_mul_emod_self_right]
theorem change_eq (prev x : Int) (last : Nat) : wrap64 (wrap64 (x - prev) - sg last) = diffOf prev last x := by
 rw [wrap_sg]
 unfold diffOf stepOf
 congr 1
 obtain ⟨a, ha⟩ := un_ex (x - prev)
 obtain ⟨b, hb⟩ := sg_ex last
 obtain ⟨c, hc⟩ := sg_ex (un (x - prev))
 rw [wrap_sg, ← hc.symm] at *
 refine un_of (k := c - b) ?_
 rw [hc, hb, Int.sub_mul]
 omega
theorem step_eq (prev x : Int) (last : Nat) : wrap64 (sg last + diffOf prev last x) = sg (stepOf prev x) := by
 rw [wrap_sg]
 congr 1
 unfold diffOf stepOf
 obtain ⟨a, ha⟩ := un_ex (x - prev)
 obtain ⟨b, hb⟩ := sg_ex last
 obtain ⟨c, hc⟩ := un_ex ((un (x - prev) : Int) - (last : Int))
 obtain ⟨e, he⟩ := sg_ex (un ((un (x - prev) : Int) - (last : Int)))
 refine un_of (k := b + e + c + a) ?_
 rw [he, hc, hb, ha, Int.add_mul, Int.add_mul, Int.add_mul]
 omega
/-- What Encode has told of i times. -/
def Enc1 (w wr : World) (g : Nat) (row : Option Nat) (N len : Nat) (zs : List Int) (i : Nat) (prev : Int) (last : Nat) : Prop :=
 ∃ fs, Wrote w wr g row N len fs ∧ (i = 0 → fs = [] ∧ prev = 0 ∧ last = 0) ∧ (0 < i → fs ++ encT prev last (zs.drop i) = encRow zs)
set_option maxHeartbeats 1000000 in
theorem encode_any (B g : Nat) (row : Option Nat) (N len n c : Nat) (A : Option Addr) (zs : List Int) (w : World) (hs : SeesI .i64 w B A n zs) (hz : ∀ x ∈ zs, Fits x) (hB : B ≤ w.heap.size) (hap : 0 < n → ∀ ad, A = some ad → ¬ (ad.block = g ∨ row = some ad.block)) (hg0 : g ≠ 1) (hr0 : row ≠ some 1)
  (hw : Wr w g row N len) (hwid : Wid w) (hlen : len + (64 + 68 * n) ≤ 900000000) :
  Calls Tryz.prog 64 #[.pointer (some ⟨g, 0, none⟩), .slice A n c] w fun e w' => e = .returned (.tuple #[]) ∧ Wrote w w' g row N len (encRow zs) := by
 have hzl := hs.1
 have Hs := Lib.hid hs; have Hz := Lib.hid hz; have Hw := Lib.hid hw; have Hwid := Lib.hid hwid
 have Hg := Lib.hid hg0; have Hr := Lib.hid hr0; have HS := Lib.hid hap
 have H0 : Hid (Enc1 w w g row N len zs 0 0 0) := Lib.hid ⟨[], Wrote.refl hw, fun _ => ⟨rfl, rfl, rfl⟩, fun h => by omega⟩
 have Hzl := Lib.hid hzl
 have hsg0 : sg 0 = 0 := rfl
 have Hsg0 := Lib.hid hsg0
 have Htot : Hid (len + flen (encRow zs) ≤ 900000000) := Lib.hid (by have := encRow_len zs; rw [hzl] at this; omega)
 clear hs hz hw hwid hap hg0 hr0 hzl hsg0
 go_enter Tryz.func64, Tryz.ntmps64
 go_wp2_with fail
 go_loopg [4, 5, 11] n (fun l s4 s5 s11 wr => ∃ (i : Nat) (prev : Int) (last : Nat) (st : Int), i + l = n ∧ s11 = .int .i64 (i : Int) ∧ s4 = .int .i64 prev ∧ s5 = .int .i64 st ∧ st = sg last ∧ Enc1 w wr g row N len zs i prev last)
 case atStart => exact ⟨0, 0, 0, 0, by omega, rfl, rfl, rfl, rfl, H0.out⟩
 case round =>
  obtain ⟨i, prev, last, st, hil, rfl, rfl, rfl, hst, hE⟩ := hrel
  have HE := Lib.hid hE; have Hil := Lib.hid hil; have Hst := Lib.hid hst
  clear hE hil hst H0
  by_cases hin : i < n
  ·obtain ⟨fs, hwr, he0, he1⟩ := HE.out
   obtain ⟨ad, x, rfl, hx, hcx⟩ := Hs.out.at2 hin hB (by obtain ⟨_, _, a2, _⟩ := hwr; exact a2) (HS.out (by omega))
   have Hx := Lib.hid hx
   have hxf := Lib.hid (Hz.out x (List.mem_of_getElem? hx))
   have Hdr := Lib.hid (drop_at hx)
   have hxu : IntKind.u64.wrap x = (un x : Int) := wrapU_un x
   have hul : Hid (Lt64 (un x)) := Lib.hid (un_lt x)
   clear hx
   by_cases hi0 : i = 0
   ·obtain ⟨rfl, rfl, rfl⟩ := he0 hi0
    subst hi0
    have Hwr := Lib.hid hwr
    have hcx0 : wr.cell? ad = some (.int .i64 x) := by rw [← add_zero' ad]; exact hcx
    clear hwr he0 he1 HE
    go_wp2_with fail
    refine (put_wrote w g row N len 64 [] (un x) _ _ _ rfl rfl (by omega) hul.out Hwr.out (by show len + 0 ≤ _; omega)).mono ?_
    rintro e w1 ⟨rfl, h1⟩
    have hd0 := Hdr.out
    rw [List.drop_zero] at hd0
    have H1 : Hid (Enc1 w w1 g row N len zs 1 x 0) := Lib.hid ⟨[(un x, 64)], h1, fun h => by omega, fun _ => by rw [hd0]; rfl⟩
    have Hst0 : Hid (st = sg 0) := Hst
    clear h1 hd0 Hwr
    go_wp2_with fail
    go_roundg (gk - 1)
    case measure => have := Hil.out; omega
    case rel => exact ⟨1, x, 0, st, by have := Hil.out; omega, rfl, rfl, rfl, Hst.out, H1.out⟩
   ·have hb0 : ((i : Int) == 0) = false := by simp; omega
    have hE1 := he1 (by omega)
    have Hwr := Lib.hid hwr
    have hch : wrap64 (wrap64 (x - prev) - st) = diffOf prev last x := by rw [Hst.out]; exact change_eq _ _ _
    have hsp : wrap64 (st + diffOf prev last x) = sg (stepOf prev x) := by rw [Hst.out]; exact step_eq _ _ _
    have HE1 := Lib.hid hE1
    have hdf := Lib.hid (next_of (prev := prev) (last := last) hxf.out).1
    obtain ⟨ch, hchv⟩ : ∃ ch, ch = diffOf prev last x := ⟨_, rfl⟩
    obtain ⟨st', hstv⟩ : ∃ st', st' = sg (stepOf prev x) := ⟨_, rfl⟩
    rw [← hchv] at hch hsp hdf
    rw [← hstv] at hsp
    have Hchv := Lib.hid hchv; have Hstv := Lib.hid hstv
    clear hwr he0 he1 HE hE1 hchv hstv
    have hl : Hid (len + flen fs ≤ 900000000) := Lib.hid (by have := Htot.out; rw [← HE1.out] at this; have := flen_le_app fs (encT prev last (zs.drop i)); omega)
    go_wp2_with fail
    refine (dput_wrote w g row N len fs ch _ hdf.out Hwr.out hl.out Hwid.out Hg.out Hr.out).mono ?_
    rintro e w1 ⟨rfl, h1⟩
    rw [Hchv.out] at h1
    have H1 : Hid (Enc1 w w1 g row N len zs (i + 1) x (stepOf prev x)) := Lib.hid ⟨_, h1, fun h => by omega, fun _ => by
     rw [← HE1.out, Hdr.out, List.append_assoc]; rfl⟩
    clear h1 Hwr
    go_wp2_with fail
    go_roundg (gk - 1)
    case measure => have := Hil.out; omega
    case rel => exact ⟨i + 1, x, stepOf prev x, st', by have := Hil.out; omega, by go_num, rfl, by rw [hsp], Hstv.out, H1.out⟩
  ·go_wp2_with fail
   go_end0
   refine ⟨rfl, ?_⟩
   obtain ⟨fs, hwr, he0, he1⟩ := HE.out
   have hil := Hil.out
   have hzl := Hzl.out
   rcases Nat.eq_zero_or_pos i with h0 | h0
   ·obtain ⟨rfl, _, _⟩ := he0 h0
    have : zs = [] := List.eq_nil_of_length_eq_zero (by omega)
    subst this
    exact hwr
   ·have := he1 h0
    rw [List.drop_of_length_le (by omega)] at this
    have e : fs = encRow zs := by rw [← this]; show fs = fs ++ []; simp
    rw [← e]
    exact hwr
end Go.Proofs.YtmeilddngohccaaGreatDoor

/- Rows of times are read: Decode. -/
namespace Go.Proofs.YtmeilddngohccaaGreatDoor
open Go.RowKit

theorem elt64 : Elt Tryz.prog 61 2 (.int .i64 0) 8 := Elt.mk Tryz.underlying61 (by kernel_rfl) rfl
def cellsI (xs : List Int) : List Value := xs.map fun x => Value.int .i64 x
theorem cellsI_length (xs : List Int) : (cellsI xs).length = xs.length := by simp [cellsI]
theorem cellsI_snoc (xs : List Int) (x : Int) : cellsI (xs ++ [x]) = cellsI xs ++ [.int .i64 x] := by simp [cellsI]
theorem cellsI_get (xs : List Int) (i : Nat) : (cellsI xs)[i]? = xs[i]?.map fun x => Value.int .i64 x := by simp [cellsI]
theorem own_form {B : Nat} {w : World} {v : Value} {xs : List Int} (h : Own B w 2 v (cellsI xs)) : ∃ A c, v = .slice A xs.length c ∧ Rds w w.heap.size A xs.length (cellsI xs) := by
 obtain ⟨A, c, e, _, _, _, hr⟩ := h.form
 rw [cellsI_length] at e hr
 exact ⟨A, c, e, hr⟩
theorem rdRow_first {k R rem : Nat} (hk : 0 < k) : (getO 64 (some (R, rem))).2 = none → rdRow k R rem = none := by
 intro h
 obtain ⟨k, rfl⟩ : ∃ j, k = j + 1 := ⟨k - 1, by omega⟩
 rw [getO_take] at h
 show (match takeB 64 R rem with | none => none | some (u, R1, rem1) => (rdTimes k (sg u) 0 R1 rem1).map fun (p : List Int × Nat × Nat) => (sg u :: p.1, p.2)) = none
 cases ht : takeB 64 R rem with
 | none => rfl
 | some q => rw [ht] at h; cases h
theorem rdRow_first2 {k R rem R' rem' : Nat} (hk : 0 < k) (h : (getO 64 (some (R, rem))).2 = some (R', rem')) : rdRow k R rem = (rdTimes (k - 1) (sg (getO 64 (some (R, rem))).1) 0 R' rem').map fun p => (sg (getO 64 (some (R, rem))).1 :: p.1, p.2) := by
 obtain ⟨k, rfl⟩ : ∃ j, k = j + 1 := ⟨k - 1, by omega⟩
 rw [getO_take] at h ⊢
 show (match takeB 64 R rem with | none => none | some (u, R1, rem1) => (rdTimes k (sg u) 0 R1 rem1).map fun (p : List Int × Nat × Nat) => (sg u :: p.1, p.2)) = _
 cases ht : takeB 64 R rem with
 | none => rw [ht] at h; cases h
 | some q =>
  obtain ⟨u, R1, rem1⟩ := q
  rw [ht] at h
  have h2 : some (R1, rem1) = some (R', rem') := h
  injection h2 with h2
  injection h2 with h3 h4
  subst h3 h4
  rfl
/-- One difference more: read, or not. -/
theorem rdTimes_more {j R rem : Nat} {prev : Int} {last : Nat} : (∀ d R1 rem1, rdDiff R rem = some (d, R1, rem1) → rdTimes (j + 1) prev last R rem = (rdTimes j (nextX prev (nextL last d)) (nextL last d) R1 rem1).map fun p => (nextX prev (nextL last d) :: p.1, p.2)) ∧
  (rdDiff R rem = none → rdTimes (j + 1) prev last R rem = none) := by
 have e : rdTimes (j + 1) prev last R rem = match rdDiff R rem with | none => none | some (d, R1, rem1) => (rdTimes j (nextX prev (nextL last d)) (nextL last d) R1 rem1).map fun (p : List Int × Nat × Nat) => (nextX prev (nextL last d) :: p.1, p.2) := rfl
 refine ⟨fun d R1 rem1 h => ?_, fun h => ?_⟩
 ·rw [e, h]
 ·rw [e, h]
theorem nextL_lt (last : Nat) (d : Int) : nextL last d < M64 := Nat.mod_lt _ (by decide)
end Go.Proofs.YtmeilddngohccaaGreatDoor

/- A row of samples as its times and its values: parted; and joined again. -/
namespace Go.Proofs.YtmeilddngohccaaGreatDoor
open Go.RowKit

theorem Own.at_set {B g n cap k : Nat} {w : World} {e : TypeId} {xs : List Value} (h : Own B w e (.slice (some ⟨g, 0, none⟩) n cap) xs) (hn : n = xs.length) (hk : k < n) (u : Value) :
  (∃ u, w.cell? ⟨g, k, none⟩ = some u) ∧ w.frozen? ⟨g, k, none⟩ = false ∧ Own B (w.setCell ⟨g, k, none⟩ u) e (.slice (some ⟨g, 0, none⟩) n cap) (xs.set k u) := by
 have h' : w.ownsRow B e 1 (.slice (some ⟨g, 0, none⟩) n cap) n xs := by have := h; unfold Own at this; rwa [← hn] at this
 refine ⟨⟨xs[k]'(by omega), ?_⟩, h'.frozenAt k, ?_⟩
 ·rw [h'.cellAt k (by omega), List.getElem?_eq_getElem (by omega)]
 ·have h2 := (h'.stored k u).1
  unfold Own
  rw [List.length_set, ← hn]
  exact h2
theorem Own.other {B g n cap : Nat} {w : World} {e : TypeId} {xs : List Value} (h : Own B w e (.slice (some ⟨g, 0, none⟩) n cap) xs) {p : Addr} (hp : p.block ≠ g) (u : Value) : Own B (w.setCell p u) e (.slice (some ⟨g, 0, none⟩) n cap) xs :=
 ((Mod.refl (fun i => i = p.block) w).setCell (fun _ => rfl) u).owns h (fun k hk e' => by
  have : g = k := by simpa [Value.ownBlock] using hk
  exact hp (by rw [← e', this]))
theorem Rds.seesI {w : World} {B n : Nat} {A : Option Addr} {zs : List Int} (h : Rds w B A n (cellsI zs)) : SeesI .i64 w B A n zs := by
 have h1 := h.1
 rw [cellsI_length] at h1
 refine ⟨h1, fun hn => ?_⟩
 obtain ⟨ad, e, hb, hc⟩ := h.2 hn
 exact ⟨ad, e, hb, fun j u hu => hc j _ (by rw [cellsI_get, hu]; rfl)⟩
theorem SeesI.rds {w : World} {B n : Nat} {A : Option Addr} {zs : List Int} (h : SeesI .i64 w B A n zs) : Rds w B A n (cellsI zs) := by
 refine ⟨by rw [cellsI_length]; exact h.1, fun hn => ?_⟩
 obtain ⟨ad, e, hb, hc⟩ := h.2 hn
 refine ⟨ad, e, hb, fun j u hu => ?_⟩
 rw [cellsI_get] at hu
 cases hz : zs[j]? with
 | none => rw [hz] at hu; cases hu
 | some z =>
  rw [hz] at hu
  have : u = .int .i64 z := by simpa using hu.symm
  rw [this]
  exact hc j z hz
/-- The first i times and values are laid. -/
def PartTo (w wr : World) (l : List (Int × Nat)) (n g1 g2 i : Nat) : Prop :=
 ∃ (ts : List Int) (us : List Nat), Own w.heap.size wr 2 (.slice (some ⟨g1, 0, none⟩) n n) (cellsI ts) ∧ Own w.heap.size wr 26 (.slice (some ⟨g2, 0, none⟩) n n) (cellsU us) ∧
  ts.length = n ∧ us.length = n ∧ (∀ j, j < i → ts[j]? = (tsOf l)[j]?) ∧ (∀ j, j < i → us[j]? = (vsOf l)[j]?) ∧ Mod (fun _ => False) w wr
theorem mod_new {w wr : World} {p : Addr} (h : Mod (fun _ => False) w wr) (hp : w.heap.size ≤ p.block) (u : Value) : Mod (fun _ => False) w (wr.setCell p u) := h.setCell (fun hlt => by omega) u
theorem PartTo.step {w wr : World} {l : List (Int × Nat)} {n g1 g2 i : Nat} {T : Int} {V : Nat} (h : PartTo w wr l n g1 g2 i) (hg : g1 ≠ g2) (hi : i < n) (hp : l[i]? = some (T, V)) {W : World} (hW : ∃ o, W = wr.alloc o) :
  (∃ u, W.cell? ⟨g1, i, none⟩ = some u) ∧ (∃ u, W.cell? ⟨g2, i, none⟩ = some u) ∧ W.frozen? ⟨g1, i, none⟩ = false ∧ W.frozen? ⟨g2, i, none⟩ = false ∧ g1 < wr.heap.size ∧ g2 < wr.heap.size ∧
   PartTo w ((W.setCell ⟨g1, i, none⟩ (.int .i64 T)).setCell ⟨g2, i, none⟩ (.int .u64 (V : Int))) l n g1 g2 (i + 1) := by
 obtain ⟨ts, us, h1, h2, h3, h4, h5, h6, hm⟩ := h
 obtain ⟨o, rfl⟩ := hW
 have k1 := h1.alloc o
 have k2 := h2.alloc o
 have b1 := (h1.block g1 (by simp [Value.ownBlock]))
 have b2 := (h2.block g2 (by simp [Value.ownBlock]))
 obtain ⟨a1, a2, a3⟩ := k1.at_set (k := i) (by rw [cellsI_length, h3]) hi (.int .i64 T)
 obtain ⟨c1, c2, _⟩ := k2.at_set (k := i) (by rw [cellsU_length, h4]) hi (.int .u64 (V : Int))
 refine ⟨a1, c1, a2, c2, b1.2, b2.2, ⟨ts.set i T, us.set i V, ?_, ?_, by rw [List.length_set]; exact h3, by rw [List.length_set]; exact h4, ?_, ?_, ?_⟩⟩
 ·have e : cellsI (ts.set i T) = (cellsI ts).set i (.int .i64 T) := by simp [cellsI, List.map_set]
  rw [e]
  have a4 : Own w.heap.size ((wr.alloc o).setCell ⟨g1, i, none⟩ (.int .i64 T)) 2 (.slice (some ⟨g1, 0, none⟩) n n) ((cellsI ts).set i (.int .i64 T)) := a3
  exact a4.other (p := ⟨g2, i, none⟩) (fun e => hg e.symm) _
 ·have e : cellsU (us.set i V) = (cellsU us).set i (.int .u64 (V : Int)) := by simp [cellsU, List.map_set]
  rw [e]
  have k3 : Own w.heap.size ((wr.alloc o).setCell ⟨g1, i, none⟩ (.int .i64 T)) 26 (.slice (some ⟨g2, 0, none⟩) n n) (cellsU us) := k2.other (p := ⟨g1, i, none⟩) hg _
  exact (k3.at_set (k := i) (by rw [cellsU_length, h4]) hi (.int .u64 (V : Int))).2.2
 ·intro j hj
  rcases Nat.lt_or_ge j i with h | h
  ·rw [List.getElem?_set_ne (by omega)]
   exact h5 j h
  ·obtain rfl : j = i := by omega
   rw [List.getElem?_set_self (by omega), ts_get hp]
 ·intro j hj
  rcases Nat.lt_or_ge j i with h | h
  ·rw [List.getElem?_set_ne (by omega)]
   exact h6 j h
  ·obtain rfl : j = i := by omega
   rw [List.getElem?_set_self (by omega), vs_get hp]
 ·exact mod_new (mod_new (hm.alloc o) b1.1 _) b2.1 _
theorem PartTo.drew {w wr : World} {l : List (Int × Nat)} {n g1 g2 i : Nat} (h : PartTo w wr l n g1 g2 i) : PartTo w wr.drew l n g1 g2 i := by
 obtain ⟨ts, us, h1, h2, h3, h4, h5, h6, hm⟩ := h
 exact ⟨ts, us, h1, h2, h3, h4, h5, h6, hm.drew⟩
theorem PartTo.done {w wr : World} {l : List (Int × Nat)} {n g1 g2 : Nat} (h : PartTo w wr l n g1 g2 n) (hl : l.length = n) :
  Rds wr wr.heap.size (some ⟨g1, 0, none⟩) n (cellsI (tsOf l)) ∧ Rds wr wr.heap.size (some ⟨g2, 0, none⟩) n (cellsU (vsOf l)) ∧ w.heap.size ≤ g1 ∧ w.heap.size ≤ g2 ∧ Mod (fun _ => False) w wr := by
 obtain ⟨ts, us, h1, h2, h3, h4, h5, h6, hm⟩ := h
 have e1 : ts = tsOf l := List.ext_getElem? fun j => by
  rcases Nat.lt_or_ge j n with h | h
  ·exact h5 j h
  ·rw [List.getElem?_eq_none (by omega), List.getElem?_eq_none (by rw [tsOf_len]; omega)]
 have e2 : us = vsOf l := List.ext_getElem? fun j => by
  rcases Nat.lt_or_ge j n with h | h
  ·exact h6 j h
  ·rw [List.getElem?_eq_none (by omega), List.getElem?_eq_none (by rw [vsOf_len]; omega)]
 subst e1 e2
 have b1 := (h1.block g1 (by simp [Value.ownBlock]))
 have b2 := (h2.block g2 (by simp [Value.ownBlock]))
 have r1 := h1.form
 have r2 := h2.form
 obtain ⟨A, c, e, _, _, _, r⟩ := r1
 obtain ⟨A', c', e', _, _, _, r'⟩ := r2
 injection e with x1 x2 x3
 injection e' with y1 y2 y3
 subst x1 y1
 rw [← x2] at r
 rw [← y2] at r'
 exact ⟨r, r', b1.1, b2.1, hm⟩
set_option maxHeartbeats 2000000 in
set_option maxRecDepth 100000 in
theorem parted_any (A : Option Addr) (n c : Nat) (l : List (Int × Nat)) (w : World) (hs : RdsS w w.heap.size A n l) (hn : n ≤ 1000000) :
  Calls Tryz.prog 35 #[.slice A n c] w fun e w' => ∃ g1 g2, e = .returned (.tuple #[.slice (some ⟨g1, 0, none⟩) n n, .slice (some ⟨g2, 0, none⟩) n n]) ∧
   Rds w' w'.heap.size (some ⟨g1, 0, none⟩) n (cellsI (tsOf l)) ∧ Rds w' w'.heap.size (some ⟨g2, 0, none⟩) n (cellsU (vsOf l)) ∧ w.heap.size ≤ g1 ∧ w.heap.size ≤ g2 ∧ Mod (fun _ => False) w w' := by
 have Hs := Lib.hid hs; have Hl := Lib.hid hs.1
 have hcs : Tryz.prog.cellsOf 28 = 2 := by kernel_rfl
 have hm1 : n ≤ maxLen := by unfold maxLen; omega
 have hb1 : 8 * n ≤ 281474976710656 := by omega
 clear hs
 go_enter Tryz.func35, Tryz.ntmps35
 go_wp2_with (first
  | (refine wpList_mk rfl _ _ _ rfl elt64 rfl rfl rfl rfl rfl (Nat.le_refl _) hb1 hm1 ?_; intro w1 HO1 HB1)
  | (refine wpList_mk rfl _ _ _ rfl eltU rfl rfl rfl rfl rfl (Nat.le_refl _) hb1 hm1 ?_; intro w2 HO2 HB2))
 have hlt01 := HB1.out.size
 have hlt12 := HB2.out.size
 obtain ⟨g1, hg1⟩ : ∃ g1, g1 = w.heap.size := ⟨_, rfl⟩
 obtain ⟨g2, hg2⟩ : ∃ g2, g2 = w1.heap.size := ⟨_, rfl⟩
 have hne : g1 ≠ g2 := by
  have := (HO1.out.block w.heap.size (by simp [Value.ownBlock])).2
  omega
 have H0 : Hid (PartTo w w2 l n g1 g2 0) := Lib.hid ⟨List.replicate n 0, List.replicate n 0, by
   have := HO1.out.below HB2.out
   rw [hg1]
   simpa [cellsI] using this, by
   have := HO2.out.mono hlt01
   rw [hg2]
   simpa [cellsU] using this, List.length_replicate .., List.length_replicate .., (fun j h => by omega), (fun j h => by omega), (mod_below HB1.out).trans (mod_below HB2.out) (fun _ _ h => h)⟩
 rw [← hg1, ← hg2]
 have Hg1 := Lib.hid hg1; have Hg2 := Lib.hid hg2
 clear HO1 HB1 HO2 HB2 hlt01 hlt12 hg1 hg2 hm1 hb1
 go_loopg [16] n (fun k s16 wr => ∃ i : Nat, i + k = n ∧ s16 = .int .i64 (i : Int) ∧ PartTo w wr l n g1 g2 i)
 case atStart => exact ⟨0, by omega, rfl, H0.out⟩
 case round =>
  obtain ⟨i, hik, rfl, hP⟩ := hrel
  have Hik := Lib.hid hik; have HP := Lib.hid hP
  clear hik hP H0
  by_cases hin : i < n
  ·have hm : Mod (fun _ => False) w wr := by obtain ⟨_, _, _, _, _, _, _, _, hm⟩ := HP.out; exact hm
   obtain ⟨ad, ⟨T, V⟩, rfl, _, hp, hc0, hc1⟩ := Hs.out.at2 hin (Nat.le_refl _) hm (fun _ _ h => h)
   have hc1' := cell_whole hc1
   obtain ⟨W, hW⟩ : ∃ W, W = wr.alloc (.cells #[.int .i64 T, .int .u64 (V : Int)] 28) := ⟨_, rfl⟩
   obtain ⟨⟨u1, hu1⟩, ⟨u2, hu2⟩, hf1, hf2, hl1, hl2, hN⟩ := HP.out.step hne hin hp ⟨_, hW⟩
   obtain ⟨gs, hgs⟩ : ∃ gs, gs = wr.heap.size := ⟨_, rfl⟩
   have hs0 : W.cell? ⟨gs, 0, none⟩ = some (.int .i64 T) := by rw [hW, hgs]; exact (Blk.new wr _ _).cell 0
   have hs1 : W.cell? ⟨gs, 1, none⟩ = some (.int .u64 (V : Int)) := by rw [hW, hgs]; exact (Blk.new wr _ _).cell 1
   have hn1 : ¬ g1 = gs := by omega
   have hn2 : ¬ g2 = gs := by omega
   have HN := Lib.hid hN; have HW := Lib.hid hW; have Hp := Lib.hid hp; have Hm := Lib.hid hm; have Hgs := Lib.hid hgs
   clear hN hW hp hm hl1 hl2 hgs
   go_upto_region 6 with fail
   rw [← HW.out, ← Hgs.out]
   clear hc0 hc1 hc1'
   go_region
   go_wp2_with fail
   go_roundg (gk - 1)
   case measure => have := Hik.out; omega
   case rel => exact ⟨i + 1, by have := Hik.out; omega, by go_num, HN.out.drew⟩
  ·have hi : i = n := by have := Hik.out; omega
   have hP := HP.out
   rw [hi] at hP
   obtain ⟨h1, h2, h3, h4, hm⟩ := hP.done Hl.out
   have X := Lib.hid (And.intro h1 (And.intro h2 (And.intro h3 (And.intro h4 hm))))
   clear h1 h2 h3 h4 hm hi hP
   go_wp2_with fail
   go_ret2
   exact ⟨g1, g2, rfl, X.out⟩
/-- The first i samples are laid. -/
def JoinTo (w wr : World) (ts : List Int) (us : List Nat) (n g i : Nat) : Prop :=
 ∃ l : List (Int × Nat), OwnS w.heap.size wr (.slice (some ⟨g, 0, none⟩) n n) l ∧ l.length = n ∧ (∀ j, j < i → l[j]? = (ts.zip us)[j]?) ∧ Mod (fun _ => False) w wr
theorem JoinTo.step {w wr : World} {ts : List Int} {us : List Nat} {n g i : Nat} {T : Int} {V : Nat} (h : JoinTo w wr ts us n g i) (hi : i < n) (h1 : ts[i]? = some T) (h2 : us[i]? = some V) :
  (∃ u, wr.cell? ⟨g, i * 2, none⟩ = some u) ∧ (∃ u, wr.cell? ⟨g, i * 2 + 1, none⟩ = some u) ∧ wr.frozen? ⟨g, i * 2, none⟩ = false ∧ wr.frozen? ⟨g, i * 2 + 1, none⟩ = false ∧ w.heap.size ≤ g ∧ g < wr.heap.size ∧
   JoinTo w ((wr.setCell ⟨g, i * 2, none⟩ (.int .i64 T)).setCell ⟨g, i * 2 + 1, none⟩ (.int .u64 (V : Int))) ts us n g (i + 1) := by
 obtain ⟨l, k1, k2, k3, hm⟩ := h
 have b1 := k1.block g (by simp [Value.ownBlock])
 obtain ⟨a1, a2, a3, a4, a5⟩ := k1.set_ (k := i) k2.symm hi (T, V)
 refine ⟨a1, a2, a3, a4, b1.1, b1.2, l.set i (T, V), a5, by rw [List.length_set]; exact k2, ?_, mod_new (mod_new hm b1.1 _) b1.1 _⟩
 intro j hj
 rcases Nat.lt_or_ge j i with h | h
 ·rw [List.getElem?_set_ne (by omega)]
  exact k3 j h
 ·obtain rfl : j = i := by omega
  rw [List.getElem?_set_self (by omega), (List.getElem?_zip_eq_some (z := (T, V))).2 ⟨h1, h2⟩]
theorem JoinTo.drew {w wr : World} {ts : List Int} {us : List Nat} {n g i : Nat} (h : JoinTo w wr ts us n g i) : JoinTo w wr.drew ts us n g i := by
 obtain ⟨l, h1, h2, h3, hm⟩ := h
 exact ⟨l, h1, h2, h3, hm.drew⟩
theorem JoinTo.done {w wr : World} {ts : List Int} {us : List Nat} {n g : Nat} (h : JoinTo w wr ts us n g n) (h1 : ts.length = n) (h2 : us.length = n) :
  OwnS w.heap.size wr (.slice (some ⟨g, 0, none⟩) n n) (ts.zip us) ∧ Mod (fun _ => False) w wr := by
 obtain ⟨l, k1, k2, k3, hm⟩ := h
 have e1 : l = ts.zip us := List.ext_getElem? fun j => by
  rcases Nat.lt_or_ge j n with h | h
  ·exact k3 j h
  ·rw [List.getElem?_eq_none (by omega), List.getElem?_eq_none (by rw [List.length_zip]; omega)]
 subst e1
 exact ⟨k1, hm⟩
end Go.Proofs.YtmeilddngohccaaGreatDoor

/- Chunks, of the code: getHead. -/
namespace Go.Proofs.YtmeilddngohccaaGreatDoor
open Go.RowKit

/-- What getHead answers. -/
def HeadEnd (w w' : World) (bs : List Nat) (n : Nat) (e : Ending) : Prop :=
 match hdC bs with
 | some (h, k) => ∃ (A : Option Addr) (L c : Nat), L + k = n ∧ L ≤ c ∧ c ≤ maxLen ∧ e = .returned (.tuple #[.agg #[.int .i64 (h.1 : Int), .int .i64 (h.2.1 : Int), .int .i64 h.2.2.1, .int .i64 h.2.2.2], .slice A L c, .bool true]) ∧ Rds w' w.heap.size A L (cells8 (bs.drop k)) ∧ Mod (fun _ => False) w w'
 | none => e = .returned (.tuple #[.agg #[.int .i64 0, .int .i64 0, .int .i64 0, .int .i64 0], .slice none 0 0, .bool false]) ∧ Mod (fun _ => False) w w'
theorem HeadEnd.of_none {w w' : World} {bs : List Nat} {n : Nat} (h : hdC bs = none) (hm : Mod (fun _ => False) w w') : HeadEnd w w' bs n (.returned (.tuple #[.agg #[.int .i64 0, .int .i64 0, .int .i64 0, .int .i64 0], .slice none 0 0, .bool false])) := by
 unfold HeadEnd
 rw [h]
 exact ⟨rfl, hm⟩
end Go.Proofs.YtmeilddngohccaaGreatDoor

/- Rows of numbers of so many bits each: what a writer of its own has been told of them; what Bytes makes of it (parted from Encode of layer 8). -/
namespace Go.Proofs.YtmeilddngohccaaGreatDoor
open Go.RowKit

/-- A row that another call has made, as bytes that read. -/
theorem NewRow.rds {w w1 : World} {v : Value} {n : Nat} {bs : List Nat} (h : NewRow w w1 v n (cells8 bs)) : ∃ A c, v = .slice A n c ∧ Rds w1 w1.heap.size A n (cells8 bs) ∧ Mod (fun _ => False) w w1 := by
 obtain ⟨hown, hm, _⟩ := h
 have hn : bs.length = n := by have := hown.1; rw [cells8_length] at this; omega
 have ho : Own 0 w1 5 v (cells8 bs) := by unfold Own; rw [cells8_length, hn]; exact hown
 obtain ⟨A, c, e, _, _, hr⟩ := own_form8 ho
 rw [hn] at e hr
 exact ⟨A, c, e, hr, hm⟩
/-- What a writer of its own has been told of i numbers of S bits. -/
def FldTo (w0 w1 wr : World) (g S : Nat) (l : List Nat) (i : Nat) : Prop := Wrote w1 wr g none 0 0 (flds S (l.take i)) ∧ Mod (fun _ => False) w0 wr
theorem FldTo.step {w0 w1 wr w2 : World} {g S i x : Nat} {l : List Nat} (hx : l[i]? = some x) (_h : FldTo w0 w1 wr g S l i) (hg : w0.heap.size ≤ g) (hm : Mod (fun _ => False) w0 w1) (h2 : Wrote w1 w2 g none 0 0 (flds S (l.take i) ++ [(x, S)])) : FldTo w0 w1 w2 g S l (i + 1) := by
 refine ⟨?_, ?_⟩
 ·rw [take_succ_of hx, flds_app]
  exact h2
 ·obtain ⟨row', _, a2, _⟩ := h2
  exact hm.trans a2 (fun i hi h => h.elim (fun e => by omega) (fun e => by cases e))
theorem FldTo.wr {w0 w1 wr : World} {g S i n : Nat} {l : List Nat} (h : FldTo w0 w1 wr g S l i) (hn : l.length = n) (hi : i = n) : ∃ row, Wr wr g row (fnum (flds S l)) (flen (flds S l)) := by
 obtain ⟨⟨row', a1, _, _⟩, _⟩ := h
 rw [List.take_of_length_le (by omega), Nat.zero_mul, Nat.zero_add, Nat.zero_add] at a1
 exact ⟨row', a1⟩
theorem Packed.packW {bs : List Nat} {S : Nat} {l : List Nat} (h : Packed bs (fnum (flds S l)) (flen (flds S l))) : bs = packW S l := by
 obtain ⟨hlt, free, hf, hl, hv⟩ := h
 exact packW_one hlt hf hl hv
theorem flds_small {S n i : Nat} {l : List Nat} (hS : S ≤ 64) (hn : l.length ≤ n) (hn2 : n ≤ 1000000) : flen (flds S (l.take i)) ≤ 64000000 := by
 rw [flds_len]
 have h1 : (l.take i).length ≤ 1000000 := by rw [List.length_take]; omega
 have := Nat.mul_le_mul hS h1
 omega
end Go.Proofs.YtmeilddngohccaaGreatDoor

/- The times of a row, as bytes behind how many these are: putTimes. -/
namespace Go.Proofs.YtmeilddngohccaaGreatDoor
open Go.RowKit

theorem Packed.packF {bs : List Nat} {fs : List (Nat × Nat)} (h : Packed bs (fnum fs) (flen fs)) : bs = packF fs := by
 obtain ⟨hlt, free, hf, hl, hv⟩ := h
 exact packB_one (fnum_lt fs) hlt hf hl hv
/-- A writer of the call's own, at the end. -/
theorem Wrote.done {w w1 w2 : World} {g : Nat} {fs : List (Nat × Nat)} (h : Wrote w1 w2 g none 0 0 fs) (hg : w.heap.size ≤ g) (hm : Mod (fun _ => False) w w1) : ∃ row, Wr w2 g row (fnum fs) (flen fs) ∧ Mod (fun _ => False) w w2 := by
 obtain ⟨row, a1, a2, _⟩ := h
 rw [Nat.zero_mul, Nat.zero_add, Nat.zero_add] at a1
 exact ⟨row, a1, hm.trans a2 (fun i hi h => h.elim (fun e => by omega) (fun e => by cases e))⟩
theorem lt64_of {n : Nat} (h : n ≤ 1000000000) : Lt64 n := by unfold Lt64; omega
set_option maxHeartbeats 1000000 in
set_option maxRecDepth 100000 in
theorem ptimes_any (A : Option Addr) (n c : Nat) (ts : List Int) (w : World) (hs : Rds w w.heap.size A n (cellsI ts)) (hf : ∀ x ∈ ts, Fits x) (hn : n ≤ 1000000) (hwid : Wid w) :
  Calls Tryz.prog 37 #[.slice A n c] w fun e w' => ∃ v, e = .returned v ∧ Own w.heap.size w' 5 v (cells8 (enc (packF (encRow ts)).length ++ packF (encRow ts))) ∧ Mod (fun _ => False) w w' := by
 have hl := hs.1
 rw [cellsI_length] at hl
 have Hs := Lib.hid hs; have Hf := Lib.hid hf; have Hl := Lib.hid hl; have Hwid := Lib.hid hwid
 clear hs hf hl hwid
 go_enter Tryz.func37, Tryz.ntmps37
 go_wp2_with fail
 refine (newWriter_wr w).mono ?_
 rintro e w1 ⟨g, rfl, hg1, hg2, hwr, hm1⟩
 have Hs1 := Lib.hid (Hs.out.mod hm1 (Nat.le_refl _) (fun _ _ h => h)).seesI
 have Hap : Hid (0 < n → ∀ ad, A = some ad → ¬ (ad.block = g ∨ none = some ad.block)) := Lib.hid (fun h0 ad hA h => by
  obtain ⟨ad', hA', hb, _⟩ := Hs.out.2 h0
  rw [hA] at hA'
  injection hA' with hA'
  subst hA'
  rcases h with h | h
  ·omega
  ·cases h)
 have Hwid1 := Lib.hid (Hwid.out.mod hm1 (fun h => h))
 have hg0 : g ≠ 1 := by have := Hwid.out.1; omega
 have Hg := Lib.hid hg1; have Hm1 := Lib.hid hm1; have Hwr := Lib.hid hwr; have Hg0 := Lib.hid hg0
 clear hg1 hg2 hwr hm1 hg0
 go_wp2_with fail
 refine (encode_any w.heap.size g none 0 0 n c A ts w1 Hs1.out Hf.out Hm1.out.size Hap.out Hg0.out (by intro h; cases h) Hwr.out Hwid1.out (by omega)).mono ?_
 rintro e w2 ⟨rfl, h2⟩
 obtain ⟨row, hwr2, hm2⟩ := h2.done Hg.out Hm1.out
 have hfl := encRow_len ts
 rw [Hl.out] at hfl
 have Hwr2 := Lib.hid hwr2; have Hm2 := Lib.hid hm2; have Hfl := Lib.hid hfl
 clear h2 hwr2 hm2 hfl Hs1 Hwid1 Hwr
 go_wp2_with fail
 refine (bytes_any g row _ _ w2 Hwr2.out (by have := Hfl.out; omega)).mono ?_
 rintro e w3 ⟨v3, bs, rfl, hnew, hpk⟩
 obtain ⟨A3, c3, rfl, hr3, hm3⟩ := hnew.rds
 obtain rfl := hpk.packF
 have hpl := packF_len (encRow ts)
 obtain ⟨bs, hbs⟩ : ∃ bs, bs = packF (encRow ts) := ⟨_, rfl⟩
 rw [← hbs] at hr3 hpl
 rw [← hbs]
 obtain ⟨L, hL⟩ : ∃ L, bs.length = L := ⟨_, rfl⟩
 have hLs : L ≤ 10000000 := by have := Hfl.out; omega
 have hcv : IntKind.u64.wrap (L : Int) = (L : Int) := by rw [IntKind.wrap_u64]; omega
 rw [hL] at hr3
 rw [hL]
 have Hr3 := Lib.hid hr3; have Hm3 := Lib.hid (Hm2.out.trans hm3 (fun _ _ h => h)); have HL := Lib.hid hL; have Hbs := Lib.hid hbs
 clear hnew hpk hr3 hm3 hpl hL hbs Hwr2 Hm2
 go_wp2_with fail
 refine (vput_any none 0 0 0 [] L w3 (Rds.nil _ _ _) (by omega) (lt64_of (by omega))).mono ?_
 rintro e w4 ⟨v4, rfl, ho4, hb4⟩
 rw [List.nil_append] at ho4
 have hq := enc_len10 (u := L) (by omega)
 have hR : Room (cells8 (enc L)).length L := Room.mk _ _ (by rw [cells8_length]; omega)
 have HR := Lib.hid hR; have Ho4 := Lib.hid ho4; have Hr4 := Lib.hid (Hr3.out.below hb4); have Hm4 := Lib.hid (Hm3.out.trans (mod_below hb4) (fun _ _ h => h))
 have Hone : Hid (∀ u ∈ cells8 bs, u.oneCell' = true) := Lib.hid (cells8_one _)
 have hsz : w3.heap.size ≤ w4.heap.size := hb4.size
 clear ho4 hb4 hq hR hcv
 go_wp2_with (at_builtin; refine wpList_app rfl (.tmp 14) (.tmp 15) _ rfl elt8 rfl Ho4.out rfl Hr4.out Hone.out HR.out.1 HR.out.2 hsz ?_; intro v5 w5 HO5 HBl5 HG5; clear HG5)
 go_ret
 have ho5 := HO5.out
 rw [cells8_app] at ho5
 rw [← Hbs.out, HL.out]
 exact ⟨_, rfl, ho5.mono Hm3.out.size, Hm4.out.trans (Mod.of_below HBl5.out) (fun i hi h => by have := Hm3.out.size; omega)⟩
end Go.Proofs.YtmeilddngohccaaGreatDoor

/- How many 0s a number has ahead and behind, as math/bits tells it; the window's own calls. -/
namespace Go.Proofs.YtmeilddngohccaaGreatDoor
open Go.RowKit

/-- The lowest 1 of a number. -/
theorem low_one {x b z : Nat} (hx : x = 2 ^ (b + 1) * z + 2 ^ b) (h : x < 2 ^ 64) : x &&& (2 ^ 64 - x) = 2 ^ b := by
 have h0 : 0 < x := by have := Nat.two_pow_pos b; omega
 have e1 : 2 ^ 64 - x = 2 ^ 64 - ((x - 1) + 1) := by omega
 have hlt : 2 ^ b < 2 ^ (b + 1) := Nat.pow_lt_pow_right (by decide) (by omega)
 have e2 : x - 1 = 2 ^ (b + 1) * z + (2 ^ b - 1) := by have := Nat.two_pow_pos b; omega
 have hb : b < 64 := by
  have : 2 ^ b < 2 ^ 64 := by omega
  exact (Nat.pow_lt_pow_iff_right (by omega)).1 this
 apply Nat.eq_of_testBit_eq
 intro i
 rw [Nat.testBit_and, e1, Nat.testBit_two_pow_sub_succ (by omega), e2, Nat.testBit_two_pow]
 rw [Nat.testBit_two_pow_mul_add z (by omega), show x.testBit i = (2 ^ (b + 1) * z + 2 ^ b).testBit i by rw [hx], Nat.testBit_two_pow_mul_add z hlt]
 by_cases hi : i < b + 1
 ·rw [if_pos hi, if_pos hi, Nat.testBit_two_pow, Nat.testBit_two_pow_sub_one]
  by_cases hib : b = i
  ·subst hib; simp; omega
  ·simp [hib]
 ·rw [if_neg hi, if_neg hi]
  have : ¬ b = i := by omega
  simp only [this, decide_false]
  cases z.testBit (i - (b + 1)) <;> simp
theorem behind_form {x : Nat} (h0 : 0 < x) (hx : x < 2 ^ 64) : behindN x ≤ 63 ∧ ∃ z, x = 2 ^ (behindN x + 1) * z + 2 ^ behindN x := by
 obtain ⟨h1, h2⟩ := behind_spec h0 hx
 refine ⟨by have := sum_le h0 hx; omega, x / 2 ^ behindN x / 2, ?_⟩
 have e := Nat.div_mul_cancel h1
 have e2 : x / 2 ^ behindN x = 2 * (x / 2 ^ behindN x / 2) + 1 := by omega
 generalize x / 2 ^ behindN x / 2 = z at *
 rw [e2] at e
 generalize behindN x = b at *
 rw [← e, Nat.pow_succ, Nat.add_mul, Nat.one_mul, Nat.mul_comm (2 * z), ← Nat.mul_assoc]
/-- The table of math/bits. -/
def deb (t : Nat) : Nat := ([0, 1, 56, 2, 57, 49, 28, 3, 61, 58, 42, 50, 38, 29, 17, 4, 62, 47, 59, 36, 45, 43, 51, 22, 53, 39, 33, 30, 24, 18, 12, 5, 63, 55, 48, 27, 60, 41, 37, 16, 46, 35, 44, 21, 52, 32, 23, 11, 54, 26, 40, 15, 34, 20, 31, 10, 25, 14, 19, 9, 13, 8, 7, 6] : List Nat).getD t 0
def spot (b : Nat) : Nat := 2 ^ b * 285870213051353865 % 18446744073709551616 / 288230376151711744
theorem spot_lt (b : Nat) : spot b < 64 := by
 unfold spot
 have := Nat.mod_lt (2 ^ b * 285870213051353865) (show 18446744073709551616 > 0 by decide)
 rw [Nat.div_lt_iff_lt_mul (by decide)]
 exact Nat.lt_of_lt_of_le this (by decide)
theorem deb_all : ∀ b : Fin 64, deb (spot b.val) = b.val := by decide +kernel
theorem deb_spot {b : Nat} (h : b ≤ 63) : deb (spot b) = b := deb_all ⟨b, by omega⟩
def Deb (w : World) : Prop := 2 < w.heap.size ∧ ∀ t, t < 64 → w.cell? ⟨2, t, none⟩ = some (.int .u8 (deb t : Int))
theorem Deb.mod {w w' : World} {S : Nat → Prop} (h : Deb w) (hm : Mod S w w') (hS : ¬ S 2) : Deb w' :=
 ⟨Nat.lt_of_lt_of_le h.1 hm.size, fun t ht => (hm.cell (a := ⟨2, t, none⟩) h.1 hS).trans (h.2 t ht)⟩

theorem ahead_len {x : Nat} (hx : x < 2 ^ 64) : min (64 - Lib.bitLen x) 31 = aheadN x ∧ Lib.bitLen x ≤ 64 := by
 obtain ⟨h1, h2, h3⟩ := ahead_spec hx
 have hl := Lib.bitLen_le x (64 - aheadN x) (by omega) h2
 refine ⟨?_, by omega⟩
 rcases Nat.lt_or_ge (aheadN x) 31 with h | h
 ·have h4 := h3 h
  have h5 := Lib.bitLen_shift (63 - aheadN x) x h4 hx
  have h6 : x / 2 ^ (63 - aheadN x) = 1 := by
   have : x < 2 ^ (63 - aheadN x) * 2 := by rw [← Nat.pow_succ, show (63 - aheadN x).succ = 64 - aheadN x by omega]; exact h2
   have hp := Nat.two_pow_pos (63 - aheadN x)
   have a1 : 1 ≤ x / 2 ^ (63 - aheadN x) := (Nat.le_div_iff_mul_le hp).2 (by omega)
   have a2 : x / 2 ^ (63 - aheadN x) < 2 := (Nat.div_lt_iff_lt_mul hp).2 (by omega)
   omega
  rw [h6] at h5
  have h7 : Lib.bitLen 1 = 1 := by decide +kernel
  omega
 ·omega
theorem lead_any (x : Nat) (w : World) (hx : Lt64 x) : Calls Tryz.prog 106 #[.int .u64 (x : Int)] w fun e w' => e = .returned (.int .i64 (64 - (Lib.bitLen x : Int))) ∧ w = w' := by
 have hl : Lib.bitLen x ≤ 64 := (ahead_len hx.out).2
 obtain ⟨L, hL⟩ : ∃ L, L = Lib.bitLen x := ⟨_, rfl⟩
 have HL := Lib.hid hL
 rw [← hL] at hl ⊢
 clear hL
 go_enter Tryz.func106, Tryz.ntmps106
 go_wp2_with fail
 refine (len64_any x _ hx).mono ?_
 rintro e w' ⟨rfl, rfl⟩
 rw [← HL.out]
 go_wp2_with fail
 go_ret
 exact ⟨rfl, rfl⟩
set_option maxHeartbeats 1000000 in
theorem trail_any (x : Nat) (w : World) (h0 : 0 < x) (hx : Lt64 x) (hd : Deb w) : Calls Tryz.prog 107 #[.int .u64 (x : Int)] w fun e w' => e = .returned (.int .i64 (behindN x : Int)) ∧ w = w' := by
 obtain ⟨hb, z, hz⟩ := behind_form h0 hx.out
 have hlow := low_one hz hx.out
 obtain ⟨b, hbe⟩ : ∃ b, b = behindN x := ⟨_, rfl⟩
 rw [← hbe] at hb hlow ⊢
 have hx0 : ((x : Int) == 0) = false := by simp; omega
 obtain ⟨nx, hnx⟩ : ∃ nx : Nat, nx = 2 ^ 64 - x := ⟨_, rfl⟩
 have hneg : IntKind.u64.wrap (-(x : Int)) = (nx : Int) := by rw [IntKind.wrap_u64, hnx]; have := hx.out; omega
 obtain ⟨p, hp⟩ : ∃ p : Nat, p = 2 ^ b := ⟨_, rfl⟩
 have hand : bits .and .u64 (x : Int) (nx : Int) = (p : Int) := by
  rw [u64_and_nat x nx hx.out (by rw [hnx]; omega), hnx, hlow, hp]
 obtain ⟨q, hq⟩ : ∃ q : Nat, q = 2 ^ b * 285870213051353865 % 18446744073709551616 := ⟨_, rfl⟩
 have hmul : IntKind.u64.wrap ((p : Int) * 285870213051353865) = (q : Int) := by rw [IntKind.wrap_u64, hq, hp]; omega
 obtain ⟨t, ht⟩ : ∃ t : Nat, t = spot b := ⟨_, rfl⟩
 have hdiv : (q : Int) / 288230376151711744 = (t : Int) := by
  have e : t = q / 288230376151711744 := by rw [ht, hq]; rfl
  rw [e]; omega
 have ht64 : t < 64 := by rw [ht]; exact spot_lt b
 have hcell := hd.2 t ht64
 have hdt : deb t = b := by rw [ht]; exact deb_spot hb
 rw [hdt] at hcell
 have ht0 : (0 : Int) ≤ (t : Int) := by omega
 have ht1 : (t : Int) < 64 := by omega
 have Hx := Lib.hid hx; have Hd := Lib.hid hd
 clear hlow hbe hnx hp hq ht hdt hz hx hd
 go_enter Tryz.func107, Tryz.ntmps107
 go_wp2
 go_ret
 exact ⟨rfl, rfl⟩

/-- A window, as the code has it. -/
def winV : Option (Nat × Nat) → Value
 | none => .agg #[.int .i64 0, .int .i64 0]
 | some (a, b) => .agg #[.int .i64 (a : Int), .int .i64 ((64 - a - b : Nat) : Int)]
def winA : Option (Nat × Nat) → Nat
 | none => 0
 | some (a, _) => a
def winS : Option (Nat × Nat) → Nat
 | none => 0
 | some (a, b) => 64 - a - b
theorem winV_eq (win : Option (Nat × Nat)) : winV win = .agg #[.int .i64 (winA win : Int), .int .i64 (winS win : Int)] := by
 cases win with
 | none => rfl
 | some p => rfl
theorem win_bounds {win : Option (Nat × Nat)} (h : WinOk win) : winA win ≤ 31 ∧ winS win ≤ 64 ∧ winA win + winS win ≤ 64 := by
 cases win with
 | none => exact ⟨Nat.zero_le _, Nat.zero_le _, Nat.zero_le _⟩
 | some p =>
  obtain ⟨a, b⟩ := p
  obtain ⟨h1, h2⟩ := h
  refine ⟨h1, ?_, ?_⟩
  ·show 64 - a - b ≤ 64; omega
  ·show a + (64 - a - b) ≤ 64; omega
theorem win_inj {u v : Option (Nat × Nat)} (hu : WinOk u) (hv : WinOk v) (h1 : winA u = winA v) (h2 : winS u = winS v) : u = v := by
 cases u with
 | none =>
  cases v with
  | none => rfl
  | some p =>
   obtain ⟨a, b⟩ := p
   obtain ⟨w1, w2⟩ := hv
   have h3 : 0 = 64 - a - b := h2
   omega
 | some p =>
  obtain ⟨a, b⟩ := p
  obtain ⟨w1, w2⟩ := hu
  cases v with
  | none =>
   have h3 : 64 - a - b = 0 := h2
   omega
  | some q =>
   obtain ⟨a', b'⟩ := q
   obtain ⟨w3, w4⟩ := hv
   have h3 : 64 - a - b = 64 - a' - b' := h2
   have h4 : a = a' := h1
   have h5 : b = b' := by omega
   rw [h4, h5]
set_option maxHeartbeats 1000000 in
theorem behind_any (a s : Nat) (w : World) (ha : a ≤ 64) (hs : s ≤ 64) : Calls Tryz.prog 101 #[.agg #[.int .i64 (a : Int), .int .i64 (s : Int)]] w fun e w' => e = .returned (.int .i64 (64 - (a : Int) - (s : Int))) ∧ Mod (fun _ => False) w w' := by
 go_enter Tryz.func101, Tryz.ntmps101
 go_wp2
 go_ret
 exact ⟨rfl, (Mod.refl _ _).alloc _⟩
set_option maxHeartbeats 1000000 in
theorem next_any (win : Option (Nat × Nat)) (x : Nat) (w : World) (hw : WinOk win) (h0 : x ≠ 0) (hx : Lt64 x) (hd : Deb w) : Calls Tryz.prog 100 #[.agg #[.int .i64 (winA win : Int), .int .i64 (winS win : Int)], .int .u64 (x : Int)] w fun e w' => e = .returned (winV (winX win x)) ∧ Mod (fun _ => False) w w' := by
 have Hw := Lib.hid hw; have Hx := Lib.hid hx; have Hd := Lib.hid hd
 obtain ⟨hb1, hb2, hb3⟩ := win_bounds hw
 obtain ⟨hla, hll⟩ := ahead_len hx.out
 obtain ⟨hbb, _⟩ := behind_form (by omega) hx.out
 have hal := (ahead_spec hx.out).1
 obtain ⟨A, hA⟩ : ∃ A, A = winA win := ⟨_, rfl⟩
 obtain ⟨S, hS⟩ : ∃ S, S = winS win := ⟨_, rfl⟩
 obtain ⟨L, hL⟩ : ∃ L, L = Lib.bitLen x := ⟨_, rfl⟩
 obtain ⟨ah, hah⟩ : ∃ ah, ah = aheadN x := ⟨_, rfl⟩
 obtain ⟨be, hbe⟩ : ∃ be, be = behindN x := ⟨_, rfl⟩
 have hmn := minI_is (P := Tryz.prog) (t := 3) (ty := 3) (show min (64 - (L : Int)) 31 = (ah : Int) by rw [← hL] at hla; omega)
 have HA := Lib.hid hA; have HS := Lib.hid hS; have HL := Lib.hid hL; have Hah := Lib.hid hah; have Hbe := Lib.hid hbe
 rw [← hA] at hb1 hb3
 rw [← hS] at hb2 hb3
 rw [← hah] at hal
 rw [← hbe] at hbb
 rw [← hA, ← hS]
 obtain ⟨W, hW⟩ : ∃ W, W = (w.alloc (.cells #[.int .i64 (A : Int), .int .i64 (S : Int)] 116)).alloc (.cells #[.int .i64 0, .int .i64 0] 116) := ⟨_, rfl⟩
 have HW := Lib.hid hW
 have hmW : Mod (fun _ => False) w W := by rw [hW]; exact ((Mod.refl _ _).alloc _).alloc _
 have hbo : Blk W w.heap.size 116 #[.int .i64 (A : Int), .int .i64 (S : Int)] := by rw [hW]; exact (Blk.new _ _ _).alloc _
 have hbr : Blk W (w.heap.size + 1) 116 #[.int .i64 0, .int .i64 0] := by
  have h := Blk.new (w.alloc (.cells #[.int .i64 (A : Int), .int .i64 (S : Int)] 116)) 116 #[.int .i64 0, .int .i64 0]
  rw [hW]
  simpa using h
 have HmW := Lib.hid hmW; have Hbo := Lib.hid hbo; have Hbr := Lib.hid hbr
 clear hw hx hd hA hS hL hah hbe hla hll hW hmW hbo hbr
 go_enter Tryz.func100, Tryz.ntmps100
 go_wp2_with fail
 refine (lead_any x _ Hx.out).mono ?_
 rintro e w1 ⟨rfl, rfl⟩
 rw [← HL.out]
 go_wp2_with fail
 rw [← HW.out]
 refine (trail_any x _ (by omega) Hx.out (Hd.out.mod HmW.out (fun h => h))).mono ?_
 rintro e w1 ⟨rfl, rfl⟩
 rw [← Hbe.out]
 clear hmn
 have hc0 := Hbo.out.cell 0
 have hc1 := Hbo.out.cell 1
 have hf0 := Hbr.out.frozen 0
 have hf1 := Hbr.out.frozen 1
 have hd0 := Hbr.out.cell 0
 have hd1 := Hbr.out.cell 1
 simp at hc0 hc1 hd0 hd1
 have hfit : fitsX win x = true ↔ (win ≠ none ∧ A ≤ ah ∧ 64 - A - S ≤ be) := by
  rw [HA.out, HS.out, Hah.out, Hbe.out]
  cases win with
  | none => exact ⟨fun h => (by cases h), fun h => absurd rfl h.1⟩
  | some p =>
   obtain ⟨a, b⟩ := p
   obtain ⟨w1, w2⟩ := Hw.out
   show decide _ = true ↔ _
   rw [decide_eq_true_iff]
   show (a ≤ aheadN x ∧ b ≤ behindN x) ↔ (_ ∧ a ≤ aheadN x ∧ 64 - a - (64 - a - b) ≤ behindN x)
   rw [show 64 - a - (64 - a - b) = b by omega]
   exact ⟨fun h => ⟨fun h => (by cases h), h⟩, fun h => h.2⟩
 have hnone : win = none → 64 - A - S = 64 := by
  intro h
  have h1 := HA.out; have h2 := HS.out
  rw [h] at h1 h2
  have h3 : A = 0 := h1
  have h4 : S = 0 := h2
  omega
 have hwin : (A ≤ ah ∧ 64 - A - S ≤ be → winX win x = win) ∧ (¬ (A ≤ ah ∧ 64 - A - S ≤ be) → winX win x = some (ah, be)) := by
  unfold winX
  rw [if_neg h0]
  refine ⟨fun h => ?_, fun h => ?_⟩
  ·rw [if_pos (hfit.2 ⟨fun e => by have := hnone e; omega, h.1, h.2⟩)]
  ·rw [if_neg (fun hf => h (hfit.1 hf).2), Hah.out, Hbe.out]
 have Hwin := Lib.hid hwin
 have hsum := sum_le (by omega) Hx.out
 rw [← Hah.out, ← Hbe.out] at hsum
 clear hfit hnone hwin
 by_cases h1 : A ≤ ah
 ·have h1' : (A : Int) ≤ (ah : Int) := by omega
  go_wp2_with fail
  refine (behind_any A S _ (by omega) (by omega)).mono ?_
  rintro e w2 ⟨rfl, hm2⟩
  have hbo2 := hm2.blk Hbo.out (fun h => h)
  have hbr2 := hm2.blk Hbr.out (fun h => h)
  have hm02 := HmW.out.trans hm2 (fun _ _ h => h)
  have Hm2 := Lib.hid hm02; have Hbr2 := Lib.hid hbr2
  clear hc0 hc1 hd0 hd1 hf0 hf1 hm2 hm02
  have hc0 := hbo2.cell 0
  have hc1 := hbo2.cell 1
  have hf0 := hbr2.frozen 0
  have hf1 := hbr2.frozen 1
  have hd0 := hbr2.cell 0
  have hd1 := hbr2.cell 1
  simp at hc0 hc1 hd0 hd1
  clear hbo2 hbr2
  by_cases h2 : 64 - A - S ≤ be
  ·have h2' : 64 - (A : Int) - (S : Int) ≤ (be : Int) := by omega
   go_wp2_with fail
   refine bodyPost_ret (v := .agg #[.int .i64 (A : Int), .int .i64 (S : Int)]) (by have h := Hbr2.out.two (.int .i64 (A : Int)) (.int .i64 (S : Int)); simp [results, Tryz.results100, go_sem, h.1, h.2.1]) rfl ⟨?_, ?_⟩
   ·rw [Hwin.out.1 ⟨h1, h2⟩, winV_eq, ← HA.out, ← HS.out]
   ·exact (Hm2.out.setCell (fun h => absurd h (by simp)) _).setCell (fun h => absurd h (by simp)) _
  ·have h2' : ¬ 64 - (A : Int) - (S : Int) ≤ (be : Int) := by omega
   go_wp2_with fail
   refine bodyPost_ret (v := .agg #[.int .i64 (ah : Int), .int .i64 (64 - (ah : Int) - (be : Int))]) (by have h := Hbr2.out.two (.int .i64 (ah : Int)) (.int .i64 (64 - (ah : Int) - (be : Int))); simp [results, Tryz.results100, go_sem, h.1, h.2.1]) rfl ⟨?_, ?_⟩
   ·rw [Hwin.out.2 (fun h => h2 h.2)]
    show _ = Ending.returned (.agg #[.int .i64 (ah : Int), .int .i64 ((64 - ah - be : Nat) : Int)])
    rw [show ((64 - ah - be : Nat) : Int) = 64 - (ah : Int) - (be : Int) by omega]
   ·exact (Hm2.out.setCell (fun h => absurd h (by simp)) _).setCell (fun h => absurd h (by simp)) _
 ·have h1' : ¬ (A : Int) ≤ (ah : Int) := by omega
  go_wp2_with fail
  refine bodyPost_ret (v := .agg #[.int .i64 (ah : Int), .int .i64 (64 - (ah : Int) - (be : Int))]) (by have h := Hbr.out.two (.int .i64 (ah : Int)) (.int .i64 (64 - (ah : Int) - (be : Int))); simp [results, Tryz.results100, go_sem, h.1, h.2.1]) rfl ⟨?_, ?_⟩
  ·rw [Hwin.out.2 (fun h => h1 h.1)]
   show _ = Ending.returned (.agg #[.int .i64 (ah : Int), .int .i64 ((64 - ah - be : Nat) : Int)])
   rw [show ((64 - ah - be : Nat) : Int) = 64 - (ah : Int) - (be : Int) by omega]
  ·exact (HmW.out.setCell (fun h => absurd h (by simp)) _).setCell (fun h => absurd h (by simp)) _
end Go.Proofs.YtmeilddngohccaaGreatDoor

/- A turn, and rows of values, are told: put, Encode. -/
namespace Go.Proofs.YtmeilddngohccaaGreatDoor
open Go.RowKit

theorem Wr.row_ne {w : World} {g b N len : Nat} {row : Option Nat} {t : TypeId} {cs : Array Value} (h : Wr w g row N len) (hb : Blk w b t cs) (ht : 5 ≠ t) : row ≠ some b := by
 obtain ⟨free, _, v, bs, hblk, hown, hrow, _⟩ := h
 rw [← hrow]
 exact own_blk_ne hown hb ht
/-- What stood in blocks that hold no bytes stands there still. -/
def Kept (g : Nat) (w w' : World) : Prop := ∀ (b : Nat) (t : TypeId) (cs : Array Value), Blk w b t cs → 5 ≠ t → b ≠ g → Blk w' b t cs
/-- Put adds one field, and leaves what holds no bytes. -/
theorem put_kept (w0 : World) (g : Nat) (row : Option Nat) (N len k : Nat) (fs : List (Nat × Nat)) (v : Nat) (V n : Int) (w : World) (hV : V = (v : Int)) (hn : n = (k : Int)) (hk : k ≤ 64) (hv : Lt64 v) (hw : Wrote w0 w g row N len fs) (hlen : len + flen fs ≤ 1000000000) :
  Calls Tryz.prog 80 #[.pointer (some ⟨g, 0, none⟩), .int .u64 V, .int .i64 n] w fun e w' => e = .returned (.tuple #[]) ∧ Wrote w0 w' g row N len (fs ++ [(v, k)]) ∧ Kept g w w' := by
 subst hV hn
 obtain ⟨row', a1, a2, a3⟩ := hw
 have hv' := hv.out
 refine (put_wr g row' _ _ k (v : Int) (k : Int) w ⟨by omega, by omega⟩ ⟨by omega, by omega⟩ (by omega) a1 hlen).mono ?_
 rintro e w' ⟨rfl, row2, b1, b2, b3⟩
 refine ⟨rfl, ⟨row2, ?_, a2.more a3 b2, a3.two a2.size b3⟩, fun b t cs hb ht hbg => b2.blk hb (fun h => h.elim hbg (a1.row_ne hb ht))⟩
 rw [Int.toNat_natCast] at b1
 have e1 : N * 2 ^ flen (fs ++ [(v, k)]) + fnum (fs ++ [(v, k)]) = (N * 2 ^ flen fs + fnum fs) * 2 ^ k + v % 2 ^ k := by
  rw [← num_snoc]
  show _ * 2 ^ (k + 0) + (v % 2 ^ k * 2 ^ 0 + 0) = _
  rw [Nat.add_zero, Nat.pow_zero, Nat.mul_one, Nat.add_zero]
 have e2 : len + flen (fs ++ [(v, k)]) = len + flen fs + k := by
  rw [flen_app]
  show len + (flen fs + (k + 0)) = _
  omega
 rw [e1, e2]
 exact b1
/-- What makes memory alone. -/
theorem Wrote.new {w0 w w' : World} {g N len : Nat} {row : Option Nat} {fs : List (Nat × Nat)} (h : Wrote w0 w g row N len fs) (hm : Mod (fun _ => False) w w') : Wrote w0 w' g row N len fs := by
 obtain ⟨row', a1, a2, a3⟩ := h
 exact ⟨row', a1.mod hm (fun h => h) (fun _ _ h => h), a2.trans hm (fun _ _ h => h.elim), a3⟩
/-- A cell of a block of its own is turned. -/
theorem Wrote.cell {w0 w w' : World} {g b N len : Nat} {row : Option Nat} {fs : List (Nat × Nat)} {t : TypeId} {cs : Array Value} (h : Wrote w0 w g row N len fs) (hm : Mod (fun i => i = b) w w') (hb : Blk w b t cs) (ht : 5 ≠ t) (hbg : b ≠ g) (h0 : w0.heap.size ≤ b) : Wrote w0 w' g row N len fs := by
 obtain ⟨row', a1, a2, a3⟩ := h
 refine ⟨row', a1.mod hm (fun e => hbg e.symm) (fun k hk e => a1.row_ne hb ht (e ▸ hk)), a2.trans hm (fun i hi e => ?_), a3⟩
 omega
theorem Wrote.deb {w0 w : World} {g N len : Nat} {row : Option Nat} {fs : List (Nat × Nat)} (h : Wrote w0 w g row N len fs) (hw : Deb w0) (hg : g ≠ 2) (hr : row ≠ some 2) : Deb w := by
 obtain ⟨row', a1, a2, a3⟩ := h
 exact hw.mod a2 (fun h => h.elim (fun e => hg e.symm) hr)
theorem Wrote.lt {w0 w : World} {g N len : Nat} {row : Option Nat} {fs : List (Nat × Nat)} (h : Wrote w0 w g row N len fs) : g < w.heap.size ∧ w0.heap.size ≤ w.heap.size := by
 obtain ⟨row', a1, a2, a3⟩ := h
 exact ⟨a1.lt, a2.size⟩
theorem behind_at (a s b : Nat) (w : World) (h : a + s + b = 64) : Calls Tryz.prog 101 #[.agg #[.int .i64 (a : Int), .int .i64 (s : Int)]] w fun e w' => e = .returned (.int .i64 (b : Int)) ∧ Mod (fun _ => False) w w' := by
 refine (behind_any a s w (by omega) (by omega)).mono ?_
 rintro e w' ⟨rfl, hm⟩
 exact ⟨ret_int (by omega), hm⟩
theorem winX_some {win : Option (Nat × Nat)} {x : Nat} (hw : WinOk win) (h0 : x ≠ 0) (hx : x < 2 ^ 64) : ∃ a b, winX win x = some (a, b) ∧ a ≤ 31 ∧ a + b ≤ 63 ∧ ((win = some (a, b) ∧ fieldsX win x = [(1, 1), (0, 1), (x / 2 ^ b, 64 - a - b)]) ∨ ((winA win ≠ a ∨ winS win ≠ 64 - a - b) ∧ fieldsX win x = [(1, 1), (1, 1), (a, 5), (63 - a - b, 6), (x / 2 ^ b, 64 - a - b)])) := by
 have hok := winX_ok hw hx
 by_cases hf : fitsX win x = true
 ·cases win with
  | none => cases hf
  | some p =>
   obtain ⟨a, b⟩ := p
   refine ⟨a, b, by unfold winX; rw [if_neg h0, if_pos hf], hw.1, hw.2, .inl ⟨rfl, ?_⟩⟩
   unfold fieldsX
   rw [if_neg h0, if_pos hf]
   rfl
 ·have e : winX win x = some (aheadN x, behindN x) := by unfold winX; rw [if_neg h0, if_neg hf]
  rw [e] at hok
  refine ⟨_, _, e, hok.1, hok.2, .inr ⟨?_, ?_⟩⟩
  ·rcases Nat.decEq (winA win) (aheadN x) with h | h
   ·exact .inl h
   ·rcases Nat.decEq (winS win) (64 - aheadN x - behindN x) with h2 | h2
    ·exact .inr h2
    ·exfalso
     have := win_inj hw hok h h2
     rw [this] at hf
     exact hf (decide_eq_true ⟨Nat.le_refl _, Nat.le_refl _⟩)
  ·unfold fieldsX
   rw [if_neg h0, if_neg hf]
   rfl
set_option maxHeartbeats 4000000 in
set_option maxRecDepth 100000 in
theorem xput_wrote (w0 : World) (g : Nat) (row : Option Nat) (N len : Nat) (fs : List (Nat × Nat)) (x : Nat) (win : Option (Nat × Nat)) (w : World) (hwin : WinOk win) (hx : Lt64 x) (hw : Wrote w0 w g row N len fs) (hlen : len + flen fs ≤ 900000000) (hdeb : Deb w0) (hg : g ≠ 2) (hr : row ≠ some 2) :
  Calls Tryz.prog 81 #[.pointer (some ⟨g, 0, none⟩), .int .u64 (x : Int), .agg #[.int .i64 (winA win : Int), .int .i64 (winS win : Int)]] w fun e w' => e = .returned (winV (winX win x)) ∧ Wrote w0 w' g row N len (fs ++ fieldsX win x) ∧ Kept g w w' := by
 have Hwin := Lib.hid hwin; have Hx := Lib.hid hx; have Hw := Lib.hid hw; have Hdeb := Lib.hid hdeb; have Hg := Lib.hid hg; have Hr := Lib.hid hr
 obtain ⟨A, hA⟩ : ∃ A, A = winA win := ⟨_, rfl⟩
 obtain ⟨S, hS⟩ : ∃ S, S = winS win := ⟨_, rfl⟩
 obtain ⟨hb1, hb2, hb3⟩ := win_bounds hwin
 rw [← hA] at hb1 hb3
 rw [← hS] at hb2 hb3
 rw [← hA, ← hS]
 obtain ⟨W, hW⟩ : ∃ W, W = (w.alloc (.cells #[.int .i64 (A : Int), .int .i64 (S : Int)] 116)).alloc (.cells #[.int .i64 0, .int .i64 0] 116) := ⟨_, rfl⟩
 have hmW : Mod (fun _ => False) w W := by rw [hW]; exact ((Mod.refl _ _).alloc _).alloc _
 have hbo : Blk W w.heap.size 116 #[.int .i64 (A : Int), .int .i64 (S : Int)] := by rw [hW]; exact (Blk.new _ _ _).alloc _
 have hbr : Blk W (w.heap.size + 1) 116 #[.int .i64 0, .int .i64 0] := by
  have h := Blk.new (w.alloc (.cells #[.int .i64 (A : Int), .int .i64 (S : Int)] 116)) 116 #[.int .i64 0, .int .i64 0]
  rw [hW]
  simpa using h
 have hgl := hw.lt
 have HW := Lib.hid hW; have HmW := Lib.hid hmW; have Hbo := Lib.hid hbo; have Hbr := Lib.hid hbr; have HwW := Lib.hid (hw.new hmW); have HA := Lib.hid hA; have HS := Lib.hid hS
 have Hgl : Hid (w.heap.size ≠ g ∧ w.heap.size + 1 ≠ g ∧ w0.heap.size ≤ w.heap.size) := Lib.hid ⟨by omega, by omega, by omega⟩
 clear hwin hx hw hdeb hg hr hW hmW hbo hbr hgl Hw hA hS
 by_cases hx0 : x = 0
 ·subst hx0
  go_enter Tryz.func81, Tryz.ntmps81
  go_wp2_with fail
  rw [← HW.out]
  refine (put_kept w0 g row N len 1 fs 0 0 1 _ rfl rfl (by omega) (show (0 : Nat) < 18446744073709551616 by decide) HwW.out (by omega)).mono ?_
  rintro e w1 ⟨rfl, h1, hk1⟩
  have hbo1 := hk1 _ _ _ Hbo.out (by decide) Hgl.out.1
  have hbr1 := hk1 _ _ _ Hbr.out (by decide) Hgl.out.2.1
  have hc0 := hbo1.cell 0
  have hc1 := hbo1.cell 1
  have hf0 := hbr1.frozen 0
  have hf1 := hbr1.frozen 1
  have hd0 := hbr1.cell 0
  have hd1 := hbr1.cell 1
  simp at hc0 hc1 hd0 hd1
  have H1 := Lib.hid h1; have Hbr1 := Lib.hid hbr1; have Hk1 := Lib.hid hk1
  clear h1 hbo1 hbr1 hk1
  go_wp2_with fail
  refine bodyPost_ret (v := .agg #[.int .i64 (A : Int), .int .i64 (S : Int)]) (by have h := Hbr1.out.two (.int .i64 (A : Int)) (.int .i64 (S : Int)); simp [results, Tryz.results81, go_sem, h.1, h.2.1]) rfl ⟨?_, ?_, ?_⟩
  ·rw [winV_eq, HA.out, HS.out]; rfl
  ·exact H1.out.cell (b := w.heap.size + 1) (((Mod.refl (fun i => i = w.heap.size + 1) _).setCell (p := ⟨w.heap.size + 1, 0, none⟩) (fun _ => rfl) _).setCell (p := ⟨w.heap.size + 1, 1, none⟩) (fun _ => rfl) _) Hbr1.out (by decide) Hgl.out.2.1 (by have := Hgl.out.2.2; omega)
  ·intro b t cs hb ht hbg
   have hbl := hb.lt
   have h2 := Hk1.out b t cs (HmW.out.blk hb (fun h => h)) ht hbg
   exact (h2.far (p := ⟨w.heap.size + 1, 0, none⟩) (by simp; omega) _).far (p := ⟨w.heap.size + 1, 1, none⟩) (by simp; omega) _
 ·have hx0b : ((x : Int) == 0) = false := by simp; omega
  obtain ⟨a, b, hwx, ha, hab, hcase⟩ := winX_some Hwin.out hx0 Hx.out
  obtain ⟨s, hs⟩ : ∃ s, s = 64 - a - b := ⟨_, rfl⟩
  have hasb : a + s + b = 64 := by omega
  have hnv : winV (winX win x) = .agg #[.int .i64 (a : Int), .int .i64 (s : Int)] := by rw [hwx, hs]; rfl
  have Hwx := Lib.hid hwx; have Hs := Lib.hid hs; have Hcase := Lib.hid hcase; have Hnv := Lib.hid hnv
  clear hwx hs hcase hnv
  go_enter Tryz.func81, Tryz.ntmps81
  go_wp2_with fail
  rw [← HW.out]
  refine (put_kept w0 g row N len 1 fs 1 1 1 _ rfl rfl (by omega) (show (1 : Nat) < 18446744073709551616 by decide) HwW.out (by omega)).mono ?_
  rintro e w1 ⟨rfl, h1, hk1⟩
  have hbo1 := hk1 _ _ _ Hbo.out (by decide) Hgl.out.1
  have hbr1 := hk1 _ _ _ Hbr.out (by decide) Hgl.out.2.1
  have hc0 := hbo1.cell 0
  have hc1 := hbo1.cell 1
  simp at hc0 hc1
  have H1 := Lib.hid h1; have Hbo1 := Lib.hid hbo1; have Hbr1 := Lib.hid hbr1; have Hk1 := Lib.hid hk1
  clear h1 hbo1 hbr1 hk1
  go_wp2_with fail
  rw [HA.out, HS.out]
  refine (next_any win x _ Hwin.out hx0 Hx.out (H1.out.deb Hdeb.out Hg.out Hr.out)).mono ?_
  rintro e w2 ⟨rfl, hm2⟩
  rw [Hnv.out, ← HA.out, ← HS.out]
  obtain ⟨w3, hw3⟩ : ∃ w3, w3 = w2.alloc (.cells #[.int .i64 (a : Int), .int .i64 (s : Int)] 116) := ⟨_, rfl⟩
  have hm3 : Mod (fun _ => False) w1 w3 := by rw [hw3]; exact hm2.alloc _
  have hbo3 := hm3.blk Hbo1.out (fun h => h)
  have hbr3 := hm3.blk Hbr1.out (fun h => h)
  have hbn3 : Blk w3 w2.heap.size 116 #[.int .i64 (a : Int), .int .i64 (s : Int)] := by rw [hw3]; exact Blk.new _ _ _
  have H3 := Lib.hid (H1.out.new hm3)
  have hk3 : Hid (Kept g w w3) := Lib.hid (fun b' t cs hb ht hbg => hm3.blk (Hk1.out b' t cs (HmW.out.blk hb (fun h => h)) ht hbg) (fun h => h))
  have Hw3 := Lib.hid hw3
  have Hsz : Hid (w.heap.size + 1 < w2.heap.size) := Lib.hid (by have := hm2.size; have := Hbr1.out.lt; omega)
  have Hsz2 : Hid (w2.heap.size ≠ g ∧ w0.heap.size ≤ w2.heap.size) := Lib.hid ⟨by have := H1.out.lt; have := hm2.size; omega, by have := H1.out.lt; have := hm2.size; omega⟩
  clear hc0 hc1 hw3 hm2 hm3
  generalize hnb : w2.heap.size = nb at *
  have hc0 := hbo3.cell 0
  have hc1 := hbo3.cell 1
  have he0 := hbn3.cell 0
  have he1 := hbn3.cell 1
  simp at hc0 hc1 he0 he1
  have Hbr3 := Lib.hid hbr3; have Hbn3 := Lib.hid hbn3; have Hnb := Lib.hid hnb
  clear hbo3 hbr3 hbn3 hnb H1 Hbo1 Hbr1 Hk1 HwW Hbo Hbr
  rcases Hcase.out with ⟨hwe, hfe⟩ | ⟨hne, hfe⟩
  ·obtain rfl : a = A := by rw [HA.out, hwe]; rfl
   obtain rfl : s = S := by rw [HS.out, hwe, Hs.out]; rfl
   have Hfe := Lib.hid hfe
   clear hwe hfe
   go_wp2_with (first | (rw [Hnb.out, ← Hw3.out]))
   refine (put_kept w0 g row N len 1 _ 0 0 1 _ rfl rfl (by omega) (show (0 : Nat) < 18446744073709551616 by decide) H3.out (by rw [flen_app]; show len + (flen fs + (1 + 0)) ≤ _; omega)).mono ?_
   rintro e w4 ⟨rfl, h4, hk4⟩
   have hbn := hk4 _ _ _ Hbn3.out (by decide) Hsz2.out.1
   have hbr := hk4 _ _ _ Hbr3.out (by decide) Hgl.out.2.1
   have hkk : Kept g w w4 := fun b' t cs hb ht hbg => hk4 _ _ _ (hk3.out _ _ _ hb ht hbg) ht hbg
   clear hc0 hc1 he0 he1 hk4 hk3 H3 Hbn3 Hbr3
   have h4d := h4.new ((Mod.refl (fun _ => False) w4).drew)
   have hbn4 : Blk w4.drew nb 116 #[.int .i64 (a : Int), .int .i64 (s : Int)] := hbn
   have hbr4 : Blk w4.drew (w.heap.size + 1) 116 #[.int .i64 0, .int .i64 0] := hbr
   have hk34 : Hid (Kept g w w4.drew) := Lib.hid hkk
   have H4 := Lib.hid h4d; have Hbn4 := Lib.hid hbn4; have Hbr4 := Lib.hid hbr4
   obtain ⟨y, hyv⟩ : ∃ y, y = x / 2 ^ b := ⟨_, rfl⟩
   have hy : (x : Int) / 2 ^ b = (y : Int) := by rw [hyv]; simp
   have hyl : Hid (Lt64 y) := Lib.hid (by have := Hx.out.out; have := Nat.div_le_self x (2 ^ b); unfold Lt64; omega)
   have Hyv := Lib.hid hyv
   clear hyv h4 h4d hbr4 hbn hbr hkk
   have he0 := hbn4.cell 0
   have he1 := hbn4.cell 1
   simp at he0 he1
   clear hbn4
   go_wp2_with fail
   go_region_held_law (fun w' => w'.cell? ⟨nb, 0, none⟩ = some (.int .i64 (a : Int)) ∧ w'.cell? ⟨nb, 1, none⟩ = some (.int .i64 (s : Int))) (first | exact S6.out | exact S5.out | exact ⟨he0, he1⟩)
    (first
     | (go_at_call 101; refine (behind_at a s b _ hasb).mono ?_; rintro e w5 ⟨rfl, hm5⟩; have H5 := Lib.hid (H4.out.new hm5); have Hbr5 := Lib.hid (hm5.blk Hbr4.out (fun h => h)); have Hbn5 := Lib.hid (hm5.blk Hbn4.out (fun h => h)); have S5 : Hid (w5.cell? ⟨nb, 0, none⟩ = some (.int .i64 (a : Int)) ∧ w5.cell? ⟨nb, 1, none⟩ = some (.int .i64 (s : Int))) := Lib.hid ⟨Hbn5.out.cell 0, Hbn5.out.cell 1⟩; have Hk5 : Hid (Kept g w w5) := Lib.hid (fun b' t cs hb ht hbg => hm5.blk (hk34.out _ _ _ hb ht hbg) (fun h => h)); clear hm5)
     | (go_at_call 80; refine (put_kept w0 g row N len s _ y _ _ _ rfl rfl (by omega) hyl.out H5.out (by rw [flen_app, flen_app]; show len + (flen fs + (1 + 0) + (1 + 0)) ≤ _; omega)).mono ?_; rintro e w6 ⟨rfl, h6, hk6⟩; have H6 := Lib.hid h6; have Hbn6 := Lib.hid (hk6 _ _ _ Hbn5.out (by decide) Hsz2.out.1); have Hbr6 := Lib.hid (hk6 _ _ _ Hbr5.out (by decide) Hgl.out.2.1); have S6 : Hid (w6.cell? ⟨nb, 0, none⟩ = some (.int .i64 (a : Int)) ∧ w6.cell? ⟨nb, 1, none⟩ = some (.int .i64 (s : Int))) := Lib.hid ⟨Hbn6.out.cell 0, Hbn6.out.cell 1⟩; have Hk6 : Hid (Kept g w w6) := Lib.hid (fun b' t cs hb ht hbg => hk6 _ _ _ (Hk5.out _ _ _ hb ht hbg) ht hbg); clear h6 hk6))
   have hf0 := Hbr6.out.frozen 0
   have hf1 := Hbr6.out.frozen 1
   have hd0 := Hbr6.out.cell 0
   have hd1 := Hbr6.out.cell 1
   simp at hd0 hd1
   obtain ⟨hq0, hq1⟩ := S6.out
   clear he0 he1
   go_wp2_with fail
   refine bodyPost_ret (v := .agg #[.int .i64 (a : Int), .int .i64 (s : Int)]) (by have h := Hbr6.out.two (.int .i64 (a : Int)) (.int .i64 (s : Int)); simp [results, Tryz.results81, go_sem, h.1, h.2.1]) rfl ⟨?_, ?_, ?_⟩
   ·rw [Hnv.out]
   ·have h := H6.out.cell (b := w.heap.size + 1) (((Mod.refl (fun i => i = w.heap.size + 1) _).setCell (p := ⟨w.heap.size + 1, 0, none⟩) (fun _ => rfl) (.int .i64 (a : Int))).setCell (p := ⟨w.heap.size + 1, 1, none⟩) (fun _ => rfl) (.int .i64 (s : Int))) Hbr6.out (by decide) Hgl.out.2.1 (by have := Hgl.out.2.2; omega)
    rw [Hyv.out] at h
    have e : fieldsX win x = _ := Hfe.out
    rw [e]
    simpa [Hs.out] using h
   ·intro b' t cs hb ht hbg
    have hbl := hb.lt
    exact ((Hk6.out b' t cs hb ht hbg).far (p := ⟨w.heap.size + 1, 0, none⟩) (by simp; omega) _).far (p := ⟨w.heap.size + 1, 1, none⟩) (by simp; omega) _
  ·obtain ⟨m, hm⟩ : ∃ m, m = 63 - a - b := ⟨_, rfl⟩
   have hm1 : (s : Int) - 1 = (m : Int) := by omega
   have hwa : IntKind.u64.wrap (a : Int) = (a : Int) := by rw [IntKind.wrap_u64]; omega
   have hwm : IntKind.u64.wrap (m : Int) = (m : Int) := by rw [IntKind.wrap_u64]; omega
   have Hfe := Lib.hid hfe; have Hm := Lib.hid hm
   have hcmp : (a = A ∧ ¬ (s : Int) = (S : Int)) ∨ ¬ (a : Int) = (A : Int) := by
    rw [← HA.out, ← HS.out, ← Hs.out] at hne
    omega
   clear hm hfe hne
   rcases hcmp with ⟨rfl, hq⟩ | hq
   all_goals
    go_wp2_with (first | (rw [Hnb.out, ← Hw3.out]))
    refine (put_kept w0 g row N len 1 _ 1 1 1 _ rfl rfl (by omega) (show (1 : Nat) < 18446744073709551616 by decide) H3.out (by rw [flen_app]; show len + (flen fs + (1 + 0)) ≤ _; omega)).mono ?_
    rintro e w4 ⟨rfl, h4, hk4⟩
    have hbn := hk4 _ _ _ Hbn3.out (by decide) Hsz2.out.1
    have hbr := hk4 _ _ _ Hbr3.out (by decide) Hgl.out.2.1
    have H4 := Lib.hid h4; have Hbn4 := Lib.hid hbn; have Hbr4 := Lib.hid hbr
    have hkk : Hid (Kept g w w4) := Lib.hid (fun b' t cs hb ht hbg => hk4 _ _ _ (hk3.out _ _ _ hb ht hbg) ht hbg)
    clear hc0 hc1 he0 he1 hk4 hk3 H3 Hbn3 Hbr3 h4 hbr hq
    have he0 := hbn.cell 0
    have he1 := hbn.cell 1
    simp at he0 he1
    clear hbn
    go_wp2_with fail
    refine (put_kept w0 g row N len 5 _ a _ 5 _ rfl rfl (by omega) (show a < 18446744073709551616 by omega) H4.out (by rw [flen_app, flen_app]; show len + (flen fs + (1 + 0) + (1 + 0)) ≤ _; omega)).mono ?_
    rintro e w5 ⟨rfl, h5, hk5⟩
    have hbn := hk5 _ _ _ Hbn4.out (by decide) Hsz2.out.1
    have hbr := hk5 _ _ _ Hbr4.out (by decide) Hgl.out.2.1
    have H5 := Lib.hid h5; have Hbn5 := Lib.hid hbn; have Hbr5 := Lib.hid hbr
    have hk5 : Hid (Kept g w w5) := Lib.hid (fun b' t cs hb ht hbg => hk5 _ _ _ (hkk.out _ _ _ hb ht hbg) ht hbg)
    clear he0 he1 hkk H4 Hbn4 Hbr4 h5 hbr
    have he0 := hbn.cell 0
    have he1 := hbn.cell 1
    simp at he0 he1
    clear hbn
    go_wp2_with fail
    refine (put_kept w0 g row N len 6 _ m _ 6 _ rfl rfl (by omega) (show m < 18446744073709551616 by omega) H5.out (by rw [flen_app, flen_app, flen_app]; show len + (flen fs + (1 + 0) + (1 + 0) + (5 + 0)) ≤ _; omega)).mono ?_
    rintro e w4 ⟨rfl, h4, hk4⟩
    have hbn := hk4 _ _ _ Hbn5.out (by decide) Hsz2.out.1
    have hbr := hk4 _ _ _ Hbr5.out (by decide) Hgl.out.2.1
    have hkk : Kept g w w4 := fun b' t cs hb ht hbg => hk4 _ _ _ (hk5.out _ _ _ hb ht hbg) ht hbg
    rw [Hm.out] at h4
    clear he0 he1 hk4 hk5 H5 Hbn5 Hbr5 hm1 hwa hwm
    have h4d := h4.new ((Mod.refl (fun _ => False) w4).drew)
    have hbn4 : Blk w4.drew nb 116 #[.int .i64 (a : Int), .int .i64 (s : Int)] := hbn
    have hbr4 : Blk w4.drew (w.heap.size + 1) 116 #[.int .i64 0, .int .i64 0] := hbr
    have hk34 : Hid (Kept g w w4.drew) := Lib.hid hkk
    have H4 := Lib.hid h4d; have Hbn4 := Lib.hid hbn4; have Hbr4 := Lib.hid hbr4
    obtain ⟨y, hyv⟩ : ∃ y, y = x / 2 ^ b := ⟨_, rfl⟩
    have hy : (x : Int) / 2 ^ b = (y : Int) := by rw [hyv]; simp
    have hyl : Hid (Lt64 y) := Lib.hid (by have := Hx.out.out; have := Nat.div_le_self x (2 ^ b); unfold Lt64; omega)
    have Hyv := Lib.hid hyv
    clear hyv h4 h4d hbr4 hbn hbr hkk
    have he0 := hbn4.cell 0
    have he1 := hbn4.cell 1
    simp at he0 he1
    clear hbn4
    go_wp2_with fail
    go_region_held_law (fun w' => w'.cell? ⟨nb, 0, none⟩ = some (.int .i64 (a : Int)) ∧ w'.cell? ⟨nb, 1, none⟩ = some (.int .i64 (s : Int))) (first | exact S6.out | exact S5.out | exact ⟨he0, he1⟩)
     (first
      | (go_at_call 101; refine (behind_at a s b _ hasb).mono ?_; rintro e w5 ⟨rfl, hm5⟩; have H5 := Lib.hid (H4.out.new hm5); have Hbr5 := Lib.hid (hm5.blk Hbr4.out (fun h => h)); have Hbn5 := Lib.hid (hm5.blk Hbn4.out (fun h => h)); have S5 : Hid (w5.cell? ⟨nb, 0, none⟩ = some (.int .i64 (a : Int)) ∧ w5.cell? ⟨nb, 1, none⟩ = some (.int .i64 (s : Int))) := Lib.hid ⟨Hbn5.out.cell 0, Hbn5.out.cell 1⟩; have Hk5 : Hid (Kept g w w5) := Lib.hid (fun b' t cs hb ht hbg => hm5.blk (hk34.out _ _ _ hb ht hbg) (fun h => h)); clear hm5)
      | (go_at_call 80; refine (put_kept w0 g row N len s _ y _ _ _ rfl rfl (by omega) hyl.out H5.out (by rw [flen_app, flen_app, flen_app, flen_app]; show len + (flen fs + (1 + 0) + (1 + 0) + (5 + 0) + (6 + 0)) ≤ _; omega)).mono ?_; rintro e w6 ⟨rfl, h6, hk6⟩; have H6 := Lib.hid h6; have Hbn6 := Lib.hid (hk6 _ _ _ Hbn5.out (by decide) Hsz2.out.1); have Hbr6 := Lib.hid (hk6 _ _ _ Hbr5.out (by decide) Hgl.out.2.1); have S6 : Hid (w6.cell? ⟨nb, 0, none⟩ = some (.int .i64 (a : Int)) ∧ w6.cell? ⟨nb, 1, none⟩ = some (.int .i64 (s : Int))) := Lib.hid ⟨Hbn6.out.cell 0, Hbn6.out.cell 1⟩; have Hk6 : Hid (Kept g w w6) := Lib.hid (fun b' t cs hb ht hbg => hk6 _ _ _ (Hk5.out _ _ _ hb ht hbg) ht hbg); clear h6 hk6))
    have hf0 := Hbr6.out.frozen 0
    have hf1 := Hbr6.out.frozen 1
    have hd0 := Hbr6.out.cell 0
    have hd1 := Hbr6.out.cell 1
    simp at hd0 hd1
    obtain ⟨hq0, hq1⟩ := S6.out
    clear he0 he1
    go_wp2_with fail
    refine bodyPost_ret (v := .agg #[.int .i64 (a : Int), .int .i64 (s : Int)]) (by have h := Hbr6.out.two (.int .i64 (a : Int)) (.int .i64 (s : Int)); simp [results, Tryz.results81, go_sem, h.1, h.2.1]) rfl ⟨?_, ?_, ?_⟩
    ·rw [Hnv.out]
    ·have h := H6.out.cell (b := w.heap.size + 1) (((Mod.refl (fun i => i = w.heap.size + 1) _).setCell (p := ⟨w.heap.size + 1, 0, none⟩) (fun _ => rfl) (.int .i64 (a : Int))).setCell (p := ⟨w.heap.size + 1, 1, none⟩) (fun _ => rfl) (.int .i64 (s : Int))) Hbr6.out (by decide) Hgl.out.2.1 (by have := Hgl.out.2.2; omega)
     rw [Hyv.out] at h
     have e : fieldsX win x = _ := Hfe.out
     rw [e]
     simpa [Hs.out] using h
    ·intro b' t cs hb ht hbg
     have hbl := hb.lt
     exact ((Hk6.out b' t cs hb ht hbg).far (p := ⟨w.heap.size + 1, 0, none⟩) (by simp; omega) _).far (p := ⟨w.heap.size + 1, 1, none⟩) (by simp; omega) _
end Go.Proofs.YtmeilddngohccaaGreatDoor

/- Rows of values are told: Encode. -/
namespace Go.Proofs.YtmeilddngohccaaGreatDoor
open Go.RowKit

/-- What Encode has told of i values. -/
def XEnc (w wr : World) (g : Nat) (row : Option Nat) (N len : Nat) (zs : List Nat) (nb i prev : Nat) (win : Option (Nat × Nat)) : Prop :=
 ∃ fs, Wrote w wr g row N len fs ∧ Blk wr nb 116 #[.int .i64 (winA win : Int), .int .i64 (winS win : Int)] ∧ WinOk win ∧ prev < 2 ^ 64 ∧ (i = 0 → fs = [] ∧ prev = 0 ∧ win = none) ∧ (0 < i → fs ++ encX win prev (zs.drop i) = encVals zs)
set_option maxHeartbeats 4000000 in
set_option maxRecDepth 100000 in
theorem xenc_any (B g : Nat) (row : Option Nat) (N len n c : Nat) (A : Option Addr) (zs : List Nat) (w : World) (hs : Rds w B A n (cellsU zs)) (hz : ∀ x ∈ zs, x < 2 ^ 64) (hB : B ≤ w.heap.size) (hap : 0 < n → ∀ ad, A = some ad → ¬ (ad.block = g ∨ row = some ad.block)) (hg0 : g ≠ 2) (hr0 : row ≠ some 2)
  (hw : Wr w g row N len) (hdeb : Deb w) (hlen : len + (64 + 77 * n) ≤ 900000000) :
  Calls Tryz.prog 57 #[.pointer (some ⟨g, 0, none⟩), .slice A n c] w fun e w' => e = .returned (.tuple #[]) ∧ Wrote w w' g row N len (encVals zs) := by
 have hzl : zs.length = n := by have := hs.1; rwa [cellsU_length] at this
 have Hs := Lib.hid hs; have Hz := Lib.hid hz; have Hdeb := Lib.hid hdeb; have Hg := Lib.hid hg0; have Hr := Lib.hid hr0; have HS := Lib.hid hap
 obtain ⟨W, hW⟩ : ∃ W, W = w.alloc (.cells #[.int .i64 0, .int .i64 0] 116) := ⟨_, rfl⟩
 have hmW : Mod (fun _ => False) w W := by rw [hW]; exact (Mod.refl _ _).alloc _
 have H0 : Hid (XEnc w W g row N len zs w.heap.size 0 0 none) := Lib.hid ⟨[], (Wrote.refl hw).new hmW, by rw [hW]; exact Blk.new _ _ _, trivial, by decide, fun _ => ⟨rfl, rfl, rfl⟩, fun h => by omega⟩
 have Hgn : Hid (w.heap.size ≠ g) := Lib.hid (by have := hw.lt; omega)
 have Hzl := Lib.hid hzl; have HW := Lib.hid hW
 have Htot : Hid (len + flen (encVals zs) ≤ 900000000) := Lib.hid (by have := encVals_len zs; rw [hzl] at this; omega)
 clear hs hz hw hdeb hap hg0 hr0 hzl hW hmW
 go_enter Tryz.func57, Tryz.ntmps57
 go_wp2_with fail
 rw [← HW.out]
 go_loopg [4, 10] n (fun l s4 s10 wr => ∃ (i prev : Nat) (win : Option (Nat × Nat)), i + l = n ∧ s10 = .int .i64 (i : Int) ∧ s4 = .int .u64 (prev : Int) ∧ XEnc w wr g row N len zs w.heap.size i prev win)
 case atStart => exact ⟨0, 0, none, by omega, rfl, rfl, H0.out⟩
 case round =>
  obtain ⟨i, prev, win, hil, rfl, rfl, hE⟩ := hrel
  have HE := Lib.hid hE; have Hil := Lib.hid hil
  clear hE hil H0 HW
  by_cases hin : i < n
  ·obtain ⟨fs, hwr, hb, hok, hp64, he0, he1⟩ := HE.out
   obtain ⟨ad, x, rfl, hx, hcx⟩ := Hs.out.at2 hin hB (by obtain ⟨_, _, a2, _⟩ := hwr; exact a2) (HS.out (by omega))
   have hxl := Lib.hid (Hz.out x (List.mem_of_getElem? hx))
   have Hdr := Lib.hid (drop_at' hx)
   have Hb := Lib.hid hb; have Hok := Lib.hid hok; have Hp64 := Lib.hid hp64
   clear hx hb hok hp64
   by_cases hi0 : i = 0
   ·obtain ⟨rfl, rfl, rfl⟩ := he0 hi0
    subst hi0
    have Hwr := Lib.hid hwr
    have hcx0 : wr.cell? ad = some (.int .u64 (x : Int)) := by rw [← add_zero' ad]; exact hcx
    clear hwr he0 he1 HE
    go_wp2_with fail
    refine (put_kept w g row N len 64 [] x _ _ _ rfl rfl (by omega) hxl.out Hwr.out (by show len + 0 ≤ _; omega)).mono ?_
    rintro e w1 ⟨rfl, h1, hk1⟩
    have hd0 := Hdr.out
    rw [List.drop_zero] at hd0
    have H1 : Hid (XEnc w w1 g row N len zs w.heap.size 1 x none) := Lib.hid ⟨[(x, 64)], h1, hk1 _ _ _ Hb.out (by decide) Hgn.out, trivial, hxl.out, fun h => by omega, fun _ => by rw [hd0]; rfl⟩
    clear h1 hd0 Hwr hk1
    go_wp2_with fail
    go_roundg (gk - 1)
    case measure => have := Hil.out; omega
    case rel => exact ⟨1, x, none, by have := Hil.out; omega, rfl, rfl, H1.out⟩
   ·have hb0 : ((i : Int) == 0) = false := by simp; omega
    have hE1 := he1 (by omega)
    have Hwr := Lib.hid hwr; have HE1 := Lib.hid hE1
    obtain ⟨y, hy⟩ : ∃ y : Nat, y = x ^^^ prev := ⟨_, rfl⟩
    have hxor : bits .xor .u64 (x : Int) (prev : Int) = (y : Int) := by rw [hy]; exact u64_xor_nat x prev hxl.out Hp64.out
    have hyl : Hid (Lt64 y) := Lib.hid (by rw [hy]; exact Nat.xor_lt_two_pow hxl.out Hp64.out)
    have Hy := Lib.hid hy
    have hc0 := Hb.out.cell 0
    have hc1 := Hb.out.cell 1
    simp at hc0 hc1
    have hl : Hid (len + flen fs ≤ 900000000) := Lib.hid (by have := Htot.out; rw [← HE1.out] at this; have := flen_le_app fs (encX win prev (zs.drop i)); omega)
    clear hwr he0 he1 HE hE1 hy
    go_wp2_with fail
    refine (xput_wrote w g row N len fs y win _ Hok.out hyl.out Hwr.out hl.out Hdeb.out Hg.out Hr.out).mono ?_
    rintro e w1 ⟨rfl, h1, hk1⟩
    have hb1 := hk1 _ _ _ Hb.out (by decide) Hgn.out
    rw [winV_eq]
    have hok1 := winX_ok Hok.out hyl.out
    obtain ⟨win', hwin'⟩ : ∃ win', win' = winX win y := ⟨_, rfl⟩
    rw [← hwin'] at hok1 ⊢
    have hd0 := hb1.cell 0
    have hd1 := hb1.cell 1
    have hf0 := hb1.frozen 0
    have hf1 := hb1.frozen 1
    simp at hd0 hd1
    have H1 : Hid (XEnc w ((w1.setCell ⟨w.heap.size, 0, none⟩ (.int .i64 (winA win' : Int))).setCell ⟨w.heap.size, 1, none⟩ (.int .i64 (winS win' : Int))) g row N len zs w.heap.size (i + 1) x win') :=
     Lib.hid ⟨_, h1.cell (b := w.heap.size) (((Mod.refl (fun i => i = w.heap.size) _).setCell (p := ⟨w.heap.size, 0, none⟩) (fun _ => rfl) _).setCell (p := ⟨w.heap.size, 1, none⟩) (fun _ => rfl) _) hb1 (by decide) Hgn.out (Nat.le_refl _), (hb1.two _ _).2.2, hok1, hxl.out, fun h => by omega, fun _ => by
      rw [← HE1.out, Hdr.out, List.append_assoc, hwin', Hy.out]; rfl⟩
    clear h1 hk1 hb1 hok1 hwin' hc0 hc1 Hb Hwr
    go_wp2_with fail
    go_roundg (gk - 1)
    case measure => have := Hil.out; omega
    case rel => exact ⟨i + 1, x, win', by have := Hil.out; omega, by go_num, rfl, H1.out⟩
  ·go_wp2_with fail
   go_end0
   refine ⟨rfl, ?_⟩
   obtain ⟨fs, hwr, hb, hok, hp64, he0, he1⟩ := HE.out
   have hil := Hil.out
   have hzl := Hzl.out
   rcases Nat.eq_zero_or_pos i with h0 | h0
   ·obtain ⟨rfl, _, _⟩ := he0 h0
    have : zs = [] := List.eq_nil_of_length_eq_zero (by omega)
    subst this
    exact hwr
   ·have := he1 h0
    rw [List.drop_of_length_le (by omega)] at this
    have e : fs = encVals zs := by rw [← this]; show fs = fs ++ []; simp
    rw [← e]
    exact hwr
end Go.Proofs.YtmeilddngohccaaGreatDoor

/- The times that bytes begin with, and what is behind them: getTimes. -/
namespace Go.Proofs.YtmeilddngohccaaGreatDoor
open Go.RowKit

def timesOf (N : Nat) (bs : List Nat) : Option (List Int × List Nat) :=
 if (dec bs).2 = 0 ∨ bs.length - (dec bs).2 < (dec bs).1 then none
 else (rdRow N (val ((bs.drop (dec bs).2).take (dec bs).1)) (8 * ((bs.drop (dec bs).2).take (dec bs).1).length)).map fun p => (p.1, (bs.drop (dec bs).2).drop (dec bs).1)
def GetT (w w' : World) (o : Option (List Int × List Nat)) (e : Ending) : Prop :=
 match o with
 | some (ts, rest) => ∃ A1 c1 A2 c2, e = .returned (.tuple #[.slice A1 ts.length c1, .slice A2 rest.length c2, .bool true]) ∧ A2 ≠ none ∧ rest.length ≤ c2 ∧ c2 ≤ maxLen ∧ Rds w' w'.heap.size A1 ts.length (cellsI ts) ∧ Rds w' w.heap.size A2 rest.length (cells8 rest) ∧ Mod (fun _ => False) w w'
 | none => ∃ v1 v2, e = .returned (.tuple #[v1, v2, .bool false]) ∧ Mod (fun _ => False) w w'
theorem GetT.some_ {w w' : World} {o : Option (List Int × List Nat)} {ts : List Int} {rest : List Nat} {e : Ending} (h : GetT w w' o e) (ho : o = some (ts, rest)) :
  ∃ A1 c1 A2 c2, e = .returned (.tuple #[.slice A1 ts.length c1, .slice A2 rest.length c2, .bool true]) ∧ A2 ≠ none ∧ rest.length ≤ c2 ∧ c2 ≤ maxLen ∧ Rds w' w'.heap.size A1 ts.length (cellsI ts) ∧ Rds w' w.heap.size A2 rest.length (cells8 rest) ∧ Mod (fun _ => False) w w' := by
 subst ho
 exact h
theorem GetT.none_ {w w' : World} {o : Option (List Int × List Nat)} {e : Ending} (h : GetT w w' o e) (ho : o = none) : ∃ v1 v2, e = .returned (.tuple #[v1, v2, .bool false]) ∧ Mod (fun _ => False) w w' := by
 subst ho
 exact h
theorem timesOf_no0 {N : Nat} {bs : List Nat} (h : (dec bs).2 = 0) : timesOf N bs = none := by unfold timesOf; rw [if_pos (.inl h)]
theorem timesOf_no1 {N : Nat} {bs : List Nat} (h : bs.length - (dec bs).2 < (dec bs).1) : timesOf N bs = none := by unfold timesOf; rw [if_pos (.inr h)]
theorem timesOf_at {N a K m : Nat} {bs : List Nat} (h1 : (dec bs).2 = a) (h2 : (dec bs).1 = K) (ha : ¬ a = 0) (hm : bs.length - a = m) (hK : ¬ m < K) :
  timesOf N bs = (rdRow N (val ((bs.drop a).take K)) (8 * K)).map fun p => (p.1, (bs.drop a).drop K) := by
 unfold timesOf
 rw [h1, h2, hm, if_neg (by omega), show ((bs.drop a).take K).length = K by rw [List.length_take, List.length_drop, hm]; omega]
theorem timesOf_some {N : Nat} {bs : List Nat} {ts : List Int} {rest : List Nat} (hlt : lt256 bs) (h : timesOf N bs = some (ts, rest)) : ts.length = N ∧ (∀ x ∈ ts, Fits x) ∧ lt256 rest ∧ rest.length ≤ bs.length := by
 unfold timesOf at h
 split at h
 ·cases h
 obtain ⟨p, hp, h2⟩ := Option.map_eq_some_iff.1 h
 injection h2 with h2 h3
 subst h2 h3
 have hb : lt256 ((bs.drop (dec bs).2).take (dec bs).1) := fun x hx => hlt x (List.mem_of_mem_drop (List.mem_of_mem_take hx))
 obtain ⟨t1, t2, _⟩ := rdRow_some hp (val_lt hb)
 exact ⟨t1, t2, fun x hx => hlt x (List.mem_of_mem_drop (List.mem_of_mem_drop hx)), by rw [List.length_drop, List.length_drop]; omega⟩
end Go.Proofs.YtmeilddngohccaaGreatDoor

/- The document's own: numbers of so many bits each are packed behind bytes, and unpacked. -/
namespace Go.Proofs.YtmeilddngohccaaGreatDoor
open Go.RowKit

/-- What the document's writer has been told of i numbers of S bits. -/
def RFldTo (w0 w1 wr : World) (g S : Nat) (l : List Nat) (i : Nat) : Prop := RWrote w1 wr g none 0 0 (flds S (l.take i)) ∧ Mod (fun _ => False) w0 wr
theorem RFldTo.step {w0 w1 wr w2 : World} {g S i x : Nat} {l : List Nat} (hx : l[i]? = some x) (_h : RFldTo w0 w1 wr g S l i) (hg : w0.heap.size ≤ g) (hm : Mod (fun _ => False) w0 w1) (h2 : RWrote w1 w2 g none 0 0 (flds S (l.take i) ++ [(x, S)])) : RFldTo w0 w1 w2 g S l (i + 1) := by
 refine ⟨?_, ?_⟩
 ·rw [take_succ_of hx, flds_app]
  exact h2
 ·obtain ⟨row', _, a2, _⟩ := h2
  exact hm.trans a2 (fun i hi h => h.elim (fun e => by omega) (fun e => by cases e))
theorem RFldTo.wr {w0 w1 wr : World} {g S i n : Nat} {l : List Nat} (h : RFldTo w0 w1 wr g S l i) (hn : l.length = n) (hi : i = n) : ∃ row, RWr wr g row (fnum (flds S l)) (flen (flds S l)) := by
 obtain ⟨⟨row', a1, _, _⟩, _⟩ := h
 rw [List.take_of_length_le (by omega), Nat.zero_mul, Nat.zero_add, Nat.zero_add] at a1
 exact ⟨row', a1⟩
set_option maxHeartbeats 4000000 in
set_option maxRecDepth 100000 in
theorem rpack_any (A0 A1 : Option Addr) (n0 c0 n1 c1 B S : Nat) (hd l : List Nat) (w : World) (h0 : Rds w B A0 n0 (cells8 hd)) (h1 : Rds w B A1 n1 (cellsU l)) (hB : B ≤ w.heap.size) (hl : ∀ x ∈ l, x < 2 ^ 64) (hS : S ≤ 64) (hn0 : n0 ≤ 1000000) (hn1 : n1 ≤ 1000000) :
  Calls Tryz.prog 96 #[.slice A0 n0 c0, .slice A1 n1 c1, .int .i64 (S : Int)] w fun e w' => ∃ v, e = .returned v ∧ Own w.heap.size w' 5 v (cells8 (hd ++ packW S l)) ∧ Mod (fun _ => False) w w' := by
 have hhl : hd.length = n0 := by have := h0.1; rwa [cells8_length] at this
 have hll : l.length = n1 := by have := h1.1; rwa [cellsU_length] at this
 obtain ⟨W, hW⟩ : ∃ W, W = w.alloc (.cells #[.slice none 0 0] 92) := ⟨_, rfl⟩
 have hmW : Mod (fun _ => False) w W := by rw [hW]; exact (Mod.refl _ _).alloc _
 have hrw : RWr W w.heap.size none 0 0 := by
  refine ⟨.slice none 0 0, [], ?_, World.ownsRow_nil _ _ _ _, rfl, (fun _ h => by cases h), rfl, rfl⟩
  rw [hW]
  exact Blk.new _ _ _
 have F0 : Hid (RFldTo w W W w.heap.size S l 0) := Lib.hid ⟨RWrote.refl hrw, hmW⟩
 have H0 := Lib.hid h0; have H1 := Lib.hid h1; have HB := Lib.hid hB; have Hl := Lib.hid hl; have Hhl := Lib.hid hhl; have Hll := Lib.hid hll; have HW := Lib.hid hW; have HmW := Lib.hid hmW
 clear h0 h1 hB hl hhl hll hW hmW hrw
 go_enter Tryz.func96, Tryz.ntmps96
 go_wp2_with fail
 rw [← HW.out]
 go_loopg [8] n1 (fun l' s8 wr => ∃ i : Nat, i + l' = n1 ∧ s8 = .int .i64 (i : Int) ∧ RFldTo w W wr w.heap.size S l i)
 case atStart => exact ⟨0, by omega, rfl, F0.out⟩
 case round =>
  obtain ⟨i, hil, rfl, hF⟩ := hrel
  have HF := Lib.hid hF; have Hil := Lib.hid hil
  clear hF hil F0 HW
  by_cases hin : i < n1
  ·obtain ⟨ad, x, rfl, hx, hcx⟩ := H1.out.at2 hin HB.out HF.out.2 (fun _ _ h => h)
   have hx64 : Hid (Lt64 x) := Lib.hid (by have := Hl.out x (List.mem_of_getElem? hx); unfold Lt64; omega)
   have Hx := Lib.hid hx
   have hi1 : (0 : Int) ≤ (i : Int) := by omega
   clear hx
   go_wp2_with fail
   refine (rput_wrote W w.heap.size none 0 0 S _ x _ _ wr rfl rfl hS hx64.out HF.out.1 (by have := flds_small (i := i) hS (Nat.le_of_eq Hll.out) hn1; omega)).mono ?_
   rintro e w2 ⟨rfl, h2⟩
   have HF2 : Hid (RFldTo w W w2 w.heap.size S l (i + 1)) := Lib.hid (HF.out.step Hx.out (Nat.le_refl _) HmW.out h2)
   clear h2
   go_wp2_with fail
   go_roundg (gk - 1)
   case measure => have := Hil.out; omega
   case rel => exact ⟨i + 1, by have := Hil.out; omega, by go_num, HF2.out⟩
  ·have hi : i = n1 := by have := Hil.out; omega
   obtain ⟨row, hwr⟩ := HF.out.wr Hll.out hi
   have Hwr := Lib.hid hwr; have Hmr := Lib.hid HF.out.2
   have hr1 : ([] : List Value).length + n0 ≤ maxLen := by unfold maxLen; simp; omega
   have hr2 : (([] : List Value).length + n0) * 1 ≤ 140737488355328 := by simp; omega
   have h0m : (0 : Nat) ≤ maxLen := Nat.zero_le _
   have Hr0 : Hid (Rds wr wr.heap.size A0 n0 (cells8 hd)) := Lib.hid ((H0.out.mod Hmr.out HB.out (fun _ _ h => h)).more (Nat.le_trans HB.out Hmr.out.size))
   clear hwr HF hi
   obtain ⟨wo, rfl⟩ : ∃ wo : World, wo = wr := ⟨_, rfl⟩
   go_wp2_with (at_builtin; refine wpList_app rfl (.tmp 24) (.tmp 25) _ rfl elt8 rfl (Own.lit wo 5 #[] h0m) rfl (Hr0.out.alloc (Nat.le_refl _) _) (cells8_one hd) hr1 hr2 (le_alloc _ _) ?_; intro v3 w3 HO3 HBl3 HG3; clear HG3)
   have hbel : Below wo.heap.size wo w3 := ((Below.refl _ _).alloc (Nat.le_refl _) _).trans HBl3.out
   have hwr3 : RWr w3 w.heap.size row (fnum (flds S l)) (flen (flds S l)) := Hwr.out.mod (Mod.of_below hbel) (by have := Hwr.out.lt; omega) (fun k hk h => by have := Hwr.out.row_lt k hk; omega)
   have Ho3 : Hid (Own wo.heap.size w3 5 v3 (cells8 hd)) := Lib.hid HO3.out
   have Hwr3 := Lib.hid hwr3
   have Hm3 := Lib.hid (Hmr.out.trans (mod_below hbel) (fun _ _ h => h))
   have hsz3 := hbel.size
   clear hwr3 hbel HO3 HBl3 hr1 hr2
   go_wp2_with fail
   refine (rbytes_any w.heap.size row _ _ w3 Hwr3.out (by have := flds_small (i := n1) (l := l) hS (Nat.le_of_eq Hll.out) hn1; rw [List.take_of_length_le (by rw [Hll.out]; exact Nat.le_refl _)] at this; omega)).mono ?_
   rintro e w4 ⟨v4, bs, rfl, hnew, hpk⟩
   obtain ⟨A4, c4, rfl, hr4, hm4⟩ := hnew.rds
   obtain rfl := hpk.packW
   have Hr4 := Lib.hid hr4; have Ho4 := Lib.hid (Ho3.out.mod hm4); have Hm4 := Lib.hid (Hm3.out.trans hm4 (fun _ _ h => h))
   have hpl : (packW S l).length ≤ 8000001 := by rw [packW_len, Hll.out]; have := Nat.mul_le_mul hS hn1; omega
   have Hone : Hid (∀ u ∈ cells8 (packW S l), u.oneCell' = true) := Lib.hid (cells8_one _)
   have hR4 : Room (cells8 hd).length (packW S l).length := Room.mk _ _ (by rw [cells8_length, Hhl.out]; omega)
   have HR4 := Lib.hid hR4
   have hsz4 : wo.heap.size ≤ w4.heap.size := Nat.le_trans hsz3 hm4.size
   clear hnew hpk hr4 hm4 hR4 hpl
   go_wp2_with (at_builtin; refine wpList_app rfl (.tmp 26) (.tmp 28) _ rfl elt8 rfl Ho4.out rfl Hr4.out Hone.out HR4.out.1 HR4.out.2 hsz4 ?_; intro v5 w5 HO5 HBl5 HG5; clear HG5)
   go_ret
   have ho5 := HO5.out
   rw [cells8_app] at ho5
   exact ⟨_, rfl, ho5.mono Hmr.out.size, Hm4.out.trans (Mod.of_below HBl5.out) (fun i hi h => by have := Hmr.out.size; omega)⟩
theorem rd1_getO (k : Nat) (s : Option (Nat × Nat)) : rd1 k s = getO k s := by
 cases s with
 | none => rfl
 | some p =>
  obtain ⟨R, rem⟩ := p
  rw [getO_take]
  rfl
theorem rdW_next (w n : Nat) (s : Option (Nat × Nat)) : rdW w (n + 1) s = rdW w n s ++ [(getO w (lfW w n s)).1] := by rw [rdW_snoc, rd1_getO]
theorem lfW_next (w n : Nat) (s : Option (Nat × Nat)) : lfW w (n + 1) s = (getO w (lfW w n s)).2 := by rw [lfW_succ, rd1_getO]
/-- What unpack has read of i numbers. -/
def RUnpTo (w wr : World) (g row S : Nat) (bs : List Nat) (s0 : Option (Nat × Nat)) (i : Nat) (v : Value) : Prop :=
 Own (w.heap.size + 1) wr 26 v (cellsU (rdW S i s0)) ∧ RRdO wr g row bs (lfW S i s0) ∧ Mod (fun _ => False) w wr
set_option maxHeartbeats 4000000 in
set_option maxRecDepth 100000 in
theorem runpack_any (A : Option Addr) (n c B N S : Nat) (bs : List Nat) (w : World) (hs : Rds w B A n (cells8 bs)) (hB : B ≤ w.heap.size) (hlt : lt256 bs) (hn : n ≤ 1000000) (hN : N ≤ 65535) (hS : S ≤ 64) (hw : 0 < w.heap.size) :
  Calls Tryz.prog 73 #[.slice A n c, .int .i64 (N : Int), .int .i64 (S : Int)] w fun e w' => ∃ v, e = .returned v ∧ Own w.heap.size w' 26 v (cellsU (rdW S N (some (val bs, 8 * bs.length)))) ∧ Mod (fun _ => False) w w' := by
 have hbl : bs.length = n := by have := hs.1; rwa [cells8_length] at this
 obtain ⟨row, hsee, hrow⟩ := (hs.more hB).sees hw
 obtain ⟨s0, hs0⟩ : ∃ s0, s0 = some (val bs, 8 * bs.length) := ⟨_, rfl⟩
 rw [← hs0]
 obtain ⟨W, hW⟩ : ∃ W, W = w.alloc (.cells #[.slice A n c, .int .i64 0, .bool false] 66) := ⟨_, rfl⟩
 have hmW : Mod (fun _ => False) w W := by rw [hW]; exact (Mod.refl _ _).alloc _
 have hval : val bs < 2 ^ (8 * bs.length) := val_lt hlt
 have hrr : RRdO W w.heap.size row bs s0 := by
  rw [hs0]
  refine ⟨⟨A, n, c, 0, ?_, hsee.mod hmW (fun _ h => h), by omega, by omega, hn, hlt, (fun _ => ⟨by rw [hbl]; omega, (Nat.mod_eq_of_lt hval).symm⟩), fun h => by cases h⟩, hval⟩
  rw [hW]
  exact Blk.new _ _ _
 have U0 : Hid (RUnpTo w W w.heap.size row S bs s0 0 (.slice none 0 0)) := Lib.hid ⟨Own.nil _ _ _, hrr, hmW⟩
 have Hrow := Lib.hid hrow; have HW := Lib.hid hW
 clear hs hB hlt hsee hval hrow hrr hmW hW hs0
 go_enter Tryz.func73, Tryz.ntmps73
 go_wp2_with fail
 rw [← HW.out]
 go_loopg [8, 9] N (fun l s8 s9 wr => ∃ i : Nat, i + l = N ∧ s9 = .int .i64 (i : Int) ∧ RUnpTo w wr w.heap.size row S bs s0 i s8)
 case atStart => exact ⟨0, by omega, rfl, U0.out⟩
 case round =>
  obtain ⟨i, hil, rfl, hown, hrr, hm⟩ := hrel
  have Hown := Lib.hid hown; have Hrr := Lib.hid hrr; have Hm := Lib.hid hm; have Hil := Lib.hid hil
  clear hown hrr hm hil U0 HW
  by_cases hin : i < N
  ·go_wp2_with fail
   refine (rget_o w.heap.size row S _ bs _ wr rfl hS Hrr.out).mono ?_
   rintro e w2 ⟨rfl, h2, hm2⟩
   obtain ⟨x, hx⟩ : ∃ x, x = (getO S (lfW S i s0)).1 := ⟨_, rfl⟩
   rw [← hx]
   have Hx : Hid (rdW S (i + 1) s0 = rdW S i s0 ++ [x]) := Lib.hid (by rw [hx]; exact rdW_next S i s0)
   rw [← lfW_next] at h2
   have Hrr2 := Lib.hid h2
   have Hown2 : Hid (Own (w.heap.size + 1) w2 26 u8 (cellsU (rdW S i s0))) := Lib.hid (hm2.owns Hown.out (fun k hk e => by have := (Hown.out.block k hk).1; omega))
   have Hm2 := Lib.hid (Hm.out.trans hm2 (fun i hi h => by omega))
   have hsz : w.heap.size + 1 ≤ w2.heap.size := by have := h2.lt; omega
   have hr1 : (cellsU (rdW S i s0)).length + 1 ≤ maxLen := by rw [cellsU_length, rdW_len]; unfold maxLen; omega
   have hr2 : ((cellsU (rdW S i s0)).length + 1) * 8 ≤ 140737488355328 := by rw [cellsU_length, rdW_len]; omega
   have Hr1 := Lib.hid hr1; have Hr2 := Lib.hid hr2
   clear hx h2 hm2 hr1 hr2 Hown Hrr Hm
   go_wp2_with (at_builtin; refine wpList_app1 rfl (.tmp 18) (.tmp 22) _ rfl eltU rfl Hown2.out rfl rfl rfl Hr1.out Hr2.out hsz ?_; intro v' w3 HO HBl)
   have HU : Hid (RUnpTo w w3 w.heap.size row S bs s0 (i + 1) v') := Lib.hid ⟨by rw [Hx.out, cellsU_snoc]; exact HO.out, Hrr2.out.mod (Mod.of_below HBl.out) (by omega) (fun _ => by have := Hrow.out; omega), Hm2.out.trans (Mod.of_below HBl.out) (fun i hi h => by omega)⟩
   clear HO HBl
   go_roundg (gk - 1)
   case measure => have := Hil.out; omega
   case rel => exact ⟨i + 1, by have := Hil.out; omega, by go_num, HU.out⟩
  ·have hi : i = N := by have := Hil.out; omega
   subst hi
   go_wp2_with fail
   go_ret
   exact ⟨_, rfl, Hown.out.mono (by omega), Hm.out⟩
end Go.Proofs.YtmeilddngohccaaGreatDoor

/- A turn is read: get. -/
namespace Go.Proofs.YtmeilddngohccaaGreatDoor
open Go.RowKit

/-- Behind the window's own bits: which window is told, and whether anew. -/
def Mid (win s : Option (Nat × Nat)) (a z : Nat) (fresh : Bool) (s' : Option (Nat × Nat)) : Prop :=
 (getO 1 s).1 ≠ 0 ∧ ((fresh = false ∧ (getO 1 (getO 1 s).2).1 = 0 ∧ a = winA win ∧ z = winS win ∧ s' = (getO 1 (getO 1 s).2).2) ∨
  (fresh = true ∧ (getO 1 (getO 1 s).2).1 ≠ 0 ∧ a = (getO 5 (getO 1 (getO 1 s).2).2).1 ∧ z = (getO 6 (getO 5 (getO 1 (getO 1 s).2).2).2).1 + 1 ∧ s' = (getO 6 (getO 5 (getO 1 (getO 1 s).2).2).2).2))
section
variable {win s s' : Option (Nat × Nat)} {a z : Nat} {fresh : Bool}
theorem Mid.bounds (h : Mid win s a z fresh s') (hs : SmallO s) (hw : WinOk win) : a ≤ 31 ∧ z ≤ 64 ∧ SmallO s' := by
 obtain ⟨_, ⟨_, _, h1, h2, h3⟩ | ⟨_, _, h1, h2, h3⟩⟩ := h
 ·have := win_bounds hw
  exact ⟨by omega, by omega, h3 ▸ (hs.get 1).get 1⟩
 ·have e1 := ((hs.get 1).get 1).lt 5
  have e2 := (((hs.get 1).get 1).get 5).lt 6
  exact ⟨by omega, by omega, h3 ▸ (((hs.get 1).get 1).get 5).get 6⟩
theorem Mid.far (h : Mid win s a z fresh s') (hw : WinOk win) (hf : 64 < a + z) : stO win s = none := by
 obtain ⟨h0, ⟨_, _, h1, h2, _⟩ | ⟨_, h1, h2, h3, _⟩⟩ := h
 ·have := win_bounds hw
  omega
 ·exact stO_far h0 h1 (by rw [← h2, ← h3]; exact hf)
end
end Go.Proofs.YtmeilddngohccaaGreatDoor

/- Rows of values are read: Decode. -/
namespace Go.Proofs.YtmeilddngohccaaGreatDoor
open Go.RowKit

end Go.Proofs.YtmeilddngohccaaGreatDoor

/- Rows, literals of rows, two writers: what statements that tell and read have at hand. -/
namespace Go.Proofs.YtmeilddngohccaaGreatDoor
open Go.RowKit

theorem Wr.packed {w : World} {g N L : Nat} {row : Option Nat} (h : Wr w g row N L) : ∃ bs, Packed bs N L := by
 obtain ⟨free, hf, v, bs, _, _, _, hlt, hl, hv, _⟩ := h
 exact ⟨bs, hlt, free, hf, hl, hv⟩
/-- The two writers at the same bits. -/
structure Both (w0 w : World) (a : Nat) (ra : Option Nat) (b : Nat) (rb : Option Nat) (N L : Nat) : Prop where
 wa : Wr w a ra N L
 wb : RWr w b rb N L
 mod : Mod (fun _ => False) w0 w
theorem Both.new {w0 w w' : World} {a b N L : Nat} {ra rb : Option Nat} (h : Both w0 w a ra b rb N L) (hm : Mod (fun _ => False) w w') : Both w0 w' a ra b rb N L :=
 ⟨h.wa.mod hm (fun h => h) (fun _ _ h => h), h.wb.mod hm (fun h => h) (fun _ _ h => h), h.mod.trans hm (fun _ _ h => h)⟩
theorem RWr.len {w : World} {g N L : Nat} {row : Option Nat} (h : RWr w g row N L) : ∃ Ax cx, w.cell? ⟨g, 0, none⟩ = some (.slice Ax L cx) := by
 obtain ⟨sv, l, hblk, hown, _, _, hL, _⟩ := h
 have hc0 := hblk.cell 0
 simp at hc0
 rcases hown.2 with ⟨h1, h2⟩ | ⟨g', cap, cur, h1, _⟩
 ·exact ⟨none, 0, by rw [hc0, h1, ← hL, h2]⟩
 ·exact ⟨_, cap, by rw [hc0, h1, hL]⟩
theorem Sees.take {w : World} {row n k : Nat} {A : Option Addr} {bs : List Nat} (h : Sees w row A n (cells8 bs)) (hk : k ≤ n) : Sees w row A k (cells8 (bs.take k)) := by
 have hl := h.1
 rw [cells8_length] at hl
 refine ⟨by rw [cells8_length, List.length_take]; omega, fun h0 => ?_⟩
 obtain ⟨o, e, hlt, hc⟩ := h.2 (by omega)
 refine ⟨o, e, hlt, fun j u hu => hc j u ?_⟩
 rw [cells8_take, List.getElem?_take] at hu
 split at hu
 ·exact hu
 ·cases hu
/-- Four rows of bytes in a literal. -/
def Rows4 (w : World) (lit : Nat) : Prop := lit < w.heap.size ∧ ∀ j, j < 4 → ∃ (A : Option Addr) (n c row : Nat) (cs : List Nat), w.cell? ⟨lit, j, none⟩ = some (.slice A n c) ∧ Sees w row A n (cells8 cs) ∧ (A = none → c = 0) ∧ n ≤ 1000 ∧ lt256 cs
theorem Rows4.mod {w w' : World} {lit : Nat} (h : Rows4 w lit) (hm : Mod (fun _ => False) w w') : Rows4 w' lit := by
 refine ⟨Nat.lt_of_lt_of_le h.1 hm.size, fun j hj => ?_⟩
 obtain ⟨A, n, c, row, cs, h1, h2, h3⟩ := h.2 j hj
 exact ⟨A, n, c, row, cs, (hm.cell (a := ⟨lit, j, none⟩) h.1 (fun h => h)).trans h1, h2.mod hm (fun _ h => h), h3⟩
end Go.Proofs.YtmeilddngohccaaGreatDoor

/- The statements' own rows of times: Times. -/
namespace Go.Proofs.YtmeilddngohccaaGreatDoor
open Go.RowKit

end Go.Proofs.YtmeilddngohccaaGreatDoor

/- The statements' own rows of samples: Row. -/
namespace Go.Proofs.YtmeilddngohccaaGreatDoor
open Go.RowKit

/-- A row that rises, as far as i. -/
def RowSo (w wr : World) (v : Value) (l : List (Int × Nat)) (i : Nat) : Prop := OwnS w.heap.size wr v l ∧ GoodS l ∧ RiseTo l l.length ∧ l.length ≤ i ∧ Mod (fun _ => False) w wr
theorem RiseTo.snoc {l : List (Int × Nat)} {T : Int} {V : Nat} (h : RiseTo l l.length) (hl : l.length = 0 ∨ ∃ k q, l.length = k + 1 ∧ l[k]? = some q ∧ q.1 < T) : RiseTo (l ++ [(T, V)]) (l ++ [(T, V)]).length := by
 intro j a b hj ha hb
 have e : tsOf (l ++ [(T, V)]) = tsOf l ++ [T] := by simp [tsOf]
 rw [e] at ha hb
 rw [List.length_append, List.length_singleton] at hj
 rcases Nat.lt_or_ge (j + 1) l.length with h1 | h1
 ·rw [List.getElem?_append_left (by rw [tsOf_len]; omega)] at ha hb
  exact h j a b h1 ha hb
 ·obtain ⟨k, q, hk, hq, hlt⟩ : ∃ k q, l.length = k + 1 ∧ l[k]? = some q ∧ q.1 < T := by
   rcases hl with h0 | h0
   ·omega
   ·exact h0
  obtain rfl : j = k := by omega
  rw [List.getElem?_append_left (by rw [tsOf_len]; omega), ts_get hq] at ha
  rw [List.getElem?_append_right (by rw [tsOf_len]; omega), tsOf_len, hk, Nat.sub_self] at hb
  injection ha with ha
  injection hb with hb
  rw [← ha, ← hb]
  exact hlt
theorem RowSo.snoc {w wr w2 : World} {v v2 : Value} {l : List (Int × Nat)} {i : Nat} {T : Int} {V : Nat} (h : RowSo w wr v l i) (ho : OwnS w.heap.size w2 v2 (l ++ [(T, V)])) (hT : Fits T) (hV : V < 2 ^ 64) (hm : Mod (fun _ => False) w w2)
  (hl : l.length = 0 ∨ ∃ k q, l.length = k + 1 ∧ l[k]? = some q ∧ q.1 < T) : RowSo w w2 v2 (l ++ [(T, V)]) (i + 1) := by
 obtain ⟨_, h2, h3, h4, h5⟩ := h
 refine ⟨ho, fun p hp => ?_, h3.snoc hl, by rw [List.length_append, List.length_singleton]; omega, hm⟩
 rcases List.mem_append.1 hp with hp | hp
 ·exact h2 p hp
 ·rw [List.mem_singleton.1 hp]
  exact ⟨hT, hV⟩
end Go.Proofs.YtmeilddngohccaaGreatDoor

/- The texts Bit0, Bitp, Bitq, Bitg, Bitw, Refw, Refb, Two, Refr, Play0, Conv, All4, Go, Xs, Xo, Sx, Cx, Cy, Kr, Ja, Bq, Jc, Te, Tw, Bok, Gok, Tg, Gw, Tp, Tr, Kp, Jd, Pn, Gl, Je, Jg, one behind the other. -/
import Derived.Test.YthgoppmgapaajaaGreatDoorM2h1
import Derived.Test.YthgoppmgapaajaaGreatDoorRows
namespace Go.Proofs.YthgoppmgapaajaaGreatDoor
open Go.RowKit

theorem held_any (n : Int) (w : World) (h1 : -9223372036854775808 ≤ n) (h2 : n ≤ 9223372036854775807) :
  Calls Tryz.prog 111 #[.int .i64 n] w fun e w' => e = .returned (.int .u64 (max 0 (min n 64))) ∧ w = w' := by
 go_enter Tryz.func111, Tryz.ntmps111
 go_wp2
 all_goals go_ret
 all_goals exact ⟨ret_int (by omega), rfl⟩

theorem pow_le_256 {k : Nat} (h : k ≤ 8) : 2 ^ k ≤ 256 := by
 have := Nat.pow_le_pow_right (n := 2) (by omega) h
 omega

theorem lowest_int (v k : Nat) (h1 : v < 18446744073709551616) (h2 : k ≤ 8) :
  bits BinOp.and IntKind.u64 (↑v) (IntKind.u64.wrap (IntKind.u64.wrap (2 ^ k) - 1)) % 256 = ((v % 2 ^ k : Nat) : Int) := by
 have hp := pow_le_256 h2
 have h0 : 0 < 2 ^ k := Nat.two_pow_pos k
 have e : (IntKind.u64.wrap (IntKind.u64.wrap (2 ^ k) - 1)) = ((2 ^ k - 1 : Nat) : Int) := by
  have : ((2 : Int) ^ k) = ((2 ^ k : Nat) : Int) := by simp
  rw [this, IntKind.wrap_u64, IntKind.wrap_u64]
  omega
 rw [e, u64_and_nat _ _ h1 (by omega), Nat.and_two_pow_sub_one_eq_mod]
 have := Nat.mod_lt v h0
 omega

theorem lowest_any (v : Int) (k : Int) (w : World) (h0 : 0 ≤ v) (h1 : v < 18446744073709551616) (h3 : 0 ≤ k) (h2 : k ≤ 8) :
  Calls Tryz.prog 112 #[.int .u64 v, .int .u64 k] w fun e w' => e = .returned (.int .u8 ((v.toNat % 2 ^ k.toNat : Nat))) ∧ w = w' := by
 obtain ⟨v, rfl⟩ := Int.eq_ofNat_of_zero_le h0
 obtain ⟨k, rfl⟩ := Int.eq_ofNat_of_zero_le h3
 go_enter Tryz.func112, Tryz.ntmps112
 go_wp2
 go_ret
 exact ⟨ret_int (lowest_int v k (by omega) (by omega)), rfl⟩

theorem newWriter_any (w : World) :
  Calls Tryz.prog 77 #[] w fun e w' => e = .returned (.pointer (some ⟨w.heap.size, 0, none⟩)) ∧ w' = w.alloc (.cells #[.slice none 0 0, .int .u64 0] 122) := by
 go_enter Tryz.func77, Tryz.ntmps77
 go_wp2
 go_ret
 exact ⟨rfl, rfl⟩
end Go.Proofs.YthgoppmgapaajaaGreatDoor

namespace Go.Proofs.YthgoppmgapaajaaGreatDoor
open Go.RowKit

theorem Tryz.info5 : (Tryz.prog.info? 5).map (fun i => (i.zero, i.size, i.bytes)) = some (some (.int .u8 0), 1, 1) := by kernel_rfl

/-- A writer at block g, its bytes in 'row': N, of len bits; the last byte has 'free' bits to fill. -/
def WrF (w : World) (g : Nat) (row : Option Nat) (N len free : Nat) : Prop :=
 ∃ (v : Value) (bs : List Nat), Blk w g 122 #[v, .int .u64 (free : Int)] ∧ w.ownsRow 0 5 1 v bs.length (cells8 bs) ∧ v.ownBlock = row ∧ lt256 bs ∧
  len + free = 8 * bs.length ∧ val bs = N * 2 ^ free ∧ N < 2 ^ len
def Wr (w : World) (g : Nat) (row : Option Nat) (N len : Nat) : Prop := ∃ free, free < 8 ∧ WrF w g row N len free

def RowTo (w : World) (row row' : Option Nat) : Prop := row' = row ∨ ∃ r, row' = some r ∧ w.heap.size ≤ r

/-- What l rounds from the end Put has done. -/
def PutTo (w wr : World) (g : Nat) (row : Option Nat) (N len u k l : Nat) : Prop :=
 ∃ row', Wr wr g row' (N * 2 ^ (k - l) + u / 2 ^ l) (len + (k - l)) ∧ Mod (fun i => i = g ∨ row = some i) w wr ∧ RowTo w row row'
/-- Behind the test: there is room in the last byte. -/
def PutMid (w wr : World) (g : Nat) (row : Option Nat) (N len u k l : Nat) : Prop :=
 ∃ row' free, 0 < free ∧ free ≤ 8 ∧ WrF wr g row' (N * 2 ^ (k - l) + u / 2 ^ l) (len + (k - l)) free ∧ Mod (fun i => i = g ∨ row = some i) w wr ∧ RowTo w row row'

theorem RowTo.trans {w : World} {row row' row2 : Option Nat} {B : Nat} (h : RowTo w row row') (hB : w.heap.size ≤ B) (h2 : row2 = row' ∨ ∃ r, row2 = some r ∧ B ≤ r) : RowTo w row row2 := by
 rcases h2 with rfl | ⟨r, rfl, hr⟩
 ·exact h
 ·exact .inr ⟨r, rfl, by omega⟩
theorem RowTo.in_ {w : World} {row row' : Option Nat} (h : RowTo w row row') {k : Nat} (hk : row' = some k) (hlt : k < w.heap.size) : row = some k := by
 rcases h with rfl | ⟨r, rfl, hr⟩
 ·exact hk
 ·injection hk with hk; omega

theorem low_of (v d m : Nat) (W : World) (hv : Lt64 v) (hm : m ≤ 8) :
  Calls Tryz.prog 112 #[.int .u64 ((v : Int) / 2 ^ d), .int .u64 (m : Int)] W fun e w' => e = .returned (.int .u8 ((v / 2 ^ d % 2 ^ m : Nat) : Int)) ∧ w' = W := by
 have e : (v : Int) / 2 ^ d = ((v / 2 ^ d : Nat) : Int) := by simp
 have := hv.out
 have h2 : v / 2 ^ d ≤ v := Nat.div_le_self _ _
 rw [e]
 generalize v / 2 ^ d = x at *
 refine (lowest_any (x : Int) (m : Int) W (by omega) (by omega) (by omega) (by omega)).mono ?_
 rintro e w' ⟨rfl, rfl⟩
 exact ⟨by rw [Int.toNat_natCast, Int.toNat_natCast], rfl⟩

theorem or_val (v d m f b : Nat) (bs0 : List Nat) (N : Nat) (hb : b < 256) (hf : f + m ≤ 8) (hv : val (bs0 ++ [b]) = N * 2 ^ (f + m)) :
  bits BinOp.or IntKind.u8 (b : Int) (IntKind.u8.wrap ((v : Int) / 2 ^ d % 2 ^ m * 2 ^ f)) = ((b + v / 2 ^ d % 2 ^ m * 2 ^ f : Nat) : Int) := by
 obtain ⟨h1, h2, _⟩ := last_step bs0 b N (f + m) m (v / 2 ^ d % 2 ^ m) hb hf (by omega) (Nat.mod_lt _ (Nat.two_pow_pos m)) hv
 rw [Nat.add_sub_cancel] at h1 h2
 have e : (v : Int) / 2 ^ d % 2 ^ m * 2 ^ f = ((v / 2 ^ d % 2 ^ m * 2 ^ f : Nat) : Int) := by simp
 rw [e, IntKind.wrap_u8', Int.emod_eq_of_lt (Int.natCast_nonneg _) (by omega), u8_or_nat _ _ hb (by omega), h1]

theorem put_grow {w wr w1 : World} {g gr cap : Nat} {row row' : Option Nat} {N len : Nat} {sv : Value} {bs : List Nat} (hblk : Blk wr g 122 #[sv, .int .u64 ((0 : Nat) : Int)]) (hown : wr.ownsRow 0 5 1 sv bs.length (cells8 bs))
  (hrow : sv.ownBlock = row') (hlt : lt256 bs) (hlf : len + 0 = 8 * bs.length) (hval : val bs = N * 2 ^ 0) (hN : N < 2 ^ len) (hmod : Mod (fun i => i = g ∨ row = some i) w wr) (hrr : RowTo w row row')
  (hgrow : (wr.alloc (.cells #[.int .u8 0] 5)).grownBy w1 sv.ownBlock) (hown' : w1.ownsRow 0 5 1 (.slice (some ⟨gr, 0, none⟩) (bs.length + 1) cap) (bs.length + 1) (cells8 bs ++ [.int .u8 0]))
  (hrow' : (Value.slice (some ⟨gr, 0, none⟩) (bs.length + 1) cap).ownBlock = sv.ownBlock ∨ (Value.slice (some ⟨gr, 0, none⟩) (bs.length + 1) cap).ownBlock = some (wr.alloc (.cells #[.int .u8 0] 5)).heap.size)
 :
  ∃ row2, WrF ((w1.setCell ⟨g, 0, none⟩ (.slice (some ⟨gr, 0, none⟩) (bs.length + 1) cap)).setCell ⟨g, 1, none⟩ (.int .u64 8)) g row2 N len 8 ∧
   Mod (fun i => i = g ∨ row = some i) w ((w1.setCell ⟨g, 0, none⟩ (.slice (some ⟨gr, 0, none⟩) (bs.length + 1) cap)).setCell ⟨g, 1, none⟩ (.int .u64 8)) ∧ RowTo w row row2 := by
 subst hrow
 have hne := own_blk_ne hown hblk (by decide)
 have hblk1 := (hblk.alloc (.cells #[.int .u8 0] 5)).grown hgrow hne.symm
 have hne1 := own_blk_ne hown' hblk1 (by decide)
 refine ⟨some gr, ⟨.slice (some ⟨gr, 0, none⟩) (bs.length + 1) cap, bs ++ [0], ?_, ?_, rfl, lt256_snoc.2 ⟨hlt, by omega⟩, by simp; omega, by rw [val_snoc, hval]; omega, hN⟩, ?_, ?_⟩
 ·have := (hblk1.set_ 0 (.slice (some ⟨gr, 0, none⟩) (bs.length + 1) cap)).set_ 1 (.int .u64 8)
  simpa using this
 ·have h1 : Mod (fun i => i = g) w1 ((w1.setCell ⟨g, 0, none⟩ (.slice (some ⟨gr, 0, none⟩) (bs.length + 1) cap)).setCell ⟨g, 1, none⟩ (.int .u64 8)) :=
   ((Mod.refl (fun i => i = g) w1).setCell (p := ⟨g, 0, none⟩) (fun _ => rfl) _).setCell (p := ⟨g, 1, none⟩) (fun _ => rfl) _
  have := h1.owns hown' (fun k hk e => hne1 (by rw [hk, e]))
  rw [cells8_snoc]
  simpa using this
 ·refine Mod.setCell (Mod.setCell ((hmod.alloc _).grown hgrow ?_) (fun _ => .inl rfl) _) (fun _ => .inl rfl) _
  intro k hk hlt'
  exact .inr (hrr.in_ hk hlt')
 ·refine hrr.trans (B := wr.heap.size) hmod.size ?_
  rcases hrow' with h | h
  ·exact .inl h
  ·exact .inr ⟨_, h, by simp⟩

theorem put_fill {w wc W2 : World} {g gr cap : Nat} {row row2 : Option Nat} {N len v k l m d f free : Nat} {bs0 : List Nat} {b : Nat} (hm1 : 0 < m) (hm2 : m ≤ l) (hm3 : m ≤ free) (hr2 : free ≤ 8) (hl : l ≤ k)
  (hd : d = l - m) (hf : f = free - m)
  (hrow : (Value.slice (some ⟨gr, 0, none⟩) (bs0 ++ [b]).length cap).ownBlock = row2) (hlt : lt256 (bs0 ++ [b])) (hlf : len + (k - l) + free = 8 * (bs0 ++ [b]).length)
  (hval : val (bs0 ++ [b]) = (N * 2 ^ (k - l) + v % 2 ^ k / 2 ^ l) * 2 ^ free) (hN : N * 2 ^ (k - l) + v % 2 ^ k / 2 ^ l < 2 ^ (len + (k - l))) (hmod : Mod (fun i => i = g ∨ row = some i) w wc) (hrr : RowTo w row row2)
  (hblk : Blk W2 g 122 #[.slice (some ⟨gr, 0, none⟩) (bs0 ++ [b]).length cap, .int .u64 (f : Int)]) (hmod2 : Mod (fun i => i = g) wc W2)
  (hown : W2.ownsRow 0 5 1 (.slice (some ⟨gr, 0, none⟩) (bs0 ++ [b]).length cap) (bs0 ++ [b]).length (cells8 (bs0 ++ [b]))) :
  PutTo w (W2.setCell ⟨gr, bs0.length, none⟩ (.int .u8 ((b + v / 2 ^ d % 2 ^ m * 2 ^ f : Nat) : Int))) g row N len (v % 2 ^ k) k d := by
 have hne := own_blk_ne hown hblk (by decide)
 have hx : v / 2 ^ d % 2 ^ m < 2 ^ m := Nat.mod_lt _ (Nat.two_pow_pos m)
 obtain ⟨h1, h2, h3⟩ := last_step bs0 b _ free m (v / 2 ^ d % 2 ^ m) (lt256_snoc.1 hlt).2 hr2 hm3 hx hval
 rw [← hf] at h1 h2 h3
 have e1 : v % 2 ^ k / 2 ^ d = v % 2 ^ k / 2 ^ l * 2 ^ m + v / 2 ^ d % 2 ^ m := by
  have := bits_more (v % 2 ^ k) l m hm2
  rw [← hd, mod_div_mod v k d m (by omega)] at this
  exact this
 have e2 : (N * 2 ^ (k - l) + v % 2 ^ k / 2 ^ l) * 2 ^ m + v / 2 ^ d % 2 ^ m = N * 2 ^ (k - d) + v % 2 ^ k / 2 ^ d := by
  rw [e1, Nat.add_mul, Nat.mul_assoc, ← Nat.pow_add, show k - l + m = k - d by omega, Nat.add_assoc]
 have e3 : len + (k - d) = len + (k - l) + m := by omega
 refine ⟨row2, ⟨f, by omega, .slice (some ⟨gr, 0, none⟩) (bs0 ++ [b]).length cap, bs0 ++ [b + v / 2 ^ d % 2 ^ m * 2 ^ f], ?_, ?_, hrow, lt256_snoc.2 ⟨(lt256_snoc.1 hlt).1, h2⟩, ?_, ?_, ?_⟩, ?_, hrr⟩
 ·exact hblk.far (p := ⟨gr, bs0.length, none⟩) (fun e => hne (by rw [e]; rfl)) _
 ·have := (hown.stored bs0.length (.int .u8 ((b + v / 2 ^ d % 2 ^ m * 2 ^ f : Nat) : Int))).1
  rw [cells8_set] at this
  simpa using this
 ·rw [e3]; simp at hlf ⊢; omega
 ·rw [h3, e2]
 ·rw [← e2, e3, Nat.pow_add]
  calc _ < (N * 2 ^ (k - l) + v % 2 ^ k / 2 ^ l) * 2 ^ m + 2 ^ m := by omega
   _ = (N * 2 ^ (k - l) + v % 2 ^ k / 2 ^ l + 1) * 2 ^ m := by rw [Nat.add_mul _ 1, Nat.one_mul]
   _ ≤ _ := Nat.mul_le_mul_right _ hN
 ·refine (hmod.trans hmod2 (fun i _ h => .inl h)).setCell ?_ _
  intro h
  exact .inr (hrr.in_ (by rw [← hrow]; rfl) h)

set_option maxHeartbeats 1000000 in
set_option maxRecDepth 100000 in
theorem put_any (g : Nat) (row : Option Nat) (N len : Nat) (v n : Int) (w : World) (hn : FitI n) (hv : Fit64 v)
  (hw : Wr w g row N len) (hlen : len ≤ 1000000000) :
  Calls Tryz.prog 91 #[.pointer (some ⟨g, 0, none⟩), .int .u64 v, .int .i64 n] w fun e w' => e = .returned (.tuple #[]) ∧
   PutTo w w' g row N len (v.toNat % 2 ^ (max 0 (min n 64)).toNat) (max 0 (min n 64)).toNat 0 := by
 obtain ⟨v, rfl⟩ := Int.eq_ofNat_of_zero_le hv.out.1
 have Hv1 : Lt64 v := by have := hv.out.2; unfold Lt64; omega
 rw [Int.toNat_natCast]
 obtain ⟨k, hk⟩ : ∃ k : Nat, max 0 (min n 64) = (k : Int) := ⟨(max 0 (min n 64)).toNat, by omega⟩
 have hk64 : k ≤ 64 := by omega
 rw [hk, Int.toNat_natCast]
 go_enter Tryz.func91, Tryz.ntmps91
 go_wp2_with (go_at_call 111; refine (held_any n _ hn.1 hn.2).mono ?_; rintro e w' ⟨rfl, rfl⟩)
 have Hw := Lib.hid hw
 clear hw hk hn hv
 go_loopg [6] k (fun l s6 wr => l ≤ k ∧ s6 = .int .u64 (l : Int) ∧ PutTo w wr g row N len (v % 2 ^ k) k l)
 case atStart =>
  refine ⟨Nat.le_refl _, rfl, row, ?_, Mod.refl _ _, .inl rfl⟩
  have e : v % 2 ^ k / 2 ^ k = 0 := Nat.div_eq_of_lt (Nat.mod_lt _ (Nat.two_pow_pos k))
  rw [Nat.sub_self, e, Nat.pow_zero, Nat.mul_one, Nat.add_zero, Nat.add_zero]
  exact Hw.out
 case round =>
  obtain ⟨hl, rfl, row', ⟨free, hf8, sv, bs, hblk, hown, hrow, hlt, hlf, hval, hN⟩, hmod, hrr⟩ := hrel
  have hc0 := hblk.cell 0
  have hc1 := hblk.cell 1
  have hf0 := hblk.frozen 0
  have hf1 := hblk.frozen 1
  simp at hc0 hc1
  have Hlf := Lib.hid hlf; have Hval := Lib.hid hval; have Hrow := Lib.hid hrow; have Hrr := Lib.hid hrr; have Hlt := Lib.hid hlt; have HN := Lib.hid hN; have Hown := Lib.hid hown
  have Hmod := Lib.hid hmod; have Hblk := Lib.hid hblk
  clear hlf hval hrow hrr hlt hN hown hmod hblk
  by_cases hl0 : gk = 0
  ·subst hl0
   go_wp2
   go_end0
   exact ⟨rfl, row', ⟨free, hf8, sv, bs, Hblk.out, Hown.out, Hrow.out, Hlt.out, Hlf.out, Hval.out, HN.out⟩, Hmod.out, Hrr.out⟩
  ·have hl1 : 0 < gk := by omega
   go_upto_if 16 with fail
   go_cut [] (fun wc => PutMid w wc g row N len (v % 2 ^ k) k gk)
   case first =>
    by_cases hfree : free = 0
    ·have hfb : ((free : Int) == 0) = true := by simp; omega
     rw [hfb]
     subst hfree
     obtain ⟨i0, hi, hz0, hz1, hz2⟩ := info_parts Tryz.info5
     have Hb : Room bs.length 1 := Room.mk _ _ (by have := Hlf.out; omega)
     clear hfb hf8
     go_wp2_with (at_builtin; go_loud (refine wpList_append_own_at _ rfl _ _ 26 rfl 0 5 i0 (.int .u8 0) 1 1 Tryz.underlying26 hi hz0 hz1 hz2 rfl (by decide) sv bs.length (cells8 bs) rfl (Hown.out.alloc _) ⟨wr.heap.size, 0, none⟩ 1 1 [.int .u8 0] rfl rfl (cell_one_new _ _ _) (cells8_one [0]) Hb.1 Hb.2 (Nat.zero_le _) ?_; intro v' w1 hown' hgrow _ hrow'; obtain ⟨gr, cap, rfl, _, _⟩ := hown'.form (Nat.succ_pos _); have hblk1 := (Hblk.out.alloc _).grown hgrow (own_blk_ne Hown.out Hblk.out (by decide)).symm; have hd0 := hblk1.cell 0; have hd1 := hblk1.cell 1; have he0 := hblk1.frozen 0; have he1 := hblk1.frozen 1; simp at hd0 hd1; have Hblk1 := Lib.hid hblk1; have Hown' := Lib.hid hown'; have Hgrow := Lib.hid hgrow; have Hrow' := Lib.hid hrow'; clear hblk1 hown' hgrow hrow'))
     go_meet
     case rel =>
      obtain ⟨row2, e1, e2, e3⟩ := put_grow Hblk.out Hown.out Hrow.out Hlt.out Hlf.out Hval.out HN.out Hmod.out Hrr.out Hgrow.out Hown'.out Hrow'.out
      exact ⟨row2, 8, by omega, by omega, e1, e2, e3⟩
    ·have hfb : ((free : Int) == 0) = false := by simp; omega
     rw [hfb]
     go_wp2_with fail
     go_meet
     case rel => exact ⟨row', free, by omega, by omega, ⟨sv, bs, Hblk.out, Hown.out, Hrow.out, Hlt.out, Hlf.out, Hval.out, HN.out⟩, Hmod.out, Hrr.out⟩
   case rest =>
    obtain ⟨row2, free2, hr1, hr2, ⟨sv2, bs2, hblk2, hown2, hrow2, hlt2, hlf2, hval2, hN2⟩, hmod2, hrr2⟩ := hcut
    obtain ⟨bs0, b, rfl⟩ := snoc_of_ne (bs := bs2) (by rintro rfl; simp at hlf2; omega)
    obtain ⟨gr, cap, rfl, _, _⟩ := hown2.form (by simp)
    obtain ⟨m, hm, hm1, hm2, hm3⟩ : ∃ m : Nat, (if free2 < gk then (free2 : Int) else (gk : Int)) = (m : Int) ∧ 0 < m ∧ m ≤ gk ∧ m ≤ free2 := by
     by_cases h : free2 < gk
     ·exact ⟨free2, by rw [if_pos h], by omega, by omega, by omega⟩
     ·exact ⟨gk, by rw [if_neg h], by omega, by omega, by omega⟩
    obtain ⟨d, hd⟩ : ∃ d : Nat, d = gk - m := ⟨_, rfl⟩
    obtain ⟨f, hf⟩ : ∃ f : Nat, f = free2 - m := ⟨_, rfl⟩
    have hd1 : (gk : Int) - (m : Int) = (d : Int) := by omega
    have hf1 : (free2 : Int) - (m : Int) = (f : Int) := by omega
    have Hd := Lib.hid hd; have Hf := Lib.hid hf
    have hd64 : d ≤ 64 := by omega
    have hf8' : f ≤ 8 := by omega
    have hm8 : m ≤ 8 := by omega
    have Hfm : Hid (f + m = free2) := Lib.hid (by omega)
    clear hd hf
    clear hc0 hc1 hf0 Hblk Hown Hrow Hlt Hlf Hval HN Hmod Hrr
    have hc0 := hblk2.cell 0
    have hc1 := hblk2.cell 1
    have hf0 := hblk2.frozen 0
    have hf1' := hblk2.frozen 1
    simp at hc0 hc1
    have Hblk2 := Lib.hid hblk2; have Hown2 := Lib.hid hown2; have Hrow2 := Lib.hid hrow2; have Hlt2 := Lib.hid hlt2; have Hlf2 := Lib.hid hlf2; have Hval2 := Lib.hid hval2; have HN2 := Lib.hid hN2
    have Hmod2 := Lib.hid hmod2; have Hrr2 := Lib.hid hrr2
    clear hblk2 hown2 hrow2 hlt2 hlf2 hval2 hN2 hmod2 hrr2
    go_upto_region 8 with fail
    generalize hW : wc.setCell ⟨g, 1, none⟩ (.int .u64 (f : Int)) = W1
    have hblk3 : Blk W1 g 122 #[.slice (some ⟨gr, 0, none⟩) (bs0 ++ [b]).length cap, .int .u64 (f : Int)] := by rw [← hW]; simpa using Hblk2.out.set_ 1 (.int .u64 (f : Int))
    have hmod3 : Mod (fun i => i = g) wc W1 := by rw [← hW]; exact (Mod.refl (fun i => i = g) wc).setCell (p := ⟨g, 1, none⟩) (fun _ => rfl) _
    have hne3 := own_blk_ne Hown2.out Hblk2.out (by decide)
    have hown3 := hmod3.owns Hown2.out (fun k hk e => hne3 (by rw [hk, e]))
    clear hd1 hf1 hm
    have hd0 := hblk3.cell 0
    have hd1 := hblk3.cell 1
    have hdb := hown3.cellAt bs0.length (by simp)
    have hfb := hown3.frozenAt bs0.length
    rw [cells8_snoc, List.getElem?_append_right (by simp [cells8]), cells8_length, Nat.sub_self] at hdb
    simp at hd0 hd1 hdb
    have Hblk3 := Lib.hid hblk3; have Hmod3 := Lib.hid hmod3; have Hown3 := Lib.hid hown3; have Hne3 := Lib.hid hne3
    clear hblk3 hmod3 hown3 hne3 hW
    have hbl : bs0.length ≤ 1000000000 := by have := Hlf2.out; simp at this; omega
    have hw1 : IntKind.i64.wrap (bs0.length : Int) = (bs0.length : Int) := IntWalk.i64_in _ (by omega)
    have hx0 : (0 : Int) ≤ (bs0.length : Int) := by omega
    have hx1 : (bs0.length : Int) < (bs0.length : Int) + 1 := by omega
    go_still_tail 24, (by kernel_rfl)
    still_call (low_of v d m _ Hv1 hm8)
    repeat still_step
    refine wpStill_nil ?_
    rw [or_val v d m f b bs0 _ (lt256_snoc.1 Hlt2.out).2 (by have := Hfm.out; omega) (by rw [Hfm.out]; exact Hval2.out)]
    change wpList _ _ _ _ _ W1.drew
    have hd0' : W1.drew.cell? ⟨gr, bs0.length, none⟩ = _ := hdb
    have hd1' : W1.drew.frozen? ⟨gr, bs0.length, none⟩ = _ := hfb
    have Hblk4 : Hid (Blk W1.drew g _ _) := Lib.hid Hblk3.out
    have Hmod4 := Lib.hid (Hmod3.out.drew)
    have Hown4 : Hid (W1.drew.ownsRow _ _ _ _ _ _) := Lib.hid Hown3.out.drew
    clear hdb hfb hd0 hd1 Hblk3 Hmod3 Hown3
    generalize W1.drew = W2 at *
    go_wp2
    go_roundg d
    case measure => have := Hd.out; omega
    case rel =>
     refine ⟨by have := Hd.out; omega, rfl, ?_⟩
     exact put_fill hm1 hm2 hm3 hr2 hl Hd.out Hf.out Hrow2.out Hlt2.out Hlf2.out Hval2.out HN2.out Hmod2.out Hrr2.out Hblk4.out Hmod4.out Hown4.out
end Go.Proofs.YthgoppmgapaajaaGreatDoor

namespace Go.Proofs.YthgoppmgapaajaaGreatDoor
open Go.RowKit

theorem clone_nil (w : World) : Calls Tryz.prog 93 #[.slice none 0 0] w fun e w' => e = .returned (.slice none 0 0) ∧ w = w' := by
 have hq := @Lib.run_eql_slice_nil Tryz.prog
 go_enter Tryz.func93, Tryz.ntmps93
 go_wp2
 go_ret
 exact ⟨rfl, rfl⟩


/-- What a call answers that makes a row of its own. -/
def NewRow (w w' : World) (v : Value) (n : Nat) (xs : List Value) : Prop :=
 w'.ownsRow 0 5 1 v n xs ∧ Mod (fun _ => False) w w' ∧ ((v.ownBlock = none) ∨ ∃ r, v.ownBlock = some r ∧ w.heap.size ≤ r)

theorem clone_some (ad : Addr) (n c : Nat) (bs : List Nat) (w : World) (hn : bs.length = n) (hc : ∀ j u, (cells8 bs)[j]? = some u → w.cell? (ad.add j) = some u) (hg : bs = [] ∨ ad.block < w.heap.size) (hm : n ≤ 1000000000) :
  Calls Tryz.prog 93 #[.slice (some ad) n c] w fun e w' => ∃ v, e = .returned v ∧ NewRow w w' v n (cells8 bs) ∧ v ≠ .slice none 0 0 := by
 have hq := fun w => Lib.run_eql_slice_nil (P := Tryz.prog) w 26 5 (some ad) n c 0 0 Tryz.underlying26
 obtain ⟨i0, hi, hz0, hz1, hz2⟩ := info_parts Tryz.info5
 have Hb : Room 0 n := Room.mk _ _ (by omega)
 have Hown : Hid ((w.alloc (.cells #[] 5)).ownsRow 0 5 1 (.slice (some ⟨w.heap.size, 0, none⟩) 0 0) 0 []) := Lib.hid (World.ownsRow_lit w #[] 0 (Nat.zero_le _) (Nat.zero_le _) rfl)
 have Hc : Hid (∀ j u, (cells8 bs)[j]? = some u → (w.alloc (.cells #[] 5)).cell? (ad.add j) = some u) := Lib.hid (by
  intro j u hu
  rcases hg with rfl | hg
  ·simp [cells8] at hu
  ·rw [World.cell?_alloc_lt w _ _ (by rw [add_block]; exact hg)]
   exact hc j u hu)
 have Hn : Hid ((cells8 bs).length = n * 1) := Lib.hid (by rw [cells8_length]; omega)
 clear hc hn hm
 go_enter Tryz.func93, Tryz.ntmps93
 go_wp2_with (at_builtin; refine wpList_append_own_at _ rfl _ _ 26 rfl 0 5 i0 (.int .u8 0) 1 1 Tryz.underlying26 hi hz0 hz1 hz2 rfl (by decide) (.slice (some ⟨w.heap.size, 0, none⟩) 0 0) 0 [] rfl Hown.out ad n c (cells8 bs) rfl Hn.out Hc.out (cells8_one bs) Hb.1 Hb.2 (Nat.zero_le _) ?_; intro v' w1 hown' hgrow hnil hrow'; have Hown' := Lib.hid hown'; have Hgrow := Lib.hid hgrow; have Hnil := Lib.hid hnil; have Hrow' := Lib.hid hrow'; clear hown' hgrow hnil hrow')
 go_ret
 have h1 := Hgrow.out
 have h2 := Hrow'.out
 refine ⟨v', rfl, ⟨by simpa using Hown'.out, ?_, ?_⟩, ?_⟩
 ·refine ((Mod.refl _ _).alloc _).grown h1 ?_
  intro k hk hlt
  simp [Value.ownBlock] at hk
  omega
 ·rcases h2 with h2 | h2
  ·exact .inr ⟨_, h2, by simp⟩
  ·exact .inr ⟨_, h2, by simp⟩
 ·intro h
  have := (Hnil.out.1 h).1
  simp at this

theorem clone_any (row : Nat) (A : Option Addr) (n c : Nat) (bs : List Nat) (w : World) (hs : Sees w row A n (cells8 bs)) (hA : A = none → c = 0) (hm : n ≤ 1000000000) :
  Calls Tryz.prog 93 #[.slice A n c] w fun e w' => ∃ v, e = .returned v ∧ NewRow w w' v n (cells8 bs) := by
 have hlen : bs.length = n := by have := hs.1; rwa [cells8_length] at this
 rcases A with _ | ad
 ·obtain rfl := hA rfl
  have hn : n = 0 := by
   rcases Nat.eq_zero_or_pos n with h | h
   ·exact h
   ·obtain ⟨o, h', _⟩ := hs.2 h
    cases h'
  subst hn
  obtain rfl := List.eq_nil_of_length_eq_zero hlen
  refine (clone_nil w).mono ?_
  rintro e w' ⟨rfl, rfl⟩
  exact ⟨_, rfl, World.ownsRow_nil _ _ _ _, Mod.refl _ _, .inl rfl⟩
 ·refine (clone_some ad n c bs w hlen ?_ ?_ hm).mono fun e w' ⟨v, h1, h2, _⟩ => ⟨v, h1, h2⟩
  ·intro j u hu
   have hj : 0 < n := by have := (List.getElem?_eq_some_iff.1 hu).1; rw [cells8_length] at this; omega
   obtain ⟨o, h', _, hc⟩ := hs.2 hj
   injection h' with h'
   subst h'
   rw [add_addr]
   exact hc j u hu
  ·rcases Nat.eq_zero_or_pos n with h | h
   ·subst h
    exact .inl (List.eq_nil_of_length_eq_zero hlen)
   ·obtain ⟨o, h', hl, _⟩ := hs.2 h
    injection h' with h'
    subst h'
    exact .inr hl

def Packed (bs : List Nat) (N len : Nat) : Prop := lt256 bs ∧ ∃ free, free < 8 ∧ len + free = 8 * bs.length ∧ val bs = N * 2 ^ free

theorem bytes_any (g : Nat) (row : Option Nat) (N len : Nat) (w : World) (hw : Wr w g row N len) (hlen : len ≤ 1000000000) :
  Calls Tryz.prog 79 #[.pointer (some ⟨g, 0, none⟩)] w fun e w' => ∃ v bs, e = .returned v ∧ NewRow w w' v bs.length (cells8 bs) ∧ Packed bs N len := by
 obtain ⟨free, hf8, sv, bs, hblk, hown, hrow, hlt, hlf, hval, hN⟩ := hw
 have hc0 := hblk.cell 0
 simp at hc0
 have hpk : Packed bs N len := ⟨hlt, free, hf8, hlf, hval⟩
 have hsv : ∃ A c, sv = .slice A bs.length c ∧ (A = none → c = 0) := by
  rcases hown.2 with ⟨h1, h2⟩ | ⟨g', cap, cur, h1, _⟩
  ·exact ⟨none, 0, by rw [h1, h2], fun _ => rfl⟩
  ·exact ⟨_, _, h1, fun h => by cases h⟩
 obtain ⟨A, c, rfl, hA⟩ := hsv
 obtain ⟨r, hr⟩ : ∃ r, 0 < bs.length → (Value.slice A bs.length c).ownBlock = some r := by
  cases A with
  | none => exact ⟨0, fun h => by
    rcases hown.2 with ⟨_, h2⟩ | ⟨g', cap, cur, h1, _⟩
    ·omega
    ·cases h1⟩
  | some a => exact ⟨a.block, fun _ => rfl⟩
 have Hs := Lib.hid (Sees.of_own hown hr)
 have HA := Lib.hid hA
 have Hm : bs.length ≤ 1000000000 := by omega
 have Hpk := Lib.hid hpk
 clear hblk hown hrow hlt hlf hval hN hpk hA hr hf8
 go_enter Tryz.func79, Tryz.ntmps79
 go_wp2_with fail
 refine (clone_any r A bs.length c bs w Hs.out HA.out Hm).mono ?_
 rintro e w' ⟨v, rfl, hnew⟩
 have Hnew := Lib.hid hnew
 clear hnew
 go_wp2
 go_ret
 exact ⟨v, bs, rfl, Hnew.out, Hpk.out⟩

/-- A reader at block g, its bytes in block 'row': rem bits are left, R is their number. -/
def Rdr (w : World) (g row : Nat) (R rem : Nat) (ok : Bool) : Prop :=
 ∃ (A : Option Addr) (n c : Nat) (bs : List Nat) (used : Nat), Blk w g 159 #[.slice A n c, .int .u64 (used : Int), .bool (!ok)] ∧ n ≤ c ∧ Sees w row A n (cells8 bs) ∧ row ≠ g ∧ lt256 bs ∧
  rem + used = 8 * n ∧ used < 8 ∧ R = val bs % 2 ^ rem ∧ (ok = false → rem = 0)

theorem NewRow.form {w w1 : World} {v : Value} {n : Nat} {bs : List Nat} (h : NewRow w w1 v n (cells8 bs)) :
  ∃ A c row, v = .slice A n c ∧ n ≤ c ∧ (A = none → c = 0) ∧ w.heap.size ≤ row ∧ row ≠ w1.heap.size ∧ Sees w1 row A n (cells8 bs) := by
 obtain ⟨hown, hmod, hrow⟩ := h
 rcases hown.2 with ⟨h1, h2⟩ | ⟨g', cap, cur, h1, _, hg, hnc, _⟩
 ·subst h2
  refine ⟨none, 0, w1.heap.size + 1, h1, Nat.le_refl _, fun _ => rfl, by have := hmod.size; omega, by omega, ⟨?_, fun h => by omega⟩⟩
  simpa using hown.1
 ·have hl := (Array.getElem?_eq_some_iff.1 hg).1
  refine ⟨_, cap, g', h1, hnc, (fun h => by cases h), ?_, by omega, Sees.of_own (h1 ▸ hown) (fun _ => rfl)⟩
  rw [h1] at hrow
  rcases hrow with hr | ⟨r, hr, hle⟩
  ·cases hr
  ·simp [Value.ownBlock] at hr
   omega

theorem newReader_any (row : Nat) (A : Option Addr) (n c : Nat) (bs : List Nat) (w : World) (hs : Sees w row A n (cells8 bs)) (hA : A = none → c = 0) (hm : n ≤ 1000000000) (hlt : lt256 bs) :
  Calls Tryz.prog 104 #[.slice A n c] w fun e w' => ∃ g row', e = .returned (.pointer (some ⟨g, 0, none⟩)) ∧ w.heap.size ≤ g ∧ w.heap.size ≤ row' ∧ Mod (fun _ => False) w w' ∧
   Rdr w' g row' (val bs) (8 * n) true := by
 have Hs := Lib.hid hs
 have HA := Lib.hid hA
 have hlen : Hid (bs.length = n) := Lib.hid (by have := hs.1; rwa [cells8_length] at this)
 clear hs hA
 go_enter Tryz.func104, Tryz.ntmps104
 go_wp2_with fail
 refine (clone_any row A n c bs w Hs.out HA.out hm).mono ?_
 rintro e w1 ⟨v, rfl, hnew⟩
 obtain ⟨A', c', r, rfl, hnc, _, hr1, hr2, hs'⟩ := hnew.form
 have Hs' := Lib.hid hs'
 have Hmod := Lib.hid hnew.2.1
 clear hnew hs'
 go_wp2
 go_ret
 refine ⟨w1.heap.size, r, rfl, Hmod.out.size, hr1, Hmod.out.alloc _, A', n, c', bs, 0, Blk.new _ _ _, hnc, ?_, hr2, hlt, by omega, by omega, ?_, fun h => by cases h⟩
 ·exact Hs'.out.mod ((Mod.refl (fun _ => False) w1).alloc _) (fun _ h => h)
 ·rw [Nat.mod_eq_of_lt]
  have := val_lt hlt
  rw [hlen.out] at this
  exact this

theorem left_any (g row R rem : Nat) (ok : Bool) (w : World) (h : Rdr w g row R rem ok) (hm : rem ≤ 8000000000) :
  Calls Tryz.prog 123 #[.pointer (some ⟨g, 0, none⟩)] w fun e w' => e = .returned (.int .i64 (rem : Int)) ∧ ∃ n, w' = w.drewN n := by
 obtain ⟨A, n, c, bs, used, hblk, hnc, hs, hne, hlt, hrem, hused, hR, hok⟩ := h
 have hc0 := hblk.cell 0
 have hc1 := hblk.cell 1
 simp at hc0 hc1
 have Hrem := Lib.hid hrem
 have hn : n ≤ 1000000001 := by omega
 clear hblk hs hrem hR hok hlt hnc hne
 go_enter Tryz.func123, Tryz.ntmps123
 go_wp2
 go_quiet (fail)
 go_wp2
 go_ret
 exact ⟨ret_int (by have := Hrem.out; omega), _, rfl⟩

end Go.Proofs.YthgoppmgapaajaaGreatDoor

namespace Go.Proofs.YthgoppmgapaajaaGreatDoor
open Go.RowKit

theorem pass_less (g n c used m : Nat) (A : Option Addr) (e : Bool) (w : World) (hblk : Blk w g 159 #[.slice A n c, .int .u64 (used : Int), .bool e]) (h : used + m < 8) :
  Calls Tryz.prog 135 #[.pointer (some ⟨g, 0, none⟩), .int .u64 (m : Int)] w fun e' w' => e' = .returned (.tuple #[]) ∧
   Blk w' g 159 #[.slice A n c, .int .u64 ((used + m : Nat) : Int), .bool e] ∧ Mod (fun i => i = g) w w' := by
 have hc1 := hblk.cell 1
 have hf1 := hblk.frozen 1
 simp at hc1
 have hb : ((used : Int) + (m : Int) == 8) = false := by simp; omega
 have Hblk := Lib.hid hblk
 clear hblk
 go_enter Tryz.func135, Tryz.ntmps135
 go_wp2
 go_end0
 refine ⟨rfl, ?_, (Mod.refl (fun i => i = g) w).setCell (p := ⟨g, 1, none⟩) (fun _ => rfl) _⟩
 simpa using Hblk.out.set_ 1 (.int .u64 ((used : Int) + (m : Int)))

theorem pass_byte (g row o n c used m : Nat) (e : Bool) (w : World) (hblk : Blk w g 159 #[.slice (some ⟨row, o, none⟩) (n + 1) (c + 1), .int .u64 (used : Int), .bool e]) (h : used + m = 8) (hnc : n ≤ c) (hm : m ≤ 8) :
  Calls Tryz.prog 135 #[.pointer (some ⟨g, 0, none⟩), .int .u64 (m : Int)] w fun e' w' => e' = .returned (.tuple #[]) ∧
   (∃ A', (0 < n → A' = some ⟨row, o + 1, none⟩) ∧ Blk w' g 159 #[.slice A' n c, .int .u64 0, .bool e]) ∧ Mod (fun i => i = g) w w' := by
 have hc0 := hblk.cell 0
 have hc1 := hblk.cell 1
 have hf1 := hblk.frozen 1
 have hf0 := hblk.frozen 0
 simp at hc0 hc1
 have hb : ((used : Int) + (m : Int) == 8) = true := by simp; omega
 have Hblk := Lib.hid hblk
 have H := Lib.hid h
 have h8 : used ≤ 8 := by omega
 clear hblk h
 go_enter Tryz.func135, Tryz.ntmps135
 go_wp2
 all_goals go_end0
 ·obtain rfl : c = 0 := by assumption
  refine ⟨rfl, ⟨some ⟨row, o, none⟩, fun h => by omega, ?_⟩, ?_⟩
  ·simpa using ((Hblk.out.set_ 1 (.int .u64 ((used : Int) + (m : Int)))).set_ 0 (.slice (some ⟨row, o, none⟩) n 0)).set_ 1 (.int .u64 0)
  ·exact (((Mod.refl (fun i => i = g) w).setCell (p := ⟨g, 1, none⟩) (fun _ => rfl) _).setCell (p := ⟨g, 0, none⟩) (fun _ => rfl) _).setCell (p := ⟨g, 1, none⟩) (fun _ => rfl) _
 ·refine ⟨rfl, ⟨some ⟨row, o + 1, none⟩, fun _ => rfl, ?_⟩, ?_⟩
  ·simpa using ((Hblk.out.set_ 1 (.int .u64 ((used : Int) + (m : Int)))).set_ 0 (.slice (some ⟨row, o + 1, none⟩) n c)).set_ 1 (.int .u64 0)
  ·exact (((Mod.refl (fun i => i = g) w).setCell (p := ⟨g, 1, none⟩) (fun _ => rfl) _).setCell (p := ⟨g, 0, none⟩) (fun _ => rfl) _).setCell (p := ⟨g, 1, none⟩) (fun _ => rfl) _

/-- A reader goes on by m bits of its first byte. -/
theorem pass_any (g row R rem m : Nat) (ok : Bool) (w : World) (A : Option Addr) (n c : Nat) (bs : List Nat) (used : Nat) (hblk : Blk w g 159 #[.slice A n c, .int .u64 (used : Int), .bool (!ok)]) (hnc : n ≤ c)
  (hs : Sees w row A n (cells8 bs)) (hne : row ≠ g) (hlt : lt256 bs) (hrem : rem + used = 8 * n) (hR : R = val bs % 2 ^ rem) (hok : ok = false → rem = 0) (hm0 : 0 < m) (hm : used + m ≤ 8) (hmr : m ≤ rem) :
  Calls Tryz.prog 135 #[.pointer (some ⟨g, 0, none⟩), .int .u64 (m : Int)] w fun e' w' => e' = .returned (.tuple #[]) ∧ Rdr w' g row (R % 2 ^ (rem - m)) (rem - m) ok ∧ Mod (fun i => i = g) w w' := by
 have hR2 : R % 2 ^ (rem - m) = val bs % 2 ^ (rem - m) := by rw [hR, rest_bits _ _ _ hmr]
 rcases Nat.lt_or_ge (used + m) 8 with h8 | h8
 ·refine (pass_less g n c used m A (!ok) w hblk h8).mono ?_
  rintro e w' ⟨rfl, hb, hmod⟩
  exact ⟨rfl, ⟨A, n, c, bs, used + m, hb, hnc, hs.mod hmod (fun _ => hne), hne, hlt, by omega, h8, hR2, fun h => by have := hok h; omega⟩, hmod⟩
 ·obtain ⟨n, rfl⟩ : ∃ n', n = n' + 1 := ⟨n - 1, by omega⟩
  obtain ⟨c, rfl⟩ : ∃ c', c = c' + 1 := ⟨c - 1, by omega⟩
  obtain ⟨o, rfl, hlr, hc⟩ := hs.2 (by omega)
  refine (pass_byte g row o n c used m (!ok) w hblk (by omega) (by omega) (by omega)).mono ?_
  rintro e w' ⟨rfl, ⟨A', hA', hb⟩, hmod⟩
  have hlen := hs.1
  rw [cells8_length] at hlen
  obtain ⟨b, bs, rfl⟩ : ∃ b bs', bs = b :: bs' := by
   cases bs with
   | nil => simp at hlen
   | cons b bs => exact ⟨b, bs, rfl⟩
  simp at hlen
  refine ⟨rfl, ⟨A', n, c, bs, 0, hb, by omega, ⟨by rw [cells8_length]; exact hlen, fun hn => ⟨o + 1, hA' hn, Nat.lt_of_lt_of_le hlr hmod.size, fun j u hu => ?_⟩⟩, hne, (lt256_cons.1 hlt).2, by omega, by omega, ?_, fun h => by have := hok h; omega⟩, hmod⟩
  ·rw [hmod.cell (a := ⟨row, o + 1 + j, none⟩) hlr hne, show o + 1 + j = o + (j + 1) by omega]
   exact hc (j + 1) u (by simpa [cells8] using hu)
  ·rw [hR2, show rem - m = 8 * bs.length by omega, drop_byte]

theorem get_bound {R rem k l m V : Nat} (hV : V = R / 2 ^ (rem - (k - l))) (hR : R < 2 ^ rem) (hl : l ≤ k) (hk : k ≤ 64) (hm : m ≤ l) (hkr : k ≤ rem) : V * 2 ^ m + 2 ^ m ≤ 18446744073709551616 := by
 have h1 : V < 2 ^ (k - l) := by
  rw [hV, Nat.div_lt_iff_lt_mul (Nat.two_pow_pos _), ← Nat.pow_add, show k - l + (rem - (k - l)) = rem by omega]
  exact hR
 calc V * 2 ^ m + 2 ^ m = (V + 1) * 2 ^ m := by rw [Nat.add_mul, Nat.one_mul]
  _ ≤ 2 ^ (k - l) * 2 ^ m := Nat.mul_le_mul_right _ h1
  _ = 2 ^ (k - l + m) := by rw [Nat.pow_add]
  _ ≤ 2 ^ 64 := Nat.pow_le_pow_right (by omega) (by omega)

theorem get_or (V b f m : Nat) (hV : V * 2 ^ m + 2 ^ m ≤ 18446744073709551616) :
  bits BinOp.or IntKind.u64 (IntKind.u64.wrap ((V : Int) * 2 ^ m)) (IntKind.u64.wrap ((b : Int) / 2 ^ f % 2 ^ m)) = ((V * 2 ^ m + b / 2 ^ f % 2 ^ m : Nat) : Int) := by
 have hx : b / 2 ^ f % 2 ^ m < 2 ^ m := Nat.mod_lt _ (Nat.two_pow_pos m)
 have e1 : (V : Int) * 2 ^ m = ((V * 2 ^ m : Nat) : Int) := by simp
 have e2 : (b : Int) / 2 ^ f % 2 ^ m = ((b / 2 ^ f % 2 ^ m : Nat) : Int) := by simp
 rw [e1, e2, IntKind.wrap_u64, IntKind.wrap_u64]
 have h0 := nat_join m (V * 2 ^ m) (b / 2 ^ f % 2 ^ m) (Nat.mul_mod_left _ _) hx
 generalize V * 2 ^ m = y at *
 generalize b / 2 ^ f % 2 ^ m = x at *
 generalize 2 ^ m = z at *
 rw [Int.emod_eq_of_lt (by omega) (by omega), Int.emod_eq_of_lt (by omega) (by omega), u64_or_nat _ _ (by omega) (by omega), h0]

/-- What Get has read, l bits from the end. -/
def GetTo (w wr : World) (g row R rem : Nat) (ok : Bool) (k l : Nat) : Prop :=
 Rdr wr g row (R % 2 ^ (rem - (k - l))) (rem - (k - l)) ok ∧ Mod (fun i => i = g) w wr

theorem get_many (g row R rem k : Nat) (ok : Bool) (n : Int) (w : World) (hn : FitI n) (hk : max 0 (min n 64) = (k : Int)) (h : Rdr w g row R rem ok) (hkr : ¬ k ≤ rem) (hm : rem ≤ 8000000000) :
  Calls Tryz.prog 119 #[.pointer (some ⟨g, 0, none⟩), .int .i64 n] w fun e w' => e = .returned (.int .u64 0) ∧ Rdr w' g row 0 0 false ∧ Mod (fun i => i = g) w w' := by
 go_enter Tryz.func119, Tryz.ntmps119
 go_wp2_with fail
 refine (held_any n _ hn.1 hn.2).mono ?_
 rintro e w' ⟨rfl, rfl⟩
 rw [hk]
 have hk64 : k ≤ 64 := by omega
 clear hk hn
 go_wp2_with fail
 refine (left_any g row R rem ok _ h hm).mono ?_
 rintro e w' ⟨rfl, nq, rfl⟩
 obtain ⟨A, n', c, bs, used, hblk, hnc, hs, hne, hlt, hrem, hused, hR, hok⟩ := h
 have hc0 := hblk.cell 0
 have hc1 := hblk.cell 1
 have hc2 := hblk.cell 2
 have hf0 := hblk.frozen 0
 have hf1 := hblk.frozen 1
 have hf2 := hblk.frozen 2
 simp at hc0 hc1 hc2
 have Hblk := Lib.hid hblk
 have Hne := Lib.hid hne
 clear hblk hs hrem hR hok hlt hnc hne
 go_wp2
 go_ret
 refine ⟨rfl, ⟨none, 0, 0, [], 0, ?_, Nat.le_refl _, ⟨rfl, fun h => by omega⟩, Hne.out, lt256_nil, rfl, by omega, rfl, fun _ => rfl⟩, ?_⟩
 ·simpa using (((Hblk.out.drewN nq).set_ 0 (.slice none 0 0)).set_ 1 (.int .u64 0)).set_ 2 (.bool true)
 ·exact ((((Mod.refl (fun i => i = g) w).drewN nq).setCell (p := ⟨g, 0, none⟩) (fun _ => rfl) _).setCell (p := ⟨g, 1, none⟩) (fun _ => rfl) _).setCell (p := ⟨g, 2, none⟩) (fun _ => rfl) _

set_option maxHeartbeats 1000000 in
set_option maxRecDepth 100000 in
theorem get_any (g row R rem k : Nat) (ok : Bool) (n : Int) (w : World) (hn : FitI n) (hk : max 0 (min n 64) = (k : Int)) (h : Rdr w g row R rem ok) (hR : R < 2 ^ rem) (hkr : k ≤ rem) (hm : rem ≤ 8000000000) :
  Calls Tryz.prog 119 #[.pointer (some ⟨g, 0, none⟩), .int .i64 n] w fun e w' => e = .returned (.int .u64 ((R / 2 ^ (rem - k) : Nat) : Int)) ∧ Rdr w' g row (R % 2 ^ (rem - k)) (rem - k) ok ∧ Mod (fun i => i = g) w w' := by
 go_enter Tryz.func119, Tryz.ntmps119
 go_wp2_with fail
 refine (held_any n _ hn.1 hn.2).mono ?_
 rintro e w' ⟨rfl, rfl⟩
 rw [hk]
 have hk64 : k ≤ 64 := by omega
 clear hk hn
 go_wp2_with fail
 refine (left_any g row R rem ok _ h hm).mono ?_
 rintro e w' ⟨rfl, nq, rfl⟩
 have hgt : ¬ rem < k := by omega
 have H := Lib.hid h
 have HR := Lib.hid hR
 clear h hR
 go_upto_region 6 with fail
 go_loopg [5, 6] k (fun l s5 s6 wr => l ≤ k ∧ s5 = .int .u64 (l : Int) ∧ s6 = .int .u64 ((R / 2 ^ (rem - (k - l)) : Nat) : Int) ∧ GetTo w wr g row R rem ok k l)
 case atStart =>
  have hR := HR.out
  refine ⟨Nat.le_refl _, rfl, ?_, ?_, (Mod.refl _ _).drewN _⟩
  ·rw [Nat.sub_self, Nat.sub_zero, Nat.div_eq_of_lt hR]; rfl
  ·rw [Nat.sub_self, Nat.sub_zero, Nat.mod_eq_of_lt hR]
   exact H.out
 case round =>
  obtain ⟨hl, rfl, rfl, ⟨A, n', c, bs, used, hblk, hnc, hs, hne, hlt, hrem, hused, hR', hok⟩, hmod⟩ := hrel
  by_cases hl0 : gk = 0
  ·subst hl0
   have Hr : Hid (Rdr wr g row (R % 2 ^ (rem - k)) (rem - k) ok) := Lib.hid ⟨A, n', c, bs, used, hblk, hnc, hs, hne, hlt, hrem, hused, hR', hok⟩
   have Hmod := Lib.hid hmod
   clear hblk hs hrem hR' hok hlt hnc hne hmod
   go_wp2
   go_ret
   exact ⟨rfl, Hr.out, Hmod.out⟩
  ·have hl1 : 0 < gk := by omega
   have hn1 : 0 < n' := by omega
   obtain ⟨o, rfl, hrl, hcell⟩ := hs.2 hn1
   have hlen := hs.1
   rw [cells8_length] at hlen
   obtain ⟨b, bs', rfl⟩ : ∃ b bs', bs = b :: bs' := by
    cases bs with
    | nil => simp at hlen; omega
    | cons b bs => exact ⟨b, bs, rfl⟩
   obtain ⟨q, hq⟩ : ∃ q : Nat, q = 8 - used := ⟨_, rfl⟩
   have hq1 : (8 : Int) - (used : Int) = (q : Int) := by omega
   obtain ⟨m, hm1, hm0, hml, hmq⟩ : ∃ m : Nat, (if q < gk then (q : Int) else (gk : Int)) = (m : Int) ∧ 0 < m ∧ m ≤ gk ∧ m ≤ q := by
    by_cases h : q < gk
    ·exact ⟨q, by rw [if_pos h], by omega, by omega, by omega⟩
    ·exact ⟨gk, by rw [if_neg h], by omega, by omega, by omega⟩
   obtain ⟨d, hd⟩ : ∃ d : Nat, d = gk - m := ⟨_, rfl⟩
   obtain ⟨f, hf⟩ : ∃ f : Nat, f = q - m := ⟨_, rfl⟩
   have hd1 : (gk : Int) - (m : Int) = (d : Int) := by omega
   have hf1 : (q : Int) - (m : Int) = (f : Int) := by omega
   have hq8 : q ≤ 8 := by omega
   have hm8 : m ≤ 8 := by omega
   have hf8 : f ≤ 8 := by omega
   have hd64 : d ≤ 64 := by omega
   have Hd := Lib.hid hd; have Hf := Lib.hid hf; have Hq := Lib.hid hq
   have hc0 := hblk.cell 0
   have hc1 := hblk.cell 1
   have hcb := hcell 0 (.int .u8 (b : Int)) (by simp [cells8])
   simp at hc0 hc1 hcb
   have Hblk := Lib.hid hblk; have Hs := Lib.hid hs; have Hrem := Lib.hid hrem; have HR' := Lib.hid hR'; have Hok := Lib.hid hok; have Hlt := Lib.hid hlt; have Hne := Lib.hid hne; have Hmod := Lib.hid hmod; have Hnc := Lib.hid hnc
   clear hblk hs hrem hR' hok hlt hne hmod hd hf hq hlen hcell
   go_upto_region 9 with fail
   obtain ⟨V, hV⟩ : ∃ V, V = R / 2 ^ (rem - (k - gk)) := ⟨_, rfl⟩
   rw [← hV]
   have HV := Lib.hid hV
   have hb64 : Lt64 b := by have := (lt256_cons.1 Hlt.out).1; unfold Lt64; omega
   have hw0 : IntKind.u64.wrap (q : Int) = (q : Int) := by rw [IntKind.wrap_u64]; omega
   have hw1 : IntKind.u64.wrap (f : Int) = (f : Int) := by rw [IntKind.wrap_u64]; omega
   have hw2 : IntKind.u64.wrap (b : Int) = (b : Int) := by have := hb64.out; rw [IntKind.wrap_u64]; omega
   have hn0 : (0 : Int) < (n' : Int) := by omega
   clear hV hc1 hd1 hm1
   have hc1 : wr.cell? ⟨g, 1, none⟩ = some (.int .u64 (used : Int)) := by simpa using Hblk.out.cell 1
   go_quiet ((go_at_call 112; exact Calls.quiet_of_same (low_of b f m _ hb64 hm8)))
   go_upto_region 10 with fail
   have hVb : Hid (V * 2 ^ m + 2 ^ m ≤ 18446744073709551616) := Lib.hid (get_bound HV.out HR.out hl hk64 hml hkr)
   rw [get_or V b f m hVb.out]
   clear hVb
   go_wp2_with fail
   refine (pass_any g row (R % 2 ^ (rem - (k - gk))) (rem - (k - gk)) m ok _ (some ⟨row, o, none⟩) n' c (b :: bs') used (Hblk.out.drewN nq) Hnc.out (Hs.out.mod ((Mod.refl (fun _ => False) wr).drewN nq) (fun _ h => h)) Hne.out Hlt.out Hrem.out HR'.out Hok.out hm0
    (by have := Hq.out; omega) (by have := Hrem.out; omega)).mono ?_
   rintro e w2 ⟨rfl, hr2, hmod2⟩
   have Hr2 := Lib.hid hr2
   have Hmod2 := Lib.hid hmod2
   clear hr2 hmod2
   go_wp2
   go_roundg d
   case measure => have := Hd.out; omega
   case rel =>
    have hd := Hd.out
    have e1 : rem - (k - d) = rem - (k - gk) - m := by omega
    have e2 : f = 8 - used - m := by have := Hf.out; have := Hq.out; omega
    have hlen := Hs.out.1
    simp [cells8] at hlen
    have e3 : V * 2 ^ m + b / 2 ^ f % 2 ^ m = R / 2 ^ (rem - (k - d)) := by
     rw [e1, read_more R (rem - (k - gk)) m (by omega), ← HV.out, HR'.out, e2, take_bits b bs' used m (rem - (k - gk)) Hlt.out (by have := Hq.out; omega) (by rw [hlen]; exact Hrem.out)]
    refine ⟨by omega, rfl, by rw [← e3]; simp, ?_, (Hmod.out.drewN nq).trans Hmod2.out (fun _ _ h => h)⟩
    rw [e1]
    have := Hr2.out
    rwa [rest_bits _ _ _ (by omega)] at this
end Go.Proofs.YthgoppmgapaajaaGreatDoor

namespace Go.Proofs.YthgoppmgapaajaaGreatDoor
open Go.RowKit

/-- Put, as its callers take it. -/
theorem put_wr (g : Nat) (row : Option Nat) (N len k : Nat) (v n : Int) (w : World) (hn : FitI n) (hv : Fit64 v) (hk : max 0 (min n 64) = (k : Int)) (hw : Wr w g row N len) (hlen : len ≤ 1000000000) :
  Calls Tryz.prog 91 #[.pointer (some ⟨g, 0, none⟩), .int .u64 v, .int .i64 n] w fun e w' => e = .returned (.tuple #[]) ∧
   ∃ row', Wr w' g row' (N * 2 ^ k + v.toNat % 2 ^ k) (len + k) ∧ Mod (fun i => i = g ∨ row = some i) w w' ∧ RowTo w row row' := by
 refine (put_any g row N len v n w hn hv hw hlen).mono ?_
 rintro e w' ⟨rfl, row', h1, h2, h3⟩
 rw [hk, Int.toNat_natCast, Nat.sub_zero, Nat.pow_zero, Nat.div_one] at h1
 exact ⟨rfl, row', h1, h2, h3⟩

theorem newWriter_wr (w : World) :
  Calls Tryz.prog 77 #[] w fun e w' => ∃ g, e = .returned (.pointer (some ⟨g, 0, none⟩)) ∧ w.heap.size ≤ g ∧ g < w'.heap.size ∧ Wr w' g none 0 0 ∧ Mod (fun _ => False) w w' := by
 refine (newWriter_any w).mono ?_
 rintro e w' ⟨rfl, rfl⟩
 exact ⟨_, rfl, Nat.le_refl _, by simp, ⟨0, by omega, .slice none 0 0, [], Blk.new _ _ _, World.ownsRow_nil _ _ _ _, rfl, lt256_nil, rfl, rfl, by omega⟩, (Mod.refl _ _).alloc _⟩

theorem Rdr.mod {w w1 : World} {S : Nat → Prop} {g row R rem : Nat} {ok : Bool} (h : Rdr w g row R rem ok) (hm : Mod S w w1) (h1 : ¬ S g) (h2 : row < w.heap.size → ¬ S row) : Rdr w1 g row R rem ok := by
 obtain ⟨A, n, c, bs, used, hblk, hnc, hs, rest⟩ := h
 exact ⟨A, n, c, bs, used, hm.blk hblk h1, hnc, hs.mod hm h2, rest⟩
theorem Wr.mod {w w1 : World} {S : Nat → Prop} {g : Nat} {row : Option Nat} {N len : Nat} (h : Wr w g row N len) (hm : Mod S w w1) (h1 : ¬ S g) (h2 : ∀ k, row = some k → ¬ S k) : Wr w1 g row N len := by
 obtain ⟨free, hf, v, bs, hblk, hown, hrow, rest⟩ := h
 exact ⟨free, hf, v, bs, hm.blk hblk h1, hm.owns hown (fun k hk => h2 k (by rw [← hrow]; exact hk)), hrow, rest⟩
theorem Wr.lt {w : World} {g : Nat} {row : Option Nat} {N len : Nat} (h : Wr w g row N len) : g < w.heap.size := by
 obtain ⟨free, hf, v, bs, hblk, _⟩ := h
 exact hblk.lt
theorem Rdr.lt {w : World} {g row R rem : Nat} {ok : Bool} (h : Rdr w g row R rem ok) : g < w.heap.size := by
 obtain ⟨A, n, c, bs, used, hblk, _⟩ := h
 exact hblk.lt
theorem Rdr.small {w : World} {g row R rem : Nat} {ok : Bool} (h : Rdr w g row R rem ok) : R < 2 ^ rem := by
 obtain ⟨A, n, c, bs, used, _, _, _, _, _, _, _, rfl, _⟩ := h
 exact Nat.mod_lt _ (Nat.two_pow_pos _)

theorem Wr.row_lt {w : World} {g : Nat} {row : Option Nat} {N len : Nat} (h : Wr w g row N len) : ∀ k, row = some k → k < w.heap.size := by
 obtain ⟨free, hf, v, bs, hblk, hown, hrow, _⟩ := h
 intro k hk
 exact (hown.lt k (by rw [hrow, hk])).2

end Go.Proofs.YthgoppmgapaajaaGreatDoor

namespace Go.Proofs.YthgoppmgapaajaaGreatDoor
open Go.RowKit

def bval (L : List Nat) : Nat := L.foldl (fun a b => a * 2 + b) 0
theorem bval_snoc (L : List Nat) (b : Nat) : bval (L ++ [b]) = bval L * 2 + b := by simp [bval]
def lt2 (L : List Nat) : Prop := ∀ b ∈ L, b < 2
theorem lt2_snoc {L : List Nat} {b : Nat} (h : lt2 L) (hb : b < 2) : lt2 (L ++ [b]) := by
 intro x hx
 rcases List.mem_append.1 hx with h1 | h1
 ·exact h x h1
 ·simp at h1; omega

/-- The document's own writer at block g: its bits, one to a byte. -/
def RWr (w : World) (g : Nat) (row : Option Nat) (N len : Nat) : Prop :=
 ∃ (v : Value) (L : List Nat), Blk w g 69 #[v] ∧ w.ownsRow 0 5 1 v L.length (cells8 L) ∧ v.ownBlock = row ∧ lt2 L ∧ L.length = len ∧ bval L = N
def RPutTo (w wr : World) (g : Nat) (row : Option Nat) (N len u k l : Nat) : Prop :=
 ∃ row', RWr wr g row' (N * 2 ^ (k - l) + u / 2 ^ l) (len + (k - l)) ∧ Mod (fun i => i = g ∨ row = some i) w wr ∧ RowTo w row row'

theorem bit_u64 (v l : Nat) (hv : v < 18446744073709551616) : bits BinOp.and IntKind.u64 ((v : Int) / 2 ^ l) 1 = ((v / 2 ^ l % 2 : Nat) : Int) := by
 have e : (v : Int) / 2 ^ l = ((v / 2 ^ l : Nat) : Int) := by simp
 have h1 := Nat.div_le_self v (2 ^ l)
 rw [e]
 generalize v / 2 ^ l = x at *
 have := u64_and_nat x 1 (by omega) (by decide)
 rw [nat_mask1] at this
 exact this

theorem rput_step {w wr w1 : World} {g gr cap : Nat} {row row' : Option Nat} {N len v k l b : Nat} {sv : Value} {L : List Nat} (hl : l + 1 ≤ k) (hb : b = v / 2 ^ l % 2) (hblk : Blk wr g 69 #[sv]) (hown : wr.ownsRow 0 5 1 sv L.length (cells8 L))
  (hrow : sv.ownBlock = row') (hlt : lt2 L) (hlen : L.length = len + (k - (l + 1))) (hval : bval L = N * 2 ^ (k - (l + 1)) + v % 2 ^ k / 2 ^ (l + 1)) (hmod : Mod (fun i => i = g ∨ row = some i) w wr) (hrr : RowTo w row row')
  (hgrow : (wr.alloc (.cells #[.int .u8 (b : Int)] 5)).grownBy w1 sv.ownBlock) (hown' : w1.ownsRow 0 5 1 (.slice (some ⟨gr, 0, none⟩) (L.length + 1) cap) (L.length + 1) (cells8 L ++ [.int .u8 (b : Int)]))
  (hrow' : (Value.slice (some ⟨gr, 0, none⟩) (L.length + 1) cap).ownBlock = sv.ownBlock ∨ (Value.slice (some ⟨gr, 0, none⟩) (L.length + 1) cap).ownBlock = some (wr.alloc (.cells #[.int .u8 (b : Int)] 5)).heap.size) :
  RPutTo w (w1.setCell ⟨g, 0, none⟩ (.slice (some ⟨gr, 0, none⟩) (L.length + 1) cap)) g row N len (v % 2 ^ k) k l := by
 subst hrow
 have hne := own_blk_ne hown hblk (by decide)
 have hblk1 := (hblk.alloc (.cells #[.int .u8 (b : Int)] 5)).grown hgrow hne.symm
 have hne1 := own_blk_ne hown' hblk1 (by decide)
 refine ⟨some gr, ⟨.slice (some ⟨gr, 0, none⟩) (L.length + 1) cap, L ++ [b], ?_, ?_, rfl, lt2_snoc hlt (by omega), by simp; omega, ?_⟩, ?_, ?_⟩
 ·simpa using hblk1.set_ 0 (.slice (some ⟨gr, 0, none⟩) (L.length + 1) cap)
 ·have h1 : Mod (fun i => i = g) w1 (w1.setCell ⟨g, 0, none⟩ (.slice (some ⟨gr, 0, none⟩) (L.length + 1) cap)) := (Mod.refl (fun i => i = g) w1).setCell (p := ⟨g, 0, none⟩) (fun _ => rfl) _
  have := h1.owns hown' (fun k hk e => hne1 (by rw [hk, e]))
  rw [cells8_snoc]
  simpa using this
 ·have e1 := bits_more (v % 2 ^ k) (l + 1) 1 (by omega)
  rw [Nat.add_sub_cancel, mod_div_mod v k l 1 hl, Nat.pow_one, ← hb] at e1
  rw [bval_snoc, hval, e1, Nat.add_mul, Nat.mul_assoc, ← Nat.pow_succ, show (k - (l + 1)).succ = k - l by omega]
  omega
 ·refine ((hmod.alloc _).grown hgrow ?_).setCell (fun _ => .inl rfl) _
  intro k hk hlt'
  exact .inr (hrr.in_ hk hlt')
 ·refine hrr.trans (B := wr.heap.size) hmod.size ?_
  rcases hrow' with h | h
  ·exact .inl h
  ·exact .inr ⟨_, h, by simp⟩

set_option maxHeartbeats 1000000 in
set_option maxRecDepth 100000 in
theorem rput_any (g : Nat) (row : Option Nat) (N len k : Nat) (v : Nat) (n : Int) (w : World) (hk : max 0 (min n 64) = (k : Int)) (hv : Lt64 v) (hw : RWr w g row N len) (hlen : len ≤ 1000000000) :
  Calls Tryz.prog 54 #[.pointer (some ⟨g, 0, none⟩), .int .u64 (v : Int), .int .i64 n] w fun e w' => e = .returned (.tuple #[]) ∧
   RPutTo w w' g row N len (v % 2 ^ k) k 0 := by
 have hk64 : k ≤ 64 := by omega
 obtain ⟨mx, hmx, hmx2⟩ : ∃ mx : Int, (if n < 0 then (0 : Int) else n) = mx ∧ mx = max n 0 := ⟨_, rfl, by split <;> omega⟩
 have hmn : (if 64 < mx then (64 : Int) else mx) = (k : Int) := by split <;> omega
 have Hw := Lib.hid hw
 clear hw hk hmx2
 go_enter Tryz.func54, Tryz.ntmps54
 go_wp2_with fail
 clear hmx hmn
 go_loopg [6] k (fun l s6 wr => l ≤ k ∧ s6 = .int .i64 ((l : Int) - 1) ∧ RPutTo w wr g row N len (v % 2 ^ k) k l)
 case atStart =>
  refine ⟨Nat.le_refl _, rfl, row, ?_, Mod.refl _ _, .inl rfl⟩
  have e : v % 2 ^ k / 2 ^ k = 0 := Nat.div_eq_of_lt (Nat.mod_lt _ (Nat.two_pow_pos k))
  rw [Nat.sub_self, e, Nat.pow_zero, Nat.mul_one, Nat.add_zero, Nat.add_zero]
  exact Hw.out
 case round =>
  obtain ⟨hl, rfl, hP⟩ := hrel
  have HP := Lib.hid hP
  clear hP Hw
  by_cases hl0 : gk = 0
  ·subst hl0
   go_wp2
   go_end0
   exact ⟨rfl, HP.out⟩
  ·obtain ⟨l, rfl⟩ : ∃ l, gk = l + 1 := ⟨gk - 1, by omega⟩
   obtain ⟨row', ⟨sv, L, hblk, hown, hrow, hlt, hlen', hval⟩, hmod, hrr⟩ := HP.out
   have hc0 := hblk.cell 0
   have hf0 := hblk.frozen 0
   simp at hc0
   have hi1 : ((l + 1 : Nat) : Int) - 1 = (l : Int) := by omega
   rw [hi1]
   have Hlen' := Lib.hid hlen'; have Hval := Lib.hid hval; have Hrow := Lib.hid hrow; have Hrr := Lib.hid hrr; have Hlt := Lib.hid hlt; have Hown := Lib.hid hown
   have Hmod := Lib.hid hmod; have Hblk := Lib.hid hblk
   clear hlen' hval hrow hrr hlt hown hmod hblk HP hl0 hi1
   obtain ⟨b, hb⟩ : ∃ b, b = v / 2 ^ l % 2 := ⟨_, rfl⟩
   have hb2 : b < 2 := by omega
   have hbit : bits BinOp.and IntKind.u64 ((v : Int) / 2 ^ l) 1 = (b : Int) := by rw [bit_u64 v l hv.out, hb]
   have hb256 : (b : Int) % 256 = (b : Int) := by omega
   have Hb := Lib.hid hb
   clear hb
   obtain ⟨i0, hi, hz0, hz1, hz2⟩ := info_parts Tryz.info5
   have Hroom : Room L.length 1 := Room.mk _ _ (by have := Hlen'.out; omega)
   go_wp2_with (at_builtin; refine wpList_append_own_at _ rfl _ _ 26 rfl 0 5 i0 (.int .u8 0) 1 1 Tryz.underlying26 hi hz0 hz1 hz2 rfl (by decide) sv L.length (cells8 L) rfl (Hown.out.alloc _) ⟨wr.heap.size, 0, none⟩ 1 1 [.int .u8 (b : Int)] rfl rfl (cell_one_new _ _ _) (cells8_one [b]) Hroom.1 Hroom.2 (Nat.zero_le _) ?_; intro v' w1 hown' hgrow _ hrow'; obtain ⟨gr, cap, rfl, _, _⟩ := hown'.form (Nat.succ_pos _); have hblk1 := (Hblk.out.alloc _).grown hgrow (own_blk_ne Hown.out Hblk.out (by decide)).symm; have hd0 := hblk1.cell 0; have he0 := hblk1.frozen 0; simp at hd0; have Hblk1 := Lib.hid hblk1; have Hown' := Lib.hid hown'; have Hgrow := Lib.hid hgrow; have Hrow' := Lib.hid hrow'; clear hblk1 hown' hgrow hrow')
   go_roundg l
   case measure => omega
   case rel => exact ⟨by omega, rfl, rput_step hl Hb.out Hblk.out Hown.out Hrow.out Hlt.out Hlen'.out Hval.out Hmod.out Hrr.out Hgrow.out Hown'.out Hrow'.out⟩
end Go.Proofs.YthgoppmgapaajaaGreatDoor

namespace Go.Proofs.YthgoppmgapaajaaGreatDoor
open Go.RowKit

/-- What the document's own Bytes has made of i bits; the last byte has 'fr' to fill. -/
def RB (w wr : World) (vo : Value) (L : List Nat) (i fr : Nat) : Prop :=
 ∃ out : List Nat, wr.ownsRow 0 5 1 vo out.length (cells8 out) ∧ (vo.ownBlock = none ∨ ∃ r, vo.ownBlock = some r ∧ w.heap.size ≤ r) ∧ lt256 out ∧ i + fr = 8 * out.length ∧ val out = bval (L.take i) * 2 ^ fr ∧ Mod (fun _ => False) w wr

theorem rb_grow {w wr w1 : World} {vo v' : Value} {L : List Nat} {i : Nat} {out : List Nat} (hvo : vo.ownBlock = none ∨ ∃ r, vo.ownBlock = some r ∧ w.heap.size ≤ r) (hlt : lt256 out)
  (hlen : i + 0 = 8 * out.length) (hval : val out = bval (L.take i) * 2 ^ 0) (hmod : Mod (fun _ => False) w wr) (hgrow : (wr.alloc (.cells #[.int .u8 0] 5)).grownBy w1 vo.ownBlock) (hown' : w1.ownsRow 0 5 1 v' (out.length + 1) (cells8 out ++ [.int .u8 0]))
  (hrow' : v'.ownBlock = vo.ownBlock ∨ v'.ownBlock = some (wr.alloc (.cells #[.int .u8 0] 5)).heap.size) : RB w w1 v' L i 8 := by
 refine ⟨out ++ [0], by rw [cells8_snoc]; simpa using hown', ?_, lt256_snoc.2 ⟨hlt, by omega⟩, by simp; omega, by rw [val_snoc, hval]; omega, ?_⟩
 ·rcases hrow' with h | h
  ·rw [h]; exact hvo
  ·exact .inr ⟨_, h, by have := hmod.size; simp; omega⟩
 ·refine (hmod.alloc _).grown hgrow ?_
  intro k hk hlt'
  rcases hvo with h | ⟨r, h, hr⟩
  ·rw [h] at hk; cases hk
  ·rw [h] at hk; injection hk with hk; omega

theorem rb_or (x f b : Nat) (bs0 : List Nat) (N : Nat) (hx : x < 2) (hb : b < 256) (hf : f + 1 ≤ 8) (hv : val (bs0 ++ [b]) = N * 2 ^ (f + 1)) :
  bits BinOp.or IntKind.u8 (b : Int) (IntKind.u8.wrap ((x : Int) * 2 ^ f)) = ((b + x * 2 ^ f : Nat) : Int) ∧ b + x * 2 ^ f < 256 ∧ val (bs0 ++ [b + x * 2 ^ f]) = (N * 2 + x) * 2 ^ f := by
 obtain ⟨h1, h2, h3⟩ := last_step bs0 b N (f + 1) 1 x hb hf (by omega) (by omega) hv
 rw [Nat.add_sub_cancel] at h1 h2 h3
 rw [Nat.pow_one] at h3
 refine ⟨?_, h2, h3⟩
 have e : (x : Int) * 2 ^ f = ((x * 2 ^ f : Nat) : Int) := by simp
 rw [e, IntKind.wrap_u8', Int.emod_eq_of_lt (Int.natCast_nonneg _) (by omega), u8_or_nat _ _ hb (by omega), h1]

theorem take_more {L : List Nat} {i x : Nat} (h : L[i]? = some x) : L.take (i + 1) = L.take i ++ [x] := by
 have hi := (List.getElem?_eq_some_iff.1 h).1
 rw [List.take_succ_eq_append_getElem hi]
 congr 2
 exact (List.getElem?_eq_some_iff.1 h).2

set_option maxHeartbeats 1000000 in
set_option maxRecDepth 100000 in
theorem rbytes_any (g : Nat) (row : Option Nat) (N len : Nat) (w : World) (hw : RWr w g row N len) (hlen : len ≤ 1000000000) :
  Calls Tryz.prog 37 #[.pointer (some ⟨g, 0, none⟩)] w fun e w' => ∃ v bs, e = .returned v ∧ NewRow w w' v bs.length (cells8 bs) ∧ Packed bs N len := by
 obtain ⟨sv, L, hblk, hown, hrow, hlt, rfl, rfl⟩ := hw
 obtain ⟨A, c, rfl⟩ : ∃ A c, sv = .slice A L.length c := by
  rcases hown.2 with ⟨h1, h2⟩ | ⟨g', cap, cur, h1, _⟩
  ·exact ⟨none, 0, by rw [h1, h2]⟩
  ·exact ⟨_, _, h1⟩
 have Hblk := Lib.hid hblk; have Hown := Lib.hid hown; have Hlt := Lib.hid hlt
 have hc0 := hblk.cell 0
 simp at hc0
 clear hblk hown hrow hlt
 go_enter Tryz.func37, Tryz.ntmps37
 go_wp2_with fail
 go_loopg [3, 4] L.length (fun l s3 s4 wr => ∃ i fr : Nat, i + l = L.length ∧ s4 = .int .i64 (i : Int) ∧ fr < 8 ∧ RB w wr s3 L i fr)
 case atStart => exact ⟨0, 0, by omega, rfl, by omega, [], World.ownsRow_nil _ _ _ _, .inl rfl, lt256_nil, rfl, rfl, Mod.refl _ _⟩
 case round =>
  obtain ⟨i, fr, hil, rfl, hfr, out, hown, hvo, hlt, hlen', hval, hmod⟩ := hrel
  have hblkr : Hid (Blk wr g 69 #[.slice A L.length c]) := Lib.hid (hmod.blk Hblk.out (fun h => h))
  have hcr0 := hblkr.out.cell 0
  simp at hcr0
  have Hil := Lib.hid hil; have Hvo := Lib.hid hvo; have Hout := Lib.hid hown; have Hlt' := Lib.hid hlt; have Hlen := Lib.hid hlen'; have Hval := Lib.hid hval; have Hmod := Lib.hid hmod
  clear hvo hown hlt hlen' hval hmod hc0 hil
  by_cases hl0 : gk = 0
  ·have hi : ¬ i < L.length := by have := Hil.out; omega
   go_wp2
   go_ret
   have hiL : i = L.length := by have := Hil.out; omega
   refine ⟨u3, out, rfl, ⟨Hout.out, Hmod.out, Hvo.out⟩, Hlt'.out, fr, hfr, by rw [← hiL]; exact Hlen.out, ?_⟩
   rw [Hval.out, hiL, List.take_length]
  ·have hi : i < L.length := by have := Hil.out; omega
   have hi0 : (0 : Int) ≤ (i : Int) := by omega
   go_upto_if 16 with fail
   go_cut [3] (fun s3 wc => ∃ fr2, 0 < fr2 ∧ fr2 ≤ 8 ∧ RB w wc s3 L i fr2)
   case first =>
    by_cases hfr0 : fr = 0
    ·have hfb : ((i : Int) % 8 == 0) = true := by have := Hlen.out; simp; omega
     rw [hfb]
     subst hfr0
     obtain ⟨i0, hi1, hz0, hz1, hz2⟩ := info_parts Tryz.info5
     have Hb : Room out.length 1 := Room.mk _ _ (by have := Hlen.out; omega)
     go_wp2_with (at_builtin; refine wpList_append_own_at _ rfl _ _ 26 rfl 0 5 i0 (.int .u8 0) 1 1 Tryz.underlying26 hi1 hz0 hz1 hz2 rfl (by decide) u3 out.length (cells8 out) rfl (Hout.out.alloc _) ⟨wr.heap.size, 0, none⟩ 1 1 [.int .u8 0] rfl rfl (cell_one_new _ _ _) (cells8_one [0]) Hb.1 Hb.2 (Nat.zero_le _) ?_; intro v' w1 hown' hgrow _ hrow'; have Hown' := Lib.hid hown'; have Hgrow := Lib.hid hgrow; have Hrow' := Lib.hid hrow'; clear hown' hgrow hrow')
     go_meet
     case rel => exact ⟨8, by omega, by omega, rb_grow Hvo.out Hlt'.out Hlen.out Hval.out Hmod.out Hgrow.out Hown'.out Hrow'.out⟩
    ·have hfb : ((i : Int) % 8 == 0) = false := by have := Hlen.out; simp; omega
     rw [hfb]
     go_wp2_with fail
     go_meet
     case rel => exact ⟨fr, by omega, by omega, out, Hout.out, Hvo.out, Hlt'.out, Hlen.out, Hval.out, Hmod.out⟩
   case rest =>
    clear Hvo Hout Hlt' Hlen Hval Hmod hcr0 hblkr
    obtain ⟨fr2, hf1, hf2, out2, hown, hvo, hlt, hlen', hval, hmod⟩ := hcut
    obtain ⟨o0, b, rfl⟩ := snoc_of_ne (bs := out2) (by rintro rfl; simp at hlen'; omega)
    obtain ⟨gr, cap, rfl, _, _⟩ := hown.form (by simp)
    obtain ⟨f, rfl⟩ : ∃ f, fr2 = f + 1 := ⟨fr2 - 1, by omega⟩
    obtain ⟨x, hx⟩ : ∃ x, L[i]? = some x := ⟨L[i], List.getElem?_eq_getElem hi⟩
    have hx2 : x < 2 := Hlt.out x (List.mem_of_getElem? hx)
    obtain ⟨ab, rfl, hcx⟩ : ∃ ab, A = some ⟨ab, 0, none⟩ ∧ wc.cell? ⟨ab, i, none⟩ = some (.int .u8 (x : Int)) := by
     obtain ⟨ab, cap', e1, _, _⟩ := Hown.out.form (by omega)
     injection e1 with e1
     refine ⟨ab, e1, ?_⟩
     have ho := hmod.owns Hown.out (fun _ _ h => h)
     rw [e1] at ho
     rw [ho.cellAt i (by omega), cells8_get, hx]
     rfl
    have hblkr := hmod.blk Hblk.out (fun h => h)
    have hcr0 := hblkr.cell 0
    simp at hcr0
    have hq : (i : Int) / 8 = (o0.length : Int) := by simp at hlen'; omega
    obtain ⟨t, ht⟩ : ∃ t, t = i % 8 := ⟨_, rfl⟩
    have ht1 : (i : Int).tmod 8 = (t : Int) := by rw [Int.tmod_eq_emod_of_nonneg hi0]; omega
    have hw7 : IntKind.i64.wrap (7 - (t : Int)) = (f : Int) := by rw [IntWalk.i64_in _ (by omega)]; simp at hlen'; omega
    have hw8 : IntKind.u64.wrap (f : Int) = (f : Int) := by rw [IntKind.wrap_u64]; omega
    have hmin : min f 8 = f := by omega
    clear ht
    have hcb := hown.cellAt o0.length (by simp)
    have hfz := hown.frozenAt o0.length
    rw [cells8_snoc, List.getElem?_append_right (by simp [cells8]), cells8_length, Nat.sub_self] at hcb
    simp at hcb
    have hol : o0.length ≤ 1000000000 := by simp at hlen'; omega
    have hw1 : IntKind.i64.wrap (o0.length : Int) = (o0.length : Int) := IntWalk.i64_in _ (by omega)
    have hx0 : (0 : Int) ≤ (o0.length : Int) := by omega
    have hx1 : (o0.length : Int) < (o0.length : Int) + 1 := by omega
    have hi2 : (i : Int) < (L.length : Int) := by omega
    have Hown2 := Lib.hid hown; have Hvo := Lib.hid hvo; have Hlt2 := Lib.hid hlt; have Hlen := Lib.hid hlen'; have Hval := Lib.hid hval; have Hmod := Lib.hid hmod; have Hx := Lib.hid hx
    clear hown hvo hlt hlen' hval hmod hx hblkr
    go_upto_region 7 with fail
    go_still_tail 22, (by kernel_rfl)
    obtain ⟨h1, h2, h3⟩ := rb_or x f b o0 (bval (L.take i)) hx2 (lt256_snoc.1 Hlt2.out).2 (by omega) Hval.out
    rw [h1]
    change wpList _ _ _ _ _ wc.drew
    have hd0 : wc.drew.cell? ⟨gr, o0.length, none⟩ = _ := hcb
    have hd1 : wc.drew.frozen? ⟨gr, o0.length, none⟩ = _ := hfz
    have Hown3 : Hid (wc.drew.ownsRow _ _ _ _ _ _) := Lib.hid Hown2.out.drew
    have Hmod3 := Lib.hid Hmod.out.drew
    have H2 := Lib.hid h2; have H3 := Lib.hid h3
    clear hcb hfz Hown2 Hmod hcr0 hcx h1 h2 h3
    generalize wc.drew = w2 at *
    go_wp2
    go_roundg (gk - 1)
    case measure => omega
    case rel =>
     refine ⟨i + 1, f, by have := Hil.out; omega, by go_num, by omega, o0 ++ [b + x * 2 ^ f], ?_, ?_, lt256_snoc.2 ⟨(lt256_snoc.1 Hlt2.out).1, H2.out⟩, ?_, ?_, ?_⟩
     ·have := (Hown3.out.stored o0.length (.int .u8 ((b + x * 2 ^ f : Nat) : Int))).1
      rw [cells8_set] at this
      simpa using this
     ·simpa using Hvo.out
     ·have := Hlen.out; simp at this ⊢; omega
     ·rw [H3.out, take_more Hx.out, bval_snoc]
     ·refine Hmod3.out.setCell ?_ _
      intro h
      rcases Hvo.out with h1 | ⟨r, h1, h2⟩
      ·cases h1
      ·simp [Value.ownBlock] at h1
       simp at h
       omega
end Go.Proofs.YthgoppmgapaajaaGreatDoor

/- Two writers that share nothing. -/
namespace Go.Proofs.YthgoppmgapaajaaGreatDoor
open Go.RowKit

theorem left_ab (g row R rem : Nat) (ok : Bool) (w : World) (h : Rdr w g row R rem ok) (hm : rem ≤ 8000000000) :
  Calls Tryz.prog 123 #[.pointer (some ⟨g, 0, none⟩)] w fun e w' => e = .returned (.int .i64 (rem : Int)) ∧ Mod (fun _ => False) w w' :=
 (left_any g row R rem ok w h hm).mono fun _ _ ⟨h1, n, h2⟩ => ⟨h1, h2 ▸ (Mod.refl _ _).drewN n⟩

def Apart (g : Nat) (row : Option Nat) (g2 : Nat) (row2 : Option Nat) : Prop := g ≠ g2 ∧ row ≠ some g2 ∧ row2 ≠ some g ∧ ∀ k, row = some k → row2 ≠ some k
theorem Apart.symm {g g2 : Nat} {row row2 : Option Nat} (h : Apart g row g2 row2) : Apart g2 row2 g row := ⟨fun e => h.1 e.symm, h.2.2.1, h.2.1, fun k hk e => h.2.2.2 k e hk⟩
theorem Wr.other {w w' : World} {g g2 N2 len2 : Nat} {row row2 : Option Nat} (h2 : Wr w g2 row2 N2 len2) (hm : Mod (fun i => i = g ∨ row = some i) w w') (hd : Apart g row g2 row2) : Wr w' g2 row2 N2 len2 :=
 h2.mod hm (fun h => h.elim (fun e => hd.1 e.symm) (fun e => hd.2.1 e)) (fun k hk h => h.elim (fun e => hd.2.2.1 (e ▸ hk)) (fun e => hd.2.2.2 k e hk))
theorem Apart.to {w : World} {g g2 N2 len2 : Nat} {row row' row2 : Option Nat} (h : Apart g row g2 row2) (hr : RowTo w row row') (h2 : Wr w g2 row2 N2 len2) : Apart g row' g2 row2 := by
 rcases hr with rfl | ⟨r, rfl, hr⟩
 ·exact h
 ·refine ⟨h.1, ?_, h.2.2.1, ?_⟩
  ·intro e; injection e with e; have := h2.lt; omega
  ·intro k hk e; injection hk with hk; have := h2.row_lt k e; omega

section
variable {w w1 : World} {row n : Nat} {A : Option Addr} {xs : List Value}
end
theorem RowTo.low {B : Nat} {w : World} {row row' : Option Nat} (h : RowTo w row row') (hr : ∀ k, row = some k → B ≤ k) (hB : B ≤ w.heap.size) : ∀ k, row' = some k → B ≤ k := by
 intro k hk
 rcases h with rfl | ⟨r, rfl, hr'⟩
 ·exact hr k hk
 ·injection hk with hk; omega

/-- The call's own blocks alone have turned, a writer's that it made among them. -/
theorem Mod.put {w w' w0 : World} {g : Nat} {row : Option Nat} (h : Mod (fun _ => False) w0 w) (hm : Mod (fun i => i = g ∨ row = some i) w w') (hg : w0.heap.size ≤ g) (hr : ∀ k, row = some k → w0.heap.size ≤ k) : Mod (fun _ => False) w0 w' :=
 h.trans hm (fun i hi h => h.elim (fun e => by omega) (fun e => by have := hr i e; omega))
/-- Two writers of the call's own, beside nothing that was there. -/
structure St2 (w0 w : World) (a : Nat) (ra : Option Nat) (Na la b : Nat) (rb : Option Nat) (Nb lb : Nat) : Prop where
 wa : Wr w a ra Na la
 wb : Wr w b rb Nb lb
 apart : Apart a ra b rb
 mod : Mod (fun _ => False) w0 w
 ha : w0.heap.size ≤ a
 hb : w0.heap.size ≤ b
 hra : ∀ k, ra = some k → w0.heap.size ≤ k
 hrb : ∀ k, rb = some k → w0.heap.size ≤ k
section
variable {w0 w w' : World} {a Na la b Nb lb : Nat} {ra rb : Option Nat}
theorem St2.symm (h : St2 w0 w a ra Na la b rb Nb lb) : St2 w0 w b rb Nb lb a ra Na la := ⟨h.wb, h.wa, h.apart.symm, h.mod, h.hb, h.ha, h.hrb, h.hra⟩
theorem St2.put {ra' : Option Nat} {Na' la' : Nat} (h : St2 w0 w a ra Na la b rb Nb lb) (hw : Wr w' a ra' Na' la') (hm : Mod (fun i => i = a ∨ ra = some i) w w') (hr : RowTo w ra ra') : St2 w0 w' a ra' Na' la' b rb Nb lb :=
 ⟨hw, h.wb.other hm h.apart, h.apart.to hr h.wb, h.mod.trans hm (fun i hi e => e.elim (fun e => by have := h.ha; omega) (fun e => by have := h.hra i e; omega)), h.ha, h.hb, hr.low h.hra h.mod.size, h.hrb⟩
theorem St2.step {S : Nat → Prop} (h : St2 w0 w a ra Na la b rb Nb lb) (hm : Mod S w w') (hs : ∀ i, i < w.heap.size → S i → w0.heap.size ≤ i ∧ i ≠ a ∧ i ≠ b ∧ ra ≠ some i ∧ rb ≠ some i) : St2 w0 w' a ra Na la b rb Nb lb :=
 ⟨h.wa.mod hm (fun e => (hs a h.wa.lt e).2.1 rfl) (fun k hk e => (hs k (h.wa.row_lt k hk) e).2.2.2.1 hk), h.wb.mod hm (fun e => (hs b h.wb.lt e).2.2.1 rfl) (fun k hk e => (hs k (h.wb.row_lt k hk) e).2.2.2.2 hk), h.apart,
  h.mod.trans hm (fun i hi e => by have := (hs i (Nat.lt_of_lt_of_le hi h.mod.size) e).1; omega), h.ha, h.hb, h.hra, h.hrb⟩
theorem St2.new (h : St2 w0 w a ra Na la b rb Nb lb) (hm : Mod (fun _ => False) w w') : St2 w0 w' a ra Na la b rb Nb lb := h.step hm (fun _ _ e => e.elim)
theorem St2.begin {a b : Nat} {w1 w2 : World} (ha : w0.heap.size ≤ a) (ha2 : a < w1.heap.size) (hwa : Wr w1 a none 0 0) (hm1 : Mod (fun _ => False) w0 w1) (hb : w1.heap.size ≤ b) (hwb : Wr w2 b none 0 0) (hm2 : Mod (fun _ => False) w1 w2) : St2 w0 w2 a none 0 0 b none 0 0 :=
 ⟨hwa.mod hm2 (fun h => h) (fun _ _ h => h), hwb, ⟨by omega, by simp, by simp, by simp⟩, hm1.trans hm2 (fun _ _ h => h), ha, by have := hm1.size; omega, by simp, by simp⟩
end
end Go.Proofs.YthgoppmgapaajaaGreatDoor

namespace Go.Proofs.YthgoppmgapaajaaGreatDoor
open Go.RowKit

end Go.Proofs.YthgoppmgapaajaaGreatDoor

/- Two readers of one row of bytes: the project's, and the document's own. -/
namespace Go.Proofs.YthgoppmgapaajaaGreatDoor
open Go.RowKit

theorem Rdr.rerow {w : World} {g row row2 R : Nat} {ok : Bool} (h : Rdr w g row R 0 ok) (hne : row2 ≠ g) : Rdr w g row2 R 0 ok := by
 obtain ⟨A, n, c, bs, used, hblk, hnc, hs, hne', hlt, hrem, hused, hR, hok⟩ := h
 have hn : n = 0 := by omega
 exact ⟨A, n, c, bs, used, hblk, hnc, ⟨hs.1, fun h => by omega⟩, hne, hlt, hrem, hused, hR, hok⟩
theorem Rdr.row_real {w : World} {g row R rem : Nat} {ok : Bool} (h : Rdr w g row R rem ok) (hr : 0 < rem) : row < w.heap.size := by
 obtain ⟨A, n, c, bs, used, hblk, hnc, hs, hne', hlt, hrem, hused, hR, hok⟩ := h
 obtain ⟨o, _, h1, _⟩ := hs.2 (by omega)
 exact h1
section
variable {w0 w w' : World} {g rg h rh : Nat} {bs : List Nat} {R rem R' rem' : Nat} {ok ok' : Bool}
/-- What one Get does to both. -/
def GetAns (R rem : Nat) (ok : Bool) (k : Nat) : Nat × Nat × Nat × Bool := if ok = true ∧ k ≤ rem then (R / 2 ^ (rem - k), R % 2 ^ (rem - k), rem - k, true) else (0, 0, 0, false)
theorem ans_yes {R rem k : Nat} (h : k ≤ rem) : GetAns R rem true k = (R / 2 ^ (rem - k), R % 2 ^ (rem - k), rem - k, true) := by unfold GetAns; rw [if_pos ⟨rfl, h⟩]
theorem ans_no {R rem k : Nat} {ok : Bool} (h : ¬ (ok = true ∧ k ≤ rem)) : GetAns R rem ok k = (0, 0, 0, false) := by unfold GetAns; rw [if_neg h]

theorem get_ans (n : Int) (k : Nat) (hn : FitI n) (hk : max 0 (min n 64) = (k : Int)) (hr : Rdr w g rg R rem ok) (hm : rem ≤ 8000000) :
  Calls Tryz.prog 119 #[.pointer (some ⟨g, 0, none⟩), .int .i64 n] w fun e w' => e = .returned (.int .u64 ((GetAns R rem ok k).1 : Int)) ∧ Rdr w' g rg (GetAns R rem ok k).2.1 (GetAns R rem ok k).2.2.1 (GetAns R rem ok k).2.2.2 ∧ Mod (fun i => i = g) w w' := by
 by_cases h1 : ok = true ∧ k ≤ rem
 ·obtain ⟨rfl, h2⟩ := h1
  rw [ans_yes h2]
  exact get_any g rg R rem k true n w hn hk hr hr.small h2 (by omega)
 ·rw [ans_no h1]
  by_cases h2 : k ≤ rem
  ·have hok : ok = false := by
    cases ok with
    | false => rfl
    | true => exact absurd ⟨rfl, h2⟩ h1
   subst hok
   have h0 : rem = 0 := by obtain ⟨A, n', c, bs', used, _, _, _, _, _, _, _, _, hok⟩ := hr; exact hok rfl
   subst h0
   have hk0 : k = 0 := by omega
   subst hk0
   have hR : R = 0 := by have := hr.small; omega
   subst hR
   exact get_any g rg 0 0 0 false n w hn hk hr hr.small (Nat.le_refl _) (by omega)
  ·exact get_many g rg R rem k ok n w hn hk hr h2 (by omega)
end
end Go.Proofs.YthgoppmgapaajaaGreatDoor

namespace Go.Proofs.YthgoppmgapaajaaGreatDoor
open Go.RowKit

end Go.Proofs.YthgoppmgapaajaaGreatDoor

/- All that layer 4 stands on, together. -/

/- Readers in whatever state, the project's and the document's own: what is left, or nothing. -/
namespace Go.Proofs.YthgoppmgapaajaaGreatDoor
open Go.RowKit

/-- A reader's state: what is left, or nothing. -/
def getO (k : Nat) : Option (Nat × Nat) → Nat × Option (Nat × Nat)
 | some (R, rem) => if k ≤ rem then (R / 2 ^ (rem - k), some (R % 2 ^ (rem - k), rem - k)) else (0, none)
 | none => (0, none)
theorem getO_take (k R rem : Nat) : getO k (some (R, rem)) = match takeB k R rem with | some (b, R1, rem1) => (b, some (R1, rem1)) | none => (0, none) := by
 unfold getO takeB
 by_cases h : k ≤ rem
 ·simp [h]
 ·simp [h]
theorem getO_lt {R rem : Nat} (h : R < 2 ^ rem) (k : Nat) : (getO k (some (R, rem))).1 < 2 ^ k := by
 unfold getO
 by_cases hk : k ≤ rem
 ·simp only [hk, if_true]
  rw [Nat.div_lt_iff_lt_mul (Nat.two_pow_pos _), ← Nat.pow_add, show k + (rem - k) = rem by omega]
  exact h
 ·simp only [hk, if_false]
  exact Nat.two_pow_pos k
/-- A reader's row can be taken for a real one. -/
theorem Rdr.real {w : World} {g row R rem : Nat} {ok : Bool} (h : Rdr w g row R rem ok) (hg : g ≠ 0) (h0 : 0 < w.heap.size) : ∃ row', row' < w.heap.size ∧ (row' = row ∨ row' = 0) ∧ Rdr w g row' R rem ok := by
 rcases Nat.eq_zero_or_pos rem with hr | hr
 ·subst hr
  exact ⟨0, h0, .inr rfl, h.rerow (fun e => hg e.symm)⟩
 ·exact ⟨row, h.row_real hr, .inl rfl, h⟩

def RdrO (w : World) (g row : Nat) : Option (Nat × Nat) → Prop
 | some (R, rem) => Rdr w g row R rem true ∧ rem ≤ 8000000
 | none => Rdr w g row 0 0 false
section
variable {w w' : World} {g row : Nat} {s : Option (Nat × Nat)}
theorem RdrO.mod {S : Nat → Prop} (h : RdrO w g row s) (hm : Mod S w w') (h1 : ¬ S g) (h2 : row < w.heap.size → ¬ S row) : RdrO w' g row s := by
 cases s with
 | none => exact Rdr.mod h hm h1 h2
 | some p => exact ⟨Rdr.mod h.1 hm h1 h2, h.2⟩
theorem RdrO.lt (h : RdrO w g row s) : g < w.heap.size := by
 cases s with
 | none => exact Rdr.lt h
 | some p => exact Rdr.lt h.1
end
theorem get_o (g row k : Nat) (N : Int) (s : Option (Nat × Nat)) (w : World) (hN : N = (k : Int)) (hk : k ≤ 64) (h : RdrO w g row s) :
  Calls Tryz.prog 119 #[.pointer (some ⟨g, 0, none⟩), .int .i64 N] w fun e w' => e = .returned (.int .u64 ((getO k s).1 : Int)) ∧ RdrO w' g row (getO k s).2 ∧ Mod (fun i => i = g) w w' := by
 subst hN
 cases s with
 | none =>
  refine (get_ans (k : Int) k ⟨by omega, by omega⟩ (by omega) h (by omega)).mono ?_
  rintro e w' ⟨rfl, h1, h2⟩
  exact ⟨rfl, h1, h2⟩
 | some p =>
  obtain ⟨R, rem⟩ := p
  refine (get_ans (k : Int) k ⟨by omega, by omega⟩ (by omega) h.1 h.2).mono ?_
  rintro e w' ⟨rfl, h1, h2⟩
  by_cases hkr : k ≤ rem
  ·rw [ans_yes hkr] at h1 ⊢
   have e1 : getO k (some (R, rem)) = (R / 2 ^ (rem - k), some (R % 2 ^ (rem - k), rem - k)) := if_pos hkr
   rw [e1]
   exact ⟨rfl, ⟨h1, by have := h.2; show rem - k ≤ 8000000; omega⟩, h2⟩
  ·rw [ans_no (fun h => hkr h.2)] at h1 ⊢
   have e1 : getO k (some (R, rem)) = (0, none) := if_neg hkr
   rw [e1]
   exact ⟨rfl, h1, h2⟩

theorem RdrO.small {w : World} {g row : Nat} {s : Option (Nat × Nat)} (h : RdrO w g row s) : ∀ R rem, s = some (R, rem) → R < 2 ^ rem := by
 rintro R rem rfl
 exact h.1.small

section
variable {w w' : World} {g row : Nat} {bs : List Nat} {s : Option (Nat × Nat)}
end
end Go.Proofs.YthgoppmgapaajaaGreatDoor

/- Plain mathematics of values by what turns, the second part: a row that is read step by step, and told again, is the same row. -/
namespace Go.Proofs.YthgoppmgapaajaaGreatDoor

/-- Fields were taken off what a reader had. -/
def Took (fs : List (Nat × Nat)) (R rem R1 rem1 : Nat) : Prop := R = fnum fs * 2 ^ rem1 + R1 ∧ R1 < 2 ^ rem1 ∧ rem = flen fs + rem1
theorem Took.nil {R rem : Nat} (h : R < 2 ^ rem) : Took [] R rem R rem := ⟨by show R = 0 * _ + R; omega, h, by show rem = 0 + rem; omega⟩
theorem Took.app {fs gs : List (Nat × Nat)} {R rem R1 rem1 R2 rem2 : Nat} (h : Took fs R rem R1 rem1) (h2 : Took gs R1 rem1 R2 rem2) : Took (fs ++ gs) R rem R2 rem2 := by
 obtain ⟨a1, _, a3⟩ := h
 obtain ⟨b1, b2, b3⟩ := h2
 refine ⟨?_, b2, by rw [flen_app, a3, b3, Nat.add_assoc]⟩
 rw [a1, b1, b3, fnum_app, Nat.pow_add, Nat.add_mul, Nat.mul_assoc, Nat.add_assoc]
theorem took_take {k R rem v R1 rem1 : Nat} (h : takeB k R rem = some (v, R1, rem1)) (hR : R < 2 ^ rem) : Took [(v, k)] R rem R1 rem1 ∧ v < 2 ^ k := by
 obtain ⟨h1, h2, h3⟩ := takeB_some h hR
 unfold takeB at h
 split at h
 ·rename_i hk
  injection h with h
  injection h with e1 h
  injection h with e2 e3
  subst e3
  have hv : v < 2 ^ k := h1
  refine ⟨⟨?_, h2, by show rem = (k + 0) + (rem - k); omega⟩, hv⟩
  show R = (v % 2 ^ k * 2 ^ 0 + 0) * 2 ^ (rem - k) + R1
  rw [Nat.mod_eq_of_lt hv, Nat.pow_zero, Nat.mul_one, Nat.add_zero, ← e1, ← e2, Nat.mul_comm, Nat.div_add_mod]
 ·cases h
theorem Took.snoc {fs : List (Nat × Nat)} {R rem R1 rem1 k v R2 rem2 : Nat} (h : Took fs R rem R1 rem1) (ht : takeB k R1 rem1 = some (v, R2, rem2)) : Took (fs ++ [(v, k)]) R rem R2 rem2 := h.app (took_take ht h.2.1).1
theorem Took.same {fs gs : List (Nat × Nat)} {R rem R1 rem1 : Nat} (h : Took fs R rem R1 rem1) : (flen gs + rem1 = rem ∧ fnum gs = R / 2 ^ rem1) ↔ (flen gs = flen fs ∧ fnum gs = fnum fs) := by
 obtain ⟨a1, a2, a3⟩ := h
 have e : R / 2 ^ rem1 = fnum fs := by rw [a1, Nat.mul_comm, Nat.mul_add_div (Nat.two_pow_pos _), Nat.div_eq_of_lt a2, Nat.add_zero]
 rw [e]
 constructor
 ·rintro ⟨h1, h2⟩; exact ⟨by omega, h2⟩
 ·rintro ⟨h1, h2⟩; exact ⟨by omega, h2⟩
theorem Took.to {fs gs : List (Nat × Nat)} {R rem R1 rem1 : Nat} (h : Took fs R rem R1 rem1) (h1 : flen gs = flen fs) (h2 : fnum gs = fnum fs) : Took gs R rem R1 rem1 := ⟨by rw [h2]; exact h.1, h.2.1, by rw [h1]; exact h.2.2⟩

theorem behind_le {x b : Nat} (h0 : 0 < x) (hx : x < 2 ^ 64) (hd : 2 ^ b ∣ x) : b ≤ behindN x := by
 obtain ⟨_, h2⟩ := behind_spec h0 hx
 rcases Nat.lt_or_ge (behindN x) b with h | h
 ·exfalso
  obtain ⟨z, hz⟩ := Nat.dvd_trans (Nat.pow_dvd_pow 2 h) hd
  have e : x / 2 ^ behindN x = 2 * z := by
   have h3 : x = 2 ^ behindN x * (2 * z) := by rw [← Nat.mul_assoc, ← Nat.pow_succ]; exact hz
   exact Nat.div_eq_of_eq_mul_right (Nat.two_pow_pos _) h3
  omega
 ·exact h
theorem ahead_ge {x a : Nat} (hx : x < 2 ^ (64 - a)) (ha : a ≤ 31) : a ≤ aheadN x := by
 have hx64 : x < 2 ^ 64 := Nat.lt_of_lt_of_le hx (Nat.pow_le_pow_right (by omega) (by omega))
 obtain ⟨h1, h2, h3⟩ := ahead_spec hx64
 rcases Nat.lt_or_ge (aheadN x) a with h | h
 ·exfalso
  have h4 := h3 (by omega)
  have h5 : 2 ^ (63 - aheadN x) < 2 ^ (64 - a) := by omega
  have := (Nat.pow_lt_pow_iff_right (by omega : 1 < 2)).1 h5
  omega
 ·exact h
theorem fits_of {a b y : Nat} (ha : a ≤ 31) (hab : a + b ≤ 64) (hy : y < 2 ^ (64 - a - b)) (h0 : y * 2 ^ b ≠ 0) : fitsX (some (a, b)) (y * 2 ^ b) = true ∧ y * 2 ^ b < 2 ^ (64 - a) := by
 have hx : y * 2 ^ b < 2 ^ (64 - a) := by
  have := Nat.mul_lt_mul_of_pos_right hy (Nat.two_pow_pos b)
  rwa [← Nat.pow_add, show 64 - a - b + b = 64 - a by omega] at this
 have hx64 : y * 2 ^ b < 2 ^ 64 := Nat.lt_of_lt_of_le hx (Nat.pow_le_pow_right (by omega) (by omega))
 exact ⟨decide_eq_true ⟨ahead_ge hx ha, behind_le (by omega) hx64 (Nat.dvd_mul_left _ _)⟩, hx⟩

/-- What a turn's fields were. -/
def Shape (win : Option (Nat × Nat)) (x : Nat) (win' : Option (Nat × Nat)) (fs : List (Nat × Nat)) : Prop :=
 (fs = [(0, 1)] ∧ x = 0 ∧ win' = win) ∨
 (∃ a b y, win = some (a, b) ∧ fs = [(1, 1), (0, 1), (y, 64 - a - b)] ∧ y < 2 ^ (64 - a - b) ∧ x = y * 2 ^ b ∧ win' = win) ∨
 (∃ a m y, a < 32 ∧ m < 64 ∧ a + (m + 1) ≤ 64 ∧ fs = [(1, 1), (1, 1), (a, 5), (m, 6), (y, m + 1)] ∧ y < 2 ^ (m + 1) ∧ x = y * 2 ^ (64 - a - (m + 1)) ∧ win' = some (a, 64 - a - (m + 1)))
theorem rdX_shape {win win' : Option (Nat × Nat)} {R rem x R1 rem1 : Nat} (h : rdX win R rem = some (x, win', R1, rem1)) (hR : R < 2 ^ rem) : ∃ fs, Took fs R rem R1 rem1 ∧ Shape win x win' fs := by
 unfold rdX at h
 cases h0 : takeB 1 R rem with
 | none => rw [h0] at h; cases h
 | some p0 =>
  obtain ⟨c0, Ra, rema⟩ := p0
  rw [h0] at h
  obtain ⟨t0, l0⟩ := took_take h0 hR
  simp only at h
  by_cases hc0 : c0 = 0
  ·rw [if_pos hc0] at h
   injection h with h
   injection h with e1 h
   injection h with e2 h
   injection h with e3 e4
   subst e1 e2 e3 e4 hc0
   exact ⟨_, t0, .inl ⟨rfl, rfl, rfl⟩⟩
  ·rw [if_neg hc0] at h
   obtain rfl : c0 = 1 := by omega
   cases h1 : takeB 1 Ra rema with
   | none => rw [h1] at h; cases h
   | some p1 =>
    obtain ⟨c1, Rb, remb⟩ := p1
    rw [h1] at h
    obtain ⟨_, l1⟩ := took_take h1 t0.2.1
    have t1 := t0.snoc h1
    simp only at h
    by_cases hc1 : c1 = 0
    ·rw [if_pos hc1] at h
     subst hc1
     cases win with
     | none => cases h
     | some p =>
      obtain ⟨a, b⟩ := p
      simp only at h
      cases h2 : takeB (64 - a - b) Rb remb with
      | none => rw [h2] at h; cases h
      | some p2 =>
       obtain ⟨y, Rc, remc⟩ := p2
       rw [h2] at h
       obtain ⟨_, l2⟩ := took_take h2 t1.2.1
       have t2 := t1.snoc h2
       injection h with h
       injection h with e1 h
       injection h with e2 h
       injection h with e3 e4
       subst e3 e4
       exact ⟨_, t2, .inr (.inl ⟨a, b, y, rfl, rfl, l2, e1.symm, e2.symm⟩)⟩
    ·rw [if_neg hc1] at h
     obtain rfl : c1 = 1 := by omega
     cases h2 : takeB 5 Rb remb with
     | none => rw [h2] at h; cases h
     | some p2 =>
      obtain ⟨a, Rc, remc⟩ := p2
      rw [h2] at h
      obtain ⟨_, l2⟩ := took_take h2 t1.2.1
      have t2 := t1.snoc h2
      simp only at h
      cases h3 : takeB 6 Rc remc with
      | none => rw [h3] at h; cases h
      | some p3 =>
       obtain ⟨m, Rd, remd⟩ := p3
       rw [h3] at h
       obtain ⟨_, l3⟩ := took_take h3 t2.2.1
       have t3 := t2.snoc h3
       simp only at h
       by_cases hb : 64 < a + (m + 1)
       ·rw [if_pos hb] at h; cases h
       ·rw [if_neg hb] at h
        cases h4 : takeB (m + 1) Rd remd with
        | none => rw [h4] at h; cases h
        | some p4 =>
         obtain ⟨y, Re, reme⟩ := p4
         rw [h4] at h
         obtain ⟨_, l4⟩ := took_take h4 t3.2.1
         have t4 := t3.snoc h4
         injection h with h
         injection h with e1 h
         injection h with e2 h
         injection h with e3 e4
         subst e3 e4
         exact ⟨_, t4, .inr (.inr ⟨a, m, y, l2, l3, by omega, rfl, l4, e1.symm, e2.symm⟩)⟩
theorem Shape.lt {win win' : Option (Nat × Nat)} {x : Nat} {fs : List (Nat × Nat)} (h : Shape win x win' fs) (hw : WinOk win) : x < 2 ^ 64 := by
 rcases h with ⟨_, rfl, _⟩ | ⟨a, b, y, rfl, _, hy, rfl, _⟩ | ⟨a, m, y, ha, hm, hab, _, hy, rfl, _⟩
 ·decide
 ·obtain ⟨w1, w2⟩ := hw
  have := Nat.mul_lt_mul_of_pos_right hy (Nat.two_pow_pos b)
  rw [← Nat.pow_add] at this
  exact Nat.lt_of_lt_of_le this (Nat.pow_le_pow_right (by omega) (by omega))
 ·have := Nat.mul_lt_mul_of_pos_right hy (Nat.two_pow_pos (64 - a - (m + 1)))
  rw [← Nat.pow_add] at this
  exact Nat.lt_of_lt_of_le this (Nat.pow_le_pow_right (by omega) (by omega))
theorem Shape.ok {win win' : Option (Nat × Nat)} {x : Nat} {fs : List (Nat × Nat)} (h : Shape win x win' fs) (hw : WinOk win) : WinOk win' := by
 rcases h with ⟨_, _, rfl⟩ | ⟨a, b, y, _, _, _, _, rfl⟩ | ⟨a, m, y, ha, hm, hab, _, _, _, rfl⟩
 ·exact hw
 ·exact hw
 ·exact ⟨by omega, by omega⟩
theorem Shape.pos {win win' : Option (Nat × Nat)} {x : Nat} {fs : List (Nat × Nat)} (h : Shape win x win' fs) : 1 ≤ flen fs := by
 rcases h with ⟨rfl, _, _⟩ | ⟨a, b, y, _, rfl, _, _, _⟩ | ⟨a, m, y, ha, hm, hab, rfl, _, _, _⟩
 ·exact Nat.le_refl _
 ·show 1 ≤ 1 + _; omega
 ·show 1 ≤ 1 + _; omega

/-- A turn is read, and told again in these bits. -/
def stX (win : Option (Nat × Nat)) (R rem : Nat) : Option (Nat × Option (Nat × Nat) × Nat × Nat) :=
 match rdX win R rem with
 | none => none
 | some (x, _, R1, rem1) => if flen (fieldsX win x) + rem1 = rem ∧ fnum (fieldsX win x) = R / 2 ^ rem1 then some (x, winX win x, R1, rem1) else none
theorem stX_took {win win' : Option (Nat × Nat)} {R rem x R1 rem1 : Nat} (h : stX win R rem = some (x, win', R1, rem1)) (hR : R < 2 ^ rem) (hw : WinOk win) : Took (fieldsX win x) R rem R1 rem1 ∧ win' = winX win x ∧ x < 2 ^ 64 := by
 unfold stX at h
 cases h0 : rdX win R rem with
 | none => rw [h0] at h; cases h
 | some p =>
  obtain ⟨x', w2, R2, rem2⟩ := p
  rw [h0] at h
  simp only at h
  obtain ⟨fs, ht, hs⟩ := rdX_shape h0 hR
  split at h
  ·rename_i hc
   injection h with h
   injection h with e1 h
   injection h with e2 h
   injection h with e3 e4
   subst e1 e3 e4
   obtain ⟨c1, c2⟩ := ht.same.1 hc
   exact ⟨ht.to c1 c2, e2.symm, hs.lt hw⟩
  ·cases h
theorem stX_of {win : Option (Nat × Nat)} {x X r rem : Nat} (hw : WinOk win) (hx : x < 2 ^ 64) (fs : List (Nat × Nat)) (hX : X < 2 ^ r) (hr : rem = flen (fieldsX win x ++ fs) + r) :
  stX win (fnum (fieldsX win x ++ fs) * 2 ^ r + X) rem = some (x, winX win x, fnum fs * 2 ^ r + X, flen fs + r) := by
 have h := rdX_of hw hx fs hX hr
 unfold stX
 rw [h]
 simp only
 rw [if_pos]
 refine ⟨by rw [hr, flen_app]; omega, ?_⟩
 have h2 := fnum_tail fs hX
 rw [fnum_app, Nat.add_mul, Nat.mul_assoc, ← Nat.pow_add, Nat.add_assoc, Nat.mul_comm, Nat.mul_add_div (Nat.two_pow_pos _), Nat.div_eq_of_lt h2, Nat.add_zero]
def stXs : Nat → Option (Nat × Nat) → Nat → Nat → Nat → Option (List Nat × Nat × Nat)
 | 0, _, _, R, rem => some ([], R, rem)
 | k + 1, win, prev, R, rem =>
  match stX win R rem with
  | none => none
  | some (x, win', R1, rem1) => (stXs k win' (prev ^^^ x) R1 rem1).map fun p => ((prev ^^^ x) :: p.1, p.2)
def stVals : Nat → Nat → Nat → Option (List Nat × Nat × Nat)
 | 0, R, rem => some ([], R, rem)
 | n + 1, R, rem =>
  match takeB 64 R rem with
  | none => none
  | some (u, R1, rem1) => (stXs n none u R1 rem1).map fun p => (u :: p.1, p.2)
theorem xor_forth (prev x : Nat) : (prev ^^^ x) ^^^ prev = x := by rw [Nat.xor_comm, ← Nat.xor_assoc, Nat.xor_self, Nat.zero_xor]
theorem stXs_took {k : Nat} {win : Option (Nat × Nat)} {prev R rem : Nat} {vs : List Nat} {R1 rem1 : Nat} (h : stXs k win prev R rem = some (vs, R1, rem1)) (hR : R < 2 ^ rem) (hw : WinOk win) (hp : prev < 2 ^ 64) :
  Took (encX win prev vs) R rem R1 rem1 ∧ vs.length = k ∧ ∀ v ∈ vs, v < 2 ^ 64 := by
 induction k generalizing win prev R rem vs with
 | zero =>
  injection h with h
  injection h with e1 h
  injection h with e2 e3
  subst e1 e2 e3
  exact ⟨Took.nil hR, rfl, fun _ h => by cases h⟩
 | succ k ih =>
  have e : stXs (k + 1) win prev R rem = match stX win R rem with | none => none | some (x, win', R1, rem1) => (stXs k win' (prev ^^^ x) R1 rem1).map fun (p : List Nat × Nat × Nat) => ((prev ^^^ x) :: p.1, p.2) := rfl
  rw [e] at h
  cases h0 : stX win R rem with
  | none => rw [h0] at h; cases h
  | some q =>
   obtain ⟨x, win', R2, rem2⟩ := q
   rw [h0] at h
   obtain ⟨t1, t2, t3⟩ := stX_took h0 hR hw
   obtain ⟨p, hp1, hp2⟩ := Option.map_eq_some_iff.1 h
   obtain ⟨us, R3, rem3⟩ := p
   injection hp2 with e1 e2
   injection e2 with e2 e3
   subst e1 e2 e3
   have hv : prev ^^^ x < 2 ^ 64 := Nat.xor_lt_two_pow hp t3
   subst t2
   obtain ⟨i1, i2, i3⟩ := ih hp1 t1.2.1 (winX_ok hw t3) hv
   refine ⟨?_, by simp [i2], fun v hv' => ?_⟩
   ·show Took (fieldsX win ((prev ^^^ x) ^^^ prev) ++ encX (winX win ((prev ^^^ x) ^^^ prev)) (prev ^^^ x) us) R rem R3 rem3
    rw [xor_forth]
    exact t1.app i1
   ·rcases List.mem_cons.1 hv' with rfl | hm
    ·exact hv
    ·exact i3 v hm
theorem stVals_took {n R rem : Nat} {vs : List Nat} {R1 rem1 : Nat} (h : stVals n R rem = some (vs, R1, rem1)) (hR : R < 2 ^ rem) : Took (encVals vs) R rem R1 rem1 ∧ vs.length = n ∧ ∀ v ∈ vs, v < 2 ^ 64 := by
 cases n with
 | zero =>
  injection h with h
  injection h with e1 h
  injection h with e2 e3
  subst e1 e2 e3
  exact ⟨Took.nil hR, rfl, fun _ h => by cases h⟩
 | succ n =>
  have e : stVals (n + 1) R rem = match takeB 64 R rem with | none => none | some (u, R1, rem1) => (stXs n none u R1 rem1).map fun (p : List Nat × Nat × Nat) => (u :: p.1, p.2) := rfl
  rw [e] at h
  cases h0 : takeB 64 R rem with
  | none => rw [h0] at h; cases h
  | some q =>
   obtain ⟨u, R2, rem2⟩ := q
   rw [h0] at h
   obtain ⟨t1, hu⟩ := took_take h0 hR
   obtain ⟨p, hp1, hp2⟩ := Option.map_eq_some_iff.1 h
   obtain ⟨us, R3, rem3⟩ := p
   injection hp2 with e1 e2
   injection e2 with e2 e3
   subst e1 e2 e3
   obtain ⟨i1, i2, i3⟩ := stXs_took hp1 t1.2.1 trivial hu
   refine ⟨t1.app i1, by simp [i2], fun v hv' => ?_⟩
   rcases List.mem_cons.1 hv' with rfl | hm
   ·exact hu
   ·exact i3 v hm
theorem stXs_of (vs : List Nat) (hvs : ∀ v ∈ vs, v < 2 ^ 64) (win : Option (Nat × Nat)) (hw : WinOk win) (prev : Nat) (hp : prev < 2 ^ 64) {X r rem : Nat} (hX : X < 2 ^ r) (hr : rem = flen (encX win prev vs) + r) :
  stXs vs.length win prev (fnum (encX win prev vs) * 2 ^ r + X) rem = some (vs, X, r) := by
 induction vs generalizing win prev rem with
 | nil =>
  subst hr
  show some (([] : List Nat), 0 * 2 ^ r + X, 0 + r) = _
  rw [Nat.zero_mul, Nat.zero_add, Nat.zero_add]
 | cons v vs ih =>
  have hv := hvs v (by simp)
  have hx : v ^^^ prev < 2 ^ 64 := Nat.xor_lt_two_pow hv hp
  have h := stX_of (rem := rem) hw hx (encX (winX win (v ^^^ prev)) v vs) hX hr
  show (match stX win (fnum (fieldsX win (v ^^^ prev) ++ encX (winX win (v ^^^ prev)) v vs) * 2 ^ r + X) rem with | none => none | some (x, win', R1, rem1) => (stXs vs.length win' (prev ^^^ x) R1 rem1).map fun (p : List Nat × Nat × Nat) => ((prev ^^^ x) :: p.1, p.2)) = _
  rw [h]
  show (stXs vs.length (winX win (v ^^^ prev)) (prev ^^^ (v ^^^ prev)) _ _).map _ = _
  rw [xor_back, ih (fun y hy => hvs y (by simp [hy])) (winX win (v ^^^ prev)) (winX_ok hw hx) v hv rfl]
  rfl
theorem stVals_of (vs : List Nat) (hvs : ∀ v ∈ vs, v < 2 ^ 64) {X r rem : Nat} (hX : X < 2 ^ r) (hr : rem = flen (encVals vs) + r) : stVals vs.length (fnum (encVals vs) * 2 ^ r + X) rem = some (vs, X, r) := by
 cases vs with
 | nil =>
  subst hr
  show some (([] : List Nat), 0 * 2 ^ r + X, 0 + r) = _
  rw [Nat.zero_mul, Nat.zero_add, Nat.zero_add]
 | cons v vs =>
  have hv := hvs v (by simp)
  have ht := take_f (v := v) (w := 64) (fs := encX none v vs) (rem := rem) hX hr hv
  show (match takeB 64 (fnum ((v, 64) :: encX none v vs) * 2 ^ r + X) rem with | none => none | some (u, R1, rem1) => (stXs vs.length none u R1 rem1).map fun (p : List Nat × Nat × Nat) => (u :: p.1, p.2)) = _
  rw [ht]
  show (stXs vs.length none v _ _).map _ = _
  rw [stXs_of vs (fun y hy => hvs y (by simp [hy])) none trivial v hv hX rfl]
  rfl
/-- What is read loosely: how many, which, and how much is left. -/
theorem rdXs_some {k : Nat} {win : Option (Nat × Nat)} {prev R rem : Nat} {vs : List Nat} {R1 rem1 : Nat} (h : rdXs k win prev R rem = some (vs, R1, rem1)) (hR : R < 2 ^ rem) (hw : WinOk win) (hp : prev < 2 ^ 64) :
  (∃ fs, Took fs R rem R1 rem1 ∧ k ≤ flen fs) ∧ vs.length = k ∧ ∀ v ∈ vs, v < 2 ^ 64 := by
 induction k generalizing win prev R rem vs with
 | zero =>
  injection h with h
  injection h with e1 h
  injection h with e2 e3
  subst e1 e2 e3
  exact ⟨⟨_, Took.nil hR, Nat.zero_le _⟩, rfl, fun _ h => by cases h⟩
 | succ k ih =>
  have e : rdXs (k + 1) win prev R rem = match rdX win R rem with | none => none | some (x, win', R1, rem1) => (rdXs k win' (prev ^^^ x) R1 rem1).map fun (p : List Nat × Nat × Nat) => ((prev ^^^ x) :: p.1, p.2) := rfl
  rw [e] at h
  cases h0 : rdX win R rem with
  | none => rw [h0] at h; cases h
  | some q =>
   obtain ⟨x, win', R2, rem2⟩ := q
   rw [h0] at h
   obtain ⟨fs, t1, hs⟩ := rdX_shape h0 hR
   obtain ⟨p, hp1, hp2⟩ := Option.map_eq_some_iff.1 h
   obtain ⟨us, R3, rem3⟩ := p
   injection hp2 with e1 e2
   injection e2 with e2 e3
   subst e1 e2 e3
   have hv : prev ^^^ x < 2 ^ 64 := Nat.xor_lt_two_pow hp (hs.lt hw)
   obtain ⟨⟨gs, i1, i0⟩, i2, i3⟩ := ih hp1 t1.2.1 (hs.ok hw) hv
   refine ⟨⟨_, t1.app i1, ?_⟩, by simp [i2], fun v hv' => ?_⟩
   ·have := hs.pos
    rw [flen_app]; omega
   ·rcases List.mem_cons.1 hv' with rfl | hm
    ·exact hv
    ·exact i3 v hm
theorem rdVals_some {n R rem : Nat} {vs : List Nat} {R1 rem1 : Nat} (h : rdVals n R rem = some (vs, R1, rem1)) (hR : R < 2 ^ rem) : (∃ fs, Took fs R rem R1 rem1) ∧ vs.length = n ∧ ∀ v ∈ vs, v < 2 ^ 64 := by
 cases n with
 | zero =>
  injection h with h
  injection h with e1 h
  injection h with e2 e3
  subst e1 e2 e3
  exact ⟨⟨_, Took.nil hR⟩, rfl, fun _ h => by cases h⟩
 | succ n =>
  have e : rdVals (n + 1) R rem = match takeB 64 R rem with | none => none | some (u, R1, rem1) => (rdXs n none u R1 rem1).map fun (p : List Nat × Nat × Nat) => (u :: p.1, p.2) := rfl
  rw [e] at h
  cases h0 : takeB 64 R rem with
  | none => rw [h0] at h; cases h
  | some q =>
   obtain ⟨u, R2, rem2⟩ := q
   rw [h0] at h
   obtain ⟨t1, hu⟩ := took_take h0 hR
   obtain ⟨p, hp1, hp2⟩ := Option.map_eq_some_iff.1 h
   obtain ⟨us, R3, rem3⟩ := p
   injection hp2 with e1 e2
   injection e2 with e2 e3
   subst e1 e2 e3
   obtain ⟨⟨gs, i1, _⟩, i2, i3⟩ := rdXs_some hp1 t1.2.1 trivial hu
   refine ⟨⟨_, t1.app i1⟩, by simp [i2], fun v hv' => ?_⟩
   rcases List.mem_cons.1 hv' with rfl | hm
   ·exact hu
   ·exact i3 v hm
/-- Step by step, or told again as a whole: one row. -/
theorem stVals_eq {n R rem : Nat} (hR : R < 2 ^ rem) : stVals n R rem = valRow n R rem := by
 cases h : stVals n R rem with
 | some p =>
  obtain ⟨vs, R1, rem1⟩ := p
  obtain ⟨⟨t1, t2, t3⟩, hl, hv⟩ := stVals_took h hR
  have := valRow_of vs hv t2 t3
  rw [hl, ← t1] at this
  exact this.symm
 | none =>
  cases h2 : valRow n R rem with
  | none => rfl
  | some p =>
   exfalso
   unfold valRow at h2
   cases h3 : rdVals n R rem with
   | none => rw [h3] at h2; cases h2
   | some q =>
    obtain ⟨vs, R1, rem1⟩ := q
    rw [h3] at h2
    simp only at h2
    split at h2
    ·rename_i hc
     obtain ⟨⟨fs, ht⟩, hl, hv⟩ := rdVals_some h3 hR
     obtain ⟨c1, c2⟩ := ht.same.1 hc
     obtain ⟨t1, t2, t3⟩ := ht.to c1 c2
     have := stVals_of vs hv t2 t3
     rw [hl, ← t1, h] at this
     cases this
    ·cases h2
end Go.Proofs.YthgoppmgapaajaaGreatDoor

/- A turn is read, as states of a reader: loosely, and as it is told; what values cost. -/
namespace Go.Proofs.YthgoppmgapaajaaGreatDoor

def SmallO (s : Option (Nat × Nat)) : Prop := ∀ R rem, s = some (R, rem) → R < 2 ^ rem
theorem getO_some {k R1 rem1 : Nat} {s : Option (Nat × Nat)} (h : (getO k s).2 = some (R1, rem1)) : ∃ R rem, s = some (R, rem) ∧ takeB k R rem = some ((getO k s).1, R1, rem1) := by
 cases s with
 | none => cases h
 | some p =>
  obtain ⟨R, rem⟩ := p
  refine ⟨R, rem, rfl, ?_⟩
  rw [getO_take] at h ⊢
  cases ht : takeB k R rem with
  | none => rw [ht] at h; cases h
  | some q =>
   obtain ⟨v, R2, rem2⟩ := q
   rw [ht] at h
   have h2 : some (R2, rem2) = some (R1, rem1) := h
   injection h2 with h2
   injection h2 with e1 e2
   subst e1 e2
   rfl
theorem getO_bad {k R rem : Nat} (h : (getO k (some (R, rem))).2 = none) : takeB k R rem = none := by
 rw [getO_take] at h
 cases ht : takeB k R rem with
 | none => rfl
 | some q => rw [ht] at h; cases h
theorem getO_bad0 {k : Nat} {s : Option (Nat × Nat)} (h : (getO k s).2 = none) : (getO k s).1 = 0 := by
 cases s with
 | none => rfl
 | some p =>
  obtain ⟨R, rem⟩ := p
  have := getO_bad h
  rw [getO_take, this]
theorem SmallO.get {s : Option (Nat × Nat)} (h : SmallO s) (k : Nat) : SmallO (getO k s).2 := by
 intro R1 rem1 h1
 obtain ⟨R, rem, rfl, ht⟩ := getO_some h1
 exact (took_take ht (h _ _ rfl)).1.2.1
theorem SmallO.lt {s : Option (Nat × Nat)} (h : SmallO s) (k : Nat) : (getO k s).1 < 2 ^ k := by
 cases s with
 | none => exact Nat.two_pow_pos k
 | some p => exact getO_lt (h _ _ rfl) k
theorem SmallO.bit {s : Option (Nat × Nat)} (h : SmallO s) : (getO 1 s).1 = 0 ∨ (getO 1 s).1 = 1 := by
 have := h.lt 1
 omega
def rdO (win : Option (Nat × Nat)) : Option (Nat × Nat) → Option (Nat × Option (Nat × Nat) × Nat × Nat)
 | none => none
 | some (R, rem) => rdX win R rem
def stO (win : Option (Nat × Nat)) : Option (Nat × Nat) → Option (Nat × Option (Nat × Nat) × Nat × Nat)
 | none => none
 | some (R, rem) => stX win R rem
/-- Fields were taken off a state. -/
def TookO (fs : List (Nat × Nat)) (s : Option (Nat × Nat)) (R1 rem1 : Nat) : Prop := ∃ R rem, s = some (R, rem) ∧ Took fs R rem R1 rem1
theorem tookO_get {k R1 rem1 : Nat} {s : Option (Nat × Nat)} (hs : SmallO s) (h : (getO k s).2 = some (R1, rem1)) : TookO [((getO k s).1, k)] s R1 rem1 := by
 obtain ⟨R, rem, e, ht⟩ := getO_some h
 exact ⟨R, rem, e, (took_take ht (hs _ _ e)).1⟩
theorem TookO.snoc {k R1 rem1 : Nat} {fs : List (Nat × Nat)} {s s' : Option (Nat × Nat)} (h : (getO k s').2 = some (R1, rem1)) (h0 : ∀ R2 rem2, s' = some (R2, rem2) → TookO fs s R2 rem2) : TookO (fs ++ [((getO k s').1, k)]) s R1 rem1 := by
 obtain ⟨R2, rem2, e, ht⟩ := getO_some h
 obtain ⟨R, rem, e0, ht0⟩ := h0 R2 rem2 e
 exact ⟨R, rem, e0, ht0.snoc ht⟩
theorem stO_of {win win' : Option (Nat × Nat)} {s : Option (Nat × Nat)} {x R1 rem1 : Nat} {fs : List (Nat × Nat)} (hr : rdO win s = some (x, win', R1, rem1)) (ht : TookO fs s R1 rem1) :
  stO win s = if flen (fieldsX win x) = flen fs ∧ fnum (fieldsX win x) = fnum fs then some (x, winX win x, R1, rem1) else none := by
 obtain ⟨R, rem, rfl, h⟩ := ht
 have hr' : rdX win R rem = some (x, win', R1, rem1) := hr
 show stX win R rem = _
 unfold stX
 rw [hr']
 simp only
 by_cases hc : flen (fieldsX win x) = flen fs ∧ fnum (fieldsX win x) = fnum fs
 ·rw [if_pos hc, if_pos (h.same.2 hc)]
 ·rw [if_neg hc, if_neg (fun h2 => hc (h.same.1 h2))]
theorem stO_none {win : Option (Nat × Nat)} {s : Option (Nat × Nat)} (hr : rdO win s = none) : stO win s = none := by
 cases s with
 | none => rfl
 | some p =>
  obtain ⟨R, rem⟩ := p
  have hr' : rdX win R rem = none := hr
  show stX win R rem = none
  unfold stX
  rw [hr']
section
variable {win : Option (Nat × Nat)} {s : Option (Nat × Nat)}
theorem rdO_zero (h : (getO 1 s).1 = 0) : rdO win s = (getO 1 s).2.map fun p => (0, win, p.1, p.2) := by
 cases s with
 | none => rfl
 | some p =>
  obtain ⟨R, rem⟩ := p
  show rdX win R rem = _
  unfold rdX
  rw [getO_take] at h ⊢
  cases ht : takeB 1 R rem with
  | none => rfl
  | some q =>
   obtain ⟨v, R1, rem1⟩ := q
   rw [ht] at h
   have h' : v = 0 := h
   subst h'
   rfl
theorem rdO_one (h0 : (getO 1 s).1 ≠ 0) : ∃ R rem R1 rem1, s = some (R, rem) ∧ takeB 1 R rem = some ((getO 1 s).1, R1, rem1) ∧ (getO 1 s).2 = some (R1, rem1) := by
 cases h : (getO 1 s).2 with
 | none => exact absurd (getO_bad0 h) h0
 | some p =>
  obtain ⟨R, rem, e, ht⟩ := getO_some (R1 := p.1) (rem1 := p.2) h
  exact ⟨R, rem, _, _, e, ht, rfl⟩
theorem rdO_in_none (h0 : (getO 1 s).1 ≠ 0) (h1 : (getO 1 (getO 1 s).2).1 = 0) : rdO none s = none := by
 obtain ⟨R, rem, R1, rem1, rfl, ht, e1⟩ := rdO_one h0
 rw [e1, getO_take] at h1
 show rdX none R rem = none
 unfold rdX
 rw [ht]
 simp only
 rw [if_neg h0]
 cases ht1 : takeB 1 R1 rem1 with
 | none => rfl
 | some q =>
  rw [ht1] at h1
  have h1' : q.1 = 0 := h1
  simp only [h1', if_true]
theorem rdO_in {a b : Nat} (h0 : (getO 1 s).1 ≠ 0) (h1 : (getO 1 (getO 1 s).2).1 = 0) :
  rdO (some (a, b)) s = (getO (64 - a - b) (getO 1 (getO 1 s).2).2).2.map fun p => ((getO (64 - a - b) (getO 1 (getO 1 s).2).2).1 * 2 ^ b, some (a, b), p.1, p.2) := by
 obtain ⟨R, rem, R1, rem1, rfl, ht, e1⟩ := rdO_one h0
 rw [e1] at h1 ⊢
 rw [getO_take] at h1 ⊢
 show rdX (some (a, b)) R rem = _
 unfold rdX
 rw [ht]
 simp only
 rw [if_neg h0]
 cases ht1 : takeB 1 R1 rem1 with
 | none => rfl
 | some q =>
  obtain ⟨v, R2, rem2⟩ := q
  rw [ht1] at h1
  have h1' : v = 0 := h1
  subst h1'
  simp only [if_true]
  rw [getO_take]
  cases takeB (64 - a - b) R2 rem2 <;> rfl
theorem rdO_far (h0 : (getO 1 s).1 ≠ 0) (h1 : (getO 1 (getO 1 s).2).1 ≠ 0)
  (hf : 64 < (getO 5 (getO 1 (getO 1 s).2).2).1 + ((getO 6 (getO 5 (getO 1 (getO 1 s).2).2).2).1 + 1)) : rdO win s = none := by
 obtain ⟨R, rem, R1, rem1, rfl, ht, e1⟩ := rdO_one h0
 rw [e1] at h1 hf
 obtain ⟨R1', rem1', R2, rem2, e1', ht1, e2⟩ := rdO_one h1
 injection e1' with e1'
 injection e1' with x1 x2
 subst x1 x2
 rw [e2] at hf
 show rdX win R rem = none
 unfold rdX
 rw [ht]
 simp only
 rw [if_neg h0, ht1]
 simp only
 rw [if_neg h1]
 rw [getO_take] at hf
 cases ht2 : takeB 5 R2 rem2 with
 | none => rfl
 | some q =>
  obtain ⟨a, R3, rem3⟩ := q
  rw [ht2] at hf
  simp only at hf ⊢
  rw [getO_take] at hf
  cases ht3 : takeB 6 R3 rem3 with
  | none => rfl
  | some q =>
   obtain ⟨m, R4, rem4⟩ := q
   rw [ht3] at hf
   simp only at hf ⊢
   rw [if_pos hf]
theorem rdO_fresh {a m : Nat} (h0 : (getO 1 s).1 ≠ 0) (h1 : (getO 1 (getO 1 s).2).1 ≠ 0) (ha : a = (getO 5 (getO 1 (getO 1 s).2).2).1) (hm : m = (getO 6 (getO 5 (getO 1 (getO 1 s).2).2).2).1) (hf : ¬ 64 < a + (m + 1)) :
  rdO win s = (getO (m + 1) (getO 6 (getO 5 (getO 1 (getO 1 s).2).2).2).2).2.map fun p => ((getO (m + 1) (getO 6 (getO 5 (getO 1 (getO 1 s).2).2).2).2).1 * 2 ^ (64 - a - (m + 1)), some (a, 64 - a - (m + 1)), p.1, p.2) := by
 obtain ⟨R, rem, R1, rem1, rfl, ht, e1⟩ := rdO_one h0
 rw [e1] at h1 ha hm ⊢
 obtain ⟨R1', rem1', R2, rem2, e1', ht1, e2⟩ := rdO_one h1
 injection e1' with e1'
 injection e1' with x1 x2
 subst x1 x2
 rw [e2] at ha hm ⊢
 show rdX win R rem = _
 unfold rdX
 rw [ht]
 simp only
 rw [if_neg h0, ht1]
 simp only
 rw [if_neg h1]
 rw [getO_take] at ha hm ⊢
 cases ht2 : takeB 5 R2 rem2 with
 | none => rfl
 | some q =>
  obtain ⟨a', R3, rem3⟩ := q
  rw [ht2] at ha hm
  simp only at ha hm ⊢
  subst ha
  rw [getO_take] at hm ⊢
  cases ht3 : takeB 6 R3 rem3 with
  | none => rfl
  | some q =>
   obtain ⟨m', R4, rem4⟩ := q
   rw [ht3] at hm
   simp only at hm ⊢
   subst hm
   rw [if_neg hf, getO_take]
   cases takeB (m + 1) R4 rem4 <;> rfl
/-- The same, as it is told. -/
theorem stO_zero (hs : SmallO s) (h : (getO 1 s).1 = 0) : stO win s = (getO 1 s).2.map fun p => (0, win, p.1, p.2) := by
 have hr := rdO_zero (win := win) h
 cases h1 : (getO 1 s).2 with
 | none => rw [h1] at hr; exact stO_none hr
 | some p =>
  obtain ⟨R1, rem1⟩ := p
  rw [h1] at hr
  have ht := tookO_get hs h1
  rw [h] at ht
  rw [stO_of hr ht]
  exact if_pos ⟨rfl, rfl⟩
theorem stO_in_none (h0 : (getO 1 s).1 ≠ 0) (h1 : (getO 1 (getO 1 s).2).1 = 0) : stO none s = none := stO_none (rdO_in_none h0 h1)
theorem stO_in {a b x : Nat} {s3 : Option (Nat × Nat)} (hs : SmallO s) (hw : WinOk (some (a, b))) (h0 : (getO 1 s).1 ≠ 0) (h1 : (getO 1 (getO 1 s).2).1 = 0)
  (hx : x = (getO (64 - a - b) (getO 1 (getO 1 s).2).2).1 * 2 ^ b) (h3 : s3 = (getO (64 - a - b) (getO 1 (getO 1 s).2).2).2) :
  stO (some (a, b)) s = (if x = 0 then none else s3.map fun p => (x, some (a, b), p.1, p.2)) ∧ x < 2 ^ 64 ∧ (x ≠ 0 → winX (some (a, b)) x = some (a, b)) := by
 have hr := rdO_in (a := a) (b := b) h0 h1
 rw [← hx, ← h3] at hr
 obtain ⟨w1, w2⟩ := hw
 have hy := ((hs.get 1).get 1).lt (64 - a - b)
 have hx64 : x < 2 ^ 64 := by
  rw [hx]
  have := Nat.mul_lt_mul_of_pos_right hy (Nat.two_pow_pos b)
  rw [← Nat.pow_add] at this
  exact Nat.lt_of_lt_of_le this (Nat.pow_le_pow_right (by omega) (by omega))
 have hfit : x ≠ 0 → fitsX (some (a, b)) x = true := fun h => by rw [hx] at h ⊢; exact (fits_of w1 (by omega) hy h).1
 refine ⟨?_, hx64, fun h => by unfold winX; rw [if_neg h, if_pos (hfit h)]⟩
 cases s3 with
 | none =>
  rw [stO_none hr]
  by_cases hx0 : x = 0
  ·rw [if_pos hx0]
  ·rw [if_neg hx0]; rfl
 | some p =>
  obtain ⟨R3, rem3⟩ := p
  have ht := TookO.snoc h3.symm fun R2 rem2 h2 => TookO.snoc h2 fun R1 rem1 h1 => tookO_get hs h1
  have hc0 : (getO 1 s).1 = 1 := hs.bit.resolve_left h0
  rw [hc0, h1] at ht
  rw [stO_of hr ht]
  by_cases hx0 : x = 0
  ·refine (if_neg ?_).trans (if_pos hx0).symm
   rintro ⟨e, _⟩
   subst hx0
   have : flen (fieldsX (some (a, b)) 0) = 1 := rfl
   rw [this] at e
   have e2 : 1 = 1 + (1 + ((64 - a - b) + 0)) := e
   omega
  ·have hf := hfit hx0
   have e1 : fieldsX (some (a, b)) x = [(1, 1), (0, 1), (x / 2 ^ b, 64 - a - b)] := by unfold fieldsX; rw [if_neg hx0, if_pos hf]; rfl
   have e2 : x / 2 ^ b = (getO (64 - a - b) (getO 1 (getO 1 s).2).2).1 := by rw [hx, Nat.mul_div_cancel _ (Nat.two_pow_pos _)]
   have e3 : winX (some (a, b)) x = some (a, b) := by unfold winX; rw [if_neg hx0, if_pos hf]
   rw [e1, e2, e3]
   exact (if_pos ⟨rfl, rfl⟩).trans (if_neg hx0).symm
theorem stO_far (h0 : (getO 1 s).1 ≠ 0) (h1 : (getO 1 (getO 1 s).2).1 ≠ 0)
  (hf : 64 < (getO 5 (getO 1 (getO 1 s).2).2).1 + ((getO 6 (getO 5 (getO 1 (getO 1 s).2).2).2).1 + 1)) : stO win s = none := stO_none (rdO_far h0 h1 hf)
theorem stO_fresh {a m x : Nat} {s5 : Option (Nat × Nat)} (hs : SmallO s) (hw : WinOk win) (h0 : (getO 1 s).1 ≠ 0) (h1 : (getO 1 (getO 1 s).2).1 ≠ 0) (ha : a = (getO 5 (getO 1 (getO 1 s).2).2).1) (hm : m = (getO 6 (getO 5 (getO 1 (getO 1 s).2).2).2).1) (hf : ¬ 64 < a + (m + 1))
  (hx : x = (getO (m + 1) (getO 6 (getO 5 (getO 1 (getO 1 s).2).2).2).2).1 * 2 ^ (64 - a - (m + 1))) (h5 : s5 = (getO (m + 1) (getO 6 (getO 5 (getO 1 (getO 1 s).2).2).2).2).2) :
  stO win s = (if x = 0 ∨ winX win x ≠ some (a, 64 - a - (m + 1)) ∨ win = some (a, 64 - a - (m + 1)) then none else s5.map fun p => (x, some (a, 64 - a - (m + 1)), p.1, p.2)) ∧ x < 2 ^ 64 := by
 have hr := rdO_fresh (win := win) h0 h1 ha hm hf
 rw [← hx, ← h5] at hr
 have hy := ((((hs.get 1).get 1).get 5).get 6).lt (m + 1)
 have hal : a < 2 ^ 5 := ha ▸ ((hs.get 1).get 1).lt 5
 have hx64 : x < 2 ^ 64 := by
  rw [hx]
  have := Nat.mul_lt_mul_of_pos_right hy (Nat.two_pow_pos (64 - a - (m + 1)))
  rw [← Nat.pow_add] at this
  exact Nat.lt_of_lt_of_le this (Nat.pow_le_pow_right (by omega) (by omega))
 refine ⟨?_, hx64⟩
 cases s5 with
 | none =>
  rw [stO_none hr]
  by_cases hx0 : x = 0 ∨ winX win x ≠ some (a, 64 - a - (m + 1)) ∨ win = some (a, 64 - a - (m + 1))
  ·rw [if_pos hx0]
  ·rw [if_neg hx0]; rfl
 | some p =>
  obtain ⟨R5, rem5⟩ := p
  have ht := TookO.snoc h5.symm fun R4 rem4 h4 => TookO.snoc h4 fun R3 rem3 h3 => TookO.snoc h3 fun R2 rem2 h2 => TookO.snoc h2 fun R1 rem1 h1 => tookO_get hs h1
  have hc0 : (getO 1 s).1 = 1 := hs.bit.resolve_left h0
  have hc1 : (getO 1 (getO 1 s).2).1 = 1 := (hs.get 1).bit.resolve_left h1
  rw [hc0, hc1, ← ha, ← hm] at ht
  obtain ⟨y, hyv⟩ : ∃ y, y = (getO (m + 1) (getO 6 (getO 5 (getO 1 (getO 1 s).2).2).2).2).1 := ⟨_, rfl⟩
  rw [← hyv] at ht hx hy
  rw [stO_of hr ht]
  obtain ⟨b, hb⟩ : ∃ b, b = 64 - a - (m + 1) := ⟨_, rfl⟩
  rw [← hb] at hx ⊢
  have hR : (((([(1, 1)] ++ [(1, 1)]) ++ [(a, 5)]) ++ [(m, 6)]) ++ [(y, m + 1)] : List (Nat × Nat)) = [(1, 1), (1, 1), (a, 5), (m, 6), (y, m + 1)] := rfl
  rw [hR] at ht ⊢
  by_cases hx0 : x = 0
  ·refine (if_neg ?_).trans (if_pos (Or.inl hx0)).symm
   rintro ⟨e, _⟩
   subst hx0
   have : flen (fieldsX win 0) = 1 := rfl
   rw [this] at e
   have e2 : 1 = 1 + (1 + (5 + (6 + ((m + 1) + 0)))) := e
   omega
  ·have hpos : 0 < x := by omega
   -- told so: it is no window told last, and what would be told is this one
   have hno : flen (fieldsX win x) = flen [(1, 1), (1, 1), (a, 5), (m, 6), (y, m + 1)] ∧ fnum (fieldsX win x) = fnum [(1, 1), (1, 1), (a, 5), (m, 6), (y, m + 1)] → fitsX win x = true → False := by
    rintro ⟨e1, e2⟩ hf2
    cases win with
    | none => cases hf2
    | some q =>
     obtain ⟨a', b'⟩ := q
     have e3 : fieldsX (some (a', b')) x = [(1, 1), (0, 1), (x / 2 ^ b', 64 - a' - b')] := by unfold fieldsX; rw [if_neg hx0, if_pos hf2]; rfl
     rw [e3] at e1 e2
     have f1 : 1 + (1 + ((64 - a' - b') + 0)) = 1 + (1 + (5 + (6 + ((m + 1) + 0)))) := e1
     obtain ⟨t, htt⟩ : ∃ t, t = 64 - a' - b' := ⟨_, rfl⟩
     rw [← htt] at e2 f1
     have f2 : 1 % 2 ^ 1 * 2 ^ (1 + (t + 0)) + (0 % 2 ^ 1 * 2 ^ (t + 0) + (x / 2 ^ b' % 2 ^ t * 2 ^ 0 + 0)) = 1 % 2 ^ 1 * 2 ^ (1 + (5 + (6 + ((m + 1) + 0)))) + (1 % 2 ^ 1 * 2 ^ (5 + (6 + ((m + 1) + 0))) + fnum [(a, 5), (m, 6), (y, m + 1)]) := e2
     have f3 : 5 + (6 + ((m + 1) + 0)) = t := by omega
     rw [f3, Nat.add_zero, Nat.pow_add, Nat.pow_one] at f2
     have f4 : x / 2 ^ b' % 2 ^ t < 2 ^ t := Nat.mod_lt _ (Nat.two_pow_pos _)
     generalize x / 2 ^ b' % 2 ^ t = q at *
     generalize fnum [(a, 5), (m, 6), (y, m + 1)] = r at *
     generalize (2 : Nat) ^ t = P at *
     omega
   by_cases hcond : winX win x ≠ some (a, b) ∨ win = some (a, b)
   ·refine (if_neg ?_).trans (if_pos (Or.inr hcond)).symm
    intro htold
    have ht2 := ht
    obtain ⟨R, rem, rfl, hT⟩ := ht2
    have hT2 := hT.to htold.1 htold.2
    have h6 := stX_of (win := win) (x := x) (X := R5) (r := rem5) (rem := flen (fieldsX win x ++ []) + rem5) hw hx64 [] hT2.2.1 rfl
    have h7 := rdX_of (win := win) (x := x) (X := R5) (r := rem5) (rem := flen (fieldsX win x ++ []) + rem5) hw hx64 [] hT2.2.1 rfl
    rw [List.append_nil, ← hT2.1, ← hT2.2.2] at h7
    have h8 : rdX win R rem = some (x, some (a, 64 - a - (m + 1)), R5, rem5) := hr
    rw [h8] at h7
    injection h7 with h7
    injection h7 with _ h7
    injection h7 with h7 _
    rw [← hb] at h7
    rcases hcond with hc | hc
    ·exact hc h7.symm
    ·refine hno htold ?_
     rw [hc, hx]
     exact (fits_of (y := y) (by omega) (by omega) (by rw [show 64 - a - b = m + 1 by omega]; exact hy) (by rw [← hx]; exact hx0)).1
   ·have hw1 : winX win x = some (a, b) := Classical.byContradiction fun h => hcond (.inl h)
    have hw2 : win ≠ some (a, b) := fun h => hcond (.inr h)
    have hnf : ¬ fitsX win x = true := by
     intro hf2
     unfold winX at hw1
     rw [if_neg hx0, if_pos hf2] at hw1
     exact hw2 hw1
    have e4 : aheadN x = a ∧ behindN x = b := by
     unfold winX at hw1
     rw [if_neg hx0, if_neg hnf] at hw1
     injection hw1 with hw1
     injection hw1 with x1 x2
     exact ⟨x1, x2⟩
    have e5 : fieldsX win x = [(1, 1), (1, 1), (a, 5), (m, 6), (y, m + 1)] := by
     unfold fieldsX freshX
     rw [if_neg hx0, if_neg hnf, e4.1, e4.2, show 63 - a - b = m by omega, show 64 - a - b = m + 1 by omega, hx, Nat.mul_div_cancel _ (Nat.two_pow_pos _)]
    rw [e5, hw1]
    exact (if_pos ⟨rfl, rfl⟩).trans (if_neg (fun h : x = 0 ∨ (some (a, b) ≠ some (a, b) ∨ win = some (a, b)) => h.elim hx0 (fun h => h.elim (fun h => h rfl) hw2))).symm
end
theorem encX_len : ∀ (zs : List Nat) (win : Option (Nat × Nat)) (prev : Nat), flen (encX win prev zs) ≤ 77 * zs.length
 | [], _, _ => Nat.zero_le _
 | z :: zs, win, prev => by
  have := encX_len zs (winX win (z ^^^ prev)) z
  have := (fieldsX_len (win := win) (x := z ^^^ prev)).2.2
  show flen (fieldsX win (z ^^^ prev) ++ encX _ z zs) ≤ _
  rw [flen_app, List.length_cons]
  omega
theorem encVals_len (zs : List Nat) : flen (encVals zs) ≤ 64 + 77 * zs.length := by
 cases zs with
 | nil => exact Nat.zero_le _
 | cons z zs =>
  have := encX_len zs none z
  show 64 + _ ≤ _
  rw [List.length_cons]
  omega
end Go.Proofs.YthgoppmgapaajaaGreatDoor

/- Plain mathematics of all codecs: what a row of samples is told in, in each of the six; that it is read back, and nothing else is; the one that takes the fewest bytes. -/
namespace Go.Proofs.YthgoppmgapaajaaGreatDoor

/-- Fields as bytes. -/
def packF (fs : List (Nat × Nat)) : List Nat := packB (fnum fs) (flen fs)
theorem packF_len (fs : List (Nat × Nat)) : (packF fs).length = (flen fs + 7) / 8 := packB_len _ _
theorem packF_256 (fs : List (Nat × Nat)) : lt256 (packF fs) := packB_256 _ _
theorem packF_val (fs : List (Nat × Nat)) : val (packF fs) = fnum fs * 2 ^ (8 * ((flen fs + 7) / 8) - flen fs) + 0 ∧ 8 * (packF fs).length = flen fs + (8 * ((flen fs + 7) / 8) - flen fs) := by
 refine ⟨by rw [Nat.add_zero]; exact packB_val (fnum_lt fs), by rw [packF_len]; omega⟩
/-- Of values: how each differs from the one ahead, going round; as numbers without a sign. -/
def stepU (last x : Nat) : Nat := (zig (sg ((x + M64 - last) % M64))).toNat
def stepsU : Nat → List Nat → List Nat
 | _, [] => []
 | last, x :: xs => stepU last x :: stepsU x xs
def backU (last u : Nat) : Nat := (last + un (zag (u : Int))) % M64
def unstepsU : Nat → List Nat → List Nat
 | _, [] => []
 | last, u :: us => backU last u :: unstepsU (backU last u) us
theorem backU_lt (last u : Nat) : backU last u < 2 ^ 64 := by
 unfold backU
 rw [← M64_pow]
 exact Nat.mod_lt _ (by decide)
theorem step_sg (last x : Nat) : -9223372036854775808 ≤ sg ((x + M64 - last) % M64) ∧ sg ((x + M64 - last) % M64) ≤ 9223372036854775807 := by
 have h := sg_fits (u := (x + M64 - last) % M64) (Nat.mod_lt _ (by decide))
 have e : H63 = 9223372036854775808 := rfl
 obtain ⟨h1, h2⟩ := h
 omega
theorem stepU_lt (last x : Nat) : stepU last x < 2 ^ 64 := by
 have h := step_sg last x
 have h2 := zig_fit h.1 h.2
 unfold stepU
 omega
theorem stepU_int (last x : Nat) : (stepU last x : Int) = zig (sg ((x + M64 - last) % M64)) := by
 have h := step_sg last x
 have h2 := zig_fit h.1 h.2
 unfold stepU
 omega
theorem back_step {last x : Nat} (hl : last < 2 ^ 64) (hx : x < 2 ^ 64) : backU last (stepU last x) = x := by
 unfold backU
 rw [stepU_int, zag_zig, un_sg (Nat.mod_lt _ (by decide))]
 show (last + (x + 18446744073709551616 - last) % 18446744073709551616) % 18446744073709551616 = x
 omega
theorem stepsU_len (v : List Nat) : ∀ last, (stepsU last v).length = v.length := by
 induction v with
 | nil => intro _; rfl
 | cons x xs ih => intro last; show (stepsU x xs).length + 1 = xs.length + 1; rw [ih]
theorem stepsU_lt (v : List Nat) : ∀ last, ∀ u ∈ stepsU last v, u < 2 ^ 64 := by
 induction v with
 | nil => intro _ _ h; cases h
 | cons x xs ih =>
  intro last u hu
  rcases List.mem_cons.1 hu with rfl | hu
  ·exact stepU_lt _ _
  ·exact ih _ u hu
theorem unstepsU_len (v : List Nat) : ∀ last, (unstepsU last v).length = v.length := by
 induction v with
 | nil => intro _; rfl
 | cons x xs ih => intro last; show (unstepsU _ xs).length + 1 = xs.length + 1; rw [ih]
theorem unstepsU_lt (v : List Nat) : ∀ last, ∀ u ∈ unstepsU last v, u < 2 ^ 64 := by
 induction v with
 | nil => intro _ _ h; cases h
 | cons x xs ih =>
  intro last u hu
  rcases List.mem_cons.1 hu with rfl | hu
  ·exact backU_lt _ _
  ·exact ih _ u hu
theorem unsteps_steps (v : List Nat) : ∀ last, last < 2 ^ 64 → (∀ x ∈ v, x < 2 ^ 64) → unstepsU last (stepsU last v) = v := by
 induction v with
 | nil => intro _ _ _; rfl
 | cons x xs ih =>
  intro last hl h
  have hx := h x (by simp)
  show backU last (stepU last x) :: unstepsU (backU last (stepU last x)) (stepsU x xs) = x :: xs
  rw [back_step hl hx, ih x hx (fun y hy => h y (by simp [hy]))]
theorem stepsU_snoc (v : List Nat) (x : Nat) : ∀ last, stepsU last (v ++ [x]) = stepsU last v ++ [stepU (v.getLast?.getD last) x] := by
 induction v with
 | nil => intro last; rfl
 | cons y ys ih =>
  intro last
  show stepU last y :: stepsU y (ys ++ [x]) = stepU last y :: (stepsU y ys ++ _)
  rw [ih y, List.getLast?_cons]
  rfl
theorem unstepsU_snoc (v : List Nat) (x : Nat) : ∀ last, unstepsU last (v ++ [x]) = unstepsU last v ++ [backU ((unstepsU last v).getLast?.getD last) x] := by
 induction v with
 | nil => intro last; rfl
 | cons y ys ih =>
  intro last
  show backU last y :: unstepsU (backU last y) (ys ++ [x]) = backU last y :: (unstepsU (backU last y) ys ++ [backU ((backU last y :: unstepsU (backU last y) ys).getLast?.getD last) x])
  rw [ih, List.getLast?_cons]
  rfl
/-- Words as bytes, the highest first. -/
def w8 (w : Nat) : List Nat := [w / 2 ^ 56 % 256, w / 2 ^ 48 % 256, w / 2 ^ 40 % 256, w / 2 ^ 32 % 256, w / 2 ^ 24 % 256, w / 2 ^ 16 % 256, w / 2 ^ 8 % 256, w % 256]
def words8 : List Nat → List Nat
 | [] => []
 | w :: ws => w8 w ++ words8 ws
theorem words8_len (ws : List Nat) : (words8 ws).length = 8 * ws.length := by
 induction ws with
 | nil => rfl
 | cons w ws ih => show (w8 w ++ words8 ws).length = _; rw [List.length_append, ih, List.length_cons]; show 8 + _ = _; omega
theorem words8_app (a b : List Nat) : words8 (a ++ b) = words8 a ++ words8 b := by
 induction a with
 | nil => rfl
 | cons x xs ih => show w8 x ++ words8 (xs ++ b) = (w8 x ++ words8 xs) ++ words8 b; rw [ih, List.append_assoc]
theorem words8_256 (ws : List Nat) : lt256 (words8 ws) := by
 induction ws with
 | nil => exact lt256_nil
 | cons w ws ih =>
  intro b hb
  rcases List.mem_append.1 hb with hb | hb
  ·simp only [w8, List.mem_cons, List.not_mem_nil, or_false] at hb
   rcases hb with rfl | rfl | rfl | rfl | rfl | rfl | rfl | rfl <;> exact Nat.mod_lt _ (by decide)
  ·exact ih b hb
/-- Eight bytes as a word; what fills none is left. -/
def un8 (a b c d e f g h : Nat) : Nat := ((((((a * 256 + b) * 256 + c) * 256 + d) * 256 + e) * 256 + f) * 256 + g) * 256 + h
def unw8 : List Nat → List Nat
 | a :: b :: c :: d :: e :: f :: g :: h :: r => un8 a b c d e f g h :: unw8 r
 | _ => []
theorem un8_w8 {w : Nat} (h : w < 2 ^ 64) : un8 (w / 2 ^ 56 % 256) (w / 2 ^ 48 % 256) (w / 2 ^ 40 % 256) (w / 2 ^ 32 % 256) (w / 2 ^ 24 % 256) (w / 2 ^ 16 % 256) (w / 2 ^ 8 % 256) (w % 256) = w := by
 unfold un8
 omega
theorem unw8_words8 {ws : List Nat} (h : ∀ w ∈ ws, w < 2 ^ 64) : unw8 (words8 ws) = ws := by
 induction ws with
 | nil => rfl
 | cons w ws ih =>
  show un8 _ _ _ _ _ _ _ _ :: unw8 (words8 ws) = w :: ws
  rw [un8_w8 (h w (by simp)), ih (fun x hx => h x (by simp [hx]))]
/-- Values told in a codec. -/
def toldK (tag : Int) (v : List Nat) : Option (List Nat) :=
 if tag = 1 then some (packF (encVals v))
 else if tag = 2 then (encS (stepsU 0 v)).map words8
 else if tag = 3 then some (encR v)
 else if tag = 4 then some (encP v)
 else if tag = 5 then encD v
 else if tag = 6 then (if v = [] then some [] else if v.all (fun x => x == v.getD 0 0) then some (enc (v.getD 0 0)) else none)
 else none
theorem toldK_256 {tag : Int} {v b : List Nat} (h : toldK tag v = some b) : lt256 b := by
 unfold toldK at h
 split at h
 ·injection h with h; subst h; exact packF_256 _
 split at h
 ·obtain ⟨ws, _, rfl⟩ := Option.map_eq_some_iff.1 h; exact words8_256 _
 split at h
 ·injection h with h; subst h; exact encR_256 _ _ rfl
 split at h
 ·injection h with h; subst h; exact encP_256 _
 split at h
 ·exact encD_256 h
 split at h
 ·split at h
  ·injection h with h; subst h; exact lt256_nil
  ·split at h
   ·injection h with h; subst h; exact enc_256 _
   ·cases h
 ·cases h
theorem toldK_len {tag : Int} {v b : List Nat} (hv : ∀ x ∈ v, x < 2 ^ 64) (hn : v.length ≤ 65535) (h : toldK tag v = some b) : b.length ≤ 2600 + 20 * v.length := by
 unfold toldK at h
 split at h
 ·injection h with h
  subst h
  rw [packF_len]
  have := encVals_len v
  omega
 split at h
 ·obtain ⟨ws, hw, rfl⟩ := Option.map_eq_some_iff.1 h
  have := (encS_len _ _ _ rfl hw).1
  rw [stepsU_len] at this
  rw [words8_len]
  omega
 split at h
 ·injection h with h
  subst h
  have := encR_len _ v rfl (by omega) hv
  omega
 split at h
 ·injection h with h
  subst h
  have := encP_len hv
  omega
 split at h
 ·have := encD_len hv h
  omega
 split at h
 ·split at h
  ·injection h with h; subst h; exact Nat.zero_le _
  ·split at h
   ·injection h with h
    subst h
    rename_i hne _
    have hx : v.getD 0 0 < 2 ^ 64 := by
     cases v with
     | nil => exact absurd rfl hne
     | cons x xs => exact hv x (by simp)
    have := enc_len10 hx
    omega
   ·cases h
 ·cases h
/-- Values of a codec, read. -/
def readK (tag : Int) (n : Nat) (b : List Nat) : Option (List Nat) :=
 if tag = 1 then (valRow n (val b) (8 * b.length)).map (·.1)
 else if tag = 2 then (decS n (unw8 b)).map (unstepsU 0)
 else if tag = 3 then decR n b
 else if tag = 4 then decP n b
 else if tag = 5 then decD n b
 else if tag = 6 then (if n = 0 then some [] else if (dec b).2 = 0 then none else some (List.replicate n (dec b).1))
 else none
theorem all_same {v : List Nat} {x : Nat} (h : ∀ y ∈ v, y = x) : v = List.replicate v.length x := List.eq_replicate_iff.2 ⟨rfl, h⟩
theorem readK_told {tag : Int} {v b : List Nat} (hv : ∀ x ∈ v, x < 2 ^ 64) (hn : v.length ≤ 65535) (h : toldK tag v = some b) : readK tag v.length b = some v := by
 unfold toldK at h
 unfold readK
 split at h
 ·injection h with h
  subst h
  rw [if_pos (by assumption)]
  obtain ⟨h1, h2⟩ := packF_val (encVals v)
  rw [h1, h2, valRow_of v hv (Nat.two_pow_pos _) rfl]
  rfl
 rw [if_neg (by assumption)]
 split at h
 ·obtain ⟨ws, hw, rfl⟩ := Option.map_eq_some_iff.1 h
  rw [if_pos (by assumption), unw8_words8 (encS_len _ _ _ rfl hw).2, decS_of (stepsU_len v 0) hw, Option.map_some, unsteps_steps v 0 (by decide) hv]
 rw [if_neg (by assumption)]
 split at h
 ·injection h with h
  subst h
  rw [if_pos (by assumption), decR_of (by omega) hv]
 rw [if_neg (by assumption)]
 split at h
 ·injection h with h
  subst h
  rw [if_pos (by assumption), decP_of hv]
 rw [if_neg (by assumption)]
 split at h
 ·rw [if_pos (by assumption), decD_of hv h]
 rw [if_neg (by assumption)]
 split at h
 ·rw [if_pos (by assumption)]
  split at h
  ·rename_i hv0
   subst hv0
   rfl
  ·rename_i hne
   split at h
   ·rename_i hall
    injection h with h
    subst h
    have hl : ¬ v.length = 0 := fun e => hne (List.eq_nil_of_length_eq_zero e)
    have hx : v.getD 0 0 < 2 ^ 64 := by
     cases v with
     | nil => exact absurd rfl hne
     | cons x xs => exact hv x (by simp)
    have hd := dec_enc (v.getD 0 0) hx []
    rw [List.append_nil] at hd
    have hp := enc_pos (v.getD 0 0)
    rw [if_neg hl, hd, if_neg (by omega)]
    have := all_same (v := v) (x := v.getD 0 0) (fun y hy => by have := List.all_eq_true.1 hall y hy; simpa using this)
    rw [← this]
   ·cases h
 ·cases h
theorem valRow_some {n R rem : Nat} {p : List Nat × Nat × Nat} (h : valRow n R rem = some p) (hR : R < 2 ^ rem) : p.1.length = n ∧ ∀ x ∈ p.1, x < 2 ^ 64 := by
 obtain ⟨vs, R1, rem1⟩ := p
 rw [← stVals_eq hR] at h
 exact (stVals_took h hR).2
theorem readK_some {tag : Int} {n : Nat} {b v : List Nat} (hlt : lt256 b) (h : readK tag n b = some v) : v.length = n ∧ ∀ x ∈ v, x < 2 ^ 64 := by
 unfold readK at h
 split at h
 ·obtain ⟨p, hp, rfl⟩ := Option.map_eq_some_iff.1 h
  exact valRow_some hp (val_lt hlt)
 split at h
 ·obtain ⟨u, hu, rfl⟩ := Option.map_eq_some_iff.1 h
  exact ⟨by rw [unstepsU_len]; exact (decS_some hu).1, unstepsU_lt _ _⟩
 split at h
 ·obtain ⟨h1, h2, _⟩ := decR_some hlt h
  exact ⟨h1, h2⟩
 split at h
 ·obtain ⟨h1, h2, _⟩ := decP_some h
  exact ⟨h1, h2⟩
 split at h
 ·obtain ⟨h1, h2, _⟩ := decD_some hlt h
  exact ⟨h1, h2⟩
 split at h
 ·split at h
  ·injection h with h
   subst h
   rename_i hn
   exact ⟨hn.symm, (fun _ h => by cases h)⟩
  ·split at h
   ·cases h
   ·injection h with h
    subst h
    refine ⟨List.length_replicate .., fun x hx => ?_⟩
    rw [(List.mem_replicate.1 hx).2]
    exact dec_lt hlt
 ·cases h
/-- A row of samples: its times and its values; it rises. -/
def tsOf (l : List (Int × Nat)) : List Int := l.map (·.1)
def vsOf (l : List (Int × Nat)) : List Nat := l.map (·.2)
def GoodS (l : List (Int × Nat)) : Prop := ∀ p ∈ l, Fits p.1 ∧ p.2 < 2 ^ 64
theorem tsOf_len (l : List (Int × Nat)) : (tsOf l).length = l.length := by simp [tsOf]
theorem vsOf_len (l : List (Int × Nat)) : (vsOf l).length = l.length := by simp [vsOf]
theorem GoodS.ts {l : List (Int × Nat)} (h : GoodS l) : ∀ x ∈ tsOf l, Fits x := fun x hx => by
 obtain ⟨p, hp, rfl⟩ := List.mem_map.1 hx
 exact (h p hp).1
theorem GoodS.vs {l : List (Int × Nat)} (h : GoodS l) : ∀ x ∈ vsOf l, x < 2 ^ 64 := fun x hx => by
 obtain ⟨p, hp, rfl⟩ := List.mem_map.1 hx
 exact (h p hp).2
theorem zip_of (l : List (Int × Nat)) : (tsOf l).zip (vsOf l) = l := by
 induction l with
 | nil => rfl
 | cons p l ih => show (p.1, p.2) :: (tsOf l).zip (vsOf l) = p :: l; rw [ih]
theorem of_zip {ts : List Int} {vs : List Nat} (h : ts.length = vs.length) : tsOf (ts.zip vs) = ts ∧ vsOf (ts.zip vs) = vs := by
 induction ts generalizing vs with
 | nil =>
  cases vs with
  | nil => exact ⟨rfl, rfl⟩
  | cons _ _ => cases h
 | cons t ts ih =>
  cases vs with
  | nil => cases h
  | cons v vs =>
   obtain ⟨h1, h2⟩ := ih (vs := vs) (by simpa using h)
   exact ⟨by show t :: tsOf (ts.zip vs) = _; rw [h1], by show v :: vsOf (ts.zip vs) = _; rw [h2]⟩
def ascB : List Int → Bool
 | a :: b :: r => decide (a < b) && ascB (b :: r)
 | _ => true
theorem ascB_iff (ts : List Int) : ascB ts = true ↔ ∀ i a b, ts[i]? = some a → ts[i + 1]? = some b → a < b := by
 induction ts with
 | nil => exact ⟨fun _ i a b h => by simp at h, fun _ => rfl⟩
 | cons x xs ih =>
  cases xs with
  | nil => exact ⟨fun _ i a b _ h => by simp at h, fun _ => rfl⟩
  | cons y ys =>
   have e : ascB (x :: y :: ys) = (decide (x < y) && ascB (y :: ys)) := rfl
   rw [e, Bool.and_eq_true, decide_eq_true_iff, ih]
   constructor
   ·rintro ⟨h1, h2⟩ i a b ha hb
    cases i with
    | zero =>
     rw [List.getElem?_cons_zero] at ha
     rw [List.getElem?_cons_succ, List.getElem?_cons_zero] at hb
     injection ha with ha
     injection hb with hb
     subst ha hb
     exact h1
    | succ i => exact h2 i a b ha hb
   ·intro h
    exact ⟨h 0 x y rfl rfl, fun i a b ha hb => h (i + 1) a b ha hb⟩
def riseB (l : List (Int × Nat)) : Bool := ascB (tsOf l) && decide (l.length ≤ 65535)
theorem riseB_iff (l : List (Int × Nat)) : riseB l = true ↔ (∀ i a b, (tsOf l)[i]? = some a → (tsOf l)[i + 1]? = some b → a < b) ∧ l.length ≤ 65535 := by
 unfold riseB
 rw [Bool.and_eq_true, decide_eq_true_iff, ascB_iff]
/-- The bytes of its times. -/
def tbK (l : List (Int × Nat)) : List Nat := packF (encRow (tsOf l))
theorem tbK_len (l : List (Int × Nat)) : (tbK l).length ≤ 9 * l.length + 16 := by
 unfold tbK
 rw [packF_len]
 have := encRow_len (tsOf l)
 rw [tsOf_len] at this
 omega
/-- A row told in a codec. -/
def encK (tag : Int) (l : List (Int × Nat)) : Option (List Nat) :=
 if riseB l then (toldK tag (vsOf l)).map fun b => enc (tbK l).length ++ (tbK l ++ b) else none
theorem encK_some {tag : Int} {l : List (Int × Nat)} {b : List Nat} (h : encK tag l = some b) : riseB l = true ∧ ∃ vb, toldK tag (vsOf l) = some vb ∧ b = enc (tbK l).length ++ (tbK l ++ vb) := by
 unfold encK at h
 split at h
 ·rename_i hr
  obtain ⟨vb, h1, h2⟩ := Option.map_eq_some_iff.1 h
  exact ⟨hr, vb, h1, h2.symm⟩
 ·cases h
theorem encK_no {tag : Int} {l : List (Int × Nat)} (h : riseB l = false) : encK tag l = none := by
 unfold encK
 rw [h]
 rfl
theorem encK_of {tag : Int} {l : List (Int × Nat)} {vb : List Nat} (h : riseB l = true) (h2 : toldK tag (vsOf l) = some vb) : encK tag l = some (enc (tbK l).length ++ (tbK l ++ vb)) := by
 unfold encK
 rw [h, h2]
 rfl
theorem encK_256 {tag : Int} {l : List (Int × Nat)} {b : List Nat} (h : encK tag l = some b) : lt256 b := by
 obtain ⟨_, vb, h1, rfl⟩ := encK_some h
 intro x hx
 rw [List.mem_append, List.mem_append] at hx
 rcases hx with hx | hx | hx
 ·exact enc_256 _ x hx
 ·exact packF_256 _ x hx
 ·exact toldK_256 h1 x hx
theorem encK_len {tag : Int} {l : List (Int × Nat)} {b : List Nat} (hg : GoodS l) (h : encK tag l = some b) : b.length ≤ 2700 + 30 * l.length := by
 obtain ⟨hr, vb, h1, rfl⟩ := encK_some h
 have hn := ((riseB_iff l).1 hr).2
 have h2 := toldK_len hg.vs (by rw [vsOf_len]; exact hn) h1
 have h3 := tbK_len l
 have h4 := enc_len10 (u := (tbK l).length) (by omega)
 rw [vsOf_len] at h2
 rw [List.length_append, List.length_append]
 omega
/-- Bytes of a codec, read. -/
def decK (tag : Int) (n : Int) (b : List Nat) : Option (List (Int × Nat)) :=
 if n < 0 ∨ 65535 < n then none
 else if (dec b).2 = 0 ∨ b.length - (dec b).2 < (dec b).1 then none
 else match rdRow n.toNat (val ((b.drop (dec b).2).take (dec b).1)) (8 * ((b.drop (dec b).2).take (dec b).1).length), readK tag n.toNat ((b.drop (dec b).2).drop (dec b).1) with
  | some (ts, _), some vs => if encK tag (ts.zip vs) = some b then some (ts.zip vs) else none
  | _, _ => none
theorem decK_some {tag n : Int} {b : List Nat} {l : List (Int × Nat)} (hlt : lt256 b) (h : decK tag n b = some l) : 0 ≤ n ∧ n ≤ 65535 ∧ (l.length : Int) = n ∧ GoodS l ∧ encK tag l = some b := by
 unfold decK at h
 split at h
 ·cases h
 rename_i hn
 split at h
 ·cases h
 split at h
 ·rename_i ts p vs ht hv
  split at h
  ·rename_i he
   injection h with h
   have hb : lt256 ((b.drop (dec b).2).take (dec b).1) := fun x hx => hlt x (List.mem_of_mem_drop (List.mem_of_mem_take hx))
   obtain ⟨t1, t2, _⟩ := rdRow_some ht (val_lt hb)
   obtain ⟨v1, v2⟩ := readK_some (fun x hx => hlt x (List.mem_of_mem_drop (List.mem_of_mem_drop hx))) hv
   have hl : ts.length = vs.length := by rw [v1]; exact t1
   obtain ⟨z1, z2⟩ := of_zip hl
   subst h
   refine ⟨by omega, by omega, ?_, fun p hp => ?_, he⟩
   ·have h1 := tsOf_len (ts.zip vs)
    rw [z1] at h1
    have h2 : ts.length = n.toNat := t1
    omega
   ·obtain ⟨a, b⟩ := p
    have := List.of_mem_zip hp
    exact ⟨t2 a this.1, v2 b this.2⟩
  ·cases h
 ·cases h
theorem decK_of {tag : Int} {l : List (Int × Nat)} {b : List Nat} (hg : GoodS l) (h : encK tag l = some b) : decK tag (l.length : Int) b = some l := by
 obtain ⟨hr, vb, h1, hb⟩ := encK_some h
 have hn := ((riseB_iff l).1 hr).2
 have h3 := tbK_len l
 have hd := dec_enc (tbK l).length (by omega) (tbK l ++ vb)
 rw [← hb] at hd
 have hp := enc_pos (tbK l).length
 have hlen : b.length = (enc (tbK l).length).length + ((tbK l).length + vb.length) := by rw [hb, List.length_append, List.length_append]
 have hdr : b.drop (enc (tbK l).length).length = tbK l ++ vb := by rw [hb, List.drop_left]
 unfold decK
 rw [if_neg (by omega), hd, if_neg (by simp only; omega)]
 simp only [Int.toNat_natCast, hdr, List.take_left, List.drop_left]
 have e1 : rdRow l.length (val (tbK l)) (8 * (tbK l).length) = some (tsOf l, 0, 8 * ((flen (encRow (tsOf l)) + 7) / 8) - flen (encRow (tsOf l))) := by
  obtain ⟨q1, q2⟩ := packF_val (encRow (tsOf l))
  show rdRow l.length (val (packF (encRow (tsOf l)))) (8 * (packF (encRow (tsOf l))).length) = _
  rw [q1, q2]
  have := rdRow_of (tsOf l) hg.ts (X := 0) (r := 8 * ((flen (encRow (tsOf l)) + 7) / 8) - flen (encRow (tsOf l))) (Nat.two_pow_pos _) rfl
  rw [tsOf_len] at this
  exact this
 have e2 : readK tag l.length vb = some (vsOf l) := by
  have := readK_told hg.vs (by rw [vsOf_len]; exact hn) h1
  rw [vsOf_len] at this
  exact this
 rw [e1, e2]
 simp only [zip_of, h, if_true]
/-- The codec that takes the fewest bytes. -/
def bestStep (l : List (Int × Nat)) (k : Int) (p : Int × List Nat) : Int × List Nat :=
 match encK k l with
 | some b => if p.1 = 0 ∨ b.length < p.2.length then (k, b) else p
 | none => p
def bestTo (l : List (Int × Nat)) : Nat → Int × List Nat
 | 0 => (0, [])
 | i + 1 => bestStep l ((i + 1 : Nat) : Int) (bestTo l i)
end Go.Proofs.YthgoppmgapaajaaGreatDoor

/- Chunks: the mathematics. -/
namespace Go.Proofs.YthgoppmgapaajaaGreatDoor

/-- The first and the last time of a row. -/
def fstT (l : List (Int × Nat)) : Int := (tsOf l).headD 0
def lstT (l : List (Int × Nat)) : Int := (tsOf l).getLastD 0
/-- A number of 32 bits in four bytes, the highest first. -/
def sum4 (s : Nat) : List Nat := [s / 16777216 % 256, s / 65536 % 256, s / 256 % 256, s % 256]
theorem sum4_256 (s : Nat) : lt256 (sum4 s) := by
 intro b hb
 simp [sum4] at hb
 omega
/-- What stands ahead of the samples. -/
def headC (t n : Nat) (f g : Int) : List Nat := t :: (enc n ++ (enc (zig f).toNat ++ enc (zig g).toNat))
def headR (tag : Int) (l : List (Int × Nat)) : List Nat := headC tag.toNat l.length (fstT l) (lstT l)
/-- A chunk. -/
def makeC (tag : Int) (l : List (Int × Nat)) : Option (List Nat) :=
 if l = [] then none else (encK tag l).map fun b => headR tag l ++ b ++ sum4 (sumN ent (headR tag l ++ b))
/-- The head that stands at the beginning, and how many bytes it takes. -/
def hdC : List Nat → Option ((Nat × Nat × Int × Int) × Nat)
 | [] => none
 | t :: r =>
  let n := dec r
  let f := dec (r.drop n.2)
  let g := dec (r.drop (n.2 + f.2))
  if t < 1 ∨ 6 < t ∨ n.2 = 0 ∨ f.2 = 0 ∨ g.2 = 0 ∨ n.1 < 1 ∨ 65535 < n.1 ∨ zag (g.1 : Int) < zag (f.1 : Int) then none
  else some ((t, n.1, zag (f.1 : Int), zag (g.1 : Int)), 1 + n.2 + f.2 + g.2)
theorem zig_nat {f : Int} (h : Fits f) : ((zig f).toNat : Int) = zig f ∧ (zig f).toNat < 18446744073709551616 := by
 have hH : (H63 : Int) = 9223372036854775808 := by decide
 have h1 := h.1
 have h2 := h.2
 obtain ⟨a, b⟩ := zig_fit (n := f) (by omega) (by omega)
 exact ⟨Int.toNat_of_nonneg a, by omega⟩
theorem hdC_head {t n : Nat} {f g : Int} (h1 : 1 ≤ t) (h6 : t ≤ 6) (hn : 1 ≤ n) (hn2 : n ≤ 65535) (hf : Fits f) (hg : Fits g) (hfg : f ≤ g) (rest : List Nat) : hdC (headC t n f g ++ rest) = some ((t, n, f, g), (headC t n f g).length) := by
 obtain ⟨f1, f2⟩ := zig_nat hf
 obtain ⟨g1, g2⟩ := zig_nat hg
 have e1 : dec (enc n ++ (enc (zig f).toNat ++ (enc (zig g).toNat ++ rest))) = (n, (enc n).length) := dec_enc n (by omega) _
 have e2 : dec (enc (zig f).toNat ++ (enc (zig g).toNat ++ rest)) = ((zig f).toNat, (enc (zig f).toNat).length) := dec_enc _ f2 _
 have e3 : dec (enc (zig g).toNat ++ rest) = ((zig g).toNat, (enc (zig g).toNat).length) := dec_enc _ g2 _
 have p1 := enc_pos n
 have p2 := enc_pos (zig f).toNat
 have p3 := enc_pos (zig g).toNat
 have ea : headC t n f g ++ rest = t :: (enc n ++ (enc (zig f).toNat ++ (enc (zig g).toNat ++ rest))) := by simp [headC]
 rw [ea]
 unfold hdC
 have d1 : (enc n ++ (enc (zig f).toNat ++ (enc (zig g).toNat ++ rest))).drop (enc n).length = enc (zig f).toNat ++ (enc (zig g).toNat ++ rest) := List.drop_left
 have d2 : (enc n ++ (enc (zig f).toNat ++ (enc (zig g).toNat ++ rest))).drop ((enc n).length + (enc (zig f).toNat).length) = enc (zig g).toNat ++ rest := by
  rw [← List.drop_drop, d1, List.drop_left]
 simp only [e1, d1, e2, d2, e3, f1, g1, zag_zig]
 rw [if_neg (by omega)]
 congr 2
 simp only [headC, List.length_cons, List.length_append]
 omega
theorem makeC_some {tag : Int} {l : List (Int × Nat)} {c : List Nat} (h : makeC tag l = some c) : l ≠ [] ∧ ∃ b, encK tag l = some b ∧ c = headR tag l ++ b ++ sum4 (sumN ent (headR tag l ++ b)) := by
 unfold makeC at h
 split at h
 ·cases h
 ·rename_i hl
  obtain ⟨b, h1, h2⟩ := Option.map_eq_some_iff.1 h
  exact ⟨hl, b, h1, h2.symm⟩
theorem makeC_of {tag : Int} {l : List (Int × Nat)} {b : List Nat} (hl : l ≠ []) (h : encK tag l = some b) : makeC tag l = some (headR tag l ++ b ++ sum4 (sumN ent (headR tag l ++ b))) := by
 unfold makeC
 rw [if_neg hl, h]
 rfl
theorem asc_le {ts : List Int} (h : ascB ts = true) : ts.headD 0 ≤ ts.getLastD 0 := by
 induction ts with
 | nil => exact Int.le_refl _
 | cons a r ih =>
  cases r with
  | nil => exact Int.le_refl _
  | cons b r =>
   simp only [ascB, Bool.and_eq_true, decide_eq_true_eq] at h
   have h2 := ih h.2
   have e : (a :: b :: r).getLastD 0 = (b :: r).getLastD 0 := by simp [List.getLastD]
   rw [e]
   have h3 : (b :: r).headD 0 = b := rfl
   rw [h3] at h2
   show a ≤ _
   omega
theorem fstT_fits {l : List (Int × Nat)} (hg : GoodS l) : Fits (fstT l) := by
 unfold fstT
 cases l with
 | nil => exact ⟨by decide, by decide⟩
 | cons p l => exact (hg p (List.mem_cons_self ..)).1
theorem getLastD_mem (r : List Int) : ∀ a : Int, r.getLastD a ∈ a :: r := by
 induction r with
 | nil => intro a; exact List.mem_cons_self ..
 | cons b r ih => intro a; rw [List.getLastD_cons]; exact List.mem_cons_of_mem _ (ih b)
theorem lstT_fits {l : List (Int × Nat)} (hg : GoodS l) : Fits (lstT l) := by
 unfold lstT
 cases hl : (tsOf l) with
 | nil => exact ⟨by decide, by decide⟩
 | cons a r =>
  have : (a :: r).getLastD 0 ∈ tsOf l := by rw [hl, List.getLastD_cons]; exact getLastD_mem r a
  exact hg.ts _ this
theorem toldK_tag {tag : Int} {us : List Nat} {b : List Nat} (h : toldK tag us = some b) : 1 ≤ tag ∧ tag ≤ 6 := by
 by_cases h1 : 1 ≤ tag ∧ tag ≤ 6
 ·exact h1
 ·have hno : toldK tag us = none := by
   unfold toldK
   rw [if_neg (by omega), if_neg (by omega), if_neg (by omega), if_neg (by omega), if_neg (by omega), if_neg (by omega)]
  rw [hno] at h
  cases h
theorem encK_tag {tag : Int} {l : List (Int × Nat)} {b : List Nat} (h : encK tag l = some b) : 1 ≤ tag ∧ tag ≤ 6 := by
 obtain ⟨_, vb, h1, _⟩ := encK_some h
 exact toldK_tag h1
theorem rise_ends {l : List (Int × Nat)} (h : riseB l = true) : fstT l ≤ lstT l ∧ l.length ≤ 65535 := by
 unfold riseB at h
 rw [Bool.and_eq_true, decide_eq_true_iff] at h
 exact ⟨asc_le h.1, h.2⟩
theorem headC_256 {t n : Nat} (f g : Int) (ht : t < 256) : lt256 (headC t n f g) := by
 intro b hb
 simp only [headC, List.mem_cons, List.mem_append] at hb
 rcases hb with rfl | hb | hb | hb
 ·exact ht
 ·exact enc_256 _ b hb
 ·exact enc_256 _ b hb
 ·exact enc_256 _ b hb
theorem headR_256 {tag : Int} {l : List (Int × Nat)} (h : 1 ≤ tag ∧ tag ≤ 6) : lt256 (headR tag l) := headC_256 _ _ (by omega)
/-- The head of a chunk, whatever stands behind. -/
theorem hdC_headR {tag : Int} {l : List (Int × Nat)} {b : List Nat} (hg : GoodS l) (hl : l ≠ []) (h : encK tag l = some b) (rest : List Nat) : hdC (headR tag l ++ rest) = some ((tag.toNat, l.length, fstT l, lstT l), (headR tag l).length) := by
 have ht := encK_tag h
 obtain ⟨h1, h2⟩ := rise_ends (encK_some h).1
 have hp : 0 < l.length := List.length_pos_iff.2 hl
 exact hdC_head (by omega) (by omega) hp h2 (fstT_fits hg) (lstT_fits hg) h1 rest
theorem makeC_256 {tag : Int} {l : List (Int × Nat)} {c : List Nat} (h : makeC tag l = some c) : lt256 c := by
 obtain ⟨_, b, h1, rfl⟩ := makeC_some h
 exact lt256_app (lt256_app (headR_256 (encK_tag h1)) (encK_256 h1)) (sum4_256 _)
/-- The sum stands behind. -/
theorem makeC_sum {tag : Int} {l : List (Int × Nat)} {c : List Nat} (h : makeC tag l = some c) : 4 ≤ c.length ∧ c.drop (c.length - 4) = sum4 (sumN ent (c.take (c.length - 4))) := by
 obtain ⟨_, b, _, h2⟩ := makeC_some h
 have hlen : c.length = (headR tag l ++ b).length + 4 := by rw [h2, List.length_append]; rfl
 refine ⟨by omega, ?_⟩
 rw [hlen, Nat.add_sub_cancel, h2, List.take_left, List.drop_left]
end Go.Proofs.YthgoppmgapaajaaGreatDoor

/- Chunks: what the code asks of a chunk, and what the document asks, is one. -/
namespace Go.Proofs.YthgoppmgapaajaaGreatDoor

theorem dec_pre {bs : List Nat} (hlt : lt256 bs) (h : ¬ (dec bs).2 = 0) : ∃ v rest, v < 18446744073709551616 ∧ dec bs = (v, (enc v).length) ∧ bs = enc v ++ rest := by
 obtain ⟨h1, h2⟩ := dec_some hlt (Nat.pos_of_ne_zero h)
 refine ⟨(dec bs).1, bs.drop (dec bs).2, dec_lt hlt, ?_, ?_⟩
 ·rw [h2, List.length_take, Nat.min_eq_left h1]
 ·rw [h2, List.take_append_drop]
/-- What a head is, that is read. -/
theorem hdC_some {b : List Nat} {t n k : Nat} {f g : Int} (hlt : lt256 b) (h : hdC b = some ((t, n, f, g), k)) :
  1 ≤ t ∧ t ≤ 6 ∧ 1 ≤ n ∧ n ≤ 65535 ∧ Fits f ∧ Fits g ∧ f ≤ g ∧ k = (headC t n f g).length ∧ ∃ rest, b = headC t n f g ++ rest := by
 cases b with
 | nil => cases h
 | cons t0 r =>
  simp only [hdC] at h
  split at h
  ·cases h
  ·rename_i hc
   have hr : lt256 r := fun x hx => hlt x (List.mem_cons_of_mem _ hx)
   obtain ⟨n1, r1, ln1, e1, d1⟩ := dec_pre hr (by omega)
   have hr1 : lt256 r1 := fun x hx => hr x (by rw [d1]; exact List.mem_append_right _ hx)
   have q1 : r.drop (dec r).2 = r1 := by rw [e1, d1, List.drop_left]
   rw [q1] at h hc
   obtain ⟨f1, r2, lf1, e2, d2⟩ := dec_pre hr1 (by omega)
   have hr2 : lt256 r2 := fun x hx => hr1 x (by rw [d2]; exact List.mem_append_right _ hx)
   have q2 : r.drop ((dec r).2 + (dec r1).2) = r2 := by rw [← List.drop_drop, q1, e2, d2, List.drop_left]
   rw [q2] at h hc
   obtain ⟨g1, r3, lg1, e3, d3⟩ := dec_pre hr2 (by omega)
   rw [e1, e2, e3] at h hc
   simp only [Option.some.injEq, Prod.mk.injEq] at h
   obtain ⟨⟨rfl, rfl, rfl, rfl⟩, rfl⟩ := h
   have hH : (H63 : Int) = 9223372036854775808 := by decide
   have zf : zig (zag (f1 : Int)) = (f1 : Int) := zig_zag _ (by omega)
   have zg : zig (zag (g1 : Int)) = (g1 : Int) := zig_zag _ (by omega)
   have ff := zag_fit (u := (f1 : Int)) (by omega) (by omega)
   have fg := zag_fit (u := (g1 : Int)) (by omega) (by omega)
   simp only at hc
   have ehead : headC t0 n1 (zag (f1 : Int)) (zag (g1 : Int)) = t0 :: (enc n1 ++ (enc f1 ++ enc g1)) := by
    unfold headC
    rw [zf, zg, Int.toNat_natCast, Int.toNat_natCast]
   refine ⟨by omega, by omega, by omega, by omega, ⟨by omega, by omega⟩, ⟨by omega, by omega⟩, by omega, ?_, r3, ?_⟩
   ·rw [ehead]
    simp only [List.length_cons, List.length_append]
    omega
   ·rw [ehead, d1, d2, d3]
    simp
/-- The row that a chunk holds, as the code finds it. -/
def openX (c : List Nat) : Option (List (Int × Nat) × Nat) :=
 if c.length < 4 ∨ c.drop (c.length - 4) ≠ sum4 (sumN ent (c.take (c.length - 4))) then none
 else match hdC (c.take (c.length - 4)) with
  | none => none
  | some (h, k) => match decK (h.1 : Int) (h.2.1 : Int) ((c.take (c.length - 4)).drop k) with
   | none => none
   | some l => if fstT l = h.2.2.1 ∧ lstT l = h.2.2.2 then some (l, h.1) else none
theorem openX_make {tag : Int} {l : List (Int × Nat)} {c : List Nat} (hg : GoodS l) (h : makeC tag l = some c) : openX c = some (l, tag.toNat) := by
 obtain ⟨h4, hs⟩ := makeC_sum h
 obtain ⟨hl, b, h1, h2⟩ := makeC_some h
 have ht := encK_tag h1
 have hlen : c.length = (headR tag l ++ b).length + 4 := by rw [h2, List.length_append]; rfl
 have hT : c.take (c.length - 4) = headR tag l ++ b := by rw [hlen, Nat.add_sub_cancel, h2, List.take_left]
 unfold openX
 rw [if_neg (fun h0 => h0.elim (fun h => by omega) (fun h => h hs)), hT, hdC_headR hg hl h1 b]
 simp only
 have etag : ((tag.toNat : Nat) : Int) = tag := Int.toNat_of_nonneg (by omega)
 rw [List.drop_left, etag, decK_of hg h1]
 simp only
 exact if_pos ⟨trivial, trivial⟩
/-- Where the numbers of a head stand, and what they are. -/
def hp (bs : List Nat) : Nat → Nat
 | 0 => 1
 | i + 1 => hp bs i + (dec (bs.drop (hp bs i))).2
def hx (bs : List Nat) (i : Nat) : Nat := (dec (bs.drop (hp bs i))).1
def hq (bs : List Nat) (i : Nat) : Nat := (dec (bs.drop (hp bs i))).2
theorem hp_succ (bs : List Nat) (i : Nat) : hp bs (i + 1) = hp bs i + hq bs i := rfl
theorem hdC_via (t : Nat) (r : List Nat) : hdC (t :: r) = if t < 1 ∨ 6 < t ∨ hq (t :: r) 0 = 0 ∨ hq (t :: r) 1 = 0 ∨ hq (t :: r) 2 = 0 ∨ hx (t :: r) 0 < 1 ∨ 65535 < hx (t :: r) 0 ∨ zag (hx (t :: r) 2 : Int) < zag (hx (t :: r) 1 : Int) then none
  else some ((t, hx (t :: r) 0, zag (hx (t :: r) 1 : Int), zag (hx (t :: r) 2 : Int)), hp (t :: r) 3) := by
 have e0 : (t :: r).drop (hp (t :: r) 0) = r := rfl
 have q0 : hq (t :: r) 0 = (dec r).2 := rfl
 have x0 : hx (t :: r) 0 = (dec r).1 := rfl
 have p1 : hp (t :: r) 1 = 1 + (dec r).2 := rfl
 have e1 : (t :: r).drop (hp (t :: r) 1) = r.drop (dec r).2 := by rw [p1, Nat.add_comm, List.drop_succ_cons]
 have q1 : hq (t :: r) 1 = (dec (r.drop (dec r).2)).2 := by unfold hq; rw [e1]
 have x1 : hx (t :: r) 1 = (dec (r.drop (dec r).2)).1 := by unfold hx; rw [e1]
 have p2 : hp (t :: r) 2 = 1 + (dec r).2 + (dec (r.drop (dec r).2)).2 := by rw [hp_succ, p1, q1]
 have e2 : (t :: r).drop (hp (t :: r) 2) = r.drop ((dec r).2 + (dec (r.drop (dec r).2)).2) := by rw [p2, Nat.add_assoc, Nat.add_comm, List.drop_succ_cons]
 have q2 : hq (t :: r) 2 = (dec (r.drop ((dec r).2 + (dec (r.drop (dec r).2)).2))).2 := by unfold hq; rw [e2]
 have x2 : hx (t :: r) 2 = (dec (r.drop ((dec r).2 + (dec (r.drop (dec r).2)).2))).1 := by unfold hx; rw [e2]
 have p3 : hp (t :: r) 3 = 1 + (dec r).2 + (dec (r.drop (dec r).2)).2 + (dec (r.drop ((dec r).2 + (dec (r.drop (dec r).2)).2))).2 := by rw [hp_succ, p2, q2]
 rw [q0, q1, q2, x0, x1, x2, p3]
 rfl
theorem hx_lt {bs : List Nat} (hlt : lt256 bs) (i : Nat) : hx bs i < 18446744073709551616 := dec_lt fun x hx => hlt x (List.mem_of_mem_drop hx)
theorem hdC_stop {bs : List Nat} {i : Nat} (hi : i < 3) (h : hq bs i = 0) : hdC bs = none := by
 cases bs with
 | nil => rfl
 | cons t r =>
  rw [hdC_via, if_pos]
  have : i = 0 ∨ i = 1 ∨ i = 2 := by omega
  rcases this with rfl | rfl | rfl
  ·exact .inr (.inr (.inl h))
  ·exact .inr (.inr (.inr (.inl h)))
  ·exact .inr (.inr (.inr (.inr (.inl h))))
theorem hdC_bad {bs : List Nat} {t : Nat} (h0 : bs[0]? = some t) (h : t < 1 ∨ 6 < t ∨ hx bs 0 < 1 ∨ 65535 < hx bs 0 ∨ zag (hx bs 2 : Int) < zag (hx bs 1 : Int)) : hdC bs = none := by
 cases bs with
 | nil => rfl
 | cons t' r =>
  injection h0 with h0
  subst h0
  rw [hdC_via, if_pos]
  rcases h with h | h | h | h | h
  ·exact .inl h
  ·exact .inr (.inl h)
  ·exact .inr (.inr (.inr (.inr (.inr (.inl h)))))
  ·exact .inr (.inr (.inr (.inr (.inr (.inr (.inl h))))))
  ·exact .inr (.inr (.inr (.inr (.inr (.inr (.inr h))))))
theorem hdC_good {bs : List Nat} {t : Nat} (h0 : bs[0]? = some t) (h1 : 1 ≤ t) (h6 : t ≤ 6) (hs : ∀ i, i < 3 → hq bs i ≠ 0) (hn : 1 ≤ hx bs 0) (hn2 : hx bs 0 ≤ 65535) (h : zag (hx bs 1 : Int) ≤ zag (hx bs 2 : Int)) :
  hdC bs = some ((t, hx bs 0, zag (hx bs 1 : Int), zag (hx bs 2 : Int)), hp bs 3) := by
 cases bs with
 | nil => cases h0
 | cons t' r =>
  injection h0 with h0
  subst h0
  have a0 := hs 0 (by decide)
  have a1 := hs 1 (by decide)
  have a2 := hs 2 (by decide)
  rw [hdC_via, if_neg (by omega)]
end Go.Proofs.YthgoppmgapaajaaGreatDoor

/- Rising. -/
namespace Go.Proofs.YthgoppmgapaajaaGreatDoor
open Go.RowKit

theorem ts_get {l : List (Int × Nat)} {i : Nat} {p : Int × Nat} (h : l[i]? = some p) : (tsOf l)[i]? = some p.1 := by
 unfold tsOf
 rw [List.getElem?_map, h]
 rfl
theorem vs_get {l : List (Int × Nat)} {i : Nat} {p : Int × Nat} (h : l[i]? = some p) : (vsOf l)[i]? = some p.2 := by
 unfold vsOf
 rw [List.getElem?_map, h]
 rfl
/-- The first i rise. -/
def RiseTo (l : List (Int × Nat)) (i : Nat) : Prop := ∀ j a b, j + 1 < i → (tsOf l)[j]? = some a → (tsOf l)[j + 1]? = some b → a < b
theorem riseB_true {l : List (Int × Nat)} (h : RiseTo l l.length) (hn : l.length ≤ 65535) : riseB l = true :=
 (riseB_iff l).2 ⟨fun i a b ha hb => h i a b (by have := (List.getElem?_eq_some_iff.1 hb).1; rw [tsOf_len] at this; exact this) ha hb, hn⟩
theorem riseB_long {l : List (Int × Nat)} (h : 65535 < l.length) : riseB l = false := by
 cases hb : riseB l with
 | false => rfl
 | true => have := ((riseB_iff l).1 hb).2; omega
theorem riseB_fall {l : List (Int × Nat)} {i : Nat} {p q : Int × Nat} (hp : l[i]? = some p) (hq : l[i + 1]? = some q) (h : q.1 ≤ p.1) : riseB l = false := by
 cases hb : riseB l with
 | false => rfl
 | true => have := ((riseB_iff l).1 hb).1 i p.1 q.1 (ts_get hp) (ts_get hq); omega
theorem RiseTo.more {l : List (Int × Nat)} {j : Nat} {p q : Int × Nat} (h : RiseTo l (j + 1)) (hp : l[j]? = some p) (hq : l[j + 1]? = some q) (hlt : p.1 < q.1) : RiseTo l (j + 1 + 1) := by
 intro k a b hk ha hb
 rcases Nat.lt_or_ge (k + 1) (j + 1) with h1 | h1
 ·exact h k a b h1 ha hb
 ·obtain rfl : k = j := by omega
  rw [ts_get hp] at ha
  rw [ts_get hq] at hb
  injection ha with ha
  injection hb with hb
  subst ha hb
  exact hlt
set_option maxHeartbeats 1000000 in
set_option maxRecDepth 100000 in
theorem rising_any (A : Option Addr) (n c : Nat) (l : List (Int × Nat)) (w : World) (hs : RdsS w w.heap.size A n l) :
  Calls Tryz.prog 56 #[.slice A n c] w fun e w' => e = .returned (.bool (riseB l)) ∧ Mod (fun _ => False) w w' := by
 have Hs := Lib.hid hs; have Hl := Lib.hid hs.1
 have hcs : Tryz.prog.cellsOf 36 = 2 := by kernel_rfl
 clear hs
 by_cases hn : 65535 < n
 ·go_enter Tryz.func56, Tryz.ntmps56
  go_wp2_with fail
  go_ret
  exact ⟨by rw [riseB_long (by rw [Hl.out]; exact hn)]; rfl, Mod.refl _ _⟩
 ·go_enter Tryz.func56, Tryz.ntmps56
  go_wp2_with fail
  go_loopg [9] n (fun k s9 wr => ∃ i : Nat, i + k = n ∧ s9 = .int .i64 (i : Int) ∧ RiseTo l i ∧ Mod (fun _ => False) w wr)
  case atStart => exact ⟨0, by omega, rfl, (fun j a b h => by omega), Mod.refl _ _⟩
  case round =>
   obtain ⟨i, hik, rfl, hr, hm⟩ := hrel
   have Hik := Lib.hid hik; have Hr := Lib.hid hr; have Hm := Lib.hid hm
   clear hik hr hm
   by_cases hin : i < n
   ·obtain ⟨ad, p, rfl, _, hp, hc0, hc1⟩ := Hs.out.at2 hin (Nat.le_refl _) Hm.out (fun _ _ h => h)
    have Hp := Lib.hid hp
    clear hp hc1
    by_cases h0 : i = 0
    ·subst h0
     clear hc0
     go_upto_region 6 with fail
     go_quiet (fail)
     go_wp2_with fail
     go_roundg (gk - 1)
     case measure => have := Hik.out; omega
     case rel => exact ⟨1, by have := Hik.out; omega, rfl, (fun j a b h => by omega), Hm.out.drewN _⟩
    ·obtain ⟨j, hj⟩ : ∃ j, i = j + 1 := ⟨i - 1, by omega⟩
     have hjn : j < n := by omega
     have hwj : IntKind.i64.wrap ((i : Int) - 1) = (j : Int) := by rw [IntWalk.i64_in _ (by omega)]; omega
     have hi0 : decide (0 < i) = true := by simp; omega
     have Hj := Lib.hid hj
     clear hj h0
     obtain ⟨ad2, q, hA2, _, hq, hd0, _⟩ := Hs.out.at2 hjn (Nat.le_refl _) Hm.out (fun _ _ h => h)
     injection hA2 with hA2
     subst hA2
     have Hq := Lib.hid hq
     clear hq
     obtain ⟨x, hx⟩ : ∃ x, x = p.1 := ⟨_, rfl⟩
     obtain ⟨y, hy⟩ : ∃ y, y = q.1 := ⟨_, rfl⟩
     rw [← hx] at hc0
     rw [← hy] at hd0
     have Hx := Lib.hid hx; have Hy := Lib.hid hy
     clear hx hy
     by_cases hxy : x ≤ y
     ·go_upto_region 6 with fail
      go_quiet (fail)
      go_wp2_with fail
      go_ret
      refine ⟨?_, Hm.out.drewN _⟩
      rw [riseB_fall (i := j) Hq.out (by rw [← Hj.out]; exact Hp.out) (by rw [← Hx.out, ← Hy.out]; exact hxy)]
      rfl
     ·go_upto_region 6 with fail
      go_quiet (fail)
      go_wp2_with fail
      go_roundg (gk - 1)
      case measure => have := Hik.out; omega
      case rel => exact ⟨i + 1, by have := Hik.out; omega, by go_num, (by
       have h1 := Hr.out; have h2 := Hp.out; have h3 := Hj.out
       subst h3
       exact h1.more Hq.out h2 (by rw [← Hx.out, ← Hy.out]; omega)), Hm.out.drewN _⟩
   ·go_wp2_with fail
    go_ret
    have hi : i = n := by have := Hik.out; omega
    refine ⟨?_, Hm.out⟩
    rw [riseB_true (by rw [Hl.out, ← hi]; exact Hr.out) (by rw [Hl.out]; omega)]
    rfl
end Go.Proofs.YthgoppmgapaajaaGreatDoor

/- Chunks, of the code: the sum in four bytes, the head of a row, and how it is told. -/
namespace Go.Proofs.YthgoppmgapaajaaGreatDoor
open Go.RowKit

/-- A struct of four cells is written. -/
theorem Blk.four {w : World} {g : Nat} {t : TypeId} {c0 c1 c2 c3 : Value} (h : Blk w g t #[c0, c1, c2, c3]) (a b c d : Value) :
  (w.setCell ⟨g, 0, none⟩ a).cell? ⟨g, 0, none⟩ = some a ∧ ((w.setCell ⟨g, 0, none⟩ a).setCell ⟨g, 1, none⟩ b).cell? ⟨g, 1, none⟩ = some b ∧
  (((w.setCell ⟨g, 0, none⟩ a).setCell ⟨g, 1, none⟩ b).setCell ⟨g, 2, none⟩ c).cell? ⟨g, 2, none⟩ = some c ∧
  ((((w.setCell ⟨g, 0, none⟩ a).setCell ⟨g, 1, none⟩ b).setCell ⟨g, 2, none⟩ c).setCell ⟨g, 3, none⟩ d).cell? ⟨g, 3, none⟩ = some d ∧
  Blk ((((w.setCell ⟨g, 0, none⟩ a).setCell ⟨g, 1, none⟩ b).setCell ⟨g, 2, none⟩ c).setCell ⟨g, 3, none⟩ d) g t #[a, b, c, d] := by
 have h1 := h.set_ 0 a
 have h2 := h1.set_ 1 b
 have h3 := h2.set_ 2 c
 have h4 := h3.set_ 3 d
 refine ⟨?_, ?_, ?_, ?_, ?_⟩
 ·have := h1.cell 0; simpa using this
 ·have := h2.cell 1; simpa using this
 ·have := h3.cell 2; simpa using this
 ·have := h4.cell 3; simpa using this
 ·simpa using h4
theorem Mod.four_new {w w' : World} {g : Nat} (h : Mod (fun _ => False) w w') (hg : w.heap.size ≤ g) (a b c d : Value) :
  Mod (fun _ => False) w ((((w'.setCell ⟨g, 0, none⟩ a).setCell ⟨g, 1, none⟩ b).setCell ⟨g, 2, none⟩ c).setCell ⟨g, 3, none⟩ d) :=
 (((h.setCell (fun hlt => absurd hlt (by simp; omega)) a).setCell (fun hlt => absurd hlt (by simp; omega)) b).setCell (fun hlt => absurd hlt (by simp; omega)) c).setCell (fun hlt => absurd hlt (by simp; omega)) d

theorem last_get {l : List (Int × Nat)} {p : Int × Nat} (h : l[l.length - 1]? = some p) : lstT l = p.1 := by
 unfold lstT
 have h2 := ts_get h
 rw [← tsOf_len l, ← List.getLast?_eq_getElem?] at h2
 rw [List.getLastD_eq_getLast?, h2]
 rfl
theorem first_get {l : List (Int × Nat)} {p : Int × Nat} (h : l[0]? = some p) : fstT l = p.1 := by
 unfold fstT
 have h2 := ts_get h
 rw [List.headD_eq_head?_getD, List.head?_eq_getElem?, h2]
 rfl
set_option maxHeartbeats 1000000 in
set_option maxRecDepth 100000 in
theorem headOf_any (tag : Int) (A : Option Addr) (n c : Nat) (l : List (Int × Nat)) (w : World) (hs : RdsS w w.heap.size A n l) (hn : 0 < n) (hn2 : n ≤ maxLen) :
  Calls Tryz.prog 41 #[.int .i64 tag, .slice A n c] w fun e w' => e = .returned (.agg #[.int .i64 tag, .int .i64 (n : Int), .int .i64 (fstT l), .int .i64 (lstT l)]) ∧ Mod (fun _ => False) w w' := by
 unfold maxLen at hn2
 have hl := hs.1
 obtain ⟨W, hW⟩ : ∃ W, W = w.alloc (.cells #[.int .i64 0, .int .i64 0, .int .i64 0, .int .i64 0] 75) := ⟨_, rfl⟩
 have hmW : Mod (fun _ => False) w W := by rw [hW]; exact (Mod.refl _ _).alloc _
 have hbW : Blk W w.heap.size 75 #[.int .i64 0, .int .i64 0, .int .i64 0, .int .i64 0] := by rw [hW]; exact Blk.new _ _ _
 obtain ⟨j, hj⟩ : ∃ j, n = j + 1 := ⟨n - 1, by omega⟩
 obtain ⟨ad, p, rfl, _, hp, hc0, _⟩ := hs.at2 hn (Nat.le_refl _) hmW (fun _ _ h => h)
 obtain ⟨ad2, q, e2, _, hq, hd0, _⟩ := hs.at2 (show j < n by omega) (Nat.le_refl _) hmW (fun _ _ h => h)
 injection e2 with e2
 subst e2
 have hf : fstT l = p.1 := first_get hp
 have hg : lstT l = q.1 := last_get (by rw [hl, hj, Nat.add_sub_cancel]; exact hq)
 rw [← hf] at hc0
 rw [← hg] at hd0
 obtain ⟨x, hx⟩ : ∃ x, x = fstT l := ⟨_, rfl⟩
 obtain ⟨y, hy⟩ : ∃ y, y = lstT l := ⟨_, rfl⟩
 rw [← hx] at hc0 ⊢
 rw [← hy] at hd0 ⊢
 have hwj : IntKind.i64.wrap ((n : Int) - 1) = (j : Int) := by rw [IntWalk.i64_in _ (by omega)]; omega
 have h0n : (0 : Int) < (n : Int) := by omega
 have hjn : (j : Int) < (n : Int) := by omega
 have ead : ad.add (0 * 2) = ad := by simp [Addr.add]
 rw [ead] at hc0
 have hcs : Tryz.prog.cellsOf 36 = 2 := by kernel_rfl
 have HW := Lib.hid hW; have HmW := Lib.hid hmW; have HbW := Lib.hid hbW
 have hb0 := hbW.cell 0
 have hb1 := hbW.cell 1
 have hb2 := hbW.cell 2
 have hb3 := hbW.cell 3
 have hf0 := hbW.frozen 0
 have hf1 := hbW.frozen 1
 have hf2 := hbW.frozen 2
 have hf3 := hbW.frozen 3
 simp at hb0 hb1 hb2 hb3
 clear hs hl hW hmW hbW hp hq hf hg hx hy hj
 go_enter Tryz.func41, Tryz.ntmps41
 go_upto_region 1 with fail
 rw [← HW.out]
 go_region
 all_goals
  go_wp2_with fail
  refine bodyPost_ret (v := .agg #[.int .i64 tag, .int .i64 (n : Int), .int .i64 x, .int .i64 y]) (by have h := HbW.out.four (.int .i64 tag) (.int .i64 (n : Int)) (.int .i64 x) (.int .i64 y); simp [results, Tryz.results41, go_sem, h.1, h.2.1, h.2.2.1, h.2.2.2.1]) rfl ⟨rfl, ?_⟩
  exact (HmW.out.four_new (Nat.le_refl _) _ _ _ _).drew

theorem sum4_bytes (s : Nat) : IntKind.u8.wrap ((s : Int) / 16777216) = ((s / 16777216 % 256 : Nat) : Int) ∧ IntKind.u8.wrap ((s : Int) / 65536) = ((s / 65536 % 256 : Nat) : Int) ∧ IntKind.u8.wrap ((s : Int) / 256) = ((s / 256 % 256 : Nat) : Int) ∧ IntKind.u8.wrap (s : Int) = ((s % 256 : Nat) : Int) := by
 rw [IntKind.wrap_u8', IntKind.wrap_u8', IntKind.wrap_u8', IntKind.wrap_u8']
 omega
theorem sumN_ent_lt {bs : List Nat} (h : lt256 bs) : sumN ent bs < 4294967296 := sumN_lt (fun j hj => ent_lt (by omega)) bs h
set_option maxHeartbeats 1000000 in
set_option maxRecDepth 100000 in
theorem jsum_any (A : Option Addr) (n c : Nat) (bs : List Nat) (w : World) (hs : Rds w w.heap.size A n (cells8 bs)) (hlt : lt256 bs) (hn : n ≤ maxLen) :
  Calls Tryz.prog 42 #[.slice A n c] w fun e w' => ∃ v, e = .returned v ∧ Own w.heap.size w' 5 v (cells8 (sum4 (sumN ent bs))) ∧ Mod (fun _ => False) w w' := by
 obtain ⟨s, hs2⟩ : ∃ s, s = sumN ent bs := ⟨_, rfl⟩
 have hsl : s < 4294967296 := hs2 ▸ sumN_ent_lt hlt
 obtain ⟨b1, b2, b3, b4⟩ := sum4_bytes s
 rw [← hs2]
 have Hs := Lib.hid hs; have Hlt := Lib.hid hlt; have Hn := Lib.hid hn; have Hs2 := Lib.hid hs2
 clear hs hlt hn hs2
 go_enter Tryz.func42, Tryz.ntmps42
 go_wp2_with fail
 refine (table_any w).mono ?_
 rintro e w1 ⟨rfl, hb1⟩
 have Hb1 := Lib.hid hb1
 clear hb1
 go_wp2_with fail
 refine (sum_any ent tab_ent A n c w.heap.size bs w1 (Hs.out.below Hb1.out) Hlt.out Hn.out).mono ?_
 rintro e w2 ⟨rfl, hb2⟩
 rw [← Hs2.out]
 have Hm2 := Lib.hid ((Mod.of_below Hb1.out).trans (Mod.of_below hb2) (fun i hi h => by have := Hb1.out.size; omega))
 have hsz := Nat.le_trans Hb1.out.size hb2.size
 clear hb2 Hb1 Hs Hlt Hn Hs2
 go_wp2_with fail
 go_ret
 refine ⟨_, rfl, (Own.lit w2 5 #[.int .u8 ((s / 16777216 % 256 : Nat) : Int), .int .u8 ((s / 65536 % 256 : Nat) : Int), .int .u8 ((s / 256 % 256 : Nat) : Int), .int .u8 ((s % 256 : Nat) : Int)] (by unfold maxLen; simp)).mono hsz, (Hm2.out.mono (fun i hi h => by omega)).alloc _⟩

theorem tag_byte {tag : Int} (h : 1 ≤ tag ∧ tag ≤ 6) : IntKind.u8.wrap tag = ((tag.toNat : Nat) : Int) := by
 rw [IntKind.wrap_u8']
 omega
set_option maxHeartbeats 1000000 in
set_option maxRecDepth 100000 in
theorem putHead_any (tag f g : Int) (n : Nat) (w : World) (ht : 1 ≤ tag ∧ tag ≤ 6) (hn : n ≤ maxLen) (hf : Fits f) (hg : Fits g) :
  Calls Tryz.prog 40 #[.agg #[.int .i64 tag, .int .i64 (n : Int), .int .i64 f, .int .i64 g]] w fun e w' => ∃ v, e = .returned v ∧ Own w.heap.size w' 5 v (cells8 (headC tag.toNat n f g)) ∧ Mod (fun _ => False) w w' := by
 unfold maxLen at hn
 obtain ⟨tb, htb⟩ : ∃ tb : Nat, tb = tag.toNat := ⟨_, rfl⟩
 have hw8 : IntKind.u8.wrap tag = (tb : Int) := by rw [tag_byte ht, htb]
 have hw64 : IntKind.u64.wrap (n : Int) = (n : Int) := by rw [IntKind.wrap_u64]; omega
 obtain ⟨W, hW⟩ : ∃ W, W = w.alloc (.cells #[.int .i64 tag, .int .i64 (n : Int), .int .i64 f, .int .i64 g] 75) := ⟨_, rfl⟩
 have hmW : Mod (fun _ => False) w W := by rw [hW]; exact (Mod.refl _ _).alloc _
 have hbW : Blk W w.heap.size 75 #[.int .i64 tag, .int .i64 (n : Int), .int .i64 f, .int .i64 g] := by rw [hW]; exact Blk.new _ _ _
 obtain ⟨zf, zf2⟩ := zig_nat hf
 obtain ⟨zg, zg2⟩ := zig_nat hg
 obtain ⟨kf, hkf⟩ : ∃ kf : Nat, kf = (zig f).toNat := ⟨_, rfl⟩
 obtain ⟨kg, hkg⟩ : ∃ kg : Nat, kg = (zig g).toNat := ⟨_, rfl⟩
 rw [← hkf] at zf zf2
 rw [← hkg] at zg zg2
 have Hkf := Lib.hid hkf; have Hkg := Lib.hid hkg; have Zf := Lib.hid zf; have Zg := Lib.hid zg
 clear hkf hkg zf zg
 have HmW := Lib.hid hmW; have HbW := Lib.hid hbW; have HW := Lib.hid hW; have Hf := Lib.hid hf; have Hg := Lib.hid hg; have Htb := Lib.hid htb
 have hb0 := hbW.cell 0
 have hb1 := hbW.cell 1
 have hb1a := (hbW.alloc (.cells #[.int .u8 (tb : Int)] 5)).cell 1
 simp at hb0 hb1 hb1a
 clear hW hmW hbW hf hg htb hb1
 go_enter Tryz.func40, Tryz.ntmps40
 go_wp2_with (first | (rw [← HW.out]))
 refine (vput_any _ 1 1 (W.heap.size + 1) [tb] n (W.alloc (.cells #[.int .u8 (tb : Int)] 5)) (Rds.lit W 5 #[.int .u8 (tb : Int)]) (by omega) (by unfold Lt64; omega)).mono ?_
 rintro e w1 ⟨v1, rfl, ho1, hl1⟩
 obtain ⟨A1, L1, c1, rfl, HL1, hc1, hcm1, hr1⟩ := own_formN8 ho1
 have hb1w := (HbW.out.alloc (.cells #[.int .u8 (tb : Int)] 5)).below hl1 (by simp; have := HbW.out.lt; omega)
 have hb2 := hb1w.cell 2
 simp at hb2
 have hm1 : Mod (fun _ => False) w w1 := (HmW.out.alloc (.cells #[.int .u8 (tb : Int)] 5)).trans (Mod.of_below hl1) (fun i hi h => by have := HmW.out.size; simp at h; omega)
 have hL1 : L1 ≤ 20 := by
  have h1 := enc_len10 (u := n) (by omega)
  have h2 := HL1.out
  simp at h2
  omega
 have Hr1 := Lib.hid hr1; have Hm1 := Lib.hid hm1; have Hb1 := Lib.hid hb1w
 clear ho1 hl1 hr1 hm1 hb1w hb1a hb0 hc1 hcm1
 go_wp2_with fail
 refine (zig_any f w1 (by have h1 := Hf.out.1; have h2 := Hf.out.2; have hH : (H63 : Int) = 9223372036854775808 := (by decide); exact ⟨(by omega), (by omega)⟩)).mono ?_
 rintro e w1' ⟨rfl, rfl⟩
 rw [← Zf.out]
 go_wp2_with fail
 refine (vput_any A1 L1 c1 _ ([tb] ++ enc n) kf w1 Hr1.out (by omega) (by unfold Lt64; omega)).mono ?_
 rintro e w2 ⟨v2, rfl, ho2, hl2⟩
 obtain ⟨A2, L2, c2, rfl, HL2, hc2, hcm2, hr2⟩ := own_formN8 ho2
 have hb2w := Hb1.out.below hl2 Hb1.out.lt
 have hb3 := hb2w.cell 3
 simp at hb3
 have hL2 : L2 ≤ 40 := by
  have h1 := enc_len10 zf2
  have h2 := HL2.out
  have h3 := HL1.out
  rw [List.length_append] at h2
  omega
 have Hr2 := Lib.hid hr2; have Hm2 := Lib.hid (Hm1.out.trans (Mod.of_below hl2) (fun i hi h => by have := Hm1.out.size; omega))
 have hsz2 := Nat.le_trans Hm1.out.size hl2.size
 clear ho2 hl2 hr2 hb2w Hb1 Hm1 Hr1 hc2 hcm2 hb2
 go_wp2_with fail
 refine (zig_any g w2 (by have h1 := Hg.out.1; have h2 := Hg.out.2; have hH : (H63 : Int) = 9223372036854775808 := (by decide); exact ⟨(by omega), (by omega)⟩)).mono ?_
 rintro e w2' ⟨rfl, rfl⟩
 rw [← Zg.out]
 go_wp2_with fail
 refine (vput_any A2 L2 c2 _ ([tb] ++ enc n ++ enc kf) kg w2 Hr2.out (by omega) (by unfold Lt64; omega)).mono ?_
 rintro e w3 ⟨v3, rfl, ho3, hl3⟩
 have Hm3 := Lib.hid (Hm2.out.trans (Mod.of_below hl3) (fun i hi h => by have := Hm2.out.size; omega))
 have hel : [tb] ++ enc n ++ enc kf ++ enc kg = headC tag.toNat n f g := by rw [← Htb.out]; unfold headC; rw [← Hkf.out, ← Hkg.out]; simp
 rw [hel] at ho3
 have Ho3 := Lib.hid ho3
 clear hel ho3 hl3 hb3
 go_wp2_with fail
 go_ret
 exact ⟨_, rfl, Ho3.out.mono hsz2, Hm3.out⟩
end Go.Proofs.YthgoppmgapaajaaGreatDoor

/- Get with a size that may be too great; bytes.Equal (parted from layer 8's Decode). -/
namespace Go.Proofs.YthgoppmgapaajaaGreatDoor
open Go.RowKit

theorem get_oh (g row k : Nat) (N : Int) (s : Option (Nat × Nat)) (w : World) (hN : FitI N) (hk : max 0 (min N 64) = (k : Int)) (h : RdrO w g row s) :
  Calls Tryz.prog 119 #[.pointer (some ⟨g, 0, none⟩), .int .i64 N] w fun e w' => e = .returned (.int .u64 ((getO k s).1 : Int)) ∧ RdrO w' g row (getO k s).2 ∧ Mod (fun i => i = g) w w' := by
 cases s with
 | none =>
  refine (get_ans N k hN hk h (by omega)).mono ?_
  rintro e w' ⟨rfl, h1, h2⟩
  exact ⟨rfl, h1, h2⟩
 | some p =>
  obtain ⟨R, rem⟩ := p
  refine (get_ans N k hN hk h.1 h.2).mono ?_
  rintro e w' ⟨rfl, h1, h2⟩
  by_cases hkr : k ≤ rem
  ·rw [ans_yes hkr] at h1 ⊢
   have e1 : getO k (some (R, rem)) = (R / 2 ^ (rem - k), some (R % 2 ^ (rem - k), rem - k)) := if_pos hkr
   rw [e1]
   exact ⟨rfl, ⟨h1, by have := h.2; show rem - k ≤ 8000000; omega⟩, h2⟩
  ·rw [ans_no (fun h => hkr h.2)] at h1 ⊢
   have e1 : getO k (some (R, rem)) = (0, none) := if_neg hkr
   rw [e1]
   exact ⟨rfl, h1, h2⟩
/-- bytes.Equal. -/
theorem bequal_any (A A2 : Option Addr) (n n2 c c2 B B2 : Nat) (xs bs : List Nat) (w : World) (h1 : Rds w B A n (cells8 xs)) (h2 : Rds w B2 A2 n2 (cells8 bs)) (l1 : lt256 xs) (l2 : lt256 bs) :
  Calls Tryz.prog 64 #[.slice A n c, .slice A2 n2 c2] w fun e w' => e = .returned (.bool (decide (xs = bs))) ∧ Mod (fun _ => False) w w' := by
 obtain ⟨s1, hs1⟩ : ∃ s1, strOf xs = s1 := ⟨_, rfl⟩
 obtain ⟨s2, hs2⟩ : ∃ s2, strOf bs = s2 := ⟨_, rfl⟩
 have c1 := fun c => conv_rds (P := Tryz.prog) (c := c) Tryz.underlying26 Tryz.underlying5 Tryz.underlying9 w h1 l1
 have c2' := fun c => conv_rds (P := Tryz.prog) (c := c) Tryz.underlying26 Tryz.underlying5 Tryz.underlying9 w h2 l2
 rw [hs1] at c1
 rw [hs2] at c2'
 have hq : (s1.toList == s2.toList) = decide (xs = bs) := by
  by_cases h : xs = bs
  ·have e : s1 = s2 := by rw [← hs1, ← hs2, h]
   rw [e, decide_eq_true h, beq_self_eq_true]
  ·rw [decide_eq_false h, beq_eq_false_iff_ne]
   intro e
   rw [ByteArray.toList_eq, ByteArray.toList_eq] at e
   exact h (strOf_inj l1 l2 (by rw [hs1, hs2]; exact ByteArray.ext (Array.toList_inj.1 e)))
 obtain ⟨b, hb⟩ : ∃ b, decide (xs = bs) = b := ⟨_, rfl⟩
 rw [hb] at hq ⊢
 clear h1 h2 l1 l2 hs1 hs2 hb
 go_enter Tryz.func64, Tryz.ntmps64
 go_wp2_with fail
 go_ret
 exact ⟨rfl, Mod.refl _ _⟩
end Go.Proofs.YthgoppmgapaajaaGreatDoor

/- Chunks, of the code: whether the sum stands behind. -/
namespace Go.Proofs.YthgoppmgapaajaaGreatDoor
open Go.RowKit

set_option maxHeartbeats 1000000 in
set_option maxRecDepth 100000 in
theorem unsealed_few (A : Option Addr) (n c : Nat) (w : World) (h : n < 4) :
  Calls Tryz.prog 43 #[.slice A n c] w fun e w' => e = .returned (.tuple #[.slice none 0 0, .bool false]) ∧ Mod (fun _ => False) w w' := by
 have hi : (n : Int) < 4 := by omega
 go_enter Tryz.func43, Tryz.ntmps43
 go_wp2_with fail
 go_ret2
 exact ⟨rfl, Mod.refl _ _⟩
set_option maxHeartbeats 1000000 in
set_option maxRecDepth 100000 in
theorem unsealed_any (A : Option Addr) (n c k : Nat) (bs : List Nat) (w : World) (hs : Rds w w.heap.size A n (cells8 bs)) (hlt : lt256 bs) (hnc : n ≤ c) (hcm : c ≤ maxLen) (hk : n = k + 4) :
  Calls Tryz.prog 43 #[.slice A n c] w fun e w' => e = .returned (.tuple #[.slice A k c, .bool (decide (sum4 (sumN ent (bs.take k)) = bs.drop k))]) ∧ Mod (fun _ => False) w w' := by
 unfold maxLen at hcm
 have hi : ¬ (n : Int) < 4 := by omega
 have hwk : IntKind.i64.wrap ((n : Int) - 4) = (k : Int) := by rw [IntWalk.i64_in _ (by omega)]; omega
 have h0k : (0 : Int) ≤ (k : Int) := by omega
 have hkn : (k : Int) ≤ (n : Int) := by omega
 have hkc : (k : Int) ≤ (c : Int) := by omega
 have hd := hs.drop (k := k) (cap := c) (by omega) hnc
 have hcd : (cells8 bs).drop k = cells8 (bs.drop k) := by simp [cells8, List.map_drop]
 have hct : (cells8 bs).take k = cells8 (bs.take k) := by simp [cells8, List.map_take]
 have ht := hs.take (k := k) (by omega)
 rw [hct] at ht
 rw [hcd] at hd
 obtain ⟨A1, hA1⟩ : ∃ A1, (if c = k then A else A.map (·.add k)) = A1 := ⟨_, rfl⟩
 rw [hA1, show n - k = 4 by omega] at hd
 have hn4 : ((n : Int) - (k : Int)) = 4 := by omega
 have Ht := Lib.hid ht; have Hd := Lib.hid hd; have Hl1 := Lib.hid (lt256_take hlt k); have Hl2 : Hid (lt256 (bs.drop k)) := Lib.hid (fun x hx => hlt x (List.mem_of_mem_drop hx))
 obtain ⟨b1, hb1⟩ : ∃ b1, b1 = bs.take k := ⟨_, rfl⟩
 obtain ⟨b2, hb2⟩ : ∃ b2, b2 = bs.drop k := ⟨_, rfl⟩
 rw [← hb1] at Ht Hl1 ⊢
 rw [← hb2] at Hd Hl2 ⊢
 obtain ⟨sm, hsm⟩ : ∃ sm, sm = sum4 (sumN ent b1) := ⟨_, rfl⟩
 have hjs := jsum_any A k c b1
 rw [← hsm] at hjs ⊢
 have hs256 : lt256 sm := by rw [hsm]; exact sum4_256 _
 have hsl : sm.length = 4 := by rw [hsm]; rfl
 have Hjs := Lib.hid hjs; have Hs256 := Lib.hid hs256; have Hsl := Lib.hid hsl
 obtain ⟨bq, hbq⟩ : ∃ bq, decide (sm = b2) = bq := ⟨_, rfl⟩
 have Hbq := Lib.hid hbq
 rw [hbq]
 clear hs hlt hnc hd hcd hct ht hb1 hb2 hsm hjs hs256 hsl hbq
 go_enter Tryz.func43, Tryz.ntmps43
 go_upto_region 4 with fail
 first
  | (go_region_held_law (fun _ => True) (trivial)
    (first
     | (go_at_call 42; refine (Hjs.out _ (Ht.out.drew).fit Hl1.out (by unfold maxLen; omega)).mono ?_; rintro e w2 ⟨v2, rfl, ho2, hm2⟩; obtain ⟨A5, L5, c5, rfl, HL5, hc5, hcm5, hr5⟩ := own_formN8 ho2; obtain rfl : L5 = 4 := (by have h1 := HL5.out; have h2 := Hsl.out; omega); have Hm2 := Lib.hid ((Mod.refl (fun _ => False) w).drew.trans hm2 (fun _ _ h => h)); have Hr5 := Lib.hid hr5; have Hd2 := Lib.hid (Hd.out.new Hm2.out); clear ho2 hm2 hr5 HL5 hc5 hcm5)
     | (go_at_call 64; refine (bequal_any A5 A1 4 4 c5 _ _ _ sm b2 w2 Hr5.out Hd2.out Hs256.out Hl2.out).mono ?_; rintro e w3 ⟨rfl, hm3⟩; rw [Hbq.out]; have Hm3 := Lib.hid (Hm2.out.trans hm3 (fun _ _ h => h)); clear hm3)))
  | fail "held"
 all_goals
  go_wp2_with fail
  go_ret2
  exact ⟨rfl, Hm3.out⟩
end Go.Proofs.YthgoppmgapaajaaGreatDoor

/- Times: wrapping of 64 bits, by sg and un; a reader's states, bad ones too. -/
namespace Go.Proofs.YthgoppmgapaajaaGreatDoor
open Go.RowKit

theorem wrap_sg (x : Int) : wrap64 x = sg (un x) := by
 have hm : (M64 : Int) = 18446744073709551616 := rfl
 have hh : (H63 : Int) = 9223372036854775808 := rfl
 have h1 := Int.emod_nonneg x (show (M64 : Int) ≠ 0 by decide)
 have h2 := Int.emod_lt_of_pos x (show (0 : Int) < (M64 : Int) by decide)
 have e : x % (M64 : Int) = x % 18446744073709551616 := rfl
 unfold wrap64 sg un
 rw [e] at *
 split <;> omega
theorem wrapU_un (x : Int) : IntKind.u64.wrap x = (un x : Int) := by
 rw [IntKind.wrap_u64]
 have h1 := Int.emod_nonneg x (show (M64 : Int) ≠ 0 by decide)
 have e : x % (M64 : Int) = x % 18446744073709551616 := rfl
 unfold un
 rw [e] at *
 omega
theorem signed_int {v n : Nat} (hn : n ≤ 64) : wrap64 (IntKind.u64.wrap ((v : Int) * 2 ^ (64 - n))) / 2 ^ (64 - n) = sgn n (v % 2 ^ n) := by
 rw [wrap_sg, wrapU_un, un_nat (un_lt _)]
 have hu : v % 2 ^ n < 2 ^ n := Nat.mod_lt _ (Nat.two_pow_pos n)
 have hM : (M64 : Nat) = 2 ^ n * 2 ^ (64 - n) := by rw [M64_pow, ← Nat.pow_add]; congr 1; omega
 have hp : 0 < 2 ^ (64 - n) := Nat.two_pow_pos _
 have hx : un ((v : Int) * 2 ^ (64 - n)) = v % 2 ^ n * 2 ^ (64 - n) := by
  have e : (v : Int) * 2 ^ (64 - n) = ((v * 2 ^ (64 - n) : Nat) : Int) := by simp
  unfold un
  rw [e, ← Int.natCast_emod, Int.toNat_natCast, hM, Nat.mul_mod_mul_right]
 rw [hx]
 have hc : (2 : Int) ^ (64 - n) = ((2 ^ (64 - n) : Nat) : Int) := by simp
 rw [hc]
 have hd : ∀ a : Int, a * ((2 ^ (64 - n) : Nat) : Int) / ((2 ^ (64 - n) : Nat) : Int) = a := fun a => Int.mul_ediv_cancel a (by omega)
 rcases Nat.eq_or_lt_of_le hn with rfl | hn
 ·unfold sgn
  rw [if_pos rfl]
  simp
 ·unfold sgn sg
  rw [if_neg (show ¬ n = 64 by omega)]
  rcases Nat.eq_zero_or_pos n with rfl | h0
  ·have : v % 2 ^ 0 = 0 := by omega
   rw [this]
   simp [H63_pos]
  ·have h63 : H63 = 2 ^ (n - 1) * 2 ^ (64 - n) := by rw [H63_pow, ← Nat.pow_add]; congr 1; omega
   have h2n : 2 ^ n = 2 ^ (n - 1) * 2 := by rw [← Nat.pow_succ]; congr 1; omega
   have hb : v % 2 ^ n / 2 ^ (n - 1) % 2 = 1 ↔ ¬ v % 2 ^ n < 2 ^ (n - 1) := by
    have h1 : v % 2 ^ n / 2 ^ (n - 1) < 2 := by rw [Nat.div_lt_iff_lt_mul (Nat.two_pow_pos _), Nat.mul_comm]; omega
    constructor
    ·intro h h2
     rw [Nat.div_eq_of_lt h2] at h
     omega
    ·intro h
     have : 1 ≤ v % 2 ^ n / 2 ^ (n - 1) := by rw [Nat.le_div_iff_mul_le (Nat.two_pow_pos _)]; omega
     omega
   have hlt : v % 2 ^ n * 2 ^ (64 - n) < H63 ↔ v % 2 ^ n < 2 ^ (n - 1) := by
    rw [h63]
    exact Nat.mul_lt_mul_right hp
   by_cases h : v % 2 ^ n < 2 ^ (n - 1)
   ·rw [if_pos (hlt.2 h), if_neg (fun h2 => hb.1 h2.2 h), Int.natCast_mul, hd]
   ·rw [if_neg (fun h2 => h (hlt.1 h2)), if_pos ⟨h0, hb.2 h⟩, hM, Int.natCast_mul, Int.natCast_mul, ← Int.sub_mul, hd]
    simp

def markO : Nat → Nat → Option (Nat × Nat) → Nat × Option (Nat × Nat)
 | 0, h, s => (h, s)
 | f + 1, h, s => if (getO 1 s).1 = 1 then markO f (h + 1) (getO 1 s).2 else (h, (getO 1 s).2)
def formO (s : Option (Nat × Nat)) : Nat := (markO 4 0 s).1
def bitsO (s : Option (Nat × Nat)) : Nat × Option (Nat × Nat) := getO (sz (formO s)) (markO 4 0 s).2
def diffO (s : Option (Nat × Nat)) : Int := sgn (sz (formO s)) (bitsO s).1
def behindO (s : Option (Nat × Nat)) : Option (Nat × Nat) := (bitsO s).2
theorem markO_le (f h : Nat) (s : Option (Nat × Nat)) : (markO f h s).1 ≤ h + f := by
 induction f generalizing h s with
 | zero => exact Nat.le_refl _
 | succ f ih =>
  unfold markO
  split
  ·have := ih (h + 1) (getO 1 s).2; omega
  ·show h ≤ _; omega
theorem formO_le (s : Option (Nat × Nat)) : formO s ≤ 4 := by have := markO_le 4 0 s; unfold formO; omega
theorem markO_head (f h R rem : Nat) : (∀ h' R1 rem1, rdHead f h R rem = some (h', R1, rem1) → markO f h (some (R, rem)) = (h', some (R1, rem1))) ∧ (rdHead f h R rem = none → (markO f h (some (R, rem))).2 = none) := by
 induction f generalizing h R rem with
 | zero =>
  refine ⟨fun h' R1 rem1 e => ?_, fun e => by cases e⟩
  injection e with e
  injection e with e1 e2
  injection e2 with e2 e3
  subst e1 e2 e3
  rfl
 | succ f ih =>
  have e1 : rdHead (f + 1) h R rem = match takeB 1 R rem with | none => none | some (b, R1, rem1) => if b = 1 then rdHead f (h + 1) R1 rem1 else some (h, R1, rem1) := rfl
  have e2 : markO (f + 1) h (some (R, rem)) = if (getO 1 (some (R, rem))).1 = 1 then markO f (h + 1) (getO 1 (some (R, rem))).2 else (h, (getO 1 (some (R, rem))).2) := rfl
  rw [e1, e2, getO_take]
  cases ht : takeB 1 R rem with
  | none => exact ⟨fun _ _ _ e => (by cases e), fun _ => rfl⟩
  | some q =>
   obtain ⟨b, R1, rem1⟩ := q
   by_cases hb : b = 1
   ·simpa [hb] using ih (h + 1) R1 rem1
   ·refine ⟨fun h' R2 rem2 e => ?_, fun e => ?_⟩
    ·simp [hb] at e ⊢
     exact e
    ·simp [hb] at e
theorem rdDiff_O (R rem : Nat) : (∀ d R1 rem1, rdDiff R rem = some (d, R1, rem1) → diffO (some (R, rem)) = d ∧ behindO (some (R, rem)) = some (R1, rem1) ∧ formO (some (R, rem)) = hd d) ∧
  (rdDiff R rem = none → behindO (some (R, rem)) = none ∨ formO (some (R, rem)) ≠ hd (diffO (some (R, rem)))) := by
 obtain ⟨a1, a2⟩ := markO_head 4 0 R rem
 have hf := formO_le (some (R, rem))
 unfold rdDiff
 cases h1 : rdHead 4 0 R rem with
 | none =>
  refine ⟨fun _ _ _ e => (by cases e), fun _ => .inl ?_⟩
  unfold behindO bitsO
  rw [a2 h1]
  rfl
 | some q =>
  obtain ⟨h, R1, rem1⟩ := q
  have e := a1 h R1 rem1 h1
  have ef : formO (some (R, rem)) = h := by unfold formO; rw [e]
  have eb : bitsO (some (R, rem)) = getO (sz h) (some (R1, rem1)) := by unfold bitsO; rw [ef, e]
  rw [getO_take] at eb
  show (∀ d R1' rem1', (match takeB (sz h) R1 rem1 with | none => none | some (u, R2, rem2) => if kindN (sgn (sz h) u) = sz h then some (sgn (sz h) u, R2, rem2) else none) = some (d, R1', rem1') → _) ∧ ((match takeB (sz h) R1 rem1 with | none => none | some (u, R2, rem2) => if kindN (sgn (sz h) u) = sz h then some (sgn (sz h) u, R2, rem2) else none) = none → _)
  cases h2 : takeB (sz h) R1 rem1 with
  | none =>
   refine ⟨fun _ _ _ e => (by cases e), fun _ => .inl ?_⟩
   unfold behindO
   rw [eb, h2]
  | some q2 =>
   obtain ⟨u, R2, rem2⟩ := q2
   rw [h2] at eb
   have ed : diffO (some (R, rem)) = sgn (sz h) u := by unfold diffO; rw [ef, eb]
   have ebh : behindO (some (R, rem)) = some (R2, rem2) := by unfold behindO; rw [eb]
   have hk : kindN (sgn (sz h) u) = sz h ↔ h = hd (sgn (sz h) u) := by
    rw [kind_hd]
    exact ⟨fun e => (sz_inj (hd_le _) (by omega) e).symm, fun e => by rw [← e]⟩
   refine ⟨fun d R1' rem1' e => ?_, fun e => .inr ?_⟩
   ·by_cases hk2 : kindN (sgn (sz h) u) = sz h
    ·simp [hk2] at e
     obtain ⟨rfl, rfl, rfl⟩ := e
     exact ⟨ed, ebh, ef.trans (hk.1 hk2)⟩
    ·simp [hk2] at e
   ·rw [ef, ed]
    intro h3
    simp [hk.2 h3] at e
end Go.Proofs.YthgoppmgapaajaaGreatDoor

/- The widths' table, and what reads it: signed, shortest. -/
namespace Go.Proofs.YthgoppmgapaajaaGreatDoor
open Go.RowKit

theorem ret_eq {k : IntKind} {a b : Int} (h : a = b) : Ending.returned (.int k a) = .returned (.int k b) := by rw [h]
theorem signed_any (v n : Nat) (w : World) (hv : Lt64 v) (hn : n ≤ 64) :
  Calls Tryz.prog 134 #[.int .u64 (v : Int), .int .i64 (n : Int)] w fun e w' => e = .returned (.int .i64 (sgn n (v % 2 ^ n))) ∧ w = w' := by
 have h0 : (0 : Int) ≤ 64 - (n : Int) := by omega
 have Hv := Lib.hid hv
 clear hv
 go_enter Tryz.func134, Tryz.ntmps134
 go_wp2
 go_ret
 exact ⟨ret_int (signed_int hn), rfl⟩

theorem signed_is (v n : Nat) (N r : Int) (w : World) (hN : N = (n : Int)) (hv : Lt64 v) (hn : n ≤ 64) (hr : sgn n (v % 2 ^ n) = r) :
  Calls Tryz.prog 134 #[.int .u64 (v : Int), .int .i64 N] w fun e w' => e = .returned (.int .i64 r) ∧ w = w' := by
 subst hN hr
 exact signed_any v n w hv hn
theorem sgn_range {n u : Nat} (h0 : 0 < n) (hn : n < 64) (hu : u < 2 ^ n) : -((2 ^ (n - 1) : Nat) : Int) ≤ sgn n u ∧ sgn n u < ((2 ^ (n - 1) : Nat) : Int) := by
 have h2n : 2 ^ n = 2 ^ (n - 1) * 2 := by rw [← Nat.pow_succ]; congr 1; omega
 have hc : (2 : Int) ^ n = ((2 ^ n : Nat) : Int) := by simp
 have hb : u / 2 ^ (n - 1) % 2 = 1 ↔ ¬ u < 2 ^ (n - 1) := by
  have h1 : u / 2 ^ (n - 1) < 2 := by rw [Nat.div_lt_iff_lt_mul (Nat.two_pow_pos _), Nat.mul_comm]; omega
  constructor
  ·intro h h2
   rw [Nat.div_eq_of_lt h2] at h
   omega
  ·intro h
   have : 1 ≤ u / 2 ^ (n - 1) := by rw [Nat.le_div_iff_mul_le (Nat.two_pow_pos _)]; omega
   omega
 unfold sgn
 rw [if_neg (show ¬ n = 64 by omega), hc]
 split
 ·rename_i h
  have := hb.1 h.2
  omega
 ·rename_i h
  have : u < 2 ^ (n - 1) := by
   rcases Nat.lt_or_ge u (2 ^ (n - 1)) with h1 | h1
   ·exact h1
   ·exact absurd ⟨h0, hb.2 (by omega)⟩ h
  omega
theorem sgn_not {d : Int} {k : Nat} (h : k < hd d) : sgn (sz k) (un d % 2 ^ sz k) ≠ d := by
 have hk := hd_le d
 intro e
 have hk' : k = 0 ∨ k = 1 ∨ k = 2 ∨ k = 3 := by omega
 unfold hd at h
 rcases hk' with rfl | rfl | rfl | rfl
 ·have hu : un d % 2 ^ 0 = 0 := by omega
  have e2 : sgn 0 (un d % 2 ^ 0) = d := e
  rw [hu] at e2
  have e3 : (0 : Int) = d := e2
  rw [if_pos e3.symm] at h
  omega
 ·have := sgn_range (n := 7) (by decide) (by decide) (Nat.mod_lt (un d) (Nat.two_pow_pos 7))
  have e2 : sgn 7 (un d % 2 ^ 7) = d := e
  rw [e2] at this
  have h1 : -64 ≤ d ∧ d < 64 := by omega
  by_cases h0 : d = 0
  ·rw [if_pos h0] at h; omega
  ·rw [if_neg h0, if_pos h1] at h; omega
 ·have := sgn_range (n := 9) (by decide) (by decide) (Nat.mod_lt (un d) (Nat.two_pow_pos 9))
  have e2 : sgn 9 (un d % 2 ^ 9) = d := e
  rw [e2] at this
  have h1 : -256 ≤ d ∧ d < 256 := by omega
  by_cases h0 : d = 0
  ·rw [if_pos h0] at h; omega
  ·rw [if_neg h0] at h
   by_cases h2 : -64 ≤ d ∧ d < 64
   ·rw [if_pos h2] at h; omega
   ·rw [if_neg h2, if_pos h1] at h; omega
 ·have := sgn_range (n := 12) (by decide) (by decide) (Nat.mod_lt (un d) (Nat.two_pow_pos 12))
  have e2 : sgn 12 (un d % 2 ^ 12) = d := e
  rw [e2] at this
  have h1 : -2048 ≤ d ∧ d < 2048 := by omega
  by_cases h0 : d = 0
  ·rw [if_pos h0] at h; omega
  ·rw [if_neg h0] at h
   by_cases h2 : -64 ≤ d ∧ d < 64
   ·rw [if_pos h2] at h; omega
   ·rw [if_neg h2] at h
    by_cases h3 : -256 ≤ d ∧ d < 256
    ·rw [if_pos h3] at h; omega
    ·rw [if_neg h3, if_pos h1] at h; omega
theorem sz_le (k : Nat) : sz k ≤ 64 := by unfold sz; split; omega; split; omega; split; omega; split; omega; omega

/-- The widths, where their variable lies. -/
def Wid (w : World) : Prop := 1 < w.heap.size ∧ ∀ i, i < 5 → w.cell? ⟨1, i, none⟩ = some (.int .i64 (sz i : Nat))
theorem Wid.mod {w w' : World} {S : Nat → Prop} (h : Wid w) (hm : Mod S w w') (hn : ¬ S 1) : Wid w' :=
 ⟨Nat.lt_of_lt_of_le h.1 hm.size, fun i hi => (hm.cell (a := ⟨1, i, none⟩) h.1 hn).trans (h.2 i hi)⟩
theorem shortest_any (d : Int) (w : World) (hf : Fits d) (hw : Wid w) :
  Calls Tryz.prog 118 #[.int .i64 d] w fun e w' => e = .returned (.int .i64 (hd d : Nat)) ∧ w = w' := by
 have h0 : w.cell? ⟨1, 0, none⟩ = some (.int .i64 0) := hw.2 0 (by decide)
 have h1 : w.cell? ⟨1, 1, none⟩ = some (.int .i64 7) := hw.2 1 (by decide)
 have h2 : w.cell? ⟨1, 2, none⟩ = some (.int .i64 9) := hw.2 2 (by decide)
 have h3 : w.cell? ⟨1, 3, none⟩ = some (.int .i64 12) := hw.2 3 (by decide)
 have h4 : w.cell? ⟨1, 4, none⟩ = some (.int .i64 64) := hw.2 4 (by decide)
 have Hf := Lib.hid hf
 have hwu : IntKind.u64.wrap d = (un d : Int) := wrapU_un d
 have hul : Hid (Lt64 (un d)) := Lib.hid (un_lt d)
 clear hw hf
 have i0 : ∀ w : World, (Instr.index 154 (.agg #[.int .i64 0, .int .i64 7, .int .i64 9, .int .i64 12, .int .i64 64]) (.int .i64 0)).run Tryz.prog w = .ok (.int .i64 0) w := fun _ => by kernel_rfl
 have i1 : ∀ w : World, (Instr.index 154 (.agg #[.int .i64 0, .int .i64 7, .int .i64 9, .int .i64 12, .int .i64 64]) (.int .i64 1)).run Tryz.prog w = .ok (.int .i64 7) w := fun _ => by kernel_rfl
 have i2 : ∀ w : World, (Instr.index 154 (.agg #[.int .i64 0, .int .i64 7, .int .i64 9, .int .i64 12, .int .i64 64]) (.int .i64 2)).run Tryz.prog w = .ok (.int .i64 9) w := fun _ => by kernel_rfl
 have i3 : ∀ w : World, (Instr.index 154 (.agg #[.int .i64 0, .int .i64 7, .int .i64 9, .int .i64 12, .int .i64 64]) (.int .i64 3)).run Tryz.prog w = .ok (.int .i64 12) w := fun _ => by kernel_rfl
 have i4 : ∀ w : World, (Instr.index 154 (.agg #[.int .i64 0, .int .i64 7, .int .i64 9, .int .i64 12, .int .i64 64]) (.int .i64 4)).run Tryz.prog w = .ok (.int .i64 64) w := fun _ => by kernel_rfl
 go_enter Tryz.func118, Tryz.ntmps118
 go_wp2_with fail
 go_loopg [6] 5 (fun l s6 wr => ∃ i : Nat, i + l = 5 ∧ i ≤ hd d ∧ s6 = .int .i64 (i : Int) ∧ wr = w)
 case atStart => exact ⟨0, rfl, Nat.zero_le _, rfl, rfl⟩
 case round =>
  obtain ⟨i, hil, hih, rfl, rfl⟩ := hrel
  have h5 := hd_le d
  have hi : i = 0 ∨ i = 1 ∨ i = 2 ∨ i = 3 ∨ i = 4 := by omega
  have Hil := Lib.hid hil
  clear hil
  rcases Nat.eq_or_lt_of_le hih with he | hlt
  ·have hs := sgn_in (h5) (Nat.le_refl _) Hf.out
   rw [← he] at hs
   have Hs := Lib.hid hs
   have He := Lib.hid he
   clear he hs hih h5
   rcases hi with rfl | rfl | rfl | rfl | rfl
   all_goals
    go_wp2_with fail
    first
     | refine (signed_is (un d) 0 0 d _ rfl hul.out (by decide) Hs.out).mono ?_
     | refine (signed_is (un d) 7 7 d _ rfl hul.out (by decide) Hs.out).mono ?_
     | refine (signed_is (un d) 9 9 d _ rfl hul.out (by decide) Hs.out).mono ?_
     | refine (signed_is (un d) 12 12 d _ rfl hul.out (by decide) Hs.out).mono ?_
     | refine (signed_is (un d) 64 64 d _ rfl hul.out (by decide) Hs.out).mono ?_
    rintro e w' ⟨rfl, rfl⟩
    go_wp2_with fail
    go_ret
    refine ⟨ret_eq ?_, rfl⟩
    rw [← He.out]
    rfl
  ·have hs := sgn_not hlt
   obtain ⟨r, hr⟩ : ∃ r, r = sgn (sz i) (un d % 2 ^ sz i) := ⟨_, rfl⟩
   rw [← hr] at hs
   have hne : (r == d) = false := by simpa using hs
   have Hr := Lib.hid hr.symm
   have Hlt := Lib.hid hlt
   clear hr hs hih h5
   rcases hi with rfl | rfl | rfl | rfl | rfl
   ·go_wp2_with fail
    refine (signed_is (un d) 0 0 r _ rfl hul.out (by decide) Hr.out).mono ?_
    rintro e w' ⟨rfl, rfl⟩
    go_wp2_with fail
    go_roundg (gk - 1)
    case measure => have := Hil.out; omega
    case rel => exact ⟨1, by have := Hil.out; omega, Hlt.out, rfl, rfl⟩
   ·go_wp2_with fail
    refine (signed_is (un d) 7 7 r _ rfl hul.out (by decide) Hr.out).mono ?_
    rintro e w' ⟨rfl, rfl⟩
    go_wp2_with fail
    go_roundg (gk - 1)
    case measure => have := Hil.out; omega
    case rel => exact ⟨2, by have := Hil.out; omega, Hlt.out, rfl, rfl⟩
   ·go_wp2_with fail
    refine (signed_is (un d) 9 9 r _ rfl hul.out (by decide) Hr.out).mono ?_
    rintro e w' ⟨rfl, rfl⟩
    go_wp2_with fail
    go_roundg (gk - 1)
    case measure => have := Hil.out; omega
    case rel => exact ⟨3, by have := Hil.out; omega, Hlt.out, rfl, rfl⟩
   ·go_wp2_with fail
    refine (signed_is (un d) 12 12 r _ rfl hul.out (by decide) Hr.out).mono ?_
    rintro e w' ⟨rfl, rfl⟩
    go_wp2_with fail
    go_roundg (gk - 1)
    case measure => have := Hil.out; omega
    case rel => exact ⟨4, by have := Hil.out; omega, Hlt.out, rfl, rfl⟩
   ·have := hd_le d; have := Hlt.out; omega
end Go.Proofs.YthgoppmgapaajaaGreatDoor

/- A reader tells whether it is well. -/
namespace Go.Proofs.YthgoppmgapaajaaGreatDoor
open Go.RowKit

theorem ok_any (g row R rem : Nat) (ok : Bool) (w : World) (h : Rdr w g row R rem ok) :
  Calls Tryz.prog 121 #[.pointer (some ⟨g, 0, none⟩)] w fun e w' => e = .returned (.bool ok) ∧ w = w' := by
 obtain ⟨A, n, c, bs, used, hblk, hnc, hs, hne, hlt, hrem, hused, hR, hok⟩ := h
 have hc2 := hblk.cell 2
 simp at hc2
 clear hblk hs hrem hR hok hlt hnc hne
 go_enter Tryz.func121, Tryz.ntmps121
 go_wp2
 go_ret
 exact ⟨by simp, rfl⟩
end Go.Proofs.YthgoppmgapaajaaGreatDoor

/- Ok of a reader in whatever state. -/
namespace Go.Proofs.YthgoppmgapaajaaGreatDoor
open Go.RowKit

theorem ok_o (g row : Nat) (s : Option (Nat × Nat)) (w : World) (h : RdrO w g row s) :
  Calls Tryz.prog 121 #[.pointer (some ⟨g, 0, none⟩)] w fun e w' => e = .returned (.bool s.isSome) ∧ w = w' := by
 cases s with
 | none => exact (ok_any g row 0 0 false w h).mono fun _ _ ⟨h1, h2⟩ => ⟨h1, h2⟩
 | some p => exact (ok_any g row p.1 p.2 true w h.1).mono fun _ _ ⟨h1, h2⟩ => ⟨h1, h2⟩
end Go.Proofs.YthgoppmgapaajaaGreatDoor

/- A reader in whatever state; a difference is read: mark, get. -/
namespace Go.Proofs.YthgoppmgapaajaaGreatDoor
open Go.RowKit

def MarkTo (w wr : World) (g row : Nat) (s s' : Option (Nat × Nat)) (l f : Nat) : Prop := markO l f s' = markO 4 0 s ∧ RdrO wr g row s' ∧ Mod (fun i => i = g) w wr
def MarkEnd (w wr : World) (g row : Nat) (s : Option (Nat × Nat)) (e : Ending) : Prop := e = .returned (.int .i64 (formO s : Nat)) ∧ RdrO wr g row (markO 4 0 s).2 ∧ Mod (fun i => i = g) w wr
theorem MarkTo.stop {w wr w1 : World} {g row : Nat} {s s' : Option (Nat × Nat)} {l f : Nat} (h : MarkTo w wr g row s s' (l + 1) f) (hne : ¬ (getO 1 s').1 = 1) (h1 : RdrO w1 g row (getO 1 s').2) (hm : Mod (fun i => i = g) wr w1) :
  MarkEnd w w1 g row s (.returned (.int .i64 (f : Nat))) := by
 have e : markO (l + 1) f s' = (f, (getO 1 s').2) := by
  show (if (getO 1 s').1 = 1 then markO l (f + 1) (getO 1 s').2 else (f, (getO 1 s').2)) = _
  rw [if_neg hne]
 have e2 := h.1
 rw [e] at e2
 refine ⟨?_, ?_, h.2.2.trans hm (fun _ _ h => h)⟩
 ·unfold formO; rw [← e2]
 ·rw [← e2]; exact h1
theorem MarkTo.next {w wr w1 : World} {g row : Nat} {s s' : Option (Nat × Nat)} {l f : Nat} (h : MarkTo w wr g row s s' (l + 1) f) (hne : (getO 1 s').1 = 1) (h1 : RdrO w1 g row (getO 1 s').2) (hm : Mod (fun i => i = g) wr w1) :
  MarkTo w w1 g row s (getO 1 s').2 l (f + 1) := by
 have e : markO (l + 1) f s' = markO l (f + 1) (getO 1 s').2 := by
  show (if (getO 1 s').1 = 1 then markO l (f + 1) (getO 1 s').2 else (f, (getO 1 s').2)) = _
  rw [if_pos hne]
 exact ⟨e ▸ h.1, h1, h.2.2.trans hm (fun _ _ h => h)⟩
theorem mark_o (g row : Nat) (s : Option (Nat × Nat)) (w : World) (h : RdrO w g row s) :
  Calls Tryz.prog 136 #[.pointer (some ⟨g, 0, none⟩)] w fun e w' => MarkEnd w w' g row s e := by
 have H0 : Hid (MarkTo w w g row s s 4 0) := Lib.hid ⟨rfl, h, Mod.refl _ _⟩
 clear h
 go_enter Tryz.func136, Tryz.ntmps136
 go_wp2_with fail
 go_loopg [3] 4 (fun l s3 wr => ∃ f s', f + l = 4 ∧ s3 = .int .i64 (f : Int) ∧ MarkTo w wr g row s s' l f)
 case atStart => exact ⟨0, s, rfl, rfl, H0.out⟩
 case round =>
  obtain ⟨f, s', hfl, rfl, hM⟩ := hrel
  have HM := Lib.hid hM; have Hfl := Lib.hid hfl
  clear hM hfl H0
  by_cases hl0 : gk = 0
  ·have hf : ¬ f < 4 := by have := Hfl.out; omega
   subst hl0
   go_wp2_with fail
   go_ret
   have hM := HM.out
   have e2 : (f, s') = markO 4 0 s := hM.1
   refine ⟨?_, ?_, hM.2.2⟩
   ·unfold formO; rw [← e2]; rfl
   ·rw [← e2]; exact hM.2.1
  ·obtain ⟨l, rfl⟩ : ∃ l, gk = l + 1 := ⟨gk - 1, by omega⟩
   have hf : f < 4 := by have := Hfl.out; omega
   clear hl0
   go_wp2_with fail
   refine (get_o g row 1 1 s' _ rfl (by decide) HM.out.2.1).mono ?_
   rintro e w1 ⟨rfl, h1, hm⟩
   have H1 := Lib.hid h1; have Hm := Lib.hid hm
   clear h1 hm
   by_cases hb : (getO 1 s').1 = 1
   ·have N1 := Lib.hid (HM.out.next hb H1.out Hm.out)
    rw [hb]
    clear hb H1 Hm HM
    go_wp2_with fail
    go_roundg l
    case measure => omega
    case rel => exact ⟨f + 1, _, by have := Hfl.out; omega, by go_num, N1.out⟩
   ·have N1 := Lib.hid (HM.out.stop hb H1.out Hm.out)
    have hb2 : ((((getO 1 s').1 : Nat) : Int) == 1) = false := by simp; omega
    clear hb H1 Hm HM
    go_wp2_with fail
    go_ret
    exact N1.out

theorem sz_at {w : World} (hw : Wid w) {k : Nat} (hk : k ≤ 4) : w.cell? ⟨1, k, none⟩ = some (.int .i64 (sz k : Nat)) := hw.2 k (by omega)
theorem bitsO_lt (s : Option (Nat × Nat)) (hs : ∀ R rem, s = some (R, rem) → R < 2 ^ rem) : (bitsO s).1 < 2 ^ sz (formO s) := by
 have hp := Nat.two_pow_pos (sz (formO s))
 have key : ∀ (s' : Option (Nat × Nat)) (k : Nat), (∀ R rem, s' = some (R, rem) → R < 2 ^ rem) → (getO k s').1 < 2 ^ k ∧ ∀ R rem, (getO k s').2 = some (R, rem) → R < 2 ^ rem := by
  intro s' k h
  cases s' with
  | none => exact ⟨Nat.two_pow_pos k, fun _ _ h => by cases h⟩
  | some p =>
   obtain ⟨R, rem⟩ := p
   by_cases hk : k ≤ rem
   ·have e : getO k (some (R, rem)) = (R / 2 ^ (rem - k), some (R % 2 ^ (rem - k), rem - k)) := if_pos hk
    rw [e]
    refine ⟨?_, fun R' rem' h' => ?_⟩
    ·show R / 2 ^ (rem - k) < 2 ^ k
     rw [Nat.div_lt_iff_lt_mul (Nat.two_pow_pos _), ← Nat.pow_add, show k + (rem - k) = rem by omega]
     exact h R rem rfl
    ·injection h' with h'
     injection h' with h1 h2
     subst h1 h2
     exact Nat.mod_lt _ (Nat.two_pow_pos _)
   ·have e : getO k (some (R, rem)) = (0, none) := if_neg hk
    rw [e]
    exact ⟨Nat.two_pow_pos k, fun _ _ h => by cases h⟩
 have mk : ∀ (f h : Nat) (s' : Option (Nat × Nat)), (∀ R rem, s' = some (R, rem) → R < 2 ^ rem) → ∀ R rem, (markO f h s').2 = some (R, rem) → R < 2 ^ rem := by
  intro f
  induction f with
  | zero => exact fun h s' hs => hs
  | succ f ih =>
   intro h s' hs
   have e : markO (f + 1) h s' = if (getO 1 s').1 = 1 then markO f (h + 1) (getO 1 s').2 else (h, (getO 1 s').2) := rfl
   rw [e]
   by_cases hb : (getO 1 s').1 = 1
   ·rw [if_pos hb]; exact ih _ _ (key s' 1 hs).2
   ·rw [if_neg hb]; exact (key s' 1 hs).2
 exact (key _ _ (mk 4 0 s hs)).1
def GetEnd (w wr : World) (g row : Nat) (s : Option (Nat × Nat)) (e : Ending) : Prop :=
 e = .returned (.tuple #[.int .i64 (diffO s), .bool ((behindO s).isSome && decide (formO s = hd (diffO s)))]) ∧ RdrO wr g row (behindO s) ∧ Mod (fun i => i = g) w wr
theorem diffO_fits (s : Option (Nat × Nat)) (hs : ∀ R rem, s = some (R, rem) → R < 2 ^ rem) : Fits (diffO s) := by
 have hb := bitsO_lt s hs
 have hf := formO_le s
 have hh : (H63 : Int) = 9223372036854775808 := rfl
 unfold diffO
 generalize (bitsO s).1 = u at *
 have hk' : formO s = 0 ∨ formO s = 1 ∨ formO s = 2 ∨ formO s = 3 ∨ formO s = 4 := by omega
 rcases hk' with e | e | e | e | e <;> rw [e] at hb ⊢
 ·have hb' : u < 2 ^ 0 := hb
  have : u = 0 := by omega
  subst this
  exact ⟨by decide, by decide⟩
 ·have := sgn_range (n := 7) (by decide) (by decide) hb
  exact ⟨by show -(H63 : Int) ≤ sgn 7 u; omega, by show sgn 7 u < (H63 : Int); omega⟩
 ·have := sgn_range (n := 9) (by decide) (by decide) hb
  exact ⟨by show -(H63 : Int) ≤ sgn 9 u; omega, by show sgn 9 u < (H63 : Int); omega⟩
 ·have := sgn_range (n := 12) (by decide) (by decide) hb
  exact ⟨by show -(H63 : Int) ≤ sgn 12 u; omega, by show sgn 12 u < (H63 : Int); omega⟩
 ·exact sg_fits (by rw [M64_pow]; exact hb)
set_option maxHeartbeats 1000000 in
theorem dget_o (g row : Nat) (s : Option (Nat × Nat)) (w : World) (h : RdrO w g row s) (hw : Wid w) (hg : g ≠ 1) :
  Calls Tryz.prog 120 #[.pointer (some ⟨g, 0, none⟩)] w fun e w' => GetEnd w w' g row s e := by
 have hf := formO_le s
 have hlt := bitsO_lt s h.small
 have hfit := Lib.hid (diffO_fits s h.small)
 have H := Lib.hid h; have Hw := Lib.hid hw; have Hg := Lib.hid hg; have Hlt := Lib.hid hlt
 clear h hw hg hlt
 go_enter Tryz.func120, Tryz.ntmps120
 go_wp2_with fail
 refine (mark_o g row s _ H.out).mono ?_
 rintro e w1 ⟨rfl, h1, hm1⟩
 have Hw1 := Lib.hid (Hw.out.mod hm1 (fun e => Hg.out e.symm))
 have hc1 := sz_at Hw1.out hf
 have H1 := Lib.hid h1; have Hm1 := Lib.hid hm1
 clear h1 hm1
 have h64 := sz_le (formO s)
 have hf5 : (formO s : Int) < 5 := by omega
 have hf0 : (0 : Int) ≤ formO s := by omega
 go_upto_region 2 with fail
 go_cut [5] (fun s5 wc => s5 = .int .i64 (diffO s) ∧ RdrO wc g row (behindO s) ∧ Mod (fun i => i = g) w wc)
 case first =>
  have H1d : Hid (RdrO w1.drew g row (markO 4 0 s).2) := Lib.hid (H1.out.mod (Mod.refl (fun _ => False) w1).drew (fun h => h) (fun _ h => h))
  have Hw1d : Hid (Wid w1.drew) := Lib.hid (Hw1.out.mod (Mod.refl (fun _ => False) w1).drew (fun h => h))
  have Hm1d : Hid (Mod (fun i => i = g) w w1.drew) := Lib.hid Hm1.out.drew
  have hr : Hid (sgn (sz (formO s)) ((bitsO s).1 % 2 ^ sz (formO s)) = diffO s) := Lib.hid (by rw [Nat.mod_eq_of_lt Hlt.out]; rfl)
  have hl64 : Hid (Lt64 (bitsO s).1) := Lib.hid (by
   have h1 := Hlt.out
   have h2 := Nat.pow_le_pow_right (n := 2) (by omega) h64
   unfold Lt64
   have h3 : (2 : Nat) ^ 64 = 18446744073709551616 := by decide
   omega)
  have hcd : w1.drew.cell? ⟨1, formO s, none⟩ = some (.int .i64 (sz (formO s) : Nat)) := hc1
  clear H1 Hw1 Hm1
  first
   | (go_region_held_law (fun w' => w'.cell? ⟨1, formO s, none⟩ = some (.int .i64 (sz (formO s) : Nat))) (assumption)
     (first
      | (go_at_call 119; refine (get_o g row (sz (formO s)) _ (markO 4 0 s).2 _ rfl h64 H1d.out).mono ?_; rintro e w2 ⟨rfl, h2, hm2⟩; have hc2 := sz_at (Hw1d.out.mod hm2 (fun e => Hg.out e.symm)) hf; have H2 : Hid (RdrO w2 g row (behindO s)) := Lib.hid h2; have Hm2 := Lib.hid (Hm1d.out.trans hm2 (fun _ _ h => h)); clear h2 hm2)
      | (go_at_call 134; refine (signed_is (bitsO s).1 (sz (formO s)) _ (diffO s) _ rfl hl64.out h64 hr.out).mono ?_; rintro e w3 ⟨rfl, rfl⟩)))
   | fail "held"
  all_goals
   go_wp2
   go_meet
   exact ⟨rfl, H2.out, Hm2.out⟩
 case rest =>
  obtain ⟨rfl, h2, hm2⟩ := hcut
  have H2 := Lib.hid h2; have Hm2 := Lib.hid hm2
  have Hw2 := Lib.hid (Hw.out.mod hm2 (fun e => Hg.out e.symm))
  clear h2 hm2 H1 Hm1 Hw1 hc1
  go_wp2_with fail
  refine (ok_o g row (behindO s) _ H2.out).mono ?_
  rintro e w3 ⟨rfl, rfl⟩
  by_cases hs : (behindO s).isSome = true
  ·rw [hs]
   go_wp2_with fail
   refine (shortest_any (diffO s) _ hfit.out Hw2.out).mono ?_
   rintro e w4 ⟨rfl, rfl⟩
   by_cases he : formO s = hd (diffO s)
   ·have he2 : ((formO s : Int) == (hd (diffO s) : Int)) = true := by rw [he]; simp
    go_wp2_with fail
    go_ret2
    refine ⟨?_, H2.out, Hm2.out⟩
    rw [hs, decide_eq_true he]
    rfl
   ·have he2 : ((formO s : Int) == (hd (diffO s) : Int)) = false := by simp; omega
    go_wp2_with fail
    go_ret2
    refine ⟨?_, H2.out, Hm2.out⟩
    rw [hs, decide_eq_false he]
    rfl
  ·have hs2 : (behindO s).isSome = false := by simpa using hs
   rw [hs2]
   go_wp2_with fail
   go_ret2
   refine ⟨?_, H2.out, Hm2.out⟩
   rw [hs2]
   rfl
end Go.Proofs.YthgoppmgapaajaaGreatDoor

/- Fields are told: the project's writer, and the document's own. -/
namespace Go.Proofs.YthgoppmgapaajaaGreatDoor
open Go.RowKit

/-- Fields were added to what a writer had. -/
def Wrote (w0 w : World) (g : Nat) (row : Option Nat) (N len : Nat) (fs : List (Nat × Nat)) : Prop :=
 ∃ row', Wr w g row' (N * 2 ^ flen fs + fnum fs) (len + flen fs) ∧ Mod (fun i => i = g ∨ row = some i) w0 w ∧ RowTo w0 row row'
theorem num_snoc (N : Nat) (fs bs : List (Nat × Nat)) : (N * 2 ^ flen fs + fnum fs) * 2 ^ flen bs + fnum bs = N * 2 ^ flen (fs ++ bs) + fnum (fs ++ bs) := by
 rw [flen_app, fnum_app, Nat.pow_add, Nat.add_mul, Nat.mul_assoc, Nat.add_assoc]
section
variable {w0 w w' : World} {g N len : Nat} {row : Option Nat} {fs bs : List (Nat × Nat)}
theorem Wrote.refl (h : Wr w g row N len) : Wrote w w g row N len [] := ⟨row, by simpa [flen, fnum] using h, Mod.refl _ _, .inl rfl⟩
theorem Mod.more {row row' : Option Nat} {w2 : World} (h : Mod (fun i => i = g ∨ row = some i) w0 w) (hr : RowTo w0 row row') (h2 : Mod (fun i => i = g ∨ row' = some i) w w2) : Mod (fun i => i = g ∨ row = some i) w0 w2 :=
 h.trans h2 (fun _ hi h => h.elim .inl (fun e => .inr (hr.in_ e hi)))
theorem RowTo.two {row row' row2 : Option Nat} (h : RowTo w0 row row') (hs : w0.heap.size ≤ w.heap.size) (h2 : RowTo w row' row2) : RowTo w0 row row2 := by
 rcases h2 with rfl | ⟨r, rfl, hr⟩
 ·exact h
 ·exact .inr ⟨r, rfl, by omega⟩
theorem Wrote.app (h : Wrote w0 w g row N len fs) (h2 : ∀ row', RowTo w0 row row' → Wr w g row' (N * 2 ^ flen fs + fnum fs) (len + flen fs) → Wrote w w' g row' (N * 2 ^ flen fs + fnum fs) (len + flen fs) bs) : Wrote w0 w' g row N len (fs ++ bs) := by
 obtain ⟨row', a1, a2, a3⟩ := h
 obtain ⟨row2, b1, b2, b3⟩ := h2 row' a3 a1
 refine ⟨row2, ?_, a2.more a3 b2, a3.two a2.size b3⟩
 rw [num_snoc, Nat.add_assoc, ← flen_app] at b1
 exact b1
theorem Wrote.len_eq {fs' : List (Nat × Nat)} (h : Wrote w0 w g row N len fs) (h1 : flen fs = flen fs') (h2 : fnum fs = fnum fs') : Wrote w0 w g row N len fs' := by
 obtain ⟨row', a1, a2, a3⟩ := h
 refine ⟨row', ?_, a2, a3⟩
 rw [← h1, ← h2]
 exact a1
end
/-- Put adds one field. -/
theorem put_wrote (w0 : World) (g : Nat) (row : Option Nat) (N len k : Nat) (fs : List (Nat × Nat)) (v : Nat) (V n : Int) (w : World) (hV : V = (v : Int)) (hn : n = (k : Int)) (hk : k ≤ 64) (hv : Lt64 v) (hw : Wrote w0 w g row N len fs) (hlen : len + flen fs ≤ 1000000000) :
  Calls Tryz.prog 91 #[.pointer (some ⟨g, 0, none⟩), .int .u64 V, .int .i64 n] w fun e w' => e = .returned (.tuple #[]) ∧ Wrote w0 w' g row N len (fs ++ [(v, k)]) := by
 subst hV hn
 obtain ⟨row', a1, a2, a3⟩ := hw
 have hv' := hv.out
 refine (put_wr g row' _ _ k (v : Int) (k : Int) w ⟨by omega, by omega⟩ ⟨by omega, by omega⟩ (by omega) a1 hlen).mono ?_
 rintro e w' ⟨rfl, row2, b1, b2, b3⟩
 refine ⟨rfl, row2, ?_, a2.more a3 b2, a3.two a2.size b3⟩
 rw [Int.toNat_natCast] at b1
 have e1 : N * 2 ^ flen (fs ++ [(v, k)]) + fnum (fs ++ [(v, k)]) = (N * 2 ^ flen fs + fnum fs) * 2 ^ k + v % 2 ^ k := by
  rw [← num_snoc]
  show _ * 2 ^ (k + 0) + (v % 2 ^ k * 2 ^ 0 + 0) = _
  rw [Nat.add_zero, Nat.pow_zero, Nat.mul_one, Nat.add_zero]
 have e2 : len + flen (fs ++ [(v, k)]) = len + flen fs + k := by
  rw [flen_app]
  show len + (flen fs + (k + 0)) = _
  omega
 rw [e1, e2]
 exact b1

theorem app_len {fs cs bs : List (Nat × Nat)} (h : flen cs = flen bs) : flen (fs ++ cs) = flen (fs ++ bs) := by rw [flen_app, flen_app, h]
theorem app_num {fs cs bs : List (Nat × Nat)} (h1 : flen cs = flen bs) (h : fnum cs = fnum bs) : fnum (fs ++ cs) = fnum (fs ++ bs) := by rw [fnum_app, fnum_app, h, h1]
theorem add_zero' (a : Addr) : a.add 0 = a := by unfold Addr.add; simp
theorem drop_at {zs : List Int} {i : Nat} {x : Int} (h : zs[i]? = some x) : zs.drop i = x :: zs.drop (i + 1) := by
 rw [List.getElem?_eq_some_iff] at h
 obtain ⟨hi, rfl⟩ := h
 exact List.drop_eq_getElem_cons hi
theorem flen_le_app (fs cs : List (Nat × Nat)) : flen fs ≤ flen (fs ++ cs) := by rw [flen_app]; omega
theorem SeesI.at2 {k : IntKind} {w w' : World} {B n i : Nat} {A : Option Addr} {zs : List Int} (h : SeesI k w B A n zs) (hi : i < n) (hB : B ≤ w.heap.size) {S : Nat → Prop} (hm : Mod S w w') (hS : ∀ ad, A = some ad → ¬ S ad.block) :
  ∃ ad x, A = some ad ∧ zs[i]? = some x ∧ w'.cell? (ad.add i) = some (.int k x) := by
 obtain ⟨ad, e, hb, hc⟩ := h.2 (by omega)
 have hl : i < zs.length := by have := h.1; omega
 refine ⟨ad, zs[i], e, List.getElem?_eq_getElem hl, ?_⟩
 rw [hm.cell (a := ad.add i) (by rw [addr_block]; omega) (by rw [addr_block]; exact hS _ e)]
 exact hc i _ (List.getElem?_eq_getElem hl)
theorem RWr.mod {w w1 : World} {S : Nat → Prop} {g : Nat} {row : Option Nat} {N len : Nat} (h : RWr w g row N len) (hm : Mod S w w1) (h1 : ¬ S g) (h2 : ∀ k, row = some k → ¬ S k) : RWr w1 g row N len := by
 obtain ⟨v, L, hblk, hown, hrow, rest⟩ := h
 exact ⟨v, L, hm.blk hblk h1, hm.owns hown (fun k hk => h2 k (by rw [← hrow]; exact hk)), hrow, rest⟩
theorem RWr.lt {w : World} {g : Nat} {row : Option Nat} {N len : Nat} (h : RWr w g row N len) : g < w.heap.size := by
 obtain ⟨v, L, hblk, _⟩ := h
 exact hblk.lt
theorem RWr.row_lt {w : World} {g : Nat} {row : Option Nat} {N len : Nat} (h : RWr w g row N len) : ∀ k, row = some k → k < w.heap.size := by
 obtain ⟨v, L, hblk, hown, hrow, _⟩ := h
 intro k hk
 exact (hown.lt k (by rw [hrow, hk])).2
def RWrote (w0 w : World) (g : Nat) (row : Option Nat) (N len : Nat) (fs : List (Nat × Nat)) : Prop :=
 ∃ row', RWr w g row' (N * 2 ^ flen fs + fnum fs) (len + flen fs) ∧ Mod (fun i => i = g ∨ row = some i) w0 w ∧ RowTo w0 row row'
section
variable {w0 w w' : World} {g N len : Nat} {row : Option Nat} {fs bs : List (Nat × Nat)}
theorem RWrote.refl (h : RWr w g row N len) : RWrote w w g row N len [] := ⟨row, by simpa [flen, fnum] using h, Mod.refl _ _, .inl rfl⟩
theorem RWrote.drewN (h : RWrote w0 w g row N len fs) (n : Nat) : RWrote w0 (w.drewN n) g row N len fs := by
 obtain ⟨row', a1, a2, a3⟩ := h
 exact ⟨row', a1.mod ((Mod.refl (fun _ => False) w).drewN n) (fun h => h) (fun _ _ h => h), a2.drewN n, a3⟩
end
theorem rput_wrote (w0 : World) (g : Nat) (row : Option Nat) (N len k : Nat) (fs : List (Nat × Nat)) (v : Nat) (V n : Int) (w : World) (hV : V = (v : Int)) (hn : n = (k : Int)) (hk : k ≤ 64) (hv : Lt64 v) (hw : RWrote w0 w g row N len fs) (hlen : len + flen fs ≤ 1000000000) :
  Calls Tryz.prog 54 #[.pointer (some ⟨g, 0, none⟩), .int .u64 V, .int .i64 n] w fun e w' => e = .returned (.tuple #[]) ∧ RWrote w0 w' g row N len (fs ++ [(v, k)]) := by
 subst hV hn
 obtain ⟨row', a1, a2, a3⟩ := hw
 refine (rput_any g row' _ _ k v (k : Int) w (by omega) hv a1 hlen).mono ?_
 rintro e w' ⟨rfl, row2, b1, b2, b3⟩
 refine ⟨rfl, row2, ?_, a2.more a3 b2, a3.two a2.size b3⟩
 rw [Nat.sub_zero, Nat.pow_zero, Nat.div_one] at b1
 have e1 : N * 2 ^ flen (fs ++ [(v, k)]) + fnum (fs ++ [(v, k)]) = (N * 2 ^ flen fs + fnum fs) * 2 ^ k + v % 2 ^ k := by
  rw [← num_snoc]
  show _ * 2 ^ (k + 0) + (v % 2 ^ k * 2 ^ 0 + 0) = _
  rw [Nat.add_zero, Nat.pow_zero, Nat.mul_one, Nat.add_zero]
 have e2 : len + flen (fs ++ [(v, k)]) = len + flen fs + k := by
  rw [flen_app]
  show len + (flen fs + (k + 0)) = _
  omega
 rw [e1, e2]
 exact b1
end Go.Proofs.YthgoppmgapaajaaGreatDoor

/- Differences, and rows of times, are told: put, Encode. -/
namespace Go.Proofs.YthgoppmgapaajaaGreatDoor
open Go.RowKit

theorem fields_one {d : Int} {h : Nat} (hh : h < 4) (he : hd d = h) : flen [(15, h), (0, 1), (un d, sz h)] = flen (fieldsD d) ∧ fnum [(15, h), (0, 1), (un d, sz h)] = fnum (fieldsD d) := by
 obtain ⟨e1, e2⟩ := headN_hd d
 have ek := kind_hd d
 unfold fieldsD
 rw [e1, e2, ek, he]
 have hh' : h = 0 ∨ h = 1 ∨ h = 2 ∨ h = 3 := by omega
 rcases hh' with rfl | rfl | rfl | rfl
 ·exact ⟨rfl, by show 15 % 2 ^ 0 * 2 ^ (1 + (0 + 0)) + (0 % 2 ^ 1 * 2 ^ (0 + 0) + (un d % 2 ^ 0 * 2 ^ 0 + 0)) = 0 % 2 ^ 1 * 2 ^ (0 + 0) + (un d % 2 ^ 0 * 2 ^ 0 + 0); omega⟩
 ·exact ⟨rfl, by show 15 % 2 ^ 1 * 2 ^ (1 + (7 + 0)) + (0 % 2 ^ 1 * 2 ^ (7 + 0) + (un d % 2 ^ 7 * 2 ^ 0 + 0)) = 2 % 2 ^ 2 * 2 ^ (7 + 0) + (un d % 2 ^ 7 * 2 ^ 0 + 0); omega⟩
 ·exact ⟨rfl, by show 15 % 2 ^ 2 * 2 ^ (1 + (9 + 0)) + (0 % 2 ^ 1 * 2 ^ (9 + 0) + (un d % 2 ^ 9 * 2 ^ 0 + 0)) = 6 % 2 ^ 3 * 2 ^ (9 + 0) + (un d % 2 ^ 9 * 2 ^ 0 + 0); omega⟩
 ·exact ⟨rfl, by show 15 % 2 ^ 3 * 2 ^ (1 + (12 + 0)) + (0 % 2 ^ 1 * 2 ^ (12 + 0) + (un d % 2 ^ 12 * 2 ^ 0 + 0)) = 14 % 2 ^ 4 * 2 ^ (12 + 0) + (un d % 2 ^ 12 * 2 ^ 0 + 0); omega⟩
theorem fields_two {d : Int} (he : hd d = 4) : flen [(15, 4), (un d, 64)] = flen (fieldsD d) ∧ fnum [(15, 4), (un d, 64)] = fnum (fieldsD d) := by
 obtain ⟨e1, e2⟩ := headN_hd d
 have ek := kind_hd d
 unfold fieldsD
 rw [e1, e2, ek, he]
 exact ⟨rfl, rfl⟩
theorem Wrote.wid {w0 w : World} {g N len : Nat} {row : Option Nat} {fs : List (Nat × Nat)} (h : Wrote w0 w g row N len fs) (hw : Wid w0) (hg : g ≠ 1) (hr : row ≠ some 1) : Wid w := by
 obtain ⟨row', a1, a2, a3⟩ := h
 exact hw.mod a2 (fun h => h.elim (fun e => hg e.symm) hr)
set_option maxHeartbeats 1000000 in
theorem dput_wrote (w0 : World) (g : Nat) (row : Option Nat) (N len : Nat) (fs : List (Nat × Nat)) (d : Int) (w : World) (hf : Fits d) (hw : Wrote w0 w g row N len fs) (hlen : len + flen fs ≤ 900000000) (hwid : Wid w0) (hg : g ≠ 1) (hr : row ≠ some 1) :
  Calls Tryz.prog 102 #[.pointer (some ⟨g, 0, none⟩), .int .i64 d] w fun e w' => e = .returned (.tuple #[]) ∧ Wrote w0 w' g row N len (fs ++ fieldsD d) := by
 have Hf := Lib.hid hf; have Hw := Lib.hid hw; have Hwid := Lib.hid hwid; have Hg := Lib.hid hg; have Hr := Lib.hid hr
 have hwu : IntKind.u64.wrap d = (un d : Int) := wrapU_un d
 have hul : Hid (Lt64 (un d)) := Lib.hid (un_lt d)
 clear hf hw hwid hg hr
 have hh := hd_le d
 obtain ⟨h, Hh⟩ : ∃ h, Hid (hd d = h) := ⟨_, Lib.hid rfl⟩
 have hh4 : h ≤ 4 := Hh.out ▸ hh
 clear hh
 go_enter Tryz.func102, Tryz.ntmps102
 go_wp2_with fail
 refine (shortest_any d _ Hf.out (Hw.out.wid Hwid.out Hg.out Hr.out)).mono ?_
 rintro e w1 ⟨rfl, rfl⟩
 rw [Hh.out]
 go_wp2_with fail
 refine (put_wrote w0 g row N len h fs 15 15 (h : Int) _ rfl rfl (by omega) (show (15 : Nat) < 18446744073709551616 by decide) Hw.out (by omega)).mono ?_
 rintro e w1 ⟨rfl, h1⟩
 have H1 := Lib.hid h1
 clear h1 Hw
 have hl1 : flen (fs ++ [(15, h)]) = flen fs + h := by rw [flen_app]; show flen fs + (h + 0) = _; omega
 have Hl1 := Lib.hid hl1
 clear hl1
 have hs64 := sz_le h
 by_cases hlt : h < 4
 ·go_wp2_with fail
  refine (put_wrote w0 g row N len 1 _ 0 0 1 _ rfl rfl (by omega) (show (0 : Nat) < 18446744073709551616 by decide) H1.out (by rw [Hl1.out]; omega)).mono ?_
  rintro e w2 ⟨rfl, h2⟩
  have hc := sz_at (h2.wid Hwid.out Hg.out Hr.out) hh4
  have H2 := Lib.hid h2
  clear h2 H1
  have hl2 : Hid (flen ((fs ++ [(15, h)]) ++ [(0, 1)]) = flen fs + h + 1) := Lib.hid (by rw [flen_app, Hl1.out]; rfl)
  have hf0 : (0 : Int) ≤ (h : Int) := by omega
  have hf5 : (h : Int) < 5 := by omega
  go_wp2_with fail
  refine (put_wrote w0 g row N len (sz h) _ (un d) _ _ _ rfl rfl (by omega) hul.out H2.out (by rw [hl2.out]; omega)).mono ?_
  rintro e w3 ⟨rfl, h3⟩
  have H3 := Lib.hid h3
  clear h3 H2 hc
  go_wp2_with fail
  go_end0
  refine ⟨rfl, ?_⟩
  obtain ⟨e1, e2⟩ := fields_one hlt Hh.out
  refine H3.out.len_eq ?_ ?_
  ·rw [List.append_assoc, List.append_assoc]; exact app_len e1
  ·rw [List.append_assoc, List.append_assoc]; exact app_num e1 e2
 ·obtain rfl : h = 4 := by omega
  have hc := sz_at (H1.out.wid Hwid.out Hg.out Hr.out) hh4
  have hc' : w1.cell? ⟨1, 4, none⟩ = some (.int .i64 64) := hc
  clear hc hlt
  go_wp2_with fail
  refine (put_wrote w0 g row N len 64 _ (un d) _ _ _ rfl rfl (by omega) hul.out H1.out (by rw [Hl1.out]; omega)).mono ?_
  rintro e w3 ⟨rfl, h3⟩
  have H3 := Lib.hid h3
  clear h3 H1 hc'
  go_wp2_with fail
  go_end0
  refine ⟨rfl, ?_⟩
  obtain ⟨e1, e2⟩ := fields_two Hh.out
  refine H3.out.len_eq ?_ ?_
  ·rw [List.append_assoc]; exact app_len e1
  ·rw [List.append_assoc]; exact app_num e1 e2

theorem un_ex (x : Int) : ∃ k : Int, (un x : Int) = x + k * (M64 : Int) := by
 refine ⟨-(x / (M64 : Int)), ?_⟩
 have h := Int.mul_ediv_add_emod x (M64 : Int)
 have h0 := Int.emod_nonneg x (show (M64 : Int) ≠ 0 by decide)
 unfold un
 rw [Int.toNat_of_nonneg h0, Int.neg_mul, Int.mul_comm]
 omega
theorem sg_ex (u : Nat) : ∃ k : Int, sg u = (u : Int) + k * (M64 : Int) := by
 unfold sg
 split
 ·exact ⟨0, by simp⟩
 ·exact ⟨-1, by rw [Int.neg_mul, Int.one_mul]; omega⟩
theorem un_of {x y : Int} {k : Int} (h : x = y + k * (M64 : Int)) : un x = un y := by
 unfold un
 rw [h, Int.add_mul_emod_self_right]
theorem change_eq (prev x : Int) (last : Nat) : wrap64 (wrap64 (x - prev) - sg last) = diffOf prev last x := by
 rw [wrap_sg]
 unfold diffOf stepOf
 congr 1
 obtain ⟨a, ha⟩ := un_ex (x - prev)
 obtain ⟨b, hb⟩ := sg_ex last
 obtain ⟨c, hc⟩ := sg_ex (un (x - prev))
 rw [wrap_sg, ← hc.symm] at *
 refine un_of (k := c - b) ?_
 rw [hc, hb, Int.sub_mul]
 omega
theorem step_eq (prev x : Int) (last : Nat) : wrap64 (sg last + diffOf prev last x) = sg (stepOf prev x) := by
 rw [wrap_sg]
 congr 1
 unfold diffOf stepOf
 obtain ⟨a, ha⟩ := un_ex (x - prev)
 obtain ⟨b, hb⟩ := sg_ex last
 obtain ⟨c, hc⟩ := un_ex ((un (x - prev) : Int) - (last : Int))
 obtain ⟨e, he⟩ := sg_ex (un ((un (x - prev) : Int) - (last : Int)))
 refine un_of (k := b + e + c + a) ?_
 rw [he, hc, hb, ha, Int.add_mul, Int.add_mul, Int.add_mul]
 omega
/-- What Encode has told of i times. -/
def Enc1 (w wr : World) (g : Nat) (row : Option Nat) (N len : Nat) (zs : List Int) (i : Nat) (prev : Int) (last : Nat) : Prop :=
 ∃ fs, Wrote w wr g row N len fs ∧ (i = 0 → fs = [] ∧ prev = 0 ∧ last = 0) ∧ (0 < i → fs ++ encT prev last (zs.drop i) = encRow zs)
set_option maxHeartbeats 1000000 in
theorem encode_any (B g : Nat) (row : Option Nat) (N len n c : Nat) (A : Option Addr) (zs : List Int) (w : World) (hs : SeesI .i64 w B A n zs) (hz : ∀ x ∈ zs, Fits x) (hB : B ≤ w.heap.size) (hap : 0 < n → ∀ ad, A = some ad → ¬ (ad.block = g ∨ row = some ad.block)) (hg0 : g ≠ 1) (hr0 : row ≠ some 1)
  (hw : Wr w g row N len) (hwid : Wid w) (hlen : len + (64 + 68 * n) ≤ 900000000) :
  Calls Tryz.prog 85 #[.pointer (some ⟨g, 0, none⟩), .slice A n c] w fun e w' => e = .returned (.tuple #[]) ∧ Wrote w w' g row N len (encRow zs) := by
 have hzl := hs.1
 have Hs := Lib.hid hs; have Hz := Lib.hid hz; have Hw := Lib.hid hw; have Hwid := Lib.hid hwid
 have Hg := Lib.hid hg0; have Hr := Lib.hid hr0; have HS := Lib.hid hap
 have H0 : Hid (Enc1 w w g row N len zs 0 0 0) := Lib.hid ⟨[], Wrote.refl hw, fun _ => ⟨rfl, rfl, rfl⟩, fun h => by omega⟩
 have Hzl := Lib.hid hzl
 have hsg0 : sg 0 = 0 := rfl
 have Hsg0 := Lib.hid hsg0
 have Htot : Hid (len + flen (encRow zs) ≤ 900000000) := Lib.hid (by have := encRow_len zs; rw [hzl] at this; omega)
 clear hs hz hw hwid hap hg0 hr0 hzl hsg0
 go_enter Tryz.func85, Tryz.ntmps85
 go_wp2_with fail
 go_loopg [4, 5, 11] n (fun l s4 s5 s11 wr => ∃ (i : Nat) (prev : Int) (last : Nat) (st : Int), i + l = n ∧ s11 = .int .i64 (i : Int) ∧ s4 = .int .i64 prev ∧ s5 = .int .i64 st ∧ st = sg last ∧ Enc1 w wr g row N len zs i prev last)
 case atStart => exact ⟨0, 0, 0, 0, by omega, rfl, rfl, rfl, rfl, H0.out⟩
 case round =>
  obtain ⟨i, prev, last, st, hil, rfl, rfl, rfl, hst, hE⟩ := hrel
  have HE := Lib.hid hE; have Hil := Lib.hid hil; have Hst := Lib.hid hst
  clear hE hil hst H0
  by_cases hin : i < n
  ·obtain ⟨fs, hwr, he0, he1⟩ := HE.out
   obtain ⟨ad, x, rfl, hx, hcx⟩ := Hs.out.at2 hin hB (by obtain ⟨_, _, a2, _⟩ := hwr; exact a2) (HS.out (by omega))
   have Hx := Lib.hid hx
   have hxf := Lib.hid (Hz.out x (List.mem_of_getElem? hx))
   have Hdr := Lib.hid (drop_at hx)
   have hxu : IntKind.u64.wrap x = (un x : Int) := wrapU_un x
   have hul : Hid (Lt64 (un x)) := Lib.hid (un_lt x)
   clear hx
   by_cases hi0 : i = 0
   ·obtain ⟨rfl, rfl, rfl⟩ := he0 hi0
    subst hi0
    have Hwr := Lib.hid hwr
    have hcx0 : wr.cell? ad = some (.int .i64 x) := by rw [← add_zero' ad]; exact hcx
    clear hwr he0 he1 HE
    go_wp2_with fail
    refine (put_wrote w g row N len 64 [] (un x) _ _ _ rfl rfl (by omega) hul.out Hwr.out (by show len + 0 ≤ _; omega)).mono ?_
    rintro e w1 ⟨rfl, h1⟩
    have hd0 := Hdr.out
    rw [List.drop_zero] at hd0
    have H1 : Hid (Enc1 w w1 g row N len zs 1 x 0) := Lib.hid ⟨[(un x, 64)], h1, fun h => by omega, fun _ => by rw [hd0]; rfl⟩
    have Hst0 : Hid (st = sg 0) := Hst
    clear h1 hd0 Hwr
    go_wp2_with fail
    go_roundg (gk - 1)
    case measure => have := Hil.out; omega
    case rel => exact ⟨1, x, 0, st, by have := Hil.out; omega, rfl, rfl, rfl, Hst.out, H1.out⟩
   ·have hb0 : ((i : Int) == 0) = false := by simp; omega
    have hE1 := he1 (by omega)
    have Hwr := Lib.hid hwr
    have hch : wrap64 (wrap64 (x - prev) - st) = diffOf prev last x := by rw [Hst.out]; exact change_eq _ _ _
    have hsp : wrap64 (st + diffOf prev last x) = sg (stepOf prev x) := by rw [Hst.out]; exact step_eq _ _ _
    have HE1 := Lib.hid hE1
    have hdf := Lib.hid (next_of (prev := prev) (last := last) hxf.out).1
    obtain ⟨ch, hchv⟩ : ∃ ch, ch = diffOf prev last x := ⟨_, rfl⟩
    obtain ⟨st', hstv⟩ : ∃ st', st' = sg (stepOf prev x) := ⟨_, rfl⟩
    rw [← hchv] at hch hsp hdf
    rw [← hstv] at hsp
    have Hchv := Lib.hid hchv; have Hstv := Lib.hid hstv
    clear hwr he0 he1 HE hE1 hchv hstv
    have hl : Hid (len + flen fs ≤ 900000000) := Lib.hid (by have := Htot.out; rw [← HE1.out] at this; have := flen_le_app fs (encT prev last (zs.drop i)); omega)
    go_wp2_with fail
    refine (dput_wrote w g row N len fs ch _ hdf.out Hwr.out hl.out Hwid.out Hg.out Hr.out).mono ?_
    rintro e w1 ⟨rfl, h1⟩
    rw [Hchv.out] at h1
    have H1 : Hid (Enc1 w w1 g row N len zs (i + 1) x (stepOf prev x)) := Lib.hid ⟨_, h1, fun h => by omega, fun _ => by
     rw [← HE1.out, Hdr.out, List.append_assoc]; rfl⟩
    clear h1 Hwr
    go_wp2_with fail
    go_roundg (gk - 1)
    case measure => have := Hil.out; omega
    case rel => exact ⟨i + 1, x, stepOf prev x, st', by have := Hil.out; omega, by go_num, rfl, by rw [hsp], Hstv.out, H1.out⟩
  ·go_wp2_with fail
   go_end0
   refine ⟨rfl, ?_⟩
   obtain ⟨fs, hwr, he0, he1⟩ := HE.out
   have hil := Hil.out
   have hzl := Hzl.out
   rcases Nat.eq_zero_or_pos i with h0 | h0
   ·obtain ⟨rfl, _, _⟩ := he0 h0
    have : zs = [] := List.eq_nil_of_length_eq_zero (by omega)
    subst this
    exact hwr
   ·have := he1 h0
    rw [List.drop_of_length_le (by omega)] at this
    have e : fs = encRow zs := by rw [← this]; show fs = fs ++ []; simp
    rw [← e]
    exact hwr
end Go.Proofs.YthgoppmgapaajaaGreatDoor

/- Rows of times are read: Decode. -/
namespace Go.Proofs.YthgoppmgapaajaaGreatDoor
open Go.RowKit

theorem elt64 : Elt Tryz.prog 44 2 (.int .i64 0) 8 := Elt.mk Tryz.underlying44 (by kernel_rfl) rfl
def cellsI (xs : List Int) : List Value := xs.map fun x => Value.int .i64 x
theorem cellsI_length (xs : List Int) : (cellsI xs).length = xs.length := by simp [cellsI]
theorem cellsI_snoc (xs : List Int) (x : Int) : cellsI (xs ++ [x]) = cellsI xs ++ [.int .i64 x] := by simp [cellsI]
theorem cellsI_get (xs : List Int) (i : Nat) : (cellsI xs)[i]? = xs[i]?.map fun x => Value.int .i64 x := by simp [cellsI]
def DecEnd (w w' : World) (g row : Nat) (o : Option (List Int × Nat × Nat)) (e : Ending) : Prop :=
 match o with
 | some (xs, R, rem) => ∃ v, e = .returned (.tuple #[v, .bool true]) ∧ Own w.heap.size w' 2 v (cellsI xs) ∧ RdrO w' g row (some (R, rem)) ∧ Mod (fun i => i = g) w w'
 | none => e = .returned (.tuple #[.slice none 0 0, .bool false]) ∧ (∃ s, RdrO w' g row s) ∧ Mod (fun i => i = g) w w'
theorem own_form {B : Nat} {w : World} {v : Value} {xs : List Int} (h : Own B w 2 v (cellsI xs)) : ∃ A c, v = .slice A xs.length c ∧ Rds w w.heap.size A xs.length (cellsI xs) := by
 obtain ⟨A, c, e, _, _, _, hr⟩ := h.form
 rw [cellsI_length] at e hr
 exact ⟨A, c, e, hr⟩
theorem DecEnd.some_ {w w' : World} {g row : Nat} {xs : List Int} {R rem : Nat} {o : Option (List Int × Nat × Nat)} {e : Ending} (h : DecEnd w w' g row o e) (ho : o = some (xs, R, rem)) :
  ∃ v, e = .returned (.tuple #[v, .bool true]) ∧ Own w.heap.size w' 2 v (cellsI xs) ∧ RdrO w' g row (some (R, rem)) ∧ Mod (fun i => i = g) w w' := by
 rw [ho] at h
 exact h
theorem DecEnd.none_ {w w' : World} {g row : Nat} {o : Option (List Int × Nat × Nat)} {e : Ending} (h : DecEnd w w' g row o e) (ho : o = none) :
  e = .returned (.tuple #[.slice none 0 0, .bool false]) ∧ (∃ s, RdrO w' g row s) ∧ Mod (fun i => i = g) w w' := by
 rw [ho] at h
 exact h
def Dec1 (w wr : World) (g row k R rem i : Nat) (v : Value) (prev : Int) (last : Nat) (s : Option (Nat × Nat)) : Prop :=
 ∃ xs, Own w.heap.size wr 2 v (cellsI xs) ∧ RdrO wr g row s ∧ Mod (fun i => i = g) w wr ∧ xs.length = i ∧ last < M64 ∧ (i = 0 → xs = [] ∧ prev = 0 ∧ last = 0 ∧ s = some (R, rem)) ∧
  (0 < i → (s = none → rdRow k R rem = none) ∧ ∀ R' rem', s = some (R', rem') → rdRow k R rem = (rdTimes (k - i) prev last R' rem').map fun p => (xs ++ p.1, p.2))
theorem Dec1.mk {w w1 w2 : World} {g row k R rem i : Nat} {v2 : Value} {x : Int} {last' : Nat} {s' : Option (Nat × Nat)} {xs : List Int} (hgl : g < w.heap.size) (hrow : row < w.heap.size)
  (h1 : RdrO w1 g row s') (hm : Mod (fun i => i = g) w w1) (hown : Own w.heap.size w2 2 v2 (cellsI xs ++ [.int .i64 x])) (hb : Below w.heap.size w1 w2) (hxl : xs.length = i) (hl : last' < M64)
  (hn : (s' = none → rdRow k R rem = none) ∧ ∀ R' rem', s' = some (R', rem') → rdRow k R rem = (rdTimes (k - (i + 1)) x last' R' rem').map fun p => ((xs ++ [x]) ++ p.1, p.2)) :
  Dec1 w w2 g row k R rem (i + 1) v2 x last' s' := by
 refine ⟨xs ++ [x], ?_, h1.mod (Mod.of_below hb) (by omega) (fun _ => by omega), hm.trans (Mod.of_below hb) (fun i hi h => by omega), by simp [hxl], hl, fun h => by omega, fun _ => hn⟩
 rw [cellsI_snoc]
 exact hown
theorem rdRow_first {k R rem : Nat} (hk : 0 < k) : (getO 64 (some (R, rem))).2 = none → rdRow k R rem = none := by
 intro h
 obtain ⟨k, rfl⟩ : ∃ j, k = j + 1 := ⟨k - 1, by omega⟩
 rw [getO_take] at h
 show (match takeB 64 R rem with | none => none | some (u, R1, rem1) => (rdTimes k (sg u) 0 R1 rem1).map fun (p : List Int × Nat × Nat) => (sg u :: p.1, p.2)) = none
 cases ht : takeB 64 R rem with
 | none => rfl
 | some q => rw [ht] at h; cases h
theorem rdRow_first2 {k R rem R' rem' : Nat} (hk : 0 < k) (h : (getO 64 (some (R, rem))).2 = some (R', rem')) : rdRow k R rem = (rdTimes (k - 1) (sg (getO 64 (some (R, rem))).1) 0 R' rem').map fun p => (sg (getO 64 (some (R, rem))).1 :: p.1, p.2) := by
 obtain ⟨k, rfl⟩ : ∃ j, k = j + 1 := ⟨k - 1, by omega⟩
 rw [getO_take] at h ⊢
 show (match takeB 64 R rem with | none => none | some (u, R1, rem1) => (rdTimes k (sg u) 0 R1 rem1).map fun (p : List Int × Nat × Nat) => (sg u :: p.1, p.2)) = _
 cases ht : takeB 64 R rem with
 | none => rw [ht] at h; cases h
 | some q =>
  obtain ⟨u, R1, rem1⟩ := q
  rw [ht] at h
  have h2 : some (R1, rem1) = some (R', rem') := h
  injection h2 with h2
  injection h2 with h3 h4
  subst h3 h4
  rfl
/-- One difference more: read, or not. -/
theorem rdTimes_more {j R rem : Nat} {prev : Int} {last : Nat} : (∀ d R1 rem1, rdDiff R rem = some (d, R1, rem1) → rdTimes (j + 1) prev last R rem = (rdTimes j (nextX prev (nextL last d)) (nextL last d) R1 rem1).map fun p => (nextX prev (nextL last d) :: p.1, p.2)) ∧
  (rdDiff R rem = none → rdTimes (j + 1) prev last R rem = none) := by
 have e : rdTimes (j + 1) prev last R rem = match rdDiff R rem with | none => none | some (d, R1, rem1) => (rdTimes j (nextX prev (nextL last d)) (nextL last d) R1 rem1).map fun (p : List Int × Nat × Nat) => (nextX prev (nextL last d) :: p.1, p.2) := rfl
 refine ⟨fun d R1 rem1 h => ?_, fun h => ?_⟩
 ·rw [e, h]
 ·rw [e, h]
theorem nextL_lt (last : Nat) (d : Int) : nextL last d < M64 := Nat.mod_lt _ (by decide)
theorem add_step (last : Nat) (d : Int) : wrap64 (sg last + d) = sg (nextL last d) := by
 rw [wrap_sg]
 congr 1
 unfold nextL
 obtain ⟨b, hb⟩ := sg_ex last
 obtain ⟨c, hc⟩ := un_ex d
 have h1 : un (sg last + d) = un (((last + un d : Nat)) : Int) := un_of (k := b - c) (by rw [hb, Int.natCast_add, hc, Int.sub_mul]; omega)
 rw [h1]
 unfold un
 rw [← Int.natCast_emod, Int.toNat_natCast]
theorem add_prev (prev : Int) (last : Nat) : wrap64 (prev + sg last) = nextX prev last := by
 rw [wrap_sg]
 unfold nextX
 congr 1
 obtain ⟨b, hb⟩ := sg_ex last
 obtain ⟨c, hc⟩ := un_ex prev
 have h1 : un (prev + sg last) = un (((un prev + last : Nat)) : Int) := un_of (k := b - c) (by rw [hb, Int.natCast_add, hc, Int.sub_mul]; omega)
 rw [h1]
 show (((un prev + last : Nat) : Int) % (M64 : Int)).toNat = _
 rw [← Int.natCast_emod, Int.toNat_natCast]
set_option maxHeartbeats 1000000 in
theorem decode_any (g row R rem k : Nat) (n : Int) (w : World) (hk : max 0 (min n 65535) = (k : Int)) (hr : Rdr w g row R rem true) (hrem : rem ≤ 8000000) (hrow : row < w.heap.size) (hwid : Wid w) (hg : g ≠ 1) :
  Calls Tryz.prog 103 #[.pointer (some ⟨g, 0, none⟩), .int .i64 n] w fun e w' => DecEnd w w' g row (rdRow k R rem) e := by
 have H0 : Hid (Dec1 w w g row k R rem 0 (.slice none 0 0) 0 0 (some (R, rem))) := Lib.hid ⟨[], Own.nil _ _ _, ⟨hr, hrem⟩, Mod.refl _ _, rfl, by decide, fun _ => ⟨rfl, rfl, rfl, rfl⟩, fun h => by omega⟩
 have hgl := Lib.hid hr.lt
 have Hwid := Lib.hid hwid; have Hg := Lib.hid hg; have Hrow := Lib.hid hrow
 have hRs := Lib.hid hr.small
 obtain ⟨mn, hmn, hmn2⟩ : ∃ mn : Int, (if 65535 < n then (65535 : Int) else n) = mn ∧ mn = min n 65535 := ⟨_, rfl, by split <;> omega⟩
 have hmx : (if 0 < mn then mn else (0 : Int)) = (k : Int) := by split <;> omega
 have hk65 : k ≤ 65535 := by omega
 clear hr hrem hwid hg hrow hk hmn2
 go_enter Tryz.func103, Tryz.ntmps103
 go_wp2_with fail
 clear hmn hmx
 go_loopg [6, 7, 8, 15] k (fun l s6 s7 s8 s15 wr => ∃ (i : Nat) (prev st : Int) (last : Nat) (s : Option (Nat × Nat)), i + l = k ∧ s15 = .int .i64 (i : Int) ∧ s7 = .int .i64 prev ∧ s8 = .int .i64 st ∧ st = sg last ∧ Dec1 w wr g row k R rem i s6 prev last s)
 case atStart => exact ⟨0, 0, 0, 0, _, by omega, rfl, rfl, rfl, rfl, H0.out⟩
 case round =>
  obtain ⟨i, prev, st, last, s, hil, rfl, rfl, rfl, hst, hD⟩ := hrel
  have HD := Lib.hid hD; have Hil := Lib.hid hil; have Hst := Lib.hid hst
  clear hD hil hst H0
  obtain ⟨xs, hown, hro, hm, hxl, hl64, hi0, hi1⟩ := HD.out
  have Hro := Lib.hid hro; have Hm := Lib.hid hm; have Hown := Lib.hid hown; have Hxl := Lib.hid hxl
  have HwidR := Lib.hid (Hwid.out.mod hm (fun e => Hg.out e.symm))
  clear hown hro hm hxl
  by_cases hin : i < k
  ·by_cases h0 : i = 0
   ·obtain ⟨rfl, rfl, rfl, rfl⟩ := hi0 h0
    subst h0
    clear hi0 hi1
    go_wp2_with fail
    refine (get_o g row 64 64 _ _ rfl (by decide) Hro.out).mono ?_
    rintro e w1 ⟨rfl, h1, hm1⟩
    obtain ⟨u, hu⟩ : ∃ u, u = (getO 64 (some (R, rem))).1 := ⟨_, rfl⟩
    have hu64 : u < 2 ^ 64 := by rw [hu]; exact getO_lt hRs.out 64
    have hcv : wrap64 (u : Int) = sg u := by rw [wrap_sg, un_nat (by rw [M64_pow]; exact hu64)]
    have hN : Hid (((getO 64 (some (R, rem))).2 = none → rdRow k R rem = none) ∧ ∀ R' rem', (getO 64 (some (R, rem))).2 = some (R', rem') → rdRow k R rem = (rdTimes (k - (0 + 1)) (sg u) 0 R' rem').map fun p => (([] ++ [sg u]) ++ p.1, p.2)) :=
     Lib.hid ⟨rdRow_first hin, fun R' rem' h => by rw [hu]; exact rdRow_first2 hin h⟩
    rw [← hu]
    have Hown1 : Hid (Own w.heap.size w1 2 u6 (cellsI [])) := Lib.hid (hm1.owns Hown.out (fun k hk e => by have := (Hown.out.block k hk).1; have := hgl.out; omega))
    have H1 := Lib.hid h1; have Hm1 := Lib.hid (Hm.out.trans hm1 (fun _ _ h => h))
    have hsz := Hm1.out.size
    have hr1 : (cellsI []).length + 1 ≤ maxLen := by unfold maxLen; decide
    have hr2 : ((cellsI []).length + 1) * 8 ≤ 140737488355328 := by decide
    clear hu hu64 h1 hm1
    go_wp2_with (at_builtin; refine wpList_app1 rfl (.tmp 36) (.tmp 38) _ rfl elt64 rfl Hown1.out rfl rfl rfl hr1 hr2 hsz ?_; intro v' w2 HO HB)
    have HD2 : Hid (Dec1 w w2 g row k R rem (0 + 1) v' (sg u) 0 (getO 64 (some (R, rem))).2) := Lib.hid (Dec1.mk hgl.out Hrow.out H1.out Hm1.out HO.out HB.out rfl (by decide) hN.out)
    go_roundg (gk - 1)
    case measure => have := Hil.out; omega
    case rel => exact ⟨0 + 1, sg u, st, 0, _, by have := Hil.out; omega, rfl, rfl, rfl, Hst.out, HD2.out⟩
   ·have hb0 : ((i : Int) == 0) = false := by simp; omega
    have h1i := hi1 (by omega)
    have H1i := Lib.hid h1i
    clear hi0 hi1 h1i
    go_wp2_with fail
    refine (dget_o g row s _ Hro.out HwidR.out Hg.out).mono ?_
    rintro e w1 ⟨rfl, h1, hm1⟩
    have H1 := Lib.hid h1; have Hm1 := Lib.hid (Hm.out.trans hm1 (fun _ _ h => h))
    have Hown1 : Hid (Own w.heap.size w1 2 u6 (cellsI xs)) := Lib.hid (hm1.owns Hown.out (fun k hk e => by have := (Hown.out.block k hk).1; have := hgl.out; omega))
    clear h1 hm1
    cases hb : ((behindO s).isSome && decide (formO s = hd (diffO s))) with
    | false =>
     have hnone : Hid (rdRow k R rem = none) := Lib.hid (by
      cases s with
      | none => exact H1i.out.1 rfl
      | some p =>
       obtain ⟨R', rem'⟩ := p
       have e1 := H1i.out.2 R' rem' rfl
       obtain ⟨d1, d2⟩ := rdDiff_O R' rem'
       rw [e1]
       have : rdDiff R' rem' = none := by
        cases hd' : rdDiff R' rem' with
        | none => rfl
        | some q =>
         obtain ⟨d, R1, rem1⟩ := q
         obtain ⟨b1, b2, b3⟩ := d1 d R1 rem1 hd'
         rw [b2, b3, b1] at hb
         simp at hb
       obtain ⟨j, hj⟩ : ∃ j, k - i = j + 1 := ⟨k - i - 1, by omega⟩
       rw [hj, rdTimes_more.2 this]
       rfl)
     clear hb
     go_wp2_with fail
     go_ret2
     unfold DecEnd
     rw [hnone.out]
     exact ⟨rfl, ⟨_, H1.out⟩, Hm1.out⟩
    | true =>
     have hb1 : (behindO s).isSome = true := by revert hb; cases (behindO s).isSome <;> simp
     have hb2 : formO s = hd (diffO s) := by revert hb; cases (behindO s).isSome <;> simp
     have hadd1 : wrap64 (st + diffO s) = sg (nextL last (diffO s)) := by rw [Hst.out]; exact add_step _ _
     obtain ⟨st', hst'⟩ : ∃ st', st' = sg (nextL last (diffO s)) := ⟨_, rfl⟩
     have hadd2 : wrap64 (prev + st') = nextX prev (nextL last (diffO s)) := by rw [hst']; exact add_prev _ _
     rw [← hst'] at hadd1
     obtain ⟨x, hx⟩ : ∃ x, x = nextX prev (nextL last (diffO s)) := ⟨_, rfl⟩
     rw [← hx] at hadd2
     have Hst' := Lib.hid hst'
     have hN : Hid (((behindO s) = none → rdRow k R rem = none) ∧ ∀ R' rem', (behindO s) = some (R', rem') → rdRow k R rem = (rdTimes (k - (i + 1)) x (nextL last (diffO s)) R' rem').map fun p => ((xs ++ [x]) ++ p.1, p.2)) := Lib.hid (by
      refine ⟨fun h => (by rw [h] at hb1; cases hb1), fun R1 rem1 h => ?_⟩
      cases s with
      | none => cases h
      | some p =>
       obtain ⟨R', rem'⟩ := p
       have e1 := H1i.out.2 R' rem' rfl
       obtain ⟨d1, d2⟩ := rdDiff_O R' rem'
       cases hd' : rdDiff R' rem' with
       | none =>
        rcases d2 hd' with h2 | h2
        ·rw [h2] at hb1; cases hb1
        ·exact absurd hb2 h2
       | some q =>
        obtain ⟨d, R2, rem2⟩ := q
        obtain ⟨c1, c2, c3⟩ := d1 d R2 rem2 hd'
        rw [c2] at h
        injection h with h
        injection h with h3 h4
        subst h3 h4
        obtain ⟨j, hj⟩ : ∃ j, k - i = j + 1 := ⟨k - i - 1, by omega⟩
        rw [e1, hj, rdTimes_more.1 d R2 rem2 hd', hx, c1, show k - (i + 1) = j by omega, Option.map_map]
        congr 1
        funext p
        simp)
     have hsz := Hm1.out.size
     have hr1 : (cellsI xs).length + 1 ≤ maxLen := by rw [cellsI_length, Hxl.out]; unfold maxLen; omega
     have hr2 : ((cellsI xs).length + 1) * 8 ≤ 140737488355328 := by rw [cellsI_length, Hxl.out]; omega
     clear hb hb1 hb2 hst' hx
     go_wp2_with (at_builtin; refine wpList_app1 rfl (.tmp 36) (.tmp 38) _ rfl elt64 rfl Hown1.out rfl rfl rfl hr1 hr2 hsz ?_; intro v' w2 HO HB)
     have HD2 : Hid (Dec1 w w2 g row k R rem (i + 1) v' x (nextL last (diffO s)) (behindO s)) := Lib.hid (Dec1.mk hgl.out Hrow.out H1.out Hm1.out HO.out HB.out Hxl.out (nextL_lt _ _) hN.out)
     go_roundg (gk - 1)
     case measure => have := Hil.out; omega
     case rel => exact ⟨i + 1, x, st', nextL last (diffO s), _, by have := Hil.out; omega, by go_num, rfl, rfl, Hst'.out, HD2.out⟩
  ·have hik : i = k := by have := Hil.out; omega
   have Hres : Hid ((s = none → rdRow k R rem = none) ∧ ∀ R' rem', s = some (R', rem') → rdRow k R rem = some (xs, R', rem')) := Lib.hid (by
    rcases Nat.eq_zero_or_pos i with h0 | h0
    ·obtain ⟨b1, b2, b3, b4⟩ := hi0 h0
     subst b1 b4
     have hk0 : k = 0 := by omega
     subst hk0
     refine ⟨fun h => (by cases h), fun R' rem' h => ?_⟩
     injection h with h
     injection h with h3 h4
     subst h3 h4
     rfl
    ·obtain ⟨b1, b2⟩ := hi1 h0
     refine ⟨b1, fun R' rem' h => ?_⟩
     rw [b2 R' rem' h, hik, Nat.sub_self]
     show some (xs ++ [], R', rem') = _
     rw [List.append_nil])
   clear hi0 hi1 hik
   go_wp2_with fail
   refine (ok_o g row s _ Hro.out).mono ?_
   rintro e w1 ⟨rfl, rfl⟩
   have hres1 : s = none → Hid (rdRow k R rem = none) := fun h => Lib.hid (Hres.out.1 h)
   cases s with
   | none =>
    have hres2 := hres1 rfl
    clear Hres hres1
    go_wp2_with fail
    go_ret2
    unfold DecEnd
    rw [hres2.out]
    exact ⟨rfl, ⟨_, Hro.out⟩, Hm.out⟩
   | some p =>
    obtain ⟨R', rem'⟩ := p
    have hres2 : Hid (rdRow k R rem = some (xs, R', rem')) := Lib.hid (Hres.out.2 R' rem' rfl)
    clear Hres hres1
    go_wp2_with fail
    go_ret2
    unfold DecEnd
    rw [hres2.out]
    exact ⟨_, rfl, Hown.out, Hro.out, Hm.out⟩
end Go.Proofs.YthgoppmgapaajaaGreatDoor

/- A row of samples as its times and its values: parted; and joined again. -/
namespace Go.Proofs.YthgoppmgapaajaaGreatDoor
open Go.RowKit

theorem Own.at_set {B g n cap k : Nat} {w : World} {e : TypeId} {xs : List Value} (h : Own B w e (.slice (some ⟨g, 0, none⟩) n cap) xs) (hn : n = xs.length) (hk : k < n) (u : Value) :
  (∃ u, w.cell? ⟨g, k, none⟩ = some u) ∧ w.frozen? ⟨g, k, none⟩ = false ∧ Own B (w.setCell ⟨g, k, none⟩ u) e (.slice (some ⟨g, 0, none⟩) n cap) (xs.set k u) := by
 have h' : w.ownsRow B e 1 (.slice (some ⟨g, 0, none⟩) n cap) n xs := by have := h; unfold Own at this; rwa [← hn] at this
 refine ⟨⟨xs[k]'(by omega), ?_⟩, h'.frozenAt k, ?_⟩
 ·rw [h'.cellAt k (by omega), List.getElem?_eq_getElem (by omega)]
 ·have h2 := (h'.stored k u).1
  unfold Own
  rw [List.length_set, ← hn]
  exact h2
theorem Own.other {B g n cap : Nat} {w : World} {e : TypeId} {xs : List Value} (h : Own B w e (.slice (some ⟨g, 0, none⟩) n cap) xs) {p : Addr} (hp : p.block ≠ g) (u : Value) : Own B (w.setCell p u) e (.slice (some ⟨g, 0, none⟩) n cap) xs :=
 ((Mod.refl (fun i => i = p.block) w).setCell (fun _ => rfl) u).owns h (fun k hk e' => by
  have : g = k := by simpa [Value.ownBlock] using hk
  exact hp (by rw [← e', this]))
theorem Rds.seesI {w : World} {B n : Nat} {A : Option Addr} {zs : List Int} (h : Rds w B A n (cellsI zs)) : SeesI .i64 w B A n zs := by
 have h1 := h.1
 rw [cellsI_length] at h1
 refine ⟨h1, fun hn => ?_⟩
 obtain ⟨ad, e, hb, hc⟩ := h.2 hn
 exact ⟨ad, e, hb, fun j u hu => hc j _ (by rw [cellsI_get, hu]; rfl)⟩
theorem SeesI.rds {w : World} {B n : Nat} {A : Option Addr} {zs : List Int} (h : SeesI .i64 w B A n zs) : Rds w B A n (cellsI zs) := by
 refine ⟨by rw [cellsI_length]; exact h.1, fun hn => ?_⟩
 obtain ⟨ad, e, hb, hc⟩ := h.2 hn
 refine ⟨ad, e, hb, fun j u hu => ?_⟩
 rw [cellsI_get] at hu
 cases hz : zs[j]? with
 | none => rw [hz] at hu; cases hu
 | some z =>
  rw [hz] at hu
  have : u = .int .i64 z := by simpa using hu.symm
  rw [this]
  exact hc j z hz
/-- The first i times and values are laid. -/
def PartTo (w wr : World) (l : List (Int × Nat)) (n g1 g2 i : Nat) : Prop :=
 ∃ (ts : List Int) (us : List Nat), Own w.heap.size wr 2 (.slice (some ⟨g1, 0, none⟩) n n) (cellsI ts) ∧ Own w.heap.size wr 34 (.slice (some ⟨g2, 0, none⟩) n n) (cellsU us) ∧
  ts.length = n ∧ us.length = n ∧ (∀ j, j < i → ts[j]? = (tsOf l)[j]?) ∧ (∀ j, j < i → us[j]? = (vsOf l)[j]?) ∧ Mod (fun _ => False) w wr
theorem mod_new {w wr : World} {p : Addr} (h : Mod (fun _ => False) w wr) (hp : w.heap.size ≤ p.block) (u : Value) : Mod (fun _ => False) w (wr.setCell p u) := h.setCell (fun hlt => by omega) u
theorem PartTo.step {w wr : World} {l : List (Int × Nat)} {n g1 g2 i : Nat} {T : Int} {V : Nat} (h : PartTo w wr l n g1 g2 i) (hg : g1 ≠ g2) (hi : i < n) (hp : l[i]? = some (T, V)) {W : World} (hW : ∃ o, W = wr.alloc o) :
  (∃ u, W.cell? ⟨g1, i, none⟩ = some u) ∧ (∃ u, W.cell? ⟨g2, i, none⟩ = some u) ∧ W.frozen? ⟨g1, i, none⟩ = false ∧ W.frozen? ⟨g2, i, none⟩ = false ∧ g1 < wr.heap.size ∧ g2 < wr.heap.size ∧
   PartTo w ((W.setCell ⟨g1, i, none⟩ (.int .i64 T)).setCell ⟨g2, i, none⟩ (.int .u64 (V : Int))) l n g1 g2 (i + 1) := by
 obtain ⟨ts, us, h1, h2, h3, h4, h5, h6, hm⟩ := h
 obtain ⟨o, rfl⟩ := hW
 have k1 := h1.alloc o
 have k2 := h2.alloc o
 have b1 := (h1.block g1 (by simp [Value.ownBlock]))
 have b2 := (h2.block g2 (by simp [Value.ownBlock]))
 obtain ⟨a1, a2, a3⟩ := k1.at_set (k := i) (by rw [cellsI_length, h3]) hi (.int .i64 T)
 obtain ⟨c1, c2, _⟩ := k2.at_set (k := i) (by rw [cellsU_length, h4]) hi (.int .u64 (V : Int))
 refine ⟨a1, c1, a2, c2, b1.2, b2.2, ⟨ts.set i T, us.set i V, ?_, ?_, by rw [List.length_set]; exact h3, by rw [List.length_set]; exact h4, ?_, ?_, ?_⟩⟩
 ·have e : cellsI (ts.set i T) = (cellsI ts).set i (.int .i64 T) := by simp [cellsI, List.map_set]
  rw [e]
  have a4 : Own w.heap.size ((wr.alloc o).setCell ⟨g1, i, none⟩ (.int .i64 T)) 2 (.slice (some ⟨g1, 0, none⟩) n n) ((cellsI ts).set i (.int .i64 T)) := a3
  exact a4.other (p := ⟨g2, i, none⟩) (fun e => hg e.symm) _
 ·have e : cellsU (us.set i V) = (cellsU us).set i (.int .u64 (V : Int)) := by simp [cellsU, List.map_set]
  rw [e]
  have k3 : Own w.heap.size ((wr.alloc o).setCell ⟨g1, i, none⟩ (.int .i64 T)) 34 (.slice (some ⟨g2, 0, none⟩) n n) (cellsU us) := k2.other (p := ⟨g1, i, none⟩) hg _
  exact (k3.at_set (k := i) (by rw [cellsU_length, h4]) hi (.int .u64 (V : Int))).2.2
 ·intro j hj
  rcases Nat.lt_or_ge j i with h | h
  ·rw [List.getElem?_set_ne (by omega)]
   exact h5 j h
  ·obtain rfl : j = i := by omega
   rw [List.getElem?_set_self (by omega), ts_get hp]
 ·intro j hj
  rcases Nat.lt_or_ge j i with h | h
  ·rw [List.getElem?_set_ne (by omega)]
   exact h6 j h
  ·obtain rfl : j = i := by omega
   rw [List.getElem?_set_self (by omega), vs_get hp]
 ·exact mod_new (mod_new (hm.alloc o) b1.1 _) b2.1 _
theorem PartTo.drew {w wr : World} {l : List (Int × Nat)} {n g1 g2 i : Nat} (h : PartTo w wr l n g1 g2 i) : PartTo w wr.drew l n g1 g2 i := by
 obtain ⟨ts, us, h1, h2, h3, h4, h5, h6, hm⟩ := h
 exact ⟨ts, us, h1, h2, h3, h4, h5, h6, hm.drew⟩
theorem PartTo.done {w wr : World} {l : List (Int × Nat)} {n g1 g2 : Nat} (h : PartTo w wr l n g1 g2 n) (hl : l.length = n) :
  Rds wr wr.heap.size (some ⟨g1, 0, none⟩) n (cellsI (tsOf l)) ∧ Rds wr wr.heap.size (some ⟨g2, 0, none⟩) n (cellsU (vsOf l)) ∧ w.heap.size ≤ g1 ∧ w.heap.size ≤ g2 ∧ Mod (fun _ => False) w wr := by
 obtain ⟨ts, us, h1, h2, h3, h4, h5, h6, hm⟩ := h
 have e1 : ts = tsOf l := List.ext_getElem? fun j => by
  rcases Nat.lt_or_ge j n with h | h
  ·exact h5 j h
  ·rw [List.getElem?_eq_none (by omega), List.getElem?_eq_none (by rw [tsOf_len]; omega)]
 have e2 : us = vsOf l := List.ext_getElem? fun j => by
  rcases Nat.lt_or_ge j n with h | h
  ·exact h6 j h
  ·rw [List.getElem?_eq_none (by omega), List.getElem?_eq_none (by rw [vsOf_len]; omega)]
 subst e1 e2
 have b1 := (h1.block g1 (by simp [Value.ownBlock]))
 have b2 := (h2.block g2 (by simp [Value.ownBlock]))
 have r1 := h1.form
 have r2 := h2.form
 obtain ⟨A, c, e, _, _, _, r⟩ := r1
 obtain ⟨A', c', e', _, _, _, r'⟩ := r2
 injection e with x1 x2 x3
 injection e' with y1 y2 y3
 subst x1 y1
 rw [← x2] at r
 rw [← y2] at r'
 exact ⟨r, r', b1.1, b2.1, hm⟩
set_option maxHeartbeats 2000000 in
set_option maxRecDepth 100000 in
theorem parted_any (A : Option Addr) (n c : Nat) (l : List (Int × Nat)) (w : World) (hs : RdsS w w.heap.size A n l) (hn : n ≤ 1000000) :
  Calls Tryz.prog 57 #[.slice A n c] w fun e w' => ∃ g1 g2, e = .returned (.tuple #[.slice (some ⟨g1, 0, none⟩) n n, .slice (some ⟨g2, 0, none⟩) n n]) ∧
   Rds w' w'.heap.size (some ⟨g1, 0, none⟩) n (cellsI (tsOf l)) ∧ Rds w' w'.heap.size (some ⟨g2, 0, none⟩) n (cellsU (vsOf l)) ∧ w.heap.size ≤ g1 ∧ w.heap.size ≤ g2 ∧ Mod (fun _ => False) w w' := by
 have Hs := Lib.hid hs; have Hl := Lib.hid hs.1
 have hcs : Tryz.prog.cellsOf 36 = 2 := by kernel_rfl
 have hm1 : n ≤ maxLen := by unfold maxLen; omega
 have hb1 : 8 * n ≤ 281474976710656 := by omega
 clear hs
 go_enter Tryz.func57, Tryz.ntmps57
 go_wp2_with (first
  | (refine wpList_mk rfl _ _ _ rfl elt64 rfl rfl rfl rfl rfl (Nat.le_refl _) hb1 hm1 ?_; intro w1 HO1 HB1)
  | (refine wpList_mk rfl _ _ _ rfl eltU rfl rfl rfl rfl rfl (Nat.le_refl _) hb1 hm1 ?_; intro w2 HO2 HB2))
 have hlt01 := HB1.out.size
 have hlt12 := HB2.out.size
 obtain ⟨g1, hg1⟩ : ∃ g1, g1 = w.heap.size := ⟨_, rfl⟩
 obtain ⟨g2, hg2⟩ : ∃ g2, g2 = w1.heap.size := ⟨_, rfl⟩
 have hne : g1 ≠ g2 := by
  have := (HO1.out.block w.heap.size (by simp [Value.ownBlock])).2
  omega
 have H0 : Hid (PartTo w w2 l n g1 g2 0) := Lib.hid ⟨List.replicate n 0, List.replicate n 0, by
   have := HO1.out.below HB2.out
   rw [hg1]
   simpa [cellsI] using this, by
   have := HO2.out.mono hlt01
   rw [hg2]
   simpa [cellsU] using this, List.length_replicate .., List.length_replicate .., (fun j h => by omega), (fun j h => by omega), (mod_below HB1.out).trans (mod_below HB2.out) (fun _ _ h => h)⟩
 rw [← hg1, ← hg2]
 have Hg1 := Lib.hid hg1; have Hg2 := Lib.hid hg2
 clear HO1 HB1 HO2 HB2 hlt01 hlt12 hg1 hg2 hm1 hb1
 go_loopg [16] n (fun k s16 wr => ∃ i : Nat, i + k = n ∧ s16 = .int .i64 (i : Int) ∧ PartTo w wr l n g1 g2 i)
 case atStart => exact ⟨0, by omega, rfl, H0.out⟩
 case round =>
  obtain ⟨i, hik, rfl, hP⟩ := hrel
  have Hik := Lib.hid hik; have HP := Lib.hid hP
  clear hik hP H0
  by_cases hin : i < n
  ·have hm : Mod (fun _ => False) w wr := by obtain ⟨_, _, _, _, _, _, _, _, hm⟩ := HP.out; exact hm
   obtain ⟨ad, ⟨T, V⟩, rfl, _, hp, hc0, hc1⟩ := Hs.out.at2 hin (Nat.le_refl _) hm (fun _ _ h => h)
   have hc1' := cell_whole hc1
   obtain ⟨W, hW⟩ : ∃ W, W = wr.alloc (.cells #[.int .i64 T, .int .u64 (V : Int)] 36) := ⟨_, rfl⟩
   obtain ⟨⟨u1, hu1⟩, ⟨u2, hu2⟩, hf1, hf2, hl1, hl2, hN⟩ := HP.out.step hne hin hp ⟨_, hW⟩
   obtain ⟨gs, hgs⟩ : ∃ gs, gs = wr.heap.size := ⟨_, rfl⟩
   have hs0 : W.cell? ⟨gs, 0, none⟩ = some (.int .i64 T) := by rw [hW, hgs]; exact (Blk.new wr _ _).cell 0
   have hs1 : W.cell? ⟨gs, 1, none⟩ = some (.int .u64 (V : Int)) := by rw [hW, hgs]; exact (Blk.new wr _ _).cell 1
   have hn1 : ¬ g1 = gs := by omega
   have hn2 : ¬ g2 = gs := by omega
   have HN := Lib.hid hN; have HW := Lib.hid hW; have Hp := Lib.hid hp; have Hm := Lib.hid hm; have Hgs := Lib.hid hgs
   clear hN hW hp hm hl1 hl2 hgs
   go_upto_region 6 with fail
   rw [← HW.out, ← Hgs.out]
   clear hc0 hc1 hc1'
   go_region
   go_wp2_with fail
   go_roundg (gk - 1)
   case measure => have := Hik.out; omega
   case rel => exact ⟨i + 1, by have := Hik.out; omega, by go_num, HN.out.drew⟩
  ·have hi : i = n := by have := Hik.out; omega
   have hP := HP.out
   rw [hi] at hP
   obtain ⟨h1, h2, h3, h4, hm⟩ := hP.done Hl.out
   have X := Lib.hid (And.intro h1 (And.intro h2 (And.intro h3 (And.intro h4 hm))))
   clear h1 h2 h3 h4 hm hi hP
   go_wp2_with fail
   go_ret2
   exact ⟨g1, g2, rfl, X.out⟩
/-- The first i samples are laid. -/
def JoinTo (w wr : World) (ts : List Int) (us : List Nat) (n g i : Nat) : Prop :=
 ∃ l : List (Int × Nat), OwnS w.heap.size wr (.slice (some ⟨g, 0, none⟩) n n) l ∧ l.length = n ∧ (∀ j, j < i → l[j]? = (ts.zip us)[j]?) ∧ Mod (fun _ => False) w wr
theorem JoinTo.step {w wr : World} {ts : List Int} {us : List Nat} {n g i : Nat} {T : Int} {V : Nat} (h : JoinTo w wr ts us n g i) (hi : i < n) (h1 : ts[i]? = some T) (h2 : us[i]? = some V) :
  (∃ u, wr.cell? ⟨g, i * 2, none⟩ = some u) ∧ (∃ u, wr.cell? ⟨g, i * 2 + 1, none⟩ = some u) ∧ wr.frozen? ⟨g, i * 2, none⟩ = false ∧ wr.frozen? ⟨g, i * 2 + 1, none⟩ = false ∧ w.heap.size ≤ g ∧ g < wr.heap.size ∧
   JoinTo w ((wr.setCell ⟨g, i * 2, none⟩ (.int .i64 T)).setCell ⟨g, i * 2 + 1, none⟩ (.int .u64 (V : Int))) ts us n g (i + 1) := by
 obtain ⟨l, k1, k2, k3, hm⟩ := h
 have b1 := k1.block g (by simp [Value.ownBlock])
 obtain ⟨a1, a2, a3, a4, a5⟩ := k1.set_ (k := i) k2.symm hi (T, V)
 refine ⟨a1, a2, a3, a4, b1.1, b1.2, l.set i (T, V), a5, by rw [List.length_set]; exact k2, ?_, mod_new (mod_new hm b1.1 _) b1.1 _⟩
 intro j hj
 rcases Nat.lt_or_ge j i with h | h
 ·rw [List.getElem?_set_ne (by omega)]
  exact k3 j h
 ·obtain rfl : j = i := by omega
  rw [List.getElem?_set_self (by omega), (List.getElem?_zip_eq_some (z := (T, V))).2 ⟨h1, h2⟩]
theorem JoinTo.drew {w wr : World} {ts : List Int} {us : List Nat} {n g i : Nat} (h : JoinTo w wr ts us n g i) : JoinTo w wr.drew ts us n g i := by
 obtain ⟨l, h1, h2, h3, hm⟩ := h
 exact ⟨l, h1, h2, h3, hm.drew⟩
theorem JoinTo.done {w wr : World} {ts : List Int} {us : List Nat} {n g : Nat} (h : JoinTo w wr ts us n g n) (h1 : ts.length = n) (h2 : us.length = n) :
  OwnS w.heap.size wr (.slice (some ⟨g, 0, none⟩) n n) (ts.zip us) ∧ Mod (fun _ => False) w wr := by
 obtain ⟨l, k1, k2, k3, hm⟩ := h
 have e1 : l = ts.zip us := List.ext_getElem? fun j => by
  rcases Nat.lt_or_ge j n with h | h
  ·exact k3 j h
  ·rw [List.getElem?_eq_none (by omega), List.getElem?_eq_none (by rw [List.length_zip]; omega)]
 subst e1
 exact ⟨k1, hm⟩
set_option maxHeartbeats 2000000 in
set_option maxRecDepth 100000 in
theorem joined_any (A1 A2 : Option Addr) (n c1 c2 : Nat) (ts : List Int) (us : List Nat) (w : World) (hs1 : Rds w w.heap.size A1 n (cellsI ts)) (hs2 : Rds w w.heap.size A2 n (cellsU us)) (hn : n ≤ 1000000) :
  Calls Tryz.prog 90 #[.slice A1 n c1, .slice A2 n c2] w fun e w' => ∃ v, e = .returned v ∧ OwnS w.heap.size w' v (ts.zip us) ∧ Mod (fun _ => False) w w' := by
 have hl1 := hs1.1
 rw [cellsI_length] at hl1
 have hl2 := hs2.1
 rw [cellsU_length] at hl2
 have Hs1 := Lib.hid hs1; have Hs2 := Lib.hid hs2; have Hl1 := Lib.hid hl1; have Hl2 := Lib.hid hl2
 have hcs : Tryz.prog.cellsOf 36 = 2 := by kernel_rfl
 clear hs1 hs2 hl1 hl2
 go_enter Tryz.func90, Tryz.ntmps90
 go_wp2_with (refine wpList_mkS rfl _ _ rfl rfl rfl rfl rfl hn ?_; intro w1 HO1 HB1)
 obtain ⟨g, hg⟩ : ∃ g, g = w.heap.size := ⟨_, rfl⟩
 have H0 : Hid (JoinTo w w1 ts us n g 0) := Lib.hid ⟨List.replicate n (0, 0), by rw [hg]; exact HO1.out, List.length_replicate .., (fun j h => by omega), mod_below HB1.out⟩
 rw [← hg]
 have Hg := Lib.hid hg
 clear HO1 HB1 hg
 go_loopg [12] n (fun k s12 wr => ∃ i : Nat, i + k = n ∧ s12 = .int .i64 (i : Int) ∧ JoinTo w wr ts us n g i)
 case atStart => exact ⟨0, by omega, rfl, H0.out⟩
 case round =>
  obtain ⟨i, hik, rfl, hP⟩ := hrel
  have Hik := Lib.hid hik; have HP := Lib.hid hP
  clear hik hP H0
  by_cases hin : i < n
  ·have hm : Mod (fun _ => False) w wr := by obtain ⟨_, _, _, _, hm⟩ := HP.out; exact hm
   obtain ⟨ad1, T, rfl, hT, hc1⟩ := Hs1.out.seesI.at_ hin (Nat.le_refl _) hm (fun _ _ h => h)
   obtain ⟨ad2, V, rfl, hV, hc2⟩ := Hs2.out.at2 hin (Nat.le_refl _) hm (fun _ _ h => h)
   obtain ⟨⟨u1, hu1⟩, ⟨u2, hu2⟩, hf1, hf2, hl1, hl2, hN⟩ := HP.out.step hin hT hV
   have HN := Lib.hid hN; have Hm := Lib.hid hm
   clear hN hm hT hV hl1 hl2
   go_upto_region 5 with fail
   go_region
   go_wp2_with fail
   go_roundg (gk - 1)
   case measure => have := Hik.out; omega
   case rel => exact ⟨i + 1, by have := Hik.out; omega, by go_num, HN.out.drew⟩
  ·have hi : i = n := by have := Hik.out; omega
   have hP := HP.out
   rw [hi] at hP
   obtain ⟨h1, hm⟩ := hP.done Hl1.out Hl2.out
   have X := Lib.hid (And.intro h1 hm)
   clear h1 hm hi hP
   go_wp2_with fail
   go_ret
   exact ⟨_, rfl, X.out⟩
end Go.Proofs.YthgoppmgapaajaaGreatDoor

/- Chunks, of the code: getHead. -/
namespace Go.Proofs.YthgoppmgapaajaaGreatDoor
open Go.RowKit

def uAt (bs : List Nat) (i j : Nat) : Nat := if j < i then hx bs j else 0
/-- The numbers as far as they are read. -/
def uTo (bs : List Nat) (i : Nat) : Array Value := #[.int .u64 (uAt bs i 0 : Int), .int .u64 (uAt bs i 1 : Int), .int .u64 (uAt bs i 2 : Int)]
theorem uTo_set (bs : List Nat) {i : Nat} (h : i < 3) : (uTo bs i).setIfInBounds i (.int .u64 (hx bs i : Int)) = uTo bs (i + 1) := by
 have : i = 0 ∨ i = 1 ∨ i = 2 := by omega
 rcases this with rfl | rfl | rfl <;> simp [uTo, uAt]
theorem uTo_all (bs : List Nat) : uTo bs 3 = #[.int .u64 (hx bs 0 : Int), .int .u64 (hx bs 1 : Int), .int .u64 (hx bs 2 : Int)] := by simp [uTo, uAt]
theorem uTo_get (bs : List Nat) {i : Nat} (h : i < 3) : ∃ v, (uTo bs i)[i]? = some v := by
 have : i = 0 ∨ i = 1 ∨ i = 2 := by omega
 rcases this with rfl | rfl | rfl <;> simp [uTo]
/-- A head is read as far as its i-th number. -/
def HeadTo (w wr : World) (bs : List Nat) (n i : Nat) (s6 : Value) : Prop :=
 ∃ (Ab : Option Addr) (nb cb : Nat), s6 = .slice Ab nb cb ∧ nb + hp bs i = n ∧ nb ≤ cb ∧ cb ≤ maxLen ∧ Rds wr w.heap.size Ab nb (cells8 (bs.drop (hp bs i))) ∧ (∀ j, j < i → hq bs j ≠ 0) ∧
  Blk wr w.heap.size 75 #[.int .i64 0, .int .i64 0, .int .i64 0, .int .i64 0] ∧ Blk wr (w.heap.size + 1) 101 (uTo bs i) ∧ Mod (fun _ => False) w wr
set_option maxHeartbeats 1000000 in
set_option maxRecDepth 100000 in
theorem getHead_nil (A : Option Addr) (c : Nat) (w : World) :
  Calls Tryz.prog 44 #[.slice A 0 c] w fun e w' => e = .returned (.tuple #[.agg #[.int .i64 0, .int .i64 0, .int .i64 0, .int .i64 0], .slice none 0 0, .bool false]) ∧ Mod (fun _ => False) w w' := by
 obtain ⟨W, hW⟩ : ∃ W, W = w.alloc (.cells #[.int .i64 0, .int .i64 0, .int .i64 0, .int .i64 0] 75) := ⟨_, rfl⟩
 have hmW : Mod (fun _ => False) w W := by rw [hW]; exact (Mod.refl _ _).alloc _
 have hbW : Blk W w.heap.size 75 #[.int .i64 0, .int .i64 0, .int .i64 0, .int .i64 0] := by rw [hW]; exact Blk.new _ _ _
 have HW := Lib.hid hW; have HmW := Lib.hid hmW; have HbW := Lib.hid hbW
 have hb0 := hbW.cell 0
 have hb1 := hbW.cell 1
 have hb2 := hbW.cell 2
 have hb3 := hbW.cell 3
 have hf0 := hbW.frozen 0
 have hf1 := hbW.frozen 1
 have hf2 := hbW.frozen 2
 have hf3 := hbW.frozen 3
 simp at hb0 hb1 hb2 hb3
 clear hW hmW hbW
 go_enter Tryz.func44, Tryz.ntmps44
 go_upto_region 1 with fail
 rw [← HW.out]
 go_wp2_with fail
 refine bodyPost_ret (v := .tuple #[.agg #[.int .i64 0, .int .i64 0, .int .i64 0, .int .i64 0], .slice none 0 0, .bool false]) (by have h := HbW.out.four (.int .i64 0) (.int .i64 0) (.int .i64 0) (.int .i64 0); simp [results, Tryz.results44, go_sem, h.1, h.2.1, h.2.2.1, h.2.2.2.1]) rfl ⟨rfl, ?_⟩
 exact HmW.out.four_new (Nat.le_refl _) _ _ _ _
/-- What getHead answers. -/
def HeadEnd (w w' : World) (bs : List Nat) (n : Nat) (e : Ending) : Prop :=
 match hdC bs with
 | some (h, k) => ∃ (A : Option Addr) (L c : Nat), L + k = n ∧ L ≤ c ∧ c ≤ maxLen ∧ e = .returned (.tuple #[.agg #[.int .i64 (h.1 : Int), .int .i64 (h.2.1 : Int), .int .i64 h.2.2.1, .int .i64 h.2.2.2], .slice A L c, .bool true]) ∧ Rds w' w.heap.size A L (cells8 (bs.drop k)) ∧ Mod (fun _ => False) w w'
 | none => e = .returned (.tuple #[.agg #[.int .i64 0, .int .i64 0, .int .i64 0, .int .i64 0], .slice none 0 0, .bool false]) ∧ Mod (fun _ => False) w w'
theorem HeadEnd.of_none {w w' : World} {bs : List Nat} {n : Nat} (h : hdC bs = none) (hm : Mod (fun _ => False) w w') : HeadEnd w w' bs n (.returned (.tuple #[.agg #[.int .i64 0, .int .i64 0, .int .i64 0, .int .i64 0], .slice none 0 0, .bool false])) := by
 unfold HeadEnd
 rw [h]
 exact ⟨rfl, hm⟩
set_option maxHeartbeats 2000000 in
set_option maxRecDepth 100000 in
theorem getHead_any (A : Option Addr) (n c : Nat) (bs : List Nat) (w : World) (hs : Rds w w.heap.size A n (cells8 bs)) (hlt : lt256 bs) (hnc : n ≤ c) (hcm : c ≤ maxLen) :
  Calls Tryz.prog 44 #[.slice A n c] w fun e w' => HeadEnd w w' bs n e := by
 have hlen : bs.length = n := by have := hs.1; rwa [cells8_length] at this
 by_cases h0 : n = 0
 ·subst h0
  have hb : bs = [] := List.length_eq_zero_iff.1 hlen
  refine (getHead_nil A c w).mono ?_
  rintro e w' ⟨rfl, hm⟩
  exact HeadEnd.of_none (by rw [hb]; rfl) hm
 ·obtain ⟨ad, t, rfl, hbt, htl, hcell⟩ := byte_at hs hlt (show 0 < n by omega)
  have ead : ad.add 0 = ad := by simp [Addr.add]
  rw [ead] at hcell
  have hb0 : ((n : Int) == 0) = false := by simp; omega
  obtain ⟨W, hW⟩ : ∃ W, W = (w.alloc (.cells #[.int .i64 0, .int .i64 0, .int .i64 0, .int .i64 0] 75)).alloc (.cells #[.int .u64 0, .int .u64 0, .int .u64 0] 101) := ⟨_, rfl⟩
  have h1n : (1 : Int) ≤ (n : Int) := by omega
  have h1c : (1 : Int) ≤ (c : Int) := by omega
  have hmW : Mod (fun _ => False) w W := by rw [hW]; exact ((Mod.refl _ _).alloc _).alloc _
  have hbH : Blk W w.heap.size 75 #[.int .i64 0, .int .i64 0, .int .i64 0, .int .i64 0] := by rw [hW]; exact (Blk.new _ _ _).alloc _
  have hbU : Blk W (w.heap.size + 1) 101 #[.int .u64 0, .int .u64 0, .int .u64 0] := by
   rw [hW]
   have h := Blk.new (w.alloc (.cells #[.int .i64 0, .int .i64 0, .int .i64 0, .int .i64 0] 75)) 101 #[.int .u64 0, .int .u64 0, .int .u64 0]
   simpa using h
  have hd := (hs.mod hmW (Nat.le_refl _) (fun _ _ h => h)).drop (k := 1) (cap := c) (by omega) hnc
  have hcd : (cells8 bs).drop 1 = cells8 (bs.drop 1) := by simp [cells8]
  rw [hcd] at hd
  obtain ⟨A1, hA1⟩ : ∃ A1, (if c = 1 then some ad else some ⟨ad.block, ad.off + 1, none⟩) = A1 := ⟨_, rfl⟩
  have hd1 : Rds W w.heap.size A1 (n - 1) (cells8 (bs.drop 1)) := by rw [← hA1]; exact hd
  have P0 : Hid (HeadTo w W bs n 0 (.slice A1 (n - 1) (c - 1))) := Lib.hid ⟨_, n - 1, c - 1, rfl, by show n - 1 + 1 = n; omega, by omega, by omega, hd1, fun j hj => by omega, hbH, hbU, hmW⟩
  have HW := Lib.hid hW
  have Hs := Lib.hid hs; have Hlt := Lib.hid hlt; have Hlen := Lib.hid hlen; have Hbt := Lib.hid hbt
  have Hcm := Lib.hid hcm
  clear hW hmW hbH hbU hd hd1 hcd hlt hbt hs hlen
  go_enter Tryz.func44, Tryz.ntmps44
  go_upto_region 5 with fail
  rw [← HW.out]
  go_wp2_with fail
  go_loopw [6, 17] (fun s6 s17 wr => ∃ i : Nat, i ≤ 3 ∧ s17 = .int .i64 (i : Int) ∧ HeadTo w wr bs n i s6) (fun _ s17 _ => 3 - (intOf s17).toNat)
  case atStart => exact ⟨0, by omega, rfl, P0.out⟩
  case round =>
   obtain ⟨i, hi3, rfl, Ab, nb, cb, rfl, hnb, hncb, hcbm, hr, hall, hbH, hbU, hm⟩ := hrel
   have hh0 := hbH.cell 0
   have hh1 := hbH.cell 1
   have hh2 := hbH.cell 2
   have hh3 := hbH.cell 3
   have hf0 := hbH.frozen 0
   have hf1 := hbH.frozen 1
   have hf2 := hbH.frozen 2
   have hf3 := hbH.frozen 3
   simp at hh0 hh1 hh2 hh3
   have Hr := Lib.hid hr; have Hall := Lib.hid hall; have HbH := Lib.hid hbH; have HbU := Lib.hid hbU; have Hm := Lib.hid hm; have Hcbm := Lib.hid hcbm; have Hnb := Lib.hid hnb
   clear hr hall hbH hbU hm P0 hcbm hnb
   by_cases hi : i < 3
   ·have hlt2 : lt256 (bs.drop (hp bs i)) := fun b hb => Hlt.out b (List.mem_of_mem_drop hb)
    have hcall := vget_any Ab nb cb w.heap.size (bs.drop (hp bs i)) wr Hr.out hlt2 hncb Hcbm.out
    have hqn : hq bs i ≤ nb := by
     have h1 := dec_le_len hlt2
     have h2 := Hnb.out
     rw [List.length_drop, Hlen.out] at h1
     show (dec (bs.drop (hp bs i))).2 ≤ nb
     omega
    obtain ⟨x, hx'⟩ : ∃ x, x = hx bs i := ⟨_, rfl⟩
    obtain ⟨q, hq'⟩ : ∃ q, q = hq bs i := ⟨_, rfl⟩
    have ex : (dec (bs.drop (hp bs i))).1 = x := hx'.symm
    have eq : (dec (bs.drop (hp bs i))).2 = q := hq'.symm
    rw [ex, eq] at hcall
    rw [← hq'] at hqn
    have Hcall := Lib.hid hcall; have Hx := Lib.hid hx'; have Hq := Lib.hid hq'
    clear hcall hlt2 ex eq hx' hq'
    by_cases hq0 : q = 0
    ·have Hno : Hid (hdC bs = none) := Lib.hid (hdC_stop hi (by rw [← Hq.out]; exact hq0))
     subst hq0
     go_wp2_with fail
     refine Hcall.out.mono ?_
     rintro e w' ⟨rfl, rfl⟩
     go_wp2_with fail
     refine bodyPost_ret (v := .tuple #[.agg #[.int .i64 0, .int .i64 0, .int .i64 0, .int .i64 0], .slice none 0 0, .bool false]) (by have h := HbH.out.four (.int .i64 0) (.int .i64 0) (.int .i64 0) (.int .i64 0); simp [results, Tryz.results44, go_sem, h.1, h.2.1, h.2.2.1, h.2.2.2.1]) rfl ?_
     exact HeadEnd.of_none Hno.out (Hm.out.four_new (Nat.le_refl _) _ _ _ _)
    ·have hq0b : ((q : Int) == 0) = false := by simp; omega
     clear hh0 hh1 hh2 hh3 hf0 hf1 hf2 hf3
     obtain ⟨u, hu⟩ := uTo_get bs hi
     have hcu := HbU.out.cell i
     rw [hu] at hcu
     have hfu := HbU.out.frozen i
     have hqi : (q : Int) ≤ (nb : Int) := by omega
     have hqc : (q : Int) ≤ (cb : Int) := by omega
     have hq00 : (0 : Int) ≤ (q : Int) := by omega
     have hii : (i : Int) < 3 := by omega
     have hi0 : (0 : Int) ≤ (i : Int) := by omega
     obtain ⟨A2, hA2⟩ : ∃ A2, (if cb = q then Ab else Ab.map (·.add q)) = A2 := ⟨_, rfl⟩
     have hd := Hr.out.drop (k := q) (cap := cb) (by omega) hncb
     rw [hA2] at hd
     have hcd : (cells8 (bs.drop (hp bs i))).drop q = cells8 (bs.drop (hp bs (i + 1))) := by rw [hp_succ, ← Hq.out, ← List.drop_drop]; simp [cells8, List.map_drop]
     rw [hcd] at hd
     have hset := HbU.out.set_ i (.int .u64 (x : Int))
     rw [Hx.out, uTo_set bs hi] at hset
     have hmS : Mod (fun k => w.heap.size ≤ k) wr (wr.setCell ⟨w.heap.size + 1, i, none⟩ (.int .u64 (x : Int))) := (Mod.refl _ _).setCell (fun _ => by simp) _
     have Hnext : Hid (HeadTo w ((wr.setCell ⟨w.heap.size + 1, i, none⟩ (.int .u64 (x : Int)))).drew bs n (i + 1) (.slice A2 (nb - q) (cb - q))) := Lib.hid ⟨A2, nb - q, cb - q, rfl, by rw [hp_succ, ← Hq.out]; have := Hnb.out; omega, by omega, by have := Hcbm.out; omega, (hd.mod hmS (by have := Hm.out.size; exact this) (fun j hj hk => by omega)).drew, fun j hj => by
      by_cases hji : j < i
      ·exact Hall.out j hji
      ·obtain rfl : j = i := by omega
       rw [← Hq.out]; exact hq0, (HbH.out.far (by simp) _).drew, (by rw [Hx.out]; exact hset.drew), (mod_new Hm.out (by simp) _).drew⟩
     clear hd hcd hset hmS hu
     go_wp2_with fail
     refine Hcall.out.mono ?_
     rintro e w' ⟨rfl, rfl⟩
     go_upto_region 11 with fail
     go_region
     all_goals
      go_wp2_with fail
      go_roundw
      case rel => exact ⟨i + 1, by omega, by go_num, Hnext.out⟩
      case measure => simp [intOf]; omega
   ·obtain rfl : i = 3 := by omega
    obtain ⟨x0, hx0⟩ : ∃ x0, x0 = hx bs 0 := ⟨_, rfl⟩
    obtain ⟨x1, hx1⟩ : ∃ x1, x1 = hx bs 1 := ⟨_, rfl⟩
    obtain ⟨x2, hx2⟩ : ∃ x2, x2 = hx bs 2 := ⟨_, rfl⟩
    have hbU := HbU.out
    rw [uTo_all, ← hx0, ← hx1, ← hx2] at hbU
    have hc0 := hbU.cell 0
    have hc1 := hbU.cell 1
    have hc2 := hbU.cell 2
    simp at hc0 hc1 hc2
    have hx0l : x0 < 18446744073709551616 := hx0 ▸ hx_lt Hlt.out 0
    have hx1l : x1 < 18446744073709551616 := hx1 ▸ hx_lt Hlt.out 1
    have hx2l : x2 < 18446744073709551616 := hx2 ▸ hx_lt Hlt.out 2
    have Hx0 := Lib.hid hx0; have Hx1 := Lib.hid hx1; have Hx2 := Lib.hid hx2
    have Hul : Hid (w.heap.size + 1 < wr.heap.size) := Lib.hid hbU.lt
    clear hbU HbU hx0 hx1 hx2
    by_cases hbig : 65535 < x0
    ·have Hno : Hid (hdC bs = none) := Lib.hid (hdC_bad Hbt.out (by rw [← Hx0.out]; omega))
     have hbigi : (65535 : Int) < (x0 : Int) := by omega
     go_wp2_with fail
     refine bodyPost_ret (v := .tuple #[.agg #[.int .i64 0, .int .i64 0, .int .i64 0, .int .i64 0], .slice none 0 0, .bool false]) (by have h := HbH.out.four (.int .i64 0) (.int .i64 0) (.int .i64 0) (.int .i64 0); simp [results, Tryz.results44, go_sem, h.1, h.2.1, h.2.2.1, h.2.2.2.1]) rfl ?_
     exact HeadEnd.of_none Hno.out (Hm.out.four_new (Nat.le_refl _) _ _ _ _)
    ·have hbigi : ¬ (65535 : Int) < (x0 : Int) := by omega
     have hx0n : x0 ≤ 65535 := by omega
     have hwi : IntKind.i64.wrap (x0 : Int) = (x0 : Int) := by rw [IntWalk.i64_in _ (by omega)]
     obtain ⟨Had, hcella⟩ : Hid (ad.block < wr.heap.size) ∧ wr.cell? ad = some (.int .u8 (t : Int)) := by
      obtain ⟨ad', hA, hbl, _⟩ := Hs.out.2 (by omega)
      injection hA with hA
      subst hA
      refine ⟨Lib.hid (Nat.lt_of_lt_of_le hbl Hm.out.size), ?_⟩
      rw [Hm.out.cell hbl (fun h => h)]
      exact hcell
     obtain ⟨f, hf⟩ : ∃ f, f = zag (x1 : Int) := ⟨_, rfl⟩
     obtain ⟨g, hg⟩ : ∃ g, g = zag (x2 : Int) := ⟨_, rfl⟩
     have hz1 := fun W' => zag_any (x1 : Int) W' ⟨by omega, by omega⟩
     have hz2 := fun W' => zag_any (x2 : Int) W' ⟨by omega, by omega⟩
     rw [← hf] at hz1
     rw [← hg] at hz2
     have Hz1 := Lib.hid hz1; have Hz2 := Lib.hid hz2; have Hf := Lib.hid hf; have Hg := Lib.hid hg
     have h0n : (0 : Int) < (n : Int) := by omega
     have h0nn : 0 < n := by omega
     have hwt : IntKind.i64.wrap (t : Int) = (t : Int) := by rw [IntWalk.i64_in _ (by omega)]
     clear hz1 hz2 hf hg hbig hcell
     go_upto_region 15 with fail
     have HX : Hid (∀ W', Mod (fun _ => False) wr W' → Mod (fun _ => False) wr W' ∧ W'.cell? ad = some (.int .u8 (t : Int)) ∧ W'.cell? ⟨w.heap.size + 1, 0, none⟩ = some (.int .u64 (x0 : Int)) ∧ W'.cell? ⟨w.heap.size + 1, 1, none⟩ = some (.int .u64 (x1 : Int)) ∧ W'.cell? ⟨w.heap.size + 1, 2, none⟩ = some (.int .u64 (x2 : Int))) := Lib.hid (fun W' h => ⟨h, (h.cell (a := ad) Had.out (fun h => h)).trans hcella, (h.cell (a := ⟨w.heap.size + 1, 0, none⟩) Hul.out (fun h => h)).trans hc0, (h.cell (a := ⟨w.heap.size + 1, 1, none⟩) Hul.out (fun h => h)).trans hc1, (h.cell (a := ⟨w.heap.size + 1, 2, none⟩) Hul.out (fun h => h)).trans hc2⟩)
     have S1 := Lib.hid (HX.out wr.drew (Mod.refl _ _).drew)
     have S2 := Lib.hid (HX.out (wr.alloc (.cells #[.int .i64 0, .int .i64 0, .int .i64 0, .int .i64 0] 75)).drew ((Mod.refl _ _).alloc _).drew)
     have S3 := Lib.hid (HX.out (wr.alloc (.cells #[.int .i64 (t : Int), .int .i64 (x0 : Int), .int .i64 f, .int .i64 g] 75)).drew ((Mod.refl _ _).alloc _).drew)
     obtain ⟨W2, hW2⟩ : ∃ W2, W2 = (wr.alloc (.cells #[.int .i64 (t : Int), .int .i64 (x0 : Int), .int .i64 f, .int .i64 g] 75)).drew := ⟨_, rfl⟩
     have hm2 : Mod (fun _ => False) w W2 := by rw [hW2]; exact (Hm.out.alloc _).drew
     have hbH2 : Blk W2 w.heap.size 75 #[.int .i64 0, .int .i64 0, .int .i64 0, .int .i64 0] := by rw [hW2]; exact (HbH.out.alloc _).drew
     have hbN : Blk W2 wr.heap.size 75 #[.int .i64 (t : Int), .int .i64 (x0 : Int), .int .i64 f, .int .i64 g] := by rw [hW2]; exact (Blk.new _ _ _).drew
     have hr2 : Rds W2 w.heap.size Ab nb (cells8 (bs.drop (hp bs 3))) := by rw [hW2]; exact (Hr.out.alloc Hm.out.size _).drew
     have HW2 := Lib.hid hW2; have Hm2 := Lib.hid hm2; have HbH2 := Lib.hid hbH2; have Hr2 := Lib.hid hr2; have HbN := Lib.hid hbN
     clear hW2 hm2 hbH2 hbN hr2 Hm HbH Hr hcella hc0 hc1 hc2 hh0 hh1 hh2 hh3 hf0 hf1 hf2 hf3
     go_cut [10] (fun s10 wc => s10 = .pointer (some ⟨wr.heap.size, 0, none⟩) ∧ wc = W2)
     case first =>
      go_region_held_law (fun W' => Mod (fun _ => False) wr W' ∧ W'.cell? ad = some (.int .u8 (t : Int)) ∧ W'.cell? ⟨w.heap.size + 1, 0, none⟩ = some (.int .u64 (x0 : Int)) ∧ W'.cell? ⟨w.heap.size + 1, 1, none⟩ = some (.int .u64 (x1 : Int)) ∧ W'.cell? ⟨w.heap.size + 1, 2, none⟩ = some (.int .u64 (x2 : Int))) (first | (with_reducible exact S1.out) | (with_reducible exact S2.out) | (with_reducible exact S3.out))
       (first
        | (go_at_call 66; with_reducible refine (Hz1.out _).mono ?_; rintro e w' ⟨rfl, rfl⟩)
        | (go_at_call 66; with_reducible refine (Hz2.out _).mono ?_; rintro e w' ⟨rfl, rfl⟩))
      all_goals
       go_wp2_with fail
       go_meet
       exact ⟨rfl, HW2.out.symm⟩
     case rest =>
     obtain ⟨rfl, rfl⟩ := hcut
     have k0 := HbN.out.cell 0
     have k1 := HbN.out.cell 1
     have k2 := HbN.out.cell 2
     have k3 := HbN.out.cell 3
     have z0 := HbH2.out.cell 0
     have z1 := HbH2.out.cell 1
     have z2 := HbH2.out.cell 2
     have z3 := HbH2.out.cell 3
     have y0 := HbH2.out.frozen 0
     have y1 := HbH2.out.frozen 1
     have y2 := HbH2.out.frozen 2
     have y3 := HbH2.out.frozen 3
     simp at k0 k1 k2 k3 z0 z1 z2 z3
     clear HX S1 S2 S3 Hz1 Hz2 HbN HW2
     by_cases t1 : (t : Int) < 1
     ·go_wp2_with fail
      refine bodyPost_ret (v := .tuple #[.agg #[.int .i64 0, .int .i64 0, .int .i64 0, .int .i64 0], .slice none 0 0, .bool false]) (by have h := HbH2.out.four (.int .i64 0) (.int .i64 0) (.int .i64 0) (.int .i64 0); simp [results, Tryz.results44, go_sem, h.1, h.2.1, h.2.2.1, h.2.2.2.1]) rfl ?_
      exact HeadEnd.of_none (hdC_bad Hbt.out (by rw [← Hx0.out, ← Hx1.out, ← Hx2.out, ← Hf.out, ← Hg.out]; omega)) (Hm2.out.four_new (Nat.le_refl _) _ _ _ _)
     by_cases t6 : (6 : Int) < (t : Int)
     ·go_wp2_with fail
      refine bodyPost_ret (v := .tuple #[.agg #[.int .i64 0, .int .i64 0, .int .i64 0, .int .i64 0], .slice none 0 0, .bool false]) (by have h := HbH2.out.four (.int .i64 0) (.int .i64 0) (.int .i64 0) (.int .i64 0); simp [results, Tryz.results44, go_sem, h.1, h.2.1, h.2.2.1, h.2.2.2.1]) rfl ?_
      exact HeadEnd.of_none (hdC_bad Hbt.out (by rw [← Hx0.out, ← Hx1.out, ← Hx2.out, ← Hf.out, ← Hg.out]; omega)) (Hm2.out.four_new (Nat.le_refl _) _ _ _ _)
     by_cases n0 : x0 = 0
     ·subst n0
      go_wp2_with fail
      refine bodyPost_ret (v := .tuple #[.agg #[.int .i64 0, .int .i64 0, .int .i64 0, .int .i64 0], .slice none 0 0, .bool false]) (by have h := HbH2.out.four (.int .i64 0) (.int .i64 0) (.int .i64 0) (.int .i64 0); simp [results, Tryz.results44, go_sem, h.1, h.2.1, h.2.2.1, h.2.2.2.1]) rfl ?_
      exact HeadEnd.of_none (hdC_bad Hbt.out (by rw [← Hx0.out, ← Hx1.out, ← Hx2.out, ← Hf.out, ← Hg.out]; omega)) (Hm2.out.four_new (Nat.le_refl _) _ _ _ _)
     have n0b : ((x0 : Int) == 0) = false := by simp; omega
     by_cases fg : g < f
     ·go_wp2_with fail
      refine bodyPost_ret (v := .tuple #[.agg #[.int .i64 0, .int .i64 0, .int .i64 0, .int .i64 0], .slice none 0 0, .bool false]) (by have h := HbH2.out.four (.int .i64 0) (.int .i64 0) (.int .i64 0) (.int .i64 0); simp [results, Tryz.results44, go_sem, h.1, h.2.1, h.2.2.1, h.2.2.2.1]) rfl ?_
      exact HeadEnd.of_none (hdC_bad Hbt.out (by rw [← Hx0.out, ← Hx1.out, ← Hx2.out, ← Hf.out, ← Hg.out]; omega)) (Hm2.out.four_new (Nat.le_refl _) _ _ _ _)
     go_wp2_with fail
     refine bodyPost_ret (v := .tuple #[.agg #[.int .i64 (t : Int), .int .i64 (x0 : Int), .int .i64 f, .int .i64 g], .slice Ab nb cb, .bool true]) (by have h := HbH2.out.four (.int .i64 (t : Int)) (.int .i64 (x0 : Int)) (.int .i64 f) (.int .i64 g); simp [results, Tryz.results44, go_sem, h.1, h.2.1, h.2.2.1, h.2.2.2.1]) rfl ?_
     have hgood : hdC bs = some ((t, x0, f, g), hp bs 3) := by
      rw [Hx0.out, Hf.out, Hg.out, Hx1.out, Hx2.out]
      exact hdC_good Hbt.out (by omega) (by omega) Hall.out (by rw [← Hx0.out]; omega) (by rw [← Hx0.out]; omega) (by rw [← Hx1.out, ← Hx2.out, ← Hf.out, ← Hg.out]; omega)
     unfold HeadEnd
     rw [hgood]
     exact ⟨Ab, nb, cb, Hnb.out, hncb, Hcbm.out, rfl, Hr2.out.mod ((Mod.refl (fun k => k = w.heap.size) wc).setCell (fun _ => rfl) _ |>.setCell (fun _ => rfl) _ |>.setCell (fun _ => rfl) _ |>.setCell (fun _ => rfl) _) Hm2.out.size (fun j hj hk => by omega), Hm2.out.four_new (Nat.le_refl _) _ _ _ _⟩
end Go.Proofs.YthgoppmgapaajaaGreatDoor

/- Rows of numbers of so many bits each: what a writer of its own has been told of them; what Bytes makes of it (parted from Encode of layer 8). -/
namespace Go.Proofs.YthgoppmgapaajaaGreatDoor
open Go.RowKit

/-- A row that another call has made, as bytes that read. -/
theorem NewRow.rds {w w1 : World} {v : Value} {n : Nat} {bs : List Nat} (h : NewRow w w1 v n (cells8 bs)) : ∃ A c, v = .slice A n c ∧ Rds w1 w1.heap.size A n (cells8 bs) ∧ Mod (fun _ => False) w w1 := by
 obtain ⟨hown, hm, _⟩ := h
 have hn : bs.length = n := by have := hown.1; rw [cells8_length] at this; omega
 have ho : Own 0 w1 5 v (cells8 bs) := by unfold Own; rw [cells8_length, hn]; exact hown
 obtain ⟨A, c, e, _, _, hr⟩ := own_form8 ho
 rw [hn] at e hr
 exact ⟨A, c, e, hr, hm⟩
/-- What a writer of its own has been told of i numbers of S bits. -/
def FldTo (w0 w1 wr : World) (g S : Nat) (l : List Nat) (i : Nat) : Prop := Wrote w1 wr g none 0 0 (flds S (l.take i)) ∧ Mod (fun _ => False) w0 wr
theorem FldTo.step {w0 w1 wr w2 : World} {g S i x : Nat} {l : List Nat} (hx : l[i]? = some x) (_h : FldTo w0 w1 wr g S l i) (hg : w0.heap.size ≤ g) (hm : Mod (fun _ => False) w0 w1) (h2 : Wrote w1 w2 g none 0 0 (flds S (l.take i) ++ [(x, S)])) : FldTo w0 w1 w2 g S l (i + 1) := by
 refine ⟨?_, ?_⟩
 ·rw [take_succ_of hx, flds_app]
  exact h2
 ·obtain ⟨row', _, a2, _⟩ := h2
  exact hm.trans a2 (fun i hi h => h.elim (fun e => by omega) (fun e => by cases e))
theorem FldTo.wr {w0 w1 wr : World} {g S i n : Nat} {l : List Nat} (h : FldTo w0 w1 wr g S l i) (hn : l.length = n) (hi : i = n) : ∃ row, Wr wr g row (fnum (flds S l)) (flen (flds S l)) := by
 obtain ⟨⟨row', a1, _, _⟩, _⟩ := h
 rw [List.take_of_length_le (by omega), Nat.zero_mul, Nat.zero_add, Nat.zero_add] at a1
 exact ⟨row', a1⟩
theorem Packed.packW {bs : List Nat} {S : Nat} {l : List Nat} (h : Packed bs (fnum (flds S l)) (flen (flds S l))) : bs = packW S l := by
 obtain ⟨hlt, free, hf, hl, hv⟩ := h
 exact packW_one hlt hf hl hv
theorem flds_small {S n i : Nat} {l : List Nat} (hS : S ≤ 64) (hn : l.length ≤ n) (hn2 : n ≤ 1000000) : flen (flds S (l.take i)) ≤ 64000000 := by
 rw [flds_len]
 have h1 : (l.take i).length ≤ 1000000 := by rw [List.length_take]; omega
 have := Nat.mul_le_mul hS h1
 omega
end Go.Proofs.YthgoppmgapaajaaGreatDoor

/- Rows, literals of rows, two writers: what statements that tell and read have at hand. -/
namespace Go.Proofs.YthgoppmgapaajaaGreatDoor
open Go.RowKit

theorem Wr.packed {w : World} {g N L : Nat} {row : Option Nat} (h : Wr w g row N L) : ∃ bs, Packed bs N L := by
 obtain ⟨free, hf, v, bs, _, _, _, hlt, hl, hv, _⟩ := h
 exact ⟨bs, hlt, free, hf, hl, hv⟩
/-- The two writers at the same bits. -/
structure Both (w0 w : World) (a : Nat) (ra : Option Nat) (b : Nat) (rb : Option Nat) (N L : Nat) : Prop where
 wa : Wr w a ra N L
 wb : RWr w b rb N L
 mod : Mod (fun _ => False) w0 w
theorem Both.new {w0 w w' : World} {a b N L : Nat} {ra rb : Option Nat} (h : Both w0 w a ra b rb N L) (hm : Mod (fun _ => False) w w') : Both w0 w' a ra b rb N L :=
 ⟨h.wa.mod hm (fun h => h) (fun _ _ h => h), h.wb.mod hm (fun h => h) (fun _ _ h => h), h.mod.trans hm (fun _ _ h => h)⟩
theorem RWr.len {w : World} {g N L : Nat} {row : Option Nat} (h : RWr w g row N L) : ∃ Ax cx, w.cell? ⟨g, 0, none⟩ = some (.slice Ax L cx) := by
 obtain ⟨sv, l, hblk, hown, _, _, hL, _⟩ := h
 have hc0 := hblk.cell 0
 simp at hc0
 rcases hown.2 with ⟨h1, h2⟩ | ⟨g', cap, cur, h1, _⟩
 ·exact ⟨none, 0, by rw [hc0, h1, ← hL, h2]⟩
 ·exact ⟨_, cap, by rw [hc0, h1, hL]⟩
theorem Sees.take {w : World} {row n k : Nat} {A : Option Addr} {bs : List Nat} (h : Sees w row A n (cells8 bs)) (hk : k ≤ n) : Sees w row A k (cells8 (bs.take k)) := by
 have hl := h.1
 rw [cells8_length] at hl
 refine ⟨by rw [cells8_length, List.length_take]; omega, fun h0 => ?_⟩
 obtain ⟨o, e, hlt, hc⟩ := h.2 (by omega)
 refine ⟨o, e, hlt, fun j u hu => hc j u ?_⟩
 rw [cells8_take, List.getElem?_take] at hu
 split at hu
 ·exact hu
 ·cases hu
/-- Four rows of bytes in a literal. -/
def Rows4 (w : World) (lit : Nat) : Prop := lit < w.heap.size ∧ ∀ j, j < 4 → ∃ (A : Option Addr) (n c row : Nat) (cs : List Nat), w.cell? ⟨lit, j, none⟩ = some (.slice A n c) ∧ Sees w row A n (cells8 cs) ∧ (A = none → c = 0) ∧ n ≤ 1000 ∧ lt256 cs
theorem Rows4.mod {w w' : World} {lit : Nat} (h : Rows4 w lit) (hm : Mod (fun _ => False) w w') : Rows4 w' lit := by
 refine ⟨Nat.lt_of_lt_of_le h.1 hm.size, fun j hj => ?_⟩
 obtain ⟨A, n, c, row, cs, h1, h2, h3⟩ := h.2 j hj
 exact ⟨A, n, c, row, cs, (hm.cell (a := ⟨lit, j, none⟩) h.1 (fun h => h)).trans h1, h2.mod hm (fun _ h => h), h3⟩
end Go.Proofs.YthgoppmgapaajaaGreatDoor

/- Chunks, of the code: Head. -/
namespace Go.Proofs.YthgoppmgapaajaaGreatDoor
open Go.RowKit

/-- The head that is told: none is all 0. -/
def hdV (o : Option ((Nat × Nat × Int × Int) × Nat)) : Nat × Nat × Int × Int := (o.map (·.1)).getD (0, 0, 0, 0)
theorem HeadEnd.any {w w' : World} {bs : List Nat} {n : Nat} {e : Ending} (h : HeadEnd w w' bs n e) :
  ∃ (A : Option Addr) (L c : Nat), e = .returned (.tuple #[.agg #[.int .i64 ((hdV (hdC bs)).1 : Int), .int .i64 ((hdV (hdC bs)).2.1 : Int), .int .i64 (hdV (hdC bs)).2.2.1, .int .i64 (hdV (hdC bs)).2.2.2], .slice A L c, .bool (hdC bs).isSome]) ∧ Mod (fun _ => False) w w' := by
 unfold HeadEnd at h
 cases hd : hdC bs with
 | none =>
  rw [hd] at h
  obtain ⟨rfl, hm⟩ := h
  exact ⟨none, 0, 0, rfl, hm⟩
 | some p =>
  rw [hd] at h
  obtain ⟨A, L, c, _, _, _, rfl, _, hm⟩ := h
  exact ⟨A, L, c, rfl, hm⟩
end Go.Proofs.YthgoppmgapaajaaGreatDoor

/- append to a row that is read on; and the chunk that the document fixes. -/
namespace Go.Proofs.YthgoppmgapaajaaGreatDoor
open Go.RowKit

section
variable {P : Program} {w : World}
end
end Go.Proofs.YthgoppmgapaajaaGreatDoor

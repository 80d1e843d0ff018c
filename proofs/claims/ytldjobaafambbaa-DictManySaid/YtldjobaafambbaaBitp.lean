import Derived.Test.YtldjobaafambbaaBit0
import Derived.StillTailTactics
import Derived.Lib.Hide
import Derived.Deep.AppendLies
import Derived.Deep.DeepCutAuto
import Derived.Deep.LoopGhost
namespace Go.Proofs.Ytldjobaafambbaa
open Go.RowKit

theorem Try.info5 : (Try.prog.info? 5).map (fun i => (i.zero, i.size, i.bytes)) = some (some (.int .u8 0), 1, 1) := by kernel_rfl

/-- A writer at block g, its bytes in 'row': N, of len bits; the last byte has 'free' bits to fill. -/
def WrF (w : World) (g : Nat) (row : Option Nat) (N len free : Nat) : Prop :=
  ∃ (v : Value) (bs : List Nat), Blk w g 68 #[v, .int .u64 (free : Int)] ∧ w.ownsRow 0 5 1 v bs.length (cells8 bs) ∧ v.ownBlock = row ∧ lt256 bs ∧
    len + free = 8 * bs.length ∧ val bs = N * 2 ^ free ∧ N < 2 ^ len
def Wr (w : World) (g : Nat) (row : Option Nat) (N len : Nat) : Prop := ∃ free, free < 8 ∧ WrF w g row N len free

def RowTo (w : World) (row row' : Option Nat) : Prop := row' = row ∨ ∃ r, row' = some r ∧ w.heap.size ≤ r

/-- What l rounds from the end Put has done. -/
def PutTo (w wr : World) (g : Nat) (row : Option Nat) (N len u k l : Nat) : Prop :=
  ∃ row', Wr wr g row' (N * 2 ^ (k - l) + u / 2 ^ l) (len + (k - l)) ∧ Mod (fun i => i = g ∨ row = some i) w wr ∧ RowTo w row row'
/-- Behind the test: there is room in the last byte. -/
def PutMid (w wr : World) (g : Nat) (row : Option Nat) (N len u k l : Nat) : Prop :=
  ∃ row' free, 0 < free ∧ free ≤ 8 ∧ WrF wr g row' (N * 2 ^ (k - l) + u / 2 ^ l) (len + (k - l)) free ∧ Mod (fun i => i = g ∨ row = some i) w wr ∧ RowTo w row row'

theorem RowTo.trans {w : World} {row row' row2 : Option Nat} {B : Nat} (h : RowTo w row row') (hB : w.heap.size ≤ B) (h2 : row2 = row' ∨ ∃ r, row2 = some r ∧ B ≤ r) : RowTo w row row2 := by
  rcases h2 with rfl | ⟨r, rfl, hr⟩
  · exact h
  · exact .inr ⟨r, rfl, by omega⟩
theorem RowTo.in_ {w : World} {row row' : Option Nat} (h : RowTo w row row') {k : Nat} (hk : row' = some k) (hlt : k < w.heap.size) : row = some k := by
  rcases h with rfl | ⟨r, rfl, hr⟩
  · exact hk
  · injection hk with hk; omega

theorem low_of (v d m : Nat) (W : World) (hv : Lt64 v) (hm : m ≤ 8) :
    Calls Try.prog 35 #[.int .u64 ((v : Int) / 2 ^ d), .int .u64 (m : Int)] W fun e w' => e = .returned (.int .u8 ((v / 2 ^ d % 2 ^ m : Nat) : Int)) ∧ w' = W := by
  have e : (v : Int) / 2 ^ d = ((v / 2 ^ d : Nat) : Int) := by simp
  have := hv.out
  have h2 : v / 2 ^ d ≤ v := Nat.div_le_self _ _
  rw [e]
  generalize v / 2 ^ d = x at *
  refine (lowest_any (x : Int) (m : Int) W (by omega) (by omega) (by omega) (by omega)).mono ?_
  rintro e w' ⟨rfl, rfl⟩
  exact ⟨by rw [Int.toNat_natCast, Int.toNat_natCast], rfl⟩

theorem or_val (v d m f b : Nat) (bs0 : List Nat) (N : Nat) (hb : b < 256) (hf : f + m ≤ 8) (hv : val (bs0 ++ [b]) = N * 2 ^ (f + m)) :
    bits BinOp.or IntKind.u8 (b : Int) (IntKind.u8.wrap ((v : Int) / 2 ^ d % 2 ^ m * 2 ^ f)) = ((b + v / 2 ^ d % 2 ^ m * 2 ^ f : Nat) : Int) := by
  obtain ⟨h1, h2, _⟩ := last_step bs0 b N (f + m) m (v / 2 ^ d % 2 ^ m) hb hf (by omega) (Nat.mod_lt _ (Nat.two_pow_pos m)) hv
  rw [Nat.add_sub_cancel] at h1 h2
  have e : (v : Int) / 2 ^ d % 2 ^ m * 2 ^ f = ((v / 2 ^ d % 2 ^ m * 2 ^ f : Nat) : Int) := by simp
  rw [e, IntKind.wrap_u8', Int.emod_eq_of_lt (Int.natCast_nonneg _) (by omega), u8_or_nat _ _ hb (by omega), h1]

theorem put_grow {w wr w1 : World} {g gr cap : Nat} {row row' : Option Nat} {N len : Nat} {sv : Value} {bs : List Nat} (hblk : Blk wr g 68 #[sv, .int .u64 ((0 : Nat) : Int)]) (hown : wr.ownsRow 0 5 1 sv bs.length (cells8 bs))
    (hrow : sv.ownBlock = row') (hlt : lt256 bs) (hlf : len + 0 = 8 * bs.length) (hval : val bs = N * 2 ^ 0) (hN : N < 2 ^ len) (hmod : Mod (fun i => i = g ∨ row = some i) w wr) (hrr : RowTo w row row')
    (hgrow : (wr.alloc (.cells #[.int .u8 0] 5)).grownBy w1 sv.ownBlock) (hown' : w1.ownsRow 0 5 1 (.slice (some ⟨gr, 0, none⟩) (bs.length + 1) cap) (bs.length + 1) (cells8 bs ++ [.int .u8 0]))
    (hrow' : (Value.slice (some ⟨gr, 0, none⟩) (bs.length + 1) cap).ownBlock = sv.ownBlock ∨ (Value.slice (some ⟨gr, 0, none⟩) (bs.length + 1) cap).ownBlock = some (wr.alloc (.cells #[.int .u8 0] 5)).heap.size)
 :
    ∃ row2, WrF ((w1.setCell ⟨g, 0, none⟩ (.slice (some ⟨gr, 0, none⟩) (bs.length + 1) cap)).setCell ⟨g, 1, none⟩ (.int .u64 8)) g row2 N len 8 ∧
      Mod (fun i => i = g ∨ row = some i) w ((w1.setCell ⟨g, 0, none⟩ (.slice (some ⟨gr, 0, none⟩) (bs.length + 1) cap)).setCell ⟨g, 1, none⟩ (.int .u64 8)) ∧ RowTo w row row2 := by
  subst hrow
  have hne := own_blk_ne hown hblk (by decide)
  have hblk1 := (hblk.alloc (.cells #[.int .u8 0] 5)).grown hgrow hne.symm
  have hne1 := own_blk_ne hown' hblk1 (by decide)
  refine ⟨some gr, ⟨.slice (some ⟨gr, 0, none⟩) (bs.length + 1) cap, bs ++ [0], ?_, ?_, rfl, lt256_snoc.2 ⟨hlt, by omega⟩, by simp; omega, by rw [val_snoc, hval]; omega, hN⟩, ?_, ?_⟩
  · have := (hblk1.set_ 0 (.slice (some ⟨gr, 0, none⟩) (bs.length + 1) cap)).set_ 1 (.int .u64 8)
    simpa using this
  · have h1 : Mod (fun i => i = g) w1 ((w1.setCell ⟨g, 0, none⟩ (.slice (some ⟨gr, 0, none⟩) (bs.length + 1) cap)).setCell ⟨g, 1, none⟩ (.int .u64 8)) :=
      ((Mod.refl (fun i => i = g) w1).setCell (p := ⟨g, 0, none⟩) (fun _ => rfl) _).setCell (p := ⟨g, 1, none⟩) (fun _ => rfl) _
    have := h1.owns hown' (fun k hk e => hne1 (by rw [hk, e]))
    rw [cells8_snoc]
    simpa using this
  · refine Mod.setCell (Mod.setCell ((hmod.alloc _).grown hgrow ?_) (fun _ => .inl rfl) _) (fun _ => .inl rfl) _
    intro k hk hlt'
    exact .inr (hrr.in_ hk hlt')
  · refine hrr.trans (B := wr.heap.size) hmod.size ?_
    rcases hrow' with h | h
    · exact .inl h
    · exact .inr ⟨_, h, by simp⟩

theorem put_fill {w wc W2 : World} {g gr cap : Nat} {row row2 : Option Nat} {N len v k l m d f free : Nat} {bs0 : List Nat} {b : Nat} (hm1 : 0 < m) (hm2 : m ≤ l) (hm3 : m ≤ free) (hr2 : free ≤ 8) (hl : l ≤ k)
    (hd : d = l - m) (hf : f = free - m)
    (hrow : (Value.slice (some ⟨gr, 0, none⟩) (bs0 ++ [b]).length cap).ownBlock = row2) (hlt : lt256 (bs0 ++ [b])) (hlf : len + (k - l) + free = 8 * (bs0 ++ [b]).length)
    (hval : val (bs0 ++ [b]) = (N * 2 ^ (k - l) + v % 2 ^ k / 2 ^ l) * 2 ^ free) (hN : N * 2 ^ (k - l) + v % 2 ^ k / 2 ^ l < 2 ^ (len + (k - l))) (hmod : Mod (fun i => i = g ∨ row = some i) w wc) (hrr : RowTo w row row2)
    (hblk : Blk W2 g 68 #[.slice (some ⟨gr, 0, none⟩) (bs0 ++ [b]).length cap, .int .u64 (f : Int)]) (hmod2 : Mod (fun i => i = g) wc W2)
    (hown : W2.ownsRow 0 5 1 (.slice (some ⟨gr, 0, none⟩) (bs0 ++ [b]).length cap) (bs0 ++ [b]).length (cells8 (bs0 ++ [b]))) :
    PutTo w (W2.setCell ⟨gr, bs0.length, none⟩ (.int .u8 ((b + v / 2 ^ d % 2 ^ m * 2 ^ f : Nat) : Int))) g row N len (v % 2 ^ k) k d := by
  have hne := own_blk_ne hown hblk (by decide)
  have hx : v / 2 ^ d % 2 ^ m < 2 ^ m := Nat.mod_lt _ (Nat.two_pow_pos m)
  obtain ⟨h1, h2, h3⟩ := last_step bs0 b _ free m (v / 2 ^ d % 2 ^ m) (lt256_snoc.1 hlt).2 hr2 hm3 hx hval
  rw [← hf] at h1 h2 h3
  have e1 : v % 2 ^ k / 2 ^ d = v % 2 ^ k / 2 ^ l * 2 ^ m + v / 2 ^ d % 2 ^ m := by
    have := bits_more (v % 2 ^ k) l m hm2
    rw [← hd, mod_div_mod v k d m (by omega)] at this
    exact this
  have e2 : (N * 2 ^ (k - l) + v % 2 ^ k / 2 ^ l) * 2 ^ m + v / 2 ^ d % 2 ^ m = N * 2 ^ (k - d) + v % 2 ^ k / 2 ^ d := by
    rw [e1, Nat.add_mul, Nat.mul_assoc, ← Nat.pow_add, show k - l + m = k - d by omega, Nat.add_assoc]
  have e3 : len + (k - d) = len + (k - l) + m := by omega
  refine ⟨row2, ⟨f, by omega, .slice (some ⟨gr, 0, none⟩) (bs0 ++ [b]).length cap, bs0 ++ [b + v / 2 ^ d % 2 ^ m * 2 ^ f], ?_, ?_, hrow, lt256_snoc.2 ⟨(lt256_snoc.1 hlt).1, h2⟩, ?_, ?_, ?_⟩, ?_, hrr⟩
  · exact hblk.far (p := ⟨gr, bs0.length, none⟩) (fun e => hne (by rw [e]; rfl)) _
  · have := (hown.stored bs0.length (.int .u8 ((b + v / 2 ^ d % 2 ^ m * 2 ^ f : Nat) : Int))).1
    rw [cells8_set] at this
    simpa using this
  · rw [e3]; simp at hlf ⊢; omega
  · rw [h3, e2]
  · rw [← e2, e3, Nat.pow_add]
    calc _ < (N * 2 ^ (k - l) + v % 2 ^ k / 2 ^ l) * 2 ^ m + 2 ^ m := by omega
      _ = (N * 2 ^ (k - l) + v % 2 ^ k / 2 ^ l + 1) * 2 ^ m := by rw [Nat.add_mul _ 1, Nat.one_mul]
      _ ≤ _ := Nat.mul_le_mul_right _ hN
  · refine (hmod.trans hmod2 (fun i _ h => .inl h)).setCell ?_ _
    intro h
    exact .inr (hrr.in_ (by rw [← hrow]; rfl) h)

set_option maxHeartbeats 1000000 in
set_option maxRecDepth 100000 in
theorem put_any (g : Nat) (row : Option Nat) (N len : Nat) (v n : Int) (w : World) (hn : FitI n) (hv : Fit64 v)
    (hw : Wr w g row N len) (hlen : len ≤ 1000000000) :
    Calls Try.prog 20 #[.pointer (some ⟨g, 0, none⟩), .int .u64 v, .int .i64 n] w fun e w' => e = .returned (.tuple #[]) ∧
      PutTo w w' g row N len (v.toNat % 2 ^ (max 0 (min n 64)).toNat) (max 0 (min n 64)).toNat 0 := by
  obtain ⟨v, rfl⟩ := Int.eq_ofNat_of_zero_le hv.out.1
  have Hv1 : Lt64 v := by have := hv.out.2; unfold Lt64; omega
  rw [Int.toNat_natCast]
  obtain ⟨k, hk⟩ : ∃ k : Nat, max 0 (min n 64) = (k : Int) := ⟨(max 0 (min n 64)).toNat, by omega⟩
  have hk64 : k ≤ 64 := by omega
  rw [hk, Int.toNat_natCast]
  go_enter Try.func20, Try.ntmps20
  go_wp2_with (go_at_call 34; refine (held_any n _ hn.1 hn.2).mono ?_; rintro e w' ⟨rfl, rfl⟩)
  have Hw := Lib.hid hw
  clear hw hk hn hv
  go_loopg [6] k (fun l s6 wr => l ≤ k ∧ s6 = .int .u64 (l : Int) ∧ PutTo w wr g row N len (v % 2 ^ k) k l)
  case atStart =>
    refine ⟨Nat.le_refl _, rfl, row, ?_, Mod.refl _ _, .inl rfl⟩
    have e : v % 2 ^ k / 2 ^ k = 0 := Nat.div_eq_of_lt (Nat.mod_lt _ (Nat.two_pow_pos k))
    rw [Nat.sub_self, e, Nat.pow_zero, Nat.mul_one, Nat.add_zero, Nat.add_zero]
    exact Hw.out
  case round =>
    obtain ⟨hl, rfl, row', ⟨free, hf8, sv, bs, hblk, hown, hrow, hlt, hlf, hval, hN⟩, hmod, hrr⟩ := hrel
    have hc0 := hblk.cell 0
    have hc1 := hblk.cell 1
    have hf0 := hblk.frozen 0
    have hf1 := hblk.frozen 1
    simp at hc0 hc1
    have Hlf := Lib.hid hlf; have Hval := Lib.hid hval; have Hrow := Lib.hid hrow; have Hrr := Lib.hid hrr; have Hlt := Lib.hid hlt; have HN := Lib.hid hN; have Hown := Lib.hid hown
    have Hmod := Lib.hid hmod; have Hblk := Lib.hid hblk
    clear hlf hval hrow hrr hlt hN hown hmod hblk
    by_cases hl0 : gk = 0
    · subst hl0
      go_wp2
      go_end0
      exact ⟨rfl, row', ⟨free, hf8, sv, bs, Hblk.out, Hown.out, Hrow.out, Hlt.out, Hlf.out, Hval.out, HN.out⟩, Hmod.out, Hrr.out⟩
    · have hl1 : 0 < gk := by omega
      go_upto_if 16 with fail
      go_cut [] (fun wc => PutMid w wc g row N len (v % 2 ^ k) k gk)
      case first =>
        by_cases hfree : free = 0
        · have hfb : ((free : Int) == 0) = true := by simp; omega
          rw [hfb]
          subst hfree
          obtain ⟨i0, hi, hz0, hz1, hz2⟩ := info_parts Try.info5
          have Hb : Room bs.length 1 := Room.mk _ _ (by have := Hlf.out; omega)
          clear hfb hf8
          go_wp2_with (at_builtin; go_loud (refine wpList_append_own_at _ rfl _ _ 27 rfl 0 5 i0 (.int .u8 0) 1 1 Try.underlying27 hi hz0 hz1 hz2 rfl (by decide) sv bs.length (cells8 bs) rfl (Hown.out.alloc _) ⟨wr.heap.size, 0, none⟩ 1 1 [.int .u8 0] rfl rfl (cell_one_new _ _ _) (cells8_one [0]) Hb.1 Hb.2 (Nat.zero_le _) ?_; intro v' w1 hown' hgrow _ hrow'; obtain ⟨gr, cap, rfl, _, _⟩ := hown'.form (Nat.succ_pos _); have hblk1 := (Hblk.out.alloc _).grown hgrow (own_blk_ne Hown.out Hblk.out (by decide)).symm; have hd0 := hblk1.cell 0; have hd1 := hblk1.cell 1; have he0 := hblk1.frozen 0; have he1 := hblk1.frozen 1; simp at hd0 hd1; have Hblk1 := Lib.hid hblk1; have Hown' := Lib.hid hown'; have Hgrow := Lib.hid hgrow; have Hrow' := Lib.hid hrow'; clear hblk1 hown' hgrow hrow'))
          go_meet
          case rel =>
            obtain ⟨row2, e1, e2, e3⟩ := put_grow Hblk.out Hown.out Hrow.out Hlt.out Hlf.out Hval.out HN.out Hmod.out Hrr.out Hgrow.out Hown'.out Hrow'.out
            exact ⟨row2, 8, by omega, by omega, e1, e2, e3⟩
        · have hfb : ((free : Int) == 0) = false := by simp; omega
          rw [hfb]
          go_wp2_with fail
          go_meet
          case rel => exact ⟨row', free, by omega, by omega, ⟨sv, bs, Hblk.out, Hown.out, Hrow.out, Hlt.out, Hlf.out, Hval.out, HN.out⟩, Hmod.out, Hrr.out⟩
      case rest =>
        obtain ⟨row2, free2, hr1, hr2, ⟨sv2, bs2, hblk2, hown2, hrow2, hlt2, hlf2, hval2, hN2⟩, hmod2, hrr2⟩ := hcut
        obtain ⟨bs0, b, rfl⟩ := snoc_of_ne (bs := bs2) (by rintro rfl; simp at hlf2; omega)
        obtain ⟨gr, cap, rfl, _, _⟩ := hown2.form (by simp)
        obtain ⟨m, hm, hm1, hm2, hm3⟩ : ∃ m : Nat, (if free2 < gk then (free2 : Int) else (gk : Int)) = (m : Int) ∧ 0 < m ∧ m ≤ gk ∧ m ≤ free2 := by
          by_cases h : free2 < gk
          · exact ⟨free2, by rw [if_pos h], by omega, by omega, by omega⟩
          · exact ⟨gk, by rw [if_neg h], by omega, by omega, by omega⟩
        obtain ⟨d, hd⟩ : ∃ d : Nat, d = gk - m := ⟨_, rfl⟩
        obtain ⟨f, hf⟩ : ∃ f : Nat, f = free2 - m := ⟨_, rfl⟩
        have hd1 : (gk : Int) - (m : Int) = (d : Int) := by omega
        have hf1 : (free2 : Int) - (m : Int) = (f : Int) := by omega
        have Hd := Lib.hid hd; have Hf := Lib.hid hf
        have hd64 : d ≤ 64 := by omega
        have hf8' : f ≤ 8 := by omega
        have hm8 : m ≤ 8 := by omega
        have Hfm : Hid (f + m = free2) := Lib.hid (by omega)
        clear hd hf
        clear hc0 hc1 hf0 Hblk Hown Hrow Hlt Hlf Hval HN Hmod Hrr
        have hc0 := hblk2.cell 0
        have hc1 := hblk2.cell 1
        have hf0 := hblk2.frozen 0
        have hf1' := hblk2.frozen 1
        simp at hc0 hc1
        have Hblk2 := Lib.hid hblk2; have Hown2 := Lib.hid hown2; have Hrow2 := Lib.hid hrow2; have Hlt2 := Lib.hid hlt2; have Hlf2 := Lib.hid hlf2; have Hval2 := Lib.hid hval2; have HN2 := Lib.hid hN2
        have Hmod2 := Lib.hid hmod2; have Hrr2 := Lib.hid hrr2
        clear hblk2 hown2 hrow2 hlt2 hlf2 hval2 hN2 hmod2 hrr2
        go_upto_region 8 with fail
        generalize hW : wc.setCell ⟨g, 1, none⟩ (.int .u64 (f : Int)) = W1
        have hblk3 : Blk W1 g 68 #[.slice (some ⟨gr, 0, none⟩) (bs0 ++ [b]).length cap, .int .u64 (f : Int)] := by rw [← hW]; simpa using Hblk2.out.set_ 1 (.int .u64 (f : Int))
        have hmod3 : Mod (fun i => i = g) wc W1 := by rw [← hW]; exact (Mod.refl (fun i => i = g) wc).setCell (p := ⟨g, 1, none⟩) (fun _ => rfl) _
        have hne3 := own_blk_ne Hown2.out Hblk2.out (by decide)
        have hown3 := hmod3.owns Hown2.out (fun k hk e => hne3 (by rw [hk, e]))
        clear hd1 hf1 hm
        have hd0 := hblk3.cell 0
        have hd1 := hblk3.cell 1
        have hdb := hown3.cellAt bs0.length (by simp)
        have hfb := hown3.frozenAt bs0.length
        rw [cells8_snoc, List.getElem?_append_right (by simp [cells8]), cells8_length, Nat.sub_self] at hdb
        simp at hd0 hd1 hdb
        have Hblk3 := Lib.hid hblk3; have Hmod3 := Lib.hid hmod3; have Hown3 := Lib.hid hown3; have Hne3 := Lib.hid hne3
        clear hblk3 hmod3 hown3 hne3 hW
        have hbl : bs0.length ≤ 1000000000 := by have := Hlf2.out; simp at this; omega
        have hw1 : IntKind.i64.wrap (bs0.length : Int) = (bs0.length : Int) := IntWalk.i64_in _ (by omega)
        have hx0 : (0 : Int) ≤ (bs0.length : Int) := by omega
        have hx1 : (bs0.length : Int) < (bs0.length : Int) + 1 := by omega
        go_still_tail 24, (by kernel_rfl)
        still_call (low_of v d m _ Hv1 hm8)
        repeat still_step
        refine wpStill_nil ?_
        rw [or_val v d m f b bs0 _ (lt256_snoc.1 Hlt2.out).2 (by have := Hfm.out; omega) (by rw [Hfm.out]; exact Hval2.out)]
        change wpList _ _ _ _ _ W1.drew
        have hd0' : W1.drew.cell? ⟨gr, bs0.length, none⟩ = _ := hdb
        have hd1' : W1.drew.frozen? ⟨gr, bs0.length, none⟩ = _ := hfb
        have Hblk4 : Hid (Blk W1.drew g _ _) := Lib.hid Hblk3.out
        have Hmod4 := Lib.hid (Hmod3.out.drew)
        have Hown4 : Hid (W1.drew.ownsRow _ _ _ _ _ _) := Lib.hid Hown3.out.drew
        clear hdb hfb hd0 hd1 Hblk3 Hmod3 Hown3
        generalize W1.drew = W2 at *
        go_wp2
        go_roundg d
        case measure => have := Hd.out; omega
        case rel =>
          refine ⟨by have := Hd.out; omega, rfl, ?_⟩
          exact put_fill hm1 hm2 hm3 hr2 hl Hd.out Hf.out Hrow2.out Hlt2.out Hlf2.out Hval2.out HN2.out Hmod2.out Hrr2.out Hblk4.out Hmod4.out Hown4.out
end Go.Proofs.Ytldjobaafambbaa

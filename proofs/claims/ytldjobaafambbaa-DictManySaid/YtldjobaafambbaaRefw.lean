import Derived.Test.YtldjobaafambbaaBitw
namespace Go.Proofs.Ytldjobaafambbaa
open Go.RowKit

def bval (L : List Nat) : Nat := L.foldl (fun a b => a * 2 + b) 0
theorem bval_snoc (L : List Nat) (b : Nat) : bval (L ++ [b]) = bval L * 2 + b := by simp [bval]
def lt2 (L : List Nat) : Prop := ∀ b ∈ L, b < 2
theorem lt2_snoc {L : List Nat} {b : Nat} (h : lt2 L) (hb : b < 2) : lt2 (L ++ [b]) := by
  intro x hx
  rcases List.mem_append.1 hx with h1 | h1
  · exact h x h1
  · simp at h1; omega

/-- The document's own writer at block g: its bits, one to a byte. -/
def RWr (w : World) (g : Nat) (row : Option Nat) (N len : Nat) : Prop :=
  ∃ (v : Value) (L : List Nat), Blk w g 75 #[v] ∧ w.ownsRow 0 5 1 v L.length (cells8 L) ∧ v.ownBlock = row ∧ lt2 L ∧ L.length = len ∧ bval L = N
def RPutTo (w wr : World) (g : Nat) (row : Option Nat) (N len u k l : Nat) : Prop :=
  ∃ row', RWr wr g row' (N * 2 ^ (k - l) + u / 2 ^ l) (len + (k - l)) ∧ Mod (fun i => i = g ∨ row = some i) w wr ∧ RowTo w row row'

theorem bit_u64 (v l : Nat) (hv : v < 18446744073709551616) : bits BinOp.and IntKind.u64 ((v : Int) / 2 ^ l) 1 = ((v / 2 ^ l % 2 : Nat) : Int) := by
  have e : (v : Int) / 2 ^ l = ((v / 2 ^ l : Nat) : Int) := by simp
  have h1 := Nat.div_le_self v (2 ^ l)
  rw [e]
  generalize v / 2 ^ l = x at *
  have := u64_and_nat x 1 (by omega) (by decide)
  rw [nat_mask1] at this
  exact this

theorem rput_step {w wr w1 : World} {g gr cap : Nat} {row row' : Option Nat} {N len v k l b : Nat} {sv : Value} {L : List Nat} (hl : l + 1 ≤ k) (hb : b = v / 2 ^ l % 2) (hblk : Blk wr g 75 #[sv]) (hown : wr.ownsRow 0 5 1 sv L.length (cells8 L))
    (hrow : sv.ownBlock = row') (hlt : lt2 L) (hlen : L.length = len + (k - (l + 1))) (hval : bval L = N * 2 ^ (k - (l + 1)) + v % 2 ^ k / 2 ^ (l + 1)) (hmod : Mod (fun i => i = g ∨ row = some i) w wr) (hrr : RowTo w row row')
    (hgrow : (wr.alloc (.cells #[.int .u8 (b : Int)] 5)).grownBy w1 sv.ownBlock) (hown' : w1.ownsRow 0 5 1 (.slice (some ⟨gr, 0, none⟩) (L.length + 1) cap) (L.length + 1) (cells8 L ++ [.int .u8 (b : Int)]))
    (hrow' : (Value.slice (some ⟨gr, 0, none⟩) (L.length + 1) cap).ownBlock = sv.ownBlock ∨ (Value.slice (some ⟨gr, 0, none⟩) (L.length + 1) cap).ownBlock = some (wr.alloc (.cells #[.int .u8 (b : Int)] 5)).heap.size) :
    RPutTo w (w1.setCell ⟨g, 0, none⟩ (.slice (some ⟨gr, 0, none⟩) (L.length + 1) cap)) g row N len (v % 2 ^ k) k l := by
  subst hrow
  have hne := own_blk_ne hown hblk (by decide)
  have hblk1 := (hblk.alloc (.cells #[.int .u8 (b : Int)] 5)).grown hgrow hne.symm
  have hne1 := own_blk_ne hown' hblk1 (by decide)
  refine ⟨some gr, ⟨.slice (some ⟨gr, 0, none⟩) (L.length + 1) cap, L ++ [b], ?_, ?_, rfl, lt2_snoc hlt (by omega), by simp; omega, ?_⟩, ?_, ?_⟩
  · simpa using hblk1.set_ 0 (.slice (some ⟨gr, 0, none⟩) (L.length + 1) cap)
  · have h1 : Mod (fun i => i = g) w1 (w1.setCell ⟨g, 0, none⟩ (.slice (some ⟨gr, 0, none⟩) (L.length + 1) cap)) := (Mod.refl (fun i => i = g) w1).setCell (p := ⟨g, 0, none⟩) (fun _ => rfl) _
    have := h1.owns hown' (fun k hk e => hne1 (by rw [hk, e]))
    rw [cells8_snoc]
    simpa using this
  · have e1 := bits_more (v % 2 ^ k) (l + 1) 1 (by omega)
    rw [Nat.add_sub_cancel, mod_div_mod v k l 1 hl, Nat.pow_one, ← hb] at e1
    rw [bval_snoc, hval, e1, Nat.add_mul, Nat.mul_assoc, ← Nat.pow_succ, show (k - (l + 1)).succ = k - l by omega]
    omega
  · refine ((hmod.alloc _).grown hgrow ?_).setCell (fun _ => .inl rfl) _
    intro k hk hlt'
    exact .inr (hrr.in_ hk hlt')
  · refine hrr.trans (B := wr.heap.size) hmod.size ?_
    rcases hrow' with h | h
    · exact .inl h
    · exact .inr ⟨_, h, by simp⟩

set_option maxHeartbeats 1000000 in
set_option maxRecDepth 100000 in
theorem rput_any (g : Nat) (row : Option Nat) (N len k : Nat) (v : Nat) (n : Int) (w : World) (hk : max 0 (min n 64) = (k : Int)) (hv : Lt64 v) (hw : RWr w g row N len) (hlen : len ≤ 1000000000) :
    Calls Try.prog 39 #[.pointer (some ⟨g, 0, none⟩), .int .u64 (v : Int), .int .i64 n] w fun e w' => e = .returned (.tuple #[]) ∧
      RPutTo w w' g row N len (v % 2 ^ k) k 0 := by
  have hk64 : k ≤ 64 := by omega
  obtain ⟨mx, hmx, hmx2⟩ : ∃ mx : Int, (if n < 0 then (0 : Int) else n) = mx ∧ mx = max n 0 := ⟨_, rfl, by split <;> omega⟩
  have hmn : (if 64 < mx then (64 : Int) else mx) = (k : Int) := by split <;> omega
  have Hw := Lib.hid hw
  clear hw hk hmx2
  go_enter Try.func39, Try.ntmps39
  go_wp2_with fail
  clear hmx hmn
  go_loopg [6] k (fun l s6 wr => l ≤ k ∧ s6 = .int .i64 ((l : Int) - 1) ∧ RPutTo w wr g row N len (v % 2 ^ k) k l)
  case atStart =>
    refine ⟨Nat.le_refl _, rfl, row, ?_, Mod.refl _ _, .inl rfl⟩
    have e : v % 2 ^ k / 2 ^ k = 0 := Nat.div_eq_of_lt (Nat.mod_lt _ (Nat.two_pow_pos k))
    rw [Nat.sub_self, e, Nat.pow_zero, Nat.mul_one, Nat.add_zero, Nat.add_zero]
    exact Hw.out
  case round =>
    obtain ⟨hl, rfl, hP⟩ := hrel
    have HP := Lib.hid hP
    clear hP Hw
    by_cases hl0 : gk = 0
    · subst hl0
      go_wp2
      go_end0
      exact ⟨rfl, HP.out⟩
    · obtain ⟨l, rfl⟩ : ∃ l, gk = l + 1 := ⟨gk - 1, by omega⟩
      obtain ⟨row', ⟨sv, L, hblk, hown, hrow, hlt, hlen', hval⟩, hmod, hrr⟩ := HP.out
      have hc0 := hblk.cell 0
      have hf0 := hblk.frozen 0
      simp at hc0
      have hi1 : ((l + 1 : Nat) : Int) - 1 = (l : Int) := by omega
      rw [hi1]
      have Hlen' := Lib.hid hlen'; have Hval := Lib.hid hval; have Hrow := Lib.hid hrow; have Hrr := Lib.hid hrr; have Hlt := Lib.hid hlt; have Hown := Lib.hid hown
      have Hmod := Lib.hid hmod; have Hblk := Lib.hid hblk
      clear hlen' hval hrow hrr hlt hown hmod hblk HP hl0 hi1
      obtain ⟨b, hb⟩ : ∃ b, b = v / 2 ^ l % 2 := ⟨_, rfl⟩
      have hb2 : b < 2 := by omega
      have hbit : bits BinOp.and IntKind.u64 ((v : Int) / 2 ^ l) 1 = (b : Int) := by rw [bit_u64 v l hv.out, hb]
      have hb256 : (b : Int) % 256 = (b : Int) := by omega
      have Hb := Lib.hid hb
      clear hb
      obtain ⟨i0, hi, hz0, hz1, hz2⟩ := info_parts Try.info5
      have Hroom : Room L.length 1 := Room.mk _ _ (by have := Hlen'.out; omega)
      go_wp2_with (at_builtin; refine wpList_append_own_at _ rfl _ _ 27 rfl 0 5 i0 (.int .u8 0) 1 1 Try.underlying27 hi hz0 hz1 hz2 rfl (by decide) sv L.length (cells8 L) rfl (Hown.out.alloc _) ⟨wr.heap.size, 0, none⟩ 1 1 [.int .u8 (b : Int)] rfl rfl (cell_one_new _ _ _) (cells8_one [b]) Hroom.1 Hroom.2 (Nat.zero_le _) ?_; intro v' w1 hown' hgrow _ hrow'; obtain ⟨gr, cap, rfl, _, _⟩ := hown'.form (Nat.succ_pos _); have hblk1 := (Hblk.out.alloc _).grown hgrow (own_blk_ne Hown.out Hblk.out (by decide)).symm; have hd0 := hblk1.cell 0; have he0 := hblk1.frozen 0; simp at hd0; have Hblk1 := Lib.hid hblk1; have Hown' := Lib.hid hown'; have Hgrow := Lib.hid hgrow; have Hrow' := Lib.hid hrow'; clear hblk1 hown' hgrow hrow')
      go_roundg l
      case measure => omega
      case rel => exact ⟨by omega, rfl, rput_step hl Hb.out Hblk.out Hown.out Hrow.out Hlt.out Hlen'.out Hval.out Hmod.out Hrr.out Hgrow.out Hown'.out Hrow'.out⟩
end Go.Proofs.Ytldjobaafambbaa

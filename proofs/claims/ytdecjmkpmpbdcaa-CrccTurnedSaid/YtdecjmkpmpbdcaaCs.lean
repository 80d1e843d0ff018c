/- The sum of bytes, of the code and of the document's own answer. -/
import Derived.Test.YtdecjmkpmpbdcaaCt
namespace Go.Proofs.Ytdecjmkpmpbdcaa
open Go.RowKit

def Tab (T : Nat → Nat) : Prop := ∀ j, j < 256 → T j < 4294967296
theorem tab_ent : Tab ent := fun _ hj => ent_lt (by omega)
theorem u32_xor_ones (x : Nat) (h : x < 4294967296) : bits .xor .u32 (x : Int) 4294967295 = ((x ^^^ 4294967295 : Nat) : Int) := u32_xor_nat x 4294967295 h (by decide)
/-- What has been summed, at the i-th byte. -/
def SumTo (T : Nat → Nat) (bs : List Nat) (i c : Nat) : Prop := c < 4294967296 ∧ sumF T 4294967295 bs = sumF T c (bs.drop i)
theorem sumTo_zero (T : Nat → Nat) (bs : List Nat) : SumTo T bs 0 4294967295 := ⟨by decide, rfl⟩
theorem sumTo_more {T : Nat → Nat} {bs : List Nat} {i c x y k q z : Nat} (hT : Tab T) (h : SumTo T bs i c) (hx : bs[i]? = some x) (hxl : x < 256) (hy : y = c % 256) (hk : k = y ^^^ x) (hq : q = c / 256) (hz : z = T k ^^^ q) : SumTo T bs (i + 1) z := by
  subst hy hk hq hz
  refine ⟨xor_lt (hT _ (xor_lt8 (Nat.mod_lt _ (by decide)) hxl)) (by have := h.1; omega), ?_⟩
  obtain ⟨h1, h2⟩ := List.getElem?_eq_some_iff.1 hx
  rw [h.2, List.drop_eq_getElem_cons h1, h2]
  rfl
theorem sumTo_all {T : Nat → Nat} {bs : List Nat} {i c : Nat} (h : SumTo T bs i c) (hi : bs.length ≤ i) : bits .xor .u32 (c : Int) 4294967295 = (sumN T bs : Int) := by
  rw [u32_xor_ones c h.1]
  have h2 := h.2
  rw [List.drop_eq_nil_of_le hi] at h2
  show _ = ((sumF T 4294967295 bs ^^^ 4294967295 : Nat) : Int)
  rw [h2]
  rfl
theorem byte_at {w : World} {B n i : Nat} {A : Option Addr} {bs : List Nat} (h : Rds w B A n (cells8 bs)) (hlt : lt256 bs) (hi : i < n) : ∃ ad x, A = some ad ∧ bs[i]? = some x ∧ x < 256 ∧ w.cell? (ad.add i) = some (.int .u8 (x : Int)) := by
  obtain ⟨ad, u, e, _, hu, hc⟩ := h.at_ hi
  rw [cells8_get] at hu
  cases hb : bs[i]? with
  | none => rw [hb] at hu; cases hu
  | some x =>
    rw [hb] at hu
    refine ⟨ad, x, e, rfl, hlt x (List.mem_of_getElem? hb), ?_⟩
    rw [hc]
    exact congrArg some (by simpa using hu.symm)

set_option maxHeartbeats 1000000 in
set_option maxRecDepth 100000 in
theorem sum_any (T : Nat → Nat) (hT : Tab T) (A : Option Addr) (n c B : Nat) (bs : List Nat) (w : World) (hs : Rds w B A n (cells8 bs)) (hlt : lt256 bs) (hn : n ≤ maxLen) :
    Calls Try.prog 7 #[.agg (tabOf T), .slice A n c] w fun e w' => e = .returned (.int .u32 (sumN T bs : Int)) ∧ Below w.heap.size w w' := by
  have hlen : bs.length = n := by have := hs.1; rwa [cells8_length] at this
  unfold maxLen at hn
  have HB := Lib.hid (Blk.new w 26 (tabOf T))
  have Hb := Lib.hid ((Below.refl w.heap.size w).alloc (Nat.le_refl _) (.cells (tabOf T) 26))
  have Hs := Lib.hid (hs.fit.alloc (Nat.le_refl _) (.cells (tabOf T) 26)); have Hlt := Lib.hid hlt; have Hlen := Lib.hid hlen; have HT := Lib.hid hT
  clear hs hlt hlen hT
  go_enter Try.func7, Try.ntmps7
  go_wp2
  generalize w.alloc (.cells (tabOf T) 26) = W at *
  generalize hg : w.heap.size = g at *
  have Hg := Lib.hid hg
  clear hg
  go_loop [5, 10] (fun s5 s10 => ∃ i c : Nat, i ≤ n ∧ s10 = .int .i64 (i : Int) ∧ s5 = .int .u32 (c : Int) ∧ SumTo T bs i c) (fun _ s10 => n - (intOf s10).toNat)
  case atStart => exact ⟨0, 4294967295, by omega, rfl, rfl, sumTo_zero T bs⟩
  case round =>
    obtain ⟨i, c, hin, rfl, rfl, hS⟩ := hrel
    by_cases hi : i < n
    · obtain ⟨ad, x, rfl, hx, hxl, hcell⟩ := byte_at Hs.out Hlt.out hi
      have hcl := hS.1
      obtain ⟨y, hy, hy2⟩ : ∃ y : Nat, (c : Int) % 256 = (y : Int) ∧ y = c % 256 := ⟨c % 256, by omega, rfl⟩
      have hyl : y < 256 := by omega
      obtain ⟨k, hk, hk2⟩ : ∃ k : Nat, bits .xor .u8 (y : Int) (x : Int) = (k : Int) ∧ k = y ^^^ x := ⟨_, u8_xor_nat y x hyl hxl, rfl⟩
      have hkl : k < 256 := hk2 ▸ xor_lt8 hyl hxl
      obtain ⟨q, hq, hq2⟩ : ∃ q : Nat, (c : Int) / 256 = (q : Int) ∧ q = c / 256 := ⟨c / 256, by omega, rfl⟩
      obtain ⟨z, hz, hz2⟩ : ∃ z : Nat, bits .xor .u32 (T k : Int) (q : Int) = (z : Int) ∧ z = T k ^^^ q := ⟨_, u32_xor_nat _ q (HT.out k hkl) (by omega), rfl⟩
      have htab := HB.out.cell k
      rw [tabOf_get T k hkl] at htab
      have hki : (k : Int) < 256 := by omega
      have HS := Lib.hid (sumTo_more HT.out hS hx hxl hy2 hk2 hq2 hz2)
      clear hS hx hy2 hk2 hq2 hz2
      go_wp2
      go_round
      case rel => exact ⟨i + 1, z, by omega, by go_num, rfl, HS.out⟩
      case measure => simp [intOf]; omega
    · have hr := sumTo_all hS (by have := Hlen.out; omega)
      clear hS
      go_wp2
      go_ret
      exact ⟨rfl, by rw [Hg.out]; exact Hb.out⟩

set_option maxHeartbeats 1000000 in
set_option maxRecDepth 100000 in
theorem rsum_any (A : Option Addr) (n c B : Nat) (bs : List Nat) (w : World) (hs : Rds w B A n (cells8 bs)) (hlt : lt256 bs) (hn : n ≤ maxLen) :
    Calls Try.prog 11 #[.slice A n c] w fun e w' => e = .returned (.int .u32 (sumN ent bs : Int)) ∧ w = w' := by
  have hlen : bs.length = n := by have := hs.1; rwa [cells8_length] at this
  unfold maxLen at hn
  have Hs := Lib.hid hs; have Hlt := Lib.hid hlt; have Hlen := Lib.hid hlen
  clear hs hlt hlen
  go_enter Try.func11, Try.ntmps11
  go_wp2
  go_loop [3, 4] (fun s3 s4 => ∃ i c : Nat, i ≤ n ∧ s4 = .int .i64 (i : Int) ∧ s3 = .int .u32 (c : Int) ∧ SumTo ent bs i c) (fun _ s4 => n - (intOf s4).toNat)
  case atStart => exact ⟨0, 4294967295, by omega, rfl, rfl, sumTo_zero ent bs⟩
  case round =>
    obtain ⟨i, c, hin, rfl, rfl, hS⟩ := hrel
    by_cases hi : i < n
    · obtain ⟨ad, x, rfl, hx, hxl, hcell⟩ := byte_at Hs.out Hlt.out hi
      have hcl := hS.1
      have hxw : IntKind.u32.wrap (x : Int) = (x : Int) := by rw [IntKind.wrap_u32']; omega
      obtain ⟨y, hy, hy2⟩ : ∃ y : Nat, bits .xor .u32 (c : Int) (x : Int) = (y : Int) ∧ y = c ^^^ x := ⟨_, u32_xor_nat c x hcl (by omega), rfl⟩
      have hyl : y < 4294967296 := hy2 ▸ xor_lt hcl (by omega)
      obtain ⟨k, hk, hk2⟩ : ∃ k : Nat, bits .and .u32 (y : Int) 255 = (k : Int) ∧ k = y % 256 := ⟨_, u32_and255 y hyl, rfl⟩
      have hkl : k < 256 := by omega
      have hk3 : k = c % 256 ^^^ x := by rw [hk2, hy2, xor_mod256, Nat.mod_eq_of_lt hxl]
      obtain ⟨q, hq, hq2⟩ : ∃ q : Nat, (c : Int) / 256 = (q : Int) ∧ q = c / 256 := ⟨c / 256, by omega, rfl⟩
      obtain ⟨z, hz, hz2⟩ : ∃ z : Nat, bits .xor .u32 (ent k : Int) (q : Int) = (z : Int) ∧ z = ent k ^^^ q := ⟨_, u32_xor_nat _ q (tab_ent k hkl) (by omega), rfl⟩
      have HS := Lib.hid (sumTo_more tab_ent hS hx hxl rfl hk3 hq2 hz2)
      clear hS hx hy2 hk2 hk3 hq2 hz2
      go_wp2_with fail
      refine (rentry_any k _ (by omega)).mono ?_
      rintro e w1 ⟨rfl, rfl⟩
      go_wp2
      go_round
      case rel => exact ⟨i + 1, z, by omega, by go_num, rfl, HS.out⟩
      case measure => simp [intOf]; omega
    · have hr := sumTo_all hS (by have := Hlen.out; omega)
      clear hS
      go_wp2
      go_ret
      exact ⟨rfl, rfl⟩
end Go.Proofs.Ytdecjmkpmpbdcaa

/- A word is laid of numbers: pack. -/
import Derived.Test.YthhcfngnbgckmaaDoorSk
namespace Go.Proofs.YthhcfngnbgckmaaDoor
open Go.RowKit

/-- One number more. -/
theorem pack_step {k i x : Nat} {us : List Nat} (hk : k < 16) (hi : i < numN k) (hx : us[i]? = some x) (hu : ∀ x ∈ us, x < 2 ^ bitN k) :
    i * bitN k ≤ 60 ∧ x * 2 ^ (i * bitN k) < 2 ^ 60 ∧ bits .or .u64 (wordN k (us.take i) : Int) ((x * 2 ^ (i * bitN k) : Nat) : Int) = (wordN k (us.take (i + 1)) : Int) ∧ wordN k (us.take i) < 2 ^ 64 := by
  have hnp := num_pos hk
  have hxs := hu x (List.mem_of_getElem? hx)
  obtain ⟨hl, rfl⟩ := List.getElem?_eq_some_iff.1 hx
  have h1 : (i + 1) * bitN k ≤ 60 := Nat.le_trans (Nat.mul_le_mul_right _ hi) hnp.2.2.1
  have h2 : us[i] * 2 ^ (i * bitN k) < 2 ^ 60 := by
    have h3 : us[i] * 2 ^ (i * bitN k) < 2 ^ bitN k * 2 ^ (i * bitN k) := Nat.mul_lt_mul_of_pos_right hxs (Nat.two_pow_pos _)
    rw [← Nat.pow_add] at h3
    refine Nat.lt_of_lt_of_le h3 (Nat.pow_le_pow_right (by omega) ?_)
    rw [Nat.add_mul, Nat.one_mul] at h1
    omega
  have hlt : (us.take i).length = i := by rw [List.length_take]; omega
  have hut : ∀ x ∈ us.take i, x < 2 ^ bitN k := fun x hx => hu x (List.mem_of_mem_take hx)
  have h4 := (word_kind hk (xs := us.take i) (by omega) hut).2.2
  refine ⟨by rw [Nat.add_mul] at h1; omega, h2, ?_, h4⟩
  rw [u64_or_nat _ _ h4 (by omega), word_or hk hlt hi hut hxs, List.take_succ_eq_append_getElem hl]
set_option maxHeartbeats 1000000 in
set_option maxRecDepth 100000 in
theorem pack_any (A : Option Addr) (n cap B k : Nat) (us : List Nat) (w : World) (hs : Rds w B A n (cellsU us)) (hB : B ≤ w.heap.size) (hk : k < 16) (hn : n ≤ numN k) (hu : ∀ x ∈ us, x < 2 ^ bitN k) (hkin : Kin w) :
    Calls Tryd.prog 13 #[.int .i64 (k : Int), .slice A n cap] w fun e w' => e = .returned (.int .u64 (wordN k us : Int)) ∧ w = w' := by
  have hul : us.length = n := by have := hs.1; rwa [cellsU_length] at this
  have hnp := num_pos hk
  have Hs := Lib.hid hs; have Hu := Lib.hid hu; have HB := Lib.hid hB; have Hul := Lib.hid hul; have Hn := Lib.hid hn
  obtain ⟨s, hs⟩ : ∃ s, s = bitN k := ⟨_, rfl⟩
  have hs2 : s ≤ 60 := by rw [hs]; exact hnp.2.2.2
  have hn2 : n ≤ 240 := by omega
  have hd1 := (hkin.2 k hk).2
  rw [← hs] at hd1
  have Hss := Lib.hid hs
  obtain ⟨T, hT⟩ : ∃ T, T = wordN k [] := ⟨_, rfl⟩
  have HT := Lib.hid hT
  have hTe : T = k * 1152921504606846976 := by rw [hT]; show k * 2 ^ 60 + 0 = _; omega
  have hk0 : (0 : Int) ≤ (k : Int) := by omega
  clear hs hu hB hkin hnp hul hn hT
  go_enter Tryd.func13, Tryd.ntmps13
  go_wp2_with fail
  go_loopg [5, 13] n (fun l s5 s13 wr => ∃ (i a : Nat), i + l = n ∧ s13 = .int .i64 (i : Int) ∧ s5 = .int .u64 (a : Int) ∧ a = wordN k (us.take i) ∧ wr = w)
  case atStart => exact ⟨0, T, by omega, rfl, by rw [hTe]; go_num, HT.out, rfl⟩
  case round =>
    obtain ⟨i, a, hil, rfl, rfl, ha, rfl⟩ := hrel
    have Hil := Lib.hid hil; have Ha := Lib.hid ha
    clear hil ha hTe
    by_cases hin : i < n
    · obtain ⟨ad, x, rfl, hx, hcx⟩ := Hs.out.at2 hin HB.out (Mod.refl (fun _ => False) _) (fun _ _ h => h)
      have Hx := Lib.hid hx
      have hxs := Lib.hid (Hu.out x (List.mem_of_getElem? hx))
      have hwo := pack_step hk (Nat.lt_of_lt_of_le hin Hn.out) Hx.out Hu.out
      rw [← Ha.out, ← Hss.out] at hwo
      obtain ⟨hp60, hb, hor, hle⟩ := hwo
      obtain ⟨p, hp⟩ : ∃ p, p = i * s := ⟨_, rfl⟩
      rw [← hp] at hp60 hb hor
      have hpi : (i : Int) * (s : Int) = (p : Int) := by rw [hp]; simp
      obtain ⟨b, hbe⟩ : ∃ b, b = x * 2 ^ p := ⟨_, rfl⟩
      rw [← hbe] at hb hor
      have hbi : (x : Int) * 2 ^ p = (b : Int) := by rw [hbe]; simp
      obtain ⟨a2, ha2⟩ : ∃ a2, a2 = wordN k (us.take (i + 1)) := ⟨_, rfl⟩
      rw [← ha2] at hor
      have Ha2 := Lib.hid ha2
      clear hx hp hbe ha2
      go_wp2_with fail
      go_roundg (gk - 1)
      case measure => have := Hil.out; omega
      case rel => exact ⟨i + 1, a2, by have := Hil.out; omega, by go_num, rfl, Ha2.out, rfl⟩
    · go_wp2_with fail
      go_ret
      have hi : i = n := by have := Hil.out; omega
      refine ⟨ret_int ?_, rfl⟩
      rw [Ha.out, List.take_of_length_le (by rw [Hul.out]; omega)]
end Go.Proofs.YthhcfngnbgckmaaDoor

/- The document's own times are told: Times. -/
import Derived.Test.YtjphlbnbgpjfmaaDoorRt
import Derived.Deep.QuietTactic
namespace Go.Proofs.YtjphlbnbgpjfmaaDoor
open Go.RowKit

theorem RWr.mod {w w1 : World} {S : Nat → Prop} {g : Nat} {row : Option Nat} {N len : Nat} (h : RWr w g row N len) (hm : Mod S w w1) (h1 : ¬ S g) (h2 : ∀ k, row = some k → ¬ S k) : RWr w1 g row N len := by
  obtain ⟨v, L, hblk, hown, hrow, rest⟩ := h
  exact ⟨v, L, hm.blk hblk h1, hm.owns hown (fun k hk => h2 k (by rw [← hrow]; exact hk)), hrow, rest⟩
theorem RWr.lt {w : World} {g : Nat} {row : Option Nat} {N len : Nat} (h : RWr w g row N len) : g < w.heap.size := by
  obtain ⟨v, L, hblk, _⟩ := h
  exact hblk.lt
theorem RWr.row_lt {w : World} {g : Nat} {row : Option Nat} {N len : Nat} (h : RWr w g row N len) : ∀ k, row = some k → k < w.heap.size := by
  obtain ⟨v, L, hblk, hown, hrow, _⟩ := h
  intro k hk
  exact (hown.lt k (by rw [hrow, hk])).2
def RWrote (w0 w : World) (g : Nat) (row : Option Nat) (N len : Nat) (fs : List (Nat × Nat)) : Prop :=
  ∃ row', RWr w g row' (N * 2 ^ flen fs + fnum fs) (len + flen fs) ∧ Mod (fun i => i = g ∨ row = some i) w0 w ∧ RowTo w0 row row'
section
variable {w0 w w' : World} {g N len : Nat} {row : Option Nat} {fs bs : List (Nat × Nat)}
theorem RWrote.refl (h : RWr w g row N len) : RWrote w w g row N len [] := ⟨row, by simpa [flen, fnum] using h, Mod.refl _ _, .inl rfl⟩
theorem RWrote.drewN (h : RWrote w0 w g row N len fs) (n : Nat) : RWrote w0 (w.drewN n) g row N len fs := by
  obtain ⟨row', a1, a2, a3⟩ := h
  exact ⟨row', a1.mod ((Mod.refl (fun _ => False) w).drewN n) (fun h => h) (fun _ _ h => h), a2.drewN n, a3⟩
end
theorem rput_wrote (w0 : World) (g : Nat) (row : Option Nat) (N len k : Nat) (fs : List (Nat × Nat)) (v : Nat) (V n : Int) (w : World) (hV : V = (v : Int)) (hn : n = (k : Int)) (hk : k ≤ 64) (hv : Lt64 v) (hw : RWrote w0 w g row N len fs) (hlen : len + flen fs ≤ 1000000000) :
    Calls Tryd.prog 28 #[.pointer (some ⟨g, 0, none⟩), .int .u64 V, .int .i64 n] w fun e w' => e = .returned (.tuple #[]) ∧ RWrote w0 w' g row N len (fs ++ [(v, k)]) := by
  subst hV hn
  obtain ⟨row', a1, a2, a3⟩ := hw
  refine (rput_any g row' _ _ k v (k : Int) w (by omega) hv a1 hlen).mono ?_
  rintro e w' ⟨rfl, row2, b1, b2, b3⟩
  refine ⟨rfl, row2, ?_, a2.more a3 b2, a3.two a2.size b3⟩
  rw [Nat.sub_zero, Nat.pow_zero, Nat.div_one] at b1
  have e1 : N * 2 ^ flen (fs ++ [(v, k)]) + fnum (fs ++ [(v, k)]) = (N * 2 ^ flen fs + fnum fs) * 2 ^ k + v % 2 ^ k := by
    rw [← num_snoc]
    show _ * 2 ^ (k + 0) + (v % 2 ^ k * 2 ^ 0 + 0) = _
    rw [Nat.add_zero, Nat.pow_zero, Nat.mul_one, Nat.add_zero]
  have e2 : len + flen (fs ++ [(v, k)]) = len + flen fs + k := by
    rw [flen_app]
    show len + (flen fs + (k + 0)) = _
    omega
  rw [e1, e2]
  exact b1
def REnc1 (w wr : World) (g : Nat) (row : Option Nat) (N len : Nat) (zs : List Int) (i : Nat) (last : Nat) : Prop :=
  ∃ fs, RWrote w wr g row N len fs ∧ (i = 0 → fs = [] ∧ last = 0) ∧ (0 < i → ∃ prev, zs[i - 1]? = some prev ∧ fs ++ encT prev last (zs.drop i) = encRow zs)
theorem kind_le (d : Int) : kindN d ≤ 64 ∧ longN d ≤ 64 ∧ Lt64 (headN d) := by
  refine ⟨by rw [kind_hd]; exact sz_le _, ?_, ?_⟩
  · unfold longN; split; omega; split; omega; split; omega; omega
  · unfold headN Lt64; split; omega; split; omega; split; omega; split; omega; omega
theorem stepU (x prev : Int) : IntKind.u64.wrap ((un x : Int) - (un prev : Int)) = (stepOf prev x : Int) := by
  rw [wrapU_un]
  unfold stepOf
  congr 1
  obtain ⟨a, ha⟩ := un_ex x
  obtain ⟨b, hb⟩ := un_ex prev
  exact un_of (k := a - b) (by rw [ha, hb, Int.sub_mul]; omega)
set_option maxHeartbeats 1000000 in
set_option maxRecDepth 100000 in
theorem rtimes_any (B g : Nat) (row : Option Nat) (N len n c : Nat) (A : Option Addr) (zs : List Int) (w : World) (hs : SeesI .i64 w B A n zs) (hz : ∀ x ∈ zs, Fits x) (hB : B ≤ w.heap.size) (hap : 0 < n → ∀ ad, A = some ad → ¬ (ad.block = g ∨ row = some ad.block))
    (hw : RWr w g row N len) (hlen : len + (64 + 68 * n) ≤ 900000000) :
    Calls Tryd.prog 15 #[.pointer (some ⟨g, 0, none⟩), .slice A n c] w fun e w' => e = .returned (.tuple #[]) ∧ RWrote w w' g row N len (encRow zs) := by
  have hzl := hs.1
  have Hs := Lib.hid hs; have Hz := Lib.hid hz; have HS := Lib.hid hap
  have H0 : Hid (REnc1 w w g row N len zs 0 0) := Lib.hid ⟨[], RWrote.refl hw, fun _ => ⟨rfl, rfl⟩, fun h => by omega⟩
  have Hzl := Lib.hid hzl
  have Htot : Hid (len + flen (encRow zs) ≤ 900000000) := Lib.hid (by have := encRow_len zs; rw [hzl] at this; omega)
  clear hs hz hw hap hzl
  go_enter Tryd.func15, Tryd.ntmps15
  go_wp2_with fail
  go_loopg [4, 5] n (fun l s4 s5 wr => ∃ (i last : Nat), i + l = n ∧ s5 = .int .i64 (i : Int) ∧ s4 = .int .u64 (last : Int) ∧ REnc1 w wr g row N len zs i last)
  case atStart => exact ⟨0, 0, by omega, rfl, rfl, H0.out⟩
  case round =>
    obtain ⟨i, last, hil, rfl, rfl, hE⟩ := hrel
    have HE := Lib.hid hE; have Hil := Lib.hid hil
    clear hE hil H0
    by_cases hin : i < n
    · obtain ⟨fs, hwr, he0, he1⟩ := HE.out
      obtain ⟨ad, x, rfl, hx, hcx⟩ := Hs.out.at2 hin hB (by obtain ⟨_, _, a2, _⟩ := hwr; exact a2) (HS.out (by omega))
      have Hx := Lib.hid hx
      have hxf := Lib.hid (Hz.out x (List.mem_of_getElem? hx))
      have Hdr := Lib.hid (drop_at hx)
      have hxu : IntKind.u64.wrap x = (un x : Int) := wrapU_un x
      have hul : Hid (Lt64 (un x)) := Lib.hid (un_lt x)
      clear hx
      by_cases hi0 : i = 0
      · obtain ⟨rfl, rfl⟩ := he0 hi0
        subst hi0
        have Hwr := Lib.hid hwr
        have hcx0 : wr.cell? ad = some (.int .i64 x) := by rw [← add_zero' ad]; exact hcx
        clear hwr he0 he1 HE
        go_wp2_with fail
        refine (rput_wrote w g row N len 64 [] (un x) _ _ _ rfl rfl (by omega) hul.out Hwr.out (by show len + 0 ≤ _; omega)).mono ?_
        rintro e w1 ⟨rfl, h1⟩
        have hd0 := Hdr.out
        rw [List.drop_zero] at hd0
        have H1 : Hid (REnc1 w w1 g row N len zs 1 0) := Lib.hid ⟨[(un x, 64)], h1, fun h => by omega, fun _ => ⟨x, Hx.out, by rw [hd0]; rfl⟩⟩
        clear h1 hd0 Hwr
        go_wp2_with fail
        go_roundg (gk - 1)
        case measure => have := Hil.out; omega
        case rel => exact ⟨1, 0, by have := Hil.out; omega, rfl, rfl, H1.out⟩
      · have hb0 : ((i : Int) == 0) = false := by simp; omega
        obtain ⟨prev, hpv, hE1⟩ := he1 (by omega)
        obtain ⟨ad', x', e', hx', hcp⟩ := Hs.out.at2 (show i - 1 < n by omega) hB (by obtain ⟨_, _, a2, _⟩ := hwr; exact a2) (HS.out (by omega))
        injection e' with e'
        subst e'
        rw [hpv] at hx'
        injection hx' with hx'
        subst hx'
        have hpu : IntKind.u64.wrap prev = (un prev : Int) := wrapU_un prev
        obtain ⟨st, hst⟩ : ∃ st, st = stepOf prev x := ⟨_, rfl⟩
        have h1 : IntKind.u64.wrap ((un x : Int) - (un prev : Int)) = (st : Int) := by rw [hst]; exact stepU x prev
        obtain ⟨dd, hdd⟩ : ∃ dd : Nat, dd = un ((st : Int) - (last : Int)) := ⟨_, rfl⟩
        have h2 : IntKind.u64.wrap ((st : Int) - (last : Int)) = (dd : Int) := by rw [hdd]; exact wrapU_un _
        obtain ⟨d, hd⟩ : ∃ d, d = diffOf prev last x := ⟨_, rfl⟩
        have h3 : wrap64 (dd : Int) = d := by
          rw [wrap_sg, hdd, un_nat (un_lt _), hd]
          unfold diffOf
          rw [hst]
        have hdu : IntKind.u64.wrap d = (un d : Int) := wrapU_un d
        have hi1 : IntKind.i64.wrap ((i : Int) - 1) = (i : Int) - 1 := IntWalk.i64_in _ (by omega)
        have hi2 : ((i : Int) - 1).toNat = i - 1 := by omega
        have hi3 : (0 : Int) ≤ (i : Int) - 1 := by omega
        have hi4 : (i : Int) - 1 < (n : Int) := by omega
        have hi5 : (i : Int) < (n : Int) := by omega
        have hi6 : (0 : Int) ≤ (i : Int) := by omega
        have Hwr := Lib.hid hwr; have HE1 := Lib.hid hE1; have Hd := Lib.hid hd; have Hst := Lib.hid hst
        have hl : Hid (len + flen fs ≤ 900000000) := Lib.hid (by have := Htot.out; rw [← HE1.out] at this; have := flen_le_app fs (encT prev last (zs.drop i)); omega)
        have hlt2 : Hid (len + flen (fs ++ [(headN d, longN d)]) ≤ 1000000000) := Lib.hid (by have := hl.out; have := (kind_le d).2.1; rw [flen_app]; show len + (flen fs + (longN d + 0)) ≤ _; omega)
        clear hwr he0 he1 HE hE1 hd hst hdd hpv hl
        go_upto_region 6 with fail
        go_quiet (fail)
        have Hwr2 := Lib.hid (Hwr.out.drewN nq)
        clear Hwr hcx hcp hi1 hi2 hi3 hi4 hi5 hi6 hpu hxu h1
        generalize wr.drewN nq = w2 at *
        go_wp2_with fail
        refine (kind_any d _).mono ?_
        rintro e w3 ⟨rfl, rfl⟩
        go_wp2_with fail
        refine (rput_wrote w g row N len (longN d) fs (headN d) _ _ _ rfl rfl (kind_le d).2.1 (kind_le d).2.2 Hwr2.out (by have := hlt2.out; rw [flen_app] at this; omega)).mono ?_
        rintro e w4 ⟨rfl, hw4⟩
        have Hw4 := Lib.hid hw4
        have hdul : Hid (Lt64 (un d)) := Lib.hid (un_lt d)
        clear hw4 Hwr2
        go_wp2_with fail
        refine (rput_wrote w g row N len (kindN d) _ (un d) _ _ _ rfl rfl (kind_le d).1 hdul.out Hw4.out hlt2.out).mono ?_
        rintro e w5 ⟨rfl, hw5⟩
        have H5 : Hid (REnc1 w w5 g row N len zs (i + 1) st) := Lib.hid ⟨_, hw5, fun h => by omega, fun _ => ⟨x, Hx.out, by
          rw [← HE1.out, Hdr.out, List.append_assoc, List.append_assoc, Hst.out, Hd.out]
          rfl⟩⟩
        clear hw5 Hw4
        go_wp2_with fail
        go_roundg (gk - 1)
        case measure => have := Hil.out; omega
        case rel => exact ⟨i + 1, st, by have := Hil.out; omega, by go_num, rfl, H5.out⟩
    · go_wp2_with fail
      go_end0
      refine ⟨rfl, ?_⟩
      obtain ⟨fs, hwr, he0, he1⟩ := HE.out
      have hil := Hil.out
      have hzl := Hzl.out
      rcases Nat.eq_zero_or_pos i with h0 | h0
      · obtain ⟨rfl, _⟩ := he0 h0
        have : zs = [] := List.eq_nil_of_length_eq_zero (by omega)
        subst this
        exact hwr
      · obtain ⟨prev, _, this⟩ := he1 h0
        rw [List.drop_of_length_le (by omega)] at this
        have e : fs = encRow zs := by rw [← this]; show fs = fs ++ []; simp
        rw [← e]
        exact hwr
end Go.Proofs.YtjphlbnbgpjfmaaDoor

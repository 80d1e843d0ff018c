/- The texts Vp, Vg, one behind the other. -/
import Derived.Test.YtldjobaafambbaaMg18
import Derived.Test.YtldjobaafambbaaMg3
import Derived.Test.YtldjobaafambbaaMg4
import Derived.Deep.DeepCutAuto
import Derived.Deep.LoopGhost
import Derived.StillTailTactics
/- Put, of the code and of the document's own answer. -/
namespace Go.Proofs.Ytldjobaafambbaa
open Go.RowKit

theorem own_grow1 {B : Nat} {w : World} {e : TypeId} {v : Value} {xs ys : List Value} (h : Own B w e v xs) (hxy : xs = ys) : Own B w e v ys := hxy ▸ h

/-- What has been told, and what is left to tell. -/
def VPutTo (w wr : World) (bs : List Nat) (u : Nat) (s5 : Value) (v : Nat) : Prop :=
  ∃ out, Own w.heap.size wr 5 s5 (cells8 out) ∧ out ++ enc v = bs ++ enc u ∧ Below w.heap.size w wr

theorem u64_and127 (u : Nat) (h : u < 18446744073709551616) : bits .and .u64 (u : Int) 127 = ((u % 128 : Nat) : Int) := by
  rw [show (127 : Int) = ((127 : Nat) : Int) from rfl, u64_and_nat u 127 h (by omega), nat_mask7]
theorem u64_or128 (y : Nat) (h : y < 128) : bits .or .u64 (y : Int) 128 = ((y + 128 : Nat) : Int) := by
  rw [show (128 : Int) = ((128 : Nat) : Int) from rfl, u64_or_nat y 128 (by omega) (by omega), Nat.or_comm, nat_join 7 128 y (by decide) (by omega), Nat.add_comm]
theorem u8_or128 (u : Nat) : bits .or .u8 ((u : Int) % 256) 128 = ((u % 128 + 128 : Nat) : Int) := by
  have e : (u : Int) % 256 = ((u % 256 : Nat) : Int) := by omega
  rw [e, show (128 : Int) = ((128 : Nat) : Int) from rfl, u8_or_nat _ 128 (by omega) (by omega)]
  congr 1
  have key : ∀ x : Nat, x < 256 → x ||| 128 = x % 128 + 128 := by decide +kernel
  rw [key _ (by omega)]
  omega

/-- A round of Put: a byte of seven bits more. -/
theorem put_more {w wr w1 : World} {bs out : List Nat} {u v : Nat} {s5 : Value} (hv : ¬ v < 128) (ho : out ++ enc v = bs ++ enc u) (hb : Below w.heap.size w wr)
    (h1 : Own w.heap.size w1 5 s5 (cells8 out ++ [.int .u8 ((v % 128 + 128 : Nat) : Int)])) (h2 : Below w.heap.size wr w1) : VPutTo w w1 bs u s5 (v / 128) := by
  refine ⟨out ++ [v % 128 + 128], by rw [cells8_snoc]; exact h1, ?_, hb.trans h2⟩
  rw [List.append_assoc, List.singleton_append, ← enc_ge hv, ho]
theorem put_end {w wr w1 : World} {bs out : List Nat} {u v : Nat} {s5 : Value} (hv : v < 128) (ho : out ++ enc v = bs ++ enc u) (hb : Below w.heap.size w wr)
    (h1 : Own w.heap.size w1 5 s5 (cells8 out ++ [.int .u8 (v : Int)])) (h2 : Below w.heap.size wr w1) : Own w.heap.size w1 5 s5 (cells8 (bs ++ enc u)) ∧ Below w.heap.size w w1 := by
  rw [enc_lt hv] at ho
  rw [← ho, cells8_snoc]
  exact ⟨h1, hb.trans h2⟩
theorem put_room {bs out : List Nat} {u v : Nat} (hn : bs.length ≤ 1000000000) (hu : Lt64 u) (ho : out ++ enc v = bs ++ enc u) : Room (cells8 out).length 1 := by
  have h1 := enc_len10 hu.out
  have h2 := enc_pos v
  have h3 := congrArg List.length ho
  simp only [List.length_append] at h3
  exact Room.mk _ _ (by rw [cells8_length]; omega)

set_option maxHeartbeats 1000000 in
set_option maxRecDepth 100000 in
theorem vrput_any (A : Option Addr) (n c B : Nat) (bs : List Nat) (u : Nat) (w : World) (hs : Rds w B A n (cells8 bs)) (hn : n ≤ 1000000000) (hu : Lt64 u) :
    Calls Try.prog 10 #[.slice A n c, .int .u64 (u : Int)] w fun e w' => ∃ v, e = .returned v ∧ Own w.heap.size w' 5 v (cells8 (bs ++ enc u)) ∧ Below w.heap.size w w' := by
  have hlen : bs.length = n := by have := hs.1; rwa [cells8_length] at this
  have Hs := Lib.hid hs.fit; have Hlen := Lib.hid hlen
  have hR : Room (List.length ([] : List Value)) n := Room.mk _ _ (by simp; omega)
  have Hl0 : Hid (Own w.heap.size (w.alloc (.cells #[] 5)) 5 (.slice (some ⟨w.heap.size, 0, none⟩) 0 0) []) := Lib.hid (Own.lit w 5 #[] (by simp))
  clear hs hlen
  go_enter Try.func10, Try.ntmps10
  go_wp2_with (at_builtin; refine wpList_app rfl (.tmp 6) (.tmp 7) _ rfl elt8 rfl Hl0.out rfl (Hs.out.alloc (Nat.le_refl _) _) (cells8_one bs) hR.1 hR.2 (le_alloc _ _) ?_; intro v1 w1 H1 H2 _)
  have P0 : Hid (VPutTo w w1 bs u v1 u) := Lib.hid ⟨bs, by have := H1.out; rwa [List.nil_append] at this, rfl, ((Below.refl _ _).alloc (Nat.le_refl _) _).trans H2.out⟩
  clear H1 H2 hR Hl0
  go_loopw [1, 5] (fun s1 s5 wr => ∃ v : Nat, s1 = .int .u64 (v : Int) ∧ Lt64 v ∧ VPutTo w wr bs u s5 v) (fun s1 _ _ => (intOf s1).toNat)
  case atStart => exact ⟨u, rfl, hu, P0.out⟩
  case round =>
    obtain ⟨v, rfl, hv, out, hown, hout, hbel⟩ := hrel
    have Hown := Lib.hid hown; have Hout := Lib.hid hout; have Hbel := Lib.hid hbel
    have hR : Hid (Room (cells8 out).length 1) := Lib.hid (put_room (by have := Hlen.out; omega) hu hout)
    clear hown hout hbel P0
    by_cases h : v < 128
    · have hw8 : IntKind.u8.wrap (v : Int) = (v : Int) := by rw [IntKind.wrap_u8']; omega
      go_wp2_with (at_builtin; refine wpList_app1 rfl (.tmp 20) (.tmp 23) _ rfl elt8 rfl Hown.out rfl rfl rfl hR.out.1 hR.out.2 Hbel.out.size ?_; intro v2 w2 H1 H2)
      go_ret
      exact ⟨_, rfl, put_end h Hout.out Hbel.out H1.out H2.out⟩
    · obtain ⟨y, hy, hy2⟩ : ∃ y : Nat, bits .and .u64 (v : Int) 127 = (y : Int) ∧ y = v % 128 := ⟨_, u64_and127 v hv.out, rfl⟩
      obtain ⟨z, hz, hz2⟩ : ∃ z : Nat, bits .or .u64 (y : Int) 128 = (z : Int) ∧ z = v % 128 + 128 := ⟨_, by rw [hy2]; exact u64_or128 _ (by omega), rfl⟩
      obtain ⟨q, hq, hq2⟩ : ∃ q : Nat, (v : Int) / 128 = (q : Int) ∧ q = v / 128 := ⟨v / 128, by omega, rfl⟩
      have hw8 : IntKind.u8.wrap (z : Int) = (z : Int) := by rw [IntKind.wrap_u8']; omega
      have Hz := Lib.hid hz2; have Hq := Lib.hid hq2
      have hv' : Lt64 q := by have := hv.out; unfold Lt64; omega
      have hqv : q < v := by omega
      clear hy2 hz2 hq2
      go_wp2_with (at_builtin; refine wpList_app1 rfl (.tmp 11) (.tmp 16) _ rfl elt8 rfl Hown.out rfl rfl rfl hR.out.1 hR.out.2 Hbel.out.size ?_; intro v2 w2 H1 H2)
      go_roundw
      case rel =>
        refine ⟨q, rfl, hv', ?_⟩
        rw [Hq.out]
        refine put_more h Hout.out Hbel.out ?_ H2.out
        have := H1.out
        rwa [Hz.out] at this
      case measure => simp [intOf]; omega

set_option maxHeartbeats 1000000 in
set_option maxRecDepth 100000 in
theorem vput_any (A : Option Addr) (n c B : Nat) (bs : List Nat) (u : Nat) (w : World) (hs : Rds w B A n (cells8 bs)) (hn : n ≤ 1000000000) (hu : Lt64 u) :
    Calls Try.prog 37 #[.slice A n c, .int .u64 (u : Int)] w fun e w' => ∃ v, e = .returned v ∧ Own w.heap.size w' 5 v (cells8 (bs ++ enc u)) ∧ Below w.heap.size w w' := by
  have hlen : bs.length = n := by have := hs.1; rwa [cells8_length] at this
  have Hs := Lib.hid hs.fit; have Hlen := Lib.hid hlen
  clear hs hlen
  go_enter Try.func37, Try.ntmps37
  have hle : n ≤ n + 10 := by omega
  have hb10 : 1 * (n + 10) ≤ 281474976710656 := by omega
  have hm10 : n + 10 ≤ maxLen := by unfold maxLen; omega
  have hnl : Hid (n ≤ (List.replicate n (Value.int .u8 0)).length) := Lib.hid (by simp)
  have Hb := Lib.hid hb10; have Hm := Lib.hid hm10
  clear hb10 hm10
  go_wp2_with (first
    | (at_make; refine wpList_mk rfl (.tmp 7) (.tmp 10) _ rfl elt8 rfl (cap := n + 10) rfl rfl rfl (by simp) hle Hb.out Hm.out ?_; intro w1 H1 H2)
    | (refine wpList_cpy rfl (.tmp 12) (.tmp 13) 27 rfl elt8 (v := .slice (some ⟨w.heap.size, 0, none⟩) n (n + 10)) rfl H1.out rfl (Hs.out.below H2.out) (cells8_one bs) hnl.out ?_; intro w2 H3 H4))
  simp only [Act.put, goInt, List.setIfInBounds_toArray, List.set_cons_succ, List.set_cons_zero]
  have P0 : Hid (VPutTo w w2 bs u (.slice (some ⟨w.heap.size, 0, none⟩) n (n + 10)) u) := Lib.hid ⟨bs, by have := H3.out; simpa using this, rfl, H2.out.trans H4.out⟩
  clear H1 H2 H3 H4
  go_loopw [1, 5] (fun s1 s5 wr => ∃ v : Nat, s1 = .int .u64 (v : Int) ∧ Lt64 v ∧ VPutTo w wr bs u s5 v) (fun s1 _ _ => (intOf s1).toNat)
  case atStart => exact ⟨u, rfl, hu, P0.out⟩
  case round =>
    obtain ⟨v, rfl, hv, out, hown, hout, hbel⟩ := hrel
    have Hown := Lib.hid hown; have Hout := Lib.hid hout; have Hbel := Lib.hid hbel
    have hR : Hid (Room (cells8 out).length 1) := Lib.hid (put_room (by have := Hlen.out; omega) hu hout)
    clear hown hout hbel P0
    by_cases h : v < 128
    · have hw8 : IntKind.u8.wrap (v : Int) = (v : Int) := by rw [IntKind.wrap_u8']; omega
      go_wp2_with (at_builtin; refine wpList_app1 rfl (.tmp 25) (.tmp 28) _ rfl elt8 rfl Hown.out rfl rfl rfl hR.out.1 hR.out.2 Hbel.out.size ?_; intro v2 w2 H1 H2)
      go_ret
      exact ⟨_, rfl, put_end h Hout.out Hbel.out H1.out H2.out⟩
    · obtain ⟨z, hz, hz2⟩ : ∃ z : Nat, bits .or .u8 ((v : Int) % 256) 128 = (z : Int) ∧ z = v % 128 + 128 := ⟨_, u8_or128 v, rfl⟩
      obtain ⟨q, hq, hq2⟩ : ∃ q : Nat, (v : Int) / 128 = (q : Int) ∧ q = v / 128 := ⟨v / 128, by omega, rfl⟩
      have Hz := Lib.hid hz2; have Hq := Lib.hid hq2
      have hv' : Lt64 q := by have := hv.out; unfold Lt64; omega
      have hqv : q < v := by omega
      clear hz2 hq2
      go_wp2_with (at_builtin; refine wpList_app1 rfl (.tmp 19) (.tmp 23) _ rfl elt8 rfl Hown.out rfl rfl rfl hR.out.1 hR.out.2 Hbel.out.size ?_; intro v2 w2 H1 H2)
      go_roundw
      case rel =>
        refine ⟨q, rfl, hv', ?_⟩
        rw [Hq.out]
        refine put_more h Hout.out Hbel.out ?_ H2.out
        have := H1.out
        rwa [Hz.out] at this
      case measure => simp [intOf]; omega
end Go.Proofs.Ytldjobaafambbaa

/- Get, of the code and of the document's own answer. -/
namespace Go.Proofs.Ytldjobaafambbaa
open Go.RowKit

theorem or_more (acc s y i : Nat) (hs : s = 7 * i) (ha : acc < 2 ^ (7 * i)) (hy : acc + y * 2 ^ (7 * i) < 18446744073709551616) :
    bits .or .u64 (acc : Int) (IntKind.u64.wrap ((y : Int) * 2 ^ s)) = ((acc + y * 2 ^ (7 * i) : Nat) : Int) := by
  subst hs
  have e : (y : Int) * 2 ^ (7 * i) = ((y * 2 ^ (7 * i) : Nat) : Int) := by simp
  rw [e, IntKind.wrap_u64, Int.emod_eq_of_lt (by omega) (by omega), u64_or_nat _ _ (by omega) (by omega), Nat.or_comm, nat_join (7 * i) _ _ (Nat.mul_mod_left _ _) ha]
  congr 1
  omega

theorem ret_2 {a a' b b' : Int} (h1 : a = a') (h2 : b = b') : Ending.returned (.tuple #[.int .u64 a, .int .i64 b]) = Ending.returned (.tuple #[.int .u64 a', .int .i64 b']) := by rw [h1, h2]
theorem or_zero (a y i : Nat) (hy : y = 0) (h : a < 2 ^ (7 * i)) (h2 : a + y * 2 ^ (7 * i) < 18446744073709551616) :
    bits .or .u64 (a : Int) (IntKind.u64.wrap (IntKind.u64.wrap (bits .and .u8 0 127) * 2 ^ (7 * i))) = ((a + y * 2 ^ (7 * i) : Nat) : Int) := by
  subst hy
  have e : bits .and .u8 0 127 = 0 := by decide
  rw [e]
  exact or_more a _ 0 i rfl h h2
theorem or_nine (a y i : Nat) (hi : (i : Int) = 9) (h : a < 2 ^ (7 * i)) (h2 : a + y * 2 ^ (7 * i) < 18446744073709551616) :
    bits .or .u64 (a : Int) ((y : Int) * 9223372036854775808) = ((a + y * 2 ^ (7 * i) : Nat) : Int) := by
  obtain rfl : i = 9 := by omega
  rw [← or_more a 63 y 9 rfl h h2]
  congr 1
  rw [IntKind.wrap_u64]
  have : (2 : Int) ^ 63 = 9223372036854775808 := by decide
  rw [this]
  omega
/-- What Get has read at the i-th byte. -/
def VGetTo (bs : List Nat) (s4 : Value) (i : Nat) : Prop := ∃ acc : Int, s4 = .int .u64 acc ∧ ∃ a : Nat, (i < 10 → acc = (a : Int) ∧ a < 2 ^ (7 * i)) ∧ dec bs = decF i a (bs.drop i)

set_option maxHeartbeats 1000000 in
set_option maxRecDepth 100000 in
theorem vget_any (A : Option Addr) (n c B : Nat) (bs : List Nat) (w : World) (hs : Rds w B A n (cells8 bs)) (hlt : lt256 bs) (hnc : n ≤ c) (hc : c ≤ maxLen) :
    Calls Try.prog 42 #[.slice A n c] w fun e w' => e = .returned (.tuple #[.int .u64 ((dec bs).1 : Int), .int .i64 ((dec bs).2 : Int)]) ∧ w = w' := by
  have hlen : bs.length = n := by have := hs.1; rwa [cells8_length] at this
  have hmx : max (10 : Int) 0 = 10 := rfl
  unfold maxLen at hc
  have Hs := Lib.hid hs; have Hlt := Lib.hid hlt; have Hlen := Lib.hid hlen
  clear hs hlt hlen
  rcases Nat.lt_or_ge 10 n with h10 | h10
  all_goals
    go_enter Try.func42, Try.ntmps42
    go_wp2
    go_loop [4, 13] (fun s4 s13 => ∃ i : Nat, i ≤ n ∧ i ≤ 10 ∧ s13 = .int .i64 (i : Int) ∧ VGetTo bs s4 i) (fun _ s13 => 10 - (intOf s13).toNat)
    case atStart => exact ⟨0, by omega, by omega, rfl, 0, rfl, 0, fun _ => ⟨rfl, by simp⟩, rfl⟩
    case round =>
      obtain ⟨i, hin, hi10, rfl, acc, rfl, a, ha, hdec⟩ := hrel
      by_cases hi : i < n ∧ i < 10
      · obtain ⟨hi1, hi2⟩ := hi
        obtain ⟨rfl, ha2⟩ := ha hi2
        obtain ⟨ad, u, rfl, _, hu, hcell⟩ := Hs.out.at_ hi1
        obtain ⟨x, hx, rfl⟩ : ∃ x, bs[i]? = some x ∧ u = .int .u8 (x : Int) := by
          rw [cells8_get] at hu
          cases hb : bs[i]? with
          | none => rw [hb] at hu; cases hu
          | some x => rw [hb] at hu; exact ⟨x, rfl, by simpa using hu.symm⟩
        have hx2 : x < 256 := Hlt.out x (List.mem_of_getElem? hx)
        have hdr : Hid (bs.drop i = x :: bs.drop (i + 1)) := Lib.hid (by
          obtain ⟨h1, h2⟩ := List.getElem?_eq_some_iff.1 hx
          rw [← h2, List.drop_eq_getElem_cons h1])
        have Ha := Lib.hid ha2; have Hd := Lib.hid hdec; have Hx := Lib.hid hx
        clear ha ha2 hdec hx hu
        rcases Nat.lt_or_ge x 128 with hxl | hxl
        · by_cases hbad : (i = 9 ∧ 2 ≤ x) ∨ (x = 0 ∧ 0 < i)
          · have Hb := Lib.hid hbad
            clear hbad
            go_wp2_with (go_at_call 47; refine (ends_no i x _ Hb.out).mono ?_; rintro e w' ⟨rfl, rfl⟩)
            go_ret2
            exact ⟨ret_2 (by rw [Hd.out, hdr.out, decF_bad hi2 hxl Hb.out]; rfl) (by rw [Hd.out, hdr.out, decF_bad hi2 hxl Hb.out]; rfl), rfl⟩
          · have Hb := Lib.hid hbad
            clear hbad
            go_wp2_with (go_at_call 47; refine (ends_yes i x _ Hb.out).mono ?_; rintro e w' ⟨rfl, rfl⟩)
            go_ret2
            have hy := dec_lt Hlt.out
            rw [Hd.out, hdr.out, decF_end hi2 hxl Hb.out] at hy
            exact ⟨ret_2 (by rw [Hd.out, hdr.out, decF_end hi2 hxl Hb.out, or_more a _ x i rfl Ha.out hy]) (by rw [Hd.out, hdr.out, decF_end hi2 hxl Hb.out]; simp), rfl⟩
        · go_wp2
          go_round
          case rel =>
            refine ⟨i + 1, by omega, by omega, by go_num, _, rfl, a + (x - 128) * 2 ^ (7 * i), fun h9 => ?_, by rw [Hd.out, hdr.out, decF_more hi2 hxl]⟩
            have hacc := acc_more Ha.out hxl hx2
            have h63 : (2 : Nat) ^ (7 * (i + 1)) ≤ 2 ^ 63 := Nat.pow_le_pow_right (by omega) (by omega)
            refine ⟨?_, hacc⟩
            have e : (x : Int) - 128 = ((x - 128 : Nat) : Int) := by omega
            rw [e, or_more a _ (x - 128) i rfl Ha.out (by omega)]
          case measure => simp [intOf]; omega
      · have Hd := Lib.hid hdec
        clear hdec ha
        have hz : Hid (decF i a (bs.drop i) = (0, 0)) := Lib.hid (by
          rcases Nat.lt_or_ge i 10 with h | h
          · rw [List.drop_eq_nil_of_le (by have := Hlen.out; omega)]; rfl
          · exact decF_ten _ _ _ h)
        go_wp2
        go_ret2
        exact ⟨ret_2 (by rw [Hd.out, hz.out]; rfl) (by rw [Hd.out, hz.out]; rfl), rfl⟩

set_option maxHeartbeats 1000000 in
set_option maxRecDepth 100000 in
theorem vrget_any (A : Option Addr) (n c B : Nat) (bs : List Nat) (w : World) (hs : Rds w B A n (cells8 bs)) (hlt : lt256 bs) (hc : n ≤ maxLen) :
    Calls Try.prog 28 #[.slice A n c] w fun e w' => e = .returned (.tuple #[.int .u64 ((dec bs).1 : Int), .int .i64 ((dec bs).2 : Int)]) ∧ w = w' := by
  have hlen : bs.length = n := by have := hs.1; rwa [cells8_length] at this
  unfold maxLen at hc
  have Hs := Lib.hid hs; have Hlt := Lib.hid hlt; have Hlen := Lib.hid hlen
  clear hs hlt hlen
  go_enter Try.func28, Try.ntmps28
  go_wp2
  go_loop [4, 5] (fun s4 s5 => ∃ i : Nat, i ≤ n ∧ i ≤ 10 ∧ s5 = .int .i64 (i : Int) ∧ VGetTo bs s4 i) (fun _ s5 => 10 - (intOf s5).toNat)
  case atStart => exact ⟨0, by omega, by omega, rfl, 0, rfl, 0, fun _ => ⟨rfl, by simp⟩, rfl⟩
  case round =>
    obtain ⟨i, hin, hi10, rfl, acc, rfl, a, ha, hdec⟩ := hrel
    by_cases hi : i < n ∧ i < 10
    · obtain ⟨hi1, hi2⟩ := hi
      obtain ⟨rfl, ha2⟩ := ha hi2
      obtain ⟨ad, u, rfl, _, hu, hcell⟩ := Hs.out.at_ hi1
      obtain ⟨x, hx, rfl⟩ : ∃ x, bs[i]? = some x ∧ u = .int .u8 (x : Int) := by
        rw [cells8_get] at hu
        cases hb : bs[i]? with
        | none => rw [hb] at hu; cases hu
        | some x => rw [hb] at hu; exact ⟨x, rfl, by simpa using hu.symm⟩
      have hx2 : x < 256 := Hlt.out x (List.mem_of_getElem? hx)
      have hdr : Hid (bs.drop i = x :: bs.drop (i + 1)) := Lib.hid (by
        obtain ⟨h1, h2⟩ := List.getElem?_eq_some_iff.1 hx
        rw [← h2, List.drop_eq_getElem_cons h1])
      have Ha := Lib.hid ha2; have Hd := Lib.hid hdec; have Hx := Lib.hid hx
      clear ha ha2 hdec hx hu
      obtain ⟨y, hy, hy1⟩ : ∃ y : Nat, bits .and .u8 (x : Int) 127 = (y : Int) ∧ y = x % 128 :=
        ⟨x % 128, by rw [show (127 : Int) = ((127 : Nat) : Int) from rfl, u8_and_nat x 127 hx2 (by omega), nat_mask7], rfl⟩
      have hyl : y < 128 := by omega
      have Hy := Lib.hid hy1
      clear hy1
      by_cases hbad : (i = 9 ∧ 2 ≤ x) ∨ (x = 0 ∧ 0 < i)
      · have hz : Hid (dec bs = (0, 0)) := Lib.hid (by
          rw [Hd.out, hdr.out]
          rcases Nat.lt_or_ge x 128 with h | h
          · exact decF_bad hi2 h hbad
          · rw [decF_more hi2 h, decF_ten _ _ _ (by omega)])
        have Hb := Lib.hid hbad
        clear hbad
        go_wp2
        all_goals first
          | (exfalso; have := Hb.out; have := Hy.out; omega)
          | (go_ret2; exact ⟨ret_2 (by rw [hz.out]; rfl) (by rw [hz.out]; rfl), rfl⟩)
      · have hx9 : i = 9 → x ≤ 1 := fun h => by omega
        have hx0 : 0 < i → ¬ x = 0 := fun h => by omega
        have Hb := Lib.hid hbad
        clear hbad
        rcases Nat.lt_or_ge x 128 with hxl | hxl
        · have hend : Hid (dec bs = (a + x * 2 ^ (7 * i), i + 1)) := Lib.hid (by rw [Hd.out, hdr.out, decF_end hi2 hxl Hb.out])
          obtain rfl : y = x := by have := Hy.out; omega
          have hy := dec_lt Hlt.out
          rw [hend.out] at hy
          have Hyy := Lib.hid hy
          clear hy
          go_wp2
          all_goals
            go_ret2
            rw [hend.out]
            exact ⟨ret_2 (by first | rw [or_more a _ y i rfl Ha.out Hyy.out] | rw [or_zero a y i (by assumption) Ha.out Hyy.out] | rw [or_nine a y i (by assumption) Ha.out Hyy.out]) (by first | rfl | (show (10 : Int) = ((i + 1 : Nat) : Int); omega)), rfl⟩
        · obtain rfl : y = x - 128 := by have := Hy.out; omega
          have h9 : ¬ i = 9 := by omega
          have hx0 : ¬ x = 0 := by omega
          go_wp2
          go_round
          case rel =>
            refine ⟨i + 1, by omega, by omega, by go_num, _, rfl, a + (x - 128) * 2 ^ (7 * i), fun h9 => ?_, by rw [Hd.out, hdr.out, decF_more hi2 hxl]⟩
            have hacc := acc_more Ha.out hxl hx2
            have h63 : (2 : Nat) ^ (7 * (i + 1)) ≤ 2 ^ 63 := Nat.pow_le_pow_right (by omega) (by omega)
            exact ⟨or_more a _ (x - 128) i rfl Ha.out (by omega), hacc⟩
          case measure => simp [intOf]; omega
    · have Hd := Lib.hid hdec
      clear hdec ha
      have hz : Hid (decF i a (bs.drop i) = (0, 0)) := Lib.hid (by
        rcases Nat.lt_or_ge i 10 with h | h
        · rw [List.drop_eq_nil_of_le (by have := Hlen.out; omega)]; rfl
        · exact decF_ten _ _ _ h)
      go_wp2
      all_goals
        go_ret2
        exact ⟨ret_2 (by rw [Hd.out, hz.out]; rfl) (by rw [Hd.out, hz.out]; rfl), rfl⟩
end Go.Proofs.Ytldjobaafambbaa

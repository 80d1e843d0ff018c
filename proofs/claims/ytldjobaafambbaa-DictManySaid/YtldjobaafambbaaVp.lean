/- Put, of the code and of the document's own answer. -/
import Derived.Test.YtldjobaafambbaaVe
import Derived.Test.YtldjobaafambbaaRow
import Derived.Test.YtldjobaafambbaaOw
import Derived.Deep.DeepCutAuto
import Derived.Deep.LoopGhost
import Derived.StillTailTactics
namespace Go.Proofs.Ytldjobaafambbaa
open Go.RowKit

theorem own_grow1 {B : Nat} {w : World} {e : TypeId} {v : Value} {xs ys : List Value} (h : Own B w e v xs) (hxy : xs = ys) : Own B w e v ys := hxy ▸ h

/-- What has been told, and what is left to tell. -/
def VPutTo (w wr : World) (bs : List Nat) (u : Nat) (s5 : Value) (v : Nat) : Prop :=
  ∃ out, Own w.heap.size wr 5 s5 (cells8 out) ∧ out ++ enc v = bs ++ enc u ∧ Below w.heap.size w wr

theorem u64_and127 (u : Nat) (h : u < 18446744073709551616) : bits .and .u64 (u : Int) 127 = ((u % 128 : Nat) : Int) := by
  rw [show (127 : Int) = ((127 : Nat) : Int) from rfl, u64_and_nat u 127 h (by omega), nat_mask7]
theorem u64_or128 (y : Nat) (h : y < 128) : bits .or .u64 (y : Int) 128 = ((y + 128 : Nat) : Int) := by
  rw [show (128 : Int) = ((128 : Nat) : Int) from rfl, u64_or_nat y 128 (by omega) (by omega), Nat.or_comm, nat_join 7 128 y (by decide) (by omega), Nat.add_comm]
theorem u8_or128 (u : Nat) : bits .or .u8 ((u : Int) % 256) 128 = ((u % 128 + 128 : Nat) : Int) := by
  have e : (u : Int) % 256 = ((u % 256 : Nat) : Int) := by omega
  rw [e, show (128 : Int) = ((128 : Nat) : Int) from rfl, u8_or_nat _ 128 (by omega) (by omega)]
  congr 1
  have key : ∀ x : Nat, x < 256 → x ||| 128 = x % 128 + 128 := by decide +kernel
  rw [key _ (by omega)]
  omega

/-- A round of Put: a byte of seven bits more. -/
theorem put_more {w wr w1 : World} {bs out : List Nat} {u v : Nat} {s5 : Value} (hv : ¬ v < 128) (ho : out ++ enc v = bs ++ enc u) (hb : Below w.heap.size w wr)
    (h1 : Own w.heap.size w1 5 s5 (cells8 out ++ [.int .u8 ((v % 128 + 128 : Nat) : Int)])) (h2 : Below w.heap.size wr w1) : VPutTo w w1 bs u s5 (v / 128) := by
  refine ⟨out ++ [v % 128 + 128], by rw [cells8_snoc]; exact h1, ?_, hb.trans h2⟩
  rw [List.append_assoc, List.singleton_append, ← enc_ge hv, ho]
theorem put_end {w wr w1 : World} {bs out : List Nat} {u v : Nat} {s5 : Value} (hv : v < 128) (ho : out ++ enc v = bs ++ enc u) (hb : Below w.heap.size w wr)
    (h1 : Own w.heap.size w1 5 s5 (cells8 out ++ [.int .u8 (v : Int)])) (h2 : Below w.heap.size wr w1) : Own w.heap.size w1 5 s5 (cells8 (bs ++ enc u)) ∧ Below w.heap.size w w1 := by
  rw [enc_lt hv] at ho
  rw [← ho, cells8_snoc]
  exact ⟨h1, hb.trans h2⟩
theorem put_room {bs out : List Nat} {u v : Nat} (hn : bs.length ≤ 1000000000) (hu : Lt64 u) (ho : out ++ enc v = bs ++ enc u) : Room (cells8 out).length 1 := by
  have h1 := enc_len10 hu.out
  have h2 := enc_pos v
  have h3 := congrArg List.length ho
  simp only [List.length_append] at h3
  exact Room.mk _ _ (by rw [cells8_length]; omega)

set_option maxHeartbeats 1000000 in
set_option maxRecDepth 100000 in
theorem vrput_any (A : Option Addr) (n c B : Nat) (bs : List Nat) (u : Nat) (w : World) (hs : Rds w B A n (cells8 bs)) (hn : n ≤ 1000000000) (hu : Lt64 u) :
    Calls Try.prog 10 #[.slice A n c, .int .u64 (u : Int)] w fun e w' => ∃ v, e = .returned v ∧ Own w.heap.size w' 5 v (cells8 (bs ++ enc u)) ∧ Below w.heap.size w w' := by
  have hlen : bs.length = n := by have := hs.1; rwa [cells8_length] at this
  have Hs := Lib.hid hs.fit; have Hlen := Lib.hid hlen
  have hR : Room (List.length ([] : List Value)) n := Room.mk _ _ (by simp; omega)
  have Hl0 : Hid (Own w.heap.size (w.alloc (.cells #[] 5)) 5 (.slice (some ⟨w.heap.size, 0, none⟩) 0 0) []) := Lib.hid (Own.lit w 5 #[] (by simp))
  clear hs hlen
  go_enter Try.func10, Try.ntmps10
  go_wp2_with (at_builtin; refine wpList_app rfl (.tmp 6) (.tmp 7) _ rfl elt8 rfl Hl0.out rfl (Hs.out.alloc (Nat.le_refl _) _) (cells8_one bs) hR.1 hR.2 (le_alloc _ _) ?_; intro v1 w1 H1 H2 _)
  have P0 : Hid (VPutTo w w1 bs u v1 u) := Lib.hid ⟨bs, by have := H1.out; rwa [List.nil_append] at this, rfl, ((Below.refl _ _).alloc (Nat.le_refl _) _).trans H2.out⟩
  clear H1 H2 hR Hl0
  go_loopw [1, 5] (fun s1 s5 wr => ∃ v : Nat, s1 = .int .u64 (v : Int) ∧ Lt64 v ∧ VPutTo w wr bs u s5 v) (fun s1 _ _ => (intOf s1).toNat)
  case atStart => exact ⟨u, rfl, hu, P0.out⟩
  case round =>
    obtain ⟨v, rfl, hv, out, hown, hout, hbel⟩ := hrel
    have Hown := Lib.hid hown; have Hout := Lib.hid hout; have Hbel := Lib.hid hbel
    have hR : Hid (Room (cells8 out).length 1) := Lib.hid (put_room (by have := Hlen.out; omega) hu hout)
    clear hown hout hbel P0
    by_cases h : v < 128
    · have hw8 : IntKind.u8.wrap (v : Int) = (v : Int) := by rw [IntKind.wrap_u8']; omega
      go_wp2_with (at_builtin; refine wpList_app1 rfl (.tmp 20) (.tmp 23) _ rfl elt8 rfl Hown.out rfl rfl rfl hR.out.1 hR.out.2 Hbel.out.size ?_; intro v2 w2 H1 H2)
      go_ret
      exact ⟨_, rfl, put_end h Hout.out Hbel.out H1.out H2.out⟩
    · obtain ⟨y, hy, hy2⟩ : ∃ y : Nat, bits .and .u64 (v : Int) 127 = (y : Int) ∧ y = v % 128 := ⟨_, u64_and127 v hv.out, rfl⟩
      obtain ⟨z, hz, hz2⟩ : ∃ z : Nat, bits .or .u64 (y : Int) 128 = (z : Int) ∧ z = v % 128 + 128 := ⟨_, by rw [hy2]; exact u64_or128 _ (by omega), rfl⟩
      obtain ⟨q, hq, hq2⟩ : ∃ q : Nat, (v : Int) / 128 = (q : Int) ∧ q = v / 128 := ⟨v / 128, by omega, rfl⟩
      have hw8 : IntKind.u8.wrap (z : Int) = (z : Int) := by rw [IntKind.wrap_u8']; omega
      have Hz := Lib.hid hz2; have Hq := Lib.hid hq2
      have hv' : Lt64 q := by have := hv.out; unfold Lt64; omega
      have hqv : q < v := by omega
      clear hy2 hz2 hq2
      go_wp2_with (at_builtin; refine wpList_app1 rfl (.tmp 11) (.tmp 16) _ rfl elt8 rfl Hown.out rfl rfl rfl hR.out.1 hR.out.2 Hbel.out.size ?_; intro v2 w2 H1 H2)
      go_roundw
      case rel =>
        refine ⟨q, rfl, hv', ?_⟩
        rw [Hq.out]
        refine put_more h Hout.out Hbel.out ?_ H2.out
        have := H1.out
        rwa [Hz.out] at this
      case measure => simp [intOf]; omega

set_option maxHeartbeats 1000000 in
set_option maxRecDepth 100000 in
theorem vput_any (A : Option Addr) (n c B : Nat) (bs : List Nat) (u : Nat) (w : World) (hs : Rds w B A n (cells8 bs)) (hn : n ≤ 1000000000) (hu : Lt64 u) :
    Calls Try.prog 37 #[.slice A n c, .int .u64 (u : Int)] w fun e w' => ∃ v, e = .returned v ∧ Own w.heap.size w' 5 v (cells8 (bs ++ enc u)) ∧ Below w.heap.size w w' := by
  have hlen : bs.length = n := by have := hs.1; rwa [cells8_length] at this
  have Hs := Lib.hid hs.fit; have Hlen := Lib.hid hlen
  clear hs hlen
  go_enter Try.func37, Try.ntmps37
  have hle : n ≤ n + 10 := by omega
  have hb10 : 1 * (n + 10) ≤ 281474976710656 := by omega
  have hm10 : n + 10 ≤ maxLen := by unfold maxLen; omega
  have hnl : Hid (n ≤ (List.replicate n (Value.int .u8 0)).length) := Lib.hid (by simp)
  have Hb := Lib.hid hb10; have Hm := Lib.hid hm10
  clear hb10 hm10
  go_wp2_with (first
    | (at_make; refine wpList_mk rfl (.tmp 7) (.tmp 10) _ rfl elt8 rfl (cap := n + 10) rfl rfl rfl (by simp) hle Hb.out Hm.out ?_; intro w1 H1 H2)
    | (refine wpList_cpy rfl (.tmp 12) (.tmp 13) 27 rfl elt8 (v := .slice (some ⟨w.heap.size, 0, none⟩) n (n + 10)) rfl H1.out rfl (Hs.out.below H2.out) (cells8_one bs) hnl.out ?_; intro w2 H3 H4))
  simp only [Act.put, goInt, List.setIfInBounds_toArray, List.set_cons_succ, List.set_cons_zero]
  have P0 : Hid (VPutTo w w2 bs u (.slice (some ⟨w.heap.size, 0, none⟩) n (n + 10)) u) := Lib.hid ⟨bs, by have := H3.out; simpa using this, rfl, H2.out.trans H4.out⟩
  clear H1 H2 H3 H4
  go_loopw [1, 5] (fun s1 s5 wr => ∃ v : Nat, s1 = .int .u64 (v : Int) ∧ Lt64 v ∧ VPutTo w wr bs u s5 v) (fun s1 _ _ => (intOf s1).toNat)
  case atStart => exact ⟨u, rfl, hu, P0.out⟩
  case round =>
    obtain ⟨v, rfl, hv, out, hown, hout, hbel⟩ := hrel
    have Hown := Lib.hid hown; have Hout := Lib.hid hout; have Hbel := Lib.hid hbel
    have hR : Hid (Room (cells8 out).length 1) := Lib.hid (put_room (by have := Hlen.out; omega) hu hout)
    clear hown hout hbel P0
    by_cases h : v < 128
    · have hw8 : IntKind.u8.wrap (v : Int) = (v : Int) := by rw [IntKind.wrap_u8']; omega
      go_wp2_with (at_builtin; refine wpList_app1 rfl (.tmp 25) (.tmp 28) _ rfl elt8 rfl Hown.out rfl rfl rfl hR.out.1 hR.out.2 Hbel.out.size ?_; intro v2 w2 H1 H2)
      go_ret
      exact ⟨_, rfl, put_end h Hout.out Hbel.out H1.out H2.out⟩
    · obtain ⟨z, hz, hz2⟩ : ∃ z : Nat, bits .or .u8 ((v : Int) % 256) 128 = (z : Int) ∧ z = v % 128 + 128 := ⟨_, u8_or128 v, rfl⟩
      obtain ⟨q, hq, hq2⟩ : ∃ q : Nat, (v : Int) / 128 = (q : Int) ∧ q = v / 128 := ⟨v / 128, by omega, rfl⟩
      have Hz := Lib.hid hz2; have Hq := Lib.hid hq2
      have hv' : Lt64 q := by have := hv.out; unfold Lt64; omega
      have hqv : q < v := by omega
      clear hz2 hq2
      go_wp2_with (at_builtin; refine wpList_app1 rfl (.tmp 19) (.tmp 23) _ rfl elt8 rfl Hown.out rfl rfl rfl hR.out.1 hR.out.2 Hbel.out.size ?_; intro v2 w2 H1 H2)
      go_roundw
      case rel =>
        refine ⟨q, rfl, hv', ?_⟩
        rw [Hq.out]
        refine put_more h Hout.out Hbel.out ?_ H2.out
        have := H1.out
        rwa [Hz.out] at this
      case measure => simp [intOf]; omega
end Go.Proofs.Ytldjobaafambbaa

import Derived.Test.YtldjobaafambbaaRefw
namespace Go.Proofs.Ytldjobaafambbaa
open Go.RowKit

/-- What the document's own Bytes has made of i bits; the last byte has 'fr' to fill. -/
def RB (w wr : World) (vo : Value) (L : List Nat) (i fr : Nat) : Prop :=
  ∃ out : List Nat, wr.ownsRow 0 5 1 vo out.length (cells8 out) ∧ (vo.ownBlock = none ∨ ∃ r, vo.ownBlock = some r ∧ w.heap.size ≤ r) ∧ lt256 out ∧ i + fr = 8 * out.length ∧ val out = bval (L.take i) * 2 ^ fr ∧ Mod (fun _ => False) w wr

theorem rb_grow {w wr w1 : World} {vo v' : Value} {L : List Nat} {i : Nat} {out : List Nat} (hvo : vo.ownBlock = none ∨ ∃ r, vo.ownBlock = some r ∧ w.heap.size ≤ r) (hlt : lt256 out)
    (hlen : i + 0 = 8 * out.length) (hval : val out = bval (L.take i) * 2 ^ 0) (hmod : Mod (fun _ => False) w wr) (hgrow : (wr.alloc (.cells #[.int .u8 0] 5)).grownBy w1 vo.ownBlock) (hown' : w1.ownsRow 0 5 1 v' (out.length + 1) (cells8 out ++ [.int .u8 0]))
    (hrow' : v'.ownBlock = vo.ownBlock ∨ v'.ownBlock = some (wr.alloc (.cells #[.int .u8 0] 5)).heap.size) : RB w w1 v' L i 8 := by
  refine ⟨out ++ [0], by rw [cells8_snoc]; simpa using hown', ?_, lt256_snoc.2 ⟨hlt, by omega⟩, by simp; omega, by rw [val_snoc, hval]; omega, ?_⟩
  · rcases hrow' with h | h
    · rw [h]; exact hvo
    · exact .inr ⟨_, h, by have := hmod.size; simp; omega⟩
  · refine (hmod.alloc _).grown hgrow ?_
    intro k hk hlt'
    rcases hvo with h | ⟨r, h, hr⟩
    · rw [h] at hk; cases hk
    · rw [h] at hk; injection hk with hk; omega

theorem rb_or (x f b : Nat) (bs0 : List Nat) (N : Nat) (hx : x < 2) (hb : b < 256) (hf : f + 1 ≤ 8) (hv : val (bs0 ++ [b]) = N * 2 ^ (f + 1)) :
    bits BinOp.or IntKind.u8 (b : Int) (IntKind.u8.wrap ((x : Int) * 2 ^ f)) = ((b + x * 2 ^ f : Nat) : Int) ∧ b + x * 2 ^ f < 256 ∧ val (bs0 ++ [b + x * 2 ^ f]) = (N * 2 + x) * 2 ^ f := by
  obtain ⟨h1, h2, h3⟩ := last_step bs0 b N (f + 1) 1 x hb hf (by omega) (by omega) hv
  rw [Nat.add_sub_cancel] at h1 h2 h3
  rw [Nat.pow_one] at h3
  refine ⟨?_, h2, h3⟩
  have e : (x : Int) * 2 ^ f = ((x * 2 ^ f : Nat) : Int) := by simp
  rw [e, IntKind.wrap_u8', Int.emod_eq_of_lt (Int.natCast_nonneg _) (by omega), u8_or_nat _ _ hb (by omega), h1]

theorem take_more {L : List Nat} {i x : Nat} (h : L[i]? = some x) : L.take (i + 1) = L.take i ++ [x] := by
  have hi := (List.getElem?_eq_some_iff.1 h).1
  rw [List.take_succ_eq_append_getElem hi]
  congr 2
  exact (List.getElem?_eq_some_iff.1 h).2

set_option maxHeartbeats 1000000 in
set_option maxRecDepth 100000 in
theorem rbytes_any (g : Nat) (row : Option Nat) (N len : Nat) (w : World) (hw : RWr w g row N len) (hlen : len ≤ 1000000000) :
    Calls Try.prog 40 #[.pointer (some ⟨g, 0, none⟩)] w fun e w' => ∃ v bs, e = .returned v ∧ NewRow w w' v bs.length (cells8 bs) ∧ Packed bs N len := by
  obtain ⟨sv, L, hblk, hown, hrow, hlt, rfl, rfl⟩ := hw
  obtain ⟨A, c, rfl⟩ : ∃ A c, sv = .slice A L.length c := by
    rcases hown.2 with ⟨h1, h2⟩ | ⟨g', cap, cur, h1, _⟩
    · exact ⟨none, 0, by rw [h1, h2]⟩
    · exact ⟨_, _, h1⟩
  have Hblk := Lib.hid hblk; have Hown := Lib.hid hown; have Hlt := Lib.hid hlt
  have hc0 := hblk.cell 0
  simp at hc0
  clear hblk hown hrow hlt
  go_enter Try.func40, Try.ntmps40
  go_wp2_with fail
  go_loopg [3, 4] L.length (fun l s3 s4 wr => ∃ i fr : Nat, i + l = L.length ∧ s4 = .int .i64 (i : Int) ∧ fr < 8 ∧ RB w wr s3 L i fr)
  case atStart => exact ⟨0, 0, by omega, rfl, by omega, [], World.ownsRow_nil _ _ _ _, .inl rfl, lt256_nil, rfl, rfl, Mod.refl _ _⟩
  case round =>
    obtain ⟨i, fr, hil, rfl, hfr, out, hown, hvo, hlt, hlen', hval, hmod⟩ := hrel
    have hblkr : Hid (Blk wr g 75 #[.slice A L.length c]) := Lib.hid (hmod.blk Hblk.out (fun h => h))
    have hcr0 := hblkr.out.cell 0
    simp at hcr0
    have Hil := Lib.hid hil; have Hvo := Lib.hid hvo; have Hout := Lib.hid hown; have Hlt' := Lib.hid hlt; have Hlen := Lib.hid hlen'; have Hval := Lib.hid hval; have Hmod := Lib.hid hmod
    clear hvo hown hlt hlen' hval hmod hc0 hil
    by_cases hl0 : gk = 0
    · have hi : ¬ i < L.length := by have := Hil.out; omega
      go_wp2
      go_ret
      have hiL : i = L.length := by have := Hil.out; omega
      refine ⟨u3, out, rfl, ⟨Hout.out, Hmod.out, Hvo.out⟩, Hlt'.out, fr, hfr, by rw [← hiL]; exact Hlen.out, ?_⟩
      rw [Hval.out, hiL, List.take_length]
    · have hi : i < L.length := by have := Hil.out; omega
      have hi0 : (0 : Int) ≤ (i : Int) := by omega
      go_upto_if 16 with fail
      go_cut [3] (fun s3 wc => ∃ fr2, 0 < fr2 ∧ fr2 ≤ 8 ∧ RB w wc s3 L i fr2)
      case first =>
        by_cases hfr0 : fr = 0
        · have hfb : ((i : Int) % 8 == 0) = true := by have := Hlen.out; simp; omega
          rw [hfb]
          subst hfr0
          obtain ⟨i0, hi1, hz0, hz1, hz2⟩ := info_parts Try.info5
          have Hb : Room out.length 1 := Room.mk _ _ (by have := Hlen.out; omega)
          go_wp2_with (at_builtin; refine wpList_append_own_at _ rfl _ _ 27 rfl 0 5 i0 (.int .u8 0) 1 1 Try.underlying27 hi1 hz0 hz1 hz2 rfl (by decide) u3 out.length (cells8 out) rfl (Hout.out.alloc _) ⟨wr.heap.size, 0, none⟩ 1 1 [.int .u8 0] rfl rfl (cell_one_new _ _ _) (cells8_one [0]) Hb.1 Hb.2 (Nat.zero_le _) ?_; intro v' w1 hown' hgrow _ hrow'; have Hown' := Lib.hid hown'; have Hgrow := Lib.hid hgrow; have Hrow' := Lib.hid hrow'; clear hown' hgrow hrow')
          go_meet
          case rel => exact ⟨8, by omega, by omega, rb_grow Hvo.out Hlt'.out Hlen.out Hval.out Hmod.out Hgrow.out Hown'.out Hrow'.out⟩
        · have hfb : ((i : Int) % 8 == 0) = false := by have := Hlen.out; simp; omega
          rw [hfb]
          go_wp2_with fail
          go_meet
          case rel => exact ⟨fr, by omega, by omega, out, Hout.out, Hvo.out, Hlt'.out, Hlen.out, Hval.out, Hmod.out⟩
      case rest =>
        clear Hvo Hout Hlt' Hlen Hval Hmod hcr0 hblkr
        obtain ⟨fr2, hf1, hf2, out2, hown, hvo, hlt, hlen', hval, hmod⟩ := hcut
        obtain ⟨o0, b, rfl⟩ := snoc_of_ne (bs := out2) (by rintro rfl; simp at hlen'; omega)
        obtain ⟨gr, cap, rfl, _, _⟩ := hown.form (by simp)
        obtain ⟨f, rfl⟩ : ∃ f, fr2 = f + 1 := ⟨fr2 - 1, by omega⟩
        obtain ⟨x, hx⟩ : ∃ x, L[i]? = some x := ⟨L[i], List.getElem?_eq_getElem hi⟩
        have hx2 : x < 2 := Hlt.out x (List.mem_of_getElem? hx)
        obtain ⟨ab, rfl, hcx⟩ : ∃ ab, A = some ⟨ab, 0, none⟩ ∧ wc.cell? ⟨ab, i, none⟩ = some (.int .u8 (x : Int)) := by
          obtain ⟨ab, cap', e1, _, _⟩ := Hown.out.form (by omega)
          injection e1 with e1
          refine ⟨ab, e1, ?_⟩
          have ho := hmod.owns Hown.out (fun _ _ h => h)
          rw [e1] at ho
          rw [ho.cellAt i (by omega), cells8_get, hx]
          rfl
        have hblkr := hmod.blk Hblk.out (fun h => h)
        have hcr0 := hblkr.cell 0
        simp at hcr0
        have hq : (i : Int) / 8 = (o0.length : Int) := by simp at hlen'; omega
        obtain ⟨t, ht⟩ : ∃ t, t = i % 8 := ⟨_, rfl⟩
        have ht1 : (i : Int).tmod 8 = (t : Int) := by rw [Int.tmod_eq_emod_of_nonneg hi0]; omega
        have hw7 : IntKind.i64.wrap (7 - (t : Int)) = (f : Int) := by rw [IntWalk.i64_in _ (by omega)]; simp at hlen'; omega
        have hw8 : IntKind.u64.wrap (f : Int) = (f : Int) := by rw [IntKind.wrap_u64]; omega
        have hmin : min f 8 = f := by omega
        clear ht
        have hcb := hown.cellAt o0.length (by simp)
        have hfz := hown.frozenAt o0.length
        rw [cells8_snoc, List.getElem?_append_right (by simp [cells8]), cells8_length, Nat.sub_self] at hcb
        simp at hcb
        have hol : o0.length ≤ 1000000000 := by simp at hlen'; omega
        have hw1 : IntKind.i64.wrap (o0.length : Int) = (o0.length : Int) := IntWalk.i64_in _ (by omega)
        have hx0 : (0 : Int) ≤ (o0.length : Int) := by omega
        have hx1 : (o0.length : Int) < (o0.length : Int) + 1 := by omega
        have hi2 : (i : Int) < (L.length : Int) := by omega
        have Hown2 := Lib.hid hown; have Hvo := Lib.hid hvo; have Hlt2 := Lib.hid hlt; have Hlen := Lib.hid hlen'; have Hval := Lib.hid hval; have Hmod := Lib.hid hmod; have Hx := Lib.hid hx
        clear hown hvo hlt hlen' hval hmod hx hblkr
        go_upto_region 7 with fail
        go_still_tail 22, (by kernel_rfl)
        obtain ⟨h1, h2, h3⟩ := rb_or x f b o0 (bval (L.take i)) hx2 (lt256_snoc.1 Hlt2.out).2 (by omega) Hval.out
        rw [h1]
        change wpList _ _ _ _ _ wc.drew
        have hd0 : wc.drew.cell? ⟨gr, o0.length, none⟩ = _ := hcb
        have hd1 : wc.drew.frozen? ⟨gr, o0.length, none⟩ = _ := hfz
        have Hown3 : Hid (wc.drew.ownsRow _ _ _ _ _ _) := Lib.hid Hown2.out.drew
        have Hmod3 := Lib.hid Hmod.out.drew
        have H2 := Lib.hid h2; have H3 := Lib.hid h3
        clear hcb hfz Hown2 Hmod hcr0 hcx h1 h2 h3
        generalize wc.drew = w2 at *
        go_wp2
        go_roundg (gk - 1)
        case measure => omega
        case rel =>
          refine ⟨i + 1, f, by have := Hil.out; omega, by go_num, by omega, o0 ++ [b + x * 2 ^ f], ?_, ?_, lt256_snoc.2 ⟨(lt256_snoc.1 Hlt2.out).1, H2.out⟩, ?_, ?_, ?_⟩
          · have := (Hown3.out.stored o0.length (.int .u8 ((b + x * 2 ^ f : Nat) : Int))).1
            rw [cells8_set] at this
            simpa using this
          · simpa using Hvo.out
          · have := Hlen.out; simp at this ⊢; omega
          · rw [H3.out, take_more Hx.out, bval_snoc]
          · refine Hmod3.out.setCell ?_ _
            intro h
            rcases Hvo.out with h1 | ⟨r, h1, h2⟩
            · cases h1
            · simp [Value.ownBlock] at h1
              simp at h
              omega
end Go.Proofs.Ytldjobaafambbaa

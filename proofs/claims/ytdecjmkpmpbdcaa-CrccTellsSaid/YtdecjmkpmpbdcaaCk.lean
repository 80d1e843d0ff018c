import Derived.Test.YtdecjmkpmpbdcaaCa
import Derived.Test.YtdecjmkpmpbdcaaEq
import Derived.Test.YtdecjmkpmpbdcaaFit
import Derived.Deep.DeepCutAuto
namespace Go.Proofs.Ytdecjmkpmpbdcaa
open Go.RowKit

theorem Tbd.drewN {T : Nat → Nat} {w3 w : World} {g : Nat} (h : Tbd T w3 g w) (n : Nat) : Tbd T w3 g (w.drewN n) := ⟨h.1.drewN n, (Mod.of_below h.2).drewN n |>.below (Nat.le_refl _) (fun _ h => h)⟩
theorem rentry_q (x : Nat) (w : World) (h : x < 4294967296) : Calls Try.prog 10 #[.int .u32 (x : Int)] w fun e w' => e = .returned (.int .u32 (ent x : Int)) ∧ w' = w := (rentry_any x w h).mono fun _ _ ⟨h1, h2⟩ => ⟨h1, h2.symm⟩
/-- The table with one entry turned. -/
def upd (T : Nat → Nat) (k v : Nat) : Nat → Nat := fun j => if j = k then v else T j
theorem upd_tab {T : Nat → Nat} (h : Tab T) {k v : Nat} (hv : v < 4294967296) : Tab (upd T k v) := fun j hj => by
  unfold upd
  split
  · exact hv
  · exact h j hj
theorem upd_set (T : Nat → Nat) (k v : Nat) : (tabOf T).setIfInBounds k (.int .u32 (v : Int)) = tabOf (upd T k v) := tabOf_set T k v
/-- Two tables. -/
def Two (S T : Nat → Nat) (w3 : World) (g h : Nat) (w : World) : Prop := Tbd S w3 g w ∧ Tbd T w3 h w
theorem Two.below {S T : Nat → Nat} {w3 w w' : World} {g h : Nat} (k : Two S T w3 g h w) (hb : Below w.heap.size w w') : Two S T w3 g h w' := ⟨k.1.below hb, k.2.below hb⟩
theorem Two.drew {S T : Nat → Nat} {w3 w : World} {g h : Nat} (k : Two S T w3 g h w) : Two S T w3 g h w.drew := ⟨k.1.drew, k.2.drew⟩
theorem and255 (a : Int) : ∃ k : Nat, bits .and .i64 a 255 = (k : Int) ∧ k < 256 := by
  have h0 : 0 ≤ a % 256 := Int.emod_nonneg _ (by decide)
  have h1 : a % 256 < 256 := Int.emod_lt_of_pos _ (by decide)
  exact ⟨(a % 256).toNat, by rw [i64_and255]; omega, by omega⟩
theorem wrap32 (a : Int) : ∃ v : Nat, IntKind.u32.wrap a = (v : Int) ∧ v < 4294967296 := by
  have h0 : 0 ≤ a % 4294967296 := Int.emod_nonneg _ (by decide)
  have h1 : a % 4294967296 < 4294967296 := Int.emod_lt_of_pos _ (by decide)
  exact ⟨(a % 4294967296).toNat, by rw [IntKind.wrap_u32']; omega, by omega⟩

set_option maxHeartbeats 4000000 in
set_option maxRecDepth 100000 in
theorem ctells_walk (A : Option Addr) (n c : Nat) (bs : List Nat) (at_ by_ : Int) (w : World) (hs : Rds w w.heap.size A n (cells8 bs)) (hlt : lt256 bs) (hnc : n ≤ c) (hc : c ≤ maxLen) :
    Calls Try.prog 5 #[.slice A n c, .int .i64 at_, .int .i64 by_] w fun e w' => e = .returned (.bool true) ∧ Below w.heap.size w w' := by
  have Hs := Lib.hid hs; have Hlt := Lib.hid hlt
  clear hs hlt
  have hnm : n ≤ maxLen := Nat.le_trans hnc hc
  have Hn := Lib.hid hnm
  unfold maxLen at hc
  clear hnm
  rcases Nat.lt_or_ge 400 n with h400 | h400
  · go_enter Try.func5, Try.ntmps5
    go_wp2_with fail
    refine (awake_any _).mono ?_
    rintro e w3 ⟨rfl, hb3⟩
    have H3 := Lib.hid hb3
    clear hb3
    go_wp2
    go_ret
    exact ⟨rfl, H3.out⟩
  · have hz := zero26
    go_enter Try.func5, Try.ntmps5
    go_wp2_with fail
    refine (table_any _).mono ?_
    rintro e w1 ⟨rfl, hb1⟩
    have Hb1 := Lib.hid hb1
    clear hb1
    go_wp2_with (with_reducible refine wpList_store_new rfl 26 (.tmp 7) (.tmp 16) rfl rfl rfl (size26 ent) ((tabOf_size _).trans (tabOf_size _).symm) (tabOf_one ent) ?_)
    have HT : Hid (Tbd ent w w1.heap.size (w1.alloc (.cells (tabOf ent) 26))) := Lib.hid ⟨Blk.new _ _ _, Hb1.out.alloc Hb1.out.size _⟩
    generalize w1.alloc (.cells (tabOf ent) 26) = W at *
    generalize w1.heap.size = g at *
    clear Hb1
    go_loopw [8] (fun s8 wr => ∃ i : Nat, i ≤ 256 ∧ s8 = .int .i64 (i : Int) ∧ Tbd ent w g wr) (fun s8 _ => 256 - (intOf s8).toNat)
    case atStart => exact ⟨0, by omega, rfl, HT.out⟩
    case round =>
      obtain ⟨i, hi, rfl, hT⟩ := hrel
      have HT1 := Lib.hid hT
      clear hT HT
      by_cases h : i < 256
      · have hw : IntKind.u32.wrap (i : Int) = (i : Int) := by rw [IntKind.wrap_u32']; omega
        have hcell := HT1.out.at_ h rfl
        have hi0 : (0 : Int) ≤ (i : Int) := by omega
        have hi1 : (i : Int) < 256 := by omega
        go_wp2_with fail
        go_quiet ((go_at_call 10; exact Calls.quiet_of_same (rentry_q i _ (by omega))))
        go_wp2
        go_roundw
        case rel => exact ⟨i + 1, by omega, by go_num, HT1.out.drewN _⟩
        case measure => simp [intOf]; omega
      · have h256 : ¬ (i : Int) < 256 := by omega
        obtain ⟨L, hL⟩ : ∃ L, L = (tabOf ent).toList := ⟨_, rfl⟩
        have HL := Lib.hid hL
        have hLa : L.toArray = tabOf ent := by rw [hL]
        have Hone : Hid (L.toArray.all (·.oneCell') = true) := Lib.hid (by rw [hLa]; exact tabOf_one ent)
        have Hsz : Hid ((tabOf fun _ => 0).size = L.toArray.size) := Lib.hid (by rw [hLa, tabOf_size, tabOf_size])
        have Hinf : Hid ((Try.prog.info? 26).map (·.size) = some L.toArray.size) := Lib.hid (by rw [hLa]; exact size26 ent)
        have HLa := Lib.hid hLa
        have hu := Try.underlying26
        have hin := size26L HL
        have Hent := Lib.hid tab_ent
        have Hrg := Lib.hid (HT1.out.range HL)
        clear hL hLa
        go_wp2_with (with_reducible refine wpList_load_mid rfl 26 (.tmp 7) rfl g 0 rfl L _ Hrg.out hu rfl hin ?_)
        refine (sum_at HL Hent A n c _ bs (sumN ent bs : Int) _ (Hs.out.below HT1.out.2) Hlt.out Hn.out rfl).mono ?_
        rintro e w2 ⟨rfl, hb2⟩
        have HT2 := Lib.hid (HT1.out.below hb2)
        clear hb2 HT1 Hrg
        go_wp2_with fail
        refine (rsum_any A n c _ bs _ (Hs.out.below HT2.out.2) Hlt.out Hn.out).mono ?_
        rintro e w3 ⟨rfl, rfl⟩
        have Hrg := Lib.hid (HT2.out.range HL)
        go_upto_region 12 with (first
          | (with_reducible refine wpList_load_mid rfl 26 (.tmp 7) rfl g 0 rfl L _ Hrg.out hu rfl hin ?_)
          | (with_reducible refine wpList_store_new rfl 26 (.tmp 9) (.tmp 34) rfl rfl rfl Hinf.out Hsz.out Hone.out ?_))
        have HT3 : Hid (Two ent ent w g w2.heap.size (w2.alloc (.cells L.toArray 26))) := Lib.hid (by
          rw [HLa.out]
          exact ⟨HT2.out.alloc _, Blk.new _ _ _, HT2.out.2.alloc HT2.out.2.size _⟩)
        have hgx : g ≠ w2.heap.size := fun e => by have := HT2.out.1.lt; omega
        have hgw : w.heap.size ≤ w2.heap.size := HT2.out.2.size
        generalize w2.alloc (.cells L.toArray 26) = W2 at *
        generalize w2.heap.size = gx at *
        clear HT2 Hrg Hone Hsz Hinf hz HLa
        obtain ⟨k, hk, hkl⟩ := and255 at_
        obtain ⟨v, hv, hvl⟩ := wrap32 by_
        have hcell := HT3.out.2.at_ hkl rfl
        have hfz := HT3.out.2.1.frozen k
        have hki : (k : Int) < 256 := by omega
        have HT4 : Hid (Two ent (upd ent k v) w g gx (W2.setCell ⟨gx, k, none⟩ (.int .u32 (v : Int)))) := Lib.hid ⟨⟨HT3.out.1.1.far (by exact hgx) _, HT3.out.1.2.setCell (by exact hgw) _⟩, by
          have := HT3.out.2.1.set_ k (.int .u32 (v : Int))
          rwa [upd_set] at this, HT3.out.1.2.setCell (by exact hgw) _⟩
        have HU := Lib.hid (upd_tab tab_ent hvl (k := k))
        clear HT3 hgx hgw
        go_wp2_with fail
        clear hcell hfz hk hv
        generalize W2.setCell ⟨gx, k, none⟩ (.int .u32 (v : Int)) = W3 at *
        obtain ⟨T, hT⟩ : ∃ T, T = upd ent k v := ⟨_, rfl⟩
        rw [← hT] at HT4 HU
        clear hT hki hkl hvl
        have hlen : bs.length = n := by have := Hs.out.1; rwa [cells8_length] at this
        have Hlen := Lib.hid hlen
        clear hlen
        go_loop [10, 42] (fun s10 s42 => ∃ i c : Nat, i ≤ n ∧ s42 = .int .i64 (i : Int) ∧ s10 = .int .u32 (c : Int) ∧ SumTo T bs i c) (fun _ s42 => n - (intOf s42).toNat)
        case atStart => exact ⟨0, 4294967295, by omega, rfl, rfl, sumTo_zero T bs⟩
        case round =>
          obtain ⟨i, c', hin', rfl, rfl, hS⟩ := hrel
          by_cases hi : i < n
          · obtain ⟨ad, x, rfl, hx, hxl, hcell⟩ := byte_at (Hs.out.below HT4.out.1.2) Hlt.out hi
            have hcl := hS.1
            obtain ⟨y, hy, hy2⟩ : ∃ y : Nat, (c' : Int) % 256 = (y : Int) ∧ y = c' % 256 := ⟨c' % 256, by omega, rfl⟩
            have hyl : y < 256 := by omega
            obtain ⟨k, hk, hk2⟩ : ∃ k : Nat, bits .xor .u8 (y : Int) (x : Int) = (k : Int) ∧ k = y ^^^ x := ⟨_, u8_xor_nat y x hyl hxl, rfl⟩
            have hkl : k < 256 := hk2 ▸ xor_lt8 hyl hxl
            obtain ⟨q, hq, hq2⟩ : ∃ q : Nat, (c' : Int) / 256 = (q : Int) ∧ q = c' / 256 := ⟨c' / 256, by omega, rfl⟩
            obtain ⟨z, hz, hz2⟩ : ∃ z : Nat, bits .xor .u32 (T k : Int) (q : Int) = (z : Int) ∧ z = T k ^^^ q := ⟨_, u32_xor_nat _ q (HU.out k hkl) (by omega), rfl⟩
            have htab := HT4.out.2.at_ hkl rfl
            have hki : (k : Int) < 256 := by omega
            have HS := Lib.hid (sumTo_more HU.out hS hx hxl hy2 hk2 hq2 hz2)
            clear hS hx hy2 hk2 hq2 hz2
            go_wp2
            go_round
            case rel => exact ⟨i + 1, z, by omega, by go_num, rfl, HS.out⟩
            case measure => simp [intOf]; omega
          · have hr := sumTo_all hS (by have := Hlen.out; omega)
            obtain ⟨M, hM⟩ : ∃ M, M = (tabOf T).toList := ⟨_, rfl⟩
            have HM := Lib.hid hM
            have him := size26L HM
            have heq : ∀ w, (binOp .eql 26 (.agg (tabOf ent)) (.agg L.toArray)).run Try.prog w = .ok (.bool true) w := fun w => by
              rw [HL.out]
              exact run_eql_tab ent w
            have hgd : ∀ x y w, (eqGuard .eql 26 x y (.agg (tabOf ent)) (.agg L.toArray)).run Try.prog w = .ok () w := fun x y w => by
              rw [HL.out]
              exact run_eqGuard_tab .eql x y ent ent w
            clear hS hM
            go_wp2_with fail
            refine wp_region_class (Two ent T w g gx) (by kernel_rfl) (by kernel_rfl) HT4.out.drew ?_
            refine quiet_load_mid (by rfl) _ _ rfl _ _ rfl (fun w h => Tbd.range h.2 HM) hu rfl him ?_
            simp only [Act.put, List.setIfInBounds_toArray, List.set_cons_zero, List.set_cons_succ]
            iterate 1 quiet_step (exact fun _ => rfl)
            refine wpQuiet_step (fun K hK => ?_)
            go_simp
            refine ⟨.int .u32 (sumN T bs : Int), fun w2 h2 => (sum_at HM HU _ _ _ _ bs (sumN T bs : Int) _ (Hs.out.below h2.1.2) Hlt.out Hn.out rfl).mono ?_, hK _ ?_⟩
            · rintro e w3 ⟨rfl, hb⟩
              exact ⟨rfl, h2.below hb⟩
            clear hK K
            iterate 4 quiet_step (exact fun _ => rfl)
            refine wpQuiet_step (fun K hK => ?_)
            go_simp
            refine ⟨.agg (tabOf ent), fun w2 h2 => (table_any _).mono ?_, hK _ ?_⟩
            · rintro e w3 ⟨rfl, hb⟩
              exact ⟨rfl, h2.below hb⟩
            clear hK K
            refine quiet_load_mid (by rfl) _ _ rfl _ _ rfl (fun w h => Tbd.range h.1 HL) hu rfl hin ?_
            simp only [Act.put, List.setIfInBounds_toArray, List.set_cons_zero, List.set_cons_succ]
            iterate 3 quiet_step (exact fun _ => rfl)
            refine wpQuiet_step (fun K hK => ?_)
            go_simp
            refine ⟨.bool true, fun w2 h2 => (awake_any _).mono ?_, hK _ ?_⟩
            · rintro e w3 ⟨rfl, hb⟩
              exact ⟨rfl, h2.below hb⟩
            clear hK K
            iterate 2 quiet_step (exact fun _ => rfl)
            refine wpQuiet_nil ?_
            intro w4 h4
            have H4 := Lib.hid h4.1.2
            clear h4
            go_wp2
            go_ret
            exact ⟨rfl, H4.out⟩
end Go.Proofs.Ytdecjmkpmpbdcaa

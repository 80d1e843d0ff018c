import Derived.Test.YtejnhdenehkpmaaMh3
import Derived.Test.YtejnhdenehkpmaaMh1
import Derived.Test.YtejnhdenehkpmaaMh2
import Derived.Lib.Overlaps
import Derived.Great.BuildSlice
namespace Go.Proofs.Ytejnhdenehkpmaa
open Go.RowKit
set_option maxHeartbeats 1000000 in
set_option maxRecDepth 100000 in
theorem sameS_any (A1 A2 : Option Addr) (n1 n2 c1 c2 B1 B2 : Nat) (l1 l2 : List (Int × Nat)) (b : Bool) (w : World) (hs1 : RdsS w B1 A1 n1 l1) (hs2 : RdsS w B2 A2 n2 l2) (hn : n1 ≤ 1000000) (hb : decide (l1 = l2) = b) :
    Calls Try.prog 17 #[.slice A1 n1 c1, .slice A2 n2 c2] w fun e w' => e = .returned (.bool b) ∧ Mod (fun _ => False) w w' := by
  have Hs1 := Lib.hid hs1.fit; have Hs2 := Lib.hid hs2.fit; have Hl1 := Lib.hid hs1.1; have Hl2 := Lib.hid hs2.1; have Hb := Lib.hid hb
  have hcs : Try.prog.cellsOf 48 = 2 := by kernel_rfl
  clear hs1 hs2 hb
  by_cases hnn : n1 = n2
  · subst hnn
    go_enter Try.func17, Try.ntmps17
    go_wp2_with fail
    go_loopg [5] n1 (fun k s5 wr => ∃ i : Nat, i + k = n1 ∧ s5 = .int .i64 (i : Int) ∧ SameTo l1 l2 i ∧ Mod (fun _ => False) w wr)
    case atStart => exact ⟨0, by omega, rfl, (fun j h => by omega), Mod.refl _ _⟩
    case round =>
      obtain ⟨i, hik, rfl, hr, hm⟩ := hrel
      have Hik := Lib.hid hik; have Hr := Lib.hid hr; have Hm := Lib.hid hm
      clear hik hr hm
      by_cases hin : i < n1
      · obtain ⟨a1, ⟨T, V⟩, rfl, _, hp, hc0, hc1⟩ := Hs1.out.at2 hin (Nat.le_refl _) Hm.out (fun _ _ h => h)
        obtain ⟨a2, ⟨S, U⟩, rfl, _, hq, hd0, hd1⟩ := Hs2.out.at2 hin (Nat.le_refl _) Hm.out (fun _ _ h => h)
        have hc1' := cell_whole hc1
        have hd1' := cell_whole hd1
        have Hp := Lib.hid hp; have Hq := Lib.hid hq
        clear hp hq hc1 hd1
        have hin' : (i : Int) < (n1 : Int) := by omega
        by_cases hT : T = S
        · subst hT
          by_cases hV : V = U
          · subst hV
            go_upto_region 6 with fail
            go_quiet (fail)
            go_wp2_with fail
            go_roundg (gk - 1)
            case measure => have := Hik.out; omega
            case rel => exact ⟨i + 1, by have := Hik.out; omega, by go_num, (fun j hj => by
              rcases Nat.lt_or_ge j i with h | h
              · exact Hr.out j h
              · obtain rfl : j = i := by omega
                rw [Hp.out, Hq.out]), Hm.out.drewN _⟩
          · have hVi : ¬ (V : Int) = (U : Int) := by omega
            have hVb : ((V : Int) == (U : Int)) = false := by simp; omega
            have Hno : Hid (b = false) := Lib.hid (by
              rw [← Hb.out, decide_eq_false_iff_not]
              intro e
              have h1 := Hp.out
              rw [e, Hq.out] at h1
              injection h1 with h1
              injection h1 with _ h1
              exact hV h1.symm)
            clear hV
            go_upto_region 6 with fail
            go_quiet (fail)
            go_wp2_with fail
            go_ret
            exact ⟨by rw [Hno.out]; rfl, Hm.out.drewN _⟩
        · have hTb : (T == S) = false := by simp [hT]
          have Hno : Hid (b = false) := Lib.hid (by
            rw [← Hb.out, decide_eq_false_iff_not]
            intro e
            have h1 := Hp.out
            rw [e, Hq.out] at h1
            injection h1 with h1
            injection h1 with h1 _
            exact hT h1.symm)
          go_upto_region 6 with fail
          go_quiet (fail)
          go_wp2_with fail
          go_ret
          exact ⟨by rw [Hno.out]; rfl, Hm.out.drewN _⟩
      · have hi : i = n1 := by have := Hik.out; omega
        have Hyes : Hid (b = true) := Lib.hid (by
          rw [← Hb.out, decide_eq_true_iff]
          exact SameTo.done (by rw [← hi]; exact Hr.out) Hl1.out Hl2.out)
        clear hi
        go_wp2_with fail
        go_ret
        exact ⟨by rw [Hyes.out]; rfl, Hm.out⟩
  · have hni : ((n1 : Int) == (n2 : Int)) = false := by simp; omega
    have hni2 : ((n1 : Int) != (n2 : Int)) = true := by simp; omega
    have Hno : Hid (b = false) := Lib.hid (by
      rw [← Hb.out, decide_eq_false_iff_not]
      intro e
      apply hnn
      rw [← Hl1.out, ← Hl2.out, e])
    clear hnn
    go_enter Try.func17, Try.ntmps17
    go_wp2_with fail
    go_ret
    exact ⟨by rw [Hno.out]; rfl, Mod.refl _ _⟩
def formsM : ModN := ⟨[⟨2, false, true, 30, [(10, 1), (20, 2), (30, 3)]⟩], [⟨1, [(10, 1), (20, 2), (30, 3)]⟩], 1⟩
def formsL : List (OpN × Int × Nat) := [(opZ, 4, 0), ({ opZ with kind := 8 }, 4, 0), ({ opZ with kind := 1, series := -1 }, 4, 0), ({ opZ with kind := 1, series := 16 }, 4, 0),
  ({ opZ with kind := 1, series := 2, t := 30 }, 1, 0), ({ opZ with kind := 1, series := 2, t := 31 }, 0, 0), ({ opZ with kind := 1, series := 3, t := -5 }, 0, 0),
  ({ opZ with kind := 2, series := 2, from_ := 10, to_ := 30 }, 0, 3), ({ opZ with kind := 2, series := 2, from_ := 11, to_ := 29 }, 0, 1), ({ opZ with kind := 2, series := 2, from_ := 30, to_ := 10 }, 0, 0),
  ({ opZ with kind := 2, series := 3 }, 3, 0), ({ opZ with kind := 2, series := 16 }, 4, 0), ({ opZ with kind := 3, series := 2 }, 0, 0), ({ opZ with kind := 3, series := 3 }, 3, 0),
  ({ opZ with kind := 4, series := 2 }, 0, 0), ({ opZ with kind := 4, series := 3 }, 3, 0), ({ opZ with kind := 5, series := 3 }, 3, 0), ({ opZ with kind := 6, iter := 1, n := 2 }, 0, 2),
  ({ opZ with kind := 6, iter := 1, n := 5000 }, 0, 3), ({ opZ with kind := 6, iter := 1, n := -1 }, 0, 0), ({ opZ with kind := 6, iter := 2, n := 1 }, 3, 0), ({ opZ with kind := 7, iter := 1 }, 0, 0), ({ opZ with kind := 7 }, 3, 0)]
theorem formsL_len : formsL.length = 23 := rfl
theorem formsL_all : ∀ r ∈ formsL, (doN formsM r.1).2.err = r.2.1 ∧ (doN formsM r.1).2.l.length = r.2.2 ∧ (doN formsM r.1).2.iter = 0 := by decide +kernel
theorem i64_and255 (a : Int) : bits .and .i64 a 255 = a % 256 := i64_mask a 255 8 rfl (by omega)

theorem Blk.newAt {w : World} {t : TypeId} {cs : Array Value} {g : Nat} (hg : g = w.heap.size) : Blk (w.alloc (.cells cs t)) g t cs := by subst hg; exact Blk.new _ _ _
theorem Blk.fiveN {w : World} {g : Nat} {t : TypeId} {c0 c1 c2 c3 c4 : Value} (h : Blk w g t #[c0, c1, c2, c3, c4]) (a b c d e : Value) :
    Blk (((((w.setCell ⟨g, 0, none⟩ a).setCell ⟨g, 1, none⟩ b).setCell ⟨g, 2, none⟩ c).setCell ⟨g, 3, none⟩ d).setCell ⟨g, 4, none⟩ e) g t #[a, b, c, d, e] := by
  have := ((((h.set_ 0 a).set_ 1 b).set_ 2 c).set_ 3 d).set_ 4 e
  simpa using this
set_option maxHeartbeats 2000000 in
set_option maxRecDepth 100000 in
theorem rsame_any (m q : ModN) (A A2 E E2 : Option Addr) (n c n2 c2 k d k2 d2 B B2 : Nat) (w : World) (h1 : RdsM w B A n c A2 n2 c2 m) (h2 : RdsM w B2 E k d E2 k2 d2 q) (hn : n ≤ 1000) (hn2 : n2 ≤ 1000) (hL : LenM m 100000) :
    Calls Try.prog 9 #[.agg #[.slice A n c, .slice A2 n2 c2, .int .i64 m.next], .agg #[.slice E k d, .slice E2 k2 d2, .int .i64 q.next]] w fun e w' => CmpEnd w w' (m = q) e := by
  obtain ⟨ps, is, hps, his, hR, hR2, _⟩ := h1
  obtain ⟨qs, js, hqs, hjs, hS, hS2, _⟩ := h2
  obtain ⟨W, hW⟩ : ∃ W, W = (w.alloc (.cells #[.slice A n c, .slice A2 n2 c2, .int .i64 m.next] 31)).alloc (.cells #[.slice E k d, .slice E2 k2 d2, .int .i64 q.next] 31) := ⟨_, rfl⟩
  obtain ⟨G0, hG0⟩ : ∃ g, g = w.heap.size := ⟨_, rfl⟩
  obtain ⟨G, hG⟩ : ∃ g, g = w.heap.size + 1 := ⟨_, rfl⟩
  have hmW : Mod (fun _ => False) w W := by rw [hW]; exact ((Mod.refl _ _).alloc _).alloc _
  have hb0 : Blk W G0 31 #[.slice A n c, .slice A2 n2 c2, .int .i64 m.next] := by rw [hW, hG0]; exact (Blk.new _ _ _).alloc _
  have hb1 : Blk W G 31 #[.slice E k d, .slice E2 k2 d2, .int .i64 q.next] := by
    rw [hW, hG]
    have h := Blk.new (w.alloc (.cells #[.slice A n c, .slice A2 n2 c2, .int .i64 m.next] 31)) 31 #[.slice E k d, .slice E2 k2 d2, .int .i64 q.next]
    simpa using h
  have x0 := hb0.cell 0
  have y0 := hb1.cell 0
  have x1 := hb0.cell 1
  have y1 := hb1.cell 1
  have x2 := hb0.cell 2
  have y2 := hb1.cell 2
  simp at x0 x1 x2 y0 y1 y2
  have hL1 : ∀ p ∈ ps, p.1.l.length ≤ 1000000 := fun p hp => by have := (hL.1 p.1 (by rw [← hps]; exact List.mem_map.2 ⟨p, hp, rfl⟩)).1; omega
  have hL2 : ∀ p ∈ is, p.1.rest.length ≤ 1000000 := fun p hp => by have := (hL.2 p.1 (by rw [← his]; exact List.mem_map.2 ⟨p, hp, rfl⟩)).1; omega
  have hln : m.ser.length = n := by rw [← hps, List.length_map]; exact hR.len
  have hln2 : m.ite.length = n2 := by rw [← his, List.length_map]; exact hR2.len
  have hlk : q.ser.length = k := by rw [← hqs, List.length_map]; exact hS.len
  have hlk2 : q.ite.length = k2 := by rw [← hjs, List.length_map]; exact hS2.len
  have HR := Lib.hid (hR.new hmW); have HR2 := Lib.hid (hR2.new hmW); have HS := Lib.hid (hS.new hmW); have HS2 := Lib.hid (hS2.new hmW)
  have Hps := Lib.hid hps; have His := Lib.hid his; have Hqs := Lib.hid hqs; have Hjs := Lib.hid hjs; have HL1 := Lib.hid hL1; have HL2 := Lib.hid hL2
  have Hln := Lib.hid hln; have Hln2 := Lib.hid hln2; have Hlk := Lib.hid hlk; have Hlk2 := Lib.hid hlk2
  have HW := Lib.hid hW; have HG0 := Lib.hid hG0; have HG := Lib.hid hG; have HmW := Lib.hid hmW; have Hb0 := Lib.hid hb0; have Hb1 := Lib.hid hb1
  clear hW hG0 hG hmW hb0 hb1 hR hR2 hS hS2 hps his hqs hjs hL hL1 hL2 hln hln2 hlk hlk2
  go_enter Try.func9, Try.ntmps9
  go_upto_region 1 with fail
  rw [← HW.out, ← HG.out, ← HG0.out]
  by_cases hnx : m.next = q.next
  case neg =>
    have khnx : ((m.next : Int) != q.next) = true := by simp [hnx]
    have Hno : Hid (¬ m = q) := Lib.hid (fun e => hnx (by rw [e]))
    clear hnx
    go_wp2_with fail
    go_ret
    exact ⟨_, rfl, by simpa using Hno.out, HmW.out⟩
  have khnx : ((m.next : Int) != q.next) = false := by simp [hnx]
  have Qn := Lib.hid hnx
  clear hnx
  by_cases hnn : n = k
  case neg =>
    have khnn : ((n : Int) != (k : Int)) = true := by simp; omega
    have Hno : Hid (¬ m = q) := Lib.hid (fun e => hnn (by rw [← Hln.out, ← Hlk.out, e]))
    clear hnn
    go_wp2_with fail
    go_ret
    exact ⟨_, rfl, by simpa using Hno.out, HmW.out⟩
  have khnn : ((n : Int) != (k : Int)) = false := by simp; omega
  by_cases hnn2 : n2 = k2
  case neg =>
    have khnn2 : ((n2 : Int) != (k2 : Int)) = true := by simp; omega
    have Hno : Hid (¬ m = q) := Lib.hid (fun e => hnn2 (by rw [← Hln2.out, ← Hlk2.out, e]))
    clear hnn2
    go_wp2_with fail
    go_ret
    exact ⟨_, rfl, by simpa using Hno.out, HmW.out⟩
  have khnn2 : ((n2 : Int) != (k2 : Int)) = false := by simp; omega
  subst hnn
  subst hnn2
  go_wp2_with fail
  go_loopg [5] n (fun gk s5 wr => ∃ i : Nat, i + gk = n ∧ s5 = .int .i64 (i : Int) ∧ (∀ j : Nat, j < i → (ps.map (·.1))[j]? = (qs.map (·.1))[j]?) ∧ Mod (fun _ => False) W wr)
  case atStart => exact ⟨0, by omega, rfl, (fun j h => by omega), Mod.refl _ _⟩
  case round =>
    obtain ⟨i, hik, rfl, hr, hm⟩ := hrel
    have x0 := (hm.blk Hb0.out (fun h => h)).cell 0
    have y0 := (hm.blk Hb1.out (fun h => h)).cell 0
    simp at x0 y0
    have Hik := Lib.hid hik; have Hr := Lib.hid hr; have Hm := Lib.hid hm
    clear hik hr hm
    by_cases hin : i < n
    · obtain ⟨ad, s, A5, n5, c5, rfl, had, hp, hr5, _, _, z0, z1, z2, z3, z4⟩ := (HR.out.new Hm.out).at_ hin
      obtain ⟨ad2, t, A6, n6, c6, rfl, had2, hq, hr6, _, _, v0, v1, v2, v3, v4⟩ := (HS.out.new Hm.out).at_ hin
      have Hp : Hid ((ps.map (·.1))[i]? = some s) := Lib.hid (by rw [List.getElem?_map, hp]; rfl)
      have Hq : Hid ((qs.map (·.1))[i]? = some t) := Lib.hid (by rw [List.getElem?_map, hq]; rfl)
      have hn5 : n5 ≤ 1000000 := by have h := HL1.out _ (List.mem_of_getElem? hp); have := hr5.1; simp only at h; omega
      have hin' : (i : Int) < (n : Int) := by omega
      have hi0 : (0 : Int) ≤ (i : Int) := by omega
      have Hr5 := Lib.hid hr5; have Hr6 := Lib.hid hr6
      clear hp hq hr5 hr6
      have hWr := Hm.out.size
      have hb0 := Hm.out.blk Hb0.out (fun h => h)
      have hb1 := Hm.out.blk Hb1.out (fun h => h)
      have HX : Hid (∀ W' : World, Mod (fun _ => False) wr W' → Mod (fun _ => False) wr W' ∧ W'.cell? ⟨G0, 0, none⟩ = some (.slice (some ad) n c) ∧ W'.cell? ⟨G, 0, none⟩ = some (.slice (some ad2) n d) ∧ W'.cell? (ad.add (i * 5)) = some (.int .i64 s.id) ∧ W'.cell? ⟨(ad.add (i * 5)).block, (ad.add (i * 5)).off + 1, none⟩ = some (.bool s.sea) ∧ W'.cell? ⟨(ad.add (i * 5)).block, (ad.add (i * 5)).off + 2, none⟩ = some (.bool s.any) ∧ W'.cell? ⟨(ad.add (i * 5)).block, (ad.add (i * 5)).off + 3, none⟩ = some (.int .i64 s.last) ∧ W'.cell? ⟨(ad.add (i * 5)).block, (ad.add (i * 5)).off + 4, none⟩ = some (.slice A5 n5 c5) ∧ W'.cell? (ad2.add (i * 5)) = some (.int .i64 t.id) ∧ W'.cell? ⟨(ad2.add (i * 5)).block, (ad2.add (i * 5)).off + 1, none⟩ = some (.bool t.sea) ∧ W'.cell? ⟨(ad2.add (i * 5)).block, (ad2.add (i * 5)).off + 2, none⟩ = some (.bool t.any) ∧ W'.cell? ⟨(ad2.add (i * 5)).block, (ad2.add (i * 5)).off + 3, none⟩ = some (.int .i64 t.last) ∧ W'.cell? ⟨(ad2.add (i * 5)).block, (ad2.add (i * 5)).off + 4, none⟩ = some (.slice A6 n6 c6)) := Lib.hid (fun W' h => ⟨h, (h.blk hb0 (fun h => h)).cell 0 |>.trans (by simp), (h.blk hb1 (fun h => h)).cell 0 |>.trans (by simp), (h.cell (by show (Addr.add _ _).block < _; rw [add_block]; exact Nat.lt_of_lt_of_le had hWr) (fun h => h)).trans z0, (h.cell (by show (Addr.add _ _).block < _; rw [add_block]; exact Nat.lt_of_lt_of_le had hWr) (fun h => h)).trans z1, (h.cell (by show (Addr.add _ _).block < _; rw [add_block]; exact Nat.lt_of_lt_of_le had hWr) (fun h => h)).trans z2, (h.cell (by show (Addr.add _ _).block < _; rw [add_block]; exact Nat.lt_of_lt_of_le had hWr) (fun h => h)).trans z3, (h.cell (by show (Addr.add _ _).block < _; rw [add_block]; exact Nat.lt_of_lt_of_le had hWr) (fun h => h)).trans z4, (h.cell (by show (Addr.add _ _).block < _; rw [add_block]; exact Nat.lt_of_lt_of_le had2 hWr) (fun h => h)).trans v0, (h.cell (by show (Addr.add _ _).block < _; rw [add_block]; exact Nat.lt_of_lt_of_le had2 hWr) (fun h => h)).trans v1, (h.cell (by show (Addr.add _ _).block < _; rw [add_block]; exact Nat.lt_of_lt_of_le had2 hWr) (fun h => h)).trans v2, (h.cell (by show (Addr.add _ _).block < _; rw [add_block]; exact Nat.lt_of_lt_of_le had2 hWr) (fun h => h)).trans v3, (h.cell (by show (Addr.add _ _).block < _; rw [add_block]; exact Nat.lt_of_lt_of_le had2 hWr) (fun h => h)).trans v4⟩)
      have hcs : Try.prog.cellsOf 43 = 5 := by kernel_rfl
      clear hb0 hb1
      go_upto_region 6 with fail
      go_cut [6, 7] (fun s6 s7 wc => ∃ g6 g7 : Nat, s6 = .pointer (some ⟨g6, 0, none⟩) ∧ s7 = .pointer (some ⟨g7, 0, none⟩) ∧ Blk wc g6 43 #[.int .i64 s.id, .bool s.sea, .bool s.any, .int .i64 s.last, .slice A5 n5 c5] ∧ Blk wc g7 43 #[.int .i64 t.id, .bool t.sea, .bool t.any, .int .i64 t.last, .slice A6 n6 c6] ∧ Mod (fun _ => False) wr wc)
      case first =>
        clear x0 y0 z0 z1 z2 z3 z4 v0 v1 v2 v3 v4
        go_region_held (fun W' => Mod (fun _ => False) wr W' ∧ W'.cell? ⟨G0, 0, none⟩ = some (.slice (some ad) n c) ∧ W'.cell? ⟨G, 0, none⟩ = some (.slice (some ad2) n d) ∧ W'.cell? (ad.add (i * 5)) = some (.int .i64 s.id) ∧ W'.cell? ⟨(ad.add (i * 5)).block, (ad.add (i * 5)).off + 1, none⟩ = some (.bool s.sea) ∧ W'.cell? ⟨(ad.add (i * 5)).block, (ad.add (i * 5)).off + 2, none⟩ = some (.bool s.any) ∧ W'.cell? ⟨(ad.add (i * 5)).block, (ad.add (i * 5)).off + 3, none⟩ = some (.int .i64 s.last) ∧ W'.cell? ⟨(ad.add (i * 5)).block, (ad.add (i * 5)).off + 4, none⟩ = some (.slice A5 n5 c5) ∧ W'.cell? (ad2.add (i * 5)) = some (.int .i64 t.id) ∧ W'.cell? ⟨(ad2.add (i * 5)).block, (ad2.add (i * 5)).off + 1, none⟩ = some (.bool t.sea) ∧ W'.cell? ⟨(ad2.add (i * 5)).block, (ad2.add (i * 5)).off + 2, none⟩ = some (.bool t.any) ∧ W'.cell? ⟨(ad2.add (i * 5)).block, (ad2.add (i * 5)).off + 3, none⟩ = some (.int .i64 t.last) ∧ W'.cell? ⟨(ad2.add (i * 5)).block, (ad2.add (i * 5)).off + 4, none⟩ = some (.slice A6 n6 c6)) (exact HX.out _ (by (repeat (first | (with_reducible exact Mod.refl _ _) | (with_reducible refine Mod.setCell ?_ (fun hlt => absurd hlt (by simp)) _) | (with_reducible refine Mod.alloc ?_ _) | (with_reducible refine Mod.drew ?_))))) (fail)
        all_goals (
          go_wp2_with fail
          go_meet
          case rel => exact ⟨_, _, rfl, rfl, (by first | exact (Blk.newAt (by simp)).alloc _ | exact Blk.newAt (by simp)), (by first | exact (Blk.newAt (by simp)).alloc _ | exact Blk.newAt (by simp)), (((Mod.refl _ _).alloc _).alloc _).drew⟩)
      case rest =>
        obtain ⟨g6, g7, rfl, rfl, hb6, hb7, hmx⟩ := hcut
        have t0 := hb6.cell 0
        have t1 := hb6.cell 1
        have t2 := hb6.cell 2
        have t3 := hb6.cell 3
        have t4 := hb6.cell 4
        have u0 := hb7.cell 0
        have u1 := hb7.cell 1
        have u2 := hb7.cell 2
        have u3 := hb7.cell 3
        have u4 := hb7.cell 4
        simp at t0 t1 t2 t3 t4 u0 u1 u2 u3 u4
        have H5 := Lib.hid (Hr5.out.new hmx); have H6 := Lib.hid (Hr6.out.new hmx); have Hmx := Lib.hid (Hm.out.trans hmx (fun _ _ h => h))
        clear hmx hb6 hb7 z0 z1 z2 z3 z4 v0 v1 v2 v3 v4 had had2 x0 y0 HX hcs
        by_cases hid : s.id = t.id
        case neg =>
          have kid : ((s.id : Int) != t.id) = true := by simp [hid]
          have lid : ((s.id : Int) == t.id) = false := by simp [hid]
          have Hno : Hid (¬ m = q) := Lib.hid (fun e => by
            have h1 := Hp.out
            rw [Hps.out, e, ← Hqs.out, Hq.out] at h1
            injection h1 with h1
            exact hid (by rw [h1]))
          clear hid
          go_wp2_with fail
          go_ret
          exact ⟨_, rfl, by simpa using Hno.out, HmW.out.trans Hmx.out (fun _ _ h => h)⟩
        have kid : ((s.id : Int) != t.id) = false := by simp [hid]
        have lid : ((s.id : Int) == t.id) = true := by simp [hid]
        have Qid := Lib.hid hid
        clear hid
        by_cases hsea : s.sea = t.sea
        case neg =>
          have ksea : (s.sea != t.sea) = true := by simp [hsea]
          have lsea : (s.sea == t.sea) = false := by simp [hsea]
          have Hno : Hid (¬ m = q) := Lib.hid (fun e => by
            have h1 := Hp.out
            rw [Hps.out, e, ← Hqs.out, Hq.out] at h1
            injection h1 with h1
            exact hsea (by rw [h1]))
          clear hsea
          go_wp2_with fail
          go_ret
          exact ⟨_, rfl, by simpa using Hno.out, HmW.out.trans Hmx.out (fun _ _ h => h)⟩
        have ksea : (s.sea != t.sea) = false := by simp [hsea]
        have lsea : (s.sea == t.sea) = true := by simp [hsea]
        have Qsea := Lib.hid hsea
        clear hsea
        by_cases hany : s.any = t.any
        case neg =>
          have kany : (s.any != t.any) = true := by simp [hany]
          have lany : (s.any == t.any) = false := by simp [hany]
          have Hno : Hid (¬ m = q) := Lib.hid (fun e => by
            have h1 := Hp.out
            rw [Hps.out, e, ← Hqs.out, Hq.out] at h1
            injection h1 with h1
            exact hany (by rw [h1]))
          clear hany
          go_wp2_with fail
          go_ret
          exact ⟨_, rfl, by simpa using Hno.out, HmW.out.trans Hmx.out (fun _ _ h => h)⟩
        have kany : (s.any != t.any) = false := by simp [hany]
        have lany : (s.any == t.any) = true := by simp [hany]
        have Qany := Lib.hid hany
        clear hany
        by_cases hlast : s.last = t.last
        case neg =>
          have klast : ((s.last : Int) != t.last) = true := by simp [hlast]
          have llast : ((s.last : Int) == t.last) = false := by simp [hlast]
          have Hno : Hid (¬ m = q) := Lib.hid (fun e => by
            have h1 := Hp.out
            rw [Hps.out, e, ← Hqs.out, Hq.out] at h1
            injection h1 with h1
            exact hlast (by rw [h1]))
          clear hlast
          go_wp2_with fail
          go_ret
          exact ⟨_, rfl, by simpa using Hno.out, HmW.out.trans Hmx.out (fun _ _ h => h)⟩
        have klast : ((s.last : Int) != t.last) = false := by simp [hlast]
        have llast : ((s.last : Int) == t.last) = true := by simp [hlast]
        have Qlast := Lib.hid hlast
        clear hlast
        obtain ⟨b, hb⟩ : ∃ b, decide (s.l = t.l) = b := ⟨_, rfl⟩
        have Hcall := Lib.hid (sameS_any A5 A6 n5 n6 c5 c6 _ _ s.l t.l b wc H5.out H6.out hn5 hb)
        have Hb : Hid (b = true ↔ s = t) := Lib.hid (by
          rw [← hb, decide_eq_true_iff]
          refine ⟨fun h => ?_, fun h => by rw [h]⟩
          cases s
          cases t
          simp only at h Qid Qsea Qany Qlast
          simp only [SerN.mk.injEq]
          exact ⟨Qid.out, Qsea.out, Qany.out, Qlast.out, h⟩)
        clear hb
        cases b with
        | true =>
          go_wp2_with fail
          refine Hcall.out.mono ?_
          rintro e w1 ⟨rfl, hm3⟩
          have Hm3 := Lib.hid (Hmx.out.trans hm3 (fun _ _ h => h))
          clear hm3
          go_wp2_with fail
          go_roundg (gk - 1)
          case measure => have := Hik.out; omega
          case rel => exact ⟨i + 1, by have := Hik.out; omega, by go_num, (fun j hj => by
            rcases Nat.lt_or_ge j i with h | h
            · exact Hr.out j h
            · obtain rfl : j = i := by omega
              have h9 : s = t := by have h := Hb.out; simpa using h
              rw [Hp.out, Hq.out, h9]), Hm3.out⟩
        | false =>
          have Hno : Hid (¬ m = q) := Lib.hid (fun e => by
            have h1 := Hp.out
            rw [Hps.out, e, ← Hqs.out, Hq.out] at h1
            injection h1 with h1
            have h2 : ¬ s = t := by have h := Hb.out; simpa using h
            exact h2 h1.symm)
          go_wp2_with fail
          refine Hcall.out.mono ?_
          rintro e w1 ⟨rfl, hm3⟩
          have Hm3 := Lib.hid (Hmx.out.trans hm3 (fun _ _ h => h))
          clear hm3
          go_wp2_with fail
          go_ret
          exact ⟨_, rfl, by simpa using Hno.out, HmW.out.trans Hm3.out (fun _ _ h => h)⟩
    · have hin' : ¬ (i : Int) < (n : Int) := by omega
      have Hyes : Hid (m.ser = q.ser) := Lib.hid (by
        rw [← Hps.out, ← Hqs.out]
        refine List.ext_getElem? fun j => ?_
        have h1 := Hik.out
        rcases Nat.lt_or_ge j i with h | h
        · exact Hr.out j h
        · rw [List.getElem?_eq_none (by rw [List.length_map, HR.out.len]; omega), List.getElem?_eq_none (by rw [List.length_map, HS.out.len]; omega)])
      have HmA := Lib.hid Hm.out
      clear Hm Hr Hik hin
      go_wp2_with fail
      clear x0 y0
      go_loopg [8] n2 (fun gk s8 wr => ∃ i : Nat, i + gk = n2 ∧ s8 = .int .i64 (i : Int) ∧ (∀ j : Nat, j < i → (is.map (·.1))[j]? = (js.map (·.1))[j]?) ∧ Mod (fun _ => False) W wr)
      case atStart => exact ⟨0, by omega, rfl, (fun j h => by omega), HmA.out⟩
      case round =>
        obtain ⟨a, hak, rfl, hr, hm⟩ := hrel
        have x1 := (hm.blk Hb0.out (fun h => h)).cell 1
        have y1 := (hm.blk Hb1.out (fun h => h)).cell 1
        simp at x1 y1
        have Hak := Lib.hid hak; have Hr := Lib.hid hr; have Hm := Lib.hid hm
        clear hak hr hm
        by_cases han : a < n2
        · obtain ⟨ad, s, A5, n5, c5, rfl, had, hp, hr5, _, _, z0, z1⟩ := (HR2.out.new Hm.out).at_ han
          obtain ⟨ad2, t, A6, n6, c6, rfl, had2, hq, hr6, _, _, v0, v1⟩ := (HS2.out.new Hm.out).at_ han
          have Hp : Hid ((is.map (·.1))[a]? = some s) := Lib.hid (by rw [List.getElem?_map, hp]; rfl)
          have Hq : Hid ((js.map (·.1))[a]? = some t) := Lib.hid (by rw [List.getElem?_map, hq]; rfl)
          have hn5 : n5 ≤ 1000000 := by have h := HL2.out _ (List.mem_of_getElem? hp); have := hr5.1; simp only at h; omega
          have han' : (a : Int) < (n2 : Int) := by omega
          have ha0 : (0 : Int) ≤ (a : Int) := by omega
          obtain ⟨b, hb⟩ : ∃ b, decide (s.rest = t.rest) = b := ⟨_, rfl⟩
          have Hcall : Hid (∀ W' : World, Mod (fun _ => False) wr W' → Calls Try.prog 17 #[.slice A5 n5 c5, .slice A6 n6 c6] W' fun e w' => e = .returned (.bool b) ∧ Mod (fun _ => False) W' w') := Lib.hid (fun W' h => sameS_any A5 A6 n5 n6 c5 c6 _ _ s.rest t.rest b W' (hr5.new h) (hr6.new h) hn5 hb)
          have Hb : Hid (s.id = t.id → (b = true ↔ s = t)) := Lib.hid (fun h0 => by
            rw [← hb, decide_eq_true_iff]
            refine ⟨fun h => ?_, fun h => by rw [h]⟩
            cases s
            cases t
            simp only at h h0
            simp only [IteN.mk.injEq]
            exact ⟨h0, h⟩)
          clear hp hq hr5 hr6 hb
          by_cases hid : s.id = t.id
          case neg =>
            have kid : ((s.id : Int) != t.id) = true := by simp [hid]
            have Hno : Hid (¬ m = q) := Lib.hid (fun e => by
              have h1 := Hp.out
              rw [His.out, e, ← Hjs.out, Hq.out] at h1
              injection h1 with h1
              exact hid (by rw [h1]))
            have lid : (s.id = t.id) = False := by simp [hid]
            clear hid
            go_upto_region 12 with fail
            go_quiet (fail)
            go_wp2_with fail
            go_ret
            exact ⟨_, rfl, by simpa using Hno.out, (HmW.out.trans Hm.out (fun _ _ h => h)).drewN _⟩
          have kid : ((s.id : Int) != t.id) = false := by simp [hid]
          have HbE := Lib.hid (Hb.out hid)
          have hWr := Hm.out.size
          have hb0 := Hm.out.blk Hb0.out (fun h => h)
          have hb1 := Hm.out.blk Hb1.out (fun h => h)
          have HX : Hid (∀ W' : World, Mod (fun _ => False) wr W' → Mod (fun _ => False) wr W' ∧ W'.cell? ⟨G0, 1, none⟩ = some (.slice (some ad) n2 c2) ∧ W'.cell? ⟨G, 1, none⟩ = some (.slice (some ad2) n2 d2) ∧ W'.cell? (ad.add (a * 2)) = some (.int .i64 s.id) ∧ W'.cell? ⟨(ad.add (a * 2)).block, (ad.add (a * 2)).off + 1, none⟩ = some (.slice A5 n5 c5) ∧ W'.cell? (ad2.add (a * 2)) = some (.int .i64 t.id) ∧ W'.cell? ⟨(ad2.add (a * 2)).block, (ad2.add (a * 2)).off + 1, none⟩ = some (.slice A6 n6 c6)) := Lib.hid (fun W' h => ⟨h, (h.blk hb0 (fun h => h)).cell 1 |>.trans (by simp), (h.blk hb1 (fun h => h)).cell 1 |>.trans (by simp), (h.cell (by show (Addr.add _ _).block < _; rw [add_block]; exact Nat.lt_of_lt_of_le had hWr) (fun h => h)).trans z0, (h.cell (by show (Addr.add _ _).block < _; rw [add_block]; exact Nat.lt_of_lt_of_le had hWr) (fun h => h)).trans z1, (h.cell (by show (Addr.add _ _).block < _; rw [add_block]; exact Nat.lt_of_lt_of_le had2 hWr) (fun h => h)).trans v0, (h.cell (by show (Addr.add _ _).block < _; rw [add_block]; exact Nat.lt_of_lt_of_le had2 hWr) (fun h => h)).trans v1⟩)
          clear hb0 hb1 had had2 hWr hid
          cases b with
          | true =>
            go_upto_region 12 with fail
            go_region_held (fun W' => Mod (fun _ => False) wr W' ∧ W'.cell? ⟨G0, 1, none⟩ = some (.slice (some ad) n2 c2) ∧ W'.cell? ⟨G, 1, none⟩ = some (.slice (some ad2) n2 d2) ∧ W'.cell? (ad.add (a * 2)) = some (.int .i64 s.id) ∧ W'.cell? ⟨(ad.add (a * 2)).block, (ad.add (a * 2)).off + 1, none⟩ = some (.slice A5 n5 c5) ∧ W'.cell? (ad2.add (a * 2)) = some (.int .i64 t.id) ∧ W'.cell? ⟨(ad2.add (a * 2)).block, (ad2.add (a * 2)).off + 1, none⟩ = some (.slice A6 n6 c6)) (first | exact HX.out _ (Mod.refl _ _) | exact HX.out _ (Mod.refl _ _).drew | exact HX.out _ Hm3.out | exact HX.out _ Hm3.out.drew) ((go_at_call 17; refine (Hcall.out _ (Mod.refl (fun _ => False) wr).drew).mono ?_; rintro e w3 ⟨rfl, hm3⟩; have Hm3 := Lib.hid ((Mod.refl (fun _ => False) wr).drew.trans hm3 (fun _ _ h => h)); clear hm3))
            all_goals (
              go_wp2_with fail
              go_roundg (gk - 1)
              case measure => have := Hak.out; omega
              case rel => exact ⟨a + 1, by have := Hak.out; omega, by go_num, (fun j hj => by
                rcases Nat.lt_or_ge j a with h | h
                · exact Hr.out j h
                · obtain rfl : j = a := by omega
                  have h9 : s = t := by have h := HbE.out; simpa using h
                  rw [Hp.out, Hq.out, h9]), Hm.out.trans Hm3.out (fun _ _ h => h)⟩)
          | false =>
            have Hno : Hid (¬ m = q) := Lib.hid (fun e => by
              have h1 := Hp.out
              rw [His.out, e, ← Hjs.out, Hq.out] at h1
              injection h1 with h1
              have h2 : ¬ s = t := by have h := HbE.out; simpa using h
              exact h2 h1.symm)
            go_upto_region 12 with fail
            go_region_held (fun W' => Mod (fun _ => False) wr W' ∧ W'.cell? ⟨G0, 1, none⟩ = some (.slice (some ad) n2 c2) ∧ W'.cell? ⟨G, 1, none⟩ = some (.slice (some ad2) n2 d2) ∧ W'.cell? (ad.add (a * 2)) = some (.int .i64 s.id) ∧ W'.cell? ⟨(ad.add (a * 2)).block, (ad.add (a * 2)).off + 1, none⟩ = some (.slice A5 n5 c5) ∧ W'.cell? (ad2.add (a * 2)) = some (.int .i64 t.id) ∧ W'.cell? ⟨(ad2.add (a * 2)).block, (ad2.add (a * 2)).off + 1, none⟩ = some (.slice A6 n6 c6)) (first | exact HX.out _ (Mod.refl _ _) | exact HX.out _ (Mod.refl _ _).drew | exact HX.out _ Hm3.out | exact HX.out _ Hm3.out.drew) ((go_at_call 17; refine (Hcall.out _ (Mod.refl (fun _ => False) wr).drew).mono ?_; rintro e w3 ⟨rfl, hm3⟩; have Hm3 := Lib.hid ((Mod.refl (fun _ => False) wr).drew.trans hm3 (fun _ _ h => h)); clear hm3))
            all_goals (
              go_wp2_with fail
              go_ret
              exact ⟨_, rfl, by simpa using Hno.out, HmW.out.trans (Hm.out.trans Hm3.out (fun _ _ h => h)) (fun _ _ h => h)⟩)
        · have han' : ¬ (a : Int) < (n2 : Int) := by omega
          have Hyes2 : Hid (m = q) := Lib.hid (by
            have h3 : m.ite = q.ite := by
              rw [← His.out, ← Hjs.out]
              refine List.ext_getElem? fun j => ?_
              have h1 := Hak.out
              rcases Nat.lt_or_ge j a with h | h
              · exact Hr.out j h
              · rw [List.getElem?_eq_none (by rw [List.length_map, HR2.out.len]; omega), List.getElem?_eq_none (by rw [List.length_map, HS2.out.len]; omega)]
            have h1 := Hyes.out
            have h2 := Qn.out
            cases m
            cases q
            simp only at h1 h2 h3
            simp only [ModN.mk.injEq]
            exact ⟨h1, h3, h2⟩)
          go_wp2_with fail
          go_ret
          exact ⟨_, rfl, by simpa using Hyes2.out, HmW.out.trans Hm.out (fun _ _ h => h)⟩

def rowF (r : OpN × Int × Nat) : List Value := [.int .i64 r.1.kind, .int .i64 r.1.series, .int .i64 r.1.iter, .int .i64 r.1.t, .int .u64 (r.1.v : Int), .int .i64 r.1.from_, .int .i64 r.1.to_, .int .i64 r.1.n, .int .i64 r.2.1, .int .i64 (r.2.2 : Int)]
def FormsCut (w wc : World) (s3 : Value) : Prop := ∃ g : Nat, s3 = .slice (some ⟨g, 0, none⟩) 23 23 ∧ OwnK 10 w.heap.size wc 26 (.slice (some ⟨g, 0, none⟩) 23 23) (formsL.map rowF) ∧ Mod (fun _ => False) w wc
set_option maxRecDepth 100000 in
theorem forms_mk (w : World) (cs : Array Value) (h : cs = ((formsL.map rowF).flatten).toArray) : FormsCut w (w.alloc (.cells cs 26)) (.slice (some ⟨w.heap.size, 0, none⟩) 23 23) := by
  subst h
  refine ⟨_, rfl, OwnK.of_blk (Blk.new _ _ _) (Nat.le_refl _) rfl (Nat.le_refl _) (by decide) (by rfl) (fun r hr => ?_) (by rfl), (Mod.refl _ _).alloc _⟩
  obtain ⟨p, _, rfl⟩ := List.mem_map.1 hr
  rfl
theorem forms_zero : (Try.prog.info? 26).map (fun i => (i.zero, i.size)) = some (some (.agg #[.int .i64 0, .int .i64 0, .int .i64 0, .int .i64 0, .int .u64 0, .int .i64 0, .int .i64 0, .int .i64 0, .int .i64 0, .int .i64 0]), 10) := by kernel_rfl
theorem forms_err : ∀ r ∈ formsL, r.2.1 ≠ 0 → (doN formsM r.1).1 = formsM := by decide +kernel
theorem forms_good : ∀ r ∈ formsL, r.1.v < 2 ^ 64 ∧ (-1000000000 ≤ r.1.t ∧ r.1.t ≤ 1000000000) := by decide +kernel
def fm1 : ModN := ⟨[⟨2, false, true, 10, [(10, 1)]⟩], [], 0⟩
def fm2 : ModN := ⟨[⟨2, false, true, 20, [(10, 1), (20, 2)]⟩], [], 0⟩
def fm3 : ModN := ⟨[⟨2, false, true, 30, [(10, 1), (20, 2), (30, 3)]⟩], [], 0⟩
theorem fm_all : doN .nil (appO 2 10 1) = (fm1, ⟨0, 0, []⟩) ∧ doN fm1 (appO 2 20 2) = (fm2, ⟨0, 0, []⟩) ∧ doN fm2 (appO 2 30 3) = (fm3, ⟨0, 0, []⟩) ∧ doN fm3 { opZ with kind := 5, series := 2, from_ := 0, to_ := 99 } = (formsM, ⟨0, 1, []⟩) := by decide +kernel
def FmAt (gk : Nat) (p : Int) (M : ModN) : Prop := (gk = 3 ∧ p = 1 ∧ M = .nil) ∨ (gk = 2 ∧ p = 2 ∧ M = fm1) ∨ (gk = 1 ∧ p = 3 ∧ M = fm2) ∨ (gk = 0 ∧ p = 4 ∧ M = fm3)
set_option maxHeartbeats 4000000 in
set_option maxRecDepth 100000 in
theorem mforms_walk (a0 : Int) (j : Nat) (hj : j < 23) (w : World) (hand : bits .and .i64 a0 255 = a0 % 256) (hrem : (a0 % 256).tmod 23 = (j : Int)) :
    Calls Try.prog 3 #[.int .i64 a0] w fun e w' => e = .returned (.bool true) ∧ Mod (fun _ => False) w w' := by
  obtain ⟨d1, d2, d3, d4⟩ := fm_all
  have K1 : KeepM fm1 := by have h := doN_keep KeepM.nil (appO 2 10 1); rw [d1] at h; exact h
  have K2 : KeepM fm2 := by have h := doN_keep K1 (appO 2 20 2); rw [d2] at h; exact h
  have K3 : KeepM fm3 := by have h := doN_keep K2 (appO 2 30 3); rw [d3] at h; exact h
  have K4 : KeepM formsM := by have h := doN_keep K3 { opZ with kind := 5, series := 2, from_ := 0, to_ := 99 }; rw [d4] at h; exact h
  have L1 : LenM fm1 1 := by have h := (doN_len (LenM.nil 0) (o := appO 2 10 1) (fits_small (by decide)) (by decide)).1; rw [d1] at h; exact h
  have L2 : LenM fm2 2 := by have h := (doN_len L1 (o := appO 2 20 2) (fits_small (by decide)) (by decide)).1; rw [d2] at h; exact h
  have L3 : LenM fm3 3 := by have h := (doN_len L2 (o := appO 2 30 3) (fits_small (by decide)) (by decide)).1; rw [d3] at h; exact h
  have L4 : LenM formsM 4 := by have h := (doN_len L3 (o := { opZ with kind := 5, series := 2, from_ := 0, to_ := 99 }) (fits_small (by decide)) (by decide)).1; rw [d4] at h; exact h
  have Hc1 : Hid (∀ (W : World) A n c A2 n2 c2, HavM 0 W (.slice A n c) (.slice A2 n2 c2) .nil → Calls Try.prog 8 #[.agg #[.slice A n c, .slice A2 n2 c2, .int .i64 0], .agg #[.int .i64 1, .int .i64 2, .int .i64 0, .int .i64 10, .int .u64 1, .int .i64 0, .int .i64 0, .int .i64 0]] W fun e w' => DidM W w' fm1 0 0 0 [] e) := Lib.hid (fun W A n c A2 n2 c2 h => (mdo_any A n c A2 n2 c2 .nil (appO 2 10 1) W h.rdm KeepM.nil ((LenM.nil 0).more (by decide)) (by decide)).mono (fun e w' h => h.did d1 rfl))
  have Hc2 : Hid (∀ (W : World) A n c A2 n2 c2, HavM 0 W (.slice A n c) (.slice A2 n2 c2) fm1 → Calls Try.prog 8 #[.agg #[.slice A n c, .slice A2 n2 c2, .int .i64 0], .agg #[.int .i64 1, .int .i64 2, .int .i64 0, .int .i64 20, .int .u64 2, .int .i64 0, .int .i64 0, .int .i64 0]] W fun e w' => DidM W w' fm2 0 0 0 [] e) := Lib.hid (fun W A n c A2 n2 c2 h => (mdo_any A n c A2 n2 c2 fm1 (appO 2 20 2) W h.rdm K1 (L1.more (by decide)) (by decide)).mono (fun e w' h => h.did d2 rfl))
  have Hc3 : Hid (∀ (W : World) A n c A2 n2 c2, HavM 0 W (.slice A n c) (.slice A2 n2 c2) fm2 → Calls Try.prog 8 #[.agg #[.slice A n c, .slice A2 n2 c2, .int .i64 0], .agg #[.int .i64 1, .int .i64 2, .int .i64 0, .int .i64 30, .int .u64 3, .int .i64 0, .int .i64 0, .int .i64 0]] W fun e w' => DidM W w' fm3 0 0 0 [] e) := Lib.hid (fun W A n c A2 n2 c2 h => (mdo_any A n c A2 n2 c2 fm2 (appO 2 30 3) W h.rdm K2 (L2.more (by decide)) (by decide)).mono (fun e w' h => h.did d3 rfl))
  have Hc4 : Hid (∀ (W : World) A n c A2 n2 c2, HavM 0 W (.slice A n c) (.slice A2 n2 c2) fm3 → Calls Try.prog 8 #[.agg #[.slice A n c, .slice A2 n2 c2, .int .i64 0], .agg #[.int .i64 5, .int .i64 2, .int .i64 0, .int .i64 0, .int .u64 0, .int .i64 0, .int .i64 99, .int .i64 0]] W fun e w' => DidM W w' formsM 1 0 1 [] e) := Lib.hid (fun W A n c A2 n2 c2 h => (mdo_any A n c A2 n2 c2 fm3 { opZ with kind := 5, series := 2, from_ := 0, to_ := 99 } W h.rdm K3 (L3.more (by decide)) (by decide)).mono (fun e w' h => h.did d4 rfl))
  obtain ⟨⟨o, x, l⟩, hrow⟩ : ∃ r, formsL[j]? = some r := ⟨formsL[j]'(by rw [formsL_len]; exact hj), List.getElem?_eq_getElem _⟩
  have hin := List.mem_of_getElem? hrow
  obtain ⟨f1, f2, f3⟩ := formsL_all _ hin
  have f4 := forms_err _ hin
  obtain ⟨f5, f6, f7⟩ := forms_good _ hin
  simp only at f1 f2 f3 f4 f5 f6 f7
  obtain ⟨mE, hmE⟩ : ∃ mE, (doN formsM o).1 = mE := ⟨_, rfl⟩
  obtain ⟨lE, hlE⟩ : ∃ lE, (doN formsM o).2.l = lE := ⟨_, rfl⟩
  obtain ⟨NE, hNE⟩ : ∃ NE, mE.next = NE := ⟨_, rfl⟩
  have d5 : doN formsM o = (mE, ⟨x, 0, lE⟩) := by
    rw [← hmE, ← hlE, ← f1, ← f3]
  rw [hlE] at f2
  rw [hmE] at f4
  have Hc5 : Hid (∀ (W : World) A n c A2 n2 c2, HavM 0 W (.slice A n c) (.slice A2 n2 c2) formsM → Calls Try.prog 8 #[.agg #[.slice A n c, .slice A2 n2 c2, .int .i64 1], .agg #[.int .i64 o.kind, .int .i64 o.series, .int .i64 o.iter, .int .i64 o.t, .int .u64 (o.v : Int), .int .i64 o.from_, .int .i64 o.to_, .int .i64 o.n]] W fun e w' => DidM W w' mE NE x 0 lE e) := Lib.hid (fun W A n c A2 n2 c2 h => (mdo_any A n c A2 n2 c2 formsM o W h.rdm K4 (L4.more (by decide)) (by decide)).mono (fun e w' h => h.did d5 hNE))
  have LE : LenM mE 5 := by have h := (doN_len L4 (o := o) (fits_small ⟨f6, f7⟩) f5).1; rw [d5] at h; exact h
  have Hrow := Lib.hid hrow; have F2 := Lib.hid f2; have F4 := Lib.hid f4; have HLE := Lib.hid LE; have HNE := Lib.hid hNE; have Hj := Lib.hid hj
  clear d1 d2 d3 d4 d5 K1 K2 K3 K4 L1 L2 L3 L4 f1 f2 f3 f4 f5 f6 f7 hin hmE hlE hNE hrow LE
  go_enter Try.func3, Try.ntmps3
  go_upto_region 1 with fail
  go_cut [3] (fun s3 wc => FormsCut w wc s3)
  case first =>
    go_wp2_with fail
    obtain ⟨ie, hie, h2⟩ := Option.map_eq_some_iff.1 forms_zero
    injection h2 with hz hsz
    refine wp_buildSlice 27 26 23 _ rfl ((formsL.map rowF).flatten).toArray ie _ Try.underlying27 hie hz (by rw [hsz]; decide) (by rw [hsz]; decide) (by simp only [hsz]; first | kernel_rfl | rfl) ?_
    go_wp2_with fail
    go_meet
    case rel => exact forms_mk w _ rfl
  case rest =>
    obtain ⟨g, rfl, hO, hmc⟩ := hcut
    obtain ⟨W1, hW1, hm1, hb1, hz1⟩ := Blk.box wc 31 #[.slice none 0 0, .slice none 0 0, .int .i64 0]
    obtain ⟨g8, hg8⟩ : ∃ g, g = wc.heap.size := ⟨_, rfl⟩
    rw [← hg8] at hb1
    have HO1 := Lib.hid (hO.mod hm1); have Hm1 := Lib.hid (hmc.trans hm1 (fun _ _ h => h)); have Hb1 := Lib.hid hb1; have HW1 := Lib.hid hW1; have Hg8 := Lib.hid hg8; have Hg0 : Hid (w.heap.size ≤ g8) := Lib.hid (by rw [hg8]; exact hmc.size)
    clear hO hmc hm1 hb1 hz1 hW1 hg8
    go_upto_region 3 with fail
    rw [← HW1.out, ← Hg8.out]
    go_wp2_with fail
    go_loopg [5] 3 (fun gk s5 wr => ∃ (p : Int) (M : ModN) (A : Option Addr) (n c : Nat) (A2 : Option Addr) (n2 c2 : Nat), FmAt gk p M ∧ s5 = .int .i64 p ∧ Blk wr g8 31 #[.slice A n c, .slice A2 n2 c2, .int .i64 0] ∧ HavM 0 wr (.slice A n c) (.slice A2 n2 c2) M ∧ OwnK 10 w.heap.size wr 26 (.slice (some ⟨g, 0, none⟩) 23 23) (formsL.map rowF) ∧ Mod (fun _ => False) w wr)
    case atStart => exact ⟨1, .nil, none, 0, 0, none, 0, 0, .inl ⟨rfl, rfl, rfl⟩, rfl, Hb1.out, HavM.nil _ _, HO1.out, Hm1.out⟩
    case round =>
      obtain ⟨p, M, A, n, c, A2, n2, c2, hat, rfl, hb, hM, hO, hm⟩ := hrel
      have x0 := hb.cell 0
      have x1 := hb.cell 1
      have x2 := hb.cell 2
      simp at x0 x1 x2
      have Hb := Lib.hid hb; have HM := Lib.hid hM; have HO := Lib.hid hO; have Hm := Lib.hid hm
      clear hb hM hO hm HO1 Hm1 Hb1 HW1
      rcases hat with ⟨rfl, rfl, rfl⟩ | ⟨rfl, rfl, rfl⟩ | ⟨rfl, rfl, rfl⟩ | ⟨rfl, rfl, rfl⟩
      · go_wp2_with fail
        refine (Hc1.out wr A n c A2 n2 c2 HM.out).mono ?_
        rintro e w6 ⟨E, k, d, E2, k2, d2, E3, k3, d3, rfl, hM, hS, hm⟩
        have hbo := hm.blk Hb.out (fun h => h)
        have y0 := hbo.cell 0
        have y1 := hbo.cell 1
        have y2 := hbo.cell 2
        have p0 := hbo.frozen 0
        have p1 := hbo.frozen 1
        have p2 := hbo.frozen 2
        simp at y0 y1 y2
        obtain ⟨W6, hW, hbn, hmo, hMo⟩ := lay_over1 hbo (.slice E k d) (.slice E2 k2 d2) (.int .i64 0)
        have HM6 := Lib.hid ((hMo hM).mono (Nat.zero_le _)); have Hb6 := Lib.hid hbn; have Hm6 := Lib.hid ((Hm.out.trans hm (fun _ _ h => h)).own hmo Hg0.out); have HW := Lib.hid hW
        have HO6 := Lib.hid ((HO.out.mod hm).modS hmo (fun k hk e => by
          obtain ⟨cs', hcs'⟩ := own_blk (HO.out.mod hm) k hk
          rw [e] at hcs'
          exact Blk.ne_ hbo hcs' (by decide) rfl))
        clear x0 x1 x2 hM hS hm hbo hbn hmo hMo hW
        go_wp2_with fail
        rw [← HW.out]
        go_roundg 2
        case measure => omega
        case rel => exact ⟨2, _, E, k, d, E2, k2, d2, .inr (.inl ⟨rfl, rfl, rfl⟩), by go_num, Hb6.out, HM6.out, HO6.out, Hm6.out⟩
      · go_wp2_with fail
        refine (Hc2.out wr A n c A2 n2 c2 HM.out).mono ?_
        rintro e w6 ⟨E, k, d, E2, k2, d2, E3, k3, d3, rfl, hM, hS, hm⟩
        have hbo := hm.blk Hb.out (fun h => h)
        have y0 := hbo.cell 0
        have y1 := hbo.cell 1
        have y2 := hbo.cell 2
        have p0 := hbo.frozen 0
        have p1 := hbo.frozen 1
        have p2 := hbo.frozen 2
        simp at y0 y1 y2
        obtain ⟨W6, hW, hbn, hmo, hMo⟩ := lay_over1 hbo (.slice E k d) (.slice E2 k2 d2) (.int .i64 0)
        have HM6 := Lib.hid ((hMo hM).mono (Nat.zero_le _)); have Hb6 := Lib.hid hbn; have Hm6 := Lib.hid ((Hm.out.trans hm (fun _ _ h => h)).own hmo Hg0.out); have HW := Lib.hid hW
        have HO6 := Lib.hid ((HO.out.mod hm).modS hmo (fun k hk e => by
          obtain ⟨cs', hcs'⟩ := own_blk (HO.out.mod hm) k hk
          rw [e] at hcs'
          exact Blk.ne_ hbo hcs' (by decide) rfl))
        clear x0 x1 x2 hM hS hm hbo hbn hmo hMo hW
        go_wp2_with fail
        rw [← HW.out]
        go_roundg 1
        case measure => omega
        case rel => exact ⟨3, _, E, k, d, E2, k2, d2, .inr (.inr (.inl ⟨rfl, rfl, rfl⟩)), by go_num, Hb6.out, HM6.out, HO6.out, Hm6.out⟩
      · go_wp2_with fail
        refine (Hc3.out wr A n c A2 n2 c2 HM.out).mono ?_
        rintro e w6 ⟨E, k, d, E2, k2, d2, E3, k3, d3, rfl, hM, hS, hm⟩
        have hbo := hm.blk Hb.out (fun h => h)
        have y0 := hbo.cell 0
        have y1 := hbo.cell 1
        have y2 := hbo.cell 2
        have p0 := hbo.frozen 0
        have p1 := hbo.frozen 1
        have p2 := hbo.frozen 2
        simp at y0 y1 y2
        obtain ⟨W6, hW, hbn, hmo, hMo⟩ := lay_over1 hbo (.slice E k d) (.slice E2 k2 d2) (.int .i64 0)
        have HM6 := Lib.hid ((hMo hM).mono (Nat.zero_le _)); have Hb6 := Lib.hid hbn; have Hm6 := Lib.hid ((Hm.out.trans hm (fun _ _ h => h)).own hmo Hg0.out); have HW := Lib.hid hW
        have HO6 := Lib.hid ((HO.out.mod hm).modS hmo (fun k hk e => by
          obtain ⟨cs', hcs'⟩ := own_blk (HO.out.mod hm) k hk
          rw [e] at hcs'
          exact Blk.ne_ hbo hcs' (by decide) rfl))
        clear x0 x1 x2 hM hS hm hbo hbn hmo hMo hW
        go_wp2_with fail
        rw [← HW.out]
        go_roundg 0
        case measure => omega
        case rel => exact ⟨4, _, E, k, d, E2, k2, d2, .inr (.inr (.inr ⟨rfl, rfl, rfl⟩)), by go_num, Hb6.out, HM6.out, HO6.out, Hm6.out⟩
      · go_wp2_with fail
        refine (Hc4.out wr A n c A2 n2 c2 HM.out).mono ?_
        rintro e w6 ⟨E, k, d, E2, k2, d2, E3, k3, d3, rfl, hM, hS, hm⟩
        have hbo := hm.blk Hb.out (fun h => h)
        have y0 := hbo.cell 0
        have y1 := hbo.cell 1
        have y2 := hbo.cell 2
        have p0 := hbo.frozen 0
        have p1 := hbo.frozen 1
        have p2 := hbo.frozen 2
        simp at y0 y1 y2
        obtain ⟨W6, hW, hbn, hmo, hMo⟩ := lay_over1 hbo (.slice E k d) (.slice E2 k2 d2) (.int .i64 1)
        have HM6 := Lib.hid ((hMo hM).mono (Nat.zero_le _)); have Hb6 := Lib.hid hbn; have Hm6 := Lib.hid ((Hm.out.trans hm (fun _ _ h => h)).own hmo Hg0.out); have HW := Lib.hid hW
        have HO6 := Lib.hid ((HO.out.mod hm).modS hmo (fun k hk e => by
          obtain ⟨cs', hcs'⟩ := own_blk (HO.out.mod hm) k hk
          rw [e] at hcs'
          exact Blk.ne_ hbo hcs' (by decide) rfl))
        clear x0 x1 x2 hM hS hm hbo hbn hmo hMo hW Hc1 Hc2 Hc3 Hc4 HO Hm Hb HM
        go_upto_region 8 with fail
        rw [← HW.out]
        clear HW y0 y1 y2 p0 p1 p2
        obtain ⟨ad, rw_, e0, _, hr, _, hcl⟩ := (HO6.out.rds (by rw [List.length_map, formsL_len])).at_ Hj.out (by decide)
        injection e0 with e0
        subst e0
        have hre : rw_ = rowF (o, x, l) := by rw [List.getElem?_map, Hrow.out] at hr; exact (Option.some.inj hr).symm
        subst hre
        have z0 : W6.cell? ⟨g, j * 10, none⟩ = some (.int .i64 o.kind) := by have h := hcl 0 _ rfl; rw [add_addr] at h; simpa using h
        have z1 : W6.cell? ⟨g, j * 10 + 1, none⟩ = some (.int .i64 o.series) := by have h := hcl 1 _ rfl; simpa [Addr.add] using h
        have z2 : W6.cell? ⟨g, j * 10 + 2, none⟩ = some (.int .i64 o.iter) := by have h := hcl 2 _ rfl; simpa [Addr.add] using h
        have z3 : W6.cell? ⟨g, j * 10 + 3, none⟩ = some (.int .i64 o.t) := by have h := hcl 3 _ rfl; simpa [Addr.add] using h
        have z4 : W6.cell? ⟨g, j * 10 + 4, none⟩ = some (.int .u64 (o.v : Int)) := by have h := hcl 4 _ rfl; simpa [Addr.add] using h
        have z5 : W6.cell? ⟨g, j * 10 + 5, none⟩ = some (.int .i64 o.from_) := by have h := hcl 5 _ rfl; simpa [Addr.add] using h
        have z6 : W6.cell? ⟨g, j * 10 + 6, none⟩ = some (.int .i64 o.to_) := by have h := hcl 6 _ rfl; simpa [Addr.add] using h
        have z7 : W6.cell? ⟨g, j * 10 + 7, none⟩ = some (.int .i64 o.n) := by have h := hcl 7 _ rfl; simpa [Addr.add] using h
        have z8 : W6.cell? ⟨g, j * 10 + 8, none⟩ = some (.int .i64 x) := by have h := hcl 8 _ rfl; simpa [Addr.add] using h
        have z9 : W6.cell? ⟨g, j * 10 + 9, none⟩ = some (.int .i64 (l : Int)) := by have h := hcl 9 _ rfl; simpa [Addr.add] using h
        have hj23 : (j : Int) < 23 := by have := Hj.out; omega
        have hj0 : (0 : Int) ≤ (j : Int) := by omega
        obtain ⟨W7, hW7, hm7, hb7, hz7⟩ := Blk.box W6 26 #[.int .i64 o.kind, .int .i64 o.series, .int .i64 o.iter, .int .i64 o.t, .int .u64 (o.v : Int), .int .i64 o.from_, .int .i64 o.to_, .int .i64 o.n, .int .i64 x, .int .i64 (l : Int)]
        obtain ⟨g6, hg6⟩ : ∃ g, g = W6.heap.size := ⟨_, rfl⟩
        rw [← hg6] at hb7
        have HM7 := Lib.hid (HM6.out.new hm7); have Hb6' := Lib.hid (hm7.blk Hb6.out (fun h => h)); have Hm7 := Lib.hid (Hm6.out.trans hm7 (fun _ _ h => h)); have HW7 := Lib.hid hW7; have Hg6 := Lib.hid hg6; have Hb7 := Lib.hid hb7
        clear hr hcl hW7 hg6 hm7 hz7
        go_upto_region 9 with fail
        rw [← HW7.out, ← Hg6.out]
        clear z0 z1 z2 z3 z4 z5 z6 z7 z8 z9 HW7 hand hrem
        have t0 := hb7.cell 0
        have t1 := hb7.cell 1
        have t2 := hb7.cell 2
        have t3 := hb7.cell 3
        have t4 := hb7.cell 4
        have t5 := hb7.cell 5
        have t6 := hb7.cell 6
        have t7 := hb7.cell 7
        have t8 := hb7.cell 8
        have t9 := hb7.cell 9
        have x0 := Hb6'.out.cell 0
        have x1 := Hb6'.out.cell 1
        have x2 := Hb6'.out.cell 2
        simp at t0 t1 t2 t3 t4 t5 t6 t7 t8 t9 x0 x1 x2
        clear hb7
        go_wp2_with fail
        refine (Hc5.out W7 E k d E2 k2 d2 HM7.out).mono ?_
        rintro e w8 ⟨P, r, s, P2, r2, s2, P3, r3, s3, rfl, hM, hS, hm⟩
        obtain ⟨W9, hW, hmo, hbx, hbr, hz⟩ := lay_two w8 (.slice P r s) (.slice P2 r2 s2) (.int .i64 NE) (.int .i64 x) (.int .i64 0) (.slice P3 r3 s3)
        obtain ⟨g9, hg9⟩ : ∃ g, g = w8.heap.size := ⟨_, rfl⟩
        rw [← hg9] at hbx hbr
        have h89 := hm.trans hmo (fun _ _ h => h)
        have hl3 : r3 = l := by have h := hS.rds.1; have := F2.out; omega
        subst hl3
        have HMm := Lib.hid (HM7.out.new h89); have HMn := Lib.hid ((hM.new hmo).mono (Nat.zero_le _)); have Hm9 := Lib.hid (Hm7.out.trans h89 (fun _ _ h => h)); have HW := Lib.hid hW; have Hg9 := Lib.hid hg9; have Hbm := Lib.hid (h89.blk Hb6'.out (fun h => h)); have Hbt := Lib.hid (h89.blk Hb7.out (fun h => h)); have Hbx := Lib.hid hbx; have Hbr := Lib.hid hbr
        clear x0 x1 x2 t0 t1 t2 t3 t4 t5 t6 t7 t8 t9 hM hS hm hmo hbx hbr hz hW hg9 h89 Hc5
        go_upto_region 10 with fail
        rw [← HW.out, ← Hg9.out]
        clear HW Hg9
        have x0 := Hbm.out.cell 0
        have x1 := Hbm.out.cell 1
        have x2 := Hbm.out.cell 2
        have q0 := Hbx.out.cell 0
        have q1 := Hbx.out.cell 1
        have q2 := Hbx.out.cell 2
        have v0 := Hbr.out.cell 0
        have v1 := Hbr.out.cell 1
        have v2 := Hbr.out.cell 2
        have t8 := Hbt.out.cell 8
        have t9 := Hbt.out.cell 9
        simp at x0 x1 x2 q0 q1 q2 v0 v1 v2 t8 t9
        by_cases hx0 : x = 0
        · subst hx0
          have Haw := Lib.hid (mawake_any W9)
          go_wp2_with fail
          refine Haw.out.mono ?_
          rintro e w12 ⟨rfl, hm⟩
          go_wp2_with fail
          go_ret
          exact ⟨rfl, Hm9.out.trans hm (fun _ _ h => h)⟩
        · have kx : ((x : Int) != 0) = true := by simp [hx0]
          have kx2 : ((x : Int) == 0) = false := by simp [hx0]
          have hme : mE = formsM := F4.out hx0
          have hNE1 : NE = 1 := by rw [← HNE.out, hme]; rfl
          subst hme
          subst hNE1
          have hln := HMn.out.rdm.lens
          have hr1 : r ≤ 1000 := by have h := hln.1; have : formsM.ser.length = 1 := rfl; omega
          have hr2 : r2 ≤ 1000 := by have h := hln.2; have : formsM.ite.length = 1 := rfl; omega
          have Hsm := Lib.hid (rsame_any formsM formsM P P2 E E2 r s r2 s2 k d k2 d2 _ _ W9 HMn.out.rdm HMm.out.rdm hr1 hr2 (HLE.out.more (by decide)))
          have Haw : Hid (∀ W, Calls Try.prog 10 #[] W fun e w' => e = .returned (.bool true) ∧ Mod (fun _ => False) W w') := Lib.hid mawake_any
          clear hln hr1 hr2 hx0
          go_wp2_with fail
          refine Hsm.out.mono ?_
          rintro e w10 ⟨b, rfl, hb, hm⟩
          have hbt : b = true := by simpa using hb
          subst hbt
          have Hm10 := Lib.hid (Hm9.out.trans hm (fun _ _ h => h))
          have v0 := (hm.blk Hbr.out (fun h => h)).cell 0
          have v1 := (hm.blk Hbr.out (fun h => h)).cell 1
          have v2 := (hm.blk Hbr.out (fun h => h)).cell 2
          have t8 := (hm.blk Hbt.out (fun h => h)).cell 8
          have t9 := (hm.blk Hbt.out (fun h => h)).cell 9
          simp at v0 v1 v2 t8 t9
          clear hb hm
          go_wp2_with fail
          refine (Haw.out w10).mono ?_
          rintro e w12 ⟨rfl, hm⟩
          go_wp2_with fail
          go_ret
          exact ⟨rfl, Hm10.out.trans hm (fun _ _ h => h)⟩
end Go.Proofs.Ytejnhdenehkpmaa

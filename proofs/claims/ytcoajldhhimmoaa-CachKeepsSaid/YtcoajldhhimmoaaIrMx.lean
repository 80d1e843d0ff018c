/- CachKeeps' walk. -/
import Derived.Test.YtcoajldhhimmoaaMx1
import Derived.Test.YtcoajldhhimmoaaIqMx
import Derived.Test.YtcoajldhhimmoaaMx6
namespace Go.Proofs.Ytcoajldhhimmoaa
open Go.RowKit Go.Maps

/-- What is there is what was put last. -/
def LastK (c : CacN) (f : KeyN → Option Int) : Prop := ∀ x s, c.sam x = some s → ∃ v, f x = some v ∧ s = rowL v
def setI (f : KeyN → Option Int) (x : KeyN) (v : Int) : KeyN → Option Int := fun y => if y = x then some v else f y
def MapI (w : World) (b n : Nat) (f : KeyN → Option Int) : Prop := ∃ s, MapK w b n (fun x => (f x).map (fun v => Value.int .i64 v)) s
theorem mapTyI : Try.prog.underlying 49 = some (.map 28 3) := Try.underlying49
theorem zero_int (w : World) : (zeroValue 3).run Try.prog w = .ok (.int .i64 0) w := by kernel_rfl
theorem MapI.mod {S : Nat → Prop} {w w' : World} {b n : Nat} {f : KeyN → Option Int} (h : MapI w b n f) (hm : Mod S w w') (hb : ¬ S b) : MapI w' b n f := by obtain ⟨s, h1⟩ := h; exact ⟨s, h1.mod hm hb⟩
theorem MapI.more {w : World} {b n n' : Nat} {f : KeyN → Option Int} (h : MapI w b n f) (hn : n ≤ n') : MapI w b n' f := by obtain ⟨s, h1⟩ := h; exact ⟨s, h1.more hn⟩
theorem MapI.not_cells {w : World} {b n : Nat} {f : KeyN → Option Int} (h : MapI w b n f) {t : TypeId} {cs : Array Value} : ¬ Blk w b t cs := by obtain ⟨s, h1⟩ := h; exact h1.not_cells
theorem MapI.look {w : World} {b n : Nat} {f : KeyN → Option Int} {k : KeyN} {v : Int} (h : MapI w b n f) (hk : KeyFit k) (hv : f k = some v) :
    (Instr.lookup 49 (.map (some b)) (.agg #[.int .i64 k.s, .int .i64 k.l, .int .i64 k.b]) false).run Try.prog w = .ok (.int .i64 v) w := by
  obtain ⟨s, h1⟩ := h
  have h2 := h1.look mapTyI (zero_int w) hk
  rw [hv] at h2
  exact h2
theorem MapI.store {w : World} {b n : Nat} {f : KeyN → Option Int} {k : KeyN} (h : MapI w b n f) (hn : n < maxLen) (hk : KeyFit k) (v : Int) :
    ∃ w', (Instr.mapUpdate 49 (.map (some b)) (.agg #[.int .i64 k.s, .int .i64 k.l, .int .i64 k.b]) (.int .i64 v)).run Try.prog w = .ok () w' ∧ MapI w' b (n + 1) (setI f k v) ∧ Mod (fun j => j = b) w w' := by
  obtain ⟨s, h1⟩ := h
  obtain ⟨w', hrun, h2, h3⟩ := h1.store mapTyI hn hk (.int .i64 v)
  have e : (fun x => ((setI f k v) x).map (fun v => Value.int .i64 v)) = setK (fun x => (f x).map (fun v => Value.int .i64 v)) k (some (.int .i64 v)) := by
    funext x
    unfold setI setK
    by_cases hx : x = k
    · rw [if_pos hx, if_pos hx]; rfl
    · rw [if_neg hx, if_neg hx]
  rw [← e] at h2
  exact ⟨w', hrun, ⟨_, h2⟩, h3⟩
theorem mapI_new (w : World) : MapI (w.alloc (.map #[] 0)) w.heap.size 0 (fun _ => none) := ⟨0, MapK.made w⟩
theorem keep_start (M : Int) (k : KeyN) (v : Int) : ∃ c1 c2, putC (newC M) k (rowL v) = (c1, true) ∧ pinC c1 k = (c2, true) ∧ KeepC c2 k (rowL v) ∧ c2.clk.most = (newC M).clk.most ∧ LastK c2 (setI (fun _ => none) k v) := by
  obtain ⟨h1, h2, h3⟩ := keep_new M k (rowL v)
  obtain ⟨⟨c1, o1⟩, e1⟩ : ∃ r, putC (newC M) k (rowL v) = r := ⟨_, rfl⟩
  have hm := (put_good (goodC_new M) k (rowL v)).2.1
  have hy := fun h => (put_yes (goodC_new M) (k := k) (l := rowL v) h).1
  have hg := (put_good (goodC_new M) k (rowL v)).1
  rw [e1] at h1 h2 h3 hm hy hg
  simp only at h1
  subst h1
  obtain ⟨⟨c2, o2⟩, e2⟩ : ∃ r, pinC c1 k = r := ⟨_, rfl⟩
  have hm2 := (pin_is hg.clk k 1).2.1
  have hsam : (pinC c1 k).1.sam = c1.sam := rfl
  have hmm : (pinC c1 k).1.clk.most = c1.clk.most := hm2
  rw [e2] at h2 h3 hsam hmm
  simp only at h2 h3 hsam hmm
  subst h2
  refine ⟨c1, c2, e1, e2, h3, hmm.trans hm, fun x s hx => ?_⟩
  have hy2 : c1 = _ := hy rfl
  rw [hsam, hy2] at hx
  simp only [setC] at hx
  unfold setI
  by_cases hxk : x = k
  · rw [if_pos hxk] at hx
    injection hx with hx
    exact ⟨v, by rw [if_pos hxk], hx.symm⟩
  · rw [if_neg hxk] at hx
    split at hx
    · cases hx
    · cases hx
theorem keep_no {c c' : CacN} {k x : KeyN} {s l : List (Int × Nat)} (h : KeepC c k s) (e : putC c x l = (c', false)) : c' = c ∧ c.clk.most = 1 := by
  have h2 := h.refused (x := x) (l := l) (by rw [e])
  have h3 := (put_good h.good x l).2.2 (by rw [e])
  rw [e] at h3
  exact ⟨h3, h2.1⟩
theorem keep_yes {c c' : CacN} {k x : KeyN} {v0 v : Int} {f : KeyN → Option Int} (h : KeepC c k (rowL v0)) (hf : f k = some v0) (hl : LastK c f) (e : putC c x (rowL v) = (c', true)) :
    ∃ v', KeepC c' k (rowL v') ∧ setI f x v k = some v' ∧ LastK c' (setI f x v) ∧ c'.clk.most = c.clk.most := by
  have h1 := h.put (x := x) (l := rowL v)
  have h2 := (put_good h.good x (rowL v)).2.1
  have h3 := (put_yes h.good (k := x) (l := rowL v) (by rw [e])).1
  rw [e] at h1 h2 h3
  simp only at h1 h2 h3
  refine ⟨if x = k then v else v0, ?_, ?_, fun y s hy => ?_, h2⟩
  · by_cases hx : x = k
    · rw [if_pos hx] at h1 ⊢; exact h1
    · rw [if_neg hx] at h1 ⊢; exact h1
  · unfold setI
    by_cases hx : x = k
    · rw [if_pos hx, if_pos hx.symm]
    · rw [if_neg hx, if_neg (fun e => hx e.symm)]; exact hf
  · rw [h3] at hy
    simp only [setC] at hy
    unfold setI
    by_cases hyx : y = x
    · rw [if_pos hyx] at hy
      injection hy with hy
      exact ⟨v, by rw [if_pos hyx], hy.symm⟩
    · rw [if_neg hyx] at hy
      rw [if_neg hyx]
      split at hy
      · cases hy
      · exact hl y s hy
theorem keep_get {c c' : CacN} {k x : KeyN} {s : List (Int × Nat)} {o : Option (List (Int × Nat))} {f : KeyN → Option Int} (h : KeepC c k s) (hl : LastK c f) (e : getC c x = (c', o)) :
    KeepC c' k s ∧ LastK c' f ∧ c'.clk.most = c.clk.most ∧ (o = none ∨ ∃ v, f x = some v ∧ o = some (rowL v)) := by
  have h1 := h.get (x := x)
  obtain ⟨_, h2, h3, _, h5⟩ := get_good h.good x
  rw [e] at h1 h2 h3 h5
  simp only at h1 h2 h3 h5
  refine ⟨h1, fun y t hy => hl y t (by rw [← h3]; exact hy), h2, ?_⟩
  cases ho : o with
  | none => exact .inl rfl
  | some t =>
    rw [ho] at h5
    obtain ⟨v, hv, rfl⟩ := hl x t h5.symm
    exact .inr ⟨v, hv, rfl⟩
set_option maxHeartbeats 40000000 in
set_option maxRecDepth 100000 in
theorem cckeeps_walk (a0 : Int) (A1 : Option Addr) (n1 cp1 : Nat) (zs : List Int) (p0 : Int) (w : World) (hs : SeesI .i64 w w.heap.size A1 n1 zs) (hz : ∀ x ∈ zs, FitI x) (hp0 : FitI p0) :
    Calls Try.prog 6 #[.int .i64 a0, .slice A1 n1 cp1, .int .i64 p0] w fun e w' => e = .returned (.bool true) ∧ Mod (fun _ => False) w w' := by
  obtain ⟨o0, ho0⟩ : ∃ x, a0 % 8 = x := ⟨_, rfl⟩
  have m0 : bits .and .i64 a0 7 = o0 := by rw [mask7, ho0]
  have b0 : 0 ≤ o0 := by omega
  have b7 : o0 ≤ 7 := by omega
  obtain ⟨M, hM⟩ : ∃ M : Nat, o0 + 1 = (M : Int) := ⟨(o0 + 1).toNat, by omega⟩
  have HMb : Hid (1 ≤ M ∧ M ≤ 8) := Lib.hid (by omega)
  have HeM : Hid ((newC (M : Int)).clk.most = (M : Int)) := Lib.hid (by show min (max (M : Int) 1) 1000 = (M : Int); omega)
  obtain ⟨N, hN⟩ : ∃ N, min n1 100 = N := ⟨_, rfl⟩
  obtain ⟨k, hk⟩ : ∃ k, keyN p0 = k := ⟨_, rfl⟩
  have Hfk : Hid (KeyFit k) := Lib.hid (by rw [← hk]; exact keyN_fit p0)
  have hkk := fun w' => ckKey_any p0 w' hp0
  rw [hk] at hkk
  obtain ⟨c1, c2, he1, he2, hkp, hmo, hls⟩ := keep_start (M : Int) k 7
  have Hs := Lib.hid hs; have Hz := Lib.hid hz; have HN := Lib.hid hN; have Hk0 := Lib.hid hkk
  have He1 := Lib.hid he1; have He2 := Lib.hid he2; have HKp := Lib.hid hkp; have Hmo0 := Lib.hid (hmo.trans HeM.out); have HLs := Lib.hid hls
  clear ho0 hs hz hN hk hkk hp0 he1 he2 hkp hmo hls
  go_enter Try.func6, Try.ntmps6
  go_wp2_with fail
  refine (ccNew_any (M : Int) w).mono ?_
  rintro e w0 ⟨g, b, rfl, hc0, hm0, hb0, hg0⟩
  have HC0 : Hid (CacV 0 g b 0 w0 (newC (M : Int))) := Lib.hid (hc0 _ (Mod.refl _ _) 0 (Nat.zero_le _))
  have HE : Hid (∀ W', Mod (fun j => j = g ∨ j = b) w0 W' → Mod (fun _ => False) w W') := Lib.hid (fun W' h => hm0.trans h (fun i hi h => by omega))
  have HM0 : Hid (Mod (fun j => j = g ∨ j = b) w0 w0) := Lib.hid (Mod.refl _ _)
  have HGB : Hid (w.heap.size ≤ g ∧ w.heap.size ≤ b) := Lib.hid ⟨by omega, by omega⟩
  clear hc0 hm0 hb0 hg0
  clear m0 b0 b7 hM
  go_wp2_with fail
  refine (Hk0.out w0).mono ?_
  rintro e w1 ⟨rfl, hm1⟩
  obtain ⟨W, hW, hmW, hkW, hzW⟩ := Blk.boxed w1 28 #[.int .i64 k.s, .int .i64 k.l, .int .i64 k.b]
  obtain ⟨gk8, hgk⟩ : ∃ x, x = w1.heap.size := ⟨_, rfl⟩
  rw [← hgk] at hkW
  have hm12 := hm1.trans hmW (fun _ _ h => h)
  have hne : gk8 ≠ g ∧ gk8 ≠ b := by have := (HC0.out.new hm1).lt; omega
  have Hkk : Hid (∀ W', Mod (fun j => j = g ∨ j = b) W W' → Blk W' gk8 28 #[.int .i64 k.s, .int .i64 k.l, .int .i64 k.b]) := Lib.hid (fun W' h => h.blk hkW (fun h => h.elim hne.1 hne.2))
  have HC1 : Hid (CacV 0 g b 0 W (newC (M : Int))) := Lib.hid (HC0.out.new hm12)
  have HM1 : Hid (Mod (fun j => j = g ∨ j = b) W W) := Lib.hid (Mod.refl _ _)
  have HE1 : Hid (∀ W', Mod (fun j => j = g ∨ j = b) W W' → Mod (fun _ => False) w W') := Lib.hid (fun W' h => HE.out W' ((hm12.mono (fun _ _ h => h.elim)).trans h (fun _ _ h => h)))
  have Hne0 := Lib.hid hne
  have HW := Lib.hid hW; have Hgk := Lib.hid hgk
  clear hm1 hW hmW hkW hzW hgk hm12 hne Hk0 HC0 HM0 HE
  go_upto_region 6 with fail
  rw [← HW.out, ← Hgk.out]
  clear HW Hgk
  go_cut [35] from 25 to 35 (fun s35 wx => s35 = .bool false ∧ CacV 0 g b 2 wx c2 ∧ Mod (fun j => j = g ∨ j = b) W wx)
  case first =>
    as_aux_lemma =>
      have hk := Hkk.out _ HM1.out
      have z0 := hk.cell 0
      have z1 := hk.cell 1
      have z2 := hk.cell 2
      simp at z0 z1 z2
      clear hk
      go_region_with (first
        | (go_at_call 14; (with_reducible refine (ccRow_any 7 W.drew).mono ?_); rintro e w5 ⟨v5, rfl, ho5, hm5⟩; obtain ⟨A5, n5, cp5, rfl, Hn5, q1, q2, q3⟩ := ho5.formN; have Hs5 : Hid (SliH 0 w5 (.slice A5 n5 cp5) (rowL 7)) := Lib.hid (SliH.of_own (ho5.mono (Nat.zero_le _))); have Hl5 : Hid (n5 ≤ 100000) := Lib.hid (by have h1 := rowL_len 7; have h2 := Hn5.out; omega); have HC5 : Hid (CacV 0 g b 0 w5 (newC (M : Int))) := Lib.hid (HC1.out.new (((Mod.refl _ _).drew).trans hm5 (fun _ _ h => h))); have HM5 : Hid (Mod (fun j => j = g ∨ j = b) W w5) := Lib.hid ((((Mod.refl (fun _ => False) W).drew).trans hm5 (fun _ _ h => h)).mono (fun _ _ h => h.elim)); have hk := Hkk.out _ HM5.out; have z0qHM5 := hk.cell 0; have z1qHM5 := hk.cell 1; have z2qHM5 := hk.cell 2; simp at z0qHM5 z1qHM5 z2qHM5; clear hk; clear ho5 hm5 q1 q2 q3)
        | (go_at_call 9; (with_reducible refine (call_put (k := k) He1.out HC5.out Hfk.out Hs5.out Hl5.out (by omega)).mono ?_); rintro e w6 ⟨rfl, hc6, hm6⟩; have HC6 := Lib.hid hc6; have HM6 : Hid (Mod (fun j => j = g ∨ j = b) W w6) := Lib.hid (HM5.out.trans hm6 (fun _ _ h => h)); have hk := Hkk.out _ HM6.out; have z0qHM6 := hk.cell 0; have z1qHM6 := hk.cell 1; have z2qHM6 := hk.cell 2; simp at z0qHM6 z1qHM6 z2qHM6; clear hk; clear hc6 hm6)
        | (go_at_call 15; (with_reducible refine (call_pin (k := k) He2.out HC6.out (by omega)).mono ?_); rintro e w7 ⟨rfl, hc7, hm7⟩; have HC7 := Lib.hid hc7; have HM7 : Hid (Mod (fun j => j = g ∨ j = b) W w7) := Lib.hid (HM6.out.trans hm7 (fun _ _ h => h)); clear hc7 hm7))
      all_goals (go_wp2_with fail; go_meet)
      all_goals exact ⟨rfl, HC7.out, HM7.out⟩
  case rest =>
    as_aux_lemma =>
      obtain ⟨rfl, hc, hm⟩ := hcut
      obtain ⟨w3, rfl⟩ : ∃ w0 : World, w0 = wc := ⟨_, rfl⟩
      clear HC1 HM1 He1 He2
      obtain ⟨bl, hbl⟩ : ∃ x, x = w3.heap.size := ⟨_, rfl⟩
      have hma := mapI_new w3
      rw [← hbl] at hma
      obtain ⟨w4, hins, hmi, hm4⟩ := hma.store (by unfold maxLen; omega) Hfk.out 7
      have hlt := hc.lt
      have hca : CacV 0 g b 2 (w3.alloc (.map #[] 0)) c2 := hc.new ((Mod.refl _ _).alloc _)
      have hnc := fun (t : TypeId) (cs : Array Value) => hma.not_cells (t := t) (cs := cs)
      have Hc4 : Hid (CacV 0 g b 2 w4 c2) := Lib.hid (hca.modS hm4 (by omega) (by omega) (fun j cs _ hj e => hnc _ cs (by rw [← e]; exact hj)) (fun j cs _ hj e => hnc _ cs (by rw [← e]; exact hj)))
      have hm34 : Mod (fun _ => False) w3 w4 := ((Mod.refl (fun _ => False) w3).alloc _).trans hm4 (fun i hi h => by omega)
      have hk4 := hm34.blk (Hkk.out w3 hm) (fun h => h)
      have hkl := (Hkk.out w3 hm).lt
      have Hne : Hid (bl ≠ g ∧ bl ≠ b) := Lib.hid (by omega)
      have Hk8 : Hid (∀ W', Mod (fun j => j = g ∨ j = b ∨ j = bl) w4 W' → Blk W' gk8 28 #[.int .i64 k.s, .int .i64 k.l, .int .i64 k.b]) := Lib.hid (fun W' h => h.blk hk4 (fun h => by have := Hne0.out; omega))
      have HE : Hid (∀ W', Mod (fun j => j = g ∨ j = b ∨ j = bl) w4 W' → Mod (fun _ => False) w W') := Lib.hid (fun W' h => (HE1.out w4 (hm.trans (hm34.mono (fun _ _ h => h.elim)) (fun _ _ h => h))).trans h (fun i hi h => by have := hm34.size; have := (HE1.out W (Mod.refl _ _)).size; have := (HE1.out w3 hm).size; have := HGB.out; omega))
      have HP4 : Hid (MapI w4 bl 1 (setI (fun _ => none) k 7)) := Lib.hid hmi
      have hkc := (Hkk.out w3 hm).alloc (.map #[] 0)
      have z0 := hkc.cell 0
      have z1 := hkc.cell 1
      have z2 := hkc.cell 2
      simp at z0 z1 z2
      have hmm := @run_makeMap Try.prog
      have Hbl := Lib.hid hbl
      have Hins := Lib.hid hins
      clear hc hm hma hmi hm4 hlt hca hnc hm34 hk4 hkl hkc hbl HE1 Hkk Hne0 hins
      have hins := Hins.out
      rw [Hbl.out] at hins
      go_wp2_with fail
      clear hins hmm z0 z1 z2
      rw [← Hbl.out]
      clear Hins Hbl
      go_loopg [10] N (fun kk s10 wr => ∃ (i : Nat) (c : CacN) (f : KeyN → Option Int) (v : Int), i + kk = N ∧ s10 = .int .i64 (i : Int) ∧ CacV 0 g b (2 + i) wr c ∧ KeepC c k (rowL v) ∧ f k = some v ∧ LastK c f ∧ c.clk.most = (M : Int) ∧ MapI wr bl (1 + i) f ∧ Mod (fun j => j = g ∨ j = b ∨ j = bl) w4 wr)
      case atStart => exact ⟨0, c2, setI (fun _ => none) k 7, 7, by omega, rfl, Hc4.out, HKp.out, by unfold setI; rw [if_pos rfl], HLs.out, Hmo0.out, HP4.out, Mod.refl _ _⟩
      case round =>
        obtain ⟨i, c, f, v, hik, rfl, hc, hkp, hf, hl, hmo, hp, hm⟩ := hrel
        clear Hc4 HKp HLs Hmo0 HP4
        have Hik := Lib.hid hik; have HC := Lib.hid hc; have HK := Lib.hid hkp; have Hf := Lib.hid hf; have HL := Lib.hid hl; have Hmo := Lib.hid hmo; have HP := Lib.hid hp; have HM := Lib.hid hm
        clear hik hc hkp hf hl hmo hp hm
        by_cases hin : i < N
        · have Hin := Lib.hid hin
          have b1 : (i : Int) < (n1 : Int) := by have := HN.out; omega
          have b2 : (i : Int) < 100 := by have := HN.out; omega
          have Hi9 : Hid ((i : Int) ≤ 100) := Lib.hid (by omega)
          obtain ⟨ad, u, rfl, hu, _⟩ := Hs.out.at_ (i := i) (by omega) (Nat.le_refl _) (Mod.refl (fun _ => False) w) (fun _ _ h => h)
          have Hu : Hid (∀ W', Mod (fun j => j = g ∨ j = b ∨ j = bl) w4 W' → W'.cell? (ad.add i) = some (.int .i64 u)) := Lib.hid (fun W' hW => by
            obtain ⟨ad', u', e, hu', hc⟩ := Hs.out.at_ (i := i) (by omega) (Nat.le_refl _) (HE.out W' hW) (fun _ _ h => h)
            injection e with e
            subst e
            rw [hu] at hu'
            injection hu' with hu'
            rw [hu']
            exact hc)
          have hfu := Hz.out u (List.mem_of_getElem? hu)
          have hfu8 : FitI (u / 8) := by have := hfu.out; constructor <;> omega
          obtain ⟨x, hx⟩ : ∃ x, keyN (u / 8) = x := ⟨_, rfl⟩
          have Hfx : Hid (KeyFit x) := Lib.hid (by rw [← hx]; exact keyN_fit _)
          have hkx := fun w' => ckKey_any (u / 8) w' hfu8
          rw [hx] at hkx
          have Hkx := Lib.hid hkx; have Hfu := Lib.hid hfu
          clear hin hu hfu hfu8 hx hkx
          have xc := Hu.out _ HM.out
          go_wp2_with fail
          clear xc b1 b2
          refine (Hkx.out wr).mono ?_
          rintro e w1 ⟨rfl, hm1⟩
          obtain ⟨W2, hW, hmW, hkW, hzW⟩ := Blk.boxed w1 28 #[.int .i64 x.s, .int .i64 x.l, .int .i64 x.b]
          obtain ⟨g11, hg11⟩ : ∃ z, z = w1.heap.size := ⟨_, rfl⟩
          rw [← hg11] at hkW
          have hm12 := hm1.trans hmW (fun _ _ h => h)
          have hne : g11 ≠ g ∧ g11 ≠ b := by have := (HC.out.new hm1).lt; omega
          have Hxk0 : Hid (Blk W2 g11 28 #[.int .i64 x.s, .int .i64 x.l, .int .i64 x.b]) := Lib.hid hkW
          have HC2 : Hid (CacV 0 g b (2 + i) W2 c) := Lib.hid (HC.out.new hm12)
          have HM2 : Hid (Mod (fun j => j = g ∨ j = b ∨ j = bl) w4 W2) := Lib.hid (HM.out.trans (hm12.mono (fun _ _ h => h.elim)) (fun _ _ h => h))
          have HP2 : Hid (MapI W2 bl (1 + i) f) := Lib.hid (HP.out.mod hm12 (fun h => h))
          have Hng := Lib.hid hne
          have HW := Lib.hid hW; have Hg11 := Lib.hid hg11
          clear hm1 hW hmW hkW hzW hg11 hm12 hne HC HM HP
          obtain ⟨r, hr⟩ : ∃ r, u % 2 = r := ⟨_, rfl⟩
          have mo : bits .and .i64 u 1 = r := by rw [mask1, hr]
          have hr2 : r = 0 ∨ r = 1 := by omega
          clear hr
          have xc := Hu.out _ HM2.out
          have b1 : (i : Int) < (n1 : Int) := by have := HN.out; have := Hin.out; omega
          have b9 : (0 : Int) ≤ (i : Int) := by omega
          go_upto_region 13 with fail
          rw [← HW.out, ← Hg11.out]
          clear HW Hg11
          rcases hr2 with rfl | rfl
          · as_aux_lemma =>
              obtain ⟨⟨c5, ok⟩, hep⟩ : ∃ z, putC c x (rowL u) = z := ⟨_, rfl⟩
              have Hep := Lib.hid hep
              clear hep
              go_upto_region 14 with fail
              clear mo
              have xca : ∀ W', Mod (fun _ => False) W2 W' → W'.cell? (ad.add i) = some (.int .i64 u) := fun W' h => Hu.out W' (HM2.out.trans (h.mono (fun _ _ h => h.elim)) (fun _ _ h => h))
              have Hxk : Hid (∀ W', Mod (fun _ => False) W2 W' → Blk W' g11 28 #[.int .i64 x.s, .int .i64 x.l, .int .i64 x.b]) := Lib.hid (fun W' h => h.blk Hxk0.out (fun h => h))
              have Hxca := Lib.hid xca
              clear xca
              go_cut [68] from 61 to 68 (fun s68 wx => s68 = .bool ok ∧ CacV 0 g b (2 + i + 1) wx c5 ∧ Mod (fun j => j = g ∨ j = b) W2 wx)
              case first =>
                as_aux_lemma =>
                  have hiN := Hin.out
                  have b1 : (i : Int) < (n1 : Int) := by have := HN.out; omega
                  have b9 : (0 : Int) ≤ (i : Int) := by omega
                  have hxk := Hxk0.out
                  have x0 := hxk.cell 0
                  have x1 := hxk.cell 1
                  have x2 := hxk.cell 2
                  simp at x0 x1 x2
                  clear hxk hiN
                  go_region_with (first
                    | (go_at_call 14; (with_reducible refine (ccRow_any u W2.drew).mono ?_); rintro e w5 ⟨v5, rfl, ho5, hm5⟩; obtain ⟨A5, n5, cp5, rfl, Hn5, q1, q2, q3⟩ := ho5.formN; have Hs5 : Hid (SliH 0 w5 (.slice A5 n5 cp5) (rowL u)) := Lib.hid (SliH.of_own (ho5.mono (Nat.zero_le _))); have Hl5 : Hid (n5 ≤ 100000) := Lib.hid (by have h1 := rowL_len u; have h2 := Hn5.out; omega); have HC5 : Hid (CacV 0 g b (2 + i) w5 c) := Lib.hid (HC2.out.new (((Mod.refl _ _).drew).trans hm5 (fun _ _ h => h))); have Hm5 : Hid (Mod (fun _ => False) W2 w5) := Lib.hid (((Mod.refl _ _).drew).trans hm5 (fun _ _ h => h)); have hk := Hxk.out _ Hm5.out; have x0qHm5 := hk.cell 0; have x1qHm5 := hk.cell 1; have x2qHm5 := hk.cell 2; simp at x0qHm5 x1qHm5 x2qHm5; clear hk; clear ho5 hm5 q1 q2 q3)
                    | (go_at_call 9; (with_reducible refine (call_put (k := x) Hep.out HC5.out Hfx.out Hs5.out Hl5.out (by have := Hi9.out; omega)).mono ?_); rintro e w6 ⟨rfl, hc6, hm6⟩; have HC6 : Hid (CacV 0 g b (2 + i + 1) w6 c5) := Lib.hid hc6; have Hm6 : Hid (Mod (fun j => j = g ∨ j = b) W2 w6) := Lib.hid ((Hm5.out.mono (fun _ _ h => h.elim)).trans hm6 (fun _ _ h => h)); clear hc6 hm6))
                  all_goals (go_wp2_with fail; go_meet)
                  all_goals exact ⟨rfl, HC6.out, Hm6.out⟩
              case rest =>
                as_aux_lemma =>
                  obtain ⟨rfl, hc, hm⟩ := hcut
                  obtain ⟨W3, rfl⟩ : ∃ w0 : World, w0 = wc := ⟨_, rfl⟩
                  have HC3 := Lib.hid hc; have Hm3 := Lib.hid hm
                  have HM3 : Hid (Mod (fun j => j = g ∨ j = b ∨ j = bl) w4 W3) := Lib.hid (HM2.out.trans (hm.mono (fun _ _ h => by rcases h with h | h; exact .inl h; exact .inr (.inl h))) (fun _ _ h => h))
                  have HP3 : Hid (MapI W3 bl (1 + i) f) := Lib.hid (HP2.out.mod hm (fun h => by have := Hne.out; omega))
                  have Hxk3 : Hid (Blk W3 g11 28 #[.int .i64 x.s, .int .i64 x.l, .int .i64 x.b]) := Lib.hid (hm.blk Hxk0.out (fun h => by have := Hng.out; omega))
                  clear hc hm HC2 HM2 HP2 xc Hxca Hxk
                  cases ok with
                  | true =>
                    as_aux_lemma =>
                      obtain ⟨v2, hk2, hf2, hl2, hmo2⟩ := keep_yes HK.out Hf.out HL.out Hep.out
                      have HKt := Lib.hid hk2; have Hft := Lib.hid hf2; have HLt := Lib.hid hl2; have Hmot := Lib.hid (hmo2.trans Hmo.out)
                      clear hk2 hf2 hl2 hmo2
                      have hpd := HP3.out.mod ((Mod.refl (fun _ => False) W3).drew) (fun h => h)
                      obtain ⟨W4, hup, hp4, hm4⟩ := hpd.store (by have := Hi9.out; unfold maxLen; omega) Hfx.out u
                      have hm34 : Mod (fun j => j = bl) W3 W4 := ((Mod.refl _ _).drew).trans hm4 (fun _ _ h => h)
                      have HCt : Hid (CacV 0 g b (2 + i + 1) W4 c5) := Lib.hid (HC3.out.modS hm34 (fun e => Hne.out.1 e.symm) (fun e => Hne.out.2 e.symm) (fun j cs _ hj e => HP3.out.not_cells (by rw [← e]; exact hj)) (fun j cs _ hj e => HP3.out.not_cells (by rw [← e]; exact hj)))
                      have HMt : Hid (Mod (fun j => j = g ∨ j = b ∨ j = bl) w4 W4) := Lib.hid (HM3.out.trans (hm34.mono (fun _ _ h => .inr (.inr h))) (fun _ _ h => h))
                      have HPt : Hid (MapI W4 bl (1 + i + 1) (setI f x u)) := Lib.hid hp4
                      clear hpd hp4 hm4 hm34 HC3
                      have hxk := Hxk3.out
                      have x0 := hxk.cell 0
                      have x1 := hxk.cell 1
                      have x2 := hxk.cell 2
                      simp at x0 x1 x2
                      have xc := Hu.out _ HM3.out
                      clear hxk
                      have hiN := Hin.out
                      have b1 : (i : Int) < (n1 : Int) := by have := HN.out; omega
                      have b9 : (0 : Int) ≤ (i : Int) := by omega
                      clear hiN
                      go_upto_region 15 with fail
                      go_region
                      all_goals (
                        clear x0 x1 x2 xc b1 b9
                        obtain ⟨c9, he9⟩ : ∃ c9, getC c5 k = (c9, some (rowL v2)) := ⟨(getC c5 k).1, Prod.ext rfl HKt.out.got⟩
                        obtain ⟨hk9, hl9, hm9o, _⟩ := keep_get HKt.out HLt.out he9
                        have He9 := Lib.hid he9; have HK9 := Lib.hid hk9; have HL9 := Lib.hid hl9; have Hmo9 : Hid (c9.clk.most = (M : Int)) := Lib.hid (hm9o.trans Hmot.out)
                        clear he9 hk9 hl9 hm9o
                        have hk := Hk8.out _ HMt.out
                        have z0 := hk.cell 0
                        have z1 := hk.cell 1
                        have z2 := hk.cell 2
                        simp at z0 z1 z2
                        clear hk
                        go_wp2_with fail
                        clear z0 z1 z2
                        refine (call_get (k := k) He9.out HCt.out Hfk.out).mono ?_
                        rintro e t1 ⟨Aq, nq, cq, rfl, Hnq, hncq, hcmq, hoq, hcq, hmq⟩
                        have hoq : OwnS W4.heap.size t1 (.slice Aq nq cq) (rowL v2) := hoq
                        have Hrq := Lib.hid (hoq.rds (l := rowL v2) Hnq.out)
                        have hnq3 : nq ≤ 3 := by have h1 := Hnq.out; have h2 := rowL_len v2; have h3 : ((some (rowL v2)).getD []).length = (rowL v2).length := rfl; omega
                        have Hnq3 := Lib.hid hnq3
                        have HC9 : Hid (CacV 0 g b (2 + i + 1) t1 c9) := Lib.hid (hcq.out _ (Mod.refl _ _))
                        have HM9 : Hid (Mod (fun j => j = g ∨ j = b ∨ j = bl) w4 t1) := Lib.hid (HMt.out.trans (hmq.mono (fun _ _ h => .inl h)) (fun _ _ h => h))
                        have HP9 : Hid (MapI t1 bl (1 + i + 1) (setI f x u)) := Lib.hid (HPt.out.mod hmq Hne.out.1)
                        clear hncq hcmq hoq hcq hmq hnq3 Hnq
                        have hlk := HP9.out.look Hfk.out Hft.out
                        have hk := Hk8.out _ HM9.out
                        have z0 := hk.cell 0
                        have z1 := hk.cell 1
                        have z2 := hk.cell 2
                        simp at z0 z1 z2
                        clear hk
                        go_wp2_with fail
                        clear hlk
                        clear z0 z1 z2
                        refine (ccRow_any v2 t1).mono ?_
                        rintro e t2 ⟨vq, rfl, hor, hmr⟩
                        obtain ⟨Ar, nr, cr, rfl, Hnr, q1, q2, hrr⟩ := hor.formN
                        have HC10 : Hid (CacV 0 g b (2 + i + 1) t2 c9) := Lib.hid (HC9.out.new hmr)
                        have HM10 : Hid (Mod (fun j => j = g ∨ j = b ∨ j = bl) w4 t2) := Lib.hid (HM9.out.trans (hmr.mono (fun _ _ h => h.elim)) (fun _ _ h => h))
                        have HP10 : Hid (MapI t2 bl (1 + i + 1) (setI f x u)) := Lib.hid (HP9.out.mod hmr (fun h => h))
                        have Hrq2 := Lib.hid (Hrq.out.new hmr).fit; have Hrr := Lib.hid hrr
                        clear hor hmr hrr q1 q2 Hnr
                        go_wp2_with fail
                        refine (sameS_any Aq Ar nq nr cq cr t2.heap.size t2.heap.size (rowL v2) (rowL v2) true t2 Hrq2.out Hrr.out (by have := Hnq3.out; omega) (decide_eq_true rfl)).mono ?_
                        rintro e t3 ⟨rfl, hms⟩
                        have HC11 : Hid (CacV 0 g b (2 + i + 1) t3 c9) := Lib.hid (HC10.out.new hms)
                        have HM11 : Hid (Mod (fun j => j = g ∨ j = b ∨ j = bl) w4 t3) := Lib.hid (HM10.out.trans (hms.mono (fun _ _ h => h.elim)) (fun _ _ h => h))
                        have HP11 : Hid (MapI t3 bl (1 + i + 1) (setI f x u)) := Lib.hid (HP10.out.mod hms (fun h => h))
                        clear hms
                        obtain ⟨fr, hfr⟩ : ∃ fr, framesC c9 = fr := ⟨_, rfl⟩
                        have hfr2 := HK9.out.frames
                        rw [hfr, Hmo9.out] at hfr2
                        obtain ⟨hfr3, hfr4⟩ := hfr2
                        have Hfr := Lib.hid hfr; have Hfr3 : Hid (1 ≤ (fr : Int)) := Lib.hid (by omega); have Hfr4 := Lib.hid hfr4
                        clear hfr hfr3 hfr4
                        go_wp2_with fail
                        refine (ccFrames_any t3 HC11.out).mono ?_
                        rintro e t4 ⟨rfl, hm4⟩
                        rw [Hfr.out]
                        have HC12 : Hid (CacV 0 g b (2 + i + 1) t4 c9) := Lib.hid (HC11.out.new hm4)
                        have HM12 : Hid (Mod (fun j => j = g ∨ j = b ∨ j = bl) w4 t4) := Lib.hid (HM11.out.trans (hm4.mono (fun _ _ h => h.elim)) (fun _ _ h => h))
                        have HP12 : Hid (MapI t4 bl (1 + i + 1) (setI f x u)) := Lib.hid (HP11.out.mod hm4 (fun h => h))
                        clear hm4
                        have hd1 := Hfr4.out
                        go_wp2_with fail
                        clear hd1
                        refine (ccFrames_any t4 HC12.out).mono ?_
                        rintro e t5 ⟨rfl, hm5⟩
                        rw [Hfr.out]
                        have HC13 : Hid (CacV 0 g b (2 + i + 1) t5 c9) := Lib.hid (HC12.out.new hm5)
                        have HM13 : Hid (Mod (fun j => j = g ∨ j = b ∨ j = bl) w4 t5) := Lib.hid (HM12.out.trans (hm5.mono (fun _ _ h => h.elim)) (fun _ _ h => h))
                        have HP13 : Hid (MapI t5 bl (1 + i + 1) (setI f x u)) := Lib.hid (HP12.out.mod hm5 (fun h => h))
                        clear hm5
                        have hd2 := Hfr3.out
                        have hi9 := Hi9.out
                        go_wp2_with fail
                        go_roundg (gk - 1)
                        case measure => have := Hik.out; have := Hin.out; omega
                        case rel => exact ⟨i + 1, c9, (setI f x u), v2, by have := Hik.out; have := Hin.out; omega, by go_num, HC13.out.more (by omega), HK9.out, Hft.out, HL9.out, Hmo9.out, HP13.out.more (by omega), HM13.out⟩
                      )
                  | false =>
                    as_aux_lemma =>
                      obtain ⟨hcc, hm1⟩ := keep_no HK.out Hep.out
                      subst hcc
                      have hM1 : (M : Int) = 1 := by rw [← Hmo.out]; exact hm1
                      have hMn : M = 1 := by omega
                      have HKt := HK; have Hft := Hf; have HLt := HL; have Hmot := Hmo
                      have HCt := HC3; have HMt := HM3; have HPt := HP3
                      clear HK Hf HL Hmo HC3 HP3 hm1 hM1 Hep
                      subst hMn
                      go_upto_region 21 with fail
                      obtain ⟨c9, he9⟩ : ∃ c9, getC c5 k = (c9, some (rowL v)) := ⟨(getC c5 k).1, Prod.ext rfl HKt.out.got⟩
                      obtain ⟨hk9, hl9, hm9o, _⟩ := keep_get HKt.out HLt.out he9
                      have He9 := Lib.hid he9; have HK9 := Lib.hid hk9; have HL9 := Lib.hid hl9; have Hmo9 : Hid (c9.clk.most = ((1 : Nat) : Int)) := Lib.hid (hm9o.trans Hmot.out)
                      clear he9 hk9 hl9 hm9o
                      have hk := Hk8.out _ HMt.out
                      have z0 := hk.cell 0
                      have z1 := hk.cell 1
                      have z2 := hk.cell 2
                      simp at z0 z1 z2
                      clear hk
                      go_wp2_with fail
                      clear z0 z1 z2
                      refine (call_get (k := k) He9.out HCt.out Hfk.out).mono ?_
                      rintro e t1 ⟨Aq, nq, cq, rfl, Hnq, hncq, hcmq, hoq, hcq, hmq⟩
                      have hoq : OwnS W3.heap.size t1 (.slice Aq nq cq) (rowL v) := hoq
                      have Hrq := Lib.hid (hoq.rds (l := rowL v) Hnq.out)
                      have hnq3 : nq ≤ 3 := by have h1 := Hnq.out; have h2 := rowL_len v; have h3 : ((some (rowL v)).getD []).length = (rowL v).length := rfl; omega
                      have Hnq3 := Lib.hid hnq3
                      have HC9 : Hid (CacV 0 g b (2 + i + 1) t1 c9) := Lib.hid (hcq.out _ (Mod.refl _ _))
                      have HM9 : Hid (Mod (fun j => j = g ∨ j = b ∨ j = bl) w4 t1) := Lib.hid (HMt.out.trans (hmq.mono (fun _ _ h => .inl h)) (fun _ _ h => h))
                      have HP9 : Hid (MapI t1 bl (1 + i) f) := Lib.hid (HPt.out.mod hmq Hne.out.1)
                      clear hncq hcmq hoq hcq hmq hnq3 Hnq
                      have hlk := HP9.out.look Hfk.out Hft.out
                      have hk := Hk8.out _ HM9.out
                      have z0 := hk.cell 0
                      have z1 := hk.cell 1
                      have z2 := hk.cell 2
                      simp at z0 z1 z2
                      clear hk
                      go_wp2_with fail
                      clear hlk
                      clear z0 z1 z2
                      refine (ccRow_any v t1).mono ?_
                      rintro e t2 ⟨vq, rfl, hor, hmr⟩
                      obtain ⟨Ar, nr, cr, rfl, Hnr, q1, q2, hrr⟩ := hor.formN
                      have HC10 : Hid (CacV 0 g b (2 + i + 1) t2 c9) := Lib.hid (HC9.out.new hmr)
                      have HM10 : Hid (Mod (fun j => j = g ∨ j = b ∨ j = bl) w4 t2) := Lib.hid (HM9.out.trans (hmr.mono (fun _ _ h => h.elim)) (fun _ _ h => h))
                      have HP10 : Hid (MapI t2 bl (1 + i) f) := Lib.hid (HP9.out.mod hmr (fun h => h))
                      have Hrq2 := Lib.hid (Hrq.out.new hmr).fit; have Hrr := Lib.hid hrr
                      clear hor hmr hrr q1 q2 Hnr
                      go_wp2_with fail
                      refine (sameS_any Aq Ar nq nr cq cr t2.heap.size t2.heap.size (rowL v) (rowL v) true t2 Hrq2.out Hrr.out (by have := Hnq3.out; omega) (decide_eq_true rfl)).mono ?_
                      rintro e t3 ⟨rfl, hms⟩
                      have HC11 : Hid (CacV 0 g b (2 + i + 1) t3 c9) := Lib.hid (HC10.out.new hms)
                      have HM11 : Hid (Mod (fun j => j = g ∨ j = b ∨ j = bl) w4 t3) := Lib.hid (HM10.out.trans (hms.mono (fun _ _ h => h.elim)) (fun _ _ h => h))
                      have HP11 : Hid (MapI t3 bl (1 + i) f) := Lib.hid (HP10.out.mod hms (fun h => h))
                      clear hms
                      obtain ⟨fr, hfr⟩ : ∃ fr, framesC c9 = fr := ⟨_, rfl⟩
                      have hfr2 := HK9.out.frames
                      rw [hfr, Hmo9.out] at hfr2
                      obtain ⟨hfr3, hfr4⟩ := hfr2
                      have Hfr := Lib.hid hfr; have Hfr3 : Hid (1 ≤ (fr : Int)) := Lib.hid (by omega); have Hfr4 := Lib.hid hfr4
                      clear hfr hfr3 hfr4
                      go_wp2_with fail
                      refine (ccFrames_any t3 HC11.out).mono ?_
                      rintro e t4 ⟨rfl, hm4⟩
                      rw [Hfr.out]
                      have HC12 : Hid (CacV 0 g b (2 + i + 1) t4 c9) := Lib.hid (HC11.out.new hm4)
                      have HM12 : Hid (Mod (fun j => j = g ∨ j = b ∨ j = bl) w4 t4) := Lib.hid (HM11.out.trans (hm4.mono (fun _ _ h => h.elim)) (fun _ _ h => h))
                      have HP12 : Hid (MapI t4 bl (1 + i) f) := Lib.hid (HP11.out.mod hm4 (fun h => h))
                      clear hm4
                      have hd1 := Hfr4.out
                      go_wp2_with fail
                      clear hd1
                      refine (ccFrames_any t4 HC12.out).mono ?_
                      rintro e t5 ⟨rfl, hm5⟩
                      rw [Hfr.out]
                      have HC13 : Hid (CacV 0 g b (2 + i + 1) t5 c9) := Lib.hid (HC12.out.new hm5)
                      have HM13 : Hid (Mod (fun j => j = g ∨ j = b ∨ j = bl) w4 t5) := Lib.hid (HM12.out.trans (hm5.mono (fun _ _ h => h.elim)) (fun _ _ h => h))
                      have HP13 : Hid (MapI t5 bl (1 + i) f) := Lib.hid (HP12.out.mod hm5 (fun h => h))
                      clear hm5
                      have hd2 := Hfr3.out
                      have hi9 := Hi9.out
                      go_wp2_with fail
                      go_roundg (gk - 1)
                      case measure => have := Hik.out; have := Hin.out; omega
                      case rel => exact ⟨i + 1, c9, f, v, by have := Hik.out; have := Hin.out; omega, by go_num, HC13.out.more (by omega), HK9.out, Hft.out, HL9.out, Hmo9.out, HP13.out.more (by omega), HM13.out⟩
          · as_aux_lemma =>
              have hxk := Hxk0.out
              have x0 := hxk.cell 0
              have x1 := hxk.cell 1
              have x2 := hxk.cell 2
              simp at x0 x1 x2
              clear hxk
              obtain ⟨⟨c5, o⟩, heg⟩ : ∃ z, getC c x = z := ⟨_, rfl⟩
              have Heg := Lib.hid heg
              obtain ⟨hk2, hl2, hmo2, ho⟩ := keep_get HK.out HL.out heg
              have HKt := Lib.hid hk2; have HLt := Lib.hid hl2; have Hmot := Lib.hid (hmo2.trans Hmo.out); have Ho := Lib.hid ho
              have Hft := Hf
              clear heg hk2 hl2 hmo2 ho
              go_upto_region 18 with fail
              clear mo
              go_wp2_with fail
              clear x0 x1 x2 xc
              refine (call_get (k := x) Heg.out HC2.out Hfx.out).mono ?_
              rintro e W3 ⟨A3, n3, cp3, rfl, Hn3, hnc3, hcm3, ho3, hc3, hm3⟩
              have HC3 : Hid (CacV 0 g b (2 + i) W3 c5) := Lib.hid (hc3.out _ (Mod.refl _ _))
              have HM3 : Hid (Mod (fun j => j = g ∨ j = b ∨ j = bl) w4 W3) := Lib.hid (HM2.out.trans (hm3.mono (fun _ _ h => .inl h)) (fun _ _ h => h))
              have HP3 : Hid (MapI W3 bl (1 + i) f) := Lib.hid (HP2.out.mod hm3 (fun h => by have := Hne.out; omega))
              have Hxk3 : Hid (Blk W3 g11 28 #[.int .i64 x.s, .int .i64 x.l, .int .i64 x.b]) := Lib.hid (hm3.blk Hxk0.out (fun h => by have := Hng.out; omega))
              have Ho3 := Lib.hid ho3
              clear hnc3 hcm3 ho3 hc3 hm3 HC2 HM2 HP2 Hxk0
              rcases Ho.out with rfl | ⟨v2, hv2, rfl⟩
              · as_aux_lemma =>
                  have HCt := HC3; have HMt := HM3; have HPt := HP3
                  go_upto_region 21 with fail
                  obtain ⟨c9, he9⟩ : ∃ c9, getC c5 k = (c9, some (rowL v)) := ⟨(getC c5 k).1, Prod.ext rfl HKt.out.got⟩
                  obtain ⟨hk9, hl9, hm9o, _⟩ := keep_get HKt.out HLt.out he9
                  have He9 := Lib.hid he9; have HK9 := Lib.hid hk9; have HL9 := Lib.hid hl9; have Hmo9 : Hid (c9.clk.most = (M : Int)) := Lib.hid (hm9o.trans Hmot.out)
                  clear he9 hk9 hl9 hm9o
                  have hk := Hk8.out _ HMt.out
                  have z0 := hk.cell 0
                  have z1 := hk.cell 1
                  have z2 := hk.cell 2
                  simp at z0 z1 z2
                  clear hk
                  go_wp2_with fail
                  clear z0 z1 z2
                  refine (call_get (k := k) He9.out HCt.out Hfk.out).mono ?_
                  rintro e t1 ⟨Aq, nq, cq, rfl, Hnq, hncq, hcmq, hoq, hcq, hmq⟩
                  have hoq : OwnS W3.heap.size t1 (.slice Aq nq cq) (rowL v) := hoq
                  have Hrq := Lib.hid (hoq.rds (l := rowL v) Hnq.out)
                  have hnq3 : nq ≤ 3 := by have h1 := Hnq.out; have h2 := rowL_len v; have h3 : ((some (rowL v)).getD []).length = (rowL v).length := rfl; omega
                  have Hnq3 := Lib.hid hnq3
                  have HC9 : Hid (CacV 0 g b (2 + i) t1 c9) := Lib.hid (hcq.out _ (Mod.refl _ _))
                  have HM9 : Hid (Mod (fun j => j = g ∨ j = b ∨ j = bl) w4 t1) := Lib.hid (HMt.out.trans (hmq.mono (fun _ _ h => .inl h)) (fun _ _ h => h))
                  have HP9 : Hid (MapI t1 bl (1 + i) f) := Lib.hid (HPt.out.mod hmq Hne.out.1)
                  clear hncq hcmq hoq hcq hmq hnq3 Hnq
                  have hlk := HP9.out.look Hfk.out Hft.out
                  have hk := Hk8.out _ HM9.out
                  have z0 := hk.cell 0
                  have z1 := hk.cell 1
                  have z2 := hk.cell 2
                  simp at z0 z1 z2
                  clear hk
                  go_wp2_with fail
                  clear hlk
                  clear z0 z1 z2
                  refine (ccRow_any v t1).mono ?_
                  rintro e t2 ⟨vq, rfl, hor, hmr⟩
                  obtain ⟨Ar, nr, cr, rfl, Hnr, q1, q2, hrr⟩ := hor.formN
                  have HC10 : Hid (CacV 0 g b (2 + i) t2 c9) := Lib.hid (HC9.out.new hmr)
                  have HM10 : Hid (Mod (fun j => j = g ∨ j = b ∨ j = bl) w4 t2) := Lib.hid (HM9.out.trans (hmr.mono (fun _ _ h => h.elim)) (fun _ _ h => h))
                  have HP10 : Hid (MapI t2 bl (1 + i) f) := Lib.hid (HP9.out.mod hmr (fun h => h))
                  have Hrq2 := Lib.hid (Hrq.out.new hmr).fit; have Hrr := Lib.hid hrr
                  clear hor hmr hrr q1 q2 Hnr
                  go_wp2_with fail
                  refine (sameS_any Aq Ar nq nr cq cr t2.heap.size t2.heap.size (rowL v) (rowL v) true t2 Hrq2.out Hrr.out (by have := Hnq3.out; omega) (decide_eq_true rfl)).mono ?_
                  rintro e t3 ⟨rfl, hms⟩
                  have HC11 : Hid (CacV 0 g b (2 + i) t3 c9) := Lib.hid (HC10.out.new hms)
                  have HM11 : Hid (Mod (fun j => j = g ∨ j = b ∨ j = bl) w4 t3) := Lib.hid (HM10.out.trans (hms.mono (fun _ _ h => h.elim)) (fun _ _ h => h))
                  have HP11 : Hid (MapI t3 bl (1 + i) f) := Lib.hid (HP10.out.mod hms (fun h => h))
                  clear hms
                  obtain ⟨fr, hfr⟩ : ∃ fr, framesC c9 = fr := ⟨_, rfl⟩
                  have hfr2 := HK9.out.frames
                  rw [hfr, Hmo9.out] at hfr2
                  obtain ⟨hfr3, hfr4⟩ := hfr2
                  have Hfr := Lib.hid hfr; have Hfr3 : Hid (1 ≤ (fr : Int)) := Lib.hid (by omega); have Hfr4 := Lib.hid hfr4
                  clear hfr hfr3 hfr4
                  go_wp2_with fail
                  refine (ccFrames_any t3 HC11.out).mono ?_
                  rintro e t4 ⟨rfl, hm4⟩
                  rw [Hfr.out]
                  have HC12 : Hid (CacV 0 g b (2 + i) t4 c9) := Lib.hid (HC11.out.new hm4)
                  have HM12 : Hid (Mod (fun j => j = g ∨ j = b ∨ j = bl) w4 t4) := Lib.hid (HM11.out.trans (hm4.mono (fun _ _ h => h.elim)) (fun _ _ h => h))
                  have HP12 : Hid (MapI t4 bl (1 + i) f) := Lib.hid (HP11.out.mod hm4 (fun h => h))
                  clear hm4
                  have hd1 := Hfr4.out
                  go_wp2_with fail
                  clear hd1
                  refine (ccFrames_any t4 HC12.out).mono ?_
                  rintro e t5 ⟨rfl, hm5⟩
                  rw [Hfr.out]
                  have HC13 : Hid (CacV 0 g b (2 + i) t5 c9) := Lib.hid (HC12.out.new hm5)
                  have HM13 : Hid (Mod (fun j => j = g ∨ j = b ∨ j = bl) w4 t5) := Lib.hid (HM12.out.trans (hm5.mono (fun _ _ h => h.elim)) (fun _ _ h => h))
                  have HP13 : Hid (MapI t5 bl (1 + i) f) := Lib.hid (HP12.out.mod hm5 (fun h => h))
                  clear hm5
                  have hd2 := Hfr3.out
                  have hi9 := Hi9.out
                  go_wp2_with fail
                  go_roundg (gk - 1)
                  case measure => have := Hik.out; have := Hin.out; omega
                  case rel => exact ⟨i + 1, c9, f, v, by have := Hik.out; have := Hin.out; omega, by go_num, HC13.out.more (by omega), HK9.out, Hft.out, HL9.out, Hmo9.out, HP13.out.more (by omega), HM13.out⟩
              · as_aux_lemma =>
                  have Hv2 := Lib.hid hv2
                  have ho3 : OwnS W2.heap.size W3 (.slice A3 n3 cp3) (rowL v2) := Ho3.out
                  have Hr3 := Lib.hid (ho3.rds (l := rowL v2) Hn3.out)
                  have Hn33 : Hid (n3 ≤ 3) := Lib.hid (by have h1 := Hn3.out; have h2 := rowL_len v2; have h3 : ((some (rowL v2)).getD []).length = (rowL v2).length := rfl; omega)
                  clear hv2 ho3 Ho3 Hn3 Ho
                  have hlk := HP3.out.look Hfx.out Hv2.out
                  have hxk := Hxk3.out
                  have x0 := hxk.cell 0
                  have x1 := hxk.cell 1
                  have x2 := hxk.cell 2
                  simp at x0 x1 x2
                  clear hxk
                  go_upto_region 19 with fail
                  go_wp2_with fail
                  clear hlk x0 x1 x2
                  refine (ccRow_any v2 W3).mono ?_
                  rintro e W4 ⟨v4, rfl, ho4, hm4⟩
                  obtain ⟨A4, n4, cp4, rfl, Hn4, q1, q2, hr4⟩ := ho4.formN
                  have HC4 : Hid (CacV 0 g b (2 + i) W4 c5) := Lib.hid (HC3.out.new hm4)
                  have HM4 : Hid (Mod (fun j => j = g ∨ j = b ∨ j = bl) w4 W4) := Lib.hid (HM3.out.trans (hm4.mono (fun _ _ h => h.elim)) (fun _ _ h => h))
                  have HP4 : Hid (MapI W4 bl (1 + i) f) := Lib.hid (HP3.out.mod hm4 (fun h => h))
                  have Hr32 := Lib.hid (Hr3.out.new hm4).fit; have Hr4 := Lib.hid hr4
                  clear ho4 hm4 hr4 q1 q2 Hn4 HC3 HM3 HP3
                  go_wp2_with fail
                  refine (sameS_any A3 A4 n3 n4 cp3 cp4 W4.heap.size W4.heap.size (rowL v2) (rowL v2) true W4 Hr32.out Hr4.out (by have := Hn33.out; omega) (decide_eq_true rfl)).mono ?_
                  rintro e W5 ⟨rfl, hm5⟩
                  have HCt : Hid (CacV 0 g b (2 + i) W5 c5) := Lib.hid (HC4.out.new hm5)
                  have HMt : Hid (Mod (fun j => j = g ∨ j = b ∨ j = bl) w4 W5) := Lib.hid (HM4.out.trans (hm5.mono (fun _ _ h => h.elim)) (fun _ _ h => h))
                  have HPt : Hid (MapI W5 bl (1 + i) f) := Lib.hid (HP4.out.mod hm5 (fun h => h))
                  clear hm5 HC4 HM4 HP4 Hr32 Hr4 Hr3
                  go_upto_region 21 with fail
                  obtain ⟨c9, he9⟩ : ∃ c9, getC c5 k = (c9, some (rowL v)) := ⟨(getC c5 k).1, Prod.ext rfl HKt.out.got⟩
                  obtain ⟨hk9, hl9, hm9o, _⟩ := keep_get HKt.out HLt.out he9
                  have He9 := Lib.hid he9; have HK9 := Lib.hid hk9; have HL9 := Lib.hid hl9; have Hmo9 : Hid (c9.clk.most = (M : Int)) := Lib.hid (hm9o.trans Hmot.out)
                  clear he9 hk9 hl9 hm9o
                  have hk := Hk8.out _ HMt.out
                  have z0 := hk.cell 0
                  have z1 := hk.cell 1
                  have z2 := hk.cell 2
                  simp at z0 z1 z2
                  clear hk
                  go_wp2_with fail
                  clear z0 z1 z2
                  refine (call_get (k := k) He9.out HCt.out Hfk.out).mono ?_
                  rintro e t1 ⟨Aq, nq, cq, rfl, Hnq, hncq, hcmq, hoq, hcq, hmq⟩
                  have hoq : OwnS W5.heap.size t1 (.slice Aq nq cq) (rowL v) := hoq
                  have Hrq := Lib.hid (hoq.rds (l := rowL v) Hnq.out)
                  have hnq3 : nq ≤ 3 := by have h1 := Hnq.out; have h2 := rowL_len v; have h3 : ((some (rowL v)).getD []).length = (rowL v).length := rfl; omega
                  have Hnq3 := Lib.hid hnq3
                  have HC9 : Hid (CacV 0 g b (2 + i) t1 c9) := Lib.hid (hcq.out _ (Mod.refl _ _))
                  have HM9 : Hid (Mod (fun j => j = g ∨ j = b ∨ j = bl) w4 t1) := Lib.hid (HMt.out.trans (hmq.mono (fun _ _ h => .inl h)) (fun _ _ h => h))
                  have HP9 : Hid (MapI t1 bl (1 + i) f) := Lib.hid (HPt.out.mod hmq Hne.out.1)
                  clear hncq hcmq hoq hcq hmq hnq3 Hnq
                  have hlk := HP9.out.look Hfk.out Hft.out
                  have hk := Hk8.out _ HM9.out
                  have z0 := hk.cell 0
                  have z1 := hk.cell 1
                  have z2 := hk.cell 2
                  simp at z0 z1 z2
                  clear hk
                  go_wp2_with fail
                  clear hlk
                  clear z0 z1 z2
                  refine (ccRow_any v t1).mono ?_
                  rintro e t2 ⟨vq, rfl, hor, hmr⟩
                  obtain ⟨Ar, nr, cr, rfl, Hnr, q1, q2, hrr⟩ := hor.formN
                  have HC10 : Hid (CacV 0 g b (2 + i) t2 c9) := Lib.hid (HC9.out.new hmr)
                  have HM10 : Hid (Mod (fun j => j = g ∨ j = b ∨ j = bl) w4 t2) := Lib.hid (HM9.out.trans (hmr.mono (fun _ _ h => h.elim)) (fun _ _ h => h))
                  have HP10 : Hid (MapI t2 bl (1 + i) f) := Lib.hid (HP9.out.mod hmr (fun h => h))
                  have Hrq2 := Lib.hid (Hrq.out.new hmr).fit; have Hrr := Lib.hid hrr
                  clear hor hmr hrr q1 q2 Hnr
                  go_wp2_with fail
                  refine (sameS_any Aq Ar nq nr cq cr t2.heap.size t2.heap.size (rowL v) (rowL v) true t2 Hrq2.out Hrr.out (by have := Hnq3.out; omega) (decide_eq_true rfl)).mono ?_
                  rintro e t3 ⟨rfl, hms⟩
                  have HC11 : Hid (CacV 0 g b (2 + i) t3 c9) := Lib.hid (HC10.out.new hms)
                  have HM11 : Hid (Mod (fun j => j = g ∨ j = b ∨ j = bl) w4 t3) := Lib.hid (HM10.out.trans (hms.mono (fun _ _ h => h.elim)) (fun _ _ h => h))
                  have HP11 : Hid (MapI t3 bl (1 + i) f) := Lib.hid (HP10.out.mod hms (fun h => h))
                  clear hms
                  obtain ⟨fr, hfr⟩ : ∃ fr, framesC c9 = fr := ⟨_, rfl⟩
                  have hfr2 := HK9.out.frames
                  rw [hfr, Hmo9.out] at hfr2
                  obtain ⟨hfr3, hfr4⟩ := hfr2
                  have Hfr := Lib.hid hfr; have Hfr3 : Hid (1 ≤ (fr : Int)) := Lib.hid (by omega); have Hfr4 := Lib.hid hfr4
                  clear hfr hfr3 hfr4
                  go_wp2_with fail
                  refine (ccFrames_any t3 HC11.out).mono ?_
                  rintro e t4 ⟨rfl, hm4⟩
                  rw [Hfr.out]
                  have HC12 : Hid (CacV 0 g b (2 + i) t4 c9) := Lib.hid (HC11.out.new hm4)
                  have HM12 : Hid (Mod (fun j => j = g ∨ j = b ∨ j = bl) w4 t4) := Lib.hid (HM11.out.trans (hm4.mono (fun _ _ h => h.elim)) (fun _ _ h => h))
                  have HP12 : Hid (MapI t4 bl (1 + i) f) := Lib.hid (HP11.out.mod hm4 (fun h => h))
                  clear hm4
                  have hd1 := Hfr4.out
                  go_wp2_with fail
                  clear hd1
                  refine (ccFrames_any t4 HC12.out).mono ?_
                  rintro e t5 ⟨rfl, hm5⟩
                  rw [Hfr.out]
                  have HC13 : Hid (CacV 0 g b (2 + i) t5 c9) := Lib.hid (HC12.out.new hm5)
                  have HM13 : Hid (Mod (fun j => j = g ∨ j = b ∨ j = bl) w4 t5) := Lib.hid (HM12.out.trans (hm5.mono (fun _ _ h => h.elim)) (fun _ _ h => h))
                  have HP13 : Hid (MapI t5 bl (1 + i) f) := Lib.hid (HP12.out.mod hm5 (fun h => h))
                  clear hm5
                  have hd2 := Hfr3.out
                  have hi9 := Hi9.out
                  go_wp2_with fail
                  go_roundg (gk - 1)
                  case measure => have := Hik.out; have := Hin.out; omega
                  case rel => exact ⟨i + 1, c9, f, v, by have := Hik.out; have := Hin.out; omega, by go_num, HC13.out.more (by omega), HK9.out, Hft.out, HL9.out, Hmo9.out, HP13.out.more (by omega), HM13.out⟩
        · as_aux_lemma =>
            have HiN : Hid (i = N) := Lib.hid (by have := Hik.out; omega)
            by_cases b1 : (i : Int) < (n1 : Int)
            · have b2 : ¬ (i : Int) < 100 := by have := HN.out; have := HiN.out; omega
              clear hin
              obtain ⟨h1, h2, h3⟩ := HK.out.ends
              obtain ⟨cu, heu⟩ : ∃ cu, unpinC c k = (cu, true) := ⟨(unpinC c k).1, Prod.ext rfl h1⟩
              rw [heu] at h3
              obtain ⟨cd, hed⟩ : ∃ cd, dropC cu k = (cd, true) := ⟨(dropC cu k).1, Prod.ext rfl h3⟩
              have Heu := Lib.hid heu; have Hed := Lib.hid hed
              have Hi9 : Hid (i ≤ 100) := Lib.hid (by have := HN.out; have := HiN.out; omega)
              have HEr := Lib.hid (HE.out _ HM.out)
              clear h1 h2 h3 heu hed
              have hk := Hk8.out _ HM.out
              have z0 := hk.cell 0
              have z1 := hk.cell 1
              have z2 := hk.cell 2
              simp at z0 z1 z2
              clear hk
              go_upto_region 24 with fail
              clear b1 b2
              go_wp2_with fail
              clear z0 z1 z2
              refine (call_unpin (k := k) Heu.out HC.out (by have := Hi9.out; omega)).mono ?_
              rintro e w5 ⟨rfl, hc5, hm5⟩
              have HC5 := Lib.hid hc5
              have HM5 : Hid (Mod (fun j => j = g ∨ j = b ∨ j = bl) w4 w5) := Lib.hid (HM.out.trans (hm5.mono (fun _ _ h => by rcases h with h | h; exact .inl h; exact .inr (.inl h))) (fun _ _ h => h))
              clear hc5 hm5
              have hk := Hk8.out _ HM5.out
              have z0 := hk.cell 0
              have z1 := hk.cell 1
              have z2 := hk.cell 2
              simp at z0 z1 z2
              clear hk
              go_wp2_with fail
              clear z0 z1 z2
              refine (call_drop (k := k) Hed.out HC5.out Hfk.out).mono ?_
              rintro e w6 ⟨rfl, hc6, hm6⟩
              have HM6 : Hid (Mod (fun j => j = g ∨ j = b ∨ j = bl) w4 w6) := Lib.hid (HM5.out.trans (hm6.mono (fun _ _ h => by rcases h with h | h; exact .inl h; exact .inr (.inl h))) (fun _ _ h => h))
              clear hc6 hm6
              go_wp2_with fail
              refine (ccAwake_any w6).mono ?_
              rintro e w7 ⟨rfl, hm7⟩
              have Hm7 := Lib.hid hm7
              clear hm7
              go_wp2_with fail
              go_ret
              exact ⟨rfl, (HE.out _ HM6.out).trans Hm7.out (fun _ _ h => h)⟩
            · have b2 : True := trivial
              clear hin
              obtain ⟨h1, h2, h3⟩ := HK.out.ends
              obtain ⟨cu, heu⟩ : ∃ cu, unpinC c k = (cu, true) := ⟨(unpinC c k).1, Prod.ext rfl h1⟩
              rw [heu] at h3
              obtain ⟨cd, hed⟩ : ∃ cd, dropC cu k = (cd, true) := ⟨(dropC cu k).1, Prod.ext rfl h3⟩
              have Heu := Lib.hid heu; have Hed := Lib.hid hed
              have Hi9 : Hid (i ≤ 100) := Lib.hid (by have := HN.out; have := HiN.out; omega)
              have HEr := Lib.hid (HE.out _ HM.out)
              clear h1 h2 h3 heu hed
              have hk := Hk8.out _ HM.out
              have z0 := hk.cell 0
              have z1 := hk.cell 1
              have z2 := hk.cell 2
              simp at z0 z1 z2
              clear hk
              go_upto_region 24 with fail
              clear b1 b2
              go_wp2_with fail
              clear z0 z1 z2
              refine (call_unpin (k := k) Heu.out HC.out (by have := Hi9.out; omega)).mono ?_
              rintro e w5 ⟨rfl, hc5, hm5⟩
              have HC5 := Lib.hid hc5
              have HM5 : Hid (Mod (fun j => j = g ∨ j = b ∨ j = bl) w4 w5) := Lib.hid (HM.out.trans (hm5.mono (fun _ _ h => by rcases h with h | h; exact .inl h; exact .inr (.inl h))) (fun _ _ h => h))
              clear hc5 hm5
              have hk := Hk8.out _ HM5.out
              have z0 := hk.cell 0
              have z1 := hk.cell 1
              have z2 := hk.cell 2
              simp at z0 z1 z2
              clear hk
              go_wp2_with fail
              clear z0 z1 z2
              refine (call_drop (k := k) Hed.out HC5.out Hfk.out).mono ?_
              rintro e w6 ⟨rfl, hc6, hm6⟩
              have HM6 : Hid (Mod (fun j => j = g ∨ j = b ∨ j = bl) w4 w6) := Lib.hid (HM5.out.trans (hm6.mono (fun _ _ h => by rcases h with h | h; exact .inl h; exact .inr (.inl h))) (fun _ _ h => h))
              clear hc6 hm6
              go_wp2_with fail
              refine (ccAwake_any w6).mono ?_
              rintro e w7 ⟨rfl, hm7⟩
              have Hm7 := Lib.hid hm7
              clear hm7
              go_wp2_with fail
              go_ret
              exact ⟨rfl, (HE.out _ HM6.out).trans Hm7.out (fun _ _ h => h)⟩
end Go.Proofs.Ytcoajldhhimmoaa

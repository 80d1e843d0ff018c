/- The texts Yn, Yrd, Yca, Ycb, Ycd, Yrc, Qw, Row, Row2, Ug, Rk, Ym, Td, Td2, Xm, Ow, In, Sm, one behind the other. -/
import Derived.Test.YtcoajldhhimmoaaMx1
/- Which pages stay: the mathematics of the clock: what Admit, Touch, Pin, Drop come to. -/
namespace Go.Proofs.Ytcoajldhhimmoaa

/-- A page is written: its kind and name stay. -/
theorem good_set {c : ClkN} (h : Good c) {i : Nat} {p q : PagN} (hp : c.ps[i]? = some p) (hk : q.key = p.key) (hkd : q.kind = p.kind) (hq : OkP q) : Good { c with ps := c.ps.set i q } ∧ (q.pins = p.pins → resL (c.ps.set i q) = resL c.ps) := by
  have hb := h.base
  obtain ⟨A, B, e, rfl⟩ := split_at hp
  have hpg := hb.pgs
  rw [e] at hpg
  have es : c.ps.set A.length q = A ++ q :: B := by rw [e, set_split]
  have hl : (c.ps.set A.length q).length = c.ps.length := List.length_set ..
  have hc : ∀ k, cntK k (c.ps.set A.length q) = cntK k c.ps := fun k => by
    rw [es, e]
    unfold cntK
    simp only [List.countP_append, List.countP_cons, hkd]
  refine ⟨⟨⟨hb.most, hb.target, by show PgsK (c.ps.set A.length q); rw [es]; exact pgs_set hpg hk hq, by show c.hot < max (c.ps.set A.length q).length 1; rw [hl]; exact hb.hot, by show c.cold < max (c.ps.set A.length q).length 1; rw [hl]; exact hb.cold, by show c.test < max (c.ps.set A.length q).length 1; rw [hl]; exact hb.test⟩, ?_, ?_, ?_⟩, fun hpin => ?_⟩
  · show ((cntK 1 (c.ps.set A.length q) + cntK 2 (c.ps.set A.length q) : Nat) : Int) ≤ c.most
    rw [hc, hc]; exact h.room
  · show (cntK 3 (c.ps.set A.length q) : Int) ≤ c.most
    rw [hc]; exact h.trial
  · show (cntK 1 (c.ps.set A.length q) : Int) ≤ c.most - c.target
    rw [hc]; exact h.hots
  · rw [es, e, resL_app, resL_app, resL_cons, resL_cons, hk, hpin]
    have : q.resi = p.resi := by unfold PagN.resi; rw [hkd]
    rw [this]
theorem good_goes {c : ClkN} (h : Good c) {i : Nat} {p : PagN} (hp : c.ps[i]? = some p) : Good (goesK c i) ∧ ((goesK c i).ps.map (·.key)).Sublist (c.ps.map (·.key)) ∧ (∀ q ∈ (goesK c i).ps, q.key ≠ p.key) ∧ (p.resi = false → resL (goesK c i).ps = resL c.ps) := by
  have hb := goes_base h.base hp
  obtain ⟨A, B, e, rfl⟩ := split_at hp
  have es : (goesK c A.length).ps = A ++ B := by show strikeK c.ps A.length = _; rw [e, strike_split]
  have hc : ∀ k, cntK k (goesK c A.length).ps ≤ cntK k c.ps := fun k => by
    rw [es, e]
    unfold cntK
    simp only [List.countP_append, List.countP_cons]
    omega
  have h1 := hc 1
  have h2 := hc 2
  have h3 := hc 3
  have g1 := h.room
  have g2 := h.trial
  have g3 := h.hots
  refine ⟨⟨hb, ?_, ?_, ?_⟩, by rw [es, e]; exact keys_strike A B p, fun q hq => ?_, fun hr => by rw [es, e, resL_app, resL_app, resL_cons, hr]; rfl⟩
  · show ((cntK 1 (goesK c A.length).ps + cntK 2 (goesK c A.length).ps : Nat) : Int) ≤ c.most
    omega
  · show (cntK 3 (goesK c A.length).ps : Int) ≤ c.most
    omega
  · show (cntK 1 (goesK c A.length).ps : Int) ≤ c.most - c.target
    omega
  · have hn := h.base.pgs.2
    rw [e, List.map_append, List.map_cons, List.nodup_append, List.nodup_cons] at hn
    rw [es] at hq
    rcases List.mem_append.1 hq with hq | hq
    · exact hn.2.2 _ (List.mem_map.2 ⟨q, hq, rfl⟩) _ (List.mem_cons_self ..)
    · intro e2
      exact hn.2.1.1 (List.mem_map.2 ⟨q, hq, e2⟩)
theorem touch_is {c : ClkN} (h : Good c) (k : KeyN) : Good (touchK c k).1 ∧ (touchK c k).1.most = c.most ∧ (touchK c k).1.target = c.target ∧ resL (touchK c k).1.ps = resL c.ps ∧ ((touchK c k).2 = false → (touchK c k).1 = c) ∧ ((touchK c k).2 = true ↔ ∃ p ∈ c.ps, p.key = k ∧ p.resi = true) := by
  unfold touchK
  cases hf : findK k c.ps with
  | none =>
    refine ⟨h, rfl, rfl, rfl, fun _ => rfl, ?_⟩
    constructor
    · intro e; cases e
    · rintro ⟨p, hp, hk, _⟩; exact absurd hk (findK_none hf p hp)
  | some i =>
    obtain ⟨p, hp, hk⟩ := findK_some hf
    simp only [hp]
    by_cases hr : p.resi = true
    · rw [if_pos hr]
      have hok := h.base.ok_at hp
      obtain ⟨g1, g2⟩ := good_set (q := { p with ref := true }) h hp rfl rfl hok
      exact ⟨g1, rfl, rfl, g2 rfl, (fun e => by cases e), ⟨fun _ => ⟨p, List.mem_of_getElem? hp, hk, hr⟩, fun _ => rfl⟩⟩
    · rw [if_neg hr]
      refine ⟨h, rfl, rfl, rfl, fun _ => rfl, ?_⟩
      constructor
      · intro e; cases e
      · rintro ⟨q, hq, hqk, hqr⟩
        obtain ⟨j, hj, e⟩ := List.getElem_of_mem hq
        have h1 := findK_at h.base.pgs.2 (i := j) (p := q) (by rw [List.getElem?_eq_getElem hj, e]) hqk
        rw [hf] at h1
        injection h1 with h1
        subst h1
        rw [List.getElem?_eq_getElem hj, e] at hp
        injection hp with hp
        subst hp
        exact absurd hqr hr
theorem resAt_iff {c : ClkN} (h : BaseK c) (k : KeyN) : resAt c k = true ↔ ∃ p ∈ c.ps, p.key = k ∧ p.resi = true := by
  unfold resAt
  cases hf : findK k c.ps with
  | none =>
    constructor
    · intro e; cases e
    · rintro ⟨p, hp, hk, _⟩; exact absurd hk (findK_none hf p hp)
  | some i =>
    obtain ⟨p, hp, hk⟩ := findK_some hf
    simp only [hp]
    constructor
    · intro e; exact ⟨p, List.mem_of_getElem? hp, hk, e⟩
    · rintro ⟨q, hq, hqk, hqr⟩
      obtain ⟨j, hj, e⟩ := List.getElem_of_mem hq
      have h1 := findK_at h.pgs.2 (i := j) (p := q) (by rw [List.getElem?_eq_getElem hj, e]) hqk
      rw [hf] at h1
      injection h1 with h1
      subst h1
      rw [List.getElem?_eq_getElem hj, e] at hp
      injection hp with hp
      subst hp
      exact hqr
/-- Nobody comes, where all have pins. -/
theorem admit_no {c : ClkN} (h : Good c) {k : KeyN} (e : (admitK c k).2.2 = false) : admitK c k = (c, [], false) ∧ ((cntK 1 c.ps + cntK 2 c.ps : Nat) : Int) = c.most ∧ c.ps.any isFree = false ∧ resAt c k = false := by
  obtain ⟨_, _, _, _, _, t⟩ := touch_is h k
  unfold admitK at e ⊢
  by_cases hr : resAt c k = true
  · rw [if_pos hr] at e
    have : (touchK c k).2 = true := t.2 ((resAt_iff h.base k).1 hr)
    exact absurd (this.symm.trans e) (by decide)
  · rw [if_neg hr] at e ⊢
    by_cases hc : c.most ≤ (cntK 1 c.ps + cntK 2 c.ps : Nat) ∧ c.ps.any isFree = false
    · rw [if_pos hc]
      exact ⟨rfl, by have := h.room; omega, hc.2, by simpa using hr⟩
    · rw [if_neg hc] at e
      cases e
/-- Who comes is there; whom it put out is not; who has pins stays. -/
structure Came (c c' : ClkN) (k : KeyN) (out : List KeyN) : Prop where
  good : Good c'
  most : c'.most = c.most
  here : ∃ p ∈ c'.ps, p.key = k ∧ p.resi = true
  pinned : ∀ x ∈ resL c.ps, x.2 ≠ 0 → x ∈ resL c'.ps
  from_ : ∀ x ∈ resL c'.ps, x ∈ resL c.ps ∨ x = (k, 0)
  gone : ∀ key ∈ out, (key, 0) ∈ resL c.ps ∧ ∀ n, (key, n) ∉ resL c'.ps
  one : out.length ≤ 1
  none_ : ((cntK 1 c.ps + cntK 2 c.ps : Nat) : Int) < c.most → out = []
  full : (∀ p ∈ c.ps, p.key = k → p.resi = false) → ((cntK 1 c.ps + cntK 2 c.ps : Nat) : Int) = c.most → out.length = 1
  kept : ∀ x ∈ resL c.ps, x.1 ∉ out → x ∈ resL c'.ps
theorem come_all {c : ClkN} (h : BaseK c) (hroom : ((cntK 1 c.ps + cntK 2 c.ps : Nat) : Int) ≤ c.most) (htrial : (cntK 3 c.ps : Int) ≤ c.most) {k : KeyN} (hk : ∀ q ∈ c.ps, q.key ≠ k) (hf : ((cntK 1 c.ps + cntK 2 c.ps : Nat) : Int) = c.most → c.ps.any isFree = true) {p : PagN} (hp : p.key = k) (hr : p.resi = true) (h0 : p.pins = 0) (hok : OkP p) :
    Came c (coolK (comeK (roomK c).1 p)) k (roomK c).2 := by
  obtain ⟨_, hor, r1, r2, r3, r4, r5⟩ := room_ends h hroom hf htrial
  have hnew : ∀ q ∈ (roomK c).1.ps, q.key ≠ p.key := fun q hq e => by
    have hm : q.key ∈ (roomK c).1.ps.map (·.key) := List.mem_map.2 ⟨q, hq, rfl⟩
    obtain ⟨q', hq', e'⟩ := List.mem_map.1 (r5.subset hm)
    exact hk q' hq' (by rw [e', e, hp])
  obtain ⟨c1, c2, c3, c4, c5, L1, L2, c6, c7⟩ := come_base r3 hok hnew
  obtain ⟨t, t2, _⟩ := cool_ends c1
  rw [if_pos hr] at c7
  have hres : resL (coolK (comeK (roomK c).1 p)).ps = L1 ++ [(k, 0)] ++ L2 := by rw [t.res, c7, hp, h0]
  have hmost : (coolK (comeK (roomK c).1 p)).most = c.most := t.most.trans (c2.trans r4)
  have hk3 : p.kind ≠ 3 := (resi_of hok).1 hr
  have hsub : ∀ x ∈ resL (roomK c).1.ps, x ∈ resL c.ps := fun x hx => by
    rcases hor with ⟨_, e⟩ | ⟨_, key, _, o, _⟩
    · rw [e] at hx; exact hx
    · obtain ⟨M1, M2, e1, e2⟩ := o.res
      rw [e2] at hx
      rw [e1]
      rcases List.mem_append.1 hx with hx | hx
      · exact List.mem_append_left _ hx
      · exact List.mem_append_right _ (List.mem_cons_of_mem _ hx)
  have hin : ∀ x, x ∈ resL (coolK (comeK (roomK c).1 p)).ps ↔ x ∈ resL (roomK c).1.ps ∨ x = (k, 0) := fun x => by
    rw [hres, c6]
    simp only [List.mem_append, List.mem_cons, List.not_mem_nil, or_false]
    constructor
    · rintro ((h | h) | h)
      · exact .inl (.inl h)
      · exact .inr h
      · exact .inl (.inr h)
    · rintro ((h | h) | h)
      · exact .inl (.inl h)
      · exact .inr h
      · exact .inl (.inr h)
  refine ⟨⟨t.base, ?_, ?_, t2⟩, hmost, ?_, ?_, ?_, ?_, ?_, ?_, ?_, ?_⟩
  · have e1 := res_len t.base.pgs.1
    have e2 := res_len r3.pgs.1
    rw [hres] at e1
    rw [c6] at e2
    simp only [List.length_append, List.length_cons, List.length_nil] at e1 e2
    rw [← e1, hmost]
    omega
  · have := t.tests
    have e := c5 3
    rw [if_neg hk3] at e
    rw [hmost]
    omega
  · have : (k, (0 : Int)) ∈ resL (coolK (comeK (roomK c).1 p)).ps := (hin _).2 (.inr rfl)
    obtain ⟨q, h1, h2, h3⟩ := res_mem.1 this
    injection h3 with h3 _
    exact ⟨q, h1, h3, h2⟩
  · intro x hx hx0
    refine (hin x).2 (.inl ?_)
    rcases hor with ⟨_, e⟩ | ⟨_, key, _, o, _⟩
    · rw [e]; exact hx
    · obtain ⟨M1, M2, e1, e2⟩ := o.res
      rw [e1] at hx
      rw [e2]
      rcases List.mem_append.1 hx with hx | hx
      · exact List.mem_append_left _ hx
      rcases List.mem_cons.1 hx with rfl | hx
      · exact absurd rfl hx0
      · exact List.mem_append_right _ hx
  · intro x hx
    rcases (hin x).1 hx with hx | hx
    · exact .inl (hsub x hx)
    · exact .inr hx
  · intro key hkey
    rcases hor with ⟨_, e⟩ | ⟨_, key', e1, o, _⟩
    · rw [e] at hkey; cases hkey
    · rw [e1] at hkey
      obtain rfl := List.mem_singleton.1 hkey
      obtain ⟨M1, M2, e2, e3⟩ := o.res
      have hmem : (key, (0 : Int)) ∈ resL c.ps := by rw [e2]; exact List.mem_append_right _ (List.mem_cons_self ..)
      refine ⟨hmem, fun n hn => ?_⟩
      rcases (hin _).1 hn with hn | hn
      · have hnd := res_nodup h.pgs.2
        rw [e2, List.map_append, List.map_cons, List.nodup_append, List.nodup_cons] at hnd
        rw [e3] at hn
        rcases List.mem_append.1 hn with hn | hn
        · exact hnd.2.2 _ (List.mem_map.2 ⟨_, hn, rfl⟩) _ (List.mem_cons_self ..) rfl
        · exact hnd.2.1.1 (List.mem_map.2 ⟨_, hn, rfl⟩)
      · injection hn with hn _
        obtain ⟨q, h1, _, h3⟩ := res_mem.1 hmem
        injection h3 with h3 _
        exact hk q h1 (h3.trans hn)
  · rcases hor with ⟨_, e⟩ | ⟨_, key', e1, _, _⟩
    · rw [e]; exact Nat.zero_le _
    · rw [e1]; exact Nat.le_refl _
  · intro hlt
    rcases hor with ⟨_, e⟩ | ⟨e, _⟩
    · rw [e]
    · omega
  · intro _ hfull
    rcases hor with ⟨e, _⟩ | ⟨_, key', e1, _, _⟩
    · omega
    · rw [e1]; rfl
  · intro x hx hx0
    refine (hin x).2 (.inl ?_)
    rcases hor with ⟨_, e⟩ | ⟨_, key, e0, o, _⟩
    · rw [e]; exact hx
    · obtain ⟨M1, M2, e1, e2⟩ := o.res
      rw [e1] at hx
      rw [e2]
      rcases List.mem_append.1 hx with hx | hx
      · exact List.mem_append_left _ hx
      rcases List.mem_cons.1 hx with rfl | hx
      · exact absurd (by rw [e0]; exact List.mem_singleton.2 rfl) hx0
      · exact List.mem_append_right _ hx
theorem admit_yes {c : ClkN} (h : Good c) {k : KeyN} (e : (admitK c k).2.2 = true) : Came c (admitK c k).1 k (admitK c k).2.1 := by
  obtain ⟨t1, t2, _, t3, _, t4⟩ := touch_is h k
  unfold admitK at e ⊢
  by_cases hr : resAt c k = true
  · rw [if_pos hr]
    obtain ⟨p, hp, hpk, hpr⟩ := (resAt_iff h.base k).1 hr
    refine ⟨t1, t2, ?_, fun x hx _ => by rw [t3]; exact hx, fun x hx => .inl (by rw [← t3]; exact hx), (fun key hk => by cases hk), Nat.zero_le _, fun _ => rfl, fun hno _ => absurd (hno p hp hpk) (by rw [hpr]; decide), fun x hx _ => by rw [t3]; exact hx⟩
    have : (p.key, p.pins) ∈ resL (touchK c k).1.ps := by rw [t3]; exact res_mem.2 ⟨p, hp, hpr, rfl⟩
    obtain ⟨q, h1, h2, h3⟩ := res_mem.1 this
    injection h3 with h3 _
    exact ⟨q, h1, h3.trans hpk, h2⟩
  · rw [if_neg hr] at e ⊢
    by_cases hc : c.most ≤ (cntK 1 c.ps + cntK 2 c.ps : Nat) ∧ c.ps.any isFree = false
    · rw [if_pos hc] at e
      cases e
    · rw [if_neg hc]
      have hf : ((cntK 1 c.ps + cntK 2 c.ps : Nat) : Int) = c.most → c.ps.any isFree = true := fun hfull => by
        cases ha : c.ps.any isFree with
        | true => rfl
        | false => exact absurd ⟨by omega, ha⟩ hc
      cases hfk : findK k c.ps with
      | none =>
        have e1 : clearK c k = c := by unfold clearK; rw [hfk]
        have e2 : pageK c k = ⟨k, 2, false, true, 0⟩ := by unfold pageK; rw [hfk]
        rw [e1, e2]
        exact come_all h.base h.room h.trial (findK_none hfk) hf rfl rfl rfl ⟨.inr (.inl rfl), Int.le_refl _, fun _ => rfl⟩
      | some i =>
        obtain ⟨p, hp, hpk⟩ := findK_some hfk
        have e1 : clearK c k = aimK (goesK c i) 1 := by unfold clearK; rw [hfk]
        have e2 : pageK c k = ⟨k, 1, false, false, 0⟩ := by unfold pageK; rw [hfk]
        have hrf : p.resi = false := by
          unfold resAt at hr
          rw [hfk] at hr
          simp only [hp] at hr
          simpa using hr
        obtain ⟨g1, g2, g3, g4⟩ := good_goes h hp
        have hres : resL (goesK c i).ps = resL c.ps := g4 hrf
        have hcnt : cntK 1 (goesK c i).ps + cntK 2 (goesK c i).ps = cntK 1 c.ps + cntK 2 c.ps := by rw [← res_len g1.base.pgs.1, ← res_len h.base.pgs.1, hres]
        have hb1 : BaseK (aimK (goesK c i) 1) := aim_base g1.base 1
        have hall := come_all (c := aimK (goesK c i) 1) hb1 (by show ((cntK 1 (goesK c i).ps + cntK 2 (goesK c i).ps : Nat) : Int) ≤ c.most; rw [hcnt]; exact h.room) g1.trial (k := k) (fun q hq => by rw [← hpk]; exact g3 q hq)
          (fun hfull => by
            have e3 : (aimK (goesK c i) 1).ps = (goesK c i).ps := rfl
            have e4 : (aimK (goesK c i) 1).most = c.most := rfl
            rw [e3, free_res, hres, ← free_res]
            rw [e3, hcnt, e4] at hfull
            exact hf hfull) (p := ⟨k, 1, false, false, 0⟩) rfl rfl rfl ⟨.inl rfl, Int.le_refl _, fun _ => rfl⟩
        rw [e1, e2]
        obtain ⟨a1, a2, a3, a4, a5, a6, a7, a8, a9, a10⟩ := hall
        have e5 : resL (aimK (goesK c i) 1).ps = resL c.ps := hres
        rw [e5] at a4 a5 a6 a10
        exact ⟨a1, a2, a3, a4, a5, a6, a7, fun hlt => a8 (by show ((cntK 1 (goesK c i).ps + cntK 2 (goesK c i).ps : Nat) : Int) < c.most; rw [hcnt]; exact hlt), fun _ hfull => a9 (fun q hq hqk => absurd hqk (by rw [← hpk]; exact g3 q hq)) (by show ((cntK 1 (goesK c i).ps + cntK 2 (goesK c i).ps : Nat) : Int) = c.most; rw [hcnt]; exact hfull), a10⟩
theorem pin_is {c : ClkN} (h : Good c) (k : KeyN) (n : Int) : Good (pinK c k n).1 ∧ (pinK c k n).1.most = c.most ∧ (pinK c k n).1.target = c.target ∧ ((pinK c k n).2 = false → (pinK c k n).1 = c) ∧ ((pinK c k n).2 = true ↔ resAt c k = true) := by
  unfold pinK resAt
  cases hf : findK k c.ps with
  | none => exact ⟨h, rfl, rfl, fun _ => rfl, ⟨(fun e => by cases e), (fun e => by cases e)⟩⟩
  | some i =>
    obtain ⟨p, hp, hk⟩ := findK_some hf
    simp only [hp]
    by_cases hr : p.resi = true
    · rw [if_pos hr]
      have hok := h.base.ok_at hp
      obtain ⟨g1, _⟩ := good_set (q := { p with pins := max (p.pins + n) 0 }) h hp rfl rfl ⟨hok.1, by show 0 ≤ max (p.pins + n) 0; omega, fun h3 => absurd h3 ((resi_of hok).1 hr)⟩
      exact ⟨g1, rfl, rfl, (fun e => by cases e), ⟨fun _ => hr, fun _ => rfl⟩⟩
    · rw [if_neg hr]
      exact ⟨h, rfl, rfl, fun _ => rfl, ⟨(fun e => by cases e), fun e => absurd e hr⟩⟩
end Go.Proofs.Ytcoajldhhimmoaa

/- The clock with pins: all that are resident get one; one loses them; what others keep. -/
namespace Go.Proofs.Ytcoajldhhimmoaa

section
variable {c : ClkN} {i : Nat} {p : PagN}
end
section
variable {c : ClkN} {k : KeyN}
/-- Who may come. -/
theorem admit_free (h : Good c) (hf : c.ps.any isFree = true) : (admitK c k).2.2 = true := by
  cases e : (admitK c k).2.2 with
  | true => rfl
  | false =>
    obtain ⟨_, _, h2, _⟩ := admit_no h e
    rw [hf] at h2
    cases h2
theorem admit_room (h : Good c) (hf : ((cntK 1 c.ps + cntK 2 c.ps : Nat) : Int) < c.most) : (admitK c k).2.2 = true := by
  cases e : (admitK c k).2.2 with
  | true => rfl
  | false =>
    obtain ⟨_, h1, _⟩ := admit_no h e
    omega
theorem admit_full (hr : resAt c k = false) (h1 : c.most ≤ ((cntK 1 c.ps + cntK 2 c.ps : Nat) : Int)) (hf : c.ps.any isFree = false) : admitK c k = (c, [], false) := by
  unfold admitK
  rw [if_neg (by rw [hr]; decide), if_pos ⟨h1, hf⟩]
/-- Who comes is found, and is resident. -/
theorem Came.found {c' : ClkN} {out : List KeyN} (h : Came c c' k out) : ∃ i p, findK k c'.ps = some i ∧ c'.ps[i]? = some p ∧ p.key = k ∧ p.resi = true := by
  obtain ⟨p, hp, hk, hr⟩ := h.here
  obtain ⟨i, hi, e⟩ := List.getElem_of_mem hp
  have hq : c'.ps[i]? = some p := by rw [List.getElem?_eq_getElem hi, e]
  exact ⟨i, p, findK_at h.good.base.pgs.2 hq hk, hq, hk, hr⟩
/-- Pins turned: the others' stay. -/
theorem pin_at (h : Good c) {i : Nat} {p : PagN} (hp : c.ps[i]? = some p) (hr : p.resi = true) (n : Int) : pinK c p.key n = ({ c with ps := c.ps.set i { p with pins := max (p.pins + n) 0 } }, true) := by
  unfold pinK
  rw [findK_at h.base.pgs.2 hp rfl]
  simp only [hp]
  rw [if_pos hr]
/-- One that is resident is found, with its pins. -/
theorem res_found (h : Good c) {x : KeyN × Int} (hx : x ∈ resL c.ps) : ∃ i p, findK x.1 c.ps = some i ∧ c.ps[i]? = some p ∧ p.resi = true ∧ p.pins = x.2 := by
  obtain ⟨p, hp, hr, e⟩ := res_mem.1 hx
  obtain ⟨i, hi, e2⟩ := List.getElem_of_mem hp
  have hq : c.ps[i]? = some p := by rw [List.getElem?_eq_getElem hi, e2]
  subst e
  exact ⟨i, p, findK_at h.base.pgs.2 hq rfl, hq, hr, rfl⟩
end
end Go.Proofs.Ytcoajldhhimmoaa

/- What is kept ready: the mathematics of the cache: a clock, and the samples of each page that is resident. -/
namespace Go.Proofs.Ytcoajldhhimmoaa

structure CacN where
  clk : ClkN
  sam : KeyN → Option (List (Int × Nat))
def newC (most : Int) : CacN := ⟨newK most, fun _ => none⟩
def getC (c : CacN) (k : KeyN) : CacN × Option (List (Int × Nat)) :=
  if (touchK c.clk k).2 then ({ c with clk := (touchK c.clk k).1 }, c.sam k) else (c, none)
def setC (f : KeyN → Option (List (Int × Nat))) (k : KeyN) (l : List (Int × Nat)) (out : List KeyN) : KeyN → Option (List (Int × Nat)) :=
  fun x => if x = k then some l else if x ∈ out then none else f x
def putC (c : CacN) (k : KeyN) (l : List (Int × Nat)) : CacN × Bool :=
  if (admitK c.clk k).2.2 then (⟨(admitK c.clk k).1, setC c.sam k l (admitK c.clk k).2.1⟩, true) else (c, false)
def pinsC (c : ClkN) (k : KeyN) : Int := match findK k c.ps with
  | none => 0
  | some i => match c.ps[i]? with
    | none => 0
    | some p => p.pins
def pinC (c : CacN) (k : KeyN) : CacN × Bool := ({ c with clk := (pinK c.clk k 1).1 }, (pinK c.clk k 1).2)
def unpinC (c : CacN) (k : KeyN) : CacN × Bool := if resAt c.clk k ∧ 0 < pinsC c.clk k then ({ c with clk := (pinK c.clk k (-1)).1 }, true) else (c, false)
def dropC (c : CacN) (k : KeyN) : CacN × Bool :=
  if (findK k c.clk.ps).isSome ∧ pinsC c.clk k = 0 then (⟨(dropK c.clk k).1, fun x => if x = k then none else c.sam x⟩, true) else (c, false)
def framesC (c : CacN) : Nat := cntK 1 c.clk.ps + cntK 2 c.clk.ps
/-- Just who is resident has samples. -/
structure GoodC (c : CacN) : Prop where
  clk : Good c.clk
  sam : ∀ k, (c.sam k).isSome = true ↔ resAt c.clk k = true
theorem resAt_res {c : ClkN} (h : BaseK c) (k : KeyN) : resAt c k = true ↔ ∃ n, (k, n) ∈ resL c.ps := by
  rw [resAt_iff h]
  constructor
  · rintro ⟨p, h1, h2, h3⟩; exact ⟨p.pins, res_mem.2 ⟨p, h1, h3, by rw [h2]⟩⟩
  · rintro ⟨n, hn⟩
    obtain ⟨p, h1, h2, h3⟩ := res_mem.1 hn
    injection h3 with h3 _
    exact ⟨p, h1, h3, h2⟩
theorem resAt_same {c c' : ClkN} (h : BaseK c) (h' : BaseK c') (e : resL c'.ps = resL c.ps) (k : KeyN) : resAt c' k = resAt c k := by
  rw [Bool.eq_iff_iff, resAt_res h, resAt_res h', e]
theorem pins_res {c : ClkN} (h : Good c) {k : KeyN} {n : Int} (hx : (k, n) ∈ resL c.ps) : pinsC c k = n := by
  obtain ⟨i, p, h1, h2, _, h4⟩ := res_found h hx
  unfold pinsC
  rw [h1]
  simp only [h2]
  exact h4
theorem goodC_new (most : Int) : GoodC (newC most) := ⟨good_new most, fun k => by
  constructor
  · intro e; cases e
  · intro e; cases e⟩
theorem get_good {c : CacN} (h : GoodC c) (k : KeyN) : GoodC (getC c k).1 ∧ (getC c k).1.clk.most = c.clk.most ∧ (getC c k).1.sam = c.sam ∧ resL (getC c k).1.clk.ps = resL c.clk.ps ∧ (getC c k).2 = c.sam k := by
  obtain ⟨t1, t2, _, t4, _, t6⟩ := touch_is h.clk k
  have hr : (touchK c.clk k).2 = true ↔ resAt c.clk k = true := t6.trans (resAt_iff h.clk.base k).symm
  unfold getC
  by_cases e : (touchK c.clk k).2 = true
  · rw [if_pos e]
    exact ⟨⟨t1, fun x => by rw [h.sam x]; show _ ↔ resAt (touchK c.clk k).1 x = true; rw [resAt_same h.clk.base t1.base t4]⟩, t2, rfl, t4, rfl⟩
  · rw [if_neg e]
    refine ⟨h, rfl, rfl, rfl, ?_⟩
    cases hs : c.sam k with
    | none => rfl
    | some l => exact absurd (hr.2 ((h.sam k).1 (by rw [hs]; rfl))) e
theorem put_good {c : CacN} (h : GoodC c) (k : KeyN) (l : List (Int × Nat)) : GoodC (putC c k l).1 ∧ (putC c k l).1.clk.most = c.clk.most ∧ ((putC c k l).2 = false → (putC c k l).1 = c) := by
  unfold putC
  cases e : (admitK c.clk k).2.2 with
  | false => exact ⟨h, rfl, fun _ => rfl⟩
  | true =>
    have hc := admit_yes h.clk e
    refine ⟨⟨hc.good, fun x => ?_⟩, hc.most, fun e => by cases e⟩
    show (setC c.sam k l (admitK c.clk k).2.1 x).isSome = true ↔ _
    unfold setC
    by_cases hx : x = k
    · rw [if_pos hx]
      subst hx
      exact ⟨fun _ => (resAt_iff hc.good.base x).2 hc.here, fun _ => rfl⟩
    rw [if_neg hx]
    by_cases ho : x ∈ (admitK c.clk k).2.1
    · rw [if_pos ho]
      constructor
      · intro e; cases e
      · intro e
        obtain ⟨n, hn⟩ := (resAt_res hc.good.base x).1 e
        exact absurd hn ((hc.gone x ho).2 n)
    rw [if_neg ho, h.sam x]
    show resAt c.clk x = true ↔ resAt (admitK c.clk k).1 x = true
    rw [resAt_res h.clk.base, resAt_res hc.good.base]
    constructor
    · rintro ⟨n, hn⟩; exact ⟨n, hc.kept _ hn ho⟩
    · rintro ⟨n, hn⟩
      rcases hc.from_ _ hn with h1 | h1
      · exact ⟨n, h1⟩
      · injection h1 with h1 _
        exact absurd h1 hx
theorem put_no {c : CacN} (h : GoodC c) {k : KeyN} {l : List (Int × Nat)} (e : (putC c k l).2 = false) : (framesC c : Int) = c.clk.most ∧ c.clk.ps.any isFree = false ∧ resAt c.clk k = false := by
  unfold putC at e
  cases e2 : (admitK c.clk k).2.2 with
  | true => rw [e2] at e; cases e
  | false =>
    obtain ⟨_, h1, h2, h3⟩ := admit_no h.clk e2
    exact ⟨h1, h2, h3⟩
theorem put_yes {c : CacN} (h : GoodC c) {k : KeyN} {l : List (Int × Nat)} (e : (putC c k l).2 = true) : (putC c k l).1 = ⟨(admitK c.clk k).1, setC c.sam k l (admitK c.clk k).2.1⟩ ∧ Came c.clk (putC c k l).1.clk k (admitK c.clk k).2.1 ∧ (putC c k l).1.sam k = some l := by
  unfold putC at e ⊢
  cases e2 : (admitK c.clk k).2.2 with
  | false => rw [e2] at e; cases e
  | true => exact ⟨rfl, admit_yes h.clk e2, by show setC _ _ _ _ k = _; unfold setC; rw [if_pos rfl]⟩
/-- Who has pins keeps them, and its samples. -/
theorem put_keeps {c : CacN} (h : GoodC c) {k x : KeyN} {l : List (Int × Nat)} {n : Int} (hx : (x, n) ∈ resL c.clk.ps) (hn : n ≠ 0) (hne : x ≠ k) : (x, n) ∈ resL (putC c k l).1.clk.ps ∧ (putC c k l).1.sam x = c.sam x := by
  cases e : (putC c k l).2 with
  | false => rw [(put_good h k l).2.2 e]; exact ⟨hx, rfl⟩
  | true =>
    obtain ⟨e1, hc, _⟩ := put_yes h e
    have h2 := hc.pinned _ hx hn
    refine ⟨h2, ?_⟩
    rw [e1]
    show setC _ _ _ _ x = _
    unfold setC
    rw [if_neg hne, if_neg (fun ho => ?_)]
    exact (hc.gone x ho).2 n h2
theorem pinC_good {c : CacN} (h : GoodC c) (k : KeyN) (n : Int) : GoodC ⟨(pinK c.clk k n).1, c.sam⟩ := by
  obtain ⟨g1, _, _, g3, g4⟩ := pin_is h.clk k n
  refine ⟨g1, fun x => ?_⟩
  rw [h.sam x]
  show resAt c.clk x = true ↔ resAt (pinK c.clk k n).1 x = true
  rw [resAt_iff h.clk.base, resAt_iff g1.base]
  unfold pinK
  cases hf : findK k c.clk.ps with
  | none => exact Iff.rfl
  | some i =>
    obtain ⟨p, hp, _⟩ := findK_some hf
    simp only [hp]
    by_cases hr : p.resi = true
    · rw [if_pos hr]
      obtain ⟨A, B, e, rfl⟩ := split_at hp
      show _ ↔ ∃ q ∈ c.clk.ps.set A.length { p with pins := max (p.pins + n) 0 }, q.key = x ∧ q.resi = true
      rw [e, set_split]
      simp only [List.mem_append, List.mem_cons]
      constructor
      · rintro ⟨q, hq | rfl | hq, h2⟩
        · exact ⟨q, .inl hq, h2⟩
        · exact ⟨{ q with pins := max (q.pins + n) 0 }, .inr (.inl rfl), h2⟩
        · exact ⟨q, .inr (.inr hq), h2⟩
      · rintro ⟨q, hq | rfl | hq, h2⟩
        · exact ⟨q, .inl hq, h2⟩
        · exact ⟨p, .inr (.inl rfl), h2⟩
        · exact ⟨q, .inr (.inr hq), h2⟩
    · rw [if_neg hr]
theorem dropC_good {c : CacN} (h : GoodC c) (k : KeyN) : GoodC (dropC c k).1 ∧ (dropC c k).1.clk.most = c.clk.most ∧ ((dropC c k).2 = false → (dropC c k).1 = c) := by
  unfold dropC
  by_cases hd : (findK k c.clk.ps).isSome ∧ pinsC c.clk k = 0
  · rw [if_pos hd]
    obtain ⟨i, hf⟩ := Option.isSome_iff_exists.1 hd.1
    obtain ⟨p, hp, hk⟩ := findK_some hf
    have e1 : (dropK c.clk k).1 = goesK c.clk i := by unfold dropK; rw [hf]
    obtain ⟨g1, g2, g3, _⟩ := good_goes h.clk hp
    refine ⟨⟨by show Good (dropK c.clk k).1; rw [e1]; exact g1, fun x => ?_⟩, by show (dropK c.clk k).1.most = _; rw [e1]; rfl, fun e => by cases e⟩
    show (if x = k then none else c.sam x).isSome = true ↔ resAt (dropK c.clk k).1 x = true
    rw [e1, resAt_iff g1.base]
    by_cases hx : x = k
    · rw [if_pos hx]
      constructor
      · intro e; cases e
      · rintro ⟨q, hq, hqk, _⟩
        exact absurd (hqk.trans (hx.trans hk.symm)) (g3 q hq)
    rw [if_neg hx, h.sam x, resAt_iff h.clk.base]
    obtain ⟨A, B, e, rfl⟩ := split_at hp
    have es : (goesK c.clk A.length).ps = A ++ B := by show strikeK c.clk.ps A.length = _; rw [e, strike_split]
    rw [es, e]
    simp only [List.mem_append, List.mem_cons]
    constructor
    · rintro ⟨q, hq | rfl | hq, h2⟩
      · exact ⟨q, .inl hq, h2⟩
      · exact absurd (h2.1.symm.trans hk) hx
      · exact ⟨q, .inr hq, h2⟩
    · rintro ⟨q, hq | hq, h2⟩
      · exact ⟨q, .inl hq, h2⟩
      · exact ⟨q, .inr (.inr hq), h2⟩
  · rw [if_neg hd]
    exact ⟨h, rfl, fun _ => rfl⟩
end Go.Proofs.Ytcoajldhhimmoaa

/- The clock where all that are resident have one pin: one more comes and is pinned; one loses its pin and another takes its place. -/
namespace Go.Proofs.Ytcoajldhhimmoaa

theorem res_dup {c : ClkN} (h : Good c) : (resL c.ps).Nodup := (List.pairwise_map.1 (res_nodup h.base.pgs.2)).imp (fun hne e => hne (by rw [e]))
/-- Pins turned: the row of those that are resident, in its order. -/
theorem pin_split {c : ClkN} (h : Good c) {k : KeyN} {n : Int} (hx : (k, n) ∈ resL c.ps) (m : Int) :
    ∃ L1 L2, resL c.ps = L1 ++ (k, n) :: L2 ∧ resL (pinK c k m).1.ps = L1 ++ (k, max (n + m) 0) :: L2 ∧ (pinK c k m).2 = true ∧ ∀ x ∈ L1 ++ L2, x.1 ≠ k := by
  obtain ⟨i, p, hf, hp, hr, hpn⟩ := res_found h hx
  obtain ⟨p', hp', hk⟩ := findK_some hf
  rw [hp] at hp'
  injection hp' with hp'
  subst hp'
  have hpn : p.pins = n := hpn
  have hpp := pin_at h hp hr m
  rw [show p.key = k from hk] at hpp
  obtain ⟨A, B, e, rfl⟩ := split_at hp
  have e1 : resL c.ps = resL A ++ (k, n) :: resL B := by
    rw [e, resL_app, resL_cons, if_pos hr]
    show resL A ++ ((p.key, p.pins) :: resL B) = _
    rw [show p.key = k from hk, hpn]
  have e2 : resL (pinK c k m).1.ps = resL A ++ (k, max (n + m) 0) :: resL B := by
    rw [hpp]
    show resL (c.ps.set A.length _) = _
    rw [e, set_split, resL_app, resL_cons]
    rw [if_pos (show PagN.resi ⟨k, p.kind, p.ref, p.trial, max (p.pins + m) 0⟩ = true from hr)]
    show resL A ++ ((k, max (p.pins + m) 0) :: resL B) = _
    rw [hpn]
  refine ⟨resL A, resL B, e1, e2, by rw [hpp], fun x hx2 hxk => ?_⟩
  have hd := res_nodup h.base.pgs.2
  rw [e1, List.map_append, List.map_cons, List.nodup_append, List.nodup_cons] at hd
  rcases List.mem_append.1 hx2 with h1 | h1
  · exact hd.2.2 x.1 (List.mem_map.2 ⟨x, h1, rfl⟩) k (List.mem_cons_self ..) hxk
  · exact hd.2.1.1 (List.mem_map.2 ⟨x, h1, hxk⟩)
/-- Just those that P says are resident, each has one pin, and there are n. -/
structure AllOne (c : ClkN) (P : KeyN → Prop) (n : Nat) : Prop where
  mem : ∀ x, x ∈ resL c.ps ↔ P x.1 ∧ x.2 = 1
  len : (resL c.ps).length = n
theorem AllOne.cnt {c : ClkN} {P : KeyN → Prop} {n : Nat} (h : AllOne c P n) (hg : Good c) : cntK 1 c.ps + cntK 2 c.ps = n := by rw [← res_len hg.base.pgs.1, h.len]
theorem AllOne.not_ {c : ClkN} {P : KeyN → Prop} {n : Nat} (h : AllOne c P n) (hg : Good c) {k : KeyN} (hk : ¬ P k) : resAt c k = false := by
  cases e : resAt c k with
  | false => rfl
  | true =>
    obtain ⟨m, hm⟩ := (resAt_res hg.base k).1 e
    exact absurd ((h.mem _).1 hm).1 hk
theorem AllOne.free {c : ClkN} {P : KeyN → Prop} {n : Nat} (h : AllOne c P n) : c.ps.any isFree = false := by
  rw [free_res, List.any_eq_false]
  intro x hx
  have := ((h.mem x).1 hx).2
  rw [this]
  decide
theorem allOne_new (most : Int) : AllOne (newK most) (fun _ => False) 0 := ⟨fun x => ⟨fun h => (by cases h), fun h => h.1.elim⟩, rfl⟩
/-- k was let in, with no pins: it gets one. -/
theorem one_more {c c' : ClkN} {k : KeyN} (hg : Good c') (hm : ∀ x, x ∈ resL c'.ps ↔ x ∈ resL c.ps ∨ x = (k, 0)) (hk : ∀ x ∈ resL c.ps, x.1 ≠ k) {Q : KeyN → Prop} (hQ : ∀ x, x ∈ resL c.ps ↔ Q x.1 ∧ x.2 = 1) {n : Nat} (hn : (resL c'.ps).length = n) :
    (pinK c' k 1).2 = true ∧ Good (pinK c' k 1).1 ∧ (pinK c' k 1).1.most = c'.most ∧ AllOne (pinK c' k 1).1 (fun x => Q x ∨ x = k) n := by
  obtain ⟨g1, g2, _⟩ := pin_is hg k 1
  obtain ⟨L1, L2, e1, e2, e3, e4⟩ := pin_split hg ((hm (k, 0)).2 (.inr rfl)) 1
  have hmx : max ((0 : Int) + 1) 0 = 1 := by omega
  rw [hmx] at e2
  refine ⟨e3, g1, g2, fun x => ?_, by rw [e2, ← hn, e1]; simp⟩
  have hold : x ∈ L1 ++ L2 ↔ x ∈ resL c.ps := by
    constructor
    · intro h
      have h1 : x ∈ resL c'.ps := by
        rw [e1]
        rcases List.mem_append.1 h with h | h
        · exact List.mem_append_left _ h
        · exact List.mem_append_right _ (List.mem_cons_of_mem _ h)
      rcases (hm x).1 h1 with h2 | h2
      · exact h2
      · exact absurd (by rw [h2]) (e4 x h)
    · intro h
      have h1 := (hm x).2 (.inl h)
      rw [e1] at h1
      rcases List.mem_append.1 h1 with h2 | h2
      · exact List.mem_append_left _ h2
      rcases List.mem_cons.1 h2 with h3 | h3
      · exact absurd (by rw [h3]) (hk x h)
      · exact List.mem_append_right _ h3
  rw [e2]
  constructor
  · intro h
    rcases List.mem_append.1 h with h1 | h1
    · obtain ⟨q1, q2⟩ := (hQ x).1 (hold.1 (List.mem_append_left _ h1)); exact ⟨.inl q1, q2⟩
    rcases List.mem_cons.1 h1 with h2 | h2
    · rw [h2]; exact ⟨.inr rfl, rfl⟩
    · obtain ⟨q1, q2⟩ := (hQ x).1 (hold.1 (List.mem_append_right _ h2)); exact ⟨.inl q1, q2⟩
  · rintro ⟨h1 | h1, h2⟩
    · rcases List.mem_append.1 (hold.2 ((hQ x).2 ⟨h1, h2⟩)) with h3 | h3
      · exact List.mem_append_left _ h3
      · exact List.mem_append_right _ (List.mem_cons_of_mem _ h3)
    · refine List.mem_append_right _ (List.mem_cons.2 (.inl ?_))
      obtain ⟨x1, x2⟩ := x
      simp only at h1 h2
      rw [h1, h2]
/-- Where there is room one more comes, puts nobody out, and is pinned. -/
theorem fill_one {c : ClkN} {P : KeyN → Prop} {n : Nat} {k : KeyN} (hg : Good c) (h : AllOne c P n) (hk : ¬ P k) (hn : (n : Int) < c.most) :
    (admitK c k).2.2 = true ∧ (admitK c k).2.1 = [] ∧ (admitK c k).1.most = c.most ∧ Good (admitK c k).1 ∧ (pinK (admitK c k).1 k 1).2 = true ∧ Good (pinK (admitK c k).1 k 1).1 ∧ (pinK (admitK c k).1 k 1).1.most = c.most ∧
      AllOne (pinK (admitK c k).1 k 1).1 (fun x => P x ∨ x = k) (n + 1) := by
  have ha := admit_room (k := k) hg (by rw [h.cnt hg]; exact hn)
  have hc := admit_yes hg ha
  have ho := hc.none_ (by rw [h.cnt hg]; exact hn)
  have hno : ∀ x ∈ resL c.ps, x.1 ≠ k := fun x hx e => hk (by rw [← e]; exact ((h.mem x).1 hx).1)
  have hm : ∀ x, x ∈ resL (admitK c k).1.ps ↔ x ∈ resL c.ps ∨ x = (k, 0) := fun x => by
    constructor
    · exact hc.from_ x
    · rintro (h1 | h1)
      · exact hc.kept x h1 (by rw [ho]; exact List.not_mem_nil)
      · obtain ⟨p, hp, hpk, hpr⟩ := hc.here
        have h2 : (k, p.pins) ∈ resL (admitK c k).1.ps := res_mem.2 ⟨p, hp, hpr, by rw [hpk]⟩
        rcases hc.from_ _ h2 with h3 | h3
        · exact absurd rfl (hno _ h3)
        · rw [h1, ← h3]; exact h2
  have hl : (resL (admitK c k).1.ps).length = n + 1 := by
    have hp : (resL (admitK c k).1.ps).Perm ((k, 0) :: resL c.ps) := (List.perm_ext_iff_of_nodup (res_dup hc.good) (List.nodup_cons.2 ⟨fun hx => hno _ hx rfl, res_dup hg⟩)).2 (fun x => by rw [hm x, List.mem_cons]; exact Or.comm)
    rw [hp.length_eq, List.length_cons, h.len]
  obtain ⟨t1, t2, t3, t4⟩ := one_more hc.good hm hno h.mem hl
  exact ⟨ha, ho, hc.most, hc.good, t1, t2, t3.trans hc.most, t4⟩
/-- Where all have a pin nobody comes; one that loses its pin makes room for one. -/
theorem swap_one {c : ClkN} {P : KeyN → Prop} {n : Nat} {k i : KeyN} (hg : Good c) (h : AllOne c P n) (hn : (n : Int) = c.most) (hk : ¬ P k) (hi : P i) :
    (admitK c k).2.2 = false ∧ resAt c i = true ∧ pinsC c i = 1 ∧ (pinK c i (-1)).2 = true ∧ Good (pinK c i (-1)).1 ∧
      ∃ d, admitK (pinK c i (-1)).1 k = (d, [i], true) ∧ Good d ∧ (pinK d k 1).2 = true ∧ Good (pinK d k 1).1 ∧ (pinK d k 1).1.most = c.most ∧ AllOne (pinK d k 1).1 (fun x => (P x ∧ x ≠ i) ∨ x = k) n := by
  have hmi : (i, (1 : Int)) ∈ resL c.ps := (h.mem _).2 ⟨hi, rfl⟩
  have hik : i ≠ k := fun e => hk (by rw [← e]; exact hi)
  have hfull := admit_full (h.not_ hg hk) (by rw [h.cnt hg, ← hn]; exact Int.le_refl _) h.free
  obtain ⟨g1, g2, _⟩ := pin_is hg i (-1)
  obtain ⟨L1, L2, e1, e2, e3, e4⟩ := pin_split hg hmi (-1)
  have hmx : max ((1 : Int) + -1) 0 = 0 := by omega
  rw [hmx] at e2
  obtain ⟨u, hu⟩ : ∃ u, (pinK c i (-1)).1 = u := ⟨_, rfl⟩
  rw [hu] at g1 g2 e2
  have humem : ∀ x, x ∈ resL u.ps ↔ ((P x.1 ∧ x.1 ≠ i) ∧ x.2 = 1) ∨ x = (i, 0) := fun x => by
    have hold : x ∈ L1 ++ L2 ↔ (P x.1 ∧ x.1 ≠ i) ∧ x.2 = 1 := by
      constructor
      · intro hx
        have h1 : x ∈ resL c.ps := by
          rw [e1]
          rcases List.mem_append.1 hx with hx | hx
          · exact List.mem_append_left _ hx
          · exact List.mem_append_right _ (List.mem_cons_of_mem _ hx)
        obtain ⟨q1, q2⟩ := (h.mem x).1 h1
        exact ⟨⟨q1, e4 x hx⟩, q2⟩
      · rintro ⟨⟨q1, q2⟩, q3⟩
        have h1 := (h.mem x).2 ⟨q1, q3⟩
        rw [e1] at h1
        rcases List.mem_append.1 h1 with h2 | h2
        · exact List.mem_append_left _ h2
        rcases List.mem_cons.1 h2 with h3 | h3
        · exact absurd (by rw [h3]) q2
        · exact List.mem_append_right _ h3
    rw [e2, ← hold]
    simp only [List.mem_append, List.mem_cons]
    constructor
    · rintro (h1 | h1 | h1)
      · exact .inl (.inl h1)
      · exact .inr h1
      · exact .inl (.inr h1)
    · rintro ((h1 | h1) | h1)
      · exact .inl h1
      · exact .inr (.inr h1)
      · exact .inr (.inl h1)
  have hul : (resL u.ps).length = n := by
    rw [e2, ← h.len, e1]
    simp
  have hcu : cntK 1 u.ps + cntK 2 u.ps = n := by rw [← res_len g1.base.pgs.1, hul]
  have hukn : ∀ x ∈ resL u.ps, x.1 ≠ k := fun x hx e => by
    rcases (humem x).1 hx with h1 | h1
    · exact hk (by rw [← e]; exact h1.1.1)
    · rw [h1] at e; exact hik e
  have hfree : u.ps.any isFree = true := by
    rw [free_res, List.any_eq_true]
    exact ⟨(i, 0), (humem _).2 (.inr rfl), rfl⟩
  have ha := admit_free (k := k) g1 hfree
  have hc := admit_yes g1 ha
  have h1 := hc.full (fun p hp hpk => by
    cases hr : p.resi with
    | false => rfl
    | true => exact absurd hpk (hukn _ (res_mem.2 ⟨p, hp, hr, rfl⟩))) (by rw [hcu, g2, hn])
  obtain ⟨o, ho⟩ := List.length_eq_one_iff.1 h1
  have hoi : o = i := by
    have hz := (hc.gone o (by rw [ho]; exact List.mem_singleton.2 rfl)).1
    rcases (humem _).1 hz with h2 | h2
    · exact absurd (show (0 : Int) = 1 from h2.2) (by decide)
    · injection h2
  rw [hoi] at ho
  have hm : ∀ x, x ∈ resL (admitK u k).1.ps ↔ ((P x.1 ∧ x.1 ≠ i) ∧ x.2 = 1) ∨ x = (k, 0) := fun x => by
    constructor
    · intro hx
      rcases hc.from_ x hx with h2 | h2
      · rcases (humem x).1 h2 with h3 | h3
        · exact .inl h3
        · rw [h3] at hx
          exact absurd hx ((hc.gone i (by rw [ho]; exact List.mem_singleton.2 rfl)).2 0)
      · exact .inr h2
    · rintro (h2 | h2)
      · exact hc.kept x ((humem x).2 (.inl h2)) (by rw [ho]; intro e; exact h2.1.2 (List.mem_singleton.1 e))
      · obtain ⟨p, hp, hpk, hpr⟩ := hc.here
        have h3 : (k, p.pins) ∈ resL (admitK u k).1.ps := res_mem.2 ⟨p, hp, hpr, by rw [hpk]⟩
        rcases hc.from_ _ h3 with h4 | h4
        · exact absurd rfl (hukn _ h4)
        · rw [h2, ← h4]; exact h3
  obtain ⟨b1, b2, _⟩ := pin_is hc.good k 1
  obtain ⟨M1, M2, f1, f2, f3, f4⟩ := pin_split hc.good ((hm (k, 0)).2 (.inr rfl)) 1
  have hmx2 : max ((0 : Int) + 1) 0 = 1 := by omega
  rw [hmx2] at f2
  have hl : (resL (admitK u k).1.ps).length = n := by
    have hp : ((k, (0 : Int)) :: (L1 ++ L2)).Perm (resL (admitK u k).1.ps) := (List.perm_ext_iff_of_nodup (by
      have hd := res_dup g1
      rw [e2, List.nodup_append, List.nodup_cons] at hd
      refine List.nodup_cons.2 ⟨fun hx => ?_, List.nodup_append.2 ⟨hd.1, hd.2.1.2, fun a ha b hb => hd.2.2 a ha b (List.mem_cons_of_mem _ hb)⟩⟩
      refine hukn (k, 0) ?_ rfl
      rw [e2]
      rcases List.mem_append.1 hx with hx | hx
      · exact List.mem_append_left _ hx
      · exact List.mem_append_right _ (List.mem_cons_of_mem _ hx)) (res_dup hc.good)).2 (fun x => by
      rw [hm x, List.mem_cons]
      have hh := humem x
      have e4x := e4 x
      rw [e2] at hh
      simp only [List.mem_append, List.mem_cons] at hh e4x ⊢
      constructor
      · rintro (h2 | h2)
        · exact .inr h2
        · rcases hh.1 (h2.elim .inl (fun h3 => .inr (.inr h3))) with h3 | h3
          · exact .inl h3
          · exact absurd (by rw [h3]) (e4x h2)
      · rintro (h2 | h2)
        · rcases hh.2 (.inl h2) with h3 | h3 | h3
          · exact .inr (.inl h3)
          · exact absurd (by rw [h3]) h2.1.2
          · exact .inr (.inr h3)
        · exact .inl h2)
    rw [← hp.length_eq, ← hul, e2]
    simp
    omega
  rw [hu]
  refine ⟨by rw [hfull], (resAt_res hg.base i).2 ⟨1, hmi⟩, pins_res hg hmi, e3, g1, (admitK u k).1, by rw [← ho, ← ha], hc.good, f3, b1, b2.trans (hc.most.trans g2), fun x => ?_, by rw [f2, ← hl, f1]; simp⟩
  have hx := hm x
  have f4x := f4 x
  rw [f1] at hx
  rw [f2]
  simp only [List.mem_append, List.mem_cons] at hx f4x ⊢
  constructor
  · rintro (h2 | h2 | h2)
    · rcases hx.1 (.inl h2) with h3 | h3
      · exact ⟨.inl h3.1, h3.2⟩
      · exact absurd (by rw [h3]) (f4x (.inl h2))
    · rw [h2]; exact ⟨.inr rfl, rfl⟩
    · rcases hx.1 (.inr (.inr h2)) with h3 | h3
      · exact ⟨.inl h3.1, h3.2⟩
      · exact absurd (by rw [h3]) (f4x (.inr h2))
  · rintro ⟨h2 | h2, h3⟩
    · rcases hx.2 (.inl ⟨h2, h3⟩) with h4 | h4 | h4
      · exact .inl h4
      · rw [h4] at h3; exact absurd (show (0 : Int) = 1 from h3) (by decide)
      · exact .inr (.inr h4)
    · refine .inr (.inl ?_)
      obtain ⟨x1, x2⟩ := x
      simp only at h2 h3
      rw [h2, h3]
end Go.Proofs.Ytcoajldhhimmoaa

/- How many frames there are behind a put, and behind a drop. -/
namespace Go.Proofs.Ytcoajldhhimmoaa

theorem res_one {c : ClkN} (h : Good c) {k : KeyN} {n m : Int} (h1 : (k, n) ∈ resL c.ps) (h2 : (k, m) ∈ resL c.ps) : n = m := by
  obtain ⟨i, p, hf, hp, _, hpn⟩ := res_found h h1
  obtain ⟨i', p', hf', hp', _, hpn'⟩ := res_found h h2
  simp only at hf hf' hpn hpn'
  rw [hf] at hf'
  injection hf' with e
  subst e
  rw [hp] at hp'
  injection hp' with e
  subst e
  rw [← hpn, hpn']
theorem put_frames {c : CacN} {k : KeyN} {l : List (Int × Nat)} (h : GoodC c) (e : (putC c k l).2 = true) :
    framesC (putC c k l).1 + (admitK c.clk k).2.1.length = framesC c + (if resAt c.clk k then 0 else 1) := by
  obtain ⟨e1, hc, _⟩ := put_yes h e
  have hclk : (putC c k l).1.clk = (admitK c.clk k).1 := by rw [e1]
  rw [hclk] at hc
  have f1 : framesC (putC c k l).1 = (resL (admitK c.clk k).1.ps).length := by
    show cntK 1 (putC c k l).1.clk.ps + cntK 2 (putC c k l).1.clk.ps = _
    rw [hclk, res_len hc.good.base.pgs.1]
  have f2 : framesC c = (resL c.clk.ps).length := (res_len h.clk.base.pgs.1).symm
  rw [f1, f2]
  by_cases hr : resAt c.clk k = true
  · rw [if_pos hr]
    obtain ⟨t1, t2, _, t3, _⟩ := touch_is h.clk k
    have ea : admitK c.clk k = ((touchK c.clk k).1, [], (touchK c.clk k).2) := by unfold admitK; rw [if_pos hr]
    rw [ea]
    simp only [List.length_nil]
    rw [t3]
  · rw [if_neg hr]
    have hno : ∀ x ∈ resL c.clk.ps, x.1 ≠ k := fun x hx ex => hr ((resAt_res h.clk.base k).2 ⟨x.2, by rw [← ex]; exact hx⟩)
    have hk0 : (k, (0 : Int)) ∈ resL (admitK c.clk k).1.ps := by
      obtain ⟨p, hp, hpk, hpr⟩ := hc.here
      have h2 : (k, p.pins) ∈ resL (admitK c.clk k).1.ps := res_mem.2 ⟨p, hp, hpr, by rw [hpk]⟩
      rcases hc.from_ _ h2 with h3 | h3
      · exact absurd rfl (hno _ h3)
      · rw [← h3]; exact h2
    have hnd : ((k, (0 : Int)) :: resL c.clk.ps).Nodup := List.nodup_cons.2 ⟨fun hx => hno _ hx rfl, res_dup h.clk⟩
    have ho := hc.one
    match hout : (admitK c.clk k).2.1, ho with
    | [], _ =>
      have hp : (resL (admitK c.clk k).1.ps).Perm ((k, 0) :: resL c.clk.ps) := (List.perm_ext_iff_of_nodup (res_dup hc.good) hnd).2 (fun x => by
        rw [List.mem_cons]
        constructor
        · intro hx; exact (hc.from_ x hx).symm
        · rintro (hx | hx)
          · rw [hx]; exact hk0
          · exact hc.kept x hx (by rw [hout]; exact List.not_mem_nil))
      rw [hp.length_eq]
      simp
    | [o], _ =>
      have hgo := hc.gone o (by rw [hout]; exact List.mem_singleton.2 rfl)
      have hp : ((o, (0 : Int)) :: resL (admitK c.clk k).1.ps).Perm ((k, 0) :: resL c.clk.ps) := (List.perm_ext_iff_of_nodup (List.nodup_cons.2 ⟨hgo.2 0, res_dup hc.good⟩) hnd).2 (fun x => by
        rw [List.mem_cons, List.mem_cons]
        constructor
        · rintro (hx | hx)
          · rw [hx]; exact .inr hgo.1
          · exact (hc.from_ x hx).symm
        · rintro (hx | hx)
          · rw [hx]; exact .inr hk0
          · by_cases hxo : x.1 = o
            · obtain ⟨x1, x2⟩ := x
              simp only at hxo
              subst hxo
              exact .inl (by rw [res_one h.clk hx hgo.1])
            · exact .inr (hc.kept x hx (by rw [hout]; intro ex; exact hxo (List.mem_singleton.1 ex))))
      have := hp.length_eq
      simp only [List.length_cons, List.length_nil] at this ⊢
      omega
    | _ :: _ :: _, hl => exact absurd hl (by simp)
/-- Who is put out was resident; and is not k. -/
theorem put_outs {c : CacN} {k : KeyN} {l : List (Int × Nat)} (h : GoodC c) (e : (putC c k l).2 = true) : (admitK c.clk k).2.1.length ≤ 1 ∧ ∀ o ∈ (admitK c.clk k).2.1, resAt c.clk o = true ∧ o ≠ k := by
  obtain ⟨e1, hc, _⟩ := put_yes h e
  have hclk : (putC c k l).1.clk = (admitK c.clk k).1 := by rw [e1]
  rw [hclk] at hc
  refine ⟨hc.one, fun o ho => ⟨(resAt_res h.clk.base o).2 ⟨0, (hc.gone o ho).1⟩, fun ek => ?_⟩⟩
  obtain ⟨p, hp, hpk, hpr⟩ := hc.here
  refine (hc.gone o ho).2 p.pins ?_
  rw [ek]
  exact res_mem.2 ⟨p, hp, hpr, by rw [hpk]⟩
theorem drop_frames {c : CacN} {k : KeyN} (h : GoodC c) (e : (dropC c k).2 = true) : framesC (dropC c k).1 + (if resAt c.clk k then 1 else 0) = framesC c := by
  have hg := (dropC_good h k).1
  unfold dropC at e hg ⊢
  by_cases hd : (findK k c.clk.ps).isSome ∧ pinsC c.clk k = 0
  · rw [if_pos hd] at hg ⊢
    obtain ⟨i, hf⟩ := Option.isSome_iff_exists.1 hd.1
    obtain ⟨p, hp, hk⟩ := findK_some hf
    have e1 : (dropK c.clk k).1 = goesK c.clk i := by unfold dropK; rw [hf]
    obtain ⟨A, B, es, rfl⟩ := split_at hp
    have e2 : (goesK c.clk A.length).ps = A ++ B := by show strikeK c.clk.ps A.length = _; rw [es, strike_split]
    have hr : resAt c.clk k = p.resi := by unfold resAt; rw [hf]; simp only [hp]
    show cntK 1 (dropK c.clk k).1.ps + cntK 2 (dropK c.clk k).1.ps + _ = cntK 1 c.clk.ps + cntK 2 c.clk.ps
    have hg' : Good (dropK c.clk k).1 := hg.clk
    rw [← res_len hg'.base.pgs.1, ← res_len h.clk.base.pgs.1, e1, e2, es, resL_app, resL_app, resL_cons, hr]
    cases p.resi <;> simp
    omega
  · rw [if_neg hd] at e
    cases e
end Go.Proofs.Ytcoajldhhimmoaa

/- The clock's scripts: a name of a number, one step of a script, a clock that a script led somewhere; the rows of small scripts. -/
namespace Go.Proofs.Ytcoajldhhimmoaa

def keyN (n : Int) : KeyN := ⟨n % 2, n / 2 % 2, n / 4 % 8⟩
/-- How many pages there are at most: as many as may be, and as many on trial. -/
theorem Good.len {c : ClkN} (h : Good c) : c.ps.length ≤ 2000 := by
  have : ∀ ps : List PagN, (∀ p ∈ ps, OkP p) → ps.length = cntK 1 ps + cntK 2 ps + cntK 3 ps := by
    intro ps
    induction ps with
    | nil => intro _; rfl
    | cons p ps ih =>
      intro hp
      have h1 := ih (fun q hq => hp q (List.mem_cons_of_mem _ hq))
      have h2 := (hp p (List.mem_cons_self ..)).1
      unfold cntK at h1 ⊢
      simp only [List.length_cons, List.countP_cons]
      rcases h2 with e | e | e <;> simp [e] <;> omega
  have e := this c.ps h.base.pgs.1
  have h1 := h.room
  have h2 := h.trial
  have h3 := h.base.most
  omega
/-! The rows of small scripts: letters are names, a small one comes, a great one is touched. -/
end Go.Proofs.Ytcoajldhhimmoaa

/- What one call of a script keeps: pins in their bounds; who has pins stays. -/
namespace Go.Proofs.Ytcoajldhhimmoaa

/-- No page has more pins. -/
def PinsLe (m : Int) (c : ClkN) : Prop := ∀ p ∈ c.ps, p.pins ≤ m
theorem PinsLe.mono {m m' : Int} {c : ClkN} (h : PinsLe m c) (hm : m ≤ m') : PinsLe m' c := fun p hp => by have := h p hp; omega
theorem pinsLe_new (most : Int) : PinsLe 0 (newK most) := fun p hp => by cases hp
theorem pinsLe_res {m : Int} {c : ClkN} (hg : BaseK c) (h0 : 0 ≤ m) : PinsLe m c ↔ ∀ x ∈ resL c.ps, x.2 ≤ m := by
  constructor
  · intro h x hx
    obtain ⟨p, hp, _, rfl⟩ := res_mem.1 hx
    exact h p hp
  · intro h p hp
    have hok := hg.pgs.1 p hp
    by_cases hr : p.resi = true
    · exact h _ (res_mem.2 ⟨p, hp, hr, rfl⟩)
    · have h3 := (not_congr (resi_of hok)).1 hr
      have h3 : p.kind = 3 := by simpa using h3
      rw [hok.2.2 h3]
      exact h0
/-- What one step keeps: who has pins, and another name than k, stays so; who was put out is not resident. -/
structure StepOk (c c' : ClkN) (k : KeyN) (out : List KeyN) : Prop where
  good : Good c'
  most : c'.most = c.most
  stay : ∀ x ∈ resL c.ps, x.2 ≠ 0 → x.1 ≠ k → x ∈ resL c'.ps
  gone : ∀ x ∈ out, ∀ i p, findK x c'.ps = some i → c'.ps[i]? = some p → p.kind = 3
  few : out.length ≤ 1
theorem pins_touch {c : ClkN} {k : KeyN} {m : Int} (h : Good c) (hp : PinsLe m c) (h0 : 0 ≤ m) : PinsLe m (touchK c k).1 := by
  obtain ⟨h1, _, _, h4, _⟩ := touch_is h k
  rw [pinsLe_res h1.base h0, h4, ← pinsLe_res h.base h0]
  exact hp
theorem pins_admit {c : ClkN} {k : KeyN} {m : Int} (h : Good c) (hp : PinsLe m c) (h0 : 0 ≤ m) : PinsLe m (admitK c k).1 := by
  cases e : (admitK c k).2.2 with
  | false => rw [(admit_no h e).1]; exact hp
  | true =>
    have hc := admit_yes h e
    rw [pinsLe_res hc.good.base h0]
    intro x hx
    rcases hc.from_ x hx with h1 | h1
    · exact (pinsLe_res h.base h0).1 hp x h1
    · rw [h1]; exact h0
theorem pins_pin {c : ClkN} {k : KeyN} {m n d : Int} (_h : Good c) (hp : PinsLe m c) (h0 : 0 ≤ m) (hn : n ≤ d) (hd : 0 ≤ d) : PinsLe (m + d) (pinK c k n).1 := by
  have hm : PinsLe (m + d) c := hp.mono (by omega)
  unfold pinK
  cases hf : findK k c.ps with
  | none => exact hm
  | some i =>
    obtain ⟨p, hpp, _⟩ := findK_some hf
    simp only [hpp]
    by_cases hr : p.resi = true
    · rw [if_pos hr]
      intro q hq
      rcases List.mem_or_eq_of_mem_set hq with h1 | h1
      · exact hm q h1
      · have h2 := hp p (List.mem_of_getElem? hpp)
        rw [h1]
        show max (p.pins + n) 0 ≤ m + d
        omega
    · rw [if_neg hr]
      exact hm
theorem pins_drop {c : ClkN} {k : KeyN} {m : Int} (hp : PinsLe m c) : PinsLe m (dropK c k).1 := by
  unfold dropK
  cases hf : findK k c.ps with
  | none => exact hp
  | some i =>
    intro q hq
    have hq : q ∈ strikeK c.ps i := hq
    unfold strikeK at hq
    rcases List.mem_append.1 hq with h1 | h1
    · exact hp q (List.mem_of_mem_take h1)
    · exact hp q (List.mem_of_mem_drop h1)
/-- Who is there stands where it is looked for. -/
theorem Good.place {c : ClkN} (h : Good c) {i : Nat} {p : PagN} (hp : c.ps[i]? = some p) : findK p.key c.ps = some i := findK_at h.base.pgs.2 hp rfl
end Go.Proofs.Ytcoajldhhimmoaa

/- Rows in memory: what a slice reads as; a row of the call's own; append, make and copy, and string(b) on such. -/
namespace Go.Proofs.Ytcoajldhhimmoaa
open Go.RowKit

theorem add_add (a : Addr) (i j : Nat) : (a.add i).add j = a.add (i + j) := by
  unfold Addr.add
  by_cases hi : i = 0 <;> by_cases hj : j = 0 <;> simp [hi, hj, Nat.add_assoc]

/-- The slice at A, n long, reads as xs, below block B. -/
def Rds (w : World) (B : Nat) (A : Option Addr) (n : Nat) (xs : List Value) : Prop :=
  xs.length = n ∧ (0 < n → ∃ ad, A = some ad ∧ ad.block < B ∧ ∀ j u, xs[j]? = some u → w.cell? (ad.add j) = some u)
section
variable {w w' : World} {B B' n : Nat} {A : Option Addr} {xs : List Value}
theorem Rds.nil (w : World) (B : Nat) (A : Option Addr) : Rds w B A 0 [] := ⟨rfl, fun h => absurd h (by omega)⟩
theorem Rds.at_ {k : Nat} (h : Rds w B A n xs) (hk : k < n) : ∃ ad u, A = some ad ∧ ad.block < B ∧ xs[k]? = some u ∧ w.cell? (ad.add k) = some u := by
  obtain ⟨ad, e, hb, hc⟩ := h.2 (by omega)
  have hl : k < xs.length := by have := h.1; omega
  exact ⟨ad, xs[k], e, hb, List.getElem?_eq_getElem hl, hc k _ (List.getElem?_eq_getElem hl)⟩
theorem Rds.keep (h : Rds w B A n xs) (hk : ∀ p : Addr, p.block < B → w'.cell? p = w.cell? p) : Rds w' B A n xs :=
  ⟨h.1, fun hn => by
    obtain ⟨ad, e, hb, hc⟩ := h.2 hn
    exact ⟨ad, e, hb, fun j u hu => (hk _ (by rw [add_block]; exact hb)).trans (hc j u hu)⟩⟩
theorem Rds.more (h : Rds w B A n xs) (hB : B ≤ B') : Rds w B' A n xs :=
  ⟨h.1, fun hn => by
    obtain ⟨ad, e, hb, hc⟩ := h.2 hn
    exact ⟨ad, e, by omega, hc⟩⟩
theorem Rds.below (h : Rds w B A n xs) (hb : Below B w w') : Rds w' B A n xs := h.keep fun _ hp => hb.cell hp
theorem Rds.drew (h : Rds w B A n xs) : Rds w.drew B A n xs := h
theorem Rds.alloc (h : Rds w B A n xs) (hB : B ≤ w.heap.size) (o : Obj) : Rds (w.alloc o) B A n xs := h.keep fun p hp => World.cell?_alloc_lt w o p (by omega)
theorem Rds.setCell (h : Rds w B A n xs) {p : Addr} (hB : B ≤ p.block) (u : Value) : Rds (w.setCell p u) B A n xs :=
  h.keep fun q hq => World.cell?_setCell_other w p q u (fun e => by subst e; omega)
theorem Rds.fit (h : Rds w B A n xs) : Rds w w.heap.size A n xs :=
  ⟨h.1, fun hn => by
    obtain ⟨ad, e, _, hc⟩ := h.2 hn
    refine ⟨ad, e, ?_, hc⟩
    have hl : 0 < xs.length := by have := h.1; omega
    have := World.block_lt_of_cell? w _ (hc 0 _ (List.getElem?_eq_getElem hl))
    rwa [add_block] at this⟩
/-- s[:k] -/
theorem Rds.take (h : Rds w B A n xs) {k : Nat} (hk : k ≤ n) : Rds w B A k (xs.take k) :=
  ⟨by rw [List.length_take, h.1]; omega, fun hn => by
    obtain ⟨ad, e, hb, hc⟩ := h.2 (by omega)
    refine ⟨ad, e, hb, fun j u hu => hc j u ?_⟩
    rw [List.getElem?_take] at hu
    split at hu
    · exact hu
    · cases hu⟩
/-- s[k:] -/
theorem Rds.drop (h : Rds w B A n xs) {k cap : Nat} (hk : k ≤ n) (hc : n ≤ cap) : Rds w B (if cap = k then A else A.map (·.add k)) (n - k) (xs.drop k) := by
  refine ⟨by rw [List.length_drop, h.1], fun hn => ?_⟩
  obtain ⟨ad, rfl, hb, hcell⟩ := h.2 (by omega)
  rw [if_neg (by omega)]
  refine ⟨ad.add k, rfl, by rw [add_block]; exact hb, fun j u hu => ?_⟩
  rw [add_add]
  exact hcell _ u (by rw [← hu, List.getElem?_drop])
theorem Rds.of_own {base : Nat} {e : TypeId} {c : Nat} (h : w.ownsRow base e 1 (.slice A n c) n xs) : Rds w w.heap.size A n xs := by
  refine ⟨by simpa using h.1, fun hn => ?_⟩
  obtain ⟨g, cap, hv, _, hlt⟩ := h.form hn
  have hA : A = some ⟨g, 0, none⟩ := by injection hv
  subst hA
  exact ⟨_, rfl, hlt, h.cells (g := g) rfl⟩
/-- A slice literal's block. -/
theorem Rds.lit (w : World) (t : TypeId) (cs : Array Value) : Rds (w.alloc (.cells cs t)) (w.heap.size + 1) (some ⟨w.heap.size, 0, none⟩) cs.size cs.toList := by
  refine ⟨by simp, fun hn => ⟨_, rfl, by simp, fun j u hu => ?_⟩⟩
  rw [add_addr, Nat.zero_add, (Blk.new w t cs).cell j]
  simpa using hu
end

/-- A row of the call's own: all that it has lies from block B on. -/
def Own (B : Nat) (w : World) (e : TypeId) (v : Value) (xs : List Value) : Prop := w.ownsRow B e 1 v xs.length xs
section
variable {w w' : World} {B B' : Nat} {e : TypeId} {v : Value} {xs : List Value}
theorem Own.nil (B : Nat) (w : World) (e : TypeId) : Own B w e (.slice none 0 0) [] := World.ownsRow_nil _ _ _ _
theorem Own.below (h : Own B w e v xs) (hb : Below w.heap.size w w') : Own B w' e v xs := by
  refine ⟨h.1, ?_⟩
  rcases h.2 with hn | ⟨g, cap, cur, rfl, hB, hgg, rest⟩
  · exact .inl hn
  · refine .inr ⟨g, cap, cur, rfl, hB, ?_, rest⟩
    rw [hb.block g (Array.getElem?_eq_some_iff.1 hgg).1]
    exact hgg
theorem Own.drew (h : Own B w e v xs) : Own B w.drew e v xs := h
theorem Own.alloc (h : Own B w e v xs) (o : Obj) : Own B (w.alloc o) e v xs := World.ownsRow.alloc h o
theorem Own.mono (h : Own B w e v xs) (hB : B' ≤ B) : Own B' w e v xs := by
  refine ⟨h.1, ?_⟩
  rcases h.2 with hn | ⟨g, cap, cur, rfl, hb, rest⟩
  · exact .inl hn
  · exact .inr ⟨g, cap, cur, rfl, by omega, rest⟩
/-- What its value looks like. -/
theorem Own.form (h : Own B w e v xs) : ∃ A c, v = .slice A xs.length c ∧ (A = none → c = 0) ∧ xs.length ≤ c ∧ c ≤ maxLen ∧ Rds w w.heap.size A xs.length xs := by
  have h' := h
  rcases h.2 with ⟨rfl, h0⟩ | ⟨g, cap, cur, rfl, hB, hgg, hnc, hcm, _⟩
  · exact ⟨none, 0, by rw [h0], fun _ => rfl, by omega, Nat.zero_le _, by rw [h0, List.eq_nil_of_length_eq_zero h0]; exact Rds.nil _ _ _⟩
  · exact ⟨_, cap, rfl, (fun h => by cases h), hnc, hcm, Rds.of_own h'⟩
theorem Own.block (h : Own B w e v xs) : ∀ k, v.ownBlock = some k → B ≤ k ∧ k < w.heap.size := World.ownsRow.lt h
/-- A slice literal. -/
theorem Own.lit (w : World) (e : TypeId) (cs : Array Value) (hm : cs.size ≤ maxLen) : Own w.heap.size (w.alloc (.cells cs e)) e (.slice (some ⟨w.heap.size, 0, none⟩) cs.size cs.size) cs.toList := by
  refine ⟨by simp, .inr ⟨w.heap.size, cs.size, cs, by simp, Nat.le_refl _, Blk.new w e cs, by simp, hm, by simp, ?_⟩⟩
  rw [List.take_of_length_le (by simp)]
end

/-- A slice type's element: its row of the table. -/
def Elt (P : Program) (t e : TypeId) (z : Value) (bytes : Nat) : Prop := P.underlying t = some (.slice e) ∧ (∃ i, P.info? e = some i ∧ i.zero = some z ∧ i.size = 1 ∧ i.bytes = bytes) ∧ z.cells.size = 1
theorem Elt.mk {P : Program} {t e : TypeId} {z : Value} {bytes : Nat} (h1 : P.underlying t = some (.slice e)) (h2 : (P.info? e).map (fun i => (i.zero, i.size, i.bytes)) = some (some z, 1, bytes)) (h3 : z.cells.size = 1) : Elt P t e z bytes :=
  ⟨h1, info_parts h2, h3⟩

section
variable {P : Program} {w : World}
end

section
variable {P : Program} {w : World}
end
end Go.Proofs.Ytcoajldhhimmoaa

/- Rows in memory, for regions that draw their order: facts that are carried over whatever was done between. -/
namespace Go.Proofs.Ytcoajldhhimmoaa
open Go.RowKit

/-- Block H begins with these cells. -/
def Has (w : World) (H : Nat) (xs : List Value) : Prop := ∀ j u, xs[j]? = some u → w.cell? ⟨H, j, none⟩ = some u
section
variable {w w' : World} {H B : Nat} {xs : List Value} {e : TypeId} {v v' : Value}
theorem Has.drew (h : Has w H xs) : Has w.drew H xs := h
theorem Has.alloc (h : Has w H xs) (o : Obj) : Has (w.alloc o) H xs := fun j u hu => by
  have hc := h j u hu
  rw [World.cell?_alloc_lt w o _ (World.block_lt_of_cell? w _ hc)]
  exact hc
theorem Has.below (h : Has w H xs) (hb : Below w.heap.size w w') : Has w' H xs := fun j u hu => by
  have hc := h j u hu
  rw [hb.cell (p := ⟨H, j, none⟩) (World.block_lt_of_cell? w _ hc)]
  exact hc
/-- Behind an append onto another row. -/
theorem Has.far {row : Option Nat} (h : Has w H xs) (hg : w.grownBy w' row) (hne : row ≠ some H) : Has w' H xs := fun j u hu => hg.cell (h j u hu) (fun e => hne e.symm)
theorem Has.rds (h : Has w H xs) : Rds w w.heap.size (some ⟨H, 0, none⟩) xs.length xs := by
  refine Rds.fit (B := H + 1) ⟨rfl, fun _ => ⟨_, rfl, Nat.lt_succ_self _, fun j u hu => ?_⟩⟩
  rw [add_addr, Nat.zero_add]
  exact h j u hu
theorem Own.far {row : Option Nat} (h : Own B w e v xs) (hg : w.grownBy w' row) (hne : row ≠ v.ownBlock) : Own B w' e v xs :=
  World.ownsRow.kept h hg (Or.inr (fun e => hne e.symm))
end

section
variable {P : Program} {w : World}
end
end Go.Proofs.Ytcoajldhhimmoaa

/- Rows carried over what was done; a row of the call's own that is not empty. -/
namespace Go.Proofs.Ytcoajldhhimmoaa
open Go.RowKit

theorem Rds.mod {w w' : World} {B n : Nat} {A : Option Addr} {xs : List Value} {S : Nat → Prop} (h : Rds w B A n xs) (hm : Mod S w w') (hB : B ≤ w.heap.size) (hS : ∀ j, j < B → ¬ S j) : Rds w' B A n xs :=
  h.keep fun _ hp => hm.cell (Nat.lt_of_lt_of_le hp hB) (hS _ hp)
theorem Rds.new {w w' : World} {B n : Nat} {A : Option Addr} {xs : List Value} (h : Rds w B A n xs) (hm : Mod (fun _ => False) w w') : Rds w' w.heap.size A n xs :=
  h.fit.mod hm (Nat.le_refl _) (fun _ _ h => h)
/-- A row of the call's own that is not empty: where it lies; its cells. -/
theorem Own.form' {B : Nat} {w : World} {e : TypeId} {v : Value} {xs : List Value} (h : Own B w e v xs) (hn : 0 < xs.length) : ∃ g cap, v = .slice (some ⟨g, 0, none⟩) xs.length cap ∧ B ≤ g ∧ g < w.heap.size := World.ownsRow.form h hn
theorem Own.cell' {B g cap n : Nat} {w : World} {e : TypeId} {v : Value} {xs : List Value} (h : Own B w e v xs) (hv : v = .slice (some ⟨g, 0, none⟩) n cap) (j : Nat) (hj : j < xs.length) : w.cell? ⟨g, j, none⟩ = xs[j]? := by
  subst hv
  rcases h.2 with ⟨h1, _⟩ | ⟨g', cap', cur, h1, _⟩
  · cases h1
  · injection h1 with h1 h2 h3
    subst h2
    exact World.ownsRow.cellAt h j (by omega)
theorem Own.mod {B : Nat} {w w' : World} {e : TypeId} {v : Value} {xs : List Value} (h : Own B w e v xs) (hm : Mod (fun _ => False) w w') : Own B w' e v xs := hm.owns h (fun _ _ h => h)
/-- A block of other cells stands behind an append as it was. -/
theorem Blk.app {B g : Nat} {w w' : World} {e t : TypeId} {v : Value} {xs : List Value} {cs : Array Value} (h : Blk w g t cs) (ho : Own B w e v xs) (hne : e ≠ t) (hg : w.grownBy w' v.ownBlock) : Blk w' g t cs := h.grown hg (fun e' => own_blk_ne ho h hne e'.symm)
end Go.Proofs.Ytcoajldhhimmoaa

/- Rows of elements of K cells each, of whatever type: what a slice reads as; a row of the call's own; append; one cell of one element read and written. -/
namespace Go.Proofs.Ytcoajldhhimmoaa
open Go.RowKit

/-- Each element has K cells. -/
def AllK (K : Nat) (rows : List (List Value)) : Prop := ∀ r ∈ rows, r.length = K
theorem AllK.nil (K : Nat) : AllK K [] := fun _ h => by cases h
theorem AllK.cons {K : Nat} {r : List Value} {rows : List (List Value)} (h : r.length = K) (hr : AllK K rows) : AllK K (r :: rows) := fun x hx => by
  rcases List.mem_cons.1 hx with rfl | hx
  · exact h
  · exact hr x hx
theorem AllK.app {K : Nat} {a b : List (List Value)} (ha : AllK K a) (hb : AllK K b) : AllK K (a ++ b) := fun x hx => by
  rcases List.mem_append.1 hx with hx | hx
  · exact ha x hx
  · exact hb x hx
theorem AllK.take {K : Nat} {a : List (List Value)} (ha : AllK K a) (i : Nat) : AllK K (a.take i) := fun x hx => ha x (List.mem_of_mem_take hx)
theorem AllK.drop {K : Nat} {a : List (List Value)} (ha : AllK K a) (i : Nat) : AllK K (a.drop i) := fun x hx => ha x (List.mem_of_mem_drop hx)
theorem AllK.set_ {K : Nat} {a : List (List Value)} (ha : AllK K a) (i : Nat) {r : List Value} (hr : r.length = K) : AllK K (a.set i r) := fun x hx => by
  rcases List.mem_or_eq_of_mem_set hx with h | h
  · exact ha x h
  · rw [h]; exact hr
theorem flat_len {K : Nat} : ∀ {rows : List (List Value)}, AllK K rows → rows.flatten.length = rows.length * K := by
  intro rows
  induction rows with
  | nil => intro _; simp
  | cons r rows ih =>
    intro h
    rw [List.flatten_cons, List.length_append, ih (fun x hx => h x (List.mem_cons_of_mem _ hx)), h r (List.mem_cons_self ..), List.length_cons, Nat.add_mul]
    omega
theorem flat_get {K : Nat} : ∀ {rows : List (List Value)} {i j : Nat} {r : List Value}, AllK K rows → rows[i]? = some r → j < K → rows.flatten[i * K + j]? = r[j]? := by
  intro rows
  induction rows with
  | nil => intro i j r _ h; simp at h
  | cons q rows ih =>
    intro i j r ha h hj
    have hq := ha q (List.mem_cons_self ..)
    cases i with
    | zero =>
      rw [List.getElem?_cons_zero] at h
      injection h with h
      subst h
      rw [List.flatten_cons, Nat.zero_mul, Nat.zero_add, List.getElem?_append_left (by omega)]
    | succ i =>
      rw [List.getElem?_cons_succ] at h
      rw [List.flatten_cons, List.getElem?_append_right (by rw [hq, Nat.add_mul]; omega), hq, show (i + 1) * K + j - K = i * K + j by rw [Nat.add_mul]; omega]
      exact ih (fun x hx => ha x (List.mem_cons_of_mem _ hx)) h hj
theorem flat_set {K : Nat} : ∀ {rows : List (List Value)} {i j : Nat} {r : List Value} (u : Value), AllK K rows → rows[i]? = some r → j < K → rows.flatten.set (i * K + j) u = (rows.set i (r.set j u)).flatten := by
  intro rows
  induction rows with
  | nil => intro i j r u _ h; simp at h
  | cons q rows ih =>
    intro i j r u ha h hj
    have hq := ha q (List.mem_cons_self ..)
    cases i with
    | zero =>
      rw [List.getElem?_cons_zero] at h
      injection h with h
      subst h
      rw [List.flatten_cons, Nat.zero_mul, Nat.zero_add, List.set_append_left _ _ (by omega), List.set_cons_zero, List.flatten_cons]
    | succ i =>
      rw [List.getElem?_cons_succ] at h
      rw [List.flatten_cons, List.set_append_right _ _ (by rw [hq, Nat.add_mul]; omega), hq, show (i + 1) * K + j - K = i * K + j by rw [Nat.add_mul]; omega, ih u (fun x hx => ha x (List.mem_cons_of_mem _ hx)) h hj, List.set_cons_succ, List.flatten_cons]
theorem flat_take {K : Nat} : ∀ {rows : List (List Value)} (i : Nat), AllK K rows → rows.flatten.take (i * K) = (rows.take i).flatten := by
  intro rows
  induction rows with
  | nil => intro i _; simp
  | cons q rows ih =>
    intro i ha
    have hq := ha q (List.mem_cons_self ..)
    cases i with
    | zero => simp
    | succ i => rw [List.flatten_cons, List.take_succ_cons, List.flatten_cons, ← ih i (fun x hx => ha x (List.mem_cons_of_mem _ hx)), List.take_append, List.take_of_length_le (by rw [hq, Nat.add_mul]; omega), hq, show (i + 1) * K - K = i * K by rw [Nat.add_mul]; omega]
theorem flat_drop {K : Nat} : ∀ {rows : List (List Value)} (i : Nat), AllK K rows → rows.flatten.drop (i * K) = (rows.drop i).flatten := by
  intro rows
  induction rows with
  | nil => intro i _; simp
  | cons q rows ih =>
    intro i ha
    have hq := ha q (List.mem_cons_self ..)
    cases i with
    | zero => simp
    | succ i => rw [List.flatten_cons, List.drop_succ_cons, ← ih i (fun x hx => ha x (List.mem_cons_of_mem _ hx)), List.drop_append, List.drop_eq_nil_of_le (by rw [hq, Nat.add_mul]; omega), hq, show (i + 1) * K - K = i * K by rw [Nat.add_mul]; omega, List.nil_append]
/-- The slice at A, n elements of K cells long, reads as these, below block B. -/
def RdsK (K : Nat) (w : World) (B : Nat) (A : Option Addr) (n : Nat) (rows : List (List Value)) : Prop := rows.length = n ∧ AllK K rows ∧ Rds w B A (n * K) rows.flatten
section
variable {K : Nat} {w w' : World} {B B' n : Nat} {A : Option Addr} {rows : List (List Value)}
theorem RdsK.nil (K : Nat) (w : World) (B : Nat) (A : Option Addr) : RdsK K w B A 0 [] := ⟨rfl, AllK.nil K, by rw [Nat.zero_mul]; exact Rds.nil _ _ _⟩
theorem RdsK.more (h : RdsK K w B A n rows) (hB : B ≤ B') : RdsK K w B' A n rows := ⟨h.1, h.2.1, h.2.2.more hB⟩
theorem RdsK.drew (h : RdsK K w B A n rows) : RdsK K w.drew B A n rows := h
theorem RdsK.alloc (h : RdsK K w B A n rows) (hB : B ≤ w.heap.size) (o : Obj) : RdsK K (w.alloc o) B A n rows := ⟨h.1, h.2.1, h.2.2.alloc hB o⟩
theorem RdsK.fit (h : RdsK K w B A n rows) : RdsK K w w.heap.size A n rows := ⟨h.1, h.2.1, h.2.2.fit⟩
theorem RdsK.mod {S : Nat → Prop} (h : RdsK K w B A n rows) (hm : Mod S w w') (hB : B ≤ w.heap.size) (hS : ∀ j, j < B → ¬ S j) : RdsK K w' B A n rows := ⟨h.1, h.2.1, h.2.2.mod hm hB hS⟩
theorem RdsK.new (h : RdsK K w B A n rows) (hm : Mod (fun _ => False) w w') : RdsK K w' w.heap.size A n rows := ⟨h.1, h.2.1, h.2.2.new hm⟩
theorem RdsK.below (h : RdsK K w B A n rows) (hb : Below B w w') : RdsK K w' B A n rows := ⟨h.1, h.2.1, h.2.2.below hb⟩
/-- One element: where it lies, and its cells. -/
theorem RdsK.at_ (h : RdsK K w B A n rows) {i : Nat} (hi : i < n) (hK : 0 < K) : ∃ ad r, A = some ad ∧ ad.block < B ∧ rows[i]? = some r ∧ r.length = K ∧ ∀ j u, r[j]? = some u → w.cell? (ad.add (i * K + j)) = some u := by
  have hl := h.1
  have hir : i < rows.length := by omega
  obtain ⟨ad, e, hb, hc⟩ := h.2.2.2 (Nat.mul_pos (by omega) hK)
  refine ⟨ad, rows[i], e, hb, List.getElem?_eq_getElem hir, h.2.1 _ (List.getElem_mem hir), fun j u hu => hc _ _ ?_⟩
  have hj : j < K := by
    have h1 := (List.getElem?_eq_some_iff.1 hu).1
    have h2 := h.2.1 _ (List.getElem_mem hir)
    omega
  rw [flat_get h.2.1 (List.getElem?_eq_getElem hir) hj]
  exact hu
/-- s[:k] -/
theorem RdsK.take (h : RdsK K w B A n rows) {k : Nat} (hk : k ≤ n) : RdsK K w B A k (rows.take k) := by
  refine ⟨by rw [List.length_take, h.1]; omega, h.2.1.take k, ?_⟩
  rw [← flat_take k h.2.1]
  exact h.2.2.take (Nat.mul_le_mul_right K hk)
/-- s[k:] -/
theorem RdsK.drop (h : RdsK K w B A n rows) {k cap : Nat} (hk : k ≤ n) (hc : n ≤ cap) (hK : 0 < K) : RdsK K w B (if cap = k then A else A.map (·.add (k * K))) (n - k) (rows.drop k) := by
  refine ⟨by rw [List.length_drop, h.1], h.2.1.drop k, ?_⟩
  have h2 := h.2.2.drop (k := k * K) (cap := cap * K) (Nat.mul_le_mul_right K hk) (Nat.mul_le_mul_right K hc)
  rw [flat_drop k h.2.1, ← Nat.sub_mul] at h2
  by_cases e : cap = k
  · rw [if_pos (by rw [e])] at h2
    rw [if_pos e]
    exact h2
  · rw [if_neg (fun e2 => e (Nat.eq_of_mul_eq_mul_right hK e2))] at h2
    rw [if_neg e]
    exact h2
end
/-- A row of the call's own of such elements: all that it has lies from block B on. -/
def OwnK (K B : Nat) (w : World) (e : TypeId) (v : Value) (rows : List (List Value)) : Prop := AllK K rows ∧ w.ownsRow B e K v rows.length rows.flatten
section
variable {K : Nat} {w w' : World} {B B' : Nat} {e : TypeId} {v : Value} {rows : List (List Value)}
theorem OwnK.nil (K B : Nat) (w : World) (e : TypeId) : OwnK K B w e (.slice none 0 0) [] := ⟨AllK.nil K, World.ownsRow_nil _ _ _ _⟩
theorem OwnK.drew (h : OwnK K B w e v rows) : OwnK K B w.drew e v rows := h
theorem OwnK.alloc (h : OwnK K B w e v rows) (o : Obj) : OwnK K B (w.alloc o) e v rows := ⟨h.1, World.ownsRow.alloc h.2 o⟩
theorem OwnK.mono (h : OwnK K B w e v rows) (hB : B' ≤ B) : OwnK K B' w e v rows := by
  refine ⟨h.1, h.2.1, ?_⟩
  rcases h.2.2 with hn | ⟨g, cap, cur, rfl, hb, rest⟩
  · exact .inl hn
  · exact .inr ⟨g, cap, cur, rfl, by omega, rest⟩
theorem OwnK.below (h : OwnK K B w e v rows) (hb : Below w.heap.size w w') : OwnK K B w' e v rows := by
  refine ⟨h.1, h.2.1, ?_⟩
  rcases h.2.2 with hn | ⟨g, cap, cur, rfl, hB, hgg, rest⟩
  · exact .inl hn
  · refine .inr ⟨g, cap, cur, rfl, hB, ?_, rest⟩
    rw [hb.block g (Array.getElem?_eq_some_iff.1 hgg).1]
    exact hgg
theorem OwnK.mod (h : OwnK K B w e v rows) (hm : Mod (fun _ => False) w w') : OwnK K B w' e v rows := ⟨h.1, hm.owns h.2 (fun _ _ h => h)⟩
theorem OwnK.modS {S : Nat → Prop} (h : OwnK K B w e v rows) (hm : Mod S w w') (hS : ∀ k, v.ownBlock = some k → ¬ S k) : OwnK K B w' e v rows := ⟨h.1, hm.owns h.2 hS⟩
theorem OwnK.block (h : OwnK K B w e v rows) : ∀ k, v.ownBlock = some k → B ≤ k ∧ k < w.heap.size := World.ownsRow.lt h.2
/-- What its value looks like. -/
theorem OwnK.form (h : OwnK K B w e v rows) : ∃ A c, v = .slice A rows.length c ∧ (A = none → c = 0) ∧ rows.length ≤ c ∧ c ≤ maxLen ∧ RdsK K w w.heap.size A rows.length rows := by
  obtain ⟨hK, ho⟩ := h
  have hl := flat_len hK
  rcases ho.2 with ⟨rfl, h0⟩ | ⟨g, cap, cur, rfl, hB, hgg, hnc, hcm, hcs, htk⟩
  · obtain rfl : rows = [] := List.eq_nil_of_length_eq_zero h0
    exact ⟨none, 0, rfl, fun _ => rfl, Nat.le_refl _, Nat.zero_le _, RdsK.nil _ _ _ _⟩
  · exact ⟨_, cap, rfl, (fun h => by cases h), hnc, hcm, rfl, hK, hl, fun _ => ⟨_, rfl, (Array.getElem?_eq_some_iff.1 hgg).1, World.ownsRow.cells ho (g := g) rfl⟩⟩
theorem OwnK.formN (h : OwnK K B w e v rows) : ∃ A L c, v = .slice A L c ∧ Hid (rows.length = L) ∧ L ≤ c ∧ c ≤ maxLen ∧ RdsK K w w.heap.size A L rows := by
  obtain ⟨A, c, e, _, h1, h2, h3⟩ := h.form
  exact ⟨A, rows.length, c, e, Lib.hid rfl, h1, h2, h3⟩
theorem OwnK.rds {A : Option Addr} {n c : Nat} (h : OwnK K B w e (.slice A n c) rows) (hn : rows.length = n) : RdsK K w w.heap.size A n rows := by
  obtain ⟨A', c', e, _, _, _, hr⟩ := h.form
  injection e with e1 e2 e3
  subst e1 e2
  exact hr
/-- Where it lies, if it is not empty. -/
theorem OwnK.form' (h : OwnK K B w e v rows) (hn : 0 < rows.length) : ∃ g cap, v = .slice (some ⟨g, 0, none⟩) rows.length cap ∧ rows.length ≤ cap ∧ cap ≤ maxLen ∧ B ≤ g ∧ g < w.heap.size := by
  rcases h.2.2 with ⟨rfl, h0⟩ | ⟨g, cap, cur, rfl, hB, hgg, hnc, hcm, _⟩
  · omega
  · exact ⟨g, cap, rfl, hnc, hcm, hB, (Array.getElem?_eq_some_iff.1 hgg).1⟩
/-- One cell of one element written: s[i].f = u. -/
theorem OwnK.set_ {g n cap i j : Nat} {r : List Value} (h : OwnK K B w e (.slice (some ⟨g, 0, none⟩) n cap) rows) (hn : rows.length = n) (hr : rows[i]? = some r) (hj : j < K) (u : Value) :
    (∃ x, r[j]? = some x ∧ w.cell? ⟨g, i * K + j, none⟩ = some x) ∧ w.frozen? ⟨g, i * K + j, none⟩ = false ∧ OwnK K B (w.setCell ⟨g, i * K + j, none⟩ u) e (.slice (some ⟨g, 0, none⟩) n cap) (rows.set i (r.set j u)) := by
  obtain ⟨hK, ho⟩ := h
  have hir := (List.getElem?_eq_some_iff.1 hr).1
  have hrl : r.length = K := hK r (List.mem_of_getElem? hr)
  have hl := flat_len hK
  have hlt : i * K + j < rows.length * K := by
    have := Nat.mul_le_mul_right K hir
    rw [Nat.succ_mul] at this
    omega
  rw [hn] at ho
  refine ⟨⟨r[j]'(by omega), List.getElem?_eq_getElem (by omega), ?_⟩, ho.frozenAt _, hK.set_ i (by rw [List.length_set]; exact hrl), ?_⟩
  · rw [ho.cellAt _ (by rw [← hn]; exact hlt), flat_get hK hr hj, List.getElem?_eq_getElem (by omega)]
  · have h2 := (ho.stored (i * K + j) u).1
    rw [flat_set u hK hr hj] at h2
    rw [List.length_set, hn]
    exact h2
end
/-- A slice type's element of K cells: its row of the table. -/
def EltK (P : Program) (t e : TypeId) (z : Value) (K bytes : Nat) : Prop := P.underlying t = some (.slice e) ∧ (∃ i, P.info? e = some i ∧ i.zero = some z ∧ i.size = K ∧ i.bytes = bytes) ∧ z.cells.size = K ∧ 0 < K
theorem EltK.mk {P : Program} {t e : TypeId} {z : Value} {K bytes : Nat} (h1 : P.underlying t = some (.slice e)) (h2 : (P.info? e).map (fun i => (i.zero, i.size, i.bytes)) = some (some z, K, bytes)) (h3 : z.cells.size = K) (h4 : 0 < K) : EltK P t e z K bytes :=
  ⟨h1, info_parts h2, h3, h4⟩
section
variable {P : Program} {w : World}
theorem run_append_nilK (t ty e : TypeId) (i : TypeInfo) (ht : P.underlying t = some (.slice e)) (hi : P.info? e = some i) {K B : Nat} {v : Value} {rows : List (List Value)} (hown : OwnK K B w e v rows) (c : Nat) :
    (Builtin.append_ #[t, t] ty #[v, .slice none 0 c]).run P w = .ok v w := by
  rcases hown.2.2 with ⟨rfl, h0⟩ | ⟨g, cap, cur, rfl, _, _, hnc, _⟩
  · simp [Builtin.append_, run_underlying ht, sizeOf, typeInfo, hi, Builtin.lenOf, Builtin.firstCells]
  · simp [Builtin.append_, run_underlying ht, sizeOf, typeInfo, hi, Builtin.lenOf, Builtin.firstCells, hnc, storeCells]
theorem run_appK {t ty e : TypeId} {z : Value} {K bytes B B2 m c : Nat} {v : Value} {rows news : List (List Value)} {A : Option Addr} (hE : EltK P t e z K bytes) (hown : OwnK K B w e v rows) (hr : RdsK K w B2 A m news) (h1 : ∀ u ∈ news.flatten, u.oneCell' = true)
    (hm : rows.length + m ≤ maxLen) (hb : (rows.length + m) * bytes ≤ 140737488355328) (hB : B ≤ w.heap.size) :
    ∃ v' w', (Builtin.append_ #[t, t] ty #[v, .slice A m c]).run P w = .ok v' w' ∧ OwnK K B w' e v' (rows ++ news) ∧ w.grownBy w' v.ownBlock ∧ (v'.ownBlock = v.ownBlock ∨ v'.ownBlock = some w.heap.size) := by
  obtain ⟨ht, ⟨i, hi, hz, hsize, hby⟩, hzs, hK⟩ := hE
  have hrl := hr.1
  have hfl := flat_len hr.2.1
  rcases A with _ | ad
  · have hm0 : m = 0 := by
      rcases Nat.eq_zero_or_pos m with h0 | h0
      · exact h0
      · obtain ⟨ad, h, _⟩ := hr.2.2.2 (Nat.mul_pos h0 hK)
        cases h
    subst hm0
    obtain rfl : news = [] := List.eq_nil_of_length_eq_zero hrl
    exact ⟨v, w, run_append_nilK t ty e i ht hi hown c, by simpa using hown, World.grownBy.refl w _, .inl rfl⟩
  · have hcells : ∀ j u, news.flatten[j]? = some u → w.cell? (ad.add j) = some u := by
      intro j u hu
      rcases Nat.eq_zero_or_pos m with h0 | h0
      · subst h0
        obtain rfl : news = [] := List.eq_nil_of_length_eq_zero hrl
        simp at hu
      · obtain ⟨ad', h, _, hc⟩ := hr.2.2.2 (Nat.mul_pos h0 hK)
        injection h with h
        subst h
        exact hc j u hu
    obtain ⟨v', w', hrun, h2, h3, _, h5⟩ := run_append_own_at (P := P) w B t ty e i z K bytes ht hi hz hsize hby hzs hK v rows.length rows.flatten hown.2 ad m c news.flatten (by rw [hfl, hrl]) hcells h1 hm hb hB
    refine ⟨v', w', hrun, ⟨hown.1.app hr.2.1, ?_⟩, h3, h5⟩
    rw [List.length_append, hrl, List.flatten_append]
    exact h2
/-- append(s, x..), s a row of the call's own. -/
theorem wpList_appK {ops : Array Oper} {rest : List Oper} {o : Oper} {a : Act} {Q : Exit → Act → World → Prop} (hgd : o.guard = none) (s x : Operand) (t : TypeId)
    (ho : o.op = .call { callee := .builtin .append, args := #[s, x], argTypes := #[t, t] }) {e : TypeId} {z : Value} {K bytes : Nat} (hE : EltK P t e z K bytes)
    {B : Nat} {v : Value} {rows : List (List Value)} (hs : a.eval s = v) (hown : OwnK K B w e v rows) {B2 m c : Nat} {A : Option Addr} {news : List (List Value)} (hx : a.eval x = .slice A m c) (hr : RdsK K w B2 A m news) (h1 : ∀ u ∈ news.flatten, u.oneCell' = true)
    (hm : rows.length + m ≤ maxLen) (hb : (rows.length + m) * bytes ≤ 140737488355328) (hB : B ≤ w.heap.size)
    (h : ∀ v' w', Hid (OwnK K B w' e v' (rows ++ news)) → Hid (Below B w w') → Hid (w.grownBy w' v.ownBlock ∧ (v'.ownBlock = v.ownBlock ∨ v'.ownBlock = some w.heap.size)) → wpList P ops Q rest (a.put o.dst v') w') : wpList P ops Q (o :: rest) a w := by
  refine wpList_plain hgd fun _ hK => ?_
  obtain ⟨v', w', hrun, h2, h3, h4⟩ := run_appK (ty := o.type) (c := c) hE hown hr h1 hm hb hB
  unfold Oper.wp execOp
  simp only [ho, resolve, invoke, builtin, Sem.run_bind, Sem.run_pure, Result.andThen_ok, List.map_toArray, List.map_cons, List.map_nil, hs, hx, hrun]
  exact hK _ _ (h v' w' (Lib.hid h2) (Lib.hid ((Below.refl B w).grown h3 hB fun k hk => (hown.block k hk).1)) (Lib.hid ⟨h3, h4⟩))
/-- A literal of one element. -/
theorem RdsK.lit1 (w : World) (t : TypeId) (r : List Value) : RdsK r.length (w.alloc (.cells r.toArray t)) (w.heap.size + 1) (some ⟨w.heap.size, 0, none⟩) 1 [r] := by
  refine ⟨rfl, AllK.cons rfl (AllK.nil _), ?_⟩
  have h := Rds.lit w t r.toArray
  simpa using h
end
end Go.Proofs.Ytcoajldhhimmoaa

/- One hand alone: the mathematics of the model, as chapter 14 tells it. -/
namespace Go.Proofs.Ytcoajldhhimmoaa

/-- A series, an iterator, all that there is. -/
structure SerN where
  id : Int
  sea : Bool
  any : Bool
  last : Int
  l : List (Int × Nat)
deriving DecidableEq
structure IteN where
  id : Int
  rest : List (Int × Nat)
deriving DecidableEq
structure ModN where
  ser : List SerN
  ite : List IteN
  next : Int
deriving DecidableEq
structure OpN where
  kind : Int
  series : Int
  iter : Int
  t : Int
  v : Nat
  from_ : Int
  to_ : Int
  n : Int
structure ResN where
  err : Int
  iter : Int
  l : List (Int × Nat)
deriving DecidableEq
def ModN.nil : ModN := ⟨[], [], 0⟩
def ResN.of (e : Int) : ResN := ⟨e, 0, []⟩
def SerN.put (s : SerN) (t : Int) (v : Nat) : SerN := { s with any := true, last := t, l := s.l ++ [(t, v)] }
/-- Rising by their numbers. -/
def RiseM (m : ModN) : Prop := (m.ser.map (·.id)).Pairwise (· < ·) ∧ (m.ite.map (·.id)).Pairwise (· < ·)
/-- What stays so, whatever is done: numbers rise; an iterator's is no greater than the last one's; there are eight of them at most. -/
def KeepM (m : ModN) : Prop := RiseM m ∧ (∀ i ∈ m.ite, 1 ≤ i.id ∧ i.id ≤ m.next) ∧ m.ite.length ≤ 8 ∧ 0 ≤ m.next ∧ ∀ s ∈ m.ser, 0 ≤ s.id ∧ s.id ≤ 15
theorem KeepM.nil : KeepM .nil := ⟨⟨List.Pairwise.nil, List.Pairwise.nil⟩, (fun _ h => by cases h), Nat.zero_le _, Int.le_refl _, fun _ h => by cases h⟩
end Go.Proofs.Ytcoajldhhimmoaa

/- Plain mathematics of times by their differences: what a reader's bits are, and that they are what was told. -/
namespace Go.Proofs.Ytcoajldhhimmoaa

def M64 : Nat := 18446744073709551616
def H63 : Nat := 9223372036854775808
theorem M64_eq : M64 = 2 * H63 := rfl
theorem M64_pow : M64 = 2 ^ 64 := by decide
/-- A number of 64 bits, as one with a sign; and back. -/
def sg (u : Nat) : Int := if u < H63 then (u : Int) else (u : Int) - (M64 : Int)
def un (x : Int) : Nat := (x % (M64 : Int)).toNat
def Fits (x : Int) : Prop := -(H63 : Int) ≤ x ∧ x < (H63 : Int)
theorem sg_fits {u : Nat} (h : u < M64) : Fits (sg u) := by
  have := M64_eq
  unfold sg Fits
  split <;> omega
/-- How many bits a difference has; its head, and how many bits that has. -/
def kindN (d : Int) : Nat := if d = 0 then 0 else if -64 ≤ d ∧ d < 64 then 7 else if -256 ≤ d ∧ d < 256 then 9 else if -2048 ≤ d ∧ d < 2048 then 12 else 64
def headN (d : Int) : Nat := if d = 0 then 0 else if -64 ≤ d ∧ d < 64 then 2 else if -256 ≤ d ∧ d < 256 then 6 else if -2048 ≤ d ∧ d < 2048 then 14 else 15
def longN (d : Int) : Nat := if d = 0 then 1 else if -64 ≤ d ∧ d < 64 then 2 else if -256 ≤ d ∧ d < 256 then 3 else 4
/-- k bits off what a reader has left. -/
def takeB (k R rem : Nat) : Option (Nat × Nat × Nat) := if k ≤ rem then some (R / 2 ^ (rem - k), R % 2 ^ (rem - k), rem - k) else none
/-- Fields: numbers, and in how many bits. -/
def flen : List (Nat × Nat) → Nat
  | [] => 0
  | (_, w) :: fs => w + flen fs
def fnum : List (Nat × Nat) → Nat
  | [] => 0
  | (v, w) :: fs => v % 2 ^ w * 2 ^ flen fs + fnum fs
theorem fnum_lt (fs : List (Nat × Nat)) : fnum fs < 2 ^ flen fs := by
  induction fs with
  | nil => show 0 < 1; omega
  | cons f fs ih =>
    obtain ⟨v, w⟩ := f
    show v % 2 ^ w * 2 ^ flen fs + fnum fs < 2 ^ (w + flen fs)
    have h1 : v % 2 ^ w + 1 ≤ 2 ^ w := Nat.mod_lt _ (Nat.two_pow_pos w)
    have h2 := Nat.mul_le_mul_right (2 ^ flen fs) h1
    rw [Nat.pow_add]
    rw [Nat.add_mul, Nat.one_mul] at h2
    omega
theorem flen_app (as' bs : List (Nat × Nat)) : flen (as' ++ bs) = flen as' + flen bs := by
  induction as' with
  | nil => show flen bs = 0 + flen bs; omega
  | cons a as' ih => show a.2 + flen (as' ++ bs) = a.2 + flen as' + flen bs; omega
theorem fnum_app (as' bs : List (Nat × Nat)) : fnum (as' ++ bs) = fnum as' * 2 ^ flen bs + fnum bs := by
  induction as' with
  | nil => show fnum bs = 0 * _ + fnum bs; omega
  | cons a as' ih =>
    show a.1 % 2 ^ a.2 * 2 ^ flen (as' ++ bs) + fnum (as' ++ bs) = (a.1 % 2 ^ a.2 * 2 ^ flen as' + fnum as') * 2 ^ flen bs + fnum bs
    rw [ih, flen_app, Nat.pow_add, Nat.add_mul, Nat.mul_assoc, Nat.add_assoc]
/-- The five heads. -/
def hv (h : Nat) : Nat := if h = 0 then 0 else if h = 1 then 2 else if h = 2 then 6 else if h = 3 then 14 else 15
def hw (h : Nat) : Nat := if h = 0 then 1 else if h = 1 then 2 else if h = 2 then 3 else 4
/-- Which head a difference has. -/
def hd (d : Int) : Nat := if d = 0 then 0 else if -64 ≤ d ∧ d < 64 then 1 else if -256 ≤ d ∧ d < 256 then 2 else if -2048 ≤ d ∧ d < 2048 then 3 else 4
/-- What Encode puts of one difference; of times behind 'prev' and 'last'; of a row. -/
def fieldsD (d : Int) : List (Nat × Nat) := [(headN d, longN d), (un d, kindN d)]
def stepOf (prev x : Int) : Nat := un (x - prev)
def diffOf (prev : Int) (last : Nat) (x : Int) : Int := sg (un ((stepOf prev x : Int) - (last : Int)))
def encT : Int → Nat → List Int → List (Nat × Nat)
  | _, _, [] => []
  | prev, last, x :: xs => fieldsD (diffOf prev last x) ++ encT x (stepOf prev x) xs
def encRow : List Int → List (Nat × Nat)
  | [] => []
  | x :: xs => (un x, 64) :: encT x 0 xs
end Go.Proofs.Ytcoajldhhimmoaa

/- More of times: a difference told in any length; what a row has; how long it is. -/
namespace Go.Proofs.Ytcoajldhhimmoaa

/-- What a row that is read has. -/
theorem takeB_some {k R rem : Nat} {p : Nat × Nat × Nat} (h : takeB k R rem = some p) (hR : R < 2 ^ rem) : p.1 < 2 ^ k ∧ p.2.1 < 2 ^ p.2.2 ∧ p.2.2 + k = rem := by
  unfold takeB at h
  split at h
  · rename_i hk
    injection h with h
    subst h
    refine ⟨?_, Nat.mod_lt _ (Nat.two_pow_pos _), (by show rem - k + k = rem; omega)⟩
    rw [Nat.div_lt_iff_lt_mul (Nat.two_pow_pos _), ← Nat.pow_add]
    rwa [show k + (rem - k) = rem by omega]
  · cases h
end Go.Proofs.Ytcoajldhhimmoaa

/- Plain mathematics of values by what turns: how many 0s a number has ahead and behind; what is told, and that it is read back. -/
namespace Go.Proofs.Ytcoajldhhimmoaa

/-- 0s ahead, 31 at most; 0s behind. -/
def ahd : Nat → Nat → Nat → Nat
  | 0, n, _ => n
  | f + 1, n, x => if x / 2 ^ (63 - n) = 0 then ahd f (n + 1) x else n
def aheadN (x : Nat) : Nat := ahd 31 0 x
def bhd : Nat → Nat → Nat → Nat
  | 0, n, _ => n
  | f + 1, n, x => if x / 2 ^ n % 2 = 0 then bhd f (n + 1) x else n
def behindN (x : Nat) : Nat := bhd 64 0 x
/-- A window: how many 0s ahead, and behind. -/
def WinOk : Option (Nat × Nat) → Prop
  | none => True
  | some (a, b) => a ≤ 31 ∧ a + b ≤ 63
def freshX (x : Nat) : List (Nat × Nat) := [(1, 1), (1, 1), (aheadN x, 5), (63 - aheadN x - behindN x, 6), (x / 2 ^ behindN x, 64 - aheadN x - behindN x)]
def fitsX : Option (Nat × Nat) → Nat → Bool
  | none, _ => false
  | some (a, b), x => decide (a ≤ aheadN x ∧ b ≤ behindN x)
def insideX : Option (Nat × Nat) → Nat → List (Nat × Nat)
  | none, _ => []
  | some (a, b), x => [(1, 1), (0, 1), (x / 2 ^ b, 64 - a - b)]
def fieldsX (win : Option (Nat × Nat)) (x : Nat) : List (Nat × Nat) := if x = 0 then [(0, 1)] else if fitsX win x = true then insideX win x else freshX x
def winX (win : Option (Nat × Nat)) (x : Nat) : Option (Nat × Nat) := if x = 0 then win else if fitsX win x = true then win else some (aheadN x, behindN x)
def encX : Option (Nat × Nat) → Nat → List Nat → List (Nat × Nat)
  | _, _, [] => []
  | win, prev, v :: vs => fieldsX win (v ^^^ prev) ++ encX (winX win (v ^^^ prev)) v vs
def encVals : List Nat → List (Nat × Nat)
  | [] => []
  | v :: vs => (v, 64) :: encX none v vs

/-- One value's turn is read. -/
def rdX (win : Option (Nat × Nat)) (R rem : Nat) : Option (Nat × Option (Nat × Nat) × Nat × Nat) :=
  match takeB 1 R rem with
  | none => none
  | some (c0, R1, rem1) =>
    if c0 = 0 then some (0, win, R1, rem1) else
    match takeB 1 R1 rem1 with
    | none => none
    | some (c1, R2, rem2) =>
      if c1 = 0 then
        match win with
        | none => none
        | some (a, b) =>
          match takeB (64 - a - b) R2 rem2 with
          | none => none
          | some (y, R3, rem3) => some (y * 2 ^ b, win, R3, rem3)
      else
        match takeB 5 R2 rem2 with
        | none => none
        | some (a, R3, rem3) =>
          match takeB 6 R3 rem3 with
          | none => none
          | some (m, R4, rem4) =>
            if 64 < a + (m + 1) then none else
            match takeB (m + 1) R4 rem4 with
            | none => none
            | some (y, R5, rem5) => some (y * 2 ^ (64 - a - (m + 1)), some (a, 64 - a - (m + 1)), R5, rem5)
end Go.Proofs.Ytcoajldhhimmoaa

/- Rows of bytes of the call's own: an append's result, one cell of such, one cell written. -/
namespace Go.Proofs.Ytcoajldhhimmoaa
open Go.RowKit

end Go.Proofs.Ytcoajldhhimmoaa

/- A slice of bytes that came in, as a list of numbers. -/
namespace Go.Proofs.Ytcoajldhhimmoaa
open Go.RowKit
end Go.Proofs.Ytcoajldhhimmoaa

/- Plain mathematics of small numbers, many to a word: what a word holds; what is told of numbers; that it is read back, and that only they are told so. -/
namespace Go.Proofs.Ytcoajldhhimmoaa

/-- How many numbers a word of a kind holds, and in how many bits each. -/
def numN (k : Nat) : Nat := ([240, 120, 60, 30, 20, 15, 12, 10, 8, 7, 6, 5, 4, 3, 2, 1] : List Nat).getD k 0
def bitN (k : Nat) : Nat := ([0, 0, 1, 2, 3, 4, 5, 6, 7, 8, 10, 12, 15, 20, 30, 60] : List Nat).getD k 0
/-- Numbers of b bits, the first one lowest. -/
def pk (b : Nat) : List Nat → Nat
  | [] => 0
  | x :: xs => x + 2 ^ b * pk b xs
/-- A word: its kind, and the numbers. -/
def wordN (k : Nat) (xs : List Nat) : Nat := k * 2 ^ 60 + pk (bitN k) xs
/-- Whether the next numbers may stand in a word of a kind. -/
def fitsK (u : List Nat) (k : Nat) : Bool := !(decide (k < 2) && decide (u.length < numN k)) && (u.take (numN k)).all fun x => decide (x < 2 ^ bitN k)
/-- The first kind from k on that may be; f kinds are left. -/
def kindF (u : List Nat) : Nat → Nat → Nat
  | 0, k => k
  | f + 1, k => if fitsK u k = true then k else kindF u f (k + 1)
def kindOf (u : List Nat) : Nat := kindF u 16 0
/-- Encode; f is a bound. -/
def encSF : Nat → List Nat → Option (List Nat)
  | 0, _ => some []
  | f + 1, u => if u = [] then some [] else if kindOf u = 16 then none else (encSF f (u.drop (numN (kindOf u)))).map fun ws => wordN (kindOf u) (u.take (numN (kindOf u))) :: ws
def encS (u : List Nat) : Option (List Nat) := encSF u.length u
end Go.Proofs.Ytcoajldhhimmoaa

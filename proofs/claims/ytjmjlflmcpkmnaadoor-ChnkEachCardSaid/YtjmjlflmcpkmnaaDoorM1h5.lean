/- The texts Jn, Je, Jg, Jw, Jt, Tx, Wu, Jo, Jh, Ji, Jj, one behind the other. -/
import Derived.Test.YtjmjlflmcpkmnaaDoorM1h1
import Derived.Test.YtjmjlflmcpkmnaaDoorM1h4
import Derived.Test.YtjmjlflmcpkmnaaDoorM1h2
/- Chunks: which rows have a chunk, and bounds of such; what the laws of layer 11 ask. -/
namespace Go.Proofs.YtjmjlflmcpkmnaaDoor

/-- A row that rises has a chunk in each codec but two. -/
theorem makeC_is {p : Nat} {l : List (Int × Nat)} (hr : riseB l = true) (h60 : l.length ≤ 256) (h1 : 1 ≤ p) (h6 : p ≤ 6) (h : makeC (p : Int) l = none) : l = [] ∨ p = 2 ∨ p = 6 := by
 by_cases hl : l = []
 ·exact .inl hl
 ·refine .inr ?_
  unfold makeC at h
  rw [if_neg hl, Option.map_eq_none_iff] at h
  have key : ∀ t : Nat, (toldK (t : Int) (vsOf l)).isSome = true → ¬ p = t := fun t ht e => by
   have := encK_some_of hr ht
   rw [← e, h] at this
   cases this
  have n1 := key 1 (told1 _)
  have n3 := key 3 (told3 _)
  have n4 := key 4 (told4 _)
  have n5 := key 5 (told5 (by rw [vsOf_len]; exact h60))
  omega
/-- What a chunk is, is read; whatever stands behind its head. -/
theorem openX_of {tag : Int} {l : List (Int × Nat)} {c : List Nat} (hg : GoodS l) (h : makeC tag l = some c) : openX c = some (l, tag.toNat) := openX_make hg h
theorem openX_turned {tag : Int} {l : List (Int × Nat)} {c : List Nat} {p x m : Nat} (h : makeC tag l = some c) (hp : c[p]? = some x) (hm : m < 256) (hm0 : 0 < m) : openX (c.set p (x ^^^ m)) = none := by
 rw [openX_eq ?_]
 ·exact openC_turned h hp hm hm0
 ·intro y hy
  rcases List.mem_or_eq_of_mem_set hy with h1 | h1
  ·exact makeC_256 h y h1
  ·rw [h1]
   exact xor_lt8 (makeC_256 h x (List.mem_of_getElem? hp)) hm
/-- A chunk in its parts: its head, and eight bytes at least. -/
theorem makeC_len8 {tag : Int} {l : List (Int × Nat)} {c : List Nat} (h : makeC tag l = some c) : 8 ≤ c.length := by
 obtain ⟨_, b, _, h2⟩ := makeC_some h
 have p1 := enc_pos l.length
 have p2 := enc_pos (zig (fstT l)).toNat
 have p3 := enc_pos (zig (lstT l)).toNat
 have h5 : (sum4 (sumN ent (headR tag l ++ b))).length = 4 := rfl
 rw [h2, List.length_append, List.length_append, h5]
 simp only [headR, headC, List.length_cons, List.length_append]
 omega
end Go.Proofs.YtjmjlflmcpkmnaaDoor

/- Chunks, of the code: Head. -/
namespace Go.Proofs.YtjmjlflmcpkmnaaDoor
open Go.RowKit

/-- The head that is told: none is all 0. -/
def hdV (o : Option ((Nat × Nat × Int × Int) × Nat)) : Nat × Nat × Int × Int := (o.map (·.1)).getD (0, 0, 0, 0)
theorem HeadEnd.any {w w' : World} {bs : List Nat} {n : Nat} {e : Ending} (h : HeadEnd w w' bs n e) :
  ∃ (A : Option Addr) (L c : Nat), e = .returned (.tuple #[.agg #[.int .i64 ((hdV (hdC bs)).1 : Int), .int .i64 ((hdV (hdC bs)).2.1 : Int), .int .i64 (hdV (hdC bs)).2.2.1, .int .i64 (hdV (hdC bs)).2.2.2], .slice A L c, .bool (hdC bs).isSome]) ∧ Mod (fun _ => False) w w' := by
 unfold HeadEnd at h
 cases hd : hdC bs with
 | none =>
  rw [hd] at h
  obtain ⟨rfl, hm⟩ := h
  exact ⟨none, 0, 0, rfl, hm⟩
 | some p =>
  rw [hd] at h
  obtain ⟨A, L, c, _, _, _, rfl, _, hm⟩ := h
  exact ⟨A, L, c, rfl, hm⟩
set_option maxHeartbeats 1000000 in
set_option maxRecDepth 100000 in
theorem jhead_any (A : Option Addr) (n c : Nat) (bs : List Nat) (w : World) (hs : Rds w w.heap.size A n (cells8 bs)) (hlt : lt256 bs) (hnc : n ≤ c) (hcm : c ≤ maxLen) :
  Calls Tryd.prog 9 #[.slice A n c] w fun e w' => e = .returned (.tuple #[.agg #[.int .i64 ((hdV (hdC bs)).1 : Int), .int .i64 ((hdV (hdC bs)).2.1 : Int), .int .i64 (hdV (hdC bs)).2.2.1, .int .i64 (hdV (hdC bs)).2.2.2], .bool (hdC bs).isSome]) ∧ Mod (fun _ => False) w w' := by
 obtain ⟨W, hW⟩ : ∃ W, W = w.alloc (.cells #[.int .i64 0, .int .i64 0, .int .i64 0, .int .i64 0] 31) := ⟨_, rfl⟩
 have hmW : Mod (fun _ => False) w W := by rw [hW]; exact (Mod.refl _ _).alloc _
 have hbW : Blk W w.heap.size 31 #[.int .i64 0, .int .i64 0, .int .i64 0, .int .i64 0] := by rw [hW]; exact Blk.new _ _ _
 have hcall := getHead_any A n c bs W (hs.new hmW).fit hlt hnc hcm
 obtain ⟨a0, ha0⟩ : ∃ a0, a0 = (((hdV (hdC bs)).1 : Nat) : Int) := ⟨_, rfl⟩
 obtain ⟨a1, ha1⟩ : ∃ a1, a1 = (((hdV (hdC bs)).2.1 : Nat) : Int) := ⟨_, rfl⟩
 obtain ⟨a2, ha2⟩ : ∃ a2, a2 = (hdV (hdC bs)).2.2.1 := ⟨_, rfl⟩
 obtain ⟨a3, ha3⟩ : ∃ a3, a3 = (hdV (hdC bs)).2.2.2 := ⟨_, rfl⟩
 obtain ⟨ok, hok⟩ : ∃ ok, ok = (hdC bs).isSome := ⟨_, rfl⟩
 rw [← ha0, ← ha1, ← ha2, ← ha3, ← hok]
 have HW := Lib.hid hW; have HmW := Lib.hid hmW; have HbW := Lib.hid hbW; have Hcall := Lib.hid hcall
 have H0 := Lib.hid ha0; have H1 := Lib.hid ha1; have H2 := Lib.hid ha2; have H3 := Lib.hid ha3; have Hok := Lib.hid hok
 clear hW hmW hbW hcall ha0 ha1 ha2 ha3 hok hs hlt
 go_enter Tryd.func9, Tryd.ntmps9
 go_upto_region 1 with fail
 rw [← HW.out]
 go_wp2_with fail
 refine Hcall.out.mono ?_
 intro e w1 he
 have he' : HeadEnd W w1 bs n e := he
 obtain ⟨A', L', c', rfl, hm1⟩ := he'.any
 rw [← H0.out, ← H1.out, ← H2.out, ← H3.out, ← Hok.out]
 obtain ⟨W2, hW2⟩ : ∃ W2, W2 = w1.alloc (.cells #[.int .i64 a0, .int .i64 a1, .int .i64 a2, .int .i64 a3] 31) := ⟨_, rfl⟩
 have hm2 : Mod (fun _ => False) w W2 := by rw [hW2]; exact (HmW.out.trans hm1 (fun _ _ h => h)).alloc _
 have hbH2 : Blk W2 w.heap.size 31 #[.int .i64 0, .int .i64 0, .int .i64 0, .int .i64 0] := by rw [hW2]; exact (hm1.blk HbW.out (fun h => h)).alloc _
 have hbN : Blk W2 w1.heap.size 31 #[.int .i64 a0, .int .i64 a1, .int .i64 a2, .int .i64 a3] := by rw [hW2]; exact Blk.new _ _ _
 have k0 := hbN.cell 0
 have k1 := hbN.cell 1
 have k2 := hbN.cell 2
 have k3 := hbN.cell 3
 have z0 := hbH2.cell 0
 have z1 := hbH2.cell 1
 have z2 := hbH2.cell 2
 have z3 := hbH2.cell 3
 have y0 := hbH2.frozen 0
 have y1 := hbH2.frozen 1
 have y2 := hbH2.frozen 2
 have y3 := hbH2.frozen 3
 simp at k0 k1 k2 k3 z0 z1 z2 z3
 have HW2 := Lib.hid hW2; have Hm2 := Lib.hid hm2; have HbH2 := Lib.hid hbH2
 clear he he' hm1 hW2 hm2 hbH2 hbN HW HmW HbW Hcall H0 H1 H2 H3 Hok
 go_upto_region 2 with fail
 rw [← HW2.out]
 go_wp2_with fail
 refine bodyPost_ret (v := .tuple #[.agg #[.int .i64 a0, .int .i64 a1, .int .i64 a2, .int .i64 a3], .bool ok]) (by have h := HbH2.out.four (.int .i64 a0) (.int .i64 a1) (.int .i64 a2) (.int .i64 a3); simp [results, Tryd.results9, go_sem, h.1, h.2.1, h.2.2.1, h.2.2.2.1]) rfl ⟨rfl, ?_⟩
 exact Hm2.out.four_new (Nat.le_refl _) _ _ _ _
end Go.Proofs.YtjmjlflmcpkmnaaDoor

/- append to a row that is read on; and the chunk that the document fixes. -/
namespace Go.Proofs.YtjmjlflmcpkmnaaDoor
open Go.RowKit

section
variable {P : Program} {w : World}
/-- append(s, x..) to a row of the call's own: what s reads as stays. -/
theorem run_kept {t ty e : TypeId} {z : Value} {bytes B B2 g n cap m c : Nat} {xs news : List Value} {A : Option Addr} (hE : Elt P t e z bytes) (hown : Own B w e (.slice (some ⟨g, 0, none⟩) n cap) xs) (hn : xs.length = n) (hr : Rds w B2 A m news) (h1 : ∀ u ∈ news, u.oneCell' = true)
  (hm0 : 0 < m) (hm : n + m ≤ maxLen) (hb : (n + m) * bytes ≤ 140737488355328) (hB : B ≤ w.heap.size) :
  ∃ v' w', (Builtin.append_ #[t, t] ty #[.slice (some ⟨g, 0, none⟩) n cap, .slice A m c]).run P w = .ok v' w' ∧ Own B w' e v' (xs ++ news) ∧ Rds w' w'.heap.size (some ⟨g, 0, none⟩) n xs ∧ Mod (fun k => k = g) w w' := by
 have hE' := hE
 obtain ⟨ht, ⟨i, hi, hz, hsize, hby⟩, hzs⟩ := hE'
 have hrl := hr.1
 obtain ⟨ad, rfl, _, hc⟩ := hr.2 hm0
 have hl : (xs ++ news).length = n + m := by rw [List.length_append, hn, hrl]
 have hreads : ∀ {w' : World} {m' c' : Nat} {ys : List Value}, Own B w' e (.slice (some ⟨g, 0, none⟩) m' c') ys → m' = ys.length → Rds w' w'.heap.size (some ⟨g, 0, none⟩) m' ys := by
  intro w' m' c' ys h e'
  obtain ⟨A', c2, e2, _, _, _, hrr⟩ := h.form
  injection e2 with e3 e4 e5
  subst e3
  rw [e']
  exact hrr
 by_cases hroom : n + m ≤ cap
 ·have hown' : w.ownsRow B e 1 (.slice (some ⟨g, 0, none⟩) n cap) n xs := by have := hown; unfold Own at this; rwa [hn] at this
  obtain ⟨w', hrun, ho, hg⟩ := run_append_fits (P := P) w B t ty e i 1 ht hi hsize g n cap xs hown' ad m c news (by omega) hc h1 hroom
  have hown2 : Own B w' e (.slice (some ⟨g, 0, none⟩) (n + m) cap) (xs ++ news) := by unfold Own; rw [hl]; exact ho
  have hrd := (hreads hown2 hl.symm).take (k := n) (by omega)
  rw [List.take_left' hn] at hrd
  exact ⟨_, w', hrun, hown2, hrd, (Mod.refl _ w).grown hg (fun k hk _ => by injection hk with hk; exact hk.symm)⟩
 ·have hrd := hreads hown hn.symm
  have hc0 : ∀ j u, xs[j]? = some u → w.cell? ((⟨g, 0, none⟩ : Addr).add j) = some u := fun j u hu => by
   have h0 : 0 < n := by have := (List.getElem?_eq_some_iff.1 hu).1; omega
   obtain ⟨ad1, e1, _, hc1⟩ := hrd.2 h0
   injection e1 with e1
   subst e1
   exact hc1 j u hu
  have hgr : cap < n + m := by omega
  obtain ⟨c', w', hrun, ho, hbl⟩ := run_grow (ty := ty) (c := c) (d := ⟨g, 0, none⟩) hE hc0 hn hr hgr hm0 hm hb
  exact ⟨_, w', hrun, ho.mono hB, (hrd.below hbl).fit, (Mod.of_below hbl).mono (fun i hi h => by omega)⟩
theorem wpList_kept {ops : Array Oper} {rest : List Oper} {o : Oper} {a : Act} {Q : Exit → Act → World → Prop} (hgd : o.guard = none) (s x : Operand) (t : TypeId)
  (ho : o.op = .call { callee := .builtin .append, args := #[s, x], argTypes := #[t, t] }) {e : TypeId} {z : Value} {bytes : Nat} (hE : Elt P t e z bytes)
  {B B2 g n cap m c : Nat} {xs news : List Value} {A : Option Addr} (hs : a.eval s = .slice (some ⟨g, 0, none⟩) n cap) (hown : Own B w e (.slice (some ⟨g, 0, none⟩) n cap) xs) (hn : xs.length = n) (hx : a.eval x = .slice A m c) (hr : Rds w B2 A m news) (h1 : ∀ u ∈ news, u.oneCell' = true)
  (hm0 : 0 < m) (hm : n + m ≤ maxLen) (hb : (n + m) * bytes ≤ 140737488355328) (hB : B ≤ w.heap.size)
  (h : ∀ v' w', Hid (Own B w' e v' (xs ++ news)) → Hid (Rds w' w'.heap.size (some ⟨g, 0, none⟩) n xs) → Hid (Mod (fun k => k = g) w w') → wpList P ops Q rest (a.put o.dst v') w') : wpList P ops Q (o :: rest) a w := by
 refine wpList_plain hgd fun _ hK => ?_
 obtain ⟨v', w', hrun, h2, h3, h4⟩ := run_kept (ty := o.type) (c := c) hE hown hn hr h1 hm0 hm hb hB
 unfold Oper.wp execOp
 simp only [ho, resolve, invoke, builtin, Sem.run_bind, Sem.run_pure, Result.andThen_ok, List.map_toArray, List.map_cons, List.map_nil, hs, hx, hrun]
 exact hK _ _ (h v' w' (Lib.hid h2) (Lib.hid h3) (Lib.hid h4))
end
def lTwo : List (Int × Nat) := [(-1, 7), (2, 7)]
theorem lTwo_good : GoodS lTwo := by
 intro p hp
 simp only [lTwo, List.mem_cons, List.not_mem_nil, or_false] at hp
 rcases hp with rfl | rfl <;> exact ⟨⟨by decide, by decide⟩, by decide⟩
theorem cTwo_facts : ∃ b, makeC 6 lTwo = some b ∧ 4 ≤ b.length ∧ b.take 4 = [6, 2, 1, 4] ∧ hdC b = some ((6, 2, -1, 2), 4) ∧ openC (b ++ [0]) = none := by
 refine ⟨(makeC 6 lTwo).getD [], ?_, ?_, ?_, ?_, ?_⟩ <;> decide +kernel
theorem makeC_nil (k : Int) : makeC k [] = none := rfl
end Go.Proofs.YtjmjlflmcpkmnaaDoor

/- What the document fixes of layer 11: awake. -/
namespace Go.Proofs.YtjmjlflmcpkmnaaDoor
open Go.RowKit

theorem rds_pair (w : World) (a b : Int) (x y : Nat) : RdsS (w.alloc (.cells #[.int .i64 a, .int .u64 (x : Int), .int .i64 b, .int .u64 (y : Int)] 36)) (w.heap.size + 1) (some ⟨w.heap.size, 0, none⟩) 2 [(a, x), (b, y)] :=
 ⟨rfl, Rds.lit w 36 #[.int .i64 a, .int .u64 (x : Int), .int .i64 b, .int .u64 (y : Int)]⟩
/-- The first four bytes of a row. -/
theorem four_at {w : World} {B g n : Nat} {bs : List Nat} {a b c d : Nat} (h : Rds w B (some ⟨g, 0, none⟩) n (cells8 bs)) (hn : 4 ≤ n) (ht : bs.take 4 = [a, b, c, d]) :
  w.cell? ⟨g, 0, none⟩ = some (.int .u8 (a : Int)) ∧ w.cell? ⟨g, 1, none⟩ = some (.int .u8 (b : Int)) ∧ w.cell? ⟨g, 2, none⟩ = some (.int .u8 (c : Int)) ∧ w.cell? ⟨g, 3, none⟩ = some (.int .u8 (d : Int)) := by
 obtain ⟨ad, e, _, hc⟩ := h.2 (by omega)
 injection e with e
 subst e
 have key : ∀ (i : Nat) (x : Nat), i < 4 → [a, b, c, d][i]? = some x → w.cell? ⟨g, i, none⟩ = some (.int .u8 (x : Int)) := by
  intro i x hi hx
  rw [← ht, List.getElem?_take, if_pos hi] at hx
  have h2 := hc i (.int .u8 (x : Int)) (by rw [cells8_get, hx]; rfl)
  rwa [add_addr, Nat.zero_add] at h2
 exact ⟨key 0 a (by decide) rfl, key 1 b (by decide) rfl, key 2 c (by decide) rfl, key 3 d (by decide) rfl⟩
/-- The tables stay where a row of the call's own turns. -/
theorem Tabs.mod1 {w0 w w' : World} {g : Nat} (h0 : Tabs w0) (h : Tabs w) (hm : Mod (fun k => k = g) w w') (hg : w0.heap.size ≤ g) : Tabs w' :=
 ⟨h.wid.mod hm (fun e => by have := h0.wid.1; omega), h.deb.mod hm (fun e => by have := h0.deb.1; omega), h.kin.mod hm (fun e => by have := h0.kin.1; omega)⟩
set_option maxHeartbeats 2000000 in
set_option maxRecDepth 100000 in
theorem jawake_any (w : World) (ht : Tabs w) : Calls Tryd.prog 8 #[] w fun e w' => e = .returned (.bool true) ∧ Mod (fun _ => False) w w' := by
 obtain ⟨b, hb, hb4, hbt, hbh, hb0⟩ := cTwo_facts
 have hlt := makeC_256 hb
 have hlen := makeC_len lTwo_good hb
 have hopen : openX b = some (lTwo, 6) := by rw [openX_eq hlt, openC_make lTwo_good hb]; rfl
 have hno : openX (b ++ [0]) = none := by rw [openX_eq (lt256_app hlt (fun x hx => by simp at hx; omega)), hb0]
 have hln : b.length ≤ 2795 := by have : lTwo.length = 2 := rfl; omega
 have hv : hdV (hdC b) = (6, 2, -1, 2) ∧ (hdC b).isSome = true := by rw [hbh]; exact ⟨rfl, rfl⟩
 have Ht := Lib.hid ht; have Hb := Lib.hid hb; have Hbt := Lib.hid hbt; have Hlt := Lib.hid hlt; have Hopen := Lib.hid hopen; have Hno := Lib.hid hno; have Hln := Lib.hid hln; have Hv := Lib.hid hv; have Hb4 := Lib.hid hb4
 clear ht hb hbt hlt hlen hopen hno hln hv hb4 hbh hb0
 go_enter Tryd.func8, Tryd.ntmps8
 go_wp2_with fail
 refine (jmake_any 6 _ 2 2 lTwo _ (rds_pair w (-1) 2 7 7).fit lTwo_good (Ht.out.mod ((Mod.refl _ _).alloc _))).mono ?_
 intro e w1 he
 have he' : EncB _ w1 (makeC 6 lTwo) e := he
 obtain ⟨v1, rfl, ho1, hm1⟩ := EncB.some_ he' Hb.out
 obtain ⟨L, hL⟩ : ∃ L, b.length = L := ⟨_, rfl⟩
 obtain ⟨A1, c1, rfl, hc1, hcm1, hA1⟩ := u_formN8 ho1 hL
 have hL4' : 4 ≤ L := by have := Hb4.out; omega
 have hLn : L ≤ 2795 := by have := Hln.out; omega
 obtain ⟨g, rfl, hgB, hgl⟩ := hA1 (by omega)
 have hr1 := Own.rds8 ho1 hL
 have HL := Lib.hid hL; have Ho1 := Lib.hid ho1; have Hr1 := Lib.hid hr1; have Hcm1 := Lib.hid hcm1; have Hgl := Lib.hid hgl
 have Hm1 := Lib.hid (((Mod.refl (fun _ => False) w).alloc (.cells #[.int .i64 (-1), .int .u64 ((7 : Nat) : Int), .int .i64 2, .int .u64 ((7 : Nat) : Int)] 36)).trans hm1 (fun _ _ h => h))
 have HgB : Hid (w.heap.size + 1 ≤ g) := Lib.hid (by simpa using hgB)
 have hm1s : w.heap.size + 1 ≤ w1.heap.size := by have := hm1.size; simpa using this
 have Hl1 := Lib.hid ((rds_pair w (-1) 2 7 7).mod hm1 (by simp) (fun _ _ h => h))
 have T1 := Lib.hid (Ht.out.mod Hm1.out)
 clear he he' hm1 hL ho1 hr1 hcm1 hgl hgB hA1
 go_wp2_with fail
 refine (jopen_any _ L c1 b w1 Hr1.out Hlt.out hc1 Hcm1.out (by omega) T1.out).mono ?_
 intro e w2 he
 have he' : EncO w1 w2 (openX b) e := he
 obtain ⟨v2, rfl, ho2, hm2⟩ := EncO.some_ he' Hopen.out
 obtain ⟨A2, L2, c2, rfl, HL2, _, _, hr2⟩ := ho2.formN
 have hL2 : L2 = 2 := by have := HL2.out; exact this.symm
 subst hL2
 have Hr2 := Lib.hid hr2; have Hm2 := Lib.hid (Hm1.out.trans hm2 (fun _ _ h => h)); have Ho2 := Lib.hid (Ho1.out.mod hm2); have Hl2 := Lib.hid (Hl1.out.mod hm2 (by have := hm1s; omega) (fun _ _ h => h)); have Hb2 := Lib.hid (Hr1.out.new hm2).fit; have T2 := Lib.hid (T1.out.mod hm2)
 have Hgl2 : Hid (g < w2.heap.size) := Lib.hid (Nat.lt_of_lt_of_le Hgl.out hm2.size)
 have Hv2 : Hid (OwnS w1.heap.size w2 (.slice A2 2 c2) lTwo) := Lib.hid ho2
 have hs2s : w.heap.size + 1 ≤ w2.heap.size := Nat.le_trans hm1s hm2.size
 clear he he' ho2 hm2 hr2 HL2 Ho1 Hr1 Hm1 Hl1 T1
 go_wp2_with fail
 refine (jhead_any _ L c1 b w2 Hb2.out Hlt.out hc1 Hcm1.out).mono ?_
 rintro e w3 ⟨rfl, hm3⟩
 rw [Hv.out.1, Hv.out.2]
 obtain ⟨W, hW⟩ : ∃ W, W = w3.alloc (.cells #[.int .i64 6, .int .i64 2, .int .i64 (-1), .int .i64 2] 31) := ⟨_, rfl⟩
 obtain ⟨hk, hhk⟩ : ∃ hk, hk = w3.heap.size := ⟨_, rfl⟩
 have hmW : Mod (fun _ => False) w2 W := by rw [hW]; exact hm3.alloc _
 have hbW : Blk W hk 31 #[.int .i64 6, .int .i64 2, .int .i64 (-1), .int .i64 2] := by rw [hW, hhk]; exact Blk.new _ _ _
 have hne : hk ≠ g := by have := Hgl2.out; have := hm3.size; omega
 have Hb3 := Lib.hid (Hb2.out.new hmW).fit; have Hm3 := Lib.hid (Hm2.out.trans hmW (fun _ _ h => h)); have Ho3 := Lib.hid (Ho2.out.mod hmW); have Hl3 := Lib.hid (Hl2.out.mod hmW (by have := hs2s; omega) (fun _ _ h => h)); have Hr3 := Lib.hid (Hv2.out.mod hmW); have T3 := Lib.hid (T2.out.mod hmW)
 have HbW := Lib.hid hbW; have HW := Lib.hid hW; have Hne := Lib.hid hne; have Hhk := Lib.hid hhk
 have HsW := Lib.hid hmW.size
 clear hm3 hW hmW hbW hne hhk Ho2 Hl2 Hr2 T2 Hb2 Hm2
 go_upto_region 5 with fail
 rw [← HW.out, ← Hhk.out]
 have Hl0 : Hid (Rds (W.alloc (.cells #[.int .u8 0] 5)) (W.heap.size + 1) (some ⟨W.heap.size, 0, none⟩) 1 [.int .u8 0]) := Lib.hid (Rds.lit W 5 #[.int .u8 0])
 have Ho3a := Lib.hid (Ho3.out.alloc (.cells #[.int .u8 0] 5))
 have HL8 : Hid ((cells8 b).length = L) := Lib.hid (by rw [cells8_length]; exact HL.out)
 have hsW : w.heap.size + 1 ≤ W.heap.size := Nat.le_trans hs2s HsW.out
 have hsz3 : (w.alloc (.cells #[.int .i64 (-1), .int .u64 ((7 : Nat) : Int), .int .i64 2, .int .u64 ((7 : Nat) : Int)] 36)).heap.size ≤ (W.alloc (.cells #[.int .u8 0] 5)).heap.size := by simp; omega
 have hmaxL : L + 1 ≤ maxLen := by unfold maxLen; omega
 have hbyL : (L + 1) * 1 ≤ 140737488355328 := by omega
 go_wp2_with (at_builtin; refine wpList_kept rfl (.tmp 34) (.tmp 35) _ rfl elt8 rfl Ho3a.out HL8.out rfl Hl0.out (by simp [Value.oneCell']) (by omega) hmaxL hbyL hsz3 ?_; intro v4 w4 HO4 HR4 HM4)
 have ho4 : Own (w.alloc (.cells #[.int .i64 (-1), .int .u64 ((7 : Nat) : Int), .int .i64 2, .int .u64 ((7 : Nat) : Int)] 36)).heap.size w4 5 v4 (cells8 (b ++ [0])) := by rw [cells8_snoc]; exact HO4.out
 obtain ⟨A4, L4, c4, rfl, HL4, hc4, hcm4, hr4⟩ := own_formN8 ho4
 have hL4 : L4 ≤ 3000 := by have := HL4.out; rw [List.length_append, HL.out] at this; simp at this; omega
 have hM4 : Mod (fun k => k = g) W w4 := ((Mod.refl _ W).alloc (.cells #[.int .u8 0] 5)).trans HM4.out (fun _ _ h => h)
 have Hm4 := Lib.hid (Hm3.out.trans hM4 (fun i hi h => by have := HgB.out; omega))
 have Hl4 := Lib.hid (Hl3.out.mod hM4 hsW (fun j hj h => by have := HgB.out; omega))
 have Hv4 : Hid (OwnS w1.heap.size w4 (.slice A2 2 c2) lTwo) := Lib.hid (hM4.owns Hr3.out (fun k hk h => by have := (Hr3.out.block k hk).1; have := Hgl.out; omega))
 have Hb4 := Lib.hid HR4.out; have HbH4 := Lib.hid (hM4.blk HbW.out Hne.out); have T4 := Lib.hid (Tabs.mod1 Ht.out T3.out hM4 (by have := HgB.out; omega))
 have Hr4 := Lib.hid hr4
 clear ho4 hr4 hM4 HO4 HR4 HM4 Hl3 Hr3 T3 Hm3 Ho3 Ho3a Hl0 Hb3 HbW HW HL8
 refine (jopen_any A4 L4 c4 (b ++ [0]) w4 Hr4.out (lt256_app Hlt.out (fun x hx => by simp at hx; omega)) hc4 hcm4 (by omega) T4.out).mono ?_
 intro e w5 he
 have he' : EncO w4 w5 (openX (b ++ [0])) e := he
 obtain ⟨rfl, hm5⟩ := EncO.none_ he' Hno.out
 have Hl5 := Lib.hid (Hl4.out.fit.new hm5).fit; have Hv5 := Lib.hid (Hv4.out.mod hm5); have Hb5 := Lib.hid (Hb4.out.new hm5).fit; have HbH5 := Lib.hid (hm5.blk HbH4.out (fun h => h)); have T5 := Lib.hid (T4.out.mod hm5); have Hm5 := Lib.hid (Hm4.out.trans hm5 (fun _ _ h => h))
 clear he he' hm5 Hl4 Hv4 Hb4 HbH4 T4 Hm4 Hr4 hc4 hcm4 hL4 HL4
 go_wp2_with fail
 refine (jmake_any 1 none 0 0 [] w5 (RdsS.nil _ _ _) (fun p hp => by cases hp) T5.out).mono ?_
 intro e w6 he
 have he' : EncB w5 w6 (makeC 1 []) e := he
 obtain ⟨rfl, hm6⟩ := EncB.none_ he' (makeC_nil 1)
 have Hl6 := Lib.hid (Hl5.out.new hm6).fit; have Hv6 := Lib.hid ((Hv5.out.mod hm6).rds rfl); have hb6 := (Hb5.out.new hm6).fit; have hh6 := hm6.blk HbH5.out (fun h => h); have Hm6 := Lib.hid (Hm5.out.trans hm6 (fun _ _ h => h))
 obtain ⟨q0, q1, q2, q3⟩ := four_at hb6 hL4' Hbt.out
 have HbH6 := Lib.hid hh6
 have h4L : (4 : Int) ≤ (L : Int) := by omega
 have h0L : (0 : Int) < (L : Int) := by omega
 have h1L : (1 : Int) < (L : Int) := by omega
 have h2L : (2 : Int) < (L : Int) := by omega
 have h3L : (3 : Int) < (L : Int) := by omega
 clear he he' hm6 hb6 hh6 Hl5 Hv5 Hb5 HbH5 T5 Hm5 hsz3
 go_wp2_with fail
 refine (sameS_any A2 _ 2 2 c2 2 _ _ lTwo lTwo true w6 Hv6.out Hl6.out (by decide) (by simp)).mono ?_
 rintro e w7 ⟨rfl, hm7⟩
 have hh7 := hm7.blk HbH6.out (fun h => h)
 have z0 := hh7.cell 0
 have z1 := hh7.cell 1
 have z2 := hh7.cell 2
 have z3 := hh7.cell 3
 simp at z0 z1 z2 z3
 have Hm7 := Lib.hid (Hm6.out.trans hm7 (fun _ _ h => h))
 clear hm7 hh7 HbH6 Hv6 Hl6 q0 q1 q2 q3
 go_wp2_with fail
 go_ret
 exact ⟨rfl, Hm7.out⟩
end Go.Proofs.YtjmjlflmcpkmnaaDoor

/- ChnkTurned's walk. -/
namespace Go.Proofs.YtjmjlflmcpkmnaaDoor
open Go.RowKit

set_option maxHeartbeats 4000000 in
set_option maxRecDepth 100000 in
theorem chnkTurned_walk (A A2 : Option Addr) (n c n2 c2 : Nat) (zs : List Int) (us : List Nat) (how tag bit : Int) (w : World) (hs : SeesI .i64 w w.heap.size A n zs) (hz : ∀ x ∈ zs, FitI x) (hs2 : Rds w w.heap.size A2 n2 (cellsU us)) (hu : ∀ x ∈ us, x < 2 ^ 64) (ht : Tabs w) :
  Calls Tryd.prog 5 #[.slice A n c, .slice A2 n2 c2, .int .i64 how, .int .i64 tag, .int .i64 bit] w fun e w' => e = .returned (.bool true) ∧ Mod (fun _ => False) w w' := by
 have Hs := Lib.hid hs; have Hz := Lib.hid hz; have Hs2 := Lib.hid hs2; have Hu := Lib.hid hu; have Ht := Lib.hid ht
 obtain ⟨x, hx, hx256⟩ : ∃ x : Nat, bits .and .i64 tag 255 = (x : Int) ∧ x < 256 := and_nat tag 255 8 rfl (by omega)
 obtain ⟨y, hy, hy20⟩ : ∃ y : Nat, bits .and .i64 bit 1048575 = (y : Int) ∧ y < 2 ^ 20 := and_nat bit 1048575 20 rfl (by omega)
 obtain ⟨p, hp⟩ : ∃ p, p = x % 6 + 1 := ⟨_, rfl⟩
 have hp6 : 1 ≤ p ∧ p ≤ 6 := by omega
 have hxp : (x : Int) % 6 + 1 = (p : Int) := by omega
 clear hs hz hs2 hu ht hp
 go_enter Tryd.func5, Tryd.ntmps5
 go_wp2_with fail
 refine (row_any A A2 n c n2 c2 zs us how w Hs.out Hz.out Hs2.out Hu.out).mono ?_
 rintro e w1 ⟨v, l, rfl, ho1, hg, hr, hl60, hm1⟩
 obtain ⟨A1, L, c1, rfl, HL, hc1, _, hr1⟩ := ho1.formN
 have Hr1 := Lib.hid hr1; have Hg := Lib.hid hg; have Hr := Lib.hid hr; have Hm1 := Lib.hid hm1; have T1 := Lib.hid (Ht.out.mod hm1)
 have hL60 : L ≤ 60 := by have := HL.out; omega
 clear ho1 hg hr hl60 hm1 hr1 Hs Hz Hs2 Hu Ht hc1
 go_wp2_with fail
 refine (jmake_any (p : Int) A1 L c1 l w1 Hr1.out Hg.out T1.out).mono ?_
 intro e w2 he
 have he' : EncB w1 w2 (makeC (p : Int) l) e := he
 clear he
 cases ho : makeC (p : Int) l with
 | none =>
  obtain ⟨rfl, hm2⟩ := EncB.none_ he' ho
  have hwhich := makeC_is Hr.out (by rw [HL.out]; omega) hp6.1 hp6.2 ho
  have Hm2 := Lib.hid (Hm1.out.trans hm2 (fun _ _ h => h)); have T2 := Lib.hid (T1.out.mod hm2)
  clear he' ho hm2 Hr1 Hm1 T1 hy
  obtain ⟨b0, hb0⟩ : ∃ b0, b0 = ((L : Int) == 0) := ⟨_, rfl⟩
  obtain ⟨b2, hb2⟩ : ∃ b2, b2 = ((p : Int) == 2) := ⟨_, rfl⟩
  obtain ⟨b6, hb6⟩ : ∃ b6, b6 = ((p : Int) == 6) := ⟨_, rfl⟩
  have hor : b0 = true ∨ b2 = true ∨ b6 = true := by
   rcases hwhich with h | h | h
   ·left; rw [hb0]; have : L = 0 := by rw [← HL.out, h]; rfl
    simp [this]
   ·right; left; rw [hb2, h]; rfl
   ·right; right; rw [hb6, h]; rfl
  clear hwhich
  have Hb0 := hb0.symm; have Hb2 := hb2.symm; have Hb6 := hb6.symm
  clear hb0 hb2 hb6
  rcases b0 with _ | _
  ·rcases b2 with _ | _
   ·obtain rfl : b6 = true := by simpa using hor
    go_wp2_with fail
    refine (jawake_any w2 T2.out).mono ?_
    rintro e w3 ⟨rfl, hm3⟩
    have Hm3 := Lib.hid (Hm2.out.trans hm3 (fun _ _ h => h))
    clear hm3
    go_wp2_with fail
    go_ret
    exact ⟨rfl, Hm3.out⟩
   ·go_wp2_with fail
    refine (jawake_any w2 T2.out).mono ?_
    rintro e w3 ⟨rfl, hm3⟩
    have Hm3 := Lib.hid (Hm2.out.trans hm3 (fun _ _ h => h))
    clear hm3
    go_wp2_with fail
    go_ret
    exact ⟨rfl, Hm3.out⟩
  ·go_wp2_with fail
   refine (jawake_any w2 T2.out).mono ?_
   rintro e w3 ⟨rfl, hm3⟩
   have Hm3 := Lib.hid (Hm2.out.trans hm3 (fun _ _ h => h))
   clear hm3
   go_wp2_with fail
   go_ret
   exact ⟨rfl, Hm3.out⟩
 | some bs =>
  obtain ⟨v2, rfl, ho2, hm2⟩ := EncB.some_ he' ho
  have hlt := makeC_256 ho
  have hlen := makeC_len Hg.out ho
  have hlen8 := makeC_len8 ho
  have hopen : openX bs = some (l, p) := by rw [openX_of Hg.out ho, Int.toNat_natCast]
  obtain ⟨N, hN⟩ : ∃ N, bs.length = N := ⟨_, rfl⟩
  have hr2 := ho2
  obtain ⟨A3, c3, rfl, hc3, hcm3, _⟩ := u_formN8 ho2 hN
  have hr3 := Own.rds8 ho2 hN
  have hN1 : N ≤ 10000 := by have := HL.out; omega
  have hN8 : 8 ≤ N := by omega
  have Ho := Lib.hid ho; have Hlt := Lib.hid hlt; have Hopen := Lib.hid hopen; have Hb2 := Lib.hid hr3; have HN := Lib.hid hN; have Hcm3 := Lib.hid hcm3
  have Hr2 := Lib.hid (Hr1.out.new hm2).fit; have Hm2 := Lib.hid (Hm1.out.trans hm2 (fun _ _ h => h)); have T2 := Lib.hid (T1.out.mod hm2)
  clear he' ho hr2 ho2 hm2 hlt hlen hlen8 hopen hN hr3 hcm3 Hr1 Hm1 T1
  go_wp2_with fail
  refine (jopen_any A3 N c3 bs w2 Hb2.out Hlt.out hc3 Hcm3.out (by omega) T2.out).mono ?_
  intro e w3 he
  have he' : EncO w2 w3 (openX bs) e := he
  obtain ⟨v3, rfl, ho3, hm3⟩ := EncO.some_ he' Hopen.out
  obtain ⟨A4, L4, c4, rfl, HL4, _, _, hr4⟩ := ho3.formN
  obtain rfl : L4 = L := by have := HL4.out; have := HL.out; omega
  have Hr4 := Lib.hid hr4; have Hr3 := Lib.hid (Hr2.out.new hm3).fit; have Hb3 := Lib.hid (Hb2.out.new hm3).fit; have Hm3 := Lib.hid (Hm2.out.trans hm3 (fun _ _ h => h)); have T3 := Lib.hid (T2.out.mod hm3)
  have hN0 : ((N : Int) == 0) = false := by simp; omega
  clear he he' ho3 hm3 hr4 Hr2 Hb2 Hm2 T2
  go_wp2_with fail
  refine (sameS_any A4 A1 L4 L4 c4 c1 _ _ l l true w3 Hr4.out Hr3.out (by omega) (by simp)).mono ?_
  rintro e w4 ⟨rfl, hm4⟩
  have Hb4 := Lib.hid (Hb3.out.new hm4).fit; have Hm4 := Lib.hid (Hm3.out.trans hm4 (fun _ _ h => h)); have T4 := Lib.hid (T3.out.mod hm4)
  clear hm4 Hb3 Hm3 T3 Hr4 Hr3 hx hxp hx256
  obtain ⟨k, hk, hkl⟩ : ∃ k : Nat, (y : Int).tmod (8 * (N : Int)) = (k : Int) ∧ k < 8 * N := by
   rw [Int.tmod_eq_emod_of_nonneg (by omega)]
   have h2 := Int.emod_nonneg (y : Int) (show 8 * (N : Int) ≠ 0 by omega)
   have h3 := Int.emod_lt_of_pos (y : Int) (show (0 : Int) < 8 * (N : Int) by omega)
   exact ⟨((y : Int) % (8 * (N : Int))).toNat, by omega, by omega⟩
  have hk' : (y : Int) % (8 * (N : Int)) = (k : Int) := by rw [← hk, Int.tmod_eq_emod_of_nonneg (by omega)]
  have hN80 : ((8 * (N : Int)) == 0) = false := by simp; omega
  have hlit : Hid (Own w4.heap.size (w4.alloc (.cells #[] 5)) 5 (.slice (some ⟨w4.heap.size, 0, none⟩) 0 0) []) := Lib.hid (Own.lit w4 5 #[] (by simp))
  have hR0 : Room (List.length ([] : List Value)) N := Room.mk _ _ (by simp; omega)
  have HNs := Lib.hid (show N = bs.length from HN.out.symm)
  go_upto_region 9 with (at_builtin; refine wpList_app rfl (.tmp 84) (.tmp 85) _ rfl elt8 rfl hlit.out rfl (Hb4.out.alloc (Nat.le_refl _) _) (cells8_one _) hR0.1 hR0.2 (le_alloc _ _) ?_; intro vx wx OX BX HH; clear HH; obtain ⟨gx, cx, rfl, hgx, hgx2, hcx, hcx2⟩ := own_some (bs := bs) (by have := OX.out; rwa [List.nil_append] at this) HNs.out (by omega))
  have OX1 : Hid (Own w4.heap.size wx 5 (.slice (some ⟨gx, 0, none⟩) N cx) (cells8 bs)) := Lib.hid (by have := OX.out; rwa [List.nil_append] at this)
  have Hmx := Lib.hid ((Hm4.out.alloc (.cells #[] 5)).trans (Mod.of_below BX.out) (fun i hi h => by have := Hm4.out.size; omega))
  have Tx := Lib.hid (T4.out.mod (((Mod.refl (fun _ => False) w4).alloc (.cells #[] 5)).trans (Mod.of_below BX.out) (fun i hi h => by omega)))
  have Hszx := Lib.hid Hm4.out.size
  obtain ⟨q, hq, hqn, hq2⟩ : ∃ q : Nat, (k : Int) / 8 = (q : Int) ∧ q < N ∧ q = k / 8 := ⟨k / 8, by omega, by omega, rfl⟩
  obtain ⟨r, hr, hr8⟩ : ∃ r : Nat, bits .and .i64 (k : Int) 7 = (r : Int) ∧ r < 8 := ⟨k % 8, by rw [i64_and7]; omega, by omega⟩
  have hqi : (q : Int) < (N : Int) := by omega
  have hq0 : (0 : Int) ≤ (q : Int) := by omega
  obtain ⟨_, hfx, _⟩ := own_set (b := 0) (k := q) OX1.out HNs.out hqn
  obtain ⟨z, hz, hczz⟩ := own_at OX1.out HNs.out hqn
  obtain ⟨m, hm, hm0, hm8⟩ : ∃ m : Nat, (2 : Int) ^ r % 256 = (m : Int) ∧ 0 < m ∧ m < 256 := by
   have h1 : 0 < (2 : Nat) ^ r := Nat.two_pow_pos r
   have h2 : (2 : Nat) ^ r ≤ 2 ^ 7 := Nat.pow_le_pow_right (by omega) (by omega)
   have h3 : (2 : Int) ^ r = ((2 ^ r : Nat) : Int) := by simp
   refine ⟨2 ^ r, ?_, h1, by omega⟩
   rw [h3]
   generalize (2 : Nat) ^ r = y at *
   omega
  have hz8 : z < 256 := Hlt.out z (List.mem_of_getElem? hz)
  obtain ⟨u, hu, hu2⟩ : ∃ u : Nat, bits .xor .u8 (z : Int) (m : Int) = (u : Int) ∧ u = z ^^^ m := ⟨_, u8_xor_nat z m hz8 hm8, rfl⟩
  have Hno : Hid (openX (bs.set q u) = none) := Lib.hid (by rw [hu2]; exact openX_turned Ho.out hz hm8 hm0)
  have Hlt2 : Hid (lt256 (bs.set q u)) := Lib.hid (fun t ht => by
   rcases List.mem_or_eq_of_mem_set ht with h1 | h1
   ·exact Hlt.out t h1
   ·rw [h1, hu2]; exact xor_lt8 hz8 hm8)
  have OX2 := Lib.hid ((own_set (b := u) OX1.out HNs.out hqn).2.2)
  have Hm5 := Lib.hid (mod_new (p := ⟨gx, q, none⟩) Hmx.out (by have := Hszx.out; simp; omega) (.int .u8 (u : Int)))
  have T5 := Lib.hid (Tabs.mod1 T4.out Tx.out ((Mod.refl (fun k => k = gx) wx).setCell (p := ⟨gx, q, none⟩) (fun _ => rfl) (.int .u8 (u : Int))) hgx)
  have HNu := Lib.hid (show (bs.set q u).length = N by rw [List.length_set]; exact HN.out)
  clear hz hq2 hu2 OX BX hlit hR0 OX1 Tx Hmx hgx
  go_upto_region 11 with fail
  obtain ⟨W2, hW2⟩ : ∃ W2, W2 = wx.setCell ⟨gx, q, none⟩ (.int .u8 (u : Int)) := ⟨_, rfl⟩
  rw [← hW2] at OX2 Hm5 T5 ⊢
  have RX2 := Lib.hid (Own.rds8 OX2.out HNu.out)
  have hNc : N ≤ cx := hcx
  have hcm := hcx2
  clear hr hm hu hczz hfx OX2 hW2
  go_wp2_with fail
  refine (jopen_any _ N cx (bs.set q u) W2 RX2.out Hlt2.out hNc hcm (by omega) T5.out).mono ?_
  intro e w6 he
  have he' : EncO W2 w6 (openX (bs.set q u)) e := he
  obtain ⟨rfl, hm6⟩ := EncO.none_ he' Hno.out
  have Hm6 := Lib.hid (Hm5.out.trans hm6 (fun _ _ h => h)); have T6 := Lib.hid (T5.out.mod hm6)
  clear he he' hm6 Hm5 T5 RX2
  go_wp2_with fail
  refine (jawake_any w6 T6.out).mono ?_
  rintro e w7 ⟨rfl, hm7⟩
  have Hm7 := Lib.hid (Hm6.out.trans hm7 (fun _ _ h => h))
  clear hm7
  go_wp2_with fail
  go_ret
  exact ⟨rfl, Hm7.out⟩
end Go.Proofs.YtjmjlflmcpkmnaaDoor

/- From the row's list to the widths. -/
namespace Go.Proofs.YtjmjlflmcpkmnaaDoor
open Go.RowKit
/-- The list without its first table. -/
theorem laid_tail {P : Program} {W : World} {x : String × DataW Unit} {rest : List (String × DataW Unit)} (h : laidMet P (x :: rest) W) : laidMet P rest W := by
 obtain ⟨n, d⟩ := x
 obtain ⟨ps, ⟨g, t, cs, fuel, p, q, _, _, _, _, hq, rfl⟩, hnd, hc⟩ := h
 exact ⟨q, hq, (List.nodup_append.1 hnd).2.1, fun b off hm => hc b off (List.mem_append_right _ hm)⟩
theorem wid_of_tab {w : World} (h : Lib.TabIs Tryd.prog w "ephemeris/time.widths" .i64 [0, 7, 9, 12, 64]) : Wid w := by
 have hc : ∀ i, i < 5 → w.cell? ⟨1, i, none⟩ = some (.int .i64 (([0, 7, 9, 12, 64] : List Int).getD i 0)) := fun i hi => h.cell (by kernel_rfl) i hi
 refine ⟨World.block_lt_of_cell? w _ (hc 0 (by decide)), fun i hi => ?_⟩
 rw [hc i hi]
 have hi' : i = 0 ∨ i = 1 ∨ i = 2 ∨ i = 3 ∨ i = 4 := by omega
 rcases hi' with rfl | rfl | rfl | rfl | rfl <;> rfl
end Go.Proofs.YtjmjlflmcpkmnaaDoor

/- From the row's list to the table of math/bits. -/
namespace Go.Proofs.YtjmjlflmcpkmnaaDoor
open Go.RowKit
theorem deb_of_tab {w : World} (h : Lib.TabIs Tryd.prog w "math/bits.deBruijn64tab" .u8 [0, 1, 56, 2, 57, 49, 28, 3, 61, 58, 42, 50, 38, 29, 17, 4, 62, 47, 59, 36, 45, 43, 51, 22, 53, 39, 33, 30, 24, 18, 12, 5, 63, 55, 48, 27, 60, 41, 37, 16, 46, 35, 44, 21, 52, 32, 23, 11, 54, 26, 40, 15, 34, 20, 31, 10, 25, 14, 19, 9, 13, 8, 7, 6]) : Deb w := by
 have hd : ∀ t : Fin 64, (([0, 1, 56, 2, 57, 49, 28, 3, 61, 58, 42, 50, 38, 29, 17, 4, 62, 47, 59, 36, 45, 43, 51, 22, 53, 39, 33, 30, 24, 18, 12, 5, 63, 55, 48, 27, 60, 41, 37, 16, 46, 35, 44, 21, 52, 32, 23, 11, 54, 26, 40, 15, 34, 20, 31, 10, 25, 14, 19, 9, 13, 8, 7, 6] : List Int).getD t.val 0) = (deb t.val : Int) := by decide +kernel
 have hc : ∀ t, t < 64 → w.cell? ⟨2, t, none⟩ = some (.int .u8 (deb t : Int)) := fun t ht => by
  rw [← hd ⟨t, ht⟩]
  exact h.cell (by kernel_rfl) t ht
 exact ⟨World.block_lt_of_cell? w _ (hc 0 (by decide)), hc⟩
end Go.Proofs.YtjmjlflmcpkmnaaDoor

/- Chunks: what becomes of a head whose bytes have turned. -/
namespace Go.Proofs.YtjmjlflmcpkmnaaDoor

theorem hdC_first (r : List Nat) : hdC (0 :: r) = none ∧ hdC (7 :: r) = none := by
 constructor
 ·simp only [hdC]
  exact if_pos (.inl (by decide))
 ·simp only [hdC]
  exact if_pos (.inr (.inl (by decide)))
theorem dec_nought (r : List Nat) : dec (0 :: r) = (0, 1) := decF_end (i := 0) (acc := 0) (by decide) (by decide) (by omega)
theorem hdC_nought (t : Nat) (r : List Nat) : hdC (t :: 0 :: r) = none := by
 simp only [hdC, dec_nought]
 exact if_pos (by omega)
theorem hdC_one (t : Nat) : hdC [t] = none := by
 have h : (dec []).2 = 0 := by decide
 simp only [hdC]
 exact if_pos (.inr (.inr (.inl h)))
/-- What a chunk's head tells, whatever stands at the end; and where it tells nothing. -/
theorem heads_of {p : Nat} {l : List (Int × Nat)} {bs : List Nat} (hg : GoodS l) (h : makeC (p : Int) l = some bs) :
  (hdV (hdC bs) = (p, l.length, fstT l, lstT l) ∧ (hdC bs).isSome = true) ∧
  ∀ u, (hdV (hdC (bs.set (bs.length - 1) u)) = (p, l.length, fstT l, lstT l) ∧ (hdC (bs.set (bs.length - 1) u)).isSome = true) ∧
   hdC ((bs.set (bs.length - 1) u).set 0 0) = none ∧ hdC ((bs.set (bs.length - 1) u).set 0 7) = none ∧ hdC ((bs.set (bs.length - 1) u).set 1 0) = none ∧ hdC ((bs.set (bs.length - 1) u).take 1) = none := by
 have h8 := makeC_len8 h
 obtain ⟨hl, b, h1, h2⟩ := makeC_some h
 obtain ⟨s, hs⟩ : ∃ s, s = b ++ sum4 (sumN ent (headR (p : Int) l ++ b)) := ⟨_, rfl⟩
 have hsl : 4 ≤ s.length := by rw [hs, List.length_append]; show 4 ≤ b.length + 4; omega
 have hb : bs = headR (p : Int) l ++ s := by rw [h2, hs, List.append_assoc]
 have hd : ∀ r, hdV (hdC (headR (p : Int) l ++ r)) = (p, l.length, fstT l, lstT l) ∧ (hdC (headR (p : Int) l ++ r)).isSome = true := fun r => by
  rw [hdC_headR hg hl h1 r]
  exact ⟨rfl, rfl⟩
 refine ⟨by rw [hb]; exact hd s, fun u => ⟨?_, ?_⟩⟩
 ·rw [hb, List.set_append_right _ _ (by rw [List.length_append]; omega)]
  exact hd _
 ·have hc : 8 ≤ (bs.set (bs.length - 1) u).length := by rw [List.length_set]; exact h8
  generalize bs.set (bs.length - 1) u = c at hc
  match c, hc with
  | [], hc => simp at hc
  | [_], hc => simp at hc
  | t :: y :: r, _ => exact ⟨(hdC_first _).1, (hdC_first _).2, hdC_nought t r, hdC_one t⟩
end Go.Proofs.YtjmjlflmcpkmnaaDoor

/- ChnkHeads' walk. -/
namespace Go.Proofs.YtjmjlflmcpkmnaaDoor
open Go.RowKit

set_option maxHeartbeats 1000000 in
set_option maxRecDepth 100000 in
theorem chnkHeads_walk (A A2 : Option Addr) (n c n2 c2 : Nat) (zs : List Int) (us : List Nat) (how tag wrong : Int) (w : World) (hs : SeesI .i64 w w.heap.size A n zs) (hz : ∀ x ∈ zs, FitI x) (hs2 : Rds w w.heap.size A2 n2 (cellsU us)) (hu : ∀ x ∈ us, x < 2 ^ 64) (ht : Tabs w) :
  Calls Tryd.prog 3 #[.slice A n c, .slice A2 n2 c2, .int .i64 how, .int .i64 tag, .int .i64 wrong] w fun e w' => e = .returned (.bool true) ∧ Mod (fun _ => False) w w' := by
 have Hs := Lib.hid hs; have Hz := Lib.hid hz; have Hs2 := Lib.hid hs2; have Hu := Lib.hid hu; have Ht := Lib.hid ht
 obtain ⟨x, hx, hx256⟩ : ∃ x : Nat, bits .and .i64 tag 255 = (x : Int) ∧ x < 256 := and_nat tag 255 8 rfl (by omega)
 obtain ⟨y, hy, hy4⟩ : ∃ y : Nat, bits .and .i64 wrong 3 = (y : Int) ∧ y < 2 ^ 2 := and_nat wrong 3 2 rfl (by omega)
 obtain ⟨p, hp⟩ : ∃ p, p = x % 6 + 1 := ⟨_, rfl⟩
 have hp6 : 1 ≤ p ∧ p ≤ 6 := by omega
 have hxp : (x : Int) % 6 + 1 = (p : Int) := by omega
 have hcs : Tryd.prog.cellsOf 36 = 2 := by kernel_rfl
 clear hs hz hs2 hu ht hp
 go_enter Tryd.func3, Tryd.ntmps3
 go_wp2_with fail
 refine (row_any A A2 n c n2 c2 zs us how w Hs.out Hz.out Hs2.out Hu.out).mono ?_
 rintro e w1 ⟨v, l, rfl, ho1, hg, hr, hl60, hm1⟩
 obtain ⟨A1, L, c1, rfl, HL, hc1, _, hr1⟩ := ho1.formN
 have Hr1 := Lib.hid hr1; have Hg := Lib.hid hg; have Hm1 := Lib.hid hm1; have T1 := Lib.hid (Ht.out.mod hm1)
 have hL60 : L ≤ 60 := by have := HL.out; omega
 clear ho1 hg hr hl60 hm1 hr1 Hs Hz Hs2 Hu Ht hc1
 go_wp2_with fail
 refine (jmake_any (p : Int) A1 L c1 l w1 Hr1.out Hg.out T1.out).mono ?_
 intro e w2 he
 have he' : EncB w1 w2 (makeC (p : Int) l) e := he
 clear he hx hxp hx256
 cases ho : makeC (p : Int) l with
 | none =>
  obtain ⟨rfl, hm2⟩ := EncB.none_ he' ho
  have Hm2 := Lib.hid (Hm1.out.trans hm2 (fun _ _ h => h)); have T2 := Lib.hid (T1.out.mod hm2)
  clear he' ho hm2 Hr1 Hm1 T1 hy
  go_wp2_with fail
  refine (jawake_any w2 T2.out).mono ?_
  rintro e w3 ⟨rfl, hm3⟩
  have Hm3 := Lib.hid (Hm2.out.trans hm3 (fun _ _ h => h))
  clear hm3
  go_wp2_with fail
  go_ret
  exact ⟨rfl, Hm3.out⟩
 | some bs =>
  obtain ⟨v2, rfl, ho2, hm2⟩ := EncB.some_ he' ho
  have hlt := makeC_256 ho
  have hlen := makeC_len Hg.out ho
  have hlen8 := makeC_len8 ho
  obtain ⟨hv, hvu⟩ := heads_of Hg.out ho
  have hne : 0 < L := by rw [← HL.out]; exact List.length_pos_iff.2 (makeC_some ho).1
  obtain ⟨f, hf⟩ : ∃ f, f = fstT l := ⟨_, rfl⟩
  obtain ⟨g, hgg⟩ : ∃ g, g = lstT l := ⟨_, rfl⟩
  rw [← hf, ← hgg, HL.out] at hv
  rw [← hf, ← hgg, HL.out] at hvu
  obtain ⟨N, hN⟩ : ∃ N, bs.length = N := ⟨_, rfl⟩
  rw [hN] at hvu
  obtain ⟨A3, c3, rfl, hc3, hcm3, _⟩ := u_formN8 ho2 hN
  have hr3 := Own.rds8 ho2 hN
  have hN1 : N ≤ 10000 := by have := HL.out; omega
  have hN8 : 8 ≤ N := by omega
  have Hlt := Lib.hid hlt; have Hb2 := Lib.hid hr3; have HN := Lib.hid hN; have Hcm3 := Lib.hid hcm3; have Hv := Lib.hid hv; have Hvu := Lib.hid hvu; have Hf := Lib.hid hf; have Hgg := Lib.hid hgg
  have Hr2 := Lib.hid (Hr1.out.new hm2).fit; have Hm2 := Lib.hid (Hm1.out.trans hm2 (fun _ _ h => h)); have T2 := Lib.hid (T1.out.mod hm2)
  clear he' ho ho2 hm2 hlt hlen hlen8 hv hvu hN hr3 hcm3 hf hgg Hr1 Hm1 T1
  go_wp2_with fail
  refine (jhead_any A3 N c3 bs w2 Hb2.out Hlt.out hc3 Hcm3.out).mono ?_
  rintro e w3 ⟨rfl, hm3⟩
  rw [Hv.out.1, Hv.out.2]
  obtain ⟨W, hW⟩ : ∃ W, W = w3.alloc (.cells #[.int .i64 (p : Int), .int .i64 (L : Int), .int .i64 f, .int .i64 g] 31) := ⟨_, rfl⟩
  obtain ⟨hk, hhk⟩ : ∃ hk, hk = w3.heap.size := ⟨_, rfl⟩
  have hmW : Mod (fun _ => False) w2 W := by rw [hW]; exact hm3.alloc _
  have hbW : Blk W hk 31 #[.int .i64 (p : Int), .int .i64 (L : Int), .int .i64 f, .int .i64 g] := by rw [hW, hhk]; exact Blk.new _ _ _
  obtain ⟨j, hj⟩ : ∃ j, L = j + 1 := ⟨L - 1, by omega⟩
  obtain ⟨ad, p1, rfl, _, hp1, hc0, _⟩ := Hr2.out.at2 hne (Nat.le_refl _) hmW (fun _ _ h => h)
  obtain ⟨ad2, q1, e2, _, hq1, hd0, _⟩ := Hr2.out.at2 (show j < L by omega) (Nat.le_refl _) hmW (fun _ _ h => h)
  injection e2 with e2
  subst e2
  have hf : f = p1.1 := by rw [Hf.out]; exact first_get hp1
  have hg : g = q1.1 := by rw [Hgg.out]; exact last_get (by rw [HL.out, hj, Nat.add_sub_cancel]; exact hq1)
  rw [← hf] at hc0
  rw [← hg] at hd0
  have hwj : IntKind.i64.wrap ((L : Int) - 1) = (j : Int) := by rw [IntWalk.i64_in _ (by omega)]; omega
  have h0L : (0 : Int) < (L : Int) := by omega
  have hjL : (j : Int) < (L : Int) := by omega
  have ead : ad.add (0 * 2) = ad := by simp [Addr.add]
  rw [ead] at hc0
  have z0 := hbW.cell 0
  have z1 := hbW.cell 1
  have z2 := hbW.cell 2
  have z3 := hbW.cell 3
  simp at z0 z1 z2 z3
  have hN8i : ¬ (N : Int) < 8 := by omega
  have HW := Lib.hid hW; have Hhk := Lib.hid hhk; have HbW := Lib.hid hbW; have HmW := Lib.hid (Hm2.out.trans hmW (fun _ _ h => h)); have TW := Lib.hid (T2.out.mod hmW); have HbsW := Lib.hid (Hb2.out.new hmW).fit
  clear hm3 hW hhk hmW hbW hp1 hq1 hf hg hj Hr2 Hm2 T2 Hb2 Hf Hgg
  go_upto_region 7 with fail
  rw [← HW.out, ← Hhk.out]
  go_quiet (fail)
  obtain ⟨Wd, hWd⟩ : ∃ Wd, Wd = W.drewN nq := ⟨_, rfl⟩
  have hmD : Mod (fun _ => False) W Wd := by rw [hWd]; exact (Mod.refl _ _).drewN nq
  have HmD := Lib.hid (HmW.out.trans hmD (fun _ _ h => h)); have HbD := Lib.hid (hmD.blk HbW.out (fun h => h)); have TD := Lib.hid (TW.out.mod hmD); have HbsD := Lib.hid (HbsW.out.new hmD).fit
  rw [← hWd]
  clear hWd hmD z0 z1 z2 z3 hc0 hd0 hwj h0L hjL ead HmW HbW TW HbsW HW Hhk
  have hlit : Hid (Own Wd.heap.size (Wd.alloc (.cells #[] 5)) 5 (.slice (some ⟨Wd.heap.size, 0, none⟩) 0 0) []) := Lib.hid (Own.lit Wd 5 #[] (by simp))
  have hR0 : Room (List.length ([] : List Value)) N := Room.mk _ _ (by simp; omega)
  have HNs := Lib.hid (show N = bs.length from HN.out.symm)
  go_upto_region 10 with (at_builtin; refine wpList_app rfl (.tmp 69) (.tmp 70) _ rfl elt8 rfl hlit.out rfl (HbsD.out.alloc (Nat.le_refl _) _) (cells8_one _) hR0.1 hR0.2 (le_alloc _ _) ?_; intro vx wx OX BX HH; clear HH; obtain ⟨gx, cx, rfl, hgx, hgx2, hcx, hcx2⟩ := own_some (bs := bs) (by have := OX.out; rwa [List.nil_append] at this) HNs.out (by omega))
  have OX1 : Hid (Own Wd.heap.size wx 5 (.slice (some ⟨gx, 0, none⟩) N cx) (cells8 bs)) := Lib.hid (by have := OX.out; rwa [List.nil_append] at this)
  have hmx : Mod (fun _ => False) Wd wx := ((Mod.refl (fun _ => False) Wd).alloc (.cells #[] 5)).trans (Mod.of_below BX.out) (fun i hi h => by omega)
  have Hmx := Lib.hid (HmD.out.trans hmx (fun _ _ h => h)); have Tx := Lib.hid (TD.out.mod hmx); have Hbx := Lib.hid (hmx.blk HbD.out (fun h => h))
  have Hszx := Lib.hid HmD.out.size
  obtain ⟨q, hq⟩ : ∃ q, N = q + 1 := ⟨N - 1, by omega⟩
  have hwq : IntKind.i64.wrap ((N : Int) - 1) = (q : Int) := by rw [IntWalk.i64_in _ (by omega)]; omega
  have hqn : q < N := by omega
  have hqi : (q : Int) < (N : Int) := by omega
  obtain ⟨_, hfx, _⟩ := own_set (b := 0) (k := q) OX1.out HNs.out hqn
  obtain ⟨z, hz, hczz⟩ := own_at OX1.out HNs.out hqn
  have hz8 : z < 256 := Hlt.out z (List.mem_of_getElem? hz)
  obtain ⟨u, hu, hu8⟩ : ∃ u : Nat, IntKind.u8.wrap ((z : Int) + 1) = (u : Int) ∧ u < 256 := ⟨(z + 1) % 256, by rw [IntKind.wrap_u8']; omega, by omega⟩
  have hux : (if (z : Int) + 1 < 256 then (z : Int) + 1 else (z : Int) + 1 - 256) = (u : Int) := by rw [IntKind.wrap_u8'] at hu; split <;> omega
  have hvu := Hvu.out u
  rw [show N - 1 = q by omega] at hvu
  obtain ⟨cs, hcs2⟩ : ∃ cs, cs = bs.set q u := ⟨_, rfl⟩
  rw [← hcs2] at hvu
  have Hlc : Hid (lt256 cs) := Lib.hid (fun t ht => by
   rw [hcs2] at ht
   rcases List.mem_or_eq_of_mem_set ht with h1 | h1
   ·exact Hlt.out t h1
   ·rw [h1]; exact hu8)
  have HNc : Hid (cs.length = N) := Lib.hid (by rw [hcs2, List.length_set]; exact HN.out)
  have OX2 := (own_set (b := u) OX1.out HNs.out hqn).2.2
  rw [← hcs2] at OX2
  have hgk : hk ≠ gx := fun e => by have := HbD.out.lt; omega
  have hm2' : Mod (fun k => k = gx) wx (wx.setCell ⟨gx, q, none⟩ (.int .u8 (u : Int))) := (Mod.refl (fun k => k = gx) wx).setCell (p := ⟨gx, q, none⟩) (fun _ => rfl) (.int .u8 (u : Int))
  have Hm5 := Lib.hid (mod_new (p := ⟨gx, q, none⟩) Hmx.out (by have := Hszx.out; simp; omega) (.int .u8 (u : Int)))
  have T5 := Lib.hid (Tabs.mod1 TD.out Tx.out hm2' hgx)
  have Hb5 := Lib.hid (hm2'.blk Hbx.out hgk)
  have HOX2 := Lib.hid OX2; have Hvc := Lib.hid hvu
  have HgxB := Lib.hid hgx
  clear hz hcs2 OX BX hlit hR0 OX1 Tx Hmx hgx hmx Hbx hvu OX2 hm2' HbsD HmD HbD hq
  go_upto_region 11 with fail
  obtain ⟨W2, hW2⟩ : ∃ W2, W2 = wx.setCell ⟨gx, q, none⟩ (.int .u8 (u : Int)) := ⟨_, rfl⟩
  rw [← hW2] at HOX2 Hm5 T5 Hb5 ⊢
  have RX2 := Lib.hid (Own.rds8 HOX2.out HNc.out)
  clear hwq hqi hu hux hczz hfx hW2
  go_wp2_with fail
  refine (jhead_any _ N cx cs W2 RX2.out Hlc.out hcx hcx2).mono ?_
  rintro e w5 ⟨rfl, hm5⟩
  rw [Hvc.out.1.1, Hvc.out.1.2]
  obtain ⟨W5, hW5⟩ : ∃ W5, W5 = w5.alloc (.cells #[.int .i64 (p : Int), .int .i64 (L : Int), .int .i64 f, .int .i64 g] 31) := ⟨_, rfl⟩
  obtain ⟨hk2, hhk2⟩ : ∃ hk2, hk2 = w5.heap.size := ⟨_, rfl⟩
  have hmW : Mod (fun _ => False) W2 W5 := by rw [hW5]; exact hm5.alloc _
  have hbW : Blk W5 hk2 31 #[.int .i64 (p : Int), .int .i64 (L : Int), .int .i64 f, .int .i64 g] := by rw [hW5, hhk2]; exact Blk.new _ _ _
  have hb1 := hmW.blk Hb5.out (fun h => h)
  have y0 := hbW.cell 0
  have y1 := hbW.cell 1
  have y2 := hbW.cell 2
  have y3 := hbW.cell 3
  have z0 := hb1.cell 0
  have z1 := hb1.cell 1
  have z2 := hb1.cell 2
  have z3 := hb1.cell 3
  simp at y0 y1 y2 y3 z0 z1 z2 z3
  have HW5 := Lib.hid hW5; have Hhk2 := Lib.hid hhk2; have Hm6 := Lib.hid (Hm5.out.trans hmW (fun _ _ h => h)); have T6 := Lib.hid (T5.out.mod hmW); have HO6 := Lib.hid (HOX2.out.mod hmW)
  clear hm5 hW5 hhk2 hmW hbW hb1 Hb5 Hm5 T5 HOX2 RX2
  go_upto_region 12 with fail
  rw [← HW5.out, ← Hhk2.out]
  go_upto_region 14 with fail
  clear y0 y1 y2 y3 z0 z1 z2 z3 HW5 Hhk2
  have hy4' : y = 0 ∨ y = 1 ∨ y = 2 ∨ y = 3 := by have h4 : (2 : Nat) ^ 2 = 4 := rfl; omega
  have HNr := Lib.hid HNc.out.symm
  have h0N : (0 : Int) < (N : Int) := by omega
  have h1N : (1 : Int) < (N : Int) := by omega
  have h1cx : (1 : Int) ≤ (cx : Int) := by omega
  rcases hy4' with rfl | rfl | rfl | rfl
  ·have hyb : bits .and .i64 wrong 3 = 0 := hy
   obtain ⟨⟨u0, hu0⟩, hf0, OX7⟩ := own_set (b := 0) (k := 0) HO6.out HNr.out (by omega)
   have OX7' : Own Wd.heap.size (W5.setCell ⟨gx, 0, none⟩ (.int .u8 0)) 5 (.slice (some ⟨gx, 0, none⟩) N cx) (cells8 (cs.set 0 0)) := OX7
   have RX7 := Lib.hid (Own.rds8 OX7' (show (cs.set 0 0).length = N by rw [List.length_set]; exact HNc.out))
   have Hm7 := Lib.hid (mod_new (p := ⟨gx, 0, none⟩) Hm6.out (by have := Hszx.out; have := HgxB.out; simp; omega) (.int .u8 0))
   have T7 := Lib.hid (Tabs.mod1 TD.out T6.out ((Mod.refl (fun k => k = gx) W5).setCell (p := ⟨gx, 0, none⟩) (fun _ => rfl) (.int .u8 0)) HgxB.out)
   have Hlc7 : Hid (lt256 (cs.set 0 0)) := Lib.hid (fun t ht => by
    rcases List.mem_or_eq_of_mem_set ht with h1 | h1
    ·exact Hlc.out t h1
    ·rw [h1]; decide)
   have Hno : Hid (hdC (cs.set 0 0) = none) := Lib.hid Hvc.out.2.1
   clear hy OX7 OX7' HO6 Hm6 T6
   go_wp2_with fail
   refine (jhead_any _ N cx (cs.set 0 0) _ RX7.out Hlc7.out hcx hcx2).mono ?_
   rintro e w8 ⟨rfl, hm8⟩
   rw [Hno.out]
   have T8 := Lib.hid (T7.out.mod (hm8.alloc (.cells #[.int .i64 0, .int .i64 0, .int .i64 0, .int .i64 0] 31)))
   have Hm8 := Lib.hid (Hm7.out.trans (hm8.alloc (.cells #[.int .i64 0, .int .i64 0, .int .i64 0, .int .i64 0] 31)) (fun _ _ h => h))
   clear hm8 Hm7 T7 RX7
   simp only [hdV, Option.map_none, Option.getD_none, Option.isSome_none]
   go_wp2_with fail
   refine (jawake_any _ T8.out).mono ?_
   rintro e w9 ⟨rfl, hm9⟩
   have Hm9 := Lib.hid (Hm8.out.trans hm9 (fun _ _ h => h))
   clear hm9
   go_wp2_with fail
   go_ret
   exact ⟨rfl, Hm9.out⟩
  ·have hyb : bits .and .i64 wrong 3 = 1 := hy
   obtain ⟨⟨u0, hu0⟩, hf0, OX7⟩ := own_set (b := 7) (k := 0) HO6.out HNr.out (by omega)
   have OX7' : Own Wd.heap.size (W5.setCell ⟨gx, 0, none⟩ (.int .u8 7)) 5 (.slice (some ⟨gx, 0, none⟩) N cx) (cells8 (cs.set 0 7)) := OX7
   have RX7 := Lib.hid (Own.rds8 OX7' (show (cs.set 0 7).length = N by rw [List.length_set]; exact HNc.out))
   have Hm7 := Lib.hid (mod_new (p := ⟨gx, 0, none⟩) Hm6.out (by have := Hszx.out; have := HgxB.out; simp; omega) (.int .u8 7))
   have T7 := Lib.hid (Tabs.mod1 TD.out T6.out ((Mod.refl (fun k => k = gx) W5).setCell (p := ⟨gx, 0, none⟩) (fun _ => rfl) (.int .u8 7)) HgxB.out)
   have Hlc7 : Hid (lt256 (cs.set 0 7)) := Lib.hid (fun t ht => by
    rcases List.mem_or_eq_of_mem_set ht with h1 | h1
    ·exact Hlc.out t h1
    ·rw [h1]; decide)
   have Hno : Hid (hdC (cs.set 0 7) = none) := Lib.hid Hvc.out.2.2.1
   clear hy OX7 OX7' HO6 Hm6 T6
   go_wp2_with fail
   refine (jhead_any _ N cx (cs.set 0 7) _ RX7.out Hlc7.out hcx hcx2).mono ?_
   rintro e w8 ⟨rfl, hm8⟩
   rw [Hno.out]
   have T8 := Lib.hid (T7.out.mod (hm8.alloc (.cells #[.int .i64 0, .int .i64 0, .int .i64 0, .int .i64 0] 31)))
   have Hm8 := Lib.hid (Hm7.out.trans (hm8.alloc (.cells #[.int .i64 0, .int .i64 0, .int .i64 0, .int .i64 0] 31)) (fun _ _ h => h))
   clear hm8 Hm7 T7 RX7
   simp only [hdV, Option.map_none, Option.getD_none, Option.isSome_none]
   go_wp2_with fail
   refine (jawake_any _ T8.out).mono ?_
   rintro e w9 ⟨rfl, hm9⟩
   have Hm9 := Lib.hid (Hm8.out.trans hm9 (fun _ _ h => h))
   clear hm9
   go_wp2_with fail
   go_ret
   exact ⟨rfl, Hm9.out⟩
  ·have hyb : bits .and .i64 wrong 3 = 2 := hy
   obtain ⟨⟨u0, hu0⟩, hf0, OX7⟩ := own_set (b := 0) (k := 1) HO6.out HNr.out (by omega)
   have OX7' : Own Wd.heap.size (W5.setCell ⟨gx, 1, none⟩ (.int .u8 0)) 5 (.slice (some ⟨gx, 0, none⟩) N cx) (cells8 (cs.set 1 0)) := OX7
   have RX7 := Lib.hid (Own.rds8 OX7' (show (cs.set 1 0).length = N by rw [List.length_set]; exact HNc.out))
   have Hm7 := Lib.hid (mod_new (p := ⟨gx, 1, none⟩) Hm6.out (by have := Hszx.out; have := HgxB.out; simp; omega) (.int .u8 0))
   have T7 := Lib.hid (Tabs.mod1 TD.out T6.out ((Mod.refl (fun k => k = gx) W5).setCell (p := ⟨gx, 1, none⟩) (fun _ => rfl) (.int .u8 0)) HgxB.out)
   have Hlc7 : Hid (lt256 (cs.set 1 0)) := Lib.hid (fun t ht => by
    rcases List.mem_or_eq_of_mem_set ht with h1 | h1
    ·exact Hlc.out t h1
    ·rw [h1]; decide)
   have Hno : Hid (hdC (cs.set 1 0) = none) := Lib.hid Hvc.out.2.2.2.1
   clear hy OX7 OX7' HO6 Hm6 T6
   go_wp2_with fail
   refine (jhead_any _ N cx (cs.set 1 0) _ RX7.out Hlc7.out hcx hcx2).mono ?_
   rintro e w8 ⟨rfl, hm8⟩
   rw [Hno.out]
   have T8 := Lib.hid (T7.out.mod (hm8.alloc (.cells #[.int .i64 0, .int .i64 0, .int .i64 0, .int .i64 0] 31)))
   have Hm8 := Lib.hid (Hm7.out.trans (hm8.alloc (.cells #[.int .i64 0, .int .i64 0, .int .i64 0, .int .i64 0] 31)) (fun _ _ h => h))
   clear hm8 Hm7 T7 RX7
   simp only [hdV, Option.map_none, Option.getD_none, Option.isSome_none]
   go_wp2_with fail
   refine (jawake_any _ T8.out).mono ?_
   rintro e w9 ⟨rfl, hm9⟩
   have Hm9 := Lib.hid (Hm8.out.trans hm9 (fun _ _ h => h))
   clear hm9
   go_wp2_with fail
   go_ret
   exact ⟨rfl, Hm9.out⟩
  ·have hyb : bits .and .i64 wrong 3 = 3 := hy
   have RX7 : Hid (Rds W5 W5.heap.size (some ⟨gx, 0, none⟩) 1 (cells8 (cs.take 1))) := Lib.hid (by
    have h1 := (Own.rds8 HO6.out HNc.out).take (k := 1) (by omega)
    rwa [show (cells8 cs).take 1 = cells8 (cs.take 1) by simp [cells8, List.map_take]] at h1)
   have Hm7 := Lib.hid Hm6.out
   have T7 := Lib.hid T6.out
   have Hlc7 := Lib.hid (lt256_take Hlc.out 1)
   have Hno : Hid (hdC (cs.take 1) = none) := Lib.hid Hvc.out.2.2.2.2
   have h1c : 1 ≤ cx := by omega
   clear hy HO6 Hm6 T6
   go_wp2_with fail
   refine (jhead_any _ 1 cx (cs.take 1) _ RX7.out Hlc7.out h1c hcx2).mono ?_
   rintro e w8 ⟨rfl, hm8⟩
   rw [Hno.out]
   have T8 := Lib.hid (T7.out.mod (hm8.alloc (.cells #[.int .i64 0, .int .i64 0, .int .i64 0, .int .i64 0] 31)))
   have Hm8 := Lib.hid (Hm7.out.trans (hm8.alloc (.cells #[.int .i64 0, .int .i64 0, .int .i64 0, .int .i64 0] 31)) (fun _ _ h => h))
   clear hm8 Hm7 T7 RX7
   simp only [hdV, Option.map_none, Option.getD_none, Option.isSome_none]
   go_wp2_with fail
   refine (jawake_any _ T8.out).mono ?_
   rintro e w9 ⟨rfl, hm9⟩
   have Hm9 := Lib.hid (Hm8.out.trans hm9 (fun _ _ h => h))
   clear hm9
   go_wp2_with fail
   go_ret
   exact ⟨rfl, Hm9.out⟩
end Go.Proofs.YtjmjlflmcpkmnaaDoor

/- A map[string]bool of the call's own: which rows of bytes were seen. -/
namespace Go.Proofs.YtjmjlflmcpkmnaaDoor
open Go.RowKit Go.Maps

theorem lawStr : Keyed Tryd.prog 9 := string_keyed Tryd.underlying9
theorem zeroBool (w : World) : (zeroValue 4).run Tryd.prog w = .ok (.bool false) w := by kernel_rfl
/-- Block b is a map of at most n entries that says what D says. -/
def SMap (w : World) (b n : Nat) (D : DataW Unit) : Prop := w.ownsMap Tryd.prog 9 (plainElem Tryd.prog 4) b n D
theorem SMap.lt {w : World} {b n : Nat} {D : DataW Unit} (h : SMap w b n D) : b < w.heap.size := World.ownsMap.lt h
theorem SMap.mod {S : Nat → Prop} {w w' : World} {b n : Nat} {D : DataW Unit} (h : SMap w b n D) (hm : Mod S w w') (hb : ¬ S b) : SMap w' b n D := by
 have hlt := h.lt
 obtain ⟨es, clock, h1, h2⟩ := h
 exact ⟨es, clock, (hm.block b hlt hb).trans h1, h2⟩
theorem SMap.made (w : World) : SMap (w.alloc (.map #[] 0)) w.heap.size 0 (.map []) := World.ownsMap_made _ _ _ _
def keyB (bs : List Nat) : Lit := .string (strOf bs).data.toList
theorem keyB_of {bs : List Nat} (h : bs.length ≤ maxLen) : keyOf Tryd.prog 9 (.string (strOf bs)) = some (keyB bs) := WideMaps.keyOf_string_mk Tryd.underlying9 (by rw [strOf_size]; exact h)
/-- No row of bytes that begins with i, or more, is on the map. -/
def SeenB (D : DataW Unit) (i : Nat) : Prop := IsMap D ∧ ∀ (c : List Nat) (t : Nat), c[0]? = some t → t < 256 → i ≤ t → Maps.has D (keyB c) = false
theorem SeenB.nil (i : Nat) : SeenB (.map []) i := ⟨isMap_empty, fun _ _ _ _ _ => rfl⟩
theorem SeenB.more {D : DataW Unit} {i j : Nat} (h : SeenB D i) (hij : i ≤ j) : SeenB D j := ⟨h.1, fun c t h1 h2 h3 => h.2 c t h1 h2 (by omega)⟩
theorem keyB_ne {c b : List Nat} {s t : Nat} (hc : c[0]? = some s) (hb : b[0]? = some t) (hs : s < 256) (ht : t < 256) (hne : s ≠ t) : keyB c ≠ keyB b := by
 intro e
 unfold keyB at e
 injection e with e
 simp only [strOf] at e
 cases c with
 | nil => cases hc
 | cons x c =>
  cases b with
  | nil => cases hb
  | cons y b =>
   simp only [List.getElem?_cons_zero, Option.some.injEq] at hc hb
   subst hc hb
   simp only [List.map_cons, List.cons.injEq] at e
   have e1 := congrArg UInt8.toNat e.1
   simp only [UInt8.toNat_ofNat'] at e1
   omega
theorem SeenB.put {D : DataW Unit} {i : Nat} {b : List Nat} (h : SeenB D i) (hb : b[0]? = some i) (hi : i < 256) : SeenB (D.put (keyB b) (.lit (.bool true))) (i + 1) := by
 refine ⟨h.1.put _ _, fun c t h1 h2 h3 => ?_⟩
 rw [has_put_other (keyB_ne h1 hb h2 hi (by omega))]
 exact h.2 c t h1 h2 (by omega)
set_option maxRecDepth 100000 in
/-- What is not on the map is told as false. -/
theorem SMap.look_no {w : World} {b n : Nat} {D : DataW Unit} {c : List Nat} (h : SMap w b n D) (hc : c.length ≤ maxLen) (hh : Maps.has D (keyB c) = false) : (Instr.lookup 38 (.map (some b)) (.string (strOf c)) false).run Tryd.prog w = .ok (.bool false) w := by
 obtain ⟨v, ps, hrun, hv⟩ := World.ownsMap.lookup h lawStr Tryd.underlying38 (zeroBool w) (plainElem_bool Tryd.underlying4 false) (keyB_of hc)
 rw [atKey_of_not_has hh] at hv
 have hvf : v = .bool false := by
  cases v
  case bool x =>
   have h2 := (plainElem_bool (H := Unit) Tryd.underlying4 x).symm.trans hv
   injection h2 with h2
   injection h2 with h2 _
   injection h2 with h2
   injection h2 with h2
   rw [h2]
  all_goals
   exfalso
   unfold plainElem at hv
   rw [Tryd.underlying4] at hv
   cases hv
 rw [hrun, hvf]
end Go.Proofs.YtjmjlflmcpkmnaaDoor

/- ChnkEach's walk. -/
namespace Go.Proofs.YtjmjlflmcpkmnaaDoor
open Go.RowKit Go.Maps

theorem one_good {T : Int} {V : Nat} (hT : Fits T) (hV : V < 2 ^ 64) : GoodS [(T, V)] := by
 intro p hp
 simp only [List.mem_cons, List.not_mem_nil, or_false] at hp
 rw [hp]
 exact ⟨hT, hV⟩
/-- One sample has a chunk in each codec but one. -/
theorem makeC_one {p : Nat} {T : Int} {V : Nat} (h1 : 1 ≤ p) (h6 : p ≤ 6) (h : makeC (p : Int) [(T, V)] = none) : p = 2 := by
 rcases makeC_is (l := [(T, V)]) rfl (by simp) h1 h6 h with h2 | h2 | h2
 ·cases h2
 ·exact h2
 ·exfalso
  subst h2
  unfold makeC at h
  rw [if_neg (by simp), Option.map_eq_none_iff] at h
  have := encK_some_of (tag := ((6 : Nat) : Int)) (l := [(T, V)]) rfl (by simp [toldK, vsOf])
  rw [h] at this
  cases this
theorem rdsS_one (w : World) (T : Int) (V : Nat) : RdsS (w.alloc (.cells #[.int .i64 T, .int .u64 (V : Int)] 36)) (w.heap.size + 1) (some ⟨w.heap.size, 0, none⟩) 1 [(T, V)] :=
 ⟨rfl, Rds.lit w 36 #[.int .i64 T, .int .u64 (V : Int)]⟩
theorem SeesI.new {k : IntKind} {w w' : World} {A : Option Addr} {n : Nat} {zs : List Int} (h : SeesI k w w.heap.size A n zs) (hm : Mod (fun _ => False) w w') : SeesI k w' w'.heap.size A n zs := ⟨h.1, fun h0 => by
 obtain ⟨ad, e, hb, hc⟩ := h.2 h0
 exact ⟨ad, e, Nat.lt_of_lt_of_le hb hm.size, fun j u hu => (hm.cell (by rw [addr_block]; exact hb) (fun h => h)).trans (hc j u hu)⟩⟩
theorem SMap.mono {w : World} {b n n' : Nat} {D : DataW Unit} (h : SMap w b n D) (hn : n ≤ n') : SMap w b n' D := World.ownsMap.mono h hn
theorem hdV_nil : hdV (hdC []) = (0, 0, 0, 0) ∧ (hdC []).isSome = false := ⟨rfl, rfl⟩
/-- How far the loop has come. -/
def EachTo (w2 wr : World) (mb j : Nat) : Prop := ∃ D : DataW Unit, SMap wr mb j D ∧ SeenB D j ∧ Mod (fun k => k = mb) w2 wr
theorem EachTo.more {w2 wr w' : World} {mb j : Nat} (h : EachTo w2 wr mb j) (hm : Mod (fun _ => False) wr w') : EachTo w2 w' mb j := by
 obtain ⟨D, h1, h2, h3⟩ := h
 exact ⟨D, h1.mod hm (fun h => h), h2, h3.trans hm (fun _ _ h => h.elim)⟩
theorem EachTo.next {w2 wr : World} {mb j : Nat} (h : EachTo w2 wr mb j) : EachTo w2 wr mb (j + 1) := by
 obtain ⟨D, h1, h2, h3⟩ := h
 exact ⟨D, h1.mono (Nat.le_succ _), h2.more (Nat.le_succ _), h3⟩
set_option maxHeartbeats 1000000 in
set_option maxRecDepth 100000 in
theorem chnkEach_walk (A A2 : Option Addr) (n c n2 c2 : Nat) (zs : List Int) (us : List Nat) (how T : Int) (V : Nat) (w : World) (hs : SeesI .i64 w w.heap.size A n zs) (hz : ∀ x ∈ zs, FitI x) (hs2 : Rds w w.heap.size A2 n2 (cellsU us)) (hu : ∀ x ∈ us, x < 2 ^ 64) (hT : Fits T) (hV : V < 2 ^ 64) (ht : Tabs w) :
  Calls Tryd.prog 4 #[.slice A n c, .slice A2 n2 c2, .int .i64 how, .agg #[.int .i64 T, .int .u64 (V : Int)]] w fun e w' => e = .returned (.bool true) ∧ Mod (fun _ => False) w w' := by
 have hmm := @run_makeMap Tryd.prog
 obtain ⟨W, hW⟩ : ∃ W, W = w.alloc (.cells #[.int .i64 T, .int .u64 (V : Int)] 36) := ⟨_, rfl⟩
 obtain ⟨bx, hbx⟩ : ∃ bx, bx = w.heap.size := ⟨_, rfl⟩
 have hmW : Mod (fun _ => False) w W := by rw [hW]; exact (Mod.refl _ _).alloc _
 have hbW : Blk W bx 36 #[.int .i64 T, .int .u64 (V : Int)] := by rw [hW, hbx]; exact Blk.new _ _ _
 have Hs := Lib.hid (hs.new hmW); have Hz := Lib.hid hz; have Hs2 := Lib.hid (hs2.new hmW).fit; have Hu := Lib.hid hu; have Ht := Lib.hid (ht.mod hmW); have HgT := Lib.hid (one_good hT hV)
 have HmW := Lib.hid hmW; have HbW := Lib.hid hbW; have HW := Lib.hid hW; have Hbx := Lib.hid hbx
 clear hs hz hs2 hu ht hT hV hmW hbW hW hbx
 go_enter Tryd.func4, Tryd.ntmps4
 go_upto_region 1 with fail
 rw [← HW.out, ← Hbx.out]
 go_wp2_with fail
 refine (row_any A A2 n c n2 c2 zs us how W Hs.out Hz.out Hs2.out Hu.out).mono ?_
 rintro e w1 ⟨v, l, rfl, ho1, hg, hr, hl60, hm1⟩
 obtain ⟨A1, L, c1, rfl, HL, hc1, _, hr1⟩ := ho1.formN
 have hL60 : L ≤ 60 := by have := HL.out; omega
 have hbx1 := hm1.blk HbW.out (fun h => h)
 obtain ⟨mb, hmb⟩ : ∃ mb, mb = w1.heap.size := ⟨_, rfl⟩
 have hbxl : bx < mb := by rw [hmb]; exact hbx1.lt
 have Hr := Lib.hid hr; have Hg := Lib.hid hg; have Hm1 := Lib.hid (HmW.out.trans hm1 (fun _ _ h => h)); have T1 := Lib.hid (Ht.out.mod hm1)
 have Hmb := Lib.hid hmb
 obtain ⟨w2, hw2⟩ : ∃ w2, w2 = w1.alloc (.map #[] 0) := ⟨_, rfl⟩
 have hm2 : Mod (fun _ => False) w1 w2 := by rw [hw2]; exact (Mod.refl _ _).alloc _
 have E0 : Hid (EachTo w2 w2 mb 1) := Lib.hid ⟨.map [], (by rw [hw2, hmb]; exact (SMap.made w1).mono (by decide)), SeenB.nil 1, Mod.refl _ _⟩
 have Hr2 : Hid (RdsS w2 mb A1 L l) := Lib.hid (by rw [hmb]; exact hr1.new hm2)
 have Hb2 := Lib.hid (hm2.blk hbx1 (fun h => h)); have T2 := Lib.hid (T1.out.mod hm2)
 have Hm2 := Lib.hid (Hm1.out.trans hm2 (fun _ _ h => h))
 have Hmw2 : Hid (mb < w2.heap.size) := Lib.hid (by rw [hw2, hmb]; simp)
 have Hww : Hid (w.heap.size ≤ mb) := Lib.hid (by rw [hmb]; exact Hm1.out.size)
 have Hw2 := Lib.hid hw2
 clear ho1 hg hr hl60 hm1 hr1 hc1 hbx1 hmb hw2 hm2 Hs Hz Hs2 Hu Ht HmW HbW HW Hbx Hm1
 go_upto_region 4 with fail
 rw [← Hw2.out, ← Hmb.out]
 go_loopg [11] 6 (fun k s11 wr => ∃ i j : Nat, i + k = 6 ∧ j = i + 1 ∧ s11 = .int .i64 (j : Int) ∧ EachTo w2 wr mb j)
 case atStart => exact ⟨0, 1, rfl, rfl, rfl, E0.out⟩
 case round =>
  obtain ⟨i, j, hik, hj, rfl, hE⟩ := hrel
  have hE' := hE
  obtain ⟨D, hmap, hseen, hm⟩ := hE'
  have HE := Lib.hid hE; have Hmap := Lib.hid hmap; have Hseen := Lib.hid hseen; have Hm := Lib.hid hm; have Hik := Lib.hid hik; have Hj := Lib.hid hj
  have Hrr := Lib.hid (Hr2.out.mod hm (Nat.le_of_lt Hmw2.out) (fun j hj e => by omega)).fit
  have Tr := Lib.hid (Tabs.mod1 T1.out T2.out hm (by rw [Hmb.out]; exact Nat.le_refl _))
  have Hbr := Lib.hid (hm.blk Hb2.out (by omega))
  clear hE hmap hseen hm hik hj E0 hmm
  by_cases hi6 : i < 6
  ·have hj6 : (j : Int) ≤ 6 := by have := Hj.out; omega
   have hj1 : 1 ≤ j := by have := Hj.out; omega
   have hj6n : j ≤ 6 := by omega
   go_wp2_with fail
   refine (jmake_any (j : Int) A1 L c1 l wr Hrr.out Hg.out Tr.out).mono ?_
   intro e w3 he
   have he' : EncB wr w3 (makeC (j : Int) l) e := he
   clear he
   cases ho : makeC (j : Int) l with
   | none =>
    obtain ⟨rfl, hm3⟩ := EncB.none_ he' ho
    have hwhich := makeC_is Hr.out (by rw [HL.out]; omega) hj1 hj6n ho
    have HE3 := Lib.hid (HE.out.more hm3).next
    clear he' ho hm3 Hrr Tr Hbr Hmap Hseen Hm HE
    by_cases hL0 : L = 0
    ·have hLi : ¬ (0 : Int) < (L : Int) := by omega
     clear hwhich hL0
     go_wp2_with fail
     go_roundg (gk - 1)
     case measure => have := Hik.out; omega
     case rel => exact ⟨i + 1, j + 1, by have := Hik.out; omega, by have := Hj.out; omega, by go_num, HE3.out⟩
    ·have hLi : (0 : Int) < (L : Int) := by omega
     have hj26 : j = 2 ∨ j = 6 := by
      rcases hwhich with h | h
      ·exact absurd (by rw [← HL.out, h]; rfl) hL0
      ·exact h
     clear hwhich hL0
     rcases hj26 with h2 | h6
     ·have hjb : ((j : Int) != 2) = false := by rw [h2]; rfl
      clear h2
      go_wp2_with fail
      go_roundg (gk - 1)
      case measure => have := Hik.out; omega
      case rel => exact ⟨i + 1, j + 1, by have := Hik.out; omega, by have := Hj.out; omega, by go_num, HE3.out⟩
     ·have hjb : ((j : Int) != 2) = true := by rw [h6]; rfl
      have hjc : ((j : Int) != 6) = false := by rw [h6]; rfl
      clear h6
      go_wp2_with fail
      go_roundg (gk - 1)
      case measure => have := Hik.out; omega
      case rel => exact ⟨i + 1, j + 1, by have := Hik.out; omega, by have := Hj.out; omega, by go_num, HE3.out⟩
   | some bs =>
    obtain ⟨v2, rfl, ho2, hm3⟩ := EncB.some_ he' ho
    have hlt := makeC_256 ho
    have hlen := makeC_len Hg.out ho
    have hopen : openX bs = some (l, j) := by rw [openX_of Hg.out ho, Int.toNat_natCast]
    have hb0 : bs[0]? = some j := by have := (makeC_head ho).1; rwa [Int.toNat_natCast] at this
    obtain ⟨N, hN⟩ : ∃ N, bs.length = N := ⟨_, rfl⟩
    obtain ⟨A3, c3, rfl, hc3, hcm3, _⟩ := u_formN8 ho2 hN
    have hr3 := Own.rds8 ho2 hN
    have hN1 : N ≤ 10000 := by have := HL.out; omega
    have hhas := Hseen.out.2 bs j hb0 (by omega) (Nat.le_refl _)
    have Hlt := Lib.hid hlt; have Hopen := Lib.hid hopen; have Hb3 := Lib.hid hr3; have HN := Lib.hid hN; have Hcm3 := Lib.hid hcm3; have Hhas := Lib.hid hhas; have Hb0 := Lib.hid hb0
    have Hr3 := Lib.hid (Hrr.out.new hm3).fit; have T3 := Lib.hid (Tr.out.mod hm3); have Hbr3 := Lib.hid (hm3.blk Hbr.out (fun h => h)); have Hmap3 := Lib.hid (Hmap.out.mod hm3 (fun h => h)); have Hm3 := Lib.hid (Hm.out.trans hm3 (fun _ _ h => h.elim))
    clear he' ho ho2 hm3 hlt hlen hopen hN hr3 hcm3 hhas hb0 Hrr Tr Hbr Hmap Hm HE
    go_wp2_with fail
    refine (jopen_any A3 N c3 bs w3 Hb3.out Hlt.out hc3 Hcm3.out (by omega) T3.out).mono ?_
    intro e w4 he
    have he' : EncO w3 w4 (openX bs) e := he
    obtain ⟨v4, rfl, ho4, hm4⟩ := EncO.some_ he' Hopen.out
    obtain ⟨A4, L4, c4, rfl, HL4, _, _, hr4⟩ := ho4.formN
    have eL : L4 = L := by have := HL4.out; have := HL.out; omega
    subst eL
    have Hr4 := Lib.hid hr4; have Hl4 := Lib.hid (Hr3.out.new hm4).fit; have Hb4 := Lib.hid (Hb3.out.new hm4).fit; have T4 := Lib.hid (T3.out.mod hm4); have Hbr4 := Lib.hid (hm4.blk Hbr3.out (fun h => h)); have Hmap4 := Lib.hid (Hmap3.out.mod hm4 (fun h => h)); have Hm4 := Lib.hid (Hm3.out.trans hm4 (fun _ _ h => h.elim))
    have hjj : ((j : Int) != (j : Int)) = false := by simp
    clear he he' ho4 hm4 hr4 Hr3 Hb3 T3 Hbr3 Hmap3 Hm3
    go_wp2_with fail
    refine (sameS_any A4 A1 L4 L4 c4 c1 _ _ l l true w4 Hr4.out Hl4.out (by omega) (by simp)).mono ?_
    rintro e w5 ⟨rfl, hm5⟩
    have hcv : (convert 26 9 (.slice A3 N c3)).run Tryd.prog w5 = .ok (.string (strOf bs)) w5 := conv_rds Tryd.underlying26 Tryd.underlying5 Tryd.underlying9 w5 (Hb4.out.new hm5).fit Hlt.out
    have hlk := (Hmap4.out.mod hm5 (fun h => h)).look_no (c := bs) (by rw [HN.out]; unfold maxLen; omega) Hhas.out
    have hkey := keyB_of (bs := bs) (by rw [HN.out]; unfold maxLen; omega)
    obtain ⟨s, hs⟩ : ∃ s, s = strOf bs := ⟨_, rfl⟩
    rw [← hs] at hlk hkey
    have hcv1 : (convert 26 9 (.slice A3 N c3)).run Tryd.prog w5 = .ok (.string s) w5 := by rw [hs]; exact hcv
    have Hkey := Lib.hid hkey
    have T5 := Lib.hid (T4.out.mod hm5); have Hbr5 := Lib.hid (hm5.blk Hbr4.out (fun h => h)); have Hmap5 := Lib.hid (Hmap4.out.mod hm5 (fun h => h)); have Hm5 := Lib.hid (Hm4.out.trans hm5 (fun _ _ h => h.elim))
    have Hjm : Hid (j < maxLen) := Lib.hid (by unfold maxLen; omega)
    clear hm5 hcv hkey hs Hr4 Hl4 Hb4 T4 Hbr4 Hmap4 Hm4
    go_wp2_with (first | (at_mapUpdate; refine wpList_mapUpdate_own _ rfl _ _ _ 38 rfl 9 4 lawStr Tryd.underlying38 (plainElem (H := Unit) Tryd.prog 4) mb j D rfl Hmap5.out Hjm.out _ _ _ rfl rfl Hkey.out (.lit (.bool true)) [] (plainElem_bool Tryd.underlying4 true) ?_; intro w6 hmap6 hgrow6; have hm6 : Mod (fun k => k = mb) w5 w6 := (Mod.refl _ w5).grown hgrow6 (fun k hk _ => by injection hk with hk; exact hk.symm); have Hbr6 := Lib.hid (hm6.blk Hbr5.out (by omega)); have q0 := Hbr6.out.cell 0; have q1 := Hbr6.out.cell 1; simp at q0 q1; have Hmap6 := Lib.hid hmap6; have Hm6 := Lib.hid hm6; clear hmap6 hgrow6 hm6))
    have HT6 : Hid (Tabs w6) := Lib.hid (Tabs.mod1 T1.out T5.out Hm6.out (by rw [Hmb.out]; exact Nat.le_refl _))
    have HE6 : Hid (EachTo w2 w6 mb (j + 1)) := Lib.hid ⟨_, Hmap6.out, Hseen.out.put Hb0.out (by omega), Hm5.out.trans Hm6.out (fun _ _ h => h)⟩
    clear q0 q1 hcv1 hlk Hmap5 Hmap6 Hm5 Hm6 T5 Hbr5 Hkey
    have hma : Mod (fun _ => False) w6 (w6.alloc (.cells #[.int .i64 T, .int .u64 (V : Int)] 36)) := (Mod.refl _ _).alloc _
    refine (jmake_any (j : Int) _ 1 1 [(T, V)] _ (rdsS_one w6 T V).fit HgT.out (HT6.out.mod hma)).mono ?_
    intro e w7 he
    have he' : EncB _ w7 (makeC (j : Int) [(T, V)]) e := he
    clear he
    cases hq : makeC (j : Int) [(T, V)] with
    | none =>
     obtain ⟨rfl, hm7⟩ := EncB.none_ he' hq
     have hj2 : j = 2 := makeC_one hj1 hj6n hq
     have hjb : ((j : Int) != 2) = false := by rw [hj2]; rfl
     have HE7 := Lib.hid (HE6.out.more (hma.trans hm7 (fun _ _ h => h)))
     clear he' hq hm7 hma hj2 HE6 HT6
     go_wp2_with fail
     refine (jhead_any none 0 0 [] w7 (Rds.nil _ _ _) (fun x hx => by cases hx) (Nat.le_refl _) (Nat.zero_le _)).mono ?_
     rintro e w8 ⟨rfl, hm8⟩
     rw [hdV_nil.1, hdV_nil.2]
     have HE8 := Lib.hid (HE7.out.more (hm8.alloc (.cells #[.int .i64 0, .int .i64 0, .int .i64 0, .int .i64 0] 31)))
     clear hm8 HE7
     go_wp2_with fail
     go_roundg (gk - 1)
     case measure => have := Hik.out; omega
     case rel => exact ⟨i + 1, j + 1, by have := Hik.out; omega, by have := Hj.out; omega, by go_num, HE8.out⟩
    | some cs =>
     obtain ⟨v7, rfl, ho7, hm7⟩ := EncB.some_ he' hq
     have hlt := makeC_256 hq
     have hlen := makeC_len HgT.out hq
     have hv : hdV (hdC cs) = (j, 1, T, T) ∧ (hdC cs).isSome = true := (heads_of HgT.out hq).1
     obtain ⟨N7, hN7⟩ : ∃ N7, cs.length = N7 := ⟨_, rfl⟩
     obtain ⟨A7, c7, rfl, hc7, hcm7, _⟩ := u_formN8 ho7 hN7
     have hr7 := Own.rds8 ho7 hN7
     have Hlt7 := Lib.hid hlt; have Hv7 := Lib.hid hv; have Hr7 := Lib.hid hr7; have Hcm7 := Lib.hid hcm7
     have hm67 : Mod (fun _ => False) w6 w7 := hma.trans hm7 (fun _ _ h => h)
     have HE7 := Lib.hid (HE6.out.more hm67); have Hbr7 := Lib.hid (hm67.blk Hbr6.out (fun h => h))
     clear he' hq hlt hlen hv hN7 hr7 hcm7 ho7 hm7 hma hm67 HE6 HT6
     go_wp2_with fail
     refine (jhead_any A7 N7 c7 cs w7 Hr7.out Hlt7.out hc7 Hcm7.out).mono ?_
     rintro e w8 ⟨rfl, hm8⟩
     rw [Hv7.out.1, Hv7.out.2]
     obtain ⟨W9, hW9⟩ : ∃ W9, W9 = w8.alloc (.cells #[.int .i64 (j : Int), .int .i64 1, .int .i64 T, .int .i64 T] 31) := ⟨_, rfl⟩
     obtain ⟨hk, hhk⟩ : ∃ hk, hk = w8.heap.size := ⟨_, rfl⟩
     have hmW9 : Mod (fun _ => False) w7 W9 := by rw [hW9]; exact hm8.alloc _
     have hb9 : Blk W9 hk 31 #[.int .i64 (j : Int), .int .i64 1, .int .i64 T, .int .i64 T] := by rw [hW9, hhk]; exact Blk.new _ _ _
     have hx9 := hmW9.blk Hbr7.out (fun h => h)
     have y0 := hb9.cell 0
     have y1 := hb9.cell 1
     have y2 := hb9.cell 2
     have y3 := hb9.cell 3
     have q0 := hx9.cell 0
     simp at y0 y1 y2 y3 q0
     have HE9 := Lib.hid (HE7.out.more hmW9); have HW9 := Lib.hid hW9; have Hhk := Lib.hid hhk
     clear hm8 hW9 hhk hmW9 hb9 hx9 HE7 Hbr7 Hr7
     go_upto_region 16 with fail
     rw [← HW9.out, ← Hhk.out]
     go_wp2_with fail
     go_roundg (gk - 1)
     case measure => have := Hik.out; omega
     case rel => exact ⟨i + 1, j + 1, by have := Hik.out; omega, by have := Hj.out; omega, by go_num, HE9.out⟩
  ·have hj6 : ¬ (j : Int) ≤ 6 := by have := Hj.out; omega
   have Hmr := Lib.hid (Hm2.out.trans Hm.out (fun i hi h => by have := Hww.out; omega))
   go_wp2_with fail
   refine (jawake_any wr Tr.out).mono ?_
   rintro e w5 ⟨rfl, hm5⟩
   have Hm5 := Lib.hid (Hmr.out.trans hm5 (fun _ _ h => h))
   clear hm5
   go_wp2_with fail
   go_ret
   exact ⟨rfl, Hm5.out⟩
end Go.Proofs.YtjmjlflmcpkmnaaDoor

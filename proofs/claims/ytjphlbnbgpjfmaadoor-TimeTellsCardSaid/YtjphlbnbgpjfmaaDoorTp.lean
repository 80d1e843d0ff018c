/- Differences, and rows of times, are told: put, Encode. -/
import Derived.Test.YtjphlbnbgpjfmaaDoorTg
namespace Go.Proofs.YtjphlbnbgpjfmaaDoor
open Go.RowKit

/-- Fields were added to what a writer had. -/
def Wrote (w0 w : World) (g : Nat) (row : Option Nat) (N len : Nat) (fs : List (Nat × Nat)) : Prop :=
  ∃ row', Wr w g row' (N * 2 ^ flen fs + fnum fs) (len + flen fs) ∧ Mod (fun i => i = g ∨ row = some i) w0 w ∧ RowTo w0 row row'
theorem num_snoc (N : Nat) (fs bs : List (Nat × Nat)) : (N * 2 ^ flen fs + fnum fs) * 2 ^ flen bs + fnum bs = N * 2 ^ flen (fs ++ bs) + fnum (fs ++ bs) := by
  rw [flen_app, fnum_app, Nat.pow_add, Nat.add_mul, Nat.mul_assoc, Nat.add_assoc]
section
variable {w0 w w' : World} {g N len : Nat} {row : Option Nat} {fs bs : List (Nat × Nat)}
theorem Wrote.refl (h : Wr w g row N len) : Wrote w w g row N len [] := ⟨row, by simpa [flen, fnum] using h, Mod.refl _ _, .inl rfl⟩
theorem Mod.more {row row' : Option Nat} {w2 : World} (h : Mod (fun i => i = g ∨ row = some i) w0 w) (hr : RowTo w0 row row') (h2 : Mod (fun i => i = g ∨ row' = some i) w w2) : Mod (fun i => i = g ∨ row = some i) w0 w2 :=
  h.trans h2 (fun _ hi h => h.elim .inl (fun e => .inr (hr.in_ e hi)))
theorem RowTo.two {row row' row2 : Option Nat} (h : RowTo w0 row row') (hs : w0.heap.size ≤ w.heap.size) (h2 : RowTo w row' row2) : RowTo w0 row row2 := by
  rcases h2 with rfl | ⟨r, rfl, hr⟩
  · exact h
  · exact .inr ⟨r, rfl, by omega⟩
theorem Wrote.app (h : Wrote w0 w g row N len fs) (h2 : ∀ row', RowTo w0 row row' → Wr w g row' (N * 2 ^ flen fs + fnum fs) (len + flen fs) → Wrote w w' g row' (N * 2 ^ flen fs + fnum fs) (len + flen fs) bs) : Wrote w0 w' g row N len (fs ++ bs) := by
  obtain ⟨row', a1, a2, a3⟩ := h
  obtain ⟨row2, b1, b2, b3⟩ := h2 row' a3 a1
  refine ⟨row2, ?_, a2.more a3 b2, a3.two a2.size b3⟩
  rw [num_snoc, Nat.add_assoc, ← flen_app] at b1
  exact b1
theorem Wrote.len_eq {fs' : List (Nat × Nat)} (h : Wrote w0 w g row N len fs) (h1 : flen fs = flen fs') (h2 : fnum fs = fnum fs') : Wrote w0 w g row N len fs' := by
  obtain ⟨row', a1, a2, a3⟩ := h
  refine ⟨row', ?_, a2, a3⟩
  rw [← h1, ← h2]
  exact a1
end
/-- Put adds one field. -/
theorem put_wrote (w0 : World) (g : Nat) (row : Option Nat) (N len k : Nat) (fs : List (Nat × Nat)) (v : Nat) (V n : Int) (w : World) (hV : V = (v : Int)) (hn : n = (k : Int)) (hk : k ≤ 64) (hv : Lt64 v) (hw : Wrote w0 w g row N len fs) (hlen : len + flen fs ≤ 1000000000) :
    Calls Tryd.prog 7 #[.pointer (some ⟨g, 0, none⟩), .int .u64 V, .int .i64 n] w fun e w' => e = .returned (.tuple #[]) ∧ Wrote w0 w' g row N len (fs ++ [(v, k)]) := by
  subst hV hn
  obtain ⟨row', a1, a2, a3⟩ := hw
  have hv' := hv.out
  refine (put_wr g row' _ _ k (v : Int) (k : Int) w ⟨by omega, by omega⟩ ⟨by omega, by omega⟩ (by omega) a1 hlen).mono ?_
  rintro e w' ⟨rfl, row2, b1, b2, b3⟩
  refine ⟨rfl, row2, ?_, a2.more a3 b2, a3.two a2.size b3⟩
  rw [Int.toNat_natCast] at b1
  have e1 : N * 2 ^ flen (fs ++ [(v, k)]) + fnum (fs ++ [(v, k)]) = (N * 2 ^ flen fs + fnum fs) * 2 ^ k + v % 2 ^ k := by
    rw [← num_snoc]
    show _ * 2 ^ (k + 0) + (v % 2 ^ k * 2 ^ 0 + 0) = _
    rw [Nat.add_zero, Nat.pow_zero, Nat.mul_one, Nat.add_zero]
  have e2 : len + flen (fs ++ [(v, k)]) = len + flen fs + k := by
    rw [flen_app]
    show len + (flen fs + (k + 0)) = _
    omega
  rw [e1, e2]
  exact b1

theorem app_len {fs cs bs : List (Nat × Nat)} (h : flen cs = flen bs) : flen (fs ++ cs) = flen (fs ++ bs) := by rw [flen_app, flen_app, h]
theorem app_num {fs cs bs : List (Nat × Nat)} (h1 : flen cs = flen bs) (h : fnum cs = fnum bs) : fnum (fs ++ cs) = fnum (fs ++ bs) := by rw [fnum_app, fnum_app, h, h1]
theorem fields_one {d : Int} {h : Nat} (hh : h < 4) (he : hd d = h) : flen [(15, h), (0, 1), (un d, sz h)] = flen (fieldsD d) ∧ fnum [(15, h), (0, 1), (un d, sz h)] = fnum (fieldsD d) := by
  obtain ⟨e1, e2⟩ := headN_hd d
  have ek := kind_hd d
  unfold fieldsD
  rw [e1, e2, ek, he]
  have hh' : h = 0 ∨ h = 1 ∨ h = 2 ∨ h = 3 := by omega
  rcases hh' with rfl | rfl | rfl | rfl
  · exact ⟨rfl, by show 15 % 2 ^ 0 * 2 ^ (1 + (0 + 0)) + (0 % 2 ^ 1 * 2 ^ (0 + 0) + (un d % 2 ^ 0 * 2 ^ 0 + 0)) = 0 % 2 ^ 1 * 2 ^ (0 + 0) + (un d % 2 ^ 0 * 2 ^ 0 + 0); omega⟩
  · exact ⟨rfl, by show 15 % 2 ^ 1 * 2 ^ (1 + (7 + 0)) + (0 % 2 ^ 1 * 2 ^ (7 + 0) + (un d % 2 ^ 7 * 2 ^ 0 + 0)) = 2 % 2 ^ 2 * 2 ^ (7 + 0) + (un d % 2 ^ 7 * 2 ^ 0 + 0); omega⟩
  · exact ⟨rfl, by show 15 % 2 ^ 2 * 2 ^ (1 + (9 + 0)) + (0 % 2 ^ 1 * 2 ^ (9 + 0) + (un d % 2 ^ 9 * 2 ^ 0 + 0)) = 6 % 2 ^ 3 * 2 ^ (9 + 0) + (un d % 2 ^ 9 * 2 ^ 0 + 0); omega⟩
  · exact ⟨rfl, by show 15 % 2 ^ 3 * 2 ^ (1 + (12 + 0)) + (0 % 2 ^ 1 * 2 ^ (12 + 0) + (un d % 2 ^ 12 * 2 ^ 0 + 0)) = 14 % 2 ^ 4 * 2 ^ (12 + 0) + (un d % 2 ^ 12 * 2 ^ 0 + 0); omega⟩
theorem fields_two {d : Int} (he : hd d = 4) : flen [(15, 4), (un d, 64)] = flen (fieldsD d) ∧ fnum [(15, 4), (un d, 64)] = fnum (fieldsD d) := by
  obtain ⟨e1, e2⟩ := headN_hd d
  have ek := kind_hd d
  unfold fieldsD
  rw [e1, e2, ek, he]
  exact ⟨rfl, rfl⟩
theorem Wrote.wid {w0 w : World} {g N len : Nat} {row : Option Nat} {fs : List (Nat × Nat)} (h : Wrote w0 w g row N len fs) (hw : Wid w0) (hg : g ≠ 0) (hr : row ≠ some 0) : Wid w := by
  obtain ⟨row', a1, a2, a3⟩ := h
  exact hw.mod a2 (fun h => h.elim (fun e => hg e.symm) hr)
set_option maxHeartbeats 1000000 in
theorem dput_wrote (w0 : World) (g : Nat) (row : Option Nat) (N len : Nat) (fs : List (Nat × Nat)) (d : Int) (w : World) (hf : Fits d) (hw : Wrote w0 w g row N len fs) (hlen : len + flen fs ≤ 900000000) (hwid : Wid w0) (hg : g ≠ 0) (hr : row ≠ some 0) :
    Calls Tryd.prog 37 #[.pointer (some ⟨g, 0, none⟩), .int .i64 d] w fun e w' => e = .returned (.tuple #[]) ∧ Wrote w0 w' g row N len (fs ++ fieldsD d) := by
  have Hf := Lib.hid hf; have Hw := Lib.hid hw; have Hwid := Lib.hid hwid; have Hg := Lib.hid hg; have Hr := Lib.hid hr
  have hwu : IntKind.u64.wrap d = (un d : Int) := wrapU_un d
  have hul : Hid (Lt64 (un d)) := Lib.hid (un_lt d)
  clear hf hw hwid hg hr
  have hh := hd_le d
  obtain ⟨h, Hh⟩ : ∃ h, Hid (hd d = h) := ⟨_, Lib.hid rfl⟩
  have hh4 : h ≤ 4 := Hh.out ▸ hh
  clear hh
  go_enter Tryd.func37, Tryd.ntmps37
  go_wp2_with fail
  refine (shortest_any d _ Hf.out (Hw.out.wid Hwid.out Hg.out Hr.out)).mono ?_
  rintro e w1 ⟨rfl, rfl⟩
  rw [Hh.out]
  go_wp2_with fail
  refine (put_wrote w0 g row N len h fs 15 15 (h : Int) _ rfl rfl (by omega) (show (15 : Nat) < 18446744073709551616 by decide) Hw.out (by omega)).mono ?_
  rintro e w1 ⟨rfl, h1⟩
  have H1 := Lib.hid h1
  clear h1 Hw
  have hl1 : flen (fs ++ [(15, h)]) = flen fs + h := by rw [flen_app]; show flen fs + (h + 0) = _; omega
  have Hl1 := Lib.hid hl1
  clear hl1
  have hs64 := sz_le h
  by_cases hlt : h < 4
  · go_wp2_with fail
    refine (put_wrote w0 g row N len 1 _ 0 0 1 _ rfl rfl (by omega) (show (0 : Nat) < 18446744073709551616 by decide) H1.out (by rw [Hl1.out]; omega)).mono ?_
    rintro e w2 ⟨rfl, h2⟩
    have hc := sz_at (h2.wid Hwid.out Hg.out Hr.out) hh4
    have H2 := Lib.hid h2
    clear h2 H1
    have hl2 : Hid (flen ((fs ++ [(15, h)]) ++ [(0, 1)]) = flen fs + h + 1) := Lib.hid (by rw [flen_app, Hl1.out]; rfl)
    have hf0 : (0 : Int) ≤ (h : Int) := by omega
    have hf5 : (h : Int) < 5 := by omega
    go_wp2_with fail
    refine (put_wrote w0 g row N len (sz h) _ (un d) _ _ _ rfl rfl (by omega) hul.out H2.out (by rw [hl2.out]; omega)).mono ?_
    rintro e w3 ⟨rfl, h3⟩
    have H3 := Lib.hid h3
    clear h3 H2 hc
    go_wp2_with fail
    go_end0
    refine ⟨rfl, ?_⟩
    obtain ⟨e1, e2⟩ := fields_one hlt Hh.out
    refine H3.out.len_eq ?_ ?_
    · rw [List.append_assoc, List.append_assoc]; exact app_len e1
    · rw [List.append_assoc, List.append_assoc]; exact app_num e1 e2
  · obtain rfl : h = 4 := by omega
    have hc := sz_at (H1.out.wid Hwid.out Hg.out Hr.out) hh4
    have hc' : w1.cell? ⟨0, 4, none⟩ = some (.int .i64 64) := hc
    clear hc hlt
    go_wp2_with fail
    refine (put_wrote w0 g row N len 64 _ (un d) _ _ _ rfl rfl (by omega) hul.out H1.out (by rw [Hl1.out]; omega)).mono ?_
    rintro e w3 ⟨rfl, h3⟩
    have H3 := Lib.hid h3
    clear h3 H1 hc'
    go_wp2_with fail
    go_end0
    refine ⟨rfl, ?_⟩
    obtain ⟨e1, e2⟩ := fields_two Hh.out
    refine H3.out.len_eq ?_ ?_
    · rw [List.append_assoc]; exact app_len e1
    · rw [List.append_assoc]; exact app_num e1 e2

theorem wrap_un (x : Int) : un (wrap64 x) = un x := by rw [wrap_sg, un_sg (un_lt x)]
theorem un_ex (x : Int) : ∃ k : Int, (un x : Int) = x + k * (M64 : Int) := by
  refine ⟨-(x / (M64 : Int)), ?_⟩
  have h := Int.mul_ediv_add_emod x (M64 : Int)
  have h0 := Int.emod_nonneg x (show (M64 : Int) ≠ 0 by decide)
  unfold un
  rw [Int.toNat_of_nonneg h0, Int.neg_mul, Int.mul_comm]
  omega
theorem sg_ex (u : Nat) : ∃ k : Int, sg u = (u : Int) + k * (M64 : Int) := by
  unfold sg
  split
  · exact ⟨0, by simp⟩
  · exact ⟨-1, by rw [Int.neg_mul, Int.one_mul]; omega⟩
theorem un_of {x y : Int} {k : Int} (h : x = y + k * (M64 : Int)) : un x = un y := by
  unfold un
  rw [h, Int.add_mul_emod_self_right]
theorem change_eq (prev x : Int) (last : Nat) : wrap64 (wrap64 (x - prev) - sg last) = diffOf prev last x := by
  rw [wrap_sg]
  unfold diffOf stepOf
  congr 1
  obtain ⟨a, ha⟩ := un_ex (x - prev)
  obtain ⟨b, hb⟩ := sg_ex last
  obtain ⟨c, hc⟩ := sg_ex (un (x - prev))
  rw [wrap_sg, ← hc.symm] at *
  refine un_of (k := c - b) ?_
  rw [hc, hb, Int.sub_mul]
  omega
theorem step_eq (prev x : Int) (last : Nat) : wrap64 (sg last + diffOf prev last x) = sg (stepOf prev x) := by
  rw [wrap_sg]
  congr 1
  unfold diffOf stepOf
  obtain ⟨a, ha⟩ := un_ex (x - prev)
  obtain ⟨b, hb⟩ := sg_ex last
  obtain ⟨c, hc⟩ := un_ex ((un (x - prev) : Int) - (last : Int))
  obtain ⟨e, he⟩ := sg_ex (un ((un (x - prev) : Int) - (last : Int)))
  refine un_of (k := b + e + c + a) ?_
  rw [he, hc, hb, ha, Int.add_mul, Int.add_mul, Int.add_mul]
  omega
theorem add_zero' (a : Addr) : a.add 0 = a := by unfold Addr.add; simp
/-- What Encode has told of i times. -/
def Enc1 (w wr : World) (g : Nat) (row : Option Nat) (N len : Nat) (zs : List Int) (i : Nat) (prev : Int) (last : Nat) : Prop :=
  ∃ fs, Wrote w wr g row N len fs ∧ (i = 0 → fs = [] ∧ prev = 0 ∧ last = 0) ∧ (0 < i → fs ++ encT prev last (zs.drop i) = encRow zs)
theorem drop_at {zs : List Int} {i : Nat} {x : Int} (h : zs[i]? = some x) : zs.drop i = x :: zs.drop (i + 1) := by
  rw [List.getElem?_eq_some_iff] at h
  obtain ⟨hi, rfl⟩ := h
  exact List.drop_eq_getElem_cons hi
theorem flen_le_app (fs cs : List (Nat × Nat)) : flen fs ≤ flen (fs ++ cs) := by rw [flen_app]; omega
theorem SeesI.at2 {k : IntKind} {w w' : World} {B n i : Nat} {A : Option Addr} {zs : List Int} (h : SeesI k w B A n zs) (hi : i < n) (hB : B ≤ w.heap.size) {S : Nat → Prop} (hm : Mod S w w') (hS : ∀ ad, A = some ad → ¬ S ad.block) :
    ∃ ad x, A = some ad ∧ zs[i]? = some x ∧ w'.cell? (ad.add i) = some (.int k x) := by
  obtain ⟨ad, e, hb, hc⟩ := h.2 (by omega)
  have hl : i < zs.length := by have := h.1; omega
  refine ⟨ad, zs[i], e, List.getElem?_eq_getElem hl, ?_⟩
  rw [hm.cell (a := ad.add i) (by rw [addr_block]; omega) (by rw [addr_block]; exact hS _ e)]
  exact hc i _ (List.getElem?_eq_getElem hl)
set_option maxHeartbeats 1000000 in
theorem encode_any (B g : Nat) (row : Option Nat) (N len n c : Nat) (A : Option Addr) (zs : List Int) (w : World) (hs : SeesI .i64 w B A n zs) (hz : ∀ x ∈ zs, Fits x) (hB : B ≤ w.heap.size) (hap : 0 < n → ∀ ad, A = some ad → ¬ (ad.block = g ∨ row = some ad.block)) (hg0 : g ≠ 0) (hr0 : row ≠ some 0)
    (hw : Wr w g row N len) (hwid : Wid w) (hlen : len + (64 + 68 * n) ≤ 900000000) :
    Calls Tryd.prog 27 #[.pointer (some ⟨g, 0, none⟩), .slice A n c] w fun e w' => e = .returned (.tuple #[]) ∧ Wrote w w' g row N len (encRow zs) := by
  have hzl := hs.1
  have Hs := Lib.hid hs; have Hz := Lib.hid hz; have Hw := Lib.hid hw; have Hwid := Lib.hid hwid
  have Hg := Lib.hid hg0; have Hr := Lib.hid hr0; have HS := Lib.hid hap
  have H0 : Hid (Enc1 w w g row N len zs 0 0 0) := Lib.hid ⟨[], Wrote.refl hw, fun _ => ⟨rfl, rfl, rfl⟩, fun h => by omega⟩
  have Hzl := Lib.hid hzl
  have hsg0 : sg 0 = 0 := rfl
  have Hsg0 := Lib.hid hsg0
  have Htot : Hid (len + flen (encRow zs) ≤ 900000000) := Lib.hid (by have := encRow_len zs; rw [hzl] at this; omega)
  clear hs hz hw hwid hap hg0 hr0 hzl hsg0
  go_enter Tryd.func27, Tryd.ntmps27
  go_wp2_with fail
  go_loopg [4, 5, 11] n (fun l s4 s5 s11 wr => ∃ (i : Nat) (prev : Int) (last : Nat) (st : Int), i + l = n ∧ s11 = .int .i64 (i : Int) ∧ s4 = .int .i64 prev ∧ s5 = .int .i64 st ∧ st = sg last ∧ Enc1 w wr g row N len zs i prev last)
  case atStart => exact ⟨0, 0, 0, 0, by omega, rfl, rfl, rfl, rfl, H0.out⟩
  case round =>
    obtain ⟨i, prev, last, st, hil, rfl, rfl, rfl, hst, hE⟩ := hrel
    have HE := Lib.hid hE; have Hil := Lib.hid hil; have Hst := Lib.hid hst
    clear hE hil hst H0
    by_cases hin : i < n
    · obtain ⟨fs, hwr, he0, he1⟩ := HE.out
      obtain ⟨ad, x, rfl, hx, hcx⟩ := Hs.out.at2 hin hB (by obtain ⟨_, _, a2, _⟩ := hwr; exact a2) (HS.out (by omega))
      have Hx := Lib.hid hx
      have hxf := Lib.hid (Hz.out x (List.mem_of_getElem? hx))
      have Hdr := Lib.hid (drop_at hx)
      have hxu : IntKind.u64.wrap x = (un x : Int) := wrapU_un x
      have hul : Hid (Lt64 (un x)) := Lib.hid (un_lt x)
      clear hx
      by_cases hi0 : i = 0
      · obtain ⟨rfl, rfl, rfl⟩ := he0 hi0
        subst hi0
        have Hwr := Lib.hid hwr
        have hcx0 : wr.cell? ad = some (.int .i64 x) := by rw [← add_zero' ad]; exact hcx
        clear hwr he0 he1 HE
        go_wp2_with fail
        refine (put_wrote w g row N len 64 [] (un x) _ _ _ rfl rfl (by omega) hul.out Hwr.out (by show len + 0 ≤ _; omega)).mono ?_
        rintro e w1 ⟨rfl, h1⟩
        have hd0 := Hdr.out
        rw [List.drop_zero] at hd0
        have H1 : Hid (Enc1 w w1 g row N len zs 1 x 0) := Lib.hid ⟨[(un x, 64)], h1, fun h => by omega, fun _ => by rw [hd0]; rfl⟩
        have Hst0 : Hid (st = sg 0) := Hst
        clear h1 hd0 Hwr
        go_wp2_with fail
        go_roundg (gk - 1)
        case measure => have := Hil.out; omega
        case rel => exact ⟨1, x, 0, st, by have := Hil.out; omega, rfl, rfl, rfl, Hst.out, H1.out⟩
      · have hb0 : ((i : Int) == 0) = false := by simp; omega
        have hE1 := he1 (by omega)
        have Hwr := Lib.hid hwr
        have hch : wrap64 (wrap64 (x - prev) - st) = diffOf prev last x := by rw [Hst.out]; exact change_eq _ _ _
        have hsp : wrap64 (st + diffOf prev last x) = sg (stepOf prev x) := by rw [Hst.out]; exact step_eq _ _ _
        have HE1 := Lib.hid hE1
        have hdf := Lib.hid (next_of (prev := prev) (last := last) hxf.out).1
        obtain ⟨ch, hchv⟩ : ∃ ch, ch = diffOf prev last x := ⟨_, rfl⟩
        obtain ⟨st', hstv⟩ : ∃ st', st' = sg (stepOf prev x) := ⟨_, rfl⟩
        rw [← hchv] at hch hsp hdf
        rw [← hstv] at hsp
        have Hchv := Lib.hid hchv; have Hstv := Lib.hid hstv
        clear hwr he0 he1 HE hE1 hchv hstv
        have hl : Hid (len + flen fs ≤ 900000000) := Lib.hid (by have := Htot.out; rw [← HE1.out] at this; have := flen_le_app fs (encT prev last (zs.drop i)); omega)
        go_wp2_with fail
        refine (dput_wrote w g row N len fs ch _ hdf.out Hwr.out hl.out Hwid.out Hg.out Hr.out).mono ?_
        rintro e w1 ⟨rfl, h1⟩
        rw [Hchv.out] at h1
        have H1 : Hid (Enc1 w w1 g row N len zs (i + 1) x (stepOf prev x)) := Lib.hid ⟨_, h1, fun h => by omega, fun _ => by
          rw [← HE1.out, Hdr.out, List.append_assoc]; rfl⟩
        clear h1 Hwr
        go_wp2_with fail
        go_roundg (gk - 1)
        case measure => have := Hil.out; omega
        case rel => exact ⟨i + 1, x, stepOf prev x, st', by have := Hil.out; omega, by go_num, rfl, by rw [hsp], Hstv.out, H1.out⟩
    · go_wp2_with fail
      go_end0
      refine ⟨rfl, ?_⟩
      obtain ⟨fs, hwr, he0, he1⟩ := HE.out
      have hil := Hil.out
      have hzl := Hzl.out
      rcases Nat.eq_zero_or_pos i with h0 | h0
      · obtain ⟨rfl, _, _⟩ := he0 h0
        have : zs = [] := List.eq_nil_of_length_eq_zero (by omega)
        subst this
        exact hwr
      · have := he1 h0
        rw [List.drop_of_length_le (by omega)] at this
        have e : fs = encRow zs := by rw [← this]; show fs = fs ++ []; simp
        rw [← e]
        exact hwr
end Go.Proofs.YtjphlbnbgpjfmaaDoor

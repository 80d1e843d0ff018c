/- Values are told by their least: Encode. -/
import Derived.Test.YtliaehfknppnaaaLm
import Derived.Test.YtliaehfknppnaaaMu
import Derived.Test.YtliaehfknppnaaaOz
import Derived.Test.YtliaehfknppnaaaVp
import Derived.Test.YtliaehfknppnaaaGw
namespace Go.Proofs.Ytliaehfknppnaaa
open Go.RowKit

/-- A row that another call has made, as bytes that read. -/
theorem NewRow.rds {w w1 : World} {v : Value} {n : Nat} {bs : List Nat} (h : NewRow w w1 v n (cells8 bs)) : ∃ A c, v = .slice A n c ∧ Rds w1 w1.heap.size A n (cells8 bs) ∧ Mod (fun _ => False) w w1 := by
  obtain ⟨hown, hm, _⟩ := h
  have hn : bs.length = n := by have := hown.1; rw [cells8_length] at this; omega
  have ho : Own 0 w1 5 v (cells8 bs) := by unfold Own; rw [cells8_length, hn]; exact hown
  obtain ⟨A, c, e, _, _, hr⟩ := own_form8 ho
  rw [hn] at e hr
  exact ⟨A, c, e, hr, hm⟩
/-- What a writer of its own has been told of i numbers of S bits. -/
def FldTo (w0 w1 wr : World) (g S : Nat) (l : List Nat) (i : Nat) : Prop := Wrote w1 wr g none 0 0 (flds S (l.take i)) ∧ Mod (fun _ => False) w0 wr
theorem FldTo.step {w0 w1 wr w2 : World} {g S i x : Nat} {l : List Nat} (hx : l[i]? = some x) (_h : FldTo w0 w1 wr g S l i) (hg : w0.heap.size ≤ g) (hm : Mod (fun _ => False) w0 w1) (h2 : Wrote w1 w2 g none 0 0 (flds S (l.take i) ++ [(x, S)])) : FldTo w0 w1 w2 g S l (i + 1) := by
  refine ⟨?_, ?_⟩
  · rw [take_succ_of hx, flds_app]
    exact h2
  · obtain ⟨row', _, a2, _⟩ := h2
    exact hm.trans a2 (fun i hi h => h.elim (fun e => by omega) (fun e => by cases e))
theorem FldTo.wr {w0 w1 wr : World} {g S i n : Nat} {l : List Nat} (h : FldTo w0 w1 wr g S l i) (hn : l.length = n) (hi : i = n) : ∃ row, Wr wr g row (fnum (flds S l)) (flen (flds S l)) := by
  obtain ⟨⟨row', a1, _, _⟩, _⟩ := h
  rw [List.take_of_length_le (by omega), Nat.zero_mul, Nat.zero_add, Nat.zero_add] at a1
  exact ⟨row', a1⟩
theorem Packed.packW {bs : List Nat} {S : Nat} {l : List Nat} (h : Packed bs (fnum (flds S l)) (flen (flds S l))) : bs = packW S l := by
  obtain ⟨hlt, free, hf, hl, hv⟩ := h
  exact packW_one hlt hf hl hv
theorem flds_small {S n i : Nat} {l : List Nat} (hS : S ≤ 64) (hn : l.length ≤ n) (hn2 : n ≤ 1000000) : flen (flds S (l.take i)) ≤ 64000000 := by
  rw [flds_len]
  have h1 : (l.take i).length ≤ 1000000 := by rw [List.length_take]; omega
  have := Nat.mul_le_mul hS h1
  omega
theorem difV_at {us : List Nat} {i x L : Nat} (h : us[i]? = some x) (hL : loV us = L) : (difV us)[i]? = some (x - L) := by
  unfold difV
  rw [List.getElem?_map, h, hL]
  rfl
set_option maxHeartbeats 4000000 in
set_option maxRecDepth 100000 in
theorem penc_any (A : Option Addr) (n cap B : Nat) (us : List Nat) (w : World) (hs : Rds w B A n (cellsU us)) (hB : B ≤ w.heap.size) (hu : ∀ x ∈ us, x < 2 ^ 64) (hn : n ≤ 1000000) :
    Calls Try.prog 8 #[.slice A n cap] w fun e w' => ∃ v, e = .returned v ∧ Own w.heap.size w' 5 v (cells8 (encP us)) ∧ Mod (fun _ => False) w w' := by
  have hul : us.length = n := by have := hs.1; rwa [cellsU_length] at this
  by_cases h0 : n = 0
  · subst h0
    obtain rfl := List.eq_nil_of_length_eq_zero hul
    clear hs
    go_enter Try.func8, Try.ntmps8
    go_wp2_with fail
    go_ret
    exact ⟨_, rfl, Own.nil _ _ _, Mod.refl _ _⟩
  · have hne : us ≠ [] := by rintro rfl; exact h0 hul.symm
    obtain ⟨L, hL⟩ : ∃ L, loV us = L := ⟨_, rfl⟩
    obtain ⟨H, hH⟩ : ∃ H, hiV us = H := ⟨_, rfl⟩
    have hL64 : L < 2 ^ 64 := by rw [← hL]; exact hu _ (loV_mem hne)
    have hH64 : H < 2 ^ 64 := by rw [← hH]; exact hu _ (hiV_mem hne)
    have hLH : L ≤ H := by rw [← hL, ← hH]; exact Nat.le_trans (loV_le (getD_mem hne)) (hiV_ge (getD_mem hne))
    obtain ⟨d, hd⟩ : ∃ d, d = H - L := ⟨_, rfl⟩
    have hdw : IntKind.u64.wrap ((H : Int) - (L : Int)) = (d : Int) := by rw [IntKind.wrap_u64]; omega
    obtain ⟨S, hS⟩ : ∃ S, wid d = S := ⟨_, rfl⟩
    have hS64 : S ≤ 64 := by rw [← hS]; exact wid_le d
    have HS : Hid (widV us = S) := Lib.hid (by unfold widV; rw [hL, hH, ← hd]; exact hS)
    have hd64 : Lt64 d := by unfold Lt64; omega
    have hL64' : Lt64 L := by unfold Lt64; omega
    have hcS : IntKind.u8.wrap (S : Int) = (S : Int) := by rw [IntKind.wrap_u8']; omega
    have hcS' : (S : Int) % 256 = (S : Int) := by omega
    have hp : 0 < n := by omega
    have hn0 : ((n : Int) == 0) = false := by simp; omega
    have Hs := Lib.hid hs; have Hu := Lib.hid hu; have HB := Lib.hid hB; have Hul := Lib.hid hul; have HL := Lib.hid hL; have HH := Lib.hid hH; have Hd64 := Lib.hid hd64; have HL64 := Lib.hid hL64'; have HSd := Lib.hid hS; have Hne := Lib.hid hne
    clear hs hu hB hul hL hH hd hS hd64 hL64 hL64' hH64 hLH hne
    go_enter Try.func8, Try.ntmps8
    go_wp2_with fail
    refine (umin_any A n cap B L us w Hs.out HB.out hp hn HL.out).mono ?_
    rintro e w1 ⟨rfl, rfl⟩
    go_wp2_with fail
    refine (umax_any A n cap B H us w Hs.out HB.out hp hn HH.out).mono ?_
    rintro e w1 ⟨rfl, rfl⟩
    go_wp2_with fail
    refine (len64_wid d S w Hd64.out HSd.out).mono ?_
    rintro e w1 ⟨rfl, rfl⟩
    go_wp2_with fail
    refine (newWriter_wr w).mono ?_
    rintro e w1 ⟨g, rfl, hg1, hg2, hwr, hm1⟩
    have Hg1 := Lib.hid hg1; have Hm1 := Lib.hid hm1
    have F0 : Hid (FldTo w w1 w1 g S (difV us) 0) := Lib.hid ⟨Wrote.refl hwr, hm1⟩
    have Hdl : Hid ((difV us).length = n) := Lib.hid (by rw [difV_len]; exact Hul.out)
    clear hg1 hg2 hwr hm1 hdw hn0
    go_wp2_with fail
    go_loopg [22] n (fun l s22 wr => ∃ i : Nat, i + l = n ∧ s22 = .int .i64 (i : Int) ∧ FldTo w w1 wr g S (difV us) i)
    case atStart => exact ⟨0, by omega, rfl, F0.out⟩
    case round =>
      obtain ⟨i, hil, rfl, hF⟩ := hrel
      have HF := Lib.hid hF; have Hil := Lib.hid hil
      clear hF hil F0
      by_cases hin : i < n
      · obtain ⟨ad, x, rfl, hx, hcx⟩ := Hs.out.at2 hin HB.out HF.out.2 (fun _ _ h => h)
        have hxl := Hu.out x (List.mem_of_getElem? hx)
        have hLx : L ≤ x := by rw [← HL.out]; exact loV_le (List.mem_of_getElem? hx)
        obtain ⟨y, hy⟩ : ∃ y, y = x - L := ⟨_, rfl⟩
        have hyw : IntKind.u64.wrap ((x : Int) - (L : Int)) = (y : Int) := by rw [IntKind.wrap_u64]; omega
        have hy64 : Hid (Lt64 y) := Lib.hid (by unfold Lt64; omega)
        have hyd : Hid ((difV us)[i]? = some y) := Lib.hid (by rw [hy]; exact difV_at hx HL.out)
        have hi1 : (0 : Int) ≤ (i : Int) := by omega
        clear hxl hLx hx hy
        go_wp2_with fail
        refine (put_wrote w1 g none 0 0 S _ y _ _ wr rfl rfl hS64 hy64.out HF.out.1 (by have := flds_small (i := i) hS64 (Nat.le_of_eq Hdl.out) hn; omega)).mono ?_
        rintro e w2 ⟨rfl, h2⟩
        have HF2 : Hid (FldTo w w1 w2 g S (difV us) (i + 1)) := Lib.hid (HF.out.step hyd.out Hg1.out Hm1.out h2)
        clear h2
        go_wp2_with fail
        go_roundg (gk - 1)
        case measure => have := Hil.out; omega
        case rel => exact ⟨i + 1, by have := Hil.out; omega, by go_num, HF2.out⟩
      · have hi : i = n := by have := Hil.out; omega
        obtain ⟨row, hwr⟩ := HF.out.wr Hdl.out hi
        have Hwr := Lib.hid hwr; have Hmr := Lib.hid HF.out.2
        clear hwr HF hi
        go_wp2_with fail
        refine (vput_any none 0 0 0 [] L wr (Rds.nil _ _ _) (by omega) HL64.out).mono ?_
        rintro e w2 ⟨v2, rfl, ho2, hb2⟩
        rw [List.nil_append] at ho2
        have Ho2 := Lib.hid ho2; have Hb2 := Lib.hid hb2
        have hq := enc_len10 HL64.out.out
        have hR : Room (cells8 (enc L)).length 1 := Room.mk _ _ (by rw [cells8_length]; omega)
        have HR := Lib.hid hR
        have hsz : wr.heap.size ≤ w2.heap.size := hb2.size
        clear ho2 hb2 hR
        go_wp2_with (at_builtin; refine wpList_app1 rfl (.tmp 34) (.tmp 37) _ rfl elt8 rfl Ho2.out rfl rfl rfl HR.out.1 HR.out.2 hsz ?_; intro v3 w3 H1 H2)
        have hbel : Below wr.heap.size wr w3 := Hb2.out.trans H2.out
        have hwr3 : Wr w3 g row (fnum (flds S (difV us))) (flen (flds S (difV us))) := Hwr.out.mod (Mod.of_below hbel) (by have := Hwr.out.lt; omega) (fun k hk h => by have := Hwr.out.row_lt k hk; omega)
        have ho3 : Own wr.heap.size w3 5 v3 (cells8 (enc L ++ [S])) := by rw [cells8_snoc]; exact H1.out
        obtain ⟨A3, n3, c3, rfl, Hn3, _, _, _⟩ := own_formN8 ho3
        have Ho3 := Lib.hid ho3; have Hwr3 := Lib.hid hwr3
        have Hm3 := Lib.hid (Hmr.out.trans (mod_below hbel) (fun _ _ h => h))
        have hsz3 := hbel.size
        clear ho3 hwr3 hbel H1 H2
        go_wp2_with fail
        refine (bytes_any g row _ _ w3 Hwr3.out (by have := flds_small (i := n) (l := difV us) hS64 (Nat.le_of_eq Hdl.out) hn; rw [List.take_of_length_le (by rw [Hdl.out]; exact Nat.le_refl _)] at this; omega)).mono ?_
        rintro e w4 ⟨v4, bs, rfl, hnew, hpk⟩
        obtain ⟨A4, c4, rfl, hr4, hm4⟩ := hnew.rds
        obtain rfl := hpk.packW
        have Hr4 := Lib.hid hr4; have Ho4 := Lib.hid (Ho3.out.mod hm4); have Hm4 := Lib.hid (Hm3.out.trans hm4 (fun _ _ h => h))
        have hpl : (packW S (difV us)).length ≤ 8000001 := by rw [packW_len, Hdl.out]; have := Nat.mul_le_mul hS64 hn; omega
        have Hone : Hid (∀ u ∈ cells8 (packW S (difV us)), u.oneCell' = true) := Lib.hid (cells8_one _)
        have hR4 : Room (cells8 (enc L ++ [S])).length (packW S (difV us)).length := Room.mk _ _ (by rw [cells8_length, List.length_append, List.length_singleton]; omega)
        have HR4 := Lib.hid hR4
        have hsz4 : wr.heap.size ≤ w4.heap.size := Nat.le_trans hsz3 hm4.size
        clear hnew hpk hr4 hm4 hR4 hpl
        go_wp2_with (at_builtin; refine wpList_app rfl (.tmp 39) (.tmp 41) _ rfl elt8 rfl Ho4.out rfl Hr4.out Hone.out HR4.out.1 HR4.out.2 hsz4 ?_; intro v5 w5 HO5 HBl5 HG5; clear HG5)
        go_ret
        have ho5 := HO5.out
        rw [cells8_app, List.append_assoc] at ho5
        have e : encP us = enc L ++ (S :: packW S (difV us)) := by rw [encP_cons Hne.out, HL.out, HS.out]
        rw [e]
        exact ⟨_, rfl, ho5.mono Hmr.out.size, Hm4.out.trans (Mod.of_below HBl5.out) (fun i hi h => by have := Hmr.out.size; omega)⟩
end Go.Proofs.Ytliaehfknppnaaa

/- The document's own rows of values are told: Values. -/
import Derived.Test.YtdlkjfnifjlbhaaDoorWr
namespace Go.Proofs.YtdlkjfnifjlbhaaDoor
open Go.RowKit

def winB : Option (Nat × Nat) → Nat
  | none => 0
  | some (_, b) => b
/-- What the document has told of i values. -/
def XREnc (w wr : World) (g : Nat) (row : Option Nat) (N len : Nat) (zs : List Nat) (i : Nat) (win : Option (Nat × Nat)) : Prop :=
  ∃ fs, RWrote w wr g row N len fs ∧ WinOk win ∧ (i = 0 → fs = [] ∧ win = none) ∧ (0 < i → ∃ prev, zs[i - 1]? = some prev ∧ fs ++ encX win prev (zs.drop i) = encVals zs)
theorem fits_dec {win : Option (Nat × Nat)} {x : Nat} : fitsX win x = (win.isSome && (decide (winA win ≤ aheadN x) && decide (winB win ≤ behindN x))) := by
  cases win with
  | none => rfl
  | some p =>
    obtain ⟨a, b⟩ := p
    show decide (a ≤ aheadN x ∧ b ≤ behindN x) = (true && (decide (a ≤ aheadN x) && decide (b ≤ behindN x)))
    simp
set_option maxHeartbeats 4000000 in
set_option maxRecDepth 100000 in
theorem rvalues_any (B g : Nat) (row : Option Nat) (N len n c : Nat) (A : Option Addr) (zs : List Nat) (w : World) (hs : Rds w B A n (cellsU zs)) (hz : ∀ x ∈ zs, x < 2 ^ 64) (hB : B ≤ w.heap.size) (hap : 0 < n → ∀ ad, A = some ad → ¬ (ad.block = g ∨ row = some ad.block))
    (hw : RWr w g row N len) (hlen : len + (64 + 77 * n) ≤ 900000000) :
    Calls Tryd.prog 11 #[.pointer (some ⟨g, 0, none⟩), .slice A n c] w fun e w' => e = .returned (.tuple #[]) ∧ RWrote w w' g row N len (encVals zs) := by
  have hzl : zs.length = n := by have := hs.1; rwa [cellsU_length] at this
  have Hs := Lib.hid hs; have Hz := Lib.hid hz; have HS := Lib.hid hap; have Hzl := Lib.hid hzl
  have H0 : Hid (XREnc w w g row N len zs 0 none) := Lib.hid ⟨[], RWrote.refl hw, trivial, fun _ => ⟨rfl, rfl⟩, fun h => by omega⟩
  have Htot : Hid (len + flen (encVals zs) ≤ 900000000) := Lib.hid (by have := encVals_len zs; rw [hzl] at this; omega)
  clear hs hz hw hap hzl
  go_enter Tryd.func11, Tryd.ntmps11
  go_wp2_with fail
  go_loopg [4, 5, 6, 7] n (fun l s4 s5 s6 s7 wr => ∃ (i : Nat) (win : Option (Nat × Nat)), i + l = n ∧ s7 = .int .i64 (i : Int) ∧ s4 = .bool win.isSome ∧ s5 = .int .i64 (winA win : Int) ∧ s6 = .int .i64 (winB win : Int) ∧ XREnc w wr g row N len zs i win)
  case atStart => exact ⟨0, none, by omega, rfl, rfl, rfl, rfl, H0.out⟩
  case round =>
    obtain ⟨i, win, hil, rfl, rfl, rfl, rfl, hE⟩ := hrel
    have HE := Lib.hid hE; have Hil := Lib.hid hil
    clear hE hil H0
    by_cases hin : i < n
    · obtain ⟨fs, hwr, hok, he0, he1⟩ := HE.out
      obtain ⟨ad, v, rfl, hv, hcv⟩ := Hs.out.at2 hin hB (by obtain ⟨_, _, a2, _⟩ := hwr; exact a2) (HS.out (by omega))
      have Hv := Lib.hid hv
      have hvl := Lib.hid (Hz.out v (List.mem_of_getElem? hv))
      have Hdr := Lib.hid (drop_at' hv)
      have Hok := Lib.hid hok
      clear hv hok
      by_cases hi0 : i = 0
      · obtain ⟨rfl, rfl⟩ := he0 hi0
        subst hi0
        have Hwr := Lib.hid hwr
        have hcx0 : wr.cell? ad = some (.int .u64 (v : Int)) := by rw [← add_zero' ad]; exact hcv
        clear hwr he0 he1 HE
        go_wp2_with fail
        refine (rput_wrote w g row N len 64 [] v _ _ _ rfl rfl (by omega) hvl.out Hwr.out (by show len + 0 ≤ _; omega)).mono ?_
        rintro e w1 ⟨rfl, h1⟩
        have hd0 := Hdr.out
        rw [List.drop_zero] at hd0
        have H1 : Hid (XREnc w w1 g row N len zs 1 none) := Lib.hid ⟨[(v, 64)], h1, trivial, fun h => by omega, fun _ => ⟨v, Hv.out, by rw [hd0]; rfl⟩⟩
        clear h1 hd0 Hwr
        go_wp2_with fail
        go_roundg (gk - 1)
        case measure => have := Hil.out; omega
        case rel => exact ⟨1, none, by have := Hil.out; omega, rfl, rfl, rfl, rfl, H1.out⟩
      · have hb0 : ((i : Int) == 0) = false := by simp; omega
        obtain ⟨prev, hpv, hE1⟩ := he1 (by omega)
        obtain ⟨ad', x', e', hx', hcp⟩ := Hs.out.at2 (show i - 1 < n by omega) hB (by obtain ⟨_, _, a2, _⟩ := hwr; exact a2) (HS.out (by omega))
        injection e' with e'
        subst e'
        rw [hpv] at hx'
        injection hx' with hx'
        subst hx'
        have hpl := Lib.hid (Hz.out prev (List.mem_of_getElem? hpv))
        obtain ⟨x, hx⟩ : ∃ x : Nat, x = v ^^^ prev := ⟨_, rfl⟩
        have hxor : bits .xor .u64 (v : Int) (prev : Int) = (x : Int) := by rw [hx]; exact u64_xor_nat v prev hvl.out hpl.out
        have hxl : Hid (Lt64 x) := Lib.hid (by rw [hx]; exact Nat.xor_lt_two_pow hvl.out hpl.out)
        have hi1 : IntKind.i64.wrap ((i : Int) - 1) = (i : Int) - 1 := IntWalk.i64_in _ (by omega)
        have hi2 : ((i : Int) - 1).toNat = i - 1 := by omega
        have hi3 : (0 : Int) ≤ (i : Int) - 1 := by omega
        have hi4 : (i : Int) - 1 < (n : Int) := by omega
        have hi5 : (i : Int) < (n : Int) := by omega
        have hi6 : (0 : Int) ≤ (i : Int) := by omega
        have Hwr := Lib.hid hwr; have HE1 := Lib.hid hE1; have Hx := Lib.hid hx
        have hl : Hid (len + flen fs ≤ 900000000) := Lib.hid (by have := Htot.out; rw [← HE1.out] at this; have := flen_le_app fs (encX win prev (zs.drop i)); omega)
        have hnx : Hid (∀ w', RWrote w w' g row N len (fs ++ fieldsX win x) → XREnc w w' g row N len zs (i + 1) (winX win x)) := Lib.hid (fun w' h =>
          ⟨_, h, winX_ok Hok.out hxl.out, fun h => by omega, fun _ => ⟨v, Hv.out, by rw [← HE1.out, Hdr.out, List.append_assoc, Hx.out]; rfl⟩⟩)
        obtain ⟨a, ha⟩ : ∃ a, a = winA win := ⟨_, rfl⟩
        obtain ⟨b, hb⟩ : ∃ b, b = winB win := ⟨_, rfl⟩
        obtain ⟨any, hany⟩ : ∃ any, any = win.isSome := ⟨_, rfl⟩
        have Ha := Lib.hid ha; have Hb := Lib.hid hb; have Hany := Lib.hid hany
        rw [← ha, ← hb, ← hany]
        clear hwr he0 he1 HE hE1 hx hpv ha hb hany
        go_upto_region 6 with fail
        go_quiet (fail)
        have Hwr2 := Lib.hid (Hwr.out.drewN nq)
        clear Hwr hcv hcp hi1 hi2 hi3 hi4 hxor
        generalize wr.drewN nq = w2 at *
        by_cases hx0 : x = 0
        · have hx0b : ((x : Int) == 0) = true := by simp; omega
          have hf0 : Hid (fieldsX win x = [(0, 1)] ∧ winX win x = win) := Lib.hid ⟨by unfold fieldsX; rw [if_pos hx0], by unfold winX; rw [if_pos hx0]⟩
          clear hx0
          go_wp2_with fail
          refine (rput_wrote w g row N len 1 fs 0 0 1 _ rfl rfl (by omega) (show (0 : Nat) < 18446744073709551616 by decide) Hwr2.out (by have := hl.out; omega)).mono ?_
          rintro e w3 ⟨rfl, h3⟩
          have H3 : Hid (XREnc w w3 g row N len zs (i + 1) win) := Lib.hid (by have h := hnx.out w3 (by rw [hf0.out.1]; exact h3); rwa [hf0.out.2] at h)
          clear h3
          go_wp2_with fail
          go_roundg (gk - 1)
          case measure => have := Hil.out; omega
          case rel => exact ⟨i + 1, win, by have := Hil.out; omega, by go_num, by rw [Hany.out], by rw [Ha.out], by rw [Hb.out], H3.out⟩
        · have hx0b : ((x : Int) == 0) = false := by simp; omega
          go_wp2_with fail
          refine (rput_wrote w g row N len 1 fs 1 1 1 _ rfl rfl (by omega) (show (1 : Nat) < 18446744073709551616 by decide) Hwr2.out (by have := hl.out; omega)).mono ?_
          rintro e w3 ⟨rfl, h3⟩
          have H3 := Lib.hid h3
          obtain ⟨ah, hah⟩ : ∃ ah, ah = aheadN x := ⟨_, rfl⟩
          obtain ⟨be, hbe⟩ : ∃ be, be = behindN x := ⟨_, rfl⟩
          have hsum := sum_le (by omega) hxl.out
          have hah31 := (ahead_spec hxl.out).1
          rw [← hah] at hsum hah31
          rw [← hbe] at hsum
          have Hah := Lib.hid hah; have Hbe := Lib.hid hbe
          clear h3 hah hbe Hwr2
          have hfd := fits_dec (win := win) (x := x)
          rw [← Hany.out, ← Ha.out, ← Hb.out, ← Hah.out, ← Hbe.out] at hfd
          obtain ⟨fit, hfit⟩ : ∃ fit, fit = fitsX win x := ⟨_, rfl⟩
          rw [← hfit] at hfd
          have Hfd := Lib.hid hfd; have Hfit := Lib.hid hfit
          clear hfd hfit
          go_upto_region 10 with fail
          go_cut [50] (fun s50 wc => s50 = .bool fit ∧ w3 = wc)
          case first =>
            cases any with
            | false =>
              obtain rfl : fit = false := Hfd.out
              go_wp2_with fail
              go_meet
              case rel => exact ⟨rfl, rfl⟩
            | true =>
              by_cases h1 : a ≤ ah
              · by_cases h2 : b ≤ be
                · obtain rfl : fit = true := by rw [Hfd.out, decide_eq_true h1, decide_eq_true h2]; rfl
                  go_wp2_with (first | (go_at_call 24; refine (rahead_any x _).mono ?_; rintro e w5 ⟨rfl, rfl⟩; rw [← Hah.out]) | (go_at_call 25; refine (rbehind_any x _ (by omega) hxl.out).mono ?_; rintro e w5 ⟨rfl, rfl⟩; rw [← Hbe.out]))
                  go_meet
                  case rel => exact ⟨rfl, rfl⟩
                · obtain rfl : fit = false := by rw [Hfd.out, decide_eq_true h1, decide_eq_false h2]; rfl
                  go_wp2_with (first | (go_at_call 24; refine (rahead_any x _).mono ?_; rintro e w5 ⟨rfl, rfl⟩; rw [← Hah.out]) | (go_at_call 25; refine (rbehind_any x _ (by omega) hxl.out).mono ?_; rintro e w5 ⟨rfl, rfl⟩; rw [← Hbe.out]))
                  go_meet
                  case rel => exact ⟨rfl, rfl⟩
              · obtain rfl : fit = false := by rw [Hfd.out, decide_eq_false h1]; rfl
                go_wp2_with (first | (go_at_call 24; refine (rahead_any x _).mono ?_; rintro e w5 ⟨rfl, rfl⟩; rw [← Hah.out]) | (go_at_call 25; refine (rbehind_any x _ (by omega) hxl.out).mono ?_; rintro e w5 ⟨rfl, rfl⟩; rw [← Hbe.out]))
                go_meet
                case rel => exact ⟨rfl, rfl⟩
          case rest =>
            obtain ⟨rfl, rfl⟩ := hcut
            cases fit with
            | true =>
              have hin2 : WinOk win ∧ a + b ≤ 63 ∧ fieldsX win x = [(1, 1), (0, 1), (x / 2 ^ b, 64 - a - b)] ∧ winX win x = win := by
                have hf := Hfit.out.symm
                have hw := Hok.out
                rw [Ha.out, Hb.out]
                cases win with
                | none => cases hf
                | some p =>
                  obtain ⟨a', b'⟩ := p
                  refine ⟨hw, hw.2, ?_, ?_⟩
                  · unfold fieldsX; rw [if_neg hx0, if_pos hf]; rfl
                  · unfold winX; rw [if_neg hx0, if_pos hf]
              obtain ⟨_, hab, hfe, hwe⟩ := hin2
              obtain ⟨s, hs⟩ : ∃ s, s = 64 - a - b := ⟨_, rfl⟩
              obtain ⟨y, hy⟩ : ∃ y, y = x / 2 ^ b := ⟨_, rfl⟩
              have hs1 : (64 : Int) - (a : Int) - (b : Int) = (s : Int) := by omega
              have hy1 : (x : Int) / 2 ^ b = (y : Int) := by rw [hy]; simp
              have hyl : Hid (Lt64 y) := Lib.hid (by have := hxl.out.out; have := Nat.div_le_self x (2 ^ b); unfold Lt64; omega)
              have hbw : IntKind.u64.wrap (b : Int) = (b : Int) := by rw [IntKind.wrap_u64]; omega
              have hs64 : s ≤ 64 := by omega
              rw [← hs, ← hy] at hfe
              have Hfe := Lib.hid hfe; have Hwe := Lib.hid hwe
              clear hs hy hfe hwe
              go_wp2_with fail
              refine (rput_wrote w g row N len 1 _ 0 0 1 _ rfl rfl (by omega) (show (0 : Nat) < 18446744073709551616 by decide) H3.out (by rw [flen_app]; have := hl.out; show len + (flen fs + (1 + 0)) ≤ _; omega)).mono ?_
              rintro e w5 ⟨rfl, h5⟩
              have H5 := Lib.hid h5
              clear h5 H3
              go_wp2_with fail
              refine (rput_wrote w g row N len s _ y _ _ _ rfl rfl hs64 hyl.out H5.out (by rw [flen_app, flen_app]; have := hl.out; show len + (flen fs + (1 + 0) + (1 + 0)) ≤ _; omega)).mono ?_
              rintro e w6 ⟨rfl, h6⟩
              have H6 : Hid (XREnc w w6 g row N len zs (i + 1) win) := Lib.hid (by
                have h := hnx.out w6 (by rw [Hfe.out]; simpa using h6)
                rwa [Hwe.out] at h)
              clear h6 H5 hs1 hy1 hbw
              go_wp2_with fail
              go_roundg (gk - 1)
              case measure => have := Hil.out; omega
              case rel => exact ⟨i + 1, win, by have := Hil.out; omega, by go_num, by rw [Hany.out], by rw [Ha.out], by rw [Hb.out], H6.out⟩
            | false =>
              have hnf : ¬ fitsX win x = true := by rw [← Hfit.out]; decide
              have hfe : fieldsX win x = [(1, 1), (1, 1), (ah, 5), (63 - ah - be, 6), (x / 2 ^ be, 64 - ah - be)] := by rw [Hah.out, Hbe.out]; unfold fieldsX; rw [if_neg hx0, if_neg hnf]; rfl
              have hwe : winX win x = some (ah, be) := by rw [Hah.out, Hbe.out]; unfold winX; rw [if_neg hx0, if_neg hnf]
              obtain ⟨s, hs⟩ : ∃ s, s = 64 - ah - be := ⟨_, rfl⟩
              obtain ⟨m, hm⟩ : ∃ m, m = 63 - ah - be := ⟨_, rfl⟩
              obtain ⟨y, hy⟩ : ∃ y, y = x / 2 ^ be := ⟨_, rfl⟩
              have hs1 : (64 : Int) - (ah : Int) - (be : Int) = (s : Int) := by omega
              have hm1 : (63 : Int) - (ah : Int) - (be : Int) = (m : Int) := by omega
              have hy1 : (x : Int) / 2 ^ be = (y : Int) := by rw [hy]; simp
              have hyl : Hid (Lt64 y) := Lib.hid (by have := hxl.out.out; have := Nat.div_le_self x (2 ^ be); unfold Lt64; omega)
              have hbw : IntKind.u64.wrap (be : Int) = (be : Int) := by rw [IntKind.wrap_u64]; omega
              have haw : IntKind.u64.wrap (ah : Int) = (ah : Int) := by rw [IntKind.wrap_u64]; omega
              have hmw : IntKind.u64.wrap (m : Int) = (m : Int) := by rw [IntKind.wrap_u64]; omega
              have hs64 : s ≤ 64 := by omega
              have hm64 : m ≤ 63 := by omega
              rw [← hs, ← hm, ← hy] at hfe
              have Hfe := Lib.hid hfe; have Hwe := Lib.hid hwe
              clear hs hm hy hfe hwe hnf
              go_wp2_with (first | (go_at_call 24; refine (rahead_any x _).mono ?_; rintro e w5 ⟨rfl, rfl⟩; rw [← Hah.out]) | (go_at_call 25; refine (rbehind_any x _ (by omega) hxl.out).mono ?_; rintro e w5 ⟨rfl, rfl⟩; rw [← Hbe.out]))
              refine (rput_wrote w g row N len 1 _ 1 1 1 _ rfl rfl (by omega) (show (1 : Nat) < 18446744073709551616 by decide) H3.out (by rw [flen_app]; have := hl.out; show len + (flen fs + (1 + 0)) ≤ _; omega)).mono ?_
              rintro e w5 ⟨rfl, h5⟩
              have H5 := Lib.hid h5
              clear h5 H3
              go_wp2_with fail
              refine (rput_wrote w g row N len 5 _ ah _ 5 _ rfl rfl (by omega) (show ah < 18446744073709551616 by omega) H5.out (by rw [flen_app, flen_app]; have := hl.out; show len + (flen fs + (1 + 0) + (1 + 0)) ≤ _; omega)).mono ?_
              rintro e w6 ⟨rfl, h6⟩
              have H6 := Lib.hid h6
              clear h6 H5
              go_wp2_with fail
              refine (rput_wrote w g row N len 6 _ m _ 6 _ rfl rfl (by omega) (show m < 18446744073709551616 by omega) H6.out (by rw [flen_app, flen_app, flen_app]; have := hl.out; show len + (flen fs + (1 + 0) + (1 + 0) + (5 + 0)) ≤ _; omega)).mono ?_
              rintro e w7 ⟨rfl, h7⟩
              have H7 := Lib.hid h7
              clear h7 H6
              go_wp2_with fail
              refine (rput_wrote w g row N len s _ y _ _ _ rfl rfl hs64 hyl.out H7.out (by rw [flen_app, flen_app, flen_app, flen_app]; have := hl.out; show len + (flen fs + (1 + 0) + (1 + 0) + (5 + 0) + (6 + 0)) ≤ _; omega)).mono ?_
              rintro e w8 ⟨rfl, h8⟩
              have H8 : Hid (XREnc w w8 g row N len zs (i + 1) (some (ah, be))) := Lib.hid (by
                have h := hnx.out w8 (by rw [Hfe.out]; simpa using h8)
                rwa [Hwe.out] at h)
              clear h8 H7 hs1 hm1 hy1 hbw haw hmw
              go_wp2_with fail
              go_roundg (gk - 1)
              case measure => have := Hil.out; omega
              case rel => exact ⟨i + 1, some (ah, be), by have := Hil.out; omega, by go_num, rfl, rfl, rfl, H8.out⟩
    · go_wp2_with fail
      go_end0
      refine ⟨rfl, ?_⟩
      obtain ⟨fs, hwr, hok, he0, he1⟩ := HE.out
      have hil := Hil.out
      have hzl := Hzl.out
      rcases Nat.eq_zero_or_pos i with h0 | h0
      · obtain ⟨rfl, _⟩ := he0 h0
        have : zs = [] := List.eq_nil_of_length_eq_zero (by omega)
        subst this
        exact hwr
      · obtain ⟨prev, _, this⟩ := he1 h0
        rw [List.drop_of_length_le (by omega)] at this
        have e : fs = encVals zs := by rw [← this]; show fs = fs ++ []; simp
        rw [← e]
        exact hwr
end Go.Proofs.YtdlkjfnifjlbhaaDoor

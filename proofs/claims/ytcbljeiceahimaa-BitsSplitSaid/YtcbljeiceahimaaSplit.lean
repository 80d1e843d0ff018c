import Derived.Test.YtcbljeiceahimaaTwo
import Derived.Test.YtcbljeiceahimaaConv
namespace Go.Proofs.Ytcbljeiceahimaa
open Go.RowKit

set_option maxHeartbeats 4000000 in
set_option maxRecDepth 100000 in
theorem split_walk (v : Nat) (n at' ahead k : Int) (n0 q k0 : Nat) (w : World) (hn : bits .and .i64 n 63 = (n0 : Int)) (hn0 : n0 < 64) (hq : bits .and .i64 at' 255 = (q : Int)) (hq0 : q < 256) (hk : bits .and .i64 k 63 = (k0 : Int)) (hk0 : k0 < 64)
    (hv : Lt64 v) (ha : Fit64 ahead) :
    Calls Try.prog 4 #[.int .u64 (v : Int), .int .i64 n, .int .i64 at', .int .u64 ahead, .int .i64 k] w fun e w' => e = .returned (.bool true) ∧ Mod (fun _ => False) w w' := by
  obtain ⟨nn, hnn, hnn1, hnn2⟩ : ∃ nn : Nat, (n0 : Int) + 1 = (nn : Int) ∧ 1 ≤ nn ∧ nn ≤ 64 := ⟨n0 + 1, by omega, by omega, by omega⟩
  obtain ⟨m, hm, hm1⟩ : ∃ m : Nat, (q : Int) % ((nn : Int) + 1) = (m : Int) ∧ m ≤ nn := ⟨q % (nn + 1), by simp, by have := Nat.mod_lt q (show 0 < nn + 1 by omega); omega⟩
  obtain ⟨d, hd, Hd⟩ : ∃ d : Nat, (nn : Int) - (m : Int) = (d : Int) ∧ Hid (d = nn - m) := ⟨nn - m, by omega, rfl⟩
  have hd64 : d ≤ 64 := by have := Hd.out; omega
  have hfv : Fit64 (v : Int) := ⟨Int.natCast_nonneg _, by have := hv.out; omega⟩
  have hfd : Fit64 ((v : Int) / 2 ^ d) := by
    have e : (v : Int) / 2 ^ d = ((v / 2 ^ d : Nat) : Int) := by simp
    rw [e]
    have h1 := Nat.div_le_self v (2 ^ d)
    have h2 := hv.out
    generalize v / 2 ^ d = x at *
    exact ⟨Int.natCast_nonneg _, by omega⟩
  have Hdiv : Hid (((v : Int) / 2 ^ d).toNat = v / 2 ^ d) := Lib.hid (by
    have e : (v : Int) / 2 ^ d = ((v / 2 ^ d : Nat) : Int) := by simp
    rw [e, Int.toNat_natCast])
  go_enter Try.func4, Try.ntmps4
  go_wp2_with fail
  refine (newWriter_wr _).mono ?_
  rintro e w1 ⟨a, rfl, ha1, ha2, hwa, hm1⟩
  have Hwa := Lib.hid hwa; have Hm1 := Lib.hid hm1
  clear hwa hm1
  go_wp2_with fail
  refine (newWriter_wr _).mono ?_
  rintro e w2 ⟨b, rfl, hb1, hb2, hwb, hm2⟩
  have S2 := Lib.hid (St2.begin ha1 ha2 Hwa.out Hm1.out hb1 hwb hm2)
  clear hwb hm2 Hwa Hm1 ha1 ha2 hb1 hb2
  go_wp2_with fail
  refine (put_wr a none 0 0 k0 ahead k0 _ ⟨by omega, by omega⟩ ha (by omega) S2.out.wa (by omega)).mono ?_
  rintro e w3 ⟨rfl, ra3, hwa, hm, hr⟩
  have S3 := Lib.hid (S2.out.put hwa hm hr)
  clear hwa hm hr S2
  go_wp2_with fail
  refine (put_wr b none 0 0 k0 ahead k0 _ ⟨by omega, by omega⟩ ha (by omega) S3.out.wb (by omega)).mono ?_
  rintro e w4 ⟨rfl, rb4, hwa, hm, hr⟩
  have S4 := Lib.hid (S3.out.symm.put hwa hm hr).symm
  clear hwa hm hr S3
  go_wp2_with fail
  refine (put_wr a ra3 _ _ nn (v : Int) nn _ ⟨by omega, by omega⟩ hfv (by omega) S4.out.wa (by omega)).mono ?_
  rintro e w5 ⟨rfl, ra5, hwa, hm, hr⟩
  have S5 := Lib.hid (S4.out.put hwa hm hr)
  clear hwa hm hr S4
  go_wp2_with fail
  refine (put_wr b rb4 _ _ m ((v : Int) / 2 ^ d) m _ ⟨by omega, by omega⟩ hfd (by omega) S5.out.wb (by omega)).mono ?_
  rintro e w6 ⟨rfl, rb6, hwa, hm, hr⟩
  have S6 := Lib.hid (S5.out.symm.put hwa hm hr).symm
  clear hwa hm hr S5
  go_wp2_with fail
  refine (put_wr b rb6 _ _ d (v : Int) d _ ⟨by omega, by omega⟩ hfv (by omega) S6.out.wb (by omega)).mono ?_
  rintro e w7 ⟨rfl, rb7, hwa, hm, hr⟩
  have S7 := Lib.hid (S6.out.symm.put hwa hm hr).symm
  clear hwa hm hr S6
  have SE : Hid (∃ N L, L = k0 + nn ∧ St2 w w7 a ra5 N L b rb7 N L) := Lib.hid (by
    refine ⟨(0 * 2 ^ k0 + ahead.toNat % 2 ^ k0) * 2 ^ nn + v % 2 ^ nn, 0 + k0 + nn, by omega, ?_⟩
    have := S7.out
    rw [Hdiv.out, Hd.out, Int.toNat_natCast, split_num _ v nn m hm1, show 0 + k0 + m + (nn - m) = 0 + k0 + nn by omega] at this
    exact this)
  obtain ⟨N, L, hL, s7⟩ := SE.out
  have S8 := Lib.hid s7
  have hL2 : L ≤ 200 := by omega
  have HL := Lib.hid hL
  clear S7 SE s7 hL
  go_wp2_with fail
  refine (bytes_any a ra5 N L _ S8.out.wa (by omega)).mono ?_
  rintro e w8 ⟨vx, bs, rfl, hnew, hpk⟩
  obtain ⟨Ax, cx, rx, rfl, _, hAx, hrx1, hrx2, hsx⟩ := hnew.form
  have hlen : Hid (bs.length = (L + 7) / 8) := Lib.hid (packed_len hpk)
  have S9 := Lib.hid (S8.out.new hnew.2.1)
  have Hpk := Lib.hid hpk; have Hsx := Lib.hid hsx; have HAx := Lib.hid hAx
  have Hrx : Hid (w.heap.size ≤ rx ∧ (0 < bs.length → rx ≠ a ∧ rx ≠ b ∧ ra5 ≠ some rx ∧ rb7 ≠ some rx)) := Lib.hid ⟨by have := S8.out.mod.size; omega, fun _ => ⟨by have := S8.out.wa.lt; omega, by have := S8.out.wb.lt; omega, fun e => by have := S8.out.wa.row_lt _ e; omega, fun e => by have := S8.out.wb.row_lt _ e; omega⟩⟩
  clear hnew hpk hsx hAx hrx1 hrx2 S8
  go_wp2_with fail
  refine (bytes_any b rb7 N L _ S9.out.wb (by omega)).mono ?_
  rintro e w9 ⟨vy, bs', rfl, hnew, hpk⟩
  obtain rfl := packed_one Hpk.out hpk
  obtain ⟨Ay, cy, ry, rfl, _, hAy, hry1, hry2, hsy⟩ := hnew.form
  have S10 := Lib.hid (S9.out.new hnew.2.1)
  have Hsx9 := Lib.hid (Hsx.out.mod hnew.2.1 (fun _ h => h))
  have hcx := conv_seen w9 Hsx9.out Hpk.out.1 HAx.out
  have hcy := conv_seen w9 hsy Hpk.out.1 hAy
  clear hnew hpk hsy hAy hry1 hry2 S9 Hsx
  go_wp2_with fail
  refine (len_ab a ra5 N L _ S10.out.wa (by omega)).mono ?_
  rintro e w10 ⟨rfl, hm⟩
  have S11 := Lib.hid (S10.out.new hm)
  have Hsx10 := Lib.hid (Hsx9.out.mod hm (fun _ h => h))
  clear hm S10 hcx hcy Hsx9
  go_wp2_with fail
  refine (len_ab b rb7 N L _ S11.out.wb (by omega)).mono ?_
  rintro e w11 ⟨rfl, hm⟩
  have S12 := Lib.hid (S11.out.new hm)
  have Hsx11 := Lib.hid (Hsx10.out.mod hm (fun _ h => h))
  clear hm S11 Hsx10
  go_wp2_with fail
  refine (len_ab a ra5 N L _ S12.out.wa (by omega)).mono ?_
  rintro e wq ⟨rfl, hm⟩
  have S13 := Lib.hid (S12.out.new hm)
  have Hsx13 := Lib.hid (Hsx11.out.mod hm (fun _ h => h))
  clear hm S12 Hsx11
  have hcx := conv_seen wq Hsx13.out Hpk.out.1 HAx.out
  have hLs : (k0 : Int) + (nn : Int) = (L : Int) := by have := HL.out; omega
  go_wp2_with fail
  refine (put_wr a ra5 N L 64 18446744073709551615 64 _ ⟨by decide, by decide⟩ ⟨by decide, by decide⟩ (by decide) S13.out.wa (by omega)).mono ?_
  rintro e w14 ⟨rfl, ra14, hwa, hm, hr⟩
  have S14 := Lib.hid (S13.out.put hwa hm hr)
  have Hsx14 := Lib.hid (Hsx13.out.mod' hm (fun h0 h => h.elim (fun e => (Hrx.out.2 h0).1 e) (fun e => (Hrx.out.2 h0).2.2.1 e)))
  clear hwa hm hr S13 Hsx13 hcx
  go_wp2_with fail
  refine (bytes_any b rb7 N L _ S14.out.wb (by omega)).mono ?_
  rintro e w15 ⟨vz, bs', rfl, hnew, hpk⟩
  obtain rfl := packed_one Hpk.out hpk
  obtain ⟨gz, cz, rfl, hgz, hgz2⟩ : ∃ gz cz, vz = .slice (some ⟨gz, 0, none⟩) bs'.length cz ∧ w14.heap.size ≤ gz ∧ gz < w15.heap.size := by
    obtain ⟨gz, cz, h1, _, h3⟩ := hnew.1.form (by have := hlen.out; have := HL.out; omega)
    refine ⟨gz, cz, h1, ?_, h3⟩
    rcases hnew.2.2 with h | ⟨r, h, hr'⟩
    · rw [h1] at h; cases h
    · rw [h1] at h; simp [Value.ownBlock] at h; omega
  have S15 := Lib.hid (S14.out.new hnew.2.1)
  have Hsx15 := Lib.hid (Hsx14.out.mod hnew.2.1 (fun _ h => h))
  have Hgz : Hid (gz ≠ a ∧ gz ≠ b ∧ ra14 ≠ some gz ∧ rb7 ≠ some gz ∧ w.heap.size ≤ gz ∧ (0 < bs'.length → rx ≠ gz)) := Lib.hid ⟨by have := S14.out.wa.lt; omega, by have := S14.out.wb.lt; omega,
    fun e => by have := S14.out.wa.row_lt _ e; omega, fun e => by have := S14.out.wb.row_lt _ e; omega, by have := S14.out.mod.size; omega, fun h0 => by obtain ⟨o, _, h1, _⟩ := Hsx14.out.2 h0; omega⟩
  have Hown := Lib.hid hnew.1
  have hbl : bs'.length ≤ 1000 := by have := hlen.out; omega
  clear hnew hpk S14 Hsx14 hgz hgz2
  go_wp2_with fail
  go_loopw [95] (fun s95 wr => ∃ (i : Nat) (zs : List Nat), i ≤ bs'.length ∧ s95 = .int .i64 (i : Int) ∧ wr.ownsRow 0 5 1 (.slice (some ⟨gz, 0, none⟩) bs'.length cz) bs'.length (cells8 zs) ∧ lt256 zs ∧ Mod (fun j => j = gz) w15 wr)
    (fun s95 _ => bs'.length - (intOf s95).toNat)
  case atStart => exact ⟨0, bs', Nat.zero_le _, rfl, Hown.out, Hpk.out.1, Mod.refl _ _⟩
  case round =>
    obtain ⟨i, zs, hi, rfl, hown, hltz, hmz⟩ := hrel
    have hzl := hown.1
    rw [cells8_length] at hzl
    by_cases hin : i < bs'.length
    · obtain ⟨z, hz⟩ : ∃ z, zs[i]? = some z := ⟨zs[i]'(by omega), List.getElem?_eq_getElem _⟩
      have hcz := hown.cellAt i (by omega)
      rw [cells8_get, hz] at hcz
      simp at hcz
      have hfz := hown.frozenAt i
      have hz256 : z < 256 := hltz z (List.mem_of_getElem? hz)
      have Hown2 := Lib.hid hown; have Hltz := Lib.hid hltz; have Hmz := Lib.hid hmz; have Hzl := Lib.hid hzl
      clear hown hltz hmz hzl hz
      go_wp2
      go_roundw
      case rel =>
        have e1 : ((z : Int) + 1) % 256 = (((z + 1) % 256 : Nat) : Int) := by simp
        rw [e1]
        refine ⟨i + 1, zs.set i ((z + 1) % 256), by omega, by go_num, ?_, ?_, Hmz.out.setCell (p := ⟨gz, i, none⟩) (fun _ => rfl) _⟩
        · have := (Hown2.out.stored i (.int .u8 (((z + 1) % 256 : Nat) : Int))).1
          rwa [cells8_set] at this
        · intro x hx
          rcases List.mem_or_eq_of_mem_set hx with h | h
          · exact Hltz.out x h
          · omega
      case measure => simp [intOf]; omega
    · have S16 := Lib.hid (S15.out.step hmz (fun j _ e => ⟨by have := Hgz.out; omega, by have := Hgz.out; omega, by have := Hgz.out; omega, fun h => Hgz.out.2.2.1 (e ▸ h), fun h => Hgz.out.2.2.2.1 (e ▸ h)⟩))
      have Hsx16 := Lib.hid (Hsx15.out.mod' hmz (fun h0 e => Hgz.out.2.2.2.2.2 h0 e))
      have hcx := conv_seen wr Hsx16.out Hpk.out.1 HAx.out
      clear hown hltz hmz hzl S15 Hsx15
      go_wp2_with fail
      refine (bytes_any b rb7 N L _ S16.out.wb (by omega)).mono ?_
      rintro e w17 ⟨vy, bs', rfl, hnew, hpk⟩
      obtain rfl := packed_one Hpk.out hpk
      obtain ⟨Ay, cy, ry, rfl, _, hAy, hry1, hry2, hsy⟩ := hnew.form
      have S17 := Lib.hid (S16.out.new hnew.2.1)
      have hcy := conv_seen w17 hsy Hpk.out.1 hAy
      clear hnew hpk hsy hAy hry1 hry2 S16 hcx
      go_wp2_with fail
      refine (awake_any _).mono ?_
      rintro e w18 ⟨rfl, hm⟩
      have S18 := Lib.hid (S17.out.new hm)
      clear hm S17 hcy
      go_wp2
      go_ret
      exact ⟨rfl, S18.out.mod⟩
end Go.Proofs.Ytcbljeiceahimaa

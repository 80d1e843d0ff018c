import Derived.Test.YtdlkjfnifjlbhaaDoorBitp
import Derived.Deep.QuietTactic
import Derived.BigQuiet
namespace Go.Proofs.YtdlkjfnifjlbhaaDoor
open Go.RowKit

theorem len_any (g : Nat) (row : Option Nat) (N len : Nat) (w : World) (hw : Wr w g row N len) (hlen : len ≤ 1000000000) :
    Calls Tryd.prog 9 #[.pointer (some ⟨g, 0, none⟩)] w fun e w' => e = .returned (.int .i64 (len : Int)) ∧ ∃ n, w' = w.drewN n := by
  obtain ⟨free, hf8, sv, bs, hblk, hown, hrow, hlt, hlf, hval, hN⟩ := hw
  have hc0 := hblk.cell 0
  have hc1 := hblk.cell 1
  simp at hc0 hc1
  have hb : bs.length ≤ 1000000000 := by omega
  have Hlf := Lib.hid hlf
  have hsv : sv = .slice none 0 0 ∧ bs = [] ∨ ∃ A c, sv = .slice A bs.length c := by
    rcases hown.2 with ⟨h1, h2⟩ | ⟨g', cap, cur, h1, _⟩
    · exact .inl ⟨h1, List.eq_nil_of_length_eq_zero h2⟩
    · exact .inr ⟨_, _, h1⟩
  clear hblk hown hrow hlt hlf hval hN
  rcases hsv with ⟨rfl, rfl⟩ | ⟨A, c, rfl⟩
  · go_enter Tryd.func9, Tryd.ntmps9
    go_wp2
    go_quiet (fail)
    go_wp2
    go_ret
    exact ⟨ret_int (by have := Hlf.out; simp at this; omega), _, rfl⟩
  · go_enter Tryd.func9, Tryd.ntmps9
    go_wp2
    go_quiet (fail)
    go_wp2
    go_ret
    exact ⟨ret_int (by have := Hlf.out; omega), _, rfl⟩

end Go.Proofs.YtdlkjfnifjlbhaaDoor

import Derived.Test.YtldjobaafambbaaBitw
import Derived.Laws.IdiomStrings
namespace Go.Proofs.Ytldjobaafambbaa
open Go.RowKit

/-- string(b), b a slice that is seen. -/
theorem conv_seen {row n c : Nat} {A : Option Addr} {bs : List Nat} (w : World) (hs : Sees w row A n (cells8 bs)) (hlt : lt256 bs) (hA : A = none → c = 0) :
    (convert 27 9 (.slice A n c)).run Try.prog w = .ok (.string (strOf bs)) w := by
  have hlen := hs.1
  rw [cells8_length] at hlen
  rcases Nat.eq_zero_or_pos n with h0 | h0
  · subst h0
    obtain rfl := List.eq_nil_of_length_eq_zero hlen
    rw [run_convert_bytes_string w 27 9 5 A 0 c Try.underlying27 Try.underlying5 Try.underlying9]
    cases A <;> rfl
  · obtain ⟨o, rfl, hl, hc⟩ := hs.2 h0
    have := run_convert_bytes_back (P := Try.prog) w 27 9 5 ⟨row, o, none⟩ c (bs.map UInt8.ofNat) Try.underlying27 Try.underlying5 Try.underlying9 (by
      intro j hj
      simp at hj
      rw [add_addr]
      refine hc j _ ?_
      rw [cells8_get, List.getElem?_eq_getElem hj]
      have := hlt _ (List.getElem_mem hj)
      simp
      omega)
    rw [List.length_map, hlen] at this
    exact this
end Go.Proofs.Ytldjobaafambbaa

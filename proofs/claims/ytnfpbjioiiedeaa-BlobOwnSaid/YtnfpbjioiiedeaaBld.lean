/- Get of the store. -/
import Derived.Test.YtnfpbjioiiedeaaHd
import Derived.Test.YtnfpbjioiiedeaaBlc
namespace Go.Proofs.Ytnfpbjioiiedeaa
open Go.RowKit Go.Maps

set_option maxHeartbeats 1000000 in
set_option maxRecDepth 100000 in
theorem blGet_any {B : Nat → Prop} {g b N : Nat} {s : BloN} (k : Int) (w : World) (h : BloV B g b N w s) (hk : FitI k) : Calls Try.prog 11 #[.pointer (some ⟨g, 0, none⟩), .int .i64 k] w fun e w' => ∃ v, e = .returned (.tuple #[v, .bool (atB s k).isSome]) ∧ Own w.heap.size w' 5 v (cells8 (bytesB s k)) ∧ Mod (fun _ => False) w w' := by
  obtain ⟨A, n, c, hrun, hs, hn, hc1, hc2⟩ := look_row h hk
  obtain ⟨bs, hbs⟩ : ∃ bs, bytesB s k = bs := ⟨_, rfl⟩
  obtain ⟨ok, hok⟩ : ∃ ok, (atB s k).isSome = ok := ⟨_, rfl⟩
  obtain ⟨H, hH⟩ : ∃ H : Int, (holdsB s k : Int) = H := ⟨_, rfl⟩
  rw [hbs] at hs ⊢
  rw [hok] at hrun ⊢
  rw [hH] at hrun
  have y4 := h.box.cell 4
  simp [bloC] at y4
  obtain ⟨W, hW, hmW, hkW, hzW⟩ := new_box w 41 #[.slice A n c, .int .i64 H]
  obtain ⟨g5, hg5⟩ : ∃ x, x = w.heap.size := ⟨_, rfl⟩
  rw [← hg5] at hkW
  have z0 := hkW.cell 0
  simp at z0
  have hc := blCopied_any A n c bs W (hs.new hmW).rds.2.2.2 (by omega)
  have Hc := Lib.hid hc; have HW := Lib.hid hW; have HmW := Lib.hid hmW; have Hg5 := Lib.hid hg5; have HzW := Lib.hid hzW
  clear h hk hs hn hbs hok hH hc hW hmW hkW hg5 hzW
  go_enter Try.func11, Try.ntmps11
  go_upto_region 2 with fail
  rw [← HW.out, ← Hg5.out]
  go_wp2_with fail
  refine Hc.out.mono ?_
  rintro e w1 ⟨v, rfl, ho, hm⟩
  have Ho := Lib.hid ho; have Hm := Lib.hid hm
  clear ho hm
  go_wp2_with fail
  go_ret2
  exact ⟨v, rfl, Ho.out.mono HmW.out.size, HmW.out.trans Hm.out (fun _ _ h => h)⟩
end Go.Proofs.Ytnfpbjioiiedeaa

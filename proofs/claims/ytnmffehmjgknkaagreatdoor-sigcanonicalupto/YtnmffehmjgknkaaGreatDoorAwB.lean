/-
  findWay of a request without anything.
-/
import Derived.Test.YtnmffehmjgknkaaGreatDoorAwA
namespace Go.Proofs.YtnmffehmjgknkaaGreatDoor
open Go.RowKit

set_option maxRecDepth 20000 in
set_option maxHeartbeats 2000000 in
theorem way_none (p : Nat) (m t k x0 x1 x2 x3 x4 x5 x6 x7 x8 x9 x10 b n : Value) (a : Option Addr) (c : Nat) (w : World)
    (hbox : w.heap[p]? = some (.cells #[m, t, .slice none 0 0, b, .slice a 0 c, k, n, .bool false, x0, x1, x2, x3, x4, x5, x6, x7, x8, x9, x10] 85 (0, 0))) :
    Calls Tryz.prog 51 #[.pointer (some ⟨p, 0, none⟩)] w fun e w' => e = .returned (.int .i64 300) ∧ Md (· = p) w w' := by
  have HX := (show Hid _ from hbox)
  have h2 : w.cell? ⟨p, 2, none⟩ = some (.slice none 0 0) := by have := cell_blk hbox 2; simpa using this
  have KA := (show Hid _ from all_any none [] 0 [97, 117, 116, 104, 111, 114, 105, 122, 97, 116, 105, 111, 110] w (.inl rfl) (by simp))
  clear hbox
  go_enter Tryz.func51, Tryz.ntmps51
  go_wp2_with fail
  refine Calls.mono KA.out ?_
  rintro e w1 ⟨v, rfl, ho, hb1⟩
  obtain ⟨a1, c1, rfl, -⟩ := ho.strs
  have HB1 := (show Hid (Below w.heap.size w w1) from hb1)
  rw [show (toB (allL [] [97, 117, 116, 104, 111, 114, 105, 122, 97, 116, 105, 111, 110])).length = 0 from rfl]
  have KC := (show Hid _ from contains_nil a c (.func (.func 33) #[] #[]) w1)
  have hx1 := (hb1.block p (blk_lt HX.out)).trans HX.out
  have HX1 := (show Hid _ from hx1)
  have h4 : w1.cell? ⟨p, 4, none⟩ = some (.slice a 0 c) := by have := cell_blk hx1 4; simpa using this
  clear ho hb1 KA hx1 h2
  go_wp2_with fail
  refine Calls.mono KC.out ?_
  rintro e w2 ⟨rfl, hb2⟩
  have HB2 := (show Hid (Below w.heap.size w w2) from HB1.out.trans (hb2.mono HB1.out.size))
  have hx2 := (hb2.block p (blk_lt HX1.out)).trans HX1.out
  have HX2 := (show Hid _ from hx2)
  have hf7 : w2.frozen? ⟨p, 7, none⟩ = false := frozen_blk hx2 7
  have h7 : w2.cell? ⟨p, 7, none⟩ = some (.bool false) := by have := cell_blk hx2 7; simpa using this
  clear hb2 KC h4
  go_wp2_with fail
  go_ret
  exact ⟨rfl, (Md.ofBelow HB2.out).setp 7 _⟩
end Go.Proofs.YtnmffehmjgknkaaGreatDoor

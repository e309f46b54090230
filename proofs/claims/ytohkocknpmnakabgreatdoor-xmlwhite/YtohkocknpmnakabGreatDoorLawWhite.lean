/-
  The law XmlWhite.
-/
import Derived.Test.YtohkocknpmnakabGreatDoorWhF
namespace Go.Proofs.YtohkocknpmnakabGreatDoor
open Go.RowKit

theorem Mx.bel {w w' : World} (h : Mx w) (hb : Below w.heap.size w w') : Mx w' := h.md (Md.ofBelow (F := fun _ => False) hb) (fun h => h)
theorem Er.bel {w w' : World} (h : Er w) (hb : Below w.heap.size w w') : Er w' := h.md (Md.ofBelow (F := fun _ => False) hb) (fun h => h)

set_option maxRecDepth 20000 in
set_option maxHeartbeats 3200000 in
theorem white_long (a b : ByteArray) (z : Int) (w : World) (ha : a.size ≤ 140737488351232) (hb : b.size ≤ 140737488351232) (hl : 1000 < a.size + b.size) (hm : Mx w) (he : Er w) :
    Calls Tryz.prog 3 #[.string a, .string b, .int .i64 z] w fun e w' => e = .returned (.bool true) ∧ Below w.heap.size w w' := by
  have KA := (show Hid (∀ W, Below w.heap.size w W → Calls Tryz.prog 4 #[] W fun e w' => e = .returned (.bool true) ∧ Below W.heap.size W w') from fun W h => awake_any W (hm.bel h) (he.bel h))
  have hli : (1000 : Int) < (a.size : Int) + (b.size : Int) := by omega
  clear hm he
  go_enter Tryz.func3, Tryz.ntmps3
  go_wp2_with fail
  refine (KA.out _ (Below.refl _ _)).mono ?_
  rintro e w1 ⟨rfl, hb1⟩
  go_wp2
  go_ret
  exact ⟨rfl, hb1⟩
end Go.Proofs.YtohkocknpmnakabGreatDoor

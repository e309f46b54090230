/-
  sig.Verify of a request without anything.
-/
import Derived.Test.YtnmffehmjgknkaaGreatDoorSgB
namespace Go.Proofs.YtnmffehmjgknkaaGreatDoor
open Go.RowKit

set_option maxHeartbeats 1000000 in
theorem index_nil (a : Option Addr) (c : Nat) (f : Value) (w : World) : Calls Tryz.prog 91 #[.slice a 0 c, f] w fun e w' => e = .returned (.int .i64 (-1)) ∧ Below w.heap.size w w' := by
  go_enter Tryz.func91, Tryz.ntmps91
  go_wp2_with fail
  go_loopw [8] (fun i wr => i = .int .i64 0 ∧ wr = w) (fun _ _ => 0)
  case atStart => exact ⟨rfl, rfl⟩
  case round =>
    obtain ⟨rfl, rfl⟩ := hrel
    go_wp2
    go_ret
    exact ⟨rfl, Below.refl _ _⟩
set_option maxHeartbeats 1000000 in
theorem contains_nil (a : Option Addr) (c : Nat) (f : Value) (w : World) : Calls Tryz.prog 69 #[.slice a 0 c, f] w fun e w' => e = .returned (.bool false) ∧ Below w.heap.size w w' := by
  have K := (show Hid _ from index_nil a c f w)
  go_enter Tryz.func69, Tryz.ntmps69
  go_wp2_with fail
  refine Calls.mono K.out ?_
  rintro e w1 ⟨rfl, hb⟩
  have HB := (show Hid _ from hb)
  go_wp2
  go_ret
  exact ⟨rfl, HB.out⟩
end Go.Proofs.YtnmffehmjgknkaaGreatDoor

/-
  A region that draws its order, whose operations only read and whose callees may lay new blocks: walked once, in the class of all worlds that stand above a world.
-/
import Derived.Test.YtohkocknpmnakaaGreatDoorRun41
import Derived.BigQuiet
namespace Go.Proofs.YtohkocknpmnakaaGreatDoor
open Go.RowKit

/-- A world in which all that lay below B in the world w0 lies as it was. -/
structure Above (w0 : World) (B : Nat) where
  val : World
  ok : Below B w0 val
instance (w0 : World) (B : Nat) : Nonempty (Above w0 B) := ⟨⟨w0, Below.refl _ _⟩⟩

theorem wp_region_above {P : Program} {id : Nat} {Q : Exit → Act → World → Prop} {a : Act} {w : World} {l : List Oper} (w0 : World) (B : Nat) (hm : P.follows .mixedOrders = true) (hB : Region.lexB .any l.toArray = true)
    (hb : Below B w0 w) (h : wpQuiet P l.toArray (fun w' => ∃ n : Above w0 B, w' = n.val) (fun a' => ∀ w', (∃ n : Above w0 B, w' = n.val) → Q .normal a' w') l a) : (Code.region id l.toArray true).wp P Q a w :=
  wp_region_quiet (C := fun w' => ∃ n : Above w0 B, w' = n.val) hm hB ⟨⟨_, hb.drew⟩, rfl⟩ (by simpa using h)
theorem above_same {P : Program} {f : FuncId} {args : Array Value} {w0 : World} {B : Nat} {n : Above w0 B} {v : Value}
    (h : Calls P f args n.val fun e w' => e = .returned v ∧ w' = n.val) : Calls P f args n.val fun e w'' => e = .returned v ∧ ∃ m : Above w0 B, w'' = m.val :=
  h.mono fun _ _ ⟨he, hm⟩ => ⟨he, n, hm⟩
theorem above_below {P : Program} {f : FuncId} {args : Array Value} {w0 : World} {n : Above w0 w0.heap.size} {v : Value}
    (h : Calls P f args n.val fun e w' => e = .returned v ∧ Below n.val.heap.size n.val w') : Calls P f args n.val fun e w'' => e = .returned v ∧ ∃ m : Above w0 w0.heap.size, w'' = m.val :=
  h.mono fun _ w'' ⟨he, hm⟩ => ⟨he, ⟨w'', n.ok.trans (hm.mono n.ok.size)⟩, rfl⟩
end Go.Proofs.YtohkocknpmnakaaGreatDoor

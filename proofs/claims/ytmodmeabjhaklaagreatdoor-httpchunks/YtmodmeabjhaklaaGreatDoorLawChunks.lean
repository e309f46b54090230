/-
  HttpChunks: the law's walk.
-/
import Derived.Test.YtmodmeabjhaklaaGreatDoorCkF
import Derived.Test.YtmodmeabjhaklaaGreatDoorCkT
namespace Go.Proofs.YtmodmeabjhaklaaGreatDoor
open Go.RowKit

theorem httpChunks_walk (a0 : Option Addr) (X : List (List UInt8)) (cap0 : Nat) (up tr : Bool) (w : World) (hX : Sls w a0 X) (hm : Mx w) (he : Er w) :
    Calls Tryz.prog 7 #[.slice a0 X.length cap0, .bool up, .bool tr] w fun e w' => e = .returned (.bool true) ∧ Below w.heap.size w w' := by
  cases up
  · exact chunks_false a0 X cap0 tr w hX hm he
  · exact chunks_true a0 X cap0 tr w hX hm he
end Go.Proofs.YtmodmeabjhaklaaGreatDoor

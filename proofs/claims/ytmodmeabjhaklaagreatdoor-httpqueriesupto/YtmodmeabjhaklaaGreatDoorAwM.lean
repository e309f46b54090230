/-
  What the three requests that the laws fix are read as.
-/
import Derived.Test.YtmodmeabjhaklaaGreatDoorHtM
namespace Go.Proofs.YtmodmeabjhaklaaGreatDoor
open Go.RowKit
def aw1 : List UInt8 := [71, 69, 84, 32, 47, 32, 72, 84, 84, 80, 47, 49, 46, 49, 13, 10, 72, 111, 115, 116, 58, 32, 97, 13, 10, 13, 10, 109, 111, 114, 101]
def aw2 : List UInt8 := [71, 69, 84, 32, 47, 32, 72, 84, 84, 80, 47, 49, 46, 48, 13, 10]
def aw3 : List UInt8 := [71, 69]
theorem aw1_eq : parseL aw1 = .done 27 [71, 69, 84] [47] [([104, 111, 115, 116], [97])] [] false false := by kernel_rfl
theorem aw2_eq : parseL aw2 = .bad 340 := by kernel_rfl
theorem aw3_eq : parseL aw3 = .more := by kernel_rfl
end Go.Proofs.YtmodmeabjhaklaaGreatDoor

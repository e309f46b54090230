/-
  The document's example of a signing key, reckoned by the kernel.
-/
import Derived.Test.YtnmffehmjgknkaaGreatDoorSkA
namespace Go.Proofs.YtnmffehmjgknkaaGreatDoor

def exS : List UInt8 := [119, 74, 97, 108, 114, 88, 85, 116, 110, 70, 69, 77, 73, 47, 75, 55, 77, 68, 69, 78, 71, 43, 98, 80, 120, 82, 102, 105, 67, 89, 69, 88, 65, 77, 80, 76, 69, 75, 69, 89]
def exD : List UInt8 := [50, 48, 49, 50, 48, 50, 49, 53]
def exR : List UInt8 := [117, 115, 45, 101, 97, 115, 116, 45, 49]
def exI : List UInt8 := [105, 97, 109]
def exK : List UInt8 := [102, 52, 55, 56, 48, 101, 50, 100, 57, 102, 54, 53, 102, 97, 56, 57, 53, 102, 57, 99, 54, 55, 98, 51, 50, 99, 101, 49, 98, 97, 102, 48, 98, 48, 100, 56, 97, 52, 51, 53, 48, 53, 97, 48, 48, 48, 97, 49, 97, 57, 101, 48, 57, 48, 100, 52, 49, 52, 100, 98, 52, 48, 52, 100]
theorem sk_one : hexL (skL exS exD exR exI) = exK := by decide +kernel
end Go.Proofs.YtnmffehmjgknkaaGreatDoor

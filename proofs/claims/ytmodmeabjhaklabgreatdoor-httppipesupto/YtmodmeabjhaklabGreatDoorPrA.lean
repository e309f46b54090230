/-
  What a request is printed as.
-/
import Derived.Test.YtmodmeabjhaklabGreatDoorObT
import Derived.Test.YtmodmeabjhaklabGreatDoorRunC
import Derived.Deep.Cut
namespace Go.Proofs.YtmodmeabjhaklabGreatDoor
open Go.RowKit

def hdT (h : Hd) : List UInt8 := h.1 ++ [58, 32] ++ h.2 ++ [13, 10]
def hdsT : List Hd → List UInt8
  | [] => []
  | h :: r => hdT h ++ hdsT r
def fstL (m t : List UInt8) : List UInt8 := m ++ [32] ++ t ++ [32] ++ [72, 84, 84, 80, 47, 49, 46, 49] ++ [13, 10]
/-- A request that is printed. -/
def printL (m t : List UInt8) (hs : List Hd) (b : List UInt8) : List UInt8 := fstL m t ++ hdsT hs ++ [13, 10] ++ b
theorem hdsT_app (a b : List Hd) : hdsT (a ++ b) = hdsT a ++ hdsT b := by
  induction a with
  | nil => rfl
  | cons h r ih => rw [List.cons_append, hdsT, hdsT, ih, List.append_assoc]
theorem hdsT_next {hs : List Hd} {k : Nat} (hk : k < hs.length) : hdsT (hs.take (k + 1)) = hdsT (hs.take k) ++ hdT hs[k] := by
  rw [List.take_succ_eq_append_getElem hk, hdsT_app]
  simp [hdsT]
theorem hdsT_le {hs : List Hd} (k : Nat) : (hdsT (hs.take k)).length ≤ (hdsT hs).length := by
  have h := hdsT_app (hs.take k) (hs.drop k)
  rw [List.take_append_drop] at h
  rw [h, List.length_append]
  omega
theorem hdT_len (h : Hd) : (hdT h).length = h.1.length + h.2.length + 4 := by
  simp only [hdT, List.length_append, List.length_cons, List.length_nil]
  omega
theorem mk_len (x : List UInt8) : (⟨x.toArray⟩ : ByteArray).size = x.length := by simp [ByteArray.size]
end Go.Proofs.YtmodmeabjhaklabGreatDoor

/-
  The statements' own Sector by its contract.
-/
import Derived.Test.YtllmjlobhjcbkaaLeaf
namespace Go.Proofs.Ytllmjlobhjcbkaa
open Go.RowKit

/-- The bytes of a sector by two numbers. -/
def secB (a b : Int) (i : Nat) : UInt8 := UInt8.ofNat (wrap64 (wrap64 (a * (i : Int)) + b) % 256).toNat
def sec (a b : Int) : List UInt8 := (List.range 256).map (secB a b)
theorem sec_length (a b : Int) : (sec a b).length = 256 := by simp [sec]
theorem u8_wrap (x : Int) : ((UInt8.ofNat (x % 256).toNat).toNat : Int) = x % 256 := by
  rw [UInt8.toNat_ofNat']
  omega
def secTo (a b : Int) (k : Nat) : List UInt8 := (sec a b).take k ++ List.replicate (256 - k) 0
theorem secTo_length (a b : Int) {k : Nat} (h : k ≤ 256) : (secTo a b k).length = 256 := by simp [secTo, sec_length]; omega
theorem secTo_set (a b : Int) {k : Nat} (h : k < 256) : (secTo a b k).set k (secB a b k) = secTo a b (k + 1) := by
  have hl := sec_length a b
  rw [secTo, secTo, List.set_append_right _ _ (by simp; omega), List.length_take, Nat.min_eq_left (by omega), Nat.sub_self]
  rw [show 256 - k = (256 - (k + 1)) + 1 from by omega, List.replicate_succ, List.set_cons_zero, List.take_succ_eq_append_getElem (by omega)]
  simp [sec]
theorem bcs_set (l : List UInt8) (k : Nat) (c : UInt8) : bcs (l.set k c) = (bcs l).set k (.int .u8 (c.toNat : Int)) := by simp [bcs, List.map_set]
theorem secTo_zero (a b : Int) : secTo a b 0 = List.replicate 256 0 := by rw [secTo, List.take_zero, List.nil_append]
theorem secTo_full (a b : Int) : secTo a b 256 = sec a b := by
  rw [secTo, List.take_of_length_le (by rw [sec_length]; exact Nat.le_refl _)]
  simp
theorem made_bytes (n : Nat) : (madeCells (Value.int .u8 0).cells (n * 1)).toList = bcs (List.replicate n 0) := by
  apply List.ext_getElem?
  intro i
  simp only [madeCells, bcs, Value.cells, Nat.mul_one, List.map_replicate]
  rcases Nat.lt_or_ge i n with h | h
  · simp [h, Nat.mod_one]
  · simp [h]

end Go.Proofs.Ytllmjlobhjcbkaa

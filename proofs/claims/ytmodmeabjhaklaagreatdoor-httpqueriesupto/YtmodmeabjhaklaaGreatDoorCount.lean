/-
  chars.isStray, Count, Valid, everyCharacter, Legal by their contracts.
-/
import Derived.Test.YtmodmeabjhaklaaGreatDoorLeaf
import Derived.Test.YtmodmeabjhaklaaGreatDoorDec
import Derived.Test.YtmodmeabjhaklaaGreatDoorShelf
import Derived.Lib.OthersKept
import Derived.Deep.LoopGhost
import Derived.Deep.DeepMust
namespace Go.Proofs.YtmodmeabjhaklaaGreatDoor
open Go.RowKit

def badL (l : List UInt8) : Bool := decide ((stepL l).2 = 0)
def T (_ : Nat) : Bool := true
theorem hasPrefix_fffd (l : List UInt8) : Lib.hasPrefix l [239, 191, 189] = decide (3 ≤ l.length ∧ at0 l 0 = 239 ∧ at0 l 1 = 191 ∧ at0 l 2 = 189) := by
  have k : ∀ (a : UInt8) (b : Nat), b < 256 → ((UInt8.ofNat b == a) = decide (a.toNat = b)) := fun a b hb => by
    rw [Bool.eq_iff_iff]
    simp only [beq_iff_eq, decide_eq_true_eq]
    constructor
    · rintro rfl
      rw [UInt8.toNat_ofNat', Nat.mod_eq_of_lt hb]
    · intro h
      rw [← h, UInt8.ofNat_toNat]
  match l with
  | [] => rfl
  | [a] => simp [Lib.hasPrefix, List.isPrefixOf]
  | [a, b] => simp [Lib.hasPrefix, List.isPrefixOf]
  | a :: b :: c :: r =>
    have k0 := k a 239 (by decide)
    have k1 := k b 191 (by decide)
    have k2 := k c 189 (by decide)
    show ((239 : UInt8) == a && ((191 : UInt8) == b && ((189 : UInt8) == c && true))) = _
    rw [show (239 : UInt8) = UInt8.ofNat 239 from rfl, show (191 : UInt8) = UInt8.ofNat 191 from rfl, show (189 : UInt8) = UInt8.ofNat 189 from rfl, k0, k1, k2, Bool.eq_iff_iff]
    simp [at0]
theorem stray_eq (l : List UInt8) (hl : l ≠ []) : (decide (((decL l).1 : Int) = 65533) && !Lib.hasPrefix l [239, 191, 189]) = badL l := by
  have hw := dec_width l.length (at0 l 0) (at0 l 1) (at0 l 2) (at0 l 3) (List.length_pos_iff.2 hl)
  rw [hasPrefix_fffd, badL, stepL, Bool.eq_iff_iff]
  by_cases hr : (decL l).1 = 65533
  · have hf := dec_fffd l.length (at0 l 0) (at0 l 1) (at0 l 2) (at0 l 3) hr
    rw [hr]
    by_cases h1 : (decL l).2 = 1
    · rw [if_pos ⟨rfl, h1⟩]
      simp only [Bool.and_eq_true, Bool.not_eq_true', decide_eq_true_eq, decide_eq_false_iff_not, hf.1 h1, not_false_eq_true, and_true]
      simp
    · rw [if_neg (by simp [h1])]
      have h3 : 3 ≤ l.length ∧ at0 l 0 = 239 ∧ at0 l 1 = 191 ∧ at0 l 2 = 189 := Classical.not_not.1 (fun h => h1 (hf.2 h))
      simp only [Bool.and_eq_true, Bool.not_eq_true', decide_eq_true_eq, decide_eq_false_iff_not, h3]
      have : ¬ (decL l).2 = 0 := by unfold decL; omega
      simp [this]
  · rw [if_neg (by simp [hr])]
    have : ¬ (decL l).2 = 0 := by unfold decL; omega
    have h' : ¬ (((decL l).1 : Int) = 65533) := by omega
    simp [h', this]

theorem extract_drop (s : ByteArray) (i : Nat) : (s.extract i s.size).data.toList = s.data.toList.drop i := by
  simp only [ByteArray.data_extract, Array.toList_extract, List.extract_eq_take_drop]
  exact List.take_of_length_le (by simp)
def cntN (l : List UInt8) : Nat := (cntP T l).getD 0
def cntOk (l : List UInt8) : Bool := (cntP T l).isSome

def xmlP (n : Nat) : Bool := xmlB (n : Int)
def nzP (n : Nat) : Bool := nzB (n : Int)
def keyB (l : List UInt8) : Bool := decide (1 ≤ l.length ∧ l.length ≤ 1024) && (cntP nzP l).isSome
end Go.Proofs.YtmodmeabjhaklaaGreatDoor

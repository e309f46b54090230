/-
  The document's round of SHA-256 against the program's, and the text behind the text.
-/
import Derived.Test.YtnmffehmjgknkaaGreatDoorRefPad
namespace Go.Proofs.YtnmffehmjgknkaaGreatDoor
open Go.RowKit

theorem ch_eq (e f g : Wd) : (e &&& f) ^^^ (~~~ e &&& g) = (e &&& f ||| g &&& ~~~ e) := by
  apply BitVec.eq_of_getLsbD_eq
  intro i hi
  simp only [BitVec.getLsbD_xor, BitVec.getLsbD_or, BitVec.getLsbD_and, BitVec.getLsbD_not, hi, decide_true, Bool.true_and]
  cases e.getLsbD i <;> cases f.getLsbD i <;> cases g.getLsbD i <;> rfl
theorem maj_eq (a b c : Wd) : (a &&& b) ^^^ (a &&& c) ^^^ (b &&& c) = (a &&& b ||| a &&& c ||| b &&& c) := by
  apply BitVec.eq_of_getLsbD_eq
  intro i hi
  simp only [BitVec.getLsbD_xor, BitVec.getLsbD_or, BitVec.getLsbD_and]
  cases a.getLsbD i <;> cases b.getLsbD i <;> cases c.getLsbD i <;> rfl
/-- The document's two sums of a round. -/
theorem low_ref (T : List Wd) (i : Nat) (s : S8) : s.h + (rotl s.e 26 ^^^ rotl s.e 21 ^^^ rotl s.e 7) + ((s.e &&& s.f) ^^^ (~~~ s.e &&& s.g)) + shaK.getD i 0 + T.getD i 0 = sLow T i s := by
  rw [ch_eq, sLow]
  have e : s.h + (rotl s.e 26 ^^^ rotl s.e 21 ^^^ rotl s.e 7) + (s.e &&& s.f ||| s.g &&& ~~~ s.e) = (rotl s.e 26 ^^^ rotl s.e 21 ^^^ rotl s.e 7) + (s.e &&& s.f ||| s.g &&& ~~~ s.e) + s.h := by
    rw [BitVec.add_assoc, BitVec.add_comm s.h]
  rw [e]
theorem high_ref (s : S8) : (rotl s.a 30 ^^^ rotl s.a 19 ^^^ rotl s.a 10) + ((s.a &&& s.b) ^^^ (s.a &&& s.c) ^^^ (s.b &&& s.c)) = sHigh s := by rw [maj_eq, sHigh]

/-- Eight bytes laid from the end of a text on. -/
theorem lay_end (pre : List UInt8) (f : Nat → UInt8) (n : Nat) (hn : n = pre.length + 8) : lay8 (pre ++ noughts 8) f (fun j => n - 8 + j) 8 = pre ++ [f 0, f 1, f 2, f 3, f 4, f 5, f 6, f 7] := by
  have e : ∀ j, n - 8 + j = pre.length + j := fun j => by omega
  simp only [lay8, e]
  rw [List.set_append_right _ _ (by omega), List.set_append_right _ _ (by omega), List.set_append_right _ _ (by omega), List.set_append_right _ _ (by omega), List.set_append_right _ _ (by omega), List.set_append_right _ _ (by omega), List.set_append_right _ _ (by omega), List.set_append_right _ _ (by omega)]
  simp [noughts, List.replicate]
theorem lay_back (pre : List UInt8) (f : Nat → UInt8) (n : Nat) (hn : n = pre.length + 8) : lay8 (pre ++ noughts 8) f (fun j => n - 1 - j) 8 = pre ++ [f 7, f 6, f 5, f 4, f 3, f 2, f 1, f 0] := by
  have e : ∀ j, j < 8 → n - 1 - j = pre.length + (7 - j) := fun j h => by omega
  simp only [lay8]
  rw [e 0 (by decide), e 1 (by decide), e 2 (by decide), e 3 (by decide), e 4 (by decide), e 5 (by decide), e 6 (by decide), e 7 (by decide)]
  rw [List.set_append_right _ _ (by omega), List.set_append_right _ _ (by omega), List.set_append_right _ _ (by omega), List.set_append_right _ _ (by omega), List.set_append_right _ _ (by omega), List.set_append_right _ _ (by omega), List.set_append_right _ _ (by omega), List.set_append_right _ _ (by omega)]
  simp [noughts, List.replicate]
theorem padL_split (r : List UInt8) : padL r = (r ++ ([128] ++ noughts (pl r.length - r.length - 9))) ++ noughts 8 := by
  have := pl_bd r.length
  unfold padL noughts
  rw [List.append_assoc, List.append_assoc, List.replicate_append_replicate, show pl r.length - r.length - 9 + 8 = pl r.length - r.length - 1 from by omega]
  rfl
theorem pad_len (r : List UInt8) : pl r.length = (r ++ ([128] ++ noughts (pl r.length - r.length - 9))).length + 8 := by
  have := pl_bd r.length
  simp [noughts]
  omega
theorem sfin_tail (l : List UInt8) : sfin (rest l) l.length = rest l ++ stail l.length 8 := by
  rw [sfin, padL_split, lay_back _ _ _ (pad_len (rest l)), List.append_assoc]
  congr 1
  simp only [stail, stailZ, zpad, rest_length, List.append_assoc, List.cons_append, List.nil_append]
theorem mfin_tail (l : List UInt8) : mfin (rest l) l.length = rest l ++ mtail l.length 8 := by
  rw [mfin, padL_split, lay_end _ _ _ (pad_len (rest l)), List.append_assoc]
  congr 1
  simp only [mtail, mtailZ, zpad, rest_length, List.append_assoc, List.cons_append, List.nil_append]
/-- The sum as the document goes about it. -/
theorem shaL_ref (l : List UInt8) : shaL l = shaOut (eat sMix (l ++ stail l.length 8) sInit) := by rw [shaL, sfin_tail, ← eat_app]
theorem md5L_ref (l : List UInt8) : md5L l = md5Out (eat mMix (l ++ mtail l.length 8) mInit) := by rw [md5L, mfin_tail, ← eat_app]
theorem pad_whole (l : List UInt8) : (l ++ stail l.length 8).length % 64 = 0 ∧ (l ++ mtail l.length 8).length % 64 = 0 := by
  have := zpad_eq l.length
  rw [List.length_append, List.length_append, stail_length _ 8 (by decide), mtail_length _ 8 (by decide)]
  omega
end Go.Proofs.YtnmffehmjgknkaaGreatDoor

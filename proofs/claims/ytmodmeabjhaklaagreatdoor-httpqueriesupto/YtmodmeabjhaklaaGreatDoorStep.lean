/-
  The document's Step by its contract.
-/
import Derived.Test.YtmodmeabjhaklaaGreatDoorCount
import Derived.LoopN
namespace Go.Proofs.YtmodmeabjhaklaaGreatDoor
open Go.RowKit

def stepN (n b0 b1 b2 b3 : Nat) : Nat × Nat := if (Lib.decodeN n b0 b1 b2 b3).1 = 65533 ∧ (Lib.decodeN n b0 b1 b2 b3).2 = 1 then (0, 0) else Lib.decodeN n b0 b1 b2 b3
theorem stepL_N (l : List UInt8) : stepL l = stepN l.length (at0 l 0) (at0 l 1) (at0 l 2) (at0 l 3) := rfl

theorem stepN_of (n b0 b1 b2 b3 : Nat) (x : Nat × Nat) (h : (Lib.decodeN n b0 b1 b2 b3 = (65533, 1) ∧ x = (0, 0)) ∨ (Lib.decodeN n b0 b1 b2 b3 = x ∧ (x.1 ≠ 65533 ∨ x.2 ≠ 1))) : stepN n b0 b1 b2 b3 = x := by
  unfold stepN
  rcases h with ⟨h, rfl⟩ | ⟨h, hx⟩
  · rw [h]; rfl
  · rw [h, if_neg (by omega)]
theorem st_ascii {n b0 b1 b2 b3 : Nat} (h : b0 < 128) : stepN n b0 b1 b2 b3 = (b0, 1) :=
  stepN_of _ _ _ _ _ _ (.inr ⟨by unfold Lib.decodeN; rw [if_pos h], .inl (by show b0 ≠ 65533; omega)⟩)
theorem st_none {n b0 b1 b2 b3 : Nat} (h : Lib.decodeN n b0 b1 b2 b3 = (65533, 1)) : stepN n b0 b1 b2 b3 = (0, 0) := stepN_of _ _ _ _ _ _ (.inl ⟨h, rfl⟩)
theorem st_lead {n b0 b1 b2 b3 : Nat} (h : (128 ≤ b0 ∧ b0 < 192) ∨ 248 ≤ b0) (h' : b0 < 256) : stepN n b0 b1 b2 b3 = (0, 0) := by
  apply st_none
  unfold Lib.decodeN
  (repeat' split) <;> first | rfl | (exfalso; omega)
theorem st2_no {n b0 b1 b2 b3 : Nat} (h : 192 ≤ b0) (h' : b0 < 224) (hn : n < 2 ∨ b1 < 128 ∨ 192 ≤ b1) (_h1 : b1 < 256) : stepN n b0 b1 b2 b3 = (0, 0) := by
  apply st_none
  unfold Lib.decodeN
  (repeat' split) <;> first | rfl | (exfalso; omega)
theorem st3_no {n b0 b1 b2 b3 : Nat} (h : 224 ≤ b0) (h' : b0 < 240) (hn : n < 3 ∨ b1 < 128 ∨ 192 ≤ b1 ∨ b2 < 128 ∨ 192 ≤ b2) (_h1 : b1 < 256) (_h2 : b2 < 256) : stepN n b0 b1 b2 b3 = (0, 0) := by
  apply st_none
  unfold Lib.decodeN
  (repeat' split) <;> first | rfl | (exfalso; omega)
theorem st4_no {n b0 b1 b2 b3 : Nat} (h : 240 ≤ b0) (h' : b0 < 248) (hn : n < 4 ∨ b1 < 128 ∨ 192 ≤ b1 ∨ b2 < 128 ∨ 192 ≤ b2 ∨ b3 < 128 ∨ 192 ≤ b3) (_h1 : b1 < 256) (_h2 : b2 < 256) (_h3 : b3 < 256) : stepN n b0 b1 b2 b3 = (0, 0) := by
  apply st_none
  unfold Lib.decodeN
  (repeat' split) <;> first | rfl | (exfalso; omega)
theorem st2_out {n b0 b1 b2 b3 : Nat} (h : 192 ≤ b0) (h' : b0 < 224) (_hn : 2 ≤ n) (k1 : 128 ≤ b1) (k1' : b1 < 192) (hN : 64 * (b0 - 192) + (b1 - 128) < 128) : stepN n b0 b1 b2 b3 = (0, 0) := by
  apply st_none
  unfold Lib.decodeN
  (repeat' split) <;> first | rfl | (exfalso; omega)
theorem st3_out {n b0 b1 b2 b3 : Nat} (h : 224 ≤ b0) (h' : b0 < 240) (_hn : 3 ≤ n) (k1 : 128 ≤ b1) (k1' : b1 < 192) (k2 : 128 ≤ b2) (k2' : b2 < 192) (hN : 64 * (64 * (b0 - 224) + (b1 - 128)) + (b2 - 128) < 2048 ∨ (55296 ≤ 64 * (64 * (b0 - 224) + (b1 - 128)) + (b2 - 128) ∧ 64 * (64 * (b0 - 224) + (b1 - 128)) + (b2 - 128) < 57344)) : stepN n b0 b1 b2 b3 = (0, 0) := by
  apply st_none
  unfold Lib.decodeN
  (repeat' split) <;> first | rfl | (exfalso; omega)
theorem st4_out {n b0 b1 b2 b3 : Nat} (h : 240 ≤ b0) (h' : b0 < 248) (_hn : 4 ≤ n) (k1 : 128 ≤ b1) (k1' : b1 < 192) (k2 : 128 ≤ b2) (k2' : b2 < 192) (k3 : 128 ≤ b3) (k3' : b3 < 192) (hN : 64 * (64 * (64 * (b0 - 240) + (b1 - 128)) + (b2 - 128)) + (b3 - 128) < 65536 ∨ 1114111 < 64 * (64 * (64 * (b0 - 240) + (b1 - 128)) + (b2 - 128)) + (b3 - 128)) : stepN n b0 b1 b2 b3 = (0, 0) := by
  apply st_none
  unfold Lib.decodeN
  (repeat' split) <;> first | rfl | (exfalso; omega)
theorem st2_in {n b0 b1 b2 b3 : Nat} (h : 192 ≤ b0) (h' : b0 < 224) (_hn : 2 ≤ n) (k1 : 128 ≤ b1) (k1' : b1 < 192) (hN : 128 ≤ 64 * (b0 - 192) + (b1 - 128)) : stepN n b0 b1 b2 b3 = (64 * (b0 - 192) + (b1 - 128), 2) := by
  refine stepN_of _ _ _ _ _ _ (.inr ⟨?_, .inr (by simp)⟩)
  unfold Lib.decodeN
  (repeat' split) <;> first | (exfalso; omega) | (apply Prod.ext <;> simp only <;> omega)
theorem st3_in {n b0 b1 b2 b3 : Nat} (h : 224 ≤ b0) (h' : b0 < 240) (_hn : 3 ≤ n) (k1 : 128 ≤ b1) (k1' : b1 < 192) (k2 : 128 ≤ b2) (k2' : b2 < 192) (hN : 2048 ≤ 64 * (64 * (b0 - 224) + (b1 - 128)) + (b2 - 128)) (hS : ¬ (55296 ≤ 64 * (64 * (b0 - 224) + (b1 - 128)) + (b2 - 128) ∧ 64 * (64 * (b0 - 224) + (b1 - 128)) + (b2 - 128) < 57344)) : stepN n b0 b1 b2 b3 = (64 * (64 * (b0 - 224) + (b1 - 128)) + (b2 - 128), 3) := by
  refine stepN_of _ _ _ _ _ _ (.inr ⟨?_, .inr (by simp)⟩)
  unfold Lib.decodeN
  (repeat' split) <;> first | (exfalso; omega) | (apply Prod.ext <;> simp only <;> omega)
theorem st4_in {n b0 b1 b2 b3 : Nat} (h : 240 ≤ b0) (h' : b0 < 248) (_hn : 4 ≤ n) (k1 : 128 ≤ b1) (k1' : b1 < 192) (k2 : 128 ≤ b2) (k2' : b2 < 192) (k3 : 128 ≤ b3) (k3' : b3 < 192) (hN : 65536 ≤ 64 * (64 * (64 * (b0 - 240) + (b1 - 128)) + (b2 - 128)) + (b3 - 128)) (hM : 64 * (64 * (64 * (b0 - 240) + (b1 - 128)) + (b2 - 128)) + (b3 - 128) ≤ 1114111) : stepN n b0 b1 b2 b3 = (64 * (64 * (64 * (b0 - 240) + (b1 - 128)) + (b2 - 128)) + (b3 - 128), 4) := by
  refine stepN_of _ _ _ _ _ _ (.inr ⟨?_, .inr (by simp)⟩)
  unfold Lib.decodeN
  (repeat' split) <;> first | (exfalso; omega) | (apply Prod.ext <;> simp only <;> omega)

theorem at0_s {s : ByteArray} {k : Nat} (h : k < s.size) : at0 s.data.toList k = s[k].toNat := by
  unfold at0
  rw [List.getD_eq_getElem?_getD, List.getElem?_eq_getElem (by simpa using h)]
  rfl

theorem fin_ii {l : List UInt8} {x : Nat × Nat} {a b : Int} (h : stepL l = x) (ha : a = (x.1 : Int)) (hb : b = (x.2 : Int)) : Ending.returned (.tuple #[.int .i64 a, .int .i64 b]) = .returned (.tuple #[.int .i64 ((stepL l).1 : Nat), .int .i64 ((stepL l).2 : Nat)]) := by rw [h, ha, hb]

end Go.Proofs.YtmodmeabjhaklaaGreatDoor

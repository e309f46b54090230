/-
  The place that is changed, and how.
-/
import Derived.Test.YtgpjjlkkfddjnaaDoorBkD
import Derived.Laws.BitsLemmas
namespace Go.Proofs.YtgpjjlkkfddjnaaDoor
open Go.RowKit

theorem and63_any (n : Int) : ∃ i : Nat, i < 64 ∧ bits .and .i64 n 63 = (i : Int) := by
  have hlt : (BitVec.ofInt 64 n &&& BitVec.ofInt 64 63).toNat < 64 := by
    rw [BitVec.toNat_and]
    have : (BitVec.ofInt 64 63).toNat = 63 := by decide
    rw [this]
    exact Nat.lt_of_le_of_lt Nat.and_le_right (by decide)
  refine ⟨(BitVec.ofInt 64 n &&& BitVec.ofInt 64 63).toNat, hlt, ?_⟩
  have h : bits .and .i64 n 63 = IntKind.i64.wrap (((BitVec.ofInt 64 n &&& BitVec.ofInt 64 63).toNat : Nat) : Int) := rfl
  rw [h, IntKind.wrap_i64]
  omega
theorem xor8_any (a b : UInt8) : bits .xor .u8 (a.toNat : Int) (b.toNat : Int) = ((a ^^^ b).toNat : Int) := by
  have h : bits .xor .u8 (a.toNat : Int) (b.toNat : Int) = IntKind.u8.wrap (((BitVec.ofInt 8 (a.toNat : Int) ^^^ BitVec.ofInt 8 (b.toNat : Int)).toNat : Nat) : Int) := rfl
  have ha := a.toNat_lt
  have hb := b.toNat_lt
  have e : (BitVec.ofInt 8 (a.toNat : Int) ^^^ BitVec.ofInt 8 (b.toNat : Int)).toNat = (a ^^^ b).toNat := by
    rw [BitVec.toNat_xor, BitVec.ofInt_natCast, BitVec.ofInt_natCast, BitVec.toNat_ofNat, BitVec.toNat_ofNat, UInt8.toNat_xor, Nat.mod_eq_of_lt ha, Nat.mod_eq_of_lt hb]
  have hx := (a ^^^ b).toNat_lt
  rw [h, e, IntKind.wrap_u8]
  omega
theorem xor8_ne {a b : UInt8} (hb : b.toNat ≠ 0) : a ≠ a ^^^ b := by
  intro e
  apply hb
  have h : a ^^^ a = a ^^^ (a ^^^ b) := congrArg (a ^^^ ·) e
  rw [UInt8.xor_self, ← UInt8.xor_assoc, UInt8.xor_self, UInt8.zero_xor] at h
  rw [← h]
  rfl
end Go.Proofs.YtgpjjlkkfddjnaaDoor

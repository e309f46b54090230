/-
  Words of 32 bits as the model holds them, and what its operations make of them.
-/
import Derived.Test.YtpmjkgpmidejoaaEnc
import Derived.WalkKit
import Derived.WalkSpells
import Derived.WalkLawsBesides
import Derived.Deep.QuietTactic
import Derived.BigQuiet
namespace Go.Proofs.Ytpmjkgpmidejoaa
open Go.RowKit

/-- A word's value. -/
def W (x : BitVec 32) : Int := (x.toNat : Int)
theorem W_bd (x : BitVec 32) : 0 ≤ W x ∧ W x ≤ 4294967295 := by have := x.isLt; unfold W; omega
theorem W_lo (x : BitVec 32) : 0 ≤ W x := (W_bd x).1
theorem W_hi (x : BitVec 32) : W x ≤ 4294967295 := (W_bd x).2
theorem W_inj {x y : BitVec 32} (h : W x = W y) : x = y := by unfold W at h; exact BitVec.eq_of_toNat_eq (by omega)
theorem ofInt_W (x : BitVec 32) : BitVec.ofInt 32 (W x) = x := by
  unfold W
  rw [BitVec.ofInt_natCast]
  exact BitVec.eq_of_toNat_eq (by simp)
theorem wrap_W (x : BitVec 32) : IntKind.u32.wrap (W x) = W x := by have := W_bd x; rw [IntKind.wrap_u32]; omega
theorem W_xor (a b : BitVec 32) : bits .xor .u32 (W a) (W b) = W (a ^^^ b) := by
  show IntKind.u32.wrap ((BitVec.ofInt 32 (W a) ^^^ BitVec.ofInt 32 (W b)).toNat : Int) = _
  rw [ofInt_W, ofInt_W]
  exact wrap_W _
theorem W_and (a b : BitVec 32) : bits .and .u32 (W a) (W b) = W (a &&& b) := by
  show IntKind.u32.wrap ((BitVec.ofInt 32 (W a) &&& BitVec.ofInt 32 (W b)).toNat : Int) = _
  rw [ofInt_W, ofInt_W]
  exact wrap_W _
theorem W_or (a b : BitVec 32) : bits .or .u32 (W a) (W b) = W (a ||| b) := by
  show IntKind.u32.wrap ((BitVec.ofInt 32 (W a) ||| BitVec.ofInt 32 (W b)).toNat : Int) = _
  rw [ofInt_W, ofInt_W]
  exact wrap_W _
theorem W_andNot (a b : BitVec 32) : bits .andNot .u32 (W a) (W b) = W (a &&& ~~~ b) := by
  show IntKind.u32.wrap ((BitVec.ofInt 32 (W a) &&& ~~~ BitVec.ofInt 32 (W b)).toNat : Int) = _
  rw [ofInt_W, ofInt_W]
  exact wrap_W _
theorem W_add (a b : BitVec 32) : IntKind.u32.wrap (W a + W b) = W (a + b) := by
  rw [IntKind.wrap_u32]
  unfold W
  rw [BitVec.toNat_add]
  omega
theorem W_shl (a : BitVec 32) (k : Nat) : IntKind.u32.wrap (W a * (2 : Int) ^ k) = W (a <<< k) := by
  rw [IntKind.wrap_u32]
  unfold W
  rw [BitVec.toNat_shiftLeft, Nat.shiftLeft_eq]
  simp
theorem W_shr (a : BitVec 32) (k : Nat) : W a / (2 : Int) ^ k = W (a >>> k) := by
  unfold W
  rw [BitVec.toNat_ushiftRight, Nat.shiftRight_eq_div_pow]
  simp

/-- A byte as a word. -/
def bw (c : UInt8) : BitVec 32 := BitVec.ofNat 32 c.toNat
theorem W_bw (c : UInt8) : W (bw c) = (c.toNat : Int) := by
  have := c.toNat_lt
  unfold W bw
  rw [BitVec.toNat_ofNat, Nat.mod_eq_of_lt (by omega)]

theorem ret_w {x y : BitVec 32} (h : x = y) : Ending.returned (.int .u32 (W x)) = .returned (.int .u32 (W y)) := by rw [h]
theorem ret_str {p q : ByteArray} (g : p = q) : Ending.returned (.string p) = .returned (.string q) := by rw [g]

end Go.Proofs.Ytpmjkgpmidejoaa

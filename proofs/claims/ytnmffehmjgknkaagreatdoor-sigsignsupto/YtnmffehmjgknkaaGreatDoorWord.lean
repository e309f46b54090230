/-
  Words of 32 bits as the model holds them, and what its operations make of them; math/bits.RotateLeft32, hash.turned and the document's 'left' by their contracts.
-/
import Derived.Test.YtnmffehmjgknkaaGreatDoorProg
import Derived.WalkKit
import Derived.WalkSpells
import Derived.WalkLawsBesides
import Derived.Deep.QuietTactic
import Derived.BigQuiet
namespace Go.Proofs.YtnmffehmjgknkaaGreatDoor
open Go.RowKit

/-- A word's value. -/
def W (x : BitVec 32) : Int := (x.toNat : Int)
theorem W_bd (x : BitVec 32) : 0 ≤ W x ∧ W x ≤ 4294967295 := by have := x.isLt; unfold W; omega
theorem W_lo (x : BitVec 32) : 0 ≤ W x := (W_bd x).1
theorem W_hi (x : BitVec 32) : W x ≤ 4294967295 := (W_bd x).2
theorem W_inj {x y : BitVec 32} (h : W x = W y) : x = y := by unfold W at h; exact BitVec.eq_of_toNat_eq (by omega)
theorem ofInt_W (x : BitVec 32) : BitVec.ofInt 32 (W x) = x := by
  unfold W
  rw [BitVec.ofInt_natCast]
  exact BitVec.eq_of_toNat_eq (by simp)
theorem wrap_W (x : BitVec 32) : IntKind.u32.wrap (W x) = W x := by have := W_bd x; rw [IntKind.wrap_u32]; omega
theorem W_xor (a b : BitVec 32) : bits .xor .u32 (W a) (W b) = W (a ^^^ b) := by
  show IntKind.u32.wrap ((BitVec.ofInt 32 (W a) ^^^ BitVec.ofInt 32 (W b)).toNat : Int) = _
  rw [ofInt_W, ofInt_W]
  exact wrap_W _
theorem W_and (a b : BitVec 32) : bits .and .u32 (W a) (W b) = W (a &&& b) := by
  show IntKind.u32.wrap ((BitVec.ofInt 32 (W a) &&& BitVec.ofInt 32 (W b)).toNat : Int) = _
  rw [ofInt_W, ofInt_W]
  exact wrap_W _
theorem W_or (a b : BitVec 32) : bits .or .u32 (W a) (W b) = W (a ||| b) := by
  show IntKind.u32.wrap ((BitVec.ofInt 32 (W a) ||| BitVec.ofInt 32 (W b)).toNat : Int) = _
  rw [ofInt_W, ofInt_W]
  exact wrap_W _
theorem W_andNot (a b : BitVec 32) : bits .andNot .u32 (W a) (W b) = W (a &&& ~~~ b) := by
  show IntKind.u32.wrap ((BitVec.ofInt 32 (W a) &&& ~~~ BitVec.ofInt 32 (W b)).toNat : Int) = _
  rw [ofInt_W, ofInt_W]
  exact wrap_W _
theorem W_add (a b : BitVec 32) : IntKind.u32.wrap (W a + W b) = W (a + b) := by
  rw [IntKind.wrap_u32]
  unfold W
  rw [BitVec.toNat_add]
  omega
theorem W_shl (a : BitVec 32) (k : Nat) : IntKind.u32.wrap (W a * (2 : Int) ^ k) = W (a <<< k) := by
  rw [IntKind.wrap_u32]
  unfold W
  rw [BitVec.toNat_shiftLeft, Nat.shiftLeft_eq]
  simp
theorem W_shr (a : BitVec 32) (k : Nat) : W a / (2 : Int) ^ k = W (a >>> k) := by
  unfold W
  rw [BitVec.toNat_ushiftRight, Nat.shiftRight_eq_div_pow]
  simp

/-- A byte as a word. -/
def bw (c : UInt8) : BitVec 32 := BitVec.ofNat 32 c.toNat
theorem W_bw (c : UInt8) : W (bw c) = (c.toNat : Int) := by
  have := c.toNat_lt
  unfold W bw
  rw [BitVec.toNat_ofNat, Nat.mod_eq_of_lt (by omega)]

theorem ret_w {x y : BitVec 32} (h : x = y) : Ending.returned (.int .u32 (W x)) = .returned (.int .u32 (W y)) := by rw [h]
theorem ret_int {k : IntKind} {a b : Int} (h : a = b) : Ending.returned (.int k a) = .returned (.int k b) := by rw [h]
theorem ret_bool {p q : Bool} (g : p = q) : Ending.returned (.bool p) = .returned (.bool q) := by rw [g]
theorem ret_str {p q : ByteArray} (g : p = q) : Ending.returned (.string p) = .returned (.string q) := by rw [g]

/-- A word turned to the left. -/
def rotl (x : BitVec 32) (s : Nat) : BitVec 32 := x <<< s ||| x >>> (32 - s)

theorem and31_t : ∀ s : Nat, s < 32 → bits .and .u64 (s : Int) 31 = (s : Int) ∧ bits .and .u64 (18446744073709551584 + (s : Int)) 31 = (s : Int) := by decide +kernel

theorem W_shlm (a : BitVec 32) (k : Nat) : W a * (2 : Int) ^ k % 4294967296 = W (a <<< k) := by
  rw [← W_shl, IntKind.wrap_u32]
theorem W_addm (a b : BitVec 32) : (W a + W b) % 4294967296 = W (a + b) := by
  rw [← W_add, IntKind.wrap_u32]
theorem W_rotl (x : BitVec 32) (s : Nat) : bits .or .u32 (W x * 2 ^ s % 4294967296) (W x / 2 ^ (32 - s)) = W (rotl x s) := by
  rw [W_shlm, W_shr, W_or]
  rfl

theorem rotl_pos (x : BitVec 32) (s : Nat) (w : World) (hs : s < 32) :
    Calls Tryz.prog 233 #[.int .u32 (W x), .int .i64 (s : Int)] w fun e w' => e = .returned (.int .u32 (W (rotl x s))) ∧ w = w' := by
  have ha := (and31_t s hs).1
  have hb := W_bd x
  go_enter Tryz.func233, Tryz.ntmps233
  go_wp2
  go_ret
  exact ⟨ret_int (W_rotl x s), rfl⟩

theorem rotl_neg (x : BitVec 32) (k : Int) (s : Nat) (w : World) (hk : k = (s : Int) - 32) (hs : s < 32) :
    Calls Tryz.prog 233 #[.int .u32 (W x), .int .i64 k] w fun e w' => e = .returned (.int .u32 (W (rotl x s))) ∧ w = w' := by
  have ha := (and31_t s hs).2
  have hb := W_bd x
  have hw : IntKind.u64.wrap k = 18446744073709551584 + (s : Int) := by rw [IntKind.wrap_u64]; omega
  have hw2 : k % 18446744073709551616 = 18446744073709551584 + (s : Int) := by omega
  have hlo : k < 0 := by omega
  have hlo2 : -32 ≤ k := by omega
  clear hk
  go_enter Tryz.func233, Tryz.ntmps233
  go_wp2
  go_ret
  exact ⟨ret_int (W_rotl x s), rfl⟩

theorem turned_any (x : BitVec 32) (a b c : Nat) (w : World) (ha : 0 < a ∧ a < 32) (hb : 0 < b ∧ b < 32) (hc : 0 < c ∧ c < 32) :
    Calls Tryz.prog 202 #[.int .u32 (W x), .int .i64 (a : Int), .int .i64 (b : Int), .int .i64 (c : Int)] w fun e w' => e = .returned (.int .u32 (W (rotl x (32 - a) ^^^ rotl x (32 - b) ^^^ rotl x (32 - c)))) ∧ w = w' := by
  have hx := fun a b => W_xor a b
  obtain ⟨ha0, ha1⟩ := ha
  obtain ⟨hb0, hb1⟩ := hb
  obtain ⟨hc0, hc1⟩ := hc
  go_enter Tryz.func202, Tryz.ntmps202
  go_wp2_with fail
  refine (rotl_neg x _ (32 - a) _ (by omega) (by omega)).mono ?_
  rintro e w' ⟨rfl, rfl⟩
  go_wp2_with fail
  refine (rotl_neg x _ (32 - b) _ (by omega) (by omega)).mono ?_
  rintro e w' ⟨rfl, rfl⟩
  go_wp2_with fail
  refine (rotl_neg x _ (32 - c) _ (by omega) (by omega)).mono ?_
  rintro e w' ⟨rfl, rfl⟩
  go_wp2
  go_ret
  exact ⟨rfl, rfl⟩

theorem left_any (x : BitVec 32) (s : Nat) (w : World) (h0 : 0 < s) (h1 : s < 32) :
    Calls Tryz.prog 149 #[.int .u32 (W x), .int .i64 (s : Int)] w fun e w' => e = .returned (.int .u32 (W (rotl x s))) ∧ (∃ n, w' = w.drewN n) := by
  have hb := W_bd x
  go_enter Tryz.func149, Tryz.ntmps149
  go_wp2_with fail
  go_quiet (fail)
  go_wp2
  go_ret

  exact ⟨ret_int (W_rotl x s), _, rfl⟩
end Go.Proofs.YtnmffehmjgknkaaGreatDoor

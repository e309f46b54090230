/-
  hash.crcWords and hash.CRC by their contracts.
-/
import Derived.Test.YtnmffehmjgknkaaGreatDoorWds
namespace Go.Proofs.YtnmffehmjgknkaaGreatDoor
open Go.RowKit

/-- Castagnoli's polynomial. -/
def poly : Wd := 0x82F63B78
/-- One step of CRC-32C. -/
def crcBit (c : BitVec 32) : BitVec 32 := c >>> 1 ^^^ (c &&& 1) * poly
def crcBits : Nat → BitVec 32 → BitVec 32
  | 0, c => c
  | n + 1, c => crcBit (crcBits n c)

theorem W_shr1 (a : BitVec 32) : W a / (2 : Int) = W (a >>> 1) := W_shr a 1
theorem W_and1 (a : BitVec 32) : bits .and .u32 (W a) 1 = W (a &&& 1) := W_and a 1
theorem W_mulm (a b : BitVec 32) : W a * W b % 4294967296 = W (a * b) := by
  unfold W
  rw [BitVec.toNat_mul]
  omega
theorem W_poly : (2197175160 : Int) = W poly := by decide +kernel
theorem W_mulp (a : BitVec 32) : W a * 2197175160 % 4294967296 = W (a * poly) := by rw [W_poly]; exact W_mulm a poly
theorem W_and1_le (a : BitVec 32) : W (a &&& 1) ≤ 1 := by
  unfold W
  rw [BitVec.toNat_and]
  have : a.toNat &&& (1 : BitVec 32).toNat ≤ 1 := Nat.and_le_right
  omega
theorem W_mul1 (a : BitVec 32) : W (a &&& 1) * 2197175160 = W ((a &&& 1) * poly) := by
  rw [← W_mulp]
  have := W_and1_le a
  have := W_lo (a &&& 1)
  omega
theorem W_ofNat {k : Nat} (h : k < 4294967296) : W (BitVec.ofNat 32 k) = (k : Int) := by
  unfold W
  rw [BitVec.toNat_ofNat, Nat.mod_eq_of_lt (by omega)]

/-- The words made so far. -/
def cw (k : Nat) : List Wd := (List.range k).map (fun j => crcBits 4 (BitVec.ofNat 32 j)) ++ zeros (16 - k)
theorem cw_length {k : Nat} (h : k ≤ 16) : (cw k).length = 16 := by simp [cw, zeros]; omega
theorem cw_set {k : Nat} (h : k < 16) : (cw k).set k (crcBits 4 (BitVec.ofNat 32 k)) = cw (k + 1) := by
  unfold cw zeros
  rw [List.range_succ, List.map_append, List.set_append_right _ _ (by simp)]
  simp only [List.length_map, List.length_range, Nat.sub_self]
  rw [show 16 - k = (16 - (k + 1)) + 1 from by omega, List.replicate_succ]
  simp

/-- Four steps by the table. -/
def nib (x : Wd) : Wd := x >>> 4 ^^^ crcBits 4 (x &&& 15)
def crcByte (c : Wd) (b : UInt8) : Wd := nib (nib (c ^^^ bw b))
def crcL (l : List UInt8) : Wd := ~~~ (l.foldl crcByte 0xFFFFFFFF)

theorem and15_lt (x : Wd) : (x &&& 15).toNat < 16 := by
  rw [BitVec.toNat_and]
  have : x.toNat &&& (15 : BitVec 32).toNat ≤ (15 : BitVec 32).toNat := Nat.and_le_right
  have e : (15 : BitVec 32).toNat = 15 := rfl
  omega
theorem W_and15 (x : Wd) : bits .and .u32 (W x) 15 = (((x &&& 15).toNat : Nat) : Int) := W_and x 15
theorem cw_get (i : Nat) (h : i < (cw 16).length) : (cw 16)[i] = crcBits 4 (BitVec.ofNat 32 i) := by
  have h' : i < 16 := by rw [cw_length (Nat.le_refl _)] at h; exact h
  simp [cw, zeros]
theorem cw_at (x : Wd) (h : (x &&& 15).toNat < (cw 16).length) : (cw 16)[(x &&& 15).toNat] = crcBits 4 (x &&& 15) := by
  rw [cw_get]
  congr 1
  exact BitVec.eq_of_toNat_eq (by simp)
theorem W_shr4 (a : Wd) : W a / (16 : Int) = W (a >>> 4) := W_shr a 4
theorem W_xorb (c : Wd) (b : UInt8) : bits .xor .u32 (W c) (b.toNat : Int) = W (c ^^^ bw b) := by rw [← W_bw, W_xor]
theorem W_not (a : Wd) : bits .xor .u32 IntKind.u32.max (W a) = W (~~~ a) := by
  have e : IntKind.u32.max = W (BitVec.allOnes 32) := by decide +kernel
  rw [e, W_xor, BitVec.allOnes_xor]
theorem all1 : (4294967295 : Int) = W 0xFFFFFFFF := by decide +kernel

end Go.Proofs.YtnmffehmjgknkaaGreatDoor

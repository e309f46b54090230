/-
  The check sum in plain terms: bit by bit, linear, and no burst of at most 32 bits is lost.
-/
import Derived.Test.YtpmjkgpmidejoaaCrc
namespace Go.Proofs.Ytpmjkgpmidejoaa
open Go.RowKit

def b1 (x : Bool) : Wd := if x then 1 else 0
theorem b1_get (x : Bool) (i : Nat) : (b1 x).getLsbD i = (decide (i = 0) && x) := by
  cases x
  · simp [b1]
  · simp [b1]
theorem xor_nought (x : Wd) : x ^^^ 0 = x := BitVec.xor_zero
theorem nought_xor (x : Wd) : 0 ^^^ x = x := BitVec.zero_xor
theorem b1_xor (x y : Bool) : b1 x ^^^ b1 y = b1 (x ^^ y) := by cases x <;> cases y <;> decide

theorem and1_mul (x p : Wd) : (x &&& 1) * p = if x.getLsbD 0 then p else 0 := by
  have e : x &&& 1 = b1 (x.getLsbD 0) := by
    apply BitVec.eq_of_getLsbD_eq
    intro i hi
    rw [b1_get, BitVec.getLsbD_and]
    by_cases h : i = 0
    · subst h
      simp
    · simp [h]
  rw [e]
  cases x.getLsbD 0 <;> simp [b1]
theorem crcBit_eq (x : Wd) : crcBit x = x >>> 1 ^^^ (if x.getLsbD 0 then poly else 0) := by rw [crcBit, and1_mul]

theorem crcBit_xor (x y : Wd) : crcBit (x ^^^ y) = crcBit x ^^^ crcBit y := by
  rw [crcBit_eq, crcBit_eq, crcBit_eq, BitVec.getLsbD_xor]
  apply BitVec.eq_of_getLsbD_eq
  intro i hi
  cases x.getLsbD 0 <;> cases y.getLsbD 0 <;> simp [BitVec.getLsbD_xor, BitVec.getLsbD_ushiftRight] <;>
    (cases x.getLsbD (1 + i) <;> cases y.getLsbD (1 + i) <;> cases poly.getLsbD i <;> rfl)
theorem crcBit_inj {x : Wd} (h : crcBit x = 0) : x = 0 := by
  rw [crcBit_eq] at h
  cases h0 : x.getLsbD 0 with
  | true =>
    rw [h0] at h
    have h31 : (x >>> 1 ^^^ (if true = true then poly else 0)).getLsbD 31 = false := by rw [h]; rfl
    rw [if_pos rfl, BitVec.getLsbD_xor, BitVec.getLsbD_ushiftRight, BitVec.getLsbD_of_ge x (1 + 31) (by decide)] at h31
    exact absurd h31 (by decide)
  | false =>
    rw [h0] at h
    apply BitVec.eq_of_getLsbD_eq
    intro i hi
    cases i with
    | zero => rw [h0]; rfl
    | succ i =>
      have h1 : (x >>> 1 ^^^ (if false = true then poly else 0)).getLsbD i = false := by rw [h]; simp
      rw [if_neg (by decide), BitVec.getLsbD_xor, BitVec.getLsbD_ushiftRight] at h1
      simp at h1
      rw [Nat.add_comm] at h1
      simp [h1]
theorem crcBit_zero : crcBit 0 = 0 := by decide +kernel

theorem crcBits_xor (n : Nat) (x y : Wd) : crcBits n (x ^^^ y) = crcBits n x ^^^ crcBits n y := by
  induction n with
  | zero => rfl
  | succ n ih => rw [crcBits, ih, crcBit_xor]; rfl
theorem crcBits_zero (n : Nat) : crcBits n 0 = 0 := by
  induction n with
  | zero => rfl
  | succ n ih => rw [crcBits, ih, crcBit_zero]
theorem crcBits_inj (n : Nat) {x : Wd} (h : crcBits n x = 0) : x = 0 := by
  induction n with
  | zero => exact h
  | succ n ih => exact ih (crcBit_inj h)
theorem crcBits_add (n m : Nat) (x : Wd) : crcBits (n + m) x = crcBits n (crcBits m x) := by
  induction n with
  | zero => rw [Nat.zero_add]; rfl
  | succ n ih => rw [show n + 1 + m = (n + m) + 1 from by omega, crcBits, ih]; rfl
theorem crcBits_one : ∀ m : Nat, m < 32 → crcBits m ((1 : Wd) <<< m) = 1 := by decide +kernel
theorem crcBits_b1 (m : Nat) (h : m < 32) (x : Bool) : crcBits m (b1 x <<< m) = b1 x := by
  cases x
  · show crcBits m ((0 : Wd) <<< m) = 0
    have e : (0 : Wd) <<< m = 0 := BitVec.zero_shiftLeft m
    rw [e, crcBits_zero]
  · exact crcBits_one m h

/-- A bit at the lowest place, and a step. -/
def stp (s : Wd) (x : Bool) : Wd := crcBit (s ^^^ b1 x)
/-- The first n bits of v, the lowest first. -/
def stpN (s : Wd) (v : Nat) : Nat → Wd
  | 0 => s
  | n + 1 => stp (stpN s v n) (v.testBit n)
theorem low_succ (v n : Nat) (h : n < 32) : BitVec.ofNat 32 (v % 2 ^ (n + 1)) = BitVec.ofNat 32 (v % 2 ^ n) ^^^ (b1 (v.testBit n) <<< n) := by
  apply BitVec.eq_of_getLsbD_eq
  intro i hi
  rw [BitVec.getLsbD_xor, BitVec.getLsbD_ofNat, BitVec.getLsbD_ofNat, BitVec.getLsbD_shiftLeft, b1_get, Nat.testBit_mod_two_pow, Nat.testBit_mod_two_pow]
  rcases Nat.lt_trichotomy i n with h1 | h1 | h1
  · simp [hi, h1, show i < n + 1 from by omega]
  · subst h1
    simp [hi]
  · have e1 : ¬ i < n := by omega
    have e2 : ¬ i < n + 1 := by omega
    have e3 : ¬ i - n = 0 := by omega
    simp [e1, e2, e3]
theorem stpN_eq (s : Wd) (v : Nat) : ∀ n, n ≤ 32 → stpN s v n = crcBits n (s ^^^ BitVec.ofNat 32 (v % 2 ^ n))
  | 0, _ => by
    have : BitVec.ofNat 32 (v % 2 ^ 0) = 0 := by simp [Nat.mod_one]
    rw [this, xor_nought]
    rfl
  | n + 1, h => by
    rw [stpN, stp, stpN_eq s v n (by omega), low_succ v n (by omega), ← BitVec.xor_assoc]
    rw [show crcBits (n + 1) (s ^^^ BitVec.ofNat 32 (v % 2 ^ n) ^^^ b1 (v.testBit n) <<< n) = crcBit (crcBits n (s ^^^ BitVec.ofNat 32 (v % 2 ^ n) ^^^ b1 (v.testBit n) <<< n)) from rfl, crcBits_xor n (s ^^^ BitVec.ofNat 32 (v % 2 ^ n)), crcBits_b1 n (by omega)]

theorem nib_eq (x : Wd) : nib x = crcBits 4 x := by
  have e : x = (x >>> 4) <<< 4 ^^^ (x &&& 15) := by
    apply BitVec.eq_of_getLsbD_eq
    intro i hi
    rw [BitVec.getLsbD_xor, BitVec.getLsbD_shiftLeft, BitVec.getLsbD_ushiftRight, BitVec.getLsbD_and]
    have h15 : (15 : Wd).getLsbD i = decide (i < 4) := by
      revert i
      decide +kernel
    rw [h15]
    by_cases h : i < 4
    · simp [h]
    · simp [h, hi, show 4 + (i - 4) = i from by omega]
  have e2 : crcBits 4 ((x >>> 4) <<< 4) = x >>> 4 := by
    have hz : ∀ u : Wd, u.getLsbD 31 = false → crcBit (u <<< 1) = u := by
      intro u hu
      rw [crcBit_eq]
      have : (u <<< 1).getLsbD 0 = false := by simp
      rw [this, if_neg (by decide), xor_nought]
      apply BitVec.eq_of_getLsbD_eq
      intro i hi
      rw [BitVec.getLsbD_ushiftRight, BitVec.getLsbD_shiftLeft]
      by_cases h : i = 31
      · subst h; rw [hu]; simp
      · simp [show 1 + i < 32 from by omega]
    have t : ∀ j, 28 ≤ j → (x >>> 4).getLsbD j = false := by
      intro j hj
      rw [BitVec.getLsbD_ushiftRight, BitVec.getLsbD_of_ge x (4 + j) (by omega)]
    have s1 : ∀ u : Wd, u <<< 4 = (((u <<< 1) <<< 1) <<< 1) <<< 1 := by
      intro u
      simp [← BitVec.shiftLeft_add]
    show crcBit (crcBit (crcBit (crcBit ((x >>> 4) <<< 4)))) = _
    rw [s1, hz, hz, hz, hz]
    · exact t 31 (by decide)
    · rw [BitVec.getLsbD_shiftLeft]; simp
    · rw [BitVec.getLsbD_shiftLeft, BitVec.getLsbD_shiftLeft]; simp
    · rw [BitVec.getLsbD_shiftLeft, BitVec.getLsbD_shiftLeft, BitVec.getLsbD_shiftLeft]; simp
  unfold nib
  conv => rhs; rw [e, crcBits_xor, e2]
theorem crcByte_bits (c : Wd) (b : UInt8) : crcByte c b = stpN c b.toNat 8 := by
  rw [crcByte, nib_eq, nib_eq, ← crcBits_add, stpN_eq c b.toNat 8 (by decide), Nat.mod_eq_of_lt (by have := b.toNat_lt; simpa using this)]
  rfl

/-- The n-th bit of a text. -/
def bitAt (l : List UInt8) (n : Nat) : Bool := (l.getD (n / 8) 0).toNat.testBit (n % 8)
/-- The check sum's state behind n bits. -/
def runB (l : List UInt8) : Nat → Wd
  | 0 => 0xFFFFFFFF
  | n + 1 => stp (runB l n) (bitAt l n)
theorem runB_byte (l : List UInt8) (q : Nat) : ∀ m, m ≤ 8 → runB l (8 * q + m) = stpN (runB l (8 * q)) (l.getD q 0).toNat m
  | 0, _ => rfl
  | m + 1, h => by
    rw [show 8 * q + (m + 1) = (8 * q + m) + 1 from by omega, runB, runB_byte l q m (by omega), stpN, bitAt, show (8 * q + m) / 8 = q from by omega, show (8 * q + m) % 8 = m from by omega]
theorem runB_take (l : List UInt8) : ∀ q, q ≤ l.length → (l.take q).foldl crcByte 0xFFFFFFFF = runB l (8 * q)
  | 0, _ => by rw [List.take_zero]; rfl
  | q + 1, h => by
    have hq : q < l.length := by omega
    rw [List.take_succ_eq_append_getElem hq, List.foldl_append, runB_take l q (by omega), List.foldl_cons, List.foldl_nil, crcByte_bits, show 8 * (q + 1) = 8 * q + 8 from by omega, runB_byte l q 8 (by decide)]
    congr 2
    simp [List.getD, hq]
theorem crcL_bits (l : List UInt8) : crcL l = ~~~ runB l (8 * l.length) := by rw [crcL, ← runB_take l l.length (Nat.le_refl _), List.take_length]

/-- Two texts whose bits part by P from place p on. -/
theorem runB_diff (l m : List UInt8) (p P : Nat) (e : Nat) (h1 : ∀ n, n < e → n < p → bitAt l n = bitAt m n) (h2 : ∀ n, n < e → p ≤ n → (bitAt l n ^^ bitAt m n) = P.testBit (n - p)) :
    ∀ n, n ≤ e → runB l n ^^^ runB m n = if n ≤ p then 0 else stpN 0 P (n - p)
  | 0, _ => by rw [if_pos (Nat.zero_le _)]; exact BitVec.xor_self
  | n + 1, h => by
    have ih := runB_diff l m p P e h1 h2 n (by omega)
    have es : runB l (n + 1) ^^^ runB m (n + 1) = stp (runB l n ^^^ runB m n) (bitAt l n ^^ bitAt m n) := by
      rw [runB, runB, stp, stp, ← crcBit_xor, stp, ← b1_xor]
      congr 1
      ac_rfl
    rw [es, ih]
    by_cases hp : n + 1 ≤ p
    · rw [if_pos (by omega), if_pos hp, h1 n (by omega) (by omega), Bool.xor_self]
      decide +kernel
    · rw [if_neg hp, h2 n (by omega) (by omega)]
      by_cases hq : n ≤ p
      · have : n = p := by omega
        subst this
        rw [if_pos hq, Nat.sub_self, show n + 1 - n = 1 from by omega]
        rfl
      · rw [if_neg hq, show n + 1 - p = (n - p) + 1 from by omega]
        rfl
theorem stpN_zero (P : Nat) (hP : P < 4294967296) (m : Nat) : stpN 0 P m = 0 ↔ ∀ k, k < m → P.testBit k = false := by
  have key : ∀ m, m ≤ 32 → (stpN 0 P m = 0 ↔ ∀ k, k < m → P.testBit k = false) := by
    intro m hm
    rw [stpN_eq 0 P m hm, nought_xor]
    constructor
    · intro h k hk
      have h0 := crcBits_inj m h
      have h1 : (BitVec.ofNat 32 (P % 2 ^ m)).getLsbD k = false := by rw [h0]; simp
      rw [BitVec.getLsbD_ofNat, Nat.testBit_mod_two_pow] at h1
      simpa [show k < 32 from by omega, hk] using h1
    · intro h
      have : BitVec.ofNat 32 (P % 2 ^ m) = 0 := by
        apply BitVec.eq_of_getLsbD_eq
        intro i hi
        rw [BitVec.getLsbD_ofNat, Nat.testBit_mod_two_pow]
        by_cases h' : i < m
        · simp [h i h']
        · simp [h']
      rw [this, crcBits_zero]
  rcases Nat.le_total m 32 with hm | hm
  · exact key m hm
  · obtain ⟨j, rfl⟩ : ∃ j, m = 32 + j := ⟨m - 32, by omega⟩
    have hz : ∀ k, 32 ≤ k → P.testBit k = false := fun k hk => Nat.testBit_lt_two_pow (Nat.lt_of_lt_of_le (show P < 2 ^ 32 by omega) (Nat.pow_le_pow_right (by decide) hk))
    have step : ∀ j, stpN 0 P (32 + j) = 0 ↔ stpN 0 P 32 = 0 := by
      intro j
      induction j with
      | zero => exact Iff.rfl
      | succ j ih =>
        rw [← ih, show 32 + (j + 1) = (32 + j) + 1 from by omega, stpN, hz _ (by omega), stp]
        have e0 : b1 false = 0 := rfl
        rw [e0, xor_nought]
        exact ⟨crcBit_inj, fun h => by rw [h, crcBit_zero]⟩
    rw [step j, key 32 (Nat.le_refl _)]
    exact ⟨fun h k hk => if h' : k < 32 then h k h' else hz k (by omega), fun h k hk => h k (by omega)⟩
end Go.Proofs.Ytpmjkgpmidejoaa

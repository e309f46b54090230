/-
  Bits of a text that are turned, one by one.
-/
import Derived.Test.YtdgoepnopenpkaaBurst
namespace Go.Proofs.Ytdgoepnopenpkaa
open Go.RowKit

/-- One bit of a byte. -/
def bitB (r : Nat) : UInt8 := UInt8.ofNat (2 ^ r)
/-- The text with its n-th bit turned. -/
def flip (l : List UInt8) (n : Nat) : List UInt8 := l.set (n / 8) (l.getD (n / 8) 0 ^^^ bitB (n % 8))
theorem flip_length (l : List UInt8) (n : Nat) : (flip l n).length = l.length := by simp [flip]
theorem bitB_test : ∀ r : Nat, r < 8 → ∀ i : Nat, i < 8 → (bitB r).toNat.testBit i = decide (i = r) := by decide +kernel
theorem flip_bit (l : List UInt8) (n m : Nat) (hn : n < 8 * l.length) (_hm : m < 8 * l.length) : bitAt (flip l n) m = (bitAt l m ^^ decide (m = n)) := by
  unfold bitAt flip
  by_cases h : m / 8 = n / 8
  · have hlt : n / 8 < l.length := by omega
    rw [h]
    have e : (l.set (n / 8) (l.getD (n / 8) 0 ^^^ bitB (n % 8))).getD (n / 8) 0 = l.getD (n / 8) 0 ^^^ bitB (n % 8) := by
      simp [List.getD, hlt]
    rw [e, UInt8.toNat_xor, Nat.testBit_xor, bitB_test (n % 8) (Nat.mod_lt _ (by decide)) (m % 8) (Nat.mod_lt _ (by decide))]
    congr 1
    rw [decide_eq_decide]
    omega
  · have e : (l.set (n / 8) (l.getD (n / 8) 0 ^^^ bitB (n % 8))).getD (m / 8) 0 = l.getD (m / 8) 0 := by
      simp [List.getD, Ne.symm h]
    have hne : decide (m = n) = false := decide_eq_false (by intro e; subst e; exact h rfl)
    rw [e, hne, Bool.xor_false]

/-- The text behind k rounds, and whether a bit was turned. -/
def cB (l : List UInt8) (p P : Nat) : Nat → List UInt8
  | 0 => l
  | k + 1 => if P.testBit k = true ∧ p + k < 8 * l.length then flip (cB l p P k) (p + k) else cB l p P k
def tB (l : List UInt8) (p P : Nat) : Nat → Bool
  | 0 => false
  | k + 1 => if P.testBit k = true ∧ p + k < 8 * l.length then true else tB l p P k
theorem cB_length (l : List UInt8) (p P : Nat) : ∀ k, (cB l p P k).length = l.length
  | 0 => rfl
  | k + 1 => by
    rw [cB]
    split
    · rw [flip_length, cB_length l p P k]
    · exact cB_length l p P k
theorem cB_bit (l : List UInt8) (p P : Nat) : ∀ k m, m < 8 * l.length → bitAt (cB l p P k) m = (bitAt l m ^^ (decide (p ≤ m ∧ m < p + k) && P.testBit (m - p)))
  | 0, m, _ => by
    have : decide (p ≤ m ∧ m < p + 0) = false := decide_eq_false (by omega)
    rw [cB, this, Bool.false_and, Bool.xor_false]
  | k + 1, m, hm => by
    have ih := cB_bit l p P k m hm
    rw [cB]
    split
    · rename_i hc
      rw [flip_bit _ _ _ (by rw [cB_length]; exact hc.2) (by rw [cB_length]; exact hm), ih]
      by_cases h : m = p + k
      · subst h
        have e1 : decide (p ≤ p + k ∧ p + k < p + k) = false := decide_eq_false (by omega)
        have e2 : decide (p ≤ p + k ∧ p + k < p + (k + 1)) = true := decide_eq_true (by omega)
        rw [e1, e2, show p + k - p = k from by omega, hc.1]
        simp
      · have e1 : decide (p ≤ m ∧ m < p + (k + 1)) = decide (p ≤ m ∧ m < p + k) := by rw [decide_eq_decide]; omega
        rw [e1, decide_eq_false h, Bool.xor_false]
    · rename_i hc
      rw [ih]
      by_cases h : m = p + k
      · subst h
        have e0 : P.testBit k = false := by
          cases e : P.testBit k with
          | false => rfl
          | true => exact absurd ⟨e, hm⟩ hc
        rw [show p + k - p = k from by omega, e0]
        simp
      · have e1 : decide (p ≤ m ∧ m < p + (k + 1)) = decide (p ≤ m ∧ m < p + k) := by rw [decide_eq_decide]; omega
        rw [e1]
theorem tB_iff (l : List UInt8) (p P : Nat) : ∀ k, tB l p P k = true ↔ ∃ j, j < k ∧ P.testBit j = true ∧ p + j < 8 * l.length
  | 0 => by simp [tB]
  | k + 1 => by
    rw [tB]
    split
    · rename_i hc
      exact ⟨fun _ => ⟨k, by omega, hc.1, hc.2⟩, fun _ => rfl⟩
    · rename_i hc
      rw [tB_iff l p P k]
      constructor
      · rintro ⟨j, h1, h2⟩
        exact ⟨j, by omega, h2⟩
      · rintro ⟨j, h1, h2, h3⟩
        rcases Nat.lt_or_ge j k with h | h
        · exact ⟨j, h, h2, h3⟩
        · have : j = k := by omega
          subst this
          exact absurd ⟨h2, h3⟩ hc

/-- A burst of turned bits changes the check sum. -/
theorem burst (l : List UInt8) (p P : Nat) (hP : P < 4294967296) : tB l p P 32 = (crcL l != crcL (cB l p P 32)) := by
  have hz : ∀ k, 32 ≤ k → P.testBit k = false := fun k hk => Nat.testBit_lt_two_pow (Nat.lt_of_lt_of_le (show P < 2 ^ 32 by omega) (Nat.pow_le_pow_right (by decide) hk))
  have hd := runB_diff l (cB l p P 32) p P (8 * l.length)
    (fun n hn hp => by
      rw [cB_bit l p P 32 n hn, decide_eq_false (by omega)]
      simp)
    (fun n hn hp => by
      rw [cB_bit l p P 32 n hn]
      by_cases h : n < p + 32
      · rw [decide_eq_true ⟨hp, h⟩]
        cases bitAt l n <;> simp
      · rw [decide_eq_false (by omega), hz (n - p) (by omega)]
        simp)
    (8 * l.length) (Nat.le_refl _)
  have hc : (crcL l = crcL (cB l p P 32)) ↔ runB l (8 * l.length) ^^^ runB (cB l p P 32) (8 * l.length) = 0 := by
    rw [crcL_bits, crcL_bits, cB_length]
    constructor
    · intro h
      have h' : runB l (8 * l.length) = runB (cB l p P 32) (8 * l.length) := by
        have := congrArg (fun x => ~~~ x) h
        simpa using this
      rw [h']
      exact BitVec.xor_self
    · intro h
      have h' : runB l (8 * l.length) = runB (cB l p P 32) (8 * l.length) := by
        have := congrArg (fun x => x ^^^ runB (cB l p P 32) (8 * l.length)) h
        simpa [BitVec.xor_assoc] using this
      rw [h']
  rw [hd] at hc
  have ht := tB_iff l p P 32
  rw [Bool.eq_iff_iff, ht, bne_iff_ne, ne_eq, hc]
  by_cases hp : 8 * l.length ≤ p
  · rw [if_pos hp]
    simp
    intro j _ _
    omega
  · rw [if_neg hp, stpN_zero P hP]
    constructor
    · rintro ⟨j, h1, h2, h3⟩ h
      have := h j (by omega)
      rw [h2] at this
      cases this
    · intro h
      apply Classical.byContradiction
      intro hn
      apply h
      intro k hk
      cases e : P.testBit k with
      | false => rfl
      | true =>
        exfalso
        have : k < 32 := by
          apply Classical.byContradiction
          intro h'
          rw [hz k (by omega)] at e
          cases e
        exact hn ⟨k, this, e, by omega⟩
end Go.Proofs.Ytdgoepnopenpkaa

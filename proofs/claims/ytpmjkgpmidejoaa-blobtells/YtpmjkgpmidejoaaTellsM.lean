/-
  A unit of which one byte is changed is not whole.
-/
import Derived.Test.YtpmjkgpmidejoaaHold
import Derived.Test.YtpmjkgpmidejoaaBurst
namespace Go.Proofs.Ytpmjkgpmidejoaa
open Go.RowKit

/-- A byte changed. -/
def chg (l : List UInt8) (t : Nat) (x : UInt8) : List UInt8 := l.set t (l.getD t 0 ^^^ x)
theorem chg_length (l : List UInt8) (t : Nat) (x : UInt8) : (chg l t x).length = l.length := by simp [chg]
theorem chg_getD {l : List UInt8} {t : Nat} {x : UInt8} (h : t < l.length) (q : Nat) : (chg l t x).getD q 0 = if q = t then l.getD t 0 ^^^ x else l.getD q 0 := by
  unfold chg
  simp only [List.getD, List.getElem?_set]
  by_cases e : q = t
  · subst e
    simp [h]
  · rw [if_neg e, if_neg (fun h2 => e h2.symm)]
theorem byte_test {x : UInt8} (hx : x ≠ 0) : ∃ k, k < 8 ∧ x.toNat.testBit k = true := by
  apply Classical.byContradiction
  intro h
  apply hx
  apply UInt8.toNat.inj
  apply Nat.eq_of_testBit_eq
  intro i
  by_cases hi : i < 8
  · have : ¬ x.toNat.testBit i = true := fun h2 => h ⟨i, hi, h2⟩
    simpa using this
  · rw [Nat.testBit_lt_two_pow (Nat.lt_of_lt_of_le x.toNat_lt (Nat.pow_le_pow_right (by decide) (by omega)))]
    simp
theorem crc_chg {l : List UInt8} {t : Nat} {x : UInt8} (ht : t < l.length) (hx : x ≠ 0) : crcL l ≠ crcL (chg l t x) := by
  intro h
  rw [crcL_bits, crcL_bits, chg_length] at h
  have h0 : runB l (8 * l.length) = runB (chg l t x) (8 * l.length) := BitVec.not_inj.1 h
  have hP : x.toNat < 256 := x.toNat_lt
  have hz : ∀ k, 8 ≤ k → x.toNat.testBit k = false := fun k hk => Nat.testBit_lt_two_pow (Nat.lt_of_lt_of_le x.toNat_lt (Nat.pow_le_pow_right (by decide) hk))
  have hd := runB_diff l (chg l t x) (8 * t) x.toNat (8 * l.length) (fun n h1 h2 => by
    rw [bitAt, bitAt, chg_getD ht, if_neg (by omega)]) (fun n h1 h2 => by
    rw [bitAt, bitAt, chg_getD ht]
    by_cases e : n / 8 = t
    · rw [if_pos e, e, UInt8.toNat_xor, Nat.testBit_xor, show n % 8 = n - 8 * t from by omega]
      cases (l.getD t 0).toNat.testBit (n - 8 * t) <;> simp
    · rw [if_neg e, Bool.xor_self, hz _ (by omega)]) (8 * l.length) (Nat.le_refl _)
  rw [h0, if_neg (by omega)] at hd
  have hd2 : stpN 0 x.toNat (8 * l.length - 8 * t) = 0 := by
    rw [← hd]
    exact BitVec.xor_self
  obtain ⟨k, hk, hk2⟩ := byte_test hx
  have := (stpN_zero x.toNat (by omega) _).1 hd2 k (by omega)
  rw [this] at hk2
  cases hk2
theorem be4_inj {n m : Nat} (hn : n < 4294967296) (hm : m < 4294967296) (h : be n 4 = be m 4) : n = m := by
  rw [be4, be4] at h
  simp only [List.cons.injEq, and_true] at h
  obtain ⟨h1, h2, h3, h4⟩ := h
  have g1 := congrArg UInt8.toNat h1
  have g2 := congrArg UInt8.toNat h2
  have g3 := congrArg UInt8.toNat h3
  have g4 := congrArg UInt8.toNat h4
  simp only [UInt8.toNat_ofNat'] at g1 g2 g3 g4
  omega
/-- A sealed unit of which one byte is changed is not what its data is sealed as. -/
theorem chg_broken {p : List UInt8} {t : Nat} {x : UInt8} (hp : p.length ≤ 252) (ht : t < 256) (hx : x ≠ 0) : chg (sealL p) t x ≠ sealL ((chg (sealL p) t x).drop 4) := by
  have hl := sealL_length hp
  have hbl := bodyL_length hp
  intro h
  by_cases h4 : t < 4
  · have e : (chg (sealL p) t x).drop 4 = bodyL p := by
      rw [chg, List.drop_set_of_lt h4, seal_drop]
    rw [e] at h
    have e2 : sealL (bodyL p) = sealL p := by
      unfold sealL
      rw [bodyL_id hbl]
    rw [e2] at h
    have h5 : (chg (sealL p) t x).getD t 0 = (sealL p).getD t 0 := congrArg (fun l => l.getD t 0) h
    rw [chg_getD (by omega), if_pos rfl] at h5
    apply hx
    have h6 : (sealL p).getD t 0 ^^^ x = (sealL p).getD t 0 ^^^ 0 := by rw [h5]; simp
    exact UInt8.xor_right_inj _ |>.1 h6
  · have e : (chg (sealL p) t x).drop 4 = chg (bodyL p) (t - 4) x := by
      rw [chg, List.drop_set, if_neg h4, seal_drop, chg]
      congr 2
      rw [← seal_drop]
      simp only [List.getD, List.getElem?_drop]
      congr 2
      omega
    have e4 : (chg (sealL p) t x).take 4 = be (crcL (bodyL p)).toNat 4 := by
      rw [chg, List.take_set_of_le (by omega), sealL, List.take_left' (be_length _ 4)]
    have e5 : (chg (sealL p) t x).take 4 = (sealL ((chg (sealL p) t x).drop 4)).take 4 := congrArg (fun l => l.take 4) h
    rw [e4, e, sealL, List.take_left' (be_length _ 4), bodyL_id (l := chg (bodyL p) (t - 4) x) (by rw [chg_length, hbl])] at e5
    have e6 := be4_inj (crcL (bodyL p)).isLt (crcL (chg (bodyL p) (t - 4) x)).isLt e5
    exact crc_chg (l := bodyL p) (t := t - 4) (by omega) hx (BitVec.eq_of_toNat_eq e6)
end Go.Proofs.Ytpmjkgpmidejoaa

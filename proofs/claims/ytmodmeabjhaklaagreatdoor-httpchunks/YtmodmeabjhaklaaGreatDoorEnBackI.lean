/-
  There and back: decimal digits.
-/
import Derived.Test.YtmodmeabjhaklaaGreatDoorRunI
namespace Go.Proofs.YtmodmeabjhaklaaGreatDoor.En

theorem dig_bd {c : Nat} (h : c < 10) : nth [UInt8.ofNat (48 + c)] 0 = 48 + (c : Int) := by
  show ((UInt8.ofNat (48 + c)).toNat : Int) = _
  rw [UInt8.toNat_ofNat', Nat.mod_eq_of_lt (by omega)]
  omega
theorem nth_left {x y : List UInt8} {i : Nat} (h : i < x.length) : nth (x ++ y) i = nth x i := by
  rw [nth, nth, List.getD, List.getD, List.getElem?_append_left h]
theorem ival_left {x y : List UInt8} : ∀ k, k ≤ x.length → ival (x ++ y) k = ival x k
  | 0, _ => rfl
  | k + 1, h => by rw [ival, ival, ival_left k (by omega), nth_left (by omega)]
theorem dec_int : ∀ n : Nat, ival (Lib.decDigits n) (Lib.decDigits n).length = (n : Int) ∧ (∀ i, i < (Lib.decDigits n).length → dvOk (nth (Lib.decDigits n) i) = true) ∧ 1 ≤ (Lib.decDigits n).length ∧ (1 < (Lib.decDigits n).length → nth (Lib.decDigits n) 0 ≠ 48) ∧ (∀ m, n < 10 ^ m → 1 ≤ m → (Lib.decDigits n).length ≤ m) ∧ (1 ≤ n → nth (Lib.decDigits n) 0 ≠ 48) := by
  intro n
  induction n using Nat.strongRecOn with
  | _ n ih =>
    by_cases h : n < 10
    · have e : Lib.decDigits n = [UInt8.ofNat (48 + n)] := by rw [Lib.decDigits, dif_pos h]
      have hd := dig_bd h
      rw [e]
      refine ⟨?_, ?_, by simp, by simp, ?_, ?_⟩
      · show ival _ 1 = _
        rw [ival, ival, hd, (dv1 (by omega) (by omega)).1]
        omega
      · intro i hi
        obtain rfl : i = 0 := by simp at hi; omega
        rw [hd]
        exact (dv1 (by omega) (by omega)).2
      · intro m _ hm
        simpa using hm
      · intro h1
        rw [hd]
        omega
    · have e : Lib.decDigits n = Lib.decDigits (n / 10) ++ [UInt8.ofNat (48 + n % 10)] := by rw [Lib.decDigits, dif_neg h]
      obtain ⟨i1, i2, i3, i4, i5, i6⟩ := ih (n / 10) (by omega)
      have hd := dig_bd (c := n % 10) (by omega)
      have hl : (Lib.decDigits n).length = (Lib.decDigits (n / 10)).length + 1 := by rw [e]; simp
      have hlast : nth (Lib.decDigits n) (Lib.decDigits (n / 10)).length = 48 + ((n % 10 : Nat) : Int) := by
        rw [e, ← hd, nth, nth, List.getD, List.getD, List.getElem?_append_right (Nat.le_refl _), Nat.sub_self]
      refine ⟨?_, ?_, by omega, ?_, ?_, ?_⟩
      · rw [hl, ival, hlast, (dv1 (by omega) (by omega)).1]
        rw [e, ival_left _ (Nat.le_refl _), i1]
        omega
      · intro i hi
        by_cases hlt : i < (Lib.decDigits (n / 10)).length
        · rw [e, nth_left hlt]
          exact i2 i hlt
        · obtain rfl : i = (Lib.decDigits (n / 10)).length := by omega
          rw [hlast]
          exact (dv1 (by omega) (by omega)).2
      · intro _
        rw [e, nth_left (by omega)]
        exact i6 (by omega)
      · intro m hm h1
        rw [hl]
        match m, h1 with
        | 1, _ => simp at hm; omega
        | m + 2, _ =>
          have := i5 (m + 1) (by rw [Nat.pow_succ] at hm; omega) (by omega)
          omega
      · intro _
        rw [e, nth_left (by omega)]
        exact i6 (by omega)
theorem int_text (n : Nat) (hn : n < 1000000000000000000) : intOk (Lib.decDigits n) = true ∧ intV (Lib.decDigits n) = (n : Int) := by
  obtain ⟨i1, i2, i3, i4, i5, _⟩ := dec_int n
  have hok : intOk (Lib.decDigits n) = true := intOk_all i3 (i5 18 (by simpa using hn) (by decide)) i4 i2
  exact ⟨hok, by rw [intV_yes hok]; exact i1⟩
end Go.Proofs.YtmodmeabjhaklaaGreatDoor.En

/-
  The document's Count, Legal, Valid, Key and 'in' by their contracts.
-/
import Derived.Test.YtmodmeabjhaklaaGreatDoorStep
namespace Go.Proofs.YtmodmeabjhaklaaGreatDoor
open Go.RowKit

def strLen (v : Value) : Nat := match v with | .string t => t.size | _ => 0
theorem toList_nil {t : ByteArray} (h : t.size = 0) : t.data.toList = [] := by
  have e : t.data.toList.length = t.size := by simp
  exact List.eq_nil_of_length_eq_zero (by omega)
theorem strLen_s (t : ByteArray) : strLen (.string t) = t.size := rfl

def inL (l : List UInt8) (c : Int) : Bool := l.any fun b => decide ((b.toNat : Int) = c)
theorem inL_hit {l : List UInt8} {c : Int} {k : Nat} (hk : k < l.length) (h : (l[k].toNat : Int) = c) : inL (l.drop k) c = true := by
  rw [inL, List.drop_eq_getElem_cons hk, List.any_cons, decide_eq_true h, Bool.true_or]
theorem inL_miss {l : List UInt8} {c : Int} {k : Nat} (hk : k < l.length) (h : ¬ (l[k].toNat : Int) = c) : inL (l.drop k) c = inL (l.drop (k + 1)) c := by
  rw [inL, List.drop_eq_getElem_cons hk, List.any_cons, decide_eq_false h, Bool.false_or]
  rfl
theorem refIn_any (s : ByteArray) (c : Int) (w : World) (hs : s.size ≤ maxLen) :
    Calls Tryz.prog 77 #[.string s, .int .u8 c] w fun e w' => e = .returned (.bool (inL s.data.toList c)) ∧ w = w' := by
  unfold maxLen at hs
  go_enter Tryz.func77, Tryz.ntmps77
  go_wp2
  go_loop [5] (fun i => ∃ k : Nat, k ≤ s.size ∧ i = .int .i64 k ∧ inL (s.data.toList.drop k) c = inL s.data.toList c) (fun i => s.size - (intOf i).toNat)
  case atStart => exact ⟨0, Nat.zero_le _, rfl, rfl⟩
  case round =>
    obtain ⟨k, hk, rfl, hf⟩ := hrel
    have HF : Hid (inL (s.data.toList.drop k) c = inL s.data.toList c) := hf
    clear hf
    by_cases hlt : k < s.size
    · have hlt' : k < s.data.toList.length := by simpa using hlt
      by_cases hh : (s[k].toNat : Int) = c
      · have hq : ((s[k].toNat : Int) == c) = true := by simp [hh]
        have HH : Hid ((s.data.toList[k].toNat : Int) = c) := hh
        clear hh
        go_wp2
        go_ret
        exact ⟨ret_bool (by rw [← HF.out, inL_hit hlt' HH.out]), rfl⟩
      · have hq : ((s[k].toNat : Int) == c) = false := by simp [hh]
        have HH : Hid (¬ (s.data.toList[k].toNat : Int) = c) := hh
        clear hh
        go_wp2
        go_round
        case rel => exact ⟨k + 1, by omega, by go_num, by rw [← HF.out, inL_miss hlt' HH.out]⟩
        case measure => simp [intOf]; omega
    · have hz : s.data.toList.drop k = [] := List.drop_eq_nil_of_le (by simp; omega)
      have HZ : Hid (s.data.toList.drop k = []) := hz
      clear hz
      go_wp2
      go_ret
      exact ⟨ret_bool (by rw [← HF.out, HZ.out]; rfl), rfl⟩

/-- A character that is one holds a byte 0 just if it is the character 0. -/
theorem dec_zero (n b0 b1 b2 b3 : Nat) (hb : ¬ ((Lib.decodeN n b0 b1 b2 b3).1 = 65533 ∧ (Lib.decodeN n b0 b1 b2 b3).2 = 1)) :
    ((Lib.decodeN n b0 b1 b2 b3).1 = 0 ↔ b0 = 0) ∧ (1 < (Lib.decodeN n b0 b1 b2 b3).2 → b1 ≠ 0) ∧ (2 < (Lib.decodeN n b0 b1 b2 b3).2 → b2 ≠ 0) ∧ (3 < (Lib.decodeN n b0 b1 b2 b3).2 → b3 ≠ 0) := by
  unfold Lib.decodeN at hb ⊢
  (repeat' split) <;> simp_all <;> omega
theorem inL_split (l : List UInt8) (k : Nat) (hk : k ≤ l.length) : inL l 0 = (((List.range k).any fun j => decide (at0 l j = 0)) || inL (l.drop k) 0) := by
  induction k with
  | zero => simp
  | succ k ih =>
    rw [ih (by omega), List.range_succ, List.any_append]
    have e : inL (l.drop k) 0 = (decide (at0 l k = 0) || inL (l.drop (k + 1)) 0) := by
      rw [List.drop_eq_getElem_cons (by omega : k < l.length)]
      simp only [inL, List.any_cons]
      congr 1
      unfold at0
      rw [List.getD_eq_getElem?_getD, List.getElem?_eq_getElem (by omega : k < l.length), Bool.eq_iff_iff]
      simp
    rw [e]
    simp [Bool.or_assoc]
theorem step_zero (l : List UInt8) (hl : l ≠ []) (h : (stepL l).2 ≠ 0) : inL l 0 = (decide ((stepL l).1 = 0) || inL (l.drop (stepL l).2) 0) := by
  obtain ⟨e, hb⟩ := step_good h
  have hw := step_le l hl
  rw [inL_split l (stepL l).2 hw.1]
  congr 1
  have hz := dec_zero l.length (at0 l 0) (at0 l 1) (at0 l 2) (at0 l 3) hb
  rw [e] at h hw ⊢
  unfold decL at h hw ⊢
  generalize hd : Lib.decodeN l.length (at0 l 0) (at0 l 1) (at0 l 2) (at0 l 3) = d at *
  rw [Bool.eq_iff_iff]
  simp only [List.any_eq_true, List.mem_range, decide_eq_true_eq]
  constructor
  · rintro ⟨j, hj, h0⟩
    rw [hz.1]
    match j, hj, h0 with
    | 0, _, h0 => exact h0
    | 1, hj, h0 => exact absurd h0 (hz.2.1 hj)
    | 2, hj, h0 => exact absurd h0 (hz.2.2.1 hj)
    | 3, hj, h0 => exact absurd h0 (hz.2.2.2 hj)
    | j + 4, hj, _ => omega
  · intro h0
    exact ⟨0, by omega, hz.1.1 h0⟩
theorem key_math : ∀ (n : Nat) (l : List UInt8), l.length ≤ n → (cntP nzP l).isSome = (cntOk l && !inL l 0) := by
  intro n
  induction n with
  | zero =>
    intro l h
    obtain rfl : l = [] := List.eq_nil_of_length_eq_zero (by omega)
    rfl
  | succ n ih =>
    intro l h
    by_cases hl : l = []
    · subst hl; rfl
    · by_cases hb : (stepL l).2 = 0
      · rw [cntOk, cntP_bad hl hb, cntP_bad hl hb]; rfl
      · have hp := List.length_pos_iff.2 hl
        have hi := ih (l.drop (stepL l).2) (by simp only [List.length_drop]; omega)
        rw [cntOk, cntP_go (p := T) hl hb rfl, step_zero l hl hb]
        by_cases h0 : (stepL l).1 = 0
        · rw [cntP_out hl (by rw [h0]; rfl)]
          simp [h0]
        · rw [cntP_go (p := nzP) hl hb (by simp [nzP, nzB]; exact h0)]
          simp only [Option.isSome_map]
          rw [hi, cntOk]
          simp [h0]

end Go.Proofs.YtmodmeabjhaklaaGreatDoor

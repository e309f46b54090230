/-
  The document's Count, Legal, Valid, Key and 'in' by their contracts.
-/
import Derived.Test.YtbhiabcgjnfpoaaGreatDoorRun08
namespace Go.Proofs.YtbhiabcgjnfpoaaGreatDoor
open Go.RowKit

def strLen (v : Value) : Nat := match v with | .string t => t.size | _ => 0
theorem toList_nil {t : ByteArray} (h : t.size = 0) : t.data.toList = [] := by
  have e : t.data.toList.length = t.size := by simp
  exact List.eq_nil_of_length_eq_zero (by omega)
theorem strLen_s (t : ByteArray) : strLen (.string t) = t.size := rfl

def inL (l : List UInt8) (c : Int) : Bool := l.any fun b => decide ((b.toNat : Int) = c)
theorem inL_hit {l : List UInt8} {c : Int} {k : Nat} (hk : k < l.length) (h : (l[k].toNat : Int) = c) : inL (l.drop k) c = true := by
  rw [inL, List.drop_eq_getElem_cons hk, List.any_cons, decide_eq_true h, Bool.true_or]
theorem inL_miss {l : List UInt8} {c : Int} {k : Nat} (hk : k < l.length) (h : ¬ (l[k].toNat : Int) = c) : inL (l.drop k) c = inL (l.drop (k + 1)) c := by
  rw [inL, List.drop_eq_getElem_cons hk, List.any_cons, decide_eq_false h, Bool.false_or]
  rfl
/-- A character that is one holds a byte 0 just if it is the character 0. -/
theorem dec_zero (n b0 b1 b2 b3 : Nat) (hb : ¬ ((Lib.decodeN n b0 b1 b2 b3).1 = 65533 ∧ (Lib.decodeN n b0 b1 b2 b3).2 = 1)) :
    ((Lib.decodeN n b0 b1 b2 b3).1 = 0 ↔ b0 = 0) ∧ (1 < (Lib.decodeN n b0 b1 b2 b3).2 → b1 ≠ 0) ∧ (2 < (Lib.decodeN n b0 b1 b2 b3).2 → b2 ≠ 0) ∧ (3 < (Lib.decodeN n b0 b1 b2 b3).2 → b3 ≠ 0) := by
  unfold Lib.decodeN at hb ⊢
  (repeat' split) <;> simp_all <;> omega
theorem inL_split (l : List UInt8) (k : Nat) (hk : k ≤ l.length) : inL l 0 = (((List.range k).any fun j => decide (at0 l j = 0)) || inL (l.drop k) 0) := by
  induction k with
  | zero => simp
  | succ k ih =>
    rw [ih (by omega), List.range_succ, List.any_append]
    have e : inL (l.drop k) 0 = (decide (at0 l k = 0) || inL (l.drop (k + 1)) 0) := by
      rw [List.drop_eq_getElem_cons (by omega : k < l.length)]
      simp only [inL, List.any_cons]
      congr 1
      unfold at0
      rw [List.getD_eq_getElem?_getD, List.getElem?_eq_getElem (by omega : k < l.length), Bool.eq_iff_iff]
      simp
    rw [e]
    simp [Bool.or_assoc]
theorem step_zero (l : List UInt8) (hl : l ≠ []) (h : (stepL l).2 ≠ 0) : inL l 0 = (decide ((stepL l).1 = 0) || inL (l.drop (stepL l).2) 0) := by
  obtain ⟨e, hb⟩ := step_good h
  have hw := step_le l hl
  rw [inL_split l (stepL l).2 hw.1]
  congr 1
  have hz := dec_zero l.length (at0 l 0) (at0 l 1) (at0 l 2) (at0 l 3) hb
  rw [e] at h hw ⊢
  unfold decL at h hw ⊢
  generalize hd : Lib.decodeN l.length (at0 l 0) (at0 l 1) (at0 l 2) (at0 l 3) = d at *
  rw [Bool.eq_iff_iff]
  simp only [List.any_eq_true, List.mem_range, decide_eq_true_eq]
  constructor
  · rintro ⟨j, hj, h0⟩
    rw [hz.1]
    match j, hj, h0 with
    | 0, _, h0 => exact h0
    | 1, hj, h0 => exact absurd h0 (hz.2.1 hj)
    | 2, hj, h0 => exact absurd h0 (hz.2.2.1 hj)
    | 3, hj, h0 => exact absurd h0 (hz.2.2.2 hj)
    | j + 4, hj, _ => omega
  · intro h0
    exact ⟨0, by omega, hz.1.1 h0⟩
theorem key_math : ∀ (n : Nat) (l : List UInt8), l.length ≤ n → (cntP nzP l).isSome = (cntOk l && !inL l 0) := by
  intro n
  induction n with
  | zero =>
    intro l h
    obtain rfl : l = [] := List.eq_nil_of_length_eq_zero (by omega)
    rfl
  | succ n ih =>
    intro l h
    by_cases hl : l = []
    · subst hl; rfl
    · by_cases hb : (stepL l).2 = 0
      · rw [cntOk, cntP_bad hl hb, cntP_bad hl hb]; rfl
      · have hp := List.length_pos_iff.2 hl
        have hi := ih (l.drop (stepL l).2) (by simp only [List.length_drop]; omega)
        rw [cntOk, cntP_go (p := T) hl hb rfl, step_zero l hl hb]
        by_cases h0 : (stepL l).1 = 0
        · rw [cntP_out hl (by rw [h0]; rfl)]
          simp [h0]
        · rw [cntP_go (p := nzP) hl hb (by simp [nzP, nzB]; exact h0)]
          simp only [Option.isSome_map]
          rw [hi, cntOk]
          simp [h0]

end Go.Proofs.YtbhiabcgjnfpoaaGreatDoor
/-
  The document's Split, digits and Bucket by their contracts.
-/
namespace Go.Proofs.YtbhiabcgjnfpoaaGreatDoor
open Go.RowKit

def OwnS (w : World) (base : Nat) (v : Value) (L : List ByteArray) : Prop := w.ownsRow base 9 1 v L.length (L.map Value.string)
theorem OwnS.strs {w : World} {base : Nat} {v : Value} {L : List ByteArray} (h : OwnS w base v L) : ∃ a cap, v = .slice a L.length cap ∧ Strs w a L := by
  obtain ⟨hl, ⟨rfl, hn⟩ | ⟨g, cap, cur, rfl, hg, hh, hnc, hcm, hcs, htk⟩⟩ := h
  · exact ⟨none, 0, by rw [hn], .inl (List.eq_nil_of_length_eq_zero hn)⟩
  · refine ⟨_, cap, rfl, .inr ⟨g, 0, rfl, ?_, ?_⟩⟩
    · rcases Nat.lt_or_ge g w.heap.size with h | h
      · exact h
      · rw [Array.getElem?_eq_none h] at hh
        simp at hh
    · intro j hj
      have hown : w.ownsRow base 9 1 (.slice (some ⟨g, 0, none⟩) L.length cap) L.length (L.map Value.string) := ⟨hl, .inr ⟨g, cap, cur, rfl, hg, hh, hnc, hcm, hcs, htk⟩⟩
      have := hown.cellAt j (by omega)
      simp only [Nat.zero_add]
      rw [this]
      simp [List.getElem?_eq_getElem hj]
theorem ownS_more {w : World} {base : Nat} {v : Value} {L : List ByteArray} {x : ByteArray} (h : w.ownsRow base 9 1 v (L.length + 1) (L.map Value.string ++ [Value.string x])) : OwnS w base v (L ++ [x]) := by
  rw [OwnS, List.length_append, List.map_append]
  exact h

def consH (cur : List UInt8) : List (List UInt8) → List (List UInt8)
  | [] => [cur]
  | x :: xs => (cur ++ x) :: xs
theorem consH_nil {S : List (List UInt8)} (h : S ≠ []) : consH [] S = S := by
  cases S with
  | nil => exact absurd rfl h
  | cons x xs => rfl
theorem consH_two (a b : List UInt8) (S : List (List UInt8)) (h : S ≠ []) : consH a (consH b S) = consH (a ++ b) S := by
  cases S with
  | nil => exact absurd rfl h
  | cons x xs => simp [consH]
theorem splitL_at {c : UInt8} {l : List UInt8} {k : Nat} (hk : k < l.length) : splitL c (l.drop k) = if l[k] = c then [] :: splitL c (l.drop (k + 1)) else consH [l[k]] (splitL c (l.drop (k + 1))) := by
  rw [List.drop_eq_getElem_cons hk, splitL]
  split
  · rfl
  · cases h : splitL c (l.drop (k + 1)) with
    | nil => exact absurd h (splitL_ne _ _)
    | cons x xs => rfl
def pieceL (l : List UInt8) (f k : Nat) : List UInt8 := (l.drop f).take (k - f)
theorem pieceL_same (l : List UInt8) (k : Nat) : pieceL l k k = [] := by simp [pieceL]
theorem pieceL_snoc {l : List UInt8} {f k : Nat} (hf : f ≤ k) (hk : k < l.length) : pieceL l f (k + 1) = pieceL l f k ++ [l[k]] := by
  unfold pieceL
  rw [show k + 1 - f = (k - f) + 1 from by omega, List.take_succ_eq_append_getElem (by simp; omega)]
  congr 2
  simp only [List.getElem_drop]
  congr 1
  omega
theorem pieceL_end (l : List UInt8) (f : Nat) : pieceL l f l.length = l.drop f := List.take_of_length_le (by simp)
theorem extract_piece (s : ByteArray) (f k : Nat) : s.extract f k = ⟨(pieceL s.data.toList f k).toArray⟩ := by
  obtain ⟨⟨l⟩⟩ := s
  exact ByteArray.extract_mk l f k

def digsB (l : List UInt8) : Bool := allB digB l && decide (0 < l.length)
end Go.Proofs.YtbhiabcgjnfpoaaGreatDoor

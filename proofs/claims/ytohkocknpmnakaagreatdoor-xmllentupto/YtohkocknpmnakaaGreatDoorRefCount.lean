/-
  The document's Count, Legal, Valid, Key and 'in' by their contracts.
-/
import Derived.Test.YtohkocknpmnakaaGreatDoorStep
namespace Go.Proofs.YtohkocknpmnakaaGreatDoor
open Go.RowKit

def strLen (v : Value) : Nat := match v with | .string t => t.size | _ => 0
theorem toList_nil {t : ByteArray} (h : t.size = 0) : t.data.toList = [] := by
  have e : t.data.toList.length = t.size := by simp
  exact List.eq_nil_of_length_eq_zero (by omega)
theorem strLen_s (t : ByteArray) : strLen (.string t) = t.size := rfl

set_option maxHeartbeats 800000 in
theorem refLegal_any (s : ByteArray) (w : World) (hs : s.size ≤ maxLen) :
    Calls Tryz.prog 30 #[.string s] w fun e w' => e = .returned (.bool (cntP xmlP s.data.toList).isSome) ∧ w = w' := by
  have hs' := hs
  unfold maxLen at hs
  go_enter Tryz.func30, Tryz.ntmps30
  go_wp2
  go_loop [0] (fun v => ∃ (t : ByteArray) (k : Nat), v = .string t ∧ k + t.size ≤ s.size ∧ cntP xmlP s.data.toList = (cntP xmlP t.data.toList).map (· + k)) (fun v => strLen v)
  case atStart => exact ⟨s, 0, rfl, by omega, by simp⟩
  case round =>
    obtain ⟨t, k, rfl, hk, hc⟩ := hrel
    have HC : Hid (cntP xmlP s.data.toList = (cntP xmlP t.data.toList).map (· + k)) := hc
    clear hc
    by_cases hlt : 0 < t.size
    · have hne : t.data.toList ≠ [] := by
        intro h
        have : t.data.toList.length = 0 := by rw [h]; rfl
        simp at this
        have e : t.size = t.data.size := rfl
        rw [e, this] at hlt
        simp at hlt
      have hwd := step_le _ hne
      have hlen : t.data.toList.length = t.size := by simp
      have ht' : t.size ≤ maxLen := by unfold maxLen; omega
      have HS : Hid (∀ W, Calls Tryz.prog 59 #[.string t] W fun e w' => e = .returned (.tuple #[.int .i64 ((stepL t.data.toList).1 : Nat), .int .i64 ((stepL t.data.toList).2 : Nat)]) ∧ W = w') := fun W => refStep_any t W ht' hlt
      have hrn := step_rune t.data.toList
      obtain ⟨R, hR⟩ : ∃ R, (stepL t.data.toList).1 = R := ⟨_, rfl⟩
      obtain ⟨K, hK⟩ : ∃ K, (stepL t.data.toList).2 = K := ⟨_, rfl⟩
      by_cases hz : K = 0
      · have hcz := cntP_bad (p := xmlP) hne (by rw [hK]; exact hz)
        have HZ : Hid (cntP xmlP s.data.toList = none) := by
          have := HC.out
          rw [hcz] at this
          exact this
        rw [hR, hK, hz] at HS
        clear hcz HC hwd hlen hrn hR hK hz ht'
        go_wp2_with (go_at_call 59; refine (HS.out _).mono ?_; rintro e w' ⟨rfl, rfl⟩)
        go_ret
        exact ⟨ret_bool (by rw [HZ.out]; rfl), rfl⟩
      · have hz' : ((K : Int) == 0) = false := by simp; omega
        rw [hR] at hrn
        have hxc : charB (R : Int) = xmlP R := by
          rw [Bool.eq_iff_iff]
          simp [charB, xmlP, xmlB]
          omega
        have HCH : Hid (∀ W, Calls Tryz.prog 60 #[.int .i64 (R : Int)] W fun e w' => e = .returned (.bool (charB (R : Int))) ∧ W = w') := fun W => refChar_any R W (by omega) (by omega)
        rw [hxc] at HCH
        rw [hK] at hwd
        have hKt : (K : Int) ≤ (t.size : Int) := by omega
        have hex : Hid ((t.extract K t.size).size = t.size - K) := by show (t.extract K t.size).size = _; simp
        have hbk : K ≤ t.size ∧ 0 < K := by omega
        cases hx : xmlP R
        · have hcz := cntP_out (p := xmlP) hne (by rw [hR]; exact hx)
          have HZ : Hid (cntP xmlP s.data.toList = none) := by
            have := HC.out
            rw [hcz] at this
            exact this
          rw [hR, hK] at HS
          rw [hx] at HCH
          clear hcz HC hwd hlen hrn hR hK ht' hxc
          go_wp2_with (first
            | (go_at_call 59; refine (HS.out _).mono ?_; rintro e w' ⟨rfl, rfl⟩)
            | (go_at_call 60; refine (HCH.out _).mono ?_; rintro e w' ⟨rfl, rfl⟩))
          go_ret
          exact ⟨ret_bool (by rw [HZ.out]; rfl), rfl⟩
        · have hstep := cntP_go (p := xmlP) hne (by rw [hK]; exact hz) (by rw [hR]; exact hx)
          rw [hK] at hstep
          have HSP : Hid (cntP xmlP t.data.toList = (cntP xmlP (t.data.toList.drop K)).map (· + 1)) := hstep
          rw [hR, hK] at HS
          rw [hx] at HCH
          clear hstep hwd hlen hrn hR hK ht' hxc
          go_wp2_with (first
            | (go_at_call 59; refine (HS.out _).mono ?_; rintro e w' ⟨rfl, rfl⟩)
            | (go_at_call 60; refine (HCH.out _).mono ?_; rintro e w' ⟨rfl, rfl⟩))
          go_round
          case rel =>
            refine ⟨t.extract K t.size, k + 1, rfl, by rw [hex.out]; omega, ?_⟩
            rw [HC.out, HSP.out, extract_drop, Option.map_map]
            congr 1
            funext x
            simp only [Function.comp]
            omega
          case measure => show (t.extract K t.size).size < t.size; rw [hex.out]; omega
    · have hz : t.size = 0 := by omega
      have HZ : Hid (cntP xmlP s.data.toList = some k) := by
        have := HC.out
        have e : t.data.toList = [] := toList_nil hz
        rw [e, cntP_nil] at this
        exact (by simpa using this : cntP xmlP s.data.toList = some k)
      have hz' : ¬ (0 : Int) < (t.size : Int) := by omega
      clear HC hz
      go_wp2
      go_ret
      exact ⟨ret_bool (by rw [HZ.out]; rfl), rfl⟩

def inL (l : List UInt8) (c : Int) : Bool := l.any fun b => decide ((b.toNat : Int) = c)
theorem inL_hit {l : List UInt8} {c : Int} {k : Nat} (hk : k < l.length) (h : (l[k].toNat : Int) = c) : inL (l.drop k) c = true := by
  rw [inL, List.drop_eq_getElem_cons hk, List.any_cons, decide_eq_true h, Bool.true_or]
theorem inL_miss {l : List UInt8} {c : Int} {k : Nat} (hk : k < l.length) (h : ¬ (l[k].toNat : Int) = c) : inL (l.drop k) c = inL (l.drop (k + 1)) c := by
  rw [inL, List.drop_eq_getElem_cons hk, List.any_cons, decide_eq_false h, Bool.false_or]
  rfl
/-- A character that is one holds a byte 0 just if it is the character 0. -/
theorem dec_zero (n b0 b1 b2 b3 : Nat) (hb : ¬ ((Lib.decodeN n b0 b1 b2 b3).1 = 65533 ∧ (Lib.decodeN n b0 b1 b2 b3).2 = 1)) :
    ((Lib.decodeN n b0 b1 b2 b3).1 = 0 ↔ b0 = 0) ∧ (1 < (Lib.decodeN n b0 b1 b2 b3).2 → b1 ≠ 0) ∧ (2 < (Lib.decodeN n b0 b1 b2 b3).2 → b2 ≠ 0) ∧ (3 < (Lib.decodeN n b0 b1 b2 b3).2 → b3 ≠ 0) := by
  unfold Lib.decodeN at hb ⊢
  (repeat' split) <;> simp_all <;> omega
theorem inL_split (l : List UInt8) (k : Nat) (hk : k ≤ l.length) : inL l 0 = (((List.range k).any fun j => decide (at0 l j = 0)) || inL (l.drop k) 0) := by
  induction k with
  | zero => simp
  | succ k ih =>
    rw [ih (by omega), List.range_succ, List.any_append]
    have e : inL (l.drop k) 0 = (decide (at0 l k = 0) || inL (l.drop (k + 1)) 0) := by
      rw [List.drop_eq_getElem_cons (by omega : k < l.length)]
      simp only [inL, List.any_cons]
      congr 1
      unfold at0
      rw [List.getD_eq_getElem?_getD, List.getElem?_eq_getElem (by omega : k < l.length), Bool.eq_iff_iff]
      simp
    rw [e]
    simp [Bool.or_assoc]
theorem step_zero (l : List UInt8) (hl : l ≠ []) (h : (stepL l).2 ≠ 0) : inL l 0 = (decide ((stepL l).1 = 0) || inL (l.drop (stepL l).2) 0) := by
  obtain ⟨e, hb⟩ := step_good h
  have hw := step_le l hl
  rw [inL_split l (stepL l).2 hw.1]
  congr 1
  have hz := dec_zero l.length (at0 l 0) (at0 l 1) (at0 l 2) (at0 l 3) hb
  rw [e] at h hw ⊢
  unfold decL at h hw ⊢
  generalize hd : Lib.decodeN l.length (at0 l 0) (at0 l 1) (at0 l 2) (at0 l 3) = d at *
  rw [Bool.eq_iff_iff]
  simp only [List.any_eq_true, List.mem_range, decide_eq_true_eq]
  constructor
  · rintro ⟨j, hj, h0⟩
    rw [hz.1]
    match j, hj, h0 with
    | 0, _, h0 => exact h0
    | 1, hj, h0 => exact absurd h0 (hz.2.1 hj)
    | 2, hj, h0 => exact absurd h0 (hz.2.2.1 hj)
    | 3, hj, h0 => exact absurd h0 (hz.2.2.2 hj)
    | j + 4, hj, _ => omega
  · intro h0
    exact ⟨0, by omega, hz.1.1 h0⟩
theorem key_math : ∀ (n : Nat) (l : List UInt8), l.length ≤ n → (cntP nzP l).isSome = (cntOk l && !inL l 0) := by
  intro n
  induction n with
  | zero =>
    intro l h
    obtain rfl : l = [] := List.eq_nil_of_length_eq_zero (by omega)
    rfl
  | succ n ih =>
    intro l h
    by_cases hl : l = []
    · subst hl; rfl
    · by_cases hb : (stepL l).2 = 0
      · rw [cntOk, cntP_bad hl hb, cntP_bad hl hb]; rfl
      · have hp := List.length_pos_iff.2 hl
        have hi := ih (l.drop (stepL l).2) (by simp only [List.length_drop]; omega)
        rw [cntOk, cntP_go (p := T) hl hb rfl, step_zero l hl hb]
        by_cases h0 : (stepL l).1 = 0
        · rw [cntP_out hl (by rw [h0]; rfl)]
          simp [h0]
        · rw [cntP_go (p := nzP) hl hb (by simp [nzP, nzB]; exact h0)]
          simp only [Option.isSome_map]
          rw [hi, cntOk]
          simp [h0]

end Go.Proofs.YtohkocknpmnakaaGreatDoor

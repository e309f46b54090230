/-
  The document's reader of chunks: what it reads, against the code's.
-/
import Derived.Test.YtgpjjlkkfddjnaaDoorChE
namespace Go.Proofs.YtgpjjlkkfddjnaaDoor
open Go.RowKit

/-- What the document's 'size' leaves: faults at once where nothing is left, or no digit stood. -/
def szS (s : RS) : RS := if s.1.drop (dnL 8 s.1) = [] then (s.1.drop (dnL 8 s.1), 307) else if dnL 8 s.1 = 0 then (s.1, 308) else (s.1.drop (dnL 8 s.1), 0)
def szN (s : RS) : Nat := numL (s.1.take (dnL 8 s.1))
/-- Alike: the same fault, and the same rest if there is none. -/
def Alk (s t : RS) : Prop := s.2 = t.2 ∧ (s.2 = 0 → s.1 = t.1)
theorem alk_tx {t : List UInt8} {s u : RS} (h : Alk s u) : Alk (txS t s) (txS t u) := by
  by_cases h0 : s.2 = 0
  · have e : s = u := Prod.ext (h.2 h0) h.1
    rw [e]
    exact ⟨rfl, fun _ => rfl⟩
  · have h1 : u.2 ≠ 0 := by rw [← h.1]; exact h0
    have e1 : txS t s = s := by rw [txS, exS_fault h0, tkS_fault h0]
    have e2 : txS t u = u := by rw [txS, exS_fault h1, tkS_fault h1]
    rw [e1, e2]
    exact h
theorem tx_nil : txS sigT (([], 0) : RS) = ([], 307) := by rfl
/-- Digits and the text behind them: both ways of reading. -/
theorem sz_alk (l : List UInt8) : Alk (txS sigT (szS (l, 0))) (txS sigT (dgS 1 8 (l, 0)).2) ∧ ((txS sigT (szS (l, 0))).2 = 0 → szN (l, 0) = numL (dgS 1 8 (l, 0)).1) := by
  obtain ⟨k, hk⟩ : ∃ k, k = dnL 8 l := ⟨_, rfl⟩
  have h := dnL_le 8 l
  rw [← hk] at h
  by_cases h1 : l.drop k = []
  · have hkl : k = l.length := by
      have := congrArg List.length h1
      simp only [List.length_drop, List.length_nil] at this
      omega
    have e1 : szS (l, 0) = ([], 307) := by simp [szS, ← hk, h1]
    have e2 : (txS sigT (dgS 1 8 (l, 0)).2).2 = 307 := by
      by_cases h0 : k = 0
      · have hl : l = [] := List.eq_nil_of_length_eq_zero (by omega)
        subst hl
        rfl
      · have hg : dgS 1 8 ((l, 0) : RS) = (l, ([], 0)) := by
          have e : max k 1 = l.length := by omega
          rw [dgS]
          simp only [← hk, e]
          simp [exS, tkS, hkl]
        rw [hg, tx_nil]
    have e3 : txS sigT ((([], 307) : RS)) = ([], 307) := by rfl
    rw [e1, e3]
    exact ⟨⟨e2.symm, fun h => by cases h⟩, fun h => by cases h⟩
  · by_cases h0 : k = 0
    · have e1 : szS (l, 0) = (l, 308) := by simp [szS, ← hk, h0]; intro e; rw [h0] at h1; simp [e] at h1
      have hne : ¬ (0 : Nat) = l.length := by
        intro e
        rw [h0] at h1
        exact h1 (List.eq_nil_of_length_eq_zero (by rw [List.drop_zero]; exact e.symm))
      have e2 : (dgS 1 8 ((l, 0) : RS)).2 = (l, 308) := by
        rw [dgS]
        simp only [← hk, h0]
        simp [exS, tkS, hne]
      rw [e1, e2]
      have e3 : txS sigT (((l, 308) : RS)) = (l, 308) := by simp [txS, exS, tkS]
      rw [e3]
      exact ⟨⟨rfl, fun h => by cases h⟩, fun h => by cases h⟩
    · have e1 : szS (l, 0) = (l.drop k, 0) := by simp only [szS, ← hk]; rw [if_neg h1, if_neg h0]
      have e : max k 1 = k := by omega
      have hk1 : 1 ≤ k := by omega
      have e2 : dgS 1 8 ((l, 0) : RS) = (l.take k, (l.drop k, 0)) := by
        have hlt : ¬ l.length < k := by omega
        rw [dgS]
        simp only [← hk, e]
        simp [exS, tkS, hk1, hlt]
      rw [e1, e2]
      exact ⟨⟨rfl, fun _ => rfl⟩, fun _ => by simp only [szN, ← hk]⟩
/-- What the eating of a text leaves, told by how far it fits. -/
theorem tx_fit {t l : List UInt8} {j : Nat} (hj : j < t.length) (hjl : j ≤ l.length) (hp : l.take j = t.take j) : (j = l.length → (txS t (l, 0)).2 = 307) ∧ (∀ h : j < l.length, l[j] ≠ t[j] → (txS t (l, 0)).2 = 308) := by
  constructor
  · intro e
    subst e
    rw [List.take_length] at hp
    rw [hp]
    exact tx_short hj
  · intro h hne
    have hb : txB t l = false := by
      cases hx : txB t l with
      | false => rfl
      | true =>
        simp only [txB, decide_eq_true_eq] at hx
        have h1 : (l.take (min t.length l.length))[j]? = (t.take (min t.length l.length))[j]? := by rw [hx]
        rw [List.getElem?_take_of_lt (by omega), List.getElem?_take_of_lt (by omega), List.getElem?_eq_getElem h, List.getElem?_eq_getElem hj] at h1
        exact absurd (Option.some.inj h1) hne
    simp [txS, exS, hb, tkS]
theorem tx_whole {t l : List UInt8} (hp : l.take t.length = t) : txS t (l, 0) = (l.drop t.length, 0) := by
  have e : l = t ++ l.drop t.length := by
    have := List.take_append_drop t.length l
    rw [hp] at this
    exact this.symm
  have h := tx_yes t (l.drop t.length)
  rw [← e] at h
  exact h
theorem nm_cases (l : List UInt8) : (dnL 64 l = 64 → dgS 64 64 (l, 0) = (l.take 64, (l.drop 64, 0))) ∧ (dnL 64 l < 64 → dnL 64 l = l.length → (dgS 64 64 (l, 0)).2.2 = 307) ∧ (dnL 64 l < 64 → dnL 64 l ≠ l.length → (dgS 64 64 (l, 0)).2.2 = 308) := by
  have h := dnL_le 64 l
  refine ⟨fun e => ?_, fun e1 e2 => ?_, fun e1 e2 => ?_⟩
  · have hlt : ¬ l.length < 64 := by omega
    rw [dgS]
    simp only [e]
    simp [exS, tkS, hlt]
  · have e : max (dnL 64 l) 64 = 64 := by omega
    have hlt : l.length < 64 := by omega
    rw [dgS]
    simp only [e]
    simp [exS, tkS, e2, hlt]
  · have hlt : ¬ 64 ≤ dnL 64 l := by omega
    rw [dgS]
    simp [exS, tkS, e2, hlt]
end Go.Proofs.YtgpjjlkkfddjnaaDoor

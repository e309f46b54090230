/-
  Where the first '=' of a body stands.
-/
import Derived.Test.YtgpjjlkkfddjnaaDoorBkC
namespace Go.Proofs.YtgpjjlkkfddjnaaDoor
open Go.RowKit

theorem eq_list {a r : List UInt8} (ha : ∀ c ∈ a, c ≠ 61) : (∀ j (h : j < (a ++ 61 :: r).length), j < a.length → (a ++ 61 :: r)[j] ≠ 61) ∧ (∀ h : a.length < (a ++ 61 :: r).length, (a ++ 61 :: r)[a.length] = 61) := by
  constructor
  · intro j h hj
    rw [List.getElem_append_left hj]
    exact ha _ (List.getElem_mem _)
  · intro h
    rw [List.getElem_append_right (Nat.le_refl _)]
    simp
/-- The first '=' of a chunk that is written. -/
theorem eq_place {sig p r : List UInt8} (hp : p.length < 4294967296) : (∀ j (h : j < (chkT sig p ++ r).length), j < (hxN p.length).length + 16 → (chkT sig p ++ r)[j] ≠ 61) ∧ (∀ h : (hxN p.length).length + 16 < (chkT sig p ++ r).length, (chkT sig p ++ r)[(hxN p.length).length + 16] = 61) ∧ (chkT sig p ++ r).length = (hxN p.length).length + 17 + (sig.length + (2 + (p.length + (2 + r.length)))) := by
  have e : chkT sig p ++ r = (hxN p.length ++ [59, 99, 104, 117, 110, 107, 45, 115, 105, 103, 110, 97, 116, 117, 114, 101]) ++ 61 :: (sig ++ (crT ++ (p ++ (crT ++ r)))) := by simp [chkT, sigT, List.append_assoc]
  have hl : (hxN p.length ++ [59, 99, 104, 117, 110, 107, 45, 115, 105, 103, 110, 97, 116, 117, 114, 101]).length = (hxN p.length).length + 16 := by rw [List.length_append]; rfl
  have hd := (hxN_facts hp).1
  have ha : ∀ c ∈ hxN p.length ++ [59, 99, 104, 117, 110, 107, 45, 115, 105, 103, 110, 97, 116, 117, 114, 101], c ≠ 61 := by
    intro c hc
    rcases List.mem_append.1 hc with h | h
    · intro e1
      have := hd c h
      rw [e1] at this
      exact absurd this (by decide)
    · have key : ∀ c ∈ ([59, 99, 104, 117, 110, 107, 45, 115, 105, 103, 110, 97, 116, 117, 114, 101] : List UInt8), c ≠ 61 := by decide
      exact key c h
  obtain ⟨h1, h2⟩ := eq_list (r := sig ++ (crT ++ (p ++ (crT ++ r)))) ha
  rw [hl] at h1 h2
  refine ⟨fun j h hj => ?_, fun h => ?_, ?_⟩
  · simp only [e]
    exact h1 j (by rw [← e]; exact h) hj
  · simp only [e]
    exact h2 (by rw [← e]; exact h)
  · simp only [chkT, List.length_append, sigT, crT, List.length_cons, List.length_nil]
    omega
end Go.Proofs.YtgpjjlkkfddjnaaDoor

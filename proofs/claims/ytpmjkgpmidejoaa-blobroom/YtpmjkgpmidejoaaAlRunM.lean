/-
  Free runs: the mathematics.
-/
import Derived.Test.YtpmjkgpmidejoaaAlRuns
namespace Go.Proofs.Ytpmjkgpmidejoaa.Al

theorem drop_step {L : List Bool} {i : Nat} {x : Bool} {r : List Bool} (h : L.drop i = x :: r) : i < L.length ∧ L[i]? = some x ∧ L.drop (i + 1) = r := by
  have hl : i < L.length := by
    by_cases hi : i < L.length
    · exact hi
    · rw [List.drop_eq_nil_of_le (by omega)] at h; simp at h
  rw [List.drop_eq_getElem_cons hl] at h
  injection h with h1 h2
  exact ⟨hl, by rw [List.getElem?_eq_getElem hl, h1], h2⟩
theorem drop_nil {L : List Bool} {i : Nat} (h : L.drop i = []) : L.length ≤ i := by
  have := congrArg List.length h
  rw [List.length_drop] at this
  simp at this
  omega
theorem allB_snoc {L : List Bool} {i c : Nat} {t : Bool} (hc : c ≤ i) (h : allB L (i - c) c t) (hi : L[i]? = some t) : allB L (i + 1 - (c + 1)) (c + 1) t := by
  intro j hj
  by_cases e : j = c
  · subst e; rw [show i + 1 - (j + 1) + j = i from by omega]; exact hi
  · have := h j (by omega)
    rwa [show i + 1 - (c + 1) + j = i - c + j from by omega]
theorem allB_zero (L : List Bool) (s : Nat) (t : Bool) : allB L s 0 t := fun _ h => by omega

theorem rn_mem {L : List Bool} : ∀ (R : List Bool) {i c : Nat}, L.drop i = R → c ≤ i → i ≤ L.length → allB L (i - c) c false → ∀ x ∈ rn i c R, 1 ≤ x.2 ∧ i - c ≤ x.1 ∧ x.1 + x.2 ≤ L.length ∧ allB L x.1 x.2 false
  | [], i, c, hd, hc, hl, ha, x, hx => by
    rw [rn] at hx
    by_cases h0 : c = 0
    · rw [if_pos h0] at hx; simp at hx
    · rw [if_neg h0, List.mem_singleton] at hx
      subst hx
      exact ⟨by show 1 ≤ c; omega, Nat.le_refl _, by show i - c + c ≤ _; omega, ha⟩
  | true :: r, i, c, hd, hc, hl, ha, x, hx => by
    obtain ⟨h1, h2, h3⟩ := drop_step hd
    rw [rn, List.mem_append] at hx
    rcases hx with hx | hx
    · by_cases h0 : c = 0
      · rw [if_pos h0] at hx; simp at hx
      · rw [if_neg h0, List.mem_singleton] at hx
        subst hx
        exact ⟨by show 1 ≤ c; omega, Nat.le_refl _, by show i - c + c ≤ _; omega, ha⟩
    · obtain ⟨a1, a2, a3⟩ := rn_mem r h3 (Nat.zero_le _) (by omega) (allB_zero _ _ _) x hx
      exact ⟨a1, by omega, a3⟩
  | false :: r, i, c, hd, hc, hl, ha, x, hx => by
    obtain ⟨h1, h2, h3⟩ := drop_step hd
    rw [rn] at hx
    obtain ⟨a1, a2, a3⟩ := rn_mem r h3 (by omega) (by omega) (allB_snoc hc ha h2) x hx
    exact ⟨a1, by omega, a3⟩
theorem runs_mem {L : List Bool} {x : Nat × Nat} (h : x ∈ runsL L) : 1 ≤ x.2 ∧ x.1 + x.2 ≤ L.length ∧ allB L x.1 x.2 false := by
  obtain ⟨a1, _, a3⟩ := rn_mem L (i := 0) (c := 0) (L := L) rfl (Nat.le_refl _) (Nat.zero_le _) (allB_zero _ _ _) x h
  exact ⟨a1, a3⟩
/-- Runs never touch. -/
theorem rn_apart {L : List Bool} : ∀ (R : List Bool) {i c : Nat}, L.drop i = R → c ≤ i → i ≤ L.length → allB L (i - c) c false → (rn i c R).Pairwise (fun x y => x.1 + x.2 < y.1)
  | [], i, c, hd, hc, hl, ha => by
    rw [rn]
    split <;> simp
  | true :: r, i, c, hd, hc, hl, ha => by
    obtain ⟨h1, h2, h3⟩ := drop_step hd
    rw [rn]
    have ih := rn_apart r h3 (Nat.zero_le _) (by omega) (allB_zero _ _ _)
    by_cases h0 : c = 0
    · rw [if_pos h0]; exact ih
    · rw [if_neg h0, List.singleton_append, List.pairwise_cons]
      refine ⟨fun y hy => ?_, ih⟩
      have := (rn_mem r h3 (Nat.zero_le _) (by omega) (allB_zero _ _ _) y hy).2.1
      show i - c + c < y.1
      omega
  | false :: r, i, c, hd, hc, hl, ha => by
    obtain ⟨h1, h2, h3⟩ := drop_step hd
    rw [rn]
    exact rn_apart r h3 (by omega) (by omega) (allB_snoc hc ha h2)
theorem runs_apart (L : List Bool) : (runsL L).Pairwise (fun x y => x.1 + x.2 < y.1) := rn_apart L (i := 0) (c := 0) (L := L) rfl (Nat.le_refl _) (Nat.zero_le _) (allB_zero _ _ _)
/-- How many are free. -/
def sumR (xs : List (Nat × Nat)) : Nat := (xs.map (·.2)).sum
theorem sumR_snoc (xs : List (Nat × Nat)) (x : Nat × Nat) : sumR (xs ++ [x]) = sumR xs + x.2 := by simp [sumR]
theorem rn_sum : ∀ (R : List Bool) (i c : Nat), sumR (rn i c R) = c + R.count false
  | [], i, c => by
    rw [rn]
    split
    · rename_i h; subst h; rfl
    · simp [sumR]
  | true :: r, i, c => by
    have ih := rn_sum r (i + 1) 0
    rw [rn]
    by_cases h0 : c = 0
    · rw [if_pos h0, List.nil_append, ih]; simp [h0]
    · rw [if_neg h0]
      simp only [sumR, List.map_append, List.sum_append, List.map_cons, List.map_nil, List.sum_cons, List.sum_nil] at ih ⊢
      rw [ih]
      simp
  | false :: r, i, c => by
    rw [rn, rn_sum r (i + 1) (c + 1), List.count_cons_self]
    omega
theorem runs_sum (L : List Bool) : sumR (runsL L) = L.count false := by rw [runsL, rn_sum, Nat.zero_add]
theorem count_le (L : List Bool) : L.count false ≤ L.length := List.count_le_length
theorem sum_pre {pre xs : List (Nat × Nat)} (h : pre <+: xs) : sumR pre ≤ sumR xs := by
  obtain ⟨r, rfl⟩ := h
  simp [sumR]

/-- A free window of k units at a. -/
def winP (L : List Bool) (k a : Nat) : Prop := a + k ≤ L.length ∧ allB L a k false
/-- The first run that has k units. -/
def takeL (k : Nat) (xs : List (Nat × Nat)) : Option (Nat × Nat) := xs.find? fun x => decide (k ≤ x.2)
theorem rn_take {L : List Bool} {k : Nat} (hk : 1 ≤ k) : ∀ (R : List Bool) {i c : Nat}, L.drop i = R → c ≤ i → i ≤ L.length → allB L (i - c) c false →
    (∀ x, takeL k (rn i c R) = some x → winP L k x.1 ∧ ∀ a, i - c ≤ a → a < x.1 → ¬ winP L k a) ∧ (takeL k (rn i c R) = none → ∀ a, i - c ≤ a → ¬ winP L k a)
  | [], i, c, hd, hc, hl, ha => by
    have hi := drop_nil hd
    rw [rn]
    by_cases h0 : c = 0
    · rw [if_pos h0]
      refine ⟨fun x hx => by simp [takeL] at hx, fun _ a h1 h2 => by have := h2.1; omega⟩
    · rw [if_neg h0]
      by_cases hkc : k ≤ c
      · refine ⟨fun x hx => ?_, fun hx => by simp [takeL, hkc] at hx⟩
        simp [takeL, hkc] at hx
        subst hx
        exact ⟨⟨by show i - c + k ≤ _; omega, fun j hj => ha j (by omega)⟩, fun a h1 h2 => by dsimp only at h2; omega⟩
      · refine ⟨fun x hx => by simp [takeL, hkc] at hx, fun _ a h1 h2 => ?_⟩
        have := h2.1
        omega
  | true :: r, i, c, hd, hc, hl, ha => by
    obtain ⟨h1, h2, h3⟩ := drop_step hd
    obtain ⟨ih1, ih2⟩ := rn_take hk r h3 (Nat.zero_le _) (by omega) (allB_zero _ _ _)
    rw [rn]
    have hno : ¬ k ≤ c → ∀ a, i - c ≤ a → a ≤ i → ¬ winP L k a := by
      intro hkc a q1 q2 q3
      have := q3.2 (i - a) (by omega)
      rw [show a + (i - a) = i from by omega, h2] at this
      simp at this
    by_cases hkc : 1 ≤ c ∧ k ≤ c
    · rw [if_neg (by omega)]
      have e : takeL k ([(i - c, c)] ++ rn (i + 1) 0 r) = some (i - c, c) := by simp [takeL, hkc.2]
      rw [e]
      refine ⟨fun x hx => ?_, fun hx => by simp at hx⟩
      injection hx with hx
      subst hx
      exact ⟨⟨by show i - c + k ≤ _; omega, fun j hj => ha j (by omega)⟩, fun a q1 q2 => by dsimp only at q2; omega⟩
    · have e : takeL k ((if c = 0 then [] else [(i - c, c)]) ++ rn (i + 1) 0 r) = takeL k (rn (i + 1) 0 r) := by
        by_cases h0 : c = 0
        · rw [if_pos h0, List.nil_append]
        · rw [if_neg h0, List.singleton_append, takeL, List.find?_cons_of_neg (by simp; omega), takeL]
      rw [e]
      refine ⟨fun x hx => ⟨(ih1 x hx).1, fun a q1 q2 => ?_⟩, fun hx a q1 => ?_⟩
      · by_cases q3 : a ≤ i
        · exact hno (by omega) a q1 q3
        · exact (ih1 x hx).2 a (by omega) q2
      · by_cases q3 : a ≤ i
        · exact hno (by omega) a q1 q3
        · exact ih2 hx a (by omega)
  | false :: r, i, c, hd, hc, hl, ha => by
    obtain ⟨h1, h2, h3⟩ := drop_step hd
    obtain ⟨ih1, ih2⟩ := rn_take hk r h3 (by omega) (by omega) (allB_snoc hc ha h2)
    rw [show i + 1 - (c + 1) = i - c from by omega] at ih1 ih2
    rw [rn]
    exact ⟨ih1, ih2⟩
theorem take_some {L : List Bool} {k : Nat} (hk : 1 ≤ k) {x : Nat × Nat} (h : takeL k (runsL L) = some x) : winP L k x.1 ∧ ∀ a, a < x.1 → ¬ winP L k a := by
  obtain ⟨h1, h2⟩ := (rn_take hk L (i := 0) (c := 0) (L := L) rfl (Nat.le_refl _) (Nat.zero_le _) (allB_zero _ _ _)).1 x h
  exact ⟨h1, fun a => h2 a (Nat.zero_le _)⟩
theorem take_none {L : List Bool} {k : Nat} (hk : 1 ≤ k) (h : takeL k (runsL L) = none) (a : Nat) : ¬ winP L k a :=
  (rn_take hk L (i := 0) (c := 0) (L := L) rfl (Nat.le_refl _) (Nat.zero_le _) (allB_zero _ _ _)).2 h a (Nat.zero_le _)
theorem win_turn {L : List Bool} {k a : Nat} (hk : 1 ≤ k) (h : winP L k a) : turnB L (a : Int) (k : Int) false = true := turnB_iff.2 ⟨by omega, by omega, by have := h.1; omega, by simpa using h.2⟩
/-- What is put and put back is as it was. -/
theorem putB_back {L : List Bool} {a k : Nat} {t : Bool} (h : a + k ≤ L.length) (ha : allB L a k t) (u : Bool) : putB (putB L a k u) a k t = L := by
  apply List.ext_getElem?
  intro i
  rw [putB_get t (by rw [putB_len _ h]; exact h), putB_get u h]
  by_cases h1 : a ≤ i ∧ i < a + k
  · rw [if_pos h1]
    have := ha (i - a) (by omega)
    rw [show a + (i - a) = i from by omega] at this
    exact this.symm
  · rw [if_neg h1, if_neg h1]
theorem putB_all {L : List Bool} {a k : Nat} (t : Bool) (h : a + k ≤ L.length) : allB (putB L a k t) a k t := by
  intro i hi
  rw [putB_get t h, if_pos (by omega)]
end Go.Proofs.Ytpmjkgpmidejoaa.Al

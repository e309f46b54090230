/-
  HttpCuts: the law's walk.
-/
import Derived.Test.YtmodmeabjhaklabGreatDoorRunF
import Derived.Test.YtmodmeabjhaklabGreatDoorRunE
import Derived.Deep.Cut
namespace Go.Proofs.YtmodmeabjhaklabGreatDoor
open Go.RowKit

theorem fld_same {l : List UInt8} {s s' : St} {h : Option Hd} (hf : fldL l s = .ok s' h) : s'.hs = s.hs := by
  unfold fldL at hf
  split at hf
  · cases hf
  · cases hf
  · split at hf
    · simp only [Fl.ok.injEq] at hf
      obtain ⟨rfl, -⟩ := hf
      rfl
    · split at hf
      · cases hf
      · split at hf
        · cases hf
        · simp only [Fl.ok.injEq] at hf
          obtain ⟨rfl, -⟩ := hf
          rfl
theorem step_hs {l : List UInt8} {q q' : Nat} {s s' : St} (ha : s.hs.length ≤ s.at_) (h : stepF l q s = .go q' s') : s'.hs.length ≤ s'.at_ := by
  unfold stepF at h
  split at h
  · split at h
    · cases h
    · cases h
    · split at h
      · cases h
      · simp only [Nx.go.injEq] at h
        obtain ⟨rfl, rfl⟩ := h
        simp only
        omega
  · split at h
    · cases h
    · next s1 hf =>
      have := fld_go hf
      have := fld_same hf
      simp only [Nx.go.injEq] at h
      obtain ⟨rfl, rfl⟩ := h
      rw [this]
      omega
    · next s1 x hf =>
      have := fld_go hf
      have := fld_same hf
      simp only [Nx.go.injEq] at h
      obtain ⟨rfl, rfl⟩ := h
      simp only [this, List.length_append, List.length_cons, List.length_nil]
      omega
  · split at h
    · cases h
    · split at h
      · simp only [Nx.go.injEq] at h
        obtain ⟨rfl, rfl⟩ := h
        exact ha
      · simp only [Nx.go.injEq] at h
        obtain ⟨rfl, rfl⟩ := h
        exact ha
  · split at h <;> cases h
  · split at h
    · cases h
    · cases h
    · split at h
      · cases h
      · split at h
        · cases h
        · split at h
          · simp only [Nx.go.injEq] at h
            obtain ⟨rfl, rfl⟩ := h
            simp only
            omega
          · simp only [Nx.go.injEq] at h
            obtain ⟨rfl, rfl⟩ := h
            simp only
            omega
  · split at h
    · cases h
    · simp only at h
      split at h
      · cases h
      · split at h
        · cases h
        · simp only [Nx.go.injEq] at h
          obtain ⟨rfl, rfl⟩ := h
          simp only [takeL]
          omega
  · split at h
    · cases h
    · cases h
    · next s1 x hf =>
      have := fld_go hf
      have := fld_same hf
      simp only [Nx.go.injEq] at h
      obtain ⟨rfl, rfl⟩ := h
      rw [this]
      omega
  · cases h
/-- What is done has used no more than is there. -/
theorem run_room {l : List UInt8} {u : Nat} {a b : List UInt8} {hs : List Hd} {c : List UInt8} {x y : Bool} : ∀ (n : Nat) {q : Nat} {s : St}, s.at_ ≤ l.length → s.hs.length ≤ s.at_ → runF l n q s = .done u a b hs c x y → u ≤ l.length ∧ hs.length ≤ u
  | 0, _, _, _, _, h => by cases h
  | n + 1, q, s, ha, hb, h => by
    unfold runF at h
    split at h
    · next t ht =>
      subst h
      match q, ht with
      | 0, ht =>
        rw [stepF] at ht
        split at ht
        · cases ht
        · cases ht
        · split at ht <;> cases ht
      | 1, ht =>
        rw [stepF] at ht
        split at ht
        · next t hf =>
          simp only [Nx.fin.injEq] at ht
          subst ht
          rcases fld_not_done hf with h | ⟨_, h⟩ <;> cases h
        · cases ht
        · cases ht
      | 2, ht =>
        rw [stepF] at ht
        split at ht
        · cases ht
        · split at ht <;> cases ht
      | 3, ht =>
        rw [stepF] at ht
        split at ht
        · cases ht
        · simp only [Nx.fin.injEq, doneL, takeL, Tld.done.injEq] at ht
          obtain ⟨h1, -, -, rfl, -⟩ := ht
          omega
      | 4, ht =>
        rw [stepF] at ht
        split at ht
        · cases ht
        · cases ht
        · split at ht
          · cases ht
          · split at ht
            · cases ht
            · split at ht <;> cases ht
      | 5, ht =>
        rw [stepF] at ht
        dsimp only at ht
        split at ht
        · cases ht
        · split at ht
          · cases ht
          · split at ht <;> cases ht
      | 6, ht =>
        rw [stepF] at ht
        split at ht
        · next t hf =>
          simp only [Nx.fin.injEq] at ht
          subst ht
          rcases fld_not_done hf with h | ⟨_, h⟩ <;> cases h
        · next hf =>
          have := fld_go hf
          have := fld_same hf
          simp only [Nx.fin.injEq, doneL, Tld.done.injEq] at ht
          obtain ⟨h1, -, -, rfl, -⟩ := ht
          rw [this]
          omega
        · cases ht
      | n + 7, ht =>
        rw [stepF] at ht
        · cases ht
        all_goals omega
    · next q' s' hs => exact run_room n (step_at ha hs).2.1 (step_hs hb hs) h
theorem parse_room {l : List UInt8} {u : Nat} {a b : List UInt8} {hs : List Hd} {c : List UInt8} {x y : Bool} (h : parseL l = .done u a b hs c x y) : u ≤ l.length ∧ hs.length ≤ u := run_room _ (Nat.zero_le _) (Nat.zero_le _) h
/-- What is told of a beginning, held against what is told of the whole. -/
def CutR (k : Nat) (t s : Tld) : Prop := match t with
  | .more => ∀ u a b hs c x y, s = .done u a b hs c x y → k < u
  | .bad e => s = .bad e
  | .done u a b hs c x y => s = .done u a b hs c x y ∧ u ≤ k ∧ hs.length ≤ u
theorem cut_told (l : List UInt8) (k : Nat) (hk : k ≤ l.length) : CutR k (parseL (l.take k)) (parseL l) := by
  have hl : (l.take k).length = k := by rw [List.length_take]; omega
  cases h : parseL (l.take k) with
  | more =>
    intro u a b hs c x y h2
    have := parse_wait (l.drop k) h (by rw [List.take_append_drop]; exact h2)
    omega
  | bad e =>
    have := parse_more (l.drop k) (by intro h; cases h) h
    rw [List.take_append_drop] at this
    exact this
  | done u a b hs c x y =>
    have h1 := parse_more (l.drop k) (by intro h; cases h) h
    rw [List.take_append_drop] at h1
    have := parse_room h
    exact ⟨h1, by omega, by omega⟩
end Go.Proofs.YtmodmeabjhaklabGreatDoor

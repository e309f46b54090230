/-
  The plain mathematics of CharsBack: escaping loses nothing and tells harmless bytes; pieces put together.
-/
import Derived.Test.YtcdlhcgmjgeacaaDoorUne
import Derived.Test.YtcdlhcgmjgeacaaDoorSplit
namespace Go.Proofs.YtcdlhcgmjgeacaaDoor
open Go.RowKit

theorem hx_ok : ∀ v : Fin 16, hvOk ((hx v.val).toNat : Int) = true ∧ hvN ((hx v.val).toNat : Int) = (v.val : Int) := by decide +kernel
theorem hx_stay : ∀ v : Fin 16, stayB ((hx v.val).toNat : Int) = true := by decide +kernel
theorem stay_not37 {slash : Bool} {c : UInt8} (h : stays slash c = true) : c.toNat ≠ 37 := by
  intro e
  rw [stays, e] at h
  have : stayB ((37 : Nat) : Int) = false := by decide
  rw [this] at h
  simp at h
theorem pv_hx (c : UInt8) : pv (hx (c.toNat / 16)) (hx (c.toNat % 16)) = c := by
  have hc := c.toNat_lt
  have h1 := (hx_ok ⟨c.toNat / 16, by omega⟩).2
  have h2 := (hx_ok ⟨c.toNat % 16, by omega⟩).2
  unfold pv N
  simp only at h1 h2
  rw [h1, h2]
  apply UInt8.toNat_inj.1
  rw [UInt8.toNat_ofNat', Nat.mod_eq_of_lt (by omega)]
  omega
theorem une_esc (slash : Bool) (l : List UInt8) : une (escL slash l) = some l := by
  induction l with
  | nil => rfl
  | cons a r ih =>
    show une (e1 slash a ++ escL slash r) = _
    cases h : stays slash a
    · rw [e1, h, if_neg (by simp)]
      show une (37 :: hx (a.toNat / 16) :: hx (a.toNat % 16) :: escL slash r) = _
      have hc := a.toNat_lt
      have h1 := (hx_ok ⟨a.toNat / 16, by omega⟩).1
      have h2 := (hx_ok ⟨a.toNat % 16, by omega⟩).1
      rw [une, if_pos (show UInt8.toNat 37 = 37 from rfl)]
      unfold N
      simp only at h1 h2
      rw [h1, h2, Bool.and_true, if_pos rfl, ih, pv_hx]
      rfl
    · rw [e1, h, if_pos rfl]
      show une (a :: escL slash r) = _
      rw [une_cons _ _ (stay_not37 h), ih]
      rfl
/-- A byte that escaping may tell. -/
def harm (slash : Bool) (c : UInt8) : Bool := stayB (c.toNat : Int) || (decide (c.toNat = 37) || (slash && decide (c.toNat = 47)))
theorem esc_harm (slash : Bool) (l : List UInt8) : ∀ c ∈ escL slash l, harm slash c = true := by
  intro c hc
  rw [escL, List.mem_flatMap] at hc
  obtain ⟨a, _, ha⟩ := hc
  have hb := a.toNat_lt
  unfold e1 at ha
  split at ha
  · rename_i hs
    simp only [List.mem_singleton] at ha
    subst ha
    rw [stays] at hs
    rw [harm]
    cases h1 : stayB (c.toNat : Int)
    · rw [h1] at hs
      simp at hs ⊢
      exact .inr ⟨hs.1, by omega⟩
    · rfl
  · simp only [List.mem_cons, List.mem_nil_iff, or_false] at ha
    rcases ha with rfl | rfl | rfl
    · cases slash <;> decide
    · rw [harm, hx_stay ⟨a.toNat / 16, by omega⟩]; rfl
    · rw [harm, hx_stay ⟨a.toNat % 16, by omega⟩]; rfl
theorem harm_class {slash : Bool} {c : UInt8} (h : harm slash c = true) :
    (65 ≤ (c.toNat : Int) ∧ (c.toNat : Int) ≤ 90) ∨ (97 ≤ (c.toNat : Int) ∧ (c.toNat : Int) ≤ 122) ∨ (48 ≤ (c.toNat : Int) ∧ (c.toNat : Int) ≤ 57) ∨ (c.toNat : Int) = 45 ∨ (c.toNat : Int) = 46 ∨ (c.toNat : Int) = 95 ∨ (c.toNat : Int) = 126 ∨ (c.toNat : Int) = 37 ∨ (slash = true ∧ (c.toNat : Int) = 47) := by
  unfold harm at h
  simp [stayB, alnB, upB, lodB, digB] at h
  rcases h with h | h | ⟨h1, h2⟩
  · omega
  · omega
  · right; right; right; right; right; right; right; right
    exact ⟨h1, by omega⟩

/-- Pieces put together with c between. -/
def jl (c : UInt8) : List (List UInt8) → List UInt8
  | [] => []
  | x :: xs => x ++ xs.flatMap fun y => c :: y
theorem jl_split (c : UInt8) (l : List UInt8) : jl c (splitL c l) = l := by
  induction l with
  | nil => rfl
  | cons a r ih =>
    cases h : splitL c r with
    | nil => exact absurd h (splitL_ne c r)
    | cons x xs =>
      rw [h] at ih
      rw [splitL, h]
      by_cases e : a = c
      · rw [if_pos e]
        show [] ++ (x :: xs).flatMap (fun y => c :: y) = _
        rw [List.flatMap_cons, List.nil_append]
        show c :: (x ++ xs.flatMap fun y => c :: y) = _
        rw [show x ++ xs.flatMap (fun y => c :: y) = r from ih, e]
      · rw [if_neg e]
        show a :: (x ++ xs.flatMap fun y => c :: y) = _
        rw [show x ++ xs.flatMap (fun y => c :: y) = r from ih]
theorem jl_next {c : UInt8} {M : List (List UInt8)} {k : Nat} (hk : k + 1 < M.length) : jl c (M.take (k + 2)) = jl c (M.take (k + 1)) ++ [c] ++ M[k + 1] := by
  cases M with
  | nil => simp at hk
  | cons x xs =>
    rw [List.take_succ_cons, List.take_succ_cons]
    have hk' : k < xs.length := by simpa using hk
    show x ++ (xs.take (k + 1)).flatMap (fun y => c :: y) = (x ++ (xs.take k).flatMap fun y => c :: y) ++ [c] ++ xs[k]
    rw [List.take_succ_eq_append_getElem hk', List.flatMap_append]
    simp
theorem jl_first {c : UInt8} {M : List (List UInt8)} (hk : 0 < M.length) : jl c (M.take 1) = M[0] := by
  cases M with
  | nil => simp at hk
  | cons x xs => simp [jl]
theorem jl_take_len (c : UInt8) (M : List (List UInt8)) (k : Nat) : (jl c (M.take k)).length ≤ (jl c M).length := by
  cases M with
  | nil => simp
  | cons x xs =>
    cases k with
    | zero => simp [jl]
    | succ k =>
      rw [List.take_succ_cons]
      show (x ++ (xs.take k).flatMap fun y => c :: y).length ≤ (x ++ xs.flatMap fun y => c :: y).length
      rw [List.length_append, List.length_append]
      have : ((xs.take k).flatMap fun y => c :: y).length ≤ (xs.flatMap fun y => c :: y).length := by
        conv => rhs; rw [← List.take_append_drop k xs, List.flatMap_append, List.length_append]
        omega
      omega
end Go.Proofs.YtcdlhcgmjgeacaaDoor

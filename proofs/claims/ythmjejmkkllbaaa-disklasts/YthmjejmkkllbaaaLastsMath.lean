/-
  What lasts: the plain side.
-/
import Derived.Test.YthmjejmkkllbaaaOwn
namespace Go.Proofs.Ythmjejmkkllbaaa
open Go.RowKit

def secT (a b : Int) : ByteArray := ⟨(sec a b).toArray⟩
theorem secT_size (a b : Int) : (secT a b).size = 256 := by rw [← sec_length a b]; simp [secT, ByteArray.size]
def cf (p q : Int) (l : List Int) (k : Nat) : List (Nat × ByteArray) := (List.range k).map fun i => ((l.getD i 0 % 8).toNat, secT p ((i : Int) + q))
theorem cf_succ (p q : Int) (l : List Int) (k : Nat) : cf p q l (k + 1) = cf p q l k ++ [((l.getD k 0 % 8).toNat, secT p ((k : Int) + q))] := by simp [cf, List.range_succ]
theorem cf_length (p q : Int) (l : List Int) (k : Nat) : (cf p q l k).length = k := by simp [cf]
theorem cf_zero (p q : Int) (l : List Int) : cf p q l 0 = [] := rfl

/-- A device without a fuse. -/
def MW (L : List ByteArray) (C : List (Nat × ByteArray)) : D := { L := L, S := app L C, C := C, st := 0, k := 0 }
theorem MW_wr {L : List ByteArray} (C : List (Nat × ByteArray)) (hL : L.length = 8) (v p q : Int) : (MW L C).wr (v % 8) (secT p q) = (0, MW L (C ++ [((v % 8).toNat, secT p q)])) := by
  rw [wr_unfused rfl (v % 8) _ (by omega) (by show v % 8 < ((app L C).length : Int); rw [app_length]; omega) (secT_size _ _)]
  simp only [MW, app_snoc]
theorem MW_flush (L : List ByteArray) (C : List (Nat × ByteArray)) : (MW L C).flush = (0, MW (app L C) []) := by
  rw [flush_unfused rfl]
  rfl
theorem MW_crash (L : List ByteArray) (C : List (Nat × ByteArray)) (keep : List Bool) : (MW L C).crash keep = MW (app L (kept keep C)) [] := rfl
theorem MW_new : D.new 8 blank = MW (List.replicate 8 blank) [] := rfl

def lastF (l : List Int) : Nat → List Nat
  | 0 => List.replicate 8 0
  | k + 1 => (lastF l k).set (l.getD k 0 % 8).toNat (k + 1)
theorem lastF_length (l : List Int) : ∀ k, (lastF l k).length = 8
  | 0 => by rw [lastF, List.length_replicate]
  | k + 1 => by rw [lastF, List.length_set, lastF_length l k]
theorem lastF_le (l : List Int) : ∀ k, ∀ x ∈ lastF l k, x ≤ k
  | 0 => by intro x hx; rw [lastF] at hx; have := List.eq_of_mem_replicate hx; omega
  | k + 1 => by
    intro x hx
    rw [lastF] at hx
    rcases List.mem_or_eq_of_mem_set hx with h | h
    · have := lastF_le l k x h; omega
    · omega
def oldOf (j : Nat) : ByteArray := if j = 0 then blank else secT 1 (j : Int)
theorem oldOf_size (j : Nat) : (oldOf j).size = 256 := by
  unfold oldOf
  split
  · exact blank_size
  · exact secT_size _ _
theorem app_last (l : List Int) : ∀ k, app (List.replicate 8 blank) (cf 1 1 l k) = (lastF l k).map oldOf
  | 0 => by rw [cf_zero, lastF, List.map_replicate]; rfl
  | k + 1 => by
    rw [cf_succ, app_snoc, app_last l k, lastF, List.map_set]
    congr 1

theorem app_or (C : List (Nat × ByteArray)) : ∀ (L : List ByteArray) (s : Nat), (app L C)[s]? = L[s]? ∨ ∃ p ∈ C, p.1 = s ∧ (app L C)[s]? = some p.2 := by
  induction C with
  | nil => intro L s; exact .inl rfl
  | cons p C ih =>
    intro L s
    have e : app L (p :: C) = app (L.set p.1 p.2) C := rfl
    rw [e]
    rcases ih (L.set p.1 p.2) s with h | ⟨q, hq, h1, h2⟩
    · rw [h]
      by_cases hs : p.1 = s
      · by_cases hlt : s < L.length
        · right
          refine ⟨p, List.mem_cons_self, hs, ?_⟩
          rw [hs, List.getElem?_set_self hlt]
        · left
          rw [List.getElem?_eq_none (by simp; omega), List.getElem?_eq_none (by omega)]
      · left
        rw [List.getElem?_set_ne hs]
    · exact .inr ⟨q, List.mem_cons_of_mem _ hq, h1, h2⟩
theorem mem_kept {keep : List Bool} {C : List (Nat × ByteArray)} {p : Nat × ByteArray} (h : p ∈ kept keep C) : ∃ i, C[i]? = some p ∧ keep.getD i false = true := by
  simp only [kept, List.mem_map, List.mem_filter] at h
  obtain ⟨⟨q, i⟩, ⟨h1, h2⟩, rfl⟩ := h
  refine ⟨i, ?_, h2⟩
  have := List.mem_zipIdx_iff_getElem?.1 h1
  simpa using this

def hitB (x : ByteArray) (l : List Int) (keep : List Bool) (s i : Nat) : Bool := (decide (l.getD i 0 % 8 = (s : Int)) && keep.getD i false) && decide (x = secT 2 (i : Int))
def okB (x old : ByteArray) (l : List Int) (keep : List Bool) (s : Nat) : Nat → Bool
  | 0 => decide (x = old)
  | k + 1 => okB x old l keep s k || hitB x l keep s k
theorem okB_old {x old : ByteArray} (h : x = old) (l : List Int) (keep : List Bool) (s : Nat) : ∀ m, okB x old l keep s m = true
  | 0 => decide_eq_true h
  | m + 1 => by rw [okB, okB_old h l keep s m]; rfl
theorem okB_some {x old : ByteArray} {l : List Int} {keep : List Bool} {s i : Nat} (h : hitB x l keep s i = true) : ∀ m, i < m → okB x old l keep s m = true
  | 0 => by intro h0; omega
  | m + 1 => by
    intro h0
    rw [okB]
    by_cases e : i = m
    · subst e; rw [h, Bool.or_true]
    · rw [okB_some h m (by omega)]; rfl
/-- Each sector is what it was, or a kept write since. -/
theorem okB_full {f l : List Int} {keep : List Bool} {n m s : Nat} {x : ByteArray} (hs : s < 8) (hx : (app ((lastF f n).map oldOf) (kept keep (cf 2 0 l m)))[s]? = some x) : okB x (oldOf ((lastF f n).getD s 0)) l keep s m = true := by
  have hl := lastF_length f n
  rcases app_or (kept keep (cf 2 0 l m)) ((lastF f n).map oldOf) s with h | ⟨p, hp, h1, h2⟩
  · refine okB_old ?_ l keep s m
    rw [h, List.getElem?_map, List.getElem?_eq_getElem (by omega)] at hx
    simp only [Option.map_some, Option.some.injEq] at hx
    rw [← hx, List.getD_eq_getElem?_getD, List.getElem?_eq_getElem (by omega)]
    rfl
  · obtain ⟨i, hi, hk⟩ := mem_kept hp
    have hlt : i < m := by
      have := (List.getElem?_eq_some_iff.1 hi).1
      rw [cf_length] at this
      exact this
    rw [h2] at hx
    simp only [Option.some.injEq] at hx
    rw [cf, List.getElem?_map, List.getElem?_range hlt] at hi
    simp only [Option.map_some, Option.some.injEq] at hi
    subst hi
    refine okB_some ?_ m hlt
    simp only at h1
    rw [hitB, hk, decide_eq_true (by omega : l.getD i 0 % 8 = (s : Int)), decide_eq_true (by rw [← hx]; simp : x = secT 2 (i : Int))]
    rfl
end Go.Proofs.Ythmjejmkkllbaaa

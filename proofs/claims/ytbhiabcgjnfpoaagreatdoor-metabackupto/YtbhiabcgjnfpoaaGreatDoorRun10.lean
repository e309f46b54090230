/-
  'awake' of the statements' package by its contract: it answers true and turns nothing that was there.
-/
import Derived.Test.YtbhiabcgjnfpoaaGreatDoorRun08
import Derived.Test.YtbhiabcgjnfpoaaGreatDoorRun09
namespace Go.Proofs.YtbhiabcgjnfpoaaGreatDoor
open Go.RowKit

theorem step_below {B : Nat} {w w1 w2 : World} (h : Below B w w1) (hb : Below w1.heap.size w1 w2) (hB : B ≤ w.heap.size) : Below B w w2 :=
  h.trans (hb.mono (by have := h.size; omega))

theorem bucket_1 (w : World) (hm : Mx w) : Calls Tryz.prog 114 #[.string ⟨#[97, 46, 98]⟩] w fun e w' => e = .returned (.bool true) ∧ Below w.heap.size w w' := by
  refine (bucket_any ⟨#[97, 46, 98]⟩ w (by decide) hm).mono ?_
  rintro e w' ⟨rfl, hb⟩
  have e1 : bucketB [97, 46, 98] = true := by decide +kernel
  exact ⟨ret_bool e1, hb⟩
theorem bucket_2 (w : World) (hm : Mx w) : Calls Tryz.prog 114 #[.string ⟨#[97, 46, 46, 98]⟩] w fun e w' => e = .returned (.bool false) ∧ Below w.heap.size w w' := by
  refine (bucket_any ⟨#[97, 46, 46, 98]⟩ w (by decide) hm).mono ?_
  rintro e w' ⟨rfl, hb⟩
  have e1 : bucketB [97, 46, 46, 98] = false := by decide +kernel
  exact ⟨ret_bool e1, hb⟩
theorem split_1 (w : World) (hm : Mx w) : Calls Tryz.prog 137 #[.string ⟨#[97, 44, 98]⟩, .int .u8 44] w fun e w' => ∃ g, e = .returned (.slice (some ⟨g, 0, none⟩) 2 2) ∧ Below w.heap.size w w' := by
  refine (split_any ⟨#[97, 44, 98]⟩ 44 w (by decide) hm).mono ?_
  rintro e w' ⟨g, rfl, _, hb⟩
  have e1 : (splitS 44 ⟨#[97, 44, 98]⟩).length = 2 := by rw [splitS, List.length_map]; decide +kernel
  exact ⟨g, by rw [e1], hb⟩

end Go.Proofs.YtbhiabcgjnfpoaaGreatDoor
/-
  The document's Bucket by its contract; the walk of the statement CharsNames.
-/
namespace Go.Proofs.YtbhiabcgjnfpoaaGreatDoor
open Go.RowKit

def dbl : List UInt8 → Bool
  | a :: b :: r => (decide (a.toNat = 46) && decide (b.toNat = 46)) || dbl (b :: r)
  | _ => false
theorem contains_cons (a : UInt8) (l sub : List UInt8) : Lib.contains (a :: l) sub = (sub.isPrefixOf (a :: l) || Lib.contains l sub) := by
  unfold Lib.contains
  have h := Lib.index_ge l sub
  rw [Lib.index]
  cases hp : sub.isPrefixOf (a :: l)
  · rw [if_neg (by simp)]
    by_cases e : Lib.index l sub = -1
    · rw [if_pos (by simp [e]), e]; rfl
    · rw [if_neg (by simp [e]), Bool.eq_iff_iff]
      simp
      omega
  · rw [if_pos rfl]; rfl
theorem eq46 (a : UInt8) : ((46 : UInt8) == a) = decide (a.toNat = 46) := by
  rw [Bool.eq_iff_iff]
  simp only [beq_iff_eq, decide_eq_true_eq]
  exact ⟨fun h => by rw [← h]; rfl, fun h => UInt8.toNat_inj.1 (by rw [h]; rfl)⟩
theorem contains_dbl : ∀ l : List UInt8, Lib.contains l [46, 46] = dbl l
  | [] => rfl
  | [a] => by rw [contains_cons]; simp [List.isPrefixOf, dbl]; rfl
  | a :: b :: r => by
    rw [contains_cons, contains_dbl (b :: r), dbl]
    congr 1
    show ((46 : UInt8) == a && ((46 : UInt8) == b && true)) = _
    rw [eq46, eq46, Bool.and_true]
theorem at0_zero (a : UInt8) (l : List UInt8) : at0 (a :: l) 0 = a.toNat := rfl
theorem at0_succ (a : UInt8) (l : List UInt8) (k : Nat) : at0 (a :: l) (k + 1) = at0 l k := rfl
theorem dbl_no : ∀ l : List UInt8, dbl l = false ↔ ∀ i, i + 1 < l.length → ¬ (at0 l i = 46 ∧ at0 l (i + 1) = 46)
  | [] => by simp [dbl]
  | [a] => by simp [dbl]
  | a :: b :: r => by
    rw [dbl, Bool.or_eq_false_iff, dbl_no (b :: r)]
    constructor
    · rintro ⟨h1, h2⟩ i hi
      match i with
      | 0 =>
        rw [at0_zero, at0_succ, at0_zero]
        simpa using h1
      | i + 1 =>
        have := h2 i (by simpa using hi)
        rw [at0_succ, at0_succ]
        exact this
    · intro h
      constructor
      · have := h 0 (by simp)
        rw [at0_zero, at0_succ, at0_zero] at this
        simpa using this
      · intro i hi
        have := h (i + 1) (by simpa using hi)
        rw [at0_succ, at0_succ] at this
        exact this
/-- A place that the document's loop passes. -/
def okAt (l : List UInt8) (i : Nat) : Prop := lodB (at0 l i : Nat) = true ∨ ((at0 l i = 45 ∨ at0 l i = 46) ∧ i ≠ 0 ∧ i ≠ l.length - 1 ∧ ¬ (at0 l i = 46 ∧ at0 l (i - 1) = 46))
theorem lod_46 : lodB ((46 : Nat) : Int) = false := by decide
theorem lod_45 : lodB ((45 : Nat) : Int) = false := by decide
theorem allB_at (p : Int → Bool) (l : List UInt8) : allB p l = true ↔ ∀ i, i < l.length → p (at0 l i : Nat) = true := by
  have e : ∀ i (h : i < l.length), at0 l i = l[i].toNat := fun i h => by
    unfold at0
    rw [List.getD_eq_getElem?_getD, List.getElem?_eq_getElem h]
    rfl
  constructor
  · intro h i hi
    rw [allB, List.all_eq_true] at h
    rw [e i hi]
    exact h _ (List.getElem_mem hi)
  · intro h
    exact allB_yes fun j hj => by
      have := h j hj
      rw [e j hj] at this
      exact this
theorem ok_all (l : List UInt8) (h3 : 3 ≤ l.length) : (∀ i, i < l.length → okAt l i) ↔ (allB bukB l = true ∧ lodB (at0 l 0 : Nat) = true ∧ lodB (at0 l (l.length - 1) : Nat) = true ∧ dbl l = false) := by
  rw [allB_at, dbl_no]
  constructor
  · intro h
    refine ⟨fun i hi => ?_, ?_, ?_, fun i hi hd => ?_⟩
    · rcases h i hi with h | ⟨h | h, _⟩
      · simp [bukB, h]
      · rw [h]; decide
      · rw [h]; decide
    · rcases h 0 (by omega) with h | ⟨_, h, _⟩
      · exact h
      · exact absurd rfl h
    · rcases h (l.length - 1) (by omega) with h | ⟨_, _, h, _⟩
      · exact h
      · exact absurd rfl h
    · rcases h (i + 1) hi with h | ⟨_, _, _, h⟩
      · rw [hd.2, lod_46] at h
        cases h
      · exact h ⟨hd.2, hd.1⟩
  · rintro ⟨h1, h2, h4, h5⟩ i hi
    have hb := h1 i hi
    by_cases hl : lodB (at0 l i : Nat) = true
    · exact .inl hl
    · right
      have hb' : at0 l i = 45 ∨ at0 l i = 46 := by
        simp only [bukB, Bool.or_eq_true, decide_eq_true_eq] at hb
        rcases hb with (hb | hb) | hb
        · exact absurd hb hl
        · exact .inl (by omega)
        · exact .inr (by omega)
      refine ⟨hb', fun e => hl (by rw [e]; exact h2), fun e => hl (by rw [e]; exact h4), fun hd => ?_⟩
      have hi0 : i ≠ 0 := fun e => hl (by rw [e]; exact h2)
      have := h5 (i - 1) (by omega)
      rw [show i - 1 + 1 = i from by omega] at this
      exact this ⟨hd.2, hd.1⟩
/-- No piece but perhaps the first is empty. -/
theorem tail_full : ∀ l : List UInt8, dbl l = false → (l = [] ∨ at0 l (l.length - 1) ≠ 46) → ∀ x ∈ (splitL 46 l).tail, x ≠ []
  | [], _, _ => by simp [splitL]
  | a :: r, hd, hl => by
    have hd' : dbl r = false := by
      cases r with
      | nil => rfl
      | cons b r' => rw [dbl, Bool.or_eq_false_iff] at hd; exact hd.2
    have hl' : r = [] ∨ at0 r (r.length - 1) ≠ 46 := by
      cases r with
      | nil => exact .inl rfl
      | cons b r' =>
        right
        rcases hl with h | h
        · simp at h
        · simpa [at0] using h
    have ih := tail_full r hd' hl'
    by_cases e : a = 46
    · rw [splitL, if_pos e]
      simp only [List.tail_cons]
      cases r with
      | nil =>
        rcases hl with h | h
        · simp at h
        · subst e; exact absurd rfl h
      | cons b r' =>
        have hb : b ≠ 46 := by
          intro hb
          subst e hb
          simp [dbl] at hd
        rw [splitL, if_neg hb] at ih ⊢
        cases hs : splitL 46 r' with
        | nil => exact absurd hs (splitL_ne _ _)
        | cons x xs =>
          rw [hs] at ih
          intro y hy
          rcases List.mem_cons.1 hy with rfl | hy
          · simp
          · exact ih y hy
    · rw [splitL, if_neg e]
      cases hs : splitL 46 r with
      | nil => exact absurd hs (splitL_ne _ _)
      | cons x xs => rw [hs] at ih; exact ih
theorem all_full (l : List UInt8) (h0 : l ≠ []) (h1 : at0 l 0 ≠ 46) (h2 : at0 l (l.length - 1) ≠ 46) (hd : dbl l = false) : ∀ x ∈ splitL 46 l, x ≠ [] := by
  have ht := tail_full l hd (.inr h2)
  cases l with
  | nil => exact absurd rfl h0
  | cons a r =>
    have e : a ≠ 46 := fun e => h1 (by subst e; rfl)
    rw [splitL, if_neg e] at ht ⊢
    cases hs : splitL 46 r with
    | nil => exact absurd hs (splitL_ne _ _)
    | cons x xs =>
      rw [hs] at ht
      intro y hy
      rcases List.mem_cons.1 hy with rfl | hy
      · simp
      · exact ht y hy
theorem addr_digs (l : List UInt8) (h : ∀ x ∈ splitL 46 l, x ≠ []) : addrB l = (decide ((splitL 46 l).length = 4) && (splitL 46 l).all digsB) := by
  rw [addrB]
  congr 1
  rw [Bool.eq_iff_iff, List.all_eq_true, List.all_eq_true]
  constructor
  · intro hh x hx
    rw [digsB, hh x hx]
    have := List.length_pos_iff.2 (h x hx)
    simpa using this
  · intro hh x hx
    have := hh x hx
    rw [digsB, Bool.and_eq_true] at this
    exact this.1
theorem bucket_no_len {l : List UInt8} (h : lenB l = false) : bucketB l = false := by rw [bucketB, h]; rfl
theorem bucket_no_at {l : List UInt8} (h3 : 3 ≤ l.length) {k : Nat} (hk : k < l.length) (h : ¬ okAt l k) : bucketB l = false := by
  by_cases hb : bucketB l = true
  · exfalso
    rw [bucketB] at hb
    simp only [Bool.and_eq_true, Bool.not_eq_true'] at hb
    obtain ⟨_, a1, a2, a3, a4, _⟩ := hb
    rw [contains_dbl] at a4
    exact h ((ok_all l h3).2 ⟨a1, a2, a3, a4⟩ k hk)
  · simpa using hb
theorem bucket_yes {l : List UInt8} (h3 : 3 ≤ l.length) (h63 : l.length ≤ 63) (h : ∀ i, i < l.length → okAt l i) : bucketB l = !(decide ((splitL 46 l).length = 4) && (splitL 46 l).all digsB) := by
  obtain ⟨a1, a2, a3, a4⟩ := (ok_all l h3).1 h
  have hne : l ≠ [] := by intro e; subst e; simp at h3
  have f1 : at0 l 0 ≠ 46 := fun e => by rw [e, lod_46] at a2; cases a2
  have f2 : at0 l (l.length - 1) ≠ 46 := fun e => by rw [e, lod_46] at a3; cases a3
  have e1 : lenB l = true := by rw [lenB]; simp [h3, h63]
  rw [bucketB, e1, a1, a2, a3, contains_dbl, a4, addr_digs l (all_full l hne f1 f2 a4)]
  simp
theorem okAt_s {s : ByteArray} {k : Nat} (h : k < s.size) : okAt s.data.toList k ↔ (lodB (s[k].toNat : Int) = true ∨ (((s[k].toNat : Int) = 45 ∨ (s[k].toNat : Int) = 46) ∧ k ≠ 0 ∧ k ≠ s.size - 1 ∧ ¬ ((s[k].toNat : Int) = 46 ∧ at0 s.data.toList (k - 1) = 46))) := by
  have hL : s.data.toList.length = s.size := by simp
  have e := at0_s h
  unfold okAt
  rw [hL, e]
  constructor <;> rintro (h | ⟨h1, h2, h3, h4⟩)
  · exact .inl h
  · exact .inr ⟨by omega, h2, h3, by omega⟩
  · exact .inl h
  · exact .inr ⟨by omega, h2, h3, by omega⟩
end Go.Proofs.YtbhiabcgjnfpoaaGreatDoor

/-
  What a key of the map names: mathematics, without a walk.
-/
import Derived.Test.YtaagnckppdaljaaDoorKeyA
import Derived.Test.YtaagnckppdaljaaDoorNames
namespace Go.Proofs.YtaagnckppdaljaaDoor
open Go.RowKit

/-- What a key of that kind names. -/
def NK (c : UInt8) (s b k : List UInt8) (n : Nat) : Prop := s = nk c b k n ∧ bucketB b = true ∧ keyB k = true ∧ n ≤ 9223372036854775807

theorem key_nz {k : List UInt8} (h : keyB k = true) : nz k := by
  unfold keyB at h
  rw [key_math k.length k (Nat.le_refl _)] at h
  simp only [Bool.and_eq_true, Bool.not_eq_true'] at h
  intro hm
  have := h.2.2
  rw [← Bool.not_eq_true] at this
  exact this (by
    unfold inL
    rw [List.any_eq_true]
    exact ⟨0, hm, by simp⟩)
theorem buk_zero : bukB ((0 : UInt8).toNat : Int) = false := by decide
theorem bucket_nz {b : List UInt8} (h : bucketB b = true) : nz b := by
  unfold bucketB at h
  simp only [Bool.and_eq_true] at h
  have h2 := h.2.1
  intro hm
  unfold allB at h2
  rw [List.all_eq_true] at h2
  have := h2 0 hm
  rw [show bukB (((0 : UInt8).toNat : Nat) : Int) = false from buk_zero] at this
  cases this

theorem nk_inj {c : UInt8} {a k b l : List UInt8} {n m : Nat} (hb : nz b) (hl : nz l) (hn : n ≤ 9223372036854775807) (hm : m ≤ 9223372036854775807) (h : nk c a k n = nk c b l m) : a = b ∧ k = l ∧ n = m := by
  unfold nk at h
  rw [List.cons.injEq] at h
  have h2 : (a ++ 0 :: k) ++ 0 :: En.be n 8 = (b ++ 0 :: l) ++ 0 :: En.be m 8 := by simpa using h.2
  obtain ⟨e1, e2⟩ := append_len h2 (by simp [En.be_length])
  rw [List.cons.injEq] at e2
  obtain ⟨e3, e4⟩ := part_nz a b k l hb hl e1
  exact ⟨e3, e4, be_inj (by omega) (by omega) e2.2⟩

theorem NK.unique {c : UInt8} {s b k b' k' : List UInt8} {n n' : Nat} (h : NK c s b k n) (h' : NK c s b' k' n') : b = b' ∧ k = k' ∧ n = n' :=
  nk_inj (bucket_nz h'.2.1) (key_nz h'.2.2.1) h.2.2.2 h'.2.2.2 (h.1.symm.trans h'.1)

open Classical in
/-- What parsing tells. -/
noncomputable def pn (c : UInt8) (s : List UInt8) : Option (List UInt8 × List UInt8 × Nat) :=
  if h : ∃ r : List UInt8 × List UInt8 × Nat, NK c s r.1 r.2.1 r.2.2 then some h.choose else none
theorem pn_yes {c : UInt8} {s b k : List UInt8} {n : Nat} (h : NK c s b k n) : pn c s = some (b, k, n) := by
  have hx : ∃ r : List UInt8 × List UInt8 × Nat, NK c s r.1 r.2.1 r.2.2 := ⟨(b, k, n), h⟩
  unfold pn
  rw [dif_pos hx]
  obtain ⟨e1, e2, e3⟩ := NK.unique hx.choose_spec h
  rw [show hx.choose = (b, k, n) from Prod.ext e1 (Prod.ext e2 e3)]
theorem pn_no {c : UInt8} {s : List UInt8} (h : ∀ b k n, ¬ NK c s b k n) : pn c s = none := by
  unfold pn
  rw [dif_neg]
  rintro ⟨r, hr⟩
  exact h _ _ _ hr
theorem pn_some {c : UInt8} {s : List UInt8} {r : List UInt8 × List UInt8 × Nat} (h : pn c s = some r) : NK c s r.1 r.2.1 r.2.2 := by
  unfold pn at h
  split at h
  · next hx =>
    rw [Option.some.injEq] at h
    rw [← h]
    exact hx.choose_spec
  · cases h
theorem pn_none {c : UInt8} {s : List UInt8} (h : pn c s = none) : ∀ b k n, ¬ NK c s b k n := fun b k n hk => by
  rw [pn_yes hk] at h
  cases h
theorem pn_head {c d : UInt8} {s : List UInt8} (h : (pn c (d :: s)).isSome = true) : c = d := by
  cases e : pn c (d :: s) with
  | none => rw [e] at h; cases h
  | some r =>
    have := (pn_some e).1
    unfold nk at this
    rw [List.cons.injEq] at this
    exact this.1.symm

end Go.Proofs.YtaagnckppdaljaaDoor

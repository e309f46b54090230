/-
  Legal texts: one that is followed by a sign of ASCII.
-/
import Derived.Test.YtohkocknpmnakabGreatDoorCount
namespace Go.Proofs.YtohkocknpmnakabGreatDoor

theorem dec_bad (n m b0 b1 b2 b3 c1 c2 c3 : Nat) (hn : 1 ≤ n) (hm : n < m) (h1 : 1 < n → c1 = b1) (h2 : 2 < n → c2 = b2) (h3 : 3 < n → c3 = b3) (k1 : n = 1 → c1 < 128) (k2 : n = 2 → c2 < 128) (k3 : n = 3 → c3 < 128)
    (hb : (Lib.decodeN n b0 b1 b2 b3).1 = 65533 ∧ (Lib.decodeN n b0 b1 b2 b3).2 = 1) : (Lib.decodeN m b0 c1 c2 c3).1 = 65533 ∧ (Lib.decodeN m b0 c1 c2 c3).2 = 1 := by
  by_cases hb3 : 3 < n
  · obtain rfl := h1 (by omega)
    obtain rfl := h2 (by omega)
    obtain rfl := h3 hb3
    have e : Lib.decodeN m b0 c1 c2 c3 = Lib.decodeN n b0 c1 c2 c3 := by
      have a1 : 1 < n := by omega
      have a2 : 2 < n := by omega
      have a3 : 1 < m := by omega
      have a4 : 2 < m := by omega
      have a5 : 3 < m := by omega
      unfold Lib.decodeN
      simp only [hb3, a1, a2, a3, a4, a5, true_and]
    rw [e]
    exact hb
  · have hn3 : n = 1 ∨ n = 2 ∨ n = 3 := by omega
    have hd : ∀ x : Nat, x < 128 → ¬ x / 64 = 2 := fun x hx => by omega
    rcases hn3 with rfl | rfl | rfl
    · have q1 := hd _ (k1 rfl)
      unfold Lib.decodeN at hb ⊢
      simp only [q1, and_false, false_and, if_false] at hb ⊢
      (repeat' split at hb) <;> (repeat' split) <;> simp_all <;> omega
    · obtain rfl := h1 (by omega)
      have q2 := hd _ (k2 rfl)
      unfold Lib.decodeN at hb ⊢
      simp only [q2, and_false, false_and, if_false] at hb ⊢
      (repeat' split at hb) <;> (repeat' split) <;> simp_all <;> omega
    · obtain rfl := h1 (by omega)
      obtain rfl := h2 (by omega)
      have q3 := hd _ (k3 rfl)
      unfold Lib.decodeN at hb ⊢
      simp only [q3, and_false, if_false] at hb ⊢
      (repeat' split at hb) <;> (repeat' split) <;> simp_all <;> omega
theorem at0_left {l x : List UInt8} {k : Nat} (h : k < l.length) : at0 (l ++ x) k = at0 l k := by
  unfold at0
  rw [List.getD_eq_getElem?_getD, List.getD_eq_getElem?_getD, List.getElem?_append_left h]
theorem at0_mid {l m : List UInt8} {c : UInt8} : at0 (l ++ c :: m) l.length = c.toNat := by
  unfold at0
  rw [List.getD_eq_getElem?_getD, List.getElem?_append_right (Nat.le_refl _), Nat.sub_self]
  rfl
theorem step_badA {l m : List UInt8} {c : UInt8} (hl : l ≠ []) (hc : c.toNat < 128) (hb : (stepL l).2 = 0) : (stepL (l ++ c :: m)).2 = 0 := by
  have hpos := List.length_pos_iff.2 hl
  have hd : (decL l).1 = 65533 ∧ (decL l).2 = 1 := by
    unfold stepL at hb
    split at hb
    · next h => exact h
    · have := (dec_width l.length (at0 l 0) (at0 l 1) (at0 l 2) (at0 l 3) hpos).1
      unfold decL at hb
      omega
  have hd2 : (decL (l ++ c :: m)).1 = 65533 ∧ (decL (l ++ c :: m)).2 = 1 := by
    unfold decL at hd ⊢
    rw [at0_left (x := c :: m) hpos]
    exact dec_bad l.length _ _ (at0 l 1) (at0 l 2) (at0 l 3) _ _ _ hpos (by simp) (fun h => at0_left h) (fun h => at0_left h) (fun h => at0_left h) (fun h => by have e := at0_mid (l := l) (m := m) (c := c); rw [h] at e; omega) (fun h => by have e := at0_mid (l := l) (m := m) (c := c); rw [h] at e; omega) (fun h => by have e := at0_mid (l := l) (m := m) (c := c); rw [h] at e; omega) hd
  unfold stepL
  rw [if_pos hd2]
theorem cnt_none (p : Nat → Bool) : ∀ (n : Nat) (l : List UInt8), l.length ≤ n → cntP (fun _ => true) l = none → cntP p l = none ∧ ∀ (m : List UInt8) (c : UInt8), c.toNat < 128 → cntP p (l ++ c :: m) = none
  | n, [], _, h => by rw [cntP_nil] at h; cases h
  | 0, c :: l, h, _ => by simp at h
  | n + 1, d :: l', hn, h => by
    have hl : d :: l' ≠ [] := by simp
    generalize hL : d :: l' = l at *
    by_cases hb : (stepL l).2 = 0
    · exact ⟨cntP_bad hl hb, fun m c hc => cntP_bad (by simp) (step_badA hl hc hb)⟩
    · have hw := step_le l hl
      rw [cntP_go hl hb rfl] at h
      have hdn : cntP (fun _ => true) (l.drop (stepL l).2) = none := by
        cases hh : cntP (fun _ => true) (l.drop (stepL l).2) with
        | none => rfl
        | some a => rw [hh] at h; cases h
      have ih := cnt_none p n (l.drop (stepL l).2) (by simp only [List.length_drop]; omega) hdn
      constructor
      · rw [cntP_step p l hl, ih.1]
        split <;> rfl
      · intro m c hc
        have hst := step_append (c :: m) hl hb
        have hdr : (l ++ c :: m).drop (stepL l).2 = l.drop (stepL l).2 ++ c :: m := List.drop_append_of_le_length hw.1
        rw [cntP_step p (l ++ c :: m) (by simp), hst, hdr, ih.2 m c hc]
        split <;> rfl
/-- A text and what follows it, where that begins with a sign of ASCII. -/
theorem legal_app (p : Nat → Bool) (l m : List UInt8) (c : UInt8) (hc : c.toNat < 128) : (cntP p (l ++ c :: m)).isSome = ((cntP p l).isSome && (cntP p (c :: m)).isSome) := by
  cases h : cntP (fun _ => true) l with
  | some a => exact (cntP_append p l.length l (c :: m) a (Nat.le_refl _) h).1
  | none =>
    have hh := cnt_none p l.length l (Nat.le_refl _) h
    rw [hh.1, hh.2 m c hc]
    rfl
end Go.Proofs.YtohkocknpmnakabGreatDoor

/-
  The plain mathematics of what stands in a text, out of the texts on the document's reader.
-/
import Derived.Test.YtohkocknpmnakabGreatDoorEle
namespace Go.Proofs.YtohkocknpmnakabGreatDoor

theorem skp_cons {c : UInt8} {r : List UInt8} (h : wsB c = true) : skp (c :: r) = skp r := by
  unfold skp
  rw [List.dropWhile_cons_of_pos h]
theorem skp_stop {c : UInt8} {r : List UInt8} (h : wsB c = false) : skp (c :: r) = c :: r := by
  unfold skp
  rw [List.dropWhile_cons_of_neg (by rw [h]; decide)]
theorem let_inn {c : UInt8} (h : letB c = true) : innB c = true := by
  have h' : letZ (c.toNat : Int) = true := h
  show innZ (c.toNat : Int) = true
  simp only [letZ, innZ, decide_eq_true_eq, Bool.or_eq_true] at h' ⊢
  omega
theorem nm_let {c : UInt8} {r : List UInt8} (h : letB c = true) : nmL (c :: r) = (c :: r).takeWhile innB := by
  simp only [nmL, h, if_true]
  rw [List.takeWhile_cons_of_pos (let_inn h)]
theorem nm_no {c : UInt8} {r : List UInt8} (h : letB c = false) : nmL (c :: r) = [] := by
  simp [nmL, h]
theorem ats_stop {g : Nat} {l : List UInt8} (h : nmL (skp l) = []) : atsF (g + 1) l = some (skp l) := by
  simp only [atsF]
  rw [if_neg (by simp [h])]
theorem ats_tight {g : Nat} {l : List UInt8} (h : ¬ (skp l).length < l.length) : atsF (g + 1) l = some (skp l) := by
  simp only [atsF]
  rw [if_neg (by simp [h])]
theorem ats_go {g : Nat} {l : List UInt8} (h : (skp l).length < l.length) (hn : nmL (skp l) ≠ []) : atsF (g + 1) l = (atrL (skp l)).bind (atsF g) := by
  simp only [atsF]
  rw [if_pos ⟨h, hn⟩]
theorem take_app {f : UInt8 → Bool} : ∀ {x y : List UInt8}, x.takeWhile f = x → (x ++ y).takeWhile f = x ++ y.takeWhile f
  | [], _, _ => rfl
  | c :: r, y, h => by
    by_cases hc : f c = true
    · rw [List.takeWhile_cons_of_pos hc] at h
      injection h with _ h
      rw [List.cons_append, List.takeWhile_cons_of_pos hc, take_app h]
      rfl
    · rw [List.takeWhile_cons_of_neg hc] at h
      cases h
theorem nm_app {n b : List UInt8} (hn : nmL n = n) (h0 : n ≠ []) : nmL (n ++ b) = n ++ b.takeWhile innB := by
  cases n with
  | nil => exact absurd rfl h0
  | cons c r =>
    cases h : letB c with
    | false => rw [nm_no h] at hn; cases hn
    | true =>
      rw [nm_let h] at hn
      rw [List.cons_append, nm_let h, ← List.cons_append, take_app hn]
theorem inn_ws {c : UInt8} (h : innB c = true) : wsB c = false ∧ c ≠ 62 := by
  have h' : innZ (c.toNat : Int) = true := h
  constructor
  · show wsZ (c.toNat : Int) = false
    simp only [innZ, letZ, goZ, wsZ, decide_eq_true_eq, Bool.or_eq_true, decide_eq_false_iff_not] at h' ⊢
    omega
  · rintro rfl
    revert h
    decide
def kB (m : List UInt8) : Bool := match m with | 60 :: c :: _ => c != 47 | _ => false
theorem upto_skp : ∀ (m : List UInt8), upto 60 m = m.take (m.length - (skp m).length) ++ upto 60 (skp m)
  | [] => rfl
  | c :: r => by
    cases h : wsB c with
    | false => rw [skp_stop h]; simp
    | true =>
      have h60 : c ≠ 60 := by rintro rfl; revert h; decide
      have hl := skp_le r
      rw [skp_cons h]
      have e : (c :: r).length - (skp r).length = (r.length - (skp r).length) + 1 := by simp only [List.length_cons]; omega
      rw [e, List.take_succ_cons, List.cons_append, ← upto_skp r]
      unfold upto
      rw [List.takeWhile_cons_of_pos (by simpa using h60)]
theorem skp_idem (m : List UInt8) : skp (skp m) = skp m := by
  induction m with
  | nil => rfl
  | cons c r ih =>
    cases h : wsB c with
    | true => rw [skp_cons h, ih]
    | false => rw [skp_stop h, skp_stop h]
theorem kids_skp (e : List UInt8 → Option (Nod × List UInt8)) (f : Nat) (m : List UInt8) : kidsF e f (skp m) = kidsF e f m := by
  cases f with
  | zero => rfl
  | succ f => simp only [kidsF, skp_idem]
theorem cont_kids (k : Nat) {l : List UInt8} (hk : kB (skp l) = true) : contF une (elemF une k) l = (kidsF (elemF une k) (l.length + 1) l).map fun p => ([], p.1, p.2) := by
  obtain ⟨c, t, hs, hc⟩ : ∃ c t, skp l = 60 :: c :: t ∧ c ≠ 47 := by
    unfold kB at hk
    split at hk
    · next c t h => exact ⟨c, t, h, by simpa using hk⟩
    · cases hk
  have hsl := skp_le l
  have hd := upto_skp l
  rw [hs] at hd hsl
  have hz : upto 60 (60 :: c :: t) = [] := rfl
  rw [hz, List.append_nil] at hd
  have hul : (upto 60 l).length = l.length - (60 :: c :: t).length := by rw [hd, List.length_take]; omega
  have hdr : l.drop (l.length - (skp l).length) = skp l := (List.suffix_iff_eq_drop.1 (List.dropWhile_suffix _)).symm
  unfold contF
  rw [if_neg (by rw [hul]; simp only [List.length_cons] at hsl ⊢; omega), if_neg]
  rw [hul, ← List.drop_drop, ← hs, hdr, hs]
  rw [hasPrefix_iff]
  rintro ⟨x, hx⟩
  injection hx with hx _
  exact hc hx
theorem une_nil : une [] = some [] := rfl
theorem une_cr (r : List UInt8) : une (13 :: r) = (une (if r.head? = some 10 then r.drop 1 else r)).map (10 :: ·) := by
  rw [← unR_eq (r.length + 1) (13 :: r) (by simp)]
  simp only [unR, if_true]
  rw [unR_eq]
  split <;> simp
theorem une_amp (r : List UInt8) : une (38 :: r) = if (upto 59 r).length = r.length then none else (entL (upto 59 r)).bind fun t => (une (r.drop ((upto 59 r).length + 1))).map (t ++ ·) := by
  rw [← unR_eq (r.length + 1) (38 :: r) (by simp)]
  simp only [unR, if_true]
  rw [if_neg (by decide)]
  split
  · rfl
  · congr 1
    funext t
    rw [unR_eq _ _ (by simp)]
theorem une_cons (c : UInt8) (r : List UInt8) (h : c ≠ 13) (h2 : c ≠ 38) : une (c :: r) = (une r).map (c :: ·) := by
  rw [← unR_eq (r.length + 1) (c :: r) (by simp)]
  simp only [unR, if_neg h, if_neg h2]
  rw [unR_eq _ _ (by simp)]
end Go.Proofs.YtohkocknpmnakabGreatDoor

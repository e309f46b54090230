/-
  The plain mathematics of documents of elements: what a text is read as, by functions over lists of bytes.
-/
import Derived.Lib.IndexMore
namespace Go.Proofs.YtohkocknpmnakaaGreatDoor

def letZ (c : Int) : Bool := decide ((65 ≤ c ∧ c ≤ 90) ∨ (97 ≤ c ∧ c ≤ 122) ∨ c = 95)
def goZ (c : Int) : Bool := decide ((48 ≤ c ∧ c ≤ 57) ∨ c = 45 ∨ c = 46)
def innZ (c : Int) : Bool := letZ c || goZ c
def wsZ (c : Int) : Bool := decide (c = 32 ∨ c = 9 ∨ c = 10 ∨ c = 13)
def letB (c : UInt8) : Bool := letZ (c.toNat : Int)
def innB (c : UInt8) : Bool := innZ (c.toNat : Int)
def wsB (c : UInt8) : Bool := wsZ (c.toNat : Int)
/-- What stands behind white. -/
def skp (l : List UInt8) : List UInt8 := l.dropWhile wsB
/-- The longest name at the beginning. -/
def nmL : List UInt8 → List UInt8
  | [] => []
  | c :: r => if letB c then c :: r.takeWhile innB else []
/-- All ahead of the first c. -/
def upto (c : UInt8) (l : List UInt8) : List UInt8 := l.takeWhile (· != c)
def eat (p l : List UInt8) : Option (List UInt8) := if Lib.hasPrefix l p then some (l.drop p.length) else none
/-- A text in its marks. -/
def quoL : List UInt8 → Option (List UInt8)
  | [] => none
  | m :: r => if m = 34 ∨ m = 39 then (if (upto m r).length = r.length ∨ (upto m r).any (fun c => c == 60 || c == 38) then none else some (r.drop ((upto m r).length + 1))) else none
/-- The second name of an attribute, if there is one. -/
def colL (l : List UInt8) : Option (List UInt8) :=
  match eat [58] l with
  | none => some l
  | some r => if nmL r = [] then none else some (r.drop (nmL r).length)
def atrL (l : List UInt8) : Option (List UInt8) :=
  (colL (l.drop (nmL l).length)).bind fun r => (eat [61] (skp r)).bind fun q => quoL (skp q)
def atsF : Nat → List UInt8 → Option (List UInt8)
  | 0, _ => none
  | f + 1, l => if (skp l).length < l.length ∧ nmL (skp l) ≠ [] then (atrL (skp l)).bind (atsF f) else some (skp l)

/-- An element: its name, its text, the elements in it. -/
inductive Nod where
  | nd (n t : List UInt8) (ks : List Nod)
def Nod.nm : Nod → List UInt8 | .nd n _ _ => n
def Nod.tx : Nod → List UInt8 | .nd _ t _ => t
def Nod.ks : Nod → List Nod | .nd _ _ k => k

def kidsF (e : List UInt8 → Option (Nod × List UInt8)) : Nat → List UInt8 → Option (List Nod × List UInt8)
  | 0, _ => none
  | f + 1, l => if Lib.hasPrefix (skp l) [60, 47] then some ([], skp l) else (e (skp l)).bind fun p => (kidsF e f p.2).map fun q => (p.1 :: q.1, q.2)
def contF (une : List UInt8 → Option (List UInt8)) (e : List UInt8 → Option (Nod × List UInt8)) (l : List UInt8) : Option (List UInt8 × List Nod × List UInt8) :=
  if (upto 60 l).length = l.length then none
  else if Lib.hasPrefix (l.drop ((upto 60 l).length + 1)) [47] then (une (upto 60 l)).map fun x => (x, [], l.drop (upto 60 l).length)
  else (kidsF e (l.length + 1) l).map fun p => ([], p.1, p.2)
def closeL (n l : List UInt8) : Option (List UInt8) :=
  (eat [60, 47] l).bind fun a => (eat n a).bind fun b => eat [62] (skp b)
/-- Behind the attributes: the element's name is n. -/
def restF (une : List UInt8 → Option (List UInt8)) (e : List UInt8 → Option (Nod × List UInt8)) (n r : List UInt8) : Option (Nod × List UInt8) :=
  match eat [47, 62] r with
  | some q => some (.nd n [] [], q)
  | none => (eat [62] r).bind fun r1 => (contF une e r1).bind fun p => (closeL n p.2.2).map fun r3 => (.nd n p.1 p.2.1, r3)
def elemF (une : List UInt8 → Option (List UInt8)) : Nat → List UInt8 → Option (Nod × List UInt8)
  | 0, _ => none
  | k + 1, l => (eat [60] l).bind fun l1 => if nmL l1 = [] then none else (atsF (l1.length + 1) (l1.drop (nmL l1).length)).bind fun r => restF une (elemF une k) (nmL l1) r
def declL (l : List UInt8) : Option (List UInt8) :=
  match eat [60, 63, 120, 109, 108] l with
  | none => some l
  | some [] => none
  | some (c :: r) => if wsB c ∨ c = 63 then (if (Lib.cut (c :: r) [63, 62]).2.2 then some (Lib.cut (c :: r) [63, 62]).2.1 else none) else none
def docF (une : List UInt8 → Option (List UInt8)) (l : List UInt8) : Option Nod :=
  (declL l).bind fun l1 => (elemF une 16 (skp l1)).bind fun p => if skp p.2 = [] then some p.1 else none

theorem hasPrefix_iff (l p : List UInt8) : Lib.hasPrefix l p = true ↔ ∃ r, l = p ++ r := by
  rw [Lib.hasPrefix, List.isPrefixOf_iff_prefix]
  exact ⟨fun ⟨r, h⟩ => ⟨r, h.symm⟩, fun ⟨r, h⟩ => ⟨r, h.symm⟩⟩
theorem eat_len {p l r : List UInt8} (h : eat p l = some r) : r.length + p.length = l.length ∧ l = p ++ r := by
  unfold eat at h
  split at h
  · next hp =>
    obtain ⟨q, rfl⟩ := (hasPrefix_iff l p).1 hp
    simp at h
    subst h
    exact ⟨by simp; omega, rfl⟩
  · cases h
theorem skp_le (l : List UInt8) : (skp l).length ≤ l.length := by
  unfold skp
  exact (List.dropWhile_sublist _).length_le
theorem upto_le (c : UInt8) (l : List UInt8) : (upto c l).length ≤ l.length := (List.takeWhile_sublist _).length_le
theorem quo_len {l r : List UInt8} (h : quoL l = some r) : r.length + 2 ≤ l.length := by
  cases l with
  | nil => cases h
  | cons m q =>
    simp only [quoL] at h
    have := upto_le m q
    split at h
    · split at h
      · cases h
      · next hh =>
        simp only [Option.some.injEq] at h
        subst h
        have : ¬ (upto m q).length = q.length := fun e => hh (.inl e)
        simp only [List.length_drop, List.length_cons]
        omega
    · cases h
theorem col_len {l r : List UInt8} (h : colL l = some r) : r.length ≤ l.length := by
  unfold colL at h
  split at h
  · cases h; exact Nat.le_refl _
  · next q hq =>
    have := eat_len hq
    split at h
    · cases h
    · simp only [Option.some.injEq] at h
      subst h
      simp only [List.length_drop, List.length_cons] at *
      omega
theorem atr_len {l r : List UInt8} (h : atrL l = some r) : r.length + 3 ≤ l.length := by
  unfold atrL at h
  simp only [Option.bind_eq_some_iff] at h
  obtain ⟨a, h1, b, h2, h3⟩ := h
  have e1 := col_len h1
  have e2 := (eat_len h2).1
  have e3 := quo_len h3
  have e4 := skp_le a
  have e5 := skp_le b
  simp only [List.length_drop, List.length_cons, List.length_nil] at *
  omega
theorem ats_len : ∀ {f : Nat} {l r : List UInt8}, atsF f l = some r → r.length ≤ l.length
  | 0, _, _, h => by cases h
  | f + 1, l, r, h => by
    unfold atsF at h
    have := skp_le l
    split at h
    · simp only [Option.bind_eq_some_iff] at h
      obtain ⟨a, h1, h2⟩ := h
      have := atr_len h1
      have := ats_len h2
      omega
    · cases h
      exact this
theorem close_len {n l r : List UInt8} (h : closeL n l = some r) : r.length + 3 ≤ l.length := by
  unfold closeL at h
  simp only [Option.bind_eq_some_iff] at h
  obtain ⟨a, h1, b, h2, h3⟩ := h
  have e1 := (eat_len h1).1
  have e2 := (eat_len h2).1
  have e3 := (eat_len h3).1
  have e4 := skp_le b
  simp only [List.length_cons, List.length_nil] at *
  omega
theorem kids_len {e : List UInt8 → Option (Nod × List UInt8)} (he : ∀ l t r, e l = some (t, r) → r.length + 1 ≤ l.length) : ∀ {f : Nat} {l : List UInt8} {p : List Nod × List UInt8}, kidsF e f l = some p → p.2.length ≤ l.length ∧ p.1.length + p.2.length ≤ l.length
  | 0, _, _, h => by cases h
  | f + 1, l, p, h => by
    unfold kidsF at h
    have := skp_le l
    split at h
    · cases h
      exact ⟨this, by simpa using this⟩
    · simp only [Option.bind_eq_some_iff, Option.map_eq_some_iff] at h
      obtain ⟨⟨t, q⟩, h1, ⟨ks, q2⟩, h2, rfl⟩ := h
      have := he _ _ _ h1
      have := kids_len he h2
      simp only [List.length_cons] at *
      omega
theorem cont_len {une : List UInt8 → Option (List UInt8)} {e : List UInt8 → Option (Nod × List UInt8)} (he : ∀ l t r, e l = some (t, r) → r.length + 1 ≤ l.length) {l : List UInt8} {p : List UInt8 × List Nod × List UInt8} (h : contF une e l = some p) : p.2.2.length ≤ l.length := by
  unfold contF at h
  split at h
  · cases h
  · split at h
    · simp only [Option.map_eq_some_iff] at h
      obtain ⟨x, _, rfl⟩ := h
      simp
    · simp only [Option.map_eq_some_iff] at h
      obtain ⟨q, h1, rfl⟩ := h
      exact (kids_len he h1).1
theorem rest_len {une : List UInt8 → Option (List UInt8)} {e : List UInt8 → Option (Nod × List UInt8)} (he : ∀ l t r, e l = some (t, r) → r.length + 1 ≤ l.length) {n l : List UInt8} {t : Nod} {r : List UInt8} (h : restF une e n l = some (t, r)) : r.length + 2 ≤ l.length := by
  unfold restF at h
  split at h
  · next q hq =>
    have := (eat_len hq).1
    simp only [Option.some.injEq, Prod.mk.injEq] at h
    obtain ⟨-, rfl⟩ := h
    simp only [List.length_cons, List.length_nil] at *
    omega
  · simp only [Option.bind_eq_some_iff, Option.map_eq_some_iff, Prod.mk.injEq] at h
    obtain ⟨a, h1, b, h2, c, h3, -, rfl⟩ := h
    have := (eat_len h1).1
    have := cont_len he h2
    have := close_len h3
    simp only [List.length_cons, List.length_nil] at *
    omega
theorem elem_len (une : List UInt8 → Option (List UInt8)) : ∀ (k : Nat) (l : List UInt8) (t : Nod) (r : List UInt8), elemF une k l = some (t, r) → r.length + 1 ≤ l.length
  | 0, _, _, _, h => by cases h
  | k + 1, l, t, r, h => by
    unfold elemF at h
    simp only [Option.bind_eq_some_iff] at h
    obtain ⟨l1, h1, h2⟩ := h
    have := (eat_len h1).1
    split at h2
    · cases h2
    · simp only [Option.bind_eq_some_iff] at h2
      obtain ⟨q, h3, h4⟩ := h2
      have e3 := ats_len h3
      have e4 := rest_len (elem_len une k) h4
      simp only [List.length_cons, List.length_nil, List.length_drop] at *
      omega

/-- Cutting at one byte. -/
theorem index_upto (c : UInt8) : ∀ l : List UInt8, Lib.index l [c] = if (upto c l).length = l.length then -1 else ((upto c l).length : Int)
  | [] => by simp [Lib.index, upto]
  | a :: r => by
    have ih := index_upto c r
    have hle := upto_le c r
    unfold Lib.index
    by_cases h : a = c
    · subst h
      simp [List.isPrefixOf, upto]
    · have h1 : [c].isPrefixOf (a :: r) = false := by simp [List.isPrefixOf, Ne.symm h]
      have h2 : upto c (a :: r) = a :: upto c r := by simp [upto, h]
      rw [h1, ih, h2]
      simp only [List.length_cons, Nat.add_right_cancel_iff]
      by_cases e : (upto c r).length = r.length
      · simp [e]
      · rw [if_neg e, if_neg e]
        have : (((upto c r).length : Int) == -1) = false := by rw [beq_eq_false_iff_ne]; omega
        rw [this]
        simp
theorem cut_one (c : UInt8) (l : List UInt8) : Lib.cut l [c] = if (upto c l).length = l.length then (l, [], false) else (upto c l, l.drop ((upto c l).length + 1), true) := by
  unfold Lib.cut
  rw [index_upto]
  split
  · rfl
  · rw [if_pos (by omega)]
    have : (((upto c l).length : Int)).toNat = (upto c l).length := by omega
    rw [this]
    have h2 : l.take (upto c l).length = upto c l := by
      unfold upto
      exact (List.prefix_iff_eq_take.1 (List.takeWhile_prefix _)).symm
    rw [h2]
    rfl
end Go.Proofs.YtohkocknpmnakaaGreatDoor

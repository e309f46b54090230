/-
  The plain mathematics of UTF-8: the character that a list of bytes begins with, and how many there are.
-/
import Derived.Lib.DecodeN
namespace Go.Proofs.YtnmffehmjgknkaaGreatDoor.Ch

def at0 (l : List UInt8) (k : Nat) : Nat := (l.getD k 0).toNat
/-- The model's decoder at the head of a list. -/
def decL (l : List UInt8) : Nat × Nat := Lib.decodeN l.length (at0 l 0) (at0 l 1) (at0 l 2) (at0 l 3)
/-- The character that a list begins with, and its width; width 0: none. -/
def stepL (l : List UInt8) : Nat × Nat := if (decL l).1 = 65533 ∧ (decL l).2 = 1 then (0, 0) else decL l

theorem at0_lt (l : List UInt8) (k : Nat) : at0 l k < 256 := (l.getD k 0).toNat_lt
theorem get_at0 (s : ByteArray) (i k : Nat) : (s.get! (i + k)).toNat = at0 (s.data.toList.drop i) k := by
  unfold at0
  congr 1
  rw [List.getD_eq_getElem?_getD, List.getElem?_drop]
  obtain ⟨⟨l⟩⟩ := s
  show (ByteArray.get! ⟨⟨l⟩⟩ (i + k)) = (l[i + k]?).getD 0
  rw [ByteArray.get!]
  show (Array.mk l)[i + k]! = _
  rw [getElem!_def, List.getElem?_toArray]
  cases l[i + k]? <;> rfl
theorem decode_drop (s : ByteArray) (i : Nat) : Utf8.decode s i = decL (s.data.toList.drop i) := by
  rw [Lib.decode_at, decL]
  have e : s.size - i = (s.data.toList.drop i).length := by simp
  have g0 := get_at0 s i 0
  rw [Nat.add_zero] at g0
  rw [e, g0, get_at0, get_at0, get_at0]

theorem dec_width (n b0 b1 b2 b3 : Nat) (hn : 1 ≤ n) : 1 ≤ (Lib.decodeN n b0 b1 b2 b3).2 ∧ (Lib.decodeN n b0 b1 b2 b3).2 ≤ n ∧ (Lib.decodeN n b0 b1 b2 b3).2 ≤ 4 := by
  unfold Lib.decodeN
  (repeat' split) <;> simp <;> omega
theorem dec_rune (n b0 b1 b2 b3 : Nat) : (Lib.decodeN n b0 b1 b2 b3).1 ≤ 1114111 ∧ ((Lib.decodeN n b0 b1 b2 b3).1 < 55296 ∨ 57344 ≤ (Lib.decodeN n b0 b1 b2 b3).1) := by
  unfold Lib.decodeN
  (repeat' split) <;> simp <;> omega
/-- The replacement character told by its own three bytes is told by them alone. -/
theorem dec_fffd (n b0 b1 b2 b3 : Nat) (hr : (Lib.decodeN n b0 b1 b2 b3).1 = 65533) :
    ((Lib.decodeN n b0 b1 b2 b3).2 = 1 ↔ ¬ (3 ≤ n ∧ b0 = 239 ∧ b1 = 191 ∧ b2 = 189)) := by
  unfold Lib.decodeN at hr ⊢
  (repeat' split) <;> simp_all <;> omega
/-- A character that is one stays so where more bytes follow. -/
theorem dec_more (n m b0 b1 b2 b3 c1 c2 c3 : Nat) (hm : n ≤ m) (h1 : 1 < n → c1 = b1) (h2 : 2 < n → c2 = b2) (h3 : 3 < n → c3 = b3) (hb : ¬ ((Lib.decodeN n b0 b1 b2 b3).1 = 65533 ∧ (Lib.decodeN n b0 b1 b2 b3).2 = 1)) :
    Lib.decodeN m b0 c1 c2 c3 = Lib.decodeN n b0 b1 b2 b3 := by
  have k1 : 1 < n → 1 < m := fun h => by omega
  have k2 : 2 < n → 2 < m := fun h => by omega
  have k3 : 3 < n → 3 < m := fun h => by omega
  unfold Lib.decodeN at hb ⊢
  by_cases a : b0 < 128
  · rw [if_pos a, if_pos a]
  · rw [if_neg a] at hb ⊢
    rw [if_neg a]
    by_cases p2 : b0 / 32 = 6 ∧ (1 < n ∧ b1 / 64 = 2)
    · have e1 := h1 p2.2.1
      subst e1
      rw [if_pos p2, if_pos ⟨p2.1, k1 p2.2.1, p2.2.2⟩]
    · rw [if_neg p2] at hb
      rw [if_neg p2]
      by_cases p3 : b0 / 16 = 14 ∧ (1 < n ∧ b1 / 64 = 2) ∧ (2 < n ∧ b2 / 64 = 2)
      · have e1 := h1 p3.2.1.1
        have e2 := h2 p3.2.2.1
        subst e1 e2
        rw [if_pos p3, if_neg (by omega), if_pos ⟨p3.1, ⟨k1 p3.2.1.1, p3.2.1.2⟩, ⟨k2 p3.2.2.1, p3.2.2.2⟩⟩]
      · rw [if_neg p3] at hb
        rw [if_neg p3]
        by_cases p4 : b0 / 8 = 30 ∧ (1 < n ∧ b1 / 64 = 2) ∧ (2 < n ∧ b2 / 64 = 2) ∧ (3 < n ∧ b3 / 64 = 2)
        · have e1 := h1 p4.2.1.1
          have e2 := h2 p4.2.2.1.1
          have e3 := h3 p4.2.2.2.1
          subst e1 e2 e3
          rw [if_pos p4, if_neg (by omega), if_neg (by omega), if_pos ⟨p4.1, ⟨k1 p4.2.1.1, p4.2.1.2⟩, ⟨k2 p4.2.2.1.1, p4.2.2.1.2⟩, ⟨k3 p4.2.2.2.1, p4.2.2.2.2⟩⟩]
        · rw [if_neg p4] at hb
          exact absurd ⟨rfl, rfl⟩ hb

theorem step_bad {l : List UInt8} (h : (stepL l).2 = 0) (hl : l ≠ []) : (decL l).1 = 65533 ∧ (decL l).2 = 1 := by
  unfold stepL at h
  split at h
  · assumption
  · have := dec_width l.length (at0 l 0) (at0 l 1) (at0 l 2) (at0 l 3) (List.length_pos_iff.2 hl)
    unfold decL at h
    omega
theorem step_good {l : List UInt8} (h : (stepL l).2 ≠ 0) : stepL l = decL l ∧ ¬ ((decL l).1 = 65533 ∧ (decL l).2 = 1) := by
  unfold stepL at h ⊢
  split
  · rename_i hh
    rw [if_pos hh] at h
    exact absurd rfl h
  · rename_i hh
    exact ⟨rfl, hh⟩
theorem step_le (l : List UInt8) (hl : l ≠ []) : (stepL l).2 ≤ l.length ∧ (stepL l).2 ≤ 4 := by
  have := dec_width l.length (at0 l 0) (at0 l 1) (at0 l 2) (at0 l 3) (List.length_pos_iff.2 hl)
  unfold stepL
  split
  · simp
  · exact this.2
theorem step_rune (l : List UInt8) : (stepL l).1 ≤ 1114111 ∧ ((stepL l).1 < 55296 ∨ 57344 ≤ (stepL l).1) := by
  unfold stepL
  split
  · simp
  · exact dec_rune _ _ _ _ _
theorem at0_append {l m : List UInt8} {k : Nat} (h : k < l.length) : at0 (l ++ m) k = at0 l k := by
  unfold at0
  rw [List.getD_eq_getElem?_getD, List.getD_eq_getElem?_getD, List.getElem?_append_left h]
theorem step_append {l : List UInt8} (m : List UInt8) (hl : l ≠ []) (h : (stepL l).2 ≠ 0) : stepL (l ++ m) = stepL l := by
  have hp := List.length_pos_iff.2 hl
  obtain ⟨e, hb⟩ := step_good h
  have hd : decL (l ++ m) = decL l := by
    unfold decL
    rw [at0_append hp]
    exact dec_more _ _ _ _ _ _ _ _ _ (by simp) (fun h => at0_append h) (fun h => at0_append h) (fun h => at0_append h) hb
  rw [e, stepL, hd, if_neg hb]

/-- How many characters, each one that p takes; none where one isn't. -/
def cntF (p : Nat → Bool) : Nat → List UInt8 → Option Nat
  | _, [] => some 0
  | 0, _ :: _ => none
  | f + 1, a :: r => if (stepL (a :: r)).2 = 0 ∨ p (stepL (a :: r)).1 = false then none else (cntF p f ((a :: r).drop (stepL (a :: r)).2)).map (· + 1)
def cntP (p : Nat → Bool) (l : List UInt8) : Option Nat := cntF p l.length l

theorem cntF_more (p : Nat → Bool) : ∀ (f g : Nat) (l : List UInt8), l.length ≤ f → l.length ≤ g → cntF p f l = cntF p g l := by
  intro f
  induction f with
  | zero =>
    intro g l h1 h2
    obtain rfl : l = [] := List.eq_nil_of_length_eq_zero (by omega)
    cases g <;> rfl
  | succ f ih =>
    intro g l h1 h2
    cases l with
    | nil => cases g <;> rfl
    | cons a r =>
      cases g with
      | zero => simp at h2
      | succ g =>
        simp only [cntF]
        split
        · rfl
        · rename_i hh
          rw [ih g]
          · simp only [List.length_drop]; omega
          · simp only [List.length_drop]; omega
theorem cntP_nil (p : Nat → Bool) : cntP p [] = some 0 := rfl
theorem cntP_step (p : Nat → Bool) (l : List UInt8) (hl : l ≠ []) : cntP p l = if (stepL l).2 = 0 ∨ p (stepL l).1 = false then none else (cntP p (l.drop (stepL l).2)).map (· + 1) := by
  cases l with
  | nil => exact absurd rfl hl
  | cons a r =>
    rw [cntP, List.length_cons, cntF]
    split
    · rfl
    · rename_i hh
      rw [cntF_more p _ ((a :: r).drop (stepL (a :: r)).2).length _ (by simp only [List.length_drop, List.length_cons]; omega) (Nat.le_refl _)]
      rfl
theorem cntP_bad {p : Nat → Bool} {l : List UInt8} (hl : l ≠ []) (h : (stepL l).2 = 0) : cntP p l = none := by rw [cntP_step p l hl, if_pos (.inl h)]
theorem cntP_out {p : Nat → Bool} {l : List UInt8} (hl : l ≠ []) (h : p (stepL l).1 = false) : cntP p l = none := by rw [cntP_step p l hl, if_pos (.inr h)]
theorem cntP_go {p : Nat → Bool} {l : List UInt8} (hl : l ≠ []) (h : (stepL l).2 ≠ 0) (hp : p (stepL l).1 = true) : cntP p l = (cntP p (l.drop (stepL l).2)).map (· + 1) := by
  rw [cntP_step p l hl, if_neg (by simp [h, hp])]
theorem cntP_le (p : Nat → Bool) : ∀ (n : Nat) (l : List UInt8), l.length ≤ n → (cntP p l).getD 0 ≤ l.length := by
  intro n
  induction n with
  | zero =>
    intro l h
    obtain rfl : l = [] := List.eq_nil_of_length_eq_zero (by omega)
    simp [cntP_nil]
  | succ n ih =>
    intro l h
    by_cases hl : l = []
    · subst hl
      simp [cntP_nil]
    · by_cases hb : (stepL l).2 = 0
      · rw [cntP_bad hl hb]; simp
      · by_cases hp : p (stepL l).1 = true
        · have hpos := List.length_pos_iff.2 hl
          have := ih (l.drop (stepL l).2) (by simp only [List.length_drop]; omega)
          rw [cntP_go hl hb hp]
          cases hc : cntP p (l.drop (stepL l).2) with
          | none => simp
          | some x => rw [hc] at this; simp only [Option.getD_some, List.length_drop] at this; simp only [Option.map_some, Option.getD_some]; omega
        · rw [cntP_out hl (by simpa using hp)]; simp

/-- Two texts put together: where the first is one, the characters of both. -/
theorem cntP_append (p : Nat → Bool) : ∀ (n : Nat) (l m : List UInt8) (a : Nat), l.length ≤ n → cntP (fun _ => true) l = some a →
    (cntP p (l ++ m)).isSome = ((cntP p l).isSome && (cntP p m).isSome) ∧ cntP (fun _ => true) (l ++ m) = (cntP (fun _ => true) m).map (· + a) := by
  intro n
  induction n with
  | zero =>
    intro l m a h ha
    obtain rfl : l = [] := List.eq_nil_of_length_eq_zero (by omega)
    rw [cntP_nil] at ha
    obtain rfl : 0 = a := Option.some.inj ha
    simp [cntP_nil]
  | succ n ih =>
    intro l m a h ha
    by_cases hl : l = []
    · subst hl
      rw [cntP_nil] at ha
      obtain rfl : 0 = a := Option.some.inj ha
      simp [cntP_nil]
    · have hpos := List.length_pos_iff.2 hl
      by_cases hb : (stepL l).2 = 0
      · rw [cntP_bad hl hb] at ha
        cases ha
      · rw [cntP_go hl hb rfl] at ha
        obtain ⟨a', ha', rfl⟩ := Option.map_eq_some_iff.1 ha
        have hw := step_le l hl
        have hstep := step_append m hl hb
        have hlm : l ++ m ≠ [] := by simp [hl]
        have hdrop : (l ++ m).drop (stepL l).2 = l.drop (stepL l).2 ++ m := List.drop_append_of_le_length hw.1
        have hi := ih (l.drop (stepL l).2) m a' (by simp only [List.length_drop]; omega) ha'
        constructor
        · by_cases hp : p (stepL l).1 = true
          · rw [cntP_go (l := l ++ m) hlm (by rw [hstep]; exact hb) (by rw [hstep]; exact hp), hstep, hdrop, cntP_go hl hb hp]
            simp only [Option.isSome_map]
            exact hi.1
          · have hp' : p (stepL l).1 = false := by simpa using hp
            rw [cntP_out hl hp', cntP_out (l := l ++ m) hlm (by rw [hstep]; exact hp')]
            rfl
        · rw [cntP_go (l := l ++ m) hlm (by rw [hstep]; exact hb) rfl, hstep, hdrop, hi.2]
          cases cntP (fun _ => true) m with
          | none => rfl
          | some x => simp only [Option.map_some]; congr 1
end Go.Proofs.YtnmffehmjgknkaaGreatDoor.Ch

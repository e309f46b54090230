/-
  A body in signed chunks: what the code's reader reads, told by lists.
-/

namespace Go.Proofs.YtgpjjlkkfddjnaaDoor

/-- A reader's state: the bytes that are left, and the first fault. -/
abbrev RS := List UInt8 × Int
def exS (b : Bool) (s : RS) : RS := if s.2 = 0 ∧ b = false then (s.1, 308) else s
def tkS (n : Nat) (s : RS) : List UInt8 × RS :=
  if s.2 = 0 then (if s.1.length < n then ([], (s.1, 307)) else (s.1.take n, (s.1.drop n, 0))) else ([], s)
/-- Whether what is there begins as the text does, as far as both go. -/
def txB (t l : List UInt8) : Bool := decide (l.take (min t.length l.length) = t.take (min t.length l.length))
def txS (t : List UInt8) (s : RS) : RS := (tkS t.length (exS (txB t s.1) s)).2
def isDg (c : UInt8) : Bool := decide (48 ≤ c.toNat ∧ c.toNat ≤ 57) || decide (97 ≤ c.toNat ∧ c.toNat ≤ 102)
/-- How many digits stand ahead, at most so many. -/
def dnL (most : Nat) (l : List UInt8) : Nat := ((l.take most).takeWhile isDg).length
def dgS (least most : Nat) (s : RS) : List UInt8 × RS := tkS (max (dnL most s.1) least) (exS (decide (least ≤ dnL most s.1) || decide (dnL most s.1 = s.1.length)) s)
def dvN (c : UInt8) : Nat := if 48 ≤ c.toNat ∧ c.toNat ≤ 57 then c.toNat - 48 else c.toNat - 87
def numL (l : List UInt8) : Nat := l.foldl (fun n c => n * 16 + dvN c) 0
/-- ";chunk-signature=" -/
def sigT : List UInt8 := [59, 99, 104, 117, 110, 107, 45, 115, 105, 103, 110, 97, 116, 117, 114, 101, 61]
def crT : List UInt8 := [13, 10]
/-- What is read of a chunk: its data, its signature, and the reader behind it. -/
structure CkR where
  data : List UInt8
  sig : List UInt8
  s : RS
def ckS (s : RS) : CkR :=
  let d := dgS 1 8 s
  let n := numL d.1
  let g := dgS 64 64 (txS sigT d.2)
  let x := tkS n (txS crT g.2)
  let e := txS crT x.2
  ⟨x.1, g.1, if n = 0 then exS (decide (e.1 = [])) e else e⟩
theorem dnL_le (most : Nat) (l : List UInt8) : dnL most l ≤ most ∧ dnL most l ≤ l.length := by
  have h : (List.takeWhile isDg (l.take most)).length ≤ (l.take most).length := (List.takeWhile_sublist _).length_le
  rw [List.length_take] at h
  unfold dnL
  omega
/-- The digits are counted one by one. -/
theorem dnL_at {most : Nat} {l : List UInt8} {k : Nat} (hk : k ≤ dnL most l) : k < dnL most l ↔ k < most ∧ ∃ h : k < l.length, isDg l[k] = true := by
  have key : ∀ (m : List UInt8) (k : Nat), k ≤ (m.takeWhile isDg).length → (k < (m.takeWhile isDg).length ↔ ∃ h : k < m.length, isDg m[k] = true) := by
    intro m
    induction m with
    | nil => intro k _; simp
    | cons c m ih =>
      intro k hk
      by_cases hc : isDg c = true
      · rw [List.takeWhile_cons_of_pos hc] at hk ⊢
        cases k with
        | zero => simp [hc]
        | succ k =>
          have := ih k (by simpa using hk)
          simp only [List.length_cons, Nat.succ_lt_succ_iff, List.getElem_cons_succ]
          exact this
      · rw [List.takeWhile_cons_of_neg hc] at hk ⊢
        simp only [List.length_nil, Nat.le_zero_eq] at hk
        subst hk
        simp [hc]
  have h := key (l.take most) k hk
  unfold dnL
  rw [h]
  constructor
  · rintro ⟨h1, h2⟩
    have h3 : k < min most l.length := by simpa using h1
    refine ⟨by omega, by omega, ?_⟩
    simpa using h2
  · rintro ⟨h1, h2, h3⟩
    exact ⟨by simp; omega, by simpa using h3⟩
theorem tkS_fault {n : Nat} {s : RS} (h : s.2 ≠ 0) : tkS n s = ([], s) := by simp [tkS, h]
theorem exS_fault {b : Bool} {s : RS} (h : s.2 ≠ 0) : exS b s = s := by simp [exS, h]
theorem exS_rest (b : Bool) (s : RS) : (exS b s).1 = s.1 := by unfold exS; split <;> rfl
theorem dg_digits {most : Nat} {l : List UInt8} : ∀ c ∈ l.take (dnL most l), isDg c = true := by
  intro c hc
  have h : l.take (dnL most l) = (l.take most).takeWhile isDg := by
    have := (List.prefix_iff_eq_take (l₁ := (l.take most).takeWhile isDg) (l₂ := l)).1 ((List.takeWhile_prefix _).trans (List.take_prefix _ _))
    exact this.symm
  rw [h] at hc
  have h2 := List.all_takeWhile (p := isDg) (l := l.take most)
  exact List.all_eq_true.1 h2 c hc
end Go.Proofs.YtgpjjlkkfddjnaaDoor

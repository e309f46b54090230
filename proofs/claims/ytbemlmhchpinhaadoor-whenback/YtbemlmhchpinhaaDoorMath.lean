/-
  The plain mathematics of dates: years, months and days as numbers.
-/
namespace Go.Proofs.YtbemlmhchpinhaaDoor

def leapB (y : Int) : Bool := decide (y % 4 = 0 ∧ (y % 100 ≠ 0 ∨ y % 400 = 0))
/-- One more day in a leap year. -/
def lday (y : Int) : Int := if leapB y then 1 else 0
theorem lday_01 (y : Int) : 0 ≤ lday y ∧ lday y ≤ 1 := by unfold lday; split <;> omega
def mlen (y m : Int) : Int :=
  if m = 2 then 28 + lday y else if m = 4 ∨ m = 6 ∨ m = 9 ∨ m = 11 then 30
  else if m = 1 ∨ m = 3 ∨ m = 5 ∨ m = 7 ∨ m = 8 ∨ m = 10 ∨ m = 12 then 31 else 0
def ylen (y : Int) : Int := 365 + lday y
def lps (y : Int) : Int := (y - 1) / 4 - (y - 1) / 100 + (y - 1) / 400
def ahead (y : Int) : Int := (y - 1970) * 365 + lps y - 477

theorem leapB_iff (y : Int) : leapB y = true ↔ (y % 4 = 0 ∧ (y % 100 ≠ 0 ∨ y % 400 = 0)) := by simp [leapB]
theorem ahead_succ (y : Int) : ahead (y + 1) = ahead y + ylen y := by
  unfold ahead lps ylen lday
  by_cases h : leapB y = true
  · rw [if_pos h]; rw [leapB_iff] at h; omega
  · rw [if_neg h]; rw [leapB_iff] at h; omega
theorem ahead_1970 : ahead 1970 = 0 := by decide
theorem ahead_10000 : ahead 10000 = 2932897 := by decide
theorem ahead_low {y : Int} (h : 1970 ≤ y) : (y - 1970) * 365 ≤ ahead y := by unfold ahead lps; omega
theorem ahead_high {y : Int} (h : 1970 ≤ y) : ahead y ≤ (y - 1970) * 366 := by unfold ahead lps; omega
theorem ahead_lt {y z : Int} (h : y < z) : ahead y + ylen y ≤ ahead z := by
  rw [← ahead_succ]; unfold ahead lps; omega

/-- The days of the year ahead of a month. -/
def cum (y m : Int) : Int :=
  if m = 1 then 0 else if m = 2 then 31 else if m = 3 then 59 + lday y else if m = 4 then 90 + lday y else if m = 5 then 120 + lday y
  else if m = 6 then 151 + lday y else if m = 7 then 181 + lday y else if m = 8 then 212 + lday y else if m = 9 then 243 + lday y
  else if m = 10 then 273 + lday y else if m = 11 then 304 + lday y else if m = 12 then 334 + lday y else 365 + lday y
theorem m12 {m : Int} (h1 : 1 ≤ m) (h2 : m ≤ 12) : m = 1 ∨ m = 2 ∨ m = 3 ∨ m = 4 ∨ m = 5 ∨ m = 6 ∨ m = 7 ∨ m = 8 ∨ m = 9 ∨ m = 10 ∨ m = 11 ∨ m = 12 := by omega
theorem cum_1 (y : Int) : cum y 1 = 0 := rfl
theorem cum_13 (y : Int) : cum y 13 = ylen y := by simp [cum, ylen]
theorem cum_succ (y : Int) {m : Int} (h1 : 1 ≤ m) (h2 : m ≤ 12) : cum y (m + 1) = cum y m + mlen y m := by
  rcases m12 h1 h2 with rfl | rfl | rfl | rfl | rfl | rfl | rfl | rfl | rfl | rfl | rfl | rfl <;> simp [cum, mlen] <;> omega
theorem mlen_bd (y m : Int) : 0 ≤ mlen y m ∧ mlen y m ≤ 31 := by
  have := lday_01 y
  unfold mlen
  repeat' split
  all_goals omega
theorem mlen_28 (y : Int) {m : Int} (h1 : 1 ≤ m) (h2 : m ≤ 12) : 28 ≤ mlen y m := by
  have := lday_01 y
  rcases m12 h1 h2 with rfl | rfl | rfl | rfl | rfl | rfl | rfl | rfl | rfl | rfl | rfl | rfl <;> simp [mlen] <;> omega
theorem mlen_out (y : Int) {m : Int} (h : m < 1 ∨ 12 < m) : mlen y m = 0 := by
  unfold mlen
  rw [if_neg (by omega), if_neg (by omega), if_neg (by omega)]
theorem cum_mono_nat (y : Int) (k : Nat) {m : Int} (h1 : 1 ≤ m) (h2 : m + k ≤ 13) : cum y m ≤ cum y (m + k) := by
  induction k with
  | zero => simp
  | succ k ih =>
    have e : m + ((k + 1 : Nat) : Int) = (m + k) + 1 := by omega
    rw [e, cum_succ y (by omega) (by omega)]
    have := ih (by omega)
    have := (mlen_bd y (m + k)).1
    omega
theorem cum_mono (y : Int) {m n : Int} (h1 : 1 ≤ m) (h : m ≤ n) (h2 : n ≤ 13) : cum y m ≤ cum y n := by
  have e : n = m + ((n - m).toNat : Int) := by omega
  rw [e]; exact cum_mono_nat y _ h1 (by omega)
theorem cum_bd (y : Int) {m : Int} (h1 : 1 ≤ m) (h2 : m ≤ 12) : 0 ≤ cum y m ∧ cum y m + mlen y m ≤ ylen y := by
  refine ⟨?_, ?_⟩
  · have := cum_mono y (Int.le_refl 1) h1 (by omega); rw [cum_1] at this; exact this
  · rw [← cum_succ y h1 h2, ← cum_13]; exact cum_mono y (by omega) (by omega) (by omega)

/-- The day n, counted from 1970 on, is this date. -/
def IsDay (n y m d : Int) : Prop := 1970 ≤ y ∧ 1 ≤ m ∧ m ≤ 12 ∧ 1 ≤ d ∧ d ≤ mlen y m ∧ n = ahead y + cum y m + d - 1

theorem IsDay.year {n y m d : Int} (h : IsDay n y m d) : ahead y ≤ n ∧ n < ahead y + ylen y := by
  obtain ⟨_, h1, h2, h3, h4, rfl⟩ := h
  have := cum_bd y h1 h2
  omega
theorem IsDay.unique {n y m d a b c : Int} (h : IsDay n y m d) (g : IsDay n a b c) : y = a ∧ m = b ∧ d = c := by
  have e : y = a := by
    have h' := h.year
    have g' := g.year
    rcases Int.lt_trichotomy y a with x | x | x
    · have := ahead_lt x; omega
    · exact x
    · have := ahead_lt x; omega
  subst e
  obtain ⟨_, h1, h2, h3, h4, h5⟩ := h
  obtain ⟨_, g1, g2, g3, g4, g5⟩ := g
  have e : m = b := by
    rcases Int.lt_trichotomy m b with x | x | x
    · have := cum_mono y (m := m + 1) (n := b) (by omega) (by omega) (by omega)
      rw [cum_succ y h1 h2] at this
      omega
    · exact x
    · have := cum_mono y (m := b + 1) (n := m) (by omega) (by omega) (by omega)
      rw [cum_succ y g1 g2] at this
      omega
  subst e
  exact ⟨rfl, rfl, by omega⟩
theorem year_ex (n : Nat) : ∃ y : Int, 1970 ≤ y ∧ ahead y ≤ n ∧ (n : Int) < ahead y + ylen y := by
  induction n with
  | zero => exact ⟨1970, by omega, by rw [ahead_1970]; omega, by rw [ahead_1970]; decide⟩
  | succ n ih =>
    obtain ⟨y, h1, h2, h3⟩ := ih
    by_cases h : ((n + 1 : Nat) : Int) < ahead y + ylen y
    · exact ⟨y, h1, by omega, h⟩
    · refine ⟨y + 1, by omega, by rw [ahead_succ]; omega, ?_⟩
      have := lday_01 (y + 1)
      rw [ahead_succ]
      show _ < _ + (365 + lday (y + 1))
      omega
theorem month_ex (y x : Int) (h0 : 0 ≤ x) (h1 : x < ylen y) : ∃ m d : Int, 1 ≤ m ∧ m ≤ 12 ∧ 1 ≤ d ∧ d ≤ mlen y m ∧ x = cum y m + d - 1 := by
  have key : ∀ k : Nat, k ≤ 12 → (x < cum y ((k : Int) + 1) ∨ k = 0) → k = 0 ∨ ∃ m d : Int, 1 ≤ m ∧ m ≤ 12 ∧ 1 ≤ d ∧ d ≤ mlen y m ∧ x = cum y m + d - 1 := by
    intro k
    induction k with
    | zero => exact fun _ _ => .inl rfl
    | succ k ih =>
      intro hk hx
      by_cases hc : x < cum y ((k : Int) + 1)
      · rcases ih (by omega) (.inl hc) with h | h
        · subst h
          have : cum y (((0 : Nat) : Int) + 1) = 0 := rfl
          omega
        · exact .inr h
      · refine .inr ⟨(k : Int) + 1, x - cum y ((k : Int) + 1) + 1, by omega, by omega, by omega, ?_, by omega⟩
        rcases hx with hx | hx
        · have e : ((k + 1 : Nat) : Int) + 1 = ((k : Int) + 1) + 1 := by omega
          rw [e, cum_succ y (by omega) (by omega)] at hx
          omega
        · omega
  rcases key 12 (by omega) (.inl (by show x < cum y 13; rw [cum_13]; exact h1)) with h | h
  · omega
  · exact h
theorem day_ex (n : Int) (h : 0 ≤ n) : ∃ p : Int × Int × Int, IsDay n p.1 p.2.1 p.2.2 := by
  obtain ⟨y, h1, h2, h3⟩ := year_ex n.toNat
  obtain ⟨m, d, g1, g2, g3, g4, g5⟩ := month_ex y (n - ahead y) (by omega) (by omega)
  exact ⟨(y, m, d), h1, g1, g2, g3, g4, by show n = ahead y + cum y m + d - 1; omega⟩
theorem day_ex' (n : Int) : ∃ p : Int × Int × Int, 0 ≤ n → IsDay n p.1 p.2.1 p.2.2 := by
  by_cases h : 0 ≤ n
  · obtain ⟨p, hp⟩ := day_ex n h; exact ⟨p, fun _ => hp⟩
  · exact ⟨(0, 0, 0), fun x => absurd x h⟩

noncomputable def dt (n : Int) : Int × Int × Int := Classical.choose (day_ex' n)
noncomputable def yO (n : Int) : Int := (dt n).1
noncomputable def mO (n : Int) : Int := (dt n).2.1
noncomputable def dO (n : Int) : Int := (dt n).2.2
theorem isDay_O {n : Int} (h : 0 ≤ n) : IsDay n (yO n) (mO n) (dO n) := Classical.choose_spec (day_ex' n) h
theorem O_of {n y m d : Int} (h : IsDay n y m d) : yO n = y ∧ mO n = m ∧ dO n = d := by
  have h0 : 0 ≤ n := by
    have := h.year
    have h1 := h.1
    have := ahead_low h1
    omega
  exact (isDay_O h0).unique h
/-- What stands of the parts of a day up to the last one. -/
theorem O_bd {n : Int} (h0 : 0 ≤ n) (h1 : n ≤ 2932896) : 1970 ≤ yO n ∧ yO n ≤ 9999 ∧ 1 ≤ mO n ∧ mO n ≤ 12 ∧ 1 ≤ dO n ∧ dO n ≤ 31 := by
  have h := isDay_O h0
  have hy := h.year
  obtain ⟨a, b, c, d, e, _⟩ := h
  refine ⟨a, ?_, b, c, d, by have := mlen_bd (yO n) (mO n); omega⟩
  by_cases x : yO n ≤ 9999
  · exact x
  · exfalso
    have h2 : ahead 9999 + ylen 9999 ≤ ahead (yO n) := ahead_lt (by omega)
    rw [← ahead_succ] at h2
    have := ahead_10000
    have e1 : (9999 : Int) + 1 = 10000 := rfl
    rw [e1] at h2
    omega
theorem day_le {n y m d : Int} (h : IsDay n y m d) (hy : y ≤ 9999) : 0 ≤ n ∧ n ≤ 2932896 := by
  have h' := h.year
  have := ahead_low h.1
  have h1 := h.1
  refine ⟨by omega, ?_⟩
  have h2 : ahead y + ylen y ≤ ahead 10000 := ahead_lt (by omega)
  rw [ahead_10000] at h2
  omega
/-- The next day. -/
theorem next_day {n y m d : Int} (h : IsDay n y m d) :
    (d < mlen y m ∧ IsDay (n + 1) y m (d + 1)) ∨ (d = mlen y m ∧ m < 12 ∧ IsDay (n + 1) y (m + 1) 1) ∨ (d = mlen y m ∧ m = 12 ∧ IsDay (n + 1) (y + 1) 1 1) := by
  obtain ⟨a, b, c, e, f, rfl⟩ := h
  by_cases x : d < mlen y m
  · exact .inl ⟨x, a, b, c, by omega, by omega, by omega⟩
  · have x' : d = mlen y m := by omega
    by_cases z : m < 12
    · refine .inr (.inl ⟨x', z, a, by omega, by omega, by omega, ?_, ?_⟩)
      · have := mlen_28 y (m := m + 1) (by omega) (by omega); omega
      · rw [cum_succ y b c]; omega
    · have z' : m = 12 := by omega
      subst z'
      refine .inr (.inr ⟨x', rfl, by omega, by omega, by omega, by omega, ?_, ?_⟩)
      · have := mlen_28 (y + 1) (m := 1) (by omega) (by omega); omega
      · rw [ahead_succ, cum_1, ← cum_13]
        have : cum y (12 + 1) = cum y 12 + mlen y 12 := cum_succ y (by omega) (by omega)
        have e : cum y (12 + 1) = cum y 13 := rfl
        omega
end Go.Proofs.YtbemlmhchpinhaaDoor

/-
  Contracts of package when: days and dates.
-/
import Derived.Test.YtbemlmhchpinhaaDoorLeaf
namespace Go.Proofs.YtbemlmhchpinhaaDoor
open Go.RowKit

theorem daysAhead_any (y : Int) (w : World) (h0 : 1970 ≤ y) (h1 : y ≤ 100000) :
    Calls Tryd.prog 42 #[.int .i64 y] w fun e w' => e = .returned (.int .i64 (ahead y)) ∧ w = w' := by
  have HL : -1000000 ≤ lps y ∧ lps y ≤ 1000000 := by unfold lps; omega
  have e0 : lps 1970 = 477 := by decide
  go_enter Tryd.func42, Tryd.ntmps42
  go_wp2_with fail
  refine (leapYears_any y _ (by omega) (by omega)).mono ?_
  rintro e w' ⟨rfl, rfl⟩
  go_wp2_with fail
  refine (leapYears_any 1970 _ (by omega) (by omega)).mono ?_
  rintro e w' ⟨rfl, rfl⟩
  rw [e0]
  go_wp2
  go_ret
  exact ⟨ret_int (by unfold ahead; go_num), rfl⟩

set_option maxHeartbeats 1000000 in
theorem monthLength_any (y m : Int) (w : World) (h0 : 0 ≤ y) (h1 : y ≤ 100000) :
    Calls Tryd.prog 43 #[.int .i64 y, .int .i64 m] w fun e w' => e = .returned (.int .i64 (mlen y m)) ∧ w = w' := by
  by_cases h2 : m = 2
  · subst h2
    go_enter Tryd.func43, Tryd.ntmps43
    go_wp2_with fail
    refine (isLeap_any y _ (by omega) (by omega)).mono ?_
    rintro e w' ⟨rfl, rfl⟩
    by_cases hl : leapB y = true
    · have e1 : Hid (mlen y 2 = 29) := by show _ = _; simp [mlen, lday, hl]
      rw [hl]
      go_wp2
      go_ret
      exact ⟨ret_int e1.out.symm, rfl⟩
    · have hl' : leapB y = false := by simpa using hl
      have e1 : Hid (mlen y 2 = 28) := by show _ = _; simp [mlen, lday, hl']
      rw [hl']
      go_wp2
      go_ret
      exact ⟨ret_int e1.out.symm, rfl⟩
  · by_cases h12 : 1 ≤ m ∧ m ≤ 12
    · rcases m12 h12.1 h12.2 with rfl | rfl | rfl | rfl | rfl | rfl | rfl | rfl | rfl | rfl | rfl | rfl
      all_goals
        first
        | exact absurd rfl h2
        | go_enter Tryd.func43, Tryd.ntmps43
          go_wp2
          go_ret
          exact ⟨ret_int (by simp [mlen]), rfl⟩
    · have hm : Hid (mlen y m = 0) := mlen_out y (by omega)
      have a1 : (m == 1) = false := by rw [beq_eq_false_iff_ne]; omega
      have a2 : (m == 2) = false := by rw [beq_eq_false_iff_ne]; omega
      have a3 : (m == 3) = false := by rw [beq_eq_false_iff_ne]; omega
      have a4 : (m == 4) = false := by rw [beq_eq_false_iff_ne]; omega
      have a5 : (m == 5) = false := by rw [beq_eq_false_iff_ne]; omega
      have a6 : (m == 6) = false := by rw [beq_eq_false_iff_ne]; omega
      have a7 : (m == 7) = false := by rw [beq_eq_false_iff_ne]; omega
      have a8 : (m == 8) = false := by rw [beq_eq_false_iff_ne]; omega
      have a9 : (m == 9) = false := by rw [beq_eq_false_iff_ne]; omega
      have a10 : (m == 10) = false := by rw [beq_eq_false_iff_ne]; omega
      have a11 : (m == 11) = false := by rw [beq_eq_false_iff_ne]; omega
      have a12 : (m == 12) = false := by rw [beq_eq_false_iff_ne]; omega
      clear h2 h12
      go_enter Tryd.func43, Tryd.ntmps43
      go_wp2
      go_ret
      exact ⟨ret_int hm.out.symm, rfl⟩

theorem year_any (y : Int) (w : World) (h0 : 0 ≤ y) (h1 : y ≤ 100000) :
    Calls Tryd.prog 29 #[.int .i64 y] w fun e w' => e = .returned (.int .i64 (ylen y)) ∧ w = w' := by
  go_enter Tryd.func29, Tryd.ntmps29
  go_wp2_with fail
  refine (leap_any y _ (by omega) (by omega)).mono ?_
  rintro e w' ⟨rfl, rfl⟩
  by_cases hl : leapB y = true
  · have e1 : Hid (ylen y = 366) := by show _ = _; simp [ylen, lday, hl]
    rw [hl]
    go_wp2
    go_ret
    exact ⟨ret_int e1.out.symm, rfl⟩
  · have hl' : leapB y = false := by simpa using hl
    have e1 : Hid (ylen y = 365) := by show _ = _; simp [ylen, lday, hl']
    rw [hl']
    go_wp2
    go_ret
    exact ⟨ret_int e1.out.symm, rfl⟩

set_option maxHeartbeats 1000000 in
theorem size_any (y m : Int) (w : World) (h0 : 0 ≤ y) (h1 : y ≤ 100000) (hm1 : 1 ≤ m) (hm2 : m ≤ 12) :
    Calls Tryd.prog 30 #[.int .i64 y, .int .i64 m] w fun e w' => e = .returned (.int .i64 (mlen y m)) ∧ w = w' := by
  by_cases h2 : m = 2
  · subst h2
    go_enter Tryd.func30, Tryd.ntmps30
    go_wp2_with fail
    refine (leap_any y _ (by omega) (by omega)).mono ?_
    rintro e w' ⟨rfl, rfl⟩
    by_cases hl : leapB y = true
    · have e1 : Hid (mlen y 2 = 29) := by show _ = _; simp [mlen, lday, hl]
      rw [hl]
      go_wp2
      go_ret
      exact ⟨ret_int e1.out.symm, rfl⟩
    · have hl' : leapB y = false := by simpa using hl
      have e1 : Hid (mlen y 2 = 28) := by show _ = _; simp [mlen, lday, hl']
      rw [hl']
      go_wp2
      go_ret
      exact ⟨ret_int e1.out.symm, rfl⟩
  · rcases m12 hm1 hm2 with rfl | rfl | rfl | rfl | rfl | rfl | rfl | rfl | rfl | rfl | rfl | rfl
    all_goals
      first
      | exact absurd rfl h2
      | go_enter Tryd.func30, Tryd.ntmps30
        go_wp2
        go_ret
        exact ⟨ret_int (by simp [mlen]), rfl⟩
end Go.Proofs.YtbemlmhchpinhaaDoor

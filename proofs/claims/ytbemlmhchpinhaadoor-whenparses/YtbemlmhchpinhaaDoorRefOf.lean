/-
  The document's Of by its contract.
-/
import Derived.Test.YtbemlmhchpinhaaDoorRefOfA
import Derived.Test.YtbemlmhchpinhaaDoorRefOfB
import Derived.Test.YtbemlmhchpinhaaDoorRefOfC
import Derived.Test.YtbemlmhchpinhaaDoorRefOfD
namespace Go.Proofs.YtbemlmhchpinhaaDoor
open Go.RowKit

set_option maxHeartbeats 2000000 in
theorem refOf_yes (y m d h i s : Int) (w : World) (c0 : decide (y < 1970) = false) (c1 : decide (y > 9999) = false) (c2 : decide (m < 1) = false) (c3 : decide (m > 12) = false) (c4 : decide (d < 1) = false) (c5 : decide (d > mlen y m) = false) (c6 : decide (h < 0) = false) (c7 : decide (h > 23) = false) (c8 : decide (i < 0) = false) (c9 : decide (i > 59) = false) (c10 : decide (s < 0) = false) (c11 : decide (s > 59) = false) (HO : Hid (ofB y m d h i s = true)) :
    Calls Tryd.prog 12 #[dateV y m d h i s] w fun e w' => e = .returned (.tuple #[.int .i64 (ofN y m d h i s), .bool (ofB y m d h i s)]) ∧ Below w.heap.size w w' := by
  have e2 : Hid (ofN y m d h i s = dayN y m d * 86400 + h * 3600 + i * 60 + s) := by show _ = _; unfold ofN; rw [HO.out]; rfl
  have HF : Hid (1970 ≤ y ∧ y ≤ 9999 ∧ 1 ≤ m ∧ m ≤ 12 ∧ 1 ≤ d ∧ d ≤ mlen y m ∧ 0 ≤ h ∧ h ≤ 23 ∧ 0 ≤ i ∧ i ≤ 59 ∧ 0 ≤ s ∧ s ≤ 59) := by
    show _ ∧ _
    simp only [decide_eq_false_iff_not] at c0 c1 c2 c3 c4 c5 c6 c7 c8 c9 c10 c11
    omega
  have HS : Hid (∀ wx : World, Calls Tryd.prog 30 #[.int .i64 y, .int .i64 m] wx fun e w' => e = .returned (.int .i64 (mlen y m)) ∧ w' = wx) := by
    intro wx
    obtain ⟨a, b, c, d, _⟩ := HF.out
    exact (size_any y m wx (by omega) (by omega) (by omega) (by omega)).mono fun _ _ hh => ⟨hh.1, hh.2.symm⟩
  unfold dateV
  go_enter Tryd.func12, Tryd.ntmps12
  go_wp2_with fail
  go_quiet ((go_at_call 30; exact Calls.quiet_of_same (HS.out _)))
  have hdb : Hid (0 ≤ dayN y m d ∧ dayN y m d ≤ 2932896) := by
    have := HO.out
    exact dayN_bd (by simp only [ofB, Bool.and_eq_true] at this; exact this.1)
  clear c0 c1 c2 c3 c4 c5 c6 c7 c8 c9 c10 c11 HS
  obtain ⟨y0, y1, m0, m1, d0, d1, h0, h1, i0, i1, s0, s1⟩ := HF.out
  have HD : Hid (d ≤ mlen y m) := d1
  have d31 : d ≤ 31 := by have := mlen_bd y m; omega
  clear HF d1
  go_wp2
  go_loop [4, 5] (fun n k => ∃ j : Int, 1970 ≤ j ∧ j ≤ y ∧ k = .int .i64 j ∧ n = .int .i64 (ahead j + d - 1)) (fun _ k => (y - intOf k).toNat)
  case atStart => exact ⟨1970, by omega, by omega, rfl, congrArg (Value.int .i64) (by rw [ahead_1970]; omega)⟩
  case round =>
    obtain ⟨j, hj1, hj2, rfl, rfl⟩ := hrel
    have hL := ahead_low hj1
    have hH := ahead_high hj1
    by_cases hlt : j < y
    · have HS : Hid (ahead (j + 1) = ahead j + ylen j) := ahead_succ j
      have hmb := lday_01 j
      have hyl : 365 ≤ ylen j ∧ ylen j ≤ 366 := by unfold ylen; omega
      clear hmb
      go_wp2_with fail
      refine (year_any j _ (by omega) (by omega)).mono ?_
      rintro e w' ⟨rfl, rfl⟩
      go_wp2
      go_round
      case rel => exact ⟨j + 1, by omega, by omega, by go_num, congrArg (Value.int .i64) (by rw [HS.out]; omega)⟩
      case measure => simp [intOf]; omega
    · have e : j = y := by omega
      subst e
      clear hlt
      go_wp2
      go_loop [4, 6] (fun n k => ∃ q : Int, 1 ≤ q ∧ q ≤ m ∧ k = .int .i64 q ∧ n = .int .i64 (dayN j q d)) (fun _ k => (m - intOf k).toNat)
      case atStart => exact ⟨1, by omega, by omega, rfl, congrArg (Value.int .i64) (by unfold dayN; rw [cum_1]; omega)⟩
      case round =>
        obtain ⟨q, hq1, hq2, rfl, rfl⟩ := hrel
        have hc := cum_bd j (m := q) (by omega) (by omega)
        have hl := lday_01 j
        have hml := mlen_bd j q
        have hyl : ylen j ≤ 366 := by unfold ylen; omega
        have hb : 0 ≤ dayN j q d ∧ dayN j q d ≤ 100000000 := by unfold dayN; omega
        clear hc hl hyl
        by_cases hlt : q < m
        · have HS : Hid (dayN j (q + 1) d = dayN j q d + mlen j q) := by show _ = _; unfold dayN; rw [cum_succ j (by omega) (by omega)]; omega
          go_wp2_with fail
          refine (size_any j q _ (by omega) (by omega) (by omega) (by omega)).mono ?_
          rintro e w' ⟨rfl, rfl⟩
          go_wp2
          go_round
          case rel => exact ⟨q + 1, by omega, by omega, by go_num, by rw [HS.out]⟩
          case measure => simp [intOf]; omega
        · have e : q = m := by omega
          subst e
          clear hb
          have hb := hdb.out
          go_wp2
          go_ret2
          exact ⟨ret_ib e2.out.symm HO.out.symm, below_drewN (Below.alloc (Below.refl _ _) (by simp) _) _⟩

theorem refOf_any (y m d h i s : Int) (w : World) :
    Calls Tryd.prog 12 #[dateV y m d h i s] w fun e w' => e = .returned (.tuple #[.int .i64 (ofN y m d h i s), .bool (ofB y m d h i s)]) ∧ Below w.heap.size w w' := by
  have no : ¬ (1970 ≤ y ∧ y ≤ 9999 ∧ 1 ≤ d ∧ d ≤ mlen y m ∧ 0 ≤ h ∧ h < 24 ∧ 0 ≤ i ∧ i < 60 ∧ 0 ≤ s ∧ s < 60) → Hid (ofB y m d h i s = false) := by
    intro hn
    show _ = _
    rw [← Bool.not_eq_true]
    intro hh
    simp only [ofB, Bool.and_eq_true, dateB, clockB, decide_eq_true_eq] at hh
    exact hn (by omega)
  have hout := fun hh => mlen_out y (m := m) hh
  by_cases c0 : y < 1970
  · exact refOf_no0 y m d h i s w (by simpa using c0) (no (by omega))
  by_cases c1 : y > 9999
  · exact refOf_no1 y m d h i s w (by simpa using c0) (by simpa using c1) (no (by omega))
  by_cases c2 : m < 1
  · exact refOf_no2 y m d h i s w (by simpa using c0) (by simpa using c1) (by simpa using c2) (no (by have := hout (by omega); omega))
  by_cases c3 : m > 12
  · exact refOf_no3 y m d h i s w (by simpa using c0) (by simpa using c1) (by simpa using c2) (by simpa using c3) (no (by have := hout (by omega); omega))
  clear hout
  by_cases c4 : d < 1
  · exact refOf_no4 y m d h i s w (by simpa using c0) (by simpa using c1) (by simpa using c2) (by simpa using c3) (by simpa using c4) (no (by omega))
  by_cases c5 : d > mlen y m
  · exact refOf_no5 y m d h i s w (by simpa using c0) (by simpa using c1) (by simpa using c2) (by simpa using c3) (by simpa using c4) (by simpa using c5) (no (by omega))
  by_cases c6 : h < 0
  · exact refOf_no6 y m d h i s w (by simpa using c0) (by simpa using c1) (by simpa using c2) (by simpa using c3) (by simpa using c4) (by simpa using c5) (by simpa using c6) (no (by omega))
  by_cases c7 : h > 23
  · exact refOf_no7 y m d h i s w (by simpa using c0) (by simpa using c1) (by simpa using c2) (by simpa using c3) (by simpa using c4) (by simpa using c5) (by simpa using c6) (by simpa using c7) (no (by omega))
  by_cases c8 : i < 0
  · exact refOf_no8 y m d h i s w (by simpa using c0) (by simpa using c1) (by simpa using c2) (by simpa using c3) (by simpa using c4) (by simpa using c5) (by simpa using c6) (by simpa using c7) (by simpa using c8) (no (by omega))
  by_cases c9 : i > 59
  · exact refOf_no9 y m d h i s w (by simpa using c0) (by simpa using c1) (by simpa using c2) (by simpa using c3) (by simpa using c4) (by simpa using c5) (by simpa using c6) (by simpa using c7) (by simpa using c8) (by simpa using c9) (no (by omega))
  by_cases c10 : s < 0
  · exact refOf_no10 y m d h i s w (by simpa using c0) (by simpa using c1) (by simpa using c2) (by simpa using c3) (by simpa using c4) (by simpa using c5) (by simpa using c6) (by simpa using c7) (by simpa using c8) (by simpa using c9) (by simpa using c10) (no (by omega))
  by_cases c11 : s > 59
  · exact refOf_no11 y m d h i s w (by simpa using c0) (by simpa using c1) (by simpa using c2) (by simpa using c3) (by simpa using c4) (by simpa using c5) (by simpa using c6) (by simpa using c7) (by simpa using c8) (by simpa using c9) (by simpa using c10) (by simpa using c11) (no (by omega))
  refine refOf_yes y m d h i s w (by simpa using c0) (by simpa using c1) (by simpa using c2) (by simpa using c3) (by simpa using c4) (by simpa using c5) (by simpa using c6) (by simpa using c7) (by simpa using c8) (by simpa using c9) (by simpa using c10) (by simpa using c11) ?_
  show ofB y m d h i s = true
  simp only [ofB, Bool.and_eq_true, dateB, clockB, decide_eq_true_eq]
  omega
end Go.Proofs.YtbemlmhchpinhaaDoor

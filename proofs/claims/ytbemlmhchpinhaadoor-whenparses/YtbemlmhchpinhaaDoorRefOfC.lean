/-
  The document's Of, where an arm of its test says no.
-/
import Derived.Test.YtbemlmhchpinhaaDoorRefOfK
namespace Go.Proofs.YtbemlmhchpinhaaDoor
open Go.RowKit

set_option maxHeartbeats 1000000 in
theorem refOf_no6 (y m d h i s : Int) (w : World) (c0 : decide (y < 1970) = false) (c1 : decide (y > 9999) = false) (c2 : decide (m < 1) = false) (c3 : decide (m > 12) = false) (c4 : decide (d < 1) = false) (c5 : decide (d > mlen y m) = false) (c6 : decide (h < 0) = true) (HO : Hid (ofB y m d h i s = false)) :
    Calls Tryd.prog 12 #[dateV y m d h i s] w fun e w' => e = .returned (.tuple #[.int .i64 (ofN y m d h i s), .bool (ofB y m d h i s)]) ∧ Below w.heap.size w w' := by
  have e2 : Hid (ofN y m d h i s = 0) := by show _ = _; unfold ofN; rw [HO.out]; rfl
  have HS : Hid (∀ wx : World, Calls Tryd.prog 30 #[.int .i64 y, .int .i64 m] wx fun e w' => e = .returned (.int .i64 (mlen y m)) ∧ w' = wx) := by
    intro wx
    simp only [decide_eq_false_iff_not] at c0 c1 c2 c3
    exact (size_any y m wx (by omega) (by omega) (by omega) (by omega)).mono fun _ _ hh => ⟨hh.1, hh.2.symm⟩
  unfold dateV
  go_enter Tryd.func12, Tryd.ntmps12
  go_wp2_with fail
  go_quiet ((go_at_call 30; exact Calls.quiet_of_same (HS.out _)))
  go_wp2
  go_ret2
  exact ⟨ret_ib e2.out.symm HO.out.symm, below_drewN (Below.alloc (Below.refl _ _) (by simp) _) _⟩

set_option maxHeartbeats 1000000 in
theorem refOf_no7 (y m d h i s : Int) (w : World) (c0 : decide (y < 1970) = false) (c1 : decide (y > 9999) = false) (c2 : decide (m < 1) = false) (c3 : decide (m > 12) = false) (c4 : decide (d < 1) = false) (c5 : decide (d > mlen y m) = false) (c6 : decide (h < 0) = false) (c7 : decide (h > 23) = true) (HO : Hid (ofB y m d h i s = false)) :
    Calls Tryd.prog 12 #[dateV y m d h i s] w fun e w' => e = .returned (.tuple #[.int .i64 (ofN y m d h i s), .bool (ofB y m d h i s)]) ∧ Below w.heap.size w w' := by
  have e2 : Hid (ofN y m d h i s = 0) := by show _ = _; unfold ofN; rw [HO.out]; rfl
  have HS : Hid (∀ wx : World, Calls Tryd.prog 30 #[.int .i64 y, .int .i64 m] wx fun e w' => e = .returned (.int .i64 (mlen y m)) ∧ w' = wx) := by
    intro wx
    simp only [decide_eq_false_iff_not] at c0 c1 c2 c3
    exact (size_any y m wx (by omega) (by omega) (by omega) (by omega)).mono fun _ _ hh => ⟨hh.1, hh.2.symm⟩
  unfold dateV
  go_enter Tryd.func12, Tryd.ntmps12
  go_wp2_with fail
  go_quiet ((go_at_call 30; exact Calls.quiet_of_same (HS.out _)))
  go_wp2
  go_ret2
  exact ⟨ret_ib e2.out.symm HO.out.symm, below_drewN (Below.alloc (Below.refl _ _) (by simp) _) _⟩

set_option maxHeartbeats 1000000 in
theorem refOf_no8 (y m d h i s : Int) (w : World) (c0 : decide (y < 1970) = false) (c1 : decide (y > 9999) = false) (c2 : decide (m < 1) = false) (c3 : decide (m > 12) = false) (c4 : decide (d < 1) = false) (c5 : decide (d > mlen y m) = false) (c6 : decide (h < 0) = false) (c7 : decide (h > 23) = false) (c8 : decide (i < 0) = true) (HO : Hid (ofB y m d h i s = false)) :
    Calls Tryd.prog 12 #[dateV y m d h i s] w fun e w' => e = .returned (.tuple #[.int .i64 (ofN y m d h i s), .bool (ofB y m d h i s)]) ∧ Below w.heap.size w w' := by
  have e2 : Hid (ofN y m d h i s = 0) := by show _ = _; unfold ofN; rw [HO.out]; rfl
  have HS : Hid (∀ wx : World, Calls Tryd.prog 30 #[.int .i64 y, .int .i64 m] wx fun e w' => e = .returned (.int .i64 (mlen y m)) ∧ w' = wx) := by
    intro wx
    simp only [decide_eq_false_iff_not] at c0 c1 c2 c3
    exact (size_any y m wx (by omega) (by omega) (by omega) (by omega)).mono fun _ _ hh => ⟨hh.1, hh.2.symm⟩
  unfold dateV
  go_enter Tryd.func12, Tryd.ntmps12
  go_wp2_with fail
  go_quiet ((go_at_call 30; exact Calls.quiet_of_same (HS.out _)))
  go_wp2
  go_ret2
  exact ⟨ret_ib e2.out.symm HO.out.symm, below_drewN (Below.alloc (Below.refl _ _) (by simp) _) _⟩

end Go.Proofs.YtbemlmhchpinhaaDoor

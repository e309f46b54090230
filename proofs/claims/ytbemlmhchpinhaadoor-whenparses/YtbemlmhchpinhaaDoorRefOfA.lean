/-
  The document's Of, where an arm of its test says no.
-/
import Derived.Test.YtbemlmhchpinhaaDoorRefOfK
namespace Go.Proofs.YtbemlmhchpinhaaDoor
open Go.RowKit

set_option maxHeartbeats 1000000 in
theorem refOf_no0 (y m d h i s : Int) (w : World)  (c0 : decide (y < 1970) = true) (HO : Hid (ofB y m d h i s = false)) :
    Calls Tryd.prog 12 #[dateV y m d h i s] w fun e w' => e = .returned (.tuple #[.int .i64 (ofN y m d h i s), .bool (ofB y m d h i s)]) ∧ Below w.heap.size w w' := by
  have e2 : Hid (ofN y m d h i s = 0) := by show _ = _; unfold ofN; rw [HO.out]; rfl
  unfold dateV
  go_enter Tryd.func12, Tryd.ntmps12
  go_wp2_with fail
  go_quiet (fail)
  go_wp2
  go_ret2
  exact ⟨ret_ib e2.out.symm HO.out.symm, below_drewN (Below.alloc (Below.refl _ _) (by simp) _) _⟩

set_option maxHeartbeats 1000000 in
theorem refOf_no1 (y m d h i s : Int) (w : World) (c0 : decide (y < 1970) = false) (c1 : decide (y > 9999) = true) (HO : Hid (ofB y m d h i s = false)) :
    Calls Tryd.prog 12 #[dateV y m d h i s] w fun e w' => e = .returned (.tuple #[.int .i64 (ofN y m d h i s), .bool (ofB y m d h i s)]) ∧ Below w.heap.size w w' := by
  have e2 : Hid (ofN y m d h i s = 0) := by show _ = _; unfold ofN; rw [HO.out]; rfl
  unfold dateV
  go_enter Tryd.func12, Tryd.ntmps12
  go_wp2_with fail
  go_quiet (fail)
  go_wp2
  go_ret2
  exact ⟨ret_ib e2.out.symm HO.out.symm, below_drewN (Below.alloc (Below.refl _ _) (by simp) _) _⟩

set_option maxHeartbeats 1000000 in
theorem refOf_no2 (y m d h i s : Int) (w : World) (c0 : decide (y < 1970) = false) (c1 : decide (y > 9999) = false) (c2 : decide (m < 1) = true) (HO : Hid (ofB y m d h i s = false)) :
    Calls Tryd.prog 12 #[dateV y m d h i s] w fun e w' => e = .returned (.tuple #[.int .i64 (ofN y m d h i s), .bool (ofB y m d h i s)]) ∧ Below w.heap.size w w' := by
  have e2 : Hid (ofN y m d h i s = 0) := by show _ = _; unfold ofN; rw [HO.out]; rfl
  unfold dateV
  go_enter Tryd.func12, Tryd.ntmps12
  go_wp2_with fail
  go_quiet (fail)
  go_wp2
  go_ret2
  exact ⟨ret_ib e2.out.symm HO.out.symm, below_drewN (Below.alloc (Below.refl _ _) (by simp) _) _⟩

end Go.Proofs.YtbemlmhchpinhaaDoor

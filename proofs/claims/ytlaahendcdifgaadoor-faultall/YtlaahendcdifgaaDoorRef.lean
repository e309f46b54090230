/-
  The document's names and statuses.
-/
import Derived.Test.YtlaahendcdifgaaDoorNam
namespace Go.Proofs.YtlaahendcdifgaaDoor
open Go.RowKit

set_option maxRecDepth 20000 in
theorem names_any (w : World) :
    Calls Tryd.prog 19 #[] w fun r w' => r = .returned (.slice (some ⟨w.heap.size, 0, none⟩) 42 42) ∧ w' = w.alloc (.cells ((nmL.map fun x => Value.string x.1).toArray) 9) := by
  go_enter Tryd.func19, Tryd.ntmps19
  go_wp2
  go_ret
  exact ⟨rfl, rfl⟩
set_option maxRecDepth 20000 in
theorem stats_any (w : World) :
    Calls Tryd.prog 21 #[] w fun r w' => r = .returned (.slice (some ⟨w.heap.size, 0, none⟩) 42 42) ∧ w' = w.alloc (.cells ((nmL.map fun x => Value.int .i64 x.2).toArray) 3) := by
  go_enter Tryd.func21, Tryd.ntmps21
  go_wp2
  go_ret
  exact ⟨rfl, rfl⟩
end Go.Proofs.YtlaahendcdifgaaDoor

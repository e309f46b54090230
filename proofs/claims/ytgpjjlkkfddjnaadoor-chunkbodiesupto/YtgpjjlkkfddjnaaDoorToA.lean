/-
  stowagelaw19.To.
-/
import Derived.Test.YtgpjjlkkfddjnaaDoorLwA
namespace Go.Proofs.YtgpjjlkkfddjnaaDoor
open Go.RowKit

theorem size30 : (Tryd.prog.info? 30).map (·.size) = some 6 := by kernel_rfl
set_option maxRecDepth 20000 in
set_option maxHeartbeats 4000000 in
theorem to_any (x : Wh) (ka : Option Addr) (kc : Nat) (w : World) : Calls Tryd.prog 11 #[x.v ka kc] w fun e w' => e = .returned (x.v ka kc) ∧ Below w.heap.size w w' := by
  unfold Wh.v
  go_enter Tryd.func11, Tryd.ntmps11
  go_wp2_with fail
  refine bodyPost_ret (results_cell_row rfl _ _ (w.heap.size + 1) 30 _ (0, 0) _ rfl (heap_alloc2_new w _ _) Tryd.underlying30 rfl size30) rfl ?_
  exact ⟨rfl, ((Below.refl _ _).alloc (Nat.le_refl _) _).trans (((Below.refl _ _).alloc (Nat.le_refl _) _).mono (((Below.refl _ w).alloc (Nat.le_refl _) _).size))⟩
end Go.Proofs.YtgpjjlkkfddjnaaDoor

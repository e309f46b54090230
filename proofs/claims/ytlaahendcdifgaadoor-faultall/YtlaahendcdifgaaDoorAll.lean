/-
  fault.All.
-/
import Derived.Test.YtlaahendcdifgaaDoorAwk
import Derived.OwnWalk
namespace Go.Proofs.YtlaahendcdifgaaDoor
open Go.RowKit

theorem info22 : (Tryd.prog.info? 22).map (fun i => (i.zero, i.size, i.bytes)) = some (some (.int .i64 0), 1, 8) := by kernel_rfl
def allC (k : Nat) : List Value := (List.range k).map fun j : Nat => .int .i64 (300 + (j : Int))
theorem allC_succ (k : Nat) : allC (k + 1) = allC k ++ [.int .i64 (300 + (k : Int))] := by
  simp [allC, List.range_succ]
theorem one_one (x : Value) (h : x.oneCell' = true) : ∀ u ∈ [x], u.oneCell' = true := by
  intro u hu
  simp only [List.mem_singleton] at hu
  subst hu
  exact h
set_option maxRecDepth 20000 in
set_option maxHeartbeats 1600000 in
theorem all_any (w : World) :
    Calls Tryd.prog 18 #[] w fun e w' => ∃ v, e = .returned v ∧ w'.ownsRow w.heap.size 22 1 v 42 (allC 42) ∧ Below w.heap.size w w' := by
  obtain ⟨i0, hi, hz0, hz1, hz2⟩ := info_parts info22
  go_enter Tryd.func18, Tryd.ntmps18
  go_wp2_with (at_make; refine wpList_make_own _ rfl _ _ 44 rfl w.heap.size 22 i0 (.int .i64 0) 1 Tryd.underlying44 hi hz0 hz1 _ _ _ 42 rfl rfl (by omega) (by rw [hz2]; omega) (by unfold maxLen; omega) (Nat.le_refl _) ?_; intro w0 hown0 hgrow0)
  have H0 : Hid (w0.ownsRow w.heap.size 22 1 (.slice (some ⟨w.heap.size, 0, none⟩) 0 42) 0 [] ∧ Below w.heap.size w w0) := ⟨hown0, (Below.refl _ _).grown hgrow0 (Nat.le_refl _) (by intro k h; cases h)⟩
  clear hown0 hgrow0
  go_loopw [1, 2] (fun v e wx => ∃ k : Nat, k ≤ 42 ∧ e = .int .i64 (300 + (k : Int)) ∧ wx.ownsRow w.heap.size 22 1 v k (allC k) ∧ Below w.heap.size w wx) (fun _ e _ => 342 - (intOf e).toNat)
  case atStart => exact ⟨0, by omega, rfl, H0.out.1, H0.out.2⟩
  case round =>
    obtain ⟨k, hk, rfl, hown, hb⟩ := hrel
    have hsz := hb.size
    by_cases hlt : k < 42
    · have HO : Hid (wr.ownsRow w.heap.size 22 1 u1 k (allC k) ∧ Below w.heap.size w wr) := ⟨hown, hb⟩
      clear hown hb
      go_wp2_with (at_builtin; refine wpList_append_own _ rfl (.tmp 8) (.tmp 10) 44 rfl w.heap.size 22 i0 (.int .i64 0) 1 8 Tryd.underlying44 hi hz0 hz1 hz2 rfl (by decide) _ _ _ rfl (World.ownsRow.alloc HO.out.1 _) ⟨wr.heap.size, 0, none⟩ 1 1 [.int .i64 (300 + (k : Int))] rfl rfl (cell_one_new _ _ _) (one_one _ rfl) (by unfold maxLen; omega) (by omega) (by simp; omega) ?_; intro v1 w1 hown1 hgrow1 _)
      have HR : Hid (w1.ownsRow w.heap.size 22 1 v1 (k + 1) (allC (k + 1)) ∧ Below w.heap.size w w1) := by
        refine ⟨by rw [allC_succ]; exact hown1, (HO.out.2.alloc hsz _).grown hgrow1 (by simp; omega) (fun j hj => ?_)⟩
        exact (HO.out.1.lt j hj).1
      clear hown1 hgrow1
      go_wp2
      exact ⟨⟨k + 1, by omega, int_eq (by omega), HR.out.1, HR.out.2⟩, by simp only [intOf]; omega⟩
    · obtain rfl : k = 42 := by omega
      have HO : Hid (wr.ownsRow w.heap.size 22 1 u1 42 (allC 42) ∧ Below w.heap.size w wr) := ⟨hown, hb⟩
      clear hown hb
      go_wp2
      go_ret
      exact ⟨_, rfl, HO.out.1, HO.out.2⟩
end Go.Proofs.YtlaahendcdifgaaDoor

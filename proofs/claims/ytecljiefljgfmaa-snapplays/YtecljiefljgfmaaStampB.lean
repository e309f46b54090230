/-
  Two slices of bytes laid side by side.
-/
import Derived.Test.YtecljiefljgfmaaConcat
namespace Go.Proofs.Ytecljiefljgfmaa
open Go.RowKit

/-- Two slices of bytes laid side by side. -/
theorem two_rows {w w' : World} {x y : Sl} (hw : w' = w.alloc (.cells #[x.v, y.v] 50)) (h1 : Bytes w x.a x.l) (n1 : x.a = none → x.c = 0) (h2 : Bytes w y.a y.l) (n2 : y.a = none → y.c = 0) : Rws w' w.heap.size [x, y] := by
  have hb : Below w.heap.size w w' := by rw [hw]; exact (Below.refl _ _).alloc (Nat.le_refl _) _
  have hblk : w'.heap[w.heap.size]? = some (.cells #[x.v, y.v] 50 (0, 0)) := by rw [hw]; exact heap_alloc_new w _
  refine ⟨(Array.getElem?_eq_some_iff.1 hblk).1, fun j hj => ?_⟩
  have hj2 : j < 2 := hj
  rcases (by omega : j = 0 ∨ j = 1) with rfl | rfl
  · exact ⟨cell_blk hblk 0, h1.below hb (Nat.le_refl _), n1⟩
  · exact ⟨cell_blk hblk 1, h2.below hb (Nat.le_refl _), n2⟩

end Go.Proofs.Ytecljiefljgfmaa

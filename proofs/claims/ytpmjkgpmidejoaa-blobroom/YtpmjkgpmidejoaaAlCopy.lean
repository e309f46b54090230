/-
  Copy, and what the document fixes.
-/
import Derived.Test.YtpmjkgpmidejoaaAlTold
import Derived.Deep.WholeRow
import Derived.Laws.Tables
namespace Go.Proofs.Ytpmjkgpmidejoaa.Al
open Go.RowKit Go.Shelf

theorem size129 (n : Nat) (W : Nat → Nat) : (Try.prog.info? 129).map (·.size) = some (scells n W).toArray.size := by
  rw [List.size_toArray, scells_len]
  kernel_rfl
theorem scells_all (n : Nat) (W : Nat → Nat) : (scells n W).toArray.all (·.oneCell') = true := by
  rw [List.all_toArray, List.all_eq_true]
  intro u hu
  rw [scells, List.mem_cons] at hu
  rcases hu with rfl | hu
  · rfl
  · obtain ⟨q, _, rfl⟩ := List.mem_map.1 hu
    rfl

theorem copy_any (w : World) (b : Nat) (L : List Bool) (h : Spc w b L) :
    Calls Try.prog 75 #[.pointer (some ⟨b, 0, none⟩)] w fun e w' => e = .returned (.pointer (some ⟨w.heap.size, 0, none⟩)) ∧ Spc w' w.heap.size L ∧ Below w.heap.size w w' := by
  have hlt := h.lt
  obtain ⟨hl, W, h1, hb, h2⟩ := h
  have hz : (zeroValue 129).run Try.prog w = .ok (.agg (scells 0 fun _ => 0).toArray) w := (zero_of_info (P := Try.prog) (t := 129) (v := .agg (scells 0 fun _ => 0).toArray) (n := 65) (by kernel_rfl)).1 w
  have HN : Hid ((w.alloc (.cells (scells 0 fun _ => 0).toArray 129)).heap[w.heap.size]? = some (.cells (scells 0 fun _ => 0).toArray 129 (0, 0))) := heap_alloc_new w _
  have HB : Hid (w.heap[b]? = some (.cells (scells L.length W).toArray 129 (0, 0))) := hb
  clear hb
  go_enter Try.func75, Try.ntmps75
  go_wp2_with (first
    | refine wpList_load_row rfl 129 _ rfl _ rfl 129 _ (0, 0) _ HB.out Try.underlying129 rfl (size129 _ _) ?_
    | refine wpList_store_row rfl 129 _ _ rfl _ _ rfl rfl 129 _ HN.out (size129 _ _) (by rw [List.size_toArray, List.size_toArray, scells_len, scells_len]) (scells_all _ _) ?_)
  go_ret
  refine ⟨rfl, ⟨hl, W, h1, setRow_heap _ _ _ _ _ _ HN.out, h2⟩, ((Below.refl _ w).alloc (Nat.le_refl _) _).trans ⟨rfl, rfl, rfl, by simp, fun j hj => setRow_other _ _ _ _ (by omega)⟩⟩

end Go.Proofs.Ytpmjkgpmidejoaa.Al

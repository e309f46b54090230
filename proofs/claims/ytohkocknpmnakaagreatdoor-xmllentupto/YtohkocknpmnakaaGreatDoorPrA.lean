/-
  Of; Print of an element without kids.
-/
import Derived.Test.YtohkocknpmnakaaGreatDoorRfG
import Derived.Test.YtohkocknpmnakaaGreatDoorPar
namespace Go.Proofs.YtohkocknpmnakaaGreatDoor
open Go.RowKit

theorem size24 : (Tryz.prog.info? 24).map (·.size) = some 3 := by kernel_rfl
theorem of_any (n t : ByteArray) (w : World) :
    Calls Tryz.prog 19 #[.string n, .string t] w fun e w' => e = .returned (.agg #[.string n, .string t, .slice none 0 0]) ∧ Below w.heap.size w w' := by
  go_enter Tryz.func19, Tryz.ntmps19
  go_wp2
  refine bodyPost_ret (results_cell_row rfl _ _ w.heap.size 24 #[.string n, .string t, .slice none 0 0] (0, 0) _ rfl (heap_alloc_new w _) Tryz.underlying24 rfl size24) rfl ⟨rfl, ?_⟩
  exact (Below.refl _ _).alloc (Nat.le_refl _) _
/-- A text that is not empty. -/
theorem ne_list (t : List UInt8) (h : t ≠ []) : (⟨t.toArray⟩ : ByteArray).toList.isEmpty = false := by
  rw [Lib.toList_data]
  cases t with
  | nil => exact absurd rfl h
  | cons a b => rfl
set_option maxHeartbeats 1600000 in
theorem sound_leaf (n t : List UInt8) (w : World) (hn : n.length ≤ 65536) (ht : t.length ≤ 65536) (h1 : nameB n = true) (h2 : (cntP xmlP t).isSome = true) (h3 : t ≠ []) :
    Calls Tryz.prog 88 #[.agg #[.string ⟨n.toArray⟩, .string ⟨t.toArray⟩, .slice none 0 0]] w fun e w' => e = .returned (.bool true) ∧ Below w.heap.size w w' := by
  have KN := (show Hid (∀ W, Calls Tryz.prog 22 #[.string ⟨n.toArray⟩] W fun e w' => e = .returned (.bool true) ∧ Below W.heap.size W w') from fun W => by
    have := name_code n W (by unfold maxLen; omega)
    rw [h1] at this
    exact this)
  have KL := (show Hid (∀ W, Calls Tryz.prog 26 #[.string ⟨t.toArray⟩] W fun e w' => e = .returned (.bool true) ∧ Below W.heap.size W w') from fun W => by
    have := legal_any ⟨t.toArray⟩ W (by rw [mk_size]; unfold maxLen; omega)
    rw [h2] at this
    exact this)
  obtain ⟨w0, hw0⟩ : ∃ w0, w0 = w.alloc (.cells #[.string ⟨n.toArray⟩, .string ⟨t.toArray⟩, .slice none 0 0] 24) := ⟨_, rfl⟩
  have hbx : Bx w0 w.heap.size n t (.slice none 0 0) := by rw [hw0]; exact heap_alloc_new w _
  have hb0 : Below w.heap.size w w0 := by rw [hw0]; exact (Below.refl _ _).alloc (Nat.le_refl _) _
  have hte := ne_list t h3
  obtain ⟨T, hT⟩ : ∃ T : ByteArray, T = ⟨t.toArray⟩ := ⟨_, rfl⟩
  have HT : Hid (T = ⟨t.toArray⟩) := hT
  have H0 : Hid (Bx w0 w.heap.size n t (.slice none 0 0) ∧ Below w.heap.size w w0) := ⟨hbx, hb0⟩
  rw [← hT] at hte hw0 KL
  rw [← hT]
  clear hT hbx hb0
  go_enter Tryz.func88, Tryz.ntmps88
  go_wp2_with fail
  rw [← hw0]
  clear hw0
  refine (KN.out _).mono ?_
  rintro e w1 ⟨rfl, hb1⟩
  have bx1 := H0.out.1.keep (Md.ofBelow (F := fun _ => False) hb1) (fun h => h)
  have c1 := cell_blk bx1 1
  have c2 := cell_blk bx1 2
  simp only [← HT.out, List.getElem?_toArray] at c1 c2
  have HB1 : Hid (Bx w1 w.heap.size n t (.slice none 0 0) ∧ Below w.heap.size w w1) := ⟨bx1, H0.out.2.trans (hb1.mono H0.out.2.size)⟩
  clear bx1 hb1
  go_wp2_with fail
  refine (KL.out _).mono ?_
  rintro e w2 ⟨rfl, hb2⟩
  have bx2 := HB1.out.1.keep (Md.ofBelow (F := fun _ => False) hb2) (fun h => h)
  have d1 := cell_blk bx2 1
  have d2 := cell_blk bx2 2
  simp only [← HT.out, List.getElem?_toArray] at d1 d2
  have HB2 : Hid (Below w.heap.size w w2) := HB1.out.2.trans (hb2.mono HB1.out.2.size)
  clear bx2 hb2 c1 c2
  go_wp2
  go_ret
  exact ⟨rfl, HB2.out⟩
end Go.Proofs.YtohkocknpmnakaaGreatDoor

/-
  UnpackVersion by its contract.
-/
import Derived.Test.YtbhiabcgjnfpoaaGreatDoorRun20
namespace Go.Proofs.YtbhiabcgjnfpoaaGreatDoor
open Go.RowKit

theorem alloc_stays {w w2 : World} {o : Obj} (hb : Below (w.alloc o).heap.size (w.alloc o) w2) : w2.heap[w.heap.size]? = some o := by
  have hlt : w.heap.size < (w.alloc o).heap.size := by show w.heap.size < (w.heap.push o).size; simp
  exact (hb.block _ hlt).trans (heap_alloc_new w o)
theorem alloc_below {w w2 : World} {o : Obj} (hb : Below (w.alloc o).heap.size (w.alloc o) w2) : Below w.heap.size w w2 :=
  step_below ((Below.refl _ w).alloc (Nat.le_refl _) o) hb (Nat.le_refl _)
theorem alloc_size (w : World) (o : Obj) : (w.alloc o).heap.size = w.heap.size + 1 := by show (w.heap.push o).size = _; simp

set_option maxRecDepth 20000 in
set_option maxHeartbeats 8000000 in
theorem unpackVersion_yes (x : ByteArray) (l : List UInt8) (hxl : l = x.data.toList) (w : World) (hx : x.size ≤ 8388608) (hy : vs11 (stt l) = some []) :
    Calls Tryz.prog 17 #[.string x] w fun e w' => ∃ a8 n8 c8 a9 n9 c9, e = .returned (.tuple #[.agg #[.string (txV (stt l)), .int .i64 (nuV (vs1 (stt l))), .bool (fgV (vs2 (stt l))), .bool (fgV (vs3 (stt l))), .string (txV (vs4 (stt l))), .int .i64 (nuV (vs5 (stt l))), .int .i64 (nuV (vs6 (stt l))), .string (txV (vs7 (stt l))), .slice a8 n8 c8, .slice a9 n9 c9, .int .i64 (nuV (vs10 (stt l))), .int .i64 (nuV (tkS nuG (vs10 (stt l))))], .bool true]) ∧ Below w.heap.size w w' ∧ w'.ownsRow w.heap.size 81 2 (.slice a8 n8 c8) n8 (pcs (lsV prV prS (vs8 (stt l)))) ∧ n8 = (lsV prV prS (vs8 (stt l))).length ∧ w'.ownsRow w.heap.size 72 2 (.slice a9 n9 c9) n9 (pcs (lsV prV prS (vs9 (stt l)))) ∧ n9 = (lsV prV prS (vs9 (stt l))).length := by
  have HK := (show Hid (∀ W, _) from fun W => unpackV62_yes x l hxl W hx hy)
  clear hxl hx hy
  go_enter Tryz.func17, Tryz.ntmps17
  go_wp2_with fail
  refine Calls.mono (HK.out _) ?_
  rintro e w1 ⟨a8, n8, c8, a9, n9, c9, rfl, hb1, q1, q2, q3, q4⟩
  have hbx := alloc_stays hb1
  have HE : Hid (Below w.heap.size w w1 ∧ w1.heap[w.heap.size]? = some (.cells #[.string ⟨#[]⟩, .int .i64 0, .bool false, .bool false, .string ⟨#[]⟩, .int .i64 0, .int .i64 0, .string ⟨#[]⟩, .slice none 0 0, .slice none 0 0, .int .i64 0, .int .i64 0] 30 (0, 0)) ∧ w1.ownsRow (w.heap.size + 1) 81 2 (.slice a8 n8 c8) n8 (pcs (lsV prV prS (vs8 (stt l)))) ∧ n8 = (lsV prV prS (vs8 (stt l))).length ∧ w1.ownsRow (w.heap.size + 1) 72 2 (.slice a9 n9 c9) n9 (pcs (lsV prV prS (vs9 (stt l)))) ∧ n9 = (lsV prV prS (vs9 (stt l))).length) := by
    rw [alloc_size] at q1 q3
    exact ⟨alloc_below hb1, hbx, q1, q2, q3, q4⟩
  have kc0 := cell_blk hbx 0
  have kc1 := cell_blk hbx 1
  have kc2 := cell_blk hbx 2
  have kc3 := cell_blk hbx 3
  have kc4 := cell_blk hbx 4
  have kc5 := cell_blk hbx 5
  have kc6 := cell_blk hbx 6
  have kc7 := cell_blk hbx 7
  have kc8 := cell_blk hbx 8
  have kc9 := cell_blk hbx 9
  have kc10 := cell_blk hbx 10
  have kc11 := cell_blk hbx 11
  have kf0 := frozen_blk hbx 0
  have kf1 := frozen_blk hbx 1
  have kf2 := frozen_blk hbx 2
  have kf3 := frozen_blk hbx 3
  have kf4 := frozen_blk hbx 4
  have kf5 := frozen_blk hbx 5
  have kf6 := frozen_blk hbx 6
  have kf7 := frozen_blk hbx 7
  have kf8 := frozen_blk hbx 8
  have kf9 := frozen_blk hbx 9
  have kf10 := frozen_blk hbx 10
  have kf11 := frozen_blk hbx 11
  simp only [List.getElem?_toArray] at kc0 kc1 kc2 kc3 kc4 kc5 kc6 kc7 kc8 kc9 kc10 kc11
  clear hb1 q1 q2 q3 q4 hbx
  go_wp2
  (try simp only [Exit.inBlock, Exit.then])
  refine bodyPost_ret (ret_box30 rfl _ _ rfl (setB12 HE.out.2.1 _ _ _ _ _ _ _ _ _ _ _ _)) rfl ⟨a8, n8, c8, a9, n9, c9, rfl, ?_, ?_, HE.out.2.2.2.1, ?_, HE.out.2.2.2.2.2⟩
  · exact Md.toBelow HE.out.1 (setM12 (Md.refl (fun b => b = w.heap.size) w1) (.inl rfl) _ _ _ _ _ _ _ _ _ _ _ _) (fun b hb he => by omega) (Nat.le_refl _)
  · exact own_base (own_md HE.out.2.2.1 (setM12 (Md.refl (fun b => b = w.heap.size) w1) (.inl rfl) _ _ _ _ _ _ _ _ _ _ _ _) (fun j hj he => by have := (HE.out.2.2.1.lt j hj).1; omega)) (by omega)
  · exact own_base (own_md HE.out.2.2.2.2.1 (setM12 (Md.refl (fun b => b = w.heap.size) w1) (.inl rfl) _ _ _ _ _ _ _ _ _ _ _ _) (fun j hj he => by have := (HE.out.2.2.2.2.1.lt j hj).1; omega)) (by omega)

set_option maxRecDepth 20000 in
set_option maxHeartbeats 8000000 in
theorem unpackVersion_no (x : ByteArray) (l : List UInt8) (hxl : l = x.data.toList) (w : World) (hx : x.size ≤ 8388608) (hy : vs11 (stt l) ≠ some []) :
    Calls Tryz.prog 17 #[.string x] w fun e w' => e = .returned (.tuple #[.agg #[.string ⟨#[]⟩, .int .i64 0, .bool false, .bool false, .string ⟨#[]⟩, .int .i64 0, .int .i64 0, .string ⟨#[]⟩, .slice none 0 0, .slice none 0 0, .int .i64 0, .int .i64 0], .bool false]) ∧ Below w.heap.size w w' := by
  have HK := (show Hid (∀ W, _) from fun W => unpackV62_no x l hxl W hx hy)
  clear hxl hx hy
  go_enter Tryz.func17, Tryz.ntmps17
  go_wp2_with fail
  refine Calls.mono (HK.out _) ?_
  rintro e w1 ⟨rfl, hb1⟩
  have hbx := alloc_stays hb1
  have HE : Hid (Below w.heap.size w w1 ∧ w1.heap[w.heap.size]? = some (.cells #[.string ⟨#[]⟩, .int .i64 0, .bool false, .bool false, .string ⟨#[]⟩, .int .i64 0, .int .i64 0, .string ⟨#[]⟩, .slice none 0 0, .slice none 0 0, .int .i64 0, .int .i64 0] 30 (0, 0))) := ⟨alloc_below hb1, hbx⟩
  have kc0 := cell_blk hbx 0
  have kc1 := cell_blk hbx 1
  have kc2 := cell_blk hbx 2
  have kc3 := cell_blk hbx 3
  have kc4 := cell_blk hbx 4
  have kc5 := cell_blk hbx 5
  have kc6 := cell_blk hbx 6
  have kc7 := cell_blk hbx 7
  have kc8 := cell_blk hbx 8
  have kc9 := cell_blk hbx 9
  have kc10 := cell_blk hbx 10
  have kc11 := cell_blk hbx 11
  have kf0 := frozen_blk hbx 0
  have kf1 := frozen_blk hbx 1
  have kf2 := frozen_blk hbx 2
  have kf3 := frozen_blk hbx 3
  have kf4 := frozen_blk hbx 4
  have kf5 := frozen_blk hbx 5
  have kf6 := frozen_blk hbx 6
  have kf7 := frozen_blk hbx 7
  have kf8 := frozen_blk hbx 8
  have kf9 := frozen_blk hbx 9
  have kf10 := frozen_blk hbx 10
  have kf11 := frozen_blk hbx 11
  simp only [List.getElem?_toArray] at kc0 kc1 kc2 kc3 kc4 kc5 kc6 kc7 kc8 kc9 kc10 kc11
  clear hb1 hbx
  go_wp2
  (try simp only [Exit.inBlock, Exit.then])
  refine bodyPost_ret (ret_box30 rfl _ _ rfl (setB12 HE.out.2 _ _ _ _ _ _ _ _ _ _ _ _)) rfl ⟨rfl, ?_⟩
  exact Md.toBelow HE.out.1 (setM12 (Md.refl (fun b => b = w.heap.size) w1) (.inl rfl) _ _ _ _ _ _ _ _ _ _ _ _) (fun b hb he => by omega) (Nat.le_refl _)
end Go.Proofs.YtbhiabcgjnfpoaaGreatDoor

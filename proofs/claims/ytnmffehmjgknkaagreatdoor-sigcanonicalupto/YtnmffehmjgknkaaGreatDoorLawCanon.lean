/-
  SigCanonical: the walk.
-/
import Derived.Test.YtnmffehmjgknkaaGreatDoorCnW
import Derived.Test.YtnmffehmjgknkaaGreatDoorRdW
import Derived.Test.YtnmffehmjgknkaaGreatDoorAwE
namespace Go.Proofs.YtnmffehmjgknkaaGreatDoor
open Go.RowKit

set_option maxRecDepth 20000 in
set_option maxHeartbeats 4000000 in
theorem sigCanonical_walk (m tg : List UInt8) (ha : Option Addr) (hs : List Hd) (hcap : Nat) (bv : Value) (sa : Option Addr) (sg : List (List UInt8)) (scap : Nat) (pl : List UInt8) (pre : Bool) (w : World)
    (hB : CnB m tg hs sg pl) (hH : Hdrs w ha hs) (hS : Strs w sa (toB sg)) (hsc : sg.length ≤ scap) (hM : Mx w) (hP : Px w) :
    Calls Tryz.prog 3 #[.agg #[.string ⟨m.toArray⟩, .string ⟨tg.toArray⟩, .slice ha hs.length hcap, bv], .slice sa sg.length scap, .string ⟨pl.toArray⟩, .bool pre] w fun e w' => e = .returned (.bool true) ∧ Below w.heap.size w w' := by
  have HI := (show Hid (Mx w) from hM)
  obtain ⟨C, hC⟩ : ∃ C : ByteArray, C = ⟨(cnV m tg hs sg pl pre).toArray⟩ := ⟨_, rfl⟩
  obtain ⟨E, hE⟩ : ∃ E, E = cnE tg pre := ⟨_, rfl⟩
  have hEE : E = 0 ∨ E = 331 := by rw [hE, cnE]; split <;> simp
  have C1 := (show Hid (∀ W, Below w.heap.size w W → Calls Tryz.prog 9 #[.agg #[.string ⟨m.toArray⟩, .string ⟨tg.toArray⟩, .slice ha hs.length hcap, bv], .slice sa sg.length scap, .string ⟨pl.toArray⟩, .bool pre] W fun e w' => e = .returned (.tuple #[.string C, .int .i64 E]) ∧ Below W.heap.size W w') from fun W hb => by
    rw [hC, hE]
    cases pre
    · exact canon_f m tg ha hs hcap bv sa sg scap pl W hB (hH.below hb (Nat.le_refl _)) (hS.below hb (Nat.le_refl _)) hsc (hM.below hb (Nat.le_refl _)) (hP.below hb (Nat.le_refl _))
    · exact canon_t m tg ha hs hcap bv sa sg scap pl W hB (hH.below hb (Nat.le_refl _)) (hS.below hb (Nat.le_refl _)) hsc (hM.below hb (Nat.le_refl _)) (hP.below hb (Nat.le_refl _)))
  have C2 := (show Hid (∀ W, Below w.heap.size w W → Calls Tryz.prog 10 #[.agg #[.string ⟨m.toArray⟩, .string ⟨tg.toArray⟩, .slice ha hs.length hcap, bv], .slice sa sg.length scap, .string ⟨pl.toArray⟩, .bool pre] W fun e w' => e = .returned (.tuple #[.string C, .int .i64 E]) ∧ Below W.heap.size W w') from fun W hb => by
    rw [hC, hE]
    exact rcanon m tg ha hs hcap bv sa sg scap pl pre W hB (hH.below hb (Nat.le_refl _)) (hS.below hb (Nat.le_refl _)) hsc)
  have hCC : (C.toList == C.toList) = true := by simp
  clear hB hH hS hsc hM hP hC hE
  go_enter Tryz.func3, Tryz.ntmps3
  go_upto_region 1 with fail
  obtain ⟨W, hW⟩ : ∃ W, W = w.alloc (.cells #[.string ⟨m.toArray⟩, .string ⟨tg.toArray⟩, .slice ha hs.length hcap, bv] 25) := ⟨_, rfl⟩
  obtain ⟨A, hA⟩ : ∃ A, A = w.heap.size := ⟨_, rfl⟩
  have nA : W.heap[A]? = some (.cells #[.string ⟨m.toArray⟩, .string ⟨tg.toArray⟩, .slice ha hs.length hcap, bv] 25 (0, 0)) := by rw [hW, hA]; exact heap_alloc_new _ _
  have hbW : Below w.heap.size w W := by rw [hW]; exact (Below.refl _ w).alloc (Nat.le_refl _) _
  have hAW := blk_lt nA
  have HX := (show Hid (∀ w', Below W.heap.size W w' → w'.cell? ⟨A, 0, none⟩ = some (.string ⟨m.toArray⟩) ∧ w'.cell? ⟨A, 1, none⟩ = some (.string ⟨tg.toArray⟩) ∧ w'.cell? ⟨A, 2, none⟩ = some (.slice ha hs.length hcap) ∧ w'.cell? ⟨A, 3, none⟩ = some bv) from fun w' hb =>
    ⟨(hb.cell (p := ⟨A, 0, none⟩) hAW).trans (by have := cell_blk nA 0; simpa using this), (hb.cell (p := ⟨A, 1, none⟩) hAW).trans (by have := cell_blk nA 1; simpa using this), (hb.cell (p := ⟨A, 2, none⟩) hAW).trans (by have := cell_blk nA 2; simpa using this), (hb.cell (p := ⟨A, 3, none⟩) hAW).trans (by have := cell_blk nA 3; simpa using this)⟩)
  have HW := (show Hid (Below w.heap.size w W) from hbW)
  obtain ⟨x0, x1, x2, x3⟩ := HX.out W (Below.refl _ _)
  rw [← hW, ← hA]
  clear hW hA nA hbW hAW
  go_wp2_with fail
  refine Calls.mono (C1.out _ HW.out) ?_
  rintro e w1 ⟨rfl, hb1⟩
  have HB1 := (show Hid (Below W.heap.size W w1 ∧ Below w.heap.size w w1) from ⟨hb1, HW.out.trans (hb1.mono HW.out.size)⟩)
  clear hb1 x0 x1 x2 x3
  obtain ⟨x0, x1, x2, x3⟩ := HX.out w1 HB1.out.1
  go_wp2_with fail
  refine Calls.mono (C2.out _ HB1.out.2) ?_
  rintro e w2 ⟨rfl, hb2⟩
  have HB2 := (show Hid (Below w.heap.size w w2) from HB1.out.2.trans (hb2.mono HB1.out.2.size))
  have AW := (show Hid _ from awake_any w2 (HI.out.below HB2.out (Nat.le_refl _)))
  clear hb2 C1 C2 x0 x1 x2 x3
  go_wp2_with fail
  refine Calls.mono AW.out ?_
  rintro e w3 ⟨rfl, hb3⟩
  have HB3 := (show Hid (Below w.heap.size w w3) from HB2.out.trans (hb3.mono HB2.out.size))
  clear hb3 AW
  go_wp2
  go_ret
  exact ⟨rfl, HB3.out⟩
end Go.Proofs.YtnmffehmjgknkaaGreatDoor

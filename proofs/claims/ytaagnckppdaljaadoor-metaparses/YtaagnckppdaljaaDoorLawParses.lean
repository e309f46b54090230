/-
  The walk of the statement MetaParses out of the contracts of what it calls.
-/
import Derived.Test.YtaagnckppdaljaaDoorAwakeM
import Derived.Deep.CutBlock
namespace Go.Proofs.YtaagnckppdaljaaDoor
open Go.RowKit

/-- The law's own box: what lies there, and that it is new. -/
def Bx (w0 w : World) (g : Nat) (c : Array Value) : Prop := Below w0.heap.size w0 w ∧ w.heap[g]? = some (.cells c 31 (0, 0)) ∧ w0.heap.size ≤ g
theorem Bx.step {w0 w w' : World} {g : Nat} {c : Array Value} (h : Bx w0 w g c) (hb : Below w.heap.size w w') : Bx w0 w' g c :=
  ⟨step_below h.1 hb (Nat.le_refl _), (hb.block g (Array.getElem?_eq_some_iff.1 h.2.1).1).trans h.2.1, h.2.2⟩
theorem Bx.new {w0 w : World} (h : Below w0.heap.size w0 w) (c : Array Value) : Bx w0 (w.alloc (.cells c 31)) w.heap.size c :=
  ⟨h.alloc h.size _, heap_alloc_new w _, h.size⟩
theorem Bx.set {w0 w : World} {g : Nat} {x0 x1 x2 x3 x4 : Value} (h : Bx w0 w g #[x0, x1, x2, x3, x4]) (y0 y1 y2 y3 y4 : Value) :
    Bx w0 (((((w.setCell ⟨g, 0, none⟩ y0).setCell ⟨g, 1, none⟩ y1).setCell ⟨g, 2, none⟩ y2).setCell ⟨g, 3, none⟩ y3).setCell ⟨g, 4, none⟩ y4) g #[y0, y1, y2, y3, y4] :=
  ⟨box5_below h.1 h.2.2 _ _ _ _ _, box5_set h.2.1 _ _ _ _ _, h.2.2⟩

set_option maxRecDepth 20000 in
set_option maxHeartbeats 4000000 in
theorem metaParses_walk (s : ByteArray) (w : World) (hs : s.size ≤ 140737488351232) (hm : Mx w) :
    Calls Tryd.prog 4 #[.string s] w fun e w' => e = .returned (.bool true) ∧ Below w.heap.size w w' := by
  have H1 : Hid (∀ W, Mx W → Calls Tryd.prog 18 #[.string s] W fun e w' => e = .returned (.tuple #[.string ⟨(bkV s.data.toList).toArray⟩, .bool (bkOk s.data.toList)]) ∧ Below W.heap.size W w') := fun W h => parseBucket_any s W (by omega) h
  have H2 : Hid (∀ W, Calls Tryd.prog 19 #[.string s] W fun e w' => e = .returned (plV (bkV s.data.toList) [] 0 0 (bkOk s.data.toList)) ∧ Below W.heap.size W w') := fun W => refParseBucket_any s W hs
  have H3 : Hid (∀ W, Mx W → Calls Tryd.prog 20 #[.string s] W fun e w' => e = .returned (poV s.data.toList) ∧ Below W.heap.size W w') := fun W h => parseObject_any s W (by omega) h
  have H4 : Hid (∀ W, Calls Tryd.prog 21 #[.string s] W fun e w' => e = .returned (plO s.data.toList) ∧ Below W.heap.size W w') := fun W => refParseObject_any s W hs
  have H5 : Hid (∀ W, Mx W → Calls Tryd.prog 22 #[.string s] W fun e w' => e = .returned (pnV 85 s.data.toList) ∧ Below W.heap.size W w') := fun W h => parseUpload_any s W (by omega) h
  have H6 : Hid (∀ W, Calls Tryd.prog 23 #[.string s] W fun e w' => e = .returned (plN 85 s.data.toList) ∧ Below W.heap.size W w') := fun W => refParseUpload_any s W hs
  have H7 : Hid (∀ W, Calls Tryd.prog 24 #[.string s] W fun e w' => e = .returned (.tuple #[.int .i64 ((pt s.data.toList).1 : Nat), .int .i64 ((pt s.data.toList).2.1 : Nat), .bool (pt s.data.toList).2.2]) ∧ Below W.heap.size W w') := fun W => parsePart_any s W
  have H8 : Hid (∀ W, Calls Tryd.prog 25 #[.string s] W fun e w' => e = .returned (plV [] [] (pt s.data.toList).1 (pt s.data.toList).2.1 (pt s.data.toList).2.2) ∧ Below W.heap.size W w') := fun W => refParsePart_any s W
  have H9 : Hid (∀ W, Calls Tryd.prog 26 #[.string s] W fun e w' => e = .returned (.tuple #[.int .i64 (sqN s.data.toList : Nat), .bool (sqOk s.data.toList)]) ∧ Below W.heap.size W w') := fun W => seq_any s W hs
  have H10 : Hid (∀ W, Calls Tryd.prog 27 #[.string s] W fun e w' => e = .returned (.tuple #[.int .i64 (sqN s.data.toList : Nat), .bool (sqOk s.data.toList)]) ∧ Below W.heap.size W w') := fun W => refSeq_any s W hs
  obtain ⟨ob, ok, on, oo, e3, e4⟩ : ∃ (ob ok : List UInt8) (on : Nat) (oo : Bool), poV s.data.toList = .tuple #[.string ⟨ob.toArray⟩, .string ⟨ok.toArray⟩, .int .i64 (on : Int), .bool oo] ∧ plO s.data.toList = plV ob ok on 0 oo := by
    unfold poV plO
    cases pn 79 s.data.toList with
    | none => exact ⟨[], [], 0, false, rfl, rfl⟩
    | some r => exact ⟨r.1, r.2.1, 9223372036854775807 - r.2.2, true, rfl, rfl⟩
  obtain ⟨ub, uk, un, uo, e5, e6⟩ : ∃ (ob ok : List UInt8) (on : Nat) (oo : Bool), pnV 85 s.data.toList = .tuple #[.string ⟨ob.toArray⟩, .string ⟨ok.toArray⟩, .int .i64 (on : Int), .bool oo] ∧ plN 85 s.data.toList = plV ob ok on 0 oo := by
    unfold pnV plN
    cases pn 85 s.data.toList with
    | none => exact ⟨[], [], 0, false, rfl, rfl⟩
    | some r => exact ⟨r.1, r.2.1, r.2.2, true, rfl, rfl⟩
  rw [e3] at H3
  rw [e4] at H4
  rw [e5] at H5
  rw [e6] at H6
  unfold plV at H2 H4 H6 H8
  clear e3 e4 e5 e6
  generalize bkV s.data.toList = bv at *
  generalize bkOk s.data.toList = bo at *
  generalize (pt s.data.toList).1 = p1 at *
  generalize (pt s.data.toList).2.1 = p2 at *
  generalize (pt s.data.toList).2.2 = p3 at *
  generalize sqN s.data.toList = q1 at *
  generalize sqOk s.data.toList = q2 at *
  go_enter Tryd.func4, Tryd.ntmps4
  go_wp2_with fail
  refine (H1.out _ hm).mono ?_
  rintro e w1 ⟨rfl, B1⟩
  go_wp2_with fail
  refine (H2.out _).mono ?_
  rintro e w2 ⟨rfl, hb2⟩
  have B2 := step_below B1 hb2 (Nat.le_refl _)
  clear B1 hb2
  go_upto_region 3 with fail
  obtain ⟨w3, hw3⟩ : ∃ w3, w3 = w2.alloc (.cells #[.string ⟨bv.toArray⟩, .string ⟨#[]⟩, .int .i64 0, .int .i64 0, .bool bo] 31) := ⟨_, rfl⟩
  rw [← hw3]
  obtain ⟨g, hg⟩ : ∃ g, g = w2.heap.size := ⟨_, rfl⟩
  rw [← hg]
  have X3 : Bx w w3 g #[.string ⟨bv.toArray⟩, .string ⟨#[]⟩, .int .i64 0, .int .i64 0, .bool bo] := by rw [hw3, hg]; exact Bx.new B2 _
  have HX3 : Hid (Bx w w3 g #[.string ⟨bv.toArray⟩, .string ⟨#[]⟩, .int .i64 0, .int .i64 0, .bool bo]) := X3
  have h3 := X3.2.1
  have c0 := cell_blk h3 0
  have c1 := cell_blk h3 1
  have c2 := cell_blk h3 2
  have c3 := cell_blk h3 3
  have c4 := cell_blk h3 4
  simp only [List.getElem?_toArray] at c0 c1 c2 c3 c4
  clear hw3 hg B2 X3 h3
  go_wp2_with fail
  refine (H3.out _ (hm.below HX3.out.1 (Nat.le_refl _))).mono ?_
  rintro e w4 ⟨rfl, hb4⟩
  have HX4 : Hid (Bx w w4 g #[.string ⟨bv.toArray⟩, .string ⟨#[]⟩, .int .i64 0, .int .i64 0, .bool bo]) := HX3.out.step hb4
  clear hb4 HX3 c0 c1 c2 c3 c4
  go_wp2_with fail
  refine (H4.out _).mono ?_
  rintro e w5 ⟨rfl, hb5⟩
  have HX5 : Hid (Bx w w5 g #[.string ⟨bv.toArray⟩, .string ⟨#[]⟩, .int .i64 0, .int .i64 0, .bool bo]) := HX4.out.step hb5
  have h5 := HX5.out.2.1
  have c0 := cell_blk h5 0
  have c1 := cell_blk h5 1
  have c2 := cell_blk h5 2
  have c3 := cell_blk h5 3
  have c4 := cell_blk h5 4
  have f0 := frozen_blk h5 0
  have f1 := frozen_blk h5 1
  have f2 := frozen_blk h5 2
  have f3 := frozen_blk h5 3
  have f4 := frozen_blk h5 4
  simp only [List.getElem?_toArray] at c0 c1 c2 c3 c4
  clear hb5 HX4 h5
  go_upto_region 7 with fail
  obtain ⟨w6, hw6⟩ : ∃ w6, w6 = ((((w5.setCell ⟨g, 0, none⟩ (.string ⟨ob.toArray⟩)).setCell ⟨g, 1, none⟩ (.string ⟨ok.toArray⟩)).setCell ⟨g, 2, none⟩ (.int .i64 (on : Int))).setCell ⟨g, 3, none⟩ (.int .i64 0)).setCell ⟨g, 4, none⟩ (.bool oo) := ⟨_, rfl⟩
  rw [← hw6]
  have HX6 : Hid (Bx w w6 g #[.string ⟨ob.toArray⟩, .string ⟨ok.toArray⟩, .int .i64 (on : Int), .int .i64 0, .bool oo]) := by rw [hw6]; exact HX5.out.set _ _ _ _ _
  clear c0 c1 c2 c3 c4 f0 f1 f2 f3 f4
  have h6 := HX6.out.2.1
  have c0 := cell_blk h6 0
  have c1 := cell_blk h6 1
  have c2 := cell_blk h6 2
  have c3 := cell_blk h6 3
  have c4 := cell_blk h6 4
  simp only [List.getElem?_toArray] at c0 c1 c2 c3 c4
  clear hw6 HX5 h6
  go_wp2_with fail
  refine (H5.out _ (hm.below HX6.out.1 (Nat.le_refl _))).mono ?_
  rintro e w7 ⟨rfl, hb7⟩
  have HX7 : Hid (Bx w w7 g #[.string ⟨ob.toArray⟩, .string ⟨ok.toArray⟩, .int .i64 (on : Int), .int .i64 0, .bool oo]) := HX6.out.step hb7
  clear hb7 HX6 c0 c1 c2 c3 c4
  go_wp2_with fail
  refine (H6.out _).mono ?_
  rintro e w8 ⟨rfl, hb8⟩
  have HX8 : Hid (Bx w w8 g #[.string ⟨ob.toArray⟩, .string ⟨ok.toArray⟩, .int .i64 (on : Int), .int .i64 0, .bool oo]) := HX7.out.step hb8
  have h8 := HX8.out.2.1
  have c0 := cell_blk h8 0
  have c1 := cell_blk h8 1
  have c2 := cell_blk h8 2
  have c3 := cell_blk h8 3
  have c4 := cell_blk h8 4
  have f0 := frozen_blk h8 0
  have f1 := frozen_blk h8 1
  have f2 := frozen_blk h8 2
  have f3 := frozen_blk h8 3
  have f4 := frozen_blk h8 4
  simp only [List.getElem?_toArray] at c0 c1 c2 c3 c4
  clear hb8 HX7 h8
  go_upto_region 11 with fail
  obtain ⟨w9, hw9⟩ : ∃ w9, w9 = ((((w8.setCell ⟨g, 0, none⟩ (.string ⟨ub.toArray⟩)).setCell ⟨g, 1, none⟩ (.string ⟨uk.toArray⟩)).setCell ⟨g, 2, none⟩ (.int .i64 (un : Int))).setCell ⟨g, 3, none⟩ (.int .i64 0)).setCell ⟨g, 4, none⟩ (.bool uo) := ⟨_, rfl⟩
  rw [← hw9]
  have HX9 : Hid (Bx w w9 g #[.string ⟨ub.toArray⟩, .string ⟨uk.toArray⟩, .int .i64 (un : Int), .int .i64 0, .bool uo]) := by rw [hw9]; exact HX8.out.set _ _ _ _ _
  clear c0 c1 c2 c3 c4 f0 f1 f2 f3 f4
  have h9 := HX9.out.2.1
  have c0 := cell_blk h9 0
  have c1 := cell_blk h9 1
  have c2 := cell_blk h9 2
  have c3 := cell_blk h9 3
  have c4 := cell_blk h9 4
  simp only [List.getElem?_toArray] at c0 c1 c2 c3 c4
  clear hw9 HX8 h9
  go_wp2_with fail
  refine (H7.out _).mono ?_
  rintro e w10 ⟨rfl, hb10⟩
  have HX10 : Hid (Bx w w10 g #[.string ⟨ub.toArray⟩, .string ⟨uk.toArray⟩, .int .i64 (un : Int), .int .i64 0, .bool uo]) := HX9.out.step hb10
  clear hb10 HX9 c0 c1 c2 c3 c4
  go_wp2_with fail
  refine (H8.out _).mono ?_
  rintro e w11 ⟨rfl, hb11⟩
  have HX11 : Hid (Bx w w11 g #[.string ⟨ub.toArray⟩, .string ⟨uk.toArray⟩, .int .i64 (un : Int), .int .i64 0, .bool uo]) := HX10.out.step hb11
  have h11 := HX11.out.2.1
  have c0 := cell_blk h11 0
  have c1 := cell_blk h11 1
  have c2 := cell_blk h11 2
  have c3 := cell_blk h11 3
  have c4 := cell_blk h11 4
  have f0 := frozen_blk h11 0
  have f1 := frozen_blk h11 1
  have f2 := frozen_blk h11 2
  have f3 := frozen_blk h11 3
  have f4 := frozen_blk h11 4
  simp only [List.getElem?_toArray] at c0 c1 c2 c3 c4
  clear hb11 HX10 h11
  go_upto_region 15 with fail
  obtain ⟨w12, hw12⟩ : ∃ w12, w12 = ((((w11.setCell ⟨g, 0, none⟩ (.string ⟨#[]⟩)).setCell ⟨g, 1, none⟩ (.string ⟨#[]⟩)).setCell ⟨g, 2, none⟩ (.int .i64 (p1 : Int))).setCell ⟨g, 3, none⟩ (.int .i64 (p2 : Int))).setCell ⟨g, 4, none⟩ (.bool p3) := ⟨_, rfl⟩
  rw [← hw12]
  have HX12 : Hid (Bx w w12 g #[.string ⟨#[]⟩, .string ⟨#[]⟩, .int .i64 (p1 : Int), .int .i64 (p2 : Int), .bool p3]) := by rw [hw12]; exact HX11.out.set _ _ _ _ _
  clear c0 c1 c2 c3 c4 f0 f1 f2 f3 f4
  have h12 := HX12.out.2.1
  have c0 := cell_blk h12 0
  have c1 := cell_blk h12 1
  have c2 := cell_blk h12 2
  have c3 := cell_blk h12 3
  have c4 := cell_blk h12 4
  simp only [List.getElem?_toArray] at c0 c1 c2 c3 c4
  clear hw12 HX11 h12
  go_wp2_with fail
  refine (H9.out _).mono ?_
  rintro e w13 ⟨rfl, hb13⟩
  have B13 := step_below HX12.out.1 hb13 (Nat.le_refl _)
  clear hb13 HX12 c0 c1 c2 c3 c4
  go_wp2_with fail
  refine (H10.out _).mono ?_
  rintro e w14 ⟨rfl, hb14⟩
  have B14 := step_below B13 hb14 (Nat.le_refl _)
  clear hb14 B13
  go_wp2_with fail
  refine (awake_any _ (hm.below B14 (Nat.le_refl _))).mono ?_
  rintro e w15 ⟨rfl, hb15⟩
  have B15 := step_below B14 hb15 (Nat.le_refl _)
  clear B14 hb15
  go_wp2
  go_ret
  exact ⟨rfl, B15⟩
end Go.Proofs.YtaagnckppdaljaaDoor

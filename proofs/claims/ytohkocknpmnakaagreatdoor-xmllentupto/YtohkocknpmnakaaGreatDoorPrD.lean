/-
  Print: of an element without kids.
-/
import Derived.Test.YtohkocknpmnakaaGreatDoorPrC
namespace Go.Proofs.YtohkocknpmnakaaGreatDoor
open Go.RowKit

def headL : List UInt8 := [60, 63, 120, 109, 108, 32, 118, 101, 114, 115, 105, 111, 110, 61, 34, 49, 46, 48, 34, 32, 101, 110, 99, 111, 100, 105, 110, 103, 61, 34, 85, 84, 70, 45, 56, 34, 63, 62, 10]
def leafL (n t : List UInt8) : List UInt8 := [] ++ headL ++ [[60], n, [], [62], escX t].flatten ++ [[60, 47], n, [62]].flatten

set_option maxRecDepth 20000 in
set_option maxHeartbeats 3200000 in
theorem print_leaf (n t : List UInt8) (w : World) (hn : n.length ≤ 65536) (ht : t.length ≤ 65536) (h1 : nameB n = true) (h2 : (cntP xmlP t).isSome = true) (h3 : t ≠ []) (hlen : (leafL n t).length ≤ 65536) :
    Calls Tryz.prog 15 #[.agg #[.string ⟨n.toArray⟩, .string ⟨t.toArray⟩, .slice none 0 0], .bool false] w fun e w' => e = .returned (.tuple #[.string ⟨(leafL n t).toArray⟩, .int .i64 0]) ∧ Below w.heap.size w w' := by
  have KP := (show Hid (∀ W, Calls Tryz.prog 34 #[.agg #[.string ⟨n.toArray⟩, .string ⟨t.toArray⟩, .slice none 0 0]] W fun e w' => e = .returned (.bool true) ∧ Below W.heap.size W w') from fun W => printable_leaf n t W hn ht h1 h2 h3)
  have KE := (show Hid (∀ B W, Lib.IsBuilderF 66 5 B B (Lib.byteCells ([] ++ headL)) W → B < W.heap.size → Calls Tryz.prog 36 #[.pointer (some ⟨B, 0, none⟩), .agg #[.string ⟨n.toArray⟩, .string ⟨t.toArray⟩, .slice none 0 0], .string ⟨#[]⟩] W fun e w' => e = .returned (.bool true) ∧ Lib.IsBuilderF 66 5 B B (Lib.byteCells (leafL n t)) w' ∧ Below B W w') from fun B W a b => by
    refine (printEl_leaf n t [] ([] ++ headL) B W a b (by decide) hn ht (by simp)).mono ?_
    rintro e w' ⟨rfl, h, h'⟩
    exact ⟨ret_bool (decide_eq_true hlen), h, h'⟩)
  have HL : Hid (([] ++ headL : List UInt8) = (⟨#[60, 63, 120, 109, 108, 32, 118, 101, 114, 115, 105, 111, 110, 61, 34, 49, 46, 48, 34, 32, 101, 110, 99, 111, 100, 105, 110, 103, 61, 34, 85, 84, 70, 45, 56, 34, 63, 62, 10]⟩ : ByteArray).data.toList) := rfl
  obtain ⟨w0, hw0⟩ : ∃ w0, w0 = w.alloc (.cells #[.string ⟨n.toArray⟩, .string ⟨t.toArray⟩, .slice none 0 0] 24) := ⟨_, rfl⟩
  have H0 : Hid (Bx w0 w.heap.size n t (.slice none 0 0) ∧ Below w.heap.size w w0) := by
    rw [hw0]
    exact ⟨heap_alloc_new w _, (Below.refl _ _).alloc (Nat.le_refl _) _⟩
  clear hn ht h1 h2 h3 hlen
  generalize leafL n t = L at *
  go_enter Tryz.func15, Tryz.ntmps15
  go_wp2_with fail
  rw [← hw0]
  clear hw0
  refine (KP.out _).mono ?_
  rintro e w1 ⟨rfl, hb1⟩
  have H1 : Hid (Bx w1 w.heap.size n t (.slice none 0 0) ∧ Below w.heap.size w w1) := ⟨H0.out.1.keep (Md.ofBelow (F := fun _ => False) hb1) (fun h => h), H0.out.2.trans (hb1.mono H0.out.2.size)⟩
  clear hb1 H0
  have hib := isB_new w1
  have hw2 : Below w1.heap.size w1 (w1.alloc (.cells #[.pointer none, .slice none 0 0] 66)) := (Below.refl _ _).alloc (Nat.le_refl _) _
  have hsz2 : (w1.alloc (.cells #[.pointer none, .slice none 0 0] 66)).heap.size = w1.heap.size + 1 := by show (w1.heap.push _).size = _; simp
  obtain ⟨w2, e2⟩ : ∃ w2, w2 = w1.alloc (.cells #[.pointer none, .slice none 0 0] 66) := ⟨_, rfl⟩
  rw [← e2] at hib hw2 hsz2
  have H2 : Hid (Bx w2 w.heap.size n t (.slice none 0 0) ∧ Below w.heap.size w w2 ∧ w2.heap.size = w1.heap.size + 1) := ⟨H1.out.1.keep (Md.ofBelow (F := fun _ => False) hw2) (fun h => h), H1.out.2.trans (hw2.mono H1.out.2.size), hsz2⟩
  have K3 := ws_any w1.heap.size w2 [] ⟨#[60, 63, 120, 109, 108, 32, 118, 101, 114, 115, 105, 111, 110, 61, 34, 49, 46, 48, 34, 32, 101, 110, 99, 111, 100, 105, 110, 103, 61, 34, 85, 84, 70, 45, 56, 34, 63, 62, 10]⟩ hib (by decide) (by omega)
  rw [List.nil_append, ← HL.out] at K3
  clear hib hw2 hsz2
  have hlt : w.heap.size < w1.heap.size := blk_lt H1.out.1
  go_wp2_with fail
  rw [← e2]
  clear e2
  refine K3.mono ?_
  rintro e w3 ⟨rfl, hi3, hb3, ho3⟩
  have bx3 : Bx w3 w.heap.size n t (.slice none 0 0) := ho3 _ _ H2.out.1 (by simp; omega) (by intro c fz e; injection e with _ e _; cases e)
  obtain ⟨⟨c0, c1, c2⟩, -⟩ := Bx.cells bx3
  have K4 := KE.out w1.heap.size w3 hi3 (by have := H2.out.2.2; have := hb3.size; omega)
  have H3 : Hid (Below w.heap.size w w3 ∧ w1.heap.size ≤ w3.heap.size) := ⟨H2.out.2.1.trans (hb3.mono H1.out.2.size), by have := H2.out.2.2; have := hb3.size; omega⟩
  clear bx3 hi3 hb3 ho3 K3
  go_wp2_with fail
  refine K4.mono ?_
  rintro e w4 ⟨rfl, hi4, hb4⟩
  have H4 : Hid (Below w.heap.size w w4) := H3.out.1.trans (hb4.mono H1.out.2.size)
  have K5 := Builder_String_any_f w1.heap.size w1.heap.size L w4 hi4 (Nat.le_trans H3.out.2 hb4.size)
  clear hi4 hb4 K4 c0 c1 c2
  go_wp2_with fail
  refine K5.mono ?_
  rintro e w5 ⟨rfl, -, hb5⟩
  have H5 : Hid (Below w.heap.size w w5) := H4.out.trans (hb5.mono H1.out.2.size)
  clear hb5 K5
  go_wp2
  go_ret2
  exact ⟨rfl, H5.out⟩
end Go.Proofs.YtohkocknpmnakaaGreatDoor

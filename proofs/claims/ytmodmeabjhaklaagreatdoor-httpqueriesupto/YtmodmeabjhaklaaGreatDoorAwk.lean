/-
  'awake' of the statements' package: what the document fixes.
-/
import Derived.Test.YtmodmeabjhaklaaGreatDoorPar
import Derived.Test.YtmodmeabjhaklaaGreatDoorAwM
import Derived.Lib.SmallJoins
namespace Go.Proofs.YtmodmeabjhaklaaGreatDoor
open Go.RowKit

theorem const_bytes (w : World) (L : List UInt8) (fr : Nat × Nat) : Bytes (w.alloc (.cells (bcs L).toArray 5 fr)) (some ⟨w.heap.size, 0, none⟩) L := by
  refine .inr ⟨w.heap.size, 0, rfl, ?_, fun j hj => ?_⟩
  · show w.heap.size < (w.heap.push _).size
    simp
  · rw [Nat.zero_add, World.cell?_alloc_mark, List.getElem?_toArray]
    exact bcs_get hj
theorem conv_at (w : World) (t e : TypeId) (C : Array Value) (n c g : Nat) (hg : g = w.heap.size) (ht : Tryz.prog.underlying t = some (.slice e)) (he : Tryz.prog.underlying e = some (.int .u8)) :
    (convert t t (.slice (some ⟨g, 0, none⟩) n c)).run Tryz.prog (w.alloc (.cells C e)) = .ok (.slice (some ⟨g, 0, none⟩) n c) (w.alloc (.cells C e (C.size, C.size + 1))) := by
  subst hg
  exact Lib.run_convert_bytes_const w t e C n c ht he
/-- Parse of a constant. -/
theorem parse_const (L : List UInt8) (fr : Nat × Nat) (w : World) (hl : L.length ≤ 1000000000) (hm : Mx w) (he : Er w) :
    Calls Tryz.prog 10 #[.slice (some ⟨w.heap.size, 0, none⟩) L.length L.length] (w.alloc (.cells (bcs L).toArray 5 fr)) fun e w' => ∃ T : Tl, e = .returned T.v ∧ TlR w' w.heap.size T (parseL L) ∧ Below w.heap.size w w' := by
  have hb : Below w.heap.size w (w.alloc (.cells (bcs L).toArray 5 fr)) := (Below.refl _ _).alloc (Nat.le_refl _) _
  have hs : (w.alloc (.cells (bcs L).toArray 5 fr)).heap.size = w.heap.size + 1 := by show (w.heap.push _).size = _; simp
  refine (parse_any (some ⟨w.heap.size, 0, none⟩) L L.length _ (Nat.le_refl _) (const_bytes w L fr) (fun x hx => ?_) (fun h => by cases h) hl (hm.below hb (Nat.le_refl _)) (he.below hb (Nat.le_refl _))).mono ?_
  · simp only [Option.some.injEq] at hx
    subst hx
    exact ⟨rfl, by rw [hs]; simp⟩
  · rintro e w' ⟨T, h1, h2, h3⟩
    refine ⟨T, h1, ?_, hb.trans (h3.mono (by omega))⟩
    exact h2.fin (Md.refl (· = 0) _) (by omega) (by omega)
set_option maxRecDepth 20000 in
set_option maxHeartbeats 2000000 in
theorem awake_any (w : World) (hm : Mx w) (he : Er w) : Calls Tryz.prog 12 #[] w fun e w' => e = .returned (.bool true) ∧ Below w.heap.size w w' := by
  have HM : Hid (Mx w ∧ Er w) := ⟨hm, he⟩
  have K1 := (show Hid _ from parse_const aw1 (31, 32) w (by decide) hm he)
  rw [aw1_eq] at K1
  have hc1 : (convert 22 22 (.slice (some ⟨w.heap.size, 0, none⟩) 31 31)).run Tryz.prog (w.alloc (.cells #[.int .u8 71, .int .u8 69, .int .u8 84, .int .u8 32, .int .u8 47, .int .u8 32, .int .u8 72, .int .u8 84, .int .u8 84, .int .u8 80, .int .u8 47, .int .u8 49, .int .u8 46, .int .u8 49, .int .u8 13, .int .u8 10, .int .u8 72, .int .u8 111, .int .u8 115, .int .u8 116, .int .u8 58, .int .u8 32, .int .u8 97, .int .u8 13, .int .u8 10, .int .u8 13, .int .u8 10, .int .u8 109, .int .u8 111, .int .u8 114, .int .u8 101] 5)) = .ok (.slice (some ⟨w.heap.size, 0, none⟩) 31 31) (w.alloc (.cells #[.int .u8 71, .int .u8 69, .int .u8 84, .int .u8 32, .int .u8 47, .int .u8 32, .int .u8 72, .int .u8 84, .int .u8 84, .int .u8 80, .int .u8 47, .int .u8 49, .int .u8 46, .int .u8 49, .int .u8 13, .int .u8 10, .int .u8 72, .int .u8 111, .int .u8 115, .int .u8 116, .int .u8 58, .int .u8 32, .int .u8 97, .int .u8 13, .int .u8 10, .int .u8 13, .int .u8 10, .int .u8 109, .int .u8 111, .int .u8 114, .int .u8 101] 5 (31, 32))) := Lib.run_convert_bytes_const (P := Tryz.prog) w 22 5 #[.int .u8 71, .int .u8 69, .int .u8 84, .int .u8 32, .int .u8 47, .int .u8 32, .int .u8 72, .int .u8 84, .int .u8 84, .int .u8 80, .int .u8 47, .int .u8 49, .int .u8 46, .int .u8 49, .int .u8 13, .int .u8 10, .int .u8 72, .int .u8 111, .int .u8 115, .int .u8 116, .int .u8 58, .int .u8 32, .int .u8 97, .int .u8 13, .int .u8 10, .int .u8 13, .int .u8 10, .int .u8 109, .int .u8 111, .int .u8 114, .int .u8 101] 31 31 Tryz.underlying22 Tryz.underlying5
  clear hm he
  go_enter Tryz.func12, Tryz.ntmps12
  go_wp2_with fail
  clear hc1
  refine Calls.mono K1.out ?_
  rintro e w1 ⟨T1, rfl, ⟨hv, bv, rfl, ho1, ho2⟩, hb1⟩
  obtain ⟨ha, hc, rfl⟩ := own_slice ho1
  obtain ⟨ba, bc, rfl⟩ := own_slice ho2
  have HB1 : Hid (Below w.heap.size w w1) := hb1
  clear K1 ho1 ho2 hb1
  have hc2 : (convert 22 22 (.slice (some ⟨w1.heap.size + 1, 0, none⟩) 16 16)).run Tryz.prog ((w1.alloc (.cells #[.int .i64 2, .int .i64 27, .string ⟨#[71, 69, 84]⟩, .string ⟨#[47]⟩, .slice ha 1 hc, .slice ba 0 bc, .int .i64 0, .bool false, .bool false] 29)).alloc (.cells #[.int .u8 71, .int .u8 69, .int .u8 84, .int .u8 32, .int .u8 47, .int .u8 32, .int .u8 72, .int .u8 84, .int .u8 84, .int .u8 80, .int .u8 47, .int .u8 49, .int .u8 46, .int .u8 48, .int .u8 13, .int .u8 10] 5)) = .ok (.slice (some ⟨w1.heap.size + 1, 0, none⟩) 16 16) ((w1.alloc (.cells #[.int .i64 2, .int .i64 27, .string ⟨#[71, 69, 84]⟩, .string ⟨#[47]⟩, .slice ha 1 hc, .slice ba 0 bc, .int .i64 0, .bool false, .bool false] 29)).alloc (.cells #[.int .u8 71, .int .u8 69, .int .u8 84, .int .u8 32, .int .u8 47, .int .u8 32, .int .u8 72, .int .u8 84, .int .u8 84, .int .u8 80, .int .u8 47, .int .u8 49, .int .u8 46, .int .u8 48, .int .u8 13, .int .u8 10] 5 (16, 17))) := conv_at (w1.alloc (.cells #[.int .i64 2, .int .i64 27, .string ⟨#[71, 69, 84]⟩, .string ⟨#[47]⟩, .slice ha 1 hc, .slice ba 0 bc, .int .i64 0, .bool false, .bool false] 29)) 22 5 #[.int .u8 71, .int .u8 69, .int .u8 84, .int .u8 32, .int .u8 47, .int .u8 32, .int .u8 72, .int .u8 84, .int .u8 84, .int .u8 80, .int .u8 47, .int .u8 49, .int .u8 46, .int .u8 48, .int .u8 13, .int .u8 10] 16 16 (w1.heap.size + 1) (by simp) Tryz.underlying22 Tryz.underlying5
  have hb2' : Below w.heap.size w (w1.alloc (.cells #[.int .i64 2, .int .i64 27, .string ⟨#[71, 69, 84]⟩, .string ⟨#[47]⟩, .slice ha 1 hc, .slice ba 0 bc, .int .i64 0, .bool false, .bool false] 29)) := HB1.out.alloc HB1.out.size _
  have K2 := (show Hid _ from parse_const aw2 (16, 17) (w1.alloc (.cells #[.int .i64 2, .int .i64 27, .string ⟨#[71, 69, 84]⟩, .string ⟨#[47]⟩, .slice ha 1 hc, .slice ba 0 bc, .int .i64 0, .bool false, .bool false] 29)) (by decide) (HM.out.1.below hb2' (Nat.le_refl _)) (HM.out.2.below hb2' (Nat.le_refl _)))
  rw [aw2_eq] at K2
  have hsz2 : (w1.alloc (.cells #[.int .i64 2, .int .i64 27, .string ⟨#[71, 69, 84]⟩, .string ⟨#[47]⟩, .slice ha 1 hc, .slice ba 0 bc, .int .i64 0, .bool false, .bool false] 29)).heap.size = w1.heap.size + 1 := by show (w1.heap.push _).size = _; simp
  rw [hsz2] at K2
  clear hsz2
  have HB2 : Hid (Below w.heap.size w (w1.alloc (.cells #[.int .i64 2, .int .i64 27, .string ⟨#[71, 69, 84]⟩, .string ⟨#[47]⟩, .slice ha 1 hc, .slice ba 0 bc, .int .i64 0, .bool false, .bool false] 29))) := hb2'
  clear hb2'
  simp only [Tl.v]
  go_wp2_with fail
  clear hc2
  refine Calls.mono K2.out ?_
  rintro e w2 ⟨T2, rfl, hT2, hb2⟩
  obtain rfl : T2 = badT 340 := hT2
  have n1 : w2.heap[w1.heap.size]? = some (.cells #[.int .i64 2, .int .i64 27, .string ⟨#[71, 69, 84]⟩, .string ⟨#[47]⟩, .slice ha 1 hc, .slice ba 0 bc, .int .i64 0, .bool false, .bool false] 29 (0, 0)) := (hb2.block w1.heap.size (by omega)).trans (heap_alloc_new w1 _)
  have HB3 : Hid (Below w.heap.size w w2) := HB2.out.trans (hb2.mono (by have := HB1.out.size; omega))
  have hlt2 : w1.heap.size < w2.heap.size := blk_lt n1
  clear K2 hb2 HB2
  have hc3 : (convert 22 22 (.slice (some ⟨w2.heap.size + 1, 0, none⟩) 2 2)).run Tryz.prog ((w2.alloc (.cells #[.int .i64 3, .int .i64 0, .string ⟨#[]⟩, .string ⟨#[]⟩, .slice none 0 0, .slice none 0 0, .int .i64 340, .bool true, .bool false] 29)).alloc (.cells #[.int .u8 71, .int .u8 69] 5)) = .ok (.slice (some ⟨w2.heap.size + 1, 0, none⟩) 2 2) ((w2.alloc (.cells #[.int .i64 3, .int .i64 0, .string ⟨#[]⟩, .string ⟨#[]⟩, .slice none 0 0, .slice none 0 0, .int .i64 340, .bool true, .bool false] 29)).alloc (.cells #[.int .u8 71, .int .u8 69] 5 (2, 3))) := conv_at (w2.alloc (.cells #[.int .i64 3, .int .i64 0, .string ⟨#[]⟩, .string ⟨#[]⟩, .slice none 0 0, .slice none 0 0, .int .i64 340, .bool true, .bool false] 29)) 22 5 #[.int .u8 71, .int .u8 69] 2 2 (w2.heap.size + 1) (by simp) Tryz.underlying22 Tryz.underlying5
  have hb3' : Below w.heap.size w (w2.alloc (.cells #[.int .i64 3, .int .i64 0, .string ⟨#[]⟩, .string ⟨#[]⟩, .slice none 0 0, .slice none 0 0, .int .i64 340, .bool true, .bool false] 29)) := HB3.out.alloc HB3.out.size _
  have K3 := (show Hid _ from parse_const aw3 (2, 3) (w2.alloc (.cells #[.int .i64 3, .int .i64 0, .string ⟨#[]⟩, .string ⟨#[]⟩, .slice none 0 0, .slice none 0 0, .int .i64 340, .bool true, .bool false] 29)) (by decide) (HM.out.1.below hb3' (Nat.le_refl _)) (HM.out.2.below hb3' (Nat.le_refl _)))
  rw [aw3_eq] at K3
  have hsz3 : (w2.alloc (.cells #[.int .i64 3, .int .i64 0, .string ⟨#[]⟩, .string ⟨#[]⟩, .slice none 0 0, .slice none 0 0, .int .i64 340, .bool true, .bool false] 29)).heap.size = w2.heap.size + 1 := by show (w2.heap.push _).size = _; simp
  rw [hsz3] at K3
  clear hsz3
  have HB4 : Hid (Below w.heap.size w (w2.alloc (.cells #[.int .i64 3, .int .i64 0, .string ⟨#[]⟩, .string ⟨#[]⟩, .slice none 0 0, .slice none 0 0, .int .i64 340, .bool true, .bool false] 29))) := hb3'
  have HN1 : Hid (w2.heap[w1.heap.size]? = some (.cells #[.int .i64 2, .int .i64 27, .string ⟨#[71, 69, 84]⟩, .string ⟨#[47]⟩, .slice ha 1 hc, .slice ba 0 bc, .int .i64 0, .bool false, .bool false] 29 (0, 0))) := n1
  clear hb3' n1
  unfold badT
  simp only [Tl.v]
  go_wp2_with fail
  clear hc3
  refine Calls.mono K3.out ?_
  rintro e w3 ⟨T3, rfl, hT3, hb3⟩
  obtain rfl : T3 = moreT := hT3
  have n2 : w3.heap[w2.heap.size]? = some (.cells #[.int .i64 3, .int .i64 0, .string ⟨#[]⟩, .string ⟨#[]⟩, .slice none 0 0, .slice none 0 0, .int .i64 340, .bool true, .bool false] 29 (0, 0)) := (hb3.block w2.heap.size (by omega)).trans (heap_alloc_new w2 _)
  have n1 : w3.heap[w1.heap.size]? = some (.cells #[.int .i64 2, .int .i64 27, .string ⟨#[71, 69, 84]⟩, .string ⟨#[47]⟩, .slice ha 1 hc, .slice ba 0 bc, .int .i64 0, .bool false, .bool false] 29 (0, 0)) := (hb3.block w1.heap.size (by omega)).trans ((Below.heap_alloc w2 _ w1.heap.size hlt2).trans HN1.out)
  have a0 := cell_blk n1 0
  have a1 := cell_blk n1 1
  have a3 := cell_blk n1 3
  have a4 := cell_blk n1 4
  have b0 := cell_blk n2 0
  have b6 := cell_blk n2 6
  simp at a0 a1 a3 a4 b0 b6
  have l1 : w1.heap.size < w3.heap.size := blk_lt n1
  have l2 : w2.heap.size < w3.heap.size := blk_lt n2
  have HB5 : Hid (Below w.heap.size w w3) := HB4.out.trans (hb3.mono (by have := HB3.out.size; omega))
  clear K3 hb3 HB4 n1 n2
  unfold moreT
  simp only [Tl.v]
  go_wp2
  go_ret
  exact ⟨rfl, HB5.out.alloc HB5.out.size _⟩
end Go.Proofs.YtmodmeabjhaklaaGreatDoor

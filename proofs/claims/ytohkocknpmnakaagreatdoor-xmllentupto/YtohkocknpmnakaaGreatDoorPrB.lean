/-
  below, printable: of an element without kids.
-/
import Derived.Test.YtohkocknpmnakaaGreatDoorPrA
import Derived.Carry
namespace Go.Proofs.YtohkocknpmnakaaGreatDoor
open Go.RowKit

set_option maxRecDepth 20000 in
set_option maxHeartbeats 3200000 in
theorem below_leaf (n t : List UInt8) (w : World) (g h : Nat) (hg : w.heap[g]? = some (.cells #[.slice (some ⟨h, 0, none⟩) 1 1] 22 (0, 0))) (hbx : Bx w h n t (.slice none 0 0)) (hn : n.length ≤ 65536) (ht : t.length ≤ 65536) (h1 : nameB n = true) (h2 : (cntP xmlP t).isSome = true) (h3 : t ≠ []) :
    Calls Tryz.prog 67 #[.slice (some ⟨g, 0, none⟩) 1 1] w fun e w' => e = .returned (.tuple #[.slice none 0 0, .bool true]) ∧ Below w.heap.size w w' := by
  have KS := (show Hid (∀ W, Calls Tryz.prog 88 #[.agg #[.string ⟨n.toArray⟩, .string ⟨t.toArray⟩, .slice none 0 0]] W fun e w' => e = .returned (.bool true) ∧ Below W.heap.size W w') from fun W => sound_leaf n t W hn ht h1 h2 h3)
  have HG : Hid (w.heap[g]? = some (.cells #[.slice (some ⟨h, 0, none⟩) 1 1] 22 (0, 0)) ∧ Bx w h n t (.slice none 0 0)) := ⟨hg, hbx⟩
  clear hg hbx hn ht h1 h2 h3
  go_enter Tryz.func67, Tryz.ntmps67
  have hmk := run_makeMap (P := Tryz.prog) 122 w
  obtain ⟨wm, hwm⟩ : ∃ wm, wm = w.alloc (.map #[] 0) := ⟨_, rfl⟩
  have HM : Hid (Below w.heap.size w wm) := by rw [hwm]; exact (Below.refl _ _).alloc (Nat.le_refl _) _
  rw [← hwm] at hmk
  clear hwm
  go_wp2
  go_loopw [4, 16] (fun v i wx => ∃ k : Nat, k ≤ 1 ∧ i = .int .i64 k ∧ v = .slice none 0 0 ∧ Below w.heap.size w wx) (fun _ i _ => 1 - (intOf i).toNat)
  case atStart => exact ⟨0, by omega, rfl, rfl, HM.out⟩
  case round =>
    obtain ⟨k, hk, rfl, rfl, hbw⟩ := hrel
    rcases (show k = 0 ∨ k = 1 by omega) with rfl | rfl
    · have cg := cell_blk (keep_blk HG.out.1 (Md.ofBelow (F := fun _ => False) hbw) (fun h => h)) 0
      simp only [List.getElem?_toArray] at cg
      have HB : Hid (Below w.heap.size w wr) := hbw
      obtain ⟨wo, e⟩ : ∃ x, x = wr := ⟨_, rfl⟩
      subst e
      clear hbw
      go_wp2
      go_loopw [4, 22] (fun v i wx => ∃ k : Nat, k ≤ 1 ∧ i = .int .i64 k ∧ v = .slice none 0 0 ∧ Below w.heap.size w wx) (fun _ i _ => 1 - (intOf i).toNat)
      case atStart => exact ⟨0, by omega, rfl, rfl, HB.out⟩
      case round =>
        obtain ⟨k, hk, rfl, rfl, hbw⟩ := hrel
        rcases (show k = 0 ∨ k = 1 by omega) with rfl | rfl
        · obtain ⟨⟨c0, c1, c2⟩, -⟩ := Bx.cells (HG.out.2.keep (Md.ofBelow (F := fun _ => False) hbw) (fun h => h))
          have HB : Hid (Below w.heap.size w wr) := hbw
          clear hbw
          have HX : Hid (Bx (wr.alloc (.cells #[.string ⟨n.toArray⟩, .string ⟨t.toArray⟩, .slice none 0 0] 24)) wr.heap.size n t (.slice none 0 0) ∧ Below w.heap.size w (wr.alloc (.cells #[.string ⟨n.toArray⟩, .string ⟨t.toArray⟩, .slice none 0 0] 24))) := ⟨heap_alloc_new wr _, HB.out.trans ((Below.refl _ _).alloc HB.out.size _)⟩
          go_wp2_with fail
          refine (KS.out _).mono ?_
          generalize wr.alloc (.cells #[.string ⟨n.toArray⟩, .string ⟨t.toArray⟩, .slice none 0 0] 24) = wa at *
          rintro e w1 ⟨rfl, hb1⟩
          have bx1 := HX.out.1.keep (Md.ofBelow (F := fun _ => False) hb1) (fun h => h)
          obtain ⟨⟨d0, d1, d2⟩, -⟩ := Bx.cells bx1
          have HB1 : Hid (Below w.heap.size w w1) := HX.out.2.trans (hb1.mono HX.out.2.size)
          clear bx1 hb1 HX c0 c1 c2
          go_wp2
          go_roundw
          case rel => (repeat apply Exists.intro); exact ⟨⟨1, by omega, by go_num, rfl, HB1.out⟩, rfl⟩
          case measure => simp [intOf]
        · go_wp2
          go_roundw
          case rel => exact ⟨1, by omega, by go_num, rfl, hbw⟩
          case measure => simp [intOf]
    · go_wp2
      go_ret2
      exact ⟨rfl, hbw⟩
set_option maxRecDepth 20000 in
set_option maxHeartbeats 3200000 in
theorem printable_leaf (n t : List UInt8) (w : World) (hn : n.length ≤ 65536) (ht : t.length ≤ 65536) (h1 : nameB n = true) (h2 : (cntP xmlP t).isSome = true) (h3 : t ≠ []) :
    Calls Tryz.prog 34 #[.agg #[.string ⟨n.toArray⟩, .string ⟨t.toArray⟩, .slice none 0 0]] w fun e w' => e = .returned (.bool true) ∧ Below w.heap.size w w' := by
  have KB := (show Hid (∀ g h W, W.heap[g]? = some (.cells #[.slice (some ⟨h, 0, none⟩) 1 1] 22 (0, 0)) → Bx W h n t (.slice none 0 0) → Calls Tryz.prog 67 #[.slice (some ⟨g, 0, none⟩) 1 1] W fun e w' => e = .returned (.tuple #[.slice none 0 0, .bool true]) ∧ Below W.heap.size W w') from fun g h W a b => below_leaf n t W g h a b hn ht h1 h2 h3)
  clear hn ht h1 h2 h3
  go_enter Tryz.func34, Tryz.ntmps34
  obtain ⟨wa, hwa⟩ : ∃ wa, wa = ((w.alloc (.cells #[.string ⟨n.toArray⟩, .string ⟨t.toArray⟩, .slice none 0 0] 24)).alloc (.cells #[.string ⟨n.toArray⟩, .string ⟨t.toArray⟩, .slice none 0 0] 24)).alloc (.cells #[.slice (some ⟨w.heap.size + 1, 0, none⟩) 1 1] 22) := ⟨_, rfl⟩
  have e1 : (w.alloc (.cells #[.string ⟨n.toArray⟩, .string ⟨t.toArray⟩, .slice none 0 0] 24)).heap.size = w.heap.size + 1 := by show (w.heap.push _).size = _; simp
  have e2 : ((w.alloc (.cells #[.string ⟨n.toArray⟩, .string ⟨t.toArray⟩, .slice none 0 0] 24)).alloc (.cells #[.string ⟨n.toArray⟩, .string ⟨t.toArray⟩, .slice none 0 0] 24)).heap.size = w.heap.size + 1 + 1 := by show ((w.heap.push _).push _).size = _; simp
  have HA : Hid (wa.heap[w.heap.size + 1 + 1]? = some (.cells #[.slice (some ⟨w.heap.size + 1, 0, none⟩) 1 1] 22 (0, 0)) ∧ Bx wa (w.heap.size + 1) n t (.slice none 0 0) ∧ Below w.heap.size w wa) := by
    rw [hwa]
    refine ⟨?_, ?_, ?_⟩
    · have := heap_alloc_new ((w.alloc (.cells #[.string ⟨n.toArray⟩, .string ⟨t.toArray⟩, .slice none 0 0] 24)).alloc (.cells #[.string ⟨n.toArray⟩, .string ⟨t.toArray⟩, .slice none 0 0] 24)) (.cells #[.slice (some ⟨w.heap.size + 1, 0, none⟩) 1 1] 22)
      rw [e2] at this
      exact this
    · have := heap_alloc_new (w.alloc (.cells #[.string ⟨n.toArray⟩, .string ⟨t.toArray⟩, .slice none 0 0] 24)) (.cells #[.string ⟨n.toArray⟩, .string ⟨t.toArray⟩, .slice none 0 0] 24)
      rw [e1] at this
      exact keep_blk this ((Md.refl (fun _ => False) _).alloc _) (fun h => h)
    · exact (((Below.refl _ _).alloc (Nat.le_refl _) _).alloc (by rw [e1]; omega) _).alloc (by rw [e2]; omega) _
  clear e1 e2
  go_wp2
  rw [← hwa]
  clear hwa
  go_loopw [3, 4, 5] (fun v o i wx => o = .bool true ∧ ((i = .int .i64 1 ∧ v = .slice (some ⟨w.heap.size + 1 + 1, 0, none⟩) 1 1 ∧ wx = wa) ∨ (i = .int .i64 2 ∧ v = .slice none 0 0 ∧ Below w.heap.size w wx))) (fun _ _ i _ => 2 - (intOf i).toNat)
  case atStart => exact ⟨rfl, .inl ⟨rfl, rfl, rfl⟩⟩
  case round =>
    obtain ⟨rfl, ⟨rfl, rfl, rfl⟩ | ⟨rfl, rfl, hbw⟩⟩ := hrel
    · go_wp2_with fail
      refine (KB.out _ _ _ HA.out.1 HA.out.2.1).mono ?_
      rintro e w1 ⟨rfl, hb1⟩
      have HB1 : Hid (Below w.heap.size w w1) := HA.out.2.2.trans (hb1.mono HA.out.2.2.size)
      clear hb1
      go_wp2
      go_roundw
      case rel => exact ⟨rfl, .inr ⟨by go_num, rfl, HB1.out⟩⟩
      case measure => simp [intOf]
    · go_wp2
      go_ret
      exact ⟨rfl, hbw⟩
end Go.Proofs.YtohkocknpmnakaaGreatDoor

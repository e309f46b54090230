/-
  The law XmlTexts.
-/
import Derived.Test.YtohkocknpmnakaaGreatDoorAwk
namespace Go.Proofs.YtohkocknpmnakaaGreatDoor
open Go.RowKit

theorem Mx.bel {w w' : World} (h : Mx w) (hb : Below w.heap.size w w') : Mx w' := h.md (Md.ofBelow (F := fun _ => False) hb) (fun h => h)
theorem Er.bel {w w' : World} (h : Er w) (hb : Below w.heap.size w w') : Er w' := h.md (Md.ofBelow (F := fun _ => False) hb) (fun h => h)

set_option maxRecDepth 20000 in
set_option maxHeartbeats 3200000 in
theorem xmlTexts_walk (m : List UInt8) (w : World) (hl : m.length ≤ 1048576) (hm : Mx w) (he : Er w) :
    Calls Tryz.prog 5 #[.string ⟨m.toArray⟩] w fun e w' => e = .returned (.bool true) ∧ Below w.heap.size w w' := by
  have K1 := unescape_any m w (by omega) hm he
  have K2 := (show Hid (∀ W, Calls Tryz.prog 21 #[.string ⟨m.toArray⟩] W fun e w' => e = .returned (entV (une m)) ∧ Below W.heap.size W w') from fun W => unesc_ref m W (by omega))
  have K3 := (show Hid (∀ W, Calls Tryz.prog 22 #[.string ⟨m.toArray⟩] W fun e w' => e = .returned (.bool (nameB m)) ∧ Below W.heap.size W w') from fun W => name_code m W (by unfold maxLen; omega))
  have K4 := (show Hid (∀ W, Calls Tryz.prog 23 #[.string ⟨m.toArray⟩] W fun e w' => e = .returned (.bool (nameB m)) ∧ Below W.heap.size W w') from fun W => (name_ref m W (by unfold maxLen; omega)).mono fun e w' h => ⟨h.1, by rw [← h.2]; exact Below.refl _ _⟩)
  have K5 := (show Hid (∀ W, Calls Tryz.prog 24 #[.string ⟨m.toArray⟩] W fun e w' => e = .returned (.string ⟨(escX m).toArray⟩) ∧ Below W.heap.size W w') from fun W => escape_any m W (by omega))
  have K6 := (show Hid (∀ W, Calls Tryz.prog 25 #[.string ⟨m.toArray⟩] W fun e w' => e = .returned (.string ⟨(escX m).toArray⟩) ∧ Below W.heap.size W w') from fun W => (escape_ref m W (by omega)).mono fun e w' h => ⟨h.1, by rw [← h.2]; exact Below.refl _ _⟩)
  have K7 := (show Hid (∀ W, Mx W → Er W → Calls Tryz.prog 13 #[] W fun e w' => e = .returned (.bool true) ∧ Below W.heap.size W w') from fun W a b => awake_any W a b)
  have HU : Hid (∃ x b, entV (une m) = .tuple #[.string x, .bool b] ∧ ∀ e, UsR (une m) e → e = .returned (.tuple #[.string x, .bool b])) := by
    cases h : une m with
    | none =>
      refine ⟨⟨#[]⟩, false, rfl, ?_⟩
      rintro e (⟨t, h, -⟩ | ⟨-, rfl⟩)
      · cases h
      · rfl
    | some t =>
      refine ⟨⟨t.toArray⟩, true, rfl, ?_⟩
      rintro e (⟨t', h, rfl⟩ | ⟨h, -⟩)
      · cases h; rfl
      · cases h
  obtain ⟨x, b, h1, h2⟩ := HU.out
  rw [h1] at K2
  have K1' := (show Hid (Calls Tryz.prog 20 #[.string ⟨m.toArray⟩] w fun e w' => e = .returned (.tuple #[.string x, .bool b]) ∧ Below w.heap.size w w') from K1.mono fun e w' h => ⟨h2 e h.1, h.2⟩)
  have HM : Hid (Mx w ∧ Er w) := ⟨hm, he⟩
  generalize (⟨m.toArray⟩ : ByteArray) = s at *
  generalize (⟨(escX m).toArray⟩ : ByteArray) = y at *
  generalize nameB m = q at *
  clear K1 h1 h2 HU hm he
  go_enter Tryz.func5, Tryz.ntmps5
  go_wp2_with fail
  refine K1'.out.mono ?_
  rintro e w1 ⟨rfl, hb1⟩
  have H1 : Hid (Mx w1 ∧ Er w1 ∧ Below w.heap.size w w1) := ⟨HM.out.1.bel hb1, HM.out.2.bel hb1, hb1⟩
  clear hb1 K1' HM
  go_wp2_with fail
  refine (K2.out _).mono ?_
  rintro e w2 ⟨rfl, hb2⟩
  have H2 : Hid (Mx w2 ∧ Er w2 ∧ Below w.heap.size w w2) := ⟨H1.out.1.bel hb2, H1.out.2.1.bel hb2, H1.out.2.2.trans (hb2.mono H1.out.2.2.size)⟩
  clear hb2 H1 K2
  go_wp2_with fail
  refine (K3.out _).mono ?_
  rintro e w3 ⟨rfl, hb3⟩
  have H3 : Hid (Mx w3 ∧ Er w3 ∧ Below w.heap.size w w3) := ⟨H2.out.1.bel hb3, H2.out.2.1.bel hb3, H2.out.2.2.trans (hb3.mono H2.out.2.2.size)⟩
  clear hb3 H2 K3
  go_wp2_with fail
  refine (K4.out _).mono ?_
  rintro e w4 ⟨rfl, hb4⟩
  have H4 : Hid (Mx w4 ∧ Er w4 ∧ Below w.heap.size w w4) := ⟨H3.out.1.bel hb4, H3.out.2.1.bel hb4, H3.out.2.2.trans (hb4.mono H3.out.2.2.size)⟩
  clear hb4 H3 K4
  go_wp2_with fail
  refine (K5.out _).mono ?_
  rintro e w5 ⟨rfl, hb5⟩
  have H5 : Hid (Mx w5 ∧ Er w5 ∧ Below w.heap.size w w5) := ⟨H4.out.1.bel hb5, H4.out.2.1.bel hb5, H4.out.2.2.trans (hb5.mono H4.out.2.2.size)⟩
  clear hb5 H4 K5
  go_wp2_with fail
  refine (K6.out _).mono ?_
  rintro e w6 ⟨rfl, hb6⟩
  have H6 : Hid (Mx w6 ∧ Er w6 ∧ Below w.heap.size w w6) := ⟨H5.out.1.bel hb6, H5.out.2.1.bel hb6, H5.out.2.2.trans (hb6.mono H5.out.2.2.size)⟩
  clear hb6 H5 K6
  go_wp2_with fail
  refine (K7.out _ H6.out.1 H6.out.2.1).mono ?_
  rintro e w7 ⟨rfl, hb7⟩
  go_wp2
  go_ret
  exact ⟨rfl, H6.out.2.2.trans (hb7.mono H6.out.2.2.size)⟩
end Go.Proofs.YtohkocknpmnakaaGreatDoor

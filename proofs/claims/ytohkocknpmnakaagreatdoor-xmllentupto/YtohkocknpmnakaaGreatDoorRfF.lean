/-
  The document's entity: all of it.
-/
import Derived.Test.YtohkocknpmnakaaGreatDoorRfD
import Derived.Test.YtohkocknpmnakaaGreatDoorRfE
namespace Go.Proofs.YtohkocknpmnakaaGreatDoor
open Go.RowKit

set_option maxRecDepth 20000 in
set_option maxHeartbeats 3200000 in
theorem entity_none (a : List UInt8) (w : World) (hl : a.length ≤ 281474976710656) (h1 : a ≠ [97, 109, 112]) (h2 : a ≠ [108, 116]) (h3 : a ≠ [103, 116]) (h4 : a ≠ [113, 117, 111, 116]) (h5 : a ≠ [97, 112, 111, 115]) (hx : eat [35, 120] a = none) (hy : eat [35] a = none) :
    Calls Tryz.prog 45 #[.string ⟨a.toArray⟩] w fun e w' => e = .returned (entV (none)) ∧ Below w.heap.size w w' := by
  obtain ⟨O, hO⟩ : ∃ O : Option (List UInt8), O = none := ⟨_, rfl⟩
  rw [← hO]
  obtain ⟨s, hs⟩ : ∃ s : ByteArray, s = ⟨a.toArray⟩ := ⟨_, rfl⟩
  have HS : Hid (s = ⟨a.toArray⟩ ∧ s.size = a.length) := ⟨hs, by rw [hs, mk_size]⟩
  have hsl : s.size ≤ 281474976710656 := by rw [HS.out.2]; omega
  have hcmp : ∀ x : List UInt8, (s.toList == x) = decide (a = x) := by
    intro x
    rw [Lib.toList_data, hs, Bool.eq_iff_iff]
    simp
  have q1 := hcmp [97, 109, 112]
  have q2 := hcmp [108, 116]
  have q3 := hcmp [103, 116]
  have q4 := hcmp [113, 117, 111, 116]
  have q5 := hcmp [97, 112, 111, 115]
  have HP := (show Hid (∀ (p : List UInt8) W, p.length ≤ 2 → Calls Tryz.prog 61 #[.string s, .string ⟨p.toArray⟩] W fun e w' => e = .returned (.bool (Lib.hasPrefix a p)) ∧ W = w') from fun p W h => by
    rw [hs]
    exact begins_any a p W hl (by omega))
  rw [← hs]
  clear hcmp hs hl
  simp only [h1, decide_false] at q1
  simp only [h2, decide_false] at q2
  simp only [h3, decide_false] at q3
  simp only [h4, decide_false] at q4
  simp only [h5, decide_false] at q5
  clear h1 h2 h3 h4 h5
  have e1 := eat_not hx
  clear hx
  have HZ : Hid (O = none) := hO
  have e2 := eat_not hy
  clear hy hO
  go_enter Tryz.func45, Tryz.ntmps45
  go_wp2_with (go_at_call 61; refine (HP.out _ _ (by decide)).mono ?_; rintro e w' ⟨rfl, rfl⟩; first | rw [e1] | rw [e2])
  go_ret2
  exact ⟨by rw [HZ.out]; rfl, Below.refl _ _⟩
set_option maxRecDepth 20000 in
set_option maxHeartbeats 3200000 in
theorem entity_n1 (a : List UInt8) (w : World) (hl : a.length ≤ 281474976710656) (h : a = [97, 109, 112]) :
    Calls Tryz.prog 45 #[.string ⟨a.toArray⟩] w fun e w' => e = .returned (entV (some [38])) ∧ Below w.heap.size w w' := by
  obtain ⟨O, hO⟩ : ∃ O : Option (List UInt8), O = some [38] := ⟨_, rfl⟩
  rw [← hO]
  obtain ⟨s, hs⟩ : ∃ s : ByteArray, s = ⟨a.toArray⟩ := ⟨_, rfl⟩
  have HS : Hid (s = ⟨a.toArray⟩ ∧ s.size = a.length) := ⟨hs, by rw [hs, mk_size]⟩
  have hsl : s.size ≤ 281474976710656 := by rw [HS.out.2]; omega
  have hcmp : ∀ x : List UInt8, (s.toList == x) = decide (a = x) := by
    intro x
    rw [Lib.toList_data, hs, Bool.eq_iff_iff]
    simp
  have q1 := hcmp [97, 109, 112]
  have q2 := hcmp [108, 116]
  have q3 := hcmp [103, 116]
  have q4 := hcmp [113, 117, 111, 116]
  have q5 := hcmp [97, 112, 111, 115]
  have HP := (show Hid (∀ (p : List UInt8) W, p.length ≤ 2 → Calls Tryz.prog 61 #[.string s, .string ⟨p.toArray⟩] W fun e w' => e = .returned (.bool (Lib.hasPrefix a p)) ∧ W = w') from fun p W h => by
    rw [hs]
    exact begins_any a p W hl (by omega))
  rw [← hs]
  clear hcmp hs hl
  simp only [h, decide_true] at q1
  have HO : Hid (O = some [38]) := hO
  clear hO h HP HS q2 q3 q4 q5
  go_enter Tryz.func45, Tryz.ntmps45
  go_wp2
  go_ret2
  exact ⟨by rw [HO.out]; rfl, Below.refl _ _⟩
set_option maxRecDepth 20000 in
set_option maxHeartbeats 3200000 in
theorem entity_n2 (a : List UInt8) (w : World) (hl : a.length ≤ 281474976710656) (h : a = [108, 116]) :
    Calls Tryz.prog 45 #[.string ⟨a.toArray⟩] w fun e w' => e = .returned (entV (some [60])) ∧ Below w.heap.size w w' := by
  obtain ⟨O, hO⟩ : ∃ O : Option (List UInt8), O = some [60] := ⟨_, rfl⟩
  rw [← hO]
  obtain ⟨s, hs⟩ : ∃ s : ByteArray, s = ⟨a.toArray⟩ := ⟨_, rfl⟩
  have HS : Hid (s = ⟨a.toArray⟩ ∧ s.size = a.length) := ⟨hs, by rw [hs, mk_size]⟩
  have hsl : s.size ≤ 281474976710656 := by rw [HS.out.2]; omega
  have hcmp : ∀ x : List UInt8, (s.toList == x) = decide (a = x) := by
    intro x
    rw [Lib.toList_data, hs, Bool.eq_iff_iff]
    simp
  have q1 := hcmp [97, 109, 112]
  have q2 := hcmp [108, 116]
  have q3 := hcmp [103, 116]
  have q4 := hcmp [113, 117, 111, 116]
  have q5 := hcmp [97, 112, 111, 115]
  have HP := (show Hid (∀ (p : List UInt8) W, p.length ≤ 2 → Calls Tryz.prog 61 #[.string s, .string ⟨p.toArray⟩] W fun e w' => e = .returned (.bool (Lib.hasPrefix a p)) ∧ W = w') from fun p W h => by
    rw [hs]
    exact begins_any a p W hl (by omega))
  rw [← hs]
  clear hcmp hs hl
  simp only [h, show ([108, 116] : List UInt8) ≠ [97, 109, 112] by decide, decide_false] at q1
  simp only [h, decide_true] at q2
  have HO : Hid (O = some [60]) := hO
  clear hO h HP HS q3 q4 q5
  go_enter Tryz.func45, Tryz.ntmps45
  go_wp2
  go_ret2
  exact ⟨by rw [HO.out]; rfl, Below.refl _ _⟩
set_option maxRecDepth 20000 in
set_option maxHeartbeats 3200000 in
theorem entity_n3 (a : List UInt8) (w : World) (hl : a.length ≤ 281474976710656) (h : a = [103, 116]) :
    Calls Tryz.prog 45 #[.string ⟨a.toArray⟩] w fun e w' => e = .returned (entV (some [62])) ∧ Below w.heap.size w w' := by
  obtain ⟨O, hO⟩ : ∃ O : Option (List UInt8), O = some [62] := ⟨_, rfl⟩
  rw [← hO]
  obtain ⟨s, hs⟩ : ∃ s : ByteArray, s = ⟨a.toArray⟩ := ⟨_, rfl⟩
  have HS : Hid (s = ⟨a.toArray⟩ ∧ s.size = a.length) := ⟨hs, by rw [hs, mk_size]⟩
  have hsl : s.size ≤ 281474976710656 := by rw [HS.out.2]; omega
  have hcmp : ∀ x : List UInt8, (s.toList == x) = decide (a = x) := by
    intro x
    rw [Lib.toList_data, hs, Bool.eq_iff_iff]
    simp
  have q1 := hcmp [97, 109, 112]
  have q2 := hcmp [108, 116]
  have q3 := hcmp [103, 116]
  have q4 := hcmp [113, 117, 111, 116]
  have q5 := hcmp [97, 112, 111, 115]
  have HP := (show Hid (∀ (p : List UInt8) W, p.length ≤ 2 → Calls Tryz.prog 61 #[.string s, .string ⟨p.toArray⟩] W fun e w' => e = .returned (.bool (Lib.hasPrefix a p)) ∧ W = w') from fun p W h => by
    rw [hs]
    exact begins_any a p W hl (by omega))
  rw [← hs]
  clear hcmp hs hl
  simp only [h, show ([103, 116] : List UInt8) ≠ [97, 109, 112] by decide, decide_false] at q1
  simp only [h, show ([103, 116] : List UInt8) ≠ [108, 116] by decide, decide_false] at q2
  simp only [h, decide_true] at q3
  have HO : Hid (O = some [62]) := hO
  clear hO h HP HS q4 q5
  go_enter Tryz.func45, Tryz.ntmps45
  go_wp2
  go_ret2
  exact ⟨by rw [HO.out]; rfl, Below.refl _ _⟩
set_option maxRecDepth 20000 in
set_option maxHeartbeats 3200000 in
theorem entity_n4 (a : List UInt8) (w : World) (hl : a.length ≤ 281474976710656) (h : a = [113, 117, 111, 116]) :
    Calls Tryz.prog 45 #[.string ⟨a.toArray⟩] w fun e w' => e = .returned (entV (some [34])) ∧ Below w.heap.size w w' := by
  obtain ⟨O, hO⟩ : ∃ O : Option (List UInt8), O = some [34] := ⟨_, rfl⟩
  rw [← hO]
  obtain ⟨s, hs⟩ : ∃ s : ByteArray, s = ⟨a.toArray⟩ := ⟨_, rfl⟩
  have HS : Hid (s = ⟨a.toArray⟩ ∧ s.size = a.length) := ⟨hs, by rw [hs, mk_size]⟩
  have hsl : s.size ≤ 281474976710656 := by rw [HS.out.2]; omega
  have hcmp : ∀ x : List UInt8, (s.toList == x) = decide (a = x) := by
    intro x
    rw [Lib.toList_data, hs, Bool.eq_iff_iff]
    simp
  have q1 := hcmp [97, 109, 112]
  have q2 := hcmp [108, 116]
  have q3 := hcmp [103, 116]
  have q4 := hcmp [113, 117, 111, 116]
  have q5 := hcmp [97, 112, 111, 115]
  have HP := (show Hid (∀ (p : List UInt8) W, p.length ≤ 2 → Calls Tryz.prog 61 #[.string s, .string ⟨p.toArray⟩] W fun e w' => e = .returned (.bool (Lib.hasPrefix a p)) ∧ W = w') from fun p W h => by
    rw [hs]
    exact begins_any a p W hl (by omega))
  rw [← hs]
  clear hcmp hs hl
  simp only [h, show ([113, 117, 111, 116] : List UInt8) ≠ [97, 109, 112] by decide, decide_false] at q1
  simp only [h, show ([113, 117, 111, 116] : List UInt8) ≠ [108, 116] by decide, decide_false] at q2
  simp only [h, show ([113, 117, 111, 116] : List UInt8) ≠ [103, 116] by decide, decide_false] at q3
  simp only [h, decide_true] at q4
  have HO : Hid (O = some [34]) := hO
  clear hO h HP HS q5
  go_enter Tryz.func45, Tryz.ntmps45
  go_wp2
  go_ret2
  exact ⟨by rw [HO.out]; rfl, Below.refl _ _⟩
set_option maxRecDepth 20000 in
set_option maxHeartbeats 3200000 in
theorem entity_n5 (a : List UInt8) (w : World) (hl : a.length ≤ 281474976710656) (h : a = [97, 112, 111, 115]) :
    Calls Tryz.prog 45 #[.string ⟨a.toArray⟩] w fun e w' => e = .returned (entV (some [39])) ∧ Below w.heap.size w w' := by
  obtain ⟨O, hO⟩ : ∃ O : Option (List UInt8), O = some [39] := ⟨_, rfl⟩
  rw [← hO]
  obtain ⟨s, hs⟩ : ∃ s : ByteArray, s = ⟨a.toArray⟩ := ⟨_, rfl⟩
  have HS : Hid (s = ⟨a.toArray⟩ ∧ s.size = a.length) := ⟨hs, by rw [hs, mk_size]⟩
  have hsl : s.size ≤ 281474976710656 := by rw [HS.out.2]; omega
  have hcmp : ∀ x : List UInt8, (s.toList == x) = decide (a = x) := by
    intro x
    rw [Lib.toList_data, hs, Bool.eq_iff_iff]
    simp
  have q1 := hcmp [97, 109, 112]
  have q2 := hcmp [108, 116]
  have q3 := hcmp [103, 116]
  have q4 := hcmp [113, 117, 111, 116]
  have q5 := hcmp [97, 112, 111, 115]
  have HP := (show Hid (∀ (p : List UInt8) W, p.length ≤ 2 → Calls Tryz.prog 61 #[.string s, .string ⟨p.toArray⟩] W fun e w' => e = .returned (.bool (Lib.hasPrefix a p)) ∧ W = w') from fun p W h => by
    rw [hs]
    exact begins_any a p W hl (by omega))
  rw [← hs]
  clear hcmp hs hl
  simp only [h, show ([97, 112, 111, 115] : List UInt8) ≠ [97, 109, 112] by decide, decide_false] at q1
  simp only [h, show ([97, 112, 111, 115] : List UInt8) ≠ [108, 116] by decide, decide_false] at q2
  simp only [h, show ([97, 112, 111, 115] : List UInt8) ≠ [103, 116] by decide, decide_false] at q3
  simp only [h, show ([97, 112, 111, 115] : List UInt8) ≠ [113, 117, 111, 116] by decide, decide_false] at q4
  simp only [h, decide_true] at q5
  have HO : Hid (O = some [39]) := hO
  clear hO h HP HS 
  go_enter Tryz.func45, Tryz.ntmps45
  go_wp2
  go_ret2
  exact ⟨by rw [HO.out]; rfl, Below.refl _ _⟩
theorem entity_any (a : List UInt8) (w : World) (hl : a.length ≤ 281474976710656) :
    Calls Tryz.prog 45 #[.string ⟨a.toArray⟩] w fun e w' => e = .returned (entV (entL a)) ∧ Below w.heap.size w w' := by
  unfold entL
  by_cases h1 : a = [97, 109, 112]
  · rw [if_pos h1]
    exact entity_n1 a w hl h1
  · rw [if_neg h1]
    by_cases h2 : a = [108, 116]
    · rw [if_pos h2]
      exact entity_n2 a w hl h2
    · rw [if_neg h2]
      by_cases h3 : a = [103, 116]
      · rw [if_pos h3]
        exact entity_n3 a w hl h3
      · rw [if_neg h3]
        by_cases h4 : a = [113, 117, 111, 116]
        · rw [if_pos h4]
          exact entity_n4 a w hl h4
        · rw [if_neg h4]
          by_cases h5 : a = [97, 112, 111, 115]
          · rw [if_pos h5]
            exact entity_n5 a w hl h5
          · rw [if_neg h5]
            cases hx : eat [35, 120] a with
            | some ds => exact entity_hex a w hl h1 h2 h3 h4 h5 ds hx
            | none =>
              cases hy : eat [35] a with
              | some ds => exact entity_dec a w hl h1 h2 h3 h4 h5 ds hx hy
              | none => exact entity_none a w hl h1 h2 h3 h4 h5 hx hy
end Go.Proofs.YtohkocknpmnakaaGreatDoor

/-
  The walk of the statement WhenParses out of the contracts of what it calls.
-/
import Derived.Test.YtbemlmhchpinhaaDoorAwake
import Derived.Test.YtbemlmhchpinhaaDoorRefParseB
namespace Go.Proofs.YtbemlmhchpinhaaDoor
open Go.RowKit

theorem parse_both (s : ByteArray) : ∃ (a c e : Int) (p q r : Bool),
    (∀ wx, Tab wx → Calls Tryd.prog 21 #[.string s] wx fun e w' => e = .returned (.tuple #[.int .i64 a, .bool p]) ∧ Below wx.heap.size wx w') ∧
    (∀ wx, Calls Tryd.prog 22 #[.string s] wx fun e w' => e = .returned (.tuple #[.int .i64 a, .bool p]) ∧ Below wx.heap.size wx w') ∧
    (∀ wx, Tab wx → Calls Tryd.prog 23 #[.string s] wx fun e w' => e = .returned (.tuple #[.int .i64 c, .bool q]) ∧ Below wx.heap.size wx w') ∧
    (∀ wx, Calls Tryd.prog 24 #[.string s] wx fun e w' => e = .returned (.tuple #[.int .i64 c, .bool q]) ∧ Below wx.heap.size wx w') ∧
    (∀ wx, Calls Tryd.prog 25 #[.string s] wx fun e' w' => e' = .returned (.tuple #[.int .i64 e, .bool r]) ∧ Below wx.heap.size wx w') ∧
    (∀ wx, Calls Tryd.prog 26 #[.string s] wx fun e' w' => e' = .returned (.tuple #[.int .i64 e, .bool r]) ∧ Below wx.heap.size wx w') :=
  ⟨_, _, _, _, _, _, fun wx hx => parseBasic_any s wx hx, fun wx => refParseBasic_any s wx, fun wx hx => parseHttp_any s wx hx, fun wx => refParseHttp_any s wx, fun wx => parseDay_any s wx, fun wx => refParseDay_any s wx⟩

set_option maxHeartbeats 1000000 in
theorem whenParses_walk (s : ByteArray) (w : World) (hTab : Tab w) :
    Calls Tryd.prog 6 #[.string s] w fun e w' => e = .returned (.bool true) ∧ Below w.heap.size w w' := by
  obtain ⟨a, c, e, p, q, r, c1, c2, c3, c4, c5, c6⟩ := parse_both s
  have C1 := (show Hid _ from c1)
  have C2 := (show Hid _ from c2)
  have C3 := (show Hid _ from c3)
  have C4 := (show Hid _ from c4)
  have C5 := (show Hid _ from c5)
  have C6 := (show Hid _ from c6)
  clear c1 c2 c3 c4 c5 c6
  go_enter Tryd.func6, Tryd.ntmps6
  go_wp2_with fail
  refine (C1.out _ hTab).mono ?_
  rintro e1 w1 ⟨rfl, hb1⟩
  have T1 := hTab.below hb1
  go_wp2_with fail
  refine (C2.out _).mono ?_
  rintro e1 w2 ⟨rfl, hb2⟩
  have T2 := T1.below hb2
  have K2 := step_below hb1 hb2 (Nat.le_refl _)
  clear hb1 hb2 T1 hTab
  go_wp2_with fail
  refine (C3.out _ T2).mono ?_
  rintro e1 w3 ⟨rfl, hb3⟩
  have T3 := T2.below hb3
  have K3 := step_below K2 hb3 (Nat.le_refl _)
  clear hb3 T2 K2
  go_wp2_with fail
  refine (C4.out _).mono ?_
  rintro e1 w4 ⟨rfl, hb4⟩
  have T4 := T3.below hb4
  have K4 := step_below K3 hb4 (Nat.le_refl _)
  clear hb4 T3 K3
  go_wp2_with fail
  refine (C5.out _).mono ?_
  rintro e1 w5 ⟨rfl, hb5⟩
  have T5 := T4.below hb5
  have K5 := step_below K4 hb5 (Nat.le_refl _)
  clear hb5 T4 K4
  go_wp2_with fail
  refine (C6.out _).mono ?_
  rintro e1 w6 ⟨rfl, hb6⟩
  have T6 := T5.below hb6
  have K6 := step_below K5 hb6 (Nat.le_refl _)
  clear hb6 T5 K5
  go_wp2_with fail
  refine (awake_any _ T6).mono ?_
  rintro e1 w9 ⟨rfl, hb9⟩
  have K9 := step_below K6 hb9 (Nat.le_refl _)
  go_wp2
  go_ret
  exact ⟨rfl, K9⟩
end Go.Proofs.YtbemlmhchpinhaaDoor

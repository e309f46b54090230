/-
  The walk of the statement WhenCivil out of the contracts of what it calls.
-/
import Derived.Test.YtbemlmhchpinhaaDoorAwake
import Derived.Test.YtbemlmhchpinhaaDoorRefOf
namespace Go.Proofs.YtbemlmhchpinhaaDoor
open Go.RowKit

/-- Both Civils tell the same. -/
theorem civil_both (t : Int) : ∃ (a b c e f g : Int) (ok : Bool),
    (∀ wx, Calls Tryd.prog 9 #[.int .i64 t] wx fun e' w' => e' = .returned (.tuple #[.int .i64 a, .int .i64 b, .int .i64 c, .int .i64 e, .int .i64 f, .int .i64 g, .bool ok]) ∧ wx = w') ∧
    (∀ wx, Calls Tryd.prog 10 #[.int .i64 t] wx fun e' w' => e' = .returned (.tuple #[.agg #[.int .i64 a, .int .i64 b, .int .i64 c, .int .i64 e, .int .i64 f, .int .i64 g], .bool ok]) ∧ Below wx.heap.size wx w') := by
  by_cases h : timeB t = true
  · exact ⟨_, _, _, _, _, _, _, fun wx => civil_yes t wx h, fun wx => refCivil_yes t wx h⟩
  · have h' : timeB t = false := by simpa using h
    exact ⟨_, _, _, _, _, _, _, fun wx => civil_no t wx h', fun wx => refCivil_no t wx h'⟩
theorem of_both (y m d h i s : Int) : ∃ (n : Int) (ok : Bool),
    (∀ wx, Calls Tryd.prog 11 #[.int .i64 y, .int .i64 m, .int .i64 d, .int .i64 h, .int .i64 i, .int .i64 s] wx fun e w' => e = .returned (.tuple #[.int .i64 n, .bool ok]) ∧ wx = w') ∧
    (∀ wx, Calls Tryd.prog 12 #[.agg #[.int .i64 y, .int .i64 m, .int .i64 d, .int .i64 h, .int .i64 i, .int .i64 s]] wx fun e w' => e = .returned (.tuple #[.int .i64 n, .bool ok]) ∧ Below wx.heap.size wx w') :=
  ⟨_, _, fun wx => of_any y m d h i s wx, fun wx => refOf_any y m d h i s wx⟩

theorem cells_kept {w1 w2 : World} {a b c e f g : Int} (h : Below (w1.alloc (dateC a b c e f g)).heap.size (w1.alloc (dateC a b c e f g)) w2) :
    w2.cell? ⟨w1.heap.size, 0, none⟩ = some (.int .i64 a) ∧ w2.cell? ⟨w1.heap.size, 1, none⟩ = some (.int .i64 b) ∧ w2.cell? ⟨w1.heap.size, 2, none⟩ = some (.int .i64 c) ∧
    w2.cell? ⟨w1.heap.size, 3, none⟩ = some (.int .i64 e) ∧ w2.cell? ⟨w1.heap.size, 4, none⟩ = some (.int .i64 f) ∧ w2.cell? ⟨w1.heap.size, 5, none⟩ = some (.int .i64 g) := by
  refine ⟨?_, ?_, ?_, ?_, ?_, ?_⟩ <;>
  · rw [h.cell (by simp), World.cell?_alloc_at (hn := by simp)]
    rfl

set_option maxHeartbeats 2000000 in
set_option maxRecDepth 20000 in
theorem whenCivil_walk (t y m d h i s : Int) (w : World) (hTab : Tab w) :
    Calls Tryd.prog 4 #[.int .i64 t, .int .i64 y, .int .i64 m, .int .i64 d, .int .i64 h, .int .i64 i, .int .i64 s] w fun e w' => e = .returned (.bool true) ∧ Below w.heap.size w w' := by
  obtain ⟨a, b, c, e, f, g, ok, c1, c2⟩ := civil_both t
  obtain ⟨n, k, c3, c4⟩ := of_both y m d h i s
  have C1 := (show Hid _ from c1)
  have C2 := (show Hid _ from c2)
  have C3 := (show Hid _ from c3)
  have C4 := (show Hid _ from c4)
  clear c1 c2 c3 c4
  go_enter Tryd.func4, Tryd.ntmps4
  go_wp2_with fail
  refine (C1.out _).mono ?_
  rintro e1 w' ⟨rfl, rfl⟩
  go_wp2_with fail
  refine (C2.out _).mono ?_
  rintro e1 w1 ⟨rfl, hb1⟩
  have T1 := hTab.below hb1
  go_wp2_with fail
  refine (C3.out _).mono ?_
  rintro e1 w' ⟨rfl, rfl⟩
  go_wp2_with fail
  refine (C4.out _).mono ?_
  rintro e1 w2 ⟨rfl, hb2⟩
  have hbA : Below w1.heap.size w1 (w1.alloc (dateC a b c e f g)) := Below.alloc (Below.refl _ _) (Nat.le_refl _) _
  have B1 := step_below hb1 hbA (Nat.le_refl _)
  have T2 := T1.below hbA
  have B2 := step_below B1 hb2 (Nat.le_refl _)
  have T3 := T2.below hb2
  obtain ⟨k0, k1, k2, k3, k4, k5⟩ := cells_kept hb2
  have HB := (show Hid _ from B2)
  have HT := (show Hid _ from T3)
  clear hb1 hb2 hbA B1 B2 T1 T2 T3
  go_wp2_with fail
  refine (awake_any _ HT.out).mono ?_
  rintro e1 w3 ⟨rfl, hb3⟩
  have B3 := step_below HB.out hb3 (Nat.le_refl _)
  go_wp2
  go_ret
  exact ⟨rfl, B3⟩
end Go.Proofs.YtbemlmhchpinhaaDoor

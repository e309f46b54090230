/-
  The walk of the statement CharsEscapes out of the contracts of what it calls.
-/
import Derived.Test.YtcdlhcgmjgeacaaDoorAwake
import Derived.Test.YtcdlhcgmjgeacaaDoorRefEsc
import Derived.Test.YtcdlhcgmjgeacaaDoorRefUne
namespace Go.Proofs.YtcdlhcgmjgeacaaDoor
open Go.RowKit

set_option maxHeartbeats 1000000 in
theorem charsEscapes_walk (s : ByteArray) (slash : Bool) (w : World) (hs : s.size ≤ 17592186044416) (hm : Mx w) :
    Calls Tryd.prog 4 #[.string s, .bool slash] w fun e w' => e = .returned (.bool true) ∧ Below w.heap.size w w' := by
  go_enter Tryd.func4, Tryd.ntmps4
  go_wp2_with fail
  refine (unescape_any s _ (by omega)).mono ?_
  rintro e w1 ⟨rfl, hb1⟩
  go_wp2_with fail
  refine (refUnescape_any s _ (by omega)).mono ?_
  rintro e w2 ⟨rfl, hb2⟩
  have B2 := step_below hb1 hb2 (Nat.le_refl _)
  clear hb1 hb2
  go_wp2_with fail
  refine (escape_any s slash _ hs).mono ?_
  rintro e w3 ⟨rfl, hb3⟩
  have B3 := step_below B2 hb3 (Nat.le_refl _)
  clear B2 hb3
  go_wp2_with fail
  refine (refEscape_any s slash _ hs).mono ?_
  rintro e w4 ⟨rfl, hb4⟩
  have B4 := step_below B3 hb4 (Nat.le_refl _)
  clear B3 hb4
  go_wp2_with fail
  refine (awake_any _ (hm.below B4 (Nat.le_refl _))).mono ?_
  rintro e w6 ⟨rfl, hb6⟩
  have B6 := step_below B4 hb6 (Nat.le_refl _)
  clear B4 hb6
  go_wp2
  go_ret
  exact ⟨rfl, B6⟩
end Go.Proofs.YtcdlhcgmjgeacaaDoor

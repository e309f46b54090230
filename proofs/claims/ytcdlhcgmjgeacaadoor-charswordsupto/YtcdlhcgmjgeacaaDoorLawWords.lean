/-
  The walk of the statement CharsWords out of the contracts of what it calls.
-/
import Derived.Test.YtcdlhcgmjgeacaaDoorAwake
import Derived.Test.YtcdlhcgmjgeacaaDoorFold
import Derived.Test.YtcdlhcgmjgeacaaDoorLower
namespace Go.Proofs.YtcdlhcgmjgeacaaDoor
open Go.RowKit

set_option maxHeartbeats 2000000 in
theorem charsWords_walk (s : ByteArray) (c : UInt8) (w : World) (hs : s.size ≤ 1048576) (hm : Mx w) :
    Calls Tryd.prog 5 #[.string s, .int .u8 (c.toNat : Int)] w fun e w' => e = .returned (.bool true) ∧ Below w.heap.size w w' := by
  have hs' : s.size ≤ maxLen := by unfold maxLen; omega
  have hsl : (splitS c s).length ≤ 140737488351232 := by
    rw [splitS_length]
    have h := Lib.countB_le ⟨#[c]⟩ (Nat.le_refl 1) s.size s (Nat.le_refl _)
    omega
  have HSL : Hid ((splitS c s).length ≤ 140737488351232) := hsl
  clear hsl
  go_enter Tryd.func5, Tryd.ntmps5
  go_wp2_with fail
  refine (token_any s _ hs').mono ?_
  rintro e w1 ⟨rfl, rfl⟩
  go_wp2_with fail
  refine (refToken_any s _ hs').mono ?_
  rintro e w1 ⟨rfl, rfl⟩
  go_wp2_with fail
  refine (value_any s _ hs').mono ?_
  rintro e w1 ⟨rfl, rfl⟩
  go_wp2_with fail
  refine (refValue_any s _ hs').mono ?_
  rintro e w1 ⟨rfl, rfl⟩
  go_wp2_with fail
  refine (trim_any s _ (by omega)).mono ?_
  rintro e w2 ⟨rfl, B2⟩
  go_wp2_with fail
  refine (refTrim_any s _ hs').mono ?_
  rintro e w3 ⟨rfl, rfl⟩
  go_wp2_with fail
  refine (foldS_any s _ (by omega)).mono ?_
  rintro e w4 ⟨rfl, hb4⟩
  have B4 := step_below B2 hb4 (Nat.le_refl _)
  clear B2 hb4
  go_wp2_with fail
  refine (refFold_any s _ hs').mono ?_
  rintro e w3 ⟨rfl, rfl⟩
  go_wp2_with fail
  refine (lower_any s _ (by omega)).mono ?_
  rintro e w5 ⟨rfl, hb5⟩
  have B5 := step_below B4 hb5 (Nat.le_refl _)
  clear B4 hb5
  go_wp2_with fail
  refine (refLower_any s _ (by omega)).mono ?_
  rintro e w6 ⟨rfl, hb6⟩
  have B6 := step_below B5 hb6 (Nat.le_refl _)
  clear B5 hb6
  go_wp2_with fail
  refine (split_any s c _ (by omega) (hm.below B6 (Nat.le_refl _))).mono ?_
  rintro e w7 ⟨g, rfl, hst, hb7⟩
  have B7 := step_below B6 hb7 (Nat.le_refl _)
  clear B6 hb7
  go_wp2_with fail
  refine (refSplit_any s c _ (by omega)).mono ?_
  rintro e w8 ⟨v, rfl, ho, hb8⟩
  obtain ⟨a, cap, rfl, hst2⟩ := ho.strs
  have hst' := hst.below hb8 (Nat.le_refl _)
  have B8 := step_below B7 hb8 (Nat.le_refl _)
  clear B7 hb8 ho hst
  go_wp2_with fail
  refine (sameTexts_same _ _ (splitS c s) _ _ _ HSL.out hst' hst2).mono ?_
  rintro e w9 ⟨rfl, hb9⟩
  have B9 := step_below B8 hb9 (Nat.le_refl _)
  clear B8 hb9 hst' hst2
  go_wp2_with fail
  refine (awake_any _ (hm.below B9 (Nat.le_refl _))).mono ?_
  rintro e w10 ⟨rfl, hb10⟩
  have B10 := step_below B9 hb10 (Nat.le_refl _)
  clear B9 hb10
  go_wp2
  go_ret
  exact ⟨rfl, B10⟩
end Go.Proofs.YtcdlhcgmjgeacaaDoor

/-
  stowagelaw18.awake.
-/
import Derived.Test.YtnmffehmjgknkaaGreatDoorAwC
import Derived.Test.YtnmffehmjgknkaaGreatDoorAwD
namespace Go.Proofs.YtnmffehmjgknkaaGreatDoor
open Go.RowKit

set_option maxRecDepth 20000 in
set_option maxHeartbeats 4000000 in
theorem awake_any (w : World) (hm : Mx w) : Calls Tryz.prog 11 #[] w fun e w' => e = .returned (.bool true) ∧ Below w.heap.size w w' := by
  have HM := (show Hid (Mx w) from hm)
  have K1 := (show Hid _ from skey_any exS exD exR exI w (by decide) (by decide) (by decide) (by decide))
  clear hm
  go_enter Tryz.func11, Tryz.ntmps11
  go_wp2_with fail
  refine Calls.mono K1.out ?_
  rintro e w1 ⟨v1, rfl, ho1, hb1⟩
  have HO1 := (show Hid (Own w1 w.heap.size v1 (skL exS exD exR exI)) from ho1)
  have HB1 := (show Hid (Below w.heap.size w w1) from hb1)
  have K2 := (show Hid _ from verify_none ⟨#[71, 69, 84]⟩ w1 (HM.out.below hb1 (Nat.le_refl _)))
  clear ho1 hb1 K1
  go_wp2_with fail
  refine Calls.mono K2.out ?_
  rintro e w2 ⟨rfl, hb2⟩
  have HB2 := (show Hid (Below w.heap.size w w2) from HB1.out.trans (hb2.mono HB1.out.size))
  have HO2 := (show Hid (Own w2 w.heap.size v1 (skL exS exD exR exI)) from own_md HO1.out (Md.ofBelow (F := fun _ => False) hb2) (fun _ _ h => h))
  clear hb2 K2
  go_upto_region 3 with fail
  obtain ⟨W3, hW3⟩ : ∃ W3, W3 = w2.alloc (.cells #[.string ⟨#[]⟩, .string ⟨#[]⟩, .string ⟨#[]⟩, .string ⟨#[]⟩, .slice none 0 0, .string ⟨#[]⟩] 39) := ⟨_, rfl⟩
  have hb3 : Below w2.heap.size w2 W3 := by rw [hW3]; exact (Below.refl _ _).alloc (Nat.le_refl _) _
  have HB3 := (show Hid (Below w.heap.size w W3) from HB2.out.trans (hb3.mono HB2.out.size))
  have ho3 := own_md HO2.out (Md.ofBelow (F := fun _ => False) hb3) (fun _ _ h => h)
  obtain ⟨a3, c3, rfl, -, -, hB3, -, -⟩ := own_head ho3
  rw [← hW3]
  have K3 := (show Hid _ from rhex_any a3 (skL exS exD exR exI) c3 W3 hB3 (by decide))
  rw [sk_one] at K3
  obtain ⟨X, hX⟩ : ∃ X : ByteArray, X = ⟨exK.toArray⟩ := ⟨_, rfl⟩
  rw [← hX] at K3
  have hXe : (X.toList == [102, 52, 55, 56, 48, 101, 50, 100, 57, 102, 54, 53, 102, 97, 56, 57, 53, 102, 57, 99, 54, 55, 98, 51, 50, 99, 101, 49, 98, 97, 102, 48, 98, 48, 100, 56, 97, 52, 51, 53, 48, 53, 97, 48, 48, 48, 97, 49, 97, 57, 101, 48, 57, 48, 100, 52, 49, 52, 100, 98, 52, 48, 52, 100]) = true := by
    rw [hX, ByteArray.toList_mk]
    rfl
  clear hW3 hb3 ho3 hB3 hX
  go_wp2_with fail
  refine Calls.mono K3.out ?_
  rintro e w4 ⟨rfl, hb4⟩
  have HB4 := (show Hid (Below w.heap.size w w4) from HB3.out.trans (hb4.mono HB3.out.size))
  clear hb4 K3
  go_wp2_with fail
  go_ret
  exact ⟨rfl, HB4.out⟩
end Go.Proofs.YtnmffehmjgknkaaGreatDoor

/-
  'awake' of the statements' package by its contract: it answers true and turns nothing that was there.
-/
import Derived.Test.YtaagnckppdaljaaDoorBucket
namespace Go.Proofs.YtaagnckppdaljaaDoor
open Go.RowKit

theorem step_below {B : Nat} {w w1 w2 : World} (h : Below B w w1) (hb : Below w1.heap.size w1 w2) (hB : B ≤ w.heap.size) : Below B w w2 :=
  h.trans (hb.mono (by have := h.size; omega))

theorem bucket_1 (w : World) (hm : Mx w) : Calls Tryd.prog 37 #[.string ⟨#[97, 46, 98]⟩] w fun e w' => e = .returned (.bool true) ∧ Below w.heap.size w w' := by
  refine (bucket_any ⟨#[97, 46, 98]⟩ w (by decide) hm).mono ?_
  rintro e w' ⟨rfl, hb⟩
  have e1 : bucketB [97, 46, 98] = true := by decide +kernel
  exact ⟨ret_bool e1, hb⟩
theorem bucket_2 (w : World) (hm : Mx w) : Calls Tryd.prog 37 #[.string ⟨#[97, 46, 46, 98]⟩] w fun e w' => e = .returned (.bool false) ∧ Below w.heap.size w w' := by
  refine (bucket_any ⟨#[97, 46, 46, 98]⟩ w (by decide) hm).mono ?_
  rintro e w' ⟨rfl, hb⟩
  have e1 : bucketB [97, 46, 46, 98] = false := by decide +kernel
  exact ⟨ret_bool e1, hb⟩
theorem split_1 (w : World) (hm : Mx w) : Calls Tryd.prog 71 #[.string ⟨#[97, 44, 98]⟩, .int .u8 44] w fun e w' => ∃ g, e = .returned (.slice (some ⟨g, 0, none⟩) 2 2) ∧ Below w.heap.size w w' := by
  refine (split_any ⟨#[97, 44, 98]⟩ 44 w (by decide) hm).mono ?_
  rintro e w' ⟨g, rfl, _, hb⟩
  have e1 : (splitS 44 ⟨#[97, 44, 98]⟩).length = 2 := by rw [splitS, List.length_map]; decide +kernel
  exact ⟨g, by rw [e1], hb⟩

end Go.Proofs.YtaagnckppdaljaaDoor

/-
  'awake' of the statements' package by its contract: it answers true and turns nothing that was there.
-/
import Derived.Test.YtcdlhcgmjgeacaaDoorBucket
namespace Go.Proofs.YtcdlhcgmjgeacaaDoor
open Go.RowKit

theorem step_below {B : Nat} {w w1 w2 : World} (h : Below B w w1) (hb : Below w1.heap.size w1 w2) (hB : B ≤ w.heap.size) : Below B w w2 :=
  h.trans (hb.mono (by have := h.size; omega))

theorem count_ee (w : World) : Calls Tryd.prog 9 #[.string ⟨#[195, 169, 226, 130, 172]⟩] w fun e w' => e = .returned (.tuple #[.int .i64 2, .bool true]) ∧ Below w.heap.size w w' := by
  refine (count_any ⟨#[195, 169, 226, 130, 172]⟩ w (by decide)).mono ?_
  rintro e w' ⟨rfl, hb⟩
  have e1 : cntN [195, 169, 226, 130, 172] = 2 := by decide +kernel
  have e2 : cntOk [195, 169, 226, 130, 172] = true := by decide +kernel
  exact ⟨ret_ib (by rw [e1]; rfl) e2, hb⟩
theorem une_a (w : World) : Calls Tryd.prog 15 #[.string ⟨#[97, 37, 50, 102, 98, 43]⟩] w fun e w' => e = .returned (.tuple #[.string ⟨#[97, 47, 98, 43]⟩, .bool true]) ∧ Below w.heap.size w w' := by
  refine (unescape_any ⟨#[97, 37, 50, 102, 98, 43]⟩ w (by decide)).mono ?_
  rintro e w' ⟨rfl, hb⟩
  have e1 : uneV [97, 37, 50, 102, 98, 43] = [97, 47, 98, 43] := by decide +kernel
  have e2 : uneOk [97, 37, 50, 102, 98, 43] = true := by decide +kernel
  exact ⟨ret_sb (by rw [e1]) e2, hb⟩
theorem esc_a (w : World) : Calls Tryd.prog 17 #[.string ⟨#[97, 32, 98, 47, 195, 169]⟩, .bool true] w fun e w' => e = .returned (.string ⟨#[97, 37, 50, 48, 98, 47, 37, 67, 51, 37, 65, 57]⟩) ∧ Below w.heap.size w w' := by
  refine (escape_any ⟨#[97, 32, 98, 47, 195, 169]⟩ true w (by decide)).mono ?_
  rintro e w' ⟨rfl, hb⟩
  have e1 : escL true [97, 32, 98, 47, 195, 169] = [97, 37, 50, 48, 98, 47, 37, 67, 51, 37, 65, 57] := by decide +kernel
  exact ⟨ret_str (by rw [e1]), hb⟩
theorem bucket_1 (w : World) (hm : Mx w) : Calls Tryd.prog 32 #[.string ⟨#[97, 46, 98]⟩] w fun e w' => e = .returned (.bool true) ∧ Below w.heap.size w w' := by
  refine (bucket_any ⟨#[97, 46, 98]⟩ w (by decide) hm).mono ?_
  rintro e w' ⟨rfl, hb⟩
  have e1 : bucketB [97, 46, 98] = true := by decide +kernel
  exact ⟨ret_bool e1, hb⟩
theorem bucket_2 (w : World) (hm : Mx w) : Calls Tryd.prog 32 #[.string ⟨#[97, 46, 46, 98]⟩] w fun e w' => e = .returned (.bool false) ∧ Below w.heap.size w w' := by
  refine (bucket_any ⟨#[97, 46, 46, 98]⟩ w (by decide) hm).mono ?_
  rintro e w' ⟨rfl, hb⟩
  have e1 : bucketB [97, 46, 46, 98] = false := by decide +kernel
  exact ⟨ret_bool e1, hb⟩
theorem fold_1 (w : World) : Calls Tryd.prog 25 #[.string ⟨#[32, 97, 32, 9, 32, 98, 32]⟩] w fun e w' => e = .returned (.string ⟨#[97, 32, 98]⟩) ∧ Below w.heap.size w w' := by
  have e1 : foldG ⟨#[32, 97, 32, 9, 32, 98, 32]⟩ = [97, 32, 98] := by decide +kernel
  have e2 : (Lib.goFieldsP blkP ⟨#[32, 97, 32, 9, 32, 98, 32]⟩).length = 2 := by decide +kernel
  refine (fold_any ⟨#[32, 97, 32, 9, 32, 98, 32]⟩ w (by decide) (by rw [e1]; decide) (by rw [e2]; decide)).mono ?_
  rintro e w' ⟨rfl, hb⟩
  exact ⟨ret_str (by rw [e1]), hb⟩
theorem split_1 (w : World) (hm : Mx w) : Calls Tryd.prog 30 #[.string ⟨#[97, 44, 98]⟩, .int .u8 44] w fun e w' => ∃ g, e = .returned (.slice (some ⟨g, 0, none⟩) 2 2) ∧ Below w.heap.size w w' := by
  refine (split_any ⟨#[97, 44, 98]⟩ 44 w (by decide) hm).mono ?_
  rintro e w' ⟨g, rfl, _, hb⟩
  have e1 : (splitS 44 ⟨#[97, 44, 98]⟩).length = 2 := by rw [splitS, List.length_map]; decide +kernel
  exact ⟨g, by rw [e1], hb⟩

set_option maxHeartbeats 1000000 in
theorem awake_any (w : World) (hm : Mx w) : Calls Tryd.prog 14 #[] w fun e w' => e = .returned (.bool true) ∧ Below w.heap.size w w' := by
  go_enter Tryd.func14, Tryd.ntmps14
  go_wp2_with fail
  refine (count_ee _).mono ?_
  rintro e w1 ⟨rfl, hb1⟩
  have m1 := hm.below hb1 (Nat.le_refl _)
  go_wp2_with fail
  refine (une_a _).mono ?_
  rintro e w2 ⟨rfl, hb2⟩
  have m2 := m1.below hb2 (Nat.le_refl _)
  have B2 := step_below hb1 hb2 (Nat.le_refl _)
  clear hb1 hb2 m1
  go_wp2_with fail
  refine (esc_a _).mono ?_
  rintro e w3 ⟨rfl, hb3⟩
  have m3 := m2.below hb3 (Nat.le_refl _)
  have B3 := step_below B2 hb3 (Nat.le_refl _)
  clear B2 hb3 m2
  go_wp2_with fail
  refine (bucket_1 _ m3).mono ?_
  rintro e w4 ⟨rfl, hb4⟩
  have m4 := m3.below hb4 (Nat.le_refl _)
  have B4 := step_below B3 hb4 (Nat.le_refl _)
  clear B3 hb4 m3
  go_wp2_with fail
  refine (bucket_2 _ m4).mono ?_
  rintro e w5 ⟨rfl, hb5⟩
  have m5 := m4.below hb5 (Nat.le_refl _)
  have B5 := step_below B4 hb5 (Nat.le_refl _)
  clear B4 hb5 m4
  go_wp2_with fail
  refine (fold_1 _).mono ?_
  rintro e w6 ⟨rfl, hb6⟩
  have m6 := m5.below hb6 (Nat.le_refl _)
  have B6 := step_below B5 hb6 (Nat.le_refl _)
  clear B5 hb6 m5
  go_wp2_with fail
  refine (split_1 _ m6).mono ?_
  rintro e w7 ⟨g, rfl, hb7⟩
  have B7 := step_below B6 hb7 (Nat.le_refl _)
  clear B6 hb7 m6
  go_wp2
  go_ret
  exact ⟨rfl, B7⟩
end Go.Proofs.YtcdlhcgmjgeacaaDoor

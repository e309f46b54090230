/-
  sig.Verify of a request without anything.
-/
import Derived.Test.YtnmffehmjgknkaaGreatDoorAwB
namespace Go.Proofs.YtnmffehmjgknkaaGreatDoor
open Go.RowKit

set_option maxRecDepth 20000 in
set_option maxHeartbeats 4000000 in
theorem verify_none (m : ByteArray) (w : World) (hm : Mx w) :
    Calls Tryz.prog 16 #[.agg #[.string m, .string ⟨#[47]⟩, .slice none 0 0, .slice none 0 0], .slice none 0 0, .int .i64 0] w fun e w' => e = .returned (.tuple #[.agg #[.string ⟨#[]⟩, .string ⟨#[]⟩, .string ⟨#[]⟩, .string ⟨#[]⟩, .slice none 0 0, .string ⟨#[]⟩], .int .i64 300]) ∧ Below w.heap.size w w' := by
  have HM := (show Hid (Mx w) from hm)
  clear hm
  go_enter Tryz.func16, Tryz.ntmps16
  go_upto_region 1 with fail
  obtain ⟨W1, hW1⟩ : ∃ W1, W1 = w.alloc (.cells #[.string m, .string ⟨#[47]⟩, .slice none 0 0, .slice none 0 0] 25) := ⟨_, rfl⟩
  obtain ⟨W2, hW2⟩ : ∃ W2, W2 = W1.alloc (.cells #[.string ⟨#[]⟩, .string ⟨#[]⟩, .string ⟨#[]⟩, .string ⟨#[]⟩, .slice none 0 0, .string ⟨#[]⟩] 39) := ⟨_, rfl⟩
  have hs1 : W1.heap.size = w.heap.size + 1 := by rw [hW1]; show (w.heap.push _).size = _; simp
  have hb1 : Below w.heap.size w W1 := by rw [hW1]; exact (Below.refl _ _).alloc (Nat.le_refl _) _
  have hb2 : Below W1.heap.size W1 W2 := by rw [hW2]; exact (Below.refl _ _).alloc (Nat.le_refl _) _
  obtain ⟨A, hA⟩ : ∃ A, A = w.heap.size := ⟨_, rfl⟩
  obtain ⟨R, hR⟩ : ∃ R, R = w.heap.size + 1 := ⟨_, rfl⟩
  have nA1 : W1.heap[A]? = some (.cells #[.string m, .string ⟨#[47]⟩, .slice none 0 0, .slice none 0 0] 25 (0, 0)) := by rw [hW1, hA]; exact heap_alloc_new w _
  have nA := (hb2.block A (blk_lt nA1)).trans nA1
  have nR : W2.heap[R]? = some (.cells #[.string ⟨#[]⟩, .string ⟨#[]⟩, .string ⟨#[]⟩, .string ⟨#[]⟩, .slice none 0 0, .string ⟨#[]⟩] 39 (0, 0)) := by rw [hW2, hR, ← hs1]; exact heap_alloc_new W1 _
  have HB2 := (show Hid (Below w.heap.size w W2) from hb1.trans (hb2.mono hb1.size))
  have HA := (show Hid _ from nA)
  have HR := (show Hid _ from nR)
  have HAR := (show Hid (w.heap.size ≤ A ∧ w.heap.size ≤ R ∧ A ≠ R) from ⟨by omega, by omega, by omega⟩)
  have hA1 : W2.cell? ⟨A, 1, none⟩ = some (.string ⟨#[47]⟩) := by have := cell_blk nA 1; simpa using this
  rw [← hW1, ← hW2, ← hR, ← hA]
  clear hW1 hW2 hs1 hb1 hb2 hA hR nA1 nA nR
  have KQ := (show Hid _ from query_any [47] W2 (by decide) (HM.out.below HB2.out (Nat.le_refl _)))
  go_wp2_with fail
  refine Calls.mono KQ.out ?_
  rintro e w3 ⟨v3, rfl, ho3, hb3⟩
  rw [show (Lib.cut [47] [63]).1 = [47] from rfl]
  obtain ⟨a3, c3, rfl⟩ := own_slice ho3
  rw [show (qryL [47]).length = 0 from rfl]
  have HB3 := (show Hid (Below w.heap.size w w3 ∧ Below W2.heap.size W2 w3) from ⟨HB2.out.trans (hb3.mono HB2.out.size), hb3⟩)
  have nA3 := (hb3.block A (blk_lt HA.out)).trans HA.out
  have nR3 := (hb3.block R (blk_lt HR.out)).trans HR.out
  have HA3 := (show Hid _ from nA3)
  have HR3 := (show Hid _ from nR3)
  clear ho3 hb3 KQ hA1
  have hq0 : w3.cell? ⟨A, 0, none⟩ = some (.string m) := by have := cell_blk nA3 0; simpa using this
  have hq1 : w3.cell? ⟨A, 1, none⟩ = some (.string ⟨#[47]⟩) := by have := cell_blk nA3 1; simpa using this
  have hq2 : w3.cell? ⟨A, 2, none⟩ = some (.slice none 0 0) := by have := cell_blk nA3 2; simpa using this
  have hq3 : w3.cell? ⟨A, 3, none⟩ = some (.slice none 0 0) := by have := cell_blk nA3 3; simpa using this
  clear nA3 nR3
  go_upto_region 3 with fail
  obtain ⟨W4, hW4⟩ : ∃ W4, W4 = w3.alloc (.cells #[.string m, .string ⟨#[47]⟩, .slice none 0 0, .slice none 0 0, .slice a3 0 c3, .slice none 0 0, .int .i64 0, .bool false, .string ⟨#[]⟩, .slice none 0 0, .int .i64 0, .int .i64 0, .string ⟨#[]⟩, .string ⟨#[]⟩, .string ⟨#[]⟩, .string ⟨#[]⟩, .string ⟨#[]⟩, .slice none 0 0, .string ⟨#[]⟩] 85) := ⟨_, rfl⟩
  obtain ⟨p, hp⟩ : ∃ p, p = w3.heap.size := ⟨_, rfl⟩
  have nP4 : W4.heap[p]? = some (.cells #[.string m, .string ⟨#[47]⟩, .slice none 0 0, .slice none 0 0, .slice a3 0 c3, .slice none 0 0, .int .i64 0, .bool false, .string ⟨#[]⟩, .slice none 0 0, .int .i64 0, .int .i64 0, .string ⟨#[]⟩, .string ⟨#[]⟩, .string ⟨#[]⟩, .string ⟨#[]⟩, .string ⟨#[]⟩, .slice none 0 0, .string ⟨#[]⟩] 85 (0, 0)) := by rw [hW4, hp]; exact heap_alloc_new w3 _
  have hb4 : Below w3.heap.size w3 W4 := by rw [hW4]; exact (Below.refl _ _).alloc (Nat.le_refl _) _
  have HB4 := (show Hid (Below w.heap.size w W4 ∧ Below W2.heap.size W2 W4 ∧ W2.heap.size ≤ p ∧ R < p) from ⟨HB3.out.1.trans (hb4.mono HB3.out.1.size), HB3.out.2.trans (hb4.mono HB3.out.2.size), by rw [hp]; exact HB3.out.2.size, by rw [hp]; exact Nat.lt_of_lt_of_le (blk_lt HR.out) HB3.out.2.size⟩)
  have HP4 := (show Hid _ from nP4)
  have HR4 := (show Hid _ from (hb4.block R (blk_lt HR3.out)).trans HR3.out)
  rw [← hW4, ← hp]
  clear hW4 hp nP4 hb4 hq0 hq1 hq2 hq3
  go_upto_region 4 with fail
  obtain ⟨W5, hW5⟩ : ∃ W5, W5 = W4.alloc (.cells #[.func (.func 51) #[.pointer (some ⟨p, 0, none⟩)] #[], .func (.func 52) #[.pointer (some ⟨p, 0, none⟩)] #[], .func (.func 53) #[.pointer (some ⟨p, 0, none⟩)] #[], .func (.func 54) #[.pointer (some ⟨p, 0, none⟩)] #[], .func (.func 55) #[.pointer (some ⟨p, 0, none⟩)] #[], .func (.func 56) #[.pointer (some ⟨p, 0, none⟩)] #[], .func (.func 57) #[.pointer (some ⟨p, 0, none⟩)] #[], .func (.func 58) #[.pointer (some ⟨p, 0, none⟩)] #[], .func (.func 59) #[.pointer (some ⟨p, 0, none⟩)] #[], .func (.func 60) #[.pointer (some ⟨p, 0, none⟩)] #[]] 86) := ⟨_, rfl⟩
  obtain ⟨q, hq⟩ : ∃ q, q = W4.heap.size := ⟨_, rfl⟩
  have hc5 : W5.cell? ⟨q, 0, none⟩ = some (.func (.func 51) #[.pointer (some ⟨p, 0, none⟩)] #[]) := by
    rw [hW5, hq]
    have := World.cell?_alloc_mark W4 #[.func (.func 51) #[.pointer (some ⟨p, 0, none⟩)] #[], .func (.func 52) #[.pointer (some ⟨p, 0, none⟩)] #[], .func (.func 53) #[.pointer (some ⟨p, 0, none⟩)] #[], .func (.func 54) #[.pointer (some ⟨p, 0, none⟩)] #[], .func (.func 55) #[.pointer (some ⟨p, 0, none⟩)] #[], .func (.func 56) #[.pointer (some ⟨p, 0, none⟩)] #[], .func (.func 57) #[.pointer (some ⟨p, 0, none⟩)] #[], .func (.func 58) #[.pointer (some ⟨p, 0, none⟩)] #[], .func (.func 59) #[.pointer (some ⟨p, 0, none⟩)] #[], .func (.func 60) #[.pointer (some ⟨p, 0, none⟩)] #[]] 86 (0, 0) 0
    rw [this]
    rfl
  have hb5 : Below W4.heap.size W4 W5 := by rw [hW5]; exact (Below.refl _ _).alloc (Nat.le_refl _) _
  have HB5 := (show Hid (Below w.heap.size w W5 ∧ Below W2.heap.size W2 W5) from ⟨HB4.out.1.trans (hb5.mono HB4.out.1.size), HB4.out.2.1.trans (hb5.mono HB4.out.2.1.size)⟩)
  have KW := (show Hid _ from way_none p _ _ _ _ _ _ _ _ _ _ _ _ _ _ _ _ a3 c3 W5 ((hb5.block p (blk_lt HP4.out)).trans HP4.out))
  have HR5 := (show Hid _ from (hb5.block R (blk_lt HR4.out)).trans HR4.out)
  rw [← hW5, ← hq]
  clear hW5 hq hb5
  go_wp2
  go_loopw [50] (fun i wr => i = .int .i64 0 ∧ wr = W5) (fun _ _ => 0)
  case atStart => exact ⟨rfl, rfl⟩
  case round =>
    obtain ⟨rfl, rfl⟩ := hrel
    go_wp2_with fail
    refine Calls.mono KW.out ?_
    rintro e w6 ⟨rfl, hm6⟩
    have nR6 := keep_blk HR5.out hm6 (by have := HB4.out.2.2.2; omega)
    have HB6 := (show Hid (Below w.heap.size w w6) from Md.toBelow HB5.out.1 hm6 (fun b hb e => by have := HB4.out.2.2.1; have := HB2.out.size; omega) (Nat.le_refl _))
    have HR6 := (show Hid _ from nR6)
    have f0 : w6.frozen? ⟨R, 0, none⟩ = false := frozen_blk nR6 0
    have f1 : w6.frozen? ⟨R, 1, none⟩ = false := frozen_blk nR6 1
    have f2 : w6.frozen? ⟨R, 2, none⟩ = false := frozen_blk nR6 2
    have f3 : w6.frozen? ⟨R, 3, none⟩ = false := frozen_blk nR6 3
    have f4 : w6.frozen? ⟨R, 4, none⟩ = false := frozen_blk nR6 4
    have f5 : w6.frozen? ⟨R, 5, none⟩ = false := frozen_blk nR6 5
    obtain ⟨g0, g1, g2, g3, g4, g5⟩ : w6.cell? ⟨R, 0, none⟩ = some (.string ⟨#[]⟩) ∧ w6.cell? ⟨R, 1, none⟩ = some (.string ⟨#[]⟩) ∧ w6.cell? ⟨R, 2, none⟩ = some (.string ⟨#[]⟩) ∧ w6.cell? ⟨R, 3, none⟩ = some (.string ⟨#[]⟩) ∧ w6.cell? ⟨R, 4, none⟩ = some (.slice none 0 0) ∧ w6.cell? ⟨R, 5, none⟩ = some (.string ⟨#[]⟩) := by
      refine ⟨?_, ?_, ?_, ?_, ?_, ?_⟩
      · have := cell_blk nR6 0; simpa using this
      · have := cell_blk nR6 1; simpa using this
      · have := cell_blk nR6 2; simpa using this
      · have := cell_blk nR6 3; simpa using this
      · have := cell_blk nR6 4; simpa using this
      · have := cell_blk nR6 5; simpa using this
    clear hm6 nR6 KW
    go_wp2_with fail
    obtain ⟨W7, hW7⟩ : ∃ W7, W7 = (((((w6.setCell ⟨R, 0, none⟩ (.string ⟨#[]⟩)).setCell ⟨R, 1, none⟩ (.string ⟨#[]⟩)).setCell ⟨R, 2, none⟩ (.string ⟨#[]⟩)).setCell ⟨R, 3, none⟩ (.string ⟨#[]⟩)).setCell ⟨R, 4, none⟩ (.slice none 0 0)).setCell ⟨R, 5, none⟩ (.string ⟨#[]⟩) := ⟨_, rfl⟩
    have hm7 : Md (· = R) w6 W7 := by rw [hW7]; exact ((((((Md.refl _ w6).setp 0 _).setp 1 _).setp 2 _).setp 3 _).setp 4 _).setp 5 _
    have nR7 : W7.heap[R]? = some (.cells #[.string ⟨#[]⟩, .string ⟨#[]⟩, .string ⟨#[]⟩, .string ⟨#[]⟩, .slice none 0 0, .string ⟨#[]⟩] 39 (0, 0)) := by
      rw [hW7]
      have := set_blk (set_blk (set_blk (set_blk (set_blk (set_blk HR6.out 0 (.string ⟨#[]⟩)) 1 (.string ⟨#[]⟩)) 2 (.string ⟨#[]⟩)) 3 (.string ⟨#[]⟩)) 4 (.slice none 0 0)) 5 (.string ⟨#[]⟩)
      simpa using this
    have d0 := cell_blk nR7 0
    have d1 := cell_blk nR7 1
    have d2 := cell_blk nR7 2
    have d3 := cell_blk nR7 3
    have d4 := cell_blk nR7 4
    have d5 := cell_blk nR7 5
    simp at d0 d1 d2 d3 d4 d5
    rw [← hW7]
    refine bodyPost_ret (v := .tuple #[.agg #[.string ⟨#[]⟩, .string ⟨#[]⟩, .string ⟨#[]⟩, .string ⟨#[]⟩, .slice none 0 0, .string ⟨#[]⟩], .int .i64 300]) (by simp [results, Tryz.results16, go_sem, d0, d1, d2, d3, d4, d5]) rfl ?_
    exact ⟨rfl, Md.toBelow HB6.out hm7 (fun b hb e => by have := HAR.out.2.1; omega) (Nat.le_refl _)⟩
end Go.Proofs.YtnmffehmjgknkaaGreatDoor

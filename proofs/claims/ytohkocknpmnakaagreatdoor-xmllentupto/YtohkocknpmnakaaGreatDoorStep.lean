/-
  The document's Step by its contract.
-/
import Derived.Test.YtohkocknpmnakaaGreatDoorCount
import Derived.LoopN
namespace Go.Proofs.YtohkocknpmnakaaGreatDoor
open Go.RowKit

def stepN (n b0 b1 b2 b3 : Nat) : Nat × Nat := if (Lib.decodeN n b0 b1 b2 b3).1 = 65533 ∧ (Lib.decodeN n b0 b1 b2 b3).2 = 1 then (0, 0) else Lib.decodeN n b0 b1 b2 b3
theorem stepL_N (l : List UInt8) : stepL l = stepN l.length (at0 l 0) (at0 l 1) (at0 l 2) (at0 l 3) := rfl

theorem stepN_of (n b0 b1 b2 b3 : Nat) (x : Nat × Nat) (h : (Lib.decodeN n b0 b1 b2 b3 = (65533, 1) ∧ x = (0, 0)) ∨ (Lib.decodeN n b0 b1 b2 b3 = x ∧ (x.1 ≠ 65533 ∨ x.2 ≠ 1))) : stepN n b0 b1 b2 b3 = x := by
  unfold stepN
  rcases h with ⟨h, rfl⟩ | ⟨h, hx⟩
  · rw [h]; rfl
  · rw [h, if_neg (by omega)]
theorem st_ascii {n b0 b1 b2 b3 : Nat} (h : b0 < 128) : stepN n b0 b1 b2 b3 = (b0, 1) :=
  stepN_of _ _ _ _ _ _ (.inr ⟨by unfold Lib.decodeN; rw [if_pos h], .inl (by show b0 ≠ 65533; omega)⟩)
theorem st_none {n b0 b1 b2 b3 : Nat} (h : Lib.decodeN n b0 b1 b2 b3 = (65533, 1)) : stepN n b0 b1 b2 b3 = (0, 0) := stepN_of _ _ _ _ _ _ (.inl ⟨h, rfl⟩)
theorem st_lead {n b0 b1 b2 b3 : Nat} (h : (128 ≤ b0 ∧ b0 < 192) ∨ 248 ≤ b0) (h' : b0 < 256) : stepN n b0 b1 b2 b3 = (0, 0) := by
  apply st_none
  unfold Lib.decodeN
  (repeat' split) <;> first | rfl | (exfalso; omega)
theorem st2_no {n b0 b1 b2 b3 : Nat} (h : 192 ≤ b0) (h' : b0 < 224) (hn : n < 2 ∨ b1 < 128 ∨ 192 ≤ b1) (_h1 : b1 < 256) : stepN n b0 b1 b2 b3 = (0, 0) := by
  apply st_none
  unfold Lib.decodeN
  (repeat' split) <;> first | rfl | (exfalso; omega)
theorem st3_no {n b0 b1 b2 b3 : Nat} (h : 224 ≤ b0) (h' : b0 < 240) (hn : n < 3 ∨ b1 < 128 ∨ 192 ≤ b1 ∨ b2 < 128 ∨ 192 ≤ b2) (_h1 : b1 < 256) (_h2 : b2 < 256) : stepN n b0 b1 b2 b3 = (0, 0) := by
  apply st_none
  unfold Lib.decodeN
  (repeat' split) <;> first | rfl | (exfalso; omega)
theorem st4_no {n b0 b1 b2 b3 : Nat} (h : 240 ≤ b0) (h' : b0 < 248) (hn : n < 4 ∨ b1 < 128 ∨ 192 ≤ b1 ∨ b2 < 128 ∨ 192 ≤ b2 ∨ b3 < 128 ∨ 192 ≤ b3) (_h1 : b1 < 256) (_h2 : b2 < 256) (_h3 : b3 < 256) : stepN n b0 b1 b2 b3 = (0, 0) := by
  apply st_none
  unfold Lib.decodeN
  (repeat' split) <;> first | rfl | (exfalso; omega)
theorem st2_out {n b0 b1 b2 b3 : Nat} (h : 192 ≤ b0) (h' : b0 < 224) (_hn : 2 ≤ n) (k1 : 128 ≤ b1) (k1' : b1 < 192) (hN : 64 * (b0 - 192) + (b1 - 128) < 128) : stepN n b0 b1 b2 b3 = (0, 0) := by
  apply st_none
  unfold Lib.decodeN
  (repeat' split) <;> first | rfl | (exfalso; omega)
theorem st3_out {n b0 b1 b2 b3 : Nat} (h : 224 ≤ b0) (h' : b0 < 240) (_hn : 3 ≤ n) (k1 : 128 ≤ b1) (k1' : b1 < 192) (k2 : 128 ≤ b2) (k2' : b2 < 192) (hN : 64 * (64 * (b0 - 224) + (b1 - 128)) + (b2 - 128) < 2048 ∨ (55296 ≤ 64 * (64 * (b0 - 224) + (b1 - 128)) + (b2 - 128) ∧ 64 * (64 * (b0 - 224) + (b1 - 128)) + (b2 - 128) < 57344)) : stepN n b0 b1 b2 b3 = (0, 0) := by
  apply st_none
  unfold Lib.decodeN
  (repeat' split) <;> first | rfl | (exfalso; omega)
theorem st4_out {n b0 b1 b2 b3 : Nat} (h : 240 ≤ b0) (h' : b0 < 248) (_hn : 4 ≤ n) (k1 : 128 ≤ b1) (k1' : b1 < 192) (k2 : 128 ≤ b2) (k2' : b2 < 192) (k3 : 128 ≤ b3) (k3' : b3 < 192) (hN : 64 * (64 * (64 * (b0 - 240) + (b1 - 128)) + (b2 - 128)) + (b3 - 128) < 65536 ∨ 1114111 < 64 * (64 * (64 * (b0 - 240) + (b1 - 128)) + (b2 - 128)) + (b3 - 128)) : stepN n b0 b1 b2 b3 = (0, 0) := by
  apply st_none
  unfold Lib.decodeN
  (repeat' split) <;> first | rfl | (exfalso; omega)
theorem st2_in {n b0 b1 b2 b3 : Nat} (h : 192 ≤ b0) (h' : b0 < 224) (_hn : 2 ≤ n) (k1 : 128 ≤ b1) (k1' : b1 < 192) (hN : 128 ≤ 64 * (b0 - 192) + (b1 - 128)) : stepN n b0 b1 b2 b3 = (64 * (b0 - 192) + (b1 - 128), 2) := by
  refine stepN_of _ _ _ _ _ _ (.inr ⟨?_, .inr (by simp)⟩)
  unfold Lib.decodeN
  (repeat' split) <;> first | (exfalso; omega) | (apply Prod.ext <;> simp only <;> omega)
theorem st3_in {n b0 b1 b2 b3 : Nat} (h : 224 ≤ b0) (h' : b0 < 240) (_hn : 3 ≤ n) (k1 : 128 ≤ b1) (k1' : b1 < 192) (k2 : 128 ≤ b2) (k2' : b2 < 192) (hN : 2048 ≤ 64 * (64 * (b0 - 224) + (b1 - 128)) + (b2 - 128)) (hS : ¬ (55296 ≤ 64 * (64 * (b0 - 224) + (b1 - 128)) + (b2 - 128) ∧ 64 * (64 * (b0 - 224) + (b1 - 128)) + (b2 - 128) < 57344)) : stepN n b0 b1 b2 b3 = (64 * (64 * (b0 - 224) + (b1 - 128)) + (b2 - 128), 3) := by
  refine stepN_of _ _ _ _ _ _ (.inr ⟨?_, .inr (by simp)⟩)
  unfold Lib.decodeN
  (repeat' split) <;> first | (exfalso; omega) | (apply Prod.ext <;> simp only <;> omega)
theorem st4_in {n b0 b1 b2 b3 : Nat} (h : 240 ≤ b0) (h' : b0 < 248) (_hn : 4 ≤ n) (k1 : 128 ≤ b1) (k1' : b1 < 192) (k2 : 128 ≤ b2) (k2' : b2 < 192) (k3 : 128 ≤ b3) (k3' : b3 < 192) (hN : 65536 ≤ 64 * (64 * (64 * (b0 - 240) + (b1 - 128)) + (b2 - 128)) + (b3 - 128)) (hM : 64 * (64 * (64 * (b0 - 240) + (b1 - 128)) + (b2 - 128)) + (b3 - 128) ≤ 1114111) : stepN n b0 b1 b2 b3 = (64 * (64 * (64 * (b0 - 240) + (b1 - 128)) + (b2 - 128)) + (b3 - 128), 4) := by
  refine stepN_of _ _ _ _ _ _ (.inr ⟨?_, .inr (by simp)⟩)
  unfold Lib.decodeN
  (repeat' split) <;> first | (exfalso; omega) | (apply Prod.ext <;> simp only <;> omega)

theorem at0_s {s : ByteArray} {k : Nat} (h : k < s.size) : at0 s.data.toList k = s[k].toNat := by
  unfold at0
  rw [List.getD_eq_getElem?_getD, List.getElem?_eq_getElem (by simpa using h)]
  rfl

theorem fin_ii {l : List UInt8} {x : Nat × Nat} {a b : Int} (h : stepL l = x) (ha : a = (x.1 : Int)) (hb : b = (x.2 : Int)) : Ending.returned (.tuple #[.int .i64 a, .int .i64 b]) = .returned (.tuple #[.int .i64 ((stepL l).1 : Nat), .int .i64 ((stepL l).2 : Nat)]) := by rw [h, ha, hb]

theorem step_1 (s : ByteArray) (w : World) (h0 : 0 < s.size) (c2 : (s[0].toNat : Int) < (128 : Int)) :
    Calls Tryz.prog 59 #[.string s] w fun e w' => e = .returned (.tuple #[.int .i64 ((stepL s.data.toList).1 : Nat), .int .i64 ((stepL s.data.toList).2 : Nat)]) ∧ w = w' := by
  have HN : Hid (stepL s.data.toList = stepN s.size s[0].toNat (at0 s.data.toList 1) (at0 s.data.toList 2) (at0 s.data.toList 3)) := by
    show stepL _ = _
    rw [stepL_N, at0_s h0]
    congr 1
  go_enter Tryz.func59, Tryz.ntmps59
  go_wp2
  go_ret2
  exact ⟨fin_ii (HN.out.trans (st_ascii (by omega))) rfl rfl, rfl⟩

set_option maxRecDepth 20000 in
theorem step_l (s : ByteArray) (w : World) (h0 : 0 < s.size) (c1 : (128 : Int) ≤ (s[0].toNat : Int)) (c2 : (s[0].toNat : Int) < (192 : Int)) :
    Calls Tryz.prog 59 #[.string s] w fun e w' => e = .returned (.tuple #[.int .i64 ((stepL s.data.toList).1 : Nat), .int .i64 ((stepL s.data.toList).2 : Nat)]) ∧ w = w' := by
  have HN : Hid (stepL s.data.toList = stepN s.size s[0].toNat (at0 s.data.toList 1) (at0 s.data.toList 2) (at0 s.data.toList 3)) := by
    show stepL _ = _
    rw [stepL_N, at0_s h0]
    congr 1
  go_enter Tryz.func59, Tryz.ntmps59
  go_wp2
  go_ret2
  exact ⟨fin_ii (HN.out.trans (st_lead (by omega) (by omega))) rfl rfl, rfl⟩

set_option maxRecDepth 20000 in
theorem step_h (s : ByteArray) (w : World) (h0 : 0 < s.size) (c1 : (248 : Int) ≤ (s[0].toNat : Int)) (c2 : (s[0].toNat : Int) < (256 : Int)) :
    Calls Tryz.prog 59 #[.string s] w fun e w' => e = .returned (.tuple #[.int .i64 ((stepL s.data.toList).1 : Nat), .int .i64 ((stepL s.data.toList).2 : Nat)]) ∧ w = w' := by
  have HN : Hid (stepL s.data.toList = stepN s.size s[0].toNat (at0 s.data.toList 1) (at0 s.data.toList 2) (at0 s.data.toList 3)) := by
    show stepL _ = _
    rw [stepL_N, at0_s h0]
    congr 1
  go_enter Tryz.func59, Tryz.ntmps59
  go_wp2
  go_ret2
  exact ⟨fin_ii (HN.out.trans (st_lead (by omega) (by omega))) rfl rfl, rfl⟩

set_option maxRecDepth 20000 in
set_option maxHeartbeats 2000000 in
theorem step_2 (s : ByteArray) (w : World) (hs : s.size ≤ maxLen) (h0 : 0 < s.size) (c1 : (192 : Int) ≤ (s[0].toNat : Int)) (c2 : (s[0].toNat : Int) < (224 : Int)) :
    Calls Tryz.prog 59 #[.string s] w fun e w' => e = .returned (.tuple #[.int .i64 ((stepL s.data.toList).1 : Nat), .int .i64 ((stepL s.data.toList).2 : Nat)]) ∧ w = w' := by
  unfold maxLen at hs
  by_cases h3 : 2 ≤ s.size
  · have HN : Hid (stepL s.data.toList = stepN s.size s[0].toNat s[1].toNat (at0 s.data.toList 2) (at0 s.data.toList 3)) := by
      show stepL _ = _
      rw [stepL_N, at0_s h0, at0_s (k := 1) (by omega)]
      congr 1
    have b1 : (s[1].toNat : Int) ≤ 255 := by have := s[1].toNat_lt; omega
    go_enter Tryz.func59, Tryz.ntmps59
    go_wp2
    refine wp_loop_rounds 2 ?_
    rw [rounds_succ]
    go_wp2
    all_goals try (rw [rounds_succ]; go_wp2)
    all_goals go_ret2
    all_goals first
      | exact ⟨fin_ii (HN.out.trans (st2_no (by omega) (by omega) (by omega) (by omega))) rfl rfl, rfl⟩
      | exact ⟨fin_ii (HN.out.trans (st2_out (by omega) (by omega) (by omega) (by omega) (by omega) (by omega))) rfl rfl, rfl⟩
      | exact ⟨fin_ii (HN.out.trans (st2_in (by omega) (by omega) (by omega) (by omega) (by omega) (by omega))) (by simp only; omega) rfl, rfl⟩
  · have HN : Hid (stepL s.data.toList = stepN s.size s[0].toNat (at0 s.data.toList 1) (at0 s.data.toList 2) (at0 s.data.toList 3)) := by
      show stepL _ = _
      rw [stepL_N, at0_s h0]
      congr 1
    have b1 := at0_lt s.data.toList 1
    have b2 := at0_lt s.data.toList 2
    have b3 := at0_lt s.data.toList 3
    have h4 : (s.size : Int) < (2 : Int) := by omega
    go_enter Tryz.func59, Tryz.ntmps59
    go_wp2
    go_ret2
    exact ⟨fin_ii (HN.out.trans (st2_no (by omega) (by omega) (by omega) (by omega))) rfl rfl, rfl⟩

set_option maxRecDepth 20000 in
set_option maxHeartbeats 2000000 in
theorem step_3 (s : ByteArray) (w : World) (hs : s.size ≤ maxLen) (h0 : 0 < s.size) (c1 : (224 : Int) ≤ (s[0].toNat : Int)) (c2 : (s[0].toNat : Int) < (240 : Int)) :
    Calls Tryz.prog 59 #[.string s] w fun e w' => e = .returned (.tuple #[.int .i64 ((stepL s.data.toList).1 : Nat), .int .i64 ((stepL s.data.toList).2 : Nat)]) ∧ w = w' := by
  unfold maxLen at hs
  by_cases h3 : 3 ≤ s.size
  · have HN : Hid (stepL s.data.toList = stepN s.size s[0].toNat s[1].toNat s[2].toNat (at0 s.data.toList 3)) := by
      show stepL _ = _
      rw [stepL_N, at0_s h0, at0_s (k := 1) (by omega), at0_s (k := 2) (by omega)]
      congr 1
    have b1 : (s[1].toNat : Int) ≤ 255 := by have := s[1].toNat_lt; omega
    have b2 : (s[2].toNat : Int) ≤ 255 := by have := s[2].toNat_lt; omega
    go_enter Tryz.func59, Tryz.ntmps59
    go_wp2
    refine wp_loop_rounds 3 ?_
    rw [rounds_succ]
    go_wp2
    all_goals try (rw [rounds_succ]; go_wp2)
    all_goals try (rw [rounds_succ]; go_wp2)
    all_goals go_ret2
    all_goals first
      | exact ⟨fin_ii (HN.out.trans (st3_no (by omega) (by omega) (by omega) (by omega) (by omega))) rfl rfl, rfl⟩
      | exact ⟨fin_ii (HN.out.trans (st3_out (by omega) (by omega) (by omega) (by omega) (by omega) (by omega) (by omega) (by omega))) rfl rfl, rfl⟩
      | exact ⟨fin_ii (HN.out.trans (st3_in (by omega) (by omega) (by omega) (by omega) (by omega) (by omega) (by omega) (by omega) (by omega))) (by simp only; omega) rfl, rfl⟩
  · have HN : Hid (stepL s.data.toList = stepN s.size s[0].toNat (at0 s.data.toList 1) (at0 s.data.toList 2) (at0 s.data.toList 3)) := by
      show stepL _ = _
      rw [stepL_N, at0_s h0]
      congr 1
    have b1 := at0_lt s.data.toList 1
    have b2 := at0_lt s.data.toList 2
    have b3 := at0_lt s.data.toList 3
    have h4 : (s.size : Int) < (3 : Int) := by omega
    go_enter Tryz.func59, Tryz.ntmps59
    go_wp2
    go_ret2
    exact ⟨fin_ii (HN.out.trans (st3_no (by omega) (by omega) (by omega) (by omega) (by omega))) rfl rfl, rfl⟩

set_option maxRecDepth 20000 in
set_option maxHeartbeats 2000000 in
theorem step_4 (s : ByteArray) (w : World) (hs : s.size ≤ maxLen) (h0 : 0 < s.size) (c1 : (240 : Int) ≤ (s[0].toNat : Int)) (c2 : (s[0].toNat : Int) < (248 : Int)) :
    Calls Tryz.prog 59 #[.string s] w fun e w' => e = .returned (.tuple #[.int .i64 ((stepL s.data.toList).1 : Nat), .int .i64 ((stepL s.data.toList).2 : Nat)]) ∧ w = w' := by
  unfold maxLen at hs
  by_cases h3 : 4 ≤ s.size
  · have HN : Hid (stepL s.data.toList = stepN s.size s[0].toNat s[1].toNat s[2].toNat s[3].toNat) := by
      show stepL _ = _
      rw [stepL_N, at0_s h0, at0_s (k := 1) (by omega), at0_s (k := 2) (by omega), at0_s (k := 3) (by omega)]
      congr 1
    have b1 : (s[1].toNat : Int) ≤ 255 := by have := s[1].toNat_lt; omega
    have b2 : (s[2].toNat : Int) ≤ 255 := by have := s[2].toNat_lt; omega
    have b3 : (s[3].toNat : Int) ≤ 255 := by have := s[3].toNat_lt; omega
    go_enter Tryz.func59, Tryz.ntmps59
    go_wp2
    refine wp_loop_rounds 4 ?_
    rw [rounds_succ]
    go_wp2
    all_goals try (rw [rounds_succ]; go_wp2)
    all_goals try (rw [rounds_succ]; go_wp2)
    all_goals try (rw [rounds_succ]; go_wp2)
    all_goals go_ret2
    all_goals first
      | exact ⟨fin_ii (HN.out.trans (st4_no (by omega) (by omega) (by omega) (by omega) (by omega) (by omega))) rfl rfl, rfl⟩
      | exact ⟨fin_ii (HN.out.trans (st4_out (by omega) (by omega) (by omega) (by omega) (by omega) (by omega) (by omega) (by omega) (by omega) (by omega))) rfl rfl, rfl⟩
      | exact ⟨fin_ii (HN.out.trans (st4_in (by omega) (by omega) (by omega) (by omega) (by omega) (by omega) (by omega) (by omega) (by omega) (by omega) (by omega))) (by simp only; omega) rfl, rfl⟩
  · have HN : Hid (stepL s.data.toList = stepN s.size s[0].toNat (at0 s.data.toList 1) (at0 s.data.toList 2) (at0 s.data.toList 3)) := by
      show stepL _ = _
      rw [stepL_N, at0_s h0]
      congr 1
    have b1 := at0_lt s.data.toList 1
    have b2 := at0_lt s.data.toList 2
    have b3 := at0_lt s.data.toList 3
    have h4 : (s.size : Int) < (4 : Int) := by omega
    go_enter Tryz.func59, Tryz.ntmps59
    go_wp2
    go_ret2
    exact ⟨fin_ii (HN.out.trans (st4_no (by omega) (by omega) (by omega) (by omega) (by omega) (by omega))) rfl rfl, rfl⟩

theorem refStep_any (s : ByteArray) (w : World) (hs : s.size ≤ maxLen) (h0 : 0 < s.size) :
    Calls Tryz.prog 59 #[.string s] w fun e w' => e = .returned (.tuple #[.int .i64 ((stepL s.data.toList).1 : Nat), .int .i64 ((stepL s.data.toList).2 : Nat)]) ∧ w = w' := by
  have b := s[0].toNat_lt
  by_cases c1 : (s[0].toNat : Int) < (128 : Int)
  · exact step_1 s w h0 c1
  · by_cases c2 : (s[0].toNat : Int) < (192 : Int)
    · exact step_l s w h0 (by omega) c2
    · by_cases c3 : (s[0].toNat : Int) < (224 : Int)
      · exact step_2 s w hs h0 (by omega) c3
      · by_cases c4 : (s[0].toNat : Int) < (240 : Int)
        · exact step_3 s w hs h0 (by omega) c4
        · by_cases c5 : (s[0].toNat : Int) < (248 : Int)
          · exact step_4 s w hs h0 (by omega) c5
          · exact step_h s w h0 (by omega) (by omega)
end Go.Proofs.YtohkocknpmnakaaGreatDoor

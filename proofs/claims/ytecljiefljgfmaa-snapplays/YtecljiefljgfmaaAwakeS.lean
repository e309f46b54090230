/-
  The law's awake over snap: true, whatever the world.
-/
import Derived.Test.YtecljiefljgfmaaSnapM
import Derived.Test.YtecljiefljgfmaaNew
namespace Go.Proofs.Ytecljiefljgfmaa
open Go.RowKit

theorem new_calm (n : Nat) : Calm (D.new n blank) := by
  refine ⟨rfl, rfl, rfl, ?_⟩
  intro x hx
  have : x = blank := by simpa [D.new] using (List.mem_replicate.1 hx).2
  subst this
  exact zsec_size
theorem new_get {n i : Nat} (h : i < n) : (D.new n blank).S[i]? = some zsec := by
  show (List.replicate n blank)[i]? = _
  rw [List.getElem?_replicate, if_pos h]
  rfl
theorem abc_saved : loadF (savedS (D.new 8 blank).S 4 1 [97, 98, 99]) 0 4 = some (1, [97, 98, 99]) := by
  have hf : fitsB 4 (([97, 98, 99] : List UInt8).length) = true := by decide
  refine load_newest (by exact savedS_slot (by decide) (by decide) hf (by simp [D.new])) ?_
  intro e s hr
  rw [slot_same (S := (D.new 8 blank).S) (by intro j hj; exact savedS_other hf (by simp [D.new]) (by omega)) (by omega), slot_zero (new_get (by decide))] at hr
  cases hr

set_option maxHeartbeats 2000000 in
set_option maxRecDepth 20000 in
theorem awakeS_any (w : World) : Calls Try.prog 30 #[] w fun e w' => e = .returned (.bool true) ∧ Below w.heap.size w w' := by
  have hnew := new_ok 8 w (by omega) (by omega)
  rw [show ((8 : Nat) : Int) = 8 from rfl] at hnew
  go_enter Try.func30, Try.ntmps30
  go_wp2_with fail
  refine Calls.mono hnew ?_
  rintro e w1 ⟨d, rfl, hD1, hb1⟩
  have hld := load_any d 0 4 w1 _ _ hD1 (by simp [D.new]) (new_calm 8).sz (by omega) (by simp [D.new])
  rw [load_none (slot_zero (new_get (by omega))) (slot_zero (new_get (by omega)))] at hld
  rw [show ((0 : Nat) : Int) = 0 from rfl, show ((4 : Nat) : Int) = 4 from rfl] at hld
  go_wp2_with fail
  refine Calls.mono hld ?_
  rintro e w2 ⟨he, hb2⟩
  obtain rfl : e = .returned (.tuple #[.slice none 0 0, .int .u64 0, .int .i64 61]) := he
  obtain ⟨w3, hw3⟩ : ∃ w3, w3 = w2.alloc (.cells #[.int .u8 97, .int .u8 98, .int .u8 99] 5 (3, 4)) := ⟨_, rfl⟩
  have hcvt : (convert 50 50 (.slice (some ⟨w2.heap.size, 0, none⟩) 3 3)).run Try.prog (w2.alloc (.cells #[.int .u8 97, .int .u8 98, .int .u8 99] 5)) = .ok (.slice (some ⟨w2.heap.size, 0, none⟩) 3 3) w3 := by
    rw [hw3]
    exact Lib.run_convert_bytes_const w2 50 5 #[.int .u8 97, .int .u8 98, .int .u8 99] 3 3 Try.underlying50 Try.underlying5
  have hb23 : Below w2.heap.size w2 w3 := by rw [hw3]; exact (Below.refl _ _).alloc (Nat.le_refl _) _
  have hmk : Bytes w3 (some ⟨w2.heap.size, 0, none⟩) [97, 98, 99] := by
    have hn3 : w3.heap[w2.heap.size]? = some (.cells #[.int .u8 97, .int .u8 98, .int .u8 99] 5 (3, 4)) := by rw [hw3]; exact heap_alloc_new w2 _
    refine .inr ⟨_, 0, rfl, (Array.getElem?_eq_some_iff.1 hn3).1, fun j hj => ?_⟩
    have hj4 : j < 3 := hj
    rcases (by omega : j = 0 ∨ j = 1 ∨ j = 2) with rfl | rfl | rfl <;> simp [World.cell?, hn3]
  have hb13 : Below w1.heap.size w1 w3 := hb2.trans (hb23.mono hb2.size)
  have hf : fitsB 4 (([97, 98, 99] : List UInt8).length) = true := by decide
  have hsv := save_ok d 0 4 1 4 (some ⟨w2.heap.size, 0, none⟩) [97, 98, 99] 3 w3 _ _ (hD1.below hb13) (by omega) (by simp [D.new]) hf (by omega) (by omega) hmk (by
    intro _ ad e
    simp only [Option.some.injEq] at e
    subst e
    have := hb2.size
    simp
    omega) (by simp) (by simp) (by simp [D.new])
  rw [saveF_live (n := 4) (new_calm 8) hf (by simp [D.new])] at hsv
  have hsv2 : Calls Try.prog 31 #[.pointer (some ⟨d, 0, none⟩), .int .i64 0, .int .i64 4, .int .u64 1, .slice (some ⟨w2.heap.size, 0, none⟩) 3 3] w3 fun e w' => e = .returned (.int .i64 0) ∧ Below w.heap.size w w' ∧ Calls Try.prog 33 #[.pointer (some ⟨d, 0, none⟩), .int .i64 0, .int .i64 4] w' fun e w'' => ∃ a c, e = .returned (.tuple #[.slice a 3 c, .int .u64 1, .int .i64 0]) ∧ Bytes w'' a [97, 98, 99] ∧ Below w.heap.size w w'' := by
    refine Calls.mono hsv ?_
    rintro e w4 ⟨rfl, hD4, hT4⟩
    have hb03 : Below w.heap.size w w3 := hb1.trans (hb13.mono hb1.size)
    have hb4 : Below w.heap.size w w4 := hb03.trans (hT4.below (by intro k hk; exact hk.1) hb03.size)
    refine ⟨rfl, hb4, ?_⟩
    refine Calls.mono (load_any d 0 4 w4 _ _ hD4 (by simp [D.new]) (saveF_calm (new_calm 8)).sz (by omega) (by simp [savedS_length, D.new])) ?_
    rintro e w5 ⟨hl5, hb5⟩
    rw [show loadF ({ D.new 8 blank with S := savedS (D.new 8 blank).S 4 1 [97, 98, 99], L := savedS (D.new 8 blank).S 4 1 [97, 98, 99] } : D).S 0 4 = some (1, [97, 98, 99]) from abc_saved] at hl5
    obtain ⟨a, c, rfl, hby, _⟩ := hl5
    exact ⟨a, c, rfl, hby, hb4.trans (hb5.mono hb4.size)⟩
  have hf1 : ∀ q, Calls Try.prog 35 #[.int .i64 2, .int .i64 256] q fun e w' => e = .returned (.bool true) ∧ q = w' := fun q => fits_any 2 256 q (by omega) (by omega)
  have hf2 : ∀ q, Calls Try.prog 35 #[.int .i64 2, .int .i64 257] q fun e w' => e = .returned (.bool false) ∧ q = w' := fun q => fits_any 2 257 q (by omega) (by omega)
  clear hsv hld hD1 hb1 hb2 hmk hb13 hb23 hw3 hnew
  go_wp2_with (first
    | (go_at_call 31; (with_reducible refine Calls.mono hsv2 ?_); rintro e w4 ⟨rfl, hb4, hl4⟩)
    | (go_at_call 33; (with_reducible refine Calls.mono hl4 ?_); rintro e w5 ⟨a, c, rfl, hby5, hb5⟩; have hcs := convert_bytes w5 a c [97, 98, 99] hby5; rw [show ([97, 98, 99] : List UInt8).length = 3 from rfl] at hcs)
    | (go_at_call 35; (with_reducible refine Calls.mono (hf1 _) ?_); rintro e w6 ⟨rfl, rfl⟩)
    | (go_at_call 35; (with_reducible refine Calls.mono (hf2 _) ?_); rintro e w6 ⟨rfl, rfl⟩))
  go_ret
  exact ⟨rfl, hb5⟩
end Go.Proofs.Ytecljiefljgfmaa

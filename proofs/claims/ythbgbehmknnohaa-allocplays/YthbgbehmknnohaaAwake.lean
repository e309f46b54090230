/-
  Copy, and what the document fixes.
-/
import Derived.Test.YthbgbehmknnohaaTold
import Derived.Deep.WholeRow
import Derived.Laws.Tables
namespace Go.Proofs.Ythbgbehmknnohaa
open Go.RowKit Go.Shelf

theorem size57 (n : Nat) (W : Nat → Nat) : (Try.prog.info? 57).map (·.size) = some (scells n W).toArray.size := by
  rw [List.size_toArray, scells_len]
  kernel_rfl
theorem scells_all (n : Nat) (W : Nat → Nat) : (scells n W).toArray.all (·.oneCell') = true := by
  rw [List.all_toArray, List.all_eq_true]
  intro u hu
  rw [scells, List.mem_cons] at hu
  rcases hu with rfl | hu
  · rfl
  · obtain ⟨q, _, rfl⟩ := List.mem_map.1 hu
    rfl

theorem copy_any (w : World) (b : Nat) (L : List Bool) (h : Spc w b L) :
    Calls Try.prog 15 #[.pointer (some ⟨b, 0, none⟩)] w fun e w' => e = .returned (.pointer (some ⟨w.heap.size, 0, none⟩)) ∧ Spc w' w.heap.size L ∧ Below w.heap.size w w' := by
  have hlt := h.lt
  obtain ⟨hl, W, h1, hb, h2⟩ := h
  have hz : (zeroValue 57).run Try.prog w = .ok (.agg (scells 0 fun _ => 0).toArray) w := (zero_of_info (P := Try.prog) (t := 57) (v := .agg (scells 0 fun _ => 0).toArray) (n := 65) (by kernel_rfl)).1 w
  have HN : Hid ((w.alloc (.cells (scells 0 fun _ => 0).toArray 57)).heap[w.heap.size]? = some (.cells (scells 0 fun _ => 0).toArray 57 (0, 0))) := heap_alloc_new w _
  have HB : Hid (w.heap[b]? = some (.cells (scells L.length W).toArray 57 (0, 0))) := hb
  clear hb
  go_enter Try.func15, Try.ntmps15
  go_wp2_with (first
    | refine wpList_load_row rfl 57 _ rfl _ rfl 57 _ (0, 0) _ HB.out Try.underlying57 rfl (size57 _ _) ?_
    | refine wpList_store_row rfl 57 _ _ rfl _ _ rfl rfl 57 _ HN.out (size57 _ _) (by rw [List.size_toArray, List.size_toArray, scells_len, scells_len]) (scells_all _ _) ?_)
  go_ret
  refine ⟨rfl, ⟨hl, W, h1, setRow_heap _ _ _ _ _ _ HN.out, h2⟩, ((Below.refl _ w).alloc (Nat.le_refl _) _).trans ⟨rfl, rfl, rfl, by simp, fun j hj => setRow_other _ _ _ _ (by omega)⟩⟩

theorem took_any (w : World) (e k : Int) : Calls Try.prog 22 #[.int .i64 e, .int .i64 k] w fun r w' => r = .returned (.int .i64 (if e = 0 then k else 0)) ∧ w = w' := by
  by_cases h : e = 0
  · subst h
    go_enter Try.func22, Try.ntmps22
    go_wp2
    go_ret
    exact ⟨rfl, rfl⟩
  · have hb : (e == 0) = false := by simpa using h
    rw [if_neg h]
    go_enter Try.func22, Try.ntmps22
    go_wp2
    go_ret
    exact ⟨rfl, rfl⟩

set_option maxRecDepth 100000 in
set_option maxHeartbeats 2000000 in
theorem awake_any (w : World) : Calls Try.prog 8 #[] w fun e w' => e = .returned (.bool true) ∧ Below w.heap.size w w' := by
  have hnew := new_ok w 8 (by omega)
  have HT1 : Hid (∀ w1, Spc w1 w.heap.size (List.replicate 8 false) → Calls Try.prog 9 #[.pointer (some ⟨w.heap.size, 0, none⟩), .int .i64 3] w1 fun e w' => e = .returned (.tuple #[.int .i64 0, .int .i64 0]) ∧ Spc w' w.heap.size [true, true, true, false, false, false, false, false] ∧ Kep (fun q => q ≠ w.heap.size) w1 w') := fun w1 h1 => take_any w1 _ _ 3 h1
  have HT2 : Hid (∀ w1, Spc w1 w.heap.size [true, true, true, false, false, false, false, false] → Calls Try.prog 9 #[.pointer (some ⟨w.heap.size, 0, none⟩), .int .i64 2] w1 fun e w' => e = .returned (.tuple #[.int .i64 3, .int .i64 0]) ∧ Spc w' w.heap.size [true, true, true, true, true, false, false, false] ∧ Kep (fun q => q ≠ w.heap.size) w1 w') := fun w1 h1 => take_any w1 _ _ 2 h1
  have HF : Hid (∀ w1, Spc w1 w.heap.size [true, true, true, true, true, false, false, false] → Calls Try.prog 17 #[.pointer (some ⟨w.heap.size, 0, none⟩)] w1 fun e w' => e = .returned (.int .i64 3) ∧ Below w1.heap.size w1 w') := fun w1 h1 => free_any w1 _ _ h1
  have HR : Hid (∀ w1, Spc w1 w.heap.size [true, true, true, true, true, false, false, false] → Calls Try.prog 20 #[.pointer (some ⟨w.heap.size, 0, none⟩)] w1 fun e w' => ∃ a c, e = .returned (.slice a 1 c) ∧ Below w1.heap.size w1 w') := fun w1 h1 => (runsM_any w1 _ _ h1).mono (by rintro e w' ⟨a, c, h2, _, h3⟩; exact ⟨a, c, h2, h3⟩)
  go_enter Try.func8, Try.ntmps8
  go_wp2_with fail
  refine Calls.mono hnew ?_
  rintro e w1 ⟨rfl, s1, b1⟩
  have t1 := HT1.out w1 s1
  clear hnew s1
  go_wp2_with fail
  refine Calls.mono t1 ?_
  rintro e w2 ⟨rfl, s2, b2⟩
  have t2 := HT2.out w2 s2
  clear t1 s2
  go_wp2_with fail
  refine Calls.mono t2 ?_
  rintro e w3 ⟨rfl, s3, b3⟩
  have t3 := HF.out w3 s3
  clear t2
  go_wp2_with fail
  refine Calls.mono t3 ?_
  rintro e w4 ⟨rfl, b4⟩
  have t4 := HR.out w4 (s3.below b4)
  clear t3
  go_wp2_with fail
  refine Calls.mono t4 ?_
  rintro e w5 ⟨a, c, rfl, b5⟩
  clear t4
  go_wp2
  go_ret
  refine ⟨rfl, ?_⟩
  have k2 : Below w.heap.size w w2 := b1.trans ((b2.mono (K' := fun q => q < w.heap.size) fun q _ h => by omega).below b1.size)
  have k3 : Below w.heap.size w w3 := k2.trans ((b3.mono (K' := fun q => q < w.heap.size) fun q _ h => by omega).below k2.size)
  have k4 := k3.trans (b4.mono k3.size)
  exact k4.trans (b5.mono k4.size)
end Go.Proofs.Ythbgbehmknnohaa

/-
  Read by its contracts.
-/
import Derived.Test.YtpmjkgpmidejoaaRun01
namespace Go.Proofs.Ytpmjkgpmidejoaa
open Go.RowKit

/-- A row of bytes that nobody else holds. -/
structure Fresh (w : World) (g : Nat) (s : ByteArray) : Prop where
  lt : g < w.heap.size
  cell : ∀ j (h : j < s.size), w.cell? ⟨g, j, none⟩ = some (.int .u8 (s[j].toNat : Int))
  free : ∀ j, j < s.size → w.frozen? ⟨g, j, none⟩ = false

theorem Fresh.other {w w' : World} {g : Nat} {s : ByteArray} (h : Fresh w g s) (hs : w.heap.size ≤ w'.heap.size) (hh : w'.heap[g]? = w.heap[g]?) : Fresh w' g s :=
  ⟨Nat.lt_of_lt_of_le h.lt hs, fun j hj => (World.cell?_of_block (w := w) (a := ⟨g, j, none⟩) hh).trans (h.cell j hj), fun j hj => (World.frozen?_of_block (w := w) (a := ⟨g, j, none⟩) hh).trans (h.free j hj)⟩
theorem Fresh.bytes {w : World} {g : Nat} {s : ByteArray} (h : Fresh w g s) : Bytes w (some ⟨g, 0, none⟩) s.data.toList := by
  refine .inr ⟨g, 0, rfl, h.lt, fun j hj => ?_⟩
  have hj' : j < s.size := by simpa using hj
  rw [Nat.zero_add, h.cell j hj']
  rfl

theorem conv_fresh (s : ByteArray) (w : World) : ∃ W1 cap, (convert 9 38 (.string s)).run Try.prog w = .ok (.slice (some ⟨w.heap.size, 0, none⟩) s.size cap) W1 ∧ Fresh W1 w.heap.size s ∧ Below w.heap.size w W1 := by
  refine ⟨_, _, run_bytes_of_string w 9 38 5 s Try.underlying9 Try.underlying38 Try.underlying5, ⟨?_, ?_, ?_⟩, ?_⟩
  · show w.heap.size < (w.heap.push _).size
    simp
  · intro j h
    have := World.cell?_alloc_mark w.drew (bytesRow s (grownCap w s.size 0 5)) 5 ((bytesRow s (grownCap w s.size 0 5)).size, (bytesRow s (grownCap w s.size 0 5)).size + 1) j
    rw [show w.drew.heap.size = w.heap.size from rfl] at this
    rw [this, bytesRow, Array.getElem?_append_left (by simpa using h)]
    have hj : j < s.data.size := h
    rw [Array.getElem?_map, Array.getElem?_eq_getElem hj]
    rfl
  · intro j h
    have := World.frozen?_alloc_mark w.drew (bytesRow s (grownCap w s.size 0 5)) 5 (bytesRow s (grownCap w s.size 0 5)).size ((bytesRow s (grownCap w s.size 0 5)).size + 1) j
    rw [show w.drew.heap.size = w.heap.size from rfl] at this
    rw [this]
    have hsz : s.size ≤ (bytesRow s (grownCap w s.size 0 5)).size := by
      rw [bytesRow, Array.size_append, Array.size_map]
      exact Nat.le_add_right _ _
    rw [decide_eq_false (by omega)]
    rfl
  · exact ((Below.refl _ w).drew).alloc (Nat.le_refl _) _

set_option maxHeartbeats 1000000 in
theorem read_dead (d : Nat) (i : Int) (w : World) (F : Nat → Prop) (M : D) (h : Dev w F d M) (hs : M.st = 2) :
    Calls Try.prog 30 #[.pointer (some ⟨d, 0, none⟩), .int .i64 i] w fun e w' => e = .returned (.tuple #[.slice none 0 0, .int .i64 50]) ∧ w = w' := by
  obtain ⟨gl, cl, gs, cs, ca, cc, hV, _⟩ := h.open
  have c3 := cell_blk hV.blk 3
  simp only [List.getElem?_toArray] at c3
  rw [hs] at c3
  clear hV h hs
  go_enter Try.func30, Try.ntmps30
  go_wp2
  go_ret2
  exact ⟨rfl, rfl⟩

set_option maxHeartbeats 1000000 in
theorem read_arg (d : Nat) (i : Int) (w : World) (F : Nat → Prop) (M : D) (h : Dev w F d M) (hs : M.st ≠ 2) (hi : ¬ (0 ≤ i ∧ i < (M.L.length : Int))) :
    Calls Try.prog 30 #[.pointer (some ⟨d, 0, none⟩), .int .i64 i] w fun e w' => e = .returned (.tuple #[.slice none 0 0, .int .i64 1]) ∧ w = w' := by
  have hhas := has_any d i w F M h
  rw [h.1.len, decide_eq_false hi] at hhas
  obtain ⟨gl, cl, gs, cs, ca, cc, hV, _⟩ := h.open
  have c3 := cell_blk hV.blk 3
  simp only [List.getElem?_toArray] at c3
  have hs' : ((M.st : Int) == 2) = false := by simp; omega
  clear hV h hs hi
  go_enter Try.func30, Try.ntmps30
  go_wp2_with fail
  refine hhas.mono ?_
  rintro e w1 ⟨rfl, rfl⟩
  go_wp2
  go_ret2
  exact ⟨rfl, rfl⟩

set_option maxHeartbeats 1000000 in
theorem read_ok (d i : Nat) (w : World) (F : Nat → Prop) (M : D) (h : Dev w F d M) (hs : M.st ≠ 2) (hi : i < M.S.length) :
    Calls Try.prog 30 #[.pointer (some ⟨d, 0, none⟩), .int .i64 (i : Int)] w fun e w' => ∃ g cap, e = .returned (.tuple #[.slice (some ⟨g, 0, none⟩) M.S[i].size cap, .int .i64 0]) ∧ Fresh w' g M.S[i] ∧ w.heap.size ≤ g ∧ Below w.heap.size w w' := by
  have hhas := has_any d i w F M h
  rw [decide_eq_true (show (0 : Int) ≤ (i : Int) ∧ (i : Int) < (M.S.length : Int) from ⟨by omega, by omega⟩)] at hhas
  obtain ⟨gl, cl, gs, cs, ca, cc, hV, _⟩ := h.open
  have c3 := cell_blk hV.blk 3
  have c1 := cell_blk hV.blk 1
  simp only [List.getElem?_toArray] at c3 c1
  have ci := owns_cell hV.sr (scs_get hi)
  have hs' : ((M.st : Int) == 2) = false := by simp; omega
  obtain ⟨s, hse⟩ : ∃ s, s = M.S[i] := ⟨_, rfl⟩
  rw [← hse] at ci ⊢
  obtain ⟨W1, cap, hcv, hfr, hb⟩ := conv_fresh s w
  have hi' : (i : Int) < (M.S.length : Int) := by omega
  have HF := (show Hid (Fresh W1 w.heap.size s ∧ Below w.heap.size w W1) from ⟨hfr, hb⟩)
  clear hV h hs hse hfr hb hi
  go_enter Try.func30, Try.ntmps30
  go_wp2_with fail
  refine hhas.mono ?_
  rintro e w1 ⟨rfl, rfl⟩
  go_wp2
  go_ret2
  exact ⟨_, _, rfl, HF.out.1, Nat.le_refl _, HF.out.2⟩
end Go.Proofs.Ytpmjkgpmidejoaa
/-
  A row of bytes of one's own, read as bytes.
-/
namespace Go.Proofs.Ytpmjkgpmidejoaa
open Go.RowKit

theorem own_bytes {w : World} {base g n cap : Nat} {l : List UInt8} (h : w.ownsRow base 5 1 (.slice (some ⟨g, 0, none⟩) n cap) n (bcs l)) : Bytes w (some ⟨g, 0, none⟩) l := by
  refine .inr ⟨g, 0, rfl, (World.ownsRow.lt h g rfl).2, fun j hj => ?_⟩
  rw [Nat.zero_add]
  exact owns_cell h (bcs_get hj)
end Go.Proofs.Ytpmjkgpmidejoaa

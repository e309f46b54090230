/-
  A text as new bytes, and texts joined.
-/
import Derived.Test.YtaagnckppdaljaaDoorEnCore
namespace Go.Proofs.YtaagnckppdaljaaDoor
open Go.RowKit

theorem step_below {B : Nat} {w w1 w2 : World} (h : Below B w w1) (hb : Below w1.heap.size w1 w2) (hB : B ≤ w.heap.size) : Below B w w2 :=
  h.trans (hb.mono (by have := h.size; omega))

theorem ba_of {X : ByteArray} {l : List UInt8} (h : X.data.toList = l) : X = ⟨l.toArray⟩ := by
  cases X; subst h; simp
theorem ba_eta (X : ByteArray) : X = ⟨X.data.toList.toArray⟩ := ba_of rfl
theorem ba_len {X : ByteArray} {l : List UInt8} (h : X.data.toList = l) : X.size = l.length := by
  rw [ba_of h]; simp [ByteArray.size]
theorem cat_ex (A B : ByteArray) (h : A.size + B.size ≤ 4611686018427387904) :
    ∃ C : ByteArray, C.data.toList = A.data.toList ++ B.data.toList ∧ C.size = A.size + B.size ∧ ∀ wx, (Op.stringOp .add A B).run Tryd.prog wx = .ok (.string C) wx :=
  ⟨A ++ B, by simp, by simp, fun wx => run_string_add_sum wx A B (by omega)⟩

theorem conv_new (s : ByteArray) (w : World) : ∃ W1 cap, (convert 9 45 (.string s)).run Tryd.prog w = .ok (.slice (some ⟨w.heap.size, 0, none⟩) s.data.toList.length cap) W1 ∧ En.Bytes W1 (some ⟨w.heap.size, 0, none⟩) s.data.toList ∧ Below w.heap.size w W1 := by
  have hl : s.data.toList.length = s.size := by simp
  rw [hl]
  refine ⟨_, _, run_bytes_of_string w 9 45 5 s Tryd.underlying9 Tryd.underlying45 Tryd.underlying5, ?_, ?_⟩
  · refine .inr ⟨w.heap.size, 0, rfl, ?_, fun j hj => ?_⟩
    · show w.heap.size < (w.heap.push _).size
      simp
    · have h : j < s.size := by omega
      have := World.cell?_alloc_mark w.drew (bytesRow s (grownCap w s.size 0 5)) 5 ((bytesRow s (grownCap w s.size 0 5)).size, (bytesRow s (grownCap w s.size 0 5)).size + 1) j
      rw [show w.drew.heap.size = w.heap.size from rfl] at this
      rw [Nat.zero_add, this, bytesRow, Array.getElem?_append_left (by simpa using h)]
      have hj : j < s.data.size := h
      rw [Array.getElem?_map, Array.getElem?_eq_getElem hj]
      rfl
  · exact ((Below.refl _ w).drew).alloc (Nat.le_refl _) _
end Go.Proofs.YtaagnckppdaljaaDoor

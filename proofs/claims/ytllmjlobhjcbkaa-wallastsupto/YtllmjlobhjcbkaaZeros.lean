/-
  'append' of noughts to a full slice of bytes: a new row.
-/
import Derived.Test.YtllmjlobhjcbkaaSWrite
namespace Go.Proofs.Ytllmjlobhjcbkaa
open Go.RowKit

theorem run_append_grow_zeros (w : World) (b : Addr) (sLen sCap : Nat) (olds : List Value) (hlo : olds.length = sLen) (holds : ∀ j v, olds[j]? = some v → w.cell? (b.add j) = some v) (n : Nat) (h0 : 0 < n) (hg : sCap < sLen + n) (h63 : sLen + n ≤ 100000000) (ty : TypeId) :
    (Builtin.append_ #[47, 3] ty #[.slice (some b) sLen sCap, .int .i64 (n : Int)]).run Try.prog w =
      .ok (.slice (some ⟨w.heap.size, 0, none⟩) (sLen + n) (grownCap w (sLen + n) sCap 5)) (w.drew.alloc (.cells (olds.toArray ++ Builtin.zeroCells (Value.int .u8 0).cells n ++ Builtin.zeroCells (Value.int .u8 0).cells (grownCap w (sLen + n) sCap 5 - (sLen + n))) 5)) := by
  obtain ⟨i, hi, hz, hz1, hz2⟩ := info_parts info5
  have hn : ¬ (sLen + n ≤ sCap) := by omega
  have hw : IntKind.i64.wrap (n : Int) = n := by rw [IntKind.wrap_i64]; omega
  have h63' : ¬ (9223372036854775807 < ((sLen : Int) + (n : Int))) := by omega
  have hfit : Builtin.nextslicecap (sLen + n) sCap * i.bytes ≤ 281474976710656 := by
    rw [hz2]
    have := growslice_fits (need := sLen + n) (old := sCap) (bytes := 1) (by omega) (by omega)
    simpa using this
  have h48' : ¬ (281474976710656 < Builtin.nextslicecap (sLen + n) sCap * i.bytes) := by omega
  have h48i : ¬ (281474976710656 < (n : Int) * (i.bytes : Int)) := by rw [hz2]; omega
  have hneg : ¬ ((n : Int) < 0) := by omega
  have hns : ¬ (n * i.size = 0) := by rw [hz1]; omega
  have hfo := run_firstCells_some (P := Try.prog) w.drew i.size sLen b sLen sCap olds (by rw [hz1, Nat.mul_one]; exact hlo) (by simpa using holds)
  simp [Builtin.append_, run_underlying Try.underlying47, run_underlying Try.underlying3, sizeOf, typeInfo, zeroValue, hi, hz, asInt, asIntOf, hw, hneg, hns, hn, h63', h48', h48i, Question.forced, hfo, newRow, grownCap]

/-- The same, told by bytes. -/
theorem append_zeros (w : World) (b o len : Nat) (xs : List UInt8) (hl : xs.length = len) (hx : Bytes w (some ⟨b, o, none⟩) xs) (n : Nat) (h0 : 0 < n) (h63 : len + n ≤ 100000000) :
    ∃ c w', (∀ ty, (Builtin.append_ #[47, 3] ty #[.slice (some ⟨b, o, none⟩) len len, .int .i64 (n : Int)]).run Try.prog w = .ok (.slice (some ⟨w.heap.size, 0, none⟩) (len + n) c) w') ∧ Bytes w' (some ⟨w.heap.size, 0, none⟩) (xs ++ List.replicate n 0) ∧ len + n ≤ c ∧ Below w.heap.size w w' := by
  obtain ⟨c, hc⟩ : ∃ c, c = grownCap w (len + n) len 5 := ⟨_, rfl⟩
  have hge : len + n ≤ c := by rw [hc]; exact grownCap_ge _ _ _ _
  refine ⟨c, w.drew.alloc (.cells ((bcs xs).toArray ++ Builtin.zeroCells (Value.int .u8 0).cells n ++ Builtin.zeroCells (Value.int .u8 0).cells (c - (len + n))) 5), ?_, ?_, hge, ((Below.refl _ w).drew).alloc (Nat.le_refl _) _⟩
  · intro ty
    rw [hc]
    exact run_append_grow_zeros w ⟨b, o, none⟩ len len (bcs xs) (by rw [bcs_length, hl]) hx.cells n h0 (by omega) h63 ty
  · refine .inr ⟨w.heap.size, 0, rfl, by simp, ?_⟩
    intro j hj
    have hblk := heap_alloc_new w.drew (.cells ((bcs xs).toArray ++ Builtin.zeroCells (Value.int .u8 0).cells n ++ Builtin.zeroCells (Value.int .u8 0).cells (c - (len + n))) 5)
    have e := cell_blk (w := w.drew.alloc (.cells ((bcs xs).toArray ++ Builtin.zeroCells (Value.int .u8 0).cells n ++ Builtin.zeroCells (Value.int .u8 0).cells (c - (len + n))) 5)) (g := w.heap.size) hblk (0 + j)
    rw [e, Nat.zero_add]
    rw [List.length_append, List.length_replicate] at hj
    rw [Array.getElem?_append_left (by rw [Array.size_append, zeroCells_size]; simp [bcs_length]; omega)]
    by_cases hjx : j < xs.length
    · rw [Array.getElem?_append_left (by simp [bcs_length]; omega), List.getElem?_toArray, bcs_get hjx, List.getElem_append_left hjx]
    · rw [Array.getElem?_append_right (by simp [bcs_length]; omega), List.getElem_append_right (by omega)]
      have h1 : j - xs.length < n := by omega
      simp [Builtin.zeroCells, Value.cells, bcs_length, h1, Nat.mod_one]
end Go.Proofs.Ytllmjlobhjcbkaa

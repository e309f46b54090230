/-
  A frame's sectors but the first, and noughts behind them.
-/
import Derived.Test.YtfibmkackckodaaLay
import Derived.ArgAppend
namespace Go.Proofs.Ytfibmkackckodaa
open Go.RowKit

theorem setCells_one (w : World) (b o : Nat) (z : Value) : w.setCells b o [z] = w.setCell ⟨b, o, none⟩ z := by simp [World.setCells]

theorem tail_append {w : World} {base gr n cr : Nat} {xs : List Value} (hrow : w.ownsRow base 50 1 (.slice (some ⟨gr, 0, none⟩) n cr) n xs) (h1 : 1 ≤ n) (hn : n ≤ 4096) (sb : Nat) (z : Value) (hz1 : z.oneCell' = true) (hz : w.cell? ⟨sb, 0, none⟩ = some z) (o : Nat) (ho : o = if cr = 1 then 0 else 1) :
    ∃ b' off' c' w', (∀ ty, (Builtin.append_ #[83, 83] ty #[.slice (some ⟨gr, o, none⟩) (n - 1) (cr - 1), .slice (some ⟨sb, 0, none⟩) 1 1]).run Try.prog w = .ok (.slice (some ⟨b', off', none⟩) n c') w') ∧
      (∀ j, j < n → w'.cell? ⟨b', off' + j, none⟩ = (xs.drop 1 ++ [z])[j]?) ∧ w.grownBy w' (some gr) ∧ (b' = gr ∨ w.heap.size ≤ b') ∧ b' < w'.heap.size ∧ w'.cell? ⟨gr, 0, none⟩ = xs[0]? := by
  obtain ⟨i0, hi, hz0, hzs, hzb⟩ := info_parts info50
  have hxl : xs.length = n := by have := hrow.1; omega
  obtain ⟨g', cr', he, hncr, hbg, hglt⟩ := owns_head hrow h1
  simp only [Value.slice.injEq, Option.some.injEq, Addr.mk.injEq, and_true] at he
  obtain ⟨rfl, _, rfl⟩ := he
  have hcell : ∀ j, j < n → w.cell? ⟨gr, j, none⟩ = xs[j]? := by
    intro j hj
    rw [List.getElem?_eq_getElem (by omega)]
    exact owns_cell hrow (List.getElem?_eq_getElem (by omega))
  have hnews : ∀ j u, [z][j]? = some u → w.cell? ((⟨sb, 0, none⟩ : Addr).add j) = some u := by
    intro j u hj
    rw [Addr.add_lit, Nat.zero_add]
    cases j with
    | zero => simp at hj; rw [hz, hj]
    | succ j => simp at hj
  by_cases hroom : n + 1 ≤ cr
  · -- in place
    have ho1 : o = 1 := by rw [ho, if_neg (by omega)]
    subst ho1
    have hsome : (w.cell? ⟨gr, n, none⟩).isSome = true ∧ w.frozen? ⟨gr, n, none⟩ = false := by
      refine ⟨?_, owns_frozen hrow n⟩
      obtain ⟨_, ⟨h0, _⟩ | ⟨g', cap', cur, h0, _, hg, _, _, hcs, _⟩⟩ := hrow
      · simp at h0
      · simp only [Value.slice.injEq, Option.some.injEq, Addr.mk.injEq, and_true] at h0
        obtain ⟨rfl, _, rfl⟩ := h0
        rw [cell_blk hg n, Array.getElem?_eq_getElem (by omega)]
        rfl
    have hrun : ∀ ty, (Builtin.append_ #[83, 83] ty #[.slice (some ⟨gr, 1, none⟩) (n - 1) (cr - 1), .slice (some ⟨sb, 0, none⟩) 1 1]).run Try.prog w = .ok (.slice (some ⟨gr, 1, none⟩) n (cr - 1)) (w.setCell ⟨gr, n, none⟩ z) := by
      intro ty
      have := run_append_room_cells (P := Try.prog) (w := w) 83 ty 50 i0 Try.underlying83 hi gr 1 (n - 1) (cr - 1) ⟨sb, 0, none⟩ 1 1 [z] (by rw [hzs]; rfl) hnews (by intro u hu; simp at hu; rw [hu]; exact hz1) (by omega)
        (by intro j hj; simp at hj; subst hj; rw [hzs, show 1 + (n - 1) * 1 + 0 = n from by omega]; exact hsome.1) (by intro j hj; simp at hj; subst hj; rw [hzs, show 1 + (n - 1) * 1 + 0 = n from by omega]; exact hsome.2)
      rw [this, hzs, show 1 + (n - 1) * 1 = n from by omega, show n - 1 + 1 = n from by omega, setCells_one]
    refine ⟨gr, 1, cr - 1, _, hrun, ?_, ⟨rfl, rfl, rfl, by simp [World.setCell], fun k _ hne => Below.heap_setCell _ _ _ _ (by intro e; exact hne (by rw [e]))⟩, .inl rfl, by simpa [World.setCell] using hglt, ?_⟩
    · intro j hj
      by_cases hjn : j = n - 1
      · subst hjn
        rw [show 1 + (n - 1) = n from by omega]
        obtain ⟨u, hu⟩ := Option.isSome_iff_exists.1 hsome.1
        rw [World.cell?_setCell_same w _ _ hu, List.getElem?_append_right (by simp; omega)]
        simp [hxl]
      · rw [World.cell?_setCell_other w _ _ _ (by simp only [ne_eq, Addr.mk.injEq]; omega), List.getElem?_append_left (by simp; omega), List.getElem?_drop]
        exact hcell (1 + j) (by omega)
    · rw [World.cell?_setCell_other w _ _ _ (by simp only [ne_eq, Addr.mk.injEq]; omega)]
      exact hcell 0 h1
  · -- a new row
    have hcr : cr = n := by omega
    subst hcr
    have holds : ∀ j v, (xs.drop 1)[j]? = some v → w.cell? ((⟨gr, o, none⟩ : Addr).add j) = some v := by
      intro j v hj
      have hjl : j < (xs.drop 1).length := (List.getElem?_eq_some_iff.1 hj).1
      simp at hjl
      have ho1 : o = 1 := by rw [ho, if_neg (by omega)]
      subst ho1
      rw [Addr.add_lit, hcell (1 + j) (by omega), ← List.getElem?_drop]
      exact hj
    have hrun : ∀ ty, (Builtin.append_ #[83, 83] ty #[.slice (some ⟨gr, o, none⟩) (cr - 1) (cr - 1), .slice (some ⟨sb, 0, none⟩) 1 1]).run Try.prog w = .ok (.slice (some ⟨w.heap.size, 0, none⟩) cr (grownCap w (cr - 1 + 1) (cr - 1) 50)) (w.drew.alloc (.cells ((xs.drop 1).toArray ++ [z].toArray ++ Builtin.zeroCells (Value.slice none 0 0).cells (grownCap w (cr - 1 + 1) (cr - 1) 50 - (cr - 1 + 1))) 50)) := by
      intro ty
      have := run_append_grow (P := Try.prog) w 83 ty 50 i0 (.slice none 0 0) Try.underlying83 hi hz0 ⟨gr, o, none⟩ (cr - 1) (cr - 1) (xs.drop 1) (by rw [hzs]; simp; omega) holds ⟨sb, 0, none⟩ 1 1 [z] (by rw [hzs]; rfl) hnews (by omega) (by omega) (growslice_fits (by omega) (by rw [hzb]; omega))
      rw [this, show cr - 1 + 1 = cr from by omega]
    refine ⟨w.heap.size, 0, _, _, hrun, ?_, ⟨rfl, rfl, rfl, by simp, fun k hk _ => Below.heap_alloc _ _ _ hk⟩, .inr (Nat.le_refl _), by simp, ?_⟩
    · intro j hj
      have hb := cell_blk (heap_alloc_new w.drew (.cells ((xs.drop 1).toArray ++ [z].toArray ++ Builtin.zeroCells (Value.slice none 0 0).cells (grownCap w (cr - 1 + 1) (cr - 1) 50 - (cr - 1 + 1))) 50)) j
      rw [Nat.zero_add]
      rw [show w.drew.heap.size = w.heap.size from rfl] at hb
      rw [hb, Array.getElem?_append_left (by simp; omega)]
      simp
    · have := hcell 0 h1
      rw [← this]
      exact World.cell?_of_block (w := w) (a := ⟨gr, 0, none⟩) (Below.heap_alloc w.drew _ gr hglt)

theorem slice_tail (gr n cr : Nat) (h1 : 1 ≤ n) (wx : World) : (Instr.slice 83 (.slice (some ⟨gr, 0, none⟩) n cr) (some (.int .i64 1)) none none).run Try.prog wx = .ok (.slice (some ⟨gr, if cr = 1 then 0 else 1, none⟩) (n - 1) (cr - 1)) wx := by
  obtain ⟨i0, hi, hz0, hz1, hz2⟩ := info_parts info50
  simp [Instr.slice, run_underlying Try.underlying83, Instr.sliceBounds, run_sliceBound, sizeOf, typeInfo, hi, hz1, (by omega : (1 : Int) ≤ (n : Int)), Addr.add]
  split <;> rfl
theorem slice_first (gr n cr : Nat) (h1 : 1 ≤ cr) (wx : World) : (Instr.slice 83 (.slice (some ⟨gr, 0, none⟩) n cr) none (some (.int .i64 1)) none).run Try.prog wx = .ok (.slice (some ⟨gr, 0, none⟩) 1 cr) wx := by
  obtain ⟨i0, hi, hz0, hz1, hz2⟩ := info_parts info50
  simp [Instr.slice, run_underlying Try.underlying83, Instr.sliceBounds, run_sliceBound, sizeOf, typeInfo, hi, (by omega : (1 : Int) ≤ (cr : Int)), Addr.add]
end Go.Proofs.Ytfibmkackckodaa

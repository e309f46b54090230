/-
  A row of bytes that a conversion made: its frozen place lies behind its cells; texts are put behind it.
-/
import Derived.Test.YtecljiefljgfmaaRun02
import Derived.Test.YtecljiefljgfmaaRun03
import Derived.Lib.FrozenHead
namespace Go.Proofs.Ytecljiefljgfmaa
open Go.RowKit

/-- A row of the call's own, no cell of which is frozen. -/
def OwnQ (w : World) (base : Nat) (v : Value) (l : List UInt8) : Prop :=
  ∃ g cap cur fz, v = .slice (some ⟨g, 0, none⟩) l.length cap ∧ base ≤ g ∧ w.heap[g]? = some (.cells cur 5 fz) ∧ (fz.2 = 0 ∨ cur.size ≤ fz.1) ∧ l.length ≤ cap ∧ cap ≤ maxLen ∧ cur.size = cap ∧ cur.toList.take l.length = bcs l

theorem OwnQ.open {w : World} {base : Nat} {v : Value} {l : List UInt8} (h : OwnQ w base v l) : ∃ g cap, v = .slice (some ⟨g, 0, none⟩) l.length cap ∧ Bytes w (some ⟨g, 0, none⟩) l ∧ l.length ≤ cap ∧ base ≤ g ∧ g < w.heap.size := by
  obtain ⟨g, cap, cur, fz, rfl, hb, hg, _, h1, _, h3, h4⟩ := h
  have hlt : g < w.heap.size := (Array.getElem?_eq_some_iff.1 hg).1
  refine ⟨g, cap, rfl, .inr ⟨g, 0, rfl, hlt, fun j hj => ?_⟩, h1, hb, hlt⟩
  have hx : (bcs l)[j]? = some (.int .u8 (l[j].toNat : Int)) := bcs_get hj
  rw [← h4, List.getElem?_take, if_pos hj] at hx
  rw [Nat.zero_add, cell_of_row w g j cur 5 fz hg]
  simpa using hx
theorem OwnQ.below {w w' : World} {base : Nat} {v : Value} {l : List UInt8} (h : OwnQ w base v l) (hb : Below w.heap.size w w') : OwnQ w' base v l := by
  obtain ⟨g, cap, cur, fz, e, hb', hg, h1⟩ := h
  exact ⟨g, cap, cur, fz, e, hb', (hb.block g (Array.getElem?_eq_some_iff.1 hg).1).trans hg, h1⟩


theorem run_storeQ (P : Program) (g o : Nat) (t : TypeId) (fz : Nat × Nat) (n : Nat) (hz : fz.2 = 0 ∨ n ≤ fz.1) : ∀ (vs : List Value) (i : Nat) (cur : Array Value) (w : World), cur.size = n → w.heap[g]? = some (.cells cur t fz) → o + i + vs.length ≤ n → (∀ v ∈ vs, v.oneCell' = true) →
    (storeCells ⟨g, o, none⟩ vs i).run P w = .ok () (w.setRow g (cur.toList.take (o + i) ++ vs ++ cur.toList.drop (o + i + vs.length)).toArray) := by
  intro vs
  induction vs with
  | nil =>
    intro i cur w _ hg _ _
    have e : (cur.toList.take (o + i) ++ [] ++ cur.toList.drop (o + i + ([] : List Value).length)).toArray = cur := by simp
    rw [e, setRow_self w g cur t fz hg]
    rfl
  | cons v rest ih =>
    intro i cur w hn hg hl h1
    rw [List.length_cons] at hl
    have hi : o + i < cur.size := by omega
    have hcell : w.cell? ⟨g, o + i, none⟩ = some cur[o + i] := by rw [cell_of_row w g (o + i) cur t fz hg]; simp [hi]
    have hfro : w.frozen? ⟨g, o + i, none⟩ = false := by
      obtain ⟨z1, z2⟩ := fz
      simp only [World.frozen?, hg, Bool.and_eq_false_iff, decide_eq_false_iff_not]
      rcases hz with hz | hz
      · right; simp only at hz; omega
      · left; simp only at hz; omega
    have hst : (store ((⟨g, o, none⟩ : Addr).add i) v).run P w = .ok () (w.setRow g (cur.setIfInBounds (o + i) v)) := by
      rw [Addr.add_lit, run_store P w _ v _ (h1 v List.mem_cons_self), hcell]
      simp [hfro, setCell_eq_setRow w g (o + i) cur t fz v hg]
    have ih2 := ih (i + 1) (cur.setIfInBounds (o + i) v) (w.setRow g (cur.setIfInBounds (o + i) v)) (by simpa using hn) (setRow_heap w g cur _ t _ hg) (by omega) (fun x hx => h1 x (List.mem_cons_of_mem _ hx))
    simp only [storeCells, Sem.run_bind, hst, Result.andThen_ok, ih2, setRow_setRow]
    have e := list_seg_step cur.toList (o + i) v rest (by simpa using by omega)
    congr 3
    simpa [Array.toList_setIfInBounds, Nat.add_assoc] using e

/-- A text put behind such a row. -/
theorem appendQ {w : World} (base : Nat) (v : Value) (l : List UInt8) (h : OwnQ w base v l) (s : ByteArray) (h63 : l.length + s.size ≤ 100000000) (hbase : base ≤ w.heap.size) (ty : TypeId) :
    ∃ v' w', (Builtin.append_ #[50, 9] ty #[v, .string s]).run Try.prog w = .ok v' w' ∧ OwnQ w' base v' (l ++ s.data.toList) ∧ w.grownBy w' v.ownBlock := by
  obtain ⟨i, hi, hz0, hz1, hz2⟩ := info_parts info5
  obtain ⟨g, cap, cur, fz, rfl, hb, hg, hfz, hlc, hcm, hcs, htk⟩ := h
  have hsl : s.data.toList.length = s.size := by simp
  have hlen : (l ++ s.data.toList).length = l.length + s.size := by rw [List.length_append, hsl]
  have hsc : Lib.strCells s = bcs s.data.toList := rfl
  by_cases hroom : l.length + s.size ≤ cap
  · have hf := Lib.run_firstCells_string (P := Try.prog) w 1 s
    have hst := run_storeQ Try.prog g l.length 5 fz cap (by rw [← hcs]; exact hfz) (Lib.strCells s) 0 cur w hcs hg (by rw [Lib.strCells_length]; omega) (Lib.strCells_oneCell s)
    simp only [Nat.add_zero, Lib.strCells_length] at hst
    have hr : (Builtin.append_ #[50, 9] ty #[.slice (some ⟨g, 0, none⟩) l.length cap, .string s]).run Try.prog w = .ok (.slice (some ⟨g, 0, none⟩) (l.length + s.size) cap) (w.setRow g (cur.toList.take l.length ++ Lib.strCells s ++ cur.toList.drop (l.length + s.size)).toArray) := by
      simp [Builtin.append_, run_underlying Try.underlying50, run_underlying Try.underlying9, sizeOf, typeInfo, hi, hz1, Builtin.lenOf, hroom, hf, Addr.add_lit, hst]
    refine ⟨_, _, hr, ⟨g, cap, _, fz, by rw [hlen], hb, setRow_heap w g cur _ 5 _ hg, ?_, by omega, hcm, ?_, ?_⟩, ⟨rfl, rfl, rfl, by simp, fun k _ hk => setRow_other w g k _ (fun e => hk (by simp [Value.ownBlock, e]))⟩⟩
    · rcases hfz with hfz | hfz
      · exact .inl hfz
      · right
        simp only [List.size_toArray, List.length_append, List.length_take, List.length_drop, Array.length_toList, Lib.strCells_length]
        omega
    · simp only [List.size_toArray, List.length_append, List.length_take, List.length_drop, Array.length_toList, Lib.strCells_length]
      omega
    · rw [htk, hsc, ← bcs_append]
      show ((bcs (l ++ s.data.toList)) ++ _).take _ = _
      exact List.take_left' (by rw [bcs_length])
  · have hcells : ∀ j u, (bcs l)[j]? = some u → w.cell? ((⟨g, 0, none⟩ : Addr).add j) = some u := by
      intro j u hu
      rw [Addr.add_lit, Nat.zero_add, cell_of_row w g j cur 5 fz hg]
      rw [← htk, List.getElem?_take] at hu
      split at hu
      · simpa using hu
      · cases hu
    have hr := Lib.run_append_grow_string (P := Try.prog) w 50 9 ty 5 i (.int .u8 0) Try.underlying50 Try.underlying9 hi hz0 ⟨g, 0, none⟩ l.length cap (bcs l) (by rw [hz1, bcs_length]; omega) hcells s (by omega) (by omega) (by rw [hz2]; exact growslice_fits (by omega) (by omega))
    have hge := grownCap_ge w (l.length + s.size) cap 5
    have hcm2 : grownCap w (l.length + s.size) cap 5 ≤ maxLen := grownCap_le_maxLen w (l.length + s.size) cap 5 (by unfold maxLen; omega)
    refine ⟨_, _, hr, ⟨w.heap.size, _, _, (0, 0), by rw [hlen], hbase, heap_alloc_new w.drew _, .inl rfl, by rw [hlen]; exact hge, hcm2, ?_, ?_⟩, ⟨rfl, rfl, rfl, by simp, fun k hk _ => heap_alloc_old w.drew _ hk⟩⟩
    · have hz1 : (Value.int IntKind.u8 0).cells.size = 1 := rfl
      simp only [Array.size_append, List.size_toArray, size_zeroCells, hz1, bcs_length, Lib.strCells_length]
      omega
    · simp only [Array.toList_append, List.append_assoc]
      rw [hsc, ← List.append_assoc, ← bcs_append]
      exact List.take_left' (by rw [bcs_length])
theorem wpList_appendQ {w : World} {ops : Array Oper} {rest : List Oper} {o : Oper} {a : Act} {Q : Exit → Act → World → Prop} (hgd : o.guard = none) (sl x : Operand)
    (ho : o.op = .call { callee := .builtin .append, args := #[sl, x], argTypes := #[50, 9] }) (base : Nat) (v : Value) (l : List UInt8) (hs : a.eval sl = v) (hown : OwnQ w base v l) (s : ByteArray) (hx : a.eval x = .string s) (h63 : l.length + s.size ≤ 100000000) (hbase : base ≤ w.heap.size)
    (h : ∀ v' w', OwnQ w' base v' (l ++ s.data.toList) → w.grownBy w' v.ownBlock → wpList Try.prog ops Q rest (a.put o.dst v') w') : wpList Try.prog ops Q (o :: rest) a w := by
  refine wpList_plain hgd fun K hK => ?_
  obtain ⟨v', w', hr, h2, h3⟩ := appendQ base v l hown s h63 hbase o.type
  unfold Oper.wp execOp
  simp only [ho, resolve, invoke, builtin, Sem.run_bind, Sem.run_pure, Result.andThen_ok, List.map_toArray, List.map_cons, List.map_nil, hs, hx, hr]
  exact hK _ _ (h v' w' h2 h3)

/-- The row that a conversion makes. -/
theorem conv_q (s : ByteArray) (w : World) (h : s.size ≤ 100000000) : ∃ W1 cap, (convert 9 50 (.string s)).run Try.prog w = .ok (.slice (some ⟨w.heap.size, 0, none⟩) s.size cap) W1 ∧ Fresh W1 w.heap.size s ∧ OwnQ W1 w.heap.size (.slice (some ⟨w.heap.size, 0, none⟩) s.size cap) s.data.toList ∧ Below w.heap.size w W1 := by
  obtain ⟨W1, cap, h1, h2, h3⟩ := conv_fresh s w
  have hr := run_bytes_of_string (P := Try.prog) w 9 50 5 s Try.underlying9 Try.underlying50 Try.underlying5
  rw [h1] at hr
  simp only [Result.ok.injEq, Value.slice.injEq] at hr
  obtain ⟨⟨_, _, hc⟩, hW⟩ := hr
  refine ⟨W1, cap, h1, h2, ?_, h3⟩
  have hsl : s.data.toList.length = s.size := by simp
  have hge := grownCap_ge w s.size 0 5
  have hbs : (bytesRow s (grownCap w s.size 0 5)).size = grownCap w s.size 0 5 := by
    rw [bytesRow, Array.size_append, Array.size_map]
    have : s.data.size = s.size := rfl
    simp
    omega
  refine ⟨w.heap.size, cap, bytesRow s (grownCap w s.size 0 5), ((bytesRow s (grownCap w s.size 0 5)).size, (bytesRow s (grownCap w s.size 0 5)).size + 1), by rw [hsl], Nat.le_refl _, ?_, .inr (Nat.le_refl _), ?_, ?_, ?_, ?_⟩
  · rw [hW]; exact heap_alloc_new w.drew _
  · rw [hsl, hc]; omega
  · rw [hc]; exact grownCap_le_maxLen w s.size 0 5 (by unfold maxLen; omega)
  · rw [hc]; omega
  · rw [bytesRow, Array.toList_append, hsl, List.take_left' (by simp)]
    simp [bcs]
end Go.Proofs.Ytecljiefljgfmaa

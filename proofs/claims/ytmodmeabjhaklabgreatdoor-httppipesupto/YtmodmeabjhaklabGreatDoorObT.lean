/-
  A row of one's own, whatever mark stands behind its end: a constant's, a text's that was made bytes, or one that has grown.
-/
import Derived.Test.YtmodmeabjhaklabGreatDoorObK
namespace Go.Proofs.YtmodmeabjhaklabGreatDoor
open Go.RowKit

/-- The row of a slice of bytes; what is marked of it, if anything, lies behind its end. -/
def Rw (w : World) (base : Nat) (v : Value) (l : List UInt8) : Prop :=
  (v = .slice none 0 0 ∧ l = []) ∨ ∃ g cap cur fz, v = .slice (some ⟨g, 0, none⟩) l.length cap ∧ base ≤ g ∧ w.heap[g]? = some (.cells cur 5 fz) ∧ l.length ≤ cap ∧ cap ≤ maxLen ∧ cur.size = cap ∧ cur.toList.take l.length = bcs l ∧ (fz.2 = 0 ∨ cap ≤ fz.1)
theorem Own.rw {w : World} {base : Nat} {v : Value} {l : List UInt8} (h : Own w base v l) : Rw w base v l := by
  rcases own_cap h with h | ⟨g, cap, cur, h1, h2, h3, h4, h5, h6, h7⟩
  · exact .inl h
  · exact .inr ⟨g, cap, cur, (0, 0), h1, h2, h3, h4, h5, h6, h7, .inl rfl⟩
theorem store_tail (P : Program) (g o : Nat) (t : TypeId) (fz : Nat × Nat) : ∀ (vs : List Value) (i : Nat) (cur : Array Value) (w : World), w.heap[g]? = some (.cells cur t fz) → (fz.2 = 0 ∨ cur.size ≤ fz.1) → o + i + vs.length ≤ cur.size → (∀ v ∈ vs, v.oneCell' = true) →
    (storeCells ⟨g, o, none⟩ vs i).run P w = .ok () (w.setRow g (cur.toList.take (o + i) ++ vs ++ cur.toList.drop (o + i + vs.length)).toArray)
  | [], i, cur, w, hg, _, _, _ => by
    simp only [storeCells, List.append_nil, List.length_nil, Nat.add_zero, List.take_append_drop, Array.toArray_toList]
    rw [setRow_self w g cur t fz hg]
    rfl
  | v :: rest, i, cur, w, hg, hfz, hl, h1 => by
    have hi : o + i < cur.size := by simp at hl; omega
    have hadd : (⟨g, o, none⟩ : Addr).add i = ⟨g, o + i, none⟩ := by unfold Addr.add; split <;> simp_all
    have hcell : w.cell? ⟨g, o + i, none⟩ = some cur[o + i] := by simp [World.cell?, hg, hi]
    have hfro : w.frozen? ⟨g, o + i, none⟩ = false := by
      obtain ⟨lo, hi'⟩ := fz
      simp only [World.frozen?, hg, Bool.and_eq_false_iff, decide_eq_false_iff_not]
      simp only at hfz
      omega
    have hst : (store ((⟨g, o, none⟩ : Addr).add i) v).run P w = .ok () (w.setRow g (cur.setIfInBounds (o + i) v)) := by
      rw [hadd, run_store P w _ v _ (h1 v (by simp)), hcell]
      simp [hfro, setCell_eq_setRow w g (o + i) cur t fz v hg]
    have ih := store_tail P g o t fz rest (i + 1) (cur.setIfInBounds (o + i) v) (w.setRow g (cur.setIfInBounds (o + i) v)) (setRow_heap w g cur _ t _ hg) (by simpa using hfz) (by simp at hl ⊢; omega) (fun x hx => h1 x (by simp [hx]))
    simp only [storeCells, Sem.run_bind, hst, Result.andThen_ok, ih, setRow_setRow]
    congr 3
    have e := list_seg_step cur.toList (o + i) v rest (by simp at hl ⊢; omega)
    simpa [Array.toList_setIfInBounds, Nat.add_assoc] using e
theorem rw_cells {w : World} {g : Nat} {cur : Array Value} {fz : Nat × Nat} {l : List UInt8} (hg : w.heap[g]? = some (.cells cur 5 fz)) (ht : cur.toList.take l.length = bcs l) : ∀ j u, (bcs l)[j]? = some u → w.cell? ((⟨g, 0, none⟩ : Addr).add j) = some u := by
  intro j u hu
  have hj : j < l.length := by
    have := (List.getElem?_eq_some_iff.1 hu).1
    rw [bcs_length] at this
    exact this
  rw [Addr.add_lit, Nat.zero_add, cell_of_row w g j _ 5 fz hg]
  rw [← ht, List.getElem?_take_of_lt hj] at hu
  simpa using hu
theorem Rw.slice {w : World} {base : Nat} {v : Value} {l : List UInt8} (h : Rw w base v l) : ∃ a cap, v = .slice a l.length cap ∧ l.length ≤ cap ∧ Bytes w a l ∧ (∀ x, a = some x → x.spot = none ∧ x.block < w.heap.size) ∧ (a = none → cap = 0) := by
  rcases h with ⟨rfl, rfl⟩ | ⟨g, cap, cur, fz, rfl, hb, hg, hc, hm, hs, ht, hf⟩
  · exact ⟨none, 0, rfl, by simp, .inl rfl, fun x hx => (by cases hx), fun _ => rfl⟩
  · refine ⟨_, cap, rfl, hc, .inr ⟨g, 0, rfl, blk_lt hg, fun j hj => ?_⟩, fun x hx => ?_, fun h => (by cases h)⟩
    · have := rw_cells hg ht j _ (bcs_get hj)
      rw [Addr.add_lit, Nat.zero_add] at this
      rw [Nat.zero_add]
      exact this
    · simp only [Option.some.injEq] at hx
      subst hx
      exact ⟨rfl, blk_lt hg⟩
theorem Rw.lt {w : World} {base : Nat} {v : Value} {l : List UInt8} (h : Rw w base v l) : ∀ k, v.ownBlock = some k → base ≤ k ∧ k < w.heap.size := by
  rcases h with ⟨rfl, rfl⟩ | ⟨g, cap, cur, fz, rfl, hb, hg, _⟩
  · intro k hk; cases hk
  · intro k hk
    simp only [Value.ownBlock, Option.some.injEq] at hk
    subst hk
    exact ⟨hb, blk_lt hg⟩
theorem Rw.below {w w' : World} {base : Nat} {v : Value} {l : List UInt8} (h : Rw w base v l) (hb : Below w.heap.size w w') : Rw w' base v l := by
  rcases h with h | ⟨g, cap, cur, fz, h1, h2, hg, rest⟩
  · exact .inl h
  · exact .inr ⟨g, cap, cur, fz, h1, h2, (hb.block g (blk_lt hg)).trans hg, rest⟩
/-- What an append to such a row leaves. -/
structure ApR (w w' : World) (base : Nat) (v v' : Value) (m : List UInt8) : Prop where
  own : Rw w' base v' m
  grown : w.grownBy w' v.ownBlock
  place : ∀ k, v'.ownBlock = some k → v.ownBlock = some k ∨ w.heap.size ≤ k
theorem run_rw_str (w : World) (base : Nat) (ty : TypeId) (v : Value) (l : List UInt8) (h : Rw w base v l) (hl : l.length ≤ 1000000000) (s : ByteArray) (x : List UInt8) (hx : s.data.toList = x) (hs : 0 < s.size) (hs2 : s.size ≤ 1000000000) (hbase : base ≤ w.heap.size) :
    ∃ v' w', (Builtin.append_ #[22, 9] ty #[v, .string s]).run Tryz.prog w = .ok v' w' ∧ ApR w w' base v v' (l ++ x) := by
  obtain ⟨i0, hi, hz0, hz1, hz2⟩ := info_parts info5
  have hsl : x.length = s.size := by rw [← hx]; simp
  have hsc : Lib.strCells s = bcs x := by rw [← hx]; simp [Lib.strCells, bcs]
  rcases h with ⟨rfl, rfl⟩ | ⟨g, cap, cur, fz, rfl, hb, hg, hc, hm, hcs, ht, hf⟩
  · obtain ⟨v', w', hr, hk⟩ := run_apk_str w base ty (.slice none 0 0) [] (.inl (World.ownsRow_nil _ _ _ _)) (by simp) s x hx hs hs2 hbase
    exact ⟨v', w', hr, hk.own.rw, hk.grown, hk.place⟩
  · by_cases hroom : l.length + s.size ≤ cap
    · have hfc := Lib.run_firstCells_string (P := Tryz.prog) w 1 s
      have hst := store_tail Tryz.prog g l.length 5 fz (Lib.strCells s) 0 cur w hg (by rw [hcs]; exact hf) (by simp [Lib.strCells_length]; omega) (Lib.strCells_oneCell s)
      simp only [Nat.add_zero, Lib.strCells_length] at hst
      have hr : (Builtin.append_ #[22, 9] ty #[.slice (some ⟨g, 0, none⟩) l.length cap, .string s]).run Tryz.prog w = .ok (.slice (some ⟨g, 0, none⟩) (l.length + s.size) cap) (w.setRow g (cur.toList.take l.length ++ Lib.strCells s ++ cur.toList.drop (l.length + s.size)).toArray) := by
        simp [Builtin.append_, run_underlying Tryz.underlying22, run_underlying Tryz.underlying9, sizeOf, typeInfo, hi, hz1, Builtin.lenOf, hroom, hfc, Addr.add_lit, hst]
      refine ⟨_, _, hr, .inr ⟨g, cap, _, fz, by rw [List.length_append, hsl], hb, setRow_heap w g cur _ 5 fz hg, by rw [List.length_append]; omega, hm, ?_, ?_, hf⟩, ⟨rfl, rfl, rfl, by simp, fun k _ hk => setRow_other w g k _ (fun e => hk (by simp [Value.ownBlock, e]))⟩, fun k hk => .inl hk⟩
      · simp only [List.size_toArray, List.length_append, List.length_take, List.length_drop, Array.length_toList, Lib.strCells_length]
        omega
      · rw [ht, hsc, bcs_append]
        exact List.take_left' (by simp [bcs_length])
    · have hr := Lib.run_append_grow_string (P := Tryz.prog) w 22 9 ty 5 i0 (.int .u8 0) Tryz.underlying22 Tryz.underlying9 hi hz0 ⟨g, 0, none⟩ l.length cap (bcs l) (by rw [hz1, bcs_length]; omega) (rw_cells hg ht) s (by omega) (by omega) (by rw [hz2]; exact growslice_fits (by omega) (by omega))
      have hge := grownCap_ge w (l.length + s.size) cap 5
      have hcm := grownCap_le_maxLen w (l.length + s.size) cap 5 (by unfold maxLen; omega)
      refine ⟨_, _, hr, .inr ⟨w.heap.size, _, _, (0, 0), by rw [List.length_append, hsl], hbase, heap_alloc_new w.drew _, by rw [List.length_append, hsl]; exact hge, hcm, ?_, ?_, .inl rfl⟩, ⟨rfl, rfl, rfl, by simp, fun k hk _ => heap_alloc_old w.drew _ hk⟩, fun k hk => .inr (by simp only [Value.ownBlock, Option.some.injEq] at hk; omega)⟩
      · have hz1 : (Value.int IntKind.u8 0).cells.size = 1 := rfl
        simp only [Array.size_append, List.size_toArray, size_zeroCells, hz1, bcs_length, hsc, hsl]
        omega
      · simp only [Array.toList_append, List.append_assoc]
        rw [hsc, ← List.append_assoc, bcs_append]
        exact List.take_left' (by simp [bcs_length])
theorem run_rw_sl (w : World) (base : Nat) (ty : TypeId) (v : Value) (l : List UInt8) (h : Rw w base v l) (hl : l.length ≤ 1000000000) (ad : Addr) (x : List UInt8) (n c : Nat) (hn : n = x.length) (hx : 0 < n) (hx2 : n ≤ 1000000000) (hnews : ∀ j u, (bcs x)[j]? = some u → w.cell? (ad.add j) = some u) (hbase : base ≤ w.heap.size) :
    ∃ v' w', (Builtin.append_ #[22, 22] ty #[v, .slice (some ad) n c]).run Tryz.prog w = .ok v' w' ∧ ApR w w' base v v' (l ++ x) := by
  subst hn
  obtain ⟨i0, hi, hz0, hz1, hz2⟩ := info_parts info5
  rcases h with ⟨rfl, rfl⟩ | ⟨g, cap, cur, fz, rfl, hb, hg, hc, hm, hcs, ht, hf⟩
  · obtain ⟨v', w', hr, hk⟩ := run_apk_sl w base ty (.slice none 0 0) [] (.inl (World.ownsRow_nil _ _ _ _)) (by simp) ad x x.length c rfl hx hx2 hnews hbase
    exact ⟨v', w', hr, hk.own.rw, hk.grown, hk.place⟩
  · by_cases hroom : l.length + x.length ≤ cap
    · have hfc := run_firstCells_some (P := Tryz.prog) w i0.size x.length ad x.length c (bcs x) (by rw [bcs_length, hz1]; omega) hnews
      have hst := store_tail Tryz.prog g l.length 5 fz (bcs x) 0 cur w hg (by rw [hcs]; exact hf) (by simp [bcs_length]; omega) (bcs_one x)
      simp only [Nat.add_zero, bcs_length] at hst
      rw [hz1] at hfc
      have hr : (Builtin.append_ #[22, 22] ty #[.slice (some ⟨g, 0, none⟩) l.length cap, .slice (some ad) x.length c]).run Tryz.prog w = .ok (.slice (some ⟨g, 0, none⟩) (l.length + x.length) cap) (w.setRow g (cur.toList.take l.length ++ bcs x ++ cur.toList.drop (l.length + x.length)).toArray) := by
        simp [Builtin.append_, run_underlying Tryz.underlying22, sizeOf, typeInfo, hi, hz1, Builtin.lenOf, hroom, hfc, Addr.add_lit, hst]
      refine ⟨_, _, hr, .inr ⟨g, cap, _, fz, by rw [List.length_append], hb, setRow_heap w g cur _ 5 fz hg, by rw [List.length_append]; omega, hm, ?_, ?_, hf⟩, ⟨rfl, rfl, rfl, by simp, fun k _ hk => setRow_other w g k _ (fun e => hk (by simp [Value.ownBlock, e]))⟩, fun k hk => .inl hk⟩
      · simp only [List.size_toArray, List.length_append, List.length_take, List.length_drop, Array.length_toList, bcs_length]
        omega
      · rw [ht, bcs_append]
        exact List.take_left' (by simp [bcs_length])
    · have hr := run_append_grow (P := Tryz.prog) w 22 ty 5 i0 (.int .u8 0) Tryz.underlying22 hi hz0 ⟨g, 0, none⟩ l.length cap (bcs l) (by rw [hz1, bcs_length]; omega) (rw_cells hg ht) ad x.length c (bcs x) (by rw [bcs_length, hz1]; omega) hnews (by omega) (by omega) (by rw [hz2]; exact growslice_fits (by omega) (by omega))
      have hge := grownCap_ge w (l.length + x.length) cap 5
      have hcm := grownCap_le_maxLen w (l.length + x.length) cap 5 (by unfold maxLen; omega)
      refine ⟨_, _, hr, .inr ⟨w.heap.size, _, _, (0, 0), by rw [List.length_append], hbase, heap_alloc_new w.drew _, by rw [List.length_append]; exact hge, hcm, ?_, ?_, .inl rfl⟩, ⟨rfl, rfl, rfl, by simp, fun k hk _ => heap_alloc_old w.drew _ hk⟩, fun k hk => .inr (by simp only [Value.ownBlock, Option.some.injEq] at hk; omega)⟩
      · have hz1 : (Value.int IntKind.u8 0).cells.size = 1 := rfl
        simp only [Array.size_append, List.size_toArray, size_zeroCells, hz1, bcs_length]
        omega
      · simp only [Array.toList_append, List.append_assoc]
        rw [← List.append_assoc, bcs_append]
        exact List.take_left' (by simp [bcs_length])
/-- A text made bytes. -/
theorem conv_rw (s : ByteArray) (w : World) (hs : s.size ≤ 1000000000) : ∃ W1 v, (convert 9 22 (.string s)).run Tryz.prog w = .ok v W1 ∧ Rw W1 w.heap.size v s.data.toList ∧ Below w.heap.size w W1 := by
  have hz : s.data.toList.length = s.size := by simp
  refine ⟨_, _, run_bytes_of_string w 9 22 5 s Tryz.underlying9 Tryz.underlying22 Tryz.underlying5, ?_, ((Below.refl _ w).drew).alloc (Nat.le_refl _) _⟩
  have hge := grownCap_ge w s.size 0 5
  have hcm := grownCap_le_maxLen w s.size 0 5 (by unfold maxLen; omega)
  have hbs : (bytesRow s (grownCap w s.size 0 5)).size = grownCap w s.size 0 5 := by
    rw [bytesRow, Array.size_append, Array.size_map]
    have : s.data.size = s.size := rfl
    simp
    omega
  refine .inr ⟨w.heap.size, grownCap w s.size 0 5, bytesRow s (grownCap w s.size 0 5), ((bytesRow s (grownCap w s.size 0 5)).size, (bytesRow s (grownCap w s.size 0 5)).size + 1), by rw [hz], Nat.le_refl _, heap_alloc_new w.drew _, by omega, hcm, hbs, ?_, .inr (by rw [hbs]; exact Nat.le_refl _)⟩
  rw [bytesRow, Array.toList_append, List.take_append_of_le_length (by simp), List.take_of_length_le (by simp)]
  simp [bcs]
theorem Rw.base {w : World} {base base' : Nat} {v : Value} {l : List UInt8} (h : Rw w base v l) (hb : base' ≤ base) : Rw w base' v l := by
  rcases h with h | ⟨g, cap, cur, fz, h1, h2, rest⟩
  · exact .inl h
  · exact .inr ⟨g, cap, cur, fz, h1, Nat.le_trans hb h2, rest⟩
theorem Rw.alloc {w : World} {base : Nat} {v : Value} {l : List UInt8} (h : Rw w base v l) (o : Obj) : Rw (w.alloc o) base v l := h.below ((Below.refl _ _).alloc (Nat.le_refl _) _)
/-- Nothing is appended. -/
theorem run_rw_zero (w : World) (base : Nat) (ty : TypeId) (v : Value) (l : List UInt8) (h : Rw w base v l) (a : Option Addr) (c : Nat) : (Builtin.append_ #[22, 22] ty #[v, .slice a 0 c]).run Tryz.prog w = .ok v w := by
  obtain ⟨i0, hi, hz0, hz1, hz2⟩ := info_parts info5
  rcases h with ⟨rfl, rfl⟩ | ⟨g, cap, cur, fz, rfl, hb, hg, hc, hm, hcs, ht, hf⟩
  · cases a <;> simp [Builtin.append_, run_underlying Tryz.underlying22, sizeOf, typeInfo, hi, Builtin.lenOf, Builtin.firstCells, loadCells, loadCellsFrom]
  · cases a <;> simp [Builtin.append_, run_underlying Tryz.underlying22, sizeOf, typeInfo, hi, Builtin.lenOf, Builtin.firstCells, loadCells, loadCellsFrom, storeCells, hc]
/-- The operations, for a walk. -/
theorem wpList_rw_str {w : World} {ops : Array Oper} {rest : List Oper} {o : Oper} {a : Act} {Q : Exit → Act → World → Prop} (hgd : o.guard = none) (sl x : Operand)
    (ho : o.op = .call { callee := .builtin .append, args := #[sl, x], argTypes := #[22, 9] })
    (base : Nat) (v : Value) (l : List UInt8) (hs : a.eval sl = v) (hown : Rw w base v l) (s : ByteArray) (hx : a.eval x = .string s) (y : List UInt8) (hy : s.data.toList = y)
    (hl : l.length ≤ 1000000000) (h0 : 0 < s.size) (h2 : s.size ≤ 1000000000) (hbase : base ≤ w.heap.size)
    (h : ∀ v' w', ApR w w' base v v' (l ++ y) → wpList Tryz.prog ops Q rest (a.put o.dst v') w') : wpList Tryz.prog ops Q (o :: rest) a w := by
  refine wpList_plain hgd fun K hK => ?_
  obtain ⟨v', w', hr, h3⟩ := run_rw_str w base o.type v l hown hl s y hy h0 h2 hbase
  unfold Oper.wp execOp
  simp only [ho, resolve, invoke, builtin, Sem.run_bind, Sem.run_pure, Result.andThen_ok, List.map_toArray, List.map_cons, List.map_nil, hs, hx, hr]
  exact hK _ _ (h v' w' h3)
/-- All bytes of a slice, be they none. -/
theorem wpList_rw_all {w : World} {ops : Array Oper} {rest : List Oper} {o : Oper} {a : Act} {Q : Exit → Act → World → Prop} (hgd : o.guard = none) (sl x : Operand)
    (ho : o.op = .call { callee := .builtin .append, args := #[sl, x], argTypes := #[22, 22] })
    (base : Nat) (v : Value) (l : List UInt8) (hs : a.eval sl = v) (hown : Rw w base v l) (ad : Option Addr) (y : List UInt8) (n c : Nat) (hx : a.eval x = .slice ad n c) (hn : n = y.length) (hy : Bytes w ad y)
    (hl : l.length ≤ 1000000000) (h2 : n ≤ 1000000000) (hbase : base ≤ w.heap.size)
    (h : ∀ v' w', Rw w' base v' (l ++ y) → Below base w w' → wpList Tryz.prog ops Q rest (a.put o.dst v') w') : wpList Tryz.prog ops Q (o :: rest) a w := by
  refine wpList_plain hgd fun K hK => ?_
  by_cases h0 : n = 0
  · subst h0
    have hy0 : y = [] := List.eq_nil_of_length_eq_zero hn.symm
    subst hy0
    have hr := run_rw_zero w base o.type v l hown ad c
    unfold Oper.wp execOp
    simp only [ho, resolve, invoke, builtin, Sem.run_bind, Sem.run_pure, Result.andThen_ok, List.map_toArray, List.map_cons, List.map_nil, hs, hx, hr]
    exact hK _ _ (h v w (by rw [List.append_nil]; exact hown) ((Below.refl _ w).mono hbase))
  · obtain ⟨x0, rfl⟩ : ∃ x0, ad = some x0 := by
      rcases hy with e | ⟨b, off, e, _⟩
      · exact absurd hn (by rw [e]; simpa using h0)
      · exact ⟨_, e⟩
    have hnews : ∀ j u, (bcs y)[j]? = some u → w.cell? (x0.add j) = some u := by
      intro j u hj
      rcases hy with rfl | ⟨b, off, e, _, hc⟩
      · simp [bcs] at hj
      · simp only [Option.some.injEq] at e
        subst e
        have hlt : j < y.length := by
          have := (List.getElem?_eq_some_iff.1 hj).1
          rw [bcs_length] at this
          exact this
        rw [Addr.add_lit, hc j hlt, ← bcs_get hlt]
        exact hj
    obtain ⟨v', w', hr, h3⟩ := run_rw_sl w base o.type v l hown hl x0 y n c hn (by omega) h2 hnews hbase
    unfold Oper.wp execOp
    simp only [ho, resolve, invoke, builtin, Sem.run_bind, Sem.run_pure, Result.andThen_ok, List.map_toArray, List.map_cons, List.map_nil, hs, hx, hr]
    exact hK _ _ (h v' w' h3.own (((Below.refl _ w).mono hbase).grown h3.grown hbase (fun k hk => (hown.lt k hk).1)))
/-- The same, with all that is left. -/
theorem wpList_rw_allK {w : World} {ops : Array Oper} {rest : List Oper} {o : Oper} {a : Act} {Q : Exit → Act → World → Prop} (hgd : o.guard = none) (sl x : Operand)
    (ho : o.op = .call { callee := .builtin .append, args := #[sl, x], argTypes := #[22, 22] })
    (base : Nat) (v : Value) (l : List UInt8) (hs : a.eval sl = v) (hown : Rw w base v l) (ad : Option Addr) (y : List UInt8) (n c : Nat) (hx : a.eval x = .slice ad n c) (hn : n = y.length) (hy : Bytes w ad y)
    (hl : l.length ≤ 1000000000) (h2 : n ≤ 1000000000) (hbase : base ≤ w.heap.size)
    (h : ∀ v' w', ApR w w' base v v' (l ++ y) → wpList Tryz.prog ops Q rest (a.put o.dst v') w') : wpList Tryz.prog ops Q (o :: rest) a w := by
  refine wpList_plain hgd fun K hK => ?_
  by_cases h0 : n = 0
  · subst h0
    have hy0 : y = [] := List.eq_nil_of_length_eq_zero hn.symm
    subst hy0
    have hr := run_rw_zero w base o.type v l hown ad c
    unfold Oper.wp execOp
    simp only [ho, resolve, invoke, builtin, Sem.run_bind, Sem.run_pure, Result.andThen_ok, List.map_toArray, List.map_cons, List.map_nil, hs, hx, hr]
    exact hK _ _ (h v w ⟨by rw [List.append_nil]; exact hown, ⟨rfl, rfl, rfl, Nat.le_refl _, fun _ _ _ => rfl⟩, fun k hk => .inl hk⟩)
  · obtain ⟨x0, rfl⟩ : ∃ x0, ad = some x0 := by
      rcases hy with e | ⟨b, off, e, _⟩
      · exact absurd hn (by rw [e]; simpa using h0)
      · exact ⟨_, e⟩
    have hnews : ∀ j u, (bcs y)[j]? = some u → w.cell? (x0.add j) = some u := by
      intro j u hj
      rcases hy with rfl | ⟨b, off, e, _, hc⟩
      · simp [bcs] at hj
      · simp only [Option.some.injEq] at e
        subst e
        have hlt : j < y.length := by
          have := (List.getElem?_eq_some_iff.1 hj).1
          rw [bcs_length] at this
          exact this
        rw [Addr.add_lit, hc j hlt, ← bcs_get hlt]
        exact hj
    obtain ⟨v', w', hr, h3⟩ := run_rw_sl w base o.type v l hown hl x0 y n c hn (by omega) h2 hnews hbase
    unfold Oper.wp execOp
    simp only [ho, resolve, invoke, builtin, Sem.run_bind, Sem.run_pure, Result.andThen_ok, List.map_toArray, List.map_cons, List.map_nil, hs, hx, hr]
    exact hK _ _ (h v' w' h3)
end Go.Proofs.YtmodmeabjhaklabGreatDoor

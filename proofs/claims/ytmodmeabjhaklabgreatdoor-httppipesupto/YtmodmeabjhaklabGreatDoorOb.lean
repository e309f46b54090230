/-
  A row of bytes that is one's own, or one that a constant was laid as: both may be appended to.
-/
import Derived.Test.YtmodmeabjhaklabGreatDoorRunE
import Derived.Test.YtmodmeabjhaklabGreatDoorRunA
import Derived.Lib.AppendStr
namespace Go.Proofs.YtmodmeabjhaklabGreatDoor
open Go.RowKit

/-- A constant's row: it is full. -/
def Full (w : World) (base : Nat) (v : Value) (l : List UInt8) : Prop :=
  ∃ g fz, v = .slice (some ⟨g, 0, none⟩) l.length l.length ∧ base ≤ g ∧ w.heap[g]? = some (.cells (bcs l).toArray 5 fz)
def Ob (w : World) (base : Nat) (v : Value) (l : List UInt8) : Prop := Own w base v l ∨ Full w base v l
theorem Full.kept {w w' : World} {base : Nat} {v : Value} {l : List UInt8} {row : Option Nat} (h : Full w base v l) (hg : w.grownBy w' row) (hne : v.ownBlock ≠ row) : Full w' base v l := by
  obtain ⟨g, fz, rfl, hb, hh⟩ := h
  exact ⟨g, fz, rfl, hb, (hg.block g (blk_lt hh) hne).trans hh⟩
theorem Ob.alloc {w : World} {base : Nat} {v : Value} {l : List UInt8} (h : Ob w base v l) (o : Obj) : Ob (w.alloc o) base v l := by
  rcases h with h | ⟨g, fz, rfl, hb, hh⟩
  · exact .inl (World.ownsRow.alloc h o)
  · exact .inr ⟨g, fz, rfl, hb, (heap_alloc_old w o (blk_lt hh)).trans hh⟩
theorem Ob.below {w w' : World} {base B : Nat} {v : Value} {l : List UInt8} (h : Ob w base v l) (hb : Below B w w') (hB : w.heap.size ≤ B) : Ob w' base v l := by
  rcases h with h | ⟨g, fz, rfl, hg, hh⟩
  · exact .inl (own_md h (Md.ofBelow (F := fun _ => False) (hb.mono hB)) (fun _ _ h => h))
  · exact .inr ⟨g, fz, rfl, hg, (hb.block g (Nat.lt_of_lt_of_le (blk_lt hh) hB)).trans hh⟩
theorem Ob.slice {w : World} {base : Nat} {v : Value} {l : List UInt8} (h : Ob w base v l) : ∃ a cap, v = .slice a l.length cap := by
  rcases h with h | ⟨g, fz, rfl, _, _⟩
  · exact own_slice h
  · exact ⟨_, _, rfl⟩
theorem Ob.lt {w : World} {base : Nat} {v : Value} {l : List UInt8} (h : Ob w base v l) : ∀ k, v.ownBlock = some k → base ≤ k ∧ k < w.heap.size := by
  rcases h with h | ⟨g, fz, rfl, hb, hh⟩
  · exact World.ownsRow.lt h
  · intro k hk
    simp only [Value.ownBlock, Option.some.injEq] at hk
    subst hk
    exact ⟨hb, blk_lt hh⟩
theorem full_cells {w : World} {g : Nat} {l : List UInt8} {fz : Nat × Nat} (hh : w.heap[g]? = some (.cells (bcs l).toArray 5 fz)) : ∀ j u, (bcs l)[j]? = some u → w.cell? ((⟨g, 0, none⟩ : Addr).add j) = some u := by
  intro j u hu
  rw [Addr.add_lit, Nat.zero_add]
  rw [cell_of_row w g j _ 5 fz hh]
  simpa using hu
theorem ob_cells {w : World} {base : Nat} {v : Value} {l : List UInt8} {a : Option Addr} {n cap : Nat} (h : Ob w base v l) (hv : v = .slice a n cap) : Bytes w a l := by
  rcases h with h | ⟨g, fz, rfl, hb, hh⟩
  · obtain ⟨a', cap', e, hB⟩ := Own.bytes h
    rw [hv] at e
    simp only [Value.slice.injEq] at e
    rw [e.1]
    exact hB
  · simp only [Value.slice.injEq] at hv
    rw [← hv.1]
    refine .inr ⟨g, 0, rfl, blk_lt hh, fun j hj => ?_⟩
    rw [Nat.zero_add, cell_of_row w g j _ 5 fz hh]
    simpa using bcs_get hj
theorem run_ob_str (w : World) (base : Nat) (ty : TypeId) (v : Value) (l : List UInt8) (h : Ob w base v l) (hl : l.length ≤ 1000000000) (s : ByteArray) (hs : 0 < s.size) (hs2 : s.size ≤ 1000000000) (hbase : base ≤ w.heap.size) :
    ∃ v' w', (Builtin.append_ #[22, 9] ty #[v, .string s]).run Tryz.prog w = .ok v' w' ∧ Own w' base v' (l ++ s.data.toList) ∧ w.grownBy w' v.ownBlock := by
  obtain ⟨i0, hi, hz0, hz1, hz2⟩ := info_parts info5
  have hsl : s.data.toList.length = s.size := by simp
  have hsc : Lib.strCells s = bcs s.data.toList := by simp [Lib.strCells, bcs]
  rcases h with h | ⟨g, fz, rfl, hb, hh⟩
  · obtain ⟨v', w', hr, h2, h3, -⟩ := Lib.run_append_own_string (P := Tryz.prog) w base 22 9 ty 5 i0 Tryz.underlying22 Tryz.underlying9 hi hz0 hz1 hz2 v l.length (bcs l) h s (by unfold maxLen; omega) (by omega) hbase
    refine ⟨v', w', hr, ?_, h3⟩
    rw [hsc] at h2
    exact own_more hsl rfl h2
  · have hr := Lib.run_append_grow_string (P := Tryz.prog) w 22 9 ty 5 i0 (.int .u8 0) Tryz.underlying22 Tryz.underlying9 hi hz0 ⟨g, 0, none⟩ l.length l.length (bcs l) (by rw [hz1, bcs_length]; omega) (full_cells hh) s (by omega) (by omega) (by rw [hz2]; exact growslice_fits (by omega) (by omega))
    have hge := grownCap_ge w (l.length + s.size) l.length 5
    have hcm := grownCap_le_maxLen w (l.length + s.size) l.length 5 (by unfold maxLen; omega)
    refine ⟨_, _, hr, ?_, ⟨rfl, rfl, rfl, by simp, fun k hk _ => heap_alloc_old w.drew _ hk⟩⟩
    rw [Own, List.length_append, bcs_append, hsl, hsc]
    refine ⟨by simp [bcs_length], .inr ⟨w.heap.size, _, _, rfl, hbase, heap_alloc_new w.drew _, hge, hcm, ?_, ?_⟩⟩
    · have hz1 : (Value.int IntKind.u8 0).cells.size = 1 := rfl
      simp only [Array.size_append, List.size_toArray, size_zeroCells, hz1, bcs_length, hsl]
      omega
    · simp only [Array.toList_append, List.append_assoc]
      rw [← List.append_assoc]
      exact List.take_left' (by simp [bcs_length])
theorem run_ob_sl (w : World) (base : Nat) (ty : TypeId) (v : Value) (l : List UInt8) (h : Ob w base v l) (hl : l.length ≤ 1000000000) (ad : Addr) (x : List UInt8) (c : Nat) (hx : 0 < x.length) (hx2 : x.length ≤ 1000000000) (hnews : ∀ j u, (bcs x)[j]? = some u → w.cell? (ad.add j) = some u) (hbase : base ≤ w.heap.size) :
    ∃ v' w', (Builtin.append_ #[22, 22] ty #[v, .slice (some ad) x.length c]).run Tryz.prog w = .ok v' w' ∧ Own w' base v' (l ++ x) ∧ w.grownBy w' v.ownBlock := by
  obtain ⟨i0, hi, hz0, hz1, hz2⟩ := info_parts info5
  rcases h with h | ⟨g, fz, rfl, hb, hh⟩
  · obtain ⟨v', w', hr, h2, h3, -⟩ := run_append_own (P := Tryz.prog) w base 22 ty 5 i0 (.int .u8 0) 1 1 Tryz.underlying22 hi hz0 hz1 hz2 rfl (by decide) v l.length (bcs l) h ad x.length c (bcs x) (by rw [bcs_length]; omega) hnews (bcs_one x) (by unfold maxLen; omega) (by omega) hbase
    exact ⟨v', w', hr, own_more rfl rfl h2, h3⟩
  · have hr := run_append_grow (P := Tryz.prog) w 22 ty 5 i0 (.int .u8 0) Tryz.underlying22 hi hz0 ⟨g, 0, none⟩ l.length l.length (bcs l) (by rw [hz1, bcs_length]; omega) (full_cells hh) ad x.length c (bcs x) (by rw [bcs_length, hz1]; omega) hnews (by omega) (by omega) (by rw [hz2]; exact growslice_fits (by omega) (by omega))
    have hge := grownCap_ge w (l.length + x.length) l.length 5
    have hcm := grownCap_le_maxLen w (l.length + x.length) l.length 5 (by unfold maxLen; omega)
    refine ⟨_, _, hr, ?_, ⟨rfl, rfl, rfl, by simp, fun k hk _ => heap_alloc_old w.drew _ hk⟩⟩
    rw [Own, List.length_append, bcs_append]
    refine ⟨by simp [bcs_length], .inr ⟨w.heap.size, _, _, rfl, hbase, heap_alloc_new w.drew _, hge, hcm, ?_, ?_⟩⟩
    · have hz1 : (Value.int IntKind.u8 0).cells.size = 1 := rfl
      simp only [Array.size_append, List.size_toArray, size_zeroCells, hz1, bcs_length]
      omega
    · simp only [Array.toList_append, List.append_assoc]
      rw [← List.append_assoc]
      exact List.take_left' (by simp [bcs_length])
/-- The operations, for a walk. -/
theorem wpList_ob_str {w : World} {ops : Array Oper} {rest : List Oper} {o : Oper} {a : Act} {Q : Exit → Act → World → Prop} (hgd : o.guard = none) (sl x : Operand)
    (ho : o.op = .call { callee := .builtin .append, args := #[sl, x], argTypes := #[22, 9] })
    (base : Nat) (v : Value) (l : List UInt8) (hs : a.eval sl = v) (hown : Ob w base v l) (s : ByteArray) (hx : a.eval x = .string s)
    (hl : l.length ≤ 1000000000) (h0 : 0 < s.size) (h2 : s.size ≤ 1000000000) (hbase : base ≤ w.heap.size)
    (h : ∀ v' w', Own w' base v' (l ++ s.data.toList) → w.grownBy w' v.ownBlock → wpList Tryz.prog ops Q rest (a.put o.dst v') w') : wpList Tryz.prog ops Q (o :: rest) a w := by
  refine wpList_plain hgd fun K hK => ?_
  obtain ⟨v', w', hr, h3, h4⟩ := run_ob_str w base o.type v l hown hl s h0 h2 hbase
  unfold Oper.wp execOp
  simp only [ho, resolve, invoke, builtin, Sem.run_bind, Sem.run_pure, Result.andThen_ok, List.map_toArray, List.map_cons, List.map_nil, hs, hx, hr]
  exact hK _ _ (h v' w' h3 h4)
theorem wpList_ob_sl {w : World} {ops : Array Oper} {rest : List Oper} {o : Oper} {a : Act} {Q : Exit → Act → World → Prop} (hgd : o.guard = none) (sl x : Operand)
    (ho : o.op = .call { callee := .builtin .append, args := #[sl, x], argTypes := #[22, 22] })
    (base : Nat) (v : Value) (l : List UInt8) (hs : a.eval sl = v) (hown : Ob w base v l) (ad : Addr) (y : List UInt8) (c : Nat) (hx : a.eval x = .slice (some ad) y.length c)
    (hl : l.length ≤ 1000000000) (h0 : 0 < y.length) (h2 : y.length ≤ 1000000000) (hnews : ∀ j u, (bcs y)[j]? = some u → w.cell? (ad.add j) = some u) (hbase : base ≤ w.heap.size)
    (h : ∀ v' w', Own w' base v' (l ++ y) → w.grownBy w' v.ownBlock → wpList Tryz.prog ops Q rest (a.put o.dst v') w') : wpList Tryz.prog ops Q (o :: rest) a w := by
  refine wpList_plain hgd fun K hK => ?_
  obtain ⟨v', w', hr, h3, h4⟩ := run_ob_sl w base o.type v l hown hl ad y c h0 h2 hnews hbase
  unfold Oper.wp execOp
  simp only [ho, resolve, invoke, builtin, Sem.run_bind, Sem.run_pure, Result.andThen_ok, List.map_toArray, List.map_cons, List.map_nil, hs, hx, hr]
  exact hK _ _ (h v' w' h3 h4)
end Go.Proofs.YtmodmeabjhaklabGreatDoor

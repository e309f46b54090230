/-
  Appending to a row: where the new row lies, and that the old bytes are still read.
-/
import Derived.Test.YtmodmeabjhaklabGreatDoorOb
namespace Go.Proofs.YtmodmeabjhaklabGreatDoor
open Go.RowKit

/-- What an append leaves. -/
structure ApK (w w' : World) (base : Nat) (v v' : Value) (l m : List UInt8) : Prop where
  own : Own w' base v' m
  grown : w.grownBy w' v.ownBlock
  place : ∀ k, v'.ownBlock = some k → v.ownBlock = some k ∨ w.heap.size ≤ k
  old : ∀ a n c, v = .slice a n c → Bytes w' a l
theorem own_cap {w : World} {base : Nat} {v : Value} {l : List UInt8} (h : Own w base v l) : (v = .slice none 0 0 ∧ l = []) ∨ ∃ g cap cur, v = .slice (some ⟨g, 0, none⟩) l.length cap ∧ base ≤ g ∧ w.heap[g]? = some (.cells cur 5 (0, 0)) ∧ l.length ≤ cap ∧ cap ≤ maxLen ∧ cur.size = cap ∧ cur.toList.take l.length = bcs l := by
  obtain ⟨h1, h2⟩ := h
  rcases h2 with ⟨e, e2⟩ | ⟨g, cap, cur, e, hb, hg, hc, hm, hs, ht⟩
  · exact .inl ⟨e, List.eq_nil_of_length_eq_zero e2⟩
  · exact .inr ⟨g, cap, cur, e, hb, hg, hc, hm, by simpa using hs, by simpa using ht⟩
theorem bytes_keep {w w' : World} {a : Option Addr} {l : List UInt8} (h : Bytes w a l) (hb : ∀ k, k < w.heap.size → w'.heap[k]? = w.heap[k]?) (hs : w.heap.size ≤ w'.heap.size) : Bytes w' a l := by
  rcases h with h | ⟨b, off, e, hlt, hc⟩
  · exact .inl h
  · exact .inr ⟨b, off, e, Nat.lt_of_lt_of_le hlt hs, fun j hj => (World.cell?_of_block (hb b hlt)).trans (hc j hj)⟩
/-- The new row, where it is made. -/
theorem apk_grow {w : World} {base : Nat} {v : Value} {l x : List UInt8} {old : Nat} (h : Ob w base v l) (hl : l.length + x.length ≤ 2000000000) (hbase : base ≤ w.heap.size) :
    ApK w (w.drew.alloc (.cells ((bcs l).toArray ++ (bcs x).toArray ++ Builtin.zeroCells (Value.int .u8 0).cells (grownCap w (l.length + x.length) old 5 - (l.length + x.length))) 5)) base v (.slice (some ⟨w.heap.size, 0, none⟩) (l.length + x.length) (grownCap w (l.length + x.length) old 5)) l (l ++ x) := by
  have hge := grownCap_ge w (l.length + x.length) old 5
  have hcm := grownCap_le_maxLen w (l.length + x.length) old 5 (by unfold maxLen; omega)
  refine ⟨?_, ⟨rfl, rfl, rfl, by simp, fun k hk _ => heap_alloc_old w.drew _ hk⟩, ?_, ?_⟩
  · rw [Own, List.length_append, bcs_append]
    refine ⟨by simp [bcs_length], .inr ⟨w.heap.size, _, _, rfl, hbase, heap_alloc_new w.drew _, hge, hcm, ?_, ?_⟩⟩
    · have hz1 : (Value.int IntKind.u8 0).cells.size = 1 := rfl
      simp only [Array.size_append, List.size_toArray, size_zeroCells, hz1, bcs_length]
      omega
    · simp only [Array.toList_append, List.append_assoc]
      rw [← List.append_assoc]
      exact List.take_left' (by simp [bcs_length])
  · intro k hk
    simp only [Value.ownBlock, Option.some.injEq] at hk
    exact .inr (by omega)
  · intro a n c e
    exact bytes_keep (ob_cells h e) (fun k hk => heap_alloc_old w.drew _ hk) (by simp)
theorem apk_room {w : World} {base g cap : Nat} {cur : Array Value} {l x : List UInt8} (hb : base ≤ g) (hg : w.heap[g]? = some (.cells cur 5 (0, 0))) (hroom : l.length + x.length ≤ cap) (hcm : cap ≤ maxLen) (hcs : cur.size = cap) (ht : cur.toList.take l.length = bcs l) :
    ApK w (w.setRow g (cur.toList.take l.length ++ bcs x ++ cur.toList.drop (l.length + x.length)).toArray) base (.slice (some ⟨g, 0, none⟩) l.length cap) (.slice (some ⟨g, 0, none⟩) (l.length + x.length) cap) l (l ++ x) := by
  refine ⟨?_, ⟨rfl, rfl, rfl, by simp, fun k _ hk => setRow_other w g k _ (fun e => hk (by simp [Value.ownBlock, e]))⟩, fun k hk => .inl hk, ?_⟩
  · rw [Own, List.length_append, bcs_append]
    refine ⟨by simp [bcs_length], .inr ⟨g, cap, _, rfl, hb, setRow_heap w g cur _ 5 _ hg, hroom, hcm, ?_, ?_⟩⟩
    · simp only [List.size_toArray, List.length_append, List.length_take, List.length_drop, Array.length_toList, bcs_length]
      omega
    · rw [ht]
      exact List.take_left' (by simp [bcs_length])
  · intro a n c e
    simp only [Value.slice.injEq] at e
    rw [← e.1]
    have hh := setRow_heap w g cur (cur.toList.take l.length ++ bcs x ++ cur.toList.drop (l.length + x.length)).toArray 5 _ hg
    refine .inr ⟨g, 0, rfl, blk_lt hh, fun j hj => ?_⟩
    rw [Nat.zero_add, cell_of_row _ g j _ 5 _ hh, ht]
    rw [List.getElem?_toArray, List.append_assoc, List.getElem?_append_left (by rw [bcs_length]; exact hj)]
    exact bcs_get hj
theorem run_apk_str (w : World) (base : Nat) (ty : TypeId) (v : Value) (l : List UInt8) (h : Ob w base v l) (hl : l.length ≤ 1000000000) (s : ByteArray) (x : List UInt8) (hx : s.data.toList = x) (hs : 0 < s.size) (hs2 : s.size ≤ 1000000000) (hbase : base ≤ w.heap.size) :
    ∃ v' w', (Builtin.append_ #[22, 9] ty #[v, .string s]).run Tryz.prog w = .ok v' w' ∧ ApK w w' base v v' l (l ++ x) := by
  obtain ⟨i0, hi, hz0, hz1, hz2⟩ := info_parts info5
  have hsl : x.length = s.size := by rw [← hx]; simp
  have hsc : Lib.strCells s = bcs x := by rw [← hx]; simp [Lib.strCells, bcs]
  have hh := h
  rcases h with h | ⟨g, fz, rfl, hb, hg⟩
  · rcases own_cap h with ⟨rfl, rfl⟩ | ⟨g, cap, cur, rfl, hb, hg, hc, hm, hcs, ht⟩
    · have hr := run_append_nil_string (P := Tryz.prog) w 22 9 ty 5 i0 (.int .u8 0) Tryz.underlying22 Tryz.underlying9 hi hz0 s (by omega) (by omega) (by rw [hz2]; omega)
      have e1 : (s.data.map fun b => Value.int .u8 b.toNat) = (bcs x).toArray := by
        rw [← hsc]
        apply Array.ext'
        simp [Lib.strCells]
      rw [e1] at hr
      have hk := apk_grow (old := 0) (x := x) hh (by simp only [List.length_nil]; omega) hbase
      simp only [List.length_nil, Nat.zero_add, hsl] at hk
      refine ⟨_, _, hr, ?_⟩
      have e2 : (bcs []).toArray ++ (bcs x).toArray = (bcs x).toArray := by simp [bcs]
      rw [e2] at hk
      exact hk
    · by_cases hroom : l.length + s.size ≤ cap
      · have hr := Lib.run_append_room_string (P := Tryz.prog) w 22 9 ty 5 i0 Tryz.underlying22 Tryz.underlying9 hi hz1 g l.length cap cur hg s hroom (by omega)
        rw [hsc, ← hsl] at hr
        exact ⟨_, _, hr, apk_room hb hg (by omega) hm hcs ht⟩
      · have hr := Lib.run_append_grow_string (P := Tryz.prog) w 22 9 ty 5 i0 (.int .u8 0) Tryz.underlying22 Tryz.underlying9 hi hz0 ⟨g, 0, none⟩ l.length cap (bcs l) (by rw [hz1, bcs_length]; omega) (World.ownsRow.cells h (g := g) rfl) s (by omega) (by omega) (by rw [hz2]; exact growslice_fits (by omega) (by omega))
        rw [hsc, ← hsl] at hr
        exact ⟨_, _, hr, apk_grow hh (by omega) hbase⟩
  · have hr := Lib.run_append_grow_string (P := Tryz.prog) w 22 9 ty 5 i0 (.int .u8 0) Tryz.underlying22 Tryz.underlying9 hi hz0 ⟨g, 0, none⟩ l.length l.length (bcs l) (by rw [hz1, bcs_length]; omega) (full_cells hg) s (by omega) (by omega) (by rw [hz2]; exact growslice_fits (by omega) (by omega))
    rw [hsc, ← hsl] at hr
    exact ⟨_, _, hr, apk_grow hh (by omega) hbase⟩
theorem run_apk_sl (w : World) (base : Nat) (ty : TypeId) (v : Value) (l : List UInt8) (h : Ob w base v l) (hl : l.length ≤ 1000000000) (ad : Addr) (x : List UInt8) (n c : Nat) (hn : n = x.length) (hx : 0 < n) (hx2 : n ≤ 1000000000) (hnews : ∀ j u, (bcs x)[j]? = some u → w.cell? (ad.add j) = some u) (hbase : base ≤ w.heap.size) :
    ∃ v' w', (Builtin.append_ #[22, 22] ty #[v, .slice (some ad) n c]).run Tryz.prog w = .ok v' w' ∧ ApK w w' base v v' l (l ++ x) := by
  subst hn
  obtain ⟨i0, hi, hz0, hz1, hz2⟩ := info_parts info5
  have hh := h
  rcases h with h | ⟨g, fz, rfl, hb, hg⟩
  · rcases own_cap h with ⟨rfl, rfl⟩ | ⟨g, cap, cur, rfl, hb, hg, hc, hm, hcs, ht⟩
    · have hr := run_append_nil (P := Tryz.prog) w 22 ty 5 i0 (.int .u8 0) Tryz.underlying22 hi hz0 ad x.length c (bcs x) (by rw [bcs_length, hz1]; omega) hnews (by omega) (by omega) (by rw [hz2]; omega)
      have hk := apk_grow (old := 0) (x := x) hh (by simp only [List.length_nil]; omega) hbase
      simp only [List.length_nil, Nat.zero_add] at hk
      refine ⟨_, _, hr, ?_⟩
      have e2 : (bcs []).toArray ++ (bcs x).toArray = (bcs x).toArray := by simp [bcs]
      rw [e2] at hk
      exact hk
    · by_cases hroom : l.length + x.length ≤ cap
      · have hr := run_append_room (P := Tryz.prog) w 22 ty 5 i0 Tryz.underlying22 hi g l.length cap cur hg ad x.length c (bcs x) (by rw [bcs_length, hz1]; omega) hnews (bcs_one x) hroom (by rw [hz1, bcs_length]; omega)
        rw [hz1, Nat.mul_one, bcs_length] at hr
        exact ⟨_, _, hr, apk_room hb hg (by omega) hm hcs ht⟩
      · have hr := run_append_grow (P := Tryz.prog) w 22 ty 5 i0 (.int .u8 0) Tryz.underlying22 hi hz0 ⟨g, 0, none⟩ l.length cap (bcs l) (by rw [hz1, bcs_length]; omega) (World.ownsRow.cells h (g := g) rfl) ad x.length c (bcs x) (by rw [bcs_length, hz1]; omega) hnews (by omega) (by omega) (by rw [hz2]; exact growslice_fits (by omega) (by omega))
        exact ⟨_, _, hr, apk_grow hh (by omega) hbase⟩
  · have hr := run_append_grow (P := Tryz.prog) w 22 ty 5 i0 (.int .u8 0) Tryz.underlying22 hi hz0 ⟨g, 0, none⟩ l.length l.length (bcs l) (by rw [hz1, bcs_length]; omega) (full_cells hg) ad x.length c (bcs x) (by rw [bcs_length, hz1]; omega) hnews (by omega) (by omega) (by rw [hz2]; exact growslice_fits (by omega) (by omega))
    exact ⟨_, _, hr, apk_grow hh (by omega) hbase⟩
/-- The operations, for a walk. -/
theorem wpList_apk_str {w : World} {ops : Array Oper} {rest : List Oper} {o : Oper} {a : Act} {Q : Exit → Act → World → Prop} (hgd : o.guard = none) (sl x : Operand)
    (ho : o.op = .call { callee := .builtin .append, args := #[sl, x], argTypes := #[22, 9] })
    (base : Nat) (v : Value) (l : List UInt8) (hs : a.eval sl = v) (hown : Ob w base v l) (s : ByteArray) (hx : a.eval x = .string s) (y : List UInt8) (hy : s.data.toList = y)
    (hl : l.length ≤ 1000000000) (h0 : 0 < s.size) (h2 : s.size ≤ 1000000000) (hbase : base ≤ w.heap.size)
    (h : ∀ v' w', ApK w w' base v v' l (l ++ y) → wpList Tryz.prog ops Q rest (a.put o.dst v') w') : wpList Tryz.prog ops Q (o :: rest) a w := by
  refine wpList_plain hgd fun K hK => ?_
  obtain ⟨v', w', hr, h3⟩ := run_apk_str w base o.type v l hown hl s y hy h0 h2 hbase
  unfold Oper.wp execOp
  simp only [ho, resolve, invoke, builtin, Sem.run_bind, Sem.run_pure, Result.andThen_ok, List.map_toArray, List.map_cons, List.map_nil, hs, hx, hr]
  exact hK _ _ (h v' w' h3)
theorem wpList_apk_sl {w : World} {ops : Array Oper} {rest : List Oper} {o : Oper} {a : Act} {Q : Exit → Act → World → Prop} (hgd : o.guard = none) (sl x : Operand)
    (ho : o.op = .call { callee := .builtin .append, args := #[sl, x], argTypes := #[22, 22] })
    (base : Nat) (v : Value) (l : List UInt8) (hs : a.eval sl = v) (hown : Ob w base v l) (ad : Addr) (y : List UInt8) (n c : Nat) (hx : a.eval x = .slice (some ad) n c) (hn : n = y.length)
    (hl : l.length ≤ 1000000000) (h0 : 0 < n) (h2 : n ≤ 1000000000) (hnews : ∀ j u, (bcs y)[j]? = some u → w.cell? (ad.add j) = some u) (hbase : base ≤ w.heap.size)
    (h : ∀ v' w', ApK w w' base v v' l (l ++ y) → wpList Tryz.prog ops Q rest (a.put o.dst v') w') : wpList Tryz.prog ops Q (o :: rest) a w := by
  refine wpList_plain hgd fun K hK => ?_
  obtain ⟨v', w', hr, h3⟩ := run_apk_sl w base o.type v l hown hl ad y n c hn h0 h2 hnews hbase
  unfold Oper.wp execOp
  simp only [ho, resolve, invoke, builtin, Sem.run_bind, Sem.run_pure, Result.andThen_ok, List.map_toArray, List.map_cons, List.map_nil, hs, hx, hr]
  exact hK _ _ (h v' w' h3)
theorem step_apk_sl {w : World} {ops : Array Oper} {o : Oper} {a : Act} {K : Act → World → Prop} {Q : Exit → Act → World → Prop} {E : Prop} (hgd : o.guard = none) (sl x : Operand)
    (ho : o.op = .call { callee := .builtin .append, args := #[sl, x], argTypes := #[22, 22] })
    (base : Nat) (v : Value) (l : List UInt8) (hs : a.eval sl = v) (hown : Ob w base v l) (ad : Addr) (y : List UInt8) (n c : Nat) (hx : a.eval x = .slice (some ad) n c) (hn : n = y.length)
    (hl : l.length ≤ 1000000000) (h0 : 0 < n) (h2 : n ≤ 1000000000) (hnews : ∀ j u, (bcs y)[j]? = some u → w.cell? (ad.add j) = some u) (hbase : base ≤ w.heap.size)
    (h : ∀ v' w', ApK w w' base v v' l (l ++ y) → K (a.put o.dst v') w') :
    if Region.wanted o (yielded ops a.tmps) = true then Oper.wp Tryz.prog o a w K Q else E := by
  have hw : Region.wanted o (yielded ops a.tmps) = true := by simp [Region.wanted, hgd]
  rw [if_pos hw]
  obtain ⟨v', w', hr, h3⟩ := run_apk_sl w base o.type v l hown hl ad y n c hn h0 h2 hnews hbase
  unfold Oper.wp execOp
  simp only [ho, resolve, invoke, builtin, Sem.run_bind, Sem.run_pure, Result.andThen_ok, List.map_toArray, List.map_cons, List.map_nil, hs, hx, hr]
  exact h v' w' h3
end Go.Proofs.YtmodmeabjhaklabGreatDoor

/-
  slices.Grow and slices.Concat of bytes by their contracts.
-/
import Derived.Test.YtmodmeabjhaklaaGreatDoorRdB
import Derived.Laws.AppendOwnNone
import Derived.Lib.AppendZeros
namespace Go.Proofs.YtmodmeabjhaklaaGreatDoor
open Go.RowKit

theorem wpList_append_bytes {w : World} {ops : Array Oper} {rest : List Oper} {o : Oper} {a : Act} {Q : Exit → Act → World → Prop} (hgd : o.guard = none) (s x : Operand)
    (ho : o.op = .call { callee := .builtin .append, args := #[s, x], argTypes := #[22, 22] })
    (base : Nat) (v : Value) (l : List UInt8) (hs : a.eval s = v) (hown : Own w base v l)
    (xa : Option Addr) (m : List UInt8) (c : Nat) (hx : a.eval x = .slice xa m.length c) (hm : Bytes w xa m) (hc : xa = none → c = 0) (hbytes : l.length + m.length ≤ 2000000000) (hbase : base ≤ w.heap.size)
    (h : ∀ v' w', Own w' base v' (l ++ m) → w.grownBy w' v.ownBlock → wpList Tryz.prog ops Q rest (a.put o.dst v') w') : wpList Tryz.prog ops Q (o :: rest) a w := by
  obtain ⟨i0, hi, hz0, hz1, hz2⟩ := info_parts info5
  cases xa with
  | none =>
    obtain rfl : m = [] := by rcases hm with h | ⟨_, _, he, _⟩; exact h; simp at he
    obtain rfl := hc rfl
    refine wpList_append_own_none hgd s x 22 ho base 5 i0 1 Tryz.underlying22 hi v l.length (bcs l) hs hown hx ?_
    exact h v w (by rw [List.append_nil]; exact hown) (World.grownBy.refl _ _)
  | some ad =>
    refine wpList_append_own w hgd s x 22 ho base 5 i0 (.int .u8 0) 1 1 Tryz.underlying22 hi hz0 hz1 hz2 rfl (by decide) v l.length (bcs l) hs hown ad m.length c (bcs m) hx (by rw [bcs_length, Nat.mul_one]) ?_ (bcs_one m) (by unfold maxLen; omega) (by omega) hbase ?_
    · intro j u hj
      rcases hm with rfl | ⟨b, off, he, _, hcs⟩
      · simp [bcs] at hj
      · simp only [Option.some.injEq] at he
        subst he
        have hj' : j < m.length := by
          have := (List.getElem?_eq_some_iff.1 hj).1
          rwa [bcs_length] at this
        rw [Addr.add_lit, hcs j hj', ← hj, bcs_get hj']
    · intro v' w' ho' hg' _
      refine h v' w' ?_ hg'
      unfold Own
      rw [List.length_append, bcs_append]
      exact ho'

/-- 'append' by its run. -/
theorem wpList_append_run {P : Program} {w : World} {ops : Array Oper} {rest : List Oper} {o : Oper} {a : Act} {Q : Exit → Act → World → Prop} (hgd : o.guard = none) (s x : Operand) (t tn : TypeId)
    (ho : o.op = .call { callee := .builtin .append, args := #[s, x], argTypes := #[t, tn] }) (vs vx : Value) (hs : a.eval s = vs) (hx : a.eval x = vx) (v' : Value) (w' : World)
    (hr : ∀ ty, (Builtin.append_ #[t, tn] ty #[vs, vx]).run P w = .ok v' w') (h : wpList P ops Q rest (a.put o.dst v') w') : wpList P ops Q (o :: rest) a w := by
  refine wpList_plain hgd fun _ hK => ?_
  unfold Oper.wp execOp
  simp only [ho, resolve, invoke, builtin, Sem.run_bind, Sem.run_pure, Result.andThen_ok, List.map_toArray, List.map_cons, List.map_nil, hs, hx, hr]
  exact hK _ _ h
theorem zeroCells_size (n : Nat) : (Builtin.zeroCells (Value.int .u8 0).cells n).size = n := by simp [Builtin.zeroCells, Value.cells]

set_option maxHeartbeats 1000000 in
set_option maxRecDepth 20000 in
theorem grow_any (n : Nat) (w : World) (hn : n ≤ 1000000000) :
    Calls Tryz.prog 93 #[.slice none 0 0, .int .i64 (n : Int)] w fun e w' => ∃ v, e = .returned v ∧ Own w' w.heap.size v [] ∧ Below w.heap.size w w' := by
  obtain ⟨i0, hi, hz0, hz1, hz2⟩ := info_parts info5
  by_cases h0 : n = 0
  · subst h0
    go_enter Tryz.func93, Tryz.ntmps93
    go_wp2
    go_ret
    exact ⟨_, rfl, World.ownsRow_nil _ _ _ _, Below.refl _ _⟩
  · have hpos : (0 : Int) < (n : Int) := by omega
    have hrun : ∀ ty, (Builtin.append_ #[22, 3] ty #[.slice none 0 0, .int .i64 (n : Int)]).run Tryz.prog w = .ok (.slice (some ⟨w.heap.size, 0, none⟩) n (grownCap w n 0 5)) (w.drew.alloc (.cells (Builtin.zeroCells (Value.int .u8 0).cells n ++ Builtin.zeroCells (Value.int .u8 0).cells (grownCap w n 0 5 - n)) 5)) :=
      fun ty => Lib.run_append_nil_zeros w 22 3 ty 5 i0 (.int .u8 0) .i64 .i64 Tryz.underlying22 Tryz.underlying3 hi hz0 n (by omega) (by omega) (by omega) (by rw [hz2]; omega)
    have hG : n ≤ grownCap w n 0 5 := grownCap_ge w _ _ _
    have hG2 := grownCap_le_maxLen w n 0 5 (by unfold maxLen; omega)
    obtain ⟨c, hc⟩ : ∃ c, c = grownCap w n 0 5 := ⟨_, rfl⟩
    rw [← hc] at hrun hG hG2
    have hrow : (w.drew.alloc (.cells (Builtin.zeroCells (Value.int .u8 0).cells n ++ Builtin.zeroCells (Value.int .u8 0).cells (c - n)) 5)).ownsRow w.heap.size 5 1 (.slice (some ⟨w.heap.size, 0, none⟩) 0 c) 0 [] := by
      refine ⟨rfl, .inr ⟨w.heap.size, c, _, rfl, Nat.le_refl _, heap_alloc_new w.drew _, Nat.zero_le _, hG2, ?_, by simp⟩⟩
      rw [Array.size_append, zeroCells_size, zeroCells_size]
      omega
    have hbel : Below w.heap.size w (w.drew.alloc (.cells (Builtin.zeroCells (Value.int .u8 0).cells n ++ Builtin.zeroCells (Value.int .u8 0).cells (c - n)) 5)) := ((Below.refl _ w).drew).alloc (Nat.le_refl _) _
    obtain ⟨w1, hw1⟩ : ∃ w1, w1 = w.drew.alloc (.cells (Builtin.zeroCells (Value.int .u8 0).cells n ++ Builtin.zeroCells (Value.int .u8 0).cells (c - n)) 5) := ⟨_, rfl⟩
    rw [← hw1] at hrun hrow hbel
    have HR := (show Hid _ from hrun)
    have HX : Hid (w1.ownsRow w.heap.size 5 1 (.slice (some ⟨w.heap.size, 0, none⟩) 0 c) 0 [] ∧ Below w.heap.size w w1) := ⟨hrow, hbel⟩
    clear hc h0 hrun hrow hbel hw1
    go_enter Tryz.func93, Tryz.ntmps93
    go_wp2_with (at_builtin; refine wpList_append_run rfl (.tmp 20) (.tmp 21) 22 3 rfl (.slice none 0 0) (.int .i64 (n : Int)) rfl rfl (.slice (some ⟨w.heap.size, 0, none⟩) n c) w1 HR.out ?_)
    go_ret
    exact ⟨_, rfl, HX.out.1, HX.out.2⟩

/-- A row of such slices. -/
def Rws (w : World) (b : Nat) (xs : List Sl) : Prop :=
  b < w.heap.size ∧ ∀ j (h : j < xs.length), w.cell? ⟨b, j, none⟩ = some xs[j].v ∧ Bytes w xs[j].a xs[j].l ∧ (xs[j].a = none → xs[j].c = 0)
def cat (xs : List Sl) : List UInt8 := xs.flatMap (·.l)
theorem cat_take {xs : List Sl} {k : Nat} (h : k < xs.length) : cat (xs.take (k + 1)) = cat (xs.take k) ++ xs[k].l := by
  rw [List.take_succ_eq_append_getElem h, cat, cat, List.flatMap_append]
  simp
theorem cat_len (xs : List Sl) (k : Nat) : (cat (xs.take k)).length ≤ (cat xs).length := by
  have e : cat xs = cat (xs.take k) ++ cat (xs.drop k) := by rw [cat, cat, cat, ← List.flatMap_append, List.take_append_drop]
  rw [e, List.length_append]
  omega

set_option maxHeartbeats 2000000 in
set_option maxRecDepth 20000 in
theorem concat_any (b : Nat) (xs : List Sl) (cap : Nat) (w : World) (hx : Rws w b xs) (hn : xs.length ≤ 1000000000) (ht : (cat xs).length ≤ 1000000000) :
    Calls Tryz.prog 70 #[.slice (some ⟨b, 0, none⟩) xs.length cap] w fun e w' => ∃ v, e = .returned v ∧ Own w' w.heap.size v (cat xs) ∧ Below w.heap.size w w' := by
  have hgr := grow_any (cat xs).length w (by omega)
  have HG := (show Hid _ from hgr)
  have HX : Hid (Rws w b xs) := hx
  clear hgr hx
  go_enter Tryz.func70, Tryz.ntmps70
  go_wp2
  go_loop [3, 11] (fun n i => ∃ k : Nat, k ≤ xs.length ∧ i = .int .i64 k ∧ n = .int .i64 ((cat (xs.take k)).length : Int)) (fun _ i => xs.length - (intOf i).toNat)
  case atStart => exact ⟨0, Nat.zero_le _, rfl, rfl⟩
  case round =>
    obtain ⟨k, hk, rfl, rfl⟩ := hrel
    have hle := cat_len xs k
    by_cases hlt : k < xs.length
    · have hc := (HX.out.2 k hlt).1
      have hs := cat_take hlt
      have hle2 := cat_len xs (k + 1)
      rw [hs, List.length_append] at hle2
      obtain ⟨s, hse⟩ : ∃ s, s = xs[k] := ⟨_, rfl⟩
      rw [← hse, Sl.v] at hc
      rw [← hse] at hs hle2
      have hki : (k : Int) < (xs.length : Int) := by omega
      have HS : Hid (cat (xs.take (k + 1)) = cat (xs.take k) ++ s.l) := hs
      obtain ⟨n0, hn0⟩ : ∃ n0, n0 = (cat (xs.take k)).length := ⟨_, rfl⟩
      rw [← hn0] at hle hle2 ⊢
      have HN0 : Hid (n0 = (cat (xs.take k)).length) := hn0
      have hneg : ¬ ((n0 : Int) + (s.l.length : Int) < 0) := by omega
      clear hs hse hn0
      go_wp2
      go_round
      case rel => exact ⟨k + 1, by omega, by go_num, by rw [HS.out, List.length_append, ← HN0.out]; go_num⟩
      case measure => simp [intOf]; omega
    · obtain rfl : k = xs.length := by omega
      rw [List.take_length]
      clear hle hlt hk
      go_wp2_with fail
      refine Calls.mono HG.out ?_
      rintro e w1 ⟨v1, rfl, ho1, hb1⟩
      have HO1 : Hid (Own w1 w.heap.size v1 [] ∧ Below w.heap.size w w1) := ⟨ho1, hb1⟩
      clear ho1 hb1
      go_wp2
      go_loopw [6, 27] (fun v i wr => ∃ k : Nat, k ≤ xs.length ∧ i = .int .i64 k ∧ Own wr w.heap.size v (cat (xs.take k)) ∧ Below w.heap.size w wr) (fun _ i _ => xs.length - (intOf i).toNat)
      case atStart => exact ⟨0, Nat.zero_le _, rfl, HO1.out.1, HO1.out.2⟩
      case round =>
        obtain ⟨k, hk, rfl, hown, hnx⟩ := hrel
        clear HO1
        have hle := cat_len xs k
        by_cases hlt : k < xs.length
        · obtain ⟨hc, hby, hno⟩ := HX.out.2 k hlt
          have hs := cat_take hlt
          have hle2 := cat_len xs (k + 1)
          rw [hs, List.length_append] at hle2
          have hcr := (hnx.cell (p := ⟨b, k, none⟩) HX.out.1).trans hc
          obtain ⟨s, hse⟩ : ∃ s, s = xs[k] := ⟨_, rfl⟩
          rw [← hse, Sl.v] at hcr
          rw [← hse] at hs hle2 hby hno
          have hbr : Bytes wr s.a s.l := hby.below hnx (Nat.le_refl _)
          have hki : (k : Int) < (xs.length : Int) := by omega
          have HS : Hid (cat (xs.take (k + 1)) = cat (xs.take k) ++ s.l) := hs
          have hsz := hnx.size
          have HOB : Hid (∀ j, u6.ownBlock = some j → w.heap.size ≤ j) := fun j hj => (hown.lt j hj).1
          clear hs hse hc
          go_wp2_with (at_builtin; refine wpList_append_bytes rfl (.tmp 31) (.tmp 32) rfl w.heap.size _ (cat (xs.take k)) rfl hown s.a s.l s.c rfl hbr hno (by omega) hsz ?_; intro v2 w2 ho2 hg2)
          go_roundw
          case rel => exact ⟨k + 1, by omega, by go_num, by rw [HS.out]; exact ho2, hnx.grown hg2 hsz HOB.out⟩
          case measure => simp [intOf]; omega
        · obtain rfl : k = xs.length := by omega
          rw [List.take_length] at hown
          go_wp2
          go_ret
          exact ⟨_, rfl, hown, hnx⟩
set_option maxHeartbeats 2000000 in
set_option maxRecDepth 20000 in
theorem concat_nil (w : World) :
    Calls Tryz.prog 70 #[.slice none 0 0] w fun e w' => ∃ v, e = .returned v ∧ Own w' w.heap.size v [] ∧ Below w.heap.size w w' := by
  have HG := (show Hid _ from grow_any 0 w (by omega))
  go_enter Tryz.func70, Tryz.ntmps70
  go_wp2
  go_loop [3, 11] (fun n i => i = .int .i64 0 ∧ n = .int .i64 0) (fun _ _ => 0)
  case atStart => exact ⟨rfl, rfl⟩
  case round =>
    obtain ⟨rfl, rfl⟩ := hrel
    go_wp2_with fail
    refine Calls.mono HG.out ?_
    rintro e w1 ⟨v1, rfl, ho1, hb1⟩
    have HO1 : Hid (Own w1 w.heap.size v1 [] ∧ Below w.heap.size w w1) := ⟨ho1, hb1⟩
    clear ho1 hb1
    go_wp2
    go_loop [6, 27] (fun v i => v = v1 ∧ i = .int .i64 0) (fun _ _ => 0)
    case atStart => exact ⟨rfl, rfl⟩
    case round =>
      obtain ⟨rfl, rfl⟩ := hrel
      go_wp2
      go_ret
      exact ⟨_, rfl, HO1.out.1, HO1.out.2⟩
/-- A row of slices of one's own, put together. -/
theorem concat_own {w : World} {base : Nat} {pv : Value} {xs : List Sl} (h : w.ownsRow base 22 1 pv xs.length (xs.map Sl.v)) (hb : ∀ x ∈ xs, Bytes w x.a x.l ∧ (x.a = none → x.c = 0)) (hn : xs.length ≤ 1000000000) (ht : (cat xs).length ≤ 1000000000) :
    Calls Tryz.prog 70 #[pv] w fun e w' => ∃ v, e = .returned v ∧ Own w' w.heap.size v (cat xs) ∧ Below w.heap.size w w' := by
  have h0 := h
  obtain ⟨_, ⟨rfl, h2⟩ | ⟨g, cap, cur, rfl, hg, hh, _⟩⟩ := h
  · obtain rfl : xs = [] := List.length_eq_zero_iff.1 h2
    exact concat_nil w
  · refine concat_any g xs cap w ⟨blk_lt hh, fun j hj => ⟨?_, hb _ (List.getElem_mem hj)⟩⟩ hn ht
    have := h0.cellAt j (by omega)
    rw [this, List.getElem?_map, List.getElem?_eq_getElem hj]
    rfl
theorem cat_pcs (xs : List Sl) : cat xs = (xs.map (·.l)).flatten := by
  rw [cat, List.flatMap_def]
end Go.Proofs.YtmodmeabjhaklaaGreatDoor

/-
  What the loop of the document's Encode keeps.
-/
import Derived.Test.YtgpjjlkkfddjnaaDoorReA
namespace Go.Proofs.YtgpjjlkkfddjnaaDoor
open Go.RowKit

/-- What the loop of the document's Encode keeps: the box of who signs, and the body so far. -/
structure ErI (w wr : World) (N : Nat) (x : Wh) (ka : Option Addr) (kc : Nat) (body : List UInt8) (bv : Value) : Prop where
  who : wr.heap[N]? = some (.cells #[.string ⟨x.id.toArray⟩, .string ⟨x.date.toArray⟩, .string ⟨x.scope.toArray⟩, .string ⟨x.sig.toArray⟩, .slice ka x.key.length kc, .string ⟨x.pay.toArray⟩] 30 (0, 0))
  own : Own wr w.heap.size bv body
  bl : Below w.heap.size w wr
theorem ErI.ne {w wr : World} {N : Nat} {x : Wh} {ka : Option Addr} {kc : Nat} {body : List UInt8} {bv : Value} (h : ErI w wr N x ka kc body bv) : ∀ j, bv.ownBlock = some j → j ≠ N ∧ w.heap.size ≤ j :=
  fun j hj => ⟨own_ne h.own h.who (by decide) j hj, (World.ownsRow.lt h.own j hj).1⟩
theorem ErI.keep {w wr W : World} {N : Nat} {x : Wh} {ka : Option Addr} {kc : Nat} {body : List UInt8} {bv : Value} (h : ErI w wr N x ka kc body bv) (hb : Below wr.heap.size wr W) : ErI w W N x ka kc body bv :=
  ⟨(hb.block N (blk_lt h.who)).trans h.who, own_md h.own (Md.ofBelow (F := fun _ => False) hb) (fun _ _ h => h), h.bl.trans (hb.mono h.bl.size)⟩
theorem ErI.add {w wr W : World} {N : Nat} {x : Wh} {ka : Option Addr} {kc : Nat} {body body' : List UInt8} {bv bv' : Value} (h : ErI w wr N x ka kc body bv) (ho : Own W w.heap.size bv' body') (hg : wr.grownBy W bv.ownBlock) : ErI w W N x ka kc body' bv' :=
  ⟨keep_blk h.who (Md.ofGrown hg) (fun e => (h.ne N e).1 rfl), ho, h.bl.grown hg h.bl.size (fun k hk => (h.ne k hk).2)⟩
/-- The append of a text to the body, for a walk. -/
theorem wpList_rbody_str {w wr : World} {N : Nat} {x : Wh} {ka : Option Addr} {kc : Nat} {body : List UInt8} {bv : Value} (hI : ErI w wr N x ka kc body bv) {ops : Array Oper} {rest : List Oper} {o : Oper} {a : Act} {Q : Exit → Act → World → Prop} (hgd : o.guard = none) (sl xo : Operand)
    (ho : o.op = .call { callee := .builtin .append, args := #[sl, xo], argTypes := #[22, 9] }) (hs : a.eval sl = bv) (s : ByteArray) (y : List UInt8) (hx : a.eval xo = .string s) (hy : s.data.toList = y) (hl : body.length + y.length ≤ 100000000000)
    (h : ∀ v' w', ErI w w' N x ka kc (body ++ y) v' → wr.grownBy w' bv.ownBlock → wpList Tryd.prog ops Q rest (a.put o.dst v') w') : wpList Tryd.prog ops Q (o :: rest) a wr := by
  obtain ⟨i0, hi, hz0, hz1, hz2⟩ := info_parts info5
  have e : s.size = y.length := by rw [← hy]; simp
  refine Lib.wpList_append_own_string wr hgd sl xo 22 9 ho w.heap.size 5 i0 Tryd.underlying22 Tryd.underlying9 hi hz0 hz1 hz2 bv body.length (bcs body) hs hI.own s hx (by unfold maxLen; omega) (by omega) hI.bl.size ?_
  intro v' w' h1 h2 _
  refine h v' w' (hI.add ?_ h2) h2
  rw [Own, List.length_append, bcs_append, ← e]
  have e2 : Lib.strCells s = bcs y := by rw [← hy]; simp [Lib.strCells, bcs]
  rw [← e2]
  exact h1
/-- The append of a piece. -/
theorem wpList_rbody_sl {w wr : World} {N : Nat} {x : Wh} {ka : Option Addr} {kc : Nat} {body : List UInt8} {bv : Value} (hI : ErI w wr N x ka kc body bv) {ops : Array Oper} {rest : List Oper} {o : Oper} {a : Act} {Q : Exit → Act → World → Prop} (hgd : o.guard = none) (sl xo : Operand)
    (ho : o.op = .call { callee := .builtin .append, args := #[sl, xo], argTypes := #[22, 22] }) (hs : a.eval sl = bv) (ad : Option Addr) (y : List UInt8) (c : Nat) (hx : a.eval xo = .slice ad y.length c) (hy : Bytes wr ad y) (hyc : y.length ≤ c) (hn : ad = none → c = 0) (hl : body.length + y.length ≤ 100000000000)
    (h : ∀ v' w', ErI w w' N x ka kc (body ++ y) v' → wr.grownBy w' bv.ownBlock → wpList Tryd.prog ops Q rest (a.put o.dst v') w') : wpList Tryd.prog ops Q (o :: rest) a wr := by
  obtain ⟨i0, hi, hz0, hz1, hz2⟩ := info_parts info5
  cases ad with
  | none =>
    obtain rfl : c = 0 := hn rfl
    obtain rfl : y = [] := List.eq_nil_of_length_eq_zero (by omega)
    refine wpList_append_own_none hgd sl xo 22 ho w.heap.size 5 i0 1 Tryd.underlying22 hi bv body.length (bcs body) hs hI.own hx ?_
    exact h bv wr (by rw [List.append_nil]; exact hI) ⟨rfl, rfl, rfl, Nat.le_refl _, fun _ _ _ => rfl⟩
  | some x0 =>
    have hnews : ∀ j u, (bcs y)[j]? = some u → wr.cell? (x0.add j) = some u := by
      intro j u hj
      rcases hy with rfl | ⟨b, off, e, _, hc⟩
      · simp [bcs] at hj
      · simp only [Option.some.injEq] at e
        subst e
        exact bytes_news hc j u hj
    refine wpList_append_own wr hgd sl xo 22 ho w.heap.size 5 i0 _ 1 1 Tryd.underlying22 hi hz0 hz1 hz2 rfl (by omega) bv body.length (bcs body) hs hI.own x0 y.length c (bcs y) hx (by rw [bcs_length]; omega) hnews (bcs_one _) (by unfold maxLen; omega) (by omega) hI.bl.size ?_
    intro v' w' h1 h2 _
    refine h v' w' (hI.add ?_ h2) h2
    rw [Own, List.length_append, bcs_append]
    exact h1
end Go.Proofs.YtgpjjlkkfddjnaaDoor

/-
  chunk.Encode: data is cut and signed.
-/
import Derived.Test.YtgpjjlkkfddjnaaDoorCtA
import Derived.Test.YtgpjjlkkfddjnaaDoorFmB
namespace Go.Proofs.YtgpjjlkkfddjnaaDoor
open Go.RowKit

/-- A chunk's text. -/
def chkT (sig p : List UInt8) : List UInt8 := hxN p.length ++ sigT ++ sig ++ crT ++ p ++ crT
def encF (key date scope : List UInt8) : List UInt8 → List (List UInt8) → List UInt8
  | _, [] => []
  | last, p :: ps => chkT (sgL key date scope last p) p ++ encF key date scope (sgL key date scope last p) ps
def encL (x : Wh) (data : List UInt8) (zs : List Int) : List UInt8 := encF x.key x.date x.scope x.sig (cutL data zs)
/-- The signature of the last of some chunks. -/
def lastF (key date scope : List UInt8) : List UInt8 → List (List UInt8) → List UInt8
  | last, [] => last
  | last, p :: ps => lastF key date scope (sgL key date scope last p) ps
theorem encF_snoc {key date scope : List UInt8} {p : List UInt8} : ∀ (ps : List (List UInt8)) (last : List UInt8), encF key date scope last (ps ++ [p]) = encF key date scope last ps ++ chkT (sgL key date scope (lastF key date scope last ps) p) p
  | [], last => by simp [encF, lastF]
  | q :: ps, last => by simp [encF, lastF, encF_snoc ps, List.append_assoc]
theorem lastF_snoc {key date scope : List UInt8} {p : List UInt8} : ∀ (ps : List (List UInt8)) (last : List UInt8), lastF key date scope last (ps ++ [p]) = sgL key date scope (lastF key date scope last ps) p
  | [], last => by simp [lastF]
  | q :: ps, last => by simp [lastF, lastF_snoc ps]
theorem sgL_len (key date scope last data : List UInt8) : (sgL key date scope last data).length = 64 := by
  rw [sgL, hexL_length]
  rfl
theorem hxF_len : ∀ (k n : Nat), (hxF k n).length ≤ k
  | 0, n => by simp [hxF]
  | k + 1, n => by
    rw [hxF]
    split
    · simp
    · rw [List.length_append]
      have := hxF_len k (n / 16)
      simp only [List.length_cons, List.length_nil]
      omega
theorem chkT_len (sig p : List UInt8) : (chkT sig p).length ≤ sig.length + p.length + 100 := by
  have := hxF_len 64 p.length
  simp only [chkT, hxN, List.length_append, sigT, crT, List.length_cons, List.length_nil]
  omega
theorem lastF_len {key date scope : List UInt8} : ∀ (ps : List (List UInt8)) (last : List UInt8), last.length ≤ 1000000000 → (lastF key date scope last ps).length ≤ 1000000000
  | [], last, h => h
  | q :: ps, last, h => lastF_len ps _ (by rw [sgL_len]; omega)
/-- What Encode's loop keeps: the box of who signs, and the body so far. -/
structure EcI (w wr : World) (N : Nat) (x : Wh) (ka : Option Addr) (kc : Nat) (body : List UInt8) (bv : Value) : Prop where
  who : wr.heap[N]? = some (.cells #[.string ⟨x.id.toArray⟩, .string ⟨x.date.toArray⟩, .string ⟨x.scope.toArray⟩, .string ⟨x.sig.toArray⟩, .slice ka x.key.length kc, .string ⟨x.pay.toArray⟩] 24 (0, 0))
  own : Own wr w.heap.size bv body
  bl : Below w.heap.size w wr
theorem EcI.ne {w wr : World} {N : Nat} {x : Wh} {ka : Option Addr} {kc : Nat} {body : List UInt8} {bv : Value} (h : EcI w wr N x ka kc body bv) : ∀ j, bv.ownBlock = some j → j ≠ N ∧ w.heap.size ≤ j :=
  fun j hj => ⟨own_ne h.own h.who (by decide) j hj, (World.ownsRow.lt h.own j hj).1⟩
theorem EcI.keep {w wr W : World} {N : Nat} {x : Wh} {ka : Option Addr} {kc : Nat} {body : List UInt8} {bv : Value} (h : EcI w wr N x ka kc body bv) (hb : Below wr.heap.size wr W) : EcI w W N x ka kc body bv :=
  ⟨(hb.block N (blk_lt h.who)).trans h.who, own_md h.own (Md.ofBelow (F := fun _ => False) hb) (fun _ _ h => h), h.bl.trans (hb.mono h.bl.size)⟩
theorem EcI.add {w wr W : World} {N : Nat} {x : Wh} {ka : Option Addr} {kc : Nat} {body body' : List UInt8} {bv bv' : Value} (h : EcI w wr N x ka kc body bv) (ho : Own W w.heap.size bv' body') (hg : wr.grownBy W bv.ownBlock) : EcI w W N x ka kc body' bv' :=
  ⟨keep_blk h.who (Md.ofGrown hg) (fun e => (h.ne N e).1 rfl), ho, h.bl.grown hg h.bl.size (fun k hk => (h.ne k hk).2)⟩
/-- The append of a text to the body, for a walk. -/
theorem wpList_body_str {w wr : World} {N : Nat} {x : Wh} {ka : Option Addr} {kc : Nat} {body : List UInt8} {bv : Value} (hI : EcI w wr N x ka kc body bv) {ops : Array Oper} {rest : List Oper} {o : Oper} {a : Act} {Q : Exit → Act → World → Prop} (hgd : o.guard = none) (sl xo : Operand)
    (ho : o.op = .call { callee := .builtin .append, args := #[sl, xo], argTypes := #[22, 9] }) (hs : a.eval sl = bv) (s : ByteArray) (y : List UInt8) (hx : a.eval xo = .string s) (hy : s.data.toList = y) (hl : body.length + y.length ≤ 100000000000)
    (h : ∀ v' w', EcI w w' N x ka kc (body ++ y) v' → wr.grownBy w' bv.ownBlock → wpList Tryd.prog ops Q rest (a.put o.dst v') w') : wpList Tryd.prog ops Q (o :: rest) a wr := by
  obtain ⟨i0, hi, hz0, hz1, hz2⟩ := info_parts info5
  have e : s.size = y.length := by rw [← hy]; simp
  refine Lib.wpList_append_own_string wr hgd sl xo 22 9 ho w.heap.size 5 i0 Tryd.underlying22 Tryd.underlying9 hi hz0 hz1 hz2 bv body.length (bcs body) hs hI.own s hx (by unfold maxLen; omega) (by omega) hI.bl.size ?_
  intro v' w' h1 h2 _
  refine h v' w' (hI.add ?_ h2) h2
  rw [Own, List.length_append, bcs_append, ← e]
  have e2 : Lib.strCells s = bcs y := by rw [← hy]; simp [Lib.strCells, bcs]
  rw [← e2]
  exact h1
/-- The append of a piece. -/
theorem wpList_body_sl {w wr : World} {N : Nat} {x : Wh} {ka : Option Addr} {kc : Nat} {body : List UInt8} {bv : Value} (hI : EcI w wr N x ka kc body bv) {ops : Array Oper} {rest : List Oper} {o : Oper} {a : Act} {Q : Exit → Act → World → Prop} (hgd : o.guard = none) (sl xo : Operand)
    (ho : o.op = .call { callee := .builtin .append, args := #[sl, xo], argTypes := #[22, 22] }) (hs : a.eval sl = bv) (ad : Option Addr) (y : List UInt8) (c : Nat) (hx : a.eval xo = .slice ad y.length c) (hy : Bytes wr ad y) (hyc : y.length ≤ c) (hn : ad = none → c = 0) (hl : body.length + y.length ≤ 100000000000)
    (h : ∀ v' w', EcI w w' N x ka kc (body ++ y) v' → wr.grownBy w' bv.ownBlock → wpList Tryd.prog ops Q rest (a.put o.dst v') w') : wpList Tryd.prog ops Q (o :: rest) a wr := by
  obtain ⟨i0, hi, hz0, hz1, hz2⟩ := info_parts info5
  cases ad with
  | none =>
    obtain rfl : c = 0 := hn rfl
    obtain rfl : y = [] := List.eq_nil_of_length_eq_zero (by omega)
    refine wpList_append_own_none hgd sl xo 22 ho w.heap.size 5 i0 1 Tryd.underlying22 hi bv body.length (bcs body) hs hI.own hx ?_
    exact h bv wr (by rw [List.append_nil]; exact hI) ⟨rfl, rfl, rfl, Nat.le_refl _, fun _ _ _ => rfl⟩
  | some x0 =>
    have hnews : ∀ j u, (bcs y)[j]? = some u → wr.cell? (x0.add j) = some u := by
      intro j u hj
      rcases hy with rfl | ⟨b, off, e, _, hc⟩
      · simp [bcs] at hj
      · simp only [Option.some.injEq] at e
        subst e
        exact bytes_news hc j u hj
    refine wpList_append_own wr hgd sl xo 22 ho w.heap.size 5 i0 _ 1 1 Tryd.underlying22 hi hz0 hz1 hz2 rfl (by omega) bv body.length (bcs body) hs hI.own x0 y.length c (bcs y) hx (by rw [bcs_length]; omega) hnews (bcs_one _) (by unfold maxLen; omega) (by omega) hI.bl.size ?_
    intro v' w' h1 h2 _
    refine h v' w' (hI.add ?_ h2) h2
    rw [Own, List.length_append, bcs_append]
    exact h1
end Go.Proofs.YtgpjjlkkfddjnaaDoor

/-
  (*Stream).Write by its contract.
-/
import Derived.Test.YtnmffehmjgknkaaGreatDoorHash
import Derived.Deep.RegionHeld3
namespace Go.Proofs.YtnmffehmjgknkaaGreatDoor
open Go.RowKit

theorem bcs_take (r : List UInt8) (n : Nat) : bcs (r.take n) = (bcs r).take n := by simp [bcs, List.map_take]
/-- 'copy' into a block that is known whole, as a step of a region that draws. -/
theorem step_copy_in {ops : Array Oper} {o : Oper} {ac : Act} {w : World} {K : Act → World → Prop} {Q : Exit → Act → World → Prop} {E : Prop} (hgd : o.guard = none) (d s : Operand)
    (ho : o.op = .call { callee := .builtin .copy, args := #[d, s], argTypes := #[23, 23] }) (g off dLen dCap : Nat) (hd : ac.eval d = .slice (some ⟨g, off, none⟩) dLen dCap)
    (a : Option Addr) (r : List UInt8) (sLen cap : Nat) (hsl : r.length = sLen) (hs : ac.eval s = .slice a sLen cap) (hb : Bytes w a r) (cur : List Value) (t : TypeId) (hg : w.heap[g]? = some (.cells cur.toArray t (0, 0))) (hfit : off + (r.take dLen).length ≤ cur.length)
    (h : ∀ w', Hid (w'.heap[g]? = some (.cells (splice cur off (bcs (r.take dLen))).toArray t (0, 0))) → w.grownBy w' (some g) → K (ac.put o.dst (goInt (r.take dLen).length)) w') :
    if Region.wanted o (yielded ops ac.tmps) = true then Oper.wp Tryz.prog o ac w K Q else E := by
  subst hsl
  have hw : Region.wanted o (yielded ops ac.tmps) = true := by simp [Region.wanted, hgd]
  rw [if_pos hw]
  have hn : (bcs (r.take dLen)).length = Nat.min r.length dLen := by rw [bcs_length, List.length_take]; exact Nat.min_comm _ _
  by_cases h0 : (bcs (r.take dLen)).length = 0
  · have hrun := run_copy_none (P := Tryz.prog) w 23 23 o.type 5 (some ⟨g, off, none⟩) a dLen dCap r.length cap Tryz.underlying23 size5 (by rw [← hn]; exact h0)
    have e0 : (r.take dLen).length = 0 := by rw [bcs_length] at h0; exact h0
    have e1 : r.take dLen = [] := List.eq_nil_of_length_eq_zero e0
    unfold Oper.wp
    simp only [execOp, ho, resolve, invoke, builtin]
    have := h w (show _ = _ by rw [e1]; simpa [splice, bcs] using hg) (grown_refl _ _)
    rw [e1] at this
    simp [hd, hs, hrun, Result.andThen]
    exact this
  · have hl : 0 < r.length := by rw [bcs_length, List.length_take] at h0; omega
    obtain ⟨ad, rfl, hsrc⟩ := bytes_src hb hl
    have hsrc' : ∀ j v, (bcs (r.take dLen))[j]? = some v → w.cell? (ad.add j) = some v := by
      intro j v hv
      refine hsrc j v ?_
      rw [bcs_take, List.getElem?_take] at hv
      split at hv
      · exact hv
      · simp at hv
    have hrun := run_copy_row (P := Tryz.prog) w 23 23 o.type 5 g off dLen dCap ad r.length cap cur.toArray t (bcs (r.take dLen)) Tryz.underlying23 size5 hg hn hsrc' (by rw [bcs_length]; simpa using hfit) (bcs_one _)
    unfold Oper.wp
    have := h (w.setRow g (splice cur off (bcs (r.take dLen))).toArray) (setRow_heap w g _ _ t _ hg) ⟨rfl, rfl, rfl, by simp, fun k hk hne => setRow_other w g k _ (by intro e; subst e; exact hne rfl)⟩
    rw [← bcs_length (r.take dLen)] at this
    simp [execOp, ho, resolve, invoke, builtin, hd, hs, hrun, Result.andThen]
    exact this
theorem wpList_copy_in {ops : Array Oper} {rs : List Oper} {o : Oper} {ac : Act} {w : World} {Q : Exit → Act → World → Prop} (hgd : o.guard = none) (d s : Operand)
    (ho : o.op = .call { callee := .builtin .copy, args := #[d, s], argTypes := #[23, 23] }) (g off dLen dCap : Nat) (hd : ac.eval d = .slice (some ⟨g, off, none⟩) dLen dCap)
    (a : Option Addr) (r : List UInt8) (sLen cap : Nat) (hsl : r.length = sLen) (hs : ac.eval s = .slice a sLen cap) (hb : Bytes w a r) (cur : List Value) (t : TypeId) (hg : w.heap[g]? = some (.cells cur.toArray t (0, 0))) (hfit : off + (r.take dLen).length ≤ cur.length)
    (h : ∀ w', Hid (w'.heap[g]? = some (.cells (splice cur off (bcs (r.take dLen))).toArray t (0, 0))) → w.grownBy w' (some g) → wpList Tryz.prog ops Q rs (ac.put o.dst (goInt (r.take dLen).length)) w') :
    wpList Tryz.prog ops Q (o :: rs) ac w := by
  refine wpList_plain hgd fun K hK => ?_
  have := step_copy_in (ops := ops) (K := K) (Q := Q) (E := False) hgd d s ho g off dLen dCap hd a r sLen cap hsl hs hb cur t hg hfit (fun w' h1 h2 => hK _ _ (h w' h1 h2))
  have hw : Region.wanted o (yielded ops ac.tmps) = true := by simp [Region.wanted, hgd]
  rw [if_pos hw] at this
  exact this

/-- All but two blocks is as it was. -/
structure Kept2 (g k : Nat) (w w' : World) : Prop where
  os : w'.os = w.os
  tape : w'.tape = w.tape
  output : w'.output = w.output
  size : w.heap.size ≤ w'.heap.size
  block : ∀ i, i < w.heap.size → i ≠ g → i ≠ k → w'.heap[i]? = w.heap[i]?
theorem Kept2.trans {g k : Nat} {a b c : World} (h : Kept2 g k a b) (h' : Kept2 g k b c) : Kept2 g k a c :=
  ⟨h'.os.trans h.os, h'.tape.trans h.tape, h'.output.trans h.output, Nat.le_trans h.size h'.size, fun i hi h1 h2 => (h'.block i (Nat.lt_of_lt_of_le hi h.size) h1 h2).trans (h.block i hi h1 h2)⟩
theorem Kept2.of1 {g k : Nat} {a b : World} (h : a.grownBy b (some g)) : Kept2 g k a b := ⟨h.os, h.tape, h.output, h.size, fun i hi h1 _ => h.block i hi (by simpa using h1)⟩
theorem Kept2.of2 {g k : Nat} {a b : World} (h : a.grownBy b (some k)) : Kept2 g k a b := ⟨h.os, h.tape, h.output, h.size, fun i hi _ h2 => h.block i hi (by simpa using h2)⟩
theorem Kept2.below {g k B : Nat} {a b : World} (h : Kept2 g k a b) (hB : B ≤ a.heap.size) (hg : B ≤ g) (hk : B ≤ k) : Below B a b := ⟨h.os, h.tape, h.output, h.size, fun i hi => h.block i (by omega) (by omega) (by omega)⟩

theorem Bytes.same {w w' : World} {a : Option Addr} {l : List UInt8} (h : Bytes w a l) (e : w'.heap = w.heap) : Bytes w' a l := by
  rcases h with rfl | ⟨b, off, rfl, hb, hc⟩
  · exact .inl rfl
  · refine .inr ⟨b, off, rfl, by rw [e]; exact hb, fun j hj => ?_⟩
    rw [World.cell?_of_block (w := w) (by rw [e])]
    exact hc j hj
theorem eatN_app {σ : Type} (f : List UInt8 → σ → σ) : ∀ (n m : Nat) (l b : List UInt8) (s : σ), 64 * n ≤ l.length → eatN f (n + m) (l ++ b) s = eatN f m (l.drop (64 * n) ++ b) (eatN f n l s)
  | 0, m, l, b, s, _ => by simp [eatN]
  | n + 1, m, l, b, s, h => by
    rw [show n + 1 + m = (n + m) + 1 from by omega, eatN, eatN, List.drop_append_of_le_length (by omega), List.take_append_of_le_length (by omega), eatN_app f n m (l.drop 64) b _ (by rw [List.length_drop]; omega), List.drop_drop, show 64 + 64 * n = 64 * (n + 1) from by omega]
theorem eat_app {σ : Type} (f : List UInt8 → σ → σ) (l b : List UInt8) (s : σ) : eat f (l ++ b) s = eat f (rest l ++ b) (eat f l s) := by
  unfold eat
  rw [show (l ++ b).length / 64 = l.length / 64 + (rest l ++ b).length / 64 from by rw [List.length_append, List.length_append, rest_length]; omega, eatN_app f _ _ l b s (by omega), rest, Nat.mul_comm]
theorem rest_app (l b : List UInt8) : rest (l ++ b) = rest (rest l ++ b) := by
  have h1 : (l ++ b).length / 64 * 64 = l.length / 64 * 64 + (rest l ++ b).length / 64 * 64 := by rw [List.length_append, List.length_append, rest_length]; omega
  rw [rest, h1, ← List.drop_drop, List.drop_append_of_le_length (by omega)]
  rfl
theorem eat_short {σ : Type} (f : List UInt8 → σ → σ) (l : List UInt8) (s : σ) (h : l.length < 64) : eat f l s = s := by
  rw [eat, Nat.div_eq_of_lt h]; rfl
theorem rest_short (l : List UInt8) (h : l.length < 64) : rest l = l := by rw [rest, Nat.div_eq_of_lt h]; simp
theorem rest_full (l : List UInt8) (h : l.length = 64) : rest l = [] := by rw [rest, h]; exact List.drop_eq_nil_of_le (by omega)

def noughts (n : Nat) : List UInt8 := List.replicate n 0
end Go.Proofs.YtnmffehmjgknkaaGreatDoor

/-
  What TreePlays holds: a tree, the document's list, the trees and lists that were.
-/
import Derived.Test.YtpophalhmjchkaaTurn
namespace Go.Proofs.Ytpophalhmjchkaa
open Go.RowKit

structure PI (w wr : World) (b : Nat) (LT : List KV) (lv : Value) (LL : List KV) (ov wv : Value) (us vs : List Value) : Prop where
  tr : ∃ h t, Tr wr b h t ∧ toL h t = LT
  sl : ∃ a c, lv = .slice a LL.length c ∧ Sl wr 2 a LL.length c (pcs LL)
  ro : PRow wr w.heap.size 24 ov us.length us
  rw : PRow wr w.heap.size 27 wv vs.length vs
  co : ∀ i, i < vs.length → ∃ b' L' a' c', us[i]? = some (.pointer (some ⟨b', 0, none⟩)) ∧ vs[i]? = some (.slice a' L'.length c') ∧ (∃ h t, Tr wr b' h t ∧ toL h t = L') ∧ Sl wr 2 a' L'.length c' (pcs L') ∧ L'.length ≤ 200
  old : Below w.heap.size w wr
theorem PI.below {w wr w2 : World} {b : Nat} {LT LL : List KV} {lv ov wv : Value} {us vs : List Value} (h : PI w wr b LT lv LL ov wv us vs) (hb : Below wr.heap.size wr w2) : PI w w2 b LT lv LL ov wv us vs := by
  refine ⟨?_, ?_, h.ro.below hb, h.rw.below hb, fun i hi => ?_, h.old.trans (hb.mono h.old.size)⟩
  · obtain ⟨x, t, q1, q2⟩ := h.tr; exact ⟨x, t, q1.below hb, q2⟩
  · obtain ⟨a, c, q1, q2⟩ := h.sl; exact ⟨a, c, q1, q2.below hb⟩
  · obtain ⟨b', L', a', c', q1, q2, ⟨x, t, q3, q4⟩, q5, q6⟩ := h.co i hi
    exact ⟨b', L', a', c', q1, q2, ⟨x, t, q3.below hb, q4⟩, q5.below hb, q6⟩
theorem PI.parts {w wr w2 : World} {b : Nat} {LT LL : List KV} {lv ov wv : Value} {us vs : List Value} {row : Option Nat} {e : Nat} (h : PI w wr b LT lv LL ov wv us vs) (ht : Trn wr w2 row e) (h1 : 59 ≠ e) (h2 : 85 ≠ e) (h3 : 63 ≠ e) (hr : ∀ k, row = some k → w.heap.size ≤ k) :
    (∃ h t, Tr w2 b h t ∧ toL h t = LT) ∧ (∃ a c, lv = .slice a LL.length c ∧ Sl w2 2 a LL.length c (pcs LL)) ∧
    (∀ i, i < vs.length → ∃ b' L' a' c', us[i]? = some (.pointer (some ⟨b', 0, none⟩)) ∧ vs[i]? = some (.slice a' L'.length c') ∧ (∃ h t, Tr w2 b' h t ∧ toL h t = L') ∧ Sl w2 2 a' L'.length c' (pcs L') ∧ L'.length ≤ 200) ∧ Below w.heap.size w w2 := by
  refine ⟨?_, ?_, fun i hi => ?_, h.old.grown ht.g h.old.size hr⟩
  · obtain ⟨x, t, q1, q2⟩ := h.tr; exact ⟨x, t, q1.trn ht h1 h2 h3, q2⟩
  · obtain ⟨a, c, q1, q2⟩ := h.sl; exact ⟨a, c, q1, q2.trn (pcs_isT _) ht⟩
  · obtain ⟨b', L', a', c', q1, q2, ⟨x, t, q3, q4⟩, q5, q6⟩ := h.co i hi
    exact ⟨b', L', a', c', q1, q2, ⟨x, t, q3.trn ht h1 h2 h3, q4⟩, q5.trn (pcs_isT _) ht, q6⟩
theorem PRow.ge {w : World} {base e : Nat} {v : Value} {n : Nat} {xs : List Value} (h : PRow w base e v n xs) : ∀ k, v.ownBlock = some k → base ≤ k := fun k hk => by obtain ⟨_, _, h2, _⟩ := h.block hk; exact h2
theorem PI.snocO {w wr w2 : World} {b : Nat} {LT LL : List KV} {lv ov wv ov' : Value} {us vs : List Value} (h : PI w wr b LT lv LL ov wv us vs) (hp : PRow w2 w.heap.size 24 ov' (us.length + 1) (us ++ [.pointer (some ⟨b, 0, none⟩)])) (hg : wr.grownBy w2 ov.ownBlock) : PI w w2 b LT lv LL ov' wv (us ++ [.pointer (some ⟨b, 0, none⟩)]) vs := by
  obtain ⟨q1, q2, q3, q4⟩ := h.parts (h.ro.trn hg) (by decide) (by decide) (by decide) h.ro.ge
  refine ⟨q1, q2, by rw [List.length_append]; exact hp, h.rw.kept h.ro (by decide) hg, fun i hi => ?_, q4⟩
  obtain ⟨b', L', a', c', r1, r2⟩ := q3 i hi
  exact ⟨b', L', a', c', by rw [List.getElem?_append_left (List.getElem?_eq_some_iff.1 r1).1]; exact r1, r2⟩
theorem PI.snocW {w wr w2 : World} {b : Nat} {L : List KV} {lv ov wv wv' : Value} {us vs : List Value} (h : PI w wr b L lv L ov wv (us ++ [.pointer (some ⟨b, 0, none⟩)]) vs) (hl : us.length = vs.length) (hL : L.length ≤ 200) (hp : PRow w2 w.heap.size 27 wv' (vs.length + 1) (vs ++ [lv])) (hg : wr.grownBy w2 wv.ownBlock) : PI w w2 b L lv L ov wv' (us ++ [.pointer (some ⟨b, 0, none⟩)]) (vs ++ [lv]) := by
  obtain ⟨q1, q2, q3, q4⟩ := h.parts (h.rw.trn hg) (by decide) (by decide) (by decide) h.rw.ge
  refine ⟨q1, q2, h.ro.kept h.rw (by decide) hg, by rw [List.length_append]; exact hp, fun i hi => ?_, q4⟩
  by_cases hi2 : i < vs.length
  · obtain ⟨b', L', a', c', r1, r2, r3⟩ := q3 i hi2
    exact ⟨b', L', a', c', r1, by rw [List.getElem?_append_left hi2]; exact r2, r3⟩
  · obtain rfl : i = vs.length := by simp at hi; omega
    obtain ⟨a, c, e, r⟩ := q2
    refine ⟨b, L, a, c, ?_, ?_, q1, r, hL⟩
    · rw [← hl]; simp
    · rw [e]; simp
theorem PI.got {w wr w2 : World} {b b2 : Nat} {LT LL L2 : List KV} {lv ov wv : Value} {us vs : List Value} (h : PI w wr b LT lv LL ov wv us vs) (hg : Got wr w2 b2 L2) : PI w w2 b2 L2 lv LL ov wv us vs := by
  obtain ⟨x, t, q1, q2, q3⟩ := hg
  have h2 := h.below q3
  exact ⟨⟨x, t, q1, q2⟩, h2.sl, h2.ro, h2.rw, h2.co, h2.old⟩
theorem PI.list {w wr w2 : World} {b base : Nat} {LT LL L2 : List KV} {lv ov wv u : Value} {us vs : List Value} (h : PI w wr b LT lv LL ov wv us vs) (ho : w2.ownsRow base 50 2 u L2.length (pcs L2)) (hb : Below wr.heap.size wr w2) : PI w w2 b LT u L2 ov wv us vs := by
  have h2 := h.below hb
  obtain ⟨a, c, e, hs⟩ := Sl.own ho (pcs_one _)
  exact ⟨h2.tr, ⟨a, c, e, hs⟩, h2.ro, h2.rw, h2.co, h2.old⟩
/-- The change of a round, in its box. -/
def OB (w : World) (p : Nat) (x y : ByteArray) (d : Bool) : Prop := w.heap[p]? = some (.cells #[.string x, .string y, .bool d] 31 (0, 0))
theorem OB.below {w w2 : World} {p : Nat} {x y : ByteArray} {d : Bool} (h : OB w p x y d) (hb : Below w.heap.size w w2) : OB w2 p x y d := (hb.block p (Array.getElem?_eq_some_iff.1 h).1).trans h
theorem OB.trn {w w2 : World} {p : Nat} {x y : ByteArray} {d : Bool} {row : Option Nat} {e : Nat} (h : OB w p x y d) (ht : Trn w w2 row e) (he : 31 ≠ e) : OB w2 p x y d := ht.blk h he
theorem OB.cells {w : World} {p : Nat} {x y : ByteArray} {d : Bool} (h : OB w p x y d) : w.cell? ⟨p, 0, none⟩ = some (.string x) ∧ w.cell? ⟨p, 1, none⟩ = some (.string y) ∧ w.cell? ⟨p, 2, none⟩ = some (.bool d) := ⟨cell_blk h 0, cell_blk h 1, cell_blk h 2⟩

theorem info24 : (Try.prog.info? 24).map (fun i => (i.zero, i.size, i.bytes)) = some (some (.pointer none), 1, 8) := by kernel_rfl
theorem info27 : (Try.prog.info? 27).map (fun i => (i.zero, i.size, i.bytes)) = some (some (.slice none 0 0), 1, 24) := by kernel_rfl
/-- The list behind the first j changes. -/
def WL (ops : List OpT) (j : Nat) : List KV := (ops.take j).foldl (fun L o => withL o.1 o.2.1 o.2.2 L) []
theorem WL_succ {ops : List OpT} {j : Nat} (h : j < ops.length) : WL ops (j + 1) = withL ops[j].1 ops[j].2.1 ops[j].2.2 (WL ops j) := by
  rw [WL, List.take_succ_eq_append_getElem h, List.foldl_append]
  rfl
theorem withL_eq (k v : ByteArray) (d : Bool) (L : List KV) : withL k v d L = if d then delL k L else putL k v L := rfl
theorem WL_srt (ops : List OpT) : ∀ j, j ≤ ops.length → Srt (WL ops j)
  | 0, _ => List.Pairwise.nil
  | j + 1, h => by
    rw [WL_succ (by omega), withL_eq]
    split
    · exact delL_srt (WL_srt ops j (by omega))
    · exact putL_srt (WL_srt ops j (by omega))
theorem WL_len (ops : List OpT) : ∀ j, j ≤ ops.length → (WL ops j).length ≤ j
  | 0, _ => Nat.le_refl _
  | j + 1, h => by
    have := WL_len ops j (by omega)
    rw [WL_succ (by omega), withL_eq]
    split
    · rw [delL_len]; split <;> omega
    · rw [putL_len]; split <;> omega
/-- Texts that came in. -/
def Txs (w : World) (a : Option Addr) (l : List ByteArray) : Prop := l = [] ∨ ∃ b off, a = some ⟨b, off, none⟩ ∧ b < w.heap.size ∧ ∀ j (h : j < l.length), w.cell? ⟨b, off + j, none⟩ = some (.string l[j])
theorem Txs.at {w : World} {a : Option Addr} {l : List ByteArray} (h : Txs w a l) {j : Nat} (hj : j < l.length) : ∃ b off, a = some ⟨b, off, none⟩ ∧ ∀ w', Below w.heap.size w w' → w'.cell? ⟨b, off + j, none⟩ = some (.string l[j]) := by
  rcases h with rfl | ⟨b, off, rfl, hb, hc⟩
  · simp at hj
  · exact ⟨b, off, rfl, fun w' hw => (hw.cell (p := ⟨b, off + j, none⟩) hb).trans (hc j hj)⟩
end Go.Proofs.Ytpophalhmjchkaa

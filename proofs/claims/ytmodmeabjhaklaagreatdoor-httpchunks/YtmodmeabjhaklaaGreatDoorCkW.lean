/-
  HttpChunks: what the law's walk leans on.
-/
import Derived.Test.YtmodmeabjhaklaaGreatDoorCkM
import Derived.Test.YtmodmeabjhaklaaGreatDoorObK
import Derived.Test.YtmodmeabjhaklaaGreatDoorRunE
import Derived.Test.YtmodmeabjhaklaaGreatDoorLawLimits
import Derived.Deep.Cut
import Derived.Deep.CutRange
import Derived.Deep.RegionHeld3
import Derived.Deep.RegionLaw
namespace Go.Proofs.YtmodmeabjhaklaaGreatDoor
open Go.RowKit

/-- Slices of bytes that came in. -/
def Sls (w : World) (a : Option Addr) (X : List (List UInt8)) : Prop :=
  X = [] ∨ ∃ g off, a = some ⟨g, off, none⟩ ∧ ∀ i (h : i < X.length), ∃ ai ci, w.cell? ⟨g, off + i, none⟩ = some (.slice ai X[i].length ci) ∧ Bytes w ai X[i]
theorem bytes_news {w : World} {ad : Addr} {y : List UInt8} (h : Bytes w (some ad) y) : ∀ j u, (bcs y)[j]? = some u → w.cell? (ad.add j) = some u := by
  intro j u hj
  rcases h with rfl | ⟨b, off, e, _, hc⟩
  · simp [bcs] at hj
  · simp only [Option.some.injEq] at e
    subst e
    have hlt : j < y.length := by
      have := (List.getElem?_eq_some_iff.1 hj).1
      rw [bcs_length] at this
      exact this
    rw [Addr.add_lit, hc j hlt, ← bcs_get hlt]
    exact hj
theorem new_two (w : World) (c d : UInt8) (x y : Int) (h : x = (c.toNat : Int)) (h2 : y = (d.toNat : Int)) : ∀ j u, (bcs [c, d])[j]? = some u → (w.alloc (.cells #[.int .u8 x, .int .u8 y] 5)).cell? ((⟨w.heap.size, 0, none⟩ : Addr).add j) = some u := by
  subst h h2
  intro j u hj
  rw [Addr.add_lit, World.cell?_alloc_mark, Nat.zero_add, List.getElem?_toArray]
  exact hj
theorem new_three (w : World) (c d e : UInt8) (x y z : Int) (h : x = (c.toNat : Int)) (h2 : y = (d.toNat : Int)) (h3 : z = (e.toNat : Int)) : ∀ j u, (bcs [c, d, e])[j]? = some u → (w.alloc (.cells #[.int .u8 x, .int .u8 y, .int .u8 z] 5)).cell? ((⟨w.heap.size, 0, none⟩ : Addr).add j) = some u := by
  subst h h2 h3
  intro j u hj
  rw [Addr.add_lit, World.cell?_alloc_mark, Nat.zero_add, List.getElem?_toArray]
  exact hj
theorem sls_at {w : World} {a : Option Addr} {X : List (List UInt8)} (h : Sls w a X) {i : Nat} (hi : i < X.length) : ∃ g off ai ci, a = some ⟨g, off, none⟩ ∧ ∀ W, Below w.heap.size w W → W.cell? ⟨g, off + i, none⟩ = some (.slice ai X[i].length ci) ∧ Bytes W ai X[i] := by
  rcases h with rfl | ⟨g, off, rfl, h⟩
  · simp at hi
  · obtain ⟨ai, ci, h1, h2⟩ := h i hi
    refine ⟨g, off, ai, ci, rfl, fun W hW => ⟨?_, h2.below hW (Nat.le_refl _)⟩⟩
    exact (World.cell?_of_block (hW.block g (World.block_lt_of_cell? w _ h1))).trans h1
/-- The text that grows, the bytes that grow, and that they lie apart. -/
structure Gs (w wr : World) (L B : List UInt8) (sv av : Value) : Prop where
  s : Ob wr w.heap.size sv L
  a : Own wr w.heap.size av B
  apart : ∀ k, sv.ownBlock = some k → av.ownBlock ≠ some k
  below : Below w.heap.size w wr
theorem Ob.drew {w : World} {base : Nat} {v : Value} {l : List UInt8} (h : Ob w base v l) : Ob w.drew base v l := h
theorem own_below {w w' : World} {base : Nat} {v : Value} {l : List UInt8} (h : Own w base v l) (hb : Below w.heap.size w w') : Own w' base v l :=
  own_md h (Md.ofBelow (F := fun _ => False) hb) (fun _ _ h => h)
theorem Gs.step {w wr wr' w1 : World} {L B M : List UInt8} {sv sv' av : Value} (h : Gs w wr L B sv av) (hx : Below wr.heap.size wr wr') (k : ApK wr' w1 w.heap.size sv sv' L M) : Gs w w1 M B sv' av := by
  have ha := own_below h.a hx
  refine ⟨.inl k.own, World.ownsRow.kept ha k.grown ?_, ?_, (h.below.trans (hx.mono h.below.size)).grown k.grown (Nat.le_trans h.below.size hx.size) (fun b hb => (Ob.lt h.s b hb).1)⟩
  · cases hv : av.ownBlock with
    | none => exact .inl rfl
    | some b =>
      right
      intro e
      exact h.apart b e.symm hv
  · intro b hb hv
    rcases k.place b hb with h1 | h1
    · exact h.apart b h1 hv
    · have := (World.ownsRow.lt h.a b hv).2
      have := hx.size
      omega
theorem Gs.stepA {w wr wr' w1 : World} {L B M : List UInt8} {sv av av' : Value} (h : Gs w wr L B sv av) (hx : Below wr.heap.size wr wr') (k : ApK wr' w1 w.heap.size av av' B M) : Gs w w1 L M sv av' := by
  have hs := Ob.below h.s hx (Nat.le_refl _)
  have hne : ∀ b, sv.ownBlock = some b → some b ≠ av.ownBlock := fun b hb e => h.apart b hb e.symm
  refine ⟨?_, k.own, ?_, (h.below.trans (hx.mono h.below.size)).grown k.grown (Nat.le_trans h.below.size hx.size) (fun b hb => (World.ownsRow.lt h.a b hb).1)⟩
  · rcases hs with h1 | h1
    · refine .inl (World.ownsRow.kept h1 k.grown ?_)
      cases hv : sv.ownBlock with
      | none => exact .inl rfl
      | some b => exact .inr (hne b hv)
    · refine .inr (h1.kept k.grown ?_)
      obtain ⟨g, fz, rfl, _, _⟩ := h1
      exact hne g rfl
  · intro b hb hv
    rcases k.place b hv with h1 | h1
    · exact h.apart b hb h1
    · have := (Ob.lt h.s b hb).2
      have := hx.size
      omega
def Gr (w wr : World) (up : Bool) (X : List (List UInt8)) (i : Nat) (sv av : Value) : Prop := Gs w wr (ckHead ++ chT up X i) (chB X i) sv av
theorem Gr.skip {w wr : World} {up : Bool} {X : List (List UInt8)} {i : Nat} {sv av : Value} (h : Gr w wr up X i sv av) (hi : i < X.length) (hk : okP X[i] = false) : Gr w wr up X (i + 1) sv av := by
  have e : X.getD i [] = X[i] := by simp [hi]
  have e1 : chT up X (i + 1) = chT up X i := by rw [chT, e, chOne, hk]; simp
  have e2 : chB X (i + 1) = chB X i := by rw [chB, e, hk]; simp
  exact ⟨by rw [e1]; exact h.s, by rw [e2]; exact h.a, h.apart, h.below⟩
theorem next_eq {up : Bool} {X : List (List UInt8)} {i : Nat} {p : List UInt8} (hi : i < X.length) (hp : p = X[i]) (h0 : p.length ≠ 0) (h3 : p.length ≤ 300) : ckHead ++ chT up X (i + 1) = (ckHead ++ chT up X i) ++ chLine up i p.length ++ [13, 10] ++ p ++ [13, 10] ∧ chB X (i + 1) = chB X i ++ p := by
  have e : X.getD i [] = p := by rw [hp]; simp [hi]
  have ok : okP p = true := by simp [okP, h0, h3]
  rw [chT, chB, e, chOne, ok]
  simp
theorem getD_at {D : ByteArray} {up : Bool} (h : D.data.toList = digT up) {q : Nat} (hq : q < D.size) : (digT up).getD q 0 = D[q] := by
  rw [← h, List.getD_eq_getElem?_getD, List.getElem?_eq_getElem (by simpa using hq)]
  simp
  rfl
theorem ck_len (up : Bool) (X : List (List UInt8)) : ∀ i, (chT up X i).length ≤ 320 * i
  | 0 => by simp [chT]
  | i + 1 => by
    have := ck_len up X i
    rw [chT, List.length_append]
    unfold chOne
    split
    · next h =>
      simp only [okP, decide_eq_true_eq] at h
      have := (ch_line up i _ h.2).2.2
      simp only [List.length_append, List.length_cons, List.length_nil]
      omega
    · simp only [List.length_nil]; omega
theorem nine9 {W : World} {N : Nat} {v0 v1 v2 v3 v4 v5 v6 v7 v8 : Value} {t : TypeId} (h : W.heap[N]? = some (.cells #[v0, v1, v2, v3, v4, v5, v6, v7, v8] t)) :
    W.cell? ⟨N, 0, none⟩ = some v0 ∧ W.cell? ⟨N, 1, none⟩ = some v1 ∧ W.cell? ⟨N, 2, none⟩ = some v2 ∧ W.cell? ⟨N, 3, none⟩ = some v3 ∧ W.cell? ⟨N, 4, none⟩ = some v4 ∧ W.cell? ⟨N, 5, none⟩ = some v5 ∧ W.cell? ⟨N, 6, none⟩ = some v6 ∧ W.cell? ⟨N, 7, none⟩ = some v7 ∧ W.cell? ⟨N, 8, none⟩ = some v8 := by
  have e0 := cell_blk h 0
  have e1 := cell_blk h 1
  have e2 := cell_blk h 2
  have e3 := cell_blk h 3
  have e4 := cell_blk h 4
  have e5 := cell_blk h 5
  have e6 := cell_blk h 6
  have e7 := cell_blk h 7
  have e8 := cell_blk h 8
  simp at e0 e1 e2 e3 e4 e5 e6 e7 e8
  exact ⟨e0, e1, e2, e3, e4, e5, e6, e7, e8⟩
theorem ckT_no (up : Bool) (X : List (List UInt8)) (i : Nat) : (ckHead ++ chT up X i) ++ [48, 13, 10] = ckT up false X i := by simp [ckT, ckTail]
theorem ckT_yes (up : Bool) (X : List (List UInt8)) (i : Nat) : (ckHead ++ chT up X i) ++ [48, 13, 10] ++ [120, 45, 115, 117, 109, 58, 32, 49, 13, 10] = ckT up true X i := by simp [ckT, ckTail, pSum]
theorem ckT_len (up tr : Bool) (X : List (List UInt8)) {i : Nat} (hi : i ≤ 20) : (ckT up tr X i).length ≤ 7000 := by
  have h := ck_len up X i
  have hh : ckHead.length = 58 := by decide
  rw [ckT, List.length_append, List.length_append]
  cases tr <;> simp [ckTail, pSum] <;> omega
theorem parse_chunks (up tr : Bool) (X : List (List UInt8)) {i : Nat} (hi : i ≤ 20) {T : List UInt8} (hT : T = ckT up tr X i) : ∃ m t : List UInt8, parseL (T ++ [13, 10]) = .done (T.length + 2) m t ckHs (chB X i) false false := by
  subst hT
  exact ⟨_, _, chunks_done up tr X i hi⟩
end Go.Proofs.YtmodmeabjhaklaaGreatDoor

/-
  Blocks, what stays of them, bytes of a part of a slice.
-/
import Derived.Test.YtnmffehmjgknkaaGreatDoorRunA
import Derived.Laws.Rows
import Derived.Below
namespace Go.Proofs.YtnmffehmjgknkaaGreatDoor
open Go.RowKit

theorem cell_blk {w : World} {g : Nat} {c : Array Value} {t : TypeId} (h : w.heap[g]? = some (.cells c t (0, 0))) (j : Nat) : w.cell? ⟨g, j, none⟩ = c[j]? := by simp [World.cell?, h]
theorem frozen_blk {w : World} {g : Nat} {c : Array Value} {t : TypeId} (h : w.heap[g]? = some (.cells c t (0, 0))) (j : Nat) : w.frozen? ⟨g, j, none⟩ = false := by
  simp only [World.frozen?, h]
  rw [Bool.and_eq_false_iff]
  right
  exact decide_eq_false (by omega)
theorem set_blk {w : World} {g : Nat} {c : Array Value} {t : TypeId} (h : w.heap[g]? = some (.cells c t (0, 0))) (j : Nat) (u : Value) : (w.setCell ⟨g, j, none⟩ u).heap[g]? = some (.cells (c.setIfInBounds j u) t (0, 0)) := by
  simp only [World.setCell, Array.getElem?_modify]
  rw [if_pos trivial, h]
  simp
theorem set_lst {w : World} {g : Nat} {c : List Value} {t : TypeId} (h : w.heap[g]? = some (.cells c.toArray t (0, 0))) (j : Nat) (u : Value) : (w.setCell ⟨g, j, none⟩ u).heap[g]? = some (.cells (c.set j u).toArray t (0, 0)) := by
  rw [set_blk h]
  simp
theorem blk_lt {w : World} {g : Nat} {o : Obj} (h : w.heap[g]? = some o) : g < w.heap.size := (Array.getElem?_eq_some_iff.1 h).1
theorem own_slice {w : World} {base : Nat} {e : TypeId} {size : Nat} {v : Value} {n : Nat} {xs : List Value} (h : w.ownsRow base e size v n xs) : ∃ a c, v = .slice a n c := by
  obtain ⟨_, ⟨rfl, rfl⟩ | ⟨g, cap, cur, rfl, _⟩⟩ := h
  · exact ⟨_, _, rfl⟩
  · exact ⟨_, _, rfl⟩

/-- Of what was there only the blocks of F may have turned. -/
structure Md (F : Nat → Prop) (w w' : World) : Prop where
  os : w'.os = w.os
  tape : w'.tape = w.tape
  output : w'.output = w.output
  size : w.heap.size ≤ w'.heap.size
  block : ∀ b, b < w.heap.size → ¬ F b → w'.heap[b]? = w.heap[b]?
theorem Md.refl (F : Nat → Prop) (w : World) : Md F w w := ⟨rfl, rfl, rfl, Nat.le_refl _, fun _ _ _ => rfl⟩
theorem Md.trans {F : Nat → Prop} {w w1 w2 : World} (h : Md F w w1) (g : Md F w1 w2) : Md F w w2 :=
  ⟨g.os.trans h.os, g.tape.trans h.tape, g.output.trans h.output, Nat.le_trans h.size g.size, fun b hb h1 => (g.block b (Nat.lt_of_lt_of_le hb h.size) h1).trans (h.block b hb h1)⟩
theorem Md.below {F : Nat → Prop} {w w1 w2 : World} (h : Md F w w1) (hb : Below w1.heap.size w1 w2) : Md F w w2 :=
  h.trans ⟨hb.os, hb.tape, hb.output, hb.size, fun b hlt _ => hb.block b hlt⟩
theorem Md.ofBelow {F : Nat → Prop} {w w' : World} (hb : Below w.heap.size w w') : Md F w w' := (Md.refl F w).below hb
theorem Md.set {F : Nat → Prop} {w w1 : World} (h : Md F w w1) {p : Nat} (hp : F p ∨ w.heap.size ≤ p) (j : Nat) (v : Value) : Md F w (w1.setCell ⟨p, j, none⟩ v) :=
  ⟨h.os, h.tape, h.output, Nat.le_trans h.size (by simp [World.setCell]), fun b hb h1 => (Below.heap_setCell _ _ _ _ (by
    show b ≠ p
    rintro rfl
    rcases hp with hp | hp
    · exact h1 hp
    · omega)).trans (h.block b hb h1)⟩
theorem Md.setp {p : Nat} {w w1 : World} (h : Md (· = p) w w1) (j : Nat) (v : Value) : Md (· = p) w (w1.setCell ⟨p, j, none⟩ v) := h.set (.inl rfl) j v
theorem Md.drew {F : Nat → Prop} {w w1 : World} (h : Md F w w1) : Md F w w1.drew := ⟨h.os, h.tape, h.output, h.size, h.block⟩
theorem Md.alloc {F : Nat → Prop} {w w1 : World} (h : Md F w w1) (o : Obj) : Md F w (w1.alloc o) := h.below ((Below.refl _ _).alloc (Nat.le_refl _) o)
theorem Md.mono {F G : Nat → Prop} {w w1 : World} (h : Md F w w1) (hF : ∀ b, b < w.heap.size → F b → G b) : Md G w w1 :=
  ⟨h.os, h.tape, h.output, h.size, fun b hb hg => h.block b hb (fun hf => hg (hF b hb hf))⟩
theorem Md.then {F G : Nat → Prop} {w w1 w2 : World} (h : Md F w w1) (g : Md G w1 w2) (hG : ∀ b, b < w.heap.size → G b → F b) : Md F w w2 :=
  ⟨g.os.trans h.os, g.tape.trans h.tape, g.output.trans h.output, Nat.le_trans h.size g.size, fun b hb h1 => (g.block b (Nat.lt_of_lt_of_le hb h.size) (fun hg => h1 (hG b hb hg))).trans (h.block b hb h1)⟩
theorem Md.toBelow {F : Nat → Prop} {B : Nat} {w0 w w' : World} (hb : Below B w0 w) (h : Md F w w') (hF : ∀ b, b < B → ¬ F b) (hB : B ≤ w0.heap.size) : Below B w0 w' :=
  ⟨h.os.trans hb.os, h.tape.trans hb.tape, h.output.trans hb.output, Nat.le_trans hb.size h.size, fun b hlt => (h.block b (by have := hb.size; omega) (hF b hlt)).trans (hb.block b hlt)⟩
theorem Md.grown {F : Nat → Prop} {w w1 w2 : World} {row : Option Nat} (h : Md F w w1) (hg : w1.grownBy w2 row) (hr : ∀ k, row = some k → F k ∨ w.heap.size ≤ k) : Md F w w2 :=
  ⟨hg.os.trans h.os, hg.tape.trans h.tape, hg.output.trans h.output, Nat.le_trans h.size hg.size, fun b hb h1 => (hg.block b (Nat.lt_of_lt_of_le hb h.size) (fun e => by
    rcases hr b e.symm with h | h
    · exact h1 h
    · omega)).trans (h.block b hb h1)⟩
theorem keep_blk {F : Nat → Prop} {w w' : World} {g : Nat} {o : Obj} (h : w.heap[g]? = some o) (hm : Md F w w') (hF : ¬ F g) : w'.heap[g]? = some o := (hm.block g (blk_lt h) hF).trans h
theorem own_md {F : Nat → Prop} {w w' : World} {base : Nat} {e : TypeId} {size : Nat} {v : Value} {n : Nat} {xs : List Value} (h : w.ownsRow base e size v n xs) (hm : Md F w w') (hF : ∀ j, v.ownBlock = some j → ¬ F j) : w'.ownsRow base e size v n xs := by
  obtain ⟨h0, ⟨rfl, rfl⟩ | ⟨b, cap, cur, rfl, h1, hh, h2⟩⟩ := h
  · exact ⟨h0, .inl ⟨rfl, rfl⟩⟩
  · exact ⟨h0, .inr ⟨b, cap, cur, rfl, h1, (hm.block b (blk_lt hh) (hF b rfl)).trans hh, h2⟩⟩
theorem own_ne {w : World} {base : Nat} {e : TypeId} {size : Nat} {v : Value} {n : Nat} {xs : List Value} (h : w.ownsRow base e size v n xs) {g : Nat} {c : Array Value} {t : TypeId} {fz : Nat × Nat} (hg : w.heap[g]? = some (.cells c t fz)) (ht : t ≠ e) : ∀ j, v.ownBlock = some j → j ≠ g := by
  obtain ⟨_, ⟨rfl, rfl⟩ | ⟨b, cap, cur, rfl, _, hh, _⟩⟩ := h
  · intro j hj; cases hj
  · intro j hj
    simp only [Value.ownBlock, Option.some.injEq] at hj
    subst hj
    rintro rfl
    rw [hh] at hg
    simp only [Option.some.injEq, Obj.cells.injEq] at hg
    exact ht hg.2.1.symm
theorem own_own {w : World} {base base' : Nat} {e e' : TypeId} {size size' : Nat} {v v' : Value} {n n' : Nat} {xs xs' : List Value} (h : w.ownsRow base e size v n xs) (h' : w.ownsRow base' e' size' v' n' xs') (ht : e' ≠ e) : ∀ j, v.ownBlock = some j → v'.ownBlock ≠ some j := by
  intro j hj hj'
  obtain ⟨_, ⟨rfl, rfl⟩ | ⟨g, cap, cur, rfl, _, hh, _⟩⟩ := h'
  · cases hj'
  · simp only [Value.ownBlock, Option.some.injEq] at hj'
    exact own_ne h hh ht j hj hj'.symm
theorem Md.ofGrown {w1 w2 : World} {row : Option Nat} (hg : w1.grownBy w2 row) : Md (fun b => row = some b) w1 w2 :=
  ⟨hg.os, hg.tape, hg.output, hg.size, fun b hb h1 => hg.block b hb (fun e => h1 e.symm)⟩
theorem Bytes.md {F : Nat → Prop} {w w' : World} {a : Option Addr} {l : List UInt8} (h : Bytes w a l) (hm : Md F w w') (hF : ∀ b off, a = some ⟨b, off, none⟩ → ¬ F b) : Bytes w' a l := by
  rcases h with h | ⟨b, off, h1, h2, h3⟩
  · exact .inl h
  · refine .inr ⟨b, off, h1, Nat.lt_of_lt_of_le h2 hm.size, fun j hj => ?_⟩
    rw [World.cell?_of_block (w := w) (a := ⟨b, off + j, none⟩) (hm.block b h2 (hF b off h1))]
    exact h3 j hj
/-- What a slice from a place on is. -/
def fromA (a : Option Addr) (cap k : Nat) : Option Addr := if cap = k then a else a.map fun x => x.add k
theorem bytes_from {w : World} {a : Option Addr} {l : List UInt8} {cap k : Nat} (hB : Bytes w a l) (hcap : l.length ≤ cap) : Bytes w (fromA a cap k) (l.drop k) := by
  unfold fromA
  split
  · left
    exact List.drop_eq_nil_of_le (by omega)
  · rcases hB with rfl | ⟨b, off, rfl, hb, hc⟩
    · left; simp
    · refine .inr ⟨b, off + k, by simp [Addr.add_lit], hb, fun j hj => ?_⟩
      rw [List.length_drop] at hj
      rw [Nat.add_assoc, hc (k + j) (by omega)]
      simp
theorem bytes_take {w : World} {a : Option Addr} {l : List UInt8} (k : Nat) (hB : Bytes w a l) : Bytes w a (l.take k) := by
  rcases hB with rfl | ⟨b, off, rfl, hb, hc⟩
  · left; simp
  · refine .inr ⟨b, off, rfl, hb, fun j hj => ?_⟩
    rw [List.length_take] at hj
    rw [hc j (by omega)]
    simp
end Go.Proofs.YtnmffehmjgknkaaGreatDoor

/-
  The reader of a request in memory: its cells, the rows that it holds, and its two small ends (more, bad).
-/
import Derived.Test.YtmodmeabjhaklaaGreatDoorCore
import Derived.Laws.Rows
import Derived.Below
namespace Go.Proofs.YtmodmeabjhaklaaGreatDoor
open Go.RowKit

theorem cell_blk {w : World} {g : Nat} {c : Array Value} {t : TypeId} (h : w.heap[g]? = some (.cells c t (0, 0))) (j : Nat) : w.cell? ⟨g, j, none⟩ = c[j]? := by simp [World.cell?, h]
theorem frozen_blk {w : World} {g : Nat} {c : Array Value} {t : TypeId} (h : w.heap[g]? = some (.cells c t (0, 0))) (j : Nat) : w.frozen? ⟨g, j, none⟩ = false := by
  simp only [World.frozen?, h]
  rw [Bool.and_eq_false_iff]
  right
  exact decide_eq_false (by omega)
theorem set_blk {w : World} {g : Nat} {c : Array Value} {t : TypeId} (h : w.heap[g]? = some (.cells c t (0, 0))) (j : Nat) (u : Value) : (w.setCell ⟨g, j, none⟩ u).heap[g]? = some (.cells (c.setIfInBounds j u) t (0, 0)) := by
  simp only [World.setCell, Array.getElem?_modify]
  rw [if_pos trivial, h]
  simp
theorem set_lst {w : World} {g : Nat} {c : List Value} {t : TypeId} (h : w.heap[g]? = some (.cells c.toArray t (0, 0))) (j : Nat) (u : Value) : (w.setCell ⟨g, j, none⟩ u).heap[g]? = some (.cells (c.set j u).toArray t (0, 0)) := by
  rw [set_blk h]
  simp
theorem blk_lt {w : World} {g : Nat} {o : Obj} (h : w.heap[g]? = some o) : g < w.heap.size := (Array.getElem?_eq_some_iff.1 h).1
theorem own_slice {w : World} {base : Nat} {e : TypeId} {size : Nat} {v : Value} {n : Nat} {xs : List Value} (h : w.ownsRow base e size v n xs) : ∃ a c, v = .slice a n c := by
  obtain ⟨_, ⟨rfl, rfl⟩ | ⟨g, cap, cur, rfl, _⟩⟩ := h
  · exact ⟨_, _, rfl⟩
  · exact ⟨_, _, rfl⟩

/-- Of what was there only the blocks of F may have turned. -/
structure Md (F : Nat → Prop) (w w' : World) : Prop where
  os : w'.os = w.os
  tape : w'.tape = w.tape
  output : w'.output = w.output
  size : w.heap.size ≤ w'.heap.size
  block : ∀ b, b < w.heap.size → ¬ F b → w'.heap[b]? = w.heap[b]?
theorem Md.refl (F : Nat → Prop) (w : World) : Md F w w := ⟨rfl, rfl, rfl, Nat.le_refl _, fun _ _ _ => rfl⟩
theorem Md.trans {F : Nat → Prop} {w w1 w2 : World} (h : Md F w w1) (g : Md F w1 w2) : Md F w w2 :=
  ⟨g.os.trans h.os, g.tape.trans h.tape, g.output.trans h.output, Nat.le_trans h.size g.size, fun b hb h1 => (g.block b (Nat.lt_of_lt_of_le hb h.size) h1).trans (h.block b hb h1)⟩
theorem Md.below {F : Nat → Prop} {w w1 w2 : World} (h : Md F w w1) (hb : Below w1.heap.size w1 w2) : Md F w w2 :=
  h.trans ⟨hb.os, hb.tape, hb.output, hb.size, fun b hlt _ => hb.block b hlt⟩
theorem Md.ofBelow {F : Nat → Prop} {w w' : World} (hb : Below w.heap.size w w') : Md F w w' := (Md.refl F w).below hb
theorem Md.set {F : Nat → Prop} {w w1 : World} (h : Md F w w1) {p : Nat} (hp : F p ∨ w.heap.size ≤ p) (j : Nat) (v : Value) : Md F w (w1.setCell ⟨p, j, none⟩ v) :=
  ⟨h.os, h.tape, h.output, Nat.le_trans h.size (by simp [World.setCell]), fun b hb h1 => (Below.heap_setCell _ _ _ _ (by
    show b ≠ p
    rintro rfl
    rcases hp with hp | hp
    · exact h1 hp
    · omega)).trans (h.block b hb h1)⟩
theorem Md.setp {p : Nat} {w w1 : World} (h : Md (· = p) w w1) (j : Nat) (v : Value) : Md (· = p) w (w1.setCell ⟨p, j, none⟩ v) := h.set (.inl rfl) j v
theorem Md.drew {F : Nat → Prop} {w w1 : World} (h : Md F w w1) : Md F w w1.drew := ⟨h.os, h.tape, h.output, h.size, h.block⟩
theorem Md.alloc {F : Nat → Prop} {w w1 : World} (h : Md F w w1) (o : Obj) : Md F w (w1.alloc o) := h.below ((Below.refl _ _).alloc (Nat.le_refl _) o)
theorem Md.mono {F G : Nat → Prop} {w w1 : World} (h : Md F w w1) (hF : ∀ b, b < w.heap.size → F b → G b) : Md G w w1 :=
  ⟨h.os, h.tape, h.output, h.size, fun b hb hg => h.block b hb (fun hf => hg (hF b hb hf))⟩
theorem Md.then {F G : Nat → Prop} {w w1 w2 : World} (h : Md F w w1) (g : Md G w1 w2) (hG : ∀ b, b < w.heap.size → G b → F b) : Md F w w2 :=
  ⟨g.os.trans h.os, g.tape.trans h.tape, g.output.trans h.output, Nat.le_trans h.size g.size, fun b hb h1 => (g.block b (Nat.lt_of_lt_of_le hb h.size) (fun hg => h1 (hG b hb hg))).trans (h.block b hb h1)⟩
theorem Md.toBelow {F : Nat → Prop} {B : Nat} {w0 w w' : World} (hb : Below B w0 w) (h : Md F w w') (hF : ∀ b, b < B → ¬ F b) (hB : B ≤ w0.heap.size) : Below B w0 w' :=
  ⟨h.os.trans hb.os, h.tape.trans hb.tape, h.output.trans hb.output, Nat.le_trans hb.size h.size, fun b hlt => (h.block b (by have := hb.size; omega) (hF b hlt)).trans (hb.block b hlt)⟩
theorem Md.grown {F : Nat → Prop} {w w1 w2 : World} {row : Option Nat} (h : Md F w w1) (hg : w1.grownBy w2 row) (hr : ∀ k, row = some k → F k ∨ w.heap.size ≤ k) : Md F w w2 :=
  ⟨hg.os.trans h.os, hg.tape.trans h.tape, hg.output.trans h.output, Nat.le_trans h.size hg.size, fun b hb h1 => (hg.block b (Nat.lt_of_lt_of_le hb h.size) (fun e => by
    rcases hr b e.symm with h | h
    · exact h1 h
    · omega)).trans (h.block b hb h1)⟩
theorem keep_blk {F : Nat → Prop} {w w' : World} {g : Nat} {o : Obj} (h : w.heap[g]? = some o) (hm : Md F w w') (hF : ¬ F g) : w'.heap[g]? = some o := (hm.block g (blk_lt h) hF).trans h
theorem own_md {F : Nat → Prop} {w w' : World} {base : Nat} {e : TypeId} {size : Nat} {v : Value} {n : Nat} {xs : List Value} (h : w.ownsRow base e size v n xs) (hm : Md F w w') (hF : ∀ j, v.ownBlock = some j → ¬ F j) : w'.ownsRow base e size v n xs := by
  obtain ⟨h0, ⟨rfl, rfl⟩ | ⟨b, cap, cur, rfl, h1, hh, h2⟩⟩ := h
  · exact ⟨h0, .inl ⟨rfl, rfl⟩⟩
  · exact ⟨h0, .inr ⟨b, cap, cur, rfl, h1, (hm.block b (blk_lt hh) (hF b rfl)).trans hh, h2⟩⟩
theorem own_ne {w : World} {base : Nat} {e : TypeId} {size : Nat} {v : Value} {n : Nat} {xs : List Value} (h : w.ownsRow base e size v n xs) {g : Nat} {c : Array Value} {t : TypeId} {fz : Nat × Nat} (hg : w.heap[g]? = some (.cells c t fz)) (ht : t ≠ e) : ∀ j, v.ownBlock = some j → j ≠ g := by
  obtain ⟨_, ⟨rfl, rfl⟩ | ⟨b, cap, cur, rfl, _, hh, _⟩⟩ := h
  · intro j hj; cases hj
  · intro j hj
    simp only [Value.ownBlock, Option.some.injEq] at hj
    subst hj
    rintro rfl
    rw [hh] at hg
    simp only [Option.some.injEq, Obj.cells.injEq] at hg
    exact ht hg.2.1.symm
theorem own_own {w : World} {base base' : Nat} {e e' : TypeId} {size size' : Nat} {v v' : Value} {n n' : Nat} {xs xs' : List Value} (h : w.ownsRow base e size v n xs) (h' : w.ownsRow base' e' size' v' n' xs') (ht : e' ≠ e) : ∀ j, v.ownBlock = some j → v'.ownBlock ≠ some j := by
  intro j hj hj'
  obtain ⟨_, ⟨rfl, rfl⟩ | ⟨g, cap, cur, rfl, _, hh, _⟩⟩ := h'
  · cases hj'
  · simp only [Value.ownBlock, Option.some.injEq] at hj'
    exact own_ne h hh ht j hj hj'.symm

/-- What a Step holds. -/
structure Tl where
  kind : Int
  used : Int
  m : ByteArray
  t : ByteArray
  h : Value
  b : Value
  fault : Int
  cl : Bool
  co : Bool
def Tl.v (x : Tl) : Value := .agg #[.int .i64 x.kind, .int .i64 x.used, .string x.m, .string x.t, x.h, x.b, .int .i64 x.fault, .bool x.cl, .bool x.co]
def zeroT : Tl := ⟨0, 0, ⟨#[]⟩, ⟨#[]⟩, .slice none 0 0, .slice none 0 0, 0, false, false⟩
def moreT : Tl := ⟨1, 0, ⟨#[]⟩, ⟨#[]⟩, .slice none 0 0, .slice none 0 0, 0, false, false⟩
def badT (e : Int) : Tl := ⟨3, 0, ⟨#[]⟩, ⟨#[]⟩, .slice none 0 0, .slice none 0 0, e, true, false⟩
/-- What a reader holds. -/
structure Rs where
  bv : Value
  at_ : Nat
  told : Tl
  head : Nat
  fields : Nat
  m : ByteArray
  t : ByteArray
  hv : Value
  bo : Value
  size : Nat
  pv : Value
  sum : Nat
def Rs.c (r : Rs) : List Value := [r.bv, .int .i64 r.at_, .int .i64 r.told.kind, .int .i64 r.told.used, .string r.told.m, .string r.told.t, r.told.h, r.told.b, .int .i64 r.told.fault, .bool r.told.cl, .bool r.told.co, .int .i64 r.head, .int .i64 r.fields, .string r.m, .string r.t, r.hv, r.bo, .int .i64 r.size, r.pv, .int .i64 r.sum]
/-- A reader at p. -/
def Rb (w : World) (p : Nat) (r : Rs) : Prop := w.heap[p]? = some (.cells r.c.toArray 54 (0, 0))
theorem Rb.lt {w : World} {p : Nat} {r : Rs} (h : Rb w p r) : p < w.heap.size := blk_lt h
theorem Rb.fz {w : World} {p : Nat} {r : Rs} (h : Rb w p r) (j : Nat) : w.frozen? ⟨p, j, none⟩ = false := frozen_blk h j
theorem Rb.cell {w : World} {p : Nat} {r : Rs} (h : Rb w p r) (j : Nat) {v : Value} (hv : r.c[j]? = some v) : w.cell? ⟨p, j, none⟩ = some v := (cell_blk h j).trans (by rw [List.getElem?_toArray]; exact hv)
theorem Rb.keep {F : Nat → Prop} {w w' : World} {p : Nat} {r : Rs} (h : Rb w p r) (hm : Md F w w') (hF : ¬ F p) : Rb w' p r := keep_blk h hm hF
theorem Rb.below {w w' : World} {p : Nat} {r : Rs} (h : Rb w p r) (hb : Below w.heap.size w w') : Rb w' p r := (hb.block p h.lt).trans h
theorem Rb.of {w : World} {p : Nat} {r : Rs} {c : List Value} (h : w.heap[p]? = some (.cells c.toArray 54 (0, 0))) (e : c = r.c) : Rb w p r := by rw [Rb, ← e]; exact h

set_option maxHeartbeats 1000000 in
theorem more_any (p : Nat) (r : Rs) (w : World) (h : Rb w p r) :
    Calls Tryz.prog 48 #[.pointer (some ⟨p, 0, none⟩)] w fun e w' => e = .returned (.int .i64 7) ∧ Rb w' p { r with told := moreT } ∧ Md (· = p) w w' := by
  have c2 := h.cell 2 rfl; have c3 := h.cell 3 rfl; have c4 := h.cell 4 rfl; have c5 := h.cell 5 rfl; have c6 := h.cell 6 rfl; have c7 := h.cell 7 rfl; have c8 := h.cell 8 rfl; have c9 := h.cell 9 rfl; have c10 := h.cell 10 rfl
  have f2 := h.fz 2; have f3 := h.fz 3; have f4 := h.fz 4; have f5 := h.fz 5; have f6 := h.fz 6; have f7 := h.fz 7; have f8 := h.fz 8; have f9 := h.fz 9; have f10 := h.fz 10
  have H : Hid (Rb w p r) := h
  clear h
  go_enter Tryz.func48, Tryz.ntmps48
  go_wp2
  go_ret
  refine ⟨rfl, ?_, ?_⟩
  · refine Rb.of (set_lst (set_lst (set_lst (set_lst (set_lst (set_lst (set_lst (set_lst (set_lst H.out _ _) _ _) _ _) _ _) _ _) _ _) _ _) _ _) _ _) rfl
  · iterate 9 refine Md.setp ?_ _ _
    exact Md.refl _ _
set_option maxHeartbeats 1000000 in
theorem bad_any (p : Nat) (r : Rs) (x : Int) (w : World) (h : Rb w p r) :
    Calls Tryz.prog 43 #[.pointer (some ⟨p, 0, none⟩), .int .i64 x] w fun e w' => e = .returned (.int .i64 7) ∧ Rb w' p { r with told := badT x } ∧ Md (· = p) w w' := by
  have c2 := h.cell 2 rfl; have c3 := h.cell 3 rfl; have c4 := h.cell 4 rfl; have c5 := h.cell 5 rfl; have c6 := h.cell 6 rfl; have c7 := h.cell 7 rfl; have c8 := h.cell 8 rfl; have c9 := h.cell 9 rfl; have c10 := h.cell 10 rfl
  have f2 := h.fz 2; have f3 := h.fz 3; have f4 := h.fz 4; have f5 := h.fz 5; have f6 := h.fz 6; have f7 := h.fz 7; have f8 := h.fz 8; have f9 := h.fz 9; have f10 := h.fz 10
  have H : Hid (Rb w p r) := h
  clear h
  go_enter Tryz.func43, Tryz.ntmps43
  go_wp2
  go_ret
  refine ⟨rfl, ?_, ?_⟩
  · refine Rb.of (set_lst (set_lst (set_lst (set_lst (set_lst (set_lst (set_lst (set_lst (set_lst H.out _ _) _ _) _ _) _ _) _ _) _ _) _ _) _ _) _ _) rfl
  · iterate 9 refine Md.setp ?_ _ _
    exact Md.refl _ _
end Go.Proofs.YtmodmeabjhaklaaGreatDoor

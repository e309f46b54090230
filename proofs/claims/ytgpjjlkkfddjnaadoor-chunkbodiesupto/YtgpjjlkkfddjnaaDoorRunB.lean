/-
  Blocks, what stays of them, bytes of a part of a slice.
-/
import Derived.Test.YtgpjjlkkfddjnaaDoorRunA
import Derived.Laws.Rows
import Derived.Below
import Derived.BigQuiet
import Derived.Deep.RegionWith
import Derived.LoopN
import Derived.Shelf.Strconv.ToError
import Derived.Shelf.Strconv.ToErrorRange
import Derived.Shelf.Strconv.Lower
import Derived.Test.YtgpjjlkkfddjnaaDoorProg
import Derived.Lib.ConvBytes
import Derived.Deep.RegionHeld3
import Derived.Deep.Cut
import Derived.Lib.Strings
namespace Go.Proofs.YtgpjjlkkfddjnaaDoor
open Go.RowKit

theorem cell_blk {w : World} {g : Nat} {c : Array Value} {t : TypeId} (h : w.heap[g]? = some (.cells c t (0, 0))) (j : Nat) : w.cell? ⟨g, j, none⟩ = c[j]? := by simp [World.cell?, h]
theorem frozen_blk {w : World} {g : Nat} {c : Array Value} {t : TypeId} (h : w.heap[g]? = some (.cells c t (0, 0))) (j : Nat) : w.frozen? ⟨g, j, none⟩ = false := by
  simp only [World.frozen?, h]
  rw [Bool.and_eq_false_iff]
  right
  exact decide_eq_false (by omega)
theorem set_blk {w : World} {g : Nat} {c : Array Value} {t : TypeId} (h : w.heap[g]? = some (.cells c t (0, 0))) (j : Nat) (u : Value) : (w.setCell ⟨g, j, none⟩ u).heap[g]? = some (.cells (c.setIfInBounds j u) t (0, 0)) := by
  simp only [World.setCell, Array.getElem?_modify]
  rw [if_pos trivial, h]
  simp
theorem set_lst {w : World} {g : Nat} {c : List Value} {t : TypeId} (h : w.heap[g]? = some (.cells c.toArray t (0, 0))) (j : Nat) (u : Value) : (w.setCell ⟨g, j, none⟩ u).heap[g]? = some (.cells (c.set j u).toArray t (0, 0)) := by
  rw [set_blk h]
  simp
theorem blk_lt {w : World} {g : Nat} {o : Obj} (h : w.heap[g]? = some o) : g < w.heap.size := (Array.getElem?_eq_some_iff.1 h).1
theorem own_slice {w : World} {base : Nat} {e : TypeId} {size : Nat} {v : Value} {n : Nat} {xs : List Value} (h : w.ownsRow base e size v n xs) : ∃ a c, v = .slice a n c := by
  obtain ⟨_, ⟨rfl, rfl⟩ | ⟨g, cap, cur, rfl, _⟩⟩ := h
  · exact ⟨_, _, rfl⟩
  · exact ⟨_, _, rfl⟩

/-- Of what was there only the blocks of F may have turned. -/
structure Md (F : Nat → Prop) (w w' : World) : Prop where
  os : w'.os = w.os
  tape : w'.tape = w.tape
  output : w'.output = w.output
  size : w.heap.size ≤ w'.heap.size
  block : ∀ b, b < w.heap.size → ¬ F b → w'.heap[b]? = w.heap[b]?
theorem Md.refl (F : Nat → Prop) (w : World) : Md F w w := ⟨rfl, rfl, rfl, Nat.le_refl _, fun _ _ _ => rfl⟩
theorem Md.trans {F : Nat → Prop} {w w1 w2 : World} (h : Md F w w1) (g : Md F w1 w2) : Md F w w2 :=
  ⟨g.os.trans h.os, g.tape.trans h.tape, g.output.trans h.output, Nat.le_trans h.size g.size, fun b hb h1 => (g.block b (Nat.lt_of_lt_of_le hb h.size) h1).trans (h.block b hb h1)⟩
theorem Md.below {F : Nat → Prop} {w w1 w2 : World} (h : Md F w w1) (hb : Below w1.heap.size w1 w2) : Md F w w2 :=
  h.trans ⟨hb.os, hb.tape, hb.output, hb.size, fun b hlt _ => hb.block b hlt⟩
theorem Md.ofBelow {F : Nat → Prop} {w w' : World} (hb : Below w.heap.size w w') : Md F w w' := (Md.refl F w).below hb
theorem Md.set {F : Nat → Prop} {w w1 : World} (h : Md F w w1) {p : Nat} (hp : F p ∨ w.heap.size ≤ p) (j : Nat) (v : Value) : Md F w (w1.setCell ⟨p, j, none⟩ v) :=
  ⟨h.os, h.tape, h.output, Nat.le_trans h.size (by simp [World.setCell]), fun b hb h1 => (Below.heap_setCell _ _ _ _ (by
    show b ≠ p
    rintro rfl
    rcases hp with hp | hp
    · exact h1 hp
    · omega)).trans (h.block b hb h1)⟩
theorem Md.setp {p : Nat} {w w1 : World} (h : Md (· = p) w w1) (j : Nat) (v : Value) : Md (· = p) w (w1.setCell ⟨p, j, none⟩ v) := h.set (.inl rfl) j v
theorem Md.drew {F : Nat → Prop} {w w1 : World} (h : Md F w w1) : Md F w w1.drew := ⟨h.os, h.tape, h.output, h.size, h.block⟩
theorem Md.alloc {F : Nat → Prop} {w w1 : World} (h : Md F w w1) (o : Obj) : Md F w (w1.alloc o) := h.below ((Below.refl _ _).alloc (Nat.le_refl _) o)
theorem Md.mono {F G : Nat → Prop} {w w1 : World} (h : Md F w w1) (hF : ∀ b, b < w.heap.size → F b → G b) : Md G w w1 :=
  ⟨h.os, h.tape, h.output, h.size, fun b hb hg => h.block b hb (fun hf => hg (hF b hb hf))⟩
theorem Md.then {F G : Nat → Prop} {w w1 w2 : World} (h : Md F w w1) (g : Md G w1 w2) (hG : ∀ b, b < w.heap.size → G b → F b) : Md F w w2 :=
  ⟨g.os.trans h.os, g.tape.trans h.tape, g.output.trans h.output, Nat.le_trans h.size g.size, fun b hb h1 => (g.block b (Nat.lt_of_lt_of_le hb h.size) (fun hg => h1 (hG b hb hg))).trans (h.block b hb h1)⟩
theorem Md.toBelow {F : Nat → Prop} {B : Nat} {w0 w w' : World} (hb : Below B w0 w) (h : Md F w w') (hF : ∀ b, b < B → ¬ F b) (hB : B ≤ w0.heap.size) : Below B w0 w' :=
  ⟨h.os.trans hb.os, h.tape.trans hb.tape, h.output.trans hb.output, Nat.le_trans hb.size h.size, fun b hlt => (h.block b (by have := hb.size; omega) (hF b hlt)).trans (hb.block b hlt)⟩
theorem Md.grown {F : Nat → Prop} {w w1 w2 : World} {row : Option Nat} (h : Md F w w1) (hg : w1.grownBy w2 row) (hr : ∀ k, row = some k → F k ∨ w.heap.size ≤ k) : Md F w w2 :=
  ⟨hg.os.trans h.os, hg.tape.trans h.tape, hg.output.trans h.output, Nat.le_trans h.size hg.size, fun b hb h1 => (hg.block b (Nat.lt_of_lt_of_le hb h.size) (fun e => by
    rcases hr b e.symm with h | h
    · exact h1 h
    · omega)).trans (h.block b hb h1)⟩
theorem keep_blk {F : Nat → Prop} {w w' : World} {g : Nat} {o : Obj} (h : w.heap[g]? = some o) (hm : Md F w w') (hF : ¬ F g) : w'.heap[g]? = some o := (hm.block g (blk_lt h) hF).trans h
theorem own_md {F : Nat → Prop} {w w' : World} {base : Nat} {e : TypeId} {size : Nat} {v : Value} {n : Nat} {xs : List Value} (h : w.ownsRow base e size v n xs) (hm : Md F w w') (hF : ∀ j, v.ownBlock = some j → ¬ F j) : w'.ownsRow base e size v n xs := by
  obtain ⟨h0, ⟨rfl, rfl⟩ | ⟨b, cap, cur, rfl, h1, hh, h2⟩⟩ := h
  · exact ⟨h0, .inl ⟨rfl, rfl⟩⟩
  · exact ⟨h0, .inr ⟨b, cap, cur, rfl, h1, (hm.block b (blk_lt hh) (hF b rfl)).trans hh, h2⟩⟩
theorem own_ne {w : World} {base : Nat} {e : TypeId} {size : Nat} {v : Value} {n : Nat} {xs : List Value} (h : w.ownsRow base e size v n xs) {g : Nat} {c : Array Value} {t : TypeId} {fz : Nat × Nat} (hg : w.heap[g]? = some (.cells c t fz)) (ht : t ≠ e) : ∀ j, v.ownBlock = some j → j ≠ g := by
  obtain ⟨_, ⟨rfl, rfl⟩ | ⟨b, cap, cur, rfl, _, hh, _⟩⟩ := h
  · intro j hj; cases hj
  · intro j hj
    simp only [Value.ownBlock, Option.some.injEq] at hj
    subst hj
    rintro rfl
    rw [hh] at hg
    simp only [Option.some.injEq, Obj.cells.injEq] at hg
    exact ht hg.2.1.symm
theorem own_own {w : World} {base base' : Nat} {e e' : TypeId} {size size' : Nat} {v v' : Value} {n n' : Nat} {xs xs' : List Value} (h : w.ownsRow base e size v n xs) (h' : w.ownsRow base' e' size' v' n' xs') (ht : e' ≠ e) : ∀ j, v.ownBlock = some j → v'.ownBlock ≠ some j := by
  intro j hj hj'
  obtain ⟨_, ⟨rfl, rfl⟩ | ⟨g, cap, cur, rfl, _, hh, _⟩⟩ := h'
  · cases hj'
  · simp only [Value.ownBlock, Option.some.injEq] at hj'
    exact own_ne h hh ht j hj hj'.symm
theorem Md.ofGrown {w1 w2 : World} {row : Option Nat} (hg : w1.grownBy w2 row) : Md (fun b => row = some b) w1 w2 :=
  ⟨hg.os, hg.tape, hg.output, hg.size, fun b hb h1 => hg.block b hb (fun e => h1 e.symm)⟩
theorem Bytes.md {F : Nat → Prop} {w w' : World} {a : Option Addr} {l : List UInt8} (h : Bytes w a l) (hm : Md F w w') (hF : ∀ b off, a = some ⟨b, off, none⟩ → ¬ F b) : Bytes w' a l := by
  rcases h with h | ⟨b, off, h1, h2, h3⟩
  · exact .inl h
  · refine .inr ⟨b, off, h1, Nat.lt_of_lt_of_le h2 hm.size, fun j hj => ?_⟩
    rw [World.cell?_of_block (w := w) (a := ⟨b, off + j, none⟩) (hm.block b h2 (hF b off h1))]
    exact h3 j hj
/-- What a slice from a place on is. -/
def fromA (a : Option Addr) (cap k : Nat) : Option Addr := if cap = k then a else a.map fun x => x.add k
theorem bytes_from {w : World} {a : Option Addr} {l : List UInt8} {cap k : Nat} (hB : Bytes w a l) (hcap : l.length ≤ cap) : Bytes w (fromA a cap k) (l.drop k) := by
  unfold fromA
  split
  · left
    exact List.drop_eq_nil_of_le (by omega)
  · rcases hB with rfl | ⟨b, off, rfl, hb, hc⟩
    · left; simp
    · refine .inr ⟨b, off + k, by simp [Addr.add_lit], hb, fun j hj => ?_⟩
      rw [List.length_drop] at hj
      rw [Nat.add_assoc, hc (k + j) (by omega)]
      simp
theorem bytes_take {w : World} {a : Option Addr} {l : List UInt8} (k : Nat) (hB : Bytes w a l) : Bytes w a (l.take k) := by
  rcases hB with rfl | ⟨b, off, rfl, hb, hc⟩
  · left; simp
  · refine .inr ⟨b, off, rfl, hb, fun j hj => ?_⟩
    rw [List.length_take] at hj
    rw [hc j (by omega)]
    simp
end Go.Proofs.YtgpjjlkkfddjnaaDoor
/-
  A body in signed chunks: what the code's reader reads, told by lists.
-/
namespace Go.Proofs.YtgpjjlkkfddjnaaDoor

/-- A reader's state: the bytes that are left, and the first fault. -/
abbrev RS := List UInt8 × Int
def exS (b : Bool) (s : RS) : RS := if s.2 = 0 ∧ b = false then (s.1, 308) else s
def tkS (n : Nat) (s : RS) : List UInt8 × RS :=
  if s.2 = 0 then (if s.1.length < n then ([], (s.1, 307)) else (s.1.take n, (s.1.drop n, 0))) else ([], s)
/-- Whether what is there begins as the text does, as far as both go. -/
def txB (t l : List UInt8) : Bool := decide (l.take (min t.length l.length) = t.take (min t.length l.length))
def txS (t : List UInt8) (s : RS) : RS := (tkS t.length (exS (txB t s.1) s)).2
def isDg (c : UInt8) : Bool := decide (48 ≤ c.toNat ∧ c.toNat ≤ 57) || decide (97 ≤ c.toNat ∧ c.toNat ≤ 102)
/-- How many digits stand ahead, at most so many. -/
def dnL (most : Nat) (l : List UInt8) : Nat := ((l.take most).takeWhile isDg).length
def dgS (least most : Nat) (s : RS) : List UInt8 × RS := tkS (max (dnL most s.1) least) (exS (decide (least ≤ dnL most s.1) || decide (dnL most s.1 = s.1.length)) s)
def dvN (c : UInt8) : Nat := if 48 ≤ c.toNat ∧ c.toNat ≤ 57 then c.toNat - 48 else c.toNat - 87
def numL (l : List UInt8) : Nat := l.foldl (fun n c => n * 16 + dvN c) 0
/-- ";chunk-signature=" -/
def sigT : List UInt8 := [59, 99, 104, 117, 110, 107, 45, 115, 105, 103, 110, 97, 116, 117, 114, 101, 61]
def crT : List UInt8 := [13, 10]
/-- What is read of a chunk: its data, its signature, and the reader behind it. -/
structure CkR where
  data : List UInt8
  sig : List UInt8
  s : RS
def ckS (s : RS) : CkR :=
  let d := dgS 1 8 s
  let n := numL d.1
  let g := dgS 64 64 (txS sigT d.2)
  let x := tkS n (txS crT g.2)
  let e := txS crT x.2
  ⟨x.1, g.1, if n = 0 then exS (decide (e.1 = [])) e else e⟩
theorem dnL_le (most : Nat) (l : List UInt8) : dnL most l ≤ most ∧ dnL most l ≤ l.length := by
  have h : (List.takeWhile isDg (l.take most)).length ≤ (l.take most).length := (List.takeWhile_sublist _).length_le
  rw [List.length_take] at h
  unfold dnL
  omega
/-- The digits are counted one by one. -/
theorem dnL_at {most : Nat} {l : List UInt8} {k : Nat} (hk : k ≤ dnL most l) : k < dnL most l ↔ k < most ∧ ∃ h : k < l.length, isDg l[k] = true := by
  have key : ∀ (m : List UInt8) (k : Nat), k ≤ (m.takeWhile isDg).length → (k < (m.takeWhile isDg).length ↔ ∃ h : k < m.length, isDg m[k] = true) := by
    intro m
    induction m with
    | nil => intro k _; simp
    | cons c m ih =>
      intro k hk
      by_cases hc : isDg c = true
      · rw [List.takeWhile_cons_of_pos hc] at hk ⊢
        cases k with
        | zero => simp [hc]
        | succ k =>
          have := ih k (by simpa using hk)
          simp only [List.length_cons, Nat.succ_lt_succ_iff, List.getElem_cons_succ]
          exact this
      · rw [List.takeWhile_cons_of_neg hc] at hk ⊢
        simp only [List.length_nil, Nat.le_zero_eq] at hk
        subst hk
        simp [hc]
  have h := key (l.take most) k hk
  unfold dnL
  rw [h]
  constructor
  · rintro ⟨h1, h2⟩
    have h3 : k < min most l.length := by simpa using h1
    refine ⟨by omega, by omega, ?_⟩
    simpa using h2
  · rintro ⟨h1, h2, h3⟩
    exact ⟨by simp; omega, by simpa using h3⟩
theorem tkS_fault {n : Nat} {s : RS} (h : s.2 ≠ 0) : tkS n s = ([], s) := by simp [tkS, h]
theorem exS_fault {b : Bool} {s : RS} (h : s.2 ≠ 0) : exS b s = s := by simp [exS, h]
theorem exS_rest (b : Bool) (s : RS) : (exS b s).1 = s.1 := by unfold exS; split <;> rfl
theorem dg_digits {most : Nat} {l : List UInt8} : ∀ c ∈ l.take (dnL most l), isDg c = true := by
  intro c hc
  have h : l.take (dnL most l) = (l.take most).takeWhile isDg := by
    have := (List.prefix_iff_eq_take (l₁ := (l.take most).takeWhile isDg) (l₂ := l)).1 ((List.takeWhile_prefix _).trans (List.take_prefix _ _))
    exact this.symm
  rw [h] at hc
  have h2 := List.all_takeWhile (p := isDg) (l := l.take most)
  exact List.all_eq_true.1 h2 c hc
end Go.Proofs.YtgpjjlkkfddjnaaDoor
/-
  The reader of a body in chunks: its box, and its small steps (expect, take).
-/
namespace Go.Proofs.YtgpjjlkkfddjnaaDoor
open Go.RowKit

/-- A reader in the box p over bytes that lie below B. -/
structure Rx (w : World) (p B : Nat) (a : Option Addr) (cap : Nat) (s : RS) : Prop where
  box : w.heap[p]? = some (.cells #[.slice a s.1.length cap, .int .i64 s.2] 51 (0, 0))
  by_ : Bytes w a s.1
  cap_ : s.1.length ≤ cap
  an : a = none → cap = 0
  lo : ∀ x, a = some x → x.spot = none ∧ x.block < B
  bp : B ≤ p
  len : cap ≤ 9223372036854775807
theorem Rx.lt {w : World} {p B : Nat} {a : Option Addr} {cap : Nat} {s : RS} (h : Rx w p B a cap s) : p < w.heap.size := blk_lt h.box
theorem Rx.bytes {w W : World} {p B : Nat} {a : Option Addr} {cap : Nat} {s : RS} (h : Rx w p B a cap s) (hm : Md (· = p) w W) : Bytes W a s.1 :=
  h.by_.md hm (fun b off e hb => by
    have := (h.lo _ e).2
    have := h.bp
    simp only at *
    omega)
/-- The reader behind a step that wrote its box alone. -/
theorem Rx.turn {w W : World} {p B : Nat} {a : Option Addr} {cap : Nat} {s : RS} (h : Rx w p B a cap s) (hm : Md (· = p) w W) {k : Nat} {f : Int} (hk : k ≤ s.1.length)
    (hbox : W.heap[p]? = some (.cells #[.slice (fromA a cap k) (s.1.length - k) (cap - k), .int .i64 f] 51 (0, 0))) : Rx W p B (fromA a cap k) (cap - k) (s.1.drop k, f) := by
  have hc := h.cap_
  refine ⟨by simpa using hbox, bytes_from (h.bytes hm) hc, by simp only [List.length_drop]; omega, ?_, ?_, h.bp, by have := h.len; omega⟩
  · intro e
    unfold fromA at e
    split at e
    · omega
    · have : a = none := by cases a with
        | none => rfl
        | some x => simp at e
      have := h.an this
      omega
  · intro x e
    unfold fromA at e
    split at e
    · exact h.lo x e
    · cases a with
      | none => simp at e
      | some y =>
        obtain ⟨yb, yo, ys⟩ := y
        have := h.lo _ rfl
        simp only at this
        obtain ⟨rfl, h2⟩ := this
        simp only [Option.map_some, Addr.add_lit, Option.some.injEq] at e
        subst e
        exact ⟨rfl, h2⟩
theorem Rx.keep {w W : World} {p B : Nat} {a : Option Addr} {cap : Nat} {s : RS} (h : Rx w p B a cap s) (hb : Below w.heap.size w W) : Rx W p B a cap s :=
  ⟨(hb.block p h.lt).trans h.box, h.by_.below hb (Nat.le_refl _), h.cap_, h.an, h.lo, h.bp, h.len⟩
/-- Only the fault was written. -/
theorem Rx.fault {w W : World} {p B : Nat} {a : Option Addr} {cap : Nat} {s : RS} (h : Rx w p B a cap s) (hm : Md (· = p) w W) {f : Int}
    (hbox : W.heap[p]? = some (.cells #[.slice a s.1.length cap, .int .i64 f] 51 (0, 0))) : Rx W p B a cap (s.1, f) :=
  ⟨hbox, h.bytes hm, h.cap_, h.an, h.lo, h.bp, h.len⟩
end Go.Proofs.YtgpjjlkkfddjnaaDoor
/-
  The reader's small steps: expect, take, isDigit.
-/
namespace Go.Proofs.YtgpjjlkkfddjnaaDoor
open Go.RowKit

theorem expect_any (p B : Nat) (a : Option Addr) (cap : Nat) (s : RS) (b : Bool) (w : World) (h : Rx w p B a cap s) :
    Calls Tryd.prog 41 #[.pointer (some ⟨p, 0, none⟩), .bool b] w fun e w' => e = .returned (.tuple #[]) ∧ Rx w' p B a cap (exS b s) ∧ Md (· = p) w w' := by
  have c1 : w.cell? ⟨p, 1, none⟩ = some (.int .i64 s.2) := (cell_blk h.box 1).trans rfl
  have f1 := frozen_blk h.box 1
  have H : Hid (Rx w p B a cap s) := h
  obtain ⟨l, f⟩ := s
  simp only at c1
  clear h
  go_enter Tryd.func41, Tryd.ntmps41
  by_cases hf : f = 0
  · subst hf
    cases b with
    | true =>
      go_wp2
      refine bodyPost_end (results_none rfl _ _ _) rfl ?_
      refine ⟨rfl, ?_, Md.refl _ _⟩
      rw [show exS true ((l, 0) : RS) = (l, 0) from rfl]
      exact H.out
    | false =>
      go_wp2
      refine bodyPost_end (results_none rfl _ _ _) rfl ?_
      refine ⟨rfl, ?_, Md.setp (Md.refl _ _) _ _⟩
      rw [show exS false ((l, 0) : RS) = (l, 308) from rfl]
      exact H.out.fault (Md.setp (Md.refl _ _) _ _) (by rw [set_blk H.out.box]; rfl)
  · have HF : Hid (f ≠ 0) := hf
    go_wp2
    refine bodyPost_end (results_none rfl _ _ _) rfl ?_
    refine ⟨rfl, ?_, Md.refl _ _⟩
    rw [exS_fault (s := (l, f)) HF.out]
    exact H.out
/-- What is told of what was taken: bytes below B, the reader behind them. -/
structure TkR (w w' : World) (p B : Nat) (r : List UInt8 × RS) (e : Ending) : Prop where
  told : ∃ da dc, e = .returned (.slice da r.1.length dc) ∧ r.1.length ≤ dc ∧ Bytes w' da r.1 ∧ (∀ x, da = some x → x.spot = none ∧ x.block < B) ∧ (da = none → dc = 0)
  rest : ∃ a cap, Rx w' p B a cap r.2
  md : Md (· = p) w w'
theorem tk_none {w w' : World} {p B : Nat} {s : RS} {a : Option Addr} {cap : Nat} (h : Rx w' p B a cap s) (hm : Md (· = p) w w') : TkR w w' p B ([], s) (.returned (.slice none 0 0)) :=
  ⟨⟨none, 0, rfl, Nat.le_refl _, .inl rfl, (fun x hx => by cases hx), fun _ => rfl⟩, ⟨a, cap, h⟩, hm⟩
theorem tk_done {w W : World} {p B : Nat} {a : Option Addr} {cap n : Nat} {l : List UInt8} (h : Rx w p B a cap (l, 0)) (hm : Md (· = p) w W) (hn : n ≤ l.length)
    (hbox : W.heap[p]? = some (.cells #[.slice (fromA a cap n) (l.length - n) (cap - n), .int .i64 0] 51 (0, 0))) : TkR w W p B (tkS n (l, 0)) (.returned (.slice a n cap)) := by
  have hc := h.cap_
  simp only at hc
  have e : tkS n ((l, 0) : RS) = (l.take n, (l.drop n, 0)) := by
    have : ¬ l.length < n := by omega
    simp [tkS, this]
  have hl : (l.take n).length = n := by rw [List.length_take]; omega
  rw [e]
  refine ⟨⟨a, cap, by simp only [hl], by simp only [hl]; omega, bytes_take n (h.bytes hm), h.lo, h.an⟩, ⟨_, _, h.turn (k := n) hm hn hbox⟩, hm⟩
set_option maxRecDepth 20000 in
set_option maxHeartbeats 1000000 in
theorem take_any (p B : Nat) (a : Option Addr) (cap : Nat) (s : RS) (n : Nat) (w : World) (h : Rx w p B a cap s) (hn : n ≤ 1000000000000) :
    Calls Tryd.prog 40 #[.pointer (some ⟨p, 0, none⟩), .int .i64 (n : Int)] w fun e w' => TkR w w' p B (tkS n s) e := by
  have c0 : w.cell? ⟨p, 0, none⟩ = some (.slice a s.1.length cap) := (cell_blk h.box 0).trans rfl
  have c1 : w.cell? ⟨p, 1, none⟩ = some (.int .i64 s.2) := (cell_blk h.box 1).trans rfl
  have f0 := frozen_blk h.box 0
  have f1 := frozen_blk h.box 1
  have hc := h.cap_
  have hlen := h.len
  have H : Hid (Rx w p B a cap s) := h
  obtain ⟨l, f⟩ := s
  simp only at c0 c1 hc
  clear h
  go_enter Tryd.func40, Tryd.ntmps40
  by_cases hf : f = 0
  · subst hf
    by_cases hl : l.length < n
    · have hli : (l.length : Int) < (n : Int) := by omega
      have HL : Hid (l.length < n) := hl
      clear hl
      go_wp2
      go_ret
      rw [show tkS n ((l, 0) : RS) = ([], (l, 307)) from by simp [tkS, HL.out]]
      exact tk_none (H.out.fault (Md.setp (Md.refl _ _) _ _) (by rw [set_blk H.out.box]; rfl)) (Md.setp (Md.refl _ _) _ _)
    · have hli : ¬ (l.length : Int) < (n : Int) := by omega
      have hnc : (n : Int) ≤ (cap : Int) := by omega
      have hnl : (n : Int) ≤ (l.length : Int) := by omega
      have HL : Hid (¬ l.length < n) := hl
      clear hl
      go_wp2
      · go_ret
        subst h
        refine tk_done H.out (Md.setp (Md.refl _ _) _ _) (by have := HL.out; omega) ?_
        rw [set_blk H.out.box]
        simp [fromA]
      · go_ret
        refine tk_done H.out (Md.setp (Md.refl _ _) _ _) (by have := HL.out; omega) ?_
        rw [set_blk H.out.box]
        simp [fromA, h]
  · have HF : Hid (f ≠ 0) := hf
    go_wp2
    go_ret
    rw [tkS_fault (s := (l, f)) HF.out]
    exact tk_none H.out (Md.refl _ _)
set_option maxHeartbeats 1000000 in
theorem isDigit_any (c : UInt8) (w : World) : Calls Tryd.prog 59 #[.int .u8 (c.toNat : Int)] w fun e w' => e = .returned (.bool (isDg c)) ∧ w' = w := by
  obtain ⟨n, hn⟩ : ∃ n, n = c.toNat := ⟨_, rfl⟩
  have h256 : n < 256 := by rw [hn]; exact c.toNat_lt
  have HD : Hid (isDg c = (decide (48 ≤ n ∧ n ≤ 57) || decide (97 ≤ n ∧ n ≤ 102))) := by show _ = _; rw [hn]; rfl
  rw [← hn]
  clear hn
  go_enter Tryd.func59, Tryd.ntmps59
  by_cases h1 : (48 : Int) ≤ (n : Int)
  · by_cases h2 : (n : Int) ≤ 57
    · go_wp2
      go_ret
      refine ⟨?_, rfl⟩
      rw [HD.out]
      have h1' : 48 ≤ n := by omega
      have h2' : n ≤ 57 := by omega
      simp [h1', h2']
    · by_cases h3 : (97 : Int) ≤ (n : Int)
      · by_cases h4 : (n : Int) ≤ 102
        · go_wp2
          go_ret
          refine ⟨?_, rfl⟩
          rw [HD.out]
          have h3' : 97 ≤ n := by omega
          have h4' : n ≤ 102 := by omega
          simp [h3', h4']
        · go_wp2
          go_ret
          refine ⟨?_, rfl⟩
          rw [HD.out]
          have h2' : ¬ n ≤ 57 := by omega
          have h4' : ¬ n ≤ 102 := by omega
          simp [h2', h4']
      · go_wp2
        go_ret
        refine ⟨?_, rfl⟩
        rw [HD.out]
        have h2' : ¬ n ≤ 57 := by omega
        have h3' : ¬ 97 ≤ n := by omega
        simp [h2', h3']
  · have h3 : ¬ (97 : Int) ≤ (n : Int) := by omega
    go_wp2
    go_ret
    refine ⟨?_, rfl⟩
    rw [HD.out]
    have h1' : ¬ 48 ≤ n := by omega
    have h3' : ¬ 97 ≤ n := by omega
    simp [h1', h3']
end Go.Proofs.YtgpjjlkkfddjnaaDoor
/-
  The reader's steps over texts and digits.
-/
namespace Go.Proofs.YtgpjjlkkfddjnaaDoor
open Go.RowKit

theorem dg_no {most n : Nat} {l : List UInt8} (hk : n ≤ dnL most l) (h : ¬ (n < most ∧ ∃ h : n < l.length, isDg l[n] = true)) : dnL most l = n := by
  have := mt (dnL_at hk).1 h
  omega
theorem dgS_eq {least most k n : Nat} {b : Bool} {s : RS} (hd : dnL most s.1 = k) (hn : max k least = n) (hb : (decide (least ≤ k) || decide (k = s.1.length)) = b) : dgS least most s = tkS n (exS b s) := by
  subst hd hn hb
  rfl
theorem dg_fin {least most k n p B : Nat} {b : Bool} {s : RS} {w w2 w3 : World} (hd : dnL most s.1 = k) (hn : max k least = n) (hb : (decide (least ≤ k) || decide (k = s.1.length)) = b)
    (hr : ∃ a cap, Rx w3 p B a cap (tkS n (exS b s)).2) (hm1 : Md (· = p) w w2) (hm2 : Md (· = p) w2 w3) :
    Ending.returned (.string ⟨(tkS n (exS b s)).1.toArray⟩) = .returned (.string ⟨(dgS least most s).1.toArray⟩) ∧ (∃ a cap, Rx w3 p B a cap (dgS least most s).2) ∧ Md (· = p) w w3 := by
  rw [dgS_eq hd hn hb]
  exact ⟨rfl, hr, hm1.trans hm2⟩
set_option maxRecDepth 20000 in
set_option maxHeartbeats 8000000 in
theorem digits_any (p B : Nat) (a : Option Addr) (cap : Nat) (s : RS) (least most : Nat) (w : World) (h : Rx w p B a cap s) (h1 : least ≤ 100) (h2 : most ≤ 100) (hl : s.1.length ≤ 1000000000) :
    Calls Tryd.prog 38 #[.pointer (some ⟨p, 0, none⟩), .int .i64 (least : Int), .int .i64 (most : Int)] w fun e w' => e = .returned (.string ⟨(dgS least most s).1.toArray⟩) ∧ (∃ a cap, Rx w' p B a cap (dgS least most s).2) ∧ Md (· = p) w w' := by
  have H : Hid (Rx w p B a cap s) := h
  have HK : Hid (dnL most s.1 ≤ most ∧ dnL most s.1 ≤ s.1.length) := dnL_le most s.1
  have HL : Hid (s.1.length ≤ 1000000000) := hl
  have KE := (show Hid (∀ b, Calls Tryd.prog 41 #[.pointer (some ⟨p, 0, none⟩), .bool b] w fun e w' => e = .returned (.tuple #[]) ∧ Rx w' p B a cap (exS b s) ∧ Md (· = p) w w') from fun b => expect_any p B a cap s b w h)
  have c0 : w.cell? ⟨p, 0, none⟩ = some (.slice a s.1.length cap) := (cell_blk h.box 0).trans rfl
  have hcap := h.cap_
  have HBy : Hid (Bytes w a s.1) := h.by_
  clear h
  obtain ⟨l, hL⟩ : ∃ l, l = s.1 := ⟨_, rfl⟩
  rw [← hL] at c0 hl hcap HBy
  have HLS : Hid (l = s.1) := hL
  clear hL
  go_enter Tryd.func38, Tryd.ntmps38
  go_wp2
  go_loopw [7] (fun i wr => ∃ k : Nat, k ≤ dnL most l ∧ i = .int .i64 k ∧ wr = w) (fun i _ => dnL most l - (intOf i).toNat)
  case atStart => exact ⟨0, Nat.zero_le _, rfl, rfl⟩
  case round =>
    obtain ⟨k, hk, rfl, rfl⟩ := hrel
    by_cases hgo : k < most ∧ ∃ h : k < l.length, isDg l[k] = true
    · obtain ⟨hm, hl1, hd⟩ := hgo
      have HK1 : Hid (k + 1 ≤ dnL most l) := (dnL_at hk).2 ⟨hm, hl1, hd⟩
      obtain ⟨b, off, rfl, hbs, hcs⟩ := (HBy.out).at hl1
      have hcell := hcs k hl1
      obtain ⟨c, hc⟩ : ∃ c, c = l[k] := ⟨_, rfl⟩
      rw [← hc] at hd hcell
      have K1 := isDigit_any c wr
      rw [hd] at K1
      clear hcs hc hd
      have hmi : (k : Int) < (most : Int) := by omega
      have hli : (k : Int) < (l.length : Int) := by omega
      have hk0 : (0 : Int) ≤ (k : Int) := by omega
      have hmin : min (most : Int) (l.length : Int) > (k : Int) := by omega
      go_wp2_with (go_at_call 59; refine Calls.mono K1 ?_; rintro e w1 ⟨rfl, rfl⟩)
      all_goals
        go_roundw
        case rel => exact ⟨k + 1, HK1.out, by go_num, by first | rfl | trivial⟩
        case measure => have := HK1.out; simp [intOf]; omega
    · have HD : Hid (dnL most l = k) := dg_no hk hgo
      have HX : Hid (k ≤ most ∧ k ≤ l.length) := by
        have := HK.out
        have := HD.out
        have := HLS.out
        subst this
        show _ ∧ _
        omega
      by_cases hm : k < most
      · by_cases hl1 : k < l.length
        · have hd : isDg l[k] = false := by
            cases h : isDg l[k] with
            | false => rfl
            | true => exact absurd ⟨hm, hl1, h⟩ hgo
          obtain ⟨b, off, rfl, hbs, hcs⟩ := (HBy.out).at hl1
          have hcell := hcs k hl1
          obtain ⟨c, hc⟩ : ∃ c, c = l[k] := ⟨_, rfl⟩
          rw [← hc] at hd hcell
          have K1 := isDigit_any c wr
          rw [hd] at K1
          clear hcs hc hd hgo
          have hmi : (k : Int) < (most : Int) := by omega
          have hli : (k : Int) < (l.length : Int) := by omega
          have hk0 : (0 : Int) ≤ (k : Int) := by omega
          have hmin : min (most : Int) (l.length : Int) > (k : Int) := by omega
          go_wp2_with (go_at_call 59; refine Calls.mono K1 ?_; rintro e w1 ⟨rfl, rfl⟩)
          all_goals
            go_wp2_with (first
              | (go_at_call 41; refine Calls.mono (KE.out _) ?_; rintro e w2 ⟨rfl, hx2, hm2⟩; have HM2 : Hid (Md (· = p) _ w2) := hm2; clear hm2)
              | (go_at_call 40; refine Calls.mono (take_any p B _ cap _ _ _ hx2 (by omega)) ?_; rintro e w3 ⟨⟨da, dc, rfl, hdc, hB, hlo, han⟩, hr, hmd⟩; have hcv := convert_bytes w3 da dc _ hB))
          all_goals
            go_ret
            exact dg_fin (k := k) (by rw [← HLS.out]; exact HD.out) (by omega) (by rw [← HLS.out]; first | (simp; done) | (rw [Bool.eq_iff_iff]; simp; omega)) hr HM2.out hmd
        · have hkl : k = l.length := by have := HX.out; omega
          have hkm : k ≤ most := by omega
          have hli : ¬ (k : Int) < (l.length : Int) := by omega
          clear hl1 hgo
          all_goals
            go_wp2_with (first
              | (go_at_call 41; refine Calls.mono (KE.out _) ?_; rintro e w2 ⟨rfl, hx2, hm2⟩; have HM2 : Hid (Md (· = p) _ w2) := hm2; clear hm2)
              | (go_at_call 40; refine Calls.mono (take_any p B _ cap _ _ _ hx2 (by omega)) ?_; rintro e w3 ⟨⟨da, dc, rfl, hdc, hB, hlo, han⟩, hr, hmd⟩; have hcv := convert_bytes w3 da dc _ hB))
          all_goals
            go_ret
            exact dg_fin (k := k) (by rw [← HLS.out]; exact HD.out) (by omega) (by rw [← HLS.out]; first | (simp; done) | (rw [Bool.eq_iff_iff]; simp; omega)) hr HM2.out hmd
      · have hkm : k = most := by have := HX.out; omega
        have hkl : k ≤ l.length := HX.out.2
        have hmi : ¬ (k : Int) < (most : Int) := by omega
        clear hm hgo
        all_goals
          go_wp2_with (first
            | (go_at_call 41; refine Calls.mono (KE.out _) ?_; rintro e w2 ⟨rfl, hx2, hm2⟩; have HM2 : Hid (Md (· = p) _ w2) := hm2; clear hm2)
            | (go_at_call 40; refine Calls.mono (take_any p B _ cap _ _ _ hx2 (by omega)) ?_; rintro e w3 ⟨⟨da, dc, rfl, hdc, hB, hlo, han⟩, hr, hmd⟩; have hcv := convert_bytes w3 da dc _ hB))
        all_goals
          go_ret
          exact dg_fin (k := k) (by rw [← HLS.out]; exact HD.out) (by omega) (by rw [← HLS.out]; first | (simp; done) | (rw [Bool.eq_iff_iff]; simp; omega)) hr HM2.out hmd
end Go.Proofs.YtgpjjlkkfddjnaaDoor
/-
  Layings of the library's contracts at this program.
-/
namespace Go.Proofs
open Go.Shelf
def YtgpjjlkkfddjnaaDoor.laysC245_ren : Go.Shelf.Ren := ⟨fun | 129 => 81 | 171 => 96 | 205 => 95 | 243 => 97 | 245 => 75 | 246 => 55 | 279 => 87 | 280 => 88 | 281 => 89 | 282 => 90 | 283 => 69 | 284 => 70 | 285 => 71 | 286 => 72 | 316 => 94 | 317 => 80 | 318 => 82 | 319 => 83 | 320 => 84 | 337 => 92 | 338 => 93 | n => n, fun | 0 => 0 | 2 => 2 | 3 => 3 | 4 => 4 | 5 => 5 | 9 => 9 | 20 => 20 | 37 => 22 | 46 => 81 | 51 => 101 | 53 => 98 | 75 => 93 | 80 => 59 | 127 => 108 | 143 => 141 | 145 => 143 | 167 => 131 | 168 => 133 | 210 => 138 | 171 => 114 | 173 => 52 | 212 => 127 | 213 => 128 | 232 => 140 | 233 => 85 | n => n, fun | 15 => 2 | 16 => 3 | 17 => 0 | 18 => 4 | 19 => 5 | n => n⟩
theorem YtgpjjlkkfddjnaaDoor.laysC245 : Go.Proofs.LaysC.n245 Tryd.prog YtgpjjlkkfddjnaaDoor.laysC245_ren := {
  mixed := by kernel_rfl
  f129 := Tryd.func81.trans (congrArg some (by kernel_rfl))
  f171 := Tryd.func96.trans (congrArg some (by kernel_rfl))
  f205 := Tryd.func95.trans (congrArg some (by kernel_rfl))
  f243 := Tryd.func97.trans (congrArg some (by kernel_rfl))
  f245 := Tryd.func75.trans (congrArg some (by kernel_rfl))
  f246 := Tryd.func55.trans (congrArg some (by kernel_rfl))
  f279 := Tryd.func87.trans (congrArg some (by kernel_rfl))
  f280 := Tryd.func88.trans (congrArg some (by kernel_rfl))
  f281 := Tryd.func89.trans (congrArg some (by kernel_rfl))
  f282 := Tryd.func90.trans (congrArg some (by kernel_rfl))
  f283 := Tryd.func69.trans (congrArg some (by kernel_rfl))
  f284 := Tryd.func70.trans (congrArg some (by kernel_rfl))
  f285 := Tryd.func71.trans (congrArg some (by kernel_rfl))
  f286 := Tryd.func72.trans (congrArg some (by kernel_rfl))
  f316 := Tryd.func94.trans (congrArg some (by kernel_rfl))
  f317 := Tryd.func80.trans (congrArg some (by kernel_rfl))
  f318 := Tryd.func82.trans (congrArg some (by kernel_rfl))
  f319 := Tryd.func83.trans (congrArg some (by kernel_rfl))
  f320 := Tryd.func84.trans (congrArg some (by kernel_rfl))
  f337 := Tryd.func92.trans (congrArg some (by kernel_rfl))
  f338 := Tryd.func93.trans (congrArg some (by kernel_rfl))
  t0 := Tryd.underlying0
  a0 := Tryd.isAgg0
  z0 := Tryd.sizeOf0
  v0 := Tryd.zeroValue0
  t2 := Tryd.underlying2
  a2 := Tryd.isAgg2
  z2 := Tryd.sizeOf2
  v2 := Tryd.zeroValue2
  t3 := Tryd.underlying3
  a3 := Tryd.isAgg3
  z3 := Tryd.sizeOf3
  v3 := Tryd.zeroValue3
  t4 := Tryd.underlying4
  a4 := Tryd.isAgg4
  z4 := Tryd.sizeOf4
  v4 := Tryd.zeroValue4
  t5 := Tryd.underlying5
  a5 := Tryd.isAgg5
  z5 := Tryd.sizeOf5
  v5 := Tryd.zeroValue5
  t9 := Tryd.underlying9
  a9 := Tryd.isAgg9
  z9 := Tryd.sizeOf9
  v9 := Tryd.zeroValue9
  t20 := Tryd.underlying20
  a20 := Tryd.isAgg20
  z20 := Tryd.sizeOf20
  v20 := Tryd.zeroValue20
  t37 := Tryd.underlying22
  a37 := Tryd.isAgg22
  z37 := Tryd.sizeOf22
  v37 := Tryd.zeroValue22
  t46 := Tryd.underlying81
  a46 := Tryd.isAgg81
  z46 := Tryd.sizeOf81
  v46 := Tryd.zeroValue81
  t51 := Tryd.underlying101
  a51 := Tryd.isAgg101
  z51 := Tryd.sizeOf101
  v51 := Tryd.zeroValue101
  t53 := Tryd.underlying98
  a53 := Tryd.isAgg98
  z53 := Tryd.sizeOf98
  v53 := Tryd.zeroValue98
  t75 := Tryd.underlying93
  a75 := Tryd.isAgg93
  z75 := Tryd.sizeOf93
  v75 := Tryd.zeroValue93
  t127 := Tryd.underlying108
  a127 := Tryd.isAgg108
  z127 := Tryd.sizeOf108
  v127 := Tryd.zeroValue108
  t143 := Tryd.underlying141
  a143 := Tryd.isAgg141
  z143 := Tryd.sizeOf141
  v143 := Tryd.zeroValue141
  t145 := Tryd.underlying143
  a145 := Tryd.isAgg143
  z145 := Tryd.sizeOf143
  v145 := Tryd.zeroValue143
  t167 := Tryd.underlying131
  a167 := Tryd.isAgg131
  z167 := Tryd.sizeOf131
  v167 := Tryd.zeroValue131
  t168 := Tryd.underlying133
  a168 := Tryd.isAgg133
  z168 := Tryd.sizeOf133
  v168 := Tryd.zeroValue133
  t171 := Tryd.underlying114
  a171 := Tryd.isAgg114
  z171 := Tryd.sizeOf114
  v171 := Tryd.zeroValue114
  t173 := Tryd.underlying52
  a173 := Tryd.isAgg52
  z173 := Tryd.sizeOf52
  v173 := Tryd.zeroValue52
  t210 := Tryd.underlying138
  a210 := Tryd.isAgg138
  z210 := Tryd.sizeOf138
  v210 := Tryd.zeroValue138
  t212 := Tryd.underlying127
  a212 := Tryd.isAgg127
  z212 := Tryd.sizeOf127
  v212 := Tryd.zeroValue127
  t213 := Tryd.underlying128
  a213 := Tryd.isAgg128
  z213 := Tryd.sizeOf128
  t232 := Tryd.underlying140
  a232 := Tryd.isAgg140
  z232 := Tryd.sizeOf140
  v232 := Tryd.zeroValue140
  t233 := Tryd.underlying85
  a233 := Tryd.isAgg85
  z233 := Tryd.sizeOf85
  v233 := Tryd.zeroValue85
  g15 := by kernel_rfl
  g16 := by kernel_rfl
  g17 := by kernel_rfl
  g18 := by kernel_rfl
  g19 := by kernel_rfl
  t80 := Tryd.underlying59
  a80 := Tryd.isAgg59
  z80 := Tryd.sizeOf59
  v80 := Tryd.zeroValue59
  i0 := by kernel_rfl
  i2 := by kernel_rfl
  i3 := by kernel_rfl
  i4 := by kernel_rfl
  i5 := by kernel_rfl
  i9 := by kernel_rfl
  i20 := by kernel_rfl
  i37 := by kernel_rfl
  i46 := by kernel_rfl
  i51 := by kernel_rfl
  i53 := by kernel_rfl
  i75 := by kernel_rfl
  i80 := by kernel_rfl
  i127 := by kernel_rfl
  i143 := by kernel_rfl
  i145 := by kernel_rfl
  i167 := by kernel_rfl
  i168 := by kernel_rfl
  i171 := by kernel_rfl
  i173 := by kernel_rfl
  i210 := by kernel_rfl
  i212 := by kernel_rfl
  i232 := by kernel_rfl
  i233 := by kernel_rfl
  m15 := by kernel_rfl
  m16 := by kernel_rfl
  m17 := by kernel_rfl
  m18 := by kernel_rfl
  m19 := by kernel_rfl
  c0 := by kernel_rfl
  c2 := by kernel_rfl
  c3 := by kernel_rfl
  c4 := by kernel_rfl
  c5 := by kernel_rfl
  c9 := by kernel_rfl
  c20 := by kernel_rfl
  c37 := by kernel_rfl
  c46 := by kernel_rfl
  c51 := by kernel_rfl
  c53 := by kernel_rfl
  c75 := by kernel_rfl
  c80 := by kernel_rfl
  c127 := by kernel_rfl
  c143 := by kernel_rfl
  c145 := by kernel_rfl
  c167 := by kernel_rfl
  c168 := by kernel_rfl
  c171 := by kernel_rfl
  c173 := by kernel_rfl
  c210 := by kernel_rfl
  c212 := by kernel_rfl
  c213 := by kernel_rfl
  c232 := by kernel_rfl
  c233 := by kernel_rfl }
def YtgpjjlkkfddjnaaDoor.lays321_ren : Go.Shelf.Ren := ⟨fun | 321 => 85 | n => n, fun | 5 => 5 | n => n, fun | n => n⟩
theorem YtgpjjlkkfddjnaaDoor.lays321 : Go.Proofs.Lays.n321 Tryd.prog YtgpjjlkkfddjnaaDoor.lays321_ren := {
  mixed := by kernel_rfl
  f321 := Tryd.func85.trans (congrArg some (by kernel_rfl))
  t5 := Tryd.underlying5
  a5 := Tryd.isAgg5
  z5 := Tryd.sizeOf5
  v5 := Tryd.zeroValue5 }
open Go.RowKit in
theorem YtgpjjlkkfddjnaaDoor.strconv_toError_syntax (fn s : ByteArray) (base bits : Int) (ev : Value) (w : World) (hlim : s.size ≤ 281474976710656) (hv : w.cell? ⟨2, 0, none⟩ = some ev) (hev : ev = .nilIface ∨ ∃ te pe, ev = .iface te pe) :
    Calls Tryd.prog 75 #[.string fn, .string s, .int .i64 base, .int .i64 bits, .iface 131 (.int .i64 2)] w fun e w' => ∃ N, e = .returned (.iface 133 (.pointer (some ⟨N, 0, none⟩))) ∧ w.heap.size ≤ N ∧ w'.heap[N]? = some (.cells #[.string fn, .string s, ev] 138 (0, 0)) ∧ Below w.heap.size w w' := Any.strconv_toError_syntax YtgpjjlkkfddjnaaDoor.laysC245 fn s base bits ev w hlim hv hev
open Go.RowKit in
theorem YtgpjjlkkfddjnaaDoor.strconv_toError_range (fn s : ByteArray) (base bits : Int) (ev : Value) (w : World) (hlim : s.size ≤ 281474976710656) (hv : w.cell? ⟨3, 0, none⟩ = some ev) (hev : ev = .nilIface ∨ ∃ te pe, ev = .iface te pe) :
    Calls Tryd.prog 75 #[.string fn, .string s, .int .i64 base, .int .i64 bits, .iface 131 (.int .i64 1)] w fun e w' => ∃ N, e = .returned (.iface 133 (.pointer (some ⟨N, 0, none⟩))) ∧ w.heap.size ≤ N ∧ w'.heap[N]? = some (.cells #[.string fn, .string s, ev] 138 (0, 0)) ∧ Below w.heap.size w w' := Any.strconv_toError_range YtgpjjlkkfddjnaaDoor.laysC245 fn s base bits ev w hlim hv hev
theorem YtgpjjlkkfddjnaaDoor.internal_strconv_lower (c : Int) (w : World) :
    Calls Tryd.prog 85 #[.int .u8 c] w fun e w' => e = .returned (.int .u8 (bits .or .u8 c 32)) ∧ w' = w := Any.internal_strconv_lower YtgpjjlkkfddjnaaDoor.lays321 c w
end Go.Proofs
/-
  strconv.ParseUint at the base 16; a chunk's size.
-/
namespace Go.Proofs.YtgpjjlkkfddjnaaDoor
open Go.RowKit

def dv (c : UInt8) : Nat := if 48 ≤ c.toNat ∧ c.toNat ≤ 57 then c.toNat - 48 else if 65 ≤ c.toNat ∧ c.toNat ≤ 70 then c.toNat - 55 else if 97 ≤ c.toNat ∧ c.toNat ≤ 102 then c.toNat - 87 else 99
def digs (b : Nat) : Nat → List UInt8 → Option Nat
  | n, [] => some n
  | n, c :: r => if dv c < b then digs b (b * n + dv c) r else none
/-- strconv.ErrSyntax and ErrRange hold some error. -/
def Er (w : World) : Prop := (∃ ev, w.cell? ⟨2, 0, none⟩ = some ev ∧ (ev = .nilIface ∨ ∃ te pe, ev = .iface te pe)) ∧ ∃ ev, w.cell? ⟨3, 0, none⟩ = some ev ∧ (ev = .nilIface ∨ ∃ te pe, ev = .iface te pe)
theorem Er.below {w w' : World} (h : Er w) {B : Nat} (hb : Below B w w') (hB : w.heap.size ≤ B) : Er w' := by
  obtain ⟨⟨e1, h1, h2⟩, e2, h3, h4⟩ := h
  have p1 : 2 < w.heap.size := block_lt_of_cell h1
  have p2 : 3 < w.heap.size := block_lt_of_cell h3
  exact ⟨⟨e1, (hb.cell (by show 2 < B; omega)).trans h1, h2⟩, e2, (hb.cell (by show 3 < B; omega)).trans h3, h4⟩

theorem low_fin : ∀ n : Fin 256, ¬ (48 ≤ n.val ∧ n.val ≤ 57) → (0 ≤ bits .or .u8 (n.val : Int) 32 ∧ bits .or .u8 (n.val : Int) 32 ≤ 255) ∧ ((97 ≤ bits .or .u8 (n.val : Int) 32 ∧ bits .or .u8 (n.val : Int) 32 ≤ 122) → if bits .or .u8 (n.val : Int) 32 < 103 then ((dv (UInt8.ofNat n.val) : Int) = bits .or .u8 (n.val : Int) 32 - 87) else dv (UInt8.ofNat n.val) = 99) ∧ (¬ (97 ≤ bits .or .u8 (n.val : Int) 32 ∧ bits .or .u8 (n.val : Int) 32 ≤ 122) → dv (UInt8.ofNat n.val) = 99) ∧ (n.val = 95 → bits .or .u8 (n.val : Int) 32 = 127) := by decide +kernel
theorem low_facts (c : UInt8) (h : ¬ (48 ≤ c.toNat ∧ c.toNat ≤ 57)) : (0 ≤ bits .or .u8 (c.toNat : Int) 32 ∧ bits .or .u8 (c.toNat : Int) 32 ≤ 255) ∧ ((97 ≤ bits .or .u8 (c.toNat : Int) 32 ∧ bits .or .u8 (c.toNat : Int) 32 ≤ 122) → if bits .or .u8 (c.toNat : Int) 32 < 103 then ((dv c : Int) = bits .or .u8 (c.toNat : Int) 32 - 87) else dv c = 99) ∧ (¬ (97 ≤ bits .or .u8 (c.toNat : Int) 32 ∧ bits .or .u8 (c.toNat : Int) 32 ≤ 122) → dv c = 99) ∧ (c.toNat = 95 → bits .or .u8 (c.toNat : Int) 32 = 127) := by
  have := low_fin ⟨c.toNat, c.toNat_lt⟩ h
  simpa using this
def puN (l : List UInt8) : Option Nat := if l = [] then none else digs 16 0 l
/-- What a reading of digits tells. -/
def PuX (l : List UInt8) (e : Ending) : Prop :=
  ∃ x ev, e = .returned (.tuple #[.int .u64 x, ev]) ∧ 0 ≤ x ∧ x ≤ 18446744073709551615 ∧ (ev = .nilIface ∨ ev = .iface 131 (.int .i64 2) ∨ ev = .iface 131 (.int .i64 1)) ∧ (l.length ≤ 8 → (∃ n : Nat, puN l = some n ∧ x = (n : Int) ∧ ev = .nilIface) ∨ (puN l = none ∧ ev = .iface 131 (.int .i64 2)))
theorem PuX.no {l : List UInt8} {e : Ending} (h : l.length ≤ 8 → puN l = none) (he : e = .returned (.tuple #[.int .u64 0, .iface 131 (.int .i64 2)])) : PuX l e :=
  ⟨0, _, he, by omega, by omega, .inr (.inl rfl), fun h8 => .inr ⟨h h8, rfl⟩⟩
theorem PuX.range {l : List UInt8} {e : Ending} (h : ¬ l.length ≤ 8) (he : e = .returned (.tuple #[.int .u64 18446744073709551615, .iface 131 (.int .i64 1)])) : PuX l e :=
  ⟨_, _, he, by omega, by omega, .inr (.inr rfl), fun h8 => absurd h8 h⟩
theorem PuX.yes {l : List UInt8} {e : Ending} {x : Int} (h0 : 0 ≤ x) (h1 : x ≤ 18446744073709551615) (h : l.length ≤ 8 → ∃ n : Nat, puN l = some n ∧ x = (n : Int)) (he : e = .returned (.tuple #[.int .u64 x, .nilIface])) : PuX l e :=
  ⟨x, _, he, h0, h1, .inl rfl, fun h8 => by obtain ⟨n, a, b⟩ := h h8; exact .inl ⟨n, a, b, rfl⟩⟩

theorem pu_aux {a : Int} {acc n : Nat} (hn : 48 ≤ n) (h : a * 16 + ((n - 48 : Nat) : Int) = (acc : Int)) : a * 16 + ((n : Int) - 48) = (acc : Int) := by omega
theorem pu_aux2 {a q : Int} {acc d : Nat} (hd : (d : Int) = q - 87) (h : a * 16 + (d : Int) = (acc : Int)) : a * 16 + (q - 97 + 10) = (acc : Int) := by omega
set_option maxRecDepth 20000 in
set_option maxHeartbeats 6400000 in
theorem parseUint_any (s : ByteArray) (w : World) (h1 : 1 ≤ s.size) (h8 : s.size ≤ 1000000000) :
    Calls Tryd.prog 74 #[.string s, .int .i64 16, .int .i64 64] w fun e w' => PuX s.data.toList e ∧ Below w.heap.size w w' := by
  have hse : s.toList.isEmpty = false := by
    rw [Lib.toList_data]
    cases h : s.data.toList with
    | nil =>
      have : s.data.toList.length = 0 := by rw [h]; rfl
      have e : s.data.toList.length = s.size := by simp
      omega
    | cons a r => rfl
  have hcv := Lib.run_convert_string_bytes (P := Tryd.prog) w 9 22 5 s (u := .string) Tryd.underlying9 Tryd.underlying22 Tryd.underlying5
  have hB : ∀ j, j < s.size → (Lib.bytesWorld w 5 s).cell? ⟨w.heap.size, j, none⟩ = some (.int .u8 (s.data.toList.getD j 0).toNat) := fun j hj => Lib.bytesWorld_cell w 5 s j hj
  have HB1 : Hid (Below w.heap.size w (Lib.bytesWorld w 5 s)) := ⟨rfl, rfl, rfl, by rw [Lib.bytesWorld_size]; omega, fun b hb => Lib.bytesWorld_at_old w 5 s b hb⟩
  obtain ⟨W1, hW1⟩ : ∃ W1, W1 = Lib.bytesWorld w 5 s := ⟨_, rfl⟩
  rw [← hW1] at hcv hB HB1
  clear hW1
  obtain ⟨bs, hL⟩ : ∃ bs, bs = s.data.toList := ⟨_, rfl⟩
  have hLn : bs.length = s.size := by rw [hL, Lib.size_eq]
  rw [← hL] at hB ⊢
  clear hL
  have HPN : Hid (puN bs = digs 16 0 bs) := by
    show _ = _
    rw [puN, if_neg]
    intro h
    rw [h] at hLn
    simp at hLn
    omega
  have hmx : IntKind.u64.wrap (IntKind.u64.wrap 18446744073709551616 - 1) = 18446744073709551615 := by decide
  go_enter Tryd.func74, Tryd.ntmps74
  go_wp2
  clear hmx
  go_loop [12, 13, 101] (fun vu vn vi => ∃ (k : Nat) (a : Int), vu = .bool false ∧ vn = .int .u64 a ∧ vi = .int .i64 k ∧ k ≤ s.size ∧ 0 ≤ a ∧ a ≤ 18446744073709551615 ∧ Hid (bs.length ≤ 8 → ∃ acc : Nat, a = (acc : Int) ∧ acc < 16 ^ k ∧ digs 16 0 bs = digs 16 acc (bs.drop k)))
    (fun _ _ vi => s.size - (intOf vi).toNat)
  case atStart => exact ⟨0, 0, rfl, rfl, rfl, by omega, by omega, by omega, fun _ => ⟨0, rfl, by decide, rfl⟩⟩
  case round =>
    obtain ⟨k, a, rfl, rfl, rfl, hk, a0, a1, hh⟩ := hrel
    by_cases hkn : k < s.size
    · have hc := hB k hkn
      have hdrop : bs.drop k = bs[k]'(by omega) :: bs.drop (k + 1) := List.drop_eq_getElem_cons (by omega)
      have hget : bs.getD k 0 = bs[k]'(by omega) := by simp [List.getD, List.getElem?_eq_getElem (show k < bs.length by omega)]
      have hh2 := hh.out
      rw [hdrop] at hh2
      rw [hget] at hc
      generalize bs[k]'(by omega) = c at hc hh2
      have hc256 : c.toNat < 256 := c.toNat_lt
      have HH := (show Hid (bs.length ≤ 8 → ∃ acc : Nat, a = (acc : Int) ∧ acc < 16 ^ k ∧ digs 16 0 bs = digs 16 acc (c :: bs.drop (k + 1))) from hh2)
      have HR : Hid (1152921504606846976 ≤ a → ¬ bs.length ≤ 8) := by
        intro ha h8
        obtain ⟨acc, e1, e2, _⟩ := HH.out h8
        have hpow : 16 ^ k ≤ 16 ^ 8 := Nat.pow_le_pow_right (by omega) (by omega)
        have : (16 : Nat) ^ 8 = 4294967296 := by decide
        omega
      have HS : Hid (dv c < 16 → bs.length ≤ 8 → ∃ acc : Nat, a * 16 + (dv c : Int) = (acc : Int) ∧ acc < 16 ^ (k + 1) ∧ digs 16 0 bs = digs 16 acc (bs.drop (k + 1))) := by
        intro hd h8
        obtain ⟨acc, e1, e2, e3⟩ := HH.out h8
        have hps : 16 ^ (k + 1) = 16 ^ k * 16 := Nat.pow_succ 16 k
        refine ⟨acc * 16 + dv c, by omega, by omega, ?_⟩
        rw [e3]
        simp only [digs]
        rw [if_pos hd, Nat.mul_comm 16 acc]
      have HN0 : Hid (¬ dv c < 16 → bs.length ≤ 8 → puN bs = none) := by
        intro hd h8
        obtain ⟨acc, e1, e2, e3⟩ := HH.out h8
        rw [HPN.out, e3]
        simp only [digs]
        rw [if_neg hd]
      clear hB hdrop hget hh hh2 HH
      have hcut : 1152921504606846976 ≤ a ∨ a < 1152921504606846976 := by omega
      by_cases hdig : 48 ≤ c.toNat ∧ c.toNat ≤ 57
      · obtain ⟨hd0, hd1⟩ := hdig
        have hdv : dv c = c.toNat - 48 := by unfold dv; rw [if_pos ⟨hd0, hd1⟩]
        rcases hcut with hcut | hcut
        · have HN := HR.out hcut
          have HQ : Hid (¬ bs.length ≤ 8) := HN
          clear HN hdv
          go_wp2
          go_ret2
          exact ⟨PuX.range HQ.out rfl, HB1.out⟩
        · have hq := HS.out (by omega)
          have HN : Hid (bs.length ≤ 8 → ∃ acc : Nat, a * 16 + ((c.toNat : Int) - 48) = (acc : Int) ∧ acc < 16 ^ (k + 1) ∧ digs 16 0 bs = digs 16 acc (bs.drop (k + 1))) := by
            intro h8
            obtain ⟨acc, e1, e2, e3⟩ := hq h8
            refine ⟨acc, ?_, e2, e3⟩
            rw [hdv] at e1
            exact pu_aux hd0 e1
          clear hdv hq
          go_wp2
          refine ⟨⟨k + 1, a * 16 + ((c.toNat : Int) - 48), rfl, (by first | rfl | (congr 1; omega)), (by first | rfl | (congr 1; omega)), by omega, by omega, by omega, HN⟩, by simp [intOf]; omega⟩
      · obtain ⟨⟨hv0, hv1⟩, hl1, hl2, h95⟩ := low_facts c hdig
        generalize hq : bits .or .u8 (c.toNat : Int) 32 = q at *
        have HLW := (show Hid (∀ W, Calls Tryd.prog 85 #[.int .u8 (c.toNat : Int)] W fun e w' => e = .returned (.int .u8 q) ∧ w' = W) from fun W => by rw [← hq]; exact internal_strconv_lower _ _)
        clear hq
        have hnd : (c.toNat : Int) < 48 ∨ (57 : Int) < (c.toNat : Int) := by omega
        by_cases hq1 : 97 ≤ q ∧ q ≤ 122
        · have hl := hl1 hq1
          obtain ⟨hqa, hqb⟩ := hq1
          have h95' : ((c.toNat : Int) == 95) = false := by
            rw [beq_eq_false_iff_ne]
            intro e
            have := h95 (by omega)
            omega
          by_cases hq2 : q < 103
          · rw [if_pos (by omega)] at hl
            rcases hcut with hcut | hcut
            · have HQ : Hid (¬ bs.length ≤ 8) := HR.out hcut
              clear hl hl1 hl2 hdig h95
              rcases hnd with hnd | hnd
              all_goals
                go_wp2_with (go_at_call 85; refine (HLW.out _).mono ?_; rintro e w' ⟨rfl, rfl⟩)
                go_ret2
                exact ⟨PuX.range HQ.out rfl, HB1.out⟩
            · have hqq := HS.out (by omega)
              have HN : Hid (bs.length ≤ 8 → ∃ acc : Nat, a * 16 + (q - 97 + 10) = (acc : Int) ∧ acc < 16 ^ (k + 1) ∧ digs 16 0 bs = digs 16 acc (bs.drop (k + 1))) := by
                intro h8
                obtain ⟨acc, e1, e2, e3⟩ := hqq h8
                refine ⟨acc, ?_, e2, e3⟩
                exact pu_aux2 hl e1
              clear hl hl1 hl2 hdig h95 hqq
              rcases hnd with hnd | hnd
              all_goals
                go_wp2_with (go_at_call 85; refine (HLW.out _).mono ?_; rintro e w' ⟨rfl, rfl⟩)
                refine ⟨⟨k + 1, a * 16 + (q - 97 + 10), rfl, (by first | rfl | (congr 1; omega)), (by first | rfl | (congr 1; omega)), by omega, by omega, by omega, HN⟩, by simp [intOf]; omega⟩
          · have HN : Hid (bs.length ≤ 8 → puN bs = none) := HN0.out (by split at hl <;> omega)
            clear hl hl1 hl2 hdig h95 hcut
            rcases hnd with hnd | hnd
            all_goals
              go_wp2_with (go_at_call 85; refine (HLW.out _).mono ?_; rintro e w' ⟨rfl, rfl⟩)
              go_ret2
              exact ⟨PuX.no HN.out rfl, HB1.out⟩
        · have hl := hl2 hq1
          have HN : Hid (bs.length ≤ 8 → puN bs = none) := HN0.out (by omega)
          by_cases hc95 : c.toNat = 95
          · obtain rfl : q = 127 := h95 hc95
            rw [hc95] at hc HLW
            have hc95i : ((95 : Nat) : Int) = 95 := rfl
            rw [hc95i] at hc HLW
            clear hl hl1 hl2 hdig h95 hc95 hc95i hq1 hv0 hv1 hnd hcut
            go_wp2_with (go_at_call 85; refine (HLW.out _).mono ?_; rintro e w' ⟨rfl, rfl⟩)
            all_goals go_ret2
            all_goals exact ⟨PuX.no HN.out rfl, HB1.out⟩
          · have h95' : ((c.toNat : Int) == 95) = false := by
              rw [beq_eq_false_iff_ne]
              omega
            clear hl hl1 hl2 hdig h95 hc95 hcut
            rcases hnd with hnd | hnd
            all_goals
              go_wp2_with (go_at_call 85; refine (HLW.out _).mono ?_; rintro e w' ⟨rfl, rfl⟩)
              all_goals go_ret2
              all_goals exact ⟨PuX.no HN.out rfl, HB1.out⟩
    · have hkk : k = s.size := by omega
      subst hkk
      have HN : Hid (bs.length ≤ 8 → ∃ n : Nat, puN bs = some n ∧ a = (n : Int)) := by
        intro h8
        obtain ⟨acc, e1, e2, e3⟩ := hh.out h8
        refine ⟨acc, ?_, e1⟩
        rw [HPN.out, e3, List.drop_eq_nil_of_le (by omega)]
        rfl
      clear hh
      go_wp2
      go_ret2
      exact ⟨PuX.yes a0 a1 HN.out rfl, HB1.out⟩
/-- What ParseUint tells. -/
def PbX (l : List UInt8) (e : Ending) : Prop :=
  ∃ x ev, e = .returned (.tuple #[.int .u64 x, ev]) ∧ 0 ≤ x ∧ x ≤ 18446744073709551615 ∧ (ev = .nilIface ∨ ∃ N, ev = .iface 133 (.pointer (some ⟨N, 0, none⟩))) ∧ (l.length ≤ 8 → (∃ n : Nat, puN l = some n ∧ x = (n : Int) ∧ ev = .nilIface) ∨ (puN l = none ∧ ev ≠ .nilIface))
set_option maxRecDepth 20000 in
set_option maxHeartbeats 1600000 in
theorem parsePub_any (s : ByteArray) (w : World) (h8 : s.size ≤ 1000000000) (he : Er w) :
    Calls Tryd.prog 58 #[.string s, .int .i64 16, .int .i64 64] w fun e w' => PbX s.data.toList e ∧ Below w.heap.size w w' := by
  have hlen : s.data.toList.length = s.size := by simp
  have HT := (show Hid (∀ W k, Er W → (k = 1 ∨ k = 2) → Calls Tryd.prog 75 #[.string ⟨#[80, 97, 114, 115, 101, 85, 105, 110, 116]⟩, .string s, .int .i64 16, .int .i64 64, .iface 131 (.int .i64 k)] W fun e w' => ∃ N, e = .returned (.iface 133 (.pointer (some ⟨N, 0, none⟩))) ∧ Below W.heap.size W w') from fun W k hW hk => by
    obtain ⟨⟨ev, h1, h2⟩, ev2, h3, h4⟩ := hW
    rcases hk with rfl | rfl
    · refine (strconv_toError_range _ s 16 64 ev2 W (by omega) h3 h4).mono ?_
      rintro e w' ⟨M, h5, -, -, h6⟩
      exact ⟨M, h5, h6⟩
    · refine (strconv_toError_syntax _ s 16 64 ev W (by omega) h1 h2).mono ?_
      rintro e w' ⟨M, h5, -, -, h6⟩
      exact ⟨M, h5, h6⟩)
  have HE : Hid (Er w) := he
  have HI : Hid (Calls Tryd.prog 74 #[.string s, .int .i64 16, .int .i64 64] w fun e w' => PuX s.data.toList e ∧ Below w.heap.size w w') := by
    by_cases h1 : 1 ≤ s.size
    · exact parseUint_any s w h1 h8
    · have hnil : s.data.toList = [] := List.eq_nil_of_length_eq_zero (by omega)
      have hse : s.toList.isEmpty = true := by rw [Lib.toList_data, hnil]; rfl
      have HNL : Hid (s.data.toList.length ≤ 8 → puN s.data.toList = none) := fun _ => by rw [hnil]; rfl
      clear hnil he HT HE
      go_enter Tryd.func74, Tryd.ntmps74
      go_wp2
      go_ret2
      exact ⟨PuX.no HNL.out rfl, Below.refl _ _⟩
  clear he
  go_enter Tryd.func58, Tryd.ntmps58
  go_wp2_with fail
  refine Calls.mono HI.out ?_
  rintro e w1 ⟨⟨x, ev, rfl, x0, x1, hev, hpu⟩, hb1⟩
  have HP := (show Hid _ from hpu)
  have HB : Hid (Below w.heap.size w w1) := hb1
  clear hpu hb1 HI
  rcases hev with rfl | rfl | rfl
  · go_wp2
    go_ret2
    refine ⟨⟨x, _, rfl, x0, x1, .inl rfl, fun h => ?_⟩, HB.out⟩
    rcases HP.out h with ⟨n, h1, h2, _⟩ | ⟨_, h⟩
    · exact .inl ⟨n, h1, h2, rfl⟩
    · cases h
  · have K := HT.out w1 2 (HE.out.below HB.out (Nat.le_refl _)) (.inr rfl)
    go_wp2_with fail
    refine Calls.mono K ?_
    rintro e w2 ⟨M, rfl, hb2⟩
    have HB2 : Hid (Below w.heap.size w w2) := HB.out.trans (hb2.mono (HB.out.size))
    clear hb2 K
    go_wp2
    go_ret2
    refine ⟨⟨x, _, rfl, x0, x1, .inr ⟨M, rfl⟩, fun h => ?_⟩, HB2.out⟩
    rcases HP.out h with ⟨n, _, _, h⟩ | ⟨h, _⟩
    · cases h
    · exact .inr ⟨h, by simp⟩
  · have K := HT.out w1 1 (HE.out.below HB.out (Nat.le_refl _)) (.inl rfl)
    go_wp2_with fail
    refine Calls.mono K ?_
    rintro e w2 ⟨M, rfl, hb2⟩
    have HB2 : Hid (Below w.heap.size w w2) := HB.out.trans (hb2.mono (HB.out.size))
    clear hb2 K
    go_wp2
    go_ret2
    refine ⟨⟨x, _, rfl, x0, x1, .inr ⟨M, rfl⟩, fun h => ?_⟩, HB2.out⟩
    rcases HP.out h with ⟨n, _, _, h⟩ | ⟨h, h'⟩
    · cases h
    · exact .inr ⟨h, by simp⟩
end Go.Proofs.YtgpjjlkkfddjnaaDoor
/-
  The reader's step over a text.
-/
namespace Go.Proofs.YtgpjjlkkfddjnaaDoor
open Go.RowKit

theorem txB_eq {t l : List UInt8} {k : Nat} (hk : k = min t.length l.length) : (l.take k == ((⟨t.toArray⟩ : ByteArray).extract 0 k).toList) = txB t l := by
  have e : ((⟨t.toArray⟩ : ByteArray).extract 0 k).toList = t.take k := by
    rw [Lib.toList_data]
    rw [ByteArray.data_extract]
    simp
  rw [e, txB, ← hk, Bool.eq_iff_iff]
  simp
theorem tx_fin {w w2 w3 : World} {p B : Nat} {s : RS} {t : List UInt8} {b : Bool} {e : Ending} (hb : b = txB t s.1) (hm : Md (· = p) w w2) (h : TkR w2 w3 p B (tkS t.length (exS b s)) e) : (∃ a cap, Rx w3 p B a cap (txS t s)) ∧ Md (· = p) w w3 := by
  subst hb
  exact ⟨h.rest, hm.trans h.md⟩
set_option maxRecDepth 20000 in
set_option maxHeartbeats 4000000 in
theorem text_any (p B : Nat) (a : Option Addr) (cap : Nat) (s : RS) (t : List UInt8) (w : World) (h : Rx w p B a cap s) (ht : t.length ≤ 100) (hl : s.1.length ≤ 1000000000) :
    Calls Tryd.prog 39 #[.pointer (some ⟨p, 0, none⟩), .string ⟨t.toArray⟩] w fun e w' => e = .returned (.tuple #[]) ∧ (∃ a cap, Rx w' p B a cap (txS t s)) ∧ Md (· = p) w w' := by
  have H : Hid (Rx w p B a cap s) := h
  have HL : Hid (s.1.length ≤ 1000000000 ∧ t.length ≤ 100) := ⟨hl, ht⟩
  have c0 : w.cell? ⟨p, 0, none⟩ = some (.slice a s.1.length cap) := (cell_blk h.box 0).trans rfl
  have hcap := h.cap_
  have HBy : Hid (Bytes w a s.1) := h.by_
  clear h
  obtain ⟨l, hL⟩ : ∃ l, l = s.1 := ⟨_, rfl⟩
  rw [← hL] at c0 hl hcap HBy
  have HLS : Hid (l = s.1) := hL
  clear hL
  have KE := (show Hid (∀ W b, Below w.heap.size w W → Calls Tryd.prog 41 #[.pointer (some ⟨p, 0, none⟩), .bool b] W fun e w' => e = .returned (.tuple #[]) ∧ Rx w' p B a cap (exS b s) ∧ Md (· = p) w w') from fun W b hb => (expect_any p B a cap s b W (H.out.keep hb)).mono fun e w' ⟨h1, h2, h3⟩ => ⟨h1, h2, (Md.ofBelow hb).trans h3⟩)
  have htl : (⟨t.toArray⟩ : ByteArray).size = t.length := by simp [ByteArray.size]
  go_enter Tryd.func39, Tryd.ntmps39
  by_cases hle : t.length ≤ l.length
  · have hci := convert_bytes w.drew a cap (l.take t.length) (bytes_take _ (HBy.out.below ((Below.refl _ w).drew) (Nat.le_refl _)))
    rw [show (l.take t.length).length = t.length from by rw [List.length_take]; omega] at hci
    have HB := (show Hid _ from txB_eq (t := t) (l := l) (k := t.length) (by omega))
    go_upto_region 1 with fail
    go_region_with (go_at_call 41; (with_reducible refine Calls.mono (KE.out _ _ ((Below.refl _ w).drew)) ?_); rintro e w2 ⟨rfl, hx2, hm2⟩)
    all_goals
      go_wp2_with (go_at_call 40; refine Calls.mono (take_any p B a cap _ t.length w2 hx2 (by omega)) ?_; rintro e w3 ht3; obtain ⟨da, dc, rfl, -⟩ := ht3.told)
      refine bodyPost_end (results_none rfl _ _ _) rfl ?_
      refine ⟨rfl, tx_fin (by rw [← HLS.out]; first | exact HB.out | (have h9 := HB.out; rw [List.take_length] at h9; exact h9)) hm2 ht3⟩
  · have hci := convert_bytes w.drew a cap (l.take l.length) (bytes_take _ (HBy.out.below ((Below.refl _ w).drew) (Nat.le_refl _)))
    rw [show (l.take l.length).length = l.length from by rw [List.length_take]; omega] at hci
    have HB := (show Hid _ from txB_eq (t := t) (l := l) (k := l.length) (by omega))
    have hlt : l.length < t.length := by omega
    go_upto_region 1 with fail
    go_region_with (go_at_call 41; (with_reducible refine Calls.mono (KE.out _ _ ((Below.refl _ w).drew)) ?_); rintro e w2 ⟨rfl, hx2, hm2⟩)
    all_goals
      go_wp2_with (go_at_call 40; refine Calls.mono (take_any p B a cap _ t.length w2 hx2 (by omega)) ?_; rintro e w3 ht3; obtain ⟨da, dc, rfl, -⟩ := ht3.told)
      refine bodyPost_end (results_none rfl _ _ _) rfl ?_
      refine ⟨rfl, tx_fin (by rw [← HLS.out]; first | exact HB.out | (have h9 := HB.out; rw [List.take_length] at h9; exact h9)) hm2 ht3⟩
end Go.Proofs.YtgpjjlkkfddjnaaDoor
/-
  A chunk's length, read out of its digits.
-/
namespace Go.Proofs.YtgpjjlkkfddjnaaDoor
open Go.RowKit

theorem dg_dv {c : UInt8} (h : isDg c = true) : dv c = dvN c ∧ dvN c < 16 := by
  simp only [isDg, Bool.or_eq_true, decide_eq_true_eq] at h
  unfold dv dvN
  rcases h with h | h
  · rw [if_pos h, if_pos h]
    omega
  · rw [if_neg (by omega), if_neg (by omega), if_pos h, if_neg (by omega)]
    omega
theorem digs_num : ∀ (d : List UInt8) (n : Nat), (∀ c ∈ d, isDg c = true) → digs 16 n d = some (d.foldl (fun n c => n * 16 + dvN c) n)
  | [], n, _ => rfl
  | c :: d, n, h => by
    obtain ⟨h1, h2⟩ := dg_dv (h c (by simp))
    rw [digs, if_pos (by omega), h1, digs_num d _ (fun x hx => h x (by simp [hx])), List.foldl_cons, Nat.mul_comm 16 n]
theorem num_lt : ∀ (d : List UInt8) (n : Nat), (∀ c ∈ d, isDg c = true) → d.foldl (fun n c => n * 16 + dvN c) n < (n + 1) * 16 ^ d.length
  | [], n, _ => by simp
  | c :: d, n, h => by
    obtain ⟨_, h2⟩ := dg_dv (h c (by simp))
    have := num_lt d (n * 16 + dvN c) (fun x hx => h x (by simp [hx]))
    rw [List.foldl_cons, List.length_cons, Nat.pow_succ, Nat.mul_comm (16 ^ d.length) 16, ← Nat.mul_assoc]
    exact Nat.lt_of_lt_of_le this (Nat.mul_le_mul_right _ (by omega))
theorem num_small {d : List UInt8} (h : ∀ c ∈ d, isDg c = true) (hl : d.length ≤ 8) : numL d < 4294967296 := by
  have h1 := num_lt d 0 h
  have h2 : 16 ^ d.length ≤ 16 ^ 8 := Nat.pow_le_pow_right (by omega) hl
  unfold numL
  simp only [Nat.zero_add, Nat.one_mul] at h1
  have : (16 : Nat) ^ 8 = 4294967296 := by decide
  omega
set_option maxRecDepth 20000 in
set_option maxHeartbeats 1600000 in
theorem parse_nil (w : World) (he : Er w) : Calls Tryd.prog 58 #[.string ⟨#[]⟩, .int .i64 16, .int .i64 64] w fun e w' => (∃ ev, e = .returned (.tuple #[.int .u64 0, ev])) ∧ Below w.heap.size w w' := by
  have HI : Hid (Calls Tryd.prog 74 #[.string ⟨#[]⟩, .int .i64 16, .int .i64 64] w fun e w' => e = .returned (.tuple #[.int .u64 0, .iface 131 (.int .i64 2)]) ∧ w' = w) := by
    clear he
    show Calls _ _ _ _ _
    go_enter Tryd.func74, Tryd.ntmps74
    go_wp2
    go_ret2
    exact ⟨rfl, rfl⟩
  have HT : Hid (Calls Tryd.prog 75 #[.string ⟨#[80, 97, 114, 115, 101, 85, 105, 110, 116]⟩, .string ⟨#[]⟩, .int .i64 16, .int .i64 64, .iface 131 (.int .i64 2)] w fun e w' => ∃ N, e = .returned (.iface 133 (.pointer (some ⟨N, 0, none⟩))) ∧ Below w.heap.size w w') := by
    obtain ⟨⟨ev, h1, h2⟩, -⟩ := he
    refine (strconv_toError_syntax _ ⟨#[]⟩ 16 64 ev w (by decide) h1 h2).mono ?_
    rintro e w' ⟨M, h5, -, -, h6⟩
    exact ⟨M, h5, h6⟩
  clear he
  go_enter Tryd.func58, Tryd.ntmps58
  go_wp2_with fail
  refine Calls.mono HI.out ?_
  rintro e w1 ⟨rfl, rfl⟩
  have K := HT.out
  go_wp2_with fail
  refine Calls.mono K ?_
  rintro e w2 ⟨M, rfl, hb2⟩
  have HB2 : Hid (Below w1.heap.size w1 w2) := hb2
  clear hb2 K
  go_wp2
  go_ret2
  exact ⟨⟨_, rfl⟩, HB2.out⟩
set_option maxRecDepth 20000 in
set_option maxHeartbeats 1600000 in
theorem number_any (d : List UInt8) (w : World) (hd : ∀ c ∈ d, isDg c = true) (hl : d.length ≤ 8) (he : Er w) :
    Calls Tryd.prog 37 #[.string ⟨d.toArray⟩] w fun e w' => e = .returned (.int .i64 (numL d : Int)) ∧ Below w.heap.size w w' := by
  have K : Hid (Calls Tryd.prog 58 #[.string ⟨d.toArray⟩, .int .i64 16, .int .i64 64] w fun e w' => (∃ ev, e = .returned (.tuple #[.int .u64 (numL d : Int), ev])) ∧ Below w.heap.size w w') := by
    show Calls _ _ _ _ _
    by_cases h0 : d = []
    · subst h0
      exact parse_nil w he
    · have hs : (⟨d.toArray⟩ : ByteArray).size = d.length := by simp [ByteArray.size]
      refine (parsePub_any ⟨d.toArray⟩ w (by rw [hs]; omega) he).mono ?_
      rintro e w' ⟨⟨x, ev, h1, -, -, -, h2⟩, h3⟩
      refine ⟨?_, h3⟩
      have hp : puN d = some (numL d) := by rw [puN, if_neg h0, digs_num d 0 hd]; rfl
      rcases h2 (by simpa using hl) with ⟨n, h4, h5, h6⟩ | ⟨h4, _⟩
      · simp only at h4
        rw [hp] at h4
        simp only [Option.some.injEq] at h4
        exact ⟨ev, by rw [h1, h5, h4]⟩
      · simp only at h4
        rw [hp] at h4
        cases h4
  have hn := num_small hd hl
  obtain ⟨n, hN⟩ : ∃ n, n = numL d := ⟨_, rfl⟩
  rw [← hN] at K hn ⊢
  have hn0 : (n : Int) < 4294967296 := by omega
  clear he hN
  go_enter Tryd.func37, Tryd.ntmps37
  go_wp2_with fail
  refine Calls.mono K.out ?_
  rintro e w1 ⟨⟨ev, rfl⟩, hb⟩
  have HB : Hid (Below w.heap.size w w1) := hb
  clear K hb
  go_wp2
  go_ret
  exact ⟨rfl, HB.out⟩
end Go.Proofs.YtgpjjlkkfddjnaaDoor
/-
  A chunk is read (reader.chunk).
-/
namespace Go.Proofs.YtgpjjlkkfddjnaaDoor
open Go.RowKit

theorem Er.md {p : Nat} {w w' : World} (h : Er w) (hm : Md (· = p) w w') (hp : 3 < p) : Er w' := by
  obtain ⟨⟨e1, h1, h2⟩, e2, h3, h4⟩ := h
  have p1 : 2 < w.heap.size := block_lt_of_cell h1
  have p2 : 3 < w.heap.size := block_lt_of_cell h3
  exact ⟨⟨e1, (World.cell?_of_block (w := w) (a := ⟨2, 0, none⟩) (hm.block 2 p1 (by omega))).trans h1, h2⟩, e2, (World.cell?_of_block (w := w) (a := ⟨3, 0, none⟩) (hm.block 3 p2 (by omega))).trans h3, h4⟩
theorem tk_rest (n : Nat) (s : RS) : (tkS n s).2.1.length ≤ s.1.length := by
  unfold tkS
  split
  · split
    · exact Nat.le_refl _
    · simp
  · exact Nat.le_refl _
theorem ex_rest (b : Bool) (s : RS) : (exS b s).1.length ≤ s.1.length := by rw [exS_rest]; exact Nat.le_refl _
theorem dg_rest (least most : Nat) (s : RS) : (dgS least most s).2.1.length ≤ s.1.length := Nat.le_trans (tk_rest _ _) (ex_rest _ _)
theorem tx_rest (t : List UInt8) (s : RS) : (txS t s).1.length ≤ s.1.length := Nat.le_trans (tk_rest _ _) (ex_rest _ _)
theorem tk_len (n : Nat) (s : RS) : (tkS n s).1.length ≤ n := by
  unfold tkS
  split
  · split
    · exact Nat.zero_le _
    · rw [List.length_take]; omega
  · exact Nat.zero_le _
/-- What is taken as digits are digits, unless nothing is taken at all. -/
theorem dg_isDg {least most : Nat} {s : RS} : ∀ c ∈ (dgS least most s).1, isDg c = true := by
  intro c hc
  by_cases h0 : (exS (decide (least ≤ dnL most s.1) || decide (dnL most s.1 = s.1.length)) s).2 = 0
  · have hb : s.2 = 0 ∧ (decide (least ≤ dnL most s.1) || decide (dnL most s.1 = s.1.length)) = true := by
      unfold exS at h0
      split at h0
      · cases h0
      · next h =>
        refine ⟨h0, ?_⟩
        cases hx : (decide (least ≤ dnL most s.1) || decide (dnL most s.1 = s.1.length)) with
        | true => rfl
        | false => exact absurd ⟨h0, hx⟩ h
    have he : exS (decide (least ≤ dnL most s.1) || decide (dnL most s.1 = s.1.length)) s = s := by rw [hb.2]; simp [exS]
    rw [dgS, he] at hc
    unfold tkS at hc
    rw [if_pos hb.1] at hc
    split at hc
    · simp at hc
    · next hlt =>
      have hk := dnL_le most s.1
      have hm : max (dnL most s.1) least = dnL most s.1 := by
        have h2 := hb.2
        simp only [Bool.or_eq_true, decide_eq_true_eq] at h2
        rcases h2 with h2 | h2 <;> omega
      simp only [hm] at hc
      exact dg_digits c hc
  · rw [dgS, tkS_fault h0] at hc
    simp at hc
theorem dg_len {least most : Nat} {s : RS} (h : least ≤ most) : (dgS least most s).1.length ≤ most := by
  have := tk_len (max (dnL most s.1) least) (exS (decide (least ≤ dnL most s.1) || decide (dnL most s.1 = s.1.length)) s)
  have h2 := dnL_le most s.1
  rw [dgS]
  omega
/-- What is told of a chunk. -/
structure CkT (w w' : World) (p B : Nat) (r : CkR) (e : Ending) : Prop where
  told : ∃ da dc, e = .returned (.tuple #[.slice da r.data.length dc, .string ⟨r.sig.toArray⟩]) ∧ r.data.length ≤ dc ∧ Bytes w' da r.data ∧ (∀ x, da = some x → x.spot = none ∧ x.block < B) ∧ (da = none → dc = 0)
  rest : ∃ a cap, Rx w' p B a cap r.s
  md : Md (· = p) w w'
theorem ck_yes {s : RS} (h : numL (dgS 1 8 s).1 = 0) : (ckS s).s = exS (decide ((txS crT (tkS (numL (dgS 1 8 s).1) (txS crT (dgS 64 64 (txS sigT (dgS 1 8 s).2)).2)).2).1 = [])) (txS crT (tkS (numL (dgS 1 8 s).1) (txS crT (dgS 64 64 (txS sigT (dgS 1 8 s).2)).2)).2) := by
  simp only [ckS, if_pos h]
theorem ck_no {s : RS} (h : ¬ numL (dgS 1 8 s).1 = 0) : (ckS s).s = txS crT (tkS (numL (dgS 1 8 s).1) (txS crT (dgS 64 64 (txS sigT (dgS 1 8 s).2)).2)).2 := by
  simp only [ckS, if_neg h]
set_option maxRecDepth 20000 in
set_option maxHeartbeats 4000000 in
theorem chunk_any (p B : Nat) (a : Option Addr) (cap : Nat) (s : RS) (w : World) (h : Rx w p B a cap s) (hl : s.1.length ≤ 1000000000) (he : Er w) (hB : 3 < B) :
    Calls Tryd.prog 19 #[.pointer (some ⟨p, 0, none⟩)] w fun e w' => CkT w w' p B (ckS s) e := by
  have HP : Hid (3 < p) := by have := h.bp; show _ < _; omega
  have HE : Hid (Er w) := he
  have K1 := (show Hid _ from digits_any p B a cap s 1 8 w h (by omega) (by omega) hl)
  have HY := (show Hid _ from ck_yes (s := s))
  have HNO := (show Hid _ from ck_no (s := s))
  have HD := (show Hid ((ckS s).data = (tkS (numL (dgS 1 8 s).1) (txS crT (dgS 64 64 (txS sigT (dgS 1 8 s).2)).2)).1 ∧ (ckS s).sig = (dgS 64 64 (txS sigT (dgS 1 8 s).2)).1) from ⟨rfl, rfl⟩)
  obtain ⟨r, hr⟩ : ∃ r, r = ckS s := ⟨_, rfl⟩
  rw [← hr] at HY HNO HD ⊢
  have hd1 := dg_isDg (least := 1) (most := 8) (s := s)
  have hd2 := dg_len (least := 1) (most := 8) (s := s) (by omega)
  have hd3 := dg_rest 1 8 s
  obtain ⟨D, hDD⟩ : ∃ D, D = dgS 1 8 s := ⟨_, rfl⟩
  rw [← hDD] at K1 HY HNO HD hd1 hd2 hd3
  have K2 := (show Hid (∀ W, Er W → _) from fun W hW => number_any D.1 W hd1 hd2 hW)
  have hn := num_small hd1 hd2
  obtain ⟨n, hn2⟩ : ∃ n, n = numL D.1 := ⟨_, rfl⟩
  rw [← hn2] at K2 HY HNO HD hn
  have hl3 := tx_rest sigT D.2
  obtain ⟨S2, hS2⟩ : ∃ S2, S2 = txS sigT D.2 := ⟨_, rfl⟩
  rw [← hS2] at HY HNO HD hl3
  have hl4 := dg_rest 64 64 S2
  obtain ⟨G, hG⟩ : ∃ G, G = dgS 64 64 S2 := ⟨_, rfl⟩
  rw [← hG] at HY HNO HD hl4
  have hl5 := tx_rest crT G.2
  obtain ⟨S4, hS4⟩ : ∃ S4, S4 = txS crT G.2 := ⟨_, rfl⟩
  rw [← hS4] at HY HNO HD hl5
  have hl6 := tk_rest n S4
  obtain ⟨X, hX⟩ : ∃ X, X = tkS n S4 := ⟨_, rfl⟩
  rw [← hX] at HY HNO HD hl6
  obtain ⟨E6, hE6⟩ : ∃ E6, E6 = txS crT X.2 := ⟨_, rfl⟩
  rw [← hE6] at HY HNO
  have HR := (show Hid (S2 = txS sigT D.2 ∧ G = dgS 64 64 S2 ∧ S4 = txS crT G.2 ∧ X = tkS n S4 ∧ E6 = txS crT X.2) from ⟨hS2, hG, hS4, hX, hE6⟩)
  have HLN := (show Hid (D.2.1.length ≤ 1000000000 ∧ S2.1.length ≤ 1000000000 ∧ G.2.1.length ≤ 1000000000 ∧ S4.1.length ≤ 1000000000 ∧ X.2.1.length ≤ 1000000000) from by refine ⟨?_, ?_, ?_, ?_, ?_⟩ <;> omega)
  clear hr hDD hn2 hS2 hG hS4 hX hE6 hd1 hd2 hd3 hl3 hl4 hl5 hl6 h hl he hB
  go_enter Tryd.func19, Tryd.ntmps19
  go_wp2_with fail
  refine Calls.mono K1.out ?_
  rintro e w1 ⟨rfl, ⟨a1, c1, r1⟩, m1⟩
  have M1 := (show Hid (Md (· = p) w w1) from m1)
  have R1 := (show Hid _ from r1)
  have E1 := (show Hid (Er w1) from HE.out.md m1 HP.out)
  clear m1 r1 K1
  go_wp2_with fail
  refine Calls.mono (K2.out w1 E1.out) ?_
  rintro e w2 ⟨rfl, b2⟩
  have M2 := (show Hid (Md (· = p) w w2) from M1.out.below b2)
  have R2 := (show Hid _ from R1.out.keep b2)
  clear b2 K2
  go_wp2_with fail
  refine Calls.mono (text_any p B a1 c1 D.2 sigT w2 R2.out (by decide) HLN.out.1) ?_
  rw [← HR.out.1]
  rintro e w3 ⟨rfl, ⟨a3, c3, r3⟩, m3⟩
  have M3 := (show Hid (Md (· = p) w w3) from M2.out.trans m3)
  have R3 := (show Hid _ from r3)
  clear m3 r3
  go_wp2_with fail
  refine Calls.mono (digits_any p B a3 c3 S2 64 64 w3 R3.out (by omega) (by omega) HLN.out.2.1) ?_
  rw [← HR.out.2.1]
  rintro e w4 ⟨rfl, ⟨a4, c4, r4⟩, m4⟩
  have M4 := (show Hid (Md (· = p) w w4) from M3.out.trans m4)
  have R4 := (show Hid _ from r4)
  clear m4 r4
  go_wp2_with fail
  refine Calls.mono (text_any p B a4 c4 G.2 crT w4 R4.out (by decide) HLN.out.2.2.1) ?_
  rw [← HR.out.2.2.1]
  rintro e w5 ⟨rfl, ⟨a5, c5, r5⟩, m5⟩
  have M5 := (show Hid (Md (· = p) w w5) from M4.out.trans m5)
  have R5 := (show Hid _ from r5)
  clear m5 r5
  go_wp2_with fail
  refine Calls.mono (take_any p B a5 c5 S4 n w5 R5.out (by omega)) ?_
  rw [← HR.out.2.2.2.1]
  rintro e w6 h6
  obtain ⟨⟨da, dc, rfl, hdc, hB6, hlo6, han6⟩, ⟨a6, c6, r6⟩, m6⟩ := h6
  have M6 := (show Hid (Md (· = p) w w6) from M5.out.trans m6)
  have R6 := (show Hid _ from r6)
  have T6 := (show Hid (X.1.length ≤ dc ∧ Bytes w6 da X.1 ∧ (∀ x, da = some x → x.spot = none ∧ x.block < B) ∧ (da = none → dc = 0)) from ⟨hdc, hB6, hlo6, han6⟩)
  clear m6 r6 hdc hB6 hlo6 han6
  go_wp2_with fail
  refine Calls.mono (text_any p B a6 c6 X.2 crT w6 R6.out (by decide) HLN.out.2.2.2.2) ?_
  rw [← HR.out.2.2.2.2]
  rintro e w7 ⟨rfl, ⟨a7, c7, r7⟩, m7⟩
  have M7 := (show Hid (Md (· = p) w w7) from M6.out.trans m7)
  have R7 := (show Hid _ from r7)
  have B7 := (show Hid (Bytes w7 da X.1) from T6.out.2.1.md m7 (fun b off e => by have h1 := (T6.out.2.2.1 _ e).2; have h2 := r7.bp; simp only at h1; omega))
  clear m7 r7
  by_cases h0 : n = 0
  · have HYY := (show Hid _ from HY.out h0)
    have c0 : w7.cell? ⟨p, 0, none⟩ = some (.slice a7 E6.1.length c7) := (cell_blk R7.out.box 0).trans rfl
    have hni : (n : Int) = 0 := by omega
    go_wp2_with fail
    refine Calls.mono (expect_any p B a7 c7 E6 _ w7 R7.out) ?_
    rintro e w8 ⟨rfl, r8, m8⟩
    have M8 := (show Hid (Md (· = p) w w8) from M7.out.trans m8)
    have R8 := (show Hid _ from r8)
    have B8 := (show Hid (Bytes w8 da X.1) from B7.out.md m8 (fun b off e => by have h1 := (T6.out.2.2.1 _ e).2; have h2 := r8.bp; simp only at h1; omega))
    clear m8 r8 c0
    go_wp2
    go_ret2
    refine ⟨⟨da, dc, (by rw [HD.out.1, HD.out.2] <;> rfl), by rw [HD.out.1]; exact T6.out.1, by rw [HD.out.1]; exact B8.out, T6.out.2.2.1, T6.out.2.2.2⟩, ⟨a7, c7, ?_⟩, M8.out⟩
    rw [HYY.out]
    have hx : decide (E6.1 = []) = ((E6.1.length : Int) == 0) := by
      rw [Bool.eq_iff_iff]
      simp
    rw [hx]
    exact R8.out
  · have HYY := (show Hid _ from HNO.out h0)
    have hni : ¬ (n : Int) = 0 := by omega
    go_wp2
    go_ret2
    refine ⟨⟨da, dc, (by rw [HD.out.1, HD.out.2] <;> rfl), by rw [HD.out.1]; exact T6.out.1, by rw [HD.out.1]; exact B7.out, T6.out.2.2.1, T6.out.2.2.2⟩, ⟨a7, c7, ?_⟩, M7.out⟩
    rw [HYY.out]
    exact R7.out
end Go.Proofs.YtgpjjlkkfddjnaaDoor

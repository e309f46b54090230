/-
  The reader of a request in memory: its cells, the rows that it holds, and its two small ends (more, bad).
-/
import Derived.Test.YtmodmeabjhaklabGreatDoorRunA
import Derived.Laws.Rows
import Derived.Below
import Derived.Test.YtmodmeabjhaklabGreatDoorRunB
import Derived.Shelf.Strings.Cut
import Derived.Shelf.Bytes.SlIndexWhole
import Derived.Test.YtmodmeabjhaklabGreatDoorProg
import Derived.Shelf.Strconv.ToError
import Derived.Shelf.Strconv.ToErrorRange
import Derived.Shelf.Strconv.Lower
import Derived.Lib.ConvBytes
import Derived.BigQuiet
import Derived.Lib.SlBytesConst
import Derived.Deep.RegionHeld3
import Derived.Laws.AppendOwnNone
namespace Go.Proofs.YtmodmeabjhaklabGreatDoor
open Go.RowKit

theorem cell_blk {w : World} {g : Nat} {c : Array Value} {t : TypeId} (h : w.heap[g]? = some (.cells c t (0, 0))) (j : Nat) : w.cell? ⟨g, j, none⟩ = c[j]? := by simp [World.cell?, h]
theorem frozen_blk {w : World} {g : Nat} {c : Array Value} {t : TypeId} (h : w.heap[g]? = some (.cells c t (0, 0))) (j : Nat) : w.frozen? ⟨g, j, none⟩ = false := by
  simp only [World.frozen?, h]
  rw [Bool.and_eq_false_iff]
  right
  exact decide_eq_false (by omega)
theorem set_blk {w : World} {g : Nat} {c : Array Value} {t : TypeId} (h : w.heap[g]? = some (.cells c t (0, 0))) (j : Nat) (u : Value) : (w.setCell ⟨g, j, none⟩ u).heap[g]? = some (.cells (c.setIfInBounds j u) t (0, 0)) := by
  simp only [World.setCell, Array.getElem?_modify]
  rw [if_pos trivial, h]
  simp
theorem set_lst {w : World} {g : Nat} {c : List Value} {t : TypeId} (h : w.heap[g]? = some (.cells c.toArray t (0, 0))) (j : Nat) (u : Value) : (w.setCell ⟨g, j, none⟩ u).heap[g]? = some (.cells (c.set j u).toArray t (0, 0)) := by
  rw [set_blk h]
  simp
theorem blk_lt {w : World} {g : Nat} {o : Obj} (h : w.heap[g]? = some o) : g < w.heap.size := (Array.getElem?_eq_some_iff.1 h).1
theorem own_slice {w : World} {base : Nat} {e : TypeId} {size : Nat} {v : Value} {n : Nat} {xs : List Value} (h : w.ownsRow base e size v n xs) : ∃ a c, v = .slice a n c := by
  obtain ⟨_, ⟨rfl, rfl⟩ | ⟨g, cap, cur, rfl, _⟩⟩ := h
  · exact ⟨_, _, rfl⟩
  · exact ⟨_, _, rfl⟩

/-- Of what was there only the blocks of F may have turned. -/
structure Md (F : Nat → Prop) (w w' : World) : Prop where
  os : w'.os = w.os
  tape : w'.tape = w.tape
  output : w'.output = w.output
  size : w.heap.size ≤ w'.heap.size
  block : ∀ b, b < w.heap.size → ¬ F b → w'.heap[b]? = w.heap[b]?
theorem Md.refl (F : Nat → Prop) (w : World) : Md F w w := ⟨rfl, rfl, rfl, Nat.le_refl _, fun _ _ _ => rfl⟩
theorem Md.trans {F : Nat → Prop} {w w1 w2 : World} (h : Md F w w1) (g : Md F w1 w2) : Md F w w2 :=
  ⟨g.os.trans h.os, g.tape.trans h.tape, g.output.trans h.output, Nat.le_trans h.size g.size, fun b hb h1 => (g.block b (Nat.lt_of_lt_of_le hb h.size) h1).trans (h.block b hb h1)⟩
theorem Md.below {F : Nat → Prop} {w w1 w2 : World} (h : Md F w w1) (hb : Below w1.heap.size w1 w2) : Md F w w2 :=
  h.trans ⟨hb.os, hb.tape, hb.output, hb.size, fun b hlt _ => hb.block b hlt⟩
theorem Md.ofBelow {F : Nat → Prop} {w w' : World} (hb : Below w.heap.size w w') : Md F w w' := (Md.refl F w).below hb
theorem Md.set {F : Nat → Prop} {w w1 : World} (h : Md F w w1) {p : Nat} (hp : F p ∨ w.heap.size ≤ p) (j : Nat) (v : Value) : Md F w (w1.setCell ⟨p, j, none⟩ v) :=
  ⟨h.os, h.tape, h.output, Nat.le_trans h.size (by simp [World.setCell]), fun b hb h1 => (Below.heap_setCell _ _ _ _ (by
    show b ≠ p
    rintro rfl
    rcases hp with hp | hp
    · exact h1 hp
    · omega)).trans (h.block b hb h1)⟩
theorem Md.setp {p : Nat} {w w1 : World} (h : Md (· = p) w w1) (j : Nat) (v : Value) : Md (· = p) w (w1.setCell ⟨p, j, none⟩ v) := h.set (.inl rfl) j v
theorem Md.drew {F : Nat → Prop} {w w1 : World} (h : Md F w w1) : Md F w w1.drew := ⟨h.os, h.tape, h.output, h.size, h.block⟩
theorem Md.alloc {F : Nat → Prop} {w w1 : World} (h : Md F w w1) (o : Obj) : Md F w (w1.alloc o) := h.below ((Below.refl _ _).alloc (Nat.le_refl _) o)
theorem Md.mono {F G : Nat → Prop} {w w1 : World} (h : Md F w w1) (hF : ∀ b, b < w.heap.size → F b → G b) : Md G w w1 :=
  ⟨h.os, h.tape, h.output, h.size, fun b hb hg => h.block b hb (fun hf => hg (hF b hb hf))⟩
theorem Md.then {F G : Nat → Prop} {w w1 w2 : World} (h : Md F w w1) (g : Md G w1 w2) (hG : ∀ b, b < w.heap.size → G b → F b) : Md F w w2 :=
  ⟨g.os.trans h.os, g.tape.trans h.tape, g.output.trans h.output, Nat.le_trans h.size g.size, fun b hb h1 => (g.block b (Nat.lt_of_lt_of_le hb h.size) (fun hg => h1 (hG b hb hg))).trans (h.block b hb h1)⟩
theorem Md.toBelow {F : Nat → Prop} {B : Nat} {w0 w w' : World} (hb : Below B w0 w) (h : Md F w w') (hF : ∀ b, b < B → ¬ F b) (hB : B ≤ w0.heap.size) : Below B w0 w' :=
  ⟨h.os.trans hb.os, h.tape.trans hb.tape, h.output.trans hb.output, Nat.le_trans hb.size h.size, fun b hlt => (h.block b (by have := hb.size; omega) (hF b hlt)).trans (hb.block b hlt)⟩
theorem Md.grown {F : Nat → Prop} {w w1 w2 : World} {row : Option Nat} (h : Md F w w1) (hg : w1.grownBy w2 row) (hr : ∀ k, row = some k → F k ∨ w.heap.size ≤ k) : Md F w w2 :=
  ⟨hg.os.trans h.os, hg.tape.trans h.tape, hg.output.trans h.output, Nat.le_trans h.size hg.size, fun b hb h1 => (hg.block b (Nat.lt_of_lt_of_le hb h.size) (fun e => by
    rcases hr b e.symm with h | h
    · exact h1 h
    · omega)).trans (h.block b hb h1)⟩
theorem keep_blk {F : Nat → Prop} {w w' : World} {g : Nat} {o : Obj} (h : w.heap[g]? = some o) (hm : Md F w w') (hF : ¬ F g) : w'.heap[g]? = some o := (hm.block g (blk_lt h) hF).trans h
theorem own_md {F : Nat → Prop} {w w' : World} {base : Nat} {e : TypeId} {size : Nat} {v : Value} {n : Nat} {xs : List Value} (h : w.ownsRow base e size v n xs) (hm : Md F w w') (hF : ∀ j, v.ownBlock = some j → ¬ F j) : w'.ownsRow base e size v n xs := by
  obtain ⟨h0, ⟨rfl, rfl⟩ | ⟨b, cap, cur, rfl, h1, hh, h2⟩⟩ := h
  · exact ⟨h0, .inl ⟨rfl, rfl⟩⟩
  · exact ⟨h0, .inr ⟨b, cap, cur, rfl, h1, (hm.block b (blk_lt hh) (hF b rfl)).trans hh, h2⟩⟩
theorem own_ne {w : World} {base : Nat} {e : TypeId} {size : Nat} {v : Value} {n : Nat} {xs : List Value} (h : w.ownsRow base e size v n xs) {g : Nat} {c : Array Value} {t : TypeId} {fz : Nat × Nat} (hg : w.heap[g]? = some (.cells c t fz)) (ht : t ≠ e) : ∀ j, v.ownBlock = some j → j ≠ g := by
  obtain ⟨_, ⟨rfl, rfl⟩ | ⟨b, cap, cur, rfl, _, hh, _⟩⟩ := h
  · intro j hj; cases hj
  · intro j hj
    simp only [Value.ownBlock, Option.some.injEq] at hj
    subst hj
    rintro rfl
    rw [hh] at hg
    simp only [Option.some.injEq, Obj.cells.injEq] at hg
    exact ht hg.2.1.symm
theorem own_own {w : World} {base base' : Nat} {e e' : TypeId} {size size' : Nat} {v v' : Value} {n n' : Nat} {xs xs' : List Value} (h : w.ownsRow base e size v n xs) (h' : w.ownsRow base' e' size' v' n' xs') (ht : e' ≠ e) : ∀ j, v.ownBlock = some j → v'.ownBlock ≠ some j := by
  intro j hj hj'
  obtain ⟨_, ⟨rfl, rfl⟩ | ⟨g, cap, cur, rfl, _, hh, _⟩⟩ := h'
  · cases hj'
  · simp only [Value.ownBlock, Option.some.injEq] at hj'
    exact own_ne h hh ht j hj hj'.symm

/-- What a Step holds. -/
structure Tl where
  kind : Int
  used : Int
  m : ByteArray
  t : ByteArray
  h : Value
  b : Value
  fault : Int
  cl : Bool
  co : Bool
def Tl.v (x : Tl) : Value := .agg #[.int .i64 x.kind, .int .i64 x.used, .string x.m, .string x.t, x.h, x.b, .int .i64 x.fault, .bool x.cl, .bool x.co]
def zeroT : Tl := ⟨0, 0, ⟨#[]⟩, ⟨#[]⟩, .slice none 0 0, .slice none 0 0, 0, false, false⟩
def moreT : Tl := ⟨1, 0, ⟨#[]⟩, ⟨#[]⟩, .slice none 0 0, .slice none 0 0, 0, false, false⟩
def badT (e : Int) : Tl := ⟨3, 0, ⟨#[]⟩, ⟨#[]⟩, .slice none 0 0, .slice none 0 0, e, true, false⟩
/-- What a reader holds. -/
structure Rs where
  bv : Value
  at_ : Nat
  told : Tl
  head : Nat
  fields : Nat
  m : ByteArray
  t : ByteArray
  hv : Value
  bo : Value
  size : Nat
  pv : Value
  sum : Nat
def Rs.c (r : Rs) : List Value := [r.bv, .int .i64 r.at_, .int .i64 r.told.kind, .int .i64 r.told.used, .string r.told.m, .string r.told.t, r.told.h, r.told.b, .int .i64 r.told.fault, .bool r.told.cl, .bool r.told.co, .int .i64 r.head, .int .i64 r.fields, .string r.m, .string r.t, r.hv, r.bo, .int .i64 r.size, r.pv, .int .i64 r.sum]
/-- A reader at p. -/
def Rb (w : World) (p : Nat) (r : Rs) : Prop := w.heap[p]? = some (.cells r.c.toArray 47 (0, 0))
theorem Rb.lt {w : World} {p : Nat} {r : Rs} (h : Rb w p r) : p < w.heap.size := blk_lt h
theorem Rb.fz {w : World} {p : Nat} {r : Rs} (h : Rb w p r) (j : Nat) : w.frozen? ⟨p, j, none⟩ = false := frozen_blk h j
theorem Rb.cell {w : World} {p : Nat} {r : Rs} (h : Rb w p r) (j : Nat) {v : Value} (hv : r.c[j]? = some v) : w.cell? ⟨p, j, none⟩ = some v := (cell_blk h j).trans (by rw [List.getElem?_toArray]; exact hv)
theorem Rb.keep {F : Nat → Prop} {w w' : World} {p : Nat} {r : Rs} (h : Rb w p r) (hm : Md F w w') (hF : ¬ F p) : Rb w' p r := keep_blk h hm hF
theorem Rb.below {w w' : World} {p : Nat} {r : Rs} (h : Rb w p r) (hb : Below w.heap.size w w') : Rb w' p r := (hb.block p h.lt).trans h
theorem Rb.of {w : World} {p : Nat} {r : Rs} {c : List Value} (h : w.heap[p]? = some (.cells c.toArray 47 (0, 0))) (e : c = r.c) : Rb w p r := by rw [Rb, ← e]; exact h

set_option maxHeartbeats 1000000 in
theorem more_any (p : Nat) (r : Rs) (w : World) (h : Rb w p r) :
    Calls Tryz.prog 37 #[.pointer (some ⟨p, 0, none⟩)] w fun e w' => e = .returned (.int .i64 7) ∧ Rb w' p { r with told := moreT } ∧ Md (· = p) w w' := by
  have c2 := h.cell 2 rfl; have c3 := h.cell 3 rfl; have c4 := h.cell 4 rfl; have c5 := h.cell 5 rfl; have c6 := h.cell 6 rfl; have c7 := h.cell 7 rfl; have c8 := h.cell 8 rfl; have c9 := h.cell 9 rfl; have c10 := h.cell 10 rfl
  have f2 := h.fz 2; have f3 := h.fz 3; have f4 := h.fz 4; have f5 := h.fz 5; have f6 := h.fz 6; have f7 := h.fz 7; have f8 := h.fz 8; have f9 := h.fz 9; have f10 := h.fz 10
  have H : Hid (Rb w p r) := h
  clear h
  go_enter Tryz.func37, Tryz.ntmps37
  go_wp2
  go_ret
  refine ⟨rfl, ?_, ?_⟩
  · refine Rb.of (set_lst (set_lst (set_lst (set_lst (set_lst (set_lst (set_lst (set_lst (set_lst H.out _ _) _ _) _ _) _ _) _ _) _ _) _ _) _ _) _ _) rfl
  · iterate 9 refine Md.setp ?_ _ _
    exact Md.refl _ _
set_option maxHeartbeats 1000000 in
theorem bad_any (p : Nat) (r : Rs) (x : Int) (w : World) (h : Rb w p r) :
    Calls Tryz.prog 31 #[.pointer (some ⟨p, 0, none⟩), .int .i64 x] w fun e w' => e = .returned (.int .i64 7) ∧ Rb w' p { r with told := badT x } ∧ Md (· = p) w w' := by
  have c2 := h.cell 2 rfl; have c3 := h.cell 3 rfl; have c4 := h.cell 4 rfl; have c5 := h.cell 5 rfl; have c6 := h.cell 6 rfl; have c7 := h.cell 7 rfl; have c8 := h.cell 8 rfl; have c9 := h.cell 9 rfl; have c10 := h.cell 10 rfl
  have f2 := h.fz 2; have f3 := h.fz 3; have f4 := h.fz 4; have f5 := h.fz 5; have f6 := h.fz 6; have f7 := h.fz 7; have f8 := h.fz 8; have f9 := h.fz 9; have f10 := h.fz 10
  have H : Hid (Rb w p r) := h
  clear h
  go_enter Tryz.func31, Tryz.ntmps31
  go_wp2
  go_ret
  refine ⟨rfl, ?_, ?_⟩
  · refine Rb.of (set_lst (set_lst (set_lst (set_lst (set_lst (set_lst (set_lst (set_lst (set_lst H.out _ _) _ _) _ _) _ _) _ _) _ _) _ _) _ _) _ _) rfl
  · iterate 9 refine Md.setp ?_ _ _
    exact Md.refl _ _
end Go.Proofs.YtmodmeabjhaklabGreatDoor
/-
  Lists of headers in memory; http.Get and All.
-/
namespace Go.Proofs.YtmodmeabjhaklabGreatDoor
open Go.RowKit

/-- A list of headers in memory. -/
def Hdrs (w : World) (a : Option Addr) (hs : List Hd) : Prop :=
  hs = [] ∨ ∃ b off, a = some ⟨b, off, none⟩ ∧ b < w.heap.size ∧ ∀ j (h : j < hs.length), w.cell? ⟨b, off + j * 2, none⟩ = some (.string ⟨hs[j].1.toArray⟩) ∧ w.cell? ⟨b, off + j * 2 + 1, none⟩ = some (.string ⟨hs[j].2.toArray⟩)
theorem Hdrs.below {w w' : World} {a : Option Addr} {hs : List Hd} (h : Hdrs w a hs) {B : Nat} (hb : Below B w w') (hB : w.heap.size ≤ B) : Hdrs w' a hs := by
  rcases h with h | ⟨b, off, h1, h2, h3⟩
  · exact .inl h
  · refine .inr ⟨b, off, h1, Nat.lt_of_lt_of_le h2 hb.size, fun j hj => ?_⟩
    have := h3 j hj
    exact ⟨(hb.cell (by show b < B; omega)).trans this.1, (hb.cell (by show b < B; omega)).trans this.2⟩
theorem str_beq (x y : List UInt8) : ((⟨x.toArray⟩ : ByteArray) == ⟨y.toArray⟩) = decide (x = y) := by
  show (x.toArray == y.toArray) = decide (x = y)
  rw [Bool.eq_iff_iff, beq_iff_eq, decide_eq_true_iff]
  exact ⟨fun h => by simpa using h, fun h => by rw [h]⟩
theorem get_no {hs : List Hd} {n : List UInt8} {k : Nat} (hk : k < hs.length) (h : hs[k].1 ≠ n) : getL (hs.drop k) n = getL (hs.drop (k + 1)) n := by
  rw [List.drop_eq_getElem_cons hk, getL, getL, List.find?_cons]
  simp [h]
theorem get_yes {hs : List Hd} {n : List UInt8} {k : Nat} (hk : k < hs.length) (h : hs[k].1 = n) : getL (hs.drop k) n = some hs[k].2 := by
  rw [List.drop_eq_getElem_cons hk, getL, List.find?_cons]
  simp [h]

set_option maxRecDepth 20000 in
set_option maxHeartbeats 1000000 in
theorem get_any (a : Option Addr) (hs : List Hd) (cap : Nat) (n : List UInt8) (w : World) (hH : Hdrs w a hs) (hl : hs.length ≤ 1000000000) :
    Calls Tryz.prog 34 #[.slice a hs.length cap, .string ⟨n.toArray⟩] w fun e w' => e = .returned (.tuple #[.string ⟨((getL hs n).getD []).toArray⟩, .bool (getL hs n).isSome]) ∧ Below w.heap.size w w' := by
  have HH : Hid (Hdrs w a hs) := hH
  clear hH
  go_enter Tryz.func34, Tryz.ntmps34
  go_wp2
  go_loopw [10] (fun i wr => ∃ k : Nat, k ≤ hs.length ∧ i = .int .i64 k ∧ Hid (getL hs n = getL (hs.drop k) n) ∧ Below w.heap.size w wr) (fun i _ => hs.length - (intOf i).toNat)
  case atStart => exact ⟨0, Nat.zero_le _, rfl, rfl, Below.refl _ _⟩
  case round =>
    obtain ⟨k, hk, rfl, hg, hb⟩ := hrel
    by_cases hlt : k < hs.length
    · rcases HH.out.below hb (Nat.le_refl _) with hnil | ⟨b, off, rfl, hbs, hc⟩
      · rw [hnil] at hlt; simp at hlt
      · obtain ⟨c1, c2⟩ := hc k hlt
        obtain ⟨h, hh⟩ : ∃ h, h = hs[k] := ⟨_, rfl⟩
        rw [← hh] at c1 c2
        by_cases he : h.1 = n
        · have HR : Hid (getL hs n = some h.2) := by show _ = _; rw [hg.out, get_yes hlt (by rw [← hh]; exact he), hh]
          have heq : (h.1 == n) = true := by rw [he]; simp
          clear he hg hh hc
          have hki : (k : Int) < (hs.length : Int) := by omega
          have hkk : (0 : Int) ≤ (k : Int) := by omega
          go_wp2
          go_ret2
          rw [HR.out]
          exact ⟨rfl, hb.alloc hb.size _⟩
        · have HR : Hid (getL hs n = getL (hs.drop (k + 1)) n) := by show _ = _; rw [hg.out, get_no hlt (by rw [← hh]; exact he)]
          have heq : (h.1 == n) = false := by rw [beq_eq_false_iff_ne]; exact he
          clear he hg hh hc
          have hki : (k : Int) < (hs.length : Int) := by omega
          have hkk : (0 : Int) ≤ (k : Int) := by omega
          go_wp2
          go_roundw
          case rel => exact ⟨k + 1, by omega, by go_num, HR, hb.alloc hb.size _⟩
          case measure => simp [intOf]; omega
    · obtain rfl : k = hs.length := by omega
      have HR : Hid (getL hs n = none) := by show _ = _; rw [hg.out, List.drop_length]; rfl
      clear hg
      go_wp2
      go_ret2
      rw [HR.out]
      exact ⟨rfl, hb⟩
theorem all_no {hs : List Hd} {n : List UInt8} {k : Nat} (hk : k < hs.length) (h : hs[k].1 ≠ n) : allL (hs.take (k + 1)) n = allL (hs.take k) n := by
  rw [List.take_succ_eq_append_getElem hk, allL, allL, List.filter_append, List.map_append]
  simp [h]
theorem all_yes {hs : List Hd} {n : List UInt8} {k : Nat} (hk : k < hs.length) (h : hs[k].1 = n) : allL (hs.take (k + 1)) n = allL (hs.take k) n ++ [hs[k].2] := by
  rw [List.take_succ_eq_append_getElem hk, allL, allL, List.filter_append, List.map_append]
  simp [h]
theorem all_len (hs : List Hd) (n : List UInt8) : (allL hs n).length ≤ hs.length := by
  rw [allL, List.length_map]
  exact List.length_filter_le _ _
/-- Texts as they lie in memory. -/
def toB (L : List (List UInt8)) : List ByteArray := L.map fun x => ⟨x.toArray⟩

set_option maxRecDepth 20000 in
set_option maxHeartbeats 1000000 in
theorem all_any (a : Option Addr) (hs : List Hd) (cap : Nat) (n : List UInt8) (w : World) (hH : Hdrs w a hs) (hl : hs.length ≤ 1000000000) :
    Calls Tryz.prog 59 #[.slice a hs.length cap, .string ⟨n.toArray⟩] w fun e w' => ∃ v, e = .returned v ∧ OwnS w' w.heap.size v (toB (allL hs n)) ∧ Below w.heap.size w w' := by
  obtain ⟨i0, hi, hz0, hz1, hz2⟩ := info_parts info9
  have HH : Hid (Hdrs w a hs) := hH
  clear hH
  go_enter Tryz.func59, Tryz.ntmps59
  go_wp2
  go_loopw [5, 10] (fun v i wr => ∃ k : Nat, k ≤ hs.length ∧ i = .int .i64 k ∧ OwnS wr w.heap.size v (toB (allL (hs.take k) n)) ∧ Below w.heap.size w wr) (fun _ i _ => hs.length - (intOf i).toNat)
  case atStart => exact ⟨0, Nat.zero_le _, rfl, World.ownsRow_nil _ _ _ _, Below.refl _ _⟩
  case round =>
    obtain ⟨k, hk, rfl, hown, hb⟩ := hrel
    have hsz := hb.size
    by_cases hlt : k < hs.length
    · rcases HH.out.below hb (Nat.le_refl _) with hnil | ⟨b, off, rfl, hbs, hc⟩
      · rw [hnil] at hlt; simp at hlt
      · obtain ⟨c1, c2⟩ := hc k hlt
        obtain ⟨h, hh⟩ : ∃ h, h = hs[k] := ⟨_, rfl⟩
        rw [← hh] at c1 c2
        have hki : (k : Int) < (hs.length : Int) := by omega
        have hkk : (0 : Int) ≤ (k : Int) := by omega
        have hle : (allL (hs.take k) n).length ≤ k := Nat.le_trans (all_len _ _) (List.length_take_le _ _)
        by_cases he : h.1 = n
        · have HR : Hid (allL (hs.take (k + 1)) n = allL (hs.take k) n ++ [h.2]) := by show _ = _; rw [all_yes hlt (by rw [← hh]; exact he), hh]
          have heq : (h.1 == n) = true := by rw [he]; simp
          have HO : Hid (OwnS wr w.heap.size u5 (toB (allL (hs.take k) n))) := hown
          have hl2 : (toB (allL (hs.take k) n)).length ≤ k := by rw [toB, List.length_map]; exact hle
          clear he hh hc hown
          go_wp2_with (at_builtin; refine wpList_append_own _ rfl (.tmp 18) (.tmp 21) 42 rfl w.heap.size 9 i0 (.string ⟨#[]⟩) 1 16 Tryz.underlying42 hi hz0 hz1 hz2 rfl (by decide) _ _ _ rfl (World.ownsRow.alloc (World.ownsRow.alloc HO.out _) _) ⟨wr.heap.size + 1, 0, none⟩ 1 1 [.string ⟨h.2.toArray⟩] rfl rfl (by simpa using cell_one_new (wr.alloc _) _ _) (one_one _ rfl) (by unfold maxLen; omega) (by omega) (by simp; omega) ?_; intro v1 w1 hown1 hgrow1 _)
          have HN : Hid (OwnS w1 w.heap.size v1 (toB (allL (hs.take (k + 1)) n))) := by
            show OwnS _ _ _ _
            rw [HR.out, toB, List.map_append]
            exact ownS_more hown1
          have hB1 : Below w.heap.size w w1 := ((hb.alloc hsz _).alloc (by simp; omega) _).grown hgrow1 (by simp; omega) (fun j hj => (World.ownsRow.lt HO.out j hj).1)
          clear hown1 hgrow1
          go_wp2
          go_roundw
          case rel => exact ⟨k + 1, by omega, by go_num, HN.out, hB1⟩
          case measure => simp [intOf]; omega
        · have HR : Hid (allL (hs.take (k + 1)) n = allL (hs.take k) n) := by show _ = _; rw [all_no hlt (by rw [← hh]; exact he)]
          have heq : (h.1 == n) = false := by rw [beq_eq_false_iff_ne]; exact he
          have HO : Hid (OwnS wr w.heap.size u5 (toB (allL (hs.take k) n))) := hown
          clear he hh hc hown
          go_wp2
          go_roundw
          case rel => exact ⟨k + 1, by omega, by go_num, by rw [HR.out]; exact World.ownsRow.alloc HO.out _, hb.alloc hsz _⟩
          case measure => simp [intOf]; omega
    · obtain rfl : k = hs.length := by omega
      rw [List.take_length] at hown
      go_wp2
      go_ret
      exact ⟨_, rfl, hown, hb⟩
end Go.Proofs.YtmodmeabjhaklabGreatDoor
/-
  asksToClose; the parts of the request line: isMethod, isTarget, isVersion.
-/
namespace Go.Proofs.YtmodmeabjhaklabGreatDoor
open Go.RowKit

theorem OwnS.strs' {w : World} {base : Nat} {v : Value} {L : List ByteArray} (h : OwnS w base v L) : ∃ a cap, v = .slice a L.length cap ∧ Strs w a L := h.strs
theorem toB_len (L : List (List UInt8)) : (toB L).length = L.length := by simp [toB]
theorem toB_at (L : List (List UInt8)) (k : Nat) (h : k < (toB L).length) : (toB L)[k] = ⟨(L[k]'(by rw [toB_len] at h; exact h)).toArray⟩ := by simp [toB]
theorem splitS_toB (c : UInt8) (l : List UInt8) : splitS c ⟨l.toArray⟩ = toB (splitL c l) := by simp [splitS, toB]
theorem any_take {α : Type} (p : α → Bool) {L : List α} {k : Nat} (hk : k < L.length) : (L.take (k + 1)).any p = ((L.take k).any p || p L[k]) := by
  rw [List.take_succ_eq_append_getElem hk, List.any_append]
  simp
theorem any_at {α : Type} (p : α → Bool) {L : List α} {k : Nat} (hk : k < L.length) (h : p L[k] = true) : L.any p = true := by
  rw [List.any_eq_true]
  exact ⟨L[k], List.getElem_mem hk, h⟩
theorem dw_len (l : List UInt8) : (dw l).length ≤ l.length := (List.dropWhile_sublist _).length_le
theorem trim_len (l : List UInt8) : (trimL l).length ≤ l.length := by
  rw [trimL, rdw, List.length_reverse]
  refine Nat.le_trans (List.dropWhile_sublist _).length_le ?_
  rw [List.length_reverse]
  exact dw_len l
def clsV (v : List UInt8) : Bool := (splitL 44 v).any fun x => decide (lowL (trimL x) = tClose)
theorem close_eq (hs : List Hd) : closeL hs = (allL hs nConn).any clsV := rfl
/-- All texts of a list of headers are small. -/
def Sm (hs : List Hd) : Prop := ∀ h ∈ hs, h.1.length ≤ 1000000000 ∧ h.2.length ≤ 1000000000
theorem Sm.all {hs : List Hd} (h : Sm hs) (n : List UInt8) : ∀ v ∈ allL hs n, v.length ≤ 1000000000 := by
  intro v hv
  rw [allL, List.mem_map] at hv
  obtain ⟨x, hx, rfl⟩ := hv
  exact (h x ((List.mem_filter.1 hx).1)).2
theorem Sm.get {hs : List Hd} (h : Sm hs) (n : List UInt8) : ((getL hs n).getD []).length ≤ 1000000000 := by
  rw [getL]
  cases hf : hs.find? fun h => h.1 = n with
  | none => simp
  | some x => exact (h x (List.mem_of_find?_eq_some hf)).2
theorem Mx.below' {w w' : World} (h : Mx w) (hb : Below w.heap.size w w') : Mx w' := h.below hb (Nat.le_refl _)

set_option maxRecDepth 20000 in
set_option maxHeartbeats 2000000 in
theorem closes_any (a : Option Addr) (hs : List Hd) (cap : Nat) (w : World) (hH : Hdrs w a hs) (hl : hs.length ≤ 1000000000) (hS : Sm hs) (hm : Mx w) :
    Calls Tryz.prog 62 #[.slice a hs.length cap] w fun e w' => e = .returned (.bool (closeL hs)) ∧ Below w.heap.size w w' := by
  have HA := (show Hid _ from all_any a hs cap nConn w hH hl)
  have HM : Hid (Mx w) := hm
  have HSm : Hid (∀ v ∈ allL hs nConn, v.length ≤ 1000000000) := hS.all nConn
  have hal := all_len hs nConn
  have HC : Hid (closeL hs = (allL hs nConn).any clsV) := close_eq hs
  clear hH hm hS
  go_enter Tryz.func62, Tryz.ntmps62
  go_wp2_with fail
  refine Calls.mono HA.out ?_
  rintro e w1 ⟨v1, rfl, ho1, hb1⟩
  obtain ⟨a1, cap1, rfl, hs1⟩ := ho1.strs
  rw [toB_len]
  generalize hAe : allL hs nConn = A at *
  clear hAe
  have HS1 : Hid (Strs w1 a1 (toB A) ∧ Below w.heap.size w w1) := ⟨hs1, hb1⟩
  clear hs1 hb1 ho1 HA
  go_wp2
  go_loopw [10] (fun i wr => ∃ k : Nat, k ≤ A.length ∧ i = .int .i64 k ∧ Hid ((A.take k).any clsV = false) ∧ Below w.heap.size w wr ∧ Below w1.heap.size w1 wr) (fun i _ => A.length - (intOf i).toNat)
  case atStart => exact ⟨0, Nat.zero_le _, rfl, rfl, HS1.out.2, Below.refl _ _⟩
  case round =>
    obtain ⟨k, hk, rfl, hno, hb, hb'⟩ := hrel
    by_cases hlt : k < A.length
    · rcases (HS1.out.1.below hb' (Nat.le_refl _)) with hnil | ⟨b, off, rfl, hbs, hc⟩
      · have := congrArg List.length hnil
        rw [toB_len] at this
        simp at this
        rw [this] at hlt
        simp at hlt
      · have c1 := hc k (by rw [toB_len]; exact hlt)
        rw [toB_at] at c1
        have hks : (A[k]).length ≤ 1000000000 := HSm.out _ (List.getElem_mem hlt)
        have hany := any_take clsV hlt
        have hat := any_at clsV hlt
        obtain ⟨x, hx⟩ : ∃ x, x = A[k] := ⟨_, rfl⟩
        rw [← hx] at c1 hks hany hat
        clear hx hc
        have hki : (k : Int) < (A.length : Int) := by omega
        have hkk : (0 : Int) ≤ (k : Int) := by omega
        have HSp := (show Hid _ from split_any ⟨x.toArray⟩ 44 wr (by simp [ByteArray.size]; omega) (HM.out.below hb (Nat.le_refl _)))
        have HY : Hid ((A.take (k + 1)).any clsV = ((A.take k).any clsV || clsV x) ∧ (clsV x = true → A.any clsV = true)) := ⟨hany, hat⟩
        clear hany hat
        go_wp2_with fail
        refine Calls.mono HSp.out ?_
        rintro e w2 ⟨g, rfl, hs2, hb2⟩
        rw [splitS_toB] at hs2 ⊢
        rw [toB_len]
        have hcls : clsV x = (splitL 44 x).any fun y => decide (lowL (trimL y) = tClose) := rfl
        have hsp : ∀ y ∈ splitL 44 x, y.length ≤ 1000000000 := fun y hy => by have := piece_size hy; omega
        have hSl : (splitL 44 x).length ≤ 1000000001 := by rw [splitL_length]; have := List.count_le_length (a := (44 : UInt8)) (l := x); omega
        generalize hSe : splitL 44 x = S at *
        clear hSe
        have HS2 : Hid (Strs w2 (some ⟨g, 0, none⟩) (toB S) ∧ Below w.heap.size w w2 ∧ Below w1.heap.size w1 w2 ∧ (clsV x = S.any fun y => decide (lowL (trimL y) = tClose)) ∧ ∀ y ∈ S, y.length ≤ 1000000000) := ⟨hs2, hb.trans (hb2.mono hb.size), hb'.trans (hb2.mono hb'.size), hcls, hsp⟩
        clear hs2 hb2 HSp hcls hsp
        go_wp2
        go_loopw [17] (fun i wr => ∃ j : Nat, j ≤ S.length ∧ i = .int .i64 j ∧ Hid (((S.take j).any fun y => decide (lowL (trimL y) = tClose)) = false) ∧ Below w2.heap.size w2 wr) (fun i _ => S.length - (intOf i).toNat)
        case atStart => exact ⟨0, Nat.zero_le _, rfl, rfl, Below.refl _ _⟩
        case round =>
          obtain ⟨j, hj, rfl, hnj, hbj⟩ := hrel
          by_cases hjt : j < S.length
          · rcases (HS2.out.1.below hbj (Nat.le_refl _)) with hnil | ⟨b2, off2, he2, hbs2, hc2⟩
            · have := congrArg List.length hnil
              rw [toB_len] at this
              simp at this
              rw [this] at hjt
              simp at hjt
            · simp only [Option.some.injEq, Addr.mk.injEq, and_true] at he2
              obtain ⟨rfl, rfl⟩ := he2
              have c2 := hc2 j (by rw [toB_len]; exact hjt)
              rw [toB_at, Nat.zero_add] at c2
              have hys : (S[j]).length ≤ 1000000000 := HS2.out.2.2.2.2 _ (List.getElem_mem hjt)
              have hany := any_take (fun y => decide (lowL (trimL y) = tClose)) hjt
              have hat := any_at (fun y => decide (lowL (trimL y) = tClose)) hjt
              obtain ⟨y, hy⟩ : ∃ y, y = S[j] := ⟨_, rfl⟩
              rw [← hy] at c2 hys hany hat
              clear hy hc2
              have hji : (j : Int) < (S.length : Int) := by omega
              have hjk : (0 : Int) ≤ (j : Int) := by omega
              have HT := (show Hid _ from trim_any ⟨y.toArray⟩ wr (by simp [ByteArray.size]; omega))
              have htl : (trimL y).length ≤ 1000000000 := Nat.le_trans (trim_len y) hys
              have HLw := (show Hid _ from fun W => lower_any ⟨(trimL y).toArray⟩ W (by simp [ByteArray.size]; omega))
              have HY2 : Hid (((S.take (j + 1)).any fun y => decide (lowL (trimL y) = tClose)) = (((S.take j).any fun y => decide (lowL (trimL y) = tClose)) || decide (lowL (trimL y) = tClose)) ∧ (decide (lowL (trimL y) = tClose) = true → (S.any fun y => decide (lowL (trimL y) = tClose)) = true)) := ⟨hany, hat⟩
              clear hany hat
              go_wp2_with fail
              refine Calls.mono HT.out ?_
              rintro e w3 ⟨rfl, hb3⟩
              have HB3 : Hid (Below w2.heap.size w2 w3) := hbj.trans (hb3.mono hbj.size)
              clear hb3 HT
              go_wp2_with fail
              refine Calls.mono (HLw.out _) ?_
              rintro e w4 ⟨rfl, hb4⟩
              have HB4 : Hid (Below w2.heap.size w2 w4) := HB3.out.trans (hb4.mono HB3.out.size)
              clear hb4 HLw
              simp only at *
              by_cases hq : lowL (trimL y) = tClose
              · have heq : (lowL (trimL y) == tClose) = true := by rw [hq]; simp
                have HF : Hid (closeL hs = true) := by
                  show _ = _
                  rw [HC.out]
                  apply HY.out.2
                  rw [HS2.out.2.2.2.1]
                  exact HY2.out.2 (decide_eq_true hq)
                unfold tClose at heq
                go_wp2
                go_ret
                rw [HF.out]
                exact ⟨rfl, HS2.out.2.1.trans (HB4.out.mono HS2.out.2.1.size)⟩
              · have heq : (lowL (trimL y) == tClose) = false := by rw [beq_eq_false_iff_ne]; exact hq
                have HF : Hid (((S.take (j + 1)).any fun y => decide (lowL (trimL y) = tClose)) = false) := by
                  show _ = _
                  rw [HY2.out.1, hnj.out, decide_eq_false hq]
                  rfl
                unfold tClose at heq
                go_wp2
                go_roundw
                case rel => exact ⟨j + 1, by omega, by go_num, HF, HB4.out⟩
                case measure => simp [intOf]; omega
          · obtain rfl : j = S.length := by omega
            have HF : Hid ((A.take (k + 1)).any clsV = false) := by
              show _ = _
              have := hnj.out
              rw [List.take_length] at this
              rw [HY.out.1, hno.out, HS2.out.2.2.2.1, this]
              rfl
            go_wp2
            go_roundw
            case rel => exact ⟨k + 1, by omega, by go_num, HF, HS2.out.2.1.trans (hbj.mono HS2.out.2.1.size), HS2.out.2.2.1.trans (hbj.mono HS2.out.2.2.1.size)⟩
            case measure => simp [intOf]; omega
    · obtain rfl : k = A.length := by omega
      have HF : Hid (closeL hs = false) := by
        show _ = _
        have := hno.out
        rw [List.take_length] at this
        rw [HC.out, this]
      go_wp2
      go_ret
      rw [HF.out]
      exact ⟨rfl, hb⟩
end Go.Proofs.YtmodmeabjhaklabGreatDoor
/-
  The parts of the request line: isMethod, isTarget, isVersion.
-/
namespace Go.Proofs.YtmodmeabjhaklabGreatDoor
open Go.RowKit

theorem mk_size (l : List UInt8) : (⟨l.toArray⟩ : ByteArray).size = l.length := by simp [ByteArray.size]
theorem mk_get (l : List UInt8) (k : Nat) (h : k < (⟨l.toArray⟩ : ByteArray).size) : (⟨l.toArray⟩ : ByteArray)[k] = l[k]'(by rw [mk_size] at h; exact h) := rfl
theorem mk_list (s : ByteArray) : s = ⟨s.data.toList.toArray⟩ := by simp
theorem mk_ext (l : List UInt8) (a b : Nat) : (⟨l.toArray⟩ : ByteArray).extract a b = ⟨((l.take b).drop a).toArray⟩ := by
  rw [mk_list ((⟨l.toArray⟩ : ByteArray).extract a b)]
  congr 2
  rw [ByteArray.data_extract, Array.toList_extract, List.extract_eq_take_drop, List.drop_take]
theorem isDigit65 (c : Int) (w : World) (_h0 : 0 ≤ c) (_h1 : c ≤ 255) :
    Calls Tryz.prog 55 #[.int .u8 c] w fun e w' => e = .returned (.bool (digB c)) ∧ w = w' := by
  have h : (c < 48) ∨ (48 ≤ c ∧ c ≤ 57) ∨ (48 ≤ c ∧ 57 < c) := by omega
  unfold digB
  rcases h with h | ⟨h, h1⟩ | ⟨h, h1⟩
  · have hd : decide (48 ≤ c ∧ c ≤ 57) = false := decide_eq_false (by omega)
    rw [hd]
    clear hd
    go_enter Tryz.func55, Tryz.ntmps55
    go_wp2
    go_ret
    exact ⟨rfl, rfl⟩
  · have hd : decide (48 ≤ c ∧ c ≤ 57) = true := decide_eq_true (by omega)
    rw [hd]
    clear hd
    go_enter Tryz.func55, Tryz.ntmps55
    go_wp2
    go_ret
    exact ⟨rfl, rfl⟩
  · have hd : decide (48 ≤ c ∧ c ≤ 57) = false := decide_eq_false (by omega)
    rw [hd]
    clear hd
    go_enter Tryz.func55, Tryz.ntmps55
    go_wp2
    go_ret
    exact ⟨ret_bool (decide_eq_false (by omega)), rfl⟩
theorem isMethod_any (l : List UInt8) (w : World) (hs : l.length ≤ 1000000000) :
    Calls Tryz.prog 28 #[.string ⟨l.toArray⟩] w fun e w' => e = .returned (.bool (metB l)) ∧ w = w' := by
  have HT := (show Hid _ from token_any ⟨l.toArray⟩ w (by rw [mk_size]; unfold maxLen; omega))
  have hz := mk_size l
  have HL : Hid (metB l = (decide (l.length ≤ 16) && tokenB l)) := rfl
  by_cases h : l.length ≤ 16
  · have h1 : (l.length : Int) ≤ 16 := by omega
    have HM : Hid (metB l = tokenB l) := by show _ = _; rw [HL.out, decide_eq_true h]; rfl
    clear h HL hz hs
    go_enter Tryz.func28, Tryz.ntmps28
    go_wp2_with (go_at_call 53; refine Calls.mono HT.out ?_; rintro e w' ⟨rfl, rfl⟩)
    go_ret
    rw [HM.out]
    exact ⟨by simp, rfl⟩
  · have h1 : 16 < (l.length : Int) := by omega
    have HM : Hid (metB l = false) := by show _ = _; rw [HL.out, decide_eq_false h]; rfl
    clear h HL HT hz hs
    go_enter Tryz.func28, Tryz.ntmps28
    go_wp2
    go_ret
    rw [HM.out]
    exact ⟨rfl, rfl⟩
theorem all_step {α : Type} (p : α → Bool) {L : List α} {k : Nat} (hk : k < L.length) : (L.take (k + 1)).all p = ((L.take k).all p && p L[k]) := by
  rw [List.take_succ_eq_append_getElem hk, List.all_append]
  simp
theorem all_fail {α : Type} (p : α → Bool) {L : List α} {k : Nat} (hk : k < L.length) (h : p L[k] = false) : L.all p = false := by
  rw [List.all_eq_false]
  exact ⟨L[k], List.getElem_mem hk, by simp [h]⟩
set_option maxHeartbeats 1000000 in
theorem isTarget_any (l : List UInt8) (w : World) (hs : l.length ≤ 1000000000) :
    Calls Tryz.prog 29 #[.string ⟨l.toArray⟩] w fun e w' => e = .returned (.bool (tarB l)) ∧ w = w' := by
  have hz := mk_size l
  have HD : Hid (tarB l = (l.all tarC && decide (0 < l.length))) := rfl
  go_enter Tryz.func29, Tryz.ntmps29
  go_wp2
  go_loop [6] (fun i => ∃ k : Nat, k ≤ l.length ∧ i = .int .i64 k ∧ Hid ((l.take k).all tarC = true)) (fun i => l.length - (intOf i).toNat)
  case atStart => exact ⟨0, Nat.zero_le _, rfl, rfl⟩
  case round =>
    obtain ⟨k, hk, rfl, hall⟩ := hrel
    by_cases hlt : k < l.length
    · have hst := all_step tarC hlt
      have hfl := all_fail tarC hlt
      have hkz : k < (⟨l.toArray⟩ : ByteArray).size := by omega
      have hbd : (l[k]).toNat < 256 := (l[k]).toNat_lt
      have hgk := mk_get l k hkz
      obtain ⟨c, hc⟩ : ∃ c, c = l[k] := ⟨_, rfl⟩
      rw [← hc] at hst hfl hbd hgk
      have HST : Hid ((l.take (k + 1)).all tarC = ((l.take k).all tarC && tarC c) ∧ (tarC c = false → l.all tarC = false)) := ⟨hst, hfl⟩
      clear hc hst hfl
      have hk0 : (0 : Int) ≤ (k : Int) := by omega
      have hk1 : (k : Int) < (l.length : Int) := by omega
      have h3 : ((c.toNat : Int) < 33) ∨ (33 ≤ (c.toNat : Int) ∧ (126 : Int) < (c.toNat : Int)) ∨ (33 ≤ (c.toNat : Int) ∧ (c.toNat : Int) ≤ 126) := by omega
      rcases h3 with h3 | ⟨h3, h4⟩ | ⟨h3, h4⟩
      · have HF : Hid (tarB l = false) := by
          show _ = _
          rw [HD.out, HST.out.2 (by rw [tarC]; exact decide_eq_false (by omega))]
          rfl
        go_wp2
        go_ret
        rw [HF.out]
        exact ⟨rfl, rfl⟩
      · have HF : Hid (tarB l = false) := by
          show _ = _
          rw [HD.out, HST.out.2 (by rw [tarC]; exact decide_eq_false (by omega))]
          rfl
        go_wp2
        go_ret
        rw [HF.out]
        exact ⟨rfl, rfl⟩
      · have HF : Hid ((l.take (k + 1)).all tarC = true) := by
          show _ = _
          rw [HST.out.1, hall.out, tarC, decide_eq_true (by omega)]
          rfl
        go_wp2
        go_round
        case rel => exact ⟨k + 1, by omega, by go_num, HF⟩
        case measure => simp [intOf]; omega
    · obtain rfl : k = l.length := by omega
      have HA : Hid (l.all tarC = true) := by
        have := hall.out
        rw [List.take_length] at this
        exact this
      clear hall
      by_cases h0 : l = []
      · subst h0
        go_wp2
        go_ret
        exact ⟨rfl, rfl⟩
      · have hne : (l == []) = false := by rw [beq_eq_false_iff_ne]; exact h0
        have HF : Hid (tarB l = true) := by
          show _ = _
          rw [HD.out, HA.out, decide_eq_true (List.length_pos_iff.2 h0)]
          rfl
        go_wp2
        go_ret
        rw [HF.out]
        exact ⟨rfl, rfl⟩
end Go.Proofs.YtmodmeabjhaklabGreatDoor
/-
  Layings of the library's contracts at this program.
-/
namespace Go.Proofs
open Go.Shelf
def YtmodmeabjhaklabGreatDoor.lays145_ren : Go.Shelf.Ren := ⟨fun | 145 => 27 | 217 => 90 | 219 => 77 | 220 => 52 | 224 => 75 | 225 => 91 | 266 => 109 | 267 => 92 | 314 => 110 | n => n, fun | 3 => 3 | 4 => 4 | 5 => 5 | 9 => 9 | 46 => 99 | 51 => 105 | 59 => 66 | 146 => 106 | n => n, fun | 1 => 0 | n => n⟩
theorem YtmodmeabjhaklabGreatDoor.lays145 : Go.Proofs.Lays.n145 Tryz.prog YtmodmeabjhaklabGreatDoor.lays145_ren := {
  mixed := by kernel_rfl
  f145 := Tryz.func27.trans (congrArg some (by kernel_rfl))
  f217 := Tryz.func90.trans (congrArg some (by kernel_rfl))
  f219 := Tryz.func77.trans (congrArg some (by kernel_rfl))
  f220 := Tryz.func52.trans (congrArg some (by kernel_rfl))
  f224 := Tryz.func75.trans (congrArg some (by kernel_rfl))
  f225 := Tryz.func91.trans (congrArg some (by kernel_rfl))
  f266 := Tryz.func109.trans (congrArg some (by kernel_rfl))
  f267 := Tryz.func92.trans (congrArg some (by kernel_rfl))
  f314 := Tryz.func110.trans (congrArg some (by kernel_rfl))
  t3 := Tryz.underlying3
  a3 := Tryz.isAgg3
  z3 := Tryz.sizeOf3
  v3 := Tryz.zeroValue3
  t4 := Tryz.underlying4
  a4 := Tryz.isAgg4
  z4 := Tryz.sizeOf4
  v4 := Tryz.zeroValue4
  t5 := Tryz.underlying5
  a5 := Tryz.isAgg5
  z5 := Tryz.sizeOf5
  v5 := Tryz.zeroValue5
  t9 := Tryz.underlying9
  a9 := Tryz.isAgg9
  z9 := Tryz.sizeOf9
  v9 := Tryz.zeroValue9
  t46 := Tryz.underlying99
  a46 := Tryz.isAgg99
  z46 := Tryz.sizeOf99
  v46 := Tryz.zeroValue99
  t51 := Tryz.underlying105
  a51 := Tryz.isAgg105
  z51 := Tryz.sizeOf105
  v51 := Tryz.zeroValue105
  t59 := Tryz.underlying66
  a59 := Tryz.isAgg66
  z59 := Tryz.sizeOf66
  v59 := Tryz.zeroValue66
  t146 := Tryz.underlying106
  a146 := Tryz.isAgg106
  z146 := Tryz.sizeOf106
  v146 := Tryz.zeroValue106
  g1 := by kernel_rfl }
def YtmodmeabjhaklabGreatDoor.lays185_ren : Go.Shelf.Ren := ⟨fun | 115 => 73 | 185 => 51 | 187 => 72 | 224 => 75 | 253 => 74 | 254 => 76 | 255 => 88 | 291 => 89 | n => n, fun | 0 => 0 | 3 => 3 | 4 => 4 | 5 => 5 | 9 => 9 | 37 => 22 | 46 => 99 | 51 => 105 | 146 => 106 | n => n, fun | 1 => 0 | n => n⟩
theorem YtmodmeabjhaklabGreatDoor.lays185 : Go.Proofs.Lays.n185 Tryz.prog YtmodmeabjhaklabGreatDoor.lays185_ren := {
  mixed := by kernel_rfl
  f115 := Tryz.func73.trans (congrArg some (by kernel_rfl))
  f185 := Tryz.func51.trans (congrArg some (by kernel_rfl))
  f187 := Tryz.func72.trans (congrArg some (by kernel_rfl))
  f224 := Tryz.func75.trans (congrArg some (by kernel_rfl))
  f253 := Tryz.func74.trans (congrArg some (by kernel_rfl))
  f254 := Tryz.func76.trans (congrArg some (by kernel_rfl))
  f255 := Tryz.func88.trans (congrArg some (by kernel_rfl))
  f291 := Tryz.func89.trans (congrArg some (by kernel_rfl))
  t0 := Tryz.underlying0
  a0 := Tryz.isAgg0
  z0 := Tryz.sizeOf0
  v0 := Tryz.zeroValue0
  t3 := Tryz.underlying3
  a3 := Tryz.isAgg3
  z3 := Tryz.sizeOf3
  v3 := Tryz.zeroValue3
  t4 := Tryz.underlying4
  a4 := Tryz.isAgg4
  z4 := Tryz.sizeOf4
  v4 := Tryz.zeroValue4
  t5 := Tryz.underlying5
  a5 := Tryz.isAgg5
  z5 := Tryz.sizeOf5
  v5 := Tryz.zeroValue5
  t9 := Tryz.underlying9
  a9 := Tryz.isAgg9
  z9 := Tryz.sizeOf9
  v9 := Tryz.zeroValue9
  t37 := Tryz.underlying22
  a37 := Tryz.isAgg22
  z37 := Tryz.sizeOf22
  v37 := Tryz.zeroValue22
  t46 := Tryz.underlying99
  a46 := Tryz.isAgg99
  z46 := Tryz.sizeOf99
  v46 := Tryz.zeroValue99
  t51 := Tryz.underlying105
  a51 := Tryz.isAgg105
  z51 := Tryz.sizeOf105
  v51 := Tryz.zeroValue105
  t146 := Tryz.underlying106
  a146 := Tryz.isAgg106
  z146 := Tryz.sizeOf106
  v146 := Tryz.zeroValue106
  g1 := by kernel_rfl }
open Go.RowKit Go.Lib in
theorem YtmodmeabjhaklabGreatDoor.strings_Cut (s sep : ByteArray) (m : Int) (w : World) (hs : s.size < 4294967281) (hm : w.cell? ⟨0, 0, none⟩ = some (.int .i64 m)) :
    Calls Tryz.prog 27 #[.string s, .string sep] w fun e w' => e = .returned (.tuple #[.string ⟨(Lib.cut s.data.toList sep.data.toList).1.toArray⟩, .string ⟨(Lib.cut s.data.toList sep.data.toList).2.1.toArray⟩, .bool (Lib.cut s.data.toList sep.data.toList).2.2]) ∧ ∃ n, w' = w.drewN n := Any.strings_Cut YtmodmeabjhaklabGreatDoor.lays145 s sep m w hs hm
open Go.RowKit Go.Lib in
theorem YtmodmeabjhaklabGreatDoor.bytes_Index_at (a1 a2 : Addr) (n c1 k c2 : Nat) (xs ys : List Int) (m : Int) (w : World) (hx : xs.length = n) (hy : ys.length = k) (hr1 : ∀ x ∈ xs, 0 ≤ x ∧ x < 256) (hr2 : ∀ y ∈ ys, 0 ≤ y ∧ y < 256)
    (hc1 : ∀ i, i < n → w.cell? (a1.add i) = some (.int .u8 (xs.getD i 0))) (hc2 : ∀ i, i < k → w.cell? (a2.add i) = some (.int .u8 (ys.getD i 0))) (hcap : n ≤ c1) (hs : n < 4294967281) (hk : k ≤ 9223372036854775807) (hm : w.cell? ⟨0, 0, none⟩ = some (.int .i64 m)) :
    Calls Tryz.prog 51 #[.slice (some a1) n c1, .slice (some a2) k c2] w fun e w' => e = .returned (.int .i64 (Lib.index (Lib.bytesOf xs) (Lib.bytesOf ys))) ∧ ∃ q, w' = w.drewN q := Any.bytes_Index_at YtmodmeabjhaklabGreatDoor.lays185 a1 a2 n c1 k c2 xs ys m w hx hy hr1 hr2 hc1 hc2 hcap hs hk hm
theorem YtmodmeabjhaklabGreatDoor.bytes_Index_longer (p q : Option Addr) (n c m d : Nat) (w : World) (h2 : 2 ≤ m) (hnm : n < m) (hm : m ≤ 9223372036854775807) :
    Calls Tryz.prog 51 #[.slice p n c, .slice q m d] w fun e w' => e = .returned (.int .i64 (-1)) ∧ w' = w := Any.bytes_Index_longer YtmodmeabjhaklabGreatDoor.lays185 p q n c m d w h2 hnm hm
end Go.Proofs
/-
  strings.CutPrefix; isVersion.
-/
namespace Go.Proofs.YtmodmeabjhaklabGreatDoor
open Go.RowKit

theorem hasPrefix73 (s p : ByteArray) (w : World) :
    Calls Tryz.prog 64 #[.string s, .string p] w fun e w' => e = .returned (.bool (Lib.hasPrefix s.data.toList p.data.toList)) ∧ w' = w :=
  Any.stringslite_HasPrefix (ρ := YtmodmeabjhaklabGreatDoor.lays99_ren) { YtmodmeabjhaklabGreatDoor.lays99 with } s p w
theorem hp_eq (s p : List UInt8) : Lib.hasPrefix s p = p.isPrefixOf s := rfl
theorem pre_len {s p : List UInt8} (h : p.isPrefixOf s = true) : p.length ≤ s.length ∧ s = p ++ s.drop p.length := by
  rw [List.isPrefixOf_iff_prefix] at h
  obtain ⟨t, rfl⟩ := h
  simp
def cpV (s p : List UInt8) : Value := if p.isPrefixOf s then .tuple #[.string ⟨(s.drop p.length).toArray⟩, .bool true] else .tuple #[.string ⟨s.toArray⟩, .bool false]
theorem cp_yes {s p : List UInt8} (h : p.isPrefixOf s = true) : cpV s p = .tuple #[.string ⟨(s.drop p.length).toArray⟩, .bool true] := by rw [cpV, if_pos h]
theorem cp_no {s p : List UInt8} (h : ¬ p.isPrefixOf s = true) : cpV s p = .tuple #[.string ⟨s.toArray⟩, .bool false] := by rw [cpV, if_neg h]
theorem cutPrefix89 (s p : List UInt8) (w : World) (_hs : s.length ≤ 1000000000) :
    Calls Tryz.prog 80 #[.string ⟨s.toArray⟩, .string ⟨p.toArray⟩] w fun e w' => e = .returned (cpV s p) ∧ Below w.heap.size w w' := by
  have HP := (show Hid _ from hasPrefix73 ⟨s.toArray⟩ ⟨p.toArray⟩ w)
  simp only [hp_eq] at HP
  by_cases h : p.isPrefixOf s = true
  · rw [cp_yes h]
    rw [h] at HP
    have hl := (pre_len h).1
    have hl1 : (p.length : Int) ≤ (s.length : Int) := by omega
    have HE : Hid ((⟨s.toArray⟩ : ByteArray).extract p.length s.length = ⟨(s.drop p.length).toArray⟩) := by
      show _ = _
      rw [mk_ext, List.take_length]
    clear h hl
    go_enter Tryz.func80, Tryz.ntmps80
    go_wp2_with (go_at_call 64; refine Calls.mono HP.out ?_; rintro e w' ⟨rfl, rfl⟩)
    go_ret2
    refine ⟨?_, by first | exact Below.refl _ _ | exact (Below.refl _ _).drew⟩
    simp [HE.out]
  · have h0 : p.isPrefixOf s = false := Bool.eq_false_iff.2 h
    rw [cp_no h]
    rw [h0] at HP
    clear h h0
    go_enter Tryz.func80, Tryz.ntmps80
    go_wp2_with (go_at_call 64; refine Calls.mono HP.out ?_; rintro e w' ⟨rfl, rfl⟩)
    go_ret2
    exact ⟨rfl, Below.refl _ _⟩
theorem cutPrefix_any (s p : List UInt8) (w : World) (hs : s.length ≤ 1000000000) :
    Calls Tryz.prog 54 #[.string ⟨s.toArray⟩, .string ⟨p.toArray⟩] w fun e w' => e = .returned (cpV s p) ∧ Below w.heap.size w w' := by
  have HP := (show Hid _ from cutPrefix89 s p w hs)
  by_cases h : p.isPrefixOf s = true
  · rw [cp_yes h]
    rw [cp_yes h] at HP
    clear h
    go_enter Tryz.func54, Tryz.ntmps54
    go_wp2_with (go_at_call 80; refine Calls.mono HP.out ?_; rintro e w' ⟨rfl, hb⟩)
    go_ret2
    exact ⟨rfl, hb⟩
  · rw [cp_no h]
    rw [cp_no h] at HP
    clear h
    go_enter Tryz.func54, Tryz.ntmps54
    go_wp2_with (go_at_call 80; refine Calls.mono HP.out ?_; rintro e w' ⟨rfl, hb⟩)
    go_ret2
    exact ⟨rfl, hb⟩
theorem ver_of {v r : List UInt8} (hv : v = httpT ++ r) : verB v = (decide (r.length = 3) && digB ((r.getD 0 0).toNat : Int) && decide ((r.getD 1 0).toNat = 46) && digB ((r.getD 2 0).toNat : Int)) := by
  subst hv
  have h1 : httpT.isPrefixOf (httpT ++ r) = true := by rw [List.isPrefixOf_iff_prefix]; exact List.prefix_append _ _
  have h2 : decide ((httpT ++ r).length = 8) = decide (r.length = 3) := by
    apply decide_eq_decide.2
    simp [httpT]
  rw [verB, h1, h2]
  simp [httpT]
set_option maxHeartbeats 2000000 in
set_option maxRecDepth 20000 in
theorem isVersion_any (v : List UInt8) (w : World) (hs : v.length ≤ 1000000000) :
    Calls Tryz.prog 30 #[.string ⟨v.toArray⟩] w fun e w' => e = .returned (.bool (verB v)) ∧ Below w.heap.size w w' := by
  have HC := (show Hid _ from cutPrefix_any v httpT w hs)
  by_cases h : httpT.isPrefixOf v = true
  · rw [cp_yes h] at HC
    obtain ⟨r, hr⟩ : ∃ r, r = v.drop httpT.length := ⟨_, rfl⟩
    have hv := (pre_len h).2
    rw [← hr] at hv HC
    have HV := (show Hid _ from ver_of hv)
    clear h hr hv
    unfold httpT at HC
    by_cases h3 : r.length = 3
    · obtain ⟨S, hS⟩ : ∃ S : ByteArray, S = ⟨r.toArray⟩ := ⟨_, rfl⟩
      have hsz : S.size = 3 := by rw [hS, mk_size, h3]
      have g0 : r.getD 0 0 = S[0] := by subst hS; rw [mk_get]; simp [List.getD, List.getElem?_eq_getElem (show 0 < r.length by omega)]
      have g1 : r.getD 1 0 = S[1] := by subst hS; rw [mk_get]; simp [List.getD, List.getElem?_eq_getElem (show 1 < r.length by omega)]
      have g2 : r.getD 2 0 = S[2] := by subst hS; rw [mk_get]; simp [List.getD, List.getElem?_eq_getElem (show 2 < r.length by omega)]
      rw [g0, g1, g2, decide_eq_true h3] at HV
      rw [← hS] at HC
      clear hS g0 g1 g2 h3
      have ha : (S[0]).toNat < 256 := (S[0]).toNat_lt
      have hc : (S[2]).toNat < 256 := (S[2]).toNat_lt
      have hb : (S[1]).toNat < 256 := (S[1]).toNat_lt
      have HDa := (show Hid _ from fun W => isDigit65 ((S[0]).toNat : Int) W (by omega) (by omega))
      have HDc := (show Hid _ from fun W => isDigit65 ((S[2]).toNat : Int) W (by omega) (by omega))
      generalize digB ((S[0]).toNat : Int) = da at *
      generalize digB ((S[2]).toNat : Int) = dc at *
      have hszi : (S.size : Int) = 3 := by omega
      have hbb : (((S[1]).toNat : Int) == 46) = decide ((S[1]).toNat = 46) := by
        rw [Bool.eq_iff_iff, beq_iff_eq, decide_eq_true_iff]
        omega
      generalize hbd : decide ((S[1]).toNat = 46) = db at *
      clear hbd hb
      go_enter Tryz.func30, Tryz.ntmps30
      go_wp2_with fail
      refine Calls.mono HC.out ?_
      rintro e w1 ⟨rfl, hb1⟩
      have HB : Hid (Below w.heap.size w w1) := hb1
      clear hb1
      cases da
      · go_wp2_with fail
        refine Calls.mono (HDa.out _) ?_
        rintro e w' ⟨rfl, rfl⟩
        go_wp2
        go_ret
        rw [HV.out]
        exact ⟨rfl, HB.out⟩
      · cases db
        · go_wp2_with fail
          refine Calls.mono (HDa.out _) ?_
          rintro e w' ⟨rfl, rfl⟩
          go_wp2
          go_ret
          rw [HV.out]
          exact ⟨by simp, HB.out⟩
        · go_wp2_with fail
          refine Calls.mono (HDa.out _) ?_
          rintro e w' ⟨rfl, rfl⟩
          go_wp2_with fail
          refine Calls.mono (HDc.out _) ?_
          rintro e w' ⟨rfl, rfl⟩
          go_wp2
          go_ret
          rw [HV.out]
          exact ⟨by simp, HB.out⟩
    · have HF : Hid (verB v = false) := by
        show _ = _
        rw [HV.out, decide_eq_false h3]
        rfl
      have h3i : ((r.length : Int) == 3) = false := by rw [beq_eq_false_iff_ne]; omega
      clear h3 HV
      go_enter Tryz.func30, Tryz.ntmps30
      go_wp2_with (go_at_call 54; refine Calls.mono HC.out ?_; rintro e w1 ⟨rfl, hb1⟩)
      go_ret
      rw [HF.out]
      exact ⟨rfl, hb1⟩
  · rw [cp_no h] at HC
    have h0 : httpT.isPrefixOf v = false := Bool.eq_false_iff.2 h
    have HF : Hid (verB v = false) := by
      show _ = _
      rw [verB, h0]
      rfl
    clear h h0
    unfold httpT at HC
    go_enter Tryz.func30, Tryz.ntmps30
    go_wp2_with (go_at_call 54; refine Calls.mono HC.out ?_; rintro e w1 ⟨rfl, hb1⟩)
    go_ret
    rw [HF.out]
    exact ⟨rfl, hb1⟩
end Go.Proofs.YtmodmeabjhaklabGreatDoor
/-
  Layings of the library's contracts at this program.
-/
namespace Go.Proofs
open Go.Shelf
def YtmodmeabjhaklabGreatDoor.laysC245_ren : Go.Shelf.Ren := ⟨fun | 129 => 137 | 171 => 119 | 205 => 118 | 243 => 127 | 245 => 87 | 246 => 131 | 279 => 105 | 280 => 106 | 281 => 107 | 282 => 108 | 283 => 132 | 284 => 133 | 285 => 134 | 286 => 135 | 316 => 117 | 317 => 136 | 318 => 138 | 319 => 139 | 320 => 140 | 337 => 141 | 338 => 142 | n => n, fun | 0 => 0 | 2 => 2 | 3 => 3 | 4 => 4 | 5 => 5 | 9 => 9 | 20 => 20 | 37 => 22 | 46 => 99 | 51 => 105 | 53 => 87 | 75 => 89 | 80 => 156 | 127 => 133 | 143 => 134 | 145 => 136 | 167 => 117 | 168 => 119 | 210 => 128 | 171 => 143 | 173 => 146 | 212 => 149 | 213 => 150 | 232 => 154 | 233 => 155 | n => n, fun | 15 => 1 | 16 => 2 | 17 => 5 | 18 => 6 | 19 => 7 | n => n⟩
theorem YtmodmeabjhaklabGreatDoor.laysC245 : Go.Proofs.LaysC.n245 Tryz.prog YtmodmeabjhaklabGreatDoor.laysC245_ren := {
  mixed := by kernel_rfl
  f129 := Tryz.func137.trans (congrArg some (by kernel_rfl))
  f171 := Tryz.func119.trans (congrArg some (by kernel_rfl))
  f205 := Tryz.func118.trans (congrArg some (by kernel_rfl))
  f243 := Tryz.func127.trans (congrArg some (by kernel_rfl))
  f245 := Tryz.func87.trans (congrArg some (by kernel_rfl))
  f246 := Tryz.func131.trans (congrArg some (by kernel_rfl))
  f279 := Tryz.func105.trans (congrArg some (by kernel_rfl))
  f280 := Tryz.func106.trans (congrArg some (by kernel_rfl))
  f281 := Tryz.func107.trans (congrArg some (by kernel_rfl))
  f282 := Tryz.func108.trans (congrArg some (by kernel_rfl))
  f283 := Tryz.func132.trans (congrArg some (by kernel_rfl))
  f284 := Tryz.func133.trans (congrArg some (by kernel_rfl))
  f285 := Tryz.func134.trans (congrArg some (by kernel_rfl))
  f286 := Tryz.func135.trans (congrArg some (by kernel_rfl))
  f316 := Tryz.func117.trans (congrArg some (by kernel_rfl))
  f317 := Tryz.func136.trans (congrArg some (by kernel_rfl))
  f318 := Tryz.func138.trans (congrArg some (by kernel_rfl))
  f319 := Tryz.func139.trans (congrArg some (by kernel_rfl))
  f320 := Tryz.func140.trans (congrArg some (by kernel_rfl))
  f337 := Tryz.func141.trans (congrArg some (by kernel_rfl))
  f338 := Tryz.func142.trans (congrArg some (by kernel_rfl))
  t0 := Tryz.underlying0
  a0 := Tryz.isAgg0
  z0 := Tryz.sizeOf0
  v0 := Tryz.zeroValue0
  t2 := Tryz.underlying2
  a2 := Tryz.isAgg2
  z2 := Tryz.sizeOf2
  v2 := Tryz.zeroValue2
  t3 := Tryz.underlying3
  a3 := Tryz.isAgg3
  z3 := Tryz.sizeOf3
  v3 := Tryz.zeroValue3
  t4 := Tryz.underlying4
  a4 := Tryz.isAgg4
  z4 := Tryz.sizeOf4
  v4 := Tryz.zeroValue4
  t5 := Tryz.underlying5
  a5 := Tryz.isAgg5
  z5 := Tryz.sizeOf5
  v5 := Tryz.zeroValue5
  t9 := Tryz.underlying9
  a9 := Tryz.isAgg9
  z9 := Tryz.sizeOf9
  v9 := Tryz.zeroValue9
  t20 := Tryz.underlying20
  a20 := Tryz.isAgg20
  z20 := Tryz.sizeOf20
  v20 := Tryz.zeroValue20
  t37 := Tryz.underlying22
  a37 := Tryz.isAgg22
  z37 := Tryz.sizeOf22
  v37 := Tryz.zeroValue22
  t46 := Tryz.underlying99
  a46 := Tryz.isAgg99
  z46 := Tryz.sizeOf99
  v46 := Tryz.zeroValue99
  t51 := Tryz.underlying105
  a51 := Tryz.isAgg105
  z51 := Tryz.sizeOf105
  v51 := Tryz.zeroValue105
  t53 := Tryz.underlying87
  a53 := Tryz.isAgg87
  z53 := Tryz.sizeOf87
  v53 := Tryz.zeroValue87
  t75 := Tryz.underlying89
  a75 := Tryz.isAgg89
  z75 := Tryz.sizeOf89
  v75 := Tryz.zeroValue89
  t127 := Tryz.underlying133
  a127 := Tryz.isAgg133
  z127 := Tryz.sizeOf133
  v127 := Tryz.zeroValue133
  t143 := Tryz.underlying134
  a143 := Tryz.isAgg134
  z143 := Tryz.sizeOf134
  v143 := Tryz.zeroValue134
  t145 := Tryz.underlying136
  a145 := Tryz.isAgg136
  z145 := Tryz.sizeOf136
  v145 := Tryz.zeroValue136
  t167 := Tryz.underlying117
  a167 := Tryz.isAgg117
  z167 := Tryz.sizeOf117
  v167 := Tryz.zeroValue117
  t168 := Tryz.underlying119
  a168 := Tryz.isAgg119
  z168 := Tryz.sizeOf119
  v168 := Tryz.zeroValue119
  t171 := Tryz.underlying143
  a171 := Tryz.isAgg143
  z171 := Tryz.sizeOf143
  v171 := Tryz.zeroValue143
  t173 := Tryz.underlying146
  a173 := Tryz.isAgg146
  z173 := Tryz.sizeOf146
  v173 := Tryz.zeroValue146
  t210 := Tryz.underlying128
  a210 := Tryz.isAgg128
  z210 := Tryz.sizeOf128
  v210 := Tryz.zeroValue128
  t212 := Tryz.underlying149
  a212 := Tryz.isAgg149
  z212 := Tryz.sizeOf149
  v212 := Tryz.zeroValue149
  t213 := Tryz.underlying150
  a213 := Tryz.isAgg150
  z213 := Tryz.sizeOf150
  t232 := Tryz.underlying154
  a232 := Tryz.isAgg154
  z232 := Tryz.sizeOf154
  v232 := Tryz.zeroValue154
  t233 := Tryz.underlying155
  a233 := Tryz.isAgg155
  z233 := Tryz.sizeOf155
  v233 := Tryz.zeroValue155
  g15 := by kernel_rfl
  g16 := by kernel_rfl
  g17 := by kernel_rfl
  g18 := by kernel_rfl
  g19 := by kernel_rfl
  t80 := Tryz.underlying156
  a80 := Tryz.isAgg156
  z80 := Tryz.sizeOf156
  v80 := Tryz.zeroValue156
  i0 := by kernel_rfl
  i2 := by kernel_rfl
  i3 := by kernel_rfl
  i4 := by kernel_rfl
  i5 := by kernel_rfl
  i9 := by kernel_rfl
  i20 := by kernel_rfl
  i37 := by kernel_rfl
  i46 := by kernel_rfl
  i51 := by kernel_rfl
  i53 := by kernel_rfl
  i75 := by kernel_rfl
  i80 := by kernel_rfl
  i127 := by kernel_rfl
  i143 := by kernel_rfl
  i145 := by kernel_rfl
  i167 := by kernel_rfl
  i168 := by kernel_rfl
  i171 := by kernel_rfl
  i173 := by kernel_rfl
  i210 := by kernel_rfl
  i212 := by kernel_rfl
  i232 := by kernel_rfl
  i233 := by kernel_rfl
  m15 := by kernel_rfl
  m16 := by kernel_rfl
  m17 := by kernel_rfl
  m18 := by kernel_rfl
  m19 := by kernel_rfl
  c0 := by kernel_rfl
  c2 := by kernel_rfl
  c3 := by kernel_rfl
  c4 := by kernel_rfl
  c5 := by kernel_rfl
  c9 := by kernel_rfl
  c20 := by kernel_rfl
  c37 := by kernel_rfl
  c46 := by kernel_rfl
  c51 := by kernel_rfl
  c53 := by kernel_rfl
  c75 := by kernel_rfl
  c80 := by kernel_rfl
  c127 := by kernel_rfl
  c143 := by kernel_rfl
  c145 := by kernel_rfl
  c167 := by kernel_rfl
  c168 := by kernel_rfl
  c171 := by kernel_rfl
  c173 := by kernel_rfl
  c210 := by kernel_rfl
  c212 := by kernel_rfl
  c213 := by kernel_rfl
  c232 := by kernel_rfl
  c233 := by kernel_rfl }
def YtmodmeabjhaklabGreatDoor.lays321_ren : Go.Shelf.Ren := ⟨fun | 321 => 103 | n => n, fun | 5 => 5 | n => n, fun | n => n⟩
theorem YtmodmeabjhaklabGreatDoor.lays321 : Go.Proofs.Lays.n321 Tryz.prog YtmodmeabjhaklabGreatDoor.lays321_ren := {
  mixed := by kernel_rfl
  f321 := Tryz.func103.trans (congrArg some (by kernel_rfl))
  t5 := Tryz.underlying5
  a5 := Tryz.isAgg5
  z5 := Tryz.sizeOf5
  v5 := Tryz.zeroValue5 }
open Go.RowKit in
theorem YtmodmeabjhaklabGreatDoor.strconv_toError_syntax (fn s : ByteArray) (base bits : Int) (ev : Value) (w : World) (hlim : s.size ≤ 281474976710656) (hv : w.cell? ⟨1, 0, none⟩ = some ev) (hev : ev = .nilIface ∨ ∃ te pe, ev = .iface te pe) :
    Calls Tryz.prog 87 #[.string fn, .string s, .int .i64 base, .int .i64 bits, .iface 117 (.int .i64 2)] w fun e w' => ∃ N, e = .returned (.iface 119 (.pointer (some ⟨N, 0, none⟩))) ∧ w.heap.size ≤ N ∧ w'.heap[N]? = some (.cells #[.string fn, .string s, ev] 128 (0, 0)) ∧ Below w.heap.size w w' := Any.strconv_toError_syntax YtmodmeabjhaklabGreatDoor.laysC245 fn s base bits ev w hlim hv hev
open Go.RowKit in
theorem YtmodmeabjhaklabGreatDoor.strconv_toError_range (fn s : ByteArray) (base bits : Int) (ev : Value) (w : World) (hlim : s.size ≤ 281474976710656) (hv : w.cell? ⟨2, 0, none⟩ = some ev) (hev : ev = .nilIface ∨ ∃ te pe, ev = .iface te pe) :
    Calls Tryz.prog 87 #[.string fn, .string s, .int .i64 base, .int .i64 bits, .iface 117 (.int .i64 1)] w fun e w' => ∃ N, e = .returned (.iface 119 (.pointer (some ⟨N, 0, none⟩))) ∧ w.heap.size ≤ N ∧ w'.heap[N]? = some (.cells #[.string fn, .string s, ev] 128 (0, 0)) ∧ Below w.heap.size w w' := Any.strconv_toError_range YtmodmeabjhaklabGreatDoor.laysC245 fn s base bits ev w hlim hv hev
theorem YtmodmeabjhaklabGreatDoor.internal_strconv_lower (c : Int) (w : World) :
    Calls Tryz.prog 103 #[.int .u8 c] w fun e w' => e = .returned (.int .u8 (bits .or .u8 c 32)) ∧ w' = w := Any.internal_strconv_lower YtmodmeabjhaklabGreatDoor.lays321 c w
end Go.Proofs
/-
  strconv.ParseUint at the base 16; a chunk's size.
-/
namespace Go.Proofs.YtmodmeabjhaklabGreatDoor
open Go.RowKit

/-- strconv.ErrSyntax and ErrRange hold some error. -/
def Er (w : World) : Prop := (∃ ev, w.cell? ⟨1, 0, none⟩ = some ev ∧ (ev = .nilIface ∨ ∃ te pe, ev = .iface te pe)) ∧ ∃ ev, w.cell? ⟨2, 0, none⟩ = some ev ∧ (ev = .nilIface ∨ ∃ te pe, ev = .iface te pe)
theorem Er.below {w w' : World} (h : Er w) {B : Nat} (hb : Below B w w') (hB : w.heap.size ≤ B) : Er w' := by
  obtain ⟨⟨e1, h1, h2⟩, e2, h3, h4⟩ := h
  have p1 : 1 < w.heap.size := block_lt_of_cell h1
  have p2 : 2 < w.heap.size := block_lt_of_cell h3
  exact ⟨⟨e1, (hb.cell (by show 1 < B; omega)).trans h1, h2⟩, e2, (hb.cell (by show 2 < B; omega)).trans h3, h4⟩

theorem low_fin : ∀ n : Fin 256, ¬ (48 ≤ n.val ∧ n.val ≤ 57) → (0 ≤ bits .or .u8 (n.val : Int) 32 ∧ bits .or .u8 (n.val : Int) 32 ≤ 255) ∧ ((97 ≤ bits .or .u8 (n.val : Int) 32 ∧ bits .or .u8 (n.val : Int) 32 ≤ 122) → if bits .or .u8 (n.val : Int) 32 < 103 then ((dv (UInt8.ofNat n.val) : Int) = bits .or .u8 (n.val : Int) 32 - 87) else dv (UInt8.ofNat n.val) = 99) ∧ (¬ (97 ≤ bits .or .u8 (n.val : Int) 32 ∧ bits .or .u8 (n.val : Int) 32 ≤ 122) → dv (UInt8.ofNat n.val) = 99) ∧ (n.val = 95 → bits .or .u8 (n.val : Int) 32 = 127) := by decide +kernel
theorem low_facts (c : UInt8) (h : ¬ (48 ≤ c.toNat ∧ c.toNat ≤ 57)) : (0 ≤ bits .or .u8 (c.toNat : Int) 32 ∧ bits .or .u8 (c.toNat : Int) 32 ≤ 255) ∧ ((97 ≤ bits .or .u8 (c.toNat : Int) 32 ∧ bits .or .u8 (c.toNat : Int) 32 ≤ 122) → if bits .or .u8 (c.toNat : Int) 32 < 103 then ((dv c : Int) = bits .or .u8 (c.toNat : Int) 32 - 87) else dv c = 99) ∧ (¬ (97 ≤ bits .or .u8 (c.toNat : Int) 32 ∧ bits .or .u8 (c.toNat : Int) 32 ≤ 122) → dv c = 99) ∧ (c.toNat = 95 → bits .or .u8 (c.toNat : Int) 32 = 127) := by
  have := low_fin ⟨c.toNat, c.toNat_lt⟩ h
  simpa using this
def puN (l : List UInt8) : Option Nat := if l = [] then none else digs 16 0 l
/-- What a reading of digits tells. -/
def PuX (l : List UInt8) (e : Ending) : Prop :=
  ∃ x ev, e = .returned (.tuple #[.int .u64 x, ev]) ∧ 0 ≤ x ∧ x ≤ 18446744073709551615 ∧ (ev = .nilIface ∨ ev = .iface 117 (.int .i64 2) ∨ ev = .iface 117 (.int .i64 1)) ∧ (l.length ≤ 8 → (∃ n : Nat, puN l = some n ∧ x = (n : Int) ∧ ev = .nilIface) ∨ (puN l = none ∧ ev = .iface 117 (.int .i64 2)))
theorem PuX.no {l : List UInt8} {e : Ending} (h : l.length ≤ 8 → puN l = none) (he : e = .returned (.tuple #[.int .u64 0, .iface 117 (.int .i64 2)])) : PuX l e :=
  ⟨0, _, he, by omega, by omega, .inr (.inl rfl), fun h8 => .inr ⟨h h8, rfl⟩⟩
theorem PuX.range {l : List UInt8} {e : Ending} (h : ¬ l.length ≤ 8) (he : e = .returned (.tuple #[.int .u64 18446744073709551615, .iface 117 (.int .i64 1)])) : PuX l e :=
  ⟨_, _, he, by omega, by omega, .inr (.inr rfl), fun h8 => absurd h8 h⟩
theorem PuX.yes {l : List UInt8} {e : Ending} {x : Int} (h0 : 0 ≤ x) (h1 : x ≤ 18446744073709551615) (h : l.length ≤ 8 → ∃ n : Nat, puN l = some n ∧ x = (n : Int)) (he : e = .returned (.tuple #[.int .u64 x, .nilIface])) : PuX l e :=
  ⟨x, _, he, h0, h1, .inl rfl, fun h8 => by obtain ⟨n, a, b⟩ := h h8; exact .inl ⟨n, a, b, rfl⟩⟩

theorem pu_aux {a : Int} {acc n : Nat} (hn : 48 ≤ n) (h : a * 16 + ((n - 48 : Nat) : Int) = (acc : Int)) : a * 16 + ((n : Int) - 48) = (acc : Int) := by omega
theorem pu_aux2 {a q : Int} {acc d : Nat} (hd : (d : Int) = q - 87) (h : a * 16 + (d : Int) = (acc : Int)) : a * 16 + (q - 97 + 10) = (acc : Int) := by omega
set_option maxRecDepth 20000 in
set_option maxHeartbeats 6400000 in
theorem parseUint_any (s : ByteArray) (w : World) (h1 : 1 ≤ s.size) (h8 : s.size ≤ 1000000000) :
    Calls Tryz.prog 86 #[.string s, .int .i64 16, .int .i64 64] w fun e w' => PuX s.data.toList e ∧ Below w.heap.size w w' := by
  have hse : s.toList.isEmpty = false := by
    rw [Lib.toList_data]
    cases h : s.data.toList with
    | nil =>
      have : s.data.toList.length = 0 := by rw [h]; rfl
      have e : s.data.toList.length = s.size := by simp
      omega
    | cons a r => rfl
  have hcv := Lib.run_convert_string_bytes (P := Tryz.prog) w 9 22 5 s (u := .string) Tryz.underlying9 Tryz.underlying22 Tryz.underlying5
  have hB : ∀ j, j < s.size → (Lib.bytesWorld w 5 s).cell? ⟨w.heap.size, j, none⟩ = some (.int .u8 (s.data.toList.getD j 0).toNat) := fun j hj => Lib.bytesWorld_cell w 5 s j hj
  have HB1 : Hid (Below w.heap.size w (Lib.bytesWorld w 5 s)) := ⟨rfl, rfl, rfl, by rw [Lib.bytesWorld_size]; omega, fun b hb => Lib.bytesWorld_at_old w 5 s b hb⟩
  obtain ⟨W1, hW1⟩ : ∃ W1, W1 = Lib.bytesWorld w 5 s := ⟨_, rfl⟩
  rw [← hW1] at hcv hB HB1
  clear hW1
  obtain ⟨bs, hL⟩ : ∃ bs, bs = s.data.toList := ⟨_, rfl⟩
  have hLn : bs.length = s.size := by rw [hL, Lib.size_eq]
  rw [← hL] at hB ⊢
  clear hL
  have HPN : Hid (puN bs = digs 16 0 bs) := by
    show _ = _
    rw [puN, if_neg]
    intro h
    rw [h] at hLn
    simp at hLn
    omega
  have hmx : IntKind.u64.wrap (IntKind.u64.wrap 18446744073709551616 - 1) = 18446744073709551615 := by decide
  go_enter Tryz.func86, Tryz.ntmps86
  go_wp2
  clear hmx
  go_loop [12, 13, 101] (fun vu vn vi => ∃ (k : Nat) (a : Int), vu = .bool false ∧ vn = .int .u64 a ∧ vi = .int .i64 k ∧ k ≤ s.size ∧ 0 ≤ a ∧ a ≤ 18446744073709551615 ∧ Hid (bs.length ≤ 8 → ∃ acc : Nat, a = (acc : Int) ∧ acc < 16 ^ k ∧ digs 16 0 bs = digs 16 acc (bs.drop k)))
    (fun _ _ vi => s.size - (intOf vi).toNat)
  case atStart => exact ⟨0, 0, rfl, rfl, rfl, by omega, by omega, by omega, fun _ => ⟨0, rfl, by decide, rfl⟩⟩
  case round =>
    obtain ⟨k, a, rfl, rfl, rfl, hk, a0, a1, hh⟩ := hrel
    by_cases hkn : k < s.size
    · have hc := hB k hkn
      have hdrop : bs.drop k = bs[k]'(by omega) :: bs.drop (k + 1) := List.drop_eq_getElem_cons (by omega)
      have hget : bs.getD k 0 = bs[k]'(by omega) := by simp [List.getD, List.getElem?_eq_getElem (show k < bs.length by omega)]
      have hh2 := hh.out
      rw [hdrop] at hh2
      rw [hget] at hc
      generalize bs[k]'(by omega) = c at hc hh2
      have hc256 : c.toNat < 256 := c.toNat_lt
      have HH := (show Hid (bs.length ≤ 8 → ∃ acc : Nat, a = (acc : Int) ∧ acc < 16 ^ k ∧ digs 16 0 bs = digs 16 acc (c :: bs.drop (k + 1))) from hh2)
      have HR : Hid (1152921504606846976 ≤ a → ¬ bs.length ≤ 8) := by
        intro ha h8
        obtain ⟨acc, e1, e2, _⟩ := HH.out h8
        have hpow : 16 ^ k ≤ 16 ^ 8 := Nat.pow_le_pow_right (by omega) (by omega)
        have : (16 : Nat) ^ 8 = 4294967296 := by decide
        omega
      have HS : Hid (dv c < 16 → bs.length ≤ 8 → ∃ acc : Nat, a * 16 + (dv c : Int) = (acc : Int) ∧ acc < 16 ^ (k + 1) ∧ digs 16 0 bs = digs 16 acc (bs.drop (k + 1))) := by
        intro hd h8
        obtain ⟨acc, e1, e2, e3⟩ := HH.out h8
        have hps : 16 ^ (k + 1) = 16 ^ k * 16 := Nat.pow_succ 16 k
        refine ⟨acc * 16 + dv c, by omega, by omega, ?_⟩
        rw [e3]
        simp only [digs]
        rw [if_pos hd, Nat.mul_comm 16 acc]
      have HN0 : Hid (¬ dv c < 16 → bs.length ≤ 8 → puN bs = none) := by
        intro hd h8
        obtain ⟨acc, e1, e2, e3⟩ := HH.out h8
        rw [HPN.out, e3]
        simp only [digs]
        rw [if_neg hd]
      clear hB hdrop hget hh hh2 HH
      have hcut : 1152921504606846976 ≤ a ∨ a < 1152921504606846976 := by omega
      by_cases hdig : 48 ≤ c.toNat ∧ c.toNat ≤ 57
      · obtain ⟨hd0, hd1⟩ := hdig
        have hdv : dv c = c.toNat - 48 := by unfold dv; rw [if_pos ⟨hd0, hd1⟩]
        rcases hcut with hcut | hcut
        · have HN := HR.out hcut
          have HQ : Hid (¬ bs.length ≤ 8) := HN
          clear HN hdv
          go_wp2
          go_ret2
          exact ⟨PuX.range HQ.out rfl, HB1.out⟩
        · have hq := HS.out (by omega)
          have HN : Hid (bs.length ≤ 8 → ∃ acc : Nat, a * 16 + ((c.toNat : Int) - 48) = (acc : Int) ∧ acc < 16 ^ (k + 1) ∧ digs 16 0 bs = digs 16 acc (bs.drop (k + 1))) := by
            intro h8
            obtain ⟨acc, e1, e2, e3⟩ := hq h8
            refine ⟨acc, ?_, e2, e3⟩
            rw [hdv] at e1
            exact pu_aux hd0 e1
          clear hdv hq
          go_wp2
          refine ⟨⟨k + 1, a * 16 + ((c.toNat : Int) - 48), rfl, (by first | rfl | (congr 1; omega)), (by first | rfl | (congr 1; omega)), by omega, by omega, by omega, HN⟩, by simp [intOf]; omega⟩
      · obtain ⟨⟨hv0, hv1⟩, hl1, hl2, h95⟩ := low_facts c hdig
        generalize hq : bits .or .u8 (c.toNat : Int) 32 = q at *
        have HLW := (show Hid (∀ W, Calls Tryz.prog 103 #[.int .u8 (c.toNat : Int)] W fun e w' => e = .returned (.int .u8 q) ∧ w' = W) from fun W => by rw [← hq]; exact internal_strconv_lower _ _)
        clear hq
        have hnd : (c.toNat : Int) < 48 ∨ (57 : Int) < (c.toNat : Int) := by omega
        by_cases hq1 : 97 ≤ q ∧ q ≤ 122
        · have hl := hl1 hq1
          obtain ⟨hqa, hqb⟩ := hq1
          have h95' : ((c.toNat : Int) == 95) = false := by
            rw [beq_eq_false_iff_ne]
            intro e
            have := h95 (by omega)
            omega
          by_cases hq2 : q < 103
          · rw [if_pos (by omega)] at hl
            rcases hcut with hcut | hcut
            · have HQ : Hid (¬ bs.length ≤ 8) := HR.out hcut
              clear hl hl1 hl2 hdig h95
              rcases hnd with hnd | hnd
              all_goals
                go_wp2_with (go_at_call 103; refine (HLW.out _).mono ?_; rintro e w' ⟨rfl, rfl⟩)
                go_ret2
                exact ⟨PuX.range HQ.out rfl, HB1.out⟩
            · have hqq := HS.out (by omega)
              have HN : Hid (bs.length ≤ 8 → ∃ acc : Nat, a * 16 + (q - 97 + 10) = (acc : Int) ∧ acc < 16 ^ (k + 1) ∧ digs 16 0 bs = digs 16 acc (bs.drop (k + 1))) := by
                intro h8
                obtain ⟨acc, e1, e2, e3⟩ := hqq h8
                refine ⟨acc, ?_, e2, e3⟩
                exact pu_aux2 hl e1
              clear hl hl1 hl2 hdig h95 hqq
              rcases hnd with hnd | hnd
              all_goals
                go_wp2_with (go_at_call 103; refine (HLW.out _).mono ?_; rintro e w' ⟨rfl, rfl⟩)
                refine ⟨⟨k + 1, a * 16 + (q - 97 + 10), rfl, (by first | rfl | (congr 1; omega)), (by first | rfl | (congr 1; omega)), by omega, by omega, by omega, HN⟩, by simp [intOf]; omega⟩
          · have HN : Hid (bs.length ≤ 8 → puN bs = none) := HN0.out (by split at hl <;> omega)
            clear hl hl1 hl2 hdig h95 hcut
            rcases hnd with hnd | hnd
            all_goals
              go_wp2_with (go_at_call 103; refine (HLW.out _).mono ?_; rintro e w' ⟨rfl, rfl⟩)
              go_ret2
              exact ⟨PuX.no HN.out rfl, HB1.out⟩
        · have hl := hl2 hq1
          have HN : Hid (bs.length ≤ 8 → puN bs = none) := HN0.out (by omega)
          by_cases hc95 : c.toNat = 95
          · obtain rfl : q = 127 := h95 hc95
            rw [hc95] at hc HLW
            have hc95i : ((95 : Nat) : Int) = 95 := rfl
            rw [hc95i] at hc HLW
            clear hl hl1 hl2 hdig h95 hc95 hc95i hq1 hv0 hv1 hnd hcut
            go_wp2_with (go_at_call 103; refine (HLW.out _).mono ?_; rintro e w' ⟨rfl, rfl⟩)
            all_goals go_ret2
            all_goals exact ⟨PuX.no HN.out rfl, HB1.out⟩
          · have h95' : ((c.toNat : Int) == 95) = false := by
              rw [beq_eq_false_iff_ne]
              omega
            clear hl hl1 hl2 hdig h95 hc95 hcut
            rcases hnd with hnd | hnd
            all_goals
              go_wp2_with (go_at_call 103; refine (HLW.out _).mono ?_; rintro e w' ⟨rfl, rfl⟩)
              all_goals go_ret2
              all_goals exact ⟨PuX.no HN.out rfl, HB1.out⟩
    · have hkk : k = s.size := by omega
      subst hkk
      have HN : Hid (bs.length ≤ 8 → ∃ n : Nat, puN bs = some n ∧ a = (n : Int)) := by
        intro h8
        obtain ⟨acc, e1, e2, e3⟩ := hh.out h8
        refine ⟨acc, ?_, e1⟩
        rw [HPN.out, e3, List.drop_eq_nil_of_le (by omega)]
        rfl
      clear hh
      go_wp2
      go_ret2
      exact ⟨PuX.yes a0 a1 HN.out rfl, HB1.out⟩
/-- What ParseUint tells. -/
def PbX (l : List UInt8) (e : Ending) : Prop :=
  ∃ x ev, e = .returned (.tuple #[.int .u64 x, ev]) ∧ 0 ≤ x ∧ x ≤ 18446744073709551615 ∧ (ev = .nilIface ∨ ∃ N, ev = .iface 119 (.pointer (some ⟨N, 0, none⟩))) ∧ (l.length ≤ 8 → (∃ n : Nat, puN l = some n ∧ x = (n : Int) ∧ ev = .nilIface) ∨ (puN l = none ∧ ev ≠ .nilIface))
set_option maxRecDepth 20000 in
set_option maxHeartbeats 1600000 in
theorem parsePub_any (s : ByteArray) (w : World) (h8 : s.size ≤ 1000000000) (he : Er w) :
    Calls Tryz.prog 63 #[.string s, .int .i64 16, .int .i64 64] w fun e w' => PbX s.data.toList e ∧ Below w.heap.size w w' := by
  have hlen : s.data.toList.length = s.size := by simp
  have HT := (show Hid (∀ W k, Er W → (k = 1 ∨ k = 2) → Calls Tryz.prog 87 #[.string ⟨#[80, 97, 114, 115, 101, 85, 105, 110, 116]⟩, .string s, .int .i64 16, .int .i64 64, .iface 117 (.int .i64 k)] W fun e w' => ∃ N, e = .returned (.iface 119 (.pointer (some ⟨N, 0, none⟩))) ∧ Below W.heap.size W w') from fun W k hW hk => by
    obtain ⟨⟨ev, h1, h2⟩, ev2, h3, h4⟩ := hW
    rcases hk with rfl | rfl
    · refine (strconv_toError_range _ s 16 64 ev2 W (by omega) h3 h4).mono ?_
      rintro e w' ⟨M, h5, -, -, h6⟩
      exact ⟨M, h5, h6⟩
    · refine (strconv_toError_syntax _ s 16 64 ev W (by omega) h1 h2).mono ?_
      rintro e w' ⟨M, h5, -, -, h6⟩
      exact ⟨M, h5, h6⟩)
  have HE : Hid (Er w) := he
  have HI : Hid (Calls Tryz.prog 86 #[.string s, .int .i64 16, .int .i64 64] w fun e w' => PuX s.data.toList e ∧ Below w.heap.size w w') := by
    by_cases h1 : 1 ≤ s.size
    · exact parseUint_any s w h1 h8
    · have hnil : s.data.toList = [] := List.eq_nil_of_length_eq_zero (by omega)
      have hse : s.toList.isEmpty = true := by rw [Lib.toList_data, hnil]; rfl
      have HNL : Hid (s.data.toList.length ≤ 8 → puN s.data.toList = none) := fun _ => by rw [hnil]; rfl
      clear hnil he HT HE
      go_enter Tryz.func86, Tryz.ntmps86
      go_wp2
      go_ret2
      exact ⟨PuX.no HNL.out rfl, Below.refl _ _⟩
  clear he
  go_enter Tryz.func63, Tryz.ntmps63
  go_wp2_with fail
  refine Calls.mono HI.out ?_
  rintro e w1 ⟨⟨x, ev, rfl, x0, x1, hev, hpu⟩, hb1⟩
  have HP := (show Hid _ from hpu)
  have HB : Hid (Below w.heap.size w w1) := hb1
  clear hpu hb1 HI
  rcases hev with rfl | rfl | rfl
  · go_wp2
    go_ret2
    refine ⟨⟨x, _, rfl, x0, x1, .inl rfl, fun h => ?_⟩, HB.out⟩
    rcases HP.out h with ⟨n, h1, h2, _⟩ | ⟨_, h⟩
    · exact .inl ⟨n, h1, h2, rfl⟩
    · cases h
  · have K := HT.out w1 2 (HE.out.below HB.out (Nat.le_refl _)) (.inr rfl)
    go_wp2_with fail
    refine Calls.mono K ?_
    rintro e w2 ⟨M, rfl, hb2⟩
    have HB2 : Hid (Below w.heap.size w w2) := HB.out.trans (hb2.mono (HB.out.size))
    clear hb2 K
    go_wp2
    go_ret2
    refine ⟨⟨x, _, rfl, x0, x1, .inr ⟨M, rfl⟩, fun h => ?_⟩, HB2.out⟩
    rcases HP.out h with ⟨n, _, _, h⟩ | ⟨h, _⟩
    · cases h
    · exact .inr ⟨h, by simp⟩
  · have K := HT.out w1 1 (HE.out.below HB.out (Nat.le_refl _)) (.inl rfl)
    go_wp2_with fail
    refine Calls.mono K ?_
    rintro e w2 ⟨M, rfl, hb2⟩
    have HB2 : Hid (Below w.heap.size w w2) := HB.out.trans (hb2.mono (HB.out.size))
    clear hb2 K
    go_wp2
    go_ret2
    refine ⟨⟨x, _, rfl, x0, x1, .inr ⟨M, rfl⟩, fun h => ?_⟩, HB2.out⟩
    rcases HP.out h with ⟨n, _, _, h⟩ | ⟨h, h'⟩
    · cases h
    · exact .inr ⟨h, by simp⟩
end Go.Proofs.YtmodmeabjhaklabGreatDoor
/-
  A chunk's size out of its line (chunkSize).
-/
namespace Go.Proofs.YtmodmeabjhaklabGreatDoor
open Go.RowKit

theorem cut_len (s p : List UInt8) : (Lib.cut s p).1.length ≤ s.length ∧ (Lib.cut s p).2.1.length ≤ s.length := by
  unfold Lib.cut
  split
  · simp only [List.length_take, List.length_drop]
    omega
  · simp
theorem drewN_below (w : World) (n : Nat) : Below w.heap.size w (w.drewN n) := by
  induction n with
  | zero => exact Below.refl _ _
  | succ n ih => exact ⟨rfl, rfl, rfl, Nat.le_refl _, fun _ _ => rfl⟩
/-- strings.Cut at a text. -/
theorem cut_any (s p : List UInt8) (w : World) (hs : s.length ≤ 1000000000) (hm : Mx w) :
    Calls Tryz.prog 27 #[.string ⟨s.toArray⟩, .string ⟨p.toArray⟩] w fun e w' => e = .returned (.tuple #[.string ⟨(Lib.cut s p).1.toArray⟩, .string ⟨(Lib.cut s p).2.1.toArray⟩, .bool (Lib.cut s p).2.2]) ∧ Below w.heap.size w w' := by
  obtain ⟨m, hm⟩ := hm
  refine (YtmodmeabjhaklabGreatDoor.strings_Cut ⟨s.toArray⟩ ⟨p.toArray⟩ m w (by rw [mk_size]; omega) hm).mono ?_
  rintro e w' ⟨rfl, n, rfl⟩
  exact ⟨rfl, drewN_below w n⟩
theorem digs_lt (b : Nat) (hb : b ≤ 16) : ∀ (l : List UInt8) (n m : Nat), digs b n l = some m → m < (n + 1) * 16 ^ l.length
  | [], n, m, h => by
    simp only [digs, Option.some.injEq] at h
    subst h
    simp
  | c :: r, n, m, h => by
    simp only [digs] at h
    split at h
    · next hd =>
      have := digs_lt b hb r _ m h
      rw [List.length_cons, Nat.pow_succ]
      have hle : b * n + dv c + 1 ≤ (n + 1) * 16 := by
        have : b * n ≤ 16 * n := Nat.mul_le_mul_right n hb
        omega
      have h2 : (b * n + dv c + 1) * 16 ^ r.length ≤ (n + 1) * 16 * 16 ^ r.length := Nat.mul_le_mul_right _ hle
      have h3 : (n + 1) * 16 * 16 ^ r.length = (n + 1) * (16 ^ r.length * 16) := by rw [Nat.mul_assoc, Nat.mul_comm 16]
      omega
    · cases h
theorem chk_lt {s : List UInt8} {n : Nat} (h : chkL s = some n) : n < 4294967296 := by
  unfold chkL at h
  split at h
  · next hc =>
    have h1 := digs_lt 16 (by omega) _ _ _ h
    have h2 : (16 : Nat) ^ (Lib.cut s [59]).1.length ≤ 16 ^ 8 := Nat.pow_le_pow_right (by omega) hc.2.1
    have h3 : (16 : Nat) ^ 8 = 4294967296 := by decide
    omega
  · cases h
set_option maxRecDepth 20000 in
set_option maxHeartbeats 1600000 in
theorem chunkSize_any (s : List UInt8) (w : World) (hs : s.length ≤ 1000000000) (hm : Mx w) (he : Er w) :
    Calls Tryz.prog 39 #[.string ⟨s.toArray⟩] w fun e w' => e = .returned (.tuple #[.int .i64 ((chkL s).getD 0 : Nat), .bool (chkL s).isSome]) ∧ Below w.heap.size w w' := by
  have hcl := cut_len s [59]
  have HC := (show Hid _ from cut_any s [59] w hs hm)
  have HK : Hid (chkL s = if 1 ≤ (Lib.cut s [59]).1.length ∧ (Lib.cut s [59]).1.length ≤ 8 ∧ allB valB (Lib.cut s [59]).2.1 = true then digs 16 0 (Lib.cut s [59]).1 else none) := rfl
  have HLT : Hid (∀ n, chkL s = some n → n < 4294967296) := fun n h => chk_lt h
  generalize (Lib.cut s [59]).2.2 = fd at *
  generalize (Lib.cut s [59]).2.1 = B at *
  generalize (Lib.cut s [59]).1 = D at *
  have HP := (show Hid _ from fun W (hW : Er W) => parsePub_any ⟨D.toArray⟩ W (by rw [mk_size]; omega) hW)
  have HV := (show Hid _ from fun W => value_any ⟨B.toArray⟩ W (by rw [mk_size]; unfold maxLen; omega))
  have HE : Hid (Er w) := he
  have hDl : D.length ≤ 1000000000 := by omega
  clear hm he hcl
  go_enter Tryz.func39, Tryz.ntmps39
  go_wp2_with fail
  refine Calls.mono HC.out ?_
  rintro e w1 ⟨rfl, hb1⟩
  have HB1 : Hid (Below w.heap.size w w1) := hb1
  have K := HP.out w1 (HE.out.below hb1 (Nat.le_refl _))
  clear hb1 HC
  go_wp2_with fail
  refine Calls.mono K ?_
  rintro e w2 ⟨⟨x, ev, rfl, x0, x1, hev, hpu⟩, hb2⟩
  try simp only [List.toList_toArray] at hpu
  have HB2 : Hid (Below w.heap.size w w2) := HB1.out.trans (hb2.mono HB1.out.size)
  have HPU := (show Hid _ from hpu)
  clear hb2 K hpu HB1
  rcases hev with rfl | ⟨N, rfl⟩
  · by_cases h8 : D.length ≤ 8
    · have h8i : ¬ (8 : Int) < (D.length : Int) := by omega
      have HVW := HV.out w2
      have hres : Hid (((allB valB B = true) → chkL s = some x.toNat ∧ x < 4294967296) ∧ (allB valB B = false → chkL s = none)) := by
        have hq := HPU.out h8
        rcases hq with ⟨n, h1, h2, _⟩ | ⟨_, h2⟩
        · refine ⟨fun hb => ?_, fun hb => ?_⟩
          · have hD : D ≠ [] := by intro h; rw [h, puN, if_pos rfl] at h1; cases h1
            have h3 : chkL s = some x.toNat := by
              rw [HK.out, if_pos ⟨List.length_pos_iff.2 hD, h8, hb⟩]
              rw [puN, if_neg hD] at h1
              rw [h1, h2]
              simp
            have := HLT.out _ h3
            exact ⟨h3, by omega⟩
          · rw [HK.out, if_neg (by rw [hb]; simp)]
        · exact absurd rfl h2
      try simp only [List.toList_toArray] at HVW
      have HVW2 := (show Hid _ from HVW)
      clear HVW HPU HK HLT HP HV
      generalize allB valB B = vb at *
      cases vb
      · have HN := hres.out.2 rfl
        have HN2 : Hid (chkL s = none) := HN
        clear HN hres h8
        go_wp2_with (go_at_call 56; refine Calls.mono HVW2.out ?_; rintro e w' ⟨rfl, rfl⟩)
        go_ret2
        rw [HN2.out]
        exact ⟨rfl, HB2.out⟩
      · obtain ⟨h3, h4⟩ := hres.out.1 rfl
        have HN2 : Hid (chkL s = some x.toNat) := h3
        clear h3 hres h8
        go_wp2_with (go_at_call 56; refine Calls.mono HVW2.out ?_; rintro e w' ⟨rfl, rfl⟩)
        go_ret2
        rw [HN2.out]
        refine ⟨?_, HB2.out⟩
        have : ((x.toNat : Nat) : Int) = x := by omega
        simp [this]
    · have h8i : (8 : Int) < (D.length : Int) := by omega
      have HN2 : Hid (chkL s = none) := by show _ = _; rw [HK.out, if_neg (by omega)]
      clear h8 HK HLT HP HV HPU
      go_wp2
      go_ret2
      rw [HN2.out]
      exact ⟨rfl, HB2.out⟩
  · have HN2 : Hid (chkL s = none) := by
      show _ = _
      rw [HK.out]
      split
      · next hc =>
        rcases HPU.out hc.2.1 with ⟨n, _, _, h⟩ | ⟨h, _⟩
        · cases h
        · rw [puN, if_neg (by intro h0; rw [h0] at hc; simp at hc)] at h
          exact h
      · rfl
    clear HK HLT HP HV HPU
    go_wp2
    go_ret2
    rw [HN2.out]
    exact ⟨rfl, HB2.out⟩
end Go.Proofs.YtmodmeabjhaklabGreatDoor
/-
  What is wrong about headers together (faultOf).
-/
namespace Go.Proofs.YtmodmeabjhaklabGreatDoor
open Go.RowKit

def fltN (nh nt nc : Nat) (tb : Bool) (tv : List UInt8) (cb : Bool) (cv : List UInt8) (xb : Bool) (xv : List UInt8) : Int :=
  if nh ≠ 1 ∨ (tb = true ∧ cb = true) ∨ 1 < nt then 308
  else if tb = true ∧ lowL tv ≠ tChunked then 335
  else if 1 < nc ∨ (cb = true ∧ En.intOk cv = false) then 308
  else if 1048576 < En.intV cv then 324
  else if xb = true ∧ lowL xv ≠ tCont then 337
  else 0
theorem flt_eq (hs : List Hd) : fltL hs = fltN (allL hs nHost).length (allL hs nTe).length (allL hs nCl).length (getL hs nTe).isSome ((getL hs nTe).getD []) (getL hs nCl).isSome ((getL hs nCl).getD []) (getL hs nEx).isSome ((getL hs nEx).getD []) := rfl
theorem int_bd (l : List UInt8) : -9223372036854775808 ≤ En.intV l ∧ En.intV l ≤ 9223372036854775807 := by
  unfold En.intV
  split
  · next h =>
    have h18 : l.length ≤ 18 := by
      by_cases hh : l.length ≤ 18
      · exact hh
      · rw [En.intOk_18 (by omega)] at h; cases h
    have hb := En.ival_bd l l.length
    have : (10 : Int) ^ l.length ≤ 10 ^ 18 := by
      have := Nat.pow_le_pow_right (show 0 < 10 by omega) h18
      exact_mod_cast this
    have he : (10 : Int) ^ 18 = 1000000000000000000 := by decide
    omega
  · omega
set_option maxRecDepth 20000 in
set_option maxHeartbeats 4000000 in
theorem faultOf_any (a : Option Addr) (hs : List Hd) (cap : Nat) (w : World) (hH : Hdrs w a hs) (hl : hs.length ≤ 1000000000) (hS : Sm hs) :
    Calls Tryz.prog 33 #[.slice a hs.length cap] w fun e w' => e = .returned (.int .i64 (fltL hs)) ∧ Below w.heap.size w w' := by
  have hlt := hS.get nTe
  have hlx := hS.get nEx
  have hlc := hS.get nCl
  have hn1 := all_len hs nHost
  have hn2 := all_len hs nTe
  have hn3 := all_len hs nCl
  rw [flt_eq]
  have HG : ∀ n W, Below w.heap.size w W → Calls Tryz.prog 34 #[.slice a hs.length cap, .string ⟨n.toArray⟩] W fun e w' => e = .returned (.tuple #[.string ⟨((getL hs n).getD []).toArray⟩, .bool (getL hs n).isSome]) ∧ Below w.heap.size w w' := fun n W hW =>
    (get_any a hs cap n W (hH.below hW (Nat.le_refl _)) hl).mono fun e w' ⟨h1, h2⟩ => ⟨h1, hW.trans (h2.mono hW.size)⟩
  have HA : ∀ n W, Below w.heap.size w W → Calls Tryz.prog 59 #[.slice a hs.length cap, .string ⟨n.toArray⟩] W fun e w' => ∃ b c, e = .returned (.slice b (allL hs n).length c) ∧ Below w.heap.size w w' := fun n W hW => by
    refine (all_any a hs cap n W (hH.below hW (Nat.le_refl _)) hl).mono ?_
    rintro e w' ⟨v, rfl, ho, hb⟩
    obtain ⟨b, c, rfl, _⟩ := ho.strs
    exact ⟨b, c, by rw [toB_len], hW.trans (hb.mono hW.size)⟩
  have G1 := (show Hid _ from HG nTe)
  have G2 := (show Hid _ from HG nCl)
  have G3 := (show Hid _ from HG nEx)
  have A1 := (show Hid _ from HA nHost)
  have A2 := (show Hid _ from HA nTe)
  have A3 := (show Hid _ from HA nCl)
  generalize (allL hs nHost).length = nh at *
  generalize (allL hs nTe).length = nt at *
  generalize (allL hs nCl).length = nc at *
  generalize (getL hs nTe).isSome = tb at *
  generalize (getL hs nTe).getD [] = tv at *
  generalize (getL hs nCl).isSome = cb at *
  generalize (getL hs nCl).getD [] = cv at *
  generalize (getL hs nEx).isSome = xb at *
  generalize (getL hs nEx).getD [] = xv at *
  have HI : Hid (∀ W, Calls Tryz.prog 35 #[.string ⟨cv.toArray⟩] W fun e w' => e = .returned (.tuple #[.int .i64 (En.intV cv), .bool (En.intOk cv)]) ∧ W = w') := fun W => En.int_any ⟨cv.toArray⟩ W (by rw [mk_size]; omega)
  have HLo : Hid (∀ x : List UInt8, x.length ≤ 1000000000 → ∀ W, Below w.heap.size w W → Calls Tryz.prog 57 #[.string ⟨x.toArray⟩] W fun e w' => e = .returned (.string ⟨(lowL x).toArray⟩) ∧ Below w.heap.size w w') := fun x hx W hW =>
    (lower_any ⟨x.toArray⟩ W (by rw [mk_size]; omega)).mono fun e w' ⟨h1, h2⟩ => ⟨h1, hW.trans (h2.mono hW.size)⟩
  have L1 := (show Hid _ from HLo.out tv hlt)
  have L2 := (show Hid _ from HLo.out xv hlx)
  have hib := int_bd cv
  clear HG HA hH hS HLo hlt hlx hlc
  unfold nTe at G1 A2
  unfold nCl at G2 A3
  unfold nEx at G3
  unfold nHost at A1
  have HF : Hid (∀ z, fltN nh nt nc tb tv cb cv xb xv = z → fltN nh nt nc tb tv cb cv xb xv = z) := fun z h => h
  clear HF
  obtain ⟨R, hR⟩ : ∃ R, R = fltN nh nt nc tb tv cb cv xb xv := ⟨_, rfl⟩
  rw [← hR]
  unfold fltN at hR
  have HR := (show Hid _ from hR)
  clear hR
  go_enter Tryz.func33, Tryz.ntmps33
  go_wp2_with fail
  refine Calls.mono (G1.out w (Below.refl _ _)) ?_
  rintro e w1 ⟨rfl, hb1⟩
  go_wp2_with fail
  refine Calls.mono (G2.out w1 hb1) ?_
  rintro e w2 ⟨rfl, hb2⟩
  clear hb1
  go_wp2_with fail
  refine Calls.mono (G3.out w2 hb2) ?_
  rintro e w3 ⟨rfl, hb3⟩
  clear hb2
  go_wp2_with fail
  refine Calls.mono (HI.out w3) ?_
  rintro e w3' ⟨rfl, rfl⟩
  generalize En.intV cv = iv at *
  generalize En.intOk cv = io at *
  go_wp2_with fail
  refine Calls.mono (A1.out w3 hb3) ?_
  rintro e w4 ⟨b4, c4, rfl, hb4⟩
  clear hb3 G1 G2 G3 A1 HI
  by_cases h1 : nh = 1
  · have h1i : ((nh : Int) == 1) = true := by rw [beq_iff_eq]; omega
    by_cases h2 : tb = true ∧ cb = true
    · obtain ⟨rfl, rfl⟩ := h2
      have HQ : Hid (R = 308) := by show _ = _; rw [HR.out, if_pos (.inr (.inl ⟨rfl, rfl⟩))]
      go_wp2
      go_ret
      rw [HQ.out]
      exact ⟨rfl, hb4⟩
    · have h2' : tb = false ∨ (tb = true ∧ cb = false) := by cases tb <;> cases cb <;> simp_all
      rcases h2' with rfl | ⟨rfl, rfl⟩
      · go_wp2_with fail
        refine Calls.mono (A2.out w4 hb4) ?_
        rintro e w5 ⟨b5, c5, rfl, hb5⟩
        by_cases h3 : 1 < nt
        · have h3i : (1 : Int) < (nt : Int) := by omega
          have HQ : Hid (R = 308) := by show _ = _; rw [HR.out, if_pos (.inr (.inr h3))]
          clear HR
          go_wp2
          go_ret
          rw [HQ.out]
          exact ⟨rfl, hb5⟩
        · have h3i : ¬ (1 : Int) < (nt : Int) := by omega
          have h4 : True := trivial
          clear h2
          go_wp2_with fail
          refine Calls.mono (A3.out _ hb5) ?_
          rintro e w8 ⟨b8, c8, rfl, hb8⟩
          have HR3 : Hid (R = if 1 < nc ∨ (cb = true ∧ io = false) then 308 else if 1048576 < iv then 324 else if xb = true ∧ lowL xv ≠ tCont then 337 else 0) := by
            show _ = _
            rw [HR.out, if_neg (by rintro (h | ⟨h, h'⟩ | h) <;> first | exact h h1 | exact h3 h | cases h | cases h'), if_neg (by rintro ⟨h, h'⟩; first | cases h | exact h.elim)]
          clear HR
          by_cases h5 : 1 < nc
          · have h5i : (1 : Int) < (nc : Int) := by omega
            have HQ : Hid (R = 308) := by show _ = _; rw [HR3.out, if_pos (.inl h5)]
            clear HR3
            go_wp2
            go_ret
            rw [HQ.out]
            exact ⟨rfl, hb8⟩
          · have h5i : ¬ (1 : Int) < (nc : Int) := by omega
            by_cases h6 : cb = true ∧ io = false
            · obtain ⟨h6a, rfl⟩ := h6
              subst h6a
              have HQ : Hid (R = 308) := by show _ = _; rw [HR3.out, if_pos (.inr ⟨rfl, rfl⟩)]
              clear HR3
              go_wp2
              go_ret
              rw [HQ.out]
              exact ⟨rfl, hb8⟩
            · have HR4 : Hid (R = if 1048576 < iv then 324 else if xb = true ∧ lowL xv ≠ tCont then 337 else 0) := by
                show _ = _
                rw [HR3.out, if_neg (by rintro (h | h); exact h5 h; exact h6 h)]
              clear HR3
              have h6' : cb = false ∨ (cb = true ∧ io = true) := by cases io <;> first | (simp at h6; exact .inl h6) | (cases cb <;> simp)
              clear h6
              by_cases h7 : 1048576 < iv
              · have HQ : Hid (R = 324) := by show _ = _; rw [HR4.out, if_pos h7]
                clear HR4
                rcases h6' with rfl | ⟨rfl, rfl⟩
                all_goals
                  go_wp2
                  go_ret
                  rw [HQ.out]
                  exact ⟨rfl, hb8⟩
              · have HR5 : Hid (R = if xb = true ∧ lowL xv ≠ tCont then 337 else 0) := by
                  show _ = _
                  rw [HR4.out, if_neg h7]
                clear HR4
                cases xb
                · have HQ : Hid (R = 0) := by show _ = _; rw [HR5.out, if_neg (by rintro ⟨h, _⟩; cases h)]
                  clear HR5
                  rcases h6' with rfl | ⟨rfl, rfl⟩
                  all_goals
                    go_wp2
                    go_ret
                    rw [HQ.out]
                    exact ⟨rfl, hb8⟩
                · by_cases h9 : lowL xv = tCont
                  · have HQ : Hid (R = 0) := by show _ = _; rw [HR5.out, if_neg (by rintro ⟨_, h⟩; exact h h9)]
                    have h9i : (lowL xv == [49, 48, 48, 45, 99, 111, 110, 116, 105, 110, 117, 101]) = true := by rw [h9]; rfl
                    clear HR5 h9
                    rcases h6' with rfl | ⟨rfl, rfl⟩
                    all_goals
                      go_wp2_with fail
                      refine Calls.mono (L2.out _ hb8) ?_
                      rintro e w9 ⟨rfl, hb9⟩
                      go_wp2
                      go_ret
                      rw [HQ.out]
                      exact ⟨rfl, hb9⟩
                  · have HQ : Hid (R = 337) := by show _ = _; rw [HR5.out, if_pos ⟨rfl, h9⟩]
                    have h9i : (lowL xv == [49, 48, 48, 45, 99, 111, 110, 116, 105, 110, 117, 101]) = false := by rw [beq_eq_false_iff_ne]; exact h9
                    clear HR5 h9
                    rcases h6' with rfl | ⟨rfl, rfl⟩
                    all_goals
                      go_wp2_with fail
                      refine Calls.mono (L2.out _ hb8) ?_
                      rintro e w9 ⟨rfl, hb9⟩
                      go_wp2
                      go_ret
                      rw [HQ.out]
                      exact ⟨rfl, hb9⟩
      · go_wp2_with fail
        refine Calls.mono (A2.out w4 hb4) ?_
        rintro e w5 ⟨b5, c5, rfl, hb5⟩
        by_cases h3 : 1 < nt
        · have h3i : (1 : Int) < (nt : Int) := by omega
          have HQ : Hid (R = 308) := by show _ = _; rw [HR.out, if_pos (.inr (.inr h3))]
          clear HR
          go_wp2
          go_ret
          rw [HQ.out]
          exact ⟨rfl, hb5⟩
        · have h3i : ¬ (1 : Int) < (nt : Int) := by omega
          clear h2
          go_wp2_with fail
          refine Calls.mono (L1.out w5 hb5) ?_
          rintro e w6 ⟨rfl, hb6⟩
          by_cases h4 : lowL tv = tChunked
          · have h4i : (lowL tv == [99, 104, 117, 110, 107, 101, 100]) = true := by rw [h4]; rfl
            go_wp2_with fail
            refine Calls.mono (A3.out _ hb6) ?_
            rintro e w8 ⟨b8, c8, rfl, hb8⟩
            have HR3 : Hid (R = if 1 < nc ∨ (false = true ∧ io = false) then 308 else if 1048576 < iv then 324 else if xb = true ∧ lowL xv ≠ tCont then 337 else 0) := by
              show _ = _
              rw [HR.out, if_neg (by simp [h1]; omega), if_neg (by simp [h4])]
            clear HR
            by_cases h5 : 1 < nc
            · have h5i : (1 : Int) < (nc : Int) := by omega
              have HQ : Hid (R = 308) := by show _ = _; rw [HR3.out, if_pos (.inl h5)]
              clear HR3
              go_wp2
              go_ret
              rw [HQ.out]
              exact ⟨rfl, hb8⟩
            · have h5i : ¬ (1 : Int) < (nc : Int) := by omega
              by_cases h6 : false = true ∧ io = false
              · obtain ⟨h6a, rfl⟩ := h6
                cases h6a
              · have HR4 : Hid (R = if 1048576 < iv then 324 else if xb = true ∧ lowL xv ≠ tCont then 337 else 0) := by
                  show _ = _
                  rw [HR3.out, if_neg (by rintro (h | h); exact h5 h; exact h6 h)]
                clear HR3
                have h6' : false = false ∨ (false = true ∧ io = true) := by cases io <;> first | (simp at h6; exact .inl h6) | (cases false <;> simp)
                clear h6
                by_cases h7 : 1048576 < iv
                · have HQ : Hid (R = 324) := by show _ = _; rw [HR4.out, if_pos h7]
                  clear HR4
                  go_wp2
                  go_ret
                  rw [HQ.out]
                  exact ⟨rfl, hb8⟩
                · have HR5 : Hid (R = if xb = true ∧ lowL xv ≠ tCont then 337 else 0) := by
                    show _ = _
                    rw [HR4.out, if_neg h7]
                  clear HR4
                  cases xb
                  · have HQ : Hid (R = 0) := by show _ = _; rw [HR5.out, if_neg (by rintro ⟨h, _⟩; cases h)]
                    clear HR5
                    go_wp2
                    go_ret
                    rw [HQ.out]
                    exact ⟨rfl, hb8⟩
                  · by_cases h9 : lowL xv = tCont
                    · have HQ : Hid (R = 0) := by show _ = _; rw [HR5.out, if_neg (by rintro ⟨_, h⟩; exact h h9)]
                      have h9i : (lowL xv == [49, 48, 48, 45, 99, 111, 110, 116, 105, 110, 117, 101]) = true := by rw [h9]; rfl
                      clear HR5 h9
                      go_wp2_with fail
                      refine Calls.mono (L2.out _ hb8) ?_
                      rintro e w9 ⟨rfl, hb9⟩
                      go_wp2
                      go_ret
                      rw [HQ.out]
                      exact ⟨rfl, hb9⟩
                    · have HQ : Hid (R = 337) := by show _ = _; rw [HR5.out, if_pos ⟨rfl, h9⟩]
                      have h9i : (lowL xv == [49, 48, 48, 45, 99, 111, 110, 116, 105, 110, 117, 101]) = false := by rw [beq_eq_false_iff_ne]; exact h9
                      clear HR5 h9
                      go_wp2_with fail
                      refine Calls.mono (L2.out _ hb8) ?_
                      rintro e w9 ⟨rfl, hb9⟩
                      go_wp2
                      go_ret
                      rw [HQ.out]
                      exact ⟨rfl, hb9⟩
          · have h4i : (lowL tv == [99, 104, 117, 110, 107, 101, 100]) = false := by rw [beq_eq_false_iff_ne]; exact h4
            have HQ : Hid (R = 335) := by show _ = _; rw [HR.out, if_neg (by simp [h1]; omega), if_pos (by simp [h4])]
            clear HR
            go_wp2
            go_ret
            rw [HQ.out]
            exact ⟨rfl, hb6⟩
  · have h1i : ((nh : Int) == 1) = false := by rw [beq_eq_false_iff_ne]; omega
    have HQ : Hid (R = 308) := by show _ = _; rw [HR.out, if_pos (.inl h1)]
    go_wp2
    go_ret
    rw [HQ.out]
    exact ⟨rfl, hb4⟩
end Go.Proofs.YtmodmeabjhaklabGreatDoor
/-
  The next line (reader.line).
-/
namespace Go.Proofs.YtmodmeabjhaklabGreatDoor
open Go.RowKit

def fndI (l : List UInt8) : Int := match fndL l with | some n => (n : Int) | none => -1
theorem bytes_map (l : List UInt8) : Lib.bytesOf (l.map fun c => (c.toNat : Int)) = l := by
  simp [Lib.bytesOf, Function.comp_def]
theorem fnd_short {l : List UInt8} (h : l.length < 2) : fndI l = -1 := by
  unfold fndI
  cases hf : fndL l with
  | none => rfl
  | some n => have := fnd_room l hf; omega
theorem index_any (A : Option Addr) (rest : List UInt8) (c g : Nat) (w : World) (hB : Bytes w A rest) (hc : rest.length ≤ c) (hl : rest.length ≤ 1000000000) (hg0 : w.cell? ⟨g, 0, none⟩ = some (.int .u8 13)) (hg1 : w.cell? ⟨g, 1, none⟩ = some (.int .u8 10)) (hm : Mx w) :
    Calls Tryz.prog 51 #[.slice A rest.length c, .slice (some ⟨g, 0, none⟩) 2 2] w fun e w' => e = .returned (.int .i64 (fndI rest)) ∧ Below w.heap.size w w' := by
  by_cases h2 : rest.length < 2
  · rw [fnd_short h2]
    exact (YtmodmeabjhaklabGreatDoor.bytes_Index_longer A (some ⟨g, 0, none⟩) rest.length c 2 2 w (by omega) h2 (by omega)).mono fun e w' ⟨h3, h4⟩ => ⟨h3, by rw [h4]; exact Below.refl _ _⟩
  · rcases hB with hn | ⟨b, off, rfl, hb, hcs⟩
    · rw [hn] at h2; simp at h2
    · obtain ⟨m, hm⟩ := hm
      have hix : Lib.index (Lib.bytesOf (rest.map fun c => (c.toNat : Int))) (Lib.bytesOf [13, 10]) = fndI rest := by
        rw [bytes_map]
        exact fnd_index rest
      refine (YtmodmeabjhaklabGreatDoor.bytes_Index_at ⟨b, off, none⟩ ⟨g, 0, none⟩ rest.length c 2 2 (rest.map fun c => (c.toNat : Int)) [13, 10] m w (by simp) rfl ?_ ?_ ?_ ?_ hc (by omega) (by omega) hm).mono ?_
      · intro x hx
        rw [List.mem_map] at hx
        obtain ⟨y, _, rfl⟩ := hx
        have := y.toNat_lt
        omega
      · intro y hy
        simp at hy
        omega
      · intro i hi
        rw [Addr.add_lit, hcs i hi]
        simp [List.getD, List.getElem?_eq_getElem hi]
      · intro i hi
        have : i = 0 ∨ i = 1 := by omega
        rcases this with rfl | rfl
        · exact hg0
        · exact hg1
      · rintro e w' ⟨rfl, n, rfl⟩
        rw [hix]
        exact ⟨rfl, drewN_below w n⟩

theorem Bytes.md {F : Nat → Prop} {w w' : World} {a : Option Addr} {l : List UInt8} (h : Bytes w a l) (hm : Md F w w') (hF : ∀ b off, a = some ⟨b, off, none⟩ → ¬ F b) : Bytes w' a l := by
  rcases h with h | ⟨b, off, h1, h2, h3⟩
  · exact .inl h
  · refine .inr ⟨b, off, h1, Nat.lt_of_lt_of_le h2 hm.size, fun j hj => ?_⟩
    rw [World.cell?_of_block (w := w) (a := ⟨b, off + j, none⟩) (hm.block b h2 (hF b off h1))]
    exact h3 j hj
/-- What a slice from a place on is. -/
def fromA (a : Option Addr) (cap k : Nat) : Option Addr := if cap = k then a else a.map fun x => x.add k
theorem bytes_from {w : World} {a : Option Addr} {l : List UInt8} {cap k : Nat} (hB : Bytes w a l) (hcap : l.length ≤ cap) : Bytes w (fromA a cap k) (l.drop k) := by
  unfold fromA
  split
  · left
    exact List.drop_eq_nil_of_le (by omega)
  · rcases hB with rfl | ⟨b, off, rfl, hb, hc⟩
    · left; simp
    · refine .inr ⟨b, off + k, by simp [Addr.add_lit], hb, fun j hj => ?_⟩
      rw [List.length_drop] at hj
      rw [Nat.add_assoc, hc (k + j) (by omega)]
      simp
theorem from_ne {a : Option Addr} {cap k p : Nat} (h : ∀ b off, a = some ⟨b, off, none⟩ → b ≠ p) (hs : ∀ x, a = some x → x.spot = none) : ∀ b off, fromA a cap k = some ⟨b, off, none⟩ → b ≠ p := by
  intro b off
  unfold fromA
  split
  · exact h b off
  · cases a with
    | none => intro hh; cases hh
    | some x =>
      obtain ⟨xb, xo, xs⟩ := x
      obtain rfl : xs = none := hs _ rfl
      intro hh
      simp only [Option.map_some, Addr.add_lit, Option.some.injEq, Addr.mk.injEq] at hh
      exact hh.1 ▸ h xb xo rfl
theorem bytes_take {w : World} {a : Option Addr} {l : List UInt8} (hB : Bytes w a l) (n : Nat) : Bytes w a (l.take n) := by
  rcases hB with rfl | ⟨b, off, rfl, hb, hc⟩
  · left; simp
  · refine .inr ⟨b, off, rfl, hb, fun j hj => ?_⟩
    rw [List.length_take] at hj
    rw [hc j (by omega)]
    simp
def LnR (w w' : World) (p : Nat) (r : Rs) (x : Int) (e : Ending) : Ln → Prop
  | .more => e = .returned (.tuple #[.string ⟨#[]⟩, .bool false]) ∧ Rb w' p { r with told := moreT } ∧ Md (· = p) w w'
  | .long => e = .returned (.tuple #[.string ⟨#[]⟩, .bool false]) ∧ Rb w' p { r with told := badT x } ∧ Md (· = p) w w'
  | .ok s => e = .returned (.tuple #[.string ⟨s.toArray⟩, .bool true]) ∧ Rb w' p { r with at_ := r.at_ + (s.length + 2) } ∧ Md (· = p) w w'
theorem ln_more {most opn : Int} {rest : List UInt8} (h : fndL rest = none) (h1 : (rest.length : Int) ≤ opn) : lnL most opn rest = .more := by rw [lnL, h]; simp [h1]
theorem ln_long {most opn : Int} {rest : List UInt8} (h : fndL rest = none) (h1 : ¬ (rest.length : Int) ≤ opn) : lnL most opn rest = .long := by rw [lnL, h]; simp [h1]
theorem ln_long2 {most opn : Int} {rest : List UInt8} {n : Nat} (h : fndL rest = some n) (h1 : ¬ (n : Int) ≤ most) : lnL most opn rest = .long := by rw [lnL, h]; simp [h1]
theorem ln_yes {most opn : Int} {rest : List UInt8} {n : Nat} (h : fndL rest = some n) (h1 : (n : Int) ≤ most) : lnL most opn rest = .ok (rest.take n) := by rw [lnL, h]; simp [h1]
theorem LnR.more {w w' : World} {p : Nat} {r : Rs} {x : Int} {e : Ending} {ln : Ln} (h : ln = .more) (he : e = .returned (.tuple #[.string ⟨#[]⟩, .bool false])) (h1 : Rb w' p { r with told := moreT }) (h2 : Md (· = p) w w') : LnR w w' p r x e ln := by rw [h]; exact ⟨he, h1, h2⟩
theorem LnR.long {w w' : World} {p : Nat} {r : Rs} {x : Int} {e : Ending} {ln : Ln} (h : ln = .long) (he : e = .returned (.tuple #[.string ⟨#[]⟩, .bool false])) (h1 : Rb w' p { r with told := badT x }) (h2 : Md (· = p) w w') : LnR w w' p r x e ln := by rw [h]; exact ⟨he, h1, h2⟩
theorem LnR.ok {w w' : World} {p : Nat} {r : Rs} {x : Int} {e : Ending} {ln : Ln} {s : List UInt8} (h : ln = .ok s) (he : e = .returned (.tuple #[.string ⟨s.toArray⟩, .bool true])) (h1 : Rb w' p { r with at_ := r.at_ + (s.length + 2) }) (h2 : Md (· = p) w w') : LnR w w' p r x e ln := by rw [h]; exact ⟨he, h1, h2⟩
set_option maxRecDepth 20000 in
set_option maxHeartbeats 4000000 in
theorem line_any (p : Nat) (r : Rs) (a : Option Addr) (l : List UInt8) (cap : Nat) (most opn x : Int) (w : World) (h : Rb w p r) (hbv : r.bv = .slice a l.length cap) (hcap : l.length ≤ cap) (hB : Bytes w a l) (hne : ∀ b off, a = some ⟨b, off, none⟩ → b ≠ p) (hsp : ∀ x, a = some x → x.spot = none) (hk : r.at_ ≤ l.length) (hl : l.length ≤ 1000000000) (hm : Mx w) :
    Calls Tryz.prog 26 #[.pointer (some ⟨p, 0, none⟩), .int .i64 most, .int .i64 opn, .int .i64 x] w fun e w' => LnR w w' p r x e (lnL most opn (l.drop r.at_)) := by
  have c0 := h.cell 0 rfl
  have c1 := h.cell 1 rfl
  rw [hbv] at c0
  obtain ⟨k, hkk⟩ : ∃ k, k = r.at_ := ⟨_, rfl⟩
  rw [← hkk] at c1 hk ⊢
  have H := (show Hid (Rb w p r ∧ k = r.at_) from ⟨h, hkk⟩)
  have hk1 : (k : Int) ≤ (l.length : Int) := by omega
  have hk0 : (0 : Int) ≤ (k : Int) := by omega
  have hc1 : (l.length : Int) ≤ (cap : Int) := by omega
  have HBr : Hid (Bytes w (fromA a cap k) (l.drop k)) := bytes_from hB hcap
  have HNe : Hid (∀ b off, fromA a cap k = some ⟨b, off, none⟩ → b ≠ p) := from_ne hne hsp
  have hlen : (l.drop k).length = l.length - k := by simp
  have HM : Hid (Mx w) := hm
  clear h hkk hB hne hsp hm hbv
  go_enter Tryz.func26, Tryz.ntmps26
  go_wp2
  go_quiet (fail)
  have HW : Hid (Below w.heap.size w (w.drewN nq) ∧ (w.drewN nq).heap = w.heap) := ⟨drewN_below w nq, rfl⟩
  generalize w.drewN nq = W at *
  rw [show (if cap = k then a else Option.map (fun x => x.add k) a) = fromA a cap k from rfl, ← hlen]
  generalize fromA a cap k = A at *
  obtain ⟨rest, hrest⟩ : ∃ rest, rest = l.drop k := ⟨_, rfl⟩
  rw [← hrest] at hlen HBr ⊢
  have HRE : Hid (rest = l.drop k) := hrest
  clear hrest
  obtain ⟨c, hc⟩ : ∃ c, c = cap - k := ⟨_, rfl⟩
  rw [← hc]
  have hrc : rest.length ≤ c := by omega
  have hr9 : rest.length ≤ 1000000000 := by omega
  have HR : Hid (Rb W p r) := HW.out.1.block p H.out.1.lt |>.trans H.out.1
  have HBW : Hid (Bytes W A rest) := HBr.out.below HW.out.1 (Nat.le_refl _)
  have HMW : Hid (Mx W) := HM.out.below HW.out.1 (Nat.le_refl _)
  clear hc hlen hcap hk0 hk1 hc1 c0 c1 HBr HM
  have hcc := Lib.run_convert_bytes_const (P := Tryz.prog) W 22 5 #[.int .u8 13, .int .u8 10] 2 2 Tryz.underlying22 Tryz.underlying5
  go_wp2_with fail
  clear hcc
  refine Calls.mono (index_any A rest c W.heap.size (W.alloc (.cells #[.int .u8 13, .int .u8 10] 5 (2, 3))) (HBW.out.below ((Below.refl _ _).alloc (Nat.le_refl _) _) (Nat.le_refl _)) hrc hr9 (World.cell?_alloc_mark W _ 5 (2, 3) 0) (World.cell?_alloc_mark W _ 5 (2, 3) 1) (HMW.out.below ((Below.refl _ _).alloc (Nat.le_refl _) _) (Nat.le_refl _))) ?_
  rintro e w1 ⟨rfl, hb1⟩
  have HB1 : Hid (Below W.heap.size W w1) := ((Below.refl _ W).alloc (Nat.le_refl _) _).trans (hb1.mono (by simp))
  have HB0 : Hid (Md (· = p) w w1) := (Md.ofBelow HW.out.1).below (HB1.out)
  have HR1 : Hid (Rb w1 p r) := HR.out.below HB1.out
  have HMo := (show Hid _ from more_any p r w1 HR1.out)
  have HBa := (show Hid _ from bad_any p r x w1 HR1.out)
  clear hb1 HMW
  cases hf : fndL rest with
  | none =>
    have hfi : fndI rest = -1 := by rw [fndI, hf]
    rw [hfi]
    clear hfi
    by_cases ho : (rest.length : Int) ≤ opn
    · have HL : Hid (lnL most opn (l.drop k) = .more) := by show _ = _; rw [← HRE.out]; exact ln_more hf ho
      clear hf
      go_wp2_with (go_at_call 37; refine Calls.mono HMo.out ?_; rintro e w2 ⟨rfl, h2, h3⟩)
      go_ret2
      exact LnR.more HL.out rfl h2 (HB0.out.trans h3)
    · have HL : Hid (lnL most opn (l.drop k) = .long) := by show _ = _; rw [← HRE.out]; exact ln_long hf ho
      have ho' : opn < (rest.length : Int) := by omega
      clear hf ho
      go_wp2_with (go_at_call 31; refine Calls.mono HBa.out ?_; rintro e w2 ⟨rfl, h2, h3⟩)
      go_ret2
      exact LnR.long HL.out rfl h2 (HB0.out.trans h3)
  | some n =>
    have hfi : fndI rest = (n : Int) := by rw [fndI, hf]
    have hn := fnd_room rest hf
    rw [hfi]
    clear hfi
    have hn0 : ¬ (n : Int) < 0 := by omega
    by_cases hmo : (n : Int) ≤ most
    · have HL : Hid (lnL most opn (l.drop k) = .ok (rest.take n)) := by show _ = _; rw [← HRE.out]; exact ln_yes hf hmo
      have hmo' : ¬ most < (n : Int) := by omega
      have c1 := HR1.out.cell 1 rfl
      have f1 := HR1.out.fz 1
      have HS : Hid (Rb (w1.setCell ⟨p, 1, none⟩ (.int .i64 ((r.at_ : Int) + ((n : Int) + 2)))) p { r with at_ := r.at_ + (n + 2) }) := by
        refine Rb.of (set_lst HR1.out 1 _) ?_
        simp [Rs.c]
      have HMd : Hid (Md (· = p) w1 (w1.setCell ⟨p, 1, none⟩ (.int .i64 ((r.at_ : Int) + ((n : Int) + 2))))) := (Md.refl _ _).setp _ _
      have hln : (rest.take n).length = n := by rw [List.length_take]; omega
      have hcv : (convert 22 9 (.slice A n c)).run Tryz.prog (w1.setCell ⟨p, 1, none⟩ (.int .i64 ((r.at_ : Int) + ((n : Int) + 2)))) = .ok (.string ⟨(rest.take n).toArray⟩) (w1.setCell ⟨p, 1, none⟩ (.int .i64 ((r.at_ : Int) + ((n : Int) + 2)))) := by
        have hb := (HBW.out.below HB1.out (Nat.le_refl _)).md HMd.out HNe.out
        have := convert_bytes _ A c (rest.take n) (bytes_take hb n)
        rw [hln] at this
        exact this
      have HLn : Hid ((rest.take n).length = n) := hln
      have hat : r.at_ ≤ 1000000000 := by have := H.out.2; omega
      have hn9 : n ≤ 1000000000 := by omega
      have hnr : (n : Int) ≤ (rest.length : Int) := by omega
      have hnc : (n : Int) ≤ (c : Int) := by omega
      clear hf hln HMo HBa hmo
      go_wp2
      go_ret2
      refine LnR.ok HL.out rfl ?_ (HB0.out.trans HMd.out)
      rw [HLn.out]
      exact HS.out
    · have HL : Hid (lnL most opn (l.drop k) = .long) := by show _ = _; rw [← HRE.out]; exact ln_long2 hf hmo
      have hmo' : most < (n : Int) := by omega
      clear hf hmo
      go_wp2_with (go_at_call 31; refine Calls.mono HBa.out ?_; rintro e w2 ⟨rfl, h2, h3⟩)
      go_ret2
      exact LnR.long HL.out rfl h2 (HB0.out.trans h3)
end Go.Proofs.YtmodmeabjhaklabGreatDoor
/-
  The reader with all that it holds; its first state, the request line.
-/
namespace Go.Proofs.YtmodmeabjhaklabGreatDoor
open Go.RowKit

def rsOf (s : St) (bv : Value) (T : Tl) (hv pv : Value) : Rs := ⟨bv, s.at_, T, s.head, s.fields, ⟨s.m.toArray⟩, ⟨s.t.toArray⟩, hv, .slice none 0 0, s.size, pv, s.sum⟩
/-- The cells of headers. -/
def hcs (hs : List Hd) : List Value := hs.flatMap fun h => [.string ⟨h.1.toArray⟩, .string ⟨h.2.toArray⟩]
theorem hcs_len (hs : List Hd) : (hcs hs).length = hs.length * 2 := by
  unfold hcs
  induction hs with
  | nil => rfl
  | cons a r ih => simp only [List.flatMap_cons, List.length_append, ih, List.length_cons, List.length_nil]; omega
theorem hcs_app (L M : List Hd) : hcs (L ++ M) = hcs L ++ hcs M := by simp [hcs]
theorem hcs_get : ∀ (hs : List Hd) (j : Nat) (h : j < hs.length), (hcs hs)[j * 2]? = some (.string ⟨hs[j].1.toArray⟩) ∧ (hcs hs)[j * 2 + 1]? = some (.string ⟨hs[j].2.toArray⟩)
  | [], j, h => by simp at h
  | a :: r, 0, h => ⟨rfl, rfl⟩
  | a :: r, j + 1, h => by
    have ih := hcs_get r j (by simpa using h)
    have e : hcs (a :: r) = .string ⟨a.1.toArray⟩ :: .string ⟨a.2.toArray⟩ :: hcs r := rfl
    rw [e, show (j + 1) * 2 = j * 2 + 2 by omega]
    exact ih
/-- A row of headers of one's own is a list of headers. -/
theorem own_hdrs {w : World} {base : Nat} {v : Value} {hs : List Hd} (h : w.ownsRow base 31 2 v hs.length (hcs hs)) : ∃ a c, v = .slice a hs.length c ∧ Hdrs w a hs := by
  have h0 := h
  obtain ⟨_, ⟨rfl, h2⟩ | ⟨g, cap, cur, rfl, hg, hh, _⟩⟩ := h
  · exact ⟨none, 0, by rw [h2], .inl (List.length_eq_zero_iff.1 h2)⟩
  · refine ⟨_, _, rfl, .inr ⟨g, 0, rfl, blk_lt hh, fun j hj => ?_⟩⟩
    have := hcs_get hs j hj
    have l1 := hcs_len hs
    rw [Nat.zero_add]
    exact ⟨by rw [h0.cellAt (j * 2) (by omega)]; exact this.1, by rw [h0.cellAt (j * 2 + 1) (by omega)]; exact this.2⟩
/-- A piece of the bytes. -/
structure Sl where
  a : Option Addr
  l : List UInt8
  c : Nat
def Sl.v (s : Sl) : Value := .slice s.a s.l.length s.c
/-- The bounds of what is read. -/
structure Inv (l : List UInt8) (s : St) : Prop where
  at_ : s.at_ ≤ l.length
  len : l.length ≤ 1000000000
  head : s.head ≤ s.at_
  fields : s.fields ≤ s.at_
  hs : s.hs.length ≤ s.at_
  pcs : s.pcs.length ≤ s.at_
  sum : s.sum ≤ s.at_
  size : s.size ≤ 4294967296
  sm : Sm s.hs
structure Rd (w0 w : World) (p : Nat) (l : List UInt8) (s : St) (a : Option Addr) (cap : Nat) (T : Tl) (hv pv : Value) (xs : List Sl) : Prop where
  rb : Rb w p (rsOf s (.slice a l.length cap) T hv pv)
  an : a = none → cap = 0
  cap : l.length ≤ cap
  by_ : Bytes w0 a l
  ab : ∀ x, a = some x → x.spot = none ∧ x.block < w0.heap.size
  lo : w0.heap.size ≤ p
  bl : Below w0.heap.size w0 w
  hs : w.ownsRow (p + 1) 31 2 hv s.hs.length (hcs s.hs)
  ps : w.ownsRow (p + 1) 22 1 pv xs.length (xs.map Sl.v)
  pl : xs.map (·.l) = s.pcs
  pb : ∀ x ∈ xs, Bytes w0 x.a x.l ∧ (x.a = none → x.c = 0)
  mx : Mx w0
  er : Er w0
  inv : Inv l s
theorem Md.toBl {p : Nat} {w w' : World} (h : Md (· = p) w w') (hp : p < w.heap.size) : Below p w w' :=
  ⟨h.os, h.tape, h.output, h.size, fun b hb => h.block b (by omega) (by omega)⟩
theorem Rd.turn {w0 w w' : World} {p : Nat} {l : List UInt8} {s s' : St} {a : Option Addr} {cap : Nat} {T T' : Tl} {hv pv : Value} {xs : List Sl} (h : Rd w0 w p l s a cap T hv pv xs) (hm : Md (· = p) w w') (hr : Rb w' p (rsOf s' (.slice a l.length cap) T' hv pv)) (hh : s'.hs = s.hs) (hp : s'.pcs = s.pcs) (hi : Inv l s') : Rd w0 w' p l s' a cap T' hv pv xs :=
  ⟨hr, h.an, h.cap, h.by_, h.ab, h.lo, h.bl.trans ((hm.toBl h.rb.lt).mono h.lo), by rw [hh]; exact own_md h.hs hm (fun j hj => own_ne h.hs h.rb (by decide) j hj), own_md h.ps hm (fun j hj => own_ne h.ps h.rb (by decide) j hj), by rw [hp]; exact h.pl, h.pb, h.mx, h.er, hi⟩
theorem Rd.bytes {w0 w : World} {p : Nat} {l : List UInt8} {s : St} {a : Option Addr} {cap : Nat} {T : Tl} {hv pv : Value} {xs : List Sl} (h : Rd w0 w p l s a cap T hv pv xs) : Bytes w a l := h.by_.below h.bl (Nat.le_refl _)
theorem Rd.line {w0 w : World} {p : Nat} {l : List UInt8} {s : St} {a : Option Addr} {cap : Nat} {T : Tl} {hv pv : Value} {xs : List Sl} (h : Rd w0 w p l s a cap T hv pv xs) (most opn x : Int) :
    Calls Tryz.prog 26 #[.pointer (some ⟨p, 0, none⟩), .int .i64 most, .int .i64 opn, .int .i64 x] w fun e w' => LnR w w' p (rsOf s (.slice a l.length cap) T hv pv) x e (lnL most opn (l.drop s.at_)) :=
  line_any p _ a l cap most opn x w h.rb rfl h.cap h.bytes (fun b off hb => by have h1 : b < w0.heap.size := (h.ab _ hb).2; have h2 := h.lo; omega) (fun x hx => (h.ab x hx).1) h.inv.at_ h.inv.len (h.mx.below h.bl (Nat.le_refl _))

/-- What a step is told as. -/
def TlR (w : World) (base : Nat) (t : Tl) : Tld → Prop
  | .more => t = moreT
  | .bad e => t = badT e
  | .done u m tt hs b cl co => ∃ hv bv, t = ⟨2, (u : Int), ⟨m.toArray⟩, ⟨tt.toArray⟩, hv, bv, 0, cl, co⟩ ∧ w.ownsRow base 31 2 hv hs.length (hcs hs) ∧ Own w base bv b
def FinR (w0 w : World) (p : Nat) (T : Tld) : Prop := ∃ r, Rb w p r ∧ TlR w (p + 1) r.told T ∧ Below w0.heap.size w0 w
/-- What a state tells. -/
def NxR (w0 w w' : World) (p : Nat) (l : List UInt8) (a : Option Addr) (cap : Nat) (e : Ending) : Nx → Prop
  | .go q s' => e = .returned (.int .i64 (q : Int)) ∧ (∃ T hv pv xs, Rd w0 w' p l s' a cap T hv pv xs) ∧ Below p w w'
  | .fin T => e = .returned (.int .i64 7) ∧ FinR w0 w' p T ∧ Below p w w'
theorem NxR.fin {w0 w w' : World} {p : Nat} {l : List UInt8} {a : Option Addr} {cap : Nat} {e : Ending} {nx : Nx} {T : Tld} {r : Rs} (h : nx = .fin T) (he : e = .returned (.int .i64 7)) (hr : Rb w' p r) (ht : TlR w' (p + 1) r.told T) (hb : Below p w w') (hw : Below w0.heap.size w0 w) (hl : w0.heap.size ≤ p) : NxR w0 w w' p l a cap e nx := by
  rw [h]; exact ⟨he, ⟨r, hr, ht, hw.trans (hb.mono hl)⟩, hb⟩
theorem NxR.go {w0 w w' : World} {p : Nat} {l : List UInt8} {a : Option Addr} {cap : Nat} {e : Ending} {nx : Nx} {q : Nat} {s' : St} {T : Tl} {hv pv : Value} {xs : List Sl} (h : nx = .go q s') (he : e = .returned (.int .i64 (q : Int))) (hr : Rd w0 w' p l s' a cap T hv pv xs) (hb : Below p w w') : NxR w0 w w' p l a cap e nx := by
  rw [h]; exact ⟨he, ⟨T, hv, pv, xs, hr⟩, hb⟩
end Go.Proofs.YtmodmeabjhaklabGreatDoor
/-
  The request line (reader.requestLine).
-/
namespace Go.Proofs.YtmodmeabjhaklabGreatDoor
open Go.RowKit

theorem step0_more {l : List UInt8} {s : St} (h : lnL 8192 8193 (l.drop s.at_) = .more) : stepF l 0 s = .fin .more := by simp [stepF, h]
theorem step0_long {l : List UInt8} {s : St} (h : lnL 8192 8193 (l.drop s.at_) = .long) : stepF l 0 s = .fin (.bad 338) := by simp [stepF, h]
theorem step0_bad {l x : List UInt8} {s : St} {e : Int} (h : lnL 8192 8193 (l.drop s.at_) = .ok x) (hq : reqL x = .bad e) : stepF l 0 s = .fin (.bad e) := by simp [stepF, h, hq]
theorem step0_ok {l x m t : List UInt8} {s : St} (h : lnL 8192 8193 (l.drop s.at_) = .ok x) (hq : reqL x = .ok m t) : stepF l 0 s = .go 1 { s with at_ := s.at_ + (x.length + 2), head := s.at_ + (x.length + 2), m := m, t := t } := by simp [stepF, h, hq]

set_option maxRecDepth 20000 in
set_option maxHeartbeats 4000000 in
theorem requestLine_any {w0 w : World} {p : Nat} {l : List UInt8} {s : St} {a : Option Addr} {cap : Nat} {T : Tl} {hv pv : Value} {xs : List Sl} (h : Rd w0 w p l s a cap T hv pv xs) :
    Calls Tryz.prog 12 #[.pointer (some ⟨p, 0, none⟩)] w fun e w' => NxR w0 w w' p l a cap e (stepF l 0 s) := by
  have HL := (show Hid _ from h.line 8192 8193 338)
  have H := (show Hid _ from h)
  clear h
  go_enter Tryz.func12, Tryz.ntmps12
  go_wp2_with fail
  refine Calls.mono HL.out ?_
  clear HL
  intro e w1 hln
  cases hx : lnL 8192 8193 (l.drop s.at_) with
  | more =>
    rw [hx] at hln
    obtain ⟨rfl, hr, hm⟩ := hln
    have HS : Hid (stepF l 0 s = .fin .more) := step0_more hx
    have HR := (show Hid _ from And.intro hr hm)
    clear hx hr hm
    go_wp2
    go_ret
    exact NxR.fin HS.out rfl HR.out.1 rfl (HR.out.2.toBl H.out.rb.lt) H.out.bl H.out.lo
  | long =>
    rw [hx] at hln
    obtain ⟨rfl, hr, hm⟩ := hln
    have HS : Hid (stepF l 0 s = .fin (.bad 338)) := step0_long hx
    have HR := (show Hid _ from And.intro hr hm)
    clear hx hr hm
    go_wp2
    go_ret
    exact NxR.fin HS.out rfl HR.out.1 rfl (HR.out.2.toBl H.out.rb.lt) H.out.bl H.out.lo
  | ok x =>
    rw [hx] at hln
    obtain ⟨rfl, hr, hm⟩ := hln
    have hxl := (ln_ok hx).2.2.1
    rw [List.length_drop] at hxl
    have hI := H.out.inv
    have hat : s.at_ + (x.length + 2) ≤ l.length := by have := hI.at_; omega
    have hl9 := hI.len
    have hx9 : x.length ≤ 1000000000 := by omega
    have c1 := hr.cell 1 rfl
    have c11 := hr.cell 11 rfl
    have f11 := hr.fz 11
    have HX : Hid (lnL 8192 8193 (l.drop s.at_) = .ok x) := hx
    obtain ⟨k, hk⟩ : ∃ k : Nat, k = s.at_ + (x.length + 2) := ⟨_, rfl⟩
    have hR2 : Rb (w1.setCell ⟨p, 11, none⟩ (.int .i64 (k : Int))) p { rsOf s (.slice a l.length cap) T hv pv with at_ := k, head := k } := by
      refine Rb.of (set_lst hr 11 _) ?_
      rw [hk]
      rfl
    have c1' : w1.cell? ⟨p, 1, none⟩ = some (.int .i64 (k : Int)) := by rw [c1, hk]; rfl
    have hM2 : Md (· = p) w (w1.setCell ⟨p, 11, none⟩ (.int .i64 (k : Int))) := hm.setp _ _
    have HW := (show Hid (∀ W, Below (w1.setCell ⟨p, 11, none⟩ (.int .i64 (k : Int))).heap.size (w1.setCell ⟨p, 11, none⟩ (.int .i64 (k : Int))) W → Rb W p { rsOf s (.slice a l.length cap) T hv pv with at_ := k, head := k } ∧ Md (· = p) w W ∧ Below w0.heap.size w0 W) from fun W hW => ⟨hR2.below hW, hM2.below hW, H.out.bl.trans (((hM2.below hW).toBl H.out.rb.lt).mono H.out.lo)⟩)
    obtain ⟨W, hWe⟩ : ∃ W, W = w1.setCell ⟨p, 11, none⟩ (.int .i64 (k : Int)) := ⟨_, rfl⟩
    rw [← hWe] at HW
    have h0 := HW.out W (Below.refl _ _)
    have HK : Hid (k = s.at_ + (x.length + 2) ∧ s.at_ + (x.length + 2) ≤ l.length) := ⟨hk, hat⟩
    have hcl := cut_len x [32]
    have hcl2 := cut_len (Lib.cut x [32]).2.1 [32]
    have HC1 := (show Hid _ from cut_any x [32] W hx9 (H.out.mx.below h0.2.2 (Nat.le_refl _)))
    have HRq : Hid (reqL x = if (metB (Lib.cut x [32]).1 && tarB (Lib.cut (Lib.cut x [32]).2.1 [32]).1 && verB (Lib.cut (Lib.cut x [32]).2.1 [32]).2.1) = false then .bad 308 else if (Lib.cut (Lib.cut x [32]).2.1 [32]).2.1 ≠ http11 then .bad 340 else if (Lib.cut (Lib.cut x [32]).2.1 [32]).1.getD 0 0 ≠ 47 ∧ (Lib.cut (Lib.cut x [32]).2.1 [32]).1 ≠ [42] then .bad 331 else .ok (Lib.cut x [32]).1 (Lib.cut (Lib.cut x [32]).2.1 [32]).1) := rfl
    clear c1 hx hm hr hR2 hM2 h0 hI hat hk
    go_wp2_with fail
    rw [← hWe]
    refine Calls.mono HC1.out ?_
    rintro e w2 ⟨rfl, hb2⟩
    have h2 := HW.out w2 hb2
    have HC2 := (show Hid _ from cut_any (Lib.cut x [32]).2.1 [32] w2 (by omega) (H.out.mx.below h2.2.2 (Nat.le_refl _)))
    generalize (Lib.cut x [32]).2.2 = fd1 at *
    generalize (Lib.cut (Lib.cut x [32]).2.1 [32]).2.2 = fd2 at *
    generalize (Lib.cut (Lib.cut x [32]).2.1 [32]).2.1 = v at *
    generalize (Lib.cut (Lib.cut x [32]).2.1 [32]).1 = t at *
    generalize (Lib.cut x [32]).2.1 = bh at *
    generalize (Lib.cut x [32]).1 = m at *
    have HB2 : Hid (Below W.heap.size W w2) := hb2
    clear h2 hb2 HC1 hWe c1' c11 f11
    go_wp2_with fail
    refine Calls.mono HC2.out ?_
    rintro e w3 ⟨rfl, hb3⟩
    have HB3 : Hid (Below W.heap.size W w3) := HB2.out.trans (hb3.mono HB2.out.size)
    clear hb3 HC2 HB2
    have HMe := (show Hid _ from isMethod_any m w3 (by omega))
    have HTa := (show Hid _ from isTarget_any t w3 (by omega))
    have HVe := (show Hid _ from isVersion_any v w3 (by omega))
    have htl : t.length ≤ 1000000000 := by omega
    have HBad := (show Hid (∀ W', Below W.heap.size W W' → ∀ z, reqL x = .bad z → Calls Tryz.prog 31 #[.pointer (some ⟨p, 0, none⟩), .int .i64 z] W' fun e w' => e = .returned (.int .i64 7) ∧ NxR w0 w w' p l a cap (.returned (.int .i64 7)) (stepF l 0 s)) from fun W' hW' z hz => by
      have h4 := HW.out W' hW'
      refine (bad_any p _ z W' h4.1).mono ?_
      rintro e w' ⟨rfl, h5, h6⟩
      exact ⟨rfl, NxR.fin (step0_bad HX.out hz) rfl h5 rfl ((h4.2.1.trans h6).toBl H.out.rb.lt) H.out.bl H.out.lo⟩)
    clear hcl hcl2
    cases hme : metB m with
    | false =>
      have hq : reqL x = .bad 308 := by rw [HRq.out, hme]; rfl
      have K := HBad.out w3 HB3.out 308 hq
      rw [hme] at HMe
      clear HRq hq HBad hme HTa HVe
      go_wp2_with fail
      refine Calls.mono HMe.out ?_
      rintro e w' ⟨rfl, rfl⟩
      go_wp2_with fail
      refine Calls.mono K ?_
      rintro e w' ⟨rfl, hn⟩
      go_wp2
      go_ret
      exact hn
    | true =>
      rw [hme] at HMe
      cases hta : tarB t with
      | false =>
        have hq : reqL x = .bad 308 := by rw [HRq.out, hme, hta]; rfl
        have K := HBad.out w3 HB3.out 308 hq
        rw [hta] at HTa
        clear HRq hq HBad hme HVe hta
        go_wp2_with fail
        refine Calls.mono HMe.out ?_
        rintro e w' ⟨rfl, rfl⟩
        go_wp2_with fail
        refine Calls.mono HTa.out ?_
        rintro e w' ⟨rfl, rfl⟩
        go_wp2_with fail
        refine Calls.mono K ?_
        rintro e w' ⟨rfl, hn⟩
        go_wp2
        go_ret
        exact hn
      | true =>
        rw [hta] at HTa
        cases hve : verB v with
        | false =>
          have hq : reqL x = .bad 308 := by rw [HRq.out, hme, hta, hve]; rfl
          rw [hve] at HVe
          have HQ : Hid (reqL x = .bad 308) := hq
          clear HRq hq hme hta hve
          go_wp2_with fail
          refine Calls.mono HMe.out ?_
          rintro e w' ⟨rfl, rfl⟩
          go_wp2_with fail
          refine Calls.mono HTa.out ?_
          rintro e w' ⟨rfl, rfl⟩
          go_wp2_with fail
          refine Calls.mono HVe.out ?_
          rintro e w4 ⟨rfl, hb4⟩
          have K := HBad.out w4 (HB3.out.trans (hb4.mono HB3.out.size)) 308 HQ.out
          clear hb4 HBad
          go_wp2_with fail
          refine Calls.mono K ?_
          rintro e w' ⟨rfl, hn⟩
          go_wp2
          go_ret
          exact hn
        | true =>
          rw [hve] at HVe
          have hq := HRq.out
          rw [hme, hta, hve] at hq
          simp only [Bool.and_self, Bool.true_eq_false, if_false] at hq
          have HQ := (show Hid _ from hq)
          have htp : t ≠ [] := by
            intro h
            rw [h] at hta
            simp [tarB] at hta
          clear HRq hq hme hta hve
          go_wp2_with fail
          refine Calls.mono HMe.out ?_
          rintro e w' ⟨rfl, rfl⟩
          go_wp2_with fail
          refine Calls.mono HTa.out ?_
          rintro e w' ⟨rfl, rfl⟩
          go_wp2_with fail
          refine Calls.mono HVe.out ?_
          rintro e w4 ⟨rfl, hb4⟩
          have HB4 : Hid (Below W.heap.size W w4) := HB3.out.trans (hb4.mono HB3.out.size)
          clear hb4 HB3 HMe HTa HVe
          by_cases hv11 : v = http11
          · have hvi : (v == [72, 84, 84, 80, 47, 49, 46, 49]) = true := by rw [hv11]; rfl
            match t, htp with
            | t0 :: tr, _ =>
              have ht0 : t0.toNat < 256 := t0.toNat_lt
              have hq := HQ.out
              rw [if_neg (by simp [hv11])] at hq
              simp only [List.getD_cons_zero] at hq
              have HQ2 := (show Hid _ from hq)
              obtain ⟨S, hS⟩ : ∃ S : ByteArray, S = ⟨(t0 :: tr).toArray⟩ := ⟨_, rfl⟩
              have hsz : 0 < S.size := by rw [hS, mk_size]; simp
              have hg0 : S[0] = t0 := by subst hS; rfl
              rw [← hS]
              have hr4 := (HW.out w4 HB4.out).1
              have c13 := hr4.cell 13 rfl
              have c14 := hr4.cell 14 rfl
              have f13 := hr4.fz 13
              have f14 := hr4.fz 14
              have HG : Hid (reqL x = .ok m (t0 :: tr) → NxR w0 w ((w4.setCell ⟨p, 13, none⟩ (.string ⟨m.toArray⟩)).setCell ⟨p, 14, none⟩ (.string S)) p l a cap (.returned (.int .i64 1)) (stepF l 0 s)) := by
                intro hq
                have h5 := HW.out w4 HB4.out
                have hm5 : Md (· = p) w ((w4.setCell ⟨p, 13, none⟩ (.string ⟨m.toArray⟩)).setCell ⟨p, 14, none⟩ (.string S)) := (h5.2.1.setp _ _).setp _ _
                obtain ⟨hk1, hk2⟩ := HK.out
                have hI := H.out.inv
                refine NxR.go (step0_ok HX.out hq) rfl (H.out.turn (T' := T) hm5 (Rb.of (set_lst (set_lst h5.1 13 _) 14 _) ?_) rfl rfl ?_) (hm5.toBl H.out.rb.lt)
                · rw [hS, ← hk1]
                  rfl
                · exact ⟨hk2, hI.len, Nat.le_refl _, Nat.le_trans hI.fields (by simp), Nat.le_trans hI.hs (by simp), Nat.le_trans hI.pcs (by simp), Nat.le_trans hI.sum (by simp), hI.size, hI.sm⟩
              have hsi : (0 : Int) < (S.size : Int) := by omega
              by_cases h47 : t0 = 47
              · have hc47 : (((S[0]).toNat : Int) != 47) = false := by rw [hg0, h47]; rfl
                have K := HG.out (by rw [HQ2.out, if_neg (by simp [h47])])
                clear HG HQ HQ2 HBad hS hg0 hv11 h47 hr4
                go_wp2
                go_ret
                exact K
              · have hc47 : (((S[0]).toNat : Int) != 47) = true := by
                  rw [hg0, bne_iff_ne]
                  intro h
                  apply h47
                  apply UInt8.toNat.inj
                  have : (47 : UInt8).toNat = 47 := rfl
                  omega
                by_cases hst : (t0 :: tr) = [42]
                · have hsb : (S.toList == [42]) = true := by rw [hS, hst, Lib.toList_data]; rfl
                  have K := HG.out (by rw [HQ2.out, if_neg (by simp [hst])])
                  clear HG HQ HQ2 HBad hS hg0 hv11 h47 hr4 hst
                  go_wp2
                  go_ret
                  exact K
                · have hsb : (S.toList == [42]) = false := by rw [hS, Lib.toList_data, beq_eq_false_iff_ne]; exact hst
                  have K := HBad.out w4 HB4.out 331 (by rw [HQ2.out, if_pos ⟨h47, hst⟩])
                  clear HG HQ HQ2 HBad hS hg0 hv11 h47 hr4 hst
                  go_wp2_with fail
                  refine Calls.mono K ?_
                  rintro e w' ⟨rfl, hn⟩
                  go_wp2
                  go_ret
                  exact hn
          · have hvi : (v == [72, 84, 84, 80, 47, 49, 46, 49]) = false := by rw [beq_eq_false_iff_ne]; exact hv11
            have K := HBad.out w4 HB4.out 340 (by rw [HQ.out, if_pos hv11])
            clear HBad HQ hv11
            go_wp2_with fail
            refine Calls.mono K ?_
            rintro e w' ⟨rfl, hn⟩
            go_wp2
            go_ret
            exact hn
end Go.Proofs.YtmodmeabjhaklabGreatDoor
/-
  A line of the head or of the trailers (reader.field).
-/
namespace Go.Proofs.YtmodmeabjhaklabGreatDoor
open Go.RowKit

def hdV (h : Option Hd) : Hd := h.getD ([], [])
def FlR (w0 w w' : World) (p : Nat) (l : List UInt8) (a : Option Addr) (cap : Nat) (T : Tl) (hv pv : Value) (xs : List Sl) (e : Ending) : Fl → Prop
  | .fin t => e = .returned (.tuple #[.agg #[.string ⟨#[]⟩, .string ⟨#[]⟩], .bool false]) ∧ FinR w0 w' p t ∧ Below p w w'
  | .ok s' h => e = .returned (.tuple #[.agg #[.string ⟨(hdV h).1.toArray⟩, .string ⟨(hdV h).2.toArray⟩], .bool true]) ∧ Rd w0 w' p l s' a cap T hv pv xs ∧ Md (· = p) w w'
theorem FlR.fin {w0 w w' : World} {p : Nat} {l : List UInt8} {a : Option Addr} {cap : Nat} {T : Tl} {hv pv : Value} {xs : List Sl} {e : Ending} {f : Fl} {t : Tld} {r : Rs} (h : f = .fin t) (he : e = .returned (.tuple #[.agg #[.string ⟨#[]⟩, .string ⟨#[]⟩], .bool false])) (hr : Rb w' p r) (ht : TlR w' (p + 1) r.told t) (hm : Md (· = p) w w') (hp : p < w.heap.size) (hw : Below w0.heap.size w0 w) (hl : w0.heap.size ≤ p) : FlR w0 w w' p l a cap T hv pv xs e f := by
  rw [h]; exact ⟨he, ⟨r, hr, ht, hw.trans ((hm.toBl hp).mono hl)⟩, hm.toBl hp⟩
theorem FlR.ok {w0 w w' : World} {p : Nat} {l : List UInt8} {a : Option Addr} {cap : Nat} {T : Tl} {hv pv : Value} {xs : List Sl} {e : Ending} {f : Fl} {s' : St} {h : Option Hd} (hf : f = .ok s' h) (he : e = .returned (.tuple #[.agg #[.string ⟨(hdV h).1.toArray⟩, .string ⟨(hdV h).2.toArray⟩], .bool true])) (hr : Rd w0 w' p l s' a cap T hv pv xs) (hm : Md (· = p) w w') : FlR w0 w w' p l a cap T hv pv xs e f := by
  rw [hf]; exact ⟨he, hr, hm⟩
theorem Rd.below {w0 w w' : World} {p : Nat} {l : List UInt8} {s : St} {a : Option Addr} {cap : Nat} {T : Tl} {hv pv : Value} {xs : List Sl} (h : Rd w0 w p l s a cap T hv pv xs) (hb : Below w.heap.size w w') : Rd w0 w' p l s a cap T hv pv xs :=
  h.turn (Md.ofBelow hb) (h.rb.below hb) rfl rfl h.inv
theorem fld_more {l : List UInt8} {s : St} (h : lnL (65536 - s.head - 2) (65536 - s.head) (l.drop s.at_) = .more) : fldL l s = .fin .more := by simp [fldL, h]
theorem fld_long {l : List UInt8} {s : St} (h : lnL (65536 - s.head - 2) (65536 - s.head) (l.drop s.at_) = .long) : fldL l s = .fin (.bad 339) := by simp [fldL, h]
theorem fld_nil {l : List UInt8} {s : St} (h : lnL (65536 - s.head - 2) (65536 - s.head) (l.drop s.at_) = .ok []) : fldL l s = .ok { s with at_ := s.at_ + 2, head := s.head + 2 } none := by simp [fldL, h]
theorem fld_many {l x : List UInt8} {s : St} (h : lnL (65536 - s.head - 2) (65536 - s.head) (l.drop s.at_) = .ok x) (hx : x ≠ []) (hf : 100 < s.fields + 1) : fldL l s = .fin (.bad 339) := by simp [fldL, h, hx, hf]
theorem fld_bad {l x : List UInt8} {s : St} (h : lnL (65536 - s.head - 2) (65536 - s.head) (l.drop s.at_) = .ok x) (hx : x ≠ []) (hf : ¬ 100 < s.fields + 1) (hh : hdrL x = none) : fldL l s = .fin (.bad 308) := by simp [fldL, h, hx, hf, hh]
theorem fld_ok {l x : List UInt8} {s : St} {z : Hd} (h : lnL (65536 - s.head - 2) (65536 - s.head) (l.drop s.at_) = .ok x) (hx : x ≠ []) (hf : ¬ 100 < s.fields + 1) (hh : hdrL x = some z) : fldL l s = .ok { s with at_ := s.at_ + (x.length + 2), head := s.head + (x.length + 2), fields := s.fields + 1 } (some z) := by simp [fldL, h, hx, hf, hh]

theorem set2 {w w1 : World} {p N : Nat} {r : Rs} (hr : Rb w1 p r) (hm : Md (· = p) w w1) (hN : w.heap.size ≤ N) (hp : p ≠ N) (v0 v1 : Value) : Rb ((w1.setCell ⟨N, 0, none⟩ v0).setCell ⟨N, 1, none⟩ v1) p r ∧ Md (· = p) w ((w1.setCell ⟨N, 0, none⟩ v0).setCell ⟨N, 1, none⟩ v1) :=
  ⟨hr.keep (F := (· = N)) (((Md.refl _ _).setp _ _).setp _ _) hp, (hm.set (.inr hN) _ _).set (.inr hN) _ _⟩
set_option maxRecDepth 20000 in
set_option maxHeartbeats 1000000 in
theorem field_any {w0 w : World} {p : Nat} {l : List UInt8} {s : St} {a : Option Addr} {cap : Nat} {T : Tl} {hv pv : Value} {xs : List Sl} (h : Rd w0 w p l s a cap T hv pv xs) :
    Calls Tryz.prog 32 #[.pointer (some ⟨p, 0, none⟩)] w fun e w' => FlR w0 w w' p l a cap T hv pv xs e (fldL l s) := by
  obtain ⟨N, hN⟩ : ∃ N, N = w.heap.size := ⟨_, rfl⟩
  obtain ⟨WA, hWA⟩ : ∃ WA, WA = w.alloc (.cells #[.string ⟨#[]⟩, .string ⟨#[]⟩] 31) := ⟨_, rfl⟩
  have hbA : Below w.heap.size w WA := by rw [hWA]; exact (Below.refl _ _).alloc (Nat.le_refl _) _
  have hRA := h.below hbA
  have hnA : WA.heap[N]? = some (.cells #[.string ⟨#[]⟩, .string ⟨#[]⟩] 31 (0, 0)) := by rw [hWA, hN]; exact heap_alloc_new w _
  have HL := (show Hid _ from hRA.line (65536 - s.head - 2) (65536 - s.head) 339)
  have hI := h.inv
  have hh1 : s.head ≤ 1000000000 := by have := hI.head; have := hI.at_; have := hI.len; omega
  have H := (show Hid _ from h)
  have hpN : p ≠ N := by have := h.rb.lt; omega
  have c11 := hRA.rb.cell 11 rfl
  have HN : Hid (N = w.heap.size ∧ WA = w.alloc (.cells #[.string ⟨#[]⟩, .string ⟨#[]⟩] 31)) := ⟨hN, hWA⟩
  have HA := (show Hid _ from And.intro hnA hRA)
  have HbA : Hid (Below w.heap.size w WA) := hbA
  have hcw : w.cell? ⟨p, 11, none⟩ = some (.int .i64 (s.head : Int)) := h.rb.cell 11 rfl
  have hpl : p < w.heap.size := h.rb.lt
  have hcA : (w.alloc (.cells #[.string ⟨#[]⟩, .string ⟨#[]⟩] 31)).cell? ⟨p, 11, none⟩ = some (.int .i64 (s.head : Int)) := by rw [← hWA]; exact c11
  clear h hbA hnA hRA hI c11
  go_enter Tryz.func32, Tryz.ntmps32
  go_wp2_with fail
  rw [← hN, ← hWA]
  clear hN hWA hcw hcA hpl
  refine Calls.mono HL.out ?_
  clear HL
  intro e w1 hln
  cases hx : lnL (65536 - s.head - 2) (65536 - s.head) (l.drop s.at_) with
  | more =>
    rw [hx] at hln
    obtain ⟨rfl, hr, hm⟩ := hln
    have hn1 := keep_blk HA.out.1 hm (fun h => hpN h.symm)
    have d0 := cell_blk hn1 0
    have d1 := cell_blk hn1 1
    have g0 := frozen_blk hn1 0
    have g1 := frozen_blk hn1 1
    simp at d0 d1
    have HS : Hid (fldL l s = .fin .more) := fld_more hx
    have HS2 := (show Hid _ from fun v0 v1 => set2 hr ((Md.ofBelow HbA.out).trans hm) (Nat.le_of_eq HN.out.1.symm) hpN v0 v1)
    clear hx hr hm hn1
    go_wp2
    refine bodyPost_ret (v := .tuple #[.agg #[.string ⟨#[]⟩, .string ⟨#[]⟩], .bool false]) (by simp [results, Tryz.results32, go_sem, d0, d1]) rfl ?_
    exact FlR.fin HS.out rfl (HS2.out _ _).1 rfl (HS2.out _ _).2 H.out.rb.lt H.out.bl H.out.lo
  | long =>
    rw [hx] at hln
    obtain ⟨rfl, hr, hm⟩ := hln
    have hn1 := keep_blk HA.out.1 hm (fun h => hpN h.symm)
    have d0 := cell_blk hn1 0
    have d1 := cell_blk hn1 1
    have g0 := frozen_blk hn1 0
    have g1 := frozen_blk hn1 1
    simp at d0 d1
    have HS : Hid (fldL l s = .fin (.bad 339)) := fld_long hx
    have HS2 := (show Hid _ from fun v0 v1 => set2 hr ((Md.ofBelow HbA.out).trans hm) (Nat.le_of_eq HN.out.1.symm) hpN v0 v1)
    clear hx hr hm hn1
    go_wp2
    refine bodyPost_ret (v := .tuple #[.agg #[.string ⟨#[]⟩, .string ⟨#[]⟩], .bool false]) (by simp [results, Tryz.results32, go_sem, d0, d1]) rfl ?_
    exact FlR.fin HS.out rfl (HS2.out _ _).1 rfl (HS2.out _ _).2 H.out.rb.lt H.out.bl H.out.lo
  | ok x =>
    rw [hx] at hln
    obtain ⟨rfl, hr, hm⟩ := hln
    have hn1 := keep_blk HA.out.1 hm (fun h => hpN h.symm)
    have d0 := cell_blk hn1 0
    have d1 := cell_blk hn1 1
    have g0 := frozen_blk hn1 0
    have g1 := frozen_blk hn1 1
    simp at d0 d1
    have hxl := (ln_ok hx).2.2.1
    rw [List.length_drop] at hxl
    have hI := H.out.inv
    have hat : s.at_ + (x.length + 2) ≤ l.length := by have := hI.at_; omega
    have hl9 := hI.len
    have hx9 : x.length ≤ 1000000000 := by omega
    have hf9 : s.fields ≤ 1000000000 := by have := hI.fields; have := hI.at_; omega
    have HX : Hid (lnL (65536 - s.head - 2) (65536 - s.head) (l.drop s.at_) = .ok x) := hx
    have c11 : w1.cell? ⟨p, 11, none⟩ = some (.int .i64 (s.head : Int)) := hr.cell 11 rfl
    have f11 := hr.fz 11
    have hM1 : Md (· = p) w w1 := (Md.ofBelow HbA.out).trans hm
    have HInv : Hid (∀ f, f ≤ s.fields + 1 → Inv l { s with at_ := s.at_ + (x.length + 2), head := s.head + (x.length + 2), fields := f }) := fun f hf => ⟨hat, hl9, by have := hI.head; simp only; omega, by have := hI.fields; simp only; omega, by have := hI.hs; simp only; omega, by have := hI.pcs; simp only; omega, by have := hI.sum; simp only; omega, hI.size, hI.sm⟩
    clear hI hx hm
    by_cases hx0 : x = []
    · subst hx0
      have hR2 : Rb (w1.setCell ⟨p, 11, none⟩ (.int .i64 ((s.head : Int) + 2))) p (rsOf { s with at_ := s.at_ + 2, head := s.head + 2 } (.slice a l.length cap) T hv pv) := Rb.of (set_lst hr 11 _) rfl
      have HS2 := (show Hid _ from fun v0 v1 => set2 hR2 (hM1.setp 11 _) (Nat.le_of_eq HN.out.1.symm) hpN v0 v1)
      have HS : Hid (fldL l s = .ok { s with at_ := s.at_ + 2, head := s.head + 2 } none) := fld_nil HX.out
      have hNp : N ≠ p := fun h => hpN h.symm
      clear hr hn1 hR2 hM1 HX
      go_wp2
      refine bodyPost_ret (v := .tuple #[.agg #[.string ⟨#[]⟩, .string ⟨#[]⟩], .bool true]) (by simp [results, Tryz.results32, go_sem, d0, d1]) rfl ?_
      exact FlR.ok HS.out rfl (H.out.turn (HS2.out _ _).2 (HS2.out _ _).1 rfl rfl (HInv.out s.fields (by omega))) (HS2.out _ _).2
    · have hxb : (x == []) = false := by rw [beq_eq_false_iff_ne]; exact hx0
      have c12 : w1.cell? ⟨p, 12, none⟩ = some (.int .i64 (s.fields : Int)) := hr.cell 12 rfl
      have f12 := hr.fz 12
      obtain ⟨W, hW⟩ : ∃ W, W = (w1.setCell ⟨p, 11, none⟩ (.int .i64 ((s.head : Int) + ((x.length : Int) + 2)))).setCell ⟨p, 12, none⟩ (.int .i64 ((s.fields : Int) + 1)) := ⟨_, rfl⟩
      have hR2 : Rb W p (rsOf { s with at_ := s.at_ + (x.length + 2), head := s.head + (x.length + 2), fields := s.fields + 1 } (.slice a l.length cap) T hv pv) := by rw [hW]; exact Rb.of (set_lst (set_lst hr 11 _) 12 _) rfl
      have hM2 : Md (· = p) w W := by rw [hW]; exact (hM1.setp _ _).setp _ _
      have hnW : W.heap[N]? = some (.cells #[.string ⟨#[]⟩, .string ⟨#[]⟩] 31 (0, 0)) := by
        rw [hW]
        exact keep_blk hn1 (((Md.refl (· = p) _).setp _ _).setp _ _) (fun h => hpN h.symm)
      have HW := (show Hid (∀ W', Below W.heap.size W W' → Rb W' p (rsOf { s with at_ := s.at_ + (x.length + 2), head := s.head + (x.length + 2), fields := s.fields + 1 } (.slice a l.length cap) T hv pv) ∧ Md (· = p) w W' ∧ Below w0.heap.size w0 W' ∧ W'.heap[N]? = some (.cells #[.string ⟨#[]⟩, .string ⟨#[]⟩] 31 (0, 0))) from fun W' hb => ⟨hR2.below hb, hM2.below hb, H.out.bl.trans (((hM2.below hb).toBl H.out.rb.lt).mono H.out.lo), keep_blk hnW (Md.ofBelow (F := fun _ => False) hb) (fun h => h)⟩)
      have h0 := HW.out W (Below.refl _ _)
      have HC := (show Hid _ from cut_any x [58] W hx9 (H.out.mx.below h0.2.2.1 (Nat.le_refl _)))
      have HH : Hid (hdrL x = if (Lib.cut x [58]).2.2 && tokenB (Lib.cut x [58]).1 && allB valB (Lib.cut x [58]).2.1 then some (lowL (Lib.cut x [58]).1, trimL (Lib.cut x [58]).2.1) else none) := rfl
      have hcl := cut_len x [58]
      clear hr hn1 hR2 hM1 hM2 hnW h0 g0 g1 d0 d1
      go_wp2_with fail
      rw [← hW]
      clear hW c11 f11 c12 f12
      refine Calls.mono HC.out ?_
      rintro e w2 ⟨rfl, hb2⟩
      clear HC
      generalize (Lib.cut x [58]).2.2 = fd at *
      generalize (Lib.cut x [58]).2.1 = vl at *
      generalize (Lib.cut x [58]).1 = nm at *
      have h2 := HW.out w2 hb2
      have c12 : w2.cell? ⟨p, 12, none⟩ = some (.int .i64 ((s.fields + 1 : Nat) : Int)) := h2.1.cell 12 rfl
      have HB2 : Hid (Below W.heap.size W w2) := hb2
      have HBad := (show Hid (∀ W', Below W.heap.size W W' → ∀ z, fldL l s = .fin (.bad z) → Calls Tryz.prog 31 #[.pointer (some ⟨p, 0, none⟩), .int .i64 z] W' fun e w' => e = .returned (.int .i64 7) ∧ w'.heap[N]? = some (.cells #[.string ⟨#[]⟩, .string ⟨#[]⟩] 31 (0, 0)) ∧ ∀ v0 v1, FlR w0 w ((w'.setCell ⟨N, 0, none⟩ v0).setCell ⟨N, 1, none⟩ v1) p l a cap T hv pv xs (.returned (.tuple #[.agg #[.string ⟨#[]⟩, .string ⟨#[]⟩], .bool false])) (fldL l s)) from fun W' hW' z hz => by
        have h4 := HW.out W' hW'
        refine (bad_any p _ z W' h4.1).mono ?_
        rintro e w' ⟨rfl, h5, h6⟩
        refine ⟨rfl, keep_blk h4.2.2.2 h6 (fun h => hpN h.symm), fun v0 v1 => ?_⟩
        have h7 := set2 h5 (h4.2.1.trans h6) (Nat.le_of_eq HN.out.1.symm) hpN v0 v1
        exact FlR.fin hz rfl h7.1 rfl h7.2 H.out.rb.lt H.out.bl H.out.lo)
      clear h2 hb2
      by_cases hf : 100 < s.fields + 1
      · have hfi : (100 : Int) < ((s.fields + 1 : Nat) : Int) := by omega
        have K := HBad.out w2 HB2.out 339 (fld_many HX.out hx0 hf)
        clear HBad hf HH
        go_wp2_with fail
        refine Calls.mono K ?_
        rintro e w3 ⟨rfl, hn3, hfl⟩
        have d0 := cell_blk hn3 0
        have d1 := cell_blk hn3 1
        have g0 := frozen_blk hn3 0
        have g1 := frozen_blk hn3 1
        simp at d0 d1
        have HF := (show Hid _ from hfl)
        clear K hn3 hfl
        go_wp2
        refine bodyPost_ret (v := .tuple #[.agg #[.string ⟨#[]⟩, .string ⟨#[]⟩], .bool false]) (by simp [results, Tryz.results32, go_sem, d0, d1]) rfl ?_
        exact HF.out _ _
      · have hfi : ¬ (100 : Int) < ((s.fields + 1 : Nat) : Int) := by omega
        have HTk := (show Hid _ from token_any ⟨nm.toArray⟩ w2 (by rw [mk_size]; unfold maxLen; omega))
        have HVl := (show Hid _ from value_any ⟨vl.toArray⟩ w2 (by rw [mk_size]; unfold maxLen; omega))
        have HF1 : Hid (hdrL x = none → fldL l s = .fin (.bad 308)) := fun hh => fld_bad HX.out hx0 hf hh
        have HF2 : Hid (∀ z, hdrL x = some z → fldL l s = .ok { s with at_ := s.at_ + (x.length + 2), head := s.head + (x.length + 2), fields := s.fields + 1 } (some z)) := fun z hh => fld_ok HX.out hx0 hf hh
        clear HX hx0 hf
        cases fd
        · have K := HBad.out w2 HB2.out 308 (HF1.out (by rw [HH.out]; rfl))
          clear HBad HH HF1 HF2 HTk HVl HW
          go_wp2_with fail
          refine Calls.mono K ?_
          rintro e w3 ⟨rfl, hn3, hfl⟩
          have d0 := cell_blk hn3 0
          have d1 := cell_blk hn3 1
          have g0 := frozen_blk hn3 0
          have g1 := frozen_blk hn3 1
          simp at d0 d1
          have HF := (show Hid _ from hfl)
          clear K hn3 hfl
          go_wp2
          refine bodyPost_ret (v := .tuple #[.agg #[.string ⟨#[]⟩, .string ⟨#[]⟩], .bool false]) (by simp [results, Tryz.results32, go_sem, d0, d1]) rfl ?_
          exact HF.out _ _
        · cases htk : tokenB nm with
          | false =>
            have K := HBad.out w2 HB2.out 308 (HF1.out (by rw [HH.out, htk]; rfl))
            have HT2 := (show Hid (Calls Tryz.prog 53 #[.string ⟨nm.toArray⟩] w2 fun e w' => e = .returned (.bool false) ∧ w2 = w') from by rw [← htk]; exact HTk.out)
            clear HBad HH HF1 HF2 HTk HVl HW htk
            go_wp2_with fail
            refine Calls.mono HT2.out ?_
            rintro e w' ⟨rfl, rfl⟩
            go_wp2_with fail
            refine Calls.mono K ?_
            rintro e w3 ⟨rfl, hn3, hfl⟩
            have d0 := cell_blk hn3 0
            have d1 := cell_blk hn3 1
            have g0 := frozen_blk hn3 0
            have g1 := frozen_blk hn3 1
            simp at d0 d1
            have HF := (show Hid _ from hfl)
            clear K hn3 hfl
            go_wp2
            refine bodyPost_ret (v := .tuple #[.agg #[.string ⟨#[]⟩, .string ⟨#[]⟩], .bool false]) (by simp [results, Tryz.results32, go_sem, d0, d1]) rfl ?_
            exact HF.out _ _
          | true =>
            have HT2 := (show Hid (Calls Tryz.prog 53 #[.string ⟨nm.toArray⟩] w2 fun e w' => e = .returned (.bool true) ∧ w2 = w') from by rw [← htk]; exact HTk.out)
            cases hvl : allB valB vl with
            | false =>
              have K := HBad.out w2 HB2.out 308 (HF1.out (by rw [HH.out, htk, hvl]; rfl))
              have HV2 := (show Hid (Calls Tryz.prog 56 #[.string ⟨vl.toArray⟩] w2 fun e w' => e = .returned (.bool false) ∧ w2 = w') from by rw [← hvl]; exact HVl.out)
              clear HBad HH HF1 HF2 HTk HVl HW htk hvl
              go_wp2_with fail
              refine Calls.mono HT2.out ?_
              rintro e w' ⟨rfl, rfl⟩
              go_wp2_with fail
              refine Calls.mono HV2.out ?_
              rintro e w' ⟨rfl, rfl⟩
              go_wp2_with fail
              refine Calls.mono K ?_
              rintro e w3 ⟨rfl, hn3, hfl⟩
              have d0 := cell_blk hn3 0
              have d1 := cell_blk hn3 1
              have g0 := frozen_blk hn3 0
              have g1 := frozen_blk hn3 1
              simp at d0 d1
              have HF := (show Hid _ from hfl)
              clear K hn3 hfl
              go_wp2
              refine bodyPost_ret (v := .tuple #[.agg #[.string ⟨#[]⟩, .string ⟨#[]⟩], .bool false]) (by simp [results, Tryz.results32, go_sem, d0, d1]) rfl ?_
              exact HF.out _ _
            | true =>
              have HV2 := (show Hid (Calls Tryz.prog 56 #[.string ⟨vl.toArray⟩] w2 fun e w' => e = .returned (.bool true) ∧ w2 = w') from by rw [← hvl]; exact HVl.out)
              have HOK : Hid (fldL l s = .ok { s with at_ := s.at_ + (x.length + 2), head := s.head + (x.length + 2), fields := s.fields + 1 } (some (lowL nm, trimL vl))) := HF2.out _ (by rw [HH.out, htk, hvl]; rfl)
              have HLo := (show Hid _ from lower_any ⟨nm.toArray⟩ w2 (by rw [mk_size]; omega))
              have HTr := (show Hid _ from fun W => trim_any ⟨vl.toArray⟩ W (by rw [mk_size]; omega))
              clear HBad HH HF1 HF2 HTk HVl htk hvl
              go_wp2_with fail
              refine Calls.mono HT2.out ?_
              rintro e w' ⟨rfl, rfl⟩
              go_wp2_with fail
              refine Calls.mono HV2.out ?_
              rintro e w' ⟨rfl, rfl⟩
              go_wp2_with fail
              refine Calls.mono HLo.out ?_
              rintro e w3 ⟨rfl, hb3⟩
              have HB3 : Hid (Below W.heap.size W w3) := HB2.out.trans (hb3.mono HB2.out.size)
              clear hb3 HLo c12
              go_wp2_with fail
              refine Calls.mono (HTr.out w3) ?_
              rintro e w4 ⟨rfl, hb4⟩
              have h4 := HW.out w4 (HB3.out.trans (hb4.mono HB3.out.size))
              have d0 := cell_blk h4.2.2.2 0
              have d1 := cell_blk h4.2.2.2 1
              have g0 := frozen_blk h4.2.2.2 0
              have g1 := frozen_blk h4.2.2.2 1
              simp at d0 d1
              have HS2 := (show Hid _ from fun v0 v1 => set2 h4.1 h4.2.1 (Nat.le_of_eq HN.out.1.symm) hpN v0 v1)
              clear h4 hb4 HTr HW
              go_wp2
              refine bodyPost_ret (v := .tuple #[.agg #[.string ⟨(lowL nm).toArray⟩, .string ⟨(trimL vl).toArray⟩], .bool true]) (by simp [results, Tryz.results32, go_sem, d0, d1]) rfl ?_
              exact FlR.ok HOK.out rfl (H.out.turn (HS2.out _ _).2 (HS2.out _ _).1 rfl rfl (HInv.out (s.fields + 1) (by omega))) (HS2.out _ _).2
end Go.Proofs.YtmodmeabjhaklabGreatDoor
/-
  A row that grows by one element: the step of append.
-/
namespace Go.Proofs.YtmodmeabjhaklabGreatDoor
open Go.RowKit

/-- 'append' to a row of one's own: whether the row is the same or new. -/
theorem append_own2 {P : Program} (w : World) (base : Nat) (t ty e : TypeId) (i : TypeInfo) (z : Value) (size bytes : Nat) (ht : P.underlying t = some (.slice e)) (hi : P.info? e = some i) (hz : i.zero = some z)
    (hsize : i.size = size) (hby : i.bytes = bytes) (hzs : z.cells.size = size) (hsz : 0 < size)
    (v : Value) (n : Nat) (xs : List Value) (hown : w.ownsRow base e size v n xs)
    (a : Addr) (m c : Nat) (news : List Value) (hl : news.length = m * size) (hnews : ∀ j u, news[j]? = some u → w.cell? (a.add j) = some u) (h1 : ∀ u ∈ news, u.oneCell' = true)
    (h63 : n + m ≤ maxLen) (hbytes : (n + m) * bytes ≤ 140737488355328) (hbase : base ≤ w.heap.size) :
    ∃ v' w', (Builtin.append_ #[t, t] ty #[v, .slice (some a) m c]).run P w = .ok v' w' ∧ w'.ownsRow base e size v' (n + m) (xs ++ news) ∧ w.grownBy w' v.ownBlock ∧
      (v'.ownBlock = v.ownBlock ∨ ∀ k, v'.ownBlock = some k → w.heap.size ≤ k) := by
  obtain ⟨v', w', hr, h2, h3, h4⟩ := run_append_own (P := P) w base t ty e i z size bytes ht hi hz hsize hby hzs hsz v n xs hown a m c news hl hnews h1 h63 hbytes hbase
  refine ⟨v', w', hr, h2, h3, ?_⟩
  subst hsize hby
  have hsmall : n + m ≤ 9223372036854775807 := by simp only [maxLen] at h63; omega
  rcases hown.2 with ⟨rfl, rfl⟩ | ⟨g, cap, cur, rfl, hbg, hg, hnc, hcm, hcs, htake⟩
  · by_cases hm : m = 0
    · left
      rw [h4.2 ⟨rfl, hm⟩]
    · right
      have hr2 := run_append_nil (P := P) w t ty e i z ht hi hz a m c news hl hnews (by omega) (by omega) (by have hb := hbytes; simp only [Nat.zero_add] at hb; omega)
      rw [hr] at hr2
      simp only [Result.ok.injEq] at hr2
      obtain ⟨rfl, _⟩ := hr2
      intro k hk
      simp [Value.ownBlock] at hk
      omega
  · by_cases hroom : n + m ≤ cap
    · left
      have hfit : n * i.size + news.length ≤ cur.size := by rw [hl, hcs, ← Nat.add_mul]; exact Nat.mul_le_mul_right _ hroom
      have hr2 := run_append_room (P := P) w t ty e i ht hi g n cap cur hg a m c news hl hnews h1 hroom hfit
      rw [hr] at hr2
      simp only [Result.ok.injEq] at hr2
      obtain ⟨rfl, _⟩ := hr2
      rfl
    · right
      have hr2 := run_append_grow (P := P) w t ty e i z ht hi hz ⟨g, 0, none⟩ n cap xs hown.1 (hown.cells (g := g) rfl) a m c news hl hnews (by omega) (by omega) (growslice_fits (by omega) hbytes)
      rw [hr] at hr2
      simp only [Result.ok.injEq] at hr2
      obtain ⟨rfl, _⟩ := hr2
      intro k hk
      simp [Value.ownBlock] at hk
      omega
theorem step_append_two {P : Program} {w : World} {ops : Array Oper} {o : Oper} {a : Act} {K : Act → World → Prop} {Q : Exit → Act → World → Prop} {E : Prop} (hgd : o.guard = none) (s x : Operand) (t : TypeId)
    (ho : o.op = .call { callee := .builtin .append, args := #[s, x], argTypes := #[t, t] })
    (base : Nat) (e : TypeId) (i : TypeInfo) (z : Value) (size bytes : Nat) (ht : P.underlying t = some (.slice e)) (hi : P.info? e = some i) (hz : i.zero = some z)
    (hsize : i.size = size) (hby : i.bytes = bytes) (hzs : z.cells.size = size) (hsz : 0 < size)
    (v : Value) (n : Nat) (xs : List Value) (hs : a.eval s = v) (hown : w.ownsRow base e size v n xs)
    (ad : Addr) (m c : Nat) (news : List Value) (hx : a.eval x = .slice (some ad) m c) (hl : news.length = m * size) (hnews : ∀ j u, news[j]? = some u → w.cell? (ad.add j) = some u) (h1 : ∀ u ∈ news, u.oneCell' = true)
    (h63 : n + m ≤ maxLen) (hbytes : (n + m) * bytes ≤ 140737488355328) (hbase : base ≤ w.heap.size)
    (h : ∀ v' w', w'.ownsRow base e size v' (n + m) (xs ++ news) → w.grownBy w' v.ownBlock → (v'.ownBlock = v.ownBlock ∨ ∀ k, v'.ownBlock = some k → w.heap.size ≤ k) → K (a.put o.dst v') w') :
    if Region.wanted o (yielded ops a.tmps) = true then Oper.wp P o a w K Q else E := by
  have hw : Region.wanted o (yielded ops a.tmps) = true := by simp [Region.wanted, hgd]
  rw [if_pos hw]
  obtain ⟨v', w', hr, h2, h3, h4⟩ := append_own2 (P := P) w base t o.type e i z size bytes ht hi hz hsize hby hzs hsz v n xs hown ad m c news hl hnews h1 h63 hbytes hbase
  unfold Oper.wp execOp
  simp only [ho, resolve, invoke, builtin, Sem.run_bind, Sem.run_pure, Result.andThen_ok, List.map_toArray, List.map_cons, List.map_nil, hs, hx, hr]
  exact h v' w' h2 h3 h4
theorem info31 : (Tryz.prog.info? 31).map (fun i => (i.zero, i.size, i.bytes)) = some (some (.agg #[.string ⟨#[]⟩, .string ⟨#[]⟩]), 2, 32) := by kernel_rfl
theorem info22 : (Tryz.prog.info? 22).map (fun i => (i.zero, i.size, i.bytes)) = some (some (.slice none 0 0), 1, 24) := by kernel_rfl
theorem cell_two_new (w : World) (a b : Value) (t : TypeId) : ∀ j u, [a, b][j]? = some u → (w.alloc (.cells #[a, b] t)).cell? ((⟨w.heap.size, 0, none⟩ : Addr).add j) = some u := by
  intro j u hj
  rw [Addr.add_lit, World.cell?_alloc_mark]
  simpa using hj
theorem two_one (x y : ByteArray) : ∀ u ∈ [Value.string x, .string y], u.oneCell' = true := by
  intro u hu
  simp at hu
  rcases hu with rfl | rfl <;> rfl
end Go.Proofs.YtmodmeabjhaklabGreatDoor
/-
  http.Query.
-/
namespace Go.Proofs.YtmodmeabjhaklabGreatDoor
open Go.RowKit

theorem own_le {w : World} {base base' size n : Nat} {e : TypeId} {v : Value} {xs : List Value} (h : w.ownsRow base e size v n xs) (hb : base' ≤ base) : w.ownsRow base' e size v n xs :=
  ⟨h.1, h.2.elim Or.inl (fun ⟨g, cap, cur, hv, hg, r⟩ => Or.inr ⟨g, cap, cur, hv, Nat.le_trans hb hg, r⟩)⟩
def pairL (x : List UInt8) : Option Hd := if x = [] then none else some ((Lib.cut x [61]).1, (Lib.cut x [61]).2.1)
def qryL (t : List UInt8) : List Hd := (splitL 38 (Lib.cut t [63]).2.1).filterMap pairL
theorem fm_no {L : List (List UInt8)} {k : Nat} (hk : k < L.length) (h : L[k] = []) : (L.take (k + 1)).filterMap pairL = (L.take k).filterMap pairL := by
  rw [List.take_succ_eq_append_getElem hk, List.filterMap_append]
  simp [pairL, h]
theorem fm_yes {L : List (List UInt8)} {k : Nat} (hk : k < L.length) (h : L[k] ≠ []) : (L.take (k + 1)).filterMap pairL = (L.take k).filterMap pairL ++ [((Lib.cut L[k] [61]).1, (Lib.cut L[k] [61]).2.1)] := by
  rw [List.take_succ_eq_append_getElem hk, List.filterMap_append]
  simp [pairL, h]
end Go.Proofs.YtmodmeabjhaklabGreatDoor
/-
  The document's All, Get and Cut.
-/
namespace Go.Proofs.YtmodmeabjhaklabGreatDoor
open Go.RowKit

set_option maxRecDepth 20000 in
set_option maxHeartbeats 1000000 in
theorem refAll_any (a : Option Addr) (hs : List Hd) (cap : Nat) (n : List UInt8) (w : World) (hH : Hdrs w a hs) (hl : hs.length ≤ 1000000000) :
    Calls Tryz.prog 46 #[.slice a hs.length cap, .string ⟨n.toArray⟩] w fun e w' => ∃ v, e = .returned v ∧ OwnS w' w.heap.size v (toB (allL hs n)) ∧ Below w.heap.size w w' := by
  obtain ⟨i0, hi, hz0, hz1, hz2⟩ := info_parts info9
  have HH : Hid (Hdrs w a hs) := hH
  clear hH
  go_enter Tryz.func46, Tryz.ntmps46
  go_wp2
  go_loopw [5, 6] (fun v i wr => ∃ k : Nat, k ≤ hs.length ∧ i = .int .i64 k ∧ OwnS wr w.heap.size v (toB (allL (hs.take k) n)) ∧ Below w.heap.size w wr) (fun _ i _ => hs.length - (intOf i).toNat)
  case atStart => exact ⟨0, Nat.zero_le _, rfl, World.ownsRow_nil _ _ _ _, Below.refl _ _⟩
  case round =>
    obtain ⟨k, hk, rfl, hown, hb⟩ := hrel
    have hsz := hb.size
    by_cases hlt : k < hs.length
    · rcases HH.out.below hb (Nat.le_refl _) with hnil | ⟨b, off, rfl, hbs, hc⟩
      · rw [hnil] at hlt; simp at hlt
      · obtain ⟨c1, c2⟩ := hc k hlt
        obtain ⟨h, hh⟩ : ∃ h, h = hs[k] := ⟨_, rfl⟩
        rw [← hh] at c1 c2
        have hki : (k : Int) < (hs.length : Int) := by omega
        have hkk : (0 : Int) ≤ (k : Int) := by omega
        have hle : (allL (hs.take k) n).length ≤ k := Nat.le_trans (all_len _ _) (List.length_take_le _ _)
        by_cases he : h.1 = n
        · have HR : Hid (allL (hs.take (k + 1)) n = allL (hs.take k) n ++ [h.2]) := by show _ = _; rw [all_yes hlt (by rw [← hh]; exact he), hh]
          have heq : (h.1 == n) = true := by rw [he]; simp
          have HO : Hid (OwnS wr w.heap.size u5 (toB (allL (hs.take k) n))) := hown
          have hl2 : (toB (allL (hs.take k) n)).length ≤ k := by rw [toB, List.length_map]; exact hle
          clear he hh hc hown
          go_wp2_with (at_builtin; refine wpList_append_own _ rfl (.tmp 20) (.tmp 26) 42 rfl w.heap.size 9 i0 (.string ⟨#[]⟩) 1 16 Tryz.underlying42 hi hz0 hz1 hz2 rfl (by decide) _ _ _ rfl (World.ownsRow.alloc HO.out _) ⟨wr.heap.size, 0, none⟩ 1 1 [.string ⟨h.2.toArray⟩] rfl rfl (cell_one_new _ _ _) (one_one _ rfl) (by unfold maxLen; omega) (by omega) (by simp; omega) ?_; intro v1 w1 hown1 hgrow1 _)
          have HN : Hid (OwnS w1 w.heap.size v1 (toB (allL (hs.take (k + 1)) n))) := by
            show OwnS _ _ _ _
            rw [HR.out, toB, List.map_append]
            exact ownS_more hown1
          have hB1 : Below w.heap.size w w1 := (hb.alloc hsz _).grown hgrow1 (by simp; omega) (fun j hj => (World.ownsRow.lt HO.out j hj).1)
          clear hown1 hgrow1
          go_wp2
          go_roundw
          case rel => exact ⟨k + 1, by omega, by go_num, HN.out, hB1⟩
          case measure => simp [intOf]; omega
        · have HR : Hid (allL (hs.take (k + 1)) n = allL (hs.take k) n) := by show _ = _; rw [all_no hlt (by rw [← hh]; exact he)]
          have heq : (h.1 == n) = false := by rw [beq_eq_false_iff_ne]; exact he
          have HO : Hid (OwnS wr w.heap.size u5 (toB (allL (hs.take k) n))) := hown
          clear he hh hc hown
          go_wp2
          go_roundw
          case rel => exact ⟨k + 1, by omega, by go_num, by rw [HR.out]; exact HO.out, hb⟩
          case measure => simp [intOf]; omega
    · obtain rfl : k = hs.length := by omega
      rw [List.take_length] at hown
      go_wp2
      go_ret
      exact ⟨_, rfl, hown, hb⟩
theorem get_all (hs : List Hd) (n : List UInt8) : getL hs n = (allL hs n).head? := by
  rw [getL, allL, List.head?_map, List.head?_filter]
set_option maxRecDepth 20000 in
set_option maxHeartbeats 1000000 in
theorem refGet_any (a : Option Addr) (hs : List Hd) (cap : Nat) (n : List UInt8) (w : World) (hH : Hdrs w a hs) (hl : hs.length ≤ 1000000000) :
    Calls Tryz.prog 24 #[.slice a hs.length cap, .string ⟨n.toArray⟩] w fun e w' => e = .returned (.tuple #[.string ⟨((getL hs n).getD []).toArray⟩, .bool (getL hs n).isSome]) ∧ Below w.heap.size w w' := by
  have HA := (show Hid _ from refAll_any a hs cap n w hH hl)
  have HG : Hid (getL hs n = (allL hs n).head?) := get_all hs n
  have hal := all_len hs n
  clear hH
  generalize getL hs n = g at *
  generalize allL hs n = A at *
  go_enter Tryz.func24, Tryz.ntmps24
  go_wp2_with fail
  refine Calls.mono HA.out ?_
  rintro e w1 ⟨v, rfl, ho, hb⟩
  obtain ⟨a1, c1, rfl, hs1⟩ := ho.strs
  rw [toB_len]
  cases A with
  | nil =>
    have HN : Hid (g = none) := HG.out
    clear HG HA ho hs1
    simp only [List.length_nil]
    go_wp2
    go_ret2
    rw [HN.out]
    exact ⟨rfl, hb⟩
  | cons x r =>
    have HN : Hid (g = some x) := HG.out
    rcases hs1 with h | ⟨b, off, rfl, hbs, hc⟩
    · simp [toB] at h
    · have c0 := hc 0 (by simp [toB])
      rw [Nat.add_zero] at c0
      have c0' : w1.cell? ⟨b, off, none⟩ = some (.string ⟨x.toArray⟩) := c0
      have hz : (((x :: r).length : Int) == 0) = false := by rw [beq_eq_false_iff_ne, List.length_cons]; omega
      have hz0 : (0 : Int) < ((x :: r).length : Int) := by rw [List.length_cons]; omega
      obtain ⟨m, hm⟩ : ∃ m, m = (x :: r).length := ⟨_, rfl⟩
      rw [← hm] at hz hz0 hal ⊢
      clear hm c0 hc HG HA ho
      go_wp2
      go_ret2
      rw [HN.out]
      exact ⟨rfl, hb⟩
theorem occ_one (m : List UInt8) (c : UInt8) (i : Nat) : Lib.occAt m [c] i = decide (m[i]? = some c) := by
  unfold Lib.occAt
  by_cases h : i < m.length
  · rw [List.drop_eq_getElem_cons h, List.getElem?_eq_getElem h]
    simp only [List.isPrefixOf, Bool.and_true, Option.some.injEq]
    rw [Bool.eq_iff_iff, beq_iff_eq, decide_eq_true_iff]
    exact eq_comm
  · rw [List.drop_eq_nil_of_le (by omega), List.getElem?_eq_none (by omega)]
    simp [List.isPrefixOf]
theorem cut_hit {m : List UInt8} {c : UInt8} {k : Nat} (hk : k < m.length) (hc : m[k] = c) (hno : c ∉ m.take k) : Lib.cut m [c] = (m.take k, m.drop (k + 1), true) := by
  have hi : Lib.index m [c] = (k : Int) := by
    refine Lib.index_first (Nat.le_of_lt hk) ?_ fun j hj => ?_
    · rw [occ_one, List.getElem?_eq_getElem hk, hc]; simp
    · rw [occ_one, List.getElem?_eq_getElem (by omega)]
      apply decide_eq_false
      intro h
      simp only [Option.some.injEq] at h
      apply hno
      rw [← h]
      exact List.mem_take_iff_getElem.2 ⟨j, by omega, rfl⟩
  unfold Lib.cut
  rw [if_pos (by rw [hi]; omega), hi]
  simp
theorem cut_miss {m : List UInt8} {c : UInt8} (hno : c ∉ m) : Lib.cut m [c] = (m, [], false) := by
  have hi : Lib.index m [c] = -1 := by
    refine Lib.index_none fun j _ => ?_
    rw [occ_one]
    apply decide_eq_false
    intro h
    exact hno (List.mem_of_getElem? h)
  unfold Lib.cut
  rw [if_neg (by rw [hi]; omega)]
set_option maxRecDepth 20000 in
set_option maxHeartbeats 1000000 in
theorem refCut_any (m : List UInt8) (c : UInt8) (w : World) (hl : m.length ≤ 1000000000) :
    Calls Tryz.prog 69 #[.string ⟨m.toArray⟩, .int .u8 (c.toNat : Int)] w fun e w' => e = .returned (.tuple #[.string ⟨(Lib.cut m [c]).1.toArray⟩, .string ⟨(Lib.cut m [c]).2.1.toArray⟩, .bool (Lib.cut m [c]).2.2]) ∧ Below w.heap.size w w' := by
  obtain ⟨S, hS⟩ : ∃ S : ByteArray, S = ⟨m.toArray⟩ := ⟨_, rfl⟩
  have hsz : S.size = m.length := by rw [hS, mk_size]
  have hget : ∀ k (h : k < S.size), S[k] = m[k]'(by omega) := by subst hS; intro k h; rfl
  have HX : Hid (∀ a b, S.extract a b = ⟨((m.take b).drop a).toArray⟩) := by subst hS; exact fun a b => mk_ext m a b
  have HS : Hid (S = ⟨m.toArray⟩) := hS
  obtain ⟨n, hn⟩ : ∃ n : Int, n = (c.toNat : Int) := ⟨_, rfl⟩
  have HN : Hid (n = (c.toNat : Int)) := hn
  obtain ⟨O, hO⟩ : ∃ O, O = Value.tuple #[.string ⟨(Lib.cut m [c]).1.toArray⟩, .string ⟨(Lib.cut m [c]).2.1.toArray⟩, .bool (Lib.cut m [c]).2.2] := ⟨_, rfl⟩
  have HO := (show Hid _ from hO)
  rw [← hS, ← hn, ← hO]
  clear hS hn hO
  go_enter Tryz.func69, Tryz.ntmps69
  go_wp2
  go_loop [7] (fun i => ∃ k : Nat, k ≤ m.length ∧ i = .int .i64 k ∧ Hid (c ∉ m.take k)) (fun i => m.length - (intOf i).toNat)
  case atStart => exact ⟨0, Nat.zero_le _, rfl, by show c ∉ _; simp⟩
  case round =>
    obtain ⟨k, hk, rfl, hno⟩ := hrel
    by_cases hlt : k < m.length
    · have hkz : k < S.size := by omega
      have hgk := hget k hkz
      have hki : (k : Int) < (S.size : Int) := by omega
      have hk0 : (0 : Int) ≤ (k : Int) := by omega
      by_cases hc : m[k] = c
      · have hq : ((S[k].toNat : Int) == n) = true := by rw [hgk, hc, HN.out]; simp
        have hv : O = .tuple #[.string ⟨(m.take k).toArray⟩, .string ⟨(m.drop (k + 1)).toArray⟩, .bool true] := by rw [HO.out, cut_hit hlt hc hno.out]
        have HV := (show Hid _ from hv)
        have h1 : (k : Int) ≤ (S.size : Int) := by omega
        have h2 : (k : Int) + 1 ≤ (S.size : Int) := by omega
        clear hget hgk hno hc hv
        go_wp2
        go_quiet (fail)
        go_wp2
        refine bodyPost_ret (results_tmp3 rfl _ _ _) rfl ?_
        refine ⟨?_, drewN_below w _⟩
        rw [HV.out]
        simp [HX.out]
      · have hq : ((S[k].toNat : Int) == n) = false := by
          rw [hgk, HN.out, beq_eq_false_iff_ne]
          intro h
          exact hc (UInt8.toNat.inj (by omega))
        have HNo : Hid (c ∉ m.take (k + 1)) := by
          show c ∉ _
          rw [List.take_succ_eq_append_getElem hlt, List.mem_append]
          rintro (h | h)
          · exact hno.out h
          · simp only [List.mem_singleton] at h
            exact hc h.symm
        clear hget hgk hno hc
        go_wp2
        go_round
        case rel => exact ⟨k + 1, by omega, by go_num, HNo⟩
        case measure => simp [intOf]; omega
    · obtain rfl : k = m.length := by omega
      have hv : O = .tuple #[.string S, .string ⟨#[]⟩, .bool false] := by
        have := hno.out
        rw [List.take_length] at this
        rw [HO.out, cut_miss this, HS.out]
      have hki : ¬ ((m.length : Int) < (S.size : Int)) := by omega
      have HV := (show Hid _ from hv)
      clear hget hno hv
      go_wp2
      refine bodyPost_ret (results_tmp3 rfl _ _ _) rfl ?_
      rw [HV.out]
      exact ⟨rfl, Below.refl _ _⟩
end Go.Proofs.YtmodmeabjhaklabGreatDoor
/-
  The document's Query.
-/
namespace Go.Proofs.YtmodmeabjhaklabGreatDoor
open Go.RowKit

end Go.Proofs.YtmodmeabjhaklabGreatDoor
/-
  A header line (reader.header).
-/
namespace Go.Proofs.YtmodmeabjhaklabGreatDoor
open Go.RowKit

theorem Md.ofGrown {w1 w2 : World} {row : Option Nat} (hg : w1.grownBy w2 row) : Md (fun b => row = some b) w1 w2 :=
  ⟨hg.os, hg.tape, hg.output, hg.size, fun b hb h1 => hg.block b hb (fun e => h1 e.symm)⟩
theorem TlR.below {w w' : World} {base : Nat} {t : Tl} {T : Tld} (h : TlR w base t T) (hb : Below w.heap.size w w') : TlR w' base t T := by
  cases T with
  | more => exact h
  | bad e => exact h
  | done u m tt hs b cl co =>
    obtain ⟨hv, bv, h1, h2, h3⟩ := h
    exact ⟨hv, bv, h1, own_md h2 (Md.ofBelow (F := fun _ => False) hb) (fun _ _ h => h), own_md h3 (Md.ofBelow (F := fun _ => False) hb) (fun _ _ h => h)⟩
theorem FinR.below {w0 w w' : World} {p : Nat} {T : Tld} (h : FinR w0 w p T) (hb : Below w.heap.size w w') : FinR w0 w' p T := by
  obtain ⟨r, h1, h2, h3⟩ := h
  exact ⟨r, h1.below hb, h2.below hb, h3.trans (hb.mono h3.size)⟩
theorem fld_name {l : List UInt8} {s s' : St} {z : Hd} (h : fldL l s = .ok s' (some z)) (hi : s.hs.length ≤ s.at_) : z.1 ≠ [] ∧ z.1.length ≤ 65536 ∧ z.2.length ≤ 65536 ∧ s'.hs = s.hs ∧ s'.hs.length + 1 ≤ s'.at_ ∧ s'.pcs = s.pcs := by
  unfold fldL at h
  split at h
  · cases h
  · cases h
  · next x hx =>
    have h1 := (ln_ok hx).2.2.2
    split at h
    · cases h
    · split at h
      · cases h
      · split at h
        · cases h
        · next y hy =>
          simp only [Fl.ok.injEq, Option.some.injEq] at h
          obtain ⟨rfl, rfl⟩ := h
          unfold hdrL at hy
          split at hy
          · next hc =>
            simp only [Option.some.injEq] at hy
            subst hy
            have hcl := cut_len x [58]
            have htk : tokenB (Lib.cut x [58]).1 = true := by
              simp only [Bool.and_eq_true] at hc
              exact hc.1.2
            have htr := trim_len (Lib.cut x [58]).2.1
            refine ⟨?_, ?_, ?_, rfl, ?_, rfl⟩
            · intro h0
              have : (Lib.cut x [58]).1 = [] := by simpa [lowL] using h0
              rw [this] at htk
              simp [tokenB] at htk
            · simp only [lowL, List.length_map]
              omega
            · simp only
              omega
            · simp only
              omega
          · cases hy
set_option maxRecDepth 20000 in
set_option maxHeartbeats 1000000 in
theorem header_any {w0 w : World} {p : Nat} {l : List UInt8} {s : St} {a : Option Addr} {cap : Nat} {T : Tl} {hv pv : Value} {xs : List Sl} (h : Rd w0 w p l s a cap T hv pv xs) :
    Calls Tryz.prog 13 #[.pointer (some ⟨p, 0, none⟩)] w fun e w' => NxR w0 w w' p l a cap e (stepF l 1 s) := by
  have HF := (show Hid _ from field_any h)
  have H := (show Hid _ from h)
  clear h
  go_enter Tryz.func13, Tryz.ntmps13
  go_wp2_with fail
  refine Calls.mono HF.out ?_
  clear HF
  intro e w1 hfl
  cases hx : fldL l s with
  | fin t =>
    rw [hx] at hfl
    obtain ⟨rfl, hf, hb⟩ := hfl
    have HS : Hid (stepF l 1 s = .fin t) := by show _ = _; simp [stepF, hx]
    have HR := (show Hid _ from And.intro hf hb)
    clear hx hf hb
    go_wp2
    go_ret
    rw [HS.out]
    have hba : Below w1.heap.size w1 (w1.alloc (.cells #[.string ⟨#[]⟩, .string ⟨#[]⟩] 31)) := (Below.refl _ _).alloc (Nat.le_refl _) _
    exact ⟨rfl, HR.out.1.below hba, HR.out.2.trans (hba.mono (by obtain ⟨r, h1, _⟩ := HR.out.1; have := h1.lt; omega))⟩
  | ok s' z =>
    rw [hx] at hfl
    obtain ⟨rfl, hr, hm⟩ := hfl
    cases z with
    | none =>
      have HS : Hid (stepF l 1 s = .go 2 s') := by show _ = _; simp [stepF, hx]
      have HR := (show Hid _ from And.intro hr hm)
      clear hx hr hm
      unfold hdV
      simp only [Option.getD_none]
      go_wp2
      go_ret
      have hba : Below w1.heap.size w1 (w1.alloc (.cells #[.string ⟨#[]⟩, .string ⟨#[]⟩] 31)) := (Below.refl _ _).alloc (Nat.le_refl _) _
      exact NxR.go HS.out rfl (HR.out.1.below hba) ((HR.out.2.toBl H.out.rb.lt).trans (hba.mono (by have := HR.out.1.rb.lt; omega)))
    | some z =>
      have HS : Hid (stepF l 1 s = .go 1 { s' with hs := s'.hs ++ [z] }) := by show _ = _; simp [stepF, hx]
      obtain ⟨hzn, hz1l, hz2l, hhs, hha, hpp⟩ := fld_name hx H.out.inv.hs
      have hzb : (z.1 == []) = false := by rw [beq_eq_false_iff_ne]; exact hzn
      have HR := (show Hid _ from And.intro hr hm)
      have c15 : w1.cell? ⟨p, 15, none⟩ = some hv := hr.rb.cell 15 rfl
      have f15 := hr.rb.fz 15
      obtain ⟨ha, hc, hve⟩ := own_slice hr.hs
      obtain ⟨i0, hi, hz0, hz1, hz2⟩ := info_parts info31
      have hlen : s'.hs.length ≤ 1000000000 := by have := hr.inv.at_; have := hr.inv.len; omega
      have hpl := hr.rb.lt
      have HZ5 := (show Hid (∀ j u, [Value.string ⟨z.1.toArray⟩, .string ⟨z.2.toArray⟩][j]? = some u → (((w1.alloc (.cells #[.string ⟨z.1.toArray⟩, .string ⟨z.2.toArray⟩] 31)).alloc (.cells #[.string ⟨z.1.toArray⟩, .string ⟨z.2.toArray⟩] 31)).drew).cell? ((⟨w1.heap.size + 1, 0, none⟩ : Addr).add j) = some u) from by
        intro j u hu
        have := cell_two_new (w1.alloc (.cells #[.string ⟨z.1.toArray⟩, .string ⟨z.2.toArray⟩] 31)) (.string ⟨z.1.toArray⟩) (.string ⟨z.2.toArray⟩) 31 j u hu
        have e1 : (w1.alloc (.cells #[.string ⟨z.1.toArray⟩, .string ⟨z.2.toArray⟩] 31)).heap.size = w1.heap.size + 1 := by show (w1.heap.push _).size = _; simp
        rw [e1] at this
        exact this)
      have hbX : Below w1.heap.size w1 (((w1.alloc (.cells #[.string ⟨z.1.toArray⟩, .string ⟨z.2.toArray⟩] 31)).alloc (.cells #[.string ⟨z.1.toArray⟩, .string ⟨z.2.toArray⟩] 31)).drew) := (((Below.refl _ _).alloc (Nat.le_refl _) _).alloc (by simp) _).drew
      have hrX := hr.below hbX
      have own5 := hrX.hs
      have hbase5 : p + 1 ≤ (((w1.alloc (.cells #[.string ⟨z.1.toArray⟩, .string ⟨z.2.toArray⟩] 31)).alloc (.cells #[.string ⟨z.1.toArray⟩, .string ⟨z.2.toArray⟩] 31)).drew).heap.size := Nat.le_trans hpl hbX.size
      have HK5 := (show Hid (∀ w5, (((w1.alloc (.cells #[.string ⟨z.1.toArray⟩, .string ⟨z.2.toArray⟩] 31)).alloc (.cells #[.string ⟨z.1.toArray⟩, .string ⟨z.2.toArray⟩] 31)).drew).grownBy w5 hv.ownBlock → Rb w5 p (rsOf s' (.slice a l.length cap) T hv pv)) from fun w5 hg => hrX.rb.keep (Md.ofGrown hg) (fun hh => own_ne hrX.hs hrX.rb (by decide) p hh rfl))
      have HFIN := (show Hid (∀ w5 v5, (((w1.alloc (.cells #[.string ⟨z.1.toArray⟩, .string ⟨z.2.toArray⟩] 31)).alloc (.cells #[.string ⟨z.1.toArray⟩, .string ⟨z.2.toArray⟩] 31)).drew).grownBy w5 hv.ownBlock → w5.ownsRow (p + 1) 31 2 v5 (s'.hs.length + 1) (hcs s'.hs ++ [.string ⟨z.1.toArray⟩, .string ⟨z.2.toArray⟩]) → NxR w0 w (w5.setCell ⟨p, 15, none⟩ v5) p l a cap (.returned (.int .i64 1)) (stepF l 1 s)) from by
        intro w5 v5 hg ho
        have hr5 := HK5.out w5 hg
        have hb5 : Below p w1 (w5.setCell ⟨p, 15, none⟩ v5) := (((hbX.mono (Nat.le_of_lt hpl)).grown hg (Nat.le_of_lt (Nat.lt_of_lt_of_le hpl hbX.size)) (fun k hk => by have := (hrX.hs.lt k hk).1; omega)).setCell (Nat.le_refl _) _)
        have hmp : Md (· = p) w5 (w5.setCell ⟨p, 15, none⟩ v5) := (Md.refl _ _).setp _ _
        refine NxR.go HS.out rfl (T := T) (hv := v5) (pv := pv) (xs := xs) ⟨Rb.of (set_lst hr5 15 v5) rfl, hr.an, hr.cap, hr.by_, hr.ab, hr.lo, hr.bl.trans (hb5.mono hr.lo), ?_, ?_, hr.pl, hr.pb, hr.mx, hr.er, ?_⟩ ((hm.toBl H.out.rb.lt).trans hb5)
        · have e1 : (s'.hs ++ [z]).length = s'.hs.length + 1 := by simp
          show World.ownsRow _ _ _ _ _ (s'.hs ++ [z]).length (hcs (s'.hs ++ [z]))
          rw [e1, hcs_app]
          exact own_md ho hmp (fun j hj => own_ne ho hr5 (by decide) j hj)
        · exact own_md (own_md hrX.ps (Md.ofGrown hg) (fun j hj hh => own_own hrX.ps hrX.hs (by decide) j hj hh)) hmp (fun j hj => own_ne hrX.ps hrX.rb (by decide) j hj)
        · have hI := hr.inv
          refine ⟨hI.at_, hI.len, hI.head, hI.fields, ?_, hI.pcs, hI.sum, hI.size, ?_⟩
          · show (s'.hs ++ [z]).length ≤ s'.at_
            simp
            exact hha
          · intro x hx
            rcases List.mem_append.1 hx with hx | hx
            · exact hI.sm x hx
            · simp only [List.mem_singleton] at hx
              subst hx
              exact ⟨by omega, by omega⟩)
      rw [hve] at c15 own5 HK5 HFIN
      have HOB := (show Hid (hv = .slice ha s'.hs.length hc) from hve)
      have HHS : Hid (s'.hs.length + 1 ≤ s'.at_ ∧ z.1.length ≤ 65536 ∧ z.2.length ≤ 65536) := ⟨hha, hz1l, hz2l⟩
      clear hx hr hm hzn hrX hve hpp hhs hha hz1l hz2l
      unfold hdV
      simp only [Option.getD_some]
      go_wp2_with fail
      go_region_law
        (first
          | (refine step_append_two rfl (.tmp 22) (.tmp 24) 23 rfl (p + 1) 31 i0 (.agg #[.string ⟨#[]⟩, .string ⟨#[]⟩]) 2 32 Tryz.underlying23 hi hz0 hz1 hz2 rfl (by decide) _ s'.hs.length _ rfl own5 ⟨w1.heap.size + 1, 0, none⟩ 1 1 [.string ⟨z.1.toArray⟩, .string ⟨z.2.toArray⟩] rfl rfl HZ5.out (two_one _ _) (by unfold maxLen; omega) (by omega) hbase5 ?_; intro v5 w5 hown5 hgrow5 hvb5; have hr5 := HK5.out w5 hgrow5; have c5 := hr5.cell 15 rfl; have f5 := hr5.fz 15; have K := HFIN.out w5 v5 hgrow5 hown5; obtain ⟨a5, k5, rfl⟩ := own_slice hown5; clear hown5 hgrow5 hvb5 hr5))
      all_goals
        go_wp2
        go_ret
        exact K
end Go.Proofs.YtmodmeabjhaklabGreatDoor

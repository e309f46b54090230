/-
  The reader of a body in chunks: its box, and its small steps (expect, take).
-/
import Derived.Test.YtgpjjlkkfddjnaaDoorMd
import Derived.Test.YtgpjjlkkfddjnaaDoorChM
namespace Go.Proofs.YtgpjjlkkfddjnaaDoor
open Go.RowKit

/-- A reader in the box p over bytes that lie below B. -/
structure Rx (w : World) (p B : Nat) (a : Option Addr) (cap : Nat) (s : RS) : Prop where
  box : w.heap[p]? = some (.cells #[.slice a s.1.length cap, .int .i64 s.2] 51 (0, 0))
  by_ : Bytes w a s.1
  cap_ : s.1.length ≤ cap
  an : a = none → cap = 0
  lo : ∀ x, a = some x → x.spot = none ∧ x.block < B
  bp : B ≤ p
  len : cap ≤ 9223372036854775807
theorem Rx.lt {w : World} {p B : Nat} {a : Option Addr} {cap : Nat} {s : RS} (h : Rx w p B a cap s) : p < w.heap.size := blk_lt h.box
theorem Rx.bytes {w W : World} {p B : Nat} {a : Option Addr} {cap : Nat} {s : RS} (h : Rx w p B a cap s) (hm : Md (· = p) w W) : Bytes W a s.1 :=
  h.by_.md hm (fun b off e hb => by
    have := (h.lo _ e).2
    have := h.bp
    simp only at *
    omega)
/-- The reader behind a step that wrote its box alone. -/
theorem Rx.turn {w W : World} {p B : Nat} {a : Option Addr} {cap : Nat} {s : RS} (h : Rx w p B a cap s) (hm : Md (· = p) w W) {k : Nat} {f : Int} (hk : k ≤ s.1.length)
    (hbox : W.heap[p]? = some (.cells #[.slice (fromA a cap k) (s.1.length - k) (cap - k), .int .i64 f] 51 (0, 0))) : Rx W p B (fromA a cap k) (cap - k) (s.1.drop k, f) := by
  have hc := h.cap_
  refine ⟨by simpa using hbox, bytes_from (h.bytes hm) hc, by simp only [List.length_drop]; omega, ?_, ?_, h.bp, by have := h.len; omega⟩
  · intro e
    unfold fromA at e
    split at e
    · omega
    · have : a = none := by cases a with
        | none => rfl
        | some x => simp at e
      have := h.an this
      omega
  · intro x e
    unfold fromA at e
    split at e
    · exact h.lo x e
    · cases a with
      | none => simp at e
      | some y =>
        obtain ⟨yb, yo, ys⟩ := y
        have := h.lo _ rfl
        simp only at this
        obtain ⟨rfl, h2⟩ := this
        simp only [Option.map_some, Addr.add_lit, Option.some.injEq] at e
        subst e
        exact ⟨rfl, h2⟩
theorem Rx.keep {w W : World} {p B : Nat} {a : Option Addr} {cap : Nat} {s : RS} (h : Rx w p B a cap s) (hb : Below w.heap.size w W) : Rx W p B a cap s :=
  ⟨(hb.block p h.lt).trans h.box, h.by_.below hb (Nat.le_refl _), h.cap_, h.an, h.lo, h.bp, h.len⟩
/-- Only the fault was written. -/
theorem Rx.fault {w W : World} {p B : Nat} {a : Option Addr} {cap : Nat} {s : RS} (h : Rx w p B a cap s) (hm : Md (· = p) w W) {f : Int}
    (hbox : W.heap[p]? = some (.cells #[.slice a s.1.length cap, .int .i64 f] 51 (0, 0))) : Rx W p B a cap (s.1, f) :=
  ⟨hbox, h.bytes hm, h.cap_, h.an, h.lo, h.bp, h.len⟩
end Go.Proofs.YtgpjjlkkfddjnaaDoor

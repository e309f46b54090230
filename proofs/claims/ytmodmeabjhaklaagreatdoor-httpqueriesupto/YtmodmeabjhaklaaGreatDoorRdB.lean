/-
  The reader with all that it holds; its first state, the request line.
-/
import Derived.Test.YtmodmeabjhaklaaGreatDoorLin
namespace Go.Proofs.YtmodmeabjhaklaaGreatDoor
open Go.RowKit

def rsOf (s : St) (bv : Value) (T : Tl) (hv pv : Value) : Rs := ⟨bv, s.at_, T, s.head, s.fields, ⟨s.m.toArray⟩, ⟨s.t.toArray⟩, hv, .slice none 0 0, s.size, pv, s.sum⟩
/-- The cells of headers. -/
def hcs (hs : List Hd) : List Value := hs.flatMap fun h => [.string ⟨h.1.toArray⟩, .string ⟨h.2.toArray⟩]
theorem hcs_len (hs : List Hd) : (hcs hs).length = hs.length * 2 := by
  unfold hcs
  induction hs with
  | nil => rfl
  | cons a r ih => simp only [List.flatMap_cons, List.length_append, ih, List.length_cons, List.length_nil]; omega
theorem hcs_app (L M : List Hd) : hcs (L ++ M) = hcs L ++ hcs M := by simp [hcs]
theorem hcs_get : ∀ (hs : List Hd) (j : Nat) (h : j < hs.length), (hcs hs)[j * 2]? = some (.string ⟨hs[j].1.toArray⟩) ∧ (hcs hs)[j * 2 + 1]? = some (.string ⟨hs[j].2.toArray⟩)
  | [], j, h => by simp at h
  | a :: r, 0, h => ⟨rfl, rfl⟩
  | a :: r, j + 1, h => by
    have ih := hcs_get r j (by simpa using h)
    have e : hcs (a :: r) = .string ⟨a.1.toArray⟩ :: .string ⟨a.2.toArray⟩ :: hcs r := rfl
    rw [e, show (j + 1) * 2 = j * 2 + 2 by omega]
    exact ih
/-- A row of headers of one's own is a list of headers. -/
theorem own_hdrs {w : World} {base : Nat} {v : Value} {hs : List Hd} (h : w.ownsRow base 45 2 v hs.length (hcs hs)) : ∃ a c, v = .slice a hs.length c ∧ Hdrs w a hs := by
  have h0 := h
  obtain ⟨_, ⟨rfl, h2⟩ | ⟨g, cap, cur, rfl, hg, hh, _⟩⟩ := h
  · exact ⟨none, 0, by rw [h2], .inl (List.length_eq_zero_iff.1 h2)⟩
  · refine ⟨_, _, rfl, .inr ⟨g, 0, rfl, blk_lt hh, fun j hj => ?_⟩⟩
    have := hcs_get hs j hj
    have l1 := hcs_len hs
    rw [Nat.zero_add]
    exact ⟨by rw [h0.cellAt (j * 2) (by omega)]; exact this.1, by rw [h0.cellAt (j * 2 + 1) (by omega)]; exact this.2⟩
/-- A piece of the bytes. -/
structure Sl where
  a : Option Addr
  l : List UInt8
  c : Nat
def Sl.v (s : Sl) : Value := .slice s.a s.l.length s.c
/-- The bounds of what is read. -/
structure Inv (l : List UInt8) (s : St) : Prop where
  at_ : s.at_ ≤ l.length
  len : l.length ≤ 1000000000
  head : s.head ≤ s.at_
  fields : s.fields ≤ s.at_
  hs : s.hs.length ≤ s.at_
  pcs : s.pcs.length ≤ s.at_
  sum : s.sum ≤ s.at_
  size : s.size ≤ 4294967296
  sm : Sm s.hs
structure Rd (w0 w : World) (p : Nat) (l : List UInt8) (s : St) (a : Option Addr) (cap : Nat) (T : Tl) (hv pv : Value) (xs : List Sl) : Prop where
  rb : Rb w p (rsOf s (.slice a l.length cap) T hv pv)
  an : a = none → cap = 0
  cap : l.length ≤ cap
  by_ : Bytes w0 a l
  ab : ∀ x, a = some x → x.spot = none ∧ x.block < w0.heap.size
  lo : w0.heap.size ≤ p
  bl : Below w0.heap.size w0 w
  hs : w.ownsRow (p + 1) 45 2 hv s.hs.length (hcs s.hs)
  ps : w.ownsRow (p + 1) 22 1 pv xs.length (xs.map Sl.v)
  pl : xs.map (·.l) = s.pcs
  pb : ∀ x ∈ xs, Bytes w0 x.a x.l ∧ (x.a = none → x.c = 0)
  mx : Mx w0
  er : Er w0
  inv : Inv l s
theorem Md.toBl {p : Nat} {w w' : World} (h : Md (· = p) w w') (hp : p < w.heap.size) : Below p w w' :=
  ⟨h.os, h.tape, h.output, h.size, fun b hb => h.block b (by omega) (by omega)⟩
theorem Rd.turn {w0 w w' : World} {p : Nat} {l : List UInt8} {s s' : St} {a : Option Addr} {cap : Nat} {T T' : Tl} {hv pv : Value} {xs : List Sl} (h : Rd w0 w p l s a cap T hv pv xs) (hm : Md (· = p) w w') (hr : Rb w' p (rsOf s' (.slice a l.length cap) T' hv pv)) (hh : s'.hs = s.hs) (hp : s'.pcs = s.pcs) (hi : Inv l s') : Rd w0 w' p l s' a cap T' hv pv xs :=
  ⟨hr, h.an, h.cap, h.by_, h.ab, h.lo, h.bl.trans ((hm.toBl h.rb.lt).mono h.lo), by rw [hh]; exact own_md h.hs hm (fun j hj => own_ne h.hs h.rb (by decide) j hj), own_md h.ps hm (fun j hj => own_ne h.ps h.rb (by decide) j hj), by rw [hp]; exact h.pl, h.pb, h.mx, h.er, hi⟩
theorem Rd.bytes {w0 w : World} {p : Nat} {l : List UInt8} {s : St} {a : Option Addr} {cap : Nat} {T : Tl} {hv pv : Value} {xs : List Sl} (h : Rd w0 w p l s a cap T hv pv xs) : Bytes w a l := h.by_.below h.bl (Nat.le_refl _)
theorem Rd.line {w0 w : World} {p : Nat} {l : List UInt8} {s : St} {a : Option Addr} {cap : Nat} {T : Tl} {hv pv : Value} {xs : List Sl} (h : Rd w0 w p l s a cap T hv pv xs) (most opn x : Int) :
    Calls Tryz.prog 39 #[.pointer (some ⟨p, 0, none⟩), .int .i64 most, .int .i64 opn, .int .i64 x] w fun e w' => LnR w w' p (rsOf s (.slice a l.length cap) T hv pv) x e (lnL most opn (l.drop s.at_)) :=
  line_any p _ a l cap most opn x w h.rb rfl h.cap h.bytes (fun b off hb => by have h1 : b < w0.heap.size := (h.ab _ hb).2; have h2 := h.lo; omega) (fun x hx => (h.ab x hx).1) h.inv.at_ h.inv.len (h.mx.below h.bl (Nat.le_refl _))

/-- What a step is told as. -/
def TlR (w : World) (base : Nat) (t : Tl) : Tld → Prop
  | .more => t = moreT
  | .bad e => t = badT e
  | .done u m tt hs b cl co => ∃ hv bv, t = ⟨2, (u : Int), ⟨m.toArray⟩, ⟨tt.toArray⟩, hv, bv, 0, cl, co⟩ ∧ w.ownsRow base 45 2 hv hs.length (hcs hs) ∧ Own w base bv b
def FinR (w0 w : World) (p : Nat) (T : Tld) : Prop := ∃ r, Rb w p r ∧ TlR w (p + 1) r.told T ∧ Below w0.heap.size w0 w
/-- What a state tells. -/
def NxR (w0 w w' : World) (p : Nat) (l : List UInt8) (a : Option Addr) (cap : Nat) (e : Ending) : Nx → Prop
  | .go q s' => e = .returned (.int .i64 (q : Int)) ∧ (∃ T hv pv xs, Rd w0 w' p l s' a cap T hv pv xs) ∧ Below p w w'
  | .fin T => e = .returned (.int .i64 7) ∧ FinR w0 w' p T ∧ Below p w w'
theorem NxR.fin {w0 w w' : World} {p : Nat} {l : List UInt8} {a : Option Addr} {cap : Nat} {e : Ending} {nx : Nx} {T : Tld} {r : Rs} (h : nx = .fin T) (he : e = .returned (.int .i64 7)) (hr : Rb w' p r) (ht : TlR w' (p + 1) r.told T) (hb : Below p w w') (hw : Below w0.heap.size w0 w) (hl : w0.heap.size ≤ p) : NxR w0 w w' p l a cap e nx := by
  rw [h]; exact ⟨he, ⟨r, hr, ht, hw.trans (hb.mono hl)⟩, hb⟩
theorem NxR.go {w0 w w' : World} {p : Nat} {l : List UInt8} {a : Option Addr} {cap : Nat} {e : Ending} {nx : Nx} {q : Nat} {s' : St} {T : Tl} {hv pv : Value} {xs : List Sl} (h : nx = .go q s') (he : e = .returned (.int .i64 (q : Int))) (hr : Rd w0 w' p l s' a cap T hv pv xs) (hb : Below p w w') : NxR w0 w w' p l a cap e nx := by
  rw [h]; exact ⟨he, ⟨T, hv, pv, xs, hr⟩, hb⟩
end Go.Proofs.YtmodmeabjhaklaaGreatDoor

/-
  The laws of chunk: what their walks share.
-/
import Derived.Test.YtgpjjlkkfddjnaaDoorAwk
namespace Go.Proofs.YtgpjjlkkfddjnaaDoor
open Go.RowKit

/-- Who signs, as it came in. -/
structure WhOk (w : World) (x : Wh) (ka : Option Addr) (kc : Nat) : Prop where
  cap : x.key.length ≤ kc
  key : x.key.length ≤ 1000000000
  by_ : Bytes w ka x.key
  date : x.date.length ≤ 1000000000
  scope : x.scope.length ≤ 1000000000
  sig : x.sig.length ≤ 1000000000
theorem WhOk.below {w w' : World} {x : Wh} {ka : Option Addr} {kc : Nat} (h : WhOk w x ka kc) (hb : Below w.heap.size w w') : WhOk w' x ka kc := ⟨h.cap, h.key, h.by_.below hb (Nat.le_refl _), h.date, h.scope, h.sig⟩
/-- Bytes, as they lie somewhere below. -/
structure Sl (w : World) (a : Option Addr) (c : Nat) (l : List UInt8) : Prop where
  cap : l.length ≤ c
  max : c ≤ 9223372036854775807
  by_ : Bytes w a l
  lo : ∀ x, a = some x → x.spot = none ∧ x.block < w.heap.size
  nil : a = none → c = 0
theorem Sl.below {w w' : World} {a : Option Addr} {c : Nat} {l : List UInt8} (h : Sl w a c l) (hb : Below w.heap.size w w') : Sl w' a c l := ⟨h.cap, h.max, h.by_.below hb (Nat.le_refl _), fun x hx => ⟨(h.lo x hx).1, Nat.lt_of_lt_of_le (h.lo x hx).2 hb.size⟩, h.nil⟩
theorem own_sl {w : World} {base : Nat} {v : Value} {l : List UInt8} (h : Own w base v l) : ∃ a c, v = .slice a l.length c ∧ Sl w a c l := by
  obtain ⟨a, c, h1, h2, h3, h4, h5, h6⟩ := own_head h
  exact ⟨a, c, h1, h2, h3, h4, h5, h6⟩
theorem Sl.conv {w : World} {a : Option Addr} {c : Nat} {l : List UInt8} (h : Sl w a c l) : (convert 22 9 (.slice a l.length c)).run Tryd.prog w = .ok (.string ⟨l.toArray⟩) w := convert_bytes w a c l h.by_
theorem Ints.below {w w' : World} {a : Option Addr} {l : List Int} (h : Ints w a l) (hb : Below w.heap.size w w') : Ints w' a l := by
  rcases h with h | ⟨b, off, e1, e2, e3⟩
  · exact .inl h
  · exact .inr ⟨b, off, e1, Nat.lt_of_lt_of_le e2 hb.size, fun j hj => (hb.cell (p := ⟨b, off + j, none⟩) e2).trans (e3 j hj)⟩
theorem encode_call {x : Wh} {ka : Option Addr} {kc : Nat} {da : Option Addr} {data : List UInt8} {dc : Nat} {sa : Option Addr} {zs : List Int} {sc : Nat} {w : World} (hx : WhOk w x ka kc) (hd : Sl w da dc data) (hdl : data.length ≤ 1000000000) (hS : Ints w sa zs) (hzl : zs.length ≤ 100000000) (ht : Tz w) :
    Calls Tryd.prog 15 #[x.v ka kc, .slice da data.length dc, .slice sa zs.length sc] w fun e w' => ∃ a c, e = .returned (.slice a (encL x data zs).length c) ∧ Sl w' a c (encL x data zs) ∧ Below w.heap.size w w' :=
  (encode_any x ka kc da data dc sa zs sc w hx.cap hx.key hx.by_ hx.date hx.scope hx.sig hd.cap hdl hd.by_ hd.lo hd.nil hS hzl ht).mono fun e w' ⟨v, h1, h2, h3⟩ => by
    obtain ⟨a, c, h4, h5⟩ := own_sl h2
    exact ⟨a, c, by rw [h1, h4], h5, h3⟩
theorem decode_call {x : Wh} {ka : Option Addr} {kc : Nat} {a : Option Addr} {l : List UInt8} {c : Nat} (size : Int) {w : World} (hx : WhOk w x ka kc) (hl : Sl w a c l) (hll : l.length ≤ 1000000000) (he : Er w) :
    Calls Tryd.prog 9 #[x.v ka kc, .slice a l.length c, .int .i64 size] w fun e w' => ∃ a' c', e = .returned (.tuple #[.slice a' (decL x size l).1.length c', .int .i64 (decL x size l).2]) ∧ Sl w' a' c' (decL x size l).1 ∧ Below w.heap.size w w' :=
  (decode_any x ka kc a l c size w hx.cap hx.key hx.by_ hx.date hx.scope hx.sig hl.by_ hl.cap hl.nil hl.lo hl.max hll he).mono fun e w' ⟨v, h1, h2, h3⟩ => by
    obtain ⟨a', c', h4, h5⟩ := own_sl h2
    exact ⟨a', c', by rw [h1, h4], h5, h3⟩
end Go.Proofs.YtgpjjlkkfddjnaaDoor

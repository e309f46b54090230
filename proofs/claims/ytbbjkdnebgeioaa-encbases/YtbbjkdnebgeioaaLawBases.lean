/-
  The walk of the statement EncBases out of the contracts of what it calls.
-/
import Derived.Test.YtbbjkdnebgeioaaAwake
import Derived.Test.YtbbjkdnebgeioaaRefUnb64b
import Derived.Test.YtbbjkdnebgeioaaSame
namespace Go.Proofs.Ytbbjkdnebgeioaa
open Go.RowKit

theorem step_below {B : Nat} {w w1 w2 : World} (h : Below B w w1) (hb : Below w1.heap.size w1 w2) (hB : B ≤ w.heap.size) : Below B w w2 :=
  h.trans (hb.mono (by have := h.size; omega))
theorem ub_same {l x y : List UInt8} {p q : Bool} (h : UB l x p) (k : UB l y q) : x = y ∧ p = q := by
  cases p <;> cases q
  · exact ⟨by rw [(h.2 rfl).1, (k.2 rfl).1], rfl⟩
  · exact absurd (k.1 rfl) ((h.2 rfl).2 y)
  · exact absurd (h.1 rfl) ((k.2 rfl).2 x)
  · exact ⟨b64_inj (by rw [h.1 rfl, k.1 rfl]), rfl⟩

set_option maxHeartbeats 1000000 in
theorem encBases_walk (a : Option Addr) (l : List UInt8) (cap : Nat) (s : ByteArray) (w : World) (hl : l.length ≤ 140737488351232) (hc : l.length ≤ cap) (hs : s.size ≤ 140737488351232) (hb : Bytes w a l) :
    Calls Try.prog 4 #[.slice a l.length cap, .string s] w fun e w' => e = .returned (.bool true) ∧ Below w.heap.size w w' := by
  go_enter Try.func4, Try.ntmps4
  go_wp2_with fail
  refine (unbase64_any s _ hs).mono ?_
  rintro e w1 ⟨v1, l1, ok1, rfl, ho1, hu1, hb1⟩
  obtain ⟨x1, c1, rfl, hx1⟩ := ho1.bytes
  go_wp2_with fail
  refine (refUnbase64_any s _ hs).mono ?_
  rintro e w2 ⟨v2, l2, ok2, rfl, ho2, hu2, hb2⟩
  obtain ⟨rfl, rfl⟩ := ub_same hu1 hu2
  obtain ⟨x2, c2, rfl, hx2⟩ := ho2.bytes
  have B2 : Below w.heap.size w w2 := step_below hb1 hb2 (Nat.le_refl _)
  have hx1' := hx1.below hb2 (Nat.le_refl _)
  have hbb := hb.below B2 (Nat.le_refl _)
  clear hb1 hb2 ho1 ho2 hx1 hb hu1 hu2
  go_wp2_with fail
  refine (base64_any a l cap _ hl hc hbb).mono ?_
  rintro e w3 ⟨rfl, hb3⟩
  have B3 : Below w.heap.size w w3 := step_below B2 hb3 (Nat.le_refl _)
  have y1 := hx1'.below hb3 (Nat.le_refl _)
  have y2 := hx2.below hb3 (Nat.le_refl _)
  have yb := hbb.below hb3 (Nat.le_refl _)
  clear B2 hb3 hx1' hx2 hbb
  go_wp2_with fail
  refine (refBase64_any a l cap _ hl yb).mono ?_
  rintro e w4 ⟨rfl, rfl⟩
  go_wp2_with fail
  refine (same_any x1 x2 _ _ c1 c2 _ y1 y2).mono ?_
  rintro e w5 ⟨rfl, rfl⟩
  clear y1 y2 yb
  go_wp2_with fail
  refine (awake_any _).mono ?_
  rintro e w6 ⟨rfl, hb6⟩
  have B6 : Below w.heap.size w w6 := step_below B3 hb6 (Nat.le_refl _)
  clear B3 hb6
  go_wp2
  go_ret
  exact ⟨rfl, B6⟩
end Go.Proofs.Ytbbjkdnebgeioaa

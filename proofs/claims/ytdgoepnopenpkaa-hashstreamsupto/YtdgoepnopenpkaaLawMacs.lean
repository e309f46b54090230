/-
  The walk of the statement HashMacs out of the contracts of what it calls.
-/
import Derived.Test.YtdgoepnopenpkaaAwake
import Derived.Test.YtdgoepnopenpkaaHmac
import Derived.Test.YtdgoepnopenpkaaRefHmac
namespace Go.Proofs.Ytdgoepnopenpkaa
open Go.RowKit

theorem same_any (a a' : Option Addr) (l m : List UInt8) (c c' : Nat) (w : World) (h1 : Bytes w a l) (h2 : Bytes w a' m) :
    Calls Try.prog 12 #[.slice a l.length c, .slice a' m.length c'] w fun e w' => e = .returned (.bool (l == m)) ∧ w = w' := by
  have k1 := convert_bytes w a c l h1
  have k2 := convert_bytes w a' c' m h2
  go_enter Try.func12, Try.ntmps12
  go_wp2
  go_ret
  exact ⟨rfl, rfl⟩

set_option maxHeartbeats 1000000 in
theorem hashMacs_walk (ka : Option Addr) (key : List UInt8) (kcap : Nat) (a : Option Addr) (b : List UInt8) (cap : Nat) (w : World) (hkc : key.length ≤ kcap) (hkn : ka = none → kcap = 0) (hkl : key.length ≤ 140737488351232) (hkb : Bytes w ka key) (hcap : b.length ≤ cap) (hn : a = none → cap = 0) (hl : b.length ≤ 140737488351232) (hb : Bytes w a b) :
    Calls Try.prog 5 #[.slice ka key.length kcap, .slice a b.length cap] w fun e w' => e = .returned (.bool true) ∧ Below w.heap.size w w' := by
  obtain ⟨M, hM⟩ : ∃ M, hmacL key b = M := ⟨_, rfl⟩
  have H1 : Hid (Calls Try.prog 9 #[.slice ka key.length kcap, .slice a b.length cap] w fun e w' => ∃ v, e = .returned v ∧ Own w' w.heap.size v M ∧ Below w.heap.size w w') := by
    rw [← hM]
    exact hmac_any ka key kcap a b cap w hkc (by omega) hkb hcap hn hl hb
  have H2 : Hid (∀ W, Bytes W ka key → Bytes W a b → Calls Try.prog 17 #[.slice ka key.length kcap, .slice a b.length cap] W fun e w' => ∃ v, e = .returned v ∧ Own w' W.heap.size v M ∧ Below W.heap.size W w') := fun W h1 h2 => by
    rw [← hM]
    exact refHmac_any ka key kcap a b cap W hkn hkl h1 hn hl h2
  clear hM
  go_enter Try.func5, Try.ntmps5
  go_wp2_with fail
  refine Calls.mono H1.out ?_
  rintro e w1 ⟨v1, rfl, ho1, hb1⟩
  obtain ⟨x1, c1, rfl, hx1⟩ := ho1.bytes
  have hkb1 := hkb.below hb1 (Nat.le_refl _)
  have hbb1 := hb.below hb1 (Nat.le_refl _)
  clear ho1 hkb hb H1
  go_wp2_with fail
  refine Calls.mono (H2.out _ hkb1 hbb1) ?_
  rintro e w2 ⟨v2, rfl, ho2, hb2⟩
  obtain ⟨x2, c2, rfl, hx2⟩ := ho2.bytes
  have hx1' := hx1.below hb2 (Nat.le_refl _)
  have B2 : Below w.heap.size w w2 := hb1.trans (hb2.mono hb1.size)
  clear hb1 hb2 ho2 hx1 hkb1 hbb1 H2
  go_wp2_with fail
  refine (same_any x1 x2 M M c1 c2 _ hx1' hx2).mono ?_
  rintro e w3 ⟨rfl, rfl⟩
  clear hx1' hx2
  go_wp2_with fail
  refine (awake_any _).mono ?_
  rintro e w4 ⟨rfl, hb4⟩
  have B4 : Below w.heap.size w w4 := B2.trans (hb4.mono B2.size)
  clear B2 hb4
  go_wp2
  go_ret
  exact ⟨rfl, B4⟩
end Go.Proofs.Ytdgoepnopenpkaa

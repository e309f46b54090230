/-
  The walk of the statement HashSums out of the contracts of what it calls.
-/
import Derived.Test.YtdgoepnopenpkaaLawMacs
import Derived.Test.YtdgoepnopenpkaaRefMd5
import Derived.Test.YtdgoepnopenpkaaRefCrc
namespace Go.Proofs.Ytdgoepnopenpkaa
open Go.RowKit

set_option maxHeartbeats 1000000 in
theorem hashSums_walk (a : Option Addr) (b : List UInt8) (cap : Nat) (w : World) (hcap : b.length ≤ cap) (hn : a = none → cap = 0) (hl : b.length ≤ 140737488351232) (hb : Bytes w a b) :
    Calls Try.prog 4 #[.slice a b.length cap] w fun e w' => e = .returned (.bool true) ∧ Below w.heap.size w w' := by
  obtain ⟨M, hM⟩ : ∃ M, md5L b = M := ⟨_, rfl⟩
  obtain ⟨S, hS⟩ : ∃ S, shaL b = S := ⟨_, rfl⟩
  obtain ⟨C, hC⟩ : ∃ C, W (crcL b) = C := ⟨_, rfl⟩
  have H1 : Hid (∀ W, Bytes W a b → Calls Try.prog 11 #[.slice a b.length cap] W fun e w' => ∃ v, e = .returned v ∧ Own w' W.heap.size v M ∧ Below W.heap.size W w') := fun W h => by
    rw [← hM]; exact md5_any a b cap W hcap (by omega) h
  have H2 : Hid (∀ W, Bytes W a b → Calls Try.prog 13 #[.slice a b.length cap] W fun e w' => ∃ v, e = .returned v ∧ Own w' W.heap.size v M ∧ Below W.heap.size W w') := fun W h => by
    rw [← hM]; exact refMd5_any a b cap W hn (by omega) h
  have H3 : Hid (∀ W, Bytes W a b → Calls Try.prog 10 #[.slice a b.length cap] W fun e w' => ∃ v, e = .returned v ∧ Own w' W.heap.size v S ∧ Below W.heap.size W w') := fun W h => by
    rw [← hS]; exact sha_any a b cap W hcap (by omega) h
  have H4 : Hid (∀ W, Bytes W a b → Calls Try.prog 14 #[.slice a b.length cap] W fun e w' => ∃ v, e = .returned v ∧ Own w' W.heap.size v S ∧ Below W.heap.size W w') := fun W h => by
    rw [← hS]; exact refSha_any a b cap W hn (by omega) h
  have H5 : Hid (∀ W, Bytes W a b → Calls Try.prog 15 #[.slice a b.length cap] W fun e w' => e = .returned (.int .u32 C) ∧ Below W.heap.size W w') := fun W h => by
    rw [← hC]; exact crc_any a b cap W hl h
  have H6 : Hid (∀ W, Bytes W a b → Calls Try.prog 16 #[.slice a b.length cap] W fun e w' => e = .returned (.int .u32 C) ∧ W = w') := fun W h => by
    rw [← hC]; exact refCrc_any a b cap W hl h
  clear hM hS hC
  go_enter Try.func4, Try.ntmps4
  go_wp2_with fail
  refine Calls.mono (H1.out _ hb) ?_
  rintro e w1 ⟨v1, rfl, ho1, hb1⟩
  obtain ⟨x1, c1, rfl, hx1⟩ := ho1.bytes
  have g1 := hb.below hb1 (Nat.le_refl _)
  clear ho1 hb H1
  go_wp2_with fail
  refine Calls.mono (H2.out _ g1) ?_
  rintro e w2 ⟨v2, rfl, ho2, hb2⟩
  obtain ⟨x2, c2, rfl, hx2⟩ := ho2.bytes
  have hx1' := hx1.below hb2 (Nat.le_refl _)
  have B2 : Below w.heap.size w w2 := hb1.trans (hb2.mono hb1.size)
  have g2 := g1.below hb2 (Nat.le_refl _)
  clear hb1 hb2 ho2 hx1 g1 H2
  go_wp2_with fail
  refine (same_any x1 x2 M M c1 c2 _ hx1' hx2).mono ?_
  rintro e w3 ⟨rfl, rfl⟩
  clear hx1' hx2
  have hMM : (M == M) = true := by simp
  rw [hMM]
  clear hMM
  go_wp2_with fail
  refine Calls.mono (H3.out _ g2) ?_
  rintro e w3 ⟨v3, rfl, ho3, hb3⟩
  obtain ⟨x3, c3, rfl, hx3⟩ := ho3.bytes
  have B3 : Below w.heap.size w w3 := B2.trans (hb3.mono B2.size)
  have g3 := g2.below hb3 (Nat.le_refl _)
  clear ho3 hb3 H3 B2 g2
  go_wp2_with fail
  refine Calls.mono (H4.out _ g3) ?_
  rintro e w4 ⟨v4, rfl, ho4, hb4⟩
  obtain ⟨x4, c4, rfl, hx4⟩ := ho4.bytes
  have hx3' := hx3.below hb4 (Nat.le_refl _)
  have B4 : Below w.heap.size w w4 := B3.trans (hb4.mono B3.size)
  have g4 := g3.below hb4 (Nat.le_refl _)
  clear hb4 ho4 hx3 g3 H4 B3
  go_wp2_with fail
  refine (same_any x3 x4 S S c3 c4 _ hx3' hx4).mono ?_
  rintro e w5 ⟨rfl, rfl⟩
  clear hx3' hx4
  have hSS : (S == S) = true := by simp
  rw [hSS]
  clear hSS
  go_wp2_with fail
  refine (H5.out _ g4).mono ?_
  rintro e w5 ⟨rfl, hb5⟩
  have B5 : Below w.heap.size w w5 := B4.trans (hb5.mono B4.size)
  have g5 := g4.below hb5 (Nat.le_refl _)
  clear hb5 g4 B4
  go_wp2_with fail
  refine (H6.out _ g5).mono ?_
  rintro e w6 ⟨rfl, rfl⟩
  go_wp2_with fail
  refine (awake_any _).mono ?_
  rintro e w7 ⟨rfl, hb7⟩
  have B7 : Below w.heap.size w w7 := B5.trans (hb7.mono B5.size)
  clear B5 hb7
  go_wp2
  go_ret
  exact ⟨rfl, B7⟩
end Go.Proofs.Ytdgoepnopenpkaa

/-
  The walk of the statement EncPacks out of the contracts of what it calls.
-/
import Derived.Test.YtbbjkdnebgeioaaAwake
import Derived.Test.YtbbjkdnebgeioaaRefPack
import Derived.Test.YtbbjkdnebgeioaaRefUnpack
import Derived.Test.YtbbjkdnebgeioaaTexts
import Derived.Test.YtbbjkdnebgeioaaSame
namespace Go.Proofs.Ytbbjkdnebgeioaa
open Go.RowKit

theorem step_below {B : Nat} {w w1 w2 : World} (h : Below B w w1) (hb : Below w1.heap.size w1 w2) (hB : B ≤ w.heap.size) : Below B w w2 :=
  h.trans (hb.mono (by have := h.size; omega))
theorem unp_len : ∀ (f : Nat) (r : List UInt8) (L : List ByteArray), unp f r = some L → L.length ≤ r.length
  | 0, _, _, h => by simp [unp] at h
  | f + 1, r, L, h => by
    rw [unp] at h
    split at h
    · simp only [Option.some.injEq] at h
      subst h
      simp
    · split at h
      · simp at h
      · split at h
        · simp at h
        · simp only [Option.map_eq_some_iff] at h
          obtain ⟨M, hM, rfl⟩ := h
          have := unp_len f _ M hM
          simp at this ⊢
          omega
theorem uL_len (l : List UInt8) : (uL l).length ≤ l.length := by
  rw [uL]
  cases h : unp (l.length + 1) l with
  | none => simp
  | some L => simpa using unp_len _ _ _ h

set_option maxHeartbeats 2000000 in
theorem encPacks_walk (a : Option Addr) (L : List ByteArray) (cap : Nat) (a2 : Option Addr) (l : List UInt8) (cap2 : Nat) (n : Nat) (w : World) (hL : tot L ≤ 8388608) (hl : l.length ≤ 8388608) (hc2 : l.length ≤ cap2) (hn : n < 18446744073709551616) (hs : Strs w a L) (hb : Bytes w a2 l) :
    Calls Try.prog 5 #[.slice a L.length cap, .slice a2 l.length cap2, .int .u64 (n : Int)] w fun e w' => e = .returned (.bool true) ∧ Below w.heap.size w w' := by
  have hul := uL_len l
  go_enter Try.func5, Try.ntmps5
  go_wp2_with fail
  refine (unpack_any a2 l cap2 _ hl hc2 hb).mono ?_
  rintro e w1 ⟨v1, rfl, ho1, hb1⟩
  obtain ⟨x1, c1, rfl, hx1⟩ := ho1.strs
  have q1 := hb.below hb1 (Nat.le_refl _)
  go_wp2_with fail
  refine (refUnpack_any a2 l cap2 _ hl hc2 q1).mono ?_
  rintro e w2 ⟨v2, rfl, ho2, hb2⟩
  obtain ⟨x2, c2, rfl, hx2⟩ := ho2.strs
  have B2 : Below w.heap.size w w2 := step_below hb1 hb2 (Nat.le_refl _)
  have hx1' := hx1.below hb2 (Nat.le_refl _)
  have q2 := hb.below B2 (Nat.le_refl _)
  have s2 := hs.below B2 (Nat.le_refl _)
  clear hb1 hb2 ho1 ho2 hx1 hb hs q1
  go_wp2_with fail
  refine (get64_any a2 l cap2 _ (by omega) q2).mono ?_
  rintro e w3 ⟨rfl, rfl⟩
  go_wp2_with fail
  refine (refGet64_any a2 l cap2 _ (by omega) q2).mono ?_
  rintro e w3 ⟨rfl, rfl⟩
  clear q2
  go_wp2_with fail
  refine (pack_any a L cap _ (by omega) s2).mono ?_
  rintro e w3 ⟨v3, rfl, ho3, hb3⟩
  obtain ⟨x3, c3, rfl, hx3⟩ := ho3.bytes
  have B3 : Below w.heap.size w w3 := step_below B2 hb3 (Nat.le_refl _)
  have y1 := hx1'.below hb3 (Nat.le_refl _)
  have y2 := hx2.below hb3 (Nat.le_refl _)
  have s3 := s2.below hb3 (Nat.le_refl _)
  clear B2 hb3 ho3 hx1' hx2 s2
  go_wp2_with fail
  refine (refPack_any a L cap _ hL s3).mono ?_
  rintro e w4 ⟨v4, rfl, ho4, hb4⟩
  obtain ⟨x4, c4, rfl, hx4⟩ := ho4.bytes
  have B4 : Below w.heap.size w w4 := step_below B3 hb4 (Nat.le_refl _)
  have z1 := y1.below hb4 (Nat.le_refl _)
  have z2 := y2.below hb4 (Nat.le_refl _)
  have z3 := hx3.below hb4 (Nat.le_refl _)
  clear B3 hb4 ho4 y1 y2 hx3 s3
  go_wp2_with fail
  refine (same_any x3 x4 _ _ c3 c4 _ z3 hx4).mono ?_
  rintro e w5 ⟨rfl, rfl⟩
  clear z3 hx4
  go_wp2_with fail
  refine (sameTexts_any x1 x2 _ _ c1 c2 _ (by omega) (by omega) z1 z2).mono ?_
  rintro e w5 ⟨rfl, hb5⟩
  have B5 : Below w.heap.size w w5 := step_below B4 hb5 (Nat.le_refl _)
  clear z1 z2 B4 hb5
  have heqs : eqS (uL l) (uL l) = true := by simp [eqS]
  go_wp2_with fail
  refine (put64_any n _ hn).mono ?_
  rintro e w6 ⟨v6, rfl, ho6, hb6⟩
  obtain ⟨x6, c6, rfl, hx6⟩ := ho6.bytes
  have B6 : Below w.heap.size w w6 := step_below B5 hb6 (Nat.le_refl _)
  clear B5 hb6 ho6
  go_wp2_with fail
  refine (refPut64_any n _ hn).mono ?_
  rintro e w7 ⟨v7, rfl, ho7, hb7⟩
  obtain ⟨x7, c7, rfl, hx7⟩ := ho7.bytes
  have B7 : Below w.heap.size w w7 := step_below B6 hb7 (Nat.le_refl _)
  have y6 := hx6.below hb7 (Nat.le_refl _)
  clear B6 hb7 ho7 hx6
  go_wp2_with fail
  refine (same_any x6 x7 _ _ c6 c7 _ y6 hx7).mono ?_
  rintro e w8 ⟨rfl, rfl⟩
  clear y6 hx7
  go_wp2_with fail
  refine (awake_any _).mono ?_
  rintro e w9 ⟨rfl, hb9⟩
  have B9 : Below w.heap.size w w9 := step_below B7 hb9 (Nat.le_refl _)
  clear B7 hb9
  go_wp2
  go_ret
  exact ⟨rfl, B9⟩
end Go.Proofs.Ytbbjkdnebgeioaa

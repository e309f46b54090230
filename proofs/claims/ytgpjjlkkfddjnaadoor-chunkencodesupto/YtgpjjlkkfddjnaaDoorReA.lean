/-
  The document's digits of a size.
-/
import Derived.Test.YtgpjjlkkfddjnaaDoorRsB
import Derived.Test.YtgpjjlkkfddjnaaDoorEcB
namespace Go.Proofs.YtgpjjlkkfddjnaaDoor
open Go.RowKit

set_option maxRecDepth 20000 in
set_option maxHeartbeats 2000000 in
theorem rhexn_any (n : Nat) (hn : n ≤ 1000000000) (w : World) : Calls Tryd.prog 32 #[.int .i64 (n : Int)] w fun e w' => e = .returned (.string ⟨(hxN n).toArray⟩) ∧ w' = w := by
  have HN := (show Hid (n ≤ 1000000000 ∧ (hxN n).length ≤ 64) from ⟨hn, hxF_len 64 n⟩)
  clear hn
  go_enter Tryd.func32, Tryd.ntmps32
  go_wp2_with fail
  go_loopw [0, 3] (fun v s wr => ∃ (m : Nat) (TS : ByteArray), v = .int .i64 (m : Int) ∧ s = .string TS ∧ wr = w ∧ Hid (∃ T : List UInt8, TS = ⟨T.toArray⟩ ∧ hxN n = hxN m ++ T ∧ m ≤ n)) (fun v _ _ => (intOf v).toNat)
  case atStart => exact ⟨n, _, rfl, rfl, rfl, ⟨[], rfl, by simp, Nat.le_refl _⟩⟩
  case round =>
    obtain ⟨m, TS, rfl, rfl, rfl, hi⟩ := hrel
    obtain ⟨T, hTS, hxe, hmn⟩ := hi.out
    have hm9 : m ≤ 1000000000 := by have := HN.out.1; omega
    have hTl : TS.size ≤ 64 := by
      have h1 := HN.out.2
      rw [hxe, List.length_append] at h1
      rw [hTS]
      show T.toArray.size ≤ 64
      rw [List.size_toArray]
      omega
    have HT := (show Hid (TS = ⟨T.toArray⟩ ∧ hxN n = hxN m ++ T ∧ m ≤ n) from ⟨hTS, hxe, hmn⟩)
    clear hTS hxe hmn hi
    have hq : ¬ (1 + TS.size > 9223372036854775807) := by omega
    by_cases hgo : 15 < m
    · have hgi : (15 : Int) < (m : Int) := by omega
      obtain ⟨d, hd⟩ : ∃ d, d = m % 16 := ⟨_, rfl⟩
      have hd16 : d < 16 := by omega
      have hE := rdig_at hd16
      have HE := (show Hid _ from hE)
      obtain ⟨r, hr⟩ : ∃ r, r = m / 16 := ⟨_, rfl⟩
      have hr9 : r < m := by omega
      have HG := (show Hid (hxN n = hxN r ++ ([hxC d] ++ T) ∧ r ≤ n ∧ r < m) from by
        have h := HT.out.2.1
        rw [hxN_great (n := m) (by omega) (by omega), ← hr, ← hd] at h
        exact ⟨by rw [h, List.append_assoc], by have := HT.out.2.2; omega, hr9⟩)
      have hwt : (m : Int).tmod 16 = (d : Int) := by rw [Int.tmod_eq_emod_of_nonneg (by omega)]; omega
      have hwd : (m : Int).tdiv 16 = (r : Int) := by rw [Int.tdiv_eq_ediv_of_nonneg (by omega)]; omega
      have h1 : (d : Int) < 16 := by omega
      have h0 : (0 : Int) ≤ (d : Int) := by omega
      have hw1 : IntKind.i64.wrap (d : Int) = (d : Int) := by rw [IntKind.wrap_i64]; omega
      have hw2 : IntKind.i64.wrap (r : Int) = (r : Int) := by rw [IntKind.wrap_i64]; omega
      clear hgo hr hd hr9 hm9 hTl
      go_wp2_with fail
      go_roundw
      case rel => exact ⟨r, _, by first | rfl | trivial, by first | rfl | trivial, by first | rfl | trivial, ⟨[hxC d] ++ T, by rw [HT.out.1]; apply ByteArray.ext; simp, HG.out.1, HG.out.2.1⟩⟩
      case measure => have := HG.out.2.2; simp [intOf]; omega
    · have hgi : ¬ (15 : Int) < (m : Int) := by omega
      have hm16 : m < 16 := by omega
      have hE := rdig_at hm16
      have h1 : (m : Int) < 16 := by omega
      have h0 : (0 : Int) ≤ (m : Int) := by omega
      have HG := (show Hid (hxN n = [hxC m] ++ T) from by have h := HT.out.2.1; rw [hxN_small hm16] at h; exact h)
      clear hgo hm9 hTl
      go_wp2_with fail
      go_ret
      refine ⟨?_, rfl⟩
      rw [HG.out, HT.out.1]
      first
        | rfl
        | (congr 2; done)
        | (congr 2; apply ByteArray.ext; simp)
end Go.Proofs.YtgpjjlkkfddjnaaDoor

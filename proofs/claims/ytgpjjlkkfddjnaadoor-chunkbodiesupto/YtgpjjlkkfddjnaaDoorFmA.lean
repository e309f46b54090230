/-
  strconv.FormatInt at the base 16.
-/
import Derived.Test.YtgpjjlkkfddjnaaDoorMd
import Derived.Test.YtgpjjlkkfddjnaaDoorChM
import Derived.Laws.BitsLemmas
import Derived.Lib.ConvBytes
import Derived.BigQuiet
import Derived.Deep.Cut
namespace Go.Proofs.YtgpjjlkkfddjnaaDoor
open Go.RowKit

/-- The table of bits has its place for 16. -/
def Tz (w : World) : Prop := w.cell? ⟨5, 15, none⟩ = some (.int .u8 4)
theorem Tz.below {w w' : World} (h : Tz w) {B : Nat} (hb : Below B w w') (hB : w.heap.size ≤ B) : Tz w' := by
  have p1 : 5 < w.heap.size := block_lt_of_cell h
  exact (hb.cell (by show 5 < B; omega)).trans h
/-- A digit. -/
def hxC (n : Nat) : UInt8 := UInt8.ofNat (if n < 10 then 48 + n else 87 + n)
/-- A number's digits, the last ones first told: k of them at most. -/
def hxF : Nat → Nat → List UInt8
  | 0, _ => []
  | k + 1, n => if n < 16 then [hxC n] else hxF k (n / 16) ++ [hxC (n % 16)]
def hxN (n : Nat) : List UInt8 := hxF 64 n
theorem hxF_more : ∀ (k m n : Nat), n < 16 ^ k → n < 16 ^ m → 0 < k → 0 < m → hxF k n = hxF m n
  | 0, _, _, _, _, h, _ => by omega
  | _, 0, _, _, _, _, h => by omega
  | k + 1, m + 1, n, h1, h2, _, _ => by
    rw [hxF, hxF]
    by_cases h : n < 16
    · rw [if_pos h, if_pos h]
    · rw [if_neg h, if_neg h]
      have hk : 0 < k := by
        rcases Nat.eq_zero_or_pos k with rfl | h3
        · simp at h1; omega
        · exact h3
      have hm : 0 < m := by
        rcases Nat.eq_zero_or_pos m with rfl | h3
        · simp at h2; omega
        · exact h3
      rw [hxF_more k m (n / 16) (by rw [Nat.div_lt_iff_lt_mul (by omega)]; rw [Nat.pow_succ] at h1; exact h1) (by rw [Nat.div_lt_iff_lt_mul (by omega)]; rw [Nat.pow_succ] at h2; exact h2) hk hm]
theorem hxN_small {n : Nat} (h : n < 16) : hxN n = [hxC n] := by rw [hxN, hxF, if_pos h]
theorem hxN_great {n : Nat} (h : ¬ n < 16) (hn : n < 1000000000000) : hxN n = hxN (n / 16) ++ [hxC (n % 16)] := by
  rw [hxN, hxF, if_neg h, hxN]
  have e1 : (1000000000000 : Nat) < 16 ^ 63 := by decide
  have e2 : (1000000000000 : Nat) < 16 ^ 64 := by decide
  rw [hxF_more 63 64 (n / 16) (by omega) (by omega) (by omega) (by omega)]
theorem wraps63 (n : Int) (h₀ : 0 ≤ n) (h₁ : n < 2 ^ 63) : IntKind.u64.wrap n = n := by rw [IntKind.wrap_u64]; omega
theorem and15 {m : Nat} (h : m < 1000000000000) : bits .and .u64 (m : Int) 15 = ((m % 16 : Nat) : Int) := by
  have h := bits_mask .u64 63 (by decide) wraps63 4 (by decide) (m : Int) (by omega) (by omega)
  have e : ((2 : Int) ^ 4 - 1) = 15 := by decide
  have e2 : ((2 : Int) ^ 4) = 16 := by decide
  rw [e, e2] at h
  rw [h]
  omega
set_option maxHeartbeats 1000000 in
theorem pow_any (w : World) : Calls Tryd.prog 83 #[.int .i64 16] w fun e w' => e = .returned (.bool true) ∧ w' = w := by
  have hb : bits .and .i64 16 15 = 0 := by decide
  go_enter Tryd.func83, Tryd.ntmps83
  go_wp2
  go_ret
  exact ⟨rfl, rfl⟩
set_option maxHeartbeats 1000000 in
theorem tz_any (w : World) (h : Tz w) : Calls Tryd.prog 84 #[.int .u64 16] w fun e w' => e = .returned (.int .i64 4) ∧ w' = w := by
  have c : w.cell? ⟨5, 15, none⟩ = some (.int .u8 4) := h
  clear h
  have hw : IntKind.u64.wrap (-16) = 18446744073709551600 := by decide
  have hb : bits .and .u64 16 18446744073709551600 = 16 := by decide
  have hm : IntKind.u64.wrap (16 * 285870213051353865) = 4573923408821661840 := by decide
  go_enter Tryd.func84, Tryd.ntmps84
  go_wp2
  go_ret
  exact ⟨rfl, rfl⟩
end Go.Proofs.YtgpjjlkkfddjnaaDoor

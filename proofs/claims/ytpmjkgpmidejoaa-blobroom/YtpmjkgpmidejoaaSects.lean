/-
  Sectors of a device read and counted: package sectors by its contracts (Count, Within, Read).
-/
import Derived.Test.YtpmjkgpmidejoaaBts
import Derived.Test.YtpmjkgpmidejoaaCrc
import Derived.Test.YtpmjkgpmidejoaaWrite
import Derived.Test.YtpmjkgpmidejoaaFlush
import Derived.Test.YtpmjkgpmidejoaaRead
import Derived.BigRegion
import Derived.WalkMore
import Derived.ScopeJumps
import Derived.Deep.CutRange
import Derived.Deep.DeepCutAuto
import Derived.Deep.RegionWith
namespace Go.Proofs.Ytpmjkgpmidejoaa
open Go.RowKit

def sect (n : Nat) : Nat := (n + 255) / 256

theorem count_any (n : Nat) (w : World) (h : n ≤ 9223372036854775807) : Calls Try.prog 71 #[.int .i64 (n : Int)] w fun e w' => e = .returned (.int .i64 (sect n : Int)) ∧ w = w' := by
  rcases Nat.eq_zero_or_pos (n % 256) with h0 | h0
  · go_enter Try.func71, Try.ntmps71
    go_wp2
    go_ret
    exact ⟨ret_int (by unfold sect; omega), rfl⟩
  · go_enter Try.func71, Try.ntmps71
    go_wp2
    go_ret
    exact ⟨ret_int (by unfold sect; omega), rfl⟩

theorem within_yes (d : Nat) (p n : Nat) (w : World) (F : Nat → Prop) (M : D) (h : Dev w F d M) (hn : p + n ≤ M.L.length) :
    Calls Try.prog 35 #[.pointer (some ⟨d, 0, none⟩), .int .i64 (p : Int), .int .i64 (n : Int)] w fun e w' => e = .returned (.bool true) ∧ w = w' := by
  have hsz := size_any d w F M h
  have htop := h.1.top
  have h1 : (p : Int) ≤ (M.L.length : Int) - (n : Int) := by omega
  have h2 : (0 : Int) ≤ (n : Int) := by omega
  have h3 : (0 : Int) ≤ (p : Int) := by omega
  obtain ⟨k, hk⟩ : ∃ k, k = M.L.length := ⟨_, rfl⟩
  rw [← hk] at hsz htop h1 hn
  clear h hk
  go_enter Try.func35, Try.ntmps35
  go_wp2_with (go_at_call 66; refine Calls.mono hsz ?_; rintro e w1 ⟨rfl, rfl⟩)
  go_ret
  exact ⟨rfl, rfl⟩
/-- The bytes of k sectors from one on. -/
def secs (S : List ByteArray) (p k : Nat) : List UInt8 := ((S.drop p).take k).flatMap fun x => x.data.toList
theorem secs_succ {S : List ByteArray} {p k : Nat} (h : p + k < S.length) : secs S p (k + 1) = secs S p k ++ S[p + k].data.toList := by
  unfold secs
  have hk : k < (S.drop p).length := by simp; omega
  rw [List.take_succ_eq_append_getElem hk, List.flatMap_append]
  simp
theorem secs_length {S : List ByteArray} (hS : ∀ x ∈ S, x.size = 256) {p : Nat} : ∀ {k : Nat}, p + k ≤ S.length → (secs S p k).length = 256 * k
  | 0, _ => by simp [secs]
  | k + 1, h => by
    rw [secs_succ (by omega), List.length_append, secs_length hS (k := k) (by omega)]
    have : (S[p + k]'(by omega)).size = 256 := hS _ (List.getElem_mem _)
    have e : (S[p + k]'(by omega)).data.toList.length = (S[p + k]'(by omega)).size := by simp
    omega
theorem sect_le (n : Nat) : n ≤ 256 * sect n := by unfold sect; omega


end Go.Proofs.Ytpmjkgpmidejoaa

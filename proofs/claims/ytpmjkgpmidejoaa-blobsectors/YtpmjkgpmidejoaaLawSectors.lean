/-
  BlobSectors walked.
-/
import Derived.Test.YtpmjkgpmidejoaaAwake
namespace Go.Proofs.Ytpmjkgpmidejoaa
open Go.RowKit

theorem rsectors_any (n : Int) (w : World) (hn : n ≤ 9223372036854775807) : Calls Try.prog 29 #[.int .i64 n] w fun e w' => e = .returned (.int .i64 (secI n)) ∧ w = w' := by
  by_cases h : n < 1
  · go_enter Try.func29, Try.ntmps29
    go_wp2
    go_ret
    exact ⟨ret_int (by rw [secI, if_pos (by omega)]), rfl⟩
  · have hd : (n - 1).tdiv 252 = (n - 1) / 252 := Int.tdiv_eq_ediv_of_nonneg (by omega)
    have h1 : 0 < n := by omega
    go_enter Try.func29, Try.ntmps29
    go_wp2
    go_ret
    exact ⟨ret_int (by rw [secI, if_neg (by omega), hd]), rfl⟩

set_option maxHeartbeats 2000000 in
set_option maxRecDepth 20000 in
theorem sectors_walk (n : Int) (w : World) (hn : n ≤ 9223372036854775807) : Calls Try.prog 4 #[.int .i64 n] w fun e w' => e = .returned (.bool true) ∧ Below w.heap.size w w' := by
  have h1 := fun w => sectors_any n w hn
  have h2 := fun w => rsectors_any n w hn
  have h3 := awake_any w
  obtain ⟨k, hk⟩ : ∃ k, k = secI n := ⟨_, rfl⟩
  rw [← hk] at h1 h2
  clear hk
  go_enter Try.func4, Try.ntmps4
  go_wp2_with (first
    | (go_at_call 28; refine Calls.mono (h1 _) ?_; rintro e w1 ⟨rfl, rfl⟩)
    | (go_at_call 29; refine Calls.mono (h2 _) ?_; rintro e w1 ⟨rfl, rfl⟩)
    | (go_at_call 8; refine Calls.mono h3 ?_; rintro e w1 ⟨rfl, q1⟩))
  go_ret
  exact ⟨rfl, q1⟩
end Go.Proofs.Ytpmjkgpmidejoaa

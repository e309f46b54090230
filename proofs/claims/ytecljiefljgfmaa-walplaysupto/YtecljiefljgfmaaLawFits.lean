/-
  SnapFits walked.
-/
import Derived.Test.YtecljiefljgfmaaRun13
namespace Go.Proofs.Ytecljiefljgfmaa
open Go.RowKit

theorem refFits_any (n size : Int) (w : World) (hn : n ≤ 9223372036854775807) (hs : size ≤ 9223372036854775807) :
    Calls Try.prog 36 #[.int .i64 n, .int .i64 size] w fun e w' => e = .returned (.bool (fitsB n size)) ∧ w = w' := by
  by_cases h1 : 1 ≤ n
  · by_cases h2 : 0 ≤ size
    · by_cases h3 : size = 0
      · have HE : Hid (fitsB n size = true) := (show _ = _ from by subst h3; simp [fitsB, sect]; omega)
        rw [HE.out]
        subst h3
        go_enter Try.func36, Try.ntmps36
        go_wp2
        go_ret
        exact ⟨rfl, rfl⟩
      · have h4 : (sect size.toNat : Int) = (size - 1) / 256 + 1 := by unfold sect; omega
        have HE : Hid (fitsB n size = decide ((size - 1) / 256 + 1 ≤ n - 1)) := (show _ = _ from by rw [fitsB, h4]; simp [h1, h2])
        rw [HE.out]
        clear HE h4
        have h5 : (1 : Int) ≤ size := by omega
        have h6 : (size == 0) = false := by rw [beq_eq_false_iff_ne]; exact h3
        go_enter Try.func36, Try.ntmps36
        go_wp2
        go_ret
        exact ⟨rfl, rfl⟩
    · have HE : Hid (fitsB n size = false) := (show _ = _ from by simp [fitsB]; omega)
      rw [HE.out]
      go_enter Try.func36, Try.ntmps36
      go_wp2
      go_ret
      exact ⟨rfl, rfl⟩
  · have HE : Hid (fitsB n size = false) := (show _ = _ from by simp [fitsB]; omega)
    rw [HE.out]
    go_enter Try.func36, Try.ntmps36
    go_wp2
    go_ret
    exact ⟨rfl, rfl⟩

theorem fits_walk (n size : Int) (w : World) (hn : n ≤ 9223372036854775807) (hs : size ≤ 9223372036854775807) :
    Calls Try.prog 8 #[.int .i64 n, .int .i64 size] w fun e w' => e = .returned (.bool true) ∧ Below w.heap.size w w' := by
  have h1 := fits_any n size w hn hs
  have h2 := refFits_any n size w hn hs
  have h3 := awakeS_any w
  obtain ⟨b, hb⟩ : ∃ b, b = fitsB n size := ⟨_, rfl⟩
  rw [← hb] at h1 h2
  clear hb
  go_enter Try.func8, Try.ntmps8
  cases b <;>
  (go_wp2_with (first
    | (go_at_call 35; refine Calls.mono h1 ?_; rintro e w1 ⟨rfl, rfl⟩)
    | (go_at_call 36; refine Calls.mono h2 ?_; rintro e w1 ⟨rfl, rfl⟩)
    | (go_at_call 30; refine Calls.mono h3 ?_; rintro e w1 ⟨rfl, hb1⟩))
   go_ret
   exact ⟨rfl, hb1⟩)
end Go.Proofs.Ytecljiefljgfmaa

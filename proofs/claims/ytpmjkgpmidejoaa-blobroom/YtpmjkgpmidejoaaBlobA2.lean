/-
  Package blob's turn with the method value Mark.
-/
import Derived.Test.YtpmjkgpmidejoaaBlobA
namespace Go.Proofs.Ytpmjkgpmidejoaa
open Go.RowKit
open Al (Spc Kep turnB putB)

set_option maxHeartbeats 2000000 in
set_option maxRecDepth 20000 in
theorem turn_mark (w : World) (s : Nat) (L : List Bool) (st sz : Int) (h : Spc w s L) (h1 : st ≤ 9223372036854775807) (h2 : sz ≤ 9223372036854775807) :
    Calls Try.prog 37 #[rv st sz, .func (.func 38) #[.pointer (some ⟨s, 0, none⟩)] #[]] w fun e w' =>
      e = .returned (.int .i64 (if markR L st sz then 0 else 1)) ∧ Spc w' s (markL L st sz) ∧ Kep (fun k => k ≠ s) w w' := by
  have hz : secI sz ≤ 9223372036854775807 ∧ -9223372036854775808 ≤ secI sz := secI_bd sz h2
  by_cases h0 : st = 0 ∧ sz = 0
  · obtain ⟨rfl, rfl⟩ := h0
    have HC : Hid (Spc w s L) := h
    clear h
    go_enter Try.func37, Try.ntmps37
    go_wp2
    go_ret
    exact ⟨rfl, HC.out.below ((Below.refl _ w).alloc (Nat.le_refl _) _), Kep.alloc _ _ _⟩
  · have hr : markR L st sz = turnB L st (secI sz) false := by rw [markR, (by simpa using h0 : (decide (st = 0) && decide (sz = 0)) = false), Bool.false_or]
    have hL : markL L st sz = if turnB L st (secI sz) false then putB L st.toNat (secI sz).toNat true else L := by rw [markL, if_neg h0]
    have hsec := fun w => sectors_any sz w h2
    have hg := Al.mark_any (w.alloc (.cells #[.int .i64 st, .int .i64 sz] 40)).drew s L st (secI sz) ((h.below ((Below.refl _ w).alloc (Nat.le_refl _) _)).kept rfl) h1
    rw [← hr] at hL hg
    rw [← hL] at hg
    obtain ⟨v, hv⟩ : ∃ v : Int, v = (if markR L st sz then 0 else 1) := ⟨_, rfl⟩
    rw [← hv] at hg ⊢
    obtain ⟨k, hk⟩ : ∃ k, k = secI sz := ⟨_, rfl⟩
    rw [← hk] at hsec hg
    have HG : Hid (Calls Try.prog 38 #[.pointer (some ⟨s, 0, none⟩), .int .i64 st, .int .i64 k] (w.alloc (.cells #[.int .i64 st, .int .i64 sz] 40)).drew fun e w' => e = .returned (.int .i64 v) ∧ Spc w' s (markL L st sz) ∧ Kep (fun k => k ≠ s) w w') := hg.mono fun e w' q => ⟨q.1, q.2.1, ((Kep.alloc _ _ _).trans (Kep.drew _ _)).trans q.2.2.1⟩
    have HC : Hid (Spc w s L) := h
    clear hg hr hL hv hk h hz
    have h3 : st ≠ 0 ∨ (st = 0 ∧ sz ≠ 0) := by omega
    rcases h3 with h3 | ⟨rfl, h3⟩
    · go_enter Try.func37, Try.ntmps37
      go_wp2
      go_region_with (first
        | (go_at_call 28; refine Calls.mono (hsec _) ?_; rintro e w1 ⟨rfl, rfl⟩)
        | (go_at_call 38; refine Calls.mono HG.out ?_; rintro e w1 ⟨rfl, q1⟩))
      all_goals
        (go_wp2
         go_ret
         exact ⟨rfl, q1⟩)
    · go_enter Try.func37, Try.ntmps37
      go_wp2
      go_region_with (first
        | (go_at_call 28; refine Calls.mono (hsec _) ?_; rintro e w1 ⟨rfl, rfl⟩)
        | (go_at_call 38; refine Calls.mono HG.out ?_; rintro e w1 ⟨rfl, q1⟩))
      all_goals
        (go_wp2
         go_ret
         exact ⟨rfl, q1⟩)
end Go.Proofs.Ytpmjkgpmidejoaa

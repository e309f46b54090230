/-
  Package blob's small calls by their contracts: Sectors, turn, Drop, Free, holds.
-/
import Derived.Test.YtpmjkgpmidejoaaAlCopy
import Derived.Test.YtpmjkgpmidejoaaSects
import Derived.BigRegion
import Derived.WalkMore
namespace Go.Proofs.Ytpmjkgpmidejoaa
open Go.RowKit
open Al (Spc Kep turnB putB)

/-- How few units hold so many bytes. -/
def secI (n : Int) : Int := if n ≤ 0 then 0 else (n - 1).tdiv 252 + 1
theorem sectors_any (n : Int) (w : World) (hn : n ≤ 9223372036854775807) : Calls Try.prog 28 #[.int .i64 n] w fun e w' => e = .returned (.int .i64 (secI n)) ∧ w = w' := by
  by_cases h : n ≤ 0
  · go_enter Try.func28, Try.ntmps28
    go_wp2
    go_ret
    exact ⟨ret_int (by rw [secI, if_pos h]), rfl⟩
  · have hd : (n - 1).tdiv 252 = (n - 1) / 252 := Int.tdiv_eq_ediv_of_nonneg (by omega)
    have h1 : 0 < n := by omega
    go_enter Try.func28, Try.ntmps28
    go_wp2
    go_ret
    exact ⟨ret_int (by rw [secI, if_neg (by omega), hd]), rfl⟩

theorem secI_bd (n : Int) (hn : n ≤ 9223372036854775807) : secI n ≤ 9223372036854775807 ∧ -9223372036854775808 ≤ secI n := by
  unfold secI
  split
  · omega
  · rw [Int.tdiv_eq_ediv_of_nonneg (by omega)]; omega
/-- Whether a Ref's units may be given back, and what is left then. -/
def giveR (L : List Bool) (st sz : Int) : Bool := (decide (st = 0) && decide (sz = 0)) || turnB L st (secI sz) true
def giveL (L : List Bool) (st sz : Int) : List Bool := if st = 0 ∧ sz = 0 then L else if turnB L st (secI sz) true then putB L st.toNat (secI sz).toNat false else L
/-- Whether they may be marked. -/
def markR (L : List Bool) (st sz : Int) : Bool := (decide (st = 0) && decide (sz = 0)) || turnB L st (secI sz) false
def markL (L : List Bool) (st sz : Int) : List Bool := if st = 0 ∧ sz = 0 then L else if turnB L st (secI sz) false then putB L st.toNat (secI sz).toNat true else L

abbrev rv (st sz : Int) : Value := .agg #[.int .i64 st, .int .i64 sz]

set_option maxHeartbeats 2000000 in
set_option maxRecDepth 20000 in
theorem turn_give (w : World) (s : Nat) (L : List Bool) (st sz : Int) (h : Spc w s L) (h1 : st ≤ 9223372036854775807) (h2 : sz ≤ 9223372036854775807) :
    Calls Try.prog 37 #[rv st sz, .func (.func 44) #[.pointer (some ⟨s, 0, none⟩)] #[]] w fun e w' =>
      e = .returned (.int .i64 (if giveR L st sz then 0 else 1)) ∧ Spc w' s (giveL L st sz) ∧ Kep (fun k => k ≠ s) w w' := by
  have hz : secI sz ≤ 9223372036854775807 ∧ -9223372036854775808 ≤ secI sz := secI_bd sz h2
  by_cases h0 : st = 0 ∧ sz = 0
  · obtain ⟨rfl, rfl⟩ := h0
    have HC : Hid (Spc w s L) := h
    clear h
    go_enter Try.func37, Try.ntmps37
    go_wp2
    go_ret
    exact ⟨rfl, HC.out.below ((Below.refl _ w).alloc (Nat.le_refl _) _), Kep.alloc _ _ _⟩
  · have hr : giveR L st sz = turnB L st (secI sz) true := by rw [giveR, (by simpa using h0 : (decide (st = 0) && decide (sz = 0)) = false), Bool.false_or]
    have hL : giveL L st sz = if turnB L st (secI sz) true then putB L st.toNat (secI sz).toNat false else L := by rw [giveL, if_neg h0]
    have hsec := fun w => sectors_any sz w h2
    have hg := Al.give_any (w.alloc (.cells #[.int .i64 st, .int .i64 sz] 40)).drew s L st (secI sz) ((h.below ((Below.refl _ w).alloc (Nat.le_refl _) _)).kept rfl) h1
    rw [← hr] at hL hg
    rw [← hL] at hg
    obtain ⟨v, hv⟩ : ∃ v : Int, v = (if giveR L st sz then 0 else 1) := ⟨_, rfl⟩
    rw [← hv] at hg ⊢
    obtain ⟨k, hk⟩ : ∃ k, k = secI sz := ⟨_, rfl⟩
    rw [← hk] at hsec hg
    have HG : Hid (Calls Try.prog 44 #[.pointer (some ⟨s, 0, none⟩), .int .i64 st, .int .i64 k] (w.alloc (.cells #[.int .i64 st, .int .i64 sz] 40)).drew fun e w' => e = .returned (.int .i64 v) ∧ Spc w' s (giveL L st sz) ∧ Kep (fun k => k ≠ s) w w') := hg.mono fun e w' q => ⟨q.1, q.2.1, ((Kep.alloc _ _ _).trans (Kep.drew _ _)).trans q.2.2.1⟩
    have HC : Hid (Spc w s L) := h
    clear hg hr hL hv hk h hz
    have h3 : st ≠ 0 ∨ (st = 0 ∧ sz ≠ 0) := by omega
    rcases h3 with h3 | ⟨rfl, h3⟩
    · go_enter Try.func37, Try.ntmps37
      go_wp2
      go_region_with (first
        | (go_at_call 28; refine Calls.mono (hsec _) ?_; rintro e w1 ⟨rfl, rfl⟩)
        | (go_at_call 44; refine Calls.mono HG.out ?_; rintro e w1 ⟨rfl, q1⟩))
      all_goals
        (go_wp2
         go_ret
         exact ⟨rfl, q1⟩)
    · go_enter Try.func37, Try.ntmps37
      go_wp2
      go_region_with (first
        | (go_at_call 28; refine Calls.mono (hsec _) ?_; rintro e w1 ⟨rfl, rfl⟩)
        | (go_at_call 44; refine Calls.mono HG.out ?_; rintro e w1 ⟨rfl, q1⟩))
      all_goals
        (go_wp2
         go_ret
         exact ⟨rfl, q1⟩)
end Go.Proofs.Ytpmjkgpmidejoaa

/-
  slices.Grow, Concat and Clone of texts by their contracts.
-/
import Derived.Test.YtpophalhmjchkaaCatP
import Derived.Lib.AppendZeros
import Derived.Lib.SliceRun
namespace Go.Proofs.Ytpophalhmjchkaa
open Go.RowKit

set_option maxHeartbeats 1000000 in
set_option maxRecDepth 20000 in
theorem growS (n : Nat) (w : World) (hn : n ≤ 1000000000) :
    Calls Try.prog 60 #[.slice none 0 0, .int .i64 (n : Int)] w fun e w' => ∃ v, e = .returned v ∧ w'.ownsRow w.heap.size 9 1 v 0 [] ∧ Below w.heap.size w w' := by
  obtain ⟨i0, hi, hz0, hz1, hz2⟩ := info_parts info9
  by_cases h0 : n = 0
  · subst h0
    go_enter Try.func60, Try.ntmps60
    go_wp2
    go_ret
    exact ⟨_, rfl, World.ownsRow_nil _ _ _ _, Below.refl _ _⟩
  · have hpos : (0 : Int) < (n : Int) := by omega
    obtain ⟨c, w1, hrun, hrow, hbel⟩ : ∃ c w1, (∀ ty, (Builtin.append_ #[23, 3] ty #[.slice none 0 0, .int .i64 (n : Int)]).run Try.prog w = .ok (.slice (some ⟨w.heap.size, 0, none⟩) n c) w1) ∧ w1.ownsRow w.heap.size 9 1 (.slice (some ⟨w.heap.size, 0, none⟩) 0 c) 0 [] ∧ Below w.heap.size w w1 := by
      have hG : n ≤ grownCap w n 0 9 := grownCap_ge w _ _ _
      have hG2 := grownCap_le_maxLen w n 0 9 (by unfold maxLen; omega)
      refine ⟨grownCap w n 0 9, _, fun ty => Lib.run_append_nil_zeros w 23 3 ty 9 i0 (.string ⟨#[]⟩) .i64 .i64 Try.underlying23 Try.underlying3 hi hz0 n (by omega) (by omega) (by omega) (by rw [hz2]; omega), ⟨rfl, .inr ⟨w.heap.size, _, _, rfl, Nat.le_refl _, heap_alloc_new w.drew _, Nat.zero_le _, hG2, ?_, by simp⟩⟩, ((Below.refl _ w).drew).alloc (Nat.le_refl _) _⟩
      rw [Array.size_append, zcS, zcS]
      omega
    have HR := (show Hid _ from hrun)
    have HX : Hid (w1.ownsRow w.heap.size 9 1 (.slice (some ⟨w.heap.size, 0, none⟩) 0 c) 0 [] ∧ Below w.heap.size w w1) := ⟨hrow, hbel⟩
    clear h0 hrun hrow hbel
    go_enter Try.func60, Try.ntmps60
    go_wp2_with (at_builtin; refine wpList_append_run rfl (.tmp 20) (.tmp 21) 23 3 rfl (.slice none 0 0) (.int .i64 (n : Int)) rfl rfl (.slice (some ⟨w.heap.size, 0, none⟩) n c) w1 HR.out ?_)
    go_ret
    exact ⟨_, rfl, HX.out.1, HX.out.2⟩

set_option maxHeartbeats 2000000 in
set_option maxRecDepth 20000 in
theorem concatS {AV : Avd} (b : Nat) (xs : List Sx) (cap : Nat) (w : World) (hx : Rxs w 1 b xs) (hn : xs.length ≤ 1000) (ht : totN xs ≤ 100000000) :
    Calls Try.prog 50 #[.slice (some ⟨b, 0, none⟩) xs.length cap] w fun e w' => ∃ v, e = .returned v ∧ w'.ownsRow w.heap.size 9 1 v (totN xs) (catX xs) ∧ Below w.heap.size w w' := by
  obtain ⟨i0, hi, hz0, hz1, hz2⟩ := info_parts info9
  have hgr := growS (totN xs) w (by omega)
  have HG := (show Hid _ from hgr)
  have HX : Hid (Rxs w 1 b xs) := hx
  clear hgr hx
  go_enter Try.func50, Try.ntmps50
  go_wp2
  go_loop [3, 11] (fun n i => ∃ k : Nat, k ≤ xs.length ∧ i = .int .i64 k ∧ n = .int .i64 (totN (xs.take k) : Int)) (fun _ i => xs.length - (intOf i).toNat)
  case atStart => exact ⟨0, Nat.zero_le _, rfl, rfl⟩
  case round =>
    obtain ⟨k, hk, rfl, rfl⟩ := hrel
    have hle := totN_le xs k
    by_cases hlt : k < xs.length
    · have hc := (HX.out.2 k hlt).1
      have hs := totN_take hlt
      have hle2 := totN_le xs (k + 1)
      rw [hs] at hle2
      obtain ⟨s, hse⟩ : ∃ s, s = xs[k] := ⟨_, rfl⟩
      rw [← hse, Sx.v] at hc
      rw [← hse] at hs hle2
      have hki : (k : Int) < (xs.length : Int) := by omega
      have HS : Hid (totN (xs.take (k + 1)) = totN (xs.take k) + s.n) := hs
      obtain ⟨n0, hn0⟩ : ∃ n0, n0 = totN (xs.take k) := ⟨_, rfl⟩
      rw [← hn0] at hle hle2 ⊢
      have HN0 : Hid (n0 = totN (xs.take k)) := hn0
      have hneg : ¬ ((n0 : Int) + (s.n : Int) < 0) := by omega
      clear hs hse hn0
      go_wp2
      go_round
      case rel => exact ⟨k + 1, by omega, by go_num, by rw [HS.out, ← HN0.out]; go_num⟩
      case measure => simp [intOf]; omega
    · obtain rfl : k = xs.length := by omega
      rw [List.take_length]
      clear hle hlt hk
      go_wp2_with fail
      refine Calls.mono HG.out ?_
      rintro e w1 ⟨v1, rfl, ho1, hb1⟩
      have HO1 : Hid (w1.ownsRow w.heap.size 9 1 v1 0 [] ∧ Below w.heap.size w w1) := ⟨ho1, hb1⟩
      clear ho1 hb1
      go_wp2
      go_loopw [6, 27] (fun v i wr => ∃ k : Nat, k ≤ xs.length ∧ i = .int .i64 k ∧ wr.ownsRow w.heap.size 9 1 v (totN (xs.take k)) (catX (xs.take k)) ∧ Below w.heap.size w wr) (fun _ i _ => xs.length - (intOf i).toNat)
      case atStart => exact ⟨0, Nat.zero_le _, rfl, HO1.out.1, HO1.out.2⟩
      case round =>
        obtain ⟨k, hk, rfl, hown, hnx⟩ := hrel
        clear HO1
        have hle := totN_le xs k
        by_cases hlt : k < xs.length
        · obtain ⟨hc, hsl⟩ := HX.out.2 k hlt
          have hs := totN_take hlt
          have hs2 := catX_take hlt
          have hle2 := totN_le xs (k + 1)
          rw [hs] at hle2
          have hcr := (hnx.cell (p := ⟨b, k, none⟩) HX.out.1).trans hc
          obtain ⟨s, hse⟩ : ∃ s, s = xs[k] := ⟨_, rfl⟩
          rw [← hse, Sx.v] at hcr
          rw [← hse] at hs hs2 hle2 hsl
          have hbr : Sl wr 1 s.a s.n s.c s.l := hsl.below hnx
          have hki : (k : Int) < (xs.length : Int) := by omega
          have HS : Hid (totN (xs.take (k + 1)) = totN (xs.take k) + s.n ∧ catX (xs.take (k + 1)) = catX (xs.take k) ++ s.l) := ⟨hs, hs2⟩
          have hsz := hnx.size
          have HOB : Hid (∀ j, u6.ownBlock = some j → w.heap.size ≤ j) := fun j hj => (owns_lt hown j hj).1
          have hnb : totN (xs.take k) + s.n ≤ 1000000000 := by omega
          clear hs hs2 hse hc hsl
          go_wp2_with (at_builtin; refine wpList_append_sl rfl (.tmp 31) (.tmp 32) 23 rfl w.heap.size 9 i0 (.string ⟨#[]⟩) 1 16 Try.underlying23 hi hz0 hz1 hz2 rfl (by decide) (by decide) _ (totN (xs.take k)) (catX (xs.take k)) rfl hown s.a s.n s.c s.l rfl hbr hnb hsz ?_; intro v2 w2 ho2 hg2)
          go_roundw
          case rel => exact ⟨k + 1, by omega, by go_num, by rw [HS.out.1, HS.out.2]; exact ho2, hnx.grown hg2 hsz HOB.out⟩
          case measure => simp [intOf]; omega
        · obtain rfl : k = xs.length := by omega
          rw [List.take_length] at hown
          go_wp2
          go_ret
          exact ⟨_, rfl, hown, hnx⟩

set_option maxHeartbeats 2000000 in
set_option maxRecDepth 20000 in
theorem cloneS {AV : Avd} (a : Option Addr) (n c : Nat) (vs : List Value) (w : World) (h : Sl w 1 a n c vs) (hn : n ≤ 100000000) :
    Calls Try.prog 62 #[.slice a n c] w fun e w' => ∃ v', e = .returned v' ∧ w'.ownsRow w.heap.size 9 1 v' n vs ∧ Below w.heap.size w w' := by
  obtain ⟨i0, hi, hz0, hz1, hz2⟩ := info_parts info9
  have q47 : ∀ (w : World) (a : Option Addr) (n c n' c' : Nat), (binOp .eql 23 (.slice a n c) (.slice none n' c')).run Try.prog w = .ok (.bool a.isNone) w := fun w a n c n' c' => Lib.run_eql_slice_nil w _ _ a n c n' c' Try.underlying23
  cases a with
  | none =>
    have h1 := h.nil rfl
    subst h1
    have h2 := h.cap
    obtain rfl : n = 0 := by omega
    have h3 := h.len
    simp only [Nat.zero_mul, List.length_eq_zero_iff] at h3
    subst h3
    clear h
    go_enter Try.func62, Try.ntmps62
    go_wp2
    go_ret
    exact ⟨_, rfl, World.ownsRow_nil _ _ _ _, Below.refl _ _⟩
  | some ad =>
    have hA : Sl (w.alloc (.cells #[] 9)) 1 (some ad) n c vs := h.below ((Below.refl _ w).alloc (Nat.le_refl _) _)
    have HA := (show Hid _ from hA)
    have hmade : (w.alloc (.cells #[] 9)).ownsRow w.heap.size 9 1 (.slice (some ⟨w.heap.size, 0, none⟩) 0 0) 0 [] := World.ownsRow_made w #[] 0 (Nat.le_refl _) (Nat.zero_le _) rfl
    have HM := (show Hid _ from hmade)
    have hnb : 0 + n ≤ 1000000000 := by omega
    clear h hA hmade
    go_enter Try.func62, Try.ntmps62
    go_wp2_with (at_builtin; refine wpList_append_sl rfl (.tmp 5) (.tmp 6) 23 rfl w.heap.size 9 i0 (.string ⟨#[]⟩) 1 16 Try.underlying23 hi hz0 hz1 hz2 rfl (by decide) (by decide) _ 0 [] rfl HM.out (some ad) n c vs rfl HA.out hnb (by simp) ?_; intro v2 w2 ho2 hg2)
    go_ret
    refine ⟨v2, rfl, by simpa using ho2, ?_⟩
    exact ((Below.refl _ w).alloc (Nat.le_refl _) _).grown hg2 (by simp) (by intro k hk; cases hk; exact Nat.le_refl _)
end Go.Proofs.Ytpophalhmjchkaa

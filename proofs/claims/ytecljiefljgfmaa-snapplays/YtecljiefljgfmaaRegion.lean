/-
  Whether both slots are a device's: the code's within and the document's region.
-/
import Derived.Test.YtecljiefljgfmaaSave
import Derived.Test.YtecljiefljgfmaaSame
namespace Go.Proofs.Ytecljiefljgfmaa
open Go.RowKit

def regB (L : Nat) (p n : Int) : Bool := decide (1 ≤ n ∧ 0 ≤ p ∧ p ≤ (L : Int) - 2 * n)
def witB (L : Nat) (p n : Int) : Bool := decide (0 ≤ n ∧ 0 ≤ p ∧ p ≤ (L : Int) - n)

theorem within_any (d : Nat) (p n : Int) (w : World) (F : Nat → Prop) (M : D) (h : Dev w F d M) (hn : n ≤ 9223372036854775807) :
    Calls Try.prog 41 #[.pointer (some ⟨d, 0, none⟩), .int .i64 p, .int .i64 n] w fun e w' => e = .returned (.bool (witB M.L.length p n)) ∧ w = w' := by
  have hsz := size_any d w F M h
  have htop := h.1.top
  obtain ⟨k, hk⟩ : ∃ k, k = M.L.length := ⟨_, rfl⟩
  rw [← hk] at hsz htop ⊢
  clear h hk
  by_cases h1 : 0 ≤ n
  · by_cases h2 : 0 ≤ p
    · have HE : Hid (witB k p n = decide (p ≤ (k : Int) - n)) := (show _ = _ from by simp [witB, h1, h2])
      rw [HE.out]
      clear HE
      go_enter Try.func41, Try.ntmps41
      go_wp2_with (go_at_call 73; refine Calls.mono hsz ?_; rintro e w1 ⟨rfl, rfl⟩)
      go_ret
      exact ⟨rfl, rfl⟩
    · have HE : Hid (witB k p n = false) := (show _ = _ from by simp [witB]; omega)
      rw [HE.out]
      go_enter Try.func41, Try.ntmps41
      go_wp2
      go_ret
      exact ⟨rfl, rfl⟩
  · have HE : Hid (witB k p n = false) := (show _ = _ from by simp [witB]; omega)
    rw [HE.out]
    go_enter Try.func41, Try.ntmps41
    go_wp2
    go_ret
    exact ⟨rfl, rfl⟩

theorem swithin_any (d : Nat) (p n : Int) (w : World) (F : Nat → Prop) (M : D) (h : Dev w F d M) (hn : n ≤ 9223372036854775807) :
    Calls Try.prog 60 #[.pointer (some ⟨d, 0, none⟩), .int .i64 p, .int .i64 n] w fun e w' => e = .returned (.bool (regB M.L.length p n)) ∧ w = w' := by
  have hw1 := within_any d p n w F M h hn
  have hw2 := within_any d (p + n) n w F M h hn
  have htop := h.1.top
  obtain ⟨k, hk⟩ : ∃ k, k = M.L.length := ⟨_, rfl⟩
  rw [← hk] at hw1 hw2 htop ⊢
  clear h hk
  by_cases h1 : 1 ≤ n
  · cases hb : witB k p n with
    | true =>
      have hb' := hb
      simp only [witB, decide_eq_true_eq] at hb'
      rw [hb] at hw1
      have HE : Hid (regB k p n = witB k (p + n) n) := (show _ = _ from by simp only [regB, witB, decide_eq_decide]; omega)
      rw [HE.out]
      obtain ⟨x, hx⟩ : ∃ x, x = witB k (p + n) n := ⟨_, rfl⟩
      rw [← hx] at hw2 ⊢
      have hpn : p + n ≤ 9223372036854775807 := by omega
      have hpn0 : 0 ≤ p + n := by omega
      clear hb hx HE
      go_enter Try.func60, Try.ntmps60
      go_wp2_with (first | (go_at_call 41; (with_reducible refine Calls.mono hw1 ?_); rintro e w1 ⟨rfl, rfl⟩) | (go_at_call 41; (with_reducible refine Calls.mono hw2 ?_); rintro e w1 ⟨rfl, rfl⟩))
      go_ret
      exact ⟨rfl, rfl⟩
    | false =>
      rw [hb] at hw1
      have HE : Hid (regB k p n = false) := (show _ = _ from by
        simp only [witB, decide_eq_false_iff_not] at hb
        simp only [regB, decide_eq_false_iff_not]
        omega)
      rw [HE.out]
      clear hb
      go_enter Try.func60, Try.ntmps60
      go_wp2_with (go_at_call 41; (with_reducible refine Calls.mono hw1 ?_); rintro e w1 ⟨rfl, rfl⟩)
      go_ret
      exact ⟨rfl, rfl⟩
  · have HE : Hid (regB k p n = false) := (show _ = _ from by simp only [regB, decide_eq_false_iff_not]; omega)
    rw [HE.out]
    go_enter Try.func60, Try.ntmps60
    go_wp2
    go_ret
    exact ⟨rfl, rfl⟩

theorem save_arg (d : Nat) (p n : Int) (ep : Nat) (v : Value) (w : World) (F : Nat → Prop) (M : D) (h : Dev w F d M) (hn : n ≤ 9223372036854775807) (hr : regB M.L.length p n = false) :
    Calls Try.prog 31 #[.pointer (some ⟨d, 0, none⟩), .int .i64 p, .int .i64 n, .int .u64 (ep : Int), v] w fun e w' => e = .returned (.int .i64 1) ∧ w = w' := by
  have hw := swithin_any d p n w F M h hn
  rw [hr] at hw
  go_enter Try.func31, Try.ntmps31
  go_wp2_with (go_at_call 60; refine Calls.mono hw ?_; rintro e w1 ⟨rfl, rfl⟩)
  go_ret
  exact ⟨rfl, rfl⟩

theorem region_any {w wr : World} {d r : Nat} {K : Nat → Prop} {M : D} {N : R} (h : Pair w wr d r K M N) (p n : Int) (hn : n ≤ 9223372036854775807) (hp : p ≤ 9223372036854775807) (hp0 : -9223372036854775808 ≤ p) (hL : N.L.length ≤ 4096) :
    Calls Try.prog 63 #[.pointer (some ⟨r, 0, none⟩), .int .i64 p, .int .i64 n] wr fun e w' => e = .returned (.bool (regB N.L.length p n)) ∧ Below wr.heap.size wr w' := by
  obtain ⟨ca, cc, hc0⟩ := p_cell0 h
  obtain ⟨k, hk⟩ : ∃ k, k = N.L.length := ⟨_, rfl⟩
  rw [← hk] at hc0 hL ⊢
  clear h hk
  go_enter Try.func63, Try.ntmps63
  go_wp2
  all_goals
    (go_ret
     refine ⟨?_, Below.refl _ _⟩
     first
       | (rw [show regB k p n = false from by simp only [regB, decide_eq_false_iff_not]; omega]; rfl)
       | (rw [show regB k p n = decide (p ≤ (k : Int) - 2 * n) from by simp only [regB, decide_eq_decide]; omega]; rfl))
end Go.Proofs.Ytecljiefljgfmaa

/-
  The walk of the statement WhenSteps out of the contracts of what it calls.
-/
import Derived.Test.YtbemlmhchpinhaaDoorAwake
namespace Go.Proofs.YtbemlmhchpinhaaDoor
open Go.RowKit

/-- What Civil tells of the next second, by what it tells of this one. -/
theorem step_cases (t : Int) (h0 : 0 ≤ t) (h1 : t < 253402300799) : ∃ y m d h i s a b c e f g : Int,
    (∀ wx, Calls Tryd.prog 9 #[.int .i64 t] wx fun e' w' => e' = .returned (.tuple #[.int .i64 y, .int .i64 m, .int .i64 d, .int .i64 h, .int .i64 i, .int .i64 s, .bool true]) ∧ wx = w') ∧
    (∀ wx, Calls Tryd.prog 9 #[.int .i64 (t + 1)] wx fun e' w' => e' = .returned (.tuple #[.int .i64 a, .int .i64 b, .int .i64 c, .int .i64 e, .int .i64 f, .int .i64 g, .bool true]) ∧ wx = w') ∧
    (1970 ≤ y ∧ y ≤ 9999 ∧ 1 ≤ m ∧ m ≤ 12 ∧ 1 ≤ d ∧ d ≤ 31 ∧ 0 ≤ h ∧ h ≤ 23 ∧ 0 ≤ i ∧ i ≤ 59 ∧ 0 ≤ s ∧ s ≤ 59) ∧
    ((s < 59 ∧ a = y ∧ b = m ∧ c = d ∧ e = h ∧ f = i ∧ g = s + 1) ∨
     (s = 59 ∧ i < 59 ∧ a = y ∧ b = m ∧ c = d ∧ e = h ∧ f = i + 1 ∧ g = 0) ∨
     (s = 59 ∧ i = 59 ∧ h < 23 ∧ a = y ∧ b = m ∧ c = d ∧ e = h + 1 ∧ f = 0 ∧ g = 0) ∨
     (s = 59 ∧ i = 59 ∧ h = 23 ∧ e = 0 ∧ f = 0 ∧ g = 0 ∧ ((a = y ∧ b = m ∧ c = d + 1) ∨ (a = y ∧ b = m + 1 ∧ c = 1 ∧ 28 ≤ d) ∨ (a = y + 1 ∧ b = 1 ∧ c = 1 ∧ m = 12 ∧ 28 ≤ d)))) := by
  have ht : timeB t = true := by simp [timeB]; omega
  have ht1 : timeB (t + 1) = true := by simp [timeB]; omega
  obtain ⟨y, m, d, h, i, s, ⟨ey, em, ed, eh, ei, es⟩, bd, cc⟩ := civil_ex t ht
  obtain ⟨a, b, c, e, f, g, ⟨ea, eb, ec, ee, ef, eg⟩, bd1, cc1⟩ := civil_ex (t + 1) ht1
  refine ⟨y, m, d, h, i, s, a, b, c, e, f, g, cc, cc1, bd, ?_⟩
  clear cc cc1 ht ht1 bd1
  by_cases hd : (t + 1) % 86400 = 0
  · have hdiv : (t + 1) / 86400 = t / 86400 + 1 := by omega
    have hn := next_day (isDay_O (n := t / 86400) (by omega))
    rw [← hdiv] at hn
    rw [ey, em, ed] at hn
    unfold hO at eh ee
    unfold iO at ei ef
    unfold sO at es eg
    refine .inr (.inr (.inr ⟨by omega, by omega, by omega, by omega, by omega, by omega, ?_⟩))
    obtain ⟨b1, b2, b3, b4, b5, b6, _⟩ := bd
    have h28 := mlen_28 y b3 b4
    rcases hn with ⟨_, hx⟩ | ⟨hm, hm2, hx⟩ | ⟨hm, hm2, hx⟩
    · have o := O_of hx
      exact .inl ⟨by omega, by omega, by omega⟩
    · have o := O_of hx
      exact .inr (.inl ⟨by omega, by omega, by omega, by omega⟩)
    · have o := O_of hx
      exact .inr (.inr ⟨by omega, by omega, by omega, by omega, by omega⟩)
  · have hdiv : (t + 1) / 86400 = t / 86400 := by omega
    rw [hdiv] at ea eb ec
    have e1 : a = y := by omega
    have e2 : b = m := by omega
    have e3 : c = d := by omega
    clear ey em ed ea eb ec
    unfold hO at eh ee
    unfold iO at ei ef
    unfold sO at es eg
    by_cases c1 : s < 59
    · exact .inl ⟨c1, e1, e2, e3, by omega, by omega, by omega⟩
    · by_cases c2 : i < 59
      · exact .inr (.inl ⟨by omega, c2, e1, e2, e3, by omega, by omega, by omega⟩)
      · exact .inr (.inr (.inl ⟨by omega, by omega, by omega, e1, e2, e3, by omega, by omega, by omega⟩))

set_option maxHeartbeats 2000000 in
set_option maxRecDepth 20000 in
theorem whenSteps_walk (t : Int) (w : World) (h0 : -9223372036854775808 ≤ t) (h1 : t ≤ 9223372036854775807) (hTab : Tab w) :
    Calls Tryd.prog 3 #[.int .i64 t] w fun e w' => e = .returned (.bool true) ∧ Below w.heap.size w w' := by
  by_cases a0 : t < 0
  · go_enter Tryd.func3, Tryd.ntmps3
    go_wp2_with fail
    refine (awake_any _ hTab).mono ?_
    rintro e w1 ⟨rfl, hb⟩
    go_wp2
    go_ret
    exact ⟨rfl, hb⟩
  by_cases a1 : 253402300799 ≤ t
  · go_enter Tryd.func3, Tryd.ntmps3
    go_wp2_with fail
    refine (awake_any _ hTab).mono ?_
    rintro e w1 ⟨rfl, hb⟩
    go_wp2
    go_ret
    exact ⟨rfl, hb⟩
  obtain ⟨y, m, d, h, i, s, a, b, c, e, f, g, cc, cc1, ⟨b1, b2, b3, b4, b5, b6, b7, b8, b9, b10, b11, b12⟩, hcase⟩ := step_cases t (by omega) (by omega)
  have CC := (show Hid _ from cc)
  have CC1 := (show Hid _ from cc1)
  clear cc cc1
  rcases hcase with ⟨c1, rfl, rfl, rfl, rfl, rfl, rfl⟩ | ⟨rfl, c1, rfl, rfl, rfl, rfl, rfl, rfl⟩ | ⟨rfl, rfl, c1, rfl, rfl, rfl, rfl, rfl, rfl⟩ | ⟨rfl, rfl, rfl, rfl, rfl, rfl, ⟨rfl, rfl, rfl⟩ | ⟨rfl, rfl, rfl, c2⟩ | ⟨rfl, rfl, rfl, rfl, c2⟩⟩
  all_goals
    try (have hq : ((1 : Int) == d + 1) = false := by rw [beq_eq_false_iff_ne]; omega)
    go_enter Tryd.func3, Tryd.ntmps3
    go_wp2_with fail
    refine (CC.out _).mono ?_
    rintro e w' ⟨rfl, rfl⟩
    go_wp2_with fail
    refine (CC1.out _).mono ?_
    rintro e w' ⟨rfl, rfl⟩
    go_wp2_with fail
    refine (awake_any _ hTab).mono ?_
    rintro e w1 ⟨rfl, hb⟩
    go_wp2
    go_ret
    exact ⟨rfl, hb⟩
end Go.Proofs.YtbemlmhchpinhaaDoor

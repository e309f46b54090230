/-
  The document's Civil by its contract.
-/
import Derived.Test.YtbemlmhchpinhaaDoorCivil
import Derived.Laws.ResultCell
namespace Go.Proofs.YtbemlmhchpinhaaDoor
open Go.RowKit

/-- A date as a value. -/
def dateV (y m d h i s : Int) : Value := .agg #[.int .i64 y, .int .i64 m, .int .i64 d, .int .i64 h, .int .i64 i, .int .i64 s]
/-- A date in memory. -/
abbrev dateC (y m d h i s : Int) : Obj := .cells #[.int .i64 y, .int .i64 m, .int .i64 d, .int .i64 h, .int .i64 i, .int .i64 s] 27

set_option maxHeartbeats 1000000 in
theorem refCivil_no (t : Int) (w : World) (h : timeB t = false) :
    Calls Tryd.prog 10 #[.int .i64 t] w fun e w' => e = .returned (.tuple #[dateV 0 0 0 0 0 0, .bool false]) ∧ Below w.heap.size w w' := by
  have hc : decide (t < 0) = true ∨ (decide (t < 0) = false ∧ decide (t > 253402300799) = true) := by
    simp only [timeB, decide_eq_false_iff_not] at h
    simp only [decide_eq_true_eq, decide_eq_false_iff_not]
    omega
  clear h
  rcases hc with h1 | ⟨h1, h2⟩
  all_goals
    go_enter Tryd.func10, Tryd.ntmps10
    go_wp2
    refine bodyPost_ret (v := .tuple #[dateV 0 0 0 0 0 0, .bool false]) ?_ rfl ⟨rfl, ?_⟩
    · rw [results_cell_tmp rfl]; go_simp; rfl
    · repeat' (first | exact Below.refl _ _ | refine Below.drew ?_ | refine Below.alloc ?_ (by simp <;> omega) _)

set_option maxHeartbeats 2000000 in
theorem refCivil_yes (t : Int) (w : World) (h : timeB t = true) :
    Calls Tryd.prog 10 #[.int .i64 t] w fun e w' => e = .returned (.tuple #[dateV (yO (t / 86400)) (mO (t / 86400)) (dO (t / 86400)) (hO t) (iO t) (sO t), .bool true]) ∧ Below w.heap.size w w' := by
  have ht : 0 ≤ t ∧ t ≤ 253402300799 := by simpa [timeB] using h
  obtain ⟨ht0, ht1⟩ := ht
  have h1 : decide (t < 0) = false := by simp; omega
  have h2 : decide (t > 253402300799) = false := by simp; omega
  have HH : Hid (t / 3600 % 24 = hO t ∧ t / 60 % 60 = iO t ∧ t % 60 = sO t) := by show _ ∧ _; unfold hO iO sO; omega
  have hd : Hid (∀ y m d, IsDay (t / 86400) y m d → yO (t / 86400) = y ∧ mO (t / 86400) = m ∧ dO (t / 86400) = d) := fun y m d => O_of
  clear h
  go_enter Tryd.func10, Tryd.ntmps10
  go_wp2
  rw [HH.out.1, HH.out.2.1, HH.out.2.2]
  clear HH
  go_loopw [5] (fun a w' => ∃ x y : Int, 1970 ≤ y ∧ 0 ≤ x ∧ t / 86400 = ahead y + x ∧ a = .int .i64 x ∧ w' = (w.alloc (dateC 0 0 0 0 0 0)).alloc (dateC y 1 0 (hO t) (iO t) (sO t))) (fun a _ => (intOf a).toNat)
  case atStart => exact ⟨t / 86400, 1970, by omega, by omega, by rw [ahead_1970]; omega, by go_num, rfl⟩
  case round =>
    obtain ⟨x, y, hy, hx, hn, rfl, rfl⟩ := hrel
    have HN : Hid (t / 86400 = ahead y + x) := hn
    have hlow := ahead_low hy
    have hyb : y ≤ 20000 := by omega
    have hxb : x ≤ 10000000 := by omega
    have hl := lday_01 y
    have hyl : 365 ≤ ylen y ∧ ylen y ≤ 366 := by unfold ylen; omega
    clear hn hlow hl
    by_cases hge : ylen y ≤ x
    · go_wp2_with fail
      refine (year_any y _ (by omega) (by omega)).mono ?_
      rintro e w' ⟨rfl, rfl⟩
      go_wp2_with fail
      refine (year_any y _ (by omega) (by omega)).mono ?_
      rintro e w' ⟨rfl, rfl⟩
      go_wp2
      go_roundw
      case rel => exact ⟨x - ylen y, y + 1, by omega, by omega, by rw [ahead_succ]; have := HN.out; omega, by go_num, rfl⟩
      case measure => simp [intOf]; omega
    · go_wp2_with fail
      refine (year_any y _ (by omega) (by omega)).mono ?_
      rintro e w' ⟨rfl, rfl⟩
      go_wp2_with fail
      have HY : Hid (x < cum y 13) := by show _ < _; rw [cum_13]; omega
      clear hge
      go_loopw [5] (fun a w' => ∃ z m : Int, 1 ≤ m ∧ m ≤ 12 ∧ 0 ≤ z ∧ z ≤ 10000000 ∧ x = cum y m + z ∧ a = .int .i64 z ∧ w' = (w.alloc (dateC 0 0 0 0 0 0)).alloc (dateC y m 0 (hO t) (iO t) (sO t))) (fun a _ => (intOf a).toNat)
      case atStart => exact ⟨x, 1, by omega, by omega, by omega, by omega, by rw [cum_1]; omega, by go_num, rfl⟩
      case round =>
        obtain ⟨z, m, hm1, hm2, hz0, hz1, hxz, rfl, rfl⟩ := hrel
        have HX : Hid (x = cum y m + z) := hxz
        have hml := mlen_bd y m
        have hm28 := mlen_28 y hm1 hm2
        clear hxz
        by_cases hge : mlen y m ≤ z
        · have HS : Hid (m + 1 ≤ 12 ∧ x = cum y (m + 1) + (z - mlen y m)) := by
            show _ ∧ _
            have hn := HX.out
            have hy := HY.out
            have hcs := cum_succ y hm1 hm2
            refine ⟨?_, by omega⟩
            by_cases e : m = 12
            · subst e
              have e13 : cum y (12 + 1) = cum y 13 := rfl
              omega
            · omega
          go_wp2_with fail
          refine (size_any y m _ (by omega) (by omega) hm1 hm2).mono ?_
          rintro e w' ⟨rfl, rfl⟩
          go_wp2_with fail
          refine (size_any y m _ (by omega) (by omega) hm1 hm2).mono ?_
          rintro e w' ⟨rfl, rfl⟩
          go_wp2
          go_roundw
          case rel => exact ⟨z - mlen y m, m + 1, by omega, HS.out.1, by omega, by omega, HS.out.2, by go_num, rfl⟩
          case measure => simp [intOf]; omega
        · have HS : Hid (yO (t / 86400) = y ∧ mO (t / 86400) = m ∧ dO (t / 86400) = z + 1) := hd.out y m (z + 1) ⟨hy, hm1, hm2, by omega, by omega, by have := HN.out; have := HX.out; omega⟩
          clear hd HN HX
          go_wp2_with fail
          refine (size_any y m _ (by omega) (by omega) hm1 hm2).mono ?_
          rintro e w' ⟨rfl, rfl⟩
          go_wp2
          rw [HS.out.1, HS.out.2.1, HS.out.2.2]
          refine bodyPost_ret (v := .tuple #[dateV y m (z + 1) (hO t) (iO t) (sO t), .bool true]) ?_ rfl ⟨rfl, ?_⟩
          · rw [results_cell_tmp rfl]; go_simp; rfl
          · repeat' (first | exact Below.refl _ _ | refine Below.drew ?_ | refine Below.alloc ?_ (by simp <;> omega) _)
end Go.Proofs.YtbemlmhchpinhaaDoor

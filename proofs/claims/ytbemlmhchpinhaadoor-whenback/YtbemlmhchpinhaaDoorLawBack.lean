/-
  The walk of the statement WhenBack out of the contracts of what it calls.
-/
import Derived.Test.YtbemlmhchpinhaaDoorAwake
import Derived.Test.YtbemlmhchpinhaaDoorBackMath
import Derived.Test.YtbemlmhchpinhaaDoorClass
namespace Go.Proofs.YtbemlmhchpinhaaDoor
open Go.RowKit

/-- A text of a time, with no form. -/
theorem tell_ex {f : FuncId} {t : Int} {l : List UInt8} (hf : ∀ wx, Tab wx → Calls Tryd.prog f #[.int .i64 t] wx fun e w' => e = .returned (.string ⟨l.toArray⟩) ∧ Below wx.heap.size wx w') : ∃ X : ByteArray, X.data.toList = l ∧
    (∀ wx, Tab wx → Calls Tryd.prog f #[.int .i64 t] wx fun e w' => e = .returned (.string X) ∧ Below wx.heap.size wx w') := ⟨_, by simp, hf⟩

set_option maxHeartbeats 1000000 in
set_option maxRecDepth 20000 in
theorem back_early (t u : Int) (w : World) (h : timeB t = false ∨ (timeB t = true ∧ timeB u = false)) (hTab : Tab w) :
    Calls Tryd.prog 7 #[.int .i64 t, .int .i64 u] w fun e w' => e = .returned (.bool true) ∧ Below w.heap.size w w' := by
  obtain ⟨X, eX, cX⟩ := tell_ex (t := t) (fun wx hx => basic_any t wx hx)
  have CX := (show Hid _ from cX)
  clear cX
  rcases h with h | ⟨h, g⟩
  · have hq : (X.toList == []) = true := by rw [ByteArray.toList_eq, eX]; unfold basicL; rw [h]; rfl
    have hq2 : X.toList.isEmpty = true := by rw [ByteArray.toList_eq, eX]; unfold basicL; rw [h]; rfl
    have hc : t < 0 ∨ 253402300799 < t := by simp only [timeB, decide_eq_false_iff_not] at h; omega
    clear h eX
    rcases hc with hc | hc
    all_goals
      go_enter Tryd.func7, Tryd.ntmps7
      go_wp2_with fail
      refine (CX.out _ hTab).mono ?_
      rintro e w1 ⟨rfl, hb1⟩
      have T1 := hTab.below hb1
      go_wp2_with fail
      refine (awake_any _ T1).mono ?_
      rintro e w2 ⟨rfl, hb2⟩
      have K2 := step_below hb1 hb2 (Nat.le_refl _)
      go_wp2
      go_ret
      exact ⟨rfl, K2⟩
  · have hq : (X.toList == []) = false := by rw [ByteArray.toList_eq, eX]; unfold basicL; rw [h]; rfl
    have hq2 : X.toList.isEmpty = false := by rw [ByteArray.toList_eq, eX]; unfold basicL; rw [h]; rfl
    have ht : 0 ≤ t ∧ t ≤ 253402300799 := by simpa [timeB] using h
    have hc : u < 0 ∨ 253402300799 < u := by simp only [timeB, decide_eq_false_iff_not] at g; omega
    obtain ⟨ht0, ht1⟩ := ht
    clear h g eX
    rcases hc with hc | hc
    all_goals
      go_enter Tryd.func7, Tryd.ntmps7
      go_wp2_with fail
      refine (CX.out _ hTab).mono ?_
      rintro e w1 ⟨rfl, hb1⟩
      have T1 := hTab.below hb1
      go_wp2_with fail
      refine (awake_any _ T1).mono ?_
      rintro e w2 ⟨rfl, hb2⟩
      have K2 := step_below hb1 hb2 (Nat.le_refl _)
      go_wp2
      go_ret
      exact ⟨rfl, K2⟩

set_option maxHeartbeats 2000000 in
set_option maxRecDepth 20000 in
theorem back_times (t u : Int) (w : World) (ht : timeB t = true) (hu : timeB u = true) (hTab : Tab w) :
    Calls Tryd.prog 7 #[.int .i64 t, .int .i64 u] w fun e w' => e = .returned (.bool true) ∧ Below w.heap.size w w' := by
  obtain ⟨B, eB, cB⟩ := tell_ex (t := t) (fun wx hx => basic_any t wx hx)
  obtain ⟨B', eB', cB'⟩ := tell_ex (t := u) (fun wx hx => basic_any u wx hx)
  obtain ⟨I, eI, cI⟩ := tell_ex (t := t) (fun wx hx => iso_any t wx hx)
  obtain ⟨I', eI', cI'⟩ := tell_ex (t := u) (fun wx hx => iso_any u wx hx)
  obtain ⟨H, eH, cH⟩ := tell_ex (t := t) (fun wx hx => http_any t wx hx)
  obtain ⟨H', eH', cH'⟩ := tell_ex (t := t + 604800) (fun wx hx => http_any (t + 604800) wx hx)
  obtain ⟨D, eD, cD⟩ := tell_ex (t := t) (fun wx hx => day_any t wx hx)
  obtain ⟨y, m, d, h, i, s, eq, _, cc⟩ := civil_ex t ht
  have ob := of_back ht
  rw [eq.1, eq.2.1, eq.2.2.1, eq.2.2.2.1, eq.2.2.2.2.1, eq.2.2.2.2.2] at ob
  have CB := (show Hid _ from cB)
  have CB' := (show Hid _ from cB')
  have CI := (show Hid _ from cI)
  have CI' := (show Hid _ from cI')
  have CH := (show Hid _ from cH)
  have CH' := (show Hid _ from cH')
  have CD := (show Hid _ from cD)
  have CC := (show Hid _ from cc)
  have CO : Hid (∀ wx, Calls Tryd.prog 11 #[.int .i64 y, .int .i64 m, .int .i64 d, .int .i64 h, .int .i64 i, .int .i64 s] wx fun e w' => e = .returned (.tuple #[.int .i64 t, .bool true]) ∧ wx = w') := by
    intro wx
    have := of_any y m d h i s wx
    rw [ob.1, ob.2] at this
    exact this
  have PB : Hid (∀ wx, Tab wx → Calls Tryd.prog 21 #[.string B] wx fun e w' => e = .returned (.tuple #[.int .i64 t, .bool true]) ∧ Below wx.heap.size wx w') := by
    intro wx hx
    have := parseBasic_any B wx hx
    rw [eB, (back_basic ht).1, (back_basic ht).2] at this
    exact this
  have PH : Hid (∀ wx, Tab wx → Calls Tryd.prog 23 #[.string H] wx fun e w' => e = .returned (.tuple #[.int .i64 t, .bool true]) ∧ Below wx.heap.size wx w') := by
    intro wx hx
    have := parseHttp_any H wx hx
    rw [eH, (back_http ht).1, (back_http ht).2] at this
    exact this
  have PD : Hid (∀ wx, Calls Tryd.prog 25 #[.string D] wx fun e w' => e = .returned (.tuple #[.int .i64 (t / 86400 * 86400), .bool true]) ∧ Below wx.heap.size wx w') := by
    intro wx
    have := parseDay_any D wx
    rw [eD, (back_day ht).1, (back_day ht).2] at this
    exact this
  have q1 : Op.bytesLess B.toList B'.toList = decide (t < u) := by rw [ByteArray.toList_eq, ByteArray.toList_eq, eB, eB']; exact less_basic ht hu
  have q2 : Op.bytesLess I.toList I'.toList = decide (t < u) := by rw [ByteArray.toList_eq, ByteArray.toList_eq, eI, eI']; exact less_iso ht hu
  have htb : 0 ≤ t ∧ t ≤ 253402300799 := by simpa [timeB] using ht
  obtain ⟨t0, t1⟩ := htb
  have HT : Hid (Tab w) := hTab
  have hz : (3 : Int) ≤ (H.size : Int) := by
    rw [ba_len eH, httpL_yes ht, (sub_https (by omega) ⟨(parts_bd ht).1.2.2.1, (parts_bd ht).1.2.2.2.1⟩).2.2.2.2.2.1]; decide
  have hcase : 253402300799 < t + 604800 ∨ (t + 604800 ≤ 253402300799 ∧ (3 : Int) ≤ (H'.size : Int) ∧ ((H'.extract 0 3).toList == (H.extract 0 3).toList) = true) := by
    by_cases hw : t + 604800 ≤ 253402300799
    · have hu' : timeB (t + 604800) = true := by simp [timeB]; omega
      refine .inr ⟨hw, ?_, ?_⟩
      · rw [ba_len eH', httpL_yes hu', (sub_https (by omega) ⟨(parts_bd hu').1.2.2.1, (parts_bd hu').1.2.2.2.1⟩).2.2.2.2.2.1]; decide
      · rw [ByteArray.toList_eq, ByteArray.toList_eq, sub_data, sub_data, eH, eH', week_same ht hu']; simp
    · exact .inl (by omega)
  have hub : 0 ≤ u ∧ u ≤ 253402300799 := by simpa [timeB] using hu
  obtain ⟨u0, u1⟩ := hub
  clear ob eq cc cB cB' cI cI' cH cH' cD eB eB' eI eI' eH eH' eD ht hu
  have hbase := Below.refl w.heap.size w
  go_enter Tryd.func7, Tryd.ntmps7
  go_wp2_with fail
  refine (CB.out _ hTab).mono ?_
  rintro e w1 ⟨rfl, hb1⟩
  have T1 := hTab.below hb1
  clear hTab hbase
  go_wp2_with fail
  refine (PB.out _ T1).mono ?_
  rintro e w2 ⟨rfl, hb2⟩
  have T2 := T1.below hb2
  have K2 := step_below hb1 hb2 (Nat.le_refl _)
  clear hb1 hb2 T1
  go_wp2_with fail
  refine (CH.out _ T2).mono ?_
  rintro e w3 ⟨rfl, hb3⟩
  have T3 := T2.below hb3
  have K3 := step_below K2 hb3 (Nat.le_refl _)
  clear hb3 T2 K2
  go_wp2_with fail
  refine (PH.out _ T3).mono ?_
  rintro e w4 ⟨rfl, hb4⟩
  have T4 := T3.below hb4
  have K4 := step_below K3 hb4 (Nat.le_refl _)
  clear hb4 T3 K3
  go_wp2_with fail
  refine (CD.out _ T4).mono ?_
  rintro e w5 ⟨rfl, hb5⟩
  have T5 := T4.below hb5
  have K5 := step_below K4 hb5 (Nat.le_refl _)
  clear hb5 T4 K4
  go_wp2_with fail
  refine (PD.out _).mono ?_
  rintro e w6 ⟨rfl, hb6⟩
  have T6 := T5.below hb6
  have K6 := step_below K5 hb6 (Nat.le_refl _)
  clear hb6 T5 K5
  go_wp2_with fail
  refine (CC.out _).mono ?_
  rintro e w' ⟨rfl, rfl⟩
  go_wp2_with fail
  refine (CO.out _).mono ?_
  rintro e w' ⟨rfl, rfl⟩
  go_wp2_with fail
  refine (CB.out _ T6).mono ?_
  rintro e w7 ⟨rfl, hb7⟩
  have T7 := T6.below hb7
  have K7 := step_below K6 hb7 (Nat.le_refl _)
  clear hb7 T6 K6
  go_wp2_with fail
  refine (CB'.out _ T7).mono ?_
  rintro e w8 ⟨rfl, hb8⟩
  have T8 := T7.below hb8
  have K8 := step_below K7 hb8 (Nat.le_refl _)
  clear hb8 T7 K7
  go_wp2_with fail
  refine (CI.out _ T8).mono ?_
  rintro e w9 ⟨rfl, hb9⟩
  have T9 := T8.below hb9
  have K9 := step_below K8 hb9 (Nat.le_refl _)
  clear hb9 T8 K8
  go_wp2_with fail
  refine (CI'.out _ T9).mono ?_
  rintro e w10 ⟨rfl, hb10⟩
  have T10 := T9.below hb10
  have K10 := step_below K9 hb10 (Nat.le_refl _)
  clear hb10 T9 K9
  have AW : Hid (∀ wx, Tab wx → Calls Tryd.prog 8 #[] wx fun e w' => e = .returned (.bool true) ∧ Below wx.heap.size wx w') := fun wx hx => awake_any wx hx
  rcases hcase with hc | ⟨hc, hz', hq⟩
  · go_wp2_with fail
    refine wp_region_above w w.heap.size (by kernel_rfl) (by kernel_rfl) K10 ?_
    repeat (go_big_quiet_step ((go_at_call 8; with_reducible exact above_below (AW.out _ (Tab.below HT.out (Above.ok _))))))
    refine wpQuiet_nil ?_
    rintro w' ⟨⟨w11, hb11⟩, rfl⟩
    go_wp2
    go_ret
    exact ⟨rfl, hb11⟩
  · have hdf : decide (253402300799 < t + 604800) = false := by simp; omega
    go_wp2_with fail
    refine wp_region_above w w.heap.size (by kernel_rfl) (by kernel_rfl) K10 ?_
    repeat (go_big_quiet_step (first
      | (go_at_call 8; with_reducible exact above_below (AW.out _ (Tab.below HT.out (Above.ok _))))
      | (go_at_call 19; with_reducible exact above_below (CH.out _ (Tab.below HT.out (Above.ok _))))
      | (go_at_call 19; with_reducible exact above_below (CH'.out _ (Tab.below HT.out (Above.ok _))))))
    refine wpQuiet_nil ?_
    rintro w' ⟨⟨w11, hb11⟩, rfl⟩
    go_wp2
    go_ret
    exact ⟨rfl, hb11⟩

theorem whenBack_walk (t u : Int) (w : World) (_h0 : -9223372036854775808 ≤ t) (_h1 : t ≤ 9223372036854775807) (_h2 : -9223372036854775808 ≤ u) (_h3 : u ≤ 9223372036854775807) (hTab : Tab w) :
    Calls Tryd.prog 7 #[.int .i64 t, .int .i64 u] w fun e w' => e = .returned (.bool true) ∧ Below w.heap.size w w' := by
  by_cases ht : timeB t = true
  · by_cases hu : timeB u = true
    · exact back_times t u w ht hu hTab
    · exact back_early t u w (.inr ⟨ht, by simpa using hu⟩) hTab
  · exact back_early t u w (.inl (by simpa using ht)) hTab
end Go.Proofs.YtbemlmhchpinhaaDoor

/-
  The document's Day by its contract, and the walk of the statement WhenTexts out of the contracts of what it calls.
-/
import Derived.Test.YtbemlmhchpinhaaDoorAwake
import Derived.Test.YtbemlmhchpinhaaDoorRefTexts
namespace Go.Proofs.YtbemlmhchpinhaaDoor
open Go.RowKit

theorem refDay_any (t : Int) (w : World) :
    Calls Tryd.prog 16 #[.int .i64 t] w fun e w' => e = .returned (.string ⟨(dayL t).toArray⟩) ∧ Below w.heap.size w w' := by
  obtain ⟨X, eX, cX⟩ : ∃ X : ByteArray, X.data.toList = basicL t ∧ ∀ wx, Calls Tryd.prog 14 #[.int .i64 t] wx fun e w' => e = .returned (.string X) ∧ Below wx.heap.size wx w' :=
    ⟨⟨(basicL t).toArray⟩, by simp, fun wx => refBasic_any t wx⟩
  have CX := (show Hid _ from cX)
  clear cX
  by_cases ht : timeB t = true
  · have hz : X.size = 16 := by rw [ba_len eX]; unfold basicL; rw [if_pos ht]; rfl
    have hq : X.toList.isEmpty = false := by rw [ByteArray.toList_eq, eX]; unfold basicL; rw [if_pos ht]; rfl
    have hq2 : (X.toList == []) = false := by rw [ByteArray.toList_eq, eX]; unfold basicL; rw [if_pos ht]; rfl
    have HX : Hid (X.extract 0 8 = ⟨(dayL t).toArray⟩) := ba_of (by
      rw [sub_data, eX]
      unfold basicL dayL
      rw [if_pos ht, if_pos ht]
      rfl)
    have hz8 : (8 : Int) ≤ (X.size : Int) := by omega
    clear eX ht
    go_enter Tryd.func16, Tryd.ntmps16
    go_wp2_with fail
    refine (CX.out _).mono ?_
    rintro e w1 ⟨rfl, hb1⟩
    go_wp2
    go_ret
    exact ⟨ret_str HX.out, hb1⟩
  · have HX : Hid (dayL t = []) := by show _ = _; unfold dayL; rw [if_neg ht]
    have hq : X.toList.isEmpty = true := by rw [ByteArray.toList_eq, eX]; unfold basicL; rw [if_neg ht]; rfl
    have hq2 : (X.toList == []) = true := by rw [ByteArray.toList_eq, eX]; unfold basicL; rw [if_neg ht]; rfl
    clear eX ht
    go_enter Tryd.func16, Tryd.ntmps16
    go_wp2_with fail
    refine (CX.out _).mono ?_
    rintro e w1 ⟨rfl, hb1⟩
    go_wp2
    go_ret
    exact ⟨ret_str (by rw [HX.out]), hb1⟩

/-- A text with no form that two functions tell. -/
theorem told_both {f g : FuncId} {t : Int} {l : List UInt8} (hf : ∀ wx, Tab wx → Calls Tryd.prog f #[.int .i64 t] wx fun e w' => e = .returned (.string ⟨l.toArray⟩) ∧ Below wx.heap.size wx w')
    (hg : ∀ wx, Calls Tryd.prog g #[.int .i64 t] wx fun e w' => e = .returned (.string ⟨l.toArray⟩) ∧ Below wx.heap.size wx w') : ∃ X : ByteArray,
    (∀ wx, Tab wx → Calls Tryd.prog f #[.int .i64 t] wx fun e w' => e = .returned (.string X) ∧ Below wx.heap.size wx w') ∧
    (∀ wx, Calls Tryd.prog g #[.int .i64 t] wx fun e w' => e = .returned (.string X) ∧ Below wx.heap.size wx w') := ⟨_, hf, hg⟩

set_option maxHeartbeats 1000000 in
theorem whenTexts_walk (t : Int) (w : World) (hTab : Tab w) :
    Calls Tryd.prog 5 #[.int .i64 t] w fun e w' => e = .returned (.bool true) ∧ Below w.heap.size w w' := by
  obtain ⟨B, b1, b2⟩ := told_both (t := t) (fun wx hx => basic_any t wx hx) (fun wx => refBasic_any t wx)
  obtain ⟨D, d1, d2⟩ := told_both (t := t) (fun wx hx => day_any t wx hx) (fun wx => refDay_any t wx)
  obtain ⟨I, i1, i2⟩ := told_both (t := t) (fun wx hx => iso_any t wx hx) (fun wx => refIso_any t wx)
  obtain ⟨H, h1, h2⟩ := told_both (t := t) (fun wx hx => http_any t wx hx) (fun wx => refHttp_any t wx)
  have B1 := (show Hid _ from b1)
  have B2 := (show Hid _ from b2)
  have D1 := (show Hid _ from d1)
  have D2 := (show Hid _ from d2)
  have I1 := (show Hid _ from i1)
  have I2 := (show Hid _ from i2)
  have H1 := (show Hid _ from h1)
  have H2 := (show Hid _ from h2)
  clear b1 b2 d1 d2 i1 i2 h1 h2
  go_enter Tryd.func5, Tryd.ntmps5
  go_wp2_with fail
  refine (B1.out _ hTab).mono ?_
  rintro e w1 ⟨rfl, hb1⟩
  have T1 := hTab.below hb1
  go_wp2_with fail
  refine (B2.out _).mono ?_
  rintro e w2 ⟨rfl, hb2⟩
  have T2 := T1.below hb2
  have K2 := step_below hb1 hb2 (Nat.le_refl _)
  clear hb1 hb2 T1 hTab
  go_wp2_with fail
  refine (D1.out _ T2).mono ?_
  rintro e w3 ⟨rfl, hb3⟩
  have T3 := T2.below hb3
  have K3 := step_below K2 hb3 (Nat.le_refl _)
  clear hb3 T2 K2
  go_wp2_with fail
  refine (D2.out _).mono ?_
  rintro e w4 ⟨rfl, hb4⟩
  have T4 := T3.below hb4
  have K4 := step_below K3 hb4 (Nat.le_refl _)
  clear hb4 T3 K3
  go_wp2_with fail
  refine (I1.out _ T4).mono ?_
  rintro e w5 ⟨rfl, hb5⟩
  have T5 := T4.below hb5
  have K5 := step_below K4 hb5 (Nat.le_refl _)
  clear hb5 T4 K4
  go_wp2_with fail
  refine (I2.out _).mono ?_
  rintro e w6 ⟨rfl, hb6⟩
  have T6 := T5.below hb6
  have K6 := step_below K5 hb6 (Nat.le_refl _)
  clear hb6 T5 K5
  go_wp2_with fail
  refine (H1.out _ T6).mono ?_
  rintro e w7 ⟨rfl, hb7⟩
  have T7 := T6.below hb7
  have K7 := step_below K6 hb7 (Nat.le_refl _)
  clear hb7 T6 K6
  go_wp2_with fail
  refine (H2.out _).mono ?_
  rintro e w8 ⟨rfl, hb8⟩
  have T8 := T7.below hb8
  have K8 := step_below K7 hb8 (Nat.le_refl _)
  clear hb8 T7 K7
  go_wp2_with fail
  refine (awake_any _ T8).mono ?_
  rintro e w9 ⟨rfl, hb9⟩
  have K9 := step_below K8 hb9 (Nat.le_refl _)
  go_wp2
  go_ret
  exact ⟨rfl, K9⟩
end Go.Proofs.YtbemlmhchpinhaaDoor

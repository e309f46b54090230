/-
  Texts read back: the document's ParseBasic, ParseDay and ParseHttp by their contracts.
-/
import Derived.Test.YtbemlmhchpinhaaDoorParse
import Derived.Test.YtbemlmhchpinhaaDoorRefOf
import Derived.Test.YtbemlmhchpinhaaDoorRefTexts
import Derived.Test.YtbemlmhchpinhaaDoorClass
namespace Go.Proofs.YtbemlmhchpinhaaDoor
open Go.RowKit

theorem refNumber_at (s : ByteArray) (a b : Nat) (hab : b ≤ a + 4) : ∃ v : Int, numV (sub s.data.toList a b) = v ∧ 
    ∀ wx, Calls Tryd.prog 40 #[.string (s.extract a b)] wx fun e w' => e = .returned (.int .i64 v) ∧ w' = wx :=
  ⟨_, rfl, fun wx => (refNumber_any (s.extract a b) wx (by simp; omega)).mono fun _ _ h => ⟨by rw [h.1, sub_data], h.2.symm⟩⟩

set_option maxHeartbeats 1000000 in
theorem refParseBasic_any (s : ByteArray) (w : World) :
    Calls Tryd.prog 22 #[.string s] w fun e w' => e = .returned (.tuple #[.int .i64 (pbN s.data.toList), .bool (pbB s.data.toList)]) ∧ Below w.heap.size w w' := by
  have hL : s.data.toList.length = s.size := by simp
  by_cases hs : s.size = 16
  · obtain ⟨y, ey, cy⟩ := refNumber_at s 0 4 (by omega)
    obtain ⟨m, em, cm⟩ := refNumber_at s 4 6 (by omega)
    obtain ⟨d, ed, cd⟩ := refNumber_at s 6 8 (by omega)
    obtain ⟨h, eh, ch⟩ := refNumber_at s 9 11 (by omega)
    obtain ⟨i, ei, ci⟩ := refNumber_at s 11 13 (by omega)
    obtain ⟨x, ex, cx⟩ := refNumber_at s 13 15 (by omega)
    have CY := (show Hid _ from cy)
    have CM := (show Hid _ from cm)
    have CD := (show Hid _ from cd)
    have CH := (show Hid _ from ch)
    have CI := (show Hid _ from ci)
    have CX := (show Hid _ from cx)
    have E1 : bB s.data.toList = ofB y m d h i x ∧ bT s.data.toList = ofN y m d h i x := by unfold bB bT; rw [ey, em, ed, eh, ei, ex]; exact ⟨rfl, rfl⟩
    have E2 : pbB s.data.toList = (bB s.data.toList && (basicL (bT s.data.toList) == s.data.toList)) := by unfold pbB; rw [hL, hs]; rfl
    rw [E1.1, E1.2] at E2
    obtain ⟨n, k, hn, hk, co⟩ : ∃ (n : Int) (k : Bool), ofN y m d h i x = n ∧ ofB y m d h i x = k ∧ ∀ wx, Calls Tryd.prog 12 #[.agg #[.int .i64 y, .int .i64 m, .int .i64 d, .int .i64 h, .int .i64 i, .int .i64 x]] wx fun e w' => e = .returned (.tuple #[.int .i64 n, .bool k]) ∧ Below wx.heap.size wx w' :=
      ⟨_, _, rfl, rfl, fun wx => refOf_any y m d h i x wx⟩
    rw [hn, hk] at E2
    have E3 : bT s.data.toList = n := by rw [E1.2, hn]
    have CO := (show Hid _ from co)
    obtain ⟨B, eB, cB⟩ : ∃ X : ByteArray, X.data.toList = basicL n ∧ ∀ wx, Calls Tryd.prog 14 #[.int .i64 n] wx fun e w' => e = .returned (.string X) ∧ Below wx.heap.size wx w' :=
      ⟨⟨(basicL n).toArray⟩, by simp, fun wx => refBasic_any n wx⟩
    have CB := (show Hid _ from cB)
    have hz : ((s.size : Int) == 16) = true := by rw [hs]; rfl
    have h16 : (16 : Int) ≤ (s.size : Int) := by omega
    have e0 : B.toList = basicL n := by rw [ByteArray.toList_eq, eB]
    have es : s.toList = s.data.toList := ByteArray.toList_eq s
    have hcase : (k = false ∧ Hid (pbN s.data.toList = 0 ∧ pbB s.data.toList = false)) ∨ (k = true ∧ (!B.toList == s.toList) = false ∧ Hid (pbN s.data.toList = n ∧ pbB s.data.toList = true)) ∨ (k = true ∧ (!B.toList == s.toList) = true ∧ Hid (pbN s.data.toList = 0 ∧ pbB s.data.toList = false)) := by
      rw [e0, es]
      have hp : pbN s.data.toList = if pbB s.data.toList then n else 0 := by unfold pbN; rw [E3]
      rw [hp, E2]
      cases k with
      | false => exact .inl ⟨rfl, show _ ∧ _ by simp⟩
      | true =>
        by_cases he : basicL n = s.data.toList
        · exact .inr (.inl ⟨rfl, by simp [he], show _ ∧ _ by simp [he]⟩)
        · exact .inr (.inr ⟨rfl, by simp [he], show _ ∧ _ by simp [he]⟩)
    clear cy cm cd ch ci cx ey em ed eh ei ex hs hL E1 E2 E3 hn hk co cB eB e0 es
    rcases hcase with ⟨rfl, HP⟩ | ⟨rfl, hq, HP⟩ | ⟨rfl, hq, HP⟩
    · go_enter Tryd.func22, Tryd.ntmps22
      go_wp2_with fail
      refine wp_region_above w w.heap.size (by kernel_rfl) (by kernel_rfl) (Below.refl _ _) ?_
      repeat (go_big_quiet_step (first
        | (go_at_call 40; with_reducible exact above_same (CY.out _))
        | (go_at_call 40; with_reducible exact above_same (CM.out _))
        | (go_at_call 40; with_reducible exact above_same (CD.out _))
        | (go_at_call 40; with_reducible exact above_same (CH.out _))
        | (go_at_call 40; with_reducible exact above_same (CI.out _))
        | (go_at_call 40; with_reducible exact above_same (CX.out _))
        | (go_at_call 12; with_reducible exact above_below (CO.out _))))
      refine wpQuiet_nil ?_
      rintro w' ⟨⟨w1, hb1⟩, rfl⟩
      go_wp2
      go_ret2
      exact ⟨ret_ib HP.out.1.symm HP.out.2.symm, hb1⟩
    all_goals
      go_enter Tryd.func22, Tryd.ntmps22
      go_wp2_with fail
      refine wp_region_above w w.heap.size (by kernel_rfl) (by kernel_rfl) (Below.refl _ _) ?_
      repeat (go_big_quiet_step (first
        | (go_at_call 40; with_reducible exact above_same (CY.out _))
        | (go_at_call 40; with_reducible exact above_same (CM.out _))
        | (go_at_call 40; with_reducible exact above_same (CD.out _))
        | (go_at_call 40; with_reducible exact above_same (CH.out _))
        | (go_at_call 40; with_reducible exact above_same (CI.out _))
        | (go_at_call 40; with_reducible exact above_same (CX.out _))
        | (go_at_call 12; with_reducible exact above_below (CO.out _))))
      refine wpQuiet_nil ?_
      rintro w' ⟨⟨w1, hb1⟩, rfl⟩
      go_wp2_with fail
      refine (CB.out _).mono ?_
      rintro e w2 ⟨rfl, hb2⟩
      have B2 := step_below hb1 hb2 (Nat.le_refl _)
      go_wp2
      go_ret2
      exact ⟨ret_ib HP.out.1.symm HP.out.2.symm, B2⟩
  · have E2 : Hid (pbB s.data.toList = false) := by show _ = _; unfold pbB; rw [hL]; simp [hs]
    have E3 : Hid (pbN s.data.toList = 0) := by show _ = _; unfold pbN; rw [E2.out]; rfl
    have hz : ((s.size : Int) == 16) = false := by rw [beq_eq_false_iff_ne]; omega
    clear hs hL
    go_enter Tryd.func22, Tryd.ntmps22
    go_wp2
    go_ret2
    exact ⟨ret_ib E3.out.symm E2.out.symm, Below.refl _ _⟩
end Go.Proofs.YtbemlmhchpinhaaDoor

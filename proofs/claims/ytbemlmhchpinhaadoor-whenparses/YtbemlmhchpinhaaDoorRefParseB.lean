/-
  Texts read back: the document's ParseDay and ParseHttp by their contracts.
-/
import Derived.Test.YtbemlmhchpinhaaDoorRefParse
import Derived.Test.YtbemlmhchpinhaaDoorParseMath
namespace Go.Proofs.YtbemlmhchpinhaaDoor
open Go.RowKit

theorem refParseDay_any (s : ByteArray) (w : World) :
    Calls Tryd.prog 26 #[.string s] w fun e w' => e = .returned (.tuple #[.int .i64 (pdN s.data.toList), .bool (pdB s.data.toList)]) ∧ Below w.heap.size w w' := by
  have hL : s.data.toList.length = s.size := by simp
  by_cases hs : s.size = 8
  · obtain ⟨X, eX, zX, fX⟩ := cat_ex s ⟨#[84, 48, 48, 48, 48, 48, 48, 90]⟩ (by rw [hs]; decide)
    have hd := day_as_basic (l := s.data.toList) (by rw [hL, hs])
    have CX : Hid (∀ wx, Calls Tryd.prog 22 #[.string X] wx fun e w' => e = .returned (.tuple #[.int .i64 (pdN s.data.toList), .bool (pdB s.data.toList)]) ∧ Below wx.heap.size wx w') := by
      intro wx
      have := refParseBasic_any X wx
      rw [eX, show (⟨#[84, 48, 48, 48, 48, 48, 48, 90]⟩ : ByteArray).data.toList = midT from rfl, hd.1, hd.2] at this
      exact this
    have hz : ((s.size : Int) == 8) = true := by rw [hs]; rfl
    clear eX zX hd hs hL
    go_enter Tryd.func26, Tryd.ntmps26
    go_wp2_with fail
    refine (CX.out _).mono ?_
    rintro e w1 ⟨rfl, hb1⟩
    go_wp2
    go_ret2
    exact ⟨rfl, hb1⟩
  · have E2 : Hid (pdB s.data.toList = false) := by show _ = _; unfold pdB; rw [hL]; simp [hs]
    have E3 : Hid (pdN s.data.toList = 0) := by show _ = _; unfold pdN; rw [E2.out]; rfl
    have hz : ((s.size : Int) == 8) = false := by rw [beq_eq_false_iff_ne]; omega
    clear hs hL
    go_enter Tryd.func26, Tryd.ntmps26
    go_wp2
    go_ret2
    exact ⟨ret_ib E3.out.symm E2.out.symm, Below.refl _ _⟩

/-- One round of the document's search for the month. -/
theorem http_round {s : ByteArray} {y d h i x : Int} (ey : numV (sub s.data.toList 12 16) = y) (ed : numV (sub s.data.toList 5 7) = d) (eh : numV (sub s.data.toList 17 19) = h) (ei : numV (sub s.data.toList 20 22) = i) (ex : numV (sub s.data.toList 23 25) = x) (m : Int) :
    ∃ (n : Int) (k : Bool) (B : ByteArray), (∀ wx, Calls Tryd.prog 12 #[.agg #[.int .i64 y, .int .i64 m, .int .i64 d, .int .i64 h, .int .i64 i, .int .i64 x]] wx fun e w' => e = .returned (.tuple #[.int .i64 n, .bool k]) ∧ Below wx.heap.size wx w') ∧
    (∀ wx, Calls Tryd.prog 20 #[.int .i64 n] wx fun e w' => e = .returned (.string B) ∧ Below wx.heap.size wx w') ∧
    ((k = false ∧ hOk s.data.toList m = false) ∨ (k = true ∧ (B.toList == s.toList) = true ∧ hOk s.data.toList m = true ∧ hT s.data.toList m = n) ∨ (k = true ∧ (B.toList == s.toList) = false ∧ hOk s.data.toList m = false)) := by
  refine ⟨_, _, ⟨(httpL (ofN y m d h i x)).toArray⟩, fun wx => refOf_any y m d h i x wx, fun wx => refHttp_any _ wx, ?_⟩
  have hb : hB s.data.toList m = ofB y m d h i x := by unfold hB; rw [ey, ed, eh, ei, ex]
  have ht : hT s.data.toList m = ofN y m d h i x := by unfold hT; rw [ey, ed, eh, ei, ex]
  unfold hOk
  rw [hb, ht, ByteArray.toList_eq, ByteArray.toList_eq]
  by_cases c : ofB y m d h i x = true
  · by_cases he : httpL (ofN y m d h i x) = s.data.toList
    · exact .inr (.inl ⟨c, by simp [he], by simp [c, he], rfl⟩)
    · exact .inr (.inr ⟨c, by simp [he], by simp [he]⟩)
  · have c' : ofB y m d h i x = false := by simpa using c
    exact .inl ⟨c', by simp [c']⟩

set_option maxHeartbeats 2000000 in
set_option maxRecDepth 20000 in
theorem refParseHttp_any (s : ByteArray) (w : World) :
    Calls Tryd.prog 24 #[.string s] w fun e w' => e = .returned (.tuple #[.int .i64 (phN s.data.toList), .bool (phB s.data.toList)]) ∧ Below w.heap.size w w' := by
  have hL : s.data.toList.length = s.size := by simp
  by_cases hs : s.size = 29
  · obtain ⟨y, ey, cy⟩ := refNumber_at s 12 16 (by omega)
    obtain ⟨d, ed, cd⟩ := refNumber_at s 5 7 (by omega)
    obtain ⟨h, eh, ch⟩ := refNumber_at s 17 19 (by omega)
    obtain ⟨i, ei, ci⟩ := refNumber_at s 20 22 (by omega)
    obtain ⟨x, ex, cx⟩ := refNumber_at s 23 25 (by omega)
    have CY := (show Hid _ from cy)
    have CD := (show Hid _ from cd)
    have CH := (show Hid _ from ch)
    have CI := (show Hid _ from ci)
    have CX := (show Hid _ from cx)
    have RD := (show Hid _ from http_round ey ed eh ei ex)
    have FN : Hid (∀ m : Int, hOk s.data.toList m = true → phB s.data.toList = true ∧ phN s.data.toList = hT s.data.toList m) := by
      intro m hm
      have hk := (http_key hm).1
      have hp : phB s.data.toList = true := by unfold phB; rw [hL, hs, hk, hm]; rfl
      exact ⟨hp, by unfold phN; rw [if_pos hp, hk]⟩
    have FE : Hid ((∀ j : Nat, j < 12 → hOk s.data.toList ((j : Int) + 1) = false) → phB s.data.toList = false ∧ phN s.data.toList = 0) := by
      intro ha
      have hp : phB s.data.toList = false := by
        unfold phB
        rw [Bool.and_eq_false_iff]
        right
        rw [← Bool.not_eq_true]
        intro hk
        have hb := (http_key hk).2
        have := ha ((hM s.data.toList) - 1).toNat (by omega)
        rw [show ((((hM s.data.toList) - 1).toNat : Nat) : Int) + 1 = hM s.data.toList by omega, hk] at this
        exact absurd this (by decide)
      exact ⟨hp, by unfold phN; rw [hp]; rfl⟩
    have hz : ((s.size : Int) == 29) = true := by rw [hs]; rfl
    have h16 : (29 : Int) ≤ (s.size : Int) := by omega
    clear cy cd ch ci cx ey ed eh ei ex hs hL
    go_enter Tryd.func24, Tryd.ntmps24
    go_wp2
    clear hz
    generalize ((s.size : Int) != 29) = b9
    go_loopw [4] (fun v w' => ∃ k : Nat, k ≤ 12 ∧ v = .int .i64 ((k : Int) + 1) ∧ (∀ j : Nat, j < k → hOk s.data.toList ((j : Int) + 1) = false) ∧ Below w.heap.size w w') (fun v _ => 13 - (intOf v).toNat)
    case atStart => exact ⟨0, by omega, rfl, fun j hj => by omega, Below.refl _ _⟩
    case round =>
      rename_i wx
      obtain ⟨k, hk, rfl, hall, hbx⟩ := hrel
      have HA := (show Hid _ from hall)
      clear hall
      by_cases hlt : k < 12
      · obtain ⟨n, q, B, co, cb, hcase⟩ := RD.out ((k : Int) + 1)
        have CO := (show Hid _ from co)
        have CB := (show Hid _ from cb)
        have HC : (q = false ∧ Hid (hOk s.data.toList ((k : Int) + 1) = false)) ∨ (q = true ∧ (B.toList == s.toList) = true ∧ Hid (hOk s.data.toList ((k : Int) + 1) = true ∧ hT s.data.toList ((k : Int) + 1) = n)) ∨ (q = true ∧ (B.toList == s.toList) = false ∧ Hid (hOk s.data.toList ((k : Int) + 1) = false)) := hcase
        clear co cb hcase
        rcases HC with ⟨rfl, HK⟩ | ⟨rfl, hq, HK⟩ | ⟨rfl, hq, HK⟩
        all_goals
          go_wp2_with fail
          refine wp_region_above w w.heap.size (by kernel_rfl) (by kernel_rfl) hbx ?_
          repeat (go_big_quiet_step (first
            | (go_at_call 40; with_reducible exact above_same (CY.out _))
            | (go_at_call 40; with_reducible exact above_same (CD.out _))
            | (go_at_call 40; with_reducible exact above_same (CH.out _))
            | (go_at_call 40; with_reducible exact above_same (CI.out _))
            | (go_at_call 40; with_reducible exact above_same (CX.out _))
            | (go_at_call 12; with_reducible exact above_below (CO.out _))))
          refine wpQuiet_nil ?_
          rintro w' ⟨⟨w1, hb1⟩, rfl⟩
        · go_wp2
          go_roundw
          case rel => exact ⟨k + 1, by omega, by go_num, (fun j hj => if e : j = k then e ▸ HK.out else HA.out j (by omega)), hb1⟩
          case measure => simp [intOf]; omega
        · go_wp2_with fail
          refine (CB.out _).mono ?_
          rintro e w2 ⟨rfl, hb2⟩
          have B2 := step_below hb1 hb2 (Nat.le_refl _)
          have hf := (show Hid _ from FN.out _ HK.out.1)
          go_wp2
          go_ret2
          exact ⟨ret_ib (by rw [hf.out.2, HK.out.2]) hf.out.1.symm, B2⟩
        · go_wp2_with fail
          refine (CB.out _).mono ?_
          rintro e w2 ⟨rfl, hb2⟩
          have B2 := step_below hb1 hb2 (Nat.le_refl _)
          go_wp2
          go_roundw
          case rel => exact ⟨k + 1, by omega, by go_num, (fun j hj => if e : j = k then e ▸ HK.out else HA.out j (by omega)), B2⟩
          case measure => simp [intOf]; omega
      · have hk' : k = 12 := by omega
        subst hk'
        have hf := (show Hid _ from FE.out HA.out)
        go_wp2
        go_ret2
        exact ⟨ret_ib hf.out.2.symm hf.out.1.symm, hbx⟩
  · have E2 : Hid (phB s.data.toList = false) := by show _ = _; unfold phB; rw [hL]; simp [hs]
    have E3 : Hid (phN s.data.toList = 0) := by show _ = _; unfold phN; rw [E2.out]; rfl
    have hz : ((s.size : Int) == 29) = false := by rw [beq_eq_false_iff_ne]; omega
    clear hs hL
    go_enter Tryd.func24, Tryd.ntmps24
    go_wp2
    go_ret2
    exact ⟨ret_ib E3.out.symm E2.out.symm, Below.refl _ _⟩
end Go.Proofs.YtbemlmhchpinhaaDoor

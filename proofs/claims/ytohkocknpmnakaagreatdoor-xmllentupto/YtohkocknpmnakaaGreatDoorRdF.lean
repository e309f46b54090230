/-
  A reader's attributes.
-/
import Derived.Test.YtohkocknpmnakaaGreatDoorRdE
namespace Go.Proofs.YtohkocknpmnakaaGreatDoor
open Go.RowKit

set_option maxRecDepth 20000 in
set_option maxHeartbeats 3200000 in
theorem attrs_any (p : Nat) (l : List UInt8) (w : World) (h : Rd w p l) (hm : Mx w) (hl : l.length ≤ 65536) :
    Calls Tryz.prog 57 #[.pointer (some ⟨p, 0, none⟩)] w fun e w' => e = .returned (.bool (atsF (l.length + 1) l).isSome) ∧ (∀ r, atsF (l.length + 1) l = some r → Rd w' p r) ∧ Md (fun b => b = p) w w' := by
  have hnp := h.pos hm
  obtain ⟨X, hX⟩ : ∃ X, X = atsF (l.length + 1) l := ⟨_, rfl⟩
  rw [← hX]
  have HX : Hid (X = atsF (l.length + 1) l) := hX
  have HW := (show Hid (∀ W q, Rd W p q → Calls Tryz.prog 28 #[.pointer (some ⟨p, 0, none⟩)] W fun e w' => e = .returned (.bool (decide ((skp q).length < q.length))) ∧ Rd w' p (skp q) ∧ Md (fun b => b = p) W w') from fun W q h => white_any p q W h)
  have HN := (show Hid (∀ W q, Rd W p q → q.length ≤ 65536 → Calls Tryz.prog 56 #[.pointer (some ⟨p, 0, none⟩)] W fun e w' => e = .returned (.string ⟨(nmL q).toArray⟩) ∧ Rd w' p (q.drop (nmL q).length) ∧ Md (fun b => b = p) W w') from fun W q h h2 => name_any p q W h h2)
  have HY := (show Hid (∀ W q r x, Rd W p q → eat (ByteArray.data x).toList q = some r → Calls Tryz.prog 52 #[.pointer (some ⟨p, 0, none⟩), .string x] W fun e w' => e = .returned (.bool true) ∧ Rd w' p r ∧ Md (fun b => b = p) W w') from fun W q r x h h2 => take_yes p q r x W h h2)
  have HO := (show Hid (∀ W q x, Rd W p q → eat (ByteArray.data x).toList q = none → Calls Tryz.prog 52 #[.pointer (some ⟨p, 0, none⟩), .string x] W fun e w' => e = .returned (.bool false) ∧ Rd w' p q ∧ Md (fun b => b = p) W w') from fun W q x h h2 => take_no p q x W h h2)
  have HQ := (show Hid (∀ W q, Rd W p q → Mx W → q.length ≤ 65536 → Calls Tryz.prog 86 #[.pointer (some ⟨p, 0, none⟩)] W fun e w' => e = .returned (.bool (quoL q).isSome) ∧ (∀ r, quoL q = some r → Rd w' p r) ∧ Md (fun b => b = p) W w') from fun W q h h2 h3 => quoted_any p q W h h2 h3)
  have H0 := (show Hid (Rd w p l ∧ Mx w) from ⟨h, hm⟩)
  clear h hm hX
  go_enter Tryz.func57, Tryz.ntmps57
  go_wp2_with fail
  refine wp_scope_ahead 0 rfl ?_
  go_wp2_with fail
  go_loopg [] (l.length + 1) (fun gf wx => ∃ q : List UInt8, q.length ≤ 65536 ∧ q.length + 1 ≤ gf ∧ Rd wx p q ∧ Mx wx ∧ Md (fun b => b = p) w wx ∧ X = atsF gf q)
  case atStart => exact ⟨l, hl, by omega, H0.out.1, H0.out.2, Md.refl _ _, HX.out⟩
  case round =>
    obtain ⟨q, hq, hf, hr, hM, hmd, hx⟩ := hrel
    obtain ⟨g', rfl⟩ : ∃ g', gk = g' + 1 := ⟨gk - 1, by omega⟩
    simp only [atsF] at hx
    have hs0 := skp_le q
    have K := HW.out wr q hr
    by_cases hb : (skp q).length < q.length
    · rw [decide_eq_true hb] at K
      by_cases hn : nmL (skp q) = []
      · have HF : Hid (X = some (skp q)) := by
          rw [if_neg (by simp [hn])] at hx
          exact hx
        have HR := (show Hid (Rd wr p q ∧ Mx wr ∧ Md (fun b => b = p) w wr) from ⟨hr, hM, hmd⟩)
        have HNM : Hid ((skp q).drop (nmL (skp q)).length = skp q ∧ nmL (skp q) = []) := ⟨by rw [hn]; rfl, hn⟩
        clear hr hM hmd hx hb hn
        go_wp2_with fail
        refine K.mono ?_
        rintro e w1 ⟨rfl, r1, m1⟩
        have K2 := HN.out w1 (skp q) r1 (by omega)
        rw [HNM.out.1, HNM.out.2] at K2
        have H1 : Hid (Md (fun b => b = p) w w1) := HR.out.2.2.trans m1
        clear K r1 m1
        go_wp2_with fail
        refine K2.mono ?_
        rintro e w2 ⟨rfl, r2, m2⟩
        have H2 : Hid (Rd w2 p (skp q) ∧ Md (fun b => b = p) w w2) := ⟨r2, H1.out.trans m2⟩
        clear K2 r2 m2
        go_wp2_with fail
        rw [Jmp_ret]
        go_wp2
        go_ret
        exact ⟨ret_bool (by rw [HF.out]; rfl), fun r hr => (by rw [HF.out] at hr; cases hr; exact H2.out.1), H2.out.2⟩
      · obtain ⟨s, hs⟩ : ∃ s : ByteArray, s = ⟨(nmL (skp q)).toArray⟩ := ⟨_, rfl⟩
        have hse : s.toList.isEmpty = false := by
          have : s.toList = nmL (skp q) := by rw [Lib.toList_data, hs]
          rw [this]
          cases h : nmL (skp q) with
          | nil => exact absurd h hn
          | cons a b => rfl
        have HX1 : Hid (X = (colL ((skp q).drop (nmL (skp q)).length)).bind fun r => ((eat [61] (skp r)).bind fun a => (quoL (skp a)).bind (atsF g'))) := by
          rw [if_pos ⟨hb, hn⟩] at hx
          unfold atrL at hx
          rw [hx, Option.bind_assoc]
          congr 1
          funext r
          rw [Option.bind_assoc]
        have HR := (show Hid (Rd wr p q ∧ Mx wr ∧ Md (fun b => b = p) w wr) from ⟨hr, hM, hmd⟩)
        have hsp : (skp q).length + 1 ≤ q.length := by omega
        have HSS : Hid (s = ⟨(nmL (skp q)).toArray⟩) := hs
        clear hr hM hmd hx hb hn hs
        go_wp2_with fail
        refine K.mono ?_
        rintro e w1 ⟨rfl, r1, m1⟩
        have K2 := HN.out w1 (skp q) r1 (by omega)
        rw [← HSS.out] at K2
        have H1 : Hid (Mx w1 ∧ Md (fun b => b = p) w w1) := ⟨HR.out.2.1.md m1 hnp, HR.out.2.2.trans m1⟩
        clear K r1 m1 HSS
        obtain ⟨q2, hq2⟩ : ∃ q2, q2 = (skp q).drop (nmL (skp q)).length := ⟨_, rfl⟩
        have hq2l : q2.length + 1 ≤ q.length := by rw [hq2]; simp; omega
        rw [← hq2] at K2 HX1
        clear hq2 hsp
        go_wp2_with fail
        refine K2.mono ?_
        rintro e w2 ⟨rfl, r2, m2⟩
        have H2 : Hid (Rd w2 p q2 ∧ Mx w2 ∧ Md (fun b => b = p) w w2) := ⟨r2, H1.out.1.md m2 hnp, H1.out.2.trans m2⟩
        clear K2 r2 m2
        cases he : eat [58] q2 with
        | none =>
          have K3 := HO.out w2 _ ⟨#[58]⟩ H2.out.1 he
          have HX4 : Hid (X = (eat [61] (skp q2)).bind fun a => (quoL (skp a)).bind (atsF g')) := by
            have := HX1.out
            unfold colL at this
            rw [he] at this
            exact this
          clear he
          go_wp2_with fail
          refine K3.mono ?_
          rintro e w3 ⟨rfl, r3, m3⟩
          have H4 : Hid (Rd w3 p q2 ∧ Mx w3 ∧ Md (fun b => b = p) w w3) := ⟨r3, H2.out.2.1.md m3 hnp, H2.out.2.2.trans m3⟩
          clear K3 r3 m3
          obtain ⟨q4, hq4⟩ : ∃ q4, q4 = q2 := ⟨_, rfl⟩
          have hq4l : q4.length + 1 ≤ q.length := by rw [hq4]; exact hq2l
          rw [← hq4] at H4 HX4
          clear hq4 hq2l
          go_wp2_with fail
          refine (HW.out _ q4 H4.out.1).mono ?_
          rintro e w5 ⟨rfl, r5, m5⟩
          have H5 : Hid (Rd w5 p (skp q4) ∧ Mx w5 ∧ Md (fun b => b = p) w w5) := ⟨r5, H4.out.2.1.md m5 hnp, H4.out.2.2.trans m5⟩
          clear r5 m5
          cases he2 : eat [61] (skp q4) with
          | none =>
            have HF : Hid (X = none) := by
              have := HX4.out
              rw [he2] at this
              exact this
            have K := HO.out w5 _ ⟨#[61]⟩ H5.out.1 he2
            clear he2
            go_wp2_with fail
            refine K.mono ?_
            rintro e w6 ⟨rfl, r6, m6⟩
            have H6 : Hid (Md (fun b => b = p) w w6) := H5.out.2.2.trans m6
            clear r6 m6 K
            go_wp2_with fail
            go_step3
            refine ⟨rfl, ?_⟩
            go_wp2
            rw [Exit.noGoto_ret]
            go_wp2
            go_ret
            exact ⟨ret_bool (by rw [HF.out]; rfl), fun r hr => (by rw [HF.out] at hr; cases hr), H6.out⟩
          | some q6 =>
            have hq6 := (eat_len he2).1
            have hs4 := skp_le q4
            have hs6 := skp_le q6
            simp only [List.length_cons, List.length_nil] at hq6
            have K := HY.out w5 _ q6 ⟨#[61]⟩ H5.out.1 he2
            have HX6 : Hid (X = (quoL (skp q6)).bind (atsF g')) := by
              have := HX4.out
              rw [he2] at this
              exact this
            clear he2
            go_wp2_with fail
            refine K.mono ?_
            rintro e w6 ⟨rfl, r6, m6⟩
            have H6 : Hid (Rd w6 p q6 ∧ Mx w6 ∧ Md (fun b => b = p) w w6) := ⟨r6, H5.out.2.1.md m6 hnp, H5.out.2.2.trans m6⟩
            clear r6 m6 K
            go_wp2_with fail
            refine (HW.out _ q6 H6.out.1).mono ?_
            rintro e w7 ⟨rfl, r7, m7⟩
            have H7 : Hid (Rd w7 p (skp q6) ∧ Mx w7 ∧ Md (fun b => b = p) w w7) := ⟨r7, H6.out.2.1.md m7 hnp, H6.out.2.2.trans m7⟩
            clear r7 m7
            have K := HQ.out w7 _ H7.out.1 H7.out.2.1 (by omega)
            cases hqq : quoL (skp q6) with
            | none =>
              have HF : Hid (X = none) := by
                have := HX6.out
                rw [hqq] at this
                exact this
              rw [hqq] at K
              clear hqq
              go_wp2_with fail
              refine K.mono ?_
              rintro e w8 ⟨rfl, r8, m8⟩
              have H8 : Hid (Md (fun b => b = p) w w8) := H7.out.2.2.trans m8
              clear r8 m8 K
              go_wp2_with fail
              go_step3
              refine ⟨rfl, ?_⟩
              go_wp2
              rw [Exit.noGoto_ret]
              go_wp2
              go_ret
              exact ⟨ret_bool (by rw [HF.out]; rfl), fun r hr => (by rw [HF.out] at hr; cases hr), H8.out⟩
            | some q8 =>
              have hq8 := quo_len hqq
              have HX8 : Hid (X = atsF g' q8) := by
                have := HX6.out
                rw [hqq] at this
                exact this
              rw [hqq] at K
              clear hqq
              go_wp2_with fail
              refine K.mono ?_
              rintro e w8 ⟨rfl, r8, m8⟩
              have H8 : Hid (Rd w8 p q8 ∧ Mx w8 ∧ Md (fun b => b = p) w w8) := ⟨r8 q8 rfl, H7.out.2.1.md m8 hnp, H7.out.2.2.trans m8⟩
              clear r8 m8 K
              go_wp2_with fail
              go_roundg g'
              case measure => omega
              case rel => exact ⟨q8, by omega, by omega, H8.out.1, H8.out.2.1, H8.out.2.2, HX8.out⟩
        | some q3 =>
          have K3 := HY.out w2 _ q3 ⟨#[58]⟩ H2.out.1 he
          have hq3 := (eat_len he).1
          simp only [List.length_cons, List.length_nil] at hq3
          have HX3 : Hid (colL q2 = if nmL q3 = [] then none else some (q3.drop (nmL q3).length)) := by
            show _ = _
            unfold colL
            rw [he]
          clear he
          go_wp2_with fail
          refine K3.mono ?_
          rintro e w3 ⟨rfl, r3, m3⟩
          have H3 : Hid (Rd w3 p q3 ∧ Mx w3 ∧ Md (fun b => b = p) w w3) := ⟨r3, H2.out.2.1.md m3 hnp, H2.out.2.2.trans m3⟩
          clear K3 r3 m3
          have K4 := HN.out w3 q3 H3.out.1 (by omega)
          by_cases hn3 : nmL q3 = []
          · have HF : Hid (X = none) := by
              have := HX1.out
              rw [HX3.out, if_pos hn3] at this
              exact this
            rw [hn3] at K4
            clear hn3
            go_wp2_with fail
            refine K4.mono ?_
            rintro e w4 ⟨rfl, r4, m4⟩
            have H4 : Hid (Md (fun b => b = p) w w4) := H3.out.2.2.trans m4
            clear K4 r4 m4
            go_wp2_with fail
            go_step3
            refine ⟨rfl, ?_⟩
            go_wp2
            rw [Exit.noGoto_ret]
            go_wp2
            go_ret
            exact ⟨ret_bool (by rw [HF.out]; rfl), fun r hr => (by rw [HF.out] at hr; cases hr), H4.out⟩
          · obtain ⟨s3, hs3⟩ : ∃ s : ByteArray, s = ⟨(nmL q3).toArray⟩ := ⟨_, rfl⟩
            have hse3 : s3.toList.isEmpty = false := by
              have : s3.toList = nmL q3 := by rw [Lib.toList_data, hs3]
              rw [this]
              cases h : nmL q3 with
              | nil => exact absurd h hn3
              | cons a b => rfl
            obtain ⟨q4, hq4⟩ : ∃ q4, q4 = q3.drop (nmL q3).length := ⟨_, rfl⟩
            have hq4l : q4.length + 1 ≤ q.length := by rw [hq4]; simp; omega
            have HX4 : Hid (X = (eat [61] (skp q4)).bind fun a => (quoL (skp a)).bind (atsF g')) := by
              have := HX1.out
              rw [HX3.out, if_neg hn3, ← hq4] at this
              exact this
            rw [← hq4, ← hs3] at K4
            clear hn3 hs3 hq4 HX1 HX3
            go_wp2_with fail
            refine K4.mono ?_
            rintro e w4 ⟨rfl, r4, m4⟩
            have H4 : Hid (Rd w4 p q4 ∧ Mx w4 ∧ Md (fun b => b = p) w w4) := ⟨r4, H3.out.2.1.md m4 hnp, H3.out.2.2.trans m4⟩
            clear K4 r4 m4
            go_wp2_with fail
            refine (HW.out _ q4 H4.out.1).mono ?_
            rintro e w5 ⟨rfl, r5, m5⟩
            have H5 : Hid (Rd w5 p (skp q4) ∧ Mx w5 ∧ Md (fun b => b = p) w w5) := ⟨r5, H4.out.2.1.md m5 hnp, H4.out.2.2.trans m5⟩
            clear r5 m5
            cases he2 : eat [61] (skp q4) with
            | none =>
              have HF : Hid (X = none) := by
                have := HX4.out
                rw [he2] at this
                exact this
              have K := HO.out w5 _ ⟨#[61]⟩ H5.out.1 he2
              clear he2
              go_wp2_with fail
              refine K.mono ?_
              rintro e w6 ⟨rfl, r6, m6⟩
              have H6 : Hid (Md (fun b => b = p) w w6) := H5.out.2.2.trans m6
              clear r6 m6 K
              go_wp2_with fail
              go_step3
              refine ⟨rfl, ?_⟩
              go_wp2
              rw [Exit.noGoto_ret]
              go_wp2
              go_ret
              exact ⟨ret_bool (by rw [HF.out]; rfl), fun r hr => (by rw [HF.out] at hr; cases hr), H6.out⟩
            | some q6 =>
              have hq6 := (eat_len he2).1
              have hs4 := skp_le q4
              have hs6 := skp_le q6
              simp only [List.length_cons, List.length_nil] at hq6
              have K := HY.out w5 _ q6 ⟨#[61]⟩ H5.out.1 he2
              have HX6 : Hid (X = (quoL (skp q6)).bind (atsF g')) := by
                have := HX4.out
                rw [he2] at this
                exact this
              clear he2
              go_wp2_with fail
              refine K.mono ?_
              rintro e w6 ⟨rfl, r6, m6⟩
              have H6 : Hid (Rd w6 p q6 ∧ Mx w6 ∧ Md (fun b => b = p) w w6) := ⟨r6, H5.out.2.1.md m6 hnp, H5.out.2.2.trans m6⟩
              clear r6 m6 K
              go_wp2_with fail
              refine (HW.out _ q6 H6.out.1).mono ?_
              rintro e w7 ⟨rfl, r7, m7⟩
              have H7 : Hid (Rd w7 p (skp q6) ∧ Mx w7 ∧ Md (fun b => b = p) w w7) := ⟨r7, H6.out.2.1.md m7 hnp, H6.out.2.2.trans m7⟩
              clear r7 m7
              have K := HQ.out w7 _ H7.out.1 H7.out.2.1 (by omega)
              cases hqq : quoL (skp q6) with
              | none =>
                have HF : Hid (X = none) := by
                  have := HX6.out
                  rw [hqq] at this
                  exact this
                rw [hqq] at K
                clear hqq
                go_wp2_with fail
                refine K.mono ?_
                rintro e w8 ⟨rfl, r8, m8⟩
                have H8 : Hid (Md (fun b => b = p) w w8) := H7.out.2.2.trans m8
                clear r8 m8 K
                go_wp2_with fail
                go_step3
                refine ⟨rfl, ?_⟩
                go_wp2
                rw [Exit.noGoto_ret]
                go_wp2
                go_ret
                exact ⟨ret_bool (by rw [HF.out]; rfl), fun r hr => (by rw [HF.out] at hr; cases hr), H8.out⟩
              | some q8 =>
                have hq8 := quo_len hqq
                have HX8 : Hid (X = atsF g' q8) := by
                  have := HX6.out
                  rw [hqq] at this
                  exact this
                rw [hqq] at K
                clear hqq
                go_wp2_with fail
                refine K.mono ?_
                rintro e w8 ⟨rfl, r8, m8⟩
                have H8 : Hid (Rd w8 p q8 ∧ Mx w8 ∧ Md (fun b => b = p) w w8) := ⟨r8 q8 rfl, H7.out.2.1.md m8 hnp, H7.out.2.2.trans m8⟩
                clear r8 m8 K
                go_wp2_with fail
                go_roundg g'
                case measure => omega
                case rel => exact ⟨q8, by omega, by omega, H8.out.1, H8.out.2.1, H8.out.2.2, HX8.out⟩
    · rw [decide_eq_false hb] at K
      have HF : Hid (X = some (skp q)) := by
        rw [if_neg (fun h => hb h.1)] at hx
        exact hx
      have HR := (show Hid (Md (fun b => b = p) w wr) from hmd)
      clear hr hM hmd hx hb
      go_wp2_with fail
      refine K.mono ?_
      rintro e w2 ⟨rfl, r2, m2⟩
      have H2 : Hid (Rd w2 p (skp q) ∧ Md (fun b => b = p) w w2) := ⟨r2, HR.out.trans m2⟩
      clear K r2 m2
      go_wp2_with fail
      rw [Jmp_ret]
      go_wp2
      go_ret
      exact ⟨ret_bool (by rw [HF.out]; rfl), fun r hr => (by rw [HF.out] at hr; cases hr; exact H2.out.1), H2.out.2⟩
end Go.Proofs.YtohkocknpmnakaaGreatDoor

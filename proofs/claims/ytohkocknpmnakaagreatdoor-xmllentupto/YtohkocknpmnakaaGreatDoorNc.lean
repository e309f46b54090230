/-
  characterOf, reference.
-/
import Derived.Test.YtohkocknpmnakaaGreatDoorNb
namespace Go.Proofs.YtohkocknpmnakaaGreatDoor
open Go.RowKit

set_option maxRecDepth 20000 in
set_option maxHeartbeats 1600000 in
theorem charOf_any (a : List UInt8) (w : World) (h9 : a.length ≤ 9) (he : Er w) :
    Calls Tryz.prog 72 #[.string ⟨(38 :: a).toArray⟩] w fun e w' => NmR (entN a) e ∧ Below w.heap.size w w' := by
  obtain ⟨O, hO⟩ : ∃ O, O = entN a := ⟨_, rfl⟩
  rw [← hO]
  obtain ⟨s, hs⟩ : ∃ s : ByteArray, s = ⟨(38 :: a).toArray⟩ := ⟨_, rfl⟩
  rw [← hs]
  have htl : s.toList = 38 :: a := by rw [Lib.toList_data, hs]
  have hcmp : ∀ x : List UInt8, (s.toList == 38 :: x) = decide (a = x) := by
    intro x
    rw [htl, Bool.eq_iff_iff]
    simp
  have q1 := hcmp [97, 109, 112]
  have q2 := hcmp [108, 116]
  have q3 := hcmp [103, 116]
  have q4 := hcmp [113, 117, 111, 116]
  have q5 := hcmp [97, 112, 111, 115]
  have hdl : s.data.toList = 38 :: a := by rw [hs]
  have HP := (show Hid (∀ p W, Calls Tryz.prog 79 #[.string s, .string ⟨(38 :: p).toArray⟩] W fun e w' => e = .returned (.tuple #[.string ⟨((eat p a).getD (38 :: a)).toArray⟩, .bool (eat p a).isSome]) ∧ w' = W) from fun p W => by
    have := strings_CutPrefix s ⟨(38 :: p).toArray⟩ W
    rw [hdl] at this
    have e1 := cutp_eat (38 :: p) (38 :: a)
    rw [eat_amp] at e1
    rw [← e1.1, ← e1.2]
    exact this)
  have HNu := (show Hid (∀ (b : Nat) (x : List UInt8) W, b = 10 ∨ b = 16 → x.length ≤ 8 → Er W → Calls Tryz.prog 94 #[.string ⟨x.toArray⟩, .int .i64 (b : Int)] W fun e w' => NmR (numN b x) e ∧ Below W.heap.size W w') from fun b x W h1 h2 h3 => numbered_any b h1 ⟨x.toArray⟩ W (by rw [mk_size]; exact h2) h3)
  have HE : Hid (Er w) := he
  unfold entN at hO
  clear hcmp htl hs hdl he
  by_cases h1 : a = [97, 109, 112]
  · rw [if_pos h1] at hO
    have HO : Hid (O = some 38) := hO
    simp only [h1, decide_true] at q1
    clear hO h1 q2 q3 q4 q5
    go_enter Tryz.func72, Tryz.ntmps72
    go_wp2
    go_ret2
    exact ⟨.inl ⟨38, HO.out, rfl⟩, Below.refl _ _⟩
  · rw [if_neg h1] at hO
    simp only [h1, decide_false] at q1
    by_cases h2 : a = [108, 116]
    · rw [if_pos h2] at hO
      have HO : Hid (O = some 60) := hO
      simp only [h2, decide_true] at q2
      clear hO h1 h2 q3 q4 q5
      go_enter Tryz.func72, Tryz.ntmps72
      go_wp2
      go_ret2
      exact ⟨.inl ⟨60, HO.out, rfl⟩, Below.refl _ _⟩
    · rw [if_neg h2] at hO
      simp only [h2, decide_false] at q2
      by_cases h3 : a = [103, 116]
      · rw [if_pos h3] at hO
        have HO : Hid (O = some 62) := hO
        simp only [h3, decide_true] at q3
        clear hO h1 h2 h3 q4 q5
        go_enter Tryz.func72, Tryz.ntmps72
        go_wp2
        go_ret2
        exact ⟨.inl ⟨62, HO.out, rfl⟩, Below.refl _ _⟩
      · rw [if_neg h3] at hO
        simp only [h3, decide_false] at q3
        by_cases h4 : a = [113, 117, 111, 116]
        · rw [if_pos h4] at hO
          have HO : Hid (O = some 34) := hO
          simp only [h4, decide_true] at q4
          clear hO h1 h2 h3 h4 q5
          go_enter Tryz.func72, Tryz.ntmps72
          go_wp2
          go_ret2
          exact ⟨.inl ⟨34, HO.out, rfl⟩, Below.refl _ _⟩
        · rw [if_neg h4] at hO
          simp only [h4, decide_false] at q4
          by_cases h5 : a = [97, 112, 111, 115]
          · rw [if_pos h5] at hO
            have HO : Hid (O = some 39) := hO
            simp only [h5, decide_true] at q5
            clear hO h1 h2 h3 h4 h5
            go_enter Tryz.func72, Tryz.ntmps72
            go_wp2
            go_ret2
            exact ⟨.inl ⟨39, HO.out, rfl⟩, Below.refl _ _⟩
          · rw [if_neg h5] at hO
            simp only [h5, decide_false] at q5
            clear h1 h2 h3 h4 h5
            have P1 := HP.out [35, 120]
            cases hx : eat [35, 120] a with
            | some ds =>
              have hdl := (eat_len hx).1
              simp only [List.length_cons, List.length_nil] at hdl
              rw [hx] at hO P1
              have K := HNu.out 16 ds w (.inr rfl) (by omega) HE.out
              have hO' : O = numN 16 ds := hO
              rw [← hO'] at K
              clear hO hx hO'
              go_enter Tryz.func72, Tryz.ntmps72
              go_wp2_with (go_at_call 79; refine (P1 _).mono ?_; rintro e w' ⟨rfl, rfl⟩)
              refine K.mono ?_
              rintro e w1 ⟨⟨n, h1, rfl⟩ | ⟨h1, rfl⟩, hb⟩
              · have HH := (show Hid (O = some n ∧ _) from ⟨h1, hb⟩)
                clear h1 hb
                go_wp2
                go_ret2
                exact ⟨.inl ⟨n, HH.out.1, rfl⟩, HH.out.2⟩
              · have HH := (show Hid (O = none ∧ _) from ⟨h1, hb⟩)
                clear h1 hb
                go_wp2
                go_ret2
                exact ⟨.inr ⟨HH.out.1, rfl⟩, HH.out.2⟩
            | none =>
              rw [hx] at hO P1
              have P2 := HP.out [35]
              cases hy : eat [35] a with
              | some ds =>
                have hdl := (eat_len hy).1
                simp only [List.length_cons, List.length_nil] at hdl
                rw [hy] at hO P2
                have K := HNu.out 10 ds w (.inl rfl) (by omega) HE.out
                have hO' : O = numN 10 ds := hO
                rw [← hO'] at K
                clear hO hx hy hO'
                go_enter Tryz.func72, Tryz.ntmps72
                go_wp2_with (first
                  | (go_at_call 79; (with_reducible refine Calls.mono (P1 _) ?_); rintro e w' ⟨rfl, rfl⟩)
                  | (go_at_call 79; (with_reducible refine Calls.mono (P2 _) ?_); rintro e w' ⟨rfl, rfl⟩))
                refine K.mono ?_
                rintro e w1 ⟨⟨n, h1, rfl⟩ | ⟨h1, rfl⟩, hb⟩
                · have HH := (show Hid (O = some n ∧ _) from ⟨h1, hb⟩)
                  clear h1 hb
                  go_wp2
                  go_ret2
                  exact ⟨.inl ⟨n, HH.out.1, rfl⟩, HH.out.2⟩
                · have HH := (show Hid (O = none ∧ _) from ⟨h1, hb⟩)
                  clear h1 hb
                  go_wp2
                  go_ret2
                  exact ⟨.inr ⟨HH.out.1, rfl⟩, HH.out.2⟩
              | none =>
                rw [hy] at hO P2
                have HO : Hid (O = none) := hO
                clear hO hx hy
                go_enter Tryz.func72, Tryz.ntmps72
                go_wp2_with (first
                  | (go_at_call 79; (with_reducible refine Calls.mono (P1 _) ?_); rintro e w' ⟨rfl, rfl⟩)
                  | (go_at_call 79; (with_reducible refine Calls.mono (P2 _) ?_); rintro e w' ⟨rfl, rfl⟩))
                go_ret2
                exact ⟨.inr ⟨HO.out, rfl⟩, Below.refl _ _⟩

end Go.Proofs.YtohkocknpmnakaaGreatDoor

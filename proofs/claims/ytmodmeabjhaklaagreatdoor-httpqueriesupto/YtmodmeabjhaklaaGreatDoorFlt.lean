/-
  What is wrong about headers together (faultOf).
-/
import Derived.Test.YtmodmeabjhaklaaGreatDoorChk
namespace Go.Proofs.YtmodmeabjhaklaaGreatDoor
open Go.RowKit

def fltN (nh nt nc : Nat) (tb : Bool) (tv : List UInt8) (cb : Bool) (cv : List UInt8) (xb : Bool) (xv : List UInt8) : Int :=
  if nh ≠ 1 ∨ (tb = true ∧ cb = true) ∨ 1 < nt then 308
  else if tb = true ∧ lowL tv ≠ tChunked then 335
  else if 1 < nc ∨ (cb = true ∧ En.intOk cv = false) then 308
  else if 1048576 < En.intV cv then 324
  else if xb = true ∧ lowL xv ≠ tCont then 337
  else 0
theorem flt_eq (hs : List Hd) : fltL hs = fltN (allL hs nHost).length (allL hs nTe).length (allL hs nCl).length (getL hs nTe).isSome ((getL hs nTe).getD []) (getL hs nCl).isSome ((getL hs nCl).getD []) (getL hs nEx).isSome ((getL hs nEx).getD []) := rfl
theorem int_bd (l : List UInt8) : -9223372036854775808 ≤ En.intV l ∧ En.intV l ≤ 9223372036854775807 := by
  unfold En.intV
  split
  · next h =>
    have h18 : l.length ≤ 18 := by
      by_cases hh : l.length ≤ 18
      · exact hh
      · rw [En.intOk_18 (by omega)] at h; cases h
    have hb := En.ival_bd l l.length
    have : (10 : Int) ^ l.length ≤ 10 ^ 18 := by
      have := Nat.pow_le_pow_right (show 0 < 10 by omega) h18
      exact_mod_cast this
    have he : (10 : Int) ^ 18 = 1000000000000000000 := by decide
    omega
  · omega
set_option maxRecDepth 20000 in
set_option maxHeartbeats 4000000 in
theorem faultOf_any (a : Option Addr) (hs : List Hd) (cap : Nat) (w : World) (hH : Hdrs w a hs) (hl : hs.length ≤ 1000000000) (hS : Sm hs) :
    Calls Tryz.prog 45 #[.slice a hs.length cap] w fun e w' => e = .returned (.int .i64 (fltL hs)) ∧ Below w.heap.size w w' := by
  have hlt := hS.get nTe
  have hlx := hS.get nEx
  have hlc := hS.get nCl
  have hn1 := all_len hs nHost
  have hn2 := all_len hs nTe
  have hn3 := all_len hs nCl
  rw [flt_eq]
  have HG : ∀ n W, Below w.heap.size w W → Calls Tryz.prog 16 #[.slice a hs.length cap, .string ⟨n.toArray⟩] W fun e w' => e = .returned (.tuple #[.string ⟨((getL hs n).getD []).toArray⟩, .bool (getL hs n).isSome]) ∧ Below w.heap.size w w' := fun n W hW =>
    (get_any a hs cap n W (hH.below hW (Nat.le_refl _)) hl).mono fun e w' ⟨h1, h2⟩ => ⟨h1, hW.trans (h2.mono hW.size)⟩
  have HA : ∀ n W, Below w.heap.size w W → Calls Tryz.prog 18 #[.slice a hs.length cap, .string ⟨n.toArray⟩] W fun e w' => ∃ b c, e = .returned (.slice b (allL hs n).length c) ∧ Below w.heap.size w w' := fun n W hW => by
    refine (all_any a hs cap n W (hH.below hW (Nat.le_refl _)) hl).mono ?_
    rintro e w' ⟨v, rfl, ho, hb⟩
    obtain ⟨b, c, rfl, _⟩ := ho.strs
    exact ⟨b, c, by rw [toB_len], hW.trans (hb.mono hW.size)⟩
  have G1 := (show Hid _ from HG nTe)
  have G2 := (show Hid _ from HG nCl)
  have G3 := (show Hid _ from HG nEx)
  have A1 := (show Hid _ from HA nHost)
  have A2 := (show Hid _ from HA nTe)
  have A3 := (show Hid _ from HA nCl)
  generalize (allL hs nHost).length = nh at *
  generalize (allL hs nTe).length = nt at *
  generalize (allL hs nCl).length = nc at *
  generalize (getL hs nTe).isSome = tb at *
  generalize (getL hs nTe).getD [] = tv at *
  generalize (getL hs nCl).isSome = cb at *
  generalize (getL hs nCl).getD [] = cv at *
  generalize (getL hs nEx).isSome = xb at *
  generalize (getL hs nEx).getD [] = xv at *
  have HI : Hid (∀ W, Calls Tryz.prog 46 #[.string ⟨cv.toArray⟩] W fun e w' => e = .returned (.tuple #[.int .i64 (En.intV cv), .bool (En.intOk cv)]) ∧ W = w') := fun W => En.int_any ⟨cv.toArray⟩ W (by rw [mk_size]; omega)
  have HLo : Hid (∀ x : List UInt8, x.length ≤ 1000000000 → ∀ W, Below w.heap.size w W → Calls Tryz.prog 67 #[.string ⟨x.toArray⟩] W fun e w' => e = .returned (.string ⟨(lowL x).toArray⟩) ∧ Below w.heap.size w w') := fun x hx W hW =>
    (lower_any ⟨x.toArray⟩ W (by rw [mk_size]; omega)).mono fun e w' ⟨h1, h2⟩ => ⟨h1, hW.trans (h2.mono hW.size)⟩
  have L1 := (show Hid _ from HLo.out tv hlt)
  have L2 := (show Hid _ from HLo.out xv hlx)
  have hib := int_bd cv
  clear HG HA hH hS HLo hlt hlx hlc
  unfold nTe at G1 A2
  unfold nCl at G2 A3
  unfold nEx at G3
  unfold nHost at A1
  have HF : Hid (∀ z, fltN nh nt nc tb tv cb cv xb xv = z → fltN nh nt nc tb tv cb cv xb xv = z) := fun z h => h
  clear HF
  obtain ⟨R, hR⟩ : ∃ R, R = fltN nh nt nc tb tv cb cv xb xv := ⟨_, rfl⟩
  rw [← hR]
  unfold fltN at hR
  have HR := (show Hid _ from hR)
  clear hR
  go_enter Tryz.func45, Tryz.ntmps45
  go_wp2_with fail
  refine Calls.mono (G1.out w (Below.refl _ _)) ?_
  rintro e w1 ⟨rfl, hb1⟩
  go_wp2_with fail
  refine Calls.mono (G2.out w1 hb1) ?_
  rintro e w2 ⟨rfl, hb2⟩
  clear hb1
  go_wp2_with fail
  refine Calls.mono (G3.out w2 hb2) ?_
  rintro e w3 ⟨rfl, hb3⟩
  clear hb2
  go_wp2_with fail
  refine Calls.mono (HI.out w3) ?_
  rintro e w3' ⟨rfl, rfl⟩
  generalize En.intV cv = iv at *
  generalize En.intOk cv = io at *
  go_wp2_with fail
  refine Calls.mono (A1.out w3 hb3) ?_
  rintro e w4 ⟨b4, c4, rfl, hb4⟩
  clear hb3 G1 G2 G3 A1 HI
  by_cases h1 : nh = 1
  · have h1i : ((nh : Int) == 1) = true := by rw [beq_iff_eq]; omega
    by_cases h2 : tb = true ∧ cb = true
    · obtain ⟨rfl, rfl⟩ := h2
      have HQ : Hid (R = 308) := by show _ = _; rw [HR.out, if_pos (.inr (.inl ⟨rfl, rfl⟩))]
      go_wp2
      go_ret
      rw [HQ.out]
      exact ⟨rfl, hb4⟩
    · have h2' : tb = false ∨ (tb = true ∧ cb = false) := by cases tb <;> cases cb <;> simp_all
      rcases h2' with rfl | ⟨rfl, rfl⟩
      · go_wp2_with fail
        refine Calls.mono (A2.out w4 hb4) ?_
        rintro e w5 ⟨b5, c5, rfl, hb5⟩
        by_cases h3 : 1 < nt
        · have h3i : (1 : Int) < (nt : Int) := by omega
          have HQ : Hid (R = 308) := by show _ = _; rw [HR.out, if_pos (.inr (.inr h3))]
          clear HR
          go_wp2
          go_ret
          rw [HQ.out]
          exact ⟨rfl, hb5⟩
        · have h3i : ¬ (1 : Int) < (nt : Int) := by omega
          have h4 : True := trivial
          clear h2
          go_wp2_with fail
          refine Calls.mono (A3.out _ hb5) ?_
          rintro e w8 ⟨b8, c8, rfl, hb8⟩
          have HR3 : Hid (R = if 1 < nc ∨ (cb = true ∧ io = false) then 308 else if 1048576 < iv then 324 else if xb = true ∧ lowL xv ≠ tCont then 337 else 0) := by
            show _ = _
            rw [HR.out, if_neg (by rintro (h | ⟨h, h'⟩ | h) <;> first | exact h h1 | exact h3 h | cases h | cases h'), if_neg (by rintro ⟨h, h'⟩; first | cases h | exact h.elim)]
          clear HR
          by_cases h5 : 1 < nc
          · have h5i : (1 : Int) < (nc : Int) := by omega
            have HQ : Hid (R = 308) := by show _ = _; rw [HR3.out, if_pos (.inl h5)]
            clear HR3
            go_wp2
            go_ret
            rw [HQ.out]
            exact ⟨rfl, hb8⟩
          · have h5i : ¬ (1 : Int) < (nc : Int) := by omega
            by_cases h6 : cb = true ∧ io = false
            · obtain ⟨h6a, rfl⟩ := h6
              subst h6a
              have HQ : Hid (R = 308) := by show _ = _; rw [HR3.out, if_pos (.inr ⟨rfl, rfl⟩)]
              clear HR3
              go_wp2
              go_ret
              rw [HQ.out]
              exact ⟨rfl, hb8⟩
            · have HR4 : Hid (R = if 1048576 < iv then 324 else if xb = true ∧ lowL xv ≠ tCont then 337 else 0) := by
                show _ = _
                rw [HR3.out, if_neg (by rintro (h | h); exact h5 h; exact h6 h)]
              clear HR3
              have h6' : cb = false ∨ (cb = true ∧ io = true) := by cases io <;> first | (simp at h6; exact .inl h6) | (cases cb <;> simp)
              clear h6
              by_cases h7 : 1048576 < iv
              · have HQ : Hid (R = 324) := by show _ = _; rw [HR4.out, if_pos h7]
                clear HR4
                rcases h6' with rfl | ⟨rfl, rfl⟩
                all_goals
                  go_wp2
                  go_ret
                  rw [HQ.out]
                  exact ⟨rfl, hb8⟩
              · have HR5 : Hid (R = if xb = true ∧ lowL xv ≠ tCont then 337 else 0) := by
                  show _ = _
                  rw [HR4.out, if_neg h7]
                clear HR4
                cases xb
                · have HQ : Hid (R = 0) := by show _ = _; rw [HR5.out, if_neg (by rintro ⟨h, _⟩; cases h)]
                  clear HR5
                  rcases h6' with rfl | ⟨rfl, rfl⟩
                  all_goals
                    go_wp2
                    go_ret
                    rw [HQ.out]
                    exact ⟨rfl, hb8⟩
                · by_cases h9 : lowL xv = tCont
                  · have HQ : Hid (R = 0) := by show _ = _; rw [HR5.out, if_neg (by rintro ⟨_, h⟩; exact h h9)]
                    have h9i : (lowL xv == [49, 48, 48, 45, 99, 111, 110, 116, 105, 110, 117, 101]) = true := by rw [h9]; rfl
                    clear HR5 h9
                    rcases h6' with rfl | ⟨rfl, rfl⟩
                    all_goals
                      go_wp2_with fail
                      refine Calls.mono (L2.out _ hb8) ?_
                      rintro e w9 ⟨rfl, hb9⟩
                      go_wp2
                      go_ret
                      rw [HQ.out]
                      exact ⟨rfl, hb9⟩
                  · have HQ : Hid (R = 337) := by show _ = _; rw [HR5.out, if_pos ⟨rfl, h9⟩]
                    have h9i : (lowL xv == [49, 48, 48, 45, 99, 111, 110, 116, 105, 110, 117, 101]) = false := by rw [beq_eq_false_iff_ne]; exact h9
                    clear HR5 h9
                    rcases h6' with rfl | ⟨rfl, rfl⟩
                    all_goals
                      go_wp2_with fail
                      refine Calls.mono (L2.out _ hb8) ?_
                      rintro e w9 ⟨rfl, hb9⟩
                      go_wp2
                      go_ret
                      rw [HQ.out]
                      exact ⟨rfl, hb9⟩
      · go_wp2_with fail
        refine Calls.mono (A2.out w4 hb4) ?_
        rintro e w5 ⟨b5, c5, rfl, hb5⟩
        by_cases h3 : 1 < nt
        · have h3i : (1 : Int) < (nt : Int) := by omega
          have HQ : Hid (R = 308) := by show _ = _; rw [HR.out, if_pos (.inr (.inr h3))]
          clear HR
          go_wp2
          go_ret
          rw [HQ.out]
          exact ⟨rfl, hb5⟩
        · have h3i : ¬ (1 : Int) < (nt : Int) := by omega
          clear h2
          go_wp2_with fail
          refine Calls.mono (L1.out w5 hb5) ?_
          rintro e w6 ⟨rfl, hb6⟩
          by_cases h4 : lowL tv = tChunked
          · have h4i : (lowL tv == [99, 104, 117, 110, 107, 101, 100]) = true := by rw [h4]; rfl
            go_wp2_with fail
            refine Calls.mono (A3.out _ hb6) ?_
            rintro e w8 ⟨b8, c8, rfl, hb8⟩
            have HR3 : Hid (R = if 1 < nc ∨ (false = true ∧ io = false) then 308 else if 1048576 < iv then 324 else if xb = true ∧ lowL xv ≠ tCont then 337 else 0) := by
              show _ = _
              rw [HR.out, if_neg (by simp [h1]; omega), if_neg (by simp [h4])]
            clear HR
            by_cases h5 : 1 < nc
            · have h5i : (1 : Int) < (nc : Int) := by omega
              have HQ : Hid (R = 308) := by show _ = _; rw [HR3.out, if_pos (.inl h5)]
              clear HR3
              go_wp2
              go_ret
              rw [HQ.out]
              exact ⟨rfl, hb8⟩
            · have h5i : ¬ (1 : Int) < (nc : Int) := by omega
              by_cases h6 : false = true ∧ io = false
              · obtain ⟨h6a, rfl⟩ := h6
                cases h6a
              · have HR4 : Hid (R = if 1048576 < iv then 324 else if xb = true ∧ lowL xv ≠ tCont then 337 else 0) := by
                  show _ = _
                  rw [HR3.out, if_neg (by rintro (h | h); exact h5 h; exact h6 h)]
                clear HR3
                have h6' : false = false ∨ (false = true ∧ io = true) := by cases io <;> first | (simp at h6; exact .inl h6) | (cases false <;> simp)
                clear h6
                by_cases h7 : 1048576 < iv
                · have HQ : Hid (R = 324) := by show _ = _; rw [HR4.out, if_pos h7]
                  clear HR4
                  go_wp2
                  go_ret
                  rw [HQ.out]
                  exact ⟨rfl, hb8⟩
                · have HR5 : Hid (R = if xb = true ∧ lowL xv ≠ tCont then 337 else 0) := by
                    show _ = _
                    rw [HR4.out, if_neg h7]
                  clear HR4
                  cases xb
                  · have HQ : Hid (R = 0) := by show _ = _; rw [HR5.out, if_neg (by rintro ⟨h, _⟩; cases h)]
                    clear HR5
                    go_wp2
                    go_ret
                    rw [HQ.out]
                    exact ⟨rfl, hb8⟩
                  · by_cases h9 : lowL xv = tCont
                    · have HQ : Hid (R = 0) := by show _ = _; rw [HR5.out, if_neg (by rintro ⟨_, h⟩; exact h h9)]
                      have h9i : (lowL xv == [49, 48, 48, 45, 99, 111, 110, 116, 105, 110, 117, 101]) = true := by rw [h9]; rfl
                      clear HR5 h9
                      go_wp2_with fail
                      refine Calls.mono (L2.out _ hb8) ?_
                      rintro e w9 ⟨rfl, hb9⟩
                      go_wp2
                      go_ret
                      rw [HQ.out]
                      exact ⟨rfl, hb9⟩
                    · have HQ : Hid (R = 337) := by show _ = _; rw [HR5.out, if_pos ⟨rfl, h9⟩]
                      have h9i : (lowL xv == [49, 48, 48, 45, 99, 111, 110, 116, 105, 110, 117, 101]) = false := by rw [beq_eq_false_iff_ne]; exact h9
                      clear HR5 h9
                      go_wp2_with fail
                      refine Calls.mono (L2.out _ hb8) ?_
                      rintro e w9 ⟨rfl, hb9⟩
                      go_wp2
                      go_ret
                      rw [HQ.out]
                      exact ⟨rfl, hb9⟩
          · have h4i : (lowL tv == [99, 104, 117, 110, 107, 101, 100]) = false := by rw [beq_eq_false_iff_ne]; exact h4
            have HQ : Hid (R = 335) := by show _ = _; rw [HR.out, if_neg (by simp [h1]; omega), if_pos (by simp [h4])]
            clear HR
            go_wp2
            go_ret
            rw [HQ.out]
            exact ⟨rfl, hb6⟩
  · have h1i : ((nh : Int) == 1) = false := by rw [beq_eq_false_iff_ne]; omega
    have HQ : Hid (R = 308) := by show _ = _; rw [HR.out, if_pos (.inl h1)]
    go_wp2
    go_ret
    rw [HQ.out]
    exact ⟨rfl, hb4⟩
end Go.Proofs.YtmodmeabjhaklaaGreatDoor

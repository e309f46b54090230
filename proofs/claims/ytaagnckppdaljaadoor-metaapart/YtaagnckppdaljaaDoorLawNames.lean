/-
  The document's Bucket by its contract; the walk of the statement CharsNames.
-/
import Derived.Test.YtaagnckppdaljaaDoorNames
namespace Go.Proofs.YtaagnckppdaljaaDoor
open Go.RowKit

theorem lodB_iff (c : Int) : lodB c = true ↔ (97 ≤ c ∧ c ≤ 122) ∨ (48 ≤ c ∧ c ≤ 57) := by simp [lodB, digB]
theorem byte_class (c : Int) : (97 ≤ c ∧ c ≤ 122) ∨ (c < 97 ∧ 48 ≤ c ∧ c ≤ 57) ∨ (c < 48 ∧ (c != 45) = true ∧ (c != 46) = true) ∨ c = 45 ∨ c = 46 ∨ (57 < c ∧ c < 97) ∨ 122 < c := by
  simp
  omega
theorem splitS_get {c : UInt8} {s : ByteArray} {j : Nat} (h : j < (splitS c s).length) (h' : j < (splitL c s.data.toList).length) : (splitS c s)[j].data.toList = (splitL c s.data.toList)[j] := by simp [splitS]
theorem all_four {f : List UInt8 → Bool} {M : List (List UInt8)} (h : M.length = 4) : M.all f = (f (M[0]'(by omega)) && (f (M[1]'(by omega)) && (f (M[2]'(by omega)) && f (M[3]'(by omega))))) := by
  match M, h with
  | [a, b, c, d], _ => simp

set_option maxRecDepth 20000 in
set_option maxHeartbeats 2000000 in
theorem refBucket_any (s : ByteArray) (w : World) (_hs : s.size ≤ maxLen) :
    Calls Tryd.prog 39 #[.string s] w fun e w' => e = .returned (.bool (bucketB s.data.toList)) ∧ Below w.heap.size w w' := by
  have hL : s.data.toList.length = s.size := by simp
  have HL : Hid (s.data.toList.length = s.size) := hL
  by_cases h3 : 3 ≤ s.size
  · by_cases h63 : s.size ≤ 63
    · clear hL
      go_enter Tryd.func39, Tryd.ntmps39
      go_wp2
      go_loop [3] (fun i => ∃ k : Nat, k ≤ s.size ∧ i = .int .i64 k ∧ ∀ j, j < k → okAt s.data.toList j) (fun i => s.size - (intOf i).toNat)
      case atStart => exact ⟨0, Nat.zero_le _, rfl, fun j h => by omega⟩
      case round =>
        obtain ⟨k, hk, rfl, hf⟩ := hrel
        have HF : Hid (∀ j, j < k → okAt s.data.toList j) := hf
        clear hf
        by_cases hlt : k < s.size
        · have HOk := okAt_s hlt
          have HNo : Hid (¬ okAt s.data.toList k → bucketB s.data.toList = false) := fun h => bucket_no_at (by rw [HL.out]; exact h3) (by rw [HL.out]; exact hlt) h
          rw [lodB_iff] at HOk
          rcases k with _ | k
          · have HO : Hid (okAt s.data.toList 0 ↔ ((97 ≤ (s[0].toNat : Int) ∧ (s[0].toNat : Int) ≤ 122) ∨ (48 ≤ (s[0].toNat : Int) ∧ (s[0].toNat : Int) ≤ 57))) := by
              constructor
              · intro h
                rcases HOk.1 h with h | ⟨_, h, _⟩
                · exact h
                · exact absurd rfl h
              · intro h
                exact HOk.2 (.inl h)
            clear HOk
            obtain ⟨c, hc⟩ : ∃ c : Int, (s[0].toNat : Int) = c := ⟨_, rfl⟩
            rw [hc] at HO
            have hcl := byte_class c
            rcases hcl with ⟨h1, h2⟩ | ⟨h0, h1, h2⟩ | ⟨h0, h1, h2⟩ | h0 | h0 | ⟨h0, h1⟩ | h0
            · go_wp2
              go_round
              case rel => exact ⟨1, by omega, by go_num, fun j h => by
                obtain rfl : j = 0 := by omega
                exact HO.out.2 (by omega)⟩
              case measure => simp [intOf]; omega
            · go_wp2
              go_round
              case rel => exact ⟨1, by omega, by go_num, fun j h => by
                obtain rfl : j = 0 := by omega
                exact HO.out.2 (by omega)⟩
              case measure => simp [intOf]; omega
            · go_wp2
              go_ret
              exact ⟨ret_bool (HNo.out (fun h => by have := HO.out.1 h; omega)).symm, Below.refl _ _⟩
            · subst h0
              go_wp2
              go_ret
              exact ⟨ret_bool (HNo.out (fun h => by have := HO.out.1 h; omega)).symm, Below.refl _ _⟩
            · subst h0
              go_wp2
              go_ret
              exact ⟨ret_bool (HNo.out (fun h => by have := HO.out.1 h; omega)).symm, Below.refl _ _⟩
            · have h2 : (c != 45) = true := by simp; omega
              have h3 : (c != 46) = true := by simp; omega
              have h4 : decide (c ≤ 57) = false := decide_eq_false (by omega)
              go_wp2
              go_ret
              exact ⟨ret_bool (HNo.out (fun h => by have := HO.out.1 h; omega)).symm, Below.refl _ _⟩
            · have h2 : (c != 45) = true := by simp; omega
              have h3 : (c != 46) = true := by simp; omega
              have h4 : decide (c ≤ 57) = false := decide_eq_false (by omega)
              have h5 : decide (c ≤ 122) = false := decide_eq_false (by omega)
              go_wp2
              go_ret
              exact ⟨ret_bool (HNo.out (fun h => by have := HO.out.1 h; omega)).symm, Below.refl _ _⟩
          · have hlt' : k < s.size := by omega
            have hp : at0 s.data.toList (k + 1 - 1) = s[k].toNat := at0_s hlt'
            rw [hp] at HOk
            have HO : Hid (okAt s.data.toList (k + 1) ↔ (((97 ≤ (s[k + 1].toNat : Int) ∧ (s[k + 1].toNat : Int) ≤ 122) ∨ (48 ≤ (s[k + 1].toNat : Int) ∧ (s[k + 1].toNat : Int) ≤ 57)) ∨ (((s[k + 1].toNat : Int) = 45 ∨ (s[k + 1].toNat : Int) = 46) ∧ ((k : Int) + 1 ≠ (s.size : Int) - 1) ∧ ¬ ((s[k + 1].toNat : Int) = 46 ∧ (s[k].toNat : Int) = 46)))) := by
              constructor
              · intro h
                rcases HOk.1 h with h | ⟨h1, _, h3, h4⟩
                · exact .inl h
                · exact .inr ⟨h1, by omega, by omega⟩
              · rintro (h | ⟨h1, h3, h4⟩)
                · exact HOk.2 (.inl h)
                · exact HOk.2 (.inr ⟨h1, by omega, by omega, by omega⟩)
            clear HOk hp
            obtain ⟨c, hc⟩ : ∃ c : Int, (s[k + 1].toNat : Int) = c := ⟨_, rfl⟩
            obtain ⟨d, hd⟩ : ∃ d : Int, (s[k].toNat : Int) = d := ⟨_, rfl⟩
            rw [hc, hd] at HO
            have hz : ((k : Int) + 1 == 0) = false := by simp; omega
            have hcl := byte_class c
            rcases hcl with ⟨h1, h2⟩ | ⟨h0, h1, h2⟩ | ⟨h0, h1, h2⟩ | h0 | h0 | ⟨h0, h1⟩ | h0
            · go_wp2
              go_round
              case rel => exact ⟨k + 2, by omega, by go_num, fun j h => by
                by_cases e : j = k + 1
                · subst e
                  exact HO.out.2 (by omega)
                · exact HF.out j (by omega)⟩
              case measure => simp [intOf]; omega
            · go_wp2
              go_round
              case rel => exact ⟨k + 2, by omega, by go_num, fun j h => by
                by_cases e : j = k + 1
                · subst e
                  exact HO.out.2 (by omega)
                · exact HF.out j (by omega)⟩
              case measure => simp [intOf]; omega
            · have HCC : Hid (c ≠ 45 ∧ c ≠ 46) := ⟨by simpa using h1, by simpa using h2⟩
              go_wp2
              go_ret
              exact ⟨ret_bool (HNo.out (fun h => by have := HO.out.1 h; have := HCC.out; omega)).symm, Below.refl _ _⟩
            · subst h0
              by_cases hl : (k : Int) + 1 = (s.size : Int) - 1
              · have hl' : ((k : Int) + 1 == (s.size : Int) - 1) = true := by simp; omega
                have HLS : Hid ((k : Int) + 1 = (s.size : Int) - 1) := hl
                clear hl
                go_wp2
                go_ret
                exact ⟨ret_bool (HNo.out (fun h => by have := HO.out.1 h; have := HLS.out; omega)).symm, Below.refl _ _⟩
              · have hl' : ((k : Int) + 1 == (s.size : Int) - 1) = false := by simp; omega
                have HLS : Hid (¬ (k : Int) + 1 = (s.size : Int) - 1) := hl
                clear hl
                go_wp2
                go_round
                case rel => exact ⟨k + 2, by omega, by go_num, fun j h => by
                  by_cases e : j = k + 1
                  · subst e
                    exact HO.out.2 (by have := HLS.out; omega)
                  · exact HF.out j (by omega)⟩
                case measure => simp [intOf]; omega
            · subst h0
              by_cases hl : (k : Int) + 1 = (s.size : Int) - 1
              · have hl' : ((k : Int) + 1 == (s.size : Int) - 1) = true := by simp; omega
                have HLS : Hid ((k : Int) + 1 = (s.size : Int) - 1) := hl
                clear hl
                go_wp2
                go_ret
                exact ⟨ret_bool (HNo.out (fun h => by have := HO.out.1 h; have := HLS.out; omega)).symm, Below.refl _ _⟩
              · have hl' : ((k : Int) + 1 == (s.size : Int) - 1) = false := by simp; omega
                have HLS : Hid (¬ (k : Int) + 1 = (s.size : Int) - 1) := hl
                clear hl
                by_cases h46 : d = 46
                · subst h46
                  go_wp2
                  go_ret
                  exact ⟨ret_bool (HNo.out (fun h => by have := HO.out.1 h; revert this; simp)).symm, Below.refl _ _⟩
                · have h46' : (d == 46) = false := by simp [h46]
                  have H46 : Hid (¬ d = 46) := h46
                  clear h46
                  go_wp2
                  go_round
                  case rel => exact ⟨k + 2, by omega, by go_num, fun j h => by
                    by_cases e : j = k + 1
                    · subst e
                      exact HO.out.2 (by have := HLS.out; have := H46.out; omega)
                    · exact HF.out j (by omega)⟩
                  case measure => simp [intOf]; omega
            · have h2 : (c != 45) = true := by simp; omega
              have h3 : (c != 46) = true := by simp; omega
              have h4 : decide (c ≤ 57) = false := decide_eq_false (by omega)
              go_wp2
              go_ret
              exact ⟨ret_bool (HNo.out (fun h => by have := HO.out.1 h; omega)).symm, Below.refl _ _⟩
            · have h2 : (c != 45) = true := by simp; omega
              have h3 : (c != 46) = true := by simp; omega
              have h4 : decide (c ≤ 57) = false := decide_eq_false (by omega)
              have h5 : decide (c ≤ 122) = false := decide_eq_false (by omega)
              go_wp2
              go_ret
              exact ⟨ret_bool (HNo.out (fun h => by have := HO.out.1 h; omega)).symm, Below.refl _ _⟩
        · obtain rfl : k = s.size := by omega
          have HY : Hid (bucketB s.data.toList = !(decide ((splitL 46 s.data.toList).length = 4) && (splitL 46 s.data.toList).all digsB)) := bucket_yes (by rw [HL.out]; exact h3) (by rw [HL.out]; exact h63) (fun i hi => HF.out i (by rw [HL.out] at hi; exact hi))
          have HSp : Hid (Calls Tryd.prog 56 #[.string s, .int .u8 46] w fun e w' => ∃ v, e = .returned v ∧ OwnS w' w.heap.size v (splitS 46 s) ∧ Below w.heap.size w w') := refSplit_any s 46 w (by omega)
          clear HF
          go_wp2_with fail
          refine HSp.out.mono ?_
          rintro e w1 ⟨v, rfl, ho, hb1⟩
          obtain ⟨a, cap, rfl, hst⟩ := ho.strs
          have HLn : Hid ((splitS 46 s).length = (splitL 46 s.data.toList).length) := by
            show (splitS 46 s).length = _
            rw [splitS, List.length_map]
          clear ho HSp
          by_cases h4 : (splitS 46 s).length = 4
          · obtain ⟨g, off, rfl, hgl, hcs⟩ := hst.at (k := 0) (by omega)
            have hl4 : (splitL 46 s.data.toList).length = 4 := by rw [← HLn.out]; exact h4
            have HY2 : Hid (bucketB s.data.toList = !(digsB ((splitL 46 s.data.toList)[0]'(by omega)) && (digsB ((splitL 46 s.data.toList)[1]'(by omega)) && (digsB ((splitL 46 s.data.toList)[2]'(by omega)) && digsB ((splitL 46 s.data.toList)[3]'(by omega)))))) := by
              show bucketB _ = _
              rw [HY.out, all_four hl4]
              simp [hl4]
            have hD : ∀ j (h : j < (splitS 46 s).length) (h' : j < (splitL 46 s.data.toList).length) (W : World), Calls Tryd.prog 57 #[.string (splitS 46 s)[j]] W fun e w' => e = .returned (.bool (digsB (splitL 46 s.data.toList)[j])) ∧ W = w' := fun j h h' W => by
              have hsz : (splitS 46 s)[j].size ≤ maxLen := by
                have e : (splitS 46 s)[j].size = (splitS 46 s)[j].data.toList.length := by simp
                rw [e, splitS_get h h']
                have := piece_size (List.getElem_mem h')
                unfold maxLen
                rw [HL.out] at this
                omega
              have := refDigits_any (splitS 46 s)[j] W hsz
              rw [splitS_get h h'] at this
              exact this
            have D0 := hD 0 (by omega) (by omega)
            have D1 := hD 1 (by omega) (by omega)
            have D2 := hD 2 (by omega) (by omega)
            have D3 := hD 3 (by omega) (by omega)
            have c0 := hcs 0 (by omega)
            have c1 := hcs 1 (by omega)
            have c2 := hcs 2 (by omega)
            have c3 := hcs 3 (by omega)
            rw [Nat.add_zero] at c0
            generalize (splitS 46 s)[0]'(by omega) = t0 at *
            generalize (splitS 46 s)[1]'(by omega) = t1 at *
            generalize (splitS 46 s)[2]'(by omega) = t2 at *
            generalize (splitS 46 s)[3]'(by omega) = t3 at *
            generalize digsB ((splitL 46 s.data.toList)[0]'(by omega)) = q0 at *
            generalize digsB ((splitL 46 s.data.toList)[1]'(by omega)) = q1 at *
            generalize digsB ((splitL 46 s.data.toList)[2]'(by omega)) = q2 at *
            generalize digsB ((splitL 46 s.data.toList)[3]'(by omega)) = q3 at *
            rw [h4]
            clear hD hcs hst hl4 h4 HLn HY
            have E0 : Hid (∀ W, Calls Tryd.prog 57 #[.string t0] W fun e w' => e = .returned (.bool q0) ∧ W = w') := D0
            have E1 : Hid (∀ W, Calls Tryd.prog 57 #[.string t1] W fun e w' => e = .returned (.bool q1) ∧ W = w') := D1
            have E2 : Hid (∀ W, Calls Tryd.prog 57 #[.string t2] W fun e w' => e = .returned (.bool q2) ∧ W = w') := D2
            have E3 : Hid (∀ W, Calls Tryd.prog 57 #[.string t3] W fun e w' => e = .returned (.bool q3) ∧ W = w') := D3
            clear D0 D1 D2 D3
            go_wp2_with fail
            refine (E0.out _).mono ?_
            rintro e w' ⟨rfl, rfl⟩
            cases q0
            · go_wp2
              go_ret
              exact ⟨ret_bool (by rw [HY2.out]; rfl), hb1⟩
            · go_wp2_with fail
              refine (E1.out _).mono ?_
              rintro e w' ⟨rfl, rfl⟩
              cases q1
              · go_wp2
                go_ret
                exact ⟨ret_bool (by rw [HY2.out]; rfl), hb1⟩
              · go_wp2_with fail
                refine (E2.out _).mono ?_
                rintro e w' ⟨rfl, rfl⟩
                cases q2
                · go_wp2
                  go_ret
                  exact ⟨ret_bool (by rw [HY2.out]; rfl), hb1⟩
                · go_wp2_with fail
                  refine (E3.out _).mono ?_
                  rintro e w' ⟨rfl, rfl⟩
                  go_wp2
                  go_ret
                  exact ⟨ret_bool (by rw [HY2.out]; simp), hb1⟩
          · have hq : (((splitS 46 s).length : Int) == 4) = false := by simp; omega
            have HN : Hid (bucketB s.data.toList = true) := by
              show bucketB _ = true
              rw [HY.out, ← HLn.out]
              simp [h4]
            clear h4 hst
            go_wp2
            go_ret
            exact ⟨ret_bool HN.out.symm, hb1⟩
    · have HN : Hid (bucketB s.data.toList = false) := bucket_no_len (by rw [lenB, hL]; simp; omega)
      have h63' : ¬ ((s.size : Int) ≤ 63) := by omega
      clear hL
      go_enter Tryd.func39, Tryd.ntmps39
      go_wp2
      go_ret
      exact ⟨ret_bool HN.out.symm, Below.refl _ _⟩
  · have HN : Hid (bucketB s.data.toList = false) := bucket_no_len (by rw [lenB, hL]; simp; omega)
    have h3' : (s.size : Int) < 3 := by omega
    clear hL
    go_enter Tryd.func39, Tryd.ntmps39
    go_wp2
    go_ret
    exact ⟨ret_bool HN.out.symm, Below.refl _ _⟩

end Go.Proofs.YtaagnckppdaljaaDoor

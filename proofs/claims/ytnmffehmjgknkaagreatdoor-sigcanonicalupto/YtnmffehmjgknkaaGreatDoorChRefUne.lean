/-
  The document's Unescape by its contract.
-/
import Derived.Test.YtnmffehmjgknkaaGreatDoorChUne
namespace Go.Proofs.YtnmffehmjgknkaaGreatDoor.Ch
open Go.RowKit

set_option maxRecDepth 20000 in
set_option maxHeartbeats 1000000 in
theorem refUnescape_any (s : ByteArray) (w : World) (hr : s.size ≤ 140737488351232) :
    Calls Tryz.prog 40 #[.string s] w fun e w' => e = .returned (.tuple #[.string ⟨(uneV s.data.toList).toArray⟩, .bool (uneOk s.data.toList)]) ∧ Below w.heap.size w w' := by
  obtain ⟨i0, hi, hz0, hz1, hz2⟩ := info_parts info5
  have hL : s.data.toList.length = s.size := by simp
  have HL : Hid (s.data.toList.length = s.size) := hL
  clear hL
  go_enter Tryz.func40, Tryz.ntmps40
  go_wp2
  go_loopw [4, 5] (fun v i wr => ∃ (k : Nat) (acc : List UInt8), k ≤ s.size ∧ i = .int .i64 k ∧ acc.length ≤ k ∧ Own wr w.heap.size v acc ∧ Below w.heap.size w wr ∧ une s.data.toList = (une (s.data.toList.drop k)).map (acc ++ ·))
    (fun _ i _ => s.size - (intOf i).toNat)
  case atStart => exact ⟨0, [], Nat.zero_le _, rfl, Nat.le_refl _, World.ownsRow_nil _ _ _ _, Below.refl _ _, by simp⟩
  case round =>
    obtain ⟨k, acc, hk, rfl, hak, hown, hnx, hc⟩ := hrel
    have hsz := hnx.size
    have HC : Hid (une s.data.toList = (une (s.data.toList.drop k)).map (acc ++ ·)) := hc
    have HO : Hid (Own wr w.heap.size u4 acc) := hown
    clear hc hown
    by_cases hlt : k < s.size
    · have hkl : k < s.data.toList.length := by rw [HL.out]; exact hlt
      by_cases h37 : s[k].toNat = 37
      · have hq : ((s[k].toNat : Int) != 37) = false := by simp; omega
        have H37 : Hid (s.data.toList[k].toNat = 37) := h37
        clear h37
        by_cases h2 : k + 2 < s.size
        · have h2l : k + 2 < s.data.toList.length := by rw [HL.out]; exact h2
          have HT := une_three h2l H37.out
          have e1 : s.data.toList[k + 1] = s[k + 1] := rfl
          have e2 : s.data.toList[k + 2] = s[k + 2] := rfl
          rw [e1, e2] at HT
          clear e1 e2
          have b1 : (s[k + 1].toNat : Int) ≤ 255 := by have := s[k + 1].toNat_lt; omega
          have b2 : (s[k + 2].toNat : Int) ≤ 255 := by have := s[k + 2].toNat_lt; omega
          have HD1 : Hid (∀ W, Calls Tryz.prog 101 #[.int .u8 (s[k + 1].toNat : Int)] W fun e w' => e = .returned (.int .i64 (dgN (N s[k + 1]))) ∧ W = w') := fun W => refDigit_any (N s[k + 1]) W (Int.natCast_nonneg _) b1
          have HD2 : Hid (∀ W, Calls Tryz.prog 101 #[.int .u8 (s[k + 2].toNat : Int)] W fun e w' => e = .returned (.int .i64 (dgN (N s[k + 2]))) ∧ W = w') := fun W => refDigit_any (N s[k + 2]) W (Int.natCast_nonneg _) b2
          have hge : ¬ ((s.size : Int) ≤ (k : Int) + 2) := by omega
          cases o1 : hvOk (N s[k + 1])
          · have d1 : dgN (N s[k + 1]) = -1 := by rw [dgN, o1]; rfl
            rw [o1] at HT
            rw [d1] at HD1
            simp only [Bool.false_and, Bool.false_eq_true, if_false] at HT
            have HZ : Hid (une s.data.toList = none) := by
              have := HC.out
              rw [HT] at this
              exact this
            clear HT d1
            go_wp2_with (first
              | (go_at_call 101; refine (HD1.out _).mono ?_; rintro e w' ⟨rfl, rfl⟩)
              | (go_at_call 101; refine (HD2.out _).mono ?_; rintro e w' ⟨rfl, rfl⟩))
            go_ret2
            exact ⟨ret_sb (by rw [uneV, HZ.out]; rfl) (by rw [uneOk, HZ.out]; rfl), hnx⟩
          · have d1 : dgN (N s[k + 1]) = hvN (N s[k + 1]) := by rw [dgN, o1]; rfl
            have g1 := hv_bd (N s[k + 1])
            rw [o1] at HT
            rw [d1] at HD1
            cases o2 : hvOk (N s[k + 2])
            · have d2 : dgN (N s[k + 2]) = -1 := by rw [dgN, o2]; rfl
              rw [o2] at HT
              rw [d2] at HD2
              simp only [Bool.and_false, Bool.false_eq_true, if_false] at HT
              have HZ : Hid (une s.data.toList = none) := by
                have := HC.out
                rw [HT] at this
                exact this
              clear HT d1 d2
              go_wp2_with (first
                | (go_at_call 101; with_reducible refine (HD1.out _).mono ?_; rintro e w' ⟨rfl, rfl⟩)
                | (go_at_call 101; with_reducible refine (HD2.out _).mono ?_; rintro e w' ⟨rfl, rfl⟩))
              go_ret2
              exact ⟨ret_sb (by rw [uneV, HZ.out]; rfl) (by rw [uneOk, HZ.out]; rfl), hnx⟩
            · have d2 : dgN (N s[k + 2]) = hvN (N s[k + 2]) := by rw [dgN, o2]; rfl
              have g2 := hv_bd (N s[k + 2])
              rw [o2] at HT
              rw [d2] at HD2
              simp only [Bool.and_true, if_true] at HT
              have HP : Hid (bcs [pv s[k + 1] s[k + 2]] = [.int .u8 (16 * hvN (N s[k + 1]) + hvN (N s[k + 2]))]) := pv_cell _ _
              have HU : Hid (une s.data.toList = (une (s.data.toList.drop (k + 3))).map ((acc ++ [pv s[k + 1] s[k + 2]]) ++ ·)) := by
                show une s.data.toList = _
                rw [HC.out, HT, Option.map_map]
                congr 1
                funext x
                simp
              clear HT d1 d2
              go_wp2_with (first
                | (go_at_call 101; with_reducible refine (HD1.out _).mono ?_; rintro e w' ⟨rfl, rfl⟩)
                | (go_at_call 101; with_reducible refine (HD2.out _).mono ?_; rintro e w' ⟨rfl, rfl⟩))
              obtain ⟨k1, hk1⟩ : ∃ k1 : Nat, k1 = k + 1 := ⟨_, rfl⟩
              obtain ⟨k2, hk2⟩ : ∃ k2 : Nat, k2 = k + 2 := ⟨_, rfl⟩
              have hx1 : k1 < s.size := by omega
              have hx2 : k2 < s.size := by omega
              obtain ⟨c1, hc1⟩ : ∃ c1, s[k1] = c1 := ⟨_, rfl⟩
              obtain ⟨c2, hc2⟩ : ∃ c2, s[k2] = c2 := ⟨_, rfl⟩
              have e1 : s[k + 1] = c1 := by subst hk1; exact hc1
              have e2 : s[k + 2] = c2 := by subst hk2; exact hc2
              rw [e1] at HD1 g1
              rw [e2] at HD2 g2
              rw [e1, e2] at HP HU
              clear e1 e2 b1 b2 o1 o2
              have i1 : (k : Int) + 1 = (k1 : Int) := by omega
              have i2 : (k : Int) + 2 = (k2 : Int) := by omega
              have hw1 : IntKind.i64.wrap (k1 : Int) = (k1 : Int) := by rw [IntKind.wrap_i64]; omega
              have hw2 : IntKind.i64.wrap (k2 : Int) = (k2 : Int) := by rw [IntKind.wrap_i64]; omega
              have HK : Hid (k1 = k + 1 ∧ k2 = k + 2) := ⟨hk1, hk2⟩
              have hx1' : (k1 : Int) < (s.size : Int) := by omega
              have hx2' : (k2 : Int) < (s.size : Int) := by omega
              obtain ⟨x1, hX1⟩ : ∃ x1, x1 = hvN (N c1) := ⟨_, rfl⟩
              obtain ⟨x2, hX2⟩ : ∃ x2, x2 = hvN (N c2) := ⟨_, rfl⟩
              rw [← hX1] at HD1 HP g1
              rw [← hX2] at HD2 HP g2
              obtain ⟨x3, hX3⟩ : ∃ x3, (16 : Int) * x1 = x3 := ⟨_, rfl⟩
              obtain ⟨x4, hX4⟩ : ∃ x4, x3 + x2 = x4 := ⟨_, rfl⟩
              rw [hX3, hX4] at HP
              have hw3 : IntKind.i64.wrap x3 = x3 := by rw [IntKind.wrap_i64]; omega
              have hw4 : IntKind.i64.wrap x4 = x4 := by rw [IntKind.wrap_i64]; omega
              have hw5 : IntKind.u8.wrap x4 = x4 := by rw [IntKind.wrap_u8']; omega
              have HX4 : Hid (0 ≤ x4 ∧ x4 ≤ 255) := ⟨by omega, by omega⟩
              clear hk1 hk2 hX1 hX2
              go_region_held3 (fun _ => True) (trivial)
                (first
                  | (go_at_call 101; with_reducible refine (HD1.out _).mono ?_; rintro e w' ⟨rfl, rfl⟩)
                  | (go_at_call 101; with_reducible refine (HD2.out _).mono ?_; rintro e w' ⟨rfl, rfl⟩)
                  | (refine step_append_own rfl (.tmp 43) (.tmp 57) 23 rfl w.heap.size 5 i0 (.int .u8 0) 1 1 Tryz.underlying23 hi hz0 hz1 hz2 rfl (by decide) _ _ _ rfl (World.ownsRow.drew (World.ownsRow.alloc HO.out _)) ⟨wr.heap.size, 0, none⟩ 1 1 [.int .u8 x4] rfl rfl (cell_one_new wr _ _) (one_one _ rfl) (by unfold maxLen; omega) (by omega) (by simp; omega) ?_; intro v1 w1 hown1 hgrow1))
              all_goals
                have HR : Hid (Own w1 w.heap.size v1 (acc ++ [pv c1 c2])) := own_more rfl HP.out hown1
                have hB1 : Below w.heap.size w w1 := ((hnx.alloc hsz _).drew).grown hgrow1 (by simp; omega) (fun j hj => (World.ownsRow.lt HO.out j hj).1)
                clear hown1 hgrow1 hw1 hw2 hw3 hw4 hw5 i1 i2 hX3 hX4
                go_wp2
                go_roundw
                case rel => exact ⟨k + 3, acc ++ [pv c1 c2], by omega, by go_num, by simp; omega, HR.out, hB1, HU.out⟩
                case measure => simp [intOf]; omega
        · have HT := une_short hkl H37.out (by rw [HL.out]; omega)
          have HZ : Hid (une s.data.toList = none) := by
            have := HC.out
            rw [HT] at this
            exact this
          clear HT
          have hge : (s.size : Int) ≤ (k : Int) + 2 := by omega
          go_wp2
          go_ret2
          exact ⟨ret_sb (by rw [uneV, HZ.out]; rfl) (by rw [uneOk, HZ.out]; rfl), hnx⟩
      · have hq : ((s[k].toNat : Int) != 37) = true := by simp; omega
        have HT := une_plain hkl h37
        have HU : Hid (une s.data.toList = (une (s.data.toList.drop (k + 1))).map ((acc ++ [s[k]]) ++ ·)) := by
          show une s.data.toList = _
          rw [HC.out, HT, Option.map_map]
          congr 1
          funext x
          simp
          rfl
        have HP : Hid (bcs [s[k]] = [.int .u8 (s[k].toNat : Int)]) := rfl
        clear HT h37
        go_wp2_with (at_builtin; refine wpList_append_own _ rfl (.tmp 16) (.tmp 20) 23 rfl w.heap.size 5 i0 (.int .u8 0) 1 1 Tryz.underlying23 hi hz0 hz1 hz2 rfl (by decide) _ _ _ rfl (World.ownsRow.alloc HO.out _) ⟨wr.heap.size, 0, none⟩ 1 1 [.int .u8 (s[k].toNat : Int)] rfl rfl (cell_one_new _ _ _) (one_one _ rfl) (by unfold maxLen; omega) (by omega) (by simp; omega) ?_; intro v1 w1 hown1 hgrow1 _)
        have HR : Hid (Own w1 w.heap.size v1 (acc ++ [s[k]])) := own_more rfl HP.out hown1
        have hB1 : Below w.heap.size w w1 := (hnx.alloc hsz _).grown hgrow1 (by simp; omega) (fun j hj => (World.ownsRow.lt HO.out j hj).1)
        clear hown1 hgrow1
        go_wp2
        go_roundw
        case rel => exact ⟨k + 1, acc ++ [s[k]], by omega, by go_num, by simp; omega, HR.out, hB1, HU.out⟩
        case measure => simp [intOf]; omega
    · have HZ : Hid (une s.data.toList = some acc) := by
        have := HC.out
        rw [List.drop_eq_nil_of_le (by rw [HL.out]; omega)] at this
        exact (by simpa [une] using this : une s.data.toList = some acc)
      obtain ⟨a', cap', rfl, hbs⟩ := Own.bytes HO.out
      have hcv := convert_bytes wr a' cap' _ hbs
      clear HC HO
      go_wp2
      go_ret2
      exact ⟨ret_sb (by rw [uneV, HZ.out]; rfl) (by rw [uneOk, HZ.out]; rfl), hnx⟩
end Go.Proofs.YtnmffehmjgknkaaGreatDoor.Ch

/-
  strconv.ParseUint of a few digits, at the bases 10 and 16.
-/
import Derived.Test.YtohkocknpmnakaaGreatDoorRdD
import Derived.Test.YtohkocknpmnakaaGreatDoorShelfB
import Derived.Lib.ConvBytes
namespace Go.Proofs.YtohkocknpmnakaaGreatDoor
open Go.RowKit

/-- strconv.ErrSyntax holds some error. -/
def Er (w : World) : Prop := ∃ ev, w.cell? ⟨3, 0, none⟩ = some ev ∧ (ev = .nilIface ∨ ∃ te pe, ev = .iface te pe)
theorem Er.pos {w : World} (h : Er w) : 3 < w.heap.size := by
  obtain ⟨m, hm, _⟩ := h
  exact block_lt_of_cell hm
theorem Er.md {F : Nat → Prop} {w w' : World} (h : Er w) (hm : Md F w w') (hF : ¬ F 3) : Er w' := by
  have hp := h.pos
  obtain ⟨m, h0, h1⟩ := h
  exact ⟨m, by rw [World.cell?_of_block (w := w) (a := ⟨3, 0, none⟩) (hm.block 3 hp hF)]; exact h0, h1⟩

theorem low_fin : ∀ n : Fin 256, ¬ (48 ≤ n.val ∧ n.val ≤ 57) → (0 ≤ bits .or .u8 (n.val : Int) 32 ∧ bits .or .u8 (n.val : Int) 32 ≤ 255) ∧ ((97 ≤ bits .or .u8 (n.val : Int) 32 ∧ bits .or .u8 (n.val : Int) 32 ≤ 122) → if bits .or .u8 (n.val : Int) 32 < 103 then ((dv (UInt8.ofNat n.val) : Int) = bits .or .u8 (n.val : Int) 32 - 87) else dv (UInt8.ofNat n.val) = 99) ∧ (¬ (97 ≤ bits .or .u8 (n.val : Int) 32 ∧ bits .or .u8 (n.val : Int) 32 ≤ 122) → dv (UInt8.ofNat n.val) = 99) ∧ (n.val = 95 → bits .or .u8 (n.val : Int) 32 = 127) := by decide +kernel
theorem low_facts (c : UInt8) (h : ¬ (48 ≤ c.toNat ∧ c.toNat ≤ 57)) : (0 ≤ bits .or .u8 (c.toNat : Int) 32 ∧ bits .or .u8 (c.toNat : Int) 32 ≤ 255) ∧ ((97 ≤ bits .or .u8 (c.toNat : Int) 32 ∧ bits .or .u8 (c.toNat : Int) 32 ≤ 122) → if bits .or .u8 (c.toNat : Int) 32 < 103 then ((dv c : Int) = bits .or .u8 (c.toNat : Int) 32 - 87) else dv c = 99) ∧ (¬ (97 ≤ bits .or .u8 (c.toNat : Int) 32 ∧ bits .or .u8 (c.toNat : Int) 32 ≤ 122) → dv c = 99) ∧ (c.toNat = 95 → bits .or .u8 (c.toNat : Int) 32 = 127) := by
  have := low_fin ⟨c.toNat, c.toNat_lt⟩ h
  simpa using this
/-- What a reading of digits tells. -/
def PuR (b : Nat) (l : List UInt8) (e : Ending) : Prop :=
  match digs b 0 l with
  | some n => e = .returned (.tuple #[.int .u64 (n : Int), .nilIface])
  | none => e = .returned (.tuple #[.int .u64 0, .iface 145 (.int .i64 2)])
theorem PuR.yes {b : Nat} {l : List UInt8} {e : Ending} {n : Nat} (h : digs b 0 l = some n) (he : e = .returned (.tuple #[.int .u64 (n : Int), .nilIface])) : PuR b l e := by
  unfold PuR; rw [h]; exact he
theorem PuR.no {b : Nat} {l : List UInt8} {e : Ending} (h : digs b 0 l = none) (he : e = .returned (.tuple #[.int .u64 0, .iface 145 (.int .i64 2)])) : PuR b l e := by
  unfold PuR; rw [h]; exact he

set_option maxRecDepth 20000 in
set_option maxHeartbeats 6400000 in
theorem parseUint_any (b : Nat) (hb : b = 10 ∨ b = 16) (s : ByteArray) (w : World) (h1 : 1 ≤ s.size) (h8 : s.size ≤ 8) :
    Calls Tryz.prog 116 #[.string s, .int .i64 (b : Int), .int .i64 32] w fun e w' => PuR b s.data.toList e ∧ Below w.heap.size w w' := by
  have hse : s.toList.isEmpty = false := by
    rw [Lib.toList_data]
    cases h : s.data.toList with
    | nil =>
      have : s.data.toList.length = 0 := by rw [h]; rfl
      have e : s.data.toList.length = s.size := by simp
      omega
    | cons a r => rfl
  have hcv := Lib.run_convert_string_bytes (P := Tryz.prog) w 9 64 5 s (u := .string) Tryz.underlying9 Tryz.underlying64 Tryz.underlying5
  have hB : ∀ j, j < s.size → (Lib.bytesWorld w 5 s).cell? ⟨w.heap.size, j, none⟩ = some (.int .u8 (s.data.toList.getD j 0).toNat) := fun j hj => Lib.bytesWorld_cell w 5 s j hj
  have HB1 : Hid (Below w.heap.size w (Lib.bytesWorld w 5 s)) := ⟨rfl, rfl, rfl, by rw [Lib.bytesWorld_size]; omega, fun b hb => Lib.bytesWorld_at_old w 5 s b hb⟩
  obtain ⟨W1, hW1⟩ : ∃ W1, W1 = Lib.bytesWorld w 5 s := ⟨_, rfl⟩
  rw [← hW1] at hcv hB HB1
  clear hW1
  obtain ⟨bs, hL⟩ : ∃ bs, bs = s.data.toList := ⟨_, rfl⟩
  have hLn : bs.length = s.size := by rw [hL, Lib.size_eq]
  rw [← hL] at hB ⊢
  clear hL
  rcases hb with rfl | rfl
  · have eB : ((10 : Nat) : Int) = 10 := rfl
    rw [eB]
    clear eB
    go_enter Tryz.func116, Tryz.ntmps116
    go_wp2
    go_loop [12, 13, 101] (fun vu vn vi => ∃ (k acc : Nat) (a : Int), vu = .bool false ∧ vn = .int .u64 a ∧ vi = .int .i64 k ∧ k ≤ s.size ∧ Hid (a = (acc : Int) ∧ acc < 16 ^ k ∧ digs 10 0 bs = digs 10 acc (bs.drop k)))
      (fun _ _ vi => s.size - (intOf vi).toNat)
    case atStart => exact ⟨0, 0, 0, rfl, rfl, rfl, by omega, rfl, by decide, rfl⟩
    case round =>
      obtain ⟨k, acc, a, rfl, rfl, rfl, hk, hh⟩ := hrel
      obtain ⟨ha, hacc, hdec⟩ := hh.out
      clear hh
      by_cases hkn : k < s.size
      · have hpow : 16 ^ k ≤ 268435456 := by
          have : 16 ^ k ≤ 16 ^ 7 := Nat.pow_le_pow_right (by omega) (by omega)
          omega
        have hps : 16 ^ (k + 1) = 16 ^ k * 16 := Nat.pow_succ 16 k
        have a0 : 0 ≤ a := by omega
        have a1 : a < 268435456 := by omega
        have hc := hB k hkn
        have hdrop : bs.drop k = bs[k]'(by omega) :: bs.drop (k + 1) := List.drop_eq_getElem_cons (by omega)
        have hget : bs.getD k 0 = bs[k]'(by omega) := by simp [List.getD, List.getElem?_eq_getElem (show k < bs.length by omega)]
        rw [hdrop] at hdec
        rw [hget] at hc
        generalize bs[k]'(by omega) = c at hc hdec
        have hc256 : c.toNat < 256 := c.toNat_lt
        clear hB hdrop hget
        by_cases hdig : 48 ≤ c.toNat ∧ c.toNat ≤ 57
        · obtain ⟨hd0, hd1⟩ := hdig
          have hdv : dv c = c.toNat - 48 := by unfold dv; rw [if_pos ⟨hd0, hd1⟩]
          have HN : Hid (a * 10 + ((c.toNat : Int) - 48) = ((acc * 10 + (c.toNat - 48) : Nat) : Int) ∧ acc * 10 + (c.toNat - 48) < 16 ^ (k + 1) ∧ digs 10 0 bs = digs 10 (acc * 10 + (c.toNat - 48)) (bs.drop (k + 1))) := by
            refine ⟨by omega, by omega, ?_⟩
            rw [hdec]
            simp only [digs]
            rw [if_pos (by omega), hdv, Nat.mul_comm 10 acc]
          clear hdv hacc hdec ha hpow hps
          go_wp2
          refine ⟨⟨k + 1, acc * 10 + (c.toNat - 48), a * 10 + ((c.toNat : Int) - 48), rfl, (by first | rfl | (congr 1; omega)), (by first | rfl | (congr 1; omega)), by omega, HN⟩, by simp [intOf]; omega⟩
        · obtain ⟨⟨hv0, hv1⟩, hl1, hl2, h95⟩ := low_facts c hdig
          generalize hq : bits .or .u8 (c.toNat : Int) 32 = q at *
          have HLW := (show Hid (∀ W, Calls Tryz.prog 120 #[.int .u8 (c.toNat : Int)] W fun e w' => e = .returned (.int .u8 q) ∧ w' = W) from fun W => by rw [← hq]; exact internal_strconv_lower _ _)
          clear hq
          have hnd : (c.toNat : Int) < 48 ∨ (57 : Int) < (c.toNat : Int) := by omega
          by_cases hq1 : 97 ≤ q ∧ q ≤ 122
          · have hl := hl1 hq1
            obtain ⟨hqa, hqb⟩ := hq1
            by_cases hq2 : q < 97
            · omega
            · have HN : Hid (digs 10 0 bs = none) := by
                show _ = _
                rw [hdec]
                simp only [digs]
                rw [if_neg]
                split at hl <;> omega
              have h95' : ((c.toNat : Int) == 95) = false := by
                rw [beq_eq_false_iff_ne]
                intro e
                have := h95 (by omega)
                omega
              clear hacc hdec ha hpow hps hl hl1 hl2 hdig h95
              rcases hnd with hnd | hnd
              all_goals
                go_wp2_with (go_at_call 120; refine (HLW.out _).mono ?_; rintro e w' ⟨rfl, rfl⟩)
                go_ret2
                exact ⟨PuR.no HN.out rfl, HB1.out⟩
          · have hl := hl2 hq1
            have HN : Hid (digs 10 0 bs = none) := by
              show _ = _
              rw [hdec]
              simp only [digs]
              rw [if_neg (by omega)]
            by_cases hc95 : c.toNat = 95
            · obtain rfl : q = 127 := h95 hc95
              rw [hc95] at hc HLW
              have hc95i : ((95 : Nat) : Int) = 95 := rfl
              rw [hc95i] at hc HLW
              clear hacc hdec ha hpow hps hl hl1 hl2 hdig h95 hc95 hc95i hq1 hv0 hv1 hnd
              go_wp2_with (go_at_call 120; refine (HLW.out _).mono ?_; rintro e w' ⟨rfl, rfl⟩)
              all_goals go_ret2
              all_goals exact ⟨PuR.no HN.out rfl, HB1.out⟩
            · have h95' : ((c.toNat : Int) == 95) = false := by
                rw [beq_eq_false_iff_ne]
                omega
              clear hacc hdec ha hpow hps hl hl1 hl2 hdig h95 hc95
              rcases hnd with hnd | hnd
              all_goals
                go_wp2_with (go_at_call 120; refine (HLW.out _).mono ?_; rintro e w' ⟨rfl, rfl⟩)
                all_goals go_ret2
                all_goals exact ⟨PuR.no HN.out rfl, HB1.out⟩
      · have hkk : k = s.size := by omega
        subst hkk
        have HN : Hid (digs 10 0 bs = some acc) := by
          show _ = _
          rw [hdec, List.drop_eq_nil_of_le (by omega)]
          rfl
        subst ha
        clear hacc hdec
        go_wp2
        go_ret2
        exact ⟨PuR.yes HN.out rfl, HB1.out⟩
  · have eB : ((16 : Nat) : Int) = 16 := rfl
    rw [eB]
    clear eB
    go_enter Tryz.func116, Tryz.ntmps116
    go_wp2
    go_loop [12, 13, 101] (fun vu vn vi => ∃ (k acc : Nat) (a : Int), vu = .bool false ∧ vn = .int .u64 a ∧ vi = .int .i64 k ∧ k ≤ s.size ∧ Hid (a = (acc : Int) ∧ acc < 16 ^ k ∧ digs 16 0 bs = digs 16 acc (bs.drop k)))
      (fun _ _ vi => s.size - (intOf vi).toNat)
    case atStart => exact ⟨0, 0, 0, rfl, rfl, rfl, by omega, rfl, by decide, rfl⟩
    case round =>
      obtain ⟨k, acc, a, rfl, rfl, rfl, hk, hh⟩ := hrel
      obtain ⟨ha, hacc, hdec⟩ := hh.out
      clear hh
      by_cases hkn : k < s.size
      · have hpow : 16 ^ k ≤ 268435456 := by
          have : 16 ^ k ≤ 16 ^ 7 := Nat.pow_le_pow_right (by omega) (by omega)
          omega
        have hps : 16 ^ (k + 1) = 16 ^ k * 16 := Nat.pow_succ 16 k
        have a0 : 0 ≤ a := by omega
        have a1 : a < 268435456 := by omega
        have hc := hB k hkn
        have hdrop : bs.drop k = bs[k]'(by omega) :: bs.drop (k + 1) := List.drop_eq_getElem_cons (by omega)
        have hget : bs.getD k 0 = bs[k]'(by omega) := by simp [List.getD, List.getElem?_eq_getElem (show k < bs.length by omega)]
        rw [hdrop] at hdec
        rw [hget] at hc
        generalize bs[k]'(by omega) = c at hc hdec
        have hc256 : c.toNat < 256 := c.toNat_lt
        clear hB hdrop hget
        by_cases hdig : 48 ≤ c.toNat ∧ c.toNat ≤ 57
        · obtain ⟨hd0, hd1⟩ := hdig
          have hdv : dv c = c.toNat - 48 := by unfold dv; rw [if_pos ⟨hd0, hd1⟩]
          have HN : Hid (a * 16 + ((c.toNat : Int) - 48) = ((acc * 16 + (c.toNat - 48) : Nat) : Int) ∧ acc * 16 + (c.toNat - 48) < 16 ^ (k + 1) ∧ digs 16 0 bs = digs 16 (acc * 16 + (c.toNat - 48)) (bs.drop (k + 1))) := by
            refine ⟨by omega, by omega, ?_⟩
            rw [hdec]
            simp only [digs]
            rw [if_pos (by omega), hdv, Nat.mul_comm 16 acc]
          clear hdv hacc hdec ha hpow hps
          go_wp2
          refine ⟨⟨k + 1, acc * 16 + (c.toNat - 48), a * 16 + ((c.toNat : Int) - 48), rfl, (by first | rfl | (congr 1; omega)), (by first | rfl | (congr 1; omega)), by omega, HN⟩, by simp [intOf]; omega⟩
        · obtain ⟨⟨hv0, hv1⟩, hl1, hl2, h95⟩ := low_facts c hdig
          generalize hq : bits .or .u8 (c.toNat : Int) 32 = q at *
          have HLW := (show Hid (∀ W, Calls Tryz.prog 120 #[.int .u8 (c.toNat : Int)] W fun e w' => e = .returned (.int .u8 q) ∧ w' = W) from fun W => by rw [← hq]; exact internal_strconv_lower _ _)
          clear hq
          have hnd : (c.toNat : Int) < 48 ∨ (57 : Int) < (c.toNat : Int) := by omega
          by_cases hq1 : 97 ≤ q ∧ q ≤ 122
          · have hl := hl1 hq1
            obtain ⟨hqa, hqb⟩ := hq1
            by_cases hq2 : q < 103
            · rw [if_pos (by omega)] at hl
              have HN : Hid (a * 16 + (q - 97 + 10) = ((acc * 16 + dv c : Nat) : Int) ∧ acc * 16 + dv c < 16 ^ (k + 1) ∧ digs 16 0 bs = digs 16 (acc * 16 + dv c) (bs.drop (k + 1))) := by
                refine ⟨by omega, by omega, ?_⟩
                rw [hdec]
                simp only [digs]
                rw [if_pos (by omega), Nat.mul_comm 16 acc]
              have h95' : ((c.toNat : Int) == 95) = false := by
                rw [beq_eq_false_iff_ne]
                intro e
                have := h95 (by omega)
                omega
              clear hacc hdec ha hpow hps hl hl1 hl2 hdig h95
              rcases hnd with hnd | hnd
              all_goals
                go_wp2_with (go_at_call 120; refine (HLW.out _).mono ?_; rintro e w' ⟨rfl, rfl⟩)
                refine ⟨⟨k + 1, acc * 16 + dv c, a * 16 + (q - 97 + 10), rfl, (by first | rfl | (congr 1; omega)), (by first | rfl | (congr 1; omega)), by omega, HN⟩, by simp [intOf]; omega⟩
            · have HN : Hid (digs 16 0 bs = none) := by
                show _ = _
                rw [hdec]
                simp only [digs]
                rw [if_neg]
                split at hl <;> omega
              have h95' : ((c.toNat : Int) == 95) = false := by
                rw [beq_eq_false_iff_ne]
                intro e
                have := h95 (by omega)
                omega
              clear hacc hdec ha hpow hps hl hl1 hl2 hdig h95
              rcases hnd with hnd | hnd
              all_goals
                go_wp2_with (go_at_call 120; refine (HLW.out _).mono ?_; rintro e w' ⟨rfl, rfl⟩)
                go_ret2
                exact ⟨PuR.no HN.out rfl, HB1.out⟩
          · have hl := hl2 hq1
            have HN : Hid (digs 16 0 bs = none) := by
              show _ = _
              rw [hdec]
              simp only [digs]
              rw [if_neg (by omega)]
            by_cases hc95 : c.toNat = 95
            · obtain rfl : q = 127 := h95 hc95
              rw [hc95] at hc HLW
              have hc95i : ((95 : Nat) : Int) = 95 := rfl
              rw [hc95i] at hc HLW
              clear hacc hdec ha hpow hps hl hl1 hl2 hdig h95 hc95 hc95i hq1 hv0 hv1 hnd
              go_wp2_with (go_at_call 120; refine (HLW.out _).mono ?_; rintro e w' ⟨rfl, rfl⟩)
              all_goals go_ret2
              all_goals exact ⟨PuR.no HN.out rfl, HB1.out⟩
            · have h95' : ((c.toNat : Int) == 95) = false := by
                rw [beq_eq_false_iff_ne]
                omega
              clear hacc hdec ha hpow hps hl hl1 hl2 hdig h95 hc95
              rcases hnd with hnd | hnd
              all_goals
                go_wp2_with (go_at_call 120; refine (HLW.out _).mono ?_; rintro e w' ⟨rfl, rfl⟩)
                all_goals go_ret2
                all_goals exact ⟨PuR.no HN.out rfl, HB1.out⟩
      · have hkk : k = s.size := by omega
        subst hkk
        have HN : Hid (digs 16 0 bs = some acc) := by
          show _ = _
          rw [hdec, List.drop_eq_nil_of_le (by omega)]
          rfl
        subst ha
        clear hacc hdec
        go_wp2
        go_ret2
        exact ⟨PuR.yes HN.out rfl, HB1.out⟩
end Go.Proofs.YtohkocknpmnakaaGreatDoor

/-
  chars.Lower and the document's by their contracts.
-/
import Derived.Test.YtmodmeabjhaklaaGreatDoorTrim
namespace Go.Proofs.YtmodmeabjhaklaaGreatDoor
open Go.RowKit

def low (c : UInt8) : UInt8 := if 65 ≤ c.toNat ∧ c.toNat ≤ 90 then UInt8.ofNat (c.toNat + 32) else c
def lowL (l : List UInt8) : List UInt8 := l.map low
theorem low_up {c : UInt8} (h : 65 ≤ (c.toNat : Int) ∧ (c.toNat : Int) ≤ 90) : ((low c).toNat : Int) = (c.toNat : Int) + 32 := by
  rw [low, if_pos (by omega), UInt8.toNat_ofNat', Nat.mod_eq_of_lt (by omega)]
  omega
theorem low_no {c : UInt8} (h : ¬ (65 ≤ (c.toNat : Int) ∧ (c.toNat : Int) ≤ 90)) : low c = c := by rw [low, if_neg (by omega)]

theorem lower_conv (s : ByteArray) (w : World) : ∃ W1 cap, (convert 9 22 (.string s)).run Tryz.prog w = .ok (.slice (some ⟨w.heap.size, 0, none⟩) s.size cap) W1 ∧ (∀ j (h : j < s.size), W1.cell? ⟨w.heap.size, j, none⟩ = some (.int .u8 (s[j].toNat : Int))) ∧
    (∀ j, j < s.size → W1.frozen? ⟨w.heap.size, j, none⟩ = false) ∧ Below w.heap.size w W1 ∧ w.heap.size < W1.heap.size := by
  refine ⟨_, _, run_bytes_of_string w 9 22 5 s Tryz.underlying9 Tryz.underlying22 Tryz.underlying5, ?_, ?_, ?_, ?_⟩
  · intro j h
    have := World.cell?_alloc_mark w.drew (bytesRow s (grownCap w s.size 0 5)) 5 ((bytesRow s (grownCap w s.size 0 5)).size, (bytesRow s (grownCap w s.size 0 5)).size + 1) j
    rw [show w.drew.heap.size = w.heap.size from rfl] at this
    rw [this, bytesRow, Array.getElem?_append_left (by simpa using h)]
    have hj : j < s.data.size := h
    rw [Array.getElem?_map, Array.getElem?_eq_getElem hj]
    rfl
  · intro j h
    have := World.frozen?_alloc_mark w.drew (bytesRow s (grownCap w s.size 0 5)) 5 (bytesRow s (grownCap w s.size 0 5)).size ((bytesRow s (grownCap w s.size 0 5)).size + 1) j
    rw [show w.drew.heap.size = w.heap.size from rfl] at this
    rw [this]
    have hsz : s.size ≤ (bytesRow s (grownCap w s.size 0 5)).size := by
      rw [bytesRow, Array.size_append, Array.size_map]
      exact Nat.le_add_right _ _
    rw [decide_eq_false (by omega)]
    rfl
  · exact ((Below.refl _ w).drew).alloc (Nat.le_refl _) _
  · show w.heap.size < (w.heap.push _).size
    simp

set_option maxHeartbeats 1000000 in
theorem lower_any (s : ByteArray) (w : World) (hs : s.size ≤ 140737488351232) :
    Calls Tryz.prog 67 #[.string s] w fun e w' => e = .returned (.string ⟨(lowL s.data.toList).toArray⟩) ∧ Below w.heap.size w w' := by
  obtain ⟨W1, cap, hcv, hc0, hf0, hb0, hz0⟩ := lower_conv s w
  have hL : s.data.toList.length = s.size := by simp
  have HL : Hid (s.data.toList.length = s.size) := hL
  clear hL
  have HC0 : Hid (∀ j (h : j < s.size), W1.cell? ⟨w.heap.size, j, none⟩ = some (.int .u8 (s[j].toNat : Int))) := hc0
  have HF0 : Hid (∀ j, j < s.size → W1.frozen? ⟨w.heap.size, j, none⟩ = false) := hf0
  clear hc0 hf0
  go_enter Tryz.func67, Tryz.ntmps67
  go_wp2
  go_loopw [10] (fun i wr => ∃ k : Nat, k ≤ s.size ∧ i = .int .i64 k ∧ (∀ j (h : j < s.size), wr.cell? ⟨w.heap.size, j, none⟩ = some (.int .u8 ((if j < k then low s[j] else s[j]).toNat : Int))) ∧ (∀ j, j < s.size → wr.frozen? ⟨w.heap.size, j, none⟩ = false) ∧ Below w.heap.size w wr ∧ w.heap.size < wr.heap.size)
    (fun i _ => s.size - (intOf i).toNat)
  case atStart => exact ⟨0, Nat.zero_le _, rfl, fun j h => by rw [if_neg (by omega)]; exact HC0.out j h, HF0.out, hb0, hz0⟩
  case round =>
    clear HC0 HF0 hb0 hz0 hcv
    obtain ⟨k, hk, rfl, hc, hf, hnx, hz⟩ := hrel
    have HC : Hid (∀ j (h : j < s.size), wr.cell? ⟨w.heap.size, j, none⟩ = some (.int .u8 ((if j < k then low s[j] else s[j]).toNat : Int))) := hc
    have HF : Hid (∀ j, j < s.size → wr.frozen? ⟨w.heap.size, j, none⟩ = false) := hf
    clear hc hf
    by_cases hlt : k < s.size
    · have hcell : wr.cell? ⟨w.heap.size, k, none⟩ = some (.int .u8 (s[k].toNat : Int)) := by
        have := HC.out k hlt
        rw [if_neg (by omega)] at this
        exact this
      have hfz := HF.out k hlt
      have b1 : (s[k].toNat : Int) ≤ 255 := by have := s[k].toNat_lt; omega
      have HU : Hid (∀ W, Calls Tryz.prog 91 #[.int .u8 (s[k].toNat : Int)] W fun e w' => e = .returned (.bool (upB (s[k].toNat : Int))) ∧ W = w') := fun W => isUpper_any _ W (Int.natCast_nonneg _) b1
      by_cases hu : 65 ≤ (s[k].toNat : Int) ∧ (s[k].toNat : Int) ≤ 90
      · have hub : upB (s[k].toNat : Int) = true := decide_eq_true hu
        have HV : Hid (((low s[k]).toNat : Int) = (s[k].toNat : Int) + 32) := low_up hu
        obtain ⟨hu1, hu2⟩ := hu
        rw [hub] at HU
        clear hub
        go_wp2_with (go_at_call 91; refine (HU.out _).mono ?_; rintro e w' ⟨rfl, rfl⟩)
        go_roundw
        case rel =>
          refine ⟨k + 1, by omega, by go_num, fun j h => ?_, fun j h => ?_, hnx.setCell (by simp) _, by simpa using hz⟩
          · by_cases e : j = k
            · subst e
              rw [if_pos (by omega), HV.out]
              rw [World.cell?_setCell_same _ _ _ hcell]
              congr 2
              omega
            · rw [World.cell?_setCell_other _ _ _ _ (by simp <;> omega)]
              have := HC.out j h
              rw [this]
              by_cases h1 : j < k
              · rw [if_pos h1, if_pos (by omega)]
              · rw [if_neg h1, if_neg (by omega)]
          · rw [World.frozen?_setCell]
            exact HF.out j h
        case measure => simp [intOf]; omega
      · have hub : upB (s[k].toNat : Int) = false := decide_eq_false hu
        have HV : Hid (low s[k] = s[k]) := low_no hu
        rw [hub] at HU
        clear hub hu
        go_wp2_with (go_at_call 91; refine (HU.out _).mono ?_; rintro e w' ⟨rfl, rfl⟩)
        go_roundw
        case rel =>
          refine ⟨k + 1, by omega, by go_num, fun j h => ?_, HF.out, hnx, hz⟩
          rw [HC.out j h]
          by_cases e : j = k
          · subst e
            rw [if_neg (by omega), if_pos (by omega), HV.out]
          · by_cases h1 : j < k
            · rw [if_pos h1, if_pos (by omega)]
            · rw [if_neg h1, if_neg (by omega)]
        case measure => simp [intOf]; omega
    · obtain rfl : k = s.size := by omega
      have hbs : Bytes wr (some ⟨w.heap.size, 0, none⟩) (lowL s.data.toList) := by
        refine .inr ⟨w.heap.size, 0, rfl, hz, fun j hj => ?_⟩
        have hj' : j < s.size := by simp only [lowL, List.length_map] at hj; rw [HL.out] at hj; exact hj
        rw [Nat.zero_add, HC.out j hj', if_pos hj']
        simp only [lowL, List.getElem_map]
        rfl
      have hll : (lowL s.data.toList).length = s.size := by rw [lowL, List.length_map, HL.out]
      have hcv := convert_bytes wr (some ⟨w.heap.size, 0, none⟩) cap _ hbs
      rw [hll] at hcv
      clear hll hbs HC HF
      go_wp2
      go_ret
      exact ⟨rfl, hnx⟩

theorem lowL_snoc (l : List UInt8) (k : Nat) (h : k < l.length) : lowL (l.take (k + 1)) = lowL (l.take k) ++ [low l[k]] := by
  rw [List.take_succ_eq_append_getElem h, lowL, List.map_append]
  rfl
set_option maxHeartbeats 1000000 in
set_option maxRecDepth 20000 in
theorem refLower_any (s : ByteArray) (w : World) (hs : s.size ≤ 140737488351232) :
    Calls Tryz.prog 56 #[.string s] w fun e w' => e = .returned (.string ⟨(lowL s.data.toList).toArray⟩) ∧ Below w.heap.size w w' := by
  obtain ⟨i0, hi, hz0, hz1, hz2⟩ := info_parts info5
  have hL : s.data.toList.length = s.size := by simp
  have HL : Hid (s.data.toList.length = s.size) := hL
  clear hL
  go_enter Tryz.func56, Tryz.ntmps56
  go_wp2
  go_loopw [3, 4] (fun v i wr => ∃ k : Nat, k ≤ s.size ∧ i = .int .i64 k ∧ Own wr w.heap.size v (lowL (s.data.toList.take k)) ∧ Below w.heap.size w wr)
    (fun _ i _ => s.size - (intOf i).toNat)
  case atStart => exact ⟨0, Nat.zero_le _, rfl, World.ownsRow_nil _ _ _ _, Below.refl _ _⟩
  case round =>
    obtain ⟨k, hk, rfl, hown, hnx⟩ := hrel
    have hsz := hnx.size
    have HO : Hid (Own wr w.heap.size u3 (lowL (s.data.toList.take k))) := hown
    have hle : (lowL (s.data.toList.take k)).length ≤ k := by rw [lowL, List.length_map]; exact List.length_take_le _ _
    clear hown
    by_cases hlt : k < s.size
    · have HE : Hid (lowL (s.data.toList.take (k + 1)) = lowL (s.data.toList.take k) ++ [low s[k]]) := lowL_snoc _ _ (by rw [HL.out]; omega)
      have b1 : (s[k].toNat : Int) ≤ 255 := by have := s[k].toNat_lt; omega
      have hcl : (65 ≤ (s[k].toNat : Int) ∧ (s[k].toNat : Int) ≤ 90) ∨ (65 ≤ (s[k].toNat : Int) ∧ decide ((s[k].toNat : Int) ≤ 90) = false ∧ 90 < (s[k].toNat : Int)) ∨ (s[k].toNat : Int) < 65 := by
        simp
        omega
      obtain ⟨x, hx⟩ : ∃ x : Int, x = ((low s[k]).toNat : Int) := ⟨_, rfl⟩
      have HP : Hid (bcs [low s[k]] = [.int .u8 x]) := by show bcs _ = _; rw [hx]; rfl
      rcases hcl with ⟨h1, h2⟩ | ⟨h1, h2, h3⟩ | h1
      · have hxe : x = (s[k].toNat : Int) + 32 := by rw [hx]; exact low_up ⟨h1, h2⟩
        subst hxe
        clear hx
        go_wp2_with (at_builtin; refine wpList_append_own _ rfl (.tmp 23) (.tmp 25) 22 rfl w.heap.size 5 i0 (.int .u8 0) 1 1 Tryz.underlying22 hi hz0 hz1 hz2 rfl (by decide) _ _ _ rfl (World.ownsRow.alloc HO.out _) ⟨wr.heap.size, 0, none⟩ 1 1 [.int .u8 ((s[k].toNat : Int) + 32)] rfl rfl (cell_one_new _ _ _) (one_one _ rfl) (by unfold maxLen; omega) (by omega) (by simp; omega) ?_; intro v1 w1 hown1 hgrow1 _)
        have HR : Hid (Own w1 w.heap.size v1 (lowL (s.data.toList.take (k + 1)))) := by
          show Own _ _ _ _
          rw [HE.out]
          exact own_more rfl HP.out hown1
        have hB1 : Below w.heap.size w w1 := (hnx.alloc hsz _).grown hgrow1 (by simp; omega) (fun j hj => (World.ownsRow.lt HO.out j hj).1)
        clear hown1 hgrow1
        go_wp2
        go_roundw
        case rel => exact ⟨k + 1, by omega, by go_num, HR.out, hB1⟩
        case measure => simp [intOf]; omega
      all_goals
        have hxe : x = (s[k].toNat : Int) := by rw [hx, low_no (by omega)]
        subst hxe
        clear hx
        go_wp2_with (at_builtin; refine wpList_append_own _ rfl (.tmp 23) (.tmp 25) 22 rfl w.heap.size 5 i0 (.int .u8 0) 1 1 Tryz.underlying22 hi hz0 hz1 hz2 rfl (by decide) _ _ _ rfl (World.ownsRow.alloc HO.out _) ⟨wr.heap.size, 0, none⟩ 1 1 [.int .u8 (s[k].toNat : Int)] rfl rfl (cell_one_new _ _ _) (one_one _ rfl) (by unfold maxLen; omega) (by omega) (by simp; omega) ?_; intro v1 w1 hown1 hgrow1 _)
        have HR : Hid (Own w1 w.heap.size v1 (lowL (s.data.toList.take (k + 1)))) := by
          show Own _ _ _ _
          rw [HE.out]
          exact own_more rfl HP.out hown1
        have hB1 : Below w.heap.size w w1 := (hnx.alloc hsz _).grown hgrow1 (by simp; omega) (fun j hj => (World.ownsRow.lt HO.out j hj).1)
        clear hown1 hgrow1
        go_wp2
        go_roundw
        case rel => exact ⟨k + 1, by omega, by go_num, HR.out, hB1⟩
        case measure => simp [intOf]; omega
    · obtain rfl : k = s.size := by omega
      have hO := HO.out
      rw [List.take_of_length_le (by rw [HL.out]; omega)] at hO
      obtain ⟨a', cap', rfl, hbs⟩ := Own.bytes hO
      have hcv := convert_bytes wr a' cap' _ hbs
      clear hO HO hle
      go_wp2
      go_ret
      exact ⟨rfl, hnx⟩
end Go.Proofs.YtmodmeabjhaklaaGreatDoor

/-
  enc.Hex by its contract.
-/
import Derived.Test.YtnmffehmjgknkaaGreatDoorCore
namespace Go.Proofs.YtnmffehmjgknkaaGreatDoor
open Go.RowKit

def hd (v : Int) : Int := if v < 10 then 48 + v else 87 + v
theorem hexDigit_any (v : Int) (w : World) (h0 : 0 ≤ v) (h1 : v < 16) :
    Calls Tryz.prog 110 #[.int .u8 v] w fun e w' => e = .returned (.int .u8 (hd v)) ∧ w = w' := by
  by_cases h : v < 10
  · go_enter Tryz.func110, Tryz.ntmps110
    go_wp2
    go_ret
    exact ⟨ret_int (by unfold hd; rw [if_pos h]), rfl⟩
  · go_enter Tryz.func110, Tryz.ntmps110
    go_wp2
    go_ret
    exact ⟨ret_int (by unfold hd; rw [if_neg (by omega)]; omega), rfl⟩

def h2 (c : UInt8) : List UInt8 := [UInt8.ofNat (hd ((c.toNat : Int) / 16)).toNat, UInt8.ofNat (hd ((c.toNat : Int) % 16)).toNat]
def hexL (l : List UInt8) : List UInt8 := l.flatMap h2

theorem hexL_length (l : List UInt8) : (hexL l).length = 2 * l.length := by
  unfold hexL
  induction l with
  | nil => rfl
  | cons a r ih => simp only [List.flatMap_cons, List.length_append, ih, h2, List.length_cons, List.length_nil]; omega

theorem hexL_snoc (l : List UInt8) (k : Nat) (h : k < l.length) : hexL (l.take (k + 1)) = hexL (l.take k) ++ h2 l[k] := by
  rw [List.take_succ_eq_append_getElem h, hexL, List.flatMap_append]
  simp only [List.flatMap_cons, List.flatMap_nil, List.append_nil]
  rfl

theorem hd_bd {v : Int} (h0 : 0 ≤ v) (h1 : v < 16) : 0 ≤ hd v ∧ hd v ≤ 102 := by unfold hd; split <;> omega
theorem hd_cell {v : Int} (h0 : 0 ≤ v) (h1 : v < 16) : ((UInt8.ofNat (hd v).toNat).toNat : Int) = hd v := by
  have := hd_bd h0 h1
  rw [UInt8.toNat_ofNat', Nat.mod_eq_of_lt (by omega)]
  omega
theorem h2_cells (c : UInt8) : bcs (h2 c) = [.int .u8 (hd ((c.toNat : Int) / 16)), .int .u8 (hd ((c.toNat : Int) % 16))] := by
  have hc := c.toNat_lt
  simp only [bcs, h2, List.map_cons, List.map_nil]
  rw [hd_cell (by omega) (by omega), hd_cell (by omega) (by omega)]

set_option maxHeartbeats 400000 in
theorem hex_any (a : Option Addr) (l : List UInt8) (cap : Nat) (w : World) (hr : l.length ≤ 140737488351232) (hb : Bytes w a l) :
    Calls Tryz.prog 49 #[.slice a l.length cap] w fun e w' => e = .returned (.string ⟨(hexL l).toArray⟩) ∧ Below w.heap.size w w' := by
  obtain ⟨i0, hi, hz0, hz1, hz2⟩ := info_parts info5
  have hm : (i0.bytes * (2 * l.length)) ≤ 281474976710656 := by rw [hz2]; omega
  go_enter Tryz.func49, Tryz.ntmps49
  go_wp2_with (at_make; refine wpList_make_own _ rfl _ _ 23 rfl w.heap.size 5 i0 (.int .u8 0) 1 Tryz.underlying23 hi hz0 hz1 _ _ _ (2 * l.length) rfl rfl (by omega) hm (by unfold maxLen; omega) (Nat.le_refl _) ?_; intro w0 hown0 hgrow0)
  go_loopw [3, 12] (fun v i wr => ∃ k : Nat, k ≤ l.length ∧ i = .int .i64 k ∧ v = .slice (some ⟨w.heap.size, 0, none⟩) (2 * k) (2 * l.length) ∧ wr.ownsRow w.heap.size 5 1 (.slice (some ⟨w.heap.size, 0, none⟩) (2 * k) (2 * l.length)) (2 * k) (bcs (hexL (l.take k))) ∧ Below w.heap.size w wr)
    (fun _ i _ => l.length - (intOf i).toNat)
  case atStart => exact ⟨0, Nat.zero_le _, rfl, rfl, hown0, (Below.refl _ _).grown hgrow0 (Nat.le_refl _) (by simp)⟩
  case round =>
    obtain ⟨k, hk, rfl, rfl, hown, hnx⟩ := hrel
    have hsz := hnx.size
    clear hown0 hgrow0
    by_cases hlt : k < l.length
    · obtain ⟨b, off, rfl, hbl, hcs⟩ := hb.at hlt
      have hcell : wr.cell? ⟨b, off + k, none⟩ = some (.int .u8 (l[k].toNat : Int)) := (hnx.cell (p := ⟨b, off + k, none⟩) hbl).trans (hcs k hlt)
      have hc255 : (l[k].toNat : Int) ≤ 255 := by have := l[k].toNat_lt; omega
      go_wp2_with (first
        | (go_at_call 110; refine (hexDigit_any _ _ (by omega) (by omega)).mono ?_; rintro e w' ⟨rfl, rfl⟩)
        | (at_builtin; refine wpList_append_fits _ rfl (.tmp 16) (.tmp 23) 23 rfl w.heap.size 5 i0 1 Tryz.underlying23 hi hz1 w.heap.size (2 * k) (2 * l.length) _ rfl (hown.alloc _) ⟨wr.heap.size, 0, none⟩ 2 2 [.int .u8 (hd ((l[k].toNat : Int) / 16)), .int .u8 (hd ((l[k].toNat : Int) % 16))] rfl rfl (cell_two_new _ _ _ _) (by intro u hu; simp at hu; rcases hu with rfl | rfl <;> rfl) (by omega) ?_; intro w1 hown1 hgrow1))
      go_roundw
      case rel =>
        refine ⟨k + 1, by omega, by go_num, by rw [Nat.mul_add], ?_, ?_⟩
        · rw [hexL_snoc l k hlt, bcs_append, h2_cells]
          exact hown1
        · exact (hnx.alloc hsz _).grown hgrow1 (by simp; omega) (by intro j hj; simp at hj; omega)
      case measure => simp [intOf]; omega
    · have hkl : k = l.length := by omega
      subst hkl
      rw [List.take_length] at hown
      obtain ⟨a', cap', he, hbs⟩ := Own.bytes (v := .slice (some ⟨w.heap.size, 0, none⟩) (2 * l.length) (2 * l.length)) (l := hexL l) (by unfold Own; rw [hexL_length]; exact hown)
      have hcv := convert_bytes wr a' cap' (hexL l) hbs
      rw [← he] at hcv
      clear he hbs
      go_wp2
      go_ret
      exact ⟨rfl, hnx⟩
end Go.Proofs.YtnmffehmjgknkaaGreatDoor

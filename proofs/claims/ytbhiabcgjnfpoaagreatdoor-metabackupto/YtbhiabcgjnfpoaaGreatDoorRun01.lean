/-
  enc.Hex by its contract.
-/
import Derived.Test.YtbhiabcgjnfpoaaGreatDoorRun00
namespace Go.Proofs.YtbhiabcgjnfpoaaGreatDoor.En
open Go.RowKit

def h2 (c : UInt8) : List UInt8 := [UInt8.ofNat (hd ((c.toNat : Int) / 16)).toNat, UInt8.ofNat (hd ((c.toNat : Int) % 16)).toNat]
def hexL (l : List UInt8) : List UInt8 := l.flatMap h2

theorem hexL_length (l : List UInt8) : (hexL l).length = 2 * l.length := by
  unfold hexL
  induction l with
  | nil => rfl
  | cons a r ih => simp only [List.flatMap_cons, List.length_append, ih, h2, List.length_cons, List.length_nil]; omega

theorem hexL_snoc (l : List UInt8) (k : Nat) (h : k < l.length) : hexL (l.take (k + 1)) = hexL (l.take k) ++ h2 l[k] := by
  rw [List.take_succ_eq_append_getElem h, hexL, List.flatMap_append]
  simp only [List.flatMap_cons, List.flatMap_nil, List.append_nil]
  rfl

theorem hd_bd {v : Int} (h0 : 0 ≤ v) (h1 : v < 16) : 0 ≤ hd v ∧ hd v ≤ 102 := by unfold hd; split <;> omega
theorem hd_cell {v : Int} (h0 : 0 ≤ v) (h1 : v < 16) : ((UInt8.ofNat (hd v).toNat).toNat : Int) = hd v := by
  have := hd_bd h0 h1
  rw [UInt8.toNat_ofNat', Nat.mod_eq_of_lt (by omega)]
  omega
theorem h2_cells (c : UInt8) : bcs (h2 c) = [.int .u8 (hd ((c.toNat : Int) / 16)), .int .u8 (hd ((c.toNat : Int) % 16))] := by
  have hc := c.toNat_lt
  simp only [bcs, h2, List.map_cons, List.map_nil]
  rw [hd_cell (by omega) (by omega), hd_cell (by omega) (by omega)]

set_option maxHeartbeats 400000 in
theorem hex_any (a : Option Addr) (l : List UInt8) (cap : Nat) (w : World) (hr : l.length ≤ 140737488351232) (hb : Bytes w a l) :
    Calls Tryz.prog 80 #[.slice a l.length cap] w fun e w' => e = .returned (.string ⟨(hexL l).toArray⟩) ∧ Below w.heap.size w w' := by
  obtain ⟨i0, hi, hz0, hz1, hz2⟩ := info_parts info5
  have hm : (i0.bytes * (2 * l.length)) ≤ 281474976710656 := by rw [hz2]; omega
  go_enter Tryz.func80, Tryz.ntmps80
  go_wp2_with (at_make; refine wpList_make_own _ rfl _ _ 76 rfl w.heap.size 5 i0 (.int .u8 0) 1 Tryz.underlying76 hi hz0 hz1 _ _ _ (2 * l.length) rfl rfl (by omega) hm (by unfold maxLen; omega) (Nat.le_refl _) ?_; intro w0 hown0 hgrow0)
  go_loopw [3, 12] (fun v i wr => ∃ k : Nat, k ≤ l.length ∧ i = .int .i64 k ∧ v = .slice (some ⟨w.heap.size, 0, none⟩) (2 * k) (2 * l.length) ∧ wr.ownsRow w.heap.size 5 1 (.slice (some ⟨w.heap.size, 0, none⟩) (2 * k) (2 * l.length)) (2 * k) (bcs (hexL (l.take k))) ∧ Below w.heap.size w wr)
    (fun _ i _ => l.length - (intOf i).toNat)
  case atStart => exact ⟨0, Nat.zero_le _, rfl, rfl, hown0, (Below.refl _ _).grown hgrow0 (Nat.le_refl _) (by simp)⟩
  case round =>
    obtain ⟨k, hk, rfl, rfl, hown, hnx⟩ := hrel
    have hsz := hnx.size
    clear hown0 hgrow0
    by_cases hlt : k < l.length
    · obtain ⟨b, off, rfl, hbl, hcs⟩ := hb.at hlt
      have hcell : wr.cell? ⟨b, off + k, none⟩ = some (.int .u8 (l[k].toNat : Int)) := (hnx.cell (p := ⟨b, off + k, none⟩) hbl).trans (hcs k hlt)
      have hc255 : (l[k].toNat : Int) ≤ 255 := by have := l[k].toNat_lt; omega
      go_wp2_with (first
        | (go_at_call 111; refine (hexDigit_any _ _ (by omega) (by omega)).mono ?_; rintro e w' ⟨rfl, rfl⟩)
        | (at_builtin; refine wpList_append_fits _ rfl (.tmp 16) (.tmp 23) 76 rfl w.heap.size 5 i0 1 Tryz.underlying76 hi hz1 w.heap.size (2 * k) (2 * l.length) _ rfl (hown.alloc _) ⟨wr.heap.size, 0, none⟩ 2 2 [.int .u8 (hd ((l[k].toNat : Int) / 16)), .int .u8 (hd ((l[k].toNat : Int) % 16))] rfl rfl (cell_two_new _ _ _ _) (by intro u hu; simp at hu; rcases hu with rfl | rfl <;> rfl) (by omega) ?_; intro w1 hown1 hgrow1))
      go_roundw
      case rel =>
        refine ⟨k + 1, by omega, by go_num, by rw [Nat.mul_add], ?_, ?_⟩
        · rw [hexL_snoc l k hlt, bcs_append, h2_cells]
          exact hown1
        · exact (hnx.alloc hsz _).grown hgrow1 (by simp; omega) (by intro j hj; simp at hj; omega)
      case measure => simp [intOf]; omega
    · have hkl : k = l.length := by omega
      subst hkl
      rw [List.take_length] at hown
      obtain ⟨a', cap', he, hbs⟩ := Own.bytes (v := .slice (some ⟨w.heap.size, 0, none⟩) (2 * l.length) (2 * l.length)) (l := hexL l) (by unfold Own; rw [hexL_length]; exact hown)
      have hcv := convert_bytes wr a' cap' (hexL l) hbs
      rw [← he] at hcv
      clear he hbs
      go_wp2
      go_ret
      exact ⟨rfl, hnx⟩
end Go.Proofs.YtbhiabcgjnfpoaaGreatDoor.En
/-
  enc.Unhex by its contract.
-/
namespace Go.Proofs.YtbhiabcgjnfpoaaGreatDoor.En
open Go.RowKit

def nth (l : List UInt8) (i : Nat) : Int := ((l.getD i 0).toNat : Int)
theorem nth_eq {l : List UInt8} {i : Nat} (h : i < l.length) : nth l i = (l[i].toNat : Int) := by simp [nth, List.getD, List.getElem?_eq_getElem h]
def pv (l : List UInt8) (i : Nat) : UInt8 := UInt8.ofNat (16 * hvN (nth l (2 * i)) + hvN (nth l (2 * i + 1))).toNat
def pOk (l : List UInt8) (i : Nat) : Bool := hvOk (nth l (2 * i)) && hvOk (nth l (2 * i + 1))
def prs (l : List UInt8) (k : Nat) : List UInt8 := (List.range k).map (pv l)
def uhOk (l : List UInt8) : Bool := decide (l.length % 2 = 0) && (List.range (l.length / 2)).all (pOk l)
def uhL (l : List UInt8) : List UInt8 := if uhOk l then prs l (l.length / 2) else []

theorem hvN_bd (c : Int) : 0 ≤ hvN c ∧ hvN c ≤ 15 := by
  unfold hvN
  split
  · omega
  · split <;> omega
theorem prs_length (l : List UInt8) (k : Nat) : (prs l k).length = k := by simp [prs]
theorem prs_succ (l : List UInt8) (k : Nat) : prs l (k + 1) = prs l k ++ [pv l k] := by simp [prs, List.range_succ]
theorem pv_cell (l : List UInt8) (i : Nat) : ((pv l i).toNat : Int) = 16 * hvN (nth l (2 * i)) + hvN (nth l (2 * i + 1)) := by
  have h1 := hvN_bd (nth l (2 * i))
  have h2 := hvN_bd (nth l (2 * i + 1))
  rw [pv, UInt8.toNat_ofNat', Nat.mod_eq_of_lt (by omega)]
  omega
theorem uhOk_odd {l : List UInt8} (h : l.length % 2 ≠ 0) : uhOk l = false := by simp [uhOk, h]
theorem uhOk_at {l : List UInt8} {k : Nat} (hk : k < l.length / 2) (h : pOk l k = false) : uhOk l = false := by
  rw [uhOk, Bool.and_eq_false_iff]
  right
  rw [List.all_eq_false]
  exact ⟨k, by simpa using hk, by simp [h]⟩
theorem uhOk_all {l : List UInt8} (h0 : l.length % 2 = 0) (h : ∀ i, i < l.length / 2 → pOk l i = true) : uhOk l = true := by
  rw [uhOk, Bool.and_eq_true]
  refine ⟨by simpa using h0, ?_⟩
  rw [List.all_eq_true]
  intro x hx
  exact h x (by simpa using hx)
theorem uhL_no {l : List UInt8} (h : uhOk l = false) : uhL l = [] := by simp [uhL, h]
theorem uhL_yes {l : List UInt8} (h : uhOk l = true) : uhL l = prs l (l.length / 2) := by simp [uhL, h]

theorem ret_vb {v : Value} {p q : Bool} (g : p = q) : Ending.returned (.tuple #[v, .bool p]) = .returned (.tuple #[v, .bool q]) := by rw [g]
theorem own_nil (w : World) (base : Nat) {l : List UInt8} (h : l = []) : Own w base (.slice none 0 0) l := by
  subst h
  exact World.ownsRow_nil _ _ _ _
theorem or16_table : ∀ x : Nat, x < 16 → ∀ y : Nat, y < 16 → bits .or .u8 ((x : Int) * 16 % 256) (y : Int) = 16 * (x : Int) + (y : Int) := by decide +kernel
theorem or16 {x y : Int} (h1 : 0 ≤ x ∧ x ≤ 15) (h2 : 0 ≤ y ∧ y ≤ 15) : bits .or .u8 (x * 16 % 256) y = 16 * x + y := by
  obtain ⟨a, rfl⟩ := Int.eq_ofNat_of_zero_le h1.1
  obtain ⟨b, rfl⟩ := Int.eq_ofNat_of_zero_le h2.1
  exact or16_table a (by omega) b (by omega)

theorem pOk_of {s : ByteArray} {k : Nat} (h1 : 2 * k < s.size) (h2 : 2 * k + 1 < s.size) : pOk s.data.toList k = (hvOk (s[2 * k].toNat : Int) && hvOk (s[2 * k + 1].toNat : Int)) := by
  rw [pOk, nth_eq (by simpa using h1), nth_eq (by simpa using h2)]
  rfl
theorem pv_of {s : ByteArray} {k : Nat} (h1 : 2 * k < s.size) (h2 : 2 * k + 1 < s.size) : bcs [pv s.data.toList k] = [.int .u8 (bits .or .u8 (hvN (s[2 * k].toNat : Int) * 16 % 256) (hvN (s[2 * k + 1].toNat : Int)))] := by
  rw [or16 (hvN_bd _) (hvN_bd _)]
  simp only [bcs, List.map_cons, List.map_nil]
  rw [pv_cell, nth_eq (by simpa using h1), nth_eq (by simpa using h2)]
  rfl
theorem one_one (x : Value) (h : x.oneCell' = true) : ∀ u ∈ [x], u.oneCell' = true := by
  intro u hu
  simp only [List.mem_singleton] at hu
  subst hu
  exact h

set_option maxRecDepth 20000 in
set_option maxHeartbeats 800000 in
theorem unhex_any (s : ByteArray) (w : World) (hr : s.size ≤ 140737488351232) :
    Calls Tryz.prog 79 #[.string s] w fun e w' => ∃ v, e = .returned (.tuple #[v, .bool (uhOk s.data.toList)]) ∧ Own w' w.heap.size v (uhL s.data.toList) ∧ Below w.heap.size w w' := by
  have hL : s.data.toList.length = s.size := by simp
  obtain ⟨i0, hi, hz0, hz1, hz2⟩ := info_parts info5
  by_cases hodd : s.size % 2 = 0
  · have hodd' : ((s.size : Int) % 2 != 0) = false := by simp; omega
    have hm : (i0.bytes * (s.size / 2)) ≤ 281474976710656 := by rw [hz2]; omega
    have HO : Hid (s.size % 2 = 0) := hodd
    have HL : Hid (s.data.toList.length = s.size) := hL
    clear hodd hL
    go_enter Tryz.func79, Tryz.ntmps79
    go_wp2_with (at_make; refine wpList_make_own _ rfl _ _ 76 rfl w.heap.size 5 i0 (.int .u8 0) 1 Tryz.underlying76 hi hz0 hz1 _ _ _ (s.size / 2) rfl rfl (by omega) hm (by unfold maxLen; omega) (Nat.le_refl _) ?_; intro w0 hown0 hgrow0)
    go_loopw [4, 5] (fun v i wr => ∃ k : Nat, k ≤ s.size / 2 ∧ i = .int .i64 ((2 * k : Nat) : Int) ∧ v = .slice (some ⟨w.heap.size, 0, none⟩) k (s.size / 2) ∧ wr.ownsRow w.heap.size 5 1 (.slice (some ⟨w.heap.size, 0, none⟩) k (s.size / 2)) k (bcs (prs s.data.toList k)) ∧ Below w.heap.size w wr ∧ (∀ j, j < k → pOk s.data.toList j = true))
      (fun _ i _ => s.size - (intOf i).toNat)
    case atStart => exact ⟨0, Nat.zero_le _, rfl, rfl, hown0, (Below.refl _ _).grown hgrow0 (Nat.le_refl _) (by simp), fun j hj => by omega⟩
    case round =>
      obtain ⟨k, hk, rfl, rfl, hown, hnx, hall⟩ := hrel
      have hsz := hnx.size
      clear hown0 hgrow0
      by_cases hlt : k < s.size / 2
      · have h0 := HO.out
        have hl1 : 2 * k < s.size := by omega
        have hl2 : 2 * k + 1 < s.size := by omega
        have b1 : (s[2 * k].toNat : Int) ≤ 255 := by have := s[2 * k].toNat_lt; omega
        have b2 : (s[2 * k + 1].toNat : Int) ≤ 255 := by have := s[2 * k + 1].toNat_lt; omega
        clear h0
        have HP : Hid (pOk s.data.toList k = (hvOk (s[2 * k].toNat : Int) && hvOk (s[2 * k + 1].toNat : Int))) := pOk_of hl1 hl2
        by_cases o1 : hvOk (s[2 * k].toNat : Int) = true
        · by_cases o2 : hvOk (s[2 * k + 1].toNat : Int) = true
          · go_wp2_with (first
              | (go_at_call 110; refine (hexValue_any _ _ (by omega) (by omega)).mono ?_; rintro e w' ⟨rfl, rfl⟩)
              | (at_builtin; refine wpList_append_fits _ rfl (.tmp 45) (.tmp 50) 76 rfl w.heap.size 5 i0 1 Tryz.underlying76 hi hz1 w.heap.size k (s.size / 2) _ rfl (hown.alloc _) ⟨wr.heap.size, 0, none⟩ 1 1 [.int .u8 (bits .or .u8 (hvN (s[2 * k].toNat : Int) * 16 % 256) (hvN (s[2 * k + 1].toNat : Int)))] rfl rfl (cell_one_new _ _ _) (one_one _ rfl) (by omega) ?_; intro w1 hown1 hgrow1))
            go_roundw
            case rel =>
              refine ⟨k + 1, by omega, by go_num, rfl, ?_, ?_, ?_⟩
              · rw [prs_succ, bcs_append, pv_of hl1 hl2]
                exact hown1
              · exact (hnx.alloc hsz _).grown hgrow1 (by simp; omega) (by intro j hj; simp at hj; omega)
              · intro j hj
                by_cases hjk : j = k
                · rw [hjk, HP.out, o1, o2]; rfl
                · exact hall j (by omega)
            case measure => simp [intOf]; omega
          · have o2' : hvOk (s[2 * k + 1].toNat : Int) = false := by simpa using o2
            clear o2
            go_wp2_with (go_at_call 110; refine (hexValue_any _ _ (by omega) (by omega)).mono ?_; rintro e w' ⟨rfl, rfl⟩)
            go_ret2
            have hno : uhOk s.data.toList = false := uhOk_at (k := k) (by rw [HL.out]; omega) (by rw [HP.out, o2', Bool.and_false])
            exact ⟨_, ret_vb hno.symm, own_nil _ _ (uhL_no hno), hnx⟩
        · have o1' : hvOk (s[2 * k].toNat : Int) = false := by simpa using o1
          clear o1
          go_wp2_with (go_at_call 110; refine (hexValue_any _ _ (by omega) (by omega)).mono ?_; rintro e w' ⟨rfl, rfl⟩)
          go_ret2
          have hno : uhOk s.data.toList = false := uhOk_at (k := k) (by rw [HL.out]; omega) (by rw [HP.out, o1', Bool.false_and])
          exact ⟨_, ret_vb hno.symm, own_nil _ _ (uhL_no hno), hnx⟩
      · have hkl : k = s.size / 2 := by omega
        have h0 := HO.out
        have hge : ¬ (2 * (k : Int) < (s.size : Int)) := by omega
        have HK : Hid (k = s.size / 2) := hkl
        have HZ : Hid (s.size % 2 = 0) := h0
        clear hkl h0
        have hyes : uhOk s.data.toList = true := uhOk_all (by rw [HL.out]; exact HZ.out) (by rw [HL.out, ← HK.out]; exact hall)
        have HY : Hid (uhOk s.data.toList = true) := hyes
        have ho : Own wr w.heap.size (.slice (some ⟨w.heap.size, 0, none⟩) k (s.size / 2)) (uhL s.data.toList) := by
          have e : uhL s.data.toList = prs s.data.toList k := by rw [uhL_yes HY.out, HL.out, ← HK.out]
          rw [Own, e, prs_length]
          exact hown
        clear hyes hall hown
        go_wp2
        go_ret2
        exact ⟨_, ret_vb HY.out.symm, ho, hnx⟩
  · have hodd' : ((s.size : Int) % 2 != 0) = true := by simp; omega
    have hno : uhOk s.data.toList = false := uhOk_odd (by rw [hL]; exact hodd)
    have HN : Hid (uhOk s.data.toList = false) := hno
    clear hno hL hodd
    go_enter Tryz.func79, Tryz.ntmps79
    go_wp2
    go_ret2
    exact ⟨_, ret_vb HN.out.symm, own_nil _ _ (uhL_no HN.out), Below.refl _ _⟩
end Go.Proofs.YtbhiabcgjnfpoaaGreatDoor.En

/-
  The document's padded text by its contract.
-/
import Derived.Test.YtnmffehmjgknkaaGreatDoorRunA
namespace Go.Proofs.YtnmffehmjgknkaaGreatDoor
open Go.RowKit

theorem noughts_snoc (k : List UInt8) (j : Nat) : k ++ noughts (j + 1) = (k ++ noughts j) ++ [0] := by
  rw [List.append_assoc]
  congr 1
  simp [noughts, List.replicate_succ']
/-- How many noughts. -/
def zpad (n : Nat) : Nat := pl (n % 64) - n % 64 - 9
theorem zpad_lt (n : Nat) : zpad n < 64 := by unfold zpad pl; omega
theorem zpad_eq (n : Nat) : (n + 1 + zpad n) % 64 = 56 := by unfold zpad pl; omega
theorem zpad_ne (n j : Nat) (h : j < zpad n) : (n + 1 + j) % 64 ≠ 56 := by unfold zpad pl at h; omega

def mtailZ (j : Nat) : List UInt8 := [128] ++ noughts j
theorem mtailZ_succ (j : Nat) : mtailZ (j + 1) = mtailZ j ++ [0] := by rw [mtailZ, noughts_snoc]; rfl
/-- What stands behind a text of n bytes, k bytes of the size laid. -/
def mtail (n : Nat) : Nat → List UInt8
  | 0 => mtailZ (zpad n)
  | k + 1 => mtail n k ++ [szb n (k)]
theorem mtail_zero (n : Nat) : mtail n 0 = mtailZ (zpad n) := rfl
theorem mtail_length (n : Nat) : ∀ k, k ≤ 8 → (mtail n k).length = 1 + zpad n + k
  | 0, _ => by rw [mtail, mtailZ, List.length_append, noughts_length]; rfl
  | k + 1, h => by rw [mtail, List.length_append, mtail_length n k (by omega)]; rfl

def stailZ (j : Nat) : List UInt8 := [128] ++ noughts j
theorem stailZ_succ (j : Nat) : stailZ (j + 1) = stailZ j ++ [0] := by rw [stailZ, noughts_snoc]; rfl
/-- What stands behind a text of n bytes, k bytes of the size laid. -/
def stail (n : Nat) : Nat → List UInt8
  | 0 => stailZ (zpad n)
  | k + 1 => stail n k ++ [szb n (7 - k)]
theorem stail_zero (n : Nat) : stail n 0 = stailZ (zpad n) := rfl
theorem stail_length (n : Nat) : ∀ k, k ≤ 8 → (stail n k).length = 1 + zpad n + k
  | 0, _ => by rw [stail, stailZ, List.length_append, noughts_length]; rfl
  | k + 1, h => by rw [stail, List.length_append, stail_length n k (by omega)]; rfl

set_option maxHeartbeats 2000000 in
theorem refPadM (a : Option Addr) (l : List UInt8) (cap : Nat) (w : World) (hn : a = none → cap = 0) (hl : l.length ≤ 140737488351800) (hb : Bytes w a l) :
    Calls Tryz.prog 147 #[.slice a l.length cap, .bool false] w fun e w' => ∃ v, e = .returned v ∧ Own w' w.heap.size v (l ++ mtail l.length 8) ∧ Below w.heap.size w w' := by
  obtain ⟨i0, hi, hz0, hz1, hz2⟩ := info_parts info5
  have HN : Hid (a = none → cap = 0) := hn
  have HB : Hid (Bytes w a l) := hb
  have HO0 : Hid (Own w w.heap.size (.slice none 0 0) []) := World.ownsRow_nil w _ _ _
  clear hb hn
  go_enter Tryz.func147, Tryz.ntmps147
  go_wp2_with (first
    | (at_builtin; refine wpList_append_bytes rfl (.tmp 9) (.tmp 10) rfl w.heap.size (.slice none 0 0) [] rfl HO0.out a l cap rfl HB.out HN.out (by rw [List.length_nil]; omega) (Nat.le_refl _) ?_; intro v1 w1 ho1 hg1; rw [List.nil_append] at ho1; have hB1 : Below w.heap.size w w1 := (Below.refl _ w).grown hg1 (Nat.le_refl _) (by intro j hj; simp [Value.ownBlock] at hj); have hs1 := hB1.size; have ho1' : w1.ownsRow w.heap.size 5 1 v1 l.length (bcs l) := ho1)
    | (at_builtin; refine wpList_append_own _ rfl (.tmp 12) (.tmp 13) 23 rfl w.heap.size 5 i0 (.int .u8 0) 1 1 Tryz.underlying23 hi hz0 hz1 hz2 rfl (by decide) _ _ _ rfl (ho1'.alloc _) ⟨w1.heap.size, 0, none⟩ 1 1 [.int .u8 128] rfl rfl (cell_one_new _ _ _) (one_one _ rfl) (by unfold maxLen; omega) (by omega) (by simp; omega) ?_; intro v2 w2 ho2 hg2 _))
  have hB2 : Below w.heap.size w w2 := (hB1.alloc hs1 _).grown hg2 (by simp; omega) (fun j hj => (World.ownsRow.lt ho1' j hj).1)
  have HO2 : Hid (Own w2 w.heap.size v2 (l ++ mtailZ 0)) := by
    show Own _ _ _ _
    unfold Own
    rw [bcs_append, List.length_append]
    exact ho2
  clear ho1 ho1' hg1 ho2 hg2 hB1 HO0
  go_loopw [5] (fun v wr => ∃ (j : Nat), j ≤ zpad l.length ∧ Own wr w.heap.size v (l ++ mtailZ j) ∧ Below w.heap.size w wr ∧ (∃ x c, v = .slice x (l.length + 1 + j) c))
    (fun v _ => match v with | .slice _ n _ => l.length + 1 + zpad l.length - n | _ => 0)
  case atStart =>
    obtain ⟨x, c, e, _⟩ := Own.bytes HO2.out
    exact ⟨0, Nat.zero_le _, HO2.out, hB2, x, c, by rw [e]; simp [mtailZ, noughts]⟩
  case round =>
    clear HO2 hB2
    obtain ⟨j, hj, ho, hnx, x, c, rfl⟩ := hrel
    have hzb := zpad_lt l.length
    have hsz := hnx.size
    have hown : wr.ownsRow w.heap.size 5 1 (.slice x (l.length + 1 + j) c) (l.length + 1 + j) (bcs (l ++ mtailZ j)) := by
      have : Own wr w.heap.size (.slice x (l.length + 1 + j) c) (l ++ mtailZ j) := ho
      unfold Own at this
      rw [show (l ++ mtailZ j).length = l.length + 1 + j from by simp [mtailZ, noughts]; omega] at this
      exact this
    have HOWN : Hid (wr.ownsRow w.heap.size 5 1 (.slice x (l.length + 1 + j) c) (l.length + 1 + j) (bcs (l ++ mtailZ j))) := hown
    have HO : Hid (Own wr w.heap.size (.slice x (l.length + 1 + j) c) (l ++ mtailZ j)) := ho
    clear ho hown
    by_cases hlt : j < zpad l.length
    · have hne : ((((l.length + 1 + j : Nat) : Int) % 64) != 56) = true := by
        rw [bne_iff_ne]
        have := zpad_ne l.length j hlt
        omega
      have hne2 : ((((l.length : Int) + 1 + (j : Int)) % 64) != 56) = true := by
        rw [bne_iff_ne]
        have := zpad_ne l.length j hlt
        omega
      go_wp2_with (at_builtin; refine wpList_append_own _ rfl (.tmp 19) (.tmp 20) 23 rfl w.heap.size 5 i0 (.int .u8 0) 1 1 Tryz.underlying23 hi hz0 hz1 hz2 rfl (by decide) _ _ _ rfl (World.ownsRow.alloc HOWN.out _) ⟨wr.heap.size, 0, none⟩ 1 1 [.int .u8 0] rfl rfl (cell_one_new _ _ _) (one_one _ rfl) (by unfold maxLen; omega) (by omega) (by simp; omega) ?_; intro v2 w2 ho2 hg2 _)
      obtain ⟨x2, c2, rfl⟩ : ∃ x2 c2, v2 = .slice x2 (l.length + 1 + j + 1) c2 := by
        rcases ho2.2 with ⟨_, h'⟩ | ⟨g, c', cur, h', _⟩
        · omega
        · exact ⟨_, c', h'⟩
      go_roundw
      case rel =>
        refine ⟨j + 1, by omega, ?_, ?_, _, _, rfl⟩
        · unfold Own
          rw [show (l ++ mtailZ (j + 1)).length = l.length + 1 + j + 1 from by simp [mtailZ, noughts]; omega, mtailZ_succ, ← List.append_assoc, bcs_append]
          exact ho2
        · exact (hnx.alloc hsz _).grown hg2 (by simp; omega) (fun i hi' => (World.ownsRow.lt HOWN.out i hi').1)
      case measure => simp; omega
    · obtain rfl : j = zpad l.length := by omega
      have hz := zpad_eq l.length
      have hne : ((((l.length + 1 + zpad l.length : Nat) : Int) % 64) != 56) = false := by
        have : ((l.length + 1 + zpad l.length : Nat) : Int) % 64 = 56 := by omega
        rw [this]
        rfl
      have hne2 : ((((l.length : Int) + 1 + (zpad l.length : Int)) % 64) != 56) = false := by
        have : ((l.length : Int) + 1 + (zpad l.length : Int)) % 64 = 56 := by omega
        rw [this]
        rfl
      have HO3 : Hid (Own wr w.heap.size (.slice x (l.length + 1 + zpad l.length) c) (l ++ mtail l.length 0)) := by
        have := HO.out
        show Own _ _ _ _
        rw [mtail_zero]
        exact this
      clear HOWN HO hz
      go_wp2
      clear hne hne2
      go_loopw [5, 7] (fun v i wr => ∃ k : Nat, k ≤ 8 ∧ i = .int .i64 k ∧ Own wr w.heap.size v (l ++ mtail l.length k) ∧ Below w.heap.size w wr) (fun _ i _ => 8 - (intOf i).toNat)
      case atStart => exact ⟨0, by omega, rfl, HO3.out, hnx⟩
      case round =>
        clear HO3 hnx hsz
        obtain ⟨k, hk, rfl, ho, hnx⟩ := hrel
        have hsz := hnx.size
        have hle := mtail_length l.length k hk
        have hown : wr.ownsRow w.heap.size 5 1 _ (l ++ mtail l.length k).length (bcs (l ++ mtail l.length k)) := ho
        rw [List.length_append, hle] at hown
        have HOWN : Hid (wr.ownsRow w.heap.size 5 1 _ (l.length + (1 + zpad l.length + k)) (bcs (l ++ mtail l.length k))) := hown
        clear hown hle
        by_cases hlt : k < 8
        · have hlt' : (k : Int) < 8 := by omega
          have hsb := (szb_cell l.length (k)).symm
          obtain ⟨s, hs⟩ : ∃ s : Nat, s = 8 * (k) := ⟨_, rfl⟩
          rw [← hs] at hsb
          have hsi : 8 * (k : Int) = (s : Int) := by omega
          have hs64 : s ≤ 64 := by omega
          have HF : Hid (mtail l.length (k + 1) = mtail l.length k ++ [szb l.length (k)]) := rfl
          generalize szb l.length (k) = y at *
          clear hs ho
          go_wp2_with (at_builtin; refine wpList_append_own _ rfl (.tmp 36) (.tmp 41) 23 rfl w.heap.size 5 i0 (.int .u8 0) 1 1 Tryz.underlying23 hi hz0 hz1 hz2 rfl (by decide) _ _ _ rfl (World.ownsRow.alloc HOWN.out _) ⟨wr.heap.size, 0, none⟩ 1 1 [.int .u8 (y.toNat : Int)] rfl rfl (cell_one_new _ _ _) (one_one _ rfl) (by unfold maxLen; omega) (by omega) (by simp; omega) ?_; intro v2 w2 ho2 hg2 _)
          go_roundw
          case rel =>
            refine ⟨k + 1, by omega, by go_num, ?_, ?_⟩
            · rw [HF.out, ← List.append_assoc]
              unfold Own
              rw [List.length_append, List.length_append, mtail_length l.length k hk, bcs_append]
              exact ho2
            · exact (hnx.alloc hsz _).grown hg2 (by simp; omega) (fun i hi' => (World.ownsRow.lt HOWN.out i hi').1)
          case measure => simp [intOf]; omega
        · obtain rfl : k = 8 := by omega
          have HO4 : Hid _ := ho
          clear ho HOWN
          go_wp2
          go_ret
          exact ⟨_, rfl, HO4.out, hnx⟩

set_option maxHeartbeats 2000000 in
theorem refPadS (a : Option Addr) (l : List UInt8) (cap : Nat) (w : World) (hn : a = none → cap = 0) (hl : l.length ≤ 140737488351800) (hb : Bytes w a l) :
    Calls Tryz.prog 147 #[.slice a l.length cap, .bool true] w fun e w' => ∃ v, e = .returned v ∧ Own w' w.heap.size v (l ++ stail l.length 8) ∧ Below w.heap.size w w' := by
  obtain ⟨i0, hi, hz0, hz1, hz2⟩ := info_parts info5
  have HN : Hid (a = none → cap = 0) := hn
  have HB : Hid (Bytes w a l) := hb
  have HO0 : Hid (Own w w.heap.size (.slice none 0 0) []) := World.ownsRow_nil w _ _ _
  clear hb hn
  go_enter Tryz.func147, Tryz.ntmps147
  go_wp2_with (first
    | (at_builtin; refine wpList_append_bytes rfl (.tmp 9) (.tmp 10) rfl w.heap.size (.slice none 0 0) [] rfl HO0.out a l cap rfl HB.out HN.out (by rw [List.length_nil]; omega) (Nat.le_refl _) ?_; intro v1 w1 ho1 hg1; rw [List.nil_append] at ho1; have hB1 : Below w.heap.size w w1 := (Below.refl _ w).grown hg1 (Nat.le_refl _) (by intro j hj; simp [Value.ownBlock] at hj); have hs1 := hB1.size; have ho1' : w1.ownsRow w.heap.size 5 1 v1 l.length (bcs l) := ho1)
    | (at_builtin; refine wpList_append_own _ rfl (.tmp 12) (.tmp 13) 23 rfl w.heap.size 5 i0 (.int .u8 0) 1 1 Tryz.underlying23 hi hz0 hz1 hz2 rfl (by decide) _ _ _ rfl (ho1'.alloc _) ⟨w1.heap.size, 0, none⟩ 1 1 [.int .u8 128] rfl rfl (cell_one_new _ _ _) (one_one _ rfl) (by unfold maxLen; omega) (by omega) (by simp; omega) ?_; intro v2 w2 ho2 hg2 _))
  have hB2 : Below w.heap.size w w2 := (hB1.alloc hs1 _).grown hg2 (by simp; omega) (fun j hj => (World.ownsRow.lt ho1' j hj).1)
  have HO2 : Hid (Own w2 w.heap.size v2 (l ++ stailZ 0)) := by
    show Own _ _ _ _
    unfold Own
    rw [bcs_append, List.length_append]
    exact ho2
  clear ho1 ho1' hg1 ho2 hg2 hB1 HO0
  go_loopw [5] (fun v wr => ∃ (j : Nat), j ≤ zpad l.length ∧ Own wr w.heap.size v (l ++ stailZ j) ∧ Below w.heap.size w wr ∧ (∃ x c, v = .slice x (l.length + 1 + j) c))
    (fun v _ => match v with | .slice _ n _ => l.length + 1 + zpad l.length - n | _ => 0)
  case atStart =>
    obtain ⟨x, c, e, _⟩ := Own.bytes HO2.out
    exact ⟨0, Nat.zero_le _, HO2.out, hB2, x, c, by rw [e]; simp [stailZ, noughts]⟩
  case round =>
    clear HO2 hB2
    obtain ⟨j, hj, ho, hnx, x, c, rfl⟩ := hrel
    have hzb := zpad_lt l.length
    have hsz := hnx.size
    have hown : wr.ownsRow w.heap.size 5 1 (.slice x (l.length + 1 + j) c) (l.length + 1 + j) (bcs (l ++ stailZ j)) := by
      have : Own wr w.heap.size (.slice x (l.length + 1 + j) c) (l ++ stailZ j) := ho
      unfold Own at this
      rw [show (l ++ stailZ j).length = l.length + 1 + j from by simp [stailZ, noughts]; omega] at this
      exact this
    have HOWN : Hid (wr.ownsRow w.heap.size 5 1 (.slice x (l.length + 1 + j) c) (l.length + 1 + j) (bcs (l ++ stailZ j))) := hown
    have HO : Hid (Own wr w.heap.size (.slice x (l.length + 1 + j) c) (l ++ stailZ j)) := ho
    clear ho hown
    by_cases hlt : j < zpad l.length
    · have hne : ((((l.length + 1 + j : Nat) : Int) % 64) != 56) = true := by
        rw [bne_iff_ne]
        have := zpad_ne l.length j hlt
        omega
      have hne2 : ((((l.length : Int) + 1 + (j : Int)) % 64) != 56) = true := by
        rw [bne_iff_ne]
        have := zpad_ne l.length j hlt
        omega
      go_wp2_with (at_builtin; refine wpList_append_own _ rfl (.tmp 19) (.tmp 20) 23 rfl w.heap.size 5 i0 (.int .u8 0) 1 1 Tryz.underlying23 hi hz0 hz1 hz2 rfl (by decide) _ _ _ rfl (World.ownsRow.alloc HOWN.out _) ⟨wr.heap.size, 0, none⟩ 1 1 [.int .u8 0] rfl rfl (cell_one_new _ _ _) (one_one _ rfl) (by unfold maxLen; omega) (by omega) (by simp; omega) ?_; intro v2 w2 ho2 hg2 _)
      obtain ⟨x2, c2, rfl⟩ : ∃ x2 c2, v2 = .slice x2 (l.length + 1 + j + 1) c2 := by
        rcases ho2.2 with ⟨_, h'⟩ | ⟨g, c', cur, h', _⟩
        · omega
        · exact ⟨_, c', h'⟩
      go_roundw
      case rel =>
        refine ⟨j + 1, by omega, ?_, ?_, _, _, rfl⟩
        · unfold Own
          rw [show (l ++ stailZ (j + 1)).length = l.length + 1 + j + 1 from by simp [stailZ, noughts]; omega, stailZ_succ, ← List.append_assoc, bcs_append]
          exact ho2
        · exact (hnx.alloc hsz _).grown hg2 (by simp; omega) (fun i hi' => (World.ownsRow.lt HOWN.out i hi').1)
      case measure => simp; omega
    · obtain rfl : j = zpad l.length := by omega
      have hz := zpad_eq l.length
      have hne : ((((l.length + 1 + zpad l.length : Nat) : Int) % 64) != 56) = false := by
        have : ((l.length + 1 + zpad l.length : Nat) : Int) % 64 = 56 := by omega
        rw [this]
        rfl
      have hne2 : ((((l.length : Int) + 1 + (zpad l.length : Int)) % 64) != 56) = false := by
        have : ((l.length : Int) + 1 + (zpad l.length : Int)) % 64 = 56 := by omega
        rw [this]
        rfl
      have HO3 : Hid (Own wr w.heap.size (.slice x (l.length + 1 + zpad l.length) c) (l ++ stail l.length 0)) := by
        have := HO.out
        show Own _ _ _ _
        rw [stail_zero]
        exact this
      clear HOWN HO hz
      go_wp2
      clear hne hne2
      go_loopw [5, 7] (fun v i wr => ∃ k : Nat, k ≤ 8 ∧ i = .int .i64 k ∧ Own wr w.heap.size v (l ++ stail l.length k) ∧ Below w.heap.size w wr) (fun _ i _ => 8 - (intOf i).toNat)
      case atStart => exact ⟨0, by omega, rfl, HO3.out, hnx⟩
      case round =>
        clear HO3 hnx hsz
        obtain ⟨k, hk, rfl, ho, hnx⟩ := hrel
        have hsz := hnx.size
        have hle := stail_length l.length k hk
        have hown : wr.ownsRow w.heap.size 5 1 _ (l ++ stail l.length k).length (bcs (l ++ stail l.length k)) := ho
        rw [List.length_append, hle] at hown
        have HOWN : Hid (wr.ownsRow w.heap.size 5 1 _ (l.length + (1 + zpad l.length + k)) (bcs (l ++ stail l.length k))) := hown
        clear hown hle
        by_cases hlt : k < 8
        · have hlt' : (k : Int) < 8 := by omega
          have hsb := (szb_cell l.length (7 - k)).symm
          obtain ⟨s, hs⟩ : ∃ s : Nat, s = 8 * (7 - k) := ⟨_, rfl⟩
          rw [← hs] at hsb
          have hsi : 56 - 8 * (k : Int) = (s : Int) := by omega
          have hs64 : s ≤ 64 := by omega
          have HF : Hid (stail l.length (k + 1) = stail l.length k ++ [szb l.length (7 - k)]) := rfl
          generalize szb l.length (7 - k) = y at *
          clear hs ho
          go_wp2_with (at_builtin; refine wpList_append_own _ rfl (.tmp 36) (.tmp 41) 23 rfl w.heap.size 5 i0 (.int .u8 0) 1 1 Tryz.underlying23 hi hz0 hz1 hz2 rfl (by decide) _ _ _ rfl (World.ownsRow.alloc HOWN.out _) ⟨wr.heap.size, 0, none⟩ 1 1 [.int .u8 (y.toNat : Int)] rfl rfl (cell_one_new _ _ _) (one_one _ rfl) (by unfold maxLen; omega) (by omega) (by simp; omega) ?_; intro v2 w2 ho2 hg2 _)
          go_roundw
          case rel =>
            refine ⟨k + 1, by omega, by go_num, ?_, ?_⟩
            · rw [HF.out, ← List.append_assoc]
              unfold Own
              rw [List.length_append, List.length_append, stail_length l.length k hk, bcs_append]
              exact ho2
            · exact (hnx.alloc hsz _).grown hg2 (by simp; omega) (fun i hi' => (World.ownsRow.lt HOWN.out i hi').1)
          case measure => simp [intOf]; omega
        · obtain rfl : k = 8 := by omega
          have HO4 : Hid _ := ho
          clear ho HOWN
          go_wp2
          go_ret
          exact ⟨_, rfl, HO4.out, hnx⟩
end Go.Proofs.YtnmffehmjgknkaaGreatDoor

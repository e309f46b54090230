/-
  The document's padded text by its contract.
-/
import Derived.Test.YtgpjjlkkfddjnaaDoorRunA
import Derived.Deep.RegionHeld3
import Derived.BigRegion
namespace Go.Proofs.YtgpjjlkkfddjnaaDoor
open Go.RowKit

theorem noughts_snoc (k : List UInt8) (j : Nat) : k ++ noughts (j + 1) = (k ++ noughts j) ++ [0] := by
  rw [List.append_assoc]
  congr 1
  simp [noughts, List.replicate_succ']
/-- How many noughts. -/
def zpad (n : Nat) : Nat := pl (n % 64) - n % 64 - 9
theorem zpad_lt (n : Nat) : zpad n < 64 := by unfold zpad pl; omega
theorem zpad_eq (n : Nat) : (n + 1 + zpad n) % 64 = 56 := by unfold zpad pl; omega
theorem zpad_ne (n j : Nat) (h : j < zpad n) : (n + 1 + j) % 64 ≠ 56 := by unfold zpad pl at h; omega

def mtailZ (j : Nat) : List UInt8 := [128] ++ noughts j
theorem mtailZ_succ (j : Nat) : mtailZ (j + 1) = mtailZ j ++ [0] := by rw [mtailZ, noughts_snoc]; rfl
/-- What stands behind a text of n bytes, k bytes of the size laid. -/
def mtail (n : Nat) : Nat → List UInt8
  | 0 => mtailZ (zpad n)
  | k + 1 => mtail n k ++ [szb n (k)]
theorem mtail_zero (n : Nat) : mtail n 0 = mtailZ (zpad n) := rfl
theorem mtail_length (n : Nat) : ∀ k, k ≤ 8 → (mtail n k).length = 1 + zpad n + k
  | 0, _ => by rw [mtail, mtailZ, List.length_append, noughts_length]; rfl
  | k + 1, h => by rw [mtail, List.length_append, mtail_length n k (by omega)]; rfl

def stailZ (j : Nat) : List UInt8 := [128] ++ noughts j
theorem stailZ_succ (j : Nat) : stailZ (j + 1) = stailZ j ++ [0] := by rw [stailZ, noughts_snoc]; rfl
/-- What stands behind a text of n bytes, k bytes of the size laid. -/
def stail (n : Nat) : Nat → List UInt8
  | 0 => stailZ (zpad n)
  | k + 1 => stail n k ++ [szb n (7 - k)]
theorem stail_zero (n : Nat) : stail n 0 = stailZ (zpad n) := rfl
theorem stail_length (n : Nat) : ∀ k, k ≤ 8 → (stail n k).length = 1 + zpad n + k
  | 0, _ => by rw [stail, stailZ, List.length_append, noughts_length]; rfl
  | k + 1, h => by rw [stail, List.length_append, stail_length n k (by omega)]; rfl

set_option maxHeartbeats 2000000 in
theorem refPadM (a : Option Addr) (l : List UInt8) (cap : Nat) (w : World) (hn : a = none → cap = 0) (hl : l.length ≤ 140737488351800) (hb : Bytes w a l) :
    Calls Tryd.prog 66 #[.slice a l.length cap, .bool false] w fun e w' => ∃ v, e = .returned v ∧ Own w' w.heap.size v (l ++ mtail l.length 8) ∧ Below w.heap.size w w' := by
  obtain ⟨i0, hi, hz0, hz1, hz2⟩ := info_parts info5
  have HN : Hid (a = none → cap = 0) := hn
  have HB : Hid (Bytes w a l) := hb
  have HO0 : Hid (Own w w.heap.size (.slice none 0 0) []) := World.ownsRow_nil w _ _ _
  clear hb hn
  go_enter Tryd.func66, Tryd.ntmps66
  go_wp2_with (first
    | (at_builtin; refine wpList_append_bytes rfl (.tmp 9) (.tmp 10) rfl w.heap.size (.slice none 0 0) [] rfl HO0.out a l cap rfl HB.out HN.out (by rw [List.length_nil]; omega) (Nat.le_refl _) ?_; intro v1 w1 ho1 hg1; rw [List.nil_append] at ho1; have hB1 : Below w.heap.size w w1 := (Below.refl _ w).grown hg1 (Nat.le_refl _) (by intro j hj; simp [Value.ownBlock] at hj); have hs1 := hB1.size; have ho1' : w1.ownsRow w.heap.size 5 1 v1 l.length (bcs l) := ho1)
    | (at_builtin; refine wpList_append_own _ rfl (.tmp 12) (.tmp 13) 22 rfl w.heap.size 5 i0 (.int .u8 0) 1 1 Tryd.underlying22 hi hz0 hz1 hz2 rfl (by decide) _ _ _ rfl (ho1'.alloc _) ⟨w1.heap.size, 0, none⟩ 1 1 [.int .u8 128] rfl rfl (cell_one_new _ _ _) (one_one _ rfl) (by unfold maxLen; omega) (by omega) (by simp; omega) ?_; intro v2 w2 ho2 hg2 _))
  have hB2 : Below w.heap.size w w2 := (hB1.alloc hs1 _).grown hg2 (by simp; omega) (fun j hj => (World.ownsRow.lt ho1' j hj).1)
  have HO2 : Hid (Own w2 w.heap.size v2 (l ++ mtailZ 0)) := by
    show Own _ _ _ _
    unfold Own
    rw [bcs_append, List.length_append]
    exact ho2
  clear ho1 ho1' hg1 ho2 hg2 hB1 HO0
  go_loopw [5] (fun v wr => ∃ (j : Nat), j ≤ zpad l.length ∧ Own wr w.heap.size v (l ++ mtailZ j) ∧ Below w.heap.size w wr ∧ (∃ x c, v = .slice x (l.length + 1 + j) c))
    (fun v _ => match v with | .slice _ n _ => l.length + 1 + zpad l.length - n | _ => 0)
  case atStart =>
    obtain ⟨x, c, e, _⟩ := Own.bytes HO2.out
    exact ⟨0, Nat.zero_le _, HO2.out, hB2, x, c, by rw [e]; simp [mtailZ, noughts]⟩
  case round =>
    clear HO2 hB2
    obtain ⟨j, hj, ho, hnx, x, c, rfl⟩ := hrel
    have hzb := zpad_lt l.length
    have hsz := hnx.size
    have hown : wr.ownsRow w.heap.size 5 1 (.slice x (l.length + 1 + j) c) (l.length + 1 + j) (bcs (l ++ mtailZ j)) := by
      have : Own wr w.heap.size (.slice x (l.length + 1 + j) c) (l ++ mtailZ j) := ho
      unfold Own at this
      rw [show (l ++ mtailZ j).length = l.length + 1 + j from by simp [mtailZ, noughts]; omega] at this
      exact this
    have HOWN : Hid (wr.ownsRow w.heap.size 5 1 (.slice x (l.length + 1 + j) c) (l.length + 1 + j) (bcs (l ++ mtailZ j))) := hown
    have HO : Hid (Own wr w.heap.size (.slice x (l.length + 1 + j) c) (l ++ mtailZ j)) := ho
    clear ho hown
    by_cases hlt : j < zpad l.length
    · have hne : ((((l.length + 1 + j : Nat) : Int) % 64) != 56) = true := by
        rw [bne_iff_ne]
        have := zpad_ne l.length j hlt
        omega
      have hne2 : ((((l.length : Int) + 1 + (j : Int)) % 64) != 56) = true := by
        rw [bne_iff_ne]
        have := zpad_ne l.length j hlt
        omega
      go_wp2_with (at_builtin; refine wpList_append_own _ rfl (.tmp 19) (.tmp 20) 22 rfl w.heap.size 5 i0 (.int .u8 0) 1 1 Tryd.underlying22 hi hz0 hz1 hz2 rfl (by decide) _ _ _ rfl (World.ownsRow.alloc HOWN.out _) ⟨wr.heap.size, 0, none⟩ 1 1 [.int .u8 0] rfl rfl (cell_one_new _ _ _) (one_one _ rfl) (by unfold maxLen; omega) (by omega) (by simp; omega) ?_; intro v2 w2 ho2 hg2 _)
      obtain ⟨x2, c2, rfl⟩ : ∃ x2 c2, v2 = .slice x2 (l.length + 1 + j + 1) c2 := by
        rcases ho2.2 with ⟨_, h'⟩ | ⟨g, c', cur, h', _⟩
        · omega
        · exact ⟨_, c', h'⟩
      go_roundw
      case rel =>
        refine ⟨j + 1, by omega, ?_, ?_, _, _, rfl⟩
        · unfold Own
          rw [show (l ++ mtailZ (j + 1)).length = l.length + 1 + j + 1 from by simp [mtailZ, noughts]; omega, mtailZ_succ, ← List.append_assoc, bcs_append]
          exact ho2
        · exact (hnx.alloc hsz _).grown hg2 (by simp; omega) (fun i hi' => (World.ownsRow.lt HOWN.out i hi').1)
      case measure => simp; omega
    · obtain rfl : j = zpad l.length := by omega
      have hz := zpad_eq l.length
      have hne : ((((l.length + 1 + zpad l.length : Nat) : Int) % 64) != 56) = false := by
        have : ((l.length + 1 + zpad l.length : Nat) : Int) % 64 = 56 := by omega
        rw [this]
        rfl
      have hne2 : ((((l.length : Int) + 1 + (zpad l.length : Int)) % 64) != 56) = false := by
        have : ((l.length : Int) + 1 + (zpad l.length : Int)) % 64 = 56 := by omega
        rw [this]
        rfl
      have HO3 : Hid (Own wr w.heap.size (.slice x (l.length + 1 + zpad l.length) c) (l ++ mtail l.length 0)) := by
        have := HO.out
        show Own _ _ _ _
        rw [mtail_zero]
        exact this
      clear HOWN HO hz
      go_wp2
      clear hne hne2
      go_loopw [5, 7] (fun v i wr => ∃ k : Nat, k ≤ 8 ∧ i = .int .i64 k ∧ Own wr w.heap.size v (l ++ mtail l.length k) ∧ Below w.heap.size w wr) (fun _ i _ => 8 - (intOf i).toNat)
      case atStart => exact ⟨0, by omega, rfl, HO3.out, hnx⟩
      case round =>
        clear HO3 hnx hsz
        obtain ⟨k, hk, rfl, ho, hnx⟩ := hrel
        have hsz := hnx.size
        have hle := mtail_length l.length k hk
        have hown : wr.ownsRow w.heap.size 5 1 _ (l ++ mtail l.length k).length (bcs (l ++ mtail l.length k)) := ho
        rw [List.length_append, hle] at hown
        have HOWN : Hid (wr.ownsRow w.heap.size 5 1 _ (l.length + (1 + zpad l.length + k)) (bcs (l ++ mtail l.length k))) := hown
        clear hown hle
        by_cases hlt : k < 8
        · have hlt' : (k : Int) < 8 := by omega
          have hsb := (szb_cell l.length (k)).symm
          obtain ⟨s, hs⟩ : ∃ s : Nat, s = 8 * (k) := ⟨_, rfl⟩
          rw [← hs] at hsb
          have hsi : 8 * (k : Int) = (s : Int) := by omega
          have hs64 : s ≤ 64 := by omega
          have HF : Hid (mtail l.length (k + 1) = mtail l.length k ++ [szb l.length (k)]) := rfl
          generalize szb l.length (k) = y at *
          clear hs ho
          go_wp2_with (at_builtin; refine wpList_append_own _ rfl (.tmp 36) (.tmp 41) 22 rfl w.heap.size 5 i0 (.int .u8 0) 1 1 Tryd.underlying22 hi hz0 hz1 hz2 rfl (by decide) _ _ _ rfl (World.ownsRow.alloc HOWN.out _) ⟨wr.heap.size, 0, none⟩ 1 1 [.int .u8 (y.toNat : Int)] rfl rfl (cell_one_new _ _ _) (one_one _ rfl) (by unfold maxLen; omega) (by omega) (by simp; omega) ?_; intro v2 w2 ho2 hg2 _)
          go_roundw
          case rel =>
            refine ⟨k + 1, by omega, by go_num, ?_, ?_⟩
            · rw [HF.out, ← List.append_assoc]
              unfold Own
              rw [List.length_append, List.length_append, mtail_length l.length k hk, bcs_append]
              exact ho2
            · exact (hnx.alloc hsz _).grown hg2 (by simp; omega) (fun i hi' => (World.ownsRow.lt HOWN.out i hi').1)
          case measure => simp [intOf]; omega
        · obtain rfl : k = 8 := by omega
          have HO4 : Hid _ := ho
          clear ho HOWN
          go_wp2
          go_ret
          exact ⟨_, rfl, HO4.out, hnx⟩

set_option maxHeartbeats 2000000 in
theorem refPadS (a : Option Addr) (l : List UInt8) (cap : Nat) (w : World) (hn : a = none → cap = 0) (hl : l.length ≤ 140737488351800) (hb : Bytes w a l) :
    Calls Tryd.prog 66 #[.slice a l.length cap, .bool true] w fun e w' => ∃ v, e = .returned v ∧ Own w' w.heap.size v (l ++ stail l.length 8) ∧ Below w.heap.size w w' := by
  obtain ⟨i0, hi, hz0, hz1, hz2⟩ := info_parts info5
  have HN : Hid (a = none → cap = 0) := hn
  have HB : Hid (Bytes w a l) := hb
  have HO0 : Hid (Own w w.heap.size (.slice none 0 0) []) := World.ownsRow_nil w _ _ _
  clear hb hn
  go_enter Tryd.func66, Tryd.ntmps66
  go_wp2_with (first
    | (at_builtin; refine wpList_append_bytes rfl (.tmp 9) (.tmp 10) rfl w.heap.size (.slice none 0 0) [] rfl HO0.out a l cap rfl HB.out HN.out (by rw [List.length_nil]; omega) (Nat.le_refl _) ?_; intro v1 w1 ho1 hg1; rw [List.nil_append] at ho1; have hB1 : Below w.heap.size w w1 := (Below.refl _ w).grown hg1 (Nat.le_refl _) (by intro j hj; simp [Value.ownBlock] at hj); have hs1 := hB1.size; have ho1' : w1.ownsRow w.heap.size 5 1 v1 l.length (bcs l) := ho1)
    | (at_builtin; refine wpList_append_own _ rfl (.tmp 12) (.tmp 13) 22 rfl w.heap.size 5 i0 (.int .u8 0) 1 1 Tryd.underlying22 hi hz0 hz1 hz2 rfl (by decide) _ _ _ rfl (ho1'.alloc _) ⟨w1.heap.size, 0, none⟩ 1 1 [.int .u8 128] rfl rfl (cell_one_new _ _ _) (one_one _ rfl) (by unfold maxLen; omega) (by omega) (by simp; omega) ?_; intro v2 w2 ho2 hg2 _))
  have hB2 : Below w.heap.size w w2 := (hB1.alloc hs1 _).grown hg2 (by simp; omega) (fun j hj => (World.ownsRow.lt ho1' j hj).1)
  have HO2 : Hid (Own w2 w.heap.size v2 (l ++ stailZ 0)) := by
    show Own _ _ _ _
    unfold Own
    rw [bcs_append, List.length_append]
    exact ho2
  clear ho1 ho1' hg1 ho2 hg2 hB1 HO0
  go_loopw [5] (fun v wr => ∃ (j : Nat), j ≤ zpad l.length ∧ Own wr w.heap.size v (l ++ stailZ j) ∧ Below w.heap.size w wr ∧ (∃ x c, v = .slice x (l.length + 1 + j) c))
    (fun v _ => match v with | .slice _ n _ => l.length + 1 + zpad l.length - n | _ => 0)
  case atStart =>
    obtain ⟨x, c, e, _⟩ := Own.bytes HO2.out
    exact ⟨0, Nat.zero_le _, HO2.out, hB2, x, c, by rw [e]; simp [stailZ, noughts]⟩
  case round =>
    clear HO2 hB2
    obtain ⟨j, hj, ho, hnx, x, c, rfl⟩ := hrel
    have hzb := zpad_lt l.length
    have hsz := hnx.size
    have hown : wr.ownsRow w.heap.size 5 1 (.slice x (l.length + 1 + j) c) (l.length + 1 + j) (bcs (l ++ stailZ j)) := by
      have : Own wr w.heap.size (.slice x (l.length + 1 + j) c) (l ++ stailZ j) := ho
      unfold Own at this
      rw [show (l ++ stailZ j).length = l.length + 1 + j from by simp [stailZ, noughts]; omega] at this
      exact this
    have HOWN : Hid (wr.ownsRow w.heap.size 5 1 (.slice x (l.length + 1 + j) c) (l.length + 1 + j) (bcs (l ++ stailZ j))) := hown
    have HO : Hid (Own wr w.heap.size (.slice x (l.length + 1 + j) c) (l ++ stailZ j)) := ho
    clear ho hown
    by_cases hlt : j < zpad l.length
    · have hne : ((((l.length + 1 + j : Nat) : Int) % 64) != 56) = true := by
        rw [bne_iff_ne]
        have := zpad_ne l.length j hlt
        omega
      have hne2 : ((((l.length : Int) + 1 + (j : Int)) % 64) != 56) = true := by
        rw [bne_iff_ne]
        have := zpad_ne l.length j hlt
        omega
      go_wp2_with (at_builtin; refine wpList_append_own _ rfl (.tmp 19) (.tmp 20) 22 rfl w.heap.size 5 i0 (.int .u8 0) 1 1 Tryd.underlying22 hi hz0 hz1 hz2 rfl (by decide) _ _ _ rfl (World.ownsRow.alloc HOWN.out _) ⟨wr.heap.size, 0, none⟩ 1 1 [.int .u8 0] rfl rfl (cell_one_new _ _ _) (one_one _ rfl) (by unfold maxLen; omega) (by omega) (by simp; omega) ?_; intro v2 w2 ho2 hg2 _)
      obtain ⟨x2, c2, rfl⟩ : ∃ x2 c2, v2 = .slice x2 (l.length + 1 + j + 1) c2 := by
        rcases ho2.2 with ⟨_, h'⟩ | ⟨g, c', cur, h', _⟩
        · omega
        · exact ⟨_, c', h'⟩
      go_roundw
      case rel =>
        refine ⟨j + 1, by omega, ?_, ?_, _, _, rfl⟩
        · unfold Own
          rw [show (l ++ stailZ (j + 1)).length = l.length + 1 + j + 1 from by simp [stailZ, noughts]; omega, stailZ_succ, ← List.append_assoc, bcs_append]
          exact ho2
        · exact (hnx.alloc hsz _).grown hg2 (by simp; omega) (fun i hi' => (World.ownsRow.lt HOWN.out i hi').1)
      case measure => simp; omega
    · obtain rfl : j = zpad l.length := by omega
      have hz := zpad_eq l.length
      have hne : ((((l.length + 1 + zpad l.length : Nat) : Int) % 64) != 56) = false := by
        have : ((l.length + 1 + zpad l.length : Nat) : Int) % 64 = 56 := by omega
        rw [this]
        rfl
      have hne2 : ((((l.length : Int) + 1 + (zpad l.length : Int)) % 64) != 56) = false := by
        have : ((l.length : Int) + 1 + (zpad l.length : Int)) % 64 = 56 := by omega
        rw [this]
        rfl
      have HO3 : Hid (Own wr w.heap.size (.slice x (l.length + 1 + zpad l.length) c) (l ++ stail l.length 0)) := by
        have := HO.out
        show Own _ _ _ _
        rw [stail_zero]
        exact this
      clear HOWN HO hz
      go_wp2
      clear hne hne2
      go_loopw [5, 7] (fun v i wr => ∃ k : Nat, k ≤ 8 ∧ i = .int .i64 k ∧ Own wr w.heap.size v (l ++ stail l.length k) ∧ Below w.heap.size w wr) (fun _ i _ => 8 - (intOf i).toNat)
      case atStart => exact ⟨0, by omega, rfl, HO3.out, hnx⟩
      case round =>
        clear HO3 hnx hsz
        obtain ⟨k, hk, rfl, ho, hnx⟩ := hrel
        have hsz := hnx.size
        have hle := stail_length l.length k hk
        have hown : wr.ownsRow w.heap.size 5 1 _ (l ++ stail l.length k).length (bcs (l ++ stail l.length k)) := ho
        rw [List.length_append, hle] at hown
        have HOWN : Hid (wr.ownsRow w.heap.size 5 1 _ (l.length + (1 + zpad l.length + k)) (bcs (l ++ stail l.length k))) := hown
        clear hown hle
        by_cases hlt : k < 8
        · have hlt' : (k : Int) < 8 := by omega
          have hsb := (szb_cell l.length (7 - k)).symm
          obtain ⟨s, hs⟩ : ∃ s : Nat, s = 8 * (7 - k) := ⟨_, rfl⟩
          rw [← hs] at hsb
          have hsi : 56 - 8 * (k : Int) = (s : Int) := by omega
          have hs64 : s ≤ 64 := by omega
          have HF : Hid (stail l.length (k + 1) = stail l.length k ++ [szb l.length (7 - k)]) := rfl
          generalize szb l.length (7 - k) = y at *
          clear hs ho
          go_wp2_with (at_builtin; refine wpList_append_own _ rfl (.tmp 36) (.tmp 41) 22 rfl w.heap.size 5 i0 (.int .u8 0) 1 1 Tryd.underlying22 hi hz0 hz1 hz2 rfl (by decide) _ _ _ rfl (World.ownsRow.alloc HOWN.out _) ⟨wr.heap.size, 0, none⟩ 1 1 [.int .u8 (y.toNat : Int)] rfl rfl (cell_one_new _ _ _) (one_one _ rfl) (by unfold maxLen; omega) (by omega) (by simp; omega) ?_; intro v2 w2 ho2 hg2 _)
          go_roundw
          case rel =>
            refine ⟨k + 1, by omega, by go_num, ?_, ?_⟩
            · rw [HF.out, ← List.append_assoc]
              unfold Own
              rw [List.length_append, List.length_append, stail_length l.length k hk, bcs_append]
              exact ho2
            · exact (hnx.alloc hsz _).grown hg2 (by simp; omega) (fun i hi' => (World.ownsRow.lt HOWN.out i hi').1)
          case measure => simp [intOf]; omega
        · obtain rfl : k = 8 := by omega
          have HO4 : Hid _ := ho
          clear ho HOWN
          go_wp2
          go_ret
          exact ⟨_, rfl, HO4.out, hnx⟩
end Go.Proofs.YtgpjjlkkfddjnaaDoor
/-
  'append' to a row of the call's own, and what of the old row can still be read behind it.
-/
namespace Go.Proofs.YtgpjjlkkfddjnaaDoor
open Go.RowKit

/-- 'append' to a row of the call's own, as a step of a region that draws; the cells of the row read behind it as they did. -/
theorem step_append_keep {P : Program} {w : World} {ops : Array Oper} {o : Oper} {a : Act} {K : Act → World → Prop} {Q : Exit → Act → World → Prop} {E : Prop} (hgd : o.guard = none) (s x : Operand) (t : TypeId)
    (ho : o.op = .call { callee := .builtin .append, args := #[s, x], argTypes := #[t, t] })
    (base : Nat) (e : TypeId) (i : TypeInfo) (z : Value) (size bytes : Nat) (ht : P.underlying t = some (.slice e)) (hi : P.info? e = some i) (hz : i.zero = some z)
    (hsize : i.size = size) (hby : i.bytes = bytes) (hzs : z.cells.size = size) (hsz : 0 < size)
    (g n cap : Nat) (xs : List Value) (hs : a.eval s = .slice (some ⟨g, 0, none⟩) n cap) (hown : w.ownsRow base e size (.slice (some ⟨g, 0, none⟩) n cap) n xs)
    (ad : Addr) (m c : Nat) (news : List Value) (hx : a.eval x = .slice (some ad) m c) (hl : news.length = m * size) (hnews : ∀ j u, news[j]? = some u → w.cell? (ad.add j) = some u) (h1 : ∀ u ∈ news, u.oneCell' = true)
    (h63 : n + m ≤ maxLen) (hbytes : (n + m) * bytes ≤ 140737488355328) (hbase : base ≤ w.heap.size)
    (h : ∀ v' w', w'.ownsRow base e size v' (n + m) (xs ++ news) → w.grownBy w' (some g) → (∀ j u, xs[j]? = some u → w'.cell? ⟨g, j, none⟩ = some u) → K (a.put o.dst v') w') :
    if Region.wanted o (yielded ops a.tmps) = true then Oper.wp P o a w K Q else E := by
  have hw : Region.wanted o (yielded ops a.tmps) = true := by simp [Region.wanted, hgd]
  rw [if_pos hw]
  obtain ⟨v', w', hr, h2, h3, _⟩ := run_append_own (P := P) w base t o.type e i z size bytes ht hi hz hsize hby hzs hsz _ n xs hown ad m c news hl hnews h1 h63 hbytes hbase
  have hkeep : ∀ j u, xs[j]? = some u → w'.cell? ⟨g, j, none⟩ = some u := by
    intro j u hj
    have hold := hown.cells (g := g) rfl j u hj
    rw [Addr.add_lit, Nat.zero_add] at hold
    by_cases hroom : n + m ≤ cap
    · obtain ⟨w2, hr2, r1, _⟩ := run_append_fits (P := P) w base t o.type e i size ht hi hsize g n cap xs hown ad m c news hl hnews h1 hroom
      rw [hr] at hr2
      simp only [Result.ok.injEq] at hr2
      obtain ⟨_, rfl⟩ := hr2
      have hlt : j < xs.length := (List.getElem?_eq_some_iff.1 hj).1
      have := r1.cells (g := g) rfl j u (by rw [List.getElem?_append_left hlt]; exact hj)
      rw [Addr.add_lit, Nat.zero_add] at this
      exact this
    · subst hsize hby
      have hsmall : n + m ≤ 9223372036854775807 := by simp only [maxLen] at h63; omega
      have hr2 := run_append_grow (P := P) w t o.type e i z ht hi hz ⟨g, 0, none⟩ n cap xs hown.1 (hown.cells (g := g) rfl) ad m c news hl hnews (by omega) (by omega) (growslice_fits (by omega) hbytes)
      rw [hr] at hr2
      simp only [Result.ok.injEq] at hr2
      obtain ⟨_, rfl⟩ := hr2
      have hlt := World.block_lt_of_cell? w _ hold
      rw [World.cell?_of_block (w := w) (a := ⟨g, j, none⟩) (Below.heap_alloc w.drew _ g hlt)]
      exact hold
  unfold Oper.wp
  simp [execOp, ho, resolve, invoke, builtin, hs, hx, hr, Result.andThen]
  exact h v' w' h2 h3 hkeep
end Go.Proofs.YtgpjjlkkfddjnaaDoor
/-
  The document's schedule of a block's words by its contract.
-/
namespace Go.Proofs.YtgpjjlkkfddjnaaDoor
open Go.RowKit

/-- 'append' to a row of the call's own, as a step of a region that draws. -/
theorem step_append_own {P : Program} {w : World} {ops : Array Oper} {o : Oper} {a : Act} {K : Act → World → Prop} {Q : Exit → Act → World → Prop} {E : Prop} (hgd : o.guard = none) (s x : Operand) (t : TypeId)
    (ho : o.op = .call { callee := .builtin .append, args := #[s, x], argTypes := #[t, t] })
    (base : Nat) (e : TypeId) (i : TypeInfo) (z : Value) (size bytes : Nat) (ht : P.underlying t = some (.slice e)) (hi : P.info? e = some i) (hz : i.zero = some z)
    (hsize : i.size = size) (hby : i.bytes = bytes) (hzs : z.cells.size = size) (hsz : 0 < size)
    (v : Value) (n : Nat) (xs : List Value) (hs : a.eval s = v) (hown : w.ownsRow base e size v n xs)
    (ad : Addr) (m c : Nat) (news : List Value) (hx : a.eval x = .slice (some ad) m c) (hl : news.length = m * size) (hnews : ∀ j u, news[j]? = some u → w.cell? (ad.add j) = some u) (h1 : ∀ u ∈ news, u.oneCell' = true)
    (h63 : n + m ≤ maxLen) (hbytes : (n + m) * bytes ≤ 140737488355328) (hbase : base ≤ w.heap.size)
    (h : ∀ v' w', w'.ownsRow base e size v' (n + m) (xs ++ news) → w.grownBy w' v.ownBlock → K (a.put o.dst v') w') :
    if Region.wanted o (yielded ops a.tmps) = true then Oper.wp P o a w K Q else E := by
  have hw : Region.wanted o (yielded ops a.tmps) = true := by simp [Region.wanted, hgd]
  rw [if_pos hw]
  exact wp_append_own w s x t ho base e i z size bytes ht hi hz hsize hby hzs hsz v n xs hs hown ad m c news hx hl hnews h1 h63 hbytes hbase fun v' w' h2 h3 _ => h v' w' h2 h3

theorem wraps_u32 (n : Int) (h₀ : 0 ≤ n) (h₁ : n < 2 ^ 32) : IntKind.u32.wrap n = n := by rw [IntKind.wrap_u32]; omega
theorem add_be4 (b0 b1 b2 b3 : UInt8) : (b0.toNat : Int) * (16777216 : Int) + (b1.toNat : Int) * (65536 : Int) + (b2.toNat : Int) * (256 : Int) + (b3.toNat : Int) = W (bw b0 <<< 24 ||| bw b1 <<< 16 ||| bw b2 <<< 8 ||| bw b3) := by
  have h0 := b0.toNat_lt
  have h1 := b1.toNat_lt
  have h2 := b2.toNat_lt
  have h3 := b3.toNat_lt
  rw [← W_be4]
  have j := fun i x y => bits_join .u32 32 (by decide) wraps_u32 i x y
  rw [j 24 ((b0.toNat : Int) * 16777216) ((b1.toNat : Int) * 65536) (by omega) (by omega) (by omega) (by omega) (by omega) (by omega)]
  rw [j 16 _ ((b2.toNat : Int) * 256) (by omega) (by omega) (by omega) (by omega) (by omega) (by omega)]
  rw [j 8 _ (b3.toNat : Int) (by omega) (by omega) (by omega) (by omega) (by omega) (by omega)]

/-- A row of words of the call's own. -/
def OwnW (w : World) (base : Nat) (v : Value) (l : List Wd) : Prop := w.ownsRow base 101 1 v l.length (wcs l)
theorem OwnW.some {w : World} {base : Nat} {v : Value} {l : List Wd} (h : OwnW w base v l) (hl : 0 < l.length) : ∃ g c, v = .slice (some ⟨g, 0, none⟩) l.length c ∧ base ≤ g ∧ g < w.heap.size ∧ l.length ≤ c ∧ (∀ j, j < l.length → w.cell? ⟨g, j, none⟩ = some (.int .u32 (W (l.getD j 0)))) ∧ (∀ j, w.frozen? ⟨g, j, none⟩ = false) := by
  obtain ⟨hl', ⟨_, hn⟩ | ⟨g, cap, cur, hv, hb, hh, hnc, hcm, hcs, htk⟩⟩ := h
  · omega
  · refine ⟨g, cap, hv, hb, (Array.getElem?_eq_some_iff.1 hh).1, hnc, fun j hj => ?_, fun j => by simp [World.frozen?, hh]⟩
    rw [cell_of_row w g j cur 101 (0, 0) hh, getD_at hj, ← wcs_get hj, ← htk, List.getElem?_take_of_lt (by omega)]
    simp

theorem cell_one_new' {w : World} {a : Value} {t : TypeId} : ∀ j u, [a][j]? = some u → (w.alloc (.cells #[a] t)).cell? ((⟨w.heap.size, 0, none⟩ : Addr).add j) = some u := cell_one_new w a t

theorem left_quiet (x : Wd) (s : Nat) (y : Wd) (w : World) (h0 : 0 < s) (h1 : s < 32) (hy : rotl x s = y) : Calls Tryd.prog 68 #[.int .u32 (W x), .int .i64 (s : Int)] w fun e w' => e = .returned (.int .u32 (W y)) ∧ (∃ n, w' = w.drewN n) := by
  subst hy
  exact left_any x s w h0 h1

theorem wrap_u32s (n : Int) (h0 : 0 ≤ n) (h1 : n ≤ 4294967295) : IntKind.u32.wrap n = n := by rw [IntKind.wrap_u32]; omega
theorem wrap_small (n : Nat) (h : n < 1000000) : IntKind.i64.wrap (n : Int) = (n : Int) := by rw [IntKind.wrap_i64]; omega


theorem prepA (l : List UInt8) (k : Nat) (hlt : k < 16) : ∃ (n0 n1 n2 n3 : Nat) (b0 b1 b2 b3 : UInt8) (y : Wd),
    (n0 < 64 ∧ n1 < 64 ∧ n2 < 64 ∧ n3 < 64) ∧ (l.getD n0 0 = b0 ∧ l.getD n1 0 = b1 ∧ l.getD n2 0 = b2 ∧ l.getD n3 0 = b3) ∧
    stL l (k + 1) = stL l k ++ [y] ∧
    ((4 : Int) * (k : Int) = (n0 : Int) ∧ (n0 : Int) + 1 = (n1 : Int) ∧ (n0 : Int) + 2 = (n2 : Int) ∧ (n0 : Int) + 3 = (n3 : Int)) ∧
    ((n0 : Int) < 64 ∧ (n1 : Int) < 64 ∧ (n2 : Int) < 64 ∧ (n3 : Int) < 64) ∧
    (IntKind.i64.wrap (n0 : Int) = (n0 : Int) ∧ IntKind.i64.wrap (n1 : Int) = (n1 : Int) ∧ IntKind.i64.wrap (n2 : Int) = (n2 : Int) ∧ IntKind.i64.wrap (n3 : Int) = (n3 : Int)) ∧
    (IntKind.u32.wrap (b0.toNat : Int) = (b0.toNat : Int) ∧ IntKind.u32.wrap (b1.toNat : Int) = (b1.toNat : Int) ∧ IntKind.u32.wrap (b2.toNat : Int) = (b2.toNat : Int) ∧ IntKind.u32.wrap (b3.toNat : Int) = (b3.toNat : Int)) ∧
    (IntKind.u32.wrap ((b0.toNat : Int) * 16777216) = (b0.toNat : Int) * 16777216 ∧ IntKind.u32.wrap ((b1.toNat : Int) * 65536) = (b1.toNat : Int) * 65536 ∧ IntKind.u32.wrap ((b2.toNat : Int) * 256) = (b2.toNat : Int) * 256) ∧
    (IntKind.u32.wrap ((b0.toNat : Int) * 16777216 + (b1.toNat : Int) * 65536) = (b0.toNat : Int) * 16777216 + (b1.toNat : Int) * 65536 ∧ IntKind.u32.wrap ((b0.toNat : Int) * 16777216 + (b1.toNat : Int) * 65536 + (b2.toNat : Int) * 256) = (b0.toNat : Int) * 16777216 + (b1.toNat : Int) * 65536 + (b2.toNat : Int) * 256) ∧
    IntKind.u32.wrap ((b0.toNat : Int) * 16777216 + (b1.toNat : Int) * 65536 + (b2.toNat : Int) * 256 + (b3.toNat : Int)) = (b0.toNat : Int) * 16777216 + (b1.toNat : Int) * 65536 + (b2.toNat : Int) * 256 + (b3.toNat : Int) ∧
    (b0.toNat : Int) * (16777216 : Int) + (b1.toNat : Int) * (65536 : Int) + (b2.toNat : Int) * (256 : Int) + (b3.toNat : Int) = W y ∧ IntKind.u32.wrap (W y) = W y := by
  have e0 := (l.getD (4 * k) 0).toNat_lt
  have e1 := (l.getD (4 * k + 1) 0).toNat_lt
  have e2 := (l.getD (4 * k + 2) 0).toNat_lt
  have e3 := (l.getD (4 * k + 3) 0).toNat_lt
  refine ⟨4 * k, 4 * k + 1, 4 * k + 2, 4 * k + 3, _, _, _, _, bw (l.getD (4 * k) 0) <<< 24 ||| bw (l.getD (4 * k + 1) 0) <<< 16 ||| bw (l.getD (4 * k + 2) 0) <<< 8 ||| bw (l.getD (4 * k + 3) 0), ⟨by omega, by omega, by omega, by omega⟩, ⟨rfl, rfl, rfl, rfl⟩, ?_, ⟨by omega, by omega, by omega, by omega⟩, ⟨by omega, by omega, by omega, by omega⟩, ⟨wrap_small _ (by omega), wrap_small _ (by omega), wrap_small _ (by omega), wrap_small _ (by omega)⟩, ⟨wrap_u32s _ (by omega) (by omega), wrap_u32s _ (by omega) (by omega), wrap_u32s _ (by omega) (by omega), wrap_u32s _ (by omega) (by omega)⟩, ⟨wrap_u32s _ (by omega) (by omega), wrap_u32s _ (by omega) (by omega), wrap_u32s _ (by omega) (by omega)⟩, ⟨wrap_u32s _ (by omega) (by omega), wrap_u32s _ (by omega) (by omega)⟩, wrap_u32s _ (by omega) (by omega), add_be4 _ _ _ _, wrap_W _⟩
  have : sNext l (stL l k) k = bw (l.getD (4 * k) 0) <<< 24 ||| bw (l.getD (4 * k + 1) 0) <<< 16 ||| bw (l.getD (4 * k + 2) 0) <<< 8 ||| bw (l.getD (4 * k + 3) 0) := by rw [sNext, if_pos hlt, be4]
  rw [stL, this]

theorem prepB (l : List UInt8) (k : Nat) (hk : 16 ≤ k) (hlt : k < 64) : ∃ (k16 k15 k7 k2 : Nat) (t16 t15 t7 t2 v1 v2 v3 u3s v4 v5 v6 v7 u10s v8 x16 x7 xx : Wd),
    (k16 < k ∧ k15 < k ∧ k7 < k ∧ k2 < k) ∧ ((stL l k).getD k16 0 = t16 ∧ (stL l k).getD k15 0 = t15 ∧ (stL l k).getD k7 0 = t7 ∧ (stL l k).getD k2 0 = t2) ∧
    stL l (k + 1) = stL l k ++ [xx] ∧
    ((k : Int) - 16 = (k16 : Int) ∧ (k16 : Int) < (k : Int) ∧ IntKind.i64.wrap (k16 : Int) = (k16 : Int)) ∧
    ((k : Int) - 15 = (k15 : Int) ∧ (k15 : Int) < (k : Int) ∧ IntKind.i64.wrap (k15 : Int) = (k15 : Int)) ∧
    ((k : Int) - 7 = (k7 : Int) ∧ (k7 : Int) < (k : Int) ∧ IntKind.i64.wrap (k7 : Int) = (k7 : Int)) ∧
    ((k : Int) - 2 = (k2 : Int) ∧ (k2 : Int) < (k : Int) ∧ IntKind.i64.wrap (k2 : Int) = (k2 : Int)) ∧
    (rotl t15 25 = v1 ∧ rotl t15 14 = v2 ∧ v1 ^^^ v2 = v3 ∧ t15 >>> 3 = u3s ∧ v3 ^^^ u3s = v4) ∧
    (rotl t2 15 = v5 ∧ rotl t2 13 = v6 ∧ v5 ^^^ v6 = v7 ∧ t2 >>> 10 = u10s ∧ v7 ^^^ u10s = v8) ∧
    (t16 + v4 = x16 ∧ x16 + t7 = x7 ∧ x7 + v8 = xx) := by
  refine ⟨k - 16, k - 15, k - 7, k - 2, _, _, _, _, _, _, _, _, _, _, _, _, _, _, _, _, _, ⟨by omega, by omega, by omega, by omega⟩, ⟨rfl, rfl, rfl, rfl⟩, ?_, ⟨by omega, by omega, wrap_small _ (by omega)⟩, ⟨by omega, by omega, wrap_small _ (by omega)⟩, ⟨by omega, by omega, wrap_small _ (by omega)⟩, ⟨by omega, by omega, wrap_small _ (by omega)⟩, ⟨rfl, rfl, rfl, rfl, rfl⟩, ⟨rfl, rfl, rfl, rfl, rfl⟩, ⟨rfl, rfl, rfl⟩⟩
  rw [stL, sNext, if_neg (by omega)]
  rfl

set_option maxHeartbeats 16000000 in
set_option maxRecDepth 20000 in
theorem schedule_any (b off c : Nat) (l : List UInt8) (w : World) (hl : l.length = 64) (_hc : 64 ≤ c) (hbl : b < w.heap.size)
    (hcs : ∀ j (h : j < l.length), w.cell? ⟨b, off + j, none⟩ = some (.int .u8 (l[j].toNat : Int))) :
    Calls Tryd.prog 67 #[.slice (some ⟨b, off, none⟩) 64 c] w fun e w' => ∃ v, e = .returned v ∧ OwnW w' w.heap.size v (stL l 64) ∧ Below w.heap.size w w' := by
  obtain ⟨i0, hi, hz0, hz1, hz2⟩ := info_parts info101
  have HQ0 : Hid (∀ j, j < 64 → w.cell? ⟨b, off + j, none⟩ = some (.int .u8 ((l.getD j 0).toNat : Int))) := fun j hj => Bytes.getD hcs (k := j) (by rw [hl]; exact hj)
  have HBL : Hid (b < w.heap.size) := hbl
  clear hl hcs
  go_enter Tryd.func67, Tryd.ntmps67
  go_wp2
  go_loopw [3, 4] (fun v i wr => ∃ k : Nat, k ≤ 16 ∧ i = .int .i64 k ∧ OwnW wr w.heap.size v (stL l k) ∧ Below w.heap.size w wr) (fun _ i _ => 16 - (intOf i).toNat)
  case atStart => exact ⟨0, by omega, rfl, World.ownsRow_nil w _ _ _, Below.refl _ _⟩
  case round =>
    obtain ⟨k, hk, rfl, ho, hnx⟩ := hrel
    have HO : Hid (OwnW wr w.heap.size u3 (stL l k)) := ho
    clear ho
    have hsz := hnx.size
    by_cases hlt : k < 16
    · obtain ⟨n0, n1, n2, n3, b0, b1, b2, b3, y, ⟨m0, m1, m2, m3⟩, ⟨g0, g1, g2, g3⟩, hst, ⟨i0', i1', i2', i3'⟩, ⟨hr0, hr1, hr2, hr3⟩, ⟨hw0, hw1, hw2, hw3⟩, ⟨wb0, wb1, wb2, wb3⟩, ⟨wm0, wm1, wm2⟩, ⟨ws1, ws2⟩, ws3, hsum, wy⟩ := prepA l k hlt
      have hlt' : (k : Int) < 16 := by omega
      have HST : Hid (stL l (k + 1) = stL l k ++ [y]) := hst
      have HQ : Hid (∀ w', Below w.heap.size w w' → w'.cell? ⟨b, off + n0, none⟩ = some (.int .u8 (b0.toNat : Int)) ∧ w'.cell? ⟨b, off + n1, none⟩ = some (.int .u8 (b1.toNat : Int)) ∧ w'.cell? ⟨b, off + n2, none⟩ = some (.int .u8 (b2.toNat : Int)) ∧ w'.cell? ⟨b, off + n3, none⟩ = some (.int .u8 (b3.toNat : Int))) := fun w' hb => by
        have hq := HQ0.out
        have hl := HBL.out
        refine ⟨?_, ?_, ?_, ?_⟩
        · rw [hb.cell (p := ⟨b, off + n0, none⟩) hl, hq n0 m0, g0]
        · rw [hb.cell (p := ⟨b, off + n1, none⟩) hl, hq n1 m1, g1]
        · rw [hb.cell (p := ⟨b, off + n2, none⟩) hl, hq n2 m2, g2]
        · rw [hb.cell (p := ⟨b, off + n3, none⟩) hl, hq n3 m3, g3]
      obtain ⟨q0, q1, q2, q3⟩ := HQ.out wr hnx
      have HOWN : Hid (wr.ownsRow w.heap.size 101 1 u3 k (wcs (stL l k))) := by
        have : wr.ownsRow w.heap.size 101 1 u3 (stL l k).length (wcs (stL l k)) := HO.out
        rw [stL_length] at this
        exact this
      clear m0 m1 m2 m3 g0 g1 g2 g3 hst HO
      go_wp2_with fail
      go_region_held3 (fun w' => w'.cell? ⟨b, off + n0, none⟩ = some (.int .u8 (b0.toNat : Int)) ∧ w'.cell? ⟨b, off + n1, none⟩ = some (.int .u8 (b1.toNat : Int)) ∧ w'.cell? ⟨b, off + n2, none⟩ = some (.int .u8 (b2.toNat : Int)) ∧ w'.cell? ⟨b, off + n3, none⟩ = some (.int .u8 (b3.toNat : Int))) (go_keep)
        (first
          | (refine step_append_own rfl (.tmp 12) (.tmp 46) 109 rfl w.heap.size 101 i0 (.int .u32 0) 1 4 Tryd.underlying109 hi hz0 hz1 hz2 rfl (by decide) u3 k (wcs (stL l k)) rfl (World.ownsRow.drew (World.ownsRow.alloc HOWN.out _)) ⟨wr.heap.size, 0, none⟩ 1 1 [.int .u32 (W y)] rfl rfl (cell_one_new wr _ _) (one_one _ rfl) (by unfold maxLen; omega) (by omega) (by simp; omega) ?_; intro v1 w1 hown1 hgrow1; have hB1 : Below w.heap.size w w1 := ((hnx.alloc hsz _).drew).grown hgrow1 (by simp; omega) (fun j hj => (World.ownsRow.lt HOWN.out j hj).1); obtain ⟨s0, s1, s2, s3⟩ := HQ.out w1 hB1))
      have HO1 : Hid (OwnW w1 w.heap.size v1 (stL l (k + 1))) := by
        show w1.ownsRow w.heap.size 101 1 v1 (stL l (k + 1)).length (wcs (stL l (k + 1)))
        rw [stL_length, HST.out, wcs_append]
        exact hown1
      clear hown1 hgrow1 HOWN q0 q1 q2 q3 s0 s1 s2 s3 i0' i1' i2' i3' hr0 hr1 hr2 hr3 hw0 hw1 hw2 hw3 wb0 wb1 wb2 wb3 wm0 wm1 wm2 ws1 ws2 ws3 hsum wy HQ
      go_wp2
      go_roundw
      case rel => exact ⟨k + 1, by omega, by go_num, HO1.out, hB1⟩
      case measure => simp [intOf]; omega
    · obtain rfl : k = 16 := by omega
      clear HQ0 HBL hlt
      go_wp2
      go_loopw [3, 5] (fun v i wr => ∃ k : Nat, 16 ≤ k ∧ k ≤ 64 ∧ i = .int .i64 k ∧ OwnW wr w.heap.size v (stL l k) ∧ Below w.heap.size w wr) (fun _ i _ => 64 - (intOf i).toNat)
      case atStart => exact ⟨16, by omega, by omega, rfl, HO.out, hnx⟩
      case round =>
        clear HO hnx hsz
        obtain ⟨k, hk0, hk, rfl, ho, hnx⟩ := hrel
        obtain ⟨g, cc, rfl, hgb, hgl, hlc, hce, hfz⟩ := OwnW.some ho (by rw [stL_length]; omega)
        rw [stL_length] at hlc hce ⊢
        have HOWN : Hid (wr.ownsRow w.heap.size 101 1 (.slice (some ⟨g, 0, none⟩) k cc) k (wcs (stL l k))) := by
          have : wr.ownsRow w.heap.size 101 1 (.slice (some ⟨g, 0, none⟩) (stL l k).length cc) (stL l k).length (wcs (stL l k)) := ho
          rw [stL_length] at this
          exact this
        have HCE : Hid (∀ j, j < k → wr.cell? ⟨g, j, none⟩ = some (.int .u32 (W ((stL l k).getD j 0)))) := hce
        have HNX : Hid (Below w.heap.size w wr) := hnx
        have HGB : Hid (w.heap.size ≤ g ∧ g < wr.heap.size) := ⟨hgb, hgl⟩
        clear hfz hce
        by_cases hlt : k < 64
        · obtain ⟨k16, k15, k7, k2, t16, t15, t7, t2, v1, v2, v3, u3s, v4, v5, v6, v7, u10s, v8, x16, x7, xx, ⟨m16, m15, m7, m2⟩, ⟨g16, g15, g7, g2⟩, hst, ⟨i16, l16, w16⟩, ⟨i15, l15, w15⟩, ⟨i7, l7, w7⟩, ⟨i2, l2, w2⟩, ⟨p1, p2, p3, p4, p5⟩, ⟨p6, p7, p8, p9, p10⟩, ⟨p11, p12, p13⟩⟩ := prepB l k hk0 hlt
          have hlt' : (k : Int) < 64 := by omega
          have HST : Hid (stL l (k + 1) = stL l k ++ [xx]) := hst
          have HX16 : Hid ((wcs (stL l k))[k16]? = some (.int .u32 (W t16))) := by
            show _ = _
            rw [← g16, getD_at (by rw [stL_length]; omega), wcs_get]
          have HX7 : Hid ((wcs (stL l k))[k7]? = some (.int .u32 (W t7))) := by
            show _ = _
            rw [← g7, getD_at (by rw [stL_length]; omega), wcs_get]
          have c15 := HCE.out k15 m15
          rw [g15] at c15
          have GC : Hid (wr.cell? ⟨g, k16, none⟩ = some (.int .u32 (W t16)) ∧ wr.cell? ⟨g, k7, none⟩ = some (.int .u32 (W t7)) ∧ wr.cell? ⟨g, k2, none⟩ = some (.int .u32 (W t2))) := by
            refine ⟨?_, ?_, ?_⟩
            · rw [← g16]; exact HCE.out k16 m16
            · rw [← g7]; exact HCE.out k7 m7
            · rw [← g2]; exact HCE.out k2 m2
          have GI2 : Hid ((k : Int) - 2 = (k2 : Int) ∧ (k2 : Int) < (k : Int) ∧ IntKind.i64.wrap (k2 : Int) = (k2 : Int)) := ⟨i2, l2, w2⟩
          have GI16 : Hid ((k : Int) - 16 = (k16 : Int) ∧ (k16 : Int) < (k : Int) ∧ IntKind.i64.wrap (k16 : Int) = (k16 : Int)) := ⟨i16, l16, w16⟩
          have GI7 : Hid ((k : Int) - 7 = (k7 : Int) ∧ (k7 : Int) < (k : Int) ∧ IntKind.i64.wrap (k7 : Int) = (k7 : Int)) := ⟨i7, l7, w7⟩
          have x1 := W_xor v1 v2
          rw [p3] at x1
          have x2 := W_shr3 t15
          rw [p4] at x2
          have x3 := W_xor v3 u3s
          rw [p5] at x3
          have HP : Hid (v5 ^^^ v6 = v7 ∧ t2 >>> 10 = u10s ∧ v7 ^^^ u10s = v8 ∧ t16 + v4 = x16 ∧ x16 + t7 = x7 ∧ x7 + v8 = xx) := ⟨p8, p9, p10, p11, p12, p13⟩
          have H1 : Hid (∀ w', Calls Tryd.prog 68 #[.int .u32 (W t15), .int .i64 25] w' fun e w'' => e = .returned (.int .u32 (W v1)) ∧ (∃ n, w'' = w'.drewN n)) := fun w' => left_quiet t15 25 v1 w' (by decide) (by decide) p1
          have H2 : Hid (∀ w', Calls Tryd.prog 68 #[.int .u32 (W t15), .int .i64 14] w' fun e w'' => e = .returned (.int .u32 (W v2)) ∧ (∃ n, w'' = w'.drewN n)) := fun w' => left_quiet t15 14 v2 w' (by decide) (by decide) p2
          have H5 : Hid (∀ w', Calls Tryd.prog 68 #[.int .u32 (W t2), .int .i64 15] w' fun e w'' => e = .returned (.int .u32 (W v5)) ∧ (∃ n, w'' = w'.drewN n)) := fun w' => left_quiet t2 15 v5 w' (by decide) (by decide) p6
          have H6 : Hid (∀ w', Calls Tryd.prog 68 #[.int .u32 (W t2), .int .i64 13] w' fun e w'' => e = .returned (.int .u32 (W v6)) ∧ (∃ n, w'' = w'.drewN n)) := fun w' => left_quiet t2 13 v6 w' (by decide) (by decide) p7
          clear p1 p2 p3 p4 p5 p6 p7 p8 p9 p10 p11 p12 p13 i2 l2 w2 i16 l16 w16 i7 l7 w7 g16 g15 g7 g2 m16 m15 m7 m2 hst HCE hnx hgb hgl ho
          go_wp2_with fail
          go_quiet (first
            | (go_at_call 68; with_reducible exact Calls.quiet_of (H1.out _))
            | (go_at_call 68; with_reducible exact Calls.quiet_of (H2.out _)))
          clear x1 x2 x3 c15 i15 l15 w15 H1 H2
          have GC1 : Hid ((wr.drewN nq).cell? ⟨g, k16, none⟩ = some (.int .u32 (W t16)) ∧ (wr.drewN nq).cell? ⟨g, k7, none⟩ = some (.int .u32 (W t7))) := ⟨GC.out.1, GC.out.2.1⟩
          have c2 : (wr.drewN nq).cell? ⟨g, k2, none⟩ = some (.int .u32 (W t2)) := GC.out.2.2
          have HOWN1 : Hid ((wr.drewN nq).ownsRow w.heap.size 101 1 (.slice (some ⟨g, 0, none⟩) k cc) k (wcs (stL l k))) := HOWN.out
          have HNX1 : Hid (Below w.heap.size w (wr.drewN nq)) := below_drewN HNX.out nq
          have HGB1 : Hid (w.heap.size ≤ g ∧ g < (wr.drewN nq).heap.size) := HGB.out
          clear GC HOWN HNX HGB
          generalize wr.drewN nq = wr1 at *
          obtain ⟨i2, l2, w2⟩ := GI2.out
          have y1 := W_xor v5 v6
          rw [HP.out.1] at y1
          have y2 := W_shr10 t2
          rw [HP.out.2.1] at y2
          have y3 := W_xor v7 u10s
          rw [HP.out.2.2.1] at y3
          clear GI2
          go_wp2_with fail
          go_quiet (first
            | (go_at_call 68; with_reducible exact Calls.quiet_of (H5.out _))
            | (go_at_call 68; with_reducible exact Calls.quiet_of (H6.out _)))
          clear y1 y2 y3 c2 i2 l2 w2 H5 H6
          have c16 : (wr1.drewN nq).cell? ⟨g, k16, none⟩ = some (.int .u32 (W t16)) := GC1.out.1
          have c7 : (wr1.drewN nq).cell? ⟨g, k7, none⟩ = some (.int .u32 (W t7)) := GC1.out.2
          have HOWN : Hid ((wr1.drewN nq).ownsRow w.heap.size 101 1 (.slice (some ⟨g, 0, none⟩) k cc) k (wcs (stL l k))) := HOWN1.out
          have hnx : Below w.heap.size w (wr1.drewN nq) := below_drewN HNX1.out nq
          have hsz := hnx.size
          have hgb : w.heap.size ≤ g := HGB1.out.1
          have hgl : g < (wr1.drewN nq).heap.size := HGB1.out.2
          clear GC1 HOWN1 HNX1 HGB1
          generalize wr1.drewN nq = wr2 at *
          obtain ⟨i16, l16, w16⟩ := GI16.out
          obtain ⟨i7, l7, w7⟩ := GI7.out
          have a1 := W_addm t16 v4
          have a1' := W_add t16 v4
          rw [HP.out.2.2.2.1] at a1 a1'
          have a2 := W_addm x16 t7
          have a2' := W_add x16 t7
          rw [HP.out.2.2.2.2.1] at a2 a2'
          have a3 := W_addm x7 v8
          have a3' := W_add x7 v8
          rw [HP.out.2.2.2.2.2] at a3 a3'
          have wxx := wrap_W xx
          clear GI16 GI7 HP
          go_wp2_with fail
          go_region_held3 (fun w' => w'.cell? ⟨g, k16, none⟩ = some (.int .u32 (W t16)) ∧ w'.cell? ⟨g, k7, none⟩ = some (.int .u32 (W t7))) (go_keep)
            (first
              | (refine step_append_keep rfl (.tmp 92) (.tmp 108) 109 rfl w.heap.size 101 i0 (.int .u32 0) 1 4 Tryd.underlying109 hi hz0 hz1 hz2 rfl (by decide) g k cc (wcs (stL l k)) rfl (World.ownsRow.drew (World.ownsRow.alloc HOWN.out _)) ⟨wr2.heap.size, 0, none⟩ 1 1 [.int .u32 (W xx)] rfl rfl (cell_one_new wr2 _ _) (one_one _ rfl) (by unfold maxLen; omega) (by omega) (by simp; omega) ?_; intro v9 w9 hown9 hgrow9 hkp9; have s16 := hkp9 _ _ HX16.out; have s7 := hkp9 _ _ HX7.out; clear hkp9))
          all_goals
            have hB9 : Below w.heap.size w w9 := ((hnx.alloc hsz _).drew).grown hgrow9 (by simp; omega) (by intro j hj; cases hj; exact hgb)
            have HO9 : Hid (OwnW w9 w.heap.size v9 (stL l (k + 1))) := by
              show w9.ownsRow w.heap.size 101 1 v9 (stL l (k + 1)).length (wcs (stL l (k + 1)))
              rw [stL_length, HST.out, wcs_append]
              exact hown9
            clear hown9 hgrow9 HOWN s16 s7 c16 c7 a1 a1' a2 a2' a3 a3' i16 i7 l16 l7 w16 w7 wxx HX16 HX7
            go_wp2
            go_roundw
            case rel =>
              first
                | exact ⟨k + 1, by omega, by omega, by go_num, HO9.out, hB9⟩
                | ((repeat apply Exists.intro); exact ⟨⟨k + 1, by omega, by omega, by go_num, HO9.out, hB9⟩, rfl⟩)
            case measure => simp [intOf]; omega
        · have HK : Hid (k = 64) := by show k = 64; omega
          have hge : ¬ (k : Int) < 64 := by omega
          have HO : Hid (OwnW wr w.heap.size (.slice (some ⟨g, 0, none⟩) k cc) (stL l k)) := by
            have := ho
            rw [stL_length] at this
            exact this
          clear HCE HOWN ho hlc hgb hgl hnx HGB hlt
          go_wp2
          go_ret
          exact ⟨_, rfl, by have := HO.out; rw [HK.out] at this; rw [HK.out]; exact this, HNX.out⟩
end Go.Proofs.YtgpjjlkkfddjnaaDoor
/-
  The document's round of SHA-256 against the program's, and the text behind the text.
-/
namespace Go.Proofs.YtgpjjlkkfddjnaaDoor
open Go.RowKit

theorem ch_eq (e f g : Wd) : (e &&& f) ^^^ (~~~ e &&& g) = (e &&& f ||| g &&& ~~~ e) := by
  apply BitVec.eq_of_getLsbD_eq
  intro i hi
  simp only [BitVec.getLsbD_xor, BitVec.getLsbD_or, BitVec.getLsbD_and, BitVec.getLsbD_not, hi, decide_true, Bool.true_and]
  cases e.getLsbD i <;> cases f.getLsbD i <;> cases g.getLsbD i <;> rfl
theorem maj_eq (a b c : Wd) : (a &&& b) ^^^ (a &&& c) ^^^ (b &&& c) = (a &&& b ||| a &&& c ||| b &&& c) := by
  apply BitVec.eq_of_getLsbD_eq
  intro i hi
  simp only [BitVec.getLsbD_xor, BitVec.getLsbD_or, BitVec.getLsbD_and]
  cases a.getLsbD i <;> cases b.getLsbD i <;> cases c.getLsbD i <;> rfl
/-- The document's two sums of a round. -/
theorem low_ref (T : List Wd) (i : Nat) (s : S8) : s.h + (rotl s.e 26 ^^^ rotl s.e 21 ^^^ rotl s.e 7) + ((s.e &&& s.f) ^^^ (~~~ s.e &&& s.g)) + shaK.getD i 0 + T.getD i 0 = sLow T i s := by
  rw [ch_eq, sLow]
  have e : s.h + (rotl s.e 26 ^^^ rotl s.e 21 ^^^ rotl s.e 7) + (s.e &&& s.f ||| s.g &&& ~~~ s.e) = (rotl s.e 26 ^^^ rotl s.e 21 ^^^ rotl s.e 7) + (s.e &&& s.f ||| s.g &&& ~~~ s.e) + s.h := by
    rw [BitVec.add_assoc, BitVec.add_comm s.h]
  rw [e]
theorem high_ref (s : S8) : (rotl s.a 30 ^^^ rotl s.a 19 ^^^ rotl s.a 10) + ((s.a &&& s.b) ^^^ (s.a &&& s.c) ^^^ (s.b &&& s.c)) = sHigh s := by rw [maj_eq, sHigh]

/-- Eight bytes laid from the end of a text on. -/
theorem lay_end (pre : List UInt8) (f : Nat → UInt8) (n : Nat) (hn : n = pre.length + 8) : lay8 (pre ++ noughts 8) f (fun j => n - 8 + j) 8 = pre ++ [f 0, f 1, f 2, f 3, f 4, f 5, f 6, f 7] := by
  have e : ∀ j, n - 8 + j = pre.length + j := fun j => by omega
  simp only [lay8, e]
  rw [List.set_append_right _ _ (by omega), List.set_append_right _ _ (by omega), List.set_append_right _ _ (by omega), List.set_append_right _ _ (by omega), List.set_append_right _ _ (by omega), List.set_append_right _ _ (by omega), List.set_append_right _ _ (by omega), List.set_append_right _ _ (by omega)]
  simp [noughts, List.replicate]
theorem lay_back (pre : List UInt8) (f : Nat → UInt8) (n : Nat) (hn : n = pre.length + 8) : lay8 (pre ++ noughts 8) f (fun j => n - 1 - j) 8 = pre ++ [f 7, f 6, f 5, f 4, f 3, f 2, f 1, f 0] := by
  have e : ∀ j, j < 8 → n - 1 - j = pre.length + (7 - j) := fun j h => by omega
  simp only [lay8]
  rw [e 0 (by decide), e 1 (by decide), e 2 (by decide), e 3 (by decide), e 4 (by decide), e 5 (by decide), e 6 (by decide), e 7 (by decide)]
  rw [List.set_append_right _ _ (by omega), List.set_append_right _ _ (by omega), List.set_append_right _ _ (by omega), List.set_append_right _ _ (by omega), List.set_append_right _ _ (by omega), List.set_append_right _ _ (by omega), List.set_append_right _ _ (by omega), List.set_append_right _ _ (by omega)]
  simp [noughts, List.replicate]
theorem padL_split (r : List UInt8) : padL r = (r ++ ([128] ++ noughts (pl r.length - r.length - 9))) ++ noughts 8 := by
  have := pl_bd r.length
  unfold padL noughts
  rw [List.append_assoc, List.append_assoc, List.replicate_append_replicate, show pl r.length - r.length - 9 + 8 = pl r.length - r.length - 1 from by omega]
  rfl
theorem pad_len (r : List UInt8) : pl r.length = (r ++ ([128] ++ noughts (pl r.length - r.length - 9))).length + 8 := by
  have := pl_bd r.length
  simp [noughts]
  omega
theorem sfin_tail (l : List UInt8) : sfin (rest l) l.length = rest l ++ stail l.length 8 := by
  rw [sfin, padL_split, lay_back _ _ _ (pad_len (rest l)), List.append_assoc]
  congr 1
  simp only [stail, stailZ, zpad, rest_length, List.append_assoc, List.cons_append, List.nil_append]
theorem mfin_tail (l : List UInt8) : mfin (rest l) l.length = rest l ++ mtail l.length 8 := by
  rw [mfin, padL_split, lay_end _ _ _ (pad_len (rest l)), List.append_assoc]
  congr 1
  simp only [mtail, mtailZ, zpad, rest_length, List.append_assoc, List.cons_append, List.nil_append]
/-- The sum as the document goes about it. -/
theorem shaL_ref (l : List UInt8) : shaL l = shaOut (eat sMix (l ++ stail l.length 8) sInit) := by rw [shaL, sfin_tail, ← eat_app]
theorem md5L_ref (l : List UInt8) : md5L l = md5Out (eat mMix (l ++ mtail l.length 8) mInit) := by rw [md5L, mfin_tail, ← eat_app]
theorem pad_whole (l : List UInt8) : (l ++ stail l.length 8).length % 64 = 0 ∧ (l ++ mtail l.length 8).length % 64 = 0 := by
  have := zpad_eq l.length
  rw [List.length_append, List.length_append, stail_length _ 8 (by decide), mtail_length _ 8 (by decide)]
  omega
end Go.Proofs.YtgpjjlkkfddjnaaDoor
/-
  The document's SHA-256 by its contract.
-/
namespace Go.Proofs.YtgpjjlkkfddjnaaDoor
open Go.RowKit

theorem roots_any (w : World) : Calls Tryd.prog 65 #[] w fun e w' => e = .returned (.slice (some ⟨w.heap.size, 0, none⟩) 64 64) ∧ w' = w.alloc (.cells (wcs shaK).toArray 101) := by
  go_enter Tryd.func65, Tryd.ntmps65
  go_wp2
  go_ret
  exact ⟨rfl, by kernel_rfl⟩

theorem quiet_more {P : Program} {f : FuncId} {args : Array Value} {w : World} {a n : Nat} {v : Value}
    (h : Calls P f args (w.drewN (a + n)) fun e w' => e = .returned v ∧ ∃ m, w' = (w.drewN (a + n)).drewN m) : Calls P f args (w.drewN (a + n)) fun e w'' => e = .returned v ∧ ∃ m, w'' = w.drewN (a + m) :=
  h.mono fun _ _ ⟨he, m, hm⟩ => ⟨he, n + m, by rw [hm, World.drewN_drewN, Nat.add_assoc]⟩
theorem step_below' {B : Nat} {w w1 w2 : World} (h : Below B w w1) (hb : Below w1.heap.size w1 w2) (hB : B ≤ w1.heap.size := by omega) : Below B w w2 := h.trans (hb.mono hB)

set_option maxHeartbeats 8000000 in
set_option maxRecDepth 20000 in
theorem refSha_any (a : Option Addr) (l : List UInt8) (cap : Nat) (w : World) (hn : a = none → cap = 0) (hl : l.length ≤ 140737488351800) (hb : Bytes w a l) :
    Calls Tryd.prog 53 #[.slice a l.length cap] w fun e w' => ∃ v, e = .returned v ∧ Own w' w.heap.size v (shaL l) ∧ Below w.heap.size w w' := by
  obtain ⟨i0, hi, hz0, hz1, hz2⟩ := info_parts info5
  have HB : Hid (Bytes w a l) := hb
  have HN : Hid (a = none → cap = 0) := hn
  clear hb hn
  go_enter Tryd.func53, Tryd.ntmps53
  go_wp2_with fail
  have e8 : (#[Value.int .u32 1779033703, .int .u32 3144134277, .int .u32 1013904242, .int .u32 2773480762, .int .u32 1359893119, .int .u32 2600822924, .int .u32 528734635, .int .u32 1541459225] : Array Value) = (wcs sInit.toL).toArray := by kernel_rfl
  rw [e8]
  clear e8
  have hS0 : Wds (w.alloc (.cells (wcs sInit.toL).toArray 101)) w.heap.size 101 sInit.toL := Wds.new w 101 sInit.toL
  have hB0 : Below w.heap.size w (w.alloc (.cells (wcs sInit.toL).toArray 101)) := (Below.refl _ w).alloc (Nat.le_refl _) _
  have hz0' : (w.alloc (.cells (wcs sInit.toL).toArray 101)).heap.size = w.heap.size + 1 := by simp
  have HS0 : Hid (Wds (w.alloc (.cells (wcs sInit.toL).toArray 101)) w.heap.size 101 sInit.toL) := hS0
  have HZ0 : Hid ((w.alloc (.cells (wcs sInit.toL).toArray 101)).heap.size = w.heap.size + 1) := hz0'
  clear hS0 hz0'
  generalize w.alloc (.cells (wcs sInit.toL).toArray 101) = w0 at *
  refine (roots_any _).mono ?_
  rintro e w1 ⟨rfl, hw1⟩
  have HK1 : Hid (Wds w1 w0.heap.size 101 shaK) := by
    show Wds _ _ _ _
    rw [hw1]
    exact Wds.new w0 101 shaK
  have HS1 : Hid (Wds w1 w.heap.size 101 sInit.toL) := by
    show Wds _ _ _ _
    rw [hw1]
    exact HS0.out.alloc _
  have hB1 : Below w.heap.size w w1 := by rw [hw1]; exact hB0.alloc hB0.size _
  have hkg := HZ0.out
  have HKG : Hid (w0.heap.size = w.heap.size + 1) := hkg
  clear hw1 HS0 hB0 HZ0 hkg
  generalize w0.heap.size = kg at *
  have HCP : Hid _ := refPadS a l cap w1 HN.out hl (HB.out.below hB1 (Nat.le_refl _))
  have hs1 := hB1.size
  have hk1 := HK1.out.lt
  go_wp2_with fail
  refine Calls.mono HCP.out ?_
  rintro e w2 ⟨v2, rfl, ho2, hb2⟩
  have HK2 : Hid (Wds w2 kg 101 shaK) := HK1.out.below hb2 hk1
  have HS2 : Hid (Wds w2 w.heap.size 101 sInit.toL) := HS1.out.below hb2 HS1.out.lt
  have hB2 : Below w.heap.size w w2 := hB1.trans (hb2.mono hs1)
  have hw0 := pad_whole l
  have HSL : Hid (shaL l = shaOut (eat sMix (l ++ stail l.length 8) sInit)) := shaL_ref l
  have hMl : (l ++ stail l.length 8).length ≤ 140737488352000 := by
    have := zpad_lt l.length
    rw [List.length_append, stail_length _ 8 (by decide)]
    omega
  have hM0 : 0 < (l ++ stail l.length 8).length := by
    rw [List.length_append, stail_length _ 8 (by decide)]
    omega
  obtain ⟨xm, mc, rfl, hxm, _, hmc⟩ := ho2.bytes'
  have hw64 := hw0.1
  generalize l ++ stail l.length 8 = M at *
  obtain ⟨mg, mo, rfl, hmg, hmcs⟩ := hxm.at hM0
  have hmgw : kg < mg ∧ mo = 0 := by
    rcases ho2.2 with ⟨hv, _⟩ | ⟨g', c', cur, hv, hb', _⟩
    · simp at hv
    · simp only [Value.slice.injEq, Option.some.injEq, Addr.mk.injEq, and_true] at hv
      exact ⟨by omega, hv.1.2⟩
  obtain ⟨hkm, rfl⟩ := hmgw
  have HM2 : Hid (Bytes w2 (some ⟨mg, 0, none⟩) M) := hxm
  have HW64 : Hid (M.length % 64 = 0) := hw64
  clear ho2 hb2 hxm hmcs HCP HK1 HS1 hB1 hw0 hw64 HB
  go_wp2_with fail
  go_loopw [6] (fun i wr => ∃ j : Nat, 64 * j ≤ M.length ∧ i = .int .i64 ((64 * j : Nat) : Int) ∧ Wds wr w.heap.size 101 (eatN sMix j M sInit).toL ∧ Wds wr kg 101 shaK ∧ Bytes wr (some ⟨mg, 0, none⟩) M ∧ Below w.heap.size w wr) (fun i _ => M.length - (intOf i).toNat)
  case atStart => exact ⟨0, by omega, rfl, HS2.out, HK2.out, HM2.out, hB2⟩
  case round =>
    clear HS2 HK2 HM2 hB2
    obtain ⟨j, hj, rfl, hS, hK, hM, hnx⟩ := hrel
    have HS : Hid (Wds wr w.heap.size 101 (eatN sMix j M sInit).toL) := hS
    have HK : Hid (Wds wr kg 101 shaK) := hK
    have HM : Hid (Bytes wr (some ⟨mg, 0, none⟩) M) := hM
    clear hS hK hM
    by_cases hlt : 64 * j < M.length
    · have hA64 : 64 * j + 64 ≤ M.length := by have := HW64.out; omega
      have HEAT : Hid (eatN sMix (j + 1) M sInit = sMix ((M.drop (64 * j)).take 64) (eatN sMix j M sInit)) := by
        show _ = _
        have := eatN_app sMix j 1 M [] sInit (by omega)
        rw [List.append_nil, List.append_nil] at this
        rw [this]
        rfl
      generalize hA : 64 * j = A at *
      have HA : Hid (64 * j = A) := hA
      clear hA
      have hblk : ((M.drop A).take 64).length = 64 := by rw [List.length_take, List.length_drop]; omega
      have hcs : ∀ i (h : i < ((M.drop A).take 64).length), wr.cell? ⟨mg, A + i, none⟩ = some (.int .u8 (((M.drop A).take 64)[i].toNat : Int)) := by
        intro i h
        obtain ⟨b', o', he, _, hc'⟩ := HM.out.at hM0
        cases he
        have := hc' (A + i) (by omega)
        rw [Nat.zero_add] at this
        rw [this, List.getElem_take, List.getElem_drop]
      have hmgl : mg < wr.heap.size := HM.out.blk hM0 _ rfl
      have HC : Hid _ := schedule_any mg A (mc - A) ((M.drop A).take 64) wr hblk (by omega) hmgl hcs
      obtain ⟨A2, hA2⟩ : ∃ A2, A2 = A + 64 := ⟨_, rfl⟩
      have hai : ((A : Nat) : Int) + 64 = (A2 : Int) := by omega
      have hlti : (A : Int) < (M.length : Int) := by omega
      have hmci : (A2 : Int) ≤ (mc : Int) := by omega
      have hmca : (A : Int) ≤ (A2 : Int) := by omega
      have hmcn : ¬ mc = A := by omega
      have h64' : A2 - A = 64 := by omega
      have HA2 : Hid (A2 = A + 64) := hA2
      clear hA2
      have HA64 : Hid (A + 64 ≤ M.length) := hA64
      clear hblk hcs hA64
      go_wp2_with fail
      refine Calls.mono HC.out ?_
      rintro e w3 ⟨v3, rfl, ho3, hb3⟩
      obtain ⟨tg, tc, rfl, htb, htl, htc, hte, _⟩ := OwnW.some ho3 (by rw [stL_length]; decide)
      rw [stL_length] at htc hte ⊢
      have HTE : Hid (∀ j, j < 64 → w3.cell? ⟨tg, j, none⟩ = some (.int .u32 (W ((stL ((M.drop A).take 64) 64).getD j 0)))) := hte
      have HS3 : Hid (Wds w3 w.heap.size 101 (eatN sMix j M sInit).toL) := HS.out.below hb3 HS.out.lt
      have HK3 : Hid (Wds w3 kg 101 shaK) := HK.out.below hb3 HK.out.lt
      have HM3 : Hid (Bytes w3 (some ⟨mg, 0, none⟩) M) := HM.out.below hb3 (Nat.le_refl _)
      have hB3 : Below w.heap.size w w3 := step_below' hnx hb3 hnx.size
      clear ho3 hte HS HK HM HC hb3 hnx
      generalize hs8 : eatN sMix j M sInit = s at *
      generalize (M.drop A).take 64 = blk at *
      have HS8 : Hid (eatN sMix j M sInit = s) := hs8
      clear hs8
      have c0 : w3.cell? ⟨w.heap.size, 0, none⟩ = some (.int .u32 (W s.a)) := HS3.out.cell (k := 0) (by simp [S8.toL])
      have c1 : w3.cell? ⟨w.heap.size, 1, none⟩ = some (.int .u32 (W s.b)) := HS3.out.cell (k := 1) (by simp [S8.toL])
      have c2 : w3.cell? ⟨w.heap.size, 2, none⟩ = some (.int .u32 (W s.c)) := HS3.out.cell (k := 2) (by simp [S8.toL])
      have c3 : w3.cell? ⟨w.heap.size, 3, none⟩ = some (.int .u32 (W s.d)) := HS3.out.cell (k := 3) (by simp [S8.toL])
      have c4 : w3.cell? ⟨w.heap.size, 4, none⟩ = some (.int .u32 (W s.e)) := HS3.out.cell (k := 4) (by simp [S8.toL])
      have c5 : w3.cell? ⟨w.heap.size, 5, none⟩ = some (.int .u32 (W s.f)) := HS3.out.cell (k := 5) (by simp [S8.toL])
      have c6 : w3.cell? ⟨w.heap.size, 6, none⟩ = some (.int .u32 (W s.g)) := HS3.out.cell (k := 6) (by simp [S8.toL])
      have c7 : w3.cell? ⟨w.heap.size, 7, none⟩ = some (.int .u32 (W s.h)) := HS3.out.cell (k := 7) (by simp [S8.toL])
      go_wp2_with fail
      go_region_held3 (fun w' => w'.cell? ⟨w.heap.size, 0, none⟩ = some (.int .u32 (W s.a)) ∧ w'.cell? ⟨w.heap.size, 1, none⟩ = some (.int .u32 (W s.b)) ∧ w'.cell? ⟨w.heap.size, 2, none⟩ = some (.int .u32 (W s.c)) ∧ w'.cell? ⟨w.heap.size, 3, none⟩ = some (.int .u32 (W s.d)) ∧ w'.cell? ⟨w.heap.size, 4, none⟩ = some (.int .u32 (W s.e)) ∧ w'.cell? ⟨w.heap.size, 5, none⟩ = some (.int .u32 (W s.f)) ∧ w'.cell? ⟨w.heap.size, 6, none⟩ = some (.int .u32 (W s.g)) ∧ w'.cell? ⟨w.heap.size, 7, none⟩ = some (.int .u32 (W s.h))) (go_keep) (fail)
      have hV : Wds (w3.alloc (.cells (wcs s.toL).toArray 101)).drew w3.heap.size 101 s.toL := Wds.new w3 101 s.toL
      have hBA : Below w.heap.size w (w3.alloc (.cells (wcs s.toL).toArray 101)).drew := (hB3.alloc hB3.size _).drew
      have hSA : Wds (w3.alloc (.cells (wcs s.toL).toArray 101)).drew w.heap.size 101 s.toL := HS3.out.alloc _
      have hKA : Wds (w3.alloc (.cells (wcs s.toL).toArray 101)).drew kg 101 shaK := HK3.out.alloc _
      have hMA : Bytes (w3.alloc (.cells (wcs s.toL).toArray 101)).drew (some ⟨mg, 0, none⟩) M := Bytes.same (HM3.out.below ((Below.refl _ w3).alloc (Nat.le_refl _) (.cells (wcs s.toL).toArray 101)) (Nat.le_refl _)) rfl
      have hTA : ∀ j, j < 64 → (w3.alloc (.cells (wcs s.toL).toArray 101)).drew.cell? ⟨tg, j, none⟩ = some (.int .u32 (W ((stL blk 64).getD j 0))) := fun j hj => (World.cell?_of_block (w := w3) (a := ⟨tg, j, none⟩) (Below.heap_alloc w3 _ tg htl)).trans (HTE.out j hj)
      have htA : tg < (w3.alloc (.cells (wcs s.toL).toArray 101)).drew.heap.size := by show tg < (w3.alloc _).heap.size; simp; omega
      have hvA : w3.heap.size < (w3.alloc (.cells (wcs s.toL).toArray 101)).drew.heap.size := by show w3.heap.size < (w3.alloc _).heap.size; simp
      have HV : Hid (Wds (w3.alloc (.cells (wcs s.toL).toArray 101)).drew w3.heap.size 101 s.toL) := hV
      have HSA : Hid (Wds (w3.alloc (.cells (wcs s.toL).toArray 101)).drew w.heap.size 101 s.toL) := hSA
      have HKA : Hid (Wds (w3.alloc (.cells (wcs s.toL).toArray 101)).drew kg 101 shaK) := hKA
      have HMA : Hid (Bytes (w3.alloc (.cells (wcs s.toL).toArray 101)).drew (some ⟨mg, 0, none⟩) M) := hMA
      have HTA : Hid (∀ j, j < 64 → (w3.alloc (.cells (wcs s.toL).toArray 101)).drew.cell? ⟨tg, j, none⟩ = some (.int .u32 (W ((stL blk 64).getD j 0)))) := hTA
      have hwv : w.heap.size < w3.heap.size := HS3.out.lt
      clear c0 c1 c2 c3 c4 c5 c6 c7 hV hSA hKA hMA hTA HS3 HK3 HM3 HTE hB3
      go_wp2
      generalize hwa : (w3.alloc (.cells (wcs s.toL).toArray 101)).drew = wA at *
      have ewa : (w3.alloc (.cells #[.int .u32 (W s.a), .int .u32 (W s.b), .int .u32 (W s.c), .int .u32 (W s.d), .int .u32 (W s.e), .int .u32 (W s.f), .int .u32 (W s.g), .int .u32 (W s.h)] 101)).drew = wA := hwa
      rw [ewa]
      clear hwa ewa
      generalize w3.heap.size = vg0 at *
      go_loopw [8, 9] (fun v i wr => ∃ k vg : Nat, k ≤ 64 ∧ i = .int .i64 k ∧ v = .slice (some ⟨vg, 0, none⟩) 8 8 ∧ w.heap.size < vg ∧ Wds wr vg 101 (sRounds (stL blk 64) k s).toL ∧ Below wA.heap.size wA wr) (fun _ i _ => 64 - (intOf i).toNat)
      case atStart => exact ⟨0, vg0, by omega, rfl, rfl, by omega, HV.out, Below.refl _ _⟩
      case round =>
        obtain ⟨k, vg, hk, rfl, rfl, hvg, hV, hnx⟩ := hrel
        have HV2 : Hid (Wds wr vg 101 (sRounds (stL blk 64) k s).toL) := hV
        clear hV HV
        by_cases hkl : k < 64
        · have hkl' : (k : Int) < 64 := by omega
          have hkc : wr.cell? ⟨kg, k, none⟩ = some (.int .u32 (W (shaK.getD k 0))) := (hnx.cell (p := ⟨kg, k, none⟩) HKA.out.lt).trans (HKA.out.cellD (k := k) hkl)
          have htc' : wr.cell? ⟨tg, k, none⟩ = some (.int .u32 (W ((stL blk 64).getD k 0))) := (hnx.cell (p := ⟨tg, k, none⟩) htA).trans (HTA.out k hkl)
          have HR : Hid (sRounds (stL blk 64) (k + 1) s = sRound (stL blk 64) k (sRounds (stL blk 64) k s)) := rfl
          generalize sRounds (stL blk 64) k s = t at *
          have c0 : wr.cell? ⟨vg, 0, none⟩ = some (.int .u32 (W t.a)) := HV2.out.cell (k := 0) (by simp [S8.toL])
          have c1 : wr.cell? ⟨vg, 1, none⟩ = some (.int .u32 (W t.b)) := HV2.out.cell (k := 1) (by simp [S8.toL])
          have c2 : wr.cell? ⟨vg, 2, none⟩ = some (.int .u32 (W t.c)) := HV2.out.cell (k := 2) (by simp [S8.toL])
          have c3 : wr.cell? ⟨vg, 3, none⟩ = some (.int .u32 (W t.d)) := HV2.out.cell (k := 3) (by simp [S8.toL])
          have c4 : wr.cell? ⟨vg, 4, none⟩ = some (.int .u32 (W t.e)) := HV2.out.cell (k := 4) (by simp [S8.toL])
          have c5 : wr.cell? ⟨vg, 5, none⟩ = some (.int .u32 (W t.f)) := HV2.out.cell (k := 5) (by simp [S8.toL])
          have c6 : wr.cell? ⟨vg, 6, none⟩ = some (.int .u32 (W t.g)) := HV2.out.cell (k := 6) (by simp [S8.toL])
          have c7 : wr.cell? ⟨vg, 7, none⟩ = some (.int .u32 (W t.h)) := HV2.out.cell (k := 7) (by simp [S8.toL])
          have HLo := low_ref (stL blk 64) k t
          have HHi := high_ref t
          have HR2 : Hid (sRounds (stL blk 64) (k + 1) s = ⟨sLow (stL blk 64) k t + sHigh t, t.a, t.b, t.c, t.d + sLow (stL blk 64) k t, t.e, t.f, t.g⟩) := HR.out
          generalize sLow (stL blk 64) k t = lo at *
          generalize sHigh t = hi2 at *
          generalize shaK.getD k 0 = kv at *
          generalize (stL blk 64).getD k 0 = tv at *
          obtain ⟨ta, tb, tc', td, te, tf, t6, th⟩ := t
          simp only at HLo HHi c0 c1 c2 c3 c4 c5 c6 c7 HR2
          generalize he1 : rotl te 26 = e1 at *
          generalize he2 : rotl te 21 = e2 at *
          generalize he3 : rotl te 7 = e3 at *
          have m1 := W_xor e1 e2
          generalize e1 ^^^ e2 = x12 at *
          have m2 := W_xor x12 e3
          generalize x12 ^^^ e3 = x13 at *
          have m3 := W_and te tf
          generalize te &&& tf = p1 at *
          have m4 := W_not te
          generalize ~~~ te = nte at *
          have m5 := W_and nte t6
          generalize nte &&& t6 = p2 at *
          have m6 := W_xor p1 p2
          generalize p1 ^^^ p2 = p3 at *
          have m7 := W_addm th x13
          generalize th + x13 = s1 at *
          have m8 := W_addm s1 p3
          generalize s1 + p3 = s2 at *
          have m9 := W_addm s2 kv
          generalize s2 + kv = s3 at *
          have m10 := W_addm s3 tv
          rw [HLo] at m10
          generalize hf1 : rotl ta 30 = f1 at *
          generalize hf2 : rotl ta 19 = f2 at *
          generalize hf3 : rotl ta 10 = f3 at *
          have n1 := W_xor f1 f2
          generalize f1 ^^^ f2 = x22 at *
          have n2 := W_xor x22 f3
          generalize x22 ^^^ f3 = x23 at *
          have n3 := W_and ta tb
          generalize ta &&& tb = q1 at *
          have n4 := W_and ta tc'
          generalize ta &&& tc' = q2 at *
          have n5 := W_xor q1 q2
          generalize q1 ^^^ q2 = q3 at *
          have n6 := W_and tb tc'
          generalize tb &&& tc' = q4 at *
          have n7 := W_xor q3 q4
          generalize q3 ^^^ q4 = q5 at *
          have n8 := W_addm x23 q5
          rw [HHi] at n8
          have o1 := W_add lo hi2
          generalize lo + hi2 = na at *
          have o2 := W_add td lo
          generalize td + lo = ne at *
          have G1 : Hid (∀ w', Calls Tryd.prog 68 #[.int .u32 (W te), .int .i64 26] w' fun e w'' => e = .returned (.int .u32 (W e1)) ∧ (∃ n, w'' = w'.drewN n)) := fun w' => left_quiet te 26 e1 w' (by decide) (by decide) he1
          have G2 : Hid (∀ w', Calls Tryd.prog 68 #[.int .u32 (W te), .int .i64 21] w' fun e w'' => e = .returned (.int .u32 (W e2)) ∧ (∃ n, w'' = w'.drewN n)) := fun w' => left_quiet te 21 e2 w' (by decide) (by decide) he2
          have G3 : Hid (∀ w', Calls Tryd.prog 68 #[.int .u32 (W te), .int .i64 7] w' fun e w'' => e = .returned (.int .u32 (W e3)) ∧ (∃ n, w'' = w'.drewN n)) := fun w' => left_quiet te 7 e3 w' (by decide) (by decide) he3
          have G4 : Hid (∀ w', Calls Tryd.prog 68 #[.int .u32 (W ta), .int .i64 30] w' fun e w'' => e = .returned (.int .u32 (W f1)) ∧ (∃ n, w'' = w'.drewN n)) := fun w' => left_quiet ta 30 f1 w' (by decide) (by decide) hf1
          have G5 : Hid (∀ w', Calls Tryd.prog 68 #[.int .u32 (W ta), .int .i64 19] w' fun e w'' => e = .returned (.int .u32 (W f2)) ∧ (∃ n, w'' = w'.drewN n)) := fun w' => left_quiet ta 19 f2 w' (by decide) (by decide) hf2
          have G6 : Hid (∀ w', Calls Tryd.prog 68 #[.int .u32 (W ta), .int .i64 10] w' fun e w'' => e = .returned (.int .u32 (W f3)) ∧ (∃ n, w'' = w'.drewN n)) := fun w' => left_quiet ta 10 f3 w' (by decide) (by decide) hf3
          clear he1 he2 he3 hf1 hf2 hf3 HLo HHi HR
          go_wp2_with fail
          go_quiet (first
            | (go_at_call 68; with_reducible exact Calls.quiet_of (G1.out _))
            | (go_at_call 68; with_reducible exact Calls.quiet_of (G2.out _))
            | (go_at_call 68; with_reducible exact Calls.quiet_of (G3.out _)))
          obtain ⟨z1, e⟩ : ∃ x, x = nq := ⟨_, rfl⟩
          subst e
          go_wp2_with fail
          go_quiet (fail)
          obtain ⟨z2, e⟩ : ∃ x, x = nq := ⟨_, rfl⟩
          subst e
          go_wp2_with fail
          go_quiet (fail)
          obtain ⟨z3, e⟩ : ∃ x, x = nq := ⟨_, rfl⟩
          subst e
          go_wp2_with fail
          go_quiet (first
            | (go_at_call 68; with_reducible exact quiet_more (G4.out _))
            | (go_at_call 68; with_reducible exact quiet_more (G5.out _))
            | (go_at_call 68; with_reducible exact quiet_more (G6.out _)))
          obtain ⟨z4, e⟩ : ∃ x, x = nq := ⟨_, rfl⟩
          subst e
          go_wp2_with fail
          go_quiet (fail)
          obtain ⟨z5, e⟩ : ∃ x, x = nq := ⟨_, rfl⟩
          subst e
          obtain ⟨wq, hwq⟩ : ∃ wq, (((wr.drewN (z1 + z2)).drewN z3).drewN z4).drewN z5 = wq := ⟨_, rfl⟩
          rw [hwq]
          have HWQ : Hid ((((wr.drewN (z1 + z2)).drewN z3).drewN z4).drewN z5 = wq) := hwq
          have c0 : wq.cell? ⟨vg, 0, none⟩ = some (.int .u32 (W ta)) := by rw [← HWQ.out]; exact c0
          have c1 : wq.cell? ⟨vg, 1, none⟩ = some (.int .u32 (W tb)) := by rw [← HWQ.out]; exact c1
          have c2 : wq.cell? ⟨vg, 2, none⟩ = some (.int .u32 (W tc')) := by rw [← HWQ.out]; exact c2
          have c3 : wq.cell? ⟨vg, 3, none⟩ = some (.int .u32 (W td)) := by rw [← HWQ.out]; exact c3
          have c4 : wq.cell? ⟨vg, 4, none⟩ = some (.int .u32 (W te)) := by rw [← HWQ.out]; exact c4
          have c5 : wq.cell? ⟨vg, 5, none⟩ = some (.int .u32 (W tf)) := by rw [← HWQ.out]; exact c5
          have c6 : wq.cell? ⟨vg, 6, none⟩ = some (.int .u32 (W t6)) := by rw [← HWQ.out]; exact c6
          have hnq : Below wA.heap.size wA wq := by
            rw [← hwq]
            exact below_drewN (below_drewN (below_drewN (below_drewN hnx _) _) _) _
          clear hwq HWQ hnx HV2 hkc htc' c7
          go_wp2_with fail
          go_region_held3 (fun w' => w'.cell? ⟨vg, 0, none⟩ = some (.int .u32 (W ta)) ∧ w'.cell? ⟨vg, 1, none⟩ = some (.int .u32 (W tb)) ∧ w'.cell? ⟨vg, 2, none⟩ = some (.int .u32 (W tc')) ∧ w'.cell? ⟨vg, 3, none⟩ = some (.int .u32 (W td)) ∧ w'.cell? ⟨vg, 4, none⟩ = some (.int .u32 (W te)) ∧ w'.cell? ⟨vg, 5, none⟩ = some (.int .u32 (W tf)) ∧ w'.cell? ⟨vg, 6, none⟩ = some (.int .u32 (W t6))) (go_keep) (fail)
          clear c0 c1 c2 c3 c4 c5 c6 m1 m2 m3 m4 m5 m6 m7 m8 m9 m10 n1 n2 n3 n4 n5 n6 n7 n8 o1 o2
          go_wp2
          go_roundw
          case rel =>
            have hq := hnq.size
            refine ⟨k + 1, wq.heap.size, by omega, by go_num, rfl, by omega, ?_, (hnq.alloc hnq.size _).drew⟩
            rw [HR2.out]
            exact Wds.new wq 101 [na, ta, tb, tc', ne, te, tf, t6]
          case measure => simp [intOf]; omega
        · obtain rfl : k = 64 := by omega
          have HSM : Hid (sMix blk s = s.plus (sRounds (stL blk 64) 64 s)) := rfl
          generalize sRounds (stL blk 64) 64 s = t at *
          have hHw : Wds wr w.heap.size 101 (upd s t 0) := HSA.out.below hnx HSA.out.lt
          have HHW : Hid (Wds wr w.heap.size 101 (upd s t 0)) := hHw
          have HKW : Hid (Wds wr kg 101 shaK) := HKA.out.below hnx HKA.out.lt
          have HMW : Hid (Bytes wr (some ⟨mg, 0, none⟩) M) := HMA.out.below hnx (Nat.le_refl _)
          have hBW : Below w.heap.size w wr := hBA.trans (hnx.mono (by omega))
          clear hHw HSA HKA HMA HTA hnx hBA
          go_wp2
          obtain ⟨wo, e⟩ : ∃ x, x = wr := ⟨_, rfl⟩
          subst e
          go_loopw [15] (fun i wr => ∃ k : Nat, k ≤ 8 ∧ i = .int .i64 k ∧ Wds wr w.heap.size 101 (upd s t k) ∧ Wds wr vg 101 t.toL ∧ wo.grownBy wr (some w.heap.size)) (fun i _ => 8 - (intOf i).toNat)
          case atStart => exact ⟨0, by omega, rfl, HHW.out, HV2.out, grown_refl _ _⟩
          case round =>
            obtain ⟨k, hk8, rfl, hH, hV, hgw⟩ := hrel
            have HH : Hid (Wds wr w.heap.size 101 (upd s t k)) := hH
            have HVV : Hid (Wds wr vg 101 t.toL) := hV
            clear hH hV HHW HV2
            by_cases hk9 : k < 8
            · have hk9' : (k : Int) < 8 := by omega
              have hcell := HH.out.cell (k := k) (by rw [upd_length s t hk8]; exact hk9)
              rw [upd_get s t hk9] at hcell
              have hfr := HH.out.frozen k
              have hvc := HVV.out.cellD (k := k) hk9
              have HU : Hid ((upd s t k).set k (s.toL.getD k 0 + t.toL.getD k 0) = upd s t (k + 1)) := upd_set s t hk9
              generalize s.toL.getD k 0 = x at *
              generalize t.toL.getD k 0 = y at *
              have ha := W_addm x y
              generalize x + y = z at *
              have hne : vg ≠ w.heap.size := by omega
              go_wp2_with fail
              go_region
              go_wp2
              go_roundw
              case rel =>
                refine ⟨k + 1, by omega, by go_num, ?_, ?_, ?_⟩
                · rw [← HU.out]
                  exact HH.out.set k _
                · exact HVV.out.setCell (a := ⟨w.heap.size, k, none⟩) hne _
                · exact grown_drew (grown_setCell (p := ⟨w.heap.size, k, none⟩) hgw rfl _)
              case measure => simp [intOf]; omega
            · obtain rfl : k = 8 := by omega
              go_wp2
              go_roundw
              case rel =>
                have hAA := HA.out
                have hAA2 := HA2.out
                have hA6 := HA64.out
                have hkk := HKG.out
                refine ⟨j + 1, by omega, ?_, ?_, ?_, ?_, ?_⟩
                · congr 1
                  omega
                · rw [HEAT.out, HSM.out, ← upd_all]
                  exact HH.out
                · exact HKW.out.grown hgw (by simp; omega)
                · exact HMW.out.grown hgw (by intro _ ad e; cases e; show mg ≠ w.heap.size; omega)
                · exact hBW.trans (grown_below hgw hBW.size (Nat.le_refl _))
              case measure =>
                have hAA2 := HA2.out
                simp [intOf]
                omega
    · have hje : 64 * j = M.length := by omega
      have HSE : Hid (shaL l = shaOut (eatN sMix j M sInit)) := by
        show _ = _
        rw [HSL.out, eat, show M.length / 64 = j from by omega]
      generalize eatN sMix j M sInit = t at *
      have hlen : (w.heap.size + 1) ≤ wr.heap.size := HS.out.lt
      have hjl : ¬ ((64 * j : Nat) : Int) < (M.length : Int) := by omega
      clear HSL hlt hje
      go_wp2
      go_loopw [16, 17] (fun v i wr => ∃ k : Nat, k ≤ 8 ∧ i = .int .i64 k ∧ wr.ownsRow (w.heap.size + 1) 5 1 v (4 * k) (bcs ((t.toL.take k).flatMap (fun x => [wb x 3, wb x 2, wb x 1, wb x 0]))) ∧ Wds wr w.heap.size 101 t.toL ∧ Below w.heap.size w wr) (fun _ i _ => 8 - (intOf i).toNat)
      case atStart => exact ⟨0, by omega, rfl, World.ownsRow_nil wr _ _ _, HS.out, hnx⟩
      case round =>
        clear HS HK HM hnx hlen
        obtain ⟨k, hk, rfl, hown, hS, hnx⟩ := hrel
        have HOWN : Hid (wr.ownsRow (w.heap.size + 1) 5 1 u16 (4 * k) (bcs ((t.toL.take k).flatMap (fun x => [wb x 3, wb x 2, wb x 1, wb x 0])))) := hown
        have HS : Hid (Wds wr w.heap.size 101 t.toL) := hS
        have hsz : w.heap.size + 1 ≤ wr.heap.size := hS.lt
        clear hown hS
        by_cases hkl : k < 8
        · have hkl' : (k : Int) < 8 := by omega
          have hc := HS.out.cellD (k := k) hkl
          have HO : Hid _ := shaOut_snoc t hkl
          generalize t.toL.getD k 0 = x at *
          have v0 : IntKind.u8.wrap (W x) = ((wb x 0).toNat : Int) := by rw [IntKind.wrap_u8', wb0]
          have v1 : IntKind.u8.wrap (W x / 256) = ((wb x 1).toNat : Int) := by rw [IntKind.wrap_u8', wb1]
          have v2 : IntKind.u8.wrap (W x / 65536) = ((wb x 2).toNat : Int) := by rw [IntKind.wrap_u8', wb2]
          have v3 : IntKind.u8.wrap (W x / 16777216) = ((wb x 3).toNat : Int) := by
            have := (wb x 3).toNat_lt
            rw [IntKind.wrap_u8', wb3]
            omega
          go_wp2_with fail
          go_region_held3 (fun w' => w'.cell? ⟨w.heap.size, k, none⟩ = some (.int .u32 (W x))) (go_keep)
            (first
              | (refine step_append_own rfl (.tmp 196) (.tmp 220) 22 rfl (w.heap.size + 1) 5 i0 (.int .u8 0) 1 1 Tryd.underlying22 hi hz0 hz1 hz2 rfl (by decide) u16 (4 * k) _ rfl (World.ownsRow.drew (World.ownsRow.alloc HOWN.out _)) ⟨wr.heap.size, 0, none⟩ 4 4 [.int .u8 ((wb x 3).toNat : Int), .int .u8 ((wb x 2).toNat : Int), .int .u8 ((wb x 1).toNat : Int), .int .u8 ((wb x 0).toNat : Int)] rfl rfl (cell_four_new wr _ _ _ _ _) (four_one _ _ _ _) (by unfold maxLen; omega) (by omega) (by simp; omega) ?_; intro v9 w9 hown9 hgrow9; have hrow : ∀ j, u16.ownBlock = some j → w.heap.size + 1 ≤ j := (fun j hj => (World.ownsRow.lt HOWN.out j hj).1); have hne9 : some w.heap.size ≠ u16.ownBlock := (fun e => by have := hrow _ e.symm; omega); have HS9 : Hid (Wds w9 w.heap.size 101 t.toL) := Wds.grown (w := (wr.alloc _).drew) (HS.out.alloc _) hgrow9 hne9; have s9 := (World.cell?_of_block (w := (wr.alloc _).drew) (a := ⟨w.heap.size, k, none⟩) (hgrow9.block _ (by simp; omega) hne9))))
          have hB9 : Below w.heap.size w w9 := ((hnx.alloc (by omega) _).drew).grown hgrow9 (by simp; omega) (fun j hj => by have := hrow j hj; omega)
          have HO9 : Hid (w9.ownsRow (w.heap.size + 1) 5 1 v9 (4 * (k + 1)) (bcs ((t.toL.take (k + 1)).flatMap (fun x => [wb x 3, wb x 2, wb x 1, wb x 0])))) := by
            show World.ownsRow _ _ _ _ _ _ _
            rw [HO.out, bcs_append, show 4 * (k + 1) = 4 * k + 4 from by omega]
            exact hown9
          clear hown9 hgrow9 HOWN HS hc s9 v0 v1 v2 v3 hrow hne9
          go_wp2
          go_roundw
          case rel =>
            first
              | exact ⟨k + 1, by omega, by go_num, HO9.out, HS9.out, hB9⟩
              | ((repeat apply Exists.intro); exact ⟨⟨k + 1, by omega, by go_num, HO9.out, HS9.out, hB9⟩, rfl⟩)
          case measure => simp [intOf]; omega
        · obtain rfl : k = 8 := by omega
          have HF : Hid (Own wr w.heap.size u16 (shaL l)) := by
            have h1 : Own wr (w.heap.size + 1) u16 (shaOut t) := HOWN.out
            show Own _ _ _ _
            rw [HSE.out]
            exact own_mono h1 (by omega)
          clear HOWN HS
          go_wp2
          go_ret
          exact ⟨_, rfl, HF.out, hnx⟩
end Go.Proofs.YtgpjjlkkfddjnaaDoor
/-
  The document's HMAC by its contract.
-/
namespace Go.Proofs.YtgpjjlkkfddjnaaDoor
open Go.RowKit

theorem own_kept {w w' : World} {base : Nat} {v : Value} {l : List UInt8} {row : Option Nat} (h : Own w base v l) (hg : w.grownBy w' row) (hne : v.ownBlock = none ∨ v.ownBlock ≠ row) : Own w' base v l := World.ownsRow.kept h hg hne
theorem own_below {w w' : World} {base : Nat} {v : Value} {l : List UInt8} (h : Own w base v l) (hb : Below w.heap.size w w') : Own w' base v l :=
  own_kept h (below_grown hb none) (by cases h : v.ownBlock with | none => exact .inl rfl | some g => exact .inr (by simp))
theorem own_alloc {w : World} {base : Nat} {v : Value} {l : List UInt8} (h : Own w base v l) (o : Obj) : Own (w.alloc o) base v l := World.ownsRow.alloc h o
/-- Two rows that begin unlike lie apart. -/
theorem rows_apart {w : World} {base : Nat} {v v' : Value} {l l' : List UInt8} (h : Own w base v l) (h' : Own w base v' l') (hl : 0 < l.length) (hl' : 0 < l'.length) (hd : l.getD 0 0 ≠ l'.getD 0 0) : v.ownBlock ≠ v'.ownBlock := by
  intro e
  obtain ⟨a, c, rfl, hb⟩ := h.bytes
  obtain ⟨a', c', rfl, hb'⟩ := h'.bytes
  obtain ⟨b, off, rfl, _, hc⟩ := hb.at hl
  obtain ⟨b', off', rfl, _, hc'⟩ := hb'.at hl'
  have e0 : off = 0 := by
    rcases h.2 with ⟨hv, _⟩ | ⟨g, cap, cur, hv, _⟩
    · simp at hv
    · simp only [Value.slice.injEq, Option.some.injEq, Addr.mk.injEq, and_true] at hv
      exact hv.1.2
  have e0' : off' = 0 := by
    rcases h'.2 with ⟨hv, _⟩ | ⟨g, cap, cur, hv, _⟩
    · simp at hv
    · simp only [Value.slice.injEq, Option.some.injEq, Addr.mk.injEq, and_true] at hv
      exact hv.1.2
  simp only [Value.ownBlock, Option.some.injEq] at e
  subst e e0 e0'
  have q := hc 0 hl
  have q' := hc' 0 hl'
  rw [q] at q'
  have : l[0].toNat = l'[0].toNat := by
    have h : (l[0].toNat : Int) = (l'[0].toNat : Int) := by simpa using q'
    omega
  apply hd
  have g1 : l.getD 0 0 = l[0] := by simp [List.getD, hl]
  have g2 : l'.getD 0 0 = l'[0] := by simp [List.getD, hl']
  rw [g1, g2]
  exact UInt8.toNat_inj.1 this
theorem xor_t : ∀ x : Fin 256, (UInt8.ofNat x.val ^^^ 54 == UInt8.ofNat x.val ^^^ 92) = false := by decide +kernel
theorem xor_ne (x : UInt8) : x ^^^ 54 ≠ x ^^^ 92 := by
  intro e
  have h := xor_t ⟨x.toNat, x.toNat_lt⟩
  simp only [UInt8.ofNat_toNat] at h
  rw [e] at h
  simp at h
theorem kx_first (K : List UInt8) (k : Nat) (hK : 0 < K.length) (hk : 0 < k) : ((kx K 54).take k).getD 0 0 ≠ ((kx K 92).take k).getD 0 0 := by
  cases K with
  | nil => simp at hK
  | cons x r =>
    cases k with
    | zero => omega
    | succ k =>
      simp only [kx, List.map_cons, List.take_succ_cons, List.getD_cons_zero]
      exact xor_ne x

theorem kb_in {key K0 : List UInt8} {k : Nat} (hk : kbL key = K0 ++ noughts (64 - K0.length)) (h : k < K0.length) : (kbL key).getD k 0 = K0[k] := by
  rw [hk, List.getD_eq_getElem?_getD, List.getElem?_append_left h, List.getElem?_eq_getElem h]
  rfl
theorem kb_out {key K0 : List UInt8} {k : Nat} (hk : kbL key = K0 ++ noughts (64 - K0.length)) (h : ¬ k < K0.length) : (kbL key).getD k 0 = 0 := by
  rw [hk, List.getD_eq_getElem?_getD, List.getElem?_append_right (by omega), noughts, List.getElem?_replicate]
  split <;> rfl
theorem take_len (K : List UInt8) (m : UInt8) (k : Nat) (h : k ≤ K.length) : ((kx K m).take k).length = k := by rw [List.length_take, kx_length]; omega
theorem apart_of {w : World} {base k : Nat} {u v : Value} {K l : List UInt8} (hK : 0 < K.length) (hu : Own w base u l) (hl : 0 < l.length) (hl0 : l.getD 0 0 = ((kx K 54).take (k + 1)).getD 0 0) (hv : Own w base v ((kx K 92).take k)) (hz : k = 0 → v = .slice none 0 0) (hk : k ≤ K.length) : v.ownBlock = none ∨ v.ownBlock ≠ u.ownBlock := by
  by_cases h0 : k = 0
  · left
    rw [hz h0]
    rfl
  · right
    refine rows_apart hv hu (by rw [take_len _ _ _ hk]; omega) hl ?_
    rw [hl0]
    have h1 : ((kx K 54).take (k + 1)).getD 0 0 = ((kx K 54).take k).getD 0 0 := by
      cases K with
      | nil => simp at hK
      | cons x r =>
        cases k with
        | zero => exact absurd rfl h0
        | succ k => rfl
    rw [h1]
    exact fun e => kx_first K k hK (by omega) e.symm
theorem first_more (K : List UInt8) (m : UInt8) (k : Nat) (hK : 0 < K.length) (hk : 0 < k) : ((kx K m).take k).getD 0 0 = ((kx K m).take (k + 1)).getD 0 0 := by
  cases K with
  | nil => simp at hK
  | cons x r =>
    cases k with
    | zero => omega
    | succ k => rfl

theorem own_row {w : World} {base k : Nat} {v : Value} {l : List UInt8} (h : Own w base v l) (hl : l.length = k) : w.ownsRow base 5 1 v k (bcs l) := by
  subst hl
  exact h
theorem exitF (key b : List UInt8) {w : World} {base k : Nat} {u v : Value} (hu : Own w base u ((kx (kbL key) 54).take k)) (hv : Own w base v ((kx (kbL key) 92).take k)) (hk : k = 64) :
    ∃ P R : List UInt8, Own w base u P ∧ Own w base v R ∧ v.ownBlock ≠ u.ownBlock ∧ P.length = 64 ∧ R.length = 64 ∧ hmacL key b = shaL (R ++ shaL (P ++ b)) := by
  have hL := kbL_length key
  have e1 : (kx (kbL key) 54).take k = kx (kbL key) 54 := List.take_of_length_le (by rw [kx_length, hL]; omega)
  have e2 : (kx (kbL key) 92).take k = kx (kbL key) 92 := List.take_of_length_le (by rw [kx_length, hL]; omega)
  rw [e1] at hu
  rw [e2] at hv
  refine ⟨kx (kbL key) 54, kx (kbL key) 92, hu, hv, ?_, by rw [kx_length, hL], by rw [kx_length, hL], rfl⟩
  refine rows_apart hv hu (by rw [kx_length, hL]; omega) (by rw [kx_length, hL]; omega) ?_
  have h := kx_first (kbL key) k (by rw [hL]; omega) (by omega)
  rw [e1, e2] at h
  exact fun e => h e.symm

set_option maxRecDepth 20000 in
set_option maxHeartbeats 12000000 in
theorem refHmac_any (ka : Option Addr) (key : List UInt8) (kcap : Nat) (a : Option Addr) (b : List UInt8) (cap : Nat) (w : World) (hkn : ka = none → kcap = 0) (hkl : key.length ≤ 140737488351232) (hkb : Bytes w ka key) (hn : a = none → cap = 0) (hl : b.length ≤ 140737488351232) (hb : Bytes w a b) :
    Calls Tryd.prog 29 #[.slice ka key.length kcap, .slice a b.length cap] w fun e w' => ∃ v, e = .returned v ∧ Own w' w.heap.size v (hmacL key b) ∧ Below w.heap.size w w' := by
  obtain ⟨i0, hi, hz0, hz1, hz2⟩ := info_parts info5
  by_cases hlong : 64 < key.length
  · have hlong' : (64 : Int) < (key.length : Int) := by omega
    have HKB : Hid (kbL key = shaL key ++ noughts (64 - (shaL key).length)) := by show kbL key = _; rw [kbL, if_pos hlong]
    have HC : Hid _ := refSha_any ka key kcap w hkn (by omega) hkb
    have HBb0 : Hid (Bytes w a b) := hb
    clear hb hkb hkn
    go_enter Tryd.func29, Tryd.ntmps29
    go_wp2_with fail
    refine Calls.mono HC.out ?_
    rintro e w1 ⟨vk, rfl, hok, hB1⟩
    obtain ⟨xk, ck, rfl, hxk, _, _⟩ := hok.bytes'
    have HXK : Hid (Bytes w1 xk (shaL key)) := hxk
    have HB1 : Hid (Bytes w1 a b) := HBb0.out.below hB1 (Nat.le_refl _)
    clear HC hok hxk HBb0 hlong hlong'
    go_wp2
    go_loopw [6, 7, 8, 9] (fun u v i _ wr => ∃ k : Nat, k ≤ 64 ∧ i = .int .i64 k ∧ Own wr w1.heap.size u ((kx (kbL key) 54).take k) ∧ Own wr w1.heap.size v ((kx (kbL key) 92).take k) ∧ (k = 0 → u = .slice none 0 0) ∧ (k = 0 → v = .slice none 0 0) ∧ Below w1.heap.size w1 wr) (fun _ _ i _ _ => 64 - (intOf i).toNat)
    case atStart => exact ⟨0, by omega, rfl, World.ownsRow_nil _ _ _ _, World.ownsRow_nil _ _ _ _, fun _ => rfl, fun _ => rfl, Below.refl _ _⟩
    case round =>
      obtain ⟨k, hk, rfl, hu, hv, hu0, hv0, hnx⟩ := hrel
      have HU : Hid (Own wr w1.heap.size u6 ((kx (kbL key) 54).take k)) := hu
      have HV : Hid (Own wr w1.heap.size u7 ((kx (kbL key) 92).take k)) := hv
      have HU0 : Hid (k = 0 → u6 = .slice none 0 0) := hu0
      have HV0 : Hid (k = 0 → u7 = .slice none 0 0) := hv0
      clear hu hv hu0 hv0
      have hsz := hnx.size
      have HKL : Hid ((kbL key).length = 64) := kbL_length key
      by_cases hlt : k < 64
      · have hlt' : (k : Int) < 64 := by omega
        have HOU : Hid _ := kx_snoc (kbL key) 54 (k := k) (by rw [HKL.out]; exact hlt)
        have HOV : Hid _ := kx_snoc (kbL key) 92 (k := k) (by rw [HKL.out]; exact hlt)
        have HLU : Hid (((kx (kbL key) 54).take k).length = k) := take_len _ _ _ (by rw [HKL.out]; omega)
        have HLV : Hid (((kx (kbL key) 92).take k).length = k) := take_len _ _ _ (by rw [HKL.out]; omega)
        have hA1 : u7.ownBlock = none ∨ u7.ownBlock ≠ u6.ownBlock := by
          by_cases h0 : k = 0
          · left; rw [HV0.out h0]; rfl
          · exact apart_of (k := k) (by rw [HKL.out]; decide) HU.out (by rw [HLU.out]; omega) (first_more _ _ _ (by rw [HKL.out]; decide) (by omega)) HV.out HV0.out (by rw [HKL.out]; omega)
        have HA1 : Hid (u7.ownBlock = none ∨ u7.ownBlock ≠ u6.ownBlock) := hA1
        clear hA1
        have HUr : Hid (wr.ownsRow w1.heap.size 5 1 u6 k (bcs ((kx (kbL key) 54).take k))) := by
          have h : wr.ownsRow w1.heap.size 5 1 u6 ((kx (kbL key) 54).take k).length (bcs ((kx (kbL key) 54).take k)) := HU.out
          rw [HLU.out] at h
          exact h
        obtain ⟨x, hx⟩ : ∃ x, x = (kbL key).getD k 0 := ⟨_, rfl⟩
        rw [← hx] at HOU HOV
        have hxm : bits .xor .u8 (x.toNat : Int) 54 = ((x ^^^ 54).toNat : Int) := xor_u8 x 54
        have hxn : bits .xor .u8 (x.toNat : Int) 92 = ((x ^^^ 92).toNat : Int) := xor_u8 x 92
        generalize x ^^^ 54 = y at *
        generalize x ^^^ 92 = z at *
        by_cases hin : k < (shaL key).length
        · obtain ⟨bk, off, rfl, hbl, hcs⟩ := (HXK.out).at hin
          have hcell : wr.cell? ⟨bk, off + k, none⟩ = some (.int .u8 (x.toNat : Int)) := by
            rw [hnx.cell (p := ⟨bk, off + k, none⟩) hbl, hcs k hin, hx, kb_in HKB.out hin]
          have hin' : (k : Int) < ((shaL key).length : Int) := by omega
          clear hx hcs
          go_wp2_with (at_builtin; first
            | (refine wpList_append_own _ rfl (.tmp 28) (.tmp 31) 22 rfl w1.heap.size 5 i0 (.int .u8 0) 1 1 Tryd.underlying22 hi hz0 hz1 hz2 rfl (by decide) _ _ _ rfl (World.ownsRow.alloc HUr.out _) ⟨wr.heap.size, 0, none⟩ 1 1 [.int .u8 (y.toNat : Int)] rfl rfl (cell_one_new _ _ _) (one_one _ rfl) (by unfold maxLen; omega) (by omega) (by simp; omega) ?_; intro v4 w4 hown4 hgrow4 _; have HB4 : Hid (Below w1.heap.size w1 w4) := (hnx.alloc hsz _).grown hgrow4 (by simp; omega) (fun j hj => (World.ownsRow.lt HUr.out j hj).1); have HV4 : Hid (Own w4 w1.heap.size _ ((kx (kbL key) 92).take k)) := own_kept (own_alloc HV.out _) hgrow4 HA1.out; have HVr : Hid (w4.ownsRow w1.heap.size 5 1 _ k (bcs ((kx (kbL key) 92).take k))) := own_row HV4.out HLV.out; have hs4 := HB4.out.size)
            | (refine wpList_append_own _ rfl (.tmp 33) (.tmp 36) 22 rfl w1.heap.size 5 i0 (.int .u8 0) 1 1 Tryd.underlying22 hi hz0 hz1 hz2 rfl (by decide) _ _ _ rfl (World.ownsRow.alloc HVr.out _) ⟨w4.heap.size, 0, none⟩ 1 1 [.int .u8 (z.toNat : Int)] rfl rfl (cell_one_new _ _ _) (one_one _ rfl) (by unfold maxLen; omega) (by omega) (by simp; omega) ?_; intro v5 w5 hown5 hgrow5 _))
          have HU4 : Hid (Own w4 w1.heap.size v4 ((kx (kbL key) 54).take (k + 1))) := by
            show w4.ownsRow _ _ _ _ _ _
            rw [take_len _ _ _ (by rw [HKL.out]; omega), HOU.out, bcs_append]
            exact hown4
          have HA2 : Hid (_ ∨ _) := apart_of (k := k) (by rw [HKL.out]; decide) HU4.out (by rw [take_len _ _ _ (by rw [HKL.out]; omega)]; omega) rfl HV4.out HV0.out (by rw [HKL.out]; omega)
          have HB5 : Hid (Below w1.heap.size w1 w5) := (HB4.out.alloc hs4 _).grown hgrow5 (by simp; omega) (fun j hj => (World.ownsRow.lt HVr.out j hj).1)
          have HV5 : Hid (Own w5 w1.heap.size v5 ((kx (kbL key) 92).take (k + 1))) := by
            show w5.ownsRow _ _ _ _ _ _
            rw [take_len _ _ _ (by rw [HKL.out]; omega), HOV.out, bcs_append]
            exact hown5
          have HU5 : Hid (Own w5 w1.heap.size v4 ((kx (kbL key) 54).take (k + 1))) := own_kept (row := u7.ownBlock) (own_alloc HU4.out _) hgrow5 (by
            rcases HA2.out with h | h
            · rw [h]
              cases v4.ownBlock with
              | none => exact .inl rfl
              | some g => exact .inr (by simp)
            · exact .inr (fun e => h e.symm))
          clear hown5 hgrow5 HVr HA2 hs4
          go_wp2
          go_roundw
          case rel => exact ⟨k + 1, by omega, by go_num, HU5.out, HV5.out, fun h => by omega, fun h => by omega, HB5.out⟩
          case measure => simp [intOf]; omega
        · have hx0 : x = 0 := by rw [hx, kb_out HKB.out hin]
          subst hx0
          have hxm' : bits .xor .u8 (0 : Int) 54 = (y.toNat : Int) := hxm
          have hxn' : bits .xor .u8 (0 : Int) 92 = (z.toNat : Int) := hxn
          clear hxm hxn
          have hin' : ¬ (k : Int) < ((shaL key).length : Int) := by omega
          clear hx
          go_wp2_with (at_builtin; first
            | (refine wpList_append_own _ rfl (.tmp 28) (.tmp 31) 22 rfl w1.heap.size 5 i0 (.int .u8 0) 1 1 Tryd.underlying22 hi hz0 hz1 hz2 rfl (by decide) _ _ _ rfl (World.ownsRow.alloc HUr.out _) ⟨wr.heap.size, 0, none⟩ 1 1 [.int .u8 (y.toNat : Int)] rfl rfl (cell_one_new _ _ _) (one_one _ rfl) (by unfold maxLen; omega) (by omega) (by simp; omega) ?_; intro v4 w4 hown4 hgrow4 _; have HB4 : Hid (Below w1.heap.size w1 w4) := (hnx.alloc hsz _).grown hgrow4 (by simp; omega) (fun j hj => (World.ownsRow.lt HUr.out j hj).1); have HV4 : Hid (Own w4 w1.heap.size _ ((kx (kbL key) 92).take k)) := own_kept (own_alloc HV.out _) hgrow4 HA1.out; have HVr : Hid (w4.ownsRow w1.heap.size 5 1 _ k (bcs ((kx (kbL key) 92).take k))) := own_row HV4.out HLV.out; have hs4 := HB4.out.size)
            | (refine wpList_append_own _ rfl (.tmp 33) (.tmp 36) 22 rfl w1.heap.size 5 i0 (.int .u8 0) 1 1 Tryd.underlying22 hi hz0 hz1 hz2 rfl (by decide) _ _ _ rfl (World.ownsRow.alloc HVr.out _) ⟨w4.heap.size, 0, none⟩ 1 1 [.int .u8 (z.toNat : Int)] rfl rfl (cell_one_new _ _ _) (one_one _ rfl) (by unfold maxLen; omega) (by omega) (by simp; omega) ?_; intro v5 w5 hown5 hgrow5 _))
          have HU4 : Hid (Own w4 w1.heap.size v4 ((kx (kbL key) 54).take (k + 1))) := by
            show w4.ownsRow _ _ _ _ _ _
            rw [take_len _ _ _ (by rw [HKL.out]; omega), HOU.out, bcs_append]
            exact hown4
          have HA2 : Hid (_ ∨ _) := apart_of (k := k) (by rw [HKL.out]; decide) HU4.out (by rw [take_len _ _ _ (by rw [HKL.out]; omega)]; omega) rfl HV4.out HV0.out (by rw [HKL.out]; omega)
          have HB5 : Hid (Below w1.heap.size w1 w5) := (HB4.out.alloc hs4 _).grown hgrow5 (by simp; omega) (fun j hj => (World.ownsRow.lt HVr.out j hj).1)
          have HV5 : Hid (Own w5 w1.heap.size v5 ((kx (kbL key) 92).take (k + 1))) := by
            show w5.ownsRow _ _ _ _ _ _
            rw [take_len _ _ _ (by rw [HKL.out]; omega), HOV.out, bcs_append]
            exact hown5
          have HU5 : Hid (Own w5 w1.heap.size v4 ((kx (kbL key) 54).take (k + 1))) := own_kept (row := u7.ownBlock) (own_alloc HU4.out _) hgrow5 (by
            rcases HA2.out with h | h
            · rw [h]
              cases v4.ownBlock with
              | none => exact .inl rfl
              | some g => exact .inr (by simp)
            · exact .inr (fun e => h e.symm))
          clear hown5 hgrow5 HVr HA2 hs4
          go_wp2
          go_roundw
          case rel => exact ⟨k + 1, by omega, by go_num, HU5.out, HV5.out, fun h => by omega, fun h => by omega, HB5.out⟩
          case measure => simp [intOf]; omega
      · have HK : Hid (k = 64) := by show k = 64; omega
        have hge : ¬ (k : Int) < 64 := by omega
        obtain ⟨P, R, hu2, hv2, hap, hlp, hlr, hhm⟩ := exitF key b HU.out HV.out HK.out
        have HU2 : Hid (Own wr w1.heap.size u6 P) := hu2
        have HV2 : Hid (Own wr w1.heap.size u7 R) := hv2
        have HA : Hid (u7.ownBlock ≠ u6.ownBlock) := hap
        have HLP : Hid (P.length = 64) := hlp
        have HLR : Hid (R.length = 64) := hlr
        have HBb : Hid (Bytes wr a b) := HB1.out.below hnx (Nat.le_refl _)
        obtain ⟨Z, hZ⟩ : ∃ Z, P ++ b = Z := ⟨_, rfl⟩
        have HZl : Hid (Z.length ≤ 140737488351300) := by show Z.length ≤ _; rw [← hZ, List.length_append, hlp]; omega
        rw [hZ] at hhm
        obtain ⟨Q, hQ⟩ : ∃ Q, shaL Z = Q := ⟨_, rfl⟩
        have HQl : Hid (Q.length = 32) := by show Q.length = 32; rw [← hQ]; exact shaL_length Z
        have HQ : Hid (shaL Z = Q) := hQ
        rw [hQ] at hhm
        obtain ⟨Y, hY⟩ : ∃ Y, R ++ Q = Y := ⟨_, rfl⟩
        have HYl : Hid (Y.length = 96) := by show Y.length = 96; rw [← hY, List.length_append, hlr, HQl.out]
        rw [hY] at hhm
        have HHM : Hid (hmacL key b = shaL Y) := hhm
        have HZ : Hid (P ++ b = Z) := hZ
        have HY : Hid (R ++ Q = Y) := hY
        clear HU HV HU0 HV0 HXK HKB hlt hu2 hv2 hap hlp hlr hhm hZ hQ hY
        go_wp2_with (at_builtin; refine wpList_append_bytes rfl (.tmp 39) (.tmp 40) rfl w1.heap.size u6 P rfl HU2.out a b cap rfl HBb.out hn (by rw [HLP.out]; omega) hsz ?_; intro v4 w4 ho4 hg4; rw [HZ.out] at ho4)
        have HB4 : Hid (Below w1.heap.size w1 w4) := hnx.grown hg4 hsz (fun j hj => (World.ownsRow.lt HU2.out j hj).1)
        have HV4 : Hid (Own w4 w1.heap.size u7 R) := own_kept HV2.out hg4 (.inr HA.out)
        obtain ⟨x4, c4, rfl, hx4, hc4, _⟩ := ho4.bytes'
        have HC4 : Hid _ := refSha_any x4 Z c4 w4 hc4 (by have := HZl.out; omega) hx4
        have hs4 := HB4.out.size
        clear ho4 hg4 hx4 hc4 hnx hsz HU2 HV2 HA HBb
        refine Calls.mono HC4.out ?_
        rintro e w5 ⟨v5, rfl, ho5, hb5⟩
        rw [HQ.out] at ho5
        obtain ⟨x5, c5, rfl, hx5, hc5, _⟩ := ho5.bytes'
        have HB5 : Hid (Below w1.heap.size w1 w5) := HB4.out.trans (hb5.mono hs4)
        have HV5 : Hid (Own w5 w1.heap.size u7 R) := own_below HV4.out hb5
        have hs5 := HB5.out.size
        have HX5 : Hid (Bytes w5 x5 Q) := hx5
        clear HC4 ho5 hb5 HB4 HV4 hs4 hx5
        go_wp2_with (at_builtin; refine wpList_append_bytes rfl (.tmp 38) (.tmp 42) rfl w1.heap.size u7 R rfl HV5.out x5 Q c5 rfl HX5.out hc5 (by rw [HLR.out, HQl.out]; omega) hs5 ?_; intro v6 w6 ho6 hg6; rw [HY.out] at ho6)
        have HB6 : Hid (Below w1.heap.size w1 w6) := HB5.out.grown hg6 hs5 (fun j hj => (World.ownsRow.lt HV5.out j hj).1)
        obtain ⟨x6, c6, rfl, hx6, hc6, _⟩ := ho6.bytes'
        have HC6 : Hid _ := refSha_any x6 Y c6 w6 hc6 (by rw [HYl.out]; omega) hx6
        have hs6 := HB6.out.size
        clear ho6 hg6 hx6 hc6 HV5 HX5 HB5 hs5
        refine Calls.mono HC6.out ?_
        rintro e w7 ⟨v7, rfl, ho7, hb7⟩
        have HB7 : Hid (Below w1.heap.size w1 w7) := HB6.out.trans (hb7.mono hs6)
        have HO7 : Hid (Own w7 w.heap.size v7 (hmacL key b)) := by
          show Own _ _ _ _
          rw [HHM.out]
          exact own_mono ho7 (by have := hB1.size; omega)
        have hB7 : Below w.heap.size w w7 := hB1.trans (HB7.out.mono hB1.size)
        clear HC6 ho7 hb7 HB6 HB7
        go_wp2
        go_ret
        exact ⟨_, rfl, HO7.out, hB7⟩
  · have hlong' : ¬ (64 : Int) < (key.length : Int) := by omega
    have HKB : Hid (kbL key = key ++ noughts (64 - key.length)) := by show kbL key = _; rw [kbL, if_neg hlong]
    have HXK : Hid (Bytes w ka key) := hkb
    have HB1 : Hid (Bytes w a b) := hb
    have hB1 : Below w.heap.size w w := Below.refl _ _
    clear hb hkb hkn
    go_enter Tryd.func29, Tryd.ntmps29
    go_wp2
    go_loopw [6, 7, 8, 9] (fun u v i _ wr => ∃ k : Nat, k ≤ 64 ∧ i = .int .i64 k ∧ Own wr w.heap.size u ((kx (kbL key) 54).take k) ∧ Own wr w.heap.size v ((kx (kbL key) 92).take k) ∧ (k = 0 → u = .slice none 0 0) ∧ (k = 0 → v = .slice none 0 0) ∧ Below w.heap.size w wr) (fun _ _ i _ _ => 64 - (intOf i).toNat)
    case atStart => exact ⟨0, by omega, rfl, World.ownsRow_nil _ _ _ _, World.ownsRow_nil _ _ _ _, fun _ => rfl, fun _ => rfl, Below.refl _ _⟩
    case round =>
      obtain ⟨k, hk, rfl, hu, hv, hu0, hv0, hnx⟩ := hrel
      have HU : Hid (Own wr w.heap.size u6 ((kx (kbL key) 54).take k)) := hu
      have HV : Hid (Own wr w.heap.size u7 ((kx (kbL key) 92).take k)) := hv
      have HU0 : Hid (k = 0 → u6 = .slice none 0 0) := hu0
      have HV0 : Hid (k = 0 → u7 = .slice none 0 0) := hv0
      clear hu hv hu0 hv0
      have hsz := hnx.size
      have HKL : Hid ((kbL key).length = 64) := kbL_length key
      by_cases hlt : k < 64
      · have hlt' : (k : Int) < 64 := by omega
        have HOU : Hid _ := kx_snoc (kbL key) 54 (k := k) (by rw [HKL.out]; exact hlt)
        have HOV : Hid _ := kx_snoc (kbL key) 92 (k := k) (by rw [HKL.out]; exact hlt)
        have HLU : Hid (((kx (kbL key) 54).take k).length = k) := take_len _ _ _ (by rw [HKL.out]; omega)
        have HLV : Hid (((kx (kbL key) 92).take k).length = k) := take_len _ _ _ (by rw [HKL.out]; omega)
        have hA1 : u7.ownBlock = none ∨ u7.ownBlock ≠ u6.ownBlock := by
          by_cases h0 : k = 0
          · left; rw [HV0.out h0]; rfl
          · exact apart_of (k := k) (by rw [HKL.out]; decide) HU.out (by rw [HLU.out]; omega) (first_more _ _ _ (by rw [HKL.out]; decide) (by omega)) HV.out HV0.out (by rw [HKL.out]; omega)
        have HA1 : Hid (u7.ownBlock = none ∨ u7.ownBlock ≠ u6.ownBlock) := hA1
        clear hA1
        have HUr : Hid (wr.ownsRow w.heap.size 5 1 u6 k (bcs ((kx (kbL key) 54).take k))) := by
          have h : wr.ownsRow w.heap.size 5 1 u6 ((kx (kbL key) 54).take k).length (bcs ((kx (kbL key) 54).take k)) := HU.out
          rw [HLU.out] at h
          exact h
        obtain ⟨x, hx⟩ : ∃ x, x = (kbL key).getD k 0 := ⟨_, rfl⟩
        rw [← hx] at HOU HOV
        have hxm : bits .xor .u8 (x.toNat : Int) 54 = ((x ^^^ 54).toNat : Int) := xor_u8 x 54
        have hxn : bits .xor .u8 (x.toNat : Int) 92 = ((x ^^^ 92).toNat : Int) := xor_u8 x 92
        generalize x ^^^ 54 = y at *
        generalize x ^^^ 92 = z at *
        by_cases hin : k < key.length
        · obtain ⟨bk, off, rfl, hbl, hcs⟩ := (HXK.out).at hin
          have hcell : wr.cell? ⟨bk, off + k, none⟩ = some (.int .u8 (x.toNat : Int)) := by
            rw [hnx.cell (p := ⟨bk, off + k, none⟩) hbl, hcs k hin, hx, kb_in HKB.out hin]
          have hin' : (k : Int) < (key.length : Int) := by omega
          clear hx hcs
          go_wp2_with (at_builtin; first
            | (refine wpList_append_own _ rfl (.tmp 28) (.tmp 31) 22 rfl w.heap.size 5 i0 (.int .u8 0) 1 1 Tryd.underlying22 hi hz0 hz1 hz2 rfl (by decide) _ _ _ rfl (World.ownsRow.alloc HUr.out _) ⟨wr.heap.size, 0, none⟩ 1 1 [.int .u8 (y.toNat : Int)] rfl rfl (cell_one_new _ _ _) (one_one _ rfl) (by unfold maxLen; omega) (by omega) (by simp; omega) ?_; intro v4 w4 hown4 hgrow4 _; have HB4 : Hid (Below w.heap.size w w4) := (hnx.alloc hsz _).grown hgrow4 (by simp; omega) (fun j hj => (World.ownsRow.lt HUr.out j hj).1); have HV4 : Hid (Own w4 w.heap.size _ ((kx (kbL key) 92).take k)) := own_kept (own_alloc HV.out _) hgrow4 HA1.out; have HVr : Hid (w4.ownsRow w.heap.size 5 1 _ k (bcs ((kx (kbL key) 92).take k))) := own_row HV4.out HLV.out; have hs4 := HB4.out.size)
            | (refine wpList_append_own _ rfl (.tmp 33) (.tmp 36) 22 rfl w.heap.size 5 i0 (.int .u8 0) 1 1 Tryd.underlying22 hi hz0 hz1 hz2 rfl (by decide) _ _ _ rfl (World.ownsRow.alloc HVr.out _) ⟨w4.heap.size, 0, none⟩ 1 1 [.int .u8 (z.toNat : Int)] rfl rfl (cell_one_new _ _ _) (one_one _ rfl) (by unfold maxLen; omega) (by omega) (by simp; omega) ?_; intro v5 w5 hown5 hgrow5 _))
          have HU4 : Hid (Own w4 w.heap.size v4 ((kx (kbL key) 54).take (k + 1))) := by
            show w4.ownsRow _ _ _ _ _ _
            rw [take_len _ _ _ (by rw [HKL.out]; omega), HOU.out, bcs_append]
            exact hown4
          have HA2 : Hid (_ ∨ _) := apart_of (k := k) (by rw [HKL.out]; decide) HU4.out (by rw [take_len _ _ _ (by rw [HKL.out]; omega)]; omega) rfl HV4.out HV0.out (by rw [HKL.out]; omega)
          have HB5 : Hid (Below w.heap.size w w5) := (HB4.out.alloc hs4 _).grown hgrow5 (by simp; omega) (fun j hj => (World.ownsRow.lt HVr.out j hj).1)
          have HV5 : Hid (Own w5 w.heap.size v5 ((kx (kbL key) 92).take (k + 1))) := by
            show w5.ownsRow _ _ _ _ _ _
            rw [take_len _ _ _ (by rw [HKL.out]; omega), HOV.out, bcs_append]
            exact hown5
          have HU5 : Hid (Own w5 w.heap.size v4 ((kx (kbL key) 54).take (k + 1))) := own_kept (row := u7.ownBlock) (own_alloc HU4.out _) hgrow5 (by
            rcases HA2.out with h | h
            · rw [h]
              cases v4.ownBlock with
              | none => exact .inl rfl
              | some g => exact .inr (by simp)
            · exact .inr (fun e => h e.symm))
          clear hown5 hgrow5 HVr HA2 hs4
          go_wp2
          go_roundw
          case rel => exact ⟨k + 1, by omega, by go_num, HU5.out, HV5.out, fun h => by omega, fun h => by omega, HB5.out⟩
          case measure => simp [intOf]; omega
        · have hx0 : x = 0 := by rw [hx, kb_out HKB.out hin]
          subst hx0
          have hxm' : bits .xor .u8 (0 : Int) 54 = (y.toNat : Int) := hxm
          have hxn' : bits .xor .u8 (0 : Int) 92 = (z.toNat : Int) := hxn
          clear hxm hxn
          have hin' : ¬ (k : Int) < (key.length : Int) := by omega
          clear hx
          go_wp2_with (at_builtin; first
            | (refine wpList_append_own _ rfl (.tmp 28) (.tmp 31) 22 rfl w.heap.size 5 i0 (.int .u8 0) 1 1 Tryd.underlying22 hi hz0 hz1 hz2 rfl (by decide) _ _ _ rfl (World.ownsRow.alloc HUr.out _) ⟨wr.heap.size, 0, none⟩ 1 1 [.int .u8 (y.toNat : Int)] rfl rfl (cell_one_new _ _ _) (one_one _ rfl) (by unfold maxLen; omega) (by omega) (by simp; omega) ?_; intro v4 w4 hown4 hgrow4 _; have HB4 : Hid (Below w.heap.size w w4) := (hnx.alloc hsz _).grown hgrow4 (by simp; omega) (fun j hj => (World.ownsRow.lt HUr.out j hj).1); have HV4 : Hid (Own w4 w.heap.size _ ((kx (kbL key) 92).take k)) := own_kept (own_alloc HV.out _) hgrow4 HA1.out; have HVr : Hid (w4.ownsRow w.heap.size 5 1 _ k (bcs ((kx (kbL key) 92).take k))) := own_row HV4.out HLV.out; have hs4 := HB4.out.size)
            | (refine wpList_append_own _ rfl (.tmp 33) (.tmp 36) 22 rfl w.heap.size 5 i0 (.int .u8 0) 1 1 Tryd.underlying22 hi hz0 hz1 hz2 rfl (by decide) _ _ _ rfl (World.ownsRow.alloc HVr.out _) ⟨w4.heap.size, 0, none⟩ 1 1 [.int .u8 (z.toNat : Int)] rfl rfl (cell_one_new _ _ _) (one_one _ rfl) (by unfold maxLen; omega) (by omega) (by simp; omega) ?_; intro v5 w5 hown5 hgrow5 _))
          have HU4 : Hid (Own w4 w.heap.size v4 ((kx (kbL key) 54).take (k + 1))) := by
            show w4.ownsRow _ _ _ _ _ _
            rw [take_len _ _ _ (by rw [HKL.out]; omega), HOU.out, bcs_append]
            exact hown4
          have HA2 : Hid (_ ∨ _) := apart_of (k := k) (by rw [HKL.out]; decide) HU4.out (by rw [take_len _ _ _ (by rw [HKL.out]; omega)]; omega) rfl HV4.out HV0.out (by rw [HKL.out]; omega)
          have HB5 : Hid (Below w.heap.size w w5) := (HB4.out.alloc hs4 _).grown hgrow5 (by simp; omega) (fun j hj => (World.ownsRow.lt HVr.out j hj).1)
          have HV5 : Hid (Own w5 w.heap.size v5 ((kx (kbL key) 92).take (k + 1))) := by
            show w5.ownsRow _ _ _ _ _ _
            rw [take_len _ _ _ (by rw [HKL.out]; omega), HOV.out, bcs_append]
            exact hown5
          have HU5 : Hid (Own w5 w.heap.size v4 ((kx (kbL key) 54).take (k + 1))) := own_kept (row := u7.ownBlock) (own_alloc HU4.out _) hgrow5 (by
            rcases HA2.out with h | h
            · rw [h]
              cases v4.ownBlock with
              | none => exact .inl rfl
              | some g => exact .inr (by simp)
            · exact .inr (fun e => h e.symm))
          clear hown5 hgrow5 HVr HA2 hs4
          go_wp2
          go_roundw
          case rel => exact ⟨k + 1, by omega, by go_num, HU5.out, HV5.out, fun h => by omega, fun h => by omega, HB5.out⟩
          case measure => simp [intOf]; omega
      · have HK : Hid (k = 64) := by show k = 64; omega
        have hge : ¬ (k : Int) < 64 := by omega
        obtain ⟨P, R, hu2, hv2, hap, hlp, hlr, hhm⟩ := exitF key b HU.out HV.out HK.out
        have HU2 : Hid (Own wr w.heap.size u6 P) := hu2
        have HV2 : Hid (Own wr w.heap.size u7 R) := hv2
        have HA : Hid (u7.ownBlock ≠ u6.ownBlock) := hap
        have HLP : Hid (P.length = 64) := hlp
        have HLR : Hid (R.length = 64) := hlr
        have HBb : Hid (Bytes wr a b) := HB1.out.below hnx (Nat.le_refl _)
        obtain ⟨Z, hZ⟩ : ∃ Z, P ++ b = Z := ⟨_, rfl⟩
        have HZl : Hid (Z.length ≤ 140737488351300) := by show Z.length ≤ _; rw [← hZ, List.length_append, hlp]; omega
        rw [hZ] at hhm
        obtain ⟨Q, hQ⟩ : ∃ Q, shaL Z = Q := ⟨_, rfl⟩
        have HQl : Hid (Q.length = 32) := by show Q.length = 32; rw [← hQ]; exact shaL_length Z
        have HQ : Hid (shaL Z = Q) := hQ
        rw [hQ] at hhm
        obtain ⟨Y, hY⟩ : ∃ Y, R ++ Q = Y := ⟨_, rfl⟩
        have HYl : Hid (Y.length = 96) := by show Y.length = 96; rw [← hY, List.length_append, hlr, HQl.out]
        rw [hY] at hhm
        have HHM : Hid (hmacL key b = shaL Y) := hhm
        have HZ : Hid (P ++ b = Z) := hZ
        have HY : Hid (R ++ Q = Y) := hY
        clear HU HV HU0 HV0 HXK HKB hlt hu2 hv2 hap hlp hlr hhm hZ hQ hY
        go_wp2_with (at_builtin; refine wpList_append_bytes rfl (.tmp 39) (.tmp 40) rfl w.heap.size u6 P rfl HU2.out a b cap rfl HBb.out hn (by rw [HLP.out]; omega) hsz ?_; intro v4 w4 ho4 hg4; rw [HZ.out] at ho4)
        have HB4 : Hid (Below w.heap.size w w4) := hnx.grown hg4 hsz (fun j hj => (World.ownsRow.lt HU2.out j hj).1)
        have HV4 : Hid (Own w4 w.heap.size u7 R) := own_kept HV2.out hg4 (.inr HA.out)
        obtain ⟨x4, c4, rfl, hx4, hc4, _⟩ := ho4.bytes'
        have HC4 : Hid _ := refSha_any x4 Z c4 w4 hc4 (by have := HZl.out; omega) hx4
        have hs4 := HB4.out.size
        clear ho4 hg4 hx4 hc4 hnx hsz HU2 HV2 HA HBb
        refine Calls.mono HC4.out ?_
        rintro e w5 ⟨v5, rfl, ho5, hb5⟩
        rw [HQ.out] at ho5
        obtain ⟨x5, c5, rfl, hx5, hc5, _⟩ := ho5.bytes'
        have HB5 : Hid (Below w.heap.size w w5) := HB4.out.trans (hb5.mono hs4)
        have HV5 : Hid (Own w5 w.heap.size u7 R) := own_below HV4.out hb5
        have hs5 := HB5.out.size
        have HX5 : Hid (Bytes w5 x5 Q) := hx5
        clear HC4 ho5 hb5 HB4 HV4 hs4 hx5
        go_wp2_with (at_builtin; refine wpList_append_bytes rfl (.tmp 38) (.tmp 42) rfl w.heap.size u7 R rfl HV5.out x5 Q c5 rfl HX5.out hc5 (by rw [HLR.out, HQl.out]; omega) hs5 ?_; intro v6 w6 ho6 hg6; rw [HY.out] at ho6)
        have HB6 : Hid (Below w.heap.size w w6) := HB5.out.grown hg6 hs5 (fun j hj => (World.ownsRow.lt HV5.out j hj).1)
        obtain ⟨x6, c6, rfl, hx6, hc6, _⟩ := ho6.bytes'
        have HC6 : Hid _ := refSha_any x6 Y c6 w6 hc6 (by rw [HYl.out]; omega) hx6
        have hs6 := HB6.out.size
        clear ho6 hg6 hx6 hc6 HV5 HX5 HB5 hs5
        refine Calls.mono HC6.out ?_
        rintro e w7 ⟨v7, rfl, ho7, hb7⟩
        have HB7 : Hid (Below w.heap.size w w7) := HB6.out.trans (hb7.mono hs6)
        have HO7 : Hid (Own w7 w.heap.size v7 (hmacL key b)) := by
          show Own _ _ _ _
          rw [HHM.out]
          exact own_mono ho7 (by have := hB1.size; omega)
        have hB7 : Below w.heap.size w w7 := hB1.trans (HB7.out.mono hB1.size)
        clear HC6 ho7 hb7 HB6 HB7
        go_wp2
        go_ret
        exact ⟨_, rfl, HO7.out, hB7⟩
end Go.Proofs.YtgpjjlkkfddjnaaDoor

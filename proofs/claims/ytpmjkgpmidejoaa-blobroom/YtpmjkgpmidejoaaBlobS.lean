/-
  A unit's bytes: its sum, the highest byte first, then its data with noughts behind them; package blob's seal by its contract.
-/
import Derived.Test.YtpmjkgpmidejoaaSWrite
namespace Go.Proofs.Ytpmjkgpmidejoaa
open Go.RowKit

/-- The data of a unit, noughts behind it. -/
def bodyL (l : List UInt8) : List UInt8 := l ++ List.replicate (252 - l.length) 0
def sealL (l : List UInt8) : List UInt8 := be (crcL (bodyL l)).toNat 4 ++ bodyL l
theorem bodyL_length {l : List UInt8} (h : l.length ≤ 252) : (bodyL l).length = 252 := by rw [bodyL, List.length_append, List.length_replicate]; omega
theorem sealL_length {l : List UInt8} (h : l.length ≤ 252) : (sealL l).length = 256 := by rw [sealL, List.length_append, be_length, bodyL_length h]

theorem copy_off (w : World) (ty : TypeId) (g sCap R : Nat) (a : Addr) (m : List UInt8) (hg : w.heap[g]? = some (.cells (bcs (List.replicate (4 + R) 0)).toArray 5 (0, 0))) (hm : m.length ≤ R) (hsrc : ∀ j u, (bcs m)[j]? = some u → w.cell? (a.add j) = some u) :
    ∃ w', (Builtin.copy_ #[38, 38] ty #[.slice (some ⟨g, 4, none⟩) R R, .slice (some a) m.length sCap]).run Try.prog w = .ok (goInt m.length) w' ∧ w'.heap[g]? = some (.cells (bcs (List.replicate 4 0 ++ (m ++ List.replicate (R - m.length) 0))).toArray 5 (0, 0)) ∧ w.grownBy w' (some g) := by
  have hl : (bcs m).length = m.length := bcs_length m
  have hrun := run_copy_row (P := Try.prog) w 38 38 ty 5 g 4 R R a m.length sCap (bcs (List.replicate (4 + R) 0)).toArray 5 (bcs m) Try.underlying38 size5 hg (by rw [hl]; exact (Nat.min_eq_left hm).symm) hsrc (by simp [bcs]; omega) (bcs_one _)
  rw [hl] at hrun
  refine ⟨_, hrun, ?_, ⟨rfl, rfl, rfl, by simp, fun k hk hne => setRow_other w g k _ (by intro e; subst e; exact hne rfl)⟩⟩
  rw [setRow_heap w g _ _ 5 _ hg]
  have e : (bcs (List.replicate (4 + R) 0)).toArray.toList.take 4 ++ bcs m ++ (bcs (List.replicate (4 + R) 0)).toArray.toList.drop (4 + m.length) = bcs (List.replicate 4 0 ++ (m ++ List.replicate (R - m.length) 0)) := by
    have e1 : 4 + R - (4 + m.length) = R - m.length := by omega
    simp [bcs, List.drop_replicate, List.take_replicate, e1]
  exact congrArg (fun x => some (Obj.cells (List.toArray x) 5 (0, 0))) e
theorem copy_four (w : World) (ty : TypeId) (g sCap : Nat) (a : Addr) (m : List UInt8) (hg : w.heap[g]? = some (.cells (bcs (List.replicate 256 0)).toArray 5 (0, 0))) (hm : m.length ≤ 252) (hsrc : ∀ j u, (bcs m)[j]? = some u → w.cell? (a.add j) = some u) :
    ∃ w', (Builtin.copy_ #[38, 38] ty #[.slice (some ⟨g, 4, none⟩) 252 252, .slice (some a) m.length sCap]).run Try.prog w = .ok (goInt m.length) w' ∧ w'.heap[g]? = some (.cells (bcs (List.replicate 4 0 ++ bodyL m)).toArray 5 (0, 0)) ∧ w.grownBy w' (some g) :=
  copy_off w ty g sCap 252 a m hg hm hsrc

theorem be4 (n : Nat) : be n 4 = [UInt8.ofNat (n / 2 ^ 24), UInt8.ofNat (n / 2 ^ 16), UInt8.ofNat (n / 2 ^ 8), UInt8.ofNat n] := by simp [be]
/-- The row while its sum is being laid. -/
def sumRow (n k : Nat) (B : List UInt8) : List UInt8 := (be n 4).take k ++ List.replicate (4 - k) 0 ++ B
theorem row_set {w : World} {g : Nat} {l : List UInt8} (h : w.heap[g]? = some (.cells (bcs l).toArray 5 (0, 0))) (j : Nat) (x : UInt8) : (w.setCell ⟨g, j, none⟩ (.int .u8 (x.toNat : Int))).heap[g]? = some (.cells (bcs (l.set j x)).toArray 5 (0, 0)) := by
  rw [set_blk h, List.setIfInBounds_toArray, bcs, bcs, List.map_set]
theorem sumRow_set (n : Nat) (B : List UInt8) (k : Nat) (hk : k < 4) : (sumRow n k B).set k (UInt8.ofNat (n / 2 ^ (8 * (3 - k)))) = sumRow n (k + 1) B := by
  rcases (by omega : k = 0 ∨ k = 1 ∨ k = 2 ∨ k = 3) with rfl | rfl | rfl | rfl <;> simp [sumRow, be4, List.replicate]
theorem sumRow_length (n k : Nat) (B : List UInt8) (hk : k ≤ 4) : (sumRow n k B).length = 4 + B.length := by
  simp [sumRow, be_length]; omega
theorem row_cell {w : World} {g : Nat} {l : List UInt8} (h : w.heap[g]? = some (.cells (bcs l).toArray 5 (0, 0))) {j : Nat} (hj : j < l.length) : w.cell? ⟨g, j, none⟩ = some (.int .u8 (l[j].toNat : Int)) := by
  rw [cell_blk h]
  simpa using bcs_get hj
theorem sum_byte (x : Wd) (j : Nat) : (W x / 2 ^ (8 * j)) % 256 = ((UInt8.ofNat (x.toNat / 2 ^ (8 * j))).toNat : Int) := by
  rw [UInt8.toNat_ofNat', W]
  simp

set_option maxHeartbeats 2000000 in
set_option maxRecDepth 20000 in
theorem seal_any (w : World) (b off cap : Nat) (l : List UInt8) (hl : l.length ≤ 252) (hb : Bytes w (some ⟨b, off, none⟩) l) :
    Calls Try.prog 74 #[.slice (some ⟨b, off, none⟩) l.length cap] w fun e w' => e = .returned (.slice (some ⟨w.heap.size, 0, none⟩) 256 256) ∧ w'.heap[w.heap.size]? = some (.cells (bcs (sealL l)).toArray 5 (0, 0)) ∧ Below w.heap.size w w' := by
  obtain ⟨i0, hi, hz0, hz1, hz2⟩ := info_parts info5
  have hm : i0.bytes * 256 ≤ 281474976710656 := by rw [hz2]; omega
  have hsl : ∀ wx, (Instr.slice 38 (.slice (some ⟨w.heap.size, 0, none⟩) 256 256) (some (.int .i64 4)) none none).run Try.prog wx = .ok (.slice (some ⟨w.heap.size, 4, none⟩) 252 252) wx := fun wx => slice_lo w.heap.size 0 256 256 4 (by omega) (by omega) wx
  have HW : Hid (∀ w5, w5.ownsRow w.heap.size 5 1 (.slice (some ⟨w.heap.size, 0, none⟩) 256 256) 256 (bcs (List.replicate 256 0)) → w.grownBy w5 none → ∃ w6, (Builtin.copy_ #[38, 38] 3 #[.slice (some ⟨w.heap.size, 4, none⟩) 252 252, .slice (some ⟨b, off, none⟩) l.length cap]).run Try.prog w5 = .ok (goInt l.length) w6 ∧
      Calls Try.prog 87 #[.slice (some ⟨w.heap.size, 4, none⟩) 252 252] w6 fun e w' => e = .returned (.int .u32 (W (crcL (bodyL l)))) ∧ w'.heap[w.heap.size]? = some (.cells (bcs (sumRow (crcL (bodyL l)).toNat 0 (bodyL l))).toArray 5 (0, 0)) ∧ Below w.heap.size w w') := (by
    intro w5 ho5 hg5
    have hb5 : Below w.heap.size w w5 := (Below.refl _ _).grown hg5 (Nat.le_refl _) (by simp)
    have hrow5 := row_full ho5
    obtain ⟨w6, e1, e2, e3⟩ := copy_four w5 3 w.heap.size cap ⟨b, off, none⟩ l hrow5 hl (Bytes.cells (hb.below hb5 (Nat.le_refl _)))
    refine ⟨w6, e1, ?_⟩
    have hb6 : Below w.heap.size w w6 := hb5.grown e3 hb5.size (fun k e => by simp only [Option.some.injEq] at e; omega)
    have hby := (bytes_row e2).drop 4
    rw [Nat.zero_add, List.drop_left' (by simp)] at hby
    have hc := crc_any (some ⟨w.heap.size, 4, none⟩) (bodyL l) 252 w6 (by rw [bodyL_length hl]; omega) hby
    rw [bodyL_length hl] at hc
    refine hc.mono ?_
    rintro e w7 ⟨rfl, hb7⟩
    have hlt : w.heap.size < w6.heap.size := (Array.getElem?_eq_some_iff.1 e2).1
    exact ⟨rfl, (hb7.block _ hlt).trans e2, hb6.trans (hb7.mono hb6.size)⟩)
  have HS : Hid (sealL l = sumRow (crcL (bodyL l)).toNat 4 (bodyL l)) := (show _ = _ from by simp [sealL, sumRow, List.take_of_length_le (Nat.le_of_eq (be_length _ 4))])
  obtain ⟨B, hB⟩ : ∃ B, B = bodyL l := ⟨_, rfl⟩
  rw [← hB] at HW HS
  have HBL : Hid (B.length = 252) := (show _ = _ from by rw [hB, bodyL_length hl])
  obtain ⟨x, hx⟩ : ∃ x, x = crcL B := ⟨_, rfl⟩
  rw [← hx] at HW HS
  clear hb hB hx
  go_enter Try.func74, Try.ntmps74
  go_wp2_with (first
    | (at_make; refine wpList_make_full _ rfl _ _ 38 rfl w.heap.size 5 i0 (.int .u8 0) 1 Try.underlying38 hi hz0 hz1 _ _ _ _ 256 rfl rfl (by first | rfl | omega) (by first | rfl | omega) hm (by unfold maxLen; omega) (Nat.le_refl _) ?_; intro w5 ho5 hg5; rw [made_bytes] at ho5; obtain ⟨w6, hcp, hwc⟩ := HW.out w5 ho5 hg5; clear ho5 hg5)
    | (go_at_call 87; refine Calls.mono hwc ?_; rintro e w7 ⟨rfl, hr7, hb7⟩))
  have b1 := W_bd x
  go_loopw [14] (fun i wr => ∃ k : Nat, k ≤ 4 ∧ i = .int .i64 k ∧ wr.heap[w.heap.size]? = some (.cells (bcs (sumRow x.toNat k B)).toArray 5 (0, 0)) ∧ Below w.heap.size w wr) (fun i _ => 4 - (intOf i).toNat)
  case atStart => exact ⟨0, by omega, rfl, hr7, hb7⟩
  case round =>
    obtain ⟨k, hk, rfl, hr, hbw⟩ := hrel
    rcases (by omega : k = 0 ∨ k = 1 ∨ k = 2 ∨ k = 3 ∨ k = 4) with rfl | rfl | rfl | rfl | rfl
    · have hf := frozen_blk hr 0
      obtain ⟨c, hc0⟩ : ∃ c, wr.cell? ⟨w.heap.size, 0, none⟩ = some c := ⟨_, row_cell hr (by rw [sumRow_length _ _ _ (by omega), HBL.out]; omega)⟩
      have HR : Hid (wr.heap[w.heap.size]? = some (.cells (bcs (sumRow x.toNat 0 B)).toArray 5 (0, 0)) ∧ Below w.heap.size w wr) := ⟨hr, hbw⟩
      clear hr hbw
      go_wp2
      go_roundw
      case rel =>
        refine ⟨1, by omega, rfl, ?_, HR.out.2.setCell (Nat.le_refl _) _⟩
        have := row_set HR.out.1 0 (UInt8.ofNat (x.toNat / 2 ^ (8 * (3 - 0))))
        rw [sumRow_set _ _ _ (by omega)] at this
        rw [← this]
        congr 3
        all_goals have := W_bd x
        all_goals first | exact sum_byte _ _ | (rw [← sum_byte]; simp; done) | (rw [← sum_byte]; simp; omega)
      case measure => simp [intOf]
    · have hf := frozen_blk hr 1
      obtain ⟨c, hc0⟩ : ∃ c, wr.cell? ⟨w.heap.size, 1, none⟩ = some c := ⟨_, row_cell hr (by rw [sumRow_length _ _ _ (by omega), HBL.out]; omega)⟩
      have HR : Hid (wr.heap[w.heap.size]? = some (.cells (bcs (sumRow x.toNat 1 B)).toArray 5 (0, 0)) ∧ Below w.heap.size w wr) := ⟨hr, hbw⟩
      clear hr hbw
      go_wp2
      go_roundw
      case rel =>
        refine ⟨2, by omega, rfl, ?_, HR.out.2.setCell (Nat.le_refl _) _⟩
        have := row_set HR.out.1 1 (UInt8.ofNat (x.toNat / 2 ^ (8 * (3 - 1))))
        rw [sumRow_set _ _ _ (by omega)] at this
        rw [← this]
        congr 3
        all_goals have := W_bd x
        all_goals first | exact sum_byte _ _ | (rw [← sum_byte]; simp; done) | (rw [← sum_byte]; simp; omega)
      case measure => simp [intOf]
    · have hf := frozen_blk hr 2
      obtain ⟨c, hc0⟩ : ∃ c, wr.cell? ⟨w.heap.size, 2, none⟩ = some c := ⟨_, row_cell hr (by rw [sumRow_length _ _ _ (by omega), HBL.out]; omega)⟩
      have HR : Hid (wr.heap[w.heap.size]? = some (.cells (bcs (sumRow x.toNat 2 B)).toArray 5 (0, 0)) ∧ Below w.heap.size w wr) := ⟨hr, hbw⟩
      clear hr hbw
      go_wp2
      go_roundw
      case rel =>
        refine ⟨3, by omega, rfl, ?_, HR.out.2.setCell (Nat.le_refl _) _⟩
        have := row_set HR.out.1 2 (UInt8.ofNat (x.toNat / 2 ^ (8 * (3 - 2))))
        rw [sumRow_set _ _ _ (by omega)] at this
        rw [← this]
        congr 3
        all_goals have := W_bd x
        all_goals first | exact sum_byte _ _ | (rw [← sum_byte]; simp; done) | (rw [← sum_byte]; simp; omega)
      case measure => simp [intOf]
    · have hf := frozen_blk hr 3
      obtain ⟨c, hc0⟩ : ∃ c, wr.cell? ⟨w.heap.size, 3, none⟩ = some c := ⟨_, row_cell hr (by rw [sumRow_length _ _ _ (by omega), HBL.out]; omega)⟩
      have HR : Hid (wr.heap[w.heap.size]? = some (.cells (bcs (sumRow x.toNat 3 B)).toArray 5 (0, 0)) ∧ Below w.heap.size w wr) := ⟨hr, hbw⟩
      clear hr hbw
      go_wp2
      go_roundw
      case rel =>
        refine ⟨4, by omega, rfl, ?_, HR.out.2.setCell (Nat.le_refl _) _⟩
        have := row_set HR.out.1 3 (UInt8.ofNat (x.toNat / 2 ^ (8 * (3 - 3))))
        rw [sumRow_set _ _ _ (by omega)] at this
        rw [← this]
        congr 3
        all_goals have := W_bd x
        all_goals first | exact sum_byte _ _ | (rw [← sum_byte]; simp; done) | (rw [← sum_byte]; simp; omega)
      case measure => simp [intOf]
    · have HR : Hid (wr.heap[w.heap.size]? = some (.cells (bcs (sumRow x.toNat 4 B)).toArray 5 (0, 0)) ∧ Below w.heap.size w wr) := ⟨hr, hbw⟩
      clear hr hbw
      go_wp2
      go_ret
      rw [HS.out]
      exact ⟨rfl, HR.out.1, HR.out.2⟩
end Go.Proofs.Ytpmjkgpmidejoaa

/-
  strconv.FormatInt at the base 16: the walk.
-/
import Derived.Test.YtgpjjlkkfddjnaaDoorFmA
namespace Go.Proofs.YtgpjjlkkfddjnaaDoor
open Go.RowKit

def digT : ByteArray := ⟨#[48, 49, 50, 51, 52, 53, 54, 55, 56, 57, 97, 98, 99, 100, 101, 102, 103, 104, 105, 106, 107, 108, 109, 110, 111, 112, 113, 114, 115, 116, 117, 118, 119, 120, 121, 122]⟩
theorem dig_fin : ∀ d : Fin 16, (digT.data[d.val]'(by show d.val < 36; omega)).toNat = (hxC d.val).toNat := by decide
theorem dig_at (d : Nat) (hd : d < 16) (h : d < (⟨#[48, 49, 50, 51, 52, 53, 54, 55, 56, 57, 97, 98, 99, 100, 101, 102, 103, 104, 105, 106, 107, 108, 109, 110, 111, 112, 113, 114, 115, 116, 117, 118, 119, 120, 121, 122]⟩ : ByteArray).size) : ((⟨#[48, 49, 50, 51, 52, 53, 54, 55, 56, 57, 97, 98, 99, 100, 101, 102, 103, 104, 105, 106, 107, 108, 109, 110, 111, 112, 113, 114, 115, 116, 117, 118, 119, 120, 121, 122]⟩ : ByteArray)[d]'h).toNat = (hxC d).toNat := dig_fin ⟨d, hd⟩
theorem slice_tail (A q : Nat) (w : World) (hq : q < 65) : (Instr.sliceAt 128 (.pointer (some ⟨A, 0, none⟩)) (some (.int .i64 (q : Int))) none none).run Tryd.prog w = .ok (.slice (some ⟨A, q, none⟩) (65 - q) (65 - q)) w := by
  have hl : (Tryd.prog.arrayLen 128) = 65 := by kernel_rfl
  obtain ⟨i0, hi, hz0, hz1, hz2⟩ := info_parts info5
  simp [Instr.sliceAt, Instr.sureAddr, run_underlying Tryd.underlying128, Instr.sliceBounds, run_sliceBound, sizeOf, typeInfo, hi, hz1, (by omega : (q : Int) ≤ 65), Addr.add]
  rw [if_neg (by omega)]
  split
  · rename_i h; subst h; rfl
  · rfl
/-- What is written of the digits, so far. -/
structure FmI (w wr : World) (A q : Nat) (T : List UInt8) (cur : Array Value) : Prop where
  box : wr.heap[A]? = some (.cells cur 128 (0, 0))
  size : cur.size = 65
  len : T.length + q = 65
  at_ : ∀ j (h : j < T.length), cur[q + j]? = some (.int .u8 (T[j].toNat : Int))
  bl : Below w.heap.size w wr
  ge : w.heap.size ≤ A
theorem FmI.add {w wr : World} {A q : Nat} {T : List UInt8} {cur : Array Value} (h : FmI w wr A (q + 1) T cur) (c : UInt8) (v : Value) (hv : v = .int .u8 (c.toNat : Int)) : FmI w (wr.setCell ⟨A, q, none⟩ v) A q (c :: T) (cur.setIfInBounds q v) := by
  have hl := h.len
  refine ⟨set_blk h.box _ _, by rw [Array.size_setIfInBounds]; exact h.size, by simp only [List.length_cons]; omega, fun j hj => ?_, Md.toBelow h.bl (Md.setp (p := A) (Md.refl _ _) q v) (fun b hb e => by have := h.ge; omega) (Nat.le_refl _), h.ge⟩
  cases j with
  | zero =>
    rw [Nat.add_zero, Array.getElem?_setIfInBounds_self_of_lt (by rw [h.size]; omega), hv]
    rfl
  | succ j =>
    rw [Array.getElem?_setIfInBounds_ne (by omega), show q + (j + 1) = q + 1 + j from by omega]
    exact h.at_ j (by simpa using hj)
theorem FmI.conv {w wr : World} {A q : Nat} {T : List UInt8} {cur : Array Value} (h : FmI w wr A q T cur) : (convert 22 9 (.slice (some ⟨A, q, none⟩) (65 - q) (65 - q))).run Tryd.prog wr = .ok (.string ⟨T.toArray⟩) wr := by
  have hl := h.len
  have hB : Bytes wr (some ⟨A, q, none⟩) T := .inr ⟨A, q, rfl, blk_lt h.box, fun j hj => (cell_blk h.box (q + j)).trans (h.at_ j hj)⟩
  have := convert_bytes wr (some ⟨A, q, none⟩) (65 - q) T hB
  rw [show T.length = 65 - q from by omega] at this
  exact this
set_option maxRecDepth 20000 in
set_option maxHeartbeats 2000000 in
theorem bits_any (n : Nat) (w : World) (hn : n < 1000000000000) (ht : Tz w) :
    Calls Tryd.prog 72 #[.slice none 0 0, .int .u64 (n : Int), .int .i64 16, .bool false, .bool false] w fun e w' => e = .returned (.tuple #[.slice none 0 0, .string ⟨(hxN n).toArray⟩]) ∧ Below w.heap.size w w' := by
  have HP := (show Hid (∀ W, Calls Tryd.prog 83 #[.int .i64 16] W fun e w' => e = .returned (.bool true) ∧ w' = W) from pow_any)
  have HT : Hid (Tz w) := ht
  have HN : Hid (n < 1000000000000) := hn
  clear ht
  go_enter Tryd.func72, Tryd.ntmps72
  go_wp2_with (first
    | (go_at_call 83; refine Calls.mono (HP.out _) ?_; rintro e w1 ⟨rfl, rfl⟩)
    | (go_at_call 84; refine Calls.mono (tz_any _ (HT.out.below ((Below.refl _ _).alloc (Nat.le_refl _) _) (Nat.le_refl _))) ?_; rintro e w1 ⟨rfl, rfl⟩))
  obtain ⟨A, hA⟩ : ∃ A, A = w.heap.size := ⟨_, rfl⟩
  rw [← hA]
  have HA := (show Hid (A = w.heap.size) from hA)
  have h0 : (w.alloc (.cells Tryd.zeroCells128 128)).heap[A]? = some (.cells Tryd.zeroCells128 128 (0, 0)) := by rw [hA]; exact heap_alloc_new w _
  have h1 : Tryd.zeroCells128.size = 65 := by kernel_rfl
  have hb0 : Below w.heap.size w (w.alloc (.cells Tryd.zeroCells128 128)) := (Below.refl _ _).alloc (Nat.le_refl _) _
  have HI := (show Hid ((w.alloc (.cells Tryd.zeroCells128 128)).heap[A]? = some (.cells Tryd.zeroCells128 128 (0, 0)) ∧ _ ∧ _) from ⟨h0, h1, hb0⟩)
  generalize w.alloc (.cells Tryd.zeroCells128 128) = W0 at *
  generalize Tryd.zeroCells128 = Z at *
  clear h0 h1 hb0 hA
  go_loopw [1, 13] (fun u i wr => ∃ (m q : Nat) (T : List UInt8) (cur : Array Value), u = .int .u64 (m : Int) ∧ i = .int .i64 (q : Int) ∧ q ≤ 65 ∧ Hid (FmI w wr A q T cur ∧ hxN n = hxN m ++ T ∧ m * 16 ^ T.length ≤ n ∧ T.length < 12)) (fun u _ _ => (intOf u).toNat)
  case atStart => exact ⟨n, 65, [], Z, rfl, rfl, by omega, ⟨⟨HI.out.1, HI.out.2.1, rfl, fun j h => by simp at h, HI.out.2.2, by rw [HA.out]; exact Nat.le_refl _⟩, by simp, by simp, by simp⟩⟩
  case round =>
    obtain ⟨m, q, T, cur, rfl, rfl, hq, hi⟩ := hrel
    by_cases hm : m < 16
    · have HM := (show Hid (m < 16) from hm)
      have hTq : 1 ≤ q := by
        have hT := hi.out.2.2.2
        have := hi.out.1.len
        omega
      obtain ⟨q', rfl⟩ : ∃ q', q = q' + 1 := ⟨q - 1, by omega⟩
      have f0 := frozen_blk hi.out.1.box q'
      obtain ⟨v0, hv0⟩ : ∃ v, cur[q']? = some v := ⟨cur[q']'(by have := hi.out.1.size; omega), Array.getElem?_eq_getElem _⟩
      have c0 : wr.cell? ⟨A, q', none⟩ = some v0 := (cell_blk hi.out.1.box q').trans hv0
      have hmi : (m : Int) < 16 := by omega
      have hq65 : (q' : Int) < 65 := by omega
      have hdi : (m : Int) < 36 := by omega
      clear hv0 hm
      go_upto_region 30 with fail
      have hE := hi.out.1.add (hxC m) _ (by rw [← dig_at m HM.out (by show m < 36; omega)])
      have hcv := hE.conv
      have hbl := hE.bl
      have HR := (show Hid (hxN n = hxC m :: T) from by show _ = _; rw [hi.out.2.1, hxN_small HM.out]; rfl)
      clear f0 c0
      revert hcv hbl hE
      generalize hW9 : wr.setCell _ _ = W9
      intro hE hcv hbl
      have HBL := (show Hid _ from hbl)
      clear hW9 hE hbl
      have hsl := slice_tail A q' W9 (by omega)
      go_wp2
      go_ret2
      rw [HR.out]
      exact ⟨rfl, HBL.out⟩
    · have hT : T.length < 10 := by
        rcases Nat.lt_or_ge T.length 10 with h | h
        · exact h
        · have e1 : 16 ^ 10 ≤ 16 ^ T.length := Nat.pow_le_pow_right (by omega) h
          have e2 : 16 * 16 ^ T.length ≤ m * 16 ^ T.length := Nat.mul_le_mul_right _ (by omega)
          have e3 := hi.out.2.2.1
          have e4 : (1000000000000 : Nat) < 16 * 16 ^ 10 := by decide
          have := HN.out
          omega
      have hm12 : m < 1000000000000 := by
        have e2 : m * 1 ≤ m * 16 ^ T.length := Nat.mul_le_mul_left _ (Nat.pos_of_ne_zero (by simp))
        have e3 := hi.out.2.2.1
        have := HN.out
        omega
      obtain ⟨q', rfl⟩ : ∃ q', q = q' + 1 := ⟨q - 1, by have := hi.out.1.len; omega⟩
      have hand := and15 hm12
      have hd : m % 16 < 16 := Nat.mod_lt _ (by omega)
      obtain ⟨d, hdd⟩ : ∃ d, d = m % 16 := ⟨_, rfl⟩
      rw [← hdd] at hand hd
      have HDD := (show Hid _ from hdd)
      have f0 := frozen_blk hi.out.1.box q'
      obtain ⟨v0, hv0⟩ : ∃ v, cur[q']? = some v := ⟨cur[q']'(by have := hi.out.1.size; omega), Array.getElem?_eq_getElem _⟩
      have c0 : wr.cell? ⟨A, q', none⟩ = some v0 := (cell_blk hi.out.1.box q').trans hv0
      have hmi : ¬ (m : Int) < 16 := by omega
      have hq65 : (q' : Int) < 65 := by omega
      have hdi : (d : Int) < 36 := by omega
      clear hdd hv0 hm
      go_wp2
      have hE := hi.out.1.add (hxC d) _ (by rw [← dig_at d hd (by show d < 36; omega)])
      refine ⟨⟨m / 16, q', hxC d :: T, _, by go_num, rfl, by omega, ⟨hE, ?_, ?_, by simp only [List.length_cons]; omega⟩⟩, ?_⟩
      · rw [hi.out.2.1, hxN_great (by omega) hm12, ← HDD.out]
        simp
      · have e1 := hi.out.2.2.1
        rw [List.length_cons, Nat.pow_succ, Nat.mul_comm (16 ^ T.length) 16, ← Nat.mul_assoc]
        exact Nat.le_trans (Nat.mul_le_mul_right _ (Nat.div_mul_le_self m 16)) e1
      · simp only [intOf]
        omega
set_option maxHeartbeats 1000000 in
theorem format_any (n : Nat) (w : World) (hn : n < 1000000000000) (ht : Tz w) :
    Calls Tryd.prog 31 #[.int .i64 (n : Int), .int .i64 16] w fun e w' => e = .returned (.string ⟨(hxN n).toArray⟩) ∧ Below w.heap.size w w' := by
  have K := (show Hid _ from bits_any n w hn ht)
  have h0 : (0 : Int) ≤ (n : Int) := by omega
  have h9 : (n : Int) < 1000000000000 := by omega
  have HI : Hid (Calls Tryd.prog 55 #[.int .i64 (n : Int), .int .i64 16] w fun e w' => e = .returned (.string ⟨(hxN n).toArray⟩) ∧ Below w.heap.size w w') := by
    clear ht hn
    show Calls _ _ _ _ _
    go_enter Tryd.func55, Tryd.ntmps55
    go_wp2_with fail
    refine Calls.mono K.out ?_
    rintro e w1 ⟨rfl, hb⟩
    have HB := (show Hid _ from hb)
    clear hb K
    go_wp2
    go_ret
    exact ⟨rfl, HB.out⟩
  clear ht hn K
  go_enter Tryd.func31, Tryd.ntmps31
  go_wp2_with fail
  refine Calls.mono HI.out ?_
  rintro e w1 ⟨rfl, hb⟩
  have HB := (show Hid _ from hb)
  clear hb HI
  go_wp2
  go_ret
  exact ⟨rfl, HB.out⟩
end Go.Proofs.YtgpjjlkkfddjnaaDoor

/-
  The statements' own Sector by its contract.
-/
import Derived.Test.YtpmjkgpmidejoaaLeaf
namespace Go.Proofs.Ytpmjkgpmidejoaa
open Go.RowKit

/-- The bytes of a sector by two numbers. -/
def secB (a b : Int) (i : Nat) : UInt8 := UInt8.ofNat (wrap64 (wrap64 (a * (i : Int)) + b) % 256).toNat
def sec (a b : Int) : List UInt8 := (List.range 256).map (secB a b)
theorem sec_length (a b : Int) : (sec a b).length = 256 := by simp [sec]
theorem u8_wrap (x : Int) : ((UInt8.ofNat (x % 256).toNat).toNat : Int) = x % 256 := by
  rw [UInt8.toNat_ofNat']
  omega
def secTo (a b : Int) (k : Nat) : List UInt8 := (sec a b).take k ++ List.replicate (256 - k) 0
theorem secTo_length (a b : Int) {k : Nat} (h : k ≤ 256) : (secTo a b k).length = 256 := by simp [secTo, sec_length]; omega
theorem secTo_set (a b : Int) {k : Nat} (h : k < 256) : (secTo a b k).set k (secB a b k) = secTo a b (k + 1) := by
  have hl := sec_length a b
  rw [secTo, secTo, List.set_append_right _ _ (by simp; omega), List.length_take, Nat.min_eq_left (by omega), Nat.sub_self]
  rw [show 256 - k = (256 - (k + 1)) + 1 from by omega, List.replicate_succ, List.set_cons_zero, List.take_succ_eq_append_getElem (by omega)]
  simp [sec]
theorem bcs_set (l : List UInt8) (k : Nat) (c : UInt8) : bcs (l.set k c) = (bcs l).set k (.int .u8 (c.toNat : Int)) := by simp [bcs, List.map_set]
theorem secTo_zero (a b : Int) : secTo a b 0 = List.replicate 256 0 := by rw [secTo, List.take_zero, List.nil_append]
theorem secTo_full (a b : Int) : secTo a b 256 = sec a b := by
  rw [secTo, List.take_of_length_le (by rw [sec_length]; exact Nat.le_refl _)]
  simp
theorem made_bytes (n : Nat) : (madeCells (Value.int .u8 0).cells (n * 1)).toList = bcs (List.replicate n 0) := by
  apply List.ext_getElem?
  intro i
  simp only [madeCells, bcs, Value.cells, Nat.mul_one, List.map_replicate]
  rcases Nat.lt_or_ge i n with h | h
  · simp [h, Nat.mod_one]
  · simp [h]

set_option maxHeartbeats 1000000 in
theorem sector_any (a b : Int) (w : World) :
    Calls Try.prog 22 #[.int .i64 a, .int .i64 b] w fun e w' => e = .returned (.slice (some ⟨w.heap.size, 0, none⟩) 256 256) ∧ w'.ownsRow w.heap.size 5 1 (.slice (some ⟨w.heap.size, 0, none⟩) 256 256) 256 (bcs (sec a b)) ∧ Below w.heap.size w w' := by
  obtain ⟨i0, hi, hz0, hz1, hz2⟩ := info_parts info5
  have hm : i0.bytes * 256 ≤ 281474976710656 := by rw [hz2]; omega
  go_enter Try.func22, Try.ntmps22
  go_wp2_with (at_make; refine wpList_make_full _ rfl _ _ 38 rfl w.heap.size 5 i0 (.int .u8 0) 1 Try.underlying38 hi hz0 hz1 _ _ _ _ 256 rfl rfl (by omega) (by omega) hm (by unfold maxLen; omega) (Nat.le_refl _) ?_; intro w0 hown0 hgrow0; rw [made_bytes] at hown0)
  go_loopw [6] (fun i wr => ∃ k : Nat, k ≤ 256 ∧ i = .int .i64 k ∧ wr.ownsRow w.heap.size 5 1 (.slice (some ⟨w.heap.size, 0, none⟩) 256 256) 256 (bcs (secTo a b k)) ∧ Below w.heap.size w wr)
    (fun i _ => 256 - (intOf i).toNat)
  case atStart => exact ⟨0, by omega, rfl, by rw [secTo_zero]; exact hown0, (Below.refl _ _).grown hgrow0 (Nat.le_refl _) (by simp)⟩
  case round =>
    obtain ⟨k, hk, rfl, ho, hb⟩ := hrel
    clear hown0 hgrow0
    by_cases hlt : k < 256
    · have hc := owns_cell ho (bcs_get (by rw [secTo_length a b hk]; exact hlt : k < (secTo a b k).length))
      have hf := owns_frozen ho k
      have hki : (k : Int) < 256 := by omega
      have HO := (show Hid (wr.ownsRow w.heap.size 5 1 (.slice (some ⟨w.heap.size, 0, none⟩) 256 256) 256 (bcs (secTo a b k)) ∧ Below w.heap.size w wr) from ⟨ho, hb⟩)
      have hset := secTo_set a b hlt
      have HS := (show Hid _ from hset)
      clear ho hb hset
      go_wp2
      go_roundw
      case rel =>
        refine ⟨k + 1, by omega, by go_num, ?_, ?_⟩
        · have := owns_set HO.out.1 k (.int .u8 ((secB a b k).toNat : Int))
          rw [← bcs_set, HS.out] at this
          rw [secB, u8_wrap] at this
          exact this
        · exact HO.out.2.setCell (Nat.le_refl _) _
      case measure => simp [intOf]; omega
    · obtain rfl : k = 256 := by omega
      have HO := (show Hid _ from ho)
      clear ho
      go_wp2
      go_ret
      rw [secTo_full] at HO
      exact ⟨rfl, HO.out, hb⟩
end Go.Proofs.Ytpmjkgpmidejoaa

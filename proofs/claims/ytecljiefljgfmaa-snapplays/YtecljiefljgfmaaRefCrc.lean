/-
  The document's CRC by its contract.
-/
import Derived.Test.YtecljiefljgfmaaBurst
namespace Go.Proofs.Ytecljiefljgfmaa
open Go.RowKit

theorem W_low1 {x : Wd} (h : x.getLsbD 0 = true) : bits .and .u32 (W x) 1 = 1 := by
  have e : x &&& 1 = 1 := by
    have := and1_mul x 1
    rw [h, if_pos rfl] at this
    simpa using this
  rw [W_and1, e]
  rfl
theorem W_low0 {x : Wd} (h : x.getLsbD 0 = false) : bits .and .u32 (W x) 1 = 0 := by
  have e : x &&& 1 = 0 := by
    have := and1_mul x 1
    rw [h, if_neg (by decide)] at this
    simpa using this
  rw [W_and1, e]
  rfl
theorem crcByte_eq (c : Wd) (b : UInt8) : crcByte c b = crcBits 8 (c ^^^ bw b) := by rw [crcByte, nib_eq, nib_eq, ← crcBits_add]

set_option maxHeartbeats 1000000 in
theorem refCrc_any (a : Option Addr) (l : List UInt8) (cap : Nat) (w : World) (hl : l.length ≤ 140737488351232) (hb : Bytes w a l) :
    Calls Try.prog 86 #[.slice a l.length cap] w fun e w' => e = .returned (.int .u32 (W (crcL l))) ∧ w = w' := by
  go_enter Try.func86, Try.ntmps86
  go_wp2
  go_loop [3, 4] (fun c i => ∃ k : Nat, k ≤ l.length ∧ i = .int .i64 k ∧ c = .int .u32 (W ((l.take k).foldl crcByte 0xFFFFFFFF))) (fun _ i => l.length - (intOf i).toNat)
  case atStart => exact ⟨0, Nat.zero_le _, rfl, by rw [List.take_zero, List.foldl_nil, ← all1]⟩
  case round =>
    obtain ⟨k, hk, rfl, rfl⟩ := hrel
    generalize hC : (l.take k).foldl crcByte 0xFFFFFFFF = c
    have HC : Hid ((l.take k).foldl crcByte 0xFFFFFFFF = c) := hC
    clear hC
    by_cases hlt : k < l.length
    · obtain ⟨b, off, rfl, hbl, hcs⟩ := hb.at hlt
      have hcell := hcs k hlt
      clear hcs hb
      have hc255 : (l[k].toNat : Int) ≤ 255 := by have := l[k].toNat_lt; omega
      generalize hB : l[k] = bb at *
      have HB : Hid (l[k] = bb) := hB
      clear hB
      have q1 := W_xorb c bb
      generalize hX : c ^^^ bw bb = x at *
      have HX : Hid (c ^^^ bw bb = x) := hX
      clear hX
      go_wp2
      go_loop [3, 5] (fun c j => ∃ m : Nat, m ≤ 8 ∧ j = .int .i64 m ∧ c = .int .u32 (W (crcBits m x))) (fun _ j => 8 - (intOf j).toNat)
      case atStart => exact ⟨0, by omega, rfl, rfl⟩
      case round =>
        obtain ⟨m, hm, rfl, rfl⟩ := hrel
        generalize hY : crcBits m x = y
        have HY : Hid (crcBits (m + 1) x = crcBit y) := by
          show _ = _
          rw [crcBits, hY]
        have HYE : Hid (crcBits m x = y) := hY
        clear hY
        by_cases hml : m < 8
        · cases h0 : y.getLsbD 0 with
          | true =>
            have hl1 := W_low1 h0
            have HE : Hid (crcBit y = y >>> 1 ^^^ poly) := by
              show _ = _
              rw [crcBit_eq, h0, if_pos rfl]
            clear h0
            go_wp2
            go_round
            case rel =>
              refine ⟨m + 1, by omega, by go_num, ?_⟩
              rw [HY.out, HE.out, W_poly, W_shr1, W_xor]
            case measure => simp [intOf]; omega
          | false =>
            have hl0 := W_low0 h0
            have HE : Hid (crcBit y = y >>> 1) := by
              show _ = _
              rw [crcBit_eq, h0, if_neg (by decide)]
              exact xor_nought _
            clear h0
            go_wp2
            go_round
            case rel =>
              refine ⟨m + 1, by omega, by go_num, ?_⟩
              rw [HY.out, HE.out, W_shr1]
            case measure => simp [intOf]; omega
        · obtain rfl : m = 8 := by omega
          go_wp2
          go_round
          case rel =>
            refine ⟨k + 1, by omega, by go_num, ?_⟩
            rw [List.take_succ_eq_append_getElem hlt, List.foldl_append, HC.out, List.foldl_cons, List.foldl_nil, HB.out, crcByte_eq, HX.out, HYE.out]
          case measure => simp [intOf]; omega
    · obtain rfl : k = l.length := by omega
      rw [List.take_length] at HC
      go_wp2
      go_ret
      exact ⟨ret_int (by rw [W_not, crcL, HC.out]), rfl⟩
end Go.Proofs.Ytecljiefljgfmaa

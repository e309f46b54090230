/-
  The document's 'at' and Base64 by their contracts.
-/
import Derived.Test.YtbbjkdnebgeioaaB64
namespace Go.Proofs.Ytbbjkdnebgeioaa
open Go.RowKit

def atv (l : List UInt8) (i : Nat) : Int := N (l.getD i 0)
theorem atv_bd (l : List UInt8) (i : Nat) : 0 ≤ atv l i ∧ atv l i ≤ 255 := N_bd _
theorem at_any (a : Option Addr) (l : List UInt8) (cap : Nat) (i : Nat) (w : World) (_hr : l.length ≤ 140737488351232) (_hi : i ≤ 140737488351242) (hb : Bytes w a l) :
    Calls Try.prog 34 #[.slice a l.length cap, .int .i64 (i : Int)] w fun e w' => e = .returned (.int .i64 (atv l i)) ∧ w = w' := by
  by_cases hlt : i < l.length
  · obtain ⟨b, off, rfl, hbl, hcs⟩ := hb.at hlt
    have hcell : w.cell? ⟨b, off + i, none⟩ = some (.int .u8 (l[i].toNat : Int)) := hcs i hlt
    have hc255 : (l[i].toNat : Int) ≤ 255 := by have := l[i].toNat_lt; omega
    have HV : Hid (atv l i = (l[i].toNat : Int)) := by
      show _ = _
      rw [atv, List.getD, List.getElem?_eq_getElem hlt]
      rfl
    clear hcs
    go_enter Try.func34, Try.ntmps34
    go_wp2
    go_ret
    exact ⟨ret_int HV.out.symm, rfl⟩
  · have HV : Hid (atv l i = 0) := by
      show _ = _
      rw [atv, List.getD, List.getElem?_eq_none (by omega)]
      rfl
    go_enter Try.func34, Try.ntmps34
    go_wp2
    go_ret
    exact ⟨ret_int HV.out.symm, rfl⟩

def letText : ByteArray := ⟨#[65, 66, 67, 68, 69, 70, 71, 72, 73, 74, 75, 76, 77, 78, 79, 80, 81, 82, 83, 84, 85, 86, 87, 88, 89, 90, 97, 98, 99, 100, 101, 102, 103, 104, 105, 106, 107, 108, 109, 110, 111, 112, 113, 114, 115, 116, 117, 118, 119, 120, 121, 122, 48, 49, 50, 51, 52, 53, 54, 55, 56, 57, 43, 47]⟩
theorem let_table : ∀ q : Nat, q < 64 → (letText.extract q (q + 1)).data = #[sdB q] := by decide +kernel
theorem let_at {q : Nat} (h : q < 64) : letText.extract q (q + 1) = ⟨#[sdB q]⟩ := congrArg ByteArray.mk (let_table q h)

/-- The k-th character of the group that begins at p. -/
def chr (l : List UInt8) (p k : Nat) : UInt8 :=
  if l.length < p + k then 61 else sdB ((atv l p * 65536 + atv l (p + 1) * 256 + atv l (p + 2)) / 2 ^ (18 - 6 * k) % 64)
def grp (l : List UInt8) (p k : Nat) : List UInt8 := (List.range k).map (chr l p)
theorem grp_length (l : List UInt8) (p k : Nat) : (grp l p k).length = k := by simp [grp]
theorem grp_succ (l : List UInt8) (p k : Nat) : grp l p (k + 1) = grp l p k ++ [chr l p k] := by simp [grp, List.range_succ]
theorem atv_drop (l : List UInt8) (p j : Nat) : atv l (p + j) = N ((l.drop p).getD j 0) := by simp [atv, List.getD]

theorem grp_b64 (l : List UInt8) (p : Nat) (h : p < l.length) : grp l p 4 ++ b64 (l.drop (p + 3)) = b64 (l.drop p) := by
  have a0 : atv l p = N ((l.drop p).getD 0 0) := atv_drop l p 0
  have a1 := atv_drop l p 1
  have a2 := atv_drop l p 2
  have hl : (l.drop p).length = l.length - p := by simp
  have hd : l.drop (p + 3) = (l.drop p).drop 3 := by rw [List.drop_drop]
  rw [hd]
  have e4 : grp l p 4 = [chr l p 0, chr l p 1, chr l p 2, chr l p 3] := rfl
  rw [e4]
  have c0 : chr l p 0 = sdB (atv l p / 4) := by
    have h0 := atv_bd l p
    have h1 := atv_bd l (p + 1)
    have h2 := atv_bd l (p + 2)
    rw [chr, if_neg (by omega)]
    congr 1
    simp only [Nat.mul_zero, Nat.sub_zero]
    omega
  have c1 : chr l p 1 = sdB (atv l p % 4 * 16 + atv l (p + 1) / 16) := by
    have h0 := atv_bd l p
    have h1 := atv_bd l (p + 1)
    have h2 := atv_bd l (p + 2)
    rw [chr, if_neg (by omega)]
    congr 1
    simp only [Nat.mul_one, Nat.reduceSub]
    omega
  have c2 : ¬ l.length < p + 2 → chr l p 2 = sdB (atv l (p + 1) % 16 * 4 + atv l (p + 2) / 64) := fun hh => by
    have h0 := atv_bd l p
    have h1 := atv_bd l (p + 1)
    have h2 := atv_bd l (p + 2)
    rw [chr, if_neg hh]
    congr 1
    simp only [Nat.reduceMul, Nat.reduceSub]
    omega
  have c3 : ¬ l.length < p + 3 → chr l p 3 = sdB (atv l (p + 2) % 64) := fun hh => by
    have h0 := atv_bd l p
    have h1 := atv_bd l (p + 1)
    have h2 := atv_bd l (p + 2)
    rw [chr, if_neg hh]
    congr 1
    simp only [Nat.reduceMul, Nat.reduceSub]
    omega
  have d2 : l.length < p + 2 → chr l p 2 = 61 := fun hh => by rw [chr, if_pos hh]
  have d3 : l.length < p + 3 → chr l p 3 = 61 := fun hh => by rw [chr, if_pos hh]
  match hr : l.drop p, hl with
  | [], hl => simp at hl; omega
  | [x], hl =>
    rw [hr] at a0 a1 a2
    simp only [List.length_cons, List.length_nil] at hl
    rw [c0, c1, d2 (by omega), d3 (by omega), a0, a1]
    have hz : N (([x] : List UInt8).getD 1 0) / 16 = 0 := by show N 0 / 16 = 0; decide
    rw [hz, Int.add_zero]
    rfl
  | [x, y], hl =>
    rw [hr] at a0 a1 a2
    simp only [List.length_cons, List.length_nil] at hl
    rw [c0, c1, c2 (by omega), d3 (by omega), a0, a1, a2]
    have hz : N (([x, y] : List UInt8).getD 2 0) / 64 = 0 := by show N 0 / 64 = 0; decide
    rw [hz, Int.add_zero]
    rfl
  | x :: y :: z :: r, hl =>
    rw [hr] at a0 a1 a2
    simp only [List.length_cons] at hl
    rw [c0, c1, c2 (by omega), c3 (by omega), a0, a1, a2]
    rfl

set_option maxHeartbeats 4000000 in
theorem refBase64_any (a : Option Addr) (l : List UInt8) (cap : Nat) (w : World) (hr : l.length ≤ 140737488351232) (hb : Bytes w a l) :
    Calls Try.prog 16 #[.slice a l.length cap] w fun e w' => e = .returned (.string ⟨(b64 l).toArray⟩) ∧ w = w' := by
  go_enter Try.func16, Try.ntmps16
  go_wp2
  go_loop [3, 4] (fun s i => ∃ (p : Nat) (acc : List UInt8), p ≤ l.length + 2 ∧ i = .int .i64 p ∧ s = .string ⟨acc.toArray⟩ ∧ acc.length ≤ 2 * p ∧ acc ++ b64 (l.drop p) = b64 l)
    (fun _ i => l.length + 3 - (intOf i).toNat)
  case atStart => exact ⟨0, [], by omega, rfl, rfl, by simp, rfl⟩
  case round =>
    obtain ⟨p, acc, hp, rfl, rfl, hal, hacc⟩ := hrel
    have HA : Hid (acc ++ b64 (l.drop p) = b64 l) := hacc
    clear hacc
    by_cases hlt : p < l.length
    · have x0 := atv_bd l p
      have x1 := atv_bd l (p + 1)
      have x2 := atv_bd l (p + 2)
      have C1 : Hid (∀ wx, Bytes wx a l → Calls Try.prog 34 #[.slice a l.length cap, .int .i64 ((p : Int) + 1)] wx fun e w' => e = .returned (.int .i64 (atv l (p + 1))) ∧ wx = w') := fun wx h => at_any a l cap (p + 1) wx hr (by omega) h
      have C2 : Hid (∀ wx, Bytes wx a l → Calls Try.prog 34 #[.slice a l.length cap, .int .i64 ((p : Int) + 2)] wx fun e w' => e = .returned (.int .i64 (atv l (p + 2))) ∧ wx = w') := fun wx h => at_any a l cap (p + 2) wx hr (by omega) h
      go_wp2_with fail
      refine (at_any a l cap p _ hr (by omega) hb).mono ?_
      rintro e w' ⟨rfl, rfl⟩
      go_wp2_with fail
      refine (C1.out _ hb).mono ?_
      rintro e w' ⟨rfl, rfl⟩
      go_wp2_with fail
      refine (C2.out _ hb).mono ?_
      rintro e w' ⟨rfl, rfl⟩
      go_wp2_with fail
      obtain ⟨n, hn⟩ : ∃ n : Int, n = atv l p * 65536 + atv l (p + 1) * 256 + atv l (p + 2) := ⟨_, rfl⟩
      have HNN : Hid (n = atv l p * 65536 + atv l (p + 1) * 256 + atv l (p + 2)) := hn
      have hn0 : 0 ≤ n := by omega
      have hn1 : n < 16777216 := by omega
      rw [← HNN.out]
      clear hn x0 x1 x2 C1 C2
      go_loop [3, 6] (fun s i => ∃ (k : Nat) (B : List UInt8), k ≤ 4 ∧ i = .int .i64 k ∧ s = .string ⟨B.toArray⟩ ∧ B.length ≤ 2 * p + k ∧ B = acc ++ grp l p k)
        (fun _ i => 4 - (intOf i).toNat)
      case atStart => exact ⟨0, acc, by omega, rfl, rfl, by omega, by simp [grp]⟩
      case round =>
        obtain ⟨k, B, hk, rfl, rfl, hBl, hB⟩ := hrel
        have HB : Hid (B = acc ++ grp l p k) := hB
        clear hB
        have hs1 : ∀ (x : UInt8) (wx : World), (Op.stringOp .add ⟨B.toArray⟩ ⟨#[x]⟩).run Try.prog wx = .ok (.string ⟨(B ++ [x]).toArray⟩) wx := fun x wx => by
          rw [run_string_add_sum wx _ _ (by simp [ByteArray.size]; omega)]
          exact congrArg (fun z => Result.ok (Value.string z) wx) (ByteArray.mk_append_mk _ [x])
        have h5 : k = 0 ∨ k = 1 ∨ k = 2 ∨ k = 3 ∨ k = 4 := by omega
        rcases h5 with rfl | rfl | rfl | rfl | rfl
        · by_cases hlong : l.length < p + 0
          · exact absurd hlong (by omega)
          · have hq1 : p + 0 ≤ l.length := by omega
            obtain ⟨q, hq⟩ : ∃ q : Nat, n / 262144 % 64 = (q : Int) := ⟨(n / 262144 % 64).toNat, by omega⟩
            have hq64 : q < 64 := by omega
            have hlt64 : ((q : Int)) < 64 := by omega
            have hlet : (⟨#[65, 66, 67, 68, 69, 70, 71, 72, 73, 74, 75, 76, 77, 78, 79, 80, 81, 82, 83, 84, 85, 86, 87, 88, 89, 90, 97, 98, 99, 100, 101, 102, 103, 104, 105, 106, 107, 108, 109, 110, 111, 112, 113, 114, 115, 116, 117, 118, 119, 120, 121, 122, 48, 49, 50, 51, 52, 53, 54, 55, 56, 57, 43, 47]⟩ : ByteArray).extract q (q + 1) = ⟨#[sdB q]⟩ := let_at hq64
            have HC : Hid (chr l p 0 = sdB q) := by
              show _ = _
              rw [chr, if_neg (by omega), ← HNN.out]
              exact congrArg sdB hq
            go_wp2
            go_round
            case rel => exact ⟨1, _, by omega, rfl, rfl, by simp; omega, by rw [HB.out, List.append_assoc, ← HC.out]; exact congrArg (acc ++ ·) (grp_succ l p 0).symm⟩
            case measure => simp [intOf]
        · by_cases hlong : l.length < p + 1
          · exact absurd hlong (by omega)
          · have hq1 : p + 1 ≤ l.length := by omega
            obtain ⟨q, hq⟩ : ∃ q : Nat, n / 4096 % 64 = (q : Int) := ⟨(n / 4096 % 64).toNat, by omega⟩
            have hq64 : q < 64 := by omega
            have hlt64 : ((q : Int)) < 64 := by omega
            have hlet : (⟨#[65, 66, 67, 68, 69, 70, 71, 72, 73, 74, 75, 76, 77, 78, 79, 80, 81, 82, 83, 84, 85, 86, 87, 88, 89, 90, 97, 98, 99, 100, 101, 102, 103, 104, 105, 106, 107, 108, 109, 110, 111, 112, 113, 114, 115, 116, 117, 118, 119, 120, 121, 122, 48, 49, 50, 51, 52, 53, 54, 55, 56, 57, 43, 47]⟩ : ByteArray).extract q (q + 1) = ⟨#[sdB q]⟩ := let_at hq64
            have HC : Hid (chr l p 1 = sdB q) := by
              show _ = _
              rw [chr, if_neg (by omega), ← HNN.out]
              exact congrArg sdB hq
            go_wp2
            go_round
            case rel => exact ⟨2, _, by omega, rfl, rfl, by simp; omega, by rw [HB.out, List.append_assoc, ← HC.out]; exact congrArg (acc ++ ·) (grp_succ l p 1).symm⟩
            case measure => simp [intOf]
        · by_cases hlong : l.length < p + 2
          · have HC : Hid (chr l p 2 = 61) := by
              show _ = _
              rw [chr, if_pos hlong]
            go_wp2
            go_round
            case rel => exact ⟨3, _, by omega, rfl, rfl, by simp; omega, by rw [HB.out, List.append_assoc, ← HC.out]; exact congrArg (acc ++ ·) (grp_succ l p 2).symm⟩
            case measure => simp [intOf]
          · have hq1 : p + 2 ≤ l.length := by omega
            obtain ⟨q, hq⟩ : ∃ q : Nat, n / 64 % 64 = (q : Int) := ⟨(n / 64 % 64).toNat, by omega⟩
            have hq64 : q < 64 := by omega
            have hlt64 : ((q : Int)) < 64 := by omega
            have hlet : (⟨#[65, 66, 67, 68, 69, 70, 71, 72, 73, 74, 75, 76, 77, 78, 79, 80, 81, 82, 83, 84, 85, 86, 87, 88, 89, 90, 97, 98, 99, 100, 101, 102, 103, 104, 105, 106, 107, 108, 109, 110, 111, 112, 113, 114, 115, 116, 117, 118, 119, 120, 121, 122, 48, 49, 50, 51, 52, 53, 54, 55, 56, 57, 43, 47]⟩ : ByteArray).extract q (q + 1) = ⟨#[sdB q]⟩ := let_at hq64
            have HC : Hid (chr l p 2 = sdB q) := by
              show _ = _
              rw [chr, if_neg (by omega), ← HNN.out]
              exact congrArg sdB hq
            go_wp2
            go_round
            case rel => exact ⟨3, _, by omega, rfl, rfl, by simp; omega, by rw [HB.out, List.append_assoc, ← HC.out]; exact congrArg (acc ++ ·) (grp_succ l p 2).symm⟩
            case measure => simp [intOf]
        · by_cases hlong : l.length < p + 3
          · have HC : Hid (chr l p 3 = 61) := by
              show _ = _
              rw [chr, if_pos hlong]
            go_wp2
            go_round
            case rel => exact ⟨4, _, by omega, rfl, rfl, by simp; omega, by rw [HB.out, List.append_assoc, ← HC.out]; exact congrArg (acc ++ ·) (grp_succ l p 3).symm⟩
            case measure => simp [intOf]
          · have hq1 : p + 3 ≤ l.length := by omega
            obtain ⟨q, hq⟩ : ∃ q : Nat, n % 64 = (q : Int) := ⟨(n % 64).toNat, by omega⟩
            have hq64 : q < 64 := by omega
            have hlt64 : ((q : Int)) < 64 := by omega
            have hlet : (⟨#[65, 66, 67, 68, 69, 70, 71, 72, 73, 74, 75, 76, 77, 78, 79, 80, 81, 82, 83, 84, 85, 86, 87, 88, 89, 90, 97, 98, 99, 100, 101, 102, 103, 104, 105, 106, 107, 108, 109, 110, 111, 112, 113, 114, 115, 116, 117, 118, 119, 120, 121, 122, 48, 49, 50, 51, 52, 53, 54, 55, 56, 57, 43, 47]⟩ : ByteArray).extract q (q + 1) = ⟨#[sdB q]⟩ := let_at hq64
            have HC : Hid (chr l p 3 = sdB q) := by
              show _ = _
              rw [chr, if_neg (by omega), ← HNN.out]
              have e : n / 2 ^ (18 - 6 * 3) % 64 = (q : Int) := by simpa using hq
              exact congrArg sdB e
            go_wp2
            go_round
            case rel => exact ⟨4, _, by omega, rfl, rfl, by simp; omega, by rw [HB.out, List.append_assoc, ← HC.out]; exact congrArg (acc ++ ·) (grp_succ l p 3).symm⟩
            case measure => simp [intOf]
        · clear hs1
          go_wp2
          go_round
          case rel => exact ⟨p + 3, B, by omega, by go_num, rfl, by omega, by rw [HB.out, List.append_assoc, grp_b64 l p hlt, HA.out]⟩
          case measure => simp [intOf]; omega
    · have HZ : Hid (l.drop p = []) := List.drop_eq_nil_of_le (by omega)
      go_wp2
      go_ret
      exact ⟨ret_str (by rw [← HA.out, HZ.out, b64, List.append_nil]), rfl⟩
end Go.Proofs.Ytbbjkdnebgeioaa

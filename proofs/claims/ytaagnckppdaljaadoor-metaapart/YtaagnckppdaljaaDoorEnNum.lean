/-
  enc.appendNumber and enc.Put64 by their contracts.
-/
import Derived.Test.YtaagnckppdaljaaDoorEnUnhex
namespace Go.Proofs.YtaagnckppdaljaaDoor.En
open Go.RowKit

/-- The lowest k bytes of n, the highest first. -/
def be (n : Nat) : Nat → List UInt8
  | 0 => []
  | k + 1 => UInt8.ofNat (n / 2 ^ (8 * k)) :: be n k
theorem be_length (n : Nat) : ∀ k, (be n k).length = k
  | 0 => rfl
  | k + 1 => by simp [be, be_length n k]

theorem be_cell (n j : Nat) : bcs [UInt8.ofNat (n / 2 ^ (8 * j))] = [.int .u8 ((n : Int) / 2 ^ (8 * j) % 256)] := by
  simp only [bcs, List.map_cons, List.map_nil]
  rw [UInt8.toNat_ofNat']
  simp

set_option maxHeartbeats 800000 in
theorem appendNumber_any (base : Nat) (v : Value) (l : List UInt8) (n size : Nat) (w : World) (hown : Own w base v l) (hbase : base ≤ w.heap.size) (hs : size ≤ 8) (hlen : l.length + 8 ≤ 140737488355328) (_hn : n < 18446744073709551616) :
    Calls Tryd.prog 67 #[v, .int .u64 (n : Int), .int .i64 (size : Int)] w fun e w' => ∃ v', e = .returned v' ∧ Own w' base v' (l ++ be n size) ∧ Below base w w' := by
  obtain ⟨i0, hi, hz0, hz1, hz2⟩ := info_parts info5
  go_enter Tryd.func67, Tryd.ntmps67
  go_wp2
  go_loopw [0, 7] (fun u i wr => ∃ (k : Nat) (acc : List UInt8), k ≤ size ∧ i = .int .i64 ((k : Int) - 1) ∧ Own wr base u (l ++ acc) ∧ acc ++ be n k = be n size ∧ acc.length + k = size ∧ Below base w wr)
    (fun _ i _ => (intOf i + 1).toNat)
  case atStart => exact ⟨size, [], Nat.le_refl _, rfl, by simpa using hown, by simp, by simp, Below.refl _ _⟩
  case round =>
    obtain ⟨k, acc, hk, rfl, ho, hacc, hal, hnx⟩ := hrel
    have hsz := hnx.size
    have HA : Hid (acc ++ be n k = be n size) := hacc
    have HL : Hid (acc.length + k = size) := hal
    clear hacc hal
    by_cases hlt : 0 < k
    · obtain ⟨j, rfl⟩ : ∃ j, k = j + 1 := ⟨k - 1, by omega⟩
      have hol : Hid (wr.ownsRow base 5 1 u0 (l ++ acc).length (bcs (l ++ acc))) := ho
      have hal : acc.length ≤ 7 := by have := HL.out; omega
      go_wp2_with (at_builtin; refine wpList_append_own _ rfl (.tmp 14) (.tmp 20) 45 rfl base 5 i0 (.int .u8 0) 1 1 Tryd.underlying45 hi hz0 hz1 hz2 rfl (by decide) _ _ _ rfl (hol.out.alloc _) ⟨wr.heap.size, 0, none⟩ 1 1 [.int .u8 ((n : Int) / 2 ^ (8 * j) % 256)] rfl rfl ?c1 ?c2 ?c3 ?c4 ?c5 ?_)
      case c1 => exact cell_one_new _ _ _
      case c2 => exact one_one _ rfl
      case c3 => simp only [List.length_append]; unfold maxLen; omega
      case c4 => simp only [List.length_append]; omega
      case c5 => simp; omega
      intro v' w1 hown1 hgrow1 _
      have R : Own w1 base v' (l ++ (acc ++ [UInt8.ofNat (n / 2 ^ (8 * j))])) := by
        have e : (l ++ (acc ++ [UInt8.ofNat (n / 2 ^ (8 * j))])).length = l.length + acc.length + 1 := by simp; omega
        unfold Own
        rw [e, ← List.append_assoc, bcs_append (l ++ acc), be_cell]
        exact hown1
      clear hown1
      go_wp2
      go_roundw
      case rel =>
        refine ⟨j, acc ++ [UInt8.ofNat (n / 2 ^ (8 * j))], by omega, by go_num, R, ?_, ?_, ?_⟩
        · rw [← HA.out, List.append_assoc, be]
          rfl
        · have := HL.out; simp; omega
        · exact (hnx.alloc (by omega) _).grown hgrow1 (by simp; omega) (fun j hj => (hol.out.lt j hj).1)
      case measure => simp [intOf]
    · have hk0 : k = 0 := by omega
      subst hk0
      have R : Own wr base u0 (l ++ be n size) := by
        have := HA.out
        rw [be, List.append_nil] at this
        rw [← this]
        exact ho
      clear ho
      go_wp2
      go_ret
      exact ⟨_, rfl, R, hnx⟩

set_option maxHeartbeats 400000 in
theorem put64_any (n : Nat) (w : World) (hn : n < 18446744073709551616) :
    Calls Tryd.prog 46 #[.int .u64 (n : Int)] w fun e w' => ∃ v', e = .returned v' ∧ Own w' w.heap.size v' (be n 8) ∧ Below w.heap.size w w' := by
  obtain ⟨i0, hi, hz0, hz1, hz2⟩ := info_parts info5
  go_enter Tryd.func46, Tryd.ntmps46
  go_wp2_with (first
    | (at_make; refine wpList_make_own _ rfl _ _ 45 rfl w.heap.size 5 i0 (.int .u8 0) 1 Tryd.underlying45 hi hz0 hz1 _ _ _ 8 rfl rfl (by omega) (by rw [hz2]; omega) (by unfold maxLen; omega) (Nat.le_refl _) ?_; intro w0 hown0 hgrow0)
    | (go_at_call 67; refine (appendNumber_any w.heap.size _ [] n 8 _ hown0 (by have := hgrow0.size; omega) (by omega) (by decide) hn).mono ?_; rintro e w1 ⟨v', rfl, ho, hb⟩))
  go_ret
  exact ⟨_, rfl, ho, ((Below.refl _ _).grown hgrow0 (Nat.le_refl _) (by simp)).trans hb⟩
end Go.Proofs.YtaagnckppdaljaaDoor.En

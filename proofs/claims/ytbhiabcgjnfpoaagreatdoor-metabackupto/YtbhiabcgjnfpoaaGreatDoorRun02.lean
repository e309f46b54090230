/-
  enc.appendNumber and enc.Put64 by their contracts.
-/
import Derived.Test.YtbhiabcgjnfpoaaGreatDoorRun01
import Derived.Laws.Bits64b
namespace Go.Proofs.YtbhiabcgjnfpoaaGreatDoor.En
open Go.RowKit

/-- The lowest k bytes of n, the highest first. -/
def be (n : Nat) : Nat → List UInt8
  | 0 => []
  | k + 1 => UInt8.ofNat (n / 2 ^ (8 * k)) :: be n k
theorem be_length (n : Nat) : ∀ k, (be n k).length = k
  | 0 => rfl
  | k + 1 => by simp [be, be_length n k]

theorem be_cell (n j : Nat) : bcs [UInt8.ofNat (n / 2 ^ (8 * j))] = [.int .u8 ((n : Int) / 2 ^ (8 * j) % 256)] := by
  simp only [bcs, List.map_cons, List.map_nil]
  rw [UInt8.toNat_ofNat']
  simp

set_option maxHeartbeats 800000 in
theorem appendNumber_any (base : Nat) (v : Value) (l : List UInt8) (n size : Nat) (w : World) (hown : Own w base v l) (hbase : base ≤ w.heap.size) (hs : size ≤ 8) (hlen : l.length + 8 ≤ 140737488355328) (_hn : n < 18446744073709551616) :
    Calls Tryz.prog 116 #[v, .int .u64 (n : Int), .int .i64 (size : Int)] w fun e w' => ∃ v', e = .returned v' ∧ Own w' base v' (l ++ be n size) ∧ Below base w w' := by
  obtain ⟨i0, hi, hz0, hz1, hz2⟩ := info_parts info5
  go_enter Tryz.func116, Tryz.ntmps116
  go_wp2
  go_loopw [0, 7] (fun u i wr => ∃ (k : Nat) (acc : List UInt8), k ≤ size ∧ i = .int .i64 ((k : Int) - 1) ∧ Own wr base u (l ++ acc) ∧ acc ++ be n k = be n size ∧ acc.length + k = size ∧ Below base w wr)
    (fun _ i _ => (intOf i + 1).toNat)
  case atStart => exact ⟨size, [], Nat.le_refl _, rfl, by simpa using hown, by simp, by simp, Below.refl _ _⟩
  case round =>
    obtain ⟨k, acc, hk, rfl, ho, hacc, hal, hnx⟩ := hrel
    have hsz := hnx.size
    have HA : Hid (acc ++ be n k = be n size) := hacc
    have HL : Hid (acc.length + k = size) := hal
    clear hacc hal
    by_cases hlt : 0 < k
    · obtain ⟨j, rfl⟩ : ∃ j, k = j + 1 := ⟨k - 1, by omega⟩
      have hol : Hid (wr.ownsRow base 5 1 u0 (l ++ acc).length (bcs (l ++ acc))) := ho
      have hal : acc.length ≤ 7 := by have := HL.out; omega
      go_wp2_with (at_builtin; refine wpList_append_own _ rfl (.tmp 14) (.tmp 20) 76 rfl base 5 i0 (.int .u8 0) 1 1 Tryz.underlying76 hi hz0 hz1 hz2 rfl (by decide) _ _ _ rfl (hol.out.alloc _) ⟨wr.heap.size, 0, none⟩ 1 1 [.int .u8 ((n : Int) / 2 ^ (8 * j) % 256)] rfl rfl ?c1 ?c2 ?c3 ?c4 ?c5 ?_)
      case c1 => exact cell_one_new _ _ _
      case c2 => exact one_one _ rfl
      case c3 => simp only [List.length_append]; unfold maxLen; omega
      case c4 => simp only [List.length_append]; omega
      case c5 => simp; omega
      intro v' w1 hown1 hgrow1 _
      have R : Own w1 base v' (l ++ (acc ++ [UInt8.ofNat (n / 2 ^ (8 * j))])) := by
        have e : (l ++ (acc ++ [UInt8.ofNat (n / 2 ^ (8 * j))])).length = l.length + acc.length + 1 := by simp; omega
        unfold Own
        rw [e, ← List.append_assoc, bcs_append (l ++ acc), be_cell]
        exact hown1
      clear hown1
      go_wp2
      go_roundw
      case rel =>
        refine ⟨j, acc ++ [UInt8.ofNat (n / 2 ^ (8 * j))], by omega, by go_num, R, ?_, ?_, ?_⟩
        · rw [← HA.out, List.append_assoc, be]
          rfl
        · have := HL.out; simp; omega
        · exact (hnx.alloc (by omega) _).grown hgrow1 (by simp; omega) (fun j hj => (hol.out.lt j hj).1)
      case measure => simp [intOf]
    · have hk0 : k = 0 := by omega
      subst hk0
      have R : Own wr base u0 (l ++ be n size) := by
        have := HA.out
        rw [be, List.append_nil] at this
        rw [← this]
        exact ho
      clear ho
      go_wp2
      go_ret
      exact ⟨_, rfl, R, hnx⟩

set_option maxHeartbeats 400000 in
theorem put64_any (n : Nat) (w : World) (hn : n < 18446744073709551616) :
    Calls Tryz.prog 109 #[.int .u64 (n : Int)] w fun e w' => ∃ v', e = .returned v' ∧ Own w' w.heap.size v' (be n 8) ∧ Below w.heap.size w w' := by
  obtain ⟨i0, hi, hz0, hz1, hz2⟩ := info_parts info5
  go_enter Tryz.func109, Tryz.ntmps109
  go_wp2_with (first
    | (at_make; refine wpList_make_own _ rfl _ _ 76 rfl w.heap.size 5 i0 (.int .u8 0) 1 Tryz.underlying76 hi hz0 hz1 _ _ _ 8 rfl rfl (by omega) (by rw [hz2]; omega) (by unfold maxLen; omega) (Nat.le_refl _) ?_; intro w0 hown0 hgrow0)
    | (go_at_call 116; refine (appendNumber_any w.heap.size _ [] n 8 _ hown0 (by have := hgrow0.size; omega) (by omega) (by decide) hn).mono ?_; rintro e w1 ⟨v', rfl, ho, hb⟩))
  go_ret
  exact ⟨_, rfl, ho, ((Below.refl _ _).grown hgrow0 (Nat.le_refl _) (by simp)).trans hb⟩
end Go.Proofs.YtbhiabcgjnfpoaaGreatDoor.En
/-
  enc.number, enc.Get64 and the document's Get64 by their contracts.
-/
namespace Go.Proofs.YtbhiabcgjnfpoaaGreatDoor.En
open Go.RowKit

/-- The number that the first k bytes tell, the highest first. -/
def vl (l : List UInt8) : Nat → Nat
  | 0 => 0
  | k + 1 => vl l k * 256 + (l.getD k 0).toNat
theorem vl_bd (l : List UInt8) : ∀ k, vl l k < 256 ^ k
  | 0 => by simp [vl]
  | k + 1 => by
    have h := vl_bd l k
    have c := (l.getD k 0).toNat_lt
    simp only [vl, Nat.pow_succ]
    omega
theorem pow256 : ∀ k : Nat, k < 8 → 256 ^ k ≤ 72057594037927936 := by decide +kernel
theorem vl_7 (l : List UInt8) {k : Nat} (h : k < 8) : vl l k < 72057594037927936 := Nat.lt_of_lt_of_le (vl_bd l k) (pow256 k h)
theorem getD_nat {l : List UInt8} {k : Nat} (h : k < l.length) : (l.getD k 0).toNat = l[k].toNat := by simp [List.getD, List.getElem?_eq_getElem h]
theorem or_byte (n c : Nat) (hn : n < 72057594037927936) (hc : c < 256) : bits .or .u64 ((n : Int) * 256) (c : Int) = ((n * 256 + c : Nat) : Int) := by
  have e : ((n : Int) * 256) = ((n * 256 : Nat) : Int) := by omega
  rw [e, bits_or_u64_nat _ _ (by omega) (by omega)]
  have h := Nat.shiftLeft_add_eq_or_of_lt (i := 8) (b := c) (by omega) n
  rw [Nat.shiftLeft_eq] at h
  rw [show n * 256 = n * 2 ^ 8 from rfl, ← h]

set_option maxHeartbeats 400000 in
theorem number_any (a : Option Addr) (l : List UInt8) (cap : Nat) (w : World) (h8 : l.length ≤ 8) (hb : Bytes w a l) :
    Calls Tryz.prog 119 #[.slice a l.length cap] w fun e w' => e = .returned (.int .u64 (vl l l.length : Nat)) ∧ w = w' := by
  go_enter Tryz.func119, Tryz.ntmps119
  go_wp2
  go_loop [3, 8] (fun n i => ∃ k : Nat, k ≤ l.length ∧ i = .int .i64 k ∧ n = .int .u64 (vl l k : Nat)) (fun _ i => l.length - (intOf i).toNat)
  case atStart => exact ⟨0, Nat.zero_le _, rfl, rfl⟩
  case round =>
    obtain ⟨k, hk, rfl, rfl⟩ := hrel
    by_cases hlt : k < l.length
    · obtain ⟨b, off, rfl, hbl, hcs⟩ := hb.at hlt
      have hcell : w.cell? ⟨b, off + k, none⟩ = some (.int .u8 (l[k].toNat : Int)) := hcs k hlt
      have hc255 : (l[k].toNat : Int) ≤ 255 := by have := l[k].toNat_lt; omega
      have hv := vl_7 l (k := k) (by omega)
      have HO : Hid (bits .or .u64 ((vl l k : Int) * 256) (l[k].toNat : Int) = ((vl l k * 256 + l[k].toNat : Nat) : Int)) := or_byte _ _ hv (by have := l[k].toNat_lt; omega)
      have HG := getD_nat hlt
      have HG' : Hid ((l.getD k 0).toNat = l[k].toNat) := HG
      clear HG hcs
      go_wp2
      go_round
      case rel => exact ⟨k + 1, by omega, by go_num, by rw [HO.out, vl, HG'.out]⟩
      case measure => simp [intOf]; omega
    · have hkl : k = l.length := by omega
      subst hkl
      go_wp2
      go_ret
      exact ⟨rfl, rfl⟩

def g64 (l : List UInt8) : Nat := if l.length = 8 then vl l 8 else 0
def g64Ok (l : List UInt8) : Bool := decide (l.length = 8)
theorem g64_yes {l : List UInt8} (h : l.length = 8) : g64 l = vl l 8 ∧ g64Ok l = true := ⟨if_pos h, decide_eq_true h⟩
theorem g64_no {l : List UInt8} (h : l.length ≠ 8) : g64 l = 0 ∧ g64Ok l = false := ⟨if_neg h, decide_eq_false h⟩

set_option maxHeartbeats 400000 in
theorem get64_any (a : Option Addr) (l : List UInt8) (cap : Nat) (w : World) (_hr : l.length ≤ 140737488351232) (hb : Bytes w a l) :
    Calls Tryz.prog 108 #[.slice a l.length cap] w fun e w' => e = .returned (.tuple #[.int .u64 (g64 l : Nat), .bool (g64Ok l)]) ∧ w = w' := by
  by_cases h : l.length = 8
  · have hz : ((l.length : Int) != 8) = false := by simp; omega
    have H : Hid (l.length = 8) := h
    have hn := fun wx (hb : Bytes wx a l) => number_any a l cap wx (by omega) hb
    have HN : Hid (∀ wx, Bytes wx a l → Calls Tryz.prog 119 #[.slice a l.length cap] wx fun e w' => e = .returned (.int .u64 (vl l l.length : Nat)) ∧ wx = w') := hn
    clear h hn
    go_enter Tryz.func108, Tryz.ntmps108
    go_wp2_with fail
    refine (HN.out _ hb).mono ?_
    rintro e w' ⟨rfl, rfl⟩
    go_wp2
    go_ret2
    exact ⟨ret_ib (by rw [(g64_yes H.out).1, H.out]) (g64_yes H.out).2.symm, rfl⟩
  · have hz : ((l.length : Int) != 8) = true := by simp; omega
    have H : Hid (l.length ≠ 8) := h
    clear h
    go_enter Tryz.func108, Tryz.ntmps108
    go_wp2
    go_ret2
    exact ⟨ret_ib (by rw [(g64_no H.out).1]; rfl) (g64_no H.out).2.symm, rfl⟩

end Go.Proofs.YtbhiabcgjnfpoaaGreatDoor.En

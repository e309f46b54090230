/-
  enc.number, enc.Get64 and the document's Get64 by their contracts.
-/
import Derived.Test.YtaagnckppdaljaaDoorEnNum
import Derived.Laws.Bits64b
namespace Go.Proofs.YtaagnckppdaljaaDoor.En
open Go.RowKit

/-- The number that the first k bytes tell, the highest first. -/
def vl (l : List UInt8) : Nat → Nat
  | 0 => 0
  | k + 1 => vl l k * 256 + (l.getD k 0).toNat
theorem vl_bd (l : List UInt8) : ∀ k, vl l k < 256 ^ k
  | 0 => by simp [vl]
  | k + 1 => by
    have h := vl_bd l k
    have c := (l.getD k 0).toNat_lt
    simp only [vl, Nat.pow_succ]
    omega
theorem pow256 : ∀ k : Nat, k < 8 → 256 ^ k ≤ 72057594037927936 := by decide +kernel
theorem vl_7 (l : List UInt8) {k : Nat} (h : k < 8) : vl l k < 72057594037927936 := Nat.lt_of_lt_of_le (vl_bd l k) (pow256 k h)
theorem getD_nat {l : List UInt8} {k : Nat} (h : k < l.length) : (l.getD k 0).toNat = l[k].toNat := by simp [List.getD, List.getElem?_eq_getElem h]
theorem or_byte (n c : Nat) (hn : n < 72057594037927936) (hc : c < 256) : bits .or .u64 ((n : Int) * 256) (c : Int) = ((n * 256 + c : Nat) : Int) := by
  have e : ((n : Int) * 256) = ((n * 256 : Nat) : Int) := by omega
  rw [e, bits_or_u64_nat _ _ (by omega) (by omega)]
  have h := Nat.shiftLeft_add_eq_or_of_lt (i := 8) (b := c) (by omega) n
  rw [Nat.shiftLeft_eq] at h
  rw [show n * 256 = n * 2 ^ 8 from rfl, ← h]

set_option maxHeartbeats 400000 in
theorem number_any (a : Option Addr) (l : List UInt8) (cap : Nat) (w : World) (h8 : l.length ≤ 8) (hb : Bytes w a l) :
    Calls Tryd.prog 78 #[.slice a l.length cap] w fun e w' => e = .returned (.int .u64 (vl l l.length : Nat)) ∧ w = w' := by
  go_enter Tryd.func78, Tryd.ntmps78
  go_wp2
  go_loop [3, 8] (fun n i => ∃ k : Nat, k ≤ l.length ∧ i = .int .i64 k ∧ n = .int .u64 (vl l k : Nat)) (fun _ i => l.length - (intOf i).toNat)
  case atStart => exact ⟨0, Nat.zero_le _, rfl, rfl⟩
  case round =>
    obtain ⟨k, hk, rfl, rfl⟩ := hrel
    by_cases hlt : k < l.length
    · obtain ⟨b, off, rfl, hbl, hcs⟩ := hb.at hlt
      have hcell : w.cell? ⟨b, off + k, none⟩ = some (.int .u8 (l[k].toNat : Int)) := hcs k hlt
      have hc255 : (l[k].toNat : Int) ≤ 255 := by have := l[k].toNat_lt; omega
      have hv := vl_7 l (k := k) (by omega)
      have HO : Hid (bits .or .u64 ((vl l k : Int) * 256) (l[k].toNat : Int) = ((vl l k * 256 + l[k].toNat : Nat) : Int)) := or_byte _ _ hv (by have := l[k].toNat_lt; omega)
      have HG := getD_nat hlt
      have HG' : Hid ((l.getD k 0).toNat = l[k].toNat) := HG
      clear HG hcs
      go_wp2
      go_round
      case rel => exact ⟨k + 1, by omega, by go_num, by rw [HO.out, vl, HG'.out]⟩
      case measure => simp [intOf]; omega
    · have hkl : k = l.length := by omega
      subst hkl
      go_wp2
      go_ret
      exact ⟨rfl, rfl⟩

def g64 (l : List UInt8) : Nat := if l.length = 8 then vl l 8 else 0
def g64Ok (l : List UInt8) : Bool := decide (l.length = 8)
theorem g64_yes {l : List UInt8} (h : l.length = 8) : g64 l = vl l 8 ∧ g64Ok l = true := ⟨if_pos h, decide_eq_true h⟩
theorem g64_no {l : List UInt8} (h : l.length ≠ 8) : g64 l = 0 ∧ g64Ok l = false := ⟨if_neg h, decide_eq_false h⟩

set_option maxHeartbeats 400000 in
theorem get64_any (a : Option Addr) (l : List UInt8) (cap : Nat) (w : World) (_hr : l.length ≤ 140737488351232) (hb : Bytes w a l) :
    Calls Tryd.prog 63 #[.slice a l.length cap] w fun e w' => e = .returned (.tuple #[.int .u64 (g64 l : Nat), .bool (g64Ok l)]) ∧ w = w' := by
  by_cases h : l.length = 8
  · have hz : ((l.length : Int) != 8) = false := by simp; omega
    have H : Hid (l.length = 8) := h
    have hn := fun wx (hb : Bytes wx a l) => number_any a l cap wx (by omega) hb
    have HN : Hid (∀ wx, Bytes wx a l → Calls Tryd.prog 78 #[.slice a l.length cap] wx fun e w' => e = .returned (.int .u64 (vl l l.length : Nat)) ∧ wx = w') := hn
    clear h hn
    go_enter Tryd.func63, Tryd.ntmps63
    go_wp2_with fail
    refine (HN.out _ hb).mono ?_
    rintro e w' ⟨rfl, rfl⟩
    go_wp2
    go_ret2
    exact ⟨ret_ib (by rw [(g64_yes H.out).1, H.out]) (g64_yes H.out).2.symm, rfl⟩
  · have hz : ((l.length : Int) != 8) = true := by simp; omega
    have H : Hid (l.length ≠ 8) := h
    clear h
    go_enter Tryd.func63, Tryd.ntmps63
    go_wp2
    go_ret2
    exact ⟨ret_ib (by rw [(g64_no H.out).1]; rfl) (g64_no H.out).2.symm, rfl⟩

set_option maxHeartbeats 400000 in
theorem refGet64_any (a : Option Addr) (l : List UInt8) (cap : Nat) (w : World) (hr : l.length ≤ 140737488351232) (hb : Bytes w a l) :
    Calls Tryd.prog 64 #[.slice a l.length cap] w fun e w' => e = .returned (.tuple #[.int .u64 (g64 l : Nat), .bool (g64Ok l)]) ∧ w = w' := by
  by_cases h : l.length = 8
  · have hz : ((l.length : Int) != 8) = false := by simp; omega
    have H : Hid (l.length = 8) := h
    have hle : 8 ≤ l.length := by omega
    clear h
    go_enter Tryd.func64, Tryd.ntmps64
    go_wp2
    go_loop [4, 5] (fun n i => ∃ k : Nat, k ≤ 8 ∧ i = .int .i64 k ∧ n = .int .u64 (vl l k : Nat)) (fun _ i => 8 - (intOf i).toNat)
    case atStart => exact ⟨0, Nat.zero_le _, rfl, rfl⟩
    case round =>
      obtain ⟨k, hk, rfl, rfl⟩ := hrel
      by_cases hlt : k < 8
      · obtain ⟨b, off, rfl, hbl, hcs⟩ := hb.at (k := k) (by omega)
        have hkl : k < l.length := by omega
        have hcell : w.cell? ⟨b, off + k, none⟩ = some (.int .u8 (l[k].toNat : Int)) := hcs k hkl
        have hc255 : (l[k].toNat : Int) ≤ 255 := by have := l[k].toNat_lt; omega
        have hv := vl_7 l (k := k) (by omega)
        have HG' : Hid ((l.getD k 0).toNat = l[k].toNat) := getD_nat hkl
        clear hcs
        go_wp2
        go_round
        case rel => exact ⟨k + 1, by omega, by go_num, by rw [vl, HG'.out]; go_num⟩
        case measure => simp [intOf]; omega
      · have hk8 : k = 8 := by omega
        subst hk8
        go_wp2
        go_ret2
        exact ⟨ret_ib (by rw [(g64_yes H.out).1]) (g64_yes H.out).2.symm, rfl⟩
  · have hz : ((l.length : Int) != 8) = true := by simp; omega
    have H : Hid (l.length ≠ 8) := h
    clear h
    go_enter Tryd.func64, Tryd.ntmps64
    go_wp2
    go_ret2
    exact ⟨ret_ib (by rw [(g64_no H.out).1]; rfl) (g64_no H.out).2.symm, rfl⟩
end Go.Proofs.YtaagnckppdaljaaDoor.En

/-
  The document's Hex by its contract.
-/
import Derived.Test.YtaagnckppdaljaaDoorEnHex
import Derived.Deep.QuietTactic
import Derived.BigQuiet
namespace Go.Proofs.YtaagnckppdaljaaDoor.En
open Go.RowKit

theorem digit_q (v : Int) (w : World) (h0 : 0 ≤ v) (h1 : v < 16) :
    Calls Tryd.prog 48 #[.int .i64 v] w fun e w' => e = .returned (.string ⟨#[UInt8.ofNat (hd v).toNat]⟩) ∧ w' = w :=
  (digit_int v w h0 h1).mono fun _ _ h => ⟨h.1, h.2.symm⟩

theorem ba_two (l : List UInt8) (x y : UInt8) : (⟨l.toArray⟩ : ByteArray) ++ ⟨#[x]⟩ ++ ⟨#[y]⟩ = ⟨(l ++ [x, y]).toArray⟩ := by
  rw [ByteArray.mk_append_mk, ByteArray.mk_append_mk]
  congr 1
  simp

set_option maxHeartbeats 800000 in
theorem refHex_any (a : Option Addr) (l : List UInt8) (cap : Nat) (w : World) (hr : l.length ≤ 140737488351232) (hb : Bytes w a l) :
    Calls Tryd.prog 34 #[.slice a l.length cap] w fun e w' => e = .returned (.string ⟨(hexL l).toArray⟩) ∧ Below w.heap.size w w' := by
  go_enter Tryd.func34, Tryd.ntmps34
  go_wp2
  go_loopw [3, 4] (fun s i wr => ∃ k : Nat, k ≤ l.length ∧ i = .int .i64 k ∧ s = .string ⟨(hexL (l.take k)).toArray⟩ ∧ Below w.heap.size w wr)
    (fun _ i _ => l.length - (intOf i).toNat)
  case atStart => exact ⟨0, Nat.zero_le _, rfl, rfl, Below.refl _ _⟩
  case round =>
    obtain ⟨k, hk, rfl, rfl, hnx⟩ := hrel
    by_cases hlt : k < l.length
    · obtain ⟨b, off, rfl, hbl, hcs⟩ := hb.at hlt
      have hcell : wr.cell? ⟨b, off + k, none⟩ = some (.int .u8 (l[k].toNat : Int)) := (hnx.cell (p := ⟨b, off + k, none⟩) hbl).trans (hcs k hlt)
      have hc255 : (l[k].toNat : Int) ≤ 255 := by have := l[k].toNat_lt; omega
      have hln : (hexL (l.take k)).length ≤ 281474976710656 := by rw [hexL_length, List.length_take]; omega
      have hs1 : ∀ (x : UInt8) (wx : World), (Op.stringOp .add ⟨(hexL (l.take k)).toArray⟩ ⟨#[x]⟩).run Tryd.prog wx = .ok (.string ⟨(hexL (l.take k) ++ [x]).toArray⟩) wx := fun x wx => by
        rw [run_string_add_sum wx _ _ (by simp [ByteArray.size]; omega)]
        exact congrArg (fun z => Result.ok (Value.string z) wx) (ByteArray.mk_append_mk _ [x])
      have hs2 : ∀ (x y : UInt8) (wx : World), (Op.stringOp .add ⟨(hexL (l.take k) ++ [x]).toArray⟩ ⟨#[y]⟩).run Tryd.prog wx = .ok (.string ⟨(hexL (l.take k) ++ [x, y]).toArray⟩) wx := fun x y wx => by
        rw [run_string_add_sum wx _ _ (by simp [ByteArray.size]; omega)]
        congr 2
        rw [show (⟨#[y]⟩ : ByteArray) = ⟨[y].toArray⟩ from rfl, ByteArray.mk_append_mk, List.append_assoc]
        rfl
      go_wp2_with fail
      go_big_quiet ((go_at_call 48; exact Calls.quiet_of_same (digit_q _ _ (by omega) (by omega))))
      clear hs1 hs2 hln
      go_wp2
      go_roundw
      case rel => exact ⟨k + 1, by omega, by go_num, by rw [hexL_snoc l k hlt]; rfl, below_drewN hnx _⟩
      case measure => simp [intOf]; omega
    · have hkl : k = l.length := by omega
      subst hkl
      have HT : Hid (List.take l.length l = l) := List.take_length
      go_wp2
      go_ret
      exact ⟨ret_str (by rw [HT.out]), hnx⟩
end Go.Proofs.YtaagnckppdaljaaDoor.En

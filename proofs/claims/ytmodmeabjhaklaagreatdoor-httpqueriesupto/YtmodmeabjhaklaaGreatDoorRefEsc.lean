/-
  The document's Escape by its contract.
-/
import Derived.Test.YtmodmeabjhaklaaGreatDoorUne
import Derived.Test.YtmodmeabjhaklaaGreatDoorRefCount
import Derived.Deep.QuietTactic
import Derived.BigQuiet
namespace Go.Proofs.YtmodmeabjhaklaaGreatDoor
open Go.RowKit

theorem in4_t : ∀ n : Nat, n < 256 → inL [45, 46, 95, 126] (n : Int) = (decide ((n : Int) = 45) || decide ((n : Int) = 46) || decide ((n : Int) = 95) || decide ((n : Int) = 126)) := by decide +kernel
theorem one_of (s : ByteArray) (k : Nat) (h : k < s.size) : s.extract k (k + 1) = ⟨#[s[k]]⟩ := by
  obtain ⟨⟨l⟩⟩ := s
  have h' : k < l.length := h
  show ByteArray.extract ⟨⟨l⟩⟩ k (k + 1) = ⟨#[l[k]]⟩
  have : (ByteArray.extract ⟨⟨l⟩⟩ k (k + 1)).data = #[l[k]] := by
    rw [ByteArray.data_extract]
    apply Array.toList_inj.1
    simp only [Array.toList_extract, List.extract_eq_take_drop]
    rw [List.drop_eq_getElem_cons h', show k + 1 - k = 1 from by omega]
    rfl
  exact congrArg ByteArray.mk this

theorem hexUp_cut : ∀ v : Fin 16, (hexUp.extract v.val (v.val + 1)).data = #[hx v.val] := by decide +kernel
theorem cut_at (n : Nat) (v : Int) (hv : v = (n : Int)) (h : n < 16) (w : World) :
    (Instr.slice 9 (.string ⟨#[48, 49, 50, 51, 52, 53, 54, 55, 56, 57, 65, 66, 67, 68, 69, 70]⟩) (some (.int .u8 v)) (some (.int .u8 (v + 1))) none).run Tryz.prog w = .ok (.string ⟨#[hx n]⟩) w := by
  subst hv
  rw [run_slice_string w 9 _ .u8 .u8 _ _ Tryz.underlying9 (by omega) (by omega) (by show (n : Int) + 1 ≤ 16; omega)]
  have e1 : ((n : Int)).toNat = n := by omega
  have e2 : ((n : Int) + 1).toNat = n + 1 := by omega
  rw [e1, e2]
  exact congrArg (fun z => Result.ok (Value.string z) w) (congrArg ByteArray.mk (hexUp_cut ⟨n, h⟩))
theorem ba_app (A : List UInt8) (x y z : UInt8) : (⟨(A ++ [x, y]).toArray⟩ : ByteArray) ++ ⟨#[z]⟩ = ⟨(A ++ [x, y, z]).toArray⟩ := by
  rw [show (⟨#[z]⟩ : ByteArray) = ⟨[z].toArray⟩ from rfl, ByteArray.mk_append_mk]
  simp
theorem wrap_u8 (v : Int) (h0 : 0 ≤ v) (h1 : v < 256) : IntKind.u8.wrap v = v := by rw [IntKind.wrap_u8']; omega
theorem add_one_str (A : List UInt8) (c : UInt8) (h : A.length ≤ 281474976710656) (wx : World) : (Op.stringOp .add ⟨A.toArray⟩ ⟨#[c]⟩).run Tryz.prog wx = .ok (.string ⟨(A ++ [c]).toArray⟩) wx := by
  rw [run_string_add_sum wx _ _ (by simp [ByteArray.size]; omega)]
  exact congrArg (fun z => Result.ok (Value.string z) wx) (ByteArray.mk_append_mk _ [c])

end Go.Proofs.YtmodmeabjhaklaaGreatDoor

/-
  A byte that came in.
-/
import Derived.Test.YtgpjjlkkfddjnaaDoorOpW
namespace Go.Proofs.YtgpjjlkkfddjnaaDoor

theorem u8_of {n : Int} (h : (Lit.int .u8 n).wf = true) : ∃ v : UInt8, n = (v.toNat : Int) := by
  have hb : 0 ≤ n ∧ n ≤ 255 := by simpa [Lit.wf, IntKind.min, IntKind.max, IntKind.signed, IntKind.bits] using h
  refine ⟨UInt8.ofNat n.toNat, ?_⟩
  rw [UInt8.toNat_ofNat', Nat.mod_eq_of_lt (by omega)]
  omega
end Go.Proofs.YtgpjjlkkfddjnaaDoor

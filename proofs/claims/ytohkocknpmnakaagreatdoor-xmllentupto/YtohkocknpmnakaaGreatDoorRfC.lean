/-
  The document's entity.
-/
import Derived.Test.YtohkocknpmnakaaGreatDoorRun22
namespace Go.Proofs.YtohkocknpmnakaaGreatDoor
open Go.RowKit

theorem digs_app (b : Nat) : ∀ (x y : List UInt8) (n : Nat), digs b n (x ++ y) = (digs b n x).bind fun m => digs b m y
  | [], y, n => rfl
  | c :: x, y, n => by
    simp only [List.cons_append, digs]
    split
    · exact digs_app b x y _
    · rfl
theorem dg_dv (c : UInt8) : dgN (c.toNat : Int) = if dv c = 99 then -1 else (dv c : Int) := by
  simp only [dgN, hvOk, hvN, dv, decide_eq_true_eq]
  have := c.toNat_lt
  (repeat' split) <;> omega
theorem ch_char (n : Nat) : charB (n : Int) = chN n := by
  unfold charB chN
  rw [Bool.eq_iff_iff, decide_eq_true_eq, decide_eq_true_eq]
  omega
theorem eat_pre {p a ds : List UInt8} (h : eat p a = some ds) : Lib.hasPrefix a p = true ∧ ds = a.drop p.length ∧ p.length + ds.length = a.length := by
  unfold eat at h
  split at h
  · next hp =>
    simp only [Option.some.injEq] at h
    have : p.length ≤ a.length := by
      unfold Lib.hasPrefix at hp
      exact (List.isPrefixOf_iff_prefix.1 hp).length_le
    exact ⟨hp, h.symm, by rw [← h]; simp; omega⟩
  · cases h
theorem eat_not {p a : List UInt8} (h : eat p a = none) : Lib.hasPrefix a p = false := by
  unfold eat at h
  split at h
  · cases h
  · next hp => simpa using hp
def entV (o : Option (List UInt8)) : Value := .tuple #[.string ⟨(o.getD []).toArray⟩, .bool o.isSome]

end Go.Proofs.YtohkocknpmnakaaGreatDoor

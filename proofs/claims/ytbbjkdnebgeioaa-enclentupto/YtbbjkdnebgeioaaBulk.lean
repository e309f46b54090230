/-
  What the bound of the second form gives: lengths of slices of bytes, and the weight of a list of texts.
-/
import Derived.Test.YtbbjkdnebgeioaaOpen
namespace Go.Proofs.Ytbbjkdnebgeioaa
open Go.ChangeShapes Go.WideShapes Go.ChangeAt Go.RowKit

theorem bulk_strs {H : Type} (L : List ByteArray) : tot L ≤ 4 * Rows.uptoBulkAll (strs (H := H) L) := by
  induction L with
  | nil => simp [tot]
  | cons s r ih =>
    have e : strs (H := H) (s :: r) = .lit (.string s.data.toList) :: strs r := rfl
    have e2 : s.data.toList.length = s.size := by simp
    rw [e, tot]
    simp only [Rows.uptoBulkAll, Rows.uptoBulk]
    omega
theorem bulk_lits {H : Type} (k : IntKind) (zs : List Int) : zs.length ≤ Rows.uptoBulkAll (lits (H := H) k zs) := by
  induction zs with
  | nil => simp
  | cons z r ih =>
    have e : lits (H := H) k (z :: r) = .lit (.int k z) :: lits k r := rfl
    rw [e]
    simp only [Rows.uptoBulkAll, Rows.uptoBulk, List.length_cons]
    omega
end Go.Proofs.Ytbbjkdnebgeioaa

/-
  A row of bytes of one's own, read as bytes.
-/
import Derived.Test.YtpmjkgpmidejoaaSector
import Derived.Test.YtpmjkgpmidejoaaRead
namespace Go.Proofs.Ytpmjkgpmidejoaa
open Go.RowKit

theorem own_bytes {w : World} {base g n cap : Nat} {l : List UInt8} (h : w.ownsRow base 5 1 (.slice (some ⟨g, 0, none⟩) n cap) n (bcs l)) : Bytes w (some ⟨g, 0, none⟩) l := by
  refine .inr ⟨g, 0, rfl, (World.ownsRow.lt h g rfl).2, fun j hj => ?_⟩
  rw [Nat.zero_add]
  exact owns_cell h (bcs_get hj)
end Go.Proofs.Ytpmjkgpmidejoaa

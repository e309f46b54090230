/-
  What the texts on the document's Of share.
-/
import Derived.Test.YtbemlmhchpinhaaDoorRefCivil
import Derived.Deep.QuietTactic
import Derived.BigQuiet
namespace Go.Proofs.YtbemlmhchpinhaaDoor
open Go.RowKit

theorem below_drewN {B : Nat} {a w : World} (h : Below B a w) (n : Nat) : Below B a (w.drewN n) := ⟨h.os, h.tape, h.output, h.size, h.block⟩
end Go.Proofs.YtbemlmhchpinhaaDoor

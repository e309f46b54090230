/-
  Same of the statements' package by its contract.
-/
import Derived.Test.YtbbjkdnebgeioaaDoorCore
namespace Go.Proofs.YtbbjkdnebgeioaaDoor
open Go.RowKit

theorem same_any (a a' : Option Addr) (l m : List UInt8) (c c' : Nat) (w : World) (h1 : Bytes w a l) (h2 : Bytes w a' m) :
    Calls Tryd.prog 18 #[.slice a l.length c, .slice a' m.length c'] w fun e w' => e = .returned (.bool (l == m)) ∧ w = w' := by
  have k1 := convert_bytes w a c l h1
  have k2 := convert_bytes w a' c' m h2
  go_enter Tryd.func18, Tryd.ntmps18
  go_wp2
  go_ret
  exact ⟨rfl, rfl⟩
end Go.Proofs.YtbbjkdnebgeioaaDoor

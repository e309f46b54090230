/-
  Slices of bools that came in, told by lists.
-/
import Derived.Test.YtllmjlobhjcbkaaOpenL
import Derived.Test.YtllmjlobhjcbkaaCrash
import Derived.Deep.Grids
namespace Go.Proofs.Ytllmjlobhjcbkaa
open Go.ChangeShapes Go.WideShapes Go.ChangeAt Go.RowKit

theorem cells4 : Try.prog.cellsOf 4 = 1 := by kernel_rfl
theorem bools_of {W : World} {x : Addr} {len cap : Nat} {B : Nat → Bool} (hl : len ≤ cap) (hcell : ∀ i, i < cap → W.cell? (x.add i) = some (.bool (B i))) :
    ∃ l : List Bool, l.length = len ∧ Bools W (some x) l := by
  refine ⟨(List.range len).map B, by simp, ?_⟩
  by_cases h0 : len = 0
  · subst h0
    exact .inl rfl
  · obtain ⟨b, off, spot⟩ := x
    have hc0 := hcell 0 (by omega)
    have hspot : spot = none := by simpa [Addr.add] using World.cell?_spot hc0
    subst hspot
    refine .inr ⟨b, off, rfl, ?_, fun j hj => ?_⟩
    · have := block_lt_of_cell hc0
      simpa [Addr.add] using this
    · have hj' : j < len := by simpa using hj
      have := hcell j (by omega)
      rw [Addr.add_lit] at this
      rw [this]
      simp

theorem open_boolsR {H : Type} {enc : TypeId × Value → H} {W : World} {fuel : Nat} {a2 : Option Addr} {len2 cap2 : Nat} {d : DataW H} {p : List MemPlace} (h : DataW.trod enc Try.prog W 0 (fun _ => true) true fuel 23 [.slice a2 len2 cap2] = some (d, p)) :
    ∃ l : List Bool, l.length = len2 ∧ Bools W a2 l := by
  rcases Go.Deep.open_bools Try.underlying23 Try.underlying4 cells4 h with ⟨hcs, _⟩ | ⟨x, l, c, B, hcs, _, hl, hm, hd, hcell⟩
  · simp at hcs
    obtain ⟨rfl, rfl, rfl⟩ := hcs
    exact ⟨[], rfl, .inl rfl⟩
  · simp at hcs
    obtain ⟨rfl, rfl, rfl⟩ := hcs
    exact bools_of hl hcell
end Go.Proofs.Ytllmjlobhjcbkaa

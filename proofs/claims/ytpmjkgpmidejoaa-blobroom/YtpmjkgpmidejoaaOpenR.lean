/-
  Slices of slices of bytes that came in, told by lists.
-/
import Derived.Test.YtpmjkgpmidejoaaOpenP
import Derived.Test.YtpmjkgpmidejoaaLawRoom
import Derived.Deep.Slices
import Derived.Deep.Grids
namespace Go.Proofs.Ytpmjkgpmidejoaa
open Go.ChangeShapes Go.WideShapes Go.ChangeAt Go.RowKit

theorem cells38 : Try.prog.cellsOf 38 = 1 := by kernel_rfl
theorem row_of {H : Type} {enc : TypeId × Value → H} {W : World} {n : Nat} {v : Value} {d : DataW H} {pl : List MemPlace} (h : DataW.trod enc Try.prog W 0 (fun _ => true) true n 38 [v] = some (d, pl)) :
    ∃ l : List UInt8, ∃ a c, v = .slice a l.length c ∧ Bytes W a l ∧ l.length ≤ c ∧ (a = none → c = 0) ∧ l.length ≤ 9223372036854775807 := by
  rcases open_ints Try.underlying38 Try.underlying5 cells5 h with ⟨hcs, hd⟩ | ⟨x, l, c, zs, hcs, _, hl, hm, hz, hd, hcell, hwz⟩
  · have e : v = .slice none 0 0 := by simpa using hcs
    subst e
    exact ⟨[], none, 0, rfl, .inl rfl, by simp, fun _ => rfl, by simp⟩
  · have e : v = .slice (some x) l c := by simpa using hcs
    subst e
    have hz' : zs.length = c := by simpa using hz
    obtain ⟨m, e, hb⟩ := bytes_of_ints hl hz' hcell hwz
    subst e
    exact ⟨m, some x, c, rfl, hb, hl, (by intro h; cases h), by unfold maxLen at hm; omega⟩
theorem open_rows {H : Type} {enc : TypeId × Value → H} {W : World} {fuel : Nat} {a1 : Option Addr} {len1 cap1 : Nat} {d : DataW H} {p : List MemPlace} (h : DataW.trod enc Try.prog W 0 (fun _ => true) true fuel 71 [.slice a1 len1 cap1] = some (d, p)) :
    ∃ L : List (List UInt8), L.length = len1 ∧ Rbs W a1 L ∧ L.length ≤ 9223372036854775807 := by
  rcases Go.Deep.open_slice1 Try.underlying71 cells38 h with ⟨hcs, _⟩ | ⟨x, len, cap, m, n, V, D, Pl, hcs, _, hlc, hcm, hm, hd, hrow⟩
  · simp at hcs
    obtain ⟨rfl, rfl, rfl⟩ := hcs
    exact ⟨[], rfl, .inl rfl, by simp⟩
  · simp at hcs
    obtain ⟨rfl, rfl, rfl⟩ := hcs
    have hm' : m = cap1 := by simpa using hm
    subst hm'
    obtain ⟨F, hF⟩ := Go.Deep.choose_lt (α := List UInt8) (p := fun i l => ∃ a c, V i = .slice a l.length c ∧ Bytes W a l ∧ l.length ≤ c ∧ (a = none → c = 0) ∧ l.length ≤ 9223372036854775807) (n := len1) (fun i hi => row_of (hrow i (by omega)).2)
    refine ⟨(List.range len1).map F, by simp, ?_, by unfold maxLen at hcm; simp; omega⟩
    by_cases h0 : len1 = 0
    · subst h0; exact .inl rfl
    · obtain ⟨b, off, spot⟩ := x
      have hc0 := (hrow 0 (by omega)).1
      have hspot : spot = none := by simpa [Addr.add] using World.cell?_spot hc0
      subst hspot
      refine .inr ⟨b, off, rfl, ?_, fun j hj => ?_⟩
      · have := block_lt_of_cell hc0
        simpa [Addr.add] using this
      · have hj' : j < len1 := by simpa using hj
        obtain ⟨a, c, hv, hby, hle, hno, hmx⟩ := hF j hj'
        have hcell := (hrow j (by omega)).1
        rw [Addr.add_lit, hv] at hcell
        have e : ((List.range len1).map F)[j] = F j := by simp
        rw [e]
        exact ⟨a, c, hcell, hby, hle, hno, hmx⟩
end Go.Proofs.Ytpmjkgpmidejoaa

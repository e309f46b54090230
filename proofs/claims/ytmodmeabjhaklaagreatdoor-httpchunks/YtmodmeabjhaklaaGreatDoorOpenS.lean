/-
  What came in, told by lists: a slice of slices of bytes.
-/
import Derived.Test.YtmodmeabjhaklaaGreatDoorRunG
import Derived.Test.YtmodmeabjhaklaaGreatDoorCkW
namespace Go.Proofs.YtmodmeabjhaklaaGreatDoor
open Go.ChangeShapes Go.WideShapes Go.ChangeAt Go.RowKit

theorem cells22 : Tryz.prog.cellsOf 22 = 1 := by kernel_rfl
theorem row_in {H : Type} {enc : TypeId × Value → H} {W : World} {n : Nat} {v : Value} {d : DataW H} {pl : List MemPlace} (h : DataW.trod enc Tryz.prog W 0 (fun _ => true) true n 22 [v] = some (d, pl)) :
    ∃ l : List UInt8, ∃ a c, v = .slice a l.length c ∧ Bytes W a l := by
  rcases open_ints Tryz.underlying22 Tryz.underlying5 cells5 h with ⟨hcs, hd⟩ | ⟨x, l, c, zs, hcs, _, hl, hm, hz, hd, hcell, hwz⟩
  · have e : v = .slice none 0 0 := by simpa using hcs
    subst e
    exact ⟨[], none, 0, rfl, .inl rfl⟩
  · have e : v = .slice (some x) l c := by simpa using hcs
    subst e
    have hz' : zs.length = c := by simpa using hz
    obtain ⟨m, e, hb⟩ := bytes_of_ints hl hz' hcell hwz
    subst e
    exact ⟨m, some x, c, rfl, hb⟩
set_option maxRecDepth 20000 in
/-- A slice of slices of bytes that came in. -/
theorem open_slices {H : Type} {enc : TypeId × Value → H} {W : World} {r : Reach} {base : Nat} {v : Value} {d : DataW H} {p : List MemPlace} (hv : Value.okWide Tryz.prog W r base 49 v) (h : DataW.Trod enc Tryz.prog W 0 (fun _ => true) true 49 v d p) :
    ∃ (a : Option Addr) (X : List (List UInt8)) (cap : Nat), v = .slice a X.length cap ∧ Sls W a X := by
  obtain ⟨a, len, cap, rfl⟩ := okWide_slice Tryz.underlying49 hv
  obtain ⟨fuel, hf⟩ := h
  rcases Go.Deep.open_slice1 Tryz.underlying49 cells22 hf with ⟨hcs, _⟩ | ⟨x, len', cap', m, n, V, D, Pl, hcs, _, hlc, hcm, hm, hd, hrow⟩
  · simp [Value.cells] at hcs
    obtain ⟨rfl, rfl, rfl⟩ := hcs
    exact ⟨none, [], 0, rfl, .inl rfl⟩
  · simp [Value.cells] at hcs
    obtain ⟨rfl, rfl, rfl⟩ := hcs
    have hm' : m = cap := by simpa using hm
    subst hm'
    obtain ⟨F, hF⟩ := Go.Deep.choose_lt (α := List UInt8) (p := fun i l => ∃ a c, V i = .slice a l.length c ∧ Bytes W a l) (n := len) (fun i hi => row_in (hrow i (by omega)).2)
    refine ⟨some x, (List.range len).map F, m, by simp, ?_⟩
    by_cases h0 : len = 0
    · subst h0; exact .inl rfl
    · obtain ⟨b, off, spot⟩ := x
      have hc0 := (hrow 0 (by omega)).1
      have hspot : spot = none := by simpa [Addr.add] using World.cell?_spot hc0
      subst hspot
      refine .inr ⟨b, off, rfl, fun j hj => ?_⟩
      have hj' : j < len := by simpa using hj
      obtain ⟨a, c, hv, hby⟩ := hF j hj'
      have hcell := (hrow j (by omega)).1
      rw [Addr.add_lit, hv] at hcell
      have e : ((List.range len).map F)[j] = F j := by simp
      rw [e]
      exact ⟨a, c, hcell, hby⟩
end Go.Proofs.YtmodmeabjhaklaaGreatDoor

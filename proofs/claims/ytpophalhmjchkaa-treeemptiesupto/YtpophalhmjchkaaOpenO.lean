/-
  What came in, told by lists: a script of changes, slices of ints.
-/
import Derived.Test.YtpophalhmjchkaaScr
import Derived.Test.YtpophalhmjchkaaRows
import Derived.WalkKit
import Derived.ProofKit
import Derived.OpenShut
import Derived.SizedLaws
import Derived.Deep.Slices
import Derived.Deep.Grids
namespace Go.Proofs.Ytpophalhmjchkaa
open Go.ChangeShapes Go.WideShapes Go.ChangeAt Go.RowKit

theorem cells9 : Try.prog.cellsOf 9 = 1 := by kernel_rfl
theorem cells4 : Try.prog.cellsOf 4 = 1 := by kernel_rfl
theorem cells31 : Try.prog.cellsOf 31 = 3 := by kernel_rfl
theorem ownK : ownKnob Try.prog.godebug = none := by kernel_rfl
theorem laidOut : laidOutB Try.prog = true := by kernel_rfl
theorem list3 {α : Type} {cs : List α} (h : cs.length = 3) : ∃ c0 c1 c2, cs = [c0, c1, c2] := by
  match cs, h with
  | [c0, c1, c2], _ => exact ⟨c0, c1, c2, rfl⟩

/-- One change of the script, out of its three cells. -/
theorem op_of {H : Type} {enc : TypeId × Value → H} {W : World} {n : Nat} {cs : List Value} {y : DataW H × List MemPlace} (hl : cs.length = 3) (h : DataW.trod enc Try.prog W 0 (fun _ => true) true n 31 cs = some y) :
    ∃ o : OpT, cs = [.string o.1, .string o.2.1, .bool o.2.2] := by
  obtain ⟨c0, c1, c2, rfl⟩ := list3 hl
  obtain ⟨xs, k, _, _, _, hxl, hf⟩ := DataW.trod_struct Try.underlying31 h
  have g : ∀ j (hj : j < 3), ∃ x, xs[j]? = some x := fun j hj => ⟨xs[j]'(by rw [hxl]; exact hj), List.getElem?_eq_getElem _⟩
  obtain ⟨x0, e0⟩ := g 0 (by omega)
  obtain ⟨x1, e1⟩ := g 1 (by omega)
  obtain ⟨x2, e2⟩ := g 2 (by omega)
  have f0 : DataW.trod enc Try.prog W 0 (fun _ => true) true k 9 [c0] = some x0 := by
    have t : DataW.trod enc Try.prog W 0 (fun _ => true) true k 9 (([c0, c1, c2].drop 0).take (Try.prog.cellsOf 9)) = xs[0]? := hf 0 _ rfl
    rw [cells9, e0] at t
    exact t
  have f1 : DataW.trod enc Try.prog W 0 (fun _ => true) true k 9 [c1] = some x1 := by
    have t : DataW.trod enc Try.prog W 0 (fun _ => true) true k 9 (([c0, c1, c2].drop 1).take (Try.prog.cellsOf 9)) = xs[1]? := hf 1 _ rfl
    rw [cells9, e1] at t
    exact t
  have f2 : DataW.trod enc Try.prog W 0 (fun _ => true) true k 4 [c2] = some x2 := by
    have t : DataW.trod enc Try.prog W 0 (fun _ => true) true k 4 (([c0, c1, c2].drop 2).take (Try.prog.cellsOf 4)) = xs[2]? := hf 2 _ rfl
    rw [cells4, e2] at t
    exact t
  obtain ⟨s0, h0, _, _⟩ := DataW.trod_string Try.underlying9 f0
  obtain ⟨s1, h1, _, _⟩ := DataW.trod_string Try.underlying9 f1
  obtain ⟨b2, h2, _⟩ := DataW.trod_bool Try.underlying4 f2
  simp only [List.cons.injEq, and_true] at h0 h1 h2
  subst h0 h1 h2
  exact ⟨(s0, s1, b2), rfl⟩

theorem open_ops {H : Type} {enc : TypeId × Value → H} {W : World} {fuel : Nat} {a1 : Option Addr} {len1 cap1 : Nat} {d : DataW H} {p : List MemPlace} (hf : DataW.trod enc Try.prog W 0 (fun _ => true) true fuel 22 (Value.slice a1 len1 cap1).cells.toList = some (d, p)) :
    ∃ l : List OpT, l.length = len1 ∧ Ops W a1 l := by
  rcases Go.Deep.open_slice Try.underlying22 hf with ⟨hcs, _⟩ | ⟨x, len, cap, m, n, D, Pl, hcs, _, hlc, hcm, hm, hd, hrow⟩
  · simp [Value.cells] at hcs
    obtain ⟨rfl, rfl, rfl⟩ := hcs
    exact ⟨[], rfl, .inl rfl⟩
  · simp [Value.cells] at hcs
    obtain ⟨rfl, rfl, rfl⟩ := hcs
    have hm' : m = cap1 := by simpa using hm
    subst hm'
    rw [cells31] at hrow
    obtain ⟨F, hF⟩ := Go.Deep.choose_lt (α := OpT) (p := fun i o => ∀ j, j < 3 → W.cell? ((x.add (i * 3)).add j) = [Value.string o.1, .string o.2.1, .bool o.2.2][j]?) (n := len1) (fun i hi => by
      obtain ⟨cs', h1, h2⟩ := hrow i (by omega)
      obtain ⟨_, hlen, hcell⟩ := World.cells?_some h1
      obtain ⟨o, rfl⟩ := op_of hlen h2
      exact ⟨o, hcell⟩)
    refine ⟨(List.range len1).map F, by simp, ?_⟩
    by_cases h0 : len1 = 0
    · subst h0; exact .inl rfl
    · obtain ⟨b, off, spot⟩ := x
      have hc0 : W.cell? ((⟨b, off, spot⟩ : Addr).add (0 * 3)) = some (.string (F 0).1) := hF 0 (by omega) 0 (by omega)
      have hspot : spot = none := by simpa [Addr.add] using World.cell?_spot hc0
      subst hspot
      refine .inr ⟨b, off, rfl, ?_, fun j hj => ?_⟩
      · have := block_lt_of_cell hc0
        simpa [Addr.add] using this
      · have hj' : j < len1 := by simpa using hj
        have hc := hF j hj'
        have e : ((List.range len1).map F)[j] = F j := by simp
        rw [e]
        have t0 := hc 0 (by omega)
        have t1 := hc 1 (by omega)
        have t2 := hc 2 (by omega)
        simp only [Addr.add_lit] at t0 t1 t2
        exact ⟨t0, t1, t2⟩
end Go.Proofs.Ytpophalhmjchkaa

/-
  A script that came in, told by a list.
-/
import Derived.Test.YthbgbehmknnohaaBackM
import Derived.Test.YthbgbehmknnohaaOpenA
namespace Go.Proofs.Ythbgbehmknnohaa
open Go.ChangeShapes Go.WideShapes Go.ChangeAt Go.RowKit

theorem list3 {α : Type} {cs : List α} (h : cs.length = 3) : ∃ c0 c1 c2, cs = [c0, c1, c2] := by
  match cs, h with
  | [c0, c1, c2], _ => exact ⟨c0, c1, c2, rfl⟩

/-- One call of the script, out of its three cells. -/
theorem op_of {H : Type} {enc : TypeId × Value → H} {W : World} {n : Nat} {cs : List Value} {y : DataW H × List MemPlace} (hl : cs.length = 3) (h : DataW.trod enc Try.prog W 0 (fun _ => true) true n 32 cs = some y) :
    ∃ o : OpT, cs = [.int .i64 o.1, .int .i64 o.2.1, .int .i64 o.2.2] ∧ o.2.1 ≤ 9223372036854775807 := by
  obtain ⟨c0, c1, c2, rfl⟩ := list3 hl
  obtain ⟨xs, k, _, _, _, hxl, hf⟩ := DataW.trod_struct Try.underlying32 h
  have g : ∀ j (hj : j < 3), ∃ x, xs[j]? = some x := fun j hj => ⟨xs[j]'(by rw [hxl]; exact hj), List.getElem?_eq_getElem _⟩
  obtain ⟨x0, e0⟩ := g 0 (by omega)
  obtain ⟨x1, e1⟩ := g 1 (by omega)
  obtain ⟨x2, e2⟩ := g 2 (by omega)
  have f0 : DataW.trod enc Try.prog W 0 (fun _ => true) true k 3 [c0] = some x0 := by
    have t : DataW.trod enc Try.prog W 0 (fun _ => true) true k 3 (([c0, c1, c2].drop 0).take (Try.prog.cellsOf 3)) = xs[0]? := hf 0 _ rfl
    rw [cells3, e0] at t
    exact t
  have f1 : DataW.trod enc Try.prog W 0 (fun _ => true) true k 3 [c1] = some x1 := by
    have t : DataW.trod enc Try.prog W 0 (fun _ => true) true k 3 (([c0, c1, c2].drop 1).take (Try.prog.cellsOf 3)) = xs[1]? := hf 1 _ rfl
    rw [cells3, e1] at t
    exact t
  have f2 : DataW.trod enc Try.prog W 0 (fun _ => true) true k 3 [c2] = some x2 := by
    have t : DataW.trod enc Try.prog W 0 (fun _ => true) true k 3 (([c0, c1, c2].drop 2).take (Try.prog.cellsOf 3)) = xs[2]? := hf 2 _ rfl
    rw [cells3, e2] at t
    exact t
  obtain ⟨s0, h0, _, _⟩ := DataW.trod_int Try.underlying3 f0
  obtain ⟨s1, h1, _, w1⟩ := DataW.trod_int Try.underlying3 f1
  obtain ⟨s2, h2, _, _⟩ := DataW.trod_int Try.underlying3 f2
  simp only [List.cons.injEq, and_true] at h0 h1 h2
  subst h0 h1 h2
  exact ⟨(s0, s1, s2), rfl, wf_le w1⟩

theorem open_ops {H : Type} {enc : TypeId × Value → H} {W : World} {fuel : Nat} {a1 : Option Addr} {len1 cap1 : Nat} {d : DataW H} {p : List MemPlace} (hf : DataW.trod enc Try.prog W 0 (fun _ => true) true fuel 22 (Value.slice a1 len1 cap1).cells.toList = some (d, p)) :
    ∃ l : List OpT, l.length = len1 ∧ Ops W a1 l := by
  rcases Go.Deep.open_slice Try.underlying22 hf with ⟨hcs, _⟩ | ⟨x, len, cap, m, n, D, Pl, hcs, _, hlc, hcm, hm, hd, hrow⟩
  · simp [Value.cells] at hcs
    obtain ⟨rfl, rfl, rfl⟩ := hcs
    exact ⟨[], rfl, .inl rfl⟩
  · simp [Value.cells] at hcs
    obtain ⟨rfl, rfl, rfl⟩ := hcs
    have hm' : m = cap1 := by simpa using hm
    subst hm'
    rw [cells32] at hrow
    obtain ⟨F, hF⟩ := Go.Deep.choose_lt (α := OpT) (p := fun i o => ∀ j, j < 3 → (W.cell? ((x.add (i * 3)).add j) = [Value.int .i64 o.1, .int .i64 o.2.1, .int .i64 o.2.2][j]? ∧ o.2.1 ≤ 9223372036854775807)) (n := len1) (fun i hi => by
      obtain ⟨cs', h1, h2⟩ := hrow i (by omega)
      obtain ⟨_, hlen, hcell⟩ := World.cells?_some h1
      obtain ⟨o, rfl, hle⟩ := op_of hlen h2
      exact ⟨o, fun j hj => ⟨hcell j hj, hle⟩⟩)
    refine ⟨(List.range len1).map F, by simp, ?_⟩
    by_cases h0 : len1 = 0
    · subst h0; exact .inl rfl
    · obtain ⟨b, off, spot⟩ := x
      have hc0 : W.cell? ((⟨b, off, spot⟩ : Addr).add (0 * 3)) = some (.int .i64 (F 0).1) := (hF 0 (by omega) 0 (by omega)).1
      have hspot : spot = none := by simpa [Addr.add] using World.cell?_spot hc0
      subst hspot
      refine .inr ⟨b, off, rfl, ?_, fun j hj => ?_⟩
      · have := block_lt_of_cell hc0
        simpa [Addr.add] using this
      · have hj' : j < len1 := by simpa using hj
        have hc := hF j hj'
        have e : ((List.range len1).map F)[j] = F j := by simp
        rw [e]
        have t0 := (hc 0 (by omega)).1
        have t1 := (hc 1 (by omega)).1
        have t2 := (hc 2 (by omega)).1
        simp only [Addr.add_lit] at t0 t1 t2
        exact ⟨t0, t1, t2, (hc 0 (by omega)).2⟩
end Go.Proofs.Ythbgbehmknnohaa

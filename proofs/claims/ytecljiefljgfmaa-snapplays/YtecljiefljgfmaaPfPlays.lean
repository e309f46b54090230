/- SnapPlays: for every size, every place and every script; no condition beyond the reach of the form itself. -/
import Derived.Test.YtecljiefljgfmaaOpenP
import Derived.Test.YtecljiefljgfmaaLawPlays
import Derived.ShutString
import Derived.ChangeOld
import Derived.Below
import Derived.Deep.Slices
import Derived.Deep.Grids
namespace Go.Proofs.Ytecljiefljgfmaa
open Go.ChangeShapes Go.WideShapes Go.ChangeAt Go.RowKit

theorem cells67 : Try.prog.cellsOf 67 = 6 := by kernel_rfl
theorem cells3 : Try.prog.cellsOf 3 = 1 := by kernel_rfl
theorem cells22 : Try.prog.cellsOf 22 = 1 := by kernel_rfl
theorem cells41 : Try.prog.cellsOf 41 = 1 := by kernel_rfl
theorem i64_of {n : Int} (h : (Lit.int .i64 n).wf = true) : I64 n := by
  have h2 : IntKind.i64.min ≤ n ∧ n ≤ 9223372036854775807 := by simpa [Lit.wf] using h
  have h3 : IntKind.i64.min = -9223372036854775808 := by decide
  exact ⟨by omega, h2.2⟩
instance : Inhabited OpV := ⟨⟨0, 0, 0, 0, none, [], 0, none, [], 0⟩⟩
theorem list6 {α : Type} {cs : List α} (h : cs.length = 6) : ∃ c0 c1 c2 c3 c4 c5, cs = [c0, c1, c2, c3, c4, c5] := by
  match cs, h with
  | [c0, c1, c2, c3, c4, c5], _ => exact ⟨c0, c1, c2, c3, c4, c5, rfl⟩

/-- One call of the script, out of its six cells. -/
theorem op_of {H : Type} {enc : TypeId × Value → H} {W : World} {n : Nat} {cs : List Value} {y : DataW H × List MemPlace} (hl : cs.length = 6) (h : DataW.trod enc Try.prog W 0 (fun _ => true) true n 67 cs = some y) :
    ∃ o : OpV, cs = [.int .i64 o.kd, .int .i64 o.a, .int .i64 o.b, .int .u64 (o.ep : Int), .slice o.sa o.st.length o.sc, .slice o.ka o.keep.length o.kc] ∧ OpOk W o := by
  obtain ⟨c0, c1, c2, c3, c4, c5, rfl⟩ := list6 hl
  obtain ⟨xs, k, _, _, _, hxl, hf⟩ := DataW.trod_struct Try.underlying67 h
  have g : ∀ j (hj : j < 6), ∃ x, xs[j]? = some x := fun j hj => ⟨xs[j]'(by rw [hxl]; exact hj), List.getElem?_eq_getElem _⟩
  obtain ⟨x0, e0⟩ := g 0 (by omega)
  obtain ⟨x1, e1⟩ := g 1 (by omega)
  obtain ⟨x2, e2⟩ := g 2 (by omega)
  obtain ⟨x3, e3⟩ := g 3 (by omega)
  obtain ⟨x4, e4⟩ := g 4 (by omega)
  obtain ⟨x5, e5⟩ := g 5 (by omega)
  have f0 : DataW.trod enc Try.prog W 0 (fun _ => true) true k 3 [c0] = some x0 := by
    have t : DataW.trod enc Try.prog W 0 (fun _ => true) true k 3 (([c0, c1, c2, c3, c4, c5].drop 0).take (Try.prog.cellsOf 3)) = xs[0]? := hf 0 _ rfl
    rw [cells3, e0] at t
    exact t
  have f1 : DataW.trod enc Try.prog W 0 (fun _ => true) true k 3 [c1] = some x1 := by
    have t : DataW.trod enc Try.prog W 0 (fun _ => true) true k 3 (([c0, c1, c2, c3, c4, c5].drop 1).take (Try.prog.cellsOf 3)) = xs[1]? := hf 1 _ rfl
    rw [cells3, e1] at t
    exact t
  have f2 : DataW.trod enc Try.prog W 0 (fun _ => true) true k 3 [c2] = some x2 := by
    have t : DataW.trod enc Try.prog W 0 (fun _ => true) true k 3 (([c0, c1, c2, c3, c4, c5].drop 2).take (Try.prog.cellsOf 3)) = xs[2]? := hf 2 _ rfl
    rw [cells3, e2] at t
    exact t
  have f3 : DataW.trod enc Try.prog W 0 (fun _ => true) true k 22 [c3] = some x3 := by
    have t : DataW.trod enc Try.prog W 0 (fun _ => true) true k 22 (([c0, c1, c2, c3, c4, c5].drop 3).take (Try.prog.cellsOf 22)) = xs[3]? := hf 3 _ rfl
    rw [cells22, e3] at t
    exact t
  have f4 : DataW.trod enc Try.prog W 0 (fun _ => true) true k 50 [c4] = some x4 := by
    have t : DataW.trod enc Try.prog W 0 (fun _ => true) true k 50 (([c0, c1, c2, c3, c4, c5].drop 4).take (Try.prog.cellsOf 50)) = xs[4]? := hf 4 _ rfl
    rw [cells50, e4] at t
    exact t
  have f5 : DataW.trod enc Try.prog W 0 (fun _ => true) true k 41 [c5] = some x5 := by
    have t : DataW.trod enc Try.prog W 0 (fun _ => true) true k 41 (([c0, c1, c2, c3, c4, c5].drop 5).take (Try.prog.cellsOf 41)) = xs[5]? := hf 5 _ rfl
    rw [cells41, e5] at t
    exact t
  obtain ⟨n0, h0, _, _⟩ := DataW.trod_int Try.underlying3 f0
  obtain ⟨n1, h1, _, w1⟩ := DataW.trod_int Try.underlying3 f1
  obtain ⟨n2, h2, _, _⟩ := DataW.trod_int Try.underlying3 f2
  obtain ⟨n3, h3, _, w3⟩ := DataW.trod_int Try.underlying22 f3
  simp only [List.cons.injEq, and_true] at h0 h1 h2 h3
  subst h0 h1 h2 h3
  obtain ⟨d4, p4⟩ := x4
  obtain ⟨st, sa, sc, rfl, hby, hsl, hsn, hsm⟩ := row_of f4
  have w3' : 0 ≤ n3 ∧ n3 ≤ 18446744073709551615 := by simpa [Lit.wf, IntKind.min, IntKind.max, IntKind.signed, IntKind.bits] using w3
  obtain ⟨e3, rfl⟩ : ∃ e3 : Nat, n3 = (e3 : Int) := ⟨n3.toNat, by omega⟩
  rcases Go.Deep.open_bools Try.underlying41 Try.underlying4 cells4 f5 with ⟨hcs, _⟩ | ⟨x, l, c, B, hcs, _, hl2, hm, hd, hcell⟩
  · simp only [List.cons.injEq, and_true] at hcs
    subst hcs
    exact ⟨⟨n0, n1, n2, e3, sa, st, sc, none, [], 0⟩, rfl, hby, .inl rfl, i64_of w1, by show e3 < _; omega, hsl, hsn, hsm⟩
  · simp only [List.cons.injEq, and_true] at hcs
    subst hcs
    obtain ⟨bl, e, hb⟩ := bools_of hl2 hcell
    subst e
    exact ⟨⟨n0, n1, n2, e3, sa, st, sc, some x, bl, c⟩, rfl, hby, hb, i64_of w1, by show e3 < _; omega, hsl, hsn, hsm⟩

set_option maxRecDepth 100000 in
theorem snapPlays_lifted (os : Os) (started : os.Started) (H : Type) (enc : TypeId × Value → H) :
    ReturnsInHanded {} Try.checked os 7 .any (Rows.snapPlaysSpec.pre6 enc Try.prog Try.f7 Rows.snapPlaysRow.domain false) (Rows.snapPlaysSpec.post enc Try.prog Try.f7 false true false false) := by
  refine returnsInHanded_of_change_sized (C := Try.checked) ownK started (by kernel_rfl) Try.func7
    (ChangeSpec.witness6 (enc := enc) (C := Try.checked) false ⟨#[], #[.int .i64 0, .int .i64 0, .int .i64 0, .slice none 0 0], []⟩ 8 (by kernel_rfl) (by kernel_rfl) (by kernel_rfl) (by kernel_rfl)) ?_
  intro W base args ds gs before hval0 hW hcnd hsz0 _
  have hval : ∀ (j : Nat) t v, Try.f7.params[j]? = some t → args[j]? = some v → Value.okWide Try.prog W .any base t v := hval0
  have hW' := hW
  obtain ⟨p, q, hA0, hV, rfl, hfz, hnd⟩ := hW
  have hA : DataW.TrodAll enc Try.prog W 0 (fun _ => true) true Try.f7.params.toList args.toList ds p := hA0
  rw [Try.params7] at hA hval
  obtain ⟨v0, vs0, d0, ds0, p0, q0, hargs, rfl, rfl, h0, r0⟩ := trodAll_cons hA
  obtain ⟨v1, vs1, d1, ds1, p1, q1, rfl, rfl, rfl, h1, r1⟩ := trodAll_cons r0
  obtain ⟨v2, vs2, d2, ds2, p2, q2, rfl, rfl, rfl, h2, r2⟩ := trodAll_cons r1
  obtain ⟨v3, vs3, d3, ds3, p3, q3, rfl, rfl, rfl, h3, r3⟩ := trodAll_cons r2
  obtain ⟨rfl, rfl, rfl⟩ := trodAll_nil r3
  obtain rfl : args = #[v0, v1, v2, v3] := by cases args; simp_all
  obtain ⟨rfl, rfl⟩ := trodVars_none hV
  obtain ⟨n0, rfl, rfl, rfl, wn0⟩ := open_int Try.underlying3 (hval 0 3 v0 rfl rfl) h0
  obtain ⟨n1, rfl, rfl, rfl, wn1⟩ := open_int Try.underlying3 (hval 1 3 v1 rfl rfl) h1
  obtain ⟨n2, rfl, rfl, rfl, wn2⟩ := open_int Try.underlying3 (hval 2 3 v2 rfl rfl) h2
  obtain ⟨a1, len1, cap1, rfl⟩ := okWide_slice Try.underlying65 (hval 3 65 v3 rfl rfl)
  have k1 := h3
  have lt1 : ∀ x ∈ p3, x.block < W.heap.size := by obtain ⟨m, hm⟩ := k1; exact DataW.trod_lt m _ _ _ hm
  obtain ⟨l, rfl, hscr⟩ : ∃ l : List OpV, l.length = len1 ∧ Scr W a1 l := by
    obtain ⟨fuel, hf⟩ := h3
    rcases Go.Deep.open_slice Try.underlying65 hf with ⟨hcs, _⟩ | ⟨x, len, cap, m, n, D, Pl, hcs, _, hlc, hcm, hm, hd, hrow⟩
    · simp [Value.cells] at hcs
      obtain ⟨rfl, rfl, rfl⟩ := hcs
      exact ⟨[], rfl, .inl rfl⟩
    · simp [Value.cells] at hcs
      obtain ⟨rfl, rfl, rfl⟩ := hcs
      have hm' : m = cap1 := by simpa using hm
      subst hm'
      rw [cells67] at hrow
      obtain ⟨F, hF⟩ := Go.Deep.choose_lt (α := OpV) (p := fun i o => (∀ j, j < 6 → W.cell? ((x.add (i * 6)).add j) = [Value.int .i64 o.kd, .int .i64 o.a, .int .i64 o.b, .int .u64 (o.ep : Int), .slice o.sa o.st.length o.sc, .slice o.ka o.keep.length o.kc][j]?) ∧ OpOk W o) (n := len1) (fun i hi => by
        obtain ⟨cs', h1, h2⟩ := hrow i (by omega)
        obtain ⟨_, hlen, hcell⟩ := World.cells?_some h1
        obtain ⟨o, rfl, q1⟩ := op_of hlen h2
        exact ⟨o, hcell, q1⟩)
      refine ⟨(List.range len1).map F, by simp, ?_⟩
      by_cases h0 : len1 = 0
      · subst h0; exact .inl rfl
      · obtain ⟨b, off, spot⟩ := x
        have hc0 : W.cell? ((⟨b, off, spot⟩ : Addr).add (0 * 6)) = some (.int .i64 (F 0).kd) := (hF 0 (by omega)).1 0 (by omega)
        have hspot : spot = none := by simpa [Addr.add] using World.cell?_spot hc0
        subst hspot
        refine .inr ⟨b, off, rfl, ?_, fun j hj => ?_⟩
        · have := block_lt_of_cell hc0
          simpa [Addr.add] using this
        · have hj' : j < len1 := by simpa using hj
          obtain ⟨hc, q1⟩ := hF j hj'
          have e : ((List.range len1).map F)[j] = F j := by simp
          rw [e]
          have t0 := hc 0 (by omega)
          have t1 := hc 1 (by omega)
          have t2 := hc 2 (by omega)
          have t3 := hc 3 (by omega)
          have t4 := hc 4 (by omega)
          have t5 := hc 5 (by omega)
          simp only [Addr.add_lit] at t0 t1 t2 t3 t4 t5
          exact ⟨t0, t1, t2, t3, t4, t5, q1⟩
  clear hA0 hval0
  refine (plays_walk n0 n1 n2 a1 l cap1 W (i64_of wn0) (i64_of wn1) (i64_of wn2) hscr).mono fun e W' ⟨he, bel⟩ => ?_
  subst he
  exact ⟨_, rfl, _, _, _, [], _, [], hW', trodAll_mk1 (shut_bool Try.underlying4 _), (trodAll_cons_mk (shut_int Try.underlying3 wn0) (trodAll_cons_mk (shut_int Try.underlying3 wn1) (trodAll_cons_mk (shut_int Try.underlying3 wn2) (trodAll_cons_mk (Below.trod laidOut (by kernel_rfl) (of_decide_eq_true (by kernel_rfl)) k1 bel lt1) trodAll_mk0)))), rfl, bel.frame _, fun h => by cases h⟩

theorem snapPlays_holds : Rows.SnapPlaysSaid :=
  OpenClaim.holds_of_wide 7 Try.f7 rfl rfl rfl rfl rfl rfl rfl ⟨rfl, rfl, rfl, rfl, rfl⟩ rfl rfl rfl rfl rfl (by kernel_rfl) Try.func7 (by kernel_rfl)
    (of_decide_eq_true (by kernel_rfl)) (by unfold Func.isWrapper; first | (rw [if_pos (by decide +kernel)]; kernel_rfl) | (rw [if_neg (by decide +kernel)]; exact ⟨rfl, rfl⟩))
    (fun os started H enc _ => snapPlays_lifted os started H enc)
#print axioms snapPlays_holds
end Go.Proofs.Ytecljiefljgfmaa

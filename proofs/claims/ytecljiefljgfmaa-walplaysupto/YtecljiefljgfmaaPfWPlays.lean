/- WalPlays, where what comes in is of bulk at most 1048576: for every size, every place, every epoch and every script the log does just what the document's does. -/
import Derived.Test.YtecljiefljgfmaaRun03
import Derived.Test.YtecljiefljgfmaaLawWPlays
import Derived.ShutString
import Derived.ChangeOld
import Derived.Below
import Derived.JoinedCond
import Derived.Deep.Slices
import Derived.Deep.Grids
namespace Go.Proofs.Ytecljiefljgfmaa
open Go.ChangeShapes Go.WideShapes Go.ChangeAt Go.RowKit

theorem wcells43 : Try.prog.cellsOf 43 = 5 := by kernel_rfl
theorem wcells3 : Try.prog.cellsOf 3 = 1 := by kernel_rfl
theorem wcells9 : Try.prog.cellsOf 9 = 1 := by kernel_rfl
theorem wcells40 : Try.prog.cellsOf 40 = 1 := by kernel_rfl
theorem wcells41 : Try.prog.cellsOf 41 = 1 := by kernel_rfl
theorem wi64_of {n : Int} (h : (Lit.int .i64 n).wf = true) : I64 n := by
  have h2 : IntKind.i64.min ≤ n ∧ n ≤ 9223372036854775807 := by simpa [Lit.wf] using h
  have h3 : IntKind.i64.min = -9223372036854775808 := by decide
  exact ⟨by omega, h2.2⟩
theorem list5 {α : Type} {cs : List α} (h : cs.length = 5) : ∃ c0 c1 c2 c3 c4, cs = [c0, c1, c2, c3, c4] := by
  match cs, h with
  | [c0, c1, c2, c3, c4], _ => exact ⟨c0, c1, c2, c3, c4, rfl⟩

theorem strs_of {W : World} {x : Addr} {len cap : Nat} {ss : List ByteArray} (hl : len ≤ cap) (hz : ss.length = cap)
    (hcell : ∀ i, i < ss.length → W.cell? (x.add i) = some (.string (ss.getD i ByteArray.empty))) :
    (ss.take len).length = len ∧ Strs W (some x) (ss.take len) := by
  refine ⟨by simp; omega, ?_⟩
  by_cases h0 : len = 0
  · subst h0
    exact .inl (by simp)
  · obtain ⟨b, off, spot⟩ := x
    have hc0 := hcell 0 (by omega)
    have hspot : spot = none := by simpa [Addr.add] using World.cell?_spot hc0
    subst hspot
    refine .inr ⟨b, off, rfl, ?_, fun j hj => ?_⟩
    · have := block_lt_of_cell hc0
      simpa [Addr.add] using this
    · have hj' : j < ss.length := by simp at hj; omega
      have := hcell j hj'
      rw [Addr.add_lit] at this
      rw [this]
      simp only [List.getElem_take]
      rw [List.getD_eq_getElem?_getD, List.getElem?_eq_getElem hj']
      rfl
theorem bulk_strs {H : Type} (L : List ByteArray) : tot L ≤ 4 * Rows.uptoBulkAll (strs (H := H) L) := by
  induction L with
  | nil => simp [tot]
  | cons s r ih =>
    have e : strs (H := H) (s :: r) = .lit (.string s.data.toList) :: strs r := rfl
    have e2 : s.data.toList.length = s.size := by simp
    rw [e, tot]
    simp only [Rows.uptoBulkAll, Rows.uptoBulk]
    omega
theorem bulk_mem {H : Type} {l : List (DataW H)} {d : DataW H} (h : d ∈ l) : Rows.uptoBulk d ≤ Rows.uptoBulkAll l := by
  induction l with
  | nil => simp at h
  | cons a r ih =>
    simp only [Rows.uptoBulkAll]
    rcases List.mem_cons.1 h with rfl | h
    · omega
    · have := ih h
      omega

/-- One list of texts. -/
theorem open_texts {H : Type} {enc : TypeId × Value → H} {W : World} {fuel : Nat} {v : Value} {d : DataW H} {p : List MemPlace} (h : DataW.trod enc Try.prog W 0 (fun _ => true) true fuel 40 [v] = some (d, p)) (hb : Rows.uptoBulk d ≤ 1048576) :
    ∃ (a : Option Addr) (L : List ByteArray) (c : Nat), v = .slice a L.length c ∧ Strs W a L ∧ tot L ≤ 8388608 := by
  rcases open_strings Try.underlying40 Try.underlying9 wcells9 h with ⟨hcs, _⟩ | ⟨x, len, c, ss, hcs, _, hl, hm, hz, hd, hcell, hws⟩
  · simp at hcs
    exact ⟨none, [], 0, hcs, .inl rfl, by simp [tot]⟩
  · simp at hcs
    have hz' : ss.length = c := by simpa using hz
    obtain ⟨e1, e2⟩ := strs_of hl hz' hcell
    refine ⟨some x, ss.take len, c, by rw [e1, hcs], e2, ?_⟩
    have hd0 : d = .slice (strs (ss.take len)) (strs (ss.drop len)) := (Prod.mk.inj hd).1
    have hbb := bulk_strs (H := H) (ss.take len)
    rw [hd0] at hb
    simp only [Rows.uptoBulk] at hb
    omega

instance : Inhabited OpW := ⟨⟨0, 0, 0, none, [], 0, none, [], 0⟩⟩
/-- One call of the script, out of its five cells. -/
theorem opw_of {H : Type} {enc : TypeId × Value → H} {W : World} {n : Nat} {cs : List Value} {y : DataW H × List MemPlace} (hl : cs.length = 5) (h : DataW.trod enc Try.prog W 0 (fun _ => true) true n 43 cs = some y) (hbk : Rows.uptoBulk y.1 ≤ 1048576) :
    ∃ o : OpW, cs = [.int .i64 o.kd, .int .i64 o.a, .int .i64 o.b, .slice o.sa o.L.length o.sc, .slice o.ka o.keep.length o.kc] ∧ OpWOk W o := by
  obtain ⟨c0, c1, c2, c3, c4, rfl⟩ := list5 hl
  obtain ⟨xs, k, _, hy, _, hxl, hf⟩ := DataW.trod_struct Try.underlying43 h
  have g : ∀ j (hj : j < 5), ∃ x, xs[j]? = some x := fun j hj => ⟨xs[j]'(by rw [hxl]; exact hj), List.getElem?_eq_getElem _⟩
  obtain ⟨x0, e0⟩ := g 0 (by omega)
  obtain ⟨x1, e1⟩ := g 1 (by omega)
  obtain ⟨x2, e2⟩ := g 2 (by omega)
  obtain ⟨x3, e3⟩ := g 3 (by omega)
  obtain ⟨x4, e4⟩ := g 4 (by omega)
  have f0 : DataW.trod enc Try.prog W 0 (fun _ => true) true k 3 [c0] = some x0 := by
    have t : DataW.trod enc Try.prog W 0 (fun _ => true) true k 3 (([c0, c1, c2, c3, c4].drop 0).take (Try.prog.cellsOf 3)) = xs[0]? := hf 0 _ rfl
    rw [wcells3, e0] at t
    exact t
  have f1 : DataW.trod enc Try.prog W 0 (fun _ => true) true k 3 [c1] = some x1 := by
    have t : DataW.trod enc Try.prog W 0 (fun _ => true) true k 3 (([c0, c1, c2, c3, c4].drop 1).take (Try.prog.cellsOf 3)) = xs[1]? := hf 1 _ rfl
    rw [wcells3, e1] at t
    exact t
  have f2 : DataW.trod enc Try.prog W 0 (fun _ => true) true k 3 [c2] = some x2 := by
    have t : DataW.trod enc Try.prog W 0 (fun _ => true) true k 3 (([c0, c1, c2, c3, c4].drop 2).take (Try.prog.cellsOf 3)) = xs[2]? := hf 2 _ rfl
    rw [wcells3, e2] at t
    exact t
  have f3 : DataW.trod enc Try.prog W 0 (fun _ => true) true k 40 [c3] = some x3 := by
    have t : DataW.trod enc Try.prog W 0 (fun _ => true) true k 40 (([c0, c1, c2, c3, c4].drop 3).take (Try.prog.cellsOf 40)) = xs[3]? := hf 3 _ rfl
    rw [wcells40, e3] at t
    exact t
  have f4 : DataW.trod enc Try.prog W 0 (fun _ => true) true k 41 [c4] = some x4 := by
    have t : DataW.trod enc Try.prog W 0 (fun _ => true) true k 41 (([c0, c1, c2, c3, c4].drop 4).take (Try.prog.cellsOf 41)) = xs[4]? := hf 4 _ rfl
    rw [wcells41, e4] at t
    exact t
  obtain ⟨n0, h0, _, _⟩ := DataW.trod_int Try.underlying3 f0
  obtain ⟨n1, h1, _, w1⟩ := DataW.trod_int Try.underlying3 f1
  obtain ⟨n2, h2, _, _⟩ := DataW.trod_int Try.underlying3 f2
  simp only [List.cons.injEq, and_true] at h0 h1 h2
  subst h0 h1 h2
  have hb3 : Rows.uptoBulk x3.1 ≤ 1048576 := by
    have hm : x3.1 ∈ xs.map (·.1) := List.mem_map.2 ⟨x3, List.mem_of_getElem? e3, rfl⟩
    have h1 := bulk_mem hm
    rw [hy] at hbk
    simp only [Rows.uptoBulk] at hbk
    omega
  obtain ⟨d3, p3⟩ := x3
  obtain ⟨sa, L, sc, rfl, hst, htt⟩ := open_texts f3 hb3
  rcases Go.Deep.open_bools Try.underlying41 Try.underlying4 cells4 f4 with ⟨hcs, _⟩ | ⟨x, l, c, B, hcs, _, hl2, hm, hd, hcell⟩
  · simp only [List.cons.injEq, and_true] at hcs
    subst hcs
    exact ⟨⟨n0, n1, n2, sa, L, sc, none, [], 0⟩, rfl, hst, .inl rfl, wi64_of w1, htt⟩
  · simp only [List.cons.injEq, and_true] at hcs
    subst hcs
    obtain ⟨bl, e, hb⟩ := bools_of hl2 hcell
    subst e
    exact ⟨⟨n0, n1, n2, sa, L, sc, some x, bl, c⟩, rfl, hst, hb, wi64_of w1, htt⟩

set_option maxRecDepth 100000 in
theorem walPlays_contract (H : Type) (enc : TypeId × Value → H) (W : World) (base : Nat) (args : Array Value) (ds gs : List (DataW H)) (before : List MemPlace)
    (hval : ∀ (j : Nat) t v, Try.f3.params[j]? = some t → args[j]? = some v → Value.okWide Try.prog W .any base t v)
    (hW : DataW.Whole enc Try.prog Try.f3.params.toList Rows.walPlaysSpec.vars false W args.toList ds gs before) (hk : Rows.uptoSmall H (ds ++ gs) = true) :
    Calls Try.prog 3 args W fun e W' => ∃ v, e = .returned v ∧ Rows.walPlaysSpec.post enc Try.prog Try.f3 false true false false W args v W' := by
  have hW' := hW
  obtain ⟨p, q, hA0, hV, rfl, hfz, hnd⟩ := hW
  have hA : DataW.TrodAll enc Try.prog W 0 (fun _ => true) true Try.f3.params.toList args.toList ds p := hA0
  rw [Try.params3] at hA hval
  obtain ⟨v0, vs0, d0, ds0, p0, q0, hargs, rfl, rfl, h0, r0⟩ := trodAll_cons hA
  obtain ⟨v1, vs1, d1, ds1, p1, q1, rfl, rfl, rfl, h1, r1⟩ := trodAll_cons r0
  obtain ⟨v2, vs2, d2, ds2, p2, q2, rfl, rfl, rfl, h2, r2⟩ := trodAll_cons r1
  obtain ⟨v3, vs3, d3, ds3, p3, q3, rfl, rfl, rfl, h3, r3⟩ := trodAll_cons r2
  obtain ⟨v4, vs4, d4, ds4, p4, q4, rfl, rfl, rfl, h4, r4⟩ := trodAll_cons r3
  obtain ⟨rfl, rfl, rfl⟩ := trodAll_nil r4
  obtain rfl : args = #[v0, v1, v2, v3, v4] := by cases args; simp_all
  obtain ⟨rfl, rfl⟩ := trodVars_none hV
  have hbulk : Rows.uptoBulk d4 ≤ 1048576 := by
    have h : Rows.uptoBulkAll ([d0, d1, d2, d3, d4] ++ []) ≤ 1048576 := of_decide_eq_true hk
    simp only [List.append_nil, Rows.uptoBulkAll, Nat.add_zero] at h
    omega
  obtain ⟨n0, rfl, rfl, rfl, wn0⟩ := open_int Try.underlying3 (hval 0 3 v0 rfl rfl) h0
  obtain ⟨n1, rfl, rfl, rfl, wn1⟩ := open_int Try.underlying3 (hval 1 3 v1 rfl rfl) h1
  obtain ⟨n2, rfl, rfl, rfl, wn2⟩ := open_int Try.underlying3 (hval 2 3 v2 rfl rfl) h2
  obtain ⟨n3, rfl, rfl, rfl, wn3⟩ := open_int Try.underlying22 (hval 3 22 v3 rfl rfl) h3
  have w3' : 0 ≤ n3 ∧ n3 ≤ 18446744073709551615 := by simpa [Lit.wf, IntKind.min, IntKind.max, IntKind.signed, IntKind.bits] using wn3
  obtain ⟨e3, rfl⟩ : ∃ e3 : Nat, n3 = (e3 : Int) := ⟨n3.toNat, by omega⟩
  obtain ⟨a1, len1, cap1, rfl⟩ := okWide_slice Try.underlying23 (hval 4 23 v4 rfl rfl)
  have k1 := h4
  have lt1 : ∀ x ∈ p4, x.block < W.heap.size := by obtain ⟨m, hm⟩ := k1; exact DataW.trod_lt m _ _ _ hm
  obtain ⟨l, rfl, hscr⟩ : ∃ l : List OpW, l.length = len1 ∧ ScrW W a1 l := by
    obtain ⟨fuel, hf⟩ := h4
    rcases Go.Deep.open_slice Try.underlying23 hf with ⟨hcs, _⟩ | ⟨x, len, cap, m, n, D, Pl, hcs, _, hlc, hcm, hm, hd, hrow⟩
    · simp [Value.cells] at hcs
      obtain ⟨rfl, rfl, rfl⟩ := hcs
      exact ⟨[], rfl, .inl rfl⟩
    · simp [Value.cells] at hcs
      obtain ⟨rfl, rfl, rfl⟩ := hcs
      have hm' : m = cap1 := by simpa using hm
      subst hm'
      rw [wcells43] at hrow
      have hd0 : d4 = .slice ((List.range len1).map D) ((List.range (m - len1)).map fun j => D (len1 + j)) := (Prod.mk.inj hd).1
      have hDb : ∀ i, i < len1 → Rows.uptoBulk (D i) ≤ 1048576 := by
        intro i hi
        have hmem : D i ∈ (List.range len1).map D := List.mem_map.2 ⟨i, List.mem_range.2 hi, rfl⟩
        have h1 := bulk_mem hmem
        rw [hd0] at hbulk
        simp only [Rows.uptoBulk] at hbulk
        omega
      obtain ⟨F, hF⟩ := Go.Deep.choose_lt (α := OpW) (p := fun i o => (∀ j, j < 5 → W.cell? ((x.add (i * 5)).add j) = [Value.int .i64 o.kd, .int .i64 o.a, .int .i64 o.b, .slice o.sa o.L.length o.sc, .slice o.ka o.keep.length o.kc][j]?) ∧ OpWOk W o) (n := len1) (fun i hi => by
        obtain ⟨cs', h1, h2⟩ := hrow i (by omega)
        obtain ⟨_, hlen, hcell⟩ := World.cells?_some h1
        obtain ⟨o, rfl, q1⟩ := opw_of hlen h2 (hDb i hi)
        exact ⟨o, hcell, q1⟩)
      refine ⟨(List.range len1).map F, by simp, ?_⟩
      by_cases h0 : len1 = 0
      · subst h0; exact .inl rfl
      · obtain ⟨b, off, spot⟩ := x
        have hc0 : W.cell? ((⟨b, off, spot⟩ : Addr).add (0 * 5)) = some (.int .i64 (F 0).kd) := (hF 0 (by omega)).1 0 (by omega)
        have hspot : spot = none := by simpa [Addr.add] using World.cell?_spot hc0
        subst hspot
        refine .inr ⟨b, off, rfl, ?_, fun j hj => ?_⟩
        · have := block_lt_of_cell hc0
          simpa [Addr.add] using this
        · have hj' : j < len1 := by simpa using hj
          obtain ⟨hc, q1⟩ := hF j hj'
          have e : ((List.range len1).map F)[j] = F j := by simp
          rw [e]
          have t0 := hc 0 (by omega)
          have t1 := hc 1 (by omega)
          have t2 := hc 2 (by omega)
          have t3 := hc 3 (by omega)
          have t4 := hc 4 (by omega)
          simp only [Addr.add_lit] at t0 t1 t2 t3 t4
          exact ⟨t0, t1, t2, t3, t4, q1⟩
  clear hA0
  refine (wplays_walk n0 n1 n2 e3 a1 l cap1 W (wi64_of wn1) (wi64_of wn2) (by omega) hscr).mono fun e W' ⟨he, bel⟩ => ?_
  subst he
  exact ⟨_, rfl, _, _, _, [], _, [], hW', trodAll_mk1 (shut_bool Try.underlying4 _), (trodAll_cons_mk (shut_int Try.underlying3 wn0) (trodAll_cons_mk (shut_int Try.underlying3 wn1) (trodAll_cons_mk (shut_int Try.underlying3 wn2) (trodAll_cons_mk (shut_int Try.underlying22 wn3) (trodAll_cons_mk (Below.trod laidOut (by kernel_rfl) (of_decide_eq_true (by kernel_rfl)) k1 bel lt1) trodAll_mk0))))), rfl, bel.frame _, fun h => by cases h⟩

set_option maxRecDepth 100000 in
theorem walPlays_lifted (os : Os) (started : os.Started) (H : Type) (enc : TypeId × Value → H) (F : Stop.Interp) :
    ReturnsInHanded {} Try.checked os 3 .any ((Rows.OpenSpec.upto Rows.walPlaysSpec).pre6 enc Try.prog Try.f3 Rows.walPlaysUptoRow.domain false) (((Rows.OpenSpec.upto Rows.walPlaysSpec).at F).post enc Try.prog Try.f3 false true false false) := by
  refine returnsInHanded_of_cond (C := Try.checked) (s := Rows.OpenSpec.upto Rows.walPlaysSpec) (k := Rows.uptoSmall) rfl ownK started (by kernel_rfl) Try.func3
    (OpenSpec.witness (enc := enc) (C := Try.checked) (s := Rows.OpenSpec.upto Rows.walPlaysSpec) (k := Rows.uptoSmall) rfl false ⟨#[], #[.int .i64 0, .int .i64 0, .int .i64 0, .int .u64 0, .slice none 0 0], []⟩ 8 (by kernel_rfl) (by kernel_rfl) (by kernel_rfl)
      (x := ([.lit (.int .i64 0), .lit (.int .i64 0), .lit (.int .i64 0), .lit (.int .u64 0), .nil], [], [])) (by kernel_rfl) rfl (by kernel_rfl)) ?_
  intro W base args ds gs before hval hW _ hk _
  exact walPlays_contract H enc W base args ds gs before hval hW hk

theorem walPlays_holds : Rows.WalPlaysUptoSaid :=
  OpenClaim.holds_of_cond 3 Try.f3 rfl rfl rfl rfl rfl rfl rfl ⟨rfl, rfl, rfl, rfl, rfl⟩ rfl rfl rfl rfl rfl (by kernel_rfl) Try.func3 (by kernel_rfl)
    (of_decide_eq_true (by kernel_rfl)) (by unfold Func.isWrapper; first | (rw [if_pos (by decide +kernel)]; kernel_rfl) | (rw [if_neg (by decide +kernel)]; exact ⟨rfl, rfl⟩))
    (fun os started H enc _ F => walPlays_lifted os started H enc F)
#print axioms walPlays_holds
end Go.Proofs.Ytecljiefljgfmaa

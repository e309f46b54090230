/-
  What came in, told by lists: a request.
-/
import Derived.Test.YtgpjjlkkfddjnaaDoorHdA
import Derived.Test.YtgpjjlkkfddjnaaDoorOpX
import Derived.Deep.Slices
import Derived.Deep.SlicePairs
import Derived.Lib.SmallJoins
namespace Go.Proofs.YtgpjjlkkfddjnaaDoor
open Go.ChangeShapes Go.WideShapes Go.ChangeAt Go.RowKit
open Go.ChangeMaps (open_string shut_string)

theorem cells97 : Tryd.prog.cellsOf 97 = 2 := by kernel_rfl
theorem cells42 : Tryd.prog.cellsOf 42 = 4 := by kernel_rfl
theorem types42 : Tryd.prog.cellTypes Tryd.prog.depth 42 = some [9, 9, 40, 22] := by kernel_rfl
theorem bulk_hdr {H : Type} (F : Nat → ByteArray × ByteArray) (D0 D1 : Nat → DataW H) : ∀ l : List Nat, (∀ i ∈ l, D0 i = .lit (.string (F i).1.data.toList) ∧ D1 i = .lit (.string (F i).2.data.toList)) →
    l.length ≤ Rows.uptoBulkAll (l.map fun i => DataW.agg [D0 i, D1 i])
  | [], _ => by simp
  | i :: l, h => by
    have ih := bulk_hdr F D0 D1 l fun j hj => h j (by simp [hj])
    obtain ⟨e0, e1⟩ := h i (by simp)
    show l.length + 1 ≤ Rows.uptoBulkAll (DataW.agg [D0 i, D1 i] :: l.map fun i => DataW.agg [D0 i, D1 i])
    rw [e0, e1]
    simp only [Rows.uptoBulkAll, Rows.uptoBulk]
    omega
theorem bulk_val {H : Type} (F : Nat → ByteArray × ByteArray) (D0 D1 : Nat → DataW H) : ∀ l : List Nat, (∀ i ∈ l, D0 i = .lit (.string (F i).1.data.toList) ∧ D1 i = .lit (.string (F i).2.data.toList)) →
    ∀ i ∈ l, (F i).2.data.toList.length ≤ Rows.uptoBulkAll (l.map fun i => DataW.agg [D0 i, D1 i])
  | [], _ => by simp
  | i :: l, h => by
    have ih := bulk_val F D0 D1 l fun j hj => h j (by simp [hj])
    obtain ⟨e0, e1⟩ := h i (by simp)
    intro k hk
    show _ ≤ Rows.uptoBulkAll (DataW.agg [D0 i, D1 i] :: l.map fun i => DataW.agg [D0 i, D1 i])
    rw [e0, e1]
    simp only [Rows.uptoBulkAll, Rows.uptoBulk]
    rcases List.mem_cons.1 hk with rfl | hk
    · omega
    · have := ih k hk
      omega
/-- A slice of headers that came in. -/
theorem open_hdrs {H : Type} {enc : TypeId × Value → H} {W : World} {t e : TypeId} {f0 f1 : Field} (ht : Tryd.prog.underlying t = some (.slice e)) (he : Tryd.prog.underlying e = some (.struct #[f0, f1])) (ce : Tryd.prog.cellsOf e = 2) (o0 : f0.offset = 0) (o1 : f1.offset = 1) (t0 : f0.type = 9) (t1 : f1.type = 9)
    {fuel : Nat} {c : Value} {x : DataW H × List MemPlace} (h : DataW.trod enc Tryd.prog W 0 (fun _ => true) true fuel t [c] = some x) :
    ∃ (a : Option Addr) (L : List Hd) (cap : Nat), c = .slice a L.length cap ∧ Hdrs W a L ∧ L.length ≤ Rows.uptoBulk x.1 ∧ ∀ h ∈ L, h.2.length ≤ Rows.uptoBulk x.1 := by
  rcases Go.Deep.open_slice_pairs ht he ce o0 o1 (by rw [t0]; exact cells9) (by rw [t1]; exact cells9) h with ⟨hcs, _⟩ | ⟨a, len, cap, m, n, V0, V1, D0, D1, P0, P1, hcs, _, hl, hm, hmm, hd, hrow⟩
  · simp only [List.cons.injEq, and_true] at hcs
    exact ⟨none, [], 0, hcs, .inl rfl, by simp, by simp⟩
  · simp only [List.cons.injEq, and_true] at hcs
    have hm' : m = cap := by simpa using hmm
    obtain ⟨F, hF⟩ := Go.Deep.choose_lt (α := ByteArray × ByteArray) (p := fun i o => W.cell? (a.add (i * 2)) = some (.string o.1) ∧ W.cell? (a.add (i * 2 + 1)) = some (.string o.2) ∧ D0 i = .lit (.string o.1.data.toList) ∧ D1 i = .lit (.string o.2.data.toList)) (n := len) (fun i hi => by
      obtain ⟨g0, g1, k0, k1⟩ := hrow i (by omega)
      rw [t0] at k0
      rw [t1] at k1
      obtain ⟨s0, r0, q0, _⟩ := DataW.trod_string Tryd.underlying9 k0
      obtain ⟨s1, r1, q1, _⟩ := DataW.trod_string Tryd.underlying9 k1
      simp only [List.cons.injEq, and_true] at r0 r1
      exact ⟨(s0, s1), by rw [g0, r0], by rw [g1, r1], (Prod.mk.inj q0).1, (Prod.mk.inj q1).1⟩)
    refine ⟨some a, (List.range len).map (fun i => ((F i).1.data.toList, (F i).2.data.toList)), cap, by rw [hcs]; simp, ?_, ?_, ?_⟩
    · by_cases h0 : len = 0
      · subst h0; exact .inl rfl
      · obtain ⟨b, off, spot⟩ := a
        have hc0 := (hF 0 (by omega)).1
        have hspot : spot = none := by simpa [Addr.add] using World.cell?_spot hc0
        subst hspot
        refine .inr ⟨b, off, rfl, ?_, fun j hj => ?_⟩
        · have := block_lt_of_cell hc0
          simpa [Addr.add] using this
        · have hj' : j < len := by simpa using hj
          have hc := hF j hj'
          have e : ((List.range len).map (fun i => ((F i).1.data.toList, (F i).2.data.toList)))[j] = ((F j).1.data.toList, (F j).2.data.toList) := by simp
          rw [e]
          have u0 := hc.1
          have u1 := hc.2.1
          rw [Addr.add_lit] at u0 u1
          have es : ∀ s : ByteArray, (⟨s.data.toList.toArray⟩ : ByteArray) = s := fun s => by cases s; simp
          simp only [es]
          exact ⟨u0, by rw [Nat.add_assoc]; exact u1⟩
    · have hb := bulk_hdr F D0 D1 (List.range len) fun i hi => (hF i (List.mem_range.1 hi)).2.2
      rw [hd]
      simp only [Rows.uptoBulk]
      simp only [List.length_map, List.length_range] at hb ⊢
      omega
    · have hb := bulk_val F D0 D1 (List.range len) fun i hi => (hF i (List.mem_range.1 hi)).2.2
      rw [hd]
      intro h hh
      obtain ⟨i, hi, rfl⟩ := List.mem_map.1 hh
      have := hb i hi
      simp only [Rows.uptoBulk]
      omega
set_option maxRecDepth 20000 in
theorem row_okWide {W : World} {r : Reach} {base : Nat} {v0 v1 v2 v3 : Value} (hv : Value.okWide Tryd.prog W r base 42 (.agg #[v0, v1, v2, v3])) : Value.okWide Tryd.prog W r base 22 v3 := by
  simp only [Value.okWide, Tryd.underlying42] at hv
  obtain ⟨cs, e, -, ts, ht, -, hc⟩ := hv
  rw [types42] at ht
  obtain rfl := (Option.some.inj ht).symm
  obtain rfl := (Value.agg.inj e).symm
  obtain ⟨u, hu, hw⟩ := hc 3 v3 rfl
  have hu' : u = 22 := by simpa using hu.symm
  subst hu'
  simpa only [Value.okWide, Tryd.underlying22] using hw
set_option maxRecDepth 20000 in
/-- A request that came in. -/
theorem open_req {H : Type} {enc : TypeId × Value → H} {W : World} {r : Reach} {base : Nat} {v : Value} {d : DataW H} {p : List MemPlace} (hv : Value.okWide Tryd.prog W r base 42 v) (h : DataW.Trod enc Tryd.prog W 0 (fun _ => true) true 42 v d p) :
    ∃ (m t : List UInt8) (hs : List Hd) (b : List UInt8) (a : Option Addr) (c : Nat) (ba : Option Addr) (bc : Nat), v = .agg #[.string ⟨m.toArray⟩, .string ⟨t.toArray⟩, .slice a hs.length c, .slice ba b.length bc] ∧ Hdrs W a hs ∧ Sl W ba bc b ∧ b.length ≤ Rows.uptoBulk d ∧ hs.length ≤ Rows.uptoBulk d ∧ ∀ h ∈ hs, h.2.length ≤ Rows.uptoBulk d := by
  have hv2 := hv
  obtain ⟨v0, v1, v2, v3, y0, y1, y2, y3, n, rfl, rfl, -, g0, g1, g2, g3⟩ := Go.Joins.open_agg4 Tryd.underlying42 (by kernel_rfl) cells42 hv h
  obtain ⟨s0, r0, q0, _⟩ := DataW.trod_string Tryd.underlying9 g0
  obtain ⟨s1, r1, q1, _⟩ := DataW.trod_string Tryd.underlying9 g1
  obtain ⟨a, hs, c, rfl, hH, hl, hl2⟩ := open_hdrs Tryd.underlying40 Tryd.underlying97 cells97 rfl rfl rfl rfl g2
  have h3 := row_okWide hv2
  obtain ⟨z, zl, zc, rfl⟩ := okWide_slice Tryd.underlying22 h3
  obtain ⟨ba, b, bc, e3, hB, hbl⟩ := open_sl (enc := enc) (d := y3.1) (p := y3.2) h3 ⟨n, by simpa [Value.cells] using g3⟩
  rw [e3]
  simp only [List.cons.injEq, and_true] at r0 r1
  subst r0 r1
  have es : ∀ s : ByteArray, (⟨s.data.toList.toArray⟩ : ByteArray) = s := fun s => by cases s; simp
  refine ⟨s0.data.toList, s1.data.toList, hs, b, a, c, ba, bc, by rw [es, es], hH, hB, ?_, ?_, ?_⟩
  · simp only [Rows.uptoBulk, Rows.uptoBulkAll]
    omega
  · simp only [Rows.uptoBulk, Rows.uptoBulkAll]
    omega
  · intro h hh
    have := hl2 h hh
    simp only [Rows.uptoBulk, Rows.uptoBulkAll]
    omega
end Go.Proofs.YtgpjjlkkfddjnaaDoor

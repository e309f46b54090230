/-
  What came in: a request, and a list of texts.
-/
import Derived.Test.YtnmffehmjgknkaaGreatDoorOpA
import Derived.Test.YtnmffehmjgknkaaGreatDoorRunQ
import Derived.Lib.SmallJoins
import Derived.SliceStrings
import Derived.Deep.SlicePairs
namespace Go.Proofs.YtnmffehmjgknkaaGreatDoor
open Go.ChangeShapes Go.WideShapes Go.ChangeAt Go.RowKit

theorem cells61 : Tryz.prog.cellsOf 61 = 2 := by kernel_rfl
theorem bulk_hdr {H : Type} (F : Nat → ByteArray × ByteArray) (D0 D1 : Nat → DataW H) : ∀ l : List Nat, (∀ i ∈ l, D0 i = .lit (.string (F i).1.data.toList) ∧ D1 i = .lit (.string (F i).2.data.toList)) →
    l.length ≤ Rows.uptoBulkAll (l.map fun i => DataW.agg [D0 i, D1 i])
  | [], _ => by simp
  | i :: l, h => by
    have ih := bulk_hdr F D0 D1 l fun j hj => h j (by simp [hj])
    obtain ⟨e0, e1⟩ := h i (by simp)
    show l.length + 1 ≤ Rows.uptoBulkAll (DataW.agg [D0 i, D1 i] :: l.map fun i => DataW.agg [D0 i, D1 i])
    rw [e0, e1]
    simp only [Rows.uptoBulkAll, Rows.uptoBulk]
    omega
theorem bulk_hdr2 {H : Type} (F : Nat → ByteArray × ByteArray) (D0 D1 : Nat → DataW H) : ∀ l : List Nat, (∀ i ∈ l, D0 i = .lit (.string (F i).1.data.toList) ∧ D1 i = .lit (.string (F i).2.data.toList)) →
    tot (l.map fun i => ((F i).1.data.toList, (F i).2.data.toList)) ≤ 2 * Rows.uptoBulkAll (l.map fun i => DataW.agg [D0 i, D1 i])
  | [], _ => by simp [tot]
  | i :: l, h => by
    have ih := bulk_hdr2 F D0 D1 l fun j hj => h j (by simp [hj])
    obtain ⟨e0, e1⟩ := h i (by simp)
    show tot (_ :: l.map fun i => ((F i).1.data.toList, (F i).2.data.toList)) ≤ 2 * Rows.uptoBulkAll (DataW.agg [D0 i, D1 i] :: l.map fun i => DataW.agg [D0 i, D1 i])
    rw [e0, e1, tot_cons]
    simp only [Rows.uptoBulkAll, Rows.uptoBulk]
    omega
/-- A slice of headers that came in. -/
theorem open_hdrs2 {H : Type} {enc : TypeId × Value → H} {W : World} {t e : TypeId} {f0 f1 : Field} (ht : Tryz.prog.underlying t = some (.slice e)) (he : Tryz.prog.underlying e = some (.struct #[f0, f1])) (ce : Tryz.prog.cellsOf e = 2) (o0 : f0.offset = 0) (o1 : f1.offset = 1) (t0 : f0.type = 9) (t1 : f1.type = 9)
    {fuel : Nat} {c : Value} {x : DataW H × List MemPlace} (h : DataW.trod enc Tryz.prog W 0 (fun _ => true) true fuel t [c] = some x) :
    ∃ (a : Option Addr) (L : List Hd) (cap : Nat), c = .slice a L.length cap ∧ Hdrs W a L ∧ L.length ≤ Rows.uptoBulk x.1 ∧ tot L ≤ 2 * Rows.uptoBulk x.1 := by
  rcases Go.Deep.open_slice_pairs ht he ce o0 o1 (by rw [t0]; exact cells9) (by rw [t1]; exact cells9) h with ⟨hcs, _⟩ | ⟨a, len, cap, m, n, V0, V1, D0, D1, P0, P1, hcs, _, hl, hm, hmm, hd, hrow⟩
  · simp only [List.cons.injEq, and_true] at hcs
    exact ⟨none, [], 0, hcs, .inl rfl, by simp, by simp [tot]⟩
  · simp only [List.cons.injEq, and_true] at hcs
    have hm' : m = cap := by simpa using hmm
    obtain ⟨F, hF⟩ := Go.Deep.choose_lt (α := ByteArray × ByteArray) (p := fun i o => W.cell? (a.add (i * 2)) = some (.string o.1) ∧ W.cell? (a.add (i * 2 + 1)) = some (.string o.2) ∧ D0 i = .lit (.string o.1.data.toList) ∧ D1 i = .lit (.string o.2.data.toList)) (n := len) (fun i hi => by
      obtain ⟨g0, g1, k0, k1⟩ := hrow i (by omega)
      rw [t0] at k0
      rw [t1] at k1
      obtain ⟨s0, r0, q0, _⟩ := DataW.trod_string Tryz.underlying9 k0
      obtain ⟨s1, r1, q1, _⟩ := DataW.trod_string Tryz.underlying9 k1
      simp only [List.cons.injEq, and_true] at r0 r1
      exact ⟨(s0, s1), by rw [g0, r0], by rw [g1, r1], (Prod.mk.inj q0).1, (Prod.mk.inj q1).1⟩)
    refine ⟨some a, (List.range len).map (fun i => ((F i).1.data.toList, (F i).2.data.toList)), cap, by rw [hcs]; simp, ?_, ?_, ?_⟩
    · by_cases h0 : len = 0
      · subst h0; exact .inl rfl
      · obtain ⟨b, off, spot⟩ := a
        have hc0 := (hF 0 (by omega)).1
        have hspot : spot = none := by simpa [Addr.add] using World.cell?_spot hc0
        subst hspot
        refine .inr ⟨b, off, rfl, ?_, fun j hj => ?_⟩
        · have := block_lt_of_cell hc0
          simpa [Addr.add] using this
        · have hj' : j < len := by simpa using hj
          have hc := hF j hj'
          have e : ((List.range len).map (fun i => ((F i).1.data.toList, (F i).2.data.toList)))[j] = ((F j).1.data.toList, (F j).2.data.toList) := by simp
          rw [e]
          have u0 := hc.1
          have u1 := hc.2.1
          rw [Addr.add_lit] at u0 u1
          have es : ∀ s : ByteArray, (⟨s.data.toList.toArray⟩ : ByteArray) = s := fun s => by cases s; simp
          simp only [es]
          exact ⟨u0, by rw [Nat.add_assoc]; exact u1⟩
    · have hb := bulk_hdr F D0 D1 (List.range len) fun i hi => (hF i (List.mem_range.1 hi)).2.2
      rw [hd]
      simp only [Rows.uptoBulk]
      simp only [List.length_map, List.length_range] at hb ⊢
      omega
    · have hb := bulk_hdr2 F D0 D1 (List.range len) fun i hi => (hF i (List.mem_range.1 hi)).2.2
      rw [hd]
      simp only [Rows.uptoBulk]
      omega
theorem row_bulk {H : Type} {enc : TypeId × Value → H} {W : World} {n : Nat} {v : Value} {x : DataW H × List MemPlace} (h : DataW.trod enc Tryz.prog W 0 (fun _ => true) true n 23 [v] = some x) :
    ∃ (a : Option Addr) (l : List UInt8) (c : Nat), v = .slice a l.length c ∧ Bytes W a l ∧ l.length ≤ Rows.uptoBulk x.1 := by
  rcases open_ints Tryz.underlying23 Tryz.underlying5 cells5 h with ⟨hcs, hd⟩ | ⟨y, l, c, zs, hcs, _, hl, hm, hz, hd, hcell, hwz⟩
  · have e : v = .slice none 0 0 := by simpa using hcs
    subst e
    exact ⟨none, [], 0, rfl, .inl rfl, by simp⟩
  · have e : v = .slice (some y) l c := by simpa using hcs
    subst e
    have hz' : zs.length = c := by simpa using hz
    obtain ⟨m, e, hb⟩ := bytes_of_ints hl hz' hcell hwz
    subst e
    refine ⟨some y, m, c, rfl, hb, ?_⟩
    have hd0 : x.1 = .slice (lits .u8 (zs.take m.length)) (lits .u8 (zs.drop m.length)) := congrArg Prod.fst hd
    have hb := bulk_lits (H := H) .u8 (zs.take m.length)
    rw [hd0]
    simp only [Rows.uptoBulk]
    simp only [List.length_take] at hb
    omega
theorem cells25 : Tryz.prog.cellsOf 25 = 4 := by kernel_rfl
set_option maxRecDepth 20000 in
/-- A request that came in. -/
theorem open_req {H : Type} {enc : TypeId × Value → H} {W : World} {r : Reach} {base : Nat} {v : Value} {d : DataW H} {p : List MemPlace} (hv : Value.okWide Tryz.prog W r base 25 v) (h : DataW.Trod enc Tryz.prog W 0 (fun _ => true) true 25 v d p) :
    ∃ (m t : List UInt8) (hs : List Hd) (b : List UInt8) (a : Option Addr) (c : Nat) (ba : Option Addr) (bc : Nat), v = .agg #[.string ⟨m.toArray⟩, .string ⟨t.toArray⟩, .slice a hs.length c, .slice ba b.length bc] ∧ m.length ≤ Rows.uptoBulk d ∧ t.length ≤ Rows.uptoBulk d ∧ Hdrs W a hs ∧ Bytes W ba b ∧ b.length ≤ Rows.uptoBulk d ∧ hs.length ≤ Rows.uptoBulk d ∧ tot hs ≤ 2 * Rows.uptoBulk d := by
  obtain ⟨v0, v1, v2, v3, y0, y1, y2, y3, n, rfl, rfl, -, g0, g1, g2, g3⟩ := Go.Joins.open_agg4 Tryz.underlying25 (by kernel_rfl) cells25 hv h
  obtain ⟨s0, r0, q0, _⟩ := DataW.trod_string Tryz.underlying9 g0
  obtain ⟨s1, r1, q1, _⟩ := DataW.trod_string Tryz.underlying9 g1
  obtain ⟨a, hs, c, rfl, hH, hl, hl2⟩ := open_hdrs2 Tryz.underlying22 Tryz.underlying61 cells61 rfl rfl rfl rfl g2
  obtain ⟨ba, b, bc, rfl, hB, hbl⟩ := row_bulk g3
  simp only [List.cons.injEq, and_true] at r0 r1
  subst r0 r1
  have es : ∀ s : ByteArray, (⟨s.data.toList.toArray⟩ : ByteArray) = s := fun s => by cases s; simp
  have e0 : y0.1 = .lit (.string s0.data.toList) := congrArg Prod.fst q0
  have e1 : y1.1 = .lit (.string s1.data.toList) := congrArg Prod.fst q1
  have z0 : s0.data.toList.length = s0.size := by simp
  have z1 : s1.data.toList.length = s1.size := by simp
  refine ⟨s0.data.toList, s1.data.toList, hs, b, a, c, ba, bc, by rw [es, es], ?_, ?_, hH, hB, ?_, ?_, ?_⟩ <;> (rw [e0, e1]; simp only [Rows.uptoBulk, Rows.uptoBulkAll]; omega)
theorem bulk_strs {H : Type} (L : List ByteArray) : Lib.lens (L.map (·.data.toList)) + L.length ≤ 2 * Rows.uptoBulkAll (strs (H := H) L) := by
  induction L with
  | nil => simp [Lib.lens]
  | cons s r ih =>
    have e : strs (H := H) (s :: r) = .lit (.string s.data.toList) :: strs r := rfl
    rw [e]
    simp only [Rows.uptoBulkAll, Rows.uptoBulk]
    simp only [Lib.lens, List.map_cons, List.sum_cons, List.length_cons] at ih ⊢
    omega
theorem strs_of {W : World} {x : Addr} {len cap : Nat} {ss : List ByteArray} (hl : len ≤ cap) (hz : ss.length = cap)
    (hcell : ∀ i, i < ss.length → W.cell? (x.add i) = some (.string (ss.getD i ByteArray.empty))) :
    (ss.take len).length = len ∧ Strs W (some x) (ss.take len) := by
  refine ⟨by simp; omega, ?_⟩
  by_cases h0 : len = 0
  · subst h0
    exact .inl (by simp)
  · obtain ⟨b, off, spot⟩ := x
    have hc0 := hcell 0 (by omega)
    have hspot : spot = none := by simpa [Addr.add] using World.cell?_spot hc0
    subst hspot
    refine .inr ⟨b, off, rfl, ?_, fun j hj => ?_⟩
    · have := block_lt_of_cell hc0
      simpa [Addr.add] using this
    · have hj' : j < ss.length := by simp at hj; omega
      have := hcell j hj'
      rw [Addr.add_lit] at this
      rw [this]
      simp only [List.getElem_take]
      rw [List.getD_eq_getElem?_getD, List.getElem?_eq_getElem hj']
      rfl
set_option maxRecDepth 20000 in
/-- A slice of texts that came in. -/
theorem open_strs {H : Type} {enc : TypeId × Value → H} {W : World} {r : Reach} {base : Nat} {v : Value} {d : DataW H} {p : List MemPlace} (hv : Value.okWide Tryz.prog W r base 26 v) (h : DataW.Trod enc Tryz.prog W 0 (fun _ => true) true 26 v d p) :
    ∃ (a : Option Addr) (l : List (List UInt8)) (cap : Nat), v = .slice a l.length cap ∧ Strs W a (toB l) ∧ Lib.lens l + l.length ≤ 2 * Rows.uptoBulk d ∧ l.length ≤ cap := by
  obtain ⟨a, len, cap, rfl⟩ := okWide_slice Tryz.underlying26 hv
  obtain ⟨fuel, hf⟩ := h
  rcases open_strings Tryz.underlying26 Tryz.underlying9 cells9 hf with ⟨hcs, _⟩ | ⟨x, l, c, ss, hcs, _, hl, hm, hz, hd, hcell, hws⟩
  · simp [Value.cells] at hcs
    obtain ⟨rfl, rfl, rfl⟩ := hcs
    exact ⟨none, [], 0, rfl, .inl rfl, by simp [Lib.lens], Nat.le_refl _⟩
  · simp [Value.cells] at hcs
    obtain ⟨rfl, rfl, rfl⟩ := hcs
    have hz' : ss.length = cap := by simpa using hz
    obtain ⟨e1, e2⟩ := strs_of hl hz' hcell
    have e3 : toB ((ss.take len).map (·.data.toList)) = ss.take len := by
      unfold toB
      rw [List.map_map]
      refine (List.map_congr_left fun s _ => ?_).trans (List.map_id _)
      cases s
      simp
    refine ⟨some x, (ss.take len).map (·.data.toList), cap, by rw [List.length_map, e1], by rw [e3]; exact e2, ?_, by rw [List.length_map, e1]; exact hl⟩
    have hd0 : d = .slice (strs (ss.take len)) (strs (ss.drop len)) := (Prod.mk.inj hd).1
    have hb := bulk_strs (H := H) (ss.take len)
    rw [hd0, List.length_map]
    simp only [Rows.uptoBulk]
    omega
end Go.Proofs.YtnmffehmjgknkaaGreatDoor

/-
  What came in, told by lists: a list of headers.
-/
import Derived.Test.YtmodmeabjhaklabGreatDoorRunC
import Derived.Test.YtmodmeabjhaklabGreatDoorRows
import Derived.WalkKit
import Derived.ProofKit
import Derived.OpenShut
import Derived.Deep.Slices
import Derived.Deep.SlicePairs
import Derived.SizedLaws
import Derived.ChangeSlices
namespace Go.Proofs.YtmodmeabjhaklabGreatDoor
open Go.ChangeShapes Go.WideShapes Go.ChangeAt Go.RowKit

theorem cells9 : Tryz.prog.cellsOf 9 = 1 := by kernel_rfl
theorem cells31 : Tryz.prog.cellsOf 31 = 2 := by kernel_rfl
theorem bulk_hdr {H : Type} (F : Nat → ByteArray × ByteArray) (D0 D1 : Nat → DataW H) : ∀ l : List Nat, (∀ i ∈ l, D0 i = .lit (.string (F i).1.data.toList) ∧ D1 i = .lit (.string (F i).2.data.toList)) →
    l.length ≤ Rows.uptoBulkAll (l.map fun i => DataW.agg [D0 i, D1 i])
  | [], _ => by simp
  | i :: l, h => by
    have ih := bulk_hdr F D0 D1 l fun j hj => h j (by simp [hj])
    obtain ⟨e0, e1⟩ := h i (by simp)
    show l.length + 1 ≤ Rows.uptoBulkAll (DataW.agg [D0 i, D1 i] :: l.map fun i => DataW.agg [D0 i, D1 i])
    rw [e0, e1]
    simp only [Rows.uptoBulkAll, Rows.uptoBulk]
    omega
/-- A slice of headers that came in. -/
theorem open_hdrs {H : Type} {enc : TypeId × Value → H} {W : World} {t e : TypeId} {f0 f1 : Field} (ht : Tryz.prog.underlying t = some (.slice e)) (he : Tryz.prog.underlying e = some (.struct #[f0, f1])) (ce : Tryz.prog.cellsOf e = 2) (o0 : f0.offset = 0) (o1 : f1.offset = 1) (t0 : f0.type = 9) (t1 : f1.type = 9)
    {fuel : Nat} {c : Value} {x : DataW H × List MemPlace} (h : DataW.trod enc Tryz.prog W 0 (fun _ => true) true fuel t [c] = some x) :
    ∃ (a : Option Addr) (L : List Hd) (cap : Nat), c = .slice a L.length cap ∧ Hdrs W a L ∧ L.length ≤ Rows.uptoBulk x.1 := by
  rcases Go.Deep.open_slice_pairs ht he ce o0 o1 (by rw [t0]; exact cells9) (by rw [t1]; exact cells9) h with ⟨hcs, _⟩ | ⟨a, len, cap, m, n, V0, V1, D0, D1, P0, P1, hcs, _, hl, hm, hmm, hd, hrow⟩
  · simp only [List.cons.injEq, and_true] at hcs
    exact ⟨none, [], 0, hcs, .inl rfl, by simp⟩
  · simp only [List.cons.injEq, and_true] at hcs
    have hm' : m = cap := by simpa using hmm
    obtain ⟨F, hF⟩ := Go.Deep.choose_lt (α := ByteArray × ByteArray) (p := fun i o => W.cell? (a.add (i * 2)) = some (.string o.1) ∧ W.cell? (a.add (i * 2 + 1)) = some (.string o.2) ∧ D0 i = .lit (.string o.1.data.toList) ∧ D1 i = .lit (.string o.2.data.toList)) (n := len) (fun i hi => by
      obtain ⟨g0, g1, k0, k1⟩ := hrow i (by omega)
      rw [t0] at k0
      rw [t1] at k1
      obtain ⟨s0, r0, q0, _⟩ := DataW.trod_string Tryz.underlying9 k0
      obtain ⟨s1, r1, q1, _⟩ := DataW.trod_string Tryz.underlying9 k1
      simp only [List.cons.injEq, and_true] at r0 r1
      exact ⟨(s0, s1), by rw [g0, r0], by rw [g1, r1], (Prod.mk.inj q0).1, (Prod.mk.inj q1).1⟩)
    refine ⟨some a, (List.range len).map (fun i => ((F i).1.data.toList, (F i).2.data.toList)), cap, by rw [hcs]; simp, ?_, ?_⟩
    · by_cases h0 : len = 0
      · subst h0; exact .inl rfl
      · obtain ⟨b, off, spot⟩ := a
        have hc0 := (hF 0 (by omega)).1
        have hspot : spot = none := by simpa [Addr.add] using World.cell?_spot hc0
        subst hspot
        refine .inr ⟨b, off, rfl, ?_, fun j hj => ?_⟩
        · have := block_lt_of_cell hc0
          simpa [Addr.add] using this
        · have hj' : j < len := by simpa using hj
          have hc := hF j hj'
          have e : ((List.range len).map (fun i => ((F i).1.data.toList, (F i).2.data.toList)))[j] = ((F j).1.data.toList, (F j).2.data.toList) := by simp
          rw [e]
          have u0 := hc.1
          have u1 := hc.2.1
          rw [Addr.add_lit] at u0 u1
          have es : ∀ s : ByteArray, (⟨s.data.toList.toArray⟩ : ByteArray) = s := fun s => by cases s; simp
          simp only [es]
          exact ⟨u0, by rw [Nat.add_assoc]; exact u1⟩
    · have hb := bulk_hdr F D0 D1 (List.range len) fun i hi => (hF i (List.mem_range.1 hi)).2.2
      rw [hd]
      simp only [Rows.uptoBulk]
      simp only [List.length_map, List.length_range] at hb ⊢
      omega
end Go.Proofs.YtmodmeabjhaklabGreatDoor
/-
  What came in, told by lists: a slice of bytes, with its place.
-/
namespace Go.Proofs.YtmodmeabjhaklabGreatDoor
open Go.ChangeShapes Go.WideShapes Go.ChangeAt Go.RowKit

theorem cells5 : Tryz.prog.cellsOf 5 = 1 := by kernel_rfl
set_option maxRecDepth 20000 in
theorem okWide_place {w : World} {r : Reach} {base : Nat} {t e : TypeId} {a : Addr} {len cap : Nat} (ht : Tryz.prog.underlying t = some (.slice e)) (h : Value.okWide Tryz.prog w r base t (.slice (some a) len cap)) : a.spot = none ∧ a.block < w.heap.size := by
  simp only [Value.okWide, ht, Cell.okWide, Cell.ok, World.has] at h
  obtain ⟨-, -, -, h1, row, cells, h2, -⟩ := h
  refine ⟨h1, ?_⟩
  unfold World.shape? at h2
  cases hb : w.heap[a.block]? with
  | none => rw [hb] at h2; simp at h2
  | some o => exact (Array.getElem?_eq_some_iff.1 hb).1
theorem bytes_of_ints {W : World} {x : Addr} {len cap : Nat} {zs : List Int} (hl : len ≤ cap) (hz : zs.length = cap)
    (hcell : ∀ i, i < zs.length → W.cell? (x.add i) = some (.int .u8 (zs.getD i 0))) (hwz : ∀ n ∈ zs, (Lit.int .u8 n).wf = true) :
    ∃ l : List UInt8, l.length = len ∧ Bytes W (some x) l := by
  refine ⟨(zs.take len).map (fun z => UInt8.ofNat z.toNat), by simp; omega, ?_⟩
  by_cases h0 : len = 0
  · subst h0
    exact .inl (by simp)
  · obtain ⟨b, off, spot⟩ := x
    have hc0 := hcell 0 (by omega)
    have hspot : spot = none := by simpa [Addr.add] using World.cell?_spot hc0
    subst hspot
    refine .inr ⟨b, off, rfl, ?_, fun j hj => ?_⟩
    · have := block_lt_of_cell hc0
      simpa [Addr.add] using this
    · have hj' : j < zs.length := by simp at hj; omega
      have := hcell j hj'
      rw [Addr.add_lit] at this
      rw [this]
      have hwf := hwz zs[j] (List.getElem_mem hj')
      have hb : 0 ≤ zs[j] ∧ zs[j] ≤ 255 := by simpa [Lit.wf, IntKind.min, IntKind.max, IntKind.signed, IntKind.bits] using hwf
      simp only [List.getElem_map, List.getElem_take]
      rw [UInt8.toNat_ofNat', Nat.mod_eq_of_lt (by omega), List.getD_eq_getElem?_getD, List.getElem?_eq_getElem hj']
      simp only [Option.getD_some]
      congr 2
      omega
theorem bulk_lits {H : Type} (k : IntKind) (zs : List Int) : zs.length ≤ Rows.uptoBulkAll (lits (H := H) k zs) := by
  induction zs with
  | nil => simp
  | cons z r ih =>
    have e : lits (H := H) k (z :: r) = .lit (.int k z) :: lits k r := rfl
    rw [e]
    simp only [Rows.uptoBulkAll, Rows.uptoBulk, List.length_cons]
    omega
set_option maxRecDepth 20000 in
/-- A slice of bytes that came in. -/
theorem open_bytes {H : Type} {enc : TypeId × Value → H} {W : World} {r : Reach} {base : Nat} {v : Value} {d : DataW H} {p : List MemPlace} (hv : Value.okWide Tryz.prog W r base 22 v) (h : DataW.Trod enc Tryz.prog W 0 (fun _ => true) true 22 v d p) :
    ∃ (a : Option Addr) (l : List UInt8) (cap : Nat), v = .slice a l.length cap ∧ l.length ≤ cap ∧ Bytes W a l ∧ (∀ x, a = some x → x.spot = none ∧ x.block < W.heap.size) ∧ (a = none → cap = 0) ∧ l.length ≤ Rows.uptoBulk d := by
  obtain ⟨a, len, cap, rfl⟩ := okWide_slice Tryz.underlying22 hv
  obtain ⟨fuel, hf⟩ := h
  rcases open_ints Tryz.underlying22 Tryz.underlying5 cells5 hf with ⟨hcs, _⟩ | ⟨x, l, c, zs, hcs, _, hl, hm, hz, hd, hcell, hwz⟩
  · simp [Value.cells] at hcs
    obtain ⟨rfl, rfl, rfl⟩ := hcs
    exact ⟨none, [], 0, rfl, by simp, .inl rfl, fun x hx => (by cases hx), fun _ => rfl, by simp⟩
  · simp [Value.cells] at hcs
    obtain ⟨rfl, rfl, rfl⟩ := hcs
    have hz' : zs.length = cap := by simpa using hz
    obtain ⟨m, rfl, hb⟩ := bytes_of_ints hl hz' hcell hwz
    refine ⟨some x, m, cap, rfl, hl, hb, fun y hy => ?_, fun h => by (cases h), ?_⟩
    · simp only [Option.some.injEq] at hy
      subst hy
      exact okWide_place Tryz.underlying22 hv
    · have hd0 : d = .slice (lits .u8 (zs.take m.length)) (lits .u8 (zs.drop m.length)) := (Prod.mk.inj hd).1
      have hb := bulk_lits (H := H) .u8 (zs.take m.length)
      rw [hd0]
      simp only [Rows.uptoBulk]
      simp only [List.length_take] at hb
      omega
end Go.Proofs.YtmodmeabjhaklabGreatDoor

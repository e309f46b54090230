/-
  What came in: who signs, bytes, ints.
-/
import Derived.Test.YtgpjjlkkfddjnaaDoorLwA
import Derived.Test.YtgpjjlkkfddjnaaDoorCards
import Derived.WalkKit
import Derived.ProofKit
import Derived.OpenShut
import Derived.ShutString
import Derived.ChangeOld
import Derived.SizedLaws
import Derived.ChangeSlices
namespace Go.Proofs.YtgpjjlkkfddjnaaDoor
open Go.ChangeShapes Go.WideShapes Go.ChangeAt Go.RowKit
open Go.ChangeMaps (open_string shut_string)

theorem cells5 : Tryd.prog.cellsOf 5 = 1 := by kernel_rfl
set_option maxRecDepth 20000 in
theorem okWide_place {w : World} {r : Reach} {base : Nat} {t e : TypeId} {a : Addr} {len cap : Nat} (ht : Tryd.prog.underlying t = some (.slice e)) (h : Value.okWide Tryd.prog w r base t (.slice (some a) len cap)) : a.spot = none ∧ a.block < w.heap.size := by
  simp only [Value.okWide, ht, Cell.okWide, Cell.ok, World.has] at h
  obtain ⟨-, -, -, h1, row, cells, h2, -⟩ := h
  refine ⟨h1, ?_⟩
  unfold World.shape? at h2
  cases hb : w.heap[a.block]? with
  | none => rw [hb] at h2; simp at h2
  | some o => exact (Array.getElem?_eq_some_iff.1 hb).1
theorem bytes_of_ints {W : World} {x : Addr} {len cap : Nat} {zs : List Int} (hl : len ≤ cap) (hz : zs.length = cap)
    (hcell : ∀ i, i < zs.length → W.cell? (x.add i) = some (.int .u8 (zs.getD i 0))) (hwz : ∀ n ∈ zs, (Lit.int .u8 n).wf = true) :
    ∃ l : List UInt8, l.length = len ∧ Bytes W (some x) l := by
  refine ⟨(zs.take len).map (fun z => UInt8.ofNat z.toNat), by simp; omega, ?_⟩
  by_cases h0 : len = 0
  · subst h0
    exact .inl (by simp)
  · obtain ⟨b, off, spot⟩ := x
    have hc0 := hcell 0 (by omega)
    have hspot : spot = none := by simpa [Addr.add] using World.cell?_spot hc0
    subst hspot
    refine .inr ⟨b, off, rfl, ?_, fun j hj => ?_⟩
    · have := block_lt_of_cell hc0
      simpa [Addr.add] using this
    · have hj' : j < zs.length := by simp at hj; omega
      have := hcell j hj'
      rw [Addr.add_lit] at this
      rw [this]
      have hwf := hwz zs[j] (List.getElem_mem hj')
      have hb : 0 ≤ zs[j] ∧ zs[j] ≤ 255 := by simpa [Lit.wf, IntKind.min, IntKind.max, IntKind.signed, IntKind.bits] using hwf
      simp only [List.getElem_map, List.getElem_take]
      rw [UInt8.toNat_ofNat', Nat.mod_eq_of_lt (by omega), List.getD_eq_getElem?_getD, List.getElem?_eq_getElem hj']
      simp only [Option.getD_some]
      congr 2
      omega
theorem bulk_lits {H : Type} (k : IntKind) (zs : List Int) : zs.length ≤ Rows.uptoBulkAll (lits (H := H) k zs) := by
  induction zs with
  | nil => simp
  | cons z r ih =>
    have e : lits (H := H) k (z :: r) = .lit (.int k z) :: lits k r := rfl
    rw [e]
    simp only [Rows.uptoBulkAll, Rows.uptoBulk, List.length_cons]
    omega
set_option maxRecDepth 20000 in
/-- A slice of bytes that came in. -/
theorem open_bytes {H : Type} {enc : TypeId × Value → H} {W : World} {r : Reach} {base : Nat} {v : Value} {d : DataW H} {p : List MemPlace} (hv : Value.okWide Tryd.prog W r base 22 v) (h : DataW.Trod enc Tryd.prog W 0 (fun _ => true) true 22 v d p) :
    ∃ (a : Option Addr) (l : List UInt8) (cap : Nat), v = .slice a l.length cap ∧ l.length ≤ cap ∧ Bytes W a l ∧ (∀ x, a = some x → x.spot = none ∧ x.block < W.heap.size) ∧ (a = none → cap = 0) ∧ l.length ≤ Rows.uptoBulk d ∧ cap ≤ 9223372036854775807 := by
  obtain ⟨a, len, cap, rfl⟩ := okWide_slice Tryd.underlying22 hv
  obtain ⟨fuel, hf⟩ := h
  rcases open_ints Tryd.underlying22 Tryd.underlying5 cells5 hf with ⟨hcs, _⟩ | ⟨x, l, c, zs, hcs, _, hl, hm, hz, hd, hcell, hwz⟩
  · simp [Value.cells] at hcs
    obtain ⟨rfl, rfl, rfl⟩ := hcs
    exact ⟨none, [], 0, rfl, by simp, .inl rfl, fun x hx => (by cases hx), fun _ => rfl, by simp, by omega⟩
  · simp [Value.cells] at hcs
    obtain ⟨rfl, rfl, rfl⟩ := hcs
    have hz' : zs.length = cap := by simpa using hz
    obtain ⟨m, rfl, hb⟩ := bytes_of_ints hl hz' hcell hwz
    refine ⟨some x, m, cap, rfl, hl, hb, fun y hy => ?_, fun h => by (cases h), ?_, by unfold maxLen at hm; omega⟩
    · simp only [Option.some.injEq] at hy
      subst hy
      exact okWide_place Tryd.underlying22 hv
    · have hd0 : d = .slice (lits .u8 (zs.take m.length)) (lits .u8 (zs.drop m.length)) := (Prod.mk.inj hd).1
      have hb := bulk_lits (H := H) .u8 (zs.take m.length)
      rw [hd0]
      simp only [Rows.uptoBulk]
      simp only [List.length_take] at hb
      omega
theorem cells9 : Tryd.prog.cellsOf 9 = 1 := by kernel_rfl
theorem cells3 : Tryd.prog.cellsOf 3 = 1 := by kernel_rfl
theorem cells22 : Tryd.prog.cellsOf 22 = 1 := by kernel_rfl
theorem cells24 : Tryd.prog.cellsOf 24 = 6 := by kernel_rfl
set_option maxRecDepth 20000 in
theorem open_sl {H : Type} {enc : TypeId × Value → H} {W : World} {r : Reach} {base : Nat} {v : Value} {d : DataW H} {p : List MemPlace} (hv : Value.okWide Tryd.prog W r base 22 v) (h : DataW.Trod enc Tryd.prog W 0 (fun _ => true) true 22 v d p) :
    ∃ (a : Option Addr) (l : List UInt8) (cap : Nat), v = .slice a l.length cap ∧ Sl W a cap l ∧ l.length ≤ Rows.uptoBulk d := by
  obtain ⟨a, l, cap, h1, h2, h3, h4, h5, h6, h7⟩ := open_bytes hv h
  exact ⟨a, l, cap, h1, ⟨h2, h7, h3, h4, h5⟩, h6⟩
set_option maxRecDepth 20000 in
/-- A slice of ints that came in. -/
theorem open_zs {H : Type} {enc : TypeId × Value → H} {W : World} {r : Reach} {base : Nat} {v : Value} {d : DataW H} {p : List MemPlace} (hv : Value.okWide Tryd.prog W r base 36 v) (h : DataW.Trod enc Tryd.prog W 0 (fun _ => true) true 36 v d p) :
    ∃ (a : Option Addr) (l : List Int) (cap : Nat), v = .slice a l.length cap ∧ Ints W a l ∧ l.length ≤ Rows.uptoBulk d := by
  obtain ⟨a, len, cap, rfl⟩ := okWide_slice Tryd.underlying36 hv
  obtain ⟨fuel, hf⟩ := h
  rcases open_ints Tryd.underlying36 Tryd.underlying3 cells3 hf with ⟨hcs, _⟩ | ⟨x, l, c, zs, hcs, _, hl, hm, hz, hd, hcell, hwz⟩
  · simp [Value.cells] at hcs
    obtain ⟨rfl, rfl, rfl⟩ := hcs
    exact ⟨none, [], 0, rfl, .inl rfl, by simp⟩
  · simp [Value.cells] at hcs
    obtain ⟨rfl, rfl, rfl⟩ := hcs
    have hz' : zs.length = cap := by simpa using hz
    have hlen : (zs.take len).length = len := by rw [List.length_take]; omega
    refine ⟨some x, zs.take len, cap, by rw [hlen], ?_, ?_⟩
    · by_cases h0 : len = 0
      · subst h0
        exact .inl rfl
      · obtain ⟨b, off, spot⟩ := x
        have hc0 := hcell 0 (by omega)
        have hspot : spot = none := by simpa [Addr.add] using World.cell?_spot hc0
        subst hspot
        refine .inr ⟨b, off, rfl, ?_, fun j hj => ?_⟩
        · have := block_lt_of_cell hc0
          simpa [Addr.add] using this
        · have hj' : j < zs.length := by omega
          have := hcell j hj'
          rw [Addr.add_lit] at this
          rw [this]
          simp only [List.getElem_take]
          rw [List.getD_eq_getElem?_getD, List.getElem?_eq_getElem hj']
          rfl
    · have hd0 : d = .slice (lits .i64 (zs.take len)) (lits .i64 (zs.drop len)) := (Prod.mk.inj hd).1
      have hb := bulk_lits (H := H) .i64 (zs.take len)
      rw [hd0]
      simp only [Rows.uptoBulk]
      omega
theorem row_bulk {H : Type} {enc : TypeId × Value → H} {W : World} {n : Nat} {v : Value} {x : DataW H × List MemPlace} (h : DataW.trod enc Tryd.prog W 0 (fun _ => true) true n 22 [v] = some x) :
    ∃ (a : Option Addr) (l : List UInt8) (c : Nat), v = .slice a l.length c ∧ Bytes W a l ∧ l.length ≤ Rows.uptoBulk x.1 ∧ l.length ≤ c := by
  rcases open_ints Tryd.underlying22 Tryd.underlying5 cells5 h with ⟨hcs, hd⟩ | ⟨y, l, c, zs, hcs, _, hl, hm, hz, hd, hcell, hwz⟩
  · have e : v = .slice none 0 0 := by simpa using hcs
    subst e
    exact ⟨none, [], 0, rfl, .inl rfl, by simp, by simp⟩
  · have e : v = .slice (some y) l c := by simpa using hcs
    subst e
    have hz' : zs.length = c := by simpa using hz
    obtain ⟨m, e, hb⟩ := bytes_of_ints hl hz' hcell hwz
    subst e
    refine ⟨some y, m, c, rfl, hb, ?_, hl⟩
    have hd0 : x.1 = .slice (lits .u8 (zs.take m.length)) (lits .u8 (zs.drop m.length)) := congrArg Prod.fst hd
    have hb := bulk_lits (H := H) .u8 (zs.take m.length)
    rw [hd0]
    simp only [Rows.uptoBulk]
    simp only [List.length_take] at hb
    omega
theorem list6 {α : Type} {xs : List α} (h : xs.length = 6) : ∃ x0 x1 x2 x3 x4 x5, xs = [x0, x1, x2, x3, x4, x5] := by
  match xs, h with
  | [x0, x1, x2, x3, x4, x5], _ => exact ⟨x0, x1, x2, x3, x4, x5, rfl⟩
theorem arr6 {xs : Array Value} (h : xs.size = 6) : ∃ c0 c1 c2 c3 c4 c5, xs = #[c0, c1, c2, c3, c4, c5] := by
  obtain ⟨l⟩ := xs
  have h' : l.length = 6 := h
  match l, h' with
  | [c0, c1, c2, c3, c4, c5], _ => exact ⟨c0, c1, c2, c3, c4, c5, rfl⟩
set_option maxRecDepth 20000 in
/-- Who signs, as it came in. -/
theorem open_who {H : Type} {enc : TypeId × Value → H} {W : World} {r : Reach} {base : Nat} {v : Value} {d : DataW H} {p : List MemPlace} (hv : Value.okWide Tryd.prog W r base 24 v) (h : DataW.Trod enc Tryd.prog W 0 (fun _ => true) true 24 v d p) (hb : Rows.uptoBulk d ≤ 1048576) :
    ∃ (x : Wh) (ka : Option Addr) (kc : Nat), v = x.v ka kc ∧ WhOk W x ka kc := by
  obtain ⟨cs, rfl, hsz⟩ := okWide_struct Tryd.underlying24 hv
  obtain ⟨c0, c1, c2, c3, c4, c5, rfl⟩ := arr6 (hsz.trans cells24)
  obtain ⟨fuel, hf⟩ := h
  have hf' : DataW.trod enc Tryd.prog W 0 (fun _ => true) true fuel 24 [c0, c1, c2, c3, c4, c5] = some (d, p) := hf
  obtain ⟨xs, k, _, hx, _, hxl, hg⟩ := DataW.trod_struct Tryd.underlying24 hf'
  obtain ⟨x0, x1, x2, x3, x4, x5, rfl⟩ := list6 hxl
  have hd : d = .agg [x0.1, x1.1, x2.1, x3.1, x4.1, x5.1] := (Prod.mk.inj hx).1
  have f0 : DataW.trod enc Tryd.prog W 0 (fun _ => true) true k 9 [c0] = some x0 := by
    have u : DataW.trod enc Tryd.prog W 0 (fun _ => true) true k 9 (([c0, c1, c2, c3, c4, c5].drop 0).take (Tryd.prog.cellsOf 9)) = [x0, x1, x2, x3, x4, x5][0]? := hg 0 _ rfl
    rw [cells9] at u
    exact u
  have f1 : DataW.trod enc Tryd.prog W 0 (fun _ => true) true k 9 [c1] = some x1 := by
    have u : DataW.trod enc Tryd.prog W 0 (fun _ => true) true k 9 (([c0, c1, c2, c3, c4, c5].drop 1).take (Tryd.prog.cellsOf 9)) = [x0, x1, x2, x3, x4, x5][1]? := hg 1 _ rfl
    rw [cells9] at u
    exact u
  have f2 : DataW.trod enc Tryd.prog W 0 (fun _ => true) true k 9 [c2] = some x2 := by
    have u : DataW.trod enc Tryd.prog W 0 (fun _ => true) true k 9 (([c0, c1, c2, c3, c4, c5].drop 2).take (Tryd.prog.cellsOf 9)) = [x0, x1, x2, x3, x4, x5][2]? := hg 2 _ rfl
    rw [cells9] at u
    exact u
  have f3 : DataW.trod enc Tryd.prog W 0 (fun _ => true) true k 9 [c3] = some x3 := by
    have u : DataW.trod enc Tryd.prog W 0 (fun _ => true) true k 9 (([c0, c1, c2, c3, c4, c5].drop 3).take (Tryd.prog.cellsOf 9)) = [x0, x1, x2, x3, x4, x5][3]? := hg 3 _ rfl
    rw [cells9] at u
    exact u
  have f4 : DataW.trod enc Tryd.prog W 0 (fun _ => true) true k 22 [c4] = some x4 := by
    have u : DataW.trod enc Tryd.prog W 0 (fun _ => true) true k 22 (([c0, c1, c2, c3, c4, c5].drop 4).take (Tryd.prog.cellsOf 22)) = [x0, x1, x2, x3, x4, x5][4]? := hg 4 _ rfl
    rw [cells22] at u
    exact u
  have f5 : DataW.trod enc Tryd.prog W 0 (fun _ => true) true k 9 [c5] = some x5 := by
    have u : DataW.trod enc Tryd.prog W 0 (fun _ => true) true k 9 (([c0, c1, c2, c3, c4, c5].drop 5).take (Tryd.prog.cellsOf 9)) = [x0, x1, x2, x3, x4, x5][5]? := hg 5 _ rfl
    rw [cells9] at u
    exact u
  obtain ⟨s0, r0, q0, _⟩ := DataW.trod_string Tryd.underlying9 f0
  obtain ⟨s1, r1, q1, _⟩ := DataW.trod_string Tryd.underlying9 f1
  obtain ⟨s2, r2, q2, _⟩ := DataW.trod_string Tryd.underlying9 f2
  obtain ⟨s3, r3, q3, _⟩ := DataW.trod_string Tryd.underlying9 f3
  obtain ⟨ka, kl, kc, rfl, hB, hbl, hkc⟩ := row_bulk f4
  obtain ⟨s5, r5, q5, _⟩ := DataW.trod_string Tryd.underlying9 f5
  simp only [List.cons.injEq, and_true] at r0 r1 r2 r3 r5
  subst r0 r1 r2 r3 r5
  have es : ∀ s : ByteArray, (⟨s.data.toList.toArray⟩ : ByteArray) = s := fun s => by cases s; simp
  have e1 : x1.1 = .lit (.string s1.data.toList) := congrArg Prod.fst q1
  have e2 : x2.1 = .lit (.string s2.data.toList) := congrArg Prod.fst q2
  have e3 : x3.1 = .lit (.string s3.data.toList) := congrArg Prod.fst q3
  rw [hd, e1, e2, e3] at hb
  simp only [Rows.uptoBulk, Rows.uptoBulkAll] at hb
  refine ⟨⟨s0.data.toList, s1.data.toList, s2.data.toList, s3.data.toList, kl, s5.data.toList⟩, ka, kc, by simp only [Wh.v, es], hkc, ?_, hB, ?_, ?_, ?_⟩
  · show kl.length ≤ _; omega
  · show s1.data.toList.length ≤ _; omega
  · show s2.data.toList.length ≤ _; omega
  · show s3.data.toList.length ≤ _; omega
end Go.Proofs.YtgpjjlkkfddjnaaDoor

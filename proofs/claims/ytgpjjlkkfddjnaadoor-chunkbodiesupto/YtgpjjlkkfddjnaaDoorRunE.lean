/-
  What came in: who signs, bytes, ints.
-/
import Derived.Test.YtgpjjlkkfddjnaaDoorRunD
import Derived.Test.YtgpjjlkkfddjnaaDoorCards
import Derived.WalkKit
import Derived.ProofKit
import Derived.OpenShut
import Derived.ShutString
import Derived.ChangeOld
import Derived.SizedLaws
import Derived.ChangeSlices
import Derived.Test.YtgpjjlkkfddjnaaDoorTie
import Derived.Carry
import Derived.Lib.DecodeN
import Derived.Shelf.Vars
import Derived.Below
import Derived.Deep.DeepHandedRow
import Derived.Lib.LaidTab
import Derived.Stop.LaidErr
namespace Go.Proofs.YtgpjjlkkfddjnaaDoor
open Go.ChangeShapes Go.WideShapes Go.ChangeAt Go.RowKit
open Go.ChangeMaps (open_string shut_string)

theorem cells5 : Tryd.prog.cellsOf 5 = 1 := by kernel_rfl
set_option maxRecDepth 20000 in
theorem okWide_place {w : World} {r : Reach} {base : Nat} {t e : TypeId} {a : Addr} {len cap : Nat} (ht : Tryd.prog.underlying t = some (.slice e)) (h : Value.okWide Tryd.prog w r base t (.slice (some a) len cap)) : a.spot = none ∧ a.block < w.heap.size := by
  simp only [Value.okWide, ht, Cell.okWide, Cell.ok, World.has] at h
  obtain ⟨-, -, -, h1, row, cells, h2, -⟩ := h
  refine ⟨h1, ?_⟩
  unfold World.shape? at h2
  cases hb : w.heap[a.block]? with
  | none => rw [hb] at h2; simp at h2
  | some o => exact (Array.getElem?_eq_some_iff.1 hb).1
theorem bytes_of_ints {W : World} {x : Addr} {len cap : Nat} {zs : List Int} (hl : len ≤ cap) (hz : zs.length = cap)
    (hcell : ∀ i, i < zs.length → W.cell? (x.add i) = some (.int .u8 (zs.getD i 0))) (hwz : ∀ n ∈ zs, (Lit.int .u8 n).wf = true) :
    ∃ l : List UInt8, l.length = len ∧ Bytes W (some x) l := by
  refine ⟨(zs.take len).map (fun z => UInt8.ofNat z.toNat), by simp; omega, ?_⟩
  by_cases h0 : len = 0
  · subst h0
    exact .inl (by simp)
  · obtain ⟨b, off, spot⟩ := x
    have hc0 := hcell 0 (by omega)
    have hspot : spot = none := by simpa [Addr.add] using World.cell?_spot hc0
    subst hspot
    refine .inr ⟨b, off, rfl, ?_, fun j hj => ?_⟩
    · have := block_lt_of_cell hc0
      simpa [Addr.add] using this
    · have hj' : j < zs.length := by simp at hj; omega
      have := hcell j hj'
      rw [Addr.add_lit] at this
      rw [this]
      have hwf := hwz zs[j] (List.getElem_mem hj')
      have hb : 0 ≤ zs[j] ∧ zs[j] ≤ 255 := by simpa [Lit.wf, IntKind.min, IntKind.max, IntKind.signed, IntKind.bits] using hwf
      simp only [List.getElem_map, List.getElem_take]
      rw [UInt8.toNat_ofNat', Nat.mod_eq_of_lt (by omega), List.getD_eq_getElem?_getD, List.getElem?_eq_getElem hj']
      simp only [Option.getD_some]
      congr 2
      omega
theorem bulk_lits {H : Type} (k : IntKind) (zs : List Int) : zs.length ≤ Rows.uptoBulkAll (lits (H := H) k zs) := by
  induction zs with
  | nil => simp
  | cons z r ih =>
    have e : lits (H := H) k (z :: r) = .lit (.int k z) :: lits k r := rfl
    rw [e]
    simp only [Rows.uptoBulkAll, Rows.uptoBulk, List.length_cons]
    omega
set_option maxRecDepth 20000 in
/-- A slice of bytes that came in. -/
theorem open_bytes {H : Type} {enc : TypeId × Value → H} {W : World} {r : Reach} {base : Nat} {v : Value} {d : DataW H} {p : List MemPlace} (hv : Value.okWide Tryd.prog W r base 22 v) (h : DataW.Trod enc Tryd.prog W 0 (fun _ => true) true 22 v d p) :
    ∃ (a : Option Addr) (l : List UInt8) (cap : Nat), v = .slice a l.length cap ∧ l.length ≤ cap ∧ Bytes W a l ∧ (∀ x, a = some x → x.spot = none ∧ x.block < W.heap.size) ∧ (a = none → cap = 0) ∧ l.length ≤ Rows.uptoBulk d ∧ cap ≤ 9223372036854775807 := by
  obtain ⟨a, len, cap, rfl⟩ := okWide_slice Tryd.underlying22 hv
  obtain ⟨fuel, hf⟩ := h
  rcases open_ints Tryd.underlying22 Tryd.underlying5 cells5 hf with ⟨hcs, _⟩ | ⟨x, l, c, zs, hcs, _, hl, hm, hz, hd, hcell, hwz⟩
  · simp [Value.cells] at hcs
    obtain ⟨rfl, rfl, rfl⟩ := hcs
    exact ⟨none, [], 0, rfl, by simp, .inl rfl, fun x hx => (by cases hx), fun _ => rfl, by simp, by omega⟩
  · simp [Value.cells] at hcs
    obtain ⟨rfl, rfl, rfl⟩ := hcs
    have hz' : zs.length = cap := by simpa using hz
    obtain ⟨m, rfl, hb⟩ := bytes_of_ints hl hz' hcell hwz
    refine ⟨some x, m, cap, rfl, hl, hb, fun y hy => ?_, fun h => by (cases h), ?_, by unfold maxLen at hm; omega⟩
    · simp only [Option.some.injEq] at hy
      subst hy
      exact okWide_place Tryd.underlying22 hv
    · have hd0 : d = .slice (lits .u8 (zs.take m.length)) (lits .u8 (zs.drop m.length)) := (Prod.mk.inj hd).1
      have hb := bulk_lits (H := H) .u8 (zs.take m.length)
      rw [hd0]
      simp only [Rows.uptoBulk]
      simp only [List.length_take] at hb
      omega
theorem cells9 : Tryd.prog.cellsOf 9 = 1 := by kernel_rfl
theorem cells3 : Tryd.prog.cellsOf 3 = 1 := by kernel_rfl
theorem cells22 : Tryd.prog.cellsOf 22 = 1 := by kernel_rfl
theorem cells24 : Tryd.prog.cellsOf 24 = 6 := by kernel_rfl
set_option maxRecDepth 20000 in
theorem open_sl {H : Type} {enc : TypeId × Value → H} {W : World} {r : Reach} {base : Nat} {v : Value} {d : DataW H} {p : List MemPlace} (hv : Value.okWide Tryd.prog W r base 22 v) (h : DataW.Trod enc Tryd.prog W 0 (fun _ => true) true 22 v d p) :
    ∃ (a : Option Addr) (l : List UInt8) (cap : Nat), v = .slice a l.length cap ∧ Sl W a cap l ∧ l.length ≤ Rows.uptoBulk d := by
  obtain ⟨a, l, cap, h1, h2, h3, h4, h5, h6, h7⟩ := open_bytes hv h
  exact ⟨a, l, cap, h1, ⟨h2, h7, h3, h4, h5⟩, h6⟩
set_option maxRecDepth 20000 in
/-- A slice of ints that came in. -/
theorem open_zs {H : Type} {enc : TypeId × Value → H} {W : World} {r : Reach} {base : Nat} {v : Value} {d : DataW H} {p : List MemPlace} (hv : Value.okWide Tryd.prog W r base 36 v) (h : DataW.Trod enc Tryd.prog W 0 (fun _ => true) true 36 v d p) :
    ∃ (a : Option Addr) (l : List Int) (cap : Nat), v = .slice a l.length cap ∧ Ints W a l ∧ l.length ≤ Rows.uptoBulk d := by
  obtain ⟨a, len, cap, rfl⟩ := okWide_slice Tryd.underlying36 hv
  obtain ⟨fuel, hf⟩ := h
  rcases open_ints Tryd.underlying36 Tryd.underlying3 cells3 hf with ⟨hcs, _⟩ | ⟨x, l, c, zs, hcs, _, hl, hm, hz, hd, hcell, hwz⟩
  · simp [Value.cells] at hcs
    obtain ⟨rfl, rfl, rfl⟩ := hcs
    exact ⟨none, [], 0, rfl, .inl rfl, by simp⟩
  · simp [Value.cells] at hcs
    obtain ⟨rfl, rfl, rfl⟩ := hcs
    have hz' : zs.length = cap := by simpa using hz
    have hlen : (zs.take len).length = len := by rw [List.length_take]; omega
    refine ⟨some x, zs.take len, cap, by rw [hlen], ?_, ?_⟩
    · by_cases h0 : len = 0
      · subst h0
        exact .inl rfl
      · obtain ⟨b, off, spot⟩ := x
        have hc0 := hcell 0 (by omega)
        have hspot : spot = none := by simpa [Addr.add] using World.cell?_spot hc0
        subst hspot
        refine .inr ⟨b, off, rfl, ?_, fun j hj => ?_⟩
        · have := block_lt_of_cell hc0
          simpa [Addr.add] using this
        · have hj' : j < zs.length := by omega
          have := hcell j hj'
          rw [Addr.add_lit] at this
          rw [this]
          simp only [List.getElem_take]
          rw [List.getD_eq_getElem?_getD, List.getElem?_eq_getElem hj']
          rfl
    · have hd0 : d = .slice (lits .i64 (zs.take len)) (lits .i64 (zs.drop len)) := (Prod.mk.inj hd).1
      have hb := bulk_lits (H := H) .i64 (zs.take len)
      rw [hd0]
      simp only [Rows.uptoBulk]
      omega
theorem row_bulk {H : Type} {enc : TypeId × Value → H} {W : World} {n : Nat} {v : Value} {x : DataW H × List MemPlace} (h : DataW.trod enc Tryd.prog W 0 (fun _ => true) true n 22 [v] = some x) :
    ∃ (a : Option Addr) (l : List UInt8) (c : Nat), v = .slice a l.length c ∧ Bytes W a l ∧ l.length ≤ Rows.uptoBulk x.1 ∧ l.length ≤ c := by
  rcases open_ints Tryd.underlying22 Tryd.underlying5 cells5 h with ⟨hcs, hd⟩ | ⟨y, l, c, zs, hcs, _, hl, hm, hz, hd, hcell, hwz⟩
  · have e : v = .slice none 0 0 := by simpa using hcs
    subst e
    exact ⟨none, [], 0, rfl, .inl rfl, by simp, by simp⟩
  · have e : v = .slice (some y) l c := by simpa using hcs
    subst e
    have hz' : zs.length = c := by simpa using hz
    obtain ⟨m, e, hb⟩ := bytes_of_ints hl hz' hcell hwz
    subst e
    refine ⟨some y, m, c, rfl, hb, ?_, hl⟩
    have hd0 : x.1 = .slice (lits .u8 (zs.take m.length)) (lits .u8 (zs.drop m.length)) := congrArg Prod.fst hd
    have hb := bulk_lits (H := H) .u8 (zs.take m.length)
    rw [hd0]
    simp only [Rows.uptoBulk]
    simp only [List.length_take] at hb
    omega
theorem list6 {α : Type} {xs : List α} (h : xs.length = 6) : ∃ x0 x1 x2 x3 x4 x5, xs = [x0, x1, x2, x3, x4, x5] := by
  match xs, h with
  | [x0, x1, x2, x3, x4, x5], _ => exact ⟨x0, x1, x2, x3, x4, x5, rfl⟩
theorem arr6 {xs : Array Value} (h : xs.size = 6) : ∃ c0 c1 c2 c3 c4 c5, xs = #[c0, c1, c2, c3, c4, c5] := by
  obtain ⟨l⟩ := xs
  have h' : l.length = 6 := h
  match l, h' with
  | [c0, c1, c2, c3, c4, c5], _ => exact ⟨c0, c1, c2, c3, c4, c5, rfl⟩
set_option maxRecDepth 20000 in
/-- Who signs, as it came in. -/
theorem open_who {H : Type} {enc : TypeId × Value → H} {W : World} {r : Reach} {base : Nat} {v : Value} {d : DataW H} {p : List MemPlace} (hv : Value.okWide Tryd.prog W r base 24 v) (h : DataW.Trod enc Tryd.prog W 0 (fun _ => true) true 24 v d p) (hb : Rows.uptoBulk d ≤ 1048576) :
    ∃ (x : Wh) (ka : Option Addr) (kc : Nat), v = x.v ka kc ∧ WhOk W x ka kc := by
  obtain ⟨cs, rfl, hsz⟩ := okWide_struct Tryd.underlying24 hv
  obtain ⟨c0, c1, c2, c3, c4, c5, rfl⟩ := arr6 (hsz.trans cells24)
  obtain ⟨fuel, hf⟩ := h
  have hf' : DataW.trod enc Tryd.prog W 0 (fun _ => true) true fuel 24 [c0, c1, c2, c3, c4, c5] = some (d, p) := hf
  obtain ⟨xs, k, _, hx, _, hxl, hg⟩ := DataW.trod_struct Tryd.underlying24 hf'
  obtain ⟨x0, x1, x2, x3, x4, x5, rfl⟩ := list6 hxl
  have hd : d = .agg [x0.1, x1.1, x2.1, x3.1, x4.1, x5.1] := (Prod.mk.inj hx).1
  have f0 : DataW.trod enc Tryd.prog W 0 (fun _ => true) true k 9 [c0] = some x0 := by
    have u : DataW.trod enc Tryd.prog W 0 (fun _ => true) true k 9 (([c0, c1, c2, c3, c4, c5].drop 0).take (Tryd.prog.cellsOf 9)) = [x0, x1, x2, x3, x4, x5][0]? := hg 0 _ rfl
    rw [cells9] at u
    exact u
  have f1 : DataW.trod enc Tryd.prog W 0 (fun _ => true) true k 9 [c1] = some x1 := by
    have u : DataW.trod enc Tryd.prog W 0 (fun _ => true) true k 9 (([c0, c1, c2, c3, c4, c5].drop 1).take (Tryd.prog.cellsOf 9)) = [x0, x1, x2, x3, x4, x5][1]? := hg 1 _ rfl
    rw [cells9] at u
    exact u
  have f2 : DataW.trod enc Tryd.prog W 0 (fun _ => true) true k 9 [c2] = some x2 := by
    have u : DataW.trod enc Tryd.prog W 0 (fun _ => true) true k 9 (([c0, c1, c2, c3, c4, c5].drop 2).take (Tryd.prog.cellsOf 9)) = [x0, x1, x2, x3, x4, x5][2]? := hg 2 _ rfl
    rw [cells9] at u
    exact u
  have f3 : DataW.trod enc Tryd.prog W 0 (fun _ => true) true k 9 [c3] = some x3 := by
    have u : DataW.trod enc Tryd.prog W 0 (fun _ => true) true k 9 (([c0, c1, c2, c3, c4, c5].drop 3).take (Tryd.prog.cellsOf 9)) = [x0, x1, x2, x3, x4, x5][3]? := hg 3 _ rfl
    rw [cells9] at u
    exact u
  have f4 : DataW.trod enc Tryd.prog W 0 (fun _ => true) true k 22 [c4] = some x4 := by
    have u : DataW.trod enc Tryd.prog W 0 (fun _ => true) true k 22 (([c0, c1, c2, c3, c4, c5].drop 4).take (Tryd.prog.cellsOf 22)) = [x0, x1, x2, x3, x4, x5][4]? := hg 4 _ rfl
    rw [cells22] at u
    exact u
  have f5 : DataW.trod enc Tryd.prog W 0 (fun _ => true) true k 9 [c5] = some x5 := by
    have u : DataW.trod enc Tryd.prog W 0 (fun _ => true) true k 9 (([c0, c1, c2, c3, c4, c5].drop 5).take (Tryd.prog.cellsOf 9)) = [x0, x1, x2, x3, x4, x5][5]? := hg 5 _ rfl
    rw [cells9] at u
    exact u
  obtain ⟨s0, r0, q0, _⟩ := DataW.trod_string Tryd.underlying9 f0
  obtain ⟨s1, r1, q1, _⟩ := DataW.trod_string Tryd.underlying9 f1
  obtain ⟨s2, r2, q2, _⟩ := DataW.trod_string Tryd.underlying9 f2
  obtain ⟨s3, r3, q3, _⟩ := DataW.trod_string Tryd.underlying9 f3
  obtain ⟨ka, kl, kc, rfl, hB, hbl, hkc⟩ := row_bulk f4
  obtain ⟨s5, r5, q5, _⟩ := DataW.trod_string Tryd.underlying9 f5
  simp only [List.cons.injEq, and_true] at r0 r1 r2 r3 r5
  subst r0 r1 r2 r3 r5
  have es : ∀ s : ByteArray, (⟨s.data.toList.toArray⟩ : ByteArray) = s := fun s => by cases s; simp
  have e1 : x1.1 = .lit (.string s1.data.toList) := congrArg Prod.fst q1
  have e2 : x2.1 = .lit (.string s2.data.toList) := congrArg Prod.fst q2
  have e3 : x3.1 = .lit (.string s3.data.toList) := congrArg Prod.fst q3
  rw [hd, e1, e2, e3] at hb
  simp only [Rows.uptoBulk, Rows.uptoBulkAll] at hb
  refine ⟨⟨s0.data.toList, s1.data.toList, s2.data.toList, s3.data.toList, kl, s5.data.toList⟩, ka, kc, by simp only [Wh.v, es], hkc, ?_, hB, ?_, ?_, ?_⟩
  · show kl.length ≤ _; omega
  · show s1.data.toList.length ≤ _; omega
  · show s2.data.toList.length ≤ _; omega
  · show s3.data.toList.length ≤ _; omega
end Go.Proofs.YtgpjjlkkfddjnaaDoor
/-
  What the laws of chunk share at their cards: the laid tables and errors.
-/
namespace Go.Proofs.YtgpjjlkkfddjnaaDoor
open Go.ChangeShapes Go.WideShapes Go.ChangeAt Go.RowKit
open Go.ChangeMaps (open_string shut_string)

theorem ownK : ownKnob Tryd.prog.godebug = none := by kernel_rfl
theorem laidOut : laidOutB Tryd.prog = true := by kernel_rfl
def powCells : Array Value := #[.int .u64 1, .int .u64 10, .int .u64 100, .int .u64 1000, .int .u64 10000, .int .u64 100000, .int .u64 1000000, .int .u64 10000000, .int .u64 100000000, .int .u64 1000000000, .int .u64 10000000000, .int .u64 100000000000, .int .u64 1000000000000, .int .u64 10000000000000, .int .u64 100000000000000, .int .u64 1000000000000000, .int .u64 10000000000000000, .int .u64 100000000000000000, .int .u64 1000000000000000000, .int .u64 10000000000000000000]
def b32Cells : Array Value := #[.int .u8 0, .int .u8 1, .int .u8 28, .int .u8 2, .int .u8 29, .int .u8 14, .int .u8 24, .int .u8 3, .int .u8 30, .int .u8 22, .int .u8 20, .int .u8 15, .int .u8 25, .int .u8 17, .int .u8 4, .int .u8 8, .int .u8 31, .int .u8 27, .int .u8 13, .int .u8 23, .int .u8 21, .int .u8 19, .int .u8 16, .int .u8 7, .int .u8 26, .int .u8 12, .int .u8 18, .int .u8 6, .int .u8 11, .int .u8 5, .int .u8 10, .int .u8 9]
def b64Cells : Array Value := #[.int .u8 0, .int .u8 1, .int .u8 56, .int .u8 2, .int .u8 57, .int .u8 49, .int .u8 28, .int .u8 3, .int .u8 61, .int .u8 58, .int .u8 42, .int .u8 50, .int .u8 38, .int .u8 29, .int .u8 17, .int .u8 4, .int .u8 62, .int .u8 47, .int .u8 59, .int .u8 36, .int .u8 45, .int .u8 43, .int .u8 51, .int .u8 22, .int .u8 53, .int .u8 39, .int .u8 33, .int .u8 30, .int .u8 24, .int .u8 18, .int .u8 12, .int .u8 5, .int .u8 63, .int .u8 55, .int .u8 48, .int .u8 27, .int .u8 60, .int .u8 41, .int .u8 37, .int .u8 16, .int .u8 46, .int .u8 35, .int .u8 44, .int .u8 21, .int .u8 52, .int .u8 32, .int .u8 23, .int .u8 11, .int .u8 54, .int .u8 26, .int .u8 40, .int .u8 15, .int .u8 34, .int .u8 20, .int .u8 31, .int .u8 10, .int .u8 25, .int .u8 14, .int .u8 19, .int .u8 9, .int .u8 13, .int .u8 8, .int .u8 7, .int .u8 6]
def b64L : List Int := [0, 1, 56, 2, 57, 49, 28, 3, 61, 58, 42, 50, 38, 29, 17, 4, 62, 47, 59, 36, 45, 43, 51, 22, 53, 39, 33, 30, 24, 18, 12, 5, 63, 55, 48, 27, 60, 41, 37, 16, 46, 35, 44, 21, 52, 32, 23, 11, 54, 26, 40, 15, 34, 20, 31, 10, 25, 14, 19, 9, 13, 8, 7, 6]
def synT : ByteArray := ⟨#[105, 110, 118, 97, 108, 105, 100, 32, 115, 121, 110, 116, 97, 120]⟩
def rngT : ByteArray := ⟨#[118, 97, 108, 117, 101, 32, 111, 117, 116, 32, 111, 102, 32, 114, 97, 110, 103, 101]⟩
theorem gErrS : Tryd.prog.globalNamed "strconv.ErrSyntax" = some 2 := by kernel_rfl
theorem gErrSType : (Tryd.prog.globals[2]?).map (·.type) = some 93 := by kernel_rfl
theorem gErrR : Tryd.prog.globalNamed "strconv.ErrRange" = some 3 := by kernel_rfl
theorem gErrRType : (Tryd.prog.globals[3]?).map (·.type) = some 93 := by kernel_rfl
theorem gTab : Tryd.prog.globalNamed "math/bits.deBruijn64tab" = some 5 := by kernel_rfl
theorem gTabType : (Tryd.prog.globals[5]?).map (·.type) = some 85 := by kernel_rfl
theorem cells85 : Tryd.prog.cellsOf 85 = 64 := by kernel_rfl
theorem cells143 : Tryd.prog.cellsOf 143 = 1 := by kernel_rfl
theorem starS : "*" ++ "errors.errorString" = "*errors.errorString" := by decide
theorem row141 (u : TypeId) (h : Tryd.prog.typeName? 3 u = some "*errors.errorString") : u = 141 :=
  typeName_ptr_named (nm := "errors.errorString") (by rw [starS]; kernel_rfl) (by kernel_rfl) (by decide) u (by rw [starS]; exact h)
noncomputable def lowN : Nat := (World.holding Tryd.prog default ⟨#[], #[], []⟩).heap.size
noncomputable def laidWorld (os : Os) : World :=
  let w0 := World.holding Tryd.prog os ⟨#[.cells #[.string synT] 143, .cells #[.string rngT] 143], #[], []⟩
  { w0 with heap := (((((w0.heap).modify 2 (fun o => match o with | .cells _ t frozen => .cells #[.iface 141 (.pointer (some ⟨lowN, 0, none⟩))] t frozen | o => o)).modify 3 (fun o => match o with | .cells _ t frozen => .cells #[.iface 141 (.pointer (some ⟨lowN + 1, 0, none⟩))] t frozen | o => o)).modify 0 (fun o => match o with | .cells _ t frozen => .cells powCells t frozen | o => o)).modify 4 (fun o => match o with | .cells _ t frozen => .cells b32Cells t frozen | o => o)).modify 5 (fun o => match o with | .cells _ t frozen => .cells b64Cells t frozen | o => o) }
def laidL : List (String × DataW Unit) := [("math/bits.deBruijn32tab", Rows.laid_math_bits_deBruijn32tab), ("math/bits.deBruijn64tab", Rows.laid_math_bits_deBruijn64tab), ("internal/strconv.uint64pow10", Rows.laid_internal_strconv_uint64pow10), ("strconv.ErrRange", Rows.laid_strconv_ErrRange), ("strconv.ErrSyntax", Rows.laid_strconv_ErrSyntax)]
theorem er_of {W : World} (h : laidMet Tryd.prog laidL W) : Er W := by
  have h2 := laidMet.tail (laidMet.tail (laidMet.tail h))
  obtain ⟨a, s, hv, -⟩ := laid_sentinel (laidMet.tail h2) gErrS gErrSType Tryd.underlying93 row141 Tryd.underlying141 Tryd.underlying143 rfl rfl Tryd.underlying9 cells143 cells9
  obtain ⟨a', s', hv', -⟩ := laid_sentinel h2 gErrR gErrRType Tryd.underlying93 row141 Tryd.underlying141 Tryd.underlying143 rfl rfl Tryd.underlying9 cells143 cells9
  exact ⟨⟨_, World.var?_cell gErrS hv 0, .inr ⟨_, _, rfl⟩⟩, ⟨_, World.var?_cell gErrR hv' 0, .inr ⟨_, _, rfl⟩⟩⟩
theorem tz_of {W : World} (h : laidMet Tryd.prog laidL W) : Tz W := by
  have h2 : laidMet Tryd.prog (("math/bits.deBruijn64tab", Lib.tabData .u8 b64L) :: [("internal/strconv.uint64pow10", Rows.laid_internal_strconv_uint64pow10), ("strconv.ErrRange", Rows.laid_strconv_ErrRange), ("strconv.ErrSyntax", Rows.laid_strconv_ErrSyntax)]) W := laidMet.tail h
  exact (Lib.tabIs_of_head gTab gTabType Tryd.underlying85 Tryd.underlying5 cells5 cells85 h2).cell gTab 15 (by decide)
end Go.Proofs.YtgpjjlkkfddjnaaDoor
/-
  stowagelaw19.To.
-/
namespace Go.Proofs.YtgpjjlkkfddjnaaDoor
open Go.RowKit

theorem size30 : (Tryd.prog.info? 30).map (·.size) = some 6 := by kernel_rfl
set_option maxRecDepth 20000 in
set_option maxHeartbeats 4000000 in
theorem to_any (x : Wh) (ka : Option Addr) (kc : Nat) (w : World) : Calls Tryd.prog 11 #[x.v ka kc] w fun e w' => e = .returned (x.v ka kc) ∧ Below w.heap.size w w' := by
  unfold Wh.v
  go_enter Tryd.func11, Tryd.ntmps11
  go_wp2_with fail
  refine bodyPost_ret (results_cell_row rfl _ _ (w.heap.size + 1) 30 _ (0, 0) _ rfl (heap_alloc2_new w _ _) Tryd.underlying30 rfl size30) rfl ?_
  exact ⟨rfl, ((Below.refl _ _).alloc (Nat.le_refl _) _).trans (((Below.refl _ _).alloc (Nat.le_refl _) _).mono (((Below.refl _ w).alloc (Nat.le_refl _) _).size))⟩
end Go.Proofs.YtgpjjlkkfddjnaaDoor
/-
  Who signs, as it came in: a key that is nothing has no room.
-/
namespace Go.Proofs.YtgpjjlkkfddjnaaDoor
open Go.ChangeShapes Go.WideShapes Go.ChangeAt Go.RowKit
open Go.ChangeMaps (open_string shut_string)

theorem row_bulk2 {H : Type} {enc : TypeId × Value → H} {W : World} {n : Nat} {v : Value} {x : DataW H × List MemPlace} (h : DataW.trod enc Tryd.prog W 0 (fun _ => true) true n 22 [v] = some x) :
    ∃ (a : Option Addr) (l : List UInt8) (c : Nat), v = .slice a l.length c ∧ Bytes W a l ∧ l.length ≤ Rows.uptoBulk x.1 ∧ l.length ≤ c ∧ (a = none → c = 0) := by
  rcases open_ints Tryd.underlying22 Tryd.underlying5 cells5 h with ⟨hcs, hd⟩ | ⟨y, l, c, zs, hcs, _, hl, hm, hz, hd, hcell, hwz⟩
  · have e : v = .slice none 0 0 := by simpa using hcs
    subst e
    exact ⟨none, [], 0, rfl, .inl rfl, by simp, by simp, fun _ => rfl⟩
  · have e : v = .slice (some y) l c := by simpa using hcs
    subst e
    have hz' : zs.length = c := by simpa using hz
    obtain ⟨m, e, hb⟩ := bytes_of_ints hl hz' hcell hwz
    subst e
    refine ⟨some y, m, c, rfl, hb, ?_, hl, fun h => by cases h⟩
    have hd0 : x.1 = .slice (lits .u8 (zs.take m.length)) (lits .u8 (zs.drop m.length)) := congrArg Prod.fst hd
    have hb := bulk_lits (H := H) .u8 (zs.take m.length)
    rw [hd0]
    simp only [Rows.uptoBulk]
    simp only [List.length_take] at hb
    omega
set_option maxRecDepth 20000 in
/-- Who signs, as it came in. -/
theorem open_who2 {H : Type} {enc : TypeId × Value → H} {W : World} {r : Reach} {base : Nat} {v : Value} {d : DataW H} {p : List MemPlace} (hv : Value.okWide Tryd.prog W r base 24 v) (h : DataW.Trod enc Tryd.prog W 0 (fun _ => true) true 24 v d p) (hb : Rows.uptoBulk d ≤ 1048576) :
    ∃ (x : Wh) (ka : Option Addr) (kc : Nat), v = x.v ka kc ∧ WhOk W x ka kc ∧ (ka = none → kc = 0) := by
  obtain ⟨cs, rfl, hsz⟩ := okWide_struct Tryd.underlying24 hv
  obtain ⟨c0, c1, c2, c3, c4, c5, rfl⟩ := arr6 (hsz.trans cells24)
  obtain ⟨fuel, hf⟩ := h
  have hf' : DataW.trod enc Tryd.prog W 0 (fun _ => true) true fuel 24 [c0, c1, c2, c3, c4, c5] = some (d, p) := hf
  obtain ⟨xs, k, _, hx, _, hxl, hg⟩ := DataW.trod_struct Tryd.underlying24 hf'
  obtain ⟨x0, x1, x2, x3, x4, x5, rfl⟩ := list6 hxl
  have hd : d = .agg [x0.1, x1.1, x2.1, x3.1, x4.1, x5.1] := (Prod.mk.inj hx).1
  have f0 : DataW.trod enc Tryd.prog W 0 (fun _ => true) true k 9 [c0] = some x0 := by
    have u : DataW.trod enc Tryd.prog W 0 (fun _ => true) true k 9 (([c0, c1, c2, c3, c4, c5].drop 0).take (Tryd.prog.cellsOf 9)) = [x0, x1, x2, x3, x4, x5][0]? := hg 0 _ rfl
    rw [cells9] at u
    exact u
  have f1 : DataW.trod enc Tryd.prog W 0 (fun _ => true) true k 9 [c1] = some x1 := by
    have u : DataW.trod enc Tryd.prog W 0 (fun _ => true) true k 9 (([c0, c1, c2, c3, c4, c5].drop 1).take (Tryd.prog.cellsOf 9)) = [x0, x1, x2, x3, x4, x5][1]? := hg 1 _ rfl
    rw [cells9] at u
    exact u
  have f2 : DataW.trod enc Tryd.prog W 0 (fun _ => true) true k 9 [c2] = some x2 := by
    have u : DataW.trod enc Tryd.prog W 0 (fun _ => true) true k 9 (([c0, c1, c2, c3, c4, c5].drop 2).take (Tryd.prog.cellsOf 9)) = [x0, x1, x2, x3, x4, x5][2]? := hg 2 _ rfl
    rw [cells9] at u
    exact u
  have f3 : DataW.trod enc Tryd.prog W 0 (fun _ => true) true k 9 [c3] = some x3 := by
    have u : DataW.trod enc Tryd.prog W 0 (fun _ => true) true k 9 (([c0, c1, c2, c3, c4, c5].drop 3).take (Tryd.prog.cellsOf 9)) = [x0, x1, x2, x3, x4, x5][3]? := hg 3 _ rfl
    rw [cells9] at u
    exact u
  have f4 : DataW.trod enc Tryd.prog W 0 (fun _ => true) true k 22 [c4] = some x4 := by
    have u : DataW.trod enc Tryd.prog W 0 (fun _ => true) true k 22 (([c0, c1, c2, c3, c4, c5].drop 4).take (Tryd.prog.cellsOf 22)) = [x0, x1, x2, x3, x4, x5][4]? := hg 4 _ rfl
    rw [cells22] at u
    exact u
  have f5 : DataW.trod enc Tryd.prog W 0 (fun _ => true) true k 9 [c5] = some x5 := by
    have u : DataW.trod enc Tryd.prog W 0 (fun _ => true) true k 9 (([c0, c1, c2, c3, c4, c5].drop 5).take (Tryd.prog.cellsOf 9)) = [x0, x1, x2, x3, x4, x5][5]? := hg 5 _ rfl
    rw [cells9] at u
    exact u
  obtain ⟨s0, r0, q0, _⟩ := DataW.trod_string Tryd.underlying9 f0
  obtain ⟨s1, r1, q1, _⟩ := DataW.trod_string Tryd.underlying9 f1
  obtain ⟨s2, r2, q2, _⟩ := DataW.trod_string Tryd.underlying9 f2
  obtain ⟨s3, r3, q3, _⟩ := DataW.trod_string Tryd.underlying9 f3
  obtain ⟨ka, kl, kc, rfl, hB, hbl, hkc, hkn⟩ := row_bulk2 f4
  obtain ⟨s5, r5, q5, _⟩ := DataW.trod_string Tryd.underlying9 f5
  simp only [List.cons.injEq, and_true] at r0 r1 r2 r3 r5
  subst r0 r1 r2 r3 r5
  have es : ∀ s : ByteArray, (⟨s.data.toList.toArray⟩ : ByteArray) = s := fun s => by cases s; simp
  have e1 : x1.1 = .lit (.string s1.data.toList) := congrArg Prod.fst q1
  have e2 : x2.1 = .lit (.string s2.data.toList) := congrArg Prod.fst q2
  have e3 : x3.1 = .lit (.string s3.data.toList) := congrArg Prod.fst q3
  rw [hd, e1, e2, e3] at hb
  simp only [Rows.uptoBulk, Rows.uptoBulkAll] at hb
  refine ⟨⟨s0.data.toList, s1.data.toList, s2.data.toList, s3.data.toList, kl, s5.data.toList⟩, ka, kc, by simp only [Wh.v, es], ⟨hkc, ?_, hB, ?_, ?_, ?_⟩, hkn⟩
  · show kl.length ≤ _; omega
  · show s1.data.toList.length ≤ _; omega
  · show s2.data.toList.length ≤ _; omega
  · show s3.data.toList.length ≤ _; omega
end Go.Proofs.YtgpjjlkkfddjnaaDoor

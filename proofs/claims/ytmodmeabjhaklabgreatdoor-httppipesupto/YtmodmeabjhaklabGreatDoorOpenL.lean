/-
  What came in, told by lists: a slice of requests.
-/
import Derived.Test.YtmodmeabjhaklabGreatDoorOpenR
namespace Go.Proofs.YtmodmeabjhaklabGreatDoor
open Go.ChangeShapes Go.WideShapes Go.ChangeAt Go.RowKit

structure Rq4 where
  m : List UInt8
  t : List UInt8
  hs : List Hd
  b : List UInt8
instance : Inhabited Rq4 := ⟨⟨[], [], [], []⟩⟩
/-- A request's four cells at a place. -/
def RqAt (w : World) (g o : Nat) (r : Rq4) : Prop :=
  ∃ a c ba bc, w.cell? ⟨g, o, none⟩ = some (.string ⟨r.m.toArray⟩) ∧ w.cell? ⟨g, o + 1, none⟩ = some (.string ⟨r.t.toArray⟩) ∧ w.cell? ⟨g, o + 2, none⟩ = some (.slice a r.hs.length c) ∧ w.cell? ⟨g, o + 3, none⟩ = some (.slice ba r.b.length bc) ∧ Hdrs w a r.hs ∧ Bytes w ba r.b
/-- A list of requests in memory. -/
def Reqs (w : World) (a : Option Addr) (L : List Rq4) : Prop :=
  L = [] ∨ ∃ g off, a = some ⟨g, off, none⟩ ∧ g < w.heap.size ∧ ∀ j (h : j < L.length), RqAt w g (off + j * 4) L[j]
set_option maxRecDepth 20000 in
theorem req_cells {H : Type} {enc : TypeId × Value → H} {W : World} {n : Nat} {cs : List Value} {x : DataW H × List MemPlace} (h : DataW.trod enc Tryz.prog W 0 (fun _ => true) true n 25 cs = some x) :
    ∃ (r : Rq4) (a : Option Addr) (c : Nat) (ba : Option Addr) (bc : Nat), cs = [.string ⟨r.m.toArray⟩, .string ⟨r.t.toArray⟩, .slice a r.hs.length c, .slice ba r.b.length bc] ∧ Hdrs W a r.hs ∧ Bytes W ba r.b ∧ (printL r.m r.t r.hs r.b).length ≤ 4 * Rows.uptoBulk x.1 + 100 ∧ r.hs.length ≤ Rows.uptoBulk x.1 := by
  obtain ⟨y0, y1, y2, y3, k, rfl, hl, g0, g1, g2, g3⟩ := Go.Joins.trod_struct4 Tryz.underlying25 h
  rw [cells25] at hl
  match cs, hl with
  | [v0, v1, v2, v3], _ =>
    have c23 : Tryz.prog.cellsOf 23 = 1 := by kernel_rfl
    have c22 : Tryz.prog.cellsOf 22 = 1 := by kernel_rfl
    simp [cells9, c23, c22] at g0 g1 g2 g3
    obtain ⟨s0, r0, q0, _⟩ := DataW.trod_string Tryz.underlying9 g0
    obtain ⟨s1, r1, q1, _⟩ := DataW.trod_string Tryz.underlying9 g1
    obtain ⟨a, hs, c, rfl, hH, hl1, hl2⟩ := open_hdrs2 Tryz.underlying23 Tryz.underlying31 cells31 rfl rfl rfl rfl g2
    obtain ⟨ba, b, bc, rfl, hB, hbl⟩ := row_bulk g3
    simp only [List.cons.injEq, and_true] at r0 r1
    subst r0 r1
    have es : ∀ s : ByteArray, (⟨s.data.toList.toArray⟩ : ByteArray) = s := fun s => by cases s; simp
    have e0 : y0.1 = .lit (.string s0.data.toList) := congrArg Prod.fst q0
    have e1 : y1.1 = .lit (.string s1.data.toList) := congrArg Prod.fst q1
    refine ⟨⟨s0.data.toList, s1.data.toList, hs, b⟩, a, c, ba, bc, by rw [es, es], hH, hB, ?_, ?_⟩
    · rw [e0, e1]
      simp only [Rows.uptoBulk, Rows.uptoBulkAll, printL, fstL, List.length_append, List.length_cons, List.length_nil]
      omega
    · rw [e0, e1]
      simp only [Rows.uptoBulk, Rows.uptoBulkAll]
      omega
theorem bulk_one {H : Type} (D : Nat → DataW H) : ∀ (l : List Nat) (i : Nat), i ∈ l → Rows.uptoBulk (D i) ≤ Rows.uptoBulkAll (l.map D)
  | [], i, h => by cases h
  | j :: l, i, h => by
    show Rows.uptoBulk (D i) ≤ Rows.uptoBulk (D j) + Rows.uptoBulkAll (l.map D)
    rcases List.mem_cons.1 h with rfl | h
    · omega
    · have := bulk_one D l i h
      omega
set_option maxRecDepth 20000 in
/-- A slice of requests that came in. -/
theorem open_reqs {H : Type} {enc : TypeId × Value → H} {W : World} {r : Reach} {base : Nat} {v : Value} {d : DataW H} {p : List MemPlace} (hv : Value.okWide Tryz.prog W r base 38 v) (h : DataW.Trod enc Tryz.prog W 0 (fun _ => true) true 38 v d p) :
    ∃ (a : Option Addr) (L : List Rq4) (cap : Nat), v = .slice a L.length cap ∧ Reqs W a L ∧ ∀ q ∈ L, (printL q.m q.t q.hs q.b).length ≤ 4 * Rows.uptoBulk d + 100 ∧ q.hs.length ≤ Rows.uptoBulk d := by
  obtain ⟨a, len, cap, rfl⟩ := okWide_slice Tryz.underlying38 hv
  obtain ⟨fuel, hf⟩ := h
  rcases Go.Deep.open_slice Tryz.underlying38 hf with ⟨hcs, _⟩ | ⟨x, len', cap', m, n, D, Pl, hcs, hb, hlc, hcm, hm, hd, hx⟩
  · simp [Value.cells] at hcs
    obtain ⟨rfl, rfl, rfl⟩ := hcs
    exact ⟨none, [], 0, rfl, .inl rfl, fun q hq => by cases hq⟩
  · simp [Value.cells] at hcs
    obtain ⟨rfl, rfl, rfl⟩ := hcs
    have hm' : m = cap := by simpa using hm
    subst hm'
    have each : ∀ i, i < len → ∃ q : Rq4, (∃ a c ba bc, W.cell? (x.add (i * 4)) = some (.string ⟨q.m.toArray⟩) ∧ W.cell? (x.add (i * 4 + 1)) = some (.string ⟨q.t.toArray⟩) ∧ W.cell? (x.add (i * 4 + 2)) = some (.slice a q.hs.length c) ∧ W.cell? (x.add (i * 4 + 3)) = some (.slice ba q.b.length bc) ∧ Hdrs W a q.hs ∧ Bytes W ba q.b) ∧ (printL q.m q.t q.hs q.b).length ≤ 4 * Rows.uptoBulk (D i) + 100 ∧ q.hs.length ≤ Rows.uptoBulk (D i) := by
      intro i hi
      obtain ⟨cs, h1, h2⟩ := hx i (by omega)
      rw [cells25] at h1
      obtain ⟨_, hlen, hcell⟩ := World.cells?_some h1
      obtain ⟨q, a, c, ba, bc, rfl, hH, hB, hp, hn⟩ := req_cells h2
      have e0 := hcell 0 (by omega)
      have e1 := hcell 1 (by omega)
      have e2 := hcell 2 (by omega)
      have e3 := hcell 3 (by omega)
      rw [Go.Deep.add_add] at e0 e1 e2 e3
      exact ⟨q, ⟨a, c, ba, bc, by simpa using e0, by simpa using e1, by simpa using e2, by simpa using e3, hH, hB⟩, hp, hn⟩
    obtain ⟨F, hF⟩ := Go.Deep.choose_lt each
    refine ⟨some x, (List.range len).map F, m, by simp, ?_, ?_⟩
    · by_cases h0 : len = 0
      · subst h0; exact .inl rfl
      · obtain ⟨g, off, spot⟩ := x
        obtain ⟨⟨_, _, _, _, hc0, _⟩, _⟩ := hF 0 (by omega)
        have hspot : spot = none := by simpa [Addr.add] using World.cell?_spot hc0
        subst hspot
        refine .inr ⟨g, off, rfl, ?_, fun j hj => ?_⟩
        · have := block_lt_of_cell hc0
          simpa [Addr.add] using this
        · have hj' : j < len := by simpa using hj
          obtain ⟨⟨a, c, ba, bc, u0, u1, u2, u3, hH, hB⟩, _⟩ := hF j hj'
          have e : ((List.range len).map F)[j] = F j := by simp
          rw [e]
          rw [Addr.add_lit] at u0 u1 u2 u3
          exact ⟨a, c, ba, bc, u0, by rw [Nat.add_assoc]; exact u1, by rw [Nat.add_assoc]; exact u2, by rw [Nat.add_assoc]; exact u3, hH, hB⟩
    · intro q hq
      obtain ⟨i, hi, rfl⟩ := List.mem_map.1 hq
      have hi' := List.mem_range.1 hi
      obtain ⟨_, hp, hn⟩ := hF i hi'
      have hd1 : d = .slice ((List.range len).map D) ((List.range (m - len)).map fun j => D (len + j)) := (Prod.mk.inj hd).1
      have hb1 := bulk_one D (List.range len) i hi
      rw [hd1]
      simp only [Rows.uptoBulk]
      omega
end Go.Proofs.YtmodmeabjhaklabGreatDoor

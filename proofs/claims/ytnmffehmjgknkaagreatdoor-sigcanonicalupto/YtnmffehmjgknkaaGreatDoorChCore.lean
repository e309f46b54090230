/-
  What a slice of bytes holds, told by a list of bytes; how it stays behind later calls.
-/
import Derived.Test.YtnmffehmjgknkaaGreatDoorChLeaf
import Derived.Laws.IdiomStrings
namespace Go.Proofs.YtnmffehmjgknkaaGreatDoor.Ch
open Go.RowKit

theorem info5 : (Tryz.prog.info? 5).map (fun i => (i.zero, i.size, i.bytes)) = some (some (.int .u8 0), 1, 1) := by kernel_rfl
theorem info9 : (Tryz.prog.info? 9).map (fun i => (i.zero, i.size, i.bytes)) = some (some (.string ⟨#[]⟩), 1, 16) := by kernel_rfl

/-- The cells of a list of bytes. -/
def bcs (l : List UInt8) : List Value := l.map fun c => Value.int .u8 (c.toNat : Int)

theorem bcs_length (l : List UInt8) : (bcs l).length = l.length := by simp [bcs]
theorem bcs_append (l m : List UInt8) : bcs (l ++ m) = bcs l ++ bcs m := by simp [bcs]
theorem bcs_one (l : List UInt8) : ∀ u ∈ bcs l, u.oneCell' = true := by
  intro u hu
  simp only [bcs, List.mem_map] at hu
  obtain ⟨c, _, rfl⟩ := hu
  rfl
theorem bcs_get {l : List UInt8} {j : Nat} (h : j < l.length) : (bcs l)[j]? = some (.int .u8 (l[j].toNat : Int)) := by
  simp [bcs, List.getElem?_eq_getElem h]

/-- The slice's head leads to the bytes l (or there are none). -/
def Bytes (w : World) (a : Option Addr) (l : List UInt8) : Prop :=
  l = [] ∨ ∃ b off, a = some ⟨b, off, none⟩ ∧ b < w.heap.size ∧ ∀ j (h : j < l.length), w.cell? ⟨b, off + j, none⟩ = some (.int .u8 (l[j].toNat : Int))

theorem Bytes.at {w : World} {a : Option Addr} {l : List UInt8} (h : Bytes w a l) {k : Nat} (hk : k < l.length) :
    ∃ b off, a = some ⟨b, off, none⟩ ∧ b < w.heap.size ∧ ∀ j (h : j < l.length), w.cell? ⟨b, off + j, none⟩ = some (.int .u8 (l[j].toNat : Int)) := by
  rcases h with rfl | h
  · simp at hk
  · exact h

theorem Bytes.below {w w' : World} {a : Option Addr} {l : List UInt8} (h : Bytes w a l) {B : Nat} (hb : Below B w w') (hB : w.heap.size ≤ B) : Bytes w' a l := by
  rcases h with rfl | ⟨b, off, rfl, hb', hc⟩
  · exact .inl rfl
  · refine .inr ⟨b, off, rfl, by have := hb.size; omega, fun j hj => ?_⟩
    rw [hb.cell (p := ⟨b, off + j, none⟩) (by show b < B; omega)]
    exact hc j hj

/-- A row of the call's own. -/
def Own (w : World) (base : Nat) (v : Value) (l : List UInt8) : Prop := w.ownsRow base 5 1 v l.length (bcs l)

theorem Own.bytes {w : World} {base : Nat} {v : Value} {l : List UInt8} (h : Own w base v l) : ∃ a cap, v = .slice a l.length cap ∧ Bytes w a l := by
  obtain ⟨hl, ⟨rfl, hn⟩ | ⟨g, cap, cur, rfl, hg, hh, hnc, hcm, hcs, htk⟩⟩ := h
  · exact ⟨none, 0, by rw [hn], .inl (List.eq_nil_of_length_eq_zero hn)⟩
  · refine ⟨_, cap, rfl, .inr ⟨g, 0, rfl, ?_, ?_⟩⟩
    · rcases Nat.lt_or_ge g w.heap.size with h | h
      · exact h
      · rw [Array.getElem?_eq_none h] at hh
        simp at hh
    · intro j hj
      have hown : w.ownsRow base 5 1 (.slice (some ⟨g, 0, none⟩) l.length cap) l.length (bcs l) := ⟨hl, .inr ⟨g, cap, cur, rfl, hg, hh, hnc, hcm, hcs, htk⟩⟩
      have := hown.cellAt j (by omega)
      simp only [Nat.zero_add]
      rw [this, bcs_get hj]

theorem convert_bytes (w : World) (a : Option Addr) (cap : Nat) (l : List UInt8) (h : Bytes w a l) :
    (convert 23 9 (.slice a l.length cap)).run Tryz.prog w = .ok (.string ⟨l.toArray⟩) w := by
  cases a with
  | none =>
    obtain rfl : l = [] := by rcases h with h | ⟨_, _, he, _⟩; exact h; simp at he
    rw [run_convert_bytes_string w 23 9 5 none _ cap Tryz.underlying23 Tryz.underlying5 Tryz.underlying9]
    simp [Conv.bytesToString]
    rfl
  | some ad =>
    refine run_convert_bytes_back w 23 9 5 ad cap l Tryz.underlying23 Tryz.underlying5 Tryz.underlying9 ?_
    intro j hj
    rcases h with rfl | ⟨b, off, he, _, hc⟩
    · simp at hj
    · simp only [Option.some.injEq] at he
      subst he
      have e : (⟨b, off, none⟩ : Addr).add j = ⟨b, off + j, none⟩ := by cases j <;> simp [Addr.add]
      rw [e]
      exact hc j hj
end Go.Proofs.YtnmffehmjgknkaaGreatDoor.Ch

/-
  A block of words (an array, or the array beneath a slice), told by a list.
-/
import Derived.Test.YtnmffehmjgknkaaGreatDoorCore
import Derived.Deep.WholeRow
namespace Go.Proofs.YtnmffehmjgknkaaGreatDoor
open Go.RowKit

abbrev Wd := BitVec 32
def zeros (n : Nat) : List Wd := List.replicate n 0
/-- The cells of a list of words. -/
def wcs (l : List Wd) : List Value := l.map fun x => Value.int .u32 (W x)
theorem wcs_length (l : List Wd) : (wcs l).length = l.length := by simp [wcs]
theorem wcs_append (l m : List Wd) : wcs (l ++ m) = wcs l ++ wcs m := by simp [wcs]
theorem wcs_get {l : List Wd} {j : Nat} (h : j < l.length) : (wcs l)[j]? = some (.int .u32 (W l[j])) := by simp [wcs, List.getElem?_eq_getElem h]
theorem wcs_one (l : List Wd) : ∀ u ∈ wcs l, u.oneCell' = true := by
  intro u hu
  simp only [wcs, List.mem_map] at hu
  obtain ⟨c, _, rfl⟩ := hu
  rfl
theorem wcs_all (l : List Wd) : (wcs l).toArray.all (·.oneCell') = true := by
  rw [Array.all_eq_true']
  intro u hu
  exact wcs_one l u (by simpa using hu)

theorem getD_at {l : List Wd} {k : Nat} (h : k < l.length) : l.getD k 0 = l[k] := by simp [List.getD, h]
/-- The block g holds the words l, and nothing else. -/
def Wds (w : World) (g : Nat) (t : TypeId) (l : List Wd) : Prop := w.heap[g]? = some (.cells (wcs l).toArray t (0, 0))

theorem Wds.lt {w : World} {g : Nat} {t : TypeId} {l : List Wd} (h : Wds w g t l) : g < w.heap.size := (Array.getElem?_eq_some_iff.1 h).1
theorem Wds.cell {w : World} {g : Nat} {t : TypeId} {l : List Wd} (h : Wds w g t l) {k : Nat} (hk : k < l.length) : w.cell? ⟨g, k, none⟩ = some (.int .u32 (W l[k])) := by
  rw [cell_of_row w g k _ t (0, 0) h]
  simpa using wcs_get hk
theorem Wds.frozen {w : World} {g : Nat} {t : TypeId} {l : List Wd} (h : Wds w g t l) (k : Nat) : w.frozen? ⟨g, k, none⟩ = false := by
  unfold Wds at h
  simp [World.frozen?, h]
theorem Wds.set {w : World} {g : Nat} {t : TypeId} {l : List Wd} (h : Wds w g t l) (k : Nat) (x : Wd) : Wds (w.setCell ⟨g, k, none⟩ (.int .u32 (W x))) g t (l.set k x) := by
  unfold Wds
  rw [setCell_eq_setRow w g k _ t (0, 0) _ h, setRow_heap w g _ _ t (0, 0) h]
  congr 2
  apply Array.ext'
  simp [wcs, List.map_set]
theorem Wds.other {w w' : World} {g : Nat} {t : TypeId} {l : List Wd} (h : Wds w g t l) (e : w'.heap[g]? = w.heap[g]?) : Wds w' g t l := e.trans h
theorem Wds.setCell {w : World} {g : Nat} {t : TypeId} {l : List Wd} (h : Wds w g t l) {a : Addr} (ha : g ≠ a.block) (u : Value) : Wds (w.setCell a u) g t l := h.other (Below.heap_setCell _ _ _ _ ha)
theorem Wds.alloc {w : World} {g : Nat} {t : TypeId} {l : List Wd} (h : Wds w g t l) (o : Obj) : Wds (w.alloc o) g t l := h.other (Below.heap_alloc _ _ _ h.lt)
theorem Wds.drew {w : World} {g : Nat} {t : TypeId} {l : List Wd} (h : Wds w g t l) : Wds w.drew g t l := h
theorem Wds.drewN {w : World} {g : Nat} {t : TypeId} {l : List Wd} (h : Wds w g t l) (n : Nat) : Wds (w.drewN n) g t l := h
theorem Wds.grown {w w' : World} {g : Nat} {t : TypeId} {l : List Wd} {row : Option Nat} (h : Wds w g t l) (hg : w.grownBy w' row) (hne : some g ≠ row) : Wds w' g t l := h.other (hg.block g h.lt hne)
theorem Wds.below {w w' : World} {g : Nat} {t : TypeId} {l : List Wd} {B : Nat} (h : Wds w g t l) (hb : Below B w w') (hB : g < B) : Wds w' g t l := h.other (hb.block g hB)
theorem Wds.new (w : World) (t : TypeId) (l : List Wd) : Wds (w.alloc (.cells (wcs l).toArray t)) w.heap.size t l := heap_alloc_last w _

theorem Wds.new' {w : World} {t : TypeId} {l : List Wd} {g : Nat} {c : Array Value} (hg : g = w.heap.size) (hc : c = (wcs l).toArray) : Wds (w.alloc (.cells c t)) g t l := by
  subst hg hc
  exact heap_alloc_last w _

theorem below_drewN {B : Nat} {a w : World} (h : Below B a w) (n : Nat) : Below B a (w.drewN n) := ⟨h.os, h.tape, h.output, h.size, h.block⟩
theorem grown_drewN {w w' : World} {row : Option Nat} (h : w.grownBy w' row) (n : Nat) : w.grownBy (w'.drewN n) row := ⟨h.os, h.tape, h.output, h.size, h.block⟩
theorem grown_drew {w w' : World} {row : Option Nat} (h : w.grownBy w' row) : w.grownBy w'.drew row := ⟨h.os, h.tape, h.output, h.size, h.block⟩
theorem grown_trans {a b c : World} {row : Option Nat} (h : a.grownBy b row) (k : b.grownBy c row) : a.grownBy c row :=
  ⟨k.os.trans h.os, k.tape.trans h.tape, k.output.trans h.output, Nat.le_trans h.size k.size, fun i hi hne => (k.block i (Nat.lt_of_lt_of_le hi h.size) hne).trans (h.block i hi hne)⟩
theorem grown_refl (w : World) (row : Option Nat) : w.grownBy w row := ⟨rfl, rfl, rfl, Nat.le_refl _, fun _ _ _ => rfl⟩
theorem grown_setCell {a w : World} {g : Nat} (h : a.grownBy w (some g)) {p : Addr} (hp : p.block = g) (u : Value) : a.grownBy (w.setCell p u) (some g) :=
  grown_trans h ⟨rfl, rfl, rfl, by simp [World.setCell], fun k _ hne => Below.heap_setCell _ _ _ _ (by intro e; exact hne (by rw [e, hp]))⟩
theorem grown_below {w w' : World} {g B : Nat} (h : w.grownBy w' (some g)) (hB : B ≤ w.heap.size) (hg : B ≤ g) : Below B w w' :=
  (Below.refl B w).grown h hB (by intro k e; cases e; exact hg)
theorem below_grown {w w' : World} (h : Below w.heap.size w w') (row : Option Nat) : w.grownBy w' row := ⟨h.os, h.tape, h.output, h.size, fun k hk _ => h.block k hk⟩

theorem info159 : (Tryz.prog.info? 159).map (fun i => (i.zero, i.size, i.bytes)) = some (some (.int .u32 0), 1, 4) := by kernel_rfl
theorem size176 : (Tryz.prog.info? 176).map (·.size) = some 64 := by kernel_rfl
theorem size175 : (Tryz.prog.info? 175).map (·.size) = some 8 := by kernel_rfl
theorem size134 : (Tryz.prog.info? 134).map (·.size) = some 64 := by kernel_rfl
end Go.Proofs.YtnmffehmjgknkaaGreatDoor

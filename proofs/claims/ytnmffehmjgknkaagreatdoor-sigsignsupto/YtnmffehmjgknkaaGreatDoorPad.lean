/-
  A block of bytes told by a list; hash.padded by its contract.
-/
import Derived.Test.YtnmffehmjgknkaaGreatDoorTake
import Derived.Laws.CopyOwn
namespace Go.Proofs.YtnmffehmjgknkaaGreatDoor
open Go.RowKit

/-- The block g holds the bytes l, and nothing else. -/
def Bts (w : World) (g : Nat) (l : List UInt8) : Prop := w.heap[g]? = some (.cells (bcs l).toArray 5 (0, 0))
theorem Bts.lt {w : World} {g : Nat} {l : List UInt8} (h : Bts w g l) : g < w.heap.size := (Array.getElem?_eq_some_iff.1 h).1
theorem Bts.cell {w : World} {g : Nat} {l : List UInt8} (h : Bts w g l) {k : Nat} (hk : k < l.length) : w.cell? ⟨g, k, none⟩ = some (.int .u8 (l[k].toNat : Int)) := by
  rw [cell_of_row w g k _ 5 (0, 0) h]
  simpa using bcs_get hk
theorem Bts.frozen {w : World} {g : Nat} {l : List UInt8} (h : Bts w g l) (k : Nat) : w.frozen? ⟨g, k, none⟩ = false := by
  unfold Bts at h
  simp [World.frozen?, h]
theorem Bts.set {w : World} {g : Nat} {l : List UInt8} (h : Bts w g l) (k : Nat) (x : UInt8) : Bts (w.setCell ⟨g, k, none⟩ (.int .u8 (x.toNat : Int))) g (l.set k x) := by
  unfold Bts
  rw [setCell_eq_setRow w g k _ 5 (0, 0) _ h, setRow_heap w g _ _ 5 (0, 0) h]
  congr 2
  apply Array.ext'
  simp [bcs, List.map_set]
theorem Bts.other {w w' : World} {g : Nat} {l : List UInt8} (h : Bts w g l) (e : w'.heap[g]? = w.heap[g]?) : Bts w' g l := e.trans h
theorem Bts.below {w w' : World} {g B : Nat} {l : List UInt8} (h : Bts w g l) (hb : Below B w w') (hB : g < B) : Bts w' g l := h.other (hb.block g hB)
theorem Bts.alloc {w : World} {g : Nat} {l : List UInt8} (h : Bts w g l) (o : Obj) : Bts (w.alloc o) g l := h.other (Below.heap_alloc _ _ _ h.lt)
theorem Bts.grown {w w' : World} {g : Nat} {l : List UInt8} {row : Option Nat} (h : Bts w g l) (hg : w.grownBy w' row) (hne : some g ≠ row) : Bts w' g l := h.other (hg.block g h.lt hne)
theorem Bts.bytes {w : World} {g : Nat} {l : List UInt8} (h : Bts w g l) : Bytes w (some ⟨g, 0, none⟩) l :=
  .inr ⟨g, 0, rfl, h.lt, fun j hj => by rw [Nat.zero_add]; exact h.cell hj⟩

theorem size5 : (Tryz.prog.info? 5).map (·.size) = some 1 := by kernel_rfl
theorem bytes_src {w : World} {a : Option Addr} {l : List UInt8} (h : Bytes w a l) (hl : 0 < l.length) : ∃ ad, a = some ad ∧ ∀ j v, (bcs l)[j]? = some v → w.cell? (ad.add j) = some v := by
  obtain ⟨b, off, rfl, _, hc⟩ := h.at hl
  refine ⟨_, rfl, fun j v hv => ?_⟩
  have hj : j < l.length := by have := (List.getElem?_eq_some_iff.1 hv).1; rwa [bcs_length] at this
  rw [Addr.add_lit, hc j hj, ← bcs_get hj, hv]

/-- How long the rest is behind its filling. -/
def pl (n : Nat) : Nat := (n + 8) / 64 * 64 + 64
theorem pl_bd (n : Nat) : n + 9 ≤ pl n ∧ pl n ≤ n + 72 := by unfold pl; omega
def padL (r : List UInt8) : List UInt8 := r ++ (128 :: List.replicate (pl r.length - r.length - 1) 0)
theorem padL_length (r : List UInt8) : (padL r).length = pl r.length := by have := pl_bd r.length; simp [padL]; omega

theorem made_bytes (n : Nat) : (madeCells (Value.int .u8 0).cells (n * 1)).toList = bcs (List.replicate n 0) := by
  apply List.ext_getElem?
  intro i
  simp only [madeCells, bcs, Value.cells, Nat.mul_one, List.map_replicate]
  rcases Nat.lt_or_ge i n with h | h
  · simp [h, Nat.mod_one]
  · simp [h]
theorem row_full {w : World} {base e g n : Nat} {xs : List Value} (h : w.ownsRow base e 1 (.slice (some ⟨g, 0, none⟩) n n) n xs) : w.heap[g]? = some (.cells xs.toArray e (0, 0)) := by
  obtain ⟨hl, ⟨hv, _⟩ | ⟨g', cap, cur, hv, _, hh, _, _, hcs, htk⟩⟩ := h
  · simp at hv
  · simp only [Value.slice.injEq, Option.some.injEq, Addr.mk.injEq, and_true, true_and] at hv
    obtain ⟨rfl, rfl⟩ := hv
    rw [hh, ← htk, List.take_of_length_le (by simp; omega)]
theorem splice_pad (r : List UInt8) (p : Nat) (_hp : r.length ≤ p) : splice (bcs (List.replicate p 0)) 0 (bcs r) = bcs (r ++ List.replicate (p - r.length) 0) := by
  simp [splice, bcs]
theorem set_pad (r : List UInt8) (n : Nat) : (r ++ List.replicate (n + 1) 0).set r.length 128 = r ++ (128 :: List.replicate n 0) := by
  rw [List.set_append_right _ _ (Nat.le_refl _), Nat.sub_self, List.replicate_succ]
  rfl

/-- 'copy(p, r)' into bytes that were just made. -/
theorem wpList_copy_made {w w1 : World} {ops : Array Oper} {rs : List Oper} {o : Oper} {ac : Act} {Q : Exit → Act → World → Prop} (hgd : o.guard = none) (d s : Operand)
    (ho : o.op = .call { callee := .builtin .copy, args := #[d, s], argTypes := #[23, 23] }) (a : Option Addr) (r : List UInt8) (cap p : Nat) (hp : r.length ≤ p)
    (hd : ac.eval d = .slice (some ⟨w.heap.size, 0, none⟩) p p) (hs : ac.eval s = .slice a r.length cap) (hb : Bytes w a r)
    (hown : w1.ownsRow w.heap.size 5 1 (.slice (some ⟨w.heap.size, 0, none⟩) p p) p (madeCells (Value.int .u8 0).cells (p * 1)).toList) (hgrow : w.grownBy w1 none)
    (h : ∀ w', Hid (Bts w' w.heap.size (r ++ List.replicate (p - r.length) 0)) → Below w.heap.size w w' → wpList Tryz.prog ops Q rs (ac.put o.dst (goInt r.length)) w') :
    wpList Tryz.prog ops Q (o :: rs) ac w1 := by
  have hrow := row_full hown
  rw [made_bytes] at hrow
  have hnx : Below w.heap.size w w1 := (Below.refl _ _).grown hgrow (Nat.le_refl _) (by simp)
  refine wpList_copy_splice hgd d s 23 23 ho 5 Tryz.underlying23 size5 _ _ _ _ _ _ hd hs w.heap.size 0 (bcs (List.replicate p 0)) 5 hrow (bcs r) ?_ ?_ ?_ (bcs_one r) w.heap.size w hnx (Nat.le_refl _) ?_
  · rw [bcs_length]
    exact (Nat.min_eq_left hp).symm
  · intro h
    rw [bcs_length] at h
    exact ⟨rfl, bytes_src (hb.below hnx (Nat.le_refl _)) h⟩
  · rw [bcs_length, bcs_length, List.length_replicate]
    omega
  · intro w2 hh2 hnx2
    rw [bcs_length]
    refine h w2 ?_ hnx2
    have := hh2.out
    rw [splice_pad r p hp] at this
    exact this

set_option maxHeartbeats 1000000 in
theorem padded_any (a : Option Addr) (r : List UInt8) (cap : Nat) (w : World) (hr : r.length ≤ 140737488351232) (hb : Bytes w a r) :
    Calls Tryz.prog 164 #[.slice a r.length cap] w fun e w' => e = .returned (.slice (some ⟨w.heap.size, 0, none⟩) (pl r.length) (pl r.length)) ∧ Bts w' w.heap.size (padL r) ∧ Below w.heap.size w w' := by
  obtain ⟨i0, hi, hz0, hz1, hz2⟩ := info_parts info5
  have hbd := pl_bd r.length
  have hpi : ((r.length : Int) + 8) / 64 * 64 + 64 = ((pl r.length : Nat) : Int) := by unfold pl; omega
  have hm : i0.bytes * pl r.length ≤ 281474976710656 := by rw [hz2]; omega
  generalize hP : pl r.length = p at *
  have HP : Hid (pl r.length = p) := hP
  clear hP
  go_enter Tryz.func164, Tryz.ntmps164
  go_wp2_with (first
    | (at_make; refine wpList_make_full _ rfl _ _ 23 rfl w.heap.size 5 i0 (.int .u8 0) 1 Tryz.underlying23 hi hz0 hz1 _ _ _ _ p rfl rfl (by omega) (by omega) hm (by unfold maxLen; omega) (Nat.le_refl _) ?_; intro w1 hown hgrow)
    | (refine wpList_copy_made rfl _ _ rfl a r cap p (by omega) rfl rfl hb hown hgrow ?_; intro w2 HB2 hnx2; clear hown hgrow; have hlen : r.length < (r ++ List.replicate (p - r.length) (0 : UInt8)).length := (by simp; omega); have hcell := HB2.out.cell hlen; have hfr := HB2.out.frozen r.length; have hlt : (r.length : Int) < (p : Int) := (by omega)))

  go_ret
  refine ⟨rfl, ?_, hnx2.setCell (Nat.le_refl _) _⟩
  have := HB2.out.set r.length 128
  rw [show p - r.length = (p - r.length - 1) + 1 from by omega, set_pad] at this
  unfold padL
  rw [HP.out]
  exact this
end Go.Proofs.YtnmffehmjgknkaaGreatDoor

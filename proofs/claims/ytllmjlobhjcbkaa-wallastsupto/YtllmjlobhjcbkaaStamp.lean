/-
  The stamp of a log's next frame by its contract.
-/
import Derived.Test.YtllmjlobhjcbkaaLog
import Derived.Test.YtllmjlobhjcbkaaStampB
namespace Go.Proofs.Ytllmjlobhjcbkaa
open Go.RowKit

def stampL (g : G) : List UInt8 := be g.ep 8 ++ be g.nx 8
theorem stampL_length (g : G) : (stampL g).length = 16 := by rw [stampL, List.length_append, be_length, be_length]

set_option maxHeartbeats 2000000 in
set_option maxRecDepth 20000 in
theorem stamp_any (l d : Nat) (g : G) (w : World) (h : LogV w l d g) (hok : g.Ok) :
    Calls Try.prog 48 #[.pointer (some ⟨l, 0, none⟩)] w fun e w' => ∃ v, e = .returned v ∧ Own w' w.heap.size v (stampL g) ∧ Below w.heap.size w w' := by
  have c3 := cell_blk h 3
  have c4 := cell_blk h 4
  simp only [List.getElem?_toArray] at c3 c4
  have hlt : l < w.heap.size := (Array.getElem?_eq_some_iff.1 h).1
  have h1 := hok.ep
  have h2 := hok.nx
  have HP1 : Hid (∀ p, Below w.heap.size w p → Calls Try.prog 54 #[.int .u64 (g.ep : Int)] p fun e q => ∃ a c, e = .returned (.slice a 8 c) ∧ Bytes q a (be g.ep 8) ∧ (a = none → c = 0) ∧ Below w.heap.size w q ∧ Below p.heap.size p q) := by
    intro p hp
    refine (put64_any g.ep p h1).mono ?_
    rintro e q ⟨v, rfl, ho, hb⟩
    obtain ⟨a, c, rfl, hby, hno, _⟩ := ho.open
    rw [be_length]
    exact ⟨a, c, rfl, hby, hno, hp.trans (hb.mono hp.size), hb⟩
  have HP2 : Hid (∀ p, Below w.heap.size w p → Calls Try.prog 54 #[.int .u64 (g.nx : Int)] p fun e q => ∃ a c, e = .returned (.slice a 8 c) ∧ Bytes q a (be g.nx 8) ∧ (a = none → c = 0) ∧ Below w.heap.size w q ∧ Below p.heap.size p q) := by
    intro p hp
    refine (put64_any g.nx p (by omega)).mono ?_
    rintro e q ⟨v, rfl, ho, hb⟩
    obtain ⟨a, c, rfl, hby, hno, _⟩ := ho.open
    rw [be_length]
    exact ⟨a, c, rfl, hby, hno, hp.trans (hb.mono hp.size), hb⟩
  have HCE : Hid (∀ q : World, Below w.heap.size w q → q.cell? ⟨l, 3, none⟩ = some (.int .u64 (g.ep : Int)) ∧ q.cell? ⟨l, 4, none⟩ = some (.int .u64 (g.nx : Int)) ∧ Below w.heap.size w q) := by
    intro q hq
    exact ⟨(hq.cell (p := ⟨l, 3, none⟩) hlt).trans c3, (hq.cell (p := ⟨l, 4, none⟩) hlt).trans c4, hq⟩
  have HB0 := (show Below w.heap.size w w.drew from (Below.refl _ w).drew)
  have HC : Hid (∀ (q : World) (a1 : Option Addr) (k1 : Nat) (a2 : Option Addr) (k2 : Nat), Bytes q a1 (be g.ep 8) → (a1 = none → k1 = 0) → Bytes q a2 (be g.nx 8) → (a2 = none → k2 = 0) → Below w.heap.size w q →
      Calls Try.prog 53 #[.slice (some ⟨q.heap.size, 0, none⟩) 2 2] (q.alloc (.cells #[.slice a1 8 k1, .slice a2 8 k2] 47)) fun e w' => ∃ v, e = .returned v ∧ Own w' w.heap.size v (stampL g) ∧ Below w.heap.size w w') := by
    intro q a1 k1 a2 k2 b1 n1 b2 n2 hq
    have hr : Rws (q.alloc (.cells #[.slice a1 8 k1, .slice a2 8 k2] 47)) q.heap.size [⟨a1, be g.ep 8, k1⟩, ⟨a2, be g.nx 8, k2⟩] := two_rows (by simp only [Sl.v, be_length]) b1 n1 b2 n2
    refine (concat_any q.heap.size [⟨a1, be g.ep 8, k1⟩, ⟨a2, be g.nx 8, k2⟩] 2 _ hr (by simp) (by simp [cat, be_length])).mono ?_
    rintro e w' ⟨v, rfl, ho, hb⟩
    have hq2 : Below w.heap.size w (q.alloc (.cells #[.slice a1 8 k1, .slice a2 8 k2] 47)) := hq.alloc hq.size _
    refine ⟨v, rfl, ?_, hq2.trans (hb.mono hq2.size)⟩
    have e : cat [⟨a1, be g.ep 8, k1⟩, ⟨a2, be g.nx 8, k2⟩] = stampL g := by simp [cat, stampL]
    rw [e] at ho
    exact owns_base ho fun j hj => by have := (owns_lt ho j hj).1; have := hq2.size; omega
  clear h hok h1 h2
  go_enter Try.func48, Try.ntmps48
  go_wp2
  go_region_held3 (fun w' => w'.cell? ⟨l, 3, none⟩ = some (.int .u64 (g.ep : Int)) ∧ w'.cell? ⟨l, 4, none⟩ = some (.int .u64 (g.nx : Int)) ∧ Below w.heap.size w w') (first | exact HCE.out _ (by assumption) | exact HCE.out _ (below_alloc (by assumption) _) | (go_keep))
    (first
      | (go_at_call 54; (with_reducible refine Calls.mono (HP1.out _ (by assumption)) ?_); rintro e w1 ⟨a1, k1, rfl, by1, no1, hb1, hp1⟩)
      | (go_at_call 54; (with_reducible refine Calls.mono (HP2.out _ (by assumption)) ?_); rintro e w2 ⟨a2, k2, rfl, by2, no2, hb2, hp2⟩; have by1' := by1.below hp2 (Nat.le_refl _))
      | (go_at_call 53; (refine Calls.mono (HC.out w2 a1 k1 a2 k2 by1' no1 by2 no2 hb2) ?_); rintro e w3 ⟨v3, rfl, ho3, hb3⟩))
  go_wp2
  go_ret
  exact ⟨_, rfl, ho3, hb3⟩
end Go.Proofs.Ytllmjlobhjcbkaa

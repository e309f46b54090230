/-
  fault.told.
-/
import Derived.Test.YtlaahendcdifgaaDoorFnd
import Derived.Laws.Rows
namespace Go.Proofs.YtlaahendcdifgaaDoor
open Go.RowKit

theorem size_setCells' (b : Nat) : ∀ (vs : List Value) (o : Nat) (w : World), (w.setCells b o vs).heap.size = w.heap.size
  | [], _, _ => rfl
  | v :: r, o, w => by
    show ((w.setCell ⟨b, o, none⟩ v).setCells b (o + 1) r).heap.size = _
    rw [size_setCells' b r]
    simp [World.setCell]
theorem below_setCells {B : Nat} {w : World} {T : Nat} (h : B ≤ T) : ∀ (vs : List Value) (o : Nat) (a : World), Below B a w → Below B a (w.setCells T o vs) := by
  intro vs
  induction vs generalizing w with
  | nil => intro _ _ h; exact h
  | cons v r ih => intro o a hb; exact ih (o + 1) a (hb.setCell h v)
/-- errors.As of a named one: the target's cells are its. -/
theorem as_hitB (x y : Int) (s : ByteArray) (T : Nat) (o0 o1 o2 : Value) (w : World) (hg : Et w) (ht : w.heap[T]? = some (.cells #[o0, o1, o2] 50)) :
    Calls Tryd.prog 25 #[.iface 50 (.agg #[.int .i64 x, .string s, .int .i64 y]), .iface 61 (.pointer (some ⟨T, 0, none⟩))] w fun ev w' => ev = .returned (.bool true) ∧ (w'.cell? ⟨T, 0, none⟩ = some (.int .i64 x) ∧ w'.cell? ⟨T, 1, none⟩ = some (.string s) ∧ w'.cell? ⟨T, 2, none⟩ = some (.int .i64 y)) ∧ Below T w w' := by
  have htl : T < w.heap.size := by
    rcases Nat.lt_or_ge T w.heap.size with h | h
    · exact h
    · simp [Array.getElem?_eq_none h] at ht
  refine (as_hit x y s T o0 o1 o2 w hg ht).mono ?_
  rintro e w' ⟨rfl, rfl⟩
  have hb : ∀ o1 o2 o3 o4 : Obj, Below w.heap.size w ((((w.alloc o1).alloc o2).alloc o3).alloc o4) := fun o1 o2 o3 o4 => by
    repeat (first | exact Below.refl _ _ | refine Below.alloc ?_ (by simp <;> omega) _)
  have hb' := hb (.cells #[.pointer (some ⟨T, 0, none⟩)] 61) (.cells #[.pointer (some ⟨1, 61, none⟩), .pointer (some ⟨w.heap.size, 0, none⟩), .int .u64 150] 65) (.cells #[.pointer (some ⟨1, 61, none⟩), .pointer (some ⟨w.heap.size, 0, none⟩), .int .u64 150] 65) (.cells #[.int .i64 x, .string s, .int .i64 y] 50)
  generalize ((((w.alloc (.cells #[.pointer (some ⟨T, 0, none⟩)] 61)).alloc (.cells #[.pointer (some ⟨1, 61, none⟩), .pointer (some ⟨w.heap.size, 0, none⟩), .int .u64 150] 65)).alloc (.cells #[.pointer (some ⟨1, 61, none⟩), .pointer (some ⟨w.heap.size, 0, none⟩), .int .u64 150] 65)).alloc (.cells #[.int .i64 x, .string s, .int .i64 y] 50)) = W at *
  have ht' := (hb'.block T htl).trans ht
  have hr := World.rangeAt_setCells_same W T 0 [.int .i64 x, .string s, .int .i64 y] (show W.there T 0 3 from there_blk ht')
  refine ⟨rfl, ⟨?_, ?_, ?_⟩, below_setCells (Nat.le_refl _) _ _ _ (hb'.mono (Nat.le_of_lt htl))⟩
  · simpa using hr 0 _ rfl
  · simpa using hr 1 _ rfl
  · simpa using hr 2 _ rfl

def nmF (e : Int) : Int × ByteArray × Int := if isN e then (e, nmR e) else (336, nmR 336)

theorem fnd_yes {e : Int} (h : isN e = true) : fndV e = .iface 50 (.agg #[.int .i64 e, .string (nmR e).1, .int .i64 (nmR e).2]) := if_pos h
theorem fnd_no {e : Int} (h : isN e = false) : fndV e = .iface 22 (.int .i64 e) := if_neg (by rw [h]; exact Bool.false_ne_true)
theorem nmF_yes {e : Int} (h : isN e = true) : nmF e = (e, nmR e) := if_pos h
theorem nmF_no {e : Int} (h : isN e = false) : nmF e = (336, nmR 336) := if_neg (by rw [h]; exact Bool.false_ne_true)
theorem size50 : (Tryd.prog.info? 50).map (·.size) = some 3 := by kernel_rfl

theorem heap_set3 {w : World} {b : Nat} {t : TypeId} {v0 v1 v2 x y z : Value} (h : w.heap[b]? = some (.cells #[v0, v1, v2] t)) : (((w.setCell ⟨b, 0, none⟩ x).setCell ⟨b, 1, none⟩ y).setCell ⟨b, 2, none⟩ z).heap[b]? = some (.cells #[x, y, z] t) := by
  simp [World.setCell, Array.getElem?_modify, h]
theorem box_there {w : World} {b : Nat} {t : TypeId} {v0 v1 v2 : Value} (h : w.heap[b]? = some (.cells #[v0, v1, v2] t)) : (w.cell? ⟨b, 0, none⟩ = some v0 ∧ w.cell? ⟨b, 1, none⟩ = some v1 ∧ w.cell? ⟨b, 2, none⟩ = some v2) ∧ w.frozen? ⟨b, 0, none⟩ = false ∧ w.frozen? ⟨b, 1, none⟩ = false ∧ w.frozen? ⟨b, 2, none⟩ = false := by
  refine ⟨⟨cell_blk h 0, cell_blk h 1, cell_blk h 2⟩, ?_, ?_, ?_⟩ <;> simp [World.frozen?, h]
/-- Two boxes of a named one are new. -/
def Two (w w1 : World) : Prop := Below w.heap.size w w1 ∧ w1.heap.size = w.heap.size + 2 ∧ w1.heap[w.heap.size]? = some (.cells #[.int .i64 0, .string ⟨#[]⟩, .int .i64 0] 50) ∧ w1.heap[w.heap.size + 1]? = some (.cells #[.int .i64 0, .string ⟨#[]⟩, .int .i64 0] 50)
theorem two_new (w : World) : Two w ((w.alloc (.cells #[.int .i64 0, .string ⟨#[]⟩, .int .i64 0] 50)).alloc (.cells #[.int .i64 0, .string ⟨#[]⟩, .int .i64 0] 50)) := by
  refine ⟨((Below.refl _ _).alloc (Nat.le_refl _) _).alloc (by simp) _, by simp, ?_, heap_alloc_at (by simp)⟩
  rw [Below.heap_alloc _ _ _ (by simp)]
  exact heap_alloc_new _ _

set_option maxRecDepth 20000 in
set_option maxHeartbeats 1600000 in
theorem told_yes (e : Int) (w : World) (hg : Et w) (hn : isN e = true) :
    Calls Tryd.prog 20 #[.int .i64 e] w fun r w' => r = .returned (.agg #[.int .i64 e, .string (nmR e).1, .int .i64 (nmR e).2]) ∧ Below w.heap.size w w' := by
  have KF := (show Hid (∀ e W, Calls Tryd.prog 26 #[.int .i64 e] W fun r w' => r = .returned (fndV e) ∧ w' = W) from fun e W => find300 e W (by omega))
  obtain ⟨w1, hw1⟩ : ∃ w1, w1 = (w.alloc (.cells #[.int .i64 0, .string ⟨#[]⟩, .int .i64 0] 50)).alloc (.cells #[.int .i64 0, .string ⟨#[]⟩, .int .i64 0] 50) := ⟨_, rfl⟩
  have H1 : Hid (Two w w1) := by rw [hw1]; exact two_new w
  have H2 : Hid (Et w1) := hg.below H1.out.1
  clear hg
  go_enter Tryd.func20, Tryd.ntmps20
  go_wp2_with fail
  rw [← hw1]
  clear hw1
  refine (KF.out _ _).mono ?_
  rintro r w' ⟨rfl, rfl⟩
  have K2 := as_hitB e (nmR e).2 (nmR e).1 (w.heap.size + 1) _ _ _ w' H2.out H1.out.2.2.2
  rw [fnd_yes hn]
  generalize hq : nmR e = q at *
  go_wp2_with fail
  refine K2.mono ?_
  rintro r w2 ⟨rfl, ⟨c0, c1, c2⟩, hb2⟩
  have hR2 : w2.heap[w.heap.size]? = some (.cells #[.int .i64 0, .string ⟨#[]⟩, .int .i64 0] 50) := (hb2.block _ (by omega)).trans H1.out.2.2.1
  obtain ⟨⟨d0, d1, d2⟩, f0, f1, f2⟩ := box_there hR2
  have H9 : Hid (Below w.heap.size w w2 ∧ w2.heap[w.heap.size]? = some (.cells #[.int .i64 0, .string ⟨#[]⟩, .int .i64 0] 50)) := ⟨H1.out.1.trans (hb2.mono (by omega)), hR2⟩
  clear hR2
  go_wp2
  refine bodyPost_ret (results_cell_row rfl _ _ w.heap.size 50 #[.int .i64 e, .string q.1, .int .i64 q.2] (0, 0) _ rfl (heap_set3 H9.out.2) Tryd.underlying50 rfl size50) rfl ⟨by rw [hq], ?_⟩
  exact ((H9.out.1.setCell (Nat.le_refl _) _).setCell (Nat.le_refl _) _).setCell (Nat.le_refl _) _

set_option maxRecDepth 20000 in
set_option maxHeartbeats 1600000 in
theorem told_no (e : Int) (w : World) (hg : Et w) (hn : isN e = false) :
    Calls Tryd.prog 20 #[.int .i64 e] w fun r w' => r = .returned (.agg #[.int .i64 336, .string (nmR 336).1, .int .i64 (nmR 336).2]) ∧ Below w.heap.size w w' := by
  have KF := (show Hid (∀ e W, Calls Tryd.prog 26 #[.int .i64 e] W fun r w' => r = .returned (fndV e) ∧ w' = W) from fun e W => find300 e W (by omega))
  obtain ⟨w1, hw1⟩ : ∃ w1, w1 = (w.alloc (.cells #[.int .i64 0, .string ⟨#[]⟩, .int .i64 0] 50)).alloc (.cells #[.int .i64 0, .string ⟨#[]⟩, .int .i64 0] 50) := ⟨_, rfl⟩
  have H1 : Hid (Two w w1) := by rw [hw1]; exact two_new w
  have H2 : Hid (Et w1) := hg.below H1.out.1
  clear hg
  go_enter Tryd.func20, Tryd.ntmps20
  go_wp2_with fail
  rw [← hw1]
  clear hw1
  refine (KF.out _ _).mono ?_
  rintro r w' ⟨rfl, rfl⟩
  have K2 := as_miss e (w.heap.size + 1) w' H2.out
  rw [fnd_no hn]
  generalize hq : nmR 336 = q at *
  go_wp2_with fail
  refine K2.mono ?_
  rintro r w2 ⟨rfl, hb2⟩
  have H2' : Hid (Et w2) := H2.out.below hb2
  have hT2 : w2.heap[w.heap.size + 1]? = some (.cells #[.int .i64 0, .string ⟨#[]⟩, .int .i64 0] 50) := (hb2.block _ (by have := H1.out.2.1; omega)).trans H1.out.2.2.2
  go_wp2_with fail
  refine (KF.out _ _).mono ?_
  rintro r w3 ⟨rfl, rfl⟩
  have K3 := as_hitB 336 q.2 q.1 (w.heap.size + 1) _ _ _ w3 H2'.out hT2
  have hR2 : w3.heap[w.heap.size]? = some (.cells #[.int .i64 0, .string ⟨#[]⟩, .int .i64 0] 50) := (hb2.block _ (by have := H1.out.2.1; omega)).trans H1.out.2.2.1
  rw [fnd_yes (e := 336) rfl, hq]
  go_wp2_with fail
  refine K3.mono ?_
  rintro r w4 ⟨rfl, ⟨c0, c1, c2⟩, hb4⟩
  have hR4 : w4.heap[w.heap.size]? = some (.cells #[.int .i64 0, .string ⟨#[]⟩, .int .i64 0] 50) := (hb4.block _ (by omega)).trans hR2
  obtain ⟨⟨d0, d1, d2⟩, f0, f1, f2⟩ := box_there hR4
  have H9 : Hid (Below w.heap.size w w4 ∧ w4.heap[w.heap.size]? = some (.cells #[.int .i64 0, .string ⟨#[]⟩, .int .i64 0] 50)) := ⟨(H1.out.1.trans (hb2.mono (by have := H1.out.2.1; omega))).trans (hb4.mono (by omega)), hR4⟩
  clear hR4
  go_wp2
  refine bodyPost_ret (results_cell_row rfl _ _ w.heap.size 50 #[.int .i64 336, .string q.1, .int .i64 q.2] (0, 0) _ rfl (heap_set3 H9.out.2) Tryd.underlying50 rfl size50) rfl ⟨by rw [hq], ?_⟩
  exact ((H9.out.1.setCell (Nat.le_refl _) _).setCell (Nat.le_refl _) _).setCell (Nat.le_refl _) _

theorem told_any (e : Int) (w : World) (hg : Et w) :
    Calls Tryd.prog 20 #[.int .i64 e] w fun r w' => r = .returned (.agg #[.int .i64 (nmF e).1, .string (nmF e).2.1, .int .i64 (nmF e).2.2]) ∧ Below w.heap.size w w' := by
  cases hn : isN e with
  | true => rw [nmF_yes hn]; exact told_yes e w hg hn
  | false => rw [nmF_no hn]; exact told_no e w hg hn
end Go.Proofs.YtlaahendcdifgaaDoor

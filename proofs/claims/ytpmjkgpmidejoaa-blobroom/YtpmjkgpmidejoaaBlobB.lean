/-
  Package blob's Drop, Free and holds by their contracts; how a Blobs lies in memory.
-/
import Derived.Test.YtpmjkgpmidejoaaBlobA
namespace Go.Proofs.Ytpmjkgpmidejoaa
open Go.RowKit
open Al (Spc Kep turnB putB)

/-- A Blobs in memory: its device, its first sector, its space. -/
def Blb (w : World) (b d s fr : Nat) : Prop := w.heap[b]? = some (.cells #[.pointer (some ⟨d, 0, none⟩), .int .i64 (fr : Int), .pointer (some ⟨s, 0, none⟩)] 91 (0, 0))
theorem Blb.lt {w : World} {b d s fr : Nat} (h : Blb w b d s fr) : b < w.heap.size := (Array.getElem?_eq_some_iff.1 h).1
theorem Blb.c0 {w : World} {b d s fr : Nat} (h : Blb w b d s fr) : w.cell? ⟨b, 0, none⟩ = some (.pointer (some ⟨d, 0, none⟩)) := cell_blk h 0
theorem Blb.c1 {w : World} {b d s fr : Nat} (h : Blb w b d s fr) : w.cell? ⟨b, 1, none⟩ = some (.int .i64 (fr : Int)) := cell_blk h 1
theorem Blb.c2 {w : World} {b d s fr : Nat} (h : Blb w b d s fr) : w.cell? ⟨b, 2, none⟩ = some (.pointer (some ⟨s, 0, none⟩)) := cell_blk h 2
theorem Blb.kept {w w' : World} {b d s fr : Nat} (h : Blb w b d s fr) (hk : w'.heap[b]? = w.heap[b]?) : Blb w' b d s fr := hk.trans h
theorem Blb.below {w w' : World} {b d s fr : Nat} (h : Blb w b d s fr) (hk : Below w.heap.size w w') : Blb w' b d s fr := h.kept (hk.block _ h.lt)

set_option maxHeartbeats 2000000 in
set_option maxRecDepth 20000 in
theorem bfree_any (w : World) (b d s fr : Nat) (L : List Bool) (hb : Blb w b d s fr) (h : Spc w s L) :
    Calls Try.prog 25 #[.pointer (some ⟨b, 0, none⟩)] w fun e w' => e = .returned (.int .i64 ((L.count false : Nat) : Int)) ∧ Below w.heap.size w w' := by
  have hf := Al.free_any w s L h
  have c2 := hb.c2
  clear hb h
  go_enter Try.func25, Try.ntmps25
  go_wp2_with (go_at_call 58; refine Calls.mono hf ?_; rintro e w1 ⟨rfl, q1⟩)
  go_ret
  exact ⟨rfl, q1⟩

set_option maxHeartbeats 2000000 in
set_option maxRecDepth 20000 in
theorem drop_any (w : World) (b d s fr : Nat) (L : List Bool) (st sz : Int) (hb : Blb w b d s fr) (h : Spc w s L) (h1 : st ≤ 9223372036854775807) (h2 : sz ≤ 9223372036854775807) :
    Calls Try.prog 17 #[.pointer (some ⟨b, 0, none⟩), rv st sz] w fun e w' => e = .returned (.int .i64 (if giveR L st sz then 0 else 1)) ∧ Spc w' s (giveL L st sz) ∧ Kep (fun k => k ≠ s) w w' := by
  have hA : Below w.heap.size w (w.alloc (.cells #[.int .i64 st, .int .i64 sz] 40)) := (Below.refl _ w).alloc (Nat.le_refl _) _
  have c2 := (hb.below hA).c2
  have HG : Hid (Calls Try.prog 37 #[rv st sz, .func (.func 44) #[.pointer (some ⟨s, 0, none⟩)] #[]] (w.alloc (.cells #[.int .i64 st, .int .i64 sz] 40)).drew fun e w' => e = .returned (.int .i64 (if giveR L st sz then 0 else 1)) ∧ Spc w' s (giveL L st sz) ∧ Kep (fun k => k ≠ s) w w') := (turn_give (w.alloc (.cells #[.int .i64 st, .int .i64 sz] 40)).drew s L st sz ((h.below hA).kept rfl) h1 h2).mono fun e w' q => ⟨q.1, q.2.1, ((Kep.alloc _ _ _).trans (Kep.drew _ _)).trans q.2.2⟩
  obtain ⟨v, hv⟩ : ∃ v : Int, v = (if giveR L st sz then 0 else 1) := ⟨_, rfl⟩
  rw [← hv] at HG ⊢
  clear hv hb h hA
  go_enter Try.func17, Try.ntmps17
  go_wp2
  go_region_with (go_at_call 37; refine Calls.mono HG.out ?_; rintro e w1 ⟨rfl, q1⟩)
  all_goals
    (go_wp2
     go_ret
     exact ⟨rfl, q1⟩)

set_option maxHeartbeats 2000000 in
set_option maxRecDepth 20000 in
theorem holds_any (w : World) (b d s fr : Nat) (L : List Bool) (st sz : Int) (hb : Blb w b d s fr) (h : Spc w s L) (h1 : st ≤ 9223372036854775807) (h2 : sz ≤ 9223372036854775807) :
    Calls Try.prog 49 #[.pointer (some ⟨b, 0, none⟩), rv st sz] w fun e w' => e = .returned (.bool (giveR L st sz)) ∧ Below w.heap.size w w' := by
  have hA : Below w.heap.size w (w.alloc (.cells #[.int .i64 st, .int .i64 sz] 40)) := (Below.refl _ w).alloc (Nat.le_refl _) _
  have c2 := (hb.below hA).c2
  obtain ⟨B, hB⟩ : ∃ B, B = w.heap.size + 1 := ⟨_, rfl⟩
  have hsz : (w.alloc (.cells #[.int .i64 st, .int .i64 sz] 40)).drew.heap.size = B := by rw [hB]; simp
  have hBW : Below w.heap.size w (w.alloc (.cells #[.int .i64 st, .int .i64 sz] 40)).drew := hA.drew
  have c3 : (w.alloc (.cells #[.int .i64 st, .int .i64 sz] 40)).cell? ⟨w.heap.size, 0, none⟩ = some (.int .i64 st) := cell_blk (heap_alloc_new w _) 0
  have c4 : (w.alloc (.cells #[.int .i64 st, .int .i64 sz] 40)).cell? ⟨w.heap.size, 1, none⟩ = some (.int .i64 sz) := cell_blk (heap_alloc_new w _) 1
  have HC : Hid (Calls Try.prog 75 #[.pointer (some ⟨s, 0, none⟩)] (w.alloc (.cells #[.int .i64 st, .int .i64 sz] 40)).drew fun e w' => e = .returned (.pointer (some ⟨B, 0, none⟩)) ∧ Spc w' B L ∧ Below B (w.alloc (.cells #[.int .i64 st, .int .i64 sz] 40)).drew w') := by
    have := Al.copy_any (w.alloc (.cells #[.int .i64 st, .int .i64 sz] 40)).drew s L ((h.below hA).kept rfl)
    rw [hsz] at this
    exact this
  have HG : Hid (∀ w2, Spc w2 B L → Below B (w.alloc (.cells #[.int .i64 st, .int .i64 sz] 40)).drew w2 → Calls Try.prog 37 #[rv st sz, .func (.func 44) #[.pointer (some ⟨B, 0, none⟩)] #[]] w2 fun e w' => e = .returned (.int .i64 (if giveR L st sz then 0 else 1)) ∧ Below w.heap.size w w') := fun w2 q1 q2 => (turn_give w2 _ L st sz q1 h1 h2).mono fun e w' q => ⟨q.1, (hBW.trans (q2.mono (by omega))).trans ((q.2.2.mono (K' := fun k => k < w.heap.size) (fun k _ hk => by omega)).below (by have := q2.size; omega))⟩
  have HX : Hid (∀ w2, Below B (w.alloc (.cells #[.int .i64 st, .int .i64 sz] 40)).drew w2 → w2.cell? ⟨w.heap.size, 0, none⟩ = some (.int .i64 st) ∧ w2.cell? ⟨w.heap.size, 1, none⟩ = some (.int .i64 sz)) := fun w2 q => ⟨(q.cell (p := ⟨w.heap.size, 0, none⟩) (by show w.heap.size < B; omega)).trans c3, (q.cell (p := ⟨w.heap.size, 1, none⟩) (by show w.heap.size < B; omega)).trans c4⟩
  have HR : Hid (∀ v : Int, v = (if giveR L st sz then 0 else 1) → (v == 0) = giveR L st sz) := fun v hv => by rw [hv]; cases giveR L st sz <;> rfl
  obtain ⟨g, hg⟩ : ∃ g, g = giveR L st sz := ⟨_, rfl⟩
  obtain ⟨v, hv⟩ : ∃ v : Int, v = (if giveR L st sz then 0 else 1) := ⟨_, rfl⟩
  have hvg := HR.out v hv
  rw [← hv] at HG
  rw [← hg] at hvg ⊢
  have HBB : Hid (B = w.heap.size + 1) := hB
  clear hg hb h hA hBW HR hv hsz c3 c4 hB
  go_enter Try.func49, Try.ntmps49
  go_wp2
  go_region_with (first
    | (go_at_call 75; refine Calls.mono HC.out ?_; rintro e w2 ⟨rfl, q1, q2⟩; obtain ⟨d1, d2⟩ := HX.out w2 q2)
    | (go_at_call 37; refine Calls.mono (HG.out w2 q1 q2) ?_; rintro e w3 ⟨rfl, q3⟩))
  all_goals
    (go_wp2
     go_ret
     exact ⟨rfl, q3⟩)
end Go.Proofs.Ytpmjkgpmidejoaa

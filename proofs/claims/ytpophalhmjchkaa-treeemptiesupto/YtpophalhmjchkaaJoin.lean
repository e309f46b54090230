/-
  Two nodes side by side made one, by its contract.
-/
import Derived.Test.YtpophalhmjchkaaWith
namespace Go.Proofs.Ytpophalhmjchkaa
open Go.RowKit

theorem ta_l1 (v : Value) (w : World) : (Instr.typeAssert (.iface 56 v) 61 56 false).run Try.prog w = .ok v w := by
  simp [Instr.typeAssert, run_underlying Try.underlying56]

set_option maxHeartbeats 2000000 in
set_option maxRecDepth 20000 in
theorem join_leaf {AV : Avd} (b1 b2 : Nat) (p q : List KV) (k : ByteArray) (w : World) (h1 : Lf w b1 p) (h2 : Lf w b2 q) (hn : p.length + q.length ≤ 100) :
    Calls Try.prog 52 #[.iface 56 (.pointer (some ⟨b1, 0, none⟩)), .string k, .iface 56 (.pointer (some ⟨b2, 0, none⟩))] w fun e w' => ∃ b', e = .returned (.iface 56 (.pointer (some ⟨b', 0, none⟩))) ∧ Lf w' b' (p ++ q) ∧ Below w.heap.size w w' := by
  obtain ⟨a1, c1, q1, s1⟩ := h1
  obtain ⟨a2, c2, q2, s2⟩ := h2
  have k1 : w.cell? ⟨b1, 0, none⟩ = some (.slice a1 p.length c1) := cell_blk q1 0
  have k2 : w.cell? ⟨b2, 0, none⟩ = some (.slice a2 q.length c2) := cell_blk q2 0
  have g1 : w.drew.cell? ⟨b1, 0, none⟩ = some (.slice a1 p.length c1) := k1
  have g2 : w.drew.cell? ⟨b2, 0, none⟩ = some (.slice a2 q.length c2) := k2
  have l1 : b1 < w.heap.size := (Array.getElem?_eq_some_iff.1 q1).1
  have l2 : b2 < w.heap.size := (Array.getElem?_eq_some_iff.1 q2).1
  have ht := ta_ll (.pointer (some ⟨b1, 0, none⟩)) w
  have ht2 := ta_l1 (.pointer (some ⟨b2, 0, none⟩))
  have HK : Hid (∀ w5, Below w.heap.size w w5 → w5.cell? ⟨b1, 0, none⟩ = some (.slice a1 p.length c1) ∧ w5.cell? ⟨b2, 0, none⟩ = some (.slice a2 q.length c2)) := fun w5 hb => ⟨(hb.cell (p := ⟨b1, 0, none⟩) l1).trans k1, (hb.cell (p := ⟨b2, 0, none⟩) l2).trans k2⟩
  have hcat := leaf_cat (w := w) (xs := [⟨a1, p.length, pcs p, c1⟩, ⟨a2, q.length, pcs q, c2⟩]) (ps := p ++ q) (by
    intro s hs
    simp only [List.mem_cons, List.not_mem_nil, or_false] at hs
    rcases hs with rfl | rfl
    · exact s1
    · exact s2) (by simp) (by rw [pcs_app]; simp [catX]) (by simp [totN]) (by rw [List.length_append]; omega)
  have HC : Hid (Calls Try.prog 40 #[.slice (some ⟨w.heap.size, 0, none⟩) 2 2] (w.alloc (.cells #[.slice a1 p.length c1, .slice a2 q.length c2] 57)).drew fun e w' => ∃ x y, e = .returned (.slice x (p ++ q).length y) ∧ Lf (w'.alloc (.cells #[.slice x (p ++ q).length y] 59)) w'.heap.size (p ++ q) ∧ Below w.heap.size w (w'.alloc (.cells #[.slice x (p ++ q).length y] 59)) ∧ Below w.heap.size w w') := (by
    have hcat2 := leaf_cat (w := w.drew) (xs := [⟨a1, p.length, pcs p, c1⟩, ⟨a2, q.length, pcs q, c2⟩]) (ps := p ++ q) (by
      intro s hs
      simp only [List.mem_cons, List.not_mem_nil, or_false] at hs
      have hbd : Below w.heap.size w w.drew := (Below.refl _ _).drew
      rcases hs with rfl | rfl
      · exact s1.below hbd
      · exact s2.below hbd) (by simp) (by rw [pcs_app]; simp [catX]) (by simp [totN]) (by rw [List.length_append]; omega)
    refine Calls.mono hcat2 ?_
    rintro e w' ⟨x, y, rfl, hl, hb2, hb3⟩
    exact ⟨x, y, rfl, hl, (Below.refl _ w).drew.trans hb2, (Below.refl _ w).drew.trans hb3⟩)
  obtain ⟨N, hN⟩ : ∃ N, N = (p ++ q).length := ⟨_, rfl⟩
  rw [← hN] at HC
  have hc := HC.out
  clear q1 q2 s1 s2 hcat l1 l2 hN
  go_enter Try.func52, Try.ntmps52
  go_wp2
  go_region_held3 (fun w' => w'.cell? ⟨b1, 0, none⟩ = some (.slice a1 p.length c1) ∧ w'.cell? ⟨b2, 0, none⟩ = some (.slice a2 q.length c2)) (go_keep)
    (first
      | (go_at_call 40; refine Calls.mono hc ?_; rintro e w2 ⟨x, y, rfl, hlf, hb2, hb3⟩; have u0 := (HK.out w2 hb3).1; have u1 := (HK.out w2 hb3).2))
  all_goals
    (go_wp2
     go_ret
     exact ⟨_, rfl, hlf, hb2⟩)

/-- Three rows are laid, two calls made: in each order that may be drawn. -/
theorem three_allocs {AV : Avd} {w : World} {K B : Obj} {A : Nat → Obj} {n1 n2 z1 : Nat} {L : List Value} {C2 : Option Addr → Nat → Ending → World → Prop}
    (G1 : ∀ q s t, w.heap.size ≤ t → Below w.heap.size w q → q.heap[t]? = some K → q.heap[s]? = some (A t) → Calls Try.prog 50 #[.slice (some ⟨s, 0, none⟩) n1 n1] q fun e w1 => ∃ x1 y1, e = .returned (.slice x1 z1 y1) ∧ Sl w1 1 x1 z1 y1 L ∧ Below q.heap.size q w1)
    (G2 : ∀ q s x1 y1, Below w.heap.size w q → q.heap[s]? = some B → Sl q 1 x1 z1 y1 L → Calls Try.prog 51 #[.slice (some ⟨s, 0, none⟩) n2 n2] q (C2 x1 y1)) :
    (Calls Try.prog 50 #[.slice (some ⟨w.heap.size + 1, 0, none⟩) n1 n1] ((w.alloc K).alloc (A w.heap.size)).drew fun e w1 => ∃ x1 y1, e = .returned (.slice x1 z1 y1) ∧ Below w.heap.size w w1 ∧ Calls Try.prog 51 #[.slice (some ⟨w1.heap.size, 0, none⟩) n2 n2] (w1.alloc B) (C2 x1 y1)) ∧
    (Calls Try.prog 50 #[.slice (some ⟨w.heap.size + 1, 0, none⟩) n1 n1] (((w.alloc K).alloc (A w.heap.size)).alloc B).drew fun e w1 => ∃ x1 y1, e = .returned (.slice x1 z1 y1) ∧ Below w.heap.size w w1 ∧ Calls Try.prog 51 #[.slice (some ⟨w.heap.size + 1 + 1, 0, none⟩) n2 n2] w1 (C2 x1 y1)) ∧
    (Calls Try.prog 50 #[.slice (some ⟨w.heap.size + 1 + 1, 0, none⟩) n1 n1] (((w.alloc K).alloc B).alloc (A w.heap.size)).drew fun e w1 => ∃ x1 y1, e = .returned (.slice x1 z1 y1) ∧ Below w.heap.size w w1 ∧ Calls Try.prog 51 #[.slice (some ⟨w.heap.size + 1, 0, none⟩) n2 n2] w1 (C2 x1 y1)) ∧
    (Calls Try.prog 50 #[.slice (some ⟨w.heap.size + 1 + 1, 0, none⟩) n1 n1] (((w.alloc B).alloc K).alloc (A (w.heap.size + 1))).drew fun e w1 => ∃ x1 y1, e = .returned (.slice x1 z1 y1) ∧ Below w.heap.size w w1 ∧ Calls Try.prog 51 #[.slice (some ⟨w.heap.size, 0, none⟩) n2 n2] w1 (C2 x1 y1)) := by
  have ba : ∀ o, Below w.heap.size w (w.alloc o) := fun o => (Below.refl _ _).alloc (Nat.le_refl _) _
  have bb : ∀ o o', Below w.heap.size w ((w.alloc o).alloc o') := fun o o' => (ba o).alloc (ba o).size _
  have bc : ∀ o o' o'', Below w.heap.size w (((w.alloc o).alloc o').alloc o'') := fun o o' o'' => (bb o o').alloc (bb o o').size _
  have s1 : ∀ o, (w.alloc o).heap.size = w.heap.size + 1 := fun o => by simp
  have s2 : ∀ o o', ((w.alloc o).alloc o').heap.size = w.heap.size + 1 + 1 := fun o o' => by simp
  have s3 : ∀ o o' o'', (((w.alloc o).alloc o').alloc o'').heap.size = w.heap.size + 1 + 1 + 1 := fun o o' o'' => by simp
  have x0 : ∀ o, (w.alloc o).heap[w.heap.size]? = some o := fun o => heap_alloc_new w o
  have y1 : ∀ o o', ((w.alloc o).alloc o').heap[w.heap.size + 1]? = some o' := fun o o' => by
    have := heap_alloc_new (w.alloc o) o'
    rwa [s1] at this
  have y0 : ∀ o o', ((w.alloc o).alloc o').heap[w.heap.size]? = some o := fun o o' => by
    have hb : Below (w.alloc o).heap.size (w.alloc o) ((w.alloc o).alloc o') := (Below.refl _ _).alloc (Nat.le_refl _) _
    rw [hb.block w.heap.size (by rw [s1]; omega)]
    exact x0 o
  have z2' : ∀ o o' o'', (((w.alloc o).alloc o').alloc o'').heap[w.heap.size + 1 + 1]? = some o'' := fun o o' o'' => by
    have := heap_alloc_new ((w.alloc o).alloc o') o''
    rwa [s2] at this
  have zb : ∀ o o' o'', Below ((w.alloc o).alloc o').heap.size ((w.alloc o).alloc o') (((w.alloc o).alloc o').alloc o'') := fun o o' o'' => (Below.refl _ _).alloc (Nat.le_refl _) _
  have z1' : ∀ o o' o'', (((w.alloc o).alloc o').alloc o'').heap[w.heap.size + 1]? = some o' := fun o o' o'' => by
    rw [(zb o o' o'').block (w.heap.size + 1) (by rw [s2]; omega)]
    exact y1 o o'
  have z0' : ∀ o o' o'', (((w.alloc o).alloc o').alloc o'').heap[w.heap.size]? = some o := fun o o' o'' => by
    rw [(zb o o' o'').block w.heap.size (by rw [s2]; omega)]
    exact y0 o o'
  refine ⟨?_, ?_, ?_, ?_⟩
  · refine Calls.mono (G1 _ _ w.heap.size (Nat.le_refl _) (bb K (A w.heap.size)).drew (y0 _ _) (y1 _ _)) ?_
    rintro e w1 ⟨x1, y1, rfl, l1, b1⟩
    have b01 := (bb K (A w.heap.size)).drew.trans (b1.mono (bb K (A w.heap.size)).drew.size)
    have bB : Below w1.heap.size w1 (w1.alloc B) := (Below.refl _ _).alloc (Nat.le_refl _) _
    exact ⟨x1, y1, rfl, b01, G2 _ _ x1 y1 (b01.alloc b01.size _) (heap_alloc_new w1 B) (l1.below bB)⟩
  · refine Calls.mono (G1 _ _ w.heap.size (Nat.le_refl _) (bc K (A w.heap.size) B).drew (z0' _ _ _) (z1' _ _ _)) ?_
    rintro e w1 ⟨x1, y1, rfl, l1, b1⟩
    have b01 := (bc K (A w.heap.size) B).drew.trans (b1.mono (bc K (A w.heap.size) B).drew.size)
    exact ⟨x1, y1, rfl, b01, G2 _ _ x1 y1 b01 ((b1.block (w.heap.size + 1 + 1) (by show w.heap.size + 1 + 1 < (((w.alloc K).alloc (A w.heap.size)).alloc B).heap.size; rw [s3]; omega)).trans (z2' _ _ _)) l1⟩
  · refine Calls.mono (G1 _ _ w.heap.size (Nat.le_refl _) (bc K B (A w.heap.size)).drew (z0' _ _ _) (z2' _ _ _)) ?_
    rintro e w1 ⟨x1, y1, rfl, l1, b1⟩
    have b01 := (bc K B (A w.heap.size)).drew.trans (b1.mono (bc K B (A w.heap.size)).drew.size)
    exact ⟨x1, y1, rfl, b01, G2 _ _ x1 y1 b01 ((b1.block (w.heap.size + 1) (by show w.heap.size + 1 < (((w.alloc K).alloc B).alloc (A w.heap.size)).heap.size; rw [s3]; omega)).trans (z1' _ _ _)) l1⟩
  · refine Calls.mono (G1 _ _ (w.heap.size + 1) (by omega) (bc B K (A (w.heap.size + 1))).drew (z1' _ _ _) (z2' _ _ _)) ?_
    rintro e w1 ⟨x1, y1, rfl, l1, b1⟩
    have b01 := (bc B K (A (w.heap.size + 1))).drew.trans (b1.mono (bc B K (A (w.heap.size + 1))).drew.size)
    exact ⟨x1, y1, rfl, b01, G2 _ _ x1 y1 b01 ((b1.block w.heap.size (by show w.heap.size < (((w.alloc B).alloc K).alloc (A (w.heap.size + 1))).heap.size; rw [s3]; omega)).trans (z0' _ _ _)) l1⟩
end Go.Proofs.Ytpophalhmjchkaa

/-
  put and del of a leaf by their contracts, and the closures that hand them on.
-/
import Derived.Test.YtpophalhmjchkaaCut
namespace Go.Proofs.Ytpophalhmjchkaa
open Go.RowKit

theorem Rxs.make {AV : Avd} {w : World} {size : Nat} {xs : List Sx} {t : TypeId} (h : ∀ s ∈ xs, Sl w size s.a s.n s.c s.l) : Rxs (w.alloc (.cells (xs.map Sx.v).toArray t)) size w.heap.size xs := by
  have hb : Below w.heap.size w (w.alloc (.cells (xs.map Sx.v).toArray t)) := (Below.refl _ _).alloc (Nat.le_refl _) _
  have hblk := heap_alloc_new w (.cells (xs.map Sx.v).toArray t)
  refine ⟨(Array.getElem?_eq_some_iff.1 hblk).1, fun j hj => ⟨?_, (h _ (List.getElem_mem hj)).below hb⟩⟩
  rw [cell_blk hblk j, List.getElem?_toArray, List.getElem?_map, List.getElem?_eq_getElem hj]
  rfl
/-- Concat, then a leaf of its own. -/
theorem leaf_cat {AV : Avd} {w : World} {xs : List Sx} {ps : List KV} (h : ∀ s ∈ xs, Sl w 2 s.a s.n s.c s.l) (hx : xs.length ≤ 3) (hc : catX xs = pcs ps) (hn : totN xs = ps.length) (hl : ps.length ≤ 1000) (hne : 0 < xs.length := by simp) :
    Calls Try.prog 40 #[.slice (some ⟨w.heap.size, 0, none⟩) xs.length xs.length] (w.alloc (.cells (xs.map Sx.v).toArray 57)) fun e w' => ∃ x y, e = .returned (.slice x ps.length y) ∧ Lf (w'.alloc (.cells #[.slice x ps.length y] 59)) w'.heap.size ps ∧ Below w.heap.size w (w'.alloc (.cells #[.slice x ps.length y] 59)) ∧ Below w.heap.size w w' := by
  have hb : Below w.heap.size w (w.alloc (.cells (xs.map Sx.v).toArray 57)) := (Below.refl _ _).alloc (Nat.le_refl _) _
  refine Calls.mono (concatP w.heap.size xs xs.length _ (Rxs.make h) (by omega) (by omega)) ?_
  rintro e w' ⟨v', rfl, ho, hb2⟩
  rw [hc, hn] at ho
  obtain ⟨x, y, rfl, hs'⟩ := Sl.ownA ho (pcs_one _) ((h _ (List.getElem_mem hne)).av) (by simp) (Nat.le_trans hb.size hb2.size)
  have hb3 := hb.trans (hb2.mono hb.size)
  exact ⟨x, y, rfl, Lf.make hs', hb3.alloc hb3.size _, hb3⟩
theorem pair_sl {AV : Avd} {w : World} (hav : Av w) (k v : ByteArray) : Sl (w.alloc (.cells #[.string k, .string v] 79)) 2 (some ⟨w.heap.size, 0, none⟩) 1 1 (pcs [(k, v)]) := by
  have hblk := heap_alloc_new w (.cells #[.string k, .string v] 79)
  refine ⟨.inr ⟨_, 0, rfl, (Array.getElem?_eq_some_iff.1 hblk).1, fun j hj => ?_⟩, rfl, Nat.le_refl _, (by intro e; cases e), (by intro x e; cases e; rfl), pcs_one _, (by intro _ x e; cases e; exact hav.ne (Nat.le_refl _)), hav.below ((Below.refl _ w).alloc (Nat.le_refl _) _)⟩
  have hj2 : j < 2 := hj
  rw [Nat.zero_add, cell_blk hblk j]
  match j, hj2 with
  | 0, _ => rfl
  | 1, _ => rfl

set_option maxHeartbeats 2000000 in
set_option maxRecDepth 20000 in
theorem lput_any {AV : Avd} (b : Nat) (ps : List KV) (k v : ByteArray) (w : World) (h : Lf w b ps) (hs : Srt ps) (hn : ps.length ≤ 100) :
    Calls Try.prog 28 #[.pointer (some ⟨b, 0, none⟩), .string k, .string v] w fun e w' => ∃ b', e = .returned (.pointer (some ⟨b', 0, none⟩)) ∧ Lf w' b' (putL k v ps) ∧ Below w.heap.size w w' := by
  obtain ⟨i0, hi, hz0, hz1, hz2⟩ := info_parts info79
  have hp := lplace_any b ps k w h hs (by omega)
  have hpc := put_code (k := k) v ps
  have hkl : (keysP ps).length = ps.length := by simp [keysP]
  have hLl := lbS_le (keysP ps) k
  rw [hkl] at hLl
  have hFL : fdS (keysP ps) k = true → lbS (keysP ps) k < ps.length := fun hF => by
    rcases Nat.lt_or_ge (lbS (keysP ps) k) (keysP ps).length with h | h
    · omega
    · rw [fdS_no (by omega)] at hF; simp at hF
  have hlen := putL_len k v ps
  obtain ⟨L, hL⟩ : ∃ L, L = lbS (keysP ps) k := ⟨_, rfl⟩
  obtain ⟨F, hF⟩ : ∃ F, F = fdS (keysP ps) k := ⟨_, rfl⟩
  rw [← hL, ← hF] at hp hpc hFL
  rw [← hL] at hLl
  obtain ⟨Q, hQ⟩ : ∃ Q, Q = putL k v ps := ⟨_, rfl⟩
  rw [← hQ] at hpc hlen ⊢
  have hQ8 : Q.length ≤ 1000 := by rw [hlen]; split <;> omega
  -- what lies behind
  have HW : Hid (∀ w1, Below w.heap.size w w1 → ∃ a c a2, w1.cell? ⟨b, 0, none⟩ = some (.slice a ps.length c) ∧ (∀ wx, (Instr.slice 57 (.slice a ps.length c) (some (.int .i64 (L : Int))) none none).run Try.prog wx = .ok (.slice a2 (ps.length - L) (c - L)) wx) ∧ (∀ wx, (Instr.slice 57 (.slice a ps.length c) none (some (.int .i64 (L : Int))) none).run Try.prog wx = .ok (.slice a L c) wx) ∧ Sl w1 2 a L c (pcs (ps.take L)) ∧ Sl w1 2 a2 (ps.length - L) (c - L) (pcs (ps.drop L)) ∧
      (L < ps.length → ∃ a3, (∀ wx, (Instr.slice 57 (.slice a2 (ps.length - L) (c - L)) (some (.int .i64 1)) none none).run Try.prog wx = .ok (.slice a3 (ps.length - L - 1) (c - L - 1)) wx) ∧ Sl w1 2 a3 (ps.length - L - 1) (c - L - 1) (pcs (ps.drop (L + 1))))) := (by
    intro w1 hb
    obtain ⟨a, c, q1, q2⟩ := h.below hb
    obtain ⟨a2, r1, r2⟩ := slice_lo Try.underlying57 hi hz1 q2 hLl
    obtain ⟨r3, r4⟩ := slice_hi Try.underlying57 hi q2 hLl
    rw [← pcs_drop] at r2
    rw [← pcs_take] at r4
    refine ⟨a, c, a2, cell_blk q1 0, r1, r3, r4, r2, fun hlt => ?_⟩
    obtain ⟨a3, r5, r6⟩ := slice_lo Try.underlying57 hi hz1 r2 (k := 1) (by omega)
    rw [← pcs_drop, List.drop_drop] at r6
    exact ⟨a3, r5, r6⟩)
  clear h hs hkl hL hF hlen hQ
  cases F with
  | true =>
    have hlt := hFL rfl
    rw [if_pos rfl] at hpc
    have HCAT : Hid (∀ w1 a c a3 (n3 c3 : Nat), n3 = ps.length - L - 1 → Sl w1 2 a L c (pcs (ps.take L)) → Sl w1 2 a3 n3 c3 (pcs (ps.drop (L + 1))) → Below w.heap.size w w1 → Calls Try.prog 40 #[.slice (some ⟨w1.heap.size + 1, 0, none⟩) 3 3] ((w1.alloc (.cells #[.string k, .string v] 79)).alloc (.cells #[.slice a L c, .slice (some ⟨w1.heap.size, 0, none⟩) 1 1, .slice a3 n3 c3] 57)) fun e w' => ∃ x y, e = .returned (.slice x Q.length y) ∧ Lf (w'.alloc (.cells #[.slice x Q.length y] 59)) w'.heap.size Q ∧ Below w.heap.size w (w'.alloc (.cells #[.slice x Q.length y] 59))) := (by
      intro w1 a c a3 n3 c3 hn3 s1 s3 hb
      have hb1 : Below w1.heap.size w1 (w1.alloc (.cells #[.string k, .string v] 79)) := (Below.refl _ _).alloc (Nat.le_refl _) _
      have hA := leaf_cat (w := w1.alloc (.cells #[.string k, .string v] 79)) (xs := [⟨a, L, pcs (ps.take L), c⟩, ⟨some ⟨w1.heap.size, 0, none⟩, 1, pcs [(k, v)], 1⟩, ⟨a3, n3, pcs (ps.drop (L + 1)), c3⟩]) (ps := Q) (by
        intro s hs
        simp only [List.mem_cons, List.not_mem_nil, or_false] at hs
        rcases hs with rfl | rfl | rfl
        · exact s1.below hb1
        · exact pair_sl s1.av k v
        · exact s3.below hb1) (by simp) (by rw [hpc, pcs_app, pcs_app]; simp [catX]) (by rw [hpc]; simp [totN]; omega) hQ8
      have e : (w1.alloc (.cells #[.string k, .string v] 79)).heap.size = w1.heap.size + 1 := by simp
      rw [e] at hA
      refine Calls.mono hA ?_
      rintro e w' ⟨x, y, rfl, hl, hb2, _⟩
      exact ⟨x, y, rfl, hl, hb.trans ((hb1.trans (hb2.mono (by rw [← e]; exact hb1.size))).mono hb.size)⟩)
    obtain ⟨N, hN⟩ : ∃ N, N = Q.length := ⟨_, rfl⟩
    rw [← hN] at HCAT
    have HLT : Hid (L < ps.length) := hlt
    clear hFL hpc hlt hQ8 hN
    go_enter Try.func28, Try.ntmps28
    go_wp2_with fail
    refine Calls.mono hp ?_
    rintro e w1 ⟨rfl, hb1⟩
    obtain ⟨a, c, a2, c0, r1, r3, s1, s2, hmore⟩ := HW.out w1 hb1
    obtain ⟨a3, r5, s3⟩ := hmore HLT.out
    obtain ⟨n2, hn2⟩ : ∃ n2, n2 = ps.length - L := ⟨_, rfl⟩
    obtain ⟨n3, hn3⟩ : ∃ n3, n3 = ps.length - L - 1 := ⟨_, rfl⟩
    obtain ⟨c2, hc2⟩ : ∃ c2, c2 = c - L := ⟨_, rfl⟩
    obtain ⟨c3, hc3⟩ : ∃ c3, c3 = c - L - 1 := ⟨_, rfl⟩
    rw [← hn2, ← hc2] at r1
    rw [← hn3, ← hc3, ← hn2, ← hc2] at r5
    rw [← hn3, ← hc3] at s3
    have hcat := HCAT.out w1 a c a3 n3 c3 hn3 s1 s3 hb1
    clear HW HCAT hp s1 s2 s3 hn2 hn3 hc2 hc3 hmore
    go_wp2_with fail
    refine Calls.mono hcat ?_
    rintro e w2 ⟨x, y, rfl, hlf, hb2⟩
    go_wp2
    go_ret
    exact ⟨_, rfl, hlf, hb2⟩
  | false =>
    rw [if_neg (by simp)] at hpc
    have HCAT : Hid (∀ w1 a c a3 (n3 c3 : Nat), n3 = ps.length - L → Sl w1 2 a L c (pcs (ps.take L)) → Sl w1 2 a3 n3 c3 (pcs (ps.drop L)) → Below w.heap.size w w1 → Calls Try.prog 40 #[.slice (some ⟨w1.heap.size + 1, 0, none⟩) 3 3] ((w1.alloc (.cells #[.string k, .string v] 79)).alloc (.cells #[.slice a L c, .slice (some ⟨w1.heap.size, 0, none⟩) 1 1, .slice a3 n3 c3] 57)) fun e w' => ∃ x y, e = .returned (.slice x Q.length y) ∧ Lf (w'.alloc (.cells #[.slice x Q.length y] 59)) w'.heap.size Q ∧ Below w.heap.size w (w'.alloc (.cells #[.slice x Q.length y] 59))) := (by
      intro w1 a c a3 n3 c3 hn3 s1 s3 hb
      have hb1 : Below w1.heap.size w1 (w1.alloc (.cells #[.string k, .string v] 79)) := (Below.refl _ _).alloc (Nat.le_refl _) _
      have hA := leaf_cat (w := w1.alloc (.cells #[.string k, .string v] 79)) (xs := [⟨a, L, pcs (ps.take L), c⟩, ⟨some ⟨w1.heap.size, 0, none⟩, 1, pcs [(k, v)], 1⟩, ⟨a3, n3, pcs (ps.drop L), c3⟩]) (ps := Q) (by
        intro s hs
        simp only [List.mem_cons, List.not_mem_nil, or_false] at hs
        rcases hs with rfl | rfl | rfl
        · exact s1.below hb1
        · exact pair_sl s1.av k v
        · exact s3.below hb1) (by simp) (by rw [hpc, pcs_app, pcs_app]; simp [catX]) (by rw [hpc]; simp [totN]; omega) hQ8
      have e : (w1.alloc (.cells #[.string k, .string v] 79)).heap.size = w1.heap.size + 1 := by simp
      rw [e] at hA
      refine Calls.mono hA ?_
      rintro e w' ⟨x, y, rfl, hl, hb2, _⟩
      exact ⟨x, y, rfl, hl, hb.trans ((hb1.trans (hb2.mono (by rw [← e]; exact hb1.size))).mono hb.size)⟩)
    obtain ⟨N, hN⟩ : ∃ N, N = Q.length := ⟨_, rfl⟩
    rw [← hN] at HCAT
    clear hFL hpc hQ8 hN
    go_enter Try.func28, Try.ntmps28
    go_wp2_with fail
    refine Calls.mono hp ?_
    rintro e w1 ⟨rfl, hb1⟩
    obtain ⟨a, c, a2, c0, r1, r3, s1, s2, hmore⟩ := HW.out w1 hb1
    obtain ⟨n2, hn2⟩ : ∃ n2, n2 = ps.length - L := ⟨_, rfl⟩
    obtain ⟨c2, hc2⟩ : ∃ c2, c2 = c - L := ⟨_, rfl⟩
    rw [← hn2, ← hc2] at r1
    rw [← hn2, ← hc2] at s2
    have hcat := HCAT.out w1 a c a2 n2 c2 hn2 s1 s2 hb1
    clear HW HCAT hp s1 s2 hn2 hc2 hmore
    go_wp2_with fail
    refine Calls.mono hcat ?_
    rintro e w2 ⟨x, y, rfl, hlf, hb2⟩
    go_wp2
    go_ret
    exact ⟨_, rfl, hlf, hb2⟩

set_option maxHeartbeats 2000000 in
set_option maxRecDepth 20000 in
theorem ldel_any {AV : Avd} (b : Nat) (ps : List KV) (k : ByteArray) (w : World) (h : Lf w b ps) (hs : Srt ps) (hf : (getL k ps).isSome = true) (hn : ps.length ≤ 100) :
    Calls Try.prog 25 #[.pointer (some ⟨b, 0, none⟩), .string k] w fun e w' => ∃ b', e = .returned (.pointer (some ⟨b', 0, none⟩)) ∧ Lf w' b' (delL k ps) ∧ Below w.heap.size w w' := by
  obtain ⟨i0, hi, hz0, hz1, hz2⟩ := info_parts info79
  have hp := lplace_any b ps k w h hs (by omega)
  have hF : fdS (keysP ps) k = true := by
    rw [get_code] at hf
    cases hq : fdS (keysP ps) k with
    | true => rfl
    | false => rw [hq] at hf; simp at hf
  have hpc := del_code ps hF
  have hlen := delL_len k ps
  rw [if_pos hf] at hlen
  have hkl : (keysP ps).length = ps.length := by simp [keysP]
  have hlt : lbS (keysP ps) k < ps.length := by
    rcases Nat.lt_or_ge (lbS (keysP ps) k) (keysP ps).length with h | h
    · omega
    · rw [fdS_no (by omega)] at hF; simp at hF
  obtain ⟨L, hL⟩ : ∃ L, L = lbS (keysP ps) k := ⟨_, rfl⟩
  rw [← hL, hF] at hp
  rw [← hL] at hpc hlt
  obtain ⟨Q, hQ⟩ : ∃ Q, Q = delL k ps := ⟨_, rfl⟩
  rw [← hQ] at hpc hlen ⊢
  have HW : Hid (∀ w1, Below w.heap.size w w1 → ∃ a c a2, w1.cell? ⟨b, 0, none⟩ = some (.slice a ps.length c) ∧ w1.drew.cell? ⟨b, 0, none⟩ = some (.slice a ps.length c) ∧ (∀ wx, (Instr.slice 57 (.slice a ps.length c) (some (.int .i64 ((L : Int) + 1))) none none).run Try.prog wx = .ok (.slice a2 (ps.length - (L + 1)) (c - (L + 1))) wx) ∧ (∀ wx, (Instr.slice 57 (.slice a ps.length c) none (some (.int .i64 (L : Int))) none).run Try.prog wx = .ok (.slice a L c) wx) ∧
      Calls Try.prog 40 #[.slice (some ⟨w1.heap.size, 0, none⟩) 2 2] (w1.drew.alloc (.cells #[.slice a L c, .slice a2 (ps.length - (L + 1)) (c - (L + 1))] 57)) fun e w' => ∃ x y, e = .returned (.slice x Q.length y) ∧ Lf (w'.alloc (.cells #[.slice x Q.length y] 59)) w'.heap.size Q ∧ Below w.heap.size w (w'.alloc (.cells #[.slice x Q.length y] 59)) ∧ w'.cell? ⟨b, 0, none⟩ = some (.slice a ps.length c)) := (by
    intro w1 hb
    obtain ⟨a, c, q1, q2⟩ := h.below hb
    obtain ⟨a2, r1, r2⟩ := slice_lo Try.underlying57 hi hz1 q2 (k := L + 1) (by omega)
    obtain ⟨r3, r4⟩ := slice_hi Try.underlying57 hi q2 (k := L) (by omega)
    rw [← pcs_drop] at r2
    rw [← pcs_take] at r4
    refine ⟨a, c, a2, cell_blk q1 0, cell_blk q1 0, fun wx => by have := r1 wx; rwa [show ((L + 1 : Nat) : Int) = (L : Int) + 1 from by omega] at this, r3, ?_⟩
    have hbd : Below w1.heap.size w1 w1.drew := (Below.refl _ _).drew
    have hA := leaf_cat (w := w1.drew) (xs := [⟨a, L, pcs (ps.take L), c⟩, ⟨a2, ps.length - (L + 1), pcs (ps.drop (L + 1)), c - (L + 1)⟩]) (ps := Q) (by
      intro s hs
      simp only [List.mem_cons, List.not_mem_nil, or_false] at hs
      rcases hs with rfl | rfl
      · exact r4.below hbd
      · exact r2.below hbd) (by simp) (by rw [hpc, pcs_app]; simp [catX]) (by rw [hlen]; simp [totN]; omega) (by omega)
    refine Calls.mono hA ?_
    rintro e w' ⟨x, y, rfl, hl, hb2, hb3⟩
    exact ⟨x, y, rfl, hl, hb.trans ((hbd.trans hb2).mono hb.size), (hb3.cell (p := ⟨b, 0, none⟩) (Array.getElem?_eq_some_iff.1 q1).1).trans (cell_blk q1 0)⟩)
  have hlti : (L : Int) + 1 ≤ (ps.length : Int) := by omega
  have hwl : IntKind.i64.wrap ((L : Int) + 1) = (L : Int) + 1 := by rw [IntKind.wrap_i64]; omega
  clear h hs hf hF hkl hL hlen hQ hpc hlt
  obtain ⟨N, hN⟩ : ∃ N, N = Q.length := ⟨_, rfl⟩
  rw [← hN] at HW
  clear hN
  go_enter Try.func25, Try.ntmps25
  go_wp2_with fail
  refine Calls.mono hp ?_
  rintro e w1 ⟨rfl, hb1⟩
  obtain ⟨a, c, a2, c0, c1, r1, r3, hcat⟩ := HW.out w1 hb1
  obtain ⟨n2, hn2⟩ : ∃ n2, n2 = ps.length - (L + 1) := ⟨_, rfl⟩
  obtain ⟨c2, hc2⟩ : ∃ c2, c2 = c - (L + 1) := ⟨_, rfl⟩
  rw [← hn2, ← hc2] at r1 hcat
  clear HW hp hn2 hc2
  go_wp2
  go_region_held3 (fun w' => w'.cell? ⟨b, 0, none⟩ = some (.slice a ps.length c)) (go_keep)
    (first
      | (go_at_call 40; refine Calls.mono hcat ?_; rintro e w2 ⟨x, y, rfl, hlf, hb2, s2⟩))
  go_wp2
  go_ret
  exact ⟨_, rfl, hlf, hb2⟩
end Go.Proofs.Ytpophalhmjchkaa

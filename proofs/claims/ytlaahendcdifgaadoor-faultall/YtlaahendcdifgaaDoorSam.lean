/-
  Same: of equal elements it is true.
-/
import Derived.Test.YtlaahendcdifgaaDoorToo
namespace Go.Proofs.YtlaahendcdifgaaDoor
open Go.RowKit

theorem lcs_get : ∀ (l : List (ByteArray × ByteArray)) (j : Nat) (h : j < l.length), (lcs l)[j * 3]? = some (.string (l[j]).1) ∧ (lcs l)[j * 3 + 1]? = some (.string (l[j]).2) ∧ (lcs l)[j * 3 + 2]? = some (.slice none 0 0)
  | [], j, h => by simp at h
  | x :: l, 0, h => ⟨rfl, rfl, rfl⟩
  | x :: l, j + 1, h => by
    have := lcs_get l j (by simpa using h)
    simp only [lcs, List.getElem_cons_succ]
    rw [show (j + 1) * 3 = j * 3 + 1 + 1 + 1 by omega, show j * 3 + 1 + 1 + 1 + 1 = (j * 3 + 1) + 1 + 1 + 1 by omega, show j * 3 + 1 + 1 + 1 + 2 = (j * 3 + 2) + 1 + 1 + 1 by omega]
    simp only [List.getElem?_cons_succ]
    exact this
theorem own_lvs {w : World} {base : Nat} {v : Value} {ks : List (ByteArray × ByteArray)} (h : w.ownsRow base 35 3 v ks.length (lcs ks)) (hk : 0 < ks.length) : ∃ g c, v = .slice (some ⟨g, 0, none⟩) ks.length c ∧ g < w.heap.size ∧ Lvs w g ks := by
  have h0 := h
  obtain ⟨hx, ⟨h1, h2⟩ | ⟨g, cap, cur, h1, h2, h3, h4, h5, h6, h7⟩⟩ := h
  · omega
  · subst h1
    refine ⟨g, cap, rfl, heap_lt h3, fun j hj => ?_⟩
    obtain ⟨g0, g1, g2⟩ := lcs_get ks j hj
    have hl := lcs_len ks
    refine ⟨?_, ?_, ?_⟩
    · rw [h0.cellAt (j * 3) (by omega)]; exact g0
    · rw [h0.cellAt (j * 3 + 1) (by omega)]; exact g1
    · rw [h0.cellAt (j * 3 + 2) (by omega)]; exact g2
theorem Lvs.below {w w' : World} {B b : Nat} {ks : List (ByteArray × ByteArray)} (h : Lvs w b ks) (hb : Below B w w') (hB : b < B) : Lvs w' b ks := fun j hj => by
  obtain ⟨h0, h1, h2⟩ := h j hj
  exact ⟨(hb.cell (p := ⟨b, j * 3, none⟩) hB).trans h0, (hb.cell (p := ⟨b, j * 3 + 1, none⟩) hB).trans h1, (hb.cell (p := ⟨b, j * 3 + 2, none⟩) hB).trans h2⟩

set_option maxRecDepth 20000 in
theorem same_leaf (n t : ByteArray) (w : World) :
    Calls Tryd.prog 13 #[.agg #[.string n, .string t, .slice none 0 0], .agg #[.string n, .string t, .slice none 0 0]] w fun o w' => o = .returned (.bool true) ∧ Below w.heap.size w w' := by
  go_enter Tryd.func13, Tryd.ntmps13
  go_wp2
  refine wp_loop_rounds 1 ?_
  rw [rounds_succ]
  go_wp2
  go_ret
  exact ⟨rfl, ((Below.refl _ _).alloc (Nat.le_refl _) _).alloc (by simp) _⟩

set_option maxRecDepth 20000 in
set_option maxHeartbeats 1600000 in
theorem same_list (n t : ByteArray) (ks : List (ByteArray × ByteArray)) (a b c d : Nat) (w : World) (ha : a < w.heap.size) (hb : b < w.heap.size) (hk : ks.length ≤ 65536) (hla : Lvs w a ks) (hlb : Lvs w b ks) :
    Calls Tryd.prog 13 #[.agg #[.string n, .string t, .slice (some ⟨a, 0, none⟩) ks.length c], .agg #[.string n, .string t, .slice (some ⟨b, 0, none⟩) ks.length d]] w fun o w' => o = .returned (.bool true) ∧ Below w.heap.size w w' := by
  have K := (show Hid (∀ n t W, Calls Tryd.prog 13 #[.agg #[.string n, .string t, .slice none 0 0], .agg #[.string n, .string t, .slice none 0 0]] W fun o w' => o = .returned (.bool true) ∧ Below W.heap.size W w') from same_leaf)
  have HL : Hid (Lvs w a ks ∧ Lvs w b ks) := ⟨hla, hlb⟩
  clear hla hlb
  obtain ⟨w0, hw0⟩ : ∃ w0, w0 = (w.alloc (.cells #[.string n, .string t, .slice (some ⟨a, 0, none⟩) ks.length c] 35)).alloc (.cells #[.string n, .string t, .slice (some ⟨b, 0, none⟩) ks.length d] 35) := ⟨_, rfl⟩
  have H0 : Hid (w0.cell? ⟨w.heap.size, 2, none⟩ = some (.slice (some ⟨a, 0, none⟩) ks.length c) ∧ w0.cell? ⟨w.heap.size + 1, 2, none⟩ = some (.slice (some ⟨b, 0, none⟩) ks.length d) ∧ Below w.heap.size w w0 ∧ w0.heap.size = w.heap.size + 2) := by
    rw [hw0]
    refine ⟨?_, ?_, ((Below.refl _ _).alloc (Nat.le_refl _) _).alloc (by simp) _, by simp⟩
    · exact cell_blk ((Below.heap_alloc _ _ _ (by simp)).trans (heap_alloc_new _ _)) 2
    · exact cell_blk (heap_alloc_at (by simp)) 2
  go_enter Tryd.func13, Tryd.ntmps13
  go_wp2
  rw [← hw0]
  clear hw0
  generalize hq : w.heap.size + 1 = q at H0 ⊢
  obtain ⟨p, hp⟩ : ∃ p, p = w.heap.size := ⟨_, rfl⟩
  have HQ : Hid (q = w.heap.size + 1 ∧ p = w.heap.size) := ⟨hq.symm, hp⟩
  rw [← hp]
  clear hq hp
  go_loopw [5] (fun i wx => ∃ k : Nat, k ≤ ks.length ∧ i = .int .i64 k ∧ Below w0.heap.size w0 wx) (fun i _ => ks.length - (intOf i).toNat)
  case atStart => exact ⟨0, Nat.zero_le _, rfl, Below.refl _ _⟩
  case round =>
    obtain ⟨k, hkl, rfl, hbl⟩ := hrel
    have hz := hbl.size
    have h2 := H0.out.2.2.2
    have e1 := HQ.out.1
    have e2 := HQ.out.2
    have c2 := (hbl.cell (p := ⟨w.heap.size, 2, none⟩) (by show w.heap.size < _; omega)).trans H0.out.1
    have d2 := (hbl.cell (p := ⟨q, 2, none⟩) (by show q < _; omega)).trans H0.out.2.1
    rw [← e2] at c2
    have hB : Below w.heap.size w wr := H0.out.2.2.1.trans (hbl.mono (by omega))
    have HB : Hid (Below w0.heap.size w0 wr ∧ Below w.heap.size w wr) := ⟨hbl, hB⟩
    by_cases hlt : k < ks.length
    · obtain ⟨a0, a1, a2⟩ := HL.out.1.below hB ha k hlt
      obtain ⟨b0, b1, b2⟩ := HL.out.2.below hB hb k hlt
      have hkI : (k : Int) < (ks.length : Int) := by omega
      have hk6 : k < 65536 := by omega
      generalize (ks[k]).1 = x at *
      generalize (ks[k]).2 = y at *
      have HC := (show Hid (∀ w', Below wr.heap.size wr w' → w'.cell? ⟨p, 2, none⟩ = some (.slice (some ⟨a, 0, none⟩) ks.length c) ∧ w'.cell? ⟨q, 2, none⟩ = some (.slice (some ⟨b, 0, none⟩) ks.length d) ∧ w'.cell? ⟨a, k * 3, none⟩ = some (.string x) ∧ w'.cell? ⟨a, k * 3 + 1, none⟩ = some (.string y) ∧ w'.cell? ⟨a, k * 3 + 2, none⟩ = some (.slice none 0 0) ∧ w'.cell? ⟨b, k * 3, none⟩ = some (.string x) ∧ w'.cell? ⟨b, k * 3 + 1, none⟩ = some (.string y) ∧ w'.cell? ⟨b, k * 3 + 2, none⟩ = some (.slice none 0 0)) from fun w' h => by
        have hc : ∀ (g o : Nat) {v : Value}, g < wr.heap.size → wr.cell? ⟨g, o, none⟩ = some v → w'.cell? ⟨g, o, none⟩ = some v := fun g o v hg hv => (h.cell (p := ⟨g, o, none⟩) hg).trans hv
        exact ⟨hc _ _ (by omega) c2, hc _ _ (by omega) d2, hc _ _ (by omega) a0, hc _ _ (by omega) a1, hc _ _ (by omega) a2, hc _ _ (by omega) b0, hc _ _ (by omega) b1, hc _ _ (by omega) b2⟩)
      clear e1 e2 h2 hz hbl hB
      go_wp2_with fail
      go_region_held3 (fun w' => w'.cell? ⟨p, 2, none⟩ = some (.slice (some ⟨a, 0, none⟩) ks.length c) ∧ w'.cell? ⟨q, 2, none⟩ = some (.slice (some ⟨b, 0, none⟩) ks.length d) ∧ w'.cell? ⟨a, k * 3, none⟩ = some (.string x) ∧ w'.cell? ⟨a, k * 3 + 1, none⟩ = some (.string y) ∧ w'.cell? ⟨a, k * 3 + 2, none⟩ = some (.slice none 0 0) ∧ w'.cell? ⟨b, k * 3, none⟩ = some (.string x) ∧ w'.cell? ⟨b, k * 3 + 1, none⟩ = some (.string y) ∧ w'.cell? ⟨b, k * 3 + 2, none⟩ = some (.slice none 0 0)) (first | (exact HC.out _ hs1) | (go_keep))
        (first | (go_at_call 13; (with_reducible refine Calls.mono (K.out _ _ _) ?_); rintro e w1 ⟨rfl, hb1⟩; have hs1 : Below wr.heap.size wr w1 := (by first | exact hb1 | exact ((Below.refl _ _).drew).trans hb1)))
      have H9 : Hid (Below w0.heap.size w0 w1) := HB.out.1.trans (hs1.mono HB.out.1.size)
      clear hs1 hb1 HC c2 d2 a0 a1 a2 b0 b1 b2
      go_wp2
      exact ⟨⟨k + 1, by omega, int_eq (by omega), H9.out⟩, by simp only [intOf]; omega⟩
    · obtain rfl : k = ks.length := by omega
      clear e1 e2 h2 hz hbl hB
      go_wp2
      go_ret
      exact ⟨rfl, HB.out.2⟩
end Go.Proofs.YtlaahendcdifgaaDoor

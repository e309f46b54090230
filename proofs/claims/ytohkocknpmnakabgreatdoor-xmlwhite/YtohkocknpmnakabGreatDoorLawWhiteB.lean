/-
  The law XmlWhite: the walk.
-/
import Derived.Test.YtohkocknpmnakabGreatDoorWhG
namespace Go.Proofs.YtohkocknpmnakabGreatDoor
open Go.RowKit

theorem wsL_get (m : Nat) (h : m < [Value.string ⟨#[]⟩, .string ⟨#[32]⟩, .string ⟨#[10, 9]⟩, .string ⟨#[13, 10, 32, 32]⟩].length) : [Value.string ⟨#[]⟩, .string ⟨#[32]⟩, .string ⟨#[10, 9]⟩, .string ⟨#[13, 10, 32, 32]⟩][m] = .string ⟨(wsL m).toArray⟩ := by
  have h4 : m < 4 := h
  rcases (show m = 0 ∨ m = 1 ∨ m = 2 ∨ m = 3 by omega) with rfl | rfl | rfl | rfl <;> rfl

set_option maxRecDepth 20000 in
set_option maxHeartbeats 3200000 in
theorem white_short (a b : List UInt8) (z : Int) (w : World) (hl : a.length + b.length ≤ 1000) (hm : Mx w) (he : Er w) :
    Calls Tryz.prog 3 #[.string ⟨a.toArray⟩, .string ⟨b.toArray⟩, .int .i64 z] w fun e w' => e = .returned (.bool true) ∧ Below w.heap.size w w' := by
  obtain ⟨m, hm4, hbits⟩ := and3 z
  obtain ⟨P, Q, V, hP, hQ, hV, X1, X2, X3, X4, Y1, Y2, Y3, Y4, Y5, Y6, Y7, Y8, Y9, Y10, Y11, Y12, Y13, Y14, Y15, Y16, Y17, Y18, Y19, Y20, f1, f2, f3, f4, g1, g2, g3, g4, g5, g6, g7, g8, g9, g10, g11, g12, g13, g14, g15, g16, g17, g18, g19, g20, hX, hY, l1, l2⟩ := docs a b m hl
  have KA := (show Hid (∀ W, Below w.heap.size w W → Calls Tryz.prog 4 #[] W fun e w' => e = .returned (.bool true) ∧ Below W.heap.size W w') from fun W h => awake_any W (hm.bel h) (he.bel h))
  have KEa := (show Hid (∀ W, Calls Tryz.prog 5 #[.string ⟨a.toArray⟩] W fun e w' => e = .returned (.string P) ∧ Below W.heap.size W w') from fun W => by rw [hP]; exact escape_any a W (by omega))
  have KEb := (show Hid (∀ W, Calls Tryz.prog 5 #[.string ⟨b.toArray⟩] W fun e w' => e = .returned (.string Q) ∧ Below W.heap.size W w') from fun W => by rw [hQ]; exact escape_any b W (by omega))
  have h1 := prs_one a b
  have h2 := prs_two a b (wsL_white m)
  obtain ⟨w0, hw0⟩ : ∃ w0, w0 = w.alloc (.cells #[.string ⟨#[]⟩, .string ⟨#[32]⟩, .string ⟨#[10, 9]⟩, .string ⟨#[13, 10, 32, 32]⟩] 9) := ⟨_, rfl⟩
  have hget := wsL_get m hm4
  rw [← hV] at hget
  have HG : Hid ([Value.string ⟨#[]⟩, .string ⟨#[32]⟩, .string ⟨#[10, 9]⟩, .string ⟨#[13, 10, 32, 32]⟩][m]'hm4 = .string V) := hget
  have H0 : Hid (Below w.heap.size w w0) := by rw [hw0]; exact (Below.refl _ _).alloc (Nat.le_refl _) _
  have hli : ¬ (1000 : Int) < ((⟨a.toArray⟩ : ByteArray).size : Int) + ((⟨b.toArray⟩ : ByteArray).size : Int) := by rw [mk_size, mk_size]; omega
  have hsa : (⟨a.toArray⟩ : ByteArray).size ≤ 1000 := by rw [mk_size]; omega
  have hsb : (⟨b.toArray⟩ : ByteArray).size ≤ 1000 := by rw [mk_size]; omega
  generalize (⟨a.toArray⟩ : ByteArray) = A at *
  generalize (⟨b.toArray⟩ : ByteArray) = C at *
  rcases res_form (escX a) (escX b) with hr | ⟨x, y, hr⟩
  · rw [hr] at h1 h2
    have K1 := (show Hid (∀ W, Below w.heap.size w W → Calls Tryz.prog 6 #[.string X4] W fun e w' => e = .returned (.tuple #[.agg #[.string ⟨#[]⟩, .string ⟨#[]⟩, .slice none 0 0], .int .i64 130]) ∧ Below W.heap.size W w') from fun W h => by rw [hX]; exact p_none _ W l1 h1 (hm.bel h) (he.bel h))
    have K2 := (show Hid (∀ W, Below w.heap.size w W → Calls Tryz.prog 6 #[.string Y20] W fun e w' => e = .returned (.tuple #[.agg #[.string ⟨#[]⟩, .string ⟨#[]⟩, .slice none 0 0], .int .i64 130]) ∧ Below W.heap.size W w') from fun W h => by rw [hY]; exact p_none _ W l2 h2 (hm.bel h) (he.bel h))
    clear hget h1 h2 hr hX hY hP hQ hV l1 l2 hm he hl
    go_enter Tryz.func3, Tryz.ntmps3
    go_wp2_with fail
    rw [← hw0]
    rw [HG.out]
    clear hw0 HG
    refine (KEa.out _).mono ?_
    rintro e w1 ⟨rfl, hb1⟩
    have H1 : Hid (Below w.heap.size w w1) := H0.out.trans (hb1.mono H0.out.size)
    clear hb1 H0
    go_wp2_with fail
    refine (KEb.out _).mono ?_
    rintro e w2 ⟨rfl, hb2⟩
    have H2 : Hid (Below w.heap.size w w2) := H1.out.trans (hb2.mono H1.out.size)
    clear hb2 H1
    go_wp2_with fail
    refine (K1.out _ H2.out).mono ?_
    rintro e w3 ⟨rfl, hb3⟩
    have H3 : Hid (Below w.heap.size w (w3.alloc (.cells #[.string ⟨#[]⟩, .string ⟨#[]⟩, .slice none 0 0] 27))) := (H2.out.trans (hb3.mono H2.out.size)).alloc (H2.out.trans (hb3.mono H2.out.size)).size _
    clear hb3 H2
    go_wp2_with fail
    refine (K2.out _ H3.out).mono ?_
    rintro e w4 ⟨rfl, hb4⟩
    have H4 : Hid (Below w.heap.size w (w4.alloc (.cells #[.string ⟨#[]⟩, .string ⟨#[]⟩, .slice none 0 0] 27))) := (H3.out.trans (hb4.mono H3.out.size)).alloc (H3.out.trans (hb4.mono H3.out.size)).size _
    clear hb4 H3
    go_wp2_with fail
    refine (KA.out _ H4.out).mono ?_
    rintro e w5 ⟨rfl, hb5⟩
    have H5 : Hid (Below w.heap.size w w5) := H4.out.trans (hb5.mono H4.out.size)
    clear hb5 H4
    go_wp2
    go_ret
    exact ⟨rfl, H5.out⟩
  · rw [hr] at h1 h2
    have K1 := (show Hid (∀ W, Below w.heap.size w W → Calls Tryz.prog 6 #[.string X4] W fun e w' => ∃ b off c, e = .returned (.tuple #[.agg #[.string ⟨#[114]⟩, .string ⟨#[]⟩, .slice (some ⟨b, off, none⟩) 3 c], .int .i64 0]) ∧ b < w'.heap.size ∧ w'.cell? ⟨b, off + 1, none⟩ = some (.string ⟨x.toArray⟩) ∧ w'.cell? ⟨b, off + 3 + 1, none⟩ = some (.string ⟨y.toArray⟩) ∧ w'.cell? ⟨b, off + 6 + 1, none⟩ = some (.string ⟨#[]⟩) ∧ Below W.heap.size W w') from fun W h => by rw [hX]; exact p_some _ x y W l1 h1 (hm.bel h) (he.bel h))
    have K2 := (show Hid (∀ W, Below w.heap.size w W → Calls Tryz.prog 6 #[.string Y20] W fun e w' => ∃ b off c, e = .returned (.tuple #[.agg #[.string ⟨#[114]⟩, .string ⟨#[]⟩, .slice (some ⟨b, off, none⟩) 3 c], .int .i64 0]) ∧ b < w'.heap.size ∧ w'.cell? ⟨b, off + 1, none⟩ = some (.string ⟨x.toArray⟩) ∧ w'.cell? ⟨b, off + 3 + 1, none⟩ = some (.string ⟨y.toArray⟩) ∧ w'.cell? ⟨b, off + 6 + 1, none⟩ = some (.string ⟨#[]⟩) ∧ Below W.heap.size W w') from fun W h => by rw [hY]; exact p_some _ x y W l2 h2 (hm.bel h) (he.bel h))
    generalize (⟨x.toArray⟩ : ByteArray) = SX at *
    generalize (⟨y.toArray⟩ : ByteArray) = SY at *
    clear hget h1 h2 hr hX hY hP hQ hV l1 l2 hm he hl
    go_enter Tryz.func3, Tryz.ntmps3
    go_wp2_with fail
    rw [← hw0]
    rw [HG.out]
    clear hw0 HG
    refine (KEa.out _).mono ?_
    rintro e w1 ⟨rfl, hb1⟩
    have H1 : Hid (Below w.heap.size w w1) := H0.out.trans (hb1.mono H0.out.size)
    clear hb1 H0
    go_wp2_with fail
    refine (KEb.out _).mono ?_
    rintro e w2 ⟨rfl, hb2⟩
    have H2 : Hid (Below w.heap.size w w2) := H1.out.trans (hb2.mono H1.out.size)
    clear hb2 H1
    go_wp2_with fail
    refine (K1.out _ H2.out).mono ?_
    rintro e w3 ⟨b1, o1, c1, rfl, hlt1, i1, i2, i3, hb3⟩
    obtain ⟨w4, hw4⟩ : ∃ w4, w4 = w3.alloc (.cells #[.string ⟨#[114]⟩, .string ⟨#[]⟩, .slice (some ⟨b1, o1, none⟩) 3 c1] 27) := ⟨_, rfl⟩
    obtain ⟨p, hp⟩ : ∃ p, p = w3.heap.size := ⟨_, rfl⟩
    have H4 : Hid (Below w.heap.size w w4 ∧ w4.heap[p]? = some (.cells #[.string ⟨#[114]⟩, .string ⟨#[]⟩, .slice (some ⟨b1, o1, none⟩) 3 c1] 27 (0, 0)) ∧ b1 < w4.heap.size ∧ w4.cell? ⟨b1, o1 + 1, none⟩ = some (.string SX) ∧ w4.cell? ⟨b1, o1 + 3 + 1, none⟩ = some (.string SY)) := by
      have hbA : Below w3.heap.size w3 w4 := by rw [hw4]; exact (Below.refl _ _).alloc (Nat.le_refl _) _
      have h3 := H2.out.trans (hb3.mono H2.out.size)
      refine ⟨h3.trans (hbA.mono h3.size), ?_, Nat.lt_of_lt_of_le hlt1 hbA.size, (hbA.cell (p := ⟨b1, o1 + 1, none⟩) hlt1).trans i1, (hbA.cell (p := ⟨b1, o1 + 3 + 1, none⟩) hlt1).trans i2⟩
      rw [hw4, hp]
      exact heap_alloc_new _ _
    clear i1 i2 i3 hlt1 hb3 H2
    go_wp2_with fail
    rw [← hw4, ← hp]
    clear hw4 hp
    refine (K2.out _ H4.out.1).mono ?_
    rintro e w5 ⟨b2, o2, c2, rfl, hlt2, j1, j2, j3, hb5⟩
    obtain ⟨w6, hw6⟩ : ∃ w6, w6 = w5.alloc (.cells #[.string ⟨#[114]⟩, .string ⟨#[]⟩, .slice (some ⟨b2, o2, none⟩) 3 c2] 27) := ⟨_, rfl⟩
    obtain ⟨q, hq⟩ : ∃ q, q = w5.heap.size := ⟨_, rfl⟩
    have hbB : Below w5.heap.size w5 w6 := by rw [hw6]; exact (Below.refl _ _).alloc (Nat.le_refl _) _
    have h46 : Below w4.heap.size w4 w6 := hb5.trans (hbB.mono hb5.size)
    have H6 : Hid (Below w.heap.size w w6) := H4.out.1.trans (h46.mono H4.out.1.size)
    have hP6 : w6.heap[p]? = some (.cells #[.string ⟨#[114]⟩, .string ⟨#[]⟩, .slice (some ⟨b1, o1, none⟩) 3 c1] 27 (0, 0)) := (h46.block _ (blk_lt H4.out.2.1)).trans H4.out.2.1
    have hQ6 : w6.heap[q]? = some (.cells #[.string ⟨#[114]⟩, .string ⟨#[]⟩, .slice (some ⟨b2, o2, none⟩) 3 c2] 27 (0, 0)) := by rw [hw6, hq]; exact heap_alloc_new _ _
    have d1 := (h46.cell (p := ⟨b1, o1 + 1, none⟩) H4.out.2.2.1).trans H4.out.2.2.2.1
    have d2 := (h46.cell (p := ⟨b1, o1 + 3 + 1, none⟩) H4.out.2.2.1).trans H4.out.2.2.2.2
    have k1 := (hbB.cell (p := ⟨b2, o2 + 1, none⟩) hlt2).trans j1
    have k2 := (hbB.cell (p := ⟨b2, o2 + 3 + 1, none⟩) hlt2).trans j2
    have k3 := (hbB.cell (p := ⟨b2, o2 + 6 + 1, none⟩) hlt2).trans j3
    have pc : w6.cell? ⟨p, 2, none⟩ = some (.slice (some ⟨b1, o1, none⟩) 3 c1) := cell_blk hP6 2
    have qc : w6.cell? ⟨q, 2, none⟩ = some (.slice (some ⟨b2, o2, none⟩) 3 c2) := cell_blk hQ6 2
    have hb1z : b1 < w6.heap.size := Nat.lt_of_lt_of_le H4.out.2.2.1 h46.size
    have hb2z : b2 < w6.heap.size := Nat.lt_of_lt_of_le hlt2 hbB.size
    have HC := (show Hid (∀ w', Below w6.heap.size w6 w' → w'.cell? ⟨p, 2, none⟩ = some (.slice (some ⟨b1, o1, none⟩) 3 c1) ∧ w'.cell? ⟨q, 2, none⟩ = some (.slice (some ⟨b2, o2, none⟩) 3 c2) ∧ w'.cell? ⟨b1, o1 + 1, none⟩ = some (.string SX) ∧ w'.cell? ⟨b1, o1 + 3 + 1, none⟩ = some (.string SY) ∧ w'.cell? ⟨b2, o2 + 1, none⟩ = some (.string SX) ∧ w'.cell? ⟨b2, o2 + 3 + 1, none⟩ = some (.string SY) ∧ w'.cell? ⟨b2, o2 + 6 + 1, none⟩ = some (.string ⟨#[]⟩)) from fun w' h =>
      ⟨(h.cell (p := ⟨p, 2, none⟩) (blk_lt hP6)).trans pc, (h.cell (p := ⟨q, 2, none⟩) (blk_lt hQ6)).trans qc, (h.cell (p := ⟨b1, o1 + 1, none⟩) hb1z).trans d1, (h.cell (p := ⟨b1, o1 + 3 + 1, none⟩) hb1z).trans d2, (h.cell (p := ⟨b2, o2 + 1, none⟩) hb2z).trans k1, (h.cell (p := ⟨b2, o2 + 3 + 1, none⟩) hb2z).trans k2, (h.cell (p := ⟨b2, o2 + 6 + 1, none⟩) hb2z).trans k3⟩)
    have hbd : Below w6.heap.size w6 w6.drew := (Below.refl _ _).drew
    clear j1 j2 j3 hlt2 hb5 hbB h46 H4 hP6 hQ6
    go_wp2_with fail
    rw [← hw6, ← hq]
    clear hw6 hq
    go_region_held3 (fun w' => w'.cell? ⟨p, 2, none⟩ = some (.slice (some ⟨b1, o1, none⟩) 3 c1) ∧ w'.cell? ⟨q, 2, none⟩ = some (.slice (some ⟨b2, o2, none⟩) 3 c2) ∧ w'.cell? ⟨b1, o1 + 1, none⟩ = some (.string SX) ∧ w'.cell? ⟨b1, o1 + 3 + 1, none⟩ = some (.string SY) ∧ w'.cell? ⟨b2, o2 + 1, none⟩ = some (.string SX) ∧ w'.cell? ⟨b2, o2 + 3 + 1, none⟩ = some (.string SY) ∧ w'.cell? ⟨b2, o2 + 6 + 1, none⟩ = some (.string ⟨#[]⟩)) (first | (exact HC.out _ hb7) | (go_keep))
      (first | (go_at_call 4; (with_reducible refine Calls.mono (KA.out _ ?_) ?_); (first | exact H6.out | exact H6.out.drew); rintro e w7 ⟨rfl, hb7'⟩; have hb7 : Below w6.heap.size w6 w7 := (by first | exact hb7' | exact hbd.trans hb7')))
    have H7 : Hid (Below w.heap.size w w7) := H6.out.trans (hb7.mono H6.out.size)
    go_wp2
    go_ret
    exact ⟨rfl, H7.out⟩
end Go.Proofs.YtohkocknpmnakabGreatDoor

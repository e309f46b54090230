/-
  Of and Node: the error's document.
-/
import Derived.Test.YtlaahendcdifgaaDoorOfs
namespace Go.Proofs.YtlaahendcdifgaaDoor
open Go.RowKit

theorem size39 : (Tryd.prog.info? 39).map (·.size) = some 3 := by kernel_rfl
theorem size35 : (Tryd.prog.info? 35).map (·.size) = some 3 := by kernel_rfl
theorem xof_any (n t : ByteArray) (w : World) :
    Calls Tryd.prog 23 #[.string n, .string t] w fun e w' => e = .returned (.agg #[.string n, .string t, .slice none 0 0]) ∧ Below w.heap.size w w' := by
  go_enter Tryd.func23, Tryd.ntmps23
  go_wp2
  refine bodyPost_ret (results_cell_row rfl _ _ w.heap.size 39 #[.string n, .string t, .slice none 0 0] (0, 0) _ rfl (heap_alloc_new w _) Tryd.underlying39 rfl size39) rfl ⟨rfl, ?_⟩
  exact (Below.refl _ _).alloc (Nat.le_refl _) _
theorem rxof_any (n t : ByteArray) (w : World) :
    Calls Tryd.prog 24 #[.string n, .string t] w fun e w' => e = .returned (.agg #[.string n, .string t, .slice none 0 0]) ∧ Below w.heap.size w w' := by
  go_enter Tryd.func24, Tryd.ntmps24
  go_wp2
  refine bodyPost_ret (results_cell_row rfl _ _ w.heap.size 35 #[.string n, .string t, .slice none 0 0] (0, 0) _ rfl (heap_alloc_new w _) Tryd.underlying35 rfl size35) rfl ⟨rfl, ?_⟩
  exact (Below.refl _ _).alloc (Nat.le_refl _) _

def codeT : ByteArray := ⟨#[67, 111, 100, 101]⟩
def mesT : ByteArray := ⟨#[77, 101, 115, 115, 97, 103, 101]⟩
def resT : ByteArray := ⟨#[82, 101, 115, 111, 117, 114, 99, 101]⟩
def idT : ByteArray := ⟨#[82, 101, 113, 117, 101, 115, 116, 73, 100]⟩
def errT : ByteArray := ⟨#[69, 114, 114, 111, 114]⟩
/-- Four elements without kids, of type t at the block b. -/
def Four (t : TypeId) (w : World) (b : Nat) (n r i : ByteArray) : Prop :=
  w.heap[b]? = some (.cells #[.string codeT, .string n, .slice none 0 0, .string mesT, .string n, .slice none 0 0, .string resT, .string r, .slice none 0 0, .string idT, .string i, .slice none 0 0] t)

set_option maxRecDepth 20000 in
theorem node_any (e : Int) (r i : ByteArray) (w : World) (hg : Et w) :
    Calls Tryd.prog 15 #[.int .i64 e, .string r, .string i] w fun o w' => ∃ b, w.heap.size ≤ b ∧ o = .returned (.agg #[.string errT, .string ⟨#[]⟩, .slice (some ⟨b, 0, none⟩) 4 4]) ∧ Four 39 w' b (nameV e) r i ∧ Below w.heap.size w w' := by
  have K := (show Hid (∀ W, Et W → Calls Tryd.prog 7 #[.int .i64 e] W fun r w' => r = .returned (.string (nameV e)) ∧ Below W.heap.size W w') from fun W hW => name_any e W hW)
  have HG : Hid (Et w) := hg
  clear hg
  generalize nameV e = q at *
  have KO := (show Hid (∀ n t W, Calls Tryd.prog 23 #[.string n, .string t] W fun e w' => e = .returned (.agg #[.string n, .string t, .slice none 0 0]) ∧ Below W.heap.size W w') from xof_any)
  obtain ⟨w0, hw0⟩ : ∃ w0, w0 = w.alloc (.cells #[.string ⟨#[]⟩, .string ⟨#[]⟩, .slice none 0 0] 39) := ⟨_, rfl⟩
  have H0 : Hid (w0.heap[w.heap.size]? = some (.cells #[.string ⟨#[]⟩, .string ⟨#[]⟩, .slice none 0 0] 39) ∧ Below w.heap.size w w0 ∧ w0.heap.size = w.heap.size + 1) := by
    rw [hw0]
    exact ⟨heap_alloc_new _ _, (Below.refl _ _).alloc (Nat.le_refl _) _, by simp⟩
  have HE0 : Hid (Et w0) := HG.out.below (H0.out.2.1)
  clear HG
  go_enter Tryd.func15, Tryd.ntmps15
  go_wp2_with fail
  rw [← hw0]
  clear hw0
  refine (K.out _ HE0.out).mono ?_
  rintro o w1 ⟨rfl, hb⟩
  have H1 : Hid (Below w0.heap.size w0 w1) := hb
  clear hb
  go_wp2_with fail
  refine (KO.out _ _ _).mono ?_
  rintro o w2 ⟨rfl, hb⟩
  have H2 : Hid (Below w0.heap.size w0 w2) := H1.out.trans (hb.mono H1.out.size)
  clear hb H1
  go_wp2_with fail
  refine (KO.out _ _ _).mono ?_
  rintro o w3 ⟨rfl, hb⟩
  have H3 : Hid (Below w0.heap.size w0 w3) := H2.out.trans (hb.mono H2.out.size)
  clear hb H2
  go_wp2_with fail
  refine (KO.out _ _ _).mono ?_
  rintro o w4 ⟨rfl, hb⟩
  have H4 : Hid (Below w0.heap.size w0 w4) := H3.out.trans (hb.mono H3.out.size)
  clear hb H3
  go_wp2_with fail
  refine (KO.out _ _ _).mono ?_
  rintro o w5 ⟨rfl, hb⟩
  have H5 : Hid (Below w0.heap.size w0 w5) := H4.out.trans (hb.mono H4.out.size)
  clear hb H4
  have hR : w5.heap[w.heap.size]? = some (.cells #[.string ⟨#[]⟩, .string ⟨#[]⟩, .slice none 0 0] 39) := (H5.out.block _ (by have := H0.out.2.2; omega)).trans H0.out.1
  have hbw : Hid (Below w.heap.size w w5) := H0.out.2.1.trans (H5.out.mono (by have := H0.out.2.2; omega))
  have hlt : w.heap.size < w5.heap.size := by have := H5.out.size; have := H0.out.2.2; omega
  have HR : Hid (w5.heap[w.heap.size]? = some (.cells #[.string ⟨#[]⟩, .string ⟨#[]⟩, .slice none 0 0] 39)) := hR
  obtain ⟨⟨d0, d1, d2⟩, f0, f1, f2⟩ := box_there hR
  clear hR
  go_wp2
  have hs3 : (((w5.setCell ⟨w.heap.size, 0, none⟩ (.string errT)).setCell ⟨w.heap.size, 1, none⟩ (.string ⟨#[]⟩)).setCell ⟨w.heap.size, 2, none⟩ (.slice (some ⟨w5.heap.size, 0, none⟩) 4 4)).heap.size = w5.heap.size := by simp [World.setCell]
  refine bodyPost_ret (results_cell_row rfl _ _ w.heap.size 39 #[.string errT, .string ⟨#[]⟩, .slice (some ⟨w5.heap.size, 0, none⟩) 4 4] (0, 0) _ rfl ((Below.heap_alloc _ _ _ (by rw [← hs3] at hlt; exact hlt)).trans (heap_set3 HR.out)) Tryd.underlying39 rfl size39) rfl ⟨w5.heap.size, by omega, rfl, heap_alloc_at hs3.symm, ?_⟩
  exact (((hbw.out.setCell (Nat.le_refl _) _).setCell (Nat.le_refl _) _).setCell (Nat.le_refl _) _).alloc (Nat.le_trans (Nat.le_of_lt hlt) (Nat.le_of_eq hs3.symm)) _
set_option maxRecDepth 20000 in
theorem rnode_any (e : Int) (r i : ByteArray) (w : World) :
    Calls Tryd.prog 16 #[.int .i64 e, .string r, .string i] w fun o w' => ∃ b, w.heap.size ≤ b ∧ o = .returned (.agg #[.string errT, .string ⟨#[]⟩, .slice (some ⟨b, 0, none⟩) 4 4]) ∧ Four 35 w' b (nameV e) r i ∧ Below w.heap.size w w' := by
  have K := (show Hid (∀ W, Calls Tryd.prog 8 #[.int .i64 e] W fun r w' => r = .returned (.string (nameV e)) ∧ Below W.heap.size W w') from fun W => rname_any e W)
  generalize nameV e = q at *
  have KO := (show Hid (∀ n t W, Calls Tryd.prog 24 #[.string n, .string t] W fun e w' => e = .returned (.agg #[.string n, .string t, .slice none 0 0]) ∧ Below W.heap.size W w') from rxof_any)
  obtain ⟨w0, hw0⟩ : ∃ w0, w0 = w.alloc (.cells #[.string ⟨#[]⟩, .string ⟨#[]⟩, .slice none 0 0] 35) := ⟨_, rfl⟩
  have H0 : Hid (w0.heap[w.heap.size]? = some (.cells #[.string ⟨#[]⟩, .string ⟨#[]⟩, .slice none 0 0] 35) ∧ Below w.heap.size w w0 ∧ w0.heap.size = w.heap.size + 1) := by
    rw [hw0]
    exact ⟨heap_alloc_new _ _, (Below.refl _ _).alloc (Nat.le_refl _) _, by simp⟩
  go_enter Tryd.func16, Tryd.ntmps16
  go_wp2_with fail
  rw [← hw0]
  clear hw0
  refine (K.out _).mono ?_
  rintro o w1 ⟨rfl, hb⟩
  have H1 : Hid (Below w0.heap.size w0 w1) := hb
  clear hb
  go_wp2_with fail
  refine (KO.out _ _ _).mono ?_
  rintro o w2 ⟨rfl, hb⟩
  have H2 : Hid (Below w0.heap.size w0 w2) := H1.out.trans (hb.mono H1.out.size)
  clear hb H1
  go_wp2_with fail
  refine (K.out _).mono ?_
  rintro o w3 ⟨rfl, hb⟩
  have H3 : Hid (Below w0.heap.size w0 w3) := H2.out.trans (hb.mono H2.out.size)
  clear hb H2
  go_wp2_with fail
  refine (KO.out _ _ _).mono ?_
  rintro o w4 ⟨rfl, hb⟩
  have H4 : Hid (Below w0.heap.size w0 w4) := H3.out.trans (hb.mono H3.out.size)
  clear hb H3
  go_wp2_with fail
  refine (KO.out _ _ _).mono ?_
  rintro o w5 ⟨rfl, hb⟩
  have H5 : Hid (Below w0.heap.size w0 w5) := H4.out.trans (hb.mono H4.out.size)
  clear hb H4
  go_wp2_with fail
  refine (KO.out _ _ _).mono ?_
  rintro o w6 ⟨rfl, hb⟩
  have H6 : Hid (Below w0.heap.size w0 w6) := H5.out.trans (hb.mono H5.out.size)
  clear hb H5
  have hR : w6.heap[w.heap.size]? = some (.cells #[.string ⟨#[]⟩, .string ⟨#[]⟩, .slice none 0 0] 35) := (H6.out.block _ (by have := H0.out.2.2; omega)).trans H0.out.1
  have hbw : Hid (Below w.heap.size w w6) := H0.out.2.1.trans (H6.out.mono (by have := H0.out.2.2; omega))
  have hlt : w.heap.size < w6.heap.size := by have := H6.out.size; have := H0.out.2.2; omega
  have HR : Hid (w6.heap[w.heap.size]? = some (.cells #[.string ⟨#[]⟩, .string ⟨#[]⟩, .slice none 0 0] 35)) := hR
  obtain ⟨⟨d0, d1, d2⟩, f0, f1, f2⟩ := box_there hR
  clear hR
  go_wp2
  have hs3 : (((w6.setCell ⟨w.heap.size, 0, none⟩ (.string errT)).setCell ⟨w.heap.size, 1, none⟩ (.string ⟨#[]⟩)).setCell ⟨w.heap.size, 2, none⟩ (.slice (some ⟨w6.heap.size, 0, none⟩) 4 4)).heap.size = w6.heap.size := by simp [World.setCell]
  refine bodyPost_ret (results_cell_row rfl _ _ w.heap.size 35 #[.string errT, .string ⟨#[]⟩, .slice (some ⟨w6.heap.size, 0, none⟩) 4 4] (0, 0) _ rfl ((Below.heap_alloc _ _ _ (by rw [← hs3] at hlt; exact hlt)).trans (heap_set3 HR.out)) Tryd.underlying35 rfl size35) rfl ⟨w6.heap.size, by omega, rfl, heap_alloc_at hs3.symm, ?_⟩
  exact (((hbw.out.setCell (Nat.le_refl _) _).setCell (Nat.le_refl _) _).setCell (Nat.le_refl _) _).alloc (Nat.le_trans (Nat.le_of_lt hlt) (Nat.le_of_eq hs3.symm)) _
end Go.Proofs.YtlaahendcdifgaaDoor

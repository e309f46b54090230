/-
  The document's Name, Status.
-/
import Derived.Test.YtlaahendcdifgaaDoorRef
namespace Go.Proofs.YtlaahendcdifgaaDoor
open Go.RowKit

theorem nmL_len : nmL.length = 42 := rfl
theorem names_cell (w : World) (k : Nat) (h : k < 42) : (w.alloc (.cells ((nmL.map fun x => Value.string x.1).toArray) 9)).cell? ⟨w.heap.size, k, none⟩ = some (.string (nmR (300 + (k : Int))).1) := by
  rw [cell_blk (heap_alloc_new w _)]
  have e : (300 + (k : Int) - 300).toNat = k := by omega
  simp [nmR, e, nmL_len ▸ h, List.getD]
theorem stats_cell (w : World) (k : Nat) (h : k < 42) : (w.alloc (.cells ((nmL.map fun x => Value.int .i64 x.2).toArray) 3)).cell? ⟨w.heap.size, k, none⟩ = some (.int .i64 (nmR (300 + (k : Int))).2) := by
  rw [cell_blk (heap_alloc_new w _)]
  have e : (300 + (k : Int) - 300).toNat = k := by omega
  simp [nmR, e, nmL_len ▸ h, List.getD]
theorem isN_nat {e : Int} (h : isN e = true) : ∃ k : Nat, k < 42 ∧ e = 300 + (k : Int) := by
  simp only [isN, decide_eq_true_eq] at h
  exact ⟨(e - 300).toNat, by omega, by omega⟩
theorem isN_not {e : Int} (h : isN e = false) : e < 300 ∨ 342 ≤ e := by
  simp only [isN, decide_eq_false_iff_not] at h
  omega
theorem isN_of {k : Nat} (h : k < 42) : isN (300 + (k : Int)) = true := by
  simp only [isN, decide_eq_true_eq]
  omega
theorem nmR_336 : nmR 336 = (⟨#[73, 110, 116, 101, 114, 110, 97, 108, 69, 114, 114, 111, 114]⟩, 500) := rfl

set_option maxRecDepth 20000 in
theorem rname_yes (k : Nat) (w : World) (hk : k < 42) :
    Calls Tryd.prog 8 #[.int .i64 (300 + (k : Int))] w fun r w' => r = .returned (.string (nmR (300 + (k : Int))).1) ∧ Below w.heap.size w w' := by
  have K := (show Hid (Calls Tryd.prog 19 #[] w fun r w' => r = .returned (.slice (some ⟨w.heap.size, 0, none⟩) 42 42) ∧ w'.cell? ⟨w.heap.size, k, none⟩ = some (.string (nmR (300 + (k : Int))).1) ∧ Below w.heap.size w w') from (names_any w).mono (by
    rintro r w' ⟨rfl, rfl⟩
    exact ⟨rfl, names_cell w k hk, (Below.refl _ _).alloc (Nat.le_refl _) _⟩))
  generalize (nmR (300 + (k : Int))).1 = q at *
  go_enter Tryd.func8, Tryd.ntmps8
  go_wp2_with fail
  refine K.out.mono ?_
  rintro r w1 ⟨rfl, hc, hb⟩
  have H : Hid (Below w.heap.size w w1) := hb
  clear hb
  go_wp2
  go_ret
  exact ⟨rfl, H.out⟩

set_option maxRecDepth 20000 in
theorem rname_zero (w : World) :
    Calls Tryd.prog 8 #[.int .i64 0] w fun r w' => r = .returned (.string ⟨#[]⟩) ∧ Below w.heap.size w w' := by
  have K := (show Hid (Calls Tryd.prog 19 #[] w fun r w' => r = .returned (.slice (some ⟨w.heap.size, 0, none⟩) 42 42) ∧ Below w.heap.size w w') from (names_any w).mono (by
    rintro r w' ⟨rfl, rfl⟩
    exact ⟨rfl, (Below.refl _ _).alloc (Nat.le_refl _) _⟩))
  go_enter Tryd.func8, Tryd.ntmps8
  go_wp2_with fail
  refine K.out.mono ?_
  rintro r w1 ⟨rfl, hb⟩
  have H : Hid (Below w.heap.size w w1) := hb
  clear hb
  go_wp2
  go_ret
  exact ⟨rfl, H.out⟩

set_option maxRecDepth 20000 in
theorem rname_lo (e : Int) (w : World) (h : e < 300) (h0 : e ≠ 0) :
    Calls Tryd.prog 8 #[.int .i64 e] w fun r w' => r = .returned (.string ⟨#[73, 110, 116, 101, 114, 110, 97, 108, 69, 114, 114, 111, 114]⟩) ∧ Below w.heap.size w w' := by
  have K := (show Hid (Calls Tryd.prog 19 #[] w fun r w' => r = .returned (.slice (some ⟨w.heap.size, 0, none⟩) 42 42) ∧ Below w.heap.size w w') from (names_any w).mono (by
    rintro r w' ⟨rfl, rfl⟩
    exact ⟨rfl, (Below.refl _ _).alloc (Nat.le_refl _) _⟩))
  go_enter Tryd.func8, Tryd.ntmps8
  go_wp2_with fail
  refine K.out.mono ?_
  rintro r w1 ⟨rfl, hb⟩
  have H : Hid (Below w.heap.size w w1) := hb
  clear hb
  go_wp2
  go_ret
  exact ⟨rfl, H.out⟩

set_option maxRecDepth 20000 in
theorem rname_hi (e : Int) (w : World) (h : 342 ≤ e) :
    Calls Tryd.prog 8 #[.int .i64 e] w fun r w' => r = .returned (.string ⟨#[73, 110, 116, 101, 114, 110, 97, 108, 69, 114, 114, 111, 114]⟩) ∧ Below w.heap.size w w' := by
  have K := (show Hid (Calls Tryd.prog 19 #[] w fun r w' => r = .returned (.slice (some ⟨w.heap.size, 0, none⟩) 42 42) ∧ Below w.heap.size w w') from (names_any w).mono (by
    rintro r w' ⟨rfl, rfl⟩
    exact ⟨rfl, (Below.refl _ _).alloc (Nat.le_refl _) _⟩))
  go_enter Tryd.func8, Tryd.ntmps8
  go_wp2_with fail
  refine K.out.mono ?_
  rintro r w1 ⟨rfl, hb⟩
  have H : Hid (Below w.heap.size w w1) := hb
  clear hb
  go_wp2
  go_ret
  exact ⟨rfl, H.out⟩

theorem rname_any (e : Int) (w : World) : Calls Tryd.prog 8 #[.int .i64 e] w fun r w' => r = .returned (.string (nameV e)) ∧ Below w.heap.size w w' := by
  by_cases h0 : e = 0
  · subst h0
    exact rname_zero w
  · have hv : nameV e = (nmF e).2.1 := if_neg h0
    rw [hv]
    cases hn : isN e with
    | true =>
      rw [nmF_yes hn]
      obtain ⟨k, hk, rfl⟩ := isN_nat hn
      exact rname_yes k w hk
    | false =>
      rw [nmF_no hn]
      rcases isN_not hn with h | h
      · exact rname_lo e w h h0
      · exact rname_hi e w h

set_option maxRecDepth 20000 in
theorem rstat_yes (k : Nat) (w : World) (hk : k < 42) :
    Calls Tryd.prog 10 #[.int .i64 (300 + (k : Int))] w fun r w' => r = .returned (.int .i64 (nmR (300 + (k : Int))).2) ∧ Below w.heap.size w w' := by
  have K := (show Hid (Calls Tryd.prog 21 #[] w fun r w' => r = .returned (.slice (some ⟨w.heap.size, 0, none⟩) 42 42) ∧ w'.cell? ⟨w.heap.size, k, none⟩ = some (.int .i64 (nmR (300 + (k : Int))).2) ∧ Below w.heap.size w w') from (stats_any w).mono (by
    rintro r w' ⟨rfl, rfl⟩
    exact ⟨rfl, stats_cell w k hk, (Below.refl _ _).alloc (Nat.le_refl _) _⟩))
  generalize (nmR (300 + (k : Int))).2 = q at *
  go_enter Tryd.func10, Tryd.ntmps10
  go_wp2_with fail
  refine K.out.mono ?_
  rintro r w1 ⟨rfl, hc, hb⟩
  have H : Hid (Below w.heap.size w w1) := hb
  clear hb
  go_wp2
  go_ret
  exact ⟨rfl, H.out⟩

set_option maxRecDepth 20000 in
theorem rstat_zero (w : World) :
    Calls Tryd.prog 10 #[.int .i64 0] w fun r w' => r = .returned (.int .i64 200) ∧ Below w.heap.size w w' := by
  have K := (show Hid (Calls Tryd.prog 21 #[] w fun r w' => r = .returned (.slice (some ⟨w.heap.size, 0, none⟩) 42 42) ∧ Below w.heap.size w w') from (stats_any w).mono (by
    rintro r w' ⟨rfl, rfl⟩
    exact ⟨rfl, (Below.refl _ _).alloc (Nat.le_refl _) _⟩))
  go_enter Tryd.func10, Tryd.ntmps10
  go_wp2_with fail
  refine K.out.mono ?_
  rintro r w1 ⟨rfl, hb⟩
  have H : Hid (Below w.heap.size w w1) := hb
  clear hb
  go_wp2
  go_ret
  exact ⟨rfl, H.out⟩

set_option maxRecDepth 20000 in
theorem rstat_lo (e : Int) (w : World) (h : e < 300) (h0 : e ≠ 0) :
    Calls Tryd.prog 10 #[.int .i64 e] w fun r w' => r = .returned (.int .i64 500) ∧ Below w.heap.size w w' := by
  have K := (show Hid (Calls Tryd.prog 21 #[] w fun r w' => r = .returned (.slice (some ⟨w.heap.size, 0, none⟩) 42 42) ∧ Below w.heap.size w w') from (stats_any w).mono (by
    rintro r w' ⟨rfl, rfl⟩
    exact ⟨rfl, (Below.refl _ _).alloc (Nat.le_refl _) _⟩))
  go_enter Tryd.func10, Tryd.ntmps10
  go_wp2_with fail
  refine K.out.mono ?_
  rintro r w1 ⟨rfl, hb⟩
  have H : Hid (Below w.heap.size w w1) := hb
  clear hb
  go_wp2
  go_ret
  exact ⟨rfl, H.out⟩

set_option maxRecDepth 20000 in
theorem rstat_hi (e : Int) (w : World) (h : 342 ≤ e) :
    Calls Tryd.prog 10 #[.int .i64 e] w fun r w' => r = .returned (.int .i64 500) ∧ Below w.heap.size w w' := by
  have K := (show Hid (Calls Tryd.prog 21 #[] w fun r w' => r = .returned (.slice (some ⟨w.heap.size, 0, none⟩) 42 42) ∧ Below w.heap.size w w') from (stats_any w).mono (by
    rintro r w' ⟨rfl, rfl⟩
    exact ⟨rfl, (Below.refl _ _).alloc (Nat.le_refl _) _⟩))
  go_enter Tryd.func10, Tryd.ntmps10
  go_wp2_with fail
  refine K.out.mono ?_
  rintro r w1 ⟨rfl, hb⟩
  have H : Hid (Below w.heap.size w w1) := hb
  clear hb
  go_wp2
  go_ret
  exact ⟨rfl, H.out⟩

theorem rstat_any (e : Int) (w : World) : Calls Tryd.prog 10 #[.int .i64 e] w fun r w' => r = .returned (.int .i64 (statV e)) ∧ Below w.heap.size w w' := by
  by_cases h0 : e = 0
  · subst h0
    exact rstat_zero w
  · have hv : statV e = (nmF e).2.2 := if_neg h0
    rw [hv]
    cases hn : isN e with
    | true =>
      rw [nmF_yes hn]
      obtain ⟨k, hk, rfl⟩ := isN_nat hn
      exact rstat_yes k w hk
    | false =>
      rw [nmF_no hn]
      rcases isN_not hn with h | h
      · exact rstat_lo e w h h0
      · exact rstat_hi e w h

theorem count_any (w : World) :
    Calls Tryd.prog 22 #[] w fun r w' => r = .returned (.int .i64 42) ∧ Below w.heap.size w w' := by
  have K := (show Hid (Calls Tryd.prog 19 #[] w fun r w' => r = .returned (.slice (some ⟨w.heap.size, 0, none⟩) 42 42) ∧ Below w.heap.size w w') from (names_any w).mono (by
    rintro r w' ⟨rfl, rfl⟩
    exact ⟨rfl, (Below.refl _ _).alloc (Nat.le_refl _) _⟩))
  go_enter Tryd.func22, Tryd.ntmps22
  go_wp2_with fail
  refine K.out.mono ?_
  rintro r w1 ⟨rfl, hb⟩
  have H : Hid (Below w.heap.size w w1) := hb
  clear hb
  go_wp2
  go_ret
  exact ⟨rfl, H.out⟩
end Go.Proofs.YtlaahendcdifgaaDoor

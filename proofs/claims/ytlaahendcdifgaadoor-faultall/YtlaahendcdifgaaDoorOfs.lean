/-
  fault.Of and the document's.
-/
import Derived.Test.YtlaahendcdifgaaDoorRfD
namespace Go.Proofs.YtlaahendcdifgaaDoor
open Go.RowKit

def nmK (k : Nat) : ByteArray := (nmR (300 + (k : Int))).1
def ofN (s : ByteArray) : Option Nat := (List.range 42).find? fun k => decide (nmK k = s)
def ofV (s : ByteArray) : Int × Bool := match ofN s with | some k => (300 + (k : Int), true) | none => (0, false)
theorem ofV_hit {s : ByteArray} {k : Nat} (hk : k < 42) (h : nmK k = s) (hj : ∀ j < k, nmK j ≠ s) : ofV s = (300 + (k : Int), true) := by
  have e : ofN s = some k := by
    unfold ofN
    rw [List.find?_range_eq_some]
    exact ⟨by simpa using h, by simpa using hk, fun j hjk => by simpa using hj j hjk⟩
  unfold ofV
  rw [e]
theorem ofV_miss {s : ByteArray} (hj : ∀ j < 42, nmK j ≠ s) : ofV s = (0, false) := by
  have e : ofN s = none := by
    unfold ofN
    rw [List.find?_range_eq_none]
    exact fun j hjk => by simpa using hj j hjk
  unfold ofV
  rw [e]
theorem nameV_K {k : Nat} (h : k < 42) : nameV (300 + (k : Int)) = nmK k := by
  unfold nameV
  rw [if_neg (by omega), nmF_yes (isN_of h)]
  rfl
theorem bytes_ne {q s : ByteArray} (h : ¬ q = s) : (q.toList == s.toList) = false := by
  rw [ByteArray.toList_eq, ByteArray.toList_eq, beq_eq_false_iff_ne]
  intro e
  apply h
  cases q
  cases s
  simp only [Array.toList_inj] at e
  rw [e]
theorem int_eq {k : IntKind} {a b : Int} (h : a = b) : Value.int k a = .int k b := by rw [h]
set_option maxRecDepth 20000 in
theorem of_any (s : ByteArray) (w : World) (hg : Et w) :
    Calls Tryd.prog 5 #[.string s] w fun r w' => r = .returned (.tuple #[.int .i64 (ofV s).1, .bool (ofV s).2]) ∧ Below w.heap.size w w' := by
  have K := (show Hid (∀ k : Nat, k < 42 → ∀ W, Et W → Calls Tryd.prog 7 #[.int .i64 (300 + (k : Int))] W fun r w' => r = .returned (.string (nmK k)) ∧ Below W.heap.size W w') from fun k hk W hW => by
    have h := name_any (300 + (k : Int)) W hW
    rw [nameV_K hk] at h
    exact h)
  have HG : Hid (Et w) := hg
  clear hg
  go_enter Tryd.func5, Tryd.ntmps5
  go_wp2
  go_loopw [4] (fun v wx => ∃ k : Nat, k ≤ 42 ∧ v = .int .i64 (300 + (k : Int)) ∧ (∀ j < k, nmK j ≠ s) ∧ Below w.heap.size w wx) (fun v _ => 342 - (intOf v).toNat)
  case atStart => exact ⟨0, by omega, rfl, by omega, Below.refl _ _⟩
  case round =>
    obtain ⟨k, hk, rfl, hj, hb⟩ := hrel
    have H : Hid ((∀ j < k, nmK j ≠ s) ∧ Below w.heap.size w wr) := ⟨hj, hb⟩
    clear hj hb
    by_cases hlt : k < 42
    · have K1 := K.out k hlt wr (HG.out.below H.out.2)
      by_cases hq : nmK k = s
      · have HV : Hid (ofV s = (300 + (k : Int), true)) := ofV_hit hlt hq H.out.1
        rw [hq] at K1
        clear hq
        go_wp2_with fail
        refine K1.mono ?_
        rintro r w1 ⟨rfl, hb⟩
        have H1 : Hid (Below w.heap.size w w1) := H.out.2.trans (hb.mono H.out.2.size)
        clear hb K1
        go_wp2
        go_ret2
        exact ⟨by rw [HV.out]; rfl, H1.out⟩
      · have HN : Hid (∀ j < k + 1, nmK j ≠ s) := fun j h => by
          rcases Nat.lt_succ_iff_lt_or_eq.1 h with h | rfl
          · exact H.out.1 j h
          · exact hq
        generalize nmK k = q at K1 hq
        go_wp2_with fail
        refine K1.mono ?_
        rintro r w1 ⟨rfl, hb⟩
        have H1 : Hid (Below w.heap.size w w1) := H.out.2.trans (hb.mono H.out.2.size)
        clear hb K1
        have hqf := bytes_ne hq
        go_wp2
        exact ⟨⟨k + 1, by omega, int_eq (by omega), HN.out, H1.out⟩, by simp only [intOf]; omega⟩
    · obtain rfl : k = 42 := by omega
      have HV : Hid (ofV s = (0, false)) := ofV_miss H.out.1
      go_wp2
      go_ret2
      exact ⟨by rw [HV.out]; rfl, H.out.2⟩

set_option maxRecDepth 20000 in
theorem rof_any (s : ByteArray) (w : World) :
    Calls Tryd.prog 6 #[.string s] w fun r w' => r = .returned (.tuple #[.int .i64 (ofV s).1, .bool (ofV s).2]) ∧ Below w.heap.size w w' := by
  have K := (show Hid (Calls Tryd.prog 19 #[] w fun r w' => r = .returned (.slice (some ⟨w.heap.size, 0, none⟩) 42 42) ∧ (∀ k < 42, w'.cell? ⟨w.heap.size, k, none⟩ = some (.string (nmK k))) ∧ Below w.heap.size w w') from (names_any w).mono (by
    rintro r w' ⟨rfl, rfl⟩
    exact ⟨rfl, fun k hk => names_cell w k hk, (Below.refl _ _).alloc (Nat.le_refl _) _⟩))
  go_enter Tryd.func6, Tryd.ntmps6
  go_wp2_with fail
  refine K.out.mono ?_
  rintro r w1 ⟨rfl, hc, hb⟩
  have H0 : Hid ((∀ k < 42, w1.cell? ⟨w.heap.size, k, none⟩ = some (.string (nmK k))) ∧ Below w.heap.size w w1) := ⟨hc, hb⟩
  clear hc hb
  go_wp2
  go_loopw [5] (fun v wx => ∃ k : Nat, k ≤ 42 ∧ v = .int .i64 (k : Int) ∧ (∀ j < k, nmK j ≠ s) ∧ wx = w1) (fun v _ => 42 - (intOf v).toNat)
  case atStart => exact ⟨0, by omega, rfl, by omega, rfl⟩
  case round =>
    obtain ⟨k, hk, rfl, hj, rfl⟩ := hrel
    have H : Hid (∀ j < k, nmK j ≠ s) := hj
    clear hj
    by_cases hlt : k < 42
    · have hc := H0.out.1 k hlt
      by_cases hq : nmK k = s
      · have HV : Hid (ofV s = (300 + (k : Int), true)) := ofV_hit hlt hq H.out
        rw [hq] at hc
        clear hq
        go_wp2
        go_ret2
        exact ⟨by rw [HV.out]; rfl, H0.out.2⟩
      · have HN : Hid (∀ j < k + 1, nmK j ≠ s) := fun j h => by
          rcases Nat.lt_succ_iff_lt_or_eq.1 h with h | rfl
          · exact H.out j h
          · exact hq
        generalize nmK k = q at hc hq
        have hqf := bytes_ne hq
        go_wp2
        exact ⟨⟨k + 1, by omega, int_eq (by omega), HN.out, trivial⟩, by simp only [intOf]; omega⟩
    · obtain rfl : k = 42 := by omega
      have HV : Hid (ofV s = (0, false)) := ofV_miss H.out
      go_wp2
      go_ret2
      exact ⟨by rw [HV.out]; rfl, H0.out.2⟩
end Go.Proofs.YtlaahendcdifgaaDoor

/-
  The document's Device.
-/
import Derived.Test.YtlaahendcdifgaaDoorRfN
namespace Go.Proofs.YtlaahendcdifgaaDoor
open Go.RowKit

theorem ret_int {k : IntKind} {a b : Int} (h : a = b) : Ending.returned (.int k a) = .returned (.int k b) := by rw [h]
theorem ret_ib {k : IntKind} {a b : Int} {p q : Bool} (h : a = b) (g : p = q) : Ending.returned (.tuple #[.int k a, .bool p]) = .returned (.tuple #[.int k b, .bool q]) := by rw [h, g]
theorem ret_bool {p q : Bool} (g : p = q) : Ending.returned (.bool p) = .returned (.bool q) := by rw [g]

set_option maxRecDepth 20000 in
theorem rdev_any (e : Int) (w : World) :
    Calls Tryd.prog 12 #[.int .i64 e] w fun r w' => r = .returned (.int .i64 (devV e)) ∧ Below w.heap.size w w' := by
  have K := (show Hid (∀ W, Calls Tryd.prog 22 #[] W fun r w' => r = .returned (.int .i64 42) ∧ Below W.heap.size W w') from count_any)
  have g : Hid (devV e = if e = 60 ∨ e = 61 then 334 else if e = 0 ∨ (300 ≤ e ∧ e < 342) then e else 336) := by
    show devV e = _
    unfold devV nmF isN
    simp only [decide_eq_true_eq]
    split
    · rename_i h
      subst h
      simp
    · split
      · rfl
      · split
        · rw [if_pos (by omega)]
        · rw [if_neg (by omega)]
  go_enter Tryd.func12, Tryd.ntmps12
  go_wp2_with fail
  · go_ret
    exact ⟨ret_int ((by rw [g.out, if_pos (by omega)])), Below.refl _ _⟩
  · simp only [beq_iff_eq] at *
    go_ret
    exact ⟨ret_int ((by rw [g.out, if_pos (by omega)])), Below.refl _ _⟩
  · simp only [beq_eq_false_iff_ne, ne_eq] at *
    go_ret
    exact ⟨ret_int ((by rw [g.out, if_neg (by omega), if_pos (by omega)]; omega)), Below.refl _ _⟩
  · refine (K.out _).mono ?_
    rintro r w1 ⟨rfl, hb⟩
    have H : Hid (Below w.heap.size w w1) := hb
    clear hb
    go_wp2
    all_goals
      simp only [beq_iff_eq, beq_eq_false_iff_ne, ne_eq] at *
      go_ret
      refine ⟨ret_int ?_, H.out⟩
      rw [g.out, if_neg (by omega)]
      by_cases hh : e < 342
      · rw [if_pos (by omega)]
        try omega
      · rw [if_neg (by omega)]
        try omega
  · simp only [beq_eq_false_iff_ne, ne_eq] at *
    go_ret
    exact ⟨ret_int ((by rw [g.out, if_neg (by omega), if_neg (by omega)])), Below.refl _ _⟩
end Go.Proofs.YtlaahendcdifgaaDoor

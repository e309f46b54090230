/-
  The table of the errors that have names; fault.find and what follows it.
-/
import Derived.Test.YtlaahendcdifgaaDoorAsC
namespace Go.Proofs.YtlaahendcdifgaaDoor
open Go.RowKit

def nmL : List (ByteArray × Int) := [(⟨#[65, 99, 99, 101, 115, 115, 68, 101, 110, 105, 101, 100]⟩, 403), (⟨#[83, 105, 103, 110, 97, 116, 117, 114, 101, 68, 111, 101, 115, 78, 111, 116, 77, 97, 116, 99, 104]⟩, 403), (⟨#[73, 110, 118, 97, 108, 105, 100, 65, 99, 99, 101, 115, 115, 75, 101, 121, 73, 100]⟩, 403), (⟨#[82, 101, 113, 117, 101, 115, 116, 84, 105, 109, 101, 84, 111, 111, 83, 107, 101, 119, 101, 100]⟩, 403), (⟨#[65, 117, 116, 104, 111, 114, 105, 122, 97, 116, 105, 111, 110, 72, 101, 97, 100, 101, 114, 77, 97, 108, 102, 111, 114, 109, 101, 100]⟩, 400), (⟨#[88, 65, 109, 122, 67, 111, 110, 116, 101, 110, 116, 83, 72, 65, 50, 53, 54, 77, 105, 115, 109, 97, 116, 99, 104]⟩, 400), (⟨#[65, 99, 99, 101, 115, 115, 70, 111, 114, 98, 105, 100, 100, 101, 110]⟩, 403), (⟨#[73, 110, 99, 111, 109, 112, 108, 101, 116, 101, 66, 111, 100, 121]⟩, 400), (⟨#[66, 97, 100, 82, 101, 113, 117, 101, 115, 116]⟩, 400), (⟨#[77, 101, 116, 104, 111, 100, 78, 111, 116, 65, 108, 108, 111, 119, 101, 100]⟩, 405), (⟨#[78, 111, 83, 117, 99, 104, 66, 117, 99, 107, 101, 116]⟩, 404), (⟨#[78, 111, 83, 117, 99, 104, 75, 101, 121]⟩, 404), (⟨#[78, 111, 83, 117, 99, 104, 86, 101, 114, 115, 105, 111, 110]⟩, 404), (⟨#[78, 111, 83, 117, 99, 104, 85, 112, 108, 111, 97, 100]⟩, 404), (⟨#[78, 111, 83, 117, 99, 104, 67, 79, 82, 83, 67, 111, 110, 102, 105, 103, 117, 114, 97, 116, 105, 111, 110]⟩, 404), (⟨#[78, 111, 83, 117, 99, 104, 84, 97, 103, 83, 101, 116]⟩, 404), (⟨#[66, 117, 99, 107, 101, 116, 65, 108, 114, 101, 97, 100, 121, 79, 119, 110, 101, 100, 66, 121, 89, 111, 117]⟩, 409), (⟨#[66, 117, 99, 107, 101, 116, 78, 111, 116, 69, 109, 112, 116, 121]⟩, 409), (⟨#[73, 110, 118, 97, 108, 105, 100, 66, 117, 99, 107, 101, 116, 78, 97, 109, 101]⟩, 400), (⟨#[73, 110, 118, 97, 108, 105, 100, 65, 114, 103, 117, 109, 101, 110, 116]⟩, 400), (⟨#[73, 110, 118, 97, 108, 105, 100, 82, 97, 110, 103, 101]⟩, 416), (⟨#[73, 110, 118, 97, 108, 105, 100, 80, 97, 114, 116]⟩, 400), (⟨#[73, 110, 118, 97, 108, 105, 100, 80, 97, 114, 116, 79, 114, 100, 101, 114]⟩, 400), (⟨#[69, 110, 116, 105, 116, 121, 84, 111, 111, 83, 109, 97, 108, 108]⟩, 400), (⟨#[69, 110, 116, 105, 116, 121, 84, 111, 111, 76, 97, 114, 103, 101]⟩, 400), (⟨#[75, 101, 121, 84, 111, 111, 76, 111, 110, 103, 69, 114, 114, 111, 114]⟩, 400), (⟨#[77, 97, 108, 102, 111, 114, 109, 101, 100, 88, 77, 76]⟩, 400), (⟨#[80, 114, 101, 99, 111, 110, 100, 105, 116, 105, 111, 110, 70, 97, 105, 108, 101, 100]⟩, 412), (⟨#[78, 111, 116, 77, 111, 100, 105, 102, 105, 101, 100]⟩, 304), (⟨#[66, 97, 100, 68, 105, 103, 101, 115, 116]⟩, 400), (⟨#[73, 110, 118, 97, 108, 105, 100, 68, 105, 103, 101, 115, 116]⟩, 400), (⟨#[73, 110, 118, 97, 108, 105, 100, 85, 82, 73]⟩, 400), (⟨#[73, 110, 118, 97, 108, 105, 100, 82, 101, 113, 117, 101, 115, 116]⟩, 400), (⟨#[73, 110, 118, 97, 108, 105, 100, 84, 97, 103]⟩, 400), (⟨#[83, 108, 111, 119, 68, 111, 119, 110]⟩, 503), (⟨#[78, 111, 116, 73, 109, 112, 108, 101, 109, 101, 110, 116, 101, 100]⟩, 501), (⟨#[73, 110, 116, 101, 114, 110, 97, 108, 69, 114, 114, 111, 114]⟩, 500), (⟨#[69, 120, 112, 101, 99, 116, 97, 116, 105, 111, 110, 70, 97, 105, 108, 101, 100]⟩, 417), (⟨#[82, 101, 113, 117, 101, 115, 116, 85, 82, 73, 84, 111, 111, 76, 111, 110, 103]⟩, 414), (⟨#[82, 101, 113, 117, 101, 115, 116, 72, 101, 97, 100, 101, 114, 83, 101, 99, 116, 105, 111, 110, 84, 111, 111, 76, 97, 114, 103, 101]⟩, 431), (⟨#[72, 84, 84, 80, 86, 101, 114, 115, 105, 111, 110, 78, 111, 116, 83, 117, 112, 112, 111, 114, 116, 101, 100]⟩, 505), (⟨#[84, 111, 111, 77, 97, 110, 121, 66, 117, 99, 107, 101, 116, 115]⟩, 400)]
def nmR (e : Int) : ByteArray × Int := nmL.getD (e - 300).toNat (⟨#[]⟩, 0)
def isN (e : Int) : Bool := decide (300 ≤ e ∧ e ≤ 341)
def fndV (e : Int) : Value := if isN e then .iface 50 (.agg #[.int .i64 e, .string (nmR e).1, .int .i64 (nmR e).2]) else .iface 22 (.int .i64 e)

set_option maxRecDepth 20000 in
theorem find340 (e : Int) (w : World) (h : ¬ (300 ≤ e ∧ e < 340)) :
    Calls Tryd.prog 37 #[.int .i64 e] w fun r w' => r = .returned (fndV e) ∧ w' = w := by
  have g0 : Hid (e = 340 → fndV e = .iface 50 (.agg #[.int .i64 e, .string ⟨#[72, 84, 84, 80, 86, 101, 114, 115, 105, 111, 110, 78, 111, 116, 83, 117, 112, 112, 111, 114, 116, 101, 100]⟩, .int .i64 505])) := fun g => by subst g; rfl
  have g1 : Hid (e = 341 → fndV e = .iface 50 (.agg #[.int .i64 e, .string ⟨#[84, 111, 111, 77, 97, 110, 121, 66, 117, 99, 107, 101, 116, 115]⟩, .int .i64 400])) := fun g => by subst g; rfl
  go_enter Tryd.func37, Tryd.ntmps37
  go_wp2_with fail
  · rename_i hx
    have hx' := eq_of_beq hx
    go_ret
    exact ⟨congrArg Ending.returned (g0.out hx').symm, rfl⟩
  · rename_i hx
    have hx' := eq_of_beq hx
    go_ret
    exact ⟨congrArg Ending.returned (g1.out hx').symm, rfl⟩
  · simp only [beq_eq_false_iff_ne, ne_eq] at *
    have hn : fndV e = .iface 22 (.int .i64 e) := if_neg (by simp only [isN, decide_eq_true_eq]; omega)
    go_ret
    exact ⟨congrArg Ending.returned hn.symm, rfl⟩

set_option maxRecDepth 20000 in
theorem find330 (e : Int) (w : World) (h : ¬ (300 ≤ e ∧ e < 330)) :
    Calls Tryd.prog 36 #[.int .i64 e] w fun r w' => r = .returned (fndV e) ∧ w' = w := by
  have K := (show Hid (¬ (300 ≤ e ∧ e < 340) → ∀ W, Calls Tryd.prog 37 #[.int .i64 e] W fun r w' => r = .returned (fndV e) ∧ w' = W) from fun g W => find340 e W g)
  have g0 : Hid (e = 330 → fndV e = .iface 50 (.agg #[.int .i64 e, .string ⟨#[73, 110, 118, 97, 108, 105, 100, 68, 105, 103, 101, 115, 116]⟩, .int .i64 400])) := fun g => by subst g; rfl
  have g1 : Hid (e = 331 → fndV e = .iface 50 (.agg #[.int .i64 e, .string ⟨#[73, 110, 118, 97, 108, 105, 100, 85, 82, 73]⟩, .int .i64 400])) := fun g => by subst g; rfl
  have g2 : Hid (e = 332 → fndV e = .iface 50 (.agg #[.int .i64 e, .string ⟨#[73, 110, 118, 97, 108, 105, 100, 82, 101, 113, 117, 101, 115, 116]⟩, .int .i64 400])) := fun g => by subst g; rfl
  have g3 : Hid (e = 333 → fndV e = .iface 50 (.agg #[.int .i64 e, .string ⟨#[73, 110, 118, 97, 108, 105, 100, 84, 97, 103]⟩, .int .i64 400])) := fun g => by subst g; rfl
  have g4 : Hid (e = 334 → fndV e = .iface 50 (.agg #[.int .i64 e, .string ⟨#[83, 108, 111, 119, 68, 111, 119, 110]⟩, .int .i64 503])) := fun g => by subst g; rfl
  have g5 : Hid (e = 335 → fndV e = .iface 50 (.agg #[.int .i64 e, .string ⟨#[78, 111, 116, 73, 109, 112, 108, 101, 109, 101, 110, 116, 101, 100]⟩, .int .i64 501])) := fun g => by subst g; rfl
  have g6 : Hid (e = 336 → fndV e = .iface 50 (.agg #[.int .i64 e, .string ⟨#[73, 110, 116, 101, 114, 110, 97, 108, 69, 114, 114, 111, 114]⟩, .int .i64 500])) := fun g => by subst g; rfl
  have g7 : Hid (e = 337 → fndV e = .iface 50 (.agg #[.int .i64 e, .string ⟨#[69, 120, 112, 101, 99, 116, 97, 116, 105, 111, 110, 70, 97, 105, 108, 101, 100]⟩, .int .i64 417])) := fun g => by subst g; rfl
  have g8 : Hid (e = 338 → fndV e = .iface 50 (.agg #[.int .i64 e, .string ⟨#[82, 101, 113, 117, 101, 115, 116, 85, 82, 73, 84, 111, 111, 76, 111, 110, 103]⟩, .int .i64 414])) := fun g => by subst g; rfl
  have g9 : Hid (e = 339 → fndV e = .iface 50 (.agg #[.int .i64 e, .string ⟨#[82, 101, 113, 117, 101, 115, 116, 72, 101, 97, 100, 101, 114, 83, 101, 99, 116, 105, 111, 110, 84, 111, 111, 76, 97, 114, 103, 101]⟩, .int .i64 431])) := fun g => by subst g; rfl
  go_enter Tryd.func36, Tryd.ntmps36
  go_wp2_with fail
  · rename_i hx
    have hx' := eq_of_beq hx
    go_ret
    exact ⟨congrArg Ending.returned (g0.out hx').symm, rfl⟩
  · rename_i hx
    have hx' := eq_of_beq hx
    go_ret
    exact ⟨congrArg Ending.returned (g1.out hx').symm, rfl⟩
  · rename_i hx
    have hx' := eq_of_beq hx
    go_ret
    exact ⟨congrArg Ending.returned (g2.out hx').symm, rfl⟩
  · rename_i hx
    have hx' := eq_of_beq hx
    go_ret
    exact ⟨congrArg Ending.returned (g3.out hx').symm, rfl⟩
  · rename_i hx
    have hx' := eq_of_beq hx
    go_ret
    exact ⟨congrArg Ending.returned (g4.out hx').symm, rfl⟩
  · rename_i hx
    have hx' := eq_of_beq hx
    go_ret
    exact ⟨congrArg Ending.returned (g5.out hx').symm, rfl⟩
  · rename_i hx
    have hx' := eq_of_beq hx
    go_ret
    exact ⟨congrArg Ending.returned (g6.out hx').symm, rfl⟩
  · rename_i hx
    have hx' := eq_of_beq hx
    go_ret
    exact ⟨congrArg Ending.returned (g7.out hx').symm, rfl⟩
  · rename_i hx
    have hx' := eq_of_beq hx
    go_ret
    exact ⟨congrArg Ending.returned (g8.out hx').symm, rfl⟩
  · rename_i hx
    have hx' := eq_of_beq hx
    go_ret
    exact ⟨congrArg Ending.returned (g9.out hx').symm, rfl⟩
  · simp only [beq_eq_false_iff_ne, ne_eq] at *
    refine (K.out (by omega) _).mono ?_
    rintro r w' ⟨rfl, rfl⟩
    go_wp2
    go_ret
    exact ⟨rfl, rfl⟩

set_option maxRecDepth 20000 in
theorem find320 (e : Int) (w : World) (h : ¬ (300 ≤ e ∧ e < 320)) :
    Calls Tryd.prog 35 #[.int .i64 e] w fun r w' => r = .returned (fndV e) ∧ w' = w := by
  have K := (show Hid (¬ (300 ≤ e ∧ e < 330) → ∀ W, Calls Tryd.prog 36 #[.int .i64 e] W fun r w' => r = .returned (fndV e) ∧ w' = W) from fun g W => find330 e W g)
  have g0 : Hid (e = 320 → fndV e = .iface 50 (.agg #[.int .i64 e, .string ⟨#[73, 110, 118, 97, 108, 105, 100, 82, 97, 110, 103, 101]⟩, .int .i64 416])) := fun g => by subst g; rfl
  have g1 : Hid (e = 321 → fndV e = .iface 50 (.agg #[.int .i64 e, .string ⟨#[73, 110, 118, 97, 108, 105, 100, 80, 97, 114, 116]⟩, .int .i64 400])) := fun g => by subst g; rfl
  have g2 : Hid (e = 322 → fndV e = .iface 50 (.agg #[.int .i64 e, .string ⟨#[73, 110, 118, 97, 108, 105, 100, 80, 97, 114, 116, 79, 114, 100, 101, 114]⟩, .int .i64 400])) := fun g => by subst g; rfl
  have g3 : Hid (e = 323 → fndV e = .iface 50 (.agg #[.int .i64 e, .string ⟨#[69, 110, 116, 105, 116, 121, 84, 111, 111, 83, 109, 97, 108, 108]⟩, .int .i64 400])) := fun g => by subst g; rfl
  have g4 : Hid (e = 324 → fndV e = .iface 50 (.agg #[.int .i64 e, .string ⟨#[69, 110, 116, 105, 116, 121, 84, 111, 111, 76, 97, 114, 103, 101]⟩, .int .i64 400])) := fun g => by subst g; rfl
  have g5 : Hid (e = 325 → fndV e = .iface 50 (.agg #[.int .i64 e, .string ⟨#[75, 101, 121, 84, 111, 111, 76, 111, 110, 103, 69, 114, 114, 111, 114]⟩, .int .i64 400])) := fun g => by subst g; rfl
  have g6 : Hid (e = 326 → fndV e = .iface 50 (.agg #[.int .i64 e, .string ⟨#[77, 97, 108, 102, 111, 114, 109, 101, 100, 88, 77, 76]⟩, .int .i64 400])) := fun g => by subst g; rfl
  have g7 : Hid (e = 327 → fndV e = .iface 50 (.agg #[.int .i64 e, .string ⟨#[80, 114, 101, 99, 111, 110, 100, 105, 116, 105, 111, 110, 70, 97, 105, 108, 101, 100]⟩, .int .i64 412])) := fun g => by subst g; rfl
  have g8 : Hid (e = 328 → fndV e = .iface 50 (.agg #[.int .i64 e, .string ⟨#[78, 111, 116, 77, 111, 100, 105, 102, 105, 101, 100]⟩, .int .i64 304])) := fun g => by subst g; rfl
  have g9 : Hid (e = 329 → fndV e = .iface 50 (.agg #[.int .i64 e, .string ⟨#[66, 97, 100, 68, 105, 103, 101, 115, 116]⟩, .int .i64 400])) := fun g => by subst g; rfl
  go_enter Tryd.func35, Tryd.ntmps35
  go_wp2_with fail
  · rename_i hx
    have hx' := eq_of_beq hx
    go_ret
    exact ⟨congrArg Ending.returned (g0.out hx').symm, rfl⟩
  · rename_i hx
    have hx' := eq_of_beq hx
    go_ret
    exact ⟨congrArg Ending.returned (g1.out hx').symm, rfl⟩
  · rename_i hx
    have hx' := eq_of_beq hx
    go_ret
    exact ⟨congrArg Ending.returned (g2.out hx').symm, rfl⟩
  · rename_i hx
    have hx' := eq_of_beq hx
    go_ret
    exact ⟨congrArg Ending.returned (g3.out hx').symm, rfl⟩
  · rename_i hx
    have hx' := eq_of_beq hx
    go_ret
    exact ⟨congrArg Ending.returned (g4.out hx').symm, rfl⟩
  · rename_i hx
    have hx' := eq_of_beq hx
    go_ret
    exact ⟨congrArg Ending.returned (g5.out hx').symm, rfl⟩
  · rename_i hx
    have hx' := eq_of_beq hx
    go_ret
    exact ⟨congrArg Ending.returned (g6.out hx').symm, rfl⟩
  · rename_i hx
    have hx' := eq_of_beq hx
    go_ret
    exact ⟨congrArg Ending.returned (g7.out hx').symm, rfl⟩
  · rename_i hx
    have hx' := eq_of_beq hx
    go_ret
    exact ⟨congrArg Ending.returned (g8.out hx').symm, rfl⟩
  · rename_i hx
    have hx' := eq_of_beq hx
    go_ret
    exact ⟨congrArg Ending.returned (g9.out hx').symm, rfl⟩
  · simp only [beq_eq_false_iff_ne, ne_eq] at *
    refine (K.out (by omega) _).mono ?_
    rintro r w' ⟨rfl, rfl⟩
    go_wp2
    go_ret
    exact ⟨rfl, rfl⟩

set_option maxRecDepth 20000 in
theorem find310 (e : Int) (w : World) (h : ¬ (300 ≤ e ∧ e < 310)) :
    Calls Tryd.prog 31 #[.int .i64 e] w fun r w' => r = .returned (fndV e) ∧ w' = w := by
  have K := (show Hid (¬ (300 ≤ e ∧ e < 320) → ∀ W, Calls Tryd.prog 35 #[.int .i64 e] W fun r w' => r = .returned (fndV e) ∧ w' = W) from fun g W => find320 e W g)
  have g0 : Hid (e = 310 → fndV e = .iface 50 (.agg #[.int .i64 e, .string ⟨#[78, 111, 83, 117, 99, 104, 66, 117, 99, 107, 101, 116]⟩, .int .i64 404])) := fun g => by subst g; rfl
  have g1 : Hid (e = 311 → fndV e = .iface 50 (.agg #[.int .i64 e, .string ⟨#[78, 111, 83, 117, 99, 104, 75, 101, 121]⟩, .int .i64 404])) := fun g => by subst g; rfl
  have g2 : Hid (e = 312 → fndV e = .iface 50 (.agg #[.int .i64 e, .string ⟨#[78, 111, 83, 117, 99, 104, 86, 101, 114, 115, 105, 111, 110]⟩, .int .i64 404])) := fun g => by subst g; rfl
  have g3 : Hid (e = 313 → fndV e = .iface 50 (.agg #[.int .i64 e, .string ⟨#[78, 111, 83, 117, 99, 104, 85, 112, 108, 111, 97, 100]⟩, .int .i64 404])) := fun g => by subst g; rfl
  have g4 : Hid (e = 314 → fndV e = .iface 50 (.agg #[.int .i64 e, .string ⟨#[78, 111, 83, 117, 99, 104, 67, 79, 82, 83, 67, 111, 110, 102, 105, 103, 117, 114, 97, 116, 105, 111, 110]⟩, .int .i64 404])) := fun g => by subst g; rfl
  have g5 : Hid (e = 315 → fndV e = .iface 50 (.agg #[.int .i64 e, .string ⟨#[78, 111, 83, 117, 99, 104, 84, 97, 103, 83, 101, 116]⟩, .int .i64 404])) := fun g => by subst g; rfl
  have g6 : Hid (e = 316 → fndV e = .iface 50 (.agg #[.int .i64 e, .string ⟨#[66, 117, 99, 107, 101, 116, 65, 108, 114, 101, 97, 100, 121, 79, 119, 110, 101, 100, 66, 121, 89, 111, 117]⟩, .int .i64 409])) := fun g => by subst g; rfl
  have g7 : Hid (e = 317 → fndV e = .iface 50 (.agg #[.int .i64 e, .string ⟨#[66, 117, 99, 107, 101, 116, 78, 111, 116, 69, 109, 112, 116, 121]⟩, .int .i64 409])) := fun g => by subst g; rfl
  have g8 : Hid (e = 318 → fndV e = .iface 50 (.agg #[.int .i64 e, .string ⟨#[73, 110, 118, 97, 108, 105, 100, 66, 117, 99, 107, 101, 116, 78, 97, 109, 101]⟩, .int .i64 400])) := fun g => by subst g; rfl
  have g9 : Hid (e = 319 → fndV e = .iface 50 (.agg #[.int .i64 e, .string ⟨#[73, 110, 118, 97, 108, 105, 100, 65, 114, 103, 117, 109, 101, 110, 116]⟩, .int .i64 400])) := fun g => by subst g; rfl
  go_enter Tryd.func31, Tryd.ntmps31
  go_wp2_with fail
  · rename_i hx
    have hx' := eq_of_beq hx
    go_ret
    exact ⟨congrArg Ending.returned (g0.out hx').symm, rfl⟩
  · rename_i hx
    have hx' := eq_of_beq hx
    go_ret
    exact ⟨congrArg Ending.returned (g1.out hx').symm, rfl⟩
  · rename_i hx
    have hx' := eq_of_beq hx
    go_ret
    exact ⟨congrArg Ending.returned (g2.out hx').symm, rfl⟩
  · rename_i hx
    have hx' := eq_of_beq hx
    go_ret
    exact ⟨congrArg Ending.returned (g3.out hx').symm, rfl⟩
  · rename_i hx
    have hx' := eq_of_beq hx
    go_ret
    exact ⟨congrArg Ending.returned (g4.out hx').symm, rfl⟩
  · rename_i hx
    have hx' := eq_of_beq hx
    go_ret
    exact ⟨congrArg Ending.returned (g5.out hx').symm, rfl⟩
  · rename_i hx
    have hx' := eq_of_beq hx
    go_ret
    exact ⟨congrArg Ending.returned (g6.out hx').symm, rfl⟩
  · rename_i hx
    have hx' := eq_of_beq hx
    go_ret
    exact ⟨congrArg Ending.returned (g7.out hx').symm, rfl⟩
  · rename_i hx
    have hx' := eq_of_beq hx
    go_ret
    exact ⟨congrArg Ending.returned (g8.out hx').symm, rfl⟩
  · rename_i hx
    have hx' := eq_of_beq hx
    go_ret
    exact ⟨congrArg Ending.returned (g9.out hx').symm, rfl⟩
  · simp only [beq_eq_false_iff_ne, ne_eq] at *
    refine (K.out (by omega) _).mono ?_
    rintro r w' ⟨rfl, rfl⟩
    go_wp2
    go_ret
    exact ⟨rfl, rfl⟩

set_option maxRecDepth 20000 in
theorem find300 (e : Int) (w : World) (h : ¬ (300 ≤ e ∧ e < 300)) :
    Calls Tryd.prog 26 #[.int .i64 e] w fun r w' => r = .returned (fndV e) ∧ w' = w := by
  have K := (show Hid (¬ (300 ≤ e ∧ e < 310) → ∀ W, Calls Tryd.prog 31 #[.int .i64 e] W fun r w' => r = .returned (fndV e) ∧ w' = W) from fun g W => find310 e W g)
  have g0 : Hid (e = 300 → fndV e = .iface 50 (.agg #[.int .i64 e, .string ⟨#[65, 99, 99, 101, 115, 115, 68, 101, 110, 105, 101, 100]⟩, .int .i64 403])) := fun g => by subst g; rfl
  have g1 : Hid (e = 301 → fndV e = .iface 50 (.agg #[.int .i64 e, .string ⟨#[83, 105, 103, 110, 97, 116, 117, 114, 101, 68, 111, 101, 115, 78, 111, 116, 77, 97, 116, 99, 104]⟩, .int .i64 403])) := fun g => by subst g; rfl
  have g2 : Hid (e = 302 → fndV e = .iface 50 (.agg #[.int .i64 e, .string ⟨#[73, 110, 118, 97, 108, 105, 100, 65, 99, 99, 101, 115, 115, 75, 101, 121, 73, 100]⟩, .int .i64 403])) := fun g => by subst g; rfl
  have g3 : Hid (e = 303 → fndV e = .iface 50 (.agg #[.int .i64 e, .string ⟨#[82, 101, 113, 117, 101, 115, 116, 84, 105, 109, 101, 84, 111, 111, 83, 107, 101, 119, 101, 100]⟩, .int .i64 403])) := fun g => by subst g; rfl
  have g4 : Hid (e = 304 → fndV e = .iface 50 (.agg #[.int .i64 e, .string ⟨#[65, 117, 116, 104, 111, 114, 105, 122, 97, 116, 105, 111, 110, 72, 101, 97, 100, 101, 114, 77, 97, 108, 102, 111, 114, 109, 101, 100]⟩, .int .i64 400])) := fun g => by subst g; rfl
  have g5 : Hid (e = 305 → fndV e = .iface 50 (.agg #[.int .i64 e, .string ⟨#[88, 65, 109, 122, 67, 111, 110, 116, 101, 110, 116, 83, 72, 65, 50, 53, 54, 77, 105, 115, 109, 97, 116, 99, 104]⟩, .int .i64 400])) := fun g => by subst g; rfl
  have g6 : Hid (e = 306 → fndV e = .iface 50 (.agg #[.int .i64 e, .string ⟨#[65, 99, 99, 101, 115, 115, 70, 111, 114, 98, 105, 100, 100, 101, 110]⟩, .int .i64 403])) := fun g => by subst g; rfl
  have g7 : Hid (e = 307 → fndV e = .iface 50 (.agg #[.int .i64 e, .string ⟨#[73, 110, 99, 111, 109, 112, 108, 101, 116, 101, 66, 111, 100, 121]⟩, .int .i64 400])) := fun g => by subst g; rfl
  have g8 : Hid (e = 308 → fndV e = .iface 50 (.agg #[.int .i64 e, .string ⟨#[66, 97, 100, 82, 101, 113, 117, 101, 115, 116]⟩, .int .i64 400])) := fun g => by subst g; rfl
  have g9 : Hid (e = 309 → fndV e = .iface 50 (.agg #[.int .i64 e, .string ⟨#[77, 101, 116, 104, 111, 100, 78, 111, 116, 65, 108, 108, 111, 119, 101, 100]⟩, .int .i64 405])) := fun g => by subst g; rfl
  go_enter Tryd.func26, Tryd.ntmps26
  go_wp2_with fail
  · rename_i hx
    have hx' := eq_of_beq hx
    go_ret
    exact ⟨congrArg Ending.returned (g0.out hx').symm, rfl⟩
  · rename_i hx
    have hx' := eq_of_beq hx
    go_ret
    exact ⟨congrArg Ending.returned (g1.out hx').symm, rfl⟩
  · rename_i hx
    have hx' := eq_of_beq hx
    go_ret
    exact ⟨congrArg Ending.returned (g2.out hx').symm, rfl⟩
  · rename_i hx
    have hx' := eq_of_beq hx
    go_ret
    exact ⟨congrArg Ending.returned (g3.out hx').symm, rfl⟩
  · rename_i hx
    have hx' := eq_of_beq hx
    go_ret
    exact ⟨congrArg Ending.returned (g4.out hx').symm, rfl⟩
  · rename_i hx
    have hx' := eq_of_beq hx
    go_ret
    exact ⟨congrArg Ending.returned (g5.out hx').symm, rfl⟩
  · rename_i hx
    have hx' := eq_of_beq hx
    go_ret
    exact ⟨congrArg Ending.returned (g6.out hx').symm, rfl⟩
  · rename_i hx
    have hx' := eq_of_beq hx
    go_ret
    exact ⟨congrArg Ending.returned (g7.out hx').symm, rfl⟩
  · rename_i hx
    have hx' := eq_of_beq hx
    go_ret
    exact ⟨congrArg Ending.returned (g8.out hx').symm, rfl⟩
  · rename_i hx
    have hx' := eq_of_beq hx
    go_ret
    exact ⟨congrArg Ending.returned (g9.out hx').symm, rfl⟩
  · simp only [beq_eq_false_iff_ne, ne_eq] at *
    refine (K.out (by omega) _).mono ?_
    rintro r w' ⟨rfl, rfl⟩
    go_wp2
    go_ret
    exact ⟨rfl, rfl⟩
end Go.Proofs.YtlaahendcdifgaaDoor

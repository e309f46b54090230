/-
  A scope that is left by jumps ahead to one label: what stands behind the label is walked anew at each jump.
-/
import Derived.Test.YtohkocknpmnakaaGreatDoorRdC
import Derived.ScopeJumps
namespace Go.Proofs.YtohkocknpmnakaaGreatDoor
open Go.RowKit

section
variable {P : Program} {a : Act} {w : World} {Q : Exit → Act → World → Prop}
/-- As Q; by a goto to label l: what is left holds there, without another goto. -/
def Jmp (P : Program) (l : Nat) (rest : Code) (Q : Exit → Act → World → Prop) : Exit → Act → World → Prop
  | .goto l', a, w => l' = l ∧ rest.wp P (Exit.noGoto Q) a w
  | e, a, w => Q e a w
theorem Jmp_normal (l : Nat) (rest : Code) : Jmp P l rest Q .normal a w = Q .normal a w := rfl
theorem Jmp_exit (l : Nat) (rest : Code) (id : Nat) : Jmp P l rest Q (.exit id) a w = Q (.exit id) a w := rfl
theorem Jmp_ret (l : Nat) (rest : Code) : Jmp P l rest Q .ret a w = Q .ret a w := rfl
theorem Jmp_panic (l : Nat) (rest : Code) (ch : List PanicEntry) : Jmp P l rest Q (.panic ch) a w = Q (.panic ch) a w := rfl
theorem Jmp_goto (l : Nat) (rest : Code) : Jmp P l rest Q (.goto l) a w = (l = l ∧ rest.wp P (Exit.noGoto Q) a w) := rfl
theorem jump_mono {J : Act → World → Prop} {l : Nat} {e : Exit} {a : Act} {w : World} (h : Exit.noGoto Q e a w) : Exit.jump l J Q e a w := by
  cases e with
  | goto l' => exact h.elim
  | normal => exact h
  | exit id => exact h
  | ret => exact h
  | panic ch => exact h
  | outgrown => exact h
theorem wp_scope_ahead {c rest : Code} (l : Nat) (hf : findLabel c l = some rest) (h : c.wp P (Jmp P l rest Q) a w) : (Code.scope c).wp P Q a w := by
  refine wp_scope_jumps l (fun a w => rest.wp P (Exit.noGoto Q) a w) (fun _ _ => 0) hf ?_ ?_
  · refine wp_mono h (fun e a w h => ?_)
    cases e with
    | goto l' => exact h
    | normal => exact h
    | exit id => exact h
    | ret => exact h
    | panic ch => exact h
    | outgrown => exact h
  · intro a w h
    exact wp_mono h (fun e a w h => jump_mono h)
end
end Go.Proofs.YtohkocknpmnakaaGreatDoor

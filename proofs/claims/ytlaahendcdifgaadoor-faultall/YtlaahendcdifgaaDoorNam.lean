/-
  fault.Name, Status, Device.
-/
import Derived.Test.YtlaahendcdifgaaDoorTld
namespace Go.Proofs.YtlaahendcdifgaaDoor
open Go.RowKit

theorem Tryd.fld0 (a b : Int) (s : ByteArray) (W : World) : (Instr.field 50 (.agg #[.int .i64 a, .string s, .int .i64 b]) 0).run Tryd.prog W = .ok (.int .i64 a) W := by kernel_rfl
theorem Tryd.fld1 (a b : Int) (s : ByteArray) (W : World) : (Instr.field 50 (.agg #[.int .i64 a, .string s, .int .i64 b]) 1).run Tryd.prog W = .ok (.string s) W := by kernel_rfl
theorem Tryd.fld2 (a b : Int) (s : ByteArray) (W : World) : (Instr.field 50 (.agg #[.int .i64 a, .string s, .int .i64 b]) 2).run Tryd.prog W = .ok (.int .i64 b) W := by kernel_rfl
def nameV (e : Int) : ByteArray := if e = 0 then ⟨#[]⟩ else (nmF e).2.1
def statV (e : Int) : Int := if e = 0 then 200 else (nmF e).2.2
def devV (e : Int) : Int := if e = 0 then 0 else if e = 60 ∨ e = 61 then 334 else (nmF e).1

set_option maxRecDepth 20000 in
theorem name_any (e : Int) (w : World) (hg : Et w) :
    Calls Tryd.prog 7 #[.int .i64 e] w fun r w' => r = .returned (.string (nameV e)) ∧ Below w.heap.size w w' := by
  have K := (show Hid (Calls Tryd.prog 20 #[.int .i64 e] w fun r w' => r = .returned (.agg #[.int .i64 (nmF e).1, .string (nmF e).2.1, .int .i64 (nmF e).2.2]) ∧ Below w.heap.size w w') from told_any e w hg)
  have g0 : Hid (e = 0 → nameV e = ⟨#[]⟩) := fun h => if_pos h
  have g1 : Hid (¬ e = 0 → nameV e = (nmF e).2.1) := fun h => if_neg h
  clear hg
  have fl := Tryd.fld1
  go_enter Tryd.func7, Tryd.ntmps7
  go_wp2_with fail
  · rename_i hx
    go_ret
    exact ⟨congrArg _ (congrArg _ (g0.out (eq_of_beq hx)).symm), Below.refl _ _⟩
  · rename_i hx _ _ _ _
    have hx' := g1.out (ne_of_beq_false hx)
    refine K.out.mono ?_
    rintro r w1 ⟨rfl, hb⟩
    have H : Hid (Below w.heap.size w w1) := hb
    clear hb
    go_wp2
    go_ret
    exact ⟨congrArg _ (congrArg _ hx'.symm), H.out⟩

set_option maxRecDepth 20000 in
theorem stat_any (e : Int) (w : World) (hg : Et w) :
    Calls Tryd.prog 9 #[.int .i64 e] w fun r w' => r = .returned (.int .i64 (statV e)) ∧ Below w.heap.size w w' := by
  have K := (show Hid (Calls Tryd.prog 20 #[.int .i64 e] w fun r w' => r = .returned (.agg #[.int .i64 (nmF e).1, .string (nmF e).2.1, .int .i64 (nmF e).2.2]) ∧ Below w.heap.size w w') from told_any e w hg)
  have g0 : Hid (e = 0 → statV e = 200) := fun h => if_pos h
  have g1 : Hid (¬ e = 0 → statV e = (nmF e).2.2) := fun h => if_neg h
  clear hg
  have fl := Tryd.fld2
  go_enter Tryd.func9, Tryd.ntmps9
  go_wp2_with fail
  · rename_i hx
    go_ret
    exact ⟨congrArg _ (congrArg _ (g0.out (eq_of_beq hx)).symm), Below.refl _ _⟩
  · rename_i hx _ _ _ _
    have hx' := g1.out (ne_of_beq_false hx)
    refine K.out.mono ?_
    rintro r w1 ⟨rfl, hb⟩
    have H : Hid (Below w.heap.size w w1) := hb
    clear hb
    go_wp2
    go_ret
    exact ⟨congrArg _ (congrArg _ hx'.symm), H.out⟩

set_option maxRecDepth 20000 in
theorem dev_any (e : Int) (w : World) (hg : Et w) :
    Calls Tryd.prog 11 #[.int .i64 e] w fun r w' => r = .returned (.int .i64 (devV e)) ∧ Below w.heap.size w w' := by
  have K := (show Hid (Calls Tryd.prog 20 #[.int .i64 e] w fun r w' => r = .returned (.agg #[.int .i64 (nmF e).1, .string (nmF e).2.1, .int .i64 (nmF e).2.2]) ∧ Below w.heap.size w w') from told_any e w hg)
  have g0 : Hid (e = 0 → devV e = 0) := fun h => if_pos h
  have g1 : Hid (e = 60 ∨ e = 61 → devV e = 334) := fun h => by unfold devV; rw [if_neg (by omega), if_pos h]
  have g2 : Hid (¬ e = 0 → ¬ e = 60 → ¬ e = 61 → devV e = (nmF e).1) := fun h h1 h2 => by unfold devV; rw [if_neg h, if_neg (by omega)]
  clear hg
  have fl := Tryd.fld0
  go_enter Tryd.func11, Tryd.ntmps11
  go_wp2_with fail
  · rename_i hx
    go_ret
    exact ⟨congrArg _ (congrArg _ (g0.out (eq_of_beq hx)).symm), Below.refl _ _⟩
  · rename_i hx
    go_ret
    exact ⟨congrArg _ (congrArg _ (g1.out (.inl (eq_of_beq hx))).symm), Below.refl _ _⟩
  · rename_i hx
    go_ret
    exact ⟨congrArg _ (congrArg _ (g1.out (.inr (eq_of_beq hx))).symm), Below.refl _ _⟩
  · rename_i h0 h1 h2 _ _ _ _
    have hx' := g2.out (ne_of_beq_false h0) (ne_of_beq_false h1) (ne_of_beq_false h2)
    refine K.out.mono ?_
    rintro r w1 ⟨rfl, hb⟩
    have H : Hid (Below w.heap.size w w1) := hb
    clear hb
    go_wp2
    go_ret
    exact ⟨congrArg _ (congrArg _ hx'.symm), H.out⟩
end Go.Proofs.YtlaahendcdifgaaDoor

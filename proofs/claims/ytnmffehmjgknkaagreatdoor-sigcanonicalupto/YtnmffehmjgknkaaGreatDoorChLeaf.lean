/-
  Leaf contracts of package chars and of the document's answer: which bytes and characters are of which kind.
-/
import Derived.Test.YtnmffehmjgknkaaGreatDoorProg
import Derived.WalkKit
import Derived.WalkSpells
import Derived.WalkLawsBesides
namespace Go.Proofs.YtnmffehmjgknkaaGreatDoor.Ch
open Go.RowKit

theorem ret_int {k : IntKind} {a b : Int} (h : a = b) : Ending.returned (.int k a) = .returned (.int k b) := by rw [h]
theorem ret_ib {k : IntKind} {a b : Int} {p q : Bool} (h : a = b) (g : p = q) : Ending.returned (.tuple #[.int k a, .bool p]) = .returned (.tuple #[.int k b, .bool q]) := by rw [h, g]
theorem ret_ii {k : IntKind} {a b c d : Int} (h : a = b) (g : c = d) : Ending.returned (.tuple #[.int k a, .int k c]) = .returned (.tuple #[.int k b, .int k d]) := by rw [h, g]
theorem ret_bool {p q : Bool} (g : p = q) : Ending.returned (.bool p) = .returned (.bool q) := by rw [g]
theorem ret_str {p q : ByteArray} (g : p = q) : Ending.returned (.string p) = .returned (.string q) := by rw [g]
theorem ret_sb {a b : ByteArray} {p q : Bool} (h : a = b) (g : p = q) : Ending.returned (.tuple #[.string a, .bool p]) = .returned (.tuple #[.string b, .bool q]) := by rw [h, g]

def upB (c : Int) : Bool := decide (65 ≤ c ∧ c ≤ 90)
def digB (c : Int) : Bool := decide (48 ≤ c ∧ c ≤ 57)
def lodB (c : Int) : Bool := decide (97 ≤ c ∧ c ≤ 122) || digB c
def alnB (c : Int) : Bool := upB c || lodB c
def stayB (c : Int) : Bool := alnB c || (decide (c = 45) || decide (c = 46) || decide (c = 95) || decide (c = 126))
def valB (c : Int) : Bool := decide (c = 9) || decide (32 ≤ c ∧ c ≠ 127)
def bukB (c : Int) : Bool := lodB c || decide (c = 45) || decide (c = 46)
def xmlB (c : Int) : Bool := decide (c = 9 ∨ c = 10 ∨ c = 13 ∨ (32 ≤ c ∧ c ≠ 65534 ∧ c ≠ 65535))
def charB (c : Int) : Bool := decide (c = 9 ∨ c = 10 ∨ c = 13 ∨ (32 ≤ c ∧ c ≤ 55295) ∨ (57344 ≤ c ∧ c ≤ 65533) ∨ (65536 ≤ c ∧ c ≤ 1114111))
def blkB (c : Int) : Bool := decide (c = 32 ∨ c = 9)
def nzB (c : Int) : Bool := decide (c ≠ 0)
def hvOk (c : Int) : Bool := decide ((48 ≤ c ∧ c ≤ 57) ∨ (65 ≤ c ∧ c ≤ 70) ∨ (97 ≤ c ∧ c ≤ 102))
def hvN (c : Int) : Int := if 48 ≤ c ∧ c ≤ 57 then c - 48 else if 65 ≤ c ∧ c ≤ 70 then c - 55 else if 97 ≤ c ∧ c ≤ 102 then c - 87 else 0
def dgN (c : Int) : Int := if hvOk c then hvN c else -1

theorem isUpper_any (c : Int) (w : World) (_h0 : 0 ≤ c) (_h1 : c ≤ 255) :
    Calls Tryz.prog 197 #[.int .u8 c] w fun e w' => e = .returned (.bool (upB c)) ∧ w = w' := by
  go_enter Tryz.func197, Tryz.ntmps197
  go_wp2
  all_goals
    go_ret
    exact ⟨ret_bool (by rw [Bool.eq_iff_iff]; simp [upB]; try omega), rfl⟩
theorem isDigit_any (c : Int) (w : World) (_h0 : 0 ≤ c) (_h1 : c ≤ 255) :
    Calls Tryz.prog 185 #[.int .u8 c] w fun e w' => e = .returned (.bool (digB c)) ∧ w = w' := by
  go_enter Tryz.func185, Tryz.ntmps185
  go_wp2
  all_goals
    go_ret
    exact ⟨ret_bool (by rw [Bool.eq_iff_iff]; simp [digB]; try omega), rfl⟩
theorem isLowerOrDigit_any (c : Int) (w : World) (_h0 : 0 ≤ c) (_h1 : c ≤ 255) :
    Calls Tryz.prog 198 #[.int .u8 c] w fun e w' => e = .returned (.bool (lodB c)) ∧ w = w' := by
  go_enter Tryz.func198, Tryz.ntmps198
  go_wp2
  all_goals
    go_ret
    exact ⟨ret_bool (by rw [Bool.eq_iff_iff]; simp [lodB, digB]; try omega), rfl⟩
theorem isLetterOrDigit_any (c : Int) (w : World) (_h0 : 0 ≤ c) (_h1 : c ≤ 255) :
    Calls Tryz.prog 157 #[.int .u8 c] w fun e w' => e = .returned (.bool (alnB c)) ∧ w = w' := by
  go_enter Tryz.func157, Tryz.ntmps157
  go_wp2
  all_goals
    go_ret
    exact ⟨ret_bool (by rw [Bool.eq_iff_iff]; simp [alnB, upB, lodB, digB]; try omega), rfl⟩
theorem staysAsItIs_any (c : Int) (w : World) (_h0 : 0 ≤ c) (_h1 : c ≤ 255) :
    Calls Tryz.prog 95 #[.int .u8 c] w fun e w' => e = .returned (.bool (stayB c)) ∧ w = w' := by
  go_enter Tryz.func95, Tryz.ntmps95
  go_wp2
  all_goals
    go_ret
    exact ⟨ret_bool (by rw [Bool.eq_iff_iff]; simp [stayB, alnB, upB, lodB, digB]; try omega), rfl⟩
theorem refAlnum_any (c : Int) (w : World) (_h0 : 0 ≤ c) (_h1 : c ≤ 255) :
    Calls Tryz.prog 103 #[.int .u8 c] w fun e w' => e = .returned (.bool (alnB c)) ∧ w = w' := by
  go_enter Tryz.func103, Tryz.ntmps103
  go_wp2
  all_goals
    go_ret
    exact ⟨ret_bool (by rw [Bool.eq_iff_iff]; simp [alnB, upB, lodB, digB]; try omega), rfl⟩
theorem isBlank_any (c : Int) (w : World) (_h0 : 0 ≤ c) (_h1 : c ≤ 1114111) :
    Calls Tryz.prog 159 #[.int .i32 c] w fun e w' => e = .returned (.bool (blkB c)) ∧ w = w' := by
  go_enter Tryz.func159, Tryz.ntmps159
  go_wp2
  all_goals
    go_ret
    exact ⟨ret_bool (by rw [Bool.eq_iff_iff]; simp [blkB]; try omega), rfl⟩
theorem hv_bd (c : Int) : 0 ≤ hvN c ∧ hvN c ≤ 15 := by unfold hvN; split <;> (try split) <;> (try split) <;> omega
theorem digitValue_any (c : Int) (w : World) (_h0 : 0 ≤ c) (_h1 : c ≤ 255) :
    Calls Tryz.prog 152 #[.int .u8 c] w fun e w' => e = .returned (.tuple #[.int .u8 (hvN c), .bool (hvOk c)]) ∧ w = w' := by
  go_enter Tryz.func152, Tryz.ntmps152
  go_wp2
  all_goals
    go_ret2
    exact ⟨ret_ib (by unfold hvN; (repeat' split) <;> omega) (by rw [Bool.eq_iff_iff]; simp [hvOk]; try omega), rfl⟩
theorem refDigit_any (c : Int) (w : World) (_h0 : 0 ≤ c) (_h1 : c ≤ 255) :
    Calls Tryz.prog 101 #[.int .u8 c] w fun e w' => e = .returned (.int .i64 (dgN c)) ∧ w = w' := by
  go_enter Tryz.func101, Tryz.ntmps101
  go_wp2
  all_goals
    go_ret
    exact ⟨ret_int (by simp only [dgN, hvOk, hvN, decide_eq_true_eq]; (repeat' split) <;> omega), rfl⟩
end Go.Proofs.YtnmffehmjgknkaaGreatDoor.Ch

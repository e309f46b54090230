/-
  Leaf contracts of package enc and of the document's answer: the digits and their values.
-/
import Derived.Test.YtmodmeabjhaklaaGreatDoorProg
import Derived.WalkKit
import Derived.WalkSpells
import Derived.WalkLawsBesides
namespace Go.Proofs.YtmodmeabjhaklaaGreatDoor.En
open Go.RowKit

theorem ret_int {k : IntKind} {a b : Int} (h : a = b) : Ending.returned (.int k a) = .returned (.int k b) := by rw [h]
theorem ret_ib {k : IntKind} {a b : Int} {p q : Bool} (h : a = b) (g : p = q) : Ending.returned (.tuple #[.int k a, .bool p]) = .returned (.tuple #[.int k b, .bool q]) := by rw [h, g]
theorem ret_bool {p q : Bool} (g : p = q) : Ending.returned (.bool p) = .returned (.bool q) := by rw [g]
theorem ret_str {p q : ByteArray} (g : p = q) : Ending.returned (.string p) = .returned (.string q) := by rw [g]

def hd (v : Int) : Int := if v < 10 then 48 + v else 87 + v
def hvOk (c : Int) : Bool := decide (48 ≤ c ∧ c ≤ 57) || decide (97 ≤ c ∧ c ≤ 102)
def hvN (c : Int) : Int := if 48 ≤ c ∧ c ≤ 57 then c - 48 else if 97 ≤ c ∧ c ≤ 102 then c - 87 else 0
def dvOk (c : Int) : Bool := decide (48 ≤ c ∧ c ≤ 57)
def dvN (c : Int) : Int := if 48 ≤ c ∧ c ≤ 57 then c - 48 else 0
def sd (v : Int) : Int := if v % 64 < 26 then 65 + v % 64 else if v % 64 < 52 then 71 + v % 64 else if v % 64 < 62 then v % 64 - 4 else if v % 64 = 62 then 43 else 47
def svOk (c : Int) : Bool := decide (65 ≤ c ∧ c ≤ 90) || decide (97 ≤ c ∧ c ≤ 122) || decide (48 ≤ c ∧ c ≤ 57) || decide (c = 43) || decide (c = 47)
def svN (c : Int) : Int := if 65 ≤ c ∧ c ≤ 90 then c - 65 else if 97 ≤ c ∧ c ≤ 122 then c - 71 else if 48 ≤ c ∧ c ≤ 57 then c + 4 else if c = 43 then 62 else if c = 47 then 63 else 0

theorem hv1 {c : Int} (a : 48 ≤ c) (b : c ≤ 57) : hvN c = c - 48 ∧ hvOk c = true := by
  unfold hvN hvOk
  exact ⟨if_pos ⟨a, b⟩, by simp [a, b]⟩
theorem hv2 {c : Int} (a : 97 ≤ c) (b : c ≤ 102) : hvN c = c - 87 ∧ hvOk c = true := by
  unfold hvN hvOk
  exact ⟨by rw [if_neg (by omega), if_pos ⟨a, b⟩], by simp [a, b]⟩
theorem hv3 {c : Int} (a : ¬ (48 ≤ c ∧ c ≤ 57)) (b : ¬ (97 ≤ c ∧ c ≤ 102)) : hvN c = 0 ∧ hvOk c = false := by
  unfold hvN hvOk
  exact ⟨by rw [if_neg a, if_neg b], by simp only [decide_eq_false a, decide_eq_false b, Bool.or_false]⟩
theorem dv1 {c : Int} (a : 48 ≤ c) (b : c ≤ 57) : dvN c = c - 48 ∧ dvOk c = true := by
  unfold dvN dvOk
  exact ⟨if_pos ⟨a, b⟩, by simp [a, b]⟩
theorem dv3 {c : Int} (a : ¬ (48 ≤ c ∧ c ≤ 57)) : dvN c = 0 ∧ dvOk c = false := by
  unfold dvN dvOk
  exact ⟨if_neg a, decide_eq_false a⟩

theorem decimalValue_any (c : Int) (w : World) (h0 : 0 ≤ c) (h1 : c ≤ 255) :
    Calls Tryz.prog 69 #[.int .u8 c] w fun e w' => e = .returned (.tuple #[.int .u8 (dvN c), .bool (dvOk c)]) ∧ w = w' := by
  by_cases a : 48 ≤ c
  · by_cases b : c ≤ 57
    · go_enter Tryz.func69, Tryz.ntmps69
      go_wp2
      go_ret2
      exact ⟨ret_ib (dv1 a b).1.symm (dv1 a b).2.symm, rfl⟩
    · go_enter Tryz.func69, Tryz.ntmps69
      go_wp2
      go_ret2
      exact ⟨ret_ib (dv3 (by omega)).1.symm (dv3 (by omega)).2.symm, rfl⟩
  · go_enter Tryz.func69, Tryz.ntmps69
    go_wp2
    go_ret2
    exact ⟨ret_ib (dv3 (by omega)).1.symm (dv3 (by omega)).2.symm, rfl⟩

theorem sd1 {v : Int} (a : v % 64 < 26) : sd v = 65 + v % 64 := by unfold sd; rw [if_pos a]
theorem sd2 {v : Int} (a : 26 ≤ v % 64) (b : v % 64 < 52) : sd v = 97 + v % 64 - 26 := by unfold sd; rw [if_neg (by omega), if_pos b]; omega
theorem sd3 {v : Int} (a : 52 ≤ v % 64) (b : v % 64 < 62) : sd v = 48 + v % 64 - 52 := by unfold sd; rw [if_neg (by omega), if_neg (by omega), if_pos b]; omega
theorem sd4 {v : Int} (b : v % 64 = 62) : sd v = 43 := by unfold sd; rw [if_neg (by omega), if_neg (by omega), if_neg (by omega), if_pos b]
theorem sd5 {v : Int} (a : 62 < v % 64) : sd v = 47 := by unfold sd; rw [if_neg (by omega), if_neg (by omega), if_neg (by omega), if_neg (by omega)]

theorem sv1 {c : Int} (a : 65 ≤ c) (b : c ≤ 90) : svN c = c - 65 ∧ svOk c = true := by
  unfold svN svOk
  exact ⟨if_pos ⟨a, b⟩, by simp [a, b]⟩
theorem sv2 {c : Int} (a : 97 ≤ c) (b : c ≤ 122) : svN c = c - 97 + 26 ∧ svOk c = true := by
  unfold svN svOk
  exact ⟨by rw [if_neg (by omega), if_pos ⟨a, b⟩]; omega, by simp [a, b]⟩
theorem sv3 {c : Int} (a : 48 ≤ c) (b : c ≤ 57) : svN c = c - 48 + 52 ∧ svOk c = true := by
  unfold svN svOk
  exact ⟨by rw [if_neg (by omega), if_neg (by omega), if_pos ⟨a, b⟩]; omega, by simp [a, b]⟩
theorem sv4 : svN 43 = 62 ∧ svOk 43 = true := by decide
theorem sv5 : svN 47 = 63 ∧ svOk 47 = true := by decide
theorem sv6 {c : Int} (a : ¬ (65 ≤ c ∧ c ≤ 90)) (b : ¬ (97 ≤ c ∧ c ≤ 122)) (d : ¬ (48 ≤ c ∧ c ≤ 57)) (e : c ≠ 43) (f : c ≠ 47) : svN c = 0 ∧ svOk c = false := by
  unfold svN svOk
  exact ⟨by rw [if_neg a, if_neg b, if_neg d, if_neg e, if_neg f], by simp only [decide_eq_false a, decide_eq_false b, decide_eq_false d, decide_eq_false e, decide_eq_false f, Bool.or_false]⟩

/-- What 'find' answers, from place k on. -/
def fnd : List UInt8 → Int → Nat → Int
  | [], _, _ => -1
  | b :: r, c, k => if (b.toNat : Int) = c then k else fnd r c (k + 1)

theorem fnd_hit {l : List UInt8} {c : Int} {k : Nat} (hk : k < l.length) (h : (l[k].toNat : Int) = c) : fnd (l.drop k) c k = k := by
  rw [List.drop_eq_getElem_cons hk, fnd, if_pos h]
theorem fnd_miss {l : List UInt8} {c : Int} {k : Nat} (hk : k < l.length) (h : ¬ (l[k].toNat : Int) = c) : fnd (l.drop k) c k = fnd (l.drop (k + 1)) c (k + 1) := by
  rw [List.drop_eq_getElem_cons hk, fnd, if_neg h]

def hexText : ByteArray := ⟨#[48, 49, 50, 51, 52, 53, 54, 55, 56, 57, 97, 98, 99, 100, 101, 102]⟩

theorem digit_table : ∀ k : Nat, k < 16 → (hexText.extract k (k + 1)).data = #[UInt8.ofNat (hd k).toNat] := by decide +kernel
end Go.Proofs.YtmodmeabjhaklaaGreatDoor.En

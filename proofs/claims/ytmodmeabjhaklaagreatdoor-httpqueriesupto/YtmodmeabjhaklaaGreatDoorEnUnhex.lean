/-
  enc.Unhex by its contract.
-/
import Derived.Test.YtmodmeabjhaklaaGreatDoorEnCore
namespace Go.Proofs.YtmodmeabjhaklaaGreatDoor.En
open Go.RowKit

def nth (l : List UInt8) (i : Nat) : Int := ((l.getD i 0).toNat : Int)
theorem nth_eq {l : List UInt8} {i : Nat} (h : i < l.length) : nth l i = (l[i].toNat : Int) := by simp [nth, List.getD, List.getElem?_eq_getElem h]
def pv (l : List UInt8) (i : Nat) : UInt8 := UInt8.ofNat (16 * hvN (nth l (2 * i)) + hvN (nth l (2 * i + 1))).toNat
def pOk (l : List UInt8) (i : Nat) : Bool := hvOk (nth l (2 * i)) && hvOk (nth l (2 * i + 1))
def prs (l : List UInt8) (k : Nat) : List UInt8 := (List.range k).map (pv l)
def uhOk (l : List UInt8) : Bool := decide (l.length % 2 = 0) && (List.range (l.length / 2)).all (pOk l)
def uhL (l : List UInt8) : List UInt8 := if uhOk l then prs l (l.length / 2) else []

theorem hvN_bd (c : Int) : 0 ≤ hvN c ∧ hvN c ≤ 15 := by
  unfold hvN
  split
  · omega
  · split <;> omega
theorem prs_length (l : List UInt8) (k : Nat) : (prs l k).length = k := by simp [prs]
theorem prs_succ (l : List UInt8) (k : Nat) : prs l (k + 1) = prs l k ++ [pv l k] := by simp [prs, List.range_succ]
theorem pv_cell (l : List UInt8) (i : Nat) : ((pv l i).toNat : Int) = 16 * hvN (nth l (2 * i)) + hvN (nth l (2 * i + 1)) := by
  have h1 := hvN_bd (nth l (2 * i))
  have h2 := hvN_bd (nth l (2 * i + 1))
  rw [pv, UInt8.toNat_ofNat', Nat.mod_eq_of_lt (by omega)]
  omega
theorem uhOk_odd {l : List UInt8} (h : l.length % 2 ≠ 0) : uhOk l = false := by simp [uhOk, h]
theorem uhOk_at {l : List UInt8} {k : Nat} (hk : k < l.length / 2) (h : pOk l k = false) : uhOk l = false := by
  rw [uhOk, Bool.and_eq_false_iff]
  right
  rw [List.all_eq_false]
  exact ⟨k, by simpa using hk, by simp [h]⟩
theorem uhOk_all {l : List UInt8} (h0 : l.length % 2 = 0) (h : ∀ i, i < l.length / 2 → pOk l i = true) : uhOk l = true := by
  rw [uhOk, Bool.and_eq_true]
  refine ⟨by simpa using h0, ?_⟩
  rw [List.all_eq_true]
  intro x hx
  exact h x (by simpa using hx)
theorem uhL_no {l : List UInt8} (h : uhOk l = false) : uhL l = [] := by simp [uhL, h]
theorem uhL_yes {l : List UInt8} (h : uhOk l = true) : uhL l = prs l (l.length / 2) := by simp [uhL, h]

theorem ret_vb {v : Value} {p q : Bool} (g : p = q) : Ending.returned (.tuple #[v, .bool p]) = .returned (.tuple #[v, .bool q]) := by rw [g]
theorem own_nil (w : World) (base : Nat) {l : List UInt8} (h : l = []) : Own w base (.slice none 0 0) l := by
  subst h
  exact World.ownsRow_nil _ _ _ _
theorem or16_table : ∀ x : Nat, x < 16 → ∀ y : Nat, y < 16 → bits .or .u8 ((x : Int) * 16 % 256) (y : Int) = 16 * (x : Int) + (y : Int) := by decide +kernel
theorem or16 {x y : Int} (h1 : 0 ≤ x ∧ x ≤ 15) (h2 : 0 ≤ y ∧ y ≤ 15) : bits .or .u8 (x * 16 % 256) y = 16 * x + y := by
  obtain ⟨a, rfl⟩ := Int.eq_ofNat_of_zero_le h1.1
  obtain ⟨b, rfl⟩ := Int.eq_ofNat_of_zero_le h2.1
  exact or16_table a (by omega) b (by omega)

theorem pOk_of {s : ByteArray} {k : Nat} (h1 : 2 * k < s.size) (h2 : 2 * k + 1 < s.size) : pOk s.data.toList k = (hvOk (s[2 * k].toNat : Int) && hvOk (s[2 * k + 1].toNat : Int)) := by
  rw [pOk, nth_eq (by simpa using h1), nth_eq (by simpa using h2)]
  rfl
theorem pv_of {s : ByteArray} {k : Nat} (h1 : 2 * k < s.size) (h2 : 2 * k + 1 < s.size) : bcs [pv s.data.toList k] = [.int .u8 (bits .or .u8 (hvN (s[2 * k].toNat : Int) * 16 % 256) (hvN (s[2 * k + 1].toNat : Int)))] := by
  rw [or16 (hvN_bd _) (hvN_bd _)]
  simp only [bcs, List.map_cons, List.map_nil]
  rw [pv_cell, nth_eq (by simpa using h1), nth_eq (by simpa using h2)]
  rfl
theorem one_one (x : Value) (h : x.oneCell' = true) : ∀ u ∈ [x], u.oneCell' = true := by
  intro u hu
  simp only [List.mem_singleton] at hu
  subst hu
  exact h

end Go.Proofs.YtmodmeabjhaklaaGreatDoor.En

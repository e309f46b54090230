/-
  chars.escaped and chars.Unescape by their contracts.
-/
import Derived.Test.YtmodmeabjhaklaaGreatDoorEsc
namespace Go.Proofs.YtmodmeabjhaklaaGreatDoor
open Go.RowKit

def N (c : UInt8) : Int := (c.toNat : Int)
def pv (a b : UInt8) : UInt8 := UInt8.ofNat (16 * hvN (N a) + hvN (N b)).toNat
def une : List UInt8 → Option (List UInt8)
  | [] => some []
  | [a] => if a.toNat = 37 then none else some [a]
  | [a, b] => if a.toNat = 37 then none else (une [b]).map (a :: ·)
  | a :: b :: c :: r => if a.toNat = 37 then (if hvOk (N b) && hvOk (N c) then (une r).map (pv b c :: ·) else none) else (une (b :: c :: r)).map (a :: ·)
theorem une_cons (a : UInt8) (r : List UInt8) (h : a.toNat ≠ 37) : une (a :: r) = (une r).map (a :: ·) := by
  match r with
  | [] => simp [une, h]
  | [b] => simp [une, h]
  | b :: c :: r => rw [une, if_neg h]
theorem une_plain {l : List UInt8} {k : Nat} (hk : k < l.length) (h : l[k].toNat ≠ 37) : une (l.drop k) = (une (l.drop (k + 1))).map (l[k] :: ·) := by
  rw [List.drop_eq_getElem_cons hk, une_cons _ _ h]
theorem une_short {l : List UInt8} {k : Nat} (hk : k < l.length) (h : l[k].toNat = 37) (h2 : l.length ≤ k + 2) : une (l.drop k) = none := by
  by_cases h1 : k + 1 < l.length
  · rw [List.drop_eq_getElem_cons hk, List.drop_eq_getElem_cons h1, List.drop_eq_nil_of_le (by omega), une, if_pos h]
  · rw [List.drop_eq_getElem_cons hk, List.drop_eq_nil_of_le (by omega), une, if_pos h]
theorem une_three {l : List UInt8} {k : Nat} (h2 : k + 2 < l.length) (h : l[k].toNat = 37) : une (l.drop k) = if hvOk (N l[k + 1]) && hvOk (N l[k + 2]) then (une (l.drop (k + 3))).map (pv l[k + 1] l[k + 2] :: ·) else none := by
  rw [List.drop_eq_getElem_cons (by omega : k < l.length), List.drop_eq_getElem_cons (by omega : k + 1 < l.length), List.drop_eq_getElem_cons h2, une, if_pos h]
theorem pv_cell (a b : UInt8) : bcs [pv a b] = [.int .u8 (16 * hvN (N a) + hvN (N b))] := by
  have h1 := hv_bd (N a)
  have h2 := hv_bd (N b)
  simp only [bcs, List.map_cons, List.map_nil]
  rw [pv, UInt8.toNat_ofNat', Nat.mod_eq_of_lt (by omega)]
  congr 2
  omega
theorem or16_table : ∀ x : Nat, x < 16 → ∀ y : Nat, y < 16 → bits .or .u8 ((x : Int) * 16 % 256) (y : Int) = 16 * (x : Int) + (y : Int) := by decide +kernel
theorem or16 {x y : Int} (h1 : 0 ≤ x ∧ x ≤ 15) (h2 : 0 ≤ y ∧ y ≤ 15) : bits .or .u8 (x * 16 % 256) y = 16 * x + y := by
  obtain ⟨a, rfl⟩ := Int.eq_ofNat_of_zero_le h1.1
  obtain ⟨b, rfl⟩ := Int.eq_ofNat_of_zero_le h2.1
  exact or16_table a (by omega) b (by omega)

theorem or16' {x y : Int} (h1 : 0 ≤ x ∧ x ≤ 15) (h2 : 0 ≤ y ∧ y ≤ 15) : bits .or .u8 (x * 16) y = (16 : Int) * x + y := by
  have := or16 h1 h2
  rwa [Int.emod_eq_of_lt (by omega) (by omega)] at this

def uneOk (l : List UInt8) : Bool := (une l).isSome
def uneV (l : List UInt8) : List UInt8 := (une l).getD []
theorem extract_at {s : ByteArray} {i j : Nat} (h : i + j < s.size) (h' : j < (s.extract i s.size).size) : (s.extract i s.size)[j] = s[i + j] := by
  rw [ByteArray.getElem_extract]

end Go.Proofs.YtmodmeabjhaklaaGreatDoor

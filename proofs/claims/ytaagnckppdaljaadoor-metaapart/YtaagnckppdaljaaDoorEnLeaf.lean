/-
  Leaf contracts of package enc and of the document's answer: the digits and their values.
-/
import Derived.Test.YtaagnckppdaljaaDoorProg
import Derived.WalkKit
import Derived.WalkSpells
import Derived.WalkLawsBesides
namespace Go.Proofs.YtaagnckppdaljaaDoor.En
open Go.RowKit

theorem ret_int {k : IntKind} {a b : Int} (h : a = b) : Ending.returned (.int k a) = .returned (.int k b) := by rw [h]
theorem ret_ib {k : IntKind} {a b : Int} {p q : Bool} (h : a = b) (g : p = q) : Ending.returned (.tuple #[.int k a, .bool p]) = .returned (.tuple #[.int k b, .bool q]) := by rw [h, g]
theorem ret_bool {p q : Bool} (g : p = q) : Ending.returned (.bool p) = .returned (.bool q) := by rw [g]
theorem ret_str {p q : ByteArray} (g : p = q) : Ending.returned (.string p) = .returned (.string q) := by rw [g]

def hd (v : Int) : Int := if v < 10 then 48 + v else 87 + v
def hvOk (c : Int) : Bool := decide (48 ≤ c ∧ c ≤ 57) || decide (97 ≤ c ∧ c ≤ 102)
def hvN (c : Int) : Int := if 48 ≤ c ∧ c ≤ 57 then c - 48 else if 97 ≤ c ∧ c ≤ 102 then c - 87 else 0
def dvOk (c : Int) : Bool := decide (48 ≤ c ∧ c ≤ 57)
def dvN (c : Int) : Int := if 48 ≤ c ∧ c ≤ 57 then c - 48 else 0
def sd (v : Int) : Int := if v % 64 < 26 then 65 + v % 64 else if v % 64 < 52 then 71 + v % 64 else if v % 64 < 62 then v % 64 - 4 else if v % 64 = 62 then 43 else 47
def svOk (c : Int) : Bool := decide (65 ≤ c ∧ c ≤ 90) || decide (97 ≤ c ∧ c ≤ 122) || decide (48 ≤ c ∧ c ≤ 57) || decide (c = 43) || decide (c = 47)
def svN (c : Int) : Int := if 65 ≤ c ∧ c ≤ 90 then c - 65 else if 97 ≤ c ∧ c ≤ 122 then c - 71 else if 48 ≤ c ∧ c ≤ 57 then c + 4 else if c = 43 then 62 else if c = 47 then 63 else 0

theorem hv1 {c : Int} (a : 48 ≤ c) (b : c ≤ 57) : hvN c = c - 48 ∧ hvOk c = true := by
  unfold hvN hvOk
  exact ⟨if_pos ⟨a, b⟩, by simp [a, b]⟩
theorem hv2 {c : Int} (a : 97 ≤ c) (b : c ≤ 102) : hvN c = c - 87 ∧ hvOk c = true := by
  unfold hvN hvOk
  exact ⟨by rw [if_neg (by omega), if_pos ⟨a, b⟩], by simp [a, b]⟩
theorem hv3 {c : Int} (a : ¬ (48 ≤ c ∧ c ≤ 57)) (b : ¬ (97 ≤ c ∧ c ≤ 102)) : hvN c = 0 ∧ hvOk c = false := by
  unfold hvN hvOk
  exact ⟨by rw [if_neg a, if_neg b], by simp only [decide_eq_false a, decide_eq_false b, Bool.or_false]⟩
theorem dv1 {c : Int} (a : 48 ≤ c) (b : c ≤ 57) : dvN c = c - 48 ∧ dvOk c = true := by
  unfold dvN dvOk
  exact ⟨if_pos ⟨a, b⟩, by simp [a, b]⟩
theorem dv3 {c : Int} (a : ¬ (48 ≤ c ∧ c ≤ 57)) : dvN c = 0 ∧ dvOk c = false := by
  unfold dvN dvOk
  exact ⟨if_neg a, decide_eq_false a⟩

theorem hexDigit_any (v : Int) (w : World) (h0 : 0 ≤ v) (h1 : v < 16) :
    Calls Tryd.prog 47 #[.int .u8 v] w fun e w' => e = .returned (.int .u8 (hd v)) ∧ w = w' := by
  by_cases h : v < 10
  · go_enter Tryd.func47, Tryd.ntmps47
    go_wp2
    go_ret
    exact ⟨ret_int (by unfold hd; rw [if_pos h]), rfl⟩
  · go_enter Tryd.func47, Tryd.ntmps47
    go_wp2
    go_ret
    exact ⟨ret_int (by unfold hd; rw [if_neg (by omega)]; omega), rfl⟩

theorem hexValue_any (c : Int) (w : World) (h0 : 0 ≤ c) (h1 : c ≤ 255) :
    Calls Tryd.prog 65 #[.int .u8 c] w fun e w' => e = .returned (.tuple #[.int .u8 (hvN c), .bool (hvOk c)]) ∧ w = w' := by
  by_cases a : 48 ≤ c
  · by_cases b : c ≤ 57
    · go_enter Tryd.func65, Tryd.ntmps65
      go_wp2
      go_ret2
      exact ⟨ret_ib (hv1 a b).1.symm (hv1 a b).2.symm, rfl⟩
    · by_cases d : 97 ≤ c
      · by_cases f : c ≤ 102
        · go_enter Tryd.func65, Tryd.ntmps65
          go_wp2
          go_ret2
          exact ⟨ret_ib (by rw [(hv2 d f).1]; omega) (hv2 d f).2.symm, rfl⟩
        · go_enter Tryd.func65, Tryd.ntmps65
          go_wp2
          go_ret2
          exact ⟨ret_ib (hv3 (by omega) (by omega)).1.symm (hv3 (by omega) (by omega)).2.symm, rfl⟩
      · go_enter Tryd.func65, Tryd.ntmps65
        go_wp2
        go_ret2
        exact ⟨ret_ib (hv3 (by omega) (by omega)).1.symm (hv3 (by omega) (by omega)).2.symm, rfl⟩
  · have d : ¬ 97 ≤ c := by omega
    go_enter Tryd.func65, Tryd.ntmps65
    go_wp2
    go_ret2
    exact ⟨ret_ib (hv3 (by omega) (by omega)).1.symm (hv3 (by omega) (by omega)).2.symm, rfl⟩

theorem sd1 {v : Int} (a : v % 64 < 26) : sd v = 65 + v % 64 := by unfold sd; rw [if_pos a]
theorem sd2 {v : Int} (a : 26 ≤ v % 64) (b : v % 64 < 52) : sd v = 97 + v % 64 - 26 := by unfold sd; rw [if_neg (by omega), if_pos b]; omega
theorem sd3 {v : Int} (a : 52 ≤ v % 64) (b : v % 64 < 62) : sd v = 48 + v % 64 - 52 := by unfold sd; rw [if_neg (by omega), if_neg (by omega), if_pos b]; omega
theorem sd4 {v : Int} (b : v % 64 = 62) : sd v = 43 := by unfold sd; rw [if_neg (by omega), if_neg (by omega), if_neg (by omega), if_pos b]
theorem sd5 {v : Int} (a : 62 < v % 64) : sd v = 47 := by unfold sd; rw [if_neg (by omega), if_neg (by omega), if_neg (by omega), if_neg (by omega)]

theorem sv1 {c : Int} (a : 65 ≤ c) (b : c ≤ 90) : svN c = c - 65 ∧ svOk c = true := by
  unfold svN svOk
  exact ⟨if_pos ⟨a, b⟩, by simp [a, b]⟩
theorem sv2 {c : Int} (a : 97 ≤ c) (b : c ≤ 122) : svN c = c - 97 + 26 ∧ svOk c = true := by
  unfold svN svOk
  exact ⟨by rw [if_neg (by omega), if_pos ⟨a, b⟩]; omega, by simp [a, b]⟩
theorem sv3 {c : Int} (a : 48 ≤ c) (b : c ≤ 57) : svN c = c - 48 + 52 ∧ svOk c = true := by
  unfold svN svOk
  exact ⟨by rw [if_neg (by omega), if_neg (by omega), if_pos ⟨a, b⟩]; omega, by simp [a, b]⟩
theorem sv4 : svN 43 = 62 ∧ svOk 43 = true := by decide
theorem sv5 : svN 47 = 63 ∧ svOk 47 = true := by decide
theorem sv6 {c : Int} (a : ¬ (65 ≤ c ∧ c ≤ 90)) (b : ¬ (97 ≤ c ∧ c ≤ 122)) (d : ¬ (48 ≤ c ∧ c ≤ 57)) (e : c ≠ 43) (f : c ≠ 47) : svN c = 0 ∧ svOk c = false := by
  unfold svN svOk
  exact ⟨by rw [if_neg a, if_neg b, if_neg d, if_neg e, if_neg f], by simp only [decide_eq_false a, decide_eq_false b, decide_eq_false d, decide_eq_false e, decide_eq_false f, Bool.or_false]⟩

/-- What 'find' answers, from place k on. -/
def fnd : List UInt8 → Int → Nat → Int
  | [], _, _ => -1
  | b :: r, c, k => if (b.toNat : Int) = c then k else fnd r c (k + 1)

theorem fnd_hit {l : List UInt8} {c : Int} {k : Nat} (hk : k < l.length) (h : (l[k].toNat : Int) = c) : fnd (l.drop k) c k = k := by
  rw [List.drop_eq_getElem_cons hk, fnd, if_pos h]
theorem fnd_miss {l : List UInt8} {c : Int} {k : Nat} (hk : k < l.length) (h : ¬ (l[k].toNat : Int) = c) : fnd (l.drop k) c k = fnd (l.drop (k + 1)) c (k + 1) := by
  rw [List.drop_eq_getElem_cons hk, fnd, if_neg h]

theorem find_any (s : ByteArray) (c : Int) (w : World) (hs : s.size ≤ maxLen) :
    Calls Tryd.prog 66 #[.string s, .int .u8 c] w fun e w' => e = .returned (.int .i64 (fnd s.data.toList c 0)) ∧ w = w' := by
  unfold maxLen at hs
  go_enter Tryd.func66, Tryd.ntmps66
  go_wp2
  go_loop [5] (fun i => ∃ k : Nat, k ≤ s.size ∧ i = .int .i64 k ∧ fnd (s.data.toList.drop k) c k = fnd s.data.toList c 0) (fun i => s.size - (intOf i).toNat)
  case atStart => exact ⟨0, Nat.zero_le _, rfl, rfl⟩
  case round =>
    obtain ⟨k, hk, rfl, hf⟩ := hrel
    have HF : Hid (fnd (s.data.toList.drop k) c k = fnd s.data.toList c 0) := hf
    clear hf
    by_cases hlt : k < s.size
    · have hlt' : k < s.data.toList.length := by simpa using hlt
      have he : s.data.toList[k] = s[k] := rfl
      by_cases hh : (s[k].toNat : Int) = c
      · have hq : ((s[k].toNat : Int) == c) = true := by simp [hh]
        have HH : Hid ((s[k].toNat : Int) = c) := hh
        clear hh he
        go_wp2
        go_ret
        exact ⟨ret_int (by rw [← HF.out, fnd_hit hlt' HH.out]), rfl⟩
      · have hq : ((s[k].toNat : Int) == c) = false := by simp [hh]
        have HH : Hid (¬ (s[k].toNat : Int) = c) := hh
        clear hh he
        go_wp2
        go_round
        case rel => exact ⟨k + 1, by omega, by go_num, by rw [← HF.out, fnd_miss hlt' HH.out]⟩
        case measure => simp [intOf]; omega
    · have hz : s.data.toList.drop k = [] := List.drop_eq_nil_of_le (by simp; omega)
      have HZ : Hid (s.data.toList.drop k = []) := hz
      clear hz
      go_wp2
      go_ret
      exact ⟨ret_int (by rw [← HF.out, HZ.out, fnd]), rfl⟩

def hexText : ByteArray := ⟨#[48, 49, 50, 51, 52, 53, 54, 55, 56, 57, 97, 98, 99, 100, 101, 102]⟩

theorem digit_table : ∀ k : Nat, k < 16 → (hexText.extract k (k + 1)).data = #[UInt8.ofNat (hd k).toNat] := by decide +kernel
theorem digit_any (k : Nat) (w : World) (h1 : k < 16) :
    Calls Tryd.prog 48 #[.int .i64 (k : Int)] w fun e w' => e = .returned (.string ⟨#[UInt8.ofNat (hd k).toNat]⟩) ∧ w = w' := by
  have h2 : (k : Int) < 16 := by omega
  go_enter Tryd.func48, Tryd.ntmps48
  go_wp2
  go_ret
  exact ⟨ret_str (congrArg ByteArray.mk (digit_table k h1)), rfl⟩

theorem digit_int (v : Int) (w : World) (h0 : 0 ≤ v) (h1 : v < 16) :
    Calls Tryd.prog 48 #[.int .i64 v] w fun e w' => e = .returned (.string ⟨#[UInt8.ofNat (hd v).toNat]⟩) ∧ w = w' := by
  obtain ⟨k, rfl⟩ := Int.eq_ofNat_of_zero_le h0
  exact digit_any k w (by omega)
end Go.Proofs.YtaagnckppdaljaaDoor.En

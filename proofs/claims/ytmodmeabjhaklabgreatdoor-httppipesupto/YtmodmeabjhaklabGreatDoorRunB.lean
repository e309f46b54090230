/-
  Leaf contracts of package enc and of the document's answer: the digits and their values.
-/
import Derived.Test.YtmodmeabjhaklabGreatDoorProg
import Derived.WalkKit
import Derived.WalkSpells
import Derived.WalkLawsBesides
import Derived.Laws.IdiomStrings
import Derived.Test.YtmodmeabjhaklabGreatDoorRunA
import Derived.Lib.IndexMore
namespace Go.Proofs.YtmodmeabjhaklabGreatDoor.En
open Go.RowKit

theorem ret_int {k : IntKind} {a b : Int} (h : a = b) : Ending.returned (.int k a) = .returned (.int k b) := by rw [h]
theorem ret_ib {k : IntKind} {a b : Int} {p q : Bool} (h : a = b) (g : p = q) : Ending.returned (.tuple #[.int k a, .bool p]) = .returned (.tuple #[.int k b, .bool q]) := by rw [h, g]
theorem ret_bool {p q : Bool} (g : p = q) : Ending.returned (.bool p) = .returned (.bool q) := by rw [g]
theorem ret_str {p q : ByteArray} (g : p = q) : Ending.returned (.string p) = .returned (.string q) := by rw [g]

def hd (v : Int) : Int := if v < 10 then 48 + v else 87 + v
def hvOk (c : Int) : Bool := decide (48 ≤ c ∧ c ≤ 57) || decide (97 ≤ c ∧ c ≤ 102)
def hvN (c : Int) : Int := if 48 ≤ c ∧ c ≤ 57 then c - 48 else if 97 ≤ c ∧ c ≤ 102 then c - 87 else 0
def dvOk (c : Int) : Bool := decide (48 ≤ c ∧ c ≤ 57)
def dvN (c : Int) : Int := if 48 ≤ c ∧ c ≤ 57 then c - 48 else 0
def sd (v : Int) : Int := if v % 64 < 26 then 65 + v % 64 else if v % 64 < 52 then 71 + v % 64 else if v % 64 < 62 then v % 64 - 4 else if v % 64 = 62 then 43 else 47
def svOk (c : Int) : Bool := decide (65 ≤ c ∧ c ≤ 90) || decide (97 ≤ c ∧ c ≤ 122) || decide (48 ≤ c ∧ c ≤ 57) || decide (c = 43) || decide (c = 47)
def svN (c : Int) : Int := if 65 ≤ c ∧ c ≤ 90 then c - 65 else if 97 ≤ c ∧ c ≤ 122 then c - 71 else if 48 ≤ c ∧ c ≤ 57 then c + 4 else if c = 43 then 62 else if c = 47 then 63 else 0

theorem hv1 {c : Int} (a : 48 ≤ c) (b : c ≤ 57) : hvN c = c - 48 ∧ hvOk c = true := by
  unfold hvN hvOk
  exact ⟨if_pos ⟨a, b⟩, by simp [a, b]⟩
theorem hv2 {c : Int} (a : 97 ≤ c) (b : c ≤ 102) : hvN c = c - 87 ∧ hvOk c = true := by
  unfold hvN hvOk
  exact ⟨by rw [if_neg (by omega), if_pos ⟨a, b⟩], by simp [a, b]⟩
theorem hv3 {c : Int} (a : ¬ (48 ≤ c ∧ c ≤ 57)) (b : ¬ (97 ≤ c ∧ c ≤ 102)) : hvN c = 0 ∧ hvOk c = false := by
  unfold hvN hvOk
  exact ⟨by rw [if_neg a, if_neg b], by simp only [decide_eq_false a, decide_eq_false b, Bool.or_false]⟩
theorem dv1 {c : Int} (a : 48 ≤ c) (b : c ≤ 57) : dvN c = c - 48 ∧ dvOk c = true := by
  unfold dvN dvOk
  exact ⟨if_pos ⟨a, b⟩, by simp [a, b]⟩
theorem dv3 {c : Int} (a : ¬ (48 ≤ c ∧ c ≤ 57)) : dvN c = 0 ∧ dvOk c = false := by
  unfold dvN dvOk
  exact ⟨if_neg a, decide_eq_false a⟩

theorem decimalValue_any (c : Int) (w : World) (h0 : 0 ≤ c) (h1 : c ≤ 255) :
    Calls Tryz.prog 60 #[.int .u8 c] w fun e w' => e = .returned (.tuple #[.int .u8 (dvN c), .bool (dvOk c)]) ∧ w = w' := by
  by_cases a : 48 ≤ c
  · by_cases b : c ≤ 57
    · go_enter Tryz.func60, Tryz.ntmps60
      go_wp2
      go_ret2
      exact ⟨ret_ib (dv1 a b).1.symm (dv1 a b).2.symm, rfl⟩
    · go_enter Tryz.func60, Tryz.ntmps60
      go_wp2
      go_ret2
      exact ⟨ret_ib (dv3 (by omega)).1.symm (dv3 (by omega)).2.symm, rfl⟩
  · go_enter Tryz.func60, Tryz.ntmps60
    go_wp2
    go_ret2
    exact ⟨ret_ib (dv3 (by omega)).1.symm (dv3 (by omega)).2.symm, rfl⟩

theorem sd1 {v : Int} (a : v % 64 < 26) : sd v = 65 + v % 64 := by unfold sd; rw [if_pos a]
theorem sd2 {v : Int} (a : 26 ≤ v % 64) (b : v % 64 < 52) : sd v = 97 + v % 64 - 26 := by unfold sd; rw [if_neg (by omega), if_pos b]; omega
theorem sd3 {v : Int} (a : 52 ≤ v % 64) (b : v % 64 < 62) : sd v = 48 + v % 64 - 52 := by unfold sd; rw [if_neg (by omega), if_neg (by omega), if_pos b]; omega
theorem sd4 {v : Int} (b : v % 64 = 62) : sd v = 43 := by unfold sd; rw [if_neg (by omega), if_neg (by omega), if_neg (by omega), if_pos b]
theorem sd5 {v : Int} (a : 62 < v % 64) : sd v = 47 := by unfold sd; rw [if_neg (by omega), if_neg (by omega), if_neg (by omega), if_neg (by omega)]

theorem sv1 {c : Int} (a : 65 ≤ c) (b : c ≤ 90) : svN c = c - 65 ∧ svOk c = true := by
  unfold svN svOk
  exact ⟨if_pos ⟨a, b⟩, by simp [a, b]⟩
theorem sv2 {c : Int} (a : 97 ≤ c) (b : c ≤ 122) : svN c = c - 97 + 26 ∧ svOk c = true := by
  unfold svN svOk
  exact ⟨by rw [if_neg (by omega), if_pos ⟨a, b⟩]; omega, by simp [a, b]⟩
theorem sv3 {c : Int} (a : 48 ≤ c) (b : c ≤ 57) : svN c = c - 48 + 52 ∧ svOk c = true := by
  unfold svN svOk
  exact ⟨by rw [if_neg (by omega), if_neg (by omega), if_pos ⟨a, b⟩]; omega, by simp [a, b]⟩
theorem sv4 : svN 43 = 62 ∧ svOk 43 = true := by decide
theorem sv5 : svN 47 = 63 ∧ svOk 47 = true := by decide
theorem sv6 {c : Int} (a : ¬ (65 ≤ c ∧ c ≤ 90)) (b : ¬ (97 ≤ c ∧ c ≤ 122)) (d : ¬ (48 ≤ c ∧ c ≤ 57)) (e : c ≠ 43) (f : c ≠ 47) : svN c = 0 ∧ svOk c = false := by
  unfold svN svOk
  exact ⟨by rw [if_neg a, if_neg b, if_neg d, if_neg e, if_neg f], by simp only [decide_eq_false a, decide_eq_false b, decide_eq_false d, decide_eq_false e, decide_eq_false f, Bool.or_false]⟩

/-- What 'find' answers, from place k on. -/
def fnd : List UInt8 → Int → Nat → Int
  | [], _, _ => -1
  | b :: r, c, k => if (b.toNat : Int) = c then k else fnd r c (k + 1)

theorem fnd_hit {l : List UInt8} {c : Int} {k : Nat} (hk : k < l.length) (h : (l[k].toNat : Int) = c) : fnd (l.drop k) c k = k := by
  rw [List.drop_eq_getElem_cons hk, fnd, if_pos h]
theorem fnd_miss {l : List UInt8} {c : Int} {k : Nat} (hk : k < l.length) (h : ¬ (l[k].toNat : Int) = c) : fnd (l.drop k) c k = fnd (l.drop (k + 1)) c (k + 1) := by
  rw [List.drop_eq_getElem_cons hk, fnd, if_neg h]

def hexText : ByteArray := ⟨#[48, 49, 50, 51, 52, 53, 54, 55, 56, 57, 97, 98, 99, 100, 101, 102]⟩

theorem digit_table : ∀ k : Nat, k < 16 → (hexText.extract k (k + 1)).data = #[UInt8.ofNat (hd k).toNat] := by decide +kernel
end Go.Proofs.YtmodmeabjhaklabGreatDoor.En
/-
  What a slice of bytes holds, told by a list of bytes; how it stays behind later calls.
-/
namespace Go.Proofs.YtmodmeabjhaklabGreatDoor.En
open Go.RowKit

theorem info5 : (Tryz.prog.info? 5).map (fun i => (i.zero, i.size, i.bytes)) = some (some (.int .u8 0), 1, 1) := by kernel_rfl
theorem info9 : (Tryz.prog.info? 9).map (fun i => (i.zero, i.size, i.bytes)) = some (some (.string ⟨#[]⟩), 1, 16) := by kernel_rfl

/-- The cells of a list of bytes. -/
def bcs (l : List UInt8) : List Value := l.map fun c => Value.int .u8 (c.toNat : Int)

theorem bcs_length (l : List UInt8) : (bcs l).length = l.length := by simp [bcs]
theorem bcs_append (l m : List UInt8) : bcs (l ++ m) = bcs l ++ bcs m := by simp [bcs]
theorem bcs_one (l : List UInt8) : ∀ u ∈ bcs l, u.oneCell' = true := by
  intro u hu
  simp only [bcs, List.mem_map] at hu
  obtain ⟨c, _, rfl⟩ := hu
  rfl
theorem bcs_get {l : List UInt8} {j : Nat} (h : j < l.length) : (bcs l)[j]? = some (.int .u8 (l[j].toNat : Int)) := by
  simp [bcs, List.getElem?_eq_getElem h]

/-- The slice's head leads to the bytes l (or there are none). -/
def Bytes (w : World) (a : Option Addr) (l : List UInt8) : Prop :=
  l = [] ∨ ∃ b off, a = some ⟨b, off, none⟩ ∧ b < w.heap.size ∧ ∀ j (h : j < l.length), w.cell? ⟨b, off + j, none⟩ = some (.int .u8 (l[j].toNat : Int))

theorem Bytes.at {w : World} {a : Option Addr} {l : List UInt8} (h : Bytes w a l) {k : Nat} (hk : k < l.length) :
    ∃ b off, a = some ⟨b, off, none⟩ ∧ b < w.heap.size ∧ ∀ j (h : j < l.length), w.cell? ⟨b, off + j, none⟩ = some (.int .u8 (l[j].toNat : Int)) := by
  rcases h with rfl | h
  · simp at hk
  · exact h

theorem Bytes.below {w w' : World} {a : Option Addr} {l : List UInt8} (h : Bytes w a l) {B : Nat} (hb : Below B w w') (hB : w.heap.size ≤ B) : Bytes w' a l := by
  rcases h with rfl | ⟨b, off, rfl, hb', hc⟩
  · exact .inl rfl
  · refine .inr ⟨b, off, rfl, by have := hb.size; omega, fun j hj => ?_⟩
    rw [hb.cell (p := ⟨b, off + j, none⟩) (by show b < B; omega)]
    exact hc j hj

/-- A row of the call's own. -/
def Own (w : World) (base : Nat) (v : Value) (l : List UInt8) : Prop := w.ownsRow base 5 1 v l.length (bcs l)

theorem Own.bytes {w : World} {base : Nat} {v : Value} {l : List UInt8} (h : Own w base v l) : ∃ a cap, v = .slice a l.length cap ∧ Bytes w a l := by
  obtain ⟨hl, ⟨rfl, hn⟩ | ⟨g, cap, cur, rfl, hg, hh, hnc, hcm, hcs, htk⟩⟩ := h
  · exact ⟨none, 0, by rw [hn], .inl (List.eq_nil_of_length_eq_zero hn)⟩
  · refine ⟨_, cap, rfl, .inr ⟨g, 0, rfl, ?_, ?_⟩⟩
    · rcases Nat.lt_or_ge g w.heap.size with h | h
      · exact h
      · rw [Array.getElem?_eq_none h] at hh
        simp at hh
    · intro j hj
      have hown : w.ownsRow base 5 1 (.slice (some ⟨g, 0, none⟩) l.length cap) l.length (bcs l) := ⟨hl, .inr ⟨g, cap, cur, rfl, hg, hh, hnc, hcm, hcs, htk⟩⟩
      have := hown.cellAt j (by omega)
      simp only [Nat.zero_add]
      rw [this, bcs_get hj]

theorem convert_bytes (w : World) (a : Option Addr) (cap : Nat) (l : List UInt8) (h : Bytes w a l) :
    (convert 22 9 (.slice a l.length cap)).run Tryz.prog w = .ok (.string ⟨l.toArray⟩) w := by
  cases a with
  | none =>
    obtain rfl : l = [] := by rcases h with h | ⟨_, _, he, _⟩; exact h; simp at he
    rw [run_convert_bytes_string w 22 9 5 none _ cap Tryz.underlying22 Tryz.underlying5 Tryz.underlying9]
    simp [Conv.bytesToString]
    rfl
  | some ad =>
    refine run_convert_bytes_back w 22 9 5 ad cap l Tryz.underlying22 Tryz.underlying5 Tryz.underlying9 ?_
    intro j hj
    rcases h with rfl | ⟨b, off, he, _, hc⟩
    · simp at hj
    · simp only [Option.some.injEq] at he
      subst he
      have e : (⟨b, off, none⟩ : Addr).add j = ⟨b, off + j, none⟩ := by cases j <;> simp [Addr.add]
      rw [e]
      exact hc j hj
end Go.Proofs.YtmodmeabjhaklabGreatDoor.En
/-
  enc.Unhex by its contract.
-/
namespace Go.Proofs.YtmodmeabjhaklabGreatDoor.En
open Go.RowKit

def nth (l : List UInt8) (i : Nat) : Int := ((l.getD i 0).toNat : Int)
theorem nth_eq {l : List UInt8} {i : Nat} (h : i < l.length) : nth l i = (l[i].toNat : Int) := by simp [nth, List.getD, List.getElem?_eq_getElem h]
def pv (l : List UInt8) (i : Nat) : UInt8 := UInt8.ofNat (16 * hvN (nth l (2 * i)) + hvN (nth l (2 * i + 1))).toNat
def pOk (l : List UInt8) (i : Nat) : Bool := hvOk (nth l (2 * i)) && hvOk (nth l (2 * i + 1))
def prs (l : List UInt8) (k : Nat) : List UInt8 := (List.range k).map (pv l)
def uhOk (l : List UInt8) : Bool := decide (l.length % 2 = 0) && (List.range (l.length / 2)).all (pOk l)
def uhL (l : List UInt8) : List UInt8 := if uhOk l then prs l (l.length / 2) else []

theorem hvN_bd (c : Int) : 0 ≤ hvN c ∧ hvN c ≤ 15 := by
  unfold hvN
  split
  · omega
  · split <;> omega
theorem prs_length (l : List UInt8) (k : Nat) : (prs l k).length = k := by simp [prs]
theorem prs_succ (l : List UInt8) (k : Nat) : prs l (k + 1) = prs l k ++ [pv l k] := by simp [prs, List.range_succ]
theorem pv_cell (l : List UInt8) (i : Nat) : ((pv l i).toNat : Int) = 16 * hvN (nth l (2 * i)) + hvN (nth l (2 * i + 1)) := by
  have h1 := hvN_bd (nth l (2 * i))
  have h2 := hvN_bd (nth l (2 * i + 1))
  rw [pv, UInt8.toNat_ofNat', Nat.mod_eq_of_lt (by omega)]
  omega
theorem uhOk_odd {l : List UInt8} (h : l.length % 2 ≠ 0) : uhOk l = false := by simp [uhOk, h]
theorem uhOk_at {l : List UInt8} {k : Nat} (hk : k < l.length / 2) (h : pOk l k = false) : uhOk l = false := by
  rw [uhOk, Bool.and_eq_false_iff]
  right
  rw [List.all_eq_false]
  exact ⟨k, by simpa using hk, by simp [h]⟩
theorem uhOk_all {l : List UInt8} (h0 : l.length % 2 = 0) (h : ∀ i, i < l.length / 2 → pOk l i = true) : uhOk l = true := by
  rw [uhOk, Bool.and_eq_true]
  refine ⟨by simpa using h0, ?_⟩
  rw [List.all_eq_true]
  intro x hx
  exact h x (by simpa using hx)
theorem uhL_no {l : List UInt8} (h : uhOk l = false) : uhL l = [] := by simp [uhL, h]
theorem uhL_yes {l : List UInt8} (h : uhOk l = true) : uhL l = prs l (l.length / 2) := by simp [uhL, h]

theorem ret_vb {v : Value} {p q : Bool} (g : p = q) : Ending.returned (.tuple #[v, .bool p]) = .returned (.tuple #[v, .bool q]) := by rw [g]
theorem own_nil (w : World) (base : Nat) {l : List UInt8} (h : l = []) : Own w base (.slice none 0 0) l := by
  subst h
  exact World.ownsRow_nil _ _ _ _
theorem or16_table : ∀ x : Nat, x < 16 → ∀ y : Nat, y < 16 → bits .or .u8 ((x : Int) * 16 % 256) (y : Int) = 16 * (x : Int) + (y : Int) := by decide +kernel
theorem or16 {x y : Int} (h1 : 0 ≤ x ∧ x ≤ 15) (h2 : 0 ≤ y ∧ y ≤ 15) : bits .or .u8 (x * 16 % 256) y = 16 * x + y := by
  obtain ⟨a, rfl⟩ := Int.eq_ofNat_of_zero_le h1.1
  obtain ⟨b, rfl⟩ := Int.eq_ofNat_of_zero_le h2.1
  exact or16_table a (by omega) b (by omega)

theorem pOk_of {s : ByteArray} {k : Nat} (h1 : 2 * k < s.size) (h2 : 2 * k + 1 < s.size) : pOk s.data.toList k = (hvOk (s[2 * k].toNat : Int) && hvOk (s[2 * k + 1].toNat : Int)) := by
  rw [pOk, nth_eq (by simpa using h1), nth_eq (by simpa using h2)]
  rfl
theorem pv_of {s : ByteArray} {k : Nat} (h1 : 2 * k < s.size) (h2 : 2 * k + 1 < s.size) : bcs [pv s.data.toList k] = [.int .u8 (bits .or .u8 (hvN (s[2 * k].toNat : Int) * 16 % 256) (hvN (s[2 * k + 1].toNat : Int)))] := by
  rw [or16 (hvN_bd _) (hvN_bd _)]
  simp only [bcs, List.map_cons, List.map_nil]
  rw [pv_cell, nth_eq (by simpa using h1), nth_eq (by simpa using h2)]
  rfl
theorem one_one (x : Value) (h : x.oneCell' = true) : ∀ u ∈ [x], u.oneCell' = true := by
  intro u hu
  simp only [List.mem_singleton] at hu
  subst hu
  exact h

end Go.Proofs.YtmodmeabjhaklabGreatDoor.En
/-
  enc.Int by its contract.
-/
namespace Go.Proofs.YtmodmeabjhaklabGreatDoor.En
open Go.RowKit

def ival (l : List UInt8) : Nat → Int
  | 0 => 0
  | k + 1 => ival l k * 10 + dvN (nth l k)
theorem dvN_bd (c : Int) : 0 ≤ dvN c ∧ dvN c ≤ 9 := by unfold dvN; split <;> omega
theorem ival_bd (l : List UInt8) : ∀ k, 0 ≤ ival l k ∧ ival l k + 1 ≤ (10 : Int) ^ k
  | 0 => by simp [ival]
  | k + 1 => by
    have h := ival_bd l k
    have d := dvN_bd (nth l k)
    simp only [ival, Int.pow_succ]
    omega
theorem pow_mono : ∀ k : Nat, k < 18 → (10 : Int) ^ k ≤ 10 ^ 17 := by decide +kernel
theorem ival_17 (l : List UInt8) {k : Nat} (h : k < 18) : ival l k ≤ 99999999999999999 := by
  have hb := ival_bd l k
  have hp : (10 : Int) ^ k ≤ 10 ^ 17 := pow_mono k (by omega)
  have he : (10 : Int) ^ 17 = 100000000000000000 := by decide
  omega
def intOk (l : List UInt8) : Bool := decide (1 ≤ l.length) && decide (l.length ≤ 18) && !(decide (1 < l.length) && decide (nth l 0 = 48)) && (List.range l.length).all fun i => dvOk (nth l i)
def intV (l : List UInt8) : Int := if intOk l then ival l l.length else 0
theorem intV_no {l : List UInt8} (h : intOk l = false) : intV l = 0 := by simp [intV, h]
theorem intV_yes {l : List UInt8} (h : intOk l = true) : intV l = ival l l.length := by simp [intV, h]
theorem intOk_0 {l : List UInt8} (h : l.length = 0) : intOk l = false := by simp [intOk, h]
theorem intOk_18 {l : List UInt8} (h : 18 < l.length) : intOk l = false := by
  have : decide (l.length ≤ 18) = false := decide_eq_false (by omega)
  simp [intOk, this]
theorem intOk_lead {l : List UInt8} (h : 1 < l.length) (h0 : nth l 0 = 48) : intOk l = false := by simp [intOk, h, h0]
theorem intOk_at {l : List UInt8} {k : Nat} (hk : k < l.length) (h : dvOk (nth l k) = false) : intOk l = false := by
  rw [intOk, Bool.and_eq_false_iff]
  right
  rw [List.all_eq_false]
  exact ⟨k, by simpa using hk, by simp [h]⟩
theorem intOk_all {l : List UInt8} (h1 : 1 ≤ l.length) (h18 : l.length ≤ 18) (h0 : 1 < l.length → nth l 0 ≠ 48) (h : ∀ i, i < l.length → dvOk (nth l i) = true) : intOk l = true := by
  rw [intOk, Bool.and_eq_true, Bool.and_eq_true, Bool.and_eq_true]
  refine ⟨⟨⟨by simpa using h1, by simpa using h18⟩, ?_⟩, ?_⟩
  · simp only [Bool.not_eq_true', Bool.and_eq_false_iff, decide_eq_false_iff_not]
    by_cases hh : 1 < l.length
    · exact .inr (h0 hh)
    · exact .inl hh
  · rw [List.all_eq_true]
    intro x hx
    exact h x (by simpa using hx)

set_option maxHeartbeats 800000 in
/-- The loop and what stands behind it, once the length and the first digit are as they may be. -/
theorem int_core (s : ByteArray) (w : World) (h1 : 0 < s.size) (h18 : s.size ≤ 18) (hl : 1 < s.size → ((s[0]'h1).toNat : Int) ≠ 48) :
    Calls Tryz.prog 35 #[.string s] w fun e w' => e = .returned (.tuple #[.int .i64 (intV s.data.toList), .bool (intOk s.data.toList)]) ∧ w = w' := by
  have hL : Hid (s.data.toList.length = s.size) := by show _ = _; simp
  have hz : ((s.size : Int) == 0) = false := by rw [beq_eq_false_iff_ne]; omega
  have hfirst : Hid (1 < s.data.toList.length → nth s.data.toList 0 ≠ 48) := by
    show 1 < s.data.toList.length → nth s.data.toList 0 ≠ 48
    intro h
    rw [nth_eq (i := 0) (l := s.data.toList) (by omega)]
    exact hl (by simpa using h)
  have hg : (((s.size : Int) ≤ 1) ∨ ((1 : Int) < (s.size : Int) ∧ (((s[0]'h1).toNat : Int) == 48) = false)) := by
    by_cases hone : s.size = 1
    · exact .inl (by omega)
    · exact .inr ⟨by omega, by have := hl (by omega); simpa using this⟩
  clear hl
  rcases hg with hg | ⟨hg, hg0⟩
  all_goals
    go_enter Tryz.func35, Tryz.ntmps35
    go_wp2
    go_loop [4, 28] (fun n i => ∃ k : Nat, k ≤ s.size ∧ i = .int .i64 k ∧ n = .int .i64 (ival s.data.toList k) ∧ ∀ j, j < k → dvOk (nth s.data.toList j) = true) (fun _ i => s.size - (intOf i).toNat)
    case atStart => exact ⟨0, Nat.zero_le _, rfl, rfl, fun j hj => by omega⟩
    case round =>
      obtain ⟨k, hk, rfl, rfl, hall⟩ := hrel
      by_cases hlt : k < s.size
      · have b1 : (s[k].toNat : Int) ≤ 255 := by have := s[k].toNat_lt; omega
        have iv0 := (ival_bd s.data.toList k).1
        have iv1 := ival_17 s.data.toList (k := k) (by omega)
        have d0 := dvN_bd (s[k].toNat : Int)
        have HN : Hid (nth s.data.toList k = (s[k].toNat : Int)) := nth_eq (by simpa using hlt)
        by_cases o1 : dvOk (s[k].toNat : Int) = true
        · go_wp2_with (go_at_call 60; refine (decimalValue_any _ _ (by omega) (by omega)).mono ?_; rintro e w' ⟨rfl, rfl⟩)
          go_round
          case rel =>
            refine ⟨k + 1, by omega, by go_num, ?_, ?_⟩
            · rw [ival, HN.out]
            · intro j hj
              by_cases hjk : j = k
              · rw [hjk, HN.out]; exact o1
              · exact hall j (by omega)
          case measure => simp [intOf]; omega
        · have o1' : dvOk (s[k].toNat : Int) = false := by simpa using o1
          clear o1
          go_wp2_with (go_at_call 60; refine (decimalValue_any _ _ (by omega) (by omega)).mono ?_; rintro e w' ⟨rfl, rfl⟩)
          go_ret2
          have hno : intOk s.data.toList = false := intOk_at (k := k) (by rw [hL.out]; exact hlt) (by rw [HN.out]; exact o1')
          exact ⟨ret_ib (intV_no hno).symm hno.symm, rfl⟩
      · have hkl : k = s.size := by omega
        subst hkl
        have hyes : Hid (intOk s.data.toList = true) := intOk_all (by rw [hL.out]; exact h1) (by rw [hL.out]; exact h18) hfirst.out (by rw [hL.out]; exact hall)
        clear hall
        go_wp2
        go_ret2
        exact ⟨ret_ib (by rw [intV_yes hyes.out, hL.out]) hyes.out.symm, rfl⟩

theorem int_any (s : ByteArray) (w : World) (hs : s.size ≤ 140737488351232) :
    Calls Tryz.prog 35 #[.string s] w fun e w' => e = .returned (.tuple #[.int .i64 (intV s.data.toList), .bool (intOk s.data.toList)]) ∧ w = w' := by
  have hL : s.data.toList.length = s.size := by simp
  by_cases a : s.size = 0
  · have hno : Hid (intOk s.data.toList = false) := intOk_0 (by rw [hL]; exact a)
    have hz : ((s.size : Int) == 0) = true := by simp [a]
    clear a hL
    go_enter Tryz.func35, Tryz.ntmps35
    go_wp2
    go_ret2
    exact ⟨ret_ib (intV_no hno.out).symm hno.out.symm, rfl⟩
  · have hp : 0 < s.size := by omega
    by_cases b : s.size ≤ 18
    · by_cases c : 1 < s.size ∧ ((s[0]'hp).toNat : Int) = 48
      · have hno : Hid (intOk s.data.toList = false) := intOk_lead (by rw [hL]; exact c.1) (by rw [nth_eq (i := 0) (l := s.data.toList) (by rw [hL]; omega)]; exact c.2)
        have hz : ((s.size : Int) == 0) = false := by rw [beq_eq_false_iff_ne]; omega
        have hg : (1 : Int) < (s.size : Int) := by have := c.1; omega
        have h48 : (((s[0]'hp).toNat : Int) == 48) = true := by simp [c.2]
        clear a hL c
        go_enter Tryz.func35, Tryz.ntmps35
        go_wp2
        go_ret2
        exact ⟨ret_ib (intV_no hno.out).symm hno.out.symm, rfl⟩
      · exact int_core s w hp b (fun h1 h2 => c ⟨h1, h2⟩)
    · have hno : Hid (intOk s.data.toList = false) := intOk_18 (by rw [hL]; omega)
      have hz : ((s.size : Int) == 0) = false := by rw [beq_eq_false_iff_ne]; omega
      have hg : (18 : Int) < (s.size : Int) := by omega
      clear a hL b
      go_enter Tryz.func35, Tryz.ntmps35
      go_wp2
      go_ret2
      exact ⟨ret_ib (intV_no hno.out).symm hno.out.symm, rfl⟩
end Go.Proofs.YtmodmeabjhaklabGreatDoor.En
/-
  What a request's bytes are read as.
-/
namespace Go.Proofs.YtmodmeabjhaklabGreatDoor
open Go.RowKit

/-- Where the first line's end stands. -/
def fndL : List UInt8 → Option Nat
  | [] => none
  | a :: r => if a = 13 ∧ r.head? = some 10 then some 0 else (fndL r).map (· + 1)
theorem fnd_index : ∀ l : List UInt8, Lib.index l [13, 10] = match fndL l with | some n => (n : Int) | none => -1
  | [] => rfl
  | a :: r => by
    have ih := fnd_index r
    unfold Lib.index fndL
    have hp : ([13, 10] : List UInt8).isPrefixOf (a :: r) = decide (a = 13 ∧ r.head? = some 10) := by
      cases r with
      | nil => simp [List.isPrefixOf]
      | cons b t =>
        simp only [List.isPrefixOf, Bool.and_true, List.head?_cons, Option.some.injEq]
        rw [Bool.eq_iff_iff]
        simp only [Bool.and_eq_true, beq_iff_eq, decide_eq_true_eq]
        exact ⟨fun h => ⟨h.1.symm, h.2.symm⟩, fun h => ⟨h.1.symm, h.2.symm⟩⟩
    rw [hp, ih]
    by_cases h : a = 13 ∧ r.head? = some 10
    · rw [if_pos h, if_pos (by simpa using h)]
      rfl
    · rw [if_neg h, if_neg (by simpa using h)]
      cases fndL r with
      | none => rfl
      | some n =>
        have hne : ((n : Int) == -1) = false := by rw [beq_eq_false_iff_ne]; omega
        simp [hne]
theorem fnd_room : ∀ (l : List UInt8) {n : Nat}, fndL l = some n → n + 2 ≤ l.length
  | [], n, h => by simp [fndL] at h
  | a :: r, n, h => by
    unfold fndL at h
    split at h
    · next hh =>
      simp only [Option.some.injEq] at h
      subst h
      cases r with
      | nil => simp at hh
      | cons b t => simp
    · cases hr : fndL r with
      | none => rw [hr] at h; simp at h
      | some k =>
        rw [hr] at h
        simp only [Option.map_some, Option.some.injEq] at h
        have := fnd_room r hr
        simp only [List.length_cons]
        omega

inductive Ln where
  | more
  | long
  | ok (s : List UInt8)
/-- The next line, within its bounds. -/
def lnL (most opn : Int) (rest : List UInt8) : Ln :=
  match fndL rest with
  | none => if (rest.length : Int) ≤ opn then .more else .long
  | some n => if (n : Int) ≤ most then .ok (rest.take n) else .long

def metB (m : List UInt8) : Bool := decide (m.length ≤ 16) && tokenB m
def tarC (c : UInt8) : Bool := decide (33 ≤ c.toNat ∧ c.toNat ≤ 126)
def tarB (t : List UInt8) : Bool := t.all tarC && decide (0 < t.length)
def httpT : List UInt8 := [72, 84, 84, 80, 47]
def http11 : List UInt8 := [72, 84, 84, 80, 47, 49, 46, 49]
def verB (v : List UInt8) : Bool := httpT.isPrefixOf v && decide (v.length = 8) && digB ((v.getD 5 0).toNat : Int) && decide ((v.getD 6 0).toNat = 46) && digB ((v.getD 7 0).toNat : Int)
inductive Rq where
  | bad (e : Int)
  | ok (m t : List UInt8)
/-- The request line. -/
def reqL (s : List UInt8) : Rq :=
  let m := (Lib.cut s [32]).1
  let t := (Lib.cut (Lib.cut s [32]).2.1 [32]).1
  let v := (Lib.cut (Lib.cut s [32]).2.1 [32]).2.1
  if (metB m && tarB t && verB v) = false then .bad 308
  else if v ≠ http11 then .bad 340
  else if t.getD 0 0 ≠ 47 ∧ t ≠ [42] then .bad 331
  else .ok m t
/-- A header line. -/
def hdrL (s : List UInt8) : Option (List UInt8 × List UInt8) :=
  if (Lib.cut s [58]).2.2 && tokenB (Lib.cut s [58]).1 && allB valB (Lib.cut s [58]).2.1 then some (lowL (Lib.cut s [58]).1, trimL (Lib.cut s [58]).2.1) else none

abbrev Hd := List UInt8 × List UInt8
def allL (hs : List Hd) (n : List UInt8) : List (List UInt8) := (hs.filter fun h => h.1 = n).map (·.2)
def getL (hs : List Hd) (n : List UInt8) : Option (List UInt8) := (hs.find? fun h => h.1 = n).map (·.2)
def nTe : List UInt8 := [116, 114, 97, 110, 115, 102, 101, 114, 45, 101, 110, 99, 111, 100, 105, 110, 103]
def nCl : List UInt8 := [99, 111, 110, 116, 101, 110, 116, 45, 108, 101, 110, 103, 116, 104]
def nEx : List UInt8 := [101, 120, 112, 101, 99, 116]
def nHost : List UInt8 := [104, 111, 115, 116]
def nConn : List UInt8 := [99, 111, 110, 110, 101, 99, 116, 105, 111, 110]
def tClose : List UInt8 := [99, 108, 111, 115, 101]
def tChunked : List UInt8 := [99, 104, 117, 110, 107, 101, 100]
def tCont : List UInt8 := [49, 48, 48, 45, 99, 111, 110, 116, 105, 110, 117, 101]
/-- What is wrong about headers together; 0: nothing. -/
def fltL (hs : List Hd) : Int :=
  if (allL hs nHost).length ≠ 1 ∨ ((getL hs nTe).isSome ∧ (getL hs nCl).isSome) ∨ 1 < (allL hs nTe).length then 308
  else if (getL hs nTe).isSome ∧ lowL ((getL hs nTe).getD []) ≠ tChunked then 335
  else if 1 < (allL hs nCl).length ∨ ((getL hs nCl).isSome ∧ En.intOk ((getL hs nCl).getD []) = false) then 308
  else if 1048576 < En.intV ((getL hs nCl).getD []) then 324
  else if (getL hs nEx).isSome ∧ lowL ((getL hs nEx).getD []) ≠ tCont then 337
  else 0
def closeL (hs : List Hd) : Bool := (allL hs nConn).any fun v => (splitL 44 v).any fun x => decide (lowL (trimL x) = tClose)

/-- A hexadecimal digit's value; 99: it is none. -/
def dv (c : UInt8) : Nat := if 48 ≤ c.toNat ∧ c.toNat ≤ 57 then c.toNat - 48 else if 65 ≤ c.toNat ∧ c.toNat ≤ 70 then c.toNat - 55 else if 97 ≤ c.toNat ∧ c.toNat ≤ 102 then c.toNat - 87 else 99
def digs (b : Nat) : Nat → List UInt8 → Option Nat
  | n, [] => some n
  | n, c :: r => if dv c < b then digs b (b * n + dv c) r else none
/-- A chunk's size. -/
def chkL (s : List UInt8) : Option Nat :=
  if 1 ≤ (Lib.cut s [59]).1.length ∧ (Lib.cut s [59]).1.length ≤ 8 ∧ allB valB (Lib.cut s [59]).2.1 = true then digs 16 0 (Lib.cut s [59]).1 else none

/-- What is read of a request so far. -/
structure St where
  at_ : Nat
  head : Nat
  fields : Nat
  m : List UInt8
  t : List UInt8
  hs : List Hd
  size : Nat
  pcs : List (List UInt8)
  sum : Nat
/-- What is told. -/
inductive Tld where
  | more
  | bad (e : Int)
  | done (used : Nat) (m t : List UInt8) (hs : List Hd) (b : List UInt8) (cl co : Bool)
inductive Nx where
  | go (q : Nat) (s : St)
  | fin (t : Tld)
inductive Fl where
  | fin (t : Tld)
  | ok (s : St) (h : Option Hd)
/-- The next line of the head or the trailers. -/
def fldL (l : List UInt8) (s : St) : Fl :=
  match lnL (65536 - s.head - 2) (65536 - s.head) (l.drop s.at_) with
  | .more => .fin .more
  | .long => .fin (.bad 339)
  | .ok x =>
    if x = [] then .ok { s with at_ := s.at_ + 2, head := s.head + 2 } none
    else if 100 < s.fields + 1 then .fin (.bad 339)
    else match hdrL x with
      | none => .fin (.bad 308)
      | some h => .ok { s with at_ := s.at_ + (x.length + 2), head := s.head + (x.length + 2), fields := s.fields + 1 } (some h)
def doneL (s : St) : Tld := .done s.at_ s.m s.t s.hs s.pcs.flatten (closeL s.hs) ((getL s.hs nEx).isSome && decide (0 < s.pcs.flatten.length))
def takeL (l : List UInt8) (s : St) : St := { s with at_ := s.at_ + s.size, pcs := s.pcs ++ [(l.drop s.at_).take s.size], sum := s.sum + s.size }
/-- One step of the reading. -/
def stepF (l : List UInt8) (q : Nat) (s : St) : Nx :=
  match q with
  | 0 => match lnL 8192 8193 (l.drop s.at_) with
    | .more => .fin .more
    | .long => .fin (.bad 338)
    | .ok x => match reqL x with
      | .bad e => .fin (.bad e)
      | .ok m t => .go 1 { s with at_ := s.at_ + (x.length + 2), head := s.at_ + (x.length + 2), m := m, t := t }
  | 1 => match fldL l s with
    | .fin t => .fin t
    | .ok s' none => .go 2 s'
    | .ok s' (some h) => .go 1 { s' with hs := s'.hs ++ [h] }
  | 2 => if fltL s.hs ≠ 0 then .fin (.bad (fltL s.hs))
    else if (getL s.hs nTe).isSome then .go 4 s
    else .go 3 { s with size := (En.intV ((getL s.hs nCl).getD [])).toNat }
  | 3 => if l.length - s.at_ < s.size then .fin .more else .fin (doneL (takeL l s))
  | 4 => match lnL 256 257 (l.drop s.at_) with
    | .more => .fin .more
    | .long => .fin (.bad 308)
    | .ok x => match chkL x with
      | none => .fin (.bad 308)
      | some n => if 1048576 < s.sum + n then .fin (.bad 324)
        else if n = 0 then .go 6 { s with at_ := s.at_ + (x.length + 2) }
        else .go 5 { s with at_ := s.at_ + (x.length + 2), size := n }
  | 5 => if l.length - s.at_ < s.size then .fin .more
    else
      let e := (l.drop (s.at_ + s.size)).take 2
      if e.isPrefixOf [13, 10] = false then .fin (.bad 308)
      else if e ≠ [13, 10] then .fin .more
      else .go 4 { takeL l s with at_ := s.at_ + s.size + 2 }
  | 6 => match fldL l s with
    | .fin t => .fin t
    | .ok s' none => .fin (doneL s')
    | .ok s' (some _) => .go 6 s'
  | _ => .fin .more
/-- All the steps. -/
def runF (l : List UInt8) : Nat → Nat → St → Tld
  | 0, _, _ => .more
  | n + 1, q, s => match stepF l q s with
    | .fin t => t
    | .go q' s' => runF l n q' s'
def st0 : St := ⟨0, 0, 0, [], [], [], 0, [], 0⟩
/-- A request's reading. -/
def parseL (l : List UInt8) : Tld := runF l (2 * l.length + 6) 0 st0
/-- How many steps are left at most. -/
def mu (l : List UInt8) (q : Nat) (s : St) : Nat := 2 * (l.length - s.at_) + (match q with | 0 => 5 | 1 => 4 | 2 => 3 | 4 => 2 | _ => 1)
theorem ln_ok {most opn : Int} {rest x : List UInt8} (h : lnL most opn rest = .ok x) : fndL rest = some x.length ∧ x = rest.take x.length ∧ x.length + 2 ≤ rest.length ∧ (x.length : Int) ≤ most := by
  unfold lnL at h
  split at h
  · split at h <;> cases h
  · next n hn =>
    split at h
    · next hm =>
      simp only [Ln.ok.injEq] at h
      have hr := fnd_room _ hn
      have hl : x.length = n := by rw [← h, List.length_take]; omega
      exact ⟨by rw [hl]; exact hn, by rw [hl, h], by omega, by omega⟩
    · cases h
theorem fld_go {l : List UInt8} {s s' : St} {h : Option Hd} (hf : fldL l s = .ok s' h) : s.at_ + 2 ≤ s'.at_ ∧ s'.at_ ≤ l.length := by
  unfold fldL at hf
  split at hf
  · cases hf
  · cases hf
  · next x hx =>
    have h1 := ln_ok hx
    have hd : (l.drop s.at_).length = l.length - s.at_ := by simp
    split at hf
    · next hx0 =>
      simp only [Fl.ok.injEq] at hf
      obtain ⟨rfl, -⟩ := hf
      simp only
      omega
    · split at hf
      · cases hf
      · split at hf
        · cases hf
        · simp only [Fl.ok.injEq] at hf
          obtain ⟨rfl, -⟩ := hf
          simp only
          omega
theorem mu_step {l : List UInt8} {q q' : Nat} {s s' : St} (h : stepF l q s = .go q' s') (h5 : q = 5 → 1 ≤ s.size) : mu l q' s' < mu l q s := by
  have hd : ∀ k, (l.drop k).length = l.length - k := fun k => by simp
  unfold stepF at h
  split at h
  · split at h
    · cases h
    · cases h
    · next x hx =>
      have h1 := ln_ok hx
      have := hd s.at_
      split at h
      · cases h
      · simp only [Nx.go.injEq] at h
        obtain ⟨rfl, rfl⟩ := h
        simp only [mu]
        omega
  · split at h
    · cases h
    · next s1 hf =>
      have := fld_go hf
      simp only [Nx.go.injEq] at h
      obtain ⟨rfl, rfl⟩ := h
      simp only [mu]
      omega
    · next s1 x hf =>
      have := fld_go hf
      simp only [Nx.go.injEq] at h
      obtain ⟨rfl, rfl⟩ := h
      simp only [mu]
      omega
  · split at h
    · cases h
    · split at h
      · simp only [Nx.go.injEq] at h
        obtain ⟨rfl, rfl⟩ := h
        simp only [mu]
        omega
      · simp only [Nx.go.injEq] at h
        obtain ⟨rfl, rfl⟩ := h
        simp only [mu]
        omega
  · split at h <;> cases h
  · split at h
    · cases h
    · cases h
    · next x hx =>
      have h1 := ln_ok hx
      have := hd s.at_
      split at h
      · cases h
      · split at h
        · cases h
        · split at h
          · simp only [Nx.go.injEq] at h
            obtain ⟨rfl, rfl⟩ := h
            simp only [mu]
            omega
          · simp only [Nx.go.injEq] at h
            obtain ⟨rfl, rfl⟩ := h
            simp only [mu]
            omega
  · split at h
    · cases h
    · simp only at h
      split at h
      · cases h
      · split at h
        · cases h
        · simp only [Nx.go.injEq] at h
          obtain ⟨rfl, rfl⟩ := h
          have := h5 rfl
          simp only [mu]
          omega
  · split at h
    · cases h
    · cases h
    · next s1 x hf =>
      have := fld_go hf
      simp only [Nx.go.injEq] at h
      obtain ⟨rfl, rfl⟩ := h
      simp only [mu]
      omega
  · cases h
end Go.Proofs.YtmodmeabjhaklabGreatDoor

/-
  Leaf contracts of package enc and of the document's answer: the digits and their values.
-/
import Derived.Test.YtbhiabcgjnfpoaaGreatDoorProg
import Derived.WalkKit
import Derived.WalkSpells
import Derived.WalkLawsBesides
import Derived.Laws.IdiomStrings
namespace Go.Proofs.YtbhiabcgjnfpoaaGreatDoor.En
open Go.RowKit

theorem ret_int {k : IntKind} {a b : Int} (h : a = b) : Ending.returned (.int k a) = .returned (.int k b) := by rw [h]
theorem ret_ib {k : IntKind} {a b : Int} {p q : Bool} (h : a = b) (g : p = q) : Ending.returned (.tuple #[.int k a, .bool p]) = .returned (.tuple #[.int k b, .bool q]) := by rw [h, g]
theorem ret_bool {p q : Bool} (g : p = q) : Ending.returned (.bool p) = .returned (.bool q) := by rw [g]
theorem ret_str {p q : ByteArray} (g : p = q) : Ending.returned (.string p) = .returned (.string q) := by rw [g]

def hd (v : Int) : Int := if v < 10 then 48 + v else 87 + v
def hvOk (c : Int) : Bool := decide (48 ≤ c ∧ c ≤ 57) || decide (97 ≤ c ∧ c ≤ 102)
def hvN (c : Int) : Int := if 48 ≤ c ∧ c ≤ 57 then c - 48 else if 97 ≤ c ∧ c ≤ 102 then c - 87 else 0
def dvOk (c : Int) : Bool := decide (48 ≤ c ∧ c ≤ 57)
def dvN (c : Int) : Int := if 48 ≤ c ∧ c ≤ 57 then c - 48 else 0
def sd (v : Int) : Int := if v % 64 < 26 then 65 + v % 64 else if v % 64 < 52 then 71 + v % 64 else if v % 64 < 62 then v % 64 - 4 else if v % 64 = 62 then 43 else 47
def svOk (c : Int) : Bool := decide (65 ≤ c ∧ c ≤ 90) || decide (97 ≤ c ∧ c ≤ 122) || decide (48 ≤ c ∧ c ≤ 57) || decide (c = 43) || decide (c = 47)
def svN (c : Int) : Int := if 65 ≤ c ∧ c ≤ 90 then c - 65 else if 97 ≤ c ∧ c ≤ 122 then c - 71 else if 48 ≤ c ∧ c ≤ 57 then c + 4 else if c = 43 then 62 else if c = 47 then 63 else 0

theorem hv1 {c : Int} (a : 48 ≤ c) (b : c ≤ 57) : hvN c = c - 48 ∧ hvOk c = true := by
  unfold hvN hvOk
  exact ⟨if_pos ⟨a, b⟩, by simp [a, b]⟩
theorem hv2 {c : Int} (a : 97 ≤ c) (b : c ≤ 102) : hvN c = c - 87 ∧ hvOk c = true := by
  unfold hvN hvOk
  exact ⟨by rw [if_neg (by omega), if_pos ⟨a, b⟩], by simp [a, b]⟩
theorem hv3 {c : Int} (a : ¬ (48 ≤ c ∧ c ≤ 57)) (b : ¬ (97 ≤ c ∧ c ≤ 102)) : hvN c = 0 ∧ hvOk c = false := by
  unfold hvN hvOk
  exact ⟨by rw [if_neg a, if_neg b], by simp only [decide_eq_false a, decide_eq_false b, Bool.or_false]⟩
theorem dv1 {c : Int} (a : 48 ≤ c) (b : c ≤ 57) : dvN c = c - 48 ∧ dvOk c = true := by
  unfold dvN dvOk
  exact ⟨if_pos ⟨a, b⟩, by simp [a, b]⟩
theorem dv3 {c : Int} (a : ¬ (48 ≤ c ∧ c ≤ 57)) : dvN c = 0 ∧ dvOk c = false := by
  unfold dvN dvOk
  exact ⟨if_neg a, decide_eq_false a⟩

theorem hexDigit_any (v : Int) (w : World) (h0 : 0 ≤ v) (h1 : v < 16) :
    Calls Tryz.prog 111 #[.int .u8 v] w fun e w' => e = .returned (.int .u8 (hd v)) ∧ w = w' := by
  by_cases h : v < 10
  · go_enter Tryz.func111, Tryz.ntmps111
    go_wp2
    go_ret
    exact ⟨ret_int (by unfold hd; rw [if_pos h]), rfl⟩
  · go_enter Tryz.func111, Tryz.ntmps111
    go_wp2
    go_ret
    exact ⟨ret_int (by unfold hd; rw [if_neg (by omega)]; omega), rfl⟩

theorem hexValue_any (c : Int) (w : World) (h0 : 0 ≤ c) (h1 : c ≤ 255) :
    Calls Tryz.prog 110 #[.int .u8 c] w fun e w' => e = .returned (.tuple #[.int .u8 (hvN c), .bool (hvOk c)]) ∧ w = w' := by
  by_cases a : 48 ≤ c
  · by_cases b : c ≤ 57
    · go_enter Tryz.func110, Tryz.ntmps110
      go_wp2
      go_ret2
      exact ⟨ret_ib (hv1 a b).1.symm (hv1 a b).2.symm, rfl⟩
    · by_cases d : 97 ≤ c
      · by_cases f : c ≤ 102
        · go_enter Tryz.func110, Tryz.ntmps110
          go_wp2
          go_ret2
          exact ⟨ret_ib (by rw [(hv2 d f).1]; omega) (hv2 d f).2.symm, rfl⟩
        · go_enter Tryz.func110, Tryz.ntmps110
          go_wp2
          go_ret2
          exact ⟨ret_ib (hv3 (by omega) (by omega)).1.symm (hv3 (by omega) (by omega)).2.symm, rfl⟩
      · go_enter Tryz.func110, Tryz.ntmps110
        go_wp2
        go_ret2
        exact ⟨ret_ib (hv3 (by omega) (by omega)).1.symm (hv3 (by omega) (by omega)).2.symm, rfl⟩
  · have d : ¬ 97 ≤ c := by omega
    go_enter Tryz.func110, Tryz.ntmps110
    go_wp2
    go_ret2
    exact ⟨ret_ib (hv3 (by omega) (by omega)).1.symm (hv3 (by omega) (by omega)).2.symm, rfl⟩

theorem decimalValue_any (c : Int) (w : World) (h0 : 0 ≤ c) (h1 : c ≤ 255) :
    Calls Tryz.prog 120 #[.int .u8 c] w fun e w' => e = .returned (.tuple #[.int .u8 (dvN c), .bool (dvOk c)]) ∧ w = w' := by
  by_cases a : 48 ≤ c
  · by_cases b : c ≤ 57
    · go_enter Tryz.func120, Tryz.ntmps120
      go_wp2
      go_ret2
      exact ⟨ret_ib (dv1 a b).1.symm (dv1 a b).2.symm, rfl⟩
    · go_enter Tryz.func120, Tryz.ntmps120
      go_wp2
      go_ret2
      exact ⟨ret_ib (dv3 (by omega)).1.symm (dv3 (by omega)).2.symm, rfl⟩
  · go_enter Tryz.func120, Tryz.ntmps120
    go_wp2
    go_ret2
    exact ⟨ret_ib (dv3 (by omega)).1.symm (dv3 (by omega)).2.symm, rfl⟩

theorem sd1 {v : Int} (a : v % 64 < 26) : sd v = 65 + v % 64 := by unfold sd; rw [if_pos a]
theorem sd2 {v : Int} (a : 26 ≤ v % 64) (b : v % 64 < 52) : sd v = 97 + v % 64 - 26 := by unfold sd; rw [if_neg (by omega), if_pos b]; omega
theorem sd3 {v : Int} (a : 52 ≤ v % 64) (b : v % 64 < 62) : sd v = 48 + v % 64 - 52 := by unfold sd; rw [if_neg (by omega), if_neg (by omega), if_pos b]; omega
theorem sd4 {v : Int} (b : v % 64 = 62) : sd v = 43 := by unfold sd; rw [if_neg (by omega), if_neg (by omega), if_neg (by omega), if_pos b]
theorem sd5 {v : Int} (a : 62 < v % 64) : sd v = 47 := by unfold sd; rw [if_neg (by omega), if_neg (by omega), if_neg (by omega), if_neg (by omega)]

theorem sv1 {c : Int} (a : 65 ≤ c) (b : c ≤ 90) : svN c = c - 65 ∧ svOk c = true := by
  unfold svN svOk
  exact ⟨if_pos ⟨a, b⟩, by simp [a, b]⟩
theorem sv2 {c : Int} (a : 97 ≤ c) (b : c ≤ 122) : svN c = c - 97 + 26 ∧ svOk c = true := by
  unfold svN svOk
  exact ⟨by rw [if_neg (by omega), if_pos ⟨a, b⟩]; omega, by simp [a, b]⟩
theorem sv3 {c : Int} (a : 48 ≤ c) (b : c ≤ 57) : svN c = c - 48 + 52 ∧ svOk c = true := by
  unfold svN svOk
  exact ⟨by rw [if_neg (by omega), if_neg (by omega), if_pos ⟨a, b⟩]; omega, by simp [a, b]⟩
theorem sv4 : svN 43 = 62 ∧ svOk 43 = true := by decide
theorem sv5 : svN 47 = 63 ∧ svOk 47 = true := by decide
theorem sv6 {c : Int} (a : ¬ (65 ≤ c ∧ c ≤ 90)) (b : ¬ (97 ≤ c ∧ c ≤ 122)) (d : ¬ (48 ≤ c ∧ c ≤ 57)) (e : c ≠ 43) (f : c ≠ 47) : svN c = 0 ∧ svOk c = false := by
  unfold svN svOk
  exact ⟨by rw [if_neg a, if_neg b, if_neg d, if_neg e, if_neg f], by simp only [decide_eq_false a, decide_eq_false b, decide_eq_false d, decide_eq_false e, decide_eq_false f, Bool.or_false]⟩

/-- What 'find' answers, from place k on. -/
def fnd : List UInt8 → Int → Nat → Int
  | [], _, _ => -1
  | b :: r, c, k => if (b.toNat : Int) = c then k else fnd r c (k + 1)

theorem fnd_hit {l : List UInt8} {c : Int} {k : Nat} (hk : k < l.length) (h : (l[k].toNat : Int) = c) : fnd (l.drop k) c k = k := by
  rw [List.drop_eq_getElem_cons hk, fnd, if_pos h]
theorem fnd_miss {l : List UInt8} {c : Int} {k : Nat} (hk : k < l.length) (h : ¬ (l[k].toNat : Int) = c) : fnd (l.drop k) c k = fnd (l.drop (k + 1)) c (k + 1) := by
  rw [List.drop_eq_getElem_cons hk, fnd, if_neg h]

def hexText : ByteArray := ⟨#[48, 49, 50, 51, 52, 53, 54, 55, 56, 57, 97, 98, 99, 100, 101, 102]⟩

theorem digit_table : ∀ k : Nat, k < 16 → (hexText.extract k (k + 1)).data = #[UInt8.ofNat (hd k).toNat] := by decide +kernel
theorem digit_any (k : Nat) (w : World) (h1 : k < 16) :
    Calls Tryz.prog 89 #[.int .i64 (k : Int)] w fun e w' => e = .returned (.string ⟨#[UInt8.ofNat (hd k).toNat]⟩) ∧ w = w' := by
  have h2 : (k : Int) < 16 := by omega
  go_enter Tryz.func89, Tryz.ntmps89
  go_wp2
  go_ret
  exact ⟨ret_str (congrArg ByteArray.mk (digit_table k h1)), rfl⟩

theorem digit_int (v : Int) (w : World) (h0 : 0 ≤ v) (h1 : v < 16) :
    Calls Tryz.prog 89 #[.int .i64 v] w fun e w' => e = .returned (.string ⟨#[UInt8.ofNat (hd v).toNat]⟩) ∧ w = w' := by
  obtain ⟨k, rfl⟩ := Int.eq_ofNat_of_zero_le h0
  exact digit_any k w (by omega)
end Go.Proofs.YtbhiabcgjnfpoaaGreatDoor.En
/-
  What a slice of bytes holds, told by a list of bytes; how it stays behind later calls.
-/
namespace Go.Proofs.YtbhiabcgjnfpoaaGreatDoor.En
open Go.RowKit

theorem info5 : (Tryz.prog.info? 5).map (fun i => (i.zero, i.size, i.bytes)) = some (some (.int .u8 0), 1, 1) := by kernel_rfl
theorem info9 : (Tryz.prog.info? 9).map (fun i => (i.zero, i.size, i.bytes)) = some (some (.string ⟨#[]⟩), 1, 16) := by kernel_rfl

/-- The cells of a list of bytes. -/
def bcs (l : List UInt8) : List Value := l.map fun c => Value.int .u8 (c.toNat : Int)

theorem bcs_length (l : List UInt8) : (bcs l).length = l.length := by simp [bcs]
theorem bcs_append (l m : List UInt8) : bcs (l ++ m) = bcs l ++ bcs m := by simp [bcs]
theorem bcs_one (l : List UInt8) : ∀ u ∈ bcs l, u.oneCell' = true := by
  intro u hu
  simp only [bcs, List.mem_map] at hu
  obtain ⟨c, _, rfl⟩ := hu
  rfl
theorem bcs_get {l : List UInt8} {j : Nat} (h : j < l.length) : (bcs l)[j]? = some (.int .u8 (l[j].toNat : Int)) := by
  simp [bcs, List.getElem?_eq_getElem h]

/-- The slice's head leads to the bytes l (or there are none). -/
def Bytes (w : World) (a : Option Addr) (l : List UInt8) : Prop :=
  l = [] ∨ ∃ b off, a = some ⟨b, off, none⟩ ∧ b < w.heap.size ∧ ∀ j (h : j < l.length), w.cell? ⟨b, off + j, none⟩ = some (.int .u8 (l[j].toNat : Int))

theorem Bytes.at {w : World} {a : Option Addr} {l : List UInt8} (h : Bytes w a l) {k : Nat} (hk : k < l.length) :
    ∃ b off, a = some ⟨b, off, none⟩ ∧ b < w.heap.size ∧ ∀ j (h : j < l.length), w.cell? ⟨b, off + j, none⟩ = some (.int .u8 (l[j].toNat : Int)) := by
  rcases h with rfl | h
  · simp at hk
  · exact h

theorem Bytes.below {w w' : World} {a : Option Addr} {l : List UInt8} (h : Bytes w a l) {B : Nat} (hb : Below B w w') (hB : w.heap.size ≤ B) : Bytes w' a l := by
  rcases h with rfl | ⟨b, off, rfl, hb', hc⟩
  · exact .inl rfl
  · refine .inr ⟨b, off, rfl, by have := hb.size; omega, fun j hj => ?_⟩
    rw [hb.cell (p := ⟨b, off + j, none⟩) (by show b < B; omega)]
    exact hc j hj

/-- A row of the call's own. -/
def Own (w : World) (base : Nat) (v : Value) (l : List UInt8) : Prop := w.ownsRow base 5 1 v l.length (bcs l)

theorem Own.bytes {w : World} {base : Nat} {v : Value} {l : List UInt8} (h : Own w base v l) : ∃ a cap, v = .slice a l.length cap ∧ Bytes w a l := by
  obtain ⟨hl, ⟨rfl, hn⟩ | ⟨g, cap, cur, rfl, hg, hh, hnc, hcm, hcs, htk⟩⟩ := h
  · exact ⟨none, 0, by rw [hn], .inl (List.eq_nil_of_length_eq_zero hn)⟩
  · refine ⟨_, cap, rfl, .inr ⟨g, 0, rfl, ?_, ?_⟩⟩
    · rcases Nat.lt_or_ge g w.heap.size with h | h
      · exact h
      · rw [Array.getElem?_eq_none h] at hh
        simp at hh
    · intro j hj
      have hown : w.ownsRow base 5 1 (.slice (some ⟨g, 0, none⟩) l.length cap) l.length (bcs l) := ⟨hl, .inr ⟨g, cap, cur, rfl, hg, hh, hnc, hcm, hcs, htk⟩⟩
      have := hown.cellAt j (by omega)
      simp only [Nat.zero_add]
      rw [this, bcs_get hj]

theorem convert_bytes (w : World) (a : Option Addr) (cap : Nat) (l : List UInt8) (h : Bytes w a l) :
    (convert 76 9 (.slice a l.length cap)).run Tryz.prog w = .ok (.string ⟨l.toArray⟩) w := by
  cases a with
  | none =>
    obtain rfl : l = [] := by rcases h with h | ⟨_, _, he, _⟩; exact h; simp at he
    rw [run_convert_bytes_string w 76 9 5 none _ cap Tryz.underlying76 Tryz.underlying5 Tryz.underlying9]
    simp [Conv.bytesToString]
    rfl
  | some ad =>
    refine run_convert_bytes_back w 76 9 5 ad cap l Tryz.underlying76 Tryz.underlying5 Tryz.underlying9 ?_
    intro j hj
    rcases h with rfl | ⟨b, off, he, _, hc⟩
    · simp at hj
    · simp only [Option.some.injEq] at he
      subst he
      have e : (⟨b, off, none⟩ : Addr).add j = ⟨b, off + j, none⟩ := by cases j <;> simp [Addr.add]
      rw [e]
      exact hc j hj
end Go.Proofs.YtbhiabcgjnfpoaaGreatDoor.En

/-
  Leaf contracts of package chars and of the document's answer: which bytes and characters are of which kind.
-/
import Derived.Test.YtbhiabcgjnfpoaaGreatDoorProg
import Derived.WalkKit
import Derived.WalkSpells
import Derived.WalkLawsBesides
import Derived.Laws.IdiomStrings
namespace Go.Proofs.YtbhiabcgjnfpoaaGreatDoor
open Go.RowKit

theorem ret_int {k : IntKind} {a b : Int} (h : a = b) : Ending.returned (.int k a) = .returned (.int k b) := by rw [h]
theorem ret_ib {k : IntKind} {a b : Int} {p q : Bool} (h : a = b) (g : p = q) : Ending.returned (.tuple #[.int k a, .bool p]) = .returned (.tuple #[.int k b, .bool q]) := by rw [h, g]
theorem ret_ii {k : IntKind} {a b c d : Int} (h : a = b) (g : c = d) : Ending.returned (.tuple #[.int k a, .int k c]) = .returned (.tuple #[.int k b, .int k d]) := by rw [h, g]
theorem ret_bool {p q : Bool} (g : p = q) : Ending.returned (.bool p) = .returned (.bool q) := by rw [g]
theorem ret_str {p q : ByteArray} (g : p = q) : Ending.returned (.string p) = .returned (.string q) := by rw [g]
theorem ret_sb {a b : ByteArray} {p q : Bool} (h : a = b) (g : p = q) : Ending.returned (.tuple #[.string a, .bool p]) = .returned (.tuple #[.string b, .bool q]) := by rw [h, g]

def upB (c : Int) : Bool := decide (65 ≤ c ∧ c ≤ 90)
def digB (c : Int) : Bool := decide (48 ≤ c ∧ c ≤ 57)
def lodB (c : Int) : Bool := decide (97 ≤ c ∧ c ≤ 122) || digB c
def alnB (c : Int) : Bool := upB c || lodB c
def stayB (c : Int) : Bool := alnB c || (decide (c = 45) || decide (c = 46) || decide (c = 95) || decide (c = 126))
def valB (c : Int) : Bool := decide (c = 9) || decide (32 ≤ c ∧ c ≠ 127)
def bukB (c : Int) : Bool := lodB c || decide (c = 45) || decide (c = 46)
def xmlB (c : Int) : Bool := decide (c = 9 ∨ c = 10 ∨ c = 13 ∨ (32 ≤ c ∧ c ≠ 65534 ∧ c ≠ 65535))
def charB (c : Int) : Bool := decide (c = 9 ∨ c = 10 ∨ c = 13 ∨ (32 ≤ c ∧ c ≤ 55295) ∨ (57344 ≤ c ∧ c ≤ 65533) ∨ (65536 ≤ c ∧ c ≤ 1114111))
def blkB (c : Int) : Bool := decide (c = 32 ∨ c = 9)
def nzB (c : Int) : Bool := decide (c ≠ 0)
def hvOk (c : Int) : Bool := decide ((48 ≤ c ∧ c ≤ 57) ∨ (65 ≤ c ∧ c ≤ 70) ∨ (97 ≤ c ∧ c ≤ 102))
def hvN (c : Int) : Int := if 48 ≤ c ∧ c ≤ 57 then c - 48 else if 65 ≤ c ∧ c ≤ 70 then c - 55 else if 97 ≤ c ∧ c ≤ 102 then c - 87 else 0
def dgN (c : Int) : Int := if hvOk c then hvN c else -1

theorem isDigit_any (c : Int) (w : World) (_h0 : 0 ≤ c) (_h1 : c ≤ 255) :
    Calls Tryz.prog 135 #[.int .u8 c] w fun e w' => e = .returned (.bool (digB c)) ∧ w = w' := by
  go_enter Tryz.func135, Tryz.ntmps135
  go_wp2
  all_goals
    go_ret
    exact ⟨ret_bool (by rw [Bool.eq_iff_iff]; simp [digB]; try omega), rfl⟩
theorem isLowerOrDigit_any (c : Int) (w : World) (_h0 : 0 ≤ c) (_h1 : c ≤ 255) :
    Calls Tryz.prog 127 #[.int .u8 c] w fun e w' => e = .returned (.bool (lodB c)) ∧ w = w' := by
  go_enter Tryz.func127, Tryz.ntmps127
  go_wp2
  all_goals
    go_ret
    exact ⟨ret_bool (by rw [Bool.eq_iff_iff]; simp [lodB, digB]; try omega), rfl⟩
theorem isBucketByte_any (c : Int) (w : World) (_h0 : 0 ≤ c) (_h1 : c ≤ 255) :
    Calls Tryz.prog 126 #[.int .u8 c] w fun e w' => e = .returned (.bool (bukB c)) ∧ w = w' := by
  go_enter Tryz.func126, Tryz.ntmps126
  go_wp2
  all_goals
    go_ret
    exact ⟨ret_bool (by rw [Bool.eq_iff_iff]; simp [bukB, lodB, digB]; try omega), rfl⟩
theorem isNotZero_any (c : Int) (w : World) (_h0 : 0 ≤ c) (_h1 : c ≤ 1114111) :
    Calls Tryz.prog 131 #[.int .i32 c] w fun e w' => e = .returned (.bool (nzB c)) ∧ w = w' := by
  go_enter Tryz.func131, Tryz.ntmps131
  go_wp2
  all_goals
    go_ret
    exact ⟨ret_bool (by rw [Bool.eq_iff_iff]; simp [nzB]; try omega), rfl⟩

theorem hv_bd (c : Int) : 0 ≤ hvN c ∧ hvN c ≤ 15 := by unfold hvN; split <;> (try split) <;> (try split) <;> omega
end Go.Proofs.YtbhiabcgjnfpoaaGreatDoor
/-
  What a slice of bytes holds, told by a list of bytes; how it stays behind later calls.
-/
namespace Go.Proofs.YtbhiabcgjnfpoaaGreatDoor
open Go.RowKit

theorem info5 : (Tryz.prog.info? 5).map (fun i => (i.zero, i.size, i.bytes)) = some (some (.int .u8 0), 1, 1) := by kernel_rfl
theorem info9 : (Tryz.prog.info? 9).map (fun i => (i.zero, i.size, i.bytes)) = some (some (.string ⟨#[]⟩), 1, 16) := by kernel_rfl

/-- The cells of a list of bytes. -/
def bcs (l : List UInt8) : List Value := l.map fun c => Value.int .u8 (c.toNat : Int)

theorem bcs_length (l : List UInt8) : (bcs l).length = l.length := by simp [bcs]
theorem bcs_append (l m : List UInt8) : bcs (l ++ m) = bcs l ++ bcs m := by simp [bcs]
theorem bcs_one (l : List UInt8) : ∀ u ∈ bcs l, u.oneCell' = true := by
  intro u hu
  simp only [bcs, List.mem_map] at hu
  obtain ⟨c, _, rfl⟩ := hu
  rfl
theorem bcs_get {l : List UInt8} {j : Nat} (h : j < l.length) : (bcs l)[j]? = some (.int .u8 (l[j].toNat : Int)) := by
  simp [bcs, List.getElem?_eq_getElem h]

/-- The slice's head leads to the bytes l (or there are none). -/
def Bytes (w : World) (a : Option Addr) (l : List UInt8) : Prop :=
  l = [] ∨ ∃ b off, a = some ⟨b, off, none⟩ ∧ b < w.heap.size ∧ ∀ j (h : j < l.length), w.cell? ⟨b, off + j, none⟩ = some (.int .u8 (l[j].toNat : Int))

theorem Bytes.at {w : World} {a : Option Addr} {l : List UInt8} (h : Bytes w a l) {k : Nat} (hk : k < l.length) :
    ∃ b off, a = some ⟨b, off, none⟩ ∧ b < w.heap.size ∧ ∀ j (h : j < l.length), w.cell? ⟨b, off + j, none⟩ = some (.int .u8 (l[j].toNat : Int)) := by
  rcases h with rfl | h
  · simp at hk
  · exact h

theorem Bytes.below {w w' : World} {a : Option Addr} {l : List UInt8} (h : Bytes w a l) {B : Nat} (hb : Below B w w') (hB : w.heap.size ≤ B) : Bytes w' a l := by
  rcases h with rfl | ⟨b, off, rfl, hb', hc⟩
  · exact .inl rfl
  · refine .inr ⟨b, off, rfl, by have := hb.size; omega, fun j hj => ?_⟩
    rw [hb.cell (p := ⟨b, off + j, none⟩) (by show b < B; omega)]
    exact hc j hj

/-- A row of the call's own. -/
def Own (w : World) (base : Nat) (v : Value) (l : List UInt8) : Prop := w.ownsRow base 5 1 v l.length (bcs l)

theorem Own.bytes {w : World} {base : Nat} {v : Value} {l : List UInt8} (h : Own w base v l) : ∃ a cap, v = .slice a l.length cap ∧ Bytes w a l := by
  obtain ⟨hl, ⟨rfl, hn⟩ | ⟨g, cap, cur, rfl, hg, hh, hnc, hcm, hcs, htk⟩⟩ := h
  · exact ⟨none, 0, by rw [hn], .inl (List.eq_nil_of_length_eq_zero hn)⟩
  · refine ⟨_, cap, rfl, .inr ⟨g, 0, rfl, ?_, ?_⟩⟩
    · rcases Nat.lt_or_ge g w.heap.size with h | h
      · exact h
      · rw [Array.getElem?_eq_none h] at hh
        simp at hh
    · intro j hj
      have hown : w.ownsRow base 5 1 (.slice (some ⟨g, 0, none⟩) l.length cap) l.length (bcs l) := ⟨hl, .inr ⟨g, cap, cur, rfl, hg, hh, hnc, hcm, hcs, htk⟩⟩
      have := hown.cellAt j (by omega)
      simp only [Nat.zero_add]
      rw [this, bcs_get hj]

theorem convert_bytes (w : World) (a : Option Addr) (cap : Nat) (l : List UInt8) (h : Bytes w a l) :
    (convert 76 9 (.slice a l.length cap)).run Tryz.prog w = .ok (.string ⟨l.toArray⟩) w := by
  cases a with
  | none =>
    obtain rfl : l = [] := by rcases h with h | ⟨_, _, he, _⟩; exact h; simp at he
    rw [run_convert_bytes_string w 76 9 5 none _ cap Tryz.underlying76 Tryz.underlying5 Tryz.underlying9]
    simp [Conv.bytesToString]
    rfl
  | some ad =>
    refine run_convert_bytes_back w 76 9 5 ad cap l Tryz.underlying76 Tryz.underlying5 Tryz.underlying9 ?_
    intro j hj
    rcases h with rfl | ⟨b, off, he, _, hc⟩
    · simp at hj
    · simp only [Option.some.injEq] at he
      subst he
      have e : (⟨b, off, none⟩ : Addr).add j = ⟨b, off + j, none⟩ := by cases j <;> simp [Addr.add]
      rw [e]
      exact hc j hj
end Go.Proofs.YtbhiabcgjnfpoaaGreatDoor

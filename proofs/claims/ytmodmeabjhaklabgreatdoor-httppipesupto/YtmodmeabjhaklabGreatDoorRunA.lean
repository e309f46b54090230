/-
  Leaf contracts of package chars and of the document's answer: which bytes and characters are of which kind.
-/
import Derived.Test.YtmodmeabjhaklabGreatDoorProg
import Derived.WalkKit
import Derived.WalkSpells
import Derived.WalkLawsBesides
import Derived.Laws.IdiomStrings
import Derived.Deep.RegionHeld3
import Derived.Shelf.Strings.Prefix
import Derived.Shelf.Small.Strs
import Derived.Shelf.Strings.Search3
import Derived.Shelf.Strings.Split
import Derived.Shelf.Strings.SlTrimAscii
import Derived.Lib.SplitLaws
import Derived.Lib.IndexBytes
import Derived.Lib.DecodeN
import Derived.Lib.OthersKept
import Derived.Deep.LoopGhost
import Derived.Deep.DeepMust
import Derived.LoopN
import Derived.Deep.QuietTactic
import Derived.BigQuiet
namespace Go.Proofs.YtmodmeabjhaklabGreatDoor
open Go.RowKit

theorem ret_int {k : IntKind} {a b : Int} (h : a = b) : Ending.returned (.int k a) = .returned (.int k b) := by rw [h]
theorem ret_ib {k : IntKind} {a b : Int} {p q : Bool} (h : a = b) (g : p = q) : Ending.returned (.tuple #[.int k a, .bool p]) = .returned (.tuple #[.int k b, .bool q]) := by rw [h, g]
theorem ret_ii {k : IntKind} {a b c d : Int} (h : a = b) (g : c = d) : Ending.returned (.tuple #[.int k a, .int k c]) = .returned (.tuple #[.int k b, .int k d]) := by rw [h, g]
theorem ret_bool {p q : Bool} (g : p = q) : Ending.returned (.bool p) = .returned (.bool q) := by rw [g]
theorem ret_str {p q : ByteArray} (g : p = q) : Ending.returned (.string p) = .returned (.string q) := by rw [g]
theorem ret_sb {a b : ByteArray} {p q : Bool} (h : a = b) (g : p = q) : Ending.returned (.tuple #[.string a, .bool p]) = .returned (.tuple #[.string b, .bool q]) := by rw [h, g]

def upB (c : Int) : Bool := decide (65 ≤ c ∧ c ≤ 90)
def digB (c : Int) : Bool := decide (48 ≤ c ∧ c ≤ 57)
def lodB (c : Int) : Bool := decide (97 ≤ c ∧ c ≤ 122) || digB c
def alnB (c : Int) : Bool := upB c || lodB c
def stayB (c : Int) : Bool := alnB c || (decide (c = 45) || decide (c = 46) || decide (c = 95) || decide (c = 126))
def valB (c : Int) : Bool := decide (c = 9) || decide (32 ≤ c ∧ c ≠ 127)
def bukB (c : Int) : Bool := lodB c || decide (c = 45) || decide (c = 46)
def xmlB (c : Int) : Bool := decide (c = 9 ∨ c = 10 ∨ c = 13 ∨ (32 ≤ c ∧ c ≠ 65534 ∧ c ≠ 65535))
def charB (c : Int) : Bool := decide (c = 9 ∨ c = 10 ∨ c = 13 ∨ (32 ≤ c ∧ c ≤ 55295) ∨ (57344 ≤ c ∧ c ≤ 65533) ∨ (65536 ≤ c ∧ c ≤ 1114111))
def blkB (c : Int) : Bool := decide (c = 32 ∨ c = 9)
def nzB (c : Int) : Bool := decide (c ≠ 0)
def hvOk (c : Int) : Bool := decide ((48 ≤ c ∧ c ≤ 57) ∨ (65 ≤ c ∧ c ≤ 70) ∨ (97 ≤ c ∧ c ≤ 102))
def hvN (c : Int) : Int := if 48 ≤ c ∧ c ≤ 57 then c - 48 else if 65 ≤ c ∧ c ≤ 70 then c - 55 else if 97 ≤ c ∧ c ≤ 102 then c - 87 else 0
def dgN (c : Int) : Int := if hvOk c then hvN c else -1

theorem isUpper_any (c : Int) (w : World) (_h0 : 0 ≤ c) (_h1 : c ≤ 255) :
    Calls Tryz.prog 82 #[.int .u8 c] w fun e w' => e = .returned (.bool (upB c)) ∧ w = w' := by
  go_enter Tryz.func82, Tryz.ntmps82
  go_wp2
  all_goals
    go_ret
    exact ⟨ret_bool (by rw [Bool.eq_iff_iff]; simp [upB]; try omega), rfl⟩
theorem isDigit_any (c : Int) (w : World) (_h0 : 0 ≤ c) (_h1 : c ≤ 255) :
    Calls Tryz.prog 120 #[.int .u8 c] w fun e w' => e = .returned (.bool (digB c)) ∧ w = w' := by
  go_enter Tryz.func120, Tryz.ntmps120
  go_wp2
  all_goals
    go_ret
    exact ⟨ret_bool (by rw [Bool.eq_iff_iff]; simp [digB]; try omega), rfl⟩
theorem isLowerOrDigit_any (c : Int) (w : World) (_h0 : 0 ≤ c) (_h1 : c ≤ 255) :
    Calls Tryz.prog 111 #[.int .u8 c] w fun e w' => e = .returned (.bool (lodB c)) ∧ w = w' := by
  go_enter Tryz.func111, Tryz.ntmps111
  go_wp2
  all_goals
    go_ret
    exact ⟨ret_bool (by rw [Bool.eq_iff_iff]; simp [lodB, digB]; try omega), rfl⟩
theorem isLetterOrDigit_any (c : Int) (w : World) (_h0 : 0 ≤ c) (_h1 : c ≤ 255) :
    Calls Tryz.prog 93 #[.int .u8 c] w fun e w' => e = .returned (.bool (alnB c)) ∧ w = w' := by
  go_enter Tryz.func93, Tryz.ntmps93
  go_wp2
  all_goals
    go_ret
    exact ⟨ret_bool (by rw [Bool.eq_iff_iff]; simp [alnB, upB, lodB, digB]; try omega), rfl⟩
theorem isValueByte_any (c : Int) (w : World) (_h0 : 0 ≤ c) (_h1 : c ≤ 255) :
    Calls Tryz.prog 81 #[.int .u8 c] w fun e w' => e = .returned (.bool (valB c)) ∧ w = w' := by
  go_enter Tryz.func81, Tryz.ntmps81
  go_wp2
  all_goals
    go_ret
    exact ⟨ret_bool (by rw [Bool.eq_iff_iff]; simp [valB]; try omega), rfl⟩
theorem refAlnum_any (c : Int) (w : World) (_h0 : 0 ≤ c) (_h1 : c ≤ 255) :
    Calls Tryz.prog 67 #[.int .u8 c] w fun e w' => e = .returned (.bool (alnB c)) ∧ w = w' := by
  go_enter Tryz.func67, Tryz.ntmps67
  go_wp2
  all_goals
    go_ret
    exact ⟨ret_bool (by rw [Bool.eq_iff_iff]; simp [alnB, upB, lodB, digB]; try omega), rfl⟩
theorem hv_bd (c : Int) : 0 ≤ hvN c ∧ hvN c ≤ 15 := by unfold hvN; split <;> (try split) <;> (try split) <;> omega
theorem refDigit_any (c : Int) (w : World) (_h0 : 0 ≤ c) (_h1 : c ≤ 255) :
    Calls Tryz.prog 71 #[.int .u8 c] w fun e w' => e = .returned (.int .i64 (dgN c)) ∧ w = w' := by
  go_enter Tryz.func71, Tryz.ntmps71
  go_wp2
  all_goals
    go_ret
    exact ⟨ret_int (by simp only [dgN, hvOk, hvN, decide_eq_true_eq]; (repeat' split) <;> omega), rfl⟩
end Go.Proofs.YtmodmeabjhaklabGreatDoor
/-
  What a slice of bytes holds, told by a list of bytes; how it stays behind later calls.
-/
namespace Go.Proofs.YtmodmeabjhaklabGreatDoor
open Go.RowKit

theorem info5 : (Tryz.prog.info? 5).map (fun i => (i.zero, i.size, i.bytes)) = some (some (.int .u8 0), 1, 1) := by kernel_rfl
theorem info9 : (Tryz.prog.info? 9).map (fun i => (i.zero, i.size, i.bytes)) = some (some (.string ⟨#[]⟩), 1, 16) := by kernel_rfl

/-- The cells of a list of bytes. -/
def bcs (l : List UInt8) : List Value := l.map fun c => Value.int .u8 (c.toNat : Int)

theorem bcs_length (l : List UInt8) : (bcs l).length = l.length := by simp [bcs]
theorem bcs_append (l m : List UInt8) : bcs (l ++ m) = bcs l ++ bcs m := by simp [bcs]
theorem bcs_one (l : List UInt8) : ∀ u ∈ bcs l, u.oneCell' = true := by
  intro u hu
  simp only [bcs, List.mem_map] at hu
  obtain ⟨c, _, rfl⟩ := hu
  rfl
theorem bcs_get {l : List UInt8} {j : Nat} (h : j < l.length) : (bcs l)[j]? = some (.int .u8 (l[j].toNat : Int)) := by
  simp [bcs, List.getElem?_eq_getElem h]

/-- The slice's head leads to the bytes l (or there are none). -/
def Bytes (w : World) (a : Option Addr) (l : List UInt8) : Prop :=
  l = [] ∨ ∃ b off, a = some ⟨b, off, none⟩ ∧ b < w.heap.size ∧ ∀ j (h : j < l.length), w.cell? ⟨b, off + j, none⟩ = some (.int .u8 (l[j].toNat : Int))

theorem Bytes.at {w : World} {a : Option Addr} {l : List UInt8} (h : Bytes w a l) {k : Nat} (hk : k < l.length) :
    ∃ b off, a = some ⟨b, off, none⟩ ∧ b < w.heap.size ∧ ∀ j (h : j < l.length), w.cell? ⟨b, off + j, none⟩ = some (.int .u8 (l[j].toNat : Int)) := by
  rcases h with rfl | h
  · simp at hk
  · exact h

theorem Bytes.below {w w' : World} {a : Option Addr} {l : List UInt8} (h : Bytes w a l) {B : Nat} (hb : Below B w w') (hB : w.heap.size ≤ B) : Bytes w' a l := by
  rcases h with rfl | ⟨b, off, rfl, hb', hc⟩
  · exact .inl rfl
  · refine .inr ⟨b, off, rfl, by have := hb.size; omega, fun j hj => ?_⟩
    rw [hb.cell (p := ⟨b, off + j, none⟩) (by show b < B; omega)]
    exact hc j hj

/-- A row of the call's own. -/
def Own (w : World) (base : Nat) (v : Value) (l : List UInt8) : Prop := w.ownsRow base 5 1 v l.length (bcs l)

theorem Own.bytes {w : World} {base : Nat} {v : Value} {l : List UInt8} (h : Own w base v l) : ∃ a cap, v = .slice a l.length cap ∧ Bytes w a l := by
  obtain ⟨hl, ⟨rfl, hn⟩ | ⟨g, cap, cur, rfl, hg, hh, hnc, hcm, hcs, htk⟩⟩ := h
  · exact ⟨none, 0, by rw [hn], .inl (List.eq_nil_of_length_eq_zero hn)⟩
  · refine ⟨_, cap, rfl, .inr ⟨g, 0, rfl, ?_, ?_⟩⟩
    · rcases Nat.lt_or_ge g w.heap.size with h | h
      · exact h
      · rw [Array.getElem?_eq_none h] at hh
        simp at hh
    · intro j hj
      have hown : w.ownsRow base 5 1 (.slice (some ⟨g, 0, none⟩) l.length cap) l.length (bcs l) := ⟨hl, .inr ⟨g, cap, cur, rfl, hg, hh, hnc, hcm, hcs, htk⟩⟩
      have := hown.cellAt j (by omega)
      simp only [Nat.zero_add]
      rw [this, bcs_get hj]

theorem convert_bytes (w : World) (a : Option Addr) (cap : Nat) (l : List UInt8) (h : Bytes w a l) :
    (convert 22 9 (.slice a l.length cap)).run Tryz.prog w = .ok (.string ⟨l.toArray⟩) w := by
  cases a with
  | none =>
    obtain rfl : l = [] := by rcases h with h | ⟨_, _, he, _⟩; exact h; simp at he
    rw [run_convert_bytes_string w 22 9 5 none _ cap Tryz.underlying22 Tryz.underlying5 Tryz.underlying9]
    simp [Conv.bytesToString]
    rfl
  | some ad =>
    refine run_convert_bytes_back w 22 9 5 ad cap l Tryz.underlying22 Tryz.underlying5 Tryz.underlying9 ?_
    intro j hj
    rcases h with rfl | ⟨b, off, he, _, hc⟩
    · simp at hj
    · simp only [Option.some.injEq] at he
      subst he
      have e : (⟨b, off, none⟩ : Addr).add j = ⟨b, off + j, none⟩ := by cases j <;> simp [Addr.add]
      rw [e]
      exact hc j hj
end Go.Proofs.YtmodmeabjhaklabGreatDoor
/-
  chars.Escape by its contract.
-/
namespace Go.Proofs.YtmodmeabjhaklabGreatDoor
open Go.RowKit

def hx (v : Nat) : UInt8 := UInt8.ofNat (if v < 10 then 48 + v else 55 + v)
def stays (slash : Bool) (c : UInt8) : Bool := stayB (c.toNat : Int) || (slash && decide ((c.toNat : Int) = 47))
def e1 (slash : Bool) (c : UInt8) : List UInt8 := if stays slash c then [c] else [37, hx (c.toNat / 16), hx (c.toNat % 16)]
def escL (slash : Bool) (l : List UInt8) : List UInt8 := l.flatMap (e1 slash)
theorem e1_len (slash : Bool) (c : UInt8) : (e1 slash c).length ≤ 3 := by unfold e1; split <;> simp
theorem escL_len (slash : Bool) (l : List UInt8) : (escL slash l).length ≤ 3 * l.length := by
  unfold escL
  induction l with
  | nil => simp
  | cons a r ih =>
    have := e1_len slash a
    simp only [List.flatMap_cons, List.length_append, List.length_cons]
    omega
theorem escL_snoc (slash : Bool) (l : List UInt8) (k : Nat) (h : k < l.length) : escL slash (l.take (k + 1)) = escL slash (l.take k) ++ e1 slash l[k] := by
  rw [List.take_succ_eq_append_getElem h, escL, List.flatMap_append]
  simp only [List.flatMap_cons, List.flatMap_nil, List.append_nil]
  rfl

def hxI (v : Int) : Int := if v < 10 then 48 + v else 55 + v
def hexUp : ByteArray := ⟨#[48, 49, 50, 51, 52, 53, 54, 55, 56, 57, 65, 66, 67, 68, 69, 70]⟩
theorem hexUp_at : ∀ v : Fin 16, ((hexUp[v.val]'(by have := v.isLt; show v.val < 16; omega)).toNat : Int) = hxI (v.val : Int) := by decide +kernel
theorem hx_at (v : Int) (h0 : 0 ≤ v) (hv : v < 16) (w : World) :
    (Instr.index 9 (.string ⟨#[48, 49, 50, 51, 52, 53, 54, 55, 56, 57, 65, 66, 67, 68, 69, 70]⟩) (.int .u8 v)).run Tryz.prog w = .ok (.int .u8 (hxI v)) w := by
  obtain ⟨n, rfl⟩ := Int.eq_ofNat_of_zero_le h0
  rw [run_index_string w 9 _ .u8 _ Tryz.underlying9, dif_pos ⟨h0, hv⟩]
  have := hexUp_at ⟨n, by omega⟩
  exact congrArg (fun z => Result.ok (Value.int .u8 z) w) this
theorem hx_cell (n : Nat) (h : n < 16) : ((hx n).toNat : Int) = hxI (n : Int) := by
  unfold hx hxI
  rw [UInt8.toNat_ofNat']
  split <;> split <;> omega
theorem and15_t : ∀ n : Nat, n < 256 → bits .and .u8 (n : Int) 15 = (n : Int) % 16 := by decide +kernel
theorem e1_cells_no {slash : Bool} {c : UInt8} {n : Nat} (hn : n = c.toNat) (h : stays slash c = false) : bcs (e1 slash c) = [.int .u8 37, .int .u8 (hxI ((n : Int) / 16)), .int .u8 (hxI ((n : Int) % 16))] := by
  have := c.toNat_lt
  rw [e1, h, hn]
  simp only [Bool.false_eq_true, if_false, bcs, List.map_cons, List.map_nil]
  rw [hx_cell _ (by omega), hx_cell _ (by omega)]
  rfl
theorem e1_cells_yes {slash : Bool} {c : UInt8} {n : Nat} (hn : n = c.toNat) (h : stays slash c = true) : bcs (e1 slash c) = [.int .u8 (n : Int)] := by
  rw [e1, h, hn]
  rfl
theorem own_more {w : World} {base : Nat} {v : Value} {l m : List UInt8} {xs : List Value} {k : Nat} (hk : m.length = k) (hm : bcs m = xs) (h : w.ownsRow base 5 1 v (l.length + k) (bcs l ++ xs)) : Own w base v (l ++ m) := by
  subst hk hm
  rw [Own, List.length_append, bcs_append]
  exact h
theorem step_append_own {P : Program} {w : World} {ops : Array Oper} {o : Oper} {a : Act} {K : Act → World → Prop} {Q : Exit → Act → World → Prop} {E : Prop} (hgd : o.guard = none) (s x : Operand) (t : TypeId)
    (ho : o.op = .call { callee := .builtin .append, args := #[s, x], argTypes := #[t, t] })
    (base : Nat) (e : TypeId) (i : TypeInfo) (z : Value) (size bytes : Nat) (ht : P.underlying t = some (.slice e)) (hi : P.info? e = some i) (hz : i.zero = some z)
    (hsize : i.size = size) (hby : i.bytes = bytes) (hzs : z.cells.size = size) (hsz : 0 < size)
    (v : Value) (n : Nat) (xs : List Value) (hs : a.eval s = v) (hown : w.ownsRow base e size v n xs)
    (ad : Addr) (m c : Nat) (news : List Value) (hx : a.eval x = .slice (some ad) m c) (hl : news.length = m * size) (hnews : ∀ j u, news[j]? = some u → w.cell? (ad.add j) = some u) (h1 : ∀ u ∈ news, u.oneCell' = true)
    (h63 : n + m ≤ maxLen) (hbytes : (n + m) * bytes ≤ 140737488355328) (hbase : base ≤ w.heap.size)
    (h : ∀ v' w', w'.ownsRow base e size v' (n + m) (xs ++ news) → w.grownBy w' v.ownBlock → K (a.put o.dst v') w') :
    if Region.wanted o (yielded ops a.tmps) = true then Oper.wp P o a w K Q else E := by
  have hw : Region.wanted o (yielded ops a.tmps) = true := by simp [Region.wanted, hgd]
  rw [if_pos hw]
  exact wp_append_own w s x t ho base e i z size bytes ht hi hz hsize hby hzs hsz v n xs hs hown ad m c news hx hl hnews h1 h63 hbytes hbase fun v' w' h2 h3 _ => h v' w' h2 h3
theorem cell_three_new (w : World) (a b c : Value) (t : TypeId) : ∀ j u, [a, b, c][j]? = some u → (w.alloc (.cells #[a, b, c] t)).cell? ((⟨w.heap.size, 0, none⟩ : Addr).add j) = some u := by
  intro j u hj
  rw [Addr.add_lit, World.cell?_alloc_mark]
  simpa using hj
theorem three_one (a b c : Int) : ∀ u ∈ [Value.int .u8 a, .int .u8 b, .int .u8 c], u.oneCell' = true := by
  intro u hu
  simp at hu
  rcases hu with rfl | rfl | rfl <;> rfl
theorem one_one (x : Value) (h : x.oneCell' = true) : ∀ u ∈ [x], u.oneCell' = true := by
  intro u hu
  simp only [List.mem_singleton] at hu
  subst hu
  exact h
end Go.Proofs.YtmodmeabjhaklabGreatDoor
/-
  Layings of the library's contracts at this program.
-/
namespace Go.Proofs
open Go.Shelf
def YtmodmeabjhaklabGreatDoor.lays99_ren : Go.Shelf.Ren := ⟨fun | 99 => 40 | 206 => 64 | n => n, fun | 3 => 3 | 4 => 4 | 9 => 9 | n => n, fun | n => n⟩
theorem YtmodmeabjhaklabGreatDoor.lays99 : Go.Proofs.Lays.n99 Tryz.prog YtmodmeabjhaklabGreatDoor.lays99_ren := {
  mixed := by kernel_rfl
  f99 := Tryz.func40.trans (congrArg some (by kernel_rfl))
  f206 := Tryz.func64.trans (congrArg some (by kernel_rfl))
  t3 := Tryz.underlying3
  a3 := Tryz.isAgg3
  z3 := Tryz.sizeOf3
  v3 := Tryz.zeroValue3
  t4 := Tryz.underlying4
  a4 := Tryz.isAgg4
  z4 := Tryz.sizeOf4
  v4 := Tryz.zeroValue4
  t9 := Tryz.underlying9
  a9 := Tryz.isAgg9
  z9 := Tryz.sizeOf9
  v9 := Tryz.zeroValue9 }
def YtmodmeabjhaklabGreatDoor.lays137_ren : Go.Shelf.Ren := ⟨fun | 137 => 94 | 217 => 90 | 266 => 109 | n => n, fun | 3 => 3 | 5 => 5 | 9 => 9 | n => n, fun | n => n⟩
theorem YtmodmeabjhaklabGreatDoor.lays137 : Go.Proofs.Lays.n137 Tryz.prog YtmodmeabjhaklabGreatDoor.lays137_ren := {
  mixed := by kernel_rfl
  f137 := Tryz.func94.trans (congrArg some (by kernel_rfl))
  f217 := Tryz.func90.trans (congrArg some (by kernel_rfl))
  f266 := Tryz.func109.trans (congrArg some (by kernel_rfl))
  t3 := Tryz.underlying3
  a3 := Tryz.isAgg3
  z3 := Tryz.sizeOf3
  v3 := Tryz.zeroValue3
  t5 := Tryz.underlying5
  a5 := Tryz.isAgg5
  z5 := Tryz.sizeOf5
  v5 := Tryz.zeroValue5
  t9 := Tryz.underlying9
  a9 := Tryz.isAgg9
  z9 := Tryz.sizeOf9
  v9 := Tryz.zeroValue9 }
def YtmodmeabjhaklabGreatDoor.lays146_ren : Go.Shelf.Ren := ⟨fun | 138 => 125 | 143 => 126 | 146 => 102 | 195 => 129 | 197 => 113 | 217 => 90 | 218 => 130 | 219 => 77 | 221 => 116 | 224 => 75 | 225 => 91 | 260 => 121 | 266 => 109 | 267 => 92 | 268 => 124 | 314 => 110 | n => n, fun | 0 => 0 | 3 => 3 | 4 => 4 | 5 => 5 | 9 => 9 | 21 => 21 | 31 => 42 | 46 => 99 | 51 => 105 | 105 => 123 | 119 => 137 | 138 => 139 | 139 => 140 | 146 => 106 | n => n, fun | 1 => 0 | 3 => 3 | 4 => 4 | n => n⟩
theorem YtmodmeabjhaklabGreatDoor.lays146 : Go.Proofs.Lays.n146 Tryz.prog YtmodmeabjhaklabGreatDoor.lays146_ren := {
  mixed := by kernel_rfl
  f138 := Tryz.func125.trans (congrArg some (by kernel_rfl))
  f143 := Tryz.func126.trans (congrArg some (by kernel_rfl))
  f146 := Tryz.func102.trans (congrArg some (by kernel_rfl))
  f195 := Tryz.func129.trans (congrArg some (by kernel_rfl))
  f197 := Tryz.func113.trans (congrArg some (by kernel_rfl))
  f217 := Tryz.func90.trans (congrArg some (by kernel_rfl))
  f218 := Tryz.func130.trans (congrArg some (by kernel_rfl))
  f219 := Tryz.func77.trans (congrArg some (by kernel_rfl))
  f221 := Tryz.func116.trans (congrArg some (by kernel_rfl))
  f224 := Tryz.func75.trans (congrArg some (by kernel_rfl))
  f225 := Tryz.func91.trans (congrArg some (by kernel_rfl))
  f260 := Tryz.func121.trans (congrArg some (by kernel_rfl))
  f266 := Tryz.func109.trans (congrArg some (by kernel_rfl))
  f267 := Tryz.func92.trans (congrArg some (by kernel_rfl))
  f268 := Tryz.func124.trans (congrArg some (by kernel_rfl))
  f314 := Tryz.func110.trans (congrArg some (by kernel_rfl))
  t0 := Tryz.underlying0
  a0 := Tryz.isAgg0
  z0 := Tryz.sizeOf0
  v0 := Tryz.zeroValue0
  t3 := Tryz.underlying3
  a3 := Tryz.isAgg3
  z3 := Tryz.sizeOf3
  v3 := Tryz.zeroValue3
  t4 := Tryz.underlying4
  a4 := Tryz.isAgg4
  z4 := Tryz.sizeOf4
  v4 := Tryz.zeroValue4
  t5 := Tryz.underlying5
  a5 := Tryz.isAgg5
  z5 := Tryz.sizeOf5
  v5 := Tryz.zeroValue5
  t9 := Tryz.underlying9
  a9 := Tryz.isAgg9
  z9 := Tryz.sizeOf9
  v9 := Tryz.zeroValue9
  t21 := Tryz.underlying21
  a21 := Tryz.isAgg21
  z21 := Tryz.sizeOf21
  v21 := Tryz.zeroValue21
  t31 := Tryz.underlying42
  a31 := Tryz.isAgg42
  z31 := Tryz.sizeOf42
  v31 := Tryz.zeroValue42
  t46 := Tryz.underlying99
  a46 := Tryz.isAgg99
  z46 := Tryz.sizeOf99
  v46 := Tryz.zeroValue99
  t51 := Tryz.underlying105
  a51 := Tryz.isAgg105
  z51 := Tryz.sizeOf105
  v51 := Tryz.zeroValue105
  t105 := Tryz.underlying123
  a105 := Tryz.isAgg123
  z105 := Tryz.sizeOf123
  v105 := Tryz.zeroValue123
  t119 := Tryz.underlying137
  a119 := Tryz.isAgg137
  z119 := Tryz.sizeOf137
  t138 := Tryz.underlying139
  a138 := Tryz.isAgg139
  z138 := Tryz.sizeOf139
  v138 := Tryz.zeroValue139
  t139 := Tryz.underlying140
  a139 := Tryz.isAgg140
  z139 := Tryz.sizeOf140
  v139 := Tryz.zeroValue140
  t146 := Tryz.underlying106
  a146 := Tryz.isAgg106
  z146 := Tryz.sizeOf106
  v146 := Tryz.zeroValue106
  g1 := by kernel_rfl
  g3 := by kernel_rfl
  g4 := by kernel_rfl }
def YtmodmeabjhaklabGreatDoor.lays160_ren : Go.Shelf.Ren := ⟨fun | 119 => 128 | 120 => 123 | 137 => 94 | 151 => 114 | 152 => 122 | 160 => 83 | 197 => 113 | 217 => 90 | 224 => 75 | 225 => 91 | 227 => 97 | 228 => 112 | 231 => 95 | 232 => 96 | 233 => 98 | 234 => 99 | 235 => 100 | 236 => 101 | 260 => 121 | 266 => 109 | 271 => 115 | n => n, fun | 0 => 0 | 3 => 3 | 4 => 4 | 5 => 5 | 9 => 9 | 21 => 21 | 46 => 99 | 105 => 123 | 116 => 111 | 117 => 112 | 119 => 137 | 124 => 115 | 138 => 139 | 139 => 140 | n => n, fun | 3 => 3 | 4 => 4 | n => n⟩
theorem YtmodmeabjhaklabGreatDoor.lays160 : Go.Proofs.Lays.n160 Tryz.prog YtmodmeabjhaklabGreatDoor.lays160_ren := {
  mixed := by kernel_rfl
  f119 := Tryz.func128.trans (congrArg some (by kernel_rfl))
  f120 := Tryz.func123.trans (congrArg some (by kernel_rfl))
  f137 := Tryz.func94.trans (congrArg some (by kernel_rfl))
  f151 := Tryz.func114.trans (congrArg some (by kernel_rfl))
  f152 := Tryz.func122.trans (congrArg some (by kernel_rfl))
  f160 := Tryz.func83.trans (congrArg some (by kernel_rfl))
  f197 := Tryz.func113.trans (congrArg some (by kernel_rfl))
  f217 := Tryz.func90.trans (congrArg some (by kernel_rfl))
  f224 := Tryz.func75.trans (congrArg some (by kernel_rfl))
  f225 := Tryz.func91.trans (congrArg some (by kernel_rfl))
  f227 := Tryz.func97.trans (congrArg some (by kernel_rfl))
  f228 := Tryz.func112.trans (congrArg some (by kernel_rfl))
  f231 := Tryz.func95.trans (congrArg some (by kernel_rfl))
  f232 := Tryz.func96.trans (congrArg some (by kernel_rfl))
  f233 := Tryz.func98.trans (congrArg some (by kernel_rfl))
  f234 := Tryz.func99.trans (congrArg some (by kernel_rfl))
  f235 := Tryz.func100.trans (congrArg some (by kernel_rfl))
  f236 := Tryz.func101.trans (congrArg some (by kernel_rfl))
  f260 := Tryz.func121.trans (congrArg some (by kernel_rfl))
  f266 := Tryz.func109.trans (congrArg some (by kernel_rfl))
  f271 := Tryz.func115.trans (congrArg some (by kernel_rfl))
  t0 := Tryz.underlying0
  a0 := Tryz.isAgg0
  z0 := Tryz.sizeOf0
  v0 := Tryz.zeroValue0
  t3 := Tryz.underlying3
  a3 := Tryz.isAgg3
  z3 := Tryz.sizeOf3
  v3 := Tryz.zeroValue3
  t4 := Tryz.underlying4
  a4 := Tryz.isAgg4
  z4 := Tryz.sizeOf4
  v4 := Tryz.zeroValue4
  t5 := Tryz.underlying5
  a5 := Tryz.isAgg5
  z5 := Tryz.sizeOf5
  v5 := Tryz.zeroValue5
  t9 := Tryz.underlying9
  a9 := Tryz.isAgg9
  z9 := Tryz.sizeOf9
  v9 := Tryz.zeroValue9
  t21 := Tryz.underlying21
  a21 := Tryz.isAgg21
  z21 := Tryz.sizeOf21
  v21 := Tryz.zeroValue21
  t46 := Tryz.underlying99
  a46 := Tryz.isAgg99
  z46 := Tryz.sizeOf99
  v46 := Tryz.zeroValue99
  t105 := Tryz.underlying123
  a105 := Tryz.isAgg123
  z105 := Tryz.sizeOf123
  v105 := Tryz.zeroValue123
  t116 := Tryz.underlying111
  a116 := Tryz.isAgg111
  z116 := Tryz.sizeOf111
  t117 := Tryz.underlying112
  a117 := Tryz.isAgg112
  z117 := Tryz.sizeOf112
  v117 := Tryz.zeroValue112
  t119 := Tryz.underlying137
  a119 := Tryz.isAgg137
  z119 := Tryz.sizeOf137
  t124 := Tryz.underlying115
  a124 := Tryz.isAgg115
  z124 := Tryz.sizeOf115
  v124 := Tryz.zeroValue115
  t138 := Tryz.underlying139
  a138 := Tryz.isAgg139
  z138 := Tryz.sizeOf139
  v138 := Tryz.zeroValue139
  t139 := Tryz.underlying140
  a139 := Tryz.isAgg140
  z139 := Tryz.sizeOf140
  v139 := Tryz.zeroValue140
  g3 := by kernel_rfl
  g4 := by kernel_rfl }
open Go.RowKit Go.Lib in
theorem YtmodmeabjhaklabGreatDoor.strings_HasPrefix (s p : ByteArray) (w : World) :
    Calls Tryz.prog 40 #[.string s, .string p] w fun e w' => e = .returned (.bool (Lib.hasPrefix s.data.toList p.data.toList)) ∧ w' = w := Any.strings_HasPrefix YtmodmeabjhaklabGreatDoor.lays99 s p w
open Go.RowKit Go.Lib in
theorem YtmodmeabjhaklabGreatDoor.strings_IndexByte (s : ByteArray) (c : Int) (w : World) :
    Calls Tryz.prog 94 #[.string s, .int .u8 c] w fun e w' => e = .returned (.int .i64 (Lib.indexByte s.data.toList c.toNat.toUInt8)) ∧ w' = w := Any.strings_IndexByte YtmodmeabjhaklabGreatDoor.lays137 s c w
open Go.RowKit Go.Lib in
theorem YtmodmeabjhaklabGreatDoor.strings_Split (s sep : ByteArray) (m : Int) (w : World) (hs : s.size < 4294967281) (hm : w.cell? ⟨0, 0, none⟩ = some (.int .i64 m)) (h1 : 1 ≤ sep.size) :
    Calls Tryz.prog 102 #[.string s, .string sep] w fun e w' =>
      e = .returned (.slice (some ⟨w.heap.size, 0, none⟩) (Lib.countB s sep + 1) (Lib.countB s sep + 1)) ∧ w' = w.alloc (.cells ((Lib.splitB sep 0 (Lib.countB s sep) s).map Value.string).toArray 9) := Any.strings_Split YtmodmeabjhaklabGreatDoor.lays146 (by kernel_rfl) s sep m w hs hm h1
open Go.RowKit Go.Lib in
theorem YtmodmeabjhaklabGreatDoor.strings_Trim (s : ByteArray) (w : World) (hs : s.size ≤ 9223372036854775807) :
    Calls Tryz.prog 83 #[.string s, .string ⟨#[32, 9]⟩] w fun e w' => e = .returned (.string ⟨(Lib.trimS s.data.toList [32, 9]).toArray⟩) ∧ Below w.heap.size w w' :=
  Any.strings_Trim_laid YtmodmeabjhaklabGreatDoor.lays160 (by kernel_rfl) s ⟨#[32, 9]⟩ w hs (by decide) (ascii_of_all (by decide))
end Go.Proofs
/-
  chars.everyByte, Split, isAddress and Bucket by their contracts.
-/
namespace Go.Proofs.YtmodmeabjhaklabGreatDoor
open Go.RowKit

/-- internal/bytealg.MaxLen holds some int. -/
def Mx (w : World) : Prop := ∃ m : Int, w.cell? ⟨0, 0, none⟩ = some (.int .i64 m)
theorem Mx.pos {w : World} (h : Mx w) : 0 < w.heap.size := by
  obtain ⟨m, hm⟩ := h
  exact block_lt_of_cell hm
theorem Mx.below {w w' : World} (h : Mx w) {B : Nat} (hb : Below B w w') (hB : w.heap.size ≤ B) : Mx w' := by
  have hp := h.pos
  obtain ⟨m, hm⟩ := h
  exact ⟨m, by rw [hb.cell (p := ⟨0, 0, none⟩) (by show 0 < B; omega)]; exact hm⟩

def Strs (w : World) (a : Option Addr) (L : List ByteArray) : Prop :=
  L = [] ∨ ∃ b off, a = some ⟨b, off, none⟩ ∧ b < w.heap.size ∧ ∀ j (h : j < L.length), w.cell? ⟨b, off + j, none⟩ = some (.string L[j])
theorem Strs.at {w : World} {a : Option Addr} {L : List ByteArray} (h : Strs w a L) {k : Nat} (hk : k < L.length) :
    ∃ b off, a = some ⟨b, off, none⟩ ∧ b < w.heap.size ∧ ∀ j (h : j < L.length), w.cell? ⟨b, off + j, none⟩ = some (.string L[j]) := by
  rcases h with rfl | h
  · simp at hk
  · exact h
theorem Strs.below {w w' : World} {a : Option Addr} {L : List ByteArray} (h : Strs w a L) {B : Nat} (hb : Below B w w') (hB : w.heap.size ≤ B) : Strs w' a L := by
  rcases h with rfl | ⟨b, off, rfl, hb', hc⟩
  · exact .inl rfl
  · refine .inr ⟨b, off, rfl, by have := hb.size; omega, fun j hj => ?_⟩
    rw [hb.cell (p := ⟨b, off + j, none⟩) (by show b < B; omega)]
    exact hc j hj

def allB (p : Int → Bool) (l : List UInt8) : Bool := l.all fun b => p (b.toNat : Int)
theorem allB_no {p : Int → Bool} {l : List UInt8} {k : Nat} (hk : k < l.length) (h : p (l[k].toNat : Int) = false) : allB p l = false := by
  rw [allB, List.all_eq_false]
  exact ⟨l[k], List.getElem_mem hk, by simp [h]⟩
theorem allB_yes {p : Int → Bool} {l : List UInt8} (h : ∀ j (hj : j < l.length), p (l[j].toNat : Int) = true) : allB p l = true := by
  rw [allB, List.all_eq_true]
  intro x hx
  obtain ⟨j, hj, rfl⟩ := List.getElem_of_mem hx
  exact h j hj

set_option maxHeartbeats 400000 in
theorem everyByte_any (g : Nat) (p : Int → Bool) (eg : ∀ args w, (callFunc g args).run Tryz.prog w = .ok (.enter g args) w) (hp : ∀ (c : Int) (W : World), 0 ≤ c → c ≤ 255 → Calls Tryz.prog g #[.int .u8 c] W fun e w' => e = .returned (.bool (p c)) ∧ W = w') (s : ByteArray) (w : World) (hs : s.size ≤ maxLen) :
    Calls Tryz.prog 78 #[.string s, .func (.func g) #[] #[]] w fun e w' => e = .returned (.bool (allB p s.data.toList)) ∧ w = w' := by
  unfold maxLen at hs
  go_enter Tryz.func78, Tryz.ntmps78
  go_wp2
  go_loop [8] (fun i => ∃ k : Nat, k ≤ s.size ∧ i = .int .i64 k ∧ ∀ j (hj : j < s.data.toList.length), j < k → p (s.data.toList[j].toNat : Int) = true) (fun i => s.size - (intOf i).toNat)
  case atStart => exact ⟨0, Nat.zero_le _, rfl, fun j hj h => by omega⟩
  case round =>
    obtain ⟨k, hk, rfl, hf⟩ := hrel
    have HF : Hid (∀ j (hj : j < s.data.toList.length), j < k → p (s.data.toList[j].toNat : Int) = true) := hf
    clear hf
    by_cases hlt : k < s.size
    · have hlt' : k < s.data.toList.length := by simpa using hlt
      have b1 : (s[k].toNat : Int) ≤ 255 := by have := s[k].toNat_lt; omega
      have HP : Hid (∀ W, Calls Tryz.prog g #[.int .u8 (s[k].toNat : Int)] W fun e w' => e = .returned (.bool (p (s[k].toNat : Int))) ∧ W = w') := fun W => hp _ W (Int.natCast_nonneg _) b1
      clear hp
      cases hh : p (s[k].toNat : Int)
      · have HN : Hid (allB p s.data.toList = false) := allB_no hlt' hh
        rw [hh] at HP
        clear hh
        go_wp2_with (go_at_fn g; refine (HP.out _).mono ?_; rintro e w' ⟨rfl, rfl⟩)
        go_ret
        exact ⟨ret_bool HN.out.symm, rfl⟩
      · have HH : Hid (p (s.data.toList[k].toNat : Int) = true) := hh
        rw [hh] at HP
        clear hh
        go_wp2_with (go_at_fn g; refine (HP.out _).mono ?_; rintro e w' ⟨rfl, rfl⟩)
        go_round
        case rel =>
          refine ⟨k + 1, by omega, by go_num, fun j hj h => ?_⟩
          by_cases e : j = k
          · subst e; exact HH.out
          · exact HF.out j hj (by omega)
        case measure => simp [intOf]; omega
    · have HN : Hid (allB p s.data.toList = true) := allB_yes (fun j hj => HF.out j hj (by simp at hj; have : s.size = s.data.size := rfl; omega))
      go_wp2
      go_ret
      exact ⟨ret_bool HN.out.symm, rfl⟩

/-- What stands between the c's. -/
def splitL (c : UInt8) : List UInt8 → List (List UInt8)
  | [] => [[]]
  | a :: r => if a = c then [] :: splitL c r else match splitL c r with
    | [] => [[a]]
    | x :: xs => (a :: x) :: xs
theorem splitL_ne (c : UInt8) (l : List UInt8) : splitL c l ≠ [] := by
  cases l with
  | nil => simp [splitL]
  | cons a r =>
    unfold splitL
    split
    · simp
    · split <;> simp
theorem splitL_miss {c : UInt8} : ∀ {l : List UInt8}, Lib.indexByte l c = -1 → splitL c l = [l]
  | [], _ => rfl
  | a :: r, h => by
    unfold Lib.indexByte at h
    have hge := Lib.indexByte_ge r c
    by_cases e : a = c
    · rw [if_pos (by simp [e])] at h
      omega
    · rw [if_neg (by simp [e])] at h
      have hr : Lib.indexByte r c = -1 := by
        by_cases hm : Lib.indexByte r c = -1
        · exact hm
        · rw [if_neg (by simp [hm])] at h
          omega
      rw [splitL, if_neg e, splitL_miss hr]
theorem splitL_hit {c : UInt8} : ∀ {l : List UInt8} {i : Nat}, Lib.indexByte l c = (i : Int) → splitL c l = l.take i :: splitL c (l.drop (i + 1))
  | [], i, h => by unfold Lib.indexByte at h; omega
  | a :: r, i, h => by
    unfold Lib.indexByte at h
    have hge := Lib.indexByte_ge r c
    by_cases e : a = c
    · rw [if_pos (by simp [e])] at h
      obtain rfl : i = 0 := by omega
      rw [splitL, if_pos e]
      rfl
    · rw [if_neg (by simp [e])] at h
      by_cases hm : Lib.indexByte r c = -1
      · rw [if_pos (by simp [hm])] at h
        omega
      · rw [if_neg (by simp [hm])] at h
        obtain ⟨i', rfl⟩ : ∃ i', i = i' + 1 := ⟨i - 1, by omega⟩
        rw [splitL, if_neg e, splitL_hit (i := i') (by omega)]
        rfl
theorem splitL_length (c : UInt8) : ∀ l : List UInt8, (splitL c l).length = l.count c + 1
  | [] => rfl
  | a :: r => by
    have ih := splitL_length c r
    by_cases e : a = c
    · rw [splitL, if_pos e, List.length_cons, ih, List.count_cons]
      simp [e]
    · rw [splitL, if_neg e, List.count_cons]
      have hb : (a == c) = false := by simp [e]
      rw [hb]
      cases h : splitL c r with
      | nil => exact absurd h (splitL_ne c r)
      | cons x xs => rw [h] at ih; simpa using ih
theorem count_drop {c : UInt8} : ∀ {l : List UInt8} {i : Nat}, Lib.indexByte l c = (i : Int) → l.count c = (l.drop (i + 1)).count c + 1
  | l, i, h => by
    have h1 := splitL_length c l
    have h2 := splitL_length c (l.drop (i + 1))
    rw [splitL_hit h, List.length_cons] at h1
    omega
theorem splitK_one (c : UInt8) : ∀ (k : Nat) (l : List UInt8), l.count c ≤ k → Lib.splitK [c] 0 k l = splitL c l
  | 0, l, h => by
    have hm : Lib.indexByte l c = -1 := by
      have hge := Lib.indexByte_ge l c
      by_cases e : Lib.indexByte l c = -1
      · exact e
      · obtain ⟨i, hi⟩ : ∃ i : Nat, Lib.indexByte l c = (i : Int) := ⟨(Lib.indexByte l c).toNat, by omega⟩
        have := count_drop hi
        omega
    rw [splitL_miss hm]
    rfl
  | k + 1, l, h => by
    unfold Lib.splitK
    rw [Lib.index_one]
    have hge := Lib.indexByte_ge l c
    by_cases e : Lib.indexByte l c = -1
    · rw [if_pos (by simp [e]), splitL_miss e]
    · obtain ⟨i, hi⟩ : ∃ i : Nat, Lib.indexByte l c = (i : Int) := ⟨(Lib.indexByte l c).toNat, by omega⟩
      have hc := count_drop hi
      rw [if_neg (by simp [e]), hi, splitL_hit hi, splitK_one c k _ (by simpa using by omega)]
      rfl
def splitS (c : UInt8) (s : ByteArray) : List ByteArray := (splitL c s.data.toList).map fun x => ⟨x.toArray⟩
theorem splitB_one (c : UInt8) (s : ByteArray) : Lib.splitB ⟨#[c]⟩ 0 (Lib.countB s ⟨#[c]⟩) s = splitS c s := by
  have hcn : Lib.countB s ⟨#[c]⟩ = s.data.toList.count c := Lib.count_one c s.data.toList
  have h := Lib.splitB_data ⟨#[c]⟩ 0 (Lib.countB s ⟨#[c]⟩) s
  have h2 : Lib.splitK [c] 0 (Lib.countB s ⟨#[c]⟩) s.data.toList = splitL c s.data.toList := splitK_one c _ _ (by omega)
  have h3 : (Lib.splitB ⟨#[c]⟩ 0 (Lib.countB s ⟨#[c]⟩) s).map (·.data.toList) = splitL c s.data.toList := h.trans h2
  rw [splitS, ← h3, List.map_map]
  have : ((fun x => (⟨x.toArray⟩ : ByteArray)) ∘ fun (x : ByteArray) => x.data.toList) = id := by
    funext x
    simp
  rw [this, List.map_id]
theorem splitS_length (c : UInt8) (s : ByteArray) : (splitS c s).length = Lib.countB s ⟨#[c]⟩ + 1 := by
  rw [splitS, List.length_map, splitL_length]
  exact congrArg (· + 1) (Lib.count_one c s.data.toList).symm

theorem sep_bytes (w : World) (c : UInt8) : Bytes (w.alloc (.cells #[.int .u8 (c.toNat : Int)] 5)) (some ⟨w.heap.size, 0, none⟩) [c] := by
  refine .inr ⟨w.heap.size, 0, rfl, by simp, fun j hj => ?_⟩
  rw [World.cell?_alloc_mark]
  match j, hj with
  | 0, _ => rfl

set_option maxHeartbeats 400000 in
theorem split_any (s : ByteArray) (c : UInt8) (w : World) (hs : s.size < 4294967281) (hm : Mx w) :
    Calls Tryz.prog 85 #[.string s, .int .u8 (c.toNat : Int)] w fun e w' => ∃ g, e = .returned (.slice (some ⟨g, 0, none⟩) (splitS c s).length (splitS c s).length) ∧ Strs w' (some ⟨g, 0, none⟩) (splitS c s) ∧ Below w.heap.size w w' := by
  have hcv : (convert 22 9 (.slice (some ⟨w.heap.size, 0, none⟩) 1 1)).run Tryz.prog (w.alloc (.cells #[.int .u8 (c.toNat : Int)] 5)) = .ok (.string ⟨#[c]⟩) (w.alloc (.cells #[.int .u8 (c.toNat : Int)] 5)) := convert_bytes (w.alloc (.cells #[.int .u8 (c.toNat : Int)] 5)) (some ⟨w.heap.size, 0, none⟩) 1 [c] (sep_bytes w c)
  have hB0 : Below w.heap.size w (w.alloc (.cells #[.int .u8 (c.toNat : Int)] 5)) := (Below.refl _ _).alloc (Nat.le_refl _) _
  obtain ⟨m, hm1⟩ := hm.below hB0 (Nat.le_refl _)
  have HSp : Hid (Calls Tryz.prog 102 #[.string s, .string ⟨#[c]⟩] (w.alloc (.cells #[.int .u8 (c.toNat : Int)] 5)) fun e w' =>
      e = .returned (.slice (some ⟨(w.alloc (.cells #[.int .u8 (c.toNat : Int)] 5)).heap.size, 0, none⟩) (Lib.countB s ⟨#[c]⟩ + 1) (Lib.countB s ⟨#[c]⟩ + 1)) ∧ w' = (w.alloc (.cells #[.int .u8 (c.toNat : Int)] 5)).alloc (.cells ((Lib.splitB ⟨#[c]⟩ 0 (Lib.countB s ⟨#[c]⟩) s).map Value.string).toArray 9)) :=
    strings_Split s ⟨#[c]⟩ m _ hs hm1 (Nat.le_refl 1)
  have HB : Hid (Lib.splitB ⟨#[c]⟩ 0 (Lib.countB s ⟨#[c]⟩) s = splitS c s) := splitB_one c s
  have HLn : Hid ((splitS c s).length = Lib.countB s ⟨#[c]⟩ + 1) := splitS_length c s
  clear hm hm1
  go_enter Tryz.func85, Tryz.ntmps85
  go_wp2_with (go_at_call 102; refine HSp.out.mono ?_; rintro e w' ⟨rfl, rfl⟩)
  go_ret
  refine ⟨w.heap.size + 1, ?_, ?_, ?_⟩
  · rw [HLn.out]
    simp
  · refine .inr ⟨w.heap.size + 1, 0, rfl, by simp, fun j hj => ?_⟩
    rw [HB.out]
    have := World.cell?_alloc_mark (w.alloc (.cells #[.int .u8 (c.toNat : Int)] 5)) ((splitS c s).map Value.string).toArray 9 (0, 0) j
    rw [show (w.alloc (.cells #[.int .u8 (c.toNat : Int)] 5)).heap.size = w.heap.size + 1 from by simp] at this
    rw [Nat.zero_add, this]
    simp [List.getElem?_eq_getElem hj]
  · exact ((Below.refl _ _).alloc (Nat.le_refl _) _).alloc (by simp) _
end Go.Proofs.YtmodmeabjhaklabGreatDoor
/-
  chars.escaped and chars.Unescape by their contracts.
-/
namespace Go.Proofs.YtmodmeabjhaklabGreatDoor
open Go.RowKit

def N (c : UInt8) : Int := (c.toNat : Int)
def pv (a b : UInt8) : UInt8 := UInt8.ofNat (16 * hvN (N a) + hvN (N b)).toNat
def une : List UInt8 → Option (List UInt8)
  | [] => some []
  | [a] => if a.toNat = 37 then none else some [a]
  | [a, b] => if a.toNat = 37 then none else (une [b]).map (a :: ·)
  | a :: b :: c :: r => if a.toNat = 37 then (if hvOk (N b) && hvOk (N c) then (une r).map (pv b c :: ·) else none) else (une (b :: c :: r)).map (a :: ·)
theorem une_cons (a : UInt8) (r : List UInt8) (h : a.toNat ≠ 37) : une (a :: r) = (une r).map (a :: ·) := by
  match r with
  | [] => simp [une, h]
  | [b] => simp [une, h]
  | b :: c :: r => rw [une, if_neg h]
theorem une_plain {l : List UInt8} {k : Nat} (hk : k < l.length) (h : l[k].toNat ≠ 37) : une (l.drop k) = (une (l.drop (k + 1))).map (l[k] :: ·) := by
  rw [List.drop_eq_getElem_cons hk, une_cons _ _ h]
theorem une_short {l : List UInt8} {k : Nat} (hk : k < l.length) (h : l[k].toNat = 37) (h2 : l.length ≤ k + 2) : une (l.drop k) = none := by
  by_cases h1 : k + 1 < l.length
  · rw [List.drop_eq_getElem_cons hk, List.drop_eq_getElem_cons h1, List.drop_eq_nil_of_le (by omega), une, if_pos h]
  · rw [List.drop_eq_getElem_cons hk, List.drop_eq_nil_of_le (by omega), une, if_pos h]
theorem une_three {l : List UInt8} {k : Nat} (h2 : k + 2 < l.length) (h : l[k].toNat = 37) : une (l.drop k) = if hvOk (N l[k + 1]) && hvOk (N l[k + 2]) then (une (l.drop (k + 3))).map (pv l[k + 1] l[k + 2] :: ·) else none := by
  rw [List.drop_eq_getElem_cons (by omega : k < l.length), List.drop_eq_getElem_cons (by omega : k + 1 < l.length), List.drop_eq_getElem_cons h2, une, if_pos h]
theorem pv_cell (a b : UInt8) : bcs [pv a b] = [.int .u8 (16 * hvN (N a) + hvN (N b))] := by
  have h1 := hv_bd (N a)
  have h2 := hv_bd (N b)
  simp only [bcs, List.map_cons, List.map_nil]
  rw [pv, UInt8.toNat_ofNat', Nat.mod_eq_of_lt (by omega)]
  congr 2
  omega
theorem or16_table : ∀ x : Nat, x < 16 → ∀ y : Nat, y < 16 → bits .or .u8 ((x : Int) * 16 % 256) (y : Int) = 16 * (x : Int) + (y : Int) := by decide +kernel
theorem or16 {x y : Int} (h1 : 0 ≤ x ∧ x ≤ 15) (h2 : 0 ≤ y ∧ y ≤ 15) : bits .or .u8 (x * 16 % 256) y = 16 * x + y := by
  obtain ⟨a, rfl⟩ := Int.eq_ofNat_of_zero_le h1.1
  obtain ⟨b, rfl⟩ := Int.eq_ofNat_of_zero_le h2.1
  exact or16_table a (by omega) b (by omega)

theorem or16' {x y : Int} (h1 : 0 ≤ x ∧ x ≤ 15) (h2 : 0 ≤ y ∧ y ≤ 15) : bits .or .u8 (x * 16) y = (16 : Int) * x + y := by
  have := or16 h1 h2
  rwa [Int.emod_eq_of_lt (by omega) (by omega)] at this

def uneOk (l : List UInt8) : Bool := (une l).isSome
def uneV (l : List UInt8) : List UInt8 := (une l).getD []
theorem extract_at {s : ByteArray} {i j : Nat} (h : i + j < s.size) (h' : j < (s.extract i s.size).size) : (s.extract i s.size)[j] = s[i + j] := by
  rw [ByteArray.getElem_extract]

end Go.Proofs.YtmodmeabjhaklabGreatDoor
/-
  The plain mathematics of UTF-8: the character that a list of bytes begins with, and how many there are.
-/
namespace Go.Proofs.YtmodmeabjhaklabGreatDoor

def at0 (l : List UInt8) (k : Nat) : Nat := (l.getD k 0).toNat
/-- The model's decoder at the head of a list. -/
def decL (l : List UInt8) : Nat × Nat := Lib.decodeN l.length (at0 l 0) (at0 l 1) (at0 l 2) (at0 l 3)
/-- The character that a list begins with, and its width; width 0: none. -/
def stepL (l : List UInt8) : Nat × Nat := if (decL l).1 = 65533 ∧ (decL l).2 = 1 then (0, 0) else decL l

theorem at0_lt (l : List UInt8) (k : Nat) : at0 l k < 256 := (l.getD k 0).toNat_lt
theorem get_at0 (s : ByteArray) (i k : Nat) : (s.get! (i + k)).toNat = at0 (s.data.toList.drop i) k := by
  unfold at0
  congr 1
  rw [List.getD_eq_getElem?_getD, List.getElem?_drop]
  obtain ⟨⟨l⟩⟩ := s
  show (ByteArray.get! ⟨⟨l⟩⟩ (i + k)) = (l[i + k]?).getD 0
  rw [ByteArray.get!]
  show (Array.mk l)[i + k]! = _
  rw [getElem!_def, List.getElem?_toArray]
  cases l[i + k]? <;> rfl
theorem decode_drop (s : ByteArray) (i : Nat) : Utf8.decode s i = decL (s.data.toList.drop i) := by
  rw [Lib.decode_at, decL]
  have e : s.size - i = (s.data.toList.drop i).length := by simp
  have g0 := get_at0 s i 0
  rw [Nat.add_zero] at g0
  rw [e, g0, get_at0, get_at0, get_at0]

theorem dec_width (n b0 b1 b2 b3 : Nat) (hn : 1 ≤ n) : 1 ≤ (Lib.decodeN n b0 b1 b2 b3).2 ∧ (Lib.decodeN n b0 b1 b2 b3).2 ≤ n ∧ (Lib.decodeN n b0 b1 b2 b3).2 ≤ 4 := by
  unfold Lib.decodeN
  (repeat' split) <;> simp <;> omega
theorem dec_rune (n b0 b1 b2 b3 : Nat) : (Lib.decodeN n b0 b1 b2 b3).1 ≤ 1114111 ∧ ((Lib.decodeN n b0 b1 b2 b3).1 < 55296 ∨ 57344 ≤ (Lib.decodeN n b0 b1 b2 b3).1) := by
  unfold Lib.decodeN
  (repeat' split) <;> simp <;> omega
/-- The replacement character told by its own three bytes is told by them alone. -/
theorem dec_fffd (n b0 b1 b2 b3 : Nat) (hr : (Lib.decodeN n b0 b1 b2 b3).1 = 65533) :
    ((Lib.decodeN n b0 b1 b2 b3).2 = 1 ↔ ¬ (3 ≤ n ∧ b0 = 239 ∧ b1 = 191 ∧ b2 = 189)) := by
  unfold Lib.decodeN at hr ⊢
  (repeat' split) <;> simp_all <;> omega
/-- A character that is one stays so where more bytes follow. -/
theorem dec_more (n m b0 b1 b2 b3 c1 c2 c3 : Nat) (hm : n ≤ m) (h1 : 1 < n → c1 = b1) (h2 : 2 < n → c2 = b2) (h3 : 3 < n → c3 = b3) (hb : ¬ ((Lib.decodeN n b0 b1 b2 b3).1 = 65533 ∧ (Lib.decodeN n b0 b1 b2 b3).2 = 1)) :
    Lib.decodeN m b0 c1 c2 c3 = Lib.decodeN n b0 b1 b2 b3 := by
  have k1 : 1 < n → 1 < m := fun h => by omega
  have k2 : 2 < n → 2 < m := fun h => by omega
  have k3 : 3 < n → 3 < m := fun h => by omega
  unfold Lib.decodeN at hb ⊢
  by_cases a : b0 < 128
  · rw [if_pos a, if_pos a]
  · rw [if_neg a] at hb ⊢
    rw [if_neg a]
    by_cases p2 : b0 / 32 = 6 ∧ (1 < n ∧ b1 / 64 = 2)
    · have e1 := h1 p2.2.1
      subst e1
      rw [if_pos p2, if_pos ⟨p2.1, k1 p2.2.1, p2.2.2⟩]
    · rw [if_neg p2] at hb
      rw [if_neg p2]
      by_cases p3 : b0 / 16 = 14 ∧ (1 < n ∧ b1 / 64 = 2) ∧ (2 < n ∧ b2 / 64 = 2)
      · have e1 := h1 p3.2.1.1
        have e2 := h2 p3.2.2.1
        subst e1 e2
        rw [if_pos p3, if_neg (by omega), if_pos ⟨p3.1, ⟨k1 p3.2.1.1, p3.2.1.2⟩, ⟨k2 p3.2.2.1, p3.2.2.2⟩⟩]
      · rw [if_neg p3] at hb
        rw [if_neg p3]
        by_cases p4 : b0 / 8 = 30 ∧ (1 < n ∧ b1 / 64 = 2) ∧ (2 < n ∧ b2 / 64 = 2) ∧ (3 < n ∧ b3 / 64 = 2)
        · have e1 := h1 p4.2.1.1
          have e2 := h2 p4.2.2.1.1
          have e3 := h3 p4.2.2.2.1
          subst e1 e2 e3
          rw [if_pos p4, if_neg (by omega), if_neg (by omega), if_pos ⟨p4.1, ⟨k1 p4.2.1.1, p4.2.1.2⟩, ⟨k2 p4.2.2.1.1, p4.2.2.1.2⟩, ⟨k3 p4.2.2.2.1, p4.2.2.2.2⟩⟩]
        · rw [if_neg p4] at hb
          exact absurd ⟨rfl, rfl⟩ hb

theorem step_bad {l : List UInt8} (h : (stepL l).2 = 0) (hl : l ≠ []) : (decL l).1 = 65533 ∧ (decL l).2 = 1 := by
  unfold stepL at h
  split at h
  · assumption
  · have := dec_width l.length (at0 l 0) (at0 l 1) (at0 l 2) (at0 l 3) (List.length_pos_iff.2 hl)
    unfold decL at h
    omega
theorem step_good {l : List UInt8} (h : (stepL l).2 ≠ 0) : stepL l = decL l ∧ ¬ ((decL l).1 = 65533 ∧ (decL l).2 = 1) := by
  unfold stepL at h ⊢
  split
  · rename_i hh
    rw [if_pos hh] at h
    exact absurd rfl h
  · rename_i hh
    exact ⟨rfl, hh⟩
theorem step_le (l : List UInt8) (hl : l ≠ []) : (stepL l).2 ≤ l.length ∧ (stepL l).2 ≤ 4 := by
  have := dec_width l.length (at0 l 0) (at0 l 1) (at0 l 2) (at0 l 3) (List.length_pos_iff.2 hl)
  unfold stepL
  split
  · simp
  · exact this.2
theorem step_rune (l : List UInt8) : (stepL l).1 ≤ 1114111 ∧ ((stepL l).1 < 55296 ∨ 57344 ≤ (stepL l).1) := by
  unfold stepL
  split
  · simp
  · exact dec_rune _ _ _ _ _
theorem at0_append {l m : List UInt8} {k : Nat} (h : k < l.length) : at0 (l ++ m) k = at0 l k := by
  unfold at0
  rw [List.getD_eq_getElem?_getD, List.getD_eq_getElem?_getD, List.getElem?_append_left h]
theorem step_append {l : List UInt8} (m : List UInt8) (hl : l ≠ []) (h : (stepL l).2 ≠ 0) : stepL (l ++ m) = stepL l := by
  have hp := List.length_pos_iff.2 hl
  obtain ⟨e, hb⟩ := step_good h
  have hd : decL (l ++ m) = decL l := by
    unfold decL
    rw [at0_append hp]
    exact dec_more _ _ _ _ _ _ _ _ _ (by simp) (fun h => at0_append h) (fun h => at0_append h) (fun h => at0_append h) hb
  rw [e, stepL, hd, if_neg hb]

/-- How many characters, each one that p takes; none where one isn't. -/
def cntF (p : Nat → Bool) : Nat → List UInt8 → Option Nat
  | _, [] => some 0
  | 0, _ :: _ => none
  | f + 1, a :: r => if (stepL (a :: r)).2 = 0 ∨ p (stepL (a :: r)).1 = false then none else (cntF p f ((a :: r).drop (stepL (a :: r)).2)).map (· + 1)
def cntP (p : Nat → Bool) (l : List UInt8) : Option Nat := cntF p l.length l

theorem cntF_more (p : Nat → Bool) : ∀ (f g : Nat) (l : List UInt8), l.length ≤ f → l.length ≤ g → cntF p f l = cntF p g l := by
  intro f
  induction f with
  | zero =>
    intro g l h1 h2
    obtain rfl : l = [] := List.eq_nil_of_length_eq_zero (by omega)
    cases g <;> rfl
  | succ f ih =>
    intro g l h1 h2
    cases l with
    | nil => cases g <;> rfl
    | cons a r =>
      cases g with
      | zero => simp at h2
      | succ g =>
        simp only [cntF]
        split
        · rfl
        · rename_i hh
          rw [ih g]
          · simp only [List.length_drop]; omega
          · simp only [List.length_drop]; omega
theorem cntP_nil (p : Nat → Bool) : cntP p [] = some 0 := rfl
theorem cntP_step (p : Nat → Bool) (l : List UInt8) (hl : l ≠ []) : cntP p l = if (stepL l).2 = 0 ∨ p (stepL l).1 = false then none else (cntP p (l.drop (stepL l).2)).map (· + 1) := by
  cases l with
  | nil => exact absurd rfl hl
  | cons a r =>
    rw [cntP, List.length_cons, cntF]
    split
    · rfl
    · rename_i hh
      rw [cntF_more p _ ((a :: r).drop (stepL (a :: r)).2).length _ (by simp only [List.length_drop, List.length_cons]; omega) (Nat.le_refl _)]
      rfl
theorem cntP_bad {p : Nat → Bool} {l : List UInt8} (hl : l ≠ []) (h : (stepL l).2 = 0) : cntP p l = none := by rw [cntP_step p l hl, if_pos (.inl h)]
theorem cntP_out {p : Nat → Bool} {l : List UInt8} (hl : l ≠ []) (h : p (stepL l).1 = false) : cntP p l = none := by rw [cntP_step p l hl, if_pos (.inr h)]
theorem cntP_go {p : Nat → Bool} {l : List UInt8} (hl : l ≠ []) (h : (stepL l).2 ≠ 0) (hp : p (stepL l).1 = true) : cntP p l = (cntP p (l.drop (stepL l).2)).map (· + 1) := by
  rw [cntP_step p l hl, if_neg (by simp [h, hp])]
theorem cntP_le (p : Nat → Bool) : ∀ (n : Nat) (l : List UInt8), l.length ≤ n → (cntP p l).getD 0 ≤ l.length := by
  intro n
  induction n with
  | zero =>
    intro l h
    obtain rfl : l = [] := List.eq_nil_of_length_eq_zero (by omega)
    simp [cntP_nil]
  | succ n ih =>
    intro l h
    by_cases hl : l = []
    · subst hl
      simp [cntP_nil]
    · by_cases hb : (stepL l).2 = 0
      · rw [cntP_bad hl hb]; simp
      · by_cases hp : p (stepL l).1 = true
        · have hpos := List.length_pos_iff.2 hl
          have := ih (l.drop (stepL l).2) (by simp only [List.length_drop]; omega)
          rw [cntP_go hl hb hp]
          cases hc : cntP p (l.drop (stepL l).2) with
          | none => simp
          | some x => rw [hc] at this; simp only [Option.getD_some, List.length_drop] at this; simp only [Option.map_some, Option.getD_some]; omega
        · rw [cntP_out hl (by simpa using hp)]; simp

/-- Two texts put together: where the first is one, the characters of both. -/
theorem cntP_append (p : Nat → Bool) : ∀ (n : Nat) (l m : List UInt8) (a : Nat), l.length ≤ n → cntP (fun _ => true) l = some a →
    (cntP p (l ++ m)).isSome = ((cntP p l).isSome && (cntP p m).isSome) ∧ cntP (fun _ => true) (l ++ m) = (cntP (fun _ => true) m).map (· + a) := by
  intro n
  induction n with
  | zero =>
    intro l m a h ha
    obtain rfl : l = [] := List.eq_nil_of_length_eq_zero (by omega)
    rw [cntP_nil] at ha
    obtain rfl : 0 = a := Option.some.inj ha
    simp [cntP_nil]
  | succ n ih =>
    intro l m a h ha
    by_cases hl : l = []
    · subst hl
      rw [cntP_nil] at ha
      obtain rfl : 0 = a := Option.some.inj ha
      simp [cntP_nil]
    · have hpos := List.length_pos_iff.2 hl
      by_cases hb : (stepL l).2 = 0
      · rw [cntP_bad hl hb] at ha
        cases ha
      · rw [cntP_go hl hb rfl] at ha
        obtain ⟨a', ha', rfl⟩ := Option.map_eq_some_iff.1 ha
        have hw := step_le l hl
        have hstep := step_append m hl hb
        have hlm : l ++ m ≠ [] := by simp [hl]
        have hdrop : (l ++ m).drop (stepL l).2 = l.drop (stepL l).2 ++ m := List.drop_append_of_le_length hw.1
        have hi := ih (l.drop (stepL l).2) m a' (by simp only [List.length_drop]; omega) ha'
        constructor
        · by_cases hp : p (stepL l).1 = true
          · rw [cntP_go (l := l ++ m) hlm (by rw [hstep]; exact hb) (by rw [hstep]; exact hp), hstep, hdrop, cntP_go hl hb hp]
            simp only [Option.isSome_map]
            exact hi.1
          · have hp' : p (stepL l).1 = false := by simpa using hp
            rw [cntP_out hl hp', cntP_out (l := l ++ m) hlm (by rw [hstep]; exact hp')]
            rfl
        · rw [cntP_go (l := l ++ m) hlm (by rw [hstep]; exact hb) rfl, hstep, hdrop, hi.2]
          cases cntP (fun _ => true) m with
          | none => rfl
          | some x => simp only [Option.map_some]; congr 1
end Go.Proofs.YtmodmeabjhaklabGreatDoor
/-
  chars.isStray, Count, Valid, everyCharacter, Legal by their contracts.
-/
namespace Go.Proofs.YtmodmeabjhaklabGreatDoor
open Go.RowKit

def badL (l : List UInt8) : Bool := decide ((stepL l).2 = 0)
def T (_ : Nat) : Bool := true
theorem hasPrefix_fffd (l : List UInt8) : Lib.hasPrefix l [239, 191, 189] = decide (3 ≤ l.length ∧ at0 l 0 = 239 ∧ at0 l 1 = 191 ∧ at0 l 2 = 189) := by
  have k : ∀ (a : UInt8) (b : Nat), b < 256 → ((UInt8.ofNat b == a) = decide (a.toNat = b)) := fun a b hb => by
    rw [Bool.eq_iff_iff]
    simp only [beq_iff_eq, decide_eq_true_eq]
    constructor
    · rintro rfl
      rw [UInt8.toNat_ofNat', Nat.mod_eq_of_lt hb]
    · intro h
      rw [← h, UInt8.ofNat_toNat]
  match l with
  | [] => rfl
  | [a] => simp [Lib.hasPrefix, List.isPrefixOf]
  | [a, b] => simp [Lib.hasPrefix, List.isPrefixOf]
  | a :: b :: c :: r =>
    have k0 := k a 239 (by decide)
    have k1 := k b 191 (by decide)
    have k2 := k c 189 (by decide)
    show ((239 : UInt8) == a && ((191 : UInt8) == b && ((189 : UInt8) == c && true))) = _
    rw [show (239 : UInt8) = UInt8.ofNat 239 from rfl, show (191 : UInt8) = UInt8.ofNat 191 from rfl, show (189 : UInt8) = UInt8.ofNat 189 from rfl, k0, k1, k2, Bool.eq_iff_iff]
    simp [at0]
theorem stray_eq (l : List UInt8) (hl : l ≠ []) : (decide (((decL l).1 : Int) = 65533) && !Lib.hasPrefix l [239, 191, 189]) = badL l := by
  have hw := dec_width l.length (at0 l 0) (at0 l 1) (at0 l 2) (at0 l 3) (List.length_pos_iff.2 hl)
  rw [hasPrefix_fffd, badL, stepL, Bool.eq_iff_iff]
  by_cases hr : (decL l).1 = 65533
  · have hf := dec_fffd l.length (at0 l 0) (at0 l 1) (at0 l 2) (at0 l 3) hr
    rw [hr]
    by_cases h1 : (decL l).2 = 1
    · rw [if_pos ⟨rfl, h1⟩]
      simp only [Bool.and_eq_true, Bool.not_eq_true', decide_eq_true_eq, decide_eq_false_iff_not, hf.1 h1, not_false_eq_true, and_true]
      simp
    · rw [if_neg (by simp [h1])]
      have h3 : 3 ≤ l.length ∧ at0 l 0 = 239 ∧ at0 l 1 = 191 ∧ at0 l 2 = 189 := Classical.not_not.1 (fun h => h1 (hf.2 h))
      simp only [Bool.and_eq_true, Bool.not_eq_true', decide_eq_true_eq, decide_eq_false_iff_not, h3]
      have : ¬ (decL l).2 = 0 := by unfold decL; omega
      simp [this]
  · rw [if_neg (by simp [hr])]
    have : ¬ (decL l).2 = 0 := by unfold decL; omega
    have h' : ¬ (((decL l).1 : Int) = 65533) := by omega
    simp [h', this]

theorem extract_drop (s : ByteArray) (i : Nat) : (s.extract i s.size).data.toList = s.data.toList.drop i := by
  simp only [ByteArray.data_extract, Array.toList_extract, List.extract_eq_take_drop]
  exact List.take_of_length_le (by simp)
def cntN (l : List UInt8) : Nat := (cntP T l).getD 0
def cntOk (l : List UInt8) : Bool := (cntP T l).isSome

def xmlP (n : Nat) : Bool := xmlB (n : Int)
def nzP (n : Nat) : Bool := nzB (n : Int)
def keyB (l : List UInt8) : Bool := decide (1 ≤ l.length ∧ l.length ≤ 1024) && (cntP nzP l).isSome
end Go.Proofs.YtmodmeabjhaklabGreatDoor
/-
  chars.isAddress, Bucket and Fold by their contracts; 'awake' of the statements' package.
-/
namespace Go.Proofs.YtmodmeabjhaklabGreatDoor
open Go.RowKit

def addrB (l : List UInt8) : Bool := decide ((splitL 46 l).length = 4) && (splitL 46 l).all (allB digB)
theorem enter77 : ∀ args w, (callFunc 120 args).run Tryz.prog w = .ok (.enter 120 args) w := fun args w => Tryz.call120 args w
theorem piece_size {c : UInt8} : ∀ {l : List UInt8} {x : List UInt8}, x ∈ splitL c l → x.length ≤ l.length
  | [], x, h => by simp [splitL] at h; simp [h]
  | a :: r, x, h => by
    unfold splitL at h
    split at h
    · rcases List.mem_cons.1 h with rfl | h
      · simp
      · have := piece_size h; simp; omega
    · have ih := @piece_size c r
      cases hs : splitL c r with
      | nil => exact absurd hs (splitL_ne c r)
      | cons y ys =>
        rw [hs] at h ih
        simp only at h
        rcases List.mem_cons.1 h with rfl | h
        · have := ih (List.mem_cons_self); simp; omega
        · have := ih (List.mem_cons_of_mem _ h); simp; omega

def lenB (l : List UInt8) : Bool := decide (3 ≤ l.length ∧ l.length ≤ 63)
def bucketB (l : List UInt8) : Bool := lenB l && (allB bukB l && (lodB (at0 l 0 : Nat) && (lodB (at0 l (l.length - 1) : Nat) && (!Lib.contains l [46, 46] && !addrB l))))
theorem at0_s' {s : ByteArray} {k : Nat} (h : k < s.size) : (at0 s.data.toList k : Int) = (s[k].toNat : Int) := by
  unfold at0
  rw [List.getD_eq_getElem?_getD, List.getElem?_eq_getElem (by simpa using h)]
  rfl

end Go.Proofs.YtmodmeabjhaklabGreatDoor
/-
  The document's Step by its contract.
-/
namespace Go.Proofs.YtmodmeabjhaklabGreatDoor
open Go.RowKit

def stepN (n b0 b1 b2 b3 : Nat) : Nat × Nat := if (Lib.decodeN n b0 b1 b2 b3).1 = 65533 ∧ (Lib.decodeN n b0 b1 b2 b3).2 = 1 then (0, 0) else Lib.decodeN n b0 b1 b2 b3
theorem stepL_N (l : List UInt8) : stepL l = stepN l.length (at0 l 0) (at0 l 1) (at0 l 2) (at0 l 3) := rfl

theorem stepN_of (n b0 b1 b2 b3 : Nat) (x : Nat × Nat) (h : (Lib.decodeN n b0 b1 b2 b3 = (65533, 1) ∧ x = (0, 0)) ∨ (Lib.decodeN n b0 b1 b2 b3 = x ∧ (x.1 ≠ 65533 ∨ x.2 ≠ 1))) : stepN n b0 b1 b2 b3 = x := by
  unfold stepN
  rcases h with ⟨h, rfl⟩ | ⟨h, hx⟩
  · rw [h]; rfl
  · rw [h, if_neg (by omega)]
theorem st_ascii {n b0 b1 b2 b3 : Nat} (h : b0 < 128) : stepN n b0 b1 b2 b3 = (b0, 1) :=
  stepN_of _ _ _ _ _ _ (.inr ⟨by unfold Lib.decodeN; rw [if_pos h], .inl (by show b0 ≠ 65533; omega)⟩)
theorem st_none {n b0 b1 b2 b3 : Nat} (h : Lib.decodeN n b0 b1 b2 b3 = (65533, 1)) : stepN n b0 b1 b2 b3 = (0, 0) := stepN_of _ _ _ _ _ _ (.inl ⟨h, rfl⟩)
theorem st_lead {n b0 b1 b2 b3 : Nat} (h : (128 ≤ b0 ∧ b0 < 192) ∨ 248 ≤ b0) (h' : b0 < 256) : stepN n b0 b1 b2 b3 = (0, 0) := by
  apply st_none
  unfold Lib.decodeN
  (repeat' split) <;> first | rfl | (exfalso; omega)
theorem st2_no {n b0 b1 b2 b3 : Nat} (h : 192 ≤ b0) (h' : b0 < 224) (hn : n < 2 ∨ b1 < 128 ∨ 192 ≤ b1) (_h1 : b1 < 256) : stepN n b0 b1 b2 b3 = (0, 0) := by
  apply st_none
  unfold Lib.decodeN
  (repeat' split) <;> first | rfl | (exfalso; omega)
theorem st3_no {n b0 b1 b2 b3 : Nat} (h : 224 ≤ b0) (h' : b0 < 240) (hn : n < 3 ∨ b1 < 128 ∨ 192 ≤ b1 ∨ b2 < 128 ∨ 192 ≤ b2) (_h1 : b1 < 256) (_h2 : b2 < 256) : stepN n b0 b1 b2 b3 = (0, 0) := by
  apply st_none
  unfold Lib.decodeN
  (repeat' split) <;> first | rfl | (exfalso; omega)
theorem st4_no {n b0 b1 b2 b3 : Nat} (h : 240 ≤ b0) (h' : b0 < 248) (hn : n < 4 ∨ b1 < 128 ∨ 192 ≤ b1 ∨ b2 < 128 ∨ 192 ≤ b2 ∨ b3 < 128 ∨ 192 ≤ b3) (_h1 : b1 < 256) (_h2 : b2 < 256) (_h3 : b3 < 256) : stepN n b0 b1 b2 b3 = (0, 0) := by
  apply st_none
  unfold Lib.decodeN
  (repeat' split) <;> first | rfl | (exfalso; omega)
theorem st2_out {n b0 b1 b2 b3 : Nat} (h : 192 ≤ b0) (h' : b0 < 224) (_hn : 2 ≤ n) (k1 : 128 ≤ b1) (k1' : b1 < 192) (hN : 64 * (b0 - 192) + (b1 - 128) < 128) : stepN n b0 b1 b2 b3 = (0, 0) := by
  apply st_none
  unfold Lib.decodeN
  (repeat' split) <;> first | rfl | (exfalso; omega)
theorem st3_out {n b0 b1 b2 b3 : Nat} (h : 224 ≤ b0) (h' : b0 < 240) (_hn : 3 ≤ n) (k1 : 128 ≤ b1) (k1' : b1 < 192) (k2 : 128 ≤ b2) (k2' : b2 < 192) (hN : 64 * (64 * (b0 - 224) + (b1 - 128)) + (b2 - 128) < 2048 ∨ (55296 ≤ 64 * (64 * (b0 - 224) + (b1 - 128)) + (b2 - 128) ∧ 64 * (64 * (b0 - 224) + (b1 - 128)) + (b2 - 128) < 57344)) : stepN n b0 b1 b2 b3 = (0, 0) := by
  apply st_none
  unfold Lib.decodeN
  (repeat' split) <;> first | rfl | (exfalso; omega)
theorem st4_out {n b0 b1 b2 b3 : Nat} (h : 240 ≤ b0) (h' : b0 < 248) (_hn : 4 ≤ n) (k1 : 128 ≤ b1) (k1' : b1 < 192) (k2 : 128 ≤ b2) (k2' : b2 < 192) (k3 : 128 ≤ b3) (k3' : b3 < 192) (hN : 64 * (64 * (64 * (b0 - 240) + (b1 - 128)) + (b2 - 128)) + (b3 - 128) < 65536 ∨ 1114111 < 64 * (64 * (64 * (b0 - 240) + (b1 - 128)) + (b2 - 128)) + (b3 - 128)) : stepN n b0 b1 b2 b3 = (0, 0) := by
  apply st_none
  unfold Lib.decodeN
  (repeat' split) <;> first | rfl | (exfalso; omega)
theorem st2_in {n b0 b1 b2 b3 : Nat} (h : 192 ≤ b0) (h' : b0 < 224) (_hn : 2 ≤ n) (k1 : 128 ≤ b1) (k1' : b1 < 192) (hN : 128 ≤ 64 * (b0 - 192) + (b1 - 128)) : stepN n b0 b1 b2 b3 = (64 * (b0 - 192) + (b1 - 128), 2) := by
  refine stepN_of _ _ _ _ _ _ (.inr ⟨?_, .inr (by simp)⟩)
  unfold Lib.decodeN
  (repeat' split) <;> first | (exfalso; omega) | (apply Prod.ext <;> simp only <;> omega)
theorem st3_in {n b0 b1 b2 b3 : Nat} (h : 224 ≤ b0) (h' : b0 < 240) (_hn : 3 ≤ n) (k1 : 128 ≤ b1) (k1' : b1 < 192) (k2 : 128 ≤ b2) (k2' : b2 < 192) (hN : 2048 ≤ 64 * (64 * (b0 - 224) + (b1 - 128)) + (b2 - 128)) (hS : ¬ (55296 ≤ 64 * (64 * (b0 - 224) + (b1 - 128)) + (b2 - 128) ∧ 64 * (64 * (b0 - 224) + (b1 - 128)) + (b2 - 128) < 57344)) : stepN n b0 b1 b2 b3 = (64 * (64 * (b0 - 224) + (b1 - 128)) + (b2 - 128), 3) := by
  refine stepN_of _ _ _ _ _ _ (.inr ⟨?_, .inr (by simp)⟩)
  unfold Lib.decodeN
  (repeat' split) <;> first | (exfalso; omega) | (apply Prod.ext <;> simp only <;> omega)
theorem st4_in {n b0 b1 b2 b3 : Nat} (h : 240 ≤ b0) (h' : b0 < 248) (_hn : 4 ≤ n) (k1 : 128 ≤ b1) (k1' : b1 < 192) (k2 : 128 ≤ b2) (k2' : b2 < 192) (k3 : 128 ≤ b3) (k3' : b3 < 192) (hN : 65536 ≤ 64 * (64 * (64 * (b0 - 240) + (b1 - 128)) + (b2 - 128)) + (b3 - 128)) (hM : 64 * (64 * (64 * (b0 - 240) + (b1 - 128)) + (b2 - 128)) + (b3 - 128) ≤ 1114111) : stepN n b0 b1 b2 b3 = (64 * (64 * (64 * (b0 - 240) + (b1 - 128)) + (b2 - 128)) + (b3 - 128), 4) := by
  refine stepN_of _ _ _ _ _ _ (.inr ⟨?_, .inr (by simp)⟩)
  unfold Lib.decodeN
  (repeat' split) <;> first | (exfalso; omega) | (apply Prod.ext <;> simp only <;> omega)

theorem at0_s {s : ByteArray} {k : Nat} (h : k < s.size) : at0 s.data.toList k = s[k].toNat := by
  unfold at0
  rw [List.getD_eq_getElem?_getD, List.getElem?_eq_getElem (by simpa using h)]
  rfl

theorem fin_ii {l : List UInt8} {x : Nat × Nat} {a b : Int} (h : stepL l = x) (ha : a = (x.1 : Int)) (hb : b = (x.2 : Int)) : Ending.returned (.tuple #[.int .i64 a, .int .i64 b]) = .returned (.tuple #[.int .i64 ((stepL l).1 : Nat), .int .i64 ((stepL l).2 : Nat)]) := by rw [h, ha, hb]

end Go.Proofs.YtmodmeabjhaklabGreatDoor
/-
  The document's Count, Legal, Valid, Key and 'in' by their contracts.
-/
namespace Go.Proofs.YtmodmeabjhaklabGreatDoor
open Go.RowKit

def strLen (v : Value) : Nat := match v with | .string t => t.size | _ => 0
theorem toList_nil {t : ByteArray} (h : t.size = 0) : t.data.toList = [] := by
  have e : t.data.toList.length = t.size := by simp
  exact List.eq_nil_of_length_eq_zero (by omega)
theorem strLen_s (t : ByteArray) : strLen (.string t) = t.size := rfl

def inL (l : List UInt8) (c : Int) : Bool := l.any fun b => decide ((b.toNat : Int) = c)
theorem inL_hit {l : List UInt8} {c : Int} {k : Nat} (hk : k < l.length) (h : (l[k].toNat : Int) = c) : inL (l.drop k) c = true := by
  rw [inL, List.drop_eq_getElem_cons hk, List.any_cons, decide_eq_true h, Bool.true_or]
theorem inL_miss {l : List UInt8} {c : Int} {k : Nat} (hk : k < l.length) (h : ¬ (l[k].toNat : Int) = c) : inL (l.drop k) c = inL (l.drop (k + 1)) c := by
  rw [inL, List.drop_eq_getElem_cons hk, List.any_cons, decide_eq_false h, Bool.false_or]
  rfl
theorem refIn_any (s : ByteArray) (c : Int) (w : World) (hs : s.size ≤ maxLen) :
    Calls Tryz.prog 68 #[.string s, .int .u8 c] w fun e w' => e = .returned (.bool (inL s.data.toList c)) ∧ w = w' := by
  unfold maxLen at hs
  go_enter Tryz.func68, Tryz.ntmps68
  go_wp2
  go_loop [5] (fun i => ∃ k : Nat, k ≤ s.size ∧ i = .int .i64 k ∧ inL (s.data.toList.drop k) c = inL s.data.toList c) (fun i => s.size - (intOf i).toNat)
  case atStart => exact ⟨0, Nat.zero_le _, rfl, rfl⟩
  case round =>
    obtain ⟨k, hk, rfl, hf⟩ := hrel
    have HF : Hid (inL (s.data.toList.drop k) c = inL s.data.toList c) := hf
    clear hf
    by_cases hlt : k < s.size
    · have hlt' : k < s.data.toList.length := by simpa using hlt
      by_cases hh : (s[k].toNat : Int) = c
      · have hq : ((s[k].toNat : Int) == c) = true := by simp [hh]
        have HH : Hid ((s.data.toList[k].toNat : Int) = c) := hh
        clear hh
        go_wp2
        go_ret
        exact ⟨ret_bool (by rw [← HF.out, inL_hit hlt' HH.out]), rfl⟩
      · have hq : ((s[k].toNat : Int) == c) = false := by simp [hh]
        have HH : Hid (¬ (s.data.toList[k].toNat : Int) = c) := hh
        clear hh
        go_wp2
        go_round
        case rel => exact ⟨k + 1, by omega, by go_num, by rw [← HF.out, inL_miss hlt' HH.out]⟩
        case measure => simp [intOf]; omega
    · have hz : s.data.toList.drop k = [] := List.drop_eq_nil_of_le (by simp; omega)
      have HZ : Hid (s.data.toList.drop k = []) := hz
      clear hz
      go_wp2
      go_ret
      exact ⟨ret_bool (by rw [← HF.out, HZ.out]; rfl), rfl⟩

/-- A character that is one holds a byte 0 just if it is the character 0. -/
theorem dec_zero (n b0 b1 b2 b3 : Nat) (hb : ¬ ((Lib.decodeN n b0 b1 b2 b3).1 = 65533 ∧ (Lib.decodeN n b0 b1 b2 b3).2 = 1)) :
    ((Lib.decodeN n b0 b1 b2 b3).1 = 0 ↔ b0 = 0) ∧ (1 < (Lib.decodeN n b0 b1 b2 b3).2 → b1 ≠ 0) ∧ (2 < (Lib.decodeN n b0 b1 b2 b3).2 → b2 ≠ 0) ∧ (3 < (Lib.decodeN n b0 b1 b2 b3).2 → b3 ≠ 0) := by
  unfold Lib.decodeN at hb ⊢
  (repeat' split) <;> simp_all <;> omega
theorem inL_split (l : List UInt8) (k : Nat) (hk : k ≤ l.length) : inL l 0 = (((List.range k).any fun j => decide (at0 l j = 0)) || inL (l.drop k) 0) := by
  induction k with
  | zero => simp
  | succ k ih =>
    rw [ih (by omega), List.range_succ, List.any_append]
    have e : inL (l.drop k) 0 = (decide (at0 l k = 0) || inL (l.drop (k + 1)) 0) := by
      rw [List.drop_eq_getElem_cons (by omega : k < l.length)]
      simp only [inL, List.any_cons]
      congr 1
      unfold at0
      rw [List.getD_eq_getElem?_getD, List.getElem?_eq_getElem (by omega : k < l.length), Bool.eq_iff_iff]
      simp
    rw [e]
    simp [Bool.or_assoc]
theorem step_zero (l : List UInt8) (hl : l ≠ []) (h : (stepL l).2 ≠ 0) : inL l 0 = (decide ((stepL l).1 = 0) || inL (l.drop (stepL l).2) 0) := by
  obtain ⟨e, hb⟩ := step_good h
  have hw := step_le l hl
  rw [inL_split l (stepL l).2 hw.1]
  congr 1
  have hz := dec_zero l.length (at0 l 0) (at0 l 1) (at0 l 2) (at0 l 3) hb
  rw [e] at h hw ⊢
  unfold decL at h hw ⊢
  generalize hd : Lib.decodeN l.length (at0 l 0) (at0 l 1) (at0 l 2) (at0 l 3) = d at *
  rw [Bool.eq_iff_iff]
  simp only [List.any_eq_true, List.mem_range, decide_eq_true_eq]
  constructor
  · rintro ⟨j, hj, h0⟩
    rw [hz.1]
    match j, hj, h0 with
    | 0, _, h0 => exact h0
    | 1, hj, h0 => exact absurd h0 (hz.2.1 hj)
    | 2, hj, h0 => exact absurd h0 (hz.2.2.1 hj)
    | 3, hj, h0 => exact absurd h0 (hz.2.2.2 hj)
    | j + 4, hj, _ => omega
  · intro h0
    exact ⟨0, by omega, hz.1.1 h0⟩
theorem key_math : ∀ (n : Nat) (l : List UInt8), l.length ≤ n → (cntP nzP l).isSome = (cntOk l && !inL l 0) := by
  intro n
  induction n with
  | zero =>
    intro l h
    obtain rfl : l = [] := List.eq_nil_of_length_eq_zero (by omega)
    rfl
  | succ n ih =>
    intro l h
    by_cases hl : l = []
    · subst hl; rfl
    · by_cases hb : (stepL l).2 = 0
      · rw [cntOk, cntP_bad hl hb, cntP_bad hl hb]; rfl
      · have hp := List.length_pos_iff.2 hl
        have hi := ih (l.drop (stepL l).2) (by simp only [List.length_drop]; omega)
        rw [cntOk, cntP_go (p := T) hl hb rfl, step_zero l hl hb]
        by_cases h0 : (stepL l).1 = 0
        · rw [cntP_out hl (by rw [h0]; rfl)]
          simp [h0]
        · rw [cntP_go (p := nzP) hl hb (by simp [nzP, nzB]; exact h0)]
          simp only [Option.isSome_map]
          rw [hi, cntOk]
          simp [h0]

end Go.Proofs.YtmodmeabjhaklabGreatDoor
/-
  The document's Split, digits and Bucket by their contracts.
-/
namespace Go.Proofs.YtmodmeabjhaklabGreatDoor
open Go.RowKit

def OwnS (w : World) (base : Nat) (v : Value) (L : List ByteArray) : Prop := w.ownsRow base 9 1 v L.length (L.map Value.string)
theorem OwnS.strs {w : World} {base : Nat} {v : Value} {L : List ByteArray} (h : OwnS w base v L) : ∃ a cap, v = .slice a L.length cap ∧ Strs w a L := by
  obtain ⟨hl, ⟨rfl, hn⟩ | ⟨g, cap, cur, rfl, hg, hh, hnc, hcm, hcs, htk⟩⟩ := h
  · exact ⟨none, 0, by rw [hn], .inl (List.eq_nil_of_length_eq_zero hn)⟩
  · refine ⟨_, cap, rfl, .inr ⟨g, 0, rfl, ?_, ?_⟩⟩
    · rcases Nat.lt_or_ge g w.heap.size with h | h
      · exact h
      · rw [Array.getElem?_eq_none h] at hh
        simp at hh
    · intro j hj
      have hown : w.ownsRow base 9 1 (.slice (some ⟨g, 0, none⟩) L.length cap) L.length (L.map Value.string) := ⟨hl, .inr ⟨g, cap, cur, rfl, hg, hh, hnc, hcm, hcs, htk⟩⟩
      have := hown.cellAt j (by omega)
      simp only [Nat.zero_add]
      rw [this]
      simp [List.getElem?_eq_getElem hj]
theorem ownS_more {w : World} {base : Nat} {v : Value} {L : List ByteArray} {x : ByteArray} (h : w.ownsRow base 9 1 v (L.length + 1) (L.map Value.string ++ [Value.string x])) : OwnS w base v (L ++ [x]) := by
  rw [OwnS, List.length_append, List.map_append]
  exact h

def consH (cur : List UInt8) : List (List UInt8) → List (List UInt8)
  | [] => [cur]
  | x :: xs => (cur ++ x) :: xs
theorem consH_nil {S : List (List UInt8)} (h : S ≠ []) : consH [] S = S := by
  cases S with
  | nil => exact absurd rfl h
  | cons x xs => rfl
theorem consH_two (a b : List UInt8) (S : List (List UInt8)) (h : S ≠ []) : consH a (consH b S) = consH (a ++ b) S := by
  cases S with
  | nil => exact absurd rfl h
  | cons x xs => simp [consH]
theorem splitL_at {c : UInt8} {l : List UInt8} {k : Nat} (hk : k < l.length) : splitL c (l.drop k) = if l[k] = c then [] :: splitL c (l.drop (k + 1)) else consH [l[k]] (splitL c (l.drop (k + 1))) := by
  rw [List.drop_eq_getElem_cons hk, splitL]
  split
  · rfl
  · cases h : splitL c (l.drop (k + 1)) with
    | nil => exact absurd h (splitL_ne _ _)
    | cons x xs => rfl
def pieceL (l : List UInt8) (f k : Nat) : List UInt8 := (l.drop f).take (k - f)
theorem pieceL_same (l : List UInt8) (k : Nat) : pieceL l k k = [] := by simp [pieceL]
theorem pieceL_snoc {l : List UInt8} {f k : Nat} (hf : f ≤ k) (hk : k < l.length) : pieceL l f (k + 1) = pieceL l f k ++ [l[k]] := by
  unfold pieceL
  rw [show k + 1 - f = (k - f) + 1 from by omega, List.take_succ_eq_append_getElem (by simp; omega)]
  congr 2
  simp only [List.getElem_drop]
  congr 1
  omega
theorem pieceL_end (l : List UInt8) (f : Nat) : pieceL l f l.length = l.drop f := List.take_of_length_le (by simp)
theorem extract_piece (s : ByteArray) (f k : Nat) : s.extract f k = ⟨(pieceL s.data.toList f k).toArray⟩ := by
  obtain ⟨⟨l⟩⟩ := s
  exact ByteArray.extract_mk l f k

set_option maxHeartbeats 1000000 in
theorem refSplit_any (s : ByteArray) (c : UInt8) (w : World) (hs : s.size < 4294967281) :
    Calls Tryz.prog 42 #[.string s, .int .u8 (c.toNat : Int)] w fun e w' => ∃ v, e = .returned v ∧ OwnS w' w.heap.size v (splitS c s) ∧ Below w.heap.size w w' := by
  obtain ⟨i9, hi, hz0, hz1, hz2⟩ := info_parts info9
  have hL : s.data.toList.length = s.size := by simp
  have HL : Hid (s.data.toList.length = s.size) := hL
  clear hL
  go_enter Tryz.func42, Tryz.ntmps42
  go_wp2
  go_loopw [5, 6, 7] (fun v u i wr => ∃ (f k : Nat) (D : List (List UInt8)), f ≤ k ∧ k ≤ s.size ∧ u = .int .i64 f ∧ i = .int .i64 k ∧ D.length ≤ k ∧ OwnS wr w.heap.size v (D.map fun x => ⟨x.toArray⟩) ∧ Below w.heap.size w wr ∧ splitL c s.data.toList = D ++ consH (pieceL s.data.toList f k) (splitL c (s.data.toList.drop k)))
    (fun _ _ i _ => s.size - (intOf i).toNat)
  case atStart => exact ⟨0, 0, [], Nat.le_refl _, Nat.zero_le _, rfl, rfl, Nat.le_refl _, World.ownsRow_nil _ _ _ _, Below.refl _ _, by rw [pieceL_same, consH_nil (splitL_ne _ _)]; simp⟩
  case round =>
    obtain ⟨f, k, D, hfk, hk, rfl, rfl, hDk, hown, hnx, hc⟩ := hrel
    have hsz := hnx.size
    have HC : Hid (splitL c s.data.toList = D ++ consH (pieceL s.data.toList f k) (splitL c (s.data.toList.drop k))) := hc
    have HO : Hid (OwnS wr w.heap.size u5 (D.map fun x => ⟨x.toArray⟩)) := hown
    clear hc hown
    have hDl : (D.map fun x => (⟨x.toArray⟩ : ByteArray)).length ≤ k := by simpa using hDk
    by_cases hlt : k < s.size
    · have hkl : k < s.data.toList.length := by rw [HL.out]; exact hlt
      have HS := splitL_at (c := c) hkl
      have HEx : Hid (s.extract f k = ⟨(pieceL s.data.toList f k).toArray⟩) := extract_piece s f k
      have e0 : s.data.toList[k] = s[k] := rfl
      rw [e0] at HS
      by_cases hh : s[k] = c
      · have hq : ((s[k].toNat : Int) == (c.toNat : Int)) = true := by simp [hh]
        rw [if_pos hh] at HS
        have HU : Hid (splitL c s.data.toList = (D ++ [pieceL s.data.toList f k]) ++ consH (pieceL s.data.toList (k + 1) (k + 1)) (splitL c (s.data.toList.drop (k + 1)))) := by
          show splitL c s.data.toList = _
          rw [HC.out, HS, pieceL_same, consH_nil (splitL_ne _ _)]
          simp [consH]
        clear HS hh e0
        go_wp2_with (at_builtin; refine wpList_append_own _ rfl (.tmp 19) (.tmp 24) 42 rfl w.heap.size 9 i9 (.string ⟨#[]⟩) 1 16 Tryz.underlying42 hi hz0 hz1 hz2 rfl (by decide) _ _ _ rfl (World.ownsRow.alloc HO.out _) ⟨wr.heap.size, 0, none⟩ 1 1 [.string (s.extract f k)] rfl rfl (cell_one_new _ _ _) (one_one _ rfl) (by unfold maxLen; omega) (by omega) (by simp; omega) ?_; intro v1 w1 hown1 hgrow1 _)
        have HR : Hid (OwnS w1 w.heap.size v1 ((D ++ [pieceL s.data.toList f k]).map fun x => ⟨x.toArray⟩)) := by
          show OwnS _ _ _ _
          rw [List.map_append, List.map_singleton, ← HEx.out]
          exact ownS_more hown1
        have hB1 : Below w.heap.size w w1 := (hnx.alloc hsz _).grown hgrow1 (by simp; omega) (fun j hj => (World.ownsRow.lt HO.out j hj).1)
        clear hown1 hgrow1
        go_wp2
        go_roundw
        case rel => exact ⟨k + 1, k + 1, D ++ [pieceL s.data.toList f k], Nat.le_refl _, by omega, by go_num, by go_num, by simp; omega, HR.out, hB1, HU.out⟩
        case measure => simp [intOf]; omega
      · have hq : ((s[k].toNat : Int) == (c.toNat : Int)) = false := by
          have : s[k].toNat ≠ c.toNat := fun h => hh (UInt8.toNat_inj.1 h)
          simp
          omega
        rw [if_neg hh] at HS
        have HU : Hid (splitL c s.data.toList = D ++ consH (pieceL s.data.toList f (k + 1)) (splitL c (s.data.toList.drop (k + 1)))) := by
          show splitL c s.data.toList = _
          rw [HC.out, HS, consH_two _ _ _ (splitL_ne _ _), pieceL_snoc hfk hkl]
          rfl
        clear HS hh e0
        go_wp2
        go_roundw
        case rel => exact ⟨f, k + 1, D, by omega, by omega, rfl, by go_num, by omega, HO.out, hnx, HU.out⟩
        case measure => simp [intOf]; omega
    · obtain rfl : k = s.size := by omega
      have HZ : Hid (splitS c s = (D.map fun x => ⟨x.toArray⟩) ++ [s.extract f s.size]) := by
        show splitS c s = _
        have e1 : s.extract f s.size = ⟨(s.data.toList.drop f).toArray⟩ := by
          rw [extract_piece, ← HL.out, pieceL_end]
        have h := HC.out
        have e2 : pieceL s.data.toList f s.size = s.data.toList.drop f := by rw [← HL.out, pieceL_end]
        rw [List.drop_eq_nil_of_le (by rw [HL.out]; omega), e2] at h
        rw [splitS, h, e1]
        simp [splitL, consH]
      have hfs : (f : Int) ≤ (s.size : Int) := by omega
      clear HC
      go_wp2_with (at_builtin; refine wpList_append_own _ rfl (.tmp 28) (.tmp 32) 42 rfl w.heap.size 9 i9 (.string ⟨#[]⟩) 1 16 Tryz.underlying42 hi hz0 hz1 hz2 rfl (by decide) _ _ _ rfl (World.ownsRow.alloc HO.out _) ⟨wr.heap.size, 0, none⟩ 1 1 [.string (s.extract f s.size)] rfl rfl (cell_one_new _ _ _) (one_one _ rfl) (by unfold maxLen; omega) (by omega) (by simp; omega) ?_; intro v1 w1 hown1 hgrow1 _)
      have HR : Hid (OwnS w1 w.heap.size v1 (splitS c s)) := by
        show OwnS _ _ _ _
        rw [HZ.out]
        exact ownS_more hown1
      have hB1 : Below w.heap.size w w1 := (hnx.alloc hsz _).grown hgrow1 (by simp; omega) (fun j hj => (World.ownsRow.lt HO.out j hj).1)
      clear hown1 hgrow1
      go_wp2
      go_ret
      exact ⟨_, rfl, HR.out, hB1⟩

def digsB (l : List UInt8) : Bool := allB digB l && decide (0 < l.length)
end Go.Proofs.YtmodmeabjhaklabGreatDoor
/-
  The document's Escape by its contract.
-/
namespace Go.Proofs.YtmodmeabjhaklabGreatDoor
open Go.RowKit

theorem in4_t : ∀ n : Nat, n < 256 → inL [45, 46, 95, 126] (n : Int) = (decide ((n : Int) = 45) || decide ((n : Int) = 46) || decide ((n : Int) = 95) || decide ((n : Int) = 126)) := by decide +kernel
theorem one_of (s : ByteArray) (k : Nat) (h : k < s.size) : s.extract k (k + 1) = ⟨#[s[k]]⟩ := by
  obtain ⟨⟨l⟩⟩ := s
  have h' : k < l.length := h
  show ByteArray.extract ⟨⟨l⟩⟩ k (k + 1) = ⟨#[l[k]]⟩
  have : (ByteArray.extract ⟨⟨l⟩⟩ k (k + 1)).data = #[l[k]] := by
    rw [ByteArray.data_extract]
    apply Array.toList_inj.1
    simp only [Array.toList_extract, List.extract_eq_take_drop]
    rw [List.drop_eq_getElem_cons h', show k + 1 - k = 1 from by omega]
    rfl
  exact congrArg ByteArray.mk this

theorem hexUp_cut : ∀ v : Fin 16, (hexUp.extract v.val (v.val + 1)).data = #[hx v.val] := by decide +kernel
theorem cut_at (n : Nat) (v : Int) (hv : v = (n : Int)) (h : n < 16) (w : World) :
    (Instr.slice 9 (.string ⟨#[48, 49, 50, 51, 52, 53, 54, 55, 56, 57, 65, 66, 67, 68, 69, 70]⟩) (some (.int .u8 v)) (some (.int .u8 (v + 1))) none).run Tryz.prog w = .ok (.string ⟨#[hx n]⟩) w := by
  subst hv
  rw [run_slice_string w 9 _ .u8 .u8 _ _ Tryz.underlying9 (by omega) (by omega) (by show (n : Int) + 1 ≤ 16; omega)]
  have e1 : ((n : Int)).toNat = n := by omega
  have e2 : ((n : Int) + 1).toNat = n + 1 := by omega
  rw [e1, e2]
  exact congrArg (fun z => Result.ok (Value.string z) w) (congrArg ByteArray.mk (hexUp_cut ⟨n, h⟩))
theorem ba_app (A : List UInt8) (x y z : UInt8) : (⟨(A ++ [x, y]).toArray⟩ : ByteArray) ++ ⟨#[z]⟩ = ⟨(A ++ [x, y, z]).toArray⟩ := by
  rw [show (⟨#[z]⟩ : ByteArray) = ⟨[z].toArray⟩ from rfl, ByteArray.mk_append_mk]
  simp
theorem wrap_u8 (v : Int) (h0 : 0 ≤ v) (h1 : v < 256) : IntKind.u8.wrap v = v := by rw [IntKind.wrap_u8']; omega
theorem add_one_str (A : List UInt8) (c : UInt8) (h : A.length ≤ 281474976710656) (wx : World) : (Op.stringOp .add ⟨A.toArray⟩ ⟨#[c]⟩).run Tryz.prog wx = .ok (.string ⟨(A ++ [c]).toArray⟩) wx := by
  rw [run_string_add_sum wx _ _ (by simp [ByteArray.size]; omega)]
  exact congrArg (fun z => Result.ok (Value.string z) wx) (ByteArray.mk_append_mk _ [c])

end Go.Proofs.YtmodmeabjhaklabGreatDoor
/-
  chars.Token, Value, Trim and Lower, and the document's, by their contracts.
-/
namespace Go.Proofs.YtmodmeabjhaklabGreatDoor
open Go.RowKit

def signs : List UInt8 := [33, 35, 36, 37, 38, 39, 42, 43, 45, 46, 94, 95, 96, 124, 126]
def tokB (c : Int) : Bool := alnB c || inL signs c
theorem sign_t : ∀ n : Nat, n < 256 → decide (0 ≤ Lib.indexByte signs n.toUInt8) = inL signs (n : Int) := by decide +kernel
theorem enter47 : ∀ args w, (callFunc 79 args).run Tryz.prog w = .ok (.enter 79 args) w := fun args w => Tryz.call79 args w
theorem enter48 : ∀ args w, (callFunc 81 args).run Tryz.prog w = .ok (.enter 81 args) w := fun args w => Tryz.call81 args w

theorem isTokenByte_any (c : Int) (w : World) (h0 : 0 ≤ c) (h1 : c ≤ 255) :
    Calls Tryz.prog 79 #[.int .u8 c] w fun e w' => e = .returned (.bool (tokB c)) ∧ w = w' := by
  obtain ⟨n, rfl⟩ := Int.eq_ofNat_of_zero_le h0
  have HA : Hid (∀ W, Calls Tryz.prog 93 #[.int .u8 (n : Int)] W fun e w' => e = .returned (.bool (alnB (n : Int))) ∧ W = w') := fun W => isLetterOrDigit_any _ W h0 h1
  have HI : Hid (∀ W, Calls Tryz.prog 94 #[.string ⟨#[33, 35, 36, 37, 38, 39, 42, 43, 45, 46, 94, 95, 96, 124, 126]⟩, .int .u8 (n : Int)] W fun e w' => e = .returned (.int .i64 (Lib.indexByte signs n.toUInt8)) ∧ w' = W) := fun W => strings_IndexByte ⟨#[33, 35, 36, 37, 38, 39, 42, 43, 45, 46, 94, 95, 96, 124, 126]⟩ (n : Int) W
  have HS : Hid (decide (0 ≤ Lib.indexByte signs n.toUInt8) = inL signs (n : Int)) := sign_t n (by omega)
  cases ha : alnB (n : Int)
  · have HT : Hid (tokB (n : Int) = inL signs (n : Int)) := by show tokB _ = _; rw [tokB, ha]; rfl
    rw [ha] at HA
    clear ha
    generalize Lib.indexByte signs n.toUInt8 = q at *
    go_enter Tryz.func79, Tryz.ntmps79
    go_wp2_with (first
      | (go_at_call 93; refine (HA.out _).mono ?_; rintro e w' ⟨rfl, rfl⟩)
      | (go_at_call 94; refine (HI.out _).mono ?_; rintro e w' ⟨rfl, rfl⟩))
    all_goals
      go_ret
      exact ⟨ret_bool (by rw [HT.out, ← HS.out]), rfl⟩
  · have HT : Hid (tokB (n : Int) = true) := by show tokB _ = true; rw [tokB, ha]; rfl
    rw [ha] at HA
    clear ha
    go_enter Tryz.func79, Tryz.ntmps79
    go_wp2_with (go_at_call 93; refine (HA.out _).mono ?_; rintro e w' ⟨rfl, rfl⟩)
    go_ret
    exact ⟨ret_bool HT.out.symm, rfl⟩

def tokenB (l : List UInt8) : Bool := decide (0 < l.length) && allB tokB l
theorem token_any (s : ByteArray) (w : World) (hs : s.size ≤ maxLen) :
    Calls Tryz.prog 53 #[.string s] w fun e w' => e = .returned (.bool (tokenB s.data.toList)) ∧ w = w' := by
  have hL : s.data.toList.length = s.size := by simp
  have HE : Hid (∀ W, Calls Tryz.prog 78 #[.string s, .func (.func 79) #[] #[]] W fun e w' => e = .returned (.bool (allB tokB s.data.toList)) ∧ W = w') := fun W => everyByte_any 79 tokB enter47 (fun c W h0 h1 => isTokenByte_any c W h0 h1) s W hs
  have HT : Hid (tokenB s.data.toList = (decide (0 < s.size) && allB tokB s.data.toList)) := by show tokenB _ = _; rw [tokenB, hL]
  clear hL
  by_cases h : s.size = 0
  · obtain rfl : s = ⟨#[]⟩ := by
      obtain ⟨⟨l⟩⟩ := s
      have h' : l.length = 0 := h
      obtain rfl : l = [] := List.eq_nil_of_length_eq_zero h'
      rfl
    go_enter Tryz.func53, Tryz.ntmps53
    go_wp2
    go_ret
    exact ⟨ret_bool rfl, rfl⟩
  · have hne : s.toList.isEmpty = false := by
      rw [Lib.toList_data]
      cases h' : s.data.toList with
      | nil => have := Lib.size_eq s; rw [h', List.length_nil] at this; omega
      | cons _ _ => rfl
    have hp : 0 < s.size := by omega
    go_enter Tryz.func53, Tryz.ntmps53
    go_wp2_with (go_at_call 78; refine (HE.out _).mono ?_; rintro e w' ⟨rfl, rfl⟩)
    go_ret
    exact ⟨ret_bool (by rw [HT.out]; simp [hp]), rfl⟩
theorem value_any (s : ByteArray) (w : World) (hs : s.size ≤ maxLen) :
    Calls Tryz.prog 56 #[.string s] w fun e w' => e = .returned (.bool (allB valB s.data.toList)) ∧ w = w' := by
  go_enter Tryz.func56, Tryz.ntmps56
  go_wp2_with (go_at_call 78; refine (everyByte_any 81 valB enter48 (fun c W h0 h1 => isValueByte_any c W h0 h1) s _ hs).mono ?_; rintro e w' ⟨rfl, rfl⟩)
  go_ret
  exact ⟨rfl, rfl⟩

set_option maxHeartbeats 400000 in
theorem refToken_any (s : ByteArray) (w : World) (hs : s.size ≤ maxLen) :
    Calls Tryz.prog 43 #[.string s] w fun e w' => e = .returned (.bool (tokenB s.data.toList)) ∧ w = w' := by
  unfold maxLen at hs
  have hL : s.data.toList.length = s.size := by simp
  have HL : Hid (tokenB s.data.toList = (decide (0 < s.size) && allB tokB s.data.toList)) := by show tokenB _ = _; rw [tokenB, hL]
  go_enter Tryz.func43, Tryz.ntmps43
  go_wp2
  go_loop [3] (fun i => ∃ k : Nat, k ≤ s.size ∧ i = .int .i64 k ∧ ∀ j (hj : j < s.data.toList.length), j < k → tokB (s.data.toList[j].toNat : Int) = true) (fun i => s.size - (intOf i).toNat)
  case atStart => exact ⟨0, Nat.zero_le _, rfl, fun j hj h => by omega⟩
  case round =>
    obtain ⟨k, hk, rfl, hf⟩ := hrel
    have HF : Hid (∀ j (hj : j < s.data.toList.length), j < k → tokB (s.data.toList[j].toNat : Int) = true) := hf
    clear hf
    by_cases hlt : k < s.size
    · have hkl : k < s.data.toList.length := by omega
      have b1 : (s[k].toNat : Int) ≤ 255 := by have := s[k].toNat_lt; omega
      have HS : Hid (∀ W, Calls Tryz.prog 67 #[.int .u8 (s[k].toNat : Int)] W fun e w' => e = .returned (.bool (alnB (s[k].toNat : Int))) ∧ W = w') := fun W => refAlnum_any _ W (Int.natCast_nonneg _) b1
      have HI : Hid (∀ W, Calls Tryz.prog 68 #[.string ⟨#[33, 35, 36, 37, 38, 39, 42, 43, 45, 46, 94, 95, 96, 124, 126]⟩, .int .u8 (s[k].toNat : Int)] W fun e w' => e = .returned (.bool (inL signs (s[k].toNat : Int))) ∧ W = w') := fun W => refIn_any ⟨#[33, 35, 36, 37, 38, 39, 42, 43, 45, 46, 94, 95, 96, 124, 126]⟩ _ W (by decide)
      clear hL
      cases ha : alnB (s[k].toNat : Int)
      · cases hb : inL signs (s[k].toNat : Int)
        · have HN : Hid (tokenB s.data.toList = false) := by
            show tokenB _ = false
            rw [HL.out, allB_no hkl (show tokB (s[k].toNat : Int) = false by rw [tokB, ha, hb]; rfl)]
            simp
          rw [ha] at HS
          rw [hb] at HI
          clear ha hb
          go_wp2_with (first
            | (go_at_call 67; refine (HS.out _).mono ?_; rintro e w' ⟨rfl, rfl⟩)
            | (go_at_call 68; refine (HI.out _).mono ?_; rintro e w' ⟨rfl, rfl⟩))
          go_ret
          exact ⟨ret_bool HN.out.symm, rfl⟩
        · have HH : Hid (tokB (s.data.toList[k].toNat : Int) = true) := (show tokB (s[k].toNat : Int) = true by rw [tokB, hb]; simp)
          rw [ha] at HS
          rw [hb] at HI
          clear ha hb
          go_wp2_with (first
            | (go_at_call 67; refine (HS.out _).mono ?_; rintro e w' ⟨rfl, rfl⟩)
            | (go_at_call 68; refine (HI.out _).mono ?_; rintro e w' ⟨rfl, rfl⟩))
          go_round
          case rel =>
            refine ⟨k + 1, by omega, by go_num, fun j hj h => ?_⟩
            by_cases e : j = k
            · subst e; exact HH.out
            · exact HF.out j hj (by omega)
          case measure => simp [intOf]; omega
      · have HH : Hid (tokB (s.data.toList[k].toNat : Int) = true) := (show tokB (s[k].toNat : Int) = true by rw [tokB, ha]; rfl)
        rw [ha] at HS
        clear ha
        go_wp2_with (go_at_call 67; refine (HS.out _).mono ?_; rintro e w' ⟨rfl, rfl⟩)
        go_round
        case rel =>
          refine ⟨k + 1, by omega, by go_num, fun j hj h => ?_⟩
          by_cases e : j = k
          · subst e; exact HH.out
          · exact HF.out j hj (by omega)
        case measure => simp [intOf]; omega
    · have HN : Hid (allB tokB s.data.toList = true) := allB_yes (fun j hj => HF.out j hj (by omega))
      clear hL
      go_wp2
      go_ret
      exact ⟨ret_bool (by rw [HL.out, HN.out]; simp), rfl⟩

set_option maxHeartbeats 400000 in
theorem refValue_any (s : ByteArray) (w : World) (hs : s.size ≤ maxLen) :
    Calls Tryz.prog 70 #[.string s] w fun e w' => e = .returned (.bool (allB valB s.data.toList)) ∧ w = w' := by
  unfold maxLen at hs
  have hL : s.data.toList.length = s.size := by simp
  go_enter Tryz.func70, Tryz.ntmps70
  go_wp2
  go_loop [3] (fun i => ∃ k : Nat, k ≤ s.size ∧ i = .int .i64 k ∧ ∀ j (hj : j < s.data.toList.length), j < k → valB (s.data.toList[j].toNat : Int) = true) (fun i => s.size - (intOf i).toNat)
  case atStart => exact ⟨0, Nat.zero_le _, rfl, fun j hj h => by omega⟩
  case round =>
    obtain ⟨k, hk, rfl, hf⟩ := hrel
    have HF : Hid (∀ j (hj : j < s.data.toList.length), j < k → valB (s.data.toList[j].toNat : Int) = true) := hf
    clear hf
    by_cases hlt : k < s.size
    · have hkl : k < s.data.toList.length := by omega
      clear hL
      have HNo : Hid (valB (s[k].toNat : Int) = false → allB valB s.data.toList = false) := fun h => allB_no hkl h
      have HYe : Hid (valB (s[k].toNat : Int) = true → valB (s.data.toList[k].toNat : Int) = true) := fun h => h
      obtain ⟨c, hc⟩ : ∃ c : Int, (s[k].toNat : Int) = c := ⟨_, rfl⟩
      rw [hc] at HNo HYe
      have hcl : c = 9 ∨ ((c != 9) = true ∧ c < 32) ∨ ((c != 9) = true ∧ 32 ≤ c ∧ c = 127) ∨ ((c != 9) = true ∧ 32 ≤ c ∧ (c == 127) = false) := by
        simp
        omega
      rcases hcl with rfl | ⟨h1, h2⟩ | ⟨h1, h2, rfl⟩ | ⟨h1, h2, h3⟩
      · go_wp2
        go_round
        case rel =>
          refine ⟨k + 1, by omega, by go_num, fun j hj h => ?_⟩
          by_cases e : j = k
          · subst e; exact HYe.out (by decide)
          · exact HF.out j hj (by omega)
        case measure => simp [intOf]; omega
      · have HV : Hid (valB c = false) := by
          show valB c = false
          have : c ≠ 9 := by simpa using h1
          simp [valB, this]
          omega
        go_wp2
        go_ret
        exact ⟨ret_bool (HNo.out HV.out).symm, rfl⟩
      · go_wp2
        go_ret
        exact ⟨ret_bool (HNo.out (by decide)).symm, rfl⟩
      · have HV : Hid (valB c = true) := by
          show valB c = true
          have : c ≠ 127 := by simpa using h3
          simp [valB, this]
          omega
        go_wp2
        go_round
        case rel =>
          refine ⟨k + 1, by omega, by go_num, fun j hj h => ?_⟩
          by_cases e : j = k
          · subst e; exact HYe.out HV.out
          · exact HF.out j hj (by omega)
        case measure => simp [intOf]; omega
    · have HN : Hid (allB valB s.data.toList = true) := allB_yes (fun j hj => HF.out j hj (by omega))
      clear hL
      go_wp2
      go_ret
      exact ⟨ret_bool HN.out.symm, rfl⟩
end Go.Proofs.YtmodmeabjhaklabGreatDoor
/-
  chars.Trim and the document's, and the document's SameTexts, by their contracts.
-/
namespace Go.Proofs.YtmodmeabjhaklabGreatDoor
open Go.RowKit

def blk (c : UInt8) : Bool := decide (c.toNat = 32) || decide (c.toNat = 9)
def dw (l : List UInt8) : List UInt8 := l.dropWhile blk
def rdw (l : List UInt8) : List UInt8 := (l.reverse.dropWhile blk).reverse
def trimL (l : List UInt8) : List UInt8 := rdw (dw l)
theorem blk_in : (fun c : UInt8 => ([32, 9] : List UInt8).contains c) = blk := by
  funext c
  rw [Bool.eq_iff_iff]
  simp only [List.contains_eq_mem, List.mem_cons, List.mem_nil_iff, or_false, decide_eq_true_eq, blk, Bool.or_eq_true]
  constructor
  · rintro (rfl | rfl)
    · exact .inl rfl
    · exact .inr rfl
  · rintro (h | h)
    · exact .inl (UInt8.toNat_inj.1 (by rw [h]; rfl))
    · exact .inr (UInt8.toNat_inj.1 (by rw [h]; rfl))
theorem dw_yes {a : UInt8} {r : List UInt8} (h : blk a = true) : dw (a :: r) = dw r := by simp [dw, List.dropWhile, h]
theorem dw_no {a : UInt8} {r : List UInt8} (h : blk a = false) : dw (a :: r) = a :: r := by simp [dw, List.dropWhile, h]
theorem rdw_snoc_yes {a : UInt8} {r : List UInt8} (h : blk a = true) : rdw (r ++ [a]) = rdw r := by simp [rdw, h]
theorem rdw_snoc_no {a : UInt8} {r : List UInt8} (h : blk a = false) : rdw (r ++ [a]) = r ++ [a] := by simp [rdw, h]
theorem rdw_cons (a : UInt8) (r : List UInt8) : rdw (a :: r) = if rdw r = [] then (if blk a then [] else [a]) else a :: rdw r := by
  unfold rdw
  rw [List.reverse_cons, List.dropWhile_append]
  cases h : r.reverse.dropWhile blk with
  | nil => simp [List.dropWhile]; cases blk a <;> rfl
  | cons x xs => simp
theorem rdw_dw (l : List UInt8) : dw (rdw l) = rdw (dw l) := by
  induction l with
  | nil => rfl
  | cons a r ih =>
    rw [rdw_cons]
    cases hb : blk a
    · rw [dw_no hb, rdw_cons, hb]
      split
      · exact dw_no hb
      · exact dw_no hb
    · rw [dw_yes hb]
      split
      · rename_i h
        rw [h] at ih
        exact ih
      · rw [dw_yes hb]
        exact ih
theorem trimS_eq (l : List UInt8) : Lib.trimS l [32, 9] = trimL l := by
  unfold Lib.trimS Lib.trimLeftS Lib.trimRightS
  rw [blk_in]
  exact rdw_dw l

theorem trim_any (s : ByteArray) (w : World) (hs : s.size ≤ 140737488351232) :
    Calls Tryz.prog 58 #[.string s] w fun e w' => e = .returned (.string ⟨(trimL s.data.toList).toArray⟩) ∧ Below w.heap.size w w' := by
  have HT : Hid (∀ W, Calls Tryz.prog 83 #[.string s, .string ⟨#[32, 9]⟩] W fun e w' => e = .returned (.string ⟨(trimL s.data.toList).toArray⟩) ∧ Below W.heap.size W w') := fun W => by
    have := strings_Trim s W (by omega)
    rw [trimS_eq] at this
    exact this
  go_enter Tryz.func58, Tryz.ntmps58
  go_wp2_with (go_at_call 83; refine (HT.out _).mono ?_; rintro e w' ⟨rfl, hb⟩)
  go_ret
  exact ⟨rfl, hb⟩

theorem blk_at {t : ByteArray} {k : Nat} (h : k < t.size) : blk t.data.toList[k] = (decide ((t[k].toNat : Int) = 32) || decide ((t[k].toNat : Int) = 9)) := by
  show (decide (t[k].toNat = 32) || decide (t[k].toNat = 9)) = _
  rw [Bool.eq_iff_iff]
  simp
  omega
theorem head_tail {t : ByteArray} (h : 0 < t.size) : t.data.toList = t.data.toList[0]'(by simpa using h) :: (t.extract 1 t.size).data.toList := by
  rw [extract_drop]
  have := List.drop_eq_getElem_cons (l := t.data.toList) (i := 0) (by simpa using h)
  simpa using this
theorem init_last {t : ByteArray} (h : 0 < t.size) : t.data.toList = (t.extract 0 (t.size - 1)).data.toList ++ [t.data.toList[t.size - 1]'(by simp; have : t.size = t.data.size := rfl; omega)] := by
  have hL : t.data.toList.length = t.size := by simp
  rw [extract_piece]
  show t.data.toList = pieceL t.data.toList 0 (t.size - 1) ++ _
  unfold pieceL
  rw [List.drop_zero, Nat.sub_zero, ← List.take_succ_eq_append_getElem (by omega)]
  exact (List.take_of_length_le (by omega)).symm

set_option maxHeartbeats 1000000 in
theorem refTrim_any (s : ByteArray) (w : World) (hs : s.size ≤ maxLen) :
    Calls Tryz.prog 50 #[.string s] w fun e w' => e = .returned (.string ⟨(trimL s.data.toList).toArray⟩) ∧ w = w' := by
  unfold maxLen at hs
  go_enter Tryz.func50, Tryz.ntmps50
  go_wp2
  go_loop [0] (fun v => ∃ t : ByteArray, v = .string t ∧ t.size ≤ s.size ∧ dw t.data.toList = dw s.data.toList) (fun v => strLen v)
  case atStart => exact ⟨s, rfl, Nat.le_refl _, rfl⟩
  case round =>
    obtain ⟨t, rfl, htz, hd⟩ := hrel
    have HD : Hid (dw t.data.toList = dw s.data.toList) := hd
    clear hd
    by_cases h0 : 0 < t.size ∧ blk (t.data.toList.getD 0 0) = true
    · obtain ⟨hp, hb⟩ := h0
      have hg : t.data.toList.getD 0 0 = t.data.toList[0]'(by simpa using hp) := by rw [List.getD_eq_getElem?_getD, List.getElem?_eq_getElem (by simpa using hp)]; rfl
      rw [hg] at hb
      have HH := head_tail hp
      have HN : Hid (dw (t.extract 1 t.size).data.toList = dw s.data.toList) := by
        show dw _ = _
        have h := HD.out
        rw [HH, dw_yes hb] at h
        exact h
      rw [blk_at hp] at hb
      have hcl : (t[0].toNat : Int) = 32 ∨ (((t[0].toNat : Int) == 32) = false ∧ (t[0].toNat : Int) = 9) := by
        simp at hb ⊢
        omega
      have hex : Hid ((t.extract 1 t.size).size = t.size - 1) := by show (t.extract 1 t.size).size = _; simp
      have hp1 : 1 ≤ (t.size : Int) := by omega
      clear HH hg hb
      rcases hcl with h | ⟨h, h'⟩
      · have hq : ((t[0].toNat : Int) == 32) = true := by simp [h]
        clear h
        go_wp2
        go_round
        case rel => exact ⟨t.extract 1 t.size, rfl, by rw [hex.out]; omega, HN.out⟩
        case measure => show (t.extract 1 t.size).size < t.size; rw [hex.out]; omega
      · have hq : ((t[0].toNat : Int) == 9) = true := by simp [h']
        clear h'
        go_wp2
        go_round
        case rel => exact ⟨t.extract 1 t.size, rfl, by rw [hex.out]; omega, HN.out⟩
        case measure => show (t.extract 1 t.size).size < t.size; rw [hex.out]; omega
    · have HT : Hid (t.data.toList = dw s.data.toList) := by
        show t.data.toList = _
        rw [← HD.out]
        by_cases hp : 0 < t.size
        · have hb : blk (t.data.toList[0]'(by simpa using hp)) = false := by
            have hg : t.data.toList.getD 0 0 = t.data.toList[0]'(by simpa using hp) := by rw [List.getD_eq_getElem?_getD, List.getElem?_eq_getElem (by simpa using hp)]; rfl
            have : ¬ blk (t.data.toList.getD 0 0) = true := fun h => h0 ⟨hp, h⟩
            rw [hg] at this
            simpa using this
          rw [head_tail hp, dw_no hb]
        · rw [toList_nil (by omega)]
          rfl
      have hcl : (∃ hp : 0 < t.size, (((t[0]'hp).toNat : Int) == 32) = false ∧ (((t[0]'hp).toNat : Int) == 9) = false) ∨ ¬ (0 : Int) < (t.size : Int) := by
        by_cases hp : 0 < t.size
        · left
          have hb : blk (t.data.toList[0]'(by simpa using hp)) = false := by
            have hg : t.data.toList.getD 0 0 = t.data.toList[0]'(by simpa using hp) := by rw [List.getD_eq_getElem?_getD, List.getElem?_eq_getElem (by simpa using hp)]; rfl
            have : ¬ blk (t.data.toList.getD 0 0) = true := fun h => h0 ⟨hp, h⟩
            rw [hg] at this
            simpa using this
          rw [blk_at hp] at hb
          refine ⟨hp, ?_⟩
          simp at hb ⊢
          omega
        · right
          omega
      clear h0 HD
      rcases hcl with ⟨hp, h1, h2⟩ | h1
      all_goals
        go_wp2
        go_loop [0] (fun v => ∃ t' : ByteArray, v = .string t' ∧ t'.size ≤ s.size ∧ rdw t'.data.toList = rdw (dw s.data.toList)) (fun v => strLen v)
        case atStart => exact ⟨t, rfl, htz, by rw [HT.out]⟩
        case round =>
          clear HT htz
          try clear h1 h2 hp
          try clear h1
          obtain ⟨r, rfl, hrz, hd⟩ := hrel
          have HD : Hid (rdw r.data.toList = rdw (dw s.data.toList)) := hd
          clear hd
          by_cases hp : 0 < r.size
          · have HI := init_last hp
            have hbl := blk_at (t := r) (k := r.size - 1) (by omega)
            have hlast : r.size - 1 < r.size := by omega
            obtain ⟨c, hc⟩ : ∃ c : Int, (r[r.size - 1].toNat : Int) = c := ⟨_, rfl⟩
            rw [hc] at hbl
            have hex : Hid ((r.extract 0 (r.size - 1)).size = r.size - 1) := by show (r.extract 0 (r.size - 1)).size = _; simp
            have hp1 : 1 ≤ (r.size : Int) := by omega
            by_cases hb : blk (r.data.toList[r.size - 1]'(by simp; have : r.size = r.data.size := rfl; omega)) = true
            · have HN : Hid (rdw (r.extract 0 (r.size - 1)).data.toList = rdw (dw s.data.toList)) := by
                show rdw _ = _
                have h := HD.out
                rw [HI, rdw_snoc_yes hb] at h
                exact h
              rw [hbl] at hb
              have hcl : c = 32 ∨ ((c == 32) = false ∧ c = 9) := by
                simp at hb ⊢
                omega
              clear HI hbl hb
              rcases hcl with rfl | ⟨h, rfl⟩
              all_goals
                go_wp2
                go_round
                case rel => exact ⟨r.extract 0 (r.size - 1), rfl, by rw [hex.out]; omega, HN.out⟩
                case measure => show (r.extract 0 (r.size - 1)).size < r.size; rw [hex.out]; omega
            · have hb' : blk (r.data.toList[r.size - 1]'(by simp; have : r.size = r.data.size := rfl; omega)) = false := by simpa using hb
              have HR : Hid (r.data.toList = trimL s.data.toList) := by
                show r.data.toList = rdw (dw s.data.toList)
                rw [← HD.out, HI, rdw_snoc_no hb']
              rw [hbl] at hb'
              have hcl : (c == 32) = false ∧ (c == 9) = false := by
                simp at hb' ⊢
                omega
              obtain ⟨q1, q2⟩ := hcl
              clear HI hbl hb hb'
              go_wp2
              go_ret
              exact ⟨ret_str (by rw [← HR.out]), rfl⟩
          · have HR : Hid (r.data.toList = trimL s.data.toList) := by
              show r.data.toList = rdw (dw s.data.toList)
              rw [← HD.out, toList_nil (by omega)]
              rfl
            have hp' : ¬ (0 : Int) < (r.size : Int) := by omega
            go_wp2
            go_ret
            exact ⟨ret_str (by rw [← HR.out]), rfl⟩

end Go.Proofs.YtmodmeabjhaklabGreatDoor
/-
  chars.Lower and the document's by their contracts.
-/
namespace Go.Proofs.YtmodmeabjhaklabGreatDoor
open Go.RowKit

def low (c : UInt8) : UInt8 := if 65 ≤ c.toNat ∧ c.toNat ≤ 90 then UInt8.ofNat (c.toNat + 32) else c
def lowL (l : List UInt8) : List UInt8 := l.map low
theorem low_up {c : UInt8} (h : 65 ≤ (c.toNat : Int) ∧ (c.toNat : Int) ≤ 90) : ((low c).toNat : Int) = (c.toNat : Int) + 32 := by
  rw [low, if_pos (by omega), UInt8.toNat_ofNat', Nat.mod_eq_of_lt (by omega)]
  omega
theorem low_no {c : UInt8} (h : ¬ (65 ≤ (c.toNat : Int) ∧ (c.toNat : Int) ≤ 90)) : low c = c := by rw [low, if_neg (by omega)]

theorem lower_conv (s : ByteArray) (w : World) : ∃ W1 cap, (convert 9 22 (.string s)).run Tryz.prog w = .ok (.slice (some ⟨w.heap.size, 0, none⟩) s.size cap) W1 ∧ (∀ j (h : j < s.size), W1.cell? ⟨w.heap.size, j, none⟩ = some (.int .u8 (s[j].toNat : Int))) ∧
    (∀ j, j < s.size → W1.frozen? ⟨w.heap.size, j, none⟩ = false) ∧ Below w.heap.size w W1 ∧ w.heap.size < W1.heap.size := by
  refine ⟨_, _, run_bytes_of_string w 9 22 5 s Tryz.underlying9 Tryz.underlying22 Tryz.underlying5, ?_, ?_, ?_, ?_⟩
  · intro j h
    have := World.cell?_alloc_mark w.drew (bytesRow s (grownCap w s.size 0 5)) 5 ((bytesRow s (grownCap w s.size 0 5)).size, (bytesRow s (grownCap w s.size 0 5)).size + 1) j
    rw [show w.drew.heap.size = w.heap.size from rfl] at this
    rw [this, bytesRow, Array.getElem?_append_left (by simpa using h)]
    have hj : j < s.data.size := h
    rw [Array.getElem?_map, Array.getElem?_eq_getElem hj]
    rfl
  · intro j h
    have := World.frozen?_alloc_mark w.drew (bytesRow s (grownCap w s.size 0 5)) 5 (bytesRow s (grownCap w s.size 0 5)).size ((bytesRow s (grownCap w s.size 0 5)).size + 1) j
    rw [show w.drew.heap.size = w.heap.size from rfl] at this
    rw [this]
    have hsz : s.size ≤ (bytesRow s (grownCap w s.size 0 5)).size := by
      rw [bytesRow, Array.size_append, Array.size_map]
      exact Nat.le_add_right _ _
    rw [decide_eq_false (by omega)]
    rfl
  · exact ((Below.refl _ w).drew).alloc (Nat.le_refl _) _
  · show w.heap.size < (w.heap.push _).size
    simp

set_option maxHeartbeats 1000000 in
theorem lower_any (s : ByteArray) (w : World) (hs : s.size ≤ 140737488351232) :
    Calls Tryz.prog 57 #[.string s] w fun e w' => e = .returned (.string ⟨(lowL s.data.toList).toArray⟩) ∧ Below w.heap.size w w' := by
  obtain ⟨W1, cap, hcv, hc0, hf0, hb0, hz0⟩ := lower_conv s w
  have hL : s.data.toList.length = s.size := by simp
  have HL : Hid (s.data.toList.length = s.size) := hL
  clear hL
  have HC0 : Hid (∀ j (h : j < s.size), W1.cell? ⟨w.heap.size, j, none⟩ = some (.int .u8 (s[j].toNat : Int))) := hc0
  have HF0 : Hid (∀ j, j < s.size → W1.frozen? ⟨w.heap.size, j, none⟩ = false) := hf0
  clear hc0 hf0
  go_enter Tryz.func57, Tryz.ntmps57
  go_wp2
  go_loopw [10] (fun i wr => ∃ k : Nat, k ≤ s.size ∧ i = .int .i64 k ∧ (∀ j (h : j < s.size), wr.cell? ⟨w.heap.size, j, none⟩ = some (.int .u8 ((if j < k then low s[j] else s[j]).toNat : Int))) ∧ (∀ j, j < s.size → wr.frozen? ⟨w.heap.size, j, none⟩ = false) ∧ Below w.heap.size w wr ∧ w.heap.size < wr.heap.size)
    (fun i _ => s.size - (intOf i).toNat)
  case atStart => exact ⟨0, Nat.zero_le _, rfl, fun j h => by rw [if_neg (by omega)]; exact HC0.out j h, HF0.out, hb0, hz0⟩
  case round =>
    clear HC0 HF0 hb0 hz0 hcv
    obtain ⟨k, hk, rfl, hc, hf, hnx, hz⟩ := hrel
    have HC : Hid (∀ j (h : j < s.size), wr.cell? ⟨w.heap.size, j, none⟩ = some (.int .u8 ((if j < k then low s[j] else s[j]).toNat : Int))) := hc
    have HF : Hid (∀ j, j < s.size → wr.frozen? ⟨w.heap.size, j, none⟩ = false) := hf
    clear hc hf
    by_cases hlt : k < s.size
    · have hcell : wr.cell? ⟨w.heap.size, k, none⟩ = some (.int .u8 (s[k].toNat : Int)) := by
        have := HC.out k hlt
        rw [if_neg (by omega)] at this
        exact this
      have hfz := HF.out k hlt
      have b1 : (s[k].toNat : Int) ≤ 255 := by have := s[k].toNat_lt; omega
      have HU : Hid (∀ W, Calls Tryz.prog 82 #[.int .u8 (s[k].toNat : Int)] W fun e w' => e = .returned (.bool (upB (s[k].toNat : Int))) ∧ W = w') := fun W => isUpper_any _ W (Int.natCast_nonneg _) b1
      by_cases hu : 65 ≤ (s[k].toNat : Int) ∧ (s[k].toNat : Int) ≤ 90
      · have hub : upB (s[k].toNat : Int) = true := decide_eq_true hu
        have HV : Hid (((low s[k]).toNat : Int) = (s[k].toNat : Int) + 32) := low_up hu
        obtain ⟨hu1, hu2⟩ := hu
        rw [hub] at HU
        clear hub
        go_wp2_with (go_at_call 82; refine (HU.out _).mono ?_; rintro e w' ⟨rfl, rfl⟩)
        go_roundw
        case rel =>
          refine ⟨k + 1, by omega, by go_num, fun j h => ?_, fun j h => ?_, hnx.setCell (by simp) _, by simpa using hz⟩
          · by_cases e : j = k
            · subst e
              rw [if_pos (by omega), HV.out]
              rw [World.cell?_setCell_same _ _ _ hcell]
              congr 2
              omega
            · rw [World.cell?_setCell_other _ _ _ _ (by simp <;> omega)]
              have := HC.out j h
              rw [this]
              by_cases h1 : j < k
              · rw [if_pos h1, if_pos (by omega)]
              · rw [if_neg h1, if_neg (by omega)]
          · rw [World.frozen?_setCell]
            exact HF.out j h
        case measure => simp [intOf]; omega
      · have hub : upB (s[k].toNat : Int) = false := decide_eq_false hu
        have HV : Hid (low s[k] = s[k]) := low_no hu
        rw [hub] at HU
        clear hub hu
        go_wp2_with (go_at_call 82; refine (HU.out _).mono ?_; rintro e w' ⟨rfl, rfl⟩)
        go_roundw
        case rel =>
          refine ⟨k + 1, by omega, by go_num, fun j h => ?_, HF.out, hnx, hz⟩
          rw [HC.out j h]
          by_cases e : j = k
          · subst e
            rw [if_neg (by omega), if_pos (by omega), HV.out]
          · by_cases h1 : j < k
            · rw [if_pos h1, if_pos (by omega)]
            · rw [if_neg h1, if_neg (by omega)]
        case measure => simp [intOf]; omega
    · obtain rfl : k = s.size := by omega
      have hbs : Bytes wr (some ⟨w.heap.size, 0, none⟩) (lowL s.data.toList) := by
        refine .inr ⟨w.heap.size, 0, rfl, hz, fun j hj => ?_⟩
        have hj' : j < s.size := by simp only [lowL, List.length_map] at hj; rw [HL.out] at hj; exact hj
        rw [Nat.zero_add, HC.out j hj', if_pos hj']
        simp only [lowL, List.getElem_map]
        rfl
      have hll : (lowL s.data.toList).length = s.size := by rw [lowL, List.length_map, HL.out]
      have hcv := convert_bytes wr (some ⟨w.heap.size, 0, none⟩) cap _ hbs
      rw [hll] at hcv
      clear hll hbs HC HF
      go_wp2
      go_ret
      exact ⟨rfl, hnx⟩

theorem lowL_snoc (l : List UInt8) (k : Nat) (h : k < l.length) : lowL (l.take (k + 1)) = lowL (l.take k) ++ [low l[k]] := by
  rw [List.take_succ_eq_append_getElem h, lowL, List.map_append]
  rfl
set_option maxHeartbeats 1000000 in
set_option maxRecDepth 20000 in
theorem refLower_any (s : ByteArray) (w : World) (hs : s.size ≤ 140737488351232) :
    Calls Tryz.prog 47 #[.string s] w fun e w' => e = .returned (.string ⟨(lowL s.data.toList).toArray⟩) ∧ Below w.heap.size w w' := by
  obtain ⟨i0, hi, hz0, hz1, hz2⟩ := info_parts info5
  have hL : s.data.toList.length = s.size := by simp
  have HL : Hid (s.data.toList.length = s.size) := hL
  clear hL
  go_enter Tryz.func47, Tryz.ntmps47
  go_wp2
  go_loopw [3, 4] (fun v i wr => ∃ k : Nat, k ≤ s.size ∧ i = .int .i64 k ∧ Own wr w.heap.size v (lowL (s.data.toList.take k)) ∧ Below w.heap.size w wr)
    (fun _ i _ => s.size - (intOf i).toNat)
  case atStart => exact ⟨0, Nat.zero_le _, rfl, World.ownsRow_nil _ _ _ _, Below.refl _ _⟩
  case round =>
    obtain ⟨k, hk, rfl, hown, hnx⟩ := hrel
    have hsz := hnx.size
    have HO : Hid (Own wr w.heap.size u3 (lowL (s.data.toList.take k))) := hown
    have hle : (lowL (s.data.toList.take k)).length ≤ k := by rw [lowL, List.length_map]; exact List.length_take_le _ _
    clear hown
    by_cases hlt : k < s.size
    · have HE : Hid (lowL (s.data.toList.take (k + 1)) = lowL (s.data.toList.take k) ++ [low s[k]]) := lowL_snoc _ _ (by rw [HL.out]; omega)
      have b1 : (s[k].toNat : Int) ≤ 255 := by have := s[k].toNat_lt; omega
      have hcl : (65 ≤ (s[k].toNat : Int) ∧ (s[k].toNat : Int) ≤ 90) ∨ (65 ≤ (s[k].toNat : Int) ∧ decide ((s[k].toNat : Int) ≤ 90) = false ∧ 90 < (s[k].toNat : Int)) ∨ (s[k].toNat : Int) < 65 := by
        simp
        omega
      obtain ⟨x, hx⟩ : ∃ x : Int, x = ((low s[k]).toNat : Int) := ⟨_, rfl⟩
      have HP : Hid (bcs [low s[k]] = [.int .u8 x]) := by show bcs _ = _; rw [hx]; rfl
      rcases hcl with ⟨h1, h2⟩ | ⟨h1, h2, h3⟩ | h1
      · have hxe : x = (s[k].toNat : Int) + 32 := by rw [hx]; exact low_up ⟨h1, h2⟩
        subst hxe
        clear hx
        go_wp2_with (at_builtin; refine wpList_append_own _ rfl (.tmp 23) (.tmp 25) 22 rfl w.heap.size 5 i0 (.int .u8 0) 1 1 Tryz.underlying22 hi hz0 hz1 hz2 rfl (by decide) _ _ _ rfl (World.ownsRow.alloc HO.out _) ⟨wr.heap.size, 0, none⟩ 1 1 [.int .u8 ((s[k].toNat : Int) + 32)] rfl rfl (cell_one_new _ _ _) (one_one _ rfl) (by unfold maxLen; omega) (by omega) (by simp; omega) ?_; intro v1 w1 hown1 hgrow1 _)
        have HR : Hid (Own w1 w.heap.size v1 (lowL (s.data.toList.take (k + 1)))) := by
          show Own _ _ _ _
          rw [HE.out]
          exact own_more rfl HP.out hown1
        have hB1 : Below w.heap.size w w1 := (hnx.alloc hsz _).grown hgrow1 (by simp; omega) (fun j hj => (World.ownsRow.lt HO.out j hj).1)
        clear hown1 hgrow1
        go_wp2
        go_roundw
        case rel => exact ⟨k + 1, by omega, by go_num, HR.out, hB1⟩
        case measure => simp [intOf]; omega
      all_goals
        have hxe : x = (s[k].toNat : Int) := by rw [hx, low_no (by omega)]
        subst hxe
        clear hx
        go_wp2_with (at_builtin; refine wpList_append_own _ rfl (.tmp 23) (.tmp 25) 22 rfl w.heap.size 5 i0 (.int .u8 0) 1 1 Tryz.underlying22 hi hz0 hz1 hz2 rfl (by decide) _ _ _ rfl (World.ownsRow.alloc HO.out _) ⟨wr.heap.size, 0, none⟩ 1 1 [.int .u8 (s[k].toNat : Int)] rfl rfl (cell_one_new _ _ _) (one_one _ rfl) (by unfold maxLen; omega) (by omega) (by simp; omega) ?_; intro v1 w1 hown1 hgrow1 _)
        have HR : Hid (Own w1 w.heap.size v1 (lowL (s.data.toList.take (k + 1)))) := by
          show Own _ _ _ _
          rw [HE.out]
          exact own_more rfl HP.out hown1
        have hB1 : Below w.heap.size w w1 := (hnx.alloc hsz _).grown hgrow1 (by simp; omega) (fun j hj => (World.ownsRow.lt HO.out j hj).1)
        clear hown1 hgrow1
        go_wp2
        go_roundw
        case rel => exact ⟨k + 1, by omega, by go_num, HR.out, hB1⟩
        case measure => simp [intOf]; omega
    · obtain rfl : k = s.size := by omega
      have hO := HO.out
      rw [List.take_of_length_le (by rw [HL.out]; omega)] at hO
      obtain ⟨a', cap', rfl, hbs⟩ := Own.bytes hO
      have hcv := convert_bytes wr a' cap' _ hbs
      clear hO HO hle
      go_wp2
      go_ret
      exact ⟨rfl, hnx⟩
end Go.Proofs.YtmodmeabjhaklabGreatDoor

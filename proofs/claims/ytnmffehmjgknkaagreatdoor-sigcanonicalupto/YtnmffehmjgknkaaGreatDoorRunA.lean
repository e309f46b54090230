/-
  Words of 32 bits as the model holds them, and what its operations make of them; math/bits.RotateLeft32, hash.turned and the document's 'left' by their contracts.
-/
import Derived.Test.YtnmffehmjgknkaaGreatDoorProg
import Derived.WalkKit
import Derived.WalkSpells
import Derived.WalkLawsBesides
import Derived.Deep.QuietTactic
import Derived.BigQuiet
import Derived.Laws.IdiomStrings
import Derived.Deep.WholeRow
import Derived.BigRegion
import Derived.Laws.CopyOwn
import Derived.Deep.RegionHeld3
import Derived.Laws.AppendOwnNone
namespace Go.Proofs.YtnmffehmjgknkaaGreatDoor
open Go.RowKit

/-- A word's value. -/
def W (x : BitVec 32) : Int := (x.toNat : Int)
theorem W_bd (x : BitVec 32) : 0 ≤ W x ∧ W x ≤ 4294967295 := by have := x.isLt; unfold W; omega
theorem W_lo (x : BitVec 32) : 0 ≤ W x := (W_bd x).1
theorem W_hi (x : BitVec 32) : W x ≤ 4294967295 := (W_bd x).2
theorem W_inj {x y : BitVec 32} (h : W x = W y) : x = y := by unfold W at h; exact BitVec.eq_of_toNat_eq (by omega)
theorem ofInt_W (x : BitVec 32) : BitVec.ofInt 32 (W x) = x := by
  unfold W
  rw [BitVec.ofInt_natCast]
  exact BitVec.eq_of_toNat_eq (by simp)
theorem wrap_W (x : BitVec 32) : IntKind.u32.wrap (W x) = W x := by have := W_bd x; rw [IntKind.wrap_u32]; omega
theorem W_xor (a b : BitVec 32) : bits .xor .u32 (W a) (W b) = W (a ^^^ b) := by
  show IntKind.u32.wrap ((BitVec.ofInt 32 (W a) ^^^ BitVec.ofInt 32 (W b)).toNat : Int) = _
  rw [ofInt_W, ofInt_W]
  exact wrap_W _
theorem W_and (a b : BitVec 32) : bits .and .u32 (W a) (W b) = W (a &&& b) := by
  show IntKind.u32.wrap ((BitVec.ofInt 32 (W a) &&& BitVec.ofInt 32 (W b)).toNat : Int) = _
  rw [ofInt_W, ofInt_W]
  exact wrap_W _
theorem W_or (a b : BitVec 32) : bits .or .u32 (W a) (W b) = W (a ||| b) := by
  show IntKind.u32.wrap ((BitVec.ofInt 32 (W a) ||| BitVec.ofInt 32 (W b)).toNat : Int) = _
  rw [ofInt_W, ofInt_W]
  exact wrap_W _
theorem W_andNot (a b : BitVec 32) : bits .andNot .u32 (W a) (W b) = W (a &&& ~~~ b) := by
  show IntKind.u32.wrap ((BitVec.ofInt 32 (W a) &&& ~~~ BitVec.ofInt 32 (W b)).toNat : Int) = _
  rw [ofInt_W, ofInt_W]
  exact wrap_W _
theorem W_add (a b : BitVec 32) : IntKind.u32.wrap (W a + W b) = W (a + b) := by
  rw [IntKind.wrap_u32]
  unfold W
  rw [BitVec.toNat_add]
  omega
theorem W_shl (a : BitVec 32) (k : Nat) : IntKind.u32.wrap (W a * (2 : Int) ^ k) = W (a <<< k) := by
  rw [IntKind.wrap_u32]
  unfold W
  rw [BitVec.toNat_shiftLeft, Nat.shiftLeft_eq]
  simp
theorem W_shr (a : BitVec 32) (k : Nat) : W a / (2 : Int) ^ k = W (a >>> k) := by
  unfold W
  rw [BitVec.toNat_ushiftRight, Nat.shiftRight_eq_div_pow]
  simp

/-- A byte as a word. -/
def bw (c : UInt8) : BitVec 32 := BitVec.ofNat 32 c.toNat
theorem W_bw (c : UInt8) : W (bw c) = (c.toNat : Int) := by
  have := c.toNat_lt
  unfold W bw
  rw [BitVec.toNat_ofNat, Nat.mod_eq_of_lt (by omega)]

theorem ret_w {x y : BitVec 32} (h : x = y) : Ending.returned (.int .u32 (W x)) = .returned (.int .u32 (W y)) := by rw [h]
theorem ret_int {k : IntKind} {a b : Int} (h : a = b) : Ending.returned (.int k a) = .returned (.int k b) := by rw [h]
theorem ret_bool {p q : Bool} (g : p = q) : Ending.returned (.bool p) = .returned (.bool q) := by rw [g]
theorem ret_str {p q : ByteArray} (g : p = q) : Ending.returned (.string p) = .returned (.string q) := by rw [g]

/-- A word turned to the left. -/
def rotl (x : BitVec 32) (s : Nat) : BitVec 32 := x <<< s ||| x >>> (32 - s)

theorem and31_t : ∀ s : Nat, s < 32 → bits .and .u64 (s : Int) 31 = (s : Int) ∧ bits .and .u64 (18446744073709551584 + (s : Int)) 31 = (s : Int) := by decide +kernel

theorem W_shlm (a : BitVec 32) (k : Nat) : W a * (2 : Int) ^ k % 4294967296 = W (a <<< k) := by
  rw [← W_shl, IntKind.wrap_u32]
theorem W_addm (a b : BitVec 32) : (W a + W b) % 4294967296 = W (a + b) := by
  rw [← W_add, IntKind.wrap_u32]
theorem W_rotl (x : BitVec 32) (s : Nat) : bits .or .u32 (W x * 2 ^ s % 4294967296) (W x / 2 ^ (32 - s)) = W (rotl x s) := by
  rw [W_shlm, W_shr, W_or]
  rfl

theorem rotl_pos (x : BitVec 32) (s : Nat) (w : World) (hs : s < 32) :
    Calls Tryz.prog 233 #[.int .u32 (W x), .int .i64 (s : Int)] w fun e w' => e = .returned (.int .u32 (W (rotl x s))) ∧ w = w' := by
  have ha := (and31_t s hs).1
  have hb := W_bd x
  go_enter Tryz.func233, Tryz.ntmps233
  go_wp2
  go_ret
  exact ⟨ret_int (W_rotl x s), rfl⟩

theorem rotl_neg (x : BitVec 32) (k : Int) (s : Nat) (w : World) (hk : k = (s : Int) - 32) (hs : s < 32) :
    Calls Tryz.prog 233 #[.int .u32 (W x), .int .i64 k] w fun e w' => e = .returned (.int .u32 (W (rotl x s))) ∧ w = w' := by
  have ha := (and31_t s hs).2
  have hb := W_bd x
  have hw : IntKind.u64.wrap k = 18446744073709551584 + (s : Int) := by rw [IntKind.wrap_u64]; omega
  have hw2 : k % 18446744073709551616 = 18446744073709551584 + (s : Int) := by omega
  have hlo : k < 0 := by omega
  have hlo2 : -32 ≤ k := by omega
  clear hk
  go_enter Tryz.func233, Tryz.ntmps233
  go_wp2
  go_ret
  exact ⟨ret_int (W_rotl x s), rfl⟩

theorem turned_any (x : BitVec 32) (a b c : Nat) (w : World) (ha : 0 < a ∧ a < 32) (hb : 0 < b ∧ b < 32) (hc : 0 < c ∧ c < 32) :
    Calls Tryz.prog 202 #[.int .u32 (W x), .int .i64 (a : Int), .int .i64 (b : Int), .int .i64 (c : Int)] w fun e w' => e = .returned (.int .u32 (W (rotl x (32 - a) ^^^ rotl x (32 - b) ^^^ rotl x (32 - c)))) ∧ w = w' := by
  have hx := fun a b => W_xor a b
  obtain ⟨ha0, ha1⟩ := ha
  obtain ⟨hb0, hb1⟩ := hb
  obtain ⟨hc0, hc1⟩ := hc
  go_enter Tryz.func202, Tryz.ntmps202
  go_wp2_with fail
  refine (rotl_neg x _ (32 - a) _ (by omega) (by omega)).mono ?_
  rintro e w' ⟨rfl, rfl⟩
  go_wp2_with fail
  refine (rotl_neg x _ (32 - b) _ (by omega) (by omega)).mono ?_
  rintro e w' ⟨rfl, rfl⟩
  go_wp2_with fail
  refine (rotl_neg x _ (32 - c) _ (by omega) (by omega)).mono ?_
  rintro e w' ⟨rfl, rfl⟩
  go_wp2
  go_ret
  exact ⟨rfl, rfl⟩

theorem left_any (x : BitVec 32) (s : Nat) (w : World) (h0 : 0 < s) (h1 : s < 32) :
    Calls Tryz.prog 149 #[.int .u32 (W x), .int .i64 (s : Int)] w fun e w' => e = .returned (.int .u32 (W (rotl x s))) ∧ (∃ n, w' = w.drewN n) := by
  have hb := W_bd x
  go_enter Tryz.func149, Tryz.ntmps149
  go_wp2_with fail
  go_quiet (fail)
  go_wp2
  go_ret

  exact ⟨ret_int (W_rotl x s), _, rfl⟩
end Go.Proofs.YtnmffehmjgknkaaGreatDoor
/-
  What a slice of bytes holds, told by a list of bytes; how it stays behind later calls.
-/
namespace Go.Proofs.YtnmffehmjgknkaaGreatDoor
open Go.RowKit

theorem info5 : (Tryz.prog.info? 5).map (fun i => (i.zero, i.size, i.bytes)) = some (some (.int .u8 0), 1, 1) := by kernel_rfl
theorem info9 : (Tryz.prog.info? 9).map (fun i => (i.zero, i.size, i.bytes)) = some (some (.string ⟨#[]⟩), 1, 16) := by kernel_rfl

/-- The cells of a list of bytes. -/
def bcs (l : List UInt8) : List Value := l.map fun c => Value.int .u8 (c.toNat : Int)

theorem bcs_length (l : List UInt8) : (bcs l).length = l.length := by simp [bcs]
theorem bcs_append (l m : List UInt8) : bcs (l ++ m) = bcs l ++ bcs m := by simp [bcs]
theorem bcs_one (l : List UInt8) : ∀ u ∈ bcs l, u.oneCell' = true := by
  intro u hu
  simp only [bcs, List.mem_map] at hu
  obtain ⟨c, _, rfl⟩ := hu
  rfl
theorem bcs_get {l : List UInt8} {j : Nat} (h : j < l.length) : (bcs l)[j]? = some (.int .u8 (l[j].toNat : Int)) := by
  simp [bcs, List.getElem?_eq_getElem h]

/-- The slice's head leads to the bytes l (or there are none). -/
def Bytes (w : World) (a : Option Addr) (l : List UInt8) : Prop :=
  l = [] ∨ ∃ b off, a = some ⟨b, off, none⟩ ∧ b < w.heap.size ∧ ∀ j (h : j < l.length), w.cell? ⟨b, off + j, none⟩ = some (.int .u8 (l[j].toNat : Int))

theorem Bytes.at {w : World} {a : Option Addr} {l : List UInt8} (h : Bytes w a l) {k : Nat} (hk : k < l.length) :
    ∃ b off, a = some ⟨b, off, none⟩ ∧ b < w.heap.size ∧ ∀ j (h : j < l.length), w.cell? ⟨b, off + j, none⟩ = some (.int .u8 (l[j].toNat : Int)) := by
  rcases h with rfl | h
  · simp at hk
  · exact h

theorem Bytes.below {w w' : World} {a : Option Addr} {l : List UInt8} (h : Bytes w a l) {B : Nat} (hb : Below B w w') (hB : w.heap.size ≤ B) : Bytes w' a l := by
  rcases h with rfl | ⟨b, off, rfl, hb', hc⟩
  · exact .inl rfl
  · refine .inr ⟨b, off, rfl, by have := hb.size; omega, fun j hj => ?_⟩
    rw [hb.cell (p := ⟨b, off + j, none⟩) (by show b < B; omega)]
    exact hc j hj

/-- A row of the call's own. -/
def Own (w : World) (base : Nat) (v : Value) (l : List UInt8) : Prop := w.ownsRow base 5 1 v l.length (bcs l)

theorem Own.bytes {w : World} {base : Nat} {v : Value} {l : List UInt8} (h : Own w base v l) : ∃ a cap, v = .slice a l.length cap ∧ Bytes w a l := by
  obtain ⟨hl, ⟨rfl, hn⟩ | ⟨g, cap, cur, rfl, hg, hh, hnc, hcm, hcs, htk⟩⟩ := h
  · exact ⟨none, 0, by rw [hn], .inl (List.eq_nil_of_length_eq_zero hn)⟩
  · refine ⟨_, cap, rfl, .inr ⟨g, 0, rfl, ?_, ?_⟩⟩
    · rcases Nat.lt_or_ge g w.heap.size with h | h
      · exact h
      · rw [Array.getElem?_eq_none h] at hh
        simp at hh
    · intro j hj
      have hown : w.ownsRow base 5 1 (.slice (some ⟨g, 0, none⟩) l.length cap) l.length (bcs l) := ⟨hl, .inr ⟨g, cap, cur, rfl, hg, hh, hnc, hcm, hcs, htk⟩⟩
      have := hown.cellAt j (by omega)
      simp only [Nat.zero_add]
      rw [this, bcs_get hj]

theorem convert_bytes (w : World) (a : Option Addr) (cap : Nat) (l : List UInt8) (h : Bytes w a l) :
    (convert 23 9 (.slice a l.length cap)).run Tryz.prog w = .ok (.string ⟨l.toArray⟩) w := by
  cases a with
  | none =>
    obtain rfl : l = [] := by rcases h with h | ⟨_, _, he, _⟩; exact h; simp at he
    rw [run_convert_bytes_string w 23 9 5 none _ cap Tryz.underlying23 Tryz.underlying5 Tryz.underlying9]
    simp [Conv.bytesToString]
    rfl
  | some ad =>
    refine run_convert_bytes_back w 23 9 5 ad cap l Tryz.underlying23 Tryz.underlying5 Tryz.underlying9 ?_
    intro j hj
    rcases h with rfl | ⟨b, off, he, _, hc⟩
    · simp at hj
    · simp only [Option.some.injEq] at he
      subst he
      have e : (⟨b, off, none⟩ : Addr).add j = ⟨b, off + j, none⟩ := by cases j <;> simp [Addr.add]
      rw [e]
      exact hc j hj
end Go.Proofs.YtnmffehmjgknkaaGreatDoor
/-
  enc.Hex by its contract.
-/
namespace Go.Proofs.YtnmffehmjgknkaaGreatDoor
open Go.RowKit

def hd (v : Int) : Int := if v < 10 then 48 + v else 87 + v
theorem hexDigit_any (v : Int) (w : World) (h0 : 0 ≤ v) (h1 : v < 16) :
    Calls Tryz.prog 110 #[.int .u8 v] w fun e w' => e = .returned (.int .u8 (hd v)) ∧ w = w' := by
  by_cases h : v < 10
  · go_enter Tryz.func110, Tryz.ntmps110
    go_wp2
    go_ret
    exact ⟨ret_int (by unfold hd; rw [if_pos h]), rfl⟩
  · go_enter Tryz.func110, Tryz.ntmps110
    go_wp2
    go_ret
    exact ⟨ret_int (by unfold hd; rw [if_neg (by omega)]; omega), rfl⟩

def h2 (c : UInt8) : List UInt8 := [UInt8.ofNat (hd ((c.toNat : Int) / 16)).toNat, UInt8.ofNat (hd ((c.toNat : Int) % 16)).toNat]
def hexL (l : List UInt8) : List UInt8 := l.flatMap h2

theorem hexL_length (l : List UInt8) : (hexL l).length = 2 * l.length := by
  unfold hexL
  induction l with
  | nil => rfl
  | cons a r ih => simp only [List.flatMap_cons, List.length_append, ih, h2, List.length_cons, List.length_nil]; omega

theorem hexL_snoc (l : List UInt8) (k : Nat) (h : k < l.length) : hexL (l.take (k + 1)) = hexL (l.take k) ++ h2 l[k] := by
  rw [List.take_succ_eq_append_getElem h, hexL, List.flatMap_append]
  simp only [List.flatMap_cons, List.flatMap_nil, List.append_nil]
  rfl

theorem hd_bd {v : Int} (h0 : 0 ≤ v) (h1 : v < 16) : 0 ≤ hd v ∧ hd v ≤ 102 := by unfold hd; split <;> omega
theorem hd_cell {v : Int} (h0 : 0 ≤ v) (h1 : v < 16) : ((UInt8.ofNat (hd v).toNat).toNat : Int) = hd v := by
  have := hd_bd h0 h1
  rw [UInt8.toNat_ofNat', Nat.mod_eq_of_lt (by omega)]
  omega
theorem h2_cells (c : UInt8) : bcs (h2 c) = [.int .u8 (hd ((c.toNat : Int) / 16)), .int .u8 (hd ((c.toNat : Int) % 16))] := by
  have hc := c.toNat_lt
  simp only [bcs, h2, List.map_cons, List.map_nil]
  rw [hd_cell (by omega) (by omega), hd_cell (by omega) (by omega)]

set_option maxHeartbeats 400000 in
theorem hex_any (a : Option Addr) (l : List UInt8) (cap : Nat) (w : World) (hr : l.length ≤ 140737488351232) (hb : Bytes w a l) :
    Calls Tryz.prog 49 #[.slice a l.length cap] w fun e w' => e = .returned (.string ⟨(hexL l).toArray⟩) ∧ Below w.heap.size w w' := by
  obtain ⟨i0, hi, hz0, hz1, hz2⟩ := info_parts info5
  have hm : (i0.bytes * (2 * l.length)) ≤ 281474976710656 := by rw [hz2]; omega
  go_enter Tryz.func49, Tryz.ntmps49
  go_wp2_with (at_make; refine wpList_make_own _ rfl _ _ 23 rfl w.heap.size 5 i0 (.int .u8 0) 1 Tryz.underlying23 hi hz0 hz1 _ _ _ (2 * l.length) rfl rfl (by omega) hm (by unfold maxLen; omega) (Nat.le_refl _) ?_; intro w0 hown0 hgrow0)
  go_loopw [3, 12] (fun v i wr => ∃ k : Nat, k ≤ l.length ∧ i = .int .i64 k ∧ v = .slice (some ⟨w.heap.size, 0, none⟩) (2 * k) (2 * l.length) ∧ wr.ownsRow w.heap.size 5 1 (.slice (some ⟨w.heap.size, 0, none⟩) (2 * k) (2 * l.length)) (2 * k) (bcs (hexL (l.take k))) ∧ Below w.heap.size w wr)
    (fun _ i _ => l.length - (intOf i).toNat)
  case atStart => exact ⟨0, Nat.zero_le _, rfl, rfl, hown0, (Below.refl _ _).grown hgrow0 (Nat.le_refl _) (by simp)⟩
  case round =>
    obtain ⟨k, hk, rfl, rfl, hown, hnx⟩ := hrel
    have hsz := hnx.size
    clear hown0 hgrow0
    by_cases hlt : k < l.length
    · obtain ⟨b, off, rfl, hbl, hcs⟩ := hb.at hlt
      have hcell : wr.cell? ⟨b, off + k, none⟩ = some (.int .u8 (l[k].toNat : Int)) := (hnx.cell (p := ⟨b, off + k, none⟩) hbl).trans (hcs k hlt)
      have hc255 : (l[k].toNat : Int) ≤ 255 := by have := l[k].toNat_lt; omega
      go_wp2_with (first
        | (go_at_call 110; refine (hexDigit_any _ _ (by omega) (by omega)).mono ?_; rintro e w' ⟨rfl, rfl⟩)
        | (at_builtin; refine wpList_append_fits _ rfl (.tmp 16) (.tmp 23) 23 rfl w.heap.size 5 i0 1 Tryz.underlying23 hi hz1 w.heap.size (2 * k) (2 * l.length) _ rfl (hown.alloc _) ⟨wr.heap.size, 0, none⟩ 2 2 [.int .u8 (hd ((l[k].toNat : Int) / 16)), .int .u8 (hd ((l[k].toNat : Int) % 16))] rfl rfl (cell_two_new _ _ _ _) (by intro u hu; simp at hu; rcases hu with rfl | rfl <;> rfl) (by omega) ?_; intro w1 hown1 hgrow1))
      go_roundw
      case rel =>
        refine ⟨k + 1, by omega, by go_num, by rw [Nat.mul_add], ?_, ?_⟩
        · rw [hexL_snoc l k hlt, bcs_append, h2_cells]
          exact hown1
        · exact (hnx.alloc hsz _).grown hgrow1 (by simp; omega) (by intro j hj; simp at hj; omega)
      case measure => simp [intOf]; omega
    · have hkl : k = l.length := by omega
      subst hkl
      rw [List.take_length] at hown
      obtain ⟨a', cap', he, hbs⟩ := Own.bytes (v := .slice (some ⟨w.heap.size, 0, none⟩) (2 * l.length) (2 * l.length)) (l := hexL l) (by unfold Own; rw [hexL_length]; exact hown)
      have hcv := convert_bytes wr a' cap' (hexL l) hbs
      rw [← he] at hcv
      clear he hbs
      go_wp2
      go_ret
      exact ⟨rfl, hnx⟩
end Go.Proofs.YtnmffehmjgknkaaGreatDoor
/-
  A block of words (an array, or the array beneath a slice), told by a list.
-/
namespace Go.Proofs.YtnmffehmjgknkaaGreatDoor
open Go.RowKit

abbrev Wd := BitVec 32
def zeros (n : Nat) : List Wd := List.replicate n 0
/-- The cells of a list of words. -/
def wcs (l : List Wd) : List Value := l.map fun x => Value.int .u32 (W x)
theorem wcs_length (l : List Wd) : (wcs l).length = l.length := by simp [wcs]
theorem wcs_append (l m : List Wd) : wcs (l ++ m) = wcs l ++ wcs m := by simp [wcs]
theorem wcs_get {l : List Wd} {j : Nat} (h : j < l.length) : (wcs l)[j]? = some (.int .u32 (W l[j])) := by simp [wcs, List.getElem?_eq_getElem h]
theorem wcs_one (l : List Wd) : ∀ u ∈ wcs l, u.oneCell' = true := by
  intro u hu
  simp only [wcs, List.mem_map] at hu
  obtain ⟨c, _, rfl⟩ := hu
  rfl
theorem wcs_all (l : List Wd) : (wcs l).toArray.all (·.oneCell') = true := by
  rw [Array.all_eq_true']
  intro u hu
  exact wcs_one l u (by simpa using hu)

theorem getD_at {l : List Wd} {k : Nat} (h : k < l.length) : l.getD k 0 = l[k] := by simp [List.getD, h]
/-- The block g holds the words l, and nothing else. -/
def Wds (w : World) (g : Nat) (t : TypeId) (l : List Wd) : Prop := w.heap[g]? = some (.cells (wcs l).toArray t (0, 0))

theorem Wds.lt {w : World} {g : Nat} {t : TypeId} {l : List Wd} (h : Wds w g t l) : g < w.heap.size := (Array.getElem?_eq_some_iff.1 h).1
theorem Wds.cell {w : World} {g : Nat} {t : TypeId} {l : List Wd} (h : Wds w g t l) {k : Nat} (hk : k < l.length) : w.cell? ⟨g, k, none⟩ = some (.int .u32 (W l[k])) := by
  rw [cell_of_row w g k _ t (0, 0) h]
  simpa using wcs_get hk
theorem Wds.frozen {w : World} {g : Nat} {t : TypeId} {l : List Wd} (h : Wds w g t l) (k : Nat) : w.frozen? ⟨g, k, none⟩ = false := by
  unfold Wds at h
  simp [World.frozen?, h]
theorem Wds.set {w : World} {g : Nat} {t : TypeId} {l : List Wd} (h : Wds w g t l) (k : Nat) (x : Wd) : Wds (w.setCell ⟨g, k, none⟩ (.int .u32 (W x))) g t (l.set k x) := by
  unfold Wds
  rw [setCell_eq_setRow w g k _ t (0, 0) _ h, setRow_heap w g _ _ t (0, 0) h]
  congr 2
  apply Array.ext'
  simp [wcs, List.map_set]
theorem Wds.other {w w' : World} {g : Nat} {t : TypeId} {l : List Wd} (h : Wds w g t l) (e : w'.heap[g]? = w.heap[g]?) : Wds w' g t l := e.trans h
theorem Wds.setCell {w : World} {g : Nat} {t : TypeId} {l : List Wd} (h : Wds w g t l) {a : Addr} (ha : g ≠ a.block) (u : Value) : Wds (w.setCell a u) g t l := h.other (Below.heap_setCell _ _ _ _ ha)
theorem Wds.alloc {w : World} {g : Nat} {t : TypeId} {l : List Wd} (h : Wds w g t l) (o : Obj) : Wds (w.alloc o) g t l := h.other (Below.heap_alloc _ _ _ h.lt)
theorem Wds.drew {w : World} {g : Nat} {t : TypeId} {l : List Wd} (h : Wds w g t l) : Wds w.drew g t l := h
theorem Wds.drewN {w : World} {g : Nat} {t : TypeId} {l : List Wd} (h : Wds w g t l) (n : Nat) : Wds (w.drewN n) g t l := h
theorem Wds.grown {w w' : World} {g : Nat} {t : TypeId} {l : List Wd} {row : Option Nat} (h : Wds w g t l) (hg : w.grownBy w' row) (hne : some g ≠ row) : Wds w' g t l := h.other (hg.block g h.lt hne)
theorem Wds.below {w w' : World} {g : Nat} {t : TypeId} {l : List Wd} {B : Nat} (h : Wds w g t l) (hb : Below B w w') (hB : g < B) : Wds w' g t l := h.other (hb.block g hB)
theorem Wds.new (w : World) (t : TypeId) (l : List Wd) : Wds (w.alloc (.cells (wcs l).toArray t)) w.heap.size t l := heap_alloc_last w _

theorem Wds.new' {w : World} {t : TypeId} {l : List Wd} {g : Nat} {c : Array Value} (hg : g = w.heap.size) (hc : c = (wcs l).toArray) : Wds (w.alloc (.cells c t)) g t l := by
  subst hg hc
  exact heap_alloc_last w _

theorem below_drewN {B : Nat} {a w : World} (h : Below B a w) (n : Nat) : Below B a (w.drewN n) := ⟨h.os, h.tape, h.output, h.size, h.block⟩
theorem grown_drewN {w w' : World} {row : Option Nat} (h : w.grownBy w' row) (n : Nat) : w.grownBy (w'.drewN n) row := ⟨h.os, h.tape, h.output, h.size, h.block⟩
theorem grown_drew {w w' : World} {row : Option Nat} (h : w.grownBy w' row) : w.grownBy w'.drew row := ⟨h.os, h.tape, h.output, h.size, h.block⟩
theorem grown_trans {a b c : World} {row : Option Nat} (h : a.grownBy b row) (k : b.grownBy c row) : a.grownBy c row :=
  ⟨k.os.trans h.os, k.tape.trans h.tape, k.output.trans h.output, Nat.le_trans h.size k.size, fun i hi hne => (k.block i (Nat.lt_of_lt_of_le hi h.size) hne).trans (h.block i hi hne)⟩
theorem grown_refl (w : World) (row : Option Nat) : w.grownBy w row := ⟨rfl, rfl, rfl, Nat.le_refl _, fun _ _ _ => rfl⟩
theorem grown_setCell {a w : World} {g : Nat} (h : a.grownBy w (some g)) {p : Addr} (hp : p.block = g) (u : Value) : a.grownBy (w.setCell p u) (some g) :=
  grown_trans h ⟨rfl, rfl, rfl, by simp [World.setCell], fun k _ hne => Below.heap_setCell _ _ _ _ (by intro e; exact hne (by rw [e, hp]))⟩
theorem grown_below {w w' : World} {g B : Nat} (h : w.grownBy w' (some g)) (hB : B ≤ w.heap.size) (hg : B ≤ g) : Below B w w' :=
  (Below.refl B w).grown h hB (by intro k e; cases e; exact hg)
theorem below_grown {w w' : World} (h : Below w.heap.size w w') (row : Option Nat) : w.grownBy w' row := ⟨h.os, h.tape, h.output, h.size, fun k hk _ => h.block k hk⟩

theorem info159 : (Tryz.prog.info? 159).map (fun i => (i.zero, i.size, i.bytes)) = some (some (.int .u32 0), 1, 4) := by kernel_rfl
theorem size176 : (Tryz.prog.info? 176).map (·.size) = some 64 := by kernel_rfl
theorem size175 : (Tryz.prog.info? 175).map (·.size) = some 8 := by kernel_rfl
theorem size134 : (Tryz.prog.info? 134).map (·.size) = some 64 := by kernel_rfl
end Go.Proofs.YtnmffehmjgknkaaGreatDoor
/-
  The words of MD5 and of SHA-256, and the states they begin with, by contracts.
-/
namespace Go.Proofs.YtnmffehmjgknkaaGreatDoor
open Go.RowKit

def md5K : List Wd := [0xd76aa478, 0xe8c7b756, 0x242070db, 0xc1bdceee, 0xf57c0faf, 0x4787c62a, 0xa8304613, 0xfd469501, 0x698098d8, 0x8b44f7af, 0xffff5bb1, 0x895cd7be, 0x6b901122, 0xfd987193, 0xa679438e, 0x49b40821, 0xf61e2562, 0xc040b340, 0x265e5a51, 0xe9b6c7aa, 0xd62f105d, 0x02441453, 0xd8a1e681, 0xe7d3fbc8, 0x21e1cde6, 0xc33707d6, 0xf4d50d87, 0x455a14ed, 0xa9e3e905, 0xfcefa3f8, 0x676f02d9, 0x8d2a4c8a, 0xfffa3942, 0x8771f681, 0x6d9d6122, 0xfde5380c, 0xa4beea44, 0x4bdecfa9, 0xf6bb4b60, 0xbebfbc70, 0x289b7ec6, 0xeaa127fa, 0xd4ef3085, 0x04881d05, 0xd9d4d039, 0xe6db99e5, 0x1fa27cf8, 0xc4ac5665, 0xf4292244, 0x432aff97, 0xab9423a7, 0xfc93a039, 0x655b59c3, 0x8f0ccc92, 0xffeff47d, 0x85845dd1, 0x6fa87e4f, 0xfe2ce6e0, 0xa3014314, 0x4e0811a1, 0xf7537e82, 0xbd3af235, 0x2ad7d2bb, 0xeb86d391]
def shaK : List Wd := [0x428a2f98, 0x71374491, 0xb5c0fbcf, 0xe9b5dba5, 0x3956c25b, 0x59f111f1, 0x923f82a4, 0xab1c5ed5, 0xd807aa98, 0x12835b01, 0x243185be, 0x550c7dc3, 0x72be5d74, 0x80deb1fe, 0x9bdc06a7, 0xc19bf174, 0xe49b69c1, 0xefbe4786, 0x0fc19dc6, 0x240ca1cc, 0x2de92c6f, 0x4a7484aa, 0x5cb0a9dc, 0x76f988da, 0x983e5152, 0xa831c66d, 0xb00327c8, 0xbf597fc7, 0xc6e00bf3, 0xd5a79147, 0x06ca6351, 0x14292967, 0x27b70a85, 0x2e1b2138, 0x4d2c6dfc, 0x53380d13, 0x650a7354, 0x766a0abb, 0x81c2c92e, 0x92722c85, 0xa2bfe8a1, 0xa81a664b, 0xc24b8b70, 0xc76c51a3, 0xd192e819, 0xd6990624, 0xf40e3585, 0x106aa070, 0x19a4c116, 0x1e376c08, 0x2748774c, 0x34b0bcb5, 0x391c0cb3, 0x4ed8aa4a, 0x5b9cca4f, 0x682e6ff3, 0x748f82ee, 0x78a5636f, 0x84c87814, 0x8cc70208, 0x90befffa, 0xa4506ceb, 0xbef9a3f7, 0xc67178f2]
def md5I : List Wd := [0x67452301, 0xefcdab89, 0x98badcfe, 0x10325476]
def shaI : List Wd := [0x6a09e667, 0xbb67ae85, 0x3c6ef372, 0xa54ff53a, 0x510e527f, 0x9b05688c, 0x1f83d9ab, 0x5be0cd19]

theorem wpList_build_is {P : Program} {ops : Array Oper} {rest : List Oper} {o : Oper} {a : Act} {w : World} {Q : Exit → Act → World → Prop} (hg : o.guard = none) (t : TypeId) (parts : Array (Nat × Operand)) (ho : o.op = .build t parts)
    (cells : Array Value) (hf : P.built t (parts.map fun (i, x) => (i, a.eval x)).toList = some cells)
    (h : wpList P ops Q rest (a.put o.dst (.agg cells)) w) : wpList P ops Q (o :: rest) a w := by
  refine wpList_build hg t parts ho (by rw [hf]; rfl) ?_
  rw [hf]
  exact h

theorem shaWords_any (w : World) : Calls Tryz.prog 162 #[] w fun e w' => e = .returned (.agg (wcs shaK).toArray) ∧ Below w.heap.size w w' := by
  have hz : (zeroValue 176).run Tryz.prog w = .ok (.agg (wcs (zeros 64)).toArray) w := (zero_of_info (P := Tryz.prog) (t := 176) (v := .agg (wcs (zeros 64)).toArray) (n := 64) (by kernel_rfl)).1 w
  have hnew : (w.alloc (.cells (wcs (zeros 64)).toArray 176)).heap[w.heap.size]? = some (.cells (wcs (zeros 64)).toArray 176 (0, 0)) := heap_alloc_last w _
  have HN : Hid _ := hnew
  clear hnew
  go_enter Tryz.func162, Tryz.ntmps162
  go_wp2_with (first
    | refine wpList_build_is rfl 176 _ rfl (wcs shaK).toArray (by kernel_rfl) ?_
    | refine wpList_store_row rfl 176 _ _ rfl _ _ rfl rfl 176 _ HN.out size176 rfl (wcs_all _) ?_)
  refine bodyPost_ret (results_cell_row rfl _ _ w.heap.size 176 _ (0, 0) _ rfl (setRow_heap _ _ _ _ _ _ HN.out) Tryz.underlying176 rfl size176) rfl ?_
  exact ⟨rfl, ((Below.refl _ w).alloc (Nat.le_refl _) _).trans ⟨rfl, rfl, rfl, by simp, fun j hj => setRow_other _ _ _ _ (by omega)⟩⟩

theorem newSHA_any (w : World) : Calls Tryz.prog 111 #[] w fun e w' => e = .returned (.pointer (some ⟨w.heap.size, 0, none⟩)) ∧ w' = w.alloc (.cells (wcs shaI).toArray 175) := by
  go_enter Tryz.func111, Tryz.ntmps111
  go_wp2_with (refine wpList_build_is rfl 175 _ rfl (wcs shaI).toArray (by kernel_rfl) ?_)
  go_ret
  exact ⟨rfl, rfl⟩
end Go.Proofs.YtnmffehmjgknkaaGreatDoor
/-
  hash.crcWords and hash.CRC by their contracts.
-/
namespace Go.Proofs.YtnmffehmjgknkaaGreatDoor
open Go.RowKit

/-- Castagnoli's polynomial. -/
def poly : Wd := 0x82F63B78
/-- One step of CRC-32C. -/
def crcBit (c : BitVec 32) : BitVec 32 := c >>> 1 ^^^ (c &&& 1) * poly
def crcBits : Nat → BitVec 32 → BitVec 32
  | 0, c => c
  | n + 1, c => crcBit (crcBits n c)

theorem W_shr1 (a : BitVec 32) : W a / (2 : Int) = W (a >>> 1) := W_shr a 1
theorem W_and1 (a : BitVec 32) : bits .and .u32 (W a) 1 = W (a &&& 1) := W_and a 1
theorem W_mulm (a b : BitVec 32) : W a * W b % 4294967296 = W (a * b) := by
  unfold W
  rw [BitVec.toNat_mul]
  omega
theorem W_poly : (2197175160 : Int) = W poly := by decide +kernel
theorem W_mulp (a : BitVec 32) : W a * 2197175160 % 4294967296 = W (a * poly) := by rw [W_poly]; exact W_mulm a poly
theorem W_and1_le (a : BitVec 32) : W (a &&& 1) ≤ 1 := by
  unfold W
  rw [BitVec.toNat_and]
  have : a.toNat &&& (1 : BitVec 32).toNat ≤ 1 := Nat.and_le_right
  omega
theorem W_mul1 (a : BitVec 32) : W (a &&& 1) * 2197175160 = W ((a &&& 1) * poly) := by
  rw [← W_mulp]
  have := W_and1_le a
  have := W_lo (a &&& 1)
  omega
theorem W_ofNat {k : Nat} (h : k < 4294967296) : W (BitVec.ofNat 32 k) = (k : Int) := by
  unfold W
  rw [BitVec.toNat_ofNat, Nat.mod_eq_of_lt (by omega)]

/-- The words made so far. -/
def cw (k : Nat) : List Wd := (List.range k).map (fun j => crcBits 4 (BitVec.ofNat 32 j)) ++ zeros (16 - k)
theorem cw_length {k : Nat} (h : k ≤ 16) : (cw k).length = 16 := by simp [cw, zeros]; omega
theorem cw_set {k : Nat} (h : k < 16) : (cw k).set k (crcBits 4 (BitVec.ofNat 32 k)) = cw (k + 1) := by
  unfold cw zeros
  rw [List.range_succ, List.map_append, List.set_append_right _ _ (by simp)]
  simp only [List.length_map, List.length_range, Nat.sub_self]
  rw [show 16 - k = (16 - (k + 1)) + 1 from by omega, List.replicate_succ]
  simp

/-- Four steps by the table. -/
def nib (x : Wd) : Wd := x >>> 4 ^^^ crcBits 4 (x &&& 15)
def crcByte (c : Wd) (b : UInt8) : Wd := nib (nib (c ^^^ bw b))
def crcL (l : List UInt8) : Wd := ~~~ (l.foldl crcByte 0xFFFFFFFF)

theorem and15_lt (x : Wd) : (x &&& 15).toNat < 16 := by
  rw [BitVec.toNat_and]
  have : x.toNat &&& (15 : BitVec 32).toNat ≤ (15 : BitVec 32).toNat := Nat.and_le_right
  have e : (15 : BitVec 32).toNat = 15 := rfl
  omega
theorem W_and15 (x : Wd) : bits .and .u32 (W x) 15 = (((x &&& 15).toNat : Nat) : Int) := W_and x 15
theorem cw_get (i : Nat) (h : i < (cw 16).length) : (cw 16)[i] = crcBits 4 (BitVec.ofNat 32 i) := by
  have h' : i < 16 := by rw [cw_length (Nat.le_refl _)] at h; exact h
  simp [cw, zeros]
theorem cw_at (x : Wd) (h : (x &&& 15).toNat < (cw 16).length) : (cw 16)[(x &&& 15).toNat] = crcBits 4 (x &&& 15) := by
  rw [cw_get]
  congr 1
  exact BitVec.eq_of_toNat_eq (by simp)
theorem W_shr4 (a : Wd) : W a / (16 : Int) = W (a >>> 4) := W_shr a 4
theorem W_xorb (c : Wd) (b : UInt8) : bits .xor .u32 (W c) (b.toNat : Int) = W (c ^^^ bw b) := by rw [← W_bw, W_xor]
theorem W_not (a : Wd) : bits .xor .u32 IntKind.u32.max (W a) = W (~~~ a) := by
  have e : IntKind.u32.max = W (BitVec.allOnes 32) := by decide +kernel
  rw [e, W_xor, BitVec.allOnes_xor]
theorem all1 : (4294967295 : Int) = W 0xFFFFFFFF := by decide +kernel

end Go.Proofs.YtnmffehmjgknkaaGreatDoor
/-
  The rounds of MD5 in plain terms, and (*md5State).mix by its contract.
-/
namespace Go.Proofs.YtnmffehmjgknkaaGreatDoor
open Go.RowKit

/-- Four bytes as a word, the lowest first. -/
def le4 (l : List UInt8) (k : Nat) : Wd := bw (l.getD k 0) ||| bw (l.getD (k + 1) 0) <<< 8 ||| bw (l.getD (k + 2) 0) <<< 16 ||| bw (l.getD (k + 3) 0) <<< 24
/-- The words of a block, made so far. -/
def mt (l : List UInt8) (k : Nat) : List Wd := (List.range k).map (fun j => le4 l (4 * j)) ++ zeros (16 - k)
theorem mt_length (l : List UInt8) {k : Nat} (h : k ≤ 16) : (mt l k).length = 16 := by simp [mt, zeros]; omega
theorem mt_set (l : List UInt8) {k : Nat} (h : k < 16) : (mt l k).set k (le4 l (4 * k)) = mt l (k + 1) := by
  unfold mt zeros
  rw [List.range_succ, List.map_append, List.set_append_right _ _ (by simp)]
  simp only [List.length_map, List.length_range, Nat.sub_self]
  rw [show 16 - k = (16 - (k + 1)) + 1 from by omega, List.replicate_succ]
  simp

theorem Bytes.getD {w : World} {b off : Nat} {l : List UInt8} (hc : ∀ j (h : j < l.length), w.cell? ⟨b, off + j, none⟩ = some (.int .u8 (l[j].toNat : Int))) {k : Nat} (hk : k < l.length) :
    w.cell? ⟨b, off + k, none⟩ = some (.int .u8 ((l.getD k 0).toNat : Int)) := by
  rw [hc k hk]
  simp [List.getD, hk]

theorem W_bshl (c : UInt8) (k : Nat) (h : k ≤ 24) : (c.toNat : Int) * (2 : Int) ^ k = W (bw c <<< k) := by
  rw [← W_shlm, W_bw]
  have h1 := c.toNat_lt
  have h2 : (2 : Nat) ^ k ≤ 2 ^ 24 := Nat.pow_le_pow_right (by decide) h
  have h3 : c.toNat * 2 ^ k ≤ 255 * 2 ^ 24 := Nat.mul_le_mul (by omega) h2
  have h5 : (c.toNat : Int) * (2 : Int) ^ k = ((c.toNat * 2 ^ k : Nat) : Int) := by simp
  rw [h5]
  generalize c.toNat * 2 ^ k = n at *
  omega
theorem W_le4 (b0 b1 b2 b3 : UInt8) : bits .or .u32 (bits .or .u32 (bits .or .u32 (b0.toNat : Int) ((b1.toNat : Int) * 256)) ((b2.toNat : Int) * 65536)) ((b3.toNat : Int) * 16777216)
    = W (bw b0 ||| bw b1 <<< 8 ||| bw b2 <<< 16 ||| bw b3 <<< 24) := by
  rw [← W_bw b0, show (256 : Int) = (2 : Int) ^ 8 by decide, show (65536 : Int) = (2 : Int) ^ 16 by decide, show (16777216 : Int) = (2 : Int) ^ 24 by decide, W_bshl _ 8 (by decide), W_bshl _ 16 (by decide), W_bshl _ 24 (by decide), W_or, W_or, W_or]

/-- What a round of MD5 makes of the state: its number, the word of the text. -/
def mF (i : Nat) (b c d : Wd) : Wd := if i < 16 then b &&& c ||| d &&& ~~~ b else if i < 32 then b &&& d ||| c &&& ~~~ d else if i < 48 then b ^^^ c ^^^ d else c ^^^ (b ||| ~~~ d)
def mAt (i : Nat) : Nat := if i < 16 then i else if i < 32 then (5 * i + 1) % 16 else if i < 48 then (3 * i + 5) % 16 else 7 * i % 16
def mTurn (i : Nat) : Nat := [7, 12, 17, 22, 5, 9, 14, 20, 4, 11, 16, 23, 6, 10, 15, 21].getD (i / 16 * 4 + i % 4) 0
theorem turn_at (q k : Nat) (hq : q < 4) (h : k / 16 = q) : ([[7, 12, 17, 22], [5, 9, 14, 20], [4, 11, 16, 23], [6, 10, 15, 21]].getD q [0, 0, 0, 0] : List Int).getD (k % 4) 0 = (mTurn k : Int) := by
  unfold mTurn
  rw [h]
  have hr : k % 4 < 4 := Nat.mod_lt _ (by decide)
  generalize k % 4 = r at *
  match q, hq, r, hr with
  | 0, _, 0, _ => rfl
  | 0, _, 1, _ => rfl
  | 0, _, 2, _ => rfl
  | 0, _, 3, _ => rfl
  | 1, _, 0, _ => rfl
  | 1, _, 1, _ => rfl
  | 1, _, 2, _ => rfl
  | 1, _, 3, _ => rfl
  | 2, _, 0, _ => rfl
  | 2, _, 1, _ => rfl
  | 2, _, 2, _ => rfl
  | 2, _, 3, _ => rfl
  | 3, _, 0, _ => rfl
  | 3, _, 1, _ => rfl
  | 3, _, 2, _ => rfl
  | 3, _, 3, _ => rfl
theorem turn_lt (k : Nat) : mTurn k < 32 := by
  unfold mTurn
  generalize k / 16 * 4 + k % 4 = j
  rcases Nat.lt_or_ge j 16 with h | h
  · revert j
    decide +kernel
  · rw [show List.getD _ j 0 = 0 from by simp [List.getD, List.getElem?_eq_none (show ([7, 12, 17, 22, 5, 9, 14, 20, 4, 11, 16, 23, 6, 10, 15, 21] : List Nat).length ≤ j from h)]]
    decide
structure S4 where
  a : Wd
  b : Wd
  c : Wd
  d : Wd
def mRound (T : Nat → Wd) (i : Nat) (s : S4) : S4 := ⟨s.d, s.b + rotl (s.a + mF i s.b s.c s.d + md5K.getD i 0 + T (mAt i)) (mTurn i), s.b, s.c⟩
def mRounds (T : Nat → Wd) : Nat → S4 → S4
  | 0, s => s
  | n + 1, s => mRound T n (mRounds T n s)
/-- What a block makes of the state. -/
def mMix (l : List UInt8) (s : S4) : S4 :=
  ⟨s.a + (mRounds (fun j => le4 l (4 * j)) 64 s).a, s.b + (mRounds (fun j => le4 l (4 * j)) 64 s).b, s.c + (mRounds (fun j => le4 l (4 * j)) 64 s).c, s.d + (mRounds (fun j => le4 l (4 * j)) 64 s).d⟩
theorem mAt_lt (i : Nat) (_h : i < 64) : mAt i < 16 := by
  unfold mAt
  split
  · omega
  · split
    · omega
    · split <;> omega

theorem rotl_same (x : Wd) (s : Nat) (w : World) (hs : s < 32) : Calls Tryz.prog 233 #[.int .u32 (W x), .int .i64 (s : Int)] w fun e w' => e = .returned (.int .u32 (W (rotl x s))) ∧ w' = w :=
  (rotl_pos x s w hs).mono fun _ _ h => ⟨h.1, h.2.symm⟩

end Go.Proofs.YtnmffehmjgknkaaGreatDoor
/-
  The words of a block of SHA-256: hash.shaText by its contract.
-/
namespace Go.Proofs.YtnmffehmjgknkaaGreatDoor
open Go.RowKit

/-- Four bytes as a word, the highest first. -/
def be4 (l : List UInt8) (k : Nat) : Wd := bw (l.getD k 0) <<< 24 ||| bw (l.getD (k + 1) 0) <<< 16 ||| bw (l.getD (k + 2) 0) <<< 8 ||| bw (l.getD (k + 3) 0)
theorem W_be4 (b0 b1 b2 b3 : UInt8) : bits .or .u32 (bits .or .u32 (bits .or .u32 ((b0.toNat : Int) * 16777216) ((b1.toNat : Int) * 65536)) ((b2.toNat : Int) * 256)) (b3.toNat : Int)
    = W (bw b0 <<< 24 ||| bw b1 <<< 16 ||| bw b2 <<< 8 ||| bw b3) := by
  rw [← W_bw b3, show (256 : Int) = (2 : Int) ^ 8 by decide, show (65536 : Int) = (2 : Int) ^ 16 by decide, show (16777216 : Int) = (2 : Int) ^ 24 by decide, W_bshl _ 8 (by decide), W_bshl _ 16 (by decide), W_bshl _ 24 (by decide), W_or, W_or, W_or]

def sig0 (x : Wd) : Wd := rotl x 25 ^^^ rotl x 14 ^^^ x >>> 3
def sig1 (x : Wd) : Wd := rotl x 15 ^^^ rotl x 13 ^^^ x >>> 10
/-- The next word. -/
def sNext (l : List UInt8) (t : List Wd) (k : Nat) : Wd := if k < 16 then be4 l (4 * k) else t.getD (k - 16) 0 + sig0 (t.getD (k - 15) 0) + t.getD (k - 7) 0 + sig1 (t.getD (k - 2) 0)
/-- The first k words. -/
def stL (l : List UInt8) : Nat → List Wd
  | 0 => []
  | k + 1 => stL l k ++ [sNext l (stL l k) k]
theorem stL_length (l : List UInt8) (k : Nat) : (stL l k).length = k := by
  induction k with
  | zero => rfl
  | succ k ih => simp [stL, ih]
def stx (l : List UInt8) (k : Nat) : List Wd := stL l k ++ zeros (64 - k)
theorem stx_length (l : List UInt8) {k : Nat} (h : k ≤ 64) : (stx l k).length = 64 := by simp [stx, zeros, stL_length]; omega
theorem stx_set (l : List UInt8) {k : Nat} (h : k < 64) : (stx l k).set k (sNext l (stL l k) k) = stx l (k + 1) := by
  unfold stx zeros
  rw [stL, List.set_append_right _ _ (by rw [stL_length]; exact Nat.le_refl _), stL_length, Nat.sub_self, show 64 - k = (64 - (k + 1)) + 1 from by omega, List.replicate_succ]
  simp
theorem stx_get (l : List UInt8) {k j : Nat} (hj : j < k) (_hk : k ≤ 64) (h : j < (stx l k).length) : (stx l k)[j] = (stL l k).getD j 0 := by
  have hj' : j < (stL l k).length := by rw [stL_length]; exact hj
  have e : (stx l k)[j]? = (stL l k)[j]? := by rw [stx, List.getElem?_append_left hj']
  rw [List.getElem?_eq_getElem h, List.getElem?_eq_getElem hj'] at e
  rw [Option.some.inj e, getD_at hj']

theorem rotl_neg' (x : Wd) (k : Int) (s : Nat) (y : Wd) (w : World) (hk : k = (s : Int) - 32) (hs : s < 32) (hy : rotl x s = y) :
    Calls Tryz.prog 233 #[.int .u32 (W x), .int .i64 k] w fun e w' => e = .returned (.int .u32 (W y)) ∧ w = w' := by
  subst hy
  exact rotl_neg x k s w hk hs
theorem W_shr3 (a : Wd) : W a / (8 : Int) = W (a >>> 3) := W_shr a 3
theorem W_shr10 (a : Wd) : W a / (1024 : Int) = W (a >>> 10) := W_shr a 10

set_option maxHeartbeats 1000000 in
set_option maxRecDepth 20000 in
theorem shaText_any (b off c : Nat) (l : List UInt8) (w : World) (hl : l.length = 64) (hc : 64 ≤ c) (hbl : b < w.heap.size)
    (hcs : ∀ j (h : j < l.length), w.cell? ⟨b, off + j, none⟩ = some (.int .u8 (l[j].toNat : Int))) :
    Calls Tryz.prog 201 #[.slice (some ⟨b, off, none⟩) 64 c] w fun e w' => e = .returned (.agg (wcs (stL l 64)).toArray) ∧ Below w.heap.size w w' := by
  have HL : Hid (l.length = 64) := hl
  have HCS : Hid (∀ j (h : j < l.length), w.cell? ⟨b, off + j, none⟩ = some (.int .u8 (l[j].toNat : Int))) := hcs
  clear hl hcs
  have hz := fun w => (zero_of_info (P := Tryz.prog) (t := 176) (v := .agg (wcs (zeros 64)).toArray) (n := 64) (by kernel_rfl)).1 w
  go_enter Tryz.func201, Tryz.ntmps201
  go_wp2
  clear hz
  go_loopw [8] (fun i wr => ∃ k : Nat, k ≤ 64 ∧ i = .int .i64 k ∧ Wds wr (w.heap.size + 1) 176 (stx l k) ∧ Wds wr w.heap.size 176 (zeros 64) ∧ Below w.heap.size w wr) (fun i _ => 64 - (intOf i).toNat)
  case atStart => exact ⟨0, by omega, rfl, Wds.new' (by simp) (by rfl), (Wds.new' rfl (by rfl)).alloc _, ((Below.refl _ _).alloc (Nat.le_refl _) _).alloc (by simp) _⟩
  case round =>
    obtain ⟨k, hk, rfl, hws, hzs, hnx⟩ := hrel
    have HW : Hid (Wds wr (w.heap.size + 1) 176 (stx l k)) := hws
    have HZ : Hid (Wds wr w.heap.size 176 (zeros 64)) := hzs
    clear hws hzs
    have hsz := HW.out.lt
    by_cases hlt : k < 64
    · have hlt' : (k : Int) < 64 := by omega
      have hold := HW.out.cell (k := k) (by rw [stx_length l hk]; exact hlt)
      have hfr := HW.out.frozen k
      by_cases h16 : k < 16
      · have q0 : wr.cell? ⟨b, off + 4 * k, none⟩ = some (.int .u8 ((l.getD (4 * k) 0).toNat : Int)) := (hnx.cell (p := ⟨b, off + 4 * k, none⟩) hbl).trans (Bytes.getD HCS.out (k := 4 * k) (by rw [HL.out]; omega))
        have q1 : wr.cell? ⟨b, off + 4 * k + 1, none⟩ = some (.int .u8 ((l.getD (4 * k + 1) 0).toNat : Int)) := (hnx.cell (p := ⟨b, off + 4 * k + 1, none⟩) hbl).trans (Bytes.getD HCS.out (k := 4 * k + 1) (by rw [HL.out]; omega))
        have q2 : wr.cell? ⟨b, off + 4 * k + 2, none⟩ = some (.int .u8 ((l.getD (4 * k + 2) 0).toNat : Int)) := (hnx.cell (p := ⟨b, off + 4 * k + 2, none⟩) hbl).trans (Bytes.getD HCS.out (k := 4 * k + 2) (by rw [HL.out]; omega))
        have q3 : wr.cell? ⟨b, off + 4 * k + 3, none⟩ = some (.int .u8 ((l.getD (4 * k + 3) 0).toNat : Int)) := (hnx.cell (p := ⟨b, off + 4 * k + 3, none⟩) hbl).trans (Bytes.getD HCS.out (k := 4 * k + 3) (by rw [HL.out]; omega))
        generalize hB0 : l.getD (4 * k) 0 = b0 at *
        generalize hB1 : l.getD (4 * k + 1) 0 = b1 at *
        generalize hB2 : l.getD (4 * k + 2) 0 = b2 at *
        generalize hB3 : l.getD (4 * k + 3) 0 = b3 at *
        have HE : Hid (sNext l (stL l k) k = bw b0 <<< 24 ||| bw b1 <<< 16 ||| bw b2 <<< 8 ||| bw b3) := by
          show _ = _
          rw [sNext, if_pos h16, be4, hB0, hB1, hB2, hB3]
        clear hB0 hB1 hB2 hB3
        have e0 := b0.toNat_lt
        have e1 := b1.toNat_lt
        have e2 := b2.toNat_lt
        have e3 := b3.toNat_lt
        have hne : b ≠ w.heap.size + 1 := by omega
        have hq' : (k : Int) / 16 = 0 := by omega
        have hn0 : (0 : Int) < ((64 - 4 * k : Nat) : Int) := by omega
        have hn1 : (1 : Int) < ((64 - 4 * k : Nat) : Int) := by omega
        have hn2 : (2 : Int) < ((64 - 4 * k : Nat) : Int) := by omega
        have hn3 : (3 : Int) < ((64 - 4 * k : Nat) : Int) := by omega
        go_wp2_with fail
        go_region
        go_wp2
        go_roundw
        case rel =>
          refine ⟨k + 1, by omega, by go_num, ?_, ?_, ?_⟩
          · rw [W_be4, ← HE.out, ← stx_set l hlt]
            exact HW.out.set k _
          · exact HZ.out.setCell (by simp) _
          · exact (hnx.setCell (by simp) _).drew
        case measure => simp [intOf]; omega
      · obtain ⟨k16, hk16⟩ : ∃ m, k = m + 16 := ⟨k - 16, by omega⟩
        have c16 := HW.out.cell (k := k16) (by rw [stx_length l hk]; omega)
        have c15 := HW.out.cell (k := k16 + 1) (by rw [stx_length l hk]; omega)
        have c7 := HW.out.cell (k := k16 + 9) (by rw [stx_length l hk]; omega)
        have c2 := HW.out.cell (k := k16 + 14) (by rw [stx_length l hk]; omega)
        rw [stx_get l (by omega) hk] at c16 c15 c7 c2
        have HE : Hid (sNext l (stL l k) k = (stL l k).getD k16 0 + sig0 ((stL l k).getD (k16 + 1) 0) + (stL l k).getD (k16 + 9) 0 + sig1 ((stL l k).getD (k16 + 14) 0)) := by
          show _ = _
          rw [sNext, if_neg h16, show k - 16 = k16 from by omega, show k - 15 = k16 + 1 from by omega, show k - 7 = k16 + 9 from by omega, show k - 2 = k16 + 14 from by omega]
        generalize hT : stL l k = T at HE c16 c15 c7 c2
        have HT : Hid (stL l k = T) := hT
        clear hT
        generalize T.getD k16 0 = t16 at *
        generalize T.getD (k16 + 1) 0 = t15 at *
        generalize T.getD (k16 + 9) 0 = t7 at *
        generalize T.getD (k16 + 14) 0 = t2 at *
        have i16 : (k : Int) - 16 = ((k16 : Nat) : Int) := by omega
        have i15 : (k : Int) - 15 = ((k16 + 1 : Nat) : Int) := by omega
        have i7 : (k : Int) - 7 = ((k16 + 9 : Nat) : Int) := by omega
        have i2 : (k : Int) - 2 = ((k16 + 14 : Nat) : Int) := by omega
        generalize hj15 : k16 + 1 = k15 at *
        generalize hj7 : k16 + 9 = k7 at *
        generalize hj2 : k16 + 14 = k2 at *
        have l16 : (k16 : Int) < 64 := by omega
        have l15 : (k15 : Int) < 64 := by omega
        have l7 : (k7 : Int) < 64 := by omega
        have l2 : (k2 : Int) < 64 := by omega
        have hq0 : ((k : Int) / 16 == 0) = false := by simp; omega
        have HK : Hid (k = k16 + 16) := hk16
        clear hj15 hj7 hj2 hk16 h16
        generalize hv1 : rotl t15 25 = v1
        generalize hv2 : rotl t15 14 = v2
        have x1 := W_xor v1 v2
        generalize hv3 : v1 ^^^ v2 = v3 at x1
        have x2 := W_shr3 t15
        generalize hu3 : t15 >>> 3 = u3s at x2
        have x3 := W_xor v3 u3s
        generalize hv4 : v3 ^^^ u3s = v4 at x3
        generalize hv5 : rotl t2 15 = v5
        generalize hv6 : rotl t2 13 = v6
        have y1 := W_xor v5 v6
        generalize hv7 : v5 ^^^ v6 = v7 at y1
        have y2 := W_shr10 t2
        generalize hu10 : t2 >>> 10 = u10s at y2
        have y3 := W_xor v7 u10s
        generalize hv8 : v7 ^^^ u10s = v8 at y3
        have a1 := W_addm t16 v4
        generalize hx1 : t16 + v4 = x16 at a1
        have a2 := W_addm x16 t7
        generalize hx2 : x16 + t7 = x7 at a2
        have a3 := W_addm x7 v8
        generalize hx3 : x7 + v8 = xx at a3
        have HX : Hid (xx = sNext l (stL l k) k) := by
          show _ = _
          rw [HT.out, HE.out, ← hx3, ← hx2, ← hx1, ← hv8, ← hv7, ← hv5, ← hv6, ← hv4, ← hv3, ← hv1, ← hv2, ← hu3, ← hu10]
          rfl
        clear hv3 hv4 hv7 hv8 hx1 hx2 hx3 hu3 hu10
        have H1 : Hid (rotl t15 25 = v1) := hv1
        have H2 : Hid (rotl t15 14 = v2) := hv2
        have H5 : Hid (rotl t2 15 = v5) := hv5
        have H6 : Hid (rotl t2 13 = v6) := hv6
        clear hv1 hv2 hv5 hv6
        go_wp2_with fail
        go_quiet (fail)
        go_wp2_with fail
        refine (rotl_neg' t15 (-7) 25 v1 _ (by decide) (by decide) H1.out).mono ?_
        rintro e w' ⟨rfl, rfl⟩
        go_wp2_with fail
        refine (rotl_neg' t15 (-18) 14 v2 _ (by decide) (by decide) H2.out).mono ?_
        rintro e w' ⟨rfl, rfl⟩
        go_wp2_with fail
        refine (rotl_neg' t2 (-17) 15 v5 _ (by decide) (by decide) H5.out).mono ?_
        rintro e w' ⟨rfl, rfl⟩
        go_wp2_with fail
        refine (rotl_neg' t2 (-19) 13 v6 _ (by decide) (by decide) H6.out).mono ?_
        rintro e w' ⟨rfl, rfl⟩
        go_wp2_with fail
        go_region
        go_wp2
        go_roundw
        case rel =>
          refine ⟨k + 1, by omega, by go_num, ?_, ?_, ?_⟩
          · rw [HX.out, ← stx_set l hlt]
            exact HW.out.set k _
          · exact HZ.out.setCell (by simp) _
          · exact Below.setCell (p := ⟨w.heap.size + 1, k, none⟩) (below_drewN hnx _) (Nat.le_succ _) _
        case measure => simp [intOf]; omega
    · obtain rfl : k = 64 := by omega
      have hz := HZ.out
      have hc2 := HW.out
      have e64 : stx l 64 = stL l 64 := by simp [stx, zeros]
      rw [e64] at hc2
      unfold Wds at hz hc2
      have HZ2 : Hid _ := hz
      have HC2 : Hid _ := hc2
      clear hz hc2
      have hs64 : (Tryz.prog.info? 176).map (·.size) = some (wcs (stL l 64)).toArray.size := by rw [size176, List.size_toArray, wcs_length, stL_length]
      have HS64 : Hid _ := hs64
      clear hs64
      go_wp2_with (first
        | refine wpList_load_row rfl 176 _ rfl _ rfl 176 _ (0, 0) _ HC2.out Tryz.underlying176 rfl HS64.out ?_
        | refine wpList_store_row rfl 176 _ _ rfl _ _ rfl rfl 176 _ HZ2.out HS64.out (by simp [wcs_length, stL_length, zeros]) (wcs_all _) ?_)
      refine bodyPost_ret (results_cell_row rfl _ _ w.heap.size 176 _ (0, 0) _ rfl (setRow_heap _ _ _ _ _ _ HZ2.out) Tryz.underlying176 rfl HS64.out) rfl ?_
      exact ⟨rfl, hnx.trans ⟨rfl, rfl, rfl, by simp, fun j hj => setRow_other _ _ _ _ (by omega)⟩⟩
end Go.Proofs.YtnmffehmjgknkaaGreatDoor
/-
  The rounds of SHA-256 in plain terms, and (*shaState).mix by its contract.
-/
namespace Go.Proofs.YtnmffehmjgknkaaGreatDoor
open Go.RowKit

theorem Wds.cellD {w : World} {g : Nat} {t : TypeId} {l : List Wd} (h : Wds w g t l) {k : Nat} (hk : k < l.length) : w.cell? ⟨g, k, none⟩ = some (.int .u32 (W (l.getD k 0))) := by
  rw [h.cell hk, getD_at hk]

structure S8 where
  a : Wd
  b : Wd
  c : Wd
  d : Wd
  e : Wd
  f : Wd
  g : Wd
  h : Wd
def S8.toL (s : S8) : List Wd := [s.a, s.b, s.c, s.d, s.e, s.f, s.g, s.h]
def sLow (T : List Wd) (i : Nat) (s : S8) : Wd := (rotl s.e 26 ^^^ rotl s.e 21 ^^^ rotl s.e 7) + (s.e &&& s.f ||| s.g &&& ~~~ s.e) + s.h + shaK.getD i 0 + T.getD i 0
def sHigh (s : S8) : Wd := (rotl s.a 30 ^^^ rotl s.a 19 ^^^ rotl s.a 10) + (s.a &&& s.b ||| s.a &&& s.c ||| s.b &&& s.c)
def sRound (T : List Wd) (i : Nat) (s : S8) : S8 := ⟨sLow T i s + sHigh s, s.a, s.b, s.c, s.d + sLow T i s, s.e, s.f, s.g⟩
def sRounds (T : List Wd) : Nat → S8 → S8
  | 0, s => s
  | n + 1, s => sRound T n (sRounds T n s)
def S8.plus (s t : S8) : S8 := ⟨s.a + t.a, s.b + t.b, s.c + t.c, s.d + t.d, s.e + t.e, s.f + t.f, s.g + t.g, s.h + t.h⟩
/-- What a block makes of the state. -/
def sMix (l : List UInt8) (s : S8) : S8 := s.plus (sRounds (stL l 64) 64 s)

/-- The state while the sums are laid in. -/
def upd (s t : S8) (k : Nat) : List Wd := (s.plus t).toL.take k ++ s.toL.drop k
theorem upd_length (s t : S8) {k : Nat} (h : k ≤ 8) : (upd s t k).length = 8 := by simp [upd, S8.toL]; omega
theorem upd_get (s t : S8) {k : Nat} (h : k < 8) : (upd s t k)[k]'(by rw [upd_length s t (by omega)]; exact h) = s.toL.getD k 0 := by
  match k, h with
  | 0, _ => rfl
  | 1, _ => rfl
  | 2, _ => rfl
  | 3, _ => rfl
  | 4, _ => rfl
  | 5, _ => rfl
  | 6, _ => rfl
  | 7, _ => rfl
theorem upd_set (s t : S8) {k : Nat} (h : k < 8) : (upd s t k).set k (s.toL.getD k 0 + t.toL.getD k 0) = upd s t (k + 1) := by
  match k, h with
  | 0, _ => rfl
  | 1, _ => rfl
  | 2, _ => rfl
  | 3, _ => rfl
  | 4, _ => rfl
  | 5, _ => rfl
  | 6, _ => rfl
  | 7, _ => rfl
theorem upd_all (s t : S8) : upd s t 8 = (s.plus t).toL := rfl

theorem turned_is (x : Wd) (a b c : Nat) (y : Wd) (w : World) (ha : 0 < a ∧ a < 32) (hb : 0 < b ∧ b < 32) (hc : 0 < c ∧ c < 32) (hy : rotl x (32 - a) ^^^ rotl x (32 - b) ^^^ rotl x (32 - c) = y) :
    Calls Tryz.prog 202 #[.int .u32 (W x), .int .i64 (a : Int), .int .i64 (b : Int), .int .i64 (c : Int)] w fun e w' => e = .returned (.int .u32 (W y)) ∧ w' = w := by
  subst hy
  exact (turned_any x a b c w ha hb hc).mono fun _ _ h => ⟨h.1, h.2.symm⟩

theorem index64 (t : S8) (k : Nat) (h : k < 8) (w : World) :
    (Instr.index 174 (.agg #[.int .u32 (W t.a), .int .u32 (W t.b), .int .u32 (W t.c), .int .u32 (W t.d), .int .u32 (W t.e), .int .u32 (W t.f), .int .u32 (W t.g), .int .u32 (W t.h)]) (.int .i64 (k : Int))).run Tryz.prog w = .ok (.int .u32 (W (t.toL.getD k 0))) w := by
  obtain ⟨i3, h3, _, hz, _⟩ := info_parts info159
  match k, h with
  | 0, _ => simp [Instr.index, asIntOf, run_underlying Tryz.underlying174, sizeOf, typeInfo, part, h3, hz, S8.toL]
  | 1, _ => simp [Instr.index, asIntOf, run_underlying Tryz.underlying174, sizeOf, typeInfo, part, h3, hz, S8.toL]
  | 2, _ => simp [Instr.index, asIntOf, run_underlying Tryz.underlying174, sizeOf, typeInfo, part, h3, hz, S8.toL]
  | 3, _ => simp [Instr.index, asIntOf, run_underlying Tryz.underlying174, sizeOf, typeInfo, part, h3, hz, S8.toL]
  | 4, _ => simp [Instr.index, asIntOf, run_underlying Tryz.underlying174, sizeOf, typeInfo, part, h3, hz, S8.toL]
  | 5, _ => simp [Instr.index, asIntOf, run_underlying Tryz.underlying174, sizeOf, typeInfo, part, h3, hz, S8.toL]
  | 6, _ => simp [Instr.index, asIntOf, run_underlying Tryz.underlying174, sizeOf, typeInfo, part, h3, hz, S8.toL]
  | 7, _ => simp [Instr.index, asIntOf, run_underlying Tryz.underlying174, sizeOf, typeInfo, part, h3, hz, S8.toL]

set_option maxHeartbeats 2000000 in
set_option maxRecDepth 20000 in
theorem shaMix_any (g kg b off c : Nat) (s : S8) (l : List UInt8) (w : World) (hst : Wds w g 175 s.toL) (hK : Wds w kg 176 shaK) (hl : l.length = 64) (hc : 64 ≤ c) (hbl : b < w.heap.size)
    (hcs : ∀ j (h : j < l.length), w.cell? ⟨b, off + j, none⟩ = some (.int .u8 (l[j].toNat : Int))) :
    Calls Tryz.prog 163 #[.pointer (some ⟨g, 0, none⟩), .pointer (some ⟨kg, 0, none⟩), .slice (some ⟨b, off, none⟩) 64 c] w fun e w' => e = .returned (.tuple #[]) ∧ w.grownBy w' (some g) ∧ Wds w' g 175 (sMix l s).toL := by
  have HS : Hid (Wds w g 175 s.toL) := hst
  have HK : Hid (Wds w kg 176 shaK) := hK
  have HL : Hid (l.length = 64) := hl
  have HCS : Hid (∀ j (h : j < l.length), w.cell? ⟨b, off + j, none⟩ = some (.int .u8 (l[j].toNat : Int))) := hcs
  have hglt := HS.out.lt
  clear hst hK hl hcs
  go_enter Tryz.func163, Tryz.ntmps163
  go_wp2_with fail
  refine (shaText_any b off c l _ HL.out hc hbl HCS.out).mono ?_
  rintro e w1 ⟨rfl, hb1⟩
  have hz := (zero_of_info (P := Tryz.prog) (t := 176) (v := .agg (wcs (zeros 64)).toArray) (n := 64) (by kernel_rfl)).1 w1
  have hnew : (w1.alloc (.cells (wcs (zeros 64)).toArray 176)).heap[w1.heap.size]? = some (.cells (wcs (zeros 64)).toArray 176 (0, 0)) := heap_alloc_last w1 _
  have HN : Hid _ := hnew
  have hs64 : (Tryz.prog.info? 176).map (·.size) = some (wcs (stL l 64)).toArray.size := by rw [size176, List.size_toArray, wcs_length, stL_length]
  have HS64 : Hid _ := hs64
  clear hs64 hnew
  go_wp2_with (refine wpList_store_row rfl 176 _ _ rfl _ _ rfl rfl 176 _ HN.out HS64.out (by simp [wcs_length, stL_length, zeros]) (wcs_all _) ?_)
  clear hz
  have hT : Wds ((w1.alloc (.cells (wcs (zeros 64)).toArray 176)).setRow w1.heap.size (wcs (stL l 64)).toArray) w1.heap.size 176 (stL l 64) := setRow_heap _ _ _ _ _ _ HN.out
  have hnx : Below w.heap.size w ((w1.alloc (.cells (wcs (zeros 64)).toArray 176)).setRow w1.heap.size (wcs (stL l 64)).toArray) :=
    (hb1.alloc hb1.size _).trans ⟨rfl, rfl, rfl, by simp, fun j hj => setRow_other _ _ _ _ (by have := hb1.size; omega)⟩
  have hw1 := hb1.size
  have HT : Hid _ := hT
  clear hT hb1 HN HS64
  generalize (w1.alloc (.cells (wcs (zeros 64)).toArray 176)).setRow w1.heap.size (wcs (stL l 64)).toArray = w2 at *
  generalize w1.heap.size = tg at *
  obtain ⟨s0, s1, s2, s3, s4, s5, s6, s7⟩ := s
  have hS : Wds w2 g 175 [s0, s1, s2, s3, s4, s5, s6, s7] := HS.out.below hnx hglt
  have c0 : w2.cell? ⟨g, 0, none⟩ = some (.int .u32 (W s0)) := hS.cell (k := 0) (by simp)
  have c1 : w2.cell? ⟨g, 1, none⟩ = some (.int .u32 (W s1)) := hS.cell (k := 1) (by simp)
  have c2 : w2.cell? ⟨g, 2, none⟩ = some (.int .u32 (W s2)) := hS.cell (k := 2) (by simp)
  have c3 : w2.cell? ⟨g, 3, none⟩ = some (.int .u32 (W s3)) := hS.cell (k := 3) (by simp)
  have c4 : w2.cell? ⟨g, 4, none⟩ = some (.int .u32 (W s4)) := hS.cell (k := 4) (by simp)
  have c5 : w2.cell? ⟨g, 5, none⟩ = some (.int .u32 (W s5)) := hS.cell (k := 5) (by simp)
  have c6 : w2.cell? ⟨g, 6, none⟩ = some (.int .u32 (W s6)) := hS.cell (k := 6) (by simp)
  have c7 : w2.cell? ⟨g, 7, none⟩ = some (.int .u32 (W s7)) := hS.cell (k := 7) (by simp)
  clear hS
  go_wp2_with fail
  go_quiet (fail)
  go_wp2
  clear c0 c1 c2 c3 c4 c5 c6 c7
  have HT' : Hid (Wds (w2.drewN nq) tg 176 (stL l 64)) := HT.out
  have hnx' := below_drewN hnx nq
  clear HT hnx
  generalize w2.drewN nq = w3 at *
  have HS' : Hid (Wds w g 175 (S8.toL ⟨s0, s1, s2, s3, s4, s5, s6, s7⟩)) := HS.out
  clear HS
  generalize hs8 : (⟨s0, s1, s2, s3, s4, s5, s6, s7⟩ : S8) = s at *
  have e0 : s0 = (sRounds (stL l 64) 0 s).a := by rw [← hs8]; rfl
  have e1 : s1 = (sRounds (stL l 64) 0 s).b := by rw [← hs8]; rfl
  have e2 : s2 = (sRounds (stL l 64) 0 s).c := by rw [← hs8]; rfl
  have e3 : s3 = (sRounds (stL l 64) 0 s).d := by rw [← hs8]; rfl
  have e4 : s4 = (sRounds (stL l 64) 0 s).e := by rw [← hs8]; rfl
  have e5 : s5 = (sRounds (stL l 64) 0 s).f := by rw [← hs8]; rfl
  have e6 : s6 = (sRounds (stL l 64) 0 s).g := by rw [← hs8]; rfl
  have e7 : s7 = (sRounds (stL l 64) 0 s).h := by rw [← hs8]; rfl
  go_loopw [7, 8, 9, 10, 11, 12, 13, 14, 54] (fun va vb vc vd ve vf vg vh i wr => ∃ k : Nat, k ≤ 64 ∧ i = .int .i64 k ∧ va = .int .u32 (W (sRounds (stL l 64) k s).a) ∧ vb = .int .u32 (W (sRounds (stL l 64) k s).b) ∧ vc = .int .u32 (W (sRounds (stL l 64) k s).c) ∧ vd = .int .u32 (W (sRounds (stL l 64) k s).d)
      ∧ ve = .int .u32 (W (sRounds (stL l 64) k s).e) ∧ vf = .int .u32 (W (sRounds (stL l 64) k s).f) ∧ vg = .int .u32 (W (sRounds (stL l 64) k s).g) ∧ vh = .int .u32 (W (sRounds (stL l 64) k s).h) ∧
      Wds wr tg 176 (stL l 64) ∧ Below w.heap.size w wr) (fun _ _ _ _ _ _ _ _ i _ => 64 - (intOf i).toNat)
  case atStart => exact ⟨0, by omega, rfl, by rw [e0], by rw [e1], by rw [e2], by rw [e3], by rw [e4], by rw [e5], by rw [e6], by rw [e7], HT'.out, hnx'⟩
  case round =>
    have HS8 : Hid ((⟨s0, s1, s2, s3, s4, s5, s6, s7⟩ : S8) = s) := hs8
    clear e0 e1 e2 e3 e4 e5 e6 e7 hs8 HT' hnx'
    obtain ⟨k, hk, rfl, rfl, rfl, rfl, rfl, rfl, rfl, rfl, rfl, hws, hnx⟩ := hrel
    have HW : Hid (Wds wr tg 176 (stL l 64)) := hws
    clear hws
    by_cases hlt : k < 64
    · have HR : Hid (sRounds (stL l 64) (k + 1) s = sRound (stL l 64) k (sRounds (stL l 64) k s)) := rfl
      generalize sRounds (stL l 64) k s = t at *
      obtain ⟨ta, tb, tc, td, te, tf, t6, th⟩ := t
      have hKw : Wds wr kg 176 shaK := HK.out.below hnx HK.out.lt
      have hkc := hKw.cellD (k := k) hlt
      have htc := HW.out.cellD (k := k) (by rw [stL_length]; exact hlt)
      have hlt' : (k : Int) < 64 := by omega
      have HLo : Hid (sLow (stL l 64) k ⟨ta, tb, tc, td, te, tf, t6, th⟩ = (rotl te 26 ^^^ rotl te 21 ^^^ rotl te 7) + (te &&& tf ||| t6 &&& ~~~ te) + th + shaK.getD k 0 + (stL l 64).getD k 0) := rfl
      have HHi : Hid (sHigh ⟨ta, tb, tc, td, te, tf, t6, th⟩ = (rotl ta 30 ^^^ rotl ta 19 ^^^ rotl ta 10) + (ta &&& tb ||| ta &&& tc ||| tb &&& tc)) := rfl
      generalize hKV : shaK.getD k 0 = kv at *
      generalize hTV : (stL l 64).getD k 0 = tv at *
      generalize hlo : sLow (stL l 64) k ⟨ta, tb, tc, td, te, tf, t6, th⟩ = lo at *
      generalize hhi : sHigh ⟨ta, tb, tc, td, te, tf, t6, th⟩ = hi at *
      have HR2 : Hid (sRounds (stL l 64) (k + 1) s = ⟨lo + hi, ta, tb, tc, td + lo, te, tf, t6⟩) := by
        show _ = _
        rw [HR.out, sRound, hlo, hhi]
      clear hKw hKV hTV hlo hhi HR
      generalize hy1 : rotl te 26 ^^^ rotl te 21 ^^^ rotl te 7 = y1 at *
      generalize hy2 : rotl ta 30 ^^^ rotl ta 19 ^^^ rotl ta 10 = y2 at *
      have f1 := W_and te tf
      generalize te &&& tf = p1 at *
      have f2 := W_andNot t6 te
      generalize t6 &&& ~~~ te = p2 at *
      have f3 := W_or p1 p2
      generalize p1 ||| p2 = p3 at *
      have f4 := W_addm y1 p3
      generalize y1 + p3 = p4 at *
      have f5 := W_addm p4 th
      generalize p4 + th = p5 at *
      have f6 := W_addm p5 kv
      generalize p5 + kv = p6 at *
      have f7 := W_addm p6 tv
      have hl7 : p6 + tv = lo := HLo.out.symm
      rw [hl7] at f7
      have g1 := W_and ta tb
      generalize ta &&& tb = r1 at *
      have g2 := W_and ta tc
      generalize ta &&& tc = r2 at *
      have g3 := W_or r1 r2
      generalize r1 ||| r2 = r3 at *
      have g4 := W_and tb tc
      generalize tb &&& tc = r4 at *
      have g5 := W_or r3 r4
      generalize r3 ||| r4 = r5 at *
      have g6 := W_addm y2 r5
      have hl6 : y2 + r5 = hi := HHi.out.symm
      rw [hl6] at g6
      have j1 := W_addm lo hi
      generalize hj1 : lo + hi = na at *
      have j2 := W_addm td lo
      generalize hj2 : td + lo = ne at *
      have Q1 : Hid (∀ w, Calls Tryz.prog 202 #[.int .u32 (W te), .int .i64 6, .int .i64 11, .int .i64 25] w fun e w' => e = .returned (.int .u32 (W y1)) ∧ w' = w) := fun w => turned_is te 6 11 25 y1 w (by decide) (by decide) (by decide) hy1
      have Q2 : Hid (∀ w, Calls Tryz.prog 202 #[.int .u32 (W ta), .int .i64 2, .int .i64 13, .int .i64 22] w fun e w' => e = .returned (.int .u32 (W y2)) ∧ w' = w) := fun w => turned_is ta 2 13 22 y2 w (by decide) (by decide) (by decide) hy2
      clear hy1 hy2 hl7 hl6 HLo HHi hj1 hj2
      dsimp only
      go_wp2_with fail
      go_quiet ((go_at_call 202; exact (Q1.out _).mono (fun _ _ h => ⟨h.1, _, h.2⟩)))
      go_wp2_with fail
      refine (Q2.out _).mono ?_
      rintro e w' ⟨rfl, rfl⟩
      go_wp2
      go_roundw
      case rel =>
        refine ⟨k + 1, by omega, by go_num, ?_, ?_, ?_, ?_, ?_, ?_, ?_, ?_, HW.out, below_drewN hnx _⟩
        all_goals rw [HR2.out]
        · rw [j1]
        · rw [j2]
      case measure => simp [intOf]; omega
    · obtain rfl : k = 64 := by omega
      have HM : Hid (sMix l s = s.plus (sRounds (stL l 64) 64 s)) := rfl
      generalize sRounds (stL l 64) 64 s = t at *
      have HI := fun k h w => index64 t k h w
      have hSw : Wds wr g 175 (upd s t 0) := HS'.out.below hnx hglt
      have HSW : Hid _ := hSw
      clear hSw
      have hgw : w.grownBy wr (some g) := below_grown hnx _
      clear hnx HW
      go_wp2_with (refine wpList_build_is rfl 64 _ rfl #[.int .u32 (W t.a), .int .u32 (W t.b), .int .u32 (W t.c), .int .u32 (W t.d), .int .u32 (W t.e), .int .u32 (W t.f), .int .u32 (W t.g), .int .u32 (W t.h)] (by kernel_rfl) ?_)
      go_loopw [115] (fun i wr => ∃ k : Nat, k ≤ 8 ∧ i = .int .i64 k ∧ Wds wr g 175 (upd s t k) ∧ w.grownBy wr (some g)) (fun i _ => 8 - (intOf i).toNat)
      case atStart => exact ⟨0, by omega, rfl, HSW.out, hgw⟩
      case round =>
        clear HSW hgw
        obtain ⟨k, hk, rfl, hws, hgw⟩ := hrel
        have HW : Hid (Wds wr g 175 (upd s t k)) := hws
        clear hws
        by_cases hlt : k < 8
        · have hlt' : (k : Int) < 8 := by omega
          have hcell := HW.out.cell (k := k) (by rw [upd_length s t hk]; exact hlt)
          rw [upd_get s t hlt] at hcell
          have hfr := HW.out.frozen k
          have hidx := HI k hlt
          have HU : Hid ((upd s t k).set k (s.toL.getD k 0 + t.toL.getD k 0) = upd s t (k + 1)) := upd_set s t hlt
          generalize s.toL.getD k 0 = x at *
          generalize t.toL.getD k 0 = y at *
          have ha := W_addm x y
          generalize x + y = z at *
          clear HI
          go_wp2_with fail
          go_region
          go_wp2
          go_roundw
          case rel =>
            refine ⟨k + 1, by omega, by go_num, ?_, ?_⟩
            · rw [← HU.out]
              exact HW.out.set k _
            · exact grown_drew (grown_setCell (p := ⟨g, k, none⟩) hgw rfl _)
          case measure => simp [intOf]; omega
        · obtain rfl : k = 8 := by omega
          clear HI
          go_wp2
          refine bodyPost_end (results_none rfl _ _ _) rfl ?_
          refine ⟨rfl, hgw, ?_⟩
          rw [HS8.out, HM.out, ← upd_all]
          exact HW.out
end Go.Proofs.YtnmffehmjgknkaaGreatDoor
/-
  The state's 'take' of both kinds: whole blocks are eaten, the rest is told.
-/
namespace Go.Proofs.YtnmffehmjgknkaaGreatDoor
open Go.RowKit

def S4.toL (s : S4) : List Wd := [s.a, s.b, s.c, s.d]
/-- n blocks of sixty-four bytes. -/
def eatN {σ : Type} (f : List UInt8 → σ → σ) : Nat → List UInt8 → σ → σ
  | 0, _, s => s
  | n + 1, l, s => eatN f n (l.drop 64) (f (l.take 64) s)
/-- All whole blocks. -/
def eat {σ : Type} (f : List UInt8 → σ → σ) (l : List UInt8) (s : σ) : σ := eatN f (l.length / 64) l s
/-- What is behind the whole blocks. -/
def rest (l : List UInt8) : List UInt8 := l.drop (l.length / 64 * 64)
theorem rest_length (l : List UInt8) : (rest l).length = l.length % 64 := by rw [rest, List.length_drop]; omega

theorem bytes_drop {w : World} {b off c : Nat} {r : List UInt8} (h : Bytes w (some ⟨b, off, none⟩) r) (hr : 64 ≤ r.length) (hc : r.length ≤ c) :
    Bytes w (if c = 64 then some ⟨b, off, none⟩ else some ⟨b, off + 64, none⟩) (r.drop 64) := by
  split
  · exact .inl (List.drop_eq_nil_of_le (by omega))
  · obtain ⟨b', off', he, hb, hc'⟩ := h.at (k := 0) (by omega)
    cases he
    refine .inr ⟨b, off + 64, rfl, hb, fun j hj => ?_⟩
    simp only [List.length_drop] at hj
    rw [Nat.add_assoc, hc' (64 + j) (by omega), List.getElem_drop]

set_option maxHeartbeats 1000000 in
theorem shaTake_any (g : Nat) (s : S8) (a : Option Addr) (l : List UInt8) (cap : Nat) (w : World) (hcap : l.length ≤ cap) (hl : l.length ≤ 281474976710656) (hst : Wds w g 175 s.toL) (hb : Bytes w a l) (hne : 64 ≤ l.length → ∀ ad, a = some ad → ad.block ≠ g) :
    Calls Tryz.prog 112 #[.pointer (some ⟨g, 0, none⟩), .slice a l.length cap] w fun e w' => ∃ ra rc, e = .returned (.slice ra (l.length % 64) rc) ∧ Bytes w ra (rest l) ∧ (∀ ad, ra = some ad → ∃ ad0, a = some ad0 ∧ ad.block = ad0.block) ∧ l.length % 64 ≤ rc ∧ w.grownBy w' (some g) ∧ Wds w' g 175 (eat sMix l s).toL := by
  have HS : Hid (Wds w g 175 s.toL) := hst
  have hglt := HS.out.lt
  clear hst
  go_enter Tryz.func112, Tryz.ntmps112
  go_wp2_with fail
  refine (shaWords_any _).mono ?_
  rintro e w1 ⟨rfl, hb1⟩
  have hz := (zero_of_info (P := Tryz.prog) (t := 176) (v := .agg (wcs (zeros 64)).toArray) (n := 64) (by kernel_rfl)).1 w1
  have hnew : (w1.alloc (.cells (wcs (zeros 64)).toArray 176)).heap[w1.heap.size]? = some (.cells (wcs (zeros 64)).toArray 176 (0, 0)) := heap_alloc_last w1 _
  have HN : Hid _ := hnew
  clear hnew
  go_wp2_with (refine wpList_store_row rfl 176 _ _ rfl _ _ rfl rfl 176 _ HN.out size176 rfl (wcs_all _) ?_)
  simp only [Act.put]
  clear hz
  have hK : Wds ((w1.alloc (.cells (wcs (zeros 64)).toArray 176)).setRow w1.heap.size (wcs shaK).toArray) w1.heap.size 176 shaK := setRow_heap _ _ _ _ _ _ HN.out
  have hnx : Below w.heap.size w ((w1.alloc (.cells (wcs (zeros 64)).toArray 176)).setRow w1.heap.size (wcs shaK).toArray) :=
    (hb1.alloc hb1.size _).trans ⟨rfl, rfl, rfl, by simp, fun j hj => setRow_other _ _ _ _ (by have := hb1.size; omega)⟩
  have hw1 := hb1.size
  have HK : Hid _ := hK
  clear hK hb1 HN
  generalize (w1.alloc (.cells (wcs (zeros 64)).toArray 176)).setRow w1.heap.size (wcs shaK).toArray = w2 at *
  generalize w1.heap.size = kg at *
  go_loopw [1] (fun v wr => ∃ (a' : Option Addr) (c n j : Nat) (st : S8), v = .slice a' n c ∧ n ≤ c ∧ n = l.length - 64 * j ∧ 64 * j ≤ l.length ∧ Bytes w a' (l.drop (64 * j)) ∧ (∀ ad, a' = some ad → ∃ ad0, a = some ad0 ∧ ad.block = ad0.block) ∧
      eatN sMix (l.length / 64 - j) (l.drop (64 * j)) st = eat sMix l s ∧ Wds wr g 175 st.toL ∧ Wds wr kg 176 shaK ∧ w.grownBy wr (some g))
    (fun v _ => match v with | .slice _ n _ => n | _ => 0)
  case atStart => exact ⟨a, cap, l.length, 0, s, rfl, hcap, by omega, by omega, hb, fun ad h => ⟨ad, h, rfl⟩, rfl, HS.out.below hnx hglt, HK.out, below_grown hnx _⟩
  case round =>
    obtain ⟨a', c, n, j, st, rfl, hnc, hn, hj, hbj, hblk, hea, hws, hwk, hgw⟩ := hrel
    have HE : Hid (eatN sMix (l.length / 64 - j) (l.drop (64 * j)) st = eat sMix l s) := hea
    have HW : Hid (Wds wr g 175 st.toL) := hws
    have HKW : Hid (Wds wr kg 176 shaK) := hwk
    have HB : Hid (Bytes w a' (l.drop (64 * j))) := hbj
    have HBK : Hid (∀ ad, a' = some ad → ∃ ad0, a = some ad0 ∧ ad.block = ad0.block) := hblk
    have HNJ : Hid (n = l.length - 64 * j) := hn
    clear hea hws hwk hbj hblk HK hnx hn
    by_cases h64 : 64 ≤ n
    · have hlen : (l.drop (64 * j)).length = n := by rw [List.length_drop, HNJ.out]
      obtain ⟨b, off, rfl, hbl, hcs⟩ := HB.out.at (k := 0) (by rw [hlen]; omega)
      obtain ⟨ad0, had0, hbe⟩ := HBK.out _ rfl
      have hbg : b ≠ g := fun e => hne (by have := HNJ.out; omega) ad0 had0 (by rw [← hbe]; exact e)
      have hcs' : Hid (∀ i (h : i < ((l.drop (64 * j)).take 64).length), wr.cell? ⟨b, off + i, none⟩ = some (.int .u8 (((l.drop (64 * j)).take 64)[i].toNat : Int))) := by
        intro i h
        have hi : i < 64 ∧ i < (l.drop (64 * j)).length := by simp at h ⊢; omega
        rw [World.cell?_of_block (w := w) (a := ⟨b, off + i, none⟩) (hgw.block b hbl (by simpa using hbg)), hcs i hi.2, List.getElem_take]
      have hl64 : ((l.drop (64 * j)).take 64).length = 64 := by rw [List.length_take, hlen]; omega
      have HL64 : Hid _ := hl64
      have HLEN : Hid _ := hlen
      have hbw : b < wr.heap.size := Nat.lt_of_lt_of_le hbl hgw.size
      have h64i : (64 : Int) ≤ (n : Int) := by omega
      have h64c : (64 : Int) ≤ (c : Int) := by omega
      have hc64 : 64 ≤ c := by omega
      have HC : Hid _ := shaMix_any g kg b off c st ((l.drop (64 * j)).take 64) wr HW.out HKW.out hl64 hc64 hbw hcs'.out
      have HBE : Hid _ := hbe
      clear hlen hl64 hcs hbe
      go_wp2_with fail
      refine Calls.mono HC.out ?_
      rintro e w3 ⟨rfl, hg3, hws3⟩
      have HW3 : Hid (Wds w3 g 175 (sMix ((l.drop (64 * j)).take 64) st).toL) := hws3
      have HK3 : Hid (Wds w3 kg 176 shaK) := HKW.out.grown hg3 (by simp; omega)
      have hgw3 := grown_trans hgw hg3
      clear hws3 HW HKW hgw hg3 hcs' hbw
      go_wp2
      go_roundw
      case rel =>
        refine ⟨_, c - 64, n - 64, j + 1, _, rfl, by omega, by have := HNJ.out; omega, by have := HNJ.out; omega, ?_, ?_, ?_, HW3.out, HK3.out, hgw3⟩
        · rw [show 64 * (j + 1) = 64 * j + 64 from by omega, ← List.drop_drop]
          exact bytes_drop HB.out (by rw [HLEN.out]; exact h64) (by rw [HLEN.out]; exact hnc)
        · intro ad had
          refine ⟨ad0, had0, ?_⟩
          split at had
          · rw [← Option.some.inj had]; exact HBE.out
          · rw [← Option.some.inj had]; exact HBE.out
        · rw [← HE.out, show l.length / 64 - j = (l.length / 64 - (j + 1)) + 1 from by have := HNJ.out; omega, eatN, show 64 * (j + 1) = 64 * j + 64 from by omega, List.drop_drop]
      case measure => simp; omega
    · have hjq : j = l.length / 64 := by have := HNJ.out; omega
      have hnq : n = l.length % 64 := by have := HNJ.out; omega
      have HJQ : Hid _ := hjq
      have HNQ : Hid _ := hnq
      clear hjq hnq
      go_wp2
      go_ret
      refine ⟨a', c, by rw [← HNQ.out]; rfl, ?_, HBK.out, by rw [← HNQ.out]; exact hnc, hgw, ?_⟩
      · rw [rest, Nat.mul_comm, ← HJQ.out]; exact HB.out
      · rw [← HE.out, HJQ.out, Nat.sub_self, eatN]; exact HW.out
end Go.Proofs.YtnmffehmjgknkaaGreatDoor
/-
  A block of bytes told by a list; hash.padded by its contract.
-/
namespace Go.Proofs.YtnmffehmjgknkaaGreatDoor
open Go.RowKit

/-- The block g holds the bytes l, and nothing else. -/
def Bts (w : World) (g : Nat) (l : List UInt8) : Prop := w.heap[g]? = some (.cells (bcs l).toArray 5 (0, 0))
theorem Bts.lt {w : World} {g : Nat} {l : List UInt8} (h : Bts w g l) : g < w.heap.size := (Array.getElem?_eq_some_iff.1 h).1
theorem Bts.cell {w : World} {g : Nat} {l : List UInt8} (h : Bts w g l) {k : Nat} (hk : k < l.length) : w.cell? ⟨g, k, none⟩ = some (.int .u8 (l[k].toNat : Int)) := by
  rw [cell_of_row w g k _ 5 (0, 0) h]
  simpa using bcs_get hk
theorem Bts.frozen {w : World} {g : Nat} {l : List UInt8} (h : Bts w g l) (k : Nat) : w.frozen? ⟨g, k, none⟩ = false := by
  unfold Bts at h
  simp [World.frozen?, h]
theorem Bts.set {w : World} {g : Nat} {l : List UInt8} (h : Bts w g l) (k : Nat) (x : UInt8) : Bts (w.setCell ⟨g, k, none⟩ (.int .u8 (x.toNat : Int))) g (l.set k x) := by
  unfold Bts
  rw [setCell_eq_setRow w g k _ 5 (0, 0) _ h, setRow_heap w g _ _ 5 (0, 0) h]
  congr 2
  apply Array.ext'
  simp [bcs, List.map_set]
theorem Bts.other {w w' : World} {g : Nat} {l : List UInt8} (h : Bts w g l) (e : w'.heap[g]? = w.heap[g]?) : Bts w' g l := e.trans h
theorem Bts.below {w w' : World} {g B : Nat} {l : List UInt8} (h : Bts w g l) (hb : Below B w w') (hB : g < B) : Bts w' g l := h.other (hb.block g hB)
theorem Bts.alloc {w : World} {g : Nat} {l : List UInt8} (h : Bts w g l) (o : Obj) : Bts (w.alloc o) g l := h.other (Below.heap_alloc _ _ _ h.lt)
theorem Bts.grown {w w' : World} {g : Nat} {l : List UInt8} {row : Option Nat} (h : Bts w g l) (hg : w.grownBy w' row) (hne : some g ≠ row) : Bts w' g l := h.other (hg.block g h.lt hne)
theorem Bts.bytes {w : World} {g : Nat} {l : List UInt8} (h : Bts w g l) : Bytes w (some ⟨g, 0, none⟩) l :=
  .inr ⟨g, 0, rfl, h.lt, fun j hj => by rw [Nat.zero_add]; exact h.cell hj⟩

theorem size5 : (Tryz.prog.info? 5).map (·.size) = some 1 := by kernel_rfl
theorem bytes_src {w : World} {a : Option Addr} {l : List UInt8} (h : Bytes w a l) (hl : 0 < l.length) : ∃ ad, a = some ad ∧ ∀ j v, (bcs l)[j]? = some v → w.cell? (ad.add j) = some v := by
  obtain ⟨b, off, rfl, _, hc⟩ := h.at hl
  refine ⟨_, rfl, fun j v hv => ?_⟩
  have hj : j < l.length := by have := (List.getElem?_eq_some_iff.1 hv).1; rwa [bcs_length] at this
  rw [Addr.add_lit, hc j hj, ← bcs_get hj, hv]

/-- How long the rest is behind its filling. -/
def pl (n : Nat) : Nat := (n + 8) / 64 * 64 + 64
theorem pl_bd (n : Nat) : n + 9 ≤ pl n ∧ pl n ≤ n + 72 := by unfold pl; omega
def padL (r : List UInt8) : List UInt8 := r ++ (128 :: List.replicate (pl r.length - r.length - 1) 0)
theorem padL_length (r : List UInt8) : (padL r).length = pl r.length := by have := pl_bd r.length; simp [padL]; omega

theorem made_bytes (n : Nat) : (madeCells (Value.int .u8 0).cells (n * 1)).toList = bcs (List.replicate n 0) := by
  apply List.ext_getElem?
  intro i
  simp only [madeCells, bcs, Value.cells, Nat.mul_one, List.map_replicate]
  rcases Nat.lt_or_ge i n with h | h
  · simp [h, Nat.mod_one]
  · simp [h]
theorem row_full {w : World} {base e g n : Nat} {xs : List Value} (h : w.ownsRow base e 1 (.slice (some ⟨g, 0, none⟩) n n) n xs) : w.heap[g]? = some (.cells xs.toArray e (0, 0)) := by
  obtain ⟨hl, ⟨hv, _⟩ | ⟨g', cap, cur, hv, _, hh, _, _, hcs, htk⟩⟩ := h
  · simp at hv
  · simp only [Value.slice.injEq, Option.some.injEq, Addr.mk.injEq, and_true, true_and] at hv
    obtain ⟨rfl, rfl⟩ := hv
    rw [hh, ← htk, List.take_of_length_le (by simp; omega)]
theorem splice_pad (r : List UInt8) (p : Nat) (_hp : r.length ≤ p) : splice (bcs (List.replicate p 0)) 0 (bcs r) = bcs (r ++ List.replicate (p - r.length) 0) := by
  simp [splice, bcs]
theorem set_pad (r : List UInt8) (n : Nat) : (r ++ List.replicate (n + 1) 0).set r.length 128 = r ++ (128 :: List.replicate n 0) := by
  rw [List.set_append_right _ _ (Nat.le_refl _), Nat.sub_self, List.replicate_succ]
  rfl

/-- 'copy(p, r)' into bytes that were just made. -/
theorem wpList_copy_made {w w1 : World} {ops : Array Oper} {rs : List Oper} {o : Oper} {ac : Act} {Q : Exit → Act → World → Prop} (hgd : o.guard = none) (d s : Operand)
    (ho : o.op = .call { callee := .builtin .copy, args := #[d, s], argTypes := #[23, 23] }) (a : Option Addr) (r : List UInt8) (cap p : Nat) (hp : r.length ≤ p)
    (hd : ac.eval d = .slice (some ⟨w.heap.size, 0, none⟩) p p) (hs : ac.eval s = .slice a r.length cap) (hb : Bytes w a r)
    (hown : w1.ownsRow w.heap.size 5 1 (.slice (some ⟨w.heap.size, 0, none⟩) p p) p (madeCells (Value.int .u8 0).cells (p * 1)).toList) (hgrow : w.grownBy w1 none)
    (h : ∀ w', Hid (Bts w' w.heap.size (r ++ List.replicate (p - r.length) 0)) → Below w.heap.size w w' → wpList Tryz.prog ops Q rs (ac.put o.dst (goInt r.length)) w') :
    wpList Tryz.prog ops Q (o :: rs) ac w1 := by
  have hrow := row_full hown
  rw [made_bytes] at hrow
  have hnx : Below w.heap.size w w1 := (Below.refl _ _).grown hgrow (Nat.le_refl _) (by simp)
  refine wpList_copy_splice hgd d s 23 23 ho 5 Tryz.underlying23 size5 _ _ _ _ _ _ hd hs w.heap.size 0 (bcs (List.replicate p 0)) 5 hrow (bcs r) ?_ ?_ ?_ (bcs_one r) w.heap.size w hnx (Nat.le_refl _) ?_
  · rw [bcs_length]
    exact (Nat.min_eq_left hp).symm
  · intro h
    rw [bcs_length] at h
    exact ⟨rfl, bytes_src (hb.below hnx (Nat.le_refl _)) h⟩
  · rw [bcs_length, bcs_length, List.length_replicate]
    omega
  · intro w2 hh2 hnx2
    rw [bcs_length]
    refine h w2 ?_ hnx2
    have := hh2.out
    rw [splice_pad r p hp] at this
    exact this

set_option maxHeartbeats 1000000 in
theorem padded_any (a : Option Addr) (r : List UInt8) (cap : Nat) (w : World) (hr : r.length ≤ 140737488351232) (hb : Bytes w a r) :
    Calls Tryz.prog 164 #[.slice a r.length cap] w fun e w' => e = .returned (.slice (some ⟨w.heap.size, 0, none⟩) (pl r.length) (pl r.length)) ∧ Bts w' w.heap.size (padL r) ∧ Below w.heap.size w w' := by
  obtain ⟨i0, hi, hz0, hz1, hz2⟩ := info_parts info5
  have hbd := pl_bd r.length
  have hpi : ((r.length : Int) + 8) / 64 * 64 + 64 = ((pl r.length : Nat) : Int) := by unfold pl; omega
  have hm : i0.bytes * pl r.length ≤ 281474976710656 := by rw [hz2]; omega
  generalize hP : pl r.length = p at *
  have HP : Hid (pl r.length = p) := hP
  clear hP
  go_enter Tryz.func164, Tryz.ntmps164
  go_wp2_with (first
    | (at_make; refine wpList_make_full _ rfl _ _ 23 rfl w.heap.size 5 i0 (.int .u8 0) 1 Tryz.underlying23 hi hz0 hz1 _ _ _ _ p rfl rfl (by omega) (by omega) hm (by unfold maxLen; omega) (Nat.le_refl _) ?_; intro w1 hown hgrow)
    | (refine wpList_copy_made rfl _ _ rfl a r cap p (by omega) rfl rfl hb hown hgrow ?_; intro w2 HB2 hnx2; clear hown hgrow; have hlen : r.length < (r ++ List.replicate (p - r.length) (0 : UInt8)).length := (by simp; omega); have hcell := HB2.out.cell hlen; have hfr := HB2.out.frozen r.length; have hlt : (r.length : Int) < (p : Int) := (by omega)))

  go_ret
  refine ⟨rfl, ?_, hnx2.setCell (Nat.le_refl _) _⟩
  have := HB2.out.set r.length 128
  rw [show p - r.length = (p - r.length - 1) + 1 from by omega, set_pad] at this
  unfold padL
  rw [HP.out]
  exact this
end Go.Proofs.YtnmffehmjgknkaaGreatDoor
/-
  The state's 'sum' of both kinds.
-/
namespace Go.Proofs.YtnmffehmjgknkaaGreatDoor
open Go.RowKit

/-- A word's byte. -/
def wb (x : Wd) (k : Nat) : UInt8 := UInt8.ofNat (x.toNat / 256 ^ k)
/-- A byte of the size in bits. -/
def szb (size k : Nat) : UInt8 := UInt8.ofNat (size * 8 / 2 ^ (8 * k))
/-- Bytes laid in, one by one. -/
def lay8 (p : List UInt8) (f : Nat → UInt8) (pos : Nat → Nat) : Nat → List UInt8
  | 0 => p
  | k + 1 => (lay8 p f pos k).set (pos k) (f k)
theorem lay8_length (p : List UInt8) (f : Nat → UInt8) (pos : Nat → Nat) (k : Nat) : (lay8 p f pos k).length = p.length := by
  induction k with
  | zero => rfl
  | succ k ih => rw [lay8, List.length_set, ih]
theorem szb_cell (size k : Nat) : ((szb size k).toNat : Int) = (size : Int) * 8 / 2 ^ (8 * k) % 256 := by
  rw [szb, UInt8.toNat_ofNat']
  simp
theorem flat4_len (f : Wd → List UInt8) (hf : ∀ x, (f x).length = 4) (l : List Wd) : (l.flatMap f).length = 4 * l.length := by
  induction l with
  | nil => rfl
  | cons x l ih => rw [List.flatMap_cons, List.length_append, hf, ih, List.length_cons]; omega
theorem cell_four_new (w : World) (a b c d : Value) (t : TypeId) : ∀ j u, [a, b, c, d][j]? = some u → (w.alloc (.cells #[a, b, c, d] t)).cell? ((⟨w.heap.size, 0, none⟩ : Addr).add j) = some u := by
  intro j u hj
  rw [Addr.add_lit, World.cell?_alloc_mark]
  simpa using hj
theorem four_one (a b c d : Int) : ∀ u ∈ [Value.int .u8 a, .int .u8 b, .int .u8 c, .int .u8 d], u.oneCell' = true := by
  intro u hu
  simp at hu
  rcases hu with rfl | rfl | rfl | rfl <;> rfl
theorem wb0 (x : Wd) : W x % 256 = ((wb x 0).toNat : Int) := by rw [wb, UInt8.toNat_ofNat']; simp [W]
theorem wb1 (x : Wd) : W x / 256 % 256 = ((wb x 1).toNat : Int) := by rw [wb, UInt8.toNat_ofNat']; simp [W]
theorem wb2 (x : Wd) : W x / 65536 % 256 = ((wb x 2).toNat : Int) := by rw [wb, UInt8.toNat_ofNat']; simp [W]
theorem wb3 (x : Wd) : W x / 16777216 = ((wb x 3).toNat : Int) := by
  have h : W x / 16777216 % 256 = ((wb x 3).toNat : Int) := by rw [wb, UInt8.toNat_ofNat']; simp [W]
  have := W_bd x
  omega
/-- The last blocks: the rest, a bit, noughts, the size in bits. -/
def mfin (r : List UInt8) (size : Nat) : List UInt8 := lay8 (padL r) (szb size) (fun j => pl r.length - 8 + j) 8
def sfin (r : List UInt8) (size : Nat) : List UInt8 := lay8 (padL r) (szb size) (fun j => pl r.length - 1 - j) 8

theorem index65 (t : S8) (k : Nat) (h : k < 8) (w : World) :
    (Instr.index 175 (.agg (wcs t.toL).toArray) (.int .i64 (k : Int))).run Tryz.prog w = .ok (.int .u32 (W (t.toL.getD k 0))) w := by
  show (Instr.index 175 (.agg #[.int .u32 (W t.a), .int .u32 (W t.b), .int .u32 (W t.c), .int .u32 (W t.d), .int .u32 (W t.e), .int .u32 (W t.f), .int .u32 (W t.g), .int .u32 (W t.h)]) (.int .i64 (k : Int))).run Tryz.prog w = _
  obtain ⟨i3, h3, _, hz, _⟩ := info_parts info159
  match k, h with
  | 0, _ => simp [Instr.index, asIntOf, run_underlying Tryz.underlying175, sizeOf, typeInfo, part, h3, hz, S8.toL]
  | 1, _ => simp [Instr.index, asIntOf, run_underlying Tryz.underlying175, sizeOf, typeInfo, part, h3, hz, S8.toL]
  | 2, _ => simp [Instr.index, asIntOf, run_underlying Tryz.underlying175, sizeOf, typeInfo, part, h3, hz, S8.toL]
  | 3, _ => simp [Instr.index, asIntOf, run_underlying Tryz.underlying175, sizeOf, typeInfo, part, h3, hz, S8.toL]
  | 4, _ => simp [Instr.index, asIntOf, run_underlying Tryz.underlying175, sizeOf, typeInfo, part, h3, hz, S8.toL]
  | 5, _ => simp [Instr.index, asIntOf, run_underlying Tryz.underlying175, sizeOf, typeInfo, part, h3, hz, S8.toL]
  | 6, _ => simp [Instr.index, asIntOf, run_underlying Tryz.underlying175, sizeOf, typeInfo, part, h3, hz, S8.toL]
  | 7, _ => simp [Instr.index, asIntOf, run_underlying Tryz.underlying175, sizeOf, typeInfo, part, h3, hz, S8.toL]

/-- The bytes of the state at the end. -/
def md5Out (t : S4) : List UInt8 := t.toL.flatMap fun x => [wb x 0, wb x 1, wb x 2, wb x 3]
theorem md5Out_snoc (t : S4) {k : Nat} (h : k < 4) : (t.toL.take (k + 1)).flatMap (fun x => [wb x 0, wb x 1, wb x 2, wb x 3]) = (t.toL.take k).flatMap (fun x => [wb x 0, wb x 1, wb x 2, wb x 3]) ++ [wb (t.toL.getD k 0) 0, wb (t.toL.getD k 0) 1, wb (t.toL.getD k 0) 2, wb (t.toL.getD k 0) 3] := by
  have hl : k < t.toL.length := h
  rw [List.take_succ_eq_append_getElem hl, List.flatMap_append, getD_at hl]
  simp
theorem md5Out_len (t : S4) (k : Nat) (h : k ≤ 4) : ((t.toL.take k).flatMap (fun x => [wb x 0, wb x 1, wb x 2, wb x 3])).length = 4 * k := by
  rw [flat4_len _ (by intros; rfl), List.length_take]
  have : t.toL.length = 4 := rfl
  omega

/-- The bytes of the state at the end. -/
def shaOut (t : S8) : List UInt8 := t.toL.flatMap fun x => [wb x 3, wb x 2, wb x 1, wb x 0]
theorem shaOut_snoc (t : S8) {k : Nat} (h : k < 8) : (t.toL.take (k + 1)).flatMap (fun x => [wb x 3, wb x 2, wb x 1, wb x 0]) = (t.toL.take k).flatMap (fun x => [wb x 3, wb x 2, wb x 1, wb x 0]) ++ [wb (t.toL.getD k 0) 3, wb (t.toL.getD k 0) 2, wb (t.toL.getD k 0) 1, wb (t.toL.getD k 0) 0] := by
  have hl : k < t.toL.length := h
  rw [List.take_succ_eq_append_getElem hl, List.flatMap_append, getD_at hl]
  simp
theorem shaOut_len (t : S8) (k : Nat) (h : k ≤ 8) : ((t.toL.take k).flatMap (fun x => [wb x 3, wb x 2, wb x 1, wb x 0])).length = 4 * k := by
  rw [flat4_len _ (by intros; rfl), List.length_take]
  have : t.toL.length = 8 := rfl
  omega

set_option maxHeartbeats 1000000 in
set_option maxRecDepth 4000 in
theorem shaSum_any (g : Nat) (s : S8) (a : Option Addr) (r : List UInt8) (cap size : Nat) (w : World) (hr : r.length ≤ 70368744177664) (hsz : size ≤ 562949953421312) (hst : Wds w g 175 s.toL) (hb : Bytes w a r) :
    Calls Tryz.prog 113 #[.pointer (some ⟨g, 0, none⟩), .slice a r.length cap, .int .i64 (size : Int)] w fun e w' => ∃ v, e = .returned v ∧ Own w' w.heap.size v (shaOut (eat sMix (sfin r size) s)) ∧ Below w.heap.size w w' := by
  obtain ⟨i0, hi, hz0, hz1, hz2⟩ := info_parts info5
  have HS : Hid (Wds w g 175 s.toL) := hst
  have hglt := HS.out.lt
  have hbd := pl_bd r.length
  clear hst
  go_enter Tryz.func113, Tryz.ntmps113
  go_wp2_with fail
  refine (padded_any a r cap _ (by omega) hb).mono ?_
  rintro e w1 ⟨rfl, hbt, hnx1⟩
  have HBT : Hid (Bts w1 w.heap.size (padL r)) := hbt
  have hpl := padL_length r
  generalize hP : pl r.length = p at *
  have HPL : Hid ((padL r).length = p) := hpl
  have HP : Hid (pl r.length = p) := hP
  clear hbt hP hpl
  go_wp2
  go_loopw [15] (fun i wr => ∃ k : Nat, k ≤ 8 ∧ i = .int .i64 k ∧ Bts wr w.heap.size (lay8 (padL r) (szb size) (fun j => p - 1 - j) k) ∧ Below w.heap.size w wr) (fun i _ => 8 - (intOf i).toNat)
  case atStart => exact ⟨0, by omega, rfl, HBT.out, hnx1⟩
  case round =>
    clear HBT hnx1
    obtain ⟨k, hk, rfl, hbt, hnx⟩ := hrel
    have HB : Hid (Bts wr w.heap.size (lay8 (padL r) (szb size) (fun j => p - 1 - j) k)) := hbt
    clear hbt
    by_cases hlt : k < 8
    · have hlen : p - 1 - k < (lay8 (padL r) (szb size) (fun j => p - 1 - j) k).length := by rw [lay8_length, HPL.out]; omega
      obtain ⟨old, hcell⟩ : ∃ old, wr.cell? ⟨w.heap.size, p - 1 - k, none⟩ = some (.int .u8 old) := ⟨_, HB.out.cell hlen⟩
      have hfr := HB.out.frozen (p - 1 - k)
      generalize hQ : p - 1 - k = q at *
      have hqi : (p : Int) - 1 - (k : Int) = ((q : Nat) : Int) := by omega
      have hqp : (q : Int) < (p : Int) := by omega
      have HQ : Hid (p - 1 - k = q) := hQ
      have hk8 : 8 * k ≤ 64 := by omega
      clear hQ hlen
      go_wp2
      go_roundw
      case rel =>
        refine ⟨k + 1, by omega, by go_num, ?_, ?_⟩
        · rw [lay8, HQ.out]
          have := HB.out.set q (szb size k)
          rw [szb_cell] at this
          exact this
        · exact hnx.setCell (Nat.le_refl _) _
      case measure => simp [intOf]; omega
    · obtain rfl : k = 8 := by omega
      have hfl : (lay8 (padL r) (szb size) (fun j => p - 1 - j) 8).length = p := by rw [lay8_length, HPL.out]
      have HFIN : Hid (sfin r size = lay8 (padL r) (szb size) (fun j => p - 1 - j) 8) := by
        show _ = _
        rw [sfin, HP.out]
      generalize lay8 (padL r) (szb size) (fun j => p - 1 - j) 8 = F at *
      subst hfl
      have hG : Wds wr g 175 s.toL := HS.out.below hnx hglt
      have HG : Hid (wr.heap[g]? = some (.cells (wcs s.toL).toArray 175 (0, 0))) := hG
      have hnew : (wr.alloc (.cells (wcs (zeros 8)).toArray 175)).heap[wr.heap.size]? = some (.cells (wcs (zeros 8)).toArray 175 (0, 0)) := heap_alloc_last wr _
      have HN : Hid _ := hnew
      have hwsz := hnx.size
      have hplt := HB.out.lt
      clear hG hnew HPL HP
      go_wp2_with (first
        | refine wpList_load_row rfl 175 _ rfl _ rfl 175 _ (0, 0) _ HG.out Tryz.underlying175 rfl size175 ?_
        | refine wpList_store_row rfl 175 _ _ rfl _ _ rfl rfl 175 _ HN.out size175 rfl (wcs_all _) ?_)
      have hE : Wds ((wr.alloc (.cells (wcs (zeros 8)).toArray 175)).setRow wr.heap.size (wcs s.toL).toArray) wr.heap.size 175 s.toL := setRow_heap _ _ _ _ _ _ HN.out
      have hnx2 : Below w.heap.size w ((wr.alloc (.cells (wcs (zeros 8)).toArray 175)).setRow wr.heap.size (wcs s.toL).toArray) :=
        (hnx.alloc hwsz _).trans ⟨rfl, rfl, rfl, by simp, fun j hj => setRow_other _ _ _ _ (by omega)⟩
      have hB2 : Bts ((wr.alloc (.cells (wcs (zeros 8)).toArray 175)).setRow wr.heap.size (wcs s.toL).toArray) w.heap.size F :=
        (HB.out.alloc _).other (setRow_other _ _ _ _ (by omega))
      have HC : Hid _ := shaTake_any wr.heap.size s (some ⟨w.heap.size, 0, none⟩) F F.length _ (Nat.le_refl _) (by omega) hE hB2.bytes (by intro _ ad h; cases h; show w.heap.size ≠ wr.heap.size; omega)
      clear hE hB2 HG HN HB
      refine Calls.mono HC.out ?_
      rintro e w3 ⟨ra, rc, rfl, _, _, _, hg3, hw3⟩
      have hnx3 : Below w.heap.size w w3 := hnx2.trans (grown_below hg3 hnx2.size (by omega))
      have HW3 : Hid (Wds w3 wr.heap.size 175 (eat sMix F s).toL) := hw3
      clear HC hg3 hw3 hnx2 hnx
      have HR : Hid (shaOut (eat sMix (sfin r size) s) = shaOut (eat sMix F s)) := by
        show _ = _
        rw [HFIN.out]
      generalize eat sMix F s = t at *
      have hs3 := hnx3.size
      have hl3 := HW3.out.lt
      have HI := fun k h w => index65 t k h w
      go_wp2_with (first
        | (at_make; refine wpList_make_own _ rfl _ _ 23 rfl w.heap.size 5 i0 (.int .u8 0) 1 Tryz.underlying23 hi hz0 hz1 _ _ _ 32 rfl rfl (by omega) (by rw [hz2]; decide) (by decide) (by omega) ?_; intro w4 hown4 hgrow4; have HW4 : Hid (w4.heap[wr.heap.size]? = some (.cells (wcs t.toL).toArray 175 (0, 0))) := HW3.out.grown hgrow4 (by simp))
        | refine wpList_load_row rfl 175 _ rfl _ rfl 175 _ (0, 0) _ HW4.out Tryz.underlying175 rfl size175 ?_)
      have hnx4 : Below w.heap.size w w4 := hnx3.grown hgrow4 (by omega) (by simp)
      have hs4 := hnx4.size
      go_loopw [10, 40] (fun v i wq => ∃ k : Nat, k ≤ 8 ∧ i = .int .i64 k ∧ v = .slice (some ⟨w3.heap.size, 0, none⟩) (4 * k) 32 ∧ wq.ownsRow w.heap.size 5 1 (.slice (some ⟨w3.heap.size, 0, none⟩) (4 * k) 32) (4 * k) (bcs ((t.toL.take k).flatMap (fun x => [wb x 3, wb x 2, wb x 1, wb x 0]))) ∧ Below w.heap.size w wq) (fun _ i _ => 8 - (intOf i).toNat)
      case atStart => exact ⟨0, by omega, rfl, rfl, hown4, hnx4⟩
      case round =>
        clear hown4 hgrow4 HW4 HW3 hnx4
        obtain ⟨k, hk, rfl, rfl, hown, hnx⟩ := hrel
        have hs5 := hnx.size
        by_cases hlt : k < 8
        · have hidx := HI k hlt
          have HO : Hid _ := shaOut_snoc t hlt
          generalize t.toL.getD k 0 = x at *
          have hlt' : (k : Int) < 8 := by omega
          have v0 := wb0 x
          have v1 := wb1 x
          have v2 := wb2 x
          have v3 := wb3 x
          have hbx := W_bd x
          clear HI
          go_wp2_with (at_builtin; refine wpList_append_fits _ rfl (.tmp 43) (.tmp 55) 23 rfl w.heap.size 5 i0 1 Tryz.underlying23 hi hz1 w3.heap.size (4 * k) 32 _ rfl (hown.alloc _) ⟨wr.heap.size, 0, none⟩ 4 4 [.int .u8 ((wb x 3).toNat : Int), .int .u8 ((wb x 2).toNat : Int), .int .u8 ((wb x 1).toNat : Int), .int .u8 ((wb x 0).toNat : Int)] rfl rfl (cell_four_new _ _ _ _ _ _) (four_one _ _ _ _) (by omega) ?_; intro w1q hown1 hgrow1)
          go_roundw
          case rel =>
            refine ⟨k + 1, by omega, by go_num, by rw [Nat.mul_add], ?_, ?_⟩
            · rw [HO.out, bcs_append]
              exact hown1
            · exact (hnx.alloc hs5 _).grown hgrow1 (by simp; omega) (by intro j hj; simp at hj; omega)
          case measure => simp [intOf]; omega
        · obtain rfl : k = 8 := by omega
          clear HI
          go_wp2
          go_ret
          refine ⟨_, rfl, ?_, hnx⟩
          rw [HR.out]
          unfold Own
          rw [show (shaOut t).length = 32 from rfl]
          exact hown
end Go.Proofs.YtnmffehmjgknkaaGreatDoor
/-
  hash.MD5 and hash.SHA256 by their contracts.
-/
namespace Go.Proofs.YtnmffehmjgknkaaGreatDoor
open Go.RowKit

theorem Bytes.blk {w : World} {a : Option Addr} {l : List UInt8} (h : Bytes w a l) (hl : 0 < l.length) : ∀ ad, a = some ad → ad.block < w.heap.size := by
  intro ad e
  obtain ⟨b, off, rfl, hb, _⟩ := h.at hl
  cases e
  exact hb
theorem Bytes.grown {w w' : World} {a : Option Addr} {l : List UInt8} {g : Nat} (h : Bytes w a l) (hg : w.grownBy w' (some g)) (hne : 0 < l.length → ∀ ad, a = some ad → ad.block ≠ g) : Bytes w' a l := by
  rcases h with rfl | ⟨b, off, rfl, hb, hc⟩
  · exact .inl rfl
  · rcases Nat.eq_zero_or_pos l.length with h0 | h0
    · exact .inl (List.eq_nil_of_length_eq_zero h0)
    · refine .inr ⟨b, off, rfl, Nat.lt_of_lt_of_le hb hg.size, fun j hj => ?_⟩
      rw [World.cell?_of_block (w := w) (a := ⟨b, off + j, none⟩) (hg.block b hb (by have := hne h0 _ rfl; simpa using this))]
      exact hc j hj
theorem own_mono {w : World} {b b' : Nat} {v : Value} {l : List UInt8} (h : Own w b v l) (hb : b' ≤ b) : Own w b' v l := by
  obtain ⟨h1, h2⟩ := h
  refine ⟨h1, ?_⟩
  rcases h2 with h2 | ⟨g, cap, cur, hv, hg, r⟩
  · exact .inl h2
  · exact .inr ⟨g, cap, cur, hv, Nat.le_trans hb hg, r⟩

def mInit : S4 := ⟨0x67452301, 0xefcdab89, 0x98badcfe, 0x10325476⟩
/-- The sum of a text. -/
def md5L (l : List UInt8) : List UInt8 := md5Out (eat mMix (mfin (rest l) l.length) (eat mMix l mInit))
def sInit : S8 := ⟨0x6a09e667, 0xbb67ae85, 0x3c6ef372, 0xa54ff53a, 0x510e527f, 0x9b05688c, 0x1f83d9ab, 0x5be0cd19⟩
/-- The sum of a text. -/
def shaL (l : List UInt8) : List UInt8 := shaOut (eat sMix (sfin (rest l) l.length) (eat sMix l sInit))
theorem sha_any (a : Option Addr) (l : List UInt8) (cap : Nat) (w : World) (hcap : l.length ≤ cap) (hl : l.length ≤ 281474976710656) (hb : Bytes w a l) :
    Calls Tryz.prog 50 #[.slice a l.length cap] w fun e w' => ∃ v, e = .returned v ∧ Own w' w.heap.size v (shaL l) ∧ Below w.heap.size w w' := by
  have hblk : 64 ≤ l.length → ∀ ad, a = some ad → ad.block < w.heap.size := fun h => hb.blk (by omega)
  have hblk' : 0 < l.length → ∀ ad, a = some ad → ad.block < w.heap.size := fun h => hb.blk h
  go_enter Tryz.func50, Tryz.ntmps50
  go_wp2_with fail
  refine (newSHA_any _).mono ?_
  rintro e w1 ⟨rfl, rfl⟩
  have hst : Wds (w.alloc (.cells (wcs sInit.toL).toArray 175)) w.heap.size 175 sInit.toL := Wds.new w 175 sInit.toL
  have hb1 : Below w.heap.size w (w.alloc (.cells (wcs sInit.toL).toArray 175)) := (Below.refl _ _).alloc (Nat.le_refl _) _
  have HC : Hid _ := shaTake_any w.heap.size sInit a l cap _ hcap hl hst (hb.below hb1 (Nat.le_refl _)) (fun h ad e => by have := hblk h ad e; omega)
  clear hst
  go_wp2_with fail
  refine Calls.mono HC.out ?_
  rintro e w2 ⟨ra, rc, rfl, hr, hrb, hrc, hg2, hw2⟩
  have hr2 : Bytes w2 ra (rest l) := hr.grown hg2 (fun h ad e => by
    obtain ⟨ad0, e0, eb⟩ := hrb ad e
    have := hblk' (by rw [rest_length] at h; omega) ad0 e0
    omega)
  have hlr := rest_length l
  have hb2 : Below w.heap.size w w2 := hb1.trans (grown_below hg2 hb1.size (Nat.le_refl _))
  have HC2 : Hid _ := shaSum_any w.heap.size _ ra (rest l) rc l.length w2 (by omega) (by omega) hw2 hr2
  rw [hlr] at HC2
  have hs2 := hb2.size
  clear HC hr hrb hrc hg2 hw2 hr2 hlr hb1
  go_wp2_with fail
  refine Calls.mono HC2.out ?_
  rintro e w3 ⟨v, rfl, ho, hb3⟩
  have B3 : Below w.heap.size w w3 := hb2.trans (hb3.mono hs2)
  have HO : Hid _ := own_mono ho hs2
  clear ho hb3 HC2
  go_wp2
  go_ret
  exact ⟨_, rfl, HO.out, B3⟩
end Go.Proofs.YtnmffehmjgknkaaGreatDoor
/-
  (*Stream).Write by its contract.
-/
namespace Go.Proofs.YtnmffehmjgknkaaGreatDoor
open Go.RowKit

theorem bcs_take (r : List UInt8) (n : Nat) : bcs (r.take n) = (bcs r).take n := by simp [bcs, List.map_take]
/-- 'copy' into a block that is known whole, as a step of a region that draws. -/
theorem step_copy_in {ops : Array Oper} {o : Oper} {ac : Act} {w : World} {K : Act → World → Prop} {Q : Exit → Act → World → Prop} {E : Prop} (hgd : o.guard = none) (d s : Operand)
    (ho : o.op = .call { callee := .builtin .copy, args := #[d, s], argTypes := #[23, 23] }) (g off dLen dCap : Nat) (hd : ac.eval d = .slice (some ⟨g, off, none⟩) dLen dCap)
    (a : Option Addr) (r : List UInt8) (sLen cap : Nat) (hsl : r.length = sLen) (hs : ac.eval s = .slice a sLen cap) (hb : Bytes w a r) (cur : List Value) (t : TypeId) (hg : w.heap[g]? = some (.cells cur.toArray t (0, 0))) (hfit : off + (r.take dLen).length ≤ cur.length)
    (h : ∀ w', Hid (w'.heap[g]? = some (.cells (splice cur off (bcs (r.take dLen))).toArray t (0, 0))) → w.grownBy w' (some g) → K (ac.put o.dst (goInt (r.take dLen).length)) w') :
    if Region.wanted o (yielded ops ac.tmps) = true then Oper.wp Tryz.prog o ac w K Q else E := by
  subst hsl
  have hw : Region.wanted o (yielded ops ac.tmps) = true := by simp [Region.wanted, hgd]
  rw [if_pos hw]
  have hn : (bcs (r.take dLen)).length = Nat.min r.length dLen := by rw [bcs_length, List.length_take]; exact Nat.min_comm _ _
  by_cases h0 : (bcs (r.take dLen)).length = 0
  · have hrun := run_copy_none (P := Tryz.prog) w 23 23 o.type 5 (some ⟨g, off, none⟩) a dLen dCap r.length cap Tryz.underlying23 size5 (by rw [← hn]; exact h0)
    have e0 : (r.take dLen).length = 0 := by rw [bcs_length] at h0; exact h0
    have e1 : r.take dLen = [] := List.eq_nil_of_length_eq_zero e0
    unfold Oper.wp
    simp only [execOp, ho, resolve, invoke, builtin]
    have := h w (show _ = _ by rw [e1]; simpa [splice, bcs] using hg) (grown_refl _ _)
    rw [e1] at this
    simp [hd, hs, hrun, Result.andThen]
    exact this
  · have hl : 0 < r.length := by rw [bcs_length, List.length_take] at h0; omega
    obtain ⟨ad, rfl, hsrc⟩ := bytes_src hb hl
    have hsrc' : ∀ j v, (bcs (r.take dLen))[j]? = some v → w.cell? (ad.add j) = some v := by
      intro j v hv
      refine hsrc j v ?_
      rw [bcs_take, List.getElem?_take] at hv
      split at hv
      · exact hv
      · simp at hv
    have hrun := run_copy_row (P := Tryz.prog) w 23 23 o.type 5 g off dLen dCap ad r.length cap cur.toArray t (bcs (r.take dLen)) Tryz.underlying23 size5 hg hn hsrc' (by rw [bcs_length]; simpa using hfit) (bcs_one _)
    unfold Oper.wp
    have := h (w.setRow g (splice cur off (bcs (r.take dLen))).toArray) (setRow_heap w g _ _ t _ hg) ⟨rfl, rfl, rfl, by simp, fun k hk hne => setRow_other w g k _ (by intro e; subst e; exact hne rfl)⟩
    rw [← bcs_length (r.take dLen)] at this
    simp [execOp, ho, resolve, invoke, builtin, hd, hs, hrun, Result.andThen]
    exact this
theorem wpList_copy_in {ops : Array Oper} {rs : List Oper} {o : Oper} {ac : Act} {w : World} {Q : Exit → Act → World → Prop} (hgd : o.guard = none) (d s : Operand)
    (ho : o.op = .call { callee := .builtin .copy, args := #[d, s], argTypes := #[23, 23] }) (g off dLen dCap : Nat) (hd : ac.eval d = .slice (some ⟨g, off, none⟩) dLen dCap)
    (a : Option Addr) (r : List UInt8) (sLen cap : Nat) (hsl : r.length = sLen) (hs : ac.eval s = .slice a sLen cap) (hb : Bytes w a r) (cur : List Value) (t : TypeId) (hg : w.heap[g]? = some (.cells cur.toArray t (0, 0))) (hfit : off + (r.take dLen).length ≤ cur.length)
    (h : ∀ w', Hid (w'.heap[g]? = some (.cells (splice cur off (bcs (r.take dLen))).toArray t (0, 0))) → w.grownBy w' (some g) → wpList Tryz.prog ops Q rs (ac.put o.dst (goInt (r.take dLen).length)) w') :
    wpList Tryz.prog ops Q (o :: rs) ac w := by
  refine wpList_plain hgd fun K hK => ?_
  have := step_copy_in (ops := ops) (K := K) (Q := Q) (E := False) hgd d s ho g off dLen dCap hd a r sLen cap hsl hs hb cur t hg hfit (fun w' h1 h2 => hK _ _ (h w' h1 h2))
  have hw : Region.wanted o (yielded ops ac.tmps) = true := by simp [Region.wanted, hgd]
  rw [if_pos hw] at this
  exact this

/-- All but two blocks is as it was. -/
structure Kept2 (g k : Nat) (w w' : World) : Prop where
  os : w'.os = w.os
  tape : w'.tape = w.tape
  output : w'.output = w.output
  size : w.heap.size ≤ w'.heap.size
  block : ∀ i, i < w.heap.size → i ≠ g → i ≠ k → w'.heap[i]? = w.heap[i]?
theorem Kept2.trans {g k : Nat} {a b c : World} (h : Kept2 g k a b) (h' : Kept2 g k b c) : Kept2 g k a c :=
  ⟨h'.os.trans h.os, h'.tape.trans h.tape, h'.output.trans h.output, Nat.le_trans h.size h'.size, fun i hi h1 h2 => (h'.block i (Nat.lt_of_lt_of_le hi h.size) h1 h2).trans (h.block i hi h1 h2)⟩
theorem Kept2.of1 {g k : Nat} {a b : World} (h : a.grownBy b (some g)) : Kept2 g k a b := ⟨h.os, h.tape, h.output, h.size, fun i hi h1 _ => h.block i hi (by simpa using h1)⟩
theorem Kept2.of2 {g k : Nat} {a b : World} (h : a.grownBy b (some k)) : Kept2 g k a b := ⟨h.os, h.tape, h.output, h.size, fun i hi _ h2 => h.block i hi (by simpa using h2)⟩
theorem Kept2.below {g k B : Nat} {a b : World} (h : Kept2 g k a b) (hB : B ≤ a.heap.size) (hg : B ≤ g) (hk : B ≤ k) : Below B a b := ⟨h.os, h.tape, h.output, h.size, fun i hi => h.block i (by omega) (by omega) (by omega)⟩

theorem Bytes.same {w w' : World} {a : Option Addr} {l : List UInt8} (h : Bytes w a l) (e : w'.heap = w.heap) : Bytes w' a l := by
  rcases h with rfl | ⟨b, off, rfl, hb, hc⟩
  · exact .inl rfl
  · refine .inr ⟨b, off, rfl, by rw [e]; exact hb, fun j hj => ?_⟩
    rw [World.cell?_of_block (w := w) (by rw [e])]
    exact hc j hj
theorem eatN_app {σ : Type} (f : List UInt8 → σ → σ) : ∀ (n m : Nat) (l b : List UInt8) (s : σ), 64 * n ≤ l.length → eatN f (n + m) (l ++ b) s = eatN f m (l.drop (64 * n) ++ b) (eatN f n l s)
  | 0, m, l, b, s, _ => by simp [eatN]
  | n + 1, m, l, b, s, h => by
    rw [show n + 1 + m = (n + m) + 1 from by omega, eatN, eatN, List.drop_append_of_le_length (by omega), List.take_append_of_le_length (by omega), eatN_app f n m (l.drop 64) b _ (by rw [List.length_drop]; omega), List.drop_drop, show 64 + 64 * n = 64 * (n + 1) from by omega]
theorem eat_app {σ : Type} (f : List UInt8 → σ → σ) (l b : List UInt8) (s : σ) : eat f (l ++ b) s = eat f (rest l ++ b) (eat f l s) := by
  unfold eat
  rw [show (l ++ b).length / 64 = l.length / 64 + (rest l ++ b).length / 64 from by rw [List.length_append, List.length_append, rest_length]; omega, eatN_app f _ _ l b s (by omega), rest, Nat.mul_comm]
theorem rest_app (l b : List UInt8) : rest (l ++ b) = rest (rest l ++ b) := by
  have h1 : (l ++ b).length / 64 * 64 = l.length / 64 * 64 + (rest l ++ b).length / 64 * 64 := by rw [List.length_append, List.length_append, rest_length]; omega
  rw [rest, h1, ← List.drop_drop, List.drop_append_of_le_length (by omega)]
  rfl
theorem eat_short {σ : Type} (f : List UInt8 → σ → σ) (l : List UInt8) (s : σ) (h : l.length < 64) : eat f l s = s := by
  rw [eat, Nat.div_eq_of_lt h]; rfl
theorem rest_short (l : List UInt8) (h : l.length < 64) : rest l = l := by rw [rest, Nat.div_eq_of_lt h]; simp
theorem rest_full (l : List UInt8) (h : l.length = 64) : rest l = [] := by rw [rest, h]; exact List.drop_eq_nil_of_le (by omega)

def noughts (n : Nat) : List UInt8 := List.replicate n 0
end Go.Proofs.YtnmffehmjgknkaaGreatDoor
/-
  hash.HMAC by its contract.
-/
namespace Go.Proofs.YtnmffehmjgknkaaGreatDoor
open Go.RowKit

/-- 'append(out, xs...)', out the call's own, xs whatever slice of bytes (nil, too). -/
theorem wpList_append_bytes {w : World} {ops : Array Oper} {rest : List Oper} {o : Oper} {a : Act} {Q : Exit → Act → World → Prop} (hgd : o.guard = none) (s x : Operand)
    (ho : o.op = .call { callee := .builtin .append, args := #[s, x], argTypes := #[23, 23] })
    (base : Nat) (v : Value) (l : List UInt8) (hs : a.eval s = v) (hown : Own w base v l)
    (xa : Option Addr) (m : List UInt8) (c : Nat) (hx : a.eval x = .slice xa m.length c) (hm : Bytes w xa m) (hc : xa = none → c = 0) (hbytes : l.length + m.length ≤ 140737488355328) (hbase : base ≤ w.heap.size)
    (h : ∀ v' w', Own w' base v' (l ++ m) → w.grownBy w' v.ownBlock → wpList Tryz.prog ops Q rest (a.put o.dst v') w') : wpList Tryz.prog ops Q (o :: rest) a w := by
  obtain ⟨i0, hi, hz0, hz1, hz2⟩ := info_parts info5
  cases xa with
  | none =>
    obtain rfl : m = [] := by rcases hm with h | ⟨_, _, he, _⟩; exact h; simp at he
    obtain rfl := hc rfl
    refine wpList_append_own_none hgd s x 23 ho base 5 i0 1 Tryz.underlying23 hi v l.length (bcs l) hs hown hx ?_
    exact h v w (by rw [List.append_nil]; exact hown) (World.grownBy.refl _ _)
  | some ad =>
    refine wpList_append_own w hgd s x 23 ho base 5 i0 (.int .u8 0) 1 1 Tryz.underlying23 hi hz0 hz1 hz2 rfl (by decide) v l.length (bcs l) hs hown ad m.length c (bcs m) hx (by rw [bcs_length, Nat.mul_one]) ?_ (bcs_one _) (by unfold maxLen; omega) (by omega) hbase ?_
    · intro j u hj
      rcases hm with rfl | ⟨b, off, he, _, hcs⟩
      · simp [bcs] at hj
      · simp only [Option.some.injEq] at he
        subst he
        have hj' : j < m.length := by
          have := (List.getElem?_eq_some_iff.1 hj).1
          rwa [bcs_length] at this
        rw [Addr.add_lit, hcs j hj', ← hj, bcs_get hj']
    · intro v' w' h1 h2 _
      refine h v' w' ?_ h2
      unfold Own
      rw [List.length_append, bcs_append]
      exact h1
theorem Own.bytes' {w : World} {base : Nat} {v : Value} {l : List UInt8} (h : Own w base v l) : ∃ a cap, v = .slice a l.length cap ∧ Bytes w a l ∧ (a = none → cap = 0) ∧ l.length ≤ cap := by
  obtain ⟨a, cap, rfl, hb⟩ := h.bytes
  refine ⟨a, cap, rfl, hb, ?_, ?_⟩
  · rintro rfl
    rcases h.2 with ⟨h', _⟩ | ⟨g, c, cur, h', _⟩
    · simp only [Value.slice.injEq] at h'
      exact h'.2.2
    · simp at h'
  · rcases h.2 with ⟨h', h0⟩ | ⟨g, c, cur, h', _, _, hn, _⟩
    · omega
    · simp only [Value.slice.injEq] at h'
      omega


theorem xor_u8 (x m : UInt8) : bits .xor .u8 (x.toNat : Int) (m.toNat : Int) = ((x ^^^ m).toNat : Int) := by
  have h1 : ∀ y : UInt8, BitVec.ofInt 8 (y.toNat : Int) = y.toBitVec := fun y => by
    rw [BitVec.ofInt_natCast]
    exact BitVec.eq_of_toNat_eq (by have := y.toNat_lt; simp)
  show IntKind.u8.wrap ((BitVec.ofInt 8 (x.toNat : Int) ^^^ BitVec.ofInt 8 (m.toNat : Int)).toNat : Int) = _
  rw [h1, h1]
  have := (x ^^^ m).toNat_lt
  have e : (x.toBitVec ^^^ m.toBitVec).toNat = (x ^^^ m).toNat := rfl
  rw [e, IntKind.wrap_u8']
  omega
theorem index42 (K : List UInt8) (hK : K.length = 64) (k : Nat) (h : k < 64) (w : World) :
    (Instr.index 134 (.agg (bcs K).toArray) (.int .i64 (k : Int))).run Tryz.prog w = .ok (.int .u8 ((K.getD k 0).toNat : Int)) w := by
  obtain ⟨i3, h3, _, hz, _⟩ := info_parts info5
  have hk : k < K.length := by omega
  have hc := bcs_get hk
  have e : K.getD k 0 = K[k] := by simp [List.getD, hk]
  simp [Instr.index, asIntOf, run_underlying Tryz.underlying134, sizeOf, typeInfo, part, h3, hz, hc, h, hk]

theorem cell_one_new (w : World) (a : Value) (t : TypeId) : ∀ j u, [a][j]? = some u → (w.alloc (.cells #[a] t)).cell? ((⟨w.heap.size, 0, none⟩ : Addr).add j) = some u := by
  intro j u hj
  rw [Addr.add_lit, World.cell?_alloc_mark]
  simpa using hj
theorem one_one (a : Value) (h : a.oneCell' = true) : ∀ u ∈ [a], u.oneCell' = true := by
  intro u hu
  simp at hu
  subst hu
  exact h

/-- The key as a block. -/
def kbL (key : List UInt8) : List UInt8 := (if 64 < key.length then shaL key else key) ++ noughts (64 - (if 64 < key.length then shaL key else key).length)
theorem shaL_length (l : List UInt8) : (shaL l).length = 32 := rfl
theorem kbL_length (key : List UInt8) : (kbL key).length = 64 := by
  unfold kbL noughts
  split
  · rw [List.length_append, shaL_length, List.length_replicate]
  · rw [List.length_append, List.length_replicate]; omega

theorem splice_kb (x : List UInt8) (h : x.length ≤ 64) : splice (bcs (noughts 64)) 0 (bcs (x.take 64)) = bcs (x ++ noughts (64 - x.length)) := by
  rw [List.take_of_length_le h]
  exact splice_pad x 64 h
theorem noughts_length (n : Nat) : (noughts n).length = n := by simp [noughts]
theorem bcs_all (l : List UInt8) : (bcs l).toArray.all (·.oneCell') = true := by
  rw [Array.all_eq_true']
  intro u hu
  exact bcs_one l u (by simpa using hu)

theorem keyBlock_any (a : Option Addr) (key : List UInt8) (cap : Nat) (w : World) (hcap : key.length ≤ cap) (hl : key.length ≤ 281474976710656) (hb : Bytes w a key) :
    Calls Tryz.prog 107 #[.slice a key.length cap] w fun e w' => e = .returned (.agg (bcs (kbL key)).toArray) ∧ Below w.heap.size w w' := by
  have hz := fun w => (zero_of_info (P := Tryz.prog) (t := 134) (v := .agg (bcs (noughts 64)).toArray) (n := 64) (by kernel_rfl)).1 w
  have HB2 : Hid (Bytes ((w.alloc (.cells (bcs (noughts 64)).toArray 134)).alloc (.cells (bcs (noughts 64)).toArray 134)) a key) := hb.below (((Below.refl _ w).alloc (Nat.le_refl _) _).alloc (by simp) _) (Nat.le_refl _)
  have hB2 : Below w.heap.size w ((w.alloc (.cells (bcs (noughts 64)).toArray 134)).alloc (.cells (bcs (noughts 64)).toArray 134)) := ((Below.refl _ w).alloc (Nat.le_refl _) _).alloc (by simp) _
  have HE1 : Hid (((w.alloc (.cells (bcs (noughts 64)).toArray 134)).alloc (.cells (bcs (noughts 64)).toArray 134)).heap[w.heap.size + 1]? = some (.cells (bcs (noughts 64)).toArray 134 (0, 0))) := by
    have := heap_alloc_last (w.alloc (.cells (bcs (noughts 64)).toArray 134)) (.cells (bcs (noughts 64)).toArray 134)
    simpa [Hid] using this
  have HE0 : Hid (((w.alloc (.cells (bcs (noughts 64)).toArray 134)).alloc (.cells (bcs (noughts 64)).toArray 134)).heap[w.heap.size]? = some (.cells (bcs (noughts 64)).toArray 134 (0, 0))) := (Below.heap_alloc _ _ _ (by simp)).trans (heap_alloc_last w _)
  clear hb
  by_cases h64 : 64 < key.length
  · have HK : Hid (kbL key = shaL key ++ noughts (64 - (shaL key).length)) := by show _ = _; rw [kbL, if_pos h64]
    go_enter Tryz.func107, Tryz.ntmps107
    go_wp2_with fail
    refine (sha_any a key cap _ hcap hl HB2.out).mono ?_
    rintro e w2 ⟨v, rfl, ho, hb2⟩
    obtain ⟨x, c, rfl, hx⟩ := ho.bytes
    have hsz : w.heap.size + 1 < ((w.alloc (.cells (bcs (noughts 64)).toArray 134)).alloc (.cells (bcs (noughts 64)).toArray 134)).heap.size := by simp
    have HE1' : Hid (w2.heap[w.heap.size + 1]? = some (.cells (bcs (noughts 64)).toArray 134 (0, 0))) := (hb2.block _ hsz).trans HE1.out
    have HE0' : Hid (w2.heap[w.heap.size]? = some (.cells (bcs (noughts 64)).toArray 134 (0, 0))) := (hb2.block _ (by omega)).trans HE0.out
    have hB3 : Below w.heap.size w w2 := hB2.trans (hb2.mono hB2.size)
    have HX : Hid (Bytes w2 x (shaL key)) := hx
    have hsl := shaL_length key
    have HSL : Hid ((shaL key).length = 32) := hsl
    generalize hS : shaL key = sk at *
    clear ho hb2 hx hz HE1 HE0 hB2 HB2 hsz hS
    subst_vars
    go_wp2_with (first
      | (refine wpList_copy_in rfl _ _ rfl (w.heap.size + 1) 0 64 64 rfl x sk 32 c HSL.out rfl HX.out (bcs (noughts 64)) 134 HE1'.out (by rw [bcs_length, noughts_length, List.length_take]; omega) ?_; intro w3 hh3 hg3; have HR1 : Hid (w3.heap[w.heap.size + 1]? = some (.cells (bcs (kbL key)).toArray 134 (0, 0))) := (by have := hh3.out; rw [splice_kb _ (by rw [HSL.out]; decide), ← HK.out] at this; exact this); have HR0 : Hid (w3.heap[w.heap.size]? = some (.cells (bcs (noughts 64)).toArray 134 (0, 0))) := (hg3.block _ (Array.getElem?_eq_some_iff.1 HE0'.out).1 (by simp)).trans HE0'.out)
      | refine wpList_load_row rfl 134 _ rfl _ rfl 134 _ (0, 0) _ HR1.out Tryz.underlying134 rfl (by rw [size134, List.size_toArray, bcs_length, kbL_length]) ?_
      | refine wpList_store_row rfl 134 _ _ rfl _ _ rfl rfl 134 _ HR0.out (by rw [size134, List.size_toArray, bcs_length, kbL_length]) (by rw [List.size_toArray, List.size_toArray, bcs_length, bcs_length, kbL_length, noughts_length]) (bcs_all _) ?_)
    refine bodyPost_ret (results_cell_row rfl _ _ w.heap.size 134 _ (0, 0) _ rfl (setRow_heap _ _ _ _ _ _ HR0.out) Tryz.underlying134 rfl (by rw [size134, List.size_toArray, bcs_length, kbL_length])) rfl ?_
    exact ⟨rfl, (hB3.trans (grown_below hg3 hB3.size (by omega))).trans ⟨rfl, rfl, rfl, by simp, fun j hj => setRow_other _ _ _ _ (by omega)⟩⟩
  · have HK : Hid (kbL key = key ++ noughts (64 - key.length)) := by show _ = _; rw [kbL, if_neg h64]
    have HSL : Hid (key.length ≤ 64) := by show _ ≤ _; omega
    have hB3 := hB2
    have HZ : Hid (∀ w, (zeroValue 134).run Tryz.prog w = .ok (.agg (bcs (noughts 64)).toArray) w) := hz
    go_enter Tryz.func107, Tryz.ntmps107
    go_wp2_with (first
      | (refine wpList_copy_in rfl _ _ rfl (w.heap.size + 1) 0 64 64 rfl a key key.length cap rfl rfl HB2.out (bcs (noughts 64)) 134 HE1.out (by rw [bcs_length, noughts_length, List.length_take]; omega) ?_; intro w3 hh3 hg3; have HR1 : Hid (w3.heap[w.heap.size + 1]? = some (.cells (bcs (kbL key)).toArray 134 (0, 0))) := (by have := hh3.out; rw [splice_kb _ HSL.out, ← HK.out] at this; exact this); have HR0 : Hid (w3.heap[w.heap.size]? = some (.cells (bcs (noughts 64)).toArray 134 (0, 0))) := (hg3.block _ (Array.getElem?_eq_some_iff.1 HE0.out).1 (by simp)).trans HE0.out)
      | refine wpList_load_row rfl 134 _ rfl _ rfl 134 _ (0, 0) _ HR1.out Tryz.underlying134 rfl (by rw [size134, List.size_toArray, bcs_length, kbL_length]) ?_
      | refine wpList_store_row rfl 134 _ _ rfl _ _ rfl rfl 134 _ HR0.out (by rw [size134, List.size_toArray, bcs_length, kbL_length]) (by rw [List.size_toArray, List.size_toArray, bcs_length, bcs_length, kbL_length, noughts_length]) (bcs_all _) ?_)
    refine bodyPost_ret (results_cell_row rfl _ _ w.heap.size 134 _ (0, 0) _ rfl (setRow_heap _ _ _ _ _ _ HR0.out) Tryz.underlying134 rfl (by rw [size134, List.size_toArray, bcs_length, kbL_length])) rfl ?_
    exact ⟨rfl, (hB3.trans (grown_below hg3 hB3.size (by omega))).trans ⟨rfl, rfl, rfl, by simp, fun j hj => setRow_other _ _ _ _ (by omega)⟩⟩

/-- The key's bytes, bits of them turned. -/
def kx (K : List UInt8) (m : UInt8) : List UInt8 := K.map (· ^^^ m)
theorem kx_length (K : List UInt8) (m : UInt8) : (kx K m).length = K.length := by simp [kx]
theorem kx_snoc (K : List UInt8) (m : UInt8) {k : Nat} (h : k < K.length) : (kx K m).take (k + 1) = (kx K m).take k ++ [K.getD k 0 ^^^ m] := by
  have h' : k < (kx K m).length := by rw [kx_length]; exact h
  rw [List.take_succ_eq_append_getElem h']
  congr 2
  simp [kx, List.getD, h]

set_option maxHeartbeats 1000000 in
theorem keyedSum_any (K : List UInt8) (m : UInt8) (a : Option Addr) (b : List UInt8) (cap : Nat) (w : World) (hK : K.length = 64) (_hcap : b.length ≤ cap) (hn : a = none → cap = 0) (hl : b.length ≤ 140737488351232) (hb : Bytes w a b) :
    Calls Tryz.prog 108 #[.agg (bcs K).toArray, .int .u8 (m.toNat : Int), .slice a b.length cap] w fun e w' => ∃ v, e = .returned v ∧ Own w' w.heap.size v (shaL (kx K m ++ b)) ∧ Below w.heap.size w w' := by
  obtain ⟨i0, hi, hz0, hz1, hz2⟩ := info_parts info5
  have hb0 : Below w.heap.size w (w.alloc (.cells (bcs K).toArray 134)) := (Below.refl _ w).alloc (Nat.le_refl _) _
  have HE0 : Hid ((w.alloc (.cells (bcs K).toArray 134)).heap[w.heap.size]? = some (.cells (bcs K).toArray 134 (0, 0))) := heap_alloc_last w _
  have HK : Hid (K.length = 64) := hK
  have HI : Hid (∀ (k : Nat) (_ : k < 64) w, (Instr.index 134 (.agg (bcs K).toArray) (.int .i64 (k : Int))).run Tryz.prog w = .ok (.int .u8 ((K.getD k 0).toNat : Int)) w) := fun k h w => index42 K hK k h w
  have hcc : (64 : Int) + (b.length : Int) = ((64 + b.length : Nat) : Int) := by omega
  clear hK
  generalize hC : 64 + b.length = C at *
  have hm : i0.bytes * C ≤ 281474976710656 := by rw [hz2]; omega
  go_enter Tryz.func108, Tryz.ntmps108
  go_wp2_with (first
    | (at_make; refine wpList_make_own _ rfl _ _ 23 rfl w.heap.size 5 i0 (.int .u8 0) 1 Tryz.underlying23 hi hz0 hz1 _ _ _ C rfl rfl (by omega) hm (by unfold maxLen; omega) (by simp) ?_; intro w1 hown1 hgrow1; have HE1 : Hid (w1.heap[w.heap.size]? = some (.cells (bcs K).toArray 134 (0, 0))) := (hgrow1.block _ (by simp) (by simp)).trans HE0.out)
    | refine wpList_load_row rfl 134 _ rfl _ rfl 134 _ (0, 0) _ HE1.out Tryz.underlying134 rfl (by rw [size134, List.size_toArray, bcs_length, HK.out]) ?_)
  have hnx1 : Below w.heap.size w w1 := hb0.grown hgrow1 (by simp) (by simp)
  go_loopw [7, 15] (fun v i wr => ∃ k : Nat, k ≤ 64 ∧ i = .int .i64 k ∧ v = .slice (some ⟨w.heap.size + 1, 0, none⟩) k C ∧ wr.ownsRow w.heap.size 5 1 (.slice (some ⟨w.heap.size + 1, 0, none⟩) k C) k (bcs ((kx K m).take k)) ∧ Below w.heap.size w wr)
    (fun _ i _ => 64 - (intOf i).toNat)
  case atStart => exact ⟨0, by omega, rfl, rfl, by rw [World.size_alloc] at hown1; exact hown1, hnx1⟩
  case round =>
    clear hown1 hgrow1 HE1 hnx1 HE0 hb0
    obtain ⟨k, hk, rfl, rfl, hown, hnx⟩ := hrel
    have hsz := hnx.size
    by_cases hlt : k < 64
    · have hidx := HI.out k hlt
      have HO : Hid _ := kx_snoc K m (k := k) (by rw [HK.out]; exact hlt)
      generalize K.getD k 0 = x at *
      have hxm := xor_u8 x m
      generalize x ^^^ m = y at *
      have hlt' : (k : Int) < 64 := by omega
      go_wp2_with (at_builtin; refine wpList_append_fits _ rfl (.tmp 18) (.tmp 22) 23 rfl w.heap.size 5 i0 1 Tryz.underlying23 hi hz1 (w.heap.size + 1) k C _ rfl (hown.alloc _) ⟨wr.heap.size, 0, none⟩ 1 1 [.int .u8 (y.toNat : Int)] rfl rfl (cell_one_new _ _ _) (one_one _ rfl) (by omega) ?_; intro w2 hown2 hgrow2)
      go_roundw
      case rel =>
        refine ⟨k + 1, by omega, by go_num, rfl, ?_, ?_⟩
        · rw [HO.out, bcs_append]
          exact hown2
        · exact (hnx.alloc hsz _).grown hgrow2 (by simp; omega) (by intro j hj; simp at hj; omega)
      case measure => simp [intOf]; omega
    · obtain rfl : k = 64 := by omega
      rw [List.take_of_length_le (by rw [kx_length, HK.out]; exact Nat.le_refl _)] at hown
      have hO : Own wr w.heap.size (.slice (some ⟨w.heap.size + 1, 0, none⟩) 64 C) (kx K m) := by
        unfold Own
        rw [kx_length, HK.out]
        exact hown
      have HO : Hid (Own wr w.heap.size (.slice (some ⟨w.heap.size + 1, 0, none⟩) 64 C) (kx K m)) := hO
      have HB : Hid (Bytes wr a b) := hb.below hnx (Nat.le_refl _)
      clear hown hO hb
      go_wp2_with (at_builtin; refine wpList_append_bytes rfl _ _ rfl w.heap.size (.slice (some ⟨w.heap.size + 1, 0, none⟩) 64 C) (kx K m) rfl HO.out a b cap rfl HB.out hn (by rw [kx_length, HK.out]; omega) hsz ?_; intro v2 w2 ho2 hg2)
      have hB2 : Below w.heap.size w w2 := hnx.grown hg2 hsz (by intro j hj; have e : w.heap.size + 1 = j := (by simpa [Value.ownBlock] using hj); omega)
      obtain ⟨x2, c2, rfl, hx2, _, hc2⟩ := ho2.bytes'
      have hs2 := hB2.size
      have HC : Hid _ := sha_any x2 (kx K m ++ b) c2 w2 hc2 (by rw [List.length_append, kx_length, HK.out, hC]; omega) hx2
      clear ho2 hg2 hx2 hc2 HO HB
      refine Calls.mono HC.out ?_
      rintro e w3 ⟨v3, rfl, ho3, hb3⟩
      have HO3 : Hid (Own w3 w.heap.size v3 (shaL (kx K m ++ b))) := own_mono ho3 hs2
      have hB3 : Below w.heap.size w w3 := hB2.trans (hb3.mono hs2)
      clear HC ho3 hb3 hB2 hnx
      go_wp2
      go_ret
      exact ⟨_, rfl, HO3.out, hB3⟩

/-- The keyed sum. -/
def hmacL (key b : List UInt8) : List UInt8 := shaL (kx (kbL key) 92 ++ shaL (kx (kbL key) 54 ++ b))

theorem load42_row (w : World) (g : Nat) (K : List UInt8) (hK : K.length = 64) (h : w.heap[g]? = some (.cells (bcs K).toArray 134 (0, 0))) :
    (loadCellsFrom ⟨g, 0, none⟩ 0 64 #[]).run Tryz.prog w = .ok (bcs K).toArray w := by
  have := run_loadCells_list (P := Tryz.prog) w ⟨g, 0, none⟩ (bcs K) (fun j v hv => by
    rw [Addr.add_lit, Nat.zero_add, cell_of_row _ _ j _ 134 (0, 0) h]
    simpa using hv)
  rw [bcs_length, hK] at this
  simpa [loadCells] using this

theorem range_row (w : World) (g : Nat) (cs : List Value) (t : TypeId) (h : w.heap[g]? = some (.cells cs.toArray t (0, 0))) : w.rangeAt g 0 cs := by
  intro j v hv
  rw [Nat.zero_add, cell_of_row w g j _ t (0, 0) h]
  simpa using hv

set_option maxHeartbeats 4000000 in
set_option maxRecDepth 20000 in
theorem hmac_any (ka : Option Addr) (key : List UInt8) (kcap : Nat) (a : Option Addr) (b : List UInt8) (cap : Nat) (w : World) (hkc : key.length ≤ kcap) (hkl : key.length ≤ 281474976710656) (hkb : Bytes w ka key) (hcap : b.length ≤ cap) (hn : a = none → cap = 0) (hl : b.length ≤ 140737488351232) (hb : Bytes w a b) :
    Calls Tryz.prog 47 #[.slice ka key.length kcap, .slice a b.length cap] w fun e w' => ∃ v, e = .returned v ∧ Own w' w.heap.size v (hmacL key b) ∧ Below w.heap.size w w' := by
  go_enter Tryz.func47, Tryz.ntmps47
  go_wp2_with fail
  refine (keyBlock_any ka key kcap _ hkc hkl hkb).mono ?_
  rintro e w1 ⟨rfl, hb1⟩
  have hz := (zero_of_info (P := Tryz.prog) (t := 134) (v := .agg (bcs (noughts 64)).toArray) (n := 64) (by kernel_rfl)).1 w1
  have hnew : (w1.alloc (.cells (bcs (noughts 64)).toArray 134)).heap[w1.heap.size]? = some (.cells (bcs (noughts 64)).toArray 134 (0, 0)) := heap_alloc_last w1 _
  have HN : Hid _ := hnew
  clear hnew
  go_wp2_with (refine wpList_store_row rfl 134 _ _ rfl _ _ rfl rfl 134 _ HN.out (by rw [size134, List.size_toArray, bcs_length, kbL_length]) (by rw [List.size_toArray, List.size_toArray, bcs_length, bcs_length, kbL_length, noughts_length]) (bcs_all _) ?_)
  simp only [Act.put]
  clear hz
  have hT : ((w1.alloc (.cells (bcs (noughts 64)).toArray 134)).setRow w1.heap.size (bcs (kbL key)).toArray).heap[w1.heap.size]? = some (.cells (bcs (kbL key)).toArray 134 (0, 0)) := setRow_heap _ _ _ _ _ _ HN.out
  have hnx : Below w.heap.size w ((w1.alloc (.cells (bcs (noughts 64)).toArray 134)).setRow w1.heap.size (bcs (kbL key)).toArray) :=
    (hb1.alloc hb1.size _).trans ⟨rfl, rfl, rfl, by simp, fun j hj => setRow_other _ _ _ _ (by have := hb1.size; omega)⟩
  have hw1 := hb1.size
  have HT : Hid _ := hT
  have HKL : Hid ((kbL key).length = 64) := kbL_length key
  have HM : Hid (hmacL key b = shaL (kx (kbL key) 92 ++ shaL (kx (kbL key) 54 ++ b))) := rfl
  clear hT hb1 HN
  generalize (w1.alloc (.cells (bcs (noughts 64)).toArray 134)).setRow w1.heap.size (bcs (kbL key)).toArray = w2 at *
  generalize kbL key = K at *
  generalize w1.heap.size = kg at *
  have HB2 : Hid (Bytes w2 a b) := hb.below hnx (Nat.le_refl _)
  have HC1 : Hid _ := keyedSum_any K 54 a b cap w2.drew HKL.out hcap hn hl (Bytes.same HB2.out rfl)
  have L2 := load42_row w2.drew kg K HKL.out HT.out
  have hs2 := hnx.size
  clear hb hkb
  have hu42 := Tryz.underlying134
  have hs42 : (Tryz.prog.info? 134).map (·.size) = some (bcs K).length := by rw [size134, bcs_length, HKL.out]
  have r2 : w2.drew.rangeAt kg 0 (bcs K) := range_row w2.drew kg (bcs K) 134 HT.out
  refine wp_region_held_drew (S := fun w' => w'.rangeAt kg 0 (bcs K)) (by kernel_rfl) r2 (fun hHeld => ?_)
  refine wpAnyH_take (i := 0) (v := .agg (bcs K).toArray) rfl (by kernel_rfl) (by kernel_rfl) (by kernel_rfl) (fun _ _ _ h => h) (yieldsIf_load_mid (by rfl) 134 (.tmp 5) rfl kg 0 rfl (bcs K) _ (fun w h => h) hu42 rfl hs42) r2 ?_
  refine wpAnyH_take (i := 1) (v := .agg (bcs K).toArray) rfl (by kernel_rfl) (by kernel_rfl) (by kernel_rfl) (fun _ _ _ h => h) (yieldsIf_load_mid (by rfl) 134 (.tmp 5) rfl kg 0 rfl (bcs K) _ (fun w h => h) hu42 rfl hs42) r2 ?_
  refine wpAnyH_take (i := 2) (v := .slice a b.length cap) rfl (by kernel_rfl) (by kernel_rfl) (by kernel_rfl) (fun _ _ _ h => h) (Or.inl ⟨by rfl, fun w _ => by rfl⟩) r2 ?_
  simp only [Act.put, List.setIfInBounds_toArray]
  refine wpAnyH_ready (rs := [3]) (by kernel_rfl) (by simp) ?_
  refine AllReadyH.cons (o := _) rfl (fun K' hK' => ?_) AllReadyH.nil
  go_simp
  refine Calls.mono HC1.out ?_
  rintro e w3 ⟨v3, rfl, ho3, hb3⟩
  obtain ⟨x3, c3, rfl, hx3, hn3, hc3⟩ := ho3.bytes'
  have HT3 : Hid (w3.heap[kg]? = some (.cells (bcs K).toArray 134 (0, 0))) := (hb3.block _ (Array.getElem?_eq_some_iff.1 HT.out).1).trans HT.out
  have r3 : w3.rangeAt kg 0 (bcs K) := range_row w3 kg (bcs K) 134 HT3.out
  have HC2 : Hid _ := keyedSum_any K 92 x3 (shaL (kx K 54 ++ b)) c3 w3 HKL.out hc3 hn3 (by rw [shaL_length]; decide) hx3
  have HB3 : Hid (Below w.heap.size w w3) := hnx.drew.trans (hb3.mono hs2)
  clear HC1 ho3 hb3 hx3 hc3 hn3
  go_wp2_with fail
  refine hK'.out _ _ r3 (fun _ => ?_)
  clear hK' K'
  refine wpAnyH_ready (rs := [4]) (by kernel_rfl) (by simp) ?_
  refine AllReadyH.cons (o := _) rfl (fun K' hK' => ?_) AllReadyH.nil
  go_simp
  refine Calls.mono HC2.out ?_
  rintro e w4 ⟨v4, rfl, ho4, hb4⟩
  have r4 : w4.rangeAt kg 0 (bcs K) := range_row w4 kg (bcs K) 134 ((hb4.block _ (Array.getElem?_eq_some_iff.1 HT3.out).1).trans HT3.out)
  go_wp2_with fail
  refine hK'.out _ _ r4 (fun _ => ?_)
  clear hK' K'
  refine wpAnyH_take (i := 5) (v := v4) rfl (by kernel_rfl) (by kernel_rfl) (by kernel_rfl) (fun _ _ _ h => h) (Or.inl ⟨by rfl, fun w _ => by rfl⟩) r4 ?_
  refine wpAnyH_done (by kernel_rfl) ?_ _
  show Exit.then _ _ Exit.normal ⟨#[.slice ka key.length kcap, .slice a b.length cap, undef, undef, v4, .pointer (some ⟨kg, 0, none⟩), .slice ka key.length kcap, .agg (bcs K).toArray, .agg (bcs K).toArray, .agg (bcs K).toArray, .slice a b.length cap, .slice x3 (shaL (kx K 54 ++ b)).length c3, v4], []⟩ w4
  have HO4 : Hid (Own w4 w.heap.size v4 (hmacL key b)) := by
    show Own _ _ _ _
    rw [HM.out]
    exact own_mono ho4 HB3.out.size
  have hB4 : Below w.heap.size w w4 := HB3.out.trans (hb4.mono HB3.out.size)
  clear ho4 hb4 HB3 HT3 HC2 r3 r4
  go_wp2
  go_ret
  exact ⟨_, rfl, HO4.out, hB4⟩
end Go.Proofs.YtnmffehmjgknkaaGreatDoor

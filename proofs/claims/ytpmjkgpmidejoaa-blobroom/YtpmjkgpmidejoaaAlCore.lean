/-
  A space of units in memory: its size and its words, a bit a unit; asking and flipping one unit.
-/
import Derived.Test.YtpmjkgpmidejoaaProg
import Derived.Test.YtpmjkgpmidejoaaAlSeqs
import Derived.Laws.AppendOwnNone
import Derived.Laws.Bits64b
import Derived.Below
import Derived.WalkKit
import Derived.WalkSpells
import Derived.WalkLawsBesides
import Derived.OwnWalk
import Derived.Deep.QuietTactic
import Derived.BigQuiet
import Derived.Deep.RegionHeld3
import Derived.Laws.ResultCell
import Derived.BigRegion
import Derived.Shelf.Abstract
import Derived.Deep.CutRange
import Derived.Deep.CutBlock
import Derived.Deep.DeepCutAuto
import Derived.Deep.RegionWith
namespace Go.Proofs.Ytpmjkgpmidejoaa.Al
open Go.RowKit

theorem ret_bool {p q : Bool} (g : p = q) : Ending.returned (.bool p) = .returned (.bool q) := by rw [g]
theorem ret_int {k : IntKind} {a b : Int} (h : a = b) : Ending.returned (.int k a) = .returned (.int k b) := by rw [h]
theorem cell_blk {w : World} {g : Nat} {c : Array Value} {t : TypeId} (h : w.heap[g]? = some (.cells c t (0, 0))) (j : Nat) : w.cell? ⟨g, j, none⟩ = c[j]? := by simp [World.cell?, h]
theorem frozen_blk {w : World} {g : Nat} {c : Array Value} {t : TypeId} (h : w.heap[g]? = some (.cells c t (0, 0))) (j : Nat) : w.frozen? ⟨g, j, none⟩ = false := by
  simp only [World.frozen?, h]
  rw [Bool.and_eq_false_iff]
  right
  exact decide_eq_false (by omega)
theorem set_blk {w : World} {g : Nat} {c : Array Value} {t : TypeId} (h : w.heap[g]? = some (.cells c t (0, 0))) (j : Nat) (u : Value) : (w.setCell ⟨g, j, none⟩ u).heap[g]? = some (.cells (c.setIfInBounds j u) t (0, 0)) := by
  simp only [World.setCell, Array.getElem?_modify]
  rw [if_pos trivial, h]
  simp

/-- The cells of a space: its size, then its words. -/
def scells (n : Nat) (W : Nat → Nat) : List Value := .int .i64 (n : Int) :: (List.range 64).map fun q => .int .u64 (W q : Int)
theorem scells_len (n : Nat) (W : Nat → Nat) : (scells n W).length = 65 := by simp [scells]
theorem scells_word (n : Nat) (W : Nat → Nat) {q : Nat} (h : q < 64) : (scells n W)[1 + q]? = some (.int .u64 (W q : Int)) := by
  rw [Nat.add_comm, scells, List.getElem?_cons_succ]
  simp [h]
theorem scells_set (n : Nat) (W : Nat → Nat) {q : Nat} (h : q < 64) (x : Nat) : (scells n W).set (1 + q) (.int .u64 (x : Int)) = scells n (fun p => if p = q then x else W p) := by
  rw [Nat.add_comm, scells, scells, List.set_cons_succ]
  congr 1
  apply List.ext_getElem?
  intro i
  rw [List.getElem?_set]
  by_cases hi : i < 64
  · by_cases e : q = i
    · subst e; simp [h]
    · simp [e, hi, Ne.symm e]
  · simp [hi]
    omega
/-- A space in memory. -/
structure Spc (w : World) (b : Nat) (L : List Bool) : Prop where
  len : L.length ≤ 4096
  blk : ∃ W : Nat → Nat, (∀ q, W q < 18446744073709551616) ∧ w.heap[b]? = some (.cells (scells L.length W).toArray 129 (0, 0)) ∧ ∀ u (h : u < L.length), (W (u / 64)).testBit (u % 64) = L[u]
theorem Spc.lt {w : World} {b : Nat} {L : List Bool} (h : Spc w b L) : b < w.heap.size := by
  obtain ⟨_, W, _, hb, _⟩ := h
  exact (Array.getElem?_eq_some_iff.1 hb).1
theorem Spc.size {w : World} {b : Nat} {L : List Bool} (h : Spc w b L) : w.cell? ⟨b, 0, none⟩ = some (.int .i64 (L.length : Int)) := by
  obtain ⟨_, W, _, hb, _⟩ := h
  rw [cell_blk hb]
  simp [scells]
theorem Spc.kept {w w' : World} {b : Nat} {L : List Bool} (h : Spc w b L) (hk : w'.heap[b]? = w.heap[b]?) : Spc w' b L := by
  obtain ⟨hl, W, h1, hb, h2⟩ := h
  exact ⟨hl, W, h1, hk.trans hb, h2⟩
theorem Spc.below {w w' : World} {b : Nat} {L : List Bool} (h : Spc w b L) (hk : Below w.heap.size w w') : Spc w' b L := h.kept (hk.block _ h.lt)

theorem bit_of (x r : Nat) (hx : x < 18446744073709551616) (_hr : r < 64) : (bits .and .u64 ((x : Int) / 2 ^ r) 1 == 1) = x.testBit r := by
  have e0 : ((2 : Int) ^ r) = ((2 ^ r : Nat) : Int) := by rw [Int.natCast_pow]; rfl
  have e1 : (x : Int) / 2 ^ r = ((x / 2 ^ r : Nat) : Int) := by rw [e0]; rfl
  rw [e1, show (1 : Int) = ((1 : Nat) : Int) from rfl, bits_and_u64_nat _ _ (Nat.lt_of_le_of_lt (Nat.div_le_self _ _) hx) (by omega), Nat.and_one_is_mod, Nat.testBit_eq_decide_div_mod_eq]
  by_cases h : x / 2 ^ r % 2 = 1
  · rw [h]; simp
  · rw [decide_eq_false h]
    have : x / 2 ^ r % 2 = 0 := by omega
    rw [this]; rfl

theorem taken_any (w : World) (b : Nat) (L : List Bool) (u : Nat) (h : Spc w b L) (hu : u < L.length) :
    Calls Try.prog 83 #[.pointer (some ⟨b, 0, none⟩), .int .i64 (u : Int)] w fun e w' => e = .returned (.bool L[u]) ∧ w = w' := by
  obtain ⟨hl, W, h1, hb, h2⟩ := h
  obtain ⟨q, hq⟩ : ∃ q, q = u / 64 := ⟨_, rfl⟩
  obtain ⟨r, hr⟩ : ∃ r, r = u % 64 := ⟨_, rfl⟩
  have hq64 : q < 64 := by omega
  have hr64 : r < 64 := by omega
  have c1 : w.cell? ⟨b, 1 + q, none⟩ = some (.int .u64 (W q : Int)) := by rw [cell_blk hb]; simpa using scells_word L.length W hq64
  have hbit := h2 u hu
  rw [← hq, ← hr, ← bit_of _ _ (h1 q) hr64] at hbit
  rw [← hbit]
  have e1 : Int.tdiv (u : Int) 64 = (q : Int) := by rw [hq]; exact (Int.ofNat_tdiv u 64).symm
  have e2 : Int.tmod (u : Int) 64 = (r : Int) := by rw [hr]; exact (Int.ofNat_tmod u 64).symm
  obtain ⟨x, hx⟩ : ∃ x, x = W q := ⟨_, rfl⟩
  rw [← hx] at c1 ⊢
  clear hx hq hr hb h2 h1 hbit hu hl
  go_enter Try.func83, Try.ntmps83
  go_wp2
  go_ret
  exact ⟨rfl, rfl⟩

theorem bits_xor_u64_nat (a b : Nat) (ha : a < 18446744073709551616) (hb : b < 18446744073709551616) :
    bits .xor .u64 (a : Int) (b : Int) = ((a ^^^ b : Nat) : Int) := by
  have hx : a ^^^ b < 2 ^ 64 := Nat.xor_lt_two_pow (by omega) (by omega)
  have h1 : (BitVec.ofInt 64 (a : Int)).toNat = a := by
    rw [BitVec.ofInt_natCast, BitVec.toNat_ofNat]; exact Nat.mod_eq_of_lt (by omega)
  have h2 : (BitVec.ofInt 64 (b : Int)).toNat = b := by
    rw [BitVec.ofInt_natCast, BitVec.toNat_ofNat]; exact Nat.mod_eq_of_lt (by omega)
  show IntKind.u64.wrap ((BitVec.ofInt 64 (a : Int) ^^^ BitVec.ofInt 64 (b : Int)).toNat : Int) = _
  rw [BitVec.toNat_xor, h1, h2, IntKind.wrap_u64]
  omega

theorem flip_bit (W : Nat → Nat) (L : List Bool) (u : Nat) (hu : u < L.length) (h2 : ∀ v (h : v < L.length), (W (v / 64)).testBit (v % 64) = L[v]) :
    ∀ v (h : v < (L.set u (!L[u])).length), ((fun p => if p = u / 64 then W (u / 64) ^^^ 2 ^ (u % 64) else W p) (v / 64)).testBit (v % 64) = (L.set u (!L[u]))[v] := by
  intro v hv
  rw [List.length_set] at hv
  rw [List.getElem_set]
  dsimp only
  by_cases e : u = v
  · subst e
    rw [if_pos rfl, if_pos rfl, Nat.testBit_xor, h2 u hu, Nat.testBit_two_pow_self]
    simp
  · rw [if_neg e]
    by_cases e2 : v / 64 = u / 64
    · rw [if_pos e2, Nat.testBit_xor, ← e2, h2 v hv, Nat.testBit_two_pow, decide_eq_false (by omega)]
      simp
    · rw [if_neg e2, h2 v hv]
theorem flip_val (x r : Nat) (hx : x < 18446744073709551616) (hr : r < 64) : bits .xor .u64 (x : Int) (IntKind.u64.wrap (2 ^ r)) = ((x ^^^ 2 ^ r : Nat) : Int) ∧ x ^^^ 2 ^ r < 18446744073709551616 := by
  have e0 : ((2 : Int) ^ r) = ((2 ^ r : Nat) : Int) := by rw [Int.natCast_pow]; rfl
  have h2 : 2 ^ r < 2 ^ 64 := Nat.pow_lt_pow_right (by omega) hr
  have h3 : 2 ^ r < 18446744073709551616 := h2
  have e1 : IntKind.u64.wrap (2 ^ r) = ((2 ^ r : Nat) : Int) := by
    rw [e0]
    generalize 2 ^ r = y at h3
    rw [IntKind.wrap_u64]
    omega
  rw [e1]
  exact ⟨bits_xor_u64_nat _ _ hx h3, Nat.xor_lt_two_pow (n := 64) hx h2⟩

set_option maxRecDepth 20000 in
theorem flip_any (w : World) (b : Nat) (L : List Bool) (u : Nat) (h : Spc w b L) (hu : u < L.length) :
    Calls Try.prog 84 #[.pointer (some ⟨b, 0, none⟩), .int .i64 (u : Int)] w fun e w' => (∃ v, e = .returned v) ∧ Spc w' b (L.set u (!L[u])) ∧ Kep (fun k => k ≠ b) w w' ∧ w'.heap.size = w.heap.size := by
  obtain ⟨hl, W, h1, hb, h2⟩ := h
  obtain ⟨q, hq⟩ : ∃ q, q = u / 64 := ⟨_, rfl⟩
  obtain ⟨r, hr⟩ : ∃ r, r = u % 64 := ⟨_, rfl⟩
  have hq64 : q < 64 := by omega
  have hr64 : r < 64 := by omega
  have c1 : w.cell? ⟨b, 1 + q, none⟩ = some (.int .u64 (W q : Int)) := by rw [cell_blk hb]; simpa using scells_word L.length W hq64
  have e1 : Int.tdiv (u : Int) 64 = (q : Int) := by rw [hq]; exact (Int.ofNat_tdiv u 64).symm
  have e2 : Int.tmod (u : Int) 64 = (r : Int) := by rw [hr]; exact (Int.ofNat_tmod u 64).symm
  have hf : w.frozen? ⟨b, 1 + q, none⟩ = false := frozen_blk hb _
  obtain ⟨x, hx⟩ : ∃ x, x = W q := ⟨_, rfl⟩
  rw [← hx] at c1
  have HH : Hid (x = W q ∧ q = u / 64 ∧ r = u % 64) := ⟨hx, hq, hr⟩
  clear hx hq hr
  go_enter Try.func84, Try.ntmps84
  go_region
  go_end0
  obtain ⟨rfl, hq, hr⟩ := HH.out
  obtain ⟨v1, v2⟩ := flip_val (W q) r (h1 q) hr64
  rw [v1]
  refine ⟨⟨_, rfl⟩, ⟨by rw [List.length_set]; exact hl, fun p => if p = u / 64 then W (u / 64) ^^^ 2 ^ (u % 64) else W p, ?_, ?_, flip_bit W L u hu h2⟩, (Kep.set w _ (by simp)).trans (Kep.drew _ _), by simp [World.setCell]⟩
  · intro p
    dsimp only
    split
    · rw [← hq, ← hr]; exact v2
    · exact h1 p
  · show (w.setCell ⟨b, 1 + q, none⟩ _).heap[b]? = _
    rw [set_blk hb, List.length_set, List.setIfInBounds_toArray, scells_set _ _ hq64, ← hq, ← hr]

/-- k units from s on are of the kind t. -/
def allB (L : List Bool) (s k : Nat) (t : Bool) : Prop := ∀ i, i < k → L[s + i]? = some t
/-- k units from s on are made of the kind t. -/
def putB (L : List Bool) (s k : Nat) (t : Bool) : List Bool := L.take s ++ List.replicate k t ++ L.drop (s + k)
theorem putB_zero (L : List Bool) (s : Nat) (t : Bool) : putB L s 0 t = L := by simp [putB]
theorem putB_len {L : List Bool} {s k : Nat} (t : Bool) (h : s + k ≤ L.length) : (putB L s k t).length = L.length := by
  simp [putB]; omega
theorem putB_get {L : List Bool} {s k : Nat} (t : Bool) (h : s + k ≤ L.length) (i : Nat) : (putB L s k t)[i]? = if s ≤ i ∧ i < s + k then some t else L[i]? := by
  rw [putB, List.append_assoc, List.getElem?_append, List.length_take, Nat.min_eq_left (by omega)]
  by_cases h1 : i < s
  · rw [if_pos h1, if_neg (by omega), List.getElem?_take_of_lt h1]
  · rw [if_neg h1, List.getElem?_append, List.length_replicate]
    by_cases h2 : i < s + k
    · rw [if_pos (by omega), if_pos (by omega), List.getElem?_replicate, if_pos (by omega)]
    · rw [if_neg (by omega), if_neg (by omega), List.getElem?_drop]
      congr 1
      omega
theorem putB_step {L : List Bool} {s k : Nat} {t : Bool} (h : s + k < L.length) : (putB L s k t).set (s + k) t = putB L s (k + 1) t := by
  apply List.ext_getElem?
  intro i
  rw [List.getElem?_set, putB_get t (by omega), putB_get t (by omega), putB_len t (by omega)]
  by_cases e : s + k = i
  · subst e
    rw [if_pos rfl, if_pos h, if_pos (by omega)]
  · rw [if_neg e]
    by_cases h2 : s ≤ i ∧ i < s + k
    · rw [if_pos h2, if_pos (by omega)]
    · rw [if_neg h2, if_neg (by omega)]
/-- Whether a turn goes well. -/
def turnP (L : List Bool) (start k : Int) (t : Bool) : Prop := 0 ≤ start ∧ 1 ≤ k ∧ start + k ≤ (L.length : Int) ∧ allB L start.toNat k.toNat t
/-- What a turn leaves. -/
def turnB (L : List Bool) (start k : Int) (t : Bool) : Bool := decide (0 ≤ start) && decide (1 ≤ k) && decide (start + k ≤ (L.length : Int)) && (List.range k.toNat).all fun i => L[start.toNat + i]? == some t
theorem turnB_iff {L : List Bool} {start k : Int} {t : Bool} : turnB L start k t = true ↔ turnP L start k t := by
  simp [turnB, turnP, allB, and_assoc]
end Go.Proofs.Ytpmjkgpmidejoaa.Al

/-
  Lists of headers in memory; http.All and the document's All (out of the seat of stage 16).
-/
import Derived.Test.YtnmffehmjgknkaaGreatDoorRunA
namespace Go.Proofs.YtnmffehmjgknkaaGreatDoor
open Go.RowKit

abbrev Hd := List UInt8 × List UInt8
def allL (hs : List Hd) (n : List UInt8) : List (List UInt8) := (hs.filter fun h => h.1 = n).map (·.2)
def Strs (w : World) (a : Option Addr) (L : List ByteArray) : Prop :=
  L = [] ∨ ∃ b off, a = some ⟨b, off, none⟩ ∧ b < w.heap.size ∧ ∀ j (h : j < L.length), w.cell? ⟨b, off + j, none⟩ = some (.string L[j])
theorem Strs.below {w w' : World} {a : Option Addr} {L : List ByteArray} (h : Strs w a L) {B : Nat} (hb : Below B w w') (hB : w.heap.size ≤ B) : Strs w' a L := by
  rcases h with rfl | ⟨b, off, rfl, hb', hc⟩
  · exact .inl rfl
  · refine .inr ⟨b, off, rfl, by have := hb.size; omega, fun j hj => ?_⟩
    rw [hb.cell (p := ⟨b, off + j, none⟩) (by show b < B; omega)]
    exact hc j hj

def OwnS (w : World) (base : Nat) (v : Value) (L : List ByteArray) : Prop := w.ownsRow base 9 1 v L.length (L.map Value.string)
theorem OwnS.strs {w : World} {base : Nat} {v : Value} {L : List ByteArray} (h : OwnS w base v L) : ∃ a cap, v = .slice a L.length cap ∧ Strs w a L := by
  obtain ⟨hl, ⟨rfl, hn⟩ | ⟨g, cap, cur, rfl, hg, hh, hnc, hcm, hcs, htk⟩⟩ := h
  · exact ⟨none, 0, by rw [hn], .inl (List.eq_nil_of_length_eq_zero hn)⟩
  · refine ⟨_, cap, rfl, .inr ⟨g, 0, rfl, ?_, ?_⟩⟩
    · rcases Nat.lt_or_ge g w.heap.size with h | h
      · exact h
      · rw [Array.getElem?_eq_none h] at hh
        simp at hh
    · intro j hj
      have hown : w.ownsRow base 9 1 (.slice (some ⟨g, 0, none⟩) L.length cap) L.length (L.map Value.string) := ⟨hl, .inr ⟨g, cap, cur, rfl, hg, hh, hnc, hcm, hcs, htk⟩⟩
      have := hown.cellAt j (by omega)
      simp only [Nat.zero_add]
      rw [this]
      simp [List.getElem?_eq_getElem hj]
theorem ownS_more {w : World} {base : Nat} {v : Value} {L : List ByteArray} {x : ByteArray} (h : w.ownsRow base 9 1 v (L.length + 1) (L.map Value.string ++ [Value.string x])) : OwnS w base v (L ++ [x]) := by
  rw [OwnS, List.length_append, List.map_append]
  exact h

/-- A list of headers in memory. -/
def Hdrs (w : World) (a : Option Addr) (hs : List Hd) : Prop :=
  hs = [] ∨ ∃ b off, a = some ⟨b, off, none⟩ ∧ b < w.heap.size ∧ ∀ j (h : j < hs.length), w.cell? ⟨b, off + j * 2, none⟩ = some (.string ⟨hs[j].1.toArray⟩) ∧ w.cell? ⟨b, off + j * 2 + 1, none⟩ = some (.string ⟨hs[j].2.toArray⟩)
theorem Hdrs.below {w w' : World} {a : Option Addr} {hs : List Hd} (h : Hdrs w a hs) {B : Nat} (hb : Below B w w') (hB : w.heap.size ≤ B) : Hdrs w' a hs := by
  rcases h with h | ⟨b, off, h1, h2, h3⟩
  · exact .inl h
  · refine .inr ⟨b, off, h1, Nat.lt_of_lt_of_le h2 hb.size, fun j hj => ?_⟩
    have := h3 j hj
    exact ⟨(hb.cell (by show b < B; omega)).trans this.1, (hb.cell (by show b < B; omega)).trans this.2⟩
theorem str_beq (x y : List UInt8) : ((⟨x.toArray⟩ : ByteArray) == ⟨y.toArray⟩) = decide (x = y) := by
  show (x.toArray == y.toArray) = decide (x = y)
  rw [Bool.eq_iff_iff, beq_iff_eq, decide_eq_true_iff]
  exact ⟨fun h => by simpa using h, fun h => by rw [h]⟩
theorem all_no {hs : List Hd} {n : List UInt8} {k : Nat} (hk : k < hs.length) (h : hs[k].1 ≠ n) : allL (hs.take (k + 1)) n = allL (hs.take k) n := by
  rw [List.take_succ_eq_append_getElem hk, allL, allL, List.filter_append, List.map_append]
  simp [h]
theorem all_yes {hs : List Hd} {n : List UInt8} {k : Nat} (hk : k < hs.length) (h : hs[k].1 = n) : allL (hs.take (k + 1)) n = allL (hs.take k) n ++ [hs[k].2] := by
  rw [List.take_succ_eq_append_getElem hk, allL, allL, List.filter_append, List.map_append]
  simp [h]
theorem all_len (hs : List Hd) (n : List UInt8) : (allL hs n).length ≤ hs.length := by
  rw [allL, List.length_map]
  exact List.length_filter_le _ _
/-- Texts as they lie in memory. -/
def toB (L : List (List UInt8)) : List ByteArray := L.map fun x => ⟨x.toArray⟩

set_option maxRecDepth 20000 in
set_option maxHeartbeats 1000000 in
theorem all_any (a : Option Addr) (hs : List Hd) (cap : Nat) (n : List UInt8) (w : World) (hH : Hdrs w a hs) (hl : hs.length ≤ 1000000000) :
    Calls Tryz.prog 96 #[.slice a hs.length cap, .string ⟨n.toArray⟩] w fun e w' => ∃ v, e = .returned v ∧ OwnS w' w.heap.size v (toB (allL hs n)) ∧ Below w.heap.size w w' := by
  obtain ⟨i0, hi, hz0, hz1, hz2⟩ := info_parts info9
  have HH : Hid (Hdrs w a hs) := hH
  clear hH
  go_enter Tryz.func96, Tryz.ntmps96
  go_wp2
  go_loopw [5, 10] (fun v i wr => ∃ k : Nat, k ≤ hs.length ∧ i = .int .i64 k ∧ OwnS wr w.heap.size v (toB (allL (hs.take k) n)) ∧ Below w.heap.size w wr) (fun _ i _ => hs.length - (intOf i).toNat)
  case atStart => exact ⟨0, Nat.zero_le _, rfl, World.ownsRow_nil _ _ _ _, Below.refl _ _⟩
  case round =>
    obtain ⟨k, hk, rfl, hown, hb⟩ := hrel
    have hsz := hb.size
    by_cases hlt : k < hs.length
    · rcases HH.out.below hb (Nat.le_refl _) with hnil | ⟨b, off, rfl, hbs, hc⟩
      · rw [hnil] at hlt; simp at hlt
      · obtain ⟨c1, c2⟩ := hc k hlt
        obtain ⟨h, hh⟩ : ∃ h, h = hs[k] := ⟨_, rfl⟩
        rw [← hh] at c1 c2
        have hki : (k : Int) < (hs.length : Int) := by omega
        have hkk : (0 : Int) ≤ (k : Int) := by omega
        have hle : (allL (hs.take k) n).length ≤ k := Nat.le_trans (all_len _ _) (List.length_take_le _ _)
        by_cases he : h.1 = n
        · have HR : Hid (allL (hs.take (k + 1)) n = allL (hs.take k) n ++ [h.2]) := by show _ = _; rw [all_yes hlt (by rw [← hh]; exact he), hh]
          have heq : (h.1 == n) = true := by rw [he]; simp
          have HO : Hid (OwnS wr w.heap.size u5 (toB (allL (hs.take k) n))) := hown
          have hl2 : (toB (allL (hs.take k) n)).length ≤ k := by rw [toB, List.length_map]; exact hle
          clear he hh hc hown
          go_wp2_with (at_builtin; refine wpList_append_own _ rfl (.tmp 18) (.tmp 21) 26 rfl w.heap.size 9 i0 (.string ⟨#[]⟩) 1 16 Tryz.underlying26 hi hz0 hz1 hz2 rfl (by decide) _ _ _ rfl (World.ownsRow.alloc (World.ownsRow.alloc HO.out _) _) ⟨wr.heap.size + 1, 0, none⟩ 1 1 [.string ⟨h.2.toArray⟩] rfl rfl (by simpa using cell_one_new (wr.alloc _) _ _) (one_one _ rfl) (by unfold maxLen; omega) (by omega) (by simp; omega) ?_; intro v1 w1 hown1 hgrow1 _)
          have HN : Hid (OwnS w1 w.heap.size v1 (toB (allL (hs.take (k + 1)) n))) := by
            show OwnS _ _ _ _
            rw [HR.out, toB, List.map_append]
            exact ownS_more hown1
          have hB1 : Below w.heap.size w w1 := ((hb.alloc hsz _).alloc (by simp; omega) _).grown hgrow1 (by simp; omega) (fun j hj => (World.ownsRow.lt HO.out j hj).1)
          clear hown1 hgrow1
          go_wp2
          go_roundw
          case rel => exact ⟨k + 1, by omega, by go_num, HN.out, hB1⟩
          case measure => simp [intOf]; omega
        · have HR : Hid (allL (hs.take (k + 1)) n = allL (hs.take k) n) := by show _ = _; rw [all_no hlt (by rw [← hh]; exact he)]
          have heq : (h.1 == n) = false := by rw [beq_eq_false_iff_ne]; exact he
          have HO : Hid (OwnS wr w.heap.size u5 (toB (allL (hs.take k) n))) := hown
          clear he hh hc hown
          go_wp2
          go_roundw
          case rel => exact ⟨k + 1, by omega, by go_num, by rw [HR.out]; exact World.ownsRow.alloc HO.out _, hb.alloc hsz _⟩
          case measure => simp [intOf]; omega
    · obtain rfl : k = hs.length := by omega
      rw [List.take_length] at hown
      go_wp2
      go_ret
      exact ⟨_, rfl, hown, hb⟩
theorem toB_len (L : List (List UInt8)) : (toB L).length = L.length := by simp [toB]
set_option maxRecDepth 20000 in
set_option maxHeartbeats 1000000 in
theorem refAll_any (a : Option Addr) (hs : List Hd) (cap : Nat) (n : List UInt8) (w : World) (hH : Hdrs w a hs) (hl : hs.length ≤ 1000000000) :
    Calls Tryz.prog 43 #[.slice a hs.length cap, .string ⟨n.toArray⟩] w fun e w' => ∃ v, e = .returned v ∧ OwnS w' w.heap.size v (toB (allL hs n)) ∧ Below w.heap.size w w' := by
  obtain ⟨i0, hi, hz0, hz1, hz2⟩ := info_parts info9
  have HH : Hid (Hdrs w a hs) := hH
  clear hH
  go_enter Tryz.func43, Tryz.ntmps43
  go_wp2
  go_loopw [5, 6] (fun v i wr => ∃ k : Nat, k ≤ hs.length ∧ i = .int .i64 k ∧ OwnS wr w.heap.size v (toB (allL (hs.take k) n)) ∧ Below w.heap.size w wr) (fun _ i _ => hs.length - (intOf i).toNat)
  case atStart => exact ⟨0, Nat.zero_le _, rfl, World.ownsRow_nil _ _ _ _, Below.refl _ _⟩
  case round =>
    obtain ⟨k, hk, rfl, hown, hb⟩ := hrel
    have hsz := hb.size
    by_cases hlt : k < hs.length
    · rcases HH.out.below hb (Nat.le_refl _) with hnil | ⟨b, off, rfl, hbs, hc⟩
      · rw [hnil] at hlt; simp at hlt
      · obtain ⟨c1, c2⟩ := hc k hlt
        obtain ⟨h, hh⟩ : ∃ h, h = hs[k] := ⟨_, rfl⟩
        rw [← hh] at c1 c2
        have hki : (k : Int) < (hs.length : Int) := by omega
        have hkk : (0 : Int) ≤ (k : Int) := by omega
        have hle : (allL (hs.take k) n).length ≤ k := Nat.le_trans (all_len _ _) (List.length_take_le _ _)
        by_cases he : h.1 = n
        · have HR : Hid (allL (hs.take (k + 1)) n = allL (hs.take k) n ++ [h.2]) := by show _ = _; rw [all_yes hlt (by rw [← hh]; exact he), hh]
          have heq : (h.1 == n) = true := by rw [he]; simp
          have HO : Hid (OwnS wr w.heap.size u5 (toB (allL (hs.take k) n))) := hown
          have hl2 : (toB (allL (hs.take k) n)).length ≤ k := by rw [toB, List.length_map]; exact hle
          clear he hh hc hown
          go_wp2_with (at_builtin; refine wpList_append_own _ rfl (.tmp 20) (.tmp 26) 26 rfl w.heap.size 9 i0 (.string ⟨#[]⟩) 1 16 Tryz.underlying26 hi hz0 hz1 hz2 rfl (by decide) _ _ _ rfl (World.ownsRow.alloc HO.out _) ⟨wr.heap.size, 0, none⟩ 1 1 [.string ⟨h.2.toArray⟩] rfl rfl (cell_one_new _ _ _) (one_one _ rfl) (by unfold maxLen; omega) (by omega) (by simp; omega) ?_; intro v1 w1 hown1 hgrow1 _)
          have HN : Hid (OwnS w1 w.heap.size v1 (toB (allL (hs.take (k + 1)) n))) := by
            show OwnS _ _ _ _
            rw [HR.out, toB, List.map_append]
            exact ownS_more hown1
          have hB1 : Below w.heap.size w w1 := (hb.alloc hsz _).grown hgrow1 (by simp; omega) (fun j hj => (World.ownsRow.lt HO.out j hj).1)
          clear hown1 hgrow1
          go_wp2
          go_roundw
          case rel => exact ⟨k + 1, by omega, by go_num, HN.out, hB1⟩
          case measure => simp [intOf]; omega
        · have HR : Hid (allL (hs.take (k + 1)) n = allL (hs.take k) n) := by show _ = _; rw [all_no hlt (by rw [← hh]; exact he)]
          have heq : (h.1 == n) = false := by rw [beq_eq_false_iff_ne]; exact he
          have HO : Hid (OwnS wr w.heap.size u5 (toB (allL (hs.take k) n))) := hown
          clear he hh hc hown
          go_wp2
          go_roundw
          case rel => exact ⟨k + 1, by omega, by go_num, by rw [HR.out]; exact HO.out, hb⟩
          case measure => simp [intOf]; omega
    · obtain rfl : k = hs.length := by omega
      rw [List.take_length] at hown
      go_wp2
      go_ret
      exact ⟨_, rfl, hown, hb⟩
end Go.Proofs.YtnmffehmjgknkaaGreatDoor

/-
  The law's comparison of two lists of frames, where they are the same.
-/
import Derived.Test.YtllmjlobhjcbkaaLive
import Derived.Test.YtllmjlobhjcbkaaTexts
namespace Go.Proofs.Ytllmjlobhjcbkaa
open Go.RowKit

/-- A row of frames in memory. -/
def Rfs (w : World) (a : Option Addr) (LL : List (List ByteArray)) : Prop :=
  LL = [] ∨ ∃ b off, a = some ⟨b, off, none⟩ ∧ b < w.heap.size ∧ ∀ j (h : j < LL.length), ∃ x c, w.cell? ⟨b, off + j, none⟩ = some (.slice x LL[j].length c) ∧ Strs w x LL[j]
theorem Rfs.below {w w' : World} {a : Option Addr} {LL : List (List ByteArray)} (h : Rfs w a LL) (hb : Below w.heap.size w w') : Rfs w' a LL := by
  rcases h with rfl | ⟨b, off, rfl, hl, hc⟩
  · exact .inl rfl
  · refine .inr ⟨b, off, rfl, by have := hb.size; omega, fun j hj => ?_⟩
    obtain ⟨x, c, h1, h2⟩ := hc j hj
    exact ⟨x, c, (hb.cell (p := ⟨b, off + j, none⟩) hl).trans h1, h2.below hb (Nat.le_refl _)⟩
theorem Fms.rfs {w : World} {base : Nat} {v : Value} {LL : List (List ByteArray)} (h : Fms w base v LL) : ∃ a c, v = .slice a LL.length c ∧ Rfs w a LL := by
  obtain ⟨vs, h1, h0, h2⟩ := h
  by_cases hL : LL.length = 0
  · obtain ⟨a, c, e⟩ := owns_shape h1
    exact ⟨a, c, e, .inl (List.length_eq_zero_iff.1 hL)⟩
  · obtain ⟨g, cap, rfl, _, _, hlt⟩ := owns_head h1 (by omega)
    refine ⟨_, _, rfl, .inr ⟨g, 0, rfl, hlt, fun j hj => ?_⟩⟩
    obtain ⟨x, c, h3, h4, _⟩ := h2 j hj
    rw [Nat.zero_add]
    exact ⟨x, c, owns_cell h1 h3, h4⟩

set_option maxHeartbeats 2000000 in
set_option maxRecDepth 20000 in
theorem frames_same (a a' : Option Addr) (LL : List (List ByteArray)) (c c' : Nat) (w : World) (hl : LL.length ≤ 140737488351232) (hi : ∀ L ∈ LL, L.length ≤ 140737488351232) (h1 : Rfs w a LL) (h2 : Rfs w a' LL) :
    Calls Try.prog 17 #[.slice a LL.length c, .slice a' LL.length c'] w fun e w' => e = .returned (.bool true) ∧ Below w.heap.size w w' := by
  have H1 : Hid (Rfs w a LL) := h1
  have H2 : Hid (Rfs w a' LL) := h2
  have HI : Hid (∀ L ∈ LL, L.length ≤ 140737488351232) := hi
  clear h1 h2 hi
  go_enter Try.func17, Try.ntmps17
  go_wp2
  go_loopw [5] (fun i wr => ∃ k : Nat, k ≤ LL.length ∧ i = .int .i64 k ∧ Below w.heap.size w wr) (fun i _ => LL.length - (intOf i).toNat)
  case atStart => exact ⟨0, Nat.zero_le _, rfl, Below.refl _ _⟩
  case round =>
    obtain ⟨k, hk, rfl, hnx⟩ := hrel
    by_cases hlt : k < LL.length
    · obtain ⟨b, off, rfl, hbl, hcs⟩ := (H1.out.below hnx).resolve_left (by rintro rfl; simp at hlt)
      obtain ⟨b', off', rfl, hbl', hcs'⟩ := (H2.out.below hnx).resolve_left (by rintro rfl; simp at hlt)
      obtain ⟨x, cx, hcell, hx⟩ := hcs k hlt
      obtain ⟨y, cy, hcell', hy⟩ := hcs' k hlt
      have hlk : LL[k].length ≤ 140737488351232 := HI.out _ (List.getElem_mem hlt)
      have hst := sameTexts_any x y LL[k] LL[k] cx cy wr.drew hlk hlk hx hy
      rw [eqS_all rfl (fun _ _ _ => rfl)] at hst
      have k1 : (k : Int) < (LL.length : Int) := by omega
      have HN : Hid (Below w.heap.size w wr) := hnx
      obtain ⟨n, hn⟩ : ∃ n, n = LL[k].length := ⟨_, rfl⟩
      rw [← hn] at hcell hcell' hst
      clear hcs hcs' hx hy hnx hn hlk H1 H2
      go_wp2
      go_region_with (go_at_call 34; refine Calls.mono hst ?_; rintro e w5 ⟨rfl, hb5⟩)
      all_goals
        (go_wp2
         go_roundw
         case rel => exact ⟨k + 1, by omega, by go_num, HN.out.drew.trans (hb5.mono HN.out.size)⟩
         case measure => simp [intOf]; omega)
    · obtain rfl : k = LL.length := by omega
      go_wp2
      go_ret
      exact ⟨rfl, hnx⟩
end Go.Proofs.Ytllmjlobhjcbkaa

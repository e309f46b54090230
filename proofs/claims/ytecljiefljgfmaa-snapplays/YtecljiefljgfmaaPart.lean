/-
  The document's Part by its contract: a sector's bytes, noughts behind them.
-/
import Derived.Test.YtecljiefljgfmaaSWrite
namespace Go.Proofs.Ytecljiefljgfmaa
open Go.RowKit

theorem padTo_get {b : List UInt8} {i j : Nat} (hi : 256 * i < b.length) (hj : j < 256) : ∃ h : j < (fsec (padTo b) i).length, (fsec (padTo b) i)[j] = b.getD (256 * i + j) 0 := by
  have hl : (fsec (padTo b) i).length = 256 := fsec_length (padTo_length b) (by unfold sect; omega)
  refine ⟨by omega, ?_⟩
  simp only [fsec, List.getElem_take, List.getElem_drop, padTo]
  by_cases h : 256 * i + j < b.length
  · rw [List.getElem_append_left h, List.getD_eq_getElem?_getD, List.getElem?_eq_getElem h]; rfl
  · rw [List.getElem_append_right (by omega), List.getD_eq_getElem?_getD, List.getElem?_eq_none (by omega)]
    simp

set_option maxHeartbeats 2000000 in
set_option maxRecDepth 20000 in
theorem part_any (a : Option Addr) (b : List UInt8) (cap i : Nat) (w : World) (hb : Bytes w a b) (hi : 256 * i < b.length) (hl : b.length ≤ 100000000) :
    Calls Try.prog 51 #[.slice a b.length cap, .int .i64 (i : Int)] w fun e w' => e = .returned (.string (fsecB (padTo b) i)) ∧ Below w.heap.size w w' := by
  obtain ⟨q, hq⟩ : ∃ q, q = 256 * i := ⟨_, rfl⟩
  have hq2 : (256 : Int) * (i : Int) = (q : Int) := by omega
  have hfl : (fsec (padTo b) i).length = 256 := fsec_length (padTo_length b) (by unfold sect; omega)
  have HG : Hid (∀ j (hj : j < 256), (fsec (padTo b) i).take (j + 1) = (fsec (padTo b) i).take j ++ [b.getD (q + j) 0]) := (by
    intro j hj
    obtain ⟨h1, h2⟩ := padTo_get hi hj
    rw [List.take_succ_eq_append_getElem h1, h2, hq])
  have HB : Hid (Bytes w a b) := hb
  have HFL : Hid ((fsec (padTo b) i).length = 256) := hfl
  obtain ⟨X, hX⟩ : ∃ X, X = fsec (padTo b) i := ⟨_, rfl⟩
  rw [show fsecB (padTo b) i = ⟨X.toArray⟩ from by rw [hX]; rfl]
  rw [← hX] at HG HFL
  have hqb : q < b.length := by omega
  clear hb hi hq hfl hX
  go_enter Try.func51, Try.ntmps51
  go_wp2
  go_loopw [5, 6] (fun v kv wr => ∃ j : Nat, j ≤ 256 ∧ kv = .int .i64 ((q + j : Nat) : Int) ∧ Own wr w.heap.size v (X.take j) ∧ Below w.heap.size w wr) (fun _ kv _ => q + 256 - (intOf kv).toNat)
  case atStart => exact ⟨0, by omega, rfl, by rw [List.take_zero]; exact World.ownsRow_nil _ _ _ _, Below.refl _ _⟩
  case round =>
    obtain ⟨j, hj, rfl, hown, hbw⟩ := hrel
    have hlen : (X.take j).length = j := by rw [List.length_take, HFL.out]; omega
    by_cases hlt : j < 256
    · have hg := HG.out j hlt
      obtain ⟨t, ht⟩ : ∃ t, t = q + j := ⟨_, rfl⟩
      rw [← ht] at hg ⊢
      have ht1 : (t : Int) < (q : Int) + 256 := by omega
      have ht2 : t ≤ 100000256 := by omega
      have HT : Hid (t = q + j) := ht
      by_cases htb : t < b.length
      · have htbi : (t : Int) < (b.length : Int) := by omega
        obtain ⟨bb, off, rfl, hbl, hcs⟩ : ∃ bb off, a = some ⟨bb, off, none⟩ ∧ bb < w.heap.size ∧ w.cell? ⟨bb, off + t, none⟩ = some (.int .u8 ((b.getD t 0).toNat : Int)) := by
          rcases HB.out with h0 | ⟨b', off', e, h1, h2⟩
          · rw [h0] at htb; simp at htb
          · refine ⟨b', off', e, h1, ?_⟩
            rw [h2 t htb, List.getD_eq_getElem?_getD, List.getElem?_eq_getElem htb]; rfl
        have hcell : wr.cell? ⟨bb, off + t, none⟩ = some (.int .u8 ((b.getD t 0).toNat : Int)) := (hbw.cell (p := ⟨bb, off + t, none⟩) hbl).trans hcs
        obtain ⟨c, hc⟩ : ∃ c, c = b.getD t 0 := ⟨_, rfl⟩
        rw [← hc] at hcell hg
        have hbA : Below wr.heap.size wr (wr.alloc (.cells #[.int .u8 (c.toNat : Int)] 5)) := (Below.refl _ _).alloc (Nat.le_refl _) _
        have hoA : Own (wr.alloc (.cells #[.int .u8 (c.toNat : Int)] 5)) w.heap.size u5 (X.take j) := keeps_below (w := wr) hbA _ _ _ _ _ _ hown
        have hbyA : Bytes (wr.alloc (.cells #[.int .u8 (c.toNat : Int)] 5)) (some ⟨wr.heap.size, 0, none⟩) [c] := bytes_row (by simpa [bcs] using heap_alloc_new wr (.cells #[.int .u8 (c.toNat : Int)] 5))
        have hBA : Below w.heap.size w (wr.alloc (.cells #[.int .u8 (c.toNat : Int)] 5)) := hbw.trans (hbA.mono hbw.size)
        have HOA : Hid (Own (wr.alloc (.cells #[.int .u8 (c.toNat : Int)] 5)) w.heap.size u5 (X.take j) ∧ Bytes (wr.alloc (.cells #[.int .u8 (c.toNat : Int)] 5)) (some ⟨wr.heap.size, 0, none⟩) [c] ∧ Below w.heap.size w (wr.alloc (.cells #[.int .u8 (c.toNat : Int)] 5)) ∧ ∀ z, u5.ownBlock = some z → w.heap.size ≤ z) := ⟨hoA, hbyA, hBA, fun z hz => (owns_lt hown z hz).1⟩
        have HGG : Hid (X.take (j + 1) = X.take j ++ [c]) := hg
        clear hown hbw hbA hoA hbyA hBA hcs hc hg ht
        go_wp2_with (at_builtin; refine wpList_append_bytes rfl (.tmp 20) (.tmp 25) rfl w.heap.size _ (X.take j) rfl HOA.out.1 (some ⟨wr.heap.size, 0, none⟩) [c] 1 rfl HOA.out.2.1 (fun h => by cases h) (by rw [hlen]; simp; omega) HOA.out.2.2.1.size ?_; intro v3 w3 ho3 hg3)
        go_roundw
        case rel => exact ⟨j + 1, by omega, by rw [← Nat.add_assoc, ← HT.out]; go_num, by rw [HGG.out]; exact ho3, HOA.out.2.2.1.grown hg3 HOA.out.2.2.1.size HOA.out.2.2.2⟩
        case measure => have := HT.out; simp [intOf]; omega
      · have htbi : ¬ (t : Int) < (b.length : Int) := by omega
        rw [List.getD_eq_getElem?_getD, List.getElem?_eq_none (by omega)] at hg
        have hbA : Below wr.heap.size wr (wr.alloc (.cells #[.int .u8 0] 5)) := (Below.refl _ _).alloc (Nat.le_refl _) _
        have hoA : Own (wr.alloc (.cells #[.int .u8 0] 5)) w.heap.size u5 (X.take j) := keeps_below (w := wr) hbA _ _ _ _ _ _ hown
        have hbyA : Bytes (wr.alloc (.cells #[.int .u8 0] 5)) (some ⟨wr.heap.size, 0, none⟩) [0] := bytes_row (by simpa [bcs] using heap_alloc_new wr (.cells #[.int .u8 0] 5))
        have hBA : Below w.heap.size w (wr.alloc (.cells #[.int .u8 0] 5)) := hbw.trans (hbA.mono hbw.size)
        have HOA : Hid (Own (wr.alloc (.cells #[.int .u8 0] 5)) w.heap.size u5 (X.take j) ∧ Bytes (wr.alloc (.cells #[.int .u8 0] 5)) (some ⟨wr.heap.size, 0, none⟩) [0] ∧ Below w.heap.size w (wr.alloc (.cells #[.int .u8 0] 5)) ∧ ∀ z, u5.ownBlock = some z → w.heap.size ≤ z) := ⟨hoA, hbyA, hBA, fun z hz => (owns_lt hown z hz).1⟩
        have HGG : Hid (X.take (j + 1) = X.take j ++ [0]) := hg
        clear hown hbw hbA hoA hbyA hBA hg ht
        go_wp2_with (at_builtin; refine wpList_append_bytes rfl (.tmp 27) (.tmp 28) rfl w.heap.size _ (X.take j) rfl HOA.out.1 (some ⟨wr.heap.size, 0, none⟩) [0] 1 rfl HOA.out.2.1 (fun h => by cases h) (by rw [hlen]; simp; omega) HOA.out.2.2.1.size ?_; intro v3 w3 ho3 hg3)
        go_roundw
        case rel => exact ⟨j + 1, by omega, by rw [← Nat.add_assoc, ← HT.out]; go_num, by rw [HGG.out]; exact ho3, HOA.out.2.2.1.grown hg3 HOA.out.2.2.1.size HOA.out.2.2.2⟩
        case measure => have := HT.out; simp [intOf]; omega
    · obtain rfl : j = 256 := by omega
      rw [List.take_of_length_le (by rw [HFL.out]; exact Nat.le_refl _)] at hown
      obtain ⟨ao, co, rfl, hby, _⟩ := hown.open
      have hcv := convert_bytes wr ao co X hby
      rw [HFL.out] at hcv ⊢
      obtain ⟨t, ht⟩ : ∃ t, t = q + 256 := ⟨_, rfl⟩
      rw [← ht]
      have ht1 : ¬ (t : Int) < (q : Int) + 256 := by omega
      clear hown hby ht
      go_wp2
      go_ret
      exact ⟨rfl, hbw⟩
end Go.Proofs.Ytecljiefljgfmaa

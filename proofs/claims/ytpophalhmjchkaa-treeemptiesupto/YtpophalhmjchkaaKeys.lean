/-
  The keys of a node.
-/
import Derived.Test.YtpophalhmjchkaaRefW
namespace Go.Proofs.Ytpophalhmjchkaa
open Go.RowKit

theorem text_sl {w : World} (k : ByteArray) : Sl (w.alloc (.cells #[.string k] 9)) 1 (some ⟨w.heap.size, 0, none⟩) 1 1 (scs [k]) := by
  have hblk := heap_alloc_new w (.cells #[.string k] 9)
  refine ⟨.inr ⟨_, 0, rfl, (Array.getElem?_eq_some_iff.1 hblk).1, fun j hj => ?_⟩, rfl, Nat.le_refl _, (by intro e; cases e), (by intro x e; cases e; rfl), scs_one _, (by intro _ x e h; cases h), Av.none _⟩
  have hj2 : j < 1 := hj
  rw [Nat.zero_add, cell_blk hblk j]
  match j, hj2 with
  | 0, _ => rfl

set_option maxHeartbeats 4000000 in
set_option maxRecDepth 20000 in
theorem lkeys_any (b : Nat) (ps : List KV) (w : World) (h : Lf w b ps) (hn : ps.length ≤ 100) :
    Calls Try.prog 79 #[.pointer (some ⟨b, 0, none⟩)] w fun e w' => ∃ u, e = .returned u ∧ w'.ownsRow w.heap.size 9 1 u ps.length (scs (keysP ps)) ∧ Below w.heap.size w w' := by
  obtain ⟨i0, hi, hz0, hz1, hz2⟩ := info_parts info9
  obtain ⟨a, c, q1, q2⟩ := h
  have q2 : Sl w 2 a ps.length c (pcs ps) := q2
  have k0 : w.cell? ⟨b, 0, none⟩ = some (.slice a ps.length c) := cell_blk q1 0
  obtain ⟨n, hnl⟩ : ∃ n, n = ps.length := ⟨_, rfl⟩
  have HA : Hid (∀ i, i < n → ∃ b off, a = some ⟨b, off, none⟩ ∧ ∃ x y, (∀ w1, Below w.heap.size w w1 → w1.cell? ⟨b, off + i * 2, none⟩ = some (.string x) ∧ w1.cell? ⟨b, off + i * 2 + 1, none⟩ = some (.string y)) ∧ scs ((keysP ps).take (i + 1)) = scs ((keysP ps).take i) ++ scs [x]) := (by
    intro i hi
    obtain ⟨b, off, rfl, hbl, hc⟩ := q2.at (j := i * 2) (by rw [pcs_len]; omega)
    refine ⟨b, off, rfl, ps[i].1, ps[i].2, fun w1 hb1 => ⟨?_, ?_⟩, ?_⟩
    · have := (hb1.cell (p := ⟨b, off + i * 2, none⟩) hbl).trans (hc (i * 2) (by rw [pcs_len]; omega))
      rw [this]
      have e := (pcs_get (ps := ps) (j := i) (by omega)).1
      rw [List.getElem?_eq_getElem (by rw [pcs_len]; omega)] at e
      exact e
    · have := (hb1.cell (p := ⟨b, off + (i * 2 + 1), none⟩) hbl).trans (hc (i * 2 + 1) (by rw [pcs_len]; omega))
      rw [← Nat.add_assoc] at this
      rw [this]
      have e := (pcs_get (ps := ps) (j := i) (by omega)).2
      rw [List.getElem?_eq_getElem (by rw [pcs_len]; omega)] at e
      exact e
    · rw [List.take_succ_eq_append_getElem (by simp [keysP]; omega), scs_app]
      simp [keysP])
  have HT : Hid ((keysP ps).take n = keysP ps) := List.take_of_length_le (by rw [hnl]; simp [keysP])
  rw [← hnl] at k0 hn ⊢
  clear q1 q2 hnl
  go_enter Try.func79, Try.ntmps79
  go_wp2
  go_loopw [3, 11] (fun u i wr => ∃ j : Nat, j ≤ n ∧ i = .int .i64 j ∧ wr.ownsRow w.heap.size 9 1 u j (scs ((keysP ps).take j)) ∧ Below w.heap.size w wr) (fun _ i _ => n - (intOf i).toNat)
  case atStart => exact ⟨0, Nat.zero_le _, rfl, World.ownsRow_nil _ _ _ _, Below.refl _ _⟩
  case round =>
    obtain ⟨j, hj, rfl, hown, hbw⟩ := hrel
    by_cases hjn : j < n
    · obtain ⟨b2, off, rfl, x, y, hxy, htk⟩ := HA.out j hjn
      obtain ⟨d0, d1⟩ := hxy wr hbw
      have hji : (j : Int) < (n : Int) := by omega
      have HTK : Hid (scs ((keysP ps).take (j + 1)) = scs ((keysP ps).take j) ++ scs [x]) := htk
      have HOB : Hid (∀ g, u3.ownBlock = some g → w.heap.size ≤ g) := fun g hg => (owns_lt hown g hg).1
      have hA1 : Below w.heap.size w (wr.alloc (.cells #[.string x, .string y] 79)) := hbw.alloc hbw.size _
      have hA2 : Below w.heap.size w ((wr.alloc (.cells #[.string x, .string y] 79)).alloc (.cells #[.string x] 9)) := hA1.alloc hA1.size _
      have hown2 : ((wr.alloc (.cells #[.string x, .string y] 79)).alloc (.cells #[.string x] 9)).ownsRow w.heap.size 9 1 u3 j (scs ((keysP ps).take j)) := World.ownsRow.alloc (World.ownsRow.alloc hown _) _
      have hsl : Sl ((wr.alloc (.cells #[.string x, .string y] 79)).alloc (.cells #[.string x] 9)) 1 (some ⟨wr.heap.size + 1, 0, none⟩) 1 1 (scs [x]) := by
        have := text_sl (w := wr.alloc (.cells #[.string x, .string y] 79)) x
        rw [show (wr.alloc (.cells #[.string x, .string y] 79)).heap.size = wr.heap.size + 1 from by simp] at this
        exact this
      have hsz := hA2.size
      have HA2 : Hid (Below w.heap.size w ((wr.alloc (.cells #[.string x, .string y] 79)).alloc (.cells #[.string x] 9))) := hA2
      clear hxy htk HA HT hA1 hA2 hown hbw
      go_wp2_with (at_builtin; refine wpList_append_sl rfl (.tmp 15) (.tmp 18) 23 rfl w.heap.size 9 i0 (.string ⟨#[]⟩) 1 16 Try.underlying23 hi hz0 hz1 hz2 rfl (by decide) (by decide) _ j (scs ((keysP ps).take j)) rfl hown2 (some ⟨wr.heap.size + 1, 0, none⟩) 1 1 (scs [x]) rfl hsl (by omega) hsz ?_; intro v2 w2 ho2 hg2)
      go_roundw
      case rel => exact ⟨j + 1, by omega, by go_num, by rw [HTK.out]; exact ho2, HA2.out.grown hg2 hsz HOB.out⟩
      case measure => simp [intOf]; omega
    · have HJ : Hid (j = n) := (show j = n by omega)
      have hji : ¬ ((j : Int) < (n : Int)) := by omega
      clear HA
      go_wp2
      go_ret
      exact ⟨_, rfl, by rw [← HT.out, ← HJ.out]; exact hown, hbw⟩

set_option maxHeartbeats 4000000 in
set_option maxRecDepth 20000 in
theorem ikeys_any {R : Value → T → Prop} (b : Nat) (bs : List ByteArray) (cs : List T) (w : World) (h : InB' w R b bs cs) (hn : bs.length ≤ 1000) :
    Calls Try.prog 80 #[.pointer (some ⟨b, 0, none⟩)] w fun e w' => ∃ u, e = .returned u ∧ w'.ownsRow w.heap.size 9 1 u bs.length (scs bs) ∧ Below w.heap.size w w' := by
  obtain ⟨a1, c1, a2, c2, vs, h1, h2, _⟩ := h
  have h2 : Sl w 1 a1 bs.length c1 (scs bs) := h2
  have k0 : w.cell? ⟨b, 0, none⟩ = some (.slice a1 bs.length c1) := cell_blk h1 0
  have hc := cloneS a1 bs.length c1 (scs bs) w h2 (by omega)
  clear h1 h2 hn
  go_enter Try.func80, Try.ntmps80
  go_wp2_with (go_at_call 62; refine Calls.mono hc ?_; rintro e w2 ⟨u, rfl, ho, hb⟩)
  go_ret
  exact ⟨u, rfl, ho, hb⟩
end Go.Proofs.Ytpophalhmjchkaa

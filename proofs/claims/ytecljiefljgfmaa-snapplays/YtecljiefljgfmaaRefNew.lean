/-
  The document's New and Copy by their contracts.
-/
import Derived.Test.YtecljiefljgfmaaRefModel
import Derived.Test.YtecljiefljgfmaaNew
import Derived.Test.YtecljiefljgfmaaOwnBytes
import Derived.Test.YtecljiefljgfmaaKeep
import Derived.Deep.RegionLaw
import Derived.Laws.AppendOwnNone
import Derived.BigRegion
namespace Go.Proofs.Ytecljiefljgfmaa
open Go.RowKit

set_option maxHeartbeats 1000000 in
theorem refblank_any (w : World) : Calls Try.prog 40 #[] w fun e w' => e = .returned (.string blank) ∧ Below w.heap.size w w' := by
  obtain ⟨i0, hi, hz0, hz1, hz2⟩ := info_parts info5
  have hm : i0.bytes * 256 ≤ 281474976710656 := by rw [hz2]; omega
  have hcv : ∀ w0 : World, w0.ownsRow w.heap.size 5 1 (.slice (some ⟨w.heap.size, 0, none⟩) 256 256) 256 (bcs (List.replicate 256 0)) → (convert 50 9 (.slice (some ⟨w.heap.size, 0, none⟩) 256 256)).run Try.prog w0 = .ok (.string blank) w0 := by
    intro w0 ho
    have := convert_bytes w0 (some ⟨w.heap.size, 0, none⟩) 256 (List.replicate 256 0) (own_bytes ho)
    rw [List.length_replicate] at this
    exact this
  have HCV := (show Hid _ from hcv)
  clear hcv
  go_enter Try.func40, Try.ntmps40
  go_wp2_with (at_make; refine wpList_make_full _ rfl _ _ 50 rfl w.heap.size 5 i0 (.int .u8 0) 1 Try.underlying50 hi hz0 hz1 _ _ _ _ 256 rfl rfl (by omega) (by omega) hm (by unfold maxLen; omega) (Nat.le_refl _) ?_; intro w0 hown0 hgrow0; rw [made_bytes] at hown0; have hc := HCV.out w0 hown0)
  go_ret
  exact ⟨rfl, (Below.refl _ _).grown hgrow0 (Nat.le_refl _) (by simp)⟩

theorem refnew_bad (n : Int) (w : World) (h : n < 1 ∨ 4096 < n) :
    Calls Try.prog 11 #[.int .i64 n] w fun e w' => e = .returned (.tuple #[.pointer none, .int .i64 1]) ∧ w = w' := by
  rcases h with h | h
  · go_enter Try.func11, Try.ntmps11
    go_wp2
    go_ret2
    exact ⟨rfl, rfl⟩
  · have h1 : ¬ n < 1 := by omega
    go_enter Try.func11, Try.ntmps11
    go_wp2
    go_ret2
    exact ⟨rfl, rfl⟩

theorem one_new (w : World) (x : Value) (t : TypeId) : ∀ j u, [x][j]? = some u → (w.alloc (.cells #[x] t)).cell? ((⟨w.heap.size, 0, none⟩ : Addr).add j) = some u := by
  intro j u hj
  rw [Addr.add_lit, Nat.zero_add]
  have := cell_blk (heap_alloc_new w (.cells #[x] t)) j
  rw [this]
  simpa using hj

/-- The document's device while New fills it. -/
def Fill (w wr : World) (k : Nat) (b : ByteArray) : Prop :=
  ∃ la lc, wr.heap[w.heap.size]? = some (.cells #[.slice la k lc, .slice none 0 0, .int .i64 (-1), .bool false] 49 (0, 0)) ∧ wr.ownsRow 0 9 1 (.slice la k lc) k (scs (List.replicate k b)) ∧
    (∀ g, Value.ownBlock (.slice la k lc) = some g → w.heap.size < g) ∧ Below w.heap.size w wr

theorem fill_step {w wr w2 : World} {k : Nat} {b : ByteArray} {la : Option Addr} {lc : Nat} {v' : Value}
    (hb : wr.heap[w.heap.size]? = some (.cells #[.slice la k lc, .slice none 0 0, .int .i64 (-1), .bool false] 49 (0, 0))) (hlo : ∀ g, Value.ownBlock (.slice la k lc) = some g → w.heap.size < g) (hB : Below w.heap.size w wr)
    (ho : w2.ownsRow 0 9 1 v' (k + 1) (scs (List.replicate k b) ++ [.string b])) (hg : (wr.alloc (.cells #[.string b] 9)).grownBy w2 (Value.ownBlock (.slice la k lc)))
    (hn : v'.ownBlock = Value.ownBlock (.slice la k lc) ∨ ∀ j, v'.ownBlock = some j → (wr.alloc (.cells #[.string b] 9)).heap.size ≤ j) :
    (∃ la' lc', v' = .slice la' (k + 1) lc') ∧ w2.cell? ⟨w.heap.size, 0, none⟩ = some (.slice la k lc) ∧ w2.frozen? ⟨w.heap.size, 0, none⟩ = false ∧ Fill w (w2.setCell ⟨w.heap.size, 0, none⟩ v') (k + 1) b := by
  have hd : w.heap.size < wr.heap.size := (Array.getElem?_eq_some_iff.1 hb).1
  have hsz := hB.size
  have hs2 := hg.size
  have hs1 : (wr.alloc (.cells #[.string b] 9)).heap.size = wr.heap.size + 1 := by simp
  have hne : some w.heap.size ≠ Value.ownBlock (.slice la k lc) := fun e => by have := hlo _ e.symm; omega
  have hb2 : w2.heap[w.heap.size]? = some (.cells #[.slice la k lc, .slice none 0 0, .int .i64 (-1), .bool false] 49 (0, 0)) := by
    rw [hg.block _ (by omega) hne, Below.heap_alloc _ _ _ hd]
    exact hb
  have hlo' : ∀ g, v'.ownBlock = some g → w.heap.size < g := by
    intro g e
    rcases hn with hn | hn
    · rw [hn] at e; exact hlo g e
    · have := hn g e; omega
  obtain ⟨la', lc', rfl⟩ := owns_shape ho
  refine ⟨⟨la', lc', rfl⟩, cell_blk hb2 0, frozen_blk hb2 0, la', lc', (set_blk hb2 0 _).trans rfl, ?_, hlo', ?_⟩
  · have e : scs (List.replicate (k + 1) b) = scs (List.replicate k b) ++ [.string b] := by
      rw [List.replicate_succ']
      simp [scs]
    rw [e]
    exact owns_setCell ho (fun e => by have := hlo' _ e; simp at this) _
  · exact ((hB.alloc hsz _).grown hg (by omega) (fun j hj => by have := hlo j hj; omega)).setCell (Nat.le_refl _) _

set_option maxHeartbeats 2000000 in
theorem refnew_ok (n : Nat) (w : World) (h1 : 1 ≤ n) (hn : n ≤ 4096) :
    Calls Try.prog 11 #[.int .i64 (n : Int)] w fun e w' => ∃ d, e = .returned (.tuple #[.pointer (some ⟨d, 0, none⟩), .int .i64 0]) ∧ RDev w' (fun k => w.heap.size ≤ k ∧ k < w'.heap.size) d (R.new n blank) ∧ Below w.heap.size w w' := by
  obtain ⟨i0, hi, hz0, hz1, hz2⟩ := info_parts info9
  have hni : ¬ (4096 : Int) < (n : Int) := by omega
  have hni1 : ¬ (n : Int) < 1 := by omega
  have hbl := refblank_any (w.alloc (.cells #[.slice none 0 0, .slice none 0 0, .int .i64 (-1), .bool false] 49))
  obtain ⟨b, hbe⟩ : ∃ b, b = blank := ⟨_, rfl⟩
  rw [← hbe] at hbl ⊢
  clear hbe
  go_enter Try.func11, Try.ntmps11
  go_wp2_with fail
  refine Calls.mono hbl ?_
  rintro e w1 ⟨rfl, hb1⟩
  clear hbl
  have HF1 : Hid (Fill w w1 0 b) := by
    have hal : (w.alloc (.cells #[.slice none 0 0, .slice none 0 0, .int .i64 (-1), .bool false] 49)).heap.size = w.heap.size + 1 := by simp
    refine ⟨none, 0, ?_, ?_, ?_, ?_⟩
    · rw [hb1.block _ (by omega)]
      exact heap_alloc_new w _
    · exact World.ownsRow_nil w1 0 9 1
    · intro g hg; simp [Value.ownBlock] at hg
    · exact (((Below.refl _ w).alloc (Nat.le_refl _) _).trans (hb1.mono (by omega)))
  clear hb1
  go_wp2
  go_loopw [6] (fun i wr => ∃ k : Nat, k ≤ n ∧ i = .int .i64 k ∧ Fill w wr k b) (fun i _ => n - (intOf i).toNat)
  case atStart => exact ⟨0, Nat.zero_le _, rfl, HF1.out⟩
  case round =>
    obtain ⟨k, hk, rfl, la, lc, hb, hr, hlo, hB⟩ := hrel
    clear HF1
    by_cases hlt : k < n
    · have c0 := cell_blk hb 0
      simp only [List.getElem?_toArray] at c0
      have hki : (k : Int) < (n : Int) := by omega
      have hown := hr.alloc (.cells #[.string b] 9)
      have hfa : ∀ v' w2, w2.ownsRow 0 9 1 v' (k + 1) (scs (List.replicate k b) ++ [.string b]) → (wr.alloc (.cells #[.string b] 9)).grownBy w2 (Value.ownBlock (.slice la k lc)) → (v'.ownBlock = Value.ownBlock (.slice la k lc) ∨ ∀ j, v'.ownBlock = some j → (wr.alloc (.cells #[.string b] 9)).heap.size ≤ j) →
        (∃ la' lc', v' = .slice la' (k + 1) lc') ∧ w2.cell? ⟨w.heap.size, 0, none⟩ = some (.slice la k lc) ∧ w2.frozen? ⟨w.heap.size, 0, none⟩ = false ∧ Fill w (w2.setCell ⟨w.heap.size, 0, none⟩ v') (k + 1) b := fun v' w2 ho hg hn => fill_step hb hlo hB ho hg hn
      have HFA := (show Hid _ from hfa)
      have hsl : (scs (List.replicate k b)).length = k := by rw [scs_length, List.length_replicate]
      clear hb hr hlo hB hfa
      go_wp2_with (at_builtin; refine wpList_append_own2 rfl _ _ 40 rfl 0 9 i0 (.string ⟨#[]⟩) 1 16 Try.underlying40 hi hz0 hz1 hz2 rfl (by decide) _ k (scs (List.replicate k b)) rfl hown ⟨wr.heap.size, 0, none⟩ 1 1 [.string b] rfl rfl (one_new _ _ _) (by intro u hu; simp at hu; rw [hu]; rfl) (by unfold maxLen; omega) (by omega) (Nat.zero_le _) ?_; intro v' w2 ho2 hg2 hn2; obtain ⟨⟨la', lc', rfl⟩, x1, x2, x3⟩ := HFA.out v' w2 ho2 hg2 hn2; have HX := (show Hid (Fill w (w2.setCell ⟨w.heap.size, 0, none⟩ (.slice la' (k + 1) lc')) (k + 1) b) from x3); clear ho2 hg2 hn2 x3)
      go_roundw
      case rel => exact ⟨k + 1, by omega, by go_num, HX.out⟩
      case measure => simp [intOf]; omega
    · obtain rfl : k = n := by omega
      have HX : Hid (Fill w wr k b) := ⟨la, lc, hb, hr, hlo, hB⟩
      clear hb hr hlo hB
      go_wp2
      go_ret2
      obtain ⟨la, lc, hb, hr, hlo, hB⟩ := HX.out
      have hd : w.heap.size < wr.heap.size := (Array.getElem?_eq_some_iff.1 hb).1
      refine ⟨_, rfl, ⟨R.Ok.new h1 hn b, fun j hj => hj.2, .slice la k lc, .slice none 0 0, ⟨hb, ?_, World.ownsRow_nil _ 0 106 2, ?_, ?_⟩, ?_⟩, hB⟩
      · show wr.ownsRow 0 9 1 _ (List.replicate k b).length (scs (List.replicate k b))
        rw [List.length_replicate]
        exact hr
      · intro g hg
        exact ⟨by have := hlo g hg; omega, by simp [Value.ownBlock]⟩
      · intro g hg; simp [Value.ownBlock] at hg
      · intro j hj
        rcases hj with hj | hj | hj
        · omega
        · have := hlo j hj
          have := (owns_lt hr j hj).2
          omega
        · simp [Value.ownBlock] at hj
end Go.Proofs.Ytecljiefljgfmaa

/-
  The document's Load and Save where the place is bad, the device is dead or the state does not fit.
-/
import Derived.Test.YtecljiefljgfmaaRefLoad2
namespace Go.Proofs.Ytecljiefljgfmaa
open Go.RowKit

set_option maxHeartbeats 4000000 in
set_option maxRecDepth 20000 in
theorem rslot_dead {w wr : World} {d r : Nat} {K : Nat → Prop} {M : D} {N : R} (h : Pair w wr d r K M N) (hs : Sim M N) (hst : M.st = 2) (hW : N.W.length ≤ 10000) (p n : Nat) :
    Calls Try.prog 66 #[.pointer (some ⟨r, 0, none⟩), .int .i64 (p : Int), .int .i64 (n : Int), .int .u64 0] wr fun e w' => e = .returned (.tuple #[.agg #[.bool false, .int .u64 0, .slice none 0 0], .int .i64 50]) ∧ Below wr.heap.size wr w' := by
  obtain ⟨W, hW'⟩ : ∃ W, W = wr.alloc (.cells #[.bool false, .int .u64 0, .slice none 0 0] 73) := ⟨_, rfl⟩
  obtain ⟨s, hsz⟩ : ∃ s, s = wr.heap.size := ⟨_, rfl⟩
  have hblk : W.heap[s]? = some (.cells #[.bool false, .int .u64 0, .slice none 0 0] 73 (0, 0)) := by rw [hW', hsz]; exact heap_alloc_new wr _
  have hsge : wr.heap.size ≤ s := by omega
  have hWB : Below wr.heap.size wr W := by rw [hW']; exact (Below.refl _ _).alloc (Nat.le_refl _) _
  have hrd := p_rread (p : Int) (h.below hWB) (by omega)
  rw [sim_rd_dead hs hst] at hrd
  have c0 := cell_blk hblk 0
  have c1 := cell_blk hblk 1
  have c2 := cell_blk hblk 2
  have f0 := frozen_blk hblk 0
  have f1 := frozen_blk hblk 1
  have f2 := frozen_blk hblk 2
  simp only [List.getElem?_toArray] at c0 c1 c2
  have HBY : Hid (Below wr.heap.size wr W ∧ wr.heap.size ≤ s ∧ W.heap[s]? = some (.cells #[.bool false, .int .u64 0, .slice none 0 0] 73 (0, 0))) := ⟨hWB, hsge, hblk⟩
  clear h hs hst hblk hsge hWB
  go_enter Try.func66, Try.ntmps66
  go_wp2_with fail
  rw [← hW', ← hsz]
  clear hW' hsz
  refine Calls.mono hrd ?_
  rintro e w1 ⟨rfl, rfl⟩
  go_wp2
  (try simp only [Exit.inBlock, Exit.then])
  refine bodyPost_ret (v := .tuple #[.agg #[.bool false, .int .u64 0, .slice none 0 0], .int .i64 50]) ?_ rfl ⟨rfl, ((HBY.out.1.setCell HBY.out.2.1 _).setCell HBY.out.2.1 _).setCell HBY.out.2.1 _⟩
  rw [results_cell_tmp rfl]
  simp [asAddr, Result.andThen, box3_load (box3_set HBY.out.2.2 (.bool false) (.int .u64 0) (.slice none 0 0))]

set_option maxHeartbeats 4000000 in
set_option maxRecDepth 20000 in
/-- The document's Load where the place is bad (1) or the device is dead (50). -/
theorem rload_no {w wr : World} {d r : Nat} {K : Nat → Prop} {M : D} {N : R} (h : Pair w wr d r K M N) (hs : Sim M N) (hW : N.W.length ≤ 10000) (p n : Int) (hn : n ≤ 9223372036854775807) (hp : p ≤ 9223372036854775807) (hp0 : -9223372036854775808 ≤ p) (ev : Int) (hev : regB N.L.length p n = false ∧ ev = 1 ∨ regB N.L.length p n = true ∧ M.st = 2 ∧ ev = 50) :
    Calls Try.prog 34 #[.pointer (some ⟨r, 0, none⟩), .int .i64 p, .int .i64 n] wr fun e w' => e = .returned (.tuple #[.agg #[.bool false, .int .u64 0, .slice none 0 0], .int .i64 ev]) ∧ Below wr.heap.size wr w' := by
  have hNL : N.L.length ≤ 4096 := by rw [hs.l]; exact h.ok.top
  obtain ⟨W, hW'⟩ : ∃ W, W = wr.alloc (.cells #[.bool false, .int .u64 0, .slice none 0 0] 73) := ⟨_, rfl⟩
  obtain ⟨s, hsz⟩ : ∃ s, s = wr.heap.size := ⟨_, rfl⟩
  have hblk : W.heap[s]? = some (.cells #[.bool false, .int .u64 0, .slice none 0 0] 73 (0, 0)) := by rw [hW', hsz]; exact heap_alloc_new wr _
  have hsge : wr.heap.size ≤ s := by omega
  have hWB : Below wr.heap.size wr W := by rw [hW']; exact (Below.refl _ _).alloc (Nat.le_refl _) _
  have hrg := region_any (h.below hWB) p n hn hp hp0 hNL
  rcases hev with ⟨hr, rfl⟩ | ⟨hr, hst, rfl⟩
  · rw [hr] at hrg
    go_enter Try.func34, Try.ntmps34
    go_wp2_with fail
    rw [← hW', ← hsz]
    clear hW' hsz
    refine Calls.mono hrg ?_
    rintro e w1 ⟨rfl, hb1⟩
    have hblk1 : w1.heap[s]? = some (.cells #[.bool false, .int .u64 0, .slice none 0 0] 73 (0, 0)) := (hb1.block s (Array.getElem?_eq_some_iff.1 hblk).1).trans hblk
    have HBY : Hid (Below wr.heap.size wr w1 ∧ wr.heap.size ≤ s ∧ w1.heap[s]? = some (.cells #[.bool false, .int .u64 0, .slice none 0 0] 73 (0, 0))) := ⟨hWB.trans (hb1.mono hWB.size), hsge, hblk1⟩
    have c0 := cell_blk hblk1 0
    have c1 := cell_blk hblk1 1
    have c2 := cell_blk hblk1 2
    have f0 := frozen_blk hblk1 0
    have f1 := frozen_blk hblk1 1
    have f2 := frozen_blk hblk1 2
    simp only [List.getElem?_toArray] at c0 c1 c2
    clear h hs hblk hblk1 hsge hWB hb1 hrg
    go_wp2
    (try simp only [Exit.inBlock, Exit.then])
    refine bodyPost_ret (v := .tuple #[.agg #[.bool false, .int .u64 0, .slice none 0 0], .int .i64 1]) ?_ rfl ⟨rfl, ((HBY.out.1.setCell HBY.out.2.1 _).setCell HBY.out.2.1 _).setCell HBY.out.2.1 _⟩
    rw [results_cell_tmp rfl]
    simp [asAddr, Result.andThen, box3_load (box3_set HBY.out.2.2 (.bool false) (.int .u64 0) (.slice none 0 0))]
  · rw [hr] at hrg
    simp only [regB, decide_eq_true_eq] at hr
    obtain ⟨p, rfl⟩ : ∃ k : Nat, p = (k : Int) := ⟨p.toNat, by omega⟩
    obtain ⟨n, rfl⟩ : ∃ k : Nat, n = (k : Int) := ⟨n.toNat, by omega⟩
    go_enter Try.func34, Try.ntmps34
    go_wp2_with fail
    rw [← hW', ← hsz]
    clear hW' hsz
    refine Calls.mono hrg ?_
    rintro e w1 ⟨rfl, hb1⟩
    have hB1 : Below wr.heap.size wr w1 := hWB.trans (hb1.mono hWB.size)
    have hsl := rslot_dead (h.below hB1) hs hst hW p n
    clear hrg
    go_wp2_with fail
    refine Calls.mono hsl ?_
    rintro e w2 ⟨rfl, hb2⟩
    go_upto_region 5 with fail
    obtain ⟨w3, hw3⟩ : ∃ w3, w3 = w2.alloc (.cells #[.bool false, .int .u64 0, .slice none 0 0] 73) := ⟨_, rfl⟩
    have hb3 : Below w2.heap.size w2 w3 := by rw [hw3]; exact (Below.refl _ _).alloc (Nat.le_refl _) _
    rw [← hw3]
    have hbW3 : Below W.heap.size W w3 := (hb1.trans (hb2.mono hb1.size)).trans (hb3.mono (Nat.le_trans hb1.size hb2.size))
    have hblk3 : w3.heap[s]? = some (.cells #[.bool false, .int .u64 0, .slice none 0 0] 73 (0, 0)) := (hbW3.block s (Array.getElem?_eq_some_iff.1 hblk).1).trans hblk
    have HBY : Hid (Below wr.heap.size wr w3 ∧ wr.heap.size ≤ s ∧ w3.heap[s]? = some (.cells #[.bool false, .int .u64 0, .slice none 0 0] 73 (0, 0))) := ⟨hWB.trans (hbW3.mono hWB.size), hsge, hblk3⟩
    have c0 := cell_blk hblk3 0
    have c1 := cell_blk hblk3 1
    have c2 := cell_blk hblk3 2
    have f0 := frozen_blk hblk3 0
    have f1 := frozen_blk hblk3 1
    have f2 := frozen_blk hblk3 2
    simp only [List.getElem?_toArray] at c0 c1 c2
    clear h hs hblk hblk3 hsge hWB hb1 hbW3 hb3 hw3 hsl hB1 hb2
    go_wp2
    (try simp only [Exit.inBlock, Exit.then])
    refine bodyPost_ret (v := .tuple #[.agg #[.bool false, .int .u64 0, .slice none 0 0], .int .i64 50]) ?_ rfl ⟨rfl, ((HBY.out.1.setCell HBY.out.2.1 _).setCell HBY.out.2.1 _).setCell HBY.out.2.1 _⟩
    rw [results_cell_tmp rfl]
    simp [asAddr, Result.andThen, box3_load (box3_set HBY.out.2.2 (.bool false) (.int .u64 0) (.slice none 0 0))]

set_option maxHeartbeats 4000000 in
set_option maxRecDepth 20000 in
/-- The document's Save where the place is bad (1) or the state does not fit (60). -/
theorem rsave_no {w wr : World} {d r : Nat} {K : Nat → Prop} {M : D} {N : R} (h : Pair w wr d r K M N) (hs : Sim M N) (p n : Int) (ep : Nat) (a : Option Addr) (m cap : Nat) (hm : m ≤ 9223372036854775807) (hn : n ≤ 9223372036854775807) (hp : p ≤ 9223372036854775807) (hp0 : -9223372036854775808 ≤ p) (ev : Int) (hev : regB N.L.length p n = false ∧ ev = 1 ∨ regB N.L.length p n = true ∧ fitsB n m = false ∧ ev = 60) :
    Calls Try.prog 32 #[.pointer (some ⟨r, 0, none⟩), .int .i64 p, .int .i64 n, .int .u64 (ep : Int), .slice a m cap] wr fun e w' => e = .returned (.int .i64 ev) ∧ Below wr.heap.size wr w' := by
  have hNL : N.L.length ≤ 4096 := by rw [hs.l]; exact h.ok.top
  have hrg := region_any h p n hn hp hp0 hNL
  have HFI := fun wx => refFits_any n m wx hn (by omega)
  rcases hev with ⟨hr, rfl⟩ | ⟨hr, hf, rfl⟩
  · rw [hr] at hrg
    clear h hs HFI
    go_enter Try.func32, Try.ntmps32
    go_wp2_with fail
    refine Calls.mono hrg ?_
    rintro e w1 ⟨rfl, hb1⟩
    go_wp2
    go_ret
    exact ⟨rfl, hb1⟩
  · rw [hr] at hrg
    rw [hf] at HFI
    clear h hs
    go_enter Try.func32, Try.ntmps32
    go_wp2_with fail
    refine Calls.mono hrg ?_
    rintro e w1 ⟨rfl, hb1⟩
    have hfi := HFI w1
    clear hrg HFI
    go_wp2_with fail
    refine Calls.mono hfi ?_
    rintro e w2 ⟨rfl, rfl⟩
    go_wp2
    go_ret
    exact ⟨rfl, hb1⟩
end Go.Proofs.Ytecljiefljgfmaa

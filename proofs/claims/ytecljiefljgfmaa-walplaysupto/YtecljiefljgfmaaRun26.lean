/-
  The document's Load and Save where the place is bad, the device is dead or the state does not fit.
-/
import Derived.Test.YtecljiefljgfmaaRefLoad2
import Derived.Test.YtecljiefljgfmaaRun16
import Derived.Test.YtecljiefljgfmaaRun21
namespace Go.Proofs.Ytecljiefljgfmaa
open Go.RowKit

set_option maxHeartbeats 4000000 in
set_option maxRecDepth 20000 in
theorem rslot_dead {w wr : World} {d r : Nat} {K : Nat → Prop} {M : D} {N : R} (h : Pair w wr d r K M N) (hs : Sim M N) (hst : M.st = 2) (hW : N.W.length ≤ 10000) (p n : Nat) :
    Calls Try.prog 66 #[.pointer (some ⟨r, 0, none⟩), .int .i64 (p : Int), .int .i64 (n : Int), .int .u64 0] wr fun e w' => e = .returned (.tuple #[.agg #[.bool false, .int .u64 0, .slice none 0 0], .int .i64 50]) ∧ Below wr.heap.size wr w' := by
  obtain ⟨W, hW'⟩ : ∃ W, W = wr.alloc (.cells #[.bool false, .int .u64 0, .slice none 0 0] 73) := ⟨_, rfl⟩
  obtain ⟨s, hsz⟩ : ∃ s, s = wr.heap.size := ⟨_, rfl⟩
  have hblk : W.heap[s]? = some (.cells #[.bool false, .int .u64 0, .slice none 0 0] 73 (0, 0)) := by rw [hW', hsz]; exact heap_alloc_new wr _
  have hsge : wr.heap.size ≤ s := by omega
  have hWB : Below wr.heap.size wr W := by rw [hW']; exact (Below.refl _ _).alloc (Nat.le_refl _) _
  have hrd := p_rread (p : Int) (h.below hWB) (by omega)
  rw [sim_rd_dead hs hst] at hrd
  have c0 := cell_blk hblk 0
  have c1 := cell_blk hblk 1
  have c2 := cell_blk hblk 2
  have f0 := frozen_blk hblk 0
  have f1 := frozen_blk hblk 1
  have f2 := frozen_blk hblk 2
  simp only [List.getElem?_toArray] at c0 c1 c2
  have HBY : Hid (Below wr.heap.size wr W ∧ wr.heap.size ≤ s ∧ W.heap[s]? = some (.cells #[.bool false, .int .u64 0, .slice none 0 0] 73 (0, 0))) := ⟨hWB, hsge, hblk⟩
  clear h hs hst hblk hsge hWB
  go_enter Try.func66, Try.ntmps66
  go_wp2_with fail
  rw [← hW', ← hsz]
  clear hW' hsz
  refine Calls.mono hrd ?_
  rintro e w1 ⟨rfl, rfl⟩
  go_wp2
  (try simp only [Exit.inBlock, Exit.then])
  refine bodyPost_ret (v := .tuple #[.agg #[.bool false, .int .u64 0, .slice none 0 0], .int .i64 50]) ?_ rfl ⟨rfl, ((HBY.out.1.setCell HBY.out.2.1 _).setCell HBY.out.2.1 _).setCell HBY.out.2.1 _⟩
  rw [results_cell_tmp rfl]
  simp [asAddr, Result.andThen, box3_load (box3_set HBY.out.2.2 (.bool false) (.int .u64 0) (.slice none 0 0))]

set_option maxHeartbeats 4000000 in
set_option maxRecDepth 20000 in
/-- The document's Load where the place is bad (1) or the device is dead (50). -/
theorem rload_no {w wr : World} {d r : Nat} {K : Nat → Prop} {M : D} {N : R} (h : Pair w wr d r K M N) (hs : Sim M N) (hW : N.W.length ≤ 10000) (p n : Int) (hn : n ≤ 9223372036854775807) (hp : p ≤ 9223372036854775807) (hp0 : -9223372036854775808 ≤ p) (ev : Int) (hev : regB N.L.length p n = false ∧ ev = 1 ∨ regB N.L.length p n = true ∧ M.st = 2 ∧ ev = 50) :
    Calls Try.prog 34 #[.pointer (some ⟨r, 0, none⟩), .int .i64 p, .int .i64 n] wr fun e w' => e = .returned (.tuple #[.agg #[.bool false, .int .u64 0, .slice none 0 0], .int .i64 ev]) ∧ Below wr.heap.size wr w' := by
  have hNL : N.L.length ≤ 4096 := by rw [hs.l]; exact h.ok.top
  obtain ⟨W, hW'⟩ : ∃ W, W = wr.alloc (.cells #[.bool false, .int .u64 0, .slice none 0 0] 73) := ⟨_, rfl⟩
  obtain ⟨s, hsz⟩ : ∃ s, s = wr.heap.size := ⟨_, rfl⟩
  have hblk : W.heap[s]? = some (.cells #[.bool false, .int .u64 0, .slice none 0 0] 73 (0, 0)) := by rw [hW', hsz]; exact heap_alloc_new wr _
  have hsge : wr.heap.size ≤ s := by omega
  have hWB : Below wr.heap.size wr W := by rw [hW']; exact (Below.refl _ _).alloc (Nat.le_refl _) _
  have hrg := region_any (h.below hWB) p n hn hp hp0 hNL
  rcases hev with ⟨hr, rfl⟩ | ⟨hr, hst, rfl⟩
  · rw [hr] at hrg
    go_enter Try.func34, Try.ntmps34
    go_wp2_with fail
    rw [← hW', ← hsz]
    clear hW' hsz
    refine Calls.mono hrg ?_
    rintro e w1 ⟨rfl, hb1⟩
    have hblk1 : w1.heap[s]? = some (.cells #[.bool false, .int .u64 0, .slice none 0 0] 73 (0, 0)) := (hb1.block s (Array.getElem?_eq_some_iff.1 hblk).1).trans hblk
    have HBY : Hid (Below wr.heap.size wr w1 ∧ wr.heap.size ≤ s ∧ w1.heap[s]? = some (.cells #[.bool false, .int .u64 0, .slice none 0 0] 73 (0, 0))) := ⟨hWB.trans (hb1.mono hWB.size), hsge, hblk1⟩
    have c0 := cell_blk hblk1 0
    have c1 := cell_blk hblk1 1
    have c2 := cell_blk hblk1 2
    have f0 := frozen_blk hblk1 0
    have f1 := frozen_blk hblk1 1
    have f2 := frozen_blk hblk1 2
    simp only [List.getElem?_toArray] at c0 c1 c2
    clear h hs hblk hblk1 hsge hWB hb1 hrg
    go_wp2
    (try simp only [Exit.inBlock, Exit.then])
    refine bodyPost_ret (v := .tuple #[.agg #[.bool false, .int .u64 0, .slice none 0 0], .int .i64 1]) ?_ rfl ⟨rfl, ((HBY.out.1.setCell HBY.out.2.1 _).setCell HBY.out.2.1 _).setCell HBY.out.2.1 _⟩
    rw [results_cell_tmp rfl]
    simp [asAddr, Result.andThen, box3_load (box3_set HBY.out.2.2 (.bool false) (.int .u64 0) (.slice none 0 0))]
  · rw [hr] at hrg
    simp only [regB, decide_eq_true_eq] at hr
    obtain ⟨p, rfl⟩ : ∃ k : Nat, p = (k : Int) := ⟨p.toNat, by omega⟩
    obtain ⟨n, rfl⟩ : ∃ k : Nat, n = (k : Int) := ⟨n.toNat, by omega⟩
    go_enter Try.func34, Try.ntmps34
    go_wp2_with fail
    rw [← hW', ← hsz]
    clear hW' hsz
    refine Calls.mono hrg ?_
    rintro e w1 ⟨rfl, hb1⟩
    have hB1 : Below wr.heap.size wr w1 := hWB.trans (hb1.mono hWB.size)
    have hsl := rslot_dead (h.below hB1) hs hst hW p n
    clear hrg
    go_wp2_with fail
    refine Calls.mono hsl ?_
    rintro e w2 ⟨rfl, hb2⟩
    go_upto_region 5 with fail
    obtain ⟨w3, hw3⟩ : ∃ w3, w3 = w2.alloc (.cells #[.bool false, .int .u64 0, .slice none 0 0] 73) := ⟨_, rfl⟩
    have hb3 : Below w2.heap.size w2 w3 := by rw [hw3]; exact (Below.refl _ _).alloc (Nat.le_refl _) _
    rw [← hw3]
    have hbW3 : Below W.heap.size W w3 := (hb1.trans (hb2.mono hb1.size)).trans (hb3.mono (Nat.le_trans hb1.size hb2.size))
    have hblk3 : w3.heap[s]? = some (.cells #[.bool false, .int .u64 0, .slice none 0 0] 73 (0, 0)) := (hbW3.block s (Array.getElem?_eq_some_iff.1 hblk).1).trans hblk
    have HBY : Hid (Below wr.heap.size wr w3 ∧ wr.heap.size ≤ s ∧ w3.heap[s]? = some (.cells #[.bool false, .int .u64 0, .slice none 0 0] 73 (0, 0))) := ⟨hWB.trans (hbW3.mono hWB.size), hsge, hblk3⟩
    have c0 := cell_blk hblk3 0
    have c1 := cell_blk hblk3 1
    have c2 := cell_blk hblk3 2
    have f0 := frozen_blk hblk3 0
    have f1 := frozen_blk hblk3 1
    have f2 := frozen_blk hblk3 2
    simp only [List.getElem?_toArray] at c0 c1 c2
    clear h hs hblk hblk3 hsge hWB hb1 hbW3 hb3 hw3 hsl hB1 hb2
    go_wp2
    (try simp only [Exit.inBlock, Exit.then])
    refine bodyPost_ret (v := .tuple #[.agg #[.bool false, .int .u64 0, .slice none 0 0], .int .i64 50]) ?_ rfl ⟨rfl, ((HBY.out.1.setCell HBY.out.2.1 _).setCell HBY.out.2.1 _).setCell HBY.out.2.1 _⟩
    rw [results_cell_tmp rfl]
    simp [asAddr, Result.andThen, box3_load (box3_set HBY.out.2.2 (.bool false) (.int .u64 0) (.slice none 0 0))]

set_option maxHeartbeats 4000000 in
set_option maxRecDepth 20000 in
/-- The document's Save where the place is bad (1) or the state does not fit (60). -/
theorem rsave_no {w wr : World} {d r : Nat} {K : Nat → Prop} {M : D} {N : R} (h : Pair w wr d r K M N) (hs : Sim M N) (p n : Int) (ep : Nat) (a : Option Addr) (m cap : Nat) (hm : m ≤ 9223372036854775807) (hn : n ≤ 9223372036854775807) (hp : p ≤ 9223372036854775807) (hp0 : -9223372036854775808 ≤ p) (ev : Int) (hev : regB N.L.length p n = false ∧ ev = 1 ∨ regB N.L.length p n = true ∧ fitsB n m = false ∧ ev = 60) :
    Calls Try.prog 32 #[.pointer (some ⟨r, 0, none⟩), .int .i64 p, .int .i64 n, .int .u64 (ep : Int), .slice a m cap] wr fun e w' => e = .returned (.int .i64 ev) ∧ Below wr.heap.size wr w' := by
  have hNL : N.L.length ≤ 4096 := by rw [hs.l]; exact h.ok.top
  have hrg := region_any h p n hn hp hp0 hNL
  have HFI := fun wx => refFits_any n m wx hn (by omega)
  rcases hev with ⟨hr, rfl⟩ | ⟨hr, hf, rfl⟩
  · rw [hr] at hrg
    clear h hs HFI
    go_enter Try.func32, Try.ntmps32
    go_wp2_with fail
    refine Calls.mono hrg ?_
    rintro e w1 ⟨rfl, hb1⟩
    go_wp2
    go_ret
    exact ⟨rfl, hb1⟩
  · rw [hr] at hrg
    rw [hf] at HFI
    clear h hs
    go_enter Try.func32, Try.ntmps32
    go_wp2_with fail
    refine Calls.mono hrg ?_
    rintro e w1 ⟨rfl, hb1⟩
    have hfi := HFI w1
    clear hrg HFI
    go_wp2_with fail
    refine Calls.mono hfi ?_
    rintro e w2 ⟨rfl, rfl⟩
    go_wp2
    go_ret
    exact ⟨rfl, hb1⟩
end Go.Proofs.Ytecljiefljgfmaa
/-
  The document's Open by its contract where the place is bad or the device is dead.
-/
namespace Go.Proofs.Ytecljiefljgfmaa
open Go.RowKit

/-- The document's log in memory. -/
def RLog (w : World) (m r p n ep nx us : Nat) (dd : Bool) : Prop :=
  w.heap[m]? = some (.cells #[.pointer (some ⟨r, 0, none⟩), .int .i64 (p : Int), .int .i64 (n : Int), .int .u64 (ep : Int), .int .u64 (nx : Int), .int .i64 (us : Int), .bool dd] 57 (0, 0))

theorem ropen_arg {w wr : World} {d r : Nat} {K : Nat → Prop} {M : D} {N : R} (h : Pair w wr d r K M N) (hs : Sim M N) (p n : Int) (ep : Nat) (hn : n ≤ 9223372036854775807) (hp : p ≤ 9223372036854775807) (hp0 : -9223372036854775808 ≤ p) (hr : wfitB N.L.length p n = false) :
    Calls Try.prog 13 #[.pointer (some ⟨r, 0, none⟩), .int .i64 p, .int .i64 n, .int .u64 (ep : Int)] wr fun e w' => e = .returned (.tuple #[.pointer none, .slice none 0 0, .int .i64 1]) ∧ Below wr.heap.size wr w' := by
  have hNL : N.L.length ≤ 4096 := by rw [hs.l]; exact h.ok.top
  have hf := refFits6_any h p n hn hp hp0 hNL
  rw [hr] at hf
  clear h hs
  go_enter Try.func13, Try.ntmps13
  go_wp2_with fail
  refine Calls.mono hf ?_
  rintro e w1 ⟨rfl, hb1⟩
  go_wp2
  (try simp only [Exit.inBlock, Exit.then])
  refine bodyPost_ret (v := .tuple #[.pointer none, .slice none 0 0, .int .i64 1]) ?_ rfl ⟨rfl, hb1⟩
  simp [results, Try.f13]

set_option maxHeartbeats 2000000 in
set_option maxRecDepth 20000 in
theorem rread_dead {w wr : World} {d r m : Nat} {K : Nat → Prop} {M : D} {N : R} (h : Pair w wr d r K M N) (hs : Sim M N) (hst : M.st = 2) (hW : N.W.length ≤ 10000) (p n ep nx us : Nat) (dd : Bool) (hm : RLog wr m r p n ep nx us dd) (hp : p ≤ 4096) (hus : us ≤ 4096) :
    Calls Try.prog 45 #[.pointer (some ⟨m, 0, none⟩)] wr fun e w' => e = .returned (.tuple #[.slice none 0 0, .int .i64 0, .int .i64 50]) ∧ Below wr.heap.size wr w' := by
  have hrd := p_rread ((p : Int) + (us : Int)) (h.below (Below.refl _ _).drew) (by omega)
  rw [sim_rd_dead hs hst] at hrd
  have c0 := cell_blk hm 0
  have c1 := cell_blk hm 1
  have c5 := cell_blk hm 5
  simp only [List.getElem?_toArray] at c0 c1 c5
  have d0 : wr.drew.cell? ⟨m, 0, none⟩ = some (.pointer (some ⟨r, 0, none⟩)) := c0
  have d1 : wr.drew.cell? ⟨m, 1, none⟩ = some (.int .i64 (p : Int)) := c1
  have d5 : wr.drew.cell? ⟨m, 5, none⟩ = some (.int .i64 (us : Int)) := c5
  have hwp : IntKind.i64.wrap ((p : Int) + (us : Int)) = (p : Int) + (us : Int) := by rw [IntKind.wrap_i64]; omega
  clear h hs hst hm
  go_enter Try.func45, Try.ntmps45
  go_wp2
  go_region_held3 (fun w' => w'.cell? ⟨m, 0, none⟩ = some (.pointer (some ⟨r, 0, none⟩)) ∧ w'.cell? ⟨m, 1, none⟩ = some (.int .i64 (p : Int)) ∧ w'.cell? ⟨m, 5, none⟩ = some (.int .i64 (us : Int))) (go_keep)
    (first
      | (go_at_call 59; refine Calls.mono hrd ?_; rintro e w5 ⟨rfl, rfl⟩))
  go_wp2
  (try simp only [Exit.inBlock, Exit.then])
  refine bodyPost_ret (v := .tuple #[.slice none 0 0, .int .i64 0, .int .i64 50]) ?_ rfl ⟨rfl, (Below.refl _ _).drew⟩
  simp [results, Try.f45]

set_option maxHeartbeats 2000000 in
set_option maxRecDepth 20000 in
theorem ropen_dead {w wr : World} {d r : Nat} {K : Nat → Prop} {M : D} {N : R} (h : Pair w wr d r K M N) (hs : Sim M N) (hst : M.st = 2) (hW : N.W.length ≤ 10000) (p n ep : Nat) (hr : wfitB N.L.length p n = true) :
    Calls Try.prog 13 #[.pointer (some ⟨r, 0, none⟩), .int .i64 (p : Int), .int .i64 (n : Int), .int .u64 (ep : Int)] wr fun e w' => e = .returned (.tuple #[.pointer none, .slice none 0 0, .int .i64 50]) ∧ Below wr.heap.size wr w' := by
  have hNL : N.L.length ≤ 4096 := by rw [hs.l]; exact h.ok.top
  have hrb := hr
  simp only [wfitB, decide_eq_true_eq] at hrb
  have hf := refFits6_any h p n (by omega) (by omega) (by omega) hNL
  rw [hr] at hf
  have HRD : Hid (∀ w1 m, Below wr.heap.size wr w1 → RLog w1 m r p n ep 0 0 false → Calls Try.prog 45 #[.pointer (some ⟨m, 0, none⟩)] w1 fun e w' => e = .returned (.tuple #[.slice none 0 0, .int .i64 0, .int .i64 50]) ∧ Below w1.heap.size w1 w') := fun w1 m hb hm => rread_dead (h.below hb) hs hst hW p n ep 0 0 false hm (by omega) (by omega)
  have hn0 : (0 : Int) < (n : Int) := by omega
  clear h hs hst hr hrb
  go_enter Try.func13, Try.ntmps13
  go_wp2_with fail
  refine Calls.mono hf ?_
  rintro e w1 ⟨rfl, hb1⟩
  clear hf
  go_upto_region 4 with fail
  obtain ⟨W, hW'⟩ : ∃ W, W = w1.alloc (.cells #[.pointer (some ⟨r, 0, none⟩), .int .i64 (p : Int), .int .i64 (n : Int), .int .u64 (ep : Int), .int .u64 0, .int .i64 0, .bool false] 57) := ⟨_, rfl⟩
  obtain ⟨m, hm⟩ : ∃ m, m = w1.heap.size := ⟨_, rfl⟩
  have hL : RLog W m r p n ep 0 0 false := by rw [hW', hm]; exact heap_alloc_new w1 _
  have hB : Below wr.heap.size wr W := by rw [hW']; exact hb1.alloc hb1.size _
  rw [← hW', ← hm]
  have hrd := HRD.out W m hB hL
  have c5 := cell_blk hL 5
  simp only [List.getElem?_toArray] at c5
  have HB : Hid (Below wr.heap.size wr W) := hB
  clear hW' hm hL hB hb1 HRD
  go_wp2
  go_loopw [12] (fun i wq => i = .slice none 0 0 ∧ wq = W) (fun _ _ => 0)
  case atStart => exact ⟨rfl, rfl⟩
  case round =>
    obtain ⟨rfl, rfl⟩ := hrel
    go_wp2_with (go_at_call 45; refine Calls.mono hrd ?_; rintro e w2 ⟨rfl, hb2⟩)
    (try simp only [Exit.inBlock, Exit.then])
    refine bodyPost_ret (v := .tuple #[.pointer none, .slice none 0 0, .int .i64 50]) ?_ rfl ⟨rfl, HB.out.trans (hb2.mono HB.out.size)⟩
    simp [results, Try.f13]
end Go.Proofs.Ytecljiefljgfmaa
/-
  The document's Append by its contract, the two devices side by side.
-/
namespace Go.Proofs.Ytecljiefljgfmaa
open Go.RowKit

/-- Between two steps of the document's Append. -/
structure ASt (w ws q : World) (d r bb cb : Nat) (K : Nat → Prop) (M : D) (N : R) (b : List UInt8) : Prop where
  pair : Pair w q d r (fun j => K j ∨ j = bb) M N
  row : Bytes q (some ⟨bb, 0, none⟩) b
  same : ∀ j, K j → q.heap[j]? = ws.heap[j]?

theorem bytes_blk {w w' : World} {bb : Nat} {b : List UInt8} (h : Bytes w (some ⟨bb, 0, none⟩) b) (hs : w.heap.size ≤ w'.heap.size) (hh : w'.heap[bb]? = w.heap[bb]?) : Bytes w' (some ⟨bb, 0, none⟩) b := by
  rcases h with h | ⟨b', off, e, hl, hc⟩
  · exact .inl h
  · simp only [Option.some.injEq, Addr.mk.injEq, and_true] at e
    obtain ⟨rfl, rfl⟩ := e
    exact .inr ⟨bb, 0, rfl, by omega, fun j hj => (World.cell?_of_block (w := w) (a := ⟨bb, 0 + j, none⟩) hh).trans (hc j hj)⟩
theorem ASt.step {w ws q q' : World} {d r bb cb : Nat} {K : Nat → Prop} {M : D} {N N' : R} {b : List UInt8} (h : ASt w ws q d r bb cb K M N b) (hp : Pair w q' d r (fun j => K j ∨ j = bb) M N') (hk : ∀ j, (K j ∨ j = bb) → q'.heap[j]? = q.heap[j]?) : ASt w ws q' d r bb cb K M N' b := by
  refine ⟨hp, ?_, fun j hj => (hk j (.inl hj)).trans (h.same j hj)⟩
  rcases h.row with h0 | ⟨b', off, e, hl, hc⟩
  · exact .inl h0
  · have e0 := e
    simp only [Option.some.injEq, Addr.mk.injEq, and_true] at e
    obtain ⟨rfl, rfl⟩ := e
    refine .inr ⟨bb, 0, rfl, ?_, fun j hj => (World.cell?_of_block (w := q) (a := ⟨bb, 0 + j, none⟩) (hk bb (.inr rfl))).trans (hc j hj)⟩
    have h2 := hk bb (.inr rfl)
    rcases Nat.lt_or_ge bb q'.heap.size with h3 | h3
    · exact h3
    · rw [Array.getElem?_eq_none h3, Array.getElem?_eq_getElem hl] at h2
      simp at h2
theorem ASt.below {w ws q q' : World} {d r bb cb : Nat} {K : Nat → Prop} {M : D} {N : R} {b : List UInt8} (h : ASt w ws q d r bb cb K M N b) (hb : Below q.heap.size q q') : ASt w ws q' d r bb cb K M N b := by
  have hp := h.pair
  obtain ⟨F, G, _, _, _, _, h5, _⟩ := hp
  exact h.step (h.pair.below hb) (fun j hj => hb.block j (h5 j hj))
theorem ASt.part {w ws q : World} {d r bb cb : Nat} {K : Nat → Prop} {M : D} {N : R} {b : List UInt8} (h : ASt w ws q d r bb cb K M N b) (i : Nat) (hi : 256 * i < b.length) (hl : b.length ≤ 100000000) :
    Calls Try.prog 51 #[.slice (some ⟨bb, 0, none⟩) b.length cb, .int .i64 (i : Int)] q fun e q' => e = .returned (.string (fsecB (padTo b) i)) ∧ ASt w ws q' d r bb cb K M N b := by
  refine (part_any (some ⟨bb, 0, none⟩) b cb i q h.row hi hl).mono ?_
  rintro e q' ⟨rfl, hb⟩
  exact ⟨rfl, h.below hb⟩
theorem ASt.nil {w ws q : World} {d r bb cb : Nat} {K : Nat → Prop} {M : D} {N : R} {b : List UInt8} (h : ASt w ws q d r bb cb K M N b) :
    Calls Try.prog 51 #[.slice none 0 0, .int .i64 0] q fun e q' => e = .returned (.string zsec) ∧ ASt w ws q' d r bb cb K M N b := by
  refine (part_nil q).mono ?_
  rintro e q' ⟨rfl, hb⟩
  exact ⟨rfl, h.below hb⟩
theorem ASt.wr {w ws q : World} {d r bb cb : Nat} {K : Nat → Prop} {M : D} {N : R} {b : List UInt8} (h : ASt w ws q d r bb cb K M N b) (i : Int) (X : ByteArray) (hC : N.W.length ≤ 100000) :
    Calls Try.prog 22 #[.pointer (some ⟨r, 0, none⟩), .int .i64 i, .string X] q fun e q' => e = .returned (.int .i64 (N.wr i X).1) ∧ ASt w ws q' d r bb cb K M (N.wr i X).2 b := by
  refine (p_rwrite i X h.pair hC).mono ?_
  rintro e q' ⟨rfl, hp, hk⟩
  exact ⟨rfl, h.step hp hk⟩
theorem ASt.flush {w ws q : World} {d r bb cb : Nat} {K : Nat → Prop} {M : D} {N : R} {b : List UInt8} (h : ASt w ws q d r bb cb K M N b) (hC : N.W.length ≤ 100000) :
    Calls Try.prog 52 #[.pointer (some ⟨r, 0, none⟩)] q fun e q' => e = .returned (.int .i64 N.flush.1) ∧ ASt w ws q' d r bb cb K M N.flush.2 b := by
  refine (p_rflush h.pair hC).mono ?_
  rintro e q' ⟨rfl, hp, hk⟩
  exact ⟨rfl, h.step hp hk⟩

/-- What Append answers, the document's device and log behind it. -/
def rapF (N : R) (g : G) (L : List ByteArray) : Int × R × G :=
  if g.fl then (50, N, g)
  else if g.fin - g.at' < needN L then (60, N, g)
  else if (rlayF N g (padB g L) (needN L)).1 ≠ 0 then ((rlayF N g (padB g L) (needN L)).1, (rlayF N g (padB g L) (needN L)).2, { g with fl := true })
  else (0, (rlayF N g (padB g L) (needN L)).2, g.pass L)

/-- The document's log where the code's stands. -/
def RLogG (w : World) (m r p n : Nat) (g : G) : Prop := RLog w m r p n g.ep g.nx (g.at' - p) g.fl

theorem refRoom_any (m r p n ep nx us : Nat) (dd : Bool) (w : World) (h : RLog w m r p n ep nx us dd) (h1 : us ≤ n) (h2 : n ≤ 4096) :
    Calls Try.prog 27 #[.pointer (some ⟨m, 0, none⟩)] w fun e w' => e = .returned (.int .i64 ((n - us : Nat) : Int)) ∧ w' = w.drew := by
  have c1 := cell_blk h 2
  have c2 := cell_blk h 5
  simp only [List.getElem?_toArray] at c1 c2
  clear h
  go_enter Try.func27, Try.ntmps27
  go_wp2
  go_region
  all_goals go_wp2
  all_goals go_ret
  all_goals exact ⟨ret_int (by omega), rfl⟩

/-- The document's Append where nothing is laid. -/
theorem rappend_no {ws : World} {r m : Nat} (p n ep nx us : Nat) (dd : Bool) (hm : RLog ws m r p n ep nx us dd) (hus : us ≤ n) (hn : n ≤ 4096) (a : Option Addr) (L : List ByteArray) (cap : Nat) (hL : Strs ws a L) (ht : tot L ≤ 8388608) (v : Int) (hv : (dd = true ∧ v = 50) ∨ (dd = false ∧ n - us < needN L ∧ v = 60)) :
    Calls Try.prog 16 #[.pointer (some ⟨m, 0, none⟩), .slice a L.length cap] ws fun e w' => e = .returned (.int .i64 v) ∧ Below ws.heap.size ws w' := by
  have c6 := cell_blk hm 6
  simp only [List.getElem?_toArray] at c6
  rcases hv with ⟨rfl, rfl⟩ | ⟨rfl, hlt, rfl⟩
  · clear hm hL
    go_enter Try.func16, Try.ntmps16
    go_wp2
    go_ret
    exact ⟨rfl, Below.refl _ _⟩
  · have hne := refNeed_any a L cap ws ht hL
    have HRM : Hid (∀ q, Below ws.heap.size ws q → Calls Try.prog 27 #[.pointer (some ⟨m, 0, none⟩)] q fun e w' => e = .returned (.int .i64 ((n - us : Nat) : Int)) ∧ w' = q.drew) := fun q hq => refRoom_any m r p n ep nx us false q ((hq.block m (Array.getElem?_eq_some_iff.1 hm).1).trans hm) hus hn
    obtain ⟨k, hk⟩ : ∃ k, k = needN L := ⟨_, rfl⟩
    obtain ⟨rm, hrm⟩ : ∃ rm, rm = n - us := ⟨_, rfl⟩
    rw [← hk] at hne hlt
    rw [← hrm] at HRM hlt
    have hi : (rm : Int) < (k : Int) := by omega
    clear hm hL hk hrm hlt
    go_enter Try.func16, Try.ntmps16
    go_wp2_with (first
      | (go_at_call 18; (with_reducible refine Calls.mono hne ?_); rintro e w1 ⟨rfl, hb1⟩; have hrm := HRM.out w1 hb1)
      | (go_at_call 27; (with_reducible refine Calls.mono hrm ?_); rintro e w2 ⟨rfl, rfl⟩))
    go_ret
    exact ⟨rfl, hb1.drew⟩
end Go.Proofs.Ytecljiefljgfmaa

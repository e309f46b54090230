/-
  slices.Collect(slices.Chunk(b, 256)) by its contract.
-/
import Derived.RangeFuncBox
import Derived.RangeFuncLeaves
import Derived.RangeFuncWrites
import Derived.Shelf.Abstract
import Derived.Shelf.RegionOpen
import Derived.WalkKit
import Derived.OwnWalkIn
import Derived.TacticsInMore
import Derived.LoopNIn
import Derived.LoopIn
import Derived.Maps.AppendAt
import Derived.Test.YtfibmkackckodaaOpen
namespace Go.Proofs.Ytfibmkackckodaa
open Go.RowKit Go.Shelf

attribute [local go_sem] Oper.semAt_some

theorem slice_mid (b n c i j : Nat) (h1 : i + 256 = j) (h2 : j ≤ c) (wx : World) : (Instr.slice 50 (.slice (some ⟨b, 0, none⟩) n c) (some (.int .i64 (i : Int))) (some (.int .i64 (j : Int))) (some (.int .i64 (j : Int)))).run Try.prog wx = .ok (.slice (some ⟨b, i, none⟩) 256 256) wx := by
  obtain ⟨i0, hi, hz0, hz1, hz2⟩ := info_parts info5
  have e1 : j - i = 256 := by omega
  simp [Instr.slice, run_underlying Try.underlying50, Instr.sliceBounds, run_sliceBound, sizeOf, typeInfo, hi, hz1, (by omega : (j : Int) ≤ (c : Int)), (by omega : (i : Int) ≤ (j : Int)), e1, Addr.add]
  rw [if_neg (by omega)]
  split
  · rename_i h; subst h; rfl
  · rfl
theorem drew_grown (w : World) : w.grownBy w.drew none := ⟨rfl, rfl, rfl, Nat.le_refl _, fun _ _ _ => rfl⟩
/-- The j-th piece of 256 bytes. -/
def chk (b : Nat) (j : Nat) : Value := .slice (some ⟨b, 256 * j, none⟩) 256 256

theorem chunk_any (b k cap : Nat) (w : World) :
    Calls Try.prog 69 #[.slice (some ⟨b, 0, none⟩) (256 * k) cap, .int .i64 256] w fun e w' => e = .returned (.func (.func 84) #[] #[.pointer (some ⟨w.heap.size, 0, none⟩), .pointer (some ⟨w.heap.size + 1, 0, none⟩)]) ∧ w' = (w.alloc (.cells #[.slice (some ⟨b, 0, none⟩) (256 * k) cap] 50)).alloc (.cells #[.int .i64 256] 3) := by
  go_enter Try.func69, Try.ntmps69
  go_wp2
  go_ret
  exact ⟨rfl, by simp⟩

set_option maxRecDepth 100000 in
set_option maxHeartbeats 2000000 in
theorem chunk1_in (n : Nat) (hn : 1 ≤ n) (l B1 n₀ b k cap : Nat) (hk : k ≤ 4096) (hcap : 256 * k ≤ cap) (hb1 : B1 < n₀) (hb2 : B1 + 1 < n₀) (J Jx : List Nat → World → Prop)
    (hY : ∀ pre x W, J pre W → pre.length < k → YieldAt Fence.wide (n - 1) Try.prog l #[chk b x] W fun e W' =>
      (e = .returned (.bool true) ∧ J (pre ++ [x]) W' ∧ Below n₀ W W') ∨ (e = .returned (.bool false) ∧ Jx (pre ++ [x]) W'))
    (W : World) (hJ : AbidesFrom W.heap.size J) (hc1 : W.cell? ⟨B1, 0, none⟩ = some (.slice (some ⟨b, 0, none⟩) (256 * k) cap)) (hc2 : W.cell? ⟨B1 + 1, 0, none⟩ = some (.int .i64 256)) (h0 : J [] W) :
    CallsIn Fence.wide n Try.prog 84 #[.func (.yield l) #[] #[], .pointer (some ⟨B1, 0, none⟩), .pointer (some ⟨B1 + 1, 0, none⟩)] W fun e W' => (∃ v, e = .returned v) ∧
      ((∃ ys, ys = List.range k ∧ J ys W') ∨ (∃ pre, (∃ m, m ≤ k ∧ pre = List.range m) ∧ Jx pre W')) := by
  refine callsIn_of_wp Try.func84 rfl trivial ?_ rfl
  simp only [Try.ntmps84, List.size_toArray, List.length_cons, List.length_nil, Nat.reduceAdd, Nat.reduceSub, Array.replicate_succ, Array.replicate_zero, List.push_toArray, List.append_toArray, List.nil_append, List.cons_append]
  gi_wp2
  gi_loopw [4] (fun i wr => ∃ m : Nat, m ≤ k ∧ i = .int .i64 ((256 * m : Nat) : Int) ∧ J (List.range m) wr ∧ Below n₀ W wr)
    (fun i _ => 256 * k + 256 - (intOf i).toNat)
  case atStart => exact ⟨0, Nat.zero_le _, rfl, h0, Below.refl _ _⟩
  case round =>
    obtain ⟨m, hm, rfl, hJs, hnx⟩ := hrel
    have c1 := (hnx.cell (p := ⟨B1, 0, none⟩) hb1).trans hc1
    have c2 := (hnx.cell (p := ⟨B1 + 1, 0, none⟩) hb2).trans hc2
    by_cases hlt : m < k
    · obtain ⟨fn, tmps, assign, body, hy, hR⟩ := hY _ m wr.drew (hJ _ _ _ none hJs (drew_grown wr) (fun r e => by cases e)) (by rw [List.length_range]; exact hlt)
      obtain ⟨i, hi⟩ : ∃ i, i = 256 * m := ⟨_, rfl⟩
      obtain ⟨N, hN⟩ : ∃ N, N = 256 * k := ⟨_, rfl⟩
      obtain ⟨r, hr⟩ : ∃ r, r = N - i := ⟨_, rfl⟩
      obtain ⟨i2, hi2⟩ : ∃ i2, i2 = i + 256 := ⟨_, rfl⟩
      rw [chk, ← hi] at hy
      rw [← hi]
      rw [← hN] at c1
      have hiN : (i : Int) < (N : Int) := by omega
      have hs1 : ∀ wx, (Instr.slice 50 (.slice (some ⟨b, 0, none⟩) N cap) (some (.int .i64 (i : Int))) none none).run Try.prog wx = .ok (.slice (some ⟨b, i, none⟩) r (cap - i)) wx := fun wx => by
        have := slice_lo b 0 N cap i (by omega) (by omega) wx
        rw [Nat.zero_add, ← hr] at this
        exact this
      have hs2 : ∀ wx, (Instr.slice 50 (.slice (some ⟨b, 0, none⟩) N cap) (some (.int .i64 (i : Int))) (some (.int .i64 (i2 : Int))) (some (.int .i64 (i2 : Int)))).run Try.prog wx = .ok (.slice (some ⟨b, i, none⟩) 256 256) wx := fun wx => slice_mid b N cap i i2 hi2.symm (by omega) wx
      have hmin : min (256 : Int) (r : Int) = 256 := by omega
      have hi2b : (i : Int) + 256 = (i2 : Int) := by omega
      have HH : Hid (i = 256 * m ∧ i2 = i + 256) := ⟨hi, hi2⟩
      have hi2s : i2 ≤ 2000000 := by omega
      clear hi hN hr hi2
      have mixed : Try.prog.follows .mixedOrders = true := by kernel_rfl
      gi_wp2
      gi_region_o
      all_goals gi_wp2
      all_goals
        (refine hR.mono ?_
         rintro e W3 (⟨rfl, hJ3, hk3⟩ | ⟨rfl, hJx3⟩)
         · have c3 := (((hnx.drew).trans hk3).cell (p := ⟨B1 + 1, 0, none⟩) hb2).trans hc2
           gi_wp2
           go_roundw
           case rel => exact ⟨m + 1, by omega, by have := HH.out.1; go_num, by rw [List.range_succ]; exact hJ3, (hnx.drew).trans hk3⟩
           case measure => have := HH.out.1; simp [intOf]; omega
         · gi_wp2
           refine bodyPost_ret (results_none rfl _ _ _) rfl ?_
           exact ⟨⟨_, rfl⟩, .inr ⟨_, ⟨m + 1, by omega, (List.range_succ).symm⟩, hJx3⟩⟩)
    · obtain rfl : m = k := by omega
      gi_wp2
      go_end0
      exact ⟨⟨_, rfl⟩, .inl ⟨_, rfl, hJs⟩⟩

theorem chunk_stops (n : Nat) (hn : 1 ≤ n) (B1 n₀ b k cap : Nat) (hk : k ≤ 4096) (hcap : 256 * k ≤ cap) (hb2 : B1 + 1 < n₀) (w : World) (hn₀ : n₀ ≤ w.heap.size)
    (hc1 : w.cell? ⟨B1, 0, none⟩ = some (.slice (some ⟨b, 0, none⟩) (256 * k) cap)) (hc2 : w.cell? ⟨B1 + 1, 0, none⟩ = some (.int .i64 256)) :
    SeqStopsK Fence.wide n Try.prog 84 #[.pointer (some ⟨B1, 0, none⟩), .pointer (some ⟨B1 + 1, 0, none⟩)] (fun x : Nat => #[chk b x]) (Below n₀) (fun ys => ys = List.range k) (fun pre => ∃ m, m ≤ k ∧ pre = List.range m) k w := fun l J Jx W hW hJ _ hY h0 =>
  chunk1_in n hn l B1 n₀ b k cap hk hcap (by omega) hb2 J Jx hY W hJ ((hW.cell (p := ⟨B1, 0, none⟩) (by show B1 < w.heap.size; omega)).trans hc1) ((hW.cell (p := ⟨B1 + 1, 0, none⟩) (by show B1 + 1 < w.heap.size; omega)).trans hc2) h0

theorem info50 : (Try.prog.info? 50).map (fun i => (i.zero, i.size, i.bytes)) = some (some (.slice none 0 0), 1, 24) := by kernel_rfl

set_option maxRecDepth 100000 in
set_option maxHeartbeats 2000000 in
theorem appendSeq_in (B1 b k cap : Nat) (hk : k ≤ 4096) (hcap : 256 * k ≤ cap) (w : World) (hb2 : B1 + 1 < w.heap.size)
    (hc1 : w.cell? ⟨B1, 0, none⟩ = some (.slice (some ⟨b, 0, none⟩) (256 * k) cap)) (hc2 : w.cell? ⟨B1 + 1, 0, none⟩ = some (.int .i64 256)) :
    CallsIn Fence.wide 5 Try.prog 83 #[.slice none 0 0, .func (.func 84) #[] #[.pointer (some ⟨B1, 0, none⟩), .pointer (some ⟨B1 + 1, 0, none⟩)]] w fun e W' => ∃ v, e = .returned v ∧ W'.ownsRow w.heap.size 50 1 v k ((List.range k).map (chk b)) ∧ Below w.heap.size w W' := by
  obtain ⟨i0, hi, hz0, hz1, hz2⟩ := info_parts info50
  refine callsIn_of_wp_marks Try.func83 rfl trivial ?_ rfl
  simp only [Try.ntmps83, List.size_toArray, List.length_cons, List.length_nil, Nat.reduceAdd, Nat.reduceSub, Array.replicate_succ, Array.replicate_zero, List.push_toArray, List.append_toArray, List.nil_append, List.cons_append]
  gi_wp2
  have bO := Boxed.new w 83 (.slice none 0 0)
  have hB0 : Below w.heap.size w (w.alloc (.cells #[.slice none 0 0] 83)) := (Below.refl _ w).alloc (Nat.le_refl _) _
  refine wpIn_rangeFunc_ownG rfl (by omega) (gf := 84) (lb := #[.pointer (some ⟨B1, 0, none⟩), .pointer (some ⟨B1 + 1, 0, none⟩)]) rfl trivial (enters_of Try.func84 (by kernel_rfl) rfl)
    (chunk_stops (5 - 1) (by omega) B1 w.heap.size b k cap hk hcap hb2 _ (by simp) ((hB0.cell (p := ⟨B1, 0, none⟩) (by show B1 < w.heap.size; omega)).trans hc1) ((hB0.cell (p := ⟨B1 + 1, 0, none⟩) hb2).trans hc2)) belowK_t (belowK_b (by simp)) (Below.refl _ _) (fun _ => rfl)
    (fun pre W => (∃ v, Boxed W w.heap.size 83 v ∧ W.ownsRow w.heap.size 50 1 v pre.length (pre.map (chk b)) ∧ (v = .slice none 0 0 ↔ pre = [])) ∧ Below w.heap.size w W)
    (fun _ _ _ => False)
    (OwnFrom.and (Own.from (holdsRow_own w.heap.size w.heap.size 83 50 1 (fun pre : List Nat => pre.length) (fun pre => pre.map (chk b)) (fun pre v => v = .slice none 0 0 ↔ pre = [])) _) (ownFrom_below (Nat.le_refl _) (by simp)))
    (fun _ _ _ _ _ hs _ _ => hs)
    ⟨⟨_, bO, World.ownsRow_nil _ _ _ _, by simp⟩, hB0⟩
    (fun x => { tmps := #[.slice none 0 0, .func (.func 84) #[] #[.pointer (some ⟨B1, 0, none⟩), .pointer (some ⟨B1 + 1, 0, none⟩)], .pointer (some ⟨w.heap.size, 0, none⟩), undef, .slice none 0 0, chk b x, .func (.func 84) #[] #[.pointer (some ⟨B1, 0, none⟩), .pointer (some ⟨B1 + 1, 0, none⟩)], chk b x, undef, undef, undef, undef, undef], defers := [] }) ?assign ?body ?done ?stop
  case assign =>
    intro l x W K hK
    gi_wp2
    exact hK
  case body =>
    rintro l pre x W ⟨⟨v, hv, hrow, hnil⟩, hB⟩ hlt
    have hc := hv.cell
    rw [show chk b x = Value.slice (some ⟨b, 256 * x, none⟩) 256 256 from rfl]
    gi_wp2_with (gi_at_builtin; refine wpListIn_append_own _ rfl _ _ 83 rfl w.heap.size 50 i0 (.slice none 0 0) 1 24 Try.underlying83 hi hz0 hz1 hz2 rfl (by decide) _ _ _ rfl (hrow.alloc _) ⟨W.heap.size, 0, none⟩ 1 1 [.slice (some ⟨b, 256 * x, none⟩) 256 256] rfl rfl (cell_one_new _ _ _) (by simp [Value.oneCell']) (by unfold maxLen; omega) (by omega) (by have := hB.size; simp; omega) ?_; intro v' w1 hown' hgrow _; obtain ⟨g', cap', rfl⟩ := ownsRow_succ hown'; obtain ⟨hv1, hv2, hr2, hk2, hb2⟩ := hv.appended (by decide) hrow hB.size (Nat.le_refl _) hown' hgrow; have hc1 := hv1.cell; have hf1 := hv1.frozen)
    refine ⟨hk2.from _, hb2, ⟨_, hv2, ?_, by simp⟩, hB.trans hb2⟩
    rw [List.length_append, List.map_append]
    exact hr2
  case done =>
    rintro D ys W hD rfl ⟨⟨v, hv, hrow, hnil⟩, hB⟩ hK
    have hc := hv.cell
    gi_wp2
    refine ⟨by simp, .inl ⟨_, _, rfl, run_takeDeferred hK, ?_⟩⟩
    refine ⟨_, results_tmp rfl _ _ _, v, rfl, ?_, hB.trans (belowK_b (w := w) (Nat.le_refl _) W D _ _ (by simp at hD; omega) hK rfl rfl)⟩
    rw [List.length_range] at hrow
    exact ownsRow_putObj hrow _ hK rfl
  case stop =>
    rintro D c pre W _ _ h _
    exact h.elim

set_option maxHeartbeats 1000000 in
theorem collect_any (B1 b k cap : Nat) (hk : k ≤ 4096) (hcap : 256 * k ≤ cap) (w : World) (hb2 : B1 + 1 < w.heap.size)
    (hc1 : w.cell? ⟨B1, 0, none⟩ = some (.slice (some ⟨b, 0, none⟩) (256 * k) cap)) (hc2 : w.cell? ⟨B1 + 1, 0, none⟩ = some (.int .i64 256)) :
    Calls Try.prog 68 #[.func (.func 84) #[] #[.pointer (some ⟨B1, 0, none⟩), .pointer (some ⟨B1 + 1, 0, none⟩)]] w fun e W' => ∃ v, e = .returned v ∧ W'.ownsRow w.heap.size 50 1 v k ((List.range k).map (chk b)) ∧ Below w.heap.size w W' := by
  have ha := callsIn_wide.1 (appendSeq_in B1 b k cap hk hcap w hb2 hc1 hc2)
  clear hc1 hc2 hb2 hcap
  go_enter Try.func68, Try.ntmps68
  go_wp2_with fail
  refine Calls.mono ha ?_
  rintro e w1 ⟨v, rfl, h1, h2⟩
  go_wp2
  go_ret
  exact ⟨v, rfl, h1, h2⟩
end Go.Proofs.Ytfibmkackckodaa

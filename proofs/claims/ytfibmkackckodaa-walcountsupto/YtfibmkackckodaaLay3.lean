/-
  How a frame is laid with noughts behind it.
-/
import Derived.Test.YtfibmkackckodaaLay2
namespace Go.Proofs.Ytfibmkackckodaa
open Go.RowKit

def zsl (q : Nat) : Sl := ⟨some ⟨q, 0, none⟩, List.replicate 256 0, 256⟩
theorem sls_v {b : Nat} {P : List UInt8} {n : Nat} (hP : P.length = 256 * n) : (sls b P n).map Sl.v = (List.range n).map (chk b) := by
  rw [sls, List.map_map]
  refine List.map_congr_left ?_
  intro j hj
  exact slc_v hP (List.mem_range.1 hj)
theorem Dev.wider {w : World} {F G : Nat → Prop} {d : Nat} {M : D} (h : Dev w F d M) (hFG : ∀ k, F k → G k) (hG : ∀ k, G k → k < w.heap.size) : Dev w G d M := by
  obtain ⟨q1, _, lv, sv, cv, q3, q4⟩ := h
  exact ⟨q1, hG, lv, sv, cv, q3, fun k hk => hFG k (q4 k hk)⟩
theorem Dev.lts {w : World} {F : Nat → Prop} {d : Nat} {M : D} (h : Dev w F d M) : ∀ k, F k → k < w.heap.size := h.2.1

set_option maxHeartbeats 1000000 in
theorem more_step (l d : Nat) (g : G) (base gr b n cr : Nat) (P : List UInt8) (w : World) (F : Nat → Prop) (M : D) (h : Dev w F d M) (hL : LogV w l d g) (hok : g.Ok) (hlF : ¬ F l)
    (hrow : w.ownsRow base 50 1 (.slice (some ⟨gr, 0, none⟩) n cr) n ((List.range n).map (chk b))) (hP : Bytes w (some ⟨b, 0, none⟩) P) (hPl : P.length = 256 * n) (hn : 1 ≤ n) (hnr : n < g.fin - g.at') (hgF : ¬ F gr) (hbF : ¬ F b) (hC : M.C.length ≤ 80000)
    (w2 : World) (hz : w2.heap[w.heap.size]? = some (.cells (bcs (List.replicate 256 0)).toArray 5 (0, 0))) (hb2 : Below w.heap.size w w2) (o : Nat) (ho : o = if cr = 1 then 0 else 1) (R : Int × D) (hR : R = wrsF M (g.at' + 1) (behind P n (decide (n < g.fin - g.at')))) :
    ∃ b' off' c' w4, (∀ ty, (Builtin.append_ #[83, 83] ty #[.slice (some ⟨gr, o, none⟩) (n - 1) (cr - 1), .slice (some ⟨w2.heap.size, 0, none⟩) 1 1]).run Try.prog (w2.alloc (.cells #[.slice (some ⟨w.heap.size, 0, none⟩) 256 256] 50)) = .ok (.slice (some ⟨b', off', none⟩) n c') w4) ∧
      w4.cell? ⟨l, 1, none⟩ = some (.int .i64 (g.at' : Int)) ∧
      (Calls Try.prog 64 #[.pointer (some ⟨l, 0, none⟩), .int .i64 ((g.at' : Int) + 1), .slice (some ⟨b', off', none⟩) n c'] w4 fun e w' => e = .returned (.int .i64 R.1) ∧ Dev w' (Grow F w4 w') d R.2 ∧ Turn F w4 w') ∧
      (∀ w5, Dev w5 (Grow F w4 w5) d R.2 → Turn F w4 w5 → R.2.C = [] → w5.cell? ⟨l, 1, none⟩ = some (.int .i64 (g.at' : Int)) ∧ Calls Try.prog 64 #[.pointer (some ⟨l, 0, none⟩), .int .i64 (g.at' : Int), .slice (some ⟨gr, 0, none⟩) 1 cr] w5 fun e w' => e = .returned (.int .i64 (wrsF R.2 g.at' [fsecB P 0]).1) ∧ Dev w' (Grow F w4 w') d (wrsF R.2 g.at' [fsecB P 0]).2 ∧ Turn F w4 w') ∧
      Turn (fun k => k = gr) w w4 := by
  have hn4 : n ≤ 4096 := by have := hok.top; omega
  have hat4 : g.at' ≤ 4096 := by have := hok.top; have := hok.le; omega
  obtain ⟨g', c', he, hncr, hbg, hglt⟩ := owns_head hrow hn
  simp only [Value.slice.injEq, Option.some.injEq, Addr.mk.injEq, and_true] at he
  obtain ⟨rfl, _, rfl⟩ := he
  have hltl : l < w.heap.size := (Array.getElem?_eq_some_iff.1 hL).1
  have hc0 : w.cell? ⟨gr, 0, none⟩ = some (chk b 0) := owns_cell hrow (by rw [List.getElem?_map, List.getElem?_range (by omega)]; rfl)
  obtain ⟨hbl, hbc⟩ : b < w.heap.size ∧ ∃ x : UInt8, w.cell? ⟨b, 0, none⟩ = some (.int .u8 (x.toNat : Int)) := by
    rcases hP with h0 | ⟨b', off', e', hb', hcc⟩
    · rw [h0] at hPl; simp at hPl; omega
    · simp only [Option.some.injEq, Addr.mk.injEq, and_true] at e'
      obtain ⟨rfl, rfl⟩ := e'
      exact ⟨hb', _, hcc 0 (by omega)⟩
  have hbgr : b ≠ gr := by
    rintro rfl
    obtain ⟨x, hx⟩ := hbc
    rw [hc0] at hx
    simp [chk] at hx
  have hlgr : l ≠ gr := by
    rintro rfl
    have : w.cell? ⟨l, 0, none⟩ = some (.pointer (some ⟨d, 0, none⟩)) := cell_blk hL 0
    rw [hc0] at this
    simp [chk] at this
  have hq2 : w.heap.size < w2.heap.size := (Array.getElem?_eq_some_iff.1 hz).1
  obtain ⟨w3, hw3⟩ : ∃ w3, w3 = w2.alloc (.cells #[.slice (some ⟨w.heap.size, 0, none⟩) 256 256] 50) := ⟨_, rfl⟩
  have hb3 : Below w.heap.size w w3 := by rw [hw3]; exact hb2.alloc hb2.size _
  have hrow3 : w3.ownsRow base 50 1 (.slice (some ⟨gr, 0, none⟩) n cr) n ((List.range n).map (chk b)) := owns_other hrow fun j hj => by
    simp [Value.ownBlock] at hj
    subst hj
    exact hb3.block _ hglt
  have hs3 : w3.cell? ⟨w2.heap.size, 0, none⟩ = some (.slice (some ⟨w.heap.size, 0, none⟩) 256 256) := by
    rw [hw3]; exact cell_blk (heap_alloc_new w2 _) 0
  have hz3 : w3.heap[w.heap.size]? = some (.cells (bcs (List.replicate 256 0)).toArray 5 (0, 0)) := by rw [hw3]; exact (Below.heap_alloc w2 _ _ hq2).trans hz
  obtain ⟨b', off', cap', w4, hrun, hcells, hgr, hbb, hblt, hfirst⟩ := tail_append hrow3 hn hn4 w2.heap.size _ rfl hs3 o ho
  have ht34 : Turn (fun k => k = gr) w3 w4 := Turn.of_grown hgr (by intro k e; simpa using e.symm)
  have ht : Turn (fun k => k = gr) w w4 := (Turn.of_below hb3).trans' ht34
  have hD4 : Dev w4 F d M := h.other ht (by intro k hk e; subst e; exact hgF hk)
  have hL4 : LogV w4 l d g := (ht.block l hltl hlgr).trans hL
  have hF := h.lts
  have hP4 : Bytes w4 (some ⟨b, 0, none⟩) P := hP.turn ht (by intro ad e; simp only [Option.some.injEq] at e; subst e; exact hbgr)
  have hz4 : Bytes w4 (some ⟨w.heap.size, 0, none⟩) (List.replicate 256 0) := by
    right
    have h3s : w2.heap.size ≤ w3.heap.size := by rw [hw3]; simp
    have hz4' := (ht34.block w.heap.size (by omega) (by omega)).trans hz3
    refine ⟨w.heap.size, 0, rfl, by have := ht34.size; omega, ?_⟩
    intro j hj
    rw [cell_blk hz4' _, List.getElem?_toArray, bcs, List.getElem?_map, Nat.zero_add, List.getElem?_eq_getElem hj]
    rfl
  have hlen : ((sls b P n).drop 1 ++ [zsl w.heap.size]).length = n := by rw [List.length_append, List.length_drop, sls_length]; simp; omega
  have hv : ((sls b P n).drop 1 ++ [zsl w.heap.size]).map Sl.v = ((List.range n).map (chk b)).drop 1 ++ [.slice (some ⟨w.heap.size, 0, none⟩) 256 256] := by
    rw [List.map_append, List.map_drop, sls_v hPl]
    show _ ++ [Value.slice (some ⟨w.heap.size, 0, none⟩) (List.replicate 256 (0 : UInt8)).length 256] = _
    rw [List.length_replicate]
  have hbB : ((sls b P n).drop 1 ++ [zsl w.heap.size]).map Sl.b = behind P n (decide (n < g.fin - g.at')) := by
    rw [List.map_append, List.map_drop, sls_b, behind, decide_eq_true hnr]; rfl
  have hall : ∀ s ∈ (sls b P n).drop 1 ++ [zsl w.heap.size], Bytes w4 s.a s.l ∧ (∀ ad, s.a = some ad → ¬ F ad.block) ∧ s.l.length = 256 := by
    intro s hs
    rcases List.mem_append.1 hs with hs | hs
    · obtain ⟨j, hj, rfl⟩ := List.mem_map.1 (List.mem_of_mem_drop hs)
      refine ⟨fsec_bytes hP4 j, ?_, fsec_length hPl (List.mem_range.1 hj)⟩
      intro ad e
      simp only [slc, Option.some.injEq] at e
      subst e
      exact hbF
    · obtain rfl := List.mem_singleton.1 hs
      refine ⟨hz4, ?_, List.length_replicate⟩
      intro ad e
      simp only [zsl, Option.some.injEq] at e
      subst e
      intro hf
      have := hF _ hf
      simp at this
  have hrw : RwsAt w4 F b' off' ((sls b P n).drop 1 ++ [zsl w.heap.size]) := by
    refine ⟨hblt, ?_, ?_⟩
    · intro hf
      rcases hbb with rfl | hbb
      · exact hgF hf
      · have := hF _ hf
        have := hb3.size
        omega
    · intro j hj
      refine ⟨?_, hall _ (List.getElem_mem hj)⟩
      rw [hcells j (by omega), ← hv, List.getElem?_map, List.getElem?_eq_getElem hj]
      rfl
  have hwa := lwrite_any l d g (g.at' + 1) (some ⟨b', off', none⟩) ((sls b P n).drop 1 ++ [zsl w.heap.size]) cap' w4 F M hD4 hL4 hlF (.inr ⟨b', off', rfl, hrw⟩) (by omega) (by omega)
  rw [hlen, hbB, ← hR, show ((g.at' + 1 : Nat) : Int) = (g.at' : Int) + 1 from by omega] at hwa
  refine ⟨b', off', cap', w4, by rw [← hw3]; exact hrun, cell_blk hL4 1, hwa, ?_, ht⟩
  intro w5
  have hc4 : w4.cell? ⟨gr, 0, none⟩ = some (chk b 0) := by
    rw [hfirst, List.getElem?_map, List.getElem?_range (by omega)]; rfl
  have := ht.size
  exact first_write l d g gr b n cr P w4 w5 F R.2 hL4 hlF hc4 (by omega) hP4 (by omega) hPl hn hgF hbF hat4
end Go.Proofs.Ytfibmkackckodaa

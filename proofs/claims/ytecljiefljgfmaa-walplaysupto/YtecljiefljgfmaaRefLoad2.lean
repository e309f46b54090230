/-
  The document's Load by its contract.
-/
import Derived.Test.YtecljiefljgfmaaRefLoad
namespace Go.Proofs.Ytecljiefljgfmaa
open Go.RowKit

/-- What the document's Load answers. -/
def RLoadR (e : Ending) (w' : World) : Option (Nat × List UInt8) → Prop
  | none => e = .returned (.tuple #[.agg #[.bool false, .int .u64 0, .slice none 0 0], .int .i64 61])
  | some x => ∃ a c, e = .returned (.tuple #[.agg #[.bool true, .int .u64 (x.1 : Int), .slice a x.2.length c], .int .i64 0]) ∧ Bytes w' a x.2
def boxSt : Option (Nat × List UInt8) → List UInt8
  | none => []
  | some x => x.2
def SlotA (K : FuncId) (vs : Array Value) (f : Bool) (ep : Nat) (st : List UInt8) (q : World) : Prop :=
  Calls Try.prog K vs q fun e w' => ∃ a c, e = .returned (.tuple #[.agg #[.bool f, .int .u64 (ep : Int), .slice a st.length c], .int .i64 0]) ∧ Bytes w' a st ∧ Below q.heap.size q w'

theorem rslot_any {w wr : World} {d r : Nat} {K : Nat → Prop} {M : D} {N : R} (h : Pair w wr d r K M N) (hs : Sim M N) (hst : M.st ≠ 2) (hS : ∀ x ∈ M.S, x.size = 256) (hW : N.W.length ≤ 10000) (p n j : Nat) (h1 : 1 ≤ n) (hn : p + n ≤ M.L.length) (hj : j < 2) :
    SlotA 66 #[.pointer (some ⟨r, 0, none⟩), .int .i64 (p : Int), .int .i64 (n : Int), .int .u64 (j : Int)] (slotQ M.S p n j).isSome (boxEp (slotQ M.S p n j)) (boxSt (slotQ M.S p n j)) wr := by
  cases hQ : slotQ M.S p n j with
  | none =>
    refine Calls.mono (rslot_none h hs hst hS hW p n j h1 hn hj hQ) ?_
    rintro e w' ⟨rfl, hb⟩
    exact ⟨none, 0, rfl, .inl rfl, hb⟩
  | some x => exact rslot_some h hs hst hS hW p n j h1 hn hj x.1 x.2 hQ

theorem bytes_set3 {w : World} {s : Nat} {f : Bool} {x : Int} {a0 : Option Addr} {n0 c0 : Nat} (hb : w.heap[s]? = some (.cells #[.bool f, .int .u64 x, .slice a0 n0 c0] 73 (0, 0))) {a : Option Addr} {l : List UInt8} (h : Bytes w a l) (y0 y1 y2 : Value) : Bytes (((w.setCell ⟨s, 0, none⟩ y0).setCell ⟨s, 1, none⟩ y1).setCell ⟨s, 2, none⟩ y2) a l := by
  have hT : Turn (fun k => k = s) w (((w.setCell ⟨s, 0, none⟩ y0).setCell ⟨s, 1, none⟩ y1).setCell ⟨s, 2, none⟩ y2) := (((Turn.refl (fun k => k = s) w).setCell (p := ⟨s, 0, none⟩) rfl _).setCell (p := ⟨s, 1, none⟩) rfl _).setCell (p := ⟨s, 2, none⟩) rfl _
  by_cases hl : l = []
  · exact .inl hl
  · refine h.turn hT ?_
    rintro ad rfl hs
    rcases h with h | ⟨b, off, hab, hlt, hc⟩
    · exact hl h
    · cases hab
      have hs' : b = s := hs
      subst hs'
      have h0 := hc 0 (List.length_pos_iff.2 hl)
      rw [cell_blk hb] at h0
      rcases off with _ | _ | _ | off <;> simp at h0

set_option maxHeartbeats 4000000 in
set_option maxRecDepth 20000 in
theorem rload_try (wr : World) (r p n : Nat) (fa fb : Bool) (ea eb : Nat) (sa sb : List UInt8) (hp : p ≤ 4096) (hn : n ≤ 4096)
    (hrg : ∀ q, Below wr.heap.size wr q → Calls Try.prog 63 #[.pointer (some ⟨r, 0, none⟩), .int .i64 (p : Int), .int .i64 (n : Int)] q fun e w' => e = .returned (.bool true) ∧ Below q.heap.size q w')
    (ha : ∀ q, Below wr.heap.size wr q → SlotA 66 #[.pointer (some ⟨r, 0, none⟩), .int .i64 (p : Int), .int .i64 (n : Int), .int .u64 0] fa ea sa q)
    (hb : ∀ q, Below wr.heap.size wr q → SlotA 66 #[.pointer (some ⟨r, 0, none⟩), .int .i64 ((p : Int) + (n : Int)), .int .i64 (n : Int), .int .u64 1] fb eb sb q) :
    Calls Try.prog 34 #[.pointer (some ⟨r, 0, none⟩), .int .i64 (p : Int), .int .i64 (n : Int)] wr fun e w' => RLoadR e w' (if fa = true then (if fb = true ∧ ea < eb then some (eb, sb) else some (ea, sa)) else if fb = true then some (eb, sb) else none) ∧ Below wr.heap.size wr w' := by
  obtain ⟨W, hW'⟩ : ∃ W, W = wr.alloc (.cells #[.bool false, .int .u64 0, .slice none 0 0] 73) := ⟨_, rfl⟩
  obtain ⟨s, hsz⟩ : ∃ s, s = wr.heap.size := ⟨_, rfl⟩
  have hblk : W.heap[s]? = some (.cells #[.bool false, .int .u64 0, .slice none 0 0] 73 (0, 0)) := by rw [hW', hsz]; exact heap_alloc_new wr _
  have hsge : wr.heap.size ≤ s := by omega
  have hWB : Below wr.heap.size wr W := by rw [hW']; exact (Below.refl _ _).alloc (Nat.le_refl _) _
  have hrgW := hrg W hWB
  clear hrg
  go_enter Try.func34, Try.ntmps34
  go_wp2_with fail
  rw [← hW', ← hsz]
  clear hW' hsz
  refine Calls.mono hrgW ?_
  rintro e w1 ⟨rfl, hb1⟩
  have hB1 : Below wr.heap.size wr w1 := hWB.trans (hb1.mono hWB.size)
  have haW := ha w1 hB1
  unfold SlotA at haW
  clear hrgW
  go_wp2_with fail
  refine Calls.mono haW ?_
  rintro e w2 ⟨aa, ca, rfl, hby2, hb2⟩
  go_wp2_with fail
  obtain ⟨w3, hw3⟩ : ∃ w3, w3 = w2.alloc (.cells #[.bool fa, .int .u64 (ea : Int), .slice aa sa.length ca] 73) := ⟨_, rfl⟩
  obtain ⟨t, ht⟩ : ∃ t, t = w2.heap.size := ⟨_, rfl⟩
  have hblk3 : w3.heap[t]? = some (.cells #[.bool fa, .int .u64 (ea : Int), .slice aa sa.length ca] 73 (0, 0)) := by rw [hw3, ht]; exact heap_alloc_new w2 _
  have hb3 : Below w2.heap.size w2 w3 := by rw [hw3]; exact (Below.refl _ _).alloc (Nat.le_refl _) _
  rw [← hw3, ← ht]
  clear hw3
  have hB3 : Below wr.heap.size wr w3 := (hB1.trans (hb2.mono hB1.size)).trans (hb3.mono (Nat.le_trans hB1.size hb2.size))
  have hbW := hb w3 hB3
  unfold SlotA at hbW
  refine Calls.mono hbW ?_
  rintro e w4 ⟨ab, cb, rfl, hby4, hb4⟩
  clear hbW haW ha hb
  go_upto_region 9 with fail
  obtain ⟨w5, hw5⟩ : ∃ w5, w5 = w4.alloc (.cells #[.bool fb, .int .u64 (eb : Int), .slice ab sb.length cb] 73) := ⟨_, rfl⟩
  obtain ⟨u, hu⟩ : ∃ u, u = w4.heap.size := ⟨_, rfl⟩
  have hblku : w5.heap[u]? = some (.cells #[.bool fb, .int .u64 (eb : Int), .slice ab sb.length cb] 73 (0, 0)) := by rw [hw5, hu]; exact heap_alloc_new w4 _
  have hb5 : Below w4.heap.size w4 w5 := by rw [hw5]; exact (Below.refl _ _).alloc (Nat.le_refl _) _
  rw [← hw5, ← hu, ← ht]
  have hb35 : Below w3.heap.size w3 w5 := hb4.trans (hb5.mono hb4.size)
  have hblkt : w5.heap[t]? = some (.cells #[.bool fa, .int .u64 (ea : Int), .slice aa sa.length ca] 73 (0, 0)) := (hb35.block t (Array.getElem?_eq_some_iff.1 hblk3).1).trans hblk3
  have hb25 : Below w2.heap.size w2 w5 := hb3.trans (hb35.mono hb3.size)
  have hbW5 : Below W.heap.size W w5 := (hb1.trans (hb2.mono hb1.size)).trans (hb25.mono (Nat.le_trans hb1.size hb2.size))
  have hblks : w5.heap[s]? = some (.cells #[.bool false, .int .u64 0, .slice none 0 0] 73 (0, 0)) := (hbW5.block s (Array.getElem?_eq_some_iff.1 hblk).1).trans hblk
  have hBW : Below wr.heap.size wr w5 := hWB.trans (hbW5.mono hWB.size)
  have HBY : Hid (Bytes w5 aa sa ∧ Bytes w5 ab sb ∧ Below wr.heap.size wr w5 ∧ wr.heap.size ≤ s ∧ w5.heap[s]? = some (.cells #[.bool false, .int .u64 0, .slice none 0 0] 73 (0, 0))) := ⟨hby2.below hb25 (Nat.le_refl _), hby4.below hb5 (Nat.le_refl _), hBW, hsge, hblks⟩
  have s0 := cell_blk hblks 0
  have s1 := cell_blk hblks 1
  have s2 := cell_blk hblks 2
  have g0 := frozen_blk hblks 0
  have g1 := frozen_blk hblks 1
  have g2 := frozen_blk hblks 2
  have t0 := cell_blk hblkt 0
  have t1 := cell_blk hblkt 1
  have t2 := cell_blk hblkt 2
  have u0 := cell_blk hblku 0
  have u1 := cell_blk hblku 1
  have u2 := cell_blk hblku 2
  have lt := box3_load hblkt
  have lu := box3_load hblku
  simp only [List.getElem?_toArray] at s0 s1 s2 t0 t1 t2 u0 u1 u2
  clear hw5 hu ht hblku hb5 hb35 hblkt hb25 hbW5 hblks hBW hby2 hby4 hb4 hB3 hb3 hblk3 hb2 hB1 hb1 hWB hblk hsge
  cases fa
  · cases fb
    · go_wp2
      (try simp only [Exit.inBlock, Exit.then])
      refine bodyPost_ret (v := .tuple #[.agg #[.bool false, .int .u64 0, .slice none 0 0], .int .i64 61]) ?_ rfl ⟨?_, ((HBY.out.2.2.1.setCell HBY.out.2.2.2.1 _).setCell HBY.out.2.2.2.1 _).setCell HBY.out.2.2.2.1 _⟩
      · rw [results_cell_tmp rfl]
        simp [asAddr, Result.andThen, box3_load (box3_set HBY.out.2.2.2.2 (.bool false) (.int .u64 0) (.slice none 0 0))]
      · exact rfl
    · go_wp2
      (try simp only [Exit.inBlock, Exit.then])
      refine bodyPost_ret (v := .tuple #[.agg #[.bool true, .int .u64 (eb : Int), .slice ab sb.length cb], .int .i64 0]) ?_ rfl ⟨?_, ((HBY.out.2.2.1.setCell HBY.out.2.2.2.1 _).setCell HBY.out.2.2.2.1 _).setCell HBY.out.2.2.2.1 _⟩
      · rw [results_cell_tmp rfl]
        simp [asAddr, Result.andThen, box3_load (box3_set HBY.out.2.2.2.2 (.bool true) (.int .u64 (eb : Int)) (.slice ab sb.length cb))]
      · exact ⟨ab, cb, rfl, bytes_set3 HBY.out.2.2.2.2 HBY.out.2.1 _ _ _⟩
  · cases fb
    · go_wp2
      (try simp only [Exit.inBlock, Exit.then])
      refine bodyPost_ret (v := .tuple #[.agg #[.bool true, .int .u64 (ea : Int), .slice aa sa.length ca], .int .i64 0]) ?_ rfl ⟨?_, ((HBY.out.2.2.1.setCell HBY.out.2.2.2.1 _).setCell HBY.out.2.2.2.1 _).setCell HBY.out.2.2.2.1 _⟩
      · rw [results_cell_tmp rfl]
        simp [asAddr, Result.andThen, box3_load (box3_set HBY.out.2.2.2.2 (.bool true) (.int .u64 (ea : Int)) (.slice aa sa.length ca))]
      · exact ⟨aa, ca, rfl, bytes_set3 HBY.out.2.2.2.2 HBY.out.1 _ _ _⟩
    · by_cases hlt : ea < eb
      · have hlz : (ea : Int) < (eb : Int) := by omega
        go_wp2
        (try simp only [Exit.inBlock, Exit.then])
        refine bodyPost_ret (v := .tuple #[.agg #[.bool true, .int .u64 (eb : Int), .slice ab sb.length cb], .int .i64 0]) ?_ rfl ⟨?_, ((HBY.out.2.2.1.setCell HBY.out.2.2.2.1 _).setCell HBY.out.2.2.2.1 _).setCell HBY.out.2.2.2.1 _⟩
        · rw [results_cell_tmp rfl]
          simp [asAddr, Result.andThen, box3_load (box3_set HBY.out.2.2.2.2 (.bool true) (.int .u64 (eb : Int)) (.slice ab sb.length cb))]
        · exact ⟨ab, cb, rfl, bytes_set3 HBY.out.2.2.2.2 HBY.out.2.1 _ _ _⟩
      · have hlz : ¬ (ea : Int) < (eb : Int) := by omega
        go_wp2
        (try simp only [Exit.inBlock, Exit.then])
        refine bodyPost_ret (v := .tuple #[.agg #[.bool true, .int .u64 (ea : Int), .slice aa sa.length ca], .int .i64 0]) ?_ rfl ⟨?_, ((HBY.out.2.2.1.setCell HBY.out.2.2.2.1 _).setCell HBY.out.2.2.2.1 _).setCell HBY.out.2.2.2.1 _⟩
        · rw [results_cell_tmp rfl]
          simp [asAddr, Result.andThen, box3_load (box3_set HBY.out.2.2.2.2 (.bool true) (.int .u64 (ea : Int)) (.slice aa sa.length ca))]
        · exact ⟨aa, ca, rfl, bytes_set3 HBY.out.2.2.2.2 HBY.out.1 _ _ _⟩

theorem slotQ_par {S : List ByteArray} {p n j : Nat} {x : Nat × List UInt8} (h : slotQ S p n j = some x) : x.1 % 2 = j := by
  rw [slotQ] at h
  split at h
  · cases h
  · split at h
    · cases h; assumption
    · cases h
theorem better_eq {a b : Option (Nat × List UInt8)} (ha : ∀ x, a = some x → x.1 % 2 = 0) (hb : ∀ x, b = some x → x.1 % 2 = 1) : (if a.isSome = true then (if b.isSome = true ∧ boxEp a < boxEp b then some (boxEp b, boxSt b) else some (boxEp a, boxSt a)) else if b.isSome = true then some (boxEp b, boxSt b) else none) = better a b := by
  rcases a with _ | ⟨x, l⟩
  · rcases b with _ | ⟨y, m⟩
    · rfl
    · rfl
  · rcases b with _ | ⟨y, m⟩
    · simp [better, boxEp, boxSt]
    · have h0 := ha _ rfl
      have h1 := hb _ rfl
      simp only at h0 h1
      by_cases hlt : y < x
      · have : ¬ x < y := by omega
        simp [better, boxEp, boxSt, hlt, this]
      · have : x < y := by omega
        simp [better, boxEp, boxSt, hlt, this]
theorem rload_ok {w wr : World} {d r : Nat} {K : Nat → Prop} {M : D} {N : R} (h : Pair w wr d r K M N) (hs : Sim M N) (hst : M.st ≠ 2) (hS : ∀ x ∈ M.S, x.size = 256) (hW : N.W.length ≤ 10000) (p n : Nat) (hr : regB N.L.length p n = true) :
    Calls Try.prog 34 #[.pointer (some ⟨r, 0, none⟩), .int .i64 (p : Int), .int .i64 (n : Int)] wr fun e w' => RLoadR e w' (loadF M.S p n) ∧ Below wr.heap.size wr w' := by
  have hrb := hr
  simp only [regB, decide_eq_true_eq] at hrb
  have hNL : N.L.length ≤ 4096 := by rw [hs.l]; exact h.ok.top
  have hML : N.L.length = M.L.length := by rw [hs.l]
  have hrg : ∀ q, Below wr.heap.size wr q → _ := fun q (hq : Below wr.heap.size wr q) => region_any (h.below hq) p n (by omega) (by omega) (by omega) hNL
  rw [hr] at hrg
  have hA : ∀ q, Below wr.heap.size wr q → _ := fun q (hq : Below wr.heap.size wr q) => rslot_any (h.below hq) hs hst hS hW p n 0 (by omega) (by omega) (by omega)
  have hB : ∀ q, Below wr.heap.size wr q → _ := fun q (hq : Below wr.heap.size wr q) => rslot_any (h.below hq) hs hst hS hW (p + n) n 1 (by omega) (by omega) (by omega)
  rw [show ((p + n : Nat) : Int) = (p : Int) + (n : Int) from by omega] at hB
  have := rload_try wr r p n _ _ _ _ _ _ (by omega) (by omega) hrg hA hB
  rw [better_eq (fun x hx => slotQ_par hx) (fun x hx => slotQ_par hx)] at this
  exact this
end Go.Proofs.Ytecljiefljgfmaa

/-
  The document's Load by its contract; the code's where the place is bad or the device is dead.
-/
import Derived.Test.YtecljiefljgfmaaRefSlot2
namespace Go.Proofs.Ytecljiefljgfmaa
open Go.RowKit

theorem slotQ_none {S : List ByteArray} {p n j : Nat} (h : slotQ S p n j = none) (_hm : (slotHead S p).take 4 = markL) (hp : slotEp S p % 2 = j) (hf : fitsB n (slotSz S p) = true) : ¬ slotHead S p = headL (slotEp S p) (slotSt S p) := by
  intro e
  have hr : slotR S p n = some (slotEp S p, slotSt S p) := by rw [slotR, if_pos ⟨hf, e⟩]
  rw [slotQ, hr] at h
  simp [hp] at h
theorem rslot_none {w wr : World} {d r : Nat} {K : Nat → Prop} {M : D} {N : R} (h : Pair w wr d r K M N) (hs : Sim M N) (hst : M.st ≠ 2) (hS : ∀ x ∈ M.S, x.size = 256) (hW : N.W.length ≤ 10000) (p n j : Nat) (h1 : 1 ≤ n) (hn : p + n ≤ M.L.length) (hj : j < 2) (hQ : slotQ M.S p n j = none) :
    Calls Try.prog 66 #[.pointer (some ⟨r, 0, none⟩), .int .i64 (p : Int), .int .i64 (n : Int), .int .u64 (j : Int)] wr fun e w' => e = .returned (.tuple #[.agg #[.bool false, .int .u64 0, .slice none 0 0], .int .i64 0]) ∧ Below wr.heap.size wr w' := by
  by_cases hm : (slotHead M.S p).take 4 = markL
  · by_cases hp : slotEp M.S p % 2 = j
    · cases hf : fitsB n (slotSz M.S p) with
      | false => exact rslot_fit h hs hst hS hW p n j h1 hn hj hm hp hf
      | true =>
        refine Calls.mono (rslot_go h hs hst hS hW p n j h1 hn hj hm hp hf false (decide_eq_false (slotQ_none hQ hm hp hf)).symm) ?_
        rintro e w' ⟨a, c, rfl, _, hb⟩
        exact ⟨rfl, hb⟩
    · exact rslot_par h hs hst hS hW p n j h1 hn hj hm hp
  · exact rslot_mark h hs hst hS hW p n j h1 hn hj hm
theorem rslot_some {w wr : World} {d r : Nat} {K : Nat → Prop} {M : D} {N : R} (h : Pair w wr d r K M N) (hs : Sim M N) (hst : M.st ≠ 2) (hS : ∀ x ∈ M.S, x.size = 256) (hW : N.W.length ≤ 10000) (p n j : Nat) (h1 : 1 ≤ n) (hn : p + n ≤ M.L.length) (hj : j < 2) (ep : Nat) (st : List UInt8) (hQ : slotQ M.S p n j = some (ep, st)) :
    Calls Try.prog 66 #[.pointer (some ⟨r, 0, none⟩), .int .i64 (p : Int), .int .i64 (n : Int), .int .u64 (j : Int)] wr fun e w' => ∃ a c, e = .returned (.tuple #[.agg #[.bool true, .int .u64 (ep : Int), .slice a st.length c], .int .i64 0]) ∧ Bytes w' a st ∧ Below wr.heap.size wr w' := by
  have hlen := h.ok.len
  rw [slotQ] at hQ
  have hc : fitsB n (slotSz M.S p) = true ∧ slotHead M.S p = headL (slotEp M.S p) (slotSt M.S p) := by
    by_cases hc : fitsB n (slotSz M.S p) = true ∧ slotHead M.S p = headL (slotEp M.S p) (slotSt M.S p)
    · exact hc
    · rw [slotR, if_neg hc] at hQ
      cases hQ
  have hr : slotR M.S p n = some (slotEp M.S p, slotSt M.S p) := by rw [slotR, if_pos hc]
  rw [hr] at hQ
  simp only at hQ
  split at hQ
  · rename_i hp
    simp only [Option.some.injEq, Prod.mk.injEq] at hQ
    obtain ⟨rfl, rfl⟩ := hQ
    have hfn : sect (slotSz M.S p) ≤ n - 1 := by
      have hf := hc.1
      simp only [fitsB, decide_eq_true_eq, Int.toNat_natCast] at hf
      omega
    have hstl : (slotSt M.S p).length = slotSz M.S p := by
      rw [slotSt, List.length_take, secs_length hS (by omega)]
      have := sect_le (slotSz M.S p)
      omega
    rw [hstl]
    refine Calls.mono (rslot_go h hs hst hS hW p n j h1 hn hj (head_mark hc.2) hp hc.1 true (decide_eq_true hc.2).symm) ?_
    rintro e w' ⟨a, c, rfl, h1, h2⟩
    exact ⟨a, c, rfl, h1, h2⟩
  · cases hQ

theorem load_arg (d : Nat) (p n : Int) (w : World) (F : Nat → Prop) (M : D) (h : Dev w F d M) (hn : n ≤ 9223372036854775807) (hr : regB M.L.length p n = false) :
    Calls Try.prog 33 #[.pointer (some ⟨d, 0, none⟩), .int .i64 p, .int .i64 n] w fun e w' => e = .returned (.tuple #[.slice none 0 0, .int .u64 0, .int .i64 1]) ∧ w = w' := by
  have hw := swithin_any d p n w F M h hn
  rw [hr] at hw
  go_enter Try.func33, Try.ntmps33
  go_wp2_with (go_at_call 60; refine Calls.mono hw ?_; rintro e w1 ⟨rfl, rfl⟩)
  (try simp only [Exit.inBlock, Exit.then])
  refine bodyPost_ret (v := .tuple #[.slice none 0 0, .int .u64 0, .int .i64 1]) ?_ rfl ⟨rfl, rfl⟩
  simp [results, Try.f33]

set_option maxHeartbeats 2000000 in
theorem slot_dead (d p n : Nat) (w : World) (F : Nat → Prop) (M : D) (h : Dev w F d M) (hs : M.st = 2) (hp : p ≤ 4096) :
    Calls Try.prog 65 #[.pointer (some ⟨d, 0, none⟩), .int .i64 (p : Int), .int .i64 (n : Int)] w fun e w' => e = .returned (.tuple #[.agg #[.int .u64 0, .slice none 0 0], .bool false, .int .i64 50]) ∧ Below w.heap.size w w' := by
  obtain ⟨W, hW⟩ : ∃ W, W = w.alloc (.cells #[.int .u64 0, .slice none 0 0] 113) := ⟨_, rfl⟩
  obtain ⟨s, hsz⟩ : ∃ s, s = w.heap.size := ⟨_, rfl⟩
  have hblk : W.heap[s]? = some (.cells #[.int .u64 0, .slice none 0 0] 113 (0, 0)) := by rw [hW, hsz]; exact heap_alloc_new w _
  have hWB : Below w.heap.size w W := by rw [hW]; exact (Below.refl _ _).alloc (Nat.le_refl _) _
  have hr := sread_dead d p 24 W F M (h.below hWB) hs (by omega) (by omega) hp
  rw [show ((24 : Nat) : Int) = 24 from rfl] at hr
  have c0 := cell_blk hblk 0
  have c1 := cell_blk hblk 1
  have f0 := frozen_blk hblk 0
  have f1 := frozen_blk hblk 1
  simp only [List.getElem?_toArray] at c0 c1
  have HBL : Hid (W.heap[s]? = some (.cells #[.int .u64 0, .slice none 0 0] 113 (0, 0)) ∧ Below w.heap.size w W ∧ w.heap.size ≤ s) := ⟨hblk, hWB, by omega⟩
  clear h hs hblk hWB
  go_enter Try.func65, Try.ntmps65
  go_wp2_with fail
  rw [← hW, ← hsz]
  clear hW hsz
  refine Calls.mono hr ?_
  rintro e w1 ⟨rfl, rfl⟩
  go_wp2
  (try simp only [Exit.inBlock, Exit.then])
  refine bodyPost_ret (v := .tuple #[.agg #[.int .u64 0, .slice none 0 0], .bool false, .int .i64 50]) ?_ rfl ⟨rfl, (HBL.out.2.1.setCell HBL.out.2.2 _).setCell HBL.out.2.2 _⟩
  rw [results_cell_two rfl]
  simp [asAddr, Result.andThen, box_load (box_set HBL.out.1 (.int .u64 0) (.slice none 0 0))]

set_option maxHeartbeats 2000000 in
set_option maxRecDepth 20000 in
theorem load_dead (d p n : Nat) (w : World) (F : Nat → Prop) (M : D) (h : Dev w F d M) (hs : M.st = 2) (h1 : 1 ≤ n) (hn : p + 2 * n ≤ M.L.length) :
    Calls Try.prog 33 #[.pointer (some ⟨d, 0, none⟩), .int .i64 (p : Int), .int .i64 (n : Int)] w fun e w' => e = .returned (.tuple #[.slice none 0 0, .int .u64 0, .int .i64 50]) ∧ Below w.heap.size w w' := by
  have hw1 := swithin_yes d p n w F M h h1 hn
  have htop := h.1.top
  have hp4 : p ≤ 4096 := by omega
  have hn4 : n ≤ 4096 := by omega
  have HSD : Hid (∀ q, Below w.heap.size w q → Calls Try.prog 65 #[.pointer (some ⟨d, 0, none⟩), .int .i64 (p : Int), .int .i64 (n : Int)] q fun e w' => e = .returned (.tuple #[.agg #[.int .u64 0, .slice none 0 0], .bool false, .int .i64 50]) ∧ Below q.heap.size q w') := fun q hq => slot_dead d p n q F M (h.below hq) hs (by omega)
  clear h hs hn
  go_enter Try.func33, Try.ntmps33
  go_wp2_with (go_at_call 60; refine Calls.mono hw1 ?_; rintro e w1 ⟨rfl, rfl⟩)
  clear hw1
  have hb0 : Below w.heap.size w (w.alloc (.cells #[.int .u64 0, .slice none 0 0] 113)) := (Below.refl _ _).alloc (Nat.le_refl _) _
  obtain ⟨W, hW⟩ : ∃ W, W = w.alloc (.cells #[.int .u64 0, .slice none 0 0] 113) := ⟨_, rfl⟩
  rw [← hW] at hb0 ⊢
  clear hW
  go_loopw [10, 20] (fun f i wr => f = .bool false ∧ i = .int .i64 0 ∧ wr = W) (fun _ _ _ => 0)
  case atStart => exact ⟨rfl, rfl, rfl⟩
  case round =>
    obtain ⟨rfl, rfl, rfl⟩ := hrel
    have hsl := HSD.out _ hb0
    go_wp2_with (go_at_call 65; (with_reducible refine Calls.mono hsl ?_); rintro e w2 ⟨rfl, hb2⟩)
    (try simp only [Exit.inBlock, Exit.then])
    refine bodyPost_ret (v := .tuple #[.slice none 0 0, .int .u64 0, .int .i64 50]) ?_ rfl ⟨rfl, ?_⟩
    · simp [results, Try.f33]
    · have := hb0.trans (hb2.mono hb0.size)
      exact this.alloc this.size _
end Go.Proofs.Ytecljiefljgfmaa

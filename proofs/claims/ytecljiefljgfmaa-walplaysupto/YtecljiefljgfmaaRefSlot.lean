/-
  What a slot holds, as the document reads it.
-/
import Derived.Test.YtecljiefljgfmaaRefSave
import Derived.Test.YtecljiefljgfmaaRun13
namespace Go.Proofs.Ytecljiefljgfmaa
open Go.RowKit

set_option maxHeartbeats 400000 in
theorem refGet64_any (a : Option Addr) (l : List UInt8) (cap : Nat) (w : World) (hr : l.length ≤ 140737488351232) (hb : Bytes w a l) :
    Calls Try.prog 88 #[.slice a l.length cap] w fun e w' => e = .returned (.tuple #[.int .u64 (g64 l : Nat), .bool (g64Ok l)]) ∧ w = w' := by
  by_cases h : l.length = 8
  · have hz : ((l.length : Int) != 8) = false := by simp; omega
    have H : Hid (l.length = 8) := h
    have hle : 8 ≤ l.length := by omega
    clear h
    go_enter Try.func88, Try.ntmps88
    go_wp2
    go_loop [4, 5] (fun n i => ∃ k : Nat, k ≤ 8 ∧ i = .int .i64 k ∧ n = .int .u64 (vl l k : Nat)) (fun _ i => 8 - (intOf i).toNat)
    case atStart => exact ⟨0, Nat.zero_le _, rfl, rfl⟩
    case round =>
      obtain ⟨k, hk, rfl, rfl⟩ := hrel
      by_cases hlt : k < 8
      · obtain ⟨b, off, rfl, hbl, hcs⟩ := hb.at (k := k) (by omega)
        have hkl : k < l.length := by omega
        have hcell : w.cell? ⟨b, off + k, none⟩ = some (.int .u8 (l[k].toNat : Int)) := hcs k hkl
        have hc255 : (l[k].toNat : Int) ≤ 255 := by have := l[k].toNat_lt; omega
        have hv := vl_7 l (k := k) (by omega)
        have HG' : Hid ((l.getD k 0).toNat = l[k].toNat) := getD_nat hkl
        clear hcs
        go_wp2
        go_round
        case rel => exact ⟨k + 1, by omega, by go_num, by rw [vl, HG'.out]; go_num⟩
        case measure => simp [intOf]; omega
      · have hk8 : k = 8 := by omega
        subst hk8
        go_wp2
        go_ret2
        exact ⟨ret_ib (by rw [(g64_yes H.out).1]) (g64_yes H.out).2.symm, rfl⟩
  · have hz : ((l.length : Int) != 8) = true := by simp; omega
    have H : Hid (l.length ≠ 8) := h
    clear h
    go_enter Try.func88, Try.ntmps88
    go_wp2
    go_ret2
    exact ⟨ret_ib (by rw [(g64_no H.out).1]; rfl) (g64_no H.out).2.symm, rfl⟩

theorem extract_list (x : ByteArray) (a b : Nat) : (x.extract a b).data.toList = (x.data.toList.drop a).take (b - a) := by
  rw [ByteArray.data_extract, Array.toList_extract]
theorem slotHead_x {S : List ByteArray} {p : Nat} (h : p < S.length) : slotHead S p = (S[p]).data.toList.take 24 := by
  have := secs_succ (S := S) (p := p) (k := 0) (by omega)
  simp only [Nat.add_zero] at this
  rw [slotHead, show sect 24 = 1 from rfl, this]
  simp [secs]
theorem mark_text : (⟨#[83, 78, 65, 80]⟩ : ByteArray).data.toList = markL := rfl
theorem text_eq {x y : ByteArray} (h : x.data.toList = y.data.toList) : x = y := by
  cases x; cases y
  simp only [ByteArray.mk.injEq]
  exact Array.ext' h
theorem box3_set {w : World} {s : Nat} {x0 x1 x2 : Value} (h : w.heap[s]? = some (.cells #[x0, x1, x2] 73 (0, 0))) (y0 y1 y2 : Value) : (((w.setCell ⟨s, 0, none⟩ y0).setCell ⟨s, 1, none⟩ y1).setCell ⟨s, 2, none⟩ y2).heap[s]? = some (.cells #[y0, y1, y2] 73 (0, 0)) := by
  have h1 := set_blk h 0 y0
  have h2 := set_blk h1 1 y1
  have h3 := set_blk h2 2 y2
  rw [h3]
  simp
theorem size73 : (Try.prog.info? 73).map (·.size) = some 3 := by kernel_rfl
theorem box3_load {w : World} {s : Nat} {y0 y1 y2 : Value} (h : w.heap[s]? = some (.cells #[y0, y1, y2] 73 (0, 0))) : (loadVar 73 ⟨s, 0, none⟩).run Try.prog w = .ok (.agg #[y0, y1, y2]) w :=
  run_loadVar_row (P := Try.prog) w s 73 73 #[y0, y1, y2] (0, 0) _ h Try.underlying73 rfl size73
/-- What the document reads of a slot's first sector. -/
theorem slot_x {S : List ByteArray} {p : Nat} (h : p < S.length) (hx : (S[p]).size = 256) : g64 (((S[p]).extract 8 16).data.toList) = slotEp S p ∧ g64 (((S[p]).extract 16 24).data.toList) = slotSz S p ∧ ((S[p]).extract 0 24).data.toList = slotHead S p ∧ ((S[p]).extract 0 4).data.toList = (slotHead S p).take 4 ∧ ((S[p]).extract 8 16).data.toList.length = 8 ∧ ((S[p]).extract 16 24).data.toList.length = 8 := by
  have hl : (S[p]).data.toList.length = 256 := by simpa using hx
  have hh := slotHead_x h
  refine ⟨?_, ?_, ?_, ?_, ?_, ?_⟩
  · rw [slotEp, hh, extract_list, List.drop_take, List.take_take]; rfl
  · rw [slotSz, hh, extract_list, List.drop_take]
  · rw [extract_list, hh]; rfl
  · rw [extract_list, hh, List.take_take]; rfl
  · rw [extract_list, List.length_take, List.length_drop, hl]; rfl
  · rw [extract_list, List.length_take, List.length_drop, hl]; rfl
theorem head_mark {e : Nat} {st l : List UInt8} (h : l = headL e st) : l.take 4 = markL := by
  rw [h, headL, List.append_assoc]
  exact List.take_left' rfl

set_option maxHeartbeats 4000000 in
set_option maxRecDepth 20000 in
theorem rslot_mark {w wr : World} {d r : Nat} {K : Nat → Prop} {M : D} {N : R} (h : Pair w wr d r K M N) (hs : Sim M N) (hst : M.st ≠ 2) (hS : ∀ x ∈ M.S, x.size = 256) (hW : N.W.length ≤ 10000) (p n j : Nat) (h1 : 1 ≤ n) (hn : p + n ≤ M.L.length) (_hj : j < 2) (hm : (slotHead M.S p).take 4 ≠ markL) :
    Calls Try.prog 66 #[.pointer (some ⟨r, 0, none⟩), .int .i64 (p : Int), .int .i64 (n : Int), .int .u64 (j : Int)] wr fun e w' => e = .returned (.tuple #[.agg #[.bool false, .int .u64 0, .slice none 0 0], .int .i64 0]) ∧ Below wr.heap.size wr w' := by
  have hlen := h.ok.len
  have htop := h.ok.top
  obtain ⟨W, hW'⟩ : ∃ W, W = wr.alloc (.cells #[.bool false, .int .u64 0, .slice none 0 0] 73) := ⟨_, rfl⟩
  obtain ⟨s, hsz⟩ : ∃ s, s = wr.heap.size := ⟨_, rfl⟩
  have hblk : W.heap[s]? = some (.cells #[.bool false, .int .u64 0, .slice none 0 0] 73 (0, 0)) := by rw [hW', hsz]; exact heap_alloc_new wr _
  have hWB : Below wr.heap.size wr W := by rw [hW']; exact (Below.refl _ _).alloc (Nat.le_refl _) _
  have hPW := h.below hWB
  have hrd := p_rread (p : Int) hPW (by omega)
  rw [sim_rd_ok hs hst (i := p) (by omega)] at hrd
  obtain ⟨x1, x2, x3, x4, x5, x6⟩ := slot_x (S := M.S) (p := p) (by omega) (hS _ (List.getElem_mem _))
  have hx256 : (M.S[p]'(by omega)).size = 256 := hS _ (List.getElem_mem _)
  obtain ⟨x, hx⟩ : ∃ x, x = M.S[p]'(by omega) := ⟨_, rfl⟩
  rw [← hx] at hrd x1 x2 x3 x4 x5 x6 hx256
  obtain ⟨W1, k1, hcv1, hf1, hb1⟩ := conv_fresh (x.extract 8 16) W
  obtain ⟨W2, k2, hcv2, hf2, hb2⟩ := conv_fresh (x.extract 16 24) W1
  have s1 : (x.extract 8 16).size = 8 := by have := x5; rw [Array.length_toList] at this; exact this
  have s2 : (x.extract 16 24).size = 8 := by have := x6; rw [Array.length_toList] at this; exact this
  have hg1 := refGet64_any (some ⟨W.heap.size, 0, none⟩) (x.extract 8 16).data.toList k1 W1 (by rw [x5]; omega) hf1.bytes
  have hg2 := refGet64_any (some ⟨W1.heap.size, 0, none⟩) (x.extract 16 24).data.toList k2 W2 (by rw [x6]; omega) hf2.bytes
  rw [x5, x1] at hg1
  rw [x6, x2] at hg2
  rw [s1] at hcv1
  rw [s2] at hcv2
  obtain ⟨ep, hep⟩ : ∃ ep, ep = slotEp M.S p := ⟨_, rfl⟩
  obtain ⟨sz, hszE⟩ : ∃ sz, sz = slotSz M.S p := ⟨_, rfl⟩
  rw [← hep] at hg1
  rw [← hszE] at hg2
  have hepb : ep < 18446744073709551616 := by
    rw [hep, ← x1, g64]
    split
    · have := vl_bd (x.extract 8 16).data.toList 8; rw [show (256 : Nat) ^ 8 = 18446744073709551616 from by decide] at this; exact this
    · omega
  have hszb : sz < 18446744073709551616 := by
    rw [hszE, ← x2, g64]
    split
    · have := vl_bd (x.extract 16 24).data.toList 8; rw [show (256 : Nat) ^ 8 = 18446744073709551616 from by decide] at this; exact this
    · omega
  have hB2 : Below W.heap.size W W2 := hb1.trans (hb2.mono hb1.size)
  have hblk2 : W2.heap[s]? = some (.cells #[.bool false, .int .u64 0, .slice none 0 0] 73 (0, 0)) := (hB2.block s (Array.getElem?_eq_some_iff.1 hblk).1).trans hblk
  have HEND : Hid (∀ q, Below W2.heap.size W2 q → q.heap[s]? = some (.cells #[.bool false, .int .u64 0, .slice none 0 0] 73 (0, 0)) ∧ ∀ y0 y1 y2, Below wr.heap.size wr (((q.setCell ⟨s, 0, none⟩ y0).setCell ⟨s, 1, none⟩ y1).setCell ⟨s, 2, none⟩ y2)) := (by
    intro q hq
    have hBq : Below wr.heap.size wr q := (hWB.trans (hB2.mono hWB.size)).trans (hq.mono (Nat.le_trans hWB.size hB2.size))
    have hsge : wr.heap.size ≤ s := by omega
    exact ⟨(hq.block s (Array.getElem?_eq_some_iff.1 hblk2).1).trans hblk2, fun y0 y1 y2 => ((hBq.setCell (p := ⟨s, 0, none⟩) hsge _).setCell (p := ⟨s, 1, none⟩) hsge _).setCell (p := ⟨s, 2, none⟩) hsge _⟩)
  have c0 := cell_blk hblk2 0
  have c1 := cell_blk hblk2 1
  have c2 := cell_blk hblk2 2
  have f0 := frozen_blk hblk2 0
  have f1 := frozen_blk hblk2 1
  have f2 := frozen_blk hblk2 2
  simp only [List.getElem?_toArray] at c0 c1 c2
  have hne : ¬ (x.extract 0 4).toList = [83, 78, 65, 80] := by
    rw [ByteArray.toList_eq]
    intro e
    apply hm
    rw [← x4, e]
    rfl
  clear h hs hst hS hPW hblk hWB hf1 hf2 hb1 hb2 hB2 hblk2 x1 x2 x3 x4 x5 x6 s1 s2 hep hszE hx hlen hn
  go_enter Try.func66, Try.ntmps66
  go_wp2_with fail
  rw [← hW', ← hsz]
  clear hW' hsz
  refine Calls.mono hrd ?_
  rintro e w1 ⟨rfl, rfl⟩
  go_wp2_with (first
    | (go_at_call 88; (with_reducible refine Calls.mono hg1 ?_); rintro e q1 ⟨rfl, rfl⟩)
    | (go_at_call 88; (with_reducible refine Calls.mono hg2 ?_); rintro e q2 ⟨rfl, rfl⟩))
  (try simp only [Exit.inBlock, Exit.then])
  refine bodyPost_ret (v := .tuple #[.agg #[.bool false, .int .u64 0, .slice none 0 0], .int .i64 0]) ?_ rfl ⟨rfl, (HEND.out W2 (Below.refl _ _)).2 _ _ _⟩
  rw [results_cell_tmp rfl]
  simp [asAddr, Result.andThen, box3_load (box3_set (HEND.out W2 (Below.refl _ _)).1 (.bool false) (.int .u64 0) (.slice none 0 0))]

set_option maxHeartbeats 4000000 in
set_option maxRecDepth 20000 in
theorem rslot_par {w wr : World} {d r : Nat} {K : Nat → Prop} {M : D} {N : R} (h : Pair w wr d r K M N) (hs : Sim M N) (hst : M.st ≠ 2) (hS : ∀ x ∈ M.S, x.size = 256) (hW : N.W.length ≤ 10000) (p n j : Nat) (h1 : 1 ≤ n) (hn : p + n ≤ M.L.length) (_hj : j < 2) (hm : (slotHead M.S p).take 4 = markL) (hp : slotEp M.S p % 2 ≠ j) :
    Calls Try.prog 66 #[.pointer (some ⟨r, 0, none⟩), .int .i64 (p : Int), .int .i64 (n : Int), .int .u64 (j : Int)] wr fun e w' => e = .returned (.tuple #[.agg #[.bool false, .int .u64 0, .slice none 0 0], .int .i64 0]) ∧ Below wr.heap.size wr w' := by
  have hlen := h.ok.len
  have htop := h.ok.top
  obtain ⟨W, hW'⟩ : ∃ W, W = wr.alloc (.cells #[.bool false, .int .u64 0, .slice none 0 0] 73) := ⟨_, rfl⟩
  obtain ⟨s, hsz⟩ : ∃ s, s = wr.heap.size := ⟨_, rfl⟩
  have hblk : W.heap[s]? = some (.cells #[.bool false, .int .u64 0, .slice none 0 0] 73 (0, 0)) := by rw [hW', hsz]; exact heap_alloc_new wr _
  have hWB : Below wr.heap.size wr W := by rw [hW']; exact (Below.refl _ _).alloc (Nat.le_refl _) _
  have hPW := h.below hWB
  have hrd := p_rread (p : Int) hPW (by omega)
  rw [sim_rd_ok hs hst (i := p) (by omega)] at hrd
  obtain ⟨x1, x2, x3, x4, x5, x6⟩ := slot_x (S := M.S) (p := p) (by omega) (hS _ (List.getElem_mem _))
  have hx256 : (M.S[p]'(by omega)).size = 256 := hS _ (List.getElem_mem _)
  obtain ⟨x, hx⟩ : ∃ x, x = M.S[p]'(by omega) := ⟨_, rfl⟩
  rw [← hx] at hrd x1 x2 x3 x4 x5 x6 hx256
  obtain ⟨W1, k1, hcv1, hf1, hb1⟩ := conv_fresh (x.extract 8 16) W
  obtain ⟨W2, k2, hcv2, hf2, hb2⟩ := conv_fresh (x.extract 16 24) W1
  have s1 : (x.extract 8 16).size = 8 := by have := x5; rw [Array.length_toList] at this; exact this
  have s2 : (x.extract 16 24).size = 8 := by have := x6; rw [Array.length_toList] at this; exact this
  have hg1 := refGet64_any (some ⟨W.heap.size, 0, none⟩) (x.extract 8 16).data.toList k1 W1 (by rw [x5]; omega) hf1.bytes
  have hg2 := refGet64_any (some ⟨W1.heap.size, 0, none⟩) (x.extract 16 24).data.toList k2 W2 (by rw [x6]; omega) hf2.bytes
  rw [x5, x1] at hg1
  rw [x6, x2] at hg2
  rw [s1] at hcv1
  rw [s2] at hcv2
  obtain ⟨ep, hep⟩ : ∃ ep, ep = slotEp M.S p := ⟨_, rfl⟩
  obtain ⟨sz, hszE⟩ : ∃ sz, sz = slotSz M.S p := ⟨_, rfl⟩
  rw [← hep] at hg1
  rw [← hszE] at hg2
  have hepb : ep < 18446744073709551616 := by
    rw [hep, ← x1, g64]
    split
    · have := vl_bd (x.extract 8 16).data.toList 8; rw [show (256 : Nat) ^ 8 = 18446744073709551616 from by decide] at this; exact this
    · omega
  have hszb : sz < 18446744073709551616 := by
    rw [hszE, ← x2, g64]
    split
    · have := vl_bd (x.extract 16 24).data.toList 8; rw [show (256 : Nat) ^ 8 = 18446744073709551616 from by decide] at this; exact this
    · omega
  have hB2 : Below W.heap.size W W2 := hb1.trans (hb2.mono hb1.size)
  have hblk2 : W2.heap[s]? = some (.cells #[.bool false, .int .u64 0, .slice none 0 0] 73 (0, 0)) := (hB2.block s (Array.getElem?_eq_some_iff.1 hblk).1).trans hblk
  have HEND : Hid (∀ q, Below W2.heap.size W2 q → q.heap[s]? = some (.cells #[.bool false, .int .u64 0, .slice none 0 0] 73 (0, 0)) ∧ ∀ y0 y1 y2, Below wr.heap.size wr (((q.setCell ⟨s, 0, none⟩ y0).setCell ⟨s, 1, none⟩ y1).setCell ⟨s, 2, none⟩ y2)) := (by
    intro q hq
    have hBq : Below wr.heap.size wr q := (hWB.trans (hB2.mono hWB.size)).trans (hq.mono (Nat.le_trans hWB.size hB2.size))
    have hsge : wr.heap.size ≤ s := by omega
    exact ⟨(hq.block s (Array.getElem?_eq_some_iff.1 hblk2).1).trans hblk2, fun y0 y1 y2 => ((hBq.setCell (p := ⟨s, 0, none⟩) hsge _).setCell (p := ⟨s, 1, none⟩) hsge _).setCell (p := ⟨s, 2, none⟩) hsge _⟩)
  have c0 := cell_blk hblk2 0
  have c1 := cell_blk hblk2 1
  have c2 := cell_blk hblk2 2
  have f0 := frozen_blk hblk2 0
  have f1 := frozen_blk hblk2 1
  have f2 := frozen_blk hblk2 2
  simp only [List.getElem?_toArray] at c0 c1 c2
  have hbq : x.extract 0 4 = (⟨#[83, 78, 65, 80]⟩ : ByteArray) := text_eq (by rw [x4, hm]; rfl)
  rw [← hep] at hp
  have hpar : (((ep : Int) % 2) != (j : Int)) = true := by rw [bne_iff_ne]; omega
  clear h hs hst hS hPW hblk hWB hf1 hf2 hb1 hb2 hB2 hblk2 x1 x2 x3 x4 x5 x6 s1 s2 hep hszE hx hlen hn
  go_enter Try.func66, Try.ntmps66
  go_wp2_with fail
  rw [← hW', ← hsz]
  clear hW' hsz
  refine Calls.mono hrd ?_
  rintro e w1 ⟨rfl, rfl⟩
  go_wp2_with (first
    | (go_at_call 88; (with_reducible refine Calls.mono hg1 ?_); rintro e q1 ⟨rfl, rfl⟩)
    | (go_at_call 88; (with_reducible refine Calls.mono hg2 ?_); rintro e q2 ⟨rfl, rfl⟩))
  (try simp only [Exit.inBlock, Exit.then])
  refine bodyPost_ret (v := .tuple #[.agg #[.bool false, .int .u64 0, .slice none 0 0], .int .i64 0]) ?_ rfl ⟨rfl, (HEND.out W2 (Below.refl _ _)).2 _ _ _⟩
  rw [results_cell_tmp rfl]
  simp [asAddr, Result.andThen, box3_load (box3_set (HEND.out W2 (Below.refl _ _)).1 (.bool false) (.int .u64 0) (.slice none 0 0))]

set_option maxHeartbeats 4000000 in
set_option maxRecDepth 20000 in
theorem rslot_fit {w wr : World} {d r : Nat} {K : Nat → Prop} {M : D} {N : R} (h : Pair w wr d r K M N) (hs : Sim M N) (hst : M.st ≠ 2) (hS : ∀ x ∈ M.S, x.size = 256) (hW : N.W.length ≤ 10000) (p n j : Nat) (h1 : 1 ≤ n) (hn : p + n ≤ M.L.length) (_hj : j < 2) (hm : (slotHead M.S p).take 4 = markL) (hp : slotEp M.S p % 2 = j) (hf : fitsB n (slotSz M.S p) = false) :
    Calls Try.prog 66 #[.pointer (some ⟨r, 0, none⟩), .int .i64 (p : Int), .int .i64 (n : Int), .int .u64 (j : Int)] wr fun e w' => e = .returned (.tuple #[.agg #[.bool false, .int .u64 0, .slice none 0 0], .int .i64 0]) ∧ Below wr.heap.size wr w' := by
  have hlen := h.ok.len
  have htop := h.ok.top
  obtain ⟨W, hW'⟩ : ∃ W, W = wr.alloc (.cells #[.bool false, .int .u64 0, .slice none 0 0] 73) := ⟨_, rfl⟩
  obtain ⟨s, hsz⟩ : ∃ s, s = wr.heap.size := ⟨_, rfl⟩
  have hblk : W.heap[s]? = some (.cells #[.bool false, .int .u64 0, .slice none 0 0] 73 (0, 0)) := by rw [hW', hsz]; exact heap_alloc_new wr _
  have hWB : Below wr.heap.size wr W := by rw [hW']; exact (Below.refl _ _).alloc (Nat.le_refl _) _
  have hPW := h.below hWB
  have hrd := p_rread (p : Int) hPW (by omega)
  rw [sim_rd_ok hs hst (i := p) (by omega)] at hrd
  obtain ⟨x1, x2, x3, x4, x5, x6⟩ := slot_x (S := M.S) (p := p) (by omega) (hS _ (List.getElem_mem _))
  have hx256 : (M.S[p]'(by omega)).size = 256 := hS _ (List.getElem_mem _)
  obtain ⟨x, hx⟩ : ∃ x, x = M.S[p]'(by omega) := ⟨_, rfl⟩
  rw [← hx] at hrd x1 x2 x3 x4 x5 x6 hx256
  obtain ⟨W1, k1, hcv1, hf1, hb1⟩ := conv_fresh (x.extract 8 16) W
  obtain ⟨W2, k2, hcv2, hf2, hb2⟩ := conv_fresh (x.extract 16 24) W1
  have s1 : (x.extract 8 16).size = 8 := by have := x5; rw [Array.length_toList] at this; exact this
  have s2 : (x.extract 16 24).size = 8 := by have := x6; rw [Array.length_toList] at this; exact this
  have hg1 := refGet64_any (some ⟨W.heap.size, 0, none⟩) (x.extract 8 16).data.toList k1 W1 (by rw [x5]; omega) hf1.bytes
  have hg2 := refGet64_any (some ⟨W1.heap.size, 0, none⟩) (x.extract 16 24).data.toList k2 W2 (by rw [x6]; omega) hf2.bytes
  rw [x5, x1] at hg1
  rw [x6, x2] at hg2
  rw [s1] at hcv1
  rw [s2] at hcv2
  obtain ⟨ep, hep⟩ : ∃ ep, ep = slotEp M.S p := ⟨_, rfl⟩
  obtain ⟨sz, hszE⟩ : ∃ sz, sz = slotSz M.S p := ⟨_, rfl⟩
  rw [← hep] at hg1
  rw [← hszE] at hg2
  have hepb : ep < 18446744073709551616 := by
    rw [hep, ← x1, g64]
    split
    · have := vl_bd (x.extract 8 16).data.toList 8; rw [show (256 : Nat) ^ 8 = 18446744073709551616 from by decide] at this; exact this
    · omega
  have hszb : sz < 18446744073709551616 := by
    rw [hszE, ← x2, g64]
    split
    · have := vl_bd (x.extract 16 24).data.toList 8; rw [show (256 : Nat) ^ 8 = 18446744073709551616 from by decide] at this; exact this
    · omega
  have hB2 : Below W.heap.size W W2 := hb1.trans (hb2.mono hb1.size)
  have hblk2 : W2.heap[s]? = some (.cells #[.bool false, .int .u64 0, .slice none 0 0] 73 (0, 0)) := (hB2.block s (Array.getElem?_eq_some_iff.1 hblk).1).trans hblk
  have HEND : Hid (∀ q, Below W2.heap.size W2 q → q.heap[s]? = some (.cells #[.bool false, .int .u64 0, .slice none 0 0] 73 (0, 0)) ∧ ∀ y0 y1 y2, Below wr.heap.size wr (((q.setCell ⟨s, 0, none⟩ y0).setCell ⟨s, 1, none⟩ y1).setCell ⟨s, 2, none⟩ y2)) := (by
    intro q hq
    have hBq : Below wr.heap.size wr q := (hWB.trans (hB2.mono hWB.size)).trans (hq.mono (Nat.le_trans hWB.size hB2.size))
    have hsge : wr.heap.size ≤ s := by omega
    exact ⟨(hq.block s (Array.getElem?_eq_some_iff.1 hblk2).1).trans hblk2, fun y0 y1 y2 => ((hBq.setCell (p := ⟨s, 0, none⟩) hsge _).setCell (p := ⟨s, 1, none⟩) hsge _).setCell (p := ⟨s, 2, none⟩) hsge _⟩)
  have c0 := cell_blk hblk2 0
  have c1 := cell_blk hblk2 1
  have c2 := cell_blk hblk2 2
  have f0 := frozen_blk hblk2 0
  have f1 := frozen_blk hblk2 1
  have f2 := frozen_blk hblk2 2
  simp only [List.getElem?_toArray] at c0 c1 c2
  have hbq : x.extract 0 4 = (⟨#[83, 78, 65, 80]⟩ : ByteArray) := text_eq (by rw [x4, hm]; rfl)
  rw [← hep] at hp
  have hpar : (((ep : Int) % 2) != (j : Int)) = false := by rw [bne_eq_false_iff_eq]; omega
  rw [← hszE] at hf
  by_cases hbig : 1099511627776 < sz
  · have hbi : (1099511627776 : Int) < (sz : Int) := by omega
    clear h hs hst hS hPW hblk hWB hf1 hf2 hb1 hb2 hB2 hblk2 x1 x2 x3 x4 x5 x6 s1 s2 hep hszE hx hlen hn
    go_enter Try.func66, Try.ntmps66
    go_wp2_with fail
    rw [← hW', ← hsz]
    clear hW' hsz
    refine Calls.mono hrd ?_
    rintro e w1 ⟨rfl, rfl⟩
    go_wp2_with (first
      | (go_at_call 88; (with_reducible refine Calls.mono hg1 ?_); rintro e q1 ⟨rfl, rfl⟩)
      | (go_at_call 88; (with_reducible refine Calls.mono hg2 ?_); rintro e q2 ⟨rfl, rfl⟩))
    (try simp only [Exit.inBlock, Exit.then])
    refine bodyPost_ret (v := .tuple #[.agg #[.bool false, .int .u64 0, .slice none 0 0], .int .i64 0]) ?_ rfl ⟨rfl, (HEND.out W2 (Below.refl _ _)).2 _ _ _⟩
    rw [results_cell_tmp rfl]
    simp [asAddr, Result.andThen, box3_load (box3_set (HEND.out W2 (Below.refl _ _)).1 (.bool false) (.int .u64 0) (.slice none 0 0))]
  · have hbi : ¬ (1099511627776 : Int) < (sz : Int) := by omega
    have hfi := refFits_any n sz W2 (by omega) (by omega)
    rw [hf] at hfi
    clear h hs hst hS hPW hblk hWB hf1 hf2 hb1 hb2 hB2 hblk2 x1 x2 x3 x4 x5 x6 s1 s2 hep hszE hx hlen hn
    go_enter Try.func66, Try.ntmps66
    go_wp2_with fail
    rw [← hW', ← hsz]
    clear hW' hsz
    refine Calls.mono hrd ?_
    rintro e w1 ⟨rfl, rfl⟩
    go_wp2_with (first
      | (go_at_call 88; (with_reducible refine Calls.mono hg1 ?_); rintro e q1 ⟨rfl, rfl⟩)
      | (go_at_call 88; (with_reducible refine Calls.mono hg2 ?_); rintro e q2 ⟨rfl, rfl⟩)
      | (go_at_call 36; (with_reducible refine Calls.mono hfi ?_); rintro e q3 ⟨rfl, rfl⟩))
    (try simp only [Exit.inBlock, Exit.then])
    refine bodyPost_ret (v := .tuple #[.agg #[.bool false, .int .u64 0, .slice none 0 0], .int .i64 0]) ?_ rfl ⟨rfl, (HEND.out W2 (Below.refl _ _)).2 _ _ _⟩
    rw [results_cell_tmp rfl]
    simp [asAddr, Result.andThen, box3_load (box3_set (HEND.out W2 (Below.refl _ _)).1 (.bool false) (.int .u64 0) (.slice none 0 0))]

end Go.Proofs.Ytecljiefljgfmaa

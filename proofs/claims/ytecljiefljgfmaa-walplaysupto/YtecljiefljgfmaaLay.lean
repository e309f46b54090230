/-
  How a frame is laid: lay by its contract.
-/
import Derived.Test.YtecljiefljgfmaaRun19
namespace Go.Proofs.Ytecljiefljgfmaa
open Go.RowKit

/-- What lies behind a frame's first sector. -/
def behind (P : List UInt8) (n : Nat) (more : Bool) : List ByteArray := (fsecs P n).drop 1 ++ if more then [zsec] else []
/-- The frame is laid. -/
def layF (M : D) (g : G) (P : List UInt8) (n : Nat) : Int × D :=
  if (wrsF M (g.at' + 1) (behind P n (decide (n < g.fin - g.at')))).1 ≠ 0 then wrsF M (g.at' + 1) (behind P n (decide (n < g.fin - g.at')))
  else wrsF (wrsF M (g.at' + 1) (behind P n (decide (n < g.fin - g.at')))).2 g.at' [fsecB P 0]


theorem sect_mul (m : Nat) : sect (256 * m) = m := by unfold sect; omega
theorem psecs_whole {Q : List UInt8} {m : Nat} (h : Q.length = 256 * m) : psecs Q = fsecs Q m := by
  have hs : sect Q.length = m := by rw [h, sect_mul]
  rw [psecs, hs, padTo, hs, h, Nat.sub_self, List.replicate_zero, List.append_nil]
theorem fsecs_drop {P : List UInt8} {n : Nat} (hn : 1 ≤ n) : fsecs (P.drop 256) (n - 1) = (fsecs P n).drop 1 := by
  apply List.ext_getElem?
  intro i
  rw [List.getElem?_drop, fsecs, fsecs, List.getElem?_map, List.getElem?_map]
  by_cases hi : i < n - 1
  · rw [List.getElem?_range hi, List.getElem?_range (by omega)]
    simp only [Option.map_some, fsecB, fsec, List.drop_drop]
    rw [show 256 + 256 * i = 256 * (1 + i) from by omega]
  · rw [List.getElem?_eq_none (by simp; omega), List.getElem?_eq_none (by simp; omega)]
    rfl
theorem fsecs_zero {Q : List UInt8} {m : Nat} (h : Q.length = 256 * m) : fsecs (Q ++ List.replicate 256 0) (m + 1) = fsecs Q m ++ [zsec] := by
  rw [fsecs, List.range_succ, List.map_append, fsecs]
  congr 1
  · apply List.map_congr_left
    intro j hj
    have hj' := List.mem_range.1 hj
    rw [fsecB, fsecB, fsec, fsec, List.drop_append_of_le_length (by omega), List.take_append_of_le_length (by rw [List.length_drop]; omega)]
  · simp only [List.map_cons, List.map_nil]
    rw [fsecB, fsec, ← h, List.drop_left' rfl, List.take_of_length_le (by rw [List.length_replicate]; exact Nat.le_refl _)]
    rfl
theorem psecs_behind {P : List UInt8} {n : Nat} (hP : P.length = 256 * n) (hn : 1 ≤ n) : psecs (P.drop 256) = behind P n false := by
  rw [psecs_whole (m := n - 1) (by rw [List.length_drop, hP]; omega), fsecs_drop hn, behind]
  simp
theorem psecs_more {P : List UInt8} {n : Nat} (hP : P.length = 256 * n) (hn : 1 ≤ n) : psecs (P.drop 256 ++ List.replicate 256 0) = behind P n true := by
  have hd : (P.drop 256).length = 256 * (n - 1) := by rw [List.length_drop, hP]; omega
  rw [psecs_whole (m := n - 1 + 1) (by rw [List.length_append, hd, List.length_replicate]; omega), fsecs_zero hd, fsecs_drop hn, behind]
  simp
theorem psecs_first {P : List UInt8} {n : Nat} (hP : P.length = 256 * n) (hn : 1 ≤ n) : psecs (P.take 256) = [fsecB P 0] := by
  rw [psecs_whole (m := 1) (by rw [List.length_take, hP]; omega)]
  simp [fsecs, fsecB, fsec, List.take_take]

theorem slice_256 (b n : Nat) (h1 : 256 ≤ n) (wx : World) : (Instr.slice 50 (.slice (some ⟨b, 0, none⟩) n n) (some (.int .i64 256)) none none).run Try.prog wx = .ok (.slice (some ⟨b, if n = 256 then 0 else 256, none⟩) (n - 256) (n - 256)) wx := by
  obtain ⟨i0, hi, hz0, hz1, hz2⟩ := info_parts info5
  simp [Instr.slice, run_underlying Try.underlying50, Instr.sliceBounds, run_sliceBound, sizeOf, typeInfo, hi, hz1, (by omega : (256 : Int) ≤ (n : Int)), Addr.add]
  split <;> rfl
theorem Turn.from_below {F : Nat → Prop} {w q w' : World} (hq : Below w.heap.size w q) (hT : Turn F q w') : Turn F w w' :=
  ⟨hT.os.trans hq.os, hT.tape.trans hq.tape, hT.output.trans hq.output, Nat.le_trans hq.size hT.size, fun k hk hn => (hT.block k (Nat.lt_of_lt_of_le hk hq.size) hn).trans (hq.block k hk)⟩
theorem Dev.from_below {F : Nat → Prop} {w q w' : World} {d : Nat} {M : D} (hFl : ∀ k, F k → k < w.heap.size) (hq : Below w.heap.size w q) (hs : q.heap.size ≤ w'.heap.size) (h : Dev w' (Grow F q w') d M) : Dev w' (Grow F w w') d M := by
  refine h.wider ?_ ?_
  · intro k hk
    rcases hk with hk | hk
    · exact .inl hk
    · exact .inr ⟨Nat.le_trans hq.size hk.1, hk.2⟩
  · intro k hk
    rcases hk with hk | hk
    · have := hFl k hk; have := hq.size; omega
    · exact hk.2

set_option maxHeartbeats 4000000 in
set_option maxRecDepth 100000 in
theorem lay_just (l d : Nat) (g : G) (b n : Nat) (P : List UInt8) (w : World) (F : Nat → Prop) (M : D) (h : Dev w F d M) (hL : LogV w l d g) (hok : g.Ok) (hlF : ¬ F l)
    (hP : Bytes w (some ⟨b, 0, none⟩) P) (hPl : P.length = 256 * n) (hn : 1 ≤ n) (hnr : n = g.fin - g.at') (hbF : ¬ F b) (hC : M.C.length ≤ 80000) :
    Calls Try.prog 47 #[.pointer (some ⟨l, 0, none⟩), .slice (some ⟨b, 0, none⟩) (256 * n) (256 * n)] w fun e w' => e = .returned (.int .i64 (layF M g P n).1) ∧ Dev w' (Grow F w w') d (layF M g P n).2 ∧ Turn F w w' := by
  have hle := hok.le
  have htop := hok.top
  have hat4 : g.at' ≤ 4096 := by omega
  have hn4 : n ≤ 4096 := by omega
  have hFl := h.2.1
  have hlt : l < w.heap.size := (Array.getElem?_eq_some_iff.1 hL).1
  have hbl : b < w.heap.size := by
    rcases hP with h0 | ⟨b', off', e', hb', _⟩
    · rw [h0] at hPl; simp at hPl; omega
    · simp only [Option.some.injEq, Addr.mk.injEq] at e'
      rw [e'.1]; exact hb'
  have hrm := room_any l d g w.drew hL hok
  obtain ⟨NN, hNN⟩ : ∃ NN, NN = 256 * n := ⟨_, rfl⟩
  obtain ⟨rm, hrmE⟩ : ∃ rm, rm = g.fin - g.at' := ⟨_, rfl⟩
  rw [← hrmE] at hrm
  have hct := count_any NN w.drew.drew (by omega)
  rw [hNN, sect_mul, ← hNN] at hct
  have hdl : (P.drop 256).length = NN - 256 := by rw [List.length_drop, hPl, ← hNN]
  obtain ⟨o, ho⟩ : ∃ o, o = if NN = 256 then 0 else 256 := ⟨_, rfl⟩
  have hbyd : Bytes w (some ⟨b, o, none⟩) (P.drop 256) := by
    by_cases h0 : NN = 256
    · left
      exact List.eq_nil_of_length_eq_zero (by omega)
    · rw [ho, if_neg h0]
      have := hP.drop 256
      rwa [Nat.zero_add] at this
  have hbyf : Bytes w (some ⟨b, 0, none⟩) (P.take 256) := hP.take 256
  obtain ⟨R, hR⟩ : ∃ R, R = wrsF M (g.at' + 1) (behind P n false) := ⟨_, rfl⟩
  have HLF : Hid (layF M g P n = if R.1 ≠ 0 then R else wrsF R.2 g.at' [fsecB P 0]) := (show _ = _ from by rw [layF, decide_eq_false (by omega), ← hR])
  have HE : Hid (R.1 = 0 → R.2.C = []) := (show _ → _ from by rw [hR]; exact wrsF_empty _ _ _)
  have HCL : Hid (∀ q, Turn F w q → q.cell? ⟨l, 0, none⟩ = some (.pointer (some ⟨d, 0, none⟩)) ∧ q.cell? ⟨l, 1, none⟩ = some (.int .i64 (g.at' : Int))) := fun q hq => ⟨cell_blk ((hq.block l hlt hlF).trans hL) 0, cell_blk ((hq.block l hlt hlF).trans hL) 1⟩
  have HF2 : Hid (∀ q, Dev q (Grow F w q) d R.2 → Turn F w q → R.2.C = [] → Calls Try.prog 61 #[.pointer (some ⟨d, 0, none⟩), .int .i64 (g.at' : Int), .slice (some ⟨b, 0, none⟩) 256 NN] q fun e w' => e = .returned (.int .i64 (wrsF R.2 g.at' [fsecB P 0]).1) ∧ Dev w' (Grow F w w') d (wrsF R.2 g.at' [fsecB P 0]).2 ∧ Turn F w w') := (by
    intro q hD hT hc
    have := swrite_any d g.at' (some ⟨b, 0, none⟩) (P.take 256) NN q (Grow F w q) R.2 hD (hbyf.turn hT (by intro ad e; simp only [Option.some.injEq] at e; subst e; exact hbF)) (by
      intro _ ad e hf
      simp only [Option.some.injEq] at e
      subst e
      rcases hf with hf | hf
      · exact hbF hf
      · simp at hf; omega) (by rw [List.length_take, hPl]; omega) (by rw [hc, List.length_take, hPl]; unfold sect; simp; omega) (by omega)
    rw [psecs_first hPl hn, show (P.take 256).length = 256 from by rw [List.length_take, hPl]; omega] at this
    refine Calls.mono this ?_
    rintro e w' ⟨rfl, hD', hT'⟩
    exact ⟨rfl, hD'.regrow hT.size hT'.size, hT.trans hT'⟩)
  have HW1 : Hid (∀ q, Below w.heap.size w q → Calls Try.prog 61 #[.pointer (some ⟨d, 0, none⟩), .int .i64 ((g.at' : Int) + 1), .slice (some ⟨b, o, none⟩) (NN - 256) (NN - 256)] q fun e w' => e = .returned (.int .i64 R.1) ∧ Dev w' (Grow F w w') d R.2 ∧ Turn F w w') := (by
    intro q hq
    have := swrite_any d (g.at' + 1) (some ⟨b, o, none⟩) (P.drop 256) (NN - 256) q F M (h.below hq) (hbyd.below hq (Nat.le_refl _)) (by
      intro _ ad e hf
      simp only [Option.some.injEq] at e
      subst e
      exact hbF hf) (by rw [hdl]; exact Nat.le_refl _) (by rw [hdl]; unfold sect; omega) (by omega)
    rw [psecs_behind hPl hn, hdl, ← hR, show ((g.at' + 1 : Nat) : Int) = (g.at' : Int) + 1 from by omega] at this
    refine Calls.mono this ?_
    rintro e w' ⟨rfl, hD', hT'⟩
    exact ⟨rfl, hD'.from_below hFl hq hT'.size, Turn.from_below hq hT'⟩)
  have hs1 : ∀ wx, (Instr.slice 50 (.slice (some ⟨b, 0, none⟩) NN NN) none (some (.int .i64 256)) none).run Try.prog wx = .ok (.slice (some ⟨b, 0, none⟩) 256 NN) wx := fun wx => slice_hi _ NN NN 256 (by omega) wx
  have hs2 : ∀ wx, (Instr.slice 50 (.slice (some ⟨b, 0, none⟩) NN NN) (some (.int .i64 256)) none none).run Try.prog wx = .ok (.slice (some ⟨b, o, none⟩) (NN - 256) (NN - 256)) wx := fun wx => by rw [ho]; exact slice_256 b NN (by omega) wx
  obtain ⟨E, N⟩ := R
  rw [← hNN]
  have hNNb : NN ≤ 1048576 := by omega
  have hcmp : ¬ (n : Int) < (rm : Int) := by omega
  have hwa : IntKind.i64.wrap ((g.at' : Int) + 1) = (g.at' : Int) + 1 := by rw [IntKind.wrap_i64]; omega
  clear h hL hok hP hPl hR hnr hC hdl hbyd hbyf hFl hlt hbl hlF hbF hNN hrmE ho
  go_enter Try.func47, Try.ntmps47
  go_wp2
  go_region_held3 (fun _ => True) (exact trivial) (fail)
  clear hs1 hs2
  go_wp2_with (first
    | (go_at_call 26; refine Calls.mono hrm ?_; rintro e w1 ⟨rfl, rfl⟩)
    | (go_at_call 53; refine Calls.mono hct ?_; rintro e w1 ⟨rfl, rfl⟩))
  have hbd : Below w.heap.size w w.drew.drew.drew := (Below.refl _ w).drew.drew.drew
  obtain ⟨d0, d1⟩ := HCL.out w.drew.drew.drew (Turn.of_below hbd)
  have hw1 := HW1.out w.drew.drew.drew hbd
  clear hrm hct HW1
  by_cases h0 : E = 0
  · subst h0
    have HNC : Hid (N.C = []) := HE.out rfl
    clear HE
    go_region_held3 (fun w' => w'.cell? ⟨l, 0, none⟩ = some (.pointer (some ⟨d, 0, none⟩)) ∧ w'.cell? ⟨l, 1, none⟩ = some (.int .i64 (g.at' : Int))) (go_keep)
      (first
        | (go_at_call 61; (with_reducible refine Calls.mono hw1 ?_); rintro e w5 ⟨rfl, hD5, hT5⟩; obtain ⟨s0, s1⟩ := HCL.out w5 hT5))
    have hf2 := HF2.out w5.drew (show Dev w5.drew (Grow F w w5) d N from hD5.below ((Below.refl _ w5).drew)) hT5.drew HNC.out
    obtain ⟨t0, t1⟩ := HCL.out w5.drew hT5.drew
    clear hw1 hD5 hT5 d0 d1 s0 s1 hbd
    go_wp2
    go_region_held3 (fun w' => w'.cell? ⟨l, 0, none⟩ = some (.pointer (some ⟨d, 0, none⟩)) ∧ w'.cell? ⟨l, 1, none⟩ = some (.int .i64 (g.at' : Int))) (go_keep)
      (first
        | (go_at_call 61; (with_reducible refine Calls.mono hf2 ?_); rintro e w6 ⟨rfl, hD6, hT6⟩; obtain ⟨s0, s1⟩ := HCL.out w6 hT6))
    go_wp2
    go_ret
    rw [HLF.out]
    exact ⟨rfl, hD6, hT6⟩
  · have hb0 : (E != 0) = true := by rw [bne_iff_ne]; exact h0
    have HE2 : Hid (layF M g P n = (E, N)) := (show _ = _ from by rw [HLF.out, if_pos h0])
    clear h0 HF2 HE
    go_region_held3 (fun w' => w'.cell? ⟨l, 0, none⟩ = some (.pointer (some ⟨d, 0, none⟩)) ∧ w'.cell? ⟨l, 1, none⟩ = some (.int .i64 (g.at' : Int))) (go_keep)
      (first
        | (go_at_call 61; (with_reducible refine Calls.mono hw1 ?_); rintro e w5 ⟨rfl, hD5, hT5⟩; obtain ⟨s0, s1⟩ := HCL.out w5 hT5))
    go_wp2
    go_ret
    rw [HE2.out]
    exact ⟨rfl, hD5, hT5⟩

set_option maxHeartbeats 4000000 in
set_option maxRecDepth 100000 in
theorem lay_more (l d : Nat) (g : G) (b n : Nat) (P : List UInt8) (w : World) (F : Nat → Prop) (M : D) (h : Dev w F d M) (hL : LogV w l d g) (hok : g.Ok) (hlF : ¬ F l)
    (hP : Bytes w (some ⟨b, 0, none⟩) P) (hPl : P.length = 256 * n) (hn : 1 ≤ n) (hnr : n < g.fin - g.at') (hbF : ¬ F b) (hC : M.C.length ≤ 80000) :
    Calls Try.prog 47 #[.pointer (some ⟨l, 0, none⟩), .slice (some ⟨b, 0, none⟩) (256 * n) (256 * n)] w fun e w' => e = .returned (.int .i64 (layF M g P n).1) ∧ Dev w' (Grow F w w') d (layF M g P n).2 ∧ Turn F w w' := by
  have hle := hok.le
  have htop := hok.top
  have hat4 : g.at' ≤ 4096 := by omega
  have hn4 : n ≤ 4096 := by omega
  have hFl := h.2.1
  have hlt : l < w.heap.size := (Array.getElem?_eq_some_iff.1 hL).1
  have hbl : b < w.heap.size := by
    rcases hP with h0 | ⟨b', off', e', hb', _⟩
    · rw [h0] at hPl; simp at hPl; omega
    · simp only [Option.some.injEq, Addr.mk.injEq] at e'
      rw [e'.1]; exact hb'
  have hrm := room_any l d g w.drew hL hok
  obtain ⟨NN, hNN⟩ : ∃ NN, NN = 256 * n := ⟨_, rfl⟩
  obtain ⟨rm, hrmE⟩ : ∃ rm, rm = g.fin - g.at' := ⟨_, rfl⟩
  rw [← hrmE] at hrm
  have hct := count_any NN w.drew.drew (by omega)
  rw [hNN, sect_mul, ← hNN] at hct
  have hdl : (P.drop 256).length = NN - 256 := by rw [List.length_drop, hPl, ← hNN]
  obtain ⟨o, ho⟩ : ∃ o, o = if NN = 256 then 0 else 256 := ⟨_, rfl⟩
  have hbyd : Bytes w (some ⟨b, o, none⟩) (P.drop 256) := by
    by_cases h0 : NN = 256
    · left
      exact List.eq_nil_of_length_eq_zero (by omega)
    · rw [ho, if_neg h0]
      have := hP.drop 256
      rwa [Nat.zero_add] at this
  have hbyf : Bytes w (some ⟨b, 0, none⟩) (P.take 256) := hP.take 256
  obtain ⟨R, hR⟩ : ∃ R, R = wrsF M (g.at' + 1) (behind P n true) := ⟨_, rfl⟩
  have HLF : Hid (layF M g P n = if R.1 ≠ 0 then R else wrsF R.2 g.at' [fsecB P 0]) := (show _ = _ from by rw [layF, decide_eq_true hnr, ← hR])
  have HE : Hid (R.1 = 0 → R.2.C = []) := (show _ → _ from by rw [hR]; exact wrsF_empty _ _ _)
  have HCL : Hid (∀ q, Turn F w q → q.cell? ⟨l, 0, none⟩ = some (.pointer (some ⟨d, 0, none⟩)) ∧ q.cell? ⟨l, 1, none⟩ = some (.int .i64 (g.at' : Int))) := fun q hq => ⟨cell_blk ((hq.block l hlt hlF).trans hL) 0, cell_blk ((hq.block l hlt hlF).trans hL) 1⟩
  have HF2 : Hid (∀ q, Dev q (Grow F w q) d R.2 → Turn F w q → R.2.C = [] → Calls Try.prog 61 #[.pointer (some ⟨d, 0, none⟩), .int .i64 (g.at' : Int), .slice (some ⟨b, 0, none⟩) 256 NN] q fun e w' => e = .returned (.int .i64 (wrsF R.2 g.at' [fsecB P 0]).1) ∧ Dev w' (Grow F w w') d (wrsF R.2 g.at' [fsecB P 0]).2 ∧ Turn F w w') := (by
    intro q hD hT hc
    have := swrite_any d g.at' (some ⟨b, 0, none⟩) (P.take 256) NN q (Grow F w q) R.2 hD (hbyf.turn hT (by intro ad e; simp only [Option.some.injEq] at e; subst e; exact hbF)) (by
      intro _ ad e hf
      simp only [Option.some.injEq] at e
      subst e
      rcases hf with hf | hf
      · exact hbF hf
      · simp at hf; omega) (by rw [List.length_take, hPl]; omega) (by rw [hc, List.length_take, hPl]; unfold sect; simp; omega) (by omega)
    rw [psecs_first hPl hn, show (P.take 256).length = 256 from by rw [List.length_take, hPl]; omega] at this
    refine Calls.mono this ?_
    rintro e w' ⟨rfl, hD', hT'⟩
    exact ⟨rfl, hD'.regrow hT.size hT'.size, hT.trans hT'⟩)
  have HW1 : Hid (∀ q bz c, Below w.heap.size w q → Bytes q (some ⟨bz, 0, none⟩) (P.drop 256 ++ List.replicate 256 0) → w.heap.size ≤ bz → NN - 256 + 256 ≤ c → Calls Try.prog 61 #[.pointer (some ⟨d, 0, none⟩), .int .i64 ((g.at' : Int) + 1), .slice (some ⟨bz, 0, none⟩) (NN - 256 + 256) c] q fun e w' => e = .returned (.int .i64 R.1) ∧ Dev w' (Grow F w w') d R.2 ∧ Turn F w w') := (by
    intro q bz c hq hby hbz hc
    have hlz : (P.drop 256 ++ List.replicate 256 0).length = NN - 256 + 256 := by rw [List.length_append, hdl, List.length_replicate]
    have := swrite_any d (g.at' + 1) (some ⟨bz, 0, none⟩) (P.drop 256 ++ List.replicate 256 0) c q F M (h.below hq) hby (by
      intro _ ad e hf
      simp only [Option.some.injEq] at e
      subst e
      have := hFl _ hf
      simp at this
      omega) (by rw [hlz]; exact hc) (by rw [hlz]; unfold sect; omega) (by omega)
    rw [psecs_more hPl hn, hlz, ← hR, show ((g.at' + 1 : Nat) : Int) = (g.at' : Int) + 1 from by omega] at this
    refine Calls.mono this ?_
    rintro e w' ⟨rfl, hD', hT'⟩
    exact ⟨rfl, hD'.from_below hFl hq hT'.size, Turn.from_below hq hT'⟩)
  have HAZ : Hid (∀ q, Below w.heap.size w q → ∃ c q', (∀ ty, (Builtin.append_ #[50, 3] ty #[.slice (some ⟨b, o, none⟩) (NN - 256) (NN - 256), .int .i64 ((256 : Nat) : Int)]).run Try.prog q = .ok (.slice (some ⟨q.heap.size, 0, none⟩) (NN - 256 + 256) c) q') ∧ Bytes q' (some ⟨q.heap.size, 0, none⟩) (P.drop 256 ++ List.replicate 256 0) ∧ NN - 256 + 256 ≤ c ∧ Below q.heap.size q q') := fun q hq => append_zeros q b o (NN - 256) (P.drop 256) hdl (hbyd.below hq (Nat.le_refl _)) 256 (by omega) (by omega)
  have hs1 : ∀ wx, (Instr.slice 50 (.slice (some ⟨b, 0, none⟩) NN NN) none (some (.int .i64 256)) none).run Try.prog wx = .ok (.slice (some ⟨b, 0, none⟩) 256 NN) wx := fun wx => slice_hi _ NN NN 256 (by omega) wx
  have hs2 : ∀ wx, (Instr.slice 50 (.slice (some ⟨b, 0, none⟩) NN NN) (some (.int .i64 256)) none none).run Try.prog wx = .ok (.slice (some ⟨b, o, none⟩) (NN - 256) (NN - 256)) wx := fun wx => by rw [ho]; exact slice_256 b NN (by omega) wx
  obtain ⟨E, N⟩ := R
  rw [← hNN]
  have hNNb : NN ≤ 1048576 := by omega
  have hcmp : (n : Int) < (rm : Int) := by omega
  have hwa : IntKind.i64.wrap ((g.at' : Int) + 1) = (g.at' : Int) + 1 := by rw [IntKind.wrap_i64]; omega
  clear h hL hok hP hPl hR hnr hC hdl hbyd hbyf hFl hlt hbl hlF hbF hNN hrmE ho
  go_enter Try.func47, Try.ntmps47
  go_wp2
  go_region_held3 (fun _ => True) (exact trivial) (fail)
  clear hs1 hs2
  have hb2 : Below w.heap.size w w.drew.drew := (Below.refl _ w).drew.drew
  obtain ⟨c, q, haz, hbyz, hcz, hbz⟩ := HAZ.out w.drew.drew hb2
  have haz' : ∀ ty, (Builtin.append_ #[50, 3] ty #[.slice (some ⟨b, o, none⟩) (NN - 256) (NN - 256), .int .i64 256]).run Try.prog w.drew.drew = .ok (.slice (some ⟨w.drew.drew.heap.size, 0, none⟩) (NN - 256 + 256) c) q := haz
  have hbq : Below w.heap.size w q := hb2.trans hbz
  have hbd : Below w.heap.size w q.drew := hbq.drew
  have hw1 := HW1.out q.drew w.drew.drew.heap.size c hbd hbyz (Nat.le_refl _) hcz
  obtain ⟨bz, hbzE⟩ : ∃ bz, bz = w.drew.drew.heap.size := ⟨_, rfl⟩
  rw [← hbzE] at haz' hw1
  obtain ⟨NM, hNM⟩ : ∃ NM, NM = NN - 256 + 256 := ⟨_, rfl⟩
  rw [← hNM] at haz' hw1
  have HAZ' := (show Hid _ from haz')
  obtain ⟨d0, d1⟩ := HCL.out q.drew (Turn.of_below hbd)
  clear haz haz' HAZ HW1 hbyz hcz hbz hbzE hNM hb2 hbq
  go_wp2_with (first
    | (go_at_call 26; refine Calls.mono hrm ?_; rintro e w1 ⟨rfl, rfl⟩)
    | (go_at_call 53; refine Calls.mono hct ?_; rintro e w1 ⟨rfl, rfl⟩)
    | (at_builtin; refine wpList_append_run rfl (.tmp 18) (.const (.int .i64 256)) 50 3 rfl (.slice (some ⟨b, o, none⟩) (NN - 256) (NN - 256)) (.int .i64 256) rfl rfl (.slice (some ⟨bz, 0, none⟩) NM c) q HAZ'.out ?_))
  clear hrm hct HAZ'
  by_cases h0 : E = 0
  · subst h0
    have HNC : Hid (N.C = []) := HE.out rfl
    clear HE
    go_region_held3 (fun w' => w'.cell? ⟨l, 0, none⟩ = some (.pointer (some ⟨d, 0, none⟩)) ∧ w'.cell? ⟨l, 1, none⟩ = some (.int .i64 (g.at' : Int))) (go_keep)
      (first
        | (go_at_call 61; (with_reducible refine Calls.mono hw1 ?_); rintro e w5 ⟨rfl, hD5, hT5⟩; obtain ⟨s0, s1⟩ := HCL.out w5 hT5))
    have hf2 := HF2.out w5.drew (show Dev w5.drew (Grow F w w5) d N from hD5.below ((Below.refl _ w5).drew)) hT5.drew HNC.out
    obtain ⟨t0, t1⟩ := HCL.out w5.drew hT5.drew
    clear hw1 hD5 hT5 d0 d1 s0 s1 hbd
    go_wp2
    go_region_held3 (fun w' => w'.cell? ⟨l, 0, none⟩ = some (.pointer (some ⟨d, 0, none⟩)) ∧ w'.cell? ⟨l, 1, none⟩ = some (.int .i64 (g.at' : Int))) (go_keep)
      (first
        | (go_at_call 61; (with_reducible refine Calls.mono hf2 ?_); rintro e w6 ⟨rfl, hD6, hT6⟩; obtain ⟨s0, s1⟩ := HCL.out w6 hT6))
    go_wp2
    go_ret
    rw [HLF.out]
    exact ⟨rfl, hD6, hT6⟩
  · have hb0 : (E != 0) = true := by rw [bne_iff_ne]; exact h0
    have HE2 : Hid (layF M g P n = (E, N)) := (show _ = _ from by rw [HLF.out, if_pos h0])
    clear h0 HF2 HE
    go_region_held3 (fun w' => w'.cell? ⟨l, 0, none⟩ = some (.pointer (some ⟨d, 0, none⟩)) ∧ w'.cell? ⟨l, 1, none⟩ = some (.int .i64 (g.at' : Int))) (go_keep)
      (first
        | (go_at_call 61; (with_reducible refine Calls.mono hw1 ?_); rintro e w5 ⟨rfl, hD5, hT5⟩; obtain ⟨s0, s1⟩ := HCL.out w5 hT5))
    go_wp2
    go_ret
    rw [HE2.out]
    exact ⟨rfl, hD5, hT5⟩

theorem lay_any (l d : Nat) (g : G) (b n : Nat) (P : List UInt8) (w : World) (F : Nat → Prop) (M : D) (h : Dev w F d M) (hL : LogV w l d g) (hok : g.Ok) (hlF : ¬ F l)
    (hP : Bytes w (some ⟨b, 0, none⟩) P) (hPl : P.length = 256 * n) (hn : 1 ≤ n) (hfit : n ≤ g.fin - g.at') (hbF : ¬ F b) (hC : M.C.length ≤ 80000) :
    Calls Try.prog 47 #[.pointer (some ⟨l, 0, none⟩), .slice (some ⟨b, 0, none⟩) (256 * n) (256 * n)] w fun e w' => e = .returned (.int .i64 (layF M g P n).1) ∧ Dev w' (Grow F w w') d (layF M g P n).2 ∧ Turn F w w' := by
  by_cases hx : n = g.fin - g.at'
  · exact lay_just l d g b n P w F M h hL hok hlF hP hPl hn hx hbF hC
  · exact lay_more l d g b n P w F M h hL hok hlF hP hPl hn (by omega) hbF hC
end Go.Proofs.Ytecljiefljgfmaa

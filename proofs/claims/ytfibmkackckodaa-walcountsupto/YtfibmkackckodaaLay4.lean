/-
  lay by its contract, in both cases.
-/
import Derived.Test.YtfibmkackckodaaLay3
namespace Go.Proofs.Ytfibmkackckodaa
open Go.RowKit

set_option maxHeartbeats 4000000 in
set_option maxRecDepth 100000 in
theorem lay_more (l d : Nat) (g : G) (base gr b n cr : Nat) (P : List UInt8) (w : World) (F : Nat → Prop) (M : D) (h : Dev w F d M) (hL : LogV w l d g) (hok : g.Ok) (hlF : ¬ F l)
    (hrow : w.ownsRow base 50 1 (.slice (some ⟨gr, 0, none⟩) n cr) n ((List.range n).map (chk b))) (hP : Bytes w (some ⟨b, 0, none⟩) P) (hPl : P.length = 256 * n) (hn : 1 ≤ n) (hnr : n < g.fin - g.at') (hgF : ¬ F gr) (hbF : ¬ F b) (hC : M.C.length ≤ 80000) :
    Calls Try.prog 38 #[.pointer (some ⟨l, 0, none⟩), .slice (some ⟨gr, 0, none⟩) n cr] w fun e w' => e = .returned (.int .i64 (layF M g P n).1) ∧ Dev w' (Grow F w w') d (layF M g P n).2 ∧ Turn (fun k => F k ∨ k = gr) w w' := by
  obtain ⟨i0, hi, hz0, hz1, hz2⟩ := info_parts info5
  obtain ⟨g', c', he, hncr, hbg, hglt⟩ := owns_head hrow hn
  simp only [Value.slice.injEq, Option.some.injEq, Addr.mk.injEq, and_true] at he
  obtain ⟨rfl, _, rfl⟩ := he
  have hat4 : g.at' ≤ 4096 := by have := hok.top; have := hok.le; omega
  have hrm := room_any l d g w hL hok
  obtain ⟨rm, hrmE⟩ : ∃ rm, rm = g.fin - g.at' := ⟨_, rfl⟩
  rw [← hrmE] at hrm
  have hnrm : (n : Int) < (rm : Int) := by omega
  obtain ⟨R, hR⟩ : ∃ R, R = wrsF M (g.at' + 1) (behind P n (decide (n < g.fin - g.at'))) := ⟨_, rfl⟩
  have HM : Hid (∀ (w2 : World), w2.heap[w.heap.size]? = some (.cells (bcs (List.replicate 256 0)).toArray 5 (0, 0)) → Below w.heap.size w w2 → ∀ o, (o = if cr = 1 then 0 else 1) → _) := fun w2 q1 q2 o q3 => more_step l d g base gr b n cr P w F M h hL hok hlF hrow hP hPl hn hnr hgF hbF hC w2 q1 q2 o q3 R hR
  have HLF : Hid (layF M g P n = if R.1 ≠ 0 then R else wrsF R.2 g.at' [fsecB P 0]) := (show _ = _ from by rw [layF, ← hR])
  have HE : Hid (R.1 = 0 → R.2.C = []) := (show _ → _ from by rw [hR]; exact wrsF_empty _ _ _)
  obtain ⟨E, N⟩ := R
  have HI : Hid (∀ w4 w' N', Turn (fun k => k = gr) w w4 → Dev w' (Grow F w4 w') d N' → Turn F w4 w' → Dev w' (Grow F w w') d N' ∧ Turn (fun k => F k ∨ k = gr) w w') := (by
    intro w4 w' N' h1 h2 h3
    refine ⟨h2.wider ?_ ?_, (h1.mono (fun _ => Or.inr)).trans' (h3.mono (fun _ => Or.inl))⟩
    · intro k hk
      rcases hk with hk | hk
      · exact .inl hk
      · exact .inr ⟨Nat.le_trans h1.size hk.1, hk.2⟩
    · intro k hk
      rcases hk with hk | hk
      · have := h.lts k hk
        have := h1.size
        have := h3.size
        omega
      · exact hk.2)
  have hm : i0.bytes * 256 ≤ 281474976710656 := by rw [hz2]; omega
  have c1 : w.cell? ⟨l, 1, none⟩ = some (.int .i64 (g.at' : Int)) := cell_blk hL 1
  have HB : Hid (∀ w2, w.drew.grownBy w2 none → Below w.heap.size w w2) := fun w2 hg => ((Below.refl _ w).drew).grown hg (Nat.le_refl _) (by simp)
  clear h hrow hP hL hok hR hnr hbg hglt hbF hgF hPl hlF hrmE
  rcases Decidable.em (cr = 1) with hcr | hcr
  · subst hcr
    obtain rfl : n = 1 := by omega
    by_cases h0 : E = 0
    · subst h0
      have HNC : Hid (N.C = []) := HE.out rfl
      clear HE
      go_enter Try.func38, Try.ntmps38
      go_upto_region 3 with (go_at_call 24; refine Calls.mono hrm ?_; rintro e w1 ⟨rfl, rfl⟩)
      go_upto_region 4 with (first
        | (at_make; refine wpList_make_full _ rfl _ _ 50 rfl w.heap.size 5 i0 (.int .u8 0) 1 Try.underlying50 hi hz0 hz1 _ _ _ _ 256 rfl rfl (by first | rfl | omega) (by first | rfl | omega) hm (by unfold maxLen; omega) (Nat.le_refl _) ?_; intro w2 ho2 hg2; rw [made_bytes] at ho2)
        | (at_builtin
           obtain ⟨b', off', c', w4, hrun, c4, hW, hF4, hT4⟩ := HM.out w2 (row_full ho2) (HB.out w2 hg2) 0 rfl
           refine wpList_append_run rfl (.tmp 14) (.tmp 16) 83 83 rfl _ _ rfl rfl _ w4 hrun ?_))
      have HT4 : Hid (Turn (fun k => k = gr) w w4) := hT4
      have HF4 := (show Hid _ from hF4)
      clear hT4 hF4 hrun ho2 hg2 HM HB c1
      go_upto_region 7 with (go_at_call 64; refine Calls.mono hW ?_; rintro e w5 ⟨rfl, hD5, hT5⟩; obtain ⟨c5d, hf5⟩ := HF4.out w5.drew (hD5.below ((Below.refl _ _).drew)) hT5.drew HNC.out; have c5 : w5.cell? ⟨l, 1, none⟩ = some (.int .i64 (g.at' : Int)) := c5d; clear hD5 hT5 c5d)
      go_region_with (go_at_call 64; refine Calls.mono hf5 ?_; rintro e w6 ⟨rfl, hD6, hT6⟩)
      go_wp2
      go_ret
      rw [HLF.out]
      exact ⟨rfl, HI.out _ _ _ HT4.out hD6 hT6⟩
    · have hb0 : (E != 0) = true := by rw [bne_iff_ne]; exact h0
      have HE2 : Hid (layF M g P _ = (E, N)) := (show _ = _ from by rw [HLF.out, if_pos h0])
      clear h0
      go_enter Try.func38, Try.ntmps38
      go_upto_region 3 with (go_at_call 24; refine Calls.mono hrm ?_; rintro e w1 ⟨rfl, rfl⟩)
      go_upto_region 4 with (first
        | (at_make; refine wpList_make_full _ rfl _ _ 50 rfl w.heap.size 5 i0 (.int .u8 0) 1 Try.underlying50 hi hz0 hz1 _ _ _ _ 256 rfl rfl (by first | rfl | omega) (by first | rfl | omega) hm (by unfold maxLen; omega) (Nat.le_refl _) ?_; intro w2 ho2 hg2; rw [made_bytes] at ho2)
        | (at_builtin
           obtain ⟨b', off', c', w4, hrun, c4, hW, hF4, hT4⟩ := HM.out w2 (row_full ho2) (HB.out w2 hg2) 0 rfl
           refine wpList_append_run rfl (.tmp 14) (.tmp 16) 83 83 rfl _ _ rfl rfl _ w4 hrun ?_))
      have HT4 : Hid (Turn (fun k => k = gr) w w4) := hT4
      clear hT4 hF4 hrun ho2 hg2 HM HB c1
      go_wp2_with (go_at_call 64; refine Calls.mono hW ?_; rintro e w5 ⟨rfl, hD5, hT5⟩)
      go_ret
      rw [HE2.out]
      exact ⟨rfl, HI.out _ _ _ HT4.out hD5 hT5⟩
  · have hcr1 : (1 : Int) ≤ (cr : Int) := by omega
    by_cases h0 : E = 0
    · subst h0
      have HNC : Hid (N.C = []) := HE.out rfl
      clear HE
      go_enter Try.func38, Try.ntmps38
      go_upto_region 3 with (go_at_call 24; refine Calls.mono hrm ?_; rintro e w1 ⟨rfl, rfl⟩)
      go_upto_region 4 with (first
        | (at_make; refine wpList_make_full _ rfl _ _ 50 rfl w.heap.size 5 i0 (.int .u8 0) 1 Try.underlying50 hi hz0 hz1 _ _ _ _ 256 rfl rfl (by first | rfl | omega) (by first | rfl | omega) hm (by unfold maxLen; omega) (Nat.le_refl _) ?_; intro w2 ho2 hg2; rw [made_bytes] at ho2)
        | (at_builtin
           obtain ⟨b', off', c', w4, hrun, c4, hW, hF4, hT4⟩ := HM.out w2 (row_full ho2) (HB.out w2 hg2) 1 (if_neg hcr).symm
           refine wpList_append_run rfl (.tmp 14) (.tmp 16) 83 83 rfl _ _ rfl rfl _ w4 hrun ?_))
      have HT4 : Hid (Turn (fun k => k = gr) w w4) := hT4
      have HF4 := (show Hid _ from hF4)
      clear hT4 hF4 hrun ho2 hg2 HM HB c1
      go_upto_region 7 with (go_at_call 64; refine Calls.mono hW ?_; rintro e w5 ⟨rfl, hD5, hT5⟩; obtain ⟨c5d, hf5⟩ := HF4.out w5.drew (hD5.below ((Below.refl _ _).drew)) hT5.drew HNC.out; have c5 : w5.cell? ⟨l, 1, none⟩ = some (.int .i64 (g.at' : Int)) := c5d; clear hD5 hT5 c5d)
      go_region_with (go_at_call 64; refine Calls.mono hf5 ?_; rintro e w6 ⟨rfl, hD6, hT6⟩)
      go_wp2
      go_ret
      rw [HLF.out]
      exact ⟨rfl, HI.out _ _ _ HT4.out hD6 hT6⟩
    · have hb0 : (E != 0) = true := by rw [bne_iff_ne]; exact h0
      have HE2 : Hid (layF M g P _ = (E, N)) := (show _ = _ from by rw [HLF.out, if_pos h0])
      clear h0
      go_enter Try.func38, Try.ntmps38
      go_upto_region 3 with (go_at_call 24; refine Calls.mono hrm ?_; rintro e w1 ⟨rfl, rfl⟩)
      go_upto_region 4 with (first
        | (at_make; refine wpList_make_full _ rfl _ _ 50 rfl w.heap.size 5 i0 (.int .u8 0) 1 Try.underlying50 hi hz0 hz1 _ _ _ _ 256 rfl rfl (by first | rfl | omega) (by first | rfl | omega) hm (by unfold maxLen; omega) (Nat.le_refl _) ?_; intro w2 ho2 hg2; rw [made_bytes] at ho2)
        | (at_builtin
           obtain ⟨b', off', c', w4, hrun, c4, hW, hF4, hT4⟩ := HM.out w2 (row_full ho2) (HB.out w2 hg2) 1 (if_neg hcr).symm
           refine wpList_append_run rfl (.tmp 14) (.tmp 16) 83 83 rfl _ _ rfl rfl _ w4 hrun ?_))
      have HT4 : Hid (Turn (fun k => k = gr) w w4) := hT4
      clear hT4 hF4 hrun ho2 hg2 HM HB c1
      go_wp2_with (go_at_call 64; refine Calls.mono hW ?_; rintro e w5 ⟨rfl, hD5, hT5⟩)
      go_ret
      rw [HE2.out]
      exact ⟨rfl, HI.out _ _ _ HT4.out hD5 hT5⟩

theorem lay_any (l d : Nat) (g : G) (base gr b n cr : Nat) (P : List UInt8) (w : World) (F : Nat → Prop) (M : D) (h : Dev w F d M) (hL : LogV w l d g) (hok : g.Ok) (hlF : ¬ F l)
    (hrow : w.ownsRow base 50 1 (.slice (some ⟨gr, 0, none⟩) n cr) n ((List.range n).map (chk b))) (hP : Bytes w (some ⟨b, 0, none⟩) P) (hPl : P.length = 256 * n) (hn : 1 ≤ n) (hnr : n ≤ g.fin - g.at') (hgF : ¬ F gr) (hbF : ¬ F b) (hC : M.C.length ≤ 80000) :
    Calls Try.prog 38 #[.pointer (some ⟨l, 0, none⟩), .slice (some ⟨gr, 0, none⟩) n cr] w fun e w' => e = .returned (.int .i64 (layF M g P n).1) ∧ Dev w' (Grow F w w') d (layF M g P n).2 ∧ Turn (fun k => F k ∨ k = gr) w w' := by
  by_cases hx : n = g.fin - g.at'
  · exact lay_just l d g base gr b n cr P w F M h hL hok hlF hrow hP hPl hn hx hgF hbF hC
  · exact lay_more l d g base gr b n cr P w F M h hL hok hlF hrow hP hPl hn (by omega) hgF hbF hC
end Go.Proofs.Ytfibmkackckodaa

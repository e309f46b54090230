/-
  The law's awake.
-/
import Derived.Test.YtpmjkgpmidejoaaHold
namespace Go.Proofs.Ytpmjkgpmidejoaa
open Go.RowKit

def K0 : Nat → Prop := fun _ => False
theorem refs_nil (w : World) : Refs w none [] := ⟨fun r hr => by simp at hr, .inl rfl⟩

set_option maxHeartbeats 4000000 in
set_option maxRecDepth 100000 in
theorem awake_any (w : World) : Calls Try.prog 8 #[] w fun e w' => e = .returned (.bool true) ∧ Below w.heap.size w w' := by
  obtain ⟨i0, hi, hz0, hz1, hz2⟩ := info_parts info5
  have hm : i0.bytes * 300 ≤ 281474976710656 := by rw [hz2]; omega
  have hnew := dl_new w w K0 (fun k hk => hk.elim) (Below.refl _ _) 16 (by omega) (by omega)
  obtain ⟨M0, hM0⟩ : ∃ M0, M0 = D.new 16 blank := ⟨_, rfl⟩
  have HC : Hid (Calm M0 ∧ M0.S.length = 16 ∧ M0.L.length = 16) := ⟨by rw [hM0]; exact new_calm 16, by rw [hM0]; simp [D.new], by rw [hM0]; simp [D.new]⟩
  rw [← hM0] at hnew
  have HO : Hid (∀ w1 d, DL w K0 d M0 w1 → Calls Try.prog 11 #[.pointer (some ⟨d, 0, none⟩), .int .i64 4, .int .i64 8, .slice none 0 0] w1 fun e w' => ∃ b s, e = .returned (.tuple #[.pointer (some ⟨b, 0, none⟩), .int .i64 0]) ∧ Hid (BL w K0 b d s 4 M0 (pre 0 8) w')) := (by
    intro w1 d hd
    refine (bl_open w w1 K0 d 4 8 M0 hd (by rw [HC.out.2.2]; omega) none [] 0 (refs_nil _) (by simp) (pre 0 8) (by rw [← pre_new]; rfl)).mono ?_
    rintro e w' ⟨b, s, rfl, q1, _⟩
    exact ⟨b, s, rfl, q1⟩)
  have HWR : Hid (∀ w2 w3 b d s, BL w K0 b d s 4 M0 (pre 0 8) w2 → w3.ownsRow w2.heap.size 5 1 (.slice (some ⟨w2.heap.size, 0, none⟩) 300 300) 300 (bcs (List.replicate 300 0)) → w2.grownBy w3 none → Calls Try.prog 13 #[.pointer (some ⟨b, 0, none⟩), .slice (some ⟨w2.heap.size, 0, none⟩) 300 300] w3 fun e w' => e = .returned (.tuple #[rv 0 300, .int .i64 0]) ∧ Hid (BL w K0 b d s 4 (putD M0 4 (List.replicate 300 0)) (pre 2 6) w')) := (by
    intro w2 w3 b d s hb ho hg
    have hb3 : Below w2.heap.size w2 w3 := (Below.refl _ _).grown hg (Nat.le_refl _) (by simp)
    have hlt := (owns_lt ho w2.heap.size rfl).2
    have h1 := hb.more hb3
    have hw := bl_write w w3 (More K0 w2 w3) b d s 4 M0 (pre 0 8) h1 (some ⟨w2.heap.size, 0, none⟩) (List.replicate 300 0) 300 (own_bytes ho) (fun _ ad e => by simp only [Option.some.injEq] at e; subst e; exact .inr (.inr ⟨Nat.le_refl _, hlt⟩)) (by simp) (by simp) (by rw [HC.out.1.c]; simp) (by omega)
    have e := wr_pre (u := 0) (v := 8) (fr := 4) (List.replicate 300 0) HC.out.1 (by rw [HC.out.2.1]; omega)
    rw [List.length_replicate, if_neg (by omega), show nsec 300 = 2 from by decide, if_pos (by omega)] at e
    rw [e, List.length_replicate] at hw
    refine hw.mono ?_
    rintro e2 w' ⟨rfl, q1, _⟩
    exact ⟨rfl, q1.less fun k h => h.elim⟩)
  have HRD : Hid (∀ w3 w4 b d s, BL w K0 b d s 4 (putD M0 4 (List.replicate 300 0)) (pre 2 6) w3 → Below w3.heap.size w3 w4 → Calls Try.prog 15 #[.pointer (some ⟨b, 0, none⟩), rv 0 300, .int .i64 250, .int .i64 10] w4 fun e w' => ∃ a c, e = .returned (.tuple #[.slice a 10 c, .int .i64 0]) ∧ Hid (BL w K0 b d s 4 (putD M0 4 (List.replicate 300 0)) (pre 2 6) w') ∧ Below w4.heap.size w4 w') := (by
    intro w3 w4 b d s hb hb4
    have hl : Lies (putD M0 4 (List.replicate 300 0)).S 4 (List.replicate 300 0) := putD_lies (by rw [HC.out.2.1, List.length_replicate]; decide)
    have hc := putD_calm HC.out.1 4 (List.replicate 300 0)
    have hr := bl_read w w4 K0 b d s 4 (putD M0 4 (List.replicate 300 0)) (pre 2 6) (hb.below hb4) 0 300 250 10 (pre_giveR (by decide) (by omega)) (by omega) hc.sz (by rw [pre_length, putD_length, HC.out.2.1]; omega)
    have e := read_lies hl (by rw [hc.st]; omega) 250 10 (by rw [List.length_replicate]; omega)
    rw [List.length_replicate] at e
    rw [Nat.add_zero, e] at hr
    refine hr.mono ?_
    rintro e2 w' ⟨a, c, rfl, _, _, _, q1, q2⟩
    refine ⟨a, c, ?_, q1, q2⟩
    rw [show ((List.drop 250 (List.replicate 300 (0 : UInt8))).take 10).length = 10 from by rw [List.length_take, List.length_drop, List.length_replicate]; rfl])
  have HFR : Hid (∀ w5 b d s, BL w K0 b d s 4 (putD M0 4 (List.replicate 300 0)) (pre 2 6) w5 → Calls Try.prog 25 #[.pointer (some ⟨b, 0, none⟩)] w5 fun e w' => e = .returned (.int .i64 6) ∧ Below w.heap.size w w') := (by
    intro w5 b d s hb
    have := bl_free w w5 K0 b d s 4 _ _ hb
    rw [pre_count] at this
    exact this.mono fun e w' q => ⟨q.1, q.2.1.old⟩)
  have hsec := fun w => sectors_any 252 w (by omega)
  rw [show secI 252 = 1 from by decide] at hsec
  clear hM0
  go_enter Try.func8, Try.ntmps8
  go_wp2_with (first
    | (go_at_call 9; refine Calls.mono hnew ?_; rintro e w1 ⟨d, rfl, q1, q2⟩; have ho := HO.out w1 d q1; clear q1 q2)
    | (go_at_call 11; refine Calls.mono ho ?_; rintro e w2 ⟨b, s, rfl, HB⟩)
    | (at_make; refine wpList_make_full _ rfl _ _ 38 rfl w2.heap.size 5 i0 (.int .u8 0) 1 Try.underlying38 hi hz0 hz1 _ _ _ _ 300 rfl rfl (by first | rfl | omega) (by first | rfl | omega) hm (by unfold maxLen; omega) (Nat.le_refl _) ?_; intro w3 ho3 hg3; rw [made_bytes] at ho3; have hwr := HWR.out w2 w3 b d s HB.out ho3 hg3; clear ho3 hg3)
    | (go_at_call 13; refine Calls.mono hwr ?_; rintro e w4 ⟨rfl, HB2⟩; have hrd := HRD.out w4 (w4.alloc (.cells #[.int .i64 0, .int .i64 300] 40)) b d s HB2.out ((Below.refl _ w4).alloc (Nat.le_refl _) _))
    | (go_at_call 15; refine Calls.mono hrd ?_; rintro e w5 ⟨a5, c5, rfl, HB3, q5⟩; have k0 : w5.cell? ⟨w4.heap.size, 0, none⟩ = some (.int .i64 0) := (q5.cell (p := ⟨w4.heap.size, 0, none⟩) (by simp)).trans (cell_blk (heap_alloc_new w4 _) 0); have k1 : w5.cell? ⟨w4.heap.size, 1, none⟩ = some (.int .i64 300) := (q5.cell (p := ⟨w4.heap.size, 1, none⟩) (by simp)).trans (cell_blk (heap_alloc_new w4 _) 1); have hfr := HFR.out w5 b d s HB3.out; clear q5)
    | (go_at_call 25; refine Calls.mono hfr ?_; rintro e w6 ⟨rfl, q6⟩)
    | (go_at_call 28; refine Calls.mono (hsec _) ?_; rintro e w7 ⟨rfl, rfl⟩))
  go_ret
  exact ⟨rfl, q6⟩
end Go.Proofs.Ytpmjkgpmidejoaa

/-
  PackVersion by its contract.
-/
import Derived.Test.YtbhiabcgjnfpoaaGreatDoorRun22
import Derived.Test.YtbhiabcgjnfpoaaGreatDoorUnW
namespace Go.Proofs.YtbhiabcgjnfpoaaGreatDoor
open Go.RowKit

/-- The fields of a version. -/
def verF (key etag typ : ByteArray) (seq size time start rsz : Int) (nul mar : Bool) (H T : List (ByteArray × ByteArray)) : List ByteArray :=
  [key, tx seq, flF nul, flF mar, etag, tx size, tx time, typ] ++ ((tx H.length :: prF H) ++ ((tx T.length :: prF T) ++ [tx start, tx rsz]))

theorem rws4 {W : World} {b p : Nat} {a4 a5 : Option Addr} {c4 c5 g6 n4 n5 : Nat} {F8 F4 F5 F6 : List ByteArray} (h8 : F8.length = 8) (h4 : F4.length = n4) (h5 : F5.length = n5) (h6 : F6.length = 2)
    (h1 : W.heap[b]? = some (.cells #[.slice (some ⟨p, 0, none⟩) 8 8, .slice a4 n4 c4, .slice a5 n5 c5, .slice (some ⟨g6, 0, none⟩) 2 2] 65 (0, 0))) (h2 : W.heap[p]? = some (.cells (F8.map Value.string).toArray 9 (0, 0)))
    (s4 : En.Strs W a4 F4) (o4 : a4 = none → c4 = 0) (s5 : En.Strs W a5 F5) (o5 : a5 = none → c5 = 0) (s6 : En.Strs W (some ⟨g6, 0, none⟩) F6) :
    Rws W b [⟨some ⟨p, 0, none⟩, F8, 8⟩, ⟨a4, F4, c4⟩, ⟨a5, F5, c5⟩, ⟨some ⟨g6, 0, none⟩, F6, 2⟩] := by
  refine ⟨blk_lt h1, fun j hj => ?_⟩
  have s8 : En.Strs W (some ⟨p, 0, none⟩) F8 := by
    refine .inr ⟨p, 0, rfl, blk_lt h2, fun j hj => ?_⟩
    rw [Nat.zero_add, cell_blk h2]
    simp [List.getElem?_eq_getElem hj]
  match j, hj with
  | 0, _ => exact ⟨by rw [cell_blk h1]; simp [Sl.v, h8], s8, fun h => by cases h⟩
  | 1, _ => exact ⟨by rw [cell_blk h1]; simp [Sl.v, h4], s4, o4⟩
  | 2, _ => exact ⟨by rw [cell_blk h1]; simp [Sl.v, h5], s5, o5⟩
  | 3, _ => exact ⟨by rw [cell_blk h1]; simp [Sl.v, h6], s6, fun h => by cases h⟩
  | k + 4, hk => simp at hk; omega

theorem owns_open {w : World} {base : Nat} {v : Value} {L : List ByteArray} (h : En.OwnS w base v L) : ∃ a c, v = .slice a L.length c ∧ En.Strs w a L ∧ (a = none → c = 0) := by
  obtain ⟨a, c, rfl, hs⟩ := h.strs
  refine ⟨a, c, rfl, hs, ?_⟩
  rintro rfl
  obtain ⟨_, ⟨h1, h2⟩ | ⟨g, cap', cur, h1, _⟩⟩ := h
  · simp only [Value.slice.injEq] at h1; exact h1.2.2
  · simp at h1

set_option maxRecDepth 20000 in
set_option maxHeartbeats 8000000 in
theorem packVersion_any (key etag typ : ByteArray) (seq size time start rsz : Int) (nul mar : Bool) (H T : List (ByteArray × ByteArray)) (ha ta : Option Addr) (hc tc : Nat) (w : World) (hH : Prs w ha H) (hT : Prs w ta T) (nH : H.length ≤ 1048576) (nT : T.length ≤ 1048576)
    (b1 : (-9223372036854775808 ≤ seq ∧ seq ≤ 9223372036854775807)) (b2 : (-9223372036854775808 ≤ size ∧ size ≤ 9223372036854775807)) (b3 : (-9223372036854775808 ≤ time ∧ time ≤ 9223372036854775807)) (b4 : (-9223372036854775808 ≤ start ∧ start ≤ 9223372036854775807)) (b5 : (-9223372036854775808 ≤ rsz ∧ rsz ≤ 9223372036854775807)) (ht : Tab w) (htt : En.tot (verF key etag typ seq size time start rsz nul mar H T) ≤ 70368744177664) :
    Calls Tryz.prog 8 #[.agg #[.string key, .int .i64 seq, .bool nul, .bool mar, .string etag, .int .i64 size, .int .i64 time, .string typ, .slice ha H.length hc, .slice ta T.length tc, .int .i64 start, .int .i64 rsz]] w fun e w' => e = .returned (.string ⟨(En.packL (verF key etag typ seq size time start rsz nul mar H T)).toArray⟩) ∧ Below w.heap.size w w' := by
  have HT : Hid (Tab w ∧ Prs w ha H ∧ Prs w ta T) := ⟨ht, hH, hT⟩
  clear ht hH hT
  go_enter Tryz.func8, Tryz.ntmps8
  go_wp2
  obtain ⟨W0, hW0⟩ : ∃ W0, W0 = w.alloc (.cells #[.string key, .int .i64 seq, .bool nul, .bool mar, .string etag, .int .i64 size, .int .i64 time, .string typ, .slice ha H.length hc, .slice ta T.length tc, .int .i64 start, .int .i64 rsz] 30) := ⟨_, rfl⟩
  obtain ⟨g, hg⟩ : ∃ g, g = w.heap.size := ⟨_, rfl⟩
  have b0 : W0.heap[g]? = some (.cells #[.string key, .int .i64 seq, .bool nul, .bool mar, .string etag, .int .i64 size, .int .i64 time, .string typ, .slice ha H.length hc, .slice ta T.length tc, .int .i64 start, .int .i64 rsz] 30 (0, 0)) := by rw [hW0, hg]; exact heap_alloc_new w _
  have hB0 : Below w.heap.size w W0 := by rw [hW0]; exact bel_alloc (Below.refl _ w) _
  have ht0 : Tab W0 := HT.out.1.below hB0
  have hH0 := HT.out.2.1.below hB0 (Nat.le_refl _)
  have hT0 := HT.out.2.2.below hB0 (Nat.le_refl _)
  have HK32 : Hid (∀ n W, Below W0.heap.size W0 W → (-9223372036854775808 ≤ n ∧ n ≤ 9223372036854775807) → Calls Tryz.prog 32 #[.int .i64 n] W fun e w' => e = .returned (.string (tx n)) ∧ Below W.heap.size W w') := fun n W hb h => text_any n W h.1 h.2 (ht0.below hb)
  have HK41 : Hid (∀ b W, Calls Tryz.prog 41 #[.bool b] W fun e w' => e = .returned (.string (flF b)) ∧ W = w') := fun b W => flagField_any b W
  have HK42 : Hid (∀ W, Below W0.heap.size W0 W → Calls Tryz.prog 42 #[.slice ha H.length hc, .func (.func 43) #[] #[]] W fun e w' => ∃ a c, e = .returned (.slice a (2 * H.length + 1) c) ∧ En.Strs w' a (tx H.length :: prF H) ∧ (a = none → c = 0) ∧ Below W.heap.size W w') := fun W hb => (headersL_any ha H hc W (hH0.below hb (Nat.le_refl _)) nH (ht0.below hb)).mono fun e w' ⟨v, he, ho, hbe⟩ => by
    obtain ⟨a, c, hv, hs, hn⟩ := owns_open ho
    rw [List.length_cons, prF_len] at hv
    exact ⟨a, c, by rw [he, hv], hs, hn, hbe⟩
  have HK35 : Hid (∀ W, Below W0.heap.size W0 W → Calls Tryz.prog 35 #[.slice ta T.length tc, .func (.func 36) #[] #[]] W fun e w' => ∃ a c, e = .returned (.slice a (2 * T.length + 1) c) ∧ En.Strs w' a (tx T.length :: prF T) ∧ (a = none → c = 0) ∧ Below W.heap.size W w') := fun W hb => (tagsL_any ta T tc W (hT0.below hb (Nat.le_refl _)) nT (ht0.below hb)).mono fun e w' ⟨v, he, ho, hbe⟩ => by
    obtain ⟨a, c, hv, hs, hn⟩ := owns_open ho
    rw [List.length_cons, prF_len] at hv
    exact ⟨a, c, by rw [he, hv], hs, hn, hbe⟩
  have HK44 : Hid (∀ W, Below W0.heap.size W0 W → Calls Tryz.prog 44 #[.agg #[.int .i64 start, .int .i64 rsz]] W fun e w' => ∃ g, e = .returned (.slice (some ⟨g, 0, none⟩) 2 2) ∧ En.Strs w' (some ⟨g, 0, none⟩) [tx start, tx rsz] ∧ Below W.heap.size W w') := fun W hb => (refFields_any start rsz W b4.1 b4.2 b5.1 b5.2 (ht0.below hb)).mono fun e w' ⟨g, he, ho, hbe⟩ => by
    obtain ⟨a, c, hv, hs, hn⟩ := owns_open ho
    simp only [Value.slice.injEq] at hv
    rw [← hv.1] at hs
    exact ⟨g, he, hs, hbe⟩
  have HK31 : Hid (∀ (W : World) (b p : Nat) (a4 : Option Addr) (c4 : Nat) (a5 : Option Addr) (c5 g6 : Nat), W.heap[b]? = some (.cells #[.slice (some ⟨p, 0, none⟩) 8 8, .slice a4 (2 * H.length + 1) c4, .slice a5 (2 * T.length + 1) c5, .slice (some ⟨g6, 0, none⟩) 2 2] 65 (0, 0)) → W.heap[p]? = some (.cells #[.string key, .string (tx seq), .string (flF nul), .string (flF mar), .string etag, .string (tx size), .string (tx time), .string typ] 9 (0, 0)) →
      En.Strs W a4 (tx H.length :: prF H) → (a4 = none → c4 = 0) → En.Strs W a5 (tx T.length :: prF T) → (a5 = none → c5 = 0) → En.Strs W (some ⟨g6, 0, none⟩) [tx start, tx rsz] →
      Calls Tryz.prog 31 #[.slice (some ⟨b, 0, none⟩) 4 4] W fun e w' => e = .returned (.string ⟨(En.packL (verF key etag typ seq size time start rsz nul mar H T)).toArray⟩) ∧ Below W.heap.size W w') := by
    intro W b p a4 c4 a5 c5 g6 h1 h2 s4 o4 s5 o5 s6
    have hr := rws4 (F8 := [key, tx seq, flF nul, flF mar, etag, tx size, tx time, typ]) rfl (by rw [List.length_cons, prF_len]) (by rw [List.length_cons, prF_len]) rfl h1 h2 s4 o4 s5 o5 s6
    have hcat : cat [⟨some ⟨p, 0, none⟩, [key, tx seq, flF nul, flF mar, etag, tx size, tx time, typ], 8⟩, ⟨a4, tx H.length :: prF H, c4⟩, ⟨a5, tx T.length :: prF T, c5⟩, ⟨some ⟨g6, 0, none⟩, [tx start, tx rsz], 2⟩] = verF key etag typ seq size time start rsz nul mar H T := by
      simp [cat, verF]
    have := packF_any b _ 4 W hr (by simp) (by rw [hcat]; simp [verF, prF_len]; omega) (by rw [hcat]; exact htt)
    rw [hcat] at this
    exact this
  have HCE : Hid (∀ w', Below W0.heap.size W0 w' → w'.cell? ⟨g, 0, none⟩ = some (.string key) ∧ w'.cell? ⟨g, 1, none⟩ = some (.int .i64 seq) ∧ w'.cell? ⟨g, 2, none⟩ = some (.bool nul) ∧ w'.cell? ⟨g, 3, none⟩ = some (.bool mar) ∧ w'.cell? ⟨g, 4, none⟩ = some (.string etag) ∧ w'.cell? ⟨g, 5, none⟩ = some (.int .i64 size) ∧ w'.cell? ⟨g, 6, none⟩ = some (.int .i64 time) ∧ w'.cell? ⟨g, 7, none⟩ = some (.string typ) ∧ w'.cell? ⟨g, 8, none⟩ = some (.slice ha H.length hc) ∧ w'.cell? ⟨g, 9, none⟩ = some (.slice ta T.length tc) ∧ w'.cell? ⟨g, 10, none⟩ = some (.int .i64 start) ∧ w'.cell? ⟨g, 11, none⟩ = some (.int .i64 rsz) ∧ Below W0.heap.size W0 w') := by
    intro w' hb
    have c1 := (hb.block g (blk_lt b0)).trans b0
    exact ⟨cell_blk c1 0, cell_blk c1 1, cell_blk c1 2, cell_blk c1 3, cell_blk c1 4, cell_blk c1 5, cell_blk c1 6, cell_blk c1 7, cell_blk c1 8, cell_blk c1 9, cell_blk c1 10, cell_blk c1 11, hb⟩
  have HB0 : Hid (Below w.heap.size w W0) := hB0
  have hb0 : Below W0.heap.size W0 W0.drew := bel_drew (Below.refl _ _)
  rw [← hW0, ← hg]
  clear hW0 hg hB0 ht0 b0 hH0 hT0
  go_region_held3 (fun w' => w'.cell? ⟨g, 0, none⟩ = some (.string key) ∧ w'.cell? ⟨g, 1, none⟩ = some (.int .i64 seq) ∧ w'.cell? ⟨g, 2, none⟩ = some (.bool nul) ∧ w'.cell? ⟨g, 3, none⟩ = some (.bool mar) ∧ w'.cell? ⟨g, 4, none⟩ = some (.string etag) ∧ w'.cell? ⟨g, 5, none⟩ = some (.int .i64 size) ∧ w'.cell? ⟨g, 6, none⟩ = some (.int .i64 time) ∧ w'.cell? ⟨g, 7, none⟩ = some (.string typ) ∧ w'.cell? ⟨g, 8, none⟩ = some (.slice ha H.length hc) ∧ w'.cell? ⟨g, 9, none⟩ = some (.slice ta T.length tc) ∧ w'.cell? ⟨g, 10, none⟩ = some (.int .i64 start) ∧ w'.cell? ⟨g, 11, none⟩ = some (.int .i64 rsz) ∧ Below W0.heap.size W0 w') (first | ((with_reducible refine HCE.out _ ?_); (with_reducible assumption)) | ((with_reducible refine HCE.out _ (bel_alloc ?_ _)); (with_reducible assumption)) | ((with_reducible refine HCE.out _ (bel_alloc (bel_alloc ?_ _) _)); (with_reducible assumption)))
    (first
      | (go_at_call 32; (with_reducible refine Calls.mono (HK32.out seq _ hb0 b1) ?_); rintro e w1 ⟨rfl, hb1'⟩; have hb1 := bel_step hb0 hb1')
      | (go_at_call 41; (with_reducible refine Calls.mono (HK41.out nul _) ?_); rintro e wq ⟨rfl, rfl⟩)
      | (go_at_call 41; (with_reducible refine Calls.mono (HK41.out mar _) ?_); rintro e wq ⟨rfl, rfl⟩)
      | (go_at_call 32; (with_reducible refine Calls.mono (HK32.out size _ hb1 b2) ?_); rintro e w2 ⟨rfl, hb2'⟩; have hb2 := bel_step hb1 hb2')
      | (go_at_call 32; (with_reducible refine Calls.mono (HK32.out time _ hb2 b3) ?_); rintro e w3 ⟨rfl, hb3'⟩; have hb3 := bel_step hb2 hb3')
      | (go_at_call 42; (with_reducible refine Calls.mono (HK42.out _ hb3) ?_); rintro e w4 ⟨a4, c4, rfl, s4, o4, hb4'⟩; have hb4 := bel_step hb3 hb4')
      | (go_at_call 42; (with_reducible refine Calls.mono (HK42.out _ (bel_alloc hb3 _)) ?_); rintro e w4 ⟨a4, c4, rfl, s4, o4, hb4'⟩; have hb4 := bel_step (bel_alloc hb3 _) hb4')
      | (go_at_call 35; (with_reducible refine Calls.mono (HK35.out _ hb4) ?_); rintro e w5 ⟨a5, c5, rfl, s5, o5, hb5'⟩; have hb5 := bel_step hb4 hb5')
      | (go_at_call 35; (with_reducible refine Calls.mono (HK35.out _ (bel_alloc hb4 _)) ?_); rintro e w5 ⟨a5, c5, rfl, s5, o5, hb5'⟩; have hb5 := bel_step (bel_alloc hb4 _) hb5')
      | (go_at_call 44; (with_reducible refine Calls.mono (HK44.out _ hb5) ?_); rintro e w6 ⟨g6, rfl, s6, hb6'⟩; have hb6 := bel_step hb5 hb6')
      | (go_at_call 44; (with_reducible refine Calls.mono (HK44.out _ (bel_alloc hb5 _)) ?_); rintro e w6 ⟨g6, rfl, s6, hb6'⟩; have hb6 := bel_step (bel_alloc hb5 _) hb6')
      | (go_at_call 31; have q := HK31.out _ _ _ a4 c4 a5 c5 g6 (heap_alloc_new w6 _) (alloc_stays (bel_alloc (bel_step (bel_step hb4' hb5') hb6') _)) (s4.below (bel_alloc (bel_step hb5' hb6') _) (Nat.le_refl _)) o4 (s5.below (bel_alloc hb6' _) (Nat.le_refl _)) o5 (s6.below (bel_alloc (Below.refl _ _) _) (Nat.le_refl _)); (with_reducible refine Calls.mono q ?_); rintro e w7 ⟨rfl, hb7'⟩; have hb7 := bel_step (bel_alloc hb6 _) hb7')
      | (go_at_call 31; have q := HK31.out _ _ _ a4 c4 a5 c5 g6 (heap_alloc_new w6 _) (alloc_stays (bel_alloc (bel_step hb5' hb6') _)) (s4.below (bel_alloc (bel_step (bel_step (bel_alloc (Below.refl _ _) _) hb5') hb6') _) (Nat.le_refl _)) o4 (s5.below (bel_alloc hb6' _) (Nat.le_refl _)) o5 (s6.below (bel_alloc (Below.refl _ _) _) (Nat.le_refl _)); (with_reducible refine Calls.mono q ?_); rintro e w7 ⟨rfl, hb7'⟩; have hb7 := bel_step (bel_alloc hb6 _) hb7')
      | (go_at_call 31; have q := HK31.out _ _ _ a4 c4 a5 c5 g6 (heap_alloc_new w6 _) (alloc_stays (bel_alloc hb6' _)) (s4.below (bel_alloc (bel_step (bel_alloc hb5' _) hb6') _) (Nat.le_refl _)) o4 (s5.below (bel_alloc (bel_step (bel_alloc (Below.refl _ _) _) hb6') _) (Nat.le_refl _)) o5 (s6.below (bel_alloc (Below.refl _ _) _) (Nat.le_refl _)); (with_reducible refine Calls.mono q ?_); rintro e w7 ⟨rfl, hb7'⟩; have hb7 := bel_step (bel_alloc hb6 _) hb7')
      | (go_at_call 31; have q := HK31.out _ _ _ a4 c4 a5 c5 g6 (heap_alloc2_new w6 _ _) (alloc_stays (bel_alloc (Below.refl _ _) _)) (s4.below (bel_alloc (bel_alloc (bel_step hb5' hb6') _) _) (Nat.le_refl _)) o4 (s5.below (bel_alloc (bel_alloc hb6' _) _) (Nat.le_refl _)) o5 (s6.below (bel_alloc (bel_alloc (Below.refl _ _) _) _) (Nat.le_refl _)); (with_reducible refine Calls.mono q ?_); rintro e w7 ⟨rfl, hb7'⟩; have hb7 := bel_step (bel_alloc (bel_alloc hb6 _) _) hb7'))
  all_goals
    have HE := (show Hid (Below w.heap.size w w7) from step_below HB0.out hb7 (Nat.le_refl _))
    go_wp2
    go_ret
    exact ⟨rfl, HE.out⟩
end Go.Proofs.YtbhiabcgjnfpoaaGreatDoor

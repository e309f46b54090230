/-
  'awake' by its contract.
-/
import Derived.Test.YtllmjlobhjcbkaaFresh
namespace Go.Proofs.Ytllmjlobhjcbkaa
open Go.RowKit

def recA : List ByteArray := [⟨#[97]⟩]
theorem recA_tot : tot recA = 5 := rfl
theorem recA_need : needN recA = 1 := rfl
theorem recA_strs (w : World) : Strs (w.alloc (.cells #[.string ⟨#[97]⟩] 9)) (some ⟨w.heap.size, 0, none⟩) recA := by
  refine .inr ⟨w.heap.size, 0, rfl, by simp, ?_⟩
  intro j hj
  simp only [recA, List.length_cons, List.length_nil, Nat.zero_add, Nat.lt_one_iff] at hj
  subst hj
  exact cell_blk (heap_alloc_new w _) 0

set_option maxHeartbeats 4000000 in
set_option maxRecDepth 20000 in
theorem awake_any (w : World) : Calls Try.prog 9 #[] w fun e w' => e = .returned (.bool true) ∧ Below w.heap.size w w' := by
  have hnew := new_ok 8 w (by omega) (by omega)
  go_enter Try.func9, Try.ntmps9
  go_wp2_with fail
  refine Calls.mono hnew ?_
  rintro e w1 ⟨d, rfl, hD1, hb1⟩
  clear hnew
  have hh := new_held (n := 8) (p := 2) (k := 4) (ep := 0) (by omega) (by omega) (by omega) (by omega)
  have hop := open_ok d 2 4 0 w1 _ _ hD1 (by simp [D.new]) hh.calm.sz (by omega) (by simp [D.new]) (by omega)
  rw [hh.opened] at hop
  have HD1 : Hid (Dev w1 (fun k => w.heap.size ≤ k ∧ k < w1.heap.size) d (D.new 8 blank)) := hD1
  have HB1 : Hid (Below w.heap.size w w1) := hb1
  have HH := (show Hid _ from hh)
  clear hD1 hb1 hh
  go_wp2_with fail
  refine Calls.mono hop ?_
  rintro e w2 ⟨l, v, rfl, hL2, hF2, hl1, hl2, hok, _, hb2⟩
  obtain ⟨va, vc, rfl⟩ := hF2.shape
  have HB2 : Hid (Below w.heap.size w w2) := HB1.out.trans (hb2.mono HB1.out.size)
  have hbw3 : Below w2.heap.size w2 (w2.alloc (.cells #[.string ⟨#[97]⟩] 9)) := (Below.refl _ _).alloc (Nat.le_refl _) _
  have hD2 : Dev w2 (fun k => w.heap.size ≤ k ∧ k < w1.heap.size) d (D.new 8 blank) := HD1.out.below hb2
  have hap := append_any l d (G.new 2 4 0) (some ⟨w2.heap.size, 0, none⟩) recA 1 (w2.alloc (.cells #[.string ⟨#[97]⟩] 9)) _ _ (hD2.below hbw3) ((hbw3.block l hl2).trans hL2) hok (by omega) (recA_strs w2) (by
    intro _ ad e
    simp only [Option.some.injEq] at e
    subst e
    have := hb2.size
    simp
    omega) (by rw [recA_tot]; omega) (by simp [D.new])
  obtain ⟨e1, e2, _, _⟩ := HH.out.append (L := recA) (by rw [recA_need]; simp [G.new]) (by simp [G.new])
  rw [e1, e2] at hap
  have hap2 : Calls Try.prog 13 #[.pointer (some ⟨l, 0, none⟩), .slice (some ⟨w2.heap.size, 0, none⟩) 1 1] (w2.alloc (.cells #[.string ⟨#[97]⟩] 9)) fun e w' => e = .returned (.int .i64 0) ∧ LogV w' l d ((G.new 2 4 0).pass recA) ∧ Below w.heap.size w w' := by
    refine Calls.mono hap ?_
    rintro e w3 ⟨rfl, _, q1, q2⟩
    refine ⟨rfl, q1, ?_⟩
    have hx : Below w.heap.size w (w2.alloc (.cells #[.string ⟨#[97]⟩] 9)) := HB2.out.alloc HB2.out.size _
    refine hx.trans (q2.below ?_ hx.size)
    intro k hk
    rcases hk with hk | rfl
    · exact hk.1
    · have := HB1.out.size
      omega
  clear hap hL2 hF2 hl1 hl2 hok hb2 hbw3 hD2 hop e1 e2
  go_upto_region 6 with (go_at_call 13; refine Calls.mono hap2 ?_; rintro e w3 ⟨rfl, hL3, hb3⟩)
  have hokp : ((G.new 2 4 0).pass recA).Ok := ⟨by simp [G.pass, G.new, recA_need], by simp [G.pass, G.new], by simp [G.pass, G.new], by simp [G.pass, G.new]⟩
  have hnx := next_any l d _ w3 hL3
  have hrm := room_any l d _ w3 hL3 hokp
  have hne := need_any (some ⟨w3.heap.size, 0, none⟩) recA 1 (w3.drew.alloc (.cells #[.string ⟨#[97]⟩] 9)) (by rw [recA_tot]; omega) (recA_strs w3.drew)
  rw [show ((G.new 2 4 0).pass recA).nx = 1 from rfl] at hnx
  rw [show ((G.new 2 4 0).pass recA).fin - ((G.new 2 4 0).pass recA).at' = 3 from rfl] at hrm
  rw [recA_need] at hne
  have HB3 : Hid (Below w.heap.size w w3) := hb3
  clear hap2 hL3 hokp hb3
  go_wp2_with (first
    | (go_at_call 18; refine Calls.mono hnx ?_; rintro e w4 ⟨rfl, rfl⟩)
    | (go_at_call 14; refine Calls.mono hrm ?_; rintro e w4 ⟨rfl, rfl⟩)
    | (go_at_call 15; refine Calls.mono hne ?_; rintro e w4 ⟨rfl, rfl⟩))
  go_ret
  exact ⟨rfl, HB3.out.drew.alloc HB3.out.size _⟩
end Go.Proofs.Ytllmjlobhjcbkaa

/-
  awake.
-/
import Derived.Test.YtlaahendcdifgaaDoorSam
namespace Go.Proofs.YtlaahendcdifgaaDoor
open Go.RowKit

theorem awk_of : ofV ⟨#[83, 108, 111, 119, 68, 111, 119, 110]⟩ = (334, true) :=
  ofV_hit (k := 34) (by decide) rfl (by
    intro j hj
    have : ∀ j < 34, nmK j ≠ ⟨#[83, 108, 111, 119, 68, 111, 119, 110]⟩ := by decide +kernel
    exact this j hj)
theorem awk_n1 : nameV 310 = ⟨#[78, 111, 83, 117, 99, 104, 66, 117, 99, 107, 101, 116]⟩ := by kernel_rfl
theorem awk_n2 : nameV 60 = ⟨#[73, 110, 116, 101, 114, 110, 97, 108, 69, 114, 114, 111, 114]⟩ := by kernel_rfl
theorem awk_s : statV 320 = 416 := by kernel_rfl
theorem awk_d : devV 60 = 334 := by kernel_rfl

set_option maxRecDepth 20000 in
set_option maxHeartbeats 1600000 in
theorem awake_any (w : World) (hg : Et w) :
    Calls Tryd.prog 17 #[] w fun e w' => e = .returned (.bool true) ∧ Below w.heap.size w w' := by
  have K1 := (show Hid (Calls Tryd.prog 5 #[.string ⟨#[83, 108, 111, 119, 68, 111, 119, 110]⟩] w fun r w' => r = .returned (.tuple #[.int .i64 334, .bool true]) ∧ Below w.heap.size w w') from by
    have h := of_any ⟨#[83, 108, 111, 119, 68, 111, 119, 110]⟩ w hg
    rw [awk_of] at h
    exact h)
  have K2 := (show Hid (∀ W, Below w.heap.size w W → Calls Tryd.prog 7 #[.int .i64 310] W fun r w' => r = .returned (.string ⟨#[78, 111, 83, 117, 99, 104, 66, 117, 99, 107, 101, 116]⟩) ∧ Below W.heap.size W w') from fun W hW => by
    have h := name_any 310 W (hg.below hW)
    rw [awk_n1] at h
    exact h)
  have K3 := (show Hid (∀ W, Below w.heap.size w W → Calls Tryd.prog 9 #[.int .i64 320] W fun r w' => r = .returned (.int .i64 416) ∧ Below W.heap.size W w') from fun W hW => by
    have h := stat_any 320 W (hg.below hW)
    rw [awk_s] at h
    exact h)
  have K4 := (show Hid (∀ W, Below w.heap.size w W → Calls Tryd.prog 11 #[.int .i64 60] W fun r w' => r = .returned (.int .i64 334) ∧ Below W.heap.size W w') from fun W hW => by
    have h := dev_any 60 W (hg.below hW)
    rw [awk_d] at h
    exact h)
  have K5 := (show Hid (∀ W, Below w.heap.size w W → Calls Tryd.prog 7 #[.int .i64 60] W fun r w' => r = .returned (.string ⟨#[73, 110, 116, 101, 114, 110, 97, 108, 69, 114, 114, 111, 114]⟩) ∧ Below W.heap.size W w') from fun W hW => by
    have h := name_any 60 W (hg.below hW)
    rw [awk_n2] at h
    exact h)
  clear hg
  go_enter Tryd.func17, Tryd.ntmps17
  go_wp2_with fail
  refine K1.out.mono ?_
  rintro e w1 ⟨rfl, hb1⟩
  have H1 : Hid (Below w.heap.size w w1) := hb1
  clear hb1
  go_wp2_with fail
  refine (K2.out _ H1.out).mono ?_
  rintro e w2 ⟨rfl, hb1⟩
  have H2 : Hid (Below w.heap.size w w2) := H1.out.trans (hb1.mono H1.out.size)
  clear hb1
  go_wp2_with fail
  refine (K3.out _ H2.out).mono ?_
  rintro e w3 ⟨rfl, hb1⟩
  have H3 : Hid (Below w.heap.size w w3) := H2.out.trans (hb1.mono H2.out.size)
  clear hb1
  go_wp2_with fail
  refine (K4.out _ H3.out).mono ?_
  rintro e w4 ⟨rfl, hb1⟩
  have H4 : Hid (Below w.heap.size w w4) := H3.out.trans (hb1.mono H3.out.size)
  clear hb1
  go_wp2_with fail
  refine (K5.out _ H4.out).mono ?_
  rintro e w5 ⟨rfl, hb1⟩
  have H5 : Hid (Below w.heap.size w w5) := H4.out.trans (hb1.mono H4.out.size)
  clear hb1
  go_wp2
  go_ret
  exact ⟨rfl, H5.out⟩
end Go.Proofs.YtlaahendcdifgaaDoor

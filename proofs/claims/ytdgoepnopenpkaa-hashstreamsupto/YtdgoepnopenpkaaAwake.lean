/-
  'awake' of the statements' package by its contract: it answers true and turns nothing that was there.
-/
import Derived.Test.YtdgoepnopenpkaaWrite
import Derived.Test.YtdgoepnopenpkaaHex
import Derived.Test.YtdgoepnopenpkaaCrc
import Derived.Lib.SlBytesConst
namespace Go.Proofs.Ytdgoepnopenpkaa
open Go.RowKit

theorem md5_nil : hexL (md5L []) = [100, 52, 49, 100, 56, 99, 100, 57, 56, 102, 48, 48, 98, 50, 48, 52, 101, 57, 56, 48, 48, 57, 57, 56, 101, 99, 102, 56, 52, 50, 55, 101] := by decide +kernel
theorem sha_abc : hexL (shaL [97, 98, 99]) = [98, 97, 55, 56, 49, 54, 98, 102, 56, 102, 48, 49, 99, 102, 101, 97, 52, 49, 52, 49, 52, 48, 100, 101, 53, 100, 97, 101, 50, 50, 50, 51, 98, 48, 48, 51, 54, 49, 97, 51, 57, 54, 49, 55, 55, 97, 57, 99, 98, 52, 49, 48, 102, 102, 54, 49, 102, 50, 48, 48, 49, 53, 97, 100] := by decide +kernel
theorem crc_nine : crcL [49, 50, 51, 52, 53, 54, 55, 56, 57] = 0xe3069283 := by decide +kernel

theorem lit_bytes (w : World) (l : List UInt8) (fr : Nat × Nat) : Bytes (w.alloc (.cells (bcs l).toArray 5 fr)) (some ⟨w.heap.size, 0, none⟩) l := by
  refine .inr ⟨w.heap.size, 0, rfl, by simp, fun j hj => ?_⟩
  rw [Nat.zero_add, cell_of_row _ _ j _ 5 fr (heap_alloc_last w _)]
  simpa using bcs_get hj

theorem step_below {B : Nat} {w w1 w2 : World} (h : Below B w w1) (hb : Below w1.heap.size w1 w2) (hB : B ≤ w.heap.size) : Below B w w2 :=
  h.trans (hb.mono (by have := h.size; omega))

/-- The sum of nothing, as digits. -/
theorem md5_none (w : World) : Calls Try.prog 11 #[.slice none 0 0] w fun e w' => ∃ x c m, e = .returned (.slice x m c) ∧ Below w.heap.size w w' ∧ Hid (Calls Try.prog 22 #[.slice x m c] w' fun e w'' => e = .returned (.string ⟨#[100, 52, 49, 100, 56, 99, 100, 57, 56, 102, 48, 48, 98, 50, 48, 52, 101, 57, 56, 48, 48, 57, 57, 56, 101, 99, 102, 56, 52, 50, 55, 101]⟩) ∧ Below w'.heap.size w' w'') := by
  refine (md5_any none [] 0 w (by decide) (by decide) (.inl rfl)).mono ?_
  rintro e w' ⟨v, rfl, ho, hb⟩
  obtain ⟨x, c, rfl, hx⟩ := ho.bytes
  refine ⟨x, c, _, rfl, hb, ?_⟩
  have := hex_any x (md5L []) c w' (by rw [show (md5L []).length = 16 from rfl]; decide) hx
  rw [md5_nil] at this
  exact this
theorem sha_three (a : Addr) (w : World) (hb : Bytes w (some a) [97, 98, 99]) : Calls Try.prog 10 #[.slice (some a) 3 3] w fun e w' => ∃ x c m, e = .returned (.slice x m c) ∧ Below w.heap.size w w' ∧ Hid (Calls Try.prog 22 #[.slice x m c] w' fun e w'' => e = .returned (.string ⟨#[98, 97, 55, 56, 49, 54, 98, 102, 56, 102, 48, 49, 99, 102, 101, 97, 52, 49, 52, 49, 52, 48, 100, 101, 53, 100, 97, 101, 50, 50, 50, 51, 98, 48, 48, 51, 54, 49, 97, 51, 57, 54, 49, 55, 55, 97, 57, 99, 98, 52, 49, 48, 102, 102, 54, 49, 102, 50, 48, 48, 49, 53, 97, 100]⟩) ∧ Below w'.heap.size w' w'') := by
  refine (sha_any (some a) [97, 98, 99] 3 w (by decide) (by decide) hb).mono ?_
  rintro e w' ⟨v, rfl, ho, hb⟩
  obtain ⟨x, c, rfl, hx⟩ := ho.bytes
  refine ⟨x, c, _, rfl, hb, ?_⟩
  have := hex_any x (shaL [97, 98, 99]) c w' (by rw [show (shaL [97, 98, 99]).length = 32 from rfl]; decide) hx
  rw [sha_abc] at this
  exact this
theorem crc_num (a : Addr) (c : Nat) (w : World) (hb : Bytes w (some a) [49, 50, 51, 52, 53, 54, 55, 56, 57]) : Calls Try.prog 15 #[.slice (some a) 9 c] w fun e w' => e = .returned (.int .u32 3808858755) ∧ Below w.heap.size w w' := by
  refine (crc_any (some a) [49, 50, 51, 52, 53, 54, 55, 56, 57] c w (by decide) hb).mono ?_
  rintro e w' ⟨rfl, hb⟩
  refine ⟨?_, hb⟩
  rw [crc_nine]
  rfl

set_option maxHeartbeats 1000000 in
theorem awake_any (w : World) : Calls Try.prog 8 #[] w fun e w' => e = .returned (.bool true) ∧ Below w.heap.size w w' := by
  have kc := fun (w : World) (C : Array Value) (n c : Nat) => Lib.run_convert_bytes_const (P := Try.prog) w 22 5 C n c Try.underlying22 Try.underlying5
  go_enter Try.func8, Try.ntmps8
  go_wp2_with fail
  refine (new_md5 _).mono ?_
  rintro e w1 ⟨rfl, hw1⟩
  have hsi : SImd5 w1 (w.heap.size + 1) w.heap.size [] := by
    subst hw1
    refine ⟨by omega, (Wds.new w 72 mInit.toL).alloc _, noughts 64, by simp [noughts], by simp [noughts, rest], ?_⟩
    have := heap_alloc_last (w.alloc (.cells (wcs mInit.toL).toArray 72)) (.cells (strCells (.iface 48 (.pointer (some ⟨w.heap.size, 0, none⟩))) (noughts 64) 0) 60)
    simpa [Strm] using this
  have hB1 : Below w.heap.size w w1 := by
    subst hw1
    exact ((Below.refl _ _).alloc (Nat.le_refl _) _).alloc (by simp) _
  have hz1 : w1.heap.size = w.heap.size + 2 := by subst hw1; simp
  have HSI : Hid (SImd5 w1 (w.heap.size + 1) w.heap.size []) := hsi
  have HZ1 : Hid (w1.heap.size = w.heap.size + 2) := hz1
  clear hw1 hsi hz1
  go_wp2_with fail
  refine (md5Write_0 (w.heap.size + 1) w.heap.size [] (some ⟨w1.heap.size, 0, none⟩) [97] 1 _ (HSI.out.of (Below.heap_alloc _ _ _ HSI.out.lt.1) (Below.heap_alloc _ _ _ HSI.out.lt.2)) (by decide) (by decide) (lit_bytes w1 [97] (1, 2)) (by intro _ ad h; cases h; have := HZ1.out; exact ⟨by show w1.heap.size ≠ _; omega, by show w1.heap.size ≠ _; omega⟩) (by decide)).mono ?_
  rintro e w2 ⟨rfl, hsi2, hk2⟩
  have hB2 : Below w.heap.size w w2 := (hB1.alloc hB1.size _).trans (hk2.below (by simp; have := hB1.size; omega) (by omega) (by omega))
  have HSI2 : Hid (SImd5 w2 (w.heap.size + 1) w.heap.size [97]) := hsi2
  clear hsi2 hk2 HSI hB1 HZ1
  go_wp2_with fail
  refine (md5_none _).mono ?_
  rintro e w3 ⟨x3, c3, m3, rfl, hb3, H3⟩
  have HSI3 : Hid (SImd5 w3 (w.heap.size + 1) w.heap.size [97]) := HSI2.out.of (hb3.block _ HSI2.out.lt.1) (hb3.block _ HSI2.out.lt.2)
  have hB3 : Below w.heap.size w w3 := step_below hB2 hb3 (Nat.le_refl _)
  clear HSI2 hb3 hB2
  go_wp2_with fail
  refine Calls.mono H3.out ?_
  rintro e w4 ⟨rfl, hb4⟩
  have HSI4 : Hid (SImd5 w4 (w.heap.size + 1) w.heap.size [97]) := HSI3.out.of (hb4.block _ HSI3.out.lt.1) (hb4.block _ HSI3.out.lt.2)
  have hB4 : Below w.heap.size w w4 := step_below hB3 hb4 (Nat.le_refl _)
  clear HSI3 hb4 hB3 H3
  go_wp2_with fail
  refine (sha_three _ _ (lit_bytes w4 [97, 98, 99] (3, 4))).mono ?_
  rintro e w5 ⟨x5, c5, m5, rfl, hb5, H5⟩
  have HA4 : Hid (SImd5 (w4.alloc (.cells (bcs [97, 98, 99]).toArray 5 (3, 4))) (w.heap.size + 1) w.heap.size [97]) := HSI4.out.of (Below.heap_alloc _ _ _ HSI4.out.lt.1) (Below.heap_alloc _ _ _ HSI4.out.lt.2)
  have HSI5 : Hid (SImd5 w5 (w.heap.size + 1) w.heap.size [97]) := HA4.out.of (hb5.block _ HA4.out.lt.1) (hb5.block _ HA4.out.lt.2)
  have hB5 : Below w.heap.size w w5 := step_below (hB4.alloc hB4.size (.cells (bcs [97, 98, 99]).toArray 5 (3, 4))) hb5 (Nat.le_refl _)
  clear HSI4 HA4 hb5 hB4
  go_wp2_with fail
  refine Calls.mono H5.out ?_
  rintro e w6 ⟨rfl, hb6⟩
  have HSI6 : Hid (SImd5 w6 (w.heap.size + 1) w.heap.size [97]) := HSI5.out.of (hb6.block _ HSI5.out.lt.1) (hb6.block _ HSI5.out.lt.2)
  have hB6 : Below w.heap.size w w6 := step_below hB5 hb6 (Nat.le_refl _)
  clear HSI5 hb6 hB5 H5
  go_wp2_with fail
  refine (crc_num _ _ _ (lit_bytes w6 [49, 50, 51, 52, 53, 54, 55, 56, 57] (9, 10))).mono ?_
  rintro e w7 ⟨rfl, hb7⟩
  have HA6 : Hid (SImd5 (w6.alloc (.cells (bcs [49, 50, 51, 52, 53, 54, 55, 56, 57]).toArray 5 (9, 10))) (w.heap.size + 1) w.heap.size [97]) := HSI6.out.of (Below.heap_alloc _ _ _ HSI6.out.lt.1) (Below.heap_alloc _ _ _ HSI6.out.lt.2)
  have HSI7 : Hid (SImd5 w7 (w.heap.size + 1) w.heap.size [97]) := HA6.out.of (hb7.block _ HA6.out.lt.1) (hb7.block _ HA6.out.lt.2)
  have hB7 : Below w.heap.size w w7 := step_below (hB6.alloc hB6.size (.cells (bcs [49, 50, 51, 52, 53, 54, 55, 56, 57]).toArray 5 (9, 10))) hb7 (Nat.le_refl _)
  clear HSI6 HA6 hb7 hB6 kc
  obtain ⟨_, _, R, hR, _, hS⟩ := HSI7.out
  have HC : Hid _ := size_any _ _ R _ w7 hS hR
  clear hS HSI7
  go_wp2_with fail
  refine Calls.mono HC.out ?_
  rintro e w8 ⟨rfl, rfl⟩
  go_wp2
  go_ret
  exact ⟨rfl, hB7⟩
end Go.Proofs.Ytdgoepnopenpkaa

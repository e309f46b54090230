/-
  What the document fixes, once; the walk of the statement MetaKeys.
-/
import Derived.Test.YtaagnckppdaljaaDoorKeyF
namespace Go.Proofs.YtaagnckppdaljaaDoor
open Go.RowKit

theorem abc_bucket : bucketB [97, 98, 99] = true := by decide +kernel
theorem xy_key : keyB [120, 47, 121] = true := by decide +kernel
theorem ff_hex : En.hexL (En.be 255 8) = [48, 48, 48, 48, 48, 48, 48, 48, 48, 48, 48, 48, 48, 48, 102, 102] := by decide +kernel
theorem awake_po (m : Nat) (hm : 7 + m = 9223372036854775807) : poV (nk 79 [97, 98, 99] [120, 47, 121] m) = .tuple #[.string ⟨#[97, 98, 99]⟩, .string ⟨#[120, 47, 121]⟩, .int .i64 7, .bool true] := by
  unfold poV
  rw [pn_yes ⟨rfl, abc_bucket, xy_key, by omega⟩]
  simp only
  rw [show 9223372036854775807 - m = 7 by omega]
  rfl
theorem nk_len (c : UInt8) (b k : List UInt8) (n : Nat) : (nk c b k n).length = b.length + k.length + 11 := by
  simp [nk, En.be_length]
  omega

set_option maxRecDepth 20000 in
set_option maxHeartbeats 1000000 in
theorem awake_any (w : World) (hm : Mx w) :
    Calls Tryd.prog 17 #[] w fun e w' => e = .returned (.bool true) ∧ Below w.heap.size w w' := by
  obtain ⟨m, hm7⟩ : ∃ m : Nat, 7 + m = 9223372036854775807 := ⟨9223372036854775800, rfl⟩
  have HA : Hid (∀ W, Calls Tryd.prog 9 #[.string ⟨#[97, 98, 99]⟩, .string ⟨#[120, 47, 121]⟩, .int .i64 7] W fun e w' => e = .returned (.string ⟨(nk 79 [97, 98, 99] [120, 47, 121] m).toArray⟩) ∧ Below W.heap.size W w') := fun W => objectKey_any ⟨#[97, 98, 99]⟩ ⟨#[120, 47, 121]⟩ 7 7 m W (by decide) (by decide) rfl hm7
  have HB : Hid (∀ W, Mx W → Calls Tryd.prog 20 #[.string ⟨(nk 79 [97, 98, 99] [120, 47, 121] m).toArray⟩] W fun e w' => e = .returned (.tuple #[.string ⟨#[97, 98, 99]⟩, .string ⟨#[120, 47, 121]⟩, .int .i64 7, .bool true]) ∧ Below W.heap.size W w') := fun W h => by
    have := parseObject_any ⟨(nk 79 [97, 98, 99] [120, 47, 121] m).toArray⟩ W (by simp [ByteArray.size, nk_len]) h
    rw [show (⟨(nk 79 [97, 98, 99] [120, 47, 121] m).toArray⟩ : ByteArray).data.toList = nk 79 [97, 98, 99] [120, 47, 121] m from rfl, awake_po m hm7] at this
    exact this
  have HC : Hid (∀ W, Calls Tryd.prog 26 #[.string ⟨#[48, 48, 48, 48, 48, 48, 48, 48, 48, 48, 48, 48, 48, 48, 102, 102]⟩] W fun e w' => e = .returned (.tuple #[.int .i64 255, .bool true]) ∧ Below W.heap.size W w') := fun W => by
    have := seq_any ⟨#[48, 48, 48, 48, 48, 48, 48, 48, 48, 48, 48, 48, 48, 48, 102, 102]⟩ W (by decide)
    rw [show (⟨#[48, 48, 48, 48, 48, 48, 48, 48, 48, 48, 48, 48, 48, 48, 102, 102]⟩ : ByteArray).data.toList = En.hexL (En.be 255 8) from ff_hex.symm, (sq_id (n := 255) (by omega)).1, (sq_id (n := 255) (by omega)).2] at this
    exact this
  have HD : Hid (∀ W, Calls Tryd.prog 15 #[.int .i64 255] W fun e w' => e = .returned (.string ⟨#[48, 48, 48, 48, 48, 48, 48, 48, 48, 48, 48, 48, 48, 48, 102, 102]⟩) ∧ Below W.heap.size W w') := fun W => by
    have := id_any 255 255 W rfl (by omega)
    rw [ff_hex] at this
    exact this
  have HE : Hid (∀ W, Calls Tryd.prog 7 #[.string ⟨#[97, 98, 99]⟩] W fun e w' => e = .returned (.string ⟨#[66, 97, 98, 99]⟩) ∧ W = w') := fun W => bucketKey_any ⟨#[97, 98, 99]⟩ W (by decide)
  clear hm7
  go_enter Tryd.func17, Tryd.ntmps17
  go_wp2_with fail
  refine (HA.out _).mono ?_
  rintro e w1 ⟨rfl, B1⟩
  go_wp2_with fail
  refine (HB.out _ (hm.below B1 (Nat.le_refl _))).mono ?_
  rintro e w2 ⟨rfl, hb2⟩
  have B2 := step_below B1 hb2 (Nat.le_refl _)
  clear B1 hb2
  go_wp2_with fail
  refine (HC.out _).mono ?_
  rintro e w3 ⟨rfl, hb3⟩
  have B3 := step_below B2 hb3 (Nat.le_refl _)
  clear B2 hb3
  go_wp2_with fail
  refine (HD.out _).mono ?_
  rintro e w4 ⟨rfl, hb4⟩
  have B4 := step_below B3 hb4 (Nat.le_refl _)
  clear B3 hb4
  go_wp2_with fail
  refine (HE.out _).mono ?_
  rintro e w5 ⟨rfl, rfl⟩
  go_wp2
  go_ret
  exact ⟨rfl, B4⟩
end Go.Proofs.YtaagnckppdaljaaDoor

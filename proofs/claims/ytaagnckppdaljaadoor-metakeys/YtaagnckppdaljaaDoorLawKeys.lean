/-
  The walk of the statement MetaKeys out of the contracts of what it calls.
-/
import Derived.Test.YtaagnckppdaljaaDoorAwakeM
namespace Go.Proofs.YtaagnckppdaljaaDoor
open Go.RowKit

set_option maxHeartbeats 2000000 in
theorem metaKeys_walk (b k : ByteArray) (s n : Int) (w : World) (hb : b.size ≤ 140737488355328) (hk : k.size ≤ 140737488355328) (hs : s ≤ 9223372036854775807) (hn : n ≤ 9223372036854775807) (hm : Mx w) :
    Calls Tryd.prog 3 #[.string b, .string k, .int .i64 s, .int .i64 n] w fun e w' => e = .returned (.bool true) ∧ Below w.heap.size w w' := by
  obtain ⟨i, hi⟩ : ∃ i, s.toNat = i := ⟨_, rfl⟩
  obtain ⟨j, hj⟩ : ∃ j, n.toNat = j := ⟨_, rfl⟩
  have hib : i ≤ 9223372036854775807 := by omega
  have hjb : j ≤ 9223372036854775807 := by omega
  obtain ⟨m, him⟩ : ∃ m, i + m = 9223372036854775807 := ⟨9223372036854775807 - i, by omega⟩
  have HI : Hid (s.toNat = i) := hi
  have HJ : Hid (n.toNat = j) := hj
  have HM : Hid (i + m = 9223372036854775807) := him
  have H1 : Hid (∀ W, Calls Tryd.prog 7 #[.string b] W fun e w' => e = .returned (.string ⟨(66 :: b.data.toList).toArray⟩) ∧ W = w') := fun W => bucketKey_any b W hb
  have H2 : Hid (∀ W, Calls Tryd.prog 8 #[.string b] W fun e w' => e = .returned (.string ⟨(66 :: b.data.toList).toArray⟩) ∧ W = w') := fun W => refBucketKey_any b W hb
  have H3 : Hid (∀ W, Calls Tryd.prog 9 #[.string b, .string k, .int .i64 s] W fun e w' => e = .returned (.string ⟨(nk 79 b.data.toList k.data.toList m).toArray⟩) ∧ Below W.heap.size W w') := fun W => objectKey_any b k s i m W hb hk HI HM
  have H4 : Hid (∀ W, Calls Tryd.prog 10 #[.string b, .string k, .int .i64 s] W fun e w' => e = .returned (.string ⟨(nk 79 b.data.toList k.data.toList m).toArray⟩) ∧ Below W.heap.size W w') := fun W => refObjectKey_any b k s i m W hb hk HI HM
  have H5 : Hid (∀ W, Calls Tryd.prog 11 #[.string b, .string k, .int .i64 s] W fun e w' => e = .returned (.string ⟨(nk 85 b.data.toList k.data.toList i).toArray⟩) ∧ Below W.heap.size W w') := fun W => uploadKey_any b k s i W hb hk HI hib
  have H6 : Hid (∀ W, Calls Tryd.prog 12 #[.string b, .string k, .int .i64 s] W fun e w' => e = .returned (.string ⟨(nk 85 b.data.toList k.data.toList i).toArray⟩) ∧ Below W.heap.size W w') := fun W => refUploadKey_any b k s i W hb hk HI hib
  have H7 : Hid (∀ W, Calls Tryd.prog 13 #[.int .i64 s, .int .i64 n] W fun e w' => e = .returned (.string ⟨(pk i j).toArray⟩) ∧ Below W.heap.size W w') := fun W => partKey_any s n i j W HI HJ hib hjb
  have H8 : Hid (∀ W, Calls Tryd.prog 14 #[.int .i64 s, .int .i64 n] W fun e w' => e = .returned (.string ⟨(pk i j).toArray⟩) ∧ Below W.heap.size W w') := fun W => refPartKey_any s n i j W HI HJ hib hjb
  have H9 : Hid (∀ W, Calls Tryd.prog 15 #[.int .i64 s] W fun e w' => e = .returned (.string ⟨(En.hexL (En.be i 8)).toArray⟩) ∧ Below W.heap.size W w') := fun W => id_any s i W HI hib
  have H10 : Hid (∀ W, Calls Tryd.prog 16 #[.int .i64 s] W fun e w' => e = .returned (.string ⟨(En.hexL (En.be i 8)).toArray⟩) ∧ Below W.heap.size W w') := fun W => refId_any s i W HI hib
  clear hi hj hib hjb him HI HJ HM
  generalize (66 :: b.data.toList).toArray = x1 at *
  generalize (nk 79 b.data.toList k.data.toList m).toArray = x2 at *
  generalize (nk 85 b.data.toList k.data.toList i).toArray = x3 at *
  generalize (pk i j).toArray = x4 at *
  generalize (En.hexL (En.be i 8)).toArray = x5 at *
  go_enter Tryd.func3, Tryd.ntmps3
  go_wp2_with fail
  refine (H1.out _).mono ?_
  rintro e w1 ⟨rfl, rfl⟩
  go_wp2_with fail
  refine (H2.out _).mono ?_
  rintro e w1 ⟨rfl, rfl⟩
  go_wp2_with fail
  refine (H3.out _).mono ?_
  rintro e w1 ⟨rfl, B1⟩
  go_wp2_with fail
  refine (H4.out _).mono ?_
  rintro e w2 ⟨rfl, hb2⟩
  have B2 := step_below B1 hb2 (Nat.le_refl _)
  clear B1 hb2
  go_wp2_with fail
  refine (H5.out _).mono ?_
  rintro e w3 ⟨rfl, hb3⟩
  have B3 := step_below B2 hb3 (Nat.le_refl _)
  clear B2 hb3
  go_wp2_with fail
  refine (H6.out _).mono ?_
  rintro e w4 ⟨rfl, hb4⟩
  have B4 := step_below B3 hb4 (Nat.le_refl _)
  clear B3 hb4
  go_wp2_with fail
  refine (H7.out _).mono ?_
  rintro e w5 ⟨rfl, hb5⟩
  have B5 := step_below B4 hb5 (Nat.le_refl _)
  clear B4 hb5
  go_wp2_with fail
  refine (H8.out _).mono ?_
  rintro e w6 ⟨rfl, hb6⟩
  have B6 := step_below B5 hb6 (Nat.le_refl _)
  clear B5 hb6
  go_wp2_with fail
  refine (H9.out _).mono ?_
  rintro e w7 ⟨rfl, hb7⟩
  have B7 := step_below B6 hb7 (Nat.le_refl _)
  clear B6 hb7
  go_wp2_with fail
  refine (H10.out _).mono ?_
  rintro e w8 ⟨rfl, hb8⟩
  have B8 := step_below B7 hb8 (Nat.le_refl _)
  clear B7 hb8
  go_wp2_with fail
  refine (awake_any _ (hm.below B8 (Nat.le_refl _))).mono ?_
  rintro e w9 ⟨rfl, hb9⟩
  have B9 := step_below B8 hb9 (Nat.le_refl _)
  clear B8 hb9
  go_wp2
  go_ret
  exact ⟨rfl, B9⟩
end Go.Proofs.YtaagnckppdaljaaDoor

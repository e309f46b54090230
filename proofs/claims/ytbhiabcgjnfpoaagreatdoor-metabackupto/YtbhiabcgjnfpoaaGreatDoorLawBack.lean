/-
  The walk of the statement MetaBack out of the contracts of what it calls.
-/
import Derived.Test.YtbhiabcgjnfpoaaGreatDoorRun13
import Derived.Test.YtbhiabcgjnfpoaaGreatDoorRun25
import Derived.Test.YtbhiabcgjnfpoaaGreatDoorRun27
namespace Go.Proofs.YtbhiabcgjnfpoaaGreatDoor
open Go.RowKit

theorem po_or (s k : ByteArray) (i m : Nat) (h : i + m = 9223372036854775807) :
    poV (nk 79 s.data.toList k.data.toList m) = .tuple #[.string s, .string k, .int .i64 i, .bool true] ∨ poV (nk 79 s.data.toList k.data.toList m) = .tuple #[.string ⟨#[]⟩, .string ⟨#[]⟩, .int .i64 0, .bool false] := by
  cases e : pn 79 (nk 79 s.data.toList k.data.toList m) with
  | none =>
    right
    unfold poV
    rw [e]
  | some r =>
    left
    obtain ⟨b, l, q⟩ := r
    have h1 := pn_some e
    obtain ⟨e1, e2, e3⟩ := nk_inj (bucket_nz h1.2.1) (key_nz h1.2.2.1) (by omega) h1.2.2.2 h1.1
    unfold poV
    rw [e]
    simp only at e1 e2 e3 ⊢
    rw [← e1, ← e2, ← e3, show 9223372036854775807 - m = i by omega]

theorem tot_append : ∀ L M : List ByteArray, En.tot (L ++ M) = En.tot L + En.tot M
  | [], M => by show En.tot M = 0 + _; omega
  | a :: L, M => by
    have := tot_append L M
    show 4 + a.size + En.tot (L ++ M) = 4 + a.size + En.tot L + _
    omega
theorem ver_tot {vk et ty : ByteArray} {vseq size time start rsz : Int} {nul mar : Bool} {H T : List (ByteArray × ByteArray)} (h : En.tot (verF vk et ty vseq size time start rsz nul mar H T) ≤ 8388608) : En.tot (tx H.length :: prF H) ≤ 8388608 ∧ En.tot (tx T.length :: prF T) ≤ 8388608 := by
  unfold verF at h
  rw [tot_append, tot_append, tot_append] at h
  exact ⟨by omega, by omega⟩

set_option maxRecDepth 20000 in
set_option maxHeartbeats 8000000 in
theorem metaBack_walk (s key vk et ty : ByteArray) (seq n vseq size time start rsz : Int) (nul mar : Bool) (H T : List (ByteArray × ByteArray)) (ha ta : Option Addr) (hc tc : Nat) (w : World)
    (zs : s.size ≤ 140737488350000) (zk : key.size ≤ 140737488350000) (bq : seq ≤ 9223372036854775807) (bn : n ≤ 9223372036854775807)
    (hH : Prs w ha H) (hT : Prs w ta T) (nH : H.length ≤ 1048576) (nT : T.length ≤ 1048576)
    (b1 : (-9223372036854775808 ≤ vseq ∧ vseq ≤ 9223372036854775807)) (b2 : (-9223372036854775808 ≤ size ∧ size ≤ 9223372036854775807)) (b3 : (-9223372036854775808 ≤ time ∧ time ≤ 9223372036854775807)) (b4 : (-9223372036854775808 ≤ start ∧ start ≤ 9223372036854775807)) (b5 : (-9223372036854775808 ≤ rsz ∧ rsz ≤ 9223372036854775807))
    (htt : En.tot (verF vk et ty vseq size time start rsz nul mar H T) ≤ 8388608) (hm : Mx w) (ht : Tab w) :
    Calls Tryz.prog 5 #[.string s, .string key, .int .i64 seq, .int .i64 n, .agg #[.string vk, .int .i64 vseq, .bool nul, .bool mar, .string et, .int .i64 size, .int .i64 time, .string ty, .slice ha H.length hc, .slice ta T.length tc, .int .i64 start, .int .i64 rsz]] w fun e w' => e = .returned (.bool true) ∧ Below w.heap.size w w' := by
  have B0 : ∀ o, Below w.heap.size w (w.alloc o) := fun o => bel_alloc (Below.refl _ w) o
  have HAw : Hid (∀ W, Below w.heap.size w W → Calls Tryz.prog 14 #[] W fun e w' => e = .returned (.bool true) ∧ Below W.heap.size W w') := fun W h => awake_any W (hm.below h (Nat.le_refl _))
  by_cases hq0 : seq < 0
  · have B1 := B0 (.cells #[.string vk, .int .i64 vseq, .bool nul, .bool mar, .string et, .int .i64 size, .int .i64 time, .string ty, .slice ha H.length hc, .slice ta T.length tc, .int .i64 start, .int .i64 rsz] 30)
    clear B0 hH hT htt ht hm
    go_enter Tryz.func5, Tryz.ntmps5
    go_wp2_with fail
    refine (HAw.out _ B1).mono ?_
    rintro e w1 ⟨rfl, hb1⟩
    have B2 := step_below B1 hb1 (Nat.le_refl _)
    go_wp2
    go_ret
    exact ⟨rfl, B2⟩
  by_cases hn0 : n < 0
  · have B1 := B0 (.cells #[.string vk, .int .i64 vseq, .bool nul, .bool mar, .string et, .int .i64 size, .int .i64 time, .string ty, .slice ha H.length hc, .slice ta T.length tc, .int .i64 start, .int .i64 rsz] 30)
    clear B0 hH hT htt ht hm
    go_enter Tryz.func5, Tryz.ntmps5
    go_wp2_with fail
    refine (HAw.out _ B1).mono ?_
    rintro e w1 ⟨rfl, hb1⟩
    have B2 := step_below B1 hb1 (Nat.le_refl _)
    go_wp2
    go_ret
    exact ⟨rfl, B2⟩
  obtain ⟨i, rfl⟩ := Int.eq_ofNat_of_zero_le (Int.not_lt.1 hq0)
  obtain ⟨j, rfl⟩ := Int.eq_ofNat_of_zero_le (Int.not_lt.1 hn0)
  have hi : i ≤ 9223372036854775807 := by omega
  have hj : j ≤ 9223372036854775807 := by omega
  obtain ⟨m, hm7⟩ : ∃ m, i + m = 9223372036854775807 := ⟨9223372036854775807 - i, by omega⟩
  have H24 : Hid (∀ W, Calls Tryz.prog 24 #[.int .i64 i, .int .i64 j] W fun e w' => e = .returned (.string ⟨(pk i j).toArray⟩) ∧ Below W.heap.size W w') := fun W => partKey_any i j i j W (Int.toNat_natCast i) (Int.toNat_natCast j) hi hj
  have H23 : Hid (∀ W, Calls Tryz.prog 23 #[.string ⟨(pk i j).toArray⟩] W fun e w' => e = .returned (.tuple #[.int .i64 i, .int .i64 j, .bool true]) ∧ Below W.heap.size W w') := fun W => by
    have := parsePart_any ⟨(pk i j).toArray⟩ W
    rw [show (⟨(pk i j).toArray⟩ : ByteArray).data.toList = pk i j from rfl, pt_pk hi hj] at this
    exact this
  have H26 : Hid (∀ W, Calls Tryz.prog 26 #[.int .i64 i] W fun e w' => e = .returned (.string ⟨(En.hexL (En.be i 8)).toArray⟩) ∧ Below W.heap.size W w') := fun W => id_any i i W (Int.toNat_natCast i) hi
  have H25 : Hid (∀ W, Calls Tryz.prog 25 #[.string ⟨(En.hexL (En.be i 8)).toArray⟩] W fun e w' => e = .returned (.tuple #[.int .i64 i, .bool true]) ∧ Below W.heap.size W w') := fun W => by
    have := seq_any ⟨(En.hexL (En.be i 8)).toArray⟩ W (by show (List.toArray _).size ≤ _; rw [List.size_toArray, En.hexL_length, En.be_length]; omega)
    rw [show (⟨(En.hexL (En.be i 8)).toArray⟩ : ByteArray).data.toList = En.hexL (En.be i 8) from rfl, (sq_id hi).1, (sq_id hi).2] at this
    exact this
  have H28 : Hid (∀ W, Calls Tryz.prog 28 #[.string s, .string key, .int .i64 i] W fun e w' => e = .returned (.string ⟨(nk 79 s.data.toList key.data.toList m).toArray⟩) ∧ Below W.heap.size W w') := fun W => objectKey_any s key i i m W (by omega) (by omega) (Int.toNat_natCast i) hm7
  have ls : s.data.toList.length = s.size := by simp
  have lk : key.data.toList.length = key.size := by simp
  have H27 : Hid (∀ W, Below w.heap.size w W → Calls Tryz.prog 27 #[.string ⟨(nk 79 s.data.toList key.data.toList m).toArray⟩] W fun e w' => e = .returned (poV (nk 79 s.data.toList key.data.toList m)) ∧ Below W.heap.size W w') := fun W h => parseObject_any ⟨(nk 79 s.data.toList key.data.toList m).toArray⟩ W (by show (List.toArray _).size ≤ _; rw [List.size_toArray, nk_len]; omega) (hm.below h (Nat.le_refl _))
  have HPO := po_or s key i m hm7
  generalize poV (nk 79 s.data.toList key.data.toList m) = pv at *
  generalize hnk : (⟨(nk 79 s.data.toList key.data.toList m).toArray⟩ : ByteArray) = xo at *
  generalize hpk : (⟨(pk i j).toArray⟩ : ByteArray) = xp at *
  generalize hid : (⟨(En.hexL (En.be i 8)).toArray⟩ : ByteArray) = xi at *
  clear hnk hpk hid ls lk zs zk hm7
  have HS : Hid (∀ W, Below (w.alloc (.cells #[.string vk, .int .i64 vseq, .bool nul, .bool mar, .string et, .int .i64 size, .int .i64 time, .string ty, .slice ha H.length hc, .slice ta T.length tc, .int .i64 start, .int .i64 rsz] 30)).heap.size (w.alloc (.cells #[.string vk, .int .i64 vseq, .bool nul, .bool mar, .string et, .int .i64 size, .int .i64 time, .string ty, .slice ha H.length hc, .slice ta T.length tc, .int .i64 start, .int .i64 rsz] 30)) W → Below w.heap.size w W ∧ W.heap[w.heap.size]? = some (.cells #[.string vk, .int .i64 vseq, .bool nul, .bool mar, .string et, .int .i64 size, .int .i64 time, .string ty, .slice ha H.length hc, .slice ta T.length tc, .int .i64 start, .int .i64 rsz] 30 (0, 0))) := fun W h => ⟨alloc_below h, alloc_stays h⟩
  have H8 : Hid (∀ W, Below w.heap.size w W → Calls Tryz.prog 8 #[.agg #[.string vk, .int .i64 vseq, .bool nul, .bool mar, .string et, .int .i64 size, .int .i64 time, .string ty, .slice ha H.length hc, .slice ta T.length tc, .int .i64 start, .int .i64 rsz]] W fun e w' => e = .returned (.string ⟨(En.packL (verF vk et ty vseq size time start rsz nul mar H T)).toArray⟩) ∧ Below W.heap.size W w') := fun W h => packVersion_any vk et ty vseq size time start rsz nul mar H T ha ta hc tc W (hH.below h (Nat.le_refl _)) (hT.below h (Nat.le_refl _)) nH nT b1 b2 b3 b4 b5 (ht.below h) (by omega)
  have H17 := (show Hid (∀ W, _) from fun W => unpack_all vk et ty vseq size time start rsz nul mar H T _ rfl nH nT htt W)
  generalize (⟨(En.packL (verF vk et ty vseq size time start rsz nul mar H T)).toArray⟩ : ByteArray) = X at *
  have HPr : Hid (Prs w ha H ∧ Prs w ta T) := ⟨hH, hT⟩
  have HTt : Hid (En.tot (tx H.length :: prF H) ≤ 8388608 ∧ En.tot (tx T.length :: prF T) ≤ 8388608) := ver_tot htt
  clear B0 hH hT ht hm
  go_enter Tryz.func5, Tryz.ntmps5
  go_wp2_with fail
  refine (H24.out _).mono ?_
  rintro e w1 ⟨rfl, C1⟩
  go_wp2_with fail
  refine (H23.out _).mono ?_
  rintro e w2 ⟨rfl, hb2⟩
  have C2 := step_below C1 hb2 (Nat.le_refl _)
  clear hb2 C1
  go_wp2_with fail
  refine (H26.out _).mono ?_
  rintro e w3 ⟨rfl, hb3⟩
  have C3 := step_below C2 hb3 (Nat.le_refl _)
  clear hb3 C2
  go_wp2_with fail
  refine (H25.out _).mono ?_
  rintro e w4 ⟨rfl, hb4⟩
  have C4 := step_below C3 hb4 (Nat.le_refl _)
  clear hb4 C3
  go_wp2_with fail
  refine (H28.out _).mono ?_
  rintro e w5 ⟨rfl, hb5⟩
  have C5 := step_below C4 hb5 (Nat.le_refl _)
  clear hb5 C4
  go_wp2_with fail
  refine (H27.out _ (HS.out _ C5).1).mono ?_
  rintro e w6 ⟨rfl, hb6⟩
  have C6 := step_below C5 hb6 (Nat.le_refl _)
  clear hb6 C5 H24 H23 H25 H26 H27 H28
  obtain ⟨BW6, K6⟩ := HS.out _ C6
  have kc0 := cell_blk K6 0
  have kc1 := cell_blk K6 1
  have kc2 := cell_blk K6 2
  have kc3 := cell_blk K6 3
  have kc4 := cell_blk K6 4
  have kc5 := cell_blk K6 5
  have kc6 := cell_blk K6 6
  have kc7 := cell_blk K6 7
  have kc8 := cell_blk K6 8
  have kc9 := cell_blk K6 9
  have kc10 := cell_blk K6 10
  have kc11 := cell_blk K6 11
  simp only [List.getElem?_toArray] at kc0 kc1 kc2 kc3 kc4 kc5 kc6 kc7 kc8 kc9 kc10 kc11
  have HC6 : Hid (Below (w.alloc (.cells #[.string vk, .int .i64 vseq, .bool nul, .bool mar, .string et, .int .i64 size, .int .i64 time, .string ty, .slice ha H.length hc, .slice ta T.length tc, .int .i64 start, .int .i64 rsz] 30)).heap.size (w.alloc (.cells #[.string vk, .int .i64 vseq, .bool nul, .bool mar, .string et, .int .i64 size, .int .i64 time, .string ty, .slice ha H.length hc, .slice ta T.length tc, .int .i64 start, .int .i64 rsz] 30)) w6) := C6
  clear C6 BW6 K6
  rcases HPO with rfl | rfl
  all_goals
    go_wp2_with fail
    refine (H8.out _ (HS.out _ HC6.out).1).mono ?_
    rintro e w7 ⟨rfl, hb7⟩
    have C7 := step_below HC6.out hb7 (Nat.le_refl _)
    clear hb7
    go_wp2_with fail
    refine (H17.out _).mono ?_
    rintro e w8 ⟨t0, z1, q2, q3, t4, z5, z6, t7, a8, n8, c8, a9, n9, c9, z10, z11, q, rfl, hb8, hin⟩
    have HC8 : Hid (Below _ _ w8) := step_below C7 hb8 (Nat.le_refl _)
    clear hb8 C7 HC6 kc0 kc1 kc2 kc3 kc4 kc5 kc6 kc7 kc8 kc9 kc10 kc11
    go_upto_region 11 with fail
    obtain ⟨W9, hW9⟩ : ∃ W9, W9 = w8.alloc (.cells #[.string t0, .int .i64 z1, .bool q2, .bool q3, .string t4, .int .i64 z5, .int .i64 z6, .string t7, .slice a8 n8 c8, .slice a9 n9 c9, .int .i64 z10, .int .i64 z11] 30) := ⟨_, rfl⟩
    rw [← hW9]
    have b89 : Below w8.heap.size w8 W9 := by rw [hW9]; exact bel_alloc (Below.refl _ w8) _
    have K1 : W9.heap[w8.heap.size]? = some (.cells #[.string t0, .int .i64 z1, .bool q2, .bool q3, .string t4, .int .i64 z5, .int .i64 z6, .string t7, .slice a8 n8 c8, .slice a9 n9 c9, .int .i64 z10, .int .i64 z11] 30 (0, 0)) := by rw [hW9]; exact heap_alloc_new _ _
    obtain ⟨B9, K0⟩ := HS.out _ (step_below HC8.out b89 (Nat.le_refl _))
    have hz8 : w.heap.size < w8.heap.size := blk_lt (HS.out _ HC8.out).2
    have HAw9 := HAw.out _ B9
    have HB9 : Hid (Below w.heap.size w W9 ∧ Below w8.heap.size w8 W9) := ⟨B9, b89⟩
    have kc0 := cell_blk K0 0
    have kc1 := cell_blk K0 1
    have kc2 := cell_blk K0 2
    have kc3 := cell_blk K0 3
    have kc4 := cell_blk K0 4
    have kc5 := cell_blk K0 5
    have kc6 := cell_blk K0 6
    have kc7 := cell_blk K0 7
    have kc8 := cell_blk K0 8
    have kc9 := cell_blk K0 9
    have kc10 := cell_blk K0 10
    have kc11 := cell_blk K0 11
    have kd0 := cell_blk K1 0
    have kd1 := cell_blk K1 1
    have kd2 := cell_blk K1 2
    have kd3 := cell_blk K1 3
    have kd4 := cell_blk K1 4
    have kd5 := cell_blk K1 5
    have kd6 := cell_blk K1 6
    have kd7 := cell_blk K1 7
    have kd8 := cell_blk K1 8
    have kd9 := cell_blk K1 9
    have kd10 := cell_blk K1 10
    have kd11 := cell_blk K1 11
    simp only [List.getElem?_toArray] at kc0 kc1 kc2 kc3 kc4 kc5 kc6 kc7 kc8 kc9 kc10 kc11 kd0 kd1 kd2 kd3 kd4 kd5 kd6 kd7 kd8 kd9 kd10 kd11
    clear hW9 B9 b89 H8 H17
    by_cases g0 : 0 ≤ vseq
    case neg =>
      clear kc0 kc2 kc3 kc4 kc7 kc8 kc9 kd0 kd1 kd2 kd3 kd4 kd5 kd6 kd7 kd8 kd9 kd10 kd11 K0 K1 hin
      go_wp2_with fail
      refine HAw9.mono ?_
      rintro e we ⟨rfl, hbe⟩
      have BE := step_below HB9.out.1 hbe (Nat.le_refl _)
      go_wp2
      go_ret
      exact ⟨rfl, BE⟩
    by_cases g1 : 0 ≤ size
    case neg =>
      clear kc0 kc2 kc3 kc4 kc7 kc8 kc9 kd0 kd1 kd2 kd3 kd4 kd5 kd6 kd7 kd8 kd9 kd10 kd11 K0 K1 hin
      go_wp2_with fail
      refine HAw9.mono ?_
      rintro e we ⟨rfl, hbe⟩
      have BE := step_below HB9.out.1 hbe (Nat.le_refl _)
      go_wp2
      go_ret
      exact ⟨rfl, BE⟩
    by_cases g2 : 0 ≤ time
    case neg =>
      clear kc0 kc2 kc3 kc4 kc7 kc8 kc9 kd0 kd1 kd2 kd3 kd4 kd5 kd6 kd7 kd8 kd9 kd10 kd11 K0 K1 hin
      go_wp2_with fail
      refine HAw9.mono ?_
      rintro e we ⟨rfl, hbe⟩
      have BE := step_below HB9.out.1 hbe (Nat.le_refl _)
      go_wp2
      go_ret
      exact ⟨rfl, BE⟩
    by_cases g3 : 0 ≤ start
    case neg =>
      clear kc0 kc2 kc3 kc4 kc7 kc8 kc9 kd0 kd1 kd2 kd3 kd4 kd5 kd6 kd7 kd8 kd9 kd10 kd11 K0 K1 hin
      go_wp2_with fail
      refine HAw9.mono ?_
      rintro e we ⟨rfl, hbe⟩
      have BE := step_below HB9.out.1 hbe (Nat.le_refl _)
      go_wp2
      go_ret
      exact ⟨rfl, BE⟩
    by_cases g4 : 0 ≤ rsz
    case neg =>
      clear kc0 kc2 kc3 kc4 kc7 kc8 kc9 kd0 kd1 kd2 kd3 kd4 kd5 kd6 kd7 kd8 kd9 kd10 kd11 K0 K1 hin
      go_wp2_with fail
      refine HAw9.mono ?_
      rintro e we ⟨rfl, hbe⟩
      have BE := step_below HB9.out.1 hbe (Nat.le_refl _)
      go_wp2
      go_ret
      exact ⟨rfl, BE⟩
    by_cases l0 : vseq < 576460752303423488
    case neg =>
      clear kc0 kc2 kc3 kc4 kc7 kc8 kc9 kd0 kd1 kd2 kd3 kd4 kd5 kd6 kd7 kd8 kd9 kd10 kd11 K0 K1 hin
      go_wp2_with fail
      refine HAw9.mono ?_
      rintro e we ⟨rfl, hbe⟩
      have BE := step_below HB9.out.1 hbe (Nat.le_refl _)
      go_wp2
      go_ret
      exact ⟨rfl, BE⟩
    by_cases l1 : size < 576460752303423488
    case neg =>
      clear kc0 kc2 kc3 kc4 kc7 kc8 kc9 kd0 kd1 kd2 kd3 kd4 kd5 kd6 kd7 kd8 kd9 kd10 kd11 K0 K1 hin
      go_wp2_with fail
      refine HAw9.mono ?_
      rintro e we ⟨rfl, hbe⟩
      have BE := step_below HB9.out.1 hbe (Nat.le_refl _)
      go_wp2
      go_ret
      exact ⟨rfl, BE⟩
    by_cases l2 : time < 576460752303423488
    case neg =>
      clear kc0 kc2 kc3 kc4 kc7 kc8 kc9 kd0 kd1 kd2 kd3 kd4 kd5 kd6 kd7 kd8 kd9 kd10 kd11 K0 K1 hin
      go_wp2_with fail
      refine HAw9.mono ?_
      rintro e we ⟨rfl, hbe⟩
      have BE := step_below HB9.out.1 hbe (Nat.le_refl _)
      go_wp2
      go_ret
      exact ⟨rfl, BE⟩
    by_cases l3 : start < 576460752303423488
    case neg =>
      clear kc0 kc2 kc3 kc4 kc7 kc8 kc9 kd0 kd1 kd2 kd3 kd4 kd5 kd6 kd7 kd8 kd9 kd10 kd11 K0 K1 hin
      go_wp2_with fail
      refine HAw9.mono ?_
      rintro e we ⟨rfl, hbe⟩
      have BE := step_below HB9.out.1 hbe (Nat.le_refl _)
      go_wp2
      go_ret
      exact ⟨rfl, BE⟩
    by_cases l4 : rsz < 576460752303423488
    case neg =>
      clear kc0 kc2 kc3 kc4 kc7 kc8 kc9 kd0 kd1 kd2 kd3 kd4 kd5 kd6 kd7 kd8 kd9 kd10 kd11 K0 K1 hin
      go_wp2_with fail
      refine HAw9.mono ?_
      rintro e we ⟨rfl, hbe⟩
      have BE := step_below HB9.out.1 hbe (Nat.le_refl _)
      go_wp2
      go_ret
      exact ⟨rfl, BE⟩
    obtain ⟨rfl, rfl, rfl, rfl, rfl, rfl, rfl, rfl, rfl, rfl, hp8, hp9⟩ := hin ⟨g0, by omega⟩ ⟨g1, by omega⟩ ⟨g2, by omega⟩ ⟨g3, by omega⟩ ⟨g4, by omega⟩
    have HHd := (show Hid (∀ W, Below W9.heap.size W9 W → _) from fun W h => sameHeaders_any a8 ha H c8 hc W ((hp8.below HB9.out.2 (Nat.le_refl _)).below h (Nat.le_refl _)) ((HPr.out.1.below HB9.out.1 (Nat.le_refl _)).below h (Nat.le_refl _)) nH HTt.out.1)
    have HTg := (show Hid (∀ W, Below W9.heap.size W9 W → _) from fun W h => sameTags_any a9 ta T c9 tc W ((hp9.below HB9.out.2 (Nat.le_refl _)).below h (Nat.le_refl _)) ((HPr.out.2.below HB9.out.1 (Nat.le_refl _)).below h (Nat.le_refl _)) nT HTt.out.2)
    have HAw2 : Hid (∀ W, Below W9.heap.size W9 W → Calls Tryz.prog 14 #[] W fun e w' => e = .returned (.bool true) ∧ Below W.heap.size W w') := fun W h => HAw.out W (step_below HB9.out.1 h (Nat.le_refl _))
    clear hp8 hp9 HAw9 HC8 HS
    go_wp2_with fail
    refine (HHd.out _ (Below.refl _ W9)).mono ?_
    rintro e w10 ⟨rfl, h10⟩
    have e9 := (h10.cell (p := ⟨w.heap.size, 9, none⟩) (blk_lt K0)).trans kc9
    have d9 := (h10.cell (p := ⟨w8.heap.size, 9, none⟩) (blk_lt K1)).trans kd9
    clear kc0 kc1 kc2 kc3 kc4 kc5 kc6 kc7 kc8 kc9 kc10 kc11 kd0 kd1 kd2 kd3 kd4 kd5 kd6 kd7 kd8 kd9 kd10 kd11 HHd K0 K1
    go_wp2_with fail
    refine (HTg.out _ h10).mono ?_
    rintro e w11 ⟨rfl, h11⟩
    have C11 := step_below h10 h11 (Nat.le_refl _)
    clear e9 d9 h10 h11 HTg
    go_wp2_with fail
    refine (HAw2.out _ C11).mono ?_
    rintro e w12 ⟨rfl, h12⟩
    have BE := step_below HB9.out.1 (step_below C11 h12 (Nat.le_refl _)) (Nat.le_refl _)
    clear C11 h12
    go_wp2
    go_ret
    exact ⟨rfl, BE⟩
end Go.Proofs.YtbhiabcgjnfpoaaGreatDoor

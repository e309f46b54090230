/-
  A text as new bytes, and texts joined.
-/
import Derived.Test.YtbhiabcgjnfpoaaGreatDoorRun00
import Derived.Test.YtbhiabcgjnfpoaaGreatDoorRun03
import Derived.Test.YtbhiabcgjnfpoaaGreatDoorRun01
namespace Go.Proofs.YtbhiabcgjnfpoaaGreatDoor
open Go.RowKit

theorem step_below {B : Nat} {w w1 w2 : World} (h : Below B w w1) (hb : Below w1.heap.size w1 w2) (hB : B ≤ w.heap.size) : Below B w w2 :=
  h.trans (hb.mono (by have := h.size; omega))

theorem ba_of {X : ByteArray} {l : List UInt8} (h : X.data.toList = l) : X = ⟨l.toArray⟩ := by
  cases X; subst h; simp
theorem ba_eta (X : ByteArray) : X = ⟨X.data.toList.toArray⟩ := ba_of rfl
theorem ba_len {X : ByteArray} {l : List UInt8} (h : X.data.toList = l) : X.size = l.length := by
  rw [ba_of h]; simp [ByteArray.size]
theorem cat_ex (A B : ByteArray) (h : A.size + B.size ≤ 4611686018427387904) :
    ∃ C : ByteArray, C.data.toList = A.data.toList ++ B.data.toList ∧ C.size = A.size + B.size ∧ ∀ wx, (Op.stringOp .add A B).run Tryz.prog wx = .ok (.string C) wx :=
  ⟨A ++ B, by simp, by simp, fun wx => run_string_add_sum wx A B (by omega)⟩

theorem conv_new (s : ByteArray) (w : World) : ∃ W1 cap, (convert 9 76 (.string s)).run Tryz.prog w = .ok (.slice (some ⟨w.heap.size, 0, none⟩) s.data.toList.length cap) W1 ∧ En.Bytes W1 (some ⟨w.heap.size, 0, none⟩) s.data.toList ∧ Below w.heap.size w W1 := by
  have hl : s.data.toList.length = s.size := by simp
  rw [hl]
  refine ⟨_, _, run_bytes_of_string w 9 76 5 s Tryz.underlying9 Tryz.underlying76 Tryz.underlying5, ?_, ?_⟩
  · refine .inr ⟨w.heap.size, 0, rfl, ?_, fun j hj => ?_⟩
    · show w.heap.size < (w.heap.push _).size
      simp
    · have h : j < s.size := by omega
      have := World.cell?_alloc_mark w.drew (bytesRow s (grownCap w s.size 0 5)) 5 ((bytesRow s (grownCap w s.size 0 5)).size, (bytesRow s (grownCap w s.size 0 5)).size + 1) j
      rw [show w.drew.heap.size = w.heap.size from rfl] at this
      rw [Nat.zero_add, this, bytesRow, Array.getElem?_append_left (by simpa using h)]
      have hj : j < s.data.size := h
      rw [Array.getElem?_map, Array.getElem?_eq_getElem hj]
      rfl
  · exact ((Below.refl _ w).drew).alloc (Nat.le_refl _) _
end Go.Proofs.YtbhiabcgjnfpoaaGreatDoor
/-
  meta's keys, and the document's: what writes them.
-/
namespace Go.Proofs.YtbhiabcgjnfpoaaGreatDoor
open Go.RowKit

theorem atLeastZero_any (n : Int) (k : Nat) (w : World) (hk : Hid (n.toNat = k)) :
    Calls Tryz.prog 78 #[.int .i64 n] w fun e w' => e = .returned (.int .i64 (k : Int)) ∧ w = w' := by
  by_cases h : 0 ≤ n
  · obtain ⟨j, rfl⟩ := Int.eq_ofNat_of_zero_le h
    obtain rfl : j = k := by have := hk.out; simpa using this
    have hm : ¬ ((j : Int) < 0) := by omega
    clear hk
    go_enter Tryz.func78, Tryz.ntmps78
    go_wp2
    go_ret
    exact ⟨by simp, rfl⟩
  · have hm : n < 0 := by omega
    obtain rfl : k = 0 := by have := hk.out; omega
    clear hk h
    go_enter Tryz.func78, Tryz.ntmps78
    go_wp2
    go_ret
    exact ⟨rfl, rfl⟩

theorem newestFirst_any (k m : Nat) (w : World) (h : Hid (k + m = 9223372036854775807)) :
    Calls Tryz.prog 82 #[.int .i64 (k : Int)] w fun e w' => e = .returned (.int .i64 (m : Int)) ∧ w = w' := by
  have HE : Hid ((m : Int) = 9223372036854775807 - (k : Int)) := by have := h.out; show _ = _; omega
  have hb : k ≤ 9223372036854775807 := by have := h.out; omega
  go_enter Tryz.func82, Tryz.ntmps82
  go_wp2
  go_ret
  exact ⟨by rw [HE.out]; rfl, rfl⟩

theorem putNumber_any (k : Nat) (w : World) (h : k ≤ 9223372036854775807) :
    Calls Tryz.prog 77 #[.int .i64 (k : Int)] w fun e w' => e = .returned (.string ⟨(En.be k 8).toArray⟩) ∧ Below w.heap.size w w' := by
  have HP : Hid (∀ W, Calls Tryz.prog 109 #[.int .u64 (k : Int)] W fun e w' => ∃ v', e = .returned v' ∧ En.Own w' W.heap.size v' (En.be k 8) ∧ Below W.heap.size W w') := fun W => En.put64_any k W (by omega)
  go_enter Tryz.func77, Tryz.ntmps77
  go_wp2_with fail
  refine (HP.out _).mono ?_
  rintro e w1 ⟨v, rfl, ho, hb⟩
  obtain ⟨a, cap, rfl, hbs⟩ := ho.bytes
  have hcv := En.convert_bytes w1 a cap (En.be k 8) hbs
  clear ho hbs
  go_wp2
  go_ret
  exact ⟨rfl, hb⟩

theorem nk_list {c : UInt8} {b k A B C D E : ByteArray} {n : Nat} (e1 : A.data.toList = [c] ++ b.data.toList) (e2 : B.data.toList = A.data.toList ++ [0]) (e3 : C.data.toList = B.data.toList ++ k.data.toList)
    (e4 : D.data.toList = C.data.toList ++ [0]) (e5 : E.data.toList = D.data.toList ++ En.be n 8) : E = ⟨(nk c b.data.toList k.data.toList n).toArray⟩ := ba_of (by
  rw [e5, e4, e3, e2, e1]
  simp [nk])

theorem namedKey_any (c : UInt8) (b k : ByteArray) (n : Nat) (w : World) (hb : b.size ≤ 140737488355328) (hk : k.size ≤ 140737488355328) (hn : n ≤ 9223372036854775807) :
    Calls Tryz.prog 83 #[.string ⟨#[c]⟩, .string b, .string k, .int .i64 (n : Int)] w fun e w' => e = .returned (.string ⟨(nk c b.data.toList k.data.toList n).toArray⟩) ∧ Below w.heap.size w w' := by
  have HP : Hid (∀ W, Calls Tryz.prog 77 #[.int .i64 (n : Int)] W fun e w' => e = .returned (.string ⟨(En.be n 8).toArray⟩) ∧ Below W.heap.size W w') := fun W => putNumber_any n W hn
  have zc : (⟨#[c]⟩ : ByteArray).size = 1 := rfl
  have z0 : (⟨#[0]⟩ : ByteArray).size = 1 := rfl
  have zn : (⟨(En.be n 8).toArray⟩ : ByteArray).size = 8 := by simp [ByteArray.size, En.be_length]
  obtain ⟨X1, e1, z1, f1⟩ := cat_ex ⟨#[c]⟩ b (by rw [zc]; omega)
  obtain ⟨X2, e2, z2, f2⟩ := cat_ex X1 ⟨#[0]⟩ (by rw [z1, zc, z0]; omega)
  obtain ⟨X3, e3, z3, f3⟩ := cat_ex X2 k (by rw [z2, z1, zc, z0]; omega)
  obtain ⟨X4, e4, z4, f4⟩ := cat_ex X3 ⟨#[0]⟩ (by rw [z3, z2, z1, zc, z0]; omega)
  obtain ⟨X5, e5, z5, f5⟩ := cat_ex X4 ⟨(En.be n 8).toArray⟩ (by rw [z4, z3, z2, z1, zc, z0, zn]; omega)
  have HX : Hid (X5 = ⟨(nk c b.data.toList k.data.toList n).toArray⟩) := nk_list e1 e2 e3 e4 (by simpa using e5)
  clear e1 e2 e3 e4 e5 z1 z2 z3 z4 z5 zc z0 zn hb hk
  go_enter Tryz.func83, Tryz.ntmps83
  go_wp2_with fail
  refine (HP.out _).mono ?_
  rintro e w1 ⟨rfl, hb⟩
  go_wp2
  go_ret
  exact ⟨by rw [HX.out]; rfl, hb⟩

theorem bk_list {b A : ByteArray} (e1 : A.data.toList = [66] ++ b.data.toList) : A = ⟨(66 :: b.data.toList).toArray⟩ := ba_of e1

theorem bucketKey_any (b : ByteArray) (w : World) (hb : b.size ≤ 140737488355328) :
    Calls Tryz.prog 47 #[.string b] w fun e w' => e = .returned (.string ⟨(66 :: b.data.toList).toArray⟩) ∧ w = w' := by
  obtain ⟨X1, e1, z1, f1⟩ := cat_ex ⟨#[66]⟩ b (by rw [show (⟨#[66]⟩ : ByteArray).size = 1 from rfl]; omega)
  have HX : Hid (X1 = ⟨(66 :: b.data.toList).toArray⟩) := bk_list e1
  clear e1 z1 hb
  go_enter Tryz.func47, Tryz.ntmps47
  go_wp2
  go_ret
  exact ⟨by rw [HX.out]; rfl, rfl⟩
theorem objectKey_any (b k : ByteArray) (n : Int) (q m : Nat) (w : World) (hb : b.size ≤ 140737488355328) (hk : k.size ≤ 140737488355328) (hq : Hid (n.toNat = q)) (hm : Hid (q + m = 9223372036854775807)) :
    Calls Tryz.prog 28 #[.string b, .string k, .int .i64 n] w fun e w' => e = .returned (.string ⟨(nk 79 b.data.toList k.data.toList m).toArray⟩) ∧ Below w.heap.size w w' := by
  have HA : Hid (∀ W, Calls Tryz.prog 78 #[.int .i64 n] W fun e w' => e = .returned (.int .i64 (q : Int)) ∧ W = w') := fun W => atLeastZero_any n q W hq
  have HB : Hid (∀ W, Calls Tryz.prog 82 #[.int .i64 (q : Int)] W fun e w' => e = .returned (.int .i64 (m : Int)) ∧ W = w') := fun W => newestFirst_any q m W hm
  have HC : Hid (∀ W, Calls Tryz.prog 83 #[.string ⟨#[79]⟩, .string b, .string k, .int .i64 (m : Int)] W fun e w' => e = .returned (.string ⟨(nk 79 b.data.toList k.data.toList m).toArray⟩) ∧ Below W.heap.size W w') := fun W => namedKey_any 79 b k m W hb hk (by have := hm.out; omega)
  clear hq hm
  go_enter Tryz.func28, Tryz.ntmps28
  go_wp2_with fail
  refine (HA.out _).mono ?_
  rintro e w1 ⟨rfl, rfl⟩
  go_wp2_with fail
  refine (HB.out _).mono ?_
  rintro e w1 ⟨rfl, rfl⟩
  go_wp2_with fail
  refine (HC.out _).mono ?_
  rintro e w1 ⟨rfl, hbe⟩
  go_wp2
  go_ret
  exact ⟨rfl, hbe⟩

theorem pk_list {A B : ByteArray} {s n : Nat} (e1 : A.data.toList = [80] ++ En.be s 8) (e2 : B.data.toList = A.data.toList ++ En.be n 8) : B = ⟨(pk s n).toArray⟩ := ba_of (by
  rw [e2, e1]
  simp [pk])

theorem partKey_any (s n : Int) (i j : Nat) (w : World) (hs : Hid (s.toNat = i)) (hn : Hid (n.toNat = j)) (hi : i ≤ 9223372036854775807) (hj : j ≤ 9223372036854775807) :
    Calls Tryz.prog 24 #[.int .i64 s, .int .i64 n] w fun e w' => e = .returned (.string ⟨(pk i j).toArray⟩) ∧ Below w.heap.size w w' := by
  have HA : Hid (∀ W, Calls Tryz.prog 78 #[.int .i64 s] W fun e w' => e = .returned (.int .i64 (i : Int)) ∧ W = w') := fun W => atLeastZero_any s i W hs
  have HB : Hid (∀ W, Calls Tryz.prog 78 #[.int .i64 n] W fun e w' => e = .returned (.int .i64 (j : Int)) ∧ W = w') := fun W => atLeastZero_any n j W hn
  have HP : Hid (∀ W, Calls Tryz.prog 77 #[.int .i64 (i : Int)] W fun e w' => e = .returned (.string ⟨(En.be i 8).toArray⟩) ∧ Below W.heap.size W w') := fun W => putNumber_any _ W hi
  have HQ : Hid (∀ W, Calls Tryz.prog 77 #[.int .i64 (j : Int)] W fun e w' => e = .returned (.string ⟨(En.be j 8).toArray⟩) ∧ Below W.heap.size W w') := fun W => putNumber_any _ W hj
  have zs : (⟨(En.be i 8).toArray⟩ : ByteArray).size = 8 := by simp [ByteArray.size, En.be_length]
  have zn : (⟨(En.be j 8).toArray⟩ : ByteArray).size = 8 := by simp [ByteArray.size, En.be_length]
  have zc : (⟨#[80]⟩ : ByteArray).size = 1 := rfl
  obtain ⟨X1, e1, z1, f1⟩ := cat_ex ⟨#[80]⟩ ⟨(En.be i 8).toArray⟩ (by rw [zc, zs]; omega)
  obtain ⟨X2, e2, z2, f2⟩ := cat_ex X1 ⟨(En.be j 8).toArray⟩ (by rw [z1, zc, zs, zn]; omega)
  have HX : Hid (X2 = ⟨(pk i j).toArray⟩) := pk_list (by simpa using e1) (by simpa using e2)
  clear e1 e2 z1 z2 zc zs zn hs hn hi hj
  go_enter Tryz.func24, Tryz.ntmps24
  go_wp2_with fail
  refine (HA.out _).mono ?_
  rintro e w1 ⟨rfl, rfl⟩
  go_wp2_with fail
  refine (HP.out _).mono ?_
  rintro e w1 ⟨rfl, hb1⟩
  go_wp2_with fail
  refine (HB.out _).mono ?_
  rintro e w2 ⟨rfl, rfl⟩
  go_wp2_with fail
  refine (HQ.out _).mono ?_
  rintro e w2 ⟨rfl, hb2⟩
  have B2 := step_below hb1 hb2 (Nat.le_refl _)
  clear hb1 hb2
  go_wp2
  go_ret
  exact ⟨by rw [HX.out]; rfl, B2⟩

theorem id_any (n : Int) (q : Nat) (w : World) (hq : Hid (n.toNat = q)) (h1 : q ≤ 9223372036854775807) :
    Calls Tryz.prog 26 #[.int .i64 n] w fun e w' => e = .returned (.string ⟨(En.hexL (En.be q 8)).toArray⟩) ∧ Below w.heap.size w w' := by
  have HA : Hid (∀ W, Calls Tryz.prog 78 #[.int .i64 n] W fun e w' => e = .returned (.int .i64 (q : Int)) ∧ W = w') := fun W => atLeastZero_any n q W hq
  have HP : Hid (∀ W, Calls Tryz.prog 77 #[.int .i64 (q : Int)] W fun e w' => e = .returned (.string ⟨(En.be q 8).toArray⟩) ∧ Below W.heap.size W w') := fun W => putNumber_any _ W h1
  clear hq h1
  go_enter Tryz.func26, Tryz.ntmps26
  go_wp2_with fail
  refine (HA.out _).mono ?_
  rintro e w1 ⟨rfl, rfl⟩
  go_wp2_with fail
  refine (HP.out _).mono ?_
  rintro e w1 ⟨rfl, hb1⟩
  obtain ⟨W1, cap, hcv, hbs, hb2⟩ := conv_new ⟨(En.be q 8).toArray⟩ w1
  have hl : (⟨(En.be q 8).toArray⟩ : ByteArray).data.toList = En.be q 8 := by simp
  rw [hl] at hcv hbs
  have HH : Hid (Calls Tryz.prog 80 #[.slice (some ⟨w1.heap.size, 0, none⟩) (En.be q 8).length cap] W1 fun e w' => e = .returned (.string ⟨(En.hexL (En.be q 8)).toArray⟩) ∧ Below W1.heap.size W1 w') := En.hex_any _ _ _ _ (by rw [En.be_length]; decide) hbs
  have B2 := step_below hb1 hb2 (Nat.le_refl _)
  clear hb1 hb2 hbs hl
  go_wp2_with fail
  refine HH.out.mono ?_
  rintro e w2 ⟨rfl, hb3⟩
  have B3 := step_below B2 hb3 (Nat.le_refl _)
  clear B2 hb3
  go_wp2
  go_ret
  exact ⟨rfl, B3⟩

end Go.Proofs.YtbhiabcgjnfpoaaGreatDoor

/-
  The walk of the statement MetaOrder out of the contracts of what it calls.
-/
import Derived.Test.YtaagnckppdaljaaDoorAwakeM
namespace Go.Proofs.YtaagnckppdaljaaDoor
open Go.RowKit

theorem nk_less (c : UInt8) {a k b l : List UInt8} {n m : Nat} (ha : nz a) (hk : nz k) (hb : nz b) (hl : nz l) (hn : n ≤ 9223372036854775807) (hm : m ≤ 9223372036854775807) :
    Op.bytesLess (nk c a k n) (nk c b l m) = (Op.bytesLess a b || (a == b && (Op.bytesLess k l || (k == l && decide (n < m))))) := by
  unfold nk
  have h0 : decide (c < c) = false := decide_eq_false (by rw [UInt8.lt_iff_toNat_lt]; omega)
  have h1 : (c == c) = true := by simp
  have h2 : decide ((0 : UInt8) < 0) = false := by decide
  show (decide (c < c) || (c == c && Op.bytesLess (a ++ 0 :: (k ++ 0 :: En.be n 8)) (b ++ 0 :: (l ++ 0 :: En.be m 8)))) = _
  rw [h0, h1, Bool.false_or, Bool.true_and, less_sep _ _ _ _ ha hb, less_sep _ _ _ _ hk hl, En.put_less n m (by omega) (by omega)]
theorem less_irr : ∀ {a b : List UInt8}, Op.bytesLess a b = true → (a == b) = false
  | _, [], h => by simp [Op.bytesLess] at h
  | [], _ :: _, _ => rfl
  | x :: a, y :: b, h => by
    have h' : (decide (x < y) || (x == y && Op.bytesLess a b)) = true := h
    show (x == y && a == b) = false
    cases hx : (x == y)
    · rfl
    · have : x = y := by simpa using hx
      subst this
      have h0 : decide (x < x) = false := decide_eq_false (by rw [UInt8.lt_iff_toNat_lt]; omega)
      rw [h0, hx, Bool.false_or, Bool.true_and] at h'
      rw [less_irr h']
      rfl
theorem up_nz {c : UInt8} {a k : List UInt8} {n : Nat} {r : List UInt8 × List UInt8 × Nat} (h : pn c (nk c a k n) = some r) (hn : n ≤ 9223372036854775807) : nz a ∧ nz k ∧ bucketB a = true ∧ keyB k = true := by
  have h1 := pn_some h
  obtain ⟨e1, e2, _⟩ := nk_inj (bucket_nz h1.2.1) (key_nz h1.2.2.1) hn h1.2.2.2 h1.1
  rw [e1, e2]
  exact ⟨bucket_nz h1.2.1, key_nz h1.2.2.1, h1.2.1, h1.2.2.1⟩

set_option maxRecDepth 20000 in
set_option maxHeartbeats 8000000 in
theorem metaOrder_walk (a b k l : ByteArray) (n m : Int) (w : World) (ha : a.size ≤ 140737488351232) (hb : b.size ≤ 140737488351232) (hk : k.size ≤ 140737488351232) (hl : l.size ≤ 140737488351232) (hn : n ≤ 9223372036854775807) (hmm : m ≤ 9223372036854775807) (hm : Mx w) :
    Calls Tryd.prog 5 #[.string a, .string b, .string k, .string l, .int .i64 n, .int .i64 m] w fun e w' => e = .returned (.bool true) ∧ Below w.heap.size w w' := by
  have la : a.data.toList.length = a.size := by simp
  have lb : b.data.toList.length = b.size := by simp
  have lk : k.data.toList.length = k.size := by simp
  have ll : l.data.toList.length = l.size := by simp
  obtain ⟨i, hi⟩ : ∃ i, n.toNat = i := ⟨_, rfl⟩
  obtain ⟨j, hj⟩ : ∃ j, m.toNat = j := ⟨_, rfl⟩
  have hib : i ≤ 9223372036854775807 := by omega
  have hjb : j ≤ 9223372036854775807 := by omega
  obtain ⟨p, hp⟩ : ∃ p, i + p = 9223372036854775807 := ⟨9223372036854775807 - i, by omega⟩
  obtain ⟨q, hq⟩ : ∃ q, j + q = 9223372036854775807 := ⟨9223372036854775807 - j, by omega⟩
  obtain ⟨X1, x1, z1, f1⟩ := cat_ex ⟨#[66]⟩ a (by rw [show (⟨#[66]⟩ : ByteArray).size = 1 from rfl]; omega)
  obtain ⟨X2, x2, z2, f2⟩ := cat_ex ⟨#[66]⟩ b (by rw [show (⟨#[66]⟩ : ByteArray).size = 1 from rfl]; omega)
  have H1 : Hid (∀ W, Mx W → Calls Tryd.prog 18 #[.string X1] W fun e w' => e = .returned (.tuple #[.string ⟨(bkV (66 :: a.data.toList)).toArray⟩, .bool (bucketB a.data.toList)]) ∧ Below W.heap.size W w') := fun W h => by
    have := parseBucket_any X1 W (by rw [z1, show (⟨#[66]⟩ : ByteArray).size = 1 from rfl]; omega) h
    rw [x1, show (⟨#[66]⟩ : ByteArray).data.toList ++ a.data.toList = 66 :: a.data.toList from rfl, bk_cons] at this
    exact this
  have H2 : Hid (∀ W, Mx W → Calls Tryd.prog 18 #[.string X2] W fun e w' => e = .returned (.tuple #[.string ⟨(bkV (66 :: b.data.toList)).toArray⟩, .bool (bucketB b.data.toList)]) ∧ Below W.heap.size W w') := fun W h => by
    have := parseBucket_any X2 W (by rw [z2, show (⟨#[66]⟩ : ByteArray).size = 1 from rfl]; omega) h
    rw [x2, show (⟨#[66]⟩ : ByteArray).data.toList ++ b.data.toList = 66 :: b.data.toList from rfl, bk_cons] at this
    exact this
  have H3 : Hid (∀ W, Calls Tryd.prog 11 #[.string a, .string k, .int .i64 n] W fun e w' => e = .returned (.string ⟨(nk 85 a.data.toList k.data.toList i).toArray⟩) ∧ Below W.heap.size W w') := fun W => uploadKey_any a k n i W (by omega) (by omega) hi hib
  have H4 : Hid (∀ W, Mx W → Calls Tryd.prog 22 #[.string ⟨(nk 85 a.data.toList k.data.toList i).toArray⟩] W fun e w' => e = .returned (pnV 85 (nk 85 a.data.toList k.data.toList i)) ∧ Below W.heap.size W w') := fun W h => parseUpload_any ⟨(nk 85 a.data.toList k.data.toList i).toArray⟩ W (by show (List.toArray _).size ≤ _; rw [List.size_toArray, nk_len]; omega) h
  have H5 : Hid (∀ W, Calls Tryd.prog 11 #[.string b, .string l, .int .i64 m] W fun e w' => e = .returned (.string ⟨(nk 85 b.data.toList l.data.toList j).toArray⟩) ∧ Below W.heap.size W w') := fun W => uploadKey_any b l m j W (by omega) (by omega) hj hjb
  have H6 : Hid (∀ W, Mx W → Calls Tryd.prog 22 #[.string ⟨(nk 85 b.data.toList l.data.toList j).toArray⟩] W fun e w' => e = .returned (pnV 85 (nk 85 b.data.toList l.data.toList j)) ∧ Below W.heap.size W w') := fun W h => parseUpload_any ⟨(nk 85 b.data.toList l.data.toList j).toArray⟩ W (by show (List.toArray _).size ≤ _; rw [List.size_toArray, nk_len]; omega) h
  have H7 : Hid (∀ W, Calls Tryd.prog 9 #[.string a, .string k, .int .i64 n] W fun e w' => e = .returned (.string ⟨(nk 79 a.data.toList k.data.toList p).toArray⟩) ∧ Below W.heap.size W w') := fun W => objectKey_any a k n i p W (by omega) (by omega) hi hp
  have H8 : Hid (∀ W, Calls Tryd.prog 9 #[.string b, .string l, .int .i64 m] W fun e w' => e = .returned (.string ⟨(nk 79 b.data.toList l.data.toList q).toArray⟩) ∧ Below W.heap.size W w') := fun W => objectKey_any b l m j q W (by omega) (by omega) hj hq
  have HAw : Hid (∀ W, Mx W → Calls Tryd.prog 17 #[] W fun e w' => e = .returned (.bool true) ∧ Below W.heap.size W w') := fun W h => awake_any W h
  clear x1 z1 x2 z2 la lb lk ll ha hb hk hl
  generalize bkV (66 :: a.data.toList) = va at *
  generalize bkV (66 :: b.data.toList) = vb at *
  generalize hqa : bucketB a.data.toList = qa at *
  go_enter Tryd.func5, Tryd.ntmps5
  go_wp2_with fail
  refine (H1.out _ hm).mono ?_
  rintro e w1 ⟨rfl, B1⟩
  cases qa
  ·
    go_wp2_with fail
    refine (HAw.out _ (hm.below B1 (Nat.le_refl _))).mono ?_
    rintro e we ⟨rfl, hbe⟩
    have BE := step_below B1 hbe (Nat.le_refl _)
    go_wp2
    go_ret
    exact ⟨rfl, BE⟩
  · generalize hqb : bucketB b.data.toList = qb at *
    go_wp2_with fail
    refine (H2.out _ (hm.below B1 (Nat.le_refl _))).mono ?_
    rintro e w2 ⟨rfl, hb2⟩
    have B2 := step_below B1 hb2 (Nat.le_refl _)
    clear B1 hb2
    cases qb
    ·
      go_wp2_with fail
      refine (HAw.out _ (hm.below B2 (Nat.le_refl _))).mono ?_
      rintro e we ⟨rfl, hbe⟩
      have BE := step_below B2 hbe (Nat.le_refl _)
      go_wp2
      go_ret
      exact ⟨rfl, BE⟩
    · go_wp2_with fail
      refine (H3.out _).mono ?_
      rintro e w3 ⟨rfl, hb3⟩
      have B3 := step_below B2 hb3 (Nat.le_refl _)
      clear B2 hb3
      go_wp2_with fail
      refine (H4.out _ (hm.below B3 (Nat.le_refl _))).mono ?_
      rintro e w4 ⟨rfl, hb4⟩
      have B4 := step_below B3 hb4 (Nat.le_refl _)
      clear B3 hb4
      unfold pnV
      cases h85 : pn 85 (nk 85 a.data.toList k.data.toList i) with
      | none =>
        simp only
        go_wp2_with fail
        refine (HAw.out _ (hm.below B4 (Nat.le_refl _))).mono ?_
        rintro e we ⟨rfl, hbe⟩
        have BE := step_below B4 hbe (Nat.le_refl _)
        go_wp2
        go_ret
        exact ⟨rfl, BE⟩
      | some r =>
        obtain ⟨rb, rk, rn⟩ := r
        simp only
        have HZ1 := (show Hid (nz a.data.toList ∧ nz k.data.toList ∧ bucketB a.data.toList = true ∧ keyB k.data.toList = true) from up_nz h85 hib)
        clear h85
        by_cases hn0 : n < 0
        ·
          go_wp2_with fail
          refine (HAw.out _ (hm.below B4 (Nat.le_refl _))).mono ?_
          rintro e we ⟨rfl, hbe⟩
          have BE := step_below B4 hbe (Nat.le_refl _)
          go_wp2
          go_ret
          exact ⟨rfl, BE⟩
        · obtain ⟨i', rfl⟩ := Int.eq_ofNat_of_zero_le (Int.not_lt.1 hn0)
          obtain rfl : i' = i := by simpa using hi
          clear hi hn0
          by_cases hm0 : m < 0
          ·
            go_wp2_with fail
            refine (HAw.out _ (hm.below B4 (Nat.le_refl _))).mono ?_
            rintro e we ⟨rfl, hbe⟩
            have BE := step_below B4 hbe (Nat.le_refl _)
            go_wp2
            go_ret
            exact ⟨rfl, BE⟩
          · obtain ⟨j', rfl⟩ := Int.eq_ofNat_of_zero_le (Int.not_lt.1 hm0)
            obtain rfl : j' = j := by simpa using hj
            clear hj hm0
            go_wp2_with fail
            refine (H5.out _).mono ?_
            rintro e w5 ⟨rfl, hb5⟩
            have B5 := step_below B4 hb5 (Nat.le_refl _)
            clear B4 hb5
            go_wp2_with fail
            refine (H6.out _ (hm.below B5 (Nat.le_refl _))).mono ?_
            rintro e w6 ⟨rfl, hb6⟩
            have B6 := step_below B5 hb6 (Nat.le_refl _)
            clear B5 hb6
            unfold pnV
            cases h85 : pn 85 (nk 85 b.data.toList l.data.toList j') with
            | none =>
              simp only
              go_wp2_with fail
              refine (HAw.out _ (hm.below B6 (Nat.le_refl _))).mono ?_
              rintro e we ⟨rfl, hbe⟩
              have BE := step_below B6 hbe (Nat.le_refl _)
              go_wp2
              go_ret
              exact ⟨rfl, BE⟩
            | some r =>
              obtain ⟨tb, tk, tn⟩ := r
              simp only
              have hz2 := up_nz h85 hjb
              have hU : Op.bytesLess (⟨(nk 85 a.data.toList k.data.toList i').toArray⟩ : ByteArray).toList (⟨(nk 85 b.data.toList l.data.toList j').toArray⟩ : ByteArray).toList = (Op.bytesLess a.toList b.toList || (a.toList == b.toList && (Op.bytesLess k.toList l.toList || (k.toList == l.toList && decide (i' < j'))))) := by
                rw [bytes_toList, bytes_toList, bytes_toList a, bytes_toList b, bytes_toList k, bytes_toList l]
                exact nk_less 85 HZ1.out.1 HZ1.out.2.1 hz2.1 hz2.2.1 hib hjb
              have hO : Op.bytesLess (⟨(nk 79 a.data.toList k.data.toList p).toArray⟩ : ByteArray).toList (⟨(nk 79 b.data.toList l.data.toList q).toArray⟩ : ByteArray).toList = (Op.bytesLess a.toList b.toList || (a.toList == b.toList && (Op.bytesLess k.toList l.toList || (k.toList == l.toList && decide (j' < i'))))) := by
                rw [bytes_toList, bytes_toList, bytes_toList a, bytes_toList b, bytes_toList k, bytes_toList l, show decide (j' < i') = decide (p < q) from decide_eq_decide.2 (by omega)]
                exact nk_less 79 HZ1.out.1 HZ1.out.2.1 hz2.1 hz2.2.1 (by omega) (by omega)
              have HI1 : Hid (Op.bytesLess a.toList b.toList = true → (a.toList == b.toList) = false) := fun h => less_irr h
              have HI2 : Hid (Op.bytesLess k.toList l.toList = true → (k.toList == l.toList) = false) := fun h => less_irr h
              clear h85 hz2 HZ1 hp hq H1 H2 H4 H6 hib hjb hn hmm
              generalize (⟨(nk 85 a.data.toList k.data.toList i').toArray⟩ : ByteArray) = y1 at *
              generalize (⟨(nk 85 b.data.toList l.data.toList j').toArray⟩ : ByteArray) = y2 at *
              generalize (⟨(nk 79 a.data.toList k.data.toList p).toArray⟩ : ByteArray) = y3 at *
              generalize (⟨(nk 79 b.data.toList l.data.toList q).toArray⟩ : ByteArray) = y4 at *
              have HO : Hid (Op.bytesLess y3.toList y4.toList = (Op.bytesLess a.toList b.toList || ((a.toList == b.toList) && (Op.bytesLess k.toList l.toList || ((k.toList == l.toList) && decide (j' < i')))))) := hO
              have HU : Hid (Op.bytesLess y1.toList y2.toList = (Op.bytesLess a.toList b.toList || ((a.toList == b.toList) && (Op.bytesLess k.toList l.toList || ((k.toList == l.toList) && decide (i' < j')))))) := hU
              clear hO hU
              cases hA : Op.bytesLess a.toList b.toList
              · cases hE : (a.toList == b.toList)
                ·
                  have gO : Op.bytesLess y3.toList y4.toList = false := by rw [HO.out, hA, hE]; rfl
                  have gU : Op.bytesLess y1.toList y2.toList = false := by rw [HU.out, hA, hE]; rfl
                  clear HI1 HI2 HO HU
                  go_wp2_with fail
                  refine (H7.out _).mono ?_
                  rintro e w7 ⟨rfl, hb7⟩
                  have B7 := step_below B6 hb7 (Nat.le_refl _)
                  clear B6 hb7
                  go_wp2_with fail
                  refine (H8.out _).mono ?_
                  rintro e w8 ⟨rfl, hb8⟩
                  have B8 := step_below B7 hb8 (Nat.le_refl _)
                  clear B7 hb8
                  go_wp2_with fail
                  refine (H3.out _).mono ?_
                  rintro e w9 ⟨rfl, hb9⟩
                  have B9 := step_below B8 hb9 (Nat.le_refl _)
                  clear B8 hb9
                  go_wp2_with fail
                  refine (H5.out _).mono ?_
                  rintro e w10 ⟨rfl, hb10⟩
                  have B10 := step_below B9 hb10 (Nat.le_refl _)
                  clear B9 hb10
                  go_wp2_with fail
                  refine (HAw.out _ (hm.below B10 (Nat.le_refl _))).mono ?_
                  rintro e we ⟨rfl, hbe⟩
                  have BE := step_below B10 hbe (Nat.le_refl _)
                  go_wp2
                  go_ret
                  exact ⟨rfl, BE⟩
                · cases hK : Op.bytesLess k.toList l.toList
                  · cases hF : (k.toList == l.toList)
                    ·
                      have gO : Op.bytesLess y3.toList y4.toList = false := by rw [HO.out, hA, hE, hK, hF]; rfl
                      have gU : Op.bytesLess y1.toList y2.toList = false := by rw [HU.out, hA, hE, hK, hF]; rfl
                      clear HI1 HI2 HO HU
                      go_wp2_with fail
                      refine (H7.out _).mono ?_
                      rintro e w7 ⟨rfl, hb7⟩
                      have B7 := step_below B6 hb7 (Nat.le_refl _)
                      clear B6 hb7
                      go_wp2_with fail
                      refine (H8.out _).mono ?_
                      rintro e w8 ⟨rfl, hb8⟩
                      have B8 := step_below B7 hb8 (Nat.le_refl _)
                      clear B7 hb8
                      go_wp2_with fail
                      refine (H3.out _).mono ?_
                      rintro e w9 ⟨rfl, hb9⟩
                      have B9 := step_below B8 hb9 (Nat.le_refl _)
                      clear B8 hb9
                      go_wp2_with fail
                      refine (H5.out _).mono ?_
                      rintro e w10 ⟨rfl, hb10⟩
                      have B10 := step_below B9 hb10 (Nat.le_refl _)
                      clear B9 hb10
                      go_wp2_with fail
                      refine (HAw.out _ (hm.below B10 (Nat.le_refl _))).mono ?_
                      rintro e we ⟨rfl, hbe⟩
                      have BE := step_below B10 hbe (Nat.le_refl _)
                      go_wp2
                      go_ret
                      exact ⟨rfl, BE⟩
                    · rcases Nat.lt_trichotomy i' j' with h | h | h
                      · have hd1 : decide (i' < j') = true := decide_eq_true h
                        have hd2 : decide (j' < i') = false := decide_eq_false (by omega)
                        have gO : Op.bytesLess y3.toList y4.toList = false := by rw [HO.out, hA, hE, hK, hF, hd2]; rfl
                        have gU : Op.bytesLess y1.toList y2.toList = true := by rw [HU.out, hA, hE, hK, hF, hd1]; rfl
                        clear HI1 HI2 HO HU
                        go_wp2_with fail
                        refine (H7.out _).mono ?_
                        rintro e w7 ⟨rfl, hb7⟩
                        have B7 := step_below B6 hb7 (Nat.le_refl _)
                        clear B6 hb7
                        go_wp2_with fail
                        refine (H8.out _).mono ?_
                        rintro e w8 ⟨rfl, hb8⟩
                        have B8 := step_below B7 hb8 (Nat.le_refl _)
                        clear B7 hb8
                        go_wp2_with fail
                        refine (H3.out _).mono ?_
                        rintro e w9 ⟨rfl, hb9⟩
                        have B9 := step_below B8 hb9 (Nat.le_refl _)
                        clear B8 hb9
                        go_wp2_with fail
                        refine (H5.out _).mono ?_
                        rintro e w10 ⟨rfl, hb10⟩
                        have B10 := step_below B9 hb10 (Nat.le_refl _)
                        clear B9 hb10
                        go_wp2_with fail
                        refine (HAw.out _ (hm.below B10 (Nat.le_refl _))).mono ?_
                        rintro e we ⟨rfl, hbe⟩
                        have BE := step_below B10 hbe (Nat.le_refl _)
                        go_wp2
                        go_ret
                        exact ⟨rfl, BE⟩
                      · subst h
                        have hd1 : decide (i' < i') = false := decide_eq_false (by omega)
                        have gO : Op.bytesLess y3.toList y4.toList = false := by rw [HO.out, hA, hE, hK, hF, hd1]; rfl
                        have gU : Op.bytesLess y1.toList y2.toList = false := by rw [HU.out, hA, hE, hK, hF, hd1]; rfl
                        clear hd1
                        clear HI1 HI2 HO HU
                        go_wp2_with fail
                        refine (H7.out _).mono ?_
                        rintro e w7 ⟨rfl, hb7⟩
                        have B7 := step_below B6 hb7 (Nat.le_refl _)
                        clear B6 hb7
                        go_wp2_with fail
                        refine (H8.out _).mono ?_
                        rintro e w8 ⟨rfl, hb8⟩
                        have B8 := step_below B7 hb8 (Nat.le_refl _)
                        clear B7 hb8
                        go_wp2_with fail
                        refine (H3.out _).mono ?_
                        rintro e w9 ⟨rfl, hb9⟩
                        have B9 := step_below B8 hb9 (Nat.le_refl _)
                        clear B8 hb9
                        go_wp2_with fail
                        refine (H5.out _).mono ?_
                        rintro e w10 ⟨rfl, hb10⟩
                        have B10 := step_below B9 hb10 (Nat.le_refl _)
                        clear B9 hb10
                        go_wp2_with fail
                        refine (HAw.out _ (hm.below B10 (Nat.le_refl _))).mono ?_
                        rintro e we ⟨rfl, hbe⟩
                        have BE := step_below B10 hbe (Nat.le_refl _)
                        go_wp2
                        go_ret
                        exact ⟨rfl, BE⟩
                      · have hd1 : decide (i' < j') = false := decide_eq_false (by omega)
                        have hd2 : decide (j' < i') = true := decide_eq_true h
                        have gO : Op.bytesLess y3.toList y4.toList = true := by rw [HO.out, hA, hE, hK, hF, hd2]; rfl
                        have gU : Op.bytesLess y1.toList y2.toList = false := by rw [HU.out, hA, hE, hK, hF, hd1]; rfl
                        clear HI1 HI2 HO HU
                        go_wp2_with fail
                        refine (H7.out _).mono ?_
                        rintro e w7 ⟨rfl, hb7⟩
                        have B7 := step_below B6 hb7 (Nat.le_refl _)
                        clear B6 hb7
                        go_wp2_with fail
                        refine (H8.out _).mono ?_
                        rintro e w8 ⟨rfl, hb8⟩
                        have B8 := step_below B7 hb8 (Nat.le_refl _)
                        clear B7 hb8
                        go_wp2_with fail
                        refine (H3.out _).mono ?_
                        rintro e w9 ⟨rfl, hb9⟩
                        have B9 := step_below B8 hb9 (Nat.le_refl _)
                        clear B8 hb9
                        go_wp2_with fail
                        refine (H5.out _).mono ?_
                        rintro e w10 ⟨rfl, hb10⟩
                        have B10 := step_below B9 hb10 (Nat.le_refl _)
                        clear B9 hb10
                        go_wp2_with fail
                        refine (HAw.out _ (hm.below B10 (Nat.le_refl _))).mono ?_
                        rintro e we ⟨rfl, hbe⟩
                        have BE := step_below B10 hbe (Nat.le_refl _)
                        go_wp2
                        go_ret
                        exact ⟨rfl, BE⟩
                  · have hF := HI2.out hK
                    have gO : Op.bytesLess y3.toList y4.toList = true := by rw [HO.out, hA, hE, hK]; rfl
                    have gU : Op.bytesLess y1.toList y2.toList = true := by rw [HU.out, hA, hE, hK]; rfl
                    clear HI1 HI2 HO HU
                    go_wp2_with fail
                    refine (H7.out _).mono ?_
                    rintro e w7 ⟨rfl, hb7⟩
                    have B7 := step_below B6 hb7 (Nat.le_refl _)
                    clear B6 hb7
                    go_wp2_with fail
                    refine (H8.out _).mono ?_
                    rintro e w8 ⟨rfl, hb8⟩
                    have B8 := step_below B7 hb8 (Nat.le_refl _)
                    clear B7 hb8
                    go_wp2_with fail
                    refine (H3.out _).mono ?_
                    rintro e w9 ⟨rfl, hb9⟩
                    have B9 := step_below B8 hb9 (Nat.le_refl _)
                    clear B8 hb9
                    go_wp2_with fail
                    refine (H5.out _).mono ?_
                    rintro e w10 ⟨rfl, hb10⟩
                    have B10 := step_below B9 hb10 (Nat.le_refl _)
                    clear B9 hb10
                    go_wp2_with fail
                    refine (HAw.out _ (hm.below B10 (Nat.le_refl _))).mono ?_
                    rintro e we ⟨rfl, hbe⟩
                    have BE := step_below B10 hbe (Nat.le_refl _)
                    go_wp2
                    go_ret
                    exact ⟨rfl, BE⟩
              · have hE := HI1.out hA
                have gO : Op.bytesLess y3.toList y4.toList = true := by rw [HO.out, hA]; rfl
                have gU : Op.bytesLess y1.toList y2.toList = true := by rw [HU.out, hA]; rfl
                clear HI1 HI2 HO HU
                go_wp2_with fail
                refine (H7.out _).mono ?_
                rintro e w7 ⟨rfl, hb7⟩
                have B7 := step_below B6 hb7 (Nat.le_refl _)
                clear B6 hb7
                go_wp2_with fail
                refine (H8.out _).mono ?_
                rintro e w8 ⟨rfl, hb8⟩
                have B8 := step_below B7 hb8 (Nat.le_refl _)
                clear B7 hb8
                go_wp2_with fail
                refine (H3.out _).mono ?_
                rintro e w9 ⟨rfl, hb9⟩
                have B9 := step_below B8 hb9 (Nat.le_refl _)
                clear B8 hb9
                go_wp2_with fail
                refine (H5.out _).mono ?_
                rintro e w10 ⟨rfl, hb10⟩
                have B10 := step_below B9 hb10 (Nat.le_refl _)
                clear B9 hb10
                go_wp2_with fail
                refine (HAw.out _ (hm.below B10 (Nat.le_refl _))).mono ?_
                rintro e we ⟨rfl, hbe⟩
                have BE := step_below B10 hbe (Nat.le_refl _)
                go_wp2
                go_ret
                exact ⟨rfl, BE⟩
end Go.Proofs.YtaagnckppdaljaaDoor

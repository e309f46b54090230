/-
  The walk of the statement MetaApart out of the contracts of what it calls.
-/
import Derived.Test.YtaagnckppdaljaaDoorAwakeM
import Derived.Deep.CutBlock
namespace Go.Proofs.YtaagnckppdaljaaDoor
open Go.RowKit

theorem po_ex (l : List UInt8) : ∃ (b k : List UInt8) (n : Nat) (o : Bool), poV l = .tuple #[.string ⟨b.toArray⟩, .string ⟨k.toArray⟩, .int .i64 (n : Int), .bool o] ∧ o = (pn 79 l).isSome := by
  unfold poV
  cases pn 79 l with
  | none => exact ⟨[], [], 0, false, rfl, rfl⟩
  | some r => exact ⟨r.1, r.2.1, 9223372036854775807 - r.2.2, true, rfl, rfl⟩
theorem pv_ex (c : UInt8) (l : List UInt8) : ∃ (b k : List UInt8) (n : Nat) (o : Bool), pnV c l = .tuple #[.string ⟨b.toArray⟩, .string ⟨k.toArray⟩, .int .i64 (n : Int), .bool o] ∧ o = (pn c l).isSome := by
  unfold pnV
  cases pn c l with
  | none => exact ⟨[], [], 0, false, rfl, rfl⟩
  | some r => exact ⟨r.1, r.2.1, r.2.2, true, rfl, rfl⟩
/-- The four keys in memory. -/
def KX (w0 w : World) (g : Nat) (y0 y1 y2 y3 : ByteArray) : Prop := Below w0.heap.size w0 w ∧ w.heap[g]? = some (.cells #[.string y0, .string y1, .string y2, .string y3] 9 (0, 0))
theorem KX.step {w0 w w' : World} {g : Nat} {y0 y1 y2 y3 : ByteArray} (h : KX w0 w g y0 y1 y2 y3) (hb : Below w.heap.size w w') : KX w0 w' g y0 y1 y2 y3 :=
  ⟨step_below h.1 hb (Nat.le_refl _), (hb.block g (Array.getElem?_eq_some_iff.1 h.2).1).trans h.2⟩
theorem KX.cell {w0 w : World} {g : Nat} {y0 y1 y2 y3 y : ByteArray} {k : Nat} (h : KX w0 w g y0 y1 y2 y3) (hy : [y0, y1, y2, y3][k]? = some y) : w.cell? ⟨g, k, none⟩ = some (.string y) := by
  rw [cell_blk h.2 k]
  match k, hy with
  | 0, hy => simp at hy; subst hy; rfl
  | 1, hy => simp at hy; subst hy; rfl
  | 2, hy => simp at hy; subst hy; rfl
  | 3, hy => simp at hy; subst hy; rfl
  | k + 4, hy => simp at hy
/-- A key tells its kind by its first byte. -/
def Kd (y : ByteArray) : Prop := y.size ≤ 562949953421312 ∧ ∃ d T, y.data.toList = d :: T
theorem kd_all {y0 y1 y2 y3 y : ByteArray} {k : Nat} (h0 : Kd y0) (h1 : Kd y1) (h2 : Kd y2) (h3 : Kd y3) (hy : [y0, y1, y2, y3][k]? = some y) : Kd y := by
  match k, hy with
  | 0, hy => simp at hy; subst hy; exact h0
  | 1, hy => simp at hy; subst hy; exact h1
  | 2, hy => simp at hy; subst hy; exact h2
  | 3, hy => simp at hy; subst hy; exact h3
  | k + 4, hy => simp at hy
theorem up_nz {c : UInt8} {a k : List UInt8} {n : Nat} {r : List UInt8 × List UInt8 × Nat} (h : pn c (nk c a k n) = some r) (hn : n ≤ 9223372036854775807) : nz a ∧ nz k := by
  have h1 := pn_some h
  obtain ⟨e1, e2, _⟩ := nk_inj (bucket_nz h1.2.1) (key_nz h1.2.2.1) hn h1.2.2.2 h1.1
  rw [e1, e2]
  exact ⟨bucket_nz h1.2.1, key_nz h1.2.2.1⟩
theorem nk_beq (c : UInt8) {a k b l : List UInt8} {n m : Nat} (hb : nz b) (hl : nz l) (hn : n ≤ 9223372036854775807) (hm : m ≤ 9223372036854775807) : (nk c a k n == nk c b l m) = (a == b && (k == l && decide (n = m))) := by
  rw [Bool.eq_iff_iff]
  simp only [beq_iff_eq, Bool.and_eq_true, decide_eq_true_eq]
  constructor
  · intro h
    exact nk_inj hb hl hn hm h
  · rintro ⟨rfl, rfl, rfl⟩
    rfl
theorem pk_beq {i j : Nat} (hi : i ≤ 9223372036854775807) (hj : j ≤ 9223372036854775807) : (pk i j == pk j i) = decide (i = j) := by
  rw [Bool.eq_iff_iff]
  simp only [beq_iff_eq, decide_eq_true_eq]
  constructor
  · intro h
    have e1 := pt_pk hi hj
    rw [h, pt_pk hj hi] at e1
    exact (Prod.mk.inj e1).1.symm
  · rintro rfl
    rfl
theorem id_beq {i j : Nat} (hi : i ≤ 9223372036854775807) (hj : j ≤ 9223372036854775807) : (En.hexL (En.be i 8) == En.hexL (En.be j 8)) = decide (i = j) := by
  rw [Bool.eq_iff_iff]
  simp only [beq_iff_eq, decide_eq_true_eq]
  constructor
  · intro h
    have e1 := (sq_id hi).2
    rw [h, (sq_id hj).2] at e1
    exact e1.symm
  · rintro rfl
    rfl

set_option maxRecDepth 20000 in
set_option maxHeartbeats 8000000 in
theorem metaApart_walk (a b k l : ByteArray) (n m : Int) (w : World) (ha : a.size ≤ 140737488351232) (hb : b.size ≤ 140737488351232) (hk : k.size ≤ 140737488351232) (hl : l.size ≤ 140737488351232) (hn : n ≤ 9223372036854775807) (hmm : m ≤ 9223372036854775807) (hm : Mx w) :
    Calls Tryd.prog 6 #[.string a, .string b, .string k, .string l, .int .i64 n, .int .i64 m] w fun e w' => e = .returned (.bool true) ∧ Below w.heap.size w w' := by
  have HAw : Hid (∀ W, Mx W → Calls Tryd.prog 17 #[] W fun e w' => e = .returned (.bool true) ∧ Below W.heap.size W w') := fun W h => awake_any W h
  have B0 : Below w.heap.size w w := Below.refl _ _
  by_cases hn0 : n < 0
  · go_enter Tryd.func6, Tryd.ntmps6
    go_wp2_with fail
    refine (HAw.out _ (hm.below B0 (Nat.le_refl _))).mono ?_
    rintro e we ⟨rfl, hbe⟩
    have BE := step_below B0 hbe (Nat.le_refl _)
    go_wp2
    go_ret
    exact ⟨rfl, BE⟩
  · obtain ⟨i, rfl⟩ := Int.eq_ofNat_of_zero_le (Int.not_lt.1 hn0)
    clear hn0
    by_cases hm0 : m < 0
    · go_enter Tryd.func6, Tryd.ntmps6
      go_wp2_with fail
      refine (HAw.out _ (hm.below B0 (Nat.le_refl _))).mono ?_
      rintro e we ⟨rfl, hbe⟩
      have BE := step_below B0 hbe (Nat.le_refl _)
      go_wp2
      go_ret
      exact ⟨rfl, BE⟩
    · obtain ⟨j, rfl⟩ := Int.eq_ofNat_of_zero_le (Int.not_lt.1 hm0)
      clear hm0
      have la : a.data.toList.length = a.size := by simp
      have lb : b.data.toList.length = b.size := by simp
      have lk : k.data.toList.length = k.size := by simp
      have ll : l.data.toList.length = l.size := by simp
      have hib : i ≤ 9223372036854775807 := by omega
      have hjb : j ≤ 9223372036854775807 := by omega
      obtain ⟨p, hp⟩ : ∃ p, i + p = 9223372036854775807 := ⟨9223372036854775807 - i, by omega⟩
      obtain ⟨q, hq⟩ : ∃ q, j + q = 9223372036854775807 := ⟨9223372036854775807 - j, by omega⟩
      have H1 : Hid (∀ W, Calls Tryd.prog 7 #[.string a] W fun e w' => e = .returned (.string ⟨(66 :: a.data.toList).toArray⟩) ∧ W = w') := fun W => bucketKey_any a W (by omega)
      have H2 : Hid (∀ W, Calls Tryd.prog 9 #[.string a, .string k, .int .i64 (i : Int)] W fun e w' => e = .returned (.string ⟨(nk 79 a.data.toList k.data.toList p).toArray⟩) ∧ Below W.heap.size W w') := fun W => objectKey_any a k i i p W (by omega) (by omega) (by show _ = _; simp) hp
      have H3 : Hid (∀ W, Calls Tryd.prog 11 #[.string a, .string k, .int .i64 (i : Int)] W fun e w' => e = .returned (.string ⟨(nk 85 a.data.toList k.data.toList i).toArray⟩) ∧ Below W.heap.size W w') := fun W => uploadKey_any a k i i W (by omega) (by omega) (by show _ = _; simp) hib
      have H4 : Hid (∀ W, Calls Tryd.prog 13 #[.int .i64 (i : Int), .int .i64 (j : Int)] W fun e w' => e = .returned (.string ⟨(pk i j).toArray⟩) ∧ Below W.heap.size W w') := fun W => partKey_any i j i j W (by show _ = _; simp) (by show _ = _; simp) hib hjb
      have H5 : Hid (∀ W, Calls Tryd.prog 9 #[.string b, .string l, .int .i64 (j : Int)] W fun e w' => e = .returned (.string ⟨(nk 79 b.data.toList l.data.toList q).toArray⟩) ∧ Below W.heap.size W w') := fun W => objectKey_any b l j j q W (by omega) (by omega) (by show _ = _; simp) hq
      have H6 : Hid (∀ W, Calls Tryd.prog 13 #[.int .i64 (j : Int), .int .i64 (i : Int)] W fun e w' => e = .returned (.string ⟨(pk j i).toArray⟩) ∧ Below W.heap.size W w') := fun W => partKey_any j i j i W (by show _ = _; simp) (by show _ = _; simp) hjb hib
      have H7 : Hid (∀ W, Calls Tryd.prog 15 #[.int .i64 (i : Int)] W fun e w' => e = .returned (.string ⟨(En.hexL (En.be i 8)).toArray⟩) ∧ Below W.heap.size W w') := fun W => id_any i i W (by show _ = _; simp) hib
      have H8 : Hid (∀ W, Calls Tryd.prog 15 #[.int .i64 (j : Int)] W fun e w' => e = .returned (.string ⟨(En.hexL (En.be j 8)).toArray⟩) ∧ Below W.heap.size W w') := fun W => id_any j j W (by show _ = _; simp) hjb
      go_enter Tryd.func6, Tryd.ntmps6
      go_wp2_with fail
      refine (H1.out _).mono ?_
      rintro e w1 ⟨rfl, rfl⟩
      go_wp2_with fail
      refine (H2.out _).mono ?_
      rintro e w2 ⟨rfl, B2⟩
      go_wp2_with fail
      refine (H3.out _).mono ?_
      rintro e w3 ⟨rfl, hb3⟩
      have B3 := step_below B2 hb3 (Nat.le_refl _)
      clear B2 hb3
      go_wp2_with fail
      refine (H4.out _).mono ?_
      rintro e w4 ⟨rfl, hb4⟩
      have B4 := step_below B3 hb4 (Nat.le_refl _)
      clear B3 hb4
      have K0 : Hid (Kd ⟨(66 :: a.data.toList).toArray⟩) := ⟨by show (List.toArray _).size ≤ _; rw [List.size_toArray, List.length_cons]; omega, 66, _, rfl⟩
      have K1 : Hid (Kd ⟨(nk 79 a.data.toList k.data.toList p).toArray⟩) := ⟨by show (List.toArray _).size ≤ _; rw [List.size_toArray, nk_len]; omega, 79, _, rfl⟩
      have K2 : Hid (Kd ⟨(nk 85 a.data.toList k.data.toList i).toArray⟩) := ⟨by show (List.toArray _).size ≤ _; rw [List.size_toArray, nk_len]; omega, 85, _, rfl⟩
      have K3 : Hid (Kd ⟨(pk i j).toArray⟩) := ⟨by show (List.toArray _).size ≤ _; rw [List.size_toArray, pp_pk]; omega, 80, _, rfl⟩
      have Z5 : Hid ((⟨(nk 79 b.data.toList l.data.toList q).toArray⟩ : ByteArray).size ≤ 562949953421312) := by show (List.toArray _).size ≤ _; rw [List.size_toArray, nk_len]; omega
      have P1 : Hid (∀ W, Mx W → Calls Tryd.prog 20 #[.string ⟨(nk 79 a.data.toList k.data.toList p).toArray⟩] W fun e w' => e = .returned (poV (nk 79 a.data.toList k.data.toList p)) ∧ Below W.heap.size W w') := fun W h => parseObject_any ⟨(nk 79 a.data.toList k.data.toList p).toArray⟩ W K1.out.1 h
      have P2 : Hid (∀ W, Mx W → Calls Tryd.prog 20 #[.string ⟨(nk 79 b.data.toList l.data.toList q).toArray⟩] W fun e w' => e = .returned (poV (nk 79 b.data.toList l.data.toList q)) ∧ Below W.heap.size W w') := fun W h => parseObject_any ⟨(nk 79 b.data.toList l.data.toList q).toArray⟩ W Z5.out h
      have T1 : Hid ((⟨(nk 79 a.data.toList k.data.toList p).toArray⟩ : ByteArray).toList = nk 79 a.data.toList k.data.toList p) := bytes_toList _
      have T5 : Hid ((⟨(nk 79 b.data.toList l.data.toList q).toArray⟩ : ByteArray).toList = nk 79 b.data.toList l.data.toList q) := bytes_toList _
      have EP : Hid (((⟨(pk i j).toArray⟩ : ByteArray).toList == (⟨(pk j i).toArray⟩ : ByteArray).toList) = decide (i = j)) := by show (_ == _) = _; rw [bytes_toList, bytes_toList]; exact pk_beq hib hjb
      have EI : Hid (((⟨(En.hexL (En.be i 8)).toArray⟩ : ByteArray).toList == (⟨(En.hexL (En.be j 8)).toArray⟩ : ByteArray).toList) = decide (i = j)) := by show (_ == _) = _; rw [bytes_toList, bytes_toList]; exact id_beq hib hjb
      have HS : Hid (i + p = 9223372036854775807 ∧ j + q = 9223372036854775807) := ⟨hp, hq⟩
      generalize (⟨(66 :: a.data.toList).toArray⟩ : ByteArray) = y0 at *
      generalize (⟨(nk 79 a.data.toList k.data.toList p).toArray⟩ : ByteArray) = y1 at *
      generalize (⟨(nk 85 a.data.toList k.data.toList i).toArray⟩ : ByteArray) = y2 at *
      generalize (⟨(pk i j).toArray⟩ : ByteArray) = y3 at *
      generalize (⟨(pk j i).toArray⟩ : ByteArray) = y4 at *
      generalize (⟨(nk 79 b.data.toList l.data.toList q).toArray⟩ : ByteArray) = y5 at *
      generalize (⟨(En.hexL (En.be i 8)).toArray⟩ : ByteArray) = y6 at *
      generalize (⟨(En.hexL (En.be j 8)).toArray⟩ : ByteArray) = y7 at *
      clear la lb lk ll hp hq ha hb hk hl B0
      go_wp2_with fail
      obtain ⟨W0, hW0⟩ : ∃ W0, W0 = w4.alloc (.cells #[.string y0, .string y1, .string y2, .string y3] 9) := ⟨_, rfl⟩
      rw [← hW0]
      obtain ⟨g, hg⟩ : ∃ g, g = w4.heap.size := ⟨_, rfl⟩
      rw [← hg]
      have HX0 : Hid (KX w W0 g y0 y1 y2 y3) := by rw [hW0, hg]; exact ⟨B4.alloc B4.size _, heap_alloc_new w4 _⟩
      clear hW0 hg B4 H1 H3
      go_loopw [14] (fun v wr => ∃ kk : Nat, kk ≤ 4 ∧ v = .int .i64 kk ∧ KX w wr g y0 y1 y2 y3) (fun v _ => 4 - (intOf v).toNat)
      case atStart => exact ⟨0, by omega, rfl, HX0.out⟩
      case round =>
        obtain ⟨kk, hkk, rfl, hX⟩ := hrel
        have HX : Hid (KX w wr g y0 y1 y2 y3) := hX
        clear hX HX0
        by_cases hlt : kk < 4
        · obtain ⟨y, hy⟩ : ∃ y, [y0, y1, y2, y3][kk]? = some y := ⟨_, List.getElem?_eq_getElem (by simpa using hlt)⟩
          have hKd := kd_all K0.out K1.out K2.out K3.out hy
          have HYk : Hid ([y0, y1, y2, y3][kk]? = some y) := hy
          have d0 := HX.out.cell hy
          obtain ⟨hys, d, T, hT⟩ := hKd
          have G1 : Hid (∀ W, Mx W → Calls Tryd.prog 18 #[.string y] W fun e w' => e = .returned (.tuple #[.string ⟨(bkV y.data.toList).toArray⟩, .bool (bkOk y.data.toList)]) ∧ Below W.heap.size W w') := fun W h => parseBucket_any y W hys h
          have G2 : Hid (∀ W, Mx W → Calls Tryd.prog 20 #[.string y] W fun e w' => e = .returned (poV y.data.toList) ∧ Below W.heap.size W w') := fun W h => parseObject_any y W hys h
          have G3 : Hid (∀ W, Mx W → Calls Tryd.prog 22 #[.string y] W fun e w' => e = .returned (pnV 85 y.data.toList) ∧ Below W.heap.size W w') := fun W h => parseUpload_any y W hys h
          have G4 : Hid (∀ W, Calls Tryd.prog 24 #[.string y] W fun e w' => e = .returned (.tuple #[.int .i64 ((pt y.data.toList).1 : Nat), .int .i64 ((pt y.data.toList).2.1 : Nat), .bool (pt y.data.toList).2.2]) ∧ Below W.heap.size W w') := fun W => parsePart_any y W
          obtain ⟨ob, ok, on, oo, e2, o2⟩ := po_ex y.data.toList
          obtain ⟨ub, uk, un, uo, e3, o3⟩ := pv_ex 85 y.data.toList
          rw [e2] at G2
          rw [e3] at G3
          have c1 : bkOk y.data.toList = true → (66 : UInt8) = d := fun h => by rw [hT] at h; exact bk_head h
          have c2 : oo = true → (79 : UInt8) = d := fun h => by rw [o2, hT] at h; exact pn_head h
          have c3 : uo = true → (85 : UInt8) = d := fun h => by rw [o3, hT] at h; exact pn_head h
          have c4 : (pt y.data.toList).2.2 = true → (80 : UInt8) = d := fun h => by rw [hT] at h; exact pt_head h
          generalize bkOk y.data.toList = bo at *
          generalize (pt y.data.toList).2.2 = po at *
          generalize (pt y.data.toList).1 = p1 at *
          generalize (pt y.data.toList).2.1 = p2 at *
          generalize bkV y.data.toList = bv at *
          clear e2 e3 o2 o3 hT hys hy P1 P2 T1 T5 EP EI HS H2 H4 H5 H6 H7 H8 K0 K1 K2 K3 Z5 HAw
          have hlt' : (kk : Int) < 4 := by omega
          have hcase : (bo = true ∧ oo = false ∧ uo = false ∧ po = false) ∨ (bo = false ∧ oo = true ∧ uo = false ∧ po = false) ∨ (bo = false ∧ oo = false ∧ uo = true ∧ po = false) ∨ (bo = false ∧ oo = false ∧ uo = false ∧ po = true) ∨ (bo = false ∧ oo = false ∧ uo = false ∧ po = false) := by
            cases bo <;> cases oo <;> cases uo <;> cases po <;> simp at c1 c2 c3 c4 ⊢ <;> (first | (subst c1; revert c2; decide) | (subst c1; revert c3; decide) | (subst c1; revert c4; decide) | (subst c2; revert c3; decide) | (subst c2; revert c4; decide) | (subst c3; revert c4; decide))
          clear c1 c2 c3 c4
          rcases hcase with ⟨rfl, rfl, rfl, rfl⟩ | ⟨rfl, rfl, rfl, rfl⟩ | ⟨rfl, rfl, rfl, rfl⟩ | ⟨rfl, rfl, rfl, rfl⟩ | ⟨rfl, rfl, rfl, rfl⟩
          ·
            go_wp2_with fail
            refine (G1.out _ (hm.below HX.out.1 (Nat.le_refl _))).mono ?_
            rintro e v1 ⟨rfl, hv1⟩
            have HX1 : Hid (KX w v1 g y0 y1 y2 y3) := HX.out.step hv1
            have d1 := HX1.out.cell HYk.out
            clear hv1 d0 HX
            go_wp2_with fail
            refine (G2.out _ (hm.below HX1.out.1 (Nat.le_refl _))).mono ?_
            rintro e v2 ⟨rfl, hv2⟩
            have HX2 : Hid (KX w v2 g y0 y1 y2 y3) := HX1.out.step hv2
            have d2 := HX2.out.cell HYk.out
            clear hv2 d1 HX1
            go_wp2_with fail
            refine (G3.out _ (hm.below HX2.out.1 (Nat.le_refl _))).mono ?_
            rintro e v3 ⟨rfl, hv3⟩
            have HX3 : Hid (KX w v3 g y0 y1 y2 y3) := HX2.out.step hv3
            have d3 := HX3.out.cell HYk.out
            clear hv3 d2 HX2
            go_wp2_with fail
            refine (G4.out _).mono ?_
            rintro e v4 ⟨rfl, hv4⟩
            have HX4 : Hid (KX w v4 g y0 y1 y2 y3) := HX3.out.step hv4
            clear hv4 d3 HX3
            go_wp2
            go_roundw
            case rel => exact ⟨kk + 1, by omega, by go_num, HX4.out⟩
            case measure => simp [intOf]; omega
          ·
            go_wp2_with fail
            refine (G1.out _ (hm.below HX.out.1 (Nat.le_refl _))).mono ?_
            rintro e v1 ⟨rfl, hv1⟩
            have HX1 : Hid (KX w v1 g y0 y1 y2 y3) := HX.out.step hv1
            have d1 := HX1.out.cell HYk.out
            clear hv1 d0 HX
            go_wp2_with fail
            refine (G2.out _ (hm.below HX1.out.1 (Nat.le_refl _))).mono ?_
            rintro e v2 ⟨rfl, hv2⟩
            have HX2 : Hid (KX w v2 g y0 y1 y2 y3) := HX1.out.step hv2
            have d2 := HX2.out.cell HYk.out
            clear hv2 d1 HX1
            go_wp2_with fail
            refine (G3.out _ (hm.below HX2.out.1 (Nat.le_refl _))).mono ?_
            rintro e v3 ⟨rfl, hv3⟩
            have HX3 : Hid (KX w v3 g y0 y1 y2 y3) := HX2.out.step hv3
            have d3 := HX3.out.cell HYk.out
            clear hv3 d2 HX2
            go_wp2_with fail
            refine (G4.out _).mono ?_
            rintro e v4 ⟨rfl, hv4⟩
            have HX4 : Hid (KX w v4 g y0 y1 y2 y3) := HX3.out.step hv4
            clear hv4 d3 HX3
            go_wp2
            go_roundw
            case rel => exact ⟨kk + 1, by omega, by go_num, HX4.out⟩
            case measure => simp [intOf]; omega
          ·
            go_wp2_with fail
            refine (G1.out _ (hm.below HX.out.1 (Nat.le_refl _))).mono ?_
            rintro e v1 ⟨rfl, hv1⟩
            have HX1 : Hid (KX w v1 g y0 y1 y2 y3) := HX.out.step hv1
            have d1 := HX1.out.cell HYk.out
            clear hv1 d0 HX
            go_wp2_with fail
            refine (G2.out _ (hm.below HX1.out.1 (Nat.le_refl _))).mono ?_
            rintro e v2 ⟨rfl, hv2⟩
            have HX2 : Hid (KX w v2 g y0 y1 y2 y3) := HX1.out.step hv2
            have d2 := HX2.out.cell HYk.out
            clear hv2 d1 HX1
            go_wp2_with fail
            refine (G3.out _ (hm.below HX2.out.1 (Nat.le_refl _))).mono ?_
            rintro e v3 ⟨rfl, hv3⟩
            have HX3 : Hid (KX w v3 g y0 y1 y2 y3) := HX2.out.step hv3
            have d3 := HX3.out.cell HYk.out
            clear hv3 d2 HX2
            go_wp2_with fail
            refine (G4.out _).mono ?_
            rintro e v4 ⟨rfl, hv4⟩
            have HX4 : Hid (KX w v4 g y0 y1 y2 y3) := HX3.out.step hv4
            clear hv4 d3 HX3
            go_wp2
            go_roundw
            case rel => exact ⟨kk + 1, by omega, by go_num, HX4.out⟩
            case measure => simp [intOf]; omega
          ·
            go_wp2_with fail
            refine (G1.out _ (hm.below HX.out.1 (Nat.le_refl _))).mono ?_
            rintro e v1 ⟨rfl, hv1⟩
            have HX1 : Hid (KX w v1 g y0 y1 y2 y3) := HX.out.step hv1
            have d1 := HX1.out.cell HYk.out
            clear hv1 d0 HX
            go_wp2_with fail
            refine (G2.out _ (hm.below HX1.out.1 (Nat.le_refl _))).mono ?_
            rintro e v2 ⟨rfl, hv2⟩
            have HX2 : Hid (KX w v2 g y0 y1 y2 y3) := HX1.out.step hv2
            have d2 := HX2.out.cell HYk.out
            clear hv2 d1 HX1
            go_wp2_with fail
            refine (G3.out _ (hm.below HX2.out.1 (Nat.le_refl _))).mono ?_
            rintro e v3 ⟨rfl, hv3⟩
            have HX3 : Hid (KX w v3 g y0 y1 y2 y3) := HX2.out.step hv3
            have d3 := HX3.out.cell HYk.out
            clear hv3 d2 HX2
            go_wp2_with fail
            refine (G4.out _).mono ?_
            rintro e v4 ⟨rfl, hv4⟩
            have HX4 : Hid (KX w v4 g y0 y1 y2 y3) := HX3.out.step hv4
            clear hv4 d3 HX3
            go_wp2
            go_roundw
            case rel => exact ⟨kk + 1, by omega, by go_num, HX4.out⟩
            case measure => simp [intOf]; omega
          ·
            go_wp2_with fail
            refine (G1.out _ (hm.below HX.out.1 (Nat.le_refl _))).mono ?_
            rintro e v1 ⟨rfl, hv1⟩
            have HX1 : Hid (KX w v1 g y0 y1 y2 y3) := HX.out.step hv1
            have d1 := HX1.out.cell HYk.out
            clear hv1 d0 HX
            go_wp2_with fail
            refine (G2.out _ (hm.below HX1.out.1 (Nat.le_refl _))).mono ?_
            rintro e v2 ⟨rfl, hv2⟩
            have HX2 : Hid (KX w v2 g y0 y1 y2 y3) := HX1.out.step hv2
            have d2 := HX2.out.cell HYk.out
            clear hv2 d1 HX1
            go_wp2_with fail
            refine (G3.out _ (hm.below HX2.out.1 (Nat.le_refl _))).mono ?_
            rintro e v3 ⟨rfl, hv3⟩
            have HX3 : Hid (KX w v3 g y0 y1 y2 y3) := HX2.out.step hv3
            have d3 := HX3.out.cell HYk.out
            clear hv3 d2 HX2
            go_wp2_with fail
            refine (G4.out _).mono ?_
            rintro e v4 ⟨rfl, hv4⟩
            have HX4 : Hid (KX w v4 g y0 y1 y2 y3) := HX3.out.step hv4
            clear hv4 d3 HX3
            go_wp2
            go_roundw
            case rel => exact ⟨kk + 1, by omega, by go_num, HX4.out⟩
            case measure => simp [intOf]; omega
        · obtain rfl : kk = 4 := by omega
          have d1 := HX.out.cell (k := 1) (y := y1) rfl
          have B5 := HX.out.1
          clear hlt hkk HX
          go_wp2_with fail
          refine (P1.out _ (hm.below B5 (Nat.le_refl _))).mono ?_
          rintro e w6 ⟨rfl, hb6⟩
          have B6 := step_below B5 hb6 (Nat.le_refl _)
          clear B5 hb6 d1
          unfold poV
          cases h79 : pn 79 (nk 79 a.data.toList k.data.toList p) with
          | none =>
            simp only
            go_wp2_with fail
            refine (HAw.out _ (hm.below B6 (Nat.le_refl _))).mono ?_
            rintro e we ⟨rfl, hbe⟩
            have BE := step_below B6 hbe (Nat.le_refl _)
            go_wp2
            go_ret
            exact ⟨rfl, BE⟩
          | some r =>
            obtain ⟨rb, rk, rn⟩ := r
            simp only
            clear h79
            go_wp2_with fail
            refine (H5.out _).mono ?_
            rintro e w6b ⟨rfl, hb6⟩
            have B6b := step_below B6 hb6 (Nat.le_refl _)
            clear B6 hb6
            go_wp2_with fail
            refine (P2.out _ (hm.below B6b (Nat.le_refl _))).mono ?_
            rintro e w7 ⟨rfl, hb7⟩
            have B7 := step_below B6b hb7 (Nat.le_refl _)
            clear B6b hb7
            unfold poV
            cases h79 : pn 79 (nk 79 b.data.toList l.data.toList q) with
            | none =>
              simp only
              go_wp2_with fail
              refine (HAw.out _ (hm.below B7 (Nat.le_refl _))).mono ?_
              rintro e we ⟨rfl, hbe⟩
              have BE := step_below B7 hbe (Nat.le_refl _)
              go_wp2
              go_ret
              exact ⟨rfl, BE⟩
            | some r =>
              obtain ⟨tb, tk, tn⟩ := r
              simp only
              have hz2 := up_nz h79 (by have := HS.out; omega)
              have HY : Hid ((y1.toList == y5.toList) = (a.toList == b.toList && (k.toList == l.toList && decide (i = j)))) := by
                show (_ == _) = _
                rw [T1.out, T5.out, bytes_toList a, bytes_toList b, bytes_toList k, bytes_toList l, show decide (i = j) = decide (p = q) from decide_eq_decide.2 (by have := HS.out; omega)]
                exact nk_beq 79 hz2.1 hz2.2 (by have := HS.out; omega) (by have := HS.out; omega)
              clear h79 hz2 P1 P2 T1 T5 HS K0 K1 K2 K3 Z5
              by_cases hij : i = j
              · subst hij
                have hd : decide (i = i) = true := decide_eq_true rfl
                have gP : (y3.toList == y4.toList) = true := by rw [EP.out]; exact hd
                have gI : (y6.toList == y7.toList) = true := by rw [EI.out]; exact hd
                clear EP EI
                cases hA : (a.toList == b.toList)
                · have gY : (y1.toList == y5.toList) = false := by rw [HY.out, hA]; rfl
                  clear HY hd
                  go_wp2_with fail
                  refine (H2.out _).mono ?_
                  rintro e w8 ⟨rfl, hb8⟩
                  have B8 := step_below B7 hb8 (Nat.le_refl _)
                  clear B7 hb8
                  go_wp2_with fail
                  refine (H5.out _).mono ?_
                  rintro e w9 ⟨rfl, hb9⟩
                  have B9 := step_below B8 hb9 (Nat.le_refl _)
                  clear B8 hb9
                  go_wp2_with fail
                  refine (H4.out _).mono ?_
                  rintro e w10 ⟨rfl, hb10⟩
                  have B10 := step_below B9 hb10 (Nat.le_refl _)
                  clear B9 hb10
                  go_wp2_with fail
                  refine (H6.out _).mono ?_
                  rintro e w11 ⟨rfl, hb11⟩
                  have B11 := step_below B10 hb11 (Nat.le_refl _)
                  clear B10 hb11
                  go_wp2_with fail
                  refine (H7.out _).mono ?_
                  rintro e w12 ⟨rfl, hb12⟩
                  have B12 := step_below B11 hb12 (Nat.le_refl _)
                  clear B11 hb12
                  go_wp2_with fail
                  refine (H8.out _).mono ?_
                  rintro e w13 ⟨rfl, hb13⟩
                  have B13 := step_below B12 hb13 (Nat.le_refl _)
                  clear B12 hb13
                  go_wp2_with fail
                  refine (HAw.out _ (hm.below B13 (Nat.le_refl _))).mono ?_
                  rintro e we ⟨rfl, hbe⟩
                  have BE := step_below B13 hbe (Nat.le_refl _)
                  go_wp2
                  go_ret
                  exact ⟨rfl, BE⟩
                · cases hK : (k.toList == l.toList)
                  · have gY : (y1.toList == y5.toList) = false := by rw [HY.out, hA, hK]; rfl
                    clear HY hd
                    go_wp2_with fail
                    refine (H2.out _).mono ?_
                    rintro e w8 ⟨rfl, hb8⟩
                    have B8 := step_below B7 hb8 (Nat.le_refl _)
                    clear B7 hb8
                    go_wp2_with fail
                    refine (H5.out _).mono ?_
                    rintro e w9 ⟨rfl, hb9⟩
                    have B9 := step_below B8 hb9 (Nat.le_refl _)
                    clear B8 hb9
                    go_wp2_with fail
                    refine (H4.out _).mono ?_
                    rintro e w10 ⟨rfl, hb10⟩
                    have B10 := step_below B9 hb10 (Nat.le_refl _)
                    clear B9 hb10
                    go_wp2_with fail
                    refine (H6.out _).mono ?_
                    rintro e w11 ⟨rfl, hb11⟩
                    have B11 := step_below B10 hb11 (Nat.le_refl _)
                    clear B10 hb11
                    go_wp2_with fail
                    refine (H7.out _).mono ?_
                    rintro e w12 ⟨rfl, hb12⟩
                    have B12 := step_below B11 hb12 (Nat.le_refl _)
                    clear B11 hb12
                    go_wp2_with fail
                    refine (H8.out _).mono ?_
                    rintro e w13 ⟨rfl, hb13⟩
                    have B13 := step_below B12 hb13 (Nat.le_refl _)
                    clear B12 hb13
                    go_wp2_with fail
                    refine (HAw.out _ (hm.below B13 (Nat.le_refl _))).mono ?_
                    rintro e we ⟨rfl, hbe⟩
                    have BE := step_below B13 hbe (Nat.le_refl _)
                    go_wp2
                    go_ret
                    exact ⟨rfl, BE⟩
                  · have gY : (y1.toList == y5.toList) = true := by rw [HY.out, hA, hK, hd]; rfl
                    clear HY hd
                    go_wp2_with fail
                    refine (H2.out _).mono ?_
                    rintro e w8 ⟨rfl, hb8⟩
                    have B8 := step_below B7 hb8 (Nat.le_refl _)
                    clear B7 hb8
                    go_wp2_with fail
                    refine (H5.out _).mono ?_
                    rintro e w9 ⟨rfl, hb9⟩
                    have B9 := step_below B8 hb9 (Nat.le_refl _)
                    clear B8 hb9
                    go_wp2_with fail
                    refine (H4.out _).mono ?_
                    rintro e w10 ⟨rfl, hb10⟩
                    have B10 := step_below B9 hb10 (Nat.le_refl _)
                    clear B9 hb10
                    go_wp2_with fail
                    refine (H6.out _).mono ?_
                    rintro e w11 ⟨rfl, hb11⟩
                    have B11 := step_below B10 hb11 (Nat.le_refl _)
                    clear B10 hb11
                    go_wp2_with fail
                    refine (H7.out _).mono ?_
                    rintro e w12 ⟨rfl, hb12⟩
                    have B12 := step_below B11 hb12 (Nat.le_refl _)
                    clear B11 hb12
                    go_wp2_with fail
                    refine (H8.out _).mono ?_
                    rintro e w13 ⟨rfl, hb13⟩
                    have B13 := step_below B12 hb13 (Nat.le_refl _)
                    clear B12 hb13
                    go_wp2_with fail
                    refine (HAw.out _ (hm.below B13 (Nat.le_refl _))).mono ?_
                    rintro e we ⟨rfl, hbe⟩
                    have BE := step_below B13 hbe (Nat.le_refl _)
                    go_wp2
                    go_ret
                    exact ⟨rfl, BE⟩
              · have hd : decide (i = j) = false := decide_eq_false hij
                have hq2 : ((i : Int) == (j : Int)) = false := by simp; omega
                have gP : (y3.toList == y4.toList) = false := by rw [EP.out]; exact hd
                have gI : (y6.toList == y7.toList) = false := by rw [EI.out]; exact hd
                clear EP EI hij
                cases hA : (a.toList == b.toList)
                · have gY : (y1.toList == y5.toList) = false := by rw [HY.out, hA]; rfl
                  clear HY hd
                  go_wp2_with fail
                  refine (H2.out _).mono ?_
                  rintro e w8 ⟨rfl, hb8⟩
                  have B8 := step_below B7 hb8 (Nat.le_refl _)
                  clear B7 hb8
                  go_wp2_with fail
                  refine (H5.out _).mono ?_
                  rintro e w9 ⟨rfl, hb9⟩
                  have B9 := step_below B8 hb9 (Nat.le_refl _)
                  clear B8 hb9
                  go_wp2_with fail
                  refine (H4.out _).mono ?_
                  rintro e w10 ⟨rfl, hb10⟩
                  have B10 := step_below B9 hb10 (Nat.le_refl _)
                  clear B9 hb10
                  go_wp2_with fail
                  refine (H6.out _).mono ?_
                  rintro e w11 ⟨rfl, hb11⟩
                  have B11 := step_below B10 hb11 (Nat.le_refl _)
                  clear B10 hb11
                  go_wp2_with fail
                  refine (H7.out _).mono ?_
                  rintro e w12 ⟨rfl, hb12⟩
                  have B12 := step_below B11 hb12 (Nat.le_refl _)
                  clear B11 hb12
                  go_wp2_with fail
                  refine (H8.out _).mono ?_
                  rintro e w13 ⟨rfl, hb13⟩
                  have B13 := step_below B12 hb13 (Nat.le_refl _)
                  clear B12 hb13
                  go_wp2_with fail
                  refine (HAw.out _ (hm.below B13 (Nat.le_refl _))).mono ?_
                  rintro e we ⟨rfl, hbe⟩
                  have BE := step_below B13 hbe (Nat.le_refl _)
                  go_wp2
                  go_ret
                  exact ⟨rfl, BE⟩
                · cases hK : (k.toList == l.toList)
                  · have gY : (y1.toList == y5.toList) = false := by rw [HY.out, hA, hK]; rfl
                    clear HY hd
                    go_wp2_with fail
                    refine (H2.out _).mono ?_
                    rintro e w8 ⟨rfl, hb8⟩
                    have B8 := step_below B7 hb8 (Nat.le_refl _)
                    clear B7 hb8
                    go_wp2_with fail
                    refine (H5.out _).mono ?_
                    rintro e w9 ⟨rfl, hb9⟩
                    have B9 := step_below B8 hb9 (Nat.le_refl _)
                    clear B8 hb9
                    go_wp2_with fail
                    refine (H4.out _).mono ?_
                    rintro e w10 ⟨rfl, hb10⟩
                    have B10 := step_below B9 hb10 (Nat.le_refl _)
                    clear B9 hb10
                    go_wp2_with fail
                    refine (H6.out _).mono ?_
                    rintro e w11 ⟨rfl, hb11⟩
                    have B11 := step_below B10 hb11 (Nat.le_refl _)
                    clear B10 hb11
                    go_wp2_with fail
                    refine (H7.out _).mono ?_
                    rintro e w12 ⟨rfl, hb12⟩
                    have B12 := step_below B11 hb12 (Nat.le_refl _)
                    clear B11 hb12
                    go_wp2_with fail
                    refine (H8.out _).mono ?_
                    rintro e w13 ⟨rfl, hb13⟩
                    have B13 := step_below B12 hb13 (Nat.le_refl _)
                    clear B12 hb13
                    go_wp2_with fail
                    refine (HAw.out _ (hm.below B13 (Nat.le_refl _))).mono ?_
                    rintro e we ⟨rfl, hbe⟩
                    have BE := step_below B13 hbe (Nat.le_refl _)
                    go_wp2
                    go_ret
                    exact ⟨rfl, BE⟩
                  · have gY : (y1.toList == y5.toList) = false := by rw [HY.out, hA, hK, hd]; rfl
                    clear HY hd
                    go_wp2_with fail
                    refine (H2.out _).mono ?_
                    rintro e w8 ⟨rfl, hb8⟩
                    have B8 := step_below B7 hb8 (Nat.le_refl _)
                    clear B7 hb8
                    go_wp2_with fail
                    refine (H5.out _).mono ?_
                    rintro e w9 ⟨rfl, hb9⟩
                    have B9 := step_below B8 hb9 (Nat.le_refl _)
                    clear B8 hb9
                    go_wp2_with fail
                    refine (H4.out _).mono ?_
                    rintro e w10 ⟨rfl, hb10⟩
                    have B10 := step_below B9 hb10 (Nat.le_refl _)
                    clear B9 hb10
                    go_wp2_with fail
                    refine (H6.out _).mono ?_
                    rintro e w11 ⟨rfl, hb11⟩
                    have B11 := step_below B10 hb11 (Nat.le_refl _)
                    clear B10 hb11
                    go_wp2_with fail
                    refine (H7.out _).mono ?_
                    rintro e w12 ⟨rfl, hb12⟩
                    have B12 := step_below B11 hb12 (Nat.le_refl _)
                    clear B11 hb12
                    go_wp2_with fail
                    refine (H8.out _).mono ?_
                    rintro e w13 ⟨rfl, hb13⟩
                    have B13 := step_below B12 hb13 (Nat.le_refl _)
                    clear B12 hb13
                    go_wp2_with fail
                    refine (HAw.out _ (hm.below B13 (Nat.le_refl _))).mono ?_
                    rintro e we ⟨rfl, hbe⟩
                    have BE := step_below B13 hbe (Nat.le_refl _)
                    go_wp2
                    go_ret
                    exact ⟨rfl, BE⟩
end Go.Proofs.YtaagnckppdaljaaDoor

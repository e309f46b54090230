/-
  HttpChunks: the law's walk, where the digits are great.
-/
import Derived.Test.YtmodmeabjhaklaaGreatDoorCkW
namespace Go.Proofs.YtmodmeabjhaklaaGreatDoor
open Go.RowKit

set_option maxRecDepth 20000 in
set_option maxHeartbeats 4000000 in
theorem chunks_true (a0 : Option Addr) (X : List (List UInt8)) (cap0 : Nat) (tr : Bool) (w : World) (hX : Sls w a0 X) (hm : Mx w) (he : Er w) :
    Calls Tryz.prog 7 #[.slice a0 X.length cap0, .bool true, .bool tr] w fun e w' => e = .returned (.bool true) ∧ Below w.heap.size w w' := by
  have AW := (show Hid (∀ W, Below w.heap.size w W → Calls Tryz.prog 12 #[] W fun e w' => e = .returned (.bool true) ∧ Below w.heap.size w w') from fun W hW => (awake_any W (hm.below hW (Nat.le_refl _)) (he.below hW (Nat.le_refl _))).mono fun e w' ⟨h1, h2⟩ => ⟨h1, hW.trans (h2.mono hW.size)⟩)
  have HM : Hid (Mx w ∧ Er w) := ⟨hm, he⟩
  have HX : Hid (Sls w a0 X) := hX
  obtain ⟨nl, hnl⟩ : ∃ nl, nl = X.length := ⟨_, rfl⟩
  rw [← hnl]
  have HNL : Hid (nl = X.length) := hnl
  clear hm he hX hnl
  have hc := Lib.run_convert_bytes_const (P := Tryz.prog) w 22 5 (bcs ckHead).toArray 58 58 Tryz.underlying22 Tryz.underlying5
  have hck : (bcs ckHead).toArray = #[.int .u8 80, .int .u8 85, .int .u8 84, .int .u8 32, .int .u8 47, .int .u8 98, .int .u8 47, .int .u8 107, .int .u8 32, .int .u8 72, .int .u8 84, .int .u8 84, .int .u8 80, .int .u8 47, .int .u8 49, .int .u8 46, .int .u8 49, .int .u8 13, .int .u8 10, .int .u8 72, .int .u8 111, .int .u8 115, .int .u8 116, .int .u8 58, .int .u8 32, .int .u8 97, .int .u8 13, .int .u8 10, .int .u8 84, .int .u8 114, .int .u8 97, .int .u8 110, .int .u8 115, .int .u8 102, .int .u8 101, .int .u8 114, .int .u8 45, .int .u8 69, .int .u8 110, .int .u8 99, .int .u8 111, .int .u8 100, .int .u8 105, .int .u8 110, .int .u8 103, .int .u8 58, .int .u8 32, .int .u8 67, .int .u8 104, .int .u8 117, .int .u8 110, .int .u8 107, .int .u8 101, .int .u8 100, .int .u8 13, .int .u8 10, .int .u8 13, .int .u8 10] := by kernel_rfl
  rw [hck] at hc
  go_enter Tryz.func7, Tryz.ntmps7
  go_upto_region 6 with fail
  obtain ⟨D, hD⟩ : ∃ D : ByteArray, D = ⟨#[48, 49, 50, 51, 52, 53, 54, 55, 56, 57, 65, 66, 67, 68, 69, 70]⟩ := ⟨_, rfl⟩
  rw [← hD]
  have HD : Hid (D.data.toList = digT true) := by rw [hD]; exact rfl
  have hDz : D.size = 16 := by rw [hD]; rfl
  clear hD hck
  obtain ⟨W0, hW0⟩ : ∃ W0, W0 = w.alloc (.cells #[.int .u8 80, .int .u8 85, .int .u8 84, .int .u8 32, .int .u8 47, .int .u8 98, .int .u8 47, .int .u8 107, .int .u8 32, .int .u8 72, .int .u8 84, .int .u8 84, .int .u8 80, .int .u8 47, .int .u8 49, .int .u8 46, .int .u8 49, .int .u8 13, .int .u8 10, .int .u8 72, .int .u8 111, .int .u8 115, .int .u8 116, .int .u8 58, .int .u8 32, .int .u8 97, .int .u8 13, .int .u8 10, .int .u8 84, .int .u8 114, .int .u8 97, .int .u8 110, .int .u8 115, .int .u8 102, .int .u8 101, .int .u8 114, .int .u8 45, .int .u8 69, .int .u8 110, .int .u8 99, .int .u8 111, .int .u8 100, .int .u8 105, .int .u8 110, .int .u8 103, .int .u8 58, .int .u8 32, .int .u8 67, .int .u8 104, .int .u8 117, .int .u8 110, .int .u8 107, .int .u8 101, .int .u8 100, .int .u8 13, .int .u8 10, .int .u8 13, .int .u8 10] 5 (58, 59)) := ⟨_, rfl⟩
  rw [← hW0]
  have HG0 : Hid (Gr w W0 true X 0 (.slice (some ⟨w.heap.size, 0, none⟩) 58 58) (.slice none 0 0)) := by
    rw [hW0]
    refine ⟨.inr ⟨w.heap.size, (58, 59), rfl, Nat.le_refl _, ?_⟩, World.ownsRow_nil _ _ _ _, (fun k _ h => by cases h), (Below.refl _ _).alloc (Nat.le_refl _) _⟩
    rw [heap_alloc_new]
    have : (bcs (ckHead ++ chT true X 0)).toArray = #[.int .u8 80, .int .u8 85, .int .u8 84, .int .u8 32, .int .u8 47, .int .u8 98, .int .u8 47, .int .u8 107, .int .u8 32, .int .u8 72, .int .u8 84, .int .u8 84, .int .u8 80, .int .u8 47, .int .u8 49, .int .u8 46, .int .u8 49, .int .u8 13, .int .u8 10, .int .u8 72, .int .u8 111, .int .u8 115, .int .u8 116, .int .u8 58, .int .u8 32, .int .u8 97, .int .u8 13, .int .u8 10, .int .u8 84, .int .u8 114, .int .u8 97, .int .u8 110, .int .u8 115, .int .u8 102, .int .u8 101, .int .u8 114, .int .u8 45, .int .u8 69, .int .u8 110, .int .u8 99, .int .u8 111, .int .u8 100, .int .u8 105, .int .u8 110, .int .u8 103, .int .u8 58, .int .u8 32, .int .u8 67, .int .u8 104, .int .u8 117, .int .u8 110, .int .u8 107, .int .u8 101, .int .u8 100, .int .u8 13, .int .u8 10, .int .u8 13, .int .u8 10] := by rw [chT, List.append_nil]; kernel_rfl
    rw [this]
  clear hc hW0
  go_wp2
  go_loopw [7, 8, 10] (fun sv av iv wr => ∃ i : Nat, i ≤ nl ∧ i ≤ 20 ∧ iv = .int .i64 i ∧ Gr w wr true X i sv av) (fun _ _ iv _ => nl - (intOf iv).toNat)
  case atStart => exact ⟨0, Nat.zero_le _, by omega, rfl, HG0.out⟩
  case round =>
    obtain ⟨i, hi, hi20, rfl, hg⟩ := hrel
    have HG := (show Hid (Gr w wr true X i _ _) from hg)
    by_cases hlt : i < nl
    · by_cases hlt20 : i < 20
      · obtain ⟨g, off, ai, ci, ha0, hC⟩ := sls_at HX.out (i := i) (by rw [← HNL.out]; exact hlt)
        subst ha0
        obtain ⟨p, hp⟩ : ∃ p, p = X[i]'(by rw [← HNL.out]; exact hlt) := ⟨_, rfl⟩
        rw [← hp] at hC
        obtain ⟨n, hn⟩ : ∃ n, n = p.length := ⟨_, rfl⟩
        rw [← hn] at hC
        have HC := (show Hid _ from hC)
        have HP := (show Hid _ from hp)
        have HN : Hid (n = p.length) := hn
        have c1 := (HC.out wr HG.out.below).1
        have HSK := (show Hid (okP p = false → Gr w wr true X (i + 1) _ _) from fun h => HG.out.skip (by rw [← HNL.out]; exact hlt) (by rw [← HP.out]; exact h))
        have hwi : IntKind.i64.wrap ((i : Int) + 1) = (i : Int) + 1 := by rw [IntKind.wrap_i64]; omega
        clear hC hp hn hg
        by_cases hn0 : n = 0
        · have hsk := HSK.out (by rw [okP, decide_eq_false]; have := HN.out; omega)
          subst hn0
          clear HSK
          go_wp2
          exact ⟨⟨i + 1, by omega, by omega, by go_num, hsk⟩, by simp [intOf]; omega⟩
        · by_cases hn3 : 300 < n
          · have hsk := HSK.out (by rw [okP, decide_eq_false]; have := HN.out; omega)
            clear HSK
            go_wp2
            exact ⟨⟨i + 1, by omega, by omega, by go_num, hsk⟩, by simp [intOf]; omega⟩
          · clear HSK
            have hby := (HC.out wr HG.out.below).2
            obtain ⟨ad, rfl⟩ : ∃ ad, ai = some ad := by
              rcases hby with h | ⟨b, o, h, _⟩
              · exact absurd HN.out (by rw [h]; simpa using hn0)
              · exact ⟨_, h⟩
            clear hby
            obtain ⟨q1, hq1⟩ : ∃ q, q = n / 256 := ⟨_, rfl⟩
            obtain ⟨q0, hq0⟩ : ∃ q, q = n / 16 := ⟨_, rfl⟩
            obtain ⟨q2, hq2⟩ : ∃ q, q = q0 % 16 := ⟨_, rfl⟩
            obtain ⟨q3, hq3⟩ : ∃ q, q = n % 16 := ⟨_, rfl⟩
            have e1 : (n : Int) / 256 = (q1 : Int) := by omega
            have e0 : (n : Int) / 16 = (q0 : Int) := by omega
            have e2 : (q0 : Int) % 16 = (q2 : Int) := by omega
            have e3 : (n : Int) % 16 = (q3 : Int) := by omega
            have b1 : q1 < D.size := by omega
            have b2 : q2 < D.size := by omega
            have b3 : q3 < D.size := by omega
            have b1' : q1 < 16 := by omega
            have b2' : q2 < 16 := by omega
            have b3' : q3 < 16 := by omega
            have b1i : (q1 : Int) < 16 := by omega
            have b2i : (q2 : Int) < 16 := by omega
            have b3i : (q3 : Int) < 16 := by omega
            have w1 : IntKind.i64.wrap (q1 : Int) = (q1 : Int) := by rw [IntKind.wrap_i64]; omega
            have w0 : IntKind.i64.wrap (q0 : Int) = (q0 : Int) := by rw [IntKind.wrap_i64]; omega
            have t2 : (q0 : Int).tmod 16 = (q2 : Int) := by rw [Int.tmod_eq_emod_of_nonneg (by omega)]; exact e2
            have t3 : (n : Int).tmod 16 = (q3 : Int) := by rw [Int.tmod_eq_emod_of_nonneg (by omega)]; exact e3
            have HQ : Hid (q1 = n / 256 ∧ q2 = n / 16 % 16 ∧ q3 = n % 16) := ⟨hq1, by rw [hq2, hq0], hq3⟩
            obtain ⟨sa, sc, hsv⟩ := HG.out.s.slice
            obtain ⟨L, hL⟩ : ∃ L, L = ckHead ++ chT true X i := ⟨_, rfl⟩
            obtain ⟨B, hB⟩ : ∃ B, B = chB X i := ⟨_, rfl⟩
            have HG1 := (show Hid (Gs w wr L B _ _) from by show Gs _ _ _ _ _ _; rw [hL, hB]; exact HG.out)
            have HL : Hid (L = ckHead ++ chT true X i ∧ B = chB X i) := ⟨hL, hB⟩
            obtain ⟨sn, hsn⟩ : ∃ sn, sn = L.length := ⟨_, rfl⟩
            rw [← hL] at hsv
            rw [← hsn] at hsv
            have HSN : Hid (sn = L.length) := hsn
            subst hsv
            have z0 : ((n : Int) == 0) = false := by rw [beq_eq_false_iff_ne]; omega
            have hsl : sn ≤ 7000 := by
              have := ck_len true X i
              rw [hsn, hL, List.length_append]
              have hh : ckHead.length = 58 := by decide
              omega
            have HBl : Hid (B.length ≤ 6000) := by
              show _ ≤ _
              rw [hB]
              have := chB_len X i
              omega
            have HLl : Hid (L.length ≤ 7000) := by show _ ≤ _; omega
            have HLn : Hid ((chLine true i n).length ≤ 7) := (ch_line true i n (by omega)).2.2
            have hp0 : 0 < n := by omega
            have hp3 : n ≤ 300 := by omega
            have HP0 : Hid (n ≠ 0 ∧ n ≤ 300) := ⟨hn0, hp3⟩
            clear hq1 hq0 hq2 hq3 hsn hL hB HG HX
            go_upto_region 11 with fail
            have ht20 : decide ((i : Int) < 20) = true := decide_eq_true (by omega)
            rw [ht20]
            go_cut [7] from 38 to 53 (fun v wc => Gs w wc (L ++ [D[q1], D[q2], D[q3]]) B v u8)
            case first =>
              have HGS : Hid (Ob wr w.heap.size (.slice sa sn sc) L) := HG1.out.s
              have hbw : w.heap.size ≤ wr.heap.size := HG1.out.below.size
              have HFIN := (show Hid (∀ w1 v1, ApK ((wr.alloc (.cells #[.int .u8 (D[q1].toNat : Int), .int .u8 (D[q2].toNat : Int), .int .u8 (D[q3].toNat : Int)] 5)).drew) w1 w.heap.size (.slice sa sn sc) v1 L (L ++ [D[q1], D[q2], D[q3]]) → Gs w w1 (L ++ [D[q1], D[q2], D[q3]]) B v1 _) from fun w1 v1 k => Gs.step HG1.out (((Below.refl _ wr).alloc (Nat.le_refl _) _).drew) k)
              go_region_held3 (fun _ => True) (trivial)
                (first | (refine step_apk_sl rfl (.tmp 38) (.tmp 52) rfl w.heap.size _ _ rfl (Ob.drew (Ob.alloc HGS.out _)) ⟨wr.heap.size, 0, none⟩ [D[q1], D[q2], D[q3]] 3 3 rfl rfl (by rw [← HSN.out]; omega) (by decide) (by decide) (new_three wr D[q1] D[q2] D[q3] _ _ _ rfl rfl rfl) (by simp; omega) ?_; intro v1 w1 hk1; have hg1 := HFIN.out w1 v1 hk1; clear hk1))
              all_goals
                go_wp2
                go_meet
                case rel => exact hg1
            case rest =>
              have HG2 : Hid (Gs w wc (L ++ [D[q1], D[q2], D[q3]]) B u7 u8) := hcut
              obtain ⟨sa2, sc2, hsv2⟩ := HG2.out.s.slice
              clear hcut
              obtain ⟨sn2, hsn2⟩ : ∃ sn2, sn2 = (L ++ [D[q1], D[q2], D[q3]]).length := ⟨_, rfl⟩
              rw [← hsn2] at hsv2
              subst hsv2
              clear hsn2
              have HCH : Hid ([D[q1], D[q2], D[q3]] ++ (if i % 2 = 1 then pXy else []) = chLine true i n) := by
                show _ = _
                rw [chLine, ← getD_at HD.out b1, ← getD_at HD.out b2, ← getD_at HD.out b3, HQ.out.1, HQ.out.2.1, HQ.out.2.2]
              clear e0 e1 e2 e3 w0 w1 t2 t3 b1' b2' b3' b1i b2i b3i z0 c1
              obtain ⟨ba, bc, hbv⟩ := own_slice HG2.out.a
              obtain ⟨bn, hbn⟩ : ∃ bn, bn = B.length := ⟨_, rfl⟩
              rw [← hbn] at hbv
              subst hbv
              clear hbn
              have HPl : Hid (p.length = n) := HN.out.symm
              by_cases hodd : i % 2 = 1
              · have o1 : ((i : Int) % 2 == 1) = true := by simp; omega
                have o2 : (((i : Int).tmod 2) == 1) = true := by rw [Int.tmod_eq_emod_of_nonneg (by omega)]; exact o1
                have HE : Hid ((L ++ [D[q1], D[q2], D[q3]]) ++ pXy = L ++ chLine true i n) := by
                  show _ = _
                  rw [← HCH.out, if_pos hodd, List.append_assoc]
                clear hodd
                go_wp2_with (first
                  | (at_builtin; refine wpList_apk_str rfl (.tmp 57) (.const (.string ⟨#[59, 120, 61, 121]⟩)) rfl w.heap.size _ _ rfl HG2.out.s ⟨#[59, 120, 61, 121]⟩ rfl pXy rfl (by have := HLl.out; simp only [List.length_append, List.length_cons, List.length_nil]; omega) (by decide) (by decide) HG2.out.below.size ?_; intro v3 w3 hk3; rw [HE.out] at hk3; have HG3 := (show Hid (Gs _ _ _ _ _ _) from Gs.step HG2.out (Below.refl _ _) hk3); clear hk3)
                  | (at_builtin; refine wpList_apk_sl rfl (.tmp 59) (.tmp 60) rfl w.heap.size _ _ rfl (Ob.alloc HG3.out.s _) ⟨w3.heap.size, 0, none⟩ [13, 10] 2 2 rfl rfl (by have := HLl.out; have := HLn.out; rw [List.length_append]; omega) (by decide) (by decide) (new_two w3 13 10 _ _ rfl rfl) (by have := HG3.out.below.size; simp; omega) ?_; intro v4 w4 hk4; have HG4 := (show Hid (Gs _ _ _ _ _ _) from Gs.step HG3.out ((Below.refl _ w3).alloc (Nat.le_refl _) _) hk4); have c4 := (HC.out w4 HG4.out.below).1; clear hk4)
                  | (at_builtin; refine wpList_apk_sl rfl (.tmp 62) (.tmp 66) rfl w.heap.size _ _ rfl HG4.out.s ad p n ci rfl HN.out (by have := HLl.out; have := HLn.out; simp only [List.length_append, List.length_cons, List.length_nil]; omega) (by have := HP0.out; omega) (by have := HP0.out; omega) (bytes_news (HC.out w4 HG4.out.below).2) HG4.out.below.size ?_; intro v5 w5 hk5; have HG5 := (show Hid (Gs _ _ _ _ _ _) from Gs.step HG4.out (Below.refl _ _) hk5); clear hk5)
                  | (at_builtin; refine wpList_apk_sl rfl (.tmp 68) (.tmp 69) rfl w.heap.size _ _ rfl (Ob.alloc HG5.out.s _) ⟨w5.heap.size, 0, none⟩ [13, 10] 2 2 rfl rfl (by have := HLl.out; have := HLn.out; have := HPl.out; have := HP0.out; simp only [List.length_append, List.length_cons, List.length_nil]; omega) (by decide) (by decide) (new_two w5 13 10 _ _ rfl rfl) (by have := HG5.out.below.size; simp; omega) ?_; intro v6 w6 hk6; have HG6 := (show Hid (Gs _ _ _ _ _ _) from Gs.step HG5.out ((Below.refl _ w5).alloc (Nat.le_refl _) _) hk6); have c6 := (HC.out w6 HG6.out.below).1; clear hk6 c4)
                  | (at_builtin; refine wpList_apk_sl rfl (.tmp 71) (.tmp 75) rfl w.heap.size _ _ rfl (Or.inl HG6.out.a) ad p n ci rfl HN.out (by have := HBl.out; omega) (by have := HP0.out; omega) (by have := HP0.out; omega) (bytes_news (HC.out w6 HG6.out.below).2) HG6.out.below.size ?_; intro v7 w7 hk7; have HG7 := (show Hid (Gs _ _ _ _ _ _) from Gs.stepA HG6.out (Below.refl _ _) hk7); clear hk7))
                have hfin : Gr w w7 true X (i + 1) v6 v7 := by
                  have hx : i < X.length := by rw [← HNL.out]; exact hlt
                  obtain ⟨n1, n2⟩ := next_eq (up := true) hx HP.out (by rw [HPl.out]; exact HP0.out.1) (by rw [HPl.out]; exact HP0.out.2)
                  unfold Gr
                  rw [n1, n2, ← HL.out.1, ← HL.out.2, HPl.out]
                  exact HG7.out
                exact ⟨⟨i + 1, by omega, by omega, by go_num, hfin⟩, by simp [intOf]; omega⟩
              · have o1 : ((i : Int) % 2 == 1) = false := by simp; omega
                have o2 : (((i : Int).tmod 2) == 1) = false := by rw [Int.tmod_eq_emod_of_nonneg (by omega)]; exact o1
                have hg3 := HG2.out
                have HE : Hid (L ++ [D[q1], D[q2], D[q3]] = L ++ chLine true i n) := by
                  show _ = _
                  rw [← HCH.out, if_neg hodd, List.append_nil]
                rw [HE.out] at hg3
                have HG3 : Hid (Gs _ _ _ _ _ _) := hg3
                clear hg3 hodd
                go_wp2_with (first
                  | (at_builtin; refine wpList_apk_sl rfl (.tmp 59) (.tmp 60) rfl w.heap.size _ _ rfl (Ob.alloc HG3.out.s _) ⟨wc.heap.size, 0, none⟩ [13, 10] 2 2 rfl rfl (by have := HLl.out; have := HLn.out; rw [List.length_append]; omega) (by decide) (by decide) (new_two wc 13 10 _ _ rfl rfl) (by have := HG3.out.below.size; simp; omega) ?_; intro v4 w4 hk4; have HG4 := (show Hid (Gs _ _ _ _ _ _) from Gs.step HG3.out ((Below.refl _ wc).alloc (Nat.le_refl _) _) hk4); have c4 := (HC.out w4 HG4.out.below).1; clear hk4)
                  | (at_builtin; refine wpList_apk_sl rfl (.tmp 62) (.tmp 66) rfl w.heap.size _ _ rfl HG4.out.s ad p n ci rfl HN.out (by have := HLl.out; have := HLn.out; simp only [List.length_append, List.length_cons, List.length_nil]; omega) (by have := HP0.out; omega) (by have := HP0.out; omega) (bytes_news (HC.out w4 HG4.out.below).2) HG4.out.below.size ?_; intro v5 w5 hk5; have HG5 := (show Hid (Gs _ _ _ _ _ _) from Gs.step HG4.out (Below.refl _ _) hk5); clear hk5)
                  | (at_builtin; refine wpList_apk_sl rfl (.tmp 68) (.tmp 69) rfl w.heap.size _ _ rfl (Ob.alloc HG5.out.s _) ⟨w5.heap.size, 0, none⟩ [13, 10] 2 2 rfl rfl (by have := HLl.out; have := HLn.out; have := HPl.out; have := HP0.out; simp only [List.length_append, List.length_cons, List.length_nil]; omega) (by decide) (by decide) (new_two w5 13 10 _ _ rfl rfl) (by have := HG5.out.below.size; simp; omega) ?_; intro v6 w6 hk6; have HG6 := (show Hid (Gs _ _ _ _ _ _) from Gs.step HG5.out ((Below.refl _ w5).alloc (Nat.le_refl _) _) hk6); have c6 := (HC.out w6 HG6.out.below).1; clear hk6 c4)
                  | (at_builtin; refine wpList_apk_sl rfl (.tmp 71) (.tmp 75) rfl w.heap.size _ _ rfl (Or.inl HG6.out.a) ad p n ci rfl HN.out (by have := HBl.out; omega) (by have := HP0.out; omega) (by have := HP0.out; omega) (bytes_news (HC.out w6 HG6.out.below).2) HG6.out.below.size ?_; intro v7 w7 hk7; have HG7 := (show Hid (Gs _ _ _ _ _ _) from Gs.stepA HG6.out (Below.refl _ _) hk7); clear hk7))
                have hfin : Gr w w7 true X (i + 1) v6 v7 := by
                  have hx : i < X.length := by rw [← HNL.out]; exact hlt
                  obtain ⟨n1, n2⟩ := next_eq (up := true) hx HP.out (by rw [HPl.out]; exact HP0.out.1) (by rw [HPl.out]; exact HP0.out.2)
                  unfold Gr
                  rw [n1, n2, ← HL.out.1, ← HL.out.2, HPl.out]
                  exact HG7.out
                exact ⟨⟨i + 1, by omega, by omega, by go_num, hfin⟩, by simp [intOf]; omega⟩
      · clear hi
        have HI : Hid (i ≤ 20) := hi20
        have hLl : (ckHead ++ chT true X i).length ≤ 7000 := by
          have := ck_len true X i
          have hh : ckHead.length = 58 := by decide
          rw [List.length_append]
          omega
        obtain ⟨L, hL⟩ : ∃ L, L = ckHead ++ chT true X i := ⟨_, rfl⟩
        obtain ⟨B, hB⟩ : ∃ B, B = chB X i := ⟨_, rfl⟩
        have HBl : Hid (B.length ≤ 6000) := by
          show _ ≤ _
          rw [hB]
          have := chB_len X i
          omega
        rw [← hL] at hLl
        have HLl := (show Hid _ from hLl)
        have HG1 := (show Hid (Gs w wr L B _ _) from by show Gs _ _ _ _ _ _; rw [hL, hB]; exact hg)
        have HLB : Hid (L = ckHead ++ chT true X i ∧ B = chB X i) := ⟨hL, hB⟩
        obtain ⟨ba, bc, hbv⟩ := own_slice HG1.out.a
        obtain ⟨bn, hbn⟩ : ∃ bn, bn = B.length := ⟨_, rfl⟩
        rw [← hbn] at hbv
        have HBn : Hid (bn = B.length) := hbn
        subst hbv
        clear hLl hL hB hbn hg HG hi20 HX HNL
        cases tr
        · obtain ⟨T, hT⟩ : ∃ T, T = L ++ [48, 13, 10] := ⟨_, rfl⟩
          have hT2 : T = ckT true false X i := by rw [hT, HLB.out.1, ckT_no]
          have HT : Hid (T = L ++ [48, 13, 10]) := hT
          have hTl : T.length ≤ 7000 := by rw [hT2]; exact ckT_len true false X HI.out
          obtain ⟨m, t, hp1⟩ := parse_chunks true false X HI.out hT2
          have hp2 : parseL T = .more := by rw [hT2]; exact chunks_wait true false X i HI.out
          rw [← HLB.out.2] at hp1
          obtain ⟨tn, htn⟩ : ∃ tn, tn = T.length := ⟨_, rfl⟩
          have HTN : Hid (tn = T.length ∧ T.length ≤ 7000) := ⟨htn, hTl⟩
          have htn7 : tn ≤ 7000 := by omega
          have hwu : IntKind.i64.wrap ((tn : Int) + 2) = (tn : Int) + 2 := by rw [IntKind.wrap_i64]; omega
          have HP1 := (show Hid _ from hp1)
          have HP2 := (show Hid _ from hp2)
          clear hT hT2 hTl hp1 hp2 htn
          go_wp2_with (first
              | (at_builtin; refine wpList_apk_str rfl (.tmp 77) (.const (.string ⟨#[48, 13, 10]⟩)) rfl w.heap.size _ _ rfl HG1.out.s ⟨#[48, 13, 10]⟩ rfl [48, 13, 10] rfl (by have := HLl.out; omega) (by decide) (by decide) HG1.out.below.size ?_; intro v3 w3 hk3; have HG3 := (show Hid (Gs w w3 T B v3 _) from (by show Gs _ _ _ _ _ _; rw [HT.out]; exact (Gs.step HG1.out (Below.refl _ _) hk3))); have HO3 : Hid (Own w3 w.heap.size v3 T) := (by show Own _ _ _ _; rw [HT.out]; exact hk3.own); clear hk3; obtain ⟨a3, c3, hv3⟩ := own_slice HO3.out; rw [← HTN.out.1] at hv3; subst hv3)
              | (at_builtin; refine wpList_apk_sl rfl (.tmp 82) (.tmp 83) rfl w.heap.size _ _ rfl (Ob.alloc HG3.out.s _) ⟨w3.heap.size, 0, none⟩ [13, 10] 2 2 rfl rfl (by have := HTN.out.2; omega) (by decide) (by decide) (new_two w3 13 10 _ _ rfl rfl) (by have := HG3.out.below.size; simp; omega) ?_; intro v4 w4 hk4; have HG4 := (show Hid (Gs _ _ _ _ _ _) from Gs.step HG3.out ((Below.refl _ w3).alloc (Nat.le_refl _) _) hk4); have HO4 := (show Hid (Own _ _ _ _) from hk4.own); have HY4 := (show Hid (Bytes w4 a3 T) from hk4.old _ _ _ rfl); have HS4 := (show Hid (w3.heap.size ≤ w4.heap.size) from (by show w3.heap.size ≤ w4.heap.size; have := hk4.grown.size; simp at this; omega)); clear hk4))
          obtain ⟨a4, c4, rfl⟩ := own_slice HO4.out
          obtain ⟨-, hlc4, hB4, hab4, han4⟩ := own_args HO4.out
          have K1 := (show Hid _ from parse_any a4 (T ++ [13, 10]) c4 w4 hlc4 hB4 hab4 han4 (by have := HTN.out.2; simp only [List.length_append, List.length_cons, List.length_nil]; omega) (HM.out.1.below HG4.out.below (Nat.le_refl _)) (HM.out.2.below HG4.out.below (Nat.le_refl _)))
          rw [HP1.out] at K1
          clear hlc4 hB4 hab4 han4
          refine Calls.mono K1.out ?_
          rintro e w5 ⟨T1, rfl, ⟨hv, bv, rfl, ho1, ho2⟩, hb5⟩
          obtain ⟨hx, hz, rfl⟩ := own_slice ho1
          obtain ⟨bx, bz, hbx, hby⟩ := Own.bytes ho2
          rw [← HBn.out] at hbx
          subst hbx
          obtain ⟨u, hu⟩ : ∃ u : Int, u = ((T.length + 2 : Nat) : Int) := ⟨_, rfl⟩
          have hu2 : (u == (tn : Int) + 2) = true := by
            have := HTN.out.1
            rw [beq_iff_eq]
            omega
          have HB5 := (show Hid (Below w4.heap.size w4 w5) from hb5)
          have HY5 := (show Hid (Bytes w5 bx B) from hby)
          rw [← hu, show ckHs.length = 2 from rfl]
          simp only [Tl.v]
          clear hu ho1 ho2 hby hb5 K1
          go_upto_region 22 with fail
          obtain ⟨W1, hW1⟩ : ∃ W1, W1 = w5.alloc (.cells #[.int .i64 2, .int .i64 u, .string ⟨m.toArray⟩, .string ⟨t.toArray⟩, .slice hx 2 hz, .slice bx bn bz, .int .i64 0, .bool false, .bool false] 29) := ⟨_, rfl⟩
          rw [← hW1]
          obtain ⟨N1, hN1⟩ : ∃ N1, N1 = w5.heap.size := ⟨_, rfl⟩
          rw [← hN1]
          have HN1 : Hid (W1.heap[N1]? = some (.cells #[.int .i64 2, .int .i64 u, .string ⟨m.toArray⟩, .string ⟨t.toArray⟩, .slice hx 2 hz, .slice bx bn bz, .int .i64 0, .bool false, .bool false] 29 (0, 0))) := by rw [hW1, hN1]; exact heap_alloc_new w5 _
          have HBW1 : Hid (Below w4.heap.size w4 W1 ∧ Below w5.heap.size w5 W1) := by
            rw [hW1]
            exact ⟨HB5.out.alloc HB5.out.size _, (Below.refl _ _).alloc (Nat.le_refl _) _⟩
          clear hW1 hN1
          obtain ⟨-, hlc3, -, hab3, han3⟩ := own_args HO3.out
          have hbW : Below w.heap.size w W1 := HG4.out.below.trans (HBW1.out.1.mono HG4.out.below.size)
          have K2 := (show Hid _ from parse_any a3 T c3 W1 hlc3 (HY4.out.below HBW1.out.1 (Nat.le_refl _)) (fun x hx => ⟨(hab3 x hx).1, Nat.lt_of_lt_of_le (hab3 x hx).2 (Nat.le_trans HS4.out HBW1.out.1.size)⟩) han3 (by have := HTN.out.2; omega) (HM.out.1.below hbW (Nat.le_refl _)) (HM.out.2.below hbW (Nat.le_refl _)))
          rw [HP2.out, ← HTN.out.1] at K2
          clear hlc3 hab3 han3 hbW
          go_wp2_with fail
          refine Calls.mono K2.out ?_
          rintro e w6 ⟨T2, rfl, ht2, hb6⟩
          obtain rfl : T2 = moreT := ht2
          have HB6 := (show Hid (Below W1.heap.size W1 w6) from hb6)
          simp only [Tl.v, moreT]
          clear hb6 K2
          go_upto_region 23 with fail
          obtain ⟨W2, hW2⟩ : ∃ W2, W2 = w6.alloc (.cells #[.int .i64 1, .int .i64 0, .string ⟨#[]⟩, .string ⟨#[]⟩, .slice none 0 0, .slice none 0 0, .int .i64 0, .bool false, .bool false] 29) := ⟨_, rfl⟩
          rw [← hW2]
          obtain ⟨N2, hN2⟩ : ∃ N2, N2 = w6.heap.size := ⟨_, rfl⟩
          rw [← hN2]
          have n2 : W2.heap[N2]? = some (.cells #[.int .i64 1, .int .i64 0, .string ⟨#[]⟩, .string ⟨#[]⟩, .slice none 0 0, .slice none 0 0, .int .i64 0, .bool false, .bool false] 29 (0, 0)) := by rw [hW2, hN2]; exact heap_alloc_new w6 _
          have hb62 : Below w6.heap.size w6 W2 := by rw [hW2]; exact (Below.refl _ _).alloc (Nat.le_refl _) _
          have hb12 : Below W1.heap.size W1 W2 := HB6.out.trans (hb62.mono HB6.out.size)
          have n1 : W2.heap[N1]? = some (.cells #[.int .i64 2, .int .i64 u, .string ⟨m.toArray⟩, .string ⟨t.toArray⟩, .slice hx 2 hz, .slice bx bn bz, .int .i64 0, .bool false, .bool false] 29 (0, 0)) := (hb12.block N1 (blk_lt HN1.out)).trans HN1.out
          have hb42 : Below w4.heap.size w4 W2 := HBW1.out.1.trans (hb12.mono HBW1.out.1.size)
          have hb52 : Below w5.heap.size w5 W2 := HBW1.out.2.trans (hb12.mono HBW1.out.2.size)
          have hcb : (convert 22 9 (.slice bx bn bz)).run Tryz.prog W2 = .ok (.string ⟨B.toArray⟩) W2 := by
            rw [HBn.out]
            exact convert_bytes W2 bx bz B (HY5.out.below hb52 (Nat.le_refl _))
          have hca : (convert 22 9 (.slice ba bn bc)).run Tryz.prog W2 = .ok (.string ⟨B.toArray⟩) W2 := by
            have ho := own_below HG4.out.a hb42
            obtain ⟨a', c', e, hy⟩ := Own.bytes ho
            simp only [Value.slice.injEq] at e
            obtain ⟨rfl, -, rfl⟩ := e
            rw [HBn.out]
            exact convert_bytes W2 ba bc B hy
          have AW2 := (show Hid _ from AW.out W2 (HG4.out.below.trans (hb42.mono HG4.out.below.size)))
          clear hW2 hN2 hb62 hb12 hb42 hb52
          obtain ⟨x0, x1, x2, x3, x4, x5, x6, x7, x8⟩ := nine9 n1
          obtain ⟨y0, -, -, -, -, -, -, -, -⟩ := nine9 n2
          clear n1 n2
          go_wp2_with (go_at_call 12; refine Calls.mono AW2.out ?_; rintro e w9 ⟨rfl, hb9⟩)
          go_ret
          exact ⟨rfl, hb9⟩
        · obtain ⟨T, hT⟩ : ∃ T, T = L ++ [48, 13, 10] ++ [120, 45, 115, 117, 109, 58, 32, 49, 13, 10] := ⟨_, rfl⟩
          have hT2 : T = ckT true true X i := by rw [hT, HLB.out.1, ckT_yes]
          have HT : Hid (T = L ++ [48, 13, 10] ++ [120, 45, 115, 117, 109, 58, 32, 49, 13, 10]) := hT
          have hTl : T.length ≤ 7000 := by rw [hT2]; exact ckT_len true true X HI.out
          obtain ⟨m, t, hp1⟩ := parse_chunks true true X HI.out hT2
          have hp2 : parseL T = .more := by rw [hT2]; exact chunks_wait true true X i HI.out
          rw [← HLB.out.2] at hp1
          obtain ⟨tn, htn⟩ : ∃ tn, tn = T.length := ⟨_, rfl⟩
          have HTN : Hid (tn = T.length ∧ T.length ≤ 7000) := ⟨htn, hTl⟩
          have htn7 : tn ≤ 7000 := by omega
          have hwu : IntKind.i64.wrap ((tn : Int) + 2) = (tn : Int) + 2 := by rw [IntKind.wrap_i64]; omega
          have HP1 := (show Hid _ from hp1)
          have HP2 := (show Hid _ from hp2)
          clear hT hT2 hTl hp1 hp2 htn
          go_wp2_with (first
              | (at_builtin; refine wpList_apk_str rfl (.tmp 77) (.const (.string ⟨#[48, 13, 10]⟩)) rfl w.heap.size _ _ rfl HG1.out.s ⟨#[48, 13, 10]⟩ rfl [48, 13, 10] rfl (by have := HLl.out; omega) (by decide) (by decide) HG1.out.below.size ?_; intro v2 w2 hk2; have HG2 := (show Hid (Gs _ _ _ _ _ _) from Gs.step HG1.out (Below.refl _ _) hk2); clear hk2)
              | (at_builtin; refine wpList_apk_str rfl (.tmp 80) (.const (.string ⟨#[120, 45, 115, 117, 109, 58, 32, 49, 13, 10]⟩)) rfl w.heap.size _ _ rfl HG2.out.s ⟨#[120, 45, 115, 117, 109, 58, 32, 49, 13, 10]⟩ rfl [120, 45, 115, 117, 109, 58, 32, 49, 13, 10] rfl (by have := HLl.out; simp only [List.length_append, List.length_cons, List.length_nil]; omega) (by decide) (by decide) HG2.out.below.size ?_; intro v3 w3 hk3; have HG3 := (show Hid (Gs w w3 T B v3 _) from (by show Gs _ _ _ _ _ _; rw [HT.out]; exact (Gs.step HG2.out (Below.refl _ _) hk3))); have HO3 : Hid (Own w3 w.heap.size v3 T) := (by show Own _ _ _ _; rw [HT.out]; exact hk3.own); clear hk3; obtain ⟨a3, c3, hv3⟩ := own_slice HO3.out; rw [← HTN.out.1] at hv3; subst hv3)
              | (at_builtin; refine wpList_apk_sl rfl (.tmp 82) (.tmp 83) rfl w.heap.size _ _ rfl (Ob.alloc HG3.out.s _) ⟨w3.heap.size, 0, none⟩ [13, 10] 2 2 rfl rfl (by have := HTN.out.2; omega) (by decide) (by decide) (new_two w3 13 10 _ _ rfl rfl) (by have := HG3.out.below.size; simp; omega) ?_; intro v4 w4 hk4; have HG4 := (show Hid (Gs _ _ _ _ _ _) from Gs.step HG3.out ((Below.refl _ w3).alloc (Nat.le_refl _) _) hk4); have HO4 := (show Hid (Own _ _ _ _) from hk4.own); have HY4 := (show Hid (Bytes w4 a3 T) from hk4.old _ _ _ rfl); have HS4 := (show Hid (w3.heap.size ≤ w4.heap.size) from (by show w3.heap.size ≤ w4.heap.size; have := hk4.grown.size; simp at this; omega)); clear hk4))
          obtain ⟨a4, c4, rfl⟩ := own_slice HO4.out
          obtain ⟨-, hlc4, hB4, hab4, han4⟩ := own_args HO4.out
          have K1 := (show Hid _ from parse_any a4 (T ++ [13, 10]) c4 w4 hlc4 hB4 hab4 han4 (by have := HTN.out.2; simp only [List.length_append, List.length_cons, List.length_nil]; omega) (HM.out.1.below HG4.out.below (Nat.le_refl _)) (HM.out.2.below HG4.out.below (Nat.le_refl _)))
          rw [HP1.out] at K1
          clear hlc4 hB4 hab4 han4
          refine Calls.mono K1.out ?_
          rintro e w5 ⟨T1, rfl, ⟨hv, bv, rfl, ho1, ho2⟩, hb5⟩
          obtain ⟨hx, hz, rfl⟩ := own_slice ho1
          obtain ⟨bx, bz, hbx, hby⟩ := Own.bytes ho2
          rw [← HBn.out] at hbx
          subst hbx
          obtain ⟨u, hu⟩ : ∃ u : Int, u = ((T.length + 2 : Nat) : Int) := ⟨_, rfl⟩
          have hu2 : (u == (tn : Int) + 2) = true := by
            have := HTN.out.1
            rw [beq_iff_eq]
            omega
          have HB5 := (show Hid (Below w4.heap.size w4 w5) from hb5)
          have HY5 := (show Hid (Bytes w5 bx B) from hby)
          rw [← hu, show ckHs.length = 2 from rfl]
          simp only [Tl.v]
          clear hu ho1 ho2 hby hb5 K1
          go_upto_region 22 with fail
          obtain ⟨W1, hW1⟩ : ∃ W1, W1 = w5.alloc (.cells #[.int .i64 2, .int .i64 u, .string ⟨m.toArray⟩, .string ⟨t.toArray⟩, .slice hx 2 hz, .slice bx bn bz, .int .i64 0, .bool false, .bool false] 29) := ⟨_, rfl⟩
          rw [← hW1]
          obtain ⟨N1, hN1⟩ : ∃ N1, N1 = w5.heap.size := ⟨_, rfl⟩
          rw [← hN1]
          have HN1 : Hid (W1.heap[N1]? = some (.cells #[.int .i64 2, .int .i64 u, .string ⟨m.toArray⟩, .string ⟨t.toArray⟩, .slice hx 2 hz, .slice bx bn bz, .int .i64 0, .bool false, .bool false] 29 (0, 0))) := by rw [hW1, hN1]; exact heap_alloc_new w5 _
          have HBW1 : Hid (Below w4.heap.size w4 W1 ∧ Below w5.heap.size w5 W1) := by
            rw [hW1]
            exact ⟨HB5.out.alloc HB5.out.size _, (Below.refl _ _).alloc (Nat.le_refl _) _⟩
          clear hW1 hN1
          obtain ⟨-, hlc3, -, hab3, han3⟩ := own_args HO3.out
          have hbW : Below w.heap.size w W1 := HG4.out.below.trans (HBW1.out.1.mono HG4.out.below.size)
          have K2 := (show Hid _ from parse_any a3 T c3 W1 hlc3 (HY4.out.below HBW1.out.1 (Nat.le_refl _)) (fun x hx => ⟨(hab3 x hx).1, Nat.lt_of_lt_of_le (hab3 x hx).2 (Nat.le_trans HS4.out HBW1.out.1.size)⟩) han3 (by have := HTN.out.2; omega) (HM.out.1.below hbW (Nat.le_refl _)) (HM.out.2.below hbW (Nat.le_refl _)))
          rw [HP2.out, ← HTN.out.1] at K2
          clear hlc3 hab3 han3 hbW
          go_wp2_with fail
          refine Calls.mono K2.out ?_
          rintro e w6 ⟨T2, rfl, ht2, hb6⟩
          obtain rfl : T2 = moreT := ht2
          have HB6 := (show Hid (Below W1.heap.size W1 w6) from hb6)
          simp only [Tl.v, moreT]
          clear hb6 K2
          go_upto_region 23 with fail
          obtain ⟨W2, hW2⟩ : ∃ W2, W2 = w6.alloc (.cells #[.int .i64 1, .int .i64 0, .string ⟨#[]⟩, .string ⟨#[]⟩, .slice none 0 0, .slice none 0 0, .int .i64 0, .bool false, .bool false] 29) := ⟨_, rfl⟩
          rw [← hW2]
          obtain ⟨N2, hN2⟩ : ∃ N2, N2 = w6.heap.size := ⟨_, rfl⟩
          rw [← hN2]
          have n2 : W2.heap[N2]? = some (.cells #[.int .i64 1, .int .i64 0, .string ⟨#[]⟩, .string ⟨#[]⟩, .slice none 0 0, .slice none 0 0, .int .i64 0, .bool false, .bool false] 29 (0, 0)) := by rw [hW2, hN2]; exact heap_alloc_new w6 _
          have hb62 : Below w6.heap.size w6 W2 := by rw [hW2]; exact (Below.refl _ _).alloc (Nat.le_refl _) _
          have hb12 : Below W1.heap.size W1 W2 := HB6.out.trans (hb62.mono HB6.out.size)
          have n1 : W2.heap[N1]? = some (.cells #[.int .i64 2, .int .i64 u, .string ⟨m.toArray⟩, .string ⟨t.toArray⟩, .slice hx 2 hz, .slice bx bn bz, .int .i64 0, .bool false, .bool false] 29 (0, 0)) := (hb12.block N1 (blk_lt HN1.out)).trans HN1.out
          have hb42 : Below w4.heap.size w4 W2 := HBW1.out.1.trans (hb12.mono HBW1.out.1.size)
          have hb52 : Below w5.heap.size w5 W2 := HBW1.out.2.trans (hb12.mono HBW1.out.2.size)
          have hcb : (convert 22 9 (.slice bx bn bz)).run Tryz.prog W2 = .ok (.string ⟨B.toArray⟩) W2 := by
            rw [HBn.out]
            exact convert_bytes W2 bx bz B (HY5.out.below hb52 (Nat.le_refl _))
          have hca : (convert 22 9 (.slice ba bn bc)).run Tryz.prog W2 = .ok (.string ⟨B.toArray⟩) W2 := by
            have ho := own_below HG4.out.a hb42
            obtain ⟨a', c', e, hy⟩ := Own.bytes ho
            simp only [Value.slice.injEq] at e
            obtain ⟨rfl, -, rfl⟩ := e
            rw [HBn.out]
            exact convert_bytes W2 ba bc B hy
          have AW2 := (show Hid _ from AW.out W2 (HG4.out.below.trans (hb42.mono HG4.out.below.size)))
          clear hW2 hN2 hb62 hb12 hb42 hb52
          obtain ⟨x0, x1, x2, x3, x4, x5, x6, x7, x8⟩ := nine9 n1
          obtain ⟨y0, -, -, -, -, -, -, -, -⟩ := nine9 n2
          clear n1 n2
          go_wp2_with (go_at_call 12; refine Calls.mono AW2.out ?_; rintro e w9 ⟨rfl, hb9⟩)
          go_ret
          exact ⟨rfl, hb9⟩
    · clear hi
      have HI : Hid (i ≤ 20) := hi20
      have hLl : (ckHead ++ chT true X i).length ≤ 7000 := by
        have := ck_len true X i
        have hh : ckHead.length = 58 := by decide
        rw [List.length_append]
        omega
      obtain ⟨L, hL⟩ : ∃ L, L = ckHead ++ chT true X i := ⟨_, rfl⟩
      obtain ⟨B, hB⟩ : ∃ B, B = chB X i := ⟨_, rfl⟩
      have HBl : Hid (B.length ≤ 6000) := by
        show _ ≤ _
        rw [hB]
        have := chB_len X i
        omega
      rw [← hL] at hLl
      have HLl := (show Hid _ from hLl)
      have HG1 := (show Hid (Gs w wr L B _ _) from by show Gs _ _ _ _ _ _; rw [hL, hB]; exact hg)
      have HLB : Hid (L = ckHead ++ chT true X i ∧ B = chB X i) := ⟨hL, hB⟩
      obtain ⟨ba, bc, hbv⟩ := own_slice HG1.out.a
      obtain ⟨bn, hbn⟩ : ∃ bn, bn = B.length := ⟨_, rfl⟩
      rw [← hbn] at hbv
      have HBn : Hid (bn = B.length) := hbn
      subst hbv
      clear hLl hL hB hbn hg HG hi20 HX HNL
      cases tr
      · obtain ⟨T, hT⟩ : ∃ T, T = L ++ [48, 13, 10] := ⟨_, rfl⟩
        have hT2 : T = ckT true false X i := by rw [hT, HLB.out.1, ckT_no]
        have HT : Hid (T = L ++ [48, 13, 10]) := hT
        have hTl : T.length ≤ 7000 := by rw [hT2]; exact ckT_len true false X HI.out
        obtain ⟨m, t, hp1⟩ := parse_chunks true false X HI.out hT2
        have hp2 : parseL T = .more := by rw [hT2]; exact chunks_wait true false X i HI.out
        rw [← HLB.out.2] at hp1
        obtain ⟨tn, htn⟩ : ∃ tn, tn = T.length := ⟨_, rfl⟩
        have HTN : Hid (tn = T.length ∧ T.length ≤ 7000) := ⟨htn, hTl⟩
        have htn7 : tn ≤ 7000 := by omega
        have hwu : IntKind.i64.wrap ((tn : Int) + 2) = (tn : Int) + 2 := by rw [IntKind.wrap_i64]; omega
        have HP1 := (show Hid _ from hp1)
        have HP2 := (show Hid _ from hp2)
        clear hT hT2 hTl hp1 hp2 htn
        go_wp2_with (first
            | (at_builtin; refine wpList_apk_str rfl (.tmp 77) (.const (.string ⟨#[48, 13, 10]⟩)) rfl w.heap.size _ _ rfl HG1.out.s ⟨#[48, 13, 10]⟩ rfl [48, 13, 10] rfl (by have := HLl.out; omega) (by decide) (by decide) HG1.out.below.size ?_; intro v3 w3 hk3; have HG3 := (show Hid (Gs w w3 T B v3 _) from (by show Gs _ _ _ _ _ _; rw [HT.out]; exact (Gs.step HG1.out (Below.refl _ _) hk3))); have HO3 : Hid (Own w3 w.heap.size v3 T) := (by show Own _ _ _ _; rw [HT.out]; exact hk3.own); clear hk3; obtain ⟨a3, c3, hv3⟩ := own_slice HO3.out; rw [← HTN.out.1] at hv3; subst hv3)
            | (at_builtin; refine wpList_apk_sl rfl (.tmp 82) (.tmp 83) rfl w.heap.size _ _ rfl (Ob.alloc HG3.out.s _) ⟨w3.heap.size, 0, none⟩ [13, 10] 2 2 rfl rfl (by have := HTN.out.2; omega) (by decide) (by decide) (new_two w3 13 10 _ _ rfl rfl) (by have := HG3.out.below.size; simp; omega) ?_; intro v4 w4 hk4; have HG4 := (show Hid (Gs _ _ _ _ _ _) from Gs.step HG3.out ((Below.refl _ w3).alloc (Nat.le_refl _) _) hk4); have HO4 := (show Hid (Own _ _ _ _) from hk4.own); have HY4 := (show Hid (Bytes w4 a3 T) from hk4.old _ _ _ rfl); have HS4 := (show Hid (w3.heap.size ≤ w4.heap.size) from (by show w3.heap.size ≤ w4.heap.size; have := hk4.grown.size; simp at this; omega)); clear hk4))
        obtain ⟨a4, c4, rfl⟩ := own_slice HO4.out
        obtain ⟨-, hlc4, hB4, hab4, han4⟩ := own_args HO4.out
        have K1 := (show Hid _ from parse_any a4 (T ++ [13, 10]) c4 w4 hlc4 hB4 hab4 han4 (by have := HTN.out.2; simp only [List.length_append, List.length_cons, List.length_nil]; omega) (HM.out.1.below HG4.out.below (Nat.le_refl _)) (HM.out.2.below HG4.out.below (Nat.le_refl _)))
        rw [HP1.out] at K1
        clear hlc4 hB4 hab4 han4
        refine Calls.mono K1.out ?_
        rintro e w5 ⟨T1, rfl, ⟨hv, bv, rfl, ho1, ho2⟩, hb5⟩
        obtain ⟨hx, hz, rfl⟩ := own_slice ho1
        obtain ⟨bx, bz, hbx, hby⟩ := Own.bytes ho2
        rw [← HBn.out] at hbx
        subst hbx
        obtain ⟨u, hu⟩ : ∃ u : Int, u = ((T.length + 2 : Nat) : Int) := ⟨_, rfl⟩
        have hu2 : (u == (tn : Int) + 2) = true := by
          have := HTN.out.1
          rw [beq_iff_eq]
          omega
        have HB5 := (show Hid (Below w4.heap.size w4 w5) from hb5)
        have HY5 := (show Hid (Bytes w5 bx B) from hby)
        rw [← hu, show ckHs.length = 2 from rfl]
        simp only [Tl.v]
        clear hu ho1 ho2 hby hb5 K1
        go_upto_region 22 with fail
        obtain ⟨W1, hW1⟩ : ∃ W1, W1 = w5.alloc (.cells #[.int .i64 2, .int .i64 u, .string ⟨m.toArray⟩, .string ⟨t.toArray⟩, .slice hx 2 hz, .slice bx bn bz, .int .i64 0, .bool false, .bool false] 29) := ⟨_, rfl⟩
        rw [← hW1]
        obtain ⟨N1, hN1⟩ : ∃ N1, N1 = w5.heap.size := ⟨_, rfl⟩
        rw [← hN1]
        have HN1 : Hid (W1.heap[N1]? = some (.cells #[.int .i64 2, .int .i64 u, .string ⟨m.toArray⟩, .string ⟨t.toArray⟩, .slice hx 2 hz, .slice bx bn bz, .int .i64 0, .bool false, .bool false] 29 (0, 0))) := by rw [hW1, hN1]; exact heap_alloc_new w5 _
        have HBW1 : Hid (Below w4.heap.size w4 W1 ∧ Below w5.heap.size w5 W1) := by
          rw [hW1]
          exact ⟨HB5.out.alloc HB5.out.size _, (Below.refl _ _).alloc (Nat.le_refl _) _⟩
        clear hW1 hN1
        obtain ⟨-, hlc3, -, hab3, han3⟩ := own_args HO3.out
        have hbW : Below w.heap.size w W1 := HG4.out.below.trans (HBW1.out.1.mono HG4.out.below.size)
        have K2 := (show Hid _ from parse_any a3 T c3 W1 hlc3 (HY4.out.below HBW1.out.1 (Nat.le_refl _)) (fun x hx => ⟨(hab3 x hx).1, Nat.lt_of_lt_of_le (hab3 x hx).2 (Nat.le_trans HS4.out HBW1.out.1.size)⟩) han3 (by have := HTN.out.2; omega) (HM.out.1.below hbW (Nat.le_refl _)) (HM.out.2.below hbW (Nat.le_refl _)))
        rw [HP2.out, ← HTN.out.1] at K2
        clear hlc3 hab3 han3 hbW
        go_wp2_with fail
        refine Calls.mono K2.out ?_
        rintro e w6 ⟨T2, rfl, ht2, hb6⟩
        obtain rfl : T2 = moreT := ht2
        have HB6 := (show Hid (Below W1.heap.size W1 w6) from hb6)
        simp only [Tl.v, moreT]
        clear hb6 K2
        go_upto_region 23 with fail
        obtain ⟨W2, hW2⟩ : ∃ W2, W2 = w6.alloc (.cells #[.int .i64 1, .int .i64 0, .string ⟨#[]⟩, .string ⟨#[]⟩, .slice none 0 0, .slice none 0 0, .int .i64 0, .bool false, .bool false] 29) := ⟨_, rfl⟩
        rw [← hW2]
        obtain ⟨N2, hN2⟩ : ∃ N2, N2 = w6.heap.size := ⟨_, rfl⟩
        rw [← hN2]
        have n2 : W2.heap[N2]? = some (.cells #[.int .i64 1, .int .i64 0, .string ⟨#[]⟩, .string ⟨#[]⟩, .slice none 0 0, .slice none 0 0, .int .i64 0, .bool false, .bool false] 29 (0, 0)) := by rw [hW2, hN2]; exact heap_alloc_new w6 _
        have hb62 : Below w6.heap.size w6 W2 := by rw [hW2]; exact (Below.refl _ _).alloc (Nat.le_refl _) _
        have hb12 : Below W1.heap.size W1 W2 := HB6.out.trans (hb62.mono HB6.out.size)
        have n1 : W2.heap[N1]? = some (.cells #[.int .i64 2, .int .i64 u, .string ⟨m.toArray⟩, .string ⟨t.toArray⟩, .slice hx 2 hz, .slice bx bn bz, .int .i64 0, .bool false, .bool false] 29 (0, 0)) := (hb12.block N1 (blk_lt HN1.out)).trans HN1.out
        have hb42 : Below w4.heap.size w4 W2 := HBW1.out.1.trans (hb12.mono HBW1.out.1.size)
        have hb52 : Below w5.heap.size w5 W2 := HBW1.out.2.trans (hb12.mono HBW1.out.2.size)
        have hcb : (convert 22 9 (.slice bx bn bz)).run Tryz.prog W2 = .ok (.string ⟨B.toArray⟩) W2 := by
          rw [HBn.out]
          exact convert_bytes W2 bx bz B (HY5.out.below hb52 (Nat.le_refl _))
        have hca : (convert 22 9 (.slice ba bn bc)).run Tryz.prog W2 = .ok (.string ⟨B.toArray⟩) W2 := by
          have ho := own_below HG4.out.a hb42
          obtain ⟨a', c', e, hy⟩ := Own.bytes ho
          simp only [Value.slice.injEq] at e
          obtain ⟨rfl, -, rfl⟩ := e
          rw [HBn.out]
          exact convert_bytes W2 ba bc B hy
        have AW2 := (show Hid _ from AW.out W2 (HG4.out.below.trans (hb42.mono HG4.out.below.size)))
        clear hW2 hN2 hb62 hb12 hb42 hb52
        obtain ⟨x0, x1, x2, x3, x4, x5, x6, x7, x8⟩ := nine9 n1
        obtain ⟨y0, -, -, -, -, -, -, -, -⟩ := nine9 n2
        clear n1 n2
        go_wp2_with (go_at_call 12; refine Calls.mono AW2.out ?_; rintro e w9 ⟨rfl, hb9⟩)
        go_ret
        exact ⟨rfl, hb9⟩
      · obtain ⟨T, hT⟩ : ∃ T, T = L ++ [48, 13, 10] ++ [120, 45, 115, 117, 109, 58, 32, 49, 13, 10] := ⟨_, rfl⟩
        have hT2 : T = ckT true true X i := by rw [hT, HLB.out.1, ckT_yes]
        have HT : Hid (T = L ++ [48, 13, 10] ++ [120, 45, 115, 117, 109, 58, 32, 49, 13, 10]) := hT
        have hTl : T.length ≤ 7000 := by rw [hT2]; exact ckT_len true true X HI.out
        obtain ⟨m, t, hp1⟩ := parse_chunks true true X HI.out hT2
        have hp2 : parseL T = .more := by rw [hT2]; exact chunks_wait true true X i HI.out
        rw [← HLB.out.2] at hp1
        obtain ⟨tn, htn⟩ : ∃ tn, tn = T.length := ⟨_, rfl⟩
        have HTN : Hid (tn = T.length ∧ T.length ≤ 7000) := ⟨htn, hTl⟩
        have htn7 : tn ≤ 7000 := by omega
        have hwu : IntKind.i64.wrap ((tn : Int) + 2) = (tn : Int) + 2 := by rw [IntKind.wrap_i64]; omega
        have HP1 := (show Hid _ from hp1)
        have HP2 := (show Hid _ from hp2)
        clear hT hT2 hTl hp1 hp2 htn
        go_wp2_with (first
            | (at_builtin; refine wpList_apk_str rfl (.tmp 77) (.const (.string ⟨#[48, 13, 10]⟩)) rfl w.heap.size _ _ rfl HG1.out.s ⟨#[48, 13, 10]⟩ rfl [48, 13, 10] rfl (by have := HLl.out; omega) (by decide) (by decide) HG1.out.below.size ?_; intro v2 w2 hk2; have HG2 := (show Hid (Gs _ _ _ _ _ _) from Gs.step HG1.out (Below.refl _ _) hk2); clear hk2)
            | (at_builtin; refine wpList_apk_str rfl (.tmp 80) (.const (.string ⟨#[120, 45, 115, 117, 109, 58, 32, 49, 13, 10]⟩)) rfl w.heap.size _ _ rfl HG2.out.s ⟨#[120, 45, 115, 117, 109, 58, 32, 49, 13, 10]⟩ rfl [120, 45, 115, 117, 109, 58, 32, 49, 13, 10] rfl (by have := HLl.out; simp only [List.length_append, List.length_cons, List.length_nil]; omega) (by decide) (by decide) HG2.out.below.size ?_; intro v3 w3 hk3; have HG3 := (show Hid (Gs w w3 T B v3 _) from (by show Gs _ _ _ _ _ _; rw [HT.out]; exact (Gs.step HG2.out (Below.refl _ _) hk3))); have HO3 : Hid (Own w3 w.heap.size v3 T) := (by show Own _ _ _ _; rw [HT.out]; exact hk3.own); clear hk3; obtain ⟨a3, c3, hv3⟩ := own_slice HO3.out; rw [← HTN.out.1] at hv3; subst hv3)
            | (at_builtin; refine wpList_apk_sl rfl (.tmp 82) (.tmp 83) rfl w.heap.size _ _ rfl (Ob.alloc HG3.out.s _) ⟨w3.heap.size, 0, none⟩ [13, 10] 2 2 rfl rfl (by have := HTN.out.2; omega) (by decide) (by decide) (new_two w3 13 10 _ _ rfl rfl) (by have := HG3.out.below.size; simp; omega) ?_; intro v4 w4 hk4; have HG4 := (show Hid (Gs _ _ _ _ _ _) from Gs.step HG3.out ((Below.refl _ w3).alloc (Nat.le_refl _) _) hk4); have HO4 := (show Hid (Own _ _ _ _) from hk4.own); have HY4 := (show Hid (Bytes w4 a3 T) from hk4.old _ _ _ rfl); have HS4 := (show Hid (w3.heap.size ≤ w4.heap.size) from (by show w3.heap.size ≤ w4.heap.size; have := hk4.grown.size; simp at this; omega)); clear hk4))
        obtain ⟨a4, c4, rfl⟩ := own_slice HO4.out
        obtain ⟨-, hlc4, hB4, hab4, han4⟩ := own_args HO4.out
        have K1 := (show Hid _ from parse_any a4 (T ++ [13, 10]) c4 w4 hlc4 hB4 hab4 han4 (by have := HTN.out.2; simp only [List.length_append, List.length_cons, List.length_nil]; omega) (HM.out.1.below HG4.out.below (Nat.le_refl _)) (HM.out.2.below HG4.out.below (Nat.le_refl _)))
        rw [HP1.out] at K1
        clear hlc4 hB4 hab4 han4
        refine Calls.mono K1.out ?_
        rintro e w5 ⟨T1, rfl, ⟨hv, bv, rfl, ho1, ho2⟩, hb5⟩
        obtain ⟨hx, hz, rfl⟩ := own_slice ho1
        obtain ⟨bx, bz, hbx, hby⟩ := Own.bytes ho2
        rw [← HBn.out] at hbx
        subst hbx
        obtain ⟨u, hu⟩ : ∃ u : Int, u = ((T.length + 2 : Nat) : Int) := ⟨_, rfl⟩
        have hu2 : (u == (tn : Int) + 2) = true := by
          have := HTN.out.1
          rw [beq_iff_eq]
          omega
        have HB5 := (show Hid (Below w4.heap.size w4 w5) from hb5)
        have HY5 := (show Hid (Bytes w5 bx B) from hby)
        rw [← hu, show ckHs.length = 2 from rfl]
        simp only [Tl.v]
        clear hu ho1 ho2 hby hb5 K1
        go_upto_region 22 with fail
        obtain ⟨W1, hW1⟩ : ∃ W1, W1 = w5.alloc (.cells #[.int .i64 2, .int .i64 u, .string ⟨m.toArray⟩, .string ⟨t.toArray⟩, .slice hx 2 hz, .slice bx bn bz, .int .i64 0, .bool false, .bool false] 29) := ⟨_, rfl⟩
        rw [← hW1]
        obtain ⟨N1, hN1⟩ : ∃ N1, N1 = w5.heap.size := ⟨_, rfl⟩
        rw [← hN1]
        have HN1 : Hid (W1.heap[N1]? = some (.cells #[.int .i64 2, .int .i64 u, .string ⟨m.toArray⟩, .string ⟨t.toArray⟩, .slice hx 2 hz, .slice bx bn bz, .int .i64 0, .bool false, .bool false] 29 (0, 0))) := by rw [hW1, hN1]; exact heap_alloc_new w5 _
        have HBW1 : Hid (Below w4.heap.size w4 W1 ∧ Below w5.heap.size w5 W1) := by
          rw [hW1]
          exact ⟨HB5.out.alloc HB5.out.size _, (Below.refl _ _).alloc (Nat.le_refl _) _⟩
        clear hW1 hN1
        obtain ⟨-, hlc3, -, hab3, han3⟩ := own_args HO3.out
        have hbW : Below w.heap.size w W1 := HG4.out.below.trans (HBW1.out.1.mono HG4.out.below.size)
        have K2 := (show Hid _ from parse_any a3 T c3 W1 hlc3 (HY4.out.below HBW1.out.1 (Nat.le_refl _)) (fun x hx => ⟨(hab3 x hx).1, Nat.lt_of_lt_of_le (hab3 x hx).2 (Nat.le_trans HS4.out HBW1.out.1.size)⟩) han3 (by have := HTN.out.2; omega) (HM.out.1.below hbW (Nat.le_refl _)) (HM.out.2.below hbW (Nat.le_refl _)))
        rw [HP2.out, ← HTN.out.1] at K2
        clear hlc3 hab3 han3 hbW
        go_wp2_with fail
        refine Calls.mono K2.out ?_
        rintro e w6 ⟨T2, rfl, ht2, hb6⟩
        obtain rfl : T2 = moreT := ht2
        have HB6 := (show Hid (Below W1.heap.size W1 w6) from hb6)
        simp only [Tl.v, moreT]
        clear hb6 K2
        go_upto_region 23 with fail
        obtain ⟨W2, hW2⟩ : ∃ W2, W2 = w6.alloc (.cells #[.int .i64 1, .int .i64 0, .string ⟨#[]⟩, .string ⟨#[]⟩, .slice none 0 0, .slice none 0 0, .int .i64 0, .bool false, .bool false] 29) := ⟨_, rfl⟩
        rw [← hW2]
        obtain ⟨N2, hN2⟩ : ∃ N2, N2 = w6.heap.size := ⟨_, rfl⟩
        rw [← hN2]
        have n2 : W2.heap[N2]? = some (.cells #[.int .i64 1, .int .i64 0, .string ⟨#[]⟩, .string ⟨#[]⟩, .slice none 0 0, .slice none 0 0, .int .i64 0, .bool false, .bool false] 29 (0, 0)) := by rw [hW2, hN2]; exact heap_alloc_new w6 _
        have hb62 : Below w6.heap.size w6 W2 := by rw [hW2]; exact (Below.refl _ _).alloc (Nat.le_refl _) _
        have hb12 : Below W1.heap.size W1 W2 := HB6.out.trans (hb62.mono HB6.out.size)
        have n1 : W2.heap[N1]? = some (.cells #[.int .i64 2, .int .i64 u, .string ⟨m.toArray⟩, .string ⟨t.toArray⟩, .slice hx 2 hz, .slice bx bn bz, .int .i64 0, .bool false, .bool false] 29 (0, 0)) := (hb12.block N1 (blk_lt HN1.out)).trans HN1.out
        have hb42 : Below w4.heap.size w4 W2 := HBW1.out.1.trans (hb12.mono HBW1.out.1.size)
        have hb52 : Below w5.heap.size w5 W2 := HBW1.out.2.trans (hb12.mono HBW1.out.2.size)
        have hcb : (convert 22 9 (.slice bx bn bz)).run Tryz.prog W2 = .ok (.string ⟨B.toArray⟩) W2 := by
          rw [HBn.out]
          exact convert_bytes W2 bx bz B (HY5.out.below hb52 (Nat.le_refl _))
        have hca : (convert 22 9 (.slice ba bn bc)).run Tryz.prog W2 = .ok (.string ⟨B.toArray⟩) W2 := by
          have ho := own_below HG4.out.a hb42
          obtain ⟨a', c', e, hy⟩ := Own.bytes ho
          simp only [Value.slice.injEq] at e
          obtain ⟨rfl, -, rfl⟩ := e
          rw [HBn.out]
          exact convert_bytes W2 ba bc B hy
        have AW2 := (show Hid _ from AW.out W2 (HG4.out.below.trans (hb42.mono HG4.out.below.size)))
        clear hW2 hN2 hb62 hb12 hb42 hb52
        obtain ⟨x0, x1, x2, x3, x4, x5, x6, x7, x8⟩ := nine9 n1
        obtain ⟨y0, -, -, -, -, -, -, -, -⟩ := nine9 n2
        clear n1 n2
        go_wp2_with (go_at_call 12; refine Calls.mono AW2.out ?_; rintro e w9 ⟨rfl, hb9⟩)
        go_ret
        exact ⟨rfl, hb9⟩
end Go.Proofs.YtmodmeabjhaklaaGreatDoor

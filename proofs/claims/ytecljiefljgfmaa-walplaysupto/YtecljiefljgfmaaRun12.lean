/-
  The document's CRC by its contract.
-/
import Derived.Test.YtecljiefljgfmaaRun11
import Derived.Test.YtecljiefljgfmaaRun07
import Derived.Test.YtecljiefljgfmaaRun06
namespace Go.Proofs.Ytecljiefljgfmaa
open Go.RowKit

theorem W_low1 {x : Wd} (h : x.getLsbD 0 = true) : bits .and .u32 (W x) 1 = 1 := by
  have e : x &&& 1 = 1 := by
    have := and1_mul x 1
    rw [h, if_pos rfl] at this
    simpa using this
  rw [W_and1, e]
  rfl
theorem W_low0 {x : Wd} (h : x.getLsbD 0 = false) : bits .and .u32 (W x) 1 = 0 := by
  have e : x &&& 1 = 0 := by
    have := and1_mul x 1
    rw [h, if_neg (by decide)] at this
    simpa using this
  rw [W_and1, e]
  rfl
theorem crcByte_eq (c : Wd) (b : UInt8) : crcByte c b = crcBits 8 (c ^^^ bw b) := by rw [crcByte, nib_eq, nib_eq, ← crcBits_add]

set_option maxHeartbeats 1000000 in
theorem refCrc_any (a : Option Addr) (l : List UInt8) (cap : Nat) (w : World) (hl : l.length ≤ 140737488351232) (hb : Bytes w a l) :
    Calls Try.prog 86 #[.slice a l.length cap] w fun e w' => e = .returned (.int .u32 (W (crcL l))) ∧ w = w' := by
  go_enter Try.func86, Try.ntmps86
  go_wp2
  go_loop [3, 4] (fun c i => ∃ k : Nat, k ≤ l.length ∧ i = .int .i64 k ∧ c = .int .u32 (W ((l.take k).foldl crcByte 0xFFFFFFFF))) (fun _ i => l.length - (intOf i).toNat)
  case atStart => exact ⟨0, Nat.zero_le _, rfl, by rw [List.take_zero, List.foldl_nil, ← all1]⟩
  case round =>
    obtain ⟨k, hk, rfl, rfl⟩ := hrel
    generalize hC : (l.take k).foldl crcByte 0xFFFFFFFF = c
    have HC : Hid ((l.take k).foldl crcByte 0xFFFFFFFF = c) := hC
    clear hC
    by_cases hlt : k < l.length
    · obtain ⟨b, off, rfl, hbl, hcs⟩ := hb.at hlt
      have hcell := hcs k hlt
      clear hcs hb
      have hc255 : (l[k].toNat : Int) ≤ 255 := by have := l[k].toNat_lt; omega
      generalize hB : l[k] = bb at *
      have HB : Hid (l[k] = bb) := hB
      clear hB
      have q1 := W_xorb c bb
      generalize hX : c ^^^ bw bb = x at *
      have HX : Hid (c ^^^ bw bb = x) := hX
      clear hX
      go_wp2
      go_loop [3, 5] (fun c j => ∃ m : Nat, m ≤ 8 ∧ j = .int .i64 m ∧ c = .int .u32 (W (crcBits m x))) (fun _ j => 8 - (intOf j).toNat)
      case atStart => exact ⟨0, by omega, rfl, rfl⟩
      case round =>
        obtain ⟨m, hm, rfl, rfl⟩ := hrel
        generalize hY : crcBits m x = y
        have HY : Hid (crcBits (m + 1) x = crcBit y) := by
          show _ = _
          rw [crcBits, hY]
        have HYE : Hid (crcBits m x = y) := hY
        clear hY
        by_cases hml : m < 8
        · cases h0 : y.getLsbD 0 with
          | true =>
            have hl1 := W_low1 h0
            have HE : Hid (crcBit y = y >>> 1 ^^^ poly) := by
              show _ = _
              rw [crcBit_eq, h0, if_pos rfl]
            clear h0
            go_wp2
            go_round
            case rel =>
              refine ⟨m + 1, by omega, by go_num, ?_⟩
              rw [HY.out, HE.out, W_poly, W_shr1, W_xor]
            case measure => simp [intOf]; omega
          | false =>
            have hl0 := W_low0 h0
            have HE : Hid (crcBit y = y >>> 1) := by
              show _ = _
              rw [crcBit_eq, h0, if_neg (by decide)]
              exact xor_nought _
            clear h0
            go_wp2
            go_round
            case rel =>
              refine ⟨m + 1, by omega, by go_num, ?_⟩
              rw [HY.out, HE.out, W_shr1]
            case measure => simp [intOf]; omega
        · obtain rfl : m = 8 := by omega
          go_wp2
          go_round
          case rel =>
            refine ⟨k + 1, by omega, by go_num, ?_⟩
            rw [List.take_succ_eq_append_getElem hlt, List.foldl_append, HC.out, List.foldl_cons, List.foldl_nil, HB.out, crcByte_eq, HX.out, HYE.out]
          case measure => simp [intOf]; omega
    · obtain rfl : k = l.length := by omega
      rw [List.take_length] at HC
      go_wp2
      go_ret
      exact ⟨ret_int (by rw [W_not, crcL, HC.out]), rfl⟩
end Go.Proofs.Ytecljiefljgfmaa
/-
  The document's head of a slot by its contract.
-/
namespace Go.Proofs.Ytecljiefljgfmaa
open Go.RowKit

/-- 'append' to a full slice of bytes: a new row. -/
theorem append_full (w : World) (b o c p cy : Nat) (xs ys : List UInt8) (hx : Bytes w (some ⟨b, o, none⟩) xs) (hy : Bytes w (some ⟨c, p, none⟩) ys) (h0 : 0 < ys.length) (h63 : xs.length + ys.length ≤ 100000000) :
    ∃ v w', (∀ ty, (Builtin.append_ #[50, 50] ty #[.slice (some ⟨b, o, none⟩) xs.length xs.length, .slice (some ⟨c, p, none⟩) ys.length cy]).run Try.prog w = .ok v w') ∧ Own w' w.heap.size v (xs ++ ys) ∧ Below w.heap.size w w' := by
  obtain ⟨i0, hi, hz0, hz1, hz2⟩ := info_parts info5
  have hG : xs.length + ys.length ≤ grownCap w (xs.length + ys.length) xs.length 5 := grownCap_ge w _ _ _
  have hG2 := grownCap_le_maxLen w (xs.length + ys.length) xs.length 5 (by unfold maxLen; omega)
  have hrun := fun ty => run_append_grow (P := Try.prog) w 50 ty 5 i0 (.int .u8 0) Try.underlying50 hi hz0 ⟨b, o, none⟩ xs.length xs.length (bcs xs) (by rw [hz1, bcs_length]; omega) hx.cells ⟨c, p, none⟩ ys.length cy (bcs ys) (by rw [hz1, bcs_length]; omega) hy.cells (by omega) (by omega) (by rw [hz2]; have := growslice_fits (need := xs.length + ys.length) (old := xs.length) (bytes := 1) (by omega) (by omega); simpa using this)
  obtain ⟨k, hk⟩ : ∃ k, k = grownCap w (xs.length + ys.length) xs.length 5 := ⟨_, rfl⟩
  rw [← hk] at hG hG2
  simp only [← hk] at hrun
  refine ⟨_, _, hrun, ?_, ((Below.refl _ w).drew).alloc (Nat.le_refl _) _⟩
  refine ⟨by rw [bcs_length]; omega, .inr ⟨w.heap.size, k, _, by rw [List.length_append], Nat.le_refl _, heap_alloc_new w.drew _, by rw [List.length_append]; exact hG, hG2, ?_, ?_⟩⟩
  · rw [Array.size_append, Array.size_append, zeroCells_size, List.size_toArray, List.size_toArray, bcs_length, bcs_length]
    omega
  · rw [List.length_append]
    simp only [Array.toList_append, Nat.mul_one]
    rw [List.take_left' (by simp [bcs_length])]
    simp [bcs]

set_option maxHeartbeats 2000000 in
set_option maxRecDepth 20000 in
theorem refHead_any (ep : Nat) (a : Option Addr) (st : List UInt8) (cap : Nat) (w : World) (hep : ep < 18446744073709551616) (hb : Bytes w a st) (hl : st.length ≤ 10000000) (hno : a = none → cap = 0) :
    Calls Try.prog 64 #[.int .u64 (ep : Int), .slice a st.length cap] w fun e w' => ∃ v, e = .returned v ∧ Own w' w.heap.size v (headL ep st) ∧ Below w.heap.size w w' := by
  have hp1 := refPut64_any ep w hep
  obtain ⟨n, hn⟩ : ∃ n, n = st.length := ⟨_, rfl⟩
  have HN : Hid (n = st.length) := hn
  have HB : Hid (Bytes w a st) := hb
  rw [← hn] at hl ⊢
  clear hb hn
  go_enter Try.func64, Try.ntmps64
  go_wp2_with fail
  refine Calls.mono hp1 ?_
  rintro e w1 ⟨v1, rfl, ho1, hb1⟩
  obtain ⟨a1, c1, rfl, hby1, hno1, _⟩ := ho1.open
  rw [be_length]
  clear ho1 hp1
  have hsz1 := hb1.size
  go_upto_region 3 with (at_builtin; refine wpList_append_bytes rfl (.tmp 8) (.tmp 10) rfl w.heap.size (.slice none 0 0) [] rfl (World.ownsRow_nil _ _ _ _) a1 (be ep 8) c1 (by rw [be_length]; rfl) hby1 hno1 (by rw [be_length]; simp) hsz1 ?_; intro v2 w2 ho2 hg2)
  rw [List.nil_append] at ho2
  have hb2 : Below w.heap.size w w2 := hb1.grown hg2 hsz1 (by simp [Value.ownBlock])
  have hp2 := refPut64_any n w2 (by omega)
  have HO2 : Hid (Own w2 w.heap.size v2 (be ep 8) ∧ Below w.heap.size w w2) := ⟨ho2, hb2⟩
  clear hby1 hno1 hsz1 hg2 ho2 hb1 hb2
  go_wp2_with fail
  refine Calls.mono hp2 ?_
  rintro e w3 ⟨v3, rfl, ho3, hb3⟩
  obtain ⟨a3, c3, rfl, hby3, hno3, _⟩ := ho3.open
  rw [be_length]
  have hO3 : Own w3 w.heap.size v2 (be ep 8) := keeps_below (w := w2) hb3 _ _ _ _ _ _ HO2.out.1
  have hB3 : Below w.heap.size w w3 := HO2.out.2.trans (hb3.mono HO2.out.2.size)
  have hsz3 := hB3.size
  clear ho3 hp2
  go_upto_region 5 with (at_builtin; refine wpList_append_bytes rfl (.tmp 12) (.tmp 16) rfl w.heap.size _ (be ep 8) rfl hO3 a3 (be n 8) c3 (by rw [be_length]; rfl) hby3 hno3 (by rw [be_length, be_length]; omega) hsz3 ?_; intro v4 w4 ho4 hg4)
  have hb4 : Below w.heap.size w w4 := hB3.grown hg4 hsz3 (fun z hz => (owns_lt HO2.out.1 z hz).1)
  have est : be ep 8 ++ be n 8 = stampS ep st := by rw [stampS, HN.out]
  rw [est] at ho4
  obtain ⟨a4, c4, rfl, hby4, hno4, _⟩ := ho4.open
  rw [stampS_length]
  have HM : Hid (Bytes w4 a4 (stampS ep st) ∧ (a4 = none → c4 = 0) ∧ Below w.heap.size w w4) := ⟨hby4, hno4, hb4⟩
  have hz4 : w4.heap.size ≤ w4.heap.size := Nat.le_refl _
  clear HO2 hby3 hno3 hO3 hB3 hsz3 hb3 hg4 est ho4 hb4
  go_upto_region 6 with (at_builtin; refine wpList_append_bytes rfl (.tmp 18) (.tmp 19) rfl w4.heap.size (.slice none 0 0) [] rfl (World.ownsRow_nil _ _ _ _) a4 (stampS ep st) c4 (by rw [stampS_length]; rfl) hby4 hno4 (by rw [stampS_length]; simp) hz4 ?_; intro v5 w5 ho5 hg5)
  rw [List.nil_append] at ho5
  have hb5 : Below w4.heap.size w4 w5 := (Below.refl _ _).grown hg5 hz4 (by simp [Value.ownBlock])
  have hst5 : Bytes w5 a st := (HB.out.below HM.out.2.2 (Nat.le_refl _)).below hb5 (Nat.le_refl _)
  have hz5 := hb5.size
  have HO5 : Hid (∀ z, v5.ownBlock = some z → w4.heap.size ≤ z) := fun z hz => (owns_lt ho5 z hz).1
  clear hby4 hno4 hg5 hz4
  go_upto_region 7 with (at_builtin; refine wpList_append_bytes rfl (.tmp 21) (.tmp 22) rfl w4.heap.size _ (stampS ep st) rfl ho5 a st cap (by rw [← HN.out]; rfl) hst5 hno (by rw [stampS_length, ← HN.out]; omega) hz5 ?_; intro v6 w6 ho6 hg6)
  have hb6 : Below w4.heap.size w4 w6 := hb5.grown hg6 hz5 HO5.out
  have hlen6 : (stampS ep st ++ st).length = 16 + n := by rw [List.length_append, stampS_length, HN.out]
  obtain ⟨a6, c6, rfl, hby6, hno6, _⟩ := ho6.open
  rw [hlen6]
  obtain ⟨w7, hw7⟩ : ∃ w7, w7 = w6.alloc (.cells #[.int .u8 83, .int .u8 78, .int .u8 65, .int .u8 80] 5 (4, 5)) := ⟨_, rfl⟩
  have hcvt : (convert 50 50 (.slice (some ⟨w6.heap.size, 0, none⟩) 4 4)).run Try.prog (w6.alloc (.cells #[.int .u8 83, .int .u8 78, .int .u8 65, .int .u8 80] 5)) = .ok (.slice (some ⟨w6.heap.size, 0, none⟩) 4 4) w7 := by
    rw [hw7]
    exact Lib.run_convert_bytes_const w6 50 5 #[.int .u8 83, .int .u8 78, .int .u8 65, .int .u8 80] 4 4 Try.underlying50 Try.underlying5
  have hb67 : Below w6.heap.size w6 w7 := by rw [hw7]; exact (Below.refl _ _).alloc (Nat.le_refl _) _
  have hmk : Bytes w7 (some ⟨w6.heap.size, 0, none⟩) markL := by
    have hn7 : w7.heap[w6.heap.size]? = some (.cells #[.int .u8 83, .int .u8 78, .int .u8 65, .int .u8 80] 5 (4, 5)) := by rw [hw7]; exact heap_alloc_new w6 _
    refine .inr ⟨_, 0, rfl, (Array.getElem?_eq_some_iff.1 hn7).1, fun j hj => ?_⟩
    have hj4 : j < 4 := hj
    rcases (by omega : j = 0 ∨ j = 1 ∨ j = 2 ∨ j = 3) with rfl | rfl | rfl | rfl <;> simp [World.cell?, hn7, markL]
  have hcr := refCrc_any a6 (stampS ep st ++ st) c6 w7 (by rw [hlen6]; omega) (hby6.below hb67 (Nat.le_refl _))
  obtain ⟨cv, hcv⟩ : ∃ cv, cv = crcN (stampS ep st ++ st) := ⟨_, rfl⟩
  rw [hlen6, show W (crcL (stampS ep st ++ st)) = (cv : Int) from by rw [hcv]; rfl] at hcr
  have hcv4 : cv < 4294967296 := by rw [hcv]; exact crcN_lt _
  have hfo := four_any cv w7 hcv4
  have hb7 : Below w4.heap.size w4 w7 := hb6.trans (hb67.mono hb6.size)
  have HF : Hid (∀ w8, (∀ j u, (bcs (be cv 4))[j]? = some u → w8.cell? ((⟨w7.heap.size, 0, none⟩ : Addr).add j) = some u) → Below w7.heap.size w7 w8 → ∃ v9 w9, (∀ ty, (Builtin.append_ #[50, 50] ty #[.slice (some ⟨w6.heap.size, 0, none⟩) 4 4, .slice (some ⟨w7.heap.size, 0, none⟩) 4 4]).run Try.prog w8 = .ok v9 w9) ∧ Own w9 w8.heap.size v9 (markL ++ be cv 4) ∧ Below w8.heap.size w8 w9 ∧ Bytes w9 a4 (stampS ep st) ∧ Below w.heap.size w w8) := (by
    intro w8 hc8 hb8
    have hs8 : w7.heap.size < w8.heap.size := by
      have := hc8 0 _ (bcs_get (by rw [be_length]; omega))
      rw [Addr.add_lit] at this
      rcases Nat.lt_or_ge w7.heap.size w8.heap.size with h | h
      · exact h
      · simp [World.cell?, Array.getElem?_eq_none h] at this
    have hB8 : Below w4.heap.size w4 w8 := hb7.trans (hb8.mono hb7.size)
    have hy : Bytes w8 (some ⟨w7.heap.size, 0, none⟩) (be cv 4) := .inr ⟨_, 0, rfl, hs8, fun j hj => by
      have := hc8 j _ (bcs_get hj)
      rwa [Addr.add_lit] at this⟩
    obtain ⟨v9, w9, q1, q2, q3⟩ := append_full w8 w6.heap.size 0 w7.heap.size 0 4 markL (be cv 4) (hmk.below hb8 (Nat.le_refl _)) hy (by rw [be_length]; omega) (by rw [be_length]; simp [markL])
    rw [be_length] at q1
    exact ⟨v9, w9, q1, q2, q3, (HM.out.1.below hB8 (Nat.le_refl _)).below q3 (Nat.le_refl _), HM.out.2.2.trans (hB8.mono HM.out.2.2.size)⟩)
  have HH : Hid (headL ep st = markL ++ be cv 4 ++ stampS ep st) := (show _ = _ from by rw [headL, hcv]; rfl)
  clear hby6 hno6 ho6 hg6 ho5 hst5 hw7 hb67 hmk hb7 hb6 hb5 hcv hlen6
  go_upto_region 8 with fail
  clear hcvt
  go_upto_region 9 with (first
    | (go_at_call 86; (with_reducible refine Calls.mono hcr ?_); rintro e w7' ⟨rfl, rfl⟩)
    | (go_at_call 85; (with_reducible refine Calls.mono hfo ?_); rintro e w8 ⟨rfl, hc8, hb8⟩; obtain ⟨v9, w9, hap9, ho9, hb9, hby9, hbw8⟩ := HF.out w8 hc8 hb8; have HAP := (show Hid _ from hap9); clear hap9)
    | (at_builtin; refine wpList_append_run rfl (.tmp 26) (.tmp 29) 50 50 rfl (.slice (some ⟨w6.heap.size, 0, none⟩) 4 4) (.slice (some ⟨w7.heap.size, 0, none⟩) 4 4) rfl rfl v9 w9 HAP.out ?_))
  have hz9 := hb9.size
  have HO9 : Hid (∀ z, v9.ownBlock = some z → w8.heap.size ≤ z) := fun z hz => (owns_lt ho9 z hz).1
  clear hcr hfo HAP HF hc8
  go_wp2_with (at_builtin; refine wpList_append_bytes rfl (.tmp 31) (.tmp 32) rfl w8.heap.size _ (markL ++ be cv 4) rfl ho9 a4 (stampS ep st) c4 (by rw [stampS_length]; rfl) hby9 HM.out.2.1 (by rw [List.length_append, be_length, stampS_length]; simp [markL]) hz9 ?_; intro v10 w10 ho10 hg10)
  go_ret
  have hb10 : Below w8.heap.size w8 w10 := hb9.grown hg10 hz9 HO9.out
  rw [HH.out]
  exact ⟨v10, rfl, owns_base ho10 (fun j hj => by have := (owns_lt ho10 j hj).1; have := hbw8.size; omega), hbw8.trans (hb10.mono hbw8.size)⟩
end Go.Proofs.Ytecljiefljgfmaa
/-
  The document's Part by its contract: a sector's bytes, noughts behind them.
-/
namespace Go.Proofs.Ytecljiefljgfmaa
open Go.RowKit

theorem padTo_get {b : List UInt8} {i j : Nat} (hi : 256 * i < b.length) (hj : j < 256) : ∃ h : j < (fsec (padTo b) i).length, (fsec (padTo b) i)[j] = b.getD (256 * i + j) 0 := by
  have hl : (fsec (padTo b) i).length = 256 := fsec_length (padTo_length b) (by unfold sect; omega)
  refine ⟨by omega, ?_⟩
  simp only [fsec, List.getElem_take, List.getElem_drop, padTo]
  by_cases h : 256 * i + j < b.length
  · rw [List.getElem_append_left h, List.getD_eq_getElem?_getD, List.getElem?_eq_getElem h]; rfl
  · rw [List.getElem_append_right (by omega), List.getD_eq_getElem?_getD, List.getElem?_eq_none (by omega)]
    simp

set_option maxHeartbeats 2000000 in
set_option maxRecDepth 20000 in
theorem part_any (a : Option Addr) (b : List UInt8) (cap i : Nat) (w : World) (hb : Bytes w a b) (hi : 256 * i < b.length) (hl : b.length ≤ 100000000) :
    Calls Try.prog 51 #[.slice a b.length cap, .int .i64 (i : Int)] w fun e w' => e = .returned (.string (fsecB (padTo b) i)) ∧ Below w.heap.size w w' := by
  obtain ⟨q, hq⟩ : ∃ q, q = 256 * i := ⟨_, rfl⟩
  have hq2 : (256 : Int) * (i : Int) = (q : Int) := by omega
  have hfl : (fsec (padTo b) i).length = 256 := fsec_length (padTo_length b) (by unfold sect; omega)
  have HG : Hid (∀ j (hj : j < 256), (fsec (padTo b) i).take (j + 1) = (fsec (padTo b) i).take j ++ [b.getD (q + j) 0]) := (by
    intro j hj
    obtain ⟨h1, h2⟩ := padTo_get hi hj
    rw [List.take_succ_eq_append_getElem h1, h2, hq])
  have HB : Hid (Bytes w a b) := hb
  have HFL : Hid ((fsec (padTo b) i).length = 256) := hfl
  obtain ⟨X, hX⟩ : ∃ X, X = fsec (padTo b) i := ⟨_, rfl⟩
  rw [show fsecB (padTo b) i = ⟨X.toArray⟩ from by rw [hX]; rfl]
  rw [← hX] at HG HFL
  have hqb : q < b.length := by omega
  clear hb hi hq hfl hX
  go_enter Try.func51, Try.ntmps51
  go_wp2
  go_loopw [5, 6] (fun v kv wr => ∃ j : Nat, j ≤ 256 ∧ kv = .int .i64 ((q + j : Nat) : Int) ∧ Own wr w.heap.size v (X.take j) ∧ Below w.heap.size w wr) (fun _ kv _ => q + 256 - (intOf kv).toNat)
  case atStart => exact ⟨0, by omega, rfl, by rw [List.take_zero]; exact World.ownsRow_nil _ _ _ _, Below.refl _ _⟩
  case round =>
    obtain ⟨j, hj, rfl, hown, hbw⟩ := hrel
    have hlen : (X.take j).length = j := by rw [List.length_take, HFL.out]; omega
    by_cases hlt : j < 256
    · have hg := HG.out j hlt
      obtain ⟨t, ht⟩ : ∃ t, t = q + j := ⟨_, rfl⟩
      rw [← ht] at hg ⊢
      have ht1 : (t : Int) < (q : Int) + 256 := by omega
      have ht2 : t ≤ 100000256 := by omega
      have HT : Hid (t = q + j) := ht
      by_cases htb : t < b.length
      · have htbi : (t : Int) < (b.length : Int) := by omega
        obtain ⟨bb, off, rfl, hbl, hcs⟩ : ∃ bb off, a = some ⟨bb, off, none⟩ ∧ bb < w.heap.size ∧ w.cell? ⟨bb, off + t, none⟩ = some (.int .u8 ((b.getD t 0).toNat : Int)) := by
          rcases HB.out with h0 | ⟨b', off', e, h1, h2⟩
          · rw [h0] at htb; simp at htb
          · refine ⟨b', off', e, h1, ?_⟩
            rw [h2 t htb, List.getD_eq_getElem?_getD, List.getElem?_eq_getElem htb]; rfl
        have hcell : wr.cell? ⟨bb, off + t, none⟩ = some (.int .u8 ((b.getD t 0).toNat : Int)) := (hbw.cell (p := ⟨bb, off + t, none⟩) hbl).trans hcs
        obtain ⟨c, hc⟩ : ∃ c, c = b.getD t 0 := ⟨_, rfl⟩
        rw [← hc] at hcell hg
        have hbA : Below wr.heap.size wr (wr.alloc (.cells #[.int .u8 (c.toNat : Int)] 5)) := (Below.refl _ _).alloc (Nat.le_refl _) _
        have hoA : Own (wr.alloc (.cells #[.int .u8 (c.toNat : Int)] 5)) w.heap.size u5 (X.take j) := keeps_below (w := wr) hbA _ _ _ _ _ _ hown
        have hbyA : Bytes (wr.alloc (.cells #[.int .u8 (c.toNat : Int)] 5)) (some ⟨wr.heap.size, 0, none⟩) [c] := bytes_row (by simpa [bcs] using heap_alloc_new wr (.cells #[.int .u8 (c.toNat : Int)] 5))
        have hBA : Below w.heap.size w (wr.alloc (.cells #[.int .u8 (c.toNat : Int)] 5)) := hbw.trans (hbA.mono hbw.size)
        have HOA : Hid (Own (wr.alloc (.cells #[.int .u8 (c.toNat : Int)] 5)) w.heap.size u5 (X.take j) ∧ Bytes (wr.alloc (.cells #[.int .u8 (c.toNat : Int)] 5)) (some ⟨wr.heap.size, 0, none⟩) [c] ∧ Below w.heap.size w (wr.alloc (.cells #[.int .u8 (c.toNat : Int)] 5)) ∧ ∀ z, u5.ownBlock = some z → w.heap.size ≤ z) := ⟨hoA, hbyA, hBA, fun z hz => (owns_lt hown z hz).1⟩
        have HGG : Hid (X.take (j + 1) = X.take j ++ [c]) := hg
        clear hown hbw hbA hoA hbyA hBA hcs hc hg ht
        go_wp2_with (at_builtin; refine wpList_append_bytes rfl (.tmp 20) (.tmp 25) rfl w.heap.size _ (X.take j) rfl HOA.out.1 (some ⟨wr.heap.size, 0, none⟩) [c] 1 rfl HOA.out.2.1 (fun h => by cases h) (by rw [hlen]; simp; omega) HOA.out.2.2.1.size ?_; intro v3 w3 ho3 hg3)
        go_roundw
        case rel => exact ⟨j + 1, by omega, by rw [← Nat.add_assoc, ← HT.out]; go_num, by rw [HGG.out]; exact ho3, HOA.out.2.2.1.grown hg3 HOA.out.2.2.1.size HOA.out.2.2.2⟩
        case measure => have := HT.out; simp [intOf]; omega
      · have htbi : ¬ (t : Int) < (b.length : Int) := by omega
        rw [List.getD_eq_getElem?_getD, List.getElem?_eq_none (by omega)] at hg
        have hbA : Below wr.heap.size wr (wr.alloc (.cells #[.int .u8 0] 5)) := (Below.refl _ _).alloc (Nat.le_refl _) _
        have hoA : Own (wr.alloc (.cells #[.int .u8 0] 5)) w.heap.size u5 (X.take j) := keeps_below (w := wr) hbA _ _ _ _ _ _ hown
        have hbyA : Bytes (wr.alloc (.cells #[.int .u8 0] 5)) (some ⟨wr.heap.size, 0, none⟩) [0] := bytes_row (by simpa [bcs] using heap_alloc_new wr (.cells #[.int .u8 0] 5))
        have hBA : Below w.heap.size w (wr.alloc (.cells #[.int .u8 0] 5)) := hbw.trans (hbA.mono hbw.size)
        have HOA : Hid (Own (wr.alloc (.cells #[.int .u8 0] 5)) w.heap.size u5 (X.take j) ∧ Bytes (wr.alloc (.cells #[.int .u8 0] 5)) (some ⟨wr.heap.size, 0, none⟩) [0] ∧ Below w.heap.size w (wr.alloc (.cells #[.int .u8 0] 5)) ∧ ∀ z, u5.ownBlock = some z → w.heap.size ≤ z) := ⟨hoA, hbyA, hBA, fun z hz => (owns_lt hown z hz).1⟩
        have HGG : Hid (X.take (j + 1) = X.take j ++ [0]) := hg
        clear hown hbw hbA hoA hbyA hBA hg ht
        go_wp2_with (at_builtin; refine wpList_append_bytes rfl (.tmp 27) (.tmp 28) rfl w.heap.size _ (X.take j) rfl HOA.out.1 (some ⟨wr.heap.size, 0, none⟩) [0] 1 rfl HOA.out.2.1 (fun h => by cases h) (by rw [hlen]; simp; omega) HOA.out.2.2.1.size ?_; intro v3 w3 ho3 hg3)
        go_roundw
        case rel => exact ⟨j + 1, by omega, by rw [← Nat.add_assoc, ← HT.out]; go_num, by rw [HGG.out]; exact ho3, HOA.out.2.2.1.grown hg3 HOA.out.2.2.1.size HOA.out.2.2.2⟩
        case measure => have := HT.out; simp [intOf]; omega
    · obtain rfl : j = 256 := by omega
      rw [List.take_of_length_le (by rw [HFL.out]; exact Nat.le_refl _)] at hown
      obtain ⟨ao, co, rfl, hby, _⟩ := hown.open
      have hcv := convert_bytes wr ao co X hby
      rw [HFL.out] at hcv ⊢
      obtain ⟨t, ht⟩ : ∃ t, t = q + 256 := ⟨_, rfl⟩
      rw [← ht]
      have ht1 : ¬ (t : Int) < (q : Int) + 256 := by omega
      clear hown hby ht
      go_wp2
      go_ret
      exact ⟨rfl, hbw⟩
end Go.Proofs.Ytecljiefljgfmaa
/-
  Sectors laid one behind the other on a device told by plain lists: where it lives, and where it fails and is crashed.
-/
namespace Go.Proofs.Ytecljiefljgfmaa

/-- Sectors laid from one on, and the writes that lay them. -/
def puts (S : List ByteArray) (p : Nat) : List ByteArray → List ByteArray
  | [] => S
  | b :: r => puts (S.set p b) (p + 1) r
def cws (p : Nat) : List ByteArray → List (Nat × ByteArray)
  | [] => []
  | b :: r => (p, b) :: cws (p + 1) r
theorem puts_length : ∀ (xs : List ByteArray) (S : List ByteArray) (p : Nat), (puts S p xs).length = S.length
  | [], _, _ => rfl
  | b :: r, S, p => by rw [puts, puts_length r]; simp
theorem app_append (L : List ByteArray) (C C' : List (Nat × ByteArray)) : app L (C ++ C') = app (app L C) C' := by simp [app]
theorem app_cws : ∀ (xs : List ByteArray) (L : List ByteArray) (p : Nat), app L (cws p xs) = puts L p xs
  | [], _, _ => rfl
  | b :: r, L, p => by rw [cws, puts]; exact app_cws r (L.set p b) (p + 1)
theorem puts_get : ∀ (xs : List ByteArray) (S : List ByteArray) (p i : Nat), p + xs.length ≤ S.length → (puts S p xs)[i]? = if p ≤ i ∧ i < p + xs.length then xs[i - p]? else S[i]?
  | [], S, p, i, _ => by rw [puts, if_neg (by simp only [List.length_nil]; omega)]
  | b :: r, S, p, i, h => by
    simp only [List.length_cons] at h
    rw [puts, puts_get r (S.set p b) (p + 1) i (by simp; omega)]
    by_cases hi : p = i
    · subst hi
      rw [if_neg (by omega), if_pos (by simp), List.getElem?_set_self (by omega), Nat.sub_self]; rfl
    · by_cases h2 : p ≤ i ∧ i < p + (b :: r).length
      · simp only [List.length_cons] at h2
        rw [if_pos (by omega), if_pos (by simp; omega), show i - p = (i - (p + 1)) + 1 from by omega]; rfl
      · simp only [List.length_cons] at h2
        rw [if_neg (by omega), if_neg (by simp; omega), List.getElem?_set_ne hi]
theorem puts_size {z : Nat} : ∀ (xs : List ByteArray) (S : List ByteArray) (p : Nat), (∀ x ∈ S, x.size = z) → (∀ x ∈ xs, x.size = z) → ∀ x ∈ puts S p xs, x.size = z
  | [], _, _, h, _ => h
  | b :: r, S, p, h, hx => by
    refine puts_size r (S.set p b) (p + 1) ?_ fun x q => hx x (by simp [q])
    intro x q
    rcases List.mem_or_eq_of_mem_set q with q | rfl
    · exact h x q
    · exact hx x (by simp)

theorem wr_live {M : D} (h0 : M.st = 0) {p : Nat} (hp : p < M.S.length) {b : ByteArray} (hb : b.size = 256) : M.wr (p : Int) b = (0, { M with C := M.C ++ [(p, b)], S := M.S.set p b }) := by
  have hb0 : M.burn = (0, M) := by rw [D.burn, if_pos h0]
  rw [D.wr, if_neg (by rintro ⟨_, q⟩; exact q ⟨by omega, by omega, hb⟩), hb0]
  simp
theorem wrs_live : ∀ (xs : List ByteArray) (M : D) (p : Nat), M.st = 0 → p + xs.length ≤ M.S.length → (∀ x ∈ xs, x.size = 256) → wrs M p xs = (0, { M with S := puts M.S p xs, C := M.C ++ cws p xs })
  | [], M, p, _, _, _ => by rw [wrs, cws, puts, List.append_nil]
  | b :: r, M, p, h0, hp, hx => by
    simp only [List.length_cons] at hp
    rw [wrs, wr_live h0 (by omega) (hx b (by simp)), if_neg (by simp)]
    refine (wrs_live r { M with C := M.C ++ [(p, b)], S := M.S.set p b } (p + 1) h0 (by simp; omega) fun x q => hx x (by simp [q])).trans ?_
    simp [puts, cws]
theorem flush_live {M : D} (h0 : M.st = 0) : M.flush = (0, { M with L := app M.L M.C, C := [] }) := by
  have hb0 : M.burn = (0, M) := by rw [D.burn, if_pos h0]
  rw [D.flush, hb0]
  simp
theorem wrsF_live {xs : List ByteArray} {M : D} {p : Nat} (h0 : M.st = 0) (hp : p + xs.length ≤ M.S.length) (hx : ∀ x ∈ xs, x.size = 256) : wrsF M p xs = (0, { M with S := puts M.S p xs, L := app M.L (M.C ++ cws p xs), C := [] }) := by
  rw [wrsF, wrs_live xs M p h0 hp hx, if_neg (by simp)]
  exact flush_live (M := { M with S := puts M.S p xs, C := M.C ++ cws p xs }) h0

/-- A device that lives, and on which nothing waits. -/
structure Calm (M : D) : Prop where
  st : M.st = 0
  c : M.C = []
  l : M.L = M.S
  sz : ∀ x ∈ M.S, x.size = 256

theorem fsecB_size {P : List UInt8} {n j : Nat} (hP : P.length = 256 * n) (hj : j < n) : (fsecB P j).size = 256 := by
  show (fsec P j).toArray.size = _
  rw [List.size_toArray, fsec_length hP hj]
theorem zsec_size : zsec.size = 256 := by
  show (List.replicate 256 (0 : UInt8)).toArray.size = _
  rw [List.size_toArray, List.length_replicate]
theorem fsecs_length (P : List UInt8) (n : Nat) : (fsecs P n).length = n := by simp [fsecs]
theorem burn_gen (M : D) : ∃ e st k, M.burn = (e, { M with st := st, k := k }) ∧ (e = 0 ∨ e = 50) := by
  unfold D.burn
  split
  · exact ⟨0, M.st, M.k, rfl, .inl rfl⟩
  · split
    · exact ⟨0, M.st, M.k - 1, rfl, .inl rfl⟩
    · exact ⟨50, 2, M.k, rfl, .inr rfl⟩
theorem wr_gen (M : D) {p : Nat} (hp : p < M.S.length) {b : ByteArray} (hb : b.size = 256) : ∃ st k, M.wr (p : Int) b = (0, { M with C := M.C ++ [(p, b)], S := M.S.set p b, st := st, k := k }) ∨ M.wr (p : Int) b = (50, { M with st := st, k := k }) := by
  obtain ⟨e, st, k, hbu, he⟩ := burn_gen M
  refine ⟨st, k, ?_⟩
  rw [D.wr, if_neg (by rintro ⟨_, q⟩; exact q ⟨by omega, by omega, hb⟩), hbu]
  rcases he with rfl | rfl
  · left; simp
  · right; simp
theorem wrs_gen : ∀ (xs : List ByteArray) (M : D) (p : Nat), p + xs.length ≤ M.S.length → (∀ x ∈ xs, x.size = 256) →
    ∃ st k S, wrs M p xs = (0, { M with S := puts M.S p xs, C := M.C ++ cws p xs, st := st, k := k }) ∨ ∃ j, wrs M p xs = (50, { M with S := S, C := M.C ++ (cws p xs).take j, st := st, k := k })
  | [], M, p, _, _ => ⟨M.st, M.k, [], .inl (by rw [wrs, cws, puts, List.append_nil])⟩
  | b :: r, M, p, hp, hx => by
    simp only [List.length_cons] at hp
    obtain ⟨st, k, h | h⟩ := wr_gen M (p := p) (by omega) (hx b (by simp))
    · obtain ⟨st2, k2, S2, h2 | ⟨j, h2⟩⟩ := wrs_gen r { M with C := M.C ++ [(p, b)], S := M.S.set p b, st := st, k := k } (p + 1) (by simp; omega) fun x q => hx x (by simp [q])
      · refine ⟨st2, k2, S2, .inl ?_⟩
        rw [wrs, h, if_neg (by simp)]
        refine h2.trans ?_
        simp [puts, cws]
      · refine ⟨st2, k2, S2, .inr ⟨j + 1, ?_⟩⟩
        rw [wrs, h, if_neg (by simp)]
        refine h2.trans ?_
        simp [cws]
    · refine ⟨st, k, M.S, .inr ⟨0, ?_⟩⟩
      rw [wrs, h, if_pos (by simp)]
      simp
theorem flush_gen (M : D) : ∃ st k, M.flush = (0, { M with L := app M.L M.C, C := [], st := st, k := k }) ∨ M.flush = (50, { M with st := st, k := k }) := by
  obtain ⟨e, st, k, hbu, he⟩ := burn_gen M
  refine ⟨st, k, ?_⟩
  rw [D.flush, hbu]
  rcases he with rfl | rfl
  · left; simp
  · right; simp
theorem wrsF_gen (xs : List ByteArray) (M : D) (p : Nat) (hp : p + xs.length ≤ M.S.length) (hx : ∀ x ∈ xs, x.size = 256) :
    ∃ st k S, wrsF M p xs = (0, { M with S := puts M.S p xs, L := app M.L (M.C ++ cws p xs), C := [], st := st, k := k }) ∨ ∃ j, wrsF M p xs = (50, { M with S := S, C := M.C ++ (cws p xs).take j, st := st, k := k }) := by
  obtain ⟨st, k, S, h | ⟨j, h⟩⟩ := wrs_gen xs M p hp hx
  · obtain ⟨st2, k2, h2 | h2⟩ := flush_gen { M with S := puts M.S p xs, C := M.C ++ cws p xs, st := st, k := k }
    · exact ⟨st2, k2, S, .inl (by rw [wrsF, h, if_neg (by simp)]; exact h2)⟩
    · refine ⟨st2, k2, puts M.S p xs, .inr ⟨(cws p xs).length, ?_⟩⟩
      rw [wrsF, h, if_neg (by simp)]
      refine h2.trans ?_
      rw [List.take_length]
  · exact ⟨st, k, S, .inr ⟨j, by rw [wrsF, h, if_pos (by simp)]⟩⟩

theorem kept_mem {keep : List Bool} {C : List (Nat × ByteArray)} {p : Nat × ByteArray} (h : p ∈ kept keep C) : p ∈ C := by
  unfold kept at h
  obtain ⟨q, hq, rfl⟩ := List.mem_map.1 h
  have := (List.mem_filter.1 hq).1
  exact List.fst_mem_of_mem_zipIdx this
theorem cws_mem : ∀ {xs : List ByteArray} {p : Nat} {q : Nat × ByteArray}, q ∈ cws p xs → p ≤ q.1 ∧ q.2 ∈ xs
  | [], _, _, h => by simp [cws] at h
  | b :: r, p, q, h => by
    rcases List.mem_cons.1 h with rfl | h
    · exact ⟨Nat.le_refl _, by simp⟩
    · have := cws_mem h
      exact ⟨by omega, by simp [this.2]⟩
theorem app_other : ∀ (C : List (Nat × ByteArray)) (L : List ByteArray) (i : Nat), (∀ p ∈ C, p.1 ≠ i) → (app L C)[i]? = L[i]?
  | [], _, _, _ => rfl
  | p :: r, L, i, h => by
    show (app (L.set p.1 p.2) r)[i]? = _
    rw [app_other r _ i fun q hq => h q (by simp [hq]), List.getElem?_set_ne (h p (by simp))]
theorem app_size {z : Nat} : ∀ (C : List (Nat × ByteArray)) (L : List ByteArray), (∀ x ∈ L, x.size = z) → (∀ p ∈ C, p.2.size = z) → ∀ x ∈ app L C, x.size = z
  | [], _, h, _ => h
  | p :: r, L, h, hc => by
    refine app_size r (L.set p.1 p.2) ?_ fun q hq => hc q (by simp [hq])
    intro x q
    rcases List.mem_or_eq_of_mem_set q with q | rfl
    · exact h x q
    · exact hc p (by simp)

theorem crash_calm {M : D} {keep : List Bool} (hs : ∀ x ∈ (M.crash keep).L, x.size = 256) : Calm (M.crash keep) := ⟨rfl, rfl, rfl, hs⟩
/-- The sectors of a frame, where they lie. -/
def Laid (S : List ByteArray) (p : Nat) (P : List UInt8) (n : Nat) : Prop := ∀ j, j < n → S[p + j]? = some (fsecB P j)
theorem secs_laid {S : List ByteArray} {p n : Nat} {P : List UInt8} (h : Laid S p P n) : ∀ k, k ≤ n → secs S p k = P.take (256 * k)
  | 0, _ => by simp [secs]
  | k + 1, hk => by
    have hx := h k (by omega)
    obtain ⟨hlt, he⟩ := List.getElem?_eq_some_iff.1 hx
    rw [secs_succ hlt, secs_laid h k (by omega), he, show 256 * (k + 1) = 256 * k + 256 from by omega, List.take_add]
    rfl
theorem secs_same {S S' : List ByteArray} {p k : Nat} (h : ∀ j, j < k → S'[p + j]? = S[p + j]?) : secs S' p k = secs S p k := by
  unfold secs
  congr 1
  apply List.ext_getElem?
  intro i
  by_cases hi : i < k
  · rw [List.getElem?_take_of_lt hi, List.getElem?_take_of_lt hi, List.getElem?_drop, List.getElem?_drop, h i hi]
  · rw [List.getElem?_take_eq_none (by omega), List.getElem?_take_eq_none (by omega)]
end Go.Proofs.Ytecljiefljgfmaa

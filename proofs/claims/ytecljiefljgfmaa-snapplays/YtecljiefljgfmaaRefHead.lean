/-
  The document's head of a slot by its contract.
-/
import Derived.Test.YtecljiefljgfmaaHead
import Derived.Test.YtecljiefljgfmaaRefPack
import Derived.Test.YtecljiefljgfmaaRefCrc
namespace Go.Proofs.Ytecljiefljgfmaa
open Go.RowKit

/-- 'append' to a full slice of bytes: a new row. -/
theorem append_full (w : World) (b o c p cy : Nat) (xs ys : List UInt8) (hx : Bytes w (some ⟨b, o, none⟩) xs) (hy : Bytes w (some ⟨c, p, none⟩) ys) (h0 : 0 < ys.length) (h63 : xs.length + ys.length ≤ 100000000) :
    ∃ v w', (∀ ty, (Builtin.append_ #[50, 50] ty #[.slice (some ⟨b, o, none⟩) xs.length xs.length, .slice (some ⟨c, p, none⟩) ys.length cy]).run Try.prog w = .ok v w') ∧ Own w' w.heap.size v (xs ++ ys) ∧ Below w.heap.size w w' := by
  obtain ⟨i0, hi, hz0, hz1, hz2⟩ := info_parts info5
  have hG : xs.length + ys.length ≤ grownCap w (xs.length + ys.length) xs.length 5 := grownCap_ge w _ _ _
  have hG2 := grownCap_le_maxLen w (xs.length + ys.length) xs.length 5 (by unfold maxLen; omega)
  have hrun := fun ty => run_append_grow (P := Try.prog) w 50 ty 5 i0 (.int .u8 0) Try.underlying50 hi hz0 ⟨b, o, none⟩ xs.length xs.length (bcs xs) (by rw [hz1, bcs_length]; omega) hx.cells ⟨c, p, none⟩ ys.length cy (bcs ys) (by rw [hz1, bcs_length]; omega) hy.cells (by omega) (by omega) (by rw [hz2]; have := growslice_fits (need := xs.length + ys.length) (old := xs.length) (bytes := 1) (by omega) (by omega); simpa using this)
  obtain ⟨k, hk⟩ : ∃ k, k = grownCap w (xs.length + ys.length) xs.length 5 := ⟨_, rfl⟩
  rw [← hk] at hG hG2
  simp only [← hk] at hrun
  refine ⟨_, _, hrun, ?_, ((Below.refl _ w).drew).alloc (Nat.le_refl _) _⟩
  refine ⟨by rw [bcs_length]; omega, .inr ⟨w.heap.size, k, _, by rw [List.length_append], Nat.le_refl _, heap_alloc_new w.drew _, by rw [List.length_append]; exact hG, hG2, ?_, ?_⟩⟩
  · rw [Array.size_append, Array.size_append, zeroCells_size, List.size_toArray, List.size_toArray, bcs_length, bcs_length]
    omega
  · rw [List.length_append]
    simp only [Array.toList_append, Nat.mul_one]
    rw [List.take_left' (by simp [bcs_length])]
    simp [bcs]

set_option maxHeartbeats 2000000 in
set_option maxRecDepth 20000 in
theorem refHead_any (ep : Nat) (a : Option Addr) (st : List UInt8) (cap : Nat) (w : World) (hep : ep < 18446744073709551616) (hb : Bytes w a st) (hl : st.length ≤ 10000000) (hno : a = none → cap = 0) :
    Calls Try.prog 64 #[.int .u64 (ep : Int), .slice a st.length cap] w fun e w' => ∃ v, e = .returned v ∧ Own w' w.heap.size v (headL ep st) ∧ Below w.heap.size w w' := by
  have hp1 := refPut64_any ep w hep
  obtain ⟨n, hn⟩ : ∃ n, n = st.length := ⟨_, rfl⟩
  have HN : Hid (n = st.length) := hn
  have HB : Hid (Bytes w a st) := hb
  rw [← hn] at hl ⊢
  clear hb hn
  go_enter Try.func64, Try.ntmps64
  go_wp2_with fail
  refine Calls.mono hp1 ?_
  rintro e w1 ⟨v1, rfl, ho1, hb1⟩
  obtain ⟨a1, c1, rfl, hby1, hno1, _⟩ := ho1.open
  rw [be_length]
  clear ho1 hp1
  have hsz1 := hb1.size
  go_upto_region 3 with (at_builtin; refine wpList_append_bytes rfl (.tmp 8) (.tmp 10) rfl w.heap.size (.slice none 0 0) [] rfl (World.ownsRow_nil _ _ _ _) a1 (be ep 8) c1 (by rw [be_length]; rfl) hby1 hno1 (by rw [be_length]; simp) hsz1 ?_; intro v2 w2 ho2 hg2)
  rw [List.nil_append] at ho2
  have hb2 : Below w.heap.size w w2 := hb1.grown hg2 hsz1 (by simp [Value.ownBlock])
  have hp2 := refPut64_any n w2 (by omega)
  have HO2 : Hid (Own w2 w.heap.size v2 (be ep 8) ∧ Below w.heap.size w w2) := ⟨ho2, hb2⟩
  clear hby1 hno1 hsz1 hg2 ho2 hb1 hb2
  go_wp2_with fail
  refine Calls.mono hp2 ?_
  rintro e w3 ⟨v3, rfl, ho3, hb3⟩
  obtain ⟨a3, c3, rfl, hby3, hno3, _⟩ := ho3.open
  rw [be_length]
  have hO3 : Own w3 w.heap.size v2 (be ep 8) := keeps_below (w := w2) hb3 _ _ _ _ _ _ HO2.out.1
  have hB3 : Below w.heap.size w w3 := HO2.out.2.trans (hb3.mono HO2.out.2.size)
  have hsz3 := hB3.size
  clear ho3 hp2
  go_upto_region 5 with (at_builtin; refine wpList_append_bytes rfl (.tmp 12) (.tmp 16) rfl w.heap.size _ (be ep 8) rfl hO3 a3 (be n 8) c3 (by rw [be_length]; rfl) hby3 hno3 (by rw [be_length, be_length]; omega) hsz3 ?_; intro v4 w4 ho4 hg4)
  have hb4 : Below w.heap.size w w4 := hB3.grown hg4 hsz3 (fun z hz => (owns_lt HO2.out.1 z hz).1)
  have est : be ep 8 ++ be n 8 = stampS ep st := by rw [stampS, HN.out]
  rw [est] at ho4
  obtain ⟨a4, c4, rfl, hby4, hno4, _⟩ := ho4.open
  rw [stampS_length]
  have HM : Hid (Bytes w4 a4 (stampS ep st) ∧ (a4 = none → c4 = 0) ∧ Below w.heap.size w w4) := ⟨hby4, hno4, hb4⟩
  have hz4 : w4.heap.size ≤ w4.heap.size := Nat.le_refl _
  clear HO2 hby3 hno3 hO3 hB3 hsz3 hb3 hg4 est ho4 hb4
  go_upto_region 6 with (at_builtin; refine wpList_append_bytes rfl (.tmp 18) (.tmp 19) rfl w4.heap.size (.slice none 0 0) [] rfl (World.ownsRow_nil _ _ _ _) a4 (stampS ep st) c4 (by rw [stampS_length]; rfl) hby4 hno4 (by rw [stampS_length]; simp) hz4 ?_; intro v5 w5 ho5 hg5)
  rw [List.nil_append] at ho5
  have hb5 : Below w4.heap.size w4 w5 := (Below.refl _ _).grown hg5 hz4 (by simp [Value.ownBlock])
  have hst5 : Bytes w5 a st := (HB.out.below HM.out.2.2 (Nat.le_refl _)).below hb5 (Nat.le_refl _)
  have hz5 := hb5.size
  have HO5 : Hid (∀ z, v5.ownBlock = some z → w4.heap.size ≤ z) := fun z hz => (owns_lt ho5 z hz).1
  clear hby4 hno4 hg5 hz4
  go_upto_region 7 with (at_builtin; refine wpList_append_bytes rfl (.tmp 21) (.tmp 22) rfl w4.heap.size _ (stampS ep st) rfl ho5 a st cap (by rw [← HN.out]; rfl) hst5 hno (by rw [stampS_length, ← HN.out]; omega) hz5 ?_; intro v6 w6 ho6 hg6)
  have hb6 : Below w4.heap.size w4 w6 := hb5.grown hg6 hz5 HO5.out
  have hlen6 : (stampS ep st ++ st).length = 16 + n := by rw [List.length_append, stampS_length, HN.out]
  obtain ⟨a6, c6, rfl, hby6, hno6, _⟩ := ho6.open
  rw [hlen6]
  obtain ⟨w7, hw7⟩ : ∃ w7, w7 = w6.alloc (.cells #[.int .u8 83, .int .u8 78, .int .u8 65, .int .u8 80] 5 (4, 5)) := ⟨_, rfl⟩
  have hcvt : (convert 50 50 (.slice (some ⟨w6.heap.size, 0, none⟩) 4 4)).run Try.prog (w6.alloc (.cells #[.int .u8 83, .int .u8 78, .int .u8 65, .int .u8 80] 5)) = .ok (.slice (some ⟨w6.heap.size, 0, none⟩) 4 4) w7 := by
    rw [hw7]
    exact Lib.run_convert_bytes_const w6 50 5 #[.int .u8 83, .int .u8 78, .int .u8 65, .int .u8 80] 4 4 Try.underlying50 Try.underlying5
  have hb67 : Below w6.heap.size w6 w7 := by rw [hw7]; exact (Below.refl _ _).alloc (Nat.le_refl _) _
  have hmk : Bytes w7 (some ⟨w6.heap.size, 0, none⟩) markL := by
    have hn7 : w7.heap[w6.heap.size]? = some (.cells #[.int .u8 83, .int .u8 78, .int .u8 65, .int .u8 80] 5 (4, 5)) := by rw [hw7]; exact heap_alloc_new w6 _
    refine .inr ⟨_, 0, rfl, (Array.getElem?_eq_some_iff.1 hn7).1, fun j hj => ?_⟩
    have hj4 : j < 4 := hj
    rcases (by omega : j = 0 ∨ j = 1 ∨ j = 2 ∨ j = 3) with rfl | rfl | rfl | rfl <;> simp [World.cell?, hn7, markL]
  have hcr := refCrc_any a6 (stampS ep st ++ st) c6 w7 (by rw [hlen6]; omega) (hby6.below hb67 (Nat.le_refl _))
  obtain ⟨cv, hcv⟩ : ∃ cv, cv = crcN (stampS ep st ++ st) := ⟨_, rfl⟩
  rw [hlen6, show W (crcL (stampS ep st ++ st)) = (cv : Int) from by rw [hcv]; rfl] at hcr
  have hcv4 : cv < 4294967296 := by rw [hcv]; exact crcN_lt _
  have hfo := four_any cv w7 hcv4
  have hb7 : Below w4.heap.size w4 w7 := hb6.trans (hb67.mono hb6.size)
  have HF : Hid (∀ w8, (∀ j u, (bcs (be cv 4))[j]? = some u → w8.cell? ((⟨w7.heap.size, 0, none⟩ : Addr).add j) = some u) → Below w7.heap.size w7 w8 → ∃ v9 w9, (∀ ty, (Builtin.append_ #[50, 50] ty #[.slice (some ⟨w6.heap.size, 0, none⟩) 4 4, .slice (some ⟨w7.heap.size, 0, none⟩) 4 4]).run Try.prog w8 = .ok v9 w9) ∧ Own w9 w8.heap.size v9 (markL ++ be cv 4) ∧ Below w8.heap.size w8 w9 ∧ Bytes w9 a4 (stampS ep st) ∧ Below w.heap.size w w8) := (by
    intro w8 hc8 hb8
    have hs8 : w7.heap.size < w8.heap.size := by
      have := hc8 0 _ (bcs_get (by rw [be_length]; omega))
      rw [Addr.add_lit] at this
      rcases Nat.lt_or_ge w7.heap.size w8.heap.size with h | h
      · exact h
      · simp [World.cell?, Array.getElem?_eq_none h] at this
    have hB8 : Below w4.heap.size w4 w8 := hb7.trans (hb8.mono hb7.size)
    have hy : Bytes w8 (some ⟨w7.heap.size, 0, none⟩) (be cv 4) := .inr ⟨_, 0, rfl, hs8, fun j hj => by
      have := hc8 j _ (bcs_get hj)
      rwa [Addr.add_lit] at this⟩
    obtain ⟨v9, w9, q1, q2, q3⟩ := append_full w8 w6.heap.size 0 w7.heap.size 0 4 markL (be cv 4) (hmk.below hb8 (Nat.le_refl _)) hy (by rw [be_length]; omega) (by rw [be_length]; simp [markL])
    rw [be_length] at q1
    exact ⟨v9, w9, q1, q2, q3, (HM.out.1.below hB8 (Nat.le_refl _)).below q3 (Nat.le_refl _), HM.out.2.2.trans (hB8.mono HM.out.2.2.size)⟩)
  have HH : Hid (headL ep st = markL ++ be cv 4 ++ stampS ep st) := (show _ = _ from by rw [headL, hcv]; rfl)
  clear hby6 hno6 ho6 hg6 ho5 hst5 hw7 hb67 hmk hb7 hb6 hb5 hcv hlen6
  go_upto_region 8 with fail
  clear hcvt
  go_upto_region 9 with (first
    | (go_at_call 86; (with_reducible refine Calls.mono hcr ?_); rintro e w7' ⟨rfl, rfl⟩)
    | (go_at_call 85; (with_reducible refine Calls.mono hfo ?_); rintro e w8 ⟨rfl, hc8, hb8⟩; obtain ⟨v9, w9, hap9, ho9, hb9, hby9, hbw8⟩ := HF.out w8 hc8 hb8; have HAP := (show Hid _ from hap9); clear hap9)
    | (at_builtin; refine wpList_append_run rfl (.tmp 26) (.tmp 29) 50 50 rfl (.slice (some ⟨w6.heap.size, 0, none⟩) 4 4) (.slice (some ⟨w7.heap.size, 0, none⟩) 4 4) rfl rfl v9 w9 HAP.out ?_))
  have hz9 := hb9.size
  have HO9 : Hid (∀ z, v9.ownBlock = some z → w8.heap.size ≤ z) := fun z hz => (owns_lt ho9 z hz).1
  clear hcr hfo HAP HF hc8
  go_wp2_with (at_builtin; refine wpList_append_bytes rfl (.tmp 31) (.tmp 32) rfl w8.heap.size _ (markL ++ be cv 4) rfl ho9 a4 (stampS ep st) c4 (by rw [stampS_length]; rfl) hby9 HM.out.2.1 (by rw [List.length_append, be_length, stampS_length]; simp [markL]) hz9 ?_; intro v10 w10 ho10 hg10)
  go_ret
  have hb10 : Below w8.heap.size w8 w10 := hb9.grown hg10 hz9 HO9.out
  rw [HH.out]
  exact ⟨v10, rfl, owns_base ho10 (fun j hj => by have := (owns_lt ho10 j hj).1; have := hbw8.size; omega), hbw8.trans (hb10.mono hbw8.size)⟩
end Go.Proofs.Ytecljiefljgfmaa

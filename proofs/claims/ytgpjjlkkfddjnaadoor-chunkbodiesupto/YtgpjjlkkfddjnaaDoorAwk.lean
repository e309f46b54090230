/-
  stowagelaw19.awake.
-/
import Derived.Test.YtgpjjlkkfddjnaaDoorChB
import Derived.Lib.SlBytesConst
namespace Go.Proofs.YtgpjjlkkfddjnaaDoor
open Go.RowKit

def aw0 : Wh := ⟨[], [50, 48, 49, 51, 48, 53, 50, 52, 84, 48, 48, 48, 48, 48, 48, 90], [120], [121], [107], []⟩
theorem aw_nil : decL aw0 0 [] = ([], 307) := by rfl
theorem const_bytes (w : World) (L : List UInt8) (fr : Nat × Nat) : Bytes (w.alloc (.cells (bcs L).toArray 5 fr)) (some ⟨w.heap.size, 0, none⟩) L := by
  refine .inr ⟨w.heap.size, 0, rfl, by show w.heap.size < (w.heap.push _).size; simp, fun j hj => ?_⟩
  rw [Nat.zero_add, World.cell?_alloc_mark]
  have := bcs_get hj
  simpa using this
theorem own_head {w : World} {base : Nat} {v : Value} {l : List UInt8} (h : Own w base v l) : ∃ a cap, v = .slice a l.length cap ∧ l.length ≤ cap ∧ cap ≤ 9223372036854775807 ∧ Bytes w a l ∧ (∀ x, a = some x → x.spot = none ∧ x.block < w.heap.size) ∧ (a = none → cap = 0) := by
  obtain ⟨a0, c0, e0, hB⟩ := h.bytes
  obtain ⟨hl, ⟨rfl, hn⟩ | ⟨g, cap, cur, rfl, hg, hh, hnc, hcm, hcs, htk⟩⟩ := h
  · simp only [Value.slice.injEq] at e0
    obtain ⟨rfl, h1, rfl⟩ := e0
    exact ⟨none, 0, by rw [← h1], by omega, by omega, hB, (fun x hx => by cases hx), fun _ => rfl⟩
  · simp only [Value.slice.injEq] at e0
    obtain ⟨rfl, h1, rfl⟩ := e0
    refine ⟨_, cap, rfl, hnc, by unfold maxLen at hcm; omega, hB, fun x hx => ?_, fun h => by cases h⟩
    simp only [Option.some.injEq] at hx
    subst hx
    exact ⟨rfl, blk_lt hh⟩
theorem encL_len (x : Wh) (data : List UInt8) (zs : List Int) : (encL x data zs).length ≤ 164 * (zs.length + 2) + data.length := by
  have h1 := encF_len (key := x.key) (date := x.date) (scope := x.scope) (cutL data zs) x.sig
  have h2 := cut_len zs data
  have h3 := cut_flat zs data
  rw [h3] at h1
  have h4 : 164 * (cutL data zs).length ≤ 164 * (zs.length + 2) := Nat.mul_le_mul_left _ h2
  rw [encL]
  omega
set_option maxRecDepth 20000 in
set_option maxHeartbeats 4000000 in
theorem awake_any (w : World) (he : Er w) (ht : Tz w) : Calls Tryd.prog 14 #[] w fun e w' => e = .returned (.bool true) ∧ Below w.heap.size w w' := by
  have HE := (show Hid (Er w ∧ Tz w) from ⟨he, ht⟩)
  clear he ht
  have hc1 := Lib.run_convert_bytes_const (P := Tryd.prog) w 22 5 #[.int .u8 107] 1 1 Tryd.underlying22 Tryd.underlying5
  go_enter Tryd.func14, Tryd.ntmps14
  go_upto_region 2 with fail
  obtain ⟨W1, hW1⟩ : ∃ W1, W1 = w.alloc (.cells #[.int .u8 107] 5 (1, 2)) := ⟨_, rfl⟩
  obtain ⟨W2, hW2⟩ : ∃ W2, W2 = W1.alloc (.cells #[.string ⟨#[]⟩, .string ⟨#[50, 48, 49, 51, 48, 53, 50, 52, 84, 48, 48, 48, 48, 48, 48, 90]⟩, .string ⟨#[120]⟩, .string ⟨#[121]⟩, .slice (some ⟨w.heap.size, 0, none⟩) 1 1, .string ⟨#[]⟩] 24) := ⟨_, rfl⟩
  rw [← hW1, ← hW2]
  have hs1 : W1.heap.size = w.heap.size + 1 := by rw [hW1]; show (w.heap.push _).size = _; simp
  have hb1 : Below w.heap.size w W1 := by rw [hW1]; exact (Below.refl _ _).alloc (Nat.le_refl _) _
  have hb2 : Below W1.heap.size W1 W2 := by rw [hW2]; exact (Below.refl _ _).alloc (Nat.le_refl _) _
  obtain ⟨A, hA⟩ : ∃ A, A = w.heap.size := ⟨_, rfl⟩
  obtain ⟨N, hN⟩ : ∃ N, N = w.heap.size + 1 := ⟨_, rfl⟩
  have nN : W2.heap[N]? = some (.cells #[.string ⟨#[]⟩, .string ⟨#[50, 48, 49, 51, 48, 53, 50, 52, 84, 48, 48, 48, 48, 48, 48, 90]⟩, .string ⟨#[120]⟩, .string ⟨#[121]⟩, .slice (some ⟨A, 0, none⟩) 1 1, .string ⟨#[]⟩] 24 (0, 0)) := by
    rw [hW2, hN, ← hs1, hA]
    exact heap_alloc_new W1 _
  have hk1 : Bytes W1 (some ⟨A, 0, none⟩) [107] := by rw [hW1, hA]; exact const_bytes w [107] (1, 2)
  rw [← hN, ← hA]
  have HB2 := (show Hid (Below w.heap.size w W2) from hb1.trans (hb2.mono hb1.size))
  have HK := (show Hid (Bytes W2 (some ⟨A, 0, none⟩) aw0.key) from hk1.below hb2 (Nat.le_refl _))
  have HN := (show Hid _ from nN)
  have hc2 := Lib.run_convert_bytes_const (P := Tryd.prog) W2 22 5 #[.int .u8 97, .int .u8 98, .int .u8 99] 3 3 Tryd.underlying22 Tryd.underlying5
  obtain ⟨x0, x1, x2, x3, x4, x5⟩ := six_of nN
  clear hc1 hs1 hb1 hb2 hk1 hA hN hW1 hW2 nN
  go_wp2_with fail
  clear hc2
  obtain ⟨W3, hW3⟩ : ∃ W3, W3 = W2.alloc (.cells #[.int .u8 97, .int .u8 98, .int .u8 99] 5 (3, 4)) := ⟨_, rfl⟩
  rw [show (W2.alloc (.cells #[.int .u8 97, .int .u8 98, .int .u8 99] 5 (3, 4))) = W3 from hW3.symm]
  have hb3 : Below W2.heap.size W2 W3 := by rw [hW3]; exact (Below.refl _ _).alloc (Nat.le_refl _) _
  have hdB : Bytes W3 (some ⟨W2.heap.size, 0, none⟩) [97, 98, 99] := by rw [hW3]; exact const_bytes W2 [97, 98, 99] (3, 4)
  have HB3 := (show Hid (Below w.heap.size w W3) from HB2.out.trans (hb3.mono HB2.out.size))
  have K1 := (show Hid _ from encode_any aw0 (some ⟨A, 0, none⟩) 1 (some ⟨W2.heap.size, 0, none⟩) [97, 98, 99] 3 none [] 0 W3 (by decide) (by decide) (HK.out.below hb3 (Nat.le_refl _)) (by decide) (by decide) (by decide) (by decide) (by decide) hdB (fun y hy => by simp only [Option.some.injEq] at hy; subst hy; exact ⟨rfl, by rw [hW3]; show W2.heap.size < (W2.heap.push _).size; simp⟩) (fun h => by cases h) (.inl rfl) (by simp) (HE.out.2.below HB3.out (Nat.le_refl _)))
  have hn3 := (hb3.block N (blk_lt HN.out)).trans HN.out
  have HN3 := (show Hid _ from hn3)
  have HK3 := (show Hid (Bytes W3 (some ⟨A, 0, none⟩) aw0.key) from HK.out.below hb3 (Nat.le_refl _))
  obtain ⟨E, hE⟩ : ∃ E, E = encL aw0 [97, 98, 99] [] := ⟨_, rfl⟩
  rw [← hE] at K1
  have HEE := (show Hid (decL aw0 3 E = ([97, 98, 99], 0) ∧ E.length ≤ 1000000) from by
    rw [hE]
    exact ⟨by rw [back_all aw0 [97, 98, 99] [] 3 (by decide)]; rfl, by have := encL_len aw0 [97, 98, 99] []; simp only [List.length_cons, List.length_nil] at this; omega⟩)
  clear hE hb3 hdB hW3 hn3 x0 x1 x2 x3 x4 x5 HN
  refine Calls.mono K1.out ?_
  rintro e w4 ⟨v4, rfl, ho4, hb4⟩
  have HB4 := (show Hid (Below w.heap.size w w4) from HB3.out.trans (hb4.mono HB3.out.size))
  have hn4 := (hb4.block N (blk_lt HN3.out)).trans HN3.out
  have HN4 := (show Hid _ from hn4)
  have HK4 := (show Hid (Bytes w4 (some ⟨A, 0, none⟩) aw0.key) from HK3.out.below hb4 (Nat.le_refl _))
  obtain ⟨ba, bc, rfl, hbl, hbm, hbB, hbo, hbn⟩ := own_head ho4
  have K2 := (show Hid _ from decode_any aw0 (some ⟨A, 0, none⟩) 1 ba E bc 3 w4 (by decide) (by decide) HK4.out (by decide) (by decide) (by decide) hbB hbl hbn hbo hbm (by have := HEE.out.2; omega) (HE.out.1.below HB4.out (Nat.le_refl _)))
  rw [HEE.out.1] at K2
  obtain ⟨x0, x1, x2, x3, x4, x5⟩ := six_of hn4
  clear hn4 ho4 hb4 hbl hbm hbB hbo hbn K1
  go_wp2_with fail
  refine Calls.mono K2.out ?_
  rintro e w5 ⟨v5, rfl, ho5, hb5⟩
  have HB5 := (show Hid (Below w.heap.size w w5) from HB4.out.trans (hb5.mono HB4.out.size))
  have hn5 := (hb5.block N (blk_lt HN4.out)).trans HN4.out
  have HN5 := (show Hid _ from hn5)
  have HK5 := (show Hid (Bytes w5 (some ⟨A, 0, none⟩) aw0.key) from HK4.out.below hb5 (Nat.le_refl _))
  have HO5 := (show Hid (Own w5 w4.heap.size v5 [97, 98, 99]) from ho5)
  have K3 := (show Hid _ from decode_any aw0 (some ⟨A, 0, none⟩) 1 none [] 0 0 w5 (by decide) (by decide) HK5.out (by decide) (by decide) (by decide) (.inl rfl) (Nat.le_refl _) (fun _ => rfl) (fun y hy => by cases hy) (by decide) (by simp) (HE.out.1.below HB5.out (Nat.le_refl _)))
  rw [aw_nil] at K3
  obtain ⟨x0, x1, x2, x3, x4, x5⟩ := six_of hn5
  clear hn5 ho5 hb5 K2
  go_wp2_with fail
  refine Calls.mono K3.out ?_
  rintro e w6 ⟨v6, rfl, ho6, hb6⟩
  have HB6 := (show Hid (Below w.heap.size w w6) from HB5.out.trans (hb6.mono HB5.out.size))
  have hn6 := (hb6.block N (blk_lt HN5.out)).trans HN5.out
  have HK6 := (show Hid (Bytes w6 (some ⟨A, 0, none⟩) aw0.key) from HK5.out.below hb6 (Nat.le_refl _))
  have hcv : (convert 22 9 v5).run Tryd.prog w6 = .ok (.string ⟨#[97, 98, 99]⟩) w6 := by
    have ho := own_md HO5.out (Md.ofBelow (F := fun _ => False) hb6) (fun _ _ h => h)
    obtain ⟨a, c, e, -, -, hB, -, -⟩ := own_head ho
    rw [e]
    exact convert_bytes w6 a c [97, 98, 99] hB
  have K4 := (show Hid _ from sign_any aw0 (some ⟨A, 0, none⟩) 1 [] [] none 0 w6 (by decide) (by decide) HK6.out (Nat.le_refl _) (by simp) (.inl rfl) (by decide) (by decide) (by simp))
  have HSG := sgL_len aw0.key aw0.date aw0.scope [] []
  obtain ⟨SG, hSG⟩ : ∃ SG, SG = sgL aw0.key aw0.date aw0.scope [] [] := ⟨_, rfl⟩
  rw [← hSG] at K4 HSG
  have HSL := (show Hid (SG.length = 64) from HSG)
  obtain ⟨x0, x1, x2, x3, x4, x5⟩ := six_of hn6
  clear hn6 ho6 hb6 K3 hSG HSG
  go_wp2_with fail
  refine Calls.mono K4.out ?_
  rintro e w7 ⟨rfl, hb7⟩
  have HB7 := (show Hid (Below w.heap.size w w7) from HB6.out.trans (hb7.mono HB6.out.size))
  obtain ⟨GS, hGS⟩ : ∃ GS : ByteArray, GS = ⟨SG.toArray⟩ := ⟨_, rfl⟩
  have hGz : GS.size = 64 := by rw [hGS]; have := HSL.out; simpa [ByteArray.size] using this
  rw [← hGS]
  clear hGS hb7 K4
  go_wp2
  go_ret
  exact ⟨rfl, HB7.out⟩
end Go.Proofs.YtgpjjlkkfddjnaaDoor

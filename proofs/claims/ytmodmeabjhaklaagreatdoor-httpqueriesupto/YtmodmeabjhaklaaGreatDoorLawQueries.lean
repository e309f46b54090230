/-
  HttpQueries: the law's walk.
-/
import Derived.Test.YtmodmeabjhaklaaGreatDoorRqB
import Derived.Test.YtmodmeabjhaklaaGreatDoorAwk
namespace Go.Proofs.YtmodmeabjhaklaaGreatDoor
open Go.RowKit

set_option maxRecDepth 20000 in
set_option maxHeartbeats 4000000 in
theorem httpQueries_walk (t : List UInt8) (a : Option Addr) (hs : List Hd) (cap : Nat) (n : List UInt8) (w : World) (hH : Hdrs w a hs) (ht : t.length ≤ 100000000) (hl : hs.length ≤ 100000000) (hm : Mx w) (he : Er w) :
    Calls Tryz.prog 5 #[.string ⟨t.toArray⟩, .slice a hs.length cap, .string ⟨n.toArray⟩] w fun e w' => e = .returned (.bool true) ∧ Below w.heap.size w w' := by
  have H := (show Hid (Hdrs w a hs ∧ Mx w ∧ Er w) from ⟨hH, hm, he⟩)
  have Q1 := (show Hid _ from query_any t w ht hm)
  have HQ2 := (show Hid (∀ W, Calls Tryz.prog 15 #[.string ⟨t.toArray⟩] W fun e w' => ∃ v, e = .returned (.tuple #[.string ⟨(Lib.cut t [63]).1.toArray⟩, v]) ∧ w'.ownsRow W.heap.size 45 2 v (qryL t).length (hcs (qryL t)) ∧ Below W.heap.size W w') from fun W => refQuery_any t W ht)
  have hqn : (qryL t).length ≤ 100000001 := by
    have h1 : (qryL t).length ≤ (splitL 38 (Lib.cut t [63]).2.1).length := List.length_filterMap_le _ _
    rw [splitL_length] at h1
    have h2 := List.count_le_length (a := (38 : UInt8)) (l := (Lib.cut t [63]).2.1)
    have := (cut_len t [63]).2
    omega
  have han := all_len hs n
  generalize (Lib.cut t [63]).1 = pt at *
  generalize qryL t = qs at *
  clear hH hm he ht
  go_enter Tryz.func5, Tryz.ntmps5
  go_wp2_with fail
  refine Calls.mono Q1.out ?_
  rintro e w1 ⟨v1, rfl, ho1, hb1⟩
  obtain ⟨a1, c1, rfl, hd1⟩ := own_hdrs ho1
  have H1 := (show Hid (Hdrs w1 a1 qs ∧ Below w.heap.size w w1) from ⟨hd1, hb1⟩)
  clear ho1 hd1 hb1 Q1
  go_wp2_with fail
  refine Calls.mono (HQ2.out w1) ?_
  rintro e w2 ⟨v2, rfl, ho2, hb2⟩
  obtain ⟨a2, c2, rfl, hd2⟩ := own_hdrs ho2
  have H2 := (show Hid (Hdrs w2 a1 qs ∧ Hdrs w2 a2 qs ∧ Below w.heap.size w w2) from ⟨H1.out.1.below hb2 (Nat.le_refl _), hd2, H1.out.2.trans (hb2.mono H1.out.2.size)⟩)
  clear ho2 hd2 hb2 HQ2 H1
  have G1 := (show Hid _ from get_any a hs cap n w2 (H.out.1.below H2.out.2.2 (Nat.le_refl _)) (by omega))
  go_wp2_with fail
  refine Calls.mono G1.out ?_
  rintro e w3 ⟨rfl, hb3⟩
  have H3 := (show Hid (Hdrs w3 a1 qs ∧ Hdrs w3 a2 qs ∧ Below w.heap.size w w3) from ⟨H2.out.1.below hb3 (Nat.le_refl _), H2.out.2.1.below hb3 (Nat.le_refl _), H2.out.2.2.trans (hb3.mono H2.out.2.2.size)⟩)
  clear hb3 G1 H2
  have G2 := (show Hid _ from refGet_any a hs cap n w3 (H.out.1.below H3.out.2.2 (Nat.le_refl _)) (by omega))
  generalize (getL hs n).isSome = gb at *
  generalize (getL hs n).getD [] = gv at *
  go_wp2_with fail
  refine Calls.mono G2.out ?_
  rintro e w4 ⟨rfl, hb4⟩
  have H4 := (show Hid (Hdrs w4 a1 qs ∧ Hdrs w4 a2 qs ∧ Below w.heap.size w w4) from ⟨H3.out.1.below hb4 (Nat.le_refl _), H3.out.2.1.below hb4 (Nat.le_refl _), H3.out.2.2.trans (hb4.mono H3.out.2.2.size)⟩)
  clear hb4 G2 H3
  have A1 := (show Hid _ from all_any a hs cap n w4 (H.out.1.below H4.out.2.2 (Nat.le_refl _)) (by omega))
  have A2 := (show Hid (∀ W, Below w.heap.size w W → Calls Tryz.prog 19 #[.slice a hs.length cap, .string ⟨n.toArray⟩] W fun e w' => ∃ v, e = .returned v ∧ OwnS w' W.heap.size v (toB (allL hs n)) ∧ Below W.heap.size W w') from fun W hW => refAll_any a hs cap n W (H.out.1.below hW (Nat.le_refl _)) (by omega))
  generalize allL hs n = al at *
  go_wp2_with fail
  refine Calls.mono A1.out ?_
  rintro e w5 ⟨v5, rfl, ho5, hb5⟩
  obtain ⟨a5, c5, rfl, hs5⟩ := ho5.strs
  rw [toB_len]
  have H5 := (show Hid (Hdrs w5 a1 qs ∧ Hdrs w5 a2 qs ∧ Below w.heap.size w w5 ∧ Strs w5 a5 (toB al)) from ⟨H4.out.1.below hb5 (Nat.le_refl _), H4.out.2.1.below hb5 (Nat.le_refl _), H4.out.2.2.trans (hb5.mono H4.out.2.2.size), hs5⟩)
  clear hb5 A1 H4 ho5 hs5
  go_wp2_with fail
  refine Calls.mono (A2.out w5 H5.out.2.2.1) ?_
  rintro e w6 ⟨v6, rfl, ho6, hb6⟩
  obtain ⟨a6, c6, rfl, hs6⟩ := ho6.strs
  rw [toB_len]
  have H6 := (show Hid (Hdrs w6 a1 qs ∧ Hdrs w6 a2 qs ∧ Below w.heap.size w w6 ∧ Strs w6 a5 (toB al) ∧ Strs w6 a6 (toB al)) from ⟨H5.out.1.below hb6 (Nat.le_refl _), H5.out.2.1.below hb6 (Nat.le_refl _), H5.out.2.2.1.trans (hb6.mono H5.out.2.2.1.size), H5.out.2.2.2.below hb6 (Nat.le_refl _), hs6⟩)
  clear hb6 A2 H5 ho6 hs6
  have hal : al.length ≤ 100000000 := by omega
  have AW := (show Hid (∀ W, Below w.heap.size w W → Calls Tryz.prog 12 #[] W fun e w' => e = .returned (.bool true) ∧ Below w.heap.size w w') from fun W hW => (awake_any W (H.out.2.1.below hW (Nat.le_refl _)) (H.out.2.2.below hW (Nat.le_refl _))).mono fun e w' ⟨h1, h2⟩ => ⟨h1, hW.trans (h2.mono hW.size)⟩)
  go_wp2
  go_loopw [17] (fun i wr => ∃ k : Nat, k ≤ qs.length ∧ i = .int .i64 k ∧ Below w6.heap.size w6 wr) (fun i _ => qs.length - (intOf i).toNat)
  case atStart => exact ⟨0, Nat.zero_le _, rfl, Below.refl _ _⟩
  case round =>
    obtain ⟨k, hk, rfl, hb⟩ := hrel
    by_cases hlt : k < qs.length
    · rcases H6.out.1.below hb (Nat.le_refl _) with hnil | ⟨b1, o1, rfl, hbs1, hc1⟩
      · rw [hnil] at hlt; simp at hlt
      · rcases H6.out.2.1.below hb (Nat.le_refl _) with hnil | ⟨b2, o2, rfl, hbs2, hc2⟩
        · rw [hnil] at hlt; simp at hlt
        · obtain ⟨d1, d2⟩ := hc1 k hlt
          obtain ⟨d3, d4⟩ := hc2 k hlt
          generalize qs[k] = h at d1 d2 d3 d4
          have hki : (k : Int) < (qs.length : Int) := by omega
          have hk0 : (0 : Int) ≤ (k : Int) := by omega
          have HB : Hid (Below w6.heap.size w6 wr) := hb
          clear hc1 hc2 hb
          go_wp2
          go_quiet (fail)
          go_wp2
          exact ⟨⟨k + 1, by omega, by go_num, HB.out.trans ((drewN_below wr _).mono HB.out.size)⟩, by simp [intOf]; omega⟩
    · obtain rfl : k = qs.length := by omega
      have HB : Hid (Below w6.heap.size w6 wr) := hb
      clear hb
      go_wp2
      go_loopw [18] (fun i ws => ∃ k : Nat, k ≤ al.length ∧ i = .int .i64 k ∧ Below w6.heap.size w6 ws) (fun i _ => al.length - (intOf i).toNat)
      case atStart => exact ⟨0, Nat.zero_le _, rfl, HB.out⟩
      case round =>
        obtain ⟨j, hj, rfl, hb⟩ := hrel
        by_cases hjt : j < al.length
        · rcases H6.out.2.2.2.1.below hb (Nat.le_refl _) with hnil | ⟨b1, o1, rfl, hbs1, hc1⟩
          · have := congrArg List.length hnil
            rw [toB_len] at this
            simp at this
            rw [this] at hjt
            simp at hjt
          · rcases H6.out.2.2.2.2.below hb (Nat.le_refl _) with hnil | ⟨b2, o2, rfl, hbs2, hc2⟩
            · have := congrArg List.length hnil
              rw [toB_len] at this
              simp at this
              rw [this] at hjt
              simp at hjt
            · have d1 := hc1 j (by rw [toB_len]; exact hjt)
              have d2 := hc2 j (by rw [toB_len]; exact hjt)
              rw [toB_at] at d1 d2
              generalize al[j] = x at d1 d2
              have hji : (j : Int) < (al.length : Int) := by omega
              have hj0 : (0 : Int) ≤ (j : Int) := by omega
              have HB2 := (show Hid _ from hb)
              clear hc1 hc2 hb
              go_wp2
              go_quiet (fail)
              go_wp2
              exact ⟨⟨j + 1, by omega, by go_num, HB2.out.trans ((drewN_below _ _).mono HB2.out.size)⟩, by simp [intOf]; omega⟩
        · obtain rfl : j = al.length := by omega
          have K := (show Hid _ from AW.out _ (H6.out.2.2.1.trans (hb.mono H6.out.2.2.1.size)))
          clear hb
          go_wp2_with fail
          refine Calls.mono K.out ?_
          rintro e w9 ⟨rfl, hb9⟩
          have HB9 := (show Hid _ from hb9)
          clear hb9 K
          go_wp2
          go_ret
          exact ⟨rfl, HB9.out⟩
end Go.Proofs.YtmodmeabjhaklaaGreatDoor

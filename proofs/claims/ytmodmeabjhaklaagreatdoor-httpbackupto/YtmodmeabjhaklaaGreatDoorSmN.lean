/-
  ref18.Same of two requests that are unlike.
-/
import Derived.Test.YtmodmeabjhaklaaGreatDoorRunE
import Derived.Deep.Cut
namespace Go.Proofs.YtmodmeabjhaklaaGreatDoor
open Go.RowKit

set_option maxRecDepth 20000 in
set_option maxHeartbeats 4000000 in
theorem same_no (m m' t t' : List UInt8) (hs hs' : List Hd) (b b' : List UInt8) (a1 a2 : Option Addr) (c1 c2 : Nat) (b1 b2 : Option Addr) (e1 e2 : Nat) (w : World) (h1 : Hdrs w a1 hs) (h2 : Hdrs w a2 hs') (k1 : Bytes w b1 b) (k2 : Bytes w b2 b') (hl : hs.length ≤ 1000000000) (hne : ¬ (m = m' ∧ t = t' ∧ hs = hs' ∧ b = b')) :
    Calls Tryz.prog 13 #[rqV m t (.slice a1 hs.length c1) (.slice b1 b.length e1), rqV m' t' (.slice a2 hs'.length c2) (.slice b2 b'.length e2)] w fun e w' => e = .returned (.bool false) ∧ Below w.heap.size w w' := by
  obtain ⟨W1, hW1⟩ : ∃ W1, W1 = w.alloc (.cells #[.string ⟨m.toArray⟩, .string ⟨t.toArray⟩, .slice a1 hs.length c1, .slice b1 b.length e1] 26) := ⟨_, rfl⟩
  obtain ⟨W, hW⟩ : ∃ W, W = W1.alloc (.cells #[.string ⟨m'.toArray⟩, .string ⟨t'.toArray⟩, .slice a2 hs'.length c2, .slice b2 b'.length e2] 26) := ⟨_, rfl⟩
  have hbW : Below w.heap.size w W := by rw [hW, hW1]; exact ((Below.refl _ _).alloc (Nat.le_refl _) _).alloc (by simp) _
  have hcv1 : (convert 22 9 (.slice b1 b.length e1)).run Tryz.prog W = .ok (.string ⟨b.toArray⟩) W := convert_bytes W b1 e1 b (k1.below hbW (Nat.le_refl _))
  have hcv2 : (convert 22 9 (.slice b2 b'.length e2)).run Tryz.prog W = .ok (.string ⟨b'.toArray⟩) W := convert_bytes W b2 e2 b' (k2.below hbW (Nat.le_refl _))
  have hs1 : W1.heap.size = w.heap.size + 1 := by rw [hW1]; show (w.heap.push _).size = _; simp
  have n2 : W.heap[w.heap.size + 1]? = some (.cells #[.string ⟨m'.toArray⟩, .string ⟨t'.toArray⟩, .slice a2 hs'.length c2, .slice b2 b'.length e2] 26 (0, 0)) := by rw [← hs1, hW]; exact heap_alloc_new W1 _
  have n1 : W.heap[w.heap.size]? = some (.cells #[.string ⟨m.toArray⟩, .string ⟨t.toArray⟩, .slice a1 hs.length c1, .slice b1 b.length e1] 26 (0, 0)) := by
    rw [hW]
    refine (Below.heap_alloc W1 _ w.heap.size (by omega)).trans ?_
    rw [hW1]
    exact heap_alloc_new w _
  have H := (show Hid (Hdrs W a1 hs ∧ Hdrs W a2 hs' ∧ Below w.heap.size w W ∧ W.heap[w.heap.size]? = some (.cells #[.string ⟨m.toArray⟩, .string ⟨t.toArray⟩, .slice a1 hs.length c1, .slice b1 b.length e1] 26 (0, 0)) ∧ W.heap[w.heap.size + 1]? = some (.cells #[.string ⟨m'.toArray⟩, .string ⟨t'.toArray⟩, .slice a2 hs'.length c2, .slice b2 b'.length e2] 26 (0, 0))) from ⟨h1.below hbW (Nat.le_refl _), h2.below hbW (Nat.le_refl _), hbW, n1, n2⟩)
  have HNE := (show Hid (¬ (m = m' ∧ t = t' ∧ hs = hs' ∧ b = b')) from hne)
  clear h1 h2 k1 k2 hbW n1 n2 hs1 hne
  obtain ⟨N, hN⟩ : ∃ N, N = w.heap.size := ⟨_, rfl⟩
  rw [← hN] at H
  have x0 := cell_blk H.out.2.2.2.1 0
  have x1 := cell_blk H.out.2.2.2.1 1
  have x2 := cell_blk H.out.2.2.2.1 2
  have x3 := cell_blk H.out.2.2.2.1 3
  have y0 := cell_blk H.out.2.2.2.2 0
  have y1 := cell_blk H.out.2.2.2.2 1
  have y2 := cell_blk H.out.2.2.2.2 2
  have y3 := cell_blk H.out.2.2.2.2 3
  simp at x0 x1 x2 x3 y0 y1 y2 y3
  have HN : Hid (N = w.heap.size) := hN
  unfold rqV
  go_enter Tryz.func13, Tryz.ntmps13
  go_upto_region 1 with fail
  rw [← hW1, ← hW, ← hN]
  clear hW hW1 hN
  by_cases q1 : m = m'
  · subst q1
    by_cases q2 : t = t'
    · subst q2
      by_cases q3 : hs.length = hs'.length
      · obtain ⟨n, hn⟩ : ∃ n, n = hs.length := ⟨_, rfl⟩
        have hn' : n = hs'.length := by omega
        rw [← hn] at x2 ⊢
        rw [← hn'] at y2 ⊢
        by_cases q4 : b = b'
        · subst q4
          have HQ : Hid (hs ≠ hs') := fun h => HNE.out ⟨rfl, rfl, h, rfl⟩
          have HLn : Hid (n = hs.length ∧ n = hs'.length ∧ n ≤ 1000000000) := ⟨hn, hn', by omega⟩
          have hnl : n ≤ 1000000000 := by omega
          clear hn hn' q3 hl
          go_wp2
          clear x0 x1 x2 x3 y0 y1 y2 y3 hcv1
          go_loopw [5] (fun i wr => ∃ k : Nat, k ≤ n ∧ i = .int .i64 k ∧ (∀ j, j < k → hs[j]? = hs'[j]?) ∧ Below W.heap.size W wr) (fun i _ => n - (intOf i).toNat)
          case atStart => exact ⟨0, Nat.zero_le _, rfl, fun j hj => by omega, Below.refl _ _⟩
          case round =>
            obtain ⟨k, hk, rfl, hall, hb⟩ := hrel
            have HALL := (show Hid (∀ j, j < k → hs[j]? = hs'[j]?) from hall)
            have z1 := (hb.block N (blk_lt H.out.2.2.2.1)).trans H.out.2.2.2.1
            have z2 := (hb.block (N + 1) (blk_lt H.out.2.2.2.2)).trans H.out.2.2.2.2
            rw [← HLn.out.1] at z1
            rw [← HLn.out.2.1] at z2
            have d1 : wr.cell? ⟨N, 2, none⟩ = some (.slice a1 n c1) := cell_blk z1 2
            have d2 : wr.cell? ⟨N + 1, 2, none⟩ = some (.slice a2 n c2) := cell_blk z2 2
            clear z1 z2 hall
            by_cases hlt : k < n
            · have hl1 : k < hs.length := by have := HLn.out; omega
              have hl2 : k < hs'.length := by have := HLn.out; omega
              rcases H.out.1.below hb (Nat.le_refl _) with hnil | ⟨b3, o3, rfl, hbs3, hc3⟩
              · rw [hnil] at hl1; simp at hl1
              · rcases H.out.2.1.below hb (Nat.le_refl _) with hnil | ⟨b4, o4, rfl, hbs4, hc4⟩
                · rw [hnil] at hl2; simp at hl2
                · obtain ⟨x1, x2⟩ := hc3 k hl1
                  obtain ⟨x3, x4⟩ := hc4 k hl2
                  obtain ⟨h, hh⟩ : ∃ h, h = hs[k] := ⟨_, rfl⟩
                  obtain ⟨h', hh'⟩ : ∃ h, h = hs'[k] := ⟨_, rfl⟩
                  rw [← hh] at x1 x2
                  rw [← hh'] at x3 x4
                  have hki : (k : Int) < (n : Int) := by omega
                  have hk0 : (0 : Int) ≤ (k : Int) := by omega
                  have HB := (show Hid _ from hb)
                  have HK := (show Hid (hs[k]? = some h ∧ hs'[k]? = some h') from ⟨by rw [List.getElem?_eq_getElem hl1, hh], by rw [List.getElem?_eq_getElem hl2, hh']⟩)
                  clear hc3 hc4 hb hh hh' hl1 hl2 hbs3 hbs4
                  by_cases f1 : h.1 = h'.1
                  · by_cases f2 : h.2 = h'.2
                    · have HE : Hid (∀ j, j < k + 1 → hs[j]? = hs'[j]?) := by
                        intro j hj
                        by_cases hjk : j = k
                        · subst hjk
                          rw [HK.out.1, HK.out.2, Prod.ext f1 f2]
                        · exact HALL.out j (by omega)
                      have g1 : (h.1 == h'.1) = true := by rw [f1]; simp
                      have g2 : (h.2 == h'.2) = true := by rw [f2]; simp
                      clear f1 f2
                      go_wp2
                      go_quiet (fail)
                      go_wp2
                      exact ⟨⟨k + 1, by omega, by go_num, HE.out, HB.out.trans ((drewN_below wr _).mono HB.out.size)⟩, by simp [intOf]; omega⟩
                    · have g1 : (h.1 == h'.1) = true := by rw [f1]; simp
                      have g2 : (h.2 == h'.2) = false := by rw [beq_eq_false_iff_ne]; exact f2
                      clear f1 f2
                      go_wp2
                      go_quiet (fail)
                      go_wp2
                      go_ret
                      have hbw := fun q => HB.out.trans ((drewN_below wr q).mono HB.out.size)
                      rw [HN.out] at H
                      exact ⟨rfl, H.out.2.2.1.trans ((hbw _).mono H.out.2.2.1.size)⟩
                  · have g1 : (h.1 == h'.1) = false := by rw [beq_eq_false_iff_ne]; exact f1
                    clear f1
                    go_wp2
                    go_quiet (fail)
                    go_wp2
                    go_ret
                    have hbw := fun q => HB.out.trans ((drewN_below wr q).mono HB.out.size)
                    rw [HN.out] at H
                    exact ⟨rfl, H.out.2.2.1.trans ((hbw _).mono H.out.2.2.1.size)⟩
            · exfalso
              apply HQ.out
              have hkn : k = n := by omega
              apply List.ext_getElem?
              intro j
              by_cases hj : j < k
              · exact HALL.out j hj
              · have := HLn.out
                rw [List.getElem?_eq_none (by omega), List.getElem?_eq_none (by omega)]
        · have g4 : (b == b') = false := by rw [beq_eq_false_iff_ne]; exact q4
          have HB0 : Hid (Below w.heap.size w W) := by rw [HN.out] at H; exact H.out.2.2.1
          clear q4
          go_wp2
          go_ret
          exact ⟨rfl, HB0.out⟩
      · have HB0 : Hid (Below w.heap.size w W) := by rw [HN.out] at H; exact H.out.2.2.1
        have g3 : ((hs.length : Int) == (hs'.length : Int)) = false := by rw [beq_eq_false_iff_ne]; omega
        go_wp2
        go_ret
        exact ⟨rfl, HB0.out⟩
    · have g2 : (t == t') = false := by rw [beq_eq_false_iff_ne]; exact q2
      have HB0 : Hid (Below w.heap.size w W) := by rw [HN.out] at H; exact H.out.2.2.1
      clear q2
      go_wp2
      go_ret
      exact ⟨rfl, HB0.out⟩
  · have g1 : (m == m') = false := by rw [beq_eq_false_iff_ne]; exact q1
    have HB0 : Hid (Below w.heap.size w W) := by rw [HN.out] at H; exact H.out.2.2.1
    clear q1
    go_wp2
    go_ret
    exact ⟨rfl, HB0.out⟩
end Go.Proofs.YtmodmeabjhaklaaGreatDoor

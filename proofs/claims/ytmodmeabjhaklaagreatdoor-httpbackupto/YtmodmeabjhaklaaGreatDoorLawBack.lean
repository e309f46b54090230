/-
  HttpBack: the law's walk.
-/
import Derived.Test.YtmodmeabjhaklaaGreatDoorPrR
import Derived.Test.YtmodmeabjhaklaaGreatDoorBkN
import Derived.Test.YtmodmeabjhaklaaGreatDoorSmN
import Derived.Test.YtmodmeabjhaklaaGreatDoorRunE
import Derived.Test.YtmodmeabjhaklaaGreatDoorLawParses
import Derived.Deep.RegionHeld3
import Derived.Deep.RegionWith
namespace Go.Proofs.YtmodmeabjhaklaaGreatDoor
open Go.RowKit

theorem rw_conv {w : World} {base : Nat} {v : Value} {l : List UInt8} (h : Rw w base v l) : (convert 22 9 v).run Tryz.prog w = .ok (.string ⟨l.toArray⟩) w := by
  obtain ⟨a, cap, rfl, _, hB, _, _⟩ := h.slice
  exact convert_bytes w a cap l hB
theorem four_of {W : World} {N : Nat} {v0 v1 v2 v3 : Value} {t : TypeId} (h : W.heap[N]? = some (.cells #[v0, v1, v2, v3] t)) :
    W.cell? ⟨N, 0, none⟩ = some v0 ∧ W.cell? ⟨N, 1, none⟩ = some v1 ∧ W.cell? ⟨N, 2, none⟩ = some v2 ∧ W.cell? ⟨N, 3, none⟩ = some v3 := by
  have e0 := cell_blk h 0
  have e1 := cell_blk h 1
  have e2 := cell_blk h 2
  have e3 := cell_blk h 3
  simp at e0 e1 e2 e3
  exact ⟨e0, e1, e2, e3⟩
theorem nine8 {W : World} {N : Nat} {v0 v1 v2 v3 v4 v5 v6 v7 v8 : Value} {t : TypeId} (h : W.heap[N]? = some (.cells #[v0, v1, v2, v3, v4, v5, v6, v7, v8] t)) :
    W.cell? ⟨N, 0, none⟩ = some v0 ∧ W.cell? ⟨N, 1, none⟩ = some v1 ∧ W.cell? ⟨N, 2, none⟩ = some v2 ∧ W.cell? ⟨N, 3, none⟩ = some v3 ∧ W.cell? ⟨N, 4, none⟩ = some v4 ∧ W.cell? ⟨N, 5, none⟩ = some v5 := by
  have e0 := cell_blk h 0
  have e1 := cell_blk h 1
  have e2 := cell_blk h 2
  have e3 := cell_blk h 3
  have e4 := cell_blk h 4
  have e5 := cell_blk h 5
  simp at e0 e1 e2 e3 e4 e5
  exact ⟨e0, e1, e2, e3, e4, e5⟩
set_option maxRecDepth 20000 in
set_option maxHeartbeats 4000000 in
theorem httpBack_walk (m t : List UInt8) (hs : List Hd) (b : List UInt8) (a : Option Addr) (c : Nat) (ba : Option Addr) (bc : Nat) (am : Option Addr) (lm : List UInt8) (cm : Nat) (w : World) (hH : Hdrs w a hs) (hB : Bytes w ba b) (hM : Bytes w am lm) (hl : (printL m t hs b).length ≤ 100000000) (hhl : hs.length ≤ 100000000) (hml : lm.length ≤ 100000000) (hm : Mx w) (he : Er w) :
    Calls Tryz.prog 6 #[.agg #[.string ⟨m.toArray⟩, .string ⟨t.toArray⟩, .slice a hs.length c, .slice ba b.length bc], .slice am lm.length cm] w fun e w' => e = .returned (.bool true) ∧ Below w.heap.size w w' := by
  have AW := (show Hid (∀ W, Below w.heap.size w W → Calls Tryz.prog 12 #[] W fun e w' => e = .returned (.bool true) ∧ Below w.heap.size w w') from fun W hW => (awake_any W (hm.below hW (Nat.le_refl _)) (he.below hW (Nat.le_refl _))).mono fun e w' ⟨h1, h2⟩ => ⟨h1, hW.trans (h2.mono hW.size)⟩)
  have HW := (show Hid (Hdrs w a hs ∧ Bytes w ba b ∧ Bytes w am lm ∧ Mx w ∧ Er w) from ⟨hH, hB, hM, hm, he⟩)
  have HL := (show Hid ((printL m t hs b).length ≤ 100000000 ∧ hs.length ≤ 100000000 ∧ lm.length ≤ 100000000) from ⟨hl, hhl, hml⟩)
  clear hH hB hM hm he hl hhl hml
  obtain ⟨W, hW⟩ : ∃ W, W = w.alloc (.cells #[.string ⟨m.toArray⟩, .string ⟨t.toArray⟩, .slice a hs.length c, .slice ba b.length bc] 26) := ⟨_, rfl⟩
  have hbW : Below w.heap.size w W := by rw [hW]; exact (Below.refl _ _).alloc (Nat.le_refl _) _
  have HBW : Hid (Below w.heap.size w W) := hbW
  obtain ⟨N, hN⟩ : ∃ N, N = w.heap.size := ⟨_, rfl⟩
  have nW : W.heap[N]? = some (.cells #[.string ⟨m.toArray⟩, .string ⟨t.toArray⟩, .slice a hs.length c, .slice ba b.length bc] 26 (0, 0)) := by rw [hW, hN]; exact heap_alloc_new w _
  have HN1 : Hid (W.heap[N]? = some (.cells #[.string ⟨m.toArray⟩, .string ⟨t.toArray⟩, .slice a hs.length c, .slice ba b.length bc] 26 (0, 0))) := nW
  have K1 := (show Hid _ from print_any m t hs b a c ba bc W (HW.out.1.below hbW (Nat.le_refl _)) (HW.out.2.1.below hbW (Nat.le_refl _)) HL.out.1 HL.out.2.1)
  go_enter Tryz.func6, Tryz.ntmps6
  go_upto_region 1 with fail
  rw [← hN, ← hW]
  clear hN hW hbW
  obtain ⟨x0, x1, x2, x3⟩ := four_of nW
  clear nW
  go_wp2_with fail
  refine Calls.mono K1.out ?_
  rintro e w1 ⟨v1, rfl, hr1, hb1⟩
  have H1 := (show Hid (Rw w1 W.heap.size v1 (printL m t hs b) ∧ Below W.heap.size W w1) from ⟨hr1, hb1⟩)
  have n1 := (hb1.block N (blk_lt HN1.out)).trans HN1.out
  have HN2 := (show Hid _ from n1)
  clear K1 hr1 hb1 x0 x1 x2 x3
  obtain ⟨P, hP⟩ : ∃ P, P = printL m t hs b := ⟨_, rfl⟩
  rw [← hP] at H1
  have HP : Hid (P = printL m t hs b) := hP
  clear hP
  have HPl : Hid (P.length ≤ 100000000) := by show _ ≤ _; rw [HP.out]; exact HL.out.1
  obtain ⟨va, vc, hv1, -, -, -, -⟩ := H1.out.1.slice
  obtain ⟨pn, hpn⟩ : ∃ pn, pn = P.length := ⟨_, rfl⟩
  rw [← hpn] at hv1
  have HPn : Hid (pn = P.length) := hpn
  subst hv1
  clear hpn
  obtain ⟨X, hX⟩ : ∃ X : ByteArray, X = ⟨P.toArray⟩ := ⟨_, rfl⟩
  have HX : Hid (X = ⟨P.toArray⟩) := hX
  have hcd : (convert 22 9 (.slice va pn vc)).run Tryz.prog w1.drew = .ok (.string X) w1.drew := by
    rw [hX]
    exact rw_conv (H1.out.1.below ((Below.refl _ w1).drew))
  have K2 := (show Hid (∀ W1, Below w1.heap.size w1 W1 → Calls Tryz.prog 21 #[.agg #[.string ⟨m.toArray⟩, .string ⟨t.toArray⟩, .slice a hs.length c, .slice ba b.length bc]] W1 fun e w' => ∃ v2, e = .returned v2 ∧ (convert 22 9 (.slice va pn vc)).run Tryz.prog w' = .ok (.string X) w' ∧ (convert 22 9 v2).run Tryz.prog w' = .ok (.string X) w' ∧ Below W.heap.size W w' ∧ Rw w' W.heap.size (.slice va pn vc) P) from fun W1 hq => by
    have hbq : Below w.heap.size w W1 := HBW.out.trans ((H1.out.2.trans (hq.mono H1.out.2.size)).mono HBW.out.size)
    refine (refPrint_any m t hs b a c ba bc W1 (HW.out.1.below hbq (Nat.le_refl _)) (HW.out.2.1.below hbq (Nat.le_refl _)) HL.out.1 HL.out.2.1).mono ?_
    rintro e w' ⟨v2, h1, h2, h3⟩
    have hb' : Below w1.heap.size w1 w' := hq.trans (h3.mono hq.size)
    refine ⟨v2, h1, ?_, ?_, H1.out.2.trans (hb'.mono H1.out.2.size), H1.out.1.below hb'⟩
    · rw [HX.out]; exact rw_conv (H1.out.1.below hb')
    · rw [HX.out, HP.out]; exact rw_conv h2)
  clear hX
  obtain ⟨x0, x1, x2, x3⟩ := four_of n1
  clear n1
  go_upto_region 2 with fail
  go_region_with
    (first
      | (go_at_call 21; (with_reducible refine Calls.mono (K2.out _ ((Below.refl _ w1).drew)) ?_); rintro e w2 ⟨v2, rfl, hc1, hc2, hb2, hr2⟩; have z := four_of ((hb2.block N (blk_lt HN1.out)).trans HN1.out); obtain ⟨z0, z1, z2, z3⟩ := z; have H2 := (show Hid (Below W.heap.size W w2 ∧ Rw w2 W.heap.size (.slice va pn vc) P) from ⟨hb2, hr2⟩); clear hb2 hr2))
  all_goals
    clear z0 z1 z2 z3 x0 x1 x2 x3 hcd K2 hc1 hc2
    go_wp2_with fail
    have hbw2 : Below w.heap.size w w2 := HBW.out.trans (H2.out.1.mono HBW.out.size)
    have K3 := (show Hid (Calls Tryz.prog 11 #[.slice va pn vc] w2 fun e w' => ∃ T : Tl, e = .returned T.v ∧ TbR w' w2.heap.size T (parseL P) ∧ Below w2.heap.size w2 w') from by
      obtain ⟨a', c', e, -, hB, -, -⟩ := H2.out.2.slice
      rw [← HPn.out] at e
      simp only [Value.slice.injEq] at e
      obtain ⟨rfl, -, rfl⟩ := e
      have := parseR_any va P vc w2 hB (by have := HPl.out; omega)
      rw [← HPn.out] at this
      exact this)
    refine Calls.mono K3.out ?_
    rintro e w3 ⟨T, rfl, hT, hb3⟩
    have HB3 := (show Hid (Below w.heap.size w w3 ∧ Below w2.heap.size w2 w3 ∧ Below W.heap.size W w3) from ⟨hbw2.trans (hb3.mono hbw2.size), hb3, H2.out.1.trans (hb3.mono H2.out.1.size)⟩)
    clear hbw2 hb3 K3
    obtain ⟨D, hD⟩ : ∃ D, D = parseL P := ⟨_, rfl⟩
    rw [← hD] at hT
    have HD : Hid (D = parseL P) := hD
    clear hD
    cases D with
    | more =>
      obtain rfl : T = moreT := hT
      simp only [Tl.v, moreT]
      go_wp2_with fail
      refine Calls.mono (AW.out _ (HB3.out.1.alloc HB3.out.1.size _)) ?_
      rintro e w9 ⟨rfl, hb9⟩
      go_wp2
      go_ret
      exact ⟨rfl, hb9⟩
    | bad e =>
      obtain rfl : T = badT e := hT
      simp only [Tl.v, badT]
      go_wp2_with fail
      refine Calls.mono (AW.out _ (HB3.out.1.alloc HB3.out.1.size _)) ?_
      rintro e w9 ⟨rfl, hb9⟩
      go_wp2
      go_ret
      exact ⟨rfl, hb9⟩
    | done u m2 t2 hs2 b2 cl co =>
      obtain ⟨ya, yc, yb, ye, rfl, hy1, hy2, -, -⟩ := hT
      simp only [Tl.v]
      go_upto_region 5 with fail
      obtain ⟨W4, hW4⟩ : ∃ W4, W4 = w3.alloc (.cells #[.int .i64 2, .int .i64 (u : Int), .string ⟨m2.toArray⟩, .string ⟨t2.toArray⟩, .slice ya hs2.length yc, .slice yb b2.length ye, .int .i64 0, .bool cl, .bool co] 32) := ⟨_, rfl⟩
      rw [← hW4]
      obtain ⟨M, hM⟩ : ∃ M, M = w3.heap.size := ⟨_, rfl⟩
      rw [← hM]
      have nM : W4.heap[M]? = some (.cells #[.int .i64 2, .int .i64 (u : Int), .string ⟨m2.toArray⟩, .string ⟨t2.toArray⟩, .slice ya hs2.length yc, .slice yb b2.length ye, .int .i64 0, .bool cl, .bool co] 32 (0, 0)) := by rw [hW4, hM]; exact heap_alloc_new w3 _
      have hb34 : Below w3.heap.size w3 W4 := by rw [hW4]; exact (Below.refl _ _).alloc (Nat.le_refl _) _
      have hbw4 : Below w.heap.size w W4 := HB3.out.1.trans (hb34.mono HB3.out.1.size)
      have hbW4 : Below W.heap.size W W4 := HB3.out.2.2.trans (hb34.mono HB3.out.2.2.size)
      have HB4 := (show Hid (Below w.heap.size w W4 ∧ Below W.heap.size W W4 ∧ Below w2.heap.size w2 W4) from ⟨hbw4, hbW4, HB3.out.2.1.trans (hb34.mono HB3.out.2.1.size)⟩)
      obtain ⟨x0, x1, x2, x3⟩ := four_of ((hbW4.block N (blk_lt HN1.out)).trans HN1.out)
      obtain ⟨y0, y1, y2, y3, y4, y5⟩ := nine8 nM
      have hy1' := hy1.below hb34 (Nat.le_refl _)
      have hy2' := hy2.below hb34 (Nat.le_refl _)
      have hh4 := HW.out.1.below hbw4 (Nat.le_refl _)
      have hy4 := HW.out.2.1.below hbw4 (Nat.le_refl _)
      have hhs2 : hs2.length ≤ 1000000000 := by
        have := parse_room HD.out.symm
        have := HPl.out
        omega
      clear hW4 hM hb34 hbw4 hbW4 hy1 hy2 nM
      by_cases heq : m2 = m ∧ t2 = t ∧ hs2 = hs ∧ b2 = b
      · obtain ⟨rfl, rfl, rfl, rfl⟩ := heq
        have SM := (show Hid _ from same_any m2 t2 hs2 b2 ya a yc c yb ba ye bc W4 hy1' hh4 hy2' hy4 hhs2)
        unfold rqV at SM
        clear hy1' hy2' hh4 hy4
        go_wp2_with fail
        refine Calls.mono SM.out ?_
        rintro e w5 ⟨rfl, hb5⟩
        have HB5 := (show Hid (Below w.heap.size w w5 ∧ Below W.heap.size W w5 ∧ Below w2.heap.size w2 w5) from ⟨HB4.out.1.trans (hb5.mono HB4.out.1.size), HB4.out.2.1.trans (hb5.mono HB4.out.2.1.size), HB4.out.2.2.trans (hb5.mono HB4.out.2.2.size)⟩)
        have hu : u = P.length := by
          have h1 := HD.out
          rw [HP.out] at h1 ⊢
          exact back_used h1.symm
        have HPM : Hid (parseL ([] ++ P ++ lm) = .done u m2 t2 hs2 b2 cl co) := by
          show parseL (P ++ lm) = _
          exact parse_more lm (by simp) HD.out.symm
        have HU : Hid (u = pn) := by show u = pn; rw [hu, HPn.out]
        have HO5 : Hid (Rw (w5.alloc (.cells #[] 5)) w5.heap.size (.slice (some ⟨w5.heap.size, 0, none⟩) 0 0) []) := Own.rw (World.ownsRow_lit w5 #[] 0 (Nat.le_refl _) (by decide) rfl)
        have hal : Below w5.heap.size w5 (w5.alloc (.cells #[] 5)) := (Below.refl _ _).alloc (Nat.le_refl _) _
        have HBP5 : Hid (Bytes (w5.alloc (.cells #[] 5)) va P) := by
          obtain ⟨a', c', e, -, hB, -, -⟩ := (H2.out.2.below HB5.out.2.2).slice
          rw [← HPn.out] at e
          simp only [Value.slice.injEq] at e
          obtain ⟨rfl, -, rfl⟩ := e
          exact hB.below hal (Nat.le_refl _)
        have HAL := (show Hid (Below w5.heap.size w5 (w5.alloc (.cells #[] 5))) from hal)
        clear hb5 hu hal SM
        go_wp2_with (first
          | (at_builtin; refine wpList_rw_all rfl (.tmp 29) (.tmp 30) rfl w5.heap.size _ _ rfl HO5.out va P pn vc rfl HPn.out HBP5.out (by simp) (by have := HPl.out; have := HPn.out; omega) (by simp) ?_; intro v6 w6 hr6 hb6; have HR6 := (show Hid (Rw _ _ _ _) from hr6); have HB6 := (show Hid (Below w5.heap.size w5 w6) from HAL.out.trans hb6); clear hr6 hb6)
          | (at_builtin; refine wpList_rw_all rfl (.tmp 31) (.tmp 32) rfl w5.heap.size _ _ rfl HR6.out am lm lm.length cm rfl rfl (HW.out.2.2.1.below (HB5.out.1.trans (HB6.out.mono HB5.out.1.size)) (Nat.le_refl _)) (by have := HPl.out; simp only [List.nil_append]; omega) (by have := HL.out; omega) HB6.out.size ?_; intro v7 w7 hr7 hb7; have HR7 := (show Hid (Rw _ _ _ _) from hr7); have HB7 := (show Hid (Below w5.heap.size w5 w7) from HB6.out.trans hb7); clear hr7 hb7))
        obtain ⟨a7, c7, rfl, hc7, hB7, hab7, han7⟩ := HR7.out.slice
        have hbw7 : Below w.heap.size w w7 := HB5.out.1.trans (HB7.out.mono HB5.out.1.size)
        have K8 := (show Hid _ from parse_any a7 ([] ++ P ++ lm) c7 w7 hc7 hB7 hab7 han7 (by have := HPl.out; have := HL.out; simp only [List.length_append, List.length_nil]; omega) (HW.out.2.2.2.1.below hbw7 (Nat.le_refl _)) (HW.out.2.2.2.2.below hbw7 (Nat.le_refl _)))
        rw [HPM.out] at K8
        have HB8 := (show Hid (Below w.heap.size w w7) from hbw7)
        clear hc7 hB7 hab7 han7 hbw7
        refine Calls.mono K8.out ?_
        rintro e w8 ⟨T8, rfl, hT8, hb8⟩
        obtain ⟨za, zc, zb, ze, rfl, hz1, hz2, -, -⟩ := hT8.tb
        have HU2 : Hid ((u : Int) = (pn : Int)) := by show (u : Int) = (pn : Int); rw [HU.out]
        simp only [Tl.v]
        rw [HU2.out]
        clear hT8 K8
        go_upto_region 8 with fail
        obtain ⟨W9, hW9⟩ : ∃ W9, W9 = w8.alloc (.cells #[.int .i64 2, .int .i64 (pn : Int), .string ⟨m2.toArray⟩, .string ⟨t2.toArray⟩, .slice za hs2.length zc, .slice zb b2.length ze, .int .i64 0, .bool cl, .bool co] 29) := ⟨_, rfl⟩
        rw [← hW9]
        obtain ⟨M9, hM9⟩ : ∃ M9, M9 = w8.heap.size := ⟨_, rfl⟩
        rw [← hM9]
        have n9 : W9.heap[M9]? = some (.cells #[.int .i64 2, .int .i64 (pn : Int), .string ⟨m2.toArray⟩, .string ⟨t2.toArray⟩, .slice za hs2.length zc, .slice zb b2.length ze, .int .i64 0, .bool cl, .bool co] 29 (0, 0)) := by rw [hW9, hM9]; exact heap_alloc_new w8 _
        have hb89 : Below w8.heap.size w8 W9 := by rw [hW9]; exact (Below.refl _ _).alloc (Nat.le_refl _) _
        have hb79 : Below w7.heap.size w7 W9 := hb8.trans (hb89.mono hb8.size)
        have hbw9 : Below w.heap.size w W9 := HB8.out.trans (hb79.mono HB8.out.size)
        have hb59 : Below w5.heap.size w5 W9 := HB7.out.trans (hb79.mono HB7.out.size)
        have hbW9 : Below W.heap.size W W9 := HB5.out.2.1.trans (hb59.mono HB5.out.2.1.size)
        obtain ⟨r0, r1, r2, r3⟩ := four_of ((hbW9.block N (blk_lt HN1.out)).trans HN1.out)
        obtain ⟨s0, s1, s2, s3, s4, s5⟩ := nine8 n9
        have SM9 := (show Hid _ from same_any m2 t2 hs2 b2 za a zc c zb ba ze bc W9 (hz1.below hb89 (Nat.le_refl _)) (HW.out.1.below hbw9 (Nat.le_refl _)) (hz2.below hb89 (Nat.le_refl _)) (HW.out.2.1.below hbw9 (Nat.le_refl _)) (by have := HL.out; omega))
        unfold rqV at SM9
        have HBW9 := (show Hid (Below w.heap.size w W9) from hbw9)
        clear hW9 hM9 n9 hb89 hb79 hbw9 hb59 hbW9 hz1 hz2 hb8 x0 x1 x2 x3 y0 y1 y2 y3 y4 y5
        go_wp2_with fail
        refine Calls.mono SM9.out ?_
        rintro e w10 ⟨rfl, hb10⟩
        have AW10 := (show Hid _ from AW.out w10 (HBW9.out.trans (hb10.mono HBW9.out.size)))
        clear hb10
        go_wp2_with (go_at_call 12; refine Calls.mono AW10.out ?_; rintro e w9 ⟨rfl, hb9⟩)
        go_ret
        exact ⟨rfl, hb9⟩
      · have SM := (show Hid _ from same_no m2 m t2 t hs2 hs b2 b ya a yc c yb ba ye bc W4 hy1' hh4 hy2' hy4 hhs2 heq)
        unfold rqV at SM
        clear hy1' hy2' hh4 hy4 heq
        go_wp2_with fail
        refine Calls.mono SM.out ?_
        rintro e w5 ⟨rfl, hb5⟩
        have AW5 := (show Hid _ from AW.out w5 (HB4.out.1.trans (hb5.mono HB4.out.1.size)))
        clear hb5
        go_wp2_with (go_at_call 12; refine Calls.mono AW5.out ?_; rintro e w9 ⟨rfl, hb9⟩)
        go_ret
        exact ⟨rfl, hb9⟩
end Go.Proofs.YtmodmeabjhaklaaGreatDoor

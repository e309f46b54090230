/-
  The document's MD5 by its contract.
-/
import Derived.Test.YtdgoepnopenpkaaRefMd5Math
import Derived.BigRegion
namespace Go.Proofs.Ytdgoepnopenpkaa
open Go.RowKit

theorem sines_any (w : World) : Calls Try.prog 31 #[] w fun e w' => e = .returned (.slice (some ⟨w.heap.size, 0, none⟩) 64 64) ∧ w' = w.alloc (.cells (wcs md5K).toArray 28) := by
  go_enter Try.func31, Try.ntmps31
  go_wp2
  go_ret
  exact ⟨rfl, by kernel_rfl⟩

/-- The turns in memory. -/
def Tns (w : World) (g : Nat) : Prop := w.heap[g]? = some (.cells turnC 3 (0, 0))
theorem Tns.lt {w : World} {g : Nat} (h : Tns w g) : g < w.heap.size := (Array.getElem?_eq_some_iff.1 h).1
theorem Tns.below {w w' : World} {g B : Nat} (h : Tns w g) (hb : Below B w w') (hB : g < B) : Tns w' g := (hb.block g hB).trans h
theorem Tns.cell {w : World} {g : Nat} (h : Tns w g) {k : Nat} {v : Value} (hk : turnC[k]? = some v) : w.cell? ⟨g, k, none⟩ = some v := by
  rw [cell_of_row w g k turnC 3 (0, 0) h]; exact hk

/-- Four words laid anew. -/
theorem md5_end {w wr : World} {g kg tn mg : Nat} {s0 s1 s2 s3 z0 z1 z2 z3 : Wd} {M : List UInt8} (hH : Wds wr g 28 [s0, s1, s2, s3]) (hK : Wds wr kg 28 md5K) (hT : Tns wr tn) (hM : Bytes wr (some ⟨mg, 0, none⟩) M) (hB : Below g w wr) (hne : g < mg ∧ g < kg ∧ g < tn) :
    Wds ((((wr.setCell ⟨g, 0, none⟩ (.int .u32 (W z0))).setCell ⟨g, 1, none⟩ (.int .u32 (W z1))).setCell ⟨g, 2, none⟩ (.int .u32 (W z2))).setCell ⟨g, 3, none⟩ (.int .u32 (W z3))) g 28 [z0, z1, z2, z3] ∧
    Wds ((((wr.setCell ⟨g, 0, none⟩ (.int .u32 (W z0))).setCell ⟨g, 1, none⟩ (.int .u32 (W z1))).setCell ⟨g, 2, none⟩ (.int .u32 (W z2))).setCell ⟨g, 3, none⟩ (.int .u32 (W z3))) kg 28 md5K ∧
    Tns ((((wr.setCell ⟨g, 0, none⟩ (.int .u32 (W z0))).setCell ⟨g, 1, none⟩ (.int .u32 (W z1))).setCell ⟨g, 2, none⟩ (.int .u32 (W z2))).setCell ⟨g, 3, none⟩ (.int .u32 (W z3))) tn ∧
    Bytes ((((wr.setCell ⟨g, 0, none⟩ (.int .u32 (W z0))).setCell ⟨g, 1, none⟩ (.int .u32 (W z1))).setCell ⟨g, 2, none⟩ (.int .u32 (W z2))).setCell ⟨g, 3, none⟩ (.int .u32 (W z3))) (some ⟨mg, 0, none⟩) M ∧
    Below g w ((((wr.setCell ⟨g, 0, none⟩ (.int .u32 (W z0))).setCell ⟨g, 1, none⟩ (.int .u32 (W z1))).setCell ⟨g, 2, none⟩ (.int .u32 (W z2))).setCell ⟨g, 3, none⟩ (.int .u32 (W z3))) := by
  have h0 := hH.set 0 z0
  have h1 := h0.set 1 z1
  have h2 := h1.set 2 z2
  have h3 := h2.set 3 z3
  have hgw := grown_setCell (p := ⟨g, 3, none⟩) (grown_setCell (p := ⟨g, 2, none⟩) (grown_setCell (p := ⟨g, 1, none⟩) (grown_setCell (p := ⟨g, 0, none⟩) (grown_refl wr (some g)) rfl (.int .u32 (W z0))) rfl (.int .u32 (W z1))) rfl (.int .u32 (W z2))) rfl (.int .u32 (W z3))
  have nk : some kg ≠ some g := by intro e; cases e; omega
  have nt : some tn ≠ some g := by intro e; cases e; omega
  exact ⟨h3, hK.grown hgw nk, (hgw.block tn hT.lt nt).trans hT, hM.grown hgw (by intro _ ad e; cases e; exact Nat.ne_of_gt hne.1), hB.trans (grown_below hgw (Nat.le_of_lt hH.lt) (Nat.le_refl _))⟩
theorem md5_nums {j A : Nat} {M : List UInt8} (hA : 64 * j = A) (h6 : A + 64 ≤ M.length) : 64 * (j + 1) ≤ M.length ∧ (A : Int) + 64 = ((64 * (j + 1) : Nat) : Int) ∧ M.length - ((A : Int) + 64).toNat < M.length - (A : Int).toNat := by omega

set_option maxHeartbeats 8000000 in
set_option maxRecDepth 20000 in
theorem refMd5_any (a : Option Addr) (l : List UInt8) (cap : Nat) (w : World) (hn : a = none → cap = 0) (hl : l.length ≤ 140737488351800) (hb : Bytes w a l) :
    Calls Try.prog 13 #[.slice a l.length cap] w fun e w' => ∃ v, e = .returned v ∧ Own w' w.heap.size v (md5L l) ∧ Below w.heap.size w w' := by
  obtain ⟨i0, hi, hz0, hz1, hz2⟩ := info_parts info5
  have HB : Hid (Bytes w a l) := hb
  have HN : Hid (a = none → cap = 0) := hn
  clear hb hn
  go_enter Try.func13, Try.ntmps13
  go_wp2_with fail
  have e8 : (#[Value.int .u32 1732584193, .int .u32 4023233417, .int .u32 2562383102, .int .u32 271733878] : Array Value) = (wcs mInit.toL).toArray := by kernel_rfl
  rw [e8]
  clear e8
  have hS0 : Wds (w.alloc (.cells (wcs mInit.toL).toArray 28)) w.heap.size 28 mInit.toL := Wds.new w 28 mInit.toL
  have hB0 : Below w.heap.size w (w.alloc (.cells (wcs mInit.toL).toArray 28)) := (Below.refl _ w).alloc (Nat.le_refl _) _
  have hz0' : (w.alloc (.cells (wcs mInit.toL).toArray 28)).heap.size = w.heap.size + 1 := by simp
  have HS0 : Hid (Wds (w.alloc (.cells (wcs mInit.toL).toArray 28)) w.heap.size 28 mInit.toL) := hS0
  have HZ0 : Hid ((w.alloc (.cells (wcs mInit.toL).toArray 28)).heap.size = w.heap.size + 1) := hz0'
  clear hS0 hz0'
  generalize w.alloc (.cells (wcs mInit.toL).toArray 28) = w0 at *
  refine (sines_any _).mono ?_
  rintro e w1 ⟨rfl, hw1⟩
  have HK1 : Hid (Wds w1 w0.heap.size 28 md5K) := by
    show Wds _ _ _ _
    rw [hw1]
    exact Wds.new w0 28 md5K
  have HS1 : Hid (Wds w1 w.heap.size 28 mInit.toL) := by
    show Wds _ _ _ _
    rw [hw1]
    exact HS0.out.alloc _
  have hB1 : Below w.heap.size w w1 := by rw [hw1]; exact hB0.alloc hB0.size _
  have hz1' : w1.heap.size = w0.heap.size + 1 := by rw [hw1]; simp
  have HKG : Hid (w0.heap.size = w.heap.size + 1 ∧ w1.heap.size = w.heap.size + 2) := by have := HZ0.out; show _ ∧ _; omega
  clear hw1 HS0 hB0 HZ0 hz1'
  generalize w0.heap.size = kg at *
  go_wp2_with fail
  have hB2 : Below w.heap.size w (w1.alloc (.cells turnC 3)) := hB1.alloc hB1.size _
  have HT2 : Hid (Tns (w1.alloc (.cells turnC 3)) w1.heap.size) := heap_alloc_last w1 _
  have HK2 : Hid (Wds (w1.alloc (.cells turnC 3)) kg 28 md5K) := HK1.out.alloc _
  have HS2 : Hid (Wds (w1.alloc (.cells turnC 3)) w.heap.size 28 mInit.toL) := HS1.out.alloc _
  have hs2 : (w1.alloc (.cells turnC 3)).heap.size = w1.heap.size + 1 := by simp
  have HCP : Hid _ := refPadM a l cap (w1.alloc (.cells turnC 3)) HN.out hl (HB.out.below hB2 (Nat.le_refl _))
  clear HK1 HS1 hB1 HB
  refine Calls.mono HCP.out ?_
  clear HCP
  rintro e w3 ⟨v3, rfl, ho3, hb3⟩
  have HT3 : Hid (Tns w3 w1.heap.size) := HT2.out.below hb3 HT2.out.lt
  have HK3 : Hid (Wds w3 kg 28 md5K) := HK2.out.below hb3 HK2.out.lt
  have HS3 : Hid (Wds w3 w.heap.size 28 mInit.toL) := HS2.out.below hb3 HS2.out.lt
  have hB3 : Below w.heap.size w w3 := hB2.trans (hb3.mono hB2.size)
  have hw0 := pad_whole l
  have HSL : Hid (md5L l = md5Out (eat mMix (l ++ mtail l.length 8) mInit)) := md5L_ref l
  have hMl : (l ++ mtail l.length 8).length ≤ 140737488352000 := by
    have := zpad_lt l.length
    rw [List.length_append, mtail_length _ 8 (by decide)]
    omega
  have hM0 : 0 < (l ++ mtail l.length 8).length := by
    rw [List.length_append, mtail_length _ 8 (by decide)]
    omega
  obtain ⟨xm, mc, rfl, hxm, _, hmc⟩ := ho3.bytes'
  have hw64 := hw0.2
  clear hw0
  generalize l ++ mtail l.length 8 = M at *
  obtain ⟨mg, mo, rfl, hmg, hmcs⟩ := hxm.at hM0
  have hkk := HKG.out
  have hmgw : w1.heap.size < mg ∧ mo = 0 := by
    rcases ho3.2 with ⟨hv, _⟩ | ⟨g', c', cur, hv, hb', _⟩
    · simp at hv
    · simp only [Value.slice.injEq, Option.some.injEq, Addr.mk.injEq, and_true] at hv
      exact ⟨by omega, hv.1.2⟩
  obtain ⟨htm, rfl⟩ := hmgw
  have HM3 : Hid (Bytes w3 (some ⟨mg, 0, none⟩) M) := hxm
  have HW64 : Hid (M.length % 64 = 0) := hw64
  have HMG : Hid (w.heap.size < mg ∧ w.heap.size < kg ∧ w.heap.size < w1.heap.size) := by show _ ∧ _; omega
  clear ho3 hb3 hxm hmcs hw64 HT2 HK2 HS2 hB2 hs2 hkk HKG htm hmg
  generalize w1.heap.size = tn at *
  go_wp2_with fail
  go_loopw [7] (fun i wr => ∃ j : Nat, 64 * j ≤ M.length ∧ i = .int .i64 ((64 * j : Nat) : Int) ∧ Wds wr w.heap.size 28 (eatN mMix j M mInit).toL ∧ Wds wr kg 28 md5K ∧ Tns wr tn ∧ Bytes wr (some ⟨mg, 0, none⟩) M ∧ Below w.heap.size w wr) (fun i _ => M.length - (intOf i).toNat)
  case atStart => exact ⟨0, by omega, rfl, HS3.out, HK3.out, HT3.out, HM3.out, hB3⟩
  case round =>
    clear HS3 HK3 HM3 HT3 hB3
    obtain ⟨j, hj, rfl, hS, hK, hT, hM, hnx⟩ := hrel
    have HS : Hid (Wds wr w.heap.size 28 (eatN mMix j M mInit).toL) := hS
    have HK : Hid (Wds wr kg 28 md5K) := hK
    have HT : Hid (Tns wr tn) := hT
    have HM : Hid (Bytes wr (some ⟨mg, 0, none⟩) M) := hM
    clear hS hK hM hT
    by_cases hlt : 64 * j < M.length
    · have hA64 : 64 * j + 64 ≤ M.length := by have := HW64.out; omega
      have HEAT : Hid (eatN mMix (j + 1) M mInit = mMix ((M.drop (64 * j)).take 64) (eatN mMix j M mInit)) := by
        show _ = _
        have := eatN_app mMix j 1 M [] mInit (by omega)
        rw [List.append_nil, List.append_nil] at this
        rw [this]
        rfl
      obtain ⟨A, hA⟩ : ∃ A, 64 * j = A := ⟨_, rfl⟩
      rw [hA] at hlt hA64 HEAT ⊢
      have HA : Hid (64 * j = A) := hA
      obtain ⟨T, hT⟩ : ∃ T : Nat → Wd, (fun i => le4 ((M.drop A).take 64) (4 * i)) = T := ⟨_, rfl⟩
      have HTT : Hid (∀ i, le4 ((M.drop A).take 64) (4 * i) = T i) := fun i => congrFun hT i
      obtain ⟨s, hs⟩ : ∃ s, eatN mMix j M mInit = s := ⟨_, rfl⟩
      have HSM : Hid (eatN mMix (j + 1) M mInit = ⟨s.a + (mRounds T 64 s).a, s.b + (mRounds T 64 s).b, s.c + (mRounds T 64 s).c, s.d + (mRounds T 64 s).d⟩) := by
        show _ = _
        rw [HEAT.out, hs, mMix, hT]
      have HS' : Hid (Wds wr w.heap.size 28 s.toL) := by show Wds _ _ _ _; rw [← hs]; exact HS.out
      clear hA hT hs HS HEAT
      obtain ⟨sa, sb, sc, sd⟩ := s
      have c0 : wr.cell? ⟨w.heap.size, 0, none⟩ = some (.int .u32 (W sa)) := HS'.out.cell (k := 0) (by simp [S4.toL])
      have c1 : wr.cell? ⟨w.heap.size, 1, none⟩ = some (.int .u32 (W sb)) := HS'.out.cell (k := 1) (by simp [S4.toL])
      have c2 : wr.cell? ⟨w.heap.size, 2, none⟩ = some (.int .u32 (W sc)) := HS'.out.cell (k := 2) (by simp [S4.toL])
      have c3 : wr.cell? ⟨w.heap.size, 3, none⟩ = some (.int .u32 (W sd)) := HS'.out.cell (k := 3) (by simp [S4.toL])
      have hlti : (A : Int) < (M.length : Int) := by omega
      have HA64 : Hid (A + 64 ≤ M.length) := hA64
      have HML : Hid (M.length ≤ 140737488352000) := hMl
      have hAb : (A : Int) ≤ 140737488352000 := by omega
      clear hA64 hj hlt
      go_wp2_with fail
      go_quiet (fail)
      clear c0 c1 c2 c3
      obtain ⟨wo, hwo⟩ : ∃ x, wr.drewN nq = x := ⟨_, rfl⟩
      have HSo : Hid (Wds wo w.heap.size 28 [sa, sb, sc, sd]) := by rw [← hwo]; exact HS'.out
      have HKo : Hid (Wds wo kg 28 md5K) := by rw [← hwo]; exact HK.out
      have HTo : Hid (Tns wo tn) := by rw [← hwo]; exact HT.out
      have HMo : Hid (Bytes wo (some ⟨mg, 0, none⟩) M) := by rw [← hwo]; exact Bytes.same HM.out rfl
      have hBo : Below w.heap.size w wo := by rw [← hwo]; exact below_drewN hnx _
      rw [hwo]
      clear hwo hnx HS' HK HT HM
      go_wp2
      go_loopw [8, 9, 10, 11, 12] (fun p q r t i wr => ∃ k : Nat, k ≤ 64 ∧ i = .int .i64 k ∧ p = .int .u32 (W (mRounds T k ⟨sa, sb, sc, sd⟩).a) ∧ q = .int .u32 (W (mRounds T k ⟨sa, sb, sc, sd⟩).b) ∧ r = .int .u32 (W (mRounds T k ⟨sa, sb, sc, sd⟩).c) ∧ t = .int .u32 (W (mRounds T k ⟨sa, sb, sc, sd⟩).d) ∧ wr.heap = wo.heap ∧ Below w.heap.size w wr) (fun _ _ _ _ i _ => 64 - (intOf i).toNat)
      case atStart => exact ⟨0, by omega, rfl, rfl, rfl, rfl, rfl, rfl, hBo⟩
      case round =>
        obtain ⟨k, hk, rfl, rfl, rfl, rfl, rfl, hheap, hnx⟩ := hrel
        clear hBo
        by_cases hkl : k < 64
        · obtain ⟨g, n0, n1, n2, n3, ti, tv, b0, b1, b2, b3, y, ⟨hg1, hg2⟩, ⟨l0, l1, l2, l3⟩, ⟨d0, d1, d2, d3⟩, hy, ⟨i0', i1', i2', i3'⟩, ⟨hr0, hr1, hr2, hr3⟩, ⟨hw0, hw1, hw2, hw3⟩, ⟨wb0, wb1, wb2, wb3⟩, ⟨wm0, wm1, wm2⟩, ⟨ws1, ws2⟩, ws3, hsum, wy, ⟨ht1, ht2, ht3, ht4⟩, ⟨hti, hti2⟩⟩ := prepM M A k hkl HA64.out HML.out
          have hkl' : (k : Int) < 64 := by omega
          have kc : wr.cell? ⟨kg, k, none⟩ = some (.int .u32 (W (md5K.getD k 0))) := (Wds.other HKo.out (by rw [hheap])).cellD (k := k) hkl
          have tc' : wr.cell? ⟨tn, ti, none⟩ = some (.int .i64 (tv : Int)) := Tns.cell (show wr.heap[tn]? = _ by rw [hheap]; exact HTo.out) ht1
          have hBy : Bytes wr (some ⟨mg, 0, none⟩) M := Bytes.same HMo.out hheap
          have qq : ∀ n, n < M.length → wr.cell? ⟨mg, n, none⟩ = some (.int .u8 ((M.getD n 0).toNat : Int)) := by
            intro n hn
            obtain ⟨b', o', he, _, hc'⟩ := hBy.at hM0
            cases he
            have := hc' n hn
            rw [Nat.zero_add] at this
            rw [this]
            simp [List.getD, hn]
          have q0 := qq n0 l0
          have q1 := qq n1 l1
          have q2 := qq n2 l2
          have q3 := qq n3 l3
          rw [d0] at q0
          rw [d1] at q1
          rw [d2] at q2
          rw [d3] at q3
          obtain ⟨kv, hkv⟩ : ∃ kv, md5K.getD k 0 = kv := ⟨_, rfl⟩
          rw [hkv] at kc
          obtain ⟨t, ht⟩ : ∃ t, mRounds T k ⟨sa, sb, sc, sd⟩ = t := ⟨_, rfl⟩
          have HR : Hid (mRounds T (k + 1) ⟨sa, sb, sc, sd⟩ = mRound T k t) := by show _ = _; rw [← ht]; rfl
          rw [ht]
          obtain ⟨ta, tb, tc, td⟩ := t
          obtain ⟨f, hf⟩ : ∃ f, mF k tb tc td = f := ⟨_, rfl⟩
          obtain ⟨x1, hx1, a1⟩ : ∃ x, f + ta = x ∧ (W f + W ta) % 4294967296 = W x := ⟨_, rfl, W_addm _ _⟩
          obtain ⟨x2, hx2, a2⟩ : ∃ x, x1 + kv = x ∧ (W x1 + W kv) % 4294967296 = W x := ⟨_, rfl, W_addm _ _⟩
          obtain ⟨x3, hx3, a3⟩ : ∃ x, x2 + y = x ∧ (W x2 + W y) % 4294967296 = W x := ⟨_, rfl, W_addm _ _⟩
          obtain ⟨x4, hx4⟩ : ∃ x, rotl x3 tv = x := ⟨_, rfl⟩
          obtain ⟨x5, hx5, a5⟩ : ∃ x, tb + x4 = x ∧ (W tb + W x4) % 4294967296 = W x := ⟨_, rfl, W_addm _ _⟩
          have HR2 : Hid (mRounds T (k + 1) ⟨sa, sb, sc, sd⟩ = ⟨td, x5, tb, tc⟩) := by
            show _ = _
            rw [HR.out, round_ref T k ta tb tc td f y kv hf (by rw [← HTT.out]; exact hy) hkv, ht2, hx1, hx2, hx3, hx4, hx5]
          have GL : Hid (∀ w', Calls Try.prog 33 #[.int .u32 (W x3), .int .i64 (tv : Int)] w' fun e w'' => e = .returned (.int .u32 (W x4)) ∧ (∃ n, w'' = w'.drewN n)) := fun w' => left_quiet x3 tv x4 w' ht3 ht4 hx4
          have HHP : Hid (wr.heap = wo.heap) := hheap
          have HG1 : Hid (mAt k = g) := hg1
          have HF : Hid (mF k tb tc td = f) := hf
          clear hheap hg1 hf d0 d1 d2 d3 l0 l1 l2 l3 hy ht1 ht2 ht3 ht4 ht hBy qq hkv HR hx1 hx2 hx3 hx4 hx5
          dsimp only
          by_cases k16 : k < 16
          · have z0 : ((k : Int) / 16 == 0) = true := by rw [beq_iff_eq]; omega
            have hgk : (k : Int) = (g : Int) := by have := HG1.out; rw [mAt, if_pos k16] at this; omega
            have hA0 : (A : Int) + 4 * (k : Int) = (n0 : Int) := by omega
            have hfe := mF_0 k16 tb tc td
            rw [HF.out] at hfe
            obtain ⟨f1, g1, e1⟩ : ∃ x, tb &&& tc = x ∧ bits .and .u32 (W tb) (W tc) = W x := ⟨_, rfl, W_and _ _⟩
            obtain ⟨f2, g2, e2⟩ : ∃ x, ~~~ tb = x ∧ bits .xor .u32 IntKind.u32.max (W tb) = W x := ⟨_, rfl, W_not _⟩
            obtain ⟨f3, g3, e3⟩ : ∃ x, f2 &&& td = x ∧ bits .and .u32 (W f2) (W td) = W x := ⟨_, rfl, W_and _ _⟩
            have e4 : bits .or .u32 (W f1) (W f3) = W f := by rw [W_or, ← g1, ← g3, ← g2, hfe]
            clear g1 g2 g3 hfe hgk k16
            go_wp2_with fail
            go_quiet (fail)
            go_wp2_with fail
            refine (GL.out _).mono ?_
            rintro e w' ⟨rfl, nn, rfl⟩
            go_wp2
            go_roundw
            case rel => exact ⟨k + 1, by omega, by go_num, by rw [HR2.out], by rw [HR2.out]; exact congrArg (Value.int .u32) a5, by rw [HR2.out], by rw [HR2.out], HHP.out, by first | exact below_drewN hnx _ | exact below_drewN (below_drewN hnx _) _⟩
            case measure => simp [intOf]; omega
          by_cases k32 : k < 32
          · have z0 : ((k : Int) / 16 == 0) = false := by rw [beq_eq_false_iff_ne]; omega
            have z1 : ((k : Int) / 16 == 1) = true := by rw [beq_iff_eq]; omega
            have hgk : (5 * (k : Int) + 1) % 16 = (g : Int) := by have := HG1.out; rw [mAt, if_neg k16, if_pos k32] at this; omega
            have hfe := mF_1 k16 k32 tb tc td
            rw [HF.out] at hfe
            obtain ⟨f1, g1, e1⟩ : ∃ x, td &&& tb = x ∧ bits .and .u32 (W td) (W tb) = W x := ⟨_, rfl, W_and _ _⟩
            obtain ⟨f2, g2, e2⟩ : ∃ x, ~~~ td = x ∧ bits .xor .u32 IntKind.u32.max (W td) = W x := ⟨_, rfl, W_not _⟩
            obtain ⟨f3, g3, e3⟩ : ∃ x, f2 &&& tc = x ∧ bits .and .u32 (W f2) (W tc) = W x := ⟨_, rfl, W_and _ _⟩
            have e4 : bits .or .u32 (W f1) (W f3) = W f := by rw [W_or, ← g1, ← g3, ← g2, hfe]
            clear g1 g2 g3 hfe k16 k32
            go_wp2_with fail
            go_quiet (fail)
            go_wp2_with fail
            refine (GL.out _).mono ?_
            rintro e w' ⟨rfl, nn, rfl⟩
            go_wp2
            go_roundw
            case rel => exact ⟨k + 1, by omega, by go_num, by rw [HR2.out], by rw [HR2.out]; exact congrArg (Value.int .u32) a5, by rw [HR2.out], by rw [HR2.out], HHP.out, by first | exact below_drewN hnx _ | exact below_drewN (below_drewN hnx _) _⟩
            case measure => simp [intOf]; omega
          by_cases k48 : k < 48
          · have z0 : ((k : Int) / 16 == 0) = false := by rw [beq_eq_false_iff_ne]; omega
            have z1 : ((k : Int) / 16 == 1) = false := by rw [beq_eq_false_iff_ne]; omega
            have z2 : ((k : Int) / 16 == 2) = true := by rw [beq_iff_eq]; omega
            have hgk : (3 * (k : Int) + 5) % 16 = (g : Int) := by have := HG1.out; rw [mAt, if_neg k16, if_neg k32, if_pos k48] at this; omega
            have hfe := mF_2 k16 k32 k48 tb tc td
            rw [HF.out] at hfe
            obtain ⟨f1, g1, e1⟩ : ∃ x, tb ^^^ tc = x ∧ bits .xor .u32 (W tb) (W tc) = W x := ⟨_, rfl, W_xor _ _⟩
            have e4 : bits .xor .u32 (W f1) (W td) = W f := by rw [W_xor, ← g1, hfe]
            clear g1 hfe k16 k32 k48
            go_wp2_with fail
            go_quiet (fail)
            go_wp2_with fail
            refine (GL.out _).mono ?_
            rintro e w' ⟨rfl, nn, rfl⟩
            go_wp2
            go_roundw
            case rel => exact ⟨k + 1, by omega, by go_num, by rw [HR2.out], by rw [HR2.out]; exact congrArg (Value.int .u32) a5, by rw [HR2.out], by rw [HR2.out], HHP.out, by first | exact below_drewN hnx _ | exact below_drewN (below_drewN hnx _) _⟩
            case measure => simp [intOf]; omega
          · have z0 : ((k : Int) / 16 == 0) = false := by rw [beq_eq_false_iff_ne]; omega
            have z1 : ((k : Int) / 16 == 1) = false := by rw [beq_eq_false_iff_ne]; omega
            have z2 : ((k : Int) / 16 == 2) = false := by rw [beq_eq_false_iff_ne]; omega
            have hgk : 7 * (k : Int) % 16 = (g : Int) := by have := HG1.out; rw [mAt, if_neg k16, if_neg k32, if_neg k48] at this; omega
            have hfe := mF_3 k16 k32 k48 tb tc td
            rw [HF.out] at hfe
            obtain ⟨f1, g1, e1⟩ : ∃ x, ~~~ td = x ∧ bits .xor .u32 IntKind.u32.max (W td) = W x := ⟨_, rfl, W_not _⟩
            obtain ⟨f2, g2, e2⟩ : ∃ x, tb ||| f1 = x ∧ bits .or .u32 (W tb) (W f1) = W x := ⟨_, rfl, W_or _ _⟩
            have e4 : bits .xor .u32 (W tc) (W f2) = W f := by rw [W_xor, ← g2, ← g1, hfe]
            clear g1 g2 hfe k16 k32 k48
            go_wp2_with fail
            go_quiet (fail)
            go_wp2_with fail
            refine (GL.out _).mono ?_
            rintro e w' ⟨rfl, nn, rfl⟩
            go_wp2
            go_roundw
            case rel => exact ⟨k + 1, by omega, by go_num, by rw [HR2.out], by rw [HR2.out]; exact congrArg (Value.int .u32) a5, by rw [HR2.out], by rw [HR2.out], HHP.out, by first | exact below_drewN hnx _ | exact below_drewN (below_drewN hnx _) _⟩
            case measure => simp [intOf]; omega
        · have hk64 : k = 64 := by omega
          have HSM2 : Hid (eatN mMix (j + 1) M mInit = ⟨sa + (mRounds T k ⟨sa, sb, sc, sd⟩).a, sb + (mRounds T k ⟨sa, sb, sc, sd⟩).b, sc + (mRounds T k ⟨sa, sb, sc, sd⟩).c, sd + (mRounds T k ⟨sa, sb, sc, sd⟩).d⟩) := by rw [hk64]; exact HSM.out
          have hkn : ¬ (k : Int) < 64 := by omega
          obtain ⟨t, ht⟩ : ∃ t, mRounds T k ⟨sa, sb, sc, sd⟩ = t := ⟨_, rfl⟩
          rw [ht] at HSM2 ⊢
          clear ht hk64 HSM hkl
          obtain ⟨ta, tb, tc, td⟩ := t
          dsimp only at HSM2 ⊢
          have hHw : Wds wr w.heap.size 28 [sa, sb, sc, sd] := Wds.other HSo.out (by rw [hheap])
          have HHW : Hid (Wds wr w.heap.size 28 [sa, sb, sc, sd]) := hHw
          have HKW : Hid (Wds wr kg 28 md5K) := Wds.other HKo.out (by rw [hheap])
          have HTW : Hid (Tns wr tn) := (show wr.heap[tn]? = _ by rw [hheap]; exact HTo.out)
          have HMW : Hid (Bytes wr (some ⟨mg, 0, none⟩) M) := Bytes.same HMo.out hheap
          clear hheap hHw
          have c0 : wr.cell? ⟨w.heap.size, 0, none⟩ = some (.int .u32 (W sa)) := HHW.out.cell (k := 0) (by simp)
          have c1 : wr.cell? ⟨w.heap.size, 1, none⟩ = some (.int .u32 (W sb)) := HHW.out.cell (k := 1) (by simp)
          have c2 : wr.cell? ⟨w.heap.size, 2, none⟩ = some (.int .u32 (W sc)) := HHW.out.cell (k := 2) (by simp)
          have c3 : wr.cell? ⟨w.heap.size, 3, none⟩ = some (.int .u32 (W sd)) := HHW.out.cell (k := 3) (by simp)
          have r0 := HHW.out.frozen 0
          have r1 := HHW.out.frozen 1
          have r2 := HHW.out.frozen 2
          have r3 := HHW.out.frozen 3
          obtain ⟨z0, hz0', y0⟩ : ∃ x, sa + ta = x ∧ (W sa + W ta) % 4294967296 = W x := ⟨_, rfl, W_addm _ _⟩
          obtain ⟨z1, hz1', y1⟩ : ∃ x, sb + tb = x ∧ (W sb + W tb) % 4294967296 = W x := ⟨_, rfl, W_addm _ _⟩
          obtain ⟨z2, hz2', y2⟩ : ∃ x, sc + tc = x ∧ (W sc + W tc) % 4294967296 = W x := ⟨_, rfl, W_addm _ _⟩
          obtain ⟨z3, hz3', y3⟩ : ∃ x, sd + td = x ∧ (W sd + W td) % 4294967296 = W x := ⟨_, rfl, W_addm _ _⟩
          rw [hz0', hz1', hz2', hz3'] at HSM2
          have HEND : Hid (∀ z0 z1 z2 z3, _) := fun z0 z1 z2 z3 => md5_end (z0 := z0) (z1 := z1) (z2 := z2) (z3 := z3) HHW.out HKW.out HTW.out HMW.out hnx HMG.out
          have HNM := (show Hid _ from md5_nums HA.out HA64.out)
          clear hz0' hz1' hz2' hz3' HHW HKW HTW HMW HSo HKo HTo HMo HTT HW64 HSL HA HA64 HML hnx hi hz0 hz1 hz2 hl
          go_wp2
          exact ⟨⟨j + 1, HNM.out.1, congrArg (Value.int .i64) HNM.out.2.1, HSM2.out ▸ (HEND.out z0 z1 z2 z3).1, (HEND.out z0 z1 z2 z3).2.1, (HEND.out z0 z1 z2 z3).2.2.1, (HEND.out z0 z1 z2 z3).2.2.2.1, (HEND.out z0 z1 z2 z3).2.2.2.2⟩, HNM.out.2.2⟩
    · have hje : 64 * j = M.length := by omega
      have HSE : Hid (md5L l = md5Out (eatN mMix j M mInit)) := by
        show _ = _
        rw [HSL.out, eat, show M.length / 64 = j from by omega]
      generalize eatN mMix j M mInit = t at *
      have hlen : (w.heap.size + 1) ≤ wr.heap.size := HS.out.lt
      have hjl : ¬ ((64 * j : Nat) : Int) < (M.length : Int) := by omega
      clear HSL hlt hje HMG
      go_wp2
      go_loopw [17, 18] (fun v i wr => ∃ k : Nat, k ≤ 4 ∧ i = .int .i64 k ∧ wr.ownsRow (w.heap.size + 1) 5 1 v (4 * k) (bcs ((t.toL.take k).flatMap (fun x => [wb x 0, wb x 1, wb x 2, wb x 3]))) ∧ Wds wr w.heap.size 28 t.toL ∧ Below w.heap.size w wr) (fun _ i _ => 4 - (intOf i).toNat)
      case atStart => exact ⟨0, by omega, rfl, World.ownsRow_nil wr _ _ _, HS.out, hnx⟩
      case round =>
        clear HS HK HM HT hnx hlen
        obtain ⟨k, hk, rfl, hown, hS, hnx⟩ := hrel
        have HOWN : Hid (wr.ownsRow (w.heap.size + 1) 5 1 u17 (4 * k) (bcs ((t.toL.take k).flatMap (fun x => [wb x 0, wb x 1, wb x 2, wb x 3])))) := hown
        have HS : Hid (Wds wr w.heap.size 28 t.toL) := hS
        have hsz : w.heap.size + 1 ≤ wr.heap.size := hS.lt
        clear hown hS
        by_cases hkl : k < 4
        · have hkl' : (k : Int) < 4 := by omega
          have hc := HS.out.cellD (k := k) hkl
          have HO : Hid _ := md5Out_snoc t hkl
          generalize t.toL.getD k 0 = x at *
          have v0 : IntKind.u8.wrap (W x) = ((wb x 0).toNat : Int) := by rw [IntKind.wrap_u8', wb0]
          have v1 : IntKind.u8.wrap (W x / 256) = ((wb x 1).toNat : Int) := by rw [IntKind.wrap_u8', wb1]
          have v2 : IntKind.u8.wrap (W x / 65536) = ((wb x 2).toNat : Int) := by rw [IntKind.wrap_u8', wb2]
          have v3 : IntKind.u8.wrap (W x / 16777216) = ((wb x 3).toNat : Int) := by
            have := (wb x 3).toNat_lt
            rw [IntKind.wrap_u8', wb3]
            omega
          go_wp2_with fail
          go_region_held3 (fun w' => w'.cell? ⟨w.heap.size, k, none⟩ = some (.int .u32 (W x))) (go_keep)
            (first
              | (refine step_append_own rfl (.tmp 184) (.tmp 208) 22 rfl (w.heap.size + 1) 5 i0 (.int .u8 0) 1 1 Try.underlying22 hi hz0 hz1 hz2 rfl (by decide) u17 (4 * k) _ rfl (World.ownsRow.drew (World.ownsRow.alloc HOWN.out _)) ⟨wr.heap.size, 0, none⟩ 4 4 [.int .u8 ((wb x 0).toNat : Int), .int .u8 ((wb x 1).toNat : Int), .int .u8 ((wb x 2).toNat : Int), .int .u8 ((wb x 3).toNat : Int)] rfl rfl (cell_four_new wr _ _ _ _ _) (four_one _ _ _ _) (by unfold maxLen; omega) (by omega) (by simp; omega) ?_; intro v9 w9 hown9 hgrow9; have hrow : ∀ j, u17.ownBlock = some j → w.heap.size + 1 ≤ j := (fun j hj => (World.ownsRow.lt HOWN.out j hj).1); have hne9 : some w.heap.size ≠ u17.ownBlock := (fun e => by have := hrow _ e.symm; omega); have HS9 : Hid (Wds w9 w.heap.size 28 t.toL) := Wds.grown (w := (wr.alloc _).drew) (HS.out.alloc _) hgrow9 hne9; have s9 := (World.cell?_of_block (w := (wr.alloc _).drew) (a := ⟨w.heap.size, k, none⟩) (hgrow9.block _ (by simp; omega) hne9))))
          have hB9 : Below w.heap.size w w9 := ((hnx.alloc (by omega) _).drew).grown hgrow9 (by simp; omega) (fun j hj => by have := hrow j hj; omega)
          have HO9 : Hid (w9.ownsRow (w.heap.size + 1) 5 1 v9 (4 * (k + 1)) (bcs ((t.toL.take (k + 1)).flatMap (fun x => [wb x 0, wb x 1, wb x 2, wb x 3])))) := by
            show World.ownsRow _ _ _ _ _ _ _
            rw [HO.out, bcs_append, show 4 * (k + 1) = 4 * k + 4 from by omega]
            exact hown9
          clear hown9 hgrow9 HOWN HS hc s9 v0 v1 v2 v3 hrow hne9
          go_wp2
          go_roundw
          case rel =>
            first
              | exact ⟨k + 1, by omega, by go_num, HO9.out, HS9.out, hB9⟩
              | ((repeat apply Exists.intro); exact ⟨⟨k + 1, by omega, by go_num, HO9.out, HS9.out, hB9⟩, rfl⟩)
          case measure => simp [intOf]; omega
        · obtain rfl : k = 4 := by omega
          have HF : Hid (Own wr w.heap.size u17 (md5L l)) := by
            have h1 : Own wr (w.heap.size + 1) u17 (md5Out t) := HOWN.out
            show Own _ _ _ _
            rw [HSE.out]
            exact own_mono h1 (by omega)
          clear HOWN HS
          go_wp2
          go_ret
          exact ⟨_, rfl, HF.out, hnx⟩
end Go.Proofs.Ytdgoepnopenpkaa

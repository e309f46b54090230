/-
  The document's SHA-256 by its contract.
-/
import Derived.Test.YtnmffehmjgknkaaGreatDoorRefSched
import Derived.Test.YtnmffehmjgknkaaGreatDoorRefShaMath
import Derived.BigRegion
namespace Go.Proofs.YtnmffehmjgknkaaGreatDoor
open Go.RowKit

theorem roots_any (w : World) : Calls Tryz.prog 146 #[] w fun e w' => e = .returned (.slice (some ⟨w.heap.size, 0, none⟩) 64 64) ∧ w' = w.alloc (.cells (wcs shaK).toArray 159) := by
  go_enter Tryz.func146, Tryz.ntmps146
  go_wp2
  go_ret
  exact ⟨rfl, by kernel_rfl⟩

theorem quiet_more {P : Program} {f : FuncId} {args : Array Value} {w : World} {a n : Nat} {v : Value}
    (h : Calls P f args (w.drewN (a + n)) fun e w' => e = .returned v ∧ ∃ m, w' = (w.drewN (a + n)).drewN m) : Calls P f args (w.drewN (a + n)) fun e w'' => e = .returned v ∧ ∃ m, w'' = w.drewN (a + m) :=
  h.mono fun _ _ ⟨he, m, hm⟩ => ⟨he, n + m, by rw [hm, World.drewN_drewN, Nat.add_assoc]⟩
theorem step_below' {B : Nat} {w w1 w2 : World} (h : Below B w w1) (hb : Below w1.heap.size w1 w2) (hB : B ≤ w1.heap.size := by omega) : Below B w w2 := h.trans (hb.mono hB)

set_option maxHeartbeats 8000000 in
set_option maxRecDepth 20000 in
theorem refSha_any (a : Option Addr) (l : List UInt8) (cap : Nat) (w : World) (hn : a = none → cap = 0) (hl : l.length ≤ 140737488351800) (hb : Bytes w a l) :
    Calls Tryz.prog 87 #[.slice a l.length cap] w fun e w' => ∃ v, e = .returned v ∧ Own w' w.heap.size v (shaL l) ∧ Below w.heap.size w w' := by
  obtain ⟨i0, hi, hz0, hz1, hz2⟩ := info_parts info5
  have HB : Hid (Bytes w a l) := hb
  have HN : Hid (a = none → cap = 0) := hn
  clear hb hn
  go_enter Tryz.func87, Tryz.ntmps87
  go_wp2_with fail
  have e8 : (#[Value.int .u32 1779033703, .int .u32 3144134277, .int .u32 1013904242, .int .u32 2773480762, .int .u32 1359893119, .int .u32 2600822924, .int .u32 528734635, .int .u32 1541459225] : Array Value) = (wcs sInit.toL).toArray := by kernel_rfl
  rw [e8]
  clear e8
  have hS0 : Wds (w.alloc (.cells (wcs sInit.toL).toArray 159)) w.heap.size 159 sInit.toL := Wds.new w 159 sInit.toL
  have hB0 : Below w.heap.size w (w.alloc (.cells (wcs sInit.toL).toArray 159)) := (Below.refl _ w).alloc (Nat.le_refl _) _
  have hz0' : (w.alloc (.cells (wcs sInit.toL).toArray 159)).heap.size = w.heap.size + 1 := by simp
  have HS0 : Hid (Wds (w.alloc (.cells (wcs sInit.toL).toArray 159)) w.heap.size 159 sInit.toL) := hS0
  have HZ0 : Hid ((w.alloc (.cells (wcs sInit.toL).toArray 159)).heap.size = w.heap.size + 1) := hz0'
  clear hS0 hz0'
  generalize w.alloc (.cells (wcs sInit.toL).toArray 159) = w0 at *
  refine (roots_any _).mono ?_
  rintro e w1 ⟨rfl, hw1⟩
  have HK1 : Hid (Wds w1 w0.heap.size 159 shaK) := by
    show Wds _ _ _ _
    rw [hw1]
    exact Wds.new w0 159 shaK
  have HS1 : Hid (Wds w1 w.heap.size 159 sInit.toL) := by
    show Wds _ _ _ _
    rw [hw1]
    exact HS0.out.alloc _
  have hB1 : Below w.heap.size w w1 := by rw [hw1]; exact hB0.alloc hB0.size _
  have hkg := HZ0.out
  have HKG : Hid (w0.heap.size = w.heap.size + 1) := hkg
  clear hw1 HS0 hB0 HZ0 hkg
  generalize w0.heap.size = kg at *
  have HCP : Hid _ := refPadS a l cap w1 HN.out hl (HB.out.below hB1 (Nat.le_refl _))
  have hs1 := hB1.size
  have hk1 := HK1.out.lt
  go_wp2_with fail
  refine Calls.mono HCP.out ?_
  rintro e w2 ⟨v2, rfl, ho2, hb2⟩
  have HK2 : Hid (Wds w2 kg 159 shaK) := HK1.out.below hb2 hk1
  have HS2 : Hid (Wds w2 w.heap.size 159 sInit.toL) := HS1.out.below hb2 HS1.out.lt
  have hB2 : Below w.heap.size w w2 := hB1.trans (hb2.mono hs1)
  have hw0 := pad_whole l
  have HSL : Hid (shaL l = shaOut (eat sMix (l ++ stail l.length 8) sInit)) := shaL_ref l
  have hMl : (l ++ stail l.length 8).length ≤ 140737488352000 := by
    have := zpad_lt l.length
    rw [List.length_append, stail_length _ 8 (by decide)]
    omega
  have hM0 : 0 < (l ++ stail l.length 8).length := by
    rw [List.length_append, stail_length _ 8 (by decide)]
    omega
  obtain ⟨xm, mc, rfl, hxm, _, hmc⟩ := ho2.bytes'
  have hw64 := hw0.1
  generalize l ++ stail l.length 8 = M at *
  obtain ⟨mg, mo, rfl, hmg, hmcs⟩ := hxm.at hM0
  have hmgw : kg < mg ∧ mo = 0 := by
    rcases ho2.2 with ⟨hv, _⟩ | ⟨g', c', cur, hv, hb', _⟩
    · simp at hv
    · simp only [Value.slice.injEq, Option.some.injEq, Addr.mk.injEq, and_true] at hv
      exact ⟨by omega, hv.1.2⟩
  obtain ⟨hkm, rfl⟩ := hmgw
  have HM2 : Hid (Bytes w2 (some ⟨mg, 0, none⟩) M) := hxm
  have HW64 : Hid (M.length % 64 = 0) := hw64
  clear ho2 hb2 hxm hmcs HCP HK1 HS1 hB1 hw0 hw64 HB
  go_wp2_with fail
  go_loopw [6] (fun i wr => ∃ j : Nat, 64 * j ≤ M.length ∧ i = .int .i64 ((64 * j : Nat) : Int) ∧ Wds wr w.heap.size 159 (eatN sMix j M sInit).toL ∧ Wds wr kg 159 shaK ∧ Bytes wr (some ⟨mg, 0, none⟩) M ∧ Below w.heap.size w wr) (fun i _ => M.length - (intOf i).toNat)
  case atStart => exact ⟨0, by omega, rfl, HS2.out, HK2.out, HM2.out, hB2⟩
  case round =>
    clear HS2 HK2 HM2 hB2
    obtain ⟨j, hj, rfl, hS, hK, hM, hnx⟩ := hrel
    have HS : Hid (Wds wr w.heap.size 159 (eatN sMix j M sInit).toL) := hS
    have HK : Hid (Wds wr kg 159 shaK) := hK
    have HM : Hid (Bytes wr (some ⟨mg, 0, none⟩) M) := hM
    clear hS hK hM
    by_cases hlt : 64 * j < M.length
    · have hA64 : 64 * j + 64 ≤ M.length := by have := HW64.out; omega
      have HEAT : Hid (eatN sMix (j + 1) M sInit = sMix ((M.drop (64 * j)).take 64) (eatN sMix j M sInit)) := by
        show _ = _
        have := eatN_app sMix j 1 M [] sInit (by omega)
        rw [List.append_nil, List.append_nil] at this
        rw [this]
        rfl
      generalize hA : 64 * j = A at *
      have HA : Hid (64 * j = A) := hA
      clear hA
      have hblk : ((M.drop A).take 64).length = 64 := by rw [List.length_take, List.length_drop]; omega
      have hcs : ∀ i (h : i < ((M.drop A).take 64).length), wr.cell? ⟨mg, A + i, none⟩ = some (.int .u8 (((M.drop A).take 64)[i].toNat : Int)) := by
        intro i h
        obtain ⟨b', o', he, _, hc'⟩ := HM.out.at hM0
        cases he
        have := hc' (A + i) (by omega)
        rw [Nat.zero_add] at this
        rw [this, List.getElem_take, List.getElem_drop]
      have hmgl : mg < wr.heap.size := HM.out.blk hM0 _ rfl
      have HC : Hid _ := schedule_any mg A (mc - A) ((M.drop A).take 64) wr hblk (by omega) hmgl hcs
      obtain ⟨A2, hA2⟩ : ∃ A2, A2 = A + 64 := ⟨_, rfl⟩
      have hai : ((A : Nat) : Int) + 64 = (A2 : Int) := by omega
      have hlti : (A : Int) < (M.length : Int) := by omega
      have hmci : (A2 : Int) ≤ (mc : Int) := by omega
      have hmca : (A : Int) ≤ (A2 : Int) := by omega
      have hmcn : ¬ mc = A := by omega
      have h64' : A2 - A = 64 := by omega
      have HA2 : Hid (A2 = A + 64) := hA2
      clear hA2
      have HA64 : Hid (A + 64 ≤ M.length) := hA64
      clear hblk hcs hA64
      go_wp2_with fail
      refine Calls.mono HC.out ?_
      rintro e w3 ⟨v3, rfl, ho3, hb3⟩
      obtain ⟨tg, tc, rfl, htb, htl, htc, hte, _⟩ := OwnW.some ho3 (by rw [stL_length]; decide)
      rw [stL_length] at htc hte ⊢
      have HTE : Hid (∀ j, j < 64 → w3.cell? ⟨tg, j, none⟩ = some (.int .u32 (W ((stL ((M.drop A).take 64) 64).getD j 0)))) := hte
      have HS3 : Hid (Wds w3 w.heap.size 159 (eatN sMix j M sInit).toL) := HS.out.below hb3 HS.out.lt
      have HK3 : Hid (Wds w3 kg 159 shaK) := HK.out.below hb3 HK.out.lt
      have HM3 : Hid (Bytes w3 (some ⟨mg, 0, none⟩) M) := HM.out.below hb3 (Nat.le_refl _)
      have hB3 : Below w.heap.size w w3 := step_below' hnx hb3 hnx.size
      clear ho3 hte HS HK HM HC hb3 hnx
      generalize hs8 : eatN sMix j M sInit = s at *
      generalize (M.drop A).take 64 = blk at *
      have HS8 : Hid (eatN sMix j M sInit = s) := hs8
      clear hs8
      have c0 : w3.cell? ⟨w.heap.size, 0, none⟩ = some (.int .u32 (W s.a)) := HS3.out.cell (k := 0) (by simp [S8.toL])
      have c1 : w3.cell? ⟨w.heap.size, 1, none⟩ = some (.int .u32 (W s.b)) := HS3.out.cell (k := 1) (by simp [S8.toL])
      have c2 : w3.cell? ⟨w.heap.size, 2, none⟩ = some (.int .u32 (W s.c)) := HS3.out.cell (k := 2) (by simp [S8.toL])
      have c3 : w3.cell? ⟨w.heap.size, 3, none⟩ = some (.int .u32 (W s.d)) := HS3.out.cell (k := 3) (by simp [S8.toL])
      have c4 : w3.cell? ⟨w.heap.size, 4, none⟩ = some (.int .u32 (W s.e)) := HS3.out.cell (k := 4) (by simp [S8.toL])
      have c5 : w3.cell? ⟨w.heap.size, 5, none⟩ = some (.int .u32 (W s.f)) := HS3.out.cell (k := 5) (by simp [S8.toL])
      have c6 : w3.cell? ⟨w.heap.size, 6, none⟩ = some (.int .u32 (W s.g)) := HS3.out.cell (k := 6) (by simp [S8.toL])
      have c7 : w3.cell? ⟨w.heap.size, 7, none⟩ = some (.int .u32 (W s.h)) := HS3.out.cell (k := 7) (by simp [S8.toL])
      go_wp2_with fail
      go_region_held3 (fun w' => w'.cell? ⟨w.heap.size, 0, none⟩ = some (.int .u32 (W s.a)) ∧ w'.cell? ⟨w.heap.size, 1, none⟩ = some (.int .u32 (W s.b)) ∧ w'.cell? ⟨w.heap.size, 2, none⟩ = some (.int .u32 (W s.c)) ∧ w'.cell? ⟨w.heap.size, 3, none⟩ = some (.int .u32 (W s.d)) ∧ w'.cell? ⟨w.heap.size, 4, none⟩ = some (.int .u32 (W s.e)) ∧ w'.cell? ⟨w.heap.size, 5, none⟩ = some (.int .u32 (W s.f)) ∧ w'.cell? ⟨w.heap.size, 6, none⟩ = some (.int .u32 (W s.g)) ∧ w'.cell? ⟨w.heap.size, 7, none⟩ = some (.int .u32 (W s.h))) (go_keep) (fail)
      have hV : Wds (w3.alloc (.cells (wcs s.toL).toArray 159)).drew w3.heap.size 159 s.toL := Wds.new w3 159 s.toL
      have hBA : Below w.heap.size w (w3.alloc (.cells (wcs s.toL).toArray 159)).drew := (hB3.alloc hB3.size _).drew
      have hSA : Wds (w3.alloc (.cells (wcs s.toL).toArray 159)).drew w.heap.size 159 s.toL := HS3.out.alloc _
      have hKA : Wds (w3.alloc (.cells (wcs s.toL).toArray 159)).drew kg 159 shaK := HK3.out.alloc _
      have hMA : Bytes (w3.alloc (.cells (wcs s.toL).toArray 159)).drew (some ⟨mg, 0, none⟩) M := Bytes.same (HM3.out.below ((Below.refl _ w3).alloc (Nat.le_refl _) (.cells (wcs s.toL).toArray 159)) (Nat.le_refl _)) rfl
      have hTA : ∀ j, j < 64 → (w3.alloc (.cells (wcs s.toL).toArray 159)).drew.cell? ⟨tg, j, none⟩ = some (.int .u32 (W ((stL blk 64).getD j 0))) := fun j hj => (World.cell?_of_block (w := w3) (a := ⟨tg, j, none⟩) (Below.heap_alloc w3 _ tg htl)).trans (HTE.out j hj)
      have htA : tg < (w3.alloc (.cells (wcs s.toL).toArray 159)).drew.heap.size := by show tg < (w3.alloc _).heap.size; simp; omega
      have hvA : w3.heap.size < (w3.alloc (.cells (wcs s.toL).toArray 159)).drew.heap.size := by show w3.heap.size < (w3.alloc _).heap.size; simp
      have HV : Hid (Wds (w3.alloc (.cells (wcs s.toL).toArray 159)).drew w3.heap.size 159 s.toL) := hV
      have HSA : Hid (Wds (w3.alloc (.cells (wcs s.toL).toArray 159)).drew w.heap.size 159 s.toL) := hSA
      have HKA : Hid (Wds (w3.alloc (.cells (wcs s.toL).toArray 159)).drew kg 159 shaK) := hKA
      have HMA : Hid (Bytes (w3.alloc (.cells (wcs s.toL).toArray 159)).drew (some ⟨mg, 0, none⟩) M) := hMA
      have HTA : Hid (∀ j, j < 64 → (w3.alloc (.cells (wcs s.toL).toArray 159)).drew.cell? ⟨tg, j, none⟩ = some (.int .u32 (W ((stL blk 64).getD j 0)))) := hTA
      have hwv : w.heap.size < w3.heap.size := HS3.out.lt
      clear c0 c1 c2 c3 c4 c5 c6 c7 hV hSA hKA hMA hTA HS3 HK3 HM3 HTE hB3
      go_wp2
      generalize hwa : (w3.alloc (.cells (wcs s.toL).toArray 159)).drew = wA at *
      have ewa : (w3.alloc (.cells #[.int .u32 (W s.a), .int .u32 (W s.b), .int .u32 (W s.c), .int .u32 (W s.d), .int .u32 (W s.e), .int .u32 (W s.f), .int .u32 (W s.g), .int .u32 (W s.h)] 159)).drew = wA := hwa
      rw [ewa]
      clear hwa ewa
      generalize w3.heap.size = vg0 at *
      go_loopw [8, 9] (fun v i wr => ∃ k vg : Nat, k ≤ 64 ∧ i = .int .i64 k ∧ v = .slice (some ⟨vg, 0, none⟩) 8 8 ∧ w.heap.size < vg ∧ Wds wr vg 159 (sRounds (stL blk 64) k s).toL ∧ Below wA.heap.size wA wr) (fun _ i _ => 64 - (intOf i).toNat)
      case atStart => exact ⟨0, vg0, by omega, rfl, rfl, by omega, HV.out, Below.refl _ _⟩
      case round =>
        obtain ⟨k, vg, hk, rfl, rfl, hvg, hV, hnx⟩ := hrel
        have HV2 : Hid (Wds wr vg 159 (sRounds (stL blk 64) k s).toL) := hV
        clear hV HV
        by_cases hkl : k < 64
        · have hkl' : (k : Int) < 64 := by omega
          have hkc : wr.cell? ⟨kg, k, none⟩ = some (.int .u32 (W (shaK.getD k 0))) := (hnx.cell (p := ⟨kg, k, none⟩) HKA.out.lt).trans (HKA.out.cellD (k := k) hkl)
          have htc' : wr.cell? ⟨tg, k, none⟩ = some (.int .u32 (W ((stL blk 64).getD k 0))) := (hnx.cell (p := ⟨tg, k, none⟩) htA).trans (HTA.out k hkl)
          have HR : Hid (sRounds (stL blk 64) (k + 1) s = sRound (stL blk 64) k (sRounds (stL blk 64) k s)) := rfl
          generalize sRounds (stL blk 64) k s = t at *
          have c0 : wr.cell? ⟨vg, 0, none⟩ = some (.int .u32 (W t.a)) := HV2.out.cell (k := 0) (by simp [S8.toL])
          have c1 : wr.cell? ⟨vg, 1, none⟩ = some (.int .u32 (W t.b)) := HV2.out.cell (k := 1) (by simp [S8.toL])
          have c2 : wr.cell? ⟨vg, 2, none⟩ = some (.int .u32 (W t.c)) := HV2.out.cell (k := 2) (by simp [S8.toL])
          have c3 : wr.cell? ⟨vg, 3, none⟩ = some (.int .u32 (W t.d)) := HV2.out.cell (k := 3) (by simp [S8.toL])
          have c4 : wr.cell? ⟨vg, 4, none⟩ = some (.int .u32 (W t.e)) := HV2.out.cell (k := 4) (by simp [S8.toL])
          have c5 : wr.cell? ⟨vg, 5, none⟩ = some (.int .u32 (W t.f)) := HV2.out.cell (k := 5) (by simp [S8.toL])
          have c6 : wr.cell? ⟨vg, 6, none⟩ = some (.int .u32 (W t.g)) := HV2.out.cell (k := 6) (by simp [S8.toL])
          have c7 : wr.cell? ⟨vg, 7, none⟩ = some (.int .u32 (W t.h)) := HV2.out.cell (k := 7) (by simp [S8.toL])
          have HLo := low_ref (stL blk 64) k t
          have HHi := high_ref t
          have HR2 : Hid (sRounds (stL blk 64) (k + 1) s = ⟨sLow (stL blk 64) k t + sHigh t, t.a, t.b, t.c, t.d + sLow (stL blk 64) k t, t.e, t.f, t.g⟩) := HR.out
          generalize sLow (stL blk 64) k t = lo at *
          generalize sHigh t = hi2 at *
          generalize shaK.getD k 0 = kv at *
          generalize (stL blk 64).getD k 0 = tv at *
          obtain ⟨ta, tb, tc', td, te, tf, t6, th⟩ := t
          simp only at HLo HHi c0 c1 c2 c3 c4 c5 c6 c7 HR2
          generalize he1 : rotl te 26 = e1 at *
          generalize he2 : rotl te 21 = e2 at *
          generalize he3 : rotl te 7 = e3 at *
          have m1 := W_xor e1 e2
          generalize e1 ^^^ e2 = x12 at *
          have m2 := W_xor x12 e3
          generalize x12 ^^^ e3 = x13 at *
          have m3 := W_and te tf
          generalize te &&& tf = p1 at *
          have m4 := W_not te
          generalize ~~~ te = nte at *
          have m5 := W_and nte t6
          generalize nte &&& t6 = p2 at *
          have m6 := W_xor p1 p2
          generalize p1 ^^^ p2 = p3 at *
          have m7 := W_addm th x13
          generalize th + x13 = s1 at *
          have m8 := W_addm s1 p3
          generalize s1 + p3 = s2 at *
          have m9 := W_addm s2 kv
          generalize s2 + kv = s3 at *
          have m10 := W_addm s3 tv
          rw [HLo] at m10
          generalize hf1 : rotl ta 30 = f1 at *
          generalize hf2 : rotl ta 19 = f2 at *
          generalize hf3 : rotl ta 10 = f3 at *
          have n1 := W_xor f1 f2
          generalize f1 ^^^ f2 = x22 at *
          have n2 := W_xor x22 f3
          generalize x22 ^^^ f3 = x23 at *
          have n3 := W_and ta tb
          generalize ta &&& tb = q1 at *
          have n4 := W_and ta tc'
          generalize ta &&& tc' = q2 at *
          have n5 := W_xor q1 q2
          generalize q1 ^^^ q2 = q3 at *
          have n6 := W_and tb tc'
          generalize tb &&& tc' = q4 at *
          have n7 := W_xor q3 q4
          generalize q3 ^^^ q4 = q5 at *
          have n8 := W_addm x23 q5
          rw [HHi] at n8
          have o1 := W_add lo hi2
          generalize lo + hi2 = na at *
          have o2 := W_add td lo
          generalize td + lo = ne at *
          have G1 : Hid (∀ w', Calls Tryz.prog 149 #[.int .u32 (W te), .int .i64 26] w' fun e w'' => e = .returned (.int .u32 (W e1)) ∧ (∃ n, w'' = w'.drewN n)) := fun w' => left_quiet te 26 e1 w' (by decide) (by decide) he1
          have G2 : Hid (∀ w', Calls Tryz.prog 149 #[.int .u32 (W te), .int .i64 21] w' fun e w'' => e = .returned (.int .u32 (W e2)) ∧ (∃ n, w'' = w'.drewN n)) := fun w' => left_quiet te 21 e2 w' (by decide) (by decide) he2
          have G3 : Hid (∀ w', Calls Tryz.prog 149 #[.int .u32 (W te), .int .i64 7] w' fun e w'' => e = .returned (.int .u32 (W e3)) ∧ (∃ n, w'' = w'.drewN n)) := fun w' => left_quiet te 7 e3 w' (by decide) (by decide) he3
          have G4 : Hid (∀ w', Calls Tryz.prog 149 #[.int .u32 (W ta), .int .i64 30] w' fun e w'' => e = .returned (.int .u32 (W f1)) ∧ (∃ n, w'' = w'.drewN n)) := fun w' => left_quiet ta 30 f1 w' (by decide) (by decide) hf1
          have G5 : Hid (∀ w', Calls Tryz.prog 149 #[.int .u32 (W ta), .int .i64 19] w' fun e w'' => e = .returned (.int .u32 (W f2)) ∧ (∃ n, w'' = w'.drewN n)) := fun w' => left_quiet ta 19 f2 w' (by decide) (by decide) hf2
          have G6 : Hid (∀ w', Calls Tryz.prog 149 #[.int .u32 (W ta), .int .i64 10] w' fun e w'' => e = .returned (.int .u32 (W f3)) ∧ (∃ n, w'' = w'.drewN n)) := fun w' => left_quiet ta 10 f3 w' (by decide) (by decide) hf3
          clear he1 he2 he3 hf1 hf2 hf3 HLo HHi HR
          go_wp2_with fail
          go_quiet (first
            | (go_at_call 149; with_reducible exact Calls.quiet_of (G1.out _))
            | (go_at_call 149; with_reducible exact Calls.quiet_of (G2.out _))
            | (go_at_call 149; with_reducible exact Calls.quiet_of (G3.out _)))
          obtain ⟨z1, e⟩ : ∃ x, x = nq := ⟨_, rfl⟩
          subst e
          go_wp2_with fail
          go_quiet (fail)
          obtain ⟨z2, e⟩ : ∃ x, x = nq := ⟨_, rfl⟩
          subst e
          go_wp2_with fail
          go_quiet (fail)
          obtain ⟨z3, e⟩ : ∃ x, x = nq := ⟨_, rfl⟩
          subst e
          go_wp2_with fail
          go_quiet (first
            | (go_at_call 149; with_reducible exact quiet_more (G4.out _))
            | (go_at_call 149; with_reducible exact quiet_more (G5.out _))
            | (go_at_call 149; with_reducible exact quiet_more (G6.out _)))
          obtain ⟨z4, e⟩ : ∃ x, x = nq := ⟨_, rfl⟩
          subst e
          go_wp2_with fail
          go_quiet (fail)
          obtain ⟨z5, e⟩ : ∃ x, x = nq := ⟨_, rfl⟩
          subst e
          obtain ⟨wq, hwq⟩ : ∃ wq, (((wr.drewN (z1 + z2)).drewN z3).drewN z4).drewN z5 = wq := ⟨_, rfl⟩
          rw [hwq]
          have HWQ : Hid ((((wr.drewN (z1 + z2)).drewN z3).drewN z4).drewN z5 = wq) := hwq
          have c0 : wq.cell? ⟨vg, 0, none⟩ = some (.int .u32 (W ta)) := by rw [← HWQ.out]; exact c0
          have c1 : wq.cell? ⟨vg, 1, none⟩ = some (.int .u32 (W tb)) := by rw [← HWQ.out]; exact c1
          have c2 : wq.cell? ⟨vg, 2, none⟩ = some (.int .u32 (W tc')) := by rw [← HWQ.out]; exact c2
          have c3 : wq.cell? ⟨vg, 3, none⟩ = some (.int .u32 (W td)) := by rw [← HWQ.out]; exact c3
          have c4 : wq.cell? ⟨vg, 4, none⟩ = some (.int .u32 (W te)) := by rw [← HWQ.out]; exact c4
          have c5 : wq.cell? ⟨vg, 5, none⟩ = some (.int .u32 (W tf)) := by rw [← HWQ.out]; exact c5
          have c6 : wq.cell? ⟨vg, 6, none⟩ = some (.int .u32 (W t6)) := by rw [← HWQ.out]; exact c6
          have hnq : Below wA.heap.size wA wq := by
            rw [← hwq]
            exact below_drewN (below_drewN (below_drewN (below_drewN hnx _) _) _) _
          clear hwq HWQ hnx HV2 hkc htc' c7
          go_wp2_with fail
          go_region_held3 (fun w' => w'.cell? ⟨vg, 0, none⟩ = some (.int .u32 (W ta)) ∧ w'.cell? ⟨vg, 1, none⟩ = some (.int .u32 (W tb)) ∧ w'.cell? ⟨vg, 2, none⟩ = some (.int .u32 (W tc')) ∧ w'.cell? ⟨vg, 3, none⟩ = some (.int .u32 (W td)) ∧ w'.cell? ⟨vg, 4, none⟩ = some (.int .u32 (W te)) ∧ w'.cell? ⟨vg, 5, none⟩ = some (.int .u32 (W tf)) ∧ w'.cell? ⟨vg, 6, none⟩ = some (.int .u32 (W t6))) (go_keep) (fail)
          clear c0 c1 c2 c3 c4 c5 c6 m1 m2 m3 m4 m5 m6 m7 m8 m9 m10 n1 n2 n3 n4 n5 n6 n7 n8 o1 o2
          go_wp2
          go_roundw
          case rel =>
            have hq := hnq.size
            refine ⟨k + 1, wq.heap.size, by omega, by go_num, rfl, by omega, ?_, (hnq.alloc hnq.size _).drew⟩
            rw [HR2.out]
            exact Wds.new wq 159 [na, ta, tb, tc', ne, te, tf, t6]
          case measure => simp [intOf]; omega
        · obtain rfl : k = 64 := by omega
          have HSM : Hid (sMix blk s = s.plus (sRounds (stL blk 64) 64 s)) := rfl
          generalize sRounds (stL blk 64) 64 s = t at *
          have hHw : Wds wr w.heap.size 159 (upd s t 0) := HSA.out.below hnx HSA.out.lt
          have HHW : Hid (Wds wr w.heap.size 159 (upd s t 0)) := hHw
          have HKW : Hid (Wds wr kg 159 shaK) := HKA.out.below hnx HKA.out.lt
          have HMW : Hid (Bytes wr (some ⟨mg, 0, none⟩) M) := HMA.out.below hnx (Nat.le_refl _)
          have hBW : Below w.heap.size w wr := hBA.trans (hnx.mono (by omega))
          clear hHw HSA HKA HMA HTA hnx hBA
          go_wp2
          obtain ⟨wo, e⟩ : ∃ x, x = wr := ⟨_, rfl⟩
          subst e
          go_loopw [15] (fun i wr => ∃ k : Nat, k ≤ 8 ∧ i = .int .i64 k ∧ Wds wr w.heap.size 159 (upd s t k) ∧ Wds wr vg 159 t.toL ∧ wo.grownBy wr (some w.heap.size)) (fun i _ => 8 - (intOf i).toNat)
          case atStart => exact ⟨0, by omega, rfl, HHW.out, HV2.out, grown_refl _ _⟩
          case round =>
            obtain ⟨k, hk8, rfl, hH, hV, hgw⟩ := hrel
            have HH : Hid (Wds wr w.heap.size 159 (upd s t k)) := hH
            have HVV : Hid (Wds wr vg 159 t.toL) := hV
            clear hH hV HHW HV2
            by_cases hk9 : k < 8
            · have hk9' : (k : Int) < 8 := by omega
              have hcell := HH.out.cell (k := k) (by rw [upd_length s t hk8]; exact hk9)
              rw [upd_get s t hk9] at hcell
              have hfr := HH.out.frozen k
              have hvc := HVV.out.cellD (k := k) hk9
              have HU : Hid ((upd s t k).set k (s.toL.getD k 0 + t.toL.getD k 0) = upd s t (k + 1)) := upd_set s t hk9
              generalize s.toL.getD k 0 = x at *
              generalize t.toL.getD k 0 = y at *
              have ha := W_addm x y
              generalize x + y = z at *
              have hne : vg ≠ w.heap.size := by omega
              go_wp2_with fail
              go_region
              go_wp2
              go_roundw
              case rel =>
                refine ⟨k + 1, by omega, by go_num, ?_, ?_, ?_⟩
                · rw [← HU.out]
                  exact HH.out.set k _
                · exact HVV.out.setCell (a := ⟨w.heap.size, k, none⟩) hne _
                · exact grown_drew (grown_setCell (p := ⟨w.heap.size, k, none⟩) hgw rfl _)
              case measure => simp [intOf]; omega
            · obtain rfl : k = 8 := by omega
              go_wp2
              go_roundw
              case rel =>
                have hAA := HA.out
                have hAA2 := HA2.out
                have hA6 := HA64.out
                have hkk := HKG.out
                refine ⟨j + 1, by omega, ?_, ?_, ?_, ?_, ?_⟩
                · congr 1
                  omega
                · rw [HEAT.out, HSM.out, ← upd_all]
                  exact HH.out
                · exact HKW.out.grown hgw (by simp; omega)
                · exact HMW.out.grown hgw (by intro _ ad e; cases e; show mg ≠ w.heap.size; omega)
                · exact hBW.trans (grown_below hgw hBW.size (Nat.le_refl _))
              case measure =>
                have hAA2 := HA2.out
                simp [intOf]
                omega
    · have hje : 64 * j = M.length := by omega
      have HSE : Hid (shaL l = shaOut (eatN sMix j M sInit)) := by
        show _ = _
        rw [HSL.out, eat, show M.length / 64 = j from by omega]
      generalize eatN sMix j M sInit = t at *
      have hlen : (w.heap.size + 1) ≤ wr.heap.size := HS.out.lt
      have hjl : ¬ ((64 * j : Nat) : Int) < (M.length : Int) := by omega
      clear HSL hlt hje
      go_wp2
      go_loopw [16, 17] (fun v i wr => ∃ k : Nat, k ≤ 8 ∧ i = .int .i64 k ∧ wr.ownsRow (w.heap.size + 1) 5 1 v (4 * k) (bcs ((t.toL.take k).flatMap (fun x => [wb x 3, wb x 2, wb x 1, wb x 0]))) ∧ Wds wr w.heap.size 159 t.toL ∧ Below w.heap.size w wr) (fun _ i _ => 8 - (intOf i).toNat)
      case atStart => exact ⟨0, by omega, rfl, World.ownsRow_nil wr _ _ _, HS.out, hnx⟩
      case round =>
        clear HS HK HM hnx hlen
        obtain ⟨k, hk, rfl, hown, hS, hnx⟩ := hrel
        have HOWN : Hid (wr.ownsRow (w.heap.size + 1) 5 1 u16 (4 * k) (bcs ((t.toL.take k).flatMap (fun x => [wb x 3, wb x 2, wb x 1, wb x 0])))) := hown
        have HS : Hid (Wds wr w.heap.size 159 t.toL) := hS
        have hsz : w.heap.size + 1 ≤ wr.heap.size := hS.lt
        clear hown hS
        by_cases hkl : k < 8
        · have hkl' : (k : Int) < 8 := by omega
          have hc := HS.out.cellD (k := k) hkl
          have HO : Hid _ := shaOut_snoc t hkl
          generalize t.toL.getD k 0 = x at *
          have v0 : IntKind.u8.wrap (W x) = ((wb x 0).toNat : Int) := by rw [IntKind.wrap_u8', wb0]
          have v1 : IntKind.u8.wrap (W x / 256) = ((wb x 1).toNat : Int) := by rw [IntKind.wrap_u8', wb1]
          have v2 : IntKind.u8.wrap (W x / 65536) = ((wb x 2).toNat : Int) := by rw [IntKind.wrap_u8', wb2]
          have v3 : IntKind.u8.wrap (W x / 16777216) = ((wb x 3).toNat : Int) := by
            have := (wb x 3).toNat_lt
            rw [IntKind.wrap_u8', wb3]
            omega
          go_wp2_with fail
          go_region_held3 (fun w' => w'.cell? ⟨w.heap.size, k, none⟩ = some (.int .u32 (W x))) (go_keep)
            (first
              | (refine step_append_own rfl (.tmp 196) (.tmp 220) 23 rfl (w.heap.size + 1) 5 i0 (.int .u8 0) 1 1 Tryz.underlying23 hi hz0 hz1 hz2 rfl (by decide) u16 (4 * k) _ rfl (World.ownsRow.drew (World.ownsRow.alloc HOWN.out _)) ⟨wr.heap.size, 0, none⟩ 4 4 [.int .u8 ((wb x 3).toNat : Int), .int .u8 ((wb x 2).toNat : Int), .int .u8 ((wb x 1).toNat : Int), .int .u8 ((wb x 0).toNat : Int)] rfl rfl (cell_four_new wr _ _ _ _ _) (four_one _ _ _ _) (by unfold maxLen; omega) (by omega) (by simp; omega) ?_; intro v9 w9 hown9 hgrow9; have hrow : ∀ j, u16.ownBlock = some j → w.heap.size + 1 ≤ j := (fun j hj => (World.ownsRow.lt HOWN.out j hj).1); have hne9 : some w.heap.size ≠ u16.ownBlock := (fun e => by have := hrow _ e.symm; omega); have HS9 : Hid (Wds w9 w.heap.size 159 t.toL) := Wds.grown (w := (wr.alloc _).drew) (HS.out.alloc _) hgrow9 hne9; have s9 := (World.cell?_of_block (w := (wr.alloc _).drew) (a := ⟨w.heap.size, k, none⟩) (hgrow9.block _ (by simp; omega) hne9))))
          have hB9 : Below w.heap.size w w9 := ((hnx.alloc (by omega) _).drew).grown hgrow9 (by simp; omega) (fun j hj => by have := hrow j hj; omega)
          have HO9 : Hid (w9.ownsRow (w.heap.size + 1) 5 1 v9 (4 * (k + 1)) (bcs ((t.toL.take (k + 1)).flatMap (fun x => [wb x 3, wb x 2, wb x 1, wb x 0])))) := by
            show World.ownsRow _ _ _ _ _ _ _
            rw [HO.out, bcs_append, show 4 * (k + 1) = 4 * k + 4 from by omega]
            exact hown9
          clear hown9 hgrow9 HOWN HS hc s9 v0 v1 v2 v3 hrow hne9
          go_wp2
          go_roundw
          case rel =>
            first
              | exact ⟨k + 1, by omega, by go_num, HO9.out, HS9.out, hB9⟩
              | ((repeat apply Exists.intro); exact ⟨⟨k + 1, by omega, by go_num, HO9.out, HS9.out, hB9⟩, rfl⟩)
          case measure => simp [intOf]; omega
        · obtain rfl : k = 8 := by omega
          have HF : Hid (Own wr w.heap.size u16 (shaL l)) := by
            have h1 : Own wr (w.heap.size + 1) u16 (shaOut t) := HOWN.out
            show Own _ _ _ _
            rw [HSE.out]
            exact own_mono h1 (by omega)
          clear HOWN HS
          go_wp2
          go_ret
          exact ⟨_, rfl, HF.out, hnx⟩
end Go.Proofs.YtnmffehmjgknkaaGreatDoor

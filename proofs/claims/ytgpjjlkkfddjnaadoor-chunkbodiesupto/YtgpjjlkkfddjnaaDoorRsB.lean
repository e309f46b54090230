/-
  The document's Sum and Sign.
-/
import Derived.Test.YtgpjjlkkfddjnaaDoorRsA
import Derived.Test.YtgpjjlkkfddjnaaDoorLwA
namespace Go.Proofs.YtgpjjlkkfddjnaaDoor
open Go.RowKit

set_option maxHeartbeats 1000000 in
theorem rsum_any (l : List UInt8) (w : World) (hl : l.length ≤ 1000000000) :
    Calls Tryd.prog 27 #[.string ⟨l.toArray⟩] w fun e w' => e = .returned (.string ⟨(hexL (shaL l)).toArray⟩) ∧ Below w.heap.size w w' := by
  obtain ⟨W1, c1, hcv, hB, hb1, hc1⟩ := conv_list l w
  have K1 := (show Hid _ from refSha_any (some ⟨w.heap.size, 0, none⟩) l c1 W1 (fun h => by cases h) (by omega) hB)
  have HB1 := (show Hid _ from hb1)
  clear hB hb1 hc1
  go_enter Tryd.func27, Tryd.ntmps27
  go_wp2_with fail
  refine Calls.mono K1.out ?_
  rintro e w2 ⟨v2, rfl, ho2, hb2⟩
  have HB2 := (show Hid (Below w.heap.size w w2) from HB1.out.trans (hb2.mono HB1.out.size))
  obtain ⟨a2, c2, rfl, hB2⟩ := ho2.bytes
  have K2 := (show Hid _ from rhex_any a2 (shaL l) c2 w2 hB2 (by rw [shaL_length]; omega))
  clear ho2 hb2 hB2 hcv K1
  go_wp2_with fail
  refine Calls.mono K2.out ?_
  rintro e w3 ⟨rfl, hb3⟩
  have HB3 := (show Hid (Below w.heap.size w w3) from HB2.out.trans (hb3.mono HB2.out.size))
  clear hb3 K2
  go_wp2
  go_ret
  exact ⟨rfl, HB3.out⟩
theorem sgT_text (date scope last data : List UInt8) : sgT date scope last data = algT ++ [10] ++ date ++ [10] ++ scope ++ [10] ++ last ++ [10] ++ hexL (shaL []) ++ [10] ++ hexL (shaL data) := by
  rw [sgT, sgX, List.map_cons, Lib.join_cons]
  simp [Lib.joinTail]
set_option maxRecDepth 20000 in
set_option maxHeartbeats 4000000 in
theorem rsign_any (x : Wh) (ka : Option Addr) (kc : Nat) (last data : List UInt8) (da : Option Addr) (dc : Nat) (w : World) (hx : WhOk w x ka kc) (hkn : ka = none → kc = 0) (hdl : data.length ≤ 1000000000) (hdB : Bytes w da data) (h3 : last.length ≤ 1000000000) :
    Calls Tryd.prog 13 #[x.v ka kc, .string ⟨last.toArray⟩, .slice da data.length dc] w fun e w' => e = .returned (.string ⟨(sgL x.key x.date x.scope last data).toArray⟩) ∧ Below w.heap.size w w' := by
  obtain ⟨W, hW⟩ : ∃ W, W = w.alloc (.cells #[.string ⟨x.id.toArray⟩, .string ⟨x.date.toArray⟩, .string ⟨x.scope.toArray⟩, .string ⟨x.sig.toArray⟩, .slice ka x.key.length kc, .string ⟨x.pay.toArray⟩] 30) := ⟨_, rfl⟩
  obtain ⟨N, hN⟩ : ∃ N, N = w.heap.size := ⟨_, rfl⟩
  have nW : W.heap[N]? = some (.cells #[.string ⟨x.id.toArray⟩, .string ⟨x.date.toArray⟩, .string ⟨x.scope.toArray⟩, .string ⟨x.sig.toArray⟩, .slice ka x.key.length kc, .string ⟨x.pay.toArray⟩] 30 (0, 0)) := by rw [hW, hN]; exact heap_alloc_new w _
  have hbW : Below w.heap.size w W := by rw [hW]; exact (Below.refl _ _).alloc (Nat.le_refl _) _
  have HB := (show Hid (Below w.heap.size w W) from hbW)
  have HNW := (show Hid _ from nW)
  have HW := (show Hid (WhOk W x ka kc ∧ (ka = none → kc = 0) ∧ Bytes W da data) from ⟨hx.below hbW, hkn, hdB.below hbW (Nat.le_refl _)⟩)
  have HL := (show Hid (data.length ≤ 1000000000 ∧ last.length ≤ 1000000000) from ⟨hdl, h3⟩)
  have S1 := (show Hid (∀ W', Below W.heap.size W W' → Calls Tryd.prog 27 #[.string ⟨#[]⟩] W' fun e w' => e = .returned (.string ⟨(hexL (shaL [])).toArray⟩) ∧ Below W.heap.size W w') from fun W' hb => (rsum_any [] W' (by simp)).mono fun e w' ⟨h1, h2⟩ => ⟨h1, hb.trans (h2.mono hb.size)⟩)
  obtain ⟨DS, hDS⟩ : ∃ DS : ByteArray, DS = ⟨data.toArray⟩ := ⟨_, rfl⟩
  have S2 := (show Hid (∀ W', Below W.heap.size W W' → Calls Tryd.prog 27 #[.string DS] W' fun e w' => e = .returned (.string ⟨(hexL (shaL data)).toArray⟩) ∧ Below W.heap.size W w') from fun W' hb => by
    rw [hDS]
    exact (rsum_any data W' HL.out.1).mono fun e w' ⟨h1, h2⟩ => ⟨h1, hb.trans (h2.mono hb.size)⟩)
  have CV := (show Hid (∀ W', Below W.heap.size W W' → (convert 22 9 (.slice da data.length dc)).run Tryd.prog W' = .ok (.string DS) W') from fun W' hb => by
    rw [hDS]
    exact convert_bytes W' da dc data (HW.out.2.2.below hb (Nat.le_refl _)))
  obtain ⟨H0, hH0⟩ : ∃ H0 : ByteArray, H0 = ⟨(hexL (shaL [])).toArray⟩ := ⟨_, rfl⟩
  obtain ⟨HD, hHD⟩ : ∃ HD : ByteArray, HD = ⟨(hexL (shaL data)).toArray⟩ := ⟨_, rfl⟩
  rw [← hH0] at S1
  rw [← hHD] at S2
  have hz0 : H0.size = 64 := by rw [hH0]; show (hexL (shaL [])).toArray.size = 64; rw [List.size_toArray, hexL_length]; rfl
  have hzd : HD.size = 64 := by rw [hHD]; show (hexL (shaL data)).toArray.size = 64; rw [List.size_toArray, hexL_length]; rfl
  obtain ⟨DT, hDT⟩ : ∃ DT : ByteArray, DT = ⟨x.date.toArray⟩ := ⟨_, rfl⟩
  obtain ⟨SC, hSC⟩ : ∃ SC : ByteArray, SC = ⟨x.scope.toArray⟩ := ⟨_, rfl⟩
  obtain ⟨LS, hLS⟩ : ∃ LS : ByteArray, LS = ⟨last.toArray⟩ := ⟨_, rfl⟩
  have hz1 : DT.size ≤ 1000000000 := by rw [hDT]; show x.date.toArray.size ≤ _; rw [List.size_toArray]; exact hx.date
  have hz2 : SC.size ≤ 1000000000 := by rw [hSC]; show x.scope.toArray.size ≤ _; rw [List.size_toArray]; exact hx.scope
  have hz3 : LS.size ≤ 1000000000 := by rw [hLS]; show last.toArray.size ≤ _; rw [List.size_toArray]; exact h3
  have HT := (show Hid ((⟨#[65, 87, 83, 52, 45, 72, 77, 65, 67, 45, 83, 72, 65, 50, 53, 54, 45, 80, 65, 89, 76, 79, 65, 68, 10]⟩ : ByteArray) ++ DT ++ ⟨#[10]⟩ ++ SC ++ ⟨#[10]⟩ ++ LS ++ ⟨#[10]⟩ ++ H0 ++ ⟨#[10]⟩ ++ HD = ⟨(sgT x.date x.scope last data).toArray⟩) from by
    show _ = _
    rw [hDT, hSC, hLS, hH0, hHD, sgT_text]
    apply ByteArray.ext
    simp [algT])
  have hn2 := nW
  rw [← hDT, ← hSC] at hn2
  obtain ⟨x0, x1, x2, x3, x4, x5⟩ := six_of hn2
  have HN2 := (show Hid _ from hn2)
  clear hx hkn hdl hdB h3 hbW nW hDS hn2
  unfold Wh.v
  go_enter Tryd.func13, Tryd.ntmps13
  go_upto_region 1 with fail
  rw [← hN, ← hW, ← hLS]
  clear hN hW hLS hDT hSC hH0 hHD
  have hcv := CV.out W.drew (Below.refl _ W).drew
  have q1 : ¬ (25 + DT.size > 9223372036854775807) := by omega
  have q2 : ¬ (25 + DT.size + 1 > 9223372036854775807) := by omega
  have q3 : ¬ (25 + DT.size + 1 + SC.size > 9223372036854775807) := by omega
  have q4 : ¬ (25 + DT.size + 1 + SC.size + 1 > 9223372036854775807) := by omega
  have q5 : ¬ (25 + DT.size + 1 + SC.size + 1 + LS.size > 9223372036854775807) := by omega
  have q6 : ¬ (25 + DT.size + 1 + SC.size + 1 + LS.size + 1 > 9223372036854775807) := by omega
  have q7 : ¬ (25 + DT.size + 1 + SC.size + 1 + LS.size + 1 + 64 > 9223372036854775807) := by omega
  have q8 : ¬ (25 + DT.size + 1 + SC.size + 1 + LS.size + 1 + 64 + 1 > 9223372036854775807) := by omega
  have q9 : ¬ (25 + DT.size + 1 + SC.size + 1 + LS.size + 1 + 64 + 1 + 64 > 9223372036854775807) := by omega
  clear hz1 hz2 hz3
  go_region_held3 (fun w' => w'.cell? ⟨N, 1, none⟩ = some (.string DT) ∧ w'.cell? ⟨N, 2, none⟩ = some (.string SC) ∧ (convert 22 9 (.slice da data.length dc)).run Tryd.prog w' = .ok (.string DS) w') (first | go_keep | (exact z2) | (exact z3)) (first
    | (go_at_call 27; (with_reducible refine Calls.mono (S1.out _ ((Below.refl _ W).drew)) ?_); rintro e w2 ⟨rfl, hb2⟩; have y2 := six_of ((hb2.block N (blk_lt HN2.out)).trans HN2.out); have z2 := And.intro y2.2.1 (And.intro y2.2.2.1 (CV.out w2 hb2)))
    | (go_at_call 27; (with_reducible refine Calls.mono (S2.out _ hb2) ?_); rintro e w3 ⟨rfl, hb3⟩; have y3 := six_of ((hb3.block N (blk_lt HN2.out)).trans HN2.out); have z3 := And.intro y3.2.1 (And.intro y3.2.2.1 (CV.out w3 hb3))))
  rw [HT.out]
  have HB3 := (show Hid (Below W.heap.size W w3) from hb3)
  obtain ⟨-, -, -, -, x4', -⟩ := y3
  have hTl := sgT_len x.date x.scope last data
  obtain ⟨T, hT⟩ : ∃ T, T = sgT x.date x.scope last data := ⟨_, rfl⟩
  have HTT := (show Hid (sgL x.key x.date x.scope last data = hexL (hmacL x.key T)) from by show _ = _; rw [hT]; rfl)
  rw [← hT] at hTl ⊢
  obtain ⟨W4, c4, hcv4, hB4, hb34, hc4⟩ := conv_list T w3
  have HB4 := (show Hid (Below W.heap.size W W4) from hb3.trans (hb34.mono hb3.size))
  have n4 := six_of ((HB4.out.block N (blk_lt HN2.out)).trans HN2.out)
  obtain ⟨-, -, -, -, y4, -⟩ := n4
  have K3 := (show Hid _ from refHmac_any ka x.key kc (some ⟨w3.heap.size, 0, none⟩) T c4 W4 HW.out.2.1 (by have := HW.out.1.key; omega) (HW.out.1.by_.below HB4.out (Nat.le_refl _)) (fun h => by cases h) (by have := HL.out.2; have := HW.out.1.date; have := HW.out.1.scope; omega) hB4)
  clear hb2 hb3 z2 z3 y2 q1 q2 q3 q4 q5 q6 q7 q8 q9 hcv hT hTl hB4 hb34 hc4 x0 x1 x2 x3 x4 x5 hz0 hzd S1 S2 CV
  go_wp2_with fail
  refine Calls.mono K3.out ?_
  rintro e w5 ⟨v5, rfl, ho5, hb5⟩
  have HB5 := (show Hid (Below W.heap.size W w5) from HB4.out.trans (hb5.mono HB4.out.size))
  obtain ⟨a5, c5, rfl, hB5⟩ := ho5.bytes
  have K4 := (show Hid _ from rhex_any a5 (hmacL x.key T) c5 w5 hB5 (by show 32 ≤ _; omega))
  clear ho5 hb5 hB5 K3 hcv4 x4' y4
  go_wp2_with fail
  refine Calls.mono K4.out ?_
  rintro e w6 ⟨rfl, hb6⟩
  have HB6 := (show Hid (Below w.heap.size w w6) from HB.out.trans ((HB5.out.trans (hb6.mono HB5.out.size)).mono HB.out.size))
  clear hb6 K4
  go_wp2
  go_ret
  rw [HTT.out]
  exact ⟨rfl, HB6.out⟩
end Go.Proofs.YtgpjjlkkfddjnaaDoor

/-
  The document's SigningKey and Sign.
-/
import Derived.Test.YtnmffehmjgknkaaGreatDoorSgA
namespace Go.Proofs.YtnmffehmjgknkaaGreatDoor
open Go.RowKit

theorem own_head {w : World} {base : Nat} {v : Value} {l : List UInt8} (h : Own w base v l) : ∃ a cap, v = .slice a l.length cap ∧ l.length ≤ cap ∧ cap ≤ 9223372036854775807 ∧ Bytes w a l ∧ (∀ x, a = some x → x.spot = none ∧ x.block < w.heap.size) ∧ (a = none → cap = 0) := by
  obtain ⟨a0, c0, e0, hB⟩ := h.bytes
  obtain ⟨hl, ⟨rfl, hn⟩ | ⟨g, cap, cur, rfl, hg, hh, hnc, hcm, hcs, htk⟩⟩ := h
  · simp only [Value.slice.injEq] at e0
    obtain ⟨rfl, h1, rfl⟩ := e0
    exact ⟨none, 0, by rw [← h1], by omega, by omega, hB, (fun x hx => by cases hx), fun _ => rfl⟩
  · simp only [Value.slice.injEq] at e0
    obtain ⟨rfl, h1, rfl⟩ := e0
    refine ⟨_, cap, rfl, hnc, by unfold maxLen at hcm; omega, hB, fun x hx => ?_, fun h => by cases h⟩
    simp only [Option.some.injEq] at hx
    subst hx
    exact ⟨rfl, blk_lt hh⟩
theorem mac_call {ka : Option Addr} {key : List UInt8} {kc : Nat} {text : List UInt8} {w : World} (hkn : ka = none → kc = 0) (hkl : key.length ≤ 1000000004) (hkB : Bytes w ka key) (h : text.length ≤ 3000000000) :
    Calls Tryz.prog 48 #[.slice ka key.length kc, .string ⟨text.toArray⟩] w fun e w' => ∃ a c, e = .returned (.slice a 32 c) ∧ Own w' w.heap.size (.slice a 32 c) (hmacL key text) ∧ Bytes w' a (hmacL key text) ∧ (a = none → c = 0) ∧ Below w.heap.size w w' :=
  (mac_any ka key kc text w hkn hkl hkB h).mono fun e w' ⟨v, h1, h2, h3⟩ => by
    obtain ⟨a, c, h4, -, -, h5, -, h6⟩ := own_head h2
    rw [hmacL_length] at h4
    subst h4
    exact ⟨a, c, h1, h2, h5, h6, h3⟩
set_option maxRecDepth 20000 in
set_option maxHeartbeats 4000000 in
theorem rskey_any (secret day region service : List UInt8) (w : World) (h1 : secret.length ≤ 1000000000) (h2 : day.length ≤ 1000000000) (h3 : region.length ≤ 1000000000) (h4 : service.length ≤ 1000000000) :
    Calls Tryz.prog 13 #[.string ⟨secret.toArray⟩, .string ⟨day.toArray⟩, .string ⟨region.toArray⟩, .string ⟨service.toArray⟩] w fun e w' => ∃ v, e = .returned v ∧ Own w' w.heap.size v (skL secret day region service) ∧ Below w.heap.size w w' := by
  have HL := (show Hid (secret.length ≤ 1000000000 ∧ day.length ≤ 1000000000 ∧ region.length ≤ 1000000000 ∧ service.length ≤ 1000000000) from ⟨h1, h2, h3, h4⟩)
  obtain ⟨S, hS⟩ : ∃ S : ByteArray, S = ⟨secret.toArray⟩ := ⟨_, rfl⟩
  have hSs : S.size ≤ 1000000000 := by rw [hS]; show secret.toArray.size ≤ _; simpa using h1
  have hadd : (⟨#[65, 87, 83, 52]⟩ : ByteArray) ++ S = ⟨(aws4 ++ secret).toArray⟩ := by rw [hS]; exact add_list aws4 secret
  obtain ⟨K, hK⟩ : ∃ K : ByteArray, K = ⟨(aws4 ++ secret).toArray⟩ := ⟨_, rfl⟩
  rw [← hK] at hadd
  obtain ⟨W1, c1, hcv, hB1, hb1, hc1⟩ := conv_list (aws4 ++ secret) w
  rw [← hK] at hcv
  have HB1 := (show Hid (Below w.heap.size w W1) from hb1)
  obtain ⟨n0, hn0⟩ : ∃ n0, n0 = (aws4 ++ secret).length := ⟨_, rfl⟩
  have K1 := (show Hid (Calls Tryz.prog 48 #[.slice (some ⟨w.heap.size, 0, none⟩) n0 c1, .string ⟨day.toArray⟩] W1 fun e w' => ∃ a c, e = .returned (.slice a 32 c) ∧ Own w' W1.heap.size (.slice a 32 c) (hmacL (aws4 ++ secret) day) ∧ Bytes w' a (hmacL (aws4 ++ secret) day) ∧ (a = none → c = 0) ∧ Below W1.heap.size W1 w') from by
    rw [hn0]
    exact mac_call (fun h => by cases h) (by rw [List.length_append]; show 4 + _ ≤ _; omega) hB1 (by omega))
  rw [← hn0] at hcv
  rw [← hS]
  clear h1 h2 h3 h4 hS hK hB1 hb1 hc1 hn0
  go_enter Tryz.func13, Tryz.ntmps13
  go_wp2_with fail
  refine Calls.mono K1.out ?_
  rintro e w2 ⟨a2, c2, rfl, -, hB2, hn2, hb2⟩
  have HB2 := (show Hid (Below w.heap.size w w2) from HB1.out.trans (hb2.mono HB1.out.size))
  have K2 := (show Hid (Calls Tryz.prog 48 #[.slice a2 32 c2, .string ⟨region.toArray⟩] w2 fun e w' => ∃ a c, e = .returned (.slice a 32 c) ∧ Own w' w2.heap.size (.slice a 32 c) (hmacL (hmacL (aws4 ++ secret) day) region) ∧ Bytes w' a (hmacL (hmacL (aws4 ++ secret) day) region) ∧ (a = none → c = 0) ∧ Below w2.heap.size w2 w') from mac_call (key := hmacL (aws4 ++ secret) day) hn2 (by rw [hmacL_length]; omega) hB2 (by have := HL.out; omega))
  clear hcv hB2 hn2 hb2 K1 hadd hSs
  go_wp2_with fail
  refine Calls.mono K2.out ?_
  rintro e w3 ⟨a3, c3, rfl, -, hB3, hn3, hb3⟩
  have HB3 := (show Hid (Below w.heap.size w w3) from HB2.out.trans (hb3.mono HB2.out.size))
  have K3 := (show Hid (Calls Tryz.prog 48 #[.slice a3 32 c3, .string ⟨service.toArray⟩] w3 fun e w' => ∃ a c, e = .returned (.slice a 32 c) ∧ Own w' w3.heap.size (.slice a 32 c) (hmacL (hmacL (hmacL (aws4 ++ secret) day) region) service) ∧ Bytes w' a (hmacL (hmacL (hmacL (aws4 ++ secret) day) region) service) ∧ (a = none → c = 0) ∧ Below w3.heap.size w3 w') from mac_call (key := hmacL (hmacL (aws4 ++ secret) day) region) hn3 (by rw [hmacL_length]; omega) hB3 (by have := HL.out; omega))
  clear hB3 hn3 hb3 K2
  go_wp2_with fail
  refine Calls.mono K3.out ?_
  rintro e w4 ⟨a4, c4, rfl, -, hB4, hn4, hb4⟩
  have HB4 := (show Hid (Below w.heap.size w w4) from HB3.out.trans (hb4.mono HB3.out.size))
  have K4 := (show Hid (Calls Tryz.prog 48 #[.slice a4 32 c4, .string ⟨#[97, 119, 115, 52, 95, 114, 101, 113, 117, 101, 115, 116]⟩] w4 fun e w' => ∃ a c, e = .returned (.slice a 32 c) ∧ Own w' w4.heap.size (.slice a 32 c) (skL secret day region service) ∧ Bytes w' a (skL secret day region service) ∧ (a = none → c = 0) ∧ Below w4.heap.size w4 w') from mac_call (key := hmacL (hmacL (hmacL (aws4 ++ secret) day) region) service) (text := endT) hn4 (by rw [hmacL_length]; omega) hB4 (by decide))
  clear hB4 hn4 hb4 K3
  go_wp2_with fail
  refine Calls.mono K4.out ?_
  rintro e w5 ⟨a5, c5, rfl, ho5, -, -, hb5⟩
  have HO := (show Hid (Own w5 w.heap.size (.slice a5 32 c5) (skL secret day region service) ∧ Below w.heap.size w w5) from ⟨own_le ho5 HB4.out.size, HB4.out.trans (hb5.mono HB4.out.size)⟩)
  clear ho5 hb5 K4
  go_wp2
  go_ret
  exact ⟨_, rfl, HO.out.1, HO.out.2⟩
theorem sgT_text (date scope text : List UInt8) : sgT date scope text = algT ++ [10] ++ date ++ [10] ++ scope ++ [10] ++ hexL (shaL text) := by
  rw [sgT, sgX, List.map_cons, Lib.join_cons]
  simp [Lib.joinTail]
set_option maxRecDepth 20000 in
set_option maxHeartbeats 4000000 in
theorem rsign_any (ka : Option Addr) (key : List UInt8) (kc : Nat) (date scope text : List UInt8) (w : World) (hkn : ka = none → kc = 0) (hkl : key.length ≤ 1000000000) (hkB : Bytes w ka key) (h1 : date.length ≤ 1000000000) (h2 : scope.length ≤ 1000000000) (h3 : text.length ≤ 1000000000) :
    Calls Tryz.prog 15 #[.slice ka key.length kc, .string ⟨date.toArray⟩, .string ⟨scope.toArray⟩, .string ⟨text.toArray⟩] w fun e w' => e = .returned (.string ⟨(sgL key date scope text).toArray⟩) ∧ Below w.heap.size w w' := by
  have HL := (show Hid (key.length ≤ 1000000000 ∧ date.length ≤ 1000000000 ∧ scope.length ≤ 1000000000 ∧ (ka = none → kc = 0) ∧ Bytes w ka key) from ⟨hkl, h1, h2, hkn, hkB⟩)
  have S2 := (show Hid _ from rsum_any text w h3)
  obtain ⟨HD, hHD⟩ : ∃ HD : ByteArray, HD = ⟨(hexL (shaL text)).toArray⟩ := ⟨_, rfl⟩
  rw [← hHD] at S2
  have hzd : HD.size = 64 := by rw [hHD]; show (hexL (shaL text)).toArray.size = 64; rw [List.size_toArray, hexL_length]; rfl
  obtain ⟨DT, hDT⟩ : ∃ DT : ByteArray, DT = ⟨date.toArray⟩ := ⟨_, rfl⟩
  obtain ⟨SC, hSC⟩ : ∃ SC : ByteArray, SC = ⟨scope.toArray⟩ := ⟨_, rfl⟩
  have hz1 : DT.size ≤ 1000000000 := by rw [hDT]; show date.toArray.size ≤ _; rw [List.size_toArray]; exact h1
  have hz2 : SC.size ≤ 1000000000 := by rw [hSC]; show scope.toArray.size ≤ _; rw [List.size_toArray]; exact h2
  obtain ⟨T, hT⟩ : ∃ T, T = sgT date scope text := ⟨_, rfl⟩
  obtain ⟨TS, hTS⟩ : ∃ TS : ByteArray, TS = ⟨T.toArray⟩ := ⟨_, rfl⟩
  have HT : (⟨#[65, 87, 83, 52, 45, 72, 77, 65, 67, 45, 83, 72, 65, 50, 53, 54, 10]⟩ : ByteArray) ++ DT ++ ⟨#[10]⟩ ++ SC ++ ⟨#[10]⟩ ++ HD = TS := by
    rw [hTS, hT, hDT, hSC, hHD, sgT_text]
    apply ByteArray.ext
    simp [algT]
  have hTl := sgT_len date scope text
  have HTT := (show Hid (sgL key date scope text = hexL (hmacL key T) ∧ T.length ≤ 3000000000) from by
    rw [hT]
    exact ⟨rfl, by omega⟩)
  obtain ⟨nk, hnk⟩ : ∃ nk, nk = key.length := ⟨_, rfl⟩
  have KM := (show Hid (∀ w2, Below w.heap.size w w2 → Calls Tryz.prog 48 #[.slice ka nk kc, .string TS] w2 fun e w' => ∃ a c, e = .returned (.slice a 32 c) ∧ Bytes w' a (hmacL key T) ∧ Below w2.heap.size w2 w') from fun w2 hb => by
    rw [hnk, hTS]
    exact (mac_call HL.out.2.2.2.1 (by have := HL.out.1; omega) (HL.out.2.2.2.2.below hb (Nat.le_refl _)) HTT.out.2).mono fun e w' ⟨a, c, h1, _, h2, _, h3⟩ => ⟨a, c, h1, h2, h3⟩)
  have q1 : ¬ (17 + DT.size > 9223372036854775807) := by omega
  have q2 : ¬ (17 + DT.size + 1 > 9223372036854775807) := by omega
  have q3 : ¬ (17 + DT.size + 1 + SC.size > 9223372036854775807) := by omega
  have q4 : ¬ (17 + DT.size + 1 + SC.size + 1 > 9223372036854775807) := by omega
  have q5 : ¬ (17 + DT.size + 1 + SC.size + 1 + 64 > 9223372036854775807) := by omega
  rw [← hDT, ← hSC, ← hnk]
  clear hkn hkl hkB h1 h2 h3 hHD hDT hSC hz1 hz2 hT hTS hTl hnk
  go_enter Tryz.func15, Tryz.ntmps15
  go_wp2_with fail
  refine Calls.mono S2.out ?_
  rintro e w2 ⟨rfl, hb2⟩
  have HB2 := (show Hid (Below w.heap.size w w2) from hb2)
  have K2 := (show Hid _ from KM.out w2 hb2)
  clear hb2 S2 KM
  go_wp2_with fail
  refine Calls.mono K2.out ?_
  rintro e w3 ⟨a3, c3, rfl, hB3, hb3⟩
  have HB3 := (show Hid (Below w.heap.size w w3) from HB2.out.trans (hb3.mono HB2.out.size))
  have K3 := (show Hid _ from rhex_any a3 (hmacL key T) c3 w3 hB3 (by rw [hmacL_length]; omega))
  clear hB3 hb3 K2 q1 q2 q3 q4 q5
  go_wp2_with fail
  refine Calls.mono K3.out ?_
  rintro e w4 ⟨rfl, hb4⟩
  have HB4 := (show Hid (Below w.heap.size w w4) from HB3.out.trans (hb4.mono HB3.out.size))
  clear hb4 K3
  go_wp2
  go_ret
  rw [HTT.out.1]
  exact ⟨rfl, HB4.out⟩
end Go.Proofs.YtnmffehmjgknkaaGreatDoor

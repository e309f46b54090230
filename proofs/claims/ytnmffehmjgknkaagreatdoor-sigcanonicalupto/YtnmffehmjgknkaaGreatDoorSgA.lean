/-
  sig.Sign, and the document's mac, SigningKey, Sum and Sign.
-/
import Derived.Test.YtnmffehmjgknkaaGreatDoorSkA
import Derived.Test.YtnmffehmjgknkaaGreatDoorShelfJ
import Derived.Test.YtnmffehmjgknkaaGreatDoorRsA
namespace Go.Proofs.YtnmffehmjgknkaaGreatDoor
open Go.RowKit

/-- "AWS4-HMAC-SHA256" -/
def algT : List UInt8 := [65, 87, 83, 52, 45, 72, 77, 65, 67, 45, 83, 72, 65, 50, 53, 54]
def sgX (date scope text : List UInt8) : List ByteArray := [⟨algT.toArray⟩, ⟨date.toArray⟩, ⟨scope.toArray⟩, ⟨(hexL (shaL text)).toArray⟩]
/-- The text that is signed. -/
def sgT (date scope text : List UInt8) : List UInt8 := Lib.join ((sgX date scope text).map (·.data.toList)) [10]
def sgL (key date scope text : List UInt8) : List UInt8 := hexL (hmacL key (sgT date scope text))
theorem sgT_len (date scope text : List UInt8) : (sgT date scope text).length = date.length + scope.length + 83 := by
  rw [sgT, sgX, List.map_cons, Lib.join_length]
  simp [Lib.lens, hexL_length, shaL_length, algT]
  omega
theorem sgL_len (key date scope text : List UInt8) : (sgL key date scope text).length = 64 := by rw [sgL, hexL_length, hmacL_length]
theorem four_new (a b c d : ByteArray) (t : TypeId) (w : World) : ∀ (j : Nat) y, [a, b, c, d][j]? = some y → (w.alloc (.cells #[.string a, .string b, .string c, .string d] t)).cell? ⟨w.heap.size, 0 + j, none⟩ = some (.string y) := by
  intro j y hj
  rw [Nat.zero_add, World.cell?_alloc_mark]
  match j with
  | 0 => simpa using hj
  | 1 => simpa using hj
  | 2 => simpa using hj
  | 3 => simpa using hj
  | n + 4 => simp at hj
set_option maxRecDepth 20000 in
set_option maxHeartbeats 4000000 in
theorem sign_any (ka : Option Addr) (key : List UInt8) (kc : Nat) (date scope text : List UInt8) (w : World) (hk : key.length ≤ kc) (hkl : key.length ≤ 1000000000) (hkB : Bytes w ka key) (h1 : date.length ≤ 1000000000) (h2 : scope.length ≤ 1000000000) (h3 : text.length ≤ 1000000000) :
    Calls Tryz.prog 14 #[.slice ka key.length kc, .string ⟨date.toArray⟩, .string ⟨scope.toArray⟩, .string ⟨text.toArray⟩] w fun e w' => e = .returned (.string ⟨(sgL key date scope text).toArray⟩) ∧ Below w.heap.size w w' := by
  have HL := (show Hid (key.length ≤ kc ∧ key.length ≤ 1000000000 ∧ date.length ≤ 1000000000 ∧ scope.length ≤ 1000000000 ∧ text.length ≤ 1000000000) from ⟨hk, hkl, h1, h2, h3⟩)
  have HK := (show Hid (Bytes w ka key) from hkB)
  obtain ⟨TX, hTX⟩ : ∃ TX : ByteArray, TX = ⟨text.toArray⟩ := ⟨_, rfl⟩
  obtain ⟨W1, c1, hcv, hB1, hb1, hc1⟩ := conv_list text w
  rw [← hTX] at hcv ⊢
  have HB1 := (show Hid (Below w.heap.size w W1) from hb1)
  have K1 := (show Hid _ from sha_any (some ⟨w.heap.size, 0, none⟩) text c1 W1 hc1 (by omega) hB1)
  obtain ⟨nk, hnk⟩ : ∃ nk, nk = key.length := ⟨_, rfl⟩
  rw [← hnk]
  have HNK := (show Hid _ from hnk)
  clear hk hkl hkB h1 h2 h3 hTX hB1 hb1 hc1 hnk
  go_enter Tryz.func14, Tryz.ntmps14
  go_wp2_with fail
  refine Calls.mono K1.out ?_
  rintro e w2 ⟨v2, rfl, ho2, hb2⟩
  obtain ⟨a2, c2, rfl, hB2⟩ := ho2.bytes
  have HB2 := (show Hid (Below w.heap.size w w2) from HB1.out.trans (hb2.mono HB1.out.size))
  have K2 := (show Hid _ from hex_any a2 (shaL text) c2 w2 (by rw [shaL_length]; omega) hB2)
  clear ho2 hb2 hB2 hcv K1
  go_wp2_with fail
  refine Calls.mono K2.out ?_
  rintro e w3 ⟨rfl, hb3⟩
  have HB3 := (show Hid (Below w.heap.size w w3) from HB2.out.trans (hb3.mono HB2.out.size))
  clear hb3 K2
  go_upto_region 2 with fail
  obtain ⟨W6, hW6⟩ : ∃ W6, W6 = w3.alloc (.cells #[.string ⟨algT.toArray⟩, .string ⟨date.toArray⟩, .string ⟨scope.toArray⟩, .string ⟨(hexL (shaL text)).toArray⟩] 9) := ⟨_, rfl⟩
  have hb6 : Below w.heap.size w W6 := by rw [hW6]; exact HB3.out.trans (((Below.refl _ _).alloc (Nat.le_refl _) _).mono HB3.out.size)
  have hc6 : ∀ (j : Nat) y, (sgX date scope text)[j]? = some y → W6.cell? ⟨w3.heap.size, 0 + j, none⟩ = some (.string y) := by rw [hW6]; exact four_new _ _ _ _ _ _
  have hg6 : w3.heap.size < W6.heap.size := by rw [hW6]; show w3.heap.size < (w3.heap.push _).size; simp
  rw [show (Value.string ⟨#[65, 87, 83, 52, 45, 72, 77, 65, 67, 45, 83, 72, 65, 50, 53, 54]⟩) = .string ⟨algT.toArray⟩ from rfl, ← hW6]
  obtain ⟨g, hg⟩ : ∃ g, g = w3.heap.size := ⟨_, rfl⟩
  rw [← hg] at hc6 hg6 ⊢
  have HB6 := (show Hid (Below w.heap.size w W6) from hb6)
  obtain ⟨T, hT⟩ : ∃ T, T = sgT date scope text := ⟨_, rfl⟩
  have J1 := (show Hid (Calls Tryz.prog 38 #[.slice (some ⟨g, 0, none⟩) 4 4, .string ⟨#[10]⟩] W6 fun e w' => e = .returned (.string ⟨T.toArray⟩) ∧ Below W6.heap.size W6 w') from by
    rw [hT]
    exact YtnmffehmjgknkaaGreatDoor.strings_Join g 0 4 (sgX date scope text) ⟨#[10]⟩ W6 hc6 hg6 (by show 4 ≤ _; omega) (Nat.le_refl _) (by have := sgT_len date scope text; have := HL.out; show (sgT date scope text).length ≤ _; omega))
  have HT := (show Hid (T.length ≤ 2000000083 ∧ sgL key date scope text = hexL (hmacL key T)) from by
    have := sgT_len date scope text
    have := HL.out
    rw [hT]
    exact ⟨by omega, rfl⟩)
  clear hW6 hg hc6 hg6 hb6 hT
  go_wp2_with fail
  refine Calls.mono J1.out ?_
  rintro e w7 ⟨rfl, hb7⟩
  obtain ⟨W8, c8, hcv8, hB8, hb8, hc8⟩ := conv_list T w7
  have HB8 := (show Hid (Below w.heap.size w W8) from HB6.out.trans ((hb7.trans (hb8.mono hb7.size)).mono HB6.out.size))
  obtain ⟨TS, hTS⟩ : ∃ TS : ByteArray, TS = ⟨T.toArray⟩ := ⟨_, rfl⟩
  rw [← hTS] at hcv8 ⊢
  have K3 := (show Hid (Calls Tryz.prog 47 #[.slice ka nk kc, .slice (some ⟨w7.heap.size, 0, none⟩) T.length c8] W8 fun e w' => ∃ v, e = .returned v ∧ Own w' W8.heap.size v (hmacL key T) ∧ Below W8.heap.size W8 w') from by
    rw [HNK.out]
    exact hmac_any ka key kc (some ⟨w7.heap.size, 0, none⟩) T c8 W8 HL.out.1 (by have := HL.out; omega) (HK.out.below HB8.out (Nat.le_refl _)) hc8 (fun h => by cases h) (by have := HT.out.1; omega) hB8)
  clear hb7 hB8 hb8 hc8 hTS J1
  go_wp2_with fail
  refine Calls.mono K3.out ?_
  rintro e w9 ⟨v9, rfl, ho9, hb9⟩
  obtain ⟨a9, c9, rfl, hB9⟩ := ho9.bytes
  have HB9 := (show Hid (Below w.heap.size w w9) from HB8.out.trans (hb9.mono HB8.out.size))
  have K4 := (show Hid _ from hex_any a9 (hmacL key T) c9 w9 (by rw [hmacL_length]; omega) hB9)
  clear ho9 hb9 hB9 hcv8 K3
  go_wp2_with fail
  refine Calls.mono K4.out ?_
  rintro e w10 ⟨rfl, hb10⟩
  have HB10 := (show Hid (Below w.heap.size w w10) from HB9.out.trans (hb10.mono HB9.out.size))
  clear hb10 K4
  go_wp2
  go_ret
  rw [HT.out.2]
  exact ⟨rfl, HB10.out⟩
/-- The document's HMAC of a text. -/
theorem mac_any (ka : Option Addr) (key : List UInt8) (kc : Nat) (text : List UInt8) (w : World) (hkn : ka = none → kc = 0) (hkl : key.length ≤ 1000000004) (hkB : Bytes w ka key) (h : text.length ≤ 3000000000) :
    Calls Tryz.prog 48 #[.slice ka key.length kc, .string ⟨text.toArray⟩] w fun e w' => ∃ v, e = .returned v ∧ Own w' w.heap.size v (hmacL key text) ∧ Below w.heap.size w w' := by
  obtain ⟨TX, hTX⟩ : ∃ TX : ByteArray, TX = ⟨text.toArray⟩ := ⟨_, rfl⟩
  obtain ⟨W1, c1, hcv, hB1, hb1, hc1⟩ := conv_list text w
  rw [← hTX] at hcv ⊢
  have HB1 := (show Hid (Below w.heap.size w W1) from hb1)
  obtain ⟨nk, hnk⟩ : ∃ nk, nk = key.length := ⟨_, rfl⟩
  have K1 := (show Hid (Calls Tryz.prog 109 #[.slice ka nk kc, .slice (some ⟨w.heap.size, 0, none⟩) text.length c1] W1 fun e w' => ∃ v, e = .returned v ∧ Own w' W1.heap.size v (hmacL key text) ∧ Below W1.heap.size W1 w') from by
    rw [hnk]
    exact refHmac_any ka key kc (some ⟨w.heap.size, 0, none⟩) text c1 W1 hkn (by omega) (hkB.below hb1 (Nat.le_refl _)) (fun h => by cases h) (by omega) hB1)
  rw [← hnk]
  clear hkn hkl hkB h hTX hB1 hb1 hc1 hnk
  go_enter Tryz.func48, Tryz.ntmps48
  go_wp2_with fail
  refine Calls.mono K1.out ?_
  rintro e w2 ⟨v2, rfl, ho2, hb2⟩
  have HO := (show Hid (Own w2 w.heap.size v2 (hmacL key text) ∧ Below w.heap.size w w2) from ⟨own_le ho2 HB1.out.size, HB1.out.trans (hb2.mono HB1.out.size)⟩)
  clear ho2 hb2
  go_wp2
  go_ret
  exact ⟨_, rfl, HO.out.1, HO.out.2⟩
set_option maxHeartbeats 1000000 in
theorem rsum_any (l : List UInt8) (w : World) (hl : l.length ≤ 1000000000) :
    Calls Tryz.prog 28 #[.string ⟨l.toArray⟩] w fun e w' => e = .returned (.string ⟨(hexL (shaL l)).toArray⟩) ∧ Below w.heap.size w w' := by
  obtain ⟨W1, c1, hcv, hB, hb1, hc1⟩ := conv_list l w
  have K1 := (show Hid _ from refSha_any (some ⟨w.heap.size, 0, none⟩) l c1 W1 (fun h => by cases h) (by omega) hB)
  have HB1 := (show Hid _ from hb1)
  clear hB hb1 hc1
  go_enter Tryz.func28, Tryz.ntmps28
  go_wp2_with fail
  refine Calls.mono K1.out ?_
  rintro e w2 ⟨v2, rfl, ho2, hb2⟩
  have HB2 := (show Hid (Below w.heap.size w w2) from HB1.out.trans (hb2.mono HB1.out.size))
  obtain ⟨a2, c2, rfl, hB2⟩ := ho2.bytes
  have K2 := (show Hid _ from rhex_any a2 (shaL l) c2 w2 hB2 (by rw [shaL_length]; omega))
  clear ho2 hb2 hB2 hcv K1
  go_wp2_with fail
  refine Calls.mono K2.out ?_
  rintro e w3 ⟨rfl, hb3⟩
  have HB3 := (show Hid (Below w.heap.size w w3) from HB2.out.trans (hb3.mono HB2.out.size))
  clear hb3 K2
  go_wp2
  go_ret
  exact ⟨rfl, HB3.out⟩
end Go.Proofs.YtnmffehmjgknkaaGreatDoor

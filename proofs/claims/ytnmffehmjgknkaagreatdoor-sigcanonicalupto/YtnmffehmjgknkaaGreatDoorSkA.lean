/-
  sig.SigningKey.
-/
import Derived.Test.YtnmffehmjgknkaaGreatDoorRunA
import Derived.Test.YtnmffehmjgknkaaGreatDoorQyA
import Derived.Deep.RegionHeld3
import Derived.Deep.RegionWith
import Derived.Deep.Cut
import Derived.Deep.CutRange
import Derived.BigQuiet
namespace Go.Proofs.YtnmffehmjgknkaaGreatDoor
open Go.RowKit

/-- A text made bytes. -/
theorem conv_text (s : ByteArray) (w : World) : ∃ W1 cap, (convert 9 23 (.string s)).run Tryz.prog w = .ok (.slice (some ⟨w.heap.size, 0, none⟩) s.size cap) W1 ∧ Bytes W1 (some ⟨w.heap.size, 0, none⟩) s.data.toList ∧ Below w.heap.size w W1 ∧ w.heap.size < W1.heap.size ∧ s.size ≤ cap := by
  have hz : s.data.toList.length = s.size := by simp
  refine ⟨_, _, run_bytes_of_string w 9 23 5 s Tryz.underlying9 Tryz.underlying23 Tryz.underlying5, ?_, ((Below.refl _ w).drew).alloc (Nat.le_refl _) _, ?_, grownCap_ge _ _ _ _⟩
  · refine .inr ⟨w.heap.size, 0, rfl, ?_, fun j hj => ?_⟩
    · show w.heap.size < (w.heap.push _).size
      simp
    · rw [Nat.zero_add]
      have := World.cell?_alloc_mark w.drew (bytesRow s (grownCap w s.size 0 5)) 5 ((bytesRow s (grownCap w s.size 0 5)).size, (bytesRow s (grownCap w s.size 0 5)).size + 1) j
      rw [show w.drew.heap.size = w.heap.size from rfl] at this
      rw [this, bytesRow, Array.getElem?_append_left (by rw [Array.size_map]; show j < s.size; omega)]
      have hj2 : j < s.data.size := by show j < s.size; omega
      rw [Array.getElem?_map, Array.getElem?_eq_getElem hj2]
      simp
  · show w.heap.size < (w.heap.push _).size
    simp
theorem conv_list (l : List UInt8) (w : World) : ∃ W1 cap, (convert 9 23 (.string ⟨l.toArray⟩)).run Tryz.prog w = .ok (.slice (some ⟨w.heap.size, 0, none⟩) l.length cap) W1 ∧ Bytes W1 (some ⟨w.heap.size, 0, none⟩) l ∧ Below w.heap.size w W1 ∧ l.length ≤ cap := by
  obtain ⟨W1, cap, h1, h2, h3, -, h5⟩ := conv_text ⟨l.toArray⟩ w
  have e : (⟨l.toArray⟩ : ByteArray).size = l.length := by simp [ByteArray.size]
  rw [e] at h1 h5
  exact ⟨W1, cap, h1, h2, h3, h5⟩
/-- "AWS4" -/
def aws4 : List UInt8 := [65, 87, 83, 52]
/-- "aws4_request" -/
def endT : List UInt8 := [97, 119, 115, 52, 95, 114, 101, 113, 117, 101, 115, 116]
/-- The signing key. -/
def skL (secret day region service : List UInt8) : List UInt8 := hmacL (hmacL (hmacL (hmacL (aws4 ++ secret) day) region) service) endT
def skP (secret : List UInt8) (P : List (List UInt8)) (k : Nat) : List UInt8 := (P.take k).foldl hmacL (aws4 ++ secret)
theorem skP_succ {secret : List UInt8} {P : List (List UInt8)} {k : Nat} (h : k < P.length) : skP secret P (k + 1) = hmacL (skP secret P k) P[k] := by
  rw [skP, List.take_succ_eq_append_getElem h, List.foldl_append]
  rfl
theorem hmacL_length (k b : List UInt8) : (hmacL k b).length = 32 := rfl
theorem skP_len {secret : List UInt8} {P : List (List UInt8)} (k : Nat) (hk : k ≤ P.length) (hs : secret.length ≤ 1000000000) : (skP secret P k).length ≤ 1000000004 := by
  cases k with
  | zero => show (aws4 ++ secret).length ≤ _; rw [List.length_append]; show 4 + _ ≤ _; omega
  | succ k => rw [skP_succ (by omega), hmacL_length]; omega
theorem strs_new (L : List (List UInt8)) (w : World) (W : World) (hW : W = w.alloc (.cells ((toB L).map Value.string).toArray 9)) : ∀ j (h : j < L.length), W.cell? ⟨w.heap.size, j, none⟩ = some (.string ⟨L[j].toArray⟩) := by
  intro j h
  rw [hW, World.cell?_alloc_mark]
  simp [toB, List.getElem?_eq_getElem h]
theorem add_list (a b : List UInt8) : (⟨a.toArray⟩ : ByteArray) ++ ⟨b.toArray⟩ = ⟨(a ++ b).toArray⟩ := by
  apply ByteArray.ext
  simp
set_option maxRecDepth 20000 in
set_option maxHeartbeats 4000000 in
theorem skey_any (secret day region service : List UInt8) (w : World) (h1 : secret.length ≤ 1000000000) (h2 : day.length ≤ 1000000000) (h3 : region.length ≤ 1000000000) (h4 : service.length ≤ 1000000000) :
    Calls Tryz.prog 12 #[.string ⟨secret.toArray⟩, .string ⟨day.toArray⟩, .string ⟨region.toArray⟩, .string ⟨service.toArray⟩] w fun e w' => ∃ v, e = .returned v ∧ Own w' w.heap.size v (skL secret day region service) ∧ Below w.heap.size w w' := by
  have HL := (show Hid (secret.length ≤ 1000000000 ∧ ∀ x ∈ [day, region, service, endT], x.length ≤ 1000000000) from ⟨h1, by simp [h2, h3, h4, endT]⟩)
  obtain ⟨S, hS⟩ : ∃ S : ByteArray, S = ⟨secret.toArray⟩ := ⟨_, rfl⟩
  have hSs : S.size ≤ 1000000000 := by rw [hS]; show secret.toArray.size ≤ _; simpa using h1
  have hadd : (⟨#[65, 87, 83, 52]⟩ : ByteArray) ++ S = ⟨(aws4 ++ secret).toArray⟩ := by rw [hS]; exact add_list aws4 secret
  obtain ⟨K, hK⟩ : ∃ K : ByteArray, K = ⟨(aws4 ++ secret).toArray⟩ := ⟨_, rfl⟩
  rw [← hK] at hadd
  obtain ⟨W1, c1, hcv, hB1, hb1, hc1⟩ := conv_list (aws4 ++ secret) w
  rw [← hK] at hcv
  have HB1 := (show Hid (Bytes W1 (some ⟨w.heap.size, 0, none⟩) (aws4 ++ secret) ∧ Below w.heap.size w W1 ∧ (aws4 ++ secret).length ≤ c1) from ⟨hB1, hb1, hc1⟩)
  obtain ⟨n0, hn0⟩ : ∃ n0, n0 = (aws4 ++ secret).length := ⟨_, rfl⟩
  rw [← hn0] at hcv
  have HN0 := (show Hid _ from hn0)
  rw [← hS]
  clear h1 h2 h3 h4 hS hK hB1 hb1 hc1 hn0
  go_enter Tryz.func12, Tryz.ntmps12
  go_upto_region 2 with fail
  obtain ⟨P, hP⟩ : ∃ P, P = [day, region, service, endT] := ⟨_, rfl⟩
  obtain ⟨W2, hW2⟩ : ∃ W2, W2 = W1.alloc (.cells #[.string ⟨day.toArray⟩, .string ⟨region.toArray⟩, .string ⟨service.toArray⟩, .string ⟨#[97, 119, 115, 52, 95, 114, 101, 113, 117, 101, 115, 116]⟩] 9) := ⟨_, rfl⟩
  obtain ⟨g, hg⟩ : ∃ g, g = W1.heap.size := ⟨_, rfl⟩
  have hc2 : ∀ j (h : j < P.length), W2.cell? ⟨g, j, none⟩ = some (.string ⟨P[j].toArray⟩) := by
    subst hP
    rw [hg]
    exact strs_new [day, region, service, endT] W1 W2 hW2
  have hb2 : Below W1.heap.size W1 W2 := by rw [hW2]; exact (Below.refl _ _).alloc (Nat.le_refl _) _
  have hgW : g < W2.heap.size := by rw [hW2, hg]; show _ < (W1.heap.push _).size; simp
  have HC := (show Hid (∀ wr, Below W2.heap.size W2 wr → ∀ k (h : k < P.length), wr.cell? ⟨g, k, none⟩ = some (.string ⟨P[k].toArray⟩)) from fun wr hb k h => (hb.cell (p := ⟨g, k, none⟩) hgW).trans (hc2 k h))
  have HB2 := (show Hid (Bytes W2 (some ⟨w.heap.size, 0, none⟩) (aws4 ++ secret) ∧ Below w.heap.size w W2) from ⟨HB1.out.1.below hb2 (Nat.le_refl _), HB1.out.2.1.trans (hb2.mono HB1.out.2.1.size)⟩)
  have HP := (show Hid (P.length = 4 ∧ (∀ x ∈ P, x.length ≤ 1000000000) ∧ skP secret P 4 = skL secret day region service) from by subst hP; exact ⟨rfl, HL.out.2, rfl⟩)
  have HS := (show Hid (secret.length ≤ 1000000000) from HL.out.1)
  obtain ⟨A, hA⟩ : ∃ A, A = some (⟨w.heap.size, 0, none⟩ : Addr) := ⟨_, rfl⟩
  rw [← hA]
  rw [← hA] at HB2
  clear hcv hadd hc2 hb2 hgW hP hA HL hSs
  go_wp2
  rw [← hW2, ← hg]
  clear hW2 hg
  go_loopw [9, 20] (fun v i wr => ∃ (k : Nat) (a : Option Addr) (c : Nat), k ≤ 4 ∧ i = .int .i64 k ∧ v = .slice a (skP secret P k).length c ∧ Bytes wr a (skP secret P k) ∧ (skP secret P k).length ≤ c ∧ (1 ≤ k → Own wr w.heap.size v (skP secret P k)) ∧ Below W2.heap.size W2 wr) (fun _ i _ => 4 - (intOf i).toNat)
  case atStart => exact ⟨0, A, c1, Nat.zero_le _, rfl, by rw [HN0.out]; rfl, HB2.out.1, HB1.out.2.2, fun h => by omega, Below.refl _ _⟩
  case round =>
    obtain ⟨k, a, c, hk, rfl, rfl, hBk, hck, hOk, hbr⟩ := hrel
    have HR := (show Hid (Bytes wr a (skP secret P k) ∧ (skP secret P k).length ≤ c ∧ (1 ≤ k → Own wr w.heap.size (.slice a (skP secret P k).length c) (skP secret P k)) ∧ Below W2.heap.size W2 wr) from ⟨hBk, hck, hOk, hbr⟩)
    clear hBk hck hOk hbr
    by_cases hlt : k < 4
    · have hkP : k < P.length := by rw [HP.out.1]; exact hlt
      have HX := HC.out wr HR.out.2.2.2 k hkP
      have hxl : (P[k]).length ≤ 1000000000 := HP.out.2.1 _ (List.getElem_mem hkP)
      have HSC := (show Hid _ from skP_succ (secret := secret) hkP)
      have HLk := (show Hid _ from skP_len (secret := secret) (P := P) k (by omega) HS.out)
      obtain ⟨x, hx⟩ : ∃ x, x = P[k] := ⟨_, rfl⟩
      rw [← hx] at HX hxl HSC
      obtain ⟨X, hXe⟩ : ∃ X : ByteArray, X = ⟨x.toArray⟩ := ⟨_, rfl⟩
      rw [← hXe] at HX
      obtain ⟨W5, c5, hcv5, hB5, hb5, hc5⟩ := conv_list x wr
      rw [← hXe] at hcv5
      obtain ⟨nx, hnx⟩ : ∃ nx, nx = x.length := ⟨_, rfl⟩
      obtain ⟨nk, hnk⟩ : ∃ nk, nk = (skP secret P k).length := ⟨_, rfl⟩
      have KM := (show Hid (Calls Tryz.prog 47 #[.slice a nk c, .slice (some ⟨wr.heap.size, 0, none⟩) nx c5] W5 fun e w' => ∃ v, e = .returned v ∧ Own w' W5.heap.size v (skP secret P (k + 1)) ∧ Below W5.heap.size W5 w') from by
        rw [hnx, hnk, HSC.out]
        exact hmac_any a (skP secret P k) c (some ⟨wr.heap.size, 0, none⟩) x c5 W5 HR.out.2.1 (by have := HLk.out; omega) (HR.out.1.below hb5 (Nat.le_refl _)) hc5 (fun h => by cases h) (by omega) hB5)
      rw [← hnx] at hcv5
      rw [← hnk]
      have HB5 := (show Hid (Below W2.heap.size W2 W5 ∧ Below w.heap.size w W5) from by
        have h := HR.out.2.2.2.trans (hb5.mono HR.out.2.2.2.size)
        exact ⟨h, HB2.out.2.trans (h.mono HB2.out.2.size)⟩)
      have hki : (k : Int) < 4 := by omega
      have hk0 : (0 : Int) ≤ (k : Int) := by omega
      clear hx hXe hB5 hb5 hc5 hnx hnk hkP hxl
      go_wp2_with fail
      refine Calls.mono KM.out ?_
      rintro e w6 ⟨v6, rfl, ho6, hb6⟩
      obtain ⟨a6, c6, rfl, hB6⟩ := ho6.bytes
      have HO6 := (show Hid (Own w6 W5.heap.size (.slice a6 (skP secret P (k + 1)).length c6) (skP secret P (k + 1)) ∧ Bytes w6 a6 (skP secret P (k + 1)) ∧ Below W2.heap.size W2 w6) from ⟨ho6, hB6, HB5.out.1.trans (hb6.mono HB5.out.1.size)⟩)
      have hc6 : (skP secret P (k + 1)).length ≤ c6 := by
        rcases ho6.2 with ⟨e, h0⟩ | ⟨g, c2, cur, e, -, -, h, -⟩
        · simp only [Value.slice.injEq] at e
          omega
        · simp only [Value.slice.injEq] at e
          omega
      have HC6 := (show Hid _ from hc6)
      clear ho6 hB6 hb6 hc6 KM hcv5
      go_wp2
      go_roundw
      case rel => exact ⟨k + 1, a6, c6, by omega, by go_num, rfl, HO6.out.2.1, HC6.out, fun _ => own_le HO6.out.1 HB5.out.2.size, HO6.out.2.2⟩
      case measure => simp [intOf]; omega
    · obtain rfl : k = 4 := by omega
      have HF := (show Hid (Own wr w.heap.size (.slice a (skP secret P 4).length c) (skL secret day region service) ∧ Below w.heap.size w wr) from ⟨by have := HR.out.2.2.1 (by decide); rw [HP.out.2.2] at this ⊢; exact this, HB2.out.2.trans (HR.out.2.2.2.mono HB2.out.2.size)⟩)
      go_wp2
      go_ret
      exact ⟨_, rfl, HF.out.1, HF.out.2⟩
end Go.Proofs.YtnmffehmjgknkaaGreatDoor

/-
  The search among texts; place, size and get of the nodes; the leaf where a key belongs; Get.
-/
import Derived.Test.YtpophalhmjchkaaPlace
namespace Go.Proofs.Ytpophalhmjchkaa
open Go.RowKit

theorem scs_get {bs : List ByteArray} {j : Nat} (h : j < bs.length) : (scs bs)[j]? = some (.string bs[j]) := by simp [scs, List.getElem?_eq_getElem h]

set_option maxHeartbeats 2000000 in
set_option maxRecDepth 20000 in
theorem bs_any {AV : Avd} (a : Option Addr) (c : Nat) (bs : List ByteArray) (k : ByteArray) (w : World) (h : Sl w 1 a bs.length c (scs bs)) (hs : bs.Pairwise klt) (hn : bs.length ≤ 100000000) :
    Calls Try.prog 44 #[.slice a bs.length c, .string k] w fun e w' => e = .returned (.tuple #[.int .i64 (lbS bs k : Int), .bool (fdS bs k)]) ∧ Below w.heap.size w w' := by
  have hlb := lbS_le bs k
  have HS : Hid (∀ i (h : i < bs.length), klt (bs[i]) k ↔ i < lbS bs k) := fun i h => lbS_lt hs k h
  have HF : Hid (∀ (h : lbS bs k < bs.length), fdS bs k = decide (bs[lbS bs k] = k)) := fun h => fdS_iff h
  have HFN : Hid (¬ lbS bs k < bs.length → fdS bs k = false) := fun h => fdS_no h
  have HSL : Hid (Sl w 1 a bs.length c (scs bs)) := h
  obtain ⟨L, hL⟩ : ∃ L, L = lbS bs k := ⟨_, rfl⟩
  obtain ⟨F, hF⟩ : ∃ F, F = fdS bs k := ⟨_, rfl⟩
  rw [← hL] at HS HF HFN hlb ⊢
  rw [← hF] at HF HFN ⊢
  have HCELL : Hid (∀ wr i, Below w.heap.size w wr → (hi : i < bs.length) → ∃ b off, a = some ⟨b, off, none⟩ ∧ wr.cell? ⟨b, off + i, none⟩ = some (.string (bs[i]))) := (by
    intro wr i hb hi
    have hs' := HSL.out.below hb
    obtain ⟨l1, e1⟩ := List.getElem?_eq_some_iff.1 (scs_get hi)
    obtain ⟨b, off, e, _, hc⟩ := hs'.at l1
    exact ⟨b, off, e, (hc _ l1).trans (by rw [e1])⟩)
  clear h hs hL hF HSL
  go_enter Try.func44, Try.ntmps44
  go_wp2
  go_loopw [7, 8] (fun iv jv wr => ∃ i j : Nat, i ≤ L ∧ L ≤ j ∧ j ≤ bs.length ∧ iv = .int .i64 i ∧ jv = .int .i64 j ∧ Below w.heap.size w wr) (fun iv jv _ => (intOf jv).toNat - (intOf iv).toNat)
  case atStart => exact ⟨0, bs.length, Nat.zero_le _, hlb, Nat.le_refl _, rfl, rfl, Below.refl _ _⟩
  case round =>
    obtain ⟨i, j, h1, h2, h3, rfl, rfl, hbw⟩ := hrel
    by_cases hij : i < j
    · obtain ⟨m, hm⟩ : ∃ m, m = (i + j) / 2 := ⟨_, rfl⟩
      have hm1 := mid_lt hij
      rw [← hm] at hm1
      have hmp : m < bs.length := by omega
      obtain ⟨b, off, rfl, c0⟩ := HCELL.out wr m hbw hmp
      have hiff := HS.out m hmp
      obtain ⟨x, hx⟩ : ∃ x, x = bs[m] := ⟨_, rfl⟩
      rw [← hx] at c0 hiff
      have hmid : ((i : Int) + (j : Int)) / 2 = (m : Int) := by omega
      have hiji : (i : Int) < (j : Int) := by omega
      have hmid2 : (((i : Int) + (j : Int)) / 2).toNat = m := by omega
      have hm8 : (m : Int) ≤ 100000000 := by omega
      have HM : Hid (i ≤ m ∧ m < j) := hm1
      have hle : i + j ≤ 200000000 := by omega
      have HIFF : Hid (klt x k ↔ m < L) := hiff
      have hmlen : (m : Int) < (bs.length : Int) := by omega
      have HHB : Hid (Below w.heap.size w wr) := hbw
      clear hm hx hm1 hiff hbw HCELL HS HF HFN
      by_cases hlt : klt x k
      · have hl : Op.bytesLess x.toList k.toList = true := by rw [less_klt]; exact decide_eq_true hlt
        have HL : Hid (m < L) := HIFF.out.1 hlt
        clear hlt
        go_wp2
        go_roundw
        case rel => exact ⟨m + 1, j, by have := HL.out; omega, h2, h3, by go_num, rfl, HHB.out⟩
        case measure => have := HM.out; simp [intOf]; omega
      · have hl : Op.bytesLess x.toList k.toList = false := by rw [less_klt]; exact decide_eq_false hlt
        have HL : Hid (¬ m < L) := fun h => hlt (HIFF.out.2 h)
        clear hlt
        go_wp2
        go_roundw
        case rel => exact ⟨i, m, h1, by have := HL.out; omega, by have := HM.out; omega, rfl, rfl, HHB.out⟩
        case measure => have := HM.out; simp [intOf]; omega
    · obtain rfl : i = L := by omega
      have hiji : ¬ (i : Int) < (j : Int) := by omega
      by_cases hin : i < bs.length
      · obtain ⟨b, off, rfl, c0⟩ := HCELL.out wr i hbw hin
        have hF := HF.out hin
        obtain ⟨x, hx⟩ : ∃ x, x = bs[i] := ⟨_, rfl⟩
        rw [← hx] at c0 hF
        rw [← eq_ba] at hF
        have hini : (i : Int) < (bs.length : Int) := by omega
        have HFV : Hid (F = (x.toList == k.toList)) := hF
        have HHB : Hid (Below w.heap.size w wr) := hbw
        clear hx hbw HCELL HS HF HFN hij
        cases hq : (x.toList == k.toList) with
        | true =>
          clear hF
          go_wp2
          go_ret2
          exact ⟨by rw [HFV.out, hq]; rfl, HHB.out⟩
        | false =>
          clear hF
          go_wp2
          go_ret2
          exact ⟨by rw [HFV.out, hq]; rfl, HHB.out⟩
      · have hini : ¬ (i : Int) < (bs.length : Int) := by omega
        have HFV : Hid (F = false) := HFN.out hin
        clear HCELL HS HF HFN hin hij
        go_wp2
        go_ret2
        exact ⟨by rw [HFV.out]; rfl, hbw⟩
end Go.Proofs.Ytpophalhmjchkaa

/-
  Where a key lies: the library's searches and the nodes' own functions by their contracts.
-/
import Derived.Test.YtpophalhmjchkaaMem
namespace Go.Proofs.Ytpophalhmjchkaa
open Go.RowKit

def cmpI (a k : ByteArray) : Int := if klt a k then -1 else if a = k then 0 else 1
theorem less_klt (a b : ByteArray) : Op.bytesLess a.toList b.toList = decide (klt a b) := bytesLess_lt _ _
theorem eq_ba (a b : ByteArray) : (a.toList == b.toList) = decide (a = b) := by
  rw [Bool.eq_iff_iff]
  simp only [beq_iff_eq, decide_eq_true_eq]
  exact ⟨ba_ext, fun h => by rw [h]⟩

theorem cmp_any (a b : ByteArray) (w : World) : Calls Try.prog 47 #[.string a, .string b] w fun e w' => e = .returned (.int .i64 (cmpI a b)) ∧ w = w' := by
  by_cases h1 : klt a b
  · have hl : Op.bytesLess a.toList b.toList = true := by rw [less_klt]; exact decide_eq_true h1
    have HC : Hid (cmpI a b = -1) := (show _ = _ from by rw [cmpI, if_pos h1])
    clear h1
    go_enter Try.func47, Try.ntmps47
    go_wp2
    go_ret
    exact ⟨ret_int HC.out.symm, rfl⟩
  · have hl : Op.bytesLess a.toList b.toList = false := by rw [less_klt]; exact decide_eq_false h1
    by_cases h2 : a = b
    · have he : (a.toList == b.toList) = true := by rw [eq_ba]; exact decide_eq_true h2
      have HC : Hid (cmpI a b = 0) := (show _ = _ from by rw [cmpI, if_neg h1, if_pos h2])
      clear h1 h2
      go_enter Try.func47, Try.ntmps47
      go_wp2
      go_ret
      exact ⟨ret_int HC.out.symm, rfl⟩
    · have he : (a.toList == b.toList) = false := by rw [eq_ba]; exact decide_eq_false h2
      have HC : Hid (cmpI a b = 1) := (show _ = _ from by rw [cmpI, if_neg h1, if_neg h2])
      clear h1 h2
      go_enter Try.func47, Try.ntmps47
      go_wp2
      go_ret
      exact ⟨ret_int HC.out.symm, rfl⟩
theorem pcmp_any (a v k : ByteArray) (w : World) : Calls Try.prog 46 #[.agg #[.string a, .string v], .string k] w fun e w' => e = .returned (.int .i64 (cmpI a k)) ∧ Below w.heap.size w w' := by
  obtain ⟨W, hW⟩ : ∃ W, W = w.alloc (.cells #[.string a, .string v] 79) := ⟨_, rfl⟩
  have hX : W.heap[w.heap.size]? = some (.cells #[.string a, .string v] 79 (0, 0)) := by rw [hW]; exact heap_alloc_new w _
  have c0 : W.cell? ⟨w.heap.size, 0, none⟩ = some (.string a) := cell_blk hX 0
  have hB : Below w.heap.size w W := by rw [hW]; exact (Below.refl _ _).alloc (Nat.le_refl _) _
  have hc := cmp_any a k W
  have HB := (show Hid _ from hB)
  clear hX hB
  go_enter Try.func46, Try.ntmps46
  go_wp2_with (go_at_call 47; rw [← hW]; refine Calls.mono hc ?_; rintro e w2 ⟨rfl, rfl⟩)
  go_ret
  exact ⟨rfl, by first | exact HB.out | (rw [← hW]; exact HB.out)⟩
theorem mid_lt {i j : Nat} (h : i < j) : i ≤ (i + j) / 2 ∧ (i + j) / 2 < j := by omega

set_option maxHeartbeats 2000000 in
set_option maxRecDepth 20000 in
theorem bsf_any {AV : Avd} (a : Option Addr) (c : Nat) (ps : List KV) (k : ByteArray) (w : World) (h : Sl w 2 a ps.length c (pcs ps)) (hs : Srt ps) (hn : ps.length ≤ 100000000) :
    Calls Try.prog 45 #[.slice a ps.length c, .string k, .func (.func 46) #[] #[]] w fun e w' => e = .returned (.tuple #[.int .i64 (lbS (keysP ps) k : Int), .bool (fdS (keysP ps) k)]) ∧ Below w.heap.size w w' := by
  have hlb := lbS_le (keysP ps) k
  have hkl : (keysP ps).length = ps.length := by simp [keysP]
  rw [hkl] at hlb
  have HS : Hid (∀ i (h : i < ps.length), klt (ps[i]).1 k ↔ i < lbS (keysP ps) k) := (by
    intro i h
    have := lbS_lt (keysP_srt hs) k (h := i) (by rw [hkl]; exact h)
    rw [← this]
    simp [keysP])
  have HF : Hid (∀ (h : lbS (keysP ps) k < ps.length), fdS (keysP ps) k = decide ((ps[lbS (keysP ps) k]).1 = k)) := (by
    intro h
    rw [fdS_iff (by rw [hkl]; exact h)]
    congr 1
    simp [keysP])
  have HFN : Hid (¬ lbS (keysP ps) k < ps.length → fdS (keysP ps) k = false) := fun h => fdS_no (by rw [hkl]; exact h)
  have HSL : Hid (Sl w 2 a ps.length c (pcs ps)) := h
  obtain ⟨L, hL⟩ : ∃ L, L = lbS (keysP ps) k := ⟨_, rfl⟩
  obtain ⟨F, hF⟩ : ∃ F, F = fdS (keysP ps) k := ⟨_, rfl⟩
  rw [← hL] at HS HF HFN hlb ⊢
  rw [← hF] at HF HFN ⊢
  have HCELL : Hid (∀ wr i, Below w.heap.size w wr → (hi : i < ps.length) → ∃ b off, a = some ⟨b, off, none⟩ ∧ wr.cell? ⟨b, off + i * 2, none⟩ = some (.string (ps[i]).1) ∧ wr.cell? ⟨b, off + i * 2 + 1, none⟩ = some (.string (ps[i]).2)) := (by
    intro wr i hb hi
    have hs' := HSL.out.below hb
    obtain ⟨g1, g2⟩ := pcs_get hi
    obtain ⟨l1, e1⟩ := List.getElem?_eq_some_iff.1 g1
    obtain ⟨l2, e2⟩ := List.getElem?_eq_some_iff.1 g2
    obtain ⟨b, off, e, _, hc⟩ := hs'.at l1
    exact ⟨b, off, e, (hc _ l1).trans (by rw [e1]), by rw [Nat.add_assoc]; exact (hc _ l2).trans (by rw [e2])⟩)
  clear h hs hkl hL hF HSL
  go_enter Try.func45, Try.ntmps45
  go_wp2
  go_loopw [9, 10] (fun iv jv wr => ∃ i j : Nat, i ≤ L ∧ L ≤ j ∧ j ≤ ps.length ∧ iv = .int .i64 i ∧ jv = .int .i64 j ∧ Below w.heap.size w wr) (fun iv jv _ => (intOf jv).toNat - (intOf iv).toNat)
  case atStart => exact ⟨0, ps.length, Nat.zero_le _, hlb, Nat.le_refl _, rfl, rfl, Below.refl _ _⟩
  case round =>
    obtain ⟨i, j, h1, h2, h3, rfl, rfl, hbw⟩ := hrel
    by_cases hij : i < j
    · obtain ⟨m, hm⟩ : ∃ m, m = (i + j) / 2 := ⟨_, rfl⟩
      have hm1 := mid_lt hij
      rw [← hm] at hm1
      have hmp : m < ps.length := by omega
      obtain ⟨b, off, rfl, c0, c1⟩ := HCELL.out wr m hbw hmp
      have hiff := HS.out m hmp
      have hpc := pcmp_any (ps[m]).1 (ps[m]).2 k wr
      obtain ⟨x, hx⟩ : ∃ x, x = (ps[m]).1 := ⟨_, rfl⟩
      obtain ⟨y, hy⟩ : ∃ y, y = (ps[m]).2 := ⟨_, rfl⟩
      rw [← hx, ← hy] at hpc
      rw [← hx] at c0 hiff
      rw [← hy] at c1
      obtain ⟨cv, hcv⟩ : ∃ cv, cv = cmpI x k := ⟨_, rfl⟩
      rw [← hcv] at hpc
      have hmid : ((i : Int) + (j : Int)) / 2 = (m : Int) := by omega
      have hiji : (i : Int) < (j : Int) := by omega
      have hmid2 : (((i : Int) + (j : Int)) / 2).toNat = m := by omega
      have hm8 : (m : Int) ≤ 100000000 := by omega
      have HM : Hid (i ≤ m ∧ m < j) := hm1
      have hle : i + j ≤ 200000000 := by omega
      have HIFF : Hid (klt x k ↔ m < L) := hiff
      have hmlen : (m : Int) < (ps.length : Int) := by omega
      have HHB : Hid (Below w.heap.size w wr) := hbw
      clear hm hx hy hm1 hiff hbw HCELL HS HF HFN
      by_cases hlt : klt x k
      · have hcn : cv = -1 := by rw [hcv, cmpI, if_pos hlt]
        rw [hcn] at hpc
        have HL : Hid (m < L) := HIFF.out.1 hlt
        clear hlt hcn hcv
        go_wp2_with (go_at_call 46; refine Calls.mono hpc ?_; rintro e w2 ⟨rfl, hb2⟩)
        go_roundw
        case rel => exact ⟨m + 1, j, by have := HL.out; omega, h2, h3, by go_num, rfl, HHB.out.trans (hb2.mono HHB.out.size)⟩
        case measure => have := HM.out; simp [intOf]; omega
      · have hcn : ¬ cv < 0 := by
          rw [hcv, cmpI, if_neg hlt]; split <;> omega
        have HL : Hid (¬ m < L) := fun h => hlt (HIFF.out.2 h)
        clear hlt hcv
        go_wp2_with (go_at_call 46; refine Calls.mono hpc ?_; rintro e w2 ⟨rfl, hb2⟩)
        go_roundw
        case rel => exact ⟨i, m, h1, by have := HL.out; omega, by have := HM.out; omega, rfl, rfl, HHB.out.trans (hb2.mono HHB.out.size)⟩
        case measure => have := HM.out; simp [intOf]; omega
    · obtain rfl : i = L := by omega
      have hiji : ¬ (i : Int) < (j : Int) := by omega
      by_cases hin : i < ps.length
      · obtain ⟨b, off, rfl, c0, c1⟩ := HCELL.out wr i hbw hin
        have hpc := pcmp_any (ps[i]).1 (ps[i]).2 k wr
        have hF := HF.out hin
        have hnk : ¬ klt (ps[i]).1 k := fun h => by have := (HS.out i hin).1 h; omega
        obtain ⟨x, hx⟩ : ∃ x, x = (ps[i]).1 := ⟨_, rfl⟩
        obtain ⟨y, hy⟩ : ∃ y, y = (ps[i]).2 := ⟨_, rfl⟩
        rw [← hx, ← hy] at hpc
        rw [← hx] at c0 hF hnk
        rw [← hy] at c1
        obtain ⟨cv, hcv⟩ : ∃ cv, cv = cmpI x k := ⟨_, rfl⟩
        rw [← hcv] at hpc
        have HFV : Hid ((cv == 0) = F) := (show _ = _ from by
          rw [hF, hcv, cmpI, if_neg hnk]
          by_cases hxk : x = k
          · rw [if_pos hxk, decide_eq_true hxk]; rfl
          · rw [if_neg hxk, decide_eq_false hxk]; rfl)
        have hini : (i : Int) < (ps.length : Int) := by omega
        have HHB : Hid (Below w.heap.size w wr) := hbw
        clear hx hy hF hnk hcv hbw HCELL HS HF HFN hij
        go_wp2_with (go_at_call 46; refine Calls.mono hpc ?_; rintro e w2 ⟨rfl, hb2⟩)
        go_ret2
        exact ⟨by rw [← HFV.out]; rfl, HHB.out.trans (hb2.mono HHB.out.size)⟩
      · have hini : ¬ (i : Int) < (ps.length : Int) := by omega
        have HFV : Hid (F = false) := HFN.out hin
        clear HCELL HS HF HFN hin hij
        go_wp2
        go_ret2
        exact ⟨by rw [HFV.out]; rfl, hbw⟩
end Go.Proofs.Ytpophalhmjchkaa

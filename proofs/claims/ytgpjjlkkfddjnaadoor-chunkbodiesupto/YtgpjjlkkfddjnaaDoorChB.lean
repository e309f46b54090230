/-
  What is written is read as it was: chunks.
-/
import Derived.Test.YtgpjjlkkfddjnaaDoorEcB
namespace Go.Proofs.YtgpjjlkkfddjnaaDoor
open Go.RowKit

theorem hxC_fin : ∀ d : Fin 16, isDg (hxC d.val) = true ∧ dvN (hxC d.val) = d.val := by decide
theorem hxC_dg {n : Nat} (h : n < 16) : isDg (hxC n) = true ∧ dvN (hxC n) = n := hxC_fin ⟨n, h⟩
theorem hxF_dg : ∀ (k n : Nat), ∀ c ∈ hxF k n, isDg c = true
  | 0, n, c, h => by simp [hxF] at h
  | k + 1, n, c, h => by
    rw [hxF] at h
    split at h
    · next hn =>
      simp only [List.mem_singleton] at h
      subst h
      exact (hxC_dg hn).1
    · rcases List.mem_append.1 h with h | h
      · exact hxF_dg k _ c h
      · simp only [List.mem_singleton] at h
        subst h
        exact (hxC_dg (Nat.mod_lt _ (by omega))).1
theorem numL_snoc (l : List UInt8) (c : UInt8) : numL (l ++ [c]) = numL l * 16 + dvN c := by simp [numL]
theorem hxF_num : ∀ (k n : Nat), n < 16 ^ k → 0 < k → numL (hxF k n) = n
  | 0, n, _, h => by omega
  | k + 1, n, h, _ => by
    rw [hxF]
    split
    · next hn => simp [numL, (hxC_dg hn).2]
    · next hn =>
      have hk : 0 < k := by
        rcases Nat.eq_zero_or_pos k with rfl | h3
        · simp at h; omega
        · exact h3
      rw [numL_snoc, hxF_num k (n / 16) (by rw [Nat.div_lt_iff_lt_mul (by omega)]; rw [Nat.pow_succ] at h; exact h) hk, (hxC_dg (Nat.mod_lt _ (by omega))).2]
      omega
theorem hxF_pos : ∀ (k n : Nat), 0 < k → 0 < (hxF k n).length
  | 0, n, h => by omega
  | k + 1, n, _ => by
    rw [hxF]
    split
    · simp
    · rw [List.length_append]
      simp only [List.length_cons, List.length_nil]
      omega
theorem hxN_facts {n : Nat} (h : n < 4294967296) : (∀ c ∈ hxN n, isDg c = true) ∧ numL (hxN n) = n ∧ 0 < (hxN n).length ∧ (hxN n).length ≤ 8 := by
  have e : hxN n = hxF 8 n := hxF_more 64 8 n (Nat.lt_trans h (by decide)) (by omega) (by omega) (by omega)
  rw [e]
  exact ⟨hxF_dg 8 n, hxF_num 8 n (by omega) (by omega), hxF_pos 8 n (by omega), hxF_len 8 n⟩
theorem h2_fin : ∀ d : Fin 256, ∀ c ∈ h2 (UInt8.ofNat d.val), isDg c = true := by decide +kernel
theorem hexL_dg (l : List UInt8) : ∀ c ∈ hexL l, isDg c = true := by
  intro c hc
  simp only [hexL, List.mem_flatMap] at hc
  obtain ⟨a, _, h⟩ := hc
  have := h2_fin ⟨a.toNat, a.toNat_lt⟩ c
  simp only [UInt8.ofNat_toNat] at this
  exact this h
/-- As many digits as there are, up to a byte that is none. -/
theorem dnL_stop {most : Nat} {l : List UInt8} {c : UInt8} {r : List UInt8} (hl : ∀ c ∈ l, isDg c = true) (hm : l.length ≤ most) (hc : isDg c = false) : dnL most (l ++ c :: r) = l.length := by
  have h := dnL_le most (l ++ c :: r)
  by_cases h1 : dnL most (l ++ c :: r) < l.length
  · have h2 := (dnL_at (most := most) (l := l ++ c :: r) (Nat.le_refl _)).2 ⟨by omega, by rw [List.length_append]; omega, by rw [List.getElem_append_left h1]; exact hl _ (List.getElem_mem _)⟩
    omega
  · by_cases h3 : l.length < dnL most (l ++ c :: r)
    · have h4 := (dnL_at (most := most) (l := l ++ c :: r) (k := l.length) (by omega)).1 h3
      obtain ⟨_, h5, h6⟩ := h4
      rw [List.getElem_append_right (Nat.le_refl _)] at h6
      simp [hc] at h6
    · omega
theorem dnL_full {most : Nat} {l r : List UInt8} (hl : ∀ c ∈ l, isDg c = true) (hm : l.length = most) : dnL most (l ++ r) = most := by
  have h := dnL_le most (l ++ r)
  by_cases h1 : dnL most (l ++ r) < most
  · have h2 := (dnL_at (most := most) (l := l ++ r) (Nat.le_refl _)).2 ⟨h1, by rw [List.length_append]; omega, by rw [List.getElem_append_left (by omega)]; exact hl _ (List.getElem_mem _)⟩
    omega
  · omega
theorem tx_yes (t r : List UInt8) : txS t (t ++ r, 0) = (r, 0) := by
  have h : txB t (t ++ r) = true := by
    rw [txB, List.length_append, Nat.min_eq_left (by omega)]
    simp
  have h2 : ¬ t.length + r.length < t.length := by omega
  simp [txS, h, exS, tkS, h2]
theorem tk_yes (p r : List UInt8) : tkS p.length (p ++ r, 0) = (p, (r, 0)) := by simp [tkS]
theorem dg_num {n : Nat} (h : n < 4294967296) (c : UInt8) (r : List UInt8) (hc : isDg c = false) : dgS 1 8 (hxN n ++ c :: r, 0) = (hxN n, (c :: r, 0)) := by
  obtain ⟨h1, h2, h3, h4⟩ := hxN_facts h
  rw [dgS, dnL_stop h1 h4 hc]
  have e : max (hxN n).length 1 = (hxN n).length := by omega
  have e2 : decide (1 ≤ (hxN n).length) = true := decide_eq_true h3
  rw [e, e2]
  simp [exS, tkS]
theorem dg_sig {sig r : List UInt8} (h : sig.length = 64) (hd : ∀ c ∈ sig, isDg c = true) : dgS 64 64 (sig ++ r, 0) = (sig, (r, 0)) := by
  rw [dgS, dnL_full hd h]
  simp [exS, tkS, h]
/-- A chunk that is written is read as it was. -/
theorem ck_chunk {sig p r : List UInt8} (hp : p.length < 4294967296) (h : sig.length = 64) (hd : ∀ c ∈ sig, isDg c = true) :
    ckS (chkT sig p ++ r, 0) = ⟨p, sig, if p = [] then exS (decide (r = [])) (r, 0) else (r, 0)⟩ := by
  have e : chkT sig p ++ r = hxN p.length ++ 59 :: ([99, 104, 117, 110, 107, 45, 115, 105, 103, 110, 97, 116, 117, 114, 101, 61] ++ (sig ++ (crT ++ (p ++ (crT ++ r))))) := by simp [chkT, sigT, List.append_assoc]
  have e2 : (59 : UInt8) :: ([99, 104, 117, 110, 107, 45, 115, 105, 103, 110, 97, 116, 117, 114, 101, 61] ++ (sig ++ (crT ++ (p ++ (crT ++ r))))) = sigT ++ (sig ++ (crT ++ (p ++ (crT ++ r)))) := by simp [sigT]
  have hn := (hxN_facts hp).2.1
  rw [e]
  unfold ckS
  simp only [dg_num hp 59 _ (by decide)]
  rw [e2]
  simp only [tx_yes, dg_sig h hd, hn, tk_yes]
  by_cases h0 : p = []
  · subst h0
    simp
  · have : ¬ p.length = 0 := fun h => h0 (List.eq_nil_of_length_eq_zero h)
    simp [this, h0]
theorem sgL_dg (key date scope last data : List UInt8) : ∀ c ∈ sgL key date scope last data, isDg c = true := hexL_dg _
/-- The pieces: some that are not empty, and the empty one. -/
theorem cut_shape : ∀ (zs : List Int) (d : List UInt8), ∃ ps, cutL d zs = ps ++ [[]] ∧ ∀ p ∈ ps, p ≠ []
  | [], d => by
    rw [cutL]
    split
    · exact ⟨[], rfl, fun p hp => by simp at hp⟩
    · next h => exact ⟨[d], rfl, fun p hp => by simp only [List.mem_singleton] at hp; subst hp; exact h⟩
  | z :: zs, d => by
    rw [cutL]
    split
    · next h =>
      obtain ⟨ps, h1, h2⟩ := cut_shape zs (d.drop z.toNat)
      refine ⟨d.take z.toNat :: ps, by rw [h1]; rfl, fun p hp => ?_⟩
      rcases List.mem_cons.1 hp with rfl | hp
      · intro e
        have h3 := List.length_pos_iff.2 h.2
        have h4 : (d.take z.toNat).length = 0 := by rw [e]; rfl
        rw [List.length_take] at h4
        have := h.1
        omega
      · exact h2 p hp
    · exact cut_shape zs d
theorem back_go {key date scope : List UInt8} {size : Int} : ∀ (ps : List (List UInt8)) (n : Nat) (last acc : List UInt8), (∀ p ∈ ps, p ≠ [] ∧ p.length < 4294967296) → (encF key date scope last (ps ++ [[]])).length < n →
    decF key date scope size n last acc (encF key date scope last (ps ++ [[]]), 0) = if ((acc ++ ps.flatten).length : Int) = size then (acc ++ ps.flatten, 0) else ([], 307)
  | _, 0, _, _, _, h => by omega
  | [], n + 1, last, acc, _, _ => by
    have hc := ck_chunk (sig := sgL key date scope last []) (p := []) (r := []) (by simp) (sgL_len _ _ _ _ _) (sgL_dg _ _ _ _ _)
    rw [List.append_nil] at hc
    rw [decF]
    simp only [List.nil_append, encF, List.append_nil, hc, List.flatten_nil]
    simp [exS]
  | p :: ps, n + 1, last, acc, h, hn => by
    obtain ⟨h1, h2⟩ := h p (by simp)
    have hc := ck_chunk (sig := sgL key date scope last p) (p := p) (r := encF key date scope (sgL key date scope last p) (ps ++ [[]])) h2 (sgL_len _ _ _ _ _) (sgL_dg _ _ _ _ _)
    rw [if_neg h1] at hc
    have hpos : 0 < (chkT (sgL key date scope last p) p).length := by
      simp only [chkT, List.length_append, crT, List.length_cons, List.length_nil]
      omega
    rw [decF]
    simp only [List.cons_append, encF, hc]
    rw [if_pos trivial, if_pos trivial, if_neg h1]
    have hl : (encF key date scope (sgL key date scope last p) (ps ++ [[]])).length < n := by
      simp only [List.cons_append, encF, List.length_append] at hn
      omega
    rw [back_go ps n _ _ (fun q hq => h q (by simp [hq])) hl]
    simp [List.append_assoc]
/-- Data that is cut and signed comes back whole. -/
theorem back_all (x : Wh) (data : List UInt8) (zs : List Int) (size : Int) (hd : data.length ≤ 1000000000) : decL x size (encL x data zs) = if (data.length : Int) = size then (data, 0) else ([], 307) := by
  obtain ⟨ps, h1, h2⟩ := cut_shape zs data
  have hf := cut_flat zs data
  rw [h1] at hf
  simp only [List.flatten_append, List.flatten_cons, List.flatten_nil, List.append_nil] at hf
  have hle : ∀ p ∈ ps, p.length ≤ data.length := by
    intro p hp
    rw [← hf]
    obtain ⟨i, hi, rfl⟩ := List.mem_iff_getElem.1 hp
    exact piece_le hi
  rw [decL, encL, h1, back_go ps _ _ _ (fun p hp => ⟨h2 p hp, by have := hle p hp; omega⟩) (Nat.lt_succ_self _)]
  rw [List.nil_append, hf]
end Go.Proofs.YtgpjjlkkfddjnaaDoor

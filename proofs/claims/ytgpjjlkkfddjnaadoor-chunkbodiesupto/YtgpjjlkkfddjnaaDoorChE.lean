/-
  A body that is cut off, or that goes on behind its end.
-/
import Derived.Test.YtgpjjlkkfddjnaaDoorChB
namespace Go.Proofs.YtgpjjlkkfddjnaaDoor
open Go.RowKit

theorem tk_f {n : Nat} {s : RS} (h : s.2 = 307) : (tkS n s).2.2 = 307 := by rw [tkS_fault (by rw [h]; decide)]; exact h
theorem ex_f {b : Bool} {s : RS} (h : s.2 = 307) : (exS b s).2 = 307 := by rw [exS_fault (by rw [h]; decide)]; exact h
theorem tx_f {t : List UInt8} {s : RS} (h : s.2 = 307) : (txS t s).2 = 307 := tk_f (ex_f h)
theorem dg_f {least most : Nat} {s : RS} (h : s.2 = 307) : (dgS least most s).2.2 = 307 := tk_f (ex_f h)
theorem tx_short {t : List UInt8} {j : Nat} (h : j < t.length) : (txS t (t.take j, 0)).2 = 307 := by
  have hl : (t.take j).length = j := by rw [List.length_take]; omega
  have h1 : txB t (t.take j) = true := by
    rw [txB, hl, Nat.min_eq_right (by omega), List.take_take, Nat.min_self]
    simp
  have h2 : j < t.length := h
  simp [txS, h1, exS, tkS, hl, h2]
theorem tk_short {p : List UInt8} {j : Nat} (h : j < p.length) : (tkS p.length (p.take j, 0)).2.2 = 307 := by
  have hl : (p.take j).length = j := by rw [List.length_take]; omega
  simp [tkS, hl, h]
theorem dnL_whole {most : Nat} {l : List UInt8} (hl : ∀ c ∈ l, isDg c = true) (hm : l.length ≤ most) : dnL most l = l.length := by
  have h := dnL_le most l
  by_cases h1 : dnL most l < l.length
  · have h2 := (dnL_at (most := most) (l := l) (Nat.le_refl _)).2 ⟨by omega, h1, hl _ (List.getElem_mem _)⟩
    omega
  · omega
theorem dg_short {sig : List UInt8} {j : Nat} (h : sig.length = 64) (hd : ∀ c ∈ sig, isDg c = true) (hj : j < 64) : (dgS 64 64 (sig.take j, 0)).2.2 = 307 := by
  have hl : (sig.take j).length = j := by rw [List.length_take]; omega
  have hn : dnL 64 (sig.take j) = j := by rw [dnL_whole (fun c hc => hd c (List.mem_of_mem_take hc)) (by omega), hl]
  have e : max j 64 = 64 := by omega
  simp [dgS, hn, hl, exS, tkS, e, hj]
/-- Digits alone. -/
theorem dg_alone {n j : Nat} (h : n < 4294967296) : (txS sigT (dgS 1 8 ((hxN n).take j, 0)).2).2 = 307 := by
  obtain ⟨h1, h2, h3, h4⟩ := hxN_facts h
  obtain ⟨D, hD⟩ : ∃ D, D = (hxN n).take j := ⟨_, rfl⟩
  have hDl : D.length ≤ 8 := by rw [hD, List.length_take]; omega
  have hDd : ∀ c ∈ D, isDg c = true := by rw [hD]; exact fun c hc => h1 c (List.mem_of_mem_take hc)
  rw [← hD]
  have hn := dnL_whole hDd hDl
  by_cases h0 : D = []
  · subst h0
    rfl
  · have hp : 0 < D.length := List.length_pos_iff.2 h0
    have e : max D.length 1 = D.length := by omega
    have hg : dgS 1 8 ((D, 0) : RS) = (D, ([], 0)) := by simp [dgS, hn, exS, tkS, e]
    rw [hg]
    rfl
theorem take_more {A B : List UInt8} {k : Nat} (h : A.length ≤ k) : (A ++ B).take k = A ++ B.take (k - A.length) := by
  rw [List.take_append, List.take_of_length_le h]
theorem take_less {A B : List UInt8} {k : Nat} (h : k ≤ A.length) : (A ++ B).take k = A.take k := by
  rw [List.take_append_of_le_length h]
theorem ck_f {s : RS} (h : (txS crT (tkS (numL (dgS 1 8 s).1) (txS crT (dgS 64 64 (txS sigT (dgS 1 8 s).2)).2)).2).2 = 307) : (ckS s).s.2 = 307 := by
  by_cases h0 : numL (dgS 1 8 s).1 = 0
  · rw [ck_yes h0]
    exact ex_f h
  · rw [ck_no h0]
    exact h
/-- A chunk's text that is cut off. -/
theorem ck_cut {sig p : List UInt8} {k : Nat} (hp : p.length < 4294967296) (h : sig.length = 64) (hd : ∀ c ∈ sig, isDg c = true) (hk : k < (chkT sig p).length) : (ckS ((chkT sig p).take k, 0)).s.2 = 307 := by
  refine ck_f ?_
  obtain ⟨f1, f2, f3, f4⟩ := hxN_facts hp
  have hlen : (chkT sig p).length = (hxN p.length).length + 17 + 64 + 2 + p.length + 2 := by simp only [chkT, List.length_append, h, sigT, crT, List.length_cons, List.length_nil]
  have e0 : chkT sig p = hxN p.length ++ (sigT ++ (sig ++ (crT ++ (p ++ crT)))) := by simp [chkT, List.append_assoc]
  rw [e0]
  by_cases c1 : k ≤ (hxN p.length).length
  · rw [take_less c1]
    exact tx_f (tk_f (tx_f (dg_f (dg_alone hp))))
  · rw [take_more (by omega)]
    obtain ⟨j, hj⟩ : ∃ j, j = k - (hxN p.length).length := ⟨_, rfl⟩
    rw [← hj]
    have e1 : (sigT ++ (sig ++ (crT ++ (p ++ crT)))).take j = 59 :: (([99, 104, 117, 110, 107, 45, 115, 105, 103, 110, 97, 116, 117, 114, 101, 61] ++ (sig ++ (crT ++ (p ++ crT)))).take (j - 1)) := by
      obtain ⟨i, rfl⟩ : ∃ i, j = i + 1 := ⟨j - 1, by omega⟩
      simp [sigT]
    have hg : dgS 1 8 (hxN p.length ++ (sigT ++ (sig ++ (crT ++ (p ++ crT)))).take j, 0) = (hxN p.length, ((sigT ++ (sig ++ (crT ++ (p ++ crT)))).take j, 0)) := by
      rw [e1]
      exact dg_num hp 59 _ (by decide)
    rw [hg]
    simp only [f2]
    by_cases c2 : j < 17
    · rw [take_less (by show j ≤ 17; omega)]
      exact tx_f (tk_f (tx_f (dg_f (tx_short (by show j < 17; omega)))))
    · rw [take_more (by show 17 ≤ j; omega), tx_yes]
      rw [show j - sigT.length = j - 17 from rfl]
      by_cases c3 : j - 17 < 64
      · rw [take_less (by omega)]
        exact tx_f (tk_f (tx_f (dg_short h hd c3)))
      · rw [take_more (by omega), dg_sig h hd]
        simp only
        rw [h]
        by_cases c4 : j - 17 - 64 < 2
        · rw [take_less (by show _ ≤ 2; omega)]
          exact tx_f (tk_f (tx_short (by show _ < 2; omega)))
        · rw [take_more (by show 2 ≤ _; omega), tx_yes]
          rw [show j - 17 - 64 - crT.length = j - 17 - 64 - 2 from rfl]
          by_cases c5 : j - 17 - 64 - 2 < p.length
          · rw [take_less (by omega)]
            exact tx_f (tk_short c5)
          · rw [take_more (by omega), tk_yes]
            simp only
            exact tx_short (by show _ < 2; omega)
theorem cut_off {key date scope : List UInt8} {size : Int} : ∀ (ps : List (List UInt8)) (n : Nat) (last acc : List UInt8) (k : Nat), (∀ p ∈ ps, p ≠ [] ∧ p.length < 4294967296) → k < (encF key date scope last (ps ++ [[]])).length → k < n →
    decF key date scope size n last acc ((encF key date scope last (ps ++ [[]])).take k, 0) = ([], 307)
  | _, 0, _, _, _, _, _, h => by omega
  | [], n + 1, last, acc, k, _, hk, _ => by
    simp only [List.nil_append, encF, List.append_nil] at hk ⊢
    have hf := ck_cut (sig := sgL key date scope last []) (p := []) (by simp) (sgL_len _ _ _ _ _) (sgL_dg _ _ _ _ _) hk
    rw [decF, if_neg (by rw [hf]; decide), hf]
  | p :: ps, n + 1, last, acc, k, h, hk, hn => by
    obtain ⟨h1, h2⟩ := h p (by simp)
    simp only [List.cons_append, encF] at hk ⊢
    by_cases c : k < (chkT (sgL key date scope last p) p).length
    · rw [take_less (by omega)]
      have hf := ck_cut h2 (sgL_len _ _ _ _ _) (sgL_dg _ _ _ _ _) c
      rw [decF, if_neg (by rw [hf]; decide), hf]
    · rw [take_more (by omega)]
      have hc := ck_chunk (sig := sgL key date scope last p) (p := p) (r := (encF key date scope (sgL key date scope last p) (ps ++ [[]])).take (k - (chkT (sgL key date scope last p) p).length)) h2 (sgL_len _ _ _ _ _) (sgL_dg _ _ _ _ _)
      rw [if_neg h1] at hc
      have hpos : 0 < (chkT (sgL key date scope last p) p).length := by
        simp only [chkT, List.length_append, crT, List.length_cons, List.length_nil]
        omega
      rw [decF]
      simp only [hc]
      rw [if_pos trivial, if_pos trivial, if_neg h1]
      rw [List.length_append] at hk
      exact cut_off ps n _ _ _ (fun q hq => h q (by simp [hq])) (by omega) (by omega)
theorem goes_on {key date scope : List UInt8} {size : Int} {r : List UInt8} (hr : r ≠ []) : ∀ (ps : List (List UInt8)) (n : Nat) (last acc : List UInt8), (∀ p ∈ ps, p ≠ [] ∧ p.length < 4294967296) → (encF key date scope last (ps ++ [[]])).length < n →
    decF key date scope size n last acc (encF key date scope last (ps ++ [[]]) ++ r, 0) = ([], 308)
  | _, 0, _, _, _, h => by omega
  | [], n + 1, last, acc, _, _ => by
    have hc := ck_chunk (sig := sgL key date scope last []) (p := []) (r := r) (by simp) (sgL_len _ _ _ _ _) (sgL_dg _ _ _ _ _)
    rw [decF]
    simp only [List.nil_append, encF, List.append_nil, hc]
    simp [exS, hr]
  | p :: ps, n + 1, last, acc, h, hn => by
    obtain ⟨h1, h2⟩ := h p (by simp)
    have hc := ck_chunk (sig := sgL key date scope last p) (p := p) (r := encF key date scope (sgL key date scope last p) (ps ++ [[]]) ++ r) h2 (sgL_len _ _ _ _ _) (sgL_dg _ _ _ _ _)
    rw [if_neg h1] at hc
    have hpos : 0 < (chkT (sgL key date scope last p) p).length := by
      simp only [chkT, List.length_append, crT, List.length_cons, List.length_nil]
      omega
    rw [decF]
    simp only [List.cons_append, encF, List.append_assoc, hc]
    rw [if_pos trivial, if_pos trivial, if_neg h1]
    have hl : (encF key date scope (sgL key date scope last p) (ps ++ [[]])).length < n := by
      simp only [List.cons_append, encF, List.length_append] at hn
      omega
    exact goes_on hr ps n _ _ (fun q hq => h q (by simp [hq])) hl
theorem small_pieces {data : List UInt8} {ps : List (List UInt8)} (hd : data.length ≤ 1000000000) (hf : ps.flatten = data) : ∀ p ∈ ps, p.length < 4294967296 := by
  intro p hp
  obtain ⟨i, hi, rfl⟩ := List.mem_iff_getElem.1 hp
  have := piece_le hi
  rw [hf] at this
  omega
theorem shape_flat {zs : List Int} {data : List UInt8} {ps : List (List UInt8)} (h1 : cutL data zs = ps ++ [[]]) : ps.flatten = data := by
  have hf := cut_flat zs data
  rw [h1] at hf
  simpa using hf
theorem cut_all (x : Wh) (data : List UInt8) (zs : List Int) (size : Int) (hd : data.length ≤ 1000000000) {k : Nat} (hk : k < (encL x data zs).length) : decL x size ((encL x data zs).take k) = ([], 307) := by
  obtain ⟨ps, h1, h2⟩ := cut_shape zs data
  rw [decL, encL, h1]
  rw [encL, h1] at hk
  exact cut_off ps _ _ _ k (fun p hp => ⟨h2 p hp, small_pieces hd (shape_flat h1) p hp⟩) hk (by rw [List.length_take]; omega)
theorem more_all (x : Wh) (data : List UInt8) (zs : List Int) (size : Int) (hd : data.length ≤ 1000000000) {r : List UInt8} (hr : r ≠ []) : decL x size (encL x data zs ++ r) = ([], 308) := by
  obtain ⟨ps, h1, h2⟩ := cut_shape zs data
  rw [decL, encL, h1]
  exact goes_on hr ps _ _ _ (fun p hp => ⟨h2 p hp, small_pieces hd (shape_flat h1) p hp⟩) (by rw [List.length_append]; omega)
end Go.Proofs.YtgpjjlkkfddjnaaDoor

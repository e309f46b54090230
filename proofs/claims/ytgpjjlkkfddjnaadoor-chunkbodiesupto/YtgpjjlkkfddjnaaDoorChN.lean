/-
  A body in signed chunks: what Decode tells, by lists.
-/
import Derived.Test.YtgpjjlkkfddjnaaDoorCkA
import Derived.Test.YtgpjjlkkfddjnaaDoorSgA
namespace Go.Proofs.YtgpjjlkkfddjnaaDoor
open Go.RowKit

theorem ex_ok {b : Bool} {s : RS} (h : (exS b s).2 = 0) : s.2 = 0 ∧ b = true ∧ exS b s = s := by
  unfold exS at h ⊢
  split at h
  · cases h
  · next hn =>
    have hb : b = true := by
      cases b with
      | true => rfl
      | false => exact absurd ⟨h, rfl⟩ hn
    subst hb
    exact ⟨h, rfl, by simp⟩
theorem tk_ok {n : Nat} {s : RS} (h : (tkS n s).2.2 = 0) : s.2 = 0 ∧ n ≤ s.1.length ∧ tkS n s = (s.1.take n, (s.1.drop n, 0)) := by
  unfold tkS at h ⊢
  by_cases h0 : s.2 = 0
  · rw [if_pos h0] at h ⊢
    by_cases hl : s.1.length < n
    · rw [if_pos hl] at h
      cases h
    · rw [if_neg hl]
      exact ⟨h0, by omega, rfl⟩
  · rw [if_neg h0] at h
    exact absurd h h0
theorem tx_ok {t : List UInt8} {s : RS} (h : (txS t s).2 = 0) : s.2 = 0 ∧ txB t s.1 = true ∧ t.length ≤ s.1.length ∧ txS t s = (s.1.drop t.length, 0) := by
  unfold txS at h ⊢
  obtain ⟨h1, h2, h3⟩ := tk_ok h
  obtain ⟨h4, h5, h6⟩ := ex_ok h1
  rw [h6] at h2 h3 ⊢
  exact ⟨h4, h5, h2, by rw [h3]⟩
theorem dg_ok {least most : Nat} {s : RS} (h : (dgS least most s).2.2 = 0) : s.2 = 0 ∧ (least ≤ dnL most s.1 ∨ dnL most s.1 = s.1.length) ∧ max (dnL most s.1) least ≤ s.1.length ∧ dgS least most s = (s.1.take (max (dnL most s.1) least), (s.1.drop (max (dnL most s.1) least), 0)) := by
  unfold dgS at h ⊢
  obtain ⟨h1, h2, h3⟩ := tk_ok h
  obtain ⟨h4, h5, h6⟩ := ex_ok h1
  rw [h6] at h2 h3 ⊢
  refine ⟨h4, by simpa using h5, h2, h3⟩
theorem ck_less {s : RS} (h : (ckS s).s.2 = 0) : (ckS s).s.1.length < s.1.length := by
  have key : (txS crT (tkS (numL (dgS 1 8 s).1) (txS crT (dgS 64 64 (txS sigT (dgS 1 8 s).2)).2)).2).2 = 0 ∧ (ckS s).s.1 = (txS crT (tkS (numL (dgS 1 8 s).1) (txS crT (dgS 64 64 (txS sigT (dgS 1 8 s).2)).2)).2).1 := by
    by_cases h0 : numL (dgS 1 8 s).1 = 0
    · rw [ck_yes h0] at h ⊢
      obtain ⟨h1, _, h2⟩ := ex_ok h
      exact ⟨h1, by rw [exS_rest]⟩
    · rw [ck_no h0] at h ⊢
      exact ⟨h, rfl⟩
  obtain ⟨k1, k2⟩ := key
  rw [k2]
  have a1 := (tx_ok k1).1
  have a2 := (tk_ok a1).1
  have a3 := (tx_ok a2).1
  have a4 := (dg_ok a3).1
  have a5 := (tx_ok a4).1
  obtain ⟨-, -, a6, a7⟩ := dg_ok a5
  have b1 := tx_rest crT (tkS (numL (dgS 1 8 s).1) (txS crT (dgS 64 64 (txS sigT (dgS 1 8 s).2)).2)).2
  have b2 := tk_rest (numL (dgS 1 8 s).1) (txS crT (dgS 64 64 (txS sigT (dgS 1 8 s).2)).2)
  have b3 := tx_rest crT (dgS 64 64 (txS sigT (dgS 1 8 s).2)).2
  have b4 := dg_rest 64 64 (txS sigT (dgS 1 8 s).2)
  have b5 := tx_rest sigT (dgS 1 8 s).2
  have b6 : (dgS 1 8 s).2.1.length < s.1.length := by
    rw [a7]
    simp only [List.length_drop]
    omega
  omega
theorem tk_room (n : Nat) (s : RS) : (tkS n s).1.length + (tkS n s).2.1.length ≤ s.1.length := by
  unfold tkS
  split
  · split
    · simp
    · simp only [List.length_take, List.length_drop]; omega
  · simp
theorem ck_room (s : RS) : (ckS s).data.length + (ckS s).s.1.length ≤ s.1.length := by
  have b1 := tx_rest crT (tkS (numL (dgS 1 8 s).1) (txS crT (dgS 64 64 (txS sigT (dgS 1 8 s).2)).2)).2
  have b2 := tk_room (numL (dgS 1 8 s).1) (txS crT (dgS 64 64 (txS sigT (dgS 1 8 s).2)).2)
  have b3 := tx_rest crT (dgS 64 64 (txS sigT (dgS 1 8 s).2)).2
  have b4 := dg_rest 64 64 (txS sigT (dgS 1 8 s).2)
  have b5 := tx_rest sigT (dgS 1 8 s).2
  have b6 := dg_rest 1 8 s
  have hd : (ckS s).data = (tkS (numL (dgS 1 8 s).1) (txS crT (dgS 64 64 (txS sigT (dgS 1 8 s).2)).2)).1 := rfl
  have hs : (ckS s).s.1.length ≤ (txS crT (tkS (numL (dgS 1 8 s).1) (txS crT (dgS 64 64 (txS sigT (dgS 1 8 s).2)).2)).2).1.length := by
    by_cases h0 : numL (dgS 1 8 s).1 = 0
    · rw [ck_yes h0]
      exact ex_rest _ _
    · rw [ck_no h0]
      exact Nat.le_refl _
  rw [hd]
  omega
theorem ck_sig (s : RS) : (ckS s).sig.length ≤ 64 := dg_len (least := 64) (most := 64) (by omega)
/-- What is told of the chunks from here on, n more at most. -/
def decF (key date scope : List UInt8) (size : Int) : Nat → List UInt8 → List UInt8 → RS → List UInt8 × Int
  | 0, _, _, _ => ([], 0)
  | n + 1, last, data, s =>
    if (ckS s).s.2 = 0 then
      (if (ckS s).sig = sgL key date scope last (ckS s).data then
        (if (ckS s).data = [] then (if (data.length : Int) = size then (data, 0) else ([], 307)) else decF key date scope size n (ckS s).sig (data ++ (ckS s).data) (ckS s).s)
      else ([], 301))
    else ([], (ckS s).s.2)
def decL (x : Wh) (size : Int) (l : List UInt8) : List UInt8 × Int := decF x.key x.date x.scope size (l.length + 1) x.sig [] (l, 0)
theorem decF_more {key date scope : List UInt8} {size : Int} : ∀ (n m : Nat) {last data : List UInt8} {s : RS}, s.1.length < n → s.1.length < m → decF key date scope size n last data s = decF key date scope size m last data s
  | 0, _, _, _, _, h, _ => by omega
  | _ + 1, 0, _, _, _, _, h => by omega
  | n + 1, m + 1, last, data, s, h1, h2 => by
    rw [decF, decF]
    by_cases h0 : (ckS s).s.2 = 0
    · have := ck_less h0
      rw [decF_more n m (by omega) (by omega)]
    · rw [if_neg h0, if_neg h0]
end Go.Proofs.YtgpjjlkkfddjnaaDoor

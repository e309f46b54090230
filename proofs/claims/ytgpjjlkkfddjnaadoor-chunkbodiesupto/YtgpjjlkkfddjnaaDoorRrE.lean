/-
  The document's reader of chunks: a chunk, against the code's.
-/
import Derived.Test.YtgpjjlkkfddjnaaDoorRrD
namespace Go.Proofs.YtgpjjlkkfddjnaaDoor
open Go.RowKit

theorem dgS_fault {a b : Nat} {s : RS} (h : s.2 ≠ 0) : dgS a b s = ([], s) := by rw [dgS, exS_fault h, tkS_fault h]
theorem txS_fault {t : List UInt8} {s : RS} (h : s.2 ≠ 0) : txS t s = s := by rw [txS, exS_fault h, tkS_fault h]
/-- The reader behind the first line of a chunk, as the document reads it. -/
def hdS (l : List UInt8) : RS := txS crT (dgS 64 64 (txS sigT (szS (l, 0)))).2
def nmL (l : List UInt8) : List UInt8 := (dgS 64 64 (txS sigT (szS (l, 0)))).1
theorem ck_ref (l : List UInt8) : ((hdS l).2 ≠ 0 → (ckS (l, 0)).s.2 = (hdS l).2) ∧
    ((hdS l).2 = 0 → (ckS (l, 0)).sig = nmL l ∧ ((hdS l).1.length < szN (l, 0) → (ckS (l, 0)).s.2 = 307) ∧
      (szN (l, 0) ≤ (hdS l).1.length → (ckS (l, 0)).data = (hdS l).1.take (szN (l, 0)) ∧
        (ckS (l, 0)).s = if szN (l, 0) = 0 then exS (decide ((txS crT ((hdS l).1.drop (szN (l, 0)), 0)).1 = [])) (txS crT ((hdS l).1.drop (szN (l, 0)), 0)) else txS crT ((hdS l).1.drop (szN (l, 0)), 0))) := by
  obtain ⟨⟨e1, e2⟩, e3⟩ := sz_alk l
  by_cases hq : (txS sigT (szS (l, 0))).2 = 0
  · have eq : txS sigT (szS (l, 0)) = txS sigT (dgS 1 8 (l, 0)).2 := Prod.ext (e2 hq) e1
    have en := e3 hq
    have eh : hdS l = txS crT (dgS 64 64 (txS sigT (dgS 1 8 (l, 0)).2)).2 := by rw [hdS, eq]
    have es : nmL l = (dgS 64 64 (txS sigT (dgS 1 8 (l, 0)).2)).1 := by rw [nmL, eq]
    have ed : (ckS (l, 0)).data = (tkS (szN (l, 0)) (hdS l)).1 := by rw [en, eh]; rfl
    have eg : (ckS (l, 0)).sig = nmL l := by rw [es]; rfl
    have ey : (ckS (l, 0)).s = if szN (l, 0) = 0 then exS (decide ((txS crT (tkS (szN (l, 0)) (hdS l)).2).1 = [])) (txS crT (tkS (szN (l, 0)) (hdS l)).2) else txS crT (tkS (szN (l, 0)) (hdS l)).2 := by
      rw [en, eh]
      rfl
    constructor
    · intro h0
      rw [ey, tkS_fault h0]
      simp only
      rw [txS_fault h0, exS_fault h0]
      split <;> rfl
    · intro h0
      refine ⟨eg, fun hlt => ?_, fun hle => ?_⟩
      · have et : tkS (szN (l, 0)) (hdS l) = ([], ((hdS l).1, 307)) := by rw [tkS, if_pos h0, if_pos hlt]
        have hf : (((hdS l).1, (307 : Int)) : RS).2 ≠ 0 := by show (307 : Int) ≠ 0; decide
        rw [ey, et]
        simp only
        rw [txS_fault hf, exS_fault hf]
        split <;> rfl
      · have et : tkS (szN (l, 0)) (hdS l) = ((hdS l).1.take (szN (l, 0)), ((hdS l).1.drop (szN (l, 0)), 0)) := by rw [tkS, if_pos h0, if_neg (by omega)]
        rw [ed, ey, et]
        exact ⟨rfl, rfl⟩
  · have hq' : (txS sigT (dgS 1 8 (l, 0)).2).2 ≠ 0 := by rw [← e1]; exact hq
    have eh : hdS l = txS sigT (szS (l, 0)) := by rw [hdS, dgS_fault hq]; exact txS_fault hq
    refine ⟨fun _ => ?_, fun h => absurd (by rw [eh] at h; exact h) hq⟩
    rw [eh, e1]
    have ey : (ckS (l, 0)).s = (let e := txS crT (tkS (numL (dgS 1 8 (l, 0)).1) (txS crT (dgS 64 64 (txS sigT (dgS 1 8 (l, 0)).2)).2)).2; if numL (dgS 1 8 (l, 0)).1 = 0 then exS (decide (e.1 = [])) e else e) := rfl
    rw [ey, dgS_fault hq']
    simp only
    rw [txS_fault hq', tkS_fault hq']
    simp only
    rw [txS_fault hq', exS_fault hq']
    split <;> rfl
theorem hd_rest (m : List UInt8) : (hdS m).1.length ≤ m.length := by
  have h1 := tx_rest crT (dgS 64 64 (txS sigT (szS (m, 0)))).2
  have h2 := dg_rest 64 64 (txS sigT (szS (m, 0)))
  have h3 := tx_rest sigT (szS (m, 0))
  have h4 : (szS (m, 0)).1.length ≤ m.length := by
    unfold szS
    split
    · simp
    · split
      · exact Nat.le_refl _
      · simp
  unfold hdS
  omega
theorem hd_nil : (hdS []).2 = 307 := by rfl
theorem cr_nil : txS crT ([], 0) = ([], 307) := by rfl
theorem szN_le (l : List UInt8) : szN (l, 0) < 4294967296 := num_le (Nat.le_refl _)
end Go.Proofs.YtgpjjlkkfddjnaaDoor

/-
  A body whose first signature was changed.
-/
import Derived.Test.YtgpjjlkkfddjnaaDoorChB
import Derived.Test.YtgpjjlkkfddjnaaDoorRrE
namespace Go.Proofs.YtgpjjlkkfddjnaaDoor
open Go.RowKit

theorem chk_set {sig p r : List UInt8} {i : Nat} (hi : i < 64) (hs : sig.length = 64) (v : UInt8) : (chkT sig p ++ r).set ((hxN p.length).length + 17 + i) v = chkT (sig.set i v) p ++ r := by
  have e : ∀ s : List UInt8, chkT s p ++ r = (hxN p.length ++ sigT) ++ (s ++ (crT ++ (p ++ (crT ++ r)))) := fun s => by simp [chkT, List.append_assoc]
  have hl : (hxN p.length ++ sigT).length = (hxN p.length).length + 17 := by rw [List.length_append]; rfl
  rw [e, e, List.set_append_right _ _ (by rw [hl]; omega), hl, show (hxN p.length).length + 17 + i - ((hxN p.length).length + 17) = i from by omega, List.set_append_left _ _ (by omega)]
/-- A signature with a byte that is no digit. -/
theorem dg_bad {T r : List UInt8} {i : Nat} (hl : T.length = 64) (hi : i < 64) (hd : ∀ c ∈ T.take i, isDg c = true) (hb : isDg (T[i]'(by omega)) = false) : (dgS 64 64 (T ++ r, 0)).2.2 = 308 := by
  have e : T ++ r = T.take i ++ T[i]'(by omega) :: (T.drop (i + 1) ++ r) := by
    have h1 : T.drop i = T[i]'(by omega) :: T.drop (i + 1) := List.drop_eq_getElem_cons (by omega)
    have h2 := List.take_append_drop i T
    rw [h1] at h2
    rw [← List.cons_append, ← List.append_assoc, h2]
  have hn : dnL 64 (T ++ r) = i := by
    rw [e, dnL_stop hd (by rw [List.length_take]; omega) hb, List.length_take]
    omega
  exact (nm_cases (T ++ r)).2.2 (by omega) (by rw [hn, List.length_append]; omega)
theorem ck_bad {T p r : List UInt8} {i : Nat} (hp : p.length < 4294967296) (hl : T.length = 64) (hi : i < 64) (hd : ∀ c ∈ T.take i, isDg c = true) (hb : isDg (T[i]'(by omega)) = false) : (ckS (chkT T p ++ r, 0)).s.2 = 308 := by
  have e : chkT T p ++ r = hxN p.length ++ 59 :: ([99, 104, 117, 110, 107, 45, 115, 105, 103, 110, 97, 116, 117, 114, 101, 61] ++ (T ++ (crT ++ (p ++ (crT ++ r))))) := by simp [chkT, sigT, List.append_assoc]
  have e2 : (59 : UInt8) :: ([99, 104, 117, 110, 107, 45, 115, 105, 103, 110, 97, 116, 117, 114, 101, 61] ++ (T ++ (crT ++ (p ++ (crT ++ r))))) = sigT ++ (T ++ (crT ++ (p ++ (crT ++ r)))) := by simp [sigT]
  have h9 := dg_bad (r := crT ++ (p ++ (crT ++ r))) hl hi hd hb
  rw [e]
  unfold ckS
  simp only [dg_num hp 59 _ (by decide)]
  rw [e2]
  simp only [tx_yes]
  obtain ⟨q, hq⟩ : ∃ q, q = (dgS 64 64 (T ++ (crT ++ (p ++ (crT ++ r))), 0)).2 := ⟨_, rfl⟩
  rw [← hq] at h9 ⊢
  have h0 : q.2 ≠ 0 := by rw [h9]; decide
  rw [txS_fault h0, tkS_fault h0]
  simp only
  rw [txS_fault h0, exS_fault h0]
  split <;> exact h9
/-- The body, as its first chunk and what is behind it. -/
theorem enc_first (x : Wh) (data : List UInt8) (zs : List Int) : ∃ p r, encL x data zs = chkT (sgL x.key x.date x.scope x.sig p) p ++ r ∧ p.length ≤ data.length ∧ (p = [] → r = []) := by
  obtain ⟨ps, h1, h2⟩ := cut_shape zs data
  have hf := cut_flat zs data
  rw [h1] at hf
  simp only [List.flatten_append, List.flatten_cons, List.flatten_nil, List.append_nil] at hf
  cases ps with
  | nil => exact ⟨[], [], by rw [encL, h1]; simp [encF], by simp, fun _ => rfl⟩
  | cons p ps =>
    refine ⟨p, _, by rw [encL, h1]; rfl, ?_, fun e => absurd e (h2 p (by simp))⟩
    rw [← hf, List.flatten_cons, List.length_append]
    omega
/-- With a byte of the first signature changed, a body is refused. -/
theorem changed (x : Wh) (size : Int) (p r : List UInt8) (i : Nat) (v : UInt8) (hi : i < 64) (hp : p.length < 4294967296) (hr : p = [] → r = []) (hv : (sgL x.key x.date x.scope x.sig p)[i]'(by rw [sgL_len]; exact hi) ≠ v) :
    decL x size ((chkT (sgL x.key x.date x.scope x.sig p) p ++ r).set ((hxN p.length).length + 17 + i) v) = ([], if isDg v = true then 301 else 308) := by
  have hl := sgL_len x.key x.date x.scope x.sig p
  have hdg := sgL_dg x.key x.date x.scope x.sig p
  obtain ⟨SG, hSG⟩ : ∃ SG, SG = sgL x.key x.date x.scope x.sig p := ⟨_, rfl⟩
  have hv2 : SG[i]'(by rw [hSG, hl]; exact hi) ≠ v := by
    subst hSG
    exact hv
  rw [← hSG] at hl hdg ⊢
  rw [chk_set hi hl]
  have hTl : (SG.set i v).length = 64 := by rw [List.length_set]; exact hl
  have hTne : SG.set i v ≠ SG := by
    intro e
    have h1 : (SG.set i v)[i]'(by omega) = v := List.getElem_set_self _
    have h2 : (SG.set i v)[i]'(by omega) = SG[i] := by simp only [e]
    exact hv2 (h2.symm.trans h1)
  rw [decL, decF]
  by_cases hd : isDg v = true
  · have hTd : ∀ c ∈ SG.set i v, isDg c = true := by
      intro c hc
      rcases List.mem_or_eq_of_mem_set hc with h | h
      · exact hdg c h
      · rw [h]; exact hd
    have hc := ck_chunk (r := r) hp hTl hTd
    have h0 : (if p = [] then exS (decide (r = [])) ((r, 0) : RS) else (r, 0)).2 = 0 := by
      split
      · next h => rw [hr h]; rfl
      · rfl
    simp only [hc]
    rw [if_pos h0, ← hSG, if_neg hTne, if_pos hd]
  · have hd2 : isDg v = false := by
      cases h : isDg v with
      | false => rfl
      | true => exact absurd h hd
    have hb := ck_bad (T := SG.set i v) (r := r) hp hTl hi (fun c hc => by
      rw [List.take_set_of_le (Nat.le_refl _)] at hc
      exact hdg c (List.mem_of_mem_take hc)) (by rw [List.getElem_set_self]; exact hd2)
    have h0 : ¬ (ckS (chkT (SG.set i v) p ++ r, 0)).s.2 = 0 := by rw [hb]; decide
    rw [if_neg h0, hb, if_neg hd]
end Go.Proofs.YtgpjjlkkfddjnaaDoor

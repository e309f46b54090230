/-
  A request that is printed: what is read of it as itself has used all of its bytes.
-/
import Derived.Test.YtmodmeabjhaklaaGreatDoorBkM
namespace Go.Proofs.YtmodmeabjhaklaaGreatDoor
open Go.RowKit

/-- A reading that ends as this. -/
def Dn (l : List UInt8) (q : Nat) (s : St) (t : Tld) : Prop := ∃ n, runF l n q s = t
theorem dn_go {l : List UInt8} {q q' : Nat} {s s' : St} {t : Tld} (ht : t ≠ .more) (h : Dn l q s t) (hs : stepF l q s = .go q' s') : Dn l q' s' t := by
  obtain ⟨n, hn⟩ := h
  match n with
  | 0 => exact absurd hn.symm ht
  | n + 1 =>
    rw [runF, hs] at hn
    exact ⟨n, hn⟩
theorem dn_fin {l : List UInt8} {q : Nat} {s : St} {t t' : Tld} (ht : t ≠ .more) (h : Dn l q s t) (hs : stepF l q s = .fin t') : t' = t := by
  obtain ⟨n, hn⟩ := h
  match n with
  | 0 => exact absurd hn.symm ht
  | n + 1 =>
    rw [runF, hs] at hn
    exact hn
theorem tok_no {m : List UInt8} (h : tokenB m = true) : ∀ c ∈ m, c ≠ 13 ∧ c ≠ 32 ∧ c ≠ 58 := by
  intro c hc
  simp only [tokenB, Bool.and_eq_true] at h
  have h2 := h.2
  rw [allB, List.all_eq_true] at h2
  have := (show ∀ v : Fin 256, tokB ((UInt8.ofNat v.val).toNat : Int) = true → UInt8.ofNat v.val ≠ 13 ∧ UInt8.ofNat v.val ≠ 32 ∧ UInt8.ofNat v.val ≠ 58 by decide +kernel) ⟨c.toNat, c.toNat_lt⟩
  simpa using this (by simpa using h2 c hc)
theorem tar_no {t : List UInt8} (h : tarB t = true) : ∀ c ∈ t, c ≠ 13 ∧ c ≠ 32 := by
  intro c hc
  simp only [tarB, Bool.and_eq_true, List.all_eq_true] at h
  have h2 := h.1 c hc
  simp only [tarC, decide_eq_true_eq] at h2
  refine ⟨?_, ?_⟩ <;> rintro rfl <;> exact absurd h2 (by decide)
theorem val_no {v : List UInt8} (h : allB valB v = true) : ∀ c ∈ v, c ≠ 13 := by
  intro c hc
  rw [allB, List.all_eq_true] at h
  have h2 := h c hc
  rintro rfl
  exact absurd h2 (by decide)
def reqT (m t : List UInt8) : List UInt8 := m ++ 32 :: (t ++ 32 :: http11)
theorem req_back {m t : List UInt8} (h : ReqOk m t) : reqL (reqT m t) = .ok m t ∧ (13 : UInt8) ∉ reqT m t := by
  obtain ⟨h1, h2, h3⟩ := h
  have hm : tokenB m = true := by
    simp only [metB, Bool.and_eq_true] at h1
    exact h1.2
  have c1 : Lib.cut (reqT m t) [32] = (m, t ++ 32 :: http11, true) := cut_app (fun hc => (tok_no hm _ hc).2.1 rfl)
  have c2 : Lib.cut (t ++ 32 :: http11) [32] = (t, http11, true) := cut_app (fun hc => (tar_no h2 _ hc).2 rfl)
  have hv : verB http11 = true := by decide +kernel
  refine ⟨?_, ?_⟩
  · unfold reqL
    simp only [c1, c2, h1, h2, hv]
    rw [if_neg (by simp), if_neg (by simp), if_neg]
    rintro ⟨h4, h5⟩
    rcases h3 with h3 | h3
    · exact h4 h3
    · exact h5 h3
  · simp only [reqT, List.mem_append, List.mem_cons, not_or]
    exact ⟨fun hc => (tok_no hm _ hc).1 rfl, by decide, fun hc => (tar_no h2 _ hc).1 rfl, by decide, by decide⟩
def hdL (h : Hd) : List UInt8 := h.1 ++ 58 :: (32 :: h.2)
theorem hd_back {h : Hd} (hk : HdOk h) : hdrL (hdL h) = some h ∧ (13 : UInt8) ∉ hdL h ∧ hdL h ≠ [] := by
  obtain ⟨h1, h2, h3, h4⟩ := hk
  have c1 : Lib.cut (hdL h) [58] = (h.1, 32 :: h.2, true) := cut_app (fun hc => (tok_no h1 _ hc).2.2 rfl)
  have hv : allB valB (32 :: h.2) = true := by
    rw [allB, List.all_cons, Bool.and_eq_true]
    exact ⟨by decide, h3⟩
  have ht : trimL (32 :: h.2) = h.2 := by
    rw [trimL, dw_yes (by decide)]
    exact h4
  refine ⟨?_, ?_, by simp [hdL]⟩
  · unfold hdrL
    rw [c1]
    simp only [h1, hv, h2, ht, Bool.and_self, if_true]
  · simp only [hdL, List.mem_append, List.mem_cons, not_or]
    exact ⟨fun hc => (tok_no h1 _ hc).1 rfl, by decide, by decide, fun hc => val_no h3 _ hc rfl⟩
theorem hdT_eq (h : Hd) : hdT h = hdL h ++ [13, 10] := by simp [hdT, hdL]
theorem fstL_eq (m t : List UInt8) : fstL m t = reqT m t ++ [13, 10] := by simp [fstL, reqT, http11]
/-- The headers' lines on the way. -/
theorem heads {l b : List UInt8} {t : Tld} (ht : ∃ u m tt hs c x y, t = .done u m tt hs c x y) : ∀ (r : List Hd) {s : St}, (∀ h ∈ r, HdOk h) → l.drop s.at_ = hdsT r ++ 13 :: 10 :: b → Dn l 1 s t →
    ∃ s2, Dn l 2 s2 t ∧ s2.at_ = s.at_ + (hdsT r).length + 2 ∧ s2.hs = s.hs ++ r ∧ s2.pcs = s.pcs
  | [], s, _, hd, hD => by
    obtain ⟨u, m, tt, hs, c, x, y, rfl⟩ := ht
    rw [hdsT, List.nil_append] at hd
    by_cases hh : s.head + 2 ≤ 65536
    · have h1 : stepF l 1 s = .go 2 { s with at_ := s.at_ + 2, head := s.head + 2 } := by rw [stepF, fld_end hd hh]
      exact ⟨_, dn_go (by simp) hD h1, by simp [hdsT], by simp, rfl⟩
    · have h1 : stepF l 1 s = .fin (.bad 339) := by
        rw [stepF]
        have : fldL l s = .fin (.bad 339) := by
          unfold fldL
          have := ln_over (most := 65536 - s.head - 2) (opn := 65536 - s.head) [] b (by simp) (by simp only [List.length_nil]; omega)
          rw [List.nil_append] at this
          rw [hd, this]
        rw [this]
      have := dn_fin (by simp) hD h1
      cases this
  | h :: r, s, hok, hd, hD => by
    have ht2 := ht
    obtain ⟨u, m, tt, hs, c, x, y, rfl⟩ := ht
    obtain ⟨g1, g2, g3⟩ := hd_back (hok h (by simp))
    have hd2 : l.drop s.at_ = hdL h ++ 13 :: 10 :: (hdsT r ++ 13 :: 10 :: b) := by rw [hd, hdsT, hdT_eq]; simp
    by_cases hh : s.head + ((hdL h).length + 2) ≤ 65536
    · by_cases hf : s.fields < 100
      · have h1 : stepF l 1 s = .go 1 { s with at_ := s.at_ + ((hdL h).length + 2), head := s.head + ((hdL h).length + 2), fields := s.fields + 1, hs := s.hs ++ [h] } := by rw [stepF, fld_line hd2 g2 g3 hh hf g1]
        obtain ⟨s2, k1, k2, k3, k4⟩ := heads ht2 r (s := { s with at_ := s.at_ + ((hdL h).length + 2), head := s.head + ((hdL h).length + 2), fields := s.fields + 1, hs := s.hs ++ [h] }) (fun z hz => hok z (by simp [hz])) (drop_line hd2) (dn_go (by simp) hD h1)
        refine ⟨s2, k1, ?_, ?_, k4⟩
        · rw [k2, hdsT, hdT_eq]
          simp only [List.length_append, List.length_cons, List.length_nil]
          omega
        · rw [k3]
          simp
      · have h1 : stepF l 1 s = .fin (.bad 339) := by rw [stepF, fld_over hd2 g2 g3 hh (by omega)]
        have := dn_fin (by simp) hD h1
        cases this
    · have h1 : stepF l 1 s = .fin (.bad 339) := by
        rw [stepF]
        have : fldL l s = .fin (.bad 339) := by
          unfold fldL
          rw [hd2, ln_over _ _ g2 (by omega)]
        rw [this]
      have := dn_fin (by simp) hD h1
      cases this
/-- A body in chunks is shorter than what it is read of. -/
theorem chunks_less {l : List UInt8} {u : Nat} {a b : List UInt8} {hs : List Hd} {c : List UInt8} {x y : Bool} : ∀ (n : Nat) {q : Nat} {s : St}, (q = 4 ∨ q = 5 ∨ q = 6) → runF l n q s = .done u a b hs c x y → c.length + s.at_ < u + s.pcs.flatten.length
  | 0, _, _, _, h => by cases h
  | n + 1, q, s, hq, h => by
    unfold runF at h
    rcases hq with rfl | rfl | rfl
    · split at h
      · next t ht =>
        subst h
        rw [stepF] at ht
        split at ht
        · cases ht
        · cases ht
        · split at ht
          · cases ht
          · split at ht
            · cases ht
            · split at ht <;> cases ht
      · next q' s' hst =>
        rw [stepF] at hst
        split at hst
        · cases hst
        · cases hst
        · split at hst
          · cases hst
          · split at hst
            · cases hst
            · split at hst
              · simp only [Nx.go.injEq] at hst
                obtain ⟨rfl, rfl⟩ := hst
                have := chunks_less n (.inr (.inr rfl)) h
                simp only at this
                omega
              · simp only [Nx.go.injEq] at hst
                obtain ⟨rfl, rfl⟩ := hst
                have := chunks_less n (.inr (.inl rfl)) h
                simp only at this
                omega
    · split at h
      · next t ht =>
        subst h
        rw [stepF] at ht
        dsimp only at ht
        split at ht
        · cases ht
        · split at ht
          · cases ht
          · split at ht <;> cases ht
      · next q' s' hst =>
        rw [stepF] at hst
        dsimp only at hst
        split at hst
        · cases hst
        · split at hst
          · cases hst
          · split at hst
            · cases hst
            · simp only [Nx.go.injEq] at hst
              obtain ⟨rfl, rfl⟩ := hst
              have := chunks_less n (.inl rfl) h
              simp only [takeL, List.flatten_append, List.length_append, List.flatten_cons, List.flatten_nil, List.append_nil, List.length_take] at this
              omega
    · split at h
      · next t ht =>
        subst h
        rw [stepF] at ht
        split at ht
        · next t hf =>
          simp only [Nx.fin.injEq] at ht
          subst ht
          rcases fld_not_done hf with h | ⟨_, h⟩ <;> cases h
        · next hf =>
          have h1 := fld_go hf
          obtain ⟨-, -, -, k4, -⟩ := fld_keeps hf
          simp only [Nx.fin.injEq, doneL, Tld.done.injEq] at ht
          obtain ⟨rfl, -, -, -, rfl, -⟩ := ht
          rw [k4]
          omega
        · cases ht
      · next q' s' hst =>
        rw [stepF] at hst
        split at hst
        · cases hst
        · cases hst
        · next s1 z hf =>
          have h1 := fld_go hf
          obtain ⟨-, -, -, k4, -⟩ := fld_keeps hf
          simp only [Nx.go.injEq] at hst
          obtain ⟨rfl, rfl⟩ := hst
          have := chunks_less n (.inr (.inr rfl)) h
          rw [k4] at this
          omega
/-- What is read of a printed request as itself has used it whole. -/
theorem back_used {m t : List UInt8} {hs : List Hd} {b : List UInt8} {u : Nat} {x y : Bool} (h : parseL (printL m t hs b) = .done u m t hs b x y) : u = (printL m t hs b).length := by
  obtain ⟨w1, w2⟩ := parse_wf h
  have hroom := (parse_room h).1
  have hD : Dn (printL m t hs b) 0 st0 (.done u m t hs b x y) := ⟨_, h⟩
  obtain ⟨g1, g2⟩ := req_back w1
  have hl : printL m t hs b = reqT m t ++ 13 :: 10 :: (hdsT hs ++ 13 :: 10 :: b) := by rw [printL, fstL_eq]; simp
  by_cases hlen : (reqT m t).length ≤ 8192
  · have hD1 := dn_go (by simp) hD (req_line hl g2 hlen g1)
    have D1 : (printL m t hs b).drop ((reqT m t).length + 2) = hdsT hs ++ 13 :: 10 :: b := by
      have := drop_line (l := printL m t hs b) (k := 0) (by rw [List.drop_zero]; exact hl)
      rw [Nat.zero_add] at this
      exact this
    obtain ⟨s2, k1, k2, k3, k4⟩ := heads ⟨_, _, _, _, _, _, _, rfl⟩ hs (s := ⟨(reqT m t).length + 2, (reqT m t).length + 2, 0, m, t, [], 0, [], 0⟩) w2 D1 hD1
    have D2 : (printL m t hs b).drop s2.at_ = b := by
      rw [k2]
      have e : (reqT m t).length + 2 + (hdsT hs).length + 2 = ((reqT m t).length + 2) + ((hdsT hs).length + 2) := by omega
      simp only
      rw [e, ← List.drop_drop, D1]
      have e2 : hdsT hs ++ 13 :: 10 :: b = (hdsT hs ++ [13, 10]) ++ b := by simp
      rw [e2]
      exact List.drop_left' (by simp)
    have htot : (printL m t hs b).length = s2.at_ + b.length := by
      rw [hl, k2]
      simp only [List.length_append, List.length_cons]
      omega
    simp only at k4
    by_cases hfl : fltL s2.hs ≠ 0
    · have h1 : stepF (printL m t hs b) 2 s2 = .fin (.bad (fltL s2.hs)) := by rw [stepF, if_pos hfl]
      have := dn_fin (by simp) k1 h1
      cases this
    · by_cases hte : (getL s2.hs nTe).isSome = true
      · have h1 : stepF (printL m t hs b) 2 s2 = .go 4 s2 := by rw [stepF, if_neg hfl, if_pos hte]
        obtain ⟨n, hn⟩ := dn_go (by simp) k1 h1
        have := chunks_less n (.inl rfl) hn
        rw [k4] at this
        simp only [List.flatten_nil, List.length_nil] at this
        omega
      · obtain ⟨s3, hs3⟩ : ∃ s3, s3 = { s2 with size := (En.intV ((getL s2.hs nCl).getD [])).toNat } := ⟨_, rfl⟩
        have h1 : stepF (printL m t hs b) 2 s2 = .go 3 s3 := by rw [stepF, if_neg hfl, if_neg hte, hs3]
        have hD3 := dn_go (by simp) k1 h1
        have e1 : s3.at_ = s2.at_ := by rw [hs3]
        have e2 : s3.pcs = [] := by rw [hs3]; exact k4
        by_cases hmore : (printL m t hs b).length - s3.at_ < s3.size
        · have h2 : stepF (printL m t hs b) 3 s3 = .fin .more := by rw [stepF, if_pos hmore]
          have := dn_fin (by simp) hD3 h2
          cases this
        · have h2 : stepF (printL m t hs b) 3 s3 = .fin (doneL (takeL (printL m t hs b) s3)) := by rw [stepF, if_neg hmore]
          have h3 := dn_fin (by simp) hD3 h2
          simp only [doneL, takeL, Tld.done.injEq] at h3
          obtain ⟨h4, -, -, -, h5, -⟩ := h3
          rw [e1, D2, e2] at h5
          have h6 := congrArg List.length h5
          simp only [List.nil_append, List.flatten_cons, List.flatten_nil, List.append_nil, List.length_take] at h6
          omega
  · have h1 := req_long hl g2 (by omega)
    have := dn_fin (by simp) hD h1
    cases this
end Go.Proofs.YtmodmeabjhaklaaGreatDoor

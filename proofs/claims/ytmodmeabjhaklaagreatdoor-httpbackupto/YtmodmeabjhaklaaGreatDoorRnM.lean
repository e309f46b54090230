/-
  Readings told step by step, and what lines are read as.
-/
import Derived.Test.YtmodmeabjhaklaaGreatDoorRunF
import Derived.Test.YtmodmeabjhaklaaGreatDoorRunC
namespace Go.Proofs.YtmodmeabjhaklaaGreatDoor
open Go.RowKit

/-- What a reading of l comes to from a state on. -/
inductive Rn (l : List UInt8) : Nat → St → Tld → Prop where
  | fin {q : Nat} {s : St} {t : Tld} (h : stepF l q s = .fin t) : Rn l q s t
  | go {q q' : Nat} {s s' : St} {t : Tld} (h : stepF l q s = .go q' s') (r : Rn l q' s' t) : Rn l q s t
theorem rn_run {l : List UInt8} {q : Nat} {s : St} {t : Tld} (h : Rn l q s t) : s.at_ ≤ l.length → (q = 5 → 1 ≤ s.size) → ∀ n, mu l q s ≤ n → runF l n q s = t := by
  induction h with
  | @fin q s t h =>
    intro ha h5 n hn
    match n with
    | 0 => exfalso; revert hn; unfold mu; split <;> omega
    | n + 1 => rw [runF, h]
  | @go q q' s s' t h r ih =>
    intro ha h5 n hn
    have hm := mu_step h h5
    obtain ⟨h1, h2, h3⟩ := step_at ha h
    match n with
    | 0 => omega
    | n + 1 =>
      rw [runF, h]
      exact ih h2 h3 n (by omega)
theorem rn_parse {l : List UInt8} {t : Tld} (h : Rn l 0 st0 t) : parseL l = t :=
  rn_run h (Nat.zero_le _) (by intro h; cases h) _ (by simp only [mu, st0]; omega)

theorem fnd_at : ∀ (x r : List UInt8), (13 : UInt8) ∉ x → fndL (x ++ 13 :: 10 :: r) = some x.length
  | [], r, _ => by simp [fndL]
  | a :: x, r, h => by
    simp only [List.mem_cons, not_or] at h
    rw [List.cons_append]
    unfold fndL
    rw [if_neg (fun hh => h.1 hh.1.symm), fnd_at x r h.2]
    rfl
theorem ln_at {most opn : Int} (x r : List UInt8) (h : (13 : UInt8) ∉ x) (hm : (x.length : Int) ≤ most) : lnL most opn (x ++ 13 :: 10 :: r) = .ok x := by
  unfold lnL
  rw [fnd_at x r h]
  simp only [hm, if_true, Ln.ok.injEq]
  exact List.take_left' rfl
theorem ln_over {most opn : Int} (x r : List UInt8) (h : (13 : UInt8) ∉ x) (hm : most < (x.length : Int)) : lnL most opn (x ++ 13 :: 10 :: r) = .long := by
  unfold lnL
  rw [fnd_at x r h]
  simp only
  rw [if_neg (by omega)]
theorem drop_line {l x r : List UInt8} {k : Nat} (h : l.drop k = x ++ 13 :: 10 :: r) : l.drop (k + (x.length + 2)) = r := by
  rw [← List.drop_drop, h]
  have e : x ++ 13 :: 10 :: r = (x ++ [13, 10]) ++ r := by simp
  rw [e]
  exact List.drop_left' (by simp)
theorem fld_line {l x r : List UInt8} {s : St} {h : Hd} (hd : l.drop s.at_ = x ++ 13 :: 10 :: r) (hx : (13 : UInt8) ∉ x) (hn : x ≠ []) (hh : s.head + (x.length + 2) ≤ 65536) (hf : s.fields < 100) (hl : hdrL x = some h) :
    fldL l s = .ok { s with at_ := s.at_ + (x.length + 2), head := s.head + (x.length + 2), fields := s.fields + 1 } (some h) := by
  unfold fldL
  rw [hd, ln_at x r hx (by omega)]
  simp only
  rw [if_neg hn, if_neg (by omega), hl]
theorem fld_end {l r : List UInt8} {s : St} (hd : l.drop s.at_ = 13 :: 10 :: r) (hh : s.head + 2 ≤ 65536) :
    fldL l s = .ok { s with at_ := s.at_ + 2, head := s.head + 2 } none := by
  unfold fldL
  have := ln_at (most := 65536 - s.head - 2) (opn := 65536 - s.head) [] r (by simp) (by simp only [List.length_nil]; omega)
  rw [List.nil_append] at this
  rw [hd, this]
  simp only [if_true]
theorem fld_over {l x r : List UInt8} {s : St} (hd : l.drop s.at_ = x ++ 13 :: 10 :: r) (hx : (13 : UInt8) ∉ x) (hn : x ≠ []) (hh : s.head + (x.length + 2) ≤ 65536) (hf : 100 ≤ s.fields) :
    fldL l s = .fin (.bad 339) := by
  unfold fldL
  rw [hd, ln_at x r hx (by omega)]
  simp only
  rw [if_neg hn, if_pos (by omega)]
/-- A request line that is in order. -/
theorem req_line {l x r m t : List UInt8} (hd : l = x ++ 13 :: 10 :: r) (hx : (13 : UInt8) ∉ x) (hm : x.length ≤ 8192) (hr : reqL x = .ok m t) :
    stepF l 0 st0 = .go 1 ⟨x.length + 2, x.length + 2, 0, m, t, [], 0, [], 0⟩ := by
  unfold stepF st0
  simp only [List.drop_zero]
  rw [hd, ln_at x r hx (by omega)]
  simp only
  rw [hr]
  simp
theorem req_long {l x r : List UInt8} (hd : l = x ++ 13 :: 10 :: r) (hx : (13 : UInt8) ∉ x) (hm : 8192 < x.length) :
    stepF l 0 st0 = .fin (.bad 338) := by
  unfold stepF st0
  simp only [List.drop_zero]
  rw [hd, ln_over x r hx (by omega)]
/-- A header's line on the way. -/
theorem hd_line {l x r : List UInt8} {s : St} {h : Hd} {t : Tld} (hd : l.drop s.at_ = x ++ 13 :: 10 :: r) (hx : (13 : UInt8) ∉ x) (hn : x ≠ []) (hh : s.head + (x.length + 2) ≤ 65536) (hf : s.fields < 100) (hl : hdrL x = some h)
    (hr : Rn l 1 { s with at_ := s.at_ + (x.length + 2), head := s.head + (x.length + 2), fields := s.fields + 1, hs := s.hs ++ [h] } t) : Rn l 1 s t := by
  refine .go ?_ hr
  rw [stepF, fld_line hd hx hn hh hf hl]
theorem hd_over {l x r : List UInt8} {s : St} (hd : l.drop s.at_ = x ++ 13 :: 10 :: r) (hx : (13 : UInt8) ∉ x) (hn : x ≠ []) (hh : s.head + (x.length + 2) ≤ 65536) (hf : 100 ≤ s.fields) : Rn l 1 s (.bad 339) := by
  refine .fin ?_
  rw [stepF, fld_over hd hx hn hh hf]
theorem hd_end {l r : List UInt8} {s : St} {t : Tld} (hd : l.drop s.at_ = 13 :: 10 :: r) (hh : s.head + 2 ≤ 65536)
    (hr : Rn l 2 { s with at_ := s.at_ + 2, head := s.head + 2 } t) : Rn l 1 s t := by
  refine .go ?_ hr
  rw [stepF, fld_end hd hh]
theorem cut_app {x r : List UInt8} {c : UInt8} (h : c ∉ x) : Lib.cut (x ++ c :: r) [c] = (x, r, true) := by
  have hk : x.length < (x ++ c :: r).length := by simp
  have := cut_hit hk (c := c) (by simp) (by rw [List.take_left' rfl]; exact h)
  rw [this, List.take_left' rfl]
  have e : x ++ c :: r = (x ++ [c]) ++ r := by simp
  rw [e, List.drop_left' (by simp)]
end Go.Proofs.YtmodmeabjhaklaaGreatDoor

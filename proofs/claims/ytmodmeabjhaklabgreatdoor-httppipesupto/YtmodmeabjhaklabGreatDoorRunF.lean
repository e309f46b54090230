/-
  What is read of a stream's beginning, and of more of it.
-/
import Derived.Test.YtmodmeabjhaklabGreatDoorRunB
namespace Go.Proofs.YtmodmeabjhaklabGreatDoor
open Go.RowKit

theorem fnd_more : ∀ (l m : List UInt8) {n : Nat}, fndL l = some n → fndL (l ++ m) = some n
  | [], m, n, h => by simp [fndL] at h
  | a :: r, m, n, h => by
    have hr := fnd_room _ h
    rw [List.cons_append]
    unfold fndL at h ⊢
    split at h
    · next hh =>
      rw [if_pos]
      · exact h
      · refine ⟨hh.1, ?_⟩
        cases r with
        | nil => simp at hh
        | cons b t => simpa using hh.2
    · next hh =>
      cases hf : fndL r with
      | none => rw [hf] at h; simp at h
      | some k =>
        rw [hf] at h
        simp only [Option.map_some, Option.some.injEq] at h
        have ih := fnd_more r m hf
        rw [if_neg, ih]
        · simp [h]
        · rintro ⟨h1, h2⟩
          apply hh
          refine ⟨h1, ?_⟩
          cases r with
          | nil => simp [fndL] at hf
          | cons b t => simpa using h2
theorem fnd_late : ∀ (l m : List UInt8) {n : Nat}, fndL l = none → fndL (l ++ m) = some n → l.length < n + 2
  | [], m, n, _, _ => by simp
  | a :: r, m, n, h, h2 => by
    rw [List.cons_append] at h2
    unfold fndL at h h2
    split at h
    · cases h
    · next hh =>
      have hn : fndL r = none := by
        cases hf : fndL r with
        | none => rfl
        | some k => rw [hf] at h; simp at h
      split at h2
      · next h3 =>
        simp only [Option.some.injEq] at h2
        subst h2
        cases r with
        | nil => simp
        | cons b t =>
          exfalso
          apply hh
          exact ⟨h3.1, by simpa using h3.2⟩
      · cases hf : fndL (r ++ m) with
        | none => rw [hf] at h2; simp at h2
        | some k =>
          rw [hf] at h2
          simp only [Option.map_some, Option.some.injEq] at h2
          have := fnd_late r m hn hf
          simp only [List.length_cons]
          omega
theorem ln_ok_more {most opn : Int} {r x : List UInt8} (m : List UInt8) (h : lnL most opn r = .ok x) : lnL most opn (r ++ m) = .ok x := by
  obtain ⟨h1, h2, h3, h4⟩ := ln_ok h
  unfold lnL
  rw [fnd_more r m h1]
  simp only [h4, if_true, Ln.ok.injEq]
  rw [List.take_append_of_le_length (by omega)]
  exact h2.symm
theorem ln_long_more {most opn : Int} {r : List UInt8} (m : List UInt8) (hmo : most < opn) (h : lnL most opn r = .long) : lnL most opn (r ++ m) = .long := by
  unfold lnL at h ⊢
  cases hf : fndL r with
  | some n =>
    rw [hf] at h
    rw [fnd_more r m hf]
    simp only at h ⊢
    split at h
    · cases h
    · next hh => rw [if_neg hh]
  | none =>
    rw [hf] at h
    simp only at h
    split at h
    · cases h
    · next hh =>
      cases hg : fndL (r ++ m) with
      | none =>
        simp only
        rw [if_neg]
        rw [List.length_append]
        omega
      | some n =>
        have := fnd_late r m hf hg
        simp only
        rw [if_neg]
        omega
theorem ln_wait_more {most opn : Int} {r x : List UInt8} (m : List UInt8) (h : lnL most opn r = .more) (h2 : lnL most opn (r ++ m) = .ok x) : r.length < x.length + 2 := by
  unfold lnL at h
  cases hf : fndL r with
  | some n =>
    rw [hf] at h
    simp only at h
    split at h <;> cases h
  | none =>
    have h3 := (ln_ok h2).1
    exact fnd_late r m hf h3
theorem fld_ok_more {l : List UInt8} {s s' : St} {z : Option Hd} (m : List UInt8) (ha : s.at_ ≤ l.length) (h : fldL l s = .ok s' z) : fldL (l ++ m) s = .ok s' z := by
  unfold fldL at h ⊢
  rw [List.drop_append_of_le_length ha]
  split at h
  · cases h
  · cases h
  · next x hx =>
    rw [ln_ok_more m hx]
    exact h
theorem fld_bad_more {l : List UInt8} {s : St} {e : Int} (m : List UInt8) (ha : s.at_ ≤ l.length) (h : fldL l s = .fin (.bad e)) : fldL (l ++ m) s = .fin (.bad e) := by
  unfold fldL at h ⊢
  rw [List.drop_append_of_le_length ha]
  split at h
  · cases h
  · next hx =>
    rw [ln_long_more m (by omega) hx]
    exact h
  · next x hx =>
    rw [ln_ok_more m hx]
    exact h
theorem fld_wait_more {l : List UInt8} {s s' : St} {z : Option Hd} (m : List UInt8) (ha : s.at_ ≤ l.length) (h : fldL l s = .fin .more) (h2 : fldL (l ++ m) s = .ok s' z) : l.length < s'.at_ := by
  unfold fldL at h h2
  rw [List.drop_append_of_le_length ha] at h2
  split at h
  · next hx =>
    split at h2
    · cases h2
    · cases h2
    · next x hx2 =>
      have h3 := ln_wait_more m hx hx2
      rw [List.length_drop] at h3
      split at h2
      · next h0 =>
        simp only [Fl.ok.injEq] at h2
        obtain ⟨rfl, -⟩ := h2
        rw [h0] at h3
        simp only [List.length_nil] at h3
        simp only
        omega
      · split at h2
        · cases h2
        · split at h2
          · cases h2
          · simp only [Fl.ok.injEq] at h2
            obtain ⟨rfl, -⟩ := h2
            simp only
            omega
  · cases h
  · split at h
    · cases h
    · split at h
      · cases h
      · split at h <;> cases h
theorem fld_not_done {l : List UInt8} {s : St} {t : Tld} (h : fldL l s = .fin t) : t = .more ∨ ∃ e, t = .bad e := by
  unfold fldL at h
  split at h
  · simp only [Fl.fin.injEq] at h; exact .inl h.symm
  · simp only [Fl.fin.injEq] at h; exact .inr ⟨_, h.symm⟩
  · split at h
    · cases h
    · split at h
      · simp only [Fl.fin.injEq] at h; exact .inr ⟨_, h.symm⟩
      · split at h
        · simp only [Fl.fin.injEq] at h; exact .inr ⟨_, h.symm⟩
        · cases h
end Go.Proofs.YtmodmeabjhaklabGreatDoor
/-
  One step of the reading on a stream's beginning, and on more of it.
-/
namespace Go.Proofs.YtmodmeabjhaklabGreatDoor
open Go.RowKit

theorem drop_more {l : List UInt8} (m : List UInt8) {k : Nat} (h : k ≤ l.length) : (l ++ m).drop k = l.drop k ++ m := List.drop_append_of_le_length h
theorem take_more {l : List UInt8} (m : List UInt8) {k n : Nat} (h : k + n ≤ l.length) : ((l ++ m).drop k).take n = (l.drop k).take n := by
  rw [drop_more m (by omega)]
  exact List.take_append_of_le_length (by simp; omega)
/-- What goes on goes on with more. -/
theorem step_go_more {l : List UInt8} {q q' : Nat} {s s' : St} (m : List UInt8) (ha : s.at_ ≤ l.length) (h : stepF l q s = .go q' s') : stepF (l ++ m) q s = .go q' s' := by
  unfold stepF at h ⊢
  split at h
  · split at h
    · cases h
    · cases h
    · next x hx =>
      rw [drop_more m ha, ln_ok_more m hx]
      exact h
  · split at h
    · cases h
    · next hf => rw [fld_ok_more m ha hf]; exact h
    · next hf => rw [fld_ok_more m ha hf]; exact h
  · exact h
  · split at h <;> cases h
  · split at h
    · cases h
    · cases h
    · next x hx =>
      rw [drop_more m ha, ln_ok_more m hx]
      exact h
  · split at h
    · cases h
    · next hz =>
      dsimp only at h ⊢
      split at h
      · cases h
      · next h1 =>
        split at h
        · cases h
        · next h2 =>
          have h2' : (l.drop (s.at_ + s.size)).take 2 = [13, 10] := Decidable.of_not_not h2
          have hl : s.at_ + s.size + 2 ≤ l.length := by
            have := congrArg List.length h2'
            simp at this
            omega
          rw [if_neg (by simp only [List.length_append]; omega), take_more m hl, if_neg h1, if_neg h2]
          rw [← h]
          simp only [takeL, take_more m (show s.at_ + s.size ≤ l.length by omega)]
  · split at h
    · cases h
    · cases h
    · next hf => rw [fld_ok_more m ha hf]; exact h
  · cases h
end Go.Proofs.YtmodmeabjhaklabGreatDoor
/-
  One step of the reading that ends, on a stream's beginning and on more of it.
-/
namespace Go.Proofs.YtmodmeabjhaklabGreatDoor
open Go.RowKit

/-- What is wrong stays wrong. -/
theorem step_bad_more {l : List UInt8} {q : Nat} {s : St} {e : Int} (m : List UInt8) (ha : s.at_ ≤ l.length) (h : stepF l q s = .fin (.bad e)) : stepF (l ++ m) q s = .fin (.bad e) := by
  unfold stepF at h ⊢
  split at h
  · split at h
    · cases h
    · next hx => rw [drop_more m ha, ln_long_more m (by omega) hx]; exact h
    · next x hx => rw [drop_more m ha, ln_ok_more m hx]; exact h
  · split at h
    · next t hf =>
      simp only [Nx.fin.injEq] at h
      subst h
      rw [fld_bad_more m ha hf]
    · cases h
    · cases h
  · exact h
  · split at h <;> cases h
  · split at h
    · cases h
    · next hx => rw [drop_more m ha, ln_long_more m (by omega) hx]; exact h
    · next x hx => rw [drop_more m ha, ln_ok_more m hx]; exact h
  · split at h
    · cases h
    · next hz =>
      dsimp only at h ⊢
      split at h
      · next h1 =>
        rw [if_neg (by simp only [List.length_append]; omega)]
        have h1' : (((l ++ m).drop (s.at_ + s.size)).take 2).isPrefixOf [13, 10] = false := by
          rw [drop_more m (by omega)]
          match hr : l.drop (s.at_ + s.size) with
          | [] => rw [hr] at h1; simp at h1
          | [a] =>
            rw [hr] at h1
            have : (a == 13) = false := by simpa [List.isPrefixOf] using h1
            cases m <;> simp [List.isPrefixOf, this]
          | a :: b :: c => rw [hr] at h1; simpa using h1
        rw [if_pos h1']
        exact h
      · split at h
        · cases h
        · cases h
  · split at h
    · next t hf =>
      simp only [Nx.fin.injEq] at h
      subst h
      rw [fld_bad_more m ha hf]
    · cases h
    · cases h
  · cases h
/-- What is done stays done. -/
theorem step_done_more {l : List UInt8} {q : Nat} {s : St} {u : Nat} {a b : List UInt8} {hs : List Hd} {c : List UInt8} {x y : Bool} (m : List UInt8) (ha : s.at_ ≤ l.length) (h : stepF l q s = .fin (.done u a b hs c x y)) : stepF (l ++ m) q s = .fin (.done u a b hs c x y) := by
  unfold stepF at h ⊢
  split at h
  · split at h
    · cases h
    · cases h
    · split at h <;> cases h
  · split at h
    · next t hf =>
      simp only [Nx.fin.injEq] at h
      subst h
      rcases fld_not_done hf with h | ⟨_, h⟩ <;> cases h
    · cases h
    · cases h
  · split at h
    · cases h
    · split at h <;> cases h
  · split at h
    · cases h
    · next hz =>
      rw [if_neg (by simp only [List.length_append]; omega), ← h]
      simp only [takeL, take_more m (show s.at_ + s.size ≤ l.length by omega)]
  · split at h
    · cases h
    · cases h
    · split at h
      · cases h
      · split at h
        · cases h
        · split at h <;> cases h
  · split at h
    · cases h
    · dsimp only at h
      split at h
      · cases h
      · split at h <;> cases h
  · split at h
    · next t hf =>
      simp only [Nx.fin.injEq] at h
      subst h
      rcases fld_not_done hf with h | ⟨_, h⟩ <;> cases h
    · next hf => rw [fld_ok_more m ha hf]; exact h
    · cases h
  · cases h
/-- A step stays within the bytes, and never goes back. -/
theorem step_at {l : List UInt8} {q q' : Nat} {s s' : St} (ha : s.at_ ≤ l.length) (h : stepF l q s = .go q' s') : s.at_ ≤ s'.at_ ∧ s'.at_ ≤ l.length ∧ (q' = 5 → 1 ≤ s'.size) := by
  have hd : ∀ k, (l.drop k).length = l.length - k := fun k => by simp
  unfold stepF at h
  split at h
  · split at h
    · cases h
    · cases h
    · next x hx =>
      have h1 := ln_ok hx
      have := hd s.at_
      split at h
      · cases h
      · simp only [Nx.go.injEq] at h
        obtain ⟨rfl, rfl⟩ := h
        exact ⟨by simp only; omega, by simp only; omega, by omega⟩
  · split at h
    · cases h
    · next s1 hf =>
      have := fld_go hf
      simp only [Nx.go.injEq] at h
      obtain ⟨rfl, rfl⟩ := h
      exact ⟨by omega, by omega, by omega⟩
    · next s1 x hf =>
      have := fld_go hf
      simp only [Nx.go.injEq] at h
      obtain ⟨rfl, rfl⟩ := h
      exact ⟨by simp only; omega, by simp only; omega, by omega⟩
  · split at h
    · cases h
    · split at h
      · simp only [Nx.go.injEq] at h
        obtain ⟨rfl, rfl⟩ := h
        exact ⟨Nat.le_refl _, ha, by omega⟩
      · simp only [Nx.go.injEq] at h
        obtain ⟨rfl, rfl⟩ := h
        exact ⟨Nat.le_refl _, ha, by omega⟩
  · split at h <;> cases h
  · split at h
    · cases h
    · cases h
    · next x hx =>
      have h1 := ln_ok hx
      have := hd s.at_
      split at h
      · cases h
      · split at h
        · cases h
        · split at h
          · simp only [Nx.go.injEq] at h
            obtain ⟨rfl, rfl⟩ := h
            exact ⟨by simp only; omega, by simp only; omega, by omega⟩
          · simp only [Nx.go.injEq] at h
            obtain ⟨rfl, rfl⟩ := h
            exact ⟨by simp only; omega, by simp only; omega, fun _ => by simp only; omega⟩
  · split at h
    · cases h
    · dsimp only at h
      split at h
      · cases h
      · split at h
        · cases h
        · next h2 =>
          have h2' : (l.drop (s.at_ + s.size)).take 2 = [13, 10] := Decidable.of_not_not h2
          have hl := congrArg List.length h2'
          simp at hl
          simp only [Nx.go.injEq] at h
          obtain ⟨rfl, rfl⟩ := h
          exact ⟨by simp only; omega, by simp only; omega, by omega⟩
  · split at h
    · cases h
    · cases h
    · next s1 x hf =>
      have := fld_go hf
      simp only [Nx.go.injEq] at h
      obtain ⟨rfl, rfl⟩ := h
      exact ⟨by omega, by omega, by omega⟩
  · cases h
end Go.Proofs.YtmodmeabjhaklabGreatDoor
/-
  The reading of a stream's beginning, and of more of it.
-/
namespace Go.Proofs.YtmodmeabjhaklabGreatDoor
open Go.RowKit

/-- Where a step waits, it goes on behind the bytes that were there. -/
theorem step_wait_go {l : List UInt8} {q q' : Nat} {s s' : St} (m : List UInt8) (ha : s.at_ ≤ l.length) (h : stepF l q s = .fin .more) (h2 : stepF (l ++ m) q s = .go q' s') : l.length < s'.at_ := by
  have hd : ∀ k, (l.drop k).length = l.length - k := fun k => by simp
  match q, h, h2 with
  | 0, h, h2 =>
    rw [stepF] at h h2
    split at h
    · next hx =>
      split at h2
      · cases h2
      · cases h2
      · next x hy =>
        rw [drop_more m ha] at hy
        have := ln_wait_more m hx hy
        have := hd s.at_
        split at h2
        · cases h2
        · simp only [Nx.go.injEq] at h2
          obtain ⟨rfl, rfl⟩ := h2
          simp only
          omega
    · cases h
    · split at h <;> cases h
  | 1, h, h2 =>
    rw [stepF] at h h2
    split at h
    · next t hf =>
      simp only [Nx.fin.injEq] at h
      subst h
      split at h2
      · cases h2
      · next hg =>
        have := fld_wait_more m ha hf hg
        simp only [Nx.go.injEq] at h2
        obtain ⟨rfl, rfl⟩ := h2
        omega
      · next hg =>
        have := fld_wait_more m ha hf hg
        simp only [Nx.go.injEq] at h2
        obtain ⟨rfl, rfl⟩ := h2
        simp only
        omega
    · cases h
    · cases h
  | 2, h, h2 =>
    rw [stepF] at h h2
    split at h
    · cases h
    · split at h <;> cases h
  | 3, h, h2 =>
    rw [stepF] at h h2
    split at h2 <;> cases h2
  | 4, h, h2 =>
    rw [stepF] at h h2
    split at h
    · next hx =>
      split at h2
      · cases h2
      · cases h2
      · next x hy =>
        rw [drop_more m ha] at hy
        have := ln_wait_more m hx hy
        have := hd s.at_
        split at h2
        · cases h2
        · split at h2
          · cases h2
          · split at h2
            · simp only [Nx.go.injEq] at h2
              obtain ⟨rfl, rfl⟩ := h2
              simp only
              omega
            · simp only [Nx.go.injEq] at h2
              obtain ⟨rfl, rfl⟩ := h2
              simp only
              omega
    · cases h
    · split at h
      · cases h
      · split at h
        · cases h
        · split at h <;> cases h
  | 5, h, h2 =>
    rw [stepF] at h h2
    dsimp only at h h2
    split at h2
    · cases h2
    · split at h2
      · cases h2
      · split at h2
        · cases h2
        · next hz h1 h3 =>
          have h3' : ((l ++ m).drop (s.at_ + s.size)).take 2 = [13, 10] := Decidable.of_not_not h3
          simp only [Nx.go.injEq] at h2
          obtain ⟨rfl, rfl⟩ := h2
          simp only
          apply Nat.lt_of_not_le
          intro hle
          rw [take_more m hle] at h1 h3
          rw [if_neg (by omega), if_neg h1, if_neg h3] at h
          cases h
  | 6, h, h2 =>
    rw [stepF] at h h2
    split at h
    · next t hf =>
      simp only [Nx.fin.injEq] at h
      subst h
      split at h2
      · cases h2
      · cases h2
      · next hg =>
        have := fld_wait_more m ha hf hg
        simp only [Nx.go.injEq] at h2
        obtain ⟨rfl, rfl⟩ := h2
        omega
    · cases h
    · cases h
  | n + 7, h, h2 =>
    rw [stepF] at h2
    · cases h2
    all_goals omega
/-- Where a step waits, it is done behind the bytes that were there. -/
theorem step_wait_done {l : List UInt8} {q : Nat} {s : St} {u : Nat} {a b : List UInt8} {hs : List Hd} {c : List UInt8} {x y : Bool} (m : List UInt8) (ha : s.at_ ≤ l.length) (h : stepF l q s = .fin .more) (h2 : stepF (l ++ m) q s = .fin (.done u a b hs c x y)) : l.length < u := by
  match q, h, h2 with
  | 0, h, h2 =>
    rw [stepF] at h h2
    split at h2
    · cases h2
    · cases h2
    · split at h2 <;> cases h2
  | 1, h, h2 =>
    rw [stepF] at h h2
    split at h2
    · next t hf =>
      simp only [Nx.fin.injEq] at h2
      subst h2
      rcases fld_not_done hf with h | ⟨_, h⟩ <;> cases h
    · cases h2
    · cases h2
  | 2, h, h2 =>
    rw [stepF] at h h2
    split at h
    · cases h
    · split at h <;> cases h
  | 3, h, h2 =>
    rw [stepF] at h h2
    split at h2
    · cases h2
    · split at h
      · simp only [Nx.fin.injEq, doneL, takeL, Tld.done.injEq] at h2
        omega
      · cases h
  | 4, h, h2 =>
    rw [stepF] at h h2
    split at h2
    · cases h2
    · cases h2
    · split at h2
      · cases h2
      · split at h2
        · cases h2
        · split at h2 <;> cases h2
  | 5, h, h2 =>
    rw [stepF] at h h2
    dsimp only at h2
    split at h2
    · cases h2
    · split at h2
      · cases h2
      · split at h2 <;> cases h2
  | 6, h, h2 =>
    rw [stepF] at h h2
    split at h2
    · next t hf =>
      simp only [Nx.fin.injEq] at h2
      subst h2
      rcases fld_not_done hf with h | ⟨_, h⟩ <;> cases h
    · next hg =>
      split at h
      · next t hf =>
        simp only [Nx.fin.injEq] at h
        subst h
        have := fld_wait_more m ha hf hg
        simp only [Nx.fin.injEq, doneL, Tld.done.injEq] at h2
        omega
      · cases h
      · cases h
    · cases h2
  | n + 7, h, h2 =>
    rw [stepF] at h2
    · cases h2
    all_goals omega
end Go.Proofs.YtmodmeabjhaklabGreatDoor
/-
  The whole reading on a stream's beginning, and on more of it.
-/
namespace Go.Proofs.YtmodmeabjhaklabGreatDoor
open Go.RowKit

/-- What is done has used all that was passed. -/
theorem run_used {l : List UInt8} {u : Nat} {a b : List UInt8} {hs : List Hd} {c : List UInt8} {x y : Bool} : ∀ (n : Nat) {q : Nat} {s : St}, s.at_ ≤ l.length → runF l n q s = .done u a b hs c x y → s.at_ ≤ u
  | 0, _, _, _, h => by cases h
  | n + 1, q, s, ha, h => by
    unfold runF at h
    split at h
    · next t ht =>
      subst h
      apply Nat.le_of_not_lt
      intro hlt
      match q, ht with
      | 0, ht =>
        rw [stepF] at ht
        split at ht
        · cases ht
        · cases ht
        · split at ht <;> cases ht
      | 1, ht =>
        rw [stepF] at ht
        split at ht
        · next t hf =>
          simp only [Nx.fin.injEq] at ht
          subst ht
          rcases fld_not_done hf with h | ⟨_, h⟩ <;> cases h
        · cases ht
        · cases ht
      | 2, ht =>
        rw [stepF] at ht
        split at ht
        · cases ht
        · split at ht <;> cases ht
      | 3, ht =>
        rw [stepF] at ht
        split at ht
        · cases ht
        · simp only [Nx.fin.injEq, doneL, takeL, Tld.done.injEq] at ht
          omega
      | 4, ht =>
        rw [stepF] at ht
        split at ht
        · cases ht
        · cases ht
        · split at ht
          · cases ht
          · split at ht
            · cases ht
            · split at ht <;> cases ht
      | 5, ht =>
        rw [stepF] at ht
        dsimp only at ht
        split at ht
        · cases ht
        · split at ht
          · cases ht
          · split at ht <;> cases ht
      | 6, ht =>
        rw [stepF] at ht
        split at ht
        · next t hf =>
          simp only [Nx.fin.injEq] at ht
          subst ht
          rcases fld_not_done hf with h | ⟨_, h⟩ <;> cases h
        · next hf =>
          have := fld_go hf
          simp only [Nx.fin.injEq, doneL, Tld.done.injEq] at ht
          omega
        · cases ht
      | n + 7, ht =>
        rw [stepF] at ht
        · cases ht
        all_goals omega
    · next q' s' hs =>
      have h1 := step_at ha hs
      have := run_used n h1.2.1 h
      omega
/-- With more fuel, what is told stays. -/
theorem run_fuel {l : List UInt8} {t : Tld} (hm : t ≠ .more) : ∀ (n k : Nat) {q : Nat} {s : St}, runF l n q s = t → runF l (n + k) q s = t
  | 0, k, q, s, h => (hm h.symm).elim
  | n + 1, k, q, s, h => by
    rw [Nat.add_right_comm]
    unfold runF at h ⊢
    split at h
    · exact h
    · exact run_fuel hm n k h
/-- What is told of a beginning is told of the whole. -/
theorem run_more {l : List UInt8} {t : Tld} (m : List UInt8) (hm : t ≠ .more) : ∀ (n : Nat) {q : Nat} {s : St}, s.at_ ≤ l.length → runF l n q s = t → runF (l ++ m) n q s = t
  | 0, _, _, _, h => (hm h.symm).elim
  | n + 1, q, s, ha, h => by
    unfold runF at h ⊢
    split at h
    · next t' ht =>
      subst h
      match t', ht with
      | .more, _ => exact (hm rfl).elim
      | .bad e, ht => rw [step_bad_more m ha ht]
      | .done .., ht => rw [step_done_more m ha ht]
    · next hg =>
      rw [step_go_more m ha hg]
      exact run_more m hm n (step_at ha hg).2.1 h
/-- What waits, and is done with more, has used more than was there. -/
theorem run_wait {l : List UInt8} {u : Nat} {a b : List UInt8} {hs : List Hd} {c : List UInt8} {x y : Bool} (m : List UInt8) : ∀ (n k : Nat) {q : Nat} {s : St}, s.at_ ≤ l.length → (q = 5 → 1 ≤ s.size) → mu l q s ≤ n → runF l n q s = .more → runF (l ++ m) (n + k) q s = .done u a b hs c x y → l.length < u
  | 0, k, q, s, ha, h5, hn, h, h2 => by
    simp only [mu] at hn
    split at hn <;> omega
  | n + 1, k, q, s, ha, h5, hn, h, h2 => by
    rw [Nat.add_right_comm] at h2
    unfold runF at h h2
    split at h
    · next t ht =>
      subst h
      split at h2
      · next t2 ht2 =>
        subst h2
        exact step_wait_done m ha ht ht2
      · next hg =>
        have h1 := step_wait_go m ha ht hg
        have h3 := step_at (by simp only [List.length_append]; omega) hg
        have := run_used _ h3.2.1 h2
        omega
    · next hg =>
      rw [step_go_more m ha hg] at h2
      have h1 := step_at ha hg
      have h3 := mu_step hg h5
      exact run_wait m n k h1.2.1 h1.2.2 (by omega) h h2
theorem parse_more {l : List UInt8} {t : Tld} (m : List UInt8) (hm : t ≠ .more) (h : parseL l = t) : parseL (l ++ m) = t := by
  unfold parseL at h ⊢
  have h1 := run_fuel hm _ (2 * m.length) (run_more m hm _ (Nat.zero_le _) h)
  rw [List.length_append, show 2 * (l.length + m.length) + 6 = 2 * l.length + 6 + 2 * m.length by omega]
  exact h1
theorem parse_wait {l : List UInt8} {u : Nat} {a b : List UInt8} {hs : List Hd} {c : List UInt8} {x y : Bool} (m : List UInt8) (h : parseL l = .more) (h2 : parseL (l ++ m) = .done u a b hs c x y) : l.length < u := by
  unfold parseL at h h2
  rw [List.length_append, show 2 * (l.length + m.length) + 6 = 2 * l.length + 6 + 2 * m.length by omega] at h2
  exact run_wait m _ _ (Nat.zero_le _) (by omega) (by simp only [mu, st0]; omega) h h2
end Go.Proofs.YtmodmeabjhaklabGreatDoor

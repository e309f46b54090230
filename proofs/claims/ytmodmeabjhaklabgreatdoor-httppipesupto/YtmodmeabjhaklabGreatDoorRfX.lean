/-
  The document's Parse: what its steps tell.
-/
import Derived.Test.YtmodmeabjhaklabGreatDoorRfU
import Derived.Test.YtmodmeabjhaklabGreatDoorRfV
import Derived.Test.YtmodmeabjhaklabGreatDoorRunI
namespace Go.Proofs.YtmodmeabjhaklabGreatDoor
open Go.RowKit

theorem req_code {s : List UInt8} {e : Int} (h : reqL s = .bad e) : e ≠ 0 := by
  unfold reqL at h
  dsimp only at h
  split at h
  · simp only [Rq.bad.injEq] at h; omega
  · split at h
    · simp only [Rq.bad.injEq] at h; omega
    · split at h
      · simp only [Rq.bad.injEq] at h; omega
      · cases h
theorem step0_fail {l : List UInt8} {s : St} {t : Tld} (h : stepF l 0 s = .fin t) : Fail t := by
  rw [stepF] at h
  split at h
  · simp only [Nx.fin.injEq] at h; exact .inl h.symm
  · simp only [Nx.fin.injEq] at h; exact .inr ⟨338, by decide, h.symm⟩
  · split at h
    · next he => simp only [Nx.fin.injEq] at h; exact .inr ⟨_, req_code he, h.symm⟩
    · cases h
theorem step0_is {l : List UInt8} {q : Nat} {s' : St} (h : stepF l 0 st0 = .go q s') : s'.hs = [] ∧ s'.pcs = [] ∧ s'.sum = 0 ∧ s'.head = s'.at_ ∧ s'.fields = 0 := by
  rw [stepF] at h
  split at h
  · cases h
  · cases h
  · split at h
    · cases h
    · simp only [Nx.go.injEq] at h
      obtain ⟨-, rfl⟩ := h
      exact ⟨rfl, rfl, rfl, rfl, rfl⟩
/-- What the block of headers holds on its way. -/
def HdI (l m t : List UInt8) (s : St) (acc : List Hd) : Prop := At l 1 { s with hs := acc } ∧ s.hs = [] ∧ s.m = m ∧ s.t = t ∧ s.pcs = [] ∧ s.sum = 0 ∧ Sm acc
theorem hdI_step {l m t : List UInt8} (s : St) (acc : List Hd) (s' : St) (z : Hd) (h : HdI l m t s acc) (_hk : s.at_ ≤ l.length) (hf : fldL l s = .ok s' (some z)) : HdI l m t s' (acc ++ [z]) := by
  obtain ⟨ha, hh, hm, ht, hp, hs, hS⟩ := h
  have h1 := fld_hs l s acc
  rw [hf] at h1
  have h2 := fld_name hf (by rw [hh]; exact Nat.zero_le _)
  have h3 := fld_keepR hf
  have h4 : s'.sum = s.sum := by
    unfold fldL at hf
    split at hf
    · cases hf
    · cases hf
    · split at hf
      · simp at hf
      · split at hf
        · cases hf
        · split at hf
          · cases hf
          · simp only [Fl.ok.injEq] at hf
            obtain ⟨rfl, -⟩ := hf
            rfl
  refine ⟨ha.go ?_, h3.2.2.1.trans hh, h3.1.trans hm, h3.2.1.trans ht, h3.2.2.2.trans hp, h4.trans hs, ?_⟩
  · rw [stepF, h1]
  · intro x hx
    rcases List.mem_append.1 hx with hx | hx
    · exact hS x hx
    · simp only [List.mem_singleton] at hx
      subst hx
      exact ⟨by omega, by omega⟩
theorem hdI_fail {l m t : List UInt8} {s : St} {acc : List Hd} {T : Tld} (h : HdI l m t s acc) (hf : fldL l s = .fin T) : parseL l = T := by
  have h1 := fld_hs l s acc
  rw [hf] at h1
  exact h.1.fin (by rw [stepF, h1])
theorem hdI_end {l m t : List UInt8} {s s' : St} {acc : List Hd} (h : HdI l m t s acc) (hf : fldL l s = .ok s' none) : At l 2 { s' with hs := acc } ∧ s'.m = m ∧ s'.t = t ∧ s'.pcs = [] ∧ s'.sum = 0 := by
  obtain ⟨ha, hh, hm, ht, hp, hs, hS⟩ := h
  have h1 := fld_hs l s acc
  rw [hf] at h1
  have h3 := fld_keepR hf
  have h4 : s'.sum = s.sum := by
    unfold fldL at hf
    split at hf
    · cases hf
    · cases hf
    · split at hf
      · simp only [Fl.ok.injEq] at hf
        obtain ⟨rfl, -⟩ := hf
        rfl
      · split at hf
        · cases hf
        · split at hf
          · cases hf
          · simp only [Fl.ok.injEq] at hf
            obtain ⟨-, hf⟩ := hf
            cases hf
  exact ⟨ha.go (by rw [stepF, h1]), h3.1.trans hm, h3.2.1.trans ht, h3.2.2.2.trans hp, h4.trans hs⟩
/-- What is told of what fails. -/
theorem fail_told {w : World} {base : Nat} {T : Tld} (h : Fail T) : TlR w base (if tC T = 0 then moreT else badT (tC T)) T := by
  rcases h with rfl | ⟨x, hx, rfl⟩
  · rfl
  · show TlR w base (if x = 0 then moreT else badT x) (.bad x)
    rw [if_neg hx]
    rfl
theorem step2_bad {l : List UInt8} {s : St} (h : fltL s.hs ≠ 0) : stepF l 2 s = .fin (.bad (fltL s.hs)) := by rw [stepF, if_pos h]
theorem step2_chunked {l : List UInt8} {s : St} (h : fltL s.hs = 0) (ht : (getL s.hs nTe).isSome = true) : stepF l 2 s = .go 4 s := by rw [stepF, if_neg (fun h1 => h1 h), if_pos ht]
theorem step2_plain {l : List UInt8} {s : St} (h : fltL s.hs = 0) (ht : (getL s.hs nTe).isSome = false) : stepF l 2 s = .go 3 { s with size := (En.intV ((getL s.hs nCl).getD [])).toNat } := by rw [stepF, if_neg (fun h1 => h1 h), if_neg (by rw [ht]; decide)]
theorem step3_moreR {l : List UInt8} {s : St} (h : l.length - s.at_ < s.size) : stepF l 3 s = .fin .more := by rw [stepF, if_pos h]
theorem step3_doneR {l : List UInt8} {s : St} (h : ¬ l.length - s.at_ < s.size) : stepF l 3 s = .fin (doneL (takeL l s)) := by rw [stepF, if_neg h]
end Go.Proofs.YtmodmeabjhaklabGreatDoor

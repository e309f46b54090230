/-
  What a request's bytes are read as.
-/
import Derived.Test.YtmodmeabjhaklaaGreatDoorLower
import Derived.Test.YtmodmeabjhaklaaGreatDoorEnInt
import Derived.Lib.IndexMore
namespace Go.Proofs.YtmodmeabjhaklaaGreatDoor
open Go.RowKit

/-- Where the first line's end stands. -/
def fndL : List UInt8 → Option Nat
  | [] => none
  | a :: r => if a = 13 ∧ r.head? = some 10 then some 0 else (fndL r).map (· + 1)
theorem fnd_index : ∀ l : List UInt8, Lib.index l [13, 10] = match fndL l with | some n => (n : Int) | none => -1
  | [] => rfl
  | a :: r => by
    have ih := fnd_index r
    unfold Lib.index fndL
    have hp : ([13, 10] : List UInt8).isPrefixOf (a :: r) = decide (a = 13 ∧ r.head? = some 10) := by
      cases r with
      | nil => simp [List.isPrefixOf]
      | cons b t =>
        simp only [List.isPrefixOf, Bool.and_true, List.head?_cons, Option.some.injEq]
        rw [Bool.eq_iff_iff]
        simp only [Bool.and_eq_true, beq_iff_eq, decide_eq_true_eq]
        exact ⟨fun h => ⟨h.1.symm, h.2.symm⟩, fun h => ⟨h.1.symm, h.2.symm⟩⟩
    rw [hp, ih]
    by_cases h : a = 13 ∧ r.head? = some 10
    · rw [if_pos h, if_pos (by simpa using h)]
      rfl
    · rw [if_neg h, if_neg (by simpa using h)]
      cases fndL r with
      | none => rfl
      | some n =>
        have hne : ((n : Int) == -1) = false := by rw [beq_eq_false_iff_ne]; omega
        simp [hne]
theorem fnd_room : ∀ (l : List UInt8) {n : Nat}, fndL l = some n → n + 2 ≤ l.length
  | [], n, h => by simp [fndL] at h
  | a :: r, n, h => by
    unfold fndL at h
    split at h
    · next hh =>
      simp only [Option.some.injEq] at h
      subst h
      cases r with
      | nil => simp at hh
      | cons b t => simp
    · cases hr : fndL r with
      | none => rw [hr] at h; simp at h
      | some k =>
        rw [hr] at h
        simp only [Option.map_some, Option.some.injEq] at h
        have := fnd_room r hr
        simp only [List.length_cons]
        omega

inductive Ln where
  | more
  | long
  | ok (s : List UInt8)
/-- The next line, within its bounds. -/
def lnL (most opn : Int) (rest : List UInt8) : Ln :=
  match fndL rest with
  | none => if (rest.length : Int) ≤ opn then .more else .long
  | some n => if (n : Int) ≤ most then .ok (rest.take n) else .long

def metB (m : List UInt8) : Bool := decide (m.length ≤ 16) && tokenB m
def tarC (c : UInt8) : Bool := decide (33 ≤ c.toNat ∧ c.toNat ≤ 126)
def tarB (t : List UInt8) : Bool := t.all tarC && decide (0 < t.length)
def httpT : List UInt8 := [72, 84, 84, 80, 47]
def http11 : List UInt8 := [72, 84, 84, 80, 47, 49, 46, 49]
def verB (v : List UInt8) : Bool := httpT.isPrefixOf v && decide (v.length = 8) && digB ((v.getD 5 0).toNat : Int) && decide ((v.getD 6 0).toNat = 46) && digB ((v.getD 7 0).toNat : Int)
inductive Rq where
  | bad (e : Int)
  | ok (m t : List UInt8)
/-- The request line. -/
def reqL (s : List UInt8) : Rq :=
  let m := (Lib.cut s [32]).1
  let t := (Lib.cut (Lib.cut s [32]).2.1 [32]).1
  let v := (Lib.cut (Lib.cut s [32]).2.1 [32]).2.1
  if (metB m && tarB t && verB v) = false then .bad 308
  else if v ≠ http11 then .bad 340
  else if t.getD 0 0 ≠ 47 ∧ t ≠ [42] then .bad 331
  else .ok m t
/-- A header line. -/
def hdrL (s : List UInt8) : Option (List UInt8 × List UInt8) :=
  if (Lib.cut s [58]).2.2 && tokenB (Lib.cut s [58]).1 && allB valB (Lib.cut s [58]).2.1 then some (lowL (Lib.cut s [58]).1, trimL (Lib.cut s [58]).2.1) else none

abbrev Hd := List UInt8 × List UInt8
def allL (hs : List Hd) (n : List UInt8) : List (List UInt8) := (hs.filter fun h => h.1 = n).map (·.2)
def getL (hs : List Hd) (n : List UInt8) : Option (List UInt8) := (hs.find? fun h => h.1 = n).map (·.2)
def nTe : List UInt8 := [116, 114, 97, 110, 115, 102, 101, 114, 45, 101, 110, 99, 111, 100, 105, 110, 103]
def nCl : List UInt8 := [99, 111, 110, 116, 101, 110, 116, 45, 108, 101, 110, 103, 116, 104]
def nEx : List UInt8 := [101, 120, 112, 101, 99, 116]
def nHost : List UInt8 := [104, 111, 115, 116]
def nConn : List UInt8 := [99, 111, 110, 110, 101, 99, 116, 105, 111, 110]
def tClose : List UInt8 := [99, 108, 111, 115, 101]
def tChunked : List UInt8 := [99, 104, 117, 110, 107, 101, 100]
def tCont : List UInt8 := [49, 48, 48, 45, 99, 111, 110, 116, 105, 110, 117, 101]
/-- What is wrong about headers together; 0: nothing. -/
def fltL (hs : List Hd) : Int :=
  if (allL hs nHost).length ≠ 1 ∨ ((getL hs nTe).isSome ∧ (getL hs nCl).isSome) ∨ 1 < (allL hs nTe).length then 308
  else if (getL hs nTe).isSome ∧ lowL ((getL hs nTe).getD []) ≠ tChunked then 335
  else if 1 < (allL hs nCl).length ∨ ((getL hs nCl).isSome ∧ En.intOk ((getL hs nCl).getD []) = false) then 308
  else if 1048576 < En.intV ((getL hs nCl).getD []) then 324
  else if (getL hs nEx).isSome ∧ lowL ((getL hs nEx).getD []) ≠ tCont then 337
  else 0
def closeL (hs : List Hd) : Bool := (allL hs nConn).any fun v => (splitL 44 v).any fun x => decide (lowL (trimL x) = tClose)

/-- A hexadecimal digit's value; 99: it is none. -/
def dv (c : UInt8) : Nat := if 48 ≤ c.toNat ∧ c.toNat ≤ 57 then c.toNat - 48 else if 65 ≤ c.toNat ∧ c.toNat ≤ 70 then c.toNat - 55 else if 97 ≤ c.toNat ∧ c.toNat ≤ 102 then c.toNat - 87 else 99
def digs (b : Nat) : Nat → List UInt8 → Option Nat
  | n, [] => some n
  | n, c :: r => if dv c < b then digs b (b * n + dv c) r else none
/-- A chunk's size. -/
def chkL (s : List UInt8) : Option Nat :=
  if 1 ≤ (Lib.cut s [59]).1.length ∧ (Lib.cut s [59]).1.length ≤ 8 ∧ allB valB (Lib.cut s [59]).2.1 = true then digs 16 0 (Lib.cut s [59]).1 else none

/-- What is read of a request so far. -/
structure St where
  at_ : Nat
  head : Nat
  fields : Nat
  m : List UInt8
  t : List UInt8
  hs : List Hd
  size : Nat
  pcs : List (List UInt8)
  sum : Nat
/-- What is told. -/
inductive Tld where
  | more
  | bad (e : Int)
  | done (used : Nat) (m t : List UInt8) (hs : List Hd) (b : List UInt8) (cl co : Bool)
inductive Nx where
  | go (q : Nat) (s : St)
  | fin (t : Tld)
inductive Fl where
  | fin (t : Tld)
  | ok (s : St) (h : Option Hd)
/-- The next line of the head or the trailers. -/
def fldL (l : List UInt8) (s : St) : Fl :=
  match lnL (65536 - s.head - 2) (65536 - s.head) (l.drop s.at_) with
  | .more => .fin .more
  | .long => .fin (.bad 339)
  | .ok x =>
    if x = [] then .ok { s with at_ := s.at_ + 2, head := s.head + 2 } none
    else if 100 < s.fields + 1 then .fin (.bad 339)
    else match hdrL x with
      | none => .fin (.bad 308)
      | some h => .ok { s with at_ := s.at_ + (x.length + 2), head := s.head + (x.length + 2), fields := s.fields + 1 } (some h)
def doneL (s : St) : Tld := .done s.at_ s.m s.t s.hs s.pcs.flatten (closeL s.hs) ((getL s.hs nEx).isSome && decide (0 < s.pcs.flatten.length))
def takeL (l : List UInt8) (s : St) : St := { s with at_ := s.at_ + s.size, pcs := s.pcs ++ [(l.drop s.at_).take s.size], sum := s.sum + s.size }
/-- One step of the reading. -/
def stepF (l : List UInt8) (q : Nat) (s : St) : Nx :=
  match q with
  | 0 => match lnL 8192 8193 (l.drop s.at_) with
    | .more => .fin .more
    | .long => .fin (.bad 338)
    | .ok x => match reqL x with
      | .bad e => .fin (.bad e)
      | .ok m t => .go 1 { s with at_ := s.at_ + (x.length + 2), head := s.at_ + (x.length + 2), m := m, t := t }
  | 1 => match fldL l s with
    | .fin t => .fin t
    | .ok s' none => .go 2 s'
    | .ok s' (some h) => .go 1 { s' with hs := s'.hs ++ [h] }
  | 2 => if fltL s.hs ≠ 0 then .fin (.bad (fltL s.hs))
    else if (getL s.hs nTe).isSome then .go 4 s
    else .go 3 { s with size := (En.intV ((getL s.hs nCl).getD [])).toNat }
  | 3 => if l.length - s.at_ < s.size then .fin .more else .fin (doneL (takeL l s))
  | 4 => match lnL 256 257 (l.drop s.at_) with
    | .more => .fin .more
    | .long => .fin (.bad 308)
    | .ok x => match chkL x with
      | none => .fin (.bad 308)
      | some n => if 1048576 < s.sum + n then .fin (.bad 324)
        else if n = 0 then .go 6 { s with at_ := s.at_ + (x.length + 2) }
        else .go 5 { s with at_ := s.at_ + (x.length + 2), size := n }
  | 5 => if l.length - s.at_ < s.size then .fin .more
    else
      let e := (l.drop (s.at_ + s.size)).take 2
      if e.isPrefixOf [13, 10] = false then .fin (.bad 308)
      else if e ≠ [13, 10] then .fin .more
      else .go 4 { takeL l s with at_ := s.at_ + s.size + 2 }
  | 6 => match fldL l s with
    | .fin t => .fin t
    | .ok s' none => .fin (doneL s')
    | .ok s' (some _) => .go 6 s'
  | _ => .fin .more
/-- All the steps. -/
def runF (l : List UInt8) : Nat → Nat → St → Tld
  | 0, _, _ => .more
  | n + 1, q, s => match stepF l q s with
    | .fin t => t
    | .go q' s' => runF l n q' s'
def st0 : St := ⟨0, 0, 0, [], [], [], 0, [], 0⟩
/-- A request's reading. -/
def parseL (l : List UInt8) : Tld := runF l (2 * l.length + 6) 0 st0
/-- How many steps are left at most. -/
def mu (l : List UInt8) (q : Nat) (s : St) : Nat := 2 * (l.length - s.at_) + (match q with | 0 => 5 | 1 => 4 | 2 => 3 | 4 => 2 | _ => 1)
theorem ln_ok {most opn : Int} {rest x : List UInt8} (h : lnL most opn rest = .ok x) : fndL rest = some x.length ∧ x = rest.take x.length ∧ x.length + 2 ≤ rest.length ∧ (x.length : Int) ≤ most := by
  unfold lnL at h
  split at h
  · split at h <;> cases h
  · next n hn =>
    split at h
    · next hm =>
      simp only [Ln.ok.injEq] at h
      have hr := fnd_room _ hn
      have hl : x.length = n := by rw [← h, List.length_take]; omega
      exact ⟨by rw [hl]; exact hn, by rw [hl, h], by omega, by omega⟩
    · cases h
theorem fld_go {l : List UInt8} {s s' : St} {h : Option Hd} (hf : fldL l s = .ok s' h) : s.at_ + 2 ≤ s'.at_ ∧ s'.at_ ≤ l.length := by
  unfold fldL at hf
  split at hf
  · cases hf
  · cases hf
  · next x hx =>
    have h1 := ln_ok hx
    have hd : (l.drop s.at_).length = l.length - s.at_ := by simp
    split at hf
    · next hx0 =>
      simp only [Fl.ok.injEq] at hf
      obtain ⟨rfl, -⟩ := hf
      simp only
      omega
    · split at hf
      · cases hf
      · split at hf
        · cases hf
        · simp only [Fl.ok.injEq] at hf
          obtain ⟨rfl, -⟩ := hf
          simp only
          omega
theorem mu_step {l : List UInt8} {q q' : Nat} {s s' : St} (h : stepF l q s = .go q' s') (h5 : q = 5 → 1 ≤ s.size) : mu l q' s' < mu l q s := by
  have hd : ∀ k, (l.drop k).length = l.length - k := fun k => by simp
  unfold stepF at h
  split at h
  · split at h
    · cases h
    · cases h
    · next x hx =>
      have h1 := ln_ok hx
      have := hd s.at_
      split at h
      · cases h
      · simp only [Nx.go.injEq] at h
        obtain ⟨rfl, rfl⟩ := h
        simp only [mu]
        omega
  · split at h
    · cases h
    · next s1 hf =>
      have := fld_go hf
      simp only [Nx.go.injEq] at h
      obtain ⟨rfl, rfl⟩ := h
      simp only [mu]
      omega
    · next s1 x hf =>
      have := fld_go hf
      simp only [Nx.go.injEq] at h
      obtain ⟨rfl, rfl⟩ := h
      simp only [mu]
      omega
  · split at h
    · cases h
    · split at h
      · simp only [Nx.go.injEq] at h
        obtain ⟨rfl, rfl⟩ := h
        simp only [mu]
        omega
      · simp only [Nx.go.injEq] at h
        obtain ⟨rfl, rfl⟩ := h
        simp only [mu]
        omega
  · split at h <;> cases h
  · split at h
    · cases h
    · cases h
    · next x hx =>
      have h1 := ln_ok hx
      have := hd s.at_
      split at h
      · cases h
      · split at h
        · cases h
        · split at h
          · simp only [Nx.go.injEq] at h
            obtain ⟨rfl, rfl⟩ := h
            simp only [mu]
            omega
          · simp only [Nx.go.injEq] at h
            obtain ⟨rfl, rfl⟩ := h
            simp only [mu]
            omega
  · split at h
    · cases h
    · simp only at h
      split at h
      · cases h
      · split at h
        · cases h
        · simp only [Nx.go.injEq] at h
          obtain ⟨rfl, rfl⟩ := h
          have := h5 rfl
          simp only [mu]
          omega
  · split at h
    · cases h
    · cases h
    · next s1 x hf =>
      have := fld_go hf
      simp only [Nx.go.injEq] at h
      obtain ⟨rfl, rfl⟩ := h
      simp only [mu]
      omega
  · cases h
end Go.Proofs.YtmodmeabjhaklaaGreatDoor

/-
  HttpChunks: what its request is read as.
-/
import Derived.Test.YtmodmeabjhaklaaGreatDoorRnM
namespace Go.Proofs.YtmodmeabjhaklaaGreatDoor
open Go.RowKit

def pPut : List UInt8 := [80, 85, 84, 32, 47, 98, 47, 107, 32, 72, 84, 84, 80, 47, 49, 46, 49]
def pHo : List UInt8 := [72, 111, 115, 116, 58, 32, 97]
def pTe : List UInt8 := [84, 114, 97, 110, 115, 102, 101, 114, 45, 69, 110, 99, 111, 100, 105, 110, 103, 58, 32, 67, 104, 117, 110, 107, 101, 100]
def pSum : List UInt8 := [120, 45, 115, 117, 109, 58, 32, 49]
def pXy : List UInt8 := [59, 120, 61, 121]
def digT (up : Bool) : List UInt8 := if up then [48, 49, 50, 51, 52, 53, 54, 55, 56, 57, 65, 66, 67, 68, 69, 70] else [48, 49, 50, 51, 52, 53, 54, 55, 56, 57, 97, 98, 99, 100, 101, 102]
/-- A chunk of the law. -/
def chLine (up : Bool) (i n : Nat) : List UInt8 := [(digT up).getD (n / 256) 0, (digT up).getD (n / 16 % 16) 0, (digT up).getD (n % 16) 0] ++ (if i % 2 = 1 then pXy else [])
def okP (p : List UInt8) : Bool := decide (p.length ≠ 0 ∧ p.length ≤ 300)
def chOne (up : Bool) (i : Nat) (p : List UInt8) : List UInt8 := if okP p then chLine up i p.length ++ 13 :: 10 :: (p ++ [13, 10]) else []
def chT (up : Bool) (l : List (List UInt8)) : Nat → List UInt8
  | 0 => []
  | i + 1 => chT up l i ++ chOne up i (l.getD i [])
def chB (l : List (List UInt8)) : Nat → List UInt8
  | 0 => []
  | i + 1 => chB l i ++ (if okP (l.getD i []) then l.getD i [] else [])
def ckHead : List UInt8 := pPut ++ 13 :: 10 :: (pHo ++ 13 :: 10 :: (pTe ++ 13 :: 10 :: 13 :: 10 :: []))
def ckTail (tr : Bool) : List UInt8 := 48 :: 13 :: 10 :: (if tr then pSum ++ [13, 10] else [])
/-- The law's text, without its last line's end. -/
def ckT (up tr : Bool) (l : List (List UInt8)) (k : Nat) : List UInt8 := ckHead ++ chT up l k ++ ckTail tr
theorem chB_len (l : List (List UInt8)) : ∀ k, (chB l k).length ≤ 300 * k
  | 0 => by simp [chB]
  | k + 1 => by
    have := chB_len l k
    rw [chB, List.length_append]
    split
    · next h =>
      simp only [okP, decide_eq_true_eq] at h
      omega
    · simp only [List.length_nil]; omega
theorem chT_pre (up : Bool) (l : List (List UInt8)) (i : Nat) : ∀ j, ∃ z, chT up l (i + j) = chT up l i ++ z
  | 0 => ⟨[], by simp⟩
  | j + 1 => by
    obtain ⟨z, hz⟩ := chT_pre up l i j
    exact ⟨z ++ chOne up (i + j) (l.getD (i + j) []), by rw [← Nat.add_assoc, chT, hz, List.append_assoc]⟩
theorem dig_ok : ∀ (up : Bool) (v : Nat), v < 16 → dv ((digT up).getD v 0) = v ∧ (digT up).getD v 0 ≠ 59 ∧ (digT up).getD v 0 ≠ 13 := by decide +kernel
theorem ch_line (up : Bool) (i n : Nat) (hn : n ≤ 300) : chkL (chLine up i n) = some n ∧ (13 : UInt8) ∉ chLine up i n ∧ (chLine up i n).length ≤ 7 := by
  obtain ⟨a1, a2, a3⟩ := dig_ok up (n / 256) (by omega)
  obtain ⟨b1, b2, b3⟩ := dig_ok up (n / 16 % 16) (by omega)
  obtain ⟨c1, c2, c3⟩ := dig_ok up (n % 16) (by omega)
  unfold chLine
  generalize (digT up).getD (n / 256) 0 = a at *
  generalize (digT up).getD (n / 16 % 16) 0 = b at *
  generalize (digT up).getD (n % 16) 0 = c at *
  have hd : digs 16 0 [a, b, c] = some n := by
    unfold digs
    rw [if_pos (by omega)]
    unfold digs
    rw [if_pos (by omega)]
    unfold digs
    rw [if_pos (by omega)]
    unfold digs
    rw [a1, b1, c1]
    congr 1
    omega
  have h59 : (59 : UInt8) ∉ [a, b, c] := by
    simp only [List.mem_cons, List.mem_nil_iff, or_false, not_or]
    exact ⟨fun h => a2 h.symm, fun h => b2 h.symm, fun h => c2 h.symm⟩
  have h13 : (13 : UInt8) ∉ [a, b, c] := by
    simp only [List.mem_cons, List.mem_nil_iff, or_false, not_or]
    exact ⟨fun h => a3 h.symm, fun h => b3 h.symm, fun h => c3 h.symm⟩
  split
  · refine ⟨?_, ?_, by simp [pXy]⟩
    · have hc : Lib.cut ([a, b, c] ++ pXy) [59] = ([a, b, c], [120, 61, 121], true) := cut_app h59
      unfold chkL
      rw [hc]
      simp only
      rw [if_pos ⟨by simp, by simp, by decide⟩]
      exact hd
    · intro h
      rcases List.mem_append.1 h with h | h
      · exact h13 h
      · exact absurd h (by decide)
  · rw [List.append_nil]
    refine ⟨?_, h13, by simp⟩
    have hc : Lib.cut [a, b, c] [59] = ([a, b, c], [], false) := cut_miss h59
    unfold chkL
    rw [hc]
    simp only
    rw [if_pos ⟨by simp, by simp, by decide⟩]
    exact hd
def ckHs : List Hd := [(nHost, [97]), (nTe, [67, 104, 117, 110, 107, 101, 100])]
theorem ck_flt : fltL ckHs = 0 := by decide +kernel
theorem ck_te : (getL ckHs nTe).isSome = true := by decide +kernel
theorem ck_ho : hdrL pHo = some (nHost, [97]) := by decide +kernel
theorem ck_teh : hdrL pTe = some (nTe, [67, 104, 117, 110, 107, 101, 100]) := by decide +kernel
theorem ck_sum : hdrL pSum = some ([120, 45, 115, 117, 109], [49]) := by decide +kernel
theorem ck_req : reqL pPut = .ok [80, 85, 84] [47, 98, 47, 107] := by kernel_rfl
/-- The state ahead of a chunk. -/
def CkI (up : Bool) (l : List (List UInt8)) (i : Nat) (s : St) : Prop :=
  s.at_ = ckHead.length + (chT up l i).length ∧ s.head = ckHead.length ∧ s.fields = 2 ∧ s.m = [80, 85, 84] ∧ s.t = [47, 98, 47, 107] ∧ s.hs = ckHs ∧ s.pcs.flatten = chB l i ∧ s.sum = (chB l i).length
theorem ck_step {up : Bool} {l : List (List UInt8)} {k : Nat} {L : List UInt8} {t : Tld} {z : List UInt8} (hL : L = ckHead ++ chT up l k ++ z) (hk : k ≤ 20) {i : Nat} (hi : i < k) (ih : ∀ s, CkI up l (i + 1) s → Rn L 4 s t) {s : St} (hs : CkI up l i s) : Rn L 4 s t := by
  obtain ⟨e1, e2, e3, e4, e5, e6, e7, e8⟩ := hs
  by_cases hp : okP (l.getD i []) = true
  · have hp2 := hp
    simp only [okP, decide_eq_true_eq] at hp2
    obtain ⟨p, hpe⟩ : ∃ p, p = l.getD i [] := ⟨_, rfl⟩
    rw [← hpe] at hp hp2
    obtain ⟨y, hy⟩ := chT_pre up l (i + 1) (k - (i + 1))
    rw [show i + 1 + (k - (i + 1)) = k by omega, chT, ← hpe, chOne, if_pos hp] at hy
    obtain ⟨l1, l2, l3⟩ := ch_line up i p.length hp2.2
    have hD : L.drop s.at_ = chLine up i p.length ++ 13 :: 10 :: (p ++ (13 :: 10 :: (y ++ z))) := by
      have e : L = (ckHead ++ chT up l i) ++ (chLine up i p.length ++ 13 :: 10 :: (p ++ (13 :: 10 :: (y ++ z)))) := by rw [hL, hy]; simp
      rw [e, List.drop_left' (by rw [List.length_append, e1])]
    have hD2 := drop_line hD
    have hB := chB_len l i
    have h4 : stepF L 4 s = .go 5 { s with at_ := s.at_ + ((chLine up i p.length).length + 2), size := p.length } := by
      rw [stepF, hD, ln_at _ _ l2 (by omega)]
      simp only
      rw [l1]
      simp only
      rw [if_neg (by omega), if_neg hp2.1]
    refine .go h4 ?_
    have hlen : p.length + 2 ≤ L.length - (s.at_ + ((chLine up i p.length).length + 2)) := by
      have := congrArg List.length hD2
      rw [List.length_drop] at this
      rw [this]
      simp only [List.length_append, List.length_cons]
      omega
    have hD3 : L.drop (s.at_ + ((chLine up i p.length).length + 2) + p.length) = 13 :: 10 :: (y ++ z) := by
      rw [← List.drop_drop, hD2, List.drop_left' rfl]
    have h5 : stepF L 5 { s with at_ := s.at_ + ((chLine up i p.length).length + 2), size := p.length } = .go 4 { takeL L { s with at_ := s.at_ + ((chLine up i p.length).length + 2), size := p.length } with at_ := s.at_ + ((chLine up i p.length).length + 2) + p.length + 2 } := by
      rw [stepF]
      simp only
      rw [if_neg (by omega), hD3]
      rfl
    refine .go h5 (ih _ ?_)
    unfold CkI takeL
    simp only
    rw [hD2, List.take_left' rfl, chT, chB, ← hpe, chOne, if_pos hp, if_pos hp]
    refine ⟨?_, e2, e3, e4, e5, e6, ?_, ?_⟩
    · rw [e1]
      simp only [List.length_append, List.length_cons, List.length_nil]
      omega
    · rw [List.flatten_append, e7]
      simp
    · rw [e8, List.length_append]
  · refine ih s ?_
    unfold CkI
    rw [chT, chB, chOne, if_neg hp, if_neg hp, List.append_nil, List.append_nil]
    exact ⟨e1, e2, e3, e4, e5, e6, e7, e8⟩
theorem ck_down {up : Bool} {l : List (List UInt8)} {k : Nat} {L : List UInt8} {t : Tld} {z : List UInt8} (hL : L = ckHead ++ chT up l k ++ z) (hk : k ≤ 20) (hend : ∀ s, CkI up l k s → Rn L 4 s t) : ∀ j, j ≤ k → ∀ s, CkI up l (k - j) s → Rn L 4 s t
  | 0, _, s, hs => hend s hs
  | j + 1, hj, s, hs => ck_step hL hk (i := k - (j + 1)) (by omega) (fun s' hs' => ck_down hL hk hend j (by omega) s' (by rw [show k - j = k - (j + 1) + 1 by omega]; exact hs')) hs
theorem ck_start {up : Bool} {l : List (List UInt8)} {k : Nat} {L : List UInt8} {t : Tld} {z : List UInt8} (hL : L = ckHead ++ chT up l k ++ z) (hk : k ≤ 20) (hend : ∀ s, CkI up l k s → Rn L 4 s t) : parseL L = t := by
  have D0 : L = pPut ++ 13 :: 10 :: (pHo ++ 13 :: 10 :: (pTe ++ 13 :: 10 :: 13 :: 10 :: (chT up l k ++ z))) := by rw [hL]; simp [ckHead]
  have D1 : L.drop (pPut.length + 2) = pHo ++ 13 :: 10 :: (pTe ++ 13 :: 10 :: 13 :: 10 :: (chT up l k ++ z)) := by
    have := drop_line (l := L) (k := 0) (by rw [List.drop_zero]; exact D0)
    rw [Nat.zero_add] at this
    exact this
  have D2 := drop_line D1
  have D3 := drop_line D2
  refine rn_parse (.go (req_line D0 (by decide) (by decide) ck_req) (hd_line D1 (by decide) (by decide) (by decide) (by decide) ck_ho (hd_line D2 (by decide) (by decide) (by decide) (by decide) ck_teh (hd_end D3 (by decide) ?_))))
  refine .go (q' := 4) (s' := ⟨ckHead.length, ckHead.length, 2, [80, 85, 84], [47, 98, 47, 107], ckHs, 0, [], 0⟩) ?_ ?_
  · rw [stepF]
    show (if fltL ckHs ≠ 0 then _ else _) = _
    rw [ck_flt, if_neg (by simp)]
    show (if (getL ckHs nTe).isSome = true then _ else _) = _
    rw [ck_te, if_pos rfl]
    rfl
  · exact ck_down hL hk hend k (Nat.le_refl k) _ (by rw [Nat.sub_self]; exact ⟨rfl, rfl, rfl, rfl, rfl, rfl, rfl, rfl⟩)
theorem ck_close : closeL ckHs = false := by decide +kernel
theorem ck_ex : (getL ckHs nEx).isSome = false := by decide +kernel
/-- What the law's text with its last line's end is read as. -/
theorem chunks_done (up tr : Bool) (l : List (List UInt8)) (k : Nat) (hk : k ≤ 20) :
    parseL (ckT up tr l k ++ [13, 10]) = .done ((ckT up tr l k).length + 2) [80, 85, 84] [47, 98, 47, 107] ckHs (chB l k) false false := by
  have hL : ckT up tr l k ++ [13, 10] = ckHead ++ chT up l k ++ (ckTail tr ++ [13, 10]) := by simp [ckT]
  refine ck_start hL hk ?_
  intro s ⟨e1, e2, e3, e4, e5, e6, e7, e8⟩
  have hD : (ckT up tr l k ++ [13, 10]).drop s.at_ = [48] ++ 13 :: 10 :: ((if tr then pSum ++ [13, 10] else []) ++ [13, 10]) := by
    rw [hL, List.drop_left' (by rw [List.length_append, e1])]
    simp [ckTail]
  have h4 : stepF (ckT up tr l k ++ [13, 10]) 4 s = .go 6 { s with at_ := s.at_ + 3 } := by
    rw [stepF, hD, ln_at _ _ (by decide) (by decide)]
    simp only
    have hc : chkL [48] = some 0 := by decide +kernel
    have hB := chB_len l k
    rw [hc]
    simp only
    rw [if_neg (by omega)]
    rfl
  have hD2 : (ckT up tr l k ++ [13, 10]).drop (s.at_ + 3) = (if tr then pSum ++ [13, 10] else []) ++ [13, 10] := drop_line hD
  have hh : ckHead.length = 58 := by decide
  have hln : (ckT up tr l k).length = s.at_ + 3 + (if tr then 10 else 0) := by
    have := congrArg List.length hL
    rw [List.length_append, List.length_append, List.length_append, List.length_append] at this
    cases tr <;> simp [ckTail, pSum] at this ⊢ <;> omega
  refine .go h4 ?_
  cases tr with
  | false =>
    simp only [Bool.false_eq_true, if_false, List.nil_append] at hD2 hln
    refine .fin ?_
    rw [stepF, fld_end (r := []) (s := { s with at_ := s.at_ + 3 }) hD2 (by simp only; omega)]
    simp only [doneL]
    rw [e4, e5, e6, e7, ck_close, ck_ex, hln]
    rfl
  | true =>
    simp only [if_true] at hD2 hln
    have hD2' : (ckT up true l k ++ [13, 10]).drop (s.at_ + 3) = pSum ++ 13 :: 10 :: [13, 10] := by rw [hD2]; simp
    have hD3 := drop_line hD2'
    refine .go (q' := 6) (s' := { s with at_ := s.at_ + 3 + (pSum.length + 2), head := s.head + (pSum.length + 2), fields := s.fields + 1 }) ?_ (.fin ?_)
    · rw [stepF, fld_line (s := { s with at_ := s.at_ + 3 }) hD2' (by decide) (by decide) (by simp only [pSum, List.length_cons, List.length_nil]; omega) (by simp only; omega) ck_sum]
    · rw [stepF, fld_end (r := []) (s := { s with at_ := s.at_ + 3 + (pSum.length + 2), head := s.head + (pSum.length + 2), fields := s.fields + 1 }) hD3 (by simp only [pSum, List.length_cons, List.length_nil]; omega)]
      simp only [doneL]
      rw [e4, e5, e6, e7, ck_close, ck_ex, hln]
      rfl
theorem ln_nil {most opn : Int} (h : 0 ≤ opn) : lnL most opn [] = .more := by
  unfold lnL fndL
  simp only [List.length_nil]
  rw [if_pos (by omega)]
theorem fld_wait {L : List UInt8} {s : St} (hd : L.drop s.at_ = []) (hh : s.head ≤ 65536) : fldL L s = .fin .more := by
  unfold fldL
  rw [hd, ln_nil (by omega)]
/-- What the law's text without its last line's end is read as. -/
theorem chunks_wait (up tr : Bool) (l : List (List UInt8)) (k : Nat) (hk : k ≤ 20) : parseL (ckT up tr l k) = .more := by
  have hL : ckT up tr l k = ckHead ++ chT up l k ++ ckTail tr := rfl
  refine ck_start hL hk ?_
  intro s ⟨e1, e2, e3, e4, e5, e6, e7, e8⟩
  have hD : (ckT up tr l k).drop s.at_ = [48] ++ 13 :: 10 :: (if tr then pSum ++ [13, 10] else []) := by
    rw [hL, List.drop_left' (by rw [List.length_append, e1])]
    simp [ckTail]
  have h4 : stepF (ckT up tr l k) 4 s = .go 6 { s with at_ := s.at_ + 3 } := by
    rw [stepF, hD, ln_at _ _ (by decide) (by decide)]
    simp only
    have hc : chkL [48] = some 0 := by decide +kernel
    have hB := chB_len l k
    rw [hc]
    simp only
    rw [if_neg (by omega)]
    rfl
  have hD2 : (ckT up tr l k).drop (s.at_ + 3) = (if tr then pSum ++ [13, 10] else []) := drop_line hD
  have hh : ckHead.length = 58 := by decide
  refine .go h4 ?_
  cases tr with
  | false =>
    simp only [Bool.false_eq_true, if_false] at hD2
    refine .fin ?_
    rw [stepF, fld_wait (s := { s with at_ := s.at_ + 3 }) hD2 (by simp only; omega)]
  | true =>
    simp only [if_true] at hD2
    have hD2' : (ckT up true l k).drop (s.at_ + 3) = pSum ++ 13 :: 10 :: [] := by rw [hD2]
    have hD3 := drop_line hD2'
    refine .go (q' := 6) (s' := { s with at_ := s.at_ + 3 + (pSum.length + 2), head := s.head + (pSum.length + 2), fields := s.fields + 1 }) ?_ (.fin ?_)
    · rw [stepF, fld_line (s := { s with at_ := s.at_ + 3 }) hD2' (by decide) (by decide) (by simp only [pSum, List.length_cons, List.length_nil]; omega) (by simp only; omega) ck_sum]
    · rw [stepF, fld_wait (s := { s with at_ := s.at_ + 3 + (pSum.length + 2), head := s.head + (pSum.length + 2), fields := s.fields + 1 }) hD3 (by simp only [pSum, List.length_cons, List.length_nil]; omega)]
end Go.Proofs.YtmodmeabjhaklaaGreatDoor

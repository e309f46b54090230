/-
  HttpCase: what its requests are read as.
-/
import Derived.Test.YtmodmeabjhaklabGreatDoorRnM
namespace Go.Proofs.YtmodmeabjhaklabGreatDoor
open Go.RowKit

theorem dw_pad : ∀ (p x : List UInt8), (∀ c ∈ p, blk c = true) → dw (p ++ x) = dw x
  | [], x, _ => rfl
  | a :: p, x, h => by
    rw [List.cons_append, dw_yes (h a (by simp))]
    exact dw_pad p x fun c hc => h c (by simp [hc])
theorem rdw_pad (p x : List UInt8) (h : ∀ c ∈ p, blk c = true) : rdw (x ++ p) = rdw x := by
  unfold rdw
  rw [List.reverse_append]
  have := dw_pad p.reverse x.reverse (fun c hc => h c (by simpa using hc))
  unfold dw at this
  rw [this]
theorem trim_pad (p q v : List UInt8) (hp : ∀ c ∈ p, blk c = true) (hq : ∀ c ∈ q, blk c = true) : trimL (p ++ v ++ q) = trimL v := by
  unfold trimL
  rw [List.append_assoc, dw_pad p _ hp, ← rdw_dw, rdw_pad q v hq, rdw_dw]
def nmA : List UInt8 := [120, 45, 97, 109, 122, 45, 109, 101, 116, 97, 45, 97]
def nmU : List UInt8 := [88, 45, 65, 109, 122, 45, 77, 69, 84, 65, 45, 97]
def pLine : List UInt8 := [71, 69, 84, 32, 47, 32, 72, 84, 84, 80, 47, 49, 46, 49]
/-- A request of the law: the host's line, a name, what stands ahead of the value, behind it. -/
def caT (h n p v q : List UInt8) : List UInt8 := pLine ++ 13 :: 10 :: (h ++ 13 :: 10 :: (n ++ 58 :: (p ++ v ++ q) ++ 13 :: 10 :: 13 :: 10 :: []))
theorem case_hdr (n p v q : List UInt8) (hn : n = nmA ∨ n = nmU) (hp : ∀ c ∈ p, blk c = true) (hq : ∀ c ∈ q, blk c = true) :
    hdrL (n ++ 58 :: (p ++ v ++ q)) = if allB valB v then some (nmA, trimL v) else none := by
  have h58 : (58 : UInt8) ∉ n := by rcases hn with rfl | rfl <;> decide
  have hl : lowL n = nmA := by rcases hn with rfl | rfl <;> decide
  have ht : tokenB n = true := by rcases hn with rfl | rfl <;> decide +kernel
  have hv : ∀ x : List UInt8, (∀ c ∈ x, blk c = true) → allB valB x = true := by
    intro x hx
    rw [allB, List.all_eq_true]
    intro c hc
    have := hx c hc
    simp only [blk, Bool.or_eq_true, decide_eq_true_eq] at this
    simp only [valB, Bool.or_eq_true, decide_eq_true_eq]
    omega
  have ha : allB valB (p ++ v ++ q) = allB valB v := by
    have h1 := hv p hp
    have h2 := hv q hq
    unfold allB at *
    rw [List.all_append, List.all_append, h1, h2]
    simp
  unfold hdrL
  rw [cut_app h58]
  simp only [ha, hl, ht, trim_pad p q v hp hq, Bool.true_and, Bool.and_true]
theorem case_flt (x : List UInt8) : fltL [(nHost, [97]), (nmA, x)] = 0 := by
  unfold fltL
  simp only [allL, getL, List.filter_cons, List.filter_nil, List.find?_cons, List.find?_nil, show (nmA = nHost) = False by decide, show (nHost = nTe) = False by decide, show (nmA = nTe) = False by decide, show (nHost = nCl) = False by decide, show (nmA = nCl) = False by decide, show (nHost = nEx) = False by decide, show (nmA = nEx) = False by decide, decide_true, decide_false, if_true, List.map_cons, Option.map_none, Option.isSome_none]
  simp [En.intV_no, En.intOk_0]
theorem case_close (x : List UInt8) : closeL [(nHost, [97]), (nmA, x)] = false := by
  unfold closeL
  simp only [allL, List.filter_cons, List.filter_nil, show (nmA = nConn) = False by decide, show (nHost = nConn) = False by decide, decide_false]
  simp
theorem case_ex (x : List UInt8) : (getL [(nHost, [97]), (nmA, x)] nEx).isSome = false := by
  simp only [getL, List.find?_cons, List.find?_nil, show (nmA = nEx) = False by decide, show (nHost = nEx) = False by decide, decide_false]
  simp
theorem case_te (x : List UInt8) : (getL [(nHost, [97]), (nmA, x)] nTe).isSome = false := by
  simp only [getL, List.find?_cons, List.find?_nil, show (nmA = nTe) = False by decide, show (nHost = nTe) = False by decide, decide_false]
  simp
theorem case_cl (x : List UInt8) : (getL [(nHost, [97]), (nmA, x)] nCl).getD [] = [] := by
  simp only [getL, List.find?_cons, List.find?_nil, show (nmA = nCl) = False by decide, show (nHost = nCl) = False by decide, decide_false]
  simp
theorem line_13 : (13 : UInt8) ∉ pLine := by decide
theorem line_req : reqL pLine = .ok [71, 69, 84] [47] := by kernel_rfl
theorem case_read (h n p v q : List UInt8) (hh : hdrL h = some (nHost, [97])) (h13 : (13 : UInt8) ∉ h) (hh0 : h ≠ []) (hhl : h.length ≤ 10) (hn : n = nmA ∨ n = nmU) (hp : ∀ c ∈ p, blk c = true) (hq : ∀ c ∈ q, blk c = true) (hpl : p.length ≤ 10) (hql : q.length ≤ 10) (hv : v.length ≤ 1000) (hv13 : (13 : UInt8) ∉ v) :
    parseL (caT h n p v q) = if allB valB v then .done (caT h n p v q).length [71, 69, 84] [47] [(nHost, [97]), (nmA, trimL v)] [] false false else .bad 308 := by
  have hnl : n.length = 12 := by rcases hn with rfl | rfl <;> rfl
  have D0 : caT h n p v q = pLine ++ 13 :: 10 :: (h ++ 13 :: 10 :: ((n ++ 58 :: (p ++ v ++ q)) ++ 13 :: 10 :: 13 :: 10 :: [])) := by simp [caT]
  have D1 : (caT h n p v q).drop (pLine.length + 2) = h ++ 13 :: 10 :: ((n ++ 58 :: (p ++ v ++ q)) ++ 13 :: 10 :: 13 :: 10 :: []) := by
    have := drop_line (l := caT h n p v q) (k := 0) (by rw [List.drop_zero]; exact D0)
    rw [Nat.zero_add] at this
    exact this
  have D2 := drop_line D1
  have D3 := drop_line D2
  have hx : (13 : UInt8) ∉ n ++ 58 :: (p ++ v ++ q) := by
    simp only [List.mem_append, List.mem_cons, not_or]
    refine ⟨by rcases hn with rfl | rfl <;> decide, by decide, ⟨fun hc => absurd (hp _ hc) (by decide), hv13⟩, fun hc => absurd (hq _ hc) (by decide)⟩
  have hlen : (caT h n p v q).length = pLine.length + 2 + (h.length + 2) + ((n ++ 58 :: (p ++ v ++ q)).length + 2) + 2 := by
    rw [D0]
    simp only [List.length_append, List.length_cons, List.length_nil]
    omega
  have hpL : pLine.length = 14 := rfl
  have hlx : (n ++ 58 :: (p ++ v ++ q)).length ≤ 1033 := by
    simp only [List.length_append, List.length_cons]
    omega
  refine rn_parse (.go (req_line D0 line_13 (by rw [hpL]; omega) line_req) (hd_line D1 h13 hh0 (by simp only; omega) (by simp only; omega) hh ?_))
  by_cases ha : allB valB v = true
  · rw [if_pos ha]
    have hx2 : hdrL (n ++ 58 :: (p ++ v ++ q)) = some (nmA, trimL v) := by rw [case_hdr n p v q hn hp hq, if_pos ha]
    refine hd_line D2 hx (by simp) (by simp only; omega) (by simp only; omega) hx2 (hd_end D3 (by simp only; omega) (.go (q' := 3) (s' := ⟨(caT h n p v q).length, pLine.length + 2 + (h.length + 2) + ((n ++ 58 :: (p ++ v ++ q)).length + 2) + 2, 2, [71, 69, 84], [47], [(nHost, [97]), (nmA, trimL v)], 0, [], 0⟩) ?_ (.fin ?_)))
    · rw [stepF]
      simp only [List.nil_append, List.cons_append]
      rw [case_flt, if_neg (by simp), case_te, if_neg (by simp), case_cl, hlen]
      rfl
    · rw [stepF]
      simp only [doneL, takeL]
      rw [if_neg (by omega), case_close, case_ex]
      simp
  · rw [if_neg ha]
    have hx2 : hdrL (n ++ 58 :: (p ++ v ++ q)) = none := by rw [case_hdr n p v q hn hp hq, if_neg ha]
    refine .fin ?_
    rw [stepF]
    have : fldL (caT h n p v q) ⟨pLine.length + 2 + (h.length + 2), pLine.length + 2 + (h.length + 2), 0 + 1, [71, 69, 84], [47], [] ++ [(nHost, [97])], 0, [], 0⟩ = .fin (.bad 308) := by
      unfold fldL
      simp only
      rw [D2, ln_at _ _ hx (by omega)]
      simp only
      rw [if_neg (by simp), if_neg (by omega), hx2]
    simp only at this ⊢
    rw [this]
end Go.Proofs.YtmodmeabjhaklabGreatDoor

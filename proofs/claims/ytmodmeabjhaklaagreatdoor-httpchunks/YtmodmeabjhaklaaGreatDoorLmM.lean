/-
  HttpLimits: what its request is read as.
-/
import Derived.Test.YtmodmeabjhaklaaGreatDoorRnM
import Derived.Test.YtmodmeabjhaklaaGreatDoorEnBackI
namespace Go.Proofs.YtmodmeabjhaklaaGreatDoor
open Go.RowKit

def pGet : List UInt8 := [71, 69, 84, 32, 47]
def pVer : List UInt8 := [32, 72, 84, 84, 80, 47, 49, 46, 49]
def pHost : List UInt8 := [104, 111, 115, 116, 58, 32, 97]
def pAb : List UInt8 := [97, 58, 32, 98]
def pCl : List UInt8 := [99, 111, 110, 116, 101, 110, 116, 45, 108, 101, 110, 103, 116, 104, 58, 32]
def fstT (m : Nat) : List UInt8 := pGet ++ List.replicate m 120 ++ pVer
theorem fst_len (m : Nat) : (fstT m).length = m + 14 := by simp [fstT, pGet, pVer]
theorem fst_13 (m : Nat) : (13 : UInt8) ∉ fstT m := by
  simp only [fstT, List.mem_append, List.mem_replicate, not_or]
  refine ⟨⟨by decide, ?_⟩, by decide⟩
  rintro ⟨_, h⟩
  exact absurd h (by decide)
theorem fst_req (m : Nat) : reqL (fstT m) = .ok [71, 69, 84] (47 :: List.replicate m 120) := by
  have e1 : fstT m = [71, 69, 84] ++ 32 :: (47 :: List.replicate m 120 ++ 32 :: http11) := by simp [fstT, pGet, pVer, http11]
  have h32 : (32 : UInt8) ∉ 47 :: List.replicate m 120 := by
    simp only [List.mem_cons, List.mem_replicate, not_or]
    exact ⟨by decide, fun h => absurd h.2 (by decide)⟩
  have c1 : Lib.cut (fstT m) [32] = ([71, 69, 84], 47 :: List.replicate m 120 ++ 32 :: http11, true) := by rw [e1]; exact cut_app (by decide)
  have c2 : Lib.cut (47 :: List.replicate m 120 ++ 32 :: http11) [32] = (47 :: List.replicate m 120, http11, true) := cut_app h32
  have ht : tarB (47 :: List.replicate m 120) = true := by
    simp only [tarB, List.length_cons, List.all_cons, Bool.and_eq_true, decide_eq_true_eq, List.all_eq_true]
    refine ⟨⟨by decide, fun x hx => ?_⟩, by omega⟩
    rw [(List.mem_replicate.1 hx).2]
    decide
  unfold reqL
  simp only [c1, c2, ht]
  rw [if_neg (by decide), if_neg (by decide), if_neg (by simp)]
theorem dec_dig : ∀ n, ∀ c ∈ Lib.decDigits n, 48 ≤ c.toNat ∧ c.toNat ≤ 57 := by
  intro n
  induction n using Nat.strongRecOn with
  | _ n ih =>
    intro c hc
    unfold Lib.decDigits at hc
    split at hc
    · simp only [List.mem_singleton] at hc
      rw [hc, UInt8.toNat_ofNat', Nat.mod_eq_of_lt (by omega)]
      omega
    · rcases List.mem_append.1 hc with h | h
      · exact ih (n / 10) (by omega) c h
      · simp only [List.mem_singleton] at h
        rw [h, UInt8.toNat_ofNat', Nat.mod_eq_of_lt (by omega)]
        omega
theorem dig_trim {d : List UInt8} (h : ∀ c ∈ d, 48 ≤ c.toNat ∧ c.toNat ≤ 57) : trimL d = d := by
  have hb : ∀ c ∈ d, blk c = false := fun c hc => by
    have := h c hc
    simp [blk]
    omega
  have e1 : dw d = d := by
    cases d with
    | nil => rfl
    | cons a r => exact dw_no (hb a (by simp))
  have e2 : ∀ x : List UInt8, (∀ c ∈ x, blk c = false) → rdw x = x := by
    intro x hx
    rcases List.eq_nil_or_concat x with rfl | ⟨y, a, rfl⟩
    · rfl
    · rw [List.concat_eq_append]
      exact rdw_snoc_no (hx a (by simp))
  rw [trimL, e1, e2 d hb]
theorem cl_hdr {d : List UInt8} (h : ∀ c ∈ d, 48 ≤ c.toNat ∧ c.toNat ≤ 57) : hdrL (pCl ++ d) = some (nCl, d) := by
  have c1 : Lib.cut (pCl ++ d) [58] = (nCl, 32 :: d, true) := by
    have e : pCl ++ d = nCl ++ 58 :: (32 :: d) := by simp [pCl, nCl]
    rw [e]
    exact cut_app (by decide)
  have hv : allB valB (32 :: d) = true := by
    rw [allB, List.all_cons, Bool.and_eq_true, List.all_eq_true]
    refine ⟨by decide, fun c hc => ?_⟩
    have := h c hc
    simp only [valB, Bool.or_eq_true, decide_eq_true_eq]
    omega
  have ht : trimL (32 :: d) = d := by
    rw [trimL, dw_yes (by decide)]
    exact dig_trim h
  unfold hdrL
  rw [c1]
  simp only [hv, ht]
  rw [if_pos (by decide)]
  rfl
theorem host_hdr : hdrL pHost = some (nHost, [97]) := by decide +kernel
theorem ab_hdr : hdrL pAb = some ([97], [98]) := by decide +kernel
/-- Many lines 'a: b', and what comes behind them. -/
def abT : Nat → List UInt8 → List UInt8
  | 0, r => r
  | k + 1, r => pAb ++ 13 :: 10 :: abT k r
theorem ab_len : ∀ k r, (abT k r).length = 6 * k + r.length
  | 0, r => by simp [abT]
  | k + 1, r => by
    rw [abT, List.length_append, List.length_cons, List.length_cons, ab_len k r]
    simp [pAb]
    omega
theorem ab_more : ∀ k r, abT (k + 1) r = abT k (pAb ++ 13 :: 10 :: r)
  | 0, r => rfl
  | k + 1, r => by rw [abT, ab_more k r, abT]
/-- The lines of 'a: b' on the way: all of them are taken, or one of them is too many. -/
theorem ab_run {l : List UInt8} {t : Tld} : ∀ (k : Nat) {r : List UInt8} {s : St}, l.drop s.at_ = abT k r → s.head + 6 * k ≤ 65536 →
    (s.fields + k ≤ 100 → Rn l 1 { s with at_ := s.at_ + 6 * k, head := s.head + 6 * k, fields := s.fields + k, hs := s.hs ++ List.replicate k ([97], [98]) } t) → (100 < s.fields + k → s.fields ≤ 100 → t = .bad 339) → s.fields ≤ 100 → Rn l 1 s t
  | 0, r, s, hd, hh, hgo, _, hf => by
    have := hgo (by omega)
    simpa using this
  | k + 1, r, s, hd, hh, hgo, hbad, hf => by
    rw [abT] at hd
    by_cases h100 : s.fields = 100
    · rw [hbad (by omega) hf]
      exact hd_over hd (by decide) (by decide) (by simp [pAb]; omega) (by omega)
    · refine hd_line hd (by decide) (by decide) (by simp [pAb]; omega) (by omega) ab_hdr ?_
      refine ab_run k (r := r) ?_ ?_ ?_ ?_ ?_
      · exact drop_line hd
      · simp only [pAb, List.length_cons, List.length_nil]; omega
      · simp only
        intro h
        have := hgo (by omega)
        have e1 : s.at_ + (pAb.length + 2) + 6 * k = s.at_ + 6 * (k + 1) := by simp [pAb]; omega
        have e2 : s.head + (pAb.length + 2) + 6 * k = s.head + 6 * (k + 1) := by simp [pAb]; omega
        have e3 : s.fields + 1 + k = s.fields + (k + 1) := by omega
        rw [e1, e2, e3, List.append_assoc]
        exact this
      · simp only
        intro h _
        exact hbad (by omega) hf
      · simp only
        omega
/-- The request of the law. -/
def limT (m k n : Nat) : List UInt8 := fstT m ++ 13 :: 10 :: (pHost ++ 13 :: 10 :: abT k (pCl ++ Lib.decDigits n ++ 13 :: 10 :: 13 :: 10 :: []))
theorem dec_len18 {n : Nat} (h : n < 1000000000000000000) : 1 ≤ (Lib.decDigits n).length ∧ (Lib.decDigits n).length ≤ 18 := by
  obtain ⟨_, _, i3, _, i5, _⟩ := En.dec_int n
  exact ⟨i3, i5 18 (by simpa using h) (by decide)⟩
def limHs (k n : Nat) : List Hd := (nHost, [97]) :: (List.replicate k ([97], [98]) ++ [(nCl, Lib.decDigits n)])
theorem all_app (a b : List Hd) (x : List UInt8) : allL (a ++ b) x = allL a x ++ allL b x := by simp [allL]
theorem all_rep (k : Nat) (n v x : List UInt8) (h : n ≠ x) : allL (List.replicate k (n, v)) x = [] := by
  simp [allL, h]
theorem getl_all (hs : List Hd) (x : List UInt8) : getL hs x = (allL hs x).head? := by
  induction hs with
  | nil => rfl
  | cons a r ih =>
    unfold getL allL at *
    rw [List.find?_cons, List.filter_cons]
    by_cases h : a.1 = x
    · simp [h]
    · simp [h]
theorem lim_all (k n : Nat) (x : List UInt8) (h : ([97] : List UInt8) ≠ x) : allL (limHs k n) x = (if nHost = x then [[97]] else []) ++ (if nCl = x then [Lib.decDigits n] else []) := by
  have e : limHs k n = [(nHost, [97])] ++ (List.replicate k ([97], [98]) ++ [(nCl, Lib.decDigits n)]) := rfl
  rw [e, all_app, all_app, all_rep k _ _ _ h]
  by_cases h1 : nHost = x <;> by_cases h2 : nCl = x <;> simp [allL, h1, h2]
theorem lim_flt {k n : Nat} (hn : n < 1000000000000000000) : fltL (limHs k n) = if 1048576 < n then 324 else 0 := by
  obtain ⟨h1, h2⟩ := En.int_text n hn
  have a1 := lim_all k n nHost (by decide)
  have a2 := lim_all k n nTe (by decide)
  have a3 := lim_all k n nCl (by decide)
  have a4 := lim_all k n nEx (by decide)
  simp only [show (nHost = nTe) = False by decide, show (nCl = nTe) = False by decide, show (nCl = nHost) = False by decide, show (nHost = nCl) = False by decide, show (nHost = nEx) = False by decide, show (nCl = nEx) = False by decide, if_true, if_false, List.append_nil, List.nil_append] at a1 a2 a3 a4
  unfold fltL
  simp only [getl_all, a1, a2, a3, a4, List.head?_nil, List.head?_cons, List.length_cons, List.length_nil, Option.isSome_none, Option.isSome_some, Option.getD_some, h1, h2]
  simp
  by_cases h : 1048576 < n
  · rw [if_pos h, if_pos (by omega)]
  · rw [if_neg h, if_neg (by omega)]
theorem limits_read (m k n : Nat) (hm : m ≤ 9000) (hk : k ≤ 110) (hn : n ≤ 2097152) :
    (8192 < m + 14 → parseL (limT m k n) = .bad 338) ∧ (m + 14 ≤ 8192 → 100 < k + 2 → parseL (limT m k n) = .bad 339) ∧ (m + 14 ≤ 8192 → k + 2 ≤ 100 → 1048576 < n → parseL (limT m k n) = .bad 324) ∧
    (m + 14 ≤ 8192 → k + 2 ≤ 100 → n ≤ 1048576 → 0 < n → parseL (limT m k n) = .more) ∧
    (m + 14 ≤ 8192 → k + 2 ≤ 100 → n = 0 → ∃ a b hs c x y, parseL (limT m k n) = .done (limT m k n).length a b hs c x y) := by
  obtain ⟨d1, d2⟩ := dec_len18 (n := n) (by omega)
  have hfst : limT m k n = fstT m ++ 13 :: 10 :: (pHost ++ 13 :: 10 :: abT k (pCl ++ Lib.decDigits n ++ 13 :: 10 :: 13 :: 10 :: [])) := rfl
  refine ⟨fun h => rn_parse (.fin (req_long hfst (fst_13 m) (by rw [fst_len]; omega))), ?_⟩
  by_cases hle : m + 14 ≤ 8192
  · have key : ∀ t, (100 < k + 2 → t = .bad 339) → (k + 2 ≤ 100 → Rn (limT m k n) 2 ⟨(limT m k n).length, m + 16 + 9 + 6 * k + (pCl.length + (Lib.decDigits n).length + 2) + 2, k + 2, [71, 69, 84], 47 :: List.replicate m 120, limHs k n, 0, [], 0⟩ t) → parseL (limT m k n) = t := by
      intro t hb hg
      refine rn_parse (.go (req_line hfst (fst_13 m) (by rw [fst_len]; omega) (fst_req m)) ?_)
      have D0 : (limT m k n).drop ((fstT m).length + 2) = pHost ++ 13 :: 10 :: abT k (pCl ++ Lib.decDigits n ++ 13 :: 10 :: 13 :: 10 :: []) := by
        have := drop_line (l := limT m k n) (k := 0) (by rw [List.drop_zero]; exact hfst)
        rw [Nat.zero_add] at this
        exact this
      refine hd_line D0 (by decide) (by decide) (by simp only [fst_len, pHost, List.length_cons, List.length_nil]; omega) (by simp only; omega) host_hdr ?_
      have D1 := drop_line D0
      have hD : (13 : UInt8) ∉ pCl ++ Lib.decDigits n := by
        intro h
        rcases List.mem_append.1 h with h | h
        · exact absurd h (by decide)
        · have := dec_dig n _ h
          have e : (13 : UInt8).toNat = 13 := rfl
          omega
      refine ab_run k D1 (by simp only [fst_len, pHost, List.length_cons, List.length_nil]; omega) ?_ (fun h _ => hb (by simp only at h; omega)) (by simp only; omega)
      simp only
      intro h100
      have D2 : (limT m k n).drop ((fstT m).length + 2 + (pHost.length + 2) + 6 * k) = (pCl ++ Lib.decDigits n) ++ 13 :: 10 :: 13 :: 10 :: [] := by
        have := congrArg (List.drop (6 * k)) D1
        rw [List.drop_drop] at this
        rw [this]
        have : ∀ j r, (abT j r).drop (6 * j) = r := by
          intro j
          induction j with
          | zero => intro r; rfl
          | succ j ih =>
            intro r
            have e : 6 * (j + 1) = 6 * j + 6 := by omega
            rw [e, ← List.drop_drop, ab_more, ih]
            simp [pAb]
        rw [this]
      by_cases hk2 : k + 2 ≤ 100
      · refine hd_line D2 hD (by simp [pCl]) (by simp only [fst_len, pHost, pCl, List.length_append, List.length_cons, List.length_nil]; omega) (by simp only; omega) (cl_hdr (dec_dig n)) ?_
        have D3 := drop_line D2
        refine hd_end D3 (by simp only [fst_len, pHost, pCl, List.length_append, List.length_cons, List.length_nil]; omega) ?_
        have hlen : (limT m k n).length = (fstT m).length + 2 + (pHost.length + 2) + 6 * k + ((pCl ++ Lib.decDigits n).length + 2) + 2 := by
          rw [hfst]
          simp only [List.length_append, List.length_cons, ab_len, List.length_nil]
          omega
        have := hg hk2
        rw [hlen] at this
        simp only [fst_len, pHost, List.length_append, List.length_cons, List.length_nil] at this ⊢
        have e1 : m + 14 + 2 + (0 + 1 + 1 + 1 + 1 + 1 + 1 + 1 + 2) + 6 * k + (pCl.length + (Lib.decDigits n).length + 2) + 2 = m + 16 + 9 + 6 * k + (pCl.length + (Lib.decDigits n).length + 2) + 2 := by omega
        have e2 : 0 + 1 + k + 1 = k + 2 := by omega
        have e3 : ([] ++ [(nHost, [97])] ++ List.replicate k ([97], [98]) ++ [(nCl, Lib.decDigits n)] : List Hd) = limHs k n := by simp [limHs]
        rw [e2, e3]
        rw [e1] at this ⊢
        exact this
      · rw [hb (by omega)]
        refine hd_over D2 hD (by simp [pCl]) (by simp only [fst_len, pHost, pCl, List.length_append, List.length_cons, List.length_nil]; omega) (by simp only; omega)
    have hflt := lim_flt (k := k) (n := n) (by omega)
    have hcl : (getL (limHs k n) nCl).getD [] = Lib.decDigits n := by
      rw [getl_all, lim_all k n nCl (by decide)]
      simp only [show (nHost = nCl) = False by decide, if_true, if_false, List.nil_append, List.head?_cons, Option.getD_some]
    have hte : (getL (limHs k n) nTe).isSome = false := by
      rw [getl_all, lim_all k n nTe (by decide)]
      simp only [show (nHost = nTe) = False by decide, show (nCl = nTe) = False by decide, if_false, List.append_nil, List.head?_nil, Option.isSome_none]
    have hiv := (En.int_text n (by omega)).2
    have h2s : n ≤ 1048576 → stepF (limT m k n) 2 ⟨(limT m k n).length, m + 16 + 9 + 6 * k + (pCl.length + (Lib.decDigits n).length + 2) + 2, k + 2, [71, 69, 84], 47 :: List.replicate m 120, limHs k n, 0, [], 0⟩ = .go 3 ⟨(limT m k n).length, m + 16 + 9 + 6 * k + (pCl.length + (Lib.decDigits n).length + 2) + 2, k + 2, [71, 69, 84], 47 :: List.replicate m 120, limHs k n, n, [], 0⟩ := by
      intro h
      rw [stepF]
      simp only
      have f0 : fltL (limHs k n) = 0 := by rw [hflt, if_neg (by omega)]
      have n0 : ¬ ((0 : Int) ≠ 0) := by simp
      rw [f0, if_neg n0, hte, if_neg Bool.false_ne_true, hcl, hiv]
      simp
    refine ⟨fun _ h => key _ (fun _ => rfl) (fun h2 => absurd h2 (by omega)), fun _ h h3 => key _ (fun h2 => absurd h2 (by omega)) (fun _ => .fin ?_), fun _ h h3 h4 => key _ (fun h2 => absurd h2 (by omega)) (fun _ => .go (h2s h3) (.fin ?_)), fun _ h h3 => ⟨[71, 69, 84], 47 :: List.replicate m 120, limHs k n, [], closeL (limHs k n), false, key _ (fun h2 => absurd h2 (by omega)) (fun _ => .go (h2s (by omega)) (.fin ?_))⟩⟩
    · rw [stepF]
      simp only
      rw [hflt, if_pos h3, if_pos (by decide)]
    · rw [stepF]
      simp only
      rw [if_pos (by omega)]
    · rw [stepF]
      simp only
      rw [if_neg (by omega)]
      subst h3
      simp [doneL, takeL]
  · exact ⟨fun h => absurd h hle, fun h => absurd h hle, fun h => absurd h hle, fun h => absurd h hle⟩
end Go.Proofs.YtmodmeabjhaklaaGreatDoor

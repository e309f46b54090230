/-
  Pairs by rising key: where a key lies, what is put, taken out and found.
-/
import Derived.Test.YtpophalhmjchkaaTreeN
namespace Go.Proofs.Ytpophalhmjchkaa

/-- How many keys at the head are below k; is the next one k? -/
def lbS : List ByteArray → ByteArray → Nat
  | [], _ => 0
  | b :: bs, k => if klt b k then lbS bs k + 1 else 0
def fdS (bs : List ByteArray) (k : ByteArray) : Bool := decide (bs[lbS bs k]? = some k)
theorem lbS_le : ∀ (bs : List ByteArray) (k : ByteArray), lbS bs k ≤ bs.length
  | [], _ => Nat.le_refl _
  | b :: bs, k => by
    rw [lbS]
    split
    · have := lbS_le bs k; simp only [List.length_cons]; omega
    · exact Nat.zero_le _
theorem lbS_lt {bs : List ByteArray} (hs : bs.Pairwise klt) (k : ByteArray) : ∀ {h : Nat} (hh : h < bs.length), klt bs[h] k ↔ h < lbS bs k := by
  induction bs with
  | nil => intro h hh; simp at hh
  | cons b bs ih =>
    intro h hh
    obtain ⟨h1, h2⟩ := List.pairwise_cons.1 hs
    rw [lbS]
    cases h with
    | zero =>
      simp only [List.getElem_cons_zero]
      split
      · rename_i h3; exact ⟨fun _ => by omega, fun _ => h3⟩
      · rename_i h3; exact ⟨fun h4 => absurd h4 h3, fun h4 => by omega⟩
    | succ h =>
      simp only [List.getElem_cons_succ]
      have hh' : h < bs.length := by simpa using hh
      split
      · rw [ih h2 hh']; omega
      · rename_i h3
        refine ⟨fun h4 => absurd (klt_trans (h1 _ (List.getElem_mem hh')) h4) h3, fun h4 => by omega⟩
theorem fdS_iff {bs : List ByteArray} {k : ByteArray} (h : lbS bs k < bs.length) : fdS bs k = decide (bs[lbS bs k] = k) := by
  rw [fdS, List.getElem?_eq_getElem h]
  simp
theorem fdS_no {bs : List ByteArray} {k : ByteArray} (h : ¬ lbS bs k < bs.length) : fdS bs k = false := by
  rw [fdS, List.getElem?_eq_none (by omega)]
  simp
theorem pl_lb {bs : List ByteArray} (hs : bs.Pairwise klt) (k : ByteArray) : pl bs k = if fdS bs k then lbS bs k + 1 else lbS bs k := by
  induction bs with
  | nil => simp [pl, lbS, fdS]
  | cons b bs ih =>
    obtain ⟨h1, h2⟩ := List.pairwise_cons.1 hs
    rw [pl]
    by_cases hb : klt b k
    · have e1 : lbS (b :: bs) k = lbS bs k + 1 := by rw [lbS, if_pos hb]
      have e2 : fdS (b :: bs) k = fdS bs k := by rw [fdS, fdS, e1]; simp
      rw [if_neg (klt_asymm hb), ih h2, e1, e2]
      split <;> rfl
    · have e1 : lbS (b :: bs) k = 0 := by rw [lbS, if_neg hb]
      rw [fdS, e1]
      simp only [List.getElem?_cons_zero, Option.some.injEq]
      by_cases hk : klt k b
      · rw [if_pos hk, if_neg (by simp; rintro rfl; exact klt_irrefl _ hk)]
      · have hbk : b = k := by
          rcases klt_tri b k with h | h | h
          · exact absurd h hb
          · exact h
          · exact absurd h hk
        subst hbk
        rw [if_neg hk, if_pos (by simp)]
        cases bs with
        | nil => rfl
        | cons c cs =>
          rw [pl, if_pos (h1 c List.mem_cons_self)]

def keysP (ps : List KV) : List ByteArray := ps.map (·.1)
theorem keysP_srt {ps : List KV} (h : Srt ps) : (keysP ps).Pairwise klt := List.pairwise_map.2 h
def putL (k v : ByteArray) : List KV → List KV
  | [] => [(k, v)]
  | p :: ps => if klt p.1 k then p :: putL k v ps else if klt k p.1 then (k, v) :: p :: ps else (k, v) :: ps
def delL (k : ByteArray) : List KV → List KV
  | [] => []
  | p :: ps => if klt p.1 k then p :: delL k ps else if klt k p.1 then p :: ps else ps
def getL (k : ByteArray) : List KV → Option ByteArray
  | [] => none
  | p :: ps => if klt p.1 k then getL k ps else if klt k p.1 then none else some p.2

theorem putL_mem {k v : ByteArray} : ∀ {ps : List KV} {p : KV}, p ∈ putL k v ps → p = (k, v) ∨ p ∈ ps
  | [], p, h => by simp [putL] at h; exact .inl h
  | q :: ps, p, h => by
    rw [putL] at h
    split at h
    · rcases List.mem_cons.1 h with rfl | h
      · exact .inr List.mem_cons_self
      · rcases putL_mem h with h | h
        · exact .inl h
        · exact .inr (List.mem_cons_of_mem _ h)
    · split at h
      · rcases List.mem_cons.1 h with h | h
        · exact .inl h
        · exact .inr h
      · rcases List.mem_cons.1 h with h | h
        · exact .inl h
        · exact .inr (List.mem_cons_of_mem _ h)
theorem delL_mem {k : ByteArray} : ∀ {ps : List KV} {p : KV}, p ∈ delL k ps → p ∈ ps
  | [], p, h => h
  | q :: ps, p, h => by
    rw [delL] at h
    split at h
    · rcases List.mem_cons.1 h with rfl | h
      · exact List.mem_cons_self
      · exact List.mem_cons_of_mem _ (delL_mem h)
    · split at h
      · exact h
      · exact List.mem_cons_of_mem _ h
theorem putL_srt {k v : ByteArray} : ∀ {ps : List KV}, Srt ps → Srt (putL k v ps)
  | [], _ => List.pairwise_singleton _ _
  | q :: ps, h => by
    obtain ⟨h1, h2⟩ := List.pairwise_cons.1 h
    rw [putL]
    split
    · rename_i hq
      refine List.pairwise_cons.2 ⟨fun p hp => ?_, putL_srt h2⟩
      rcases putL_mem hp with rfl | hp
      · exact hq
      · exact h1 p hp
    · rename_i hq
      split
      · rename_i hk
        refine List.pairwise_cons.2 ⟨fun p hp => ?_, h⟩
        rcases List.mem_cons.1 hp with rfl | hp
        · exact hk
        · exact klt_trans hk (h1 p hp)
      · refine List.pairwise_cons.2 ⟨fun p hp => klt_of_le hq (h1 p hp), h2⟩
theorem delL_srt {k : ByteArray} : ∀ {ps : List KV}, Srt ps → Srt (delL k ps)
  | [], _ => List.Pairwise.nil
  | q :: ps, h => by
    obtain ⟨h1, h2⟩ := List.pairwise_cons.1 h
    rw [delL]
    split
    · exact List.pairwise_cons.2 ⟨fun p hp => h1 p (delL_mem hp), delL_srt h2⟩
    · split
      · exact h
      · exact h2
theorem put_right {k v : ByteArray} : ∀ {m r : List KV}, (∀ p ∈ r, klt k p.1) → putL k v (m ++ r) = putL k v m ++ r
  | [], [], _ => rfl
  | [], q :: r, h => by
    have hq := h q List.mem_cons_self
    show putL k v (q :: r) = [(k, v)] ++ q :: r
    rw [putL, if_neg (klt_asymm hq), if_pos hq]
    rfl
  | p :: m, r, h => by
    rw [List.cons_append, putL, putL, put_right h]
    split
    · rfl
    · split <;> rfl
theorem put_left {k v : ByteArray} : ∀ {l m : List KV}, (∀ p ∈ l, klt p.1 k) → putL k v (l ++ m) = l ++ putL k v m
  | [], _, _ => rfl
  | p :: l, m, h => by rw [List.cons_append, putL, if_pos (h p List.mem_cons_self), put_left (fun q hq => h q (List.mem_cons_of_mem _ hq))]; rfl
theorem del_right {k : ByteArray} : ∀ {m r : List KV}, (∀ p ∈ r, klt k p.1) → delL k (m ++ r) = delL k m ++ r
  | [], [], _ => rfl
  | [], q :: r, h => by
    have hq := h q List.mem_cons_self
    show delL k (q :: r) = q :: r
    rw [delL, if_neg (klt_asymm hq), if_pos hq]
  | p :: m, r, h => by
    rw [List.cons_append, delL, delL, del_right h]
    split
    · rfl
    · split <;> rfl
theorem del_left {k : ByteArray} : ∀ {l m : List KV}, (∀ p ∈ l, klt p.1 k) → delL k (l ++ m) = l ++ delL k m
  | [], _, _ => rfl
  | p :: l, m, h => by rw [List.cons_append, delL, if_pos (h p List.mem_cons_self), del_left (fun q hq => h q (List.mem_cons_of_mem _ hq))]; rfl
theorem get_right {k : ByteArray} : ∀ {m r : List KV}, (∀ p ∈ r, klt k p.1) → getL k (m ++ r) = getL k m
  | [], [], _ => rfl
  | [], q :: r, h => by
    have hq := h q List.mem_cons_self
    show getL k (q :: r) = none
    rw [getL, if_neg (klt_asymm hq), if_pos hq]
  | p :: m, r, h => by rw [List.cons_append, getL, getL, get_right h]
theorem get_left {k : ByteArray} : ∀ {l m : List KV}, (∀ p ∈ l, klt p.1 k) → getL k (l ++ m) = getL k m
  | [], _, _ => rfl
  | p :: l, m, h => by rw [List.cons_append, getL, if_pos (h p List.mem_cons_self), get_left (fun q hq => h q (List.mem_cons_of_mem _ hq))]
theorem putL_len (k v : ByteArray) : ∀ ps : List KV, (putL k v ps).length = if (getL k ps).isSome then ps.length else ps.length + 1
  | [] => rfl
  | p :: ps => by
    rw [putL, getL]
    split
    · rw [List.length_cons, List.length_cons, putL_len k v ps]; split <;> rfl
    · split
      · rfl
      · rfl
theorem delL_len (k : ByteArray) : ∀ ps : List KV, (delL k ps).length = if (getL k ps).isSome then ps.length - 1 else ps.length
  | [] => rfl
  | p :: ps => by
    rw [delL, getL]
    split
    · rw [List.length_cons, List.length_cons, delL_len k ps]
      split
      · rename_i h
        cases ps with
        | nil => simp [getL] at h
        | cons => simp
      · rfl
    · split
      · rfl
      · simp
theorem edit_put (k v : ByteArray) : Edit k (putL k v) := by
  refine ⟨fun l m r hl hr => ?_, fun lo hi ps hk hs hb => ⟨putL_srt hs, fun p hp => ?_⟩, fun ps => ?_⟩
  · rw [List.append_assoc, put_left hl, put_right hr, List.append_assoc]
  · rcases putL_mem hp with rfl | hp
    · exact hk
    · exact hb p hp
  · rw [putL_len]; split <;> omega
theorem edit_del (k : ByteArray) : Edit k (delL k) := by
  refine ⟨fun l m r hl hr => ?_, fun lo hi ps _ hs hb => ⟨delL_srt hs, fun p hp => hb p (delL_mem hp)⟩, fun ps => ?_⟩
  · rw [List.append_assoc, del_left hl, del_right hr, List.append_assoc]
  · rw [delL_len]; split <;> omega

/-- In the words of the code. -/
theorem put_code {k : ByteArray} (v : ByteArray) : ∀ (ps : List KV), putL k v ps = ps.take (lbS (keysP ps) k) ++ [(k, v)] ++ (if fdS (keysP ps) k then ps.drop (lbS (keysP ps) k + 1) else ps.drop (lbS (keysP ps) k))
  | [] => by simp [putL, keysP, lbS, fdS]
  | p :: ps => by
    have ih := put_code (k := k) v ps
    have ek : keysP (p :: ps) = p.1 :: keysP ps := rfl
    rw [putL, ek]
    by_cases hb : klt p.1 k
    · have e1 : lbS (p.1 :: keysP ps) k = lbS (keysP ps) k + 1 := by rw [lbS, if_pos hb]
      have e2 : fdS (p.1 :: keysP ps) k = fdS (keysP ps) k := by rw [fdS, fdS, e1]; simp
      rw [if_pos hb, e1, e2, ih]
      simp
    · have e1 : lbS (p.1 :: keysP ps) k = 0 := by rw [lbS, if_neg hb]
      rw [if_neg hb, fdS, e1]
      simp only [List.getElem?_cons_zero, Option.some.injEq, List.take_zero, List.nil_append, List.drop_zero, Nat.zero_add, List.drop_succ_cons]
      by_cases hk : klt k p.1
      · rw [if_pos hk, if_neg (by simp; intro e; rw [e] at hk; exact klt_irrefl _ hk)]; rfl
      · have hbk : p.1 = k := by
          rcases klt_tri p.1 k with h | h | h
          · exact absurd h hb
          · exact h
          · exact absurd h hk
        rw [if_neg hk, if_pos (by simp [hbk])]; rfl
theorem get_code {k : ByteArray} : ∀ (ps : List KV), getL k ps = if fdS (keysP ps) k then (ps[lbS (keysP ps) k]?).map (·.2) else none
  | [] => by simp [getL, keysP, fdS, lbS]
  | p :: ps => by
    have ih := get_code (k := k) ps
    have ek : keysP (p :: ps) = p.1 :: keysP ps := rfl
    rw [getL, ek]
    by_cases hb : klt p.1 k
    · have e1 : lbS (p.1 :: keysP ps) k = lbS (keysP ps) k + 1 := by rw [lbS, if_pos hb]
      have e2 : fdS (p.1 :: keysP ps) k = fdS (keysP ps) k := by rw [fdS, fdS, e1]; simp
      rw [if_pos hb, e1, e2, ih]
      simp
    · have e1 : lbS (p.1 :: keysP ps) k = 0 := by rw [lbS, if_neg hb]
      rw [if_neg hb, fdS, e1]
      simp only [List.getElem?_cons_zero, Option.some.injEq, Option.map_some]
      by_cases hk : klt k p.1
      · rw [if_pos hk, if_neg (by simp; intro e; rw [e] at hk; exact klt_irrefl _ hk)]
      · have hbk : p.1 = k := by
          rcases klt_tri p.1 k with h | h | h
          · exact absurd h hb
          · exact h
          · exact absurd h hk
        rw [if_neg hk, if_pos (by simp [hbk])]
theorem del_code {k : ByteArray} : ∀ (ps : List KV), fdS (keysP ps) k = true → delL k ps = ps.take (lbS (keysP ps) k) ++ ps.drop (lbS (keysP ps) k + 1)
  | [], h => by simp [keysP, fdS, lbS] at h
  | p :: ps, h => by
    have ek : keysP (p :: ps) = p.1 :: keysP ps := rfl
    rw [ek] at h
    rw [delL, ek]
    by_cases hb : klt p.1 k
    · have e1 : lbS (p.1 :: keysP ps) k = lbS (keysP ps) k + 1 := by rw [lbS, if_pos hb]
      have e2 : fdS (p.1 :: keysP ps) k = fdS (keysP ps) k := by rw [fdS, fdS, e1]; simp
      rw [e2] at h
      rw [if_pos hb, e1, del_code ps h]
      simp
    · have e1 : lbS (p.1 :: keysP ps) k = 0 := by rw [lbS, if_neg hb]
      rw [fdS, e1] at h
      simp only [List.getElem?_cons_zero, Option.some.injEq, decide_eq_true_eq] at h
      rw [if_neg hb, if_neg (by rw [h]; exact klt_irrefl _), e1]
      simp

/-- The leaf where a key belongs. -/
def leafL (k : ByteArray) : Nat → T → List KV
  | 0, .leaf ps => ps
  | h + 1, .inner bs cs => leafL k h (cs.getD (pl bs k) default)
  | _, _ => []
theorem leaf_get {k : ByteArray} : ∀ {h : Nat} {lo hi : Option ByteArray} {t : T}, Val h lo hi t → InB lo hi k → Srt (leafL k h t) ∧ getL k (toL h t) = getL k (leafL k h t)
  | 0, _, _, .leaf _, hv, _ => ⟨hv.2.1, rfl⟩
  | h + 1, _, _, .inner bs cs, hv, hk => by
    obtain ⟨c, m1, m2, p1, p2, p3, p4, p5⟩ := hv.1.place k hk
    obtain ⟨hil, p1'⟩ := List.getElem?_eq_some_iff.1 p1
    have ih := leaf_get p3 p4
    rw [leafL, getD_of hil, p1']
    refine ⟨ih.1, ?_⟩
    rw [← ih.2]
    show getL k (cs.flatMap (toL h)) = _
    rw [flat_parts (h := h) (cs := cs) (i := pl bs k) (j := pl bs k + 1) (by omega), show pl bs k + 1 - pl bs k = 1 from by omega, drop_take1 hil, p1', get_right, get_left]
    · simp
    · intro q hq
      cases hm : m1 with
      | none => subst hm; rw [pre_none p2] at hq; simp at hq
      | some b => exact klt_of_lt_le (p2.list q hq b hm) (p4.1 b hm)
    · intro q hq
      cases hm : m2 with
      | none => subst hm; rw [suf_none p5] at hq; simp at hq
      | some b => exact klt_of_lt_le (p4.2 b hm) (p5.list q hq b hm)
  | 0, _, _, .inner _ _, hv, _ => hv.elim
  | _ + 1, _, _, .leaf _, hv, _ => hv.elim
end Go.Proofs.Ytpophalhmjchkaa

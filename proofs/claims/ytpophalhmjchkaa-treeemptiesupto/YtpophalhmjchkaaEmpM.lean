/-
  The keys of a list that is put into and taken from, in whatever order.
-/
import Derived.Test.YtpophalhmjchkaaLawShape
namespace Go.Proofs.Ytpophalhmjchkaa

theorem klt_eq {a b : ByteArray} (h1 : ¬ klt a b) (h2 : ¬ klt b a) : a = b := by
  rcases klt_tri a b with h | h | h
  · exact (h1 h).elim
  · exact h
  · exact (h2 h).elim
theorem keys_put (x y : ByteArray) : ∀ L : List KV, (keysP (putL x y L)).Perm (if (getL x L).isSome then keysP L else x :: keysP L)
  | [] => by simp [putL, getL, keysP]
  | p :: ps => by
    rw [putL, getL]
    by_cases h1 : klt p.1 x
    · rw [if_pos h1, if_pos h1]
      have ih := (keys_put x y ps).cons p.1
      show (p.1 :: keysP (putL x y ps)).Perm _
      refine ih.trans ?_
      split
      · exact List.Perm.refl _
      · exact List.Perm.swap _ _ _
    · rw [if_neg h1, if_neg h1]
      by_cases h2 : klt x p.1
      · rw [if_pos h2, if_pos h2]
        exact List.Perm.refl _
      · rw [if_neg h2, if_neg h2]
        have e : x = p.1 := klt_eq h2 h1
        rw [e]
        exact List.Perm.refl _
theorem keys_del (x : ByteArray) : ∀ L : List KV, (getL x L).isSome = true → (keysP L).Perm (x :: keysP (delL x L))
  | [], h => by simp [getL] at h
  | p :: ps, h => by
    rw [getL] at h
    rw [delL]
    by_cases h1 : klt p.1 x
    · rw [if_pos h1] at h ⊢
      exact ((keys_del x ps h).cons p.1).trans (List.Perm.swap _ _ _)
    · rw [if_neg h1] at h ⊢
      by_cases h2 : klt x p.1
      · rw [if_pos h2] at h; simp at h
      · rw [if_neg h2]
        have e : x = p.1 := klt_eq h2 h1
        rw [e]
        exact List.Perm.refl _
theorem key_found {x : ByteArray} : ∀ {L : List KV}, Srt L → x ∈ keysP L → (getL x L).isSome = true
  | [], _, h => by simp [keysP] at h
  | p :: ps, hs, h => by
    obtain ⟨h1, h2⟩ := List.pairwise_cons.1 hs
    rw [getL]
    rcases List.mem_cons.1 (show x ∈ p.1 :: keysP ps from h) with rfl | h
    · rw [if_neg (klt_irrefl _), if_neg (klt_irrefl _)]; rfl
    · obtain ⟨q, hq, rfl⟩ := List.mem_map.1 h
      rw [if_pos (h1 q hq)]
      exact key_found h2 h
/-- A key is put: the list of keys gets it where it is new. -/
theorem keysK_put {x y : ByteArray} {K : List ByteArray} {L : List KV} (h : K.Perm (keysP L)) : (if (getL x L).isSome then K else K ++ [x]).Perm (keysP (putL x y L)) := by
  refine List.Perm.trans ?_ (keys_put x y L).symm
  split
  · exact h
  · exact (List.perm_append_singleton x K).trans (h.cons x)
/-- The key at i is taken. -/
theorem keysK_del {K : List ByteArray} {L : List KV} (h : K.Perm (keysP L)) (hs : Srt L) {i : Nat} (hi : i < K.length) : (getL K[i] L).isSome = true ∧ (K.take i ++ K.drop (i + 1)).Perm (keysP (delL K[i] L)) := by
  have hm : K[i] ∈ keysP L := h.mem_iff.1 (List.getElem_mem hi)
  have hg := key_found hs hm
  refine ⟨hg, ?_⟩
  have h1 : K.Perm (K[i] :: (K.take i ++ K.drop (i + 1))) := by
    conv => lhs; rw [← List.take_append_drop i K, List.drop_eq_getElem_cons hi]
    exact List.perm_middle
  exact (h1.symm.trans (h.trans (keys_del _ L hg))).cons_inv
theorem keysK_len {K : List ByteArray} {L : List KV} (h : K.Perm (keysP L)) : K.length = L.length := by rw [h.length_eq]; simp [keysP]
end Go.Proofs.Ytpophalhmjchkaa

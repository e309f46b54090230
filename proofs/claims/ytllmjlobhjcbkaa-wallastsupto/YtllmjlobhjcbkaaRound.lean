/-
  What Pack wrote, Unpack reads: as lists. A frame that was laid is found again.
-/
import Derived.Test.YtllmjlobhjcbkaaAppend
import Derived.Test.YtllmjlobhjcbkaaSnapM
namespace Go.Proofs.Ytllmjlobhjcbkaa

theorem pack_cons (s : ByteArray) (M : List ByteArray) : packL (s :: M) = be s.size 4 ++ (s.data.toList ++ packL M) := by
  show packOne s ++ packL M = _
  rw [packOne, List.append_assoc]
theorem unp_pack : ∀ L : List ByteArray, (∀ s ∈ L, s.size < 4294967296) → unp ((packL L).length + 1) (packL L) = some L
  | [], _ => unp_nil rfl
  | s :: M, h => by
    have hs := h s (by simp)
    have ih := unp_pack M fun x hx => h x (by simp [hx])
    have hv : vl (packL (s :: M)) 4 = s.size := by rw [pack_cons]; exact vl_be _ _ hs
    have hl : (packL (s :: M)).length = 4 + s.size + (packL M).length := by rw [packL_length, packL_length, tot]
    have hd4 : (packL (s :: M)).drop 4 = s.data.toList ++ packL M := by
      rw [pack_cons]
      exact List.drop_left' (be_length _ 4)
    have hsz : s.data.toList.length = s.size := by simp
    have hd : (packL (s :: M)).drop (4 + vl (packL (s :: M)) 4) = packL M := by
      rw [hv, ← List.drop_drop, hd4]
      exact List.drop_left' hsz
    have hp : piece (packL (s :: M)) = s := by
      rw [piece, hv, hd4, List.take_left' hsz]
    rw [unp_step (by omega) (by omega), hd, hp, ih]
    rfl
theorem tot_mem {L : List ByteArray} {s : ByteArray} (h : s ∈ L) : s.size ≤ tot L := by
  induction L with
  | nil => simp at h
  | cons a r ih =>
    simp only [List.mem_cons] at h
    rw [tot]
    rcases h with rfl | h
    · omega
    · have := ih h
      omega

theorem frameB_take24 (g : G) (L : List ByteArray) : (frameB g L).take 24 = be (leadN g L) 8 ++ stampL g := by
  rw [frameB, bodyL, ← List.append_assoc]
  exact List.take_left' (by rw [List.length_append, be_length, stampL_length])
theorem padB_take (g : G) (L : List ByteArray) {k : Nat} (h : k ≤ 24 + tot L) : (padB g L).take k = (frameB g L).take k := by
  rw [padB, List.take_append_of_le_length (by rw [frameB_length]; exact h)]
theorem leadN_lt (g : G) (L : List ByteArray) (h : tot L < 4294967296) : leadN g L < 18446744073709551616 := by
  have := crcN_lt (bodyL g L)
  unfold leadN
  omega
theorem fr_laid {S : List ByteArray} {g : G} {L : List ByteArray} (h : Laid S g.at' (padB g L) (needN L)) (hfit : needN L ≤ g.fin - g.at') (hn : needN L ≤ 4096) : fr S g = some L := by
  have hge := need_ge L
  have hpos := need_pos L
  have htot : tot L < 4294967296 := by omega
  have hcrc := crcN_lt (bodyL g L)
  have hhead : frHead S g = be (leadN g L) 8 ++ stampL g := by
    rw [frHead, show sect 24 = 1 from rfl, secs_laid h 1 hpos, List.take_take, Nat.min_eq_left (by omega), padB_take g L (by omega), frameB_take24]
  have hlead : frLead S g = leadN g L := by
    rw [frLead, hhead, List.take_left' (be_length _ 8)]
    have := vl_be8 (leadN g L) [] (leadN_lt g L htot)
    rwa [List.append_nil] at this
  have hlen : frLen S g = tot L := by rw [frLen, hlead, leadN]; omega
  have hall : frAll S g = frameB g L := by
    rw [frAll, hlen, show sect (24 + tot L) = needN L from rfl, secs_laid h _ (Nat.le_refl _), List.take_take, Nat.min_eq_left (by omega), padB_take g L (Nat.le_refl _)]
    exact List.take_of_length_le (by rw [frameB_length]; exact Nat.le_refl _)
  have hd8 : (frameB g L).drop 8 = bodyL g L := by rw [frameB]; exact List.drop_left' (be_length _ 8)
  have hd24 : (frameB g L).drop 24 = packL L := by
    rw [frameB, bodyL, ← List.append_assoc]
    exact List.drop_left' (by rw [List.length_append, be_length, stampL_length])
  rw [fr_unp (by omega) (by rw [hhead]; exact List.drop_left' (be_length _ 8)) (by rw [hlen]; omega) (by rw [hall, hd8, hlead, leadN]; omega), hall, hd24]
  exact unp_pack L fun s hs => by have := tot_mem hs; omega

/-- A frame is told by its own sectors alone. -/
theorem fr_local {S S' : List ByteArray} {g : G} {L : List ByteArray} (hS : ∀ x ∈ S, x.size = 256) (hf : g.fin ≤ S.length) (h : fr S g = some L) (he : ∀ j, j < needN L → S'[g.at' + j]? = S[g.at' + j]?) : fr S' g = some L := by
  have h' := h
  rw [fr] at h
  split at h
  · simp at h
  · split at h
    · simp at h
    · split at h
      · simp at h
      · split at h
        · simp at h
        · rename_i h1 h2 h3 h4
          have ht := unp_tot _ _ _ h
          have hsz : sect (24 + frLen S g) ≤ g.fin - g.at' := by unfold sect; omega
          have hl : (frAll S g).length = 24 + frLen S g := by
            rw [frAll, List.length_take, secs_length hS (by omega)]
            have := sect_le (24 + frLen S g)
            omega
          rw [List.length_drop, hl] at ht
          have hnn : sect (24 + frLen S g) = needN L := by rw [needN, ht, show 24 + (24 + frLen S g - 24) = 24 + frLen S g from by omega]
          have e1 : frHead S' g = frHead S g := by
            rw [frHead, frHead, secs_same fun j hj => he j (by have := need_pos L; rw [show sect 24 = 1 from rfl] at hj; omega)]
          have e2 : frLead S' g = frLead S g := by rw [frLead, frLead, e1]
          have e3 : frLen S' g = frLen S g := by rw [frLen, frLen, e2]
          have e4 : frAll S' g = frAll S g := by rw [frAll, frAll, e3, secs_same fun j hj => he j (by omega)]
          rw [← h', fr, fr, e1, e2, e3, e4]
theorem frHead_zero {S : List ByteArray} {g : G} (h : S[g.at']? = some zsec) : frHead S g = List.replicate 24 0 := by
  obtain ⟨hlt, he⟩ := List.getElem?_eq_some_iff.1 h
  rw [frHead, show sect 24 = 0 + 1 from rfl, secs_succ hlt]
  simp only [Nat.add_zero, he]
  rw [show secs S g.at' 0 = [] from by simp [secs], List.nil_append, zsec]
  show (List.replicate 256 (0 : UInt8)).take 24 = _
  rw [List.take_replicate]
  rfl
theorem be_zero_head {n : Nat} (hn : n < 4294967296) (h : be n 8 = List.replicate 8 0) : n = 0 := by
  have := vl_be8 n [] (by omega)
  rw [List.append_nil, h] at this
  rw [← this]
  rfl
/-- Noughts are no frame but the first of a log whose epoch is nought. -/
theorem fr_zero {S : List ByteArray} {g : G} (h : S[g.at']? = some zsec) (hnx : g.nx < 4294967296) (h0 : g.nx ≠ 0) : fr S g = none := by
  refine fr_none2 ?_
  rw [frHead_zero h, stampL]
  intro e
  have := congrArg (List.drop 8) e
  rw [List.drop_left' (be_length _ 8)] at this
  exact h0 (be_zero_head hnx this.symm)
end Go.Proofs.Ytllmjlobhjcbkaa

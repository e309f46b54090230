/-
  What Pack wrote, Unpack reads: as lists. A frame that was laid is found again.
-/
import Derived.Test.YtecljiefljgfmaaRun21
import Derived.Test.YtecljiefljgfmaaRun13
import Derived.Test.YtecljiefljgfmaaRun04
import Derived.Deep.QuietTactic
import Derived.BigQuiet
namespace Go.Proofs.Ytecljiefljgfmaa

theorem pack_cons (s : ByteArray) (M : List ByteArray) : packL (s :: M) = be s.size 4 ++ (s.data.toList ++ packL M) := by
  show packOne s ++ packL M = _
  rw [packOne, List.append_assoc]
theorem unp_pack : ∀ L : List ByteArray, (∀ s ∈ L, s.size < 4294967296) → unp ((packL L).length + 1) (packL L) = some L
  | [], _ => unp_nil rfl
  | s :: M, h => by
    have hs := h s (by simp)
    have ih := unp_pack M fun x hx => h x (by simp [hx])
    have hv : vl (packL (s :: M)) 4 = s.size := by rw [pack_cons]; exact vl_be _ _ hs
    have hl : (packL (s :: M)).length = 4 + s.size + (packL M).length := by rw [packL_length, packL_length, tot]
    have hd4 : (packL (s :: M)).drop 4 = s.data.toList ++ packL M := by
      rw [pack_cons]
      exact List.drop_left' (be_length _ 4)
    have hsz : s.data.toList.length = s.size := by simp
    have hd : (packL (s :: M)).drop (4 + vl (packL (s :: M)) 4) = packL M := by
      rw [hv, ← List.drop_drop, hd4]
      exact List.drop_left' hsz
    have hp : piece (packL (s :: M)) = s := by
      rw [piece, hv, hd4, List.take_left' hsz]
    rw [unp_step (by omega) (by omega), hd, hp, ih]
    rfl
theorem tot_mem {L : List ByteArray} {s : ByteArray} (h : s ∈ L) : s.size ≤ tot L := by
  induction L with
  | nil => simp at h
  | cons a r ih =>
    simp only [List.mem_cons] at h
    rw [tot]
    rcases h with rfl | h
    · omega
    · have := ih h
      omega

theorem frameB_take24 (g : G) (L : List ByteArray) : (frameB g L).take 24 = be (leadN g L) 8 ++ stampL g := by
  rw [frameB, bodyL, ← List.append_assoc]
  exact List.take_left' (by rw [List.length_append, be_length, stampL_length])
theorem padB_take (g : G) (L : List ByteArray) {k : Nat} (h : k ≤ 24 + tot L) : (padB g L).take k = (frameB g L).take k := by
  rw [padB, List.take_append_of_le_length (by rw [frameB_length]; exact h)]
theorem leadN_lt (g : G) (L : List ByteArray) (h : tot L < 4294967296) : leadN g L < 18446744073709551616 := by
  have := crcN_lt (bodyL g L)
  unfold leadN
  omega
theorem fr_laid {S : List ByteArray} {g : G} {L : List ByteArray} (h : Laid S g.at' (padB g L) (needN L)) (hfit : needN L ≤ g.fin - g.at') (hn : needN L ≤ 4096) : fr S g = some L := by
  have hge := need_ge L
  have hpos := need_pos L
  have htot : tot L < 4294967296 := by omega
  have hcrc := crcN_lt (bodyL g L)
  have hhead : frHead S g = be (leadN g L) 8 ++ stampL g := by
    rw [frHead, show sect 24 = 1 from rfl, secs_laid h 1 hpos, List.take_take, Nat.min_eq_left (by omega), padB_take g L (by omega), frameB_take24]
  have hlead : frLead S g = leadN g L := by
    rw [frLead, hhead, List.take_left' (be_length _ 8)]
    have := vl_be8 (leadN g L) [] (leadN_lt g L htot)
    rwa [List.append_nil] at this
  have hlen : frLen S g = tot L := by rw [frLen, hlead, leadN]; omega
  have hall : frAll S g = frameB g L := by
    rw [frAll, hlen, show sect (24 + tot L) = needN L from rfl, secs_laid h _ (Nat.le_refl _), List.take_take, Nat.min_eq_left (by omega), padB_take g L (Nat.le_refl _)]
    exact List.take_of_length_le (by rw [frameB_length]; exact Nat.le_refl _)
  have hd8 : (frameB g L).drop 8 = bodyL g L := by rw [frameB]; exact List.drop_left' (be_length _ 8)
  have hd24 : (frameB g L).drop 24 = packL L := by
    rw [frameB, bodyL, ← List.append_assoc]
    exact List.drop_left' (by rw [List.length_append, be_length, stampL_length])
  rw [fr_unp (by omega) (by rw [hhead]; exact List.drop_left' (be_length _ 8)) (by rw [hlen]; omega) (by rw [hall, hd8, hlead, leadN]; omega), hall, hd24]
  exact unp_pack L fun s hs => by have := tot_mem hs; omega

/-- A frame is told by its own sectors alone. -/
theorem fr_local {S S' : List ByteArray} {g : G} {L : List ByteArray} (hS : ∀ x ∈ S, x.size = 256) (hf : g.fin ≤ S.length) (h : fr S g = some L) (he : ∀ j, j < needN L → S'[g.at' + j]? = S[g.at' + j]?) : fr S' g = some L := by
  have h' := h
  rw [fr] at h
  split at h
  · simp at h
  · split at h
    · simp at h
    · split at h
      · simp at h
      · split at h
        · simp at h
        · rename_i h1 h2 h3 h4
          have ht := unp_tot _ _ _ h
          have hsz : sect (24 + frLen S g) ≤ g.fin - g.at' := by unfold sect; omega
          have hl : (frAll S g).length = 24 + frLen S g := by
            rw [frAll, List.length_take, secs_length hS (by omega)]
            have := sect_le (24 + frLen S g)
            omega
          rw [List.length_drop, hl] at ht
          have hnn : sect (24 + frLen S g) = needN L := by rw [needN, ht, show 24 + (24 + frLen S g - 24) = 24 + frLen S g from by omega]
          have e1 : frHead S' g = frHead S g := by
            rw [frHead, frHead, secs_same fun j hj => he j (by have := need_pos L; rw [show sect 24 = 1 from rfl] at hj; omega)]
          have e2 : frLead S' g = frLead S g := by rw [frLead, frLead, e1]
          have e3 : frLen S' g = frLen S g := by rw [frLen, frLen, e2]
          have e4 : frAll S' g = frAll S g := by rw [frAll, frAll, e3, secs_same fun j hj => he j (by omega)]
          rw [← h', fr, fr, e1, e2, e3, e4]
theorem frHead_zero {S : List ByteArray} {g : G} (h : S[g.at']? = some zsec) : frHead S g = List.replicate 24 0 := by
  obtain ⟨hlt, he⟩ := List.getElem?_eq_some_iff.1 h
  rw [frHead, show sect 24 = 0 + 1 from rfl, secs_succ hlt]
  simp only [Nat.add_zero, he]
  rw [show secs S g.at' 0 = [] from by simp [secs], List.nil_append, zsec]
  show (List.replicate 256 (0 : UInt8)).take 24 = _
  rw [List.take_replicate]
  rfl
theorem be_zero_head {n : Nat} (hn : n < 4294967296) (h : be n 8 = List.replicate 8 0) : n = 0 := by
  have := vl_be8 n [] (by omega)
  rw [List.append_nil, h] at this
  rw [← this]
  rfl
/-- Noughts are no frame but the first of a log whose epoch is nought. -/
theorem fr_zero {S : List ByteArray} {g : G} (h : S[g.at']? = some zsec) (hnx : g.nx < 4294967296) (h0 : g.nx ≠ 0) : fr S g = none := by
  refine fr_none2 ?_
  rw [frHead_zero h, stampL]
  intro e
  have := congrArg (List.drop 8) e
  rw [List.drop_left' (be_length _ 8)] at this
  exact h0 (be_zero_head hnx this.symm)
end Go.Proofs.Ytecljiefljgfmaa
/-
  A log on a device that lives: what Append lays, Open finds.
-/
namespace Go.Proofs.Ytecljiefljgfmaa

def laid (S : List ByteArray) (p : Nat) (P : List UInt8) (n : Nat) (more : Bool) : List ByteArray := puts (puts S (p + 1) (behind P n more)) p [fsecB P 0]
theorem behind_length {P : List UInt8} {n : Nat} (more : Bool) : (behind P n more).length = n - 1 + (if more then 1 else 0) := by
  rw [behind, List.length_append, List.length_drop, fsecs_length]
  cases more <;> rfl
theorem behind_size {P : List UInt8} {n : Nat} (hP : P.length = 256 * n) (more : Bool) : ∀ x ∈ behind P n more, x.size = 256 := by
  intro x hx
  rcases List.mem_append.1 hx with hx | hx
  · obtain ⟨j, hj, rfl⟩ := List.mem_map.1 (List.mem_of_mem_drop hx)
    exact fsecB_size hP (List.mem_range.1 hj)
  · cases more
    · simp at hx
    · simp at hx; subst hx; exact zsec_size
theorem laid_get {S : List ByteArray} {p n : Nat} {P : List UInt8} {more : Bool} (h1 : 1 ≤ n) (hS : p + n + (if more then 1 else 0) ≤ S.length) (i : Nat) :
    (laid S p P n more)[i]? = if p ≤ i ∧ i < p + n then some (fsecB P (i - p)) else if more = true ∧ i = p + n then some zsec else S[i]? := by
  have hbl := behind_length (P := P) (n := n) more
  rw [laid, puts_get _ _ _ _ (by rw [puts_length]; simp; split at hS <;> omega), puts_get _ _ _ _ (by rw [hbl]; split at hS <;> simp_all <;> omega)]
  by_cases hi : i = p
  · subst hi
    rw [if_pos (by simp), if_pos (by omega), Nat.sub_self]; rfl
  · rw [if_neg (by simp; omega), hbl]
    by_cases h2 : p ≤ i ∧ i < p + n
    · rw [if_pos h2, if_pos (by split <;> omega), behind, List.getElem?_append_left (by rw [List.length_drop, fsecs_length]; omega), List.getElem?_drop, fsecs, List.getElem?_map, List.getElem?_range (by omega), show 1 + (i - (p + 1)) = i - p from by omega]
      rfl
    · rw [if_neg h2]
      by_cases h3 : more = true ∧ i = p + n
      · obtain ⟨rfl, rfl⟩ := h3
        rw [if_pos (by simp; omega), if_pos (by simp), behind, List.getElem?_append_right (by rw [List.length_drop, fsecs_length]; omega), List.length_drop, fsecs_length, show p + n - (p + 1) - (n - 1) = 0 from by omega]
        rfl
      · rw [if_neg h3, if_neg]
        cases more
        · simp; omega
        · simp at h3 ⊢; omega
theorem layF_live {M : D} {g : G} {P : List UInt8} {n : Nat} (hM : Calm M) (h1 : 1 ≤ n) (hP : P.length = 256 * n) (hfit : n ≤ g.fin - g.at') (hfin : g.fin ≤ M.S.length) :
    layF M g P n = (0, { M with S := laid M.S g.at' P n (decide (n < g.fin - g.at')), L := laid M.S g.at' P n (decide (n < g.fin - g.at')) }) := by
  have hbl := behind_length (P := P) (n := n) (decide (n < g.fin - g.at'))
  have hw := wrsF_live (xs := behind P n (decide (n < g.fin - g.at'))) (M := M) (p := g.at' + 1) hM.st (by
    rw [hbl]
    split
    · rename_i q; have := of_decide_eq_true q; omega
    · omega) (behind_size hP _)
  rw [layF, hw, if_neg (by simp)]
  rw [wrsF_live (by exact hM.st) (by simp only [puts_length, List.length_cons, List.length_nil]; omega) (by intro x hx; simp at hx; subst hx; exact fsecB_size hP h1)]
  rw [hM.c, hM.l]
  simp only [List.nil_append, app_cws]
  rw [laid]
theorem laid_calm {M : D} {g : G} {P : List UInt8} {n : Nat} (hM : Calm M) (h1 : 1 ≤ n) (hP : P.length = 256 * n) (more : Bool) : Calm { M with S := laid M.S g.at' P n more, L := laid M.S g.at' P n more } := by
  refine ⟨hM.st, hM.c, rfl, ?_⟩
  refine puts_size _ _ _ (puts_size _ _ _ hM.sz (behind_size hP more)) ?_
  intro x hx
  simp at hx
  subst hx
  exact fsecB_size hP h1

/-- Frames one behind the other. -/
def Chain (S : List ByteArray) : List (List ByteArray) → G → G → Prop
  | [], g, h => h = g
  | L :: r, g, h => fr S g = some L ∧ Chain S r (g.pass L) h
theorem Chain.snoc {S : List ByteArray} {L : List ByteArray} : ∀ {fs : List (List ByteArray)} {g h : G}, Chain S fs g h → fr S h = some L → Chain S (fs ++ [L]) g (h.pass L)
  | [], _, _, hc, hf => by cases hc; exact ⟨hf, rfl⟩
  | _ :: _, _, _, hc, hf => ⟨hc.1, Chain.snoc hc.2 hf⟩
theorem Chain.mono {S : List ByteArray} : ∀ {fs : List (List ByteArray)} {g h : G}, Chain S fs g h → g.at' + fs.length ≤ h.at' ∧ h.fin = g.fin ∧ h.ep = g.ep ∧ h.nx = g.nx + fs.length ∧ h.fl = g.fl
  | [], _, _, hc => by cases hc; simp
  | L :: r, g, h, hc => by
    have hm := Chain.mono hc.2
    have := need_pos L
    simp only [G.pass, List.length_cons] at hm ⊢
    refine ⟨by omega, by omega, by omega, by omega, hm.2.2.2.2⟩
theorem Chain.local {S S' : List ByteArray} (hS : ∀ x ∈ S, x.size = 256) : ∀ {fs : List (List ByteArray)} {g h : G}, g.fin ≤ S.length → Chain S fs g h → (∀ i, i < h.at' → S'[i]? = S[i]?) → Chain S' fs g h
  | [], _, _, _, hc, _ => hc
  | L :: r, g, h, hf, hc, he => by
    have hm := Chain.mono hc.2
    refine ⟨fr_local hS hf hc.1 fun j hj => he _ ?_, Chain.local hS hf hc.2 he⟩
    simp only [G.pass] at hm
    omega
theorem frs_chain {S : List ByteArray} : ∀ {fs : List (List ByteArray)} {g h : G} (f : Nat), Chain S fs g h → fr S h = none → fs.length < f → frs f S g = (fs, h)
  | _, _, _, 0, _, _, hl => by omega
  | [], _, _, f + 1, hc, hn, _ => by cases hc; exact frs_none f hn
  | L :: r, g, h, f + 1, hc, hn, hl => by
    rw [frs_some f hc.1, frs_chain f hc.2 hn (by simp at hl; omega)]

/-- A log and its frames, on a device that lives. -/
structure Held (M : D) (g0 g : G) (fs : List (List ByteArray)) : Prop where
  calm : Calm M
  ch : Chain M.S fs g0 g
  no : fr M.S g = none
  ok : g.Ok
  ok0 : g0.at' ≤ g0.fin
  fin : g.fin ≤ M.S.length
  live : g.fl = false
theorem Held.opened {M : D} {g0 g : G} {fs : List (List ByteArray)} (h : Held M g0 g fs) : frs 5000 M.S g0 = (fs, g) := by
  have := h.ch.mono
  have := h.ok.le
  have := h.ok.top
  exact frs_chain 5000 h.ch h.no (by omega)
theorem apF_full {M : D} {g : G} {L : List ByteArray} (hl : g.fl = false) (h : g.fin - g.at' < needN L) : apF M g L = (60, M, g) := by rw [apF, if_neg (by simp [hl]), if_pos h]
theorem Held.append {M : D} {g0 g : G} {fs : List (List ByteArray)} (h : Held M g0 g fs) {L : List ByteArray} (hfit : needN L ≤ g.fin - g.at') (hnx : g.nx + 1 < 4294967296) :
    (apF M g L).1 = 0 ∧ (apF M g L).2.2 = g.pass L ∧ Held (apF M g L).2.1 g0 (g.pass L) (fs ++ [L]) ∧ (apF M g L).2.1.S.length = M.S.length := by
  have hp := need_pos L
  have htop := h.ok.top
  have hle := h.ok.le
  have hfin := h.fin
  obtain ⟨more, hmo⟩ : ∃ more, more = decide (needN L < g.fin - g.at') := ⟨_, rfl⟩
  have hlay := layF_live (P := padB g L) h.calm hp (padB_length g L) hfit h.fin
  rw [← hmo] at hlay
  have hap : apF M g L = (0, { M with S := laid M.S g.at' (padB g L) (needN L) more, L := laid M.S g.at' (padB g L) (needN L) more }, g.pass L) := by
    rw [apF, if_neg (by simp [h.live]), if_neg (by omega), hlay, if_neg (by simp)]
  have hlen : g.at' + needN L + (if more = true then 1 else 0) ≤ M.S.length := by
    rw [hmo]
    split
    · rename_i q; have := of_decide_eq_true q; omega
    · omega
  have hget := laid_get (P := padB g L) (more := more) hp hlen
  have hll : (laid M.S g.at' (padB g L) (needN L) more).length = M.S.length := by rw [laid, puts_length, puts_length]
  rw [hap]
  refine ⟨rfl, rfl, ?_, hll⟩
  have hfr : fr (laid M.S g.at' (padB g L) (needN L) more) g = some L := by
    refine fr_laid ?_ hfit (by omega)
    intro j hj
    rw [hget, if_pos (by omega), Nat.add_sub_cancel_left]
  have hch := (Chain.local (S' := laid M.S g.at' (padB g L) (needN L) more) h.calm.sz (by have := h.ch.mono; omega) h.ch (by
    intro i hi
    rw [hget, if_neg (by omega), if_neg (by omega)])).snoc hfr
  refine ⟨laid_calm h.calm hp (padB_length g L) more, hch, ?_, ⟨?_, h.ok.top, h.ok.ep, by simpa [G.pass] using hnx⟩, h.ok0, by simpa [G.pass, hll] using hfin, h.live⟩
  · show fr (laid M.S g.at' (padB g L) (needN L) more) (g.pass L) = none
    by_cases hm : needN L < g.fin - g.at'
    · refine fr_zero ?_ (by simpa [G.pass] using hnx) (by simp [G.pass])
      show (laid M.S g.at' (padB g L) (needN L) more)[g.at' + needN L]? = _
      rw [hget, if_neg (by omega), if_pos ⟨by rw [hmo]; exact decide_eq_true hm, rfl⟩]
    · refine fr_none1 ?_
      simp only [G.pass]
      omega
  · simp only [G.pass]
    omega
end Go.Proofs.Ytecljiefljgfmaa
/-
  The document's SameTexts by its contract.
-/
namespace Go.Proofs.Ytecljiefljgfmaa
open Go.RowKit

def lst (L : List ByteArray) : List (List UInt8) := L.map fun s => s.data.toList
def eqS (L M : List ByteArray) : Bool := lst L == lst M
theorem eqS_len {L M : List ByteArray} (h : L.length ≠ M.length) : eqS L M = false := by
  rw [eqS, beq_eq_false_iff_ne]
  intro e
  have := congrArg List.length e
  simp [lst] at this
  omega
theorem eqS_at {L M : List ByteArray} {k : Nat} (h1 : k < L.length) (h2 : k < M.length) (h : L[k].data.toList ≠ M[k].data.toList) : eqS L M = false := by
  rw [eqS, beq_eq_false_iff_ne]
  intro e
  apply h
  have e1 : (lst L)[k]? = (lst M)[k]? := by rw [e]
  simpa [lst, List.getElem?_eq_getElem h1, List.getElem?_eq_getElem h2] using e1
theorem eqS_all {L M : List ByteArray} (h : L.length = M.length) (hk : ∀ k (h1 : k < L.length) (h2 : k < M.length), L[k].data.toList = M[k].data.toList) : eqS L M = true := by
  rw [eqS, beq_iff_eq]
  apply List.ext_getElem (by simpa [lst] using h)
  intro i h1 h2
  simpa [lst] using hk i (by simpa [lst] using h1) (by simpa [lst] using h2)

set_option maxHeartbeats 800000 in
theorem sameTexts_any (a a' : Option Addr) (L M : List ByteArray) (c c' : Nat) (w : World) (_hl : L.length ≤ 140737488351232) (hm : M.length ≤ 140737488351232) (h1 : Strs w a L) (h2 : Strs w a' M) :
    Calls Try.prog 46 #[.slice a L.length c, .slice a' M.length c'] w fun e w' => e = .returned (.bool (eqS L M)) ∧ Below w.heap.size w w' := by
  by_cases hlen : L.length = M.length
  · have hz : ((L.length : Int) != (M.length : Int)) = false := by simp; omega
    have HE : Hid (L.length = M.length) := hlen
    have hle : L.length ≤ M.length := by omega
    clear hlen
    go_enter Try.func46, Try.ntmps46
    go_wp2
    go_loopw [5] (fun i wr => ∃ k : Nat, k ≤ L.length ∧ i = .int .i64 k ∧ (∀ j (x : j < L.length) (y : j < M.length), j < k → L[j].data.toList = M[j].data.toList) ∧ Below w.heap.size w wr)
      (fun i _ => L.length - (intOf i).toNat)
    case atStart => exact ⟨0, Nat.zero_le _, rfl, fun j _ _ hj => by omega, Below.refl _ _⟩
    case round =>
      obtain ⟨k, hk, rfl, hall, hnx⟩ := hrel
      have HA : Hid (∀ j (x : j < L.length) (y : j < M.length), j < k → L[j].data.toList = M[j].data.toList) := hall
      clear hall
      by_cases hlt : k < L.length
      · have hlt' : k < M.length := by omega
        obtain ⟨b, off, rfl, hbl, hcs⟩ := h1.at hlt
        obtain ⟨b', off', rfl, hbl', hcs'⟩ := h2.at hlt'
        have hcell : wr.cell? ⟨b, off + k, none⟩ = some (.string L[k]) := (hnx.cell (p := ⟨b, off + k, none⟩) hbl).trans (hcs k hlt)
        have hcell' : wr.cell? ⟨b', off' + k, none⟩ = some (.string M[k]) := (hnx.cell (p := ⟨b', off' + k, none⟩) hbl').trans (hcs' k hlt')
        have k1 : (k : Int) < (L.length : Int) := by omega
        have k2 : (k : Int) < (M.length : Int) := by omega
        clear hcs hcs'
        by_cases heq : L[k].data.toList = M[k].data.toList
        · have hq : (!L[k].toList == M[k].toList) = false := by simp [ByteArray.toList_eq, heq]
          have HQ : Hid (L[k].data.toList = M[k].data.toList) := heq
          clear heq
          go_wp2_with fail
          go_quiet (fail)
          go_wp2
          go_roundw
          case rel =>
            refine ⟨k + 1, by omega, by go_num, ?_, below_drewN hnx _⟩
            intro j x y hj
            by_cases hjk : j = k
            · subst hjk
              exact HQ.out
            · exact HA.out j x y (by omega)
          case measure => simp [intOf]; omega
        · have hq : (!L[k].toList == M[k].toList) = true := by simp only [ByteArray.toList_eq, Bool.not_eq_true', beq_eq_false_iff_ne]; exact heq
          have HQ : Hid (eqS L M = false) := eqS_at hlt hlt' heq
          clear heq
          go_wp2_with fail
          go_quiet (fail)
          go_wp2
          go_ret
          exact ⟨ret_bool HQ.out.symm, below_drewN hnx _⟩
      · have HQ : Hid (eqS L M = true) := eqS_all HE.out (fun j x y => HA.out j x y (by omega))
        go_wp2
        go_ret
        exact ⟨ret_bool HQ.out.symm, hnx⟩
  · have hz : ((L.length : Int) != (M.length : Int)) = true := by simp; omega
    have HN : Hid (eqS L M = false) := eqS_len hlen
    clear hlen
    go_enter Try.func46, Try.ntmps46
    go_wp2
    go_ret
    exact ⟨ret_bool HN.out.symm, Below.refl _ _⟩
end Go.Proofs.Ytecljiefljgfmaa
/-
  The law's comparison of two lists of frames, where they are the same.
-/
namespace Go.Proofs.Ytecljiefljgfmaa
open Go.RowKit

/-- A row of frames in memory. -/
def Rfs (w : World) (a : Option Addr) (LL : List (List ByteArray)) : Prop :=
  LL = [] ∨ ∃ b off, a = some ⟨b, off, none⟩ ∧ b < w.heap.size ∧ ∀ j (h : j < LL.length), ∃ x c, w.cell? ⟨b, off + j, none⟩ = some (.slice x LL[j].length c) ∧ Strs w x LL[j]
theorem Rfs.below {w w' : World} {a : Option Addr} {LL : List (List ByteArray)} (h : Rfs w a LL) (hb : Below w.heap.size w w') : Rfs w' a LL := by
  rcases h with rfl | ⟨b, off, rfl, hl, hc⟩
  · exact .inl rfl
  · refine .inr ⟨b, off, rfl, by have := hb.size; omega, fun j hj => ?_⟩
    obtain ⟨x, c, h1, h2⟩ := hc j hj
    exact ⟨x, c, (hb.cell (p := ⟨b, off + j, none⟩) hl).trans h1, h2.below hb (Nat.le_refl _)⟩
theorem Fms.rfs {w : World} {base : Nat} {v : Value} {LL : List (List ByteArray)} (h : Fms w base v LL) : ∃ a c, v = .slice a LL.length c ∧ Rfs w a LL := by
  obtain ⟨vs, h1, h0, h2⟩ := h
  by_cases hL : LL.length = 0
  · obtain ⟨a, c, e⟩ := owns_shape h1
    exact ⟨a, c, e, .inl (List.length_eq_zero_iff.1 hL)⟩
  · obtain ⟨g, cap, rfl, _, _, hlt⟩ := owns_head h1 (by omega)
    refine ⟨_, _, rfl, .inr ⟨g, 0, rfl, hlt, fun j hj => ?_⟩⟩
    obtain ⟨x, c, h3, h4, _⟩ := h2 j hj
    rw [Nat.zero_add]
    exact ⟨x, c, owns_cell h1 h3, h4⟩

set_option maxHeartbeats 2000000 in
set_option maxRecDepth 20000 in
theorem frames_same (a a' : Option Addr) (LL : List (List ByteArray)) (c c' : Nat) (w : World) (hl : LL.length ≤ 140737488351232) (hi : ∀ L ∈ LL, L.length ≤ 140737488351232) (h1 : Rfs w a LL) (h2 : Rfs w a' LL) :
    Calls Try.prog 14 #[.slice a LL.length c, .slice a' LL.length c'] w fun e w' => e = .returned (.bool true) ∧ Below w.heap.size w w' := by
  have H1 : Hid (Rfs w a LL) := h1
  have H2 : Hid (Rfs w a' LL) := h2
  have HI : Hid (∀ L ∈ LL, L.length ≤ 140737488351232) := hi
  clear h1 h2 hi
  go_enter Try.func14, Try.ntmps14
  go_wp2
  go_loopw [5] (fun i wr => ∃ k : Nat, k ≤ LL.length ∧ i = .int .i64 k ∧ Below w.heap.size w wr) (fun i _ => LL.length - (intOf i).toNat)
  case atStart => exact ⟨0, Nat.zero_le _, rfl, Below.refl _ _⟩
  case round =>
    obtain ⟨k, hk, rfl, hnx⟩ := hrel
    by_cases hlt : k < LL.length
    · obtain ⟨b, off, rfl, hbl, hcs⟩ := (H1.out.below hnx).resolve_left (by rintro rfl; simp at hlt)
      obtain ⟨b', off', rfl, hbl', hcs'⟩ := (H2.out.below hnx).resolve_left (by rintro rfl; simp at hlt)
      obtain ⟨x, cx, hcell, hx⟩ := hcs k hlt
      obtain ⟨y, cy, hcell', hy⟩ := hcs' k hlt
      have hlk : LL[k].length ≤ 140737488351232 := HI.out _ (List.getElem_mem hlt)
      have hst := sameTexts_any x y LL[k] LL[k] cx cy wr.drew hlk hlk hx hy
      rw [eqS_all rfl (fun _ _ _ => rfl)] at hst
      have k1 : (k : Int) < (LL.length : Int) := by omega
      have HN : Hid (Below w.heap.size w wr) := hnx
      obtain ⟨n, hn⟩ : ∃ n, n = LL[k].length := ⟨_, rfl⟩
      rw [← hn] at hcell hcell' hst
      clear hcs hcs' hx hy hnx hn hlk H1 H2
      go_wp2
      go_region_with (go_at_call 46; refine Calls.mono hst ?_; rintro e w5 ⟨rfl, hb5⟩)
      all_goals
        (go_wp2
         go_roundw
         case rel => exact ⟨k + 1, by omega, by go_num, HN.out.drew.trans (hb5.mono HN.out.size)⟩
         case measure => simp [intOf]; omega)
    · obtain rfl : k = LL.length := by omega
      go_wp2
      go_ret
      exact ⟨rfl, hnx⟩
end Go.Proofs.Ytecljiefljgfmaa

/-
  A log on a device that lives: what Append lays, Open finds.
-/
import Derived.Test.YtllmjlobhjcbkaaRound
namespace Go.Proofs.Ytllmjlobhjcbkaa

def laid (S : List ByteArray) (p : Nat) (P : List UInt8) (n : Nat) (more : Bool) : List ByteArray := puts (puts S (p + 1) (behind P n more)) p [fsecB P 0]
theorem behind_length {P : List UInt8} {n : Nat} (more : Bool) : (behind P n more).length = n - 1 + (if more then 1 else 0) := by
  rw [behind, List.length_append, List.length_drop, fsecs_length]
  cases more <;> rfl
theorem behind_size {P : List UInt8} {n : Nat} (hP : P.length = 256 * n) (more : Bool) : ∀ x ∈ behind P n more, x.size = 256 := by
  intro x hx
  rcases List.mem_append.1 hx with hx | hx
  · obtain ⟨j, hj, rfl⟩ := List.mem_map.1 (List.mem_of_mem_drop hx)
    exact fsecB_size hP (List.mem_range.1 hj)
  · cases more
    · simp at hx
    · simp at hx; subst hx; exact zsec_size
theorem laid_get {S : List ByteArray} {p n : Nat} {P : List UInt8} {more : Bool} (h1 : 1 ≤ n) (hS : p + n + (if more then 1 else 0) ≤ S.length) (i : Nat) :
    (laid S p P n more)[i]? = if p ≤ i ∧ i < p + n then some (fsecB P (i - p)) else if more = true ∧ i = p + n then some zsec else S[i]? := by
  have hbl := behind_length (P := P) (n := n) more
  rw [laid, puts_get _ _ _ _ (by rw [puts_length]; simp; split at hS <;> omega), puts_get _ _ _ _ (by rw [hbl]; split at hS <;> simp_all <;> omega)]
  by_cases hi : i = p
  · subst hi
    rw [if_pos (by simp), if_pos (by omega), Nat.sub_self]; rfl
  · rw [if_neg (by simp; omega), hbl]
    by_cases h2 : p ≤ i ∧ i < p + n
    · rw [if_pos h2, if_pos (by split <;> omega), behind, List.getElem?_append_left (by rw [List.length_drop, fsecs_length]; omega), List.getElem?_drop, fsecs, List.getElem?_map, List.getElem?_range (by omega), show 1 + (i - (p + 1)) = i - p from by omega]
      rfl
    · rw [if_neg h2]
      by_cases h3 : more = true ∧ i = p + n
      · obtain ⟨rfl, rfl⟩ := h3
        rw [if_pos (by simp; omega), if_pos (by simp), behind, List.getElem?_append_right (by rw [List.length_drop, fsecs_length]; omega), List.length_drop, fsecs_length, show p + n - (p + 1) - (n - 1) = 0 from by omega]
        rfl
      · rw [if_neg h3, if_neg]
        cases more
        · simp; omega
        · simp at h3 ⊢; omega
theorem layF_live {M : D} {g : G} {P : List UInt8} {n : Nat} (hM : Calm M) (h1 : 1 ≤ n) (hP : P.length = 256 * n) (hfit : n ≤ g.fin - g.at') (hfin : g.fin ≤ M.S.length) :
    layF M g P n = (0, { M with S := laid M.S g.at' P n (decide (n < g.fin - g.at')), L := laid M.S g.at' P n (decide (n < g.fin - g.at')) }) := by
  have hbl := behind_length (P := P) (n := n) (decide (n < g.fin - g.at'))
  have hw := wrsF_live (xs := behind P n (decide (n < g.fin - g.at'))) (M := M) (p := g.at' + 1) hM.st (by
    rw [hbl]
    split
    · rename_i q; have := of_decide_eq_true q; omega
    · omega) (behind_size hP _)
  rw [layF, hw, if_neg (by simp)]
  rw [wrsF_live (by exact hM.st) (by simp only [puts_length, List.length_cons, List.length_nil]; omega) (by intro x hx; simp at hx; subst hx; exact fsecB_size hP h1)]
  rw [hM.c, hM.l]
  simp only [List.nil_append, app_cws]
  rw [laid]
theorem laid_calm {M : D} {g : G} {P : List UInt8} {n : Nat} (hM : Calm M) (h1 : 1 ≤ n) (hP : P.length = 256 * n) (more : Bool) : Calm { M with S := laid M.S g.at' P n more, L := laid M.S g.at' P n more } := by
  refine ⟨hM.st, hM.c, rfl, ?_⟩
  refine puts_size _ _ _ (puts_size _ _ _ hM.sz (behind_size hP more)) ?_
  intro x hx
  simp at hx
  subst hx
  exact fsecB_size hP h1

/-- Frames one behind the other. -/
def Chain (S : List ByteArray) : List (List ByteArray) → G → G → Prop
  | [], g, h => h = g
  | L :: r, g, h => fr S g = some L ∧ Chain S r (g.pass L) h
theorem Chain.snoc {S : List ByteArray} {L : List ByteArray} : ∀ {fs : List (List ByteArray)} {g h : G}, Chain S fs g h → fr S h = some L → Chain S (fs ++ [L]) g (h.pass L)
  | [], _, _, hc, hf => by cases hc; exact ⟨hf, rfl⟩
  | _ :: _, _, _, hc, hf => ⟨hc.1, Chain.snoc hc.2 hf⟩
theorem Chain.mono {S : List ByteArray} : ∀ {fs : List (List ByteArray)} {g h : G}, Chain S fs g h → g.at' + fs.length ≤ h.at' ∧ h.fin = g.fin ∧ h.ep = g.ep ∧ h.nx = g.nx + fs.length ∧ h.fl = g.fl
  | [], _, _, hc => by cases hc; simp
  | L :: r, g, h, hc => by
    have hm := Chain.mono hc.2
    have := need_pos L
    simp only [G.pass, List.length_cons] at hm ⊢
    refine ⟨by omega, by omega, by omega, by omega, hm.2.2.2.2⟩
theorem Chain.local {S S' : List ByteArray} (hS : ∀ x ∈ S, x.size = 256) : ∀ {fs : List (List ByteArray)} {g h : G}, g.fin ≤ S.length → Chain S fs g h → (∀ i, i < h.at' → S'[i]? = S[i]?) → Chain S' fs g h
  | [], _, _, _, hc, _ => hc
  | L :: r, g, h, hf, hc, he => by
    have hm := Chain.mono hc.2
    refine ⟨fr_local hS hf hc.1 fun j hj => he _ ?_, Chain.local hS hf hc.2 he⟩
    simp only [G.pass] at hm
    omega
theorem frs_chain {S : List ByteArray} : ∀ {fs : List (List ByteArray)} {g h : G} (f : Nat), Chain S fs g h → fr S h = none → fs.length < f → frs f S g = (fs, h)
  | _, _, _, 0, _, _, hl => by omega
  | [], _, _, f + 1, hc, hn, _ => by cases hc; exact frs_none f hn
  | L :: r, g, h, f + 1, hc, hn, hl => by
    rw [frs_some f hc.1, frs_chain f hc.2 hn (by simp at hl; omega)]

/-- A log and its frames, on a device that lives. -/
structure Held (M : D) (g0 g : G) (fs : List (List ByteArray)) : Prop where
  calm : Calm M
  ch : Chain M.S fs g0 g
  no : fr M.S g = none
  ok : g.Ok
  ok0 : g0.at' ≤ g0.fin
  fin : g.fin ≤ M.S.length
  live : g.fl = false
theorem Held.opened {M : D} {g0 g : G} {fs : List (List ByteArray)} (h : Held M g0 g fs) : frs 5000 M.S g0 = (fs, g) := by
  have := h.ch.mono
  have := h.ok.le
  have := h.ok.top
  exact frs_chain 5000 h.ch h.no (by omega)
theorem apF_full {M : D} {g : G} {L : List ByteArray} (hl : g.fl = false) (h : g.fin - g.at' < needN L) : apF M g L = (60, M, g) := by rw [apF, if_neg (by simp [hl]), if_pos h]
theorem Held.append {M : D} {g0 g : G} {fs : List (List ByteArray)} (h : Held M g0 g fs) {L : List ByteArray} (hfit : needN L ≤ g.fin - g.at') (hnx : g.nx + 1 < 4294967296) :
    (apF M g L).1 = 0 ∧ (apF M g L).2.2 = g.pass L ∧ Held (apF M g L).2.1 g0 (g.pass L) (fs ++ [L]) ∧ (apF M g L).2.1.S.length = M.S.length := by
  have hp := need_pos L
  have htop := h.ok.top
  have hle := h.ok.le
  have hfin := h.fin
  obtain ⟨more, hmo⟩ : ∃ more, more = decide (needN L < g.fin - g.at') := ⟨_, rfl⟩
  have hlay := layF_live (P := padB g L) h.calm hp (padB_length g L) hfit h.fin
  rw [← hmo] at hlay
  have hap : apF M g L = (0, { M with S := laid M.S g.at' (padB g L) (needN L) more, L := laid M.S g.at' (padB g L) (needN L) more }, g.pass L) := by
    rw [apF, if_neg (by simp [h.live]), if_neg (by omega), hlay, if_neg (by simp)]
  have hlen : g.at' + needN L + (if more = true then 1 else 0) ≤ M.S.length := by
    rw [hmo]
    split
    · rename_i q; have := of_decide_eq_true q; omega
    · omega
  have hget := laid_get (P := padB g L) (more := more) hp hlen
  have hll : (laid M.S g.at' (padB g L) (needN L) more).length = M.S.length := by rw [laid, puts_length, puts_length]
  rw [hap]
  refine ⟨rfl, rfl, ?_, hll⟩
  have hfr : fr (laid M.S g.at' (padB g L) (needN L) more) g = some L := by
    refine fr_laid ?_ hfit (by omega)
    intro j hj
    rw [hget, if_pos (by omega), Nat.add_sub_cancel_left]
  have hch := (Chain.local (S' := laid M.S g.at' (padB g L) (needN L) more) h.calm.sz (by have := h.ch.mono; omega) h.ch (by
    intro i hi
    rw [hget, if_neg (by omega), if_neg (by omega)])).snoc hfr
  refine ⟨laid_calm h.calm hp (padB_length g L) more, hch, ?_, ⟨?_, h.ok.top, h.ok.ep, by simpa [G.pass] using hnx⟩, h.ok0, by simpa [G.pass, hll] using hfin, h.live⟩
  · show fr (laid M.S g.at' (padB g L) (needN L) more) (g.pass L) = none
    by_cases hm : needN L < g.fin - g.at'
    · refine fr_zero ?_ (by simpa [G.pass] using hnx) (by simp [G.pass])
      show (laid M.S g.at' (padB g L) (needN L) more)[g.at' + needN L]? = _
      rw [hget, if_neg (by omega), if_pos ⟨by rw [hmo]; exact decide_eq_true hm, rfl⟩]
    · refine fr_none1 ?_
      simp only [G.pass]
      omega
  · simp only [G.pass]
    omega
end Go.Proofs.Ytllmjlobhjcbkaa

/-
  A log on a device that fails and is crashed: the frames that were acknowledged stay, the one under way is there wholly or not at all.
-/
import Derived.Test.YtllmjlobhjcbkaaFresh
namespace Go.Proofs.Ytllmjlobhjcbkaa

/-- What a frame under way leaves, whatever fails and whatever is kept. -/
theorem layF_gen {M : D} {g : G} {P : List UInt8} {n : Nat} (hc : M.C = []) (hl : M.L = M.S) (h1 : 1 ≤ n) (hP : P.length = 256 * n) (hfit : n ≤ g.fin - g.at') (hfin : g.fin ≤ M.S.length) (hsz : ∀ x ∈ M.S, x.size = 256) (keep : List Bool) :
    ((layF M g P n).1 = 0 ∧ ((layF M g P n).2.crash keep).L = laid M.S g.at' P n (decide (n < g.fin - g.at'))) ∨
    ((layF M g P n).1 = 50 ∧ (((layF M g P n).2.crash keep).L = laid M.S g.at' P n (decide (n < g.fin - g.at')) ∨
      ((∀ i, i ≤ g.at' → ((layF M g P n).2.crash keep).L[i]? = M.S[i]?) ∧ ((layF M g P n).2.crash keep).L.length = M.S.length ∧ ∀ x ∈ ((layF M g P n).2.crash keep).L, x.size = 256))) := by
  obtain ⟨more, hmo⟩ : ∃ more, more = decide (n < g.fin - g.at') := ⟨_, rfl⟩
  have hbl := behind_length (P := P) (n := n) more
  have hbs := behind_size hP more
  have hpl : g.at' + 1 + (behind P n more).length ≤ M.S.length := by
    rw [hbl, hmo]
    split
    · rename_i q; have := of_decide_eq_true q; omega
    · omega
  have hfs : ∀ x ∈ [fsecB P 0], x.size = 256 := by
    intro x hx
    simp at hx
    subst hx
    exact fsecB_size hP h1
  obtain ⟨st, k, S, h | ⟨j, h⟩⟩ := wrsF_gen (behind P n more) M (g.at' + 1) hpl hbs
  · rw [hc, hl, List.nil_append, app_cws] at h
    obtain ⟨st2, k2, S2, h2 | ⟨j, h2⟩⟩ := wrsF_gen [fsecB P 0] { M with S := puts M.S (g.at' + 1) (behind P n more), L := puts M.S (g.at' + 1) (behind P n more), C := [], st := st, k := k } g.at' (by simp only [puts_length, List.length_cons, List.length_nil]; omega) hfs
    · left
      rw [layF, ← hmo, h, if_neg (by simp)]
      rw [h2]
      refine ⟨rfl, ?_⟩
      simp [D.crash, kept, app, laid, puts, cws]
    · right
      rw [layF, ← hmo, h, if_neg (by simp)]
      rw [h2]
      refine ⟨rfl, ?_⟩
      have hkk : kept keep ([] ++ (cws g.at' [fsecB P 0]).take j) = [] ∨ kept keep ([] ++ (cws g.at' [fsecB P 0]).take j) = [(g.at', fsecB P 0)] := by
        rw [List.nil_append]
        cases j with
        | zero => left; simp [kept]
        | succ j =>
          have e : (cws g.at' [fsecB P 0]).take (j + 1) = [] ++ [(g.at', fsecB P 0)] := by simp [cws]
          rw [e, kept_snoc]
          by_cases hq : keep[0]?.getD false = true
          · right; simp [kept, hq]
          · left; simp [kept, hq]
      rcases hkk with hkk | hkk
      · right
        have e : (({ M with S := S2, L := puts M.S (g.at' + 1) (behind P n more), C := [] ++ (cws g.at' [fsecB P 0]).take j, st := st2, k := k2 } : D).crash keep).L = puts M.S (g.at' + 1) (behind P n more) := by
          show app _ (kept keep _) = _
          rw [hkk]
          rfl
        refine ⟨fun i hi => ?_, ?_, ?_⟩
        · refine (congrArg (·[i]?) e).trans ?_
          rw [puts_get _ _ _ _ hpl, if_neg (by omega)]
        · exact (congrArg List.length e).trans (puts_length _ _ _)
        · intro x hx
          exact puts_size _ _ _ hsz hbs x (e ▸ hx)
      · left
        show app _ (kept keep _) = _
        rw [hkk]
        rfl
  · right
    have hlay : layF M g P n = (50, { M with S := S, C := M.C ++ (cws (g.at' + 1) (behind P n more)).take j, st := st, k := k }) := by
      rw [layF, ← hmo, h, if_pos (by simp)]
    rw [hlay]
    refine ⟨rfl, .inr ?_⟩
    have e : (({ M with S := S, C := M.C ++ (cws (g.at' + 1) (behind P n more)).take j, st := st, k := k } : D).crash keep).L = app M.S (kept keep ((cws (g.at' + 1) (behind P n more)).take j)) := by
      show app M.L (kept keep (M.C ++ _)) = _
      rw [hc, hl, List.nil_append]
    have hm : ∀ q ∈ kept keep ((cws (g.at' + 1) (behind P n more)).take j), g.at' + 1 ≤ q.1 ∧ q.2 ∈ behind P n more := fun q hq => cws_mem (List.mem_of_mem_take (kept_mem hq))
    refine ⟨fun i hi => ?_, ?_, ?_⟩
    · refine (congrArg (·[i]?) e).trans ?_
      exact app_other _ _ _ fun q hq => by have := (hm q hq).1; omega
    · exact (congrArg List.length e).trans (app_length _ _)
    · intro x hx
      exact app_size _ _ hsz (fun q hq => hbs _ (hm q hq).2) x (e ▸ hx)

/-- A log whose next sector is noughts, if there is one. -/
structure Firm (M : D) (g0 g : G) (fs : List (List ByteArray)) : Prop where
  held : Held M g0 g fs
  z : g.at' = g.fin ∨ M.S[g.at']? = some zsec
theorem Held.same {M M' : D} {g0 g : G} {fs : List (List ByteArray)} (h : Held M g0 g fs) (hS : M'.S = M.S) (hc : Calm M') : Held M' g0 g fs :=
  ⟨hc, by rw [hS]; exact h.ch, by rw [hS]; exact h.no, h.ok, h.ok0, by rw [hS]; exact h.fin, h.live⟩
theorem Firm.step {M M1 : D} {g0 g : G} {fs : List (List ByteArray)} (h : Firm M g0 g fs) (hL1 : M1.L = M.L) (hS1 : M1.S = M.S) (hC1 : M1.C = []) (L : List ByteArray) (keep : List Bool) (hnx : g.nx + 1 < 4294967296) :
    ((apF M1 g L).1 = 0 ∧ Firm ((apF M1 g L).2.1.crash keep) g0 (g.pass L) (fs ++ [L])) ∨
    ((apF M1 g L).1 = 60 ∧ Firm ((apF M1 g L).2.1.crash keep) g0 g fs) ∨
    ((apF M1 g L).1 = 50 ∧ (Firm ((apF M1 g L).2.1.crash keep) g0 (g.pass L) (fs ++ [L]) ∨ Firm ((apF M1 g L).2.1.crash keep) g0 g fs)) := by
  have hp := need_pos L
  have htop := h.held.ok.top
  have hle := h.held.ok.le
  have hfin := h.held.fin
  have hls : M.L = M.S := h.held.calm.l
  by_cases hful : g.fin - g.at' < needN L
  · rw [apF_full h.held.live hful]
    have e : (M1.crash keep).L = M.S := by
      show app M1.L (kept keep M1.C) = _
      rw [hC1, hL1, hls]; rfl
    have hc : Calm (M1.crash keep) := crash_calm (by rw [e]; exact h.held.calm.sz)
    have eS : (M1.crash keep).S = M.S := e
    exact .inr (.inl ⟨rfl, h.held.same eS hc, by rw [eS]; exact h.z⟩)
  · have hfit : needN L ≤ g.fin - g.at' := by omega
    obtain ⟨a1, a2, a3, a4⟩ := h.held.append hfit hnx
    have hlive := layF_live (P := padB g L) h.held.calm hp (padB_length g L) hfit hfin
    obtain ⟨more, hmo⟩ : ∃ more, more = decide (needN L < g.fin - g.at') := ⟨_, rfl⟩
    rw [← hmo] at hlive
    have hap0 : (apF M g L).2.1.S = laid M.S g.at' (padB g L) (needN L) more := by
      rw [apF, if_neg (by simp [h.held.live]), if_neg (by omega), hlive, if_neg (by simp)]
    have hlen : g.at' + needN L + (if more = true then 1 else 0) ≤ M.S.length := by
      rw [hmo]
      split
      · rename_i q; have := of_decide_eq_true q; omega
      · omega
    have hget := laid_get (P := padB g L) (more := more) hp hlen
    have hnew : ∀ M' : D, (M'.crash keep).L = laid M.S g.at' (padB g L) (needN L) more → Firm (M'.crash keep) g0 (g.pass L) (fs ++ [L]) := by
      intro M' e
      have eS : (M'.crash keep).S = laid M.S g.at' (padB g L) (needN L) more := e
      refine ⟨a3.same (eS.trans hap0.symm) (crash_calm (by rw [e, ← hap0]; exact a3.calm.sz)), ?_⟩
      rw [eS]
      by_cases hm : needN L < g.fin - g.at'
      · right
        show (laid M.S g.at' (padB g L) (needN L) more)[g.at' + needN L]? = _
        rw [hget, if_neg (by omega), if_pos ⟨by rw [hmo]; exact decide_eq_true hm, rfl⟩]
      · left
        simp only [G.pass]
        omega
    have hgen := layF_gen (M := M1) (g := g) (P := padB g L) hC1 (by rw [hL1, hS1, hls]) hp (padB_length g L) hfit (by rw [hS1]; exact hfin) (by rw [hS1]; exact h.held.calm.sz) keep
    rw [← hmo, hS1] at hgen
    rcases hgen with ⟨e0, e1⟩ | ⟨e0, e1 | ⟨e1, e2, e3⟩⟩
    · have hap : apF M1 g L = (0, (layF M1 g (padB g L) (needN L)).2, g.pass L) := by
        rw [apF, if_neg (by simp [h.held.live]), if_neg (by omega), if_neg (by rw [e0]; simp)]
      rw [hap]
      exact .inl ⟨rfl, hnew _ e1⟩
    · have hap : apF M1 g L = (50, (layF M1 g (padB g L) (needN L)).2, { g with fl := true }) := by
        rw [apF, if_neg (by simp [h.held.live]), if_neg (by omega), if_pos (by rw [e0]; decide), e0]
      rw [hap]
      exact .inr (.inr ⟨rfl, .inl (hnew _ e1)⟩)
    · have hap : apF M1 g L = (50, (layF M1 g (padB g L) (needN L)).2, { g with fl := true }) := by
        rw [apF, if_neg (by simp [h.held.live]), if_neg (by omega), if_pos (by rw [e0]; decide), e0]
      rw [hap]
      refine .inr (.inr ⟨rfl, .inr ?_⟩)
      have hz : M.S[g.at']? = some zsec := h.z.resolve_left (by omega)
      have hm := h.held.ch.mono
      refine ⟨⟨crash_calm e3, Chain.local h.held.calm.sz (by omega) h.held.ch (fun i hi => e1 i (by omega)), fr_zero0 ((e1 _ (Nat.le_refl _)).trans hz), h.held.ok, h.held.ok0, Nat.le_trans hfin (Nat.le_of_eq e2.symm), h.held.live⟩, .inr ((e1 _ (Nat.le_refl _)).trans hz)⟩
theorem new_firm {n p k ep : Nat} (hk : 1 ≤ k) (hn : p + k ≤ n) (hn4 : n ≤ 4096) (hep : ep < 18446744073709551616) : Firm (D.new n blank) (G.new p k ep) (G.new p k ep) [] := by
  refine ⟨new_held hk hn hn4 hep, .inr ?_⟩
  simp only [D.new, G.new]
  rw [List.getElem?_replicate, if_pos (by omega)]
  rfl
end Go.Proofs.Ytllmjlobhjcbkaa

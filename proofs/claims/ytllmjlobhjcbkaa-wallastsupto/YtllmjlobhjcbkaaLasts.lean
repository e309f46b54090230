/-
  Frames laid one behind the other on a device that may fail: the steps of the law.
-/
import Derived.Test.YtllmjlobhjcbkaaGoesN
namespace Go.Proofs.Ytllmjlobhjcbkaa
open Go.RowKit

/-- A frame that was acknowledged, whatever fuse burns: the sectors are those of a device that lives. -/
theorem layF_ok {M : D} {g : G} {P : List UInt8} {n : Nat} (hc : M.C = []) (hl : M.L = M.S) (h1 : 1 ≤ n) (hP : P.length = 256 * n) (hfit : n ≤ g.fin - g.at') (hfin : g.fin ≤ M.S.length) (h0 : (layF M g P n).1 = 0) :
    (layF M g P n).2.S = laid M.S g.at' P n (decide (n < g.fin - g.at')) ∧ (layF M g P n).2.L = laid M.S g.at' P n (decide (n < g.fin - g.at')) ∧ (layF M g P n).2.C = [] := by
  obtain ⟨more, hmo⟩ : ∃ more, more = decide (n < g.fin - g.at') := ⟨_, rfl⟩
  have hbl := behind_length (P := P) (n := n) more
  have hbs := behind_size hP more
  have hpl : g.at' + 1 + (behind P n more).length ≤ M.S.length := by
    rw [hbl, hmo]
    split
    · rename_i q; have := of_decide_eq_true q; omega
    · omega
  have hfs : ∀ x ∈ [fsecB P 0], x.size = 256 := by
    intro x hx
    simp at hx
    subst hx
    exact fsecB_size hP h1
  rw [← hmo]
  obtain ⟨st, k, S, h | ⟨j, h⟩⟩ := wrsF_gen (behind P n more) M (g.at' + 1) hpl hbs
  · rw [hc, hl, List.nil_append, app_cws] at h
    obtain ⟨st2, k2, S2, h2 | ⟨j, h2⟩⟩ := wrsF_gen [fsecB P 0] { M with S := puts M.S (g.at' + 1) (behind P n more), L := puts M.S (g.at' + 1) (behind P n more), C := [], st := st, k := k } g.at' (by simp only [puts_length, List.length_cons, List.length_nil]; omega) hfs
    · have e : layF M g P n = (0, { M with S := laid M.S g.at' P n more, L := laid M.S g.at' P n more, C := [], st := st2, k := k2 }) := by
        rw [layF, ← hmo, h, if_neg (by simp)]
        refine h2.trans ?_
        simp [app_cws, laid]
      rw [e]
      exact ⟨rfl, rfl, rfl⟩
    · have e : (layF M g P n).1 = 50 := by
        rw [layF, ← hmo, h, if_neg (by simp)]
        exact congrArg Prod.fst h2
      rw [e] at h0
      simp at h0
  · have e : (layF M g P n).1 = 50 := by
      rw [layF, ← hmo, h, if_pos (by simp)]
    rw [e] at h0
    simp at h0

/-- An Append on a device that may fail. -/
theorem Firm.stepF {M M1 : D} {g0 g : G} {fs : List (List ByteArray)} (h : Firm M g0 g fs) (hL1 : M1.L = M.L) (hS1 : M1.S = M.S) (hC1 : M1.C = []) (L : List ByteArray) (hnx : g.nx + 1 < 4294967296) :
    ((apF M1 g L).1 = 0 ∧ (apF M1 g L).2.2 = g.pass L ∧ ∃ M', Firm M' g0 (g.pass L) (fs ++ [L]) ∧ (apF M1 g L).2.1.L = M'.L ∧ (apF M1 g L).2.1.S = M'.S ∧ (apF M1 g L).2.1.C = [] ∧ M'.S.length = M.S.length) ∨
    (apF M1 g L = (60, M1, g) ∧ g.fin - g.at' < needN L) ∨
    ((apF M1 g L).1 = 50 ∧ ∀ keep, Firm ((apF M1 g L).2.1.crash keep) g0 (g.pass L) (fs ++ [L]) ∨ Firm ((apF M1 g L).2.1.crash keep) g0 g fs) := by
  have hp := need_pos L
  have hfin := h.held.fin
  have hls : M.L = M.S := h.held.calm.l
  have hst := fun keep => h.step hL1 hS1 hC1 L keep hnx
  rcases hst [] with ⟨e0, q0⟩ | ⟨e0, _⟩ | ⟨e0, _⟩
  · left
    have hfit : needN L ≤ g.fin - g.at' := by
      by_cases hq : g.fin - g.at' < needN L
      · rw [apF_full h.held.live hq] at e0
        simp at e0
      · omega
    have hl0 : (layF M1 g (padB g L) (needN L)).1 = 0 := by
      by_cases hq : (layF M1 g (padB g L) (needN L)).1 = 0
      · exact hq
      · rw [apF, if_neg (by simp [h.held.live]), if_neg (by omega), if_pos hq] at e0
        exact absurd e0 hq
    obtain ⟨o1, o2, o3⟩ := layF_ok (M := M1) hC1 (by rw [hL1, hS1, hls]) hp (padB_length g L) hfit (by rw [hS1]; exact hfin) hl0
    have hap : apF M1 g L = (0, (layF M1 g (padB g L) (needN L)).2, g.pass L) := by
      rw [apF, if_neg (by simp [h.held.live]), if_neg (by omega), if_neg (by rw [hl0]; simp)]
    rw [hap] at q0 ⊢
    refine ⟨rfl, rfl, _, q0, ?_, ?_, o3, ?_⟩
    · show (layF M1 g (padB g L) (needN L)).2.L = app (layF M1 g (padB g L) (needN L)).2.L (kept [] (layF M1 g (padB g L) (needN L)).2.C)
      rw [o3]; rfl
    · show (layF M1 g (padB g L) (needN L)).2.S = app (layF M1 g (padB g L) (needN L)).2.L (kept [] (layF M1 g (padB g L) (needN L)).2.C)
      rw [o3, o2, o1]; rfl
    · show (app (layF M1 g (padB g L) (needN L)).2.L (kept [] (layF M1 g (padB g L) (needN L)).2.C)).length = _
      rw [app_length, o2, laid, puts_length, puts_length, hS1]
  · right; left
    by_cases hq : g.fin - g.at' < needN L
    · exact ⟨apF_full h.held.live hq, hq⟩
    · rw [apF, if_neg (by simp [h.held.live]), if_neg hq] at e0
      split at e0
      · rename_i hne
        rcases layF_gen (M := M1) (g := g) (P := padB g L) hC1 (by rw [hL1, hS1, hls]) hp (padB_length g L) (by omega) (by rw [hS1]; exact hfin) (by rw [hS1]; exact h.held.calm.sz) [] with ⟨e, _⟩ | ⟨e, _⟩
        · exact absurd e hne
        · simp only at e0
          rw [e] at e0
          simp at e0
      · simp at e0
  · right; right
    refine ⟨e0, fun keep => ?_⟩
    rcases hst keep with ⟨e, _⟩ | ⟨e, _⟩ | ⟨_, q⟩
    · rw [e0] at e; simp at e
    · rw [e0] at e; simp at e
    · exact q

theorem CL.append3 {w wr : World} {d l N : Nat} {K : Option Nat} {g0 g : G} {fs : List (List ByteArray)} (h : CL w wr d l K N g0 g fs) (hn : g.nx ≤ 100000) {a : Option Addr} {L : List ByteArray} (c : Nat) (hs : Strs w a L) (hr : tot L ≤ 140737488355328) :
    Calls Try.prog 13 #[.pointer (some ⟨l, 0, none⟩), .slice a L.length c] wr fun e w' => (∀ b, K = some b → w'.heap[b]? = wr.heap[b]?) ∧
      ((e = .returned (.int .i64 0) ∧ CL w w' d l K N g0 (g.pass L) (fs ++ [L])) ∨ (e = .returned (.int .i64 60) ∧ CL w w' d l K N g0 g fs ∧ g.fin - g.at' < needN L) ∨ (e = .returned (.int .i64 50) ∧ CX w w' d K N g0 (fun g' fs' => (g' = g.pass L ∧ fs' = fs ++ [L]) ∨ (g' = g ∧ fs' = fs)))) := by
  obtain ⟨F, M, M1, q1, q2, q3, q4, q5, q6, q7, q8, q9⟩ := h.dev
  have hsF : L ≠ [] → ∀ ad, a = some ad → ¬ F ad.block := by
    intro hn ad e hf
    have hge := q5 _ hf
    rcases hs with h0 | ⟨b, off, e', hb, _⟩
    · exact hn h0
    · rw [e'] at e
      simp only [Option.some.injEq] at e
      subst e
      simp at hge
      omega
  have hap := append_any l d g a L c wr F M1 q1 h.log q8.held.ok q6 (hs.below h.bel (Nat.le_refl _)) hsF hr (by rw [q4]; simp)
  refine Calls.mono hap ?_
  rintro e w' ⟨rfl, hD, hL, hT⟩
  have hll := h.ll
  have hll2 : l < wr.heap.size := (Array.getElem?_eq_some_iff.1 h.log).1
  have hbel : Below w.heap.size w w' := h.bel.trans (hT.below (by rintro k (hk | rfl); exact q5 k hk; exact hll) h.bel.size)
  obtain ⟨hcap, hLl⟩ := apF_cap M1 g L q8.held.ok.top q4
  have hKK : ∀ b, K = some b → ¬ Grow F wr w' b ∧ b < w'.heap.size := fun b e => ⟨by rintro (hf | hf); exact (q7 b e).1 hf; have := (q7 b e).2.2; omega, Nat.lt_of_lt_of_le (q7 b e).2.2 hT.size⟩
  have hFw : ∀ k, Grow F wr w' k → w.heap.size ≤ k := by
    rintro k (hf | hf)
    · exact q5 k hf
    · have := h.bel.size; omega
  have hlF : ¬ Grow F wr w' l := by
    rintro (hf | hf)
    · exact q6 hf
    · omega
  have hKL : ∀ b, K = some b → ¬ Grow F wr w' b ∧ b ≠ l ∧ b < w'.heap.size := fun b e => ⟨(hKK b e).1, (q7 b e).2.1, (hKK b e).2⟩
  refine ⟨fun b e => hT.block b (q7 b e).2.2 (by rintro (hf | hf); exact (q7 b e).1 hf; exact (q7 b e).2.1 hf), ?_⟩
  rcases q8.stepF q2 q3 q4 L (by omega) with ⟨e0, e1, M', r1, r2, r3, r4, r5⟩ | ⟨e0, r1⟩ | ⟨e0, r1⟩
  · left
    rw [e1] at hL
    exact ⟨by rw [e0], ⟨_, M', _, hD, r2, r3, r4, hFw, hlF, hKL, r1, by rw [r5, q9]⟩, hL, hbel, hll⟩
  · right; left
    rw [e0] at hD hL ⊢
    exact ⟨rfl, ⟨⟨_, M, M1, hD, q2, q3, q4, hFw, hlF, hKL, q8, q9⟩, hL, hbel, hll⟩, r1⟩
  · right; right
    refine ⟨by rw [e0], ⟨⟨_, _, hD, hFw, hKK, hcap, fun keep => ?_⟩, hbel⟩⟩
    have hlen : ((apF M1 g L).2.1.crash keep).S.length = N := by
      show (app _ _).length = _
      rw [app_length, hLl, q2, q8.held.calm.l, q9]
    rcases r1 keep with r | r
    · exact ⟨_, _, .inl ⟨rfl, rfl⟩, r, hlen⟩
    · exact ⟨_, _, .inr ⟨rfl, rfl⟩, r, hlen⟩
/-- No Append is under way. -/
theorem CL.done {w wr : World} {d l N : Nat} {K : Option Nat} {g0 g : G} {fs : List (List ByteArray)} (h : CL w wr d l K N g0 g fs) : CX w wr d K N g0 (fun g' fs' => g' = g ∧ fs' = fs) := by
  obtain ⟨F, M, M1, q1, q2, q3, q4, q5, q6, q7, q8, q9⟩ := h.dev
  refine ⟨⟨F, M1, q1, q5, fun b e => ⟨(q7 b e).1, (q7 b e).2.2⟩, by rw [q4]; simp, fun keep => ⟨g, fs, ⟨rfl, rfl⟩, ?_, ?_⟩⟩, h.bel⟩
  · have e : (M1.crash keep).L = M.S := by
      show app M1.L (kept keep M1.C) = _
      rw [q4, q2, q8.held.calm.l]; rfl
    have eS : (M1.crash keep).S = M.S := e
    exact ⟨q8.held.same eS (crash_calm (by rw [e]; exact q8.held.calm.sz)), by rw [eS]; exact q8.z⟩
  · show (app M1.L (kept keep M1.C)).length = _
    rw [app_length, q2, q8.held.calm.l, q9]
theorem CL.grown {w wr w' : World} {d l N : Nat} {K K' : Option Nat} {g0 g : G} {fs : List (List ByteArray)} (h : CL w wr d l K N g0 g fs) (hg : wr.grownBy w' K) (hK : ∀ b, K = some b → w.heap.size ≤ b) (hK' : K' = K ∨ ∀ b, K' = some b → wr.heap.size ≤ b) (hlt : ∀ b, K' = some b → b < w'.heap.size) : CL w w' d l K' N g0 g fs := by
  obtain ⟨F, M, M1, q1, q2, q3, q4, q5, q6, q7, q8⟩ := h.dev
  have hT : Turn (fun k => K = some k) wr w' := Turn.of_grown hg (fun k e => e)
  have hll : l < wr.heap.size := (Array.getElem?_eq_some_iff.1 h.log).1
  refine ⟨⟨F, M, M1, q1.other hT (fun k hf e => (q7 k e).1 hf), q2, q3, q4, q5, q6, ?_, q8⟩, (hT.block l hll (fun e => (q7 l e).2.1 rfl)).trans h.log, h.bel.trans (hT.below hK h.bel.size), h.ll⟩
  intro b e
  rcases hK' with rfl | hK'
  · exact ⟨(q7 b e).1, (q7 b e).2.1, hlt b e⟩
  · have := hK' b e
    refine ⟨fun hf => ?_, by omega, hlt b e⟩
    have := q1.lts b hf
    omega
/-- The crash, and the log opened twice. -/
theorem CX.finish {w wr : World} {d N p n ep : Nat} {K : Option Nat} {good : G → List (List ByteArray) → Prop} (h : CX w wr d K N (G.new p n ep) good) {ka : Option Addr} {keep : List Bool} (kc : Nat) (hk : Bools w ka keep) (h1 : 1 ≤ n) (hfit : p + n ≤ N) (hep : ep < 18446744073709551616) :
    Calls Try.prog 16 #[.pointer (some ⟨d, 0, none⟩), .slice ka keep.length kc] wr fun e w2 => e = .returned (.tuple #[]) ∧ ∃ g' fs', good g' fs' ∧
      Calls Try.prog 11 #[.pointer (some ⟨d, 0, none⟩), .int .i64 (p : Int), .int .i64 (n : Int), .int .u64 (ep : Int)] w2 fun e w3 => ∃ l3 a3 c3, e = .returned (.tuple #[.pointer (some ⟨l3, 0, none⟩), .slice a3 fs'.length c3, .int .i64 0]) ∧
        Calls Try.prog 11 #[.pointer (some ⟨d, 0, none⟩), .int .i64 (p : Int), .int .i64 (n : Int), .int .u64 (ep : Int)] w3 fun e w4 => ∃ l4 a4 c4, e = .returned (.tuple #[.pointer (some ⟨l4, 0, none⟩), .slice a4 fs'.length c4, .int .i64 0]) ∧
          CF w w4 d K N (G.new p n ep) g' fs' ∧ (∀ b, K = some b → w4.heap[b]? = wr.heap[b]?) ∧ Rfs w4 a4 fs' ∧ ∃ base, RfsN w4 base a3 fs' ∧ ∀ b, K = some b → b < base := by
  refine Calls.mono (h.crash kc hk) ?_
  rintro e w2 ⟨rfl, hk2, g', fs', ho, hcf⟩
  refine ⟨rfl, g', fs', ho, ?_⟩
  refine Calls.mono (hcf.openN h1 hfit hep) ?_
  rintro e w3 ⟨l3, a3, c3, rfl, hr3, hb3, hcf3⟩
  refine ⟨l3, a3, c3, rfl, ?_⟩
  refine Calls.mono (hcf3.openN h1 hfit hep) ?_
  rintro e w4 ⟨l4, a4, c4, rfl, hr4, hb4, hcf4⟩
  refine ⟨l4, a4, c4, rfl, hcf4, ?_, hr4.rfs, w2.heap.size, hr3.below hb4, hcf.klt⟩
  intro b e
  rw [hb4.block b (hcf3.klt b e), hb3.block b (hcf.klt b e), hk2 b e]
end Go.Proofs.Ytllmjlobhjcbkaa

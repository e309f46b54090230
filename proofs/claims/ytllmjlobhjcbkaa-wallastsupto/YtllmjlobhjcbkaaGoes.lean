/-
  A log of the law's own on a device that fails and is crashed, between two of the law's steps.
-/
import Derived.Test.YtllmjlobhjcbkaaDies
import Derived.Test.YtllmjlobhjcbkaaCounts
import Derived.Test.YtllmjlobhjcbkaaCrash
namespace Go.Proofs.Ytllmjlobhjcbkaa
open Go.RowKit

/-- The device, on which nothing waits. K: the block of the law's own list. -/
structure CF (w wr : World) (d : Nat) (K : Option Nat) (N : Nat) (g0 g : G) (fs : List (List ByteArray)) : Prop where
  dev : ∃ F M, Dev wr F d M ∧ (∀ k, F k → w.heap.size ≤ k) ∧ (∀ b, K = some b → ¬ F b ∧ b < wr.heap.size) ∧ Firm M g0 g fs ∧ M.S.length = N
  bel : Below w.heap.size w wr
/-- A log is open on it, and a fuse may burn. -/
structure CL (w wr : World) (d l : Nat) (K : Option Nat) (N : Nat) (g0 g : G) (fs : List (List ByteArray)) : Prop where
  dev : ∃ F M M1, Dev wr F d M1 ∧ M1.L = M.L ∧ M1.S = M.S ∧ M1.C = [] ∧ (∀ k, F k → w.heap.size ≤ k) ∧ ¬ F l ∧ (∀ b, K = some b → ¬ F b ∧ b ≠ l ∧ b < wr.heap.size) ∧ Firm M g0 g fs ∧ M.S.length = N
  log : LogV wr l d g
  bel : Below w.heap.size w wr
  ll : w.heap.size ≤ l
/-- Behind an Append, ahead of the crash. -/
structure CX (w wr : World) (d : Nat) (K : Option Nat) (N : Nat) (g0 : G) (good : G → List (List ByteArray) → Prop) : Prop where
  dev : ∃ F M, Dev wr F d M ∧ (∀ k, F k → w.heap.size ≤ k) ∧ (∀ b, K = some b → ¬ F b ∧ b < wr.heap.size) ∧ M.C.length ≤ 5000 ∧ ∀ keep, ∃ g fs, good g fs ∧ Firm (M.crash keep) g0 g fs ∧ (M.crash keep).S.length = N
  bel : Below w.heap.size w wr
theorem CF.below {w wr w' : World} {d N : Nat} {K : Option Nat} {g0 g : G} {fs : List (List ByteArray)} (h : CF w wr d K N g0 g fs) (hb : Below wr.heap.size wr w') : CF w w' d K N g0 g fs := by
  obtain ⟨F, M, q1, q2, q3, q4⟩ := h.dev
  exact ⟨⟨F, M, q1.below hb, q2, fun b e => ⟨(q3 b e).1, Nat.lt_of_lt_of_le (q3 b e).2 hb.size⟩, q4⟩, h.bel.trans (hb.mono h.bel.size)⟩
theorem CF.grown {w wr w' : World} {d N : Nat} {K K' : Option Nat} {g0 g : G} {fs : List (List ByteArray)} (h : CF w wr d K N g0 g fs) (hg : wr.grownBy w' K) (hK : ∀ b, K = some b → w.heap.size ≤ b) (hK' : K' = K ∨ ∀ b, K' = some b → wr.heap.size ≤ b) (hlt : ∀ b, K' = some b → b < w'.heap.size) : CF w w' d K' N g0 g fs := by
  obtain ⟨F, M, q1, q2, q3, q4⟩ := h.dev
  have hT : Turn (fun k => K = some k) wr w' := Turn.of_grown hg (fun k e => e)
  refine ⟨⟨F, M, q1.other hT (fun k hf e => (q3 k e).1 hf), q2, ?_, q4⟩, h.bel.trans (hT.below hK h.bel.size)⟩
  intro b e
  rcases hK' with rfl | hK'
  · exact ⟨(q3 b e).1, hlt b e⟩
  · have := hK' b e
    refine ⟨fun hf => ?_, hlt b e⟩
    have := q1.lts b hf
    omega
theorem CF.open {w wr : World} {d N p n ep : Nat} {K : Option Nat} {g : G} {fs : List (List ByteArray)} (h : CF w wr d K N (G.new p n ep) g fs) (h1 : 1 ≤ n) (hfit : p + n ≤ N) (hep : ep < 18446744073709551616) :
    Calls Try.prog 11 #[.pointer (some ⟨d, 0, none⟩), .int .i64 (p : Int), .int .i64 (n : Int), .int .u64 (ep : Int)] wr fun e w' => ∃ l a c, e = .returned (.tuple #[.pointer (some ⟨l, 0, none⟩), .slice a fs.length c, .int .i64 0]) ∧ CL w w' d l K N (G.new p n ep) g fs ∧ Rfs w' a fs ∧ Below wr.heap.size wr w' ∧ CF w w' d K N (G.new p n ep) g fs := by
  obtain ⟨F, M, q1, q2, q3, q4, q5⟩ := h.dev
  have hop := open_ok d p n ep wr F M q1 (by rw [q4.held.calm.st]; decide) q4.held.calm.sz h1 (by rw [q4.held.calm.l, q5]; exact hfit) hep
  rw [q4.held.opened] at hop
  refine Calls.mono hop ?_
  rintro e w2 ⟨l, v, rfl, hL2, hF2, hl1, hl2, _, _, hb2⟩
  obtain ⟨a, c, rfl, hr⟩ := hF2.rfs
  have hlts := q1.lts
  have hsz := h.bel.size
  refine ⟨l, a, c, rfl, ⟨⟨F, M, M, q1.below hb2, rfl, rfl, q4.held.calm.c, q2, fun hf => by have := hlts l hf; omega, fun b e => ⟨(q3 b e).1, by have := (q3 b e).2; omega, Nat.lt_of_lt_of_le (q3 b e).2 hb2.size⟩, q4, q5⟩, hL2, h.bel.trans (hb2.mono h.bel.size), by omega⟩, hr, hb2, h.below hb2⟩
theorem fuse_same (M : D) (q : Int) : (M.fuse q).L = M.L ∧ (M.fuse q).S = M.S ∧ (M.fuse q).C = M.C := by
  unfold D.fuse
  split
  · exact ⟨rfl, rfl, rfl⟩
  · split <;> exact ⟨rfl, rfl, rfl⟩
theorem CL.below {w wr w' : World} {d l N : Nat} {K : Option Nat} {g0 g : G} {fs : List (List ByteArray)} (h : CL w wr d l K N g0 g fs) (hb : Below wr.heap.size wr w') : CL w w' d l K N g0 g fs := by
  obtain ⟨F, M, M1, q1, q2, q3, q4, q5, q6, q7, q8⟩ := h.dev
  exact ⟨⟨F, M, M1, q1.below hb, q2, q3, q4, q5, q6, fun b e => ⟨(q7 b e).1, (q7 b e).2.1, Nat.lt_of_lt_of_le (q7 b e).2.2 hb.size⟩, q8⟩, (hb.block l (Array.getElem?_eq_some_iff.1 h.log).1).trans h.log, h.bel.trans (hb.mono h.bel.size), h.ll⟩
theorem CL.fuse {w wr : World} {d l N : Nat} {K : Option Nat} {g0 g : G} {fs : List (List ByteArray)} (h : CL w wr d l K N g0 g fs) (q : Int) (hq : q ≤ 9223372036854775807) :
    Calls Try.prog 12 #[.pointer (some ⟨d, 0, none⟩), .int .i64 q] wr fun e w' => e = .returned (.tuple #[]) ∧ CL w w' d l K N g0 g fs ∧ ∀ b, K = some b → w'.heap[b]? = wr.heap[b]? := by
  obtain ⟨F, M, M1, q1, q2, q3, q4, q5, q6, q7, q8⟩ := h.dev
  refine Calls.mono (fuse_any d q wr F M1 q1 hq) ?_
  rintro e w' ⟨rfl, hD, hT⟩
  obtain ⟨f1, f2, f3⟩ := fuse_same M1 q
  have hl := (Array.getElem?_eq_some_iff.1 h.log).1
  exact ⟨rfl, ⟨⟨F, M, _, hD, f1.trans q2, f2.trans q3, f3.trans q4, q5, q6, fun b e => ⟨(q7 b e).1, (q7 b e).2.1, Nat.lt_of_lt_of_le (q7 b e).2.2 hT.size⟩, q8⟩, (hT.block l hl q6).trans h.log, h.bel.trans (hT.below q5 h.bel.size), h.ll⟩, fun b e => hT.block b (q7 b e).2.2 (q7 b e).1⟩
theorem wr_L (M : D) (i : Int) (b : ByteArray) : (M.wr i b).2.L = M.L := by
  obtain ⟨e, st, k, hbu, _⟩ := burn_gen M
  rw [D.wr, hbu]
  split
  · rfl
  · split <;> rfl
theorem wrs_cap : ∀ (xs : List ByteArray) (M : D) (p : Nat), (wrs M p xs).2.C.length ≤ M.C.length + xs.length ∧ (wrs M p xs).2.L = M.L
  | [], _, _ => ⟨Nat.le_refl _, rfl⟩
  | b :: r, M, p => by
    have h1 := wr_cap M (p : Int) b
    have h2 := wr_L M (p : Int) b
    rw [wrs]
    split
    · exact ⟨by simp; omega, h2⟩
    · obtain ⟨h3, h4⟩ := wrs_cap r (M.wr (p : Int) b).2 (p + 1)
      exact ⟨by simp; omega, h4.trans h2⟩
theorem flush_cap (M : D) : M.flush.2.C.length ≤ M.C.length ∧ M.flush.2.L.length = M.L.length := by
  obtain ⟨st, k, h | h⟩ := flush_gen M <;> rw [h]
  · exact ⟨by simp, app_length _ _⟩
  · exact ⟨Nat.le_refl _, rfl⟩
theorem wrsF_cap (xs : List ByteArray) (M : D) (p : Nat) : (wrsF M p xs).2.C.length ≤ M.C.length + xs.length ∧ (wrsF M p xs).2.L.length = M.L.length := by
  obtain ⟨h1, h2⟩ := wrs_cap xs M p
  rw [wrsF]
  split
  · exact ⟨h1, by rw [h2]⟩
  · obtain ⟨h3, h4⟩ := flush_cap (wrs M p xs).2
    exact ⟨by omega, by rw [h4, h2]⟩
theorem layF_cap (M : D) (g : G) (P : List UInt8) (n : Nat) : (layF M g P n).2.C.length ≤ M.C.length + n + 2 ∧ (layF M g P n).2.L.length = M.L.length := by
  have hb := behind_length (P := P) (n := n) (decide (n < g.fin - g.at'))
  have hb2 : (behind P n (decide (n < g.fin - g.at'))).length ≤ n + 1 := by rw [hb]; split <;> omega
  obtain ⟨h1, h2⟩ := wrsF_cap (behind P n (decide (n < g.fin - g.at'))) M (g.at' + 1)
  rw [layF]
  split
  · exact ⟨by omega, h2⟩
  · obtain ⟨h3, h4⟩ := wrsF_cap [fsecB P 0] (wrsF M (g.at' + 1) (behind P n (decide (n < g.fin - g.at')))).2 g.at'
    simp only [List.length_cons, List.length_nil] at h3
    exact ⟨by omega, by rw [h4, h2]⟩
theorem apF_cap (M : D) (g : G) (L : List ByteArray) (hg : g.fin ≤ 4096) (hc : M.C = []) : (apF M g L).2.1.C.length ≤ 5000 ∧ (apF M g L).2.1.L.length = M.L.length := by
  obtain ⟨h1, h2⟩ := layF_cap M g (padB g L) (needN L)
  rw [hc] at h1
  rw [apF]
  split
  · exact ⟨by rw [hc]; simp, rfl⟩
  · split
    · exact ⟨by rw [hc]; simp, rfl⟩
    · split
      · exact ⟨by simp at h1 ⊢; omega, h2⟩
      · exact ⟨by simp at h1 ⊢; omega, h2⟩
theorem CL.append {w wr : World} {d l N : Nat} {K : Option Nat} {g0 g : G} {fs : List (List ByteArray)} (h : CL w wr d l K N g0 g fs) (hn : g.nx ≤ 100000) {a : Option Addr} {L : List ByteArray} (c : Nat) (hs : Strs w a L) (hr : tot L ≤ 140737488355328) :
    Calls Try.prog 13 #[.pointer (some ⟨l, 0, none⟩), .slice a L.length c] wr fun e w' => (∀ b, K = some b → w'.heap[b]? = wr.heap[b]?) ∧ ∃ ev : Int, e = .returned (.int .i64 ev) ∧
      ((ev = 0 ∧ CX w w' d K N g0 (fun g' fs' => g' = g.pass L ∧ fs' = fs ++ [L])) ∨ (ev = 60 ∧ CX w w' d K N g0 (fun g' fs' => g' = g ∧ fs' = fs)) ∨ (ev = 50 ∧ CX w w' d K N g0 (fun g' fs' => (g' = g.pass L ∧ fs' = fs ++ [L]) ∨ (g' = g ∧ fs' = fs)))) := by
  obtain ⟨F, M, M1, q1, q2, q3, q4, q5, q6, q7, q8, q9⟩ := h.dev
  have hsF : L ≠ [] → ∀ ad, a = some ad → ¬ F ad.block := by
    intro hn ad e hf
    have hge := q5 _ hf
    rcases hs with h0 | ⟨b, off, e', hb, _⟩
    · exact hn h0
    · rw [e'] at e
      simp only [Option.some.injEq] at e
      subst e
      simp at hge
      omega
  have hap := append_any l d g a L c wr F M1 q1 h.log q8.held.ok q6 (hs.below h.bel (Nat.le_refl _)) hsF hr (by rw [q4]; simp)
  refine Calls.mono hap ?_
  rintro e w' ⟨rfl, hD, hL, hT⟩
  have hll := h.ll
  have hbel : Below w.heap.size w w' := h.bel.trans (hT.below (by rintro k (hk | rfl); exact q5 k hk; exact hll) h.bel.size)
  obtain ⟨hcap, hLl⟩ := apF_cap M1 g L q8.held.ok.top q4
  have hKK : ∀ b, K = some b → ¬ Grow F wr w' b ∧ b < w'.heap.size := fun b e => ⟨by rintro (hf | hf); exact (q7 b e).1 hf; have := (q7 b e).2.2; omega, Nat.lt_of_lt_of_le (q7 b e).2.2 hT.size⟩
  have hFw : ∀ k, Grow F wr w' k → w.heap.size ≤ k := by
    rintro k (hf | hf)
    · exact q5 k hf
    · have := h.bel.size; omega
  have hlen : ∀ keep, ((apF M1 g L).2.1.crash keep).S.length = N := fun keep => by
    show (app _ _).length = _
    rw [app_length, hLl, q2, q8.held.calm.l, q9]
  refine ⟨fun b e => hT.block b (q7 b e).2.2 (by rintro (hf | hf); exact (q7 b e).1 hf; exact (q7 b e).2.1 hf), _, rfl, ?_⟩
  have hst := fun keep => q8.step q2 q3 q4 L keep (by omega)
  rcases hst [] with ⟨e0, _⟩ | ⟨e0, _⟩ | ⟨e0, _⟩
  · refine .inl ⟨e0, ⟨⟨_, _, hD, hFw, hKK, hcap, fun keep => ⟨_, _, ⟨rfl, rfl⟩, ?_, hlen keep⟩⟩, hbel⟩⟩
    rcases hst keep with ⟨_, q⟩ | ⟨q, _⟩ | ⟨q, _⟩
    · exact q
    · rw [e0] at q; simp at q
    · rw [e0] at q; simp at q
  · refine .inr (.inl ⟨e0, ⟨⟨_, _, hD, hFw, hKK, hcap, fun keep => ⟨_, _, ⟨rfl, rfl⟩, ?_, hlen keep⟩⟩, hbel⟩⟩)
    rcases hst keep with ⟨q, _⟩ | ⟨_, q⟩ | ⟨q, _⟩
    · rw [e0] at q; simp at q
    · exact q
    · rw [e0] at q; simp at q
  · refine .inr (.inr ⟨e0, ⟨⟨_, _, hD, hFw, hKK, hcap, fun keep => ?_⟩, hbel⟩⟩)
    rcases hst keep with ⟨q, _⟩ | ⟨q, _⟩ | ⟨_, q | q⟩
    · rw [e0] at q; simp at q
    · rw [e0] at q; simp at q
    · exact ⟨_, _, .inl ⟨rfl, rfl⟩, q, hlen keep⟩
    · exact ⟨_, _, .inr ⟨rfl, rfl⟩, q, hlen keep⟩
theorem CX.crash {w wr : World} {d N : Nat} {K : Option Nat} {g0 : G} {good : G → List (List ByteArray) → Prop} (h : CX w wr d K N g0 good) {a : Option Addr} {keep : List Bool} (cap : Nat) (hk : Bools w a keep) :
    Calls Try.prog 16 #[.pointer (some ⟨d, 0, none⟩), .slice a keep.length cap] wr fun e w' => e = .returned (.tuple #[]) ∧ (∀ b, K = some b → w'.heap[b]? = wr.heap[b]?) ∧ ∃ g fs, good g fs ∧ CF w w' d K N g0 g fs := by
  obtain ⟨F, M, q1, q2, q3, q4, q5⟩ := h.dev
  have hk2 : Bools wr a keep := hk.turn (F := fun _ => False) (Turn.of_below h.bel) (fun _ _ h => h)
  have hcr := crash_any d a keep cap wr F M q1 hk2 (by
    intro hp ad e hf
    have hge := q2 _ hf
    rcases hk with h0 | ⟨b, off, e', hb, _⟩
    · rw [h0] at hp; simp at hp
    · rw [e'] at e
      simp only [Option.some.injEq] at e
      subst e
      simp at hge
      omega) (by omega)
  refine Calls.mono hcr ?_
  rintro e w' ⟨rfl, hD, hT⟩
  obtain ⟨g, fs, r1, r2, r3⟩ := q5 keep
  refine ⟨rfl, fun b e => hT.block b (q3 b e).2 (q3 b e).1, g, fs, r1, ⟨⟨_, _, hD, ?_, fun b e => ⟨?_, Nat.lt_of_lt_of_le (q3 b e).2 hT.size⟩, r2, r3⟩, h.bel.trans (hT.below q2 h.bel.size)⟩⟩
  · rintro k (hf | hf)
    · exact q2 k hf
    · have := h.bel.size; omega
  · rintro (hf | hf)
    · exact (q3 b e).1 hf
    · have := (q3 b e).2; omega
end Go.Proofs.Ytllmjlobhjcbkaa

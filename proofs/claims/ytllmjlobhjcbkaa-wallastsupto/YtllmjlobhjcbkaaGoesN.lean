/-
  A round of a law with failures: Append, a crash, and the log opened anew.
-/
import Derived.Test.YtllmjlobhjcbkaaGoes
namespace Go.Proofs.Ytllmjlobhjcbkaa
open Go.RowKit

/-- A row of frames all of whose blocks are new. -/
def RfsN (w : World) (base : Nat) (a : Option Addr) (LL : List (List ByteArray)) : Prop :=
  LL = [] ∨ ∃ b off, a = some ⟨b, off, none⟩ ∧ base ≤ b ∧ b < w.heap.size ∧ ∀ j (h : j < LL.length), ∃ x c, w.cell? ⟨b, off + j, none⟩ = some (.slice x LL[j].length c) ∧ Strs w x LL[j] ∧ (LL[j] ≠ [] → ∀ b' off', x = some ⟨b', off', none⟩ → base ≤ b')
theorem RfsN.rfs {w : World} {base : Nat} {a : Option Addr} {LL : List (List ByteArray)} (h : RfsN w base a LL) : Rfs w a LL := by
  rcases h with h | ⟨b, off, e, _, hl, hc⟩
  · exact .inl h
  · exact .inr ⟨b, off, e, hl, fun j hj => let ⟨x, c, h1, h2, _⟩ := hc j hj; ⟨x, c, h1, h2⟩⟩
theorem RfsN.below {w w' : World} {base : Nat} {a : Option Addr} {LL : List (List ByteArray)} (h : RfsN w base a LL) (hb : Below w.heap.size w w') : RfsN w' base a LL := by
  rcases h with h | ⟨b, off, rfl, h0, hl, hc⟩
  · exact .inl h
  · refine .inr ⟨b, off, rfl, h0, by have := hb.size; omega, fun j hj => ?_⟩
    obtain ⟨x, c, h1, h2, h3⟩ := hc j hj
    exact ⟨x, c, (hb.cell (p := ⟨b, off + j, none⟩) hl).trans h1, h2.below hb (Nat.le_refl _), h3⟩
theorem RfsN.grown {w w' : World} {base : Nat} {a : Option Addr} {LL : List (List ByteArray)} {K : Option Nat} (h : RfsN w base a LL) (hg : w.grownBy w' K) (hK : ∀ k, K = some k → k < base) : RfsN w' base a LL := by
  have hT : Turn (fun k => K = some k) w w' := Turn.of_grown hg (fun k e => e)
  rcases h with h | ⟨b, off, rfl, h0, hl, hc⟩
  · exact .inl h
  · refine .inr ⟨b, off, rfl, h0, by have := hT.size; omega, fun j hj => ?_⟩
    obtain ⟨x, c, h1, h2, h3⟩ := hc j hj
    refine ⟨x, c, (World.cell?_of_block (w := w) (a := ⟨b, off + j, none⟩) (hT.block b hl (fun e => by have := hK b e; omega))).trans h1, ?_, h3⟩
    refine h2.turn hT ?_
    intro hne ad e hk
    rcases h2 with h4 | ⟨b', off', e', _, _⟩
    · exact hne h4
    · rw [e'] at e
      simp only [Option.some.injEq] at e
      subst e
      have := hK _ hk
      have := h3 hne b' off' e'
      simp at *
      omega
theorem Fms.rfsN {w : World} {base : Nat} {v : Value} {LL : List (List ByteArray)} (h : Fms w base v LL) : ∃ a c, v = .slice a LL.length c ∧ RfsN w base a LL := by
  obtain ⟨vs, h1, h0, h2⟩ := h
  by_cases hL : LL.length = 0
  · obtain ⟨a, c, e⟩ := owns_shape h1
    exact ⟨a, c, e, .inl (List.length_eq_zero_iff.1 hL)⟩
  · obtain ⟨g, cap, rfl, _, hg, hlt⟩ := owns_head h1 (by omega)
    refine ⟨_, _, rfl, .inr ⟨g, 0, rfl, hg, hlt, fun j hj => ?_⟩⟩
    obtain ⟨x, c, h3, h4, h5⟩ := h2 j hj
    rw [Nat.zero_add]
    exact ⟨x, c, owns_cell h1 h3, h4, fun hn b off e => (h5 hn b off e).2⟩
theorem CF.openN {w wr : World} {d N p n ep : Nat} {K : Option Nat} {g : G} {fs : List (List ByteArray)} (h : CF w wr d K N (G.new p n ep) g fs) (h1 : 1 ≤ n) (hfit : p + n ≤ N) (hep : ep < 18446744073709551616) :
    Calls Try.prog 11 #[.pointer (some ⟨d, 0, none⟩), .int .i64 (p : Int), .int .i64 (n : Int), .int .u64 (ep : Int)] wr fun e w' => ∃ l a c, e = .returned (.tuple #[.pointer (some ⟨l, 0, none⟩), .slice a fs.length c, .int .i64 0]) ∧ RfsN w' wr.heap.size a fs ∧ Below wr.heap.size wr w' ∧ CF w w' d K N (G.new p n ep) g fs := by
  obtain ⟨F, M, q1, q2, q3, q4, q5⟩ := h.dev
  have hop := open_ok d p n ep wr F M q1 (by rw [q4.held.calm.st]; decide) q4.held.calm.sz h1 (by rw [q4.held.calm.l, q5]; exact hfit) hep
  rw [q4.held.opened] at hop
  refine Calls.mono hop ?_
  rintro e w2 ⟨l, v, rfl, hL2, hF2, hl1, hl2, _, _, hb2⟩
  obtain ⟨a, c, rfl, hr⟩ := hF2.rfsN
  exact ⟨l, a, c, rfl, hr, hb2, h.below hb2⟩

/-- What may have become of the log. -/
def Out (g : G) (fs : List (List ByteArray)) (L : List ByteArray) (ev : Int) (g' : G) (fs' : List (List ByteArray)) : Prop :=
  (ev = 0 ∧ g' = g.pass L ∧ fs' = fs ++ [L]) ∨ (ev = 60 ∧ g = g' ∧ fs = fs') ∨ (ev = 50 ∧ ((g' = g.pass L ∧ fs' = fs ++ [L]) ∨ (g = g' ∧ fs = fs')))
theorem CX.mono {w wr : World} {d N : Nat} {K : Option Nat} {g0 : G} {p q : G → List (List ByteArray) → Prop} (h : CX w wr d K N g0 p) (hpq : ∀ g fs, p g fs → q g fs) : CX w wr d K N g0 q := by
  obtain ⟨F, M, q1, q2, q3, q4, q5⟩ := h.dev
  exact ⟨⟨F, M, q1, q2, q3, q4, fun keep => let ⟨g, fs, r1, r2⟩ := q5 keep; ⟨g, fs, hpq g fs r1, r2⟩⟩, h.bel⟩
theorem CL.append2 {w wr : World} {d l N : Nat} {K : Option Nat} {g0 g : G} {fs : List (List ByteArray)} (h : CL w wr d l K N g0 g fs) (hn : g.nx ≤ 100000) {a : Option Addr} {L : List ByteArray} (c : Nat) (hs : Strs w a L) (hr : tot L ≤ 140737488355328) :
    Calls Try.prog 13 #[.pointer (some ⟨l, 0, none⟩), .slice a L.length c] wr fun e w' => ∃ ev : Int, e = .returned (.int .i64 ev) ∧ (∀ b, K = some b → w'.heap[b]? = wr.heap[b]?) ∧ CX w w' d K N g0 (Out g fs L ev) := by
  refine Calls.mono (h.append hn c hs hr) ?_
  rintro e w' ⟨h1, ev, rfl, ⟨rfl, q⟩ | ⟨rfl, q⟩ | ⟨rfl, q⟩⟩
  · exact ⟨_, rfl, h1, q.mono fun _ _ x => .inl ⟨rfl, x⟩⟩
  · exact ⟨_, rfl, h1, q.mono fun _ _ x => .inr (.inl ⟨rfl, x.1.symm, x.2.symm⟩)⟩
  · exact ⟨_, rfl, h1, q.mono fun _ _ x => .inr (.inr ⟨rfl, x.imp id fun y => ⟨y.1.symm, y.2.symm⟩⟩)⟩
theorem CF.klt {w wr : World} {d N : Nat} {K : Option Nat} {g0 g : G} {fs : List (List ByteArray)} (h : CF w wr d K N g0 g fs) : ∀ b, K = some b → b < wr.heap.size := by
  obtain ⟨F, M, _, _, q3, _⟩ := h.dev
  exact fun b e => (q3 b e).2
/-- Append, the crash, Open. -/
theorem CL.round {w wr : World} {d l N p n ep : Nat} {K : Option Nat} {g : G} {fs : List (List ByteArray)} (h : CL w wr d l K N (G.new p n ep) g fs) (hn : g.nx ≤ 100000) {a : Option Addr} {L : List ByteArray} (c : Nat) (hs : Strs w a L) (hr : tot L ≤ 140737488355328)
    {ka : Option Addr} {keep : List Bool} (kc : Nat) (hk : Bools w ka keep) (h1 : 1 ≤ n) (hfit : p + n ≤ N) (hep : ep < 18446744073709551616) :
    Calls Try.prog 13 #[.pointer (some ⟨l, 0, none⟩), .slice a L.length c] wr fun e w1 => ∃ ev : Int, e = .returned (.int .i64 ev) ∧
      Calls Try.prog 16 #[.pointer (some ⟨d, 0, none⟩), .slice ka keep.length kc] w1 fun e w2 => e = .returned (.tuple #[]) ∧
        Calls Try.prog 11 #[.pointer (some ⟨d, 0, none⟩), .int .i64 (p : Int), .int .i64 (n : Int), .int .u64 (ep : Int)] w2 fun e w3 => ∃ l' a' c' g' fs', e = .returned (.tuple #[.pointer (some ⟨l', 0, none⟩), .slice a' fs'.length c', .int .i64 0]) ∧ Out g fs L ev g' fs' ∧
          CF w w3 d K N (G.new p n ep) g' fs' ∧ (∀ b, K = some b → w3.heap[b]? = wr.heap[b]?) ∧ ∃ base, RfsN w3 base a' fs' ∧ ∀ b, K = some b → b < base := by
  refine Calls.mono (h.append2 hn c hs hr) ?_
  rintro e w1 ⟨ev, rfl, hk1, hx⟩
  refine ⟨ev, rfl, ?_⟩
  refine Calls.mono (hx.crash kc hk) ?_
  rintro e w2 ⟨rfl, hk2, g', fs', ho, hcf⟩
  refine ⟨rfl, ?_⟩
  refine Calls.mono (hcf.openN h1 hfit hep) ?_
  rintro e w3 ⟨l', a', c', rfl, hr3, hb3, hcf3⟩
  refine ⟨l', a', c', g', fs', rfl, ho, hcf3, ?_, w2.heap.size, hr3, hcf.klt⟩
  intro b e
  rw [hb3.block b (hcf.klt b e), hk2 b e, hk1 b e]
end Go.Proofs.Ytllmjlobhjcbkaa

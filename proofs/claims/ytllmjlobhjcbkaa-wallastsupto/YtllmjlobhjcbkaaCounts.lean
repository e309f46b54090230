/-
  A log of the law's own on a device that lives, between two of the law's steps.
-/
import Derived.Test.YtllmjlobhjcbkaaAwake
namespace Go.Proofs.Ytllmjlobhjcbkaa
open Go.RowKit

/-- The law's own list of frames: its texts lie in what came in. -/
def Done (w0 w : World) (v : Value) (fs : List (List ByteArray)) : Prop :=
  ∃ vs : List Value, w.ownsRow w0.heap.size 34 1 v fs.length vs ∧ ∀ j (h : j < fs.length), ∃ a c, vs[j]? = some (.slice a fs[j].length c) ∧ Strs w0 a fs[j]
theorem Done.nil (w0 w : World) : Done w0 w (.slice none 0 0) [] := ⟨[], World.ownsRow_nil _ _ _ _, fun j hj => by simp at hj⟩
theorem Done.shape {w0 w : World} {v : Value} {fs : List (List ByteArray)} (h : Done w0 w v fs) : ∃ a c, v = .slice a fs.length c := by
  obtain ⟨vs, h1, _⟩ := h
  exact owns_shape h1
theorem Done.other {w0 w w' : World} {v : Value} {fs : List (List ByteArray)} (h : Done w0 w v fs) (hh : ∀ b, v.ownBlock = some b → w'.heap[b]? = w.heap[b]?) : Done w0 w' v fs := by
  obtain ⟨vs, h1, h2⟩ := h
  exact ⟨vs, owns_other h1 hh, h2⟩
theorem Done.rfs {w0 w : World} {a : Option Addr} {n c : Nat} {fs : List (List ByteArray)} (h : Done w0 w (.slice a n c) fs) (hb : Below w0.heap.size w0 w) : Rfs w a fs := by
  obtain ⟨vs, h1, h2⟩ := h
  by_cases hL : fs.length = 0
  · exact .inl (List.length_eq_zero_iff.1 hL)
  · obtain ⟨g, cap, e, _, _, hlt⟩ := owns_head h1 (by omega)
    simp only [Value.slice.injEq] at e
    obtain ⟨rfl, rfl, rfl⟩ := e
    refine .inr ⟨g, 0, rfl, hlt, fun j hj => ?_⟩
    obtain ⟨x, c, h3, h4⟩ := h2 j hj
    rw [Nat.zero_add]
    exact ⟨x, c, owns_cell h1 h3, h4.below hb (Nat.le_refl _)⟩
theorem Done.lt {w0 w : World} {v : Value} {fs : List (List ByteArray)} (h : Done w0 w v fs) : ∀ b, v.ownBlock = some b → w0.heap.size ≤ b ∧ b < w.heap.size := by
  obtain ⟨vs, h1, _⟩ := h
  exact owns_lt h1

/-- One more frame. -/
theorem wpList_append_done {w0 w : World} {ops : Array Oper} {rest : List Oper} {o : Oper} {a : Act} {Q : Exit → Act → World → Prop} (hgd : o.guard = none) (s x : Operand)
    (ho : o.op = .call { callee := .builtin .append, args := #[s, x], argTypes := #[22, 22] }) (v : Value) (fs : List (List ByteArray)) (hs : a.eval s = v) (hD : Done w0 w v fs) (sb : Nat) (la : Option Addr) (L : List ByteArray) (lc : Nat) (hx : a.eval x = .slice (some ⟨sb, 0, none⟩) 1 1) (hcell : w.cell? ⟨sb, 0, none⟩ = some (.slice la L.length lc)) (hL : Strs w0 la L)
    (hlen : fs.length ≤ 100000) (hbase : w0.heap.size ≤ w.heap.size)
    (h : ∀ v' w', Done w0 w' v' (fs ++ [L]) → w.grownBy w' v.ownBlock → (v'.ownBlock = v.ownBlock ∨ ∀ b, v'.ownBlock = some b → w.heap.size ≤ b) → wpList Try.prog ops Q rest (a.put o.dst v') w') : wpList Try.prog ops Q (o :: rest) a w := by
  obtain ⟨i0, hi, hz0, hz1, hz2⟩ := info_parts info34
  obtain ⟨vs, hrow, hit⟩ := hD
  refine wpList_append_own2 hgd s x 22 ho w0.heap.size 34 i0 (.slice none 0 0) 1 24 Try.underlying22 hi hz0 hz1 hz2 rfl (by decide) v fs.length vs hs hrow ⟨sb, 0, none⟩ 1 1 [.slice la L.length lc] hx rfl ?_ (by intro u hu; simp at hu; rw [hu]; rfl) (by unfold maxLen; omega) (by omega) hbase ?_
  · intro j u hj
    rw [Addr.add_lit, Nat.zero_add]
    cases j with
    | zero => simp at hj; rw [hcell, ← hj]
    | succ j => simp at hj
  · intro v' w' ho' hg hnew
    have hvl : vs.length = fs.length := by have := hrow.1; omega
    refine h v' w' ⟨vs ++ [.slice la L.length lc], by rw [List.length_append]; exact ho', fun j hj => ?_⟩ hg hnew
    rw [List.length_append] at hj
    simp only [List.length_cons, List.length_nil] at hj
    by_cases hlt : j < fs.length
    · obtain ⟨a', c', h3, h4⟩ := hit j hlt
      refine ⟨a', c', ?_, ?_⟩
      · rw [List.getElem?_append_left (by omega), List.getElem_append_left hlt]; exact h3
      · rw [List.getElem_append_left hlt]; exact h4
    · obtain rfl : j = fs.length := by omega
      have e : (fs ++ [L])[fs.length] = L := by simp
      refine ⟨la, lc, ?_, ?_⟩
      · rw [List.getElem?_append_right (by omega), hvl, e]; simp
      · rw [e]; exact hL

/-- The log and its device. K: the block of the law's own list. -/
structure CI (w wr : World) (d l : Nat) (K : Option Nat) (g : G) (fs : List (List ByteArray)) : Prop where
  dev : ∃ F M, Dev wr F d M ∧ (∀ k, F k → w.heap.size ≤ k) ∧ ¬ F l ∧ (∀ b, K = some b → ¬ F b ∧ b ≠ l ∧ b < wr.heap.size) ∧ Held M (G.new 1 50 7) g fs ∧ M.S.length = 60 ∧ (fs = [] → M.S[1]? = some zsec)
  log : LogV wr l d g
  bel : Below w.heap.size w wr
  ll : w.heap.size ≤ l
theorem CI.facts {w wr : World} {d l : Nat} {K : Option Nat} {g : G} {fs : List (List ByteArray)} (h : CI w wr d l K g fs) : g.Ok ∧ g.nx = fs.length ∧ g.at' ≤ g.fin ∧ g.fin = 51 := by
  obtain ⟨F, M, _, _, _, _, hH, _⟩ := h.dev
  have hm := hH.ch.mono
  simp only [G.new] at hm
  exact ⟨hH.ok, by omega, hH.ok.le, by omega⟩
theorem CI.below {w wr w' : World} {d l : Nat} {K : Option Nat} {g : G} {fs : List (List ByteArray)} (h : CI w wr d l K g fs) (hb : Below wr.heap.size wr w') : CI w w' d l K g fs := by
  obtain ⟨F, M, q1, q2, q3, q4, q5⟩ := h.dev
  refine ⟨⟨F, M, q1.below hb, q2, q3, fun b e => ⟨(q4 b e).1, (q4 b e).2.1, Nat.lt_of_lt_of_le (q4 b e).2.2 hb.size⟩, q5⟩, (hb.block l (Array.getElem?_eq_some_iff.1 h.log).1).trans h.log, h.bel.trans (hb.mono h.bel.size), h.ll⟩
theorem CI.drew {w wr : World} {d l : Nat} {K : Option Nat} {g : G} {fs : List (List ByteArray)} (h : CI w wr d l K g fs) : CI w wr.drew d l K g fs := h.below ((Below.refl _ _).drew)
theorem CI.grown {w wr w' : World} {d l : Nat} {K K' : Option Nat} {g : G} {fs : List (List ByteArray)} (h : CI w wr d l K g fs) (hg : wr.grownBy w' K) (hK : ∀ b, K = some b → w.heap.size ≤ b) (hK' : K' = K ∨ ∀ b, K' = some b → wr.heap.size ≤ b) (hlt : ∀ b, K' = some b → b < w'.heap.size) : CI w w' d l K' g fs := by
  obtain ⟨F, M, q1, q2, q3, q4, q5⟩ := h.dev
  have hT : Turn (fun k => K = some k) wr w' := Turn.of_grown hg (fun k e => e)
  have hl := (Array.getElem?_eq_some_iff.1 h.log).1
  refine ⟨⟨F, M, q1.other hT (fun k hf e => (q4 k e).1 hf), q2, q3, ?_, q5⟩, (hT.block l hl (fun e => (q4 l e).2.1 rfl)).trans h.log, h.bel.trans (hT.below hK h.bel.size), h.ll⟩
  intro b e
  rcases hK' with rfl | hK'
  · exact ⟨(q4 b e).1, (q4 b e).2.1, hlt b e⟩
  · have := hK' b e
    refine ⟨fun hf => ?_, ?_, hlt b e⟩
    · have := q1.lts b hf; omega
    · rintro rfl; omega

theorem CI.append {w wr : World} {d l : Nat} {K : Option Nat} {g : G} {fs : List (List ByteArray)} (h : CI w wr d l K g fs) (hn : fs.length ≤ 1000) {a : Option Addr} {L : List ByteArray} (c : Nat) (hs : Strs w a L) (hr : tot L ≤ 140737488355328) :
    Calls Try.prog 13 #[.pointer (some ⟨l, 0, none⟩), .slice a L.length c] wr fun e w' => (∀ b, K = some b → w'.heap[b]? = wr.heap[b]?) ∧
      ((needN L ≤ g.fin - g.at' ∧ e = .returned (.int .i64 0) ∧ CI w w' d l K (g.pass L) (fs ++ [L])) ∨ (g.fin - g.at' < needN L ∧ e = .returned (.int .i64 60) ∧ CI w w' d l K g fs)) := by
  have hfa := h.facts
  obtain ⟨F, M, q1, q2, q3, q4, q5, q6, q7⟩ := h.dev
  have hsF : L ≠ [] → ∀ ad, a = some ad → ¬ F ad.block := by
    intro hn ad e hf
    have hge := q2 _ hf
    rcases hs with h0 | ⟨b, off, e', hb, _⟩
    · exact hn h0
    · rw [e'] at e
      simp only [Option.some.injEq] at e
      subst e
      simp at hge
      omega
  have hap := append_any l d g a L c wr F M q1 h.log hfa.1 q3 (hs.below h.bel (Nat.le_refl _)) hsF hr (by rw [q5.calm.c]; simp)
  refine Calls.mono hap ?_
  rintro e w' ⟨rfl, hD, hL, hT⟩
  have hll := h.ll
  have hbel : Below w.heap.size w w' := h.bel.trans (hT.below (by rintro k (hk | rfl); exact q2 k hk; exact hll) h.bel.size)
  have hsame : ∀ b, K = some b → w'.heap[b]? = wr.heap[b]? := fun b e => hT.block b (q4 b e).2.2 (by rintro (hf | hf); exact (q4 b e).1 hf; exact (q4 b e).2.1 hf)
  have hlw := (Array.getElem?_eq_some_iff.1 h.log).1
  have hFl : ¬ Grow F wr w' l := by rintro (hf | hf); exact q3 hf; omega
  have hKK : ∀ b, K = some b → ¬ Grow F wr w' b ∧ b ≠ l ∧ b < w'.heap.size := fun b e => ⟨by rintro (hf | hf); exact (q4 b e).1 hf; have := (q4 b e).2.2; omega, (q4 b e).2.1, Nat.lt_of_lt_of_le (q4 b e).2.2 hT.size⟩
  have hFw : ∀ k, Grow F wr w' k → w.heap.size ≤ k := by
    rintro k (hf | hf)
    · exact q2 k hf
    · have := h.bel.size; omega
  refine ⟨hsame, ?_⟩
  by_cases hfit : needN L ≤ g.fin - g.at'
  · obtain ⟨e1, e2, e3, e4⟩ := q5.append hfit (by omega)
    rw [e2] at hL
    refine .inl ⟨hfit, by rw [e1], ⟨⟨_, _, hD, hFw, hFl, hKK, e3, by rw [e4, q6], by simp⟩, hL, hbel, hll⟩⟩
  · have e0 := apF_full (M := M) (L := L) q5.live (by omega)
    rw [e0] at hD hL ⊢
    exact .inr ⟨by omega, rfl, ⟨⟨_, _, hD, hFw, hFl, hKK, q5, q6, q7⟩, hL, hbel, hll⟩⟩

theorem CI.open {w wr : World} {d l : Nat} {K : Option Nat} {g : G} {fs : List (List ByteArray)} (h : CI w wr d l K g fs) :
    Calls Try.prog 11 #[.pointer (some ⟨d, 0, none⟩), .int .i64 1, .int .i64 50, .int .u64 7] wr fun e w' => ∃ l' a c, e = .returned (.tuple #[.pointer (some ⟨l', 0, none⟩), .slice a fs.length c, .int .i64 0]) ∧ LogV w' l' d g ∧ Rfs w' a fs ∧ Below wr.heap.size wr w' := by
  obtain ⟨F, M, q1, q2, q3, q4, q5, q6, q7⟩ := h.dev
  have hop := open_ok d 1 50 7 wr F M q1 (by rw [q5.calm.st]; decide) q5.calm.sz (by omega) (by rw [q5.calm.l, q6]; omega) (by omega)
  rw [q5.opened] at hop
  refine Calls.mono hop ?_
  rintro e w2 ⟨l', v, rfl, hL2, hF2, _, _, _, _, hb2⟩
  obtain ⟨a, c, rfl, hr⟩ := hF2.rfs
  exact ⟨l', a, c, rfl, hL2, hr, hb2⟩
theorem CI.open8 {w wr : World} {d l : Nat} {K : Option Nat} {g : G} {fs : List (List ByteArray)} (h : CI w wr d l K g fs) :
    Calls Try.prog 11 #[.pointer (some ⟨d, 0, none⟩), .int .i64 1, .int .i64 50, .int .u64 8] wr fun e w' => ∃ l' a c, e = .returned (.tuple #[.pointer (some ⟨l', 0, none⟩), .slice a 0 c, .int .i64 0]) ∧ Below wr.heap.size wr w' := by
  obtain ⟨F, M, q1, q2, q3, q4, q5, q6, q7⟩ := h.dev
  have hop := open_ok d 1 50 8 wr F M q1 (by rw [q5.calm.st]; decide) q5.calm.sz (by omega) (by rw [q5.calm.l, q6]; omega) (by omega)
  have hno : fr M.S (G.new 1 50 8) = none := by
    cases hfs : fs with
    | nil => exact fr_zero0 (q7 hfs)
    | cons L r =>
      have hch := q5.ch
      rw [hfs] at hch
      have h1 := hch.1
      refine fr_none2 ?_
      have hst : (frHead M.S (G.new 1 50 7)).drop 8 = stampL (G.new 1 50 7) := by
        by_cases hx : (frHead M.S (G.new 1 50 7)).drop 8 = stampL (G.new 1 50 7)
        · exact hx
        · rw [fr_none2 hx] at h1; simp at h1
      rw [show frHead M.S (G.new 1 50 8) = frHead M.S (G.new 1 50 7) from rfl, hst]
      decide +kernel
  rw [frs_none 4999 hno] at hop
  refine Calls.mono hop ?_
  rintro e w2 ⟨l', v, rfl, hL2, hF2, _, _, _, _, hb2⟩
  obtain ⟨a, c, rfl, hr⟩ := hF2.rfs
  exact ⟨l', a, c, rfl, hb2⟩
theorem CI.pending {w wr : World} {d l : Nat} {K : Option Nat} {g : G} {fs : List (List ByteArray)} (h : CI w wr d l K g fs) : ∃ F M, Dev wr F d M ∧ M.C = [] := by
  obtain ⟨F, M, q1, q2, q3, q4, q5, q6, q7⟩ := h.dev
  exact ⟨F, M, q1, q5.calm.c⟩
end Go.Proofs.Ytllmjlobhjcbkaa

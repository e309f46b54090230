/-
  HttpPipes: what its loops keep.
-/
import Derived.Test.YtmodmeabjhaklabGreatDoorObT
import Derived.Test.YtmodmeabjhaklabGreatDoorOpenL
import Derived.Test.YtmodmeabjhaklabGreatDoorRunC
import Derived.Test.YtmodmeabjhaklabGreatDoorRfW
import Derived.Test.YtmodmeabjhaklabGreatDoorRunF
import Derived.Test.YtmodmeabjhaklabGreatDoorLawCuts
namespace Go.Proofs.YtmodmeabjhaklabGreatDoor
open Go.RowKit

/-- A request that was read, with the places of its headers and its body. -/
structure Ent where
  r : Rq4
  a : Option Addr
  c : Nat
  ba : Option Addr
  bc : Nat
instance : Inhabited Ent := ⟨⟨default, none, 0, none, 0⟩⟩
def ent4 (x : Ent) : List Value := [.string ⟨x.r.m.toArray⟩, .string ⟨x.r.t.toArray⟩, .slice x.a x.r.hs.length x.c, .slice x.ba x.r.b.length x.bc]
def entC (E : List Ent) : List Value := (E.map ent4).flatten
theorem entC_append (E : List Ent) (x : Ent) : entC (E ++ [x]) = entC E ++ ent4 x := by simp [entC]
theorem entC_length : ∀ E : List Ent, (entC E).length = E.length * 4
  | [] => rfl
  | x :: E => by
    have := entC_length E
    simp only [entC, List.map_cons, List.flatten_cons, List.length_append, List.length_cons] at this ⊢
    rw [this]
    simp only [ent4, List.length_cons, List.length_nil]
    omega
theorem entC_at : ∀ (E : List Ent) (i : Nat) (h : i < E.length) (k : Nat), k < 4 → (entC E)[i * 4 + k]? = (ent4 E[i])[k]?
  | [], i, h, _, _ => by simp at h
  | x :: E, 0, _, k, hk => by
    simp only [entC, List.map_cons, List.flatten_cons, Nat.zero_mul, Nat.zero_add, List.getElem_cons_zero]
    rw [List.getElem?_append_left (by simpa [ent4] using hk)]
  | x :: E, i + 1, h, k, hk => by
    have ih := entC_at E i (by simpa using h) k hk
    simp only [entC, List.map_cons, List.flatten_cons, List.getElem_cons_succ]
    rw [List.getElem?_append_right (by simp [ent4]; omega)]
    have e : (i + 1) * 4 + k - (ent4 x).length = i * 4 + k := by simp [ent4]; omega
    rw [e]
    exact ih
/-- Bytes that are printed requests, one behind the other. -/
def Pip : List UInt8 → List Ent → Prop
  | A, [] => A = []
  | A, x :: E => ∃ P B cl co, A = P ++ B ∧ parseL P = .done P.length x.r.m x.r.t x.r.hs x.r.b cl co ∧ Pip B E
theorem pip_snoc {P : List UInt8} {y : Ent} {cl co : Bool} (h : parseL P = .done P.length y.r.m y.r.t y.r.hs y.r.b cl co) : ∀ {E : List Ent} {A : List UInt8}, Pip A E → Pip (A ++ P) (E ++ [y])
  | [], A, hA => by
    have hA : A = [] := hA
    subst hA
    exact ⟨P, [], cl, co, by simp, h, rfl⟩
  | x :: E, A, ⟨P', B, c1, c2, h1, h2, h3⟩ => ⟨P', B ++ P, c1, c2, by rw [h1, List.append_assoc], h2, pip_snoc h h3⟩
theorem pip_used {P : List UInt8} {u : Nat} {a b : List UInt8} {hs : List Hd} {c : List UInt8} {x y : Bool} (h : parseL P = .done u a b hs c x y) : 0 < u := by
  have := parse_wait (l := []) P rfl (by simpa using h)
  simpa using this
/-- A request's rows, apart from those of F. -/
def Okk (w : World) (F : Nat → Prop) (x : Ent) : Prop :=
  Hdrs w x.a x.r.hs ∧ Bytes w x.ba x.r.b ∧ (x.r.hs ≠ [] → ∀ g off, x.a = some ⟨g, off, none⟩ → ¬ F g) ∧ (x.r.b ≠ [] → ∀ g off, x.ba = some ⟨g, off, none⟩ → ¬ F g)
theorem hdrs_lt {w : World} {a : Option Addr} {hs : List Hd} (h : Hdrs w a hs) (hn : hs ≠ []) : ∀ g off, a = some ⟨g, off, none⟩ → g < w.heap.size := by
  rcases h with h | ⟨b, off, h1, h2, _⟩
  · exact absurd h hn
  · intro g o e
    rw [h1] at e
    simp only [Option.some.injEq, Addr.mk.injEq] at e
    omega
theorem bytes_lt2 {w : World} {a : Option Addr} {l : List UInt8} (h : Bytes w a l) (hn : l ≠ []) : ∀ g off, a = some ⟨g, off, none⟩ → g < w.heap.size := by
  rcases h with h | ⟨b, off, h1, h2, _⟩
  · exact absurd h hn
  · intro g o e
    rw [h1] at e
    simp only [Option.some.injEq, Addr.mk.injEq] at e
    omega
theorem Okk.md {F G F' : Nat → Prop} {w w' : World} {x : Ent} (h : Okk w F x) (hm : Md G w w') (hG : ∀ k, k < w.heap.size → ¬ F k → ¬ G k) (hF : ∀ k, k < w.heap.size → ¬ F k → ¬ F' k) : Okk w' F' x := by
  obtain ⟨h1, h2, h3, h4⟩ := h
  refine ⟨?_, ?_, ?_, ?_⟩
  · by_cases hn : x.r.hs = []
    · exact .inl hn
    · exact h1.md hm (fun g off e => hG g (hdrs_lt h1 hn g off e) (h3 hn g off e))
  · by_cases hn : x.r.b = []
    · exact .inl hn
    · exact h2.md hm (fun g off e => hG g (bytes_lt2 h2 hn g off e) (h4 hn g off e))
  · intro hn g off e
    exact hF g (hdrs_lt h1 hn g off e) (h3 hn g off e)
  · intro hn g off e
    exact hF g (bytes_lt2 h2 hn g off e) (h4 hn g off e)
/-- The first loop's state: all bytes so far, the requests so far, and those whose rows stand (X). -/
structure Pg (w wr : World) (A : List UInt8) (E X : List Ent) (av ov : Value) : Prop where
  a : Rw wr w.heap.size av A
  o : wr.ownsRow w.heap.size 25 4 ov E.length (entC E)
  e : ∀ x ∈ X, Okk wr (fun k => av.ownBlock = some k ∨ ov.ownBlock = some k) x
  ap : ∀ k, av.ownBlock = some k → ov.ownBlock ≠ some k
  bl : Below w.heap.size w wr
theorem Pg.more {w wr W : World} {A : List UInt8} {E X : List Ent} {av ov : Value} (h : Pg w wr A E X av ov) (hb : Below wr.heap.size wr W) : Pg w W A E X av ov :=
  ⟨h.a.below hb, own_md h.o (Md.ofBelow (F := fun _ => False) hb) (fun _ _ h => h), fun x hx => (h.e x hx).md (Md.ofBelow (F := fun _ => False) hb) (fun _ _ _ h => h) (fun _ _ h => h), h.ap, h.bl.trans (hb.mono h.bl.size)⟩
theorem Pg.lt {w wr : World} {A : List UInt8} {E X : List Ent} {av ov : Value} (h : Pg w wr A E X av ov) : ∀ k, (av.ownBlock = some k ∨ ov.ownBlock = some k) → w.heap.size ≤ k ∧ k < wr.heap.size := by
  rintro k (hk | hk)
  · exact h.a.lt k hk
  · exact h.o.lt k hk
/-- One more request whose rows are new. -/
theorem Pg.entry {w wr W : World} {A : List UInt8} {E X : List Ent} {av ov : Value} (h : Pg w wr A E X av ov) (hb : Below wr.heap.size wr W) (x : Ent) (h1 : Hdrs W x.a x.r.hs) (h2 : Bytes W x.ba x.r.b) (h3 : ∀ y, x.a = some y → wr.heap.size ≤ y.block) (h4 : ∀ y, x.ba = some y → wr.heap.size ≤ y.block) : Pg w W A E (X ++ [x]) av ov := by
  have g := h.more hb
  refine ⟨g.a, g.o, ?_, g.ap, g.bl⟩
  intro y hy
  rcases List.mem_append.1 hy with hy | hy
  · exact g.e y hy
  · simp only [List.mem_singleton] at hy
    subst hy
    refine ⟨h1, h2, fun _ k off e hk => ?_, fun _ k off e hk => ?_⟩
    · have := (h.lt k hk).2
      have := h3 _ e
      simp only at this
      omega
    · have := (h.lt k hk).2
      have := h4 _ e
      simp only at this
      omega
theorem Pg.stepA {w wr W : World} {A A' : List UInt8} {E X : List Ent} {av av' ov : Value} (h : Pg w wr A E X av ov) (hk : ApR wr W w.heap.size av av' A') : Pg w W A' E X av' ov := by
  have hm := Md.ofGrown hk.grown
  refine ⟨hk.own, own_md h.o hm (fun j hj e => h.ap j e hj), fun x hx => (h.e x hx).md hm (fun k _ hn e => hn (.inl e)) (fun k hlt hn e => ?_), fun k e e2 => ?_, h.bl.grown hk.grown h.bl.size (fun k e => (h.a.lt k e).1)⟩
  · rcases e with e | e
    · rcases hk.place k e with e | e
      · exact hn (.inl e)
      · omega
    · exact hn (.inr e)
  · rcases hk.place k e with e3 | e3
    · exact h.ap k e3 e2
    · have := (h.o.lt k e2).2
      omega
theorem Pg.stepO {w wr W : World} {A : List UInt8} {E X : List Ent} {av ov ov' : Value} {x : Ent} (h : Pg w wr A E X av ov) (ho : W.ownsRow w.heap.size 25 4 ov' (E.length + 1) (entC E ++ ent4 x)) (hg : wr.grownBy W ov.ownBlock) (hp : ov'.ownBlock = ov.ownBlock ∨ ∀ k, ov'.ownBlock = some k → wr.heap.size ≤ k) : Pg w W A (E ++ [x]) X av ov' := by
  have hm := Md.ofGrown hg
  have place : ∀ k, ov'.ownBlock = some k → ov.ownBlock = some k ∨ wr.heap.size ≤ k := by
    intro k hk
    rcases hp with hp | hp
    · exact .inl (hp ▸ hk)
    · exact .inr (hp k hk)
  have ha : Rw W w.heap.size av A := by
    rcases h.a with h1 | ⟨g, cap, cur, fz, rfl, h2, h3, h4⟩
    · exact .inl h1
    · exact .inr ⟨g, cap, cur, fz, rfl, h2, keep_blk h3 hm (fun e => h.ap g rfl e), h4⟩
  refine ⟨ha, by rw [entC_append, List.length_append]; exact ho, fun y hy => (h.e y hy).md hm (fun k _ hn e => hn (.inr e)) (fun k hlt hn e => ?_), fun k e e2 => ?_, h.bl.grown hg h.bl.size (fun k e => (h.o.lt k e).1)⟩
  · rcases e with e | e
    · exact hn (.inl e)
    · rcases place k e with e | e
      · exact hn (.inr e)
      · omega
  · rcases place k e2 with e3 | e3
    · exact h.ap k e e3
    · have := (h.a.lt k e).2
      omega
/-- What lies at the place i of the requests. -/
theorem Pg.get {w wr : World} {A : List UInt8} {E X : List Ent} {av ov : Value} (h : Pg w wr A E X av ov) {i : Nat} (hi : i < E.length) : ∃ g cap, ov = .slice (some ⟨g, 0, none⟩) E.length cap ∧ g < wr.heap.size ∧
    wr.cell? ⟨g, i * 4, none⟩ = some (.string ⟨E[i].r.m.toArray⟩) ∧ wr.cell? ⟨g, i * 4 + 1, none⟩ = some (.string ⟨E[i].r.t.toArray⟩) ∧ wr.cell? ⟨g, i * 4 + 2, none⟩ = some (.slice E[i].a E[i].r.hs.length E[i].c) ∧ wr.cell? ⟨g, i * 4 + 3, none⟩ = some (.slice E[i].ba E[i].r.b.length E[i].bc) := by
  obtain ⟨g, cap, e⟩ : ∃ g cap, ov = .slice (some ⟨g, 0, none⟩) E.length cap := by
    rcases h.o.2 with ⟨_, h0⟩ | ⟨g, cap, cur, hv, _⟩
    · omega
    · exact ⟨g, cap, hv⟩
  have hlt := (h.o.lt g (by rw [e]; rfl)).2
  have ho := h.o
  rw [e] at ho
  have c : ∀ k, k < 4 → wr.cell? ⟨g, i * 4 + k, none⟩ = (ent4 E[i])[k]? := by
    intro k hk
    rw [ho.cellAt (i * 4 + k) (by omega), entC_at E i hi k hk]
  exact ⟨g, cap, e, hlt, c 0 (by omega), c 1 (by omega), c 2 (by omega), c 3 (by omega)⟩
theorem info25 : (Tryz.prog.info? 25).map (fun i => (i.zero, i.size, i.bytes)) = some (some (.agg #[.string ⟨#[]⟩, .string ⟨#[]⟩, .slice none 0 0, .slice none 0 0]), 4, 80) := by kernel_rfl
theorem ent_one (x : Ent) : ∀ u ∈ ent4 x, u.oneCell' = true := by
  intro u hu
  simp only [ent4, List.mem_cons, List.not_mem_nil, or_false] at hu
  rcases hu with rfl | rfl | rfl | rfl <;> rfl
end Go.Proofs.YtmodmeabjhaklabGreatDoor

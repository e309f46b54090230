/-
  Iterators whose rounds may lie within another one's rounds: a contract by the blocks that the caller owns, and the law of the statement that ranges over one.
-/
import Derived.RangeFuncNested
import Derived.RangeFuncBound
import Derived.RangeFuncLeaves
import Derived.Shelf.Abstract
import Derived.Shelf.RegionOpen
import Derived.WalkKit
import Derived.OwnWalkIn
import Derived.TacticsInMore
import Derived.LoopNIn
import Derived.LoopIn
import Derived.Test.YtpmjkgpmidejoaaProg
import Derived.Laws.AppendOwnNone
import Derived.Laws.Bits64b
import Derived.Below
import Derived.WalkSpells
import Derived.WalkLawsBesides
import Derived.OwnWalk
import Derived.Deep.QuietTactic
import Derived.BigQuiet
import Derived.Deep.RegionHeld3
import Derived.Laws.ResultCell
import Derived.BigRegion
import Derived.Deep.CutRange
import Derived.Deep.CutBlock
import Derived.Deep.DeepCutAuto
import Derived.Deep.RegionWith
namespace Go.Proofs.Ytpmjkgpmidejoaa.Al
open Go.RowKit Go.Shelf

/-- The blocks of K that were there lie as they lay. -/
structure Kep (K : Nat → Prop) (W W' : World) : Prop where
  os : W'.os = W.os
  tape : W'.tape = W.tape
  output : W'.output = W.output
  size : W.heap.size ≤ W'.heap.size
  keep : ∀ k, k < W.heap.size → K k → W'.heap[k]? = W.heap[k]?
theorem Kep.refl (K : Nat → Prop) (W : World) : Kep K W W := ⟨rfl, rfl, rfl, Nat.le_refl _, fun _ _ _ => rfl⟩
theorem Kep.trans {K : Nat → Prop} {A B C : World} (h : Kep K A B) (h2 : Kep K B C) : Kep K A C :=
  ⟨h2.os.trans h.os, h2.tape.trans h.tape, h2.output.trans h.output, Nat.le_trans h.size h2.size, fun k hk hK => (h2.keep k (Nat.lt_of_lt_of_le hk h.size) hK).trans (h.keep k hk hK)⟩
theorem Kep.mono {K K' : Nat → Prop} {A B : World} (h : Kep K A B) (hk : ∀ k, k < A.heap.size → K' k → K k) : Kep K' A B :=
  ⟨h.os, h.tape, h.output, h.size, fun k h1 h2 => h.keep k h1 (hk k h1 h2)⟩
theorem Kep.alloc (K : Nat → Prop) (W : World) (o : Obj) : Kep K W (W.alloc o) := ⟨rfl, rfl, rfl, by simp, fun k hk _ => Below.heap_alloc W o k hk⟩
theorem Kep.put {K : Nat → Prop} (W : World) {l : Nat} (o : Obj) (hl : ¬ K l) : Kep K W (W.putObj l o) :=
  ⟨rfl, rfl, rfl, by simp, fun k _ hK => World.putObj_heap_other (fun e => hl (e ▸ hK))⟩
theorem Kep.set {K : Nat → Prop} (W : World) {a : Addr} (v : Value) (hl : ¬ K a.block) : Kep K W (W.setCell a v) :=
  ⟨rfl, rfl, rfl, by simp [World.setCell], fun k _ hK => Below.heap_setCell W a v k (fun e => hl (e ▸ hK))⟩
theorem Kep.drew (K : Nat → Prop) (W : World) : Kep K W W.drew := ⟨rfl, rfl, rfl, Nat.le_refl _, fun _ _ _ => rfl⟩
theorem Kep.below {B : Nat} {W W' : World} (h : Kep (fun k => k < B) W W') (hB : B ≤ W.heap.size) : Below B W W' := ⟨h.os, h.tape, h.output, h.size, fun k hk => h.keep k (by omega) hk⟩
theorem Kep.of_below {B : Nat} {K : Nat → Prop} {W W' : World} (h : Below B W W') (hK : ∀ k, k < W.heap.size → K k → k < B) : Kep K W W' := ⟨h.os, h.tape, h.output, h.size, fun k h1 h2 => h.block k (hK k h1 h2)⟩

/-- A caller's step: it turns what it owns alone, and owns what is new. -/
structure Stp (M : Nat → Prop) (W : World) (M' : Nat → Prop) (W' : World) : Prop where
  kep : Kep (fun k => ¬ M k) W W'
  own : ∀ k, k < W.heap.size → M' k → M k
  lt : ∀ k, M' k → k < W'.heap.size
theorem Stp.refl {M : Nat → Prop} {W : World} (h : ∀ k, M k → k < W.heap.size) : Stp M W M W := ⟨Kep.refl _ W, fun _ _ h => h, h⟩
theorem Stp.trans {M1 M2 M3 : Nat → Prop} {A B C : World} (h : Stp M1 A M2 B) (h2 : Stp M2 B M3 C) : Stp M1 A M3 C :=
  ⟨⟨h2.kep.os.trans h.kep.os, h2.kep.tape.trans h.kep.tape, h2.kep.output.trans h.kep.output, Nat.le_trans h.kep.size h2.kep.size,
    fun k hk hM => (h2.kep.keep k (Nat.lt_of_lt_of_le hk h.kep.size) (fun h3 => hM (h.own k hk h3))).trans (h.kep.keep k hk hM)⟩,
   fun k hk h3 => h.own k hk (h2.own k (Nat.lt_of_lt_of_le hk h.kep.size) h3), h2.lt⟩

/-- What the caller holds abides steps that leave what it owns, and all that lay below B. -/
def Stab {α : Type} (B : Nat) (J : List α → (Nat → Prop) → World → Prop) : Prop :=
  ∀ pre M W W', J pre M W → Kep (fun k => k < B ∨ M k) W W' → J pre M W'
theorem Stab.up {α : Type} {B B' : Nat} {J : List α → (Nat → Prop) → World → Prop} (h : Stab B J) (hB : B ≤ B') : Stab B' J :=
  fun pre M W W' hj hk => h pre M W W' hj (hk.mono fun _ _ h2 => h2.imp (fun h3 => Nat.lt_of_lt_of_le h3 hB) id)

/-- What an iterator that reads the blocks R gives, one by one: just xs; or a part of it, a round having said 'no more'. -/
def Seq {α : Type} (P : Program) (g : Nat) (lb : Array Value) (encs : α → Array Value) (R : Nat → Prop) (xs : List α) (w : World) : Prop :=
  ∀ (n l : Nat) (J Jx : List α → (Nat → Prop) → World → Prop) (M X : Nat → Prop) (W : World),
    Kep R w W → (∀ k, M k → ¬ R k ∧ k < W.heap.size) → (∀ k, X k → k < W.heap.size) →
    Stab W.heap.size J → Stab W.heap.size Jx →
    (∀ m pre x M1 W1, J pre M1 W1 → pre ++ [x] <+: xs → YieldAt Fence.wide m P l (encs x) W1 fun e W' =>
      ∃ M', (Stp M1 W1 M' W' ∧ e = .returned (.bool true) ∧ J (pre ++ [x]) M' W') ∨ (Stp (fun k => M1 k ∨ X k) W1 M' W' ∧ e = .returned (.bool false) ∧ Jx (pre ++ [x]) M' W')) →
    J [] M W →
    CallsIn Fence.wide n P g (#[.func (.yield l) #[] #[]] ++ lb) W fun e W' => (∃ v, e = .returned v) ∧ ∃ M', J xs M' W' ∨ ∃ pre, pre <+: xs ∧ Jx pre M' W'

/-- How a round's body may be left. -/
def rPost {α : Type} (I : List α → (Nat → Prop) → World → Prop) (Ix : Code → List α → (Nat → Prop) → World → Prop) (X : Nat → Prop) (xs : List α) (M : Nat → Prop) (W : World) : Exit → Act → World → Prop
  | .normal, _, W' => ∃ M', Stp M W M' W' ∧ I xs M' W'
  | .ret, _, W' => ∃ M', Stp (fun k => M k ∨ X k) W M' W' ∧ Ix .ret xs M' W'
  | .exit id, _, W' => ∃ M', Stp (fun k => M k ∨ X k) W M' W' ∧ Ix (.exit id) xs M' W'
  | .goto t, _, W' => ∃ M', Stp (fun k => M k ∨ X k) W M' W' ∧ Ix (.goto t) xs M' W'
  | .panic _, _, _ => False
  | .outgrown, _, _ => False

theorem range_law {α : Type} {P : Program} {n : Nat} {g : Operand} {ps : Array Tmp} {assign body : Code} {Q : Exit → Act → World → Prop} {a : Act} {w : World}
    {gf : Nat} {lb : Array Value} (hg : a.eval g = .func (.func gf) #[] lb) (eg : ∀ args w, (callFunc gf args).run P w = .ok (.enter gf args) w)
    {encs : α → Array Value} {R : Nat → Prop} {xs : List α} (hseq : Seq P gf lb encs R xs w) (hR : ∀ k, R k → k < w.heap.size) (hps : ∀ x, (encs x).size = ps.size)
    (I : List α → (Nat → Prop) → World → Prop) (Ix : Code → List α → (Nat → Prop) → World → Prop) (hI : Stab w.heap.size I) (hIx : ∀ c, Stab w.heap.size (Ix c))
    (M0 X : Nat → Prop) (hM0 : ∀ k, M0 k → ¬ R k ∧ k < w.heap.size) (hX : ∀ k, X k → k < w.heap.size) (h0 : I [] M0 w) (a₁ : α → Act)
    (hassign : ∀ (m l : Nat) (x : α) (W : World) (K : Act → World → Prop), K (a₁ x) W →
      assign.wpIn (Fence.wide.inRound l) m P (Exit.then K (fun _ _ _ => False)) { tmps := (ps.zip (encs x)).foldl (fun t (p, v) => t.setIfInBounds p v) a.tmps, defers := [] } W)
    (hbody : ∀ (m l : Nat) (pre : List α) (x : α) (M : Nat → Prop) (W : World), I pre M W → pre ++ [x] <+: xs → body.wpIn (Fence.wide.inRound l) m P (rPost I Ix X (pre ++ [x]) M W) (a₁ x) W)
    (hdone : ∀ (D : Nat) (M : Nat → Prop) (W : World), w.heap.size ≤ D → ¬ M D → I xs M W → W.heap[D]? = some (.deferred (some [])) → Q .normal { a with defers := { target := .collected D, args := #[] } :: a.defers } W)
    (hstop : ∀ (D : Nat) (c : Code) (pre : List α) (M : Nat → Prop) (W : World), w.heap.size ≤ D → ¬ M D → pre <+: xs → Ix c pre M W → W.heap[D]? = some (.deferred (some [])) → c.wpIn Fence.wide n P Q { a with defers := { target := .collected D, args := #[] } :: a.defers } W) :
    (Code.rangeFunc g ps assign body).wpIn Fence.wide n P Q a w := by
  refine wpIn_rangeFunc ?_
  intro fn hfn
  obtain ⟨r, hr⟩ : ∃ r, r = w.heap.size + 1 := ⟨_, rfl⟩
  obtain ⟨d, hd⟩ : ∃ d, d = w.heap.size := ⟨_, rfl⟩
  obtain ⟨rec, hrec⟩ : ∃ rec : LoopState → Option Code → Loop, rec = fun st pe => { state := st, pending := pe, fn, tmps := a.tmps, params := ps, assign, body, defers := d } := ⟨_, rfl⟩
  obtain ⟨W1, hW1⟩ : ∃ W1, (w.alloc (.deferred (some []))).alloc (.loop (rec .ready none)) = W1 := ⟨_, rfl⟩
  have hs1 : W1.heap.size = w.heap.size + 2 := by rw [← hW1]; simp
  have hL1 : W1.heap[r]? = some (.loop (rec .ready none)) := by
    rw [← hW1, hr]
    have := World.alloc_heap_new (w.alloc (.deferred (some []))) (.loop (rec .ready none))
    rwa [World.size_alloc] at this
  have hK1 : W1.heap[d]? = some (.deferred (some [])) := by
    rw [← hW1, hd]
    exact (Below.heap_alloc _ _ _ (by simp)).trans (World.alloc_heap_new w _)
  have hk01 : ∀ K, Kep K w W1 := fun K => by
    rw [← hW1]
    exact (Kep.alloc K w _).trans (Kep.alloc K _ _)
  have e1 : (Instr.enterLoop fn a.tmps ps assign body Fence.wide.round).run P w = .ok (r, [{ target := .collected d, args := #[] }]) W1 := by
    rw [← hW1, hrec, hr, hd]
    exact run_enterLoop_outer _ _ _ _ _
  refine ⟨r, [{ target := .collected d, args := #[] }], W1, { target := .fn (.func gf) lb, args := #[.func (.yield r) #[] #[]] }, W1, gf, #[.func (.yield r) #[] #[]] ++ lb, W1, e1, ?_, fun _ _ => trivial, ?_, fun h => (by cases h), ?_⟩
  · simp only [resolve, hg]
    simp [go_sem]
  · simp [invoke, go_sem, eg]
  have hJs : ∀ (A : List α → (Nat → Prop) → World → Prop) (X : Loop → Prop), Stab w.heap.size A → Stab W1.heap.size (fun pre M' W => ∃ M, (∀ k, M' k ↔ (M k ∨ k = r ∨ k = d)) ∧ A pre M W ∧ ¬ M r ∧ ¬ M d ∧ (∃ q, W.heap[r]? = some (.loop q) ∧ X q) ∧ W.heap[d]? = some (.deferred (some []))) := by
    intro A X hA pre M' W W' ⟨M, hM, hi, hMr, hMd, ⟨q, hq, hX⟩, hdd⟩ hk
    refine ⟨M, hM, hA _ _ _ _ hi (hk.mono fun k _ h2 => h2.imp (fun h3 => by omega) (fun h3 => (hM k).2 (.inl h3))), hMr, hMd, ⟨q, (hk.keep r (Array.getElem?_eq_some_iff.1 hq).1 (.inl (by omega))).trans hq, hX⟩, (hk.keep d (Array.getElem?_eq_some_iff.1 hdd).1 (.inl (by omega))).trans hdd⟩
  refine (hseq (n - 1) r (fun pre M' W => ∃ M, (∀ k, M' k ↔ (M k ∨ k = r ∨ k = d)) ∧ I pre M W ∧ ¬ M r ∧ ¬ M d ∧ (∃ q, W.heap[r]? = some (.loop q) ∧ q = rec .ready none) ∧ W.heap[d]? = some (.deferred (some [])))
    (fun pre M' W => ∃ c, ∃ M, (∀ k, M' k ↔ (M k ∨ k = r ∨ k = d)) ∧ Ix c pre M W ∧ ¬ M r ∧ ¬ M d ∧ (∃ q, W.heap[r]? = some (.loop q) ∧ q = rec .done (some c)) ∧ W.heap[d]? = some (.deferred (some [])))
    (fun k => M0 k ∨ k = r ∨ k = d) X W1 (hk01 R) ?_ (fun k hk => by have := hX k hk; omega) (hJs I _ hI) ?_ ?_ ?_).mono ?_
  · rintro k (h | h | h)
    · have := hM0 k h; exact ⟨this.1, by omega⟩
    · exact ⟨fun h2 => by have := hR k h2; omega, by omega⟩
    · exact ⟨fun h2 => by have := hR k h2; omega, by omega⟩
  · rintro pre M W W' ⟨c, h⟩ hk
    exact ⟨c, hJs (Ix c) _ (hIx c) pre M W W' h hk⟩
  · -- one round
    rintro m pre x M1 W ⟨M, hM, hi, hMr, hMd, ⟨q, hl, rfl⟩, hk⟩ hpre
    have hrl : r < W.heap.size := (Array.getElem?_eq_some_iff.1 hl).1
    have hdl : d < W.heap.size := (Array.getElem?_eq_some_iff.1 hk).1
    have hy := run_yield (P := P) (args := encs x) hl (by rw [hrec]; exact hps x)
    rw [hrec] at hy
    refine ⟨fn, _, assign, body, hy, roundIn_of_wpIn hfn (hassign m _ x W _ ?_)⟩
    clear hy
    refine ⟨_, run_beginRound hl (by rw [hrec]), ?_⟩
    obtain ⟨W2, hW2⟩ : ∃ W2, W.putObj r (.loop { rec .ready none with state := .busy }) = W2 := ⟨_, rfl⟩
    have hl2 : W2.heap[r]? = some (.loop { rec .ready none with state := .busy }) := by rw [← hW2]; exact World.putObj_heap_same hrl
    have hk2 : W2.heap[d]? = some (.deferred (some [])) := by rw [← hW2]; exact (World.putObj_heap_other (by omega)).trans hk
    have hs2 : W2.heap.size = W.heap.size := by rw [← hW2]; simp
    have hi2 : I pre M W2 := by
      refine hI _ _ _ _ hi ?_
      rw [← hW2]
      exact Kep.put W _ (fun h => h.elim (fun h => by omega) hMr)
    have ho2 : ∀ k, k ≠ r → W2.heap[k]? = W.heap[k]? := fun k hk => by rw [← hW2]; exact World.putObj_heap_other hk
    have hw2 : W2.os = W.os ∧ W2.tape = W.tape ∧ W2.output = W.output := by rw [← hW2]; exact ⟨rfl, rfl, rfl⟩
    have e2 : W.putObj r (.loop { rec .ready none with state := .busy }) = W2 := hW2
    rw [e2]
    clear e2 hW2
    have fin : ∀ (jump : Option Code) (Y M' : Nat → Prop) (W3 : World), (∀ k, Y k → k < w.heap.size) → Stp (fun k => M k ∨ Y k) W2 M' W3 → ∃ W4,
        (Instr.endRound r jump).run P W3 = .ok (.bool jump.isNone) W4 ∧ Stp (fun k => M1 k ∨ Y k) W (fun k => M' k ∨ k = r ∨ k = d) W4 ∧ ¬ M' r ∧ ¬ M' d ∧ W4.heap[r]? = some (.loop (rec (if jump.isNone then .ready else .done) jump)) ∧ W4.heap[d]? = some (.deferred (some [])) ∧ Kep (fun k => k < w.heap.size ∨ M' k) W3 W4 := by
      intro jump Y M' W3 hY hst
      have hYr : ¬ (M r ∨ Y r) := fun h => h.elim hMr (fun h => by have := hY r h; omega)
      have hYd : ¬ (M d ∨ Y d) := fun h => h.elim hMd (fun h => by have := hY d h; omega)
      have hr3 := (hst.kep.keep r (by omega) hYr).trans hl2
      have hd3 := (hst.kep.keep d (by omega) hYd).trans hk2
      have hz3 := hst.kep.size
      have hM'r : ¬ M' r := fun h => hYr (hst.own r (by omega) h)
      have hM'd : ¬ M' d := fun h => hYd (hst.own d (by omega) h)
      refine ⟨_, run_endRound (P := P) jump hr3, ⟨⟨?_, ?_, ?_, ?_, ?_⟩, ?_, ?_⟩, hM'r, hM'd, ?_, (World.putObj_heap_other (by omega)).trans hd3, Kep.put W3 _ (fun h => h.elim (fun h => by omega) hM'r)⟩
      · exact hst.kep.os.trans hw2.1
      · exact hst.kep.tape.trans hw2.2.1
      · exact hst.kep.output.trans hw2.2.2
      · simp; omega
      · intro k hk hMk
        have hkr : k ≠ r := fun e => hMk (.inl ((hM k).2 (.inr (.inl e))))
        rw [World.putObj_heap_other hkr, hst.kep.keep k (by omega) (fun h => hMk (h.imp (fun h => (hM k).2 (.inl h)) id))]
        exact ho2 k hkr
      · rintro k hk (h | h | h)
        · exact (hst.own k (by omega) h).imp (fun h => (hM k).2 (.inl h)) id
        · exact .inl ((hM k).2 (.inr (.inl h)))
        · exact .inl ((hM k).2 (.inr (.inr h)))
      · rintro k (h | h | h)
        · have := hst.lt k h; simpa using this
        · simp; omega
        · simp; omega
      · rw [World.putObj_heap_same (by omega), hrec]
    refine wpIn_mono (hbody m _ pre x M W2 hi2 hpre) ?_
    have stop : ∀ (c : Code) (M' : Nat → Prop) (W3 : World), Stp (fun k => M k ∨ X k) W2 M' W3 → Ix c (pre ++ [x]) M' W3 → ∃ v w', (Instr.endRound r (some c)).run P W3 = .ok v w' ∧ ∃ M'', ((Stp M1 W M'' w' ∧ Ending.returned v = .returned (.bool true) ∧ ∃ M, (∀ k, M'' k ↔ (M k ∨ k = r ∨ k = d)) ∧ I (pre ++ [x]) M w' ∧ ¬ M r ∧ ¬ M d ∧ (∃ q, w'.heap[r]? = some (.loop q) ∧ q = rec .ready none) ∧ w'.heap[d]? = some (.deferred (some []))) ∨
        (Stp (fun k => M1 k ∨ X k) W M'' w' ∧ Ending.returned v = .returned (.bool false) ∧ ∃ c, ∃ M, (∀ k, M'' k ↔ (M k ∨ k = r ∨ k = d)) ∧ Ix c (pre ++ [x]) M w' ∧ ¬ M r ∧ ¬ M d ∧ (∃ q, w'.heap[r]? = some (.loop q) ∧ q = rec .done (some c)) ∧ w'.heap[d]? = some (.deferred (some [])))) := by
      intro c M' W3 hst hix
      obtain ⟨W4, f1, f2, f3, f4, f5, f6, f7⟩ := fin (some c) X M' W3 hX hst
      exact ⟨_, _, f1, _, .inr ⟨f2, rfl, c, M', fun _ => Iff.rfl, hIx c _ _ _ _ hix f7, f3, f4, ⟨_, f5, rfl⟩, f6⟩⟩
    rintro e a3 W3 hp
    cases e with
    | normal =>
      obtain ⟨M', hst, hi3⟩ := hp
      obtain ⟨W4, f1, f2, f3, f4, f5, f6, f7⟩ := fin none (fun _ => False) M' W3 (fun _ h => h.elim) (by simpa using hst)
      exact ⟨_, _, f1, _, .inl ⟨by simpa using f2, rfl, M', fun _ => Iff.rfl, hI _ _ _ _ hi3 f7, f3, f4, ⟨_, f5, rfl⟩, f6⟩⟩
    | ret =>
      obtain ⟨M', hst, hi3⟩ := hp
      exact stop .ret M' W3 hst hi3
    | exit id =>
      obtain ⟨M', hst, hi3⟩ := hp
      exact stop (.exit id) M' W3 hst hi3
    | goto t =>
      obtain ⟨M', hst, hi3⟩ := hp
      exact stop (.goto t) M' W3 hst hi3
    | panic ch => exact hp.elim
    | outgrown => exact hp.elim
  · exact ⟨M0, fun _ => Iff.rfl, hI _ _ _ _ h0 (hk01 _), fun h => by have := hM0 r h; omega, fun h => by have := hM0 d h; omega, ⟨_, hL1, rfl⟩, hK1⟩
  · rintro e W2 ⟨⟨v, rfl⟩, M', (⟨M, hM, hi, hMr, hMd, ⟨q, hl, rfl⟩, hk⟩ | ⟨pre, hpre, c, M, hM, hi, hMr, hMd, ⟨q, hl, rfl⟩, hk⟩)⟩
    · refine ⟨none, _, by have := run_endLoop (P := P) hl (by rw [hrec]; simp); rw [hrec] at this; exact this, hdone d M _ (by omega) hMd (hI _ _ _ _ hi (Kep.put W2 _ (fun h => h.elim (fun h => by omega) hMr))) ((World.putObj_heap_other (by omega)).trans hk)⟩
    · refine ⟨some c, _, by have := run_endLoop (P := P) hl (by rw [hrec]; simp); rw [hrec] at this; exact this, hstop d c pre M _ (by omega) hMd hpre (hIx c _ _ _ _ hi (Kep.put W2 _ (fun h => h.elim (fun h => by omega) hMr))) ((World.putObj_heap_other (by omega)).trans hk)⟩

theorem RoundIn.deep {m m' : Nat} {P : Program} {l : Nat} {f : FuncId} {tmps : Array Value} {assign body : Code} {w : World} {R : Ending → World → Prop}
    (h : RoundIn Fence.wide m P l f tmps assign body w R) : RoundIn Fence.wide m' P l f tmps assign body w R := ⟨h.1, fun c cs _ => h.2 c cs (fun d hd => by cases hd)⟩
end Go.Proofs.Ytpmjkgpmidejoaa.Al
/-
  A space of units in memory: its size and its words, a bit a unit; asking and flipping one unit.
-/
namespace Go.Proofs.Ytpmjkgpmidejoaa.Al
open Go.RowKit

theorem ret_bool {p q : Bool} (g : p = q) : Ending.returned (.bool p) = .returned (.bool q) := by rw [g]
theorem ret_int {k : IntKind} {a b : Int} (h : a = b) : Ending.returned (.int k a) = .returned (.int k b) := by rw [h]
theorem cell_blk {w : World} {g : Nat} {c : Array Value} {t : TypeId} (h : w.heap[g]? = some (.cells c t (0, 0))) (j : Nat) : w.cell? ⟨g, j, none⟩ = c[j]? := by simp [World.cell?, h]
theorem frozen_blk {w : World} {g : Nat} {c : Array Value} {t : TypeId} (h : w.heap[g]? = some (.cells c t (0, 0))) (j : Nat) : w.frozen? ⟨g, j, none⟩ = false := by
  simp only [World.frozen?, h]
  rw [Bool.and_eq_false_iff]
  right
  exact decide_eq_false (by omega)
theorem set_blk {w : World} {g : Nat} {c : Array Value} {t : TypeId} (h : w.heap[g]? = some (.cells c t (0, 0))) (j : Nat) (u : Value) : (w.setCell ⟨g, j, none⟩ u).heap[g]? = some (.cells (c.setIfInBounds j u) t (0, 0)) := by
  simp only [World.setCell, Array.getElem?_modify]
  rw [if_pos trivial, h]
  simp

/-- The cells of a space: its size, then its words. -/
def scells (n : Nat) (W : Nat → Nat) : List Value := .int .i64 (n : Int) :: (List.range 64).map fun q => .int .u64 (W q : Int)
theorem scells_len (n : Nat) (W : Nat → Nat) : (scells n W).length = 65 := by simp [scells]
theorem scells_word (n : Nat) (W : Nat → Nat) {q : Nat} (h : q < 64) : (scells n W)[1 + q]? = some (.int .u64 (W q : Int)) := by
  rw [Nat.add_comm, scells, List.getElem?_cons_succ]
  simp [h]
theorem scells_set (n : Nat) (W : Nat → Nat) {q : Nat} (h : q < 64) (x : Nat) : (scells n W).set (1 + q) (.int .u64 (x : Int)) = scells n (fun p => if p = q then x else W p) := by
  rw [Nat.add_comm, scells, scells, List.set_cons_succ]
  congr 1
  apply List.ext_getElem?
  intro i
  rw [List.getElem?_set]
  by_cases hi : i < 64
  · by_cases e : q = i
    · subst e; simp [h]
    · simp [e, hi, Ne.symm e]
  · simp [hi]
    omega
/-- A space in memory. -/
structure Spc (w : World) (b : Nat) (L : List Bool) : Prop where
  len : L.length ≤ 4096
  blk : ∃ W : Nat → Nat, (∀ q, W q < 18446744073709551616) ∧ w.heap[b]? = some (.cells (scells L.length W).toArray 129 (0, 0)) ∧ ∀ u (h : u < L.length), (W (u / 64)).testBit (u % 64) = L[u]
theorem Spc.lt {w : World} {b : Nat} {L : List Bool} (h : Spc w b L) : b < w.heap.size := by
  obtain ⟨_, W, _, hb, _⟩ := h
  exact (Array.getElem?_eq_some_iff.1 hb).1
theorem Spc.size {w : World} {b : Nat} {L : List Bool} (h : Spc w b L) : w.cell? ⟨b, 0, none⟩ = some (.int .i64 (L.length : Int)) := by
  obtain ⟨_, W, _, hb, _⟩ := h
  rw [cell_blk hb]
  simp [scells]
theorem Spc.kept {w w' : World} {b : Nat} {L : List Bool} (h : Spc w b L) (hk : w'.heap[b]? = w.heap[b]?) : Spc w' b L := by
  obtain ⟨hl, W, h1, hb, h2⟩ := h
  exact ⟨hl, W, h1, hk.trans hb, h2⟩
theorem Spc.below {w w' : World} {b : Nat} {L : List Bool} (h : Spc w b L) (hk : Below w.heap.size w w') : Spc w' b L := h.kept (hk.block _ h.lt)

theorem bit_of (x r : Nat) (hx : x < 18446744073709551616) (_hr : r < 64) : (bits .and .u64 ((x : Int) / 2 ^ r) 1 == 1) = x.testBit r := by
  have e0 : ((2 : Int) ^ r) = ((2 ^ r : Nat) : Int) := by rw [Int.natCast_pow]; rfl
  have e1 : (x : Int) / 2 ^ r = ((x / 2 ^ r : Nat) : Int) := by rw [e0]; rfl
  rw [e1, show (1 : Int) = ((1 : Nat) : Int) from rfl, bits_and_u64_nat _ _ (Nat.lt_of_le_of_lt (Nat.div_le_self _ _) hx) (by omega), Nat.and_one_is_mod, Nat.testBit_eq_decide_div_mod_eq]
  by_cases h : x / 2 ^ r % 2 = 1
  · rw [h]; simp
  · rw [decide_eq_false h]
    have : x / 2 ^ r % 2 = 0 := by omega
    rw [this]; rfl

theorem taken_any (w : World) (b : Nat) (L : List Bool) (u : Nat) (h : Spc w b L) (hu : u < L.length) :
    Calls Try.prog 83 #[.pointer (some ⟨b, 0, none⟩), .int .i64 (u : Int)] w fun e w' => e = .returned (.bool L[u]) ∧ w = w' := by
  obtain ⟨hl, W, h1, hb, h2⟩ := h
  obtain ⟨q, hq⟩ : ∃ q, q = u / 64 := ⟨_, rfl⟩
  obtain ⟨r, hr⟩ : ∃ r, r = u % 64 := ⟨_, rfl⟩
  have hq64 : q < 64 := by omega
  have hr64 : r < 64 := by omega
  have c1 : w.cell? ⟨b, 1 + q, none⟩ = some (.int .u64 (W q : Int)) := by rw [cell_blk hb]; simpa using scells_word L.length W hq64
  have hbit := h2 u hu
  rw [← hq, ← hr, ← bit_of _ _ (h1 q) hr64] at hbit
  rw [← hbit]
  have e1 : Int.tdiv (u : Int) 64 = (q : Int) := by rw [hq]; exact (Int.ofNat_tdiv u 64).symm
  have e2 : Int.tmod (u : Int) 64 = (r : Int) := by rw [hr]; exact (Int.ofNat_tmod u 64).symm
  obtain ⟨x, hx⟩ : ∃ x, x = W q := ⟨_, rfl⟩
  rw [← hx] at c1 ⊢
  clear hx hq hr hb h2 h1 hbit hu hl
  go_enter Try.func83, Try.ntmps83
  go_wp2
  go_ret
  exact ⟨rfl, rfl⟩

theorem bits_xor_u64_nat (a b : Nat) (ha : a < 18446744073709551616) (hb : b < 18446744073709551616) :
    bits .xor .u64 (a : Int) (b : Int) = ((a ^^^ b : Nat) : Int) := by
  have hx : a ^^^ b < 2 ^ 64 := Nat.xor_lt_two_pow (by omega) (by omega)
  have h1 : (BitVec.ofInt 64 (a : Int)).toNat = a := by
    rw [BitVec.ofInt_natCast, BitVec.toNat_ofNat]; exact Nat.mod_eq_of_lt (by omega)
  have h2 : (BitVec.ofInt 64 (b : Int)).toNat = b := by
    rw [BitVec.ofInt_natCast, BitVec.toNat_ofNat]; exact Nat.mod_eq_of_lt (by omega)
  show IntKind.u64.wrap ((BitVec.ofInt 64 (a : Int) ^^^ BitVec.ofInt 64 (b : Int)).toNat : Int) = _
  rw [BitVec.toNat_xor, h1, h2, IntKind.wrap_u64]
  omega

theorem flip_bit (W : Nat → Nat) (L : List Bool) (u : Nat) (hu : u < L.length) (h2 : ∀ v (h : v < L.length), (W (v / 64)).testBit (v % 64) = L[v]) :
    ∀ v (h : v < (L.set u (!L[u])).length), ((fun p => if p = u / 64 then W (u / 64) ^^^ 2 ^ (u % 64) else W p) (v / 64)).testBit (v % 64) = (L.set u (!L[u]))[v] := by
  intro v hv
  rw [List.length_set] at hv
  rw [List.getElem_set]
  dsimp only
  by_cases e : u = v
  · subst e
    rw [if_pos rfl, if_pos rfl, Nat.testBit_xor, h2 u hu, Nat.testBit_two_pow_self]
    simp
  · rw [if_neg e]
    by_cases e2 : v / 64 = u / 64
    · rw [if_pos e2, Nat.testBit_xor, ← e2, h2 v hv, Nat.testBit_two_pow, decide_eq_false (by omega)]
      simp
    · rw [if_neg e2, h2 v hv]
theorem flip_val (x r : Nat) (hx : x < 18446744073709551616) (hr : r < 64) : bits .xor .u64 (x : Int) (IntKind.u64.wrap (2 ^ r)) = ((x ^^^ 2 ^ r : Nat) : Int) ∧ x ^^^ 2 ^ r < 18446744073709551616 := by
  have e0 : ((2 : Int) ^ r) = ((2 ^ r : Nat) : Int) := by rw [Int.natCast_pow]; rfl
  have h2 : 2 ^ r < 2 ^ 64 := Nat.pow_lt_pow_right (by omega) hr
  have h3 : 2 ^ r < 18446744073709551616 := h2
  have e1 : IntKind.u64.wrap (2 ^ r) = ((2 ^ r : Nat) : Int) := by
    rw [e0]
    generalize 2 ^ r = y at h3
    rw [IntKind.wrap_u64]
    omega
  rw [e1]
  exact ⟨bits_xor_u64_nat _ _ hx h3, Nat.xor_lt_two_pow (n := 64) hx h2⟩

set_option maxRecDepth 20000 in
theorem flip_any (w : World) (b : Nat) (L : List Bool) (u : Nat) (h : Spc w b L) (hu : u < L.length) :
    Calls Try.prog 84 #[.pointer (some ⟨b, 0, none⟩), .int .i64 (u : Int)] w fun e w' => (∃ v, e = .returned v) ∧ Spc w' b (L.set u (!L[u])) ∧ Kep (fun k => k ≠ b) w w' ∧ w'.heap.size = w.heap.size := by
  obtain ⟨hl, W, h1, hb, h2⟩ := h
  obtain ⟨q, hq⟩ : ∃ q, q = u / 64 := ⟨_, rfl⟩
  obtain ⟨r, hr⟩ : ∃ r, r = u % 64 := ⟨_, rfl⟩
  have hq64 : q < 64 := by omega
  have hr64 : r < 64 := by omega
  have c1 : w.cell? ⟨b, 1 + q, none⟩ = some (.int .u64 (W q : Int)) := by rw [cell_blk hb]; simpa using scells_word L.length W hq64
  have e1 : Int.tdiv (u : Int) 64 = (q : Int) := by rw [hq]; exact (Int.ofNat_tdiv u 64).symm
  have e2 : Int.tmod (u : Int) 64 = (r : Int) := by rw [hr]; exact (Int.ofNat_tmod u 64).symm
  have hf : w.frozen? ⟨b, 1 + q, none⟩ = false := frozen_blk hb _
  obtain ⟨x, hx⟩ : ∃ x, x = W q := ⟨_, rfl⟩
  rw [← hx] at c1
  have HH : Hid (x = W q ∧ q = u / 64 ∧ r = u % 64) := ⟨hx, hq, hr⟩
  clear hx hq hr
  go_enter Try.func84, Try.ntmps84
  go_region
  go_end0
  obtain ⟨rfl, hq, hr⟩ := HH.out
  obtain ⟨v1, v2⟩ := flip_val (W q) r (h1 q) hr64
  rw [v1]
  refine ⟨⟨_, rfl⟩, ⟨by rw [List.length_set]; exact hl, fun p => if p = u / 64 then W (u / 64) ^^^ 2 ^ (u % 64) else W p, ?_, ?_, flip_bit W L u hu h2⟩, (Kep.set w _ (by simp)).trans (Kep.drew _ _), by simp [World.setCell]⟩
  · intro p
    dsimp only
    split
    · rw [← hq, ← hr]; exact v2
    · exact h1 p
  · show (w.setCell ⟨b, 1 + q, none⟩ _).heap[b]? = _
    rw [set_blk hb, List.length_set, List.setIfInBounds_toArray, scells_set _ _ hq64, ← hq, ← hr]

/-- k units from s on are of the kind t. -/
def allB (L : List Bool) (s k : Nat) (t : Bool) : Prop := ∀ i, i < k → L[s + i]? = some t
/-- k units from s on are made of the kind t. -/
def putB (L : List Bool) (s k : Nat) (t : Bool) : List Bool := L.take s ++ List.replicate k t ++ L.drop (s + k)
theorem putB_zero (L : List Bool) (s : Nat) (t : Bool) : putB L s 0 t = L := by simp [putB]
theorem putB_len {L : List Bool} {s k : Nat} (t : Bool) (h : s + k ≤ L.length) : (putB L s k t).length = L.length := by
  simp [putB]; omega
theorem putB_get {L : List Bool} {s k : Nat} (t : Bool) (h : s + k ≤ L.length) (i : Nat) : (putB L s k t)[i]? = if s ≤ i ∧ i < s + k then some t else L[i]? := by
  rw [putB, List.append_assoc, List.getElem?_append, List.length_take, Nat.min_eq_left (by omega)]
  by_cases h1 : i < s
  · rw [if_pos h1, if_neg (by omega), List.getElem?_take_of_lt h1]
  · rw [if_neg h1, List.getElem?_append, List.length_replicate]
    by_cases h2 : i < s + k
    · rw [if_pos (by omega), if_pos (by omega), List.getElem?_replicate, if_pos (by omega)]
    · rw [if_neg (by omega), if_neg (by omega), List.getElem?_drop]
      congr 1
      omega
theorem putB_step {L : List Bool} {s k : Nat} {t : Bool} (h : s + k < L.length) : (putB L s k t).set (s + k) t = putB L s (k + 1) t := by
  apply List.ext_getElem?
  intro i
  rw [List.getElem?_set, putB_get t (by omega), putB_get t (by omega), putB_len t (by omega)]
  by_cases e : s + k = i
  · subst e
    rw [if_pos rfl, if_pos h, if_pos (by omega)]
  · rw [if_neg e]
    by_cases h2 : s ≤ i ∧ i < s + k
    · rw [if_pos h2, if_pos (by omega)]
    · rw [if_neg h2, if_neg (by omega)]
/-- Whether a turn goes well. -/
def turnP (L : List Bool) (start k : Int) (t : Bool) : Prop := 0 ≤ start ∧ 1 ≤ k ∧ start + k ≤ (L.length : Int) ∧ allB L start.toNat k.toNat t
/-- What a turn leaves. -/
def turnB (L : List Bool) (start k : Int) (t : Bool) : Bool := decide (0 ≤ start) && decide (1 ≤ k) && decide (start + k ≤ (L.length : Int)) && (List.range k.toNat).all fun i => L[start.toNat + i]? == some t
theorem turnB_iff {L : List Bool} {start k : Int} {t : Bool} : turnB L start k t = true ↔ turnP L start k t := by
  simp [turnB, turnP, allB, and_assoc]
end Go.Proofs.Ytpmjkgpmidejoaa.Al

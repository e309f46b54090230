/-
  Rows of rows of one's own, side by side.
-/
import Derived.Test.YtpophalhmjchkaaBelow
namespace Go.Proofs.Ytpophalhmjchkaa
open Go.RowKit

theorem info23 : (Try.prog.info? 23).map (fun i => (i.zero, i.size, i.bytes)) = some (some (.slice none 0 0), 1, 24) := by kernel_rfl
theorem info64 : (Try.prog.info? 64).map (fun i => (i.zero, i.size, i.bytes)) = some (some (.slice none 0 0), 1, 24) := by kernel_rfl
theorem rows_ne {w : World} {B e1 e2 s1 s2 : Nat} {v1 v2 : Value} {n1 n2 : Nat} {x1 x2 : List Value} (h1 : w.ownsRow B e1 s1 v1 n1 x1) (h2 : w.ownsRow B e2 s2 v2 n2 x2) (hne : e1 ≠ e2) : v1.ownBlock = none ∨ v1.ownBlock ≠ v2.ownBlock := by
  obtain ⟨_, ⟨rfl, _⟩ | ⟨g1, c1, u1, rfl, _, e1', _⟩⟩ := h1
  · exact .inl rfl
  · right
    obtain ⟨_, ⟨rfl, _⟩ | ⟨g2, c2, u2, rfl, _, e2', _⟩⟩ := h2
    · simp [Value.ownBlock]
    · simp only [Value.ownBlock, ne_eq, Option.some.injEq]
      intro he
      subst he
      rw [e1'] at e2'
      injection e2' with e2'
      injection e2' with _ e2'
      exact hne e2'
theorem own_below {w w' : World} {B e s : Nat} {v : Value} {n : Nat} {xs : List Value} (h : w.ownsRow B e s v n xs) (hb : Below w.heap.size w w') : w'.ownsRow B e s v n xs := by
  obtain ⟨h1, h2 | ⟨g, cap, cur, e1, e2, e3, e4⟩⟩ := h
  · exact ⟨h1, .inl h2⟩
  · exact ⟨h1, .inr ⟨g, cap, cur, e1, e2, (hb.block g (Array.getElem?_eq_some_iff.1 e3).1).trans e3, e4⟩⟩
theorem own_one {w : World} {B e s : Nat} {v : Value} {n : Nat} {xs : List Value} (h : w.ownsRow B e s v n xs) : v.oneCell' = true := by
  obtain ⟨_, ⟨rfl, _⟩ | ⟨g1, c1, u1, rfl, _⟩⟩ := h <;> rfl

def AllG {α : Type} (R : Value → α → Prop) : List Value → List α → Prop
  | [], [] => True
  | v :: vs, x :: xs => R v x ∧ AllG R vs xs
  | _, _ => False
theorem AllG.mono {α : Type} {R R2 : Value → α → Prop} (hR : ∀ v x, R v x → R2 v x) : ∀ {vs : List Value} {xs : List α}, AllG R vs xs → AllG R2 vs xs
  | [], [], _ => trivial
  | _ :: _, _ :: _, h => ⟨hR _ _ h.1, AllG.mono hR h.2⟩
  | [], _ :: _, h => h.elim
  | _ :: _, [], h => h.elim
theorem AllG.snoc {α : Type} {R : Value → α → Prop} {v : Value} {x : α} (hv : R v x) : ∀ {vs : List Value} {xs : List α}, AllG R vs xs → AllG R (vs ++ [v]) (xs ++ [x])
  | [], [], _ => ⟨hv, trivial⟩
  | _ :: _, _ :: _, h => ⟨h.1, AllG.snoc hv h.2⟩
  | [], _ :: _, h => h.elim
  | _ :: _, [], h => h.elim
theorem AllG.len {α : Type} {R : Value → α → Prop} : ∀ {vs : List Value} {xs : List α}, AllG R vs xs → vs.length = xs.length
  | [], [], _ => rfl
  | _ :: _, _ :: _, h => by simp [AllG.len h.2]
  | [], _ :: _, h => h.elim
  | _ :: _, [], h => h.elim

/-- The keys of a node, of a level, of all levels. -/
def KeyRow (w : World) (B : Nat) (v : Value) (ks : List ByteArray) : Prop := w.ownsRow B 9 1 v ks.length (scs ks)
def LvRow (w : World) (B : Nat) (v : Value) (kss : List (List ByteArray)) : Prop := ∃ us, w.ownsRow B 23 1 v us.length us ∧ AllG (KeyRow w B) us kss
def Lvs (w : World) (B : Nat) (v : Value) (ls : List (List (List ByteArray))) : Prop := ∃ us, w.ownsRow B 64 1 v us.length us ∧ AllG (LvRow w B) us ls

theorem KeyRow.below {w w' : World} {B : Nat} {v : Value} {ks : List ByteArray} (h : KeyRow w B v ks) (hb : Below w.heap.size w w') : KeyRow w' B v ks := own_below h hb
theorem LvRow.below {w w' : World} {B : Nat} {v : Value} {ks : List (List ByteArray)} (h : LvRow w B v ks) (hb : Below w.heap.size w w') : LvRow w' B v ks := by
  obtain ⟨us, h1, h2⟩ := h
  exact ⟨us, own_below h1 hb, h2.mono fun _ _ h => h.below hb⟩
theorem Lvs.below {w w' : World} {B : Nat} {v : Value} {ks : List (List (List ByteArray))} (h : Lvs w B v ks) (hb : Below w.heap.size w w') : Lvs w' B v ks := by
  obtain ⟨us, h1, h2⟩ := h
  exact ⟨us, own_below h1 hb, h2.mono fun _ _ h => h.below hb⟩
theorem KeyRow.kept {w w' : World} {B e n : Nat} {u v : Value} {xs : List Value} {ks : List ByteArray} (h : KeyRow w B v ks) (hu : w.ownsRow B e 1 u n xs) (he : 9 ≠ e) (hg : w.grownBy w' u.ownBlock) : KeyRow w' B v ks := World.ownsRow.kept h hg (rows_ne h hu he)
theorem LvRow.kept {w w' : World} {B n : Nat} {u v : Value} {xs : List Value} {ks : List (List ByteArray)} (h : LvRow w B v ks) (hu : w.ownsRow B 64 1 u n xs) (hg : w.grownBy w' u.ownBlock) : LvRow w' B v ks := by
  obtain ⟨us, h1, h2⟩ := h
  exact ⟨us, World.ownsRow.kept h1 hg (rows_ne h1 hu (by decide)), h2.mono fun _ _ h => h.kept hu (by decide) hg⟩

/-- A level's own row grows by a node's keys. -/
theorem LvRow.snoc {w w' : World} {B : Nat} {u u' v : Value} {us : List Value} {kss : List (List ByteArray)} {ks : List ByteArray} (h1 : w.ownsRow B 23 1 u us.length us) (h2 : AllG (KeyRow w B) us kss) (hk : KeyRow w B v ks) (hg : w.grownBy w' u.ownBlock) (h3 : w'.ownsRow B 23 1 u' (us.length + 1) (us ++ [v])) : ∃ us', w'.ownsRow B 23 1 u' us'.length us' ∧ AllG (KeyRow w' B) us' (kss ++ [ks]) :=
  ⟨us ++ [v], by simpa using h3, (h2.mono fun _ _ h => h.kept h1 (by decide) hg).snoc (hk.kept h1 (by decide) hg)⟩
theorem Lvs.snoc {w w' : World} {B : Nat} {u u' v : Value} {us : List Value} {ls : List (List (List ByteArray))} {l : List (List ByteArray)} (h1 : w.ownsRow B 64 1 u us.length us) (h2 : AllG (LvRow w B) us ls) (hk : LvRow w B v l) (hg : w.grownBy w' u.ownBlock) (h3 : w'.ownsRow B 64 1 u' (us.length + 1) (us ++ [v])) : Lvs w' B u' (ls ++ [l]) :=
  ⟨us ++ [v], by simpa using h3, (h2.mono fun _ _ h => h.kept h1 hg).snoc (hk.kept h1 hg)⟩
end Go.Proofs.Ytpophalhmjchkaa

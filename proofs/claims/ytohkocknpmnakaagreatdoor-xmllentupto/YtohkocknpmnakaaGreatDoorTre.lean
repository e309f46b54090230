/-
  Elements in memory: rows of three cells, told by a tree.
-/
import Derived.Test.YtohkocknpmnakaaGreatDoorUn
import Derived.Laws.AppendOwnNone
namespace Go.Proofs.YtohkocknpmnakaaGreatDoor
open Go.RowKit

/-- The elements that a slice leads to; their blocks are all of G. -/
def Kd (G : Nat → Prop) : Nat → World → Option Addr → List Nod → Prop
  | 0, _, _, ks => ks = []
  | h + 1, w, a, ks => ks = [] ∨ ∃ b off, a = some ⟨b, off, none⟩ ∧ G b ∧ b < w.heap.size ∧ ∀ j (hj : j < ks.length), ∃ a' c',
      w.cell? ⟨b, off + j * 3, none⟩ = some (.string ⟨(ks[j]).nm.toArray⟩) ∧ w.cell? ⟨b, off + j * 3 + 1, none⟩ = some (.string ⟨(ks[j]).tx.toArray⟩) ∧ w.cell? ⟨b, off + j * 3 + 2, none⟩ = some (.slice a' (ks[j]).ks.length c') ∧ Kd G h w a' (ks[j]).ks
theorem Kd.nil (G : Nat → Prop) (h : Nat) (w : World) (a : Option Addr) : Kd G h w a [] := by
  cases h with
  | zero => rfl
  | succ h => exact .inl rfl
theorem Kd.keep {G : Nat → Prop} {w w' : World} (hs : w.heap.size ≤ w'.heap.size) (hk : ∀ b, G b → b < w.heap.size → w'.heap[b]? = w.heap[b]?) : ∀ {h : Nat} {a : Option Addr} {ks : List Nod}, Kd G h w a ks → Kd G h w' a ks
  | 0, _, _, h => h
  | n + 1, a, ks, h => by
    rcases h with h | ⟨b, off, h1, h2, h3, h4⟩
    · exact .inl h
    · refine .inr ⟨b, off, h1, h2, Nat.lt_of_lt_of_le h3 hs, fun j hj => ?_⟩
      obtain ⟨a', c', k1, k2, k3, k4⟩ := h4 j hj
      have hc : ∀ o, w'.cell? ⟨b, o, none⟩ = w.cell? ⟨b, o, none⟩ := fun o => World.cell?_of_block (w := w) (a := ⟨b, o, none⟩) (hk b h2 h3)
      exact ⟨a', c', (hc _).trans k1, (hc _).trans k2, (hc _).trans k3, Kd.keep hs hk k4⟩
theorem Kd.mono {G G' : Nat → Prop} {w : World} (hG : ∀ b, G b → b < w.heap.size → G' b) : ∀ {h : Nat} {a : Option Addr} {ks : List Nod}, Kd G h w a ks → Kd G' h w a ks
  | 0, _, _, h => h
  | n + 1, a, ks, h => by
    rcases h with h | ⟨b, off, h1, h2, h3, h4⟩
    · exact .inl h
    · refine .inr ⟨b, off, h1, hG b h2 h3, h3, fun j hj => ?_⟩
      obtain ⟨a', c', k1, k2, k3, k4⟩ := h4 j hj
      exact ⟨a', c', k1, k2, k3, Kd.mono hG k4⟩
theorem Kd.md {F G : Nat → Prop} {w w' : World} {h : Nat} {a : Option Addr} {ks : List Nod} (hk : Kd G h w a ks) (hm : Md F w w') (hF : ∀ b, b < w.heap.size → G b → ¬ F b) : Kd G h w' a ks :=
  hk.keep hm.size (fun b hg hb => hm.block b hb (hF b hb hg))

/-- The cells of a row of elements. -/
def ncs : List Nod → List (Option Addr × Nat) → List Value
  | t :: ts, h :: hs => .string ⟨t.nm.toArray⟩ :: .string ⟨t.tx.toArray⟩ :: .slice h.1 t.ks.length h.2 :: ncs ts hs
  | _, _ => []
theorem ncs_len : ∀ (ts : List Nod) (hs : List (Option Addr × Nat)), hs.length = ts.length → (ncs ts hs).length = ts.length * 3
  | [], hs, _ => by simp [ncs]
  | t :: ts, [], h => by simp at h
  | t :: ts, x :: hs, h => by
    have := ncs_len ts hs (by simpa using h)
    simp only [ncs, List.length_cons, this]
    omega
theorem ncs_app : ∀ (ts : List Nod) (hs : List (Option Addr × Nat)) (t : Nod) (x : Option Addr × Nat), hs.length = ts.length → ncs (ts ++ [t]) (hs ++ [x]) = ncs ts hs ++ [.string ⟨t.nm.toArray⟩, .string ⟨t.tx.toArray⟩, .slice x.1 t.ks.length x.2]
  | [], [], t, x, _ => rfl
  | [], y :: hs, t, x, h => by simp at h
  | s :: ts, [], t, x, h => by simp at h
  | s :: ts, y :: hs, t, x, h => by
    simp only [List.cons_append, ncs]
    rw [ncs_app ts hs t x (by simpa using h)]
theorem ncs_get : ∀ (ts : List Nod) (hs : List (Option Addr × Nat)) (hl : hs.length = ts.length) (j : Nat) (hj : j < ts.length), (ncs ts hs)[j * 3]? = some (.string ⟨(ts[j]).nm.toArray⟩) ∧ (ncs ts hs)[j * 3 + 1]? = some (.string ⟨(ts[j]).tx.toArray⟩) ∧ (ncs ts hs)[j * 3 + 2]? = some (.slice (hs[j]'(by omega)).1 (ts[j]).ks.length (hs[j]'(by omega)).2)
  | [], hs, _, j, hj => by simp at hj
  | t :: ts, [], h, j, hj => by simp at h
  | t :: ts, x :: hs, h, 0, hj => ⟨rfl, rfl, rfl⟩
  | t :: ts, x :: hs, h, j + 1, hj => by
    have := ncs_get ts hs (by simpa using h) j (by simpa using hj)
    simp only [ncs, List.getElem_cons_succ]
    rw [show (j + 1) * 3 = j * 3 + 1 + 1 + 1 by omega, show j * 3 + 1 + 1 + 1 + 1 = (j * 3 + 1) + 1 + 1 + 1 by omega, show j * 3 + 1 + 1 + 1 + 2 = (j * 3 + 2) + 1 + 1 + 1 by omega]
    simp only [List.getElem?_cons_succ]
    exact this
theorem ncs_one : ∀ (ts : List Nod) (hs : List (Option Addr × Nat)), ∀ u ∈ ncs ts hs, u.oneCell' = true
  | [], _, u, h => by simp [ncs] at h
  | t :: ts, [], u, h => by simp [ncs] at h
  | t :: ts, x :: hs, u, h => by
    simp only [ncs, List.mem_cons] at h
    rcases h with rfl | rfl | rfl | h
    · rfl
    · rfl
    · rfl
    · exact ncs_one ts hs u h
/-- A row of elements of one's own, with what each holds. -/
def KR (e : TypeId) (G : Nat → Prop) (h : Nat) (w : World) (base : Nat) (v : Value) (ks : List Nod) : Prop :=
  ∃ hs : List (Option Addr × Nat), ∃ hl : hs.length = ks.length, w.ownsRow base e 3 v ks.length (ncs ks hs) ∧ ∀ j (hj : j < ks.length), Kd G h w (hs[j]'(by omega)).1 (ks[j]).ks
theorem KR.nil (e : TypeId) (G : Nat → Prop) (h : Nat) (w : World) (base : Nat) : KR e G h w base (.slice none 0 0) [] :=
  ⟨[], rfl, World.ownsRow_nil _ _ _ _, fun j hj => by simp at hj⟩
theorem KR.kd {e : TypeId} {G : Nat → Prop} {h : Nat} {w : World} {base : Nat} {a : Option Addr} {n c : Nat} {ks : List Nod} (hk : KR e G h w base (.slice a n c) ks) (hG : ∀ b, base ≤ b → b < w.heap.size → (Value.slice a n c).ownBlock = some b → G b) : n = ks.length ∧ Kd G (h + 1) w a ks := by
  obtain ⟨hs, hl, hown, hks⟩ := hk
  have hown0 := hown
  obtain ⟨hx, ⟨h1, h2⟩ | ⟨g, cap, cur, h1, h2, h3, h4⟩⟩ := hown
  · simp only [Value.slice.injEq] at h1
    obtain ⟨rfl, rfl, rfl⟩ := h1
    exact ⟨h2.symm, .inl (List.eq_nil_of_length_eq_zero h2)⟩
  · simp only [Value.slice.injEq] at h1
    obtain ⟨rfl, rfl, rfl⟩ := h1
    refine ⟨rfl, .inr ⟨g, 0, rfl, hG g h2 (blk_lt h3) rfl, blk_lt h3, fun j hj => ?_⟩⟩
    obtain ⟨k1, k2, k3⟩ := ncs_get ks hs hl j hj
    have hlen := ncs_len ks hs hl
    have c1 := hown0.cellAt (j * 3) (by omega)
    have c2 := hown0.cellAt (j * 3 + 1) (by omega)
    have c3 := hown0.cellAt (j * 3 + 2) (by omega)
    refine ⟨(hs[j]'(by omega)).1, (hs[j]'(by omega)).2, ?_, ?_, ?_, hks j hj⟩
    · rw [Nat.zero_add, c1, k1]
    · rw [Nat.zero_add, c2, k2]
    · rw [Nat.zero_add, c3, k3]
theorem own_slice {w : World} {base : Nat} {e : TypeId} {size : Nat} {v : Value} {n : Nat} {xs : List Value} (h : w.ownsRow base e size v n xs) : ∃ a c, v = .slice a n c := by
  obtain ⟨_, ⟨rfl, rfl⟩ | ⟨g, cap, cur, rfl, _⟩⟩ := h
  · exact ⟨_, _, rfl⟩
  · exact ⟨_, _, rfl⟩
theorem own_md {F : Nat → Prop} {w w' : World} {base : Nat} {e : TypeId} {size : Nat} {v : Value} {n : Nat} {xs : List Value} (h : w.ownsRow base e size v n xs) (hm : Md F w w') (hF : ∀ j, v.ownBlock = some j → ¬ F j) : w'.ownsRow base e size v n xs := by
  obtain ⟨h0, ⟨rfl, rfl⟩ | ⟨b, cap, cur, rfl, h1, hh, h2⟩⟩ := h
  · exact ⟨h0, .inl ⟨rfl, rfl⟩⟩
  · exact ⟨h0, .inr ⟨b, cap, cur, rfl, h1, (hm.block b (blk_lt hh) (hF b rfl)).trans hh, h2⟩⟩
theorem KR.md {F : Nat → Prop} {e : TypeId} {G : Nat → Prop} {h : Nat} {w w' : World} {base : Nat} {v : Value} {ks : List Nod} (hk : KR e G h w base v ks) (hm : Md F w w') (hF : ∀ b, b < w.heap.size → (G b ∨ v.ownBlock = some b) → ¬ F b) : KR e G h w' base v ks := by
  obtain ⟨hs, hl, hown, hks⟩ := hk
  refine ⟨hs, hl, own_md hown hm (fun j hj => hF j (hown.lt j hj).2 (.inr hj)), fun j hj => (hks j hj).md hm (fun b hb hg => hF b hb (.inl hg))⟩
theorem KR.slice {e : TypeId} {G : Nat → Prop} {h : Nat} {w : World} {base : Nat} {v : Value} {ks : List Nod} (hk : KR e G h w base v ks) : ∃ a c, v = .slice a ks.length c := by
  obtain ⟨hs, hl, hown, hks⟩ := hk
  exact own_slice hown
theorem Md.ofGrown {w1 w2 : World} {row : Option Nat} (hg : w1.grownBy w2 row) : Md (fun b => row = some b) w1 w2 :=
  ⟨hg.os, hg.tape, hg.output, hg.size, fun b hb h1 => hg.block b hb (fun e => h1 e.symm)⟩
theorem Md.grown {F : Nat → Prop} {w w1 w2 : World} {row : Option Nat} (h : Md F w w1) (hg : w1.grownBy w2 row) (hr : ∀ j, row = some j → w.heap.size ≤ j) : Md F w w2 :=
  ⟨hg.os.trans h.os, hg.tape.trans h.tape, hg.output.trans h.output, Nat.le_trans h.size hg.size, fun b hb h1 => (hg.block b (Nat.lt_of_lt_of_le hb h.size) (fun e => by have := hr b e.symm; omega)).trans (h.block b hb h1)⟩
/-- A row that has grown by one element: of the elder ones and of the new one nothing lies in a row's block, old or new. -/
theorem KR.snoc {e : TypeId} {h : Nat} {w w' : World} {base : Nat} {v v' : Value} {ks : List Nod} {t : Nod} {a : Option Addr} {c : Nat} {L : Nat}
    (hk : KR e (fun b => L ≤ b ∧ v.ownBlock ≠ some b) h w base v ks) (ht : Kd (fun b => L ≤ b ∧ v.ownBlock ≠ some b) h w a t.ks)
    (hown : ∀ hs, w.ownsRow base e 3 v ks.length (ncs ks hs) → w'.ownsRow base e 3 v' (ks.length + 1) (ncs ks hs ++ [.string ⟨t.nm.toArray⟩, .string ⟨t.tx.toArray⟩, .slice a t.ks.length c]))
    (hg : Md (fun b => v.ownBlock = some b) w w') (hv : ∀ b, v'.ownBlock = some b → v.ownBlock = some b ∨ w.heap.size ≤ b) :
    KR e (fun b => L ≤ b ∧ v'.ownBlock ≠ some b) h w' base v' (ks ++ [t]) := by
  obtain ⟨hs, hl, ho, hks⟩ := hk
  have key : ∀ {a : Option Addr} {ts : List Nod}, Kd (fun b => L ≤ b ∧ v.ownBlock ≠ some b) h w a ts → Kd (fun b => L ≤ b ∧ v'.ownBlock ≠ some b) h w' a ts := by
    intro a ts hh
    have h1 : Kd (fun b => L ≤ b ∧ v'.ownBlock ≠ some b) h w a ts := hh.mono (fun b hb hlt => ⟨hb.1, fun he => (hv b he).elim (fun h2 => hb.2 h2) (fun h2 => by omega)⟩)
    have h2 : Kd (fun b => (L ≤ b ∧ v'.ownBlock ≠ some b) ∧ v.ownBlock ≠ some b) h w a ts := hh.mono (fun b hb hlt => ⟨⟨hb.1, fun he => (hv b he).elim (fun h2 => hb.2 h2) (fun h2 => by omega)⟩, hb.2⟩)
    exact (h2.md hg (fun b hb hg hf => hg.2 hf)).mono (fun b hb _ => hb.1)
  refine ⟨hs ++ [(a, c)], by simp [hl], ?_, fun j hj => ?_⟩
  · rw [ncs_app ks hs t (a, c) hl, List.length_append]
    exact hown hs ho
  · simp only [List.length_append, List.length_cons, List.length_nil] at hj
    by_cases hj2 : j < ks.length
    · simp only [List.getElem_append_left hj2, List.getElem_append_left (show j < hs.length by omega)]
      exact key (hks j hj2)
    · obtain rfl : j = ks.length := by omega
      have e1 : (ks ++ [t])[ks.length]'(by simp) = t := by simp
      have e2 : (hs ++ [(a, c)])[ks.length]'(by simp [hl]) = (a, c) := by simp [← hl]
      rw [e1, e2]
      exact key ht
end Go.Proofs.YtohkocknpmnakaaGreatDoor

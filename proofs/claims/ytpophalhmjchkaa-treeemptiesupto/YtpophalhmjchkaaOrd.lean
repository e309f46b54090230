/-
  The order of texts; bounds; rows of children between bounds.
-/
import Derived.WalkKit
namespace Go.Proofs.Ytpophalhmjchkaa

/-- A text is below another one, byte by byte. -/
def klt (a b : ByteArray) : Prop := a.toList < b.toList
instance (a b : ByteArray) : Decidable (klt a b) := inferInstanceAs (Decidable (a.toList < b.toList))
theorem bytesLess_lt : ∀ x y : List UInt8, Op.bytesLess x y = decide (x < y)
  | [], [] => by simp [Op.bytesLess]
  | _ :: _, [] => by simp [Op.bytesLess]
  | [], _ :: _ => by simp [Op.bytesLess]
  | a :: x, b :: y => by
    rw [Op.bytesLess, bytesLess_lt x y, Bool.eq_iff_iff]
    simp [List.cons_lt_cons_iff]
theorem ba_ext {a b : ByteArray} (h : a.toList = b.toList) : a = b := by
  rw [ByteArray.toList_eq, ByteArray.toList_eq] at h
  cases a; cases b
  simp only [ByteArray.mk.injEq]
  exact Array.ext' h
theorem klt_irrefl (a : ByteArray) : ¬ klt a a := List.lt_irrefl _
theorem klt_trans {a b c : ByteArray} (h : klt a b) (h2 : klt b c) : klt a c := List.lt_trans h h2
theorem klt_tri (a b : ByteArray) : klt a b ∨ a = b ∨ klt b a := by
  by_cases h1 : klt a b
  · exact .inl h1
  · by_cases h2 : klt b a
    · exact .inr (.inr h2)
    · right; left
      exact ba_ext (List.le_antisymm (List.not_lt.1 h2) (List.not_lt.1 h1))
theorem klt_asymm {a b : ByteArray} (h : klt a b) : ¬ klt b a := fun h2 => klt_irrefl _ (klt_trans h h2)
theorem klt_of_le {a b c : ByteArray} (h : ¬ klt b a) (h2 : klt b c) : klt a c := by
  rcases klt_tri a b with h3 | h3 | h3
  · exact klt_trans h3 h2
  · rw [h3]; exact h2
  · exact absurd h3 h
theorem klt_of_lt_le {a b c : ByteArray} (h : klt a b) (h2 : ¬ klt c b) : klt a c := by
  rcases klt_tri b c with h3 | h3 | h3
  · exact klt_trans h h3
  · rw [← h3]; exact h
  · exact absurd h3 h2
theorem kle_trans {a b c : ByteArray} (h : ¬ klt b a) (h2 : ¬ klt c b) : ¬ klt c a := fun h3 => h (klt_of_le h2 h3)

abbrev KV := ByteArray × ByteArray
/-- Bounds of keys. -/
def LT (lo hi : Option ByteArray) : Prop := ∀ l u, lo = some l → hi = some u → klt l u
def InB (lo hi : Option ByteArray) (k : ByteArray) : Prop := (∀ l, lo = some l → ¬ klt k l) ∧ (∀ u, hi = some u → klt k u)
theorem LT.trans {lo hi : Option ByteArray} {b : ByteArray} (h : LT lo (some b)) (h2 : LT (some b) hi) : LT lo hi := fun l u e1 e2 => klt_trans (h l b e1 rfl) (h2 b u rfl e2)
theorem InB.left {lo hi : Option ByteArray} {b k : ByteArray} (h : InB lo (some b) k) (h2 : LT (some b) hi) : InB lo hi k := ⟨h.1, fun u e => klt_trans (h.2 b rfl) (h2 b u rfl e)⟩
theorem InB.right {lo hi : Option ByteArray} {b k : ByteArray} (h : InB (some b) hi k) (h2 : LT lo (some b)) : InB lo hi k := ⟨fun l e h3 => h.1 b rfl (klt_trans h3 (h2 l b e rfl)), h.2⟩
/-- Pairs by rising key. -/
def Srt (ps : List KV) : Prop := ps.Pairwise fun a b => klt a.1 b.1

/-- A node of a tree. -/
inductive T where
  | leaf (ps : List KV)
  | inner (bs : List ByteArray) (cs : List T)
instance : Inhabited T := ⟨.leaf []⟩
def T.sz : T → Nat
  | .leaf ps => ps.length
  | .inner _ cs => cs.length

section
variable (V : Option ByteArray → Option ByteArray → T → Prop)
/-- Children with the keys between them. -/
def Row : Option ByteArray → List ByteArray → List T → Option ByteArray → Prop
  | lo, [], [c], hi => V lo hi c
  | lo, b :: bs, c :: cs, hi => V lo (some b) c ∧ Row (some b) bs cs hi
  | _, _, _, _ => False
/-- As many keys as children: those ahead; those behind. -/
def Pre : Option ByteArray → List ByteArray → List T → Option ByteArray → Prop
  | lo, [], [], m => m = lo
  | lo, b :: bs, c :: cs, m => V lo (some b) c ∧ Pre (some b) bs cs m
  | _, _, _, _ => False
def Suf : Option ByteArray → List ByteArray → List T → Option ByteArray → Prop
  | m, [], [], hi => m = hi
  | m, b :: bs, c :: cs, hi => m = some b ∧ Row V (some b) bs (c :: cs) hi
  | _, _, _, _ => False
end
variable {V : Option ByteArray → Option ByteArray → T → Prop}

theorem Row.len : ∀ {bs : List ByteArray} {cs : List T} {lo hi : Option ByteArray}, Row V lo bs cs hi → cs.length = bs.length + 1
  | [], [_], _, _, _ => rfl
  | _ :: _, _ :: _, _, _, h => by have := Row.len h.2; simp only [List.length_cons]; omega
  | [], [], _, _, h => h.elim
  | [], _ :: _ :: _, _, _, h => h.elim
  | _ :: _, [], _, _, h => h.elim
theorem Row.lt (hV : ∀ lo hi c, V lo hi c → LT lo hi) : ∀ {bs : List ByteArray} {cs : List T} {lo hi : Option ByteArray}, Row V lo bs cs hi → LT lo hi
  | [], [_], _, _, h => hV _ _ _ h
  | _ :: _, _ :: _, _, _, h => (hV _ _ _ h.1).trans (Row.lt hV h.2)
  | [], [], _, _, h => h.elim
  | [], _ :: _ :: _, _, _, h => h.elim
  | _ :: _, [], _, _, h => h.elim
theorem Row.cons {b : ByteArray} {bs : List ByteArray} {c : T} {cs : List T} {lo hi : Option ByteArray} : Row V lo (b :: bs) (c :: cs) hi ↔ V lo (some b) c ∧ Row V (some b) bs cs hi := Iff.rfl
theorem Row.one {c : T} {lo hi : Option ByteArray} : Row V lo [] [c] hi ↔ V lo hi c := Iff.rfl
theorem Pre.lens : ∀ {bs : List ByteArray} {cs : List T} {lo m : Option ByteArray}, Pre V lo bs cs m → cs.length = bs.length
  | [], [], _, _, _ => rfl
  | _ :: _, _ :: _, _, _, h => by simp only [List.length_cons]; rw [Pre.lens h.2]
  | [], _ :: _, _, _, h => h.elim
  | _ :: _, [], _, _, h => h.elim

/-- A row is parted ahead of child i. -/
theorem Row.pre : ∀ (i : Nat) {bs : List ByteArray} {cs : List T} {lo hi : Option ByteArray}, Row V lo bs cs hi → i < cs.length → ∃ m, Pre V lo (bs.take i) (cs.take i) m ∧ Row V m (bs.drop i) (cs.drop i) hi
  | 0, _, _, lo, _, h, _ => ⟨lo, by simp [Pre], by simpa using h⟩
  | _ + 1, [], [_], _, _, _, hi' => by simp at hi'
  | i + 1, _ :: _, _ :: _, _, _, h, hi' => by
    obtain ⟨m, h1, h2⟩ := Row.pre i h.2 (by simpa using hi')
    exact ⟨m, ⟨h.1, h1⟩, by simpa using h2⟩
  | _ + 1, [], [], _, _, h, _ => h.elim
  | _ + 1, [], _ :: _ :: _, _, _, h, _ => h.elim
  | _ + 1, _ :: _, [], _, _, h, _ => h.elim
/-- A row is parted behind its first j children. -/
theorem Row.suf : ∀ (j : Nat) {bs : List ByteArray} {cs : List T} {m hi : Option ByteArray}, Row V m bs cs hi → j + 1 ≤ cs.length → ∃ m2, Row V m (bs.take j) (cs.take (j + 1)) m2 ∧ Suf V m2 (bs.drop j) (cs.drop (j + 1)) hi
  | 0, [], [_], _, hi, h, _ => ⟨hi, by simpa using h, by simp [Suf]⟩
  | 0, b :: _, _ :: _ :: _, _, _, h, _ => ⟨some b, by simpa [Row] using h.1, rfl, h.2⟩
  | 0, _ :: _, [_], _, _, h, _ => by have := Row.len h.2; simp at this
  | j + 1, _ :: _, _ :: _, _, _, h, hj => by
    obtain ⟨m2, h1, h2⟩ := Row.suf j h.2 (by simp only [List.length_cons] at hj; omega)
    exact ⟨m2, ⟨h.1, h1⟩, by simpa using h2⟩
  | _ + 1, [], [_], _, _, _, hj => by simp at hj
  | _, [], [], _, _, h, _ => h.elim
  | _, [], _ :: _ :: _, _, _, h, _ => h.elim
  | _, _ :: _, [], _, _, h, _ => h.elim
theorem Row.app : ∀ {bs : List ByteArray} {cs : List T} {m m2 : Option ByteArray} {bs2 : List ByteArray} {cs2 : List T} {hi : Option ByteArray}, Row V m bs cs m2 → Suf V m2 bs2 cs2 hi → Row V m (bs ++ bs2) (cs ++ cs2) hi
  | [], [_], _, _, [], [], _, h, h2 => by cases h2; simpa using h
  | [], [_], _, _, _ :: _, _ :: _, _, h, h2 => by
    obtain ⟨rfl, h2⟩ := h2
    exact ⟨h, h2⟩
  | _ :: _, _ :: _, _, _, _, _, _, h, h2 => ⟨h.1, Row.app h.2 h2⟩
  | [], [], _, _, _, _, _, h, _ => h.elim
  | [], _ :: _ :: _, _, _, _, _, _, h, _ => h.elim
  | _ :: _, [], _, _, _, _, _, h, _ => h.elim
  | [], [_], _, _, [], _ :: _, _, _, h2 => h2.elim
  | [], [_], _, _, _ :: _, [], _, _, h2 => h2.elim
theorem Pre.app : ∀ {bs : List ByteArray} {cs : List T} {lo m : Option ByteArray} {bs2 : List ByteArray} {cs2 : List T} {hi : Option ByteArray}, Pre V lo bs cs m → Row V m bs2 cs2 hi → Row V lo (bs ++ bs2) (cs ++ cs2) hi
  | [], [], _, _, _, _, _, h, h2 => by cases h; exact h2
  | _ :: _, _ :: _, _, _, _, _, _, h, h2 => ⟨h.1, Pre.app h.2 h2⟩
  | [], _ :: _, _, _, _, _, _, h, _ => h.elim
  | _ :: _, [], _, _, _, _, _, h, _ => h.elim
/-- The children from i to ahead of j are put anew. -/
theorem Row.with {bs : List ByteArray} {cs : List T} {lo hi : Option ByteArray} (h : Row V lo bs cs hi) {i j : Nat} (hij : i < j) (hj : j ≤ cs.length) : ∃ m1 m2, Pre V lo (bs.take i) (cs.take i) m1 ∧ Row V m1 ((bs.drop i).take (j - 1 - i)) ((cs.drop i).take (j - i)) m2 ∧ Suf V m2 (bs.drop (j - 1)) (cs.drop j) hi ∧
    ∀ (rb : List ByteArray) (rc : List T), Row V m1 rb rc m2 → Row V lo (bs.take i ++ rb ++ bs.drop (j - 1)) (cs.take i ++ rc ++ cs.drop j) hi := by
  obtain ⟨m1, h1, h2⟩ := h.pre i (by omega)
  obtain ⟨m2, h3, h4⟩ := h2.suf (j - i - 1) (by rw [List.length_drop]; omega)
  rw [show j - i - 1 + 1 = j - i from by omega, List.drop_drop, List.drop_drop, show i + (j - i - 1) = j - 1 from by omega, show i + (j - i) = j from by omega] at h4
  rw [show j - i - 1 + 1 = j - i from by omega, show j - i - 1 = j - 1 - i from by omega] at h3
  refine ⟨m1, m2, h1, h3, h4, fun rb rc hr => ?_⟩
  rw [List.append_assoc, List.append_assoc]
  exact h1.app (hr.app h4)
theorem Row.mono {V2 : Option ByteArray → Option ByteArray → T → Prop} : ∀ {bs : List ByteArray} {cs : List T} {lo hi : Option ByteArray}, (∀ lo hi c, c ∈ cs → V lo hi c → V2 lo hi c) → Row V lo bs cs hi → Row V2 lo bs cs hi
  | [], [c], _, _, hv, h => hv _ _ c List.mem_cons_self h
  | _ :: _, c :: _, _, _, hv, h => ⟨hv _ _ c List.mem_cons_self h.1, Row.mono (fun _ _ x hx => hv _ _ x (List.mem_cons_of_mem _ hx)) h.2⟩
  | [], [], _, _, _, h => h.elim
  | [], _ :: _ :: _, _, _, _, h => h.elim
  | _ :: _, [], _, _, _, h => h.elim
end Go.Proofs.Ytpophalhmjchkaa

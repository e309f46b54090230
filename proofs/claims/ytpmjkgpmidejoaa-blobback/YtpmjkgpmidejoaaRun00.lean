/-
  What a slice of bytes holds, told by a list of bytes; rows of texts and of waiting writes; which blocks a step may turn.
-/
import Derived.Test.YtpmjkgpmidejoaaProg
import Derived.Laws.IdiomStrings
import Derived.Below
import Derived.WalkKit
import Derived.WalkSpells
import Derived.WalkLawsBesides
import Derived.OwnWalk
import Derived.Deep.QuietTactic
import Derived.BigQuiet
import Derived.Deep.RegionHeld3
import Derived.Laws.ResultCell
namespace Go.Proofs.Ytpmjkgpmidejoaa
open Go.RowKit

theorem info5 : (Try.prog.info? 5).map (fun i => (i.zero, i.size, i.bytes)) = some (some (.int .u8 0), 1, 1) := by kernel_rfl
theorem info9 : (Try.prog.info? 9).map (fun i => (i.zero, i.size, i.bytes)) = some (some (.string ⟨#[]⟩), 1, 16) := by kernel_rfl
theorem info109 : (Try.prog.info? 109).map (fun i => (i.zero, i.size, i.bytes)) = some (some (.agg #[.int .i64 0, .string ⟨#[]⟩]), 2, 24) := by kernel_rfl

/-- The cells of a list of bytes, of texts, of waiting writes. -/
def bcs (l : List UInt8) : List Value := l.map fun c => Value.int .u8 (c.toNat : Int)
def scs (l : List ByteArray) : List Value := l.map Value.string
def ccs (l : List (Nat × ByteArray)) : List Value := l.flatMap fun p => [Value.int .i64 (p.1 : Int), Value.string p.2]

theorem bcs_length (l : List UInt8) : (bcs l).length = l.length := by simp [bcs]
theorem bcs_one (l : List UInt8) : ∀ u ∈ bcs l, u.oneCell' = true := by
  intro u hu
  simp only [bcs, List.mem_map] at hu
  obtain ⟨c, _, rfl⟩ := hu
  rfl
theorem bcs_get {l : List UInt8} {j : Nat} (h : j < l.length) : (bcs l)[j]? = some (.int .u8 (l[j].toNat : Int)) := by
  simp [bcs, List.getElem?_eq_getElem h]
theorem scs_length (l : List ByteArray) : (scs l).length = l.length := by simp [scs]
theorem scs_one (l : List ByteArray) : ∀ u ∈ scs l, u.oneCell' = true := by
  intro u hu
  simp only [scs, List.mem_map] at hu
  obtain ⟨c, _, rfl⟩ := hu
  rfl
theorem scs_get {l : List ByteArray} {j : Nat} (h : j < l.length) : (scs l)[j]? = some (.string l[j]) := by
  simp [scs, List.getElem?_eq_getElem h]
theorem scs_set (l : List ByteArray) (j : Nat) (b : ByteArray) : scs (l.set j b) = (scs l).set j (.string b) := by simp [scs, List.map_set]
theorem ccs_nil : ccs [] = [] := rfl
theorem ccs_append (l m : List (Nat × ByteArray)) : ccs (l ++ m) = ccs l ++ ccs m := by simp [ccs]
theorem ccs_length (l : List (Nat × ByteArray)) : (ccs l).length = l.length * 2 := by
  induction l with
  | nil => rfl
  | cons a l ih => simp [ccs] at ih ⊢; omega
theorem ccs_one (l : List (Nat × ByteArray)) : ∀ u ∈ ccs l, u.oneCell' = true := by
  intro u hu
  simp only [ccs, List.mem_flatMap] at hu
  obtain ⟨c, _, hc⟩ := hu
  simp at hc
  rcases hc with rfl | rfl <;> rfl
theorem ccs_get {l : List (Nat × ByteArray)} : ∀ {j : Nat} (h : j < l.length), (ccs l)[j * 2]? = some (.int .i64 (l[j].1 : Int)) ∧ (ccs l)[j * 2 + 1]? = some (.string l[j].2) := by
  induction l with
  | nil => intro j h; simp at h
  | cons a l ih =>
    intro j h
    have e : ccs (a :: l) = Value.int .i64 (a.1 : Int) :: Value.string a.2 :: ccs l := rfl
    rw [e]
    cases j with
    | zero => simp
    | succ j =>
      have := ih (j := j) (by simpa using h)
      rw [show (j + 1) * 2 = j * 2 + 1 + 1 from by omega]
      simpa using this

/-- The slice's head leads to the bytes l (or there are none). -/
def Bytes (w : World) (a : Option Addr) (l : List UInt8) : Prop :=
  l = [] ∨ ∃ b off, a = some ⟨b, off, none⟩ ∧ b < w.heap.size ∧ ∀ j (h : j < l.length), w.cell? ⟨b, off + j, none⟩ = some (.int .u8 (l[j].toNat : Int))

theorem convert_bytes (w : World) (a : Option Addr) (cap : Nat) (l : List UInt8) (h : Bytes w a l) :
    (convert 38 9 (.slice a l.length cap)).run Try.prog w = .ok (.string ⟨l.toArray⟩) w := by
  cases a with
  | none =>
    obtain rfl : l = [] := by rcases h with h | ⟨_, _, he, _⟩; exact h; simp at he
    rw [run_convert_bytes_string w 38 9 5 none _ cap Try.underlying38 Try.underlying5 Try.underlying9]
    simp [Conv.bytesToString]
    rfl
  | some ad =>
    refine run_convert_bytes_back w 38 9 5 ad cap l Try.underlying38 Try.underlying5 Try.underlying9 ?_
    intro j hj
    rcases h with rfl | ⟨b, off, he, _, hc⟩
    · simp at hj
    · simp only [Option.some.injEq] at he
      subst he
      have e : (⟨b, off, none⟩ : Addr).add j = ⟨b, off + j, none⟩ := by cases j <;> simp [Addr.add]
      rw [e]
      exact hc j hj

/-- Of the blocks that were there only those of F may have turned. -/
structure Turn (F : Nat → Prop) (w w' : World) : Prop where
  os : w'.os = w.os
  tape : w'.tape = w.tape
  output : w'.output = w.output
  size : w.heap.size ≤ w'.heap.size
  block : ∀ k, k < w.heap.size → ¬ F k → w'.heap[k]? = w.heap[k]?

/-- What F is behind the step: F, and what is new. -/
def Grow (F : Nat → Prop) (w w' : World) : Nat → Prop := fun k => F k ∨ (w.heap.size ≤ k ∧ k < w'.heap.size)

theorem Turn.refl (F : Nat → Prop) (w : World) : Turn F w w := ⟨rfl, rfl, rfl, Nat.le_refl _, fun _ _ _ => rfl⟩
theorem Turn.mono {F G : Nat → Prop} {w w' : World} (h : Turn F w w') (hFG : ∀ k, F k → G k) : Turn G w w' := ⟨h.os, h.tape, h.output, h.size, fun k hk hn => h.block k hk (fun hf => hn (hFG k hf))⟩
theorem Turn.trans {F : Nat → Prop} {a b c : World} (h : Turn F a b) (k : Turn (Grow F a b) b c) : Turn F a c :=
  ⟨k.os.trans h.os, k.tape.trans h.tape, k.output.trans h.output, Nat.le_trans h.size k.size, fun i hi hn => (k.block i (Nat.lt_of_lt_of_le hi h.size) (fun hg => by rcases hg with hg | hg; exact hn hg; omega)).trans (h.block i hi hn)⟩
theorem Turn.trans' {F : Nat → Prop} {a b c : World} (h : Turn F a b) (k : Turn F b c) : Turn F a c := h.trans (k.mono fun _ => Or.inl)
theorem Turn.below {F : Nat → Prop} {w w' : World} (h : Turn F w w') {B : Nat} (hF : ∀ k, F k → B ≤ k) (hB : B ≤ w.heap.size) : Below B w w' :=
  ⟨h.os, h.tape, h.output, h.size, fun k hk => h.block k (by omega) (fun hf => by have := hF k hf; omega)⟩
theorem Turn.of_below {F : Nat → Prop} {w w' : World} (h : Below w.heap.size w w') : Turn F w w' := ⟨h.os, h.tape, h.output, h.size, fun k hk _ => h.block k hk⟩
theorem Turn.of_grown {F : Nat → Prop} {w w' : World} {row : Option Nat} (h : w.grownBy w' row) (hr : ∀ k, row = some k → F k) : Turn F w w' :=
  ⟨h.os, h.tape, h.output, h.size, fun k hk hn => h.block k hk (fun e => hn (hr k e.symm))⟩
theorem Turn.drew {F : Nat → Prop} {a w : World} (h : Turn F a w) : Turn F a w.drew := ⟨h.os, h.tape, h.output, h.size, h.block⟩
theorem Turn.drewN {F : Nat → Prop} {a w : World} (h : Turn F a w) (n : Nat) : Turn F a (w.drewN n) := ⟨h.os, h.tape, h.output, h.size, h.block⟩
theorem Turn.alloc {F : Nat → Prop} {a w : World} (h : Turn F a w) (o : Obj) : Turn F a (w.alloc o) :=
  h.trans' ⟨rfl, rfl, rfl, by simp, fun k hk _ => Below.heap_alloc _ _ _ hk⟩
theorem Turn.setCell {F : Nat → Prop} {a w : World} (h : Turn F a w) {p : Addr} (hp : F p.block) (u : Value) : Turn F a (w.setCell p u) :=
  h.trans' ⟨rfl, rfl, rfl, by simp [World.setCell], fun k _ hn => Below.heap_setCell _ _ _ _ (fun e => hn (e ▸ hp))⟩
theorem Turn.setCell' {F : Nat → Prop} {a w : World} (h : Turn F a w) {p : Addr} (hp : a.heap.size ≤ p.block) (u : Value) : Turn F a (w.setCell p u) :=
  ⟨h.os, h.tape, h.output, by simpa [World.setCell] using h.size, fun k hk hn => (Below.heap_setCell _ _ _ _ (by omega)).trans (h.block k hk hn)⟩
theorem Grow.of {F : Nat → Prop} {w w' : World} {k : Nat} (h : F k) : Grow F w w' k := .inl h
theorem Grow.trans {F : Nat → Prop} {a b c : World} (h1 : a.heap.size ≤ b.heap.size) (h2 : b.heap.size ≤ c.heap.size) {k : Nat} (h : Grow (Grow F a b) b c k) : Grow F a c k := by
  rcases h with (h | h) | h
  · exact .inl h
  · exact .inr ⟨h.1, by omega⟩
  · exact .inr ⟨by omega, h.2⟩

/-- A row of one's own stays where its block stays. -/
theorem owns_other {w w' : World} {base : Nat} {e : TypeId} {size : Nat} {v : Value} {n : Nat} {xs : List Value} (h : w.ownsRow base e size v n xs) (hh : ∀ j, v.ownBlock = some j → w'.heap[j]? = w.heap[j]?) : w'.ownsRow base e size v n xs := by
  obtain ⟨hl, h0 | ⟨g, cap, cur, rfl, hb, hg, hr⟩⟩ := h
  · exact ⟨hl, .inl h0⟩
  · exact ⟨hl, .inr ⟨g, cap, cur, rfl, hb, (hh g rfl).trans hg, hr⟩⟩
theorem owns_base {w : World} {base base' : Nat} {e : TypeId} {size : Nat} {v : Value} {n : Nat} {xs : List Value} (h : w.ownsRow base e size v n xs) (hh : ∀ j, v.ownBlock = some j → base' ≤ j) : w.ownsRow base' e size v n xs := by
  obtain ⟨hl, h0 | ⟨g, cap, cur, rfl, hb, hg, hr⟩⟩ := h
  · exact ⟨hl, .inl h0⟩
  · exact ⟨hl, .inr ⟨g, cap, cur, rfl, hh g rfl, hg, hr⟩⟩

/-- The head of a row that is not empty. -/
theorem owns_head {w : World} {base : Nat} {e : TypeId} {size : Nat} {v : Value} {n : Nat} {xs : List Value} (h : w.ownsRow base e size v n xs) (hn : 0 < n) : ∃ g cap, v = .slice (some ⟨g, 0, none⟩) n cap ∧ n ≤ cap ∧ base ≤ g ∧ g < w.heap.size := by
  obtain ⟨hl, ⟨_, h0⟩ | ⟨g, cap, cur, rfl, hb, hg, hr⟩⟩ := h
  · omega
  · exact ⟨g, cap, rfl, hr.1, hb, (Array.getElem?_eq_some_iff.1 hg).1⟩
theorem owns_cell {w : World} {base : Nat} {e : TypeId} {size : Nat} {g n cap : Nat} {xs : List Value} (h : w.ownsRow base e size (.slice (some ⟨g, 0, none⟩) n cap) n xs) {j : Nat} {u : Value} (hj : xs[j]? = some u) : w.cell? ⟨g, j, none⟩ = some u := by
  have := h.cells (g := g) rfl j u hj
  rwa [Addr.add_lit, Nat.zero_add] at this
theorem owns_frozen {w : World} {base : Nat} {e : TypeId} {size : Nat} {g n cap : Nat} {xs : List Value} (h : w.ownsRow base e size (.slice (some ⟨g, 0, none⟩) n cap) n xs) (j : Nat) : w.frozen? ⟨g, j, none⟩ = false := by
  obtain ⟨hl, ⟨h0, _⟩ | ⟨g', cap', cur, h0, hb, hg, hr⟩⟩ := h
  · simp at h0
  · simp only [Value.slice.injEq, Option.some.injEq, Addr.mk.injEq] at h0
    obtain ⟨⟨rfl, _⟩, _⟩ := h0
    simp only [World.frozen?, hg]
    rw [Bool.and_eq_false_iff]
    right
    exact decide_eq_false (by omega)
/-- A cell of one's own row set anew. -/
theorem owns_set {w : World} {base : Nat} {e : TypeId} {size : Nat} {g n cap : Nat} {xs : List Value} (h : w.ownsRow base e size (.slice (some ⟨g, 0, none⟩) n cap) n xs) (j : Nat) (u : Value) : (w.setCell ⟨g, j, none⟩ u).ownsRow base e size (.slice (some ⟨g, 0, none⟩) n cap) n (xs.set j u) := by
  obtain ⟨hl, ⟨h0, _⟩ | ⟨g', cap', cur, h0, hb, hg, h1, h2, h3, h4⟩⟩ := h
  · simp at h0
  · simp only [Value.slice.injEq, Option.some.injEq, Addr.mk.injEq] at h0
    obtain ⟨⟨rfl, _⟩, _, rfl⟩ := h0
    refine ⟨by simpa using hl, .inr ⟨g, cap, cur.setIfInBounds j u, rfl, hb, ?_, h1, h2, by simpa using h3, ?_⟩⟩
    · have hlt : g < w.heap.size := (Array.getElem?_eq_some_iff.1 hg).1
      simp only [World.setCell, Array.getElem?_modify]
      rw [if_pos trivial, hg]
      simp
    · rw [Array.toList_setIfInBounds, ← h4, List.take_set]

/-- 'append' to a row of one's own: what it was, and whether the row is the same or new. -/
theorem append_own2 {P : Program} (w : World) (base : Nat) (t ty e : TypeId) (i : TypeInfo) (z : Value) (size bytes : Nat) (ht : P.underlying t = some (.slice e)) (hi : P.info? e = some i) (hz : i.zero = some z)
    (hsize : i.size = size) (hby : i.bytes = bytes) (hzs : z.cells.size = size) (hsz : 0 < size)
    (v : Value) (n : Nat) (xs : List Value) (hown : w.ownsRow base e size v n xs)
    (a : Addr) (m c : Nat) (news : List Value) (hl : news.length = m * size) (hnews : ∀ j u, news[j]? = some u → w.cell? (a.add j) = some u) (h1 : ∀ u ∈ news, u.oneCell' = true)
    (h63 : n + m ≤ maxLen) (hbytes : (n + m) * bytes ≤ 140737488355328) (hbase : base ≤ w.heap.size) :
    ∃ v' w', (Builtin.append_ #[t, t] ty #[v, .slice (some a) m c]).run P w = .ok v' w' ∧ w'.ownsRow base e size v' (n + m) (xs ++ news) ∧ w.grownBy w' v.ownBlock ∧
      (v'.ownBlock = v.ownBlock ∨ ∀ k, v'.ownBlock = some k → w.heap.size ≤ k) := by
  obtain ⟨v', w', hr, h2, h3, h4⟩ := run_append_own (P := P) w base t ty e i z size bytes ht hi hz hsize hby hzs hsz v n xs hown a m c news hl hnews h1 h63 hbytes hbase
  refine ⟨v', w', hr, h2, h3, ?_⟩
  subst hsize hby
  have hsmall : n + m ≤ 9223372036854775807 := by simp only [maxLen] at h63; omega
  rcases hown.2 with ⟨rfl, rfl⟩ | ⟨g, cap, cur, rfl, hbg, hg, hnc, hcm, hcs, htake⟩
  · by_cases hm : m = 0
    · left
      rw [h4.2 ⟨rfl, hm⟩]
    · right
      have hr2 := run_append_nil (P := P) w t ty e i z ht hi hz a m c news hl hnews (by omega) (by omega) (by have hb := hbytes; simp only [Nat.zero_add] at hb; omega)
      rw [hr] at hr2
      simp only [Result.ok.injEq] at hr2
      obtain ⟨rfl, _⟩ := hr2
      intro k hk
      simp [Value.ownBlock] at hk
      omega
  · by_cases hroom : n + m ≤ cap
    · left
      have hfit : n * i.size + news.length ≤ cur.size := by rw [hl, hcs, ← Nat.add_mul]; exact Nat.mul_le_mul_right _ hroom
      have hr2 := run_append_room (P := P) w t ty e i ht hi g n cap cur hg a m c news hl hnews h1 hroom hfit
      rw [hr] at hr2
      simp only [Result.ok.injEq] at hr2
      obtain ⟨rfl, _⟩ := hr2
      rfl
    · right
      have hr2 := run_append_grow (P := P) w t ty e i z ht hi hz ⟨g, 0, none⟩ n cap xs hown.1 (hown.cells (g := g) rfl) a m c news hl hnews (by omega) (by omega) (growslice_fits (by omega) hbytes)
      rw [hr] at hr2
      simp only [Result.ok.injEq] at hr2
      obtain ⟨rfl, _⟩ := hr2
      intro k hk
      simp [Value.ownBlock] at hk
      omega
theorem step_append_own2 {P : Program} {w : World} {o : Oper} {a : Act} {K : Act → World → Prop} {Q : Exit → Act → World → Prop} (s x : Operand) (t : TypeId)
    (ho : o.op = .call { callee := .builtin .append, args := #[s, x], argTypes := #[t, t] })
    (base : Nat) (e : TypeId) (i : TypeInfo) (z : Value) (size bytes : Nat) (ht : P.underlying t = some (.slice e)) (hi : P.info? e = some i) (hz : i.zero = some z)
    (hsize : i.size = size) (hby : i.bytes = bytes) (hzs : z.cells.size = size) (hsz : 0 < size)
    (v : Value) (n : Nat) (xs : List Value) (hs : a.eval s = v) (hown : w.ownsRow base e size v n xs)
    (ad : Addr) (m c : Nat) (news : List Value) (hx : a.eval x = .slice (some ad) m c) (hl : news.length = m * size) (hnews : ∀ j u, news[j]? = some u → w.cell? (ad.add j) = some u) (h1 : ∀ u ∈ news, u.oneCell' = true)
    (h63 : n + m ≤ maxLen) (hbytes : (n + m) * bytes ≤ 140737488355328) (hbase : base ≤ w.heap.size)
    (h : ∀ v' w', w'.ownsRow base e size v' (n + m) (xs ++ news) → w.grownBy w' v.ownBlock → (v'.ownBlock = v.ownBlock ∨ ∀ k, v'.ownBlock = some k → w.heap.size ≤ k) → K (a.put o.dst v') w') : o.wp P a w K Q := by
  obtain ⟨v', w', hr, h2, h3, h4⟩ := append_own2 (P := P) w base t o.type e i z size bytes ht hi hz hsize hby hzs hsz v n xs hown ad m c news hl hnews h1 h63 hbytes hbase
  unfold Oper.wp execOp
  simp only [ho, resolve, invoke, builtin, Sem.run_bind, Sem.run_pure, Result.andThen_ok, List.map_toArray, List.map_cons, List.map_nil, hs, hx, hr]
  exact h v' w' h2 h3 h4
theorem wpList_append_own2 {P : Program} {w : World} {ops : Array Oper} {rest : List Oper} {o : Oper} {a : Act} {Q : Exit → Act → World → Prop} (hgd : o.guard = none) (s x : Operand) (t : TypeId)
    (ho : o.op = .call { callee := .builtin .append, args := #[s, x], argTypes := #[t, t] })
    (base : Nat) (e : TypeId) (i : TypeInfo) (z : Value) (size bytes : Nat) (ht : P.underlying t = some (.slice e)) (hi : P.info? e = some i) (hz : i.zero = some z)
    (hsize : i.size = size) (hby : i.bytes = bytes) (hzs : z.cells.size = size) (hsz : 0 < size)
    (v : Value) (n : Nat) (xs : List Value) (hs : a.eval s = v) (hown : w.ownsRow base e size v n xs)
    (ad : Addr) (m c : Nat) (news : List Value) (hx : a.eval x = .slice (some ad) m c) (hl : news.length = m * size) (hnews : ∀ j u, news[j]? = some u → w.cell? (ad.add j) = some u) (h1 : ∀ u ∈ news, u.oneCell' = true)
    (h63 : n + m ≤ maxLen) (hbytes : (n + m) * bytes ≤ 140737488355328) (hbase : base ≤ w.heap.size)
    (h : ∀ v' w', w'.ownsRow base e size v' (n + m) (xs ++ news) → w.grownBy w' v.ownBlock → (v'.ownBlock = v.ownBlock ∨ ∀ k, v'.ownBlock = some k → w.heap.size ≤ k) → wpList P ops Q rest (a.put o.dst v') w') : wpList P ops Q (o :: rest) a w :=
  wpList_plain hgd fun _ hK => step_append_own2 s x t ho base e i z size bytes ht hi hz hsize hby hzs hsz v n xs hs hown ad m c news hx hl hnews h1 h63 hbytes hbase fun v' w' h2 h3 h4 => hK _ _ (h v' w' h2 h3 h4)
end Go.Proofs.Ytpmjkgpmidejoaa
/-
  A device told by plain lists: what lasts, what is seen, what waits, the fuse; and how it lies in memory.
-/
namespace Go.Proofs.Ytpmjkgpmidejoaa
open Go.RowKit

structure D where
  L : List ByteArray
  S : List ByteArray
  C : List (Nat × ByteArray)
  st : Nat
  k : Int

/-- Writes laid one behind the other. -/
def app (L : List ByteArray) (C : List (Nat × ByteArray)) : List ByteArray := C.foldl (fun l p => l.set p.1 p.2) L
theorem app_length (C : List (Nat × ByteArray)) : ∀ L, (app L C).length = L.length := by
  induction C with
  | nil => intro L; rfl
  | cons p C ih => intro L; show (app (L.set p.1 p.2) C).length = _; rw [ih]; simp
theorem app_snoc (L : List ByteArray) (C : List (Nat × ByteArray)) (p : Nat × ByteArray) : app L (C ++ [p]) = (app L C).set p.1 p.2 := by simp [app]
theorem app_take {L : List ByteArray} {C : List (Nat × ByteArray)} {j : Nat} (h : j < C.length) : app L (C.take (j + 1)) = (app L (C.take j)).set C[j].1 C[j].2 := by
  rw [List.take_succ_eq_append_getElem h, app_snoc]

/-- The writes that a crash keeps. -/
def kept (keep : List Bool) (C : List (Nat × ByteArray)) : List (Nat × ByteArray) := (C.zipIdx.filter fun p => keep.getD p.2 false).map (·.1)
theorem kept_snoc (keep : List Bool) (C : List (Nat × ByteArray)) (p : Nat × ByteArray) : kept keep (C ++ [p]) = kept keep C ++ if keep.getD C.length false then [p] else [] := by
  simp only [kept, List.zipIdx_append, List.filter_append, List.map_append]
  congr 1
  simp only [List.zipIdx_cons, List.zipIdx_nil, Nat.zero_add, List.filter_cons, List.filter_nil]
  split <;> simp
theorem kept_take_yes {keep : List Bool} {C : List (Nat × ByteArray)} {j : Nat} (h : j < C.length) (hk : keep.getD j false = true) : kept keep (C.take (j + 1)) = kept keep (C.take j) ++ [C[j]] := by
  rw [List.take_succ_eq_append_getElem h, kept_snoc, List.length_take, Nat.min_eq_left (Nat.le_of_lt h), hk]
  rfl
theorem kept_take_no {keep : List Bool} {C : List (Nat × ByteArray)} {j : Nat} (h : j < C.length) (hk : keep.getD j false = false) : kept keep (C.take (j + 1)) = kept keep (C.take j) := by
  rw [List.take_succ_eq_append_getElem h, kept_snoc, List.length_take, Nat.min_eq_left (Nat.le_of_lt h), hk]
  simp

def D.burn (M : D) : Int × D := if M.st = 0 then (0, M) else if M.st = 1 ∧ 0 < M.k then (0, { M with k := M.k - 1 }) else (50, { M with st := 2 })
def D.wr (M : D) (i : Int) (b : ByteArray) : Int × D :=
  if M.st ≠ 2 ∧ ¬ (0 ≤ i ∧ i < (M.S.length : Int) ∧ b.size = 256) then (1, M)
  else if M.burn.1 ≠ 0 then M.burn
  else (0, { M.burn.2 with C := M.C ++ [(i.toNat, b)], S := M.S.set i.toNat b })
def D.flush (M : D) : Int × D := if M.burn.1 ≠ 0 then M.burn else (0, { M.burn.2 with L := app M.L M.C, C := [] })
def D.crash (M : D) (keep : List Bool) : D := { L := app M.L (kept keep M.C), S := app M.L (kept keep M.C), C := [], st := 0, k := 0 }
def D.fuse (M : D) (k : Int) : D := if M.st = 2 then M else if k < 0 then { M with st := 0, k := 0 } else { M with st := 1, k := k }
def D.new (n : Nat) (b : ByteArray) : D := { L := List.replicate n b, S := List.replicate n b, C := [], st := 0, k := 0 }

/-- What every device keeps. -/
structure D.Ok (M : D) : Prop where
  len : M.S.length = M.L.length
  pos : 0 < M.L.length
  top : M.L.length ≤ 4096
  sec : ∀ p ∈ M.C, p.1 < M.L.length
  st : M.st ≤ 2
  k0 : 0 ≤ M.k
  k1 : M.k ≤ 9223372036854775807

theorem D.burn_L (M : D) : M.burn.2.L = M.L ∧ M.burn.2.S = M.S ∧ M.burn.2.C = M.C := by
  unfold D.burn
  split
  · exact ⟨rfl, rfl, rfl⟩
  · split <;> exact ⟨rfl, rfl, rfl⟩
theorem D.Ok.burn {M : D} (h : M.Ok) : M.burn.2.Ok := by
  unfold D.burn
  have := h.k0
  have := h.k1
  split
  · exact h
  · split
    · rename_i h1
      exact ⟨h.len, h.pos, h.top, h.sec, h.st, by show 0 ≤ M.k - 1; omega, by show M.k - 1 ≤ _; omega⟩
    · exact ⟨h.len, h.pos, h.top, h.sec, Nat.le_refl _, h.k0, h.k1⟩
theorem D.Ok.wr {M : D} (h : M.Ok) (i : Int) (b : ByteArray) : (M.wr i b).2.Ok := by
  unfold D.wr
  split
  · exact h
  · split
    · exact h.burn
    · rename_i h1 h2
      have hb := h.burn
      obtain ⟨e1, e2, e3⟩ := M.burn_L
      have hlen := h.len
      refine ⟨?_, by show 0 < M.burn.2.L.length; rw [e1]; exact h.pos, by show M.burn.2.L.length ≤ _; rw [e1]; exact h.top, ?_, hb.st, hb.k0, hb.k1⟩
      · show (M.S.set i.toNat b).length = M.burn.2.L.length
        rw [e1, List.length_set]
        exact hlen
      · show ∀ p ∈ M.C ++ [(i.toNat, b)], p.1 < M.burn.2.L.length
        rw [e1]
        intro p hp
        rw [List.mem_append] at hp
        rcases hp with hp | hp
        · exact h.sec p hp
        · simp only [List.mem_singleton] at hp
          subst hp
          show i.toNat < M.L.length
          have hst : M.st ≠ 2 := by
            intro e
            apply h2
            unfold D.burn
            rw [if_neg (by omega), if_neg (by omega)]
            show (50 : Int) ≠ 0
            decide
          have : 0 ≤ i ∧ i < (M.S.length : Int) ∧ b.size = 256 := Classical.byContradiction fun hn => h1 ⟨hst, hn⟩
          omega
theorem D.Ok.flush {M : D} (h : M.Ok) : M.flush.2.Ok := by
  unfold D.flush
  split
  · exact h.burn
  · have hb := h.burn
    obtain ⟨e1, e2, e3⟩ := M.burn_L
    refine ⟨?_, ?_, ?_, by intro p hp; simp at hp, hb.st, hb.k0, hb.k1⟩
    · show M.burn.2.S.length = (app M.L M.C).length
      rw [e2, app_length]
      exact h.len
    · show 0 < (app M.L M.C).length
      rw [app_length]
      exact h.pos
    · show (app M.L M.C).length ≤ 4096
      rw [app_length]
      exact h.top
theorem D.Ok.crash {M : D} (h : M.Ok) (keep : List Bool) : (M.crash keep).Ok := by
  refine ⟨rfl, ?_, ?_, by intro p hp; simp [D.crash] at hp, by simp [D.crash], by simp [D.crash], by simp [D.crash]⟩
  · show 0 < (app _ _).length
    rw [app_length]
    exact h.pos
  · show (app _ _).length ≤ 4096
    rw [app_length]
    exact h.top
theorem D.Ok.fuse {M : D} (h : M.Ok) (k : Int) (hk : k ≤ 9223372036854775807) : (M.fuse k).Ok := by
  unfold D.fuse
  split
  · exact h
  · split
    · exact ⟨h.len, h.pos, h.top, h.sec, by show 0 ≤ 2; omega, by show (0 : Int) ≤ 0; omega, by show (0 : Int) ≤ _; omega⟩
    · exact ⟨h.len, h.pos, h.top, h.sec, by show 1 ≤ 2; omega, by show 0 ≤ k; omega, hk⟩
theorem D.Ok.new {n : Nat} (h0 : 0 < n) (h1 : n ≤ 4096) (b : ByteArray) : (D.new n b).Ok :=
  ⟨by simp [D.new], by simpa [D.new] using h0, by simpa [D.new] using h1, by intro p hp; simp [D.new] at hp, by simp [D.new], by simp [D.new], by simp [D.new]⟩

/-- How it lies in memory. -/
structure DevV (w : World) (d : Nat) (lv sv cv : Value) (M : D) : Prop where
  blk : w.heap[d]? = some (.cells #[lv, sv, cv, .int .i64 (M.st : Int), .int .i64 M.k] 82 (0, 0))
  lr : w.ownsRow 0 9 1 lv M.L.length (scs M.L)
  sr : w.ownsRow 0 9 1 sv M.S.length (scs M.S)
  cr : w.ownsRow 0 109 2 cv M.C.length (ccs M.C)
  dl : ∀ g, lv.ownBlock = some g → g ≠ d ∧ sv.ownBlock ≠ some g ∧ cv.ownBlock ≠ some g
  ds : ∀ g, sv.ownBlock = some g → g ≠ d ∧ cv.ownBlock ≠ some g
  dc : ∀ g, cv.ownBlock = some g → g ≠ d

def Foot (d : Nat) (lv sv cv : Value) (k : Nat) : Prop := k = d ∨ lv.ownBlock = some k ∨ sv.ownBlock = some k ∨ cv.ownBlock = some k

/-- A device all of whose blocks lie in F. -/
def Dev (w : World) (F : Nat → Prop) (d : Nat) (M : D) : Prop :=
  M.Ok ∧ (∀ k, F k → k < w.heap.size) ∧ ∃ lv sv cv, DevV w d lv sv cv M ∧ ∀ k, Foot d lv sv cv k → F k

theorem DevV.other {w w' : World} {d : Nat} {lv sv cv : Value} {M : D} (h : DevV w d lv sv cv M) (hh : ∀ k, Foot d lv sv cv k → w'.heap[k]? = w.heap[k]?) : DevV w' d lv sv cv M :=
  ⟨(hh d (.inl rfl)).trans h.blk, owns_other h.lr fun j hj => hh j (.inr (.inl hj)), owns_other h.sr fun j hj => hh j (.inr (.inr (.inl hj))), owns_other h.cr fun j hj => hh j (.inr (.inr (.inr hj))), h.dl, h.ds, h.dc⟩
theorem Dev.other {w w' : World} {F G : Nat → Prop} {d : Nat} {M : D} (h : Dev w F d M) (ht : Turn G w w') (hd : ∀ k, F k → ¬ G k) : Dev w' F d M := by
  obtain ⟨h0, h1, lv, sv, cv, h2, h3⟩ := h
  exact ⟨h0, fun k hk => by have := h1 k hk; have := ht.size; omega, lv, sv, cv, h2.other fun k hk => ht.block k (h1 k (h3 k hk)) (hd k (h3 k hk)), h3⟩
theorem Dev.below {w w' : World} {F : Nat → Prop} {d : Nat} {M : D} (h : Dev w F d M) (hb : Below w.heap.size w w') : Dev w' F d M :=
  h.other (G := fun _ => False) (Turn.of_below hb) (fun _ _ h => h)
theorem Dev.lt {w : World} {F : Nat → Prop} {d : Nat} {M : D} (h : Dev w F d M) : d < w.heap.size := by
  obtain ⟨_, h1, lv, sv, cv, _, h3⟩ := h
  exact h1 d (h3 d (.inl rfl))
theorem cell_blk {w : World} {g : Nat} {c : Array Value} {t : TypeId} (h : w.heap[g]? = some (.cells c t (0, 0))) (j : Nat) : w.cell? ⟨g, j, none⟩ = c[j]? := by simp [World.cell?, h]
theorem frozen_blk {w : World} {g : Nat} {c : Array Value} {t : TypeId} (h : w.heap[g]? = some (.cells c t (0, 0))) (j : Nat) : w.frozen? ⟨g, j, none⟩ = false := by
  simp only [World.frozen?, h]
  rw [Bool.and_eq_false_iff]
  right
  exact decide_eq_false (by omega)
theorem set_blk {w : World} {g : Nat} {c : Array Value} {t : TypeId} (h : w.heap[g]? = some (.cells c t (0, 0))) (j : Nat) (u : Value) : (w.setCell ⟨g, j, none⟩ u).heap[g]? = some (.cells (c.setIfInBounds j u) t (0, 0)) := by
  simp only [World.setCell, Array.getElem?_modify]
  rw [if_pos trivial, h]
  simp
theorem owns_setCell {w : World} {base : Nat} {e : TypeId} {size : Nat} {v : Value} {n : Nat} {xs : List Value} (h : w.ownsRow base e size v n xs) {p : Addr} (hp : v.ownBlock ≠ some p.block) (u : Value) : (w.setCell p u).ownsRow base e size v n xs :=
  owns_other h fun j hj => Below.heap_setCell _ _ _ _ (fun e => hp (by rw [hj, e]))
end Go.Proofs.Ytpmjkgpmidejoaa

/-
  How trees lie in memory: rows of cells, nodes; what a step leaves as it was.
-/
import Derived.Test.YtpophalhmjchkaaProg
import Derived.Test.YtpophalhmjchkaaTreeE
import Derived.Laws.IdiomStrings
import Derived.Laws.AppendOwnNone
import Derived.Below
import Derived.WalkKit
import Derived.WalkSpells
import Derived.WalkLawsBesides
import Derived.OwnWalk
import Derived.Deep.QuietTactic
import Derived.BigQuiet
import Derived.Deep.RegionHeld3
import Derived.Laws.ResultCell
import Derived.BigRegion
import Derived.Shelf.Abstract
import Derived.Deep.CutRange
import Derived.Deep.CutBlock
import Derived.Deep.DeepCutAuto
import Derived.Deep.RegionWith
namespace Go.Proofs.Ytpophalhmjchkaa
open Go.RowKit

theorem info79 : (Try.prog.info? 79).map (fun i => (i.zero, i.size, i.bytes)) = some (some (.agg #[.string ⟨#[]⟩, .string ⟨#[]⟩]), 2, 32) := by kernel_rfl
theorem info61 : (Try.prog.info? 61).map (fun i => (i.zero, i.size, i.bytes)) = some (some .nilIface, 1, 16) := by kernel_rfl
theorem info9 : (Try.prog.info? 9).map (fun i => (i.zero, i.size, i.bytes)) = some (some (.string ⟨#[]⟩), 1, 16) := by kernel_rfl
theorem ret_bool {p q : Bool} (g : p = q) : Ending.returned (.bool p) = .returned (.bool q) := by rw [g]
theorem ret_int {k : IntKind} {a b : Int} (h : a = b) : Ending.returned (.int k a) = .returned (.int k b) := by rw [h]

theorem cell_blk {w : World} {g : Nat} {c : Array Value} {t : TypeId} (h : w.heap[g]? = some (.cells c t (0, 0))) (j : Nat) : w.cell? ⟨g, j, none⟩ = c[j]? := by simp [World.cell?, h]
theorem frozen_blk {w : World} {g : Nat} {c : Array Value} {t : TypeId} (h : w.heap[g]? = some (.cells c t (0, 0))) (j : Nat) : w.frozen? ⟨g, j, none⟩ = false := by
  simp only [World.frozen?, h]
  rw [Bool.and_eq_false_iff]
  right
  exact decide_eq_false (by omega)
theorem set_blk {w : World} {g : Nat} {c : Array Value} {t : TypeId} (h : w.heap[g]? = some (.cells c t (0, 0))) (j : Nat) (u : Value) : (w.setCell ⟨g, j, none⟩ u).heap[g]? = some (.cells (c.setIfInBounds j u) t (0, 0)) := by
  simp only [World.setCell, Array.getElem?_modify]
  rw [if_pos trivial, h]
  simp
theorem below_drewN {B : Nat} {a w : World} (h : Below B a w) (n : Nat) : Below B a (w.drewN n) := ⟨h.os, h.tape, h.output, h.size, h.block⟩

/-- The cells of pairs, of texts. -/
def pcs (ps : List KV) : List Value := ps.flatMap fun p => [Value.string p.1, Value.string p.2]
def scs (bs : List ByteArray) : List Value := bs.map Value.string
theorem pcs_len (ps : List KV) : (pcs ps).length = ps.length * 2 := by
  induction ps with
  | nil => rfl
  | cons p r ih => simp only [pcs, List.flatMap_cons, List.length_append, List.length_cons, List.length_nil] at ih ⊢; omega
theorem scs_len (bs : List ByteArray) : (scs bs).length = bs.length * 1 := by simp [scs]
theorem pcs_app (ps qs : List KV) : pcs (ps ++ qs) = pcs ps ++ pcs qs := by simp [pcs]
theorem scs_app (ps qs : List ByteArray) : scs (ps ++ qs) = scs ps ++ scs qs := by simp [scs]
theorem pcs_one (ps : List KV) : ∀ u ∈ pcs ps, u.oneCell' = true := by
  intro u hu
  simp only [pcs, List.mem_flatMap, List.mem_cons, List.not_mem_nil, or_false] at hu
  obtain ⟨p, _, rfl | rfl⟩ := hu <;> rfl
theorem scs_one (bs : List ByteArray) : ∀ u ∈ scs bs, u.oneCell' = true := by
  intro u hu
  simp only [scs, List.mem_map] at hu
  obtain ⟨c, _, rfl⟩ := hu
  rfl
theorem pcs_take : ∀ (ps : List KV) (i : Nat), pcs (ps.take i) = (pcs ps).take (i * 2)
  | [], i => by simp [pcs]
  | p :: ps, 0 => by simp [pcs]
  | p :: ps, i + 1 => by
    have := pcs_take ps i
    simp only [pcs, List.take_succ_cons, List.flatMap_cons] at this ⊢
    rw [this, show (i + 1) * 2 = i * 2 + 1 + 1 from by omega]
    simp
theorem pcs_drop : ∀ (ps : List KV) (i : Nat), pcs (ps.drop i) = (pcs ps).drop (i * 2)
  | [], i => by simp [pcs]
  | p :: ps, 0 => by simp [pcs]
  | p :: ps, i + 1 => by
    have := pcs_drop ps i
    simp only [pcs, List.drop_succ_cons, List.flatMap_cons] at this ⊢
    rw [this, show (i + 1) * 2 = i * 2 + 1 + 1 from by omega]
    simp
theorem pcs_get {ps : List KV} : ∀ {j : Nat} (h : j < ps.length), (pcs ps)[j * 2]? = some (.string ps[j].1) ∧ (pcs ps)[j * 2 + 1]? = some (.string ps[j].2) := by
  induction ps with
  | nil => intro j h; simp at h
  | cons p r ih =>
    intro j h
    cases j with
    | zero => exact ⟨rfl, rfl⟩
    | succ j =>
      have := ih (j := j) (by simpa using h)
      simp only [pcs, List.flatMap_cons, List.getElem_cons_succ] at this ⊢
      rw [show (j + 1) * 2 = j * 2 + 1 + 1 from by omega]
      simpa using this

/-- A block that is kept clear of, if any. -/
class Avd where
  g : Option Nat
instance (priority := low) avdNone : Avd := ⟨none⟩
/-- That block lies in the world. -/
def Av [Avd] (w : World) : Prop := ∀ q, Avd.g = some q → q < w.heap.size
theorem Av.below {AV : Avd} {w w' : World} {B : Nat} (h : Av w) (hb : Below B w w') : Av w' := fun q hq => Nat.lt_of_lt_of_le (h q hq) hb.size
theorem Av.ne {AV : Avd} {w : World} (h : Av w) {k : Nat} (hk : w.heap.size ≤ k) : some k ≠ Avd.g := fun e => by have := h k e.symm; omega
theorem Av.none (w : World) : @Av avdNone w := fun _ hq => by cases hq
/-- A slice and the cells of its elements. -/
structure Sl [Avd] (w : World) (size : Nat) (a : Option Addr) (n c : Nat) (vs : List Value) : Prop where
  cl : vs = [] ∨ ∃ b off, a = some ⟨b, off, none⟩ ∧ b < w.heap.size ∧ ∀ j (h : j < vs.length), w.cell? ⟨b, off + j, none⟩ = some vs[j]
  len : vs.length = n * size
  cap : n ≤ c
  nil : a = none → c = 0
  spot : ∀ x, a = some x → x.spot = none
  one : ∀ u ∈ vs, u.oneCell' = true
  ok : vs ≠ [] → ∀ x, a = some x → some x.block ≠ Avd.g
  av : Av w
theorem Sl.below {AV : Avd} {w w' : World} {size : Nat} {a : Option Addr} {n c : Nat} {vs : List Value} (h : Sl w size a n c vs) (hb : Below w.heap.size w w') : Sl w' size a n c vs := by
  refine ⟨?_, h.len, h.cap, h.nil, h.spot, h.one, h.ok, h.av.below hb⟩
  rcases h.cl with h0 | ⟨b, off, e, hl, hc⟩
  · exact .inl h0
  · exact .inr ⟨b, off, e, Nat.lt_of_lt_of_le hl hb.size, fun j hj => (hb.cell (p := ⟨b, off + j, none⟩) hl).trans (hc j hj)⟩
theorem Sl.at {AV : Avd} {w : World} {size : Nat} {a : Option Addr} {n c : Nat} {vs : List Value} (h : Sl w size a n c vs) {j : Nat} (hj : j < vs.length) : ∃ b off, a = some ⟨b, off, none⟩ ∧ b < w.heap.size ∧ ∀ j (h : j < vs.length), w.cell? ⟨b, off + j, none⟩ = some vs[j] := by
  rcases h.cl with h0 | h0
  · rw [h0] at hj; simp at hj
  · exact h0
theorem Sl.none {AV : Avd} {w : World} (hav : Av w) (size : Nat) : Sl w size Option.none 0 0 [] := ⟨.inl rfl, by simp, Nat.le_refl _, fun _ => rfl, by simp, by simp, by simp, hav⟩
theorem owns_lt {w : World} {base : Nat} {e : TypeId} {size : Nat} {v : Value} {n : Nat} {xs : List Value} (h : w.ownsRow base e size v n xs) : ∀ g, v.ownBlock = some g → base ≤ g ∧ g < w.heap.size := by
  obtain ⟨hl, ⟨rfl, h0⟩ | ⟨g, cap, cur, rfl, hb, hg, hr⟩⟩ := h
  · intro g hg; simp [Value.ownBlock] at hg
  · intro g' hg'
    simp only [Value.ownBlock, Option.some.injEq] at hg'
    subst hg'
    exact ⟨hb, (Array.getElem?_eq_some_iff.1 hg).1⟩
theorem Sl.ownA {AV : Avd} {w w0 : World} {base : Nat} {e : TypeId} {size : Nat} {v : Value} {n : Nat} {xs : List Value} (h : w.ownsRow base e size v n xs) (h1 : ∀ u ∈ xs, u.oneCell' = true) (hav : Av w0) (hb : w0.heap.size ≤ base) (hw : w0.heap.size ≤ w.heap.size) : ∃ a c, v = .slice a n c ∧ Sl w size a n c xs := by
  have h0 := h
  obtain ⟨hl, ⟨rfl, rfl⟩ | ⟨g, cap, cur, rfl, hbg, hg, hr⟩⟩ := h
  · refine ⟨Option.none, 0, rfl, .inl ?_, hl, Nat.le_refl _, fun _ => rfl, by simp, h1, by simp, fun q hq => Nat.lt_of_lt_of_le (hav q hq) hw⟩
    simpa using hl
  · refine ⟨some ⟨g, 0, Option.none⟩, cap, rfl, .inr ⟨g, 0, rfl, (Array.getElem?_eq_some_iff.1 hg).1, fun j hj => ?_⟩, hl, hr.1, (by intro h; cases h), (by intro x e; cases e; rfl), h1, (by intro _ x e; cases e; exact hav.ne (Nat.le_trans hb hbg)), fun q hq => Nat.lt_of_lt_of_le (hav q hq) hw⟩
    have := h0.cells (g := g) rfl j xs[j] (List.getElem?_eq_getElem hj)
    rwa [Addr.add_lit] at this

theorem wpList_append_sl {AV : Avd} {P : Program} {w : World} {ops : Array Oper} {rest : List Oper} {o : Oper} {a : Act} {Q : Exit → Act → World → Prop} (hgd : o.guard = Option.none) (s x : Operand) (t : TypeId)
    (ho : o.op = .call { callee := .builtin .append, args := #[s, x], argTypes := #[t, t] }) (base : Nat) (e : TypeId) (i : TypeInfo) (z : Value) (size bytes : Nat) (ht : P.underlying t = some (.slice e)) (hi : P.info? e = some i) (hz : i.zero = some z)
    (hsize : i.size = size) (hby : i.bytes = bytes) (hzs : z.cells.size = size) (hsz : 0 < size) (hb32 : bytes ≤ 32)
    (v : Value) (n : Nat) (xs : List Value) (hs : a.eval s = v) (hown : w.ownsRow base e size v n xs) (xa : Option Addr) (m c : Nat) (ys : List Value) (hx : a.eval x = .slice xa m c) (hy : Sl w size xa m c ys) (hn : n + m ≤ 1000000000) (hbase : base ≤ w.heap.size)
    (h : ∀ v' w', w'.ownsRow base e size v' (n + m) (xs ++ ys) → w.grownBy w' v.ownBlock → wpList P ops Q rest (a.put o.dst v') w') : wpList P ops Q (o :: rest) a w := by
  cases xa with
  | none =>
    have hc := hy.nil rfl
    have hm := hy.cap
    obtain rfl : m = 0 := by omega
    subst hc
    have hyl := hy.len
    simp only [Nat.zero_mul, List.length_eq_zero_iff] at hyl
    subst hyl
    refine wpList_append_own_none hgd s x t ho base e i size ht hi v n xs hs hown hx ?_
    exact h v w (by rw [List.append_nil]; exact hown) (World.grownBy.refl _ _)
  | some ad =>
    have hbb : (n + m) * bytes ≤ 140737488355328 := by
      have := Nat.mul_le_mul hn hb32
      omega
    refine wpList_append_own w hgd s x t ho base e i z size bytes ht hi hz hsize hby hzs hsz v n xs hs hown ad m c ys hx hy.len ?_ hy.one (by unfold maxLen; omega) hbb hbase ?_
    · intro j u hj
      obtain ⟨hj', rfl⟩ := List.getElem?_eq_some_iff.1 hj
      obtain ⟨b, off, he, _, hcs⟩ := hy.at hj'
      simp only [Option.some.injEq] at he
      subst he
      rw [Addr.add_lit]
      exact hcs j hj'
    · intro v' w' h1 h2 _
      exact h v' w' h1 h2
theorem wpList_append_run {P : Program} {w : World} {ops : Array Oper} {rest : List Oper} {o : Oper} {a : Act} {Q : Exit → Act → World → Prop} (hgd : o.guard = Option.none) (s x : Operand) (t tn : TypeId)
    (ho : o.op = .call { callee := .builtin .append, args := #[s, x], argTypes := #[t, tn] }) (vs vx : Value) (hs : a.eval s = vs) (hx : a.eval x = vx) (v' : Value) (w' : World)
    (hr : ∀ ty, (Builtin.append_ #[t, tn] ty #[vs, vx]).run P w = .ok v' w') (h : wpList P ops Q rest (a.put o.dst v') w') : wpList P ops Q (o :: rest) a w := by
  refine wpList_plain hgd fun _ hK => ?_
  unfold Oper.wp execOp
  simp only [ho, resolve, invoke, builtin, Sem.run_bind, Sem.run_pure, Result.andThen_ok, List.map_toArray, List.map_cons, List.map_nil, hs, hx, hr]
  exact hK _ _ h

/-- Cut ahead of an element, behind one. -/
theorem slice_lo {AV : Avd} {t e : TypeId} {i : TypeInfo} (ht : Try.prog.underlying t = some (.slice e)) (hi : Try.prog.info? e = some i) {w : World} {size : Nat} {a : Option Addr} {n c : Nat} {vs : List Value} (hsz : i.size = size) (h : Sl w size a n c vs) {k : Nat} (hk : k ≤ n) :
    ∃ a', (∀ wx, (Instr.slice t (.slice a n c) (some (.int .i64 (k : Int))) Option.none Option.none).run Try.prog wx = .ok (.slice a' (n - k) (c - k)) wx) ∧ Sl w size a' (n - k) (c - k) (vs.drop (k * size)) := by
  have hcap := h.cap
  have hlen : (vs.drop (k * size)).length = (n - k) * size := by rw [List.length_drop, h.len, Nat.sub_mul]
  have hone : ∀ u ∈ vs.drop (k * size), u.oneCell' = true := fun u hu => h.one u (List.mem_of_mem_drop hu)
  cases a with
  | none =>
    have hc := h.nil rfl
    subst hc
    obtain rfl : n = 0 := by omega
    obtain rfl : k = 0 := by omega
    refine ⟨Option.none, fun wx => ?_, ⟨.inl ?_, hlen, by omega, fun _ => rfl, by simp, hone, by simp, h.av⟩⟩
    · simp [Instr.slice, run_underlying ht, Instr.sliceBounds, run_sliceBound, sizeOf, typeInfo, hi]
    · have := h.len; simp only [Nat.zero_mul, List.length_eq_zero_iff] at this; rw [this]; simp
  | some ad =>
    obtain ⟨b, off, sp⟩ := ad
    have hsp : sp = Option.none := h.spot _ rfl
    subst hsp
    by_cases hkc : k = c
    · subst hkc
      obtain rfl : n = k := by omega
      refine ⟨some ⟨b, off, Option.none⟩, fun wx => ?_, ⟨.inl ?_, hlen, by omega, (by intro h; cases h), (by intro x e; cases e; rfl), hone, (fun hne => h.ok (fun e2 => hne (by rw [e2]; simp))), h.av⟩⟩
      · simp [Instr.slice, run_underlying ht, Instr.sliceBounds, run_sliceBound, sizeOf, typeInfo, hi]
      · rw [List.drop_eq_nil_iff, h.len]; exact Nat.le_refl _
    · refine ⟨some ⟨b, off + k * size, Option.none⟩, fun wx => ?_, ⟨?_, hlen, by omega, (by intro h; cases h), (by intro x e; cases e; rfl), hone, (by intro hne x e; cases e; exact h.ok (fun e2 => hne (by rw [e2]; simp)) ⟨b, off, Option.none⟩ rfl), h.av⟩⟩
      · simp [Instr.slice, run_underlying ht, Instr.sliceBounds, run_sliceBound, sizeOf, typeInfo, hi, hsz, (by omega : (k : Int) ≤ (n : Int)), Addr.add]
        rw [if_neg (by omega)]
        split
        · rename_i h0; rw [h0]; rfl
        · rfl
      · by_cases h0 : vs.drop (k * size) = []
        · exact .inl h0
        · right
          have hne : vs ≠ [] := by rintro rfl; simp at h0
          rcases h.cl with h1 | ⟨b', off', e', hl', hc'⟩
          · exact absurd h1 hne
          · simp only [Option.some.injEq, Addr.mk.injEq] at e'
            obtain ⟨rfl, rfl, _⟩ := e'
            refine ⟨b, off + k * size, rfl, hl', fun j hj => ?_⟩
            rw [List.length_drop] at hj
            rw [List.getElem_drop, Nat.add_assoc]
            exact hc' (k * size + j) (by omega)
theorem slice_hi {AV : Avd} {t e : TypeId} {i : TypeInfo} (ht : Try.prog.underlying t = some (.slice e)) (hi : Try.prog.info? e = some i) {w : World} {size : Nat} {a : Option Addr} {n c : Nat} {vs : List Value} (h : Sl w size a n c vs) {k : Nat} (hk : k ≤ n) :
    (∀ wx, (Instr.slice t (.slice a n c) Option.none (some (.int .i64 (k : Int))) Option.none).run Try.prog wx = .ok (.slice a k c) wx) ∧ Sl w size a k c (vs.take (k * size)) := by
  have hcap := h.cap
  have hlen : (vs.take (k * size)).length = k * size := by
    rw [List.length_take, h.len]
    have := Nat.mul_le_mul_right size hk
    omega
  refine ⟨fun wx => ?_, ⟨?_, hlen, by omega, h.nil, h.spot, fun u hu => h.one u (List.mem_of_mem_take hu), (fun hne => h.ok (fun e2 => hne (by rw [e2]; simp))), h.av⟩⟩
  · cases a with
    | none =>
      have hc := h.nil rfl
      subst hc
      obtain rfl : k = 0 := by omega
      simp [Instr.slice, run_underlying ht, Instr.sliceBounds, run_sliceBound, sizeOf, typeInfo, hi]
    | some ad => simp [Instr.slice, run_underlying ht, Instr.sliceBounds, run_sliceBound, sizeOf, typeInfo, hi, (by omega : (k : Int) ≤ (c : Int)), Addr.add]
  · rcases h.cl with h1 | ⟨b, off, e', hl', hc'⟩
    · left; rw [h1]; simp
    · refine .inr ⟨b, off, e', hl', fun j hj => ?_⟩
      rw [List.length_take] at hj
      rw [List.getElem_take]
      exact hc' j (by omega)

/-- Two lists, item by item. -/
def All2 (R : Value → T → Prop) : List Value → List T → Prop
  | [], [] => True
  | v :: vs, t :: ts => R v t ∧ All2 R vs ts
  | _, _ => False
section
variable {R : Value → T → Prop}
theorem All2.len : ∀ {vs : List Value} {ts : List T}, All2 R vs ts → vs.length = ts.length
  | [], [], _ => rfl
  | _ :: _, _ :: _, h => by simp only [List.length_cons]; rw [All2.len h.2]
  | [], _ :: _, h => h.elim
  | _ :: _, [], h => h.elim
theorem All2.get : ∀ {vs : List Value} {ts : List T}, All2 R vs ts → ∀ {j : Nat} (h1 : j < vs.length) (h2 : j < ts.length), R vs[j] ts[j]
  | _ :: _, _ :: _, h, 0, _, _ => h.1
  | _ :: _, _ :: _, h, _ + 1, h1, h2 => All2.get h.2 (by simpa using h1) (by simpa using h2)
  | [], _, _, _, h1, _ => by simp at h1
  | _ :: _, [], h, _, _, _ => h.elim
theorem All2.app : ∀ {vs ws : List Value} {ts us : List T}, All2 R vs ts → All2 R ws us → All2 R (vs ++ ws) (ts ++ us)
  | [], _, [], _, _, h => h
  | _ :: _, _, _ :: _, _, h, h2 => ⟨h.1, All2.app h.2 h2⟩
  | [], _, _ :: _, _, h, _ => h.elim
  | _ :: _, _, [], _, h, _ => h.elim
theorem All2.take : ∀ {vs : List Value} {ts : List T} (i : Nat), All2 R vs ts → All2 R (vs.take i) (ts.take i)
  | _, _, 0, _ => trivial
  | [], [], _ + 1, _ => trivial
  | _ :: _, _ :: _, i + 1, h => ⟨h.1, All2.take i h.2⟩
  | [], _ :: _, _ + 1, h => h.elim
  | _ :: _, [], _ + 1, h => h.elim
theorem All2.drop : ∀ {vs : List Value} {ts : List T} (i : Nat), All2 R vs ts → All2 R (vs.drop i) (ts.drop i)
  | _, _, 0, h => h
  | [], [], _ + 1, _ => trivial
  | _ :: _, _ :: _, i + 1, h => All2.drop i h.2
  | [], _ :: _, _ + 1, h => h.elim
  | _ :: _, [], _ + 1, h => h.elim
theorem All2.mono {R2 : Value → T → Prop} (hR : ∀ v t, R v t → R2 v t) : ∀ {vs : List Value} {ts : List T}, All2 R vs ts → All2 R2 vs ts
  | [], [], _ => trivial
  | _ :: _, _ :: _, h => ⟨hR _ _ h.1, All2.mono hR h.2⟩
  | [], _ :: _, h => h.elim
  | _ :: _, [], h => h.elim
end

/-- A leaf, an inner node, by their pointers. -/
def Lf [Avd] (w : World) (b : Nat) (ps : List KV) : Prop := ∃ a c, w.heap[b]? = some (.cells #[.slice a ps.length c] 59 (0, 0)) ∧ Sl w 2 a ps.length c (pcs ps)
def InB' [Avd] (w : World) (R : Value → T → Prop) (b : Nat) (bs : List ByteArray) (cs : List T) : Prop :=
  ∃ a1 c1 a2 c2 vs, w.heap[b]? = some (.cells #[.slice a1 bs.length c1, .slice a2 cs.length c2] 85 (0, 0)) ∧ Sl w 1 a1 bs.length c1 (scs bs) ∧ Sl w 1 a2 cs.length c2 vs ∧ All2 R vs cs
/-- A node in memory. -/
def Nd [Avd] (w : World) : Nat → Value → T → Prop
  | 0, v, .leaf ps => ∃ b, v = .iface 56 (.pointer (some ⟨b, 0, Option.none⟩)) ∧ Lf w b ps
  | h + 1, v, .inner bs cs => ∃ b, v = .iface 66 (.pointer (some ⟨b, 0, Option.none⟩)) ∧ InB' w (Nd w h) b bs cs
  | _, _, _ => False
theorem Lf.below {AV : Avd} {w w' : World} {b : Nat} {ps : List KV} (h : Lf w b ps) (hb : Below w.heap.size w w') : Lf w' b ps := by
  obtain ⟨a, c, h1, h2⟩ := h
  exact ⟨a, c, (hb.block b (Array.getElem?_eq_some_iff.1 h1).1).trans h1, h2.below hb⟩
theorem InB'.below {AV : Avd} {w w' : World} {R R' : Value → T → Prop} {b : Nat} {bs : List ByteArray} {cs : List T} (h : InB' w R b bs cs) (hb : Below w.heap.size w w') (hR : ∀ v t, R v t → R' v t) : InB' w' R' b bs cs := by
  obtain ⟨a1, c1, a2, c2, vs, h1, h2, h3, h4⟩ := h
  exact ⟨a1, c1, a2, c2, vs, (hb.block b (Array.getElem?_eq_some_iff.1 h1).1).trans h1, h2.below hb, h3.below hb, h4.mono hR⟩
theorem Nd.below {AV : Avd} {w w' : World} (hb : Below w.heap.size w w') : ∀ {h : Nat} {v : Value} {t : T}, Nd w h v t → Nd w' h v t
  | 0, _, .leaf _, hn => by
    obtain ⟨b, e, h1⟩ := hn
    exact ⟨b, e, h1.below hb⟩
  | h + 1, _, .inner _ _, hn => by
    obtain ⟨b, e, h1⟩ := hn
    exact ⟨b, e, h1.below hb (fun _ _ h2 => Nd.below hb h2)⟩
  | 0, _, .inner _ _, hn => hn.elim
  | _ + 1, _, .leaf _, hn => hn.elim
theorem Nd.one {AV : Avd} {w : World} : ∀ {h : Nat} {v : Value} {t : T}, Nd w h v t → v.oneCell' = true
  | 0, _, .leaf _, hn => by obtain ⟨b, rfl, _⟩ := hn; rfl
  | _ + 1, _, .inner _ _, hn => by obtain ⟨b, rfl, _⟩ := hn; rfl
  | 0, _, .inner _ _, hn => hn.elim
  | _ + 1, _, .leaf _, hn => hn.elim
theorem Lf.av {AV : Avd} {w : World} {b : Nat} {ps : List KV} (h : Lf w b ps) : Av w := by
  obtain ⟨a, c, h1, h2⟩ := h
  exact h2.av
theorem Nd.av {AV : Avd} {w : World} : ∀ {h : Nat} {v : Value} {t : T}, Nd w h v t → Av w
  | 0, _, .leaf _, hn => by obtain ⟨b, rfl, h1⟩ := hn; exact h1.av
  | _ + 1, _, .inner _ _, hn => by obtain ⟨b, rfl, a1, c1, a2, c2, vs, _, h2, _⟩ := hn; exact h2.av
  | 0, _, .inner _ _, hn => hn.elim
  | _ + 1, _, .leaf _, hn => hn.elim
/-- A row of children of height h, by its pointer. -/
def Rw [Avd] (w : World) (h : Nat) (b : Nat) (r : List ByteArray × List T) : Prop := InB' w (Nd w h) b r.1 r.2
theorem Rw.below {AV : Avd} {w w' : World} {h b : Nat} {r : List ByteArray × List T} (hr : Rw w h b r) (hb : Below w.heap.size w w') : Rw w' h b r := InB'.below hr hb (fun _ _ h2 => h2.below hb)
theorem Rw.av {AV : Avd} {w : World} {h b : Nat} {r : List ByteArray × List T} (hr : Rw w h b r) : Av w := by
  obtain ⟨a1, c1, a2, c2, vs, _, h2, _⟩ := hr
  exact h2.av
theorem Sl.own {w : World} {base : Nat} {e : TypeId} {size : Nat} {v : Value} {n : Nat} {xs : List Value} (h : w.ownsRow base e size v n xs) (h1 : ∀ u ∈ xs, u.oneCell' = true) : ∃ a c, v = .slice a n c ∧ @Sl avdNone w size a n c xs := by
  have h0 := h
  obtain ⟨hl, ⟨rfl, rfl⟩ | ⟨g, cap, cur, rfl, hb, hg, hr⟩⟩ := h
  · refine ⟨Option.none, 0, rfl, .inl ?_, hl, Nat.le_refl _, fun _ => rfl, by simp, h1, by simp, Av.none w⟩
    simpa using hl
  · refine ⟨some ⟨g, 0, Option.none⟩, cap, rfl, .inr ⟨g, 0, rfl, (Array.getElem?_eq_some_iff.1 hg).1, fun j hj => ?_⟩, hl, hr.1, (by intro h; cases h), (by intro x e; cases e; rfl), h1, (by intro _ x e h; cases h), Av.none w⟩
    have := h0.cells (g := g) rfl j xs[j] (List.getElem?_eq_getElem hj)
    rwa [Addr.add_lit] at this
end Go.Proofs.Ytpophalhmjchkaa

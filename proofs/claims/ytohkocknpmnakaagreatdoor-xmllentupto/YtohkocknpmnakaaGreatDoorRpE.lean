/-
  The document's reader: element, over a content that is asked for.
-/
import Derived.Test.YtohkocknpmnakaaGreatDoorRpD
import Derived.Deep.Cut
namespace Go.Proofs.YtohkocknpmnakaaGreatDoor
open Go.RowKit

/-- How the reading of an element ends: it is read, or the reader is bad. -/
def ElO (K : Nat) (o : Option (Nod × List UInt8)) (W : World) (p : Nat) (l : List UInt8) (e : Ending) (w' : World) : Prop :=
  (∃ t k' a c, o = some (t, l.drop k') ∧ k' ≤ l.length ∧ e = .returned (ndV t a c) ∧ Kd (fun b => W.heap.size ≤ b) K w' a t.ks ∧ Rr w' p l k' false ∧ Md (fun b => b = p) W w') ∨
  (o = none ∧ (∃ (n t : ByteArray) (a : Option Addr) (m c : Nat), e = .returned (.agg #[.string n, .string t, .slice a m c])) ∧ ∃ k', k' ≤ l.length + 1 ∧ Rr w' p l k' true ∧ Md (fun b => b = p) W w')
/-- What is asked of the reading of elements. -/
def ElQ (k : Nat) : Prop := ∀ (p a : Nat) (l : List UInt8) (W : World), Rr W p l a false → a ≤ l.length → l.length ≤ 65536 → Calls Tryz.prog 33 #[.pointer (some ⟨p, 0, none⟩), .int .i64 ((17 - k : Nat) : Int)] W fun e w' => ElO k (elemF une k (l.drop a)) W p l e w'
def conN (k : Nat) (n l : List UInt8) : Option (Nod × List UInt8) := (contF une (elemF une k) l).bind fun p => (closeL n p.2.2).map fun r => (.nd n p.1 p.2.1, r)
/-- What is asked of the reading of contents. -/
def CoQ (k : Nat) : Prop := ∀ (p a : Nat) (l n : List UInt8) (W : World), Rr W p l a false → a ≤ l.length → l.length ≤ 65536 → nmL n = n → n ≠ [] → Calls Tryz.prog 66 #[.pointer (some ⟨p, 0, none⟩), .agg #[.string ⟨n.toArray⟩, .string ⟨#[]⟩, .slice none 0 0], .int .i64 ((16 - k : Nat) : Int)] W fun e w' => ElO (k + 1) (conN k n (l.drop a)) W p l e w'

theorem take_idem (f : UInt8 → Bool) (l : List UInt8) : (l.takeWhile f).takeWhile f = l.takeWhile f := by
  induction l with
  | nil => rfl
  | cons c r ih =>
    by_cases h : f c = true
    · rw [List.takeWhile_cons_of_pos h, List.takeWhile_cons_of_pos h, ih]
    · rw [List.takeWhile_cons_of_neg h]
      rfl
theorem nm_idem (l : List UInt8) : nmL (nmL l) = nmL l := by
  cases l with
  | nil => rfl
  | cons c r =>
    cases h : letB c with
    | true => simp only [nmL, h, if_true, take_idem]
    | false => simp [nmL, h]
theorem size30 : (Tryz.prog.info? 30).map (·.size) = some 3 := by kernel_rfl
/-- An element's three cells. -/
def Bn (w : World) (q : Nat) (x y z : Value) : Prop := w.heap[q]? = some (.cells #[x, y, z] 30 (0, 0))
theorem Bn.cells {w : World} {q : Nat} {x y z : Value} (h : Bn w q x y z) : (w.cell? ⟨q, 0, none⟩ = some x ∧ w.cell? ⟨q, 1, none⟩ = some y ∧ w.cell? ⟨q, 2, none⟩ = some z) ∧ w.frozen? ⟨q, 0, none⟩ = false ∧ w.frozen? ⟨q, 1, none⟩ = false ∧ w.frozen? ⟨q, 2, none⟩ = false :=
  ⟨⟨cell_blk h 0, cell_blk h 1, cell_blk h 2⟩, frozen_blk h 0, frozen_blk h 1, frozen_blk h 2⟩
theorem Bn.keep {F : Nat → Prop} {w w' : World} {q : Nat} {x y z : Value} (h : Bn w q x y z) (hm : Md F w w') (hF : ¬ F q) : Bn w' q x y z := keep_blk h hm hF
theorem Bn.set {w : World} {q : Nat} {x y z : Value} (h : Bn w q x y z) (x' y' z' : Value) : Bn (((w.setCell ⟨q, 0, none⟩ x').setCell ⟨q, 1, none⟩ y').setCell ⟨q, 2, none⟩ z') q x' y' z' := (set_blk (set_blk (set_blk h 0 _) 1 _) 2 _).trans rfl
/-- Within element: the reader and the box of the answer. -/
def Ein (W w : World) (p q : Nat) (l : List UInt8) (a : Nat) (b : Bool) (x y z : Value) : Prop := Rr w p l a b ∧ Bn w q x y z ∧ Md (fun b => b = p) W w ∧ p ≠ q ∧ p < w.heap.size ∧ q < w.heap.size ∧ W.heap.size ≤ q
theorem Ein.start {W : World} {p a : Nat} {l : List UInt8} {b : Bool} (h : Rr W p l a b) : Ein W (W.alloc (.cells #[.string ⟨#[]⟩, .string ⟨#[]⟩, .slice none 0 0] 30)) p W.heap.size l a b (.string ⟨#[]⟩) (.string ⟨#[]⟩) (.slice none 0 0) := by
  have hp := blk_lt h
  have hm : Md (fun _ => False) W (W.alloc (.cells #[.string ⟨#[]⟩, .string ⟨#[]⟩, .slice none 0 0] 30)) := (Md.refl _ _).alloc _
  have hs : (W.alloc (.cells #[.string ⟨#[]⟩, .string ⟨#[]⟩, .slice none 0 0] 30)).heap.size = W.heap.size + 1 := by show (W.heap.push _).size = _; simp
  exact ⟨h.keep hm (fun h => h), heap_alloc_new _ _, (Md.refl _ _).alloc _, by omega, by omega, by omega, Nat.le_refl _⟩
/-- Behind the reader's step. -/
theorem Ein.step {W w w' : World} {p q : Nat} {l : List UInt8} {a a' : Nat} {b b' : Bool} {x y z : Value} (h : Ein W w p q l a b x y z) (hm : Md (fun b => b = p) w w') (hr : Rr w' p l a' b') : Ein W w' p q l a' b' x y z :=
  ⟨hr, h.2.1.keep hm (fun e => h.2.2.2.1 e.symm), h.2.2.1.then hm (fun _ _ h => h), h.2.2.2.1, Nat.lt_of_lt_of_le h.2.2.2.2.1 hm.size, Nat.lt_of_lt_of_le h.2.2.2.2.2.1 hm.size, h.2.2.2.2.2.2⟩
theorem Ein.bad {W w : World} {p q : Nat} {l : List UInt8} {a : Nat} {b : Bool} {x y z : Value} (h : Ein W w p q l a b x y z) (c : Bool) : Ein W (w.setCell ⟨p, 2, none⟩ (.bool c)) p q l a c x y z :=
  h.step ((Md.refl (fun b => b = p) _).set (.inl rfl) _ _) (h.1.bad c)
theorem Ein.answer {W w : World} {p q : Nat} {l : List UInt8} {a : Nat} {b : Bool} {x y z : Value} (h : Ein W w p q l a b x y z) (x' y' z' : Value) : Ein W (((w.setCell ⟨q, 0, none⟩ x').setCell ⟨q, 1, none⟩ y').setCell ⟨q, 2, none⟩ z') p q l a b x' y' z' := by
  have hm : Md (fun b => b = q) w (((w.setCell ⟨q, 0, none⟩ x').setCell ⟨q, 1, none⟩ y').setCell ⟨q, 2, none⟩ z') := ((((Md.refl (fun b => b = q) _).set (.inl rfl) _ _).set (.inl rfl) _ _).set (.inl rfl) _ _)
  exact ⟨h.1.keep hm h.2.2.2.1, h.2.1.set x' y' z', h.2.2.1.then hm (fun b hb e => by have := h.2.2.2.2.2.2; omega), h.2.2.2.1, Nat.lt_of_lt_of_le h.2.2.2.2.1 hm.size, Nat.lt_of_lt_of_le h.2.2.2.2.2.1 hm.size, h.2.2.2.2.2.2⟩
theorem Ein.facts {W w : World} {p q : Nat} {l : List UInt8} {a : Nat} {b : Bool} {x y z : Value} (h : Ein W w p q l a b x y z) : (w.cell? ⟨p, 2, none⟩ = some (.bool b) ∧ w.frozen? ⟨p, 2, none⟩ = false) ∧ (w.cell? ⟨q, 0, none⟩ = some x ∧ w.cell? ⟨q, 1, none⟩ = some y ∧ w.cell? ⟨q, 2, none⟩ = some z) ∧ w.frozen? ⟨q, 0, none⟩ = false ∧ w.frozen? ⟨q, 1, none⟩ = false ∧ w.frozen? ⟨q, 2, none⟩ = false :=
  ⟨⟨h.1.cells.1.2.2, h.1.cells.2.2.2⟩, h.2.1.cells⟩

theorem Ein.alloc {W w : World} {p q : Nat} {l : List UInt8} {a : Nat} {b : Bool} {x y z : Value} (h : Ein W w p q l a b x y z) (o : Obj) : Ein W (w.alloc o) p q l a b x y z := by
  have hm : Md (fun _ => False) w (w.alloc o) := (Md.refl _ _).alloc _
  exact ⟨h.1.keep hm (fun h => h), h.2.1.keep hm (fun h => h), h.2.2.1.then hm (fun _ _ h => h.elim), h.2.2.2.1, Nat.lt_of_lt_of_le h.2.2.2.2.1 hm.size, Nat.lt_of_lt_of_le h.2.2.2.2.2.1 hm.size, h.2.2.2.2.2.2⟩
theorem rest_eq (k : Nat) (n r : List UInt8) : restF une (elemF une k) n r = match eat [47, 62] r with | some q => some (.nd n [] [], q) | none => (eat [62] r).bind (conN k n) := rfl
theorem ats_stop {g : Nat} {l : List UInt8} (h : nmL (skp l) = []) : atsF (g + 1) l = some (skp l) := by
  simp only [atsF]
  rw [if_neg (by simp [h])]
theorem ats_tight {g : Nat} {l : List UInt8} (h : ¬ (skp l).length < l.length) : atsF (g + 1) l = some (skp l) := by
  simp only [atsF]
  rw [if_neg (by simp [h])]
theorem ats_go {g : Nat} {l : List UInt8} (h : (skp l).length < l.length) (hn : nmL (skp l) ≠ []) : atsF (g + 1) l = (atrL (skp l)).bind (atsF g) := by
  simp only [atsF]
  rw [if_pos ⟨h, hn⟩]
theorem nm_pre {c : UInt8} {l q : List UInt8} (hc : letB c = false) (h : Lib.hasPrefix l (c :: q) = true) : nmL l = [] := by
  obtain ⟨r, rfl⟩ := (hasPrefix_iff _ _).1 h
  exact nm_no hc

set_option maxRecDepth 20000 in
theorem elq_zero : ElQ 0 := by
  intro p a l W h ha hl
  obtain ⟨w0, hw0⟩ : ∃ w0, w0 = W.alloc (.cells #[.string ⟨#[]⟩, .string ⟨#[]⟩, .slice none 0 0] 30) := ⟨_, rfl⟩
  obtain ⟨q, hq⟩ : ∃ q, q = W.heap.size := ⟨_, rfl⟩
  have H0 : Hid (Ein W w0 p q l a false (.string ⟨#[]⟩) (.string ⟨#[]⟩) (.slice none 0 0)) := by
    rw [hw0, hq]
    exact Ein.start h
  obtain ⟨⟨p2, pf⟩, ⟨q0, q1, q2⟩, f0, f1, f2⟩ := H0.out.facts
  have hpq := H0.out.2.2.2.1
  have hpz := H0.out.2.2.2.2.1
  have hqz := H0.out.2.2.2.2.2.1
  clear h
  go_enter Tryz.func33, Tryz.ntmps33
  go_upto_region 2 with fail
  rw [← hw0, ← hq]
  clear hw0 hq
  go_wp2
  have H1 := (H0.out.bad true).answer (.string ⟨#[]⟩) (.string ⟨#[]⟩) (.slice none 0 0)
  refine bodyPost_ret (results_cell_row rfl _ _ q 30 #[.string ⟨#[]⟩, .string ⟨#[]⟩, .slice none 0 0] (0, 0) _ rfl H1.2.1 Tryz.underlying30 rfl size30) rfl (.inr ⟨rfl, ⟨_, _, _, _, _, rfl⟩, a, by omega, H1.1, H1.2.2.1⟩)

theorem eatY {q l : List UInt8} {a : Nat} (h : Lib.hasPrefix (l.drop a) q = true) : eat q (l.drop a) = some (l.drop (a + q.length)) := by
  unfold eat
  rw [if_pos h, List.drop_drop]
theorem eatN {q l : List UInt8} {a : Nat} (h : Lib.hasPrefix (l.drop a) q = false) : eat q (l.drop a) = none := by
  unfold eat
  rw [if_neg (by rw [h]; decide)]
theorem eatI {q l : List UInt8} {a : Nat} (h : Lib.hasPrefix (l.drop a) q = true) : a + q.length ≤ l.length ∨ q = [] := by
  obtain ⟨r, hr⟩ := (hasPrefix_iff _ _).1 h
  have := congrArg List.length hr
  simp only [List.length_drop, List.length_append] at this
  by_cases hq : q = []
  · exact .inr hq
  · have := List.length_pos_iff.2 hq
    exact .inl (by omega)

set_option maxRecDepth 20000 in
set_option maxHeartbeats 3200000 in
theorem elq_succ (k : Nat) (hk : k ≤ 15) (HC : CoQ k) : ElQ (k + 1) := by
  intro p a l W h ha hl
  rw [show 17 - (k + 1) = 16 - k by omega]
  have hdep : ¬ (16 : Int) < ((16 - k : Nat) : Int) := by omega
  have HCo := (show Hid (∀ (a : Nat) (n : List UInt8) (W : World), Rr W p l a false → a ≤ l.length → nmL n = n → n ≠ [] → Calls Tryz.prog 66 #[.pointer (some ⟨p, 0, none⟩), .agg #[.string ⟨n.toArray⟩, .string ⟨#[]⟩, .slice none 0 0], .int .i64 ((16 - k : Nat) : Int)] W fun e w' => ElO (k + 1) (conN k n (l.drop a)) W p l e w') from fun a n W h1 h2 h3 h4 => HC p a l n W h1 h2 hl h3 h4)
  obtain ⟨D, hD⟩ : ∃ D : Int, D = ((16 - k : Nat) : Int) := ⟨_, rfl⟩
  rw [← hD] at hdep HCo
  rw [← hD]
  clear hD HC
  obtain ⟨X, hX⟩ : ∃ X, X = elemF une (k + 1) (l.drop a) := ⟨_, rfl⟩
  rw [← hX]
  rw [elemF_eq] at hX
  have HX : Hid (X = _) := hX
  clear hX
  obtain ⟨w0, hw0⟩ : ∃ w0, w0 = W.alloc (.cells #[.string ⟨#[]⟩, .string ⟨#[]⟩, .slice none 0 0] 30) := ⟨_, rfl⟩
  obtain ⟨q, hq⟩ : ∃ q, q = W.heap.size := ⟨_, rfl⟩
  have H0 : Hid (Ein W w0 p q l a false (.string ⟨#[]⟩) (.string ⟨#[]⟩) (.slice none 0 0)) := by
    rw [hw0, hq]
    exact Ein.start h
  have K1 := eat_ref p a l [60] false w0 H0.out.1 ha hl (by decide)
  clear h
  go_enter Tryz.func33, Tryz.ntmps33
  go_wp2_with fail
  rw [← hw0, ← hq]
  clear hw0 hq
  refine K1.mono ?_
  rintro e w1 ⟨rfl, hr, hm⟩
  clear K1
  cases he : Lib.hasPrefix (l.drop a) [60] with
  | false =>
    rw [he] at hr
    have H1 : Hid (Ein W w1 p q l a false (.string ⟨#[]⟩) (.string ⟨#[]⟩) (.slice none 0 0)) := H0.out.step hm hr
    have HN : Hid (X = none) := by
      show _ = _
      rw [HX.out, eatN he]
      rfl
    obtain ⟨⟨p2, pf⟩, ⟨q0, q1, q2⟩, f0, f1, f2⟩ := H1.out.facts
    have hpq := H1.out.2.2.2.1
    clear hr hm he
    go_wp2
    have H2 := (H1.out.bad true).answer (.string ⟨#[]⟩) (.string ⟨#[]⟩) (.slice none 0 0)
    refine bodyPost_ret (results_cell_row rfl _ _ q 30 #[.string ⟨#[]⟩, .string ⟨#[]⟩, .slice none 0 0] (0, 0) _ rfl H2.2.1 Tryz.underlying30 rfl size30) rfl (.inr ⟨HN.out, ⟨_, _, _, _, _, rfl⟩, a, by omega, H2.1, H2.2.2.1⟩)
  | true =>
    rw [he] at hr
    have ha1 : a + 1 ≤ l.length := by
      rcases eatI he with h | h
      · exact h
      · cases h
    have H1 : Hid (Ein W w1 p q l (a + 1) false (.string ⟨#[]⟩) (.string ⟨#[]⟩) (.slice none 0 0)) := H0.out.step hm hr
    have HN : Hid (X = if nmL (l.drop (a + 1)) = [] then none else (atsF (((l.drop (a + 1)).drop (nmL (l.drop (a + 1))).length).length + 1) ((l.drop (a + 1)).drop (nmL (l.drop (a + 1))).length)).bind fun r => restF une (elemF une k) (nmL (l.drop (a + 1))) r) := by
      show _ = _
      rw [HX.out, eatY he]
      rfl
    have K2 := rname_ref p (a + 1) l false w1 H1.out.1 ha1 hl
    clear hr hm he HX
    go_wp2_with fail
    refine K2.mono ?_
    rintro e w2 ⟨rfl, hr, hm⟩
    clear K2
    obtain ⟨n, hn⟩ : ∃ n, n = nmL (l.drop (a + 1)) := ⟨_, rfl⟩
    have HNM : Hid (nmL n = n) := by rw [hn]; exact nm_idem _
    rw [← hn] at hr HN ⊢
    by_cases hn0 : n = []
    · have HZ : Hid (X = none) := by show _ = _; rw [HN.out, if_pos hn0]
      have H2 : Hid (Ein W w2 p q l (a + 1) false (.string ⟨#[]⟩) (.string ⟨#[]⟩) (.slice none 0 0)) := H1.out.step hm (by rw [hn0] at hr; exact hr)
      obtain ⟨⟨p2, pf⟩, ⟨q0, q1, q2⟩, f0, f1, f2⟩ := H2.out.facts
      have hpq := H2.out.2.2.2.1
      have hpz := H2.out.2.2.2.2.1
      have hqz := H2.out.2.2.2.2.2.1
      clear hr hm hn
      subst hn0
      go_wp2
      have H3 := ((H2.out.bad true).answer (.string ⟨#[]⟩) (.string ⟨#[]⟩) (.slice none 0 0)).alloc (.cells #[.string ⟨#[]⟩, .string ⟨#[]⟩, .slice none 0 0] 30)
      refine bodyPost_ret (results_cell_row rfl _ _ q 30 #[.string ⟨#[]⟩, .string ⟨#[]⟩, .slice none 0 0] (0, 0) _ rfl H3.2.1 Tryz.underlying30 rfl size30) rfl (.inr ⟨HZ.out, ⟨_, _, _, _, _, rfl⟩, a + 1, by omega, H3.1, H3.2.2.1⟩)
    · have hnl : a + 1 + n.length ≤ l.length := by
        have := nm_le (l.drop (a + 1))
        rw [← hn] at this
        simp only [List.length_drop] at this
        omega
      have hne : n.isEmpty = false := by simpa using hn0
      have HN0 : Hid (n ≠ []) := hn0
      have H2 : Hid (Ein W w2 p q l (a + 1 + n.length) false (.string ⟨#[]⟩) (.string ⟨#[]⟩) (.slice none 0 0)) := H1.out.step hm hr
      have HX2 : Hid (X = (atsF ((l.drop (a + 1 + n.length)).length + 1) (l.drop (a + 1 + n.length))).bind fun r => restF une (elemF une k) n r) := by
        show _ = _
        rw [HN.out, if_neg hn0, List.drop_drop]
      clear hr hm hn HN H1 H0
      go_wp2_with fail
      obtain ⟨w3, hw3⟩ : ∃ w3, w3 = w2.alloc (.cells #[.string ⟨n.toArray⟩, .string ⟨#[]⟩, .slice none 0 0] 30) := ⟨_, rfl⟩
      obtain ⟨nb, hnb⟩ : ∃ nb, nb = w2.heap.size := ⟨_, rfl⟩
      have H3 : Hid (Ein W w3 p q l (a + 1 + n.length) false (.string ⟨#[]⟩) (.string ⟨#[]⟩) (.slice none 0 0) ∧ Bn w3 nb (.string ⟨n.toArray⟩) (.string ⟨#[]⟩) (.slice none 0 0) ∧ p < nb ∧ q < nb) := by
        rw [hw3, hnb]
        exact ⟨H2.out.alloc _, heap_alloc_new _ _, H2.out.2.2.2.2.1, H2.out.2.2.2.2.2.1⟩
      rw [← hw3, ← hnb]
      clear hw3 hnb H2
      go_loopg [] ((l.drop (a + 1 + n.length)).length + 1) (fun gf wx => ∃ y : Nat, y ≤ l.length ∧ (l.drop y).length + 1 ≤ gf ∧ X = (atsF gf (l.drop y)).bind (fun r => restF une (elemF une k) n r) ∧ Ein W wx p q l y false (.string ⟨#[]⟩) (.string ⟨#[]⟩) (.slice none 0 0) ∧ Bn wx nb (.string ⟨n.toArray⟩) (.string ⟨#[]⟩) (.slice none 0 0))
      case atStart => exact ⟨a + 1 + n.length, hnl, Nat.le_refl _, HX2.out, H3.out.1, H3.out.2.1⟩
      case round =>
        obtain ⟨y, hy, hgf, hx, hein, hbn⟩ := hrel
        obtain ⟨g', rfl⟩ : ∃ g', gk = g' + 1 := ⟨gk - 1, by omega⟩
        have hpn : p < nb := H3.out.2.2.1
        have hqn : q < nb := H3.out.2.2.2
        have K1 := skip_ref p y l false wr hein.1 hy hl
        have HR : Hid (X = (atsF (g' + 1) (l.drop y)).bind (fun r => restF une (elemF une k) n r) ∧ Ein W wr p q l y false (.string ⟨#[]⟩) (.string ⟨#[]⟩) (.slice none 0 0) ∧ Bn wr nb (.string ⟨n.toArray⟩) (.string ⟨#[]⟩) (.slice none 0 0)) := ⟨hx, hein, hbn⟩
        clear hx hein hbn H3 HX2 hnl hne hn0
        go_wp2_with fail
        refine K1.mono ?_
        rintro e w4 ⟨y1, rfl, hy1, hy2, hd, hr, hm⟩
        have H4 : Hid (Ein W w4 p q l y1 false (.string ⟨#[]⟩) (.string ⟨#[]⟩) (.slice none 0 0) ∧ Bn w4 nb (.string ⟨n.toArray⟩) (.string ⟨#[]⟩) (.slice none 0 0) ∧ l.drop y1 = skp (l.drop y)) := ⟨HR.out.2.1.step hm hr, HR.out.2.2.keep hm (by omega), hd⟩
        have K2 := eat_ref p y1 l [47, 62] false w4 hr hy2 hl (by decide)
        clear K1 hr hm hd
        go_wp2_with fail
        refine K2.mono ?_
        rintro e w5 ⟨rfl, hr, hm⟩
        clear K2
        cases he : Lib.hasPrefix (l.drop y1) [47, 62] with
        | true =>
          rw [he] at hr
          have HZ : Hid (X = some (.nd n [] [], l.drop (y1 + 2)) ∧ y1 + 2 ≤ l.length) := by
            refine ⟨?_, ?_⟩
            · rw [HR.out.1, ats_stop (by rw [← H4.out.2.2]; exact nm_pre (by decide) he), Option.bind_some, rest_eq, ← H4.out.2.2, eatY he]
              rfl
            · rcases eatI he with h | h
              · exact h
              · cases h
          have HE : Hid (Ein W w5 p q l (y1 + 2) false (.string ⟨#[]⟩) (.string ⟨#[]⟩) (.slice none 0 0) ∧ Bn w5 nb (.string ⟨n.toArray⟩) (.string ⟨#[]⟩) (.slice none 0 0)) := ⟨H4.out.1.step hm hr, H4.out.2.1.keep hm (by omega)⟩
          clear hr hm he
          obtain ⟨-, ⟨q0, q1, q2⟩, f0, f1, f2⟩ := HE.out.1.facts
          obtain ⟨⟨n0, n1, n2⟩, -⟩ := HE.out.2.cells
          go_wp2
          have H9 := HE.out.1.answer (.string ⟨n.toArray⟩) (.string ⟨#[]⟩) (.slice none 0 0)
          refine bodyPost_ret (results_cell_row rfl _ _ q 30 #[.string ⟨n.toArray⟩, .string ⟨#[]⟩, .slice none 0 0] (0, 0) _ rfl H9.2.1 Tryz.underlying30 rfl size30) rfl (.inl ⟨.nd n [] [], y1 + 2, none, 0, HZ.out.1, HZ.out.2, rfl, Kd.nil _ _ _ _, H9.1, H9.2.2.1⟩)
        | false =>
          rw [he] at hr
          have HE1 : Hid (Ein W w5 p q l y1 false (.string ⟨#[]⟩) (.string ⟨#[]⟩) (.slice none 0 0) ∧ Bn w5 nb (.string ⟨n.toArray⟩) (.string ⟨#[]⟩) (.slice none 0 0) ∧ eat [47, 62] (l.drop y1) = none) := ⟨H4.out.1.step hm hr, H4.out.2.1.keep hm (by omega), eatN he⟩
          have K3 := eat_ref p y1 l [62] false w5 HE1.out.1.1 hy2 hl (by decide)
          clear hr hm he
          go_wp2_with fail
          refine K3.mono ?_
          rintro e w6 ⟨rfl, hr, hm⟩
          clear K3
          cases he : Lib.hasPrefix (l.drop y1) [62] with
          | true =>
            rw [he] at hr
            have hy3 : y1 + 1 ≤ l.length := by
              rcases eatI he with h | h
              · exact h
              · cases h
            have HZ : Hid (X = conN k n (l.drop (y1 + 1))) := by
              show _ = _
              rw [HR.out.1, ats_stop (by rw [← H4.out.2.2]; exact nm_pre (by decide) he), Option.bind_some, rest_eq, ← H4.out.2.2, HE1.out.2.2, eatY he]
              rfl
            have HE : Hid (Ein W w6 p q l (y1 + 1) false (.string ⟨#[]⟩) (.string ⟨#[]⟩) (.slice none 0 0) ∧ Bn w6 nb (.string ⟨n.toArray⟩) (.string ⟨#[]⟩) (.slice none 0 0)) := ⟨HE1.out.1.step hm hr, HE1.out.2.1.keep hm (by omega)⟩
            have KC := HCo.out (y1 + 1) n w6 HE.out.1.1 hy3 HNM.out HN0.out
            clear hr hm he
            obtain ⟨⟨n0, n1, n2⟩, -⟩ := HE.out.2.cells
            go_wp2_with fail
            refine KC.mono ?_
            clear KC
            rintro e w7 (⟨t, k', a', c', ho, hk', rfl, hkd, hr, hm⟩ | ⟨ho, ⟨n', t', a', m', c', rfl⟩, k', hk', hr, hm⟩)
            · have HE7 : Hid (Ein W w7 p q l k' false (.string ⟨#[]⟩) (.string ⟨#[]⟩) (.slice none 0 0)) := HE.out.1.step hm hr
              have HZ7 : Hid (X = some (t, l.drop k') ∧ k' ≤ l.length ∧ Kd (fun b => w6.heap.size ≤ b) (k + 1) w7 a' t.ks) := ⟨by rw [HZ.out, ho], hk', hkd⟩
              obtain ⟨-, ⟨q0, q1, q2⟩, f0, f1, f2⟩ := HE7.out.facts
              clear hkd hr hm ho n0 n1 n2
              unfold ndV
              go_wp2
              have H9 := HE7.out.answer (.string ⟨t.nm.toArray⟩) (.string ⟨t.tx.toArray⟩) (.slice a' t.ks.length c')
              have hmq : Md (fun b => b = q) w7 (((w7.setCell ⟨q, 0, none⟩ (.string ⟨t.nm.toArray⟩)).setCell ⟨q, 1, none⟩ (.string ⟨t.tx.toArray⟩)).setCell ⟨q, 2, none⟩ (.slice a' t.ks.length c')) := ((((Md.refl (fun b => b = q) _).set (.inl rfl) _ _).set (.inl rfl) _ _).set (.inl rfl) _ _)
              have hq6 := HE.out.1.2.2.2.2.2.1
              have hWq := HE.out.1.2.2.2.2.2.2
              refine bodyPost_ret (results_cell_row rfl _ _ q 30 #[.string ⟨t.nm.toArray⟩, .string ⟨t.tx.toArray⟩, .slice a' t.ks.length c'] (0, 0) _ rfl H9.2.1 Tryz.underlying30 rfl size30) rfl (.inl ⟨t, k', a', c', HZ7.out.1, HZ7.out.2.1, rfl, ?_, H9.1, H9.2.2.1⟩)
              exact (HZ7.out.2.2.md hmq (fun b _ hg e => by omega)).mono (fun b hb _ => by omega)
            · have HE7 : Hid (Ein W w7 p q l k' true (.string ⟨#[]⟩) (.string ⟨#[]⟩) (.slice none 0 0)) := HE.out.1.step hm hr
              have HZ7 : Hid (X = none ∧ k' ≤ l.length + 1) := ⟨by rw [HZ.out, ho], hk'⟩
              obtain ⟨-, ⟨q0, q1, q2⟩, f0, f1, f2⟩ := HE7.out.facts
              clear hr hm ho n0 n1 n2
              go_wp2
              have H9 := HE7.out.answer (.string n') (.string t') (.slice a' m' c')
              exact bodyPost_ret (results_cell_row rfl _ _ q 30 #[.string n', .string t', .slice a' m' c'] (0, 0) _ rfl H9.2.1 Tryz.underlying30 rfl size30) rfl (.inr ⟨HZ7.out.1, ⟨_, _, _, _, _, rfl⟩, k', HZ7.out.2, H9.1, H9.2.2.1⟩)
          | false =>
            rw [he] at hr
            have HE : Hid (Ein W w6 p q l y1 false (.string ⟨#[]⟩) (.string ⟨#[]⟩) (.slice none 0 0) ∧ Bn w6 nb (.string ⟨n.toArray⟩) (.string ⟨#[]⟩) (.slice none 0 0) ∧ eat [62] (l.drop y1) = none) := ⟨HE1.out.1.step hm hr, HE1.out.2.1.keep hm (by omega), eatN he⟩
            clear hr hm he
            by_cases hsp : y1 = y
            · have HZ : Hid (X = none) := by
                show _ = _
                rw [HR.out.1, ats_tight (by rw [← H4.out.2.2, hsp]; omega), Option.bind_some, rest_eq, ← H4.out.2.2, HE1.out.2.2, HE.out.2.2]
                rfl
              have HB : Hid (Ein W w6 p q l y1 false (.string ⟨#[]⟩) (.string ⟨#[]⟩) (.slice none 0 0) ∧ Bn w6 nb (.string ⟨n.toArray⟩) (.string ⟨#[]⟩) (.slice none 0 0)) := ⟨HE.out.1, HE.out.2.1⟩
              have hs0 : ((y1 - y : Nat) : Int) = 0 := by omega
              rw [hs0]
              have HY : Hid (y1 ≤ l.length + 1) := by show _ ≤ _; omega
              clear hs0 hsp hy1 hy2 hy hgf
              obtain ⟨⟨p2, pf⟩, ⟨q0, q1, q2⟩, f0, f1, f2⟩ := HB.out.1.facts
              obtain ⟨⟨n0, n1, n2⟩, -⟩ := HB.out.2.cells
              have hpq := HB.out.1.2.2.2.1
              go_wp2
              have H9 := (HB.out.1.bad true).answer (.string ⟨n.toArray⟩) (.string ⟨#[]⟩) (.slice none 0 0)
              exact bodyPost_ret (results_cell_row rfl _ _ q 30 #[.string ⟨n.toArray⟩, .string ⟨#[]⟩, .slice none 0 0] (0, 0) _ rfl H9.2.1 Tryz.underlying30 rfl size30) rfl (.inr ⟨HZ.out, ⟨_, _, _, _, _, rfl⟩, y1, HY.out, H9.1, H9.2.2.1⟩)
            · have hs0 : ((((y1 - y : Nat) : Int)) == 0) = false := by rw [beq_eq_false_iff_ne]; omega
              have hsN : ¬ y1 - y = 0 := by omega
              have K4 := attr_ref p y1 l false w6 HE.out.1.1 hy2 hl
              have HSP : Hid ((skp (l.drop y)).length < (l.drop y).length) := by
                show _ < _
                rw [← H4.out.2.2]
                simp only [List.length_drop]
                omega
              go_wp2_with fail
              refine K4.mono ?_
              clear K4
              rintro e w7 ⟨k', r, rfl, hr, hm, ⟨rfl, hk1, hk2, hn1, hat⟩ | ⟨rfl, hk2, hat⟩⟩
              · have HN : Hid (X = (atsF g' (l.drop k')).bind (fun r => restF une (elemF une k) n r)) := by
                  show _ = _
                  rw [H4.out.2.2] at hat hn1
                  rw [HR.out.1, ats_go HSP.out hn1, hat, Option.bind_some]
                have HB : Hid (Ein W w7 p q l k' false (.string ⟨#[]⟩) (.string ⟨#[]⟩) (.slice none 0 0) ∧ Bn w7 nb (.string ⟨n.toArray⟩) (.string ⟨#[]⟩) (.slice none 0 0)) := ⟨HE.out.1.step hm hr, HE.out.2.1.keep hm (by omega)⟩
                have hfl : (l.drop k').length + 1 ≤ g' := by
                  simp only [List.length_drop] at hgf ⊢
                  omega
                clear hr hm hat hn1
                go_wp2
                go_roundg g'
                case measure => omega
                case rel => exact ⟨k', hk2, hfl, HN.out, HB.out.1, HB.out.2⟩
              · have HZ : Hid (X = none) := by
                  show _ = _
                  rw [H4.out.2.2] at hat
                  by_cases hn1 : nmL (skp (l.drop y)) = []
                  · rw [HR.out.1, ats_stop hn1, Option.bind_some, rest_eq, ← H4.out.2.2, HE1.out.2.2, HE.out.2.2]
                    rfl
                  · rcases hat with hat | hat
                    · exact absurd hat hn1
                    · rw [HR.out.1, ats_go HSP.out hn1, hat]
                      rfl
                have HB : Hid (Ein W w7 p q l k' false (.string ⟨#[]⟩) (.string ⟨#[]⟩) (.slice none 0 0) ∧ Bn w7 nb (.string ⟨n.toArray⟩) (.string ⟨#[]⟩) (.slice none 0 0)) := ⟨HE.out.1.step hm hr, HE.out.2.1.keep hm (by omega)⟩
                clear hr hm hat
                obtain ⟨⟨p2, pf⟩, ⟨q0, q1, q2⟩, f0, f1, f2⟩ := HB.out.1.facts
                obtain ⟨⟨n0, n1, n2⟩, -⟩ := HB.out.2.cells
                have hpq := HB.out.1.2.2.2.1
                go_wp2
                have H9 := (HB.out.1.bad true).answer (.string ⟨n.toArray⟩) (.string ⟨#[]⟩) (.slice none 0 0)
                exact bodyPost_ret (results_cell_row rfl _ _ q 30 #[.string ⟨n.toArray⟩, .string ⟨#[]⟩, .slice none 0 0] (0, 0) _ rfl H9.2.1 Tryz.underlying30 rfl size30) rfl (.inr ⟨HZ.out, ⟨_, _, _, _, _, rfl⟩, k', hk2, H9.1, H9.2.2.1⟩)
end Go.Proofs.YtohkocknpmnakaaGreatDoor

/-
  The document's reader: content.
-/
import Derived.Test.YtohkocknpmnakaaGreatDoorRpE
import Derived.Test.YtohkocknpmnakaaGreatDoorCls
import Derived.Deep.DeepCutAuto
import Derived.Deep.CutRange
import Derived.BigQuiet
namespace Go.Proofs.YtohkocknpmnakaaGreatDoor
open Go.RowKit

theorem take_app {f : UInt8 → Bool} : ∀ {x y : List UInt8}, x.takeWhile f = x → (x ++ y).takeWhile f = x ++ y.takeWhile f
  | [], _, _ => rfl
  | c :: r, y, h => by
    by_cases hc : f c = true
    · rw [List.takeWhile_cons_of_pos hc] at h
      injection h with _ h
      rw [List.cons_append, List.takeWhile_cons_of_pos hc, take_app h]
      rfl
    · rw [List.takeWhile_cons_of_neg hc] at h
      cases h
theorem nm_app {n b : List UInt8} (hn : nmL n = n) (h0 : n ≠ []) : nmL (n ++ b) = n ++ b.takeWhile innB := by
  cases n with
  | nil => exact absurd rfl h0
  | cons c r =>
    cases h : letB c with
    | false => rw [nm_no h] at hn; cases hn
    | true =>
      rw [nm_let h] at hn
      rw [List.cons_append, nm_let h, ← List.cons_append, take_app hn]
theorem inn_ws {c : UInt8} (h : innB c = true) : wsB c = false ∧ c ≠ 62 := by
  have h' : innZ (c.toNat : Int) = true := h
  constructor
  · show wsZ (c.toNat : Int) = false
    simp only [innZ, letZ, goZ, wsZ, decide_eq_true_eq, Bool.or_eq_true, decide_eq_false_iff_not] at h' ⊢
    omega
  · rintro rfl
    revert h
    decide
theorem close_nm {n R : List UInt8} (h0 : n ≠ []) (h : nmL R = n) : eat n R = some (R.drop n.length) := by
  have hp : R.take n.length = n := by
    cases R with
    | nil => simp only [nmL] at h; exact absurd h.symm h0
    | cons c r =>
      cases hc : letB c with
      | false => rw [nm_no hc] at h; exact absurd h.symm h0
      | true =>
        rw [nm_let hc] at h
        rw [← h]
        exact (List.prefix_iff_eq_take.1 (List.takeWhile_prefix _)).symm
  unfold eat
  rw [if_pos]
  rw [hasPrefix_iff]
  exact ⟨R.drop n.length, by conv => lhs; rw [← List.take_append_drop n.length R, hp]⟩
theorem close_not {n R : List UInt8} (hn : nmL n = n) (h0 : n ≠ []) (h : nmL R ≠ n) : ((eat n R).bind fun b => eat [62] (skp b)) = none := by
  cases he : eat n R with
  | none => rfl
  | some b =>
    obtain ⟨-, rfl⟩ := eat_len he
    rw [nm_app hn h0] at h
    cases b with
    | nil => exact absurd (by simp) h
    | cons c r =>
      cases hc : innB c with
      | false => exact absurd (by rw [List.takeWhile_cons_of_neg (by rw [hc]; decide)]; simp) h
      | true =>
        rw [Option.bind_some, skp_stop (inn_ws hc).1]
        unfold eat
        rw [if_neg]
        rw [hasPrefix_iff]
        rintro ⟨x, hx⟩
        injection hx with hx _
        exact (inn_ws hc).2 hx

/-- Whether elements stand here. -/
def kB (m : List UInt8) : Bool := match m with | 60 :: c :: _ => c != 47 | _ => false
theorem upto_skp : ∀ (m : List UInt8), upto 60 m = m.take (m.length - (skp m).length) ++ upto 60 (skp m)
  | [] => rfl
  | c :: r => by
    cases h : wsB c with
    | false => rw [skp_stop h]; simp
    | true =>
      have h60 : c ≠ 60 := by rintro rfl; revert h; decide
      have hl := skp_le r
      rw [skp_cons h]
      have e : (c :: r).length - (skp r).length = (r.length - (skp r).length) + 1 := by simp only [List.length_cons]; omega
      rw [e, List.take_succ_cons, List.cons_append, ← upto_skp r]
      unfold upto
      rw [List.takeWhile_cons_of_pos (by simpa using h60)]
theorem elem_none {k : Nat} {m : List UInt8} (h : eat [60] m = none) : elemF une k m = none := by
  cases k with
  | zero => rfl
  | succ k => simp only [elemF, h]; rfl
theorem elem_lone (k : Nat) : elemF une k [60] = none := by
  cases k with
  | zero => rfl
  | succ k => simp [elemF, eat, Lib.hasPrefix, nmL]
theorem upto_rest (m : List UInt8) (h : ¬ (upto 60 m).length = m.length) : ∃ r, m.drop (upto 60 m).length = 60 :: r := by
  induction m with
  | nil => exact absurd rfl h
  | cons c r ih =>
    by_cases hc : c = 60
    · subst hc
      exact ⟨r, by simp [upto]⟩
    · have e : upto 60 (c :: r) = c :: upto 60 r := by
        unfold upto
        rw [List.takeWhile_cons_of_pos (by simpa using hc)]
      rw [e] at h ⊢
      obtain ⟨x, hx⟩ := ih (by simpa using h)
      exact ⟨x, by simpa using hx⟩
/-- Where no elements stand: what a content is. -/
theorem cont_text (k : Nat) {l : List UInt8} (hk : kB (skp l) = false) :
    (Lib.hasPrefix (l.drop (upto 60 l).length) [60, 47] = true → contF une (elemF une k) l = (une (upto 60 l)).map fun x => (x, [], l.drop (upto 60 l).length)) ∧
    (Lib.hasPrefix (l.drop (upto 60 l).length) [60, 47] = false → contF une (elemF une k) l = none) := by
  unfold contF
  by_cases hu : (upto 60 l).length = l.length
  · rw [if_pos hu, hu, List.drop_length]
    exact ⟨fun h => (by cases h), fun _ => rfl⟩
  · rw [if_neg hu]
    obtain ⟨r, hr⟩ := upto_rest l hu
    have hr1 : l.drop ((upto 60 l).length + 1) = r := by
      rw [← List.drop_drop, hr]
      rfl
    rw [hr, hr1]
    constructor
    · intro h
      rw [if_pos]
      obtain ⟨x, hx⟩ := (hasPrefix_iff _ _).1 h
      rw [hasPrefix_iff]
      injection hx with _ hx
      exact ⟨x, hx⟩
    · intro h
      have h47 : ¬ Lib.hasPrefix r [47] = true := by
        intro e
        obtain ⟨x, rfl⟩ := (hasPrefix_iff _ _).1 e
        have : Lib.hasPrefix (60 :: ([47] ++ x)) [60, 47] = true := (hasPrefix_iff _ _).2 ⟨x, rfl⟩
        rw [this] at h
        cases h
      rw [if_neg h47]
      have hd : upto 60 l = l.take (l.length - (skp l).length) ++ upto 60 (skp l) := upto_skp l
      have hkid : kidsF (elemF une k) (l.length + 1) l = none := by
        simp only [kidsF]
        cases hs : skp l with
        | nil =>
          rw [hs] at hd
          simp only [List.length_nil, Nat.sub_zero, List.take_length] at hd
          have hz : upto 60 ([] : List UInt8) = [] := rfl
          rw [hz, List.append_nil] at hd
          exact absurd (by rw [hd]) hu
        | cons c t =>
          by_cases hc : c = 60
          · subst hc
            cases t with
            | nil =>
              rw [if_neg (by decide), elem_lone]
              rfl
            | cons d t =>
              rw [hs] at hk hd
              have hd47 : d = 47 := by simpa [kB] using hk
              subst hd47
              exfalso
              have hul : (upto 60 l).length = l.length - (60 :: 47 :: t).length := by
                rw [hd]
                have hz : upto 60 (60 :: 47 :: t) = [] := rfl
                rw [hz, List.append_nil, List.length_take]
                omega
              have hdr : l.drop (l.length - (skp l).length) = skp l := by
                have hsuf : skp l <:+ l := List.dropWhile_suffix _
                exact (List.suffix_iff_eq_drop.1 hsuf).symm
              rw [hul, ← hs, hdr, hs] at hr
              injection hr with _ hr
              subst hr
              exact h47 ((hasPrefix_iff _ _).2 ⟨t, rfl⟩)
          · have he : eat [60] (c :: t) = none := by
              unfold eat
              rw [if_neg]
              rw [hasPrefix_iff]
              rintro ⟨x, hx⟩
              injection hx with hx _
              exact hc hx
            rw [if_neg, elem_none he]
            · rfl
            · rw [hasPrefix_iff]
              rintro ⟨x, hx⟩
              injection hx with hx _
              exact hc hx
      rw [hkid]
      rfl
theorem skp_idem (m : List UInt8) : skp (skp m) = skp m := by
  induction m with
  | nil => rfl
  | cons c r ih =>
    cases h : wsB c with
    | true => rw [skp_cons h, ih]
    | false => rw [skp_stop h, skp_stop h]
theorem kids_skp (e : List UInt8 → Option (Nod × List UInt8)) (f : Nat) (m : List UInt8) : kidsF e f (skp m) = kidsF e f m := by
  cases f with
  | zero => rfl
  | succ f => simp only [kidsF, skp_idem]
/-- Where elements stand. -/
theorem cont_kids (k : Nat) {l : List UInt8} (hk : kB (skp l) = true) : contF une (elemF une k) l = (kidsF (elemF une k) (l.length + 1) l).map fun p => ([], p.1, p.2) := by
  obtain ⟨c, t, hs, hc⟩ : ∃ c t, skp l = 60 :: c :: t ∧ c ≠ 47 := by
    unfold kB at hk
    split at hk
    · next c t h => exact ⟨c, t, h, by simpa using hk⟩
    · cases hk
  have hsl := skp_le l
  have hd := upto_skp l
  rw [hs] at hd hsl
  have hz : upto 60 (60 :: c :: t) = [] := rfl
  rw [hz, List.append_nil] at hd
  have hul : (upto 60 l).length = l.length - (60 :: c :: t).length := by rw [hd, List.length_take]; omega
  have hdr : l.drop (l.length - (skp l).length) = skp l := (List.suffix_iff_eq_drop.1 (List.dropWhile_suffix _)).symm
  unfold contF
  rw [if_neg (by rw [hul]; simp only [List.length_cons] at hsl ⊢; omega), if_neg]
  rw [hul, ← List.drop_drop, ← hs, hdr, hs]
  rw [hasPrefix_iff]
  rintro ⟨x, hx⟩
  injection hx with hx _
  exact hc hx
theorem info30 : (Tryz.prog.info? 30).map (fun i => (i.zero, i.size, i.bytes)) = some (some (.agg #[.string ⟨#[]⟩, .string ⟨#[]⟩, .slice none 0 0]), 3, 56) := by kernel_rfl
/-- Within content: the reader, the element's box, the box of the answer. -/
structure Cin (W w : World) (p nb q : Nat) (l : List UInt8) (a : Nat) (b : Bool) (n : List UInt8) (x v : Value) : Prop where
  rd : Rr w p l a b
  bx : Bn w nb (.string ⟨n.toArray⟩) x v
  rs : Bn w q (.string ⟨#[]⟩) (.string ⟨#[]⟩) (.slice none 0 0)
  md : Md (fun b => b = p) W w
  pl : p < W.heap.size
  nl : W.heap.size ≤ nb
  ql : nb < q
  qz : q < w.heap.size
theorem Cin.start {W : World} {p a : Nat} {l n : List UInt8} (h : Rr W p l a false) : Cin W ((W.alloc (.cells #[.string ⟨n.toArray⟩, .string ⟨#[]⟩, .slice none 0 0] 30)).alloc (.cells #[.string ⟨#[]⟩, .string ⟨#[]⟩, .slice none 0 0] 30)) p W.heap.size (W.heap.size + 1) l a false n (.string ⟨#[]⟩) (.slice none 0 0) := by
  have m1 : Md (fun _ => False) W (W.alloc (.cells #[.string ⟨n.toArray⟩, .string ⟨#[]⟩, .slice none 0 0] 30)) := (Md.refl _ _).alloc _
  have m2 : Md (fun _ => False) (W.alloc (.cells #[.string ⟨n.toArray⟩, .string ⟨#[]⟩, .slice none 0 0] 30)) ((W.alloc (.cells #[.string ⟨n.toArray⟩, .string ⟨#[]⟩, .slice none 0 0] 30)).alloc (.cells #[.string ⟨#[]⟩, .string ⟨#[]⟩, .slice none 0 0] 30)) := (Md.refl _ _).alloc _
  have e1 : (W.alloc (.cells #[.string ⟨n.toArray⟩, .string ⟨#[]⟩, .slice none 0 0] 30)).heap.size = W.heap.size + 1 := by show (W.heap.push _).size = _; simp
  have e2 : ((W.alloc (.cells #[.string ⟨n.toArray⟩, .string ⟨#[]⟩, .slice none 0 0] 30)).alloc (.cells #[.string ⟨#[]⟩, .string ⟨#[]⟩, .slice none 0 0] 30)).heap.size = W.heap.size + 2 := by show ((W.heap.push _).push _).size = _; simp
  have h2 := heap_alloc_new (W.alloc (.cells #[.string ⟨n.toArray⟩, .string ⟨#[]⟩, .slice none 0 0] 30)) (.cells #[.string ⟨#[]⟩, .string ⟨#[]⟩, .slice none 0 0] 30)
  rw [e1] at h2
  exact ⟨(h.keep m1 (fun h => h)).keep m2 (fun h => h), keep_blk (heap_alloc_new W _) m2 (fun h => h), h2, (m1.trans m2).mono (fun _ _ h => h.elim), blk_lt h, Nat.le_refl _, Nat.lt_succ_self _, by omega⟩
theorem Cin.step {W w w' : World} {p nb q : Nat} {l n : List UInt8} {a a' : Nat} {b b' : Bool} {x v : Value} (h : Cin W w p nb q l a b n x v) (hm : Md (fun b => b = p) w w') (hr : Rr w' p l a' b') : Cin W w' p nb q l a' b' n x v :=
  ⟨hr, h.bx.keep hm (by have := h.pl; have := h.nl; omega), h.rs.keep hm (by have := h.pl; have := h.nl; have := h.ql; omega), h.md.then hm (fun _ _ h => h), h.pl, h.nl, h.ql, Nat.lt_of_lt_of_le h.qz hm.size⟩
theorem Cin.bad {W w : World} {p nb q : Nat} {l n : List UInt8} {a : Nat} {b : Bool} {x v : Value} (h : Cin W w p nb q l a b n x v) (c : Bool) : Cin W (w.setCell ⟨p, 2, none⟩ (.bool c)) p nb q l a c n x v :=
  h.step ((Md.refl (fun b => b = p) _).set (.inl rfl) _ _) (h.rd.bad c)
theorem Cin.drawn {W w : World} {p nb q : Nat} {l n : List UInt8} {a : Nat} {b : Bool} {x v : Value} (h : Cin W w p nb q l a b n x v) (m : Nat) : Cin W (w.drewN m) p nb q l a b n x v :=
  h.step (Md.ofBelow (below_drewN (Below.refl _ _) _)) (h.rd.keep (Md.ofBelow (F := fun _ => False) (below_drewN (Below.refl _ _) _)) (fun h => h))
theorem Cin.moved {W w : World} {p nb q : Nat} {l n : List UInt8} {a : Nat} {b : Bool} {x v : Value} (h : Cin W w p nb q l a b n x v) (j : Nat) : Cin W (w.setCell ⟨p, 1, none⟩ (.int .i64 (j : Int))) p nb q l j b n x v :=
  h.step ((Md.refl (fun b => b = p) _).set (.inl rfl) _ _) (h.rd.at j)
theorem Cin.text {W w : World} {p nb q : Nat} {l n : List UInt8} {a : Nat} {b : Bool} {x v : Value} (h : Cin W w p nb q l a b n x v) (x' : Value) : Cin W (w.setCell ⟨nb, 1, none⟩ x') p nb q l a b n x' v := by
  have hm : Md (fun b => b = nb) w (w.setCell ⟨nb, 1, none⟩ x') := (Md.refl (fun b => b = nb) _).set (.inl rfl) _ _
  have h1 := h.pl
  have h2 := h.nl
  have h3 := h.ql
  exact ⟨h.rd.keep hm (by omega), (set_blk h.bx 1 _).trans rfl, h.rs.keep hm (by omega), h.md.then hm (fun b hb e => by omega), h1, h2, h3, Nat.lt_of_lt_of_le h.qz hm.size⟩
theorem Cin.kids {W w : World} {p nb q : Nat} {l n : List UInt8} {a : Nat} {b : Bool} {x v : Value} (h : Cin W w p nb q l a b n x v) (v' : Value) : Cin W (w.setCell ⟨nb, 2, none⟩ v') p nb q l a b n x v' := by
  have hm : Md (fun b => b = nb) w (w.setCell ⟨nb, 2, none⟩ v') := (Md.refl (fun b => b = nb) _).set (.inl rfl) _ _
  have h1 := h.pl
  have h2 := h.nl
  have h3 := h.ql
  exact ⟨h.rd.keep hm (by omega), (set_blk h.bx 2 _).trans rfl, h.rs.keep hm (by omega), h.md.then hm (fun b hb e => by omega), h1, h2, h3, Nat.lt_of_lt_of_le h.qz hm.size⟩
theorem Cin.below {W w w' : World} {p nb q : Nat} {l n : List UInt8} {a : Nat} {b : Bool} {x v : Value} (h : Cin W w p nb q l a b n x v) (hb : Below w.heap.size w w') : Cin W w' p nb q l a b n x v :=
  h.step (Md.ofBelow hb) (h.rd.keep (Md.ofBelow (F := fun _ => False) hb) (fun h => h))
theorem Cin.grown {W w w' : World} {p nb q : Nat} {l n : List UInt8} {a : Nat} {b : Bool} {x v : Value} {row : Option Nat} (h : Cin W w p nb q l a b n x v) (hg : w.grownBy w' row) (hr : ∀ j, row = some j → q + 1 ≤ j) : Cin W w' p nb q l a b n x v := by
  have hm := Md.ofGrown hg
  have h1 := h.pl
  have h2 := h.nl
  have h3 := h.ql
  exact ⟨h.rd.keep hm (fun e => by have := hr _ e; omega), h.bx.keep hm (fun e => by have := hr _ e; omega), h.rs.keep hm (fun e => by have := hr _ e; omega), h.md.grown hg (fun j hj => by have := hr j hj; omega), h1, h2, h3, Nat.lt_of_lt_of_le h.qz hm.size⟩
theorem Cin.facts {W w : World} {p nb q : Nat} {l n : List UInt8} {a : Nat} {b : Bool} {x v : Value} (h : Cin W w p nb q l a b n x v) : ((w.cell? ⟨p, 0, none⟩ = some (.string ⟨l.toArray⟩) ∧ w.cell? ⟨p, 1, none⟩ = some (.int .i64 (a : Int)) ∧ w.cell? ⟨p, 2, none⟩ = some (.bool b)) ∧ w.frozen? ⟨p, 0, none⟩ = false ∧ w.frozen? ⟨p, 1, none⟩ = false ∧ w.frozen? ⟨p, 2, none⟩ = false) ∧ ((w.cell? ⟨nb, 0, none⟩ = some (.string ⟨n.toArray⟩) ∧ w.cell? ⟨nb, 1, none⟩ = some x ∧ w.cell? ⟨nb, 2, none⟩ = some v) ∧ w.frozen? ⟨nb, 0, none⟩ = false ∧ w.frozen? ⟨nb, 1, none⟩ = false ∧ w.frozen? ⟨nb, 2, none⟩ = false) ∧ ((w.cell? ⟨q, 0, none⟩ = some (.string ⟨#[]⟩) ∧ w.cell? ⟨q, 1, none⟩ = some (.string ⟨#[]⟩) ∧ w.cell? ⟨q, 2, none⟩ = some (.slice none 0 0)) ∧ w.frozen? ⟨q, 0, none⟩ = false ∧ w.frozen? ⟨q, 1, none⟩ = false ∧ w.frozen? ⟨q, 2, none⟩ = false) :=
  ⟨h.rd.cells, h.bx.cells, h.rs.cells⟩
/-- What the answer's box holds, and what stands. -/
theorem Cin.answer {W w : World} {p nb q : Nat} {l n : List UInt8} {a : Nat} {b : Bool} {x v : Value} (h : Cin W w p nb q l a b n x v) (x' y' z' : Value) :
    Bn (((w.setCell ⟨q, 0, none⟩ x').setCell ⟨q, 1, none⟩ y').setCell ⟨q, 2, none⟩ z') q x' y' z' ∧ Rr (((w.setCell ⟨q, 0, none⟩ x').setCell ⟨q, 1, none⟩ y').setCell ⟨q, 2, none⟩ z') p l a b ∧ Md (fun b => b = p) W (((w.setCell ⟨q, 0, none⟩ x').setCell ⟨q, 1, none⟩ y').setCell ⟨q, 2, none⟩ z') ∧ Md (fun b => b = q) w (((w.setCell ⟨q, 0, none⟩ x').setCell ⟨q, 1, none⟩ y').setCell ⟨q, 2, none⟩ z') := by
  have hm : Md (fun b => b = q) w (((w.setCell ⟨q, 0, none⟩ x').setCell ⟨q, 1, none⟩ y').setCell ⟨q, 2, none⟩ z') := ((((Md.refl (fun b => b = q) _).set (.inl rfl) _ _).set (.inl rfl) _ _).set (.inl rfl) _ _)
  have h1 := h.pl
  have h2 := h.nl
  have h3 := h.ql
  exact ⟨h.rs.set x' y' z', h.rd.keep hm (by omega), h.md.then hm (fun b hb e => by omega), hm⟩

/-- A world that differs from another at the reader alone, which stands and is bad as told. -/
structure Pc (wc : World) (p : Nat) (l : List UInt8) (y : Nat) (b : Bool) where
  val : World
  md : Md (fun b => b = p) wc val
  rd : Rr val p l y b
theorem wp_region_pc {P : Program} {id : Nat} {Q : Exit → Act → World → Prop} {a : Act} {w : World} {ls : List Oper} (wc : World) (p : Nat) (l : List UInt8) (y : Nat) (b : Bool) (hm : P.follows .mixedOrders = true) (hB : Region.lexB .any ls.toArray = true)
    (hb : Md (fun b => b = p) wc w) (hr : Rr w p l y b) (h : wpQuiet P ls.toArray (fun w' => ∃ n : Pc wc p l y b, w' = n.val) (fun a' => ∀ w', (∃ n : Pc wc p l y b, w' = n.val) → Q .normal a' w') ls a) : (Code.region id ls.toArray true).wp P Q a w :=
  wp_region_quiet (C := fun w' => ∃ n : Pc wc p l y b, w' = n.val) hm hB ⟨⟨_, hb.below ((Below.refl _ _).drew), hr.keep (Md.ofBelow (F := fun _ => False) ((Below.refl _ _).drew)) (fun h => h)⟩, rfl⟩ (by simpa using h)

/-- Ahead of an element's end: what of its content was read. -/
def Cut (k : Nat) (W : World) (p nb q a : Nat) (l n : List UInt8) (wc : World) : Prop :=
  (∃ y x ks a' c', contF une (elemF une k) (l.drop a) = some (x, ks, l.drop y) ∧ y ≤ l.length ∧ Cin W wc p nb q l y false n (.string ⟨x.toArray⟩) (.slice a' ks.length c') ∧ Kd (fun b => q < b) (k + 1) wc a' ks) ∨
  (∃ (y : Nat) (b : Bool) (x : ByteArray) (a' : Option Addr) (m' c' : Nat), contF une (elemF une k) (l.drop a) = none ∧ Cin W wc p nb q l y b n (.string x) (.slice a' m' c') ∧ ((b = true ∧ y ≤ l.length + 1) ∨ (b = false ∧ y ≤ l.length ∧ Lib.hasPrefix (l.drop y) [60, 47] = false)))

set_option maxRecDepth 20000 in
set_option maxHeartbeats 3200000 in
theorem coq_of (k : Nat) (hk : k ≤ 15) (HE : ElQ k) : CoQ k := by
  intro p a l n W h ha hl hnn hn0
  obtain ⟨w0, hw0⟩ : ∃ w0, w0 = (W.alloc (.cells #[.string ⟨n.toArray⟩, .string ⟨#[]⟩, .slice none 0 0] 30)).alloc (.cells #[.string ⟨#[]⟩, .string ⟨#[]⟩, .slice none 0 0] 30) := ⟨_, rfl⟩
  obtain ⟨q, hq⟩ : ∃ q, q = W.heap.size + 1 := ⟨_, rfl⟩
  obtain ⟨nb, hnb⟩ : ∃ nb, nb = W.heap.size := ⟨_, rfl⟩
  have H0 : Hid (Cin W w0 p nb q l a false n (.string ⟨#[]⟩) (.slice none 0 0)) := by
    rw [hw0, hq, hnb]
    exact Cin.start h
  have c1 := h.cells.1.2.1
  have hpl := H0.out.pl
  have K1 := skip_ref p a l false w0 H0.out.rd ha hl
  obtain ⟨D, hD⟩ : ∃ D : Int, D = ((16 - k : Nat) : Int) := ⟨_, rfl⟩
  have HD : Hid (D = ((16 - k : Nat) : Int)) := hD
  rw [← hD]
  clear h hD
  go_enter Tryz.func66, Tryz.ntmps66
  go_wp2_with fail
  rw [← hw0, ← hq, ← hnb]
  clear hw0 hq hnb c1 hpl
  refine K1.mono ?_
  rintro e w1 ⟨a1, rfl, ha1, ha2, hd, hr, hm⟩
  have H1 : Hid (Cin W w1 p nb q l a1 false n (.string ⟨#[]⟩) (.slice none 0 0) ∧ l.drop a1 = skp (l.drop a)) := ⟨H0.out.step hm hr, hd⟩
  clear K1 hr hm hd H0
  go_upto_region 3 with fail
  go_cut [51] (fun s wc => s = .bool (kB (l.drop a1)) ∧ Cin W wc p nb q l a1 false n (.string ⟨#[]⟩) (.slice none 0 0))
  case first =>
    obtain ⟨s, hs⟩ : ∃ s : ByteArray, s = ⟨l.toArray⟩ := ⟨_, rfl⟩
    have HS : Hid (s = ⟨l.toArray⟩ ∧ s.size = l.length) := ⟨hs, by rw [hs, mk_size]⟩
    have hsz : l.length = s.size := HS.out.2.symm
    obtain ⟨⟨⟨c0, c1, -⟩, -⟩, -⟩ := H1.out.1.facts
    rw [← hs] at c0
    have hss : s.size ≤ 65536 := by omega
    have ha6 : a1 ≤ 65536 := by omega
    clear hs
    by_cases hlt : a1 + 1 < s.size
    · have hlt0 : a1 < s.size := by omega
      have hai : ((a1 : Int) + 1) < (s.size : Int) := by omega
      have hgd : decide (((a1 : Int) + 1) < (s.size : Int)) = true := decide_eq_true hai
      have hgN : decide (a1 + 1 < s.size) = true := decide_eq_true hlt
      have hi0 : (0 : Int) ≤ (a1 : Int) + 1 := by omega
      have hi1 : ((a1 : Int) + 1).toNat = a1 + 1 := by omega
      have hiw : IntKind.i64.wrap ((a1 : Int) + 1) = (a1 : Int) + 1 := by rw [IntKind.wrap_i64]; omega
      have h0 := at_ba s l HS.out.1 a1 hlt0 (by omega)
      have h1 := at_ba s l HS.out.1 (a1 + 1) hlt (by omega)
      have hd : l.drop a1 = l[a1] :: l[a1 + 1] :: l.drop (a1 + 2) := by
        rw [List.drop_eq_getElem_cons (by omega), List.drop_eq_getElem_cons (by omega)]
      by_cases h60 : l[a1] = 60
      · have b60 : ((s[a1].toNat : Int) == 60) = true := by rw [h0, h60]; rfl
        by_cases h47 : l[a1 + 1] = 47
        · have b47 : ((s[a1 + 1].toNat : Int) != 47) = false := by rw [h1, h47]; rfl
          have HB : Hid (kB (l.drop a1) = false) := by show _ = _; rw [hd, h60, h47]; rfl
          clear h0 h1 hd h60 h47
          go_quiet (fail)
          go_wp2_with fail
          go_meet
          case rel => exact ⟨by rw [HB.out], H1.out.1.step (Md.ofBelow (below_drewN (Below.refl _ _) _)) (H1.out.1.rd.keep (Md.ofBelow (F := fun _ => False) (below_drewN (Below.refl _ _) _)) (fun h => h))⟩
        · have b47 : ((s[a1 + 1].toNat : Int) != 47) = true := by
            rw [h1, bne_iff_ne]
            intro e
            exact h47 (UInt8.toNat_inj.1 (show l[a1 + 1].toNat = 47 by omega))
          have HB : Hid (kB (l.drop a1) = true) := by show _ = _; rw [hd, h60]; show (l[a1 + 1] != 47) = true; rw [bne_iff_ne]; exact h47
          clear h0 h1 hd h60 h47
          go_quiet (fail)
          go_wp2_with fail
          go_meet
          case rel => exact ⟨by rw [HB.out], H1.out.1.step (Md.ofBelow (below_drewN (Below.refl _ _) _)) (H1.out.1.rd.keep (Md.ofBelow (F := fun _ => False) (below_drewN (Below.refl _ _) _)) (fun h => h))⟩
      · have b60 : ((s[a1].toNat : Int) == 60) = false := by
          rw [h0, beq_eq_false_iff_ne]
          intro e
          exact h60 (UInt8.toNat_inj.1 (show l[a1].toNat = 60 by omega))
        have HB : Hid (kB (l.drop a1) = false) := by
          show _ = _
          rw [hd]
          unfold kB
          split
          · next h => injection h with h _; exact absurd h h60
          · rfl
        clear h0 h1 hd h60
        go_quiet (fail)
        go_wp2_with fail
        go_meet
        case rel => exact ⟨by rw [HB.out], H1.out.1.step (Md.ofBelow (below_drewN (Below.refl _ _) _)) (H1.out.1.rd.keep (Md.ofBelow (F := fun _ => False) (below_drewN (Below.refl _ _) _)) (fun h => h))⟩
    · have hai : ¬ ((a1 : Int) + 1) < (s.size : Int) := by omega
      have hgd : decide (((a1 : Int) + 1) < (s.size : Int)) = false := decide_eq_false hai
      have hgN : decide (a1 + 1 < s.size) = false := decide_eq_false hlt
      have HB : Hid (kB (l.drop a1) = false) := by
        show _ = _
        have hln : (l.drop a1).length ≤ 1 := by rw [List.length_drop]; omega
        unfold kB
        split
        · next h => rw [h] at hln; simp at hln
        · rfl
      go_quiet (fail)
      go_wp2_with fail
      go_meet
      case rel => exact ⟨by rw [HB.out], H1.out.1.step (Md.ofBelow (below_drewN (Below.refl _ _) _)) (H1.out.1.rd.keep (Md.ofBelow (F := fun _ => False) (below_drewN (Below.refl _ _) _)) (fun h => h))⟩
  case rest =>
    obtain ⟨rfl, hcin⟩ := hcut
    have H2 : Hid (Cin W wc p nb q l a1 false n (.string ⟨#[]⟩) (.slice none 0 0)) := hcin
    have HP1 : Hid (l.drop a1 = skp (l.drop a)) := H1.out.2
    clear hcin H1
    go_upto_if 51 with fail
    go_cut [8, 9] from 51 to 148 (fun t8 t9 wd => Cut k W p nb q a l n wd)
    case first =>
      cases hkb : kB (l.drop a1) with
      | false =>
        have HT := (show Hid (_ ∧ _) from cont_text k (l := l.drop a) (by rw [← HP1.out]; exact hkb))
        have HU : Hid (upto 60 (l.drop a) = (l.drop a).take (a1 - a) ++ upto 60 (l.drop a1)) := by
          show _ = _
          have h := upto_skp (l.drop a)
          rw [← HP1.out] at h
          rw [h]
          congr 2
          simp only [List.length_drop]
          omega
        clear hkb
        obtain ⟨s, hs⟩ : ∃ s : ByteArray, s = ⟨l.toArray⟩ := ⟨_, rfl⟩
        have HS : Hid (s = ⟨l.toArray⟩ ∧ s.size = l.length) := ⟨hs, by rw [hs, mk_size]⟩
        have hsz : l.length = s.size := HS.out.2.symm
        have hss : s.size ≤ 65536 := by omega
        clear hs
        go_wp2_with fail
        go_loopg [] (l.length - a1) (fun gf wx => ∃ y : Nat, a1 ≤ y ∧ y ≤ l.length ∧ l.length ≤ y + gf ∧ upto 60 (l.drop a) = (l.drop a).take (y - a) ++ upto 60 (l.drop y) ∧ Cin W wx p nb q l y false n (.string ⟨#[]⟩) (.slice none 0 0))
        case atStart => exact ⟨a1, Nat.le_refl _, ha2, by omega, HU.out, H2.out⟩
        case round =>
          obtain ⟨y, hy1, hy2, hgf, hup, hcin⟩ := hrel
          obtain ⟨⟨⟨c0, c1, -⟩, -, f1, -⟩, -⟩ := hcin.facts
          rw [← HS.out.1] at c0
          have HR : Hid (upto 60 (l.drop a) = (l.drop a).take (y - a) ++ upto 60 (l.drop y) ∧ Cin W wr p nb q l y false n (.string ⟨#[]⟩) (.slice none 0 0)) := ⟨hup, hcin⟩
          have hy6 : y ≤ 65536 := by omega
          clear hup hcin
          by_cases hgo : ∃ hlt : y < l.length, l[y] ≠ 60
          · obtain ⟨hlt, h60⟩ := hgo
            have hlts : y < s.size := by omega
            have hai : (y : Int) < (s.size : Int) := by omega
            have hgd : decide ((y : Int) < (s.size : Int)) = true := decide_eq_true hai
            have hgN : decide (y < s.size) = true := decide_eq_true hlts
            have h0 := at_ba s l HS.out.1 y hlts hlt
            have b60 : ((s[y].toNat : Int) != 60) = true := by
              rw [h0, bne_iff_ne]
              intro e
              exact h60 (UInt8.toNat_inj.1 (show l[y].toNat = 60 by omega))
            have HN : Hid (upto 60 (l.drop a) = (l.drop a).take (y + 1 - a) ++ upto 60 (l.drop (y + 1))) := by
              show _ = _
              have e1 : y + 1 - a = (y - a) + 1 := by omega
              rw [HR.out.1, e1, List.take_succ_eq_append_getElem (by rw [List.length_drop]; omega), upto_step hlt h60, List.append_assoc]
              congr 1
              simp only [List.getElem_drop, List.cons_append, List.nil_append]
              congr 2
              omega
            obtain ⟨g', rfl⟩ : ∃ g', gk = g' + 1 := ⟨gk - 1, by omega⟩
            clear h0 h60
            go_wp2
            go_quiet (fail)
            go_wp2
            go_roundg g'
            case measure => omega
            case rel =>
              refine ⟨y + 1, by omega, by omega, by omega, HN.out, ?_⟩
              exact (HR.out.2.drawn _).moved (y + 1)
          · have HE : Hid (upto 60 (l.drop a) = (l.drop a).take (y - a)) := by
              show _ = _
              rw [HR.out.1]
              by_cases hlt : y < l.length
              · have h60 : l[y] = 60 := by
                  rcases Classical.em (l[y] = 60) with h | h
                  · exact h
                  · exact absurd ⟨hlt, h⟩ hgo
                rw [upto_stop hlt h60, List.append_nil]
              · have h0 : l.drop y = [] := List.drop_eq_nil_of_le (by omega)
                rw [h0]
                simp [upto]
            have HQ1 : Hid (contF une (elemF une k) (l.drop a) = (if Lib.hasPrefix (l.drop y) [60, 47] then (une ((l.drop a).take (y - a))).map fun x => (x, [], l.drop y) else none)) := by
              show _ = _
              have hul : (upto 60 (l.drop a)).length = y - a := by rw [HE.out, List.length_take, List.length_drop]; omega
              have hdr : (l.drop a).drop (y - a) = l.drop y := by rw [List.drop_drop]; congr 1; omega
              have h := HT.out
              rw [hul, hdr, HE.out] at h
              cases hp : Lib.hasPrefix (l.drop y) [60, 47] with
              | true => rw [h.1 hp]; rfl
              | false => rw [h.2 hp]; rfl
            obtain ⟨u, hu⟩ : ∃ u, u = (l.drop a).take (y - a) := ⟨_, rfl⟩
            have hex : s.extract a y = ⟨u.toArray⟩ := by rw [HS.out.1, mk_ext, hu, List.drop_take]
            have hul : u.length ≤ 65536 := by rw [hu, List.length_take, List.length_drop]; omega
            rw [← hu] at HQ1
            have KU := (show Hid (∀ W, Calls Tryz.prog 21 #[.string ⟨u.toArray⟩] W fun e w' => e = .returned (entV (une u)) ∧ Below W.heap.size W w') from fun W => unesc_ref u W (by omega))
            have hgof : (¬ ∃ hlt : y < s.size, ((s[y].toNat : Int) != 60) = true) := by
              rintro ⟨hlt, h⟩
              have h0 := at_ba s l HS.out.1 y hlt (by omega)
              refine hgo ⟨by omega, ?_⟩
              intro e
              rw [h0, e] at h
              exact absurd h (by decide)
            have hay : a ≤ y := by omega
            have hys : y ≤ s.size := by omega
            clear hgo hu HE HT HU
            by_cases hlt : y < s.size
            · have hai : (y : Int) < (s.size : Int) := by omega
              have hgd : decide ((y : Int) < (s.size : Int)) = true := decide_eq_true hai
              have hgN : decide (y < s.size) = true := decide_eq_true hlt
              have b60 : ((s[y].toNat : Int) != 60) = false := by
                cases hb : ((s[y].toNat : Int) != 60) with
                | false => rfl
                | true => exact absurd ⟨hlt, hb⟩ hgof
              clear hgof
              go_wp2
              go_quiet (fail)
              go_wp2_with fail
              generalize hw5 : World.drewN _ _ = w5
              have HC5 : Hid (Cin W w5 p nb q l y false n (.string ⟨#[]⟩) (.slice none 0 0)) := by
                rw [← hw5]
                exact HR.out.2.drawn _
              clear hw5 c0 c1 f1
              have hpz : p < w5.heap.size := Nat.lt_of_lt_of_le HC5.out.pl HC5.out.md.size
              have hc0 : ∀ m : Above w5 w5.heap.size, m.val.cell? ⟨p, 0, none⟩ = some (.string s) := fun m => (m.ok.cell (p := ⟨p, 0, none⟩) hpz).trans (by rw [HS.out.1]; exact HC5.out.facts.1.1.1)
              have hc1 : ∀ m : Above w5 w5.heap.size, m.val.cell? ⟨p, 1, none⟩ = some (.int .i64 (y : Int)) := fun m => (m.ok.cell (p := ⟨p, 1, none⟩) hpz).trans HC5.out.facts.1.1.2.1
              have hayI : (a : Int) ≤ (y : Int) := by omega
              have hysI : (y : Int) ≤ (s.size : Int) := by omega
              cases hun : une u with
              | some x =>
                have KU2 := (show Hid (∀ W, Calls Tryz.prog 21 #[.string ⟨u.toArray⟩] W fun e w' => e = .returned (.tuple #[.string ⟨x.toArray⟩, .bool true]) ∧ Below W.heap.size W w') from fun W => by
                  have h := KU.out W
                  rw [hun] at h
                  exact h)
                rw [hun] at HQ1
                clear hun KU
                refine wp_region_above w5 w5.heap.size (by kernel_rfl) (by kernel_rfl) (Below.refl _ _) ?_
                repeat (go_big_quiet_step ((go_at_call 21; with_reducible exact above_below (KU2.out _))))
                refine wpQuiet_nil ?_
                rintro w6 ⟨⟨_, hb6⟩, rfl⟩
                have HC6 : Hid (Cin W w6 p nb q l y false n (.string ⟨#[]⟩) (.slice none 0 0)) := HC5.out.below hb6
                clear hb6 hc0 hc1
                obtain ⟨⟨⟨-, -, p2⟩, -, -, pf⟩, ⟨⟨-, m1, -⟩, -, mf, -⟩, -⟩ := HC6.out.facts
                have hpn : p ≠ nb := by have := HC6.out.pl; have := HC6.out.nl; omega
                go_wp2_with fail
                go_meet
                case rel =>
                  have hC := (HC6.out.text (.string ⟨x.toArray⟩)).bad false
                  cases hp : Lib.hasPrefix (l.drop y) [60, 47] with
                  | true => exact .inl ⟨y, x, [], none, 0, by rw [HQ1.out, hp]; rfl, hy2, hC, Kd.nil _ _ _ _⟩
                  | false => exact .inr ⟨y, false, _, none, 0, 0, by rw [HQ1.out, hp]; rfl, hC, .inr ⟨rfl, hy2, hp⟩⟩
              | none =>
                have KU2 := (show Hid (∀ W, Calls Tryz.prog 21 #[.string ⟨u.toArray⟩] W fun e w' => e = .returned (.tuple #[.string ⟨#[]⟩, .bool false]) ∧ Below W.heap.size W w') from fun W => by
                  have h := KU.out W
                  rw [hun] at h
                  exact h)
                rw [hun] at HQ1
                clear hun KU
                refine wp_region_above w5 w5.heap.size (by kernel_rfl) (by kernel_rfl) (Below.refl _ _) ?_
                repeat (go_big_quiet_step ((go_at_call 21; with_reducible exact above_below (KU2.out _))))
                refine wpQuiet_nil ?_
                rintro w6 ⟨⟨_, hb6⟩, rfl⟩
                have HC6 : Hid (Cin W w6 p nb q l y false n (.string ⟨#[]⟩) (.slice none 0 0)) := HC5.out.below hb6
                clear hb6 hc0 hc1
                obtain ⟨⟨⟨-, -, p2⟩, -, -, pf⟩, ⟨⟨-, m1, -⟩, -, mf, -⟩, -⟩ := HC6.out.facts
                have hpn : p ≠ nb := by have := HC6.out.pl; have := HC6.out.nl; omega
                go_wp2_with fail
                go_meet
                case rel =>
                  have hC := (HC6.out.text (.string ⟨#[]⟩)).bad true
                  exact .inr ⟨y, true, _, none, 0, 0, by rw [HQ1.out]; split <;> rfl, hC, .inl ⟨rfl, by omega⟩⟩
            · have hai : ¬ (y : Int) < (s.size : Int) := by omega
              have hgd : decide ((y : Int) < (s.size : Int)) = false := decide_eq_false hai
              have hgN : decide (y < s.size) = false := decide_eq_false hlt
              clear hgof
              go_wp2
              go_quiet (fail)
              go_wp2_with fail
              generalize hw5 : World.drewN _ _ = w5
              have HC5 : Hid (Cin W w5 p nb q l y false n (.string ⟨#[]⟩) (.slice none 0 0)) := by
                rw [← hw5]
                exact HR.out.2.drawn _
              clear hw5 c0 c1 f1
              have hpz : p < w5.heap.size := Nat.lt_of_lt_of_le HC5.out.pl HC5.out.md.size
              have hc0 : ∀ m : Above w5 w5.heap.size, m.val.cell? ⟨p, 0, none⟩ = some (.string s) := fun m => (m.ok.cell (p := ⟨p, 0, none⟩) hpz).trans (by rw [HS.out.1]; exact HC5.out.facts.1.1.1)
              have hc1 : ∀ m : Above w5 w5.heap.size, m.val.cell? ⟨p, 1, none⟩ = some (.int .i64 (y : Int)) := fun m => (m.ok.cell (p := ⟨p, 1, none⟩) hpz).trans HC5.out.facts.1.1.2.1
              have hayI : (a : Int) ≤ (y : Int) := by omega
              have hysI : (y : Int) ≤ (s.size : Int) := by omega
              cases hun : une u with
              | some x =>
                have KU2 := (show Hid (∀ W, Calls Tryz.prog 21 #[.string ⟨u.toArray⟩] W fun e w' => e = .returned (.tuple #[.string ⟨x.toArray⟩, .bool true]) ∧ Below W.heap.size W w') from fun W => by
                  have h := KU.out W
                  rw [hun] at h
                  exact h)
                rw [hun] at HQ1
                clear hun KU
                refine wp_region_above w5 w5.heap.size (by kernel_rfl) (by kernel_rfl) (Below.refl _ _) ?_
                repeat (go_big_quiet_step ((go_at_call 21; with_reducible exact above_below (KU2.out _))))
                refine wpQuiet_nil ?_
                rintro w6 ⟨⟨_, hb6⟩, rfl⟩
                have HC6 : Hid (Cin W w6 p nb q l y false n (.string ⟨#[]⟩) (.slice none 0 0)) := HC5.out.below hb6
                clear hb6 hc0 hc1
                obtain ⟨⟨⟨-, -, p2⟩, -, -, pf⟩, ⟨⟨-, m1, -⟩, -, mf, -⟩, -⟩ := HC6.out.facts
                have hpn : p ≠ nb := by have := HC6.out.pl; have := HC6.out.nl; omega
                go_wp2_with fail
                go_meet
                case rel =>
                  have hC := (HC6.out.text (.string ⟨x.toArray⟩)).bad false
                  cases hp : Lib.hasPrefix (l.drop y) [60, 47] with
                  | true => exact .inl ⟨y, x, [], none, 0, by rw [HQ1.out, hp]; rfl, hy2, hC, Kd.nil _ _ _ _⟩
                  | false => exact .inr ⟨y, false, _, none, 0, 0, by rw [HQ1.out, hp]; rfl, hC, .inr ⟨rfl, hy2, hp⟩⟩
              | none =>
                have KU2 := (show Hid (∀ W, Calls Tryz.prog 21 #[.string ⟨u.toArray⟩] W fun e w' => e = .returned (.tuple #[.string ⟨#[]⟩, .bool false]) ∧ Below W.heap.size W w') from fun W => by
                  have h := KU.out W
                  rw [hun] at h
                  exact h)
                rw [hun] at HQ1
                clear hun KU
                refine wp_region_above w5 w5.heap.size (by kernel_rfl) (by kernel_rfl) (Below.refl _ _) ?_
                repeat (go_big_quiet_step ((go_at_call 21; with_reducible exact above_below (KU2.out _))))
                refine wpQuiet_nil ?_
                rintro w6 ⟨⟨_, hb6⟩, rfl⟩
                have HC6 : Hid (Cin W w6 p nb q l y false n (.string ⟨#[]⟩) (.slice none 0 0)) := HC5.out.below hb6
                clear hb6 hc0 hc1
                obtain ⟨⟨⟨-, -, p2⟩, -, -, pf⟩, ⟨⟨-, m1, -⟩, -, mf, -⟩, -⟩ := HC6.out.facts
                have hpn : p ≠ nb := by have := HC6.out.pl; have := HC6.out.nl; omega
                go_wp2_with fail
                go_meet
                case rel =>
                  have hC := (HC6.out.text (.string ⟨#[]⟩)).bad true
                  exact .inr ⟨y, true, _, none, 0, 0, by rw [HQ1.out]; split <;> rfl, hC, .inl ⟨rfl, by omega⟩⟩
      | true =>
        obtain ⟨O, hO⟩ : ∃ O, O = contF une (elemF une k) (l.drop a) := ⟨_, rfl⟩
        have HO : Hid (O = contF une (elemF une k) (l.drop a)) := hO
        have HO1 : Hid (O = (kidsF (elemF une k) ((l.drop a1).length + 1 + (a1 - a)) (l.drop a1)).map fun p => ([], [] ++ p.1, p.2)) := by
          show _ = _
          rw [hO, cont_kids k (by rw [← HP1.out]; exact hkb), HP1.out, kids_skp, ← HP1.out]
          have e : (l.drop a).length + 1 = (l.drop a1).length + 1 + (a1 - a) := by simp only [List.length_drop]; omega
          rw [e]
          rfl
        have HSK : Hid (skp (l.drop a1) = l.drop a1) := by show _ = _; rw [HP1.out, skp_idem]
        obtain ⟨s, hs⟩ : ∃ s : ByteArray, s = ⟨l.toArray⟩ := ⟨_, rfl⟩
        have HS : Hid (s = ⟨l.toArray⟩ ∧ s.size = l.length) := ⟨hs, by rw [hs, mk_size]⟩
        have hsz : l.length = s.size := HS.out.2.symm
        have hss : s.size ≤ 65536 := by omega
        obtain ⟨i0, hi, hz0, hz1, hz2⟩ := info_parts info30
        have hD1 : IntKind.i64.wrap (D + 1) = ((17 - k : Nat) : Int) := by rw [HD.out, IntKind.wrap_i64]; omega
        have hql : nb < q := H2.out.ql
        clear hs hO hkb
        go_wp2_with fail
        go_loopg [] ((l.drop a1).length + 1 + (a1 - a)) (fun gf wx => (∃ (y : Nat) (ks : List Nod) (v : Value), y ≤ l.length ∧ skp (l.drop y) = l.drop y ∧ (l.drop y).length + 1 ≤ gf ∧ ks.length + (l.drop y).length ≤ 65536 ∧ O = (kidsF (elemF une k) gf (l.drop y)).map (fun p => ([], ks ++ p.1, p.2)) ∧ Cin W wx p nb q l y false n (.string ⟨#[]⟩) v ∧ KR 30 (fun b => q + 1 ≤ b ∧ v.ownBlock ≠ some b) k wx (q + 1) v ks) ∨ (∃ (y : Nat) (a' : Option Addr) (m' c' : Nat), y ≤ l.length + 1 ∧ O = none ∧ 1 ≤ gf ∧ Cin W wx p nb q l y true n (.string ⟨#[]⟩) (.slice a' m' c')))
        case atStart => exact .inl ⟨a1, [], .slice none 0 0, ha2, HSK.out, by omega, by simp only [List.length_nil, List.length_drop]; omega, HO1.out, H2.out, KR.nil _ _ _ _ _⟩
        case round =>
          rcases hrel with ⟨y, ks, v, hy, hsk, hgf, hkl, hx, hcin, hkr⟩ | ⟨y, a', m', c', hy, hx, hgf, hcin⟩
          · obtain ⟨g', rfl⟩ : ∃ g', gk = g' + 1 := ⟨gk - 1, by omega⟩
            simp only [kidsF] at hx
            rw [hsk] at hx
            obtain ⟨av, cv, rfl⟩ := hkr.slice
            obtain ⟨⟨⟨c0, c1, c2⟩, -⟩, -⟩ := hcin.facts
            rw [← HS.out.1] at c0
            have hy6 : y ≤ 65536 := by omega
            have HR : Hid (Cin W wr p nb q l y false n (.string ⟨#[]⟩) (.slice av ks.length cv) ∧ KR 30 (fun b => q + 1 ≤ b ∧ (Value.slice av ks.length cv).ownBlock ≠ some b) k wr (q + 1) (.slice av ks.length cv) ks) := ⟨hcin, hkr⟩
            clear hcin hkr
            by_cases hlt : y < s.size
            · have hai : (y : Int) < (s.size : Int) := by omega
              have hgd : decide ((y : Int) < (s.size : Int)) = true := decide_eq_true hai
              have hgN : decide (y < s.size) = true := decide_eq_true hlt
              have hys : (y : Int) ≤ (s.size : Int) := by omega
              have hex : s.extract y s.size = ⟨(l.drop y).toArray⟩ := by rw [HS.out.1, mk_ext, mk_size, List.take_length]
              have KB := (show Hid (∀ W, Calls Tryz.prog 61 #[.string ⟨(l.drop y).toArray⟩, .string ⟨#[60, 47]⟩] W fun e w' => e = .returned (.bool (Lib.hasPrefix (l.drop y) [60, 47])) ∧ w' = W) from fun W => (begins_any (l.drop y) [60, 47] W (by rw [List.length_drop]; omega) (by decide)).mono fun e w' h => ⟨h.1, h.2.symm⟩)
              cases hp : Lib.hasPrefix (l.drop y) [60, 47] with
              | true =>
                rw [hp] at KB hx
                have HX : Hid (O = some ([], ks, l.drop y)) := by show _ = _; rw [hx]; simp
                clear hx hp
                go_wp2
                go_quiet ((go_at_call 61; exact Calls.quiet_of_same (KB.out _)))
                go_wp2_with fail
                go_meet
                case rel =>
                  refine .inl ⟨y, [], ks, av, cv, HO.out.symm.trans HX.out, hy, HR.out.1.drawn _, ?_⟩
                  have hk2 : KR 30 (fun b => q < b) k wr (q + 1) (.slice av ks.length cv) ks := by
                    obtain ⟨hs, hl, ho, hk2⟩ := HR.out.2
                    exact ⟨hs, hl, ho, fun j hj => (hk2 j hj).mono (fun b hb _ => hb.1)⟩
                  exact ((hk2.kd (fun b hb _ _ => hb)).2).md (Md.ofBelow (F := fun _ => False) (below_drewN (Below.refl _ _) _)) (fun _ _ _ h => h)
              | false =>
                rw [hp] at KB hx
                simp only [Bool.false_eq_true, if_false] at hx
                cases hel : elemF une k (l.drop y) with
                | some tr =>
                  obtain ⟨t, r⟩ := tr
                  have KEl : ∀ W', Rr W' p l y false → Calls Tryz.prog 33 #[.pointer (some ⟨p, 0, none⟩), .int .i64 ((17 - k : Nat) : Int)] W' fun e w' => ∃ k' a2 c2, r = l.drop k' ∧ k' ≤ l.length ∧ e = .returned (.agg #[.string ⟨t.nm.toArray⟩, .string ⟨t.tx.toArray⟩, .slice a2 t.ks.length c2]) ∧ Kd (fun b => W'.heap.size ≤ b) k w' a2 t.ks ∧ Rr w' p l k' false ∧ Md (fun b => b = p) W' w' := by
                    intro W' hr'
                    refine (HE p y l W' hr' hy hl).mono ?_
                    rintro e w' (⟨t', k', a2, c2, ho, hk', rfl, hkd, hrr, hm⟩ | ⟨ho, -⟩)
                    · rw [hel] at ho
                      injection ho with ho
                      injection ho with h1 h2
                      subst h1
                      exact ⟨k', a2, c2, h2, hk', rfl, hkd, hrr, hm⟩
                    · rw [hel] at ho
                      cases ho
                  have hlen := elem_len une k _ _ _ hel
                  rw [hel] at hx
                  have HX : Hid (O = ((kidsF (elemF une k) g' r).map fun q => (t :: q.1, q.2)).map fun p => ([], ks ++ p.1, p.2)) := hx
                  clear hx hel
                  go_wp2
                  go_quiet ((go_at_call 61; exact Calls.quiet_of_same (KB.out _)))
                  go_wp2_with fail
                  generalize hw4 : World.drewN _ _ = w4
                  have HR4 : Hid (Cin W w4 p nb q l y false n (.string ⟨#[]⟩) (.slice av ks.length cv) ∧ KR 30 (fun b => q + 1 ≤ b ∧ (Value.slice av ks.length cv).ownBlock ≠ some b) k w4 (q + 1) (.slice av ks.length cv) ks) := by
                    rw [← hw4]
                    exact ⟨HR.out.1.drawn _, HR.out.2.md (Md.ofBelow (F := fun _ => False) (below_drewN (Below.refl _ _) _)) (fun _ _ _ h => h)⟩
                  clear hw4 c0 c1 c2 HR KB hex
                  obtain ⟨hsx, hlh, hown, hks⟩ := HR4.out.2
                  have HKS := (show Hid (∀ j (hj : j < ks.length), Kd (fun b => q + 1 ≤ b ∧ (Value.slice av ks.length cv).ownBlock ≠ some b) k w4 (hsx[j]'(by omega)).1 (ks[j]).ks) from hks)
                  have HOW : Hid (w4.ownsRow (q + 1) 30 3 (.slice av ks.length cv) ks.length (ncs ks hsx) ∧ hsx.length = ks.length) := ⟨hown, hlh⟩
                  have hrow : ∀ j, (Value.slice av ks.length cv).ownBlock = some j → q + 1 ≤ j ∧ j < w4.heap.size := fun j hj => ⟨(hown.lt j hj).1, (hown.lt j hj).2⟩
                  have hpl := HR4.out.1.pl
                  have hnl := HR4.out.1.nl
                  have hqz := HR4.out.1.qz
                  obtain ⟨-, ⟨⟨-, -, nk⟩, -, -, nf⟩, -⟩ := HR4.out.1.facts
                  have hr4 := HR4.out.1.rd
                  have hr4d : Rr w4.drew p l y false := hr4.keep (Md.ofBelow (F := fun _ => False) ((Below.refl _ _).drew)) (fun h => h)
                  have hnz : nb < w4.heap.size := by omega
                  have HNK := (show Hid (∀ w', Md (fun b => b = p) w4 w' → w'.cell? ⟨nb, 2, none⟩ = some (.slice av ks.length cv) ∧ w'.frozen? ⟨nb, 2, none⟩ = false ∧ nb < w'.heap.size ∧ q + 1 ≤ w'.heap.size) from fun w' hm => by
                    have hb := HR4.out.1.bx.keep hm (by omega)
                    have := hm.size
                    exact ⟨hb.cells.1.2.2, hb.cells.2.2.2, by omega, by omega⟩)
                  have HNG := (show Hid (∀ X w5, Md (fun b => b = p) w4 X → X.grownBy w5 (Value.slice av ks.length cv).ownBlock → w5.cell? ⟨nb, 2, none⟩ = some (.slice av ks.length cv) ∧ w5.frozen? ⟨nb, 2, none⟩ = false) from fun X w5 hm hg => by
                    have hb := (HR4.out.1.bx.keep hm (by omega)).keep (Md.ofGrown hg) (fun e => by have := (hrow _ e).1; omega)
                    exact ⟨hb.cells.1.2.2, hb.cells.2.2.2⟩)
                  have hmd4 : Md (fun b => b = p) w4 w4.drew := Md.ofBelow ((Below.refl _ _).drew)
                  clear hown hks
                  go_region_law
                    (first
                      | (refine step_append_two rfl (.tmp 83) (.tmp 88) 28 rfl (q + 1) 30 i0 (.agg #[.string ⟨#[]⟩, .string ⟨#[]⟩, .slice none 0 0]) 3 56 Tryz.underlying28 hi hz0 hz1 hz2 rfl (by decide) _ _ _ rfl (own_md HOW.out.1 hmX (fun j hj e => (by have := (hrow j hj).1; omega))) ⟨w3.heap.size, 0, none⟩ 1 1 [.string ⟨t.nm.toArray⟩, .string ⟨t.tx.toArray⟩, .slice a2 t.ks.length c2] rfl rfl (cell_three_new w3 _ _ _ _) (three_one _ _ _ _ _) (by unfold maxLen; omega) (by omega) hbX ?_; intro v5 w5 hown5 hgrow5 hvb5; have g5 := HNG.out _ w5 hmX hgrow5; have k5 := g5.1; have j5 := g5.2; obtain ⟨a5, c5, rfl⟩ := own_slice hown5)
                      | (go_simp; go_at_call 33; (with_reducible refine Calls.mono (KEl _ ?_) ?_); (first | exact hr4 | exact hr4d); rintro e w3 ⟨k', a2, c2, hrk, hk', rfl, hkd, hr3, hm3'⟩; have hm3 : Md (fun b => b = p) w4 w3 := (by first | exact hm3' | exact hmd4.then hm3' (fun _ _ h => h)); have r3 := (HNK.out w3 hm3).1; have z3 := (HNK.out w3 hm3).2.2.1; have hbX : q + 1 ≤ (w3.alloc (.cells #[.string ⟨t.nm.toArray⟩, .string ⟨t.tx.toArray⟩, .slice a2 t.ks.length c2] 30)).heap.size := (by have e1 : (w3.alloc (.cells #[.string ⟨t.nm.toArray⟩, .string ⟨t.tx.toArray⟩, .slice a2 t.ks.length c2] 30)).heap.size = w3.heap.size + 1 := (by show (w3.heap.push _).size = _; simp); have := (HNK.out w3 hm3).2.2.2; omega); have hmX : Md (fun b => b = p) w4 (w3.alloc (.cells #[.string ⟨t.nm.toArray⟩, .string ⟨t.tx.toArray⟩, .slice a2 t.ks.length c2] 30)) := Md.alloc hm3 _))
                  all_goals
                    have hC3 : Cin W w3 p nb q l k' false n (.string ⟨#[]⟩) (.slice av ks.length cv) := HR4.out.1.step hm3 hr3
                    have hC5 := ((hC3.below ((Below.refl _ _).alloc (Nat.le_refl _) (.cells #[.string ⟨t.nm.toArray⟩, .string ⟨t.tx.toArray⟩, .slice a2 t.ks.length c2] 30))).grown hgrow5 (fun j hj => (hrow j hj).1)).kids (.slice a5 (ks.length + 1) c5)
                    have hK5 : KR 30 (fun b => q + 1 ≤ b ∧ (Value.slice a5 (ks.length + 1) c5).ownBlock ≠ some b) k (w5.setCell ⟨nb, 2, none⟩ (.slice a5 (ks.length + 1) c5)) (q + 1) (.slice a5 (ks.length + 1) c5) (ks ++ [t]) := by
                      obtain ⟨g, cap, hv, hg1, -⟩ := own_at hown5
                      rw [hv] at hown5 hvb5 ⊢
                      refine kr_grow (F := fun b => b = p) (F2 := fun b => b = nb) HOW.out.2 HKS.out ?_ hmX (fun b _ h1 _ e => by omega) hgrow5 hvb5 ((Md.refl _ w5).set (.inl (.inr rfl)) _ _) (fun b h1 e => by omega) (own_md hown5 ((Md.refl (fun b => b = nb) w5).set (.inl rfl) _ _) (fun j hj e => by
                        simp only [Value.ownBlock, Option.some.injEq] at hj
                        omega))
                      have hs4 : w4.drew.heap.size = w4.heap.size := rfl
                      have h1 : Kd (fun b => q + 1 ≤ b ∧ (Value.slice av ks.length cv).ownBlock ≠ some b) k w3 a2 t.ks := hkd.mono (fun b hb _ => ⟨by omega, fun e => by have := (hrow b e).2; omega⟩)
                      exact h1.md (Md.alloc (Md.refl (fun _ => False) w3) _) (fun _ _ _ h => h)
                    generalize w5.setCell ⟨nb, 2, none⟩ (.slice a5 (ks.length + 1) c5) = WF at hC5 hK5 ⊢
                    have HZ : Hid (Cin W WF p nb q l k' false n (.string ⟨#[]⟩) (.slice a5 (ks.length + 1) c5) ∧ KR 30 (fun b => q + 1 ≤ b ∧ (Value.slice a5 (ks.length + 1) c5).ownBlock ≠ some b) k WF (q + 1) (.slice a5 (ks.length + 1) c5) (ks ++ [t]) ∧ r = l.drop k') := ⟨hC5, hK5, hrk⟩
                    have K6 := skip_ref p k' l false WF hC5.rd hk' hl
                    clear hC5 hK5 hC3 hown5 hgrow5 hvb5 g5 k5 j5 hmX hbX hm3 hm3' r3 z3 hkd hr3
                    go_wp2_with fail
                    refine K6.mono ?_
                    clear K6
                    rintro e w7 ⟨y2, rfl, hy1, hy2, hd, hr, hm⟩
                    have HZ7 : Hid (Cin W w7 p nb q l y2 false n (.string ⟨#[]⟩) (.slice a5 (ks.length + 1) c5) ∧ KR 30 (fun b => q + 1 ≤ b ∧ (Value.slice a5 (ks.length + 1) c5).ownBlock ≠ some b) k w7 (q + 1) (.slice a5 (ks.length + 1) c5) (ks ++ [t]) ∧ l.drop y2 = skp (l.drop k')) := ⟨HZ.out.1.step hm hr, HZ.out.2.1.md hm (fun b _ hg e => by
                      rcases hg with hg | hg
                      · have := hg.1; omega
                      · obtain ⟨_, _, ho, _⟩ := HZ.out.2.1
                        have := (ho.lt b hg).1
                        omega), hd⟩
                    clear hr hm hd
                    go_wp2
                    go_roundg g'
                    case measure => omega
                    case rel =>
                      have hr2 := HZ.out.2.2
                      have hlk : (l.drop y2).length ≤ r.length := by
                        rw [HZ7.out.2.2, hr2]
                        exact skp_le _
                      refine .inl ⟨y2, ks ++ [t], _, hy2, by rw [HZ7.out.2.2, skp_idem], by omega, by simp only [List.length_append, List.length_cons, List.length_nil]; omega, ?_, HZ7.out.1, HZ7.out.2.1⟩
                      rw [HX.out, hr2, HZ7.out.2.2, kids_skp, Option.map_map]
                      congr 1
                      funext x
                      simp
                | none =>
                  have KEl : ∀ W', Rr W' p l y false → Calls Tryz.prog 33 #[.pointer (some ⟨p, 0, none⟩), .int .i64 ((17 - k : Nat) : Int)] W' fun e w' => ∃ (n2 t2 : ByteArray) (a2 : Option Addr) (m2 c2 k' : Nat), e = .returned (.agg #[.string n2, .string t2, .slice a2 m2 c2]) ∧ k' ≤ l.length + 1 ∧ Rr w' p l k' true ∧ Md (fun b => b = p) W' w' := by
                    intro W' hr'
                    refine (HE p y l W' hr' hy hl).mono ?_
                    rintro e w' (⟨t', k', a2, c2, ho, -⟩ | ⟨-, ⟨n2, t2, a2, m2, c2, rfl⟩, k', hk', hrr, hm⟩)
                    · rw [hel] at ho
                      cases ho
                    · exact ⟨n2, t2, a2, m2, c2, k', rfl, hk', hrr, hm⟩
                  rw [hel] at hx
                  have HX : Hid (O = none) := hx
                  clear hx hel
                  go_wp2
                  go_quiet ((go_at_call 61; exact Calls.quiet_of_same (KB.out _)))
                  go_wp2_with fail
                  generalize hw4 : World.drewN _ _ = w4
                  have HR4 : Hid (Cin W w4 p nb q l y false n (.string ⟨#[]⟩) (.slice av ks.length cv) ∧ KR 30 (fun b => q + 1 ≤ b ∧ (Value.slice av ks.length cv).ownBlock ≠ some b) k w4 (q + 1) (.slice av ks.length cv) ks) := by
                    rw [← hw4]
                    exact ⟨HR.out.1.drawn _, HR.out.2.md (Md.ofBelow (F := fun _ => False) (below_drewN (Below.refl _ _) _)) (fun _ _ _ h => h)⟩
                  clear hw4 c0 c1 c2 HR KB hex
                  obtain ⟨hsx, hlh, hown, hks⟩ := HR4.out.2
                  have HKS := (show Hid (∀ j (hj : j < ks.length), Kd (fun b => q + 1 ≤ b ∧ (Value.slice av ks.length cv).ownBlock ≠ some b) k w4 (hsx[j]'(by omega)).1 (ks[j]).ks) from hks)
                  have HOW : Hid (w4.ownsRow (q + 1) 30 3 (.slice av ks.length cv) ks.length (ncs ks hsx) ∧ hsx.length = ks.length) := ⟨hown, hlh⟩
                  have hrow : ∀ j, (Value.slice av ks.length cv).ownBlock = some j → q + 1 ≤ j ∧ j < w4.heap.size := fun j hj => ⟨(hown.lt j hj).1, (hown.lt j hj).2⟩
                  have hpl := HR4.out.1.pl
                  have hnl := HR4.out.1.nl
                  have hqz := HR4.out.1.qz
                  obtain ⟨-, ⟨⟨-, -, nk⟩, -, -, nf⟩, -⟩ := HR4.out.1.facts
                  have hr4 := HR4.out.1.rd
                  have hr4d : Rr w4.drew p l y false := hr4.keep (Md.ofBelow (F := fun _ => False) ((Below.refl _ _).drew)) (fun h => h)
                  have hnz : nb < w4.heap.size := by omega
                  have HNK := (show Hid (∀ w', Md (fun b => b = p) w4 w' → w'.cell? ⟨nb, 2, none⟩ = some (.slice av ks.length cv) ∧ w'.frozen? ⟨nb, 2, none⟩ = false ∧ nb < w'.heap.size ∧ q + 1 ≤ w'.heap.size) from fun w' hm => by
                    have hb := HR4.out.1.bx.keep hm (by omega)
                    have := hm.size
                    exact ⟨hb.cells.1.2.2, hb.cells.2.2.2, by omega, by omega⟩)
                  have HNG := (show Hid (∀ X w5, Md (fun b => b = p) w4 X → X.grownBy w5 (Value.slice av ks.length cv).ownBlock → w5.cell? ⟨nb, 2, none⟩ = some (.slice av ks.length cv) ∧ w5.frozen? ⟨nb, 2, none⟩ = false) from fun X w5 hm hg => by
                    have hb := (HR4.out.1.bx.keep hm (by omega)).keep (Md.ofGrown hg) (fun e => by have := (hrow _ e).1; omega)
                    exact ⟨hb.cells.1.2.2, hb.cells.2.2.2⟩)
                  have hmd4 : Md (fun b => b = p) w4 w4.drew := Md.ofBelow ((Below.refl _ _).drew)
                  clear hown hks
                  go_region_law
                    (first
                      | (refine step_append_two rfl (.tmp 83) (.tmp 88) 28 rfl (q + 1) 30 i0 (.agg #[.string ⟨#[]⟩, .string ⟨#[]⟩, .slice none 0 0]) 3 56 Tryz.underlying28 hi hz0 hz1 hz2 rfl (by decide) _ _ _ rfl (own_md HOW.out.1 hmX (fun j hj e => (by have := (hrow j hj).1; omega))) ⟨w3.heap.size, 0, none⟩ 1 1 [.string n2, .string t2, .slice a2 m2 c2] rfl rfl (cell_three_new w3 _ _ _ _) (three_one _ _ _ _ _) (by unfold maxLen; omega) (by omega) hbX ?_; intro v5 w5 hown5 hgrow5 hvb5; have g5 := HNG.out _ w5 hmX hgrow5; have k5 := g5.1; have j5 := g5.2; obtain ⟨a5, c5, rfl⟩ := own_slice hown5)
                      | (go_simp; go_at_call 33; (with_reducible refine Calls.mono (KEl _ ?_) ?_); (first | exact hr4 | exact hr4d); rintro e w3 ⟨n2, t2, a2, m2, c2, k', rfl, hk', hr3, hm3'⟩; have hm3 : Md (fun b => b = p) w4 w3 := (by first | exact hm3' | exact hmd4.then hm3' (fun _ _ h => h)); have r3 := (HNK.out w3 hm3).1; have z3 := (HNK.out w3 hm3).2.2.1; have hbX : q + 1 ≤ (w3.alloc (.cells #[.string n2, .string t2, .slice a2 m2 c2] 30)).heap.size := (by have e1 : (w3.alloc (.cells #[.string n2, .string t2, .slice a2 m2 c2] 30)).heap.size = w3.heap.size + 1 := (by show (w3.heap.push _).size = _; simp); have := (HNK.out w3 hm3).2.2.2; omega); have hmX : Md (fun b => b = p) w4 (w3.alloc (.cells #[.string n2, .string t2, .slice a2 m2 c2] 30)) := Md.alloc hm3 _))
                  all_goals
                    have hC3 : Cin W w3 p nb q l k' true n (.string ⟨#[]⟩) (.slice av ks.length cv) := HR4.out.1.step hm3 hr3
                    have hC5 := ((hC3.below ((Below.refl _ _).alloc (Nat.le_refl _) (.cells #[.string n2, .string t2, .slice a2 m2 c2] 30))).grown hgrow5 (fun j hj => (hrow j hj).1)).kids (.slice a5 (ks.length + 1) c5)
                    generalize w5.setCell ⟨nb, 2, none⟩ (.slice a5 (ks.length + 1) c5) = WF at hC5 ⊢
                    have HZ : Hid (Cin W WF p nb q l k' true n (.string ⟨#[]⟩) (.slice a5 (ks.length + 1) c5)) := hC5
                    have K6 : Calls Tryz.prog 32 #[.pointer (some ⟨p, 0, none⟩)] WF fun e w' => ∃ (j : Int) (y2 : Nat), e = .returned (.int .i64 j) ∧ y2 ≤ l.length + 1 ∧ Rr w' p l y2 true ∧ Md (fun b => b = p) WF w' := by
                      by_cases hkl2 : k' ≤ l.length
                      · refine (skip_ref p k' l true WF hC5.rd hkl2 hl).mono ?_
                        rintro e w' ⟨y2, rfl, -, h2, -, hr, hm⟩
                        exact ⟨_, y2, rfl, by omega, hr, hm⟩
                      · refine (skip_past p k' l true WF hC5.rd (by omega) (by omega)).mono ?_
                        rintro e w' ⟨rfl, hr, hm⟩
                        exact ⟨_, k', rfl, hk', hr, hm⟩
                    clear hC5 hC3 hown5 hgrow5 hvb5 g5 k5 j5 hmX hbX hm3 hm3' r3 z3 hr3
                    go_wp2_with fail
                    refine K6.mono ?_
                    clear K6
                    rintro e w7 ⟨j, y2, rfl, hy2, hr, hm⟩
                    have HZ7 : Hid (Cin W w7 p nb q l y2 true n (.string ⟨#[]⟩) (.slice a5 (ks.length + 1) c5)) := HZ.out.step hm hr
                    clear hr hm
                    go_wp2
                    go_roundg g'
                    case measure => omega
                    case rel => exact .inr ⟨y2, a5, ks.length + 1, c5, hy2, HX.out, by have := hgf; simp only [List.length_drop] at this; omega, HZ7.out⟩
            · have hai : ¬ (y : Int) < (s.size : Int) := by omega
              have hgd : decide ((y : Int) < (s.size : Int)) = false := decide_eq_false hai
              have hgN : decide (y < s.size) = false := decide_eq_false hlt
              have hnil : l.drop y = [] := List.drop_eq_nil_of_le (by omega)
              have HX : Hid (O = none ∧ Lib.hasPrefix (l.drop y) [60, 47] = false) := by
                refine ⟨?_, by rw [hnil]; rfl⟩
                rw [hx, hnil, elem_none (by rfl)]
                rfl
              clear hx hnil
              go_wp2
              go_quiet (fail)
              go_wp2_with fail
              go_meet
              case rel => exact .inr ⟨y, false, _, av, ks.length, cv, HO.out.symm.trans HX.out.1, HR.out.1.drawn _, .inr ⟨rfl, hy, HX.out.2⟩⟩
          · obtain ⟨⟨⟨c0, c1, c2⟩, -⟩, -⟩ := hcin.facts
            rw [← HS.out.1] at c0
            have HR : Hid (Cin W wr p nb q l y true n (.string ⟨#[]⟩) (.slice a' m' c') ∧ O = none) := ⟨hcin, hx⟩
            clear hcin hx
            go_wp2
            go_quiet (fail)
            go_wp2_with fail
            go_meet
            case rel => exact .inr ⟨y, true, _, a', m', c', HO.out.symm.trans HR.out.2, HR.out.1.drawn _, .inl ⟨rfl, hy⟩⟩
    case rest =>
      rcases hcut with ⟨y, x, ks, a', c', hco, hy, hcin, hkd⟩ | ⟨y, b, x, a', m', c', hco, hcin, hb⟩
      · have HCN : Hid (conN k n (l.drop a) = (closeL n (l.drop y)).map fun r => (.nd n x ks, r)) := by
          show _ = _
          unfold conN
          rw [hco, Option.bind_some]
        have HC : Hid (Cin W wc p nb q l y false n (.string ⟨x.toArray⟩) (.slice a' ks.length c') ∧ Kd (fun b => q < b) (k + 1) wc a' ks) := ⟨hcin, hkd⟩
        clear hco hcin hkd
        cases he : Lib.hasPrefix (l.drop y) [60, 47] with
        | false =>
          have HZ : Hid (conN k n (l.drop a) = none) := by
            show _ = _
            rw [HCN.out]
            unfold closeL
            rw [eatN he]
            rfl
          have HP : Hid (∀ n : Pc wc p l y false, Cin W n.val p nb q l y false _ _ _) := fun n => HC.out.1.step n.md n.rd
          haveI : Nonempty (Pc wc p l y false) := ⟨⟨wc, Md.refl _ _, HC.out.1.rd⟩⟩
          have hc2 : ∀ n : Pc wc p l y false, n.val.cell? ⟨p, 2, none⟩ = some (.bool false) := fun n => (HP.out n).facts.1.1.2.2
          have KE := (show Hid (∀ m : Pc wc p l y false, Calls Tryz.prog 63 #[.pointer (some ⟨p, 0, none⟩), .string ⟨#[60, 47]⟩] m.val fun e w'' => e = .returned (.bool false) ∧ ∃ m' : Pc wc p l y false, w'' = m'.val) from fun m => by
            have h := eat_ref p y l [60, 47] false m.val m.rd hy hl (by decide)
            rw [he] at h
            refine h.mono ?_
            rintro e w' ⟨rfl, hr, hm⟩
            exact ⟨rfl, ⟨w', m.md.then hm (fun _ _ h => h), hr⟩, rfl⟩)
          clear he
          go_wp2_with fail
          refine wp_region_pc wc p l y false (by kernel_rfl) (by kernel_rfl) (Md.refl _ _) HC.out.1.rd ?_
          repeat (go_big_quiet_step ((go_at_call 63; with_reducible exact KE.out _)))
          refine wpQuiet_nil ?_
          rintro w9 ⟨⟨_, hm9, hr9⟩, rfl⟩
          have H9 : Hid (Cin W w9 p nb q l y false n (.string ⟨x.toArray⟩) (.slice a' ks.length c')) := HC.out.1.step hm9 hr9
          clear hm9 hr9 hc2 KE
          obtain ⟨⟨-, -, -, pf2⟩, ⟨⟨m0, m1, m2⟩, -⟩, ⟨⟨q0, q1, q2⟩, f0, f1, f2⟩⟩ := H9.out.facts
          obtain ⟨⟨⟨-, -, pc2⟩, -⟩, -⟩ := H9.out.facts
          have hpn : p ≠ nb := by have := H9.out.pl; have := H9.out.nl; omega
          have hpq : p ≠ q := by have := H9.out.pl; have := H9.out.nl; have := H9.out.ql; omega
          go_wp2
          obtain ⟨r1, r2, r3, -⟩ := (H9.out.bad true).answer (.string ⟨n.toArray⟩) (.string ⟨x.toArray⟩) (.slice a' ks.length c')
          exact bodyPost_ret (results_cell_row rfl _ _ q 30 #[.string ⟨n.toArray⟩, .string ⟨x.toArray⟩, (.slice a' ks.length c')] (0, 0) _ rfl r1 Tryz.underlying30 rfl size30) rfl (.inr ⟨HZ.out, ⟨_, _, _, _, _, rfl⟩, y, by omega, r2, r3⟩)
        | true =>
          have hy2 : y + 2 ≤ l.length := by
            rcases eatI he with h | h
            · exact h
            · cases h
          have hcd : Cin W wc.drew p nb q l y false n (.string ⟨x.toArray⟩) (.slice a' ks.length c') := HC.out.1.step (Md.ofBelow ((Below.refl _ _).drew)) (HC.out.1.rd.keep (Md.ofBelow (F := fun _ => False) ((Below.refl _ _).drew)) (fun h => h))
          have KE : Calls Tryz.prog 63 #[.pointer (some ⟨p, 0, none⟩), .string ⟨#[60, 47]⟩] wc.drew fun e w' => e = .returned (.bool true) ∧ Rr w' p l (y + 2) false ∧ Md (fun b => b = p) wc.drew w' := by
            have h := eat_ref p y l [60, 47] false wc.drew hcd.rd hy hl (by decide)
            rw [he] at h
            exact h
          obtain ⟨⟨⟨-, -, p2⟩, -⟩, ⟨⟨n0, -, -⟩, -⟩, -⟩ := HC.out.1.facts
          have HS := (show Hid (∀ w', Md (fun b => b = p) wc.drew w' → (∃ y', Rr w' p l y' false) → w'.cell? ⟨p, 2, none⟩ = some (.bool false) ∧ w'.cell? ⟨nb, 0, none⟩ = some (.string ⟨n.toArray⟩)) from fun w' hm ⟨y', hr⟩ => by
            have h := (hcd.step hm hr).facts
            exact ⟨h.1.1.2.2, h.2.1.1.1⟩)
          have HCD : Hid (Cin W wc.drew p nb q l y false n (.string ⟨x.toArray⟩) (.slice a' ks.length c') ∧ Kd (fun b => q < b) (k + 1) wc.drew a' ks) := ⟨hcd, HC.out.2.md (Md.ofBelow (F := fun _ => False) ((Below.refl _ _).drew)) (fun _ _ _ h => h)⟩
          have HCL : Hid (closeL n (l.drop y) = (eat n (l.drop (y + 2))).bind fun b => eat [62] (skp b)) := by
            show _ = _
            unfold closeL
            rw [eatY he]
            rfl
          clear hcd he
          by_cases hnm : nmL (l.drop (y + 2)) = n
          · have KN0 := (show Hid (∀ w1, Rr w1 p l (y + 2) false → Calls Tryz.prog 64 #[.pointer (some ⟨p, 0, none⟩)] w1 fun e w' => e = .returned (.string ⟨n.toArray⟩) ∧ Rr w' p l (y + 2 + n.length) false ∧ Md (fun b => b = p) w1 w') from fun w1 h1 => by
              have h := rname_ref p (y + 2) l false w1 h1 hy2 hl
              rw [hnm] at h
              exact h)
            have hnl : y + 2 + n.length ≤ l.length := by
              have := nm_le (l.drop (y + 2))
              rw [hnm] at this
              simp only [List.length_drop] at this
              omega
            have HCL2 : Hid (closeL n (l.drop y) = eat [62] (skp (l.drop (y + 2 + n.length)))) := by
              show _ = _
              rw [HCL.out, close_nm hn0 hnm, Option.bind_some, List.drop_drop]
            clear hnm HCL
            go_wp2_with fail
            go_region_held3 (fun w' => w'.cell? ⟨p, 2, none⟩ = some (.bool false) ∧ w'.cell? ⟨nb, 0, none⟩ = some (.string ⟨n.toArray⟩)) (first | (exact HS.out _ hm2 ⟨_, hr2⟩) | (exact HS.out _ hm1 ⟨_, hr1⟩) | (go_keep))
              (first | (go_at_call 63; (with_reducible refine Calls.mono KE ?_); rintro e w1 ⟨rfl, hr1, hm1⟩; have KN := KN0.out w1 hr1) | (go_at_call 64; (with_reducible refine Calls.mono KN ?_); rintro e w2 ⟨rfl, hr2, hm2'⟩; have hm2 := Md.then hm1 hm2' (fun _ _ h => h)))
            have H9 : Hid (Cin W w2 p nb q l (y + 2 + n.length) false n (.string ⟨x.toArray⟩) (.slice a' ks.length c') ∧ Kd (fun b => q < b) (k + 1) w2 a' ks) := ⟨HCD.out.1.step hm2 hr2, HCD.out.2.md hm2 (fun b _ hg e => by have := HC.out.1.pl; have := HC.out.1.nl; have := HC.out.1.ql; omega)⟩
            obtain ⟨z, hz⟩ : ∃ z, z = y + 2 + n.length := ⟨_, rfl⟩
            rw [← hz] at H9 HCL2 hnl
            have K5 := skip_ref p z l false w2 H9.out.1.rd hnl hl
            clear hz hm2 hm2' hr2 hm1 hr1 KN KE HS p2 n0
            go_wp2_with fail
            refine K5.mono ?_
            rintro e w3 ⟨z1, rfl, hz1, hz2, hd, hr, hm⟩
            have H10 : Hid (Cin W w3 p nb q l z1 false n (.string ⟨x.toArray⟩) (.slice a' ks.length c') ∧ Kd (fun b => q < b) (k + 1) w3 a' ks ∧ closeL n (l.drop y) = eat [62] (l.drop z1)) := ⟨H9.out.1.step hm hr, H9.out.2.md hm (fun b _ hg e => by have := HC.out.1.pl; have := HC.out.1.nl; have := HC.out.1.ql; omega), by rw [HCL2.out, hd]⟩
            have K6 := eat_ref p z1 l [62] false w3 hr hz2 hl (by decide)
            clear hr hm hd K5
            go_wp2_with fail
            refine K6.mono ?_
            rintro e w4 ⟨rfl, hr, hm⟩
            clear K6
            cases he : Lib.hasPrefix (l.drop z1) [62] with
            | true =>
              rw [he] at hr
              have hz3 : z1 + 1 ≤ l.length := by
                rcases eatI he with h | h
                · exact h
                · cases h
              have HZ : Hid (conN k n (l.drop a) = some (.nd n x ks, l.drop (z1 + 1))) := by
                show _ = _
                rw [HCN.out, H10.out.2.2, eatY he]
                rfl
              have H11 : Hid (Cin W w4 p nb q l (z1 + 1) false n (.string ⟨x.toArray⟩) (.slice a' ks.length c') ∧ Kd (fun b => q < b) (k + 1) w4 a' ks) := ⟨H10.out.1.step hm hr, H10.out.2.1.md hm (fun b _ hg e => by have := HC.out.1.pl; have := HC.out.1.nl; have := HC.out.1.ql; omega)⟩
              clear hr hm he
              obtain ⟨⟨-, -, -, pf2⟩, ⟨⟨m0, m1, m2⟩, -⟩, ⟨⟨q0, q1, q2⟩, f0, f1, f2⟩⟩ := H11.out.1.facts
              obtain ⟨⟨⟨-, -, pc2⟩, -⟩, -⟩ := H11.out.1.facts
              have hpn : p ≠ nb := by have := H11.out.1.pl; have := H11.out.1.nl; omega
              have hpq : p ≠ q := by have := H11.out.1.pl; have := H11.out.1.nl; have := H11.out.1.ql; omega
              go_wp2
              obtain ⟨r1, r2, r3, r4⟩ := (H11.out.1.bad false).answer (.string ⟨n.toArray⟩) (.string ⟨x.toArray⟩) (.slice a' ks.length c')
              refine bodyPost_ret (results_cell_row rfl _ _ q 30 #[.string ⟨n.toArray⟩, .string ⟨x.toArray⟩, .slice a' ks.length c'] (0, 0) _ rfl r1 Tryz.underlying30 rfl size30) rfl (.inl ⟨.nd n x ks, z1 + 1, a', c', HZ.out, hz3, rfl, ?_, r2, r3⟩)
              have hk1 := H11.out.2.md ((Md.refl (fun b => b = p) w4).set (.inl rfl) 2 (.bool false)) (fun b _ hg e => by have := HC.out.1.pl; have := HC.out.1.nl; have := HC.out.1.ql; omega)
              exact (hk1.md r4 (fun b _ hg e => by omega)).mono (fun b hb _ => by have := HC.out.1.nl; have := HC.out.1.ql; omega)
            | false =>
              rw [he] at hr
              have HZ : Hid (conN k n (l.drop a) = none) := by
                show _ = _
                rw [HCN.out, H10.out.2.2, eatN he]
                rfl
              have H9 : Hid (Cin W w4 p nb q l z1 false n (.string ⟨x.toArray⟩) (.slice a' ks.length c')) := H10.out.1.step hm hr
              clear hr hm he
              obtain ⟨⟨-, -, -, pf2⟩, ⟨⟨m0, m1, m2⟩, -⟩, ⟨⟨q0, q1, q2⟩, f0, f1, f2⟩⟩ := H9.out.facts
              obtain ⟨⟨⟨-, -, pc2⟩, -⟩, -⟩ := H9.out.facts
              have hpn : p ≠ nb := by have := H9.out.pl; have := H9.out.nl; omega
              have hpq : p ≠ q := by have := H9.out.pl; have := H9.out.nl; have := H9.out.ql; omega
              go_wp2
              obtain ⟨r1, r2, r3, -⟩ := (H9.out.bad true).answer (.string ⟨n.toArray⟩) (.string ⟨x.toArray⟩) (.slice a' ks.length c')
              exact bodyPost_ret (results_cell_row rfl _ _ q 30 #[.string ⟨n.toArray⟩, .string ⟨x.toArray⟩, (.slice a' ks.length c')] (0, 0) _ rfl r1 Tryz.underlying30 rfl size30) rfl (.inr ⟨HZ.out, ⟨_, _, _, _, _, rfl⟩, z1, by omega, r2, r3⟩)
          · have hml := nm_le (l.drop (y + 2))
            simp only [List.length_drop] at hml
            have HZ : Hid (conN k n (l.drop a) = none) := by
              show _ = _
              rw [HCN.out, HCL.out, close_not hnn hn0 hnm]
              rfl
            obtain ⟨sm, hsm⟩ : ∃ sm : ByteArray, sm = ⟨(nmL (l.drop (y + 2))).toArray⟩ := ⟨_, rfl⟩
            obtain ⟨z, hz⟩ : ∃ z, z = y + 2 + (nmL (l.drop (y + 2))).length := ⟨_, rfl⟩
            have KN0 := (show Hid (∀ w1, Rr w1 p l (y + 2) false → Calls Tryz.prog 64 #[.pointer (some ⟨p, 0, none⟩)] w1 fun e w' => e = .returned (.string sm) ∧ Rr w' p l z false ∧ Md (fun b => b = p) w1 w') from fun w1 h1 => by
              have h := rname_ref p (y + 2) l false w1 h1 hy2 hl
              rw [← hsm, ← hz] at h
              exact h)
            have hsn : (sm.toList == n) = false := by
              rw [hsm, ByteArray.toList_eq, beq_eq_false_iff_ne]
              simpa using hnm
            have HzL : Hid (z ≤ l.length + 1) := by show _ ≤ _; omega
            clear hnm hsm hz hml HCL
            go_wp2_with fail
            go_region_held3 (fun w' => w'.cell? ⟨p, 2, none⟩ = some (.bool false) ∧ w'.cell? ⟨nb, 0, none⟩ = some (.string ⟨n.toArray⟩)) (first | (exact HS.out _ hm2 ⟨_, hr2⟩) | (exact HS.out _ hm1 ⟨_, hr1⟩) | (go_keep))
              (first | (go_at_call 63; (with_reducible refine Calls.mono KE ?_); rintro e w1 ⟨rfl, hr1, hm1⟩; have KN := KN0.out w1 hr1) | (go_at_call 64; (with_reducible refine Calls.mono KN ?_); rintro e w2 ⟨rfl, hr2, hm2'⟩; have hm2 := Md.then hm1 hm2' (fun _ _ h => h)))
            have H9 : Hid (Cin W w2 p nb q l z false n (.string ⟨x.toArray⟩) (.slice a' ks.length c')) := HCD.out.1.step hm2 hr2
            clear hm2 hm2' hr2 hm1 hr1 KN KE HS p2 n0
            obtain ⟨⟨-, -, -, pf2⟩, ⟨⟨m0, m1, m2⟩, -⟩, ⟨⟨q0, q1, q2⟩, f0, f1, f2⟩⟩ := H9.out.facts
            obtain ⟨⟨⟨-, -, pc2⟩, -⟩, -⟩ := H9.out.facts
            have hpn : p ≠ nb := by have := H9.out.pl; have := H9.out.nl; omega
            have hpq : p ≠ q := by have := H9.out.pl; have := H9.out.nl; have := H9.out.ql; omega
            go_wp2
            obtain ⟨r1, r2, r3, -⟩ := (H9.out.bad true).answer (.string ⟨n.toArray⟩) (.string ⟨x.toArray⟩) (.slice a' ks.length c')
            exact bodyPost_ret (results_cell_row rfl _ _ q 30 #[.string ⟨n.toArray⟩, .string ⟨x.toArray⟩, (.slice a' ks.length c')] (0, 0) _ rfl r1 Tryz.underlying30 rfl size30) rfl (.inr ⟨HZ.out, ⟨_, _, _, _, _, rfl⟩, z, HzL.out, r2, r3⟩)
      · have HZ : Hid (conN k n (l.drop a) = none) := by
          show _ = _
          unfold conN
          rw [hco]
          rfl
        have HC : Hid (Cin W wc p nb q l y b n (.string x) (.slice a' m' c')) := hcin
        clear hco hcin
        haveI : Nonempty (Pc wc p l y b) := ⟨⟨wc, Md.refl _ _, HC.out.rd⟩⟩
        rcases hb with ⟨rfl, hyb⟩ | ⟨rfl, hyb, he⟩
        · have hc2 : ∀ m : Pc wc p l y true, m.val.cell? ⟨p, 2, none⟩ = some (.bool true) := fun m => (HC.out.step m.md m.rd).facts.1.1.2.2
          go_wp2_with fail
          refine wp_region_pc wc p l y true (by kernel_rfl) (by kernel_rfl) (Md.refl _ _) HC.out.rd ?_
          repeat (go_big_quiet_step (fail))
          refine wpQuiet_nil ?_
          rintro w9 ⟨⟨_, hm9, hr9⟩, rfl⟩
          have H9 : Hid (Cin W w9 p nb q l y true n (.string x) (.slice a' m' c')) := HC.out.step hm9 hr9
          clear hm9 hr9 hc2
          obtain ⟨⟨-, -, -, pf2⟩, ⟨⟨m0, m1, m2⟩, -⟩, ⟨⟨q0, q1, q2⟩, f0, f1, f2⟩⟩ := H9.out.facts
          obtain ⟨⟨⟨-, -, pc2⟩, -⟩, -⟩ := H9.out.facts
          have hpn : p ≠ nb := by have := H9.out.pl; have := H9.out.nl; omega
          have hpq : p ≠ q := by have := H9.out.pl; have := H9.out.nl; have := H9.out.ql; omega
          go_wp2
          obtain ⟨r1, r2, r3, -⟩ := (H9.out.bad true).answer (.string ⟨n.toArray⟩) (.string x) (.slice a' m' c')
          exact bodyPost_ret (results_cell_row rfl _ _ q 30 #[.string ⟨n.toArray⟩, .string x, (.slice a' m' c')] (0, 0) _ rfl r1 Tryz.underlying30 rfl size30) rfl (.inr ⟨HZ.out, ⟨_, _, _, _, _, rfl⟩, y, hyb, r2, r3⟩)
        · have hc2 : ∀ m : Pc wc p l y false, m.val.cell? ⟨p, 2, none⟩ = some (.bool false) := fun m => (HC.out.step m.md m.rd).facts.1.1.2.2
          have KE := (show Hid (∀ m : Pc wc p l y false, Calls Tryz.prog 63 #[.pointer (some ⟨p, 0, none⟩), .string ⟨#[60, 47]⟩] m.val fun e w'' => e = .returned (.bool false) ∧ ∃ m' : Pc wc p l y false, w'' = m'.val) from fun m => by
            have h := eat_ref p y l [60, 47] false m.val m.rd hyb hl (by decide)
            rw [he] at h
            refine h.mono ?_
            rintro e w' ⟨rfl, hr, hm⟩
            exact ⟨rfl, ⟨w', m.md.then hm (fun _ _ h => h), hr⟩, rfl⟩)
          clear he
          go_wp2_with fail
          refine wp_region_pc wc p l y false (by kernel_rfl) (by kernel_rfl) (Md.refl _ _) HC.out.rd ?_
          repeat (go_big_quiet_step ((go_at_call 63; with_reducible exact KE.out _)))
          refine wpQuiet_nil ?_
          rintro w9 ⟨⟨_, hm9, hr9⟩, rfl⟩
          have H9 : Hid (Cin W w9 p nb q l y false n (.string x) (.slice a' m' c')) := HC.out.step hm9 hr9
          clear hm9 hr9 hc2 KE
          obtain ⟨⟨-, -, -, pf2⟩, ⟨⟨m0, m1, m2⟩, -⟩, ⟨⟨q0, q1, q2⟩, f0, f1, f2⟩⟩ := H9.out.facts
          obtain ⟨⟨⟨-, -, pc2⟩, -⟩, -⟩ := H9.out.facts
          have hpn : p ≠ nb := by have := H9.out.pl; have := H9.out.nl; omega
          have hpq : p ≠ q := by have := H9.out.pl; have := H9.out.nl; have := H9.out.ql; omega
          go_wp2
          obtain ⟨r1, r2, r3, -⟩ := (H9.out.bad true).answer (.string ⟨n.toArray⟩) (.string x) (.slice a' m' c')
          exact bodyPost_ret (results_cell_row rfl _ _ q 30 #[.string ⟨n.toArray⟩, .string x, (.slice a' m' c')] (0, 0) _ rfl r1 Tryz.underlying30 rfl size30) rfl (.inr ⟨HZ.out, ⟨_, _, _, _, _, rfl⟩, y, by omega, r2, r3⟩)
end Go.Proofs.YtohkocknpmnakaaGreatDoor

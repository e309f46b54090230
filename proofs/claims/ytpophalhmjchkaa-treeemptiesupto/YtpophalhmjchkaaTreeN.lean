/-
  A change of a tree told plainly: it is right.
-/
import Derived.Test.YtpophalhmjchkaaTreeM
namespace Go.Proofs.Ytpophalhmjchkaa

theorem getD_of {α : Type} [Inhabited α] {l : List α} {i : Nat} (h : i < l.length) : l.getD i default = l[i] := by rw [List.getD_eq_getElem?_getD, List.getElem?_eq_getElem h]; rfl
theorem drop_take2 {α : Type} {l : List α} {i : Nat} (h : i + 1 < l.length) : (l.drop i).take 2 = [l[i], l[i + 1]] := by
  rw [List.drop_eq_getElem_cons (by omega), List.take_succ_cons, List.drop_eq_getElem_cons (by omega), List.take_succ_cons, List.take_zero]
theorem drop_take1 {α : Type} {l : List α} {i : Nat} (h : i < l.length) : (l.drop i).take 1 = [l[i]] := by
  rw [List.drop_eq_getElem_cons (by omega), List.take_succ_cons, List.take_zero]
theorem flat_parts {h : Nat} {cs : List T} {i j : Nat} (hij : i ≤ j) : cs.flatMap (toL h) = (cs.take i).flatMap (toL h) ++ ((cs.drop i).take (j - i)).flatMap (toL h) ++ (cs.drop j).flatMap (toL h) := by
  rw [← List.flatMap_append, ← List.flatMap_append]
  congr 1
  rw [List.append_assoc]
  conv => lhs; rw [← List.take_append_drop i cs, ← List.take_append_drop (j - i) (cs.drop i), List.drop_drop, show i + (j - i) = j from by omega]

/-- A child that is too small is put together with one beside it. -/
theorem mend_val {h : Nat} {lo hi : Option ByteArray} {n : List ByteArray × List T} {i : Nat} (hr : Row (Val h) lo n.1 n.2 hi) (hi' : i < n.2.length) (h2 : 2 ≤ n.2.length) (hs : ∀ j (hj : j < n.2.length), j ≠ i → 4 ≤ (n.2[j]).sz ∧ (n.2[j]).sz ≤ 8) (hc : 3 ≤ (n.2[i]).sz ∧ (n.2[i]).sz ≤ 8) :
    Row (Val h) lo (mendR n i).1 (mendR n i).2 hi ∧ (∀ c ∈ (mendR n i).2, 4 ≤ c.sz ∧ c.sz ≤ 8) ∧ (mendR n i).2.flatMap (toL h) = n.2.flatMap (toL h) ∧ n.2.length ≤ (mendR n i).2.length + 1 ∧ (mendR n i).2.length ≤ n.2.length := by
  rw [mendR, getD_of hi']
  by_cases h4 : 4 ≤ (n.2[i]).sz
  · rw [if_pos h4]
    refine ⟨hr, fun c hcm => ?_, rfl, by omega, Nat.le_refl _⟩
    obtain ⟨j, hj, rfl⟩ := List.getElem_of_mem hcm
    by_cases hji : j = i
    · subst hji; exact ⟨h4, hc.2⟩
    · exact hs j hj hji
  · rw [if_neg h4]
    obtain ⟨a, ha⟩ : ∃ a, a = i - 1 := ⟨_, rfl⟩
    rw [← ha]
    have ha2 : a + 1 < n.2.length := by omega
    have hlen := hr.len
    rw [getD_of (show a < n.2.length by omega), getD_of ha2, getD_of (show a < n.1.length by omega)]
    obtain ⟨m1, m2, _, r2, _, r4⟩ := hr.with (i := a) (j := a + 2) (by omega) (by omega)
    rw [show a + 2 - a = 2 from by omega, show a + 2 - 1 - a = 1 from by omega, drop_take2 ha2, drop_take1 (show a < n.1.length by omega)] at r2
    obtain ⟨v1, v2⟩ := r2
    obtain ⟨j1, j2, j3⟩ := join_val v1 v2
    have hsum : 7 ≤ (n.2[a]).sz + (n.2[a + 1]).sz ∧ (n.2[a]).sz + (n.2[a + 1]).sz ≤ 11 := by
      by_cases hia : i = 0
      · have e1 : a = i := by omega
        have h5 := hs (a + 1) ha2 (by omega)
        have e2 : (n.2[a]'(by omega)).sz = (n.2[i]).sz := by congr 2
        omega
      · have e1 : a + 1 = i := by omega
        have h5 := hs a (by omega) (by omega)
        have e2 : (n.2[a + 1]).sz = (n.2[i]).sz := by congr 2
        omega
    obtain ⟨c1, c2, c3⟩ := cut_val j1 (by omega)
    have hrow := r4 _ _ c1
    obtain ⟨Z, hZ⟩ : ∃ Z, Z = cutT (joinT (n.2[a]'(by omega)) (n.1[a]'(by omega)) (n.2[a + 1])) := ⟨_, rfl⟩
    rw [← hZ] at c1 c2 c3 hrow ⊢
    have hZs : (∀ c ∈ Z.2, 4 ≤ c.sz ∧ c.sz ≤ 8) ∧ 1 ≤ Z.2.length ∧ Z.2.length ≤ 2 := by
      rcases c3 with ⟨e, h8⟩ | ⟨_, b, x, y, e, hx, hy⟩
      · rw [e]
        refine ⟨fun c hcm => ?_, by simp, by simp⟩
        simp only [List.mem_singleton] at hcm
        subst hcm
        omega
      · rw [e]
        refine ⟨fun c hcm => ?_, by simp, by simp⟩
        simp only [List.mem_cons, List.not_mem_nil, or_false] at hcm
        rcases hcm with rfl | rfl
        · exact hx
        · exact hy
    refine ⟨hrow, fun c hcm => ?_, ?_, ?_, ?_⟩
    · simp only [withR] at hcm
      rcases List.mem_append.1 hcm with hcm | hcm
      · rcases List.mem_append.1 hcm with hcm | hcm
        · obtain ⟨j, hj, rfl⟩ := List.mem_take_iff_getElem.1 hcm
          exact hs j (by omega) (by omega)
        · exact hZs.1 c hcm
      · obtain ⟨j, hj, rfl⟩ := List.mem_drop_iff_getElem.1 hcm
        exact hs _ (by omega) (by omega)
    · simp only [withR]
      rw [List.flatMap_append, List.flatMap_append, c2, j2, flat_parts (h := h) (cs := n.2) (i := a) (j := a + 2) (by omega), show a + 2 - a = 2 from by omega, drop_take2 ha2]
      simp
    · simp only [withR, List.length_append, List.length_take, List.length_drop]
      omega
    · simp only [withR, List.length_append, List.length_take, List.length_drop]
      omega

theorem pre_none {V : Option ByteArray → Option ByteArray → T → Prop} : ∀ {bs : List ByteArray} {cs : List T} {lo : Option ByteArray}, Pre V lo bs cs none → cs = []
  | [], [], _, _ => rfl
  | b :: bs, c :: cs, lo, h => by
    have := pre_none h.2
    subst this
    cases bs with
    | nil => have := h.2; simp [Pre] at this
    | cons => exact h.2.elim
  | [], _ :: _, _, h => h.elim
  | _ :: _, [], _, h => h.elim
theorem suf_none {V : Option ByteArray → Option ByteArray → T → Prop} : ∀ {bs : List ByteArray} {cs : List T} {hi : Option ByteArray}, Suf V none bs cs hi → cs = []
  | [], [], _, _ => rfl
  | _ :: _, _ :: _, _, h => by have := h.1; simp at this
  | [], _ :: _, _, h => h.elim
  | _ :: _, [], _, h => h.elim

/-- What a change leaves: a row of one or two. -/
structure Chg (h : Nat) (lo hi : Option ByteArray) (t : T) (L : List KV) (R : List ByteArray × List T) : Prop where
  row : Row (Val h) lo R.1 R.2 hi
  list : R.2.flatMap (toL h) = L
  shape : (∃ c, R = ([], [c]) ∧ t.sz ≤ c.sz + 1 ∧ c.sz ≤ 8 ∧ c.sz ≤ t.sz + 1) ∨ (∃ b c1 c2, R = ([b], [c1, c2]) ∧ (4 ≤ c1.sz ∧ c1.sz ≤ 8) ∧ 4 ≤ c2.sz ∧ c2.sz ≤ 8)

theorem chg_val {k : ByteArray} {E : List KV → List KV} (hE : Edit k E) : ∀ {h : Nat} {lo hi : Option ByteArray} {t : T}, Val h lo hi t → InB lo hi k → t.sz ≤ 8 → (h = 0 ∨ 2 ≤ t.sz) → Chg h lo hi t (E (toL h t)) (chgT k E h t)
  | 0, lo, hi, .leaf ps, hv, hk, h8, _ => by
    obtain ⟨e1, e2⟩ := hE.ok lo hi ps hk hv.2.1 hv.2.2
    have hl := hE.len ps
    have h8' : ps.length ≤ 8 := h8
    have hv2 : Val 0 lo hi (.leaf (E ps)) := ⟨hv.1, e1, e2⟩
    obtain ⟨c1, c2, c3⟩ := cut_val hv2 (by show (E ps).length ≤ 16; omega)
    refine ⟨c1, c2, ?_⟩
    rcases c3 with ⟨e, h3⟩ | ⟨_, b, x, y, e, hx, hy⟩
    · exact .inl ⟨_, e, by show ps.length ≤ (E ps).length + 1; omega, h3, by show (E ps).length ≤ ps.length + 1; omega⟩
    · exact .inr ⟨b, x, y, e, hx, hy⟩
  | h + 1, lo, hi, .inner bs cs, hv, hk, h8, h2 => by
    have h8' : cs.length ≤ 8 := h8
    have h2' : 2 ≤ cs.length := by rcases h2 with h2 | h2; omega; exact h2
    obtain ⟨c, m1, m2, p1, p2, p3, p4, p5⟩ := hv.1.place k hk
    obtain ⟨i, hi'⟩ : ∃ i, i = pl bs k := ⟨_, rfl⟩
    rw [← hi'] at p1 p2 p5
    obtain ⟨hil, p1'⟩ := List.getElem?_eq_some_iff.1 p1
    have hcm := hv.2 c (List.mem_of_getElem? p1)
    have ihc := chg_val hE p3 p4 hcm.2 (.inr (by omega))
    have hgd : cs.getD i default = c := by rw [getD_of hil, p1']
    obtain ⟨R, hR⟩ : ∃ R, R = chgT k E h c := ⟨_, rfl⟩
    rw [← hR] at ihc
    have hchg : chgT k E (h + 1) (.inner bs cs) = cutT (.inner (mendR (withR (bs, cs) i (i + 1) R) i).1 (mendR (withR (bs, cs) i (i + 1) R) i).2) := by rw [chgT, ← hi', hgd, ← hR]
    obtain ⟨n1, hn1⟩ : ∃ n1, n1 = withR (bs, cs) i (i + 1) R := ⟨_, rfl⟩
    rw [← hn1] at hchg
    have e1 : n1.1 = bs.take i ++ R.1 ++ bs.drop i := by rw [hn1]; rfl
    have e2 : n1.2 = cs.take i ++ R.2 ++ cs.drop (i + 1) := by rw [hn1]; rfl
    have hrow1 : Row (Val h) lo n1.1 n1.2 hi := by rw [e1, e2, List.append_assoc, List.append_assoc]; exact p2.app (ihc.row.app p5)
    have hti : (cs.take i).length = i := by rw [List.length_take]; omega
    have hlist1 : n1.2.flatMap (toL h) = E (toL (h + 1) (.inner bs cs)) := by
      have hw : toL (h + 1) (.inner bs cs) = (cs.take i).flatMap (toL h) ++ toL h c ++ (cs.drop (i + 1)).flatMap (toL h) := by
        show cs.flatMap (toL h) = _
        rw [flat_parts (h := h) (cs := cs) (i := i) (j := i + 1) (by omega), show i + 1 - i = 1 from by omega, drop_take1 hil, p1']
        simp
      rw [hw, hE.loc _ _ _ ?_ ?_, e2, List.flatMap_append, List.flatMap_append, ihc.list]
      · intro q hq
        cases hm : m1 with
        | none => subst hm; rw [pre_none p2] at hq; simp at hq
        | some b => exact klt_of_lt_le (p2.list q hq b hm) (p4.1 b hm)
      · intro q hq
        cases hm : m2 with
        | none => subst hm; rw [suf_none p5] at hq; simp at hq
        | some b => exact klt_of_lt_le (p4.2 b hm) (p5.list q hq b hm)
    have hsz : ∀ j (hj : j < n1.2.length), j ≠ i → 4 ≤ (n1.2[j]).sz ∧ (n1.2[j]).sz ≤ 8 := by
      intro j hj hji
      have hmem : n1.2[j] ∈ cs ∨ n1.2[j] ∈ R.2.drop 1 := by
        simp only [e2]
        rw [List.getElem_append]
        split
        · rw [List.getElem_append]
          split
          · left; exact List.mem_of_mem_take (List.getElem_mem _)
          · right
            rename_i h5 h6
            rw [List.mem_drop_iff_getElem]
            refine ⟨j - (cs.take i).length - 1, by rw [List.length_append] at h5; omega, ?_⟩
            congr 1
            omega
        · left; exact List.mem_of_mem_drop (List.getElem_mem _)
      rcases hmem with hmem | hmem
      · exact hv.2 _ hmem
      · rcases ihc.shape with ⟨x, e, _⟩ | ⟨b, x, y, e, hx, hy⟩
        · rw [e] at hmem; simp at hmem
        · rw [e] at hmem
          simp only [List.drop_succ_cons, List.drop_zero, List.mem_singleton] at hmem
          rw [hmem]; exact hy
    have hRl : 1 ≤ R.2.length ∧ R.2.length ≤ 2 := by
      rcases ihc.shape with ⟨x, e, _⟩ | ⟨b, x, y, e, _⟩ <;> rw [e] <;> simp
    have hnl : n1.2.length + 1 = cs.length + R.2.length := by
      rw [e2, List.length_append, List.length_append, List.length_take, List.length_drop]; omega
    have hin : i < n1.2.length := by omega
    have hci : 3 ≤ (n1.2[i]).sz ∧ (n1.2[i]).sz ≤ 8 := by
      have he : n1.2[i]? = R.2[0]? := by
        rw [e2, List.append_assoc, List.getElem?_append_right (by omega), hti, Nat.sub_self, List.getElem?_append_left (by omega)]
      rw [List.getElem?_eq_getElem hin] at he
      rcases ihc.shape with ⟨x, e, h5, h6, _⟩ | ⟨b, x, y, e, hx, hy⟩
      · rw [e] at he
        simp only [List.getElem?_cons_zero, Option.some.injEq] at he
        rw [he]; omega
      · rw [e] at he
        simp only [List.getElem?_cons_zero, Option.some.injEq] at he
        rw [he]; omega
    obtain ⟨q1, q2, q3, q4, q5⟩ := mend_val hrow1 hin (by omega) hsz hci
    have hv2 : Val (h + 1) lo hi (.inner (mendR n1 i).1 (mendR n1 i).2) := ⟨q1, q2⟩
    obtain ⟨c1, c2, c3⟩ := cut_val hv2 (by show (mendR n1 i).2.length ≤ 16; omega)
    rw [hchg]
    refine ⟨c1, by rw [c2, ← hlist1]; exact q3, ?_⟩
    rcases c3 with ⟨e, h3⟩ | ⟨_, b, x, y, e, hx, hy⟩
    · refine .inl ⟨_, e, ?_, h3, ?_⟩
      · show cs.length ≤ (mendR n1 i).2.length + 1
        rcases ihc.shape with ⟨x, e, h5, h6, _⟩ | ⟨b, x, y, e, hx, hy⟩
        · have : R.2.length = 1 := by rw [e]; rfl
          omega
        · have : R.2.length = 2 := by rw [e]; rfl
          omega
      · show (mendR n1 i).2.length ≤ cs.length + 1
        omega
    · exact .inr ⟨b, x, y, e, hx, hy⟩
  | 0, _, _, .inner _ _, hv, _, _, _ => hv.elim
  | _ + 1, _, _, .leaf _, hv, _, _, _ => hv.elim

/-- The root of what a change leaves. -/
def topT : Nat → T → T
  | h + 1, .inner _ [c] => topT h c
  | _, t => t
/-- A tree that is whole. -/
structure Whole (h : Nat) (t : T) : Prop where
  val : Val h none none t
  max : t.sz ≤ 8
  min : h = 0 ∨ 2 ≤ t.sz
theorem inB_none (k : ByteArray) : InB none none k := ⟨fun _ e => (by cases e), fun _ e => (by cases e)⟩
theorem LT_none : LT none none := fun _ _ e => by cases e

/-- A changed tree is whole. -/
theorem chg_whole {k : ByteArray} {E : List KV → List KV} (hE : Edit k E) {h : Nat} {t : T} (hw : Whole h t) : ∃ h' t', topT (h + 1) (.inner (chgT k E h t).1 (chgT k E h t).2) = t' ∧ Whole h' t' ∧ toL h' t' = E (toL h t) := by
  have hc := chg_val hE hw.val (inB_none k) hw.max hw.min
  rcases hc.shape with ⟨c, e, h1, h2, h3⟩ | ⟨b, x, y, e, hx, hy⟩
  · rw [e]
    have hv : Val h none none c := by have := hc.row; rw [e] at this; exact this
    have hl : toL h c = E (toL h t) := by have := hc.list; rw [e] at this; simpa using this
    show ∃ h' t', topT h c = t' ∧ _
    match h, c, hv with
    | 0, .leaf ps, hv => exact ⟨0, .leaf ps, rfl, ⟨hv, h2, .inl rfl⟩, hl⟩
    | h + 1, .inner bs [c2], hv =>
      have hs := hv.2 c2 List.mem_cons_self
      have hr := hv.1
      match bs, hr with
      | [], hr =>
        refine ⟨h, c2, ?_, ⟨hr, hs.2, .inr (by omega)⟩, by rw [← hl]; simp [toL]⟩
        show topT h c2 = c2
        match h, c2, hr, hs with
        | 0, .leaf _, _, _ => rfl
        | h + 1, .inner _ [c3], _, hs => have : 4 ≤ [c3].length := hs.1; simp at this
        | h + 1, .inner _ [], _, _ => rfl
        | h + 1, .inner _ (_ :: _ :: _), _, _ => rfl
        | 0, .inner _ _, hr, _ => exact hr.elim
        | _ + 1, .leaf _, hr, _ => exact hr.elim
      | _ :: _, hr => have := Row.len hr; simp at this
    | h + 1, .inner bs [], hv => have := Row.len hv.1; simp at this
    | h + 1, .inner bs (c1 :: c2 :: cs), hv => exact ⟨h + 1, _, rfl, ⟨hv, h2, .inr (by show 2 ≤ (c1 :: c2 :: cs).length; simp)⟩, hl⟩
    | 0, .inner _ _, hv => exact hv.elim
    | _ + 1, .leaf _, hv => exact hv.elim
  · rw [e]
    have hr := hc.row
    have hl := hc.list
    rw [e] at hr hl
    exact ⟨h + 1, _, rfl, ⟨⟨hr, fun c hcm => by
      simp only [List.mem_cons, List.not_mem_nil, or_false] at hcm
      rcases hcm with rfl | rfl
      · exact hx
      · exact hy⟩, by show 2 ≤ 8; omega, .inr (by show 2 ≤ 2; omega)⟩, hl⟩
end Go.Proofs.Ytpophalhmjchkaa

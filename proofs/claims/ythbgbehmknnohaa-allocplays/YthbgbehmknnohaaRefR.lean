/-
  The document's own space: Copy and Runs; the law's comparison of runs.
-/
import Derived.Test.YthbgbehmknnohaaRefT
namespace Go.Proofs.Ythbgbehmknnohaa
open Go.RowKit Go.Shelf

theorem info67 : (Try.prog.info? 67).map (fun i => (i.zero, i.size, i.bytes)) = some (some (.agg #[.int .i64 0, .int .i64 0]), 2, 16) := by kernel_rfl
theorem rrow_own {W : World} {B : Nat} {v : Value} {L : List Bool} (h : W.ownsRow B 4 1 v L.length (L.map Value.bool)) (d : Nat) (hd : B ≤ d) : ∃ a c g, v = .slice a L.length c ∧ ((L = [] ∧ (a = none → c = 0) ∧ g = d) ∨ (a = some ⟨g, 0, none⟩ ∧ RRow W g L)) ∧ B ≤ g := by
  obtain ⟨hl, ⟨rfl, h1⟩ | ⟨g, cap, cur, rfl, hb, hg, hr⟩⟩ := h
  · exact ⟨none, 0, d, by rw [h1], .inl ⟨List.eq_nil_of_length_eq_zero h1, fun _ => rfl, rfl⟩, hd⟩
  · refine ⟨_, cap, g, rfl, .inr ⟨rfl, cur, hg, fun j hj => ?_⟩, hb⟩
    have h3 := hr.2.2.2
    rw [Nat.mul_one] at h3
    have h4 : (cur.toList.take L.length)[j]? = some (.bool L[j]) := by rw [h3]; simp [hj]
    rw [List.getElem?_take_of_lt hj] at h4
    simpa using h4

theorem wpList_append_run {P : Program} {w : World} {ops : Array Oper} {rest : List Oper} {o : Oper} {a : Act} {Q : Exit → Act → World → Prop}
    (hg : o.guard = none) (s x : Operand) (t : TypeId) (hop : o.op = Op.call { callee := Callee.builtin Builtin.append, args := #[s, x], argTypes := #[t, t] })
    (vs vx : Value) (hs : a.eval s = vs) (hx : a.eval x = vx) (v' : Value) (w' : World) (hrun : ∀ ty, (Builtin.append_ #[t, t] ty #[vs, vx]).run P w = .ok v' w')
    (hK : wpList P ops Q rest (a.put o.dst v') w') : wpList P ops Q (o :: rest) a w := by
  refine wpList_plain hg fun K hK' => ?_
  unfold Oper.wp
  simp [execOp, hop, resolve, invoke, builtin, hs, hx, hrun, Result.andThen]
  exact hK' _ _ hK
set_option maxHeartbeats 2000000 in
theorem refCopy_any (w : World) (r g : Nat) (L : List Bool) (h : RSp w r g L) :
    Calls Try.prog 16 #[.pointer (some ⟨r, 0, none⟩)] w fun e w' => ∃ r' g', e = .returned (.pointer (some ⟨r', 0, none⟩)) ∧ RSp w' r' g' L ∧ w.heap.size ≤ g' ∧ g' < w'.heap.size ∧ Below w.heap.size w w' := by
  obtain ⟨i0, hi, hz0, hz1, hz2⟩ := info_parts info4
  obtain ⟨hl, a, c, h1, h2⟩ := h
  have c0 := box_cell h1
  have HE : Hid (∀ (v' : Value) (w2 : World), w2.ownsRow w.heap.size 4 1 v' L.length (L.map Value.bool) → Below w.heap.size w w2 → ∃ a' c' g', v' = .slice a' L.length c' ∧ RSp (w2.alloc (.cells #[v'] 59)) w2.heap.size g' L ∧ w.heap.size ≤ g' ∧ g' < (w2.alloc (.cells #[v'] 59)).heap.size) := (by
    intro v' w2 q1 q2
    obtain ⟨a', c', g', e1, e2, e4⟩ := rrow_own q1 w2.heap.size q2.size
    refine ⟨a', c', g', e1, ⟨hl, a', c', ?_, ?_⟩, e4, ?_⟩
    · rw [heap_alloc_new, e1]
    · rcases e2 with ⟨e2, e3, _⟩ | ⟨e2, e3⟩
      · exact .inl ⟨e2, e3⟩
      · exact .inr ⟨e2, e3.kept (Below.heap_alloc _ _ _ e3.lt)⟩
    · rcases e2 with ⟨_, _, e2⟩ | ⟨_, e3⟩
      · rw [e2]; simp
      · have := e3.lt
        simp
        omega)
  cases a with
  | none =>
    have hL : L = [] := by
      rcases h2 with ⟨h2, _⟩ | ⟨h2, _⟩
      · exact h2
      · cases h2
    have hc : c = 0 := by
      rcases h2 with ⟨_, h3⟩ | ⟨h2, _⟩
      · exact h3 rfl
      · cases h2
    subst hL hc
    have hE := HE.out (.slice none 0 0) w (World.ownsRow_nil _ _ _ _) (Below.refl _ _)
    obtain ⟨a', c', g', e1, e2⟩ := hE
    have HE2 : Hid (RSp (w.alloc (.cells #[.slice none 0 0] 59)) w.heap.size g' [] ∧ w.heap.size ≤ g' ∧ g' < (w.alloc (.cells #[.slice none 0 0] 59)).heap.size) := e2
    have hx0 : w.cell? ⟨r, 0, none⟩ = some (.slice none 0 0) := c0
    clear e1 e2 HE h1 h2 c0
    go_enter Try.func16, Try.ntmps16
    go_wp2_with (at_builtin; refine wpList_append_own_none rfl _ _ 52 rfl w.heap.size 4 i0 1 Try.underlying52 hi _ 0 [] rfl (World.ownsRow_nil _ _ _ _) rfl ?_)
    go_ret
    exact ⟨_, g', rfl, HE2.out.1, HE2.out.2.1, HE2.out.2.2, (Below.refl _ w).alloc (Nat.le_refl _) _⟩
  | some ad =>
    have HNW : Hid (∀ j u, (L.map Value.bool)[j]? = some u → w.cell? (ad.add j) = some u) := (by
      intro j u hj
      obtain ⟨hj', rfl⟩ := List.getElem?_eq_some_iff.1 hj
      rw [List.length_map] at hj'
      rcases h2 with ⟨h2, _⟩ | ⟨h2, h3⟩
      · rw [h2] at hj'; simp at hj'
      · cases h2
        rw [Addr.add_lit, Nat.zero_add, h3.cell hj']
        simp)
    obtain ⟨n, hn⟩ : ∃ n, n = L.length := ⟨_, rfl⟩
    rw [← hn] at c0 hl
    have HN : Hid (n = L.length) := hn
    clear h1 h2 hn
    obtain ⟨v', w2, hr, q1, q2, _⟩ := append_own2 (P := Try.prog) w w.heap.size 52 0 4 i0 (.bool false) 1 1 Try.underlying52 hi hz0 hz1 hz2 rfl (by decide) (.slice none 0 0) 0 [] (World.ownsRow_nil _ _ _ _) ad n c (L.map Value.bool) (by rw [List.length_map, Nat.mul_one]; exact HN.out.symm) HNW.out (by intro u hu; obtain ⟨x, _, rfl⟩ := List.mem_map.1 hu; rfl) (by unfold maxLen; omega) (by omega) (Nat.le_refl _)
    have hb2 : Below w.heap.size w w2 := (Below.refl _ w).grown q2 (Nat.le_refl _) (fun k hk => by simp [Value.ownBlock] at hk)
    obtain ⟨a', c', g', e1, e2⟩ := HE.out v' w2 (by rw [Nat.zero_add, List.nil_append] at q1; rw [← HN.out]; exact q1) hb2
    rw [← HN.out] at e1
    subst e1
    have HE2 : Hid ((RSp (w2.alloc (.cells #[.slice a' n c'] 59)) w2.heap.size g' L ∧ w.heap.size ≤ g' ∧ g' < (w2.alloc (.cells #[.slice a' n c'] 59)).heap.size) ∧ Below w.heap.size w w2) := ⟨e2, hb2⟩
    clear q1 q2 hb2 e2 HE HNW
    go_enter Try.func16, Try.ntmps16
    go_wp2_with (at_builtin; refine wpList_append_run rfl (.tmp 4) (.tmp 8) 52 rfl _ _ rfl rfl _ _ (fun _ => hr) ?_)
    go_ret
    exact ⟨_, g', rfl, HE2.out.1.1, HE2.out.1.2.1, HE2.out.1.2.2, HE2.out.2.alloc HE2.out.2.size _⟩

/-- How many free ones stand at the end. -/
def trl (c : Nat) : List Bool → Nat
  | [] => c
  | true :: r => trl 0 r
  | false :: r => trl (c + 1) r
/-- The runs that are over. -/
def rnP (i c : Nat) : List Bool → List (Nat × Nat)
  | [] => []
  | true :: r => (if c = 0 then [] else [(i - c, c)]) ++ rnP (i + 1) 0 r
  | false :: r => rnP (i + 1) (c + 1) r
theorem rn_split : ∀ (R : List Bool) (i c : Nat), rn i c R = rnP i c R ++ (if trl c R = 0 then [] else [(i + R.length - trl c R, trl c R)])
  | [], i, c => by rw [rn, rnP, trl]; simp
  | true :: r, i, c => by
    rw [rn, rnP, trl, rn_split r (i + 1) 0, List.append_assoc, List.length_cons, show i + 1 + r.length = i + (r.length + 1) from by omega]
  | false :: r, i, c => by
    rw [rn, rnP, trl, rn_split r (i + 1) (c + 1), List.length_cons, show i + 1 + r.length = i + (r.length + 1) from by omega]
theorem trl_snoc (x : Bool) : ∀ (R : List Bool) (c : Nat), trl c (R ++ [x]) = if x then 0 else trl c R + 1
  | [], c => by cases x <;> rfl
  | true :: r, c => by rw [List.cons_append, trl, trl, trl_snoc x r 0]
  | false :: r, c => by rw [List.cons_append, trl, trl, trl_snoc x r (c + 1)]
theorem rnP_false : ∀ (R : List Bool) (i c : Nat), rnP i c (R ++ [false]) = rnP i c R
  | [], i, c => rfl
  | true :: r, i, c => by rw [List.cons_append, rnP, rnP, rnP_false r]
  | false :: r, i, c => by rw [List.cons_append, rnP, rnP, rnP_false r]
theorem rn_true : ∀ (R : List Bool) (i c : Nat), rn i c (R ++ [true]) = rn i c R
  | [], i, c => by simp [rn]
  | true :: r, i, c => by rw [List.cons_append, rn, rn, rn_true r]
  | false :: r, i, c => by rw [List.cons_append, rn, rn, rn_true r]
theorem runs_true (M : List Bool) : runsL (M ++ [true]) = runsL M := rn_true M 0 0
/-- One more free unit: the last run grows, or a new one begins. -/
theorem runs_false (M : List Bool) : (trl 0 M = 0 ∧ runsL (M ++ [false]) = runsL M ++ [(M.length, 1)]) ∨
    ∃ pre s n, 0 < trl 0 M ∧ runsL M = pre ++ [(s, n)] ∧ runsL (M ++ [false]) = pre ++ [(s, n + 1)] := by
  rw [runsL, runsL, rn_split M, rn_split (M ++ [false]), rnP_false, trl_snoc]
  simp only [Bool.false_eq_true, if_false, List.length_append, List.length_cons, List.length_nil, Nat.zero_add, Nat.add_eq_zero_iff, and_false, Nat.succ_ne_self]
  by_cases h : trl 0 M = 0
  · left
    rw [h]
    simp
  · right
    refine ⟨rnP 0 0 M, M.length - trl 0 M, trl 0 M, by omega, by rw [if_neg h], ?_⟩
    rw [show M.length + 1 - (trl 0 M + 1) = M.length - trl 0 M from by omega]
theorem trl_take {L : List Bool} {i : Nat} (h : i < L.length) : trl 0 (L.take (i + 1)) = if L[i] then 0 else trl 0 (L.take i) + 1 := by rw [List.take_succ_eq_append_getElem h, trl_snoc]
theorem own_set {w : World} {B e : Nat} {g n cap : Nat} {xs : List Value} (h : w.ownsRow B e 2 (.slice (some ⟨g, 0, none⟩) n cap) n xs) (j : Nat) (hj : j < n * 2) (u : Value) : (w.setCell ⟨g, j, none⟩ u).ownsRow B e 2 (.slice (some ⟨g, 0, none⟩) n cap) n (xs.set j u) := by
  obtain ⟨hl, ⟨h0, _⟩ | ⟨g', cap', cur, he, hb, hg, h1, h2, h3, h4⟩⟩ := h
  · cases h0
  · cases he
    refine ⟨by rw [List.length_set]; exact hl, .inr ⟨g, cap, _, rfl, hb, set_blk hg j u, h1, h2, by rw [Array.size_setIfInBounds]; exact h3, ?_⟩⟩
    rw [← h4]
    apply List.ext_getElem?
    intro i
    simp only [Array.toList_setIfInBounds]
    rw [List.getElem?_set]
    by_cases hi : i < n * 2
    · rw [List.getElem?_take_of_lt hi, List.getElem?_set, List.getElem?_take_of_lt hi]
      by_cases e : j = i
      · subst e
        rw [if_pos rfl, if_pos rfl, List.length_take]
        have : j < cur.toList.length := by
          have := congrArg List.length h4
          rw [List.length_take] at this
          omega
        rw [if_pos this, if_pos (by omega)]
      · rw [if_neg e, if_neg e]
    · rw [if_neg (by omega)]
      rw [List.getElem?_eq_none (by simp; omega), List.getElem?_eq_none (by simp; omega)]
theorem rcs_last (pre : List (Nat × Nat)) (s n m : Nat) : (rcs (pre ++ [(s, n)])).set (pre.length * 2 + 1) (.int .i64 (m : Int)) = rcs (pre ++ [(s, m)]) := by
  rw [rcs_app, rcs_app, List.set_append, rcs_len]
  rw [if_neg (by omega), show pre.length * 2 + 1 - pre.length * 2 = 1 from by omega]
  rfl
end Go.Proofs.Ythbgbehmknnohaa

/-
  Free runs: the mathematics.
-/
import Derived.Test.YtpmjkgpmidejoaaRun11
import Derived.Laws.Rows
import Derived.Laws.Build
namespace Go.Proofs.Ytpmjkgpmidejoaa.Al

theorem drop_step {L : List Bool} {i : Nat} {x : Bool} {r : List Bool} (h : L.drop i = x :: r) : i < L.length ∧ L[i]? = some x ∧ L.drop (i + 1) = r := by
  have hl : i < L.length := by
    by_cases hi : i < L.length
    · exact hi
    · rw [List.drop_eq_nil_of_le (by omega)] at h; simp at h
  rw [List.drop_eq_getElem_cons hl] at h
  injection h with h1 h2
  exact ⟨hl, by rw [List.getElem?_eq_getElem hl, h1], h2⟩
theorem drop_nil {L : List Bool} {i : Nat} (h : L.drop i = []) : L.length ≤ i := by
  have := congrArg List.length h
  rw [List.length_drop] at this
  simp at this
  omega
theorem allB_snoc {L : List Bool} {i c : Nat} {t : Bool} (hc : c ≤ i) (h : allB L (i - c) c t) (hi : L[i]? = some t) : allB L (i + 1 - (c + 1)) (c + 1) t := by
  intro j hj
  by_cases e : j = c
  · subst e; rw [show i + 1 - (j + 1) + j = i from by omega]; exact hi
  · have := h j (by omega)
    rwa [show i + 1 - (c + 1) + j = i - c + j from by omega]
theorem allB_zero (L : List Bool) (s : Nat) (t : Bool) : allB L s 0 t := fun _ h => by omega

theorem rn_mem {L : List Bool} : ∀ (R : List Bool) {i c : Nat}, L.drop i = R → c ≤ i → i ≤ L.length → allB L (i - c) c false → ∀ x ∈ rn i c R, 1 ≤ x.2 ∧ i - c ≤ x.1 ∧ x.1 + x.2 ≤ L.length ∧ allB L x.1 x.2 false
  | [], i, c, hd, hc, hl, ha, x, hx => by
    rw [rn] at hx
    by_cases h0 : c = 0
    · rw [if_pos h0] at hx; simp at hx
    · rw [if_neg h0, List.mem_singleton] at hx
      subst hx
      exact ⟨by show 1 ≤ c; omega, Nat.le_refl _, by show i - c + c ≤ _; omega, ha⟩
  | true :: r, i, c, hd, hc, hl, ha, x, hx => by
    obtain ⟨h1, h2, h3⟩ := drop_step hd
    rw [rn, List.mem_append] at hx
    rcases hx with hx | hx
    · by_cases h0 : c = 0
      · rw [if_pos h0] at hx; simp at hx
      · rw [if_neg h0, List.mem_singleton] at hx
        subst hx
        exact ⟨by show 1 ≤ c; omega, Nat.le_refl _, by show i - c + c ≤ _; omega, ha⟩
    · obtain ⟨a1, a2, a3⟩ := rn_mem r h3 (Nat.zero_le _) (by omega) (allB_zero _ _ _) x hx
      exact ⟨a1, by omega, a3⟩
  | false :: r, i, c, hd, hc, hl, ha, x, hx => by
    obtain ⟨h1, h2, h3⟩ := drop_step hd
    rw [rn] at hx
    obtain ⟨a1, a2, a3⟩ := rn_mem r h3 (by omega) (by omega) (allB_snoc hc ha h2) x hx
    exact ⟨a1, by omega, a3⟩
theorem runs_mem {L : List Bool} {x : Nat × Nat} (h : x ∈ runsL L) : 1 ≤ x.2 ∧ x.1 + x.2 ≤ L.length ∧ allB L x.1 x.2 false := by
  obtain ⟨a1, _, a3⟩ := rn_mem L (i := 0) (c := 0) (L := L) rfl (Nat.le_refl _) (Nat.zero_le _) (allB_zero _ _ _) x h
  exact ⟨a1, a3⟩
/-- Runs never touch. -/
theorem rn_apart {L : List Bool} : ∀ (R : List Bool) {i c : Nat}, L.drop i = R → c ≤ i → i ≤ L.length → allB L (i - c) c false → (rn i c R).Pairwise (fun x y => x.1 + x.2 < y.1)
  | [], i, c, hd, hc, hl, ha => by
    rw [rn]
    split <;> simp
  | true :: r, i, c, hd, hc, hl, ha => by
    obtain ⟨h1, h2, h3⟩ := drop_step hd
    rw [rn]
    have ih := rn_apart r h3 (Nat.zero_le _) (by omega) (allB_zero _ _ _)
    by_cases h0 : c = 0
    · rw [if_pos h0]; exact ih
    · rw [if_neg h0, List.singleton_append, List.pairwise_cons]
      refine ⟨fun y hy => ?_, ih⟩
      have := (rn_mem r h3 (Nat.zero_le _) (by omega) (allB_zero _ _ _) y hy).2.1
      show i - c + c < y.1
      omega
  | false :: r, i, c, hd, hc, hl, ha => by
    obtain ⟨h1, h2, h3⟩ := drop_step hd
    rw [rn]
    exact rn_apart r h3 (by omega) (by omega) (allB_snoc hc ha h2)
theorem runs_apart (L : List Bool) : (runsL L).Pairwise (fun x y => x.1 + x.2 < y.1) := rn_apart L (i := 0) (c := 0) (L := L) rfl (Nat.le_refl _) (Nat.zero_le _) (allB_zero _ _ _)
/-- How many are free. -/
def sumR (xs : List (Nat × Nat)) : Nat := (xs.map (·.2)).sum
theorem sumR_snoc (xs : List (Nat × Nat)) (x : Nat × Nat) : sumR (xs ++ [x]) = sumR xs + x.2 := by simp [sumR]
theorem rn_sum : ∀ (R : List Bool) (i c : Nat), sumR (rn i c R) = c + R.count false
  | [], i, c => by
    rw [rn]
    split
    · rename_i h; subst h; rfl
    · simp [sumR]
  | true :: r, i, c => by
    have ih := rn_sum r (i + 1) 0
    rw [rn]
    by_cases h0 : c = 0
    · rw [if_pos h0, List.nil_append, ih]; simp [h0]
    · rw [if_neg h0]
      simp only [sumR, List.map_append, List.sum_append, List.map_cons, List.map_nil, List.sum_cons, List.sum_nil] at ih ⊢
      rw [ih]
      simp
  | false :: r, i, c => by
    rw [rn, rn_sum r (i + 1) (c + 1), List.count_cons_self]
    omega
theorem runs_sum (L : List Bool) : sumR (runsL L) = L.count false := by rw [runsL, rn_sum, Nat.zero_add]
theorem count_le (L : List Bool) : L.count false ≤ L.length := List.count_le_length
theorem sum_pre {pre xs : List (Nat × Nat)} (h : pre <+: xs) : sumR pre ≤ sumR xs := by
  obtain ⟨r, rfl⟩ := h
  simp [sumR]

/-- A free window of k units at a. -/
def winP (L : List Bool) (k a : Nat) : Prop := a + k ≤ L.length ∧ allB L a k false
/-- The first run that has k units. -/
def takeL (k : Nat) (xs : List (Nat × Nat)) : Option (Nat × Nat) := xs.find? fun x => decide (k ≤ x.2)
theorem rn_take {L : List Bool} {k : Nat} (hk : 1 ≤ k) : ∀ (R : List Bool) {i c : Nat}, L.drop i = R → c ≤ i → i ≤ L.length → allB L (i - c) c false →
    (∀ x, takeL k (rn i c R) = some x → winP L k x.1 ∧ ∀ a, i - c ≤ a → a < x.1 → ¬ winP L k a) ∧ (takeL k (rn i c R) = none → ∀ a, i - c ≤ a → ¬ winP L k a)
  | [], i, c, hd, hc, hl, ha => by
    have hi := drop_nil hd
    rw [rn]
    by_cases h0 : c = 0
    · rw [if_pos h0]
      refine ⟨fun x hx => by simp [takeL] at hx, fun _ a h1 h2 => by have := h2.1; omega⟩
    · rw [if_neg h0]
      by_cases hkc : k ≤ c
      · refine ⟨fun x hx => ?_, fun hx => by simp [takeL, hkc] at hx⟩
        simp [takeL, hkc] at hx
        subst hx
        exact ⟨⟨by show i - c + k ≤ _; omega, fun j hj => ha j (by omega)⟩, fun a h1 h2 => by dsimp only at h2; omega⟩
      · refine ⟨fun x hx => by simp [takeL, hkc] at hx, fun _ a h1 h2 => ?_⟩
        have := h2.1
        omega
  | true :: r, i, c, hd, hc, hl, ha => by
    obtain ⟨h1, h2, h3⟩ := drop_step hd
    obtain ⟨ih1, ih2⟩ := rn_take hk r h3 (Nat.zero_le _) (by omega) (allB_zero _ _ _)
    rw [rn]
    have hno : ¬ k ≤ c → ∀ a, i - c ≤ a → a ≤ i → ¬ winP L k a := by
      intro hkc a q1 q2 q3
      have := q3.2 (i - a) (by omega)
      rw [show a + (i - a) = i from by omega, h2] at this
      simp at this
    by_cases hkc : 1 ≤ c ∧ k ≤ c
    · rw [if_neg (by omega)]
      have e : takeL k ([(i - c, c)] ++ rn (i + 1) 0 r) = some (i - c, c) := by simp [takeL, hkc.2]
      rw [e]
      refine ⟨fun x hx => ?_, fun hx => by simp at hx⟩
      injection hx with hx
      subst hx
      exact ⟨⟨by show i - c + k ≤ _; omega, fun j hj => ha j (by omega)⟩, fun a q1 q2 => by dsimp only at q2; omega⟩
    · have e : takeL k ((if c = 0 then [] else [(i - c, c)]) ++ rn (i + 1) 0 r) = takeL k (rn (i + 1) 0 r) := by
        by_cases h0 : c = 0
        · rw [if_pos h0, List.nil_append]
        · rw [if_neg h0, List.singleton_append, takeL, List.find?_cons_of_neg (by simp; omega), takeL]
      rw [e]
      refine ⟨fun x hx => ⟨(ih1 x hx).1, fun a q1 q2 => ?_⟩, fun hx a q1 => ?_⟩
      · by_cases q3 : a ≤ i
        · exact hno (by omega) a q1 q3
        · exact (ih1 x hx).2 a (by omega) q2
      · by_cases q3 : a ≤ i
        · exact hno (by omega) a q1 q3
        · exact ih2 hx a (by omega)
  | false :: r, i, c, hd, hc, hl, ha => by
    obtain ⟨h1, h2, h3⟩ := drop_step hd
    obtain ⟨ih1, ih2⟩ := rn_take hk r h3 (by omega) (by omega) (allB_snoc hc ha h2)
    rw [show i + 1 - (c + 1) = i - c from by omega] at ih1 ih2
    rw [rn]
    exact ⟨ih1, ih2⟩
theorem take_some {L : List Bool} {k : Nat} (hk : 1 ≤ k) {x : Nat × Nat} (h : takeL k (runsL L) = some x) : winP L k x.1 ∧ ∀ a, a < x.1 → ¬ winP L k a := by
  obtain ⟨h1, h2⟩ := (rn_take hk L (i := 0) (c := 0) (L := L) rfl (Nat.le_refl _) (Nat.zero_le _) (allB_zero _ _ _)).1 x h
  exact ⟨h1, fun a => h2 a (Nat.zero_le _)⟩
theorem take_none {L : List Bool} {k : Nat} (hk : 1 ≤ k) (h : takeL k (runsL L) = none) (a : Nat) : ¬ winP L k a :=
  (rn_take hk L (i := 0) (c := 0) (L := L) rfl (Nat.le_refl _) (Nat.zero_le _) (allB_zero _ _ _)).2 h a (Nat.zero_le _)
theorem win_turn {L : List Bool} {k a : Nat} (hk : 1 ≤ k) (h : winP L k a) : turnB L (a : Int) (k : Int) false = true := turnB_iff.2 ⟨by omega, by omega, by have := h.1; omega, by simpa using h.2⟩
/-- What is put and put back is as it was. -/
theorem putB_back {L : List Bool} {a k : Nat} {t : Bool} (h : a + k ≤ L.length) (ha : allB L a k t) (u : Bool) : putB (putB L a k u) a k t = L := by
  apply List.ext_getElem?
  intro i
  rw [putB_get t (by rw [putB_len _ h]; exact h), putB_get u h]
  by_cases h1 : a ≤ i ∧ i < a + k
  · rw [if_pos h1]
    have := ha (i - a) (by omega)
    rw [show a + (i - a) = i from by omega] at this
    exact this.symm
  · rw [if_neg h1, if_neg h1]
theorem putB_all {L : List Bool} {a k : Nat} (t : Bool) (h : a + k ≤ L.length) : allB (putB L a k t) a k t := by
  intro i hi
  rw [putB_get t h, if_pos (by omega)]
end Go.Proofs.Ytpmjkgpmidejoaa.Al
/-
  New, Free and Take by their contracts.
-/
namespace Go.Proofs.Ytpmjkgpmidejoaa.Al
open Go.RowKit Go.Shelf

attribute [local go_sem] Oper.semAt_some

theorem box_cell {W : World} {b : Nat} {v : Value} {t : Nat} (h : W.heap[b]? = some (.cells #[v] t (0, 0))) : W.cell? ⟨b, 0, none⟩ = some v := cell_blk h 0
theorem box_free {W : World} {b : Nat} {v : Value} {t : Nat} (h : W.heap[b]? = some (.cells #[v] t (0, 0))) : W.frozen? ⟨b, 0, none⟩ = false := by simp [World.frozen?, h]
theorem box_set {W : World} {b : Nat} {v : Value} {t : Nat} (h : W.heap[b]? = some (.cells #[v] t (0, 0))) (u : Value) : (W.setCell ⟨b, 0, none⟩ u).heap[b]? = some (.cells #[u] t (0, 0)) := by
  have hlt := (Array.getElem?_eq_some_iff.1 h).1
  have he := (Array.getElem?_eq_some_iff.1 h).2
  show (W.heap.modify b _)[b]? = _
  rw [Array.getElem?_eq_getElem (by rw [Array.size_modify]; exact hlt), Array.getElem_modify_self, he]
  rfl
theorem box_other {W : World} {b b' : Nat} {o : Obj} (h : W.heap[b]? = some o) (hne : b ≠ b') (u : Value) : (W.setCell ⟨b', 0, none⟩ u).heap[b]? = some o := (Below.heap_setCell W ⟨b', 0, none⟩ u b hne).trans h
theorem Stp.set {M : Nat → Prop} {W : World} (h : ∀ k, M k → k < W.heap.size) (a : Addr) (v : Value) (ha : M a.block) : Stp M W M (W.setCell a v) :=
  ⟨Kep.set W v (fun h2 => h2 ha), fun _ _ h => h, fun k hk => by have := h k hk; simpa [World.setCell] using this⟩

/-- The marks of loops that are over are taken away at the function's end. -/
theorem leaves_marks {P : Program} {n : Nat} {fn : Func} {tmps : Array Value} {R : Ending → World → Prop} : ∀ (Ds : List Nat) (W : World), Ds.Nodup → (∀ D ∈ Ds, W.heap[D]? = some (.deferred (some []))) →
    (∀ W', Kep (fun k => k ∉ Ds) W W' → LeavesIn Fence.wide n P fn tmps R [] .returning W') → LeavesInM Fence.wide n P fn tmps R (Ds.map fun D => { target := .collected D, args := #[] }) .returning W
  | [], W, _, _, h => h W (Kep.refl _ W)
  | D :: Ds, W, hn, hD, h => by
    obtain ⟨h1, h2⟩ := List.nodup_cons.1 hn
    refine ⟨by simp, .inl ⟨D, W.putObj D (.deferred none), rfl, run_takeDeferred (hD D List.mem_cons_self), ?_⟩⟩
    refine leaves_marks Ds _ h2 (fun E hE => (World.putObj_heap_other (fun e => h1 (by rw [← e]; exact hE))).trans (hD E (List.mem_cons_of_mem _ hE))) (fun W' hk => h W' ?_)
    exact (Kep.put (K := fun k => k ∉ D :: Ds) W (.deferred none) (by simp)).trans (hk.mono fun k _ h3 h4 => h3 (List.mem_cons_of_mem _ h4))
theorem heap_alloc_new (w : World) (o : Obj) : (w.alloc o).heap[w.heap.size]? = some o := World.alloc_heap_new w o

theorem wpList_build_is {P : Program} {ops : Array Oper} {rest : List Oper} {o : Oper} {a : Act} {w : World} {Q : Exit → Act → World → Prop} (hg : o.guard = none) (t : TypeId) (parts : Array (Nat × Operand)) (ho : o.op = .build t parts)
    (cells : Array Value) (hf : P.built t (parts.map fun (i, x) => (i, a.eval x)).toList = some cells)
    (h : wpList P ops Q rest (a.put o.dst (.agg cells)) w) : wpList P ops Q (o :: rest) a w := by
  refine wpList_build hg t parts ho (by rw [hf]; rfl) ?_
  rw [hf]
  exact h

theorem new_ok (w : World) (n : Nat) (hn : n ≤ 4096) :
    Calls Try.prog 36 #[.int .i64 (n : Int)] w fun e w' => e = .returned (.tuple #[.pointer (some ⟨w.heap.size, 0, none⟩), .int .i64 0]) ∧ Spc w' w.heap.size (List.replicate n false) ∧ Below w.heap.size w w' := by
  have t1 : ¬ (n : Int) < 0 := by omega
  have t2 : ¬ (4096 : Int) < (n : Int) := by omega
  go_enter Try.func36, Try.ntmps36
  go_wp2_with (refine wpList_build_is rfl 129 _ rfl (scells n fun _ => 0).toArray (by kernel_rfl) ?_)
  go_ret2
  refine ⟨rfl, ⟨by simpa using hn, fun _ => 0, fun _ => by dsimp only; omega, ?_, fun u h => by simp⟩, (Below.refl _ w).alloc (Nat.le_refl _) _⟩
  rw [heap_alloc_new, List.length_replicate]
theorem new_bad (w : World) (n : Int) (hn : n < 0 ∨ 4096 < n) :
    Calls Try.prog 36 #[.int .i64 n] w fun e w' => e = .returned (.tuple #[.pointer none, .int .i64 1]) ∧ w = w' := by
  by_cases t1 : n < 0
  · clear hn
    go_enter Try.func36, Try.ntmps36
    go_wp2
    go_ret2
    exact ⟨rfl, rfl⟩
  · have t2 : (4096 : Int) < n := by omega
    clear hn
    go_enter Try.func36, Try.ntmps36
    go_wp2
    go_ret2
    exact ⟨rfl, rfl⟩

set_option maxRecDepth 100000 in
set_option maxHeartbeats 4000000 in
theorem free_any (w : World) (b : Nat) (L : List Bool) (h : Spc w b L) :
    Calls Try.prog 58 #[.pointer (some ⟨b, 0, none⟩)] w fun e w' => e = .returned (.int .i64 ((L.count false : Nat) : Int)) ∧ Below w.heap.size w w' := by
  refine (callsIn_wide (n := 0)).1 ?_
  refine callsIn_of_wp_marks Try.func58 rfl trivial ?_ rfl
  simp only [Try.ntmps58, List.size_toArray, List.length_cons, List.length_nil, Nat.reduceAdd, Nat.reduceSub, Array.replicate_succ, Array.replicate_zero, List.push_toArray, List.append_toArray, List.nil_append, List.cons_append]
  refine wpIn_wide.2 ?_
  go_wp2_with (go_at_call 70; refine Calls.mono (runs_any b _) ?_; rintro e w5 ⟨rfl, rfl⟩)
  obtain ⟨W, hW⟩ : ∃ W, W = w.alloc (.cells #[.int .i64 0] 3) := ⟨_, rfl⟩
  have hz : W.heap.size = w.heap.size + 1 := by rw [hW]; simp
  rw [← hW, ← hz]
  have hbW : Below w.heap.size w W := by rw [hW]; exact (Below.refl _ w).alloc (Nat.le_refl _) _
  have hf0 : W.heap[w.heap.size]? = some (.cells #[.int .i64 0] 3 (0, 0)) := by rw [hW]; exact heap_alloc_new w _
  obtain ⟨W1, hW1⟩ : ∃ W1, W1 = W.alloc (.cells #[.pointer (some ⟨b, 0, none⟩)] 85) := ⟨_, rfl⟩
  have hbW1 : Below w.heap.size w W1 := by rw [hW1]; exact hbW.alloc hbW.size _
  have hz1 : W1.heap.size = w.heap.size + 2 := by rw [hW1]; simp [hz]
  have hf1 : W1.heap[w.heap.size]? = some (.cells #[.int .i64 0] 3 (0, 0)) := by rw [hW1]; exact (Below.heap_alloc _ _ _ (by omega)).trans hf0
  have hp1 : W1.cell? ⟨W.heap.size, 0, none⟩ = some (.pointer (some ⟨b, 0, none⟩)) := by rw [hW1]; exact box_cell (heap_alloc_new W _)
  rw [← hW1]
  have hsq := runs_seq b W.heap.size L W1 (h.below hbW1) hp1
  have hlt := h.lt
  have HLN : Hid (L.count false ≤ 4096) := Nat.le_trans (count_le L) h.len
  clear hW hW1 hp1 hf0
  rename_i K hK
  refine wpIn_wide.1 (range_law (n := 0) (gf := 85) (lb := #[.pointer (some ⟨W.heap.size, 0, none⟩)]) rfl (enters_of Try.func85 (by kernel_rfl) rfl) hsq ?lt (fun _ => rfl)
    (fun pre M W' => M = (fun q => q = w.heap.size) ∧ W'.heap[w.heap.size]? = some (.cells #[.int .i64 ((sumR pre : Nat) : Int)] 3 (0, 0)) ∧ Below w.heap.size w W') (fun _ _ _ _ => False)
    (fun pre M W2 W3 h2 hk => ⟨h2.1, (hk.keep _ (Array.getElem?_eq_some_iff.1 h2.2.1).1 (.inl (by omega))).trans h2.2.1, h2.2.2.trans ((hk.mono (K' := fun q => q < w.heap.size) fun q _ h3 => .inl (by omega)).below h2.2.2.size)⟩) (fun _ _ _ _ _ h2 _ => h2)
    (fun q => q = w.heap.size) (fun _ => False) ?own (fun _ h => h.elim) ⟨rfl, hf1, hbW1⟩ ?act ?assign ?body ?done ?stop)
  case assign =>
    intro m l' x W2 K hK
    dsimp only [encR]
    gi_wp2
    exact hK
  case lt => rintro q (rfl | rfl) <;> omega
  case own =>
    rintro q rfl
    exact ⟨by rintro (h2 | h2) <;> omega, by omega⟩
  case stop =>
    rintro D c pre M1 W2 hD hMD hpre h2 hdef
    exact h2.elim
  case body =>
    rintro m l' pre ⟨x, y⟩ M1 W2 ⟨rfl, h2, h3⟩ hpre
    have hle := sum_pre hpre
    rw [sumR_snoc, runs_sum] at hle
    have hle2 := HLN.out
    have i1 := box_cell h2
    have i2 := box_free h2
    have i3 := (Array.getElem?_eq_some_iff.1 h2).1
    obtain ⟨S, hS⟩ : ∃ S, S = sumR pre := ⟨_, rfl⟩
    rw [← hS] at i1
    have hb1 : S ≤ 4096 := by dsimp only at hle; omega
    have hb2 : y ≤ 4096 := by dsimp only at hle; omega
    have HH : Hid (S = sumR pre ∧ W2.heap[w.heap.size]? = some (.cells #[.int .i64 ((sumR pre : Nat) : Int)] 3 (0, 0)) ∧ Below w.heap.size w W2) := ⟨hS, h2, h3⟩
    clear hle hle2 hS h2 h3 hpre
    gi_wp2
    refine ⟨_, Stp.set (by rintro k rfl; exact i3) ⟨w.heap.size, 0, none⟩ _ rfl, rfl, ?_, HH.out.2.2.setCell (p := ⟨w.heap.size, 0, none⟩) (Nat.le_refl _) _⟩
    rw [box_set HH.out.2.1, sumR_snoc, ← HH.out.1]
    rfl
  case done =>
    rintro D M1 W2 hD hMD ⟨rfl, h2, h3⟩ hdef
    rw [runs_sum] at h2
    have i1 := box_cell h2
    refine hK _ _ ?_
    go_wp2
    refine leaves_marks [D] W2 (by simp) (by simpa using hdef) (fun W' hk => ⟨_, results_tmp rfl _ _ _, rfl, ?_⟩)
    exact h3.trans ((hk.mono (K' := fun q => q < w.heap.size) fun q _ h4 h5 => by simp at h5; omega).below h3.size)
end Go.Proofs.Ytpmjkgpmidejoaa.Al

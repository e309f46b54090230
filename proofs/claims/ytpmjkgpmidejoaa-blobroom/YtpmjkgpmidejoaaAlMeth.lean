/-
  New, Free and Take by their contracts.
-/
import Derived.Test.YtpmjkgpmidejoaaAlRunM
import Derived.Laws.Rows
import Derived.Laws.Build
namespace Go.Proofs.Ytpmjkgpmidejoaa.Al
open Go.RowKit Go.Shelf

attribute [local go_sem] Oper.semAt_some

theorem box_cell {W : World} {b : Nat} {v : Value} {t : Nat} (h : W.heap[b]? = some (.cells #[v] t (0, 0))) : W.cell? ⟨b, 0, none⟩ = some v := cell_blk h 0
theorem box_free {W : World} {b : Nat} {v : Value} {t : Nat} (h : W.heap[b]? = some (.cells #[v] t (0, 0))) : W.frozen? ⟨b, 0, none⟩ = false := by simp [World.frozen?, h]
theorem box_set {W : World} {b : Nat} {v : Value} {t : Nat} (h : W.heap[b]? = some (.cells #[v] t (0, 0))) (u : Value) : (W.setCell ⟨b, 0, none⟩ u).heap[b]? = some (.cells #[u] t (0, 0)) := by
  have hlt := (Array.getElem?_eq_some_iff.1 h).1
  have he := (Array.getElem?_eq_some_iff.1 h).2
  show (W.heap.modify b _)[b]? = _
  rw [Array.getElem?_eq_getElem (by rw [Array.size_modify]; exact hlt), Array.getElem_modify_self, he]
  rfl
theorem box_other {W : World} {b b' : Nat} {o : Obj} (h : W.heap[b]? = some o) (hne : b ≠ b') (u : Value) : (W.setCell ⟨b', 0, none⟩ u).heap[b]? = some o := (Below.heap_setCell W ⟨b', 0, none⟩ u b hne).trans h
theorem Stp.set {M : Nat → Prop} {W : World} (h : ∀ k, M k → k < W.heap.size) (a : Addr) (v : Value) (ha : M a.block) : Stp M W M (W.setCell a v) :=
  ⟨Kep.set W v (fun h2 => h2 ha), fun _ _ h => h, fun k hk => by have := h k hk; simpa [World.setCell] using this⟩

/-- The marks of loops that are over are taken away at the function's end. -/
theorem leaves_marks {P : Program} {n : Nat} {fn : Func} {tmps : Array Value} {R : Ending → World → Prop} : ∀ (Ds : List Nat) (W : World), Ds.Nodup → (∀ D ∈ Ds, W.heap[D]? = some (.deferred (some []))) →
    (∀ W', Kep (fun k => k ∉ Ds) W W' → LeavesIn Fence.wide n P fn tmps R [] .returning W') → LeavesInM Fence.wide n P fn tmps R (Ds.map fun D => { target := .collected D, args := #[] }) .returning W
  | [], W, _, _, h => h W (Kep.refl _ W)
  | D :: Ds, W, hn, hD, h => by
    obtain ⟨h1, h2⟩ := List.nodup_cons.1 hn
    refine ⟨by simp, .inl ⟨D, W.putObj D (.deferred none), rfl, run_takeDeferred (hD D List.mem_cons_self), ?_⟩⟩
    refine leaves_marks Ds _ h2 (fun E hE => (World.putObj_heap_other (fun e => h1 (by rw [← e]; exact hE))).trans (hD E (List.mem_cons_of_mem _ hE))) (fun W' hk => h W' ?_)
    exact (Kep.put (K := fun k => k ∉ D :: Ds) W (.deferred none) (by simp)).trans (hk.mono fun k _ h3 h4 => h3 (List.mem_cons_of_mem _ h4))
theorem heap_alloc_new (w : World) (o : Obj) : (w.alloc o).heap[w.heap.size]? = some o := World.alloc_heap_new w o

theorem wpList_build_is {P : Program} {ops : Array Oper} {rest : List Oper} {o : Oper} {a : Act} {w : World} {Q : Exit → Act → World → Prop} (hg : o.guard = none) (t : TypeId) (parts : Array (Nat × Operand)) (ho : o.op = .build t parts)
    (cells : Array Value) (hf : P.built t (parts.map fun (i, x) => (i, a.eval x)).toList = some cells)
    (h : wpList P ops Q rest (a.put o.dst (.agg cells)) w) : wpList P ops Q (o :: rest) a w := by
  refine wpList_build hg t parts ho (by rw [hf]; rfl) ?_
  rw [hf]
  exact h

theorem new_ok (w : World) (n : Nat) (hn : n ≤ 4096) :
    Calls Try.prog 36 #[.int .i64 (n : Int)] w fun e w' => e = .returned (.tuple #[.pointer (some ⟨w.heap.size, 0, none⟩), .int .i64 0]) ∧ Spc w' w.heap.size (List.replicate n false) ∧ Below w.heap.size w w' := by
  have t1 : ¬ (n : Int) < 0 := by omega
  have t2 : ¬ (4096 : Int) < (n : Int) := by omega
  go_enter Try.func36, Try.ntmps36
  go_wp2_with (refine wpList_build_is rfl 129 _ rfl (scells n fun _ => 0).toArray (by kernel_rfl) ?_)
  go_ret2
  refine ⟨rfl, ⟨by simpa using hn, fun _ => 0, fun _ => by dsimp only; omega, ?_, fun u h => by simp⟩, (Below.refl _ w).alloc (Nat.le_refl _) _⟩
  rw [heap_alloc_new, List.length_replicate]
theorem new_bad (w : World) (n : Int) (hn : n < 0 ∨ 4096 < n) :
    Calls Try.prog 36 #[.int .i64 n] w fun e w' => e = .returned (.tuple #[.pointer none, .int .i64 1]) ∧ w = w' := by
  by_cases t1 : n < 0
  · clear hn
    go_enter Try.func36, Try.ntmps36
    go_wp2
    go_ret2
    exact ⟨rfl, rfl⟩
  · have t2 : (4096 : Int) < n := by omega
    clear hn
    go_enter Try.func36, Try.ntmps36
    go_wp2
    go_ret2
    exact ⟨rfl, rfl⟩

set_option maxRecDepth 100000 in
set_option maxHeartbeats 4000000 in
theorem free_any (w : World) (b : Nat) (L : List Bool) (h : Spc w b L) :
    Calls Try.prog 58 #[.pointer (some ⟨b, 0, none⟩)] w fun e w' => e = .returned (.int .i64 ((L.count false : Nat) : Int)) ∧ Below w.heap.size w w' := by
  refine (callsIn_wide (n := 0)).1 ?_
  refine callsIn_of_wp_marks Try.func58 rfl trivial ?_ rfl
  simp only [Try.ntmps58, List.size_toArray, List.length_cons, List.length_nil, Nat.reduceAdd, Nat.reduceSub, Array.replicate_succ, Array.replicate_zero, List.push_toArray, List.append_toArray, List.nil_append, List.cons_append]
  refine wpIn_wide.2 ?_
  go_wp2_with (go_at_call 70; refine Calls.mono (runs_any b _) ?_; rintro e w5 ⟨rfl, rfl⟩)
  obtain ⟨W, hW⟩ : ∃ W, W = w.alloc (.cells #[.int .i64 0] 3) := ⟨_, rfl⟩
  have hz : W.heap.size = w.heap.size + 1 := by rw [hW]; simp
  rw [← hW, ← hz]
  have hbW : Below w.heap.size w W := by rw [hW]; exact (Below.refl _ w).alloc (Nat.le_refl _) _
  have hf0 : W.heap[w.heap.size]? = some (.cells #[.int .i64 0] 3 (0, 0)) := by rw [hW]; exact heap_alloc_new w _
  obtain ⟨W1, hW1⟩ : ∃ W1, W1 = W.alloc (.cells #[.pointer (some ⟨b, 0, none⟩)] 85) := ⟨_, rfl⟩
  have hbW1 : Below w.heap.size w W1 := by rw [hW1]; exact hbW.alloc hbW.size _
  have hz1 : W1.heap.size = w.heap.size + 2 := by rw [hW1]; simp [hz]
  have hf1 : W1.heap[w.heap.size]? = some (.cells #[.int .i64 0] 3 (0, 0)) := by rw [hW1]; exact (Below.heap_alloc _ _ _ (by omega)).trans hf0
  have hp1 : W1.cell? ⟨W.heap.size, 0, none⟩ = some (.pointer (some ⟨b, 0, none⟩)) := by rw [hW1]; exact box_cell (heap_alloc_new W _)
  rw [← hW1]
  have hsq := runs_seq b W.heap.size L W1 (h.below hbW1) hp1
  have hlt := h.lt
  have HLN : Hid (L.count false ≤ 4096) := Nat.le_trans (count_le L) h.len
  clear hW hW1 hp1 hf0
  rename_i K hK
  refine wpIn_wide.1 (range_law (n := 0) (gf := 85) (lb := #[.pointer (some ⟨W.heap.size, 0, none⟩)]) rfl (enters_of Try.func85 (by kernel_rfl) rfl) hsq ?lt (fun _ => rfl)
    (fun pre M W' => M = (fun q => q = w.heap.size) ∧ W'.heap[w.heap.size]? = some (.cells #[.int .i64 ((sumR pre : Nat) : Int)] 3 (0, 0)) ∧ Below w.heap.size w W') (fun _ _ _ _ => False)
    (fun pre M W2 W3 h2 hk => ⟨h2.1, (hk.keep _ (Array.getElem?_eq_some_iff.1 h2.2.1).1 (.inl (by omega))).trans h2.2.1, h2.2.2.trans ((hk.mono (K' := fun q => q < w.heap.size) fun q _ h3 => .inl (by omega)).below h2.2.2.size)⟩) (fun _ _ _ _ _ h2 _ => h2)
    (fun q => q = w.heap.size) (fun _ => False) ?own (fun _ h => h.elim) ⟨rfl, hf1, hbW1⟩ ?act ?assign ?body ?done ?stop)
  case assign =>
    intro m l' x W2 K hK
    dsimp only [encR]
    gi_wp2
    exact hK
  case lt => rintro q (rfl | rfl) <;> omega
  case own =>
    rintro q rfl
    exact ⟨by rintro (h2 | h2) <;> omega, by omega⟩
  case stop =>
    rintro D c pre M1 W2 hD hMD hpre h2 hdef
    exact h2.elim
  case body =>
    rintro m l' pre ⟨x, y⟩ M1 W2 ⟨rfl, h2, h3⟩ hpre
    have hle := sum_pre hpre
    rw [sumR_snoc, runs_sum] at hle
    have hle2 := HLN.out
    have i1 := box_cell h2
    have i2 := box_free h2
    have i3 := (Array.getElem?_eq_some_iff.1 h2).1
    obtain ⟨S, hS⟩ : ∃ S, S = sumR pre := ⟨_, rfl⟩
    rw [← hS] at i1
    have hb1 : S ≤ 4096 := by dsimp only at hle; omega
    have hb2 : y ≤ 4096 := by dsimp only at hle; omega
    have HH : Hid (S = sumR pre ∧ W2.heap[w.heap.size]? = some (.cells #[.int .i64 ((sumR pre : Nat) : Int)] 3 (0, 0)) ∧ Below w.heap.size w W2) := ⟨hS, h2, h3⟩
    clear hle hle2 hS h2 h3 hpre
    gi_wp2
    refine ⟨_, Stp.set (by rintro k rfl; exact i3) ⟨w.heap.size, 0, none⟩ _ rfl, rfl, ?_, HH.out.2.2.setCell (p := ⟨w.heap.size, 0, none⟩) (Nat.le_refl _) _⟩
    rw [box_set HH.out.2.1, sumR_snoc, ← HH.out.1]
    rfl
  case done =>
    rintro D M1 W2 hD hMD ⟨rfl, h2, h3⟩ hdef
    rw [runs_sum] at h2
    have i1 := box_cell h2
    refine hK _ _ ?_
    go_wp2
    refine leaves_marks [D] W2 (by simp) (by simpa using hdef) (fun W' hk => ⟨_, results_tmp rfl _ _ _, rfl, ?_⟩)
    exact h3.trans ((hk.mono (K' := fun q => q < w.heap.size) fun q _ h4 h5 => by simp at h5; omega).below h3.size)
end Go.Proofs.Ytpmjkgpmidejoaa.Al

/-
  Runs by its contract: the free runs in a row of their own.
-/
import Derived.Test.YthbgbehmknnohaaTake
import Derived.Maps.AppendAt
import Derived.Lib.AppendZeros
namespace Go.Proofs.Ythbgbehmknnohaa
open Go.RowKit Go.Shelf

attribute [local go_sem] Oper.semAt_some

theorem info48 : (Try.prog.info? 48).map (fun i => (i.zero, i.size, i.bytes)) = some (some (.agg #[.int .i64 0, .int .i64 0]), 2, 16) := by kernel_rfl
theorem owns_lt {w : World} {base : Nat} {e : TypeId} {size : Nat} {v : Value} {n : Nat} {xs : List Value} (h : w.ownsRow base e size v n xs) : ∀ g, v.ownBlock = some g → base ≤ g ∧ g < w.heap.size := by
  obtain ⟨hl, ⟨rfl, h0⟩ | ⟨g, cap, cur, rfl, hb, hg, hr⟩⟩ := h
  · intro g hg; simp [Value.ownBlock] at hg
  · intro g' hg'
    simp only [Value.ownBlock, Option.some.injEq] at hg'
    subst hg'
    exact ⟨hb, (Array.getElem?_eq_some_iff.1 hg).1⟩
theorem own_slice {w : World} {B e s : Nat} {v : Value} {n : Nat} {xs : List Value} (h : w.ownsRow B e s v n xs) : ∃ a c, v = .slice a n c := by
  obtain ⟨_, ⟨rfl, rfl⟩ | ⟨g1, c1, u1, rfl, _⟩⟩ := h
  · exact ⟨none, 0, rfl⟩
  · exact ⟨_, _, rfl⟩
/-- 'append' to a row of one's own: whether the row is the same or new. -/
theorem append_own2 {P : Program} (w : World) (base : Nat) (t ty e : TypeId) (i : TypeInfo) (z : Value) (size bytes : Nat) (ht : P.underlying t = some (.slice e)) (hi : P.info? e = some i) (hz : i.zero = some z)
    (hsize : i.size = size) (hby : i.bytes = bytes) (hzs : z.cells.size = size) (hsz : 0 < size)
    (v : Value) (n : Nat) (xs : List Value) (hown : w.ownsRow base e size v n xs)
    (a : Addr) (m c : Nat) (news : List Value) (hl : news.length = m * size) (hnews : ∀ j u, news[j]? = some u → w.cell? (a.add j) = some u) (h1 : ∀ u ∈ news, u.oneCell' = true)
    (h63 : n + m ≤ maxLen) (hbytes : (n + m) * bytes ≤ 140737488355328) (hbase : base ≤ w.heap.size) :
    ∃ v' w', (Builtin.append_ #[t, t] ty #[v, .slice (some a) m c]).run P w = .ok v' w' ∧ w'.ownsRow base e size v' (n + m) (xs ++ news) ∧ w.grownBy w' v.ownBlock ∧
      (v'.ownBlock = v.ownBlock ∨ ∀ k, v'.ownBlock = some k → w.heap.size ≤ k) := by
  obtain ⟨v', w', hr, h2, h3, h4⟩ := run_append_own (P := P) w base t ty e i z size bytes ht hi hz hsize hby hzs hsz v n xs hown a m c news hl hnews h1 h63 hbytes hbase
  refine ⟨v', w', hr, h2, h3, ?_⟩
  subst hsize hby
  have hsmall : n + m ≤ 9223372036854775807 := by simp only [maxLen] at h63; omega
  rcases hown.2 with ⟨rfl, rfl⟩ | ⟨g, cap, cur, rfl, hbg, hg, hnc, hcm, hcs, htake⟩
  · by_cases hm : m = 0
    · left
      rw [h4.2 ⟨rfl, hm⟩]
    · right
      have hr2 := run_append_nil (P := P) w t ty e i z ht hi hz a m c news hl hnews (by omega) (by omega) (by have hb := hbytes; simp only [Nat.zero_add] at hb; omega)
      rw [hr] at hr2
      simp only [Result.ok.injEq] at hr2
      obtain ⟨rfl, _⟩ := hr2
      intro k hk
      simp [Value.ownBlock] at hk
      omega
  · by_cases hroom : n + m ≤ cap
    · left
      have hfit : n * i.size + news.length ≤ cur.size := by rw [hl, hcs, ← Nat.add_mul]; exact Nat.mul_le_mul_right _ hroom
      have hr2 := run_append_room (P := P) w t ty e i ht hi g n cap cur hg a m c news hl hnews h1 hroom hfit
      rw [hr] at hr2
      simp only [Result.ok.injEq] at hr2
      obtain ⟨rfl, _⟩ := hr2
      rfl
    · right
      have hr2 := run_append_grow (P := P) w t ty e i z ht hi hz ⟨g, 0, none⟩ n cap xs hown.1 (hown.cells (g := g) rfl) a m c news hl hnews (by omega) (by omega) (growslice_fits (by omega) hbytes)
      rw [hr] at hr2
      simp only [Result.ok.injEq] at hr2
      obtain ⟨rfl, _⟩ := hr2
      intro k hk
      simp [Value.ownBlock] at hk
      omega
theorem wpListIn_append_run {F : Fence} {n : Nat} {P : Program} {w : World} {ops : Array Oper} {rest : List Oper} {o : Oper} {a : Act} {Q : Exit → Act → World → Prop}
    (hg : o.guard = none) (s x : Operand) (t : TypeId) (hop : o.op = Op.call { callee := Callee.builtin Builtin.append, args := #[s, x], argTypes := #[t, t] })
    (vs vx : Value) (hs : a.eval s = vs) (hx : a.eval x = vx) (v' : Value) (w' : World) (hrun : ∀ ty, (Builtin.append_ #[t, t] ty #[vs, vx]).run P w = .ok v' w')
    (hK : wpListIn F n P ops Q rest (a.put o.dst v') w') : wpListIn F n P ops Q (o :: rest) a w := by
  refine wpListIn_plain hg fun K hK' => ?_
  unfold Oper.wpIn
  refine ⟨?_, ?_⟩
  · simp [Oper.about, hop, resolve, Target.leads, Sem.run_pure]
  · rw [Oper.semAt_plain F _ _ (by rw [hop]; intro c hc'; cases hc')]
    simp [execOp, hop, resolve, invoke, builtin, hs, hx, hrun, Result.andThen]
    exact hK' _ _ hK
theorem own_kep {w w' : World} {base e s n : Nat} {v : Value} {xs : List Value} (h : w.ownsRow base e s v n xs) (hk : ∀ g, v.ownBlock = some g → w'.heap[g]? = w.heap[g]?) : w'.ownsRow base e s v n xs := by
  refine ⟨h.1, ?_⟩
  rcases h.2 with h0 | ⟨g, cap, cur, rfl, hb, hg, hr⟩
  · exact .inl h0
  · exact .inr ⟨g, cap, cur, rfl, hb, (hk g rfl).trans hg, hr⟩

/-- The cells of runs. -/
def rcs (xs : List (Nat × Nat)) : List Value := xs.flatMap fun x => [.int .i64 (x.1 : Int), .int .i64 (x.2 : Int)]
theorem rcs_len (xs : List (Nat × Nat)) : (rcs xs).length = xs.length * 2 := by
  induction xs with
  | nil => rfl
  | cons p r ih => simp only [rcs, List.flatMap_cons, List.length_append, List.length_cons, List.length_nil] at ih ⊢; omega
theorem rcs_app (xs ys : List (Nat × Nat)) : rcs (xs ++ ys) = rcs xs ++ rcs ys := by simp [rcs]
theorem rcs_get : ∀ {xs : List (Nat × Nat)} {j : Nat} (h : j < xs.length), (rcs xs)[j * 2]? = some (.int .i64 (xs[j].1 : Int)) ∧ (rcs xs)[j * 2 + 1]? = some (.int .i64 (xs[j].2 : Int))
  | [], j, h => by simp at h
  | x :: r, 0, _ => ⟨rfl, rfl⟩
  | x :: r, j + 1, h => by
    have := rcs_get (xs := r) (j := j) (by simpa using h)
    rw [show rcs (x :: r) = .int .i64 (x.1 : Int) :: .int .i64 (x.2 : Int) :: rcs r from rfl, show (j + 1) * 2 = j * 2 + 1 + 1 from by omega]
    simpa using this
/-- The runs that have come, in a row of one's own behind a box. -/
structure CP (wr : World) (p : Nat) (pre : List (Nat × Nat)) (M : Nat → Prop) (W : World) (v : Value) : Prop where
  m : ∀ q, M q ↔ (q = p ∨ v.ownBlock = some q)
  box : W.heap[p]? = some (.cells #[v] 43 (0, 0))
  row : W.ownsRow (p + 1) 48 2 v pre.length (rcs pre)
  old : Below wr.heap.size wr W
theorem CP.kept {wr : World} {p : Nat} {pre : List (Nat × Nat)} {M : Nat → Prop} {W W' : World} {v : Value} (h : CP wr p pre M W v) {B : Nat} (hk : Kep (fun k => k < B ∨ M k) W W') (hp : p < B) (hB : wr.heap.size ≤ B) : CP wr p pre M W' v :=
  ⟨h.m, (hk.keep p (Array.getElem?_eq_some_iff.1 h.box).1 (.inl hp)).trans h.box, own_kep h.row (fun g hg => hk.keep g (owns_lt h.row g hg).2 (.inr ((h.m g).2 (.inr hg)))), h.old.trans ((hk.mono (K' := fun q => q < wr.heap.size) fun q _ hq => .inl (by omega)).below h.old.size)⟩
/-- One run more. -/
theorem CP.snoc {wr : World} {p : Nat} {pre : List (Nat × Nat)} {M : Nat → Prop} {W : World} {v : Value} (h : CP wr p pre M W v) (hp : wr.heap.size ≤ p) (x y : Nat) (hn : pre.length < 1000000) :
    ∃ v' w', (∀ ty, (Builtin.append_ #[43, 43] ty #[v, .slice (some ⟨W.heap.size, 0, none⟩) 1 1]).run Try.prog (W.alloc (.cells #[.int .i64 (x : Int), .int .i64 (y : Int)] 48)) = .ok v' w') ∧ w'.heap[p]? = some (.cells #[v] 43 (0, 0)) ∧ (∃ a c, v' = .slice a (pre.length + 1) c) ∧
      ∃ M', Stp M W M' (w'.setCell ⟨p, 0, none⟩ v') ∧ CP wr p (pre ++ [(x, y)]) M' (w'.setCell ⟨p, 0, none⟩ v') v' := by
  obtain ⟨i0, hi, hz0, hz1, hz2⟩ := info_parts info48
  have hA : Kep (fun _ => True) W (W.alloc (.cells #[.int .i64 (x : Int), .int .i64 (y : Int)] 48)) := Kep.alloc _ W _
  have hpl := (Array.getElem?_eq_some_iff.1 h.box).1
  have hrow : (W.alloc (.cells #[.int .i64 (x : Int), .int .i64 (y : Int)] 48)).ownsRow (p + 1) 48 2 v pre.length (rcs pre) := own_kep h.row (fun g hg => hA.keep g (owns_lt h.row g hg).2 trivial)
  have hnews : ∀ j u, (rcs [(x, y)])[j]? = some u → (W.alloc (.cells #[.int .i64 (x : Int), .int .i64 (y : Int)] 48)).cell? ((⟨W.heap.size, 0, none⟩ : Addr).add j) = some u := by
    intro j u hj
    rw [Addr.add_lit, cell_blk (heap_alloc_new W _), Nat.zero_add]
    simpa [rcs] using hj
  obtain ⟨v', w', hr, h2, h3, h4⟩ := append_own2 (P := Try.prog) (W.alloc (.cells #[.int .i64 (x : Int), .int .i64 (y : Int)] 48)) (p + 1) 43 0 48 i0 _ 2 16 Try.underlying43 hi hz0 hz1 hz2 rfl (by decide) v pre.length (rcs pre) hrow ⟨W.heap.size, 0, none⟩ 1 1 (rcs [(x, y)]) rfl hnews (by simp [rcs, Value.oneCell']) (by unfold maxLen; omega) (by omega) (by simp; omega)
  have hpne : some p ≠ v.ownBlock := by
    intro e
    have := (owns_lt h.row p e.symm).1
    omega
  have hbx : w'.heap[p]? = some (.cells #[v] 43 (0, 0)) := (h3.block p (by simp; omega) hpne).trans ((hA.keep p hpl trivial).trans h.box)
  have hown := owns_lt h2
  obtain ⟨a', c', ev⟩ : ∃ a c, v' = .slice a (pre.length + 1) c := own_slice h2
  refine ⟨v', w', fun ty => hr, hbx, ⟨a', c', ev⟩, fun q => q = p ∨ v'.ownBlock = some q, ⟨⟨h3.os, h3.tape, h3.output, ?_, ?_⟩, ?_, ?_⟩, ⟨fun q => Iff.rfl, box_set hbx _, ?_, ?_⟩⟩
  · have := h3.size; simp [World.setCell] at this ⊢; omega
  · intro k hk hM
    have hkp : k ≠ p := fun e => hM ((h.m k).2 (.inl e))
    have hkv : some k ≠ v.ownBlock := fun e => hM ((h.m k).2 (.inr e.symm))
    rw [Below.heap_setCell _ _ _ _ hkp, h3.block k (by simp; omega) hkv]
    exact hA.keep k hk trivial
  · rintro k hk (rfl | hv)
    · exact (h.m k).2 (.inl rfl)
    · rcases h4 with h4 | h4
      · exact (h.m k).2 (.inr (by rw [← h4]; exact hv))
      · have := h4 k hv; simp at this; omega
  · rintro k (rfl | hv)
    · have := h3.size; simp [World.setCell] at this ⊢; omega
    · have := (hown k hv).2; simpa [World.setCell] using this
  · rw [List.length_append, rcs_app]
    refine own_kep h2 (fun g hg => Below.heap_setCell _ _ _ _ (fun e => ?_))
    have := (hown g hg).1
    simp only at e
    omega
  · have hb1 : Below wr.heap.size wr w' := ((h.old.alloc h.old.size _).grown h3 (by have := h.old.size; simp; omega) (fun k hk => by have := (owns_lt h.row k hk).1; omega))
    exact hb1.setCell (p := ⟨p, 0, none⟩) hp _

/-- Runs to be read. -/
def Rws (w : World) (B : Nat) (a : Option Addr) (xs : List (Nat × Nat)) : Prop := xs = [] ∨ ∃ g, a = some ⟨g, 0, none⟩ ∧ B ≤ g ∧ g < w.heap.size ∧ ∀ j (h : j < xs.length), w.cell? ⟨g, j * 2, none⟩ = some (.int .i64 (xs[j].1 : Int)) ∧ w.cell? ⟨g, j * 2 + 1, none⟩ = some (.int .i64 (xs[j].2 : Int))
theorem Rws.own {w : World} {B : Nat} {v : Value} {xs : List (Nat × Nat)} (h : w.ownsRow B 48 2 v xs.length (rcs xs)) : ∃ a c, v = .slice a xs.length c ∧ Rws w B a xs := by
  have h0 := h
  obtain ⟨hl, ⟨rfl, h1⟩ | ⟨g, cap, cur, rfl, hb, hg, hr⟩⟩ := h
  · refine ⟨none, 0, by rw [h1], .inl ?_⟩
    exact List.eq_nil_of_length_eq_zero h1
  · refine ⟨_, cap, rfl, .inr ⟨g, rfl, hb, (Array.getElem?_eq_some_iff.1 hg).1, fun j hj => ?_⟩⟩
    obtain ⟨e1, e2⟩ := rcs_get hj
    have q1 := h0.cells (g := g) rfl _ _ e1
    have q2 := h0.cells (g := g) rfl _ _ e2
    rw [Addr.add_lit, Nat.zero_add] at q1 q2
    exact ⟨q1, q2⟩
theorem Rws.below {w w' : World} {B : Nat} {a : Option Addr} {xs : List (Nat × Nat)} (h : Rws w B a xs) (hb : Below w.heap.size w w') : Rws w' B a xs := by
  rcases h with h0 | ⟨g, e, h1, h2, h3⟩
  · exact .inl h0
  · exact .inr ⟨g, e, h1, Nat.lt_of_lt_of_le h2 hb.size, fun j hj => ⟨(hb.cell (p := ⟨g, j * 2, none⟩) h2).trans (h3 j hj).1, (hb.cell (p := ⟨g, j * 2 + 1, none⟩) h2).trans (h3 j hj).2⟩⟩
theorem Rws.kept {w w' : World} {B b : Nat} {a : Option Addr} {xs : List (Nat × Nat)} (h : Rws w B a xs) (hk : Kep (fun q => q ≠ b) w w') (hb : b < B) : Rws w' B a xs := by
  rcases h with h0 | ⟨g, e, h1, h2, h3⟩
  · exact .inl h0
  · exact .inr ⟨g, e, h1, Nat.lt_of_lt_of_le h2 hk.size, fun j hj => ⟨hk.cell (by omega) (h3 j hj).1, hk.cell (by omega) (h3 j hj).2⟩⟩
theorem Rws.at {w : World} {B : Nat} {a : Option Addr} {xs : List (Nat × Nat)} (h : Rws w B a xs) {j : Nat} (hj : j < xs.length) : ∃ g, a = some ⟨g, 0, none⟩ ∧ ∀ i (h : i < xs.length), w.cell? ⟨g, i * 2, none⟩ = some (.int .i64 (xs[i].1 : Int)) ∧ w.cell? ⟨g, i * 2 + 1, none⟩ = some (.int .i64 (xs[i].2 : Int)) := by
  rcases h with h0 | ⟨g, e, h1, h2, h3⟩
  · subst h0; simp at hj
  · exact ⟨g, e, h3⟩

theorem runs_len (L : List Bool) : (runsL L).length ≤ L.length := by
  have h : ∀ xs : List (Nat × Nat), (∀ x ∈ xs, 1 ≤ x.2) → xs.length ≤ sumR xs := by
    intro xs
    induction xs with
    | nil => intro _; exact Nat.le_refl _
    | cons x r ih =>
      intro hx
      have h1 := hx x List.mem_cons_self
      have h2 := ih fun y hy => hx y (List.mem_cons_of_mem _ hy)
      simp only [sumR, List.map_cons, List.sum_cons, List.length_cons] at h2 ⊢
      omega
  have h2 := h (runsL L) fun x hx => (runs_mem hx).1
  rw [runs_sum] at h2
  exact Nat.le_trans h2 (count_le L)

set_option maxRecDepth 100000 in
set_option maxHeartbeats 4000000 in
theorem runsM_any (w : World) (b : Nat) (L : List Bool) (h : Spc w b L) :
    Calls Try.prog 20 #[.pointer (some ⟨b, 0, none⟩)] w fun e w' => ∃ a c, e = .returned (.slice a (runsL L).length c) ∧ Rws w' w.heap.size a (runsL L) ∧ Below w.heap.size w w' := by
  refine (callsIn_wide (n := 0)).1 ?_
  refine callsIn_of_wp_marks Try.func20 rfl trivial ?_ rfl
  simp only [Try.ntmps20, List.size_toArray, List.length_cons, List.length_nil, Nat.reduceAdd, Nat.reduceSub, Array.replicate_succ, Array.replicate_zero, List.push_toArray, List.append_toArray, List.nil_append, List.cons_append]
  refine wpIn_wide.2 ?_
  go_wp2_with (go_at_call 23; refine Calls.mono (runs_any b _) ?_; rintro e w5 ⟨rfl, rfl⟩)
  obtain ⟨W, hW⟩ : ∃ W, W = w.alloc (.cells #[.slice none 0 0] 43) := ⟨_, rfl⟩
  have hz : W.heap.size = w.heap.size + 1 := by rw [hW]; simp
  rw [← hW, ← hz]
  have hbW : Below w.heap.size w W := by rw [hW]; exact (Below.refl _ w).alloc (Nat.le_refl _) _
  have hf0 : W.heap[w.heap.size]? = some (.cells #[.slice none 0 0] 43 (0, 0)) := by rw [hW]; exact heap_alloc_new w _
  obtain ⟨W1, hW1⟩ : ∃ W1, W1 = W.alloc (.cells #[.pointer (some ⟨b, 0, none⟩)] 23) := ⟨_, rfl⟩
  have hbW1 : Below w.heap.size w W1 := by rw [hW1]; exact hbW.alloc hbW.size _
  have hz1 : W1.heap.size = w.heap.size + 2 := by rw [hW1]; simp [hz]
  have hf1 : W1.heap[w.heap.size]? = some (.cells #[.slice none 0 0] 43 (0, 0)) := by rw [hW1]; exact (Below.heap_alloc _ _ _ (by omega)).trans hf0
  have hp1 : W1.cell? ⟨W.heap.size, 0, none⟩ = some (.pointer (some ⟨b, 0, none⟩)) := by rw [hW1]; exact box_cell (heap_alloc_new W _)
  rw [← hW1]
  have hsq := runs_seq b W.heap.size L W1 (h.below hbW1) hp1
  have hlt := h.lt
  have HLN : Hid ((runsL L).length ≤ 4096) := Nat.le_trans (runs_len L) h.len
  clear hW hW1 hp1 hf0
  rename_i K hK
  refine wpIn_wide.1 (range_law (n := 0) (gf := 27) (lb := #[.pointer (some ⟨W.heap.size, 0, none⟩)]) rfl (enters_of Try.func27 (by kernel_rfl) rfl) hsq ?lt (fun _ => rfl)
    (fun pre M W' => ∃ v, CP w w.heap.size pre M W' v) (fun _ _ _ _ => False)
    (fun pre M W2 W3 h2 hk => by obtain ⟨v, h2⟩ := h2; exact ⟨v, h2.kept hk (by omega) (by omega)⟩) (fun _ _ _ _ _ h2 _ => h2)
    (fun q => q = w.heap.size) (fun _ => False) ?own (fun _ h => h.elim) ⟨.slice none 0 0, fun q => by simp [Value.ownBlock], hf1, World.ownsRow_nil _ _ _ _, hbW1⟩ ?act ?assign ?body ?done ?stop)
  case assign =>
    intro m l' x W2 K hK
    dsimp only [encR]
    gi_wp2
    exact hK
  case lt => rintro q (rfl | rfl) <;> omega
  case own =>
    rintro q rfl
    exact ⟨by rintro (h2 | h2) <;> omega, by omega⟩
  case stop =>
    rintro D c pre M1 W2 hD hMD hpre h2 hdef
    exact h2.elim
  case body =>
    rintro m l' pre ⟨x, y⟩ M1 W2 ⟨v, h2⟩ hpre
    have hle := hpre.length_le
    have hle2 := HLN.out
    obtain ⟨v', w', hr, hbx, ⟨a', c', rfl⟩, M', hs, hcp⟩ := h2.snoc (Nat.le_refl _) x y (by simp at hle; omega)
    have HE : Hid (Stp M1 W2 M' (w'.setCell ⟨w.heap.size, 0, none⟩ (.slice a' (pre.length + 1) c')) ∧ CP w w.heap.size (pre ++ [(x, y)]) M' (w'.setCell ⟨w.heap.size, 0, none⟩ (.slice a' (pre.length + 1) c')) (.slice a' (pre.length + 1) c')) := ⟨hs, hcp⟩
    have i1 := box_cell h2.box
    have i2 := box_cell hbx
    have i3 := box_free hbx
    clear hle hle2 hpre h2 hs hcp hbx
    gi_wp2_with (gi_at_builtin; refine wpListIn_append_run rfl (.tmp 10) (.tmp 14) 43 rfl _ _ rfl rfl _ _ hr ?_)
    exact ⟨M', HE.out.1, _, HE.out.2⟩
  case done =>
    rintro D M1 W2 hD hMD ⟨v, h2⟩ hdef
    obtain ⟨a', c', rfl, hrw⟩ := Rws.own h2.row
    have i1 := box_cell h2.box
    have HR : Hid (Rws W2 (w.heap.size + 1) a' (runsL L) ∧ Below w.heap.size w W2 ∧ ∀ g, a' = some ⟨g, 0, none⟩ → g ≠ D) := ⟨hrw, h2.old, fun g e e2 => hMD ((h2.m D).2 (.inr (by rw [e, ← e2]; rfl)))⟩
    clear h2 hrw hsq HLN
    refine hK _ _ ?_
    go_wp2
    refine leaves_marks [D] W2 (by simp) (by simpa using hdef) (fun W' hk => ⟨_, results_tmp rfl _ _ _, a', c', rfl, ?_, ?_⟩)
    · rcases HR.out.1 with h0 | ⟨g, e, q1, q2, q3⟩
      · exact .inl h0
      · have hgD := HR.out.2.2 g e
        exact .inr ⟨g, e, by omega, Nat.lt_of_lt_of_le q2 hk.size, fun j hj => ⟨hk.cell (by simpa using hgD) (q3 j hj).1, hk.cell (by simpa using hgD) (q3 j hj).2⟩⟩
    · exact HR.out.2.1.trans ((hk.mono (K' := fun q => q < w.heap.size) fun q _ h4 h5 => by simp at h5; omega).below HR.out.2.1.size)
end Go.Proofs.Ythbgbehmknnohaa

/-
  A row of changes that is turned about, and what its puts make: the same, whatever their order.
-/
import Derived.Test.YtpophalhmjchkaaTurn
import Derived.OwnWalkIn
namespace Go.Proofs.Ytpophalhmjchkaa
open Go.RowKit

/-- Ints that came in. -/
def Ins (w : World) (a : Option Addr) (l : List Int) : Prop := l = [] ∨ ∃ b off, a = some ⟨b, off, none⟩ ∧ b < w.heap.size ∧ ∀ j (h : j < l.length), w.cell? ⟨b, off + j, none⟩ = some (.int .i64 l[j])
theorem Ins.at {w : World} {a : Option Addr} {l : List Int} (h : Ins w a l) {j : Nat} (hj : j < l.length) : ∃ b off, a = some ⟨b, off, none⟩ ∧ ∀ w', Below w.heap.size w w' → w'.cell? ⟨b, off + j, none⟩ = some (.int .i64 l[j]) := by
  rcases h with rfl | ⟨b, off, rfl, hb, hc⟩
  · simp at hj
  · exact ⟨b, off, rfl, fun w' hw => (hw.cell (p := ⟨b, off + j, none⟩) hb).trans (hc j hj)⟩

/-- A pair that is not there yet is put in. -/
theorem put_perm {k v : ByteArray} : ∀ {L : List KV}, (∀ p ∈ L, p.1 ≠ k) → (putL k v L).Perm ((k, v) :: L)
  | [], _ => List.Perm.refl _
  | p :: L, h => by
    rw [putL]
    split
    · exact (List.Perm.cons p (put_perm fun q hq => h q (List.mem_cons_of_mem _ hq))).trans (List.Perm.swap _ _ _)
    · split
      · exact List.Perm.refl _
      · rename_i h1 h2
        rcases klt_tri p.1 k with h3 | h3 | h3
        · exact absurd h3 h1
        · exact absurd h3 (h p List.mem_cons_self)
        · exact absurd h3 h2
def kvs (ops : List OpT) : List KV := ops.map fun o => (o.1, o.2.1)
theorem PL_perm {ops : List OpT} (hd : (ops.map (·.1)).Nodup) : ∀ j, j ≤ ops.length → (PL ops j).Perm (kvs (ops.take j))
  | 0, _ => by simp [PL, kvs]
  | j + 1, h => by
    have ih := PL_perm hd j (by omega)
    rw [PL_succ (by omega), List.take_succ_eq_append_getElem (by omega)]
    have hnot : ∀ p ∈ PL ops j, p.1 ≠ ops[j].1 := by
      intro p hp he
      have hp2 := ih.mem_iff.1 hp
      simp only [kvs, List.mem_map] at hp2
      obtain ⟨o, ho, rfl⟩ := hp2
      obtain ⟨i, hi, rfl⟩ := List.getElem_of_mem ho
      rw [List.length_take] at hi
      rw [List.getElem_take] at he
      have h1 := List.pairwise_iff_getElem.1 hd i j (by simp; omega) (by simp; omega) (by omega)
      simp only [List.getElem_map] at h1
      exact h1 he
    refine (put_perm hnot).trans ?_
    rw [kvs, List.map_append]
    refine (List.Perm.cons _ ih).trans ?_
    simpa [kvs] using (List.perm_append_singleton (ops[j].1, ops[j].2.1) (kvs (ops.take j))).symm
/-- Sorted lists with the same pairs are the same. -/
theorem srt_eq : ∀ {A B : List KV}, Srt A → Srt B → A.Perm B → A = B
  | [], B, _, _, h => (List.nil_perm.1 h).symm
  | a :: A, [], _, _, h => absurd h.length_eq (by simp)
  | a :: A, b :: B, hA, hB, h => by
    obtain ⟨a1, a2⟩ := List.pairwise_cons.1 hA
    obtain ⟨b1, b2⟩ := List.pairwise_cons.1 hB
    have hab : a = b := by
      rcases List.mem_cons.1 (h.mem_iff.1 List.mem_cons_self) with e | e
      · exact e
      · rcases List.mem_cons.1 (h.mem_iff.2 List.mem_cons_self) with e2 | e2
        · exact e2.symm
        · exact absurd (a1 b e2) (klt_asymm (b1 a e))
    subst hab
    rw [srt_eq a2 b2 ((List.perm_cons a).1 h)]
theorem PL_alike {ops M : List OpT} (hd : (ops.map (·.1)).Nodup) (hp : M.Perm ops) : PL M M.length = PL ops ops.length := by
  have hdM : (M.map (·.1)).Nodup := (hp.map (·.1)).nodup_iff.2 hd
  refine srt_eq (PL_srt M _ (Nat.le_refl _)) (PL_srt ops _ (Nat.le_refl _)) ?_
  have h1 := PL_perm hdM M.length (Nat.le_refl _)
  have h2 := PL_perm hd ops.length (Nat.le_refl _)
  rw [List.take_length] at h1 h2
  exact h1.trans ((hp.map _).trans h2.symm)
theorem PL_full {ops : List OpT} (hd : (ops.map (·.1)).Nodup) : (PL ops ops.length).length = ops.length := by
  have h2 := (PL_perm hd ops.length (Nat.le_refl _)).length_eq
  rw [h2, List.take_length]
  simp [kvs]

/-- Two items change their places. -/
def swp (M : List OpT) (i k : Nat) : List OpT := (M.set i (M.getD k default)).set k (M.getD i default)
theorem swp_len (M : List OpT) (i k : Nat) : (swp M i k).length = M.length := by simp [swp]
theorem set_perm {M : List OpT} {i : Nat} (hi : i < M.length) (x : OpT) : (M[i] :: M.set i x).Perm (x :: M) := by
  induction M generalizing i with
  | nil => simp at hi
  | cons a M ih =>
    cases i with
    | zero => exact List.Perm.swap _ _ _
    | succ i =>
      simp only [List.getElem_cons_succ, List.set_cons_succ]
      have := ih (i := i) (by simpa using hi)
      exact (List.Perm.swap _ _ _).trans ((List.Perm.cons a this).trans (List.Perm.swap _ _ _))
theorem swp_perm {M : List OpT} {i k : Nat} (hi : i < M.length) (hk : k < M.length) : (swp M i k).Perm M := by
  rw [swp, List.getD_eq_getElem?_getD, List.getElem?_eq_getElem hk, List.getD_eq_getElem?_getD, List.getElem?_eq_getElem hi]
  simp only [Option.getD_some]
  have hk' : k < (M.set i M[k]).length := by simpa using hk
  have h1 := set_perm hk' M[i]
  have h2 := set_perm hi M[k]
  by_cases hik : i = k
  · subst hik
    have e : M.set i M[i] = M := by simp
    rw [e, e]
  · have e : (M.set i M[k])[k] = M[k] := by rw [List.getElem_set_ne (by omega)]
    rw [e] at h1
    have h3 := h1.trans h2
    exact (List.perm_cons _).1 h3
/-- The row in memory. -/
structure MR (w : World) (g n : Nat) (M : List OpT) : Prop where
  blk : ∃ cur, w.heap[g]? = some (.cells cur 31 (0, 0))
  len : M.length = n
  cl : ∀ j (h : j < M.length), w.cell? ⟨g, j * 3, none⟩ = some (.string M[j].1) ∧ w.cell? ⟨g, j * 3 + 1, none⟩ = some (.string M[j].2.1) ∧ w.cell? ⟨g, j * 3 + 2, none⟩ = some (.bool M[j].2.2)
/-- Three cells are stored. -/
def st3 (W : World) (g o : Nat) (x : OpT) : World := ((W.setCell ⟨g, o, none⟩ (.string x.1)).setCell ⟨g, o + 1, none⟩ (.string x.2.1)).setCell ⟨g, o + 2, none⟩ (.bool x.2.2)
theorem set_cell_eq (W : World) (g o q : Nat) (v : Value) (h : (W.cell? ⟨g, o, none⟩).isSome = true) : (W.setCell ⟨g, o, none⟩ v).cell? ⟨g, q, none⟩ = if q = o then some v else W.cell? ⟨g, q, none⟩ := by
  split
  · rename_i e; subst e; exact World.cell?_setCell_same' _ _ _ h
  · rename_i e
    exact World.cell?_setCell_other _ _ _ _ (fun h2 => e (by have := congrArg Addr.off h2; simp only at this; omega))
theorem set_blk_some {W : World} {g o : Nat} {v : Value} (h : ∃ cur, W.heap[g]? = some (.cells cur 31 (0, 0))) : ∃ cur, (W.setCell ⟨g, o, none⟩ v).heap[g]? = some (.cells cur 31 (0, 0)) := by
  obtain ⟨cur, h⟩ := h
  have hlt := (Array.getElem?_eq_some_iff.1 h).1
  have he := (Array.getElem?_eq_some_iff.1 h).2
  refine ⟨cur.setIfInBounds o v, ?_⟩
  show (W.heap.modify g _)[g]? = _
  rw [Array.getElem?_eq_getElem (by rw [Array.size_modify]; exact hlt), Array.getElem_modify_self, he]
  rfl
theorem st3_blk {W : World} {g o : Nat} {x : OpT} (h : ∃ cur, W.heap[g]? = some (.cells cur 31 (0, 0))) : ∃ cur, (st3 W g o x).heap[g]? = some (.cells cur 31 (0, 0)) := set_blk_some (set_blk_some (set_blk_some h))
theorem st3_cell {W : World} {g o q : Nat} {x : OpT} (h0 : (W.cell? ⟨g, o, none⟩).isSome = true) (h1 : (W.cell? ⟨g, o + 1, none⟩).isSome = true) (h2 : (W.cell? ⟨g, o + 2, none⟩).isSome = true) :
    (st3 W g o x).cell? ⟨g, q, none⟩ = if q = o then some (.string x.1) else if q = o + 1 then some (.string x.2.1) else if q = o + 2 then some (.bool x.2.2) else W.cell? ⟨g, q, none⟩ := by
  have e1 : ((W.setCell ⟨g, o, none⟩ (.string x.1)).cell? ⟨g, o + 1, none⟩).isSome = true := by rw [set_cell_eq W g o (o + 1) _ h0, if_neg (by omega)]; exact h1
  have e2 : (((W.setCell ⟨g, o, none⟩ (.string x.1)).setCell ⟨g, o + 1, none⟩ (.string x.2.1)).cell? ⟨g, o + 2, none⟩).isSome = true := by
    rw [set_cell_eq _ g (o + 1) (o + 2) _ e1, if_neg (by omega), set_cell_eq W g o (o + 2) _ h0, if_neg (by omega)]; exact h2
  rw [st3, set_cell_eq _ g (o + 2) q _ e2, set_cell_eq _ g (o + 1) q _ e1, set_cell_eq W g o q _ h0]
  by_cases a : q = o
  · subst a; simp
  · by_cases b : q = o + 1
    · subst b; simp
    · by_cases c : q = o + 2
      · subst c; simp
      · simp [a, b, c]
theorem MR.set {w : World} {g n : Nat} {M : List OpT} (h : MR w g n M) {i : Nat} (hi : i < n) (x : OpT) : MR (st3 w g (i * 3) x) g n (M.set i x) := by
  have hi2 : i < M.length := by rw [h.len]; exact hi
  obtain ⟨c0, c1, c2⟩ := h.cl i hi2
  refine ⟨st3_blk h.blk, by rw [List.length_set]; exact h.len, fun j hj => ?_⟩
  rw [List.length_set] at hj
  have s := fun q => st3_cell (W := w) (g := g) (o := i * 3) (q := q) (x := x) (by rw [c0]; rfl) (by rw [c1]; rfl) (by rw [c2]; rfl)
  rw [s, s, s]
  by_cases e : j = i
  · subst e
    rw [List.getElem_set_self]
    simp
  · obtain ⟨d0, d1, d2⟩ := h.cl j hj
    rw [List.getElem_set_ne (by omega)]
    rw [if_neg (by omega), if_neg (by omega), if_neg (by omega), if_neg (by omega), if_neg (by omega), if_neg (by omega), if_neg (by omega), if_neg (by omega), if_neg (by omega)]
    exact ⟨d0, d1, d2⟩
theorem MR.swap {w : World} {g n : Nat} {M : List OpT} (h : MR w g n M) {i k : Nat} (hi : i < n) (hk : k < n) : MR (st3 (st3 w g (i * 3) (M.getD k default)) g (k * 3) (M.getD i default)) g n (swp M i k) := (h.set hi _).set hk _
theorem st3_kep {W : World} {g o : Nat} {x : OpT} {K : Nat → Prop} (hK : ¬ K g) : Kep K W (st3 W g o x) := ((Kep.set W _ hK).trans (Kep.set _ _ hK)).trans (Kep.set _ _ hK)
theorem MR.ops {w : World} {g n : Nat} {M : List OpT} (h : MR w g n M) : Ops w (some ⟨g, 0, none⟩) M := by
  obtain ⟨cur, hb⟩ := h.blk
  refine .inr ⟨g, 0, rfl, (Array.getElem?_eq_some_iff.1 hb).1, fun j hj => ?_⟩
  simpa using h.cl j hj
theorem MR.free {w : World} {g n : Nat} {M : List OpT} (h : MR w g n M) (o : Nat) : w.frozen? ⟨g, o, none⟩ = false := by
  obtain ⟨cur, hb⟩ := h.blk
  simp [World.frozen?, hb]
theorem MR.drew {w : World} {g n : Nat} {M : List OpT} (h : MR w g n M) : MR w.drew g n M := ⟨h.blk, h.len, h.cl⟩
/-- An empty tree lies where no such row lies. -/
theorem tr_empty {w w' : World} {g b : Nat} (h : Tr w b 0 (.leaf [])) (hg : ∃ cur, w.heap[g]? = some (.cells cur 31 (0, 0))) (hk : Kep (fun q => q ≠ g) w w') : Tr w' b 0 (.leaf []) := by
  obtain ⟨cur, hg⟩ := hg
  obtain ⟨v, q1, ⟨bl, e, a, c, q2, q3⟩, q4⟩ := h
  have n1 : b ≠ g := fun e => by rw [e, hg] at q1; simp at q1
  have n2 : bl ≠ g := fun e => by rw [e, hg] at q2; simp at q2
  exact ⟨v, (hk.keep b (Array.getElem?_eq_some_iff.1 q1).1 n1).trans q1, ⟨bl, e, a, c, (hk.keep bl (Array.getElem?_eq_some_iff.1 q2).1 n2).trans q2, ⟨.inl rfl, q3.len, q3.cap, q3.nil, q3.spot, q3.one⟩⟩, q4⟩

def ocs (ops : List OpT) : List Value := ops.flatMap fun o => [.string o.1, .string o.2.1, .bool o.2.2]
theorem ocs_len (ops : List OpT) : (ocs ops).length = ops.length * 3 := by
  induction ops with
  | nil => rfl
  | cons o r ih => simp only [ocs, List.flatMap_cons, List.length_append, List.length_cons, List.length_nil] at ih ⊢; omega
theorem ocs_at : ∀ {ops : List OpT} {j : Nat} (h : j < ops.length), (ocs ops)[j * 3]? = some (.string ops[j].1) ∧ (ocs ops)[j * 3 + 1]? = some (.string ops[j].2.1) ∧ (ocs ops)[j * 3 + 2]? = some (.bool ops[j].2.2)
  | o :: r, 0, _ => ⟨rfl, rfl, rfl⟩
  | o :: r, j + 1, h => by
    have ih := ocs_at (ops := r) (j := j) (by simpa using h)
    have e : ∀ q, (ocs (o :: r))[q + 3]? = (ocs r)[q]? := fun q => by simp [ocs]
    rw [show (j + 1) * 3 = j * 3 + 3 from by omega, show j * 3 + 3 + 1 = j * 3 + 1 + 3 from by omega, show j * 3 + 3 + 2 = j * 3 + 2 + 3 from by omega, e, e, e]
    exact ih
theorem ocs_one (ops : List OpT) : ∀ u ∈ ocs ops, u.oneCell' = true := by
  intro u hu
  simp only [ocs, List.mem_flatMap] at hu
  obtain ⟨o, _, hu⟩ := hu
  simp at hu
  rcases hu with rfl | rfl | rfl <;> rfl
theorem ocs_src {w : World} {ad : Addr} {ops : List OpT} (h : Ops w (some ad) ops) : ∀ j u, (ocs ops)[j]? = some u → w.cell? (ad.add j) = some u := by
  intro j u hu
  rcases h with rfl | ⟨b, off, e, hb, hc⟩
  · simp [ocs] at hu
  · simp only [Option.some.injEq] at e
    subst e
    have hj := (List.getElem?_eq_some_iff.1 hu).1
    rw [ocs_len] at hj
    have hq : j / 3 < ops.length := by omega
    obtain ⟨c0, c1, c2⟩ := hc (j / 3) hq
    obtain ⟨o0, o1, o2⟩ := ocs_at hq
    rw [Addr.add_lit]
    have hr : j = j / 3 * 3 ∨ j = j / 3 * 3 + 1 ∨ j = j / 3 * 3 + 2 := by omega
    rcases hr with hr | hr | hr
    · have e2 : (ocs ops)[j / 3 * 3]? = some u := by rw [← hr]; exact hu
      rw [o0] at e2
      rw [← e2, show off + j = off + j / 3 * 3 from by omega]
      exact c0
    · have e2 : (ocs ops)[j / 3 * 3 + 1]? = some u := by rw [← hr]; exact hu
      rw [o1] at e2
      rw [← e2, show off + j = off + j / 3 * 3 + 1 from by omega]
      exact c1
    · have e2 : (ocs ops)[j / 3 * 3 + 2]? = some u := by rw [← hr]; exact hu
      rw [o2] at e2
      rw [← e2, show off + j = off + j / 3 * 3 + 2 from by omega]
      exact c2
theorem info31 : (Try.prog.info? 31).map (fun i => (i.zero, i.size, i.bytes)) = some (some (.agg #[.string ⟨#[]⟩, .string ⟨#[]⟩, .bool false]), 3, 40) := by kernel_rfl
/-- 'append([]Op{}, l...)'. -/
theorem copy_ops {w : World} {ad : Addr} {ops : List OpT} {c : Nat} (ho : Ops w (some ad) ops) (hn : ops.length ≤ 100) :
    ∃ g cap w', (∀ ty, (Builtin.append_ #[22, 22] ty #[.slice (some ⟨w.heap.size, 0, none⟩) 0 0, .slice (some ad) ops.length c]).run Try.prog (w.alloc (.cells #[] 31)) = .ok (.slice (some ⟨g, 0, none⟩) ops.length cap) w') ∧ MR w' g ops.length ops ∧ (w.alloc (.cells #[] 31)).grownBy w' (some w.heap.size) ∧ w.heap.size ≤ g := by
  obtain ⟨i0, hi, hz0, hz1, hz2⟩ := info_parts info31
  have hA : Below w.heap.size w (w.alloc (.cells #[] 31)) := (Below.refl _ _).alloc (Nat.le_refl _) _
  have ho' : Ops (w.alloc (.cells #[] 31)) (some ad) ops := by
    rcases ho with rfl | ⟨b, off, e, hb, hc⟩
    · exact .inl rfl
    · exact .inr ⟨b, off, e, Nat.lt_of_lt_of_le hb hA.size, fun j hj => ⟨(hA.cell (p := ⟨b, off + j * 3, none⟩) hb).trans (hc j hj).1, (hA.cell (p := ⟨b, off + j * 3 + 1, none⟩) hb).trans (hc j hj).2.1, (hA.cell (p := ⟨b, off + j * 3 + 2, none⟩) hb).trans (hc j hj).2.2⟩⟩
  have hown : (w.alloc (.cells #[] 31)).ownsRow w.heap.size 31 3 (.slice (some ⟨w.heap.size, 0, none⟩) 0 0) 0 [] := ⟨rfl, .inr ⟨w.heap.size, 0, #[], rfl, Nat.le_refl _, heap_alloc_new w _, Nat.le_refl _, by unfold maxLen; omega, rfl, rfl⟩⟩
  obtain ⟨v', w', hr, h2, h3, h4⟩ := run_append_own (P := Try.prog) (w.alloc (.cells #[] 31)) w.heap.size 22 0 31 i0 _ 3 40 Try.underlying22 hi hz0 hz1 hz2 rfl (by decide) _ 0 [] hown ad ops.length c (ocs ops) (ocs_len ops) (ocs_src ho') (ocs_one ops) (by unfold maxLen; omega) (by omega) (by simp)
  have hr' : ∀ ty, (Builtin.append_ #[22, 22] ty #[.slice (some ⟨w.heap.size, 0, none⟩) 0 0, .slice (some ad) ops.length c]).run Try.prog (w.alloc (.cells #[] 31)) = .ok v' w' := fun ty => hr
  rw [Nat.zero_add, List.nil_append] at h2
  rcases h2.2 with ⟨rfl, _⟩ | ⟨g, cap, cur, rfl, hbg, hg, hnc, hcm, hcs, htake⟩
  · have := h4.1 rfl
    simp at this
  · refine ⟨g, cap, w', hr', ⟨⟨cur, hg⟩, rfl, fun j hj => ?_⟩, h3, hbg⟩
    obtain ⟨o0, o1, o2⟩ := ocs_at hj
    have c0 := h2.cells (g := g) rfl _ _ o0
    have c1 := h2.cells (g := g) rfl _ _ o1
    have c2 := h2.cells (g := g) rfl _ _ o2
    simp only [Addr.add_lit, Nat.zero_add] at c0 c1 c2
    exact ⟨c0, c1, c2⟩

/-- 'append' to a row of one's own: whether the row is the same or new. -/
theorem append_own2 {P : Program} (w : World) (base : Nat) (t ty e : TypeId) (i : TypeInfo) (z : Value) (size bytes : Nat) (ht : P.underlying t = some (.slice e)) (hi : P.info? e = some i) (hz : i.zero = some z)
    (hsize : i.size = size) (hby : i.bytes = bytes) (hzs : z.cells.size = size) (hsz : 0 < size)
    (v : Value) (n : Nat) (xs : List Value) (hown : w.ownsRow base e size v n xs)
    (a : Addr) (m c : Nat) (news : List Value) (hl : news.length = m * size) (hnews : ∀ j u, news[j]? = some u → w.cell? (a.add j) = some u) (h1 : ∀ u ∈ news, u.oneCell' = true)
    (h63 : n + m ≤ maxLen) (hbytes : (n + m) * bytes ≤ 140737488355328) (hbase : base ≤ w.heap.size) :
    ∃ v' w', (Builtin.append_ #[t, t] ty #[v, .slice (some a) m c]).run P w = .ok v' w' ∧ w'.ownsRow base e size v' (n + m) (xs ++ news) ∧ w.grownBy w' v.ownBlock ∧
      (v'.ownBlock = v.ownBlock ∨ ∀ k, v'.ownBlock = some k → w.heap.size ≤ k) := by
  obtain ⟨v', w', hr, h2, h3, h4⟩ := run_append_own (P := P) w base t ty e i z size bytes ht hi hz hsize hby hzs hsz v n xs hown a m c news hl hnews h1 h63 hbytes hbase
  refine ⟨v', w', hr, h2, h3, ?_⟩
  subst hsize hby
  have hsmall : n + m ≤ 9223372036854775807 := by simp only [maxLen] at h63; omega
  rcases hown.2 with ⟨rfl, rfl⟩ | ⟨g, cap, cur, rfl, hbg, hg, hnc, hcm, hcs, htake⟩
  · by_cases hm : m = 0
    · left
      rw [h4.2 ⟨rfl, hm⟩]
    · right
      have hr2 := run_append_nil (P := P) w t ty e i z ht hi hz a m c news hl hnews (by omega) (by omega) (by have hb := hbytes; simp only [Nat.zero_add] at hb; omega)
      rw [hr] at hr2
      simp only [Result.ok.injEq] at hr2
      obtain ⟨rfl, _⟩ := hr2
      intro k hk
      simp [Value.ownBlock] at hk
      omega
  · by_cases hroom : n + m ≤ cap
    · left
      have hfit : n * i.size + news.length ≤ cur.size := by rw [hl, hcs, ← Nat.add_mul]; exact Nat.mul_le_mul_right _ hroom
      have hr2 := run_append_room (P := P) w t ty e i ht hi g n cap cur hg a m c news hl hnews h1 hroom hfit
      rw [hr] at hr2
      simp only [Result.ok.injEq] at hr2
      obtain ⟨rfl, _⟩ := hr2
      rfl
    · right
      have hr2 := run_append_grow (P := P) w t ty e i z ht hi hz ⟨g, 0, none⟩ n cap xs hown.1 (hown.cells (g := g) rfl) a m c news hl hnews (by omega) (by omega) (growslice_fits (by omega) hbytes)
      rw [hr] at hr2
      simp only [Result.ok.injEq] at hr2
      obtain ⟨rfl, _⟩ := hr2
      intro k hk
      simp [Value.ownBlock] at hk
      omega
theorem wpListIn_append_run {F : Fence} {n : Nat} {P : Program} {w : World} {ops : Array Oper} {rest : List Oper} {o : Oper} {a : Act} {Q : Exit → Act → World → Prop}
    (hg : o.guard = none) (s x : Operand) (t : TypeId) (hop : o.op = Op.call { callee := Callee.builtin Builtin.append, args := #[s, x], argTypes := #[t, t] })
    (vs vx : Value) (hs : a.eval s = vs) (hx : a.eval x = vx) (v' : Value) (w' : World) (hrun : ∀ ty, (Builtin.append_ #[t, t] ty #[vs, vx]).run P w = .ok v' w')
    (hK : wpListIn F n P ops Q rest (a.put o.dst v') w') : wpListIn F n P ops Q (o :: rest) a w := by
  refine wpListIn_plain hg fun K hK' => ?_
  unfold Oper.wpIn
  refine ⟨?_, ?_⟩
  · simp [Oper.about, hop, resolve, Target.leads, Sem.run_pure]
  · rw [Oper.semAt_plain F _ _ (by rw [hop]; intro c hc'; cases hc')]
    simp [execOp, hop, resolve, invoke, builtin, hs, hx, hrun, Result.andThen]
    exact hK' _ _ hK
/-- The pairs that have come, in a row of one's own behind a box. -/
structure CP (wr : World) (p : Nat) (pre : List KV) (M : Nat → Prop) (W : World) (v : Value) : Prop where
  m : ∀ q, M q ↔ (q = p ∨ v.ownBlock = some q)
  box : W.heap[p]? = some (.cells #[v] 27 (0, 0))
  row : W.ownsRow (p + 1) 50 2 v pre.length (pcs pre)
  old : Below wr.heap.size wr W
theorem own_kep {w w' : World} {base e s n : Nat} {v : Value} {xs : List Value} (h : w.ownsRow base e s v n xs) (hk : ∀ g, v.ownBlock = some g → w'.heap[g]? = w.heap[g]?) : w'.ownsRow base e s v n xs := by
  refine ⟨h.1, ?_⟩
  rcases h.2 with h0 | ⟨g, cap, cur, rfl, hb, hg, hr⟩
  · exact .inl h0
  · exact .inr ⟨g, cap, cur, rfl, hb, (hk g rfl).trans hg, hr⟩
theorem CP.kept {wr : World} {p : Nat} {pre : List KV} {M : Nat → Prop} {W W' : World} {v : Value} (h : CP wr p pre M W v) {B : Nat} (hk : Kep (fun k => k < B ∨ M k) W W') (hp : p < B) (hB : wr.heap.size ≤ B) : CP wr p pre M W' v :=
  ⟨h.m, (hk.keep p (Array.getElem?_eq_some_iff.1 h.box).1 (.inl hp)).trans h.box, own_kep h.row (fun g hg => hk.keep g (owns_lt h.row g hg).2 (.inr ((h.m g).2 (.inr hg)))), h.old.trans ((hk.mono (K' := fun q => q < wr.heap.size) fun q _ hq => .inl (by omega)).below h.old.size)⟩
/-- One pair more. -/
theorem CP.snoc {wr : World} {p : Nat} {pre : List KV} {M : Nat → Prop} {W : World} {v : Value} (h : CP wr p pre M W v) (hp : wr.heap.size ≤ p) (x y : ByteArray) (hn : pre.length < 1000000) :
    ∃ v' w', (∀ ty, (Builtin.append_ #[27, 27] ty #[v, .slice (some ⟨W.heap.size, 0, none⟩) 1 1]).run Try.prog (W.alloc (.cells #[.string x, .string y] 50)) = .ok v' w') ∧ w'.heap[p]? = some (.cells #[v] 27 (0, 0)) ∧ (∃ a c, v' = .slice a (pre.length + 1) c) ∧
      ∃ M', Stp M W M' (w'.setCell ⟨p, 0, none⟩ v') ∧ CP wr p (pre ++ [(x, y)]) M' (w'.setCell ⟨p, 0, none⟩ v') v' := by
  obtain ⟨i0, hi, hz0, hz1, hz2⟩ := info_parts info50
  have hA : Kep (fun _ => True) W (W.alloc (.cells #[.string x, .string y] 50)) := Kep.alloc _ W _
  have hpl := (Array.getElem?_eq_some_iff.1 h.box).1
  have hrow : (W.alloc (.cells #[.string x, .string y] 50)).ownsRow (p + 1) 50 2 v pre.length (pcs pre) := own_kep h.row (fun g hg => hA.keep g (owns_lt h.row g hg).2 trivial)
  have hsl := pair_sl50 (w := W) x y
  have hnews : ∀ j u, (pcs [(x, y)])[j]? = some u → (W.alloc (.cells #[.string x, .string y] 50)).cell? ((⟨W.heap.size, 0, none⟩ : Addr).add j) = some u := by
    intro j u hj
    obtain ⟨hj', rfl⟩ := List.getElem?_eq_some_iff.1 hj
    obtain ⟨b, off, he, _, hcs⟩ := hsl.at hj'
    simp only [Option.some.injEq] at he
    rw [Addr.add_lit]
    cases he
    exact hcs j hj'
  obtain ⟨v', w', hr, h2, h3, h4⟩ := append_own2 (P := Try.prog) (W.alloc (.cells #[.string x, .string y] 50)) (p + 1) 27 0 50 i0 _ 2 32 Try.underlying27 hi hz0 hz1 hz2 rfl (by decide) v pre.length (pcs pre) hrow ⟨W.heap.size, 0, none⟩ 1 1 (pcs [(x, y)]) rfl hnews (pcs_one _) (by unfold maxLen; omega) (by omega) (by simp; omega)
  have hpne : some p ≠ v.ownBlock := by
    intro e
    have := (owns_lt h.row p e.symm).1
    omega
  have hbx : w'.heap[p]? = some (.cells #[v] 27 (0, 0)) := (h3.block p (by simp; omega) hpne).trans ((hA.keep p hpl trivial).trans h.box)
  have hown := owns_lt h2
  obtain ⟨a', c', ev⟩ : ∃ a c, v' = .slice a (pre.length + 1) c := own_slice h2
  refine ⟨v', w', fun ty => hr, hbx, ⟨a', c', ev⟩, fun q => q = p ∨ v'.ownBlock = some q, ⟨⟨h3.os, h3.tape, h3.output, ?_, ?_⟩, ?_, ?_⟩, ⟨fun q => Iff.rfl, box_set hbx _, ?_, ?_⟩⟩
  · have := h3.size; simp [World.setCell] at this ⊢; omega
  · intro k hk hM
    have hkp : k ≠ p := fun e => hM ((h.m k).2 (.inl e))
    have hkv : some k ≠ v.ownBlock := fun e => hM ((h.m k).2 (.inr e.symm))
    rw [Below.heap_setCell _ _ _ _ hkp, h3.block k (by simp; omega) hkv]
    exact hA.keep k hk trivial
  · rintro k hk (rfl | hv)
    · exact (h.m k).2 (.inl rfl)
    · rcases h4 with h4 | h4
      · exact (h.m k).2 (.inr (by rw [← h4]; exact hv))
      · have := h4 k hv; simp at this; omega
  · rintro k (rfl | hv)
    · have := h3.size; simp [World.setCell] at this ⊢; omega
    · have := (hown k hv).2; simpa [World.setCell] using this
  · rw [List.length_append, pcs_app]
    refine own_kep h2 (fun g hg => Below.heap_setCell _ _ _ _ (fun e => ?_))
    have := (hown g hg).1
    simp only at e
    omega
  · have hb1 : Below wr.heap.size wr w' := ((h.old.alloc h.old.size _).grown h3 (by have := h.old.size; simp; omega) (fun k hk => by have := (owns_lt h.row k hk).1; omega))
    exact hb1.setCell (p := ⟨p, 0, none⟩) hp _
end Go.Proofs.Ytpophalhmjchkaa

/-
  The document's Copy by its contract.
-/
import Derived.Test.YthmjejmkkllbaaaRefNew
namespace Go.Proofs.Ythmjejmkkllbaaa
open Go.RowKit

theorem step_append_own_none {P : Program} {w : World} {o : Oper} {a : Act} {K : Act → World → Prop} {Q : Exit → Act → World → Prop} (s x : Operand) (t : TypeId)
    (ho : o.op = .call { callee := .builtin .append, args := #[s, x], argTypes := #[t, t] })
    (base : Nat) (e : TypeId) (i : TypeInfo) (size : Nat) (ht : P.underlying t = some (.slice e)) (hi : P.info? e = some i)
    (v : Value) (n : Nat) (xs : List Value) (hs : a.eval s = v) (hown : w.ownsRow base e size v n xs) (hx : a.eval x = .slice none 0 0)
    (h : K (a.put o.dst v) w) : o.wp P a w K Q := by
  have hrun := run_append_owned_none (P := P) (w := w) base t o.type e i size ht hi v n xs hown
  unfold Oper.wp
  simp [execOp, ho, resolve, invoke, builtin, hs, hx, hrun, Result.andThen]
  exact h

/-- A copy half made: the row of lasting sectors laid, that of the writes as wv says. -/
structure Half (w q : World) (N : Nat) (lv wv : Value) (f : Int) (dd : Bool) : Prop where
  blk : q.heap[N]? = some (.cells #[lv, wv, .int .i64 f, .bool dd] 50 (0, 0))
  old : Below w.heap.size w q

theorem ref_append_step {w q q2 : World} {N : Nat} {lv wv : Value} {f : Int} {dd : Bool} {e : TypeId} {size m : Nat} {xs : List Value} {v' : Value} (h : Half w q N lv wv f dd)
    (ho : q2.ownsRow 0 e size v' (0 + m) ([] ++ xs)) (hg : q.grownBy q2 (Value.ownBlock (.slice none 0 0))) (hn : v'.ownBlock = Value.ownBlock (.slice none 0 0) ∨ ∀ k, v'.ownBlock = some k → q.heap.size ≤ k) :
    (∃ a c, v' = .slice a m c) ∧ q2.ownsRow 0 e size v' m xs ∧ Half w q2 N lv wv f dd ∧ (∀ g, v'.ownBlock = some g → q.heap.size ≤ g ∧ g < q2.heap.size) ∧ Keeps q q2 ∧ q.heap.size ≤ q2.heap.size := by
  rw [Nat.zero_add, List.nil_append] at ho
  have hlt := (Array.getElem?_eq_some_iff.1 h.blk).1
  have hblk : ∀ k, k < q.heap.size → q2.heap[k]? = q.heap[k]? := fun k hk => hg.block k hk (by simp [Value.ownBlock])
  refine ⟨owns_shape ho, ho, ⟨(hblk N hlt).trans h.blk, h.old.grown hg h.old.size (by simp [Value.ownBlock])⟩, ?_, ?_, hg.size⟩
  · intro g hgv
    refine ⟨?_, (owns_lt ho g hgv).2⟩
    rcases hn with hn | hn
    · rw [hn] at hgv; simp [Value.ownBlock] at hgv
    · exact hn g hgv
  · intro b' e' s' v'' n' xs' ho'
    exact owns_other ho' fun j hj => hblk j ((owns_lt ho' j hj).2)

theorem half_set {w q : World} {N : Nat} {lv wv : Value} {f : Int} {dd : Bool} (hN : w.heap.size ≤ N) (h : Half w q N lv wv f dd) : (∀ v, Half w (q.setCell ⟨N, 0, none⟩ v) N v wv f dd) ∧ ∀ v, Half w (q.setCell ⟨N, 1, none⟩ v) N lv v f dd :=
  ⟨fun v => ⟨(set_blk h.blk 0 v).trans rfl, h.old.setCell hN v⟩, fun v => ⟨(set_blk h.blk 1 v).trans rfl, h.old.setCell hN v⟩⟩

theorem refcopy_end {w q : World} {lv wv : Value} {M : R} (hok : M.Ok) (h : Half w q w.heap.size lv wv M.f M.dead) (hl : q.ownsRow 0 9 1 lv M.L.length (scs M.L)) (hw : q.ownsRow 0 70 2 wv M.W.length (ccs M.W)) (bl : ∀ g, lv.ownBlock = some g → w.heap.size < g) (bw : ∀ g, wv.ownBlock = some g → w.heap.size < g ∧ lv.ownBlock ≠ some g) :
    RDev q (fun k => w.heap.size ≤ k ∧ k < q.heap.size) w.heap.size M ∧ Below w.heap.size w q := by
  have hlt := (Array.getElem?_eq_some_iff.1 h.blk).1
  refine ⟨⟨hok, fun k hk => hk.2, lv, wv, ⟨h.blk, hl, hw, ?_, ?_⟩, ?_⟩, h.old⟩
  · intro g hg
    exact ⟨by have := bl g hg; omega, fun e => (bw g e).2 hg⟩
  · intro g hg
    have := (bw g hg).1
    omega
  · intro k hk
    rcases hk with hk | hk | hk
    · omega
    · have := bl k hk; have := (owns_lt hl k hk).2; omega
    · have := (bw k hk).1; have := (owns_lt hw k hk).2; omega

set_option maxHeartbeats 4000000 in
set_option maxRecDepth 20000 in
theorem refcopy_any (d : Nat) (w : World) (F : Nat → Prop) (M : R) (h : RDev w F d M) (hC : M.W.length ≤ 100000) :
    Calls Try.prog 22 #[.pointer (some ⟨d, 0, none⟩)] w fun e w' => ∃ c, e = .returned (.pointer (some ⟨c, 0, none⟩)) ∧ RDev w' (fun k => w.heap.size ≤ k ∧ k < w'.heap.size) c M ∧ Below w.heap.size w w' := by
  obtain ⟨i9, hi9, hy0, hy1, hy2⟩ := info_parts info9
  obtain ⟨i0, hi0, hz0, hz1, hz2⟩ := info_parts info70
  have hok := h.1
  have hdlt := h.lt
  obtain ⟨gl, cl, ca, cc, hV, hfoot, _⟩ := h.open
  have c0 := cell_blk hV.blk 0
  have c1 := cell_blk hV.blk 1
  have c2 := cell_blk hV.blk 2
  have c3 := cell_blk hV.blk 3
  simp only [List.getElem?_toArray] at c0 c1 c2 c3
  obtain ⟨ff, hff⟩ : ∃ f, f = M.f := ⟨_, rfl⟩
  obtain ⟨dd, hdd⟩ : ∃ dd, dd = M.dead := ⟨_, rfl⟩
  rw [← hff] at c2
  rw [← hdd] at c3
  have HV := (show Hid (RV w d (.slice (some ⟨gl, 0, none⟩) M.L.length cl) (.slice ca M.W.length cc) M) from hV)
  have HOK : Hid M.Ok := hok
  have HFD : Hid (ff = M.f ∧ dd = M.dead) := ⟨hff, hdd⟩
  have hN : w.drew.heap.size = w.heap.size := rfl
  have d2 : w.drew.cell? ⟨d, 2, none⟩ = some (.int .i64 ff) := c2
  have d3 : w.drew.cell? ⟨d, 3, none⟩ = some (.bool dd) := c3
  clear hV hfoot h hff hdd hok
  go_enter Try.func22, Try.ntmps22
  go_wp2
  go_region
  obtain ⟨w1, hw1⟩ : ∃ w1, w1 = (w.alloc (.cells #[.slice none 0 0, .slice none 0 0, .int .i64 ff, .bool dd] 50)).drew := ⟨_, rfl⟩
  rw [← hw1]
  have hH1 : Half w w1 w.heap.size (.slice none 0 0) (.slice none 0 0) ff dd := by
    rw [hw1]
    exact ⟨heap_alloc_new w _, ((Below.refl _ w).alloc (Nat.le_refl _) _).drew⟩
  have hk1 : Keeps w w1 := keeps_below hH1.old
  have e0 : w1.cell? ⟨d, 0, none⟩ = some (.slice (some ⟨gl, 0, none⟩) M.L.length cl) := (hH1.old.cell (p := ⟨d, 0, none⟩) hdlt).trans c0
  have e1 : w1.cell? ⟨w.heap.size, 0, none⟩ = some (.slice none 0 0) := cell_blk hH1.blk 0
  have E0 : Hid (w1.drew.cell? ⟨d, 0, none⟩ = some (.slice (some ⟨gl, 0, none⟩) M.L.length cl)) := e0
  have hrow : w1.drew.ownsRow 0 9 1 (.slice (some ⟨gl, 0, none⟩) M.L.length cl) M.L.length (scs M.L) := (hk1 _ _ _ _ _ _ HV.out.lr)
  have HR1 := (show Hid _ from hrow)
  have hrowW : w1.ownsRow 0 70 2 (.slice ca M.W.length cc) M.W.length (ccs M.W) := hk1 _ _ _ _ _ _ HV.out.wr
  have HRW := (show Hid (w1.drew.ownsRow 0 70 2 (.slice ca M.W.length cc) M.W.length (ccs M.W)) from hrowW)
  have HH1 := (show Hid (Half w w1.drew w.heap.size (.slice none 0 0) (.slice none 0 0) ff dd) from ⟨hH1.blk, hH1.old.drew⟩)
  have hfa : ∀ v' w2, w2.ownsRow 0 9 1 v' (0 + M.L.length) ([] ++ scs M.L) → w1.drew.grownBy w2 (Value.ownBlock (.slice none 0 0)) → (v'.ownBlock = Value.ownBlock (.slice none 0 0) ∨ ∀ k, v'.ownBlock = some k → w1.drew.heap.size ≤ k) →
      (∃ a c, v' = .slice a M.L.length c) ∧ w2.cell? ⟨w.heap.size, 0, none⟩ = some (.slice none 0 0) ∧ w2.frozen? ⟨w.heap.size, 0, none⟩ = false ∧ Half w (w2.setCell ⟨w.heap.size, 0, none⟩ v') w.heap.size v' (.slice none 0 0) ff dd ∧ (w2.setCell ⟨w.heap.size, 0, none⟩ v').ownsRow 0 9 1 v' M.L.length (scs M.L) ∧ (w2.setCell ⟨w.heap.size, 0, none⟩ v').ownsRow 0 70 2 (.slice ca M.W.length cc) M.W.length (ccs M.W) ∧ (∀ g, v'.ownBlock = some g → w.heap.size < g) := by
    intro v' w2 ho hg hn
    obtain ⟨q1, q2, q3, q4, q5, q6⟩ := ref_append_step HH1.out ho hg hn
    have hlt := (Array.getElem?_eq_some_iff.1 HH1.out.blk).1
    have hlo : ∀ g, v'.ownBlock = some g → w.heap.size < g := fun g hg => by have := (q4 g hg).1; omega
    refine ⟨q1, cell_blk q3.blk 0, frozen_blk q3.blk 0, (half_set (Nat.le_refl _) q3).1 v', owns_setCell q2 (fun e => by have := hlo _ e; simp at this) _, owns_setCell (q5 _ _ _ _ _ _ HRW.out) (fun e => ?_) _, hlo⟩
    have := (owns_lt HV.out.wr _ e).2
    simp at this
  have HFA := (show Hid _ from hfa)
  have htop : M.L.length ≤ 4096 := HOK.out.top
  have hc1 : ∀ w2, Below w.heap.size w w2 → w2.cell? ⟨d, 1, none⟩ = some (.slice ca M.W.length cc) := fun w2 hb => (hb.cell (p := ⟨d, 1, none⟩) hdlt).trans c1
  have HC1 := (show Hid _ from hc1)
  have hz9 : (Try.prog.info? 9).map (·.size) = some 1 := by rw [hi9]; simp [hy1]
  clear hH1 hk1 hrow hrowW hfa hw1 d2 d3 c0 c1 c2 c3 hc1
  go_wp2
  go_region_law (rw [if_pos (by rfl)]; refine step_append_own2 (.tmp 18) (.tmp 22) 47 rfl 0 9 i9 (.string ⟨#[]⟩) 1 16 Try.underlying47 hi9 hy0 hy1 hy2 rfl (by decide) (.slice none 0 0) 0 [] rfl (World.ownsRow_nil _ 0 9 1) ⟨gl, 0, none⟩ M.L.length cl (scs M.L) rfl HR1.out.1 (fun j u hj => World.ownsRow.cells HR1.out (g := gl) rfl j u hj) (scs_one _) (by unfold maxLen; omega) (by omega) (Nat.zero_le _) ?_; intro v' w2 ho2 hg2 hn2; obtain ⟨⟨la, lc, rfl⟩, x1, x2, x3, x4, x5, x6⟩ := HFA.out v' w2 ho2 hg2 hn2; have HX := (show Hid (Half w (w2.setCell ⟨w.heap.size, 0, none⟩ (.slice la M.L.length lc)) w.heap.size (.slice la M.L.length lc) (.slice none 0 0) ff dd ∧ (w2.setCell ⟨w.heap.size, 0, none⟩ (.slice la M.L.length lc)).ownsRow 0 9 1 (.slice la M.L.length lc) M.L.length (scs M.L) ∧ (w2.setCell ⟨w.heap.size, 0, none⟩ (.slice la M.L.length lc)).ownsRow 0 70 2 (.slice ca M.W.length cc) M.W.length (ccs M.W) ∧ (∀ g, Value.ownBlock (.slice la M.L.length lc) = some g → w.heap.size < g)) from ⟨x3, x4, x5, x6⟩); clear ho2 hg2 hn2 x3 x4 x5 x6)
  all_goals clear HFA HR1 HRW HH1 E0 e0 e1 x1 x2
  all_goals obtain ⟨w3, hw3⟩ : ∃ w3, w3 = w2.setCell ⟨w.heap.size, 0, none⟩ (.slice la M.L.length lc) := ⟨_, rfl⟩
  all_goals rw [← hw3] at HX ⊢
  all_goals clear hw3
  all_goals have e0 : w3.cell? ⟨d, 1, none⟩ = some (.slice ca M.W.length cc) := HC1.out w3 HX.out.1.old
  all_goals have e1 : w3.cell? ⟨w.heap.size, 1, none⟩ = some (.slice none 0 0) := cell_blk HX.out.1.blk 1
  all_goals have e2 : w3.frozen? ⟨w.heap.size, 1, none⟩ = false := frozen_blk HX.out.1.blk 1
  all_goals
    (rcases (show (ca = none ∧ cc = 0 ∧ M.W = []) ∨ ∃ g, ca = some ⟨g, 0, none⟩ from (by
      obtain ⟨_, ⟨h1, h2⟩ | ⟨g, cap, cur, h1, _⟩⟩ := HX.out.2.2.1
      · simp only [Value.slice.injEq] at h1
        exact .inl ⟨h1.1, h1.2.2, List.eq_nil_of_length_eq_zero h2⟩
      · simp only [Value.slice.injEq] at h1
        exact .inr ⟨g, h1.1⟩)) with ⟨rfl, rfl, hnil⟩ | ⟨gw, rfl⟩
     · have hW0 : M.W.length = 0 := by rw [hnil]; rfl
       rw [hW0] at e0
       have HN : Hid (M.W = []) := hnil
       clear hnil hW0
       go_wp2
       go_region_law (rw [if_pos (by rfl)]; refine step_append_own_none (.tmp 30) (.tmp 34) 48 rfl 0 70 i0 2 Try.underlying48 hi0 (.slice none 0 0) 0 [] rfl (World.ownsRow_nil _ 0 70 2) rfl ?_)
       all_goals go_wp2
       all_goals go_ret
       all_goals
         (refine ⟨_, rfl, refcopy_end (lv := .slice la M.L.length lc) (wv := .slice none 0 0) HOK.out ?_ ?_ ?_ HX.out.2.2.2 (fun g hg => by simp [Value.ownBlock] at hg)⟩
          · rw [← HFD.out.1, ← HFD.out.2]
            exact (half_set (q := w3.drew) (Nat.le_refl _) ⟨HX.out.1.blk, HX.out.1.old.drew⟩).2 _
          · exact owns_setCell (w := w3.drew) HX.out.2.1 (fun e => by have := HX.out.2.2.2 _ e; simp at this) _
          · rw [HN.out]
            exact World.ownsRow_nil _ 0 70 2)
     · have hrow : w3.drew.ownsRow 0 70 2 (.slice (some ⟨gw, 0, none⟩) M.W.length cc) M.W.length (ccs M.W) := HX.out.2.2.1
       have HR3 := (show Hid _ from hrow)
       have hfa : ∀ v' w4, w4.ownsRow 0 70 2 v' (0 + M.W.length) ([] ++ ccs M.W) → w3.drew.grownBy w4 (Value.ownBlock (.slice none 0 0)) → (v'.ownBlock = Value.ownBlock (.slice none 0 0) ∨ ∀ k, v'.ownBlock = some k → w3.drew.heap.size ≤ k) →
           (∃ a c, v' = .slice a M.W.length c) ∧ w4.cell? ⟨w.heap.size, 1, none⟩ = some (.slice none 0 0) ∧ w4.frozen? ⟨w.heap.size, 1, none⟩ = false ∧ RDev (w4.setCell ⟨w.heap.size, 1, none⟩ v') (fun k => w.heap.size ≤ k ∧ k < (w4.setCell ⟨w.heap.size, 1, none⟩ v').heap.size) w.heap.size M ∧ Below w.heap.size w (w4.setCell ⟨w.heap.size, 1, none⟩ v') := by
         intro v' w4 ho hg hn
         obtain ⟨q1, q2, q3, q4, q5, q6⟩ := ref_append_step (q := w3.drew) ⟨HX.out.1.blk, HX.out.1.old.drew⟩ ho hg hn
         have hlt := (Array.getElem?_eq_some_iff.1 HX.out.1.blk).1
         have hz : w3.drew.heap.size = w3.heap.size := rfl
         have hlo : ∀ g, v'.ownBlock = some g → w.heap.size < g := fun g hg => by have := (q4 g hg).1; omega
         refine ⟨q1, cell_blk q3.blk 1, frozen_blk q3.blk 1, refcopy_end (lv := .slice la M.L.length lc) (wv := v') HOK.out ?_ ?_ ?_ HX.out.2.2.2 (fun g hg => ⟨hlo g hg, fun e => ?_⟩)⟩
         · rw [← HFD.out.1, ← HFD.out.2]
           exact (half_set (Nat.le_refl _) q3).2 _
         · exact owns_setCell (q5 _ _ _ _ _ _ HX.out.2.1) (fun e => by have := HX.out.2.2.2 _ e; simp at this) _
         · exact owns_setCell q2 (fun e => by have := hlo _ e; simp at this) _
         · have h1 := (q4 g hg).1
           have h2 := (owns_lt HX.out.2.1 g e).2
           omega
       have HFA := (show Hid _ from hfa)
       clear hfa hrow
       go_wp2
       go_region_law (rw [if_pos (by rfl)]; refine step_append_own2 (.tmp 30) (.tmp 34) 48 rfl 0 70 i0 (.agg #[.int .i64 0, .string ⟨#[]⟩]) 2 24 Try.underlying48 hi0 hz0 hz1 hz2 rfl (by decide) (.slice none 0 0) 0 [] rfl (World.ownsRow_nil _ 0 70 2) ⟨gw, 0, none⟩ M.W.length cc (ccs M.W) rfl HR3.out.1 (fun j u hj => World.ownsRow.cells HR3.out (g := gw) rfl j u hj) (ccs_one _) (by unfold maxLen; omega) (by omega) (Nat.zero_le _) ?_; intro v' w4 ho2 hg2 hn2; obtain ⟨⟨wa, wc, rfl⟩, x1, x2, x3⟩ := HFA.out v' w4 ho2 hg2 hn2; have HY := (show Hid _ from x3); clear ho2 hg2 hn2 x3)
       all_goals go_wp2
       all_goals go_ret
       all_goals exact ⟨_, rfl, HY.out⟩)
end Go.Proofs.Ythmjejmkkllbaaa

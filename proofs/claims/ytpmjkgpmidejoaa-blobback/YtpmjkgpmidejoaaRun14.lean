/-
  Runs by its contract: the free runs in a row of their own.
-/
import Derived.Test.YtpmjkgpmidejoaaRun13
import Derived.Maps.AppendAt
import Derived.Lib.AppendZeros
import Derived.Deep.WholeRow
import Derived.Laws.Tables
namespace Go.Proofs.Ytpmjkgpmidejoaa.Al
open Go.RowKit Go.Shelf

attribute [local go_sem] Oper.semAt_some

theorem owns_lt {w : World} {base : Nat} {e : TypeId} {size : Nat} {v : Value} {n : Nat} {xs : List Value} (h : w.ownsRow base e size v n xs) : ∀ g, v.ownBlock = some g → base ≤ g ∧ g < w.heap.size := by
  obtain ⟨hl, ⟨rfl, h0⟩ | ⟨g, cap, cur, rfl, hb, hg, hr⟩⟩ := h
  · intro g hg; simp [Value.ownBlock] at hg
  · intro g' hg'
    simp only [Value.ownBlock, Option.some.injEq] at hg'
    subst hg'
    exact ⟨hb, (Array.getElem?_eq_some_iff.1 hg).1⟩
theorem own_slice {w : World} {B e s : Nat} {v : Value} {n : Nat} {xs : List Value} (h : w.ownsRow B e s v n xs) : ∃ a c, v = .slice a n c := by
  obtain ⟨_, ⟨rfl, rfl⟩ | ⟨g1, c1, u1, rfl, _⟩⟩ := h
  · exact ⟨none, 0, rfl⟩
  · exact ⟨_, _, rfl⟩
/-- 'append' to a row of one's own: whether the row is the same or new. -/
theorem append_own2 {P : Program} (w : World) (base : Nat) (t ty e : TypeId) (i : TypeInfo) (z : Value) (size bytes : Nat) (ht : P.underlying t = some (.slice e)) (hi : P.info? e = some i) (hz : i.zero = some z)
    (hsize : i.size = size) (hby : i.bytes = bytes) (hzs : z.cells.size = size) (hsz : 0 < size)
    (v : Value) (n : Nat) (xs : List Value) (hown : w.ownsRow base e size v n xs)
    (a : Addr) (m c : Nat) (news : List Value) (hl : news.length = m * size) (hnews : ∀ j u, news[j]? = some u → w.cell? (a.add j) = some u) (h1 : ∀ u ∈ news, u.oneCell' = true)
    (h63 : n + m ≤ maxLen) (hbytes : (n + m) * bytes ≤ 140737488355328) (hbase : base ≤ w.heap.size) :
    ∃ v' w', (Builtin.append_ #[t, t] ty #[v, .slice (some a) m c]).run P w = .ok v' w' ∧ w'.ownsRow base e size v' (n + m) (xs ++ news) ∧ w.grownBy w' v.ownBlock ∧
      (v'.ownBlock = v.ownBlock ∨ ∀ k, v'.ownBlock = some k → w.heap.size ≤ k) := by
  obtain ⟨v', w', hr, h2, h3, h4⟩ := run_append_own (P := P) w base t ty e i z size bytes ht hi hz hsize hby hzs hsz v n xs hown a m c news hl hnews h1 h63 hbytes hbase
  refine ⟨v', w', hr, h2, h3, ?_⟩
  subst hsize hby
  have hsmall : n + m ≤ 9223372036854775807 := by simp only [maxLen] at h63; omega
  rcases hown.2 with ⟨rfl, rfl⟩ | ⟨g, cap, cur, rfl, hbg, hg, hnc, hcm, hcs, htake⟩
  · by_cases hm : m = 0
    · left
      rw [h4.2 ⟨rfl, hm⟩]
    · right
      have hr2 := run_append_nil (P := P) w t ty e i z ht hi hz a m c news hl hnews (by omega) (by omega) (by have hb := hbytes; simp only [Nat.zero_add] at hb; omega)
      rw [hr] at hr2
      simp only [Result.ok.injEq] at hr2
      obtain ⟨rfl, _⟩ := hr2
      intro k hk
      simp [Value.ownBlock] at hk
      omega
  · by_cases hroom : n + m ≤ cap
    · left
      have hfit : n * i.size + news.length ≤ cur.size := by rw [hl, hcs, ← Nat.add_mul]; exact Nat.mul_le_mul_right _ hroom
      have hr2 := run_append_room (P := P) w t ty e i ht hi g n cap cur hg a m c news hl hnews h1 hroom hfit
      rw [hr] at hr2
      simp only [Result.ok.injEq] at hr2
      obtain ⟨rfl, _⟩ := hr2
      rfl
    · right
      have hr2 := run_append_grow (P := P) w t ty e i z ht hi hz ⟨g, 0, none⟩ n cap xs hown.1 (hown.cells (g := g) rfl) a m c news hl hnews (by omega) (by omega) (growslice_fits (by omega) hbytes)
      rw [hr] at hr2
      simp only [Result.ok.injEq] at hr2
      obtain ⟨rfl, _⟩ := hr2
      intro k hk
      simp [Value.ownBlock] at hk
      omega
theorem wpListIn_append_run {F : Fence} {n : Nat} {P : Program} {w : World} {ops : Array Oper} {rest : List Oper} {o : Oper} {a : Act} {Q : Exit → Act → World → Prop}
    (hg : o.guard = none) (s x : Operand) (t : TypeId) (hop : o.op = Op.call { callee := Callee.builtin Builtin.append, args := #[s, x], argTypes := #[t, t] })
    (vs vx : Value) (hs : a.eval s = vs) (hx : a.eval x = vx) (v' : Value) (w' : World) (hrun : ∀ ty, (Builtin.append_ #[t, t] ty #[vs, vx]).run P w = .ok v' w')
    (hK : wpListIn F n P ops Q rest (a.put o.dst v') w') : wpListIn F n P ops Q (o :: rest) a w := by
  refine wpListIn_plain hg fun K hK' => ?_
  unfold Oper.wpIn
  refine ⟨?_, ?_⟩
  · simp [Oper.about, hop, resolve, Target.leads, Sem.run_pure]
  · rw [Oper.semAt_plain F _ _ (by rw [hop]; intro c hc'; cases hc')]
    simp [execOp, hop, resolve, invoke, builtin, hs, hx, hrun, Result.andThen]
    exact hK' _ _ hK
theorem own_kep {w w' : World} {base e s n : Nat} {v : Value} {xs : List Value} (h : w.ownsRow base e s v n xs) (hk : ∀ g, v.ownBlock = some g → w'.heap[g]? = w.heap[g]?) : w'.ownsRow base e s v n xs := by
  refine ⟨h.1, ?_⟩
  rcases h.2 with h0 | ⟨g, cap, cur, rfl, hb, hg, hr⟩
  · exact .inl h0
  · exact .inr ⟨g, cap, cur, rfl, hb, (hk g rfl).trans hg, hr⟩

end Go.Proofs.Ytpmjkgpmidejoaa.Al
/-
  Copy, and what the document fixes.
-/
namespace Go.Proofs.Ytpmjkgpmidejoaa.Al
open Go.RowKit Go.Shelf

theorem size129 (n : Nat) (W : Nat → Nat) : (Try.prog.info? 129).map (·.size) = some (scells n W).toArray.size := by
  rw [List.size_toArray, scells_len]
  kernel_rfl
theorem scells_all (n : Nat) (W : Nat → Nat) : (scells n W).toArray.all (·.oneCell') = true := by
  rw [List.all_toArray, List.all_eq_true]
  intro u hu
  rw [scells, List.mem_cons] at hu
  rcases hu with rfl | hu
  · rfl
  · obtain ⟨q, _, rfl⟩ := List.mem_map.1 hu
    rfl

theorem copy_any (w : World) (b : Nat) (L : List Bool) (h : Spc w b L) :
    Calls Try.prog 75 #[.pointer (some ⟨b, 0, none⟩)] w fun e w' => e = .returned (.pointer (some ⟨w.heap.size, 0, none⟩)) ∧ Spc w' w.heap.size L ∧ Below w.heap.size w w' := by
  have hlt := h.lt
  obtain ⟨hl, W, h1, hb, h2⟩ := h
  have hz : (zeroValue 129).run Try.prog w = .ok (.agg (scells 0 fun _ => 0).toArray) w := (zero_of_info (P := Try.prog) (t := 129) (v := .agg (scells 0 fun _ => 0).toArray) (n := 65) (by kernel_rfl)).1 w
  have HN : Hid ((w.alloc (.cells (scells 0 fun _ => 0).toArray 129)).heap[w.heap.size]? = some (.cells (scells 0 fun _ => 0).toArray 129 (0, 0))) := heap_alloc_new w _
  have HB : Hid (w.heap[b]? = some (.cells (scells L.length W).toArray 129 (0, 0))) := hb
  clear hb
  go_enter Try.func75, Try.ntmps75
  go_wp2_with (first
    | refine wpList_load_row rfl 129 _ rfl _ rfl 129 _ (0, 0) _ HB.out Try.underlying129 rfl (size129 _ _) ?_
    | refine wpList_store_row rfl 129 _ _ rfl _ _ rfl rfl 129 _ HN.out (size129 _ _) (by rw [List.size_toArray, List.size_toArray, scells_len, scells_len]) (scells_all _ _) ?_)
  go_ret
  refine ⟨rfl, ⟨hl, W, h1, setRow_heap _ _ _ _ _ _ HN.out, h2⟩, ((Below.refl _ w).alloc (Nat.le_refl _) _).trans ⟨rfl, rfl, rfl, by simp, fun j hj => setRow_other _ _ _ _ (by omega)⟩⟩

end Go.Proofs.Ytpmjkgpmidejoaa.Al

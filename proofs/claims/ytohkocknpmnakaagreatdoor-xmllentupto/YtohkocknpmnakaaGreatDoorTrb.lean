/-
  A row of elements that grows by one: the step of append, and what is laid behind it.
-/
import Derived.Test.YtohkocknpmnakaaGreatDoorTre
import Derived.Deep.RegionHeld3
namespace Go.Proofs.YtohkocknpmnakaaGreatDoor
open Go.RowKit

theorem step_append_own {P : Program} {w : World} {ops : Array Oper} {o : Oper} {a : Act} {K : Act → World → Prop} {Q : Exit → Act → World → Prop} {E : Prop} (hgd : o.guard = none) (s x : Operand) (t : TypeId)
    (ho : o.op = .call { callee := .builtin .append, args := #[s, x], argTypes := #[t, t] })
    (base : Nat) (e : TypeId) (i : TypeInfo) (z : Value) (size bytes : Nat) (ht : P.underlying t = some (.slice e)) (hi : P.info? e = some i) (hz : i.zero = some z)
    (hsize : i.size = size) (hby : i.bytes = bytes) (hzs : z.cells.size = size) (hsz : 0 < size)
    (v : Value) (n : Nat) (xs : List Value) (hs : a.eval s = v) (hown : w.ownsRow base e size v n xs)
    (ad : Addr) (m c : Nat) (news : List Value) (hx : a.eval x = .slice (some ad) m c) (hl : news.length = m * size) (hnews : ∀ j u, news[j]? = some u → w.cell? (ad.add j) = some u) (h1 : ∀ u ∈ news, u.oneCell' = true)
    (h63 : n + m ≤ maxLen) (hbytes : (n + m) * bytes ≤ 140737488355328) (hbase : base ≤ w.heap.size)
    (h : ∀ v' w', w'.ownsRow base e size v' (n + m) (xs ++ news) → w.grownBy w' v.ownBlock → K (a.put o.dst v') w') :
    if Region.wanted o (yielded ops a.tmps) = true then Oper.wp P o a w K Q else E := by
  have hw : Region.wanted o (yielded ops a.tmps) = true := by simp [Region.wanted, hgd]
  rw [if_pos hw]
  exact wp_append_own w s x t ho base e i z size bytes ht hi hz hsize hby hzs hsz v n xs hs hown ad m c news hx hl hnews h1 h63 hbytes hbase fun v' w' h2 h3 _ => h v' w' h2 h3
/-- 'append' to a row of one's own: whether the row is the same or new. -/
theorem append_own2 {P : Program} (w : World) (base : Nat) (t ty e : TypeId) (i : TypeInfo) (z : Value) (size bytes : Nat) (ht : P.underlying t = some (.slice e)) (hi : P.info? e = some i) (hz : i.zero = some z)
    (hsize : i.size = size) (hby : i.bytes = bytes) (hzs : z.cells.size = size) (hsz : 0 < size)
    (v : Value) (n : Nat) (xs : List Value) (hown : w.ownsRow base e size v n xs)
    (a : Addr) (m c : Nat) (news : List Value) (hl : news.length = m * size) (hnews : ∀ j u, news[j]? = some u → w.cell? (a.add j) = some u) (h1 : ∀ u ∈ news, u.oneCell' = true)
    (h63 : n + m ≤ maxLen) (hbytes : (n + m) * bytes ≤ 140737488355328) (hbase : base ≤ w.heap.size) :
    ∃ v' w', (Builtin.append_ #[t, t] ty #[v, .slice (some a) m c]).run P w = .ok v' w' ∧ w'.ownsRow base e size v' (n + m) (xs ++ news) ∧ w.grownBy w' v.ownBlock ∧
      (v'.ownBlock = v.ownBlock ∨ ∀ k, v'.ownBlock = some k → w.heap.size ≤ k) := by
  obtain ⟨v', w', hr, h2, h3, h4⟩ := run_append_own (P := P) w base t ty e i z size bytes ht hi hz hsize hby hzs hsz v n xs hown a m c news hl hnews h1 h63 hbytes hbase
  refine ⟨v', w', hr, h2, h3, ?_⟩
  subst hsize hby
  have hsmall : n + m ≤ 9223372036854775807 := by simp only [maxLen] at h63; omega
  rcases hown.2 with ⟨rfl, rfl⟩ | ⟨g, cap, cur, rfl, hbg, hg, hnc, hcm, hcs, htake⟩
  · by_cases hm : m = 0
    · left
      rw [h4.2 ⟨rfl, hm⟩]
    · right
      have hr2 := run_append_nil (P := P) w t ty e i z ht hi hz a m c news hl hnews (by omega) (by omega) (by have hb := hbytes; simp only [Nat.zero_add] at hb; omega)
      rw [hr] at hr2
      simp only [Result.ok.injEq] at hr2
      obtain ⟨rfl, _⟩ := hr2
      intro k hk
      simp [Value.ownBlock] at hk
      omega
  · by_cases hroom : n + m ≤ cap
    · left
      have hfit : n * i.size + news.length ≤ cur.size := by rw [hl, hcs, ← Nat.add_mul]; exact Nat.mul_le_mul_right _ hroom
      have hr2 := run_append_room (P := P) w t ty e i ht hi g n cap cur hg a m c news hl hnews h1 hroom hfit
      rw [hr] at hr2
      simp only [Result.ok.injEq] at hr2
      obtain ⟨rfl, _⟩ := hr2
      rfl
    · right
      have hr2 := run_append_grow (P := P) w t ty e i z ht hi hz ⟨g, 0, none⟩ n cap xs hown.1 (hown.cells (g := g) rfl) a m c news hl hnews (by omega) (by omega) (growslice_fits (by omega) hbytes)
      rw [hr] at hr2
      simp only [Result.ok.injEq] at hr2
      obtain ⟨rfl, _⟩ := hr2
      intro k hk
      simp [Value.ownBlock] at hk
      omega
theorem step_append_two {P : Program} {w : World} {ops : Array Oper} {o : Oper} {a : Act} {K : Act → World → Prop} {Q : Exit → Act → World → Prop} {E : Prop} (hgd : o.guard = none) (s x : Operand) (t : TypeId)
    (ho : o.op = .call { callee := .builtin .append, args := #[s, x], argTypes := #[t, t] })
    (base : Nat) (e : TypeId) (i : TypeInfo) (z : Value) (size bytes : Nat) (ht : P.underlying t = some (.slice e)) (hi : P.info? e = some i) (hz : i.zero = some z)
    (hsize : i.size = size) (hby : i.bytes = bytes) (hzs : z.cells.size = size) (hsz : 0 < size)
    (v : Value) (n : Nat) (xs : List Value) (hs : a.eval s = v) (hown : w.ownsRow base e size v n xs)
    (ad : Addr) (m c : Nat) (news : List Value) (hx : a.eval x = .slice (some ad) m c) (hl : news.length = m * size) (hnews : ∀ j u, news[j]? = some u → w.cell? (ad.add j) = some u) (h1 : ∀ u ∈ news, u.oneCell' = true)
    (h63 : n + m ≤ maxLen) (hbytes : (n + m) * bytes ≤ 140737488355328) (hbase : base ≤ w.heap.size)
    (h : ∀ v' w', w'.ownsRow base e size v' (n + m) (xs ++ news) → w.grownBy w' v.ownBlock → (v'.ownBlock = v.ownBlock ∨ ∀ k, v'.ownBlock = some k → w.heap.size ≤ k) → K (a.put o.dst v') w') :
    if Region.wanted o (yielded ops a.tmps) = true then Oper.wp P o a w K Q else E := by
  have hw : Region.wanted o (yielded ops a.tmps) = true := by simp [Region.wanted, hgd]
  rw [if_pos hw]
  obtain ⟨v', w', hr, h2, h3, h4⟩ := append_own2 (P := P) w base t o.type e i z size bytes ht hi hz hsize hby hzs hsz v n xs hown ad m c news hl hnews h1 h63 hbytes hbase
  unfold Oper.wp execOp
  simp only [ho, resolve, invoke, builtin, Sem.run_bind, Sem.run_pure, Result.andThen_ok, List.map_toArray, List.map_cons, List.map_nil, hs, hx, hr]
  exact h v' w' h2 h3 h4
theorem cell_three_new (w : World) (a b c : Value) (t : TypeId) : ∀ j u, [a, b, c][j]? = some u → (w.alloc (.cells #[a, b, c] t)).cell? ((⟨w.heap.size, 0, none⟩ : Addr).add j) = some u := by
  intro j u hj
  rw [Addr.add_lit, World.cell?_alloc_mark]
  simpa using hj
theorem three_one (x y : ByteArray) (a : Option Addr) (n c : Nat) : ∀ u ∈ [Value.string x, .string y, .slice a n c], u.oneCell' = true := by
  intro u hu
  simp at hu
  rcases hu with rfl | rfl | rfl <;> rfl
/-- Behind an append: where the new element lies. -/
theorem own_at {w : World} {base : Nat} {e : TypeId} {v : Value} {n : Nat} {xs : List Value} {z1 z2 z3 : Value} (h : w.ownsRow base e 3 v (n + 1) (xs ++ [z1, z2, z3])) :
    ∃ g cap, v = .slice (some ⟨g, 0, none⟩) (n + 1) cap ∧ base ≤ g ∧ g < w.heap.size ∧ n + 1 ≤ cap ∧ cap ≤ maxLen ∧ w.cell? ⟨g, n * 3, none⟩ = some z1 ∧ w.cell? ⟨g, n * 3 + 1, none⟩ = some z2 ∧ w.cell? ⟨g, n * 3 + 2, none⟩ = some z3 ∧ (∀ j, w.frozen? ⟨g, j, none⟩ = false) := by
  have h0 := h
  obtain ⟨hx, ⟨h1, h2⟩ | ⟨g, cap, cur, h1, h2, h3, h4, h5, h6, h7⟩⟩ := h
  · omega
  · subst h1
    have hxl : xs.length = n * 3 := by simp at hx; omega
    have c1 := h0.cellAt (n * 3) (by omega)
    have c2 := h0.cellAt (n * 3 + 1) (by omega)
    have c3 := h0.cellAt (n * 3 + 2) (by omega)
    refine ⟨g, cap, rfl, h2, blk_lt h3, h4, h5, ?_, ?_, ?_, fun j => frozen_blk h3 j⟩
    · rw [c1, List.getElem?_append_right (by omega), hxl, Nat.sub_self]; rfl
    · rw [c2, List.getElem?_append_right (by omega), hxl, show n * 3 + 1 - n * 3 = 1 by omega]; rfl
    · rw [c3, List.getElem?_append_right (by omega), hxl, show n * 3 + 2 - n * 3 = 2 by omega]; rfl
theorem take_set3 (l xs : List Value) (n : Nat) (a b c z1 z2 z3 : Value) (h : l.take ((n + 1) * 3) = xs ++ [z1, z2, z3]) (hx : xs.length = n * 3) : (((l.set (n * 3) a).set (n * 3 + 1) b).set (n * 3 + 2) c).take ((n + 1) * 3) = xs ++ [a, b, c] := by
  rw [List.take_set, List.take_set, List.take_set, h]
  rw [← hx]
  simp
/-- The new element's cells are set. -/
theorem own_set3 {w : World} {base : Nat} {e : TypeId} {g cap n : Nat} {xs : List Value} {z1 z2 z3 : Value} (a b c : Value) (h : w.ownsRow base e 3 (.slice (some ⟨g, 0, none⟩) (n + 1) cap) (n + 1) (xs ++ [z1, z2, z3])) :
    (((w.setCell ⟨g, n * 3, none⟩ a).setCell ⟨g, n * 3 + 1, none⟩ b).setCell ⟨g, n * 3 + 2, none⟩ c).ownsRow base e 3 (.slice (some ⟨g, 0, none⟩) (n + 1) cap) (n + 1) (xs ++ [a, b, c]) := by
  obtain ⟨hx, ⟨h1, h2⟩ | ⟨g', cap', cur, h1, h2, h3, h4, h5, h6, h7⟩⟩ := h
  · omega
  · simp only [Value.slice.injEq, Option.some.injEq, Addr.mk.injEq] at h1
    obtain ⟨⟨rfl, -, -⟩, -, rfl⟩ := h1
    have hxl : xs.length = n * 3 := by simp at hx; omega
    refine ⟨by simp [hxl]; omega, .inr ⟨g, cap, _, rfl, h2, set_blk (set_blk (set_blk h3 _ _) _ _) _ _, h4, h5, ?_, ?_⟩⟩
    · simp [h6]
    · simp only [Array.toList_setIfInBounds]
      exact take_set3 _ _ _ _ _ _ _ _ _ h7 hxl

/-- A row that grew by an append, the new element laid into it (or there already), and perhaps other blocks turned: all that the elders and the new one hold stands. -/
theorem kr_grow {e : TypeId} {k : Nat} {wr X w5 WF : World} {F : Nat → Prop} {L base : Nat} {v : Value} {g cap : Nat} {ks : List Nod} {hs : List (Option Addr × Nat)} {t : Nod} {a : Option Addr} {c : Nat}
    (hlh : hs.length = ks.length)
    (hks : ∀ j (hj : j < ks.length), Kd (fun b => L ≤ b ∧ v.ownBlock ≠ some b) k wr (hs[j]'(by omega)).1 (ks[j]).ks)
    (ht : Kd (fun b => L ≤ b ∧ v.ownBlock ≠ some b) k X a t.ks) (hX : Md F wr X) (hF : ∀ b, b < wr.heap.size → L ≤ b → v.ownBlock ≠ some b → ¬ F b)
    (h5 : X.grownBy w5 v.ownBlock) (hv : (Value.slice (some ⟨g, 0, none⟩) (ks.length + 1) cap).ownBlock = v.ownBlock ∨ ∀ b, (Value.slice (some ⟨g, 0, none⟩) (ks.length + 1) cap).ownBlock = some b → X.heap.size ≤ b)
    {F2 : Nat → Prop} (h6 : Md (fun b => b = g ∨ F2 b) w5 WF) (hF2 : ∀ b, L ≤ b → ¬ F2 b)
    (hown : WF.ownsRow base e 3 (.slice (some ⟨g, 0, none⟩) (ks.length + 1) cap) (ks.length + 1) (ncs ks hs ++ [.string ⟨t.nm.toArray⟩, .string ⟨t.tx.toArray⟩, .slice a t.ks.length c])) :
    KR e (fun b => L ≤ b ∧ (Value.slice (some ⟨g, 0, none⟩) (ks.length + 1) cap).ownBlock ≠ some b) k WF base (.slice (some ⟨g, 0, none⟩) (ks.length + 1) cap) (ks ++ [t]) := by
  have hvb : ∀ b, b < X.heap.size → v.ownBlock ≠ some b → b ≠ g := by
    rintro b hb hne rfl
    rcases hv with h | h
    · exact hne (h ▸ rfl)
    · have := h b rfl
      omega
  have key : ∀ {a : Option Addr} {ts : List Nod}, Kd (fun b => L ≤ b ∧ v.ownBlock ≠ some b) k X a ts → Kd (fun b => L ≤ b ∧ (Value.slice (some ⟨g, 0, none⟩) (ks.length + 1) cap).ownBlock ≠ some b) k WF a ts := by
    intro a ts hh
    have h1 : Kd (fun b => (L ≤ b ∧ b ≠ g) ∧ v.ownBlock ≠ some b) k X a ts := hh.mono (fun b hb hlt => ⟨⟨hb.1, hvb b hlt hb.2⟩, hb.2⟩)
    have h2 := h1.md (Md.ofGrown h5) (fun b hb hg hf => hg.2 hf)
    have h3 := h2.md h6 (fun b hb hg hf => hf.elim (fun h => hg.1.2 h) (fun h => hF2 b hg.1.1 h))
    exact h3.mono (fun b hb _ => ⟨hb.1.1, fun hc => by
      simp only [Value.ownBlock, Option.some.injEq] at hc
      exact hb.1.2 hc.symm⟩)
  refine ⟨hs ++ [(a, c)], by simp [hlh], ?_, fun j hj => ?_⟩
  · rw [ncs_app ks hs t (a, c) hlh, List.length_append]
    exact hown
  · simp only [List.length_append, List.length_cons, List.length_nil] at hj
    by_cases hj2 : j < ks.length
    · simp only [List.getElem_append_left hj2, List.getElem_append_left (show j < hs.length by omega)]
      exact key ((hks j hj2).md hX (fun b hb hg => hF b hb hg.1 hg.2))
    · obtain rfl : j = ks.length := by omega
      have e1 : (ks ++ [t])[ks.length]'(by simp) = t := by simp
      have e2 : (hs ++ [(a, c)])[ks.length]'(by simp [hlh]) = (a, c) := by simp [← hlh]
      rw [e1, e2]
      exact key ht
end Go.Proofs.YtohkocknpmnakaaGreatDoor

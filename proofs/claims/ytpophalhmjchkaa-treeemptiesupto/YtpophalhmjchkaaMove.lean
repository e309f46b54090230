/-
  A tree that keeps clear of a block stands where that block alone is turned.
-/
import Derived.Test.YtpophalhmjchkaaDel
namespace Go.Proofs.Ytpophalhmjchkaa
open Go.RowKit

/-- What may be between two worlds, and two blocks to keep clear of. -/
structure Mv (A A' : Avd) (W W' : World) : Prop where
  keep : ∀ q, q < W.heap.size → some q ≠ A.g → W'.heap[q]? = W.heap[q]?
  ne : ∀ q, q < W.heap.size → some q ≠ A.g → some q ≠ A'.g
  av : @Av A' W'
  size : W.heap.size ≤ W'.heap.size
  tag : ∀ q, A.g = some q → ∃ cur, W.heap[q]? = some (.cells cur 9 (0, 0))
theorem Mv.box {A A' : Avd} {W W' : World} (h : Mv A A' W W') {b t : Nat} {c : Array Value} (hb : W.heap[b]? = some (.cells c t (0, 0))) (ht : t ≠ 9) : W'.heap[b]? = some (.cells c t (0, 0)) := by
  refine (h.keep b (Array.getElem?_eq_some_iff.1 hb).1 (fun e => ?_)).trans hb
  obtain ⟨cur, h2⟩ := h.tag b e.symm
  rw [hb] at h2
  simp only [Option.some.injEq, Obj.cells.injEq] at h2
  exact ht h2.2.1
theorem Sl.move {A A' : Avd} {W W' : World} (m : Mv A A' W W') {size : Nat} {a : Option Addr} {n c : Nat} {vs : List Value} (h : @Sl A W size a n c vs) : @Sl A' W' size a n c vs := by
  obtain ⟨cl, ln, cp, nl, sp, on, ok, _⟩ := h
  refine ⟨?_, ln, cp, nl, sp, on, ?_, m.av⟩
  · by_cases e0 : vs = []
    · exact .inl e0
    · rcases cl with h0 | ⟨b, off, e, hl, hc⟩
      · exact .inl h0
      · refine .inr ⟨b, off, e, Nat.lt_of_lt_of_le hl m.size, fun j hj => ?_⟩
        exact (World.cell?_of_block (m.keep b hl (ok e0 _ e))).trans (hc j hj)
  · intro e0 x ex
    rcases cl with h0 | ⟨b, off, e, hl, _⟩
    · exact (e0 h0).elim
    · rw [e] at ex
      cases ex
      exact m.ne b hl (ok e0 _ e)
theorem Nd.move {A A' : Avd} {W W' : World} (m : Mv A A' W W') : ∀ {h : Nat} {v : Value} {t : T}, @Nd A W h v t → @Nd A' W' h v t
  | 0, _, .leaf _, hn => by
    obtain ⟨b, e, a, c, h1, h2⟩ := hn
    exact ⟨b, e, a, c, m.box h1 (by decide), Sl.move m h2⟩
  | h + 1, _, .inner _ _, hn => by
    obtain ⟨b, e, a1, c1, a2, c2, vs, h1, h2, h3, h4⟩ := hn
    exact ⟨b, e, a1, c1, a2, c2, vs, m.box h1 (by decide), Sl.move m h2, Sl.move m h3, h4.mono (fun _ _ h5 => Nd.move m h5)⟩
  | 0, _, .inner _ _, hn => hn.elim
  | _ + 1, _, .leaf _, hn => hn.elim
theorem Tr.move {A A' : Avd} {W W' : World} (m : Mv A A' W W') {b h : Nat} {t : T} (ht : @Tr A W b h t) : @Tr A' W' b h t := by
  obtain ⟨v, h1, h2, h3⟩ := ht
  exact ⟨v, m.box h1 (by decide), Nd.move m h2, h3⟩
/-- The block that a list of texts lies in is kept clear of. -/
abbrev Clr (v : Value) : Avd := ⟨v.ownBlock⟩
theorem tag_of {W : World} {base : Nat} {v : Value} {n : Nat} {xs : List Value} (h : W.ownsRow base 9 1 v n xs) : ∀ q, (Clr v).g = some q → ∃ cur, W.heap[q]? = some (.cells cur 9 (0, 0)) := by
  intro q hq0
  have hq : v.ownBlock = some q := hq0
  clear hq0
  obtain ⟨hl, ⟨rfl, h0⟩ | ⟨g, cap, cur, rfl, hb, hg, hr⟩⟩ := h
  · simp [Value.ownBlock] at hq
  · simp only [Value.ownBlock, Option.some.injEq] at hq
    subst hq
    exact ⟨cur, hg⟩
theorem av_of {W : World} {base : Nat} {v : Value} {n : Nat} {xs : List Value} (h : W.ownsRow base 9 1 v n xs) : @Av (Clr v) W := fun q hq => (owns_lt h q hq).2
/-- The list grows: the tree stands, and keeps clear of the grown list. -/
theorem Mv.grow {W W' : World} {base : Nat} {v v' : Value} {n n' : Nat} {xs xs' : List Value} (h : W.ownsRow base 9 1 v n xs) (h' : W'.ownsRow base 9 1 v' n' xs') (hg : W.grownBy W' v.ownBlock) (hv : v'.ownBlock = v.ownBlock ∨ ∀ k, v'.ownBlock = some k → W.heap.size ≤ k) : Mv (Clr v) (Clr v') W W' := by
  refine ⟨fun q hq hne => hg.block q hq hne, fun q hq hne e => ?_, av_of h', hg.size, tag_of h⟩
  rcases hv with hv | hv
  · exact hne (by rw [e]; exact hv)
  · have := hv q e.symm
    omega
theorem Mv.none {W : World} {base : Nat} {v : Value} {n : Nat} {xs : List Value} (h : W.ownsRow base 9 1 v n xs) : Mv (Clr v) avdNone W W := ⟨fun _ _ _ => rfl, fun _ _ _ e => (by cases e), Av.none W, Nat.le_refl _, tag_of h⟩
/-- 'append' to a row of one's own: whether the row is the same or new. -/
theorem append_ownE {P : Program} (w : World) (base : Nat) (t ty e : TypeId) (i : TypeInfo) (z : Value) (size bytes : Nat) (ht : P.underlying t = some (.slice e)) (hi : P.info? e = some i) (hz : i.zero = some z)
    (hsize : i.size = size) (hby : i.bytes = bytes) (hzs : z.cells.size = size) (hsz : 0 < size)
    (v : Value) (n : Nat) (xs : List Value) (hown : w.ownsRow base e size v n xs)
    (a : Addr) (m c : Nat) (news : List Value) (hl : news.length = m * size) (hnews : ∀ j u, news[j]? = some u → w.cell? (a.add j) = some u) (h1 : ∀ u ∈ news, u.oneCell' = true)
    (h63 : n + m ≤ maxLen) (hbytes : (n + m) * bytes ≤ 140737488355328) (hbase : base ≤ w.heap.size) :
    ∃ v' w', (Builtin.append_ #[t, t] ty #[v, .slice (some a) m c]).run P w = .ok v' w' ∧ w'.ownsRow base e size v' (n + m) (xs ++ news) ∧ w.grownBy w' v.ownBlock ∧
      (v'.ownBlock = v.ownBlock ∨ ∀ k, v'.ownBlock = some k → w.heap.size ≤ k) := by
  obtain ⟨v', w', hr, h2, h3, h4⟩ := run_append_own (P := P) w base t ty e i z size bytes ht hi hz hsize hby hzs hsz v n xs hown a m c news hl hnews h1 h63 hbytes hbase
  refine ⟨v', w', hr, h2, h3, ?_⟩
  subst hsize hby
  have hsmall : n + m ≤ 9223372036854775807 := by simp only [maxLen] at h63; omega
  rcases hown.2 with ⟨rfl, rfl⟩ | ⟨g, cap, cur, rfl, hbg, hg, hnc, hcm, hcs, htake⟩
  · by_cases hm : m = 0
    · left
      rw [h4.2 ⟨rfl, hm⟩]
    · right
      have hr2 := run_append_nil (P := P) w t ty e i z ht hi hz a m c news hl hnews (by omega) (by omega) (by have hb := hbytes; simp only [Nat.zero_add] at hb; omega)
      rw [hr] at hr2
      simp only [Result.ok.injEq] at hr2
      obtain ⟨rfl, _⟩ := hr2
      intro k hk
      simp [Value.ownBlock] at hk
      omega
  · by_cases hroom : n + m ≤ cap
    · left
      have hfit : n * i.size + news.length ≤ cur.size := by rw [hl, hcs, ← Nat.add_mul]; exact Nat.mul_le_mul_right _ hroom
      have hr2 := run_append_room (P := P) w t ty e i ht hi g n cap cur hg a m c news hl hnews h1 hroom hfit
      rw [hr] at hr2
      simp only [Result.ok.injEq] at hr2
      obtain ⟨rfl, _⟩ := hr2
      rfl
    · right
      have hr2 := run_append_grow (P := P) w t ty e i z ht hi hz ⟨g, 0, none⟩ n cap xs hown.1 (hown.cells (g := g) rfl) a m c news hl hnews (by omega) (by omega) (growslice_fits (by omega) hbytes)
      rw [hr] at hr2
      simp only [Result.ok.injEq] at hr2
      obtain ⟨rfl, _⟩ := hr2
      intro k hk
      simp [Value.ownBlock] at hk
      omega
end Go.Proofs.Ytpophalhmjchkaa

/-
  The document's own space: whether units are of one kind, making them so; Take, Give, Mark, Free.
-/
import Derived.Test.YthbgbehmknnohaaBackM
namespace Go.Proofs.Ythbgbehmknnohaa
open Go.RowKit Go.Shelf

/-- Bools that lie at the head of a block. -/
def RRow (W : World) (g : Nat) (T : List Bool) : Prop := ∃ cur, W.heap[g]? = some (.cells cur 4 (0, 0)) ∧ ∀ j (h : j < T.length), cur[j]? = some (.bool T[j])
theorem RRow.cell {w : World} {g : Nat} {T : List Bool} (h : RRow w g T) {j : Nat} (hj : j < T.length) : w.cell? ⟨g, j, none⟩ = some (.bool T[j]) := by
  obtain ⟨cur, h1, h2⟩ := h
  rw [cell_blk h1, h2 j hj]
theorem RRow.free {w : World} {g : Nat} {T : List Bool} (h : RRow w g T) (j : Nat) : w.frozen? ⟨g, j, none⟩ = false := by
  obtain ⟨cur, h1, h2⟩ := h
  exact frozen_blk h1 j
theorem RRow.lt {w : World} {g : Nat} {T : List Bool} (h : RRow w g T) : g < w.heap.size := by
  obtain ⟨cur, h1, h2⟩ := h
  exact (Array.getElem?_eq_some_iff.1 h1).1
theorem RRow.set {w : World} {g : Nat} {T : List Bool} (h : RRow w g T) {j : Nat} (hj : j < T.length) (x : Bool) : RRow (w.setCell ⟨g, j, none⟩ (.bool x)) g (T.set j x) := by
  obtain ⟨cur, h1, h2⟩ := h
  refine ⟨_, set_blk h1 j _, fun i hi => ?_⟩
  rw [List.length_set] at hi
  have hjc : j < cur.size := by
    have := h2 j hj
    exact (Array.getElem?_eq_some_iff.1 this).1
  rw [Array.getElem?_setIfInBounds, List.getElem_set]
  by_cases e : j = i
  · subst e; rw [if_pos rfl, if_pos hjc, if_pos rfl]
  · rw [if_neg e, if_neg e]; exact h2 i hi
theorem RRow.kept {w w' : World} {g : Nat} {T : List Bool} (h : RRow w g T) (hk : w'.heap[g]? = w.heap[g]?) : RRow w' g T := by
  obtain ⟨cur, h1, h2⟩ := h
  exact ⟨cur, hk.trans h1, h2⟩
/-- The document's space in memory. -/
structure RSp (W : World) (r g : Nat) (L : List Bool) : Prop where
  len : L.length ≤ 4096
  box : ∃ a c, W.heap[r]? = some (.cells #[.slice a L.length c] 59 (0, 0)) ∧ ((L = [] ∧ (a = none → c = 0)) ∨ (a = some ⟨g, 0, none⟩ ∧ RRow W g L))
theorem RSp.lt {W : World} {r g : Nat} {L : List Bool} (h : RSp W r g L) : r < W.heap.size := by
  obtain ⟨_, a, c, h1, _⟩ := h
  exact (Array.getElem?_eq_some_iff.1 h1).1
theorem RSp.kept {W W' : World} {r g : Nat} {L : List Bool} (h : RSp W r g L) (hr : W'.heap[r]? = W.heap[r]?) (hg : L ≠ [] → W'.heap[g]? = W.heap[g]?) : RSp W' r g L := by
  obtain ⟨h0, a, c, h1, h2⟩ := h
  refine ⟨h0, a, c, hr.trans h1, ?_⟩
  rcases h2 with h2 | ⟨h2, h3⟩
  · exact .inl h2
  · by_cases e : L = []
    · exact .inl ⟨e, fun h => by rw [h2] at h; cases h⟩
    · exact .inr ⟨h2, h3.kept (hg e)⟩
theorem RSp.below {W W' : World} {r g : Nat} {L : List Bool} (h : RSp W r g L) (hb : Below W.heap.size W W') : RSp W' r g L := by
  refine h.kept (hb.block _ h.lt) (fun e => ?_)
  obtain ⟨h0, a, c, h1, h2⟩ := h
  rcases h2 with h2 | ⟨h2, h3⟩
  · exact (e h2.1).elim
  · exact hb.block _ h3.lt

set_option maxRecDepth 20000 in
set_option maxHeartbeats 2000000 in
theorem all_bad (w : World) (r g : Nat) (L : List Bool) (s k : Int) (t : Bool) (h : RSp w r g L) (hb : k < 1 ∨ s < 0 ∨ (L.length : Int) < s ∨ (L.length : Int) - s < k) :
    Calls Try.prog 24 #[.pointer (some ⟨r, 0, none⟩), .int .i64 s, .int .i64 k, .bool t] w fun e w' => e = .returned (.bool false) ∧ w = w' := by
  obtain ⟨hl, a, c, h1, h2⟩ := h
  have c0 := box_cell h1
  clear h1 h2
  obtain ⟨n, hn⟩ : ∃ n, n = L.length := ⟨_, rfl⟩
  rw [← hn] at c0 hb hl
  clear hn
  by_cases t1 : k < 1
  · clear hb
    go_enter Try.func24, Try.ntmps24
    go_wp2
    go_ret
    exact ⟨rfl, rfl⟩
  · by_cases t2 : s < 0
    · clear hb
      go_enter Try.func24, Try.ntmps24
      go_wp2
      go_ret
      exact ⟨rfl, rfl⟩
    · by_cases t3 : (n : Int) < s
      · clear hb
        go_enter Try.func24, Try.ntmps24
        go_wp2
        go_ret
        exact ⟨rfl, rfl⟩
      · have t4 : (n : Int) - s < k := by omega
        clear hb
        go_enter Try.func24, Try.ntmps24
        go_wp2
        go_ret
        exact ⟨rfl, rfl⟩

set_option maxRecDepth 20000 in
set_option maxHeartbeats 2000000 in
theorem all_good (w : World) (r g : Nat) (L : List Bool) (s k : Nat) (t : Bool) (h : RSp w r g L) (hk : 1 ≤ k) (hle : s + k ≤ L.length) (j0 : Nat) (res : Bool) (hj0 : j0 ≤ k) (ha : allB L s j0 t) (hr : (res = true ∧ j0 = k) ∨ (res = false ∧ j0 < k ∧ L[s + j0]? = some (!t))) :
    Calls Try.prog 24 #[.pointer (some ⟨r, 0, none⟩), .int .i64 (s : Int), .int .i64 (k : Int), .bool t] w fun e w' => e = .returned (.bool res) ∧ w = w' := by
  obtain ⟨hl, a, c, h1, h2⟩ := h
  have hne : L ≠ [] := by intro e; subst e; simp at hle; omega
  obtain ⟨rfl, hrow⟩ : a = some ⟨g, 0, none⟩ ∧ RRow w g L := h2.resolve_left (fun h => hne h.1)
  have c0 := box_cell h1
  have HC : Hid (∀ j (hj : j < L.length), w.cell? ⟨g, j, none⟩ = some (.bool L[j])) := fun j hj => hrow.cell hj
  have HA : Hid (allB L s j0 t ∧ ((res = true ∧ j0 = k) ∨ (res = false ∧ j0 < k ∧ L[s + j0]? = some (!t)))) := ⟨ha, hr⟩
  clear h1 h2 hrow ha hr hne
  obtain ⟨n, hn⟩ : ∃ n, n = L.length := ⟨_, rfl⟩
  rw [← hn] at c0 hl hle
  have HN : Hid (n = L.length) := hn
  clear hn
  have t1 : ¬ (k : Int) < 1 := by omega
  have t2 : ¬ (s : Int) < 0 := by omega
  have t3 : ¬ (n : Int) < (s : Int) := by omega
  have t4 : ¬ (n : Int) - (s : Int) < (k : Int) := by omega
  go_enter Try.func24, Try.ntmps24
  go_wp2
  go_loop [9] (fun v => ∃ j : Nat, v = .int .i64 ((s : Int) + (j : Int)) ∧ j ≤ j0) (fun v => s + k - (intOf v).toNat)
  case atStart => exact ⟨0, by simp, Nat.zero_le _⟩
  case round =>
    obtain ⟨j, rfl, hj⟩ := hrel
    by_cases hjk : j < k
    · have hjI : (s : Int) + (j : Int) < (s : Int) + (k : Int) := by omega
      have hu : s + j < L.length := by have := HN.out; omega
      have cg := HC.out (s + j) hu
      have esj : ((s : Int) + (j : Int)).toNat = s + j := by omega
      have hjn : (s : Int) + (j : Int) < (n : Int) := by omega
      by_cases hlt : j < j0
      · have hv : L[s + j] = t := by have := HA.out.1 j hlt; rw [List.getElem?_eq_getElem hu] at this; exact Option.some.inj this
        rw [hv] at cg
        clear hv hu
        go_wp2
        go_round
        case rel => exact ⟨j + 1, by go_num, by omega⟩
        case measure => simp [intOf]; omega
      · obtain rfl : j0 = j := by omega
        rcases HA.out.2 with ⟨_, e⟩ | ⟨rfl, _, e⟩
        · omega
        · have hv : L[s + j0] = !t := by rw [List.getElem?_eq_getElem hu] at e; exact Option.some.inj e
          rw [hv] at cg
          have hne : ((!t) != t) = true := by cases t <;> rfl
          clear hv hu e
          go_wp2
          go_ret
          exact ⟨rfl, rfl⟩
    · obtain rfl : j = k := by omega
      have hjI : ¬ (s : Int) + (j : Int) < (s : Int) + (j : Int) := by omega
      have hres : res = true := by
        rcases HA.out.2 with ⟨e, _⟩ | ⟨_, e, _⟩
        · exact e
        · omega
      subst hres
      go_wp2
      go_ret
      exact ⟨rfl, rfl⟩
/-- Whether units are there and of one kind. -/
theorem all_any (w : World) (r g : Nat) (L : List Bool) (s k : Int) (t : Bool) (h : RSp w r g L) :
    Calls Try.prog 24 #[.pointer (some ⟨r, 0, none⟩), .int .i64 s, .int .i64 k, .bool t] w fun e w' => e = .returned (.bool (turnB L s k t)) ∧ w = w' := by
  by_cases hb : k < 1 ∨ s < 0 ∨ (L.length : Int) < s ∨ (L.length : Int) - s < k
  · have : turnB L s k t = false := by
      rw [Bool.eq_false_iff]
      intro h2
      obtain ⟨a1, a2, a3, _⟩ := turnB_iff.1 h2
      omega
    rw [this]
    exact all_bad w r g L s k t h hb
  · obtain ⟨S, rfl⟩ : ∃ S : Nat, s = (S : Int) := ⟨s.toNat, by omega⟩
    obtain ⟨K, rfl⟩ : ∃ K : Nat, k = (K : Int) := ⟨k.toNat, by omega⟩
    by_cases ha : allB L S K t
    · have : turnB L S K t = true := turnB_iff.2 ⟨by omega, by omega, by omega, by simpa using ha⟩
      rw [this]
      exact all_good w r g L S K t h (by omega) (by omega) K true (Nat.le_refl _) ha (.inl ⟨rfl, rfl⟩)
    · have : turnB L S K t = false := by
        rw [Bool.eq_false_iff]
        intro h4
        exact ha (by simpa using (turnB_iff.1 h4).2.2.2)
      rw [this]
      obtain ⟨j, h1, h2, h3⟩ := allB_first (k := K) (by omega) ha
      exact all_good w r g L S K t h (by omega) (by omega) j false (by omega) h2 (.inr ⟨rfl, h1, h3⟩)

set_option maxRecDepth 20000 in
set_option maxHeartbeats 2000000 in
theorem put_any (w : World) (r g : Nat) (L : List Bool) (s k : Nat) (t : Bool) (h : RSp w r g L) (hk : 1 ≤ k) (hle : s + k ≤ L.length) :
    Calls Try.prog 25 #[.pointer (some ⟨r, 0, none⟩), .int .i64 (s : Int), .int .i64 (k : Int), .bool t] w fun e w' => (∃ v, e = .returned v) ∧ RSp w' r g (putB L s k t) ∧ Kep (fun q => q ≠ g) w w' := by
  obtain ⟨hl, a, c, h1, h2⟩ := h
  have hne : L ≠ [] := by intro e; subst e; simp at hle; omega
  obtain ⟨rfl, hrow⟩ : a = some ⟨g, 0, none⟩ ∧ RRow w g L := h2.resolve_left (fun h => hne h.1)
  have hrg : r ≠ g := by
    intro e
    obtain ⟨cur, h3, _⟩ := hrow
    rw [e, h3] at h1
    simp at h1
  have HB : Hid (w.heap[r]? = some (.cells #[.slice (some ⟨g, 0, none⟩) L.length c] 59 (0, 0)) ∧ r ≠ g) := ⟨h1, hrg⟩
  have HR : Hid (RRow w g L) := hrow
  clear h1 h2 hrow hne hrg
  obtain ⟨n, hn⟩ : ∃ n, n = L.length := ⟨_, rfl⟩
  rw [← hn] at hl hle HB
  have HN : Hid (n = L.length) := hn
  clear hn
  go_enter Try.func25, Try.ntmps25
  go_wp2
  go_loopw [8] (fun v wr => ∃ j : Nat, v = .int .i64 ((s : Int) + (j : Int)) ∧ j ≤ k ∧ RRow wr g (putB L s j t) ∧ Kep (fun q => q ≠ g) w wr) (fun v _ => s + k - (intOf v).toNat)
  case atStart => exact ⟨0, by simp, Nat.zero_le _, by rw [putB_zero]; exact HR.out, Kep.refl _ _⟩
  case round =>
    obtain ⟨j, rfl, hj, hrow, hkp⟩ := hrel
    have HL := HN.out
    have HLL : Hid (n = L.length) := HL
    by_cases hjk : j < k
    · have hjI : (s : Int) + (j : Int) < (s : Int) + (k : Int) := by omega
      have hpl : (putB L s j t).length = L.length := putB_len t (by omega)
      have hu : s + j < (putB L s j t).length := by omega
      have cg := hrow.cell hu
      have fg := hrow.free (s + j)
      have c0 : wr.cell? ⟨r, 0, none⟩ = some (.slice (some ⟨g, 0, none⟩) n c) := box_cell ((hkp.keep r (Array.getElem?_eq_some_iff.1 HB.out.1).1 HB.out.2).trans HB.out.1)
      have esj : ((s : Int) + (j : Int)).toNat = s + j := by omega
      have hjn : (s : Int) + (j : Int) < (n : Int) := by omega
      obtain ⟨y, hy⟩ : ∃ y, y = (putB L s j t)[s + j] := ⟨_, rfl⟩
      rw [← hy] at cg
      have HE : Hid (RRow (wr.setCell ⟨g, s + j, none⟩ (.bool t)) g (putB L s (j + 1) t) ∧ Kep (fun q => q ≠ g) w (wr.setCell ⟨g, s + j, none⟩ (.bool t))) := (by
        refine ⟨?_, hkp.trans (Kep.set wr _ (by simp))⟩
        rw [← putB_step (by omega)]
        exact hrow.set hu _)
      clear hy hrow hkp hpl hu HL
      go_wp2
      go_roundw
      case rel => exact ⟨j + 1, by go_num, by omega, HE.out⟩
      case measure => simp [intOf]; omega
    · obtain rfl : j = k := by omega
      have hjI : ¬ (s : Int) + (j : Int) < (s : Int) + (j : Int) := by omega
      have hpl : (putB L s j t).length = L.length := putB_len t (by omega)
      have HE : Hid (RSp wr r g (putB L s j t) ∧ Kep (fun q => q ≠ g) w wr) := (by
        refine ⟨⟨by rw [hpl]; omega, some ⟨g, 0, none⟩, c, ?_, .inr ⟨rfl, hrow⟩⟩, hkp⟩
        rw [hpl, ← HL]
        exact (hkp.keep r (Array.getElem?_eq_some_iff.1 HB.out.1).1 HB.out.2).trans HB.out.1)
      clear hrow hkp hpl HL
      go_wp2
      go_end0
      exact ⟨⟨_, rfl⟩, HE.out⟩
end Go.Proofs.Ythbgbehmknnohaa

/-
  isSignature, slices.IndexFunc of pairs by it.
-/
import Derived.Test.YtnmffehmjgknkaaGreatDoorQyA
import Derived.Deep.RegionHeld3
import Derived.Deep.Cut
import Derived.Test.YtnmffehmjgknkaaGreatDoorRunM
import Derived.Lib.SliceRun
namespace Go.Proofs.YtnmffehmjgknkaaGreatDoor
open Go.RowKit

/-- The name of the pair that holds the signature. -/
def sgB : List UInt8 := [88, 45, 65, 109, 122, 45, 83, 105, 103, 110, 97, 116, 117, 114, 101]
/-- The names' table holds it. -/
def Px (w : World) : Prop := w.cell? ⟨0, 5, none⟩ = some (.string ⟨sgB.toArray⟩)
theorem Px.pos {w : World} (h : Px w) : 0 < w.heap.size := block_lt_of_cell h
theorem Px.below {w w' : World} (h : Px w) {B : Nat} (hb : Below B w w') (hB : w.heap.size ≤ B) : Px w' := by
  have hp := h.pos
  exact (hb.cell (p := ⟨0, 5, none⟩) (by show 0 < B; omega)).trans h
theorem Px.below0 {w w' : World} (h : Px w) {B : Nat} (hb : Below B w w') (hB : 0 < B) : Px w' := (hb.cell (p := ⟨0, 5, none⟩) hB).trans h
def notSig (h : Hd) : Bool := !(h.1 == sgB)
set_option maxHeartbeats 1000000 in
theorem isSig_any (a b : List UInt8) (w : World) (h : Px w) : Calls Tryz.prog 33 #[.agg #[.string ⟨a.toArray⟩, .string ⟨b.toArray⟩]] w fun e w' => e = .returned (.bool (a == sgB)) ∧ Below w.heap.size w w' := by
  obtain ⟨c, hc⟩ : ∃ c, c = (a == sgB) := ⟨_, rfl⟩
  have HC := (show Hid (c = (a == sgB)) from hc)
  rw [← hc]
  clear hc
  have hp := h.pos
  go_enter Tryz.func33, Tryz.ntmps33
  go_upto_region 1 with fail
  obtain ⟨W, hW⟩ : ∃ W, W = w.alloc (.cells #[.string ⟨a.toArray⟩, .string ⟨b.toArray⟩] 61) := ⟨_, rfl⟩
  obtain ⟨A, hA⟩ : ∃ A, A = w.heap.size := ⟨_, rfl⟩
  have nA : W.heap[A]? = some (.cells #[.string ⟨a.toArray⟩, .string ⟨b.toArray⟩] 61 (0, 0)) := by rw [hW, hA]; exact heap_alloc_new _ _
  have a0 : W.cell? ⟨A, 0, none⟩ = some (.string ⟨a.toArray⟩) := by have := cell_blk nA 0; simpa using this
  have hBW : Below w.heap.size w W := by rw [hW]; exact (Below.refl _ w).alloc (Nat.le_refl _) _
  have b0 : W.cell? ⟨0, 5, none⟩ = some (.string ⟨sgB.toArray⟩) := h.below hBW (Nat.le_refl _)
  have HB := (show Hid (Below w.heap.size w W) from hBW)
  rw [← hW, ← hA]
  clear hW hA nA hBW h hp
  go_wp2_with fail
  go_ret
  rw [HC.out]
  exact ⟨rfl, HB.out⟩
end Go.Proofs.YtnmffehmjgknkaaGreatDoor
/-
  slices.IndexFunc of pairs by isSignature.
-/
namespace Go.Proofs.YtnmffehmjgknkaaGreatDoor
open Go.RowKit

/-- The place of the pair that holds the signature. -/
def idxS (L : List Hd) : Nat := (L.takeWhile notSig).length
def idxI (L : List Hd) : Int := if idxS L < L.length then (idxS L : Int) else -1
theorem idxS_le (L : List Hd) : idxS L ≤ L.length := (List.takeWhile_prefix _).length_le
theorem idxS_hit {L : List Hd} {k : Nat} (hk : k < L.length) (ha : ∀ x ∈ L.take k, notSig x = true) (h : notSig L[k] = false) : idxS L = k := by
  have e : L = L.take k ++ L[k] :: L.drop (k + 1) := by rw [← List.drop_eq_getElem_cons hk, List.take_append_drop]
  unfold idxS
  generalize hx : L[k] = x at *
  rw [e, List.takeWhile_append_of_pos ha, List.takeWhile_cons, if_neg (by rw [h]; simp)]
  simp; omega
theorem idxS_all {L : List Hd} (ha : ∀ x ∈ L, notSig x = true) : idxS L = L.length := by
  unfold idxS
  have := List.takeWhile_append_of_pos (l₂ := []) ha
  rw [List.append_nil] at this
  rw [this]; simp
set_option maxRecDepth 20000 in
set_option maxHeartbeats 1000000 in
theorem index_any (a : Option Addr) (L : List Hd) (cap : Nat) (w : World) (hH : Hdrs w a L) (hl : L.length ≤ 1000000000) (hP : Px w) :
    Calls Tryz.prog 91 #[.slice a L.length cap, .func (.func 33) #[] #[]] w fun e w' => e = .returned (.int .i64 (idxI L)) ∧ Below w.heap.size w w' := by
  have HH := (show Hid (Hdrs w a L ∧ Px w) from ⟨hH, hP⟩)
  obtain ⟨r, hr⟩ : ∃ r, r = idxI L := ⟨_, rfl⟩
  have HR := (show Hid (r = idxI L) from hr)
  rw [← hr]
  clear hH hP hr
  go_enter Tryz.func91, Tryz.ntmps91
  go_wp2
  go_loopw [5, 8] (fun _ i wr => ∃ k : Nat, k ≤ L.length ∧ i = .int .i64 k ∧ (∀ x ∈ L.take k, notSig x = true) ∧ Below w.heap.size w wr) (fun _ i _ => L.length - (intOf i).toNat)
  case atStart => exact ⟨0, Nat.zero_le _, rfl, by simp, Below.refl _ _⟩
  case round =>
    obtain ⟨k, hk, rfl, hall, hb⟩ := hrel
    by_cases hlt : k < L.length
    · rcases HH.out.1.below hb (Nat.le_refl _) with hnil | ⟨b, off, rfl, hbs, hc⟩
      · rw [hnil] at hlt; simp at hlt
      · obtain ⟨c1, c2⟩ := hc k hlt
        have hpx := HH.out.2.below hb (Nat.le_refl _)
        have hki : (k : Int) < (L.length : Int) := by omega
        have hkk : (0 : Int) ≤ (k : Int) := by omega
        have HK := (show Hid (∀ (h : notSig L[k] = true), ∀ x ∈ L.take (k + 1), notSig x = true) from by
          intro h x hx
          rw [List.take_succ_eq_append_getElem hlt, List.mem_append, List.mem_singleton] at hx
          rcases hx with hx | rfl
          · exact hall x hx
          · exact h)
        have HZ := (show Hid (∀ (h : notSig L[k] = false), r = (k : Int)) from by
          intro h
          have := idxS_hit hlt hall h
          rw [HR.out, idxI, this, if_pos hlt])
        have HB := (show Hid (Below w.heap.size w wr) from hb)
        clear hc hall
        generalize L[k] = h at *
        have HC := (show Hid _ from isSig_any h.1 h.2 wr hpx)
        clear hpx hb
        cases hs : (h.1 == sgB) with
        | true =>
          rw [hs] at HC
          have HF := (show Hid (r = (k : Int)) from HZ.out (by rw [notSig, hs]; rfl))
          clear hs
          go_wp2_with (go_at_call 33; refine Calls.mono HC.out ?_; rintro e w2 ⟨rfl, hb2⟩)
          go_ret
          rw [HF.out]
          exact ⟨rfl, HB.out.trans (hb2.mono HB.out.size)⟩
        | false =>
          rw [hs] at HC
          have HF := (show Hid (∀ x ∈ L.take (k + 1), notSig x = true) from HK.out (by rw [notSig, hs]; rfl))
          clear hs
          go_wp2_with (go_at_call 33; refine Calls.mono HC.out ?_; rintro e w2 ⟨rfl, hb2⟩)
          go_roundw
          case rel => exact ⟨k + 1, by omega, by go_num, HF.out, HB.out.trans (hb2.mono HB.out.size)⟩
          case measure => simp [intOf]; omega
    · obtain rfl : k = L.length := by omega
      rw [List.take_length] at hall
      have HF := (show Hid (r = -1) from by show r = -1; rw [HR.out, idxI, idxS_all hall, if_neg (by omega)])
      clear hall
      go_wp2
      go_ret
      rw [HF.out]
      exact ⟨rfl, hb⟩
end Go.Proofs.YtnmffehmjgknkaaGreatDoor
/-
  slices.DeleteFunc of pairs by isSignature.
-/
namespace Go.Proofs.YtnmffehmjgknkaaGreatDoor
open Go.RowKit

/-- The pairs but for the signature's. -/
def delL (L : List Hd) : List Hd := L.filter notSig
theorem idxI_none {L : List Hd} (h : idxI L = -1) : delL L = L := by
  unfold idxI at h
  split at h
  · omega
  · rename_i hn
    have e : idxS L = L.length := by have := idxS_le L; omega
    have h2 : L.takeWhile notSig = L := (List.takeWhile_prefix _).eq_of_length e
    rw [delL, List.filter_eq_self]
    intro x hx
    rw [← h2] at hx
    have := List.all_takeWhile (p := notSig) (l := L)
    exact List.all_eq_true.mp this x hx
theorem idxI_some {L : List Hd} (h : idxI L ≠ -1) : ∃ k : Nat, idxI L = (k : Int) ∧ k < L.length ∧ L.take k = delL (L.take (k + 1)) := by
  unfold idxI at h ⊢
  split at h
  · rename_i hn
    refine ⟨idxS L, by rw [if_pos hn], hn, ?_⟩
    have e : L.takeWhile notSig = L.take (idxS L) := by
      have := List.prefix_iff_eq_take.mp (List.takeWhile_prefix (l := L) notSig)
      exact this
    have ha : ∀ x ∈ L.take (idxS L), notSig x = true := by
      intro x hx
      rw [← e] at hx
      exact List.all_eq_true.mp (List.all_takeWhile (p := notSig) (l := L)) x hx
    have hb : notSig L[idxS L] = false := by
      cases hc : notSig L[idxS L] with
      | false => rfl
      | true =>
        exfalso
        have h3 : L.takeWhile notSig = L.take (idxS L) ++ L[idxS L] :: (L.drop (idxS L + 1)).takeWhile notSig := by
          have e2 : L = L.take (idxS L) ++ L[idxS L] :: L.drop (idxS L + 1) := by rw [← List.drop_eq_getElem_cons hn, List.take_append_drop]
          generalize L[idxS L] = y at *
          generalize hk : idxS L = k at *
          conv => lhs; rw [e2]
          rw [List.takeWhile_append_of_pos ha, List.takeWhile_cons, if_pos hc]
        have h4 := congrArg List.length h3
        rw [e] at h4
        simp at h4
    rw [List.take_succ_eq_append_getElem hn, delL, List.filter_append, List.filter_eq_self.mpr ha, List.filter_cons_of_neg (by rw [hb]; simp)]
    simp
  · omega
/-- How far the pairs have been moved up. -/
structure DI (L M : List Hd) (i j : Nat) : Prop where
  len : M.length = L.length
  lt : i < j
  le : j ≤ L.length
  low : M.take i = delL (L.take j)
  high : M.drop j = L.drop j
theorem DI.start {L : List Hd} {k : Nat} (hk : k < L.length) (h : L.take k = delL (L.take (k + 1))) : DI L L k (k + 1) := ⟨rfl, by omega, hk, h, rfl⟩
theorem DI.at {L M : List Hd} {i j : Nat} (h : DI L M i j) : M[j]? = L[j]? := by
  have := congrArg (·[0]?) h.high
  simpa using this
theorem DI.skip {L M : List Hd} {i j : Nat} (h : DI L M i j) (hj : j < L.length) (hn : notSig L[j] = false) : DI L M i (j + 1) := by
  refine ⟨h.len, by have := h.lt; omega, hj, ?_, ?_⟩
  · rw [h.low, List.take_succ_eq_append_getElem hj, delL, delL, List.filter_append, List.filter_cons_of_neg (by rw [hn]; simp)]
    simp
  · rw [← List.drop_drop, ← List.drop_drop, h.high]
theorem DI.keep {L M : List Hd} {i j : Nat} (h : DI L M i j) (hj : j < L.length) (hn : notSig L[j] = true) : DI L (M.set i L[j]) (i + 1) (j + 1) := by
  have hl := h.len
  have h1 := h.lt
  refine ⟨by rw [List.length_set]; exact hl, by omega, hj, ?_, ?_⟩
  · rw [List.take_succ_eq_append_getElem (by rw [List.length_set]; omega), List.take_set_of_le (Nat.le_refl _), h.low, List.take_succ_eq_append_getElem hj, delL, delL, List.filter_append, List.filter_cons_of_pos hn]
    simp
  · rw [List.drop_set_of_lt (by omega), ← List.drop_drop, ← List.drop_drop, h.high]
theorem DI.done {L M : List Hd} {i : Nat} (h : DI L M i L.length) : M.take i = delL L ∧ i < L.length ∧ i = (delL L).length := by
  have := h.low
  rw [List.take_length] at this
  refine ⟨this, h.lt, ?_⟩
  rw [← this, List.length_take, h.len]
  have := h.lt
  omega
theorem hcs_set (M : List Hd) : ∀ (i : Nat) (x : Hd), hcs (M.set i x) = ((hcs M).set (i * 2) (.string ⟨x.1.toArray⟩)).set (i * 2 + 1) (.string ⟨x.2.toArray⟩) := by
  induction M with
  | nil => intro i x; simp [hcs]
  | cons y M ih =>
    intro i x
    have e : hcs (y :: M) = .string ⟨y.1.toArray⟩ :: .string ⟨y.2.toArray⟩ :: hcs M := rfl
    match i with
    | 0 => rw [e]; rfl
    | i + 1 =>
      have h := ih i x
      have e2 : (i + 1) * 2 = i * 2 + 1 + 1 := by omega
      rw [e, e2, List.set_cons_succ]
      show .string ⟨y.1.toArray⟩ :: .string ⟨y.2.toArray⟩ :: hcs (M.set i x) = _
      rw [h]
      rfl
theorem hcs_take (M : List Hd) : ∀ i, (hcs M).take (i * 2) = hcs (M.take i) := by
  induction M with
  | nil => intro i; simp [hcs]
  | cons y M ih =>
    intro i
    have e : hcs (y :: M) = .string ⟨y.1.toArray⟩ :: .string ⟨y.2.toArray⟩ :: hcs M := rfl
    match i with
    | 0 => rfl
    | i + 1 =>
      have e2 : (i + 1) * 2 = i * 2 + 1 + 1 := by omega
      rw [e, e2, List.take_succ_cons, List.take_succ_cons, ih i]
      rfl
theorem setCells_blk {g : Nat} {t : TypeId} : ∀ (vs : List Value) (o : Nat) (w : World) (cur : Array Value), w.heap[g]? = some (.cells cur t (0, 0)) →
    ∃ cur', (w.setCells g o vs).heap[g]? = some (.cells cur' t (0, 0)) ∧ cur'.size = cur.size ∧ cur'.toList.take o = cur.toList.take o ∧ Md (· = g) w (w.setCells g o vs)
  | [], _, w, cur, h => ⟨cur, h, rfl, rfl, Md.refl _ _⟩
  | v :: vs, o, w, cur, h => by
    have h1 := set_blk h o v
    obtain ⟨cur', h2, h3, h4, h5⟩ := setCells_blk vs (o + 1) (w.setCell ⟨g, o, none⟩ v) _ h1
    refine ⟨cur', h2, by rw [h3]; simp, ?_, ((Md.refl _ w).setp o v).trans h5⟩
    have := congrArg (List.take o) h4
    rw [List.take_take, List.take_take, Nat.min_eq_left (by omega)] at this
    rw [this]
    simp [List.take_set_of_le]
end Go.Proofs.YtnmffehmjgknkaaGreatDoor
/-
  slices.DeleteFunc of pairs: the walk.
-/
namespace Go.Proofs.YtnmffehmjgknkaaGreatDoor
open Go.RowKit

theorem own_hdrs {w : World} {base : Nat} {v : Value} {L : List Hd} (h : w.ownsRow base 61 2 v L.length (hcs L)) : ∃ a cap, v = .slice a L.length cap ∧ Hdrs w a L := by
  rcases h.2 with ⟨rfl, hn⟩ | ⟨g, cap, cur, rfl, hg, hh, hnc, hcm, hcs', htk⟩
  · exact ⟨none, 0, by rw [hn], .inl (List.eq_nil_of_length_eq_zero hn)⟩
  · refine ⟨_, cap, rfl, .inr ⟨g, 0, rfl, blk_lt hh, ?_⟩⟩
    intro j hj
    have a0 := h.cellAt (j * 2) (by omega)
    have a1 := h.cellAt (j * 2 + 1) (by omega)
    have b0 := hcs_at L (j * 2) (by omega)
    have b1 := hcs_at L (j * 2 + 1) (by omega)
    have e1 : j * 2 / 2 = j := by omega
    have e2 : (j * 2 + 1) / 2 = j := by omega
    have e3 : j * 2 % 2 = 0 := by omega
    have e4 : (j * 2 + 1) % 2 = 1 := by omega
    rw [e1, e3, getElem!_pos L j hj] at b0
    rw [e2, e4, getElem!_pos L j hj] at b1
    simp only [Nat.zero_add]
    exact ⟨a0.trans b0, a1.trans b1⟩
theorem run_clear2 (w : World) (g o n c : Nat) (hn : 0 < n) (hc : ∀ j, j < n * 2 → (w.cell? ⟨g, o + j, none⟩).isSome = true) (hf : ∀ j, j < n * 2 → w.frozen? ⟨g, o + j, none⟩ = false) :
    ∃ Z : List Value, ∀ ty, (Builtin.clear_ #[22] ty #[.slice (some ⟨g, o, none⟩) n c]).run Tryz.prog w = .ok (.tuple #[]) (w.setCells g o Z) := by
  obtain ⟨i0, hi, hz0, hz1, hz2⟩ := info_parts info61
  refine ⟨(Builtin.zeroCells #[.string ⟨#[]⟩, .string ⟨#[]⟩] n).toList, fun ty => ?_⟩
  have hlen : (Builtin.zeroCells #[.string ⟨#[]⟩, .string ⟨#[]⟩] n).toList.length = n * 2 := by simp [Builtin.zeroCells]
  have hz : (Value.agg #[.string ⟨#[]⟩, .string ⟨#[]⟩]).cells = #[.string ⟨#[]⟩, .string ⟨#[]⟩] := rfl
  have hv : (zeroValue 61).run Tryz.prog w = .ok (.agg #[.string ⟨#[]⟩, .string ⟨#[]⟩]) w := Tryz.zeroValue61 w
  have hst := run_storeCells_cells (P := Tryz.prog) g o (Builtin.zeroCells #[.string ⟨#[]⟩, .string ⟨#[]⟩] n).toList 0 w (by rw [hlen]; simpa using hc) (by rw [hlen]; simpa using hf) (by
    intro v hv'
    simp only [Builtin.zeroCells, Array.toList_map, List.mem_map] at hv'
    obtain ⟨q, _, rfl⟩ := hv'
    have : q % 2 = 0 ∨ q % 2 = 1 := by omega
    rcases this with h | h <;> simp [h] <;> rfl)
  simp only [Nat.add_zero] at hst
  obtain ⟨m, rfl⟩ : ∃ m, n = m + 1 := ⟨n - 1, by omega⟩
  simp [Builtin.clear_, run_underlying Tryz.underlying22, hv, hz, hst]
theorem own_set {w : World} {base g n cap : Nat} {M : List Hd} (h : w.ownsRow base 61 2 (.slice (some ⟨g, 0, none⟩) n cap) n (hcs M)) (i : Nat) (x : Hd) :
    ((w.setCell ⟨g, i * 2, none⟩ (.string ⟨x.1.toArray⟩)).setCell ⟨g, i * 2 + 1, none⟩ (.string ⟨x.2.toArray⟩)).ownsRow base 61 2 (.slice (some ⟨g, 0, none⟩) n cap) n (hcs (M.set i x)) := by
  rw [hcs_set]
  exact ((h.stored (i * 2) (.string ⟨x.1.toArray⟩)).1.stored (i * 2 + 1) (.string ⟨x.2.toArray⟩)).1
theorem own_cut {w : World} {base g n cap i : Nat} {M : List Hd} (h : w.ownsRow base 61 2 (.slice (some ⟨g, 0, none⟩) n cap) n (hcs M)) (hi : i ≤ n) (hM : M.length = n) (Z : List Value) :
    (w.setCells g (i * 2) Z).ownsRow base 61 2 (.slice (some ⟨g, 0, none⟩) i cap) i (hcs (M.take i)) ∧ Md (· = g) w (w.setCells g (i * 2) Z) := by
  rcases h.2 with ⟨hv, _⟩ | ⟨g', cap', cur, hv, hg, hh, hnc, hcm, hcs', htk⟩
  · simp at hv
  · simp only [Value.slice.injEq, Option.some.injEq, Addr.mk.injEq, and_true, true_and] at hv
    obtain ⟨rfl, rfl⟩ := hv
    obtain ⟨cur', h1, h2, h3, h4⟩ := setCells_blk Z (i * 2) w cur hh
    refine ⟨⟨by rw [hcs_length, List.length_take, hM, Nat.min_eq_left hi], .inr ⟨g, cap, cur', rfl, hg, h1, by omega, hcm, by rw [h2]; exact hcs', ?_⟩⟩, h4⟩
    rw [h3, ← hcs_take, ← htk, List.take_take, Nat.min_eq_left (by omega)]
set_option maxRecDepth 20000 in
set_option maxHeartbeats 1000000 in
theorem delete_any (L : List Hd) (v : Value) (base : Nat) (w : World) (hown : w.ownsRow base 61 2 v L.length (hcs L)) (hl : L.length ≤ 1000000000) (hP : Px w) (hB : base ≤ w.heap.size) (h0 : 0 < base) :
    Calls Tryz.prog 32 #[v, .func (.func 33) #[] #[]] w fun e w' => ∃ v', e = .returned v' ∧ w'.ownsRow base 61 2 v' (delL L).length (hcs (delL L)) ∧ Below base w w' := by
  obtain ⟨a, cap, rfl, hH⟩ := own_hdrs hown
  have HI := (show Hid _ from index_any a L cap w hH hl hP)
  by_cases hi : idxI L = -1
  · have HD := (show Hid (delL L = L) from idxI_none hi)
    have HO := (show Hid (w.ownsRow base 61 2 (.slice a L.length cap) L.length (hcs L)) from hown)
    rw [hi] at HI
    clear hown hH hP hi
    go_enter Tryz.func32, Tryz.ntmps32
    go_wp2_with (go_at_call 91; refine Calls.mono HI.out ?_; rintro e w2 ⟨rfl, hb2⟩)
    go_ret
    rw [HD.out]
    exact ⟨_, rfl, own_md HO.out (Md.ofBelow (F := fun _ => False) hb2) (fun _ _ h => h), hb2.mono hB⟩
  · obtain ⟨k, hk, hkl, hks⟩ := idxI_some hi
    rw [hk] at HI
    rcases hown.2 with ⟨hv, hn⟩ | ⟨g, cap', cur, hv, hg, hh, hnc, hcm, hcs', htk⟩
    · omega
    · simp only [Value.slice.injEq, true_and] at hv
      obtain ⟨rfl, rfl⟩ := hv
      have HS := (show Hid (DI L L k (k + 1)) from DI.start hkl hks)
      have HO := (show Hid (w.ownsRow base 61 2 (.slice (some ⟨g, 0, none⟩) L.length cap) L.length (hcs L) ∧ Px w ∧ base ≤ g) from ⟨hown, hP, hg⟩)
      have hne1 : ((k : Int) == -1) = false := beq_eq_false_iff_ne.2 (by omega)
      clear hown hH hP hi hk hks hh hcs' htk
      go_enter Tryz.func32, Tryz.ntmps32
      go_wp2_with (go_at_call 91; refine Calls.mono HI.out ?_; rintro e w2 ⟨rfl, hb2⟩)
      have HB2 := (show Hid (Below w.heap.size w w2) from hb2)
      clear hb2
      go_loopw [5, 6, 7] (fun s5 s6 _ wr => ∃ (i j : Nat) (M : List Hd), s5 = .int .i64 i ∧ s6 = .int .i64 j ∧ j ≤ L.length ∧ i < j ∧ DI L M i j ∧ wr.ownsRow base 61 2 (.slice (some ⟨g, 0, none⟩) L.length cap) L.length (hcs M) ∧ Below base w wr) (fun _ s6 _ _ => L.length - (intOf s6).toNat)
      case atStart => exact ⟨k, k + 1, L, rfl, by go_num, HS.out.le, HS.out.lt, HS.out, own_md HO.out.1 (Md.ofBelow (F := fun _ => False) HB2.out) (fun _ _ h => h), HB2.out.mono hB⟩
      case round =>
        obtain ⟨i, j, M, rfl, rfl, hjl, hij, hD, hown, hb⟩ := hrel
        have HR := (show Hid (DI L M i j ∧ wr.ownsRow base 61 2 (.slice (some ⟨g, 0, none⟩) L.length cap) L.length (hcs M) ∧ Below base w wr) from ⟨hD, hown, hb⟩)
        by_cases hlt : j < L.length
        · have hjM : j < M.length := by rw [hD.len]; exact hlt
          obtain ⟨x, hx⟩ : ∃ x, x = L[j] := ⟨_, rfl⟩
          have hMx : M[j] = x := by
            have := hD.at
            rw [List.getElem?_eq_getElem hjM, List.getElem?_eq_getElem hlt] at this
            rw [hx]
            simpa using this
          have HX := (show Hid (x = L[j]) from hx)
          have c1 : wr.cell? ⟨g, j * 2, none⟩ = some (.string ⟨x.1.toArray⟩) := by
            have h1 := hown.cellAt (j * 2) (by omega)
            have h2 := hcs_at M (j * 2) (by omega)
            have e1 : j * 2 / 2 = j := by omega
            have e3 : j * 2 % 2 = 0 := by omega
            rw [e1, e3, getElem!_pos M j hjM, hMx] at h2
            exact h1.trans h2
          have c2 : wr.cell? ⟨g, j * 2 + 1, none⟩ = some (.string ⟨x.2.toArray⟩) := by
            have h1 := hown.cellAt (j * 2 + 1) (by omega)
            have h2 := hcs_at M (j * 2 + 1) (by omega)
            have e1 : (j * 2 + 1) / 2 = j := by omega
            have e3 : (j * 2 + 1) % 2 = 1 := by omega
            rw [e1, e3, getElem!_pos M j hjM, hMx] at h2
            exact h1.trans h2
          have hji : (j : Int) < (L.length : Int) := by omega
          have hj0 : (0 : Int) ≤ (j : Int) := by omega
          have hsz := hb.size
          clear hx hMx hD hown hb hjM
          go_upto_region 8 with fail
          obtain ⟨W, hW⟩ : ∃ W, W = wr.alloc (.cells #[.string ⟨x.1.toArray⟩, .string ⟨x.2.toArray⟩] 61) := ⟨_, rfl⟩
          obtain ⟨A, hA⟩ : ∃ A, A = wr.heap.size := ⟨_, rfl⟩
          have nA : W.heap[A]? = some (.cells #[.string ⟨x.1.toArray⟩, .string ⟨x.2.toArray⟩] 61 (0, 0)) := by rw [hW, hA]; exact heap_alloc_new _ _
          have a0 : W.cell? ⟨A, 0, none⟩ = some (.string ⟨x.1.toArray⟩) := by have := cell_blk nA 0; simpa using this
          have a1 : W.cell? ⟨A, 1, none⟩ = some (.string ⟨x.2.toArray⟩) := by have := cell_blk nA 1; simpa using this
          have hbW : Below base w W := by rw [hW]; exact HR.out.2.2.alloc (by omega) _
          have HW := (show Hid (W.ownsRow base 61 2 (.slice (some ⟨g, 0, none⟩) L.length cap) L.length (hcs M) ∧ Below base w W ∧ A < W.heap.size) from ⟨by rw [hW]; exact World.ownsRow.alloc HR.out.2.1 _, hbW, blk_lt nA⟩)
          have HC := (show Hid _ from isSig_any x.1 x.2 W (HO.out.2.1.below0 hbW h0))
          rw [← hW, ← hA]
          clear hW hA nA hbW c1 c2
          have HB3 := (show Hid (∀ w3, Below W.heap.size W w3 → w3.ownsRow base 61 2 (.slice (some ⟨g, 0, none⟩) L.length cap) L.length (hcs M) ∧ Below base w w3 ∧ w3.cell? ⟨A, 0, none⟩ = some (.string ⟨x.1.toArray⟩) ∧ w3.cell? ⟨A, 1, none⟩ = some (.string ⟨x.2.toArray⟩)) from
            fun w3 hb3 => ⟨own_md HW.out.1 (Md.ofBelow (F := fun _ => False) hb3) (fun _ _ h => h), HW.out.2.1.trans (hb3.mono (by have := HW.out.2.1.size; omega)), (hb3.cell (p := ⟨A, 0, none⟩) HW.out.2.2).trans a0, (hb3.cell (p := ⟨A, 1, none⟩) HW.out.2.2).trans a1⟩)
          cases hs : (x.1 == sgB) with
          | true =>
            rw [hs] at HC
            have HF := (show Hid (notSig L[j] = false) from by show notSig L[j] = false; rw [← HX.out, notSig, hs]; rfl)
            clear hs
            go_wp2_with fail
            refine Calls.mono HC.out ?_
            rintro e w3 ⟨rfl, hb3⟩
            have HN := (show Hid _ from HB3.out w3 hb3)
            clear hb3 a0 a1
            go_wp2
            go_roundw
            case rel => exact ⟨i, j + 1, M, rfl, by go_num, by omega, by omega, HR.out.1.skip hlt HF.out, HN.out.1, HN.out.2.1⟩
            case measure => simp [intOf]; omega
          | false =>
            rw [hs] at HC
            have HF := (show Hid (notSig L[j] = true) from by show notSig L[j] = true; rw [← HX.out, notSig, hs]; rfl)
            clear hs
            go_wp2_with fail
            refine Calls.mono HC.out ?_
            rintro e w3 ⟨rfl, hb3⟩
            obtain ⟨n1, n2, b0, b1⟩ := HB3.out w3 hb3
            have HN := (show Hid (w3.ownsRow base 61 2 (.slice (some ⟨g, 0, none⟩) L.length cap) L.length (hcs M) ∧ Below base w w3) from ⟨n1, n2⟩)
            have f0 := n1.frozenAt (i * 2)
            have f1 := n1.frozenAt (i * 2 + 1)
            have hMl := HR.out.1.len
            have e0 := n1.cellAt (i * 2) (by omega)
            have e1 := n1.cellAt (i * 2 + 1) (by omega)
            rw [hcs_at M _ (by omega)] at e0 e1
            generalize (encH M[i * 2 / 2]!)[i * 2 % 2]! = y0 at e0
            generalize (encH M[(i * 2 + 1) / 2]!)[(i * 2 + 1) % 2]! = y1 at e1
            have hii : (i : Int) < (L.length : Int) := by omega
            have hi0 : (0 : Int) ≤ (i : Int) := by omega
            clear hb3 a0 a1 n1 n2 hMl
            go_wp2
            go_roundw
            case rel => exact ⟨i + 1, j + 1, M.set i L[j], by go_num, by go_num, by omega, by omega, HR.out.1.keep hlt HF.out, by rw [← HX.out]; exact own_set HN.out.1 i x, (HN.out.2.setCell hg _).setCell hg _⟩
            case measure => simp [intOf]; omega
        · obtain rfl : j = L.length := by omega
          obtain ⟨d1, d2, d3⟩ := hD.done
          have hMl := hD.len
          have hltz : ¬ (L.length : Int) < (L.length : Int) := by omega
          obtain ⟨Z, hZ⟩ := run_clear2 wr g (i * 2) (L.length - i) (cap - i) (by omega) (fun q hq => by
            rw [hown.cellAt (i * 2 + q) (by omega), hcs_at M _ (by omega)]; rfl) (fun q _ => hown.frozenAt (i * 2 + q))
          have HZ := (show Hid ((wr.setCells g (i * 2) Z).ownsRow base 61 2 (.slice (some ⟨g, 0, none⟩) i cap) (delL L).length (hcs (delL L)) ∧ Below base w (wr.setCells g (i * 2) Z)) from by
            obtain ⟨z1, z2⟩ := own_cut (i := i) hown (by omega) hMl Z
            rw [d1] at z1
            rw [← d3]
            exact ⟨z1, Md.toBelow hb z2 (fun b hb hg' => by omega) hB⟩)
          have hii : (i : Int) ≤ (L.length : Int) := by omega
          have hi0 : (0 : Int) ≤ (i : Int) := by omega
          have hic : i ≤ cap := by omega
          clear d1 d2 d3 hMl hD hown hb
          go_wp2
          go_ret
          exact ⟨_, rfl, HZ.out.1, HZ.out.2⟩
end Go.Proofs.YtnmffehmjgknkaaGreatDoor

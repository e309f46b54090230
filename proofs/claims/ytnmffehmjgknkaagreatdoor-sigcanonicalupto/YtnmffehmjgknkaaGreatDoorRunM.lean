/-
  cmp.Compare of texts, cmp.Or of ints, comparePairs.
-/
import Derived.Test.YtnmffehmjgknkaaGreatDoorQyA
import Derived.Test.YtnmffehmjgknkaaGreatDoorShelfG
import Derived.Deep.RegionHeld3
import Derived.Test.YtnmffehmjgknkaaGreatDoorMd
namespace Go.Proofs.YtnmffehmjgknkaaGreatDoor
open Go.RowKit

theorem isNaN_any (x : ByteArray) (w : World) : Calls Tryz.prog 196 #[.string x] w fun e w' => e = .returned (.bool false) ∧ w' = w := by
  have h : (x.toList == x.toList) = true := by simp
  go_enter Tryz.func196, Tryz.ntmps196
  go_wp2
  go_ret
  exact ⟨rfl, rfl⟩
/-- The order of texts. -/
def cmpB (x y : List UInt8) : Int := if Op.bytesLess x y then -1 else if x = y then 0 else 1
theorem cmpB_lt {x y : List UInt8} (h : Op.bytesLess x y = true) : cmpB x y = -1 := by rw [cmpB, if_pos h]
theorem cmpB_eq {x y : List UInt8} (h : Op.bytesLess x y = false) (e : x = y) : cmpB x y = 0 := by rw [cmpB, if_neg (by rw [h]; simp), if_pos e]
theorem cmpB_gt {x y : List UInt8} (h : Op.bytesLess x y = false) (e : x ≠ y) : cmpB x y = 1 := by rw [cmpB, if_neg (by rw [h]; simp), if_neg e]
set_option maxHeartbeats 1000000 in
theorem compare_any (x y : ByteArray) (w : World) : Calls Tryz.prog 156 #[.string x, .string y] w fun e w' => e = .returned (.int .i64 (cmpB x.toList y.toList)) ∧ w' = w := by
  have HN := (show Hid (∀ x W, Calls Tryz.prog 196 #[.string x] W fun e w' => e = .returned (.bool false) ∧ w' = W) from isNaN_any)
  obtain ⟨c, hc⟩ : ∃ c, c = cmpB x.toList y.toList := ⟨_, rfl⟩
  have HC := (show Hid (c = cmpB x.toList y.toList) from hc)
  rw [← hc]
  clear hc
  cases hl : Op.bytesLess x.toList y.toList with
  | true =>
    have HR := (show Hid (c = -1) from by show c = -1; rw [HC.out, cmpB_lt hl])
    clear HC
    go_enter Tryz.func156, Tryz.ntmps156
    go_wp2_with (go_at_call 196; refine (HN.out _ _).mono ?_; rintro e w' ⟨rfl, rfl⟩)
    go_ret
    rw [HR.out]
    exact ⟨rfl, rfl⟩
  | false =>
    by_cases he : x.toList = y.toList
    · have hq : (x.toList == y.toList) = true := by simpa using he
      have HR := (show Hid (c = 0) from by show c = 0; rw [HC.out, cmpB_eq hl he])
      clear HC he
      go_enter Tryz.func156, Tryz.ntmps156
      go_wp2_with (go_at_call 196; refine (HN.out _ _).mono ?_; rintro e w' ⟨rfl, rfl⟩)
      go_ret
      rw [HR.out]
      exact ⟨rfl, rfl⟩
    · have hq : (x.toList == y.toList) = false := by simpa using he
      have HR := (show Hid (c = 1) from by show c = 1; rw [HC.out, cmpB_gt hl he])
      clear HC he
      go_enter Tryz.func156, Tryz.ntmps156
      go_wp2_with (go_at_call 196; refine (HN.out _ _).mono ?_; rintro e w' ⟨rfl, rfl⟩)
      go_ret
      rw [HR.out]
      exact ⟨rfl, rfl⟩
def orI (a b : Int) : Int := if a = 0 then b else a
set_option maxHeartbeats 1000000 in
theorem or_any (g : Nat) (a b : Int) (w : World) (h0 : w.cell? ⟨g, 0, none⟩ = some (.int .i64 a)) (h1 : w.cell? ⟨g, 1, none⟩ = some (.int .i64 b)) :
    Calls Tryz.prog 155 #[.slice (some ⟨g, 0, none⟩) 2 2] w fun e w' => e = .returned (.int .i64 (orI a b)) ∧ w' = w := by
  obtain ⟨c, hc⟩ : ∃ c, c = orI a b := ⟨_, rfl⟩
  have HC := (show Hid (c = orI a b) from hc)
  rw [← hc]
  clear hc
  go_enter Tryz.func155, Tryz.ntmps155
  go_wp2_with fail
  go_loopw [8] (fun i wr => ∃ k : Nat, k ≤ 2 ∧ i = .int .i64 k ∧ wr = w ∧ (1 ≤ k → a = 0) ∧ (2 ≤ k → b = 0)) (fun i _ => 2 - (intOf i).toNat)
  case atStart => exact ⟨0, by omega, rfl, rfl, fun h => by omega, fun h => by omega⟩
  case round =>
    obtain ⟨k, hk, rfl, rfl, ha, hb⟩ := hrel
    match k, hk, ha, hb with
    | 0, _, ha, hb =>
      by_cases h : a = 0
      · have hq : (a != 0) = false := by simpa using h
        have H := (show Hid (a = 0) from h)
        clear h ha hb
        go_wp2
        go_roundw
        case rel => exact ⟨1, by omega, by simp, trivial, fun _ => H.out, fun h => by omega⟩
        case measure => simp [intOf]
      · have hq : (a != 0) = true := by simpa using h
        have HR := (show Hid (c = a) from by show c = a; rw [HC.out, orI, if_neg h])
        clear h ha hb
        go_wp2
        go_ret
        rw [HR.out]
        exact ⟨rfl, rfl⟩
    | 1, _, ha, hb =>
      have H0 := (show Hid (a = 0) from ha (by omega))
      by_cases h : b = 0
      · have hq : (b != 0) = false := by simpa using h
        have H := (show Hid (b = 0) from h)
        clear h ha hb
        go_wp2
        go_roundw
        case rel => exact ⟨2, by omega, by simp, trivial, fun _ => H0.out, fun _ => H.out⟩
        case measure => simp [intOf]
      · have hq : (b != 0) = true := by simpa using h
        have HR := (show Hid (c = b) from by show c = b; rw [HC.out, orI, if_pos H0.out])
        clear h ha hb
        go_wp2
        go_ret
        rw [HR.out]
        exact ⟨rfl, rfl⟩
    | 2, _, ha, hb =>
      have HR := (show Hid (c = 0) from by show c = 0; rw [HC.out, orI, if_pos (ha (by omega)), hb (by omega)])
      clear ha hb
      go_wp2
      go_ret
      rw [HR.out]
      exact ⟨rfl, rfl⟩
    | k + 3, hk, _, _ => omega
/-- The order of pairs. -/
def cmpP (x y : Hd) : Int := orI (cmpB x.1 y.1) (cmpB x.2 y.2)
def encH (h : Hd) : List Value := [.string ⟨h.1.toArray⟩, .string ⟨h.2.toArray⟩]
end Go.Proofs.YtnmffehmjgknkaaGreatDoor
/-
  comparePairs, and the sort of pairs.
-/
namespace Go.Proofs.YtnmffehmjgknkaaGreatDoor
open Go.RowKit Go.Sort

set_option maxRecDepth 20000 in
set_option maxHeartbeats 4000000 in
theorem pairs_any (a b c d : ByteArray) (w : World) : Calls Tryz.prog 94 #[.agg #[.string a, .string b], .agg #[.string c, .string d]] w fun e w' => e = .returned (.int .i64 (orI (cmpB a.toList c.toList) (cmpB b.toList d.toList))) ∧ ∃ q os', w' = grow (w.drewN q) os' := by
  have HO := (show Hid (∀ g p q W, W.cell? ⟨g, 0, none⟩ = some (.int .i64 p) → W.cell? ⟨g, 1, none⟩ = some (.int .i64 q) → Calls Tryz.prog 155 #[.slice (some ⟨g, 0, none⟩) 2 2] W fun e w' => e = .returned (.int .i64 (orI p q)) ∧ w' = W) from or_any)
  obtain ⟨p, hp⟩ : ∃ p, p = cmpB a.toList c.toList := ⟨_, rfl⟩
  obtain ⟨q, hq⟩ : ∃ q, q = cmpB b.toList d.toList := ⟨_, rfl⟩
  have H1 := (show Hid (∀ W, Calls Tryz.prog 156 #[.string a, .string c] W fun e w' => e = .returned (.int .i64 p) ∧ w' = W) from by rw [hp]; exact compare_any a c)
  have H2 := (show Hid (∀ W, Calls Tryz.prog 156 #[.string b, .string d] W fun e w' => e = .returned (.int .i64 q) ∧ w' = W) from by rw [hq]; exact compare_any b d)
  rw [← hp, ← hq]
  clear hp hq
  go_enter Tryz.func94, Tryz.ntmps94
  go_upto_region 1 with fail
  obtain ⟨W, hW⟩ : ∃ W, W = (w.alloc (.cells #[.string a, .string b] 61)).alloc (.cells #[.string c, .string d] 61) := ⟨_, rfl⟩
  obtain ⟨A, hA⟩ : ∃ A, A = w.heap.size := ⟨_, rfl⟩
  obtain ⟨B, hB⟩ : ∃ B, B = w.heap.size + 1 := ⟨_, rfl⟩
  have hs1 : (w.alloc (.cells #[.string a, .string b] 61)).heap.size = w.heap.size + 1 := by show (w.heap.push _).size = _; simp
  have nB : W.heap[B]? = some (.cells #[.string c, .string d] 61 (0, 0)) := by rw [hW, hB, ← hs1]; exact heap_alloc_new _ _
  have nA : W.heap[A]? = some (.cells #[.string a, .string b] 61 (0, 0)) := by rw [hW, hA]; exact (((Below.refl _ (w.alloc (.cells #[.string a, .string b] 61))).alloc (Nat.le_refl _) _).block _ (by rw [hs1]; omega)).trans (heap_alloc_new _ _)
  have a0 : W.cell? ⟨A, 0, none⟩ = some (.string a) := by have := cell_blk nA 0; simpa using this
  have a1 : W.cell? ⟨A, 1, none⟩ = some (.string b) := by have := cell_blk nA 1; simpa using this
  have b0 : W.cell? ⟨B, 0, none⟩ = some (.string c) := by have := cell_blk nB 0; simpa using this
  have b1 : W.cell? ⟨B, 1, none⟩ = some (.string d) := by have := cell_blk nB 1; simpa using this
  have HW := (show Hid (W = (w.alloc (.cells #[.string a, .string b] 61)).alloc (.cells #[.string c, .string d] 61)) from hW)
  rw [← hW, ← hB, ← hA]
  clear hW hA hB hs1 nA nB
  go_region_held3 (fun w' => w'.cell? ⟨A, 0, none⟩ = some (.string a) ∧ w'.cell? ⟨A, 1, none⟩ = some (.string b) ∧ w'.cell? ⟨B, 0, none⟩ = some (.string c) ∧ w'.cell? ⟨B, 1, none⟩ = some (.string d)) (go_keep) (first
    | (go_at_call 156; (with_reducible refine Calls.mono (H1.out _) ?_); rintro e w2 ⟨rfl, rfl⟩)
    | (go_at_call 156; (with_reducible refine Calls.mono (H2.out _) ?_); rintro e w2 ⟨rfl, rfl⟩)
    | (go_at_call 155; (with_reducible refine Calls.mono (HO.out _ p q _ (by simp) (by simp)) ?_); rintro e w2 ⟨rfl, rfl⟩))
  go_wp2_with fail
  go_ret
  rw [HW.out]
  refine ⟨rfl, 1, #[.cells #[.string a, .string b] 61, .cells #[.string c, .string d] 61, .cells #[.int .i64 p, .int .i64 q] 3], ?_⟩
  rw [alloc_eq_grow, alloc_eq_grow, alloc_eq_grow, grow_grow, grow_grow]
  rfl
end Go.Proofs.YtnmffehmjgknkaaGreatDoor
/-
  The order of pairs, and the sort of pairs.
-/
namespace Go.Proofs.YtnmffehmjgknkaaGreatDoor
open Go.RowKit Go.Sort Go.Shelf

theorem bl_eq : ∀ (x y : List UInt8), Op.bytesLess x y = decide (x < y)
  | [], [] => by simp [Op.bytesLess]
  | _ :: _, [] => by simp [Op.bytesLess]
  | [], _ :: _ => by simp [Op.bytesLess]
  | a :: x, b :: y => by
    rw [Op.bytesLess, bl_eq x y]
    simp only [List.cons_lt_cons_iff]
    by_cases h1 : a < b <;> by_cases h2 : a = b <;> by_cases h3 : x < y <;> simp [h1, h2, h3]
theorem l_irr (x : List UInt8) : ¬ x < x := List.lt_irrefl x
theorem l_trans {x y z : List UInt8} (a : x < y) (b : y < z) : x < z := List.lt_trans a b
theorem l_tri (x y : List UInt8) : x < y ∨ x = y ∨ y < x := by
  by_cases h : x < y
  · exact Or.inl h
  · by_cases g : y < x
    · exact Or.inr (Or.inr g)
    · exact Or.inr (Or.inl (List.le_antisymm (List.not_lt.mp g) (List.not_lt.mp h)))
/-- A pair stands ahead of another. -/
def ltH (x y : Hd) : Prop := x.1 < y.1 ∨ x.1 = y.1 ∧ x.2 < y.2
instance (x y : Hd) : Decidable (ltH x y) := inferInstanceAs (Decidable (_ ∨ _))
theorem ltH_irr (x : Hd) : ¬ ltH x x := by
  rintro (h | ⟨_, h⟩)
  · exact l_irr _ h
  · exact l_irr _ h
theorem ltH_trans {x y z : Hd} (a : ltH x y) (b : ltH y z) : ltH x z := by
  rcases a with a | ⟨a, a'⟩ <;> rcases b with b | ⟨b, b'⟩
  · exact Or.inl (l_trans a b)
  · exact Or.inl (b ▸ a)
  · exact Or.inl (a ▸ b)
  · exact Or.inr ⟨a.trans b, l_trans a' b'⟩
theorem ltH_tri (x y : Hd) : ltH x y ∨ x = y ∨ ltH y x := by
  obtain ⟨x1, x2⟩ := x
  obtain ⟨y1, y2⟩ := y
  rcases l_tri x1 y1 with h | rfl | h
  · exact Or.inl (Or.inl h)
  · rcases l_tri x2 y2 with h | rfl | h
    · exact Or.inl (Or.inr ⟨rfl, h⟩)
    · exact Or.inr (Or.inl rfl)
    · exact Or.inr (Or.inr (Or.inr ⟨rfl, h⟩))
  · exact Or.inr (Or.inr (Or.inl h))
theorem cmpB_neg (x y : List UInt8) : cmpB x y < 0 ↔ x < y := by
  unfold cmpB
  rw [bl_eq]
  by_cases h : x < y
  · simp [h]
  · by_cases e : x = y
    · subst e; simp [l_irr]
    · simp [h, e]
theorem cmpB_zero (x y : List UInt8) : cmpB x y = 0 ↔ x = y := by
  unfold cmpB
  rw [bl_eq]
  by_cases h : x < y
  · have : x ≠ y := fun e => l_irr _ (e ▸ h)
    simp [h, this]
  · by_cases e : x = y <;> simp [h, e]
theorem ltOf_eq (x y : Hd) : ltOf cmpP x y = decide (ltH x y) := by
  unfold ltOf cmpP orI ltH
  by_cases h : x.1 = y.1
  · rw [if_pos ((cmpB_zero _ _).mpr h)]
    simp [cmpB_neg, h, l_irr]
  · rw [if_neg (fun k => h ((cmpB_zero _ _).mp k))]
    simp [cmpB_neg, h]
theorem swoP : SWO (ltOf cmpP) := by
  refine ⟨fun x => ?_, fun x y z h k => ?_, fun x y z h k => ?_⟩
  · rw [ltOf_eq]; exact decide_eq_false (ltH_irr x)
  · rw [ltOf_eq] at *; exact decide_eq_true (ltH_trans (of_decide_eq_true h) (of_decide_eq_true k))
  · rw [ltOf_eq] at *
    have h := of_decide_eq_false h
    have k := of_decide_eq_false k
    refine decide_eq_false fun hz => ?_
    rcases ltH_tri x y with a | a | a
    · exact h a
    · exact k (a ▸ hz)
    · exact k (ltH_trans a hz)
theorem totP (x y : Hd) (h : ltOf cmpP x y = false) (k : ltOf cmpP y x = false) : x = y := by
  rw [ltOf_eq] at *
  rcases ltH_tri x y with a | a | a
  · exact absurd a (of_decide_eq_false h)
  · exact a
  · exact absurd a (of_decide_eq_false k)
/-- The pairs in their order. -/
def srtL (L : List Hd) : List Hd := L.mergeSort fun x y => !(ltOf cmpP) y x
theorem srtL_perm (L : List Hd) : (srtL L).Perm L := List.mergeSort_perm _ _
theorem srtL_length (L : List Hd) : (srtL L).length = L.length := (srtL_perm L).length_eq
/-- What is a permutation, and in order, is it. -/
theorem srtL_of {L M : List Hd} (hp : M.Perm L) (hs : M.Pairwise fun x y => ¬ ltH y x) : M = srtL L := by
  have hl := hp.length_eq
  have hP : PermIn (α := Hd) 0 L.toArray.size L.toArray M.toArray := by
    refine ⟨by simp [hl], fun i hi => ?_, ?_⟩
    · rcases hi with hi | hi
      · omega
      · have a : ¬ i < L.toArray.size := by omega
        have b : ¬ i < M.toArray.size := by simp at *; omega
        rw [getElem!_neg L.toArray i a, getElem!_neg M.toArray i b]
    · simpa [List.take_of_length_le, hl] using hp
  have hS : SortedIn (α := Hd) (ltOf cmpP) 0 L.toArray.size M.toArray := by
    intro i j _ hij hj
    have hj' : j < M.length := by simp at hj; omega
    have hi' : i < M.length := by omega
    rw [getElem!_pos M.toArray i (by simpa using hi'), getElem!_pos M.toArray j (by simpa using hj'), ltOf_eq]
    have := (List.pairwise_iff_getElem.mp hs) i j hi' hj' hij
    exact decide_eq_false (by simpa using this)
  have h := sorted_unique_holds swoP totP L.toArray M.toArray hP hS
  simpa [srtL] using h
end Go.Proofs.YtnmffehmjgknkaaGreatDoor
/-
  slices.SortFunc of a row of pairs of one's own.
-/
namespace Go.Proofs.YtnmffehmjgknkaaGreatDoor
open Go.RowKit Go.Sort Go.Shelf

theorem hcs_at (L : List Hd) : ∀ t, t < L.length * 2 → (hcs L)[t]? = some (encH L[t / 2]!)[t % 2]! := by
  induction L with
  | nil => intro t ht; simp at ht
  | cons x L ih =>
    intro t ht
    have e : hcs (x :: L) = [.string ⟨x.1.toArray⟩, .string ⟨x.2.toArray⟩] ++ hcs L := rfl
    match t, ht with
    | 0, _ => rfl
    | 1, _ => rfl
    | t + 2, ht =>
      have h1 : (t + 2) / 2 = t / 2 + 1 := by omega
      have h2 : (t + 2) % 2 = t % 2 := by omega
      rw [e, h1, h2]
      have := ih t (by simp at ht; omega)
      simpa using this
theorem hcs_length (L : List Hd) : (hcs L).length = L.length * 2 := by
  induction L with
  | nil => rfl
  | cons x L ih => show ([_, _] ++ hcs L).length = (L.length + 1) * 2; rw [List.length_append, ih]; simp; omega
theorem flat_hcs (L : List Hd) : flatK encH 2 L.toArray = (hcs L).toArray := by
  apply Array.ext
  · rw [size_flatK]; simp [hcs_length]
  · intro i h1 h2
    have hi : i < L.length * 2 := by rw [size_flatK] at h1; simpa using h1
    have := get_flatK encH 2 L.toArray i (by simpa using hi)
    rw [getElem!_pos _ i h1] at this
    rw [this]
    have h3 := hcs_at L i hi
    have h4 : i < (hcs L).length := by rw [hcs_length]; exact hi
    rw [List.getElem?_eq_getElem h4] at h3
    have h5 : i / 2 < L.length := by omega
    rw [getElem!_pos L (i / 2) h5] at h3
    rw [getElem!_pos L.toArray (i / 2) (by simpa using h5)]
    simp only [Option.some.injEq] at h3
    simpa using h3.symm
theorem cmpLays (blk off size : Nat) (w : World) : CmpLays Tryz.prog 94 #[] encH 2 cmpP blk off size w := by
  intro m os dk _ x y
  have := pairs_any ⟨x.1.toArray⟩ ⟨x.2.toArray⟩ ⟨y.1.toArray⟩ ⟨y.2.toArray⟩ (sortWorldK encH 2 w blk off m dk os)
  simpa [cmpP, encH] using this
theorem enters94 : ∀ args w, (callFunc 94 args).run Tryz.prog w = .ok (.enter 94 args) w := fun args w => Tryz.call94 args w
theorem sorted_own {w : World} {base g cap nn m : Nat} {L S : List Hd} {os : Array Obj} (hl : S.length = L.length) (h : w.ownsRow base 61 2 (.slice (some ⟨g, 0, none⟩) nn cap) L.length (hcs L)) :
    (sortWorldK encH 2 w g 0 m S.toArray os).ownsRow base 61 2 (.slice (some ⟨g, 0, none⟩) nn cap) L.length (hcs S) ∧ Below base w (sortWorldK encH 2 w g 0 m S.toArray os) := by
  rcases h with ⟨hlen, ⟨h', _⟩ | ⟨g', cap', cur, h', hbg, hg, hnc, hcm, hcs', htake⟩⟩
  · simp at h'
  · simp only [Value.slice.injEq, Option.some.injEq, Addr.mk.injEq, and_true] at h'
    obtain ⟨rfl, rfl, rfl⟩ := h'
    have hlt : g < w.heap.size := by
      rcases Nat.lt_or_ge g w.heap.size with h | h
      · exact h
      · rw [Array.getElem?_eq_none h] at hg; simp at hg
    have hblk : ∀ k, k < w.heap.size → (sortWorldK encH 2 w g 0 m S.toArray os).heap[k]? = (w.heap.modify g (onCells (putCells id 0 (hcs S).toArray)))[k]? := by
      intro k hk
      unfold sortWorldK putRowK
      rw [flat_hcs, heap_grow_old _ _ (by rw [size_putRow]; exact hk)]
      rfl
    refine ⟨⟨by rw [hcs_length, hl], Or.inr ⟨g, cap, putCells id 0 (hcs S).toArray cur, rfl, hbg, ?_, hnc, hcm, ?_, ?_⟩⟩, ⟨rfl, rfl, rfl, ?_, ?_⟩⟩
    · rw [hblk g hlt, Array.getElem?_modify, if_pos rfl, hg]
      rfl
    · simpa [putCells] using hcs'
    · have hSl : (hcs S).length = L.length * 2 := by rw [hcs_length, hl]
      apply List.ext_getElem?
      intro i
      rw [List.getElem?_take]
      by_cases hi : i < L.length * 2
      · rw [if_pos hi]
        have hic : i < cur.size := by rw [hcs']; omega
        have hiS : i < (hcs S).length := by omega
        simp [putCells, hic, hiS]
      · rw [if_neg hi, List.getElem?_eq_none (by omega)]
    · unfold sortWorldK
      rw [size_grow]
      show w.heap.size ≤ (putRow id _ _ _ _).heap.size + _
      rw [size_putRow]
      exact Nat.le_add_right _ _
    · intro k hk
      rw [hblk k (by omega), Array.getElem?_modify, if_neg (by omega)]
theorem sort_own {w : World} {base : Nat} {v : Value} {L : List Hd} (h : w.ownsRow base 61 2 v L.length (hcs L)) (hL : L.length < 4611686018427387904) :
    Calls Tryz.prog 93 #[v, .func (.func 94) #[] #[]] w fun e w' => e = .returned (.tuple #[]) ∧ w'.ownsRow base 61 2 v L.length (hcs (srtL L)) ∧ Below base w w' := by
  rcases h.2 with ⟨rfl, h0⟩ | ⟨g, cap, cur, rfl, hbg, hg, hnc, hcm, hcs', htake⟩
  · obtain rfl : L = [] := List.length_eq_zero_iff.mp h0
    have hs : srtL [] = [] := by simp [srtL]
    rw [hs]
    have := AnyF.slices_SortFunc_none YtnmffehmjgknkaaGreatDoor.laySlsfn6 none 0 (.func (.func 94) #[] #[]) w
    exact this.mono fun e w' ⟨he, hw⟩ => ⟨he, hw ▸ h, hw ▸ Below.refl _ _⟩
  · have hlt : g < w.heap.size := by
      rcases Nat.lt_or_ge g w.heap.size with h | h
      · exact h
      · rw [Array.getElem?_eq_none h] at hg; simp at hg
    have hH : HoldsK encH 2 w g 0 L.toArray := by
      intro j hj
      rw [flat_hcs] at hj ⊢
      have hj' : j < L.length * 2 := by simpa [hcs_length] using hj
      rw [Nat.zero_add]
      refine ⟨?_, h.frozenAt j⟩
      rw [h.cellAt j hj', getElem!_pos _ j hj]
      simp at hj
      simp [hj]
    have := AnyQ.slices_SortFunc_total YtnmffehmjgknkaaGreatDoor.laySlsfn6 2 Tryz.isAgg61 Tryz.sizeOf61 encH (fun _ => rfl) (fun x v hv => by simp [encH] at hv; rcases hv with rfl | rfl <;> rfl) cmpP swoP 94 #[] g 0 cap L.toArray w enters94 (cmpLays _ _ _ _) hH hlt (by simpa using hL) totP
    have hsz : (L.toArray.size : Nat) = L.length := by simp
    rw [hsz] at this
    refine this.mono fun e w' ⟨he, n, os, hw⟩ => ⟨he, ?_⟩
    rw [hw]
    exact sorted_own (srtL_length L) h
end Go.Proofs.YtnmffehmjgknkaaGreatDoor

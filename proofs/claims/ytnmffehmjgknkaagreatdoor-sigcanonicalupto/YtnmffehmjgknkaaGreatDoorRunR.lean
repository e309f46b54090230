/-
  The document's order of pairs, and its join.
-/
import Derived.Test.YtnmffehmjgknkaaGreatDoorRunQ
import Derived.Deep.Cut
import Derived.Test.YtnmffehmjgknkaaGreatDoorRqB
namespace Go.Proofs.YtnmffehmjgknkaaGreatDoor
open Go.RowKit

theorem bl_not {x y : List UInt8} (h : Op.bytesLess x y = false) : ¬ x < y := by rw [bl_eq] at h; exact of_decide_eq_false h
theorem bl_yes {x y : List UInt8} (h : Op.bytesLess x y = true) : x < y := by rw [bl_eq] at h; exact of_decide_eq_true h
set_option maxRecDepth 20000 in
set_option maxHeartbeats 2000000 in
theorem below_box (a b c d : ByteArray) (w : World) : Calls Tryz.prog 102 #[.agg #[.string a, .string b], .agg #[.string c, .string d]] w fun e w' => e = .returned (.bool (decide (ltH (a.toList, b.toList) (c.toList, d.toList)))) ∧ Below w.heap.size w w' := by
  obtain ⟨r, hr⟩ : ∃ r, r = decide (ltH (a.toList, b.toList) (c.toList, d.toList)) := ⟨_, rfl⟩
  have HR := (show Hid (r = decide (ltH (a.toList, b.toList) (c.toList, d.toList))) from hr)
  rw [← hr]
  clear hr
  have hsz : w.heap.size ≤ (w.alloc (.cells #[.string a, .string b] 61)).heap.size := by show _ ≤ (w.heap.push _).size; simp
  have HB := (show Hid (Below w.heap.size w ((w.alloc (.cells #[.string a, .string b] 61)).alloc (.cells #[.string c, .string d] 61))) from ((Below.refl _ w).alloc (Nat.le_refl _) _).alloc hsz _)
  clear hsz
  cases h1 : Op.bytesLess a.toList c.toList with
  | true =>
    have HF := (show Hid (r = true) from by show r = true; rw [HR.out]; exact decide_eq_true (Or.inl (bl_yes h1)))
    clear HR
    go_enter Tryz.func102, Tryz.ntmps102
    go_wp2
    go_ret
    rw [HF.out]
    exact ⟨rfl, HB.out⟩
  | false =>
    by_cases he : a.toList = c.toList
    · have hq : (a.toList == c.toList) = true := by simpa using he
      cases h2 : Op.bytesLess b.toList d.toList with
      | true =>
        have HF := (show Hid (r = true) from by show r = true; rw [HR.out]; exact decide_eq_true (Or.inr ⟨he, bl_yes h2⟩))
        clear HR he
        go_enter Tryz.func102, Tryz.ntmps102
        go_wp2
        go_ret
        rw [HF.out]
        exact ⟨rfl, HB.out⟩
      | false =>
        have HF := (show Hid (r = false) from by
          show r = false
          rw [HR.out]
          refine decide_eq_false ?_
          rintro (h | ⟨_, h⟩)
          · exact bl_not h1 h
          · exact bl_not h2 h)
        clear HR he
        go_enter Tryz.func102, Tryz.ntmps102
        go_wp2
        go_ret
        rw [HF.out]
        exact ⟨rfl, HB.out⟩
    · have hq : (a.toList == c.toList) = false := by simpa using he
      have HF := (show Hid (r = false) from by
        show r = false
        rw [HR.out]
        refine decide_eq_false ?_
        rintro (h | ⟨h, _⟩)
        · exact bl_not h1 h
        · exact he h)
      clear HR he
      go_enter Tryz.func102, Tryz.ntmps102
      go_wp2
      go_ret
      rw [HF.out]
      exact ⟨rfl, HB.out⟩
theorem below_any (x y : Hd) (w : World) : Calls Tryz.prog 102 #[.agg #[.string ⟨x.1.toArray⟩, .string ⟨x.2.toArray⟩], .agg #[.string ⟨y.1.toArray⟩, .string ⟨y.2.toArray⟩]] w fun e w' => e = .returned (.bool (decide (ltH x y))) ∧ Below w.heap.size w w' := by
  have := below_box ⟨x.1.toArray⟩ ⟨x.2.toArray⟩ ⟨y.1.toArray⟩ ⟨y.2.toArray⟩ w
  simpa using this
end Go.Proofs.YtnmffehmjgknkaaGreatDoor
/-
  The document's canonical query.
-/
namespace Go.Proofs.YtnmffehmjgknkaaGreatDoor
open Go.RowKit
open Ch (escL uneV uneOk une escL_len)

theorem une40 (x : List UInt8) (w : World) (h : x.length ≤ 1000000000) : Calls Tryz.prog 40 #[.string ⟨x.toArray⟩] w fun e w' => e = .returned (.tuple #[.string ⟨(uneV x).toArray⟩, .bool (uneOk x)]) ∧ Below w.heap.size w w' :=
  Ch.refUnescape_any ⟨x.toArray⟩ w (by rw [mk_size]; omega)
theorem esc42 (x : List UInt8) (b : Bool) (w : World) (h : x.length ≤ 1000000000) : Calls Tryz.prog 42 #[.string ⟨x.toArray⟩, .bool b] w fun e w' => e = .returned (.string ⟨(escL b x).toArray⟩) ∧ Below w.heap.size w w' :=
  Ch.refEscape_any ⟨x.toArray⟩ b w (by rw [mk_size]; omega)
theorem join_snoc (L : List (List UInt8)) (x sep : List UInt8) : Lib.join (L ++ [x]) sep = if L = [] then x else Lib.join L sep ++ sep ++ x := by
  match L with
  | [] => simp [Lib.join_one]
  | y :: r =>
    rw [if_neg (by simp), List.cons_append, Lib.join_cons, Lib.join_cons, Lib.joinTail, Lib.joinTail]
    simp
/-- Pairs in their order, no later one ahead of an earlier. -/
def Srt (L : List Hd) : Prop := L.Pairwise fun x y => ¬ ltH y x
theorem ltH_asymm {x y : Hd} (h : ltH x y) : ¬ ltH y x := fun k => ltH_irr x (ltH_trans h k)
theorem ltH_ntrans {x y z : Hd} (h : ¬ ltH x y) (k : ¬ ltH y z) : ¬ ltH x z := by
  intro hz
  rcases ltH_tri x y with a | a | a
  · exact h a
  · exact k (a ▸ hz)
  · exact k (ltH_trans a hz)
theorem ins_srt {A : List Hd} {p : Hd} {k : Nat} (hA : Srt A) (hk : k ≤ A.length) (hi : ∀ z ∈ A.drop k, ltH p z) (hl : ∀ (h : 0 < k), ¬ ltH p (A[k - 1]'(by omega))) : Srt (A.take k ++ p :: A.drop k) := by
  have e : A = A.take k ++ A.drop k := (List.take_append_drop k A).symm
  have hA2 := hA
  unfold Srt at hA2
  rw [e, List.pairwise_append] at hA2
  unfold Srt
  rw [List.pairwise_append, List.pairwise_cons]
  refine ⟨hA2.1, ⟨fun z hz => ltH_asymm (hi z hz), hA2.2.1⟩, fun x hx y hy => ?_⟩
  rcases List.mem_cons.mp hy with rfl | hy
  · obtain ⟨i, hi', rfl⟩ := List.mem_take_iff_getElem.mp hx
    have h0 : 0 < k := by omega
    have h1 := hl h0
    by_cases hik : i = k - 1
    · subst hik; exact h1
    · have h2 := (List.pairwise_iff_getElem.mp hA) i (k - 1) (by omega) (by omega) (by omega)
      exact ltH_ntrans h1 h2
  · exact hA2.2.2 x hx y hy
theorem ins_perm (A : List Hd) (p : Hd) (k : Nat) : (A.take k ++ p :: A.drop k).Perm (A ++ [p]) := by
  refine (List.perm_middle).trans ?_
  rw [List.take_append_drop]
  exact (List.perm_append_singleton p A).symm
/-- A row with a hole at a place. -/
def holeL (A : List Hd) (y : Hd) (k : Nat) : List Hd := A.take k ++ y :: A.drop k
theorem hole_len (A : List Hd) (y : Hd) (k : Nat) : (holeL A y k).length = A.length + 1 := by unfold holeL; simp; omega
theorem hole_end (A : List Hd) (y : Hd) : holeL A y A.length = A ++ [y] := by simp [holeL]
theorem hole_prev {A : List Hd} {y : Hd} {k : Nat} (h0 : 0 < k) (hk : k ≤ A.length) : (holeL A y k)[k - 1]? = some (A[k - 1]'(by omega)) := by
  unfold holeL
  rw [List.getElem?_append_left (by simp; omega), List.getElem?_take, if_pos (by omega), List.getElem?_eq_getElem (by omega)]
theorem hole_set {A : List Hd} {y z : Hd} {k : Nat} (hk : k ≤ A.length) : (holeL A y k).set k z = holeL A z k := by
  unfold holeL
  have hl : (A.take k).length = k := by simp; omega
  rw [List.set_append_right _ _ (by omega), hl, Nat.sub_self, List.set_cons_zero]
theorem hole_down {A : List Hd} {y : Hd} {k : Nat} (h0 : 0 < k) (hk : k ≤ A.length) : (holeL A y k).set k (A[k - 1]'(by omega)) = holeL A (A[k - 1]'(by omega)) (k - 1) := by
  rw [hole_set hk]
  unfold holeL
  have h1 : A.take k = A.take (k - 1) ++ [A[k - 1]'(by omega)] := by
    have := List.take_succ_eq_append_getElem (l := A) (i := k - 1) (by omega)
    rwa [show k - 1 + 1 = k by omega] at this
  have h2 : A.drop (k - 1) = A[k - 1]'(by omega) :: A.drop k := by
    have := List.drop_eq_getElem_cons (l := A) (i := k - 1) (by omega)
    rwa [show k - 1 + 1 = k by omega] at this
  rw [h1, h2, List.append_assoc]
  rfl
theorem drop_down {A : List Hd} {p : Hd} {k : Nat} (h0 : 0 < k) (hk : k ≤ A.length) (hi : ∀ z ∈ A.drop k, ltH p z) (h : ltH p (A[k - 1]'(by omega))) : ∀ z ∈ A.drop (k - 1), ltH p z := by
  have h2 : A.drop (k - 1) = A[k - 1]'(by omega) :: A.drop k := by
    have := List.drop_eq_getElem_cons (l := A) (i := k - 1) (by omega)
    rwa [show k - 1 + 1 = k by omega] at this
  intro z hz
  rw [h2] at hz
  rcases List.mem_cons.mp hz with rfl | hz
  · exact h
  · exact hi z hz
theorem own_of_below2 {w w' : World} {base e s n : Nat} {v : Value} {xs : List Value} (h : w.ownsRow base e s v n xs) (hb : Below w.heap.size w w') : w'.ownsRow base e s v n xs := own_md h (Md.ofBelow (F := fun _ => False) hb) (fun _ _ h => h)
theorem cell_two_set {w : World} {P g : Nat} (h : P ≠ g) (j i i' : Nat) (u v : Value) : ((w.setCell ⟨g, i, none⟩ u).setCell ⟨g, i', none⟩ v).cell? ⟨P, j, none⟩ = w.cell? ⟨P, j, none⟩ := by
  refine World.cell?_of_block (w := w) ?_
  exact (Below.heap_setCell _ ⟨g, i', none⟩ v P h).trans (Below.heap_setCell w ⟨g, i, none⟩ u P h)
/-- What a row of one's own tells of two cells to be stored to. -/
theorem own_slots {w : World} {base g n cap : Nat} {M : List Hd} (h : w.ownsRow base 61 2 (.slice (some ⟨g, 0, none⟩) n cap) n (hcs M)) (hM : M.length = n) {q : Nat} (hq : q < n) :
    (∃ y, w.cell? ⟨g, q * 2, none⟩ = some y) ∧ (∃ y, w.cell? ⟨g, q * 2 + 1, none⟩ = some y) ∧ w.frozen? ⟨g, q * 2, none⟩ = false ∧ w.frozen? ⟨g, q * 2 + 1, none⟩ = false := by
  have e0 := h.cellAt (q * 2) (by omega)
  have e1 := h.cellAt (q * 2 + 1) (by omega)
  rw [hcs_at M _ (by omega)] at e0 e1
  exact ⟨⟨_, e0⟩, ⟨_, e1⟩, h.frozenAt _, h.frozenAt _⟩
def keepP (pre : Bool) (h : Hd) : Bool := !(pre && h.1 == sgB)
theorem prL_keep (tg : List UInt8) (pre : Bool) : prL tg pre = (qryL tg).filter (keepP pre) := by
  unfold prL keepP
  cases pre
  · exact (List.filter_eq_self.mpr (fun x _ => by simp)).symm
  · rfl
end Go.Proofs.YtnmffehmjgknkaaGreatDoor
/-
  The document's join.
-/
namespace Go.Proofs.YtnmffehmjgknkaaGreatDoor
open Go.RowKit

theorem lens_take (L : List (List UInt8)) (k : Nat) : Lib.lens (L.take k) ≤ Lib.lens L := by
  conv => rhs; rw [← List.take_append_drop k L, lens_app]
  omega
set_option maxRecDepth 20000 in
set_option maxHeartbeats 2000000 in
theorem rjoin_any (a : Option Addr) (cap : Nat) (L : List (List UInt8)) (c : UInt8) (w : World) (hS : Strs w a (toB L)) (hl : Lib.lens L + L.length ≤ 20000000000000) :
    Calls Tryz.prog 45 #[.slice a L.length cap, .string ⟨#[c]⟩] w fun e w' => e = .returned (.string ⟨(Lib.join L [c]).toArray⟩) ∧ Below w.heap.size w w' := by
  have HS := (show Hid (Strs w a (toB L) ∧ Lib.lens L + L.length ≤ 20000000000000) from ⟨hS, hl⟩)
  obtain ⟨J, hJ⟩ : ∃ J, J = Lib.join L [c] := ⟨_, rfl⟩
  have HJ := (show Hid (J = Lib.join L [c]) from hJ)
  rw [← hJ]
  clear hS hJ
  have hll : L.length ≤ 20000000000000 := by omega
  clear hl
  go_enter Tryz.func45, Tryz.ntmps45
  go_wp2
  go_loopw [5, 6] (fun s i W' => ∃ (q : Nat) (S : ByteArray), q ≤ L.length ∧ i = .int .i64 q ∧ s = .string S ∧ S.data.toList = Lib.join (L.take q) [c] ∧ W' = w) (fun _ i _ => L.length - (intOf i).toNat)
  case atStart => exact ⟨0, ⟨#[]⟩, Nat.zero_le _, rfl, rfl, rfl, rfl⟩
  case round =>
    obtain ⟨q, S, hq, rfl, rfl, hS, rfl⟩ := hrel
    have hSz : S.size = S.data.toList.length := by simp
    have hjl := join_le (L.take q) c
    have htk := lens_take L q
    have hta := HS.out.2
    rw [← hS, List.length_take] at hjl
    by_cases hlt : q < L.length
    · rcases HS.out.1 with hnil | ⟨b, off, rfl, hbs, hc⟩
      · have := congrArg List.length hnil
        rw [toB_len] at this
        simp at this
        rw [this] at hlt
        simp at hlt
      · have c1 := hc q (by rw [toB_len]; exact hlt)
        rw [toB_at] at c1
        have hxl := lens_mem (List.getElem_mem hlt)
        have HJ2 := (show Hid (Lib.join (L.take (q + 1)) [c] = if L.take q = [] then L[q] else S.data.toList ++ [c] ++ L[q]) from by
          show _ = _
          rw [List.take_succ_eq_append_getElem hlt, join_snoc, hS])
        have hS0 := hS
        generalize L[q] = x at *
        have hki : (q : Int) < (L.length : Int) := by omega
        have hkk : (0 : Int) ≤ (q : Int) := by omega
        by_cases hq0 : q = 0
        · subst hq0
          have q1 : ¬ 9223372036854775807 < S.size + x.length := by omega
          have HE := (show Hid ((S ++ ⟨x.toArray⟩).data.toList = Lib.join (L.take (0 + 1)) [c]) from by
            show _ = _
            rw [HJ2.out, if_pos (by simp)]
            rw [List.take_zero, Lib.join_nil] at hS0
            simp [hS0])
          clear hS hS0 hjl htk hc hSz
          rw [Nat.add_zero] at c1
          go_wp2
          go_roundw
          case rel => exact ⟨0 + 1, _, by omega, by go_num, rfl, HE.out, trivial⟩
          case measure => simp [intOf]; omega
        · have hq1 : (0 : Int) < (q : Int) := by omega
          have q0 : ¬ 9223372036854775807 < S.size + 1 := by omega
          have q1 : ¬ 9223372036854775807 < S.size + 1 + x.length := by omega
          have HE := (show Hid ((S ++ ⟨#[c]⟩ ++ ⟨x.toArray⟩).data.toList = Lib.join (L.take (q + 1)) [c]) from by
            show _ = _
            rw [HJ2.out, if_neg (by intro h; have := congrArg List.length h; rw [List.length_take, List.length_nil] at this; omega)]
            simp)
          clear hS hS0 hjl htk hc hSz
          go_wp2
          go_roundw
          case rel => exact ⟨q + 1, _, by omega, by go_num, rfl, HE.out, trivial⟩
          case measure => simp [intOf]; omega
    · obtain rfl : q = L.length := by omega
      rw [List.take_length] at hS
      have HF := (show Hid (J = S.data.toList) from by show _ = _; rw [HJ.out, hS])
      clear hS hjl htk hSz
      go_wp2
      go_ret
      have es : (⟨S.data.toList.toArray⟩ : ByteArray) = S := by cases S; simp
      rw [HF.out, es]
      exact ⟨rfl, Below.refl _ _⟩
end Go.Proofs.YtnmffehmjgknkaaGreatDoor

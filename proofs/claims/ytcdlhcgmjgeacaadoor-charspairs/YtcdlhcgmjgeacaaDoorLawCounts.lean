/-
  The walks of the statements CharsCounts and CharsPairs out of the contracts of what they call.
-/
import Derived.Test.YtcdlhcgmjgeacaaDoorAwake
import Derived.Test.YtcdlhcgmjgeacaaDoorRefCount
namespace Go.Proofs.YtcdlhcgmjgeacaaDoor
open Go.RowKit

set_option maxHeartbeats 1000000 in
theorem charsCounts_walk (s : ByteArray) (w : World) (hs : s.size ≤ 140737488351232) (hm : Mx w) :
    Calls Tryd.prog 3 #[.string s] w fun e w' => e = .returned (.bool true) ∧ Below w.heap.size w w' := by
  have hs' : s.size ≤ maxLen := by unfold maxLen; omega
  go_enter Tryd.func3, Tryd.ntmps3
  go_wp2_with fail
  refine (count_any s _ hs').mono ?_
  rintro e w1 ⟨rfl, hb1⟩
  go_wp2_with fail
  refine (refCount_any s _ hs').mono ?_
  rintro e w2 ⟨rfl, rfl⟩
  go_wp2_with fail
  refine (valid_any s _ hs').mono ?_
  rintro e w3 ⟨rfl, hb3⟩
  have B3 := step_below hb1 hb3 (Nat.le_refl _)
  clear hb1 hb3
  go_wp2_with fail
  refine (legal_any s _ hs').mono ?_
  rintro e w4 ⟨rfl, hb4⟩
  have B4 := step_below B3 hb4 (Nat.le_refl _)
  clear B3 hb4
  go_wp2_with fail
  refine (refLegal_any s _ hs').mono ?_
  rintro e w5 ⟨rfl, rfl⟩
  go_wp2_with fail
  refine (awake_any _ (hm.below B4 (Nat.le_refl _))).mono ?_
  rintro e w6 ⟨rfl, hb6⟩
  have B6 := step_below B4 hb6 (Nat.le_refl _)
  clear B4 hb6
  go_wp2
  go_ret
  exact ⟨rfl, B6⟩

theorem toList_append (s t : ByteArray) : (s ++ t).data.toList = s.data.toList ++ t.data.toList := by simp
set_option maxHeartbeats 2000000 in
theorem charsPairs_walk (s t : ByteArray) (w : World) (hs : s.size ≤ 140737488351232) (ht : t.size ≤ 140737488351232) (hm : Mx w) :
    Calls Tryd.prog 8 #[.string s, .string t] w fun e w' => e = .returned (.bool true) ∧ Below w.heap.size w w' := by
  have hs' : s.size ≤ maxLen := by unfold maxLen; omega
  have ht' : t.size ≤ maxLen := by unfold maxLen; omega
  have hst : (s ++ t).size = s.size + t.size := by simp
  have hst' : (s ++ t).size ≤ maxLen := by unfold maxLen; omega
  have hadd : ∀ wx : World, (Op.stringOp .add s t).run Tryd.prog wx = .ok (.string (s ++ t)) wx := fun wx => run_string_add_sum wx _ _ (by omega)
  clear hst
  have HC1 : Hid (∀ W, Calls Tryd.prog 9 #[.string s] W fun e w' => e = .returned (.tuple #[.int .i64 (cntN s.data.toList : Nat), .bool (cntOk s.data.toList)]) ∧ Below W.heap.size W w') := fun W => count_any s W hs'
  have HC2 : Hid (∀ W, Calls Tryd.prog 9 #[.string t] W fun e w' => e = .returned (.tuple #[.int .i64 (cntN t.data.toList : Nat), .bool (cntOk t.data.toList)]) ∧ Below W.heap.size W w') := fun W => count_any t W ht'
  have HC3 : Hid (∀ W, Calls Tryd.prog 9 #[.string (s ++ t)] W fun e w' => e = .returned (.tuple #[.int .i64 (cntN (s.data.toList ++ t.data.toList) : Nat), .bool (cntOk (s.data.toList ++ t.data.toList))]) ∧ Below W.heap.size W w') := fun W => by
    have := count_any (s ++ t) W hst'
    rw [toList_append] at this
    exact this
  have HL3 : Hid (∀ W, Calls Tryd.prog 12 #[.string (s ++ t)] W fun e w' => e = .returned (.bool (cntP xmlP (s.data.toList ++ t.data.toList)).isSome) ∧ Below W.heap.size W w') := fun W => by
    have := legal_any (s ++ t) W hst'
    rw [toList_append] at this
    exact this
  cases ho : cntP T s.data.toList with
  | none =>
    have h1 : cntOk s.data.toList = false := by rw [cntOk, ho]; rfl
    rw [h1] at HC1
    clear ho h1
    go_enter Tryd.func8, Tryd.ntmps8
    go_wp2_with fail
    refine (HC1.out _).mono ?_
    rintro e w1 ⟨rfl, hb1⟩
    go_wp2_with fail
    refine (HC2.out _).mono ?_
    rintro e w2 ⟨rfl, hb2⟩
    have B2 := step_below hb1 hb2 (Nat.le_refl _)
    clear hb1 hb2
    go_wp2_with fail
    refine (HC3.out _).mono ?_
    rintro e w3 ⟨rfl, hb3⟩
    have B3 := step_below B2 hb3 (Nat.le_refl _)
    clear B2 hb3
    go_wp2_with fail
    refine (awake_any _ (hm.below B3 (Nat.le_refl _))).mono ?_
    rintro e w6 ⟨rfl, hb6⟩
    have B6 := step_below B3 hb6 (Nat.le_refl _)
    clear B3 hb6
    go_wp2
    go_ret
    exact ⟨rfl, B6⟩
  | some a =>
    have hap := cntP_append xmlP _ s.data.toList t.data.toList a (Nat.le_refl _) ho
    have h1 : cntOk s.data.toList = true := by rw [cntOk, ho]; rfl
    have n1 : cntN s.data.toList = a := by rw [cntN, ho]; rfl
    have hle := cntP_le T _ s.data.toList (Nat.le_refl _)
    rw [ho] at hle
    have hsl : s.data.toList.length = s.size := by simp
    have htl : t.data.toList.length = t.size := by simp
    have ha : a ≤ 140737488351232 := by simp only [Option.getD_some] at hle; omega
    rw [h1, n1] at HC1
    have e3 : cntP T (s.data.toList ++ t.data.toList) = (cntP T t.data.toList).map (· + a) := hap.2
    cases ho2 : cntP T t.data.toList with
    | none =>
      have h2 : cntOk t.data.toList = false := by rw [cntOk, ho2]; rfl
      have h3 : cntOk (s.data.toList ++ t.data.toList) = false := by rw [cntOk, e3, ho2]; rfl
      rw [h2] at HC2
      rw [h3] at HC3
      clear ho h1 hap hle hsl htl e3 ho2 h2 h3 n1
      go_enter Tryd.func8, Tryd.ntmps8
      go_wp2_with fail
      refine (HC1.out _).mono ?_
      rintro e w1 ⟨rfl, hb1⟩
      go_wp2_with fail
      refine (HC2.out _).mono ?_
      rintro e w2 ⟨rfl, hb2⟩
      have B2 := step_below hb1 hb2 (Nat.le_refl _)
      clear hb1 hb2
      go_wp2_with fail
      refine (HC3.out _).mono ?_
      rintro e w3 ⟨rfl, hb3⟩
      have B3 := step_below B2 hb3 (Nat.le_refl _)
      clear B2 hb3
      go_wp2_with fail
      refine (awake_any _ (hm.below B3 (Nat.le_refl _))).mono ?_
      rintro e w6 ⟨rfl, hb6⟩
      have B6 := step_below B3 hb6 (Nat.le_refl _)
      clear B3 hb6
      go_wp2
      go_ret
      exact ⟨rfl, B6⟩
    | some b =>
      have hle2 := cntP_le T _ t.data.toList (Nat.le_refl _)
      rw [ho2] at hle2
      have hb : b ≤ 140737488351232 := by simp only [Option.getD_some] at hle2; omega
      have h2 : cntOk t.data.toList = true := by rw [cntOk, ho2]; rfl
      have n2 : cntN t.data.toList = b := by rw [cntN, ho2]; rfl
      have h3 : cntOk (s.data.toList ++ t.data.toList) = true := by rw [cntOk, e3, ho2]; rfl
      have n3 : cntN (s.data.toList ++ t.data.toList) = b + a := by rw [cntN, e3, ho2]; rfl
      rw [h2, n2] at HC2
      rw [h3, n3] at HC3
      have hq : (((b + a : Nat) : Int) == (a : Int) + (b : Int)) = true := by simp; omega
      have HL : Hid ((cntP xmlP (s.data.toList ++ t.data.toList)).isSome = ((cntP xmlP s.data.toList).isSome && (cntP xmlP t.data.toList).isSome)) := hap.1
      clear ho h1 hap hle hsl htl e3 ho2 h2 h3 n1 n2 n3 hle2
      obtain ⟨c, hc⟩ : ∃ c, c = b + a := ⟨_, rfl⟩
      rw [← hc] at HC3 hq
      clear hc
      go_enter Tryd.func8, Tryd.ntmps8
      go_wp2_with fail
      refine (HC1.out _).mono ?_
      rintro e w1 ⟨rfl, hb1⟩
      go_wp2_with fail
      refine (HC2.out _).mono ?_
      rintro e w2 ⟨rfl, hb2⟩
      have B2 := step_below hb1 hb2 (Nat.le_refl _)
      clear hb1 hb2
      go_wp2_with fail
      refine (HC3.out _).mono ?_
      rintro e w3 ⟨rfl, hb3⟩
      have B3 := step_below B2 hb3 (Nat.le_refl _)
      clear B2 hb3
      go_wp2_with fail
      refine (HL3.out _).mono ?_
      rintro e w4 ⟨rfl, hb4⟩
      have B4 := step_below B3 hb4 (Nat.le_refl _)
      clear B3 hb4
      go_wp2_with fail
      refine (legal_any s _ hs').mono ?_
      rintro e w5 ⟨rfl, hb5⟩
      have B5 := step_below B4 hb5 (Nat.le_refl _)
      clear B4 hb5
      cases hx : (cntP xmlP s.data.toList).isSome
      · have hy : (cntP xmlP (s.data.toList ++ t.data.toList)).isSome = false := by rw [HL.out, hx]; rfl
        rw [hy]
        clear hx hy HL
        go_wp2_with fail
        refine (awake_any _ (hm.below B5 (Nat.le_refl _))).mono ?_
        rintro e w6 ⟨rfl, hb6⟩
        have B6 := step_below B5 hb6 (Nat.le_refl _)
        clear B5 hb6
        go_wp2
        go_ret
        exact ⟨rfl, B6⟩
      · have hy : (cntP xmlP (s.data.toList ++ t.data.toList)).isSome = (cntP xmlP t.data.toList).isSome := by rw [HL.out, hx]; rfl
        rw [hy]
        clear hx hy HL
        go_wp2_with fail
        refine (legal_any t _ ht').mono ?_
        rintro e w7 ⟨rfl, hb7⟩
        have B7 := step_below B5 hb7 (Nat.le_refl _)
        clear B5 hb7
        go_wp2_with fail
        refine (awake_any _ (hm.below B7 (Nat.le_refl _))).mono ?_
        rintro e w6 ⟨rfl, hb6⟩
        have B6 := step_below B7 hb6 (Nat.le_refl _)
        clear B7 hb6
        go_wp2
        go_ret
        exact ⟨rfl, B6⟩
end Go.Proofs.YtcdlhcgmjgeacaaDoor

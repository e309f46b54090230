/-
  enc.Int and the document's Int by their contracts (out of the seat of stage 16).
-/
import Derived.Test.YtgpjjlkkfddjnaaDoorRunA
namespace Go.Proofs.YtgpjjlkkfddjnaaDoor.En
open Go.RowKit

theorem ret_ib {k : IntKind} {a b : Int} {p q : Bool} (h : a = b) (g : p = q) : Ending.returned (.tuple #[.int k a, .bool p]) = .returned (.tuple #[.int k b, .bool q]) := by rw [h, g]
def dvOk (c : Int) : Bool := decide (48 ≤ c ∧ c ≤ 57)
def dvN (c : Int) : Int := if 48 ≤ c ∧ c ≤ 57 then c - 48 else 0
theorem dv1 {c : Int} (a : 48 ≤ c) (b : c ≤ 57) : dvN c = c - 48 ∧ dvOk c = true := by
  unfold dvN dvOk
  exact ⟨if_pos ⟨a, b⟩, by simp [a, b]⟩
theorem dv3 {c : Int} (a : ¬ (48 ≤ c ∧ c ≤ 57)) : dvN c = 0 ∧ dvOk c = false := by
  unfold dvN dvOk
  exact ⟨if_neg a, decide_eq_false a⟩

theorem decimalValue_any (c : Int) (w : World) (h0 : 0 ≤ c) (h1 : c ≤ 255) :
    Calls Tryd.prog 73 #[.int .u8 c] w fun e w' => e = .returned (.tuple #[.int .u8 (dvN c), .bool (dvOk c)]) ∧ w = w' := by
  by_cases a : 48 ≤ c
  · by_cases b : c ≤ 57
    · go_enter Tryd.func73, Tryd.ntmps73
      go_wp2
      go_ret2
      exact ⟨ret_ib (dv1 a b).1.symm (dv1 a b).2.symm, rfl⟩
    · go_enter Tryd.func73, Tryd.ntmps73
      go_wp2
      go_ret2
      exact ⟨ret_ib (dv3 (by omega)).1.symm (dv3 (by omega)).2.symm, rfl⟩
  · go_enter Tryd.func73, Tryd.ntmps73
    go_wp2
    go_ret2
    exact ⟨ret_ib (dv3 (by omega)).1.symm (dv3 (by omega)).2.symm, rfl⟩

def nth (l : List UInt8) (i : Nat) : Int := ((l.getD i 0).toNat : Int)
theorem nth_eq {l : List UInt8} {i : Nat} (h : i < l.length) : nth l i = (l[i].toNat : Int) := by simp [nth, List.getD, List.getElem?_eq_getElem h]
def ival (l : List UInt8) : Nat → Int
  | 0 => 0
  | k + 1 => ival l k * 10 + dvN (nth l k)
theorem dvN_bd (c : Int) : 0 ≤ dvN c ∧ dvN c ≤ 9 := by unfold dvN; split <;> omega
theorem ival_bd (l : List UInt8) : ∀ k, 0 ≤ ival l k ∧ ival l k + 1 ≤ (10 : Int) ^ k
  | 0 => by simp [ival]
  | k + 1 => by
    have h := ival_bd l k
    have d := dvN_bd (nth l k)
    simp only [ival, Int.pow_succ]
    omega
theorem pow_mono : ∀ k : Nat, k < 18 → (10 : Int) ^ k ≤ 10 ^ 17 := by decide +kernel
theorem ival_17 (l : List UInt8) {k : Nat} (h : k < 18) : ival l k ≤ 99999999999999999 := by
  have hb := ival_bd l k
  have hp : (10 : Int) ^ k ≤ 10 ^ 17 := pow_mono k (by omega)
  have he : (10 : Int) ^ 17 = 100000000000000000 := by decide
  omega
def intOk (l : List UInt8) : Bool := decide (1 ≤ l.length) && decide (l.length ≤ 18) && !(decide (1 < l.length) && decide (nth l 0 = 48)) && (List.range l.length).all fun i => dvOk (nth l i)
def intV (l : List UInt8) : Int := if intOk l then ival l l.length else 0
theorem intV_no {l : List UInt8} (h : intOk l = false) : intV l = 0 := by simp [intV, h]
theorem intV_yes {l : List UInt8} (h : intOk l = true) : intV l = ival l l.length := by simp [intV, h]
theorem intOk_0 {l : List UInt8} (h : l.length = 0) : intOk l = false := by simp [intOk, h]
theorem intOk_18 {l : List UInt8} (h : 18 < l.length) : intOk l = false := by
  have : decide (l.length ≤ 18) = false := decide_eq_false (by omega)
  simp [intOk, this]
theorem intOk_lead {l : List UInt8} (h : 1 < l.length) (h0 : nth l 0 = 48) : intOk l = false := by simp [intOk, h, h0]
theorem intOk_at {l : List UInt8} {k : Nat} (hk : k < l.length) (h : dvOk (nth l k) = false) : intOk l = false := by
  rw [intOk, Bool.and_eq_false_iff]
  right
  rw [List.all_eq_false]
  exact ⟨k, by simpa using hk, by simp [h]⟩
theorem intOk_all {l : List UInt8} (h1 : 1 ≤ l.length) (h18 : l.length ≤ 18) (h0 : 1 < l.length → nth l 0 ≠ 48) (h : ∀ i, i < l.length → dvOk (nth l i) = true) : intOk l = true := by
  rw [intOk, Bool.and_eq_true, Bool.and_eq_true, Bool.and_eq_true]
  refine ⟨⟨⟨by simpa using h1, by simpa using h18⟩, ?_⟩, ?_⟩
  · simp only [Bool.not_eq_true', Bool.and_eq_false_iff, decide_eq_false_iff_not]
    by_cases hh : 1 < l.length
    · exact .inr (h0 hh)
    · exact .inl hh
  · rw [List.all_eq_true]
    intro x hx
    exact h x (by simpa using hx)

set_option maxHeartbeats 800000 in
/-- The loop and what stands behind it, once the length and the first digit are as they may be. -/
theorem int_core (s : ByteArray) (w : World) (h1 : 0 < s.size) (h18 : s.size ≤ 18) (hl : 1 < s.size → ((s[0]'h1).toNat : Int) ≠ 48) :
    Calls Tryd.prog 57 #[.string s] w fun e w' => e = .returned (.tuple #[.int .i64 (intV s.data.toList), .bool (intOk s.data.toList)]) ∧ w = w' := by
  have hL : Hid (s.data.toList.length = s.size) := by show _ = _; simp
  have hz : ((s.size : Int) == 0) = false := by rw [beq_eq_false_iff_ne]; omega
  have hfirst : Hid (1 < s.data.toList.length → nth s.data.toList 0 ≠ 48) := by
    show 1 < s.data.toList.length → nth s.data.toList 0 ≠ 48
    intro h
    rw [nth_eq (i := 0) (l := s.data.toList) (by omega)]
    exact hl (by simpa using h)
  have hg : (((s.size : Int) ≤ 1) ∨ ((1 : Int) < (s.size : Int) ∧ (((s[0]'h1).toNat : Int) == 48) = false)) := by
    by_cases hone : s.size = 1
    · exact .inl (by omega)
    · exact .inr ⟨by omega, by have := hl (by omega); simpa using this⟩
  clear hl
  rcases hg with hg | ⟨hg, hg0⟩
  all_goals
    go_enter Tryd.func57, Tryd.ntmps57
    go_wp2
    go_loop [4, 28] (fun n i => ∃ k : Nat, k ≤ s.size ∧ i = .int .i64 k ∧ n = .int .i64 (ival s.data.toList k) ∧ ∀ j, j < k → dvOk (nth s.data.toList j) = true) (fun _ i => s.size - (intOf i).toNat)
    case atStart => exact ⟨0, Nat.zero_le _, rfl, rfl, fun j hj => by omega⟩
    case round =>
      obtain ⟨k, hk, rfl, rfl, hall⟩ := hrel
      by_cases hlt : k < s.size
      · have b1 : (s[k].toNat : Int) ≤ 255 := by have := s[k].toNat_lt; omega
        have iv0 := (ival_bd s.data.toList k).1
        have iv1 := ival_17 s.data.toList (k := k) (by omega)
        have d0 := dvN_bd (s[k].toNat : Int)
        have HN : Hid (nth s.data.toList k = (s[k].toNat : Int)) := nth_eq (by simpa using hlt)
        by_cases o1 : dvOk (s[k].toNat : Int) = true
        · go_wp2_with (go_at_call 73; refine (decimalValue_any _ _ (by omega) (by omega)).mono ?_; rintro e w' ⟨rfl, rfl⟩)
          go_round
          case rel =>
            refine ⟨k + 1, by omega, by go_num, ?_, ?_⟩
            · rw [ival, HN.out]
            · intro j hj
              by_cases hjk : j = k
              · rw [hjk, HN.out]; exact o1
              · exact hall j (by omega)
          case measure => simp [intOf]; omega
        · have o1' : dvOk (s[k].toNat : Int) = false := by simpa using o1
          clear o1
          go_wp2_with (go_at_call 73; refine (decimalValue_any _ _ (by omega) (by omega)).mono ?_; rintro e w' ⟨rfl, rfl⟩)
          go_ret2
          have hno : intOk s.data.toList = false := intOk_at (k := k) (by rw [hL.out]; exact hlt) (by rw [HN.out]; exact o1')
          exact ⟨ret_ib (intV_no hno).symm hno.symm, rfl⟩
      · have hkl : k = s.size := by omega
        subst hkl
        have hyes : Hid (intOk s.data.toList = true) := intOk_all (by rw [hL.out]; exact h1) (by rw [hL.out]; exact h18) hfirst.out (by rw [hL.out]; exact hall)
        clear hall
        go_wp2
        go_ret2
        exact ⟨ret_ib (by rw [intV_yes hyes.out, hL.out]) hyes.out.symm, rfl⟩

theorem int_any (s : ByteArray) (w : World) (hs : s.size ≤ 140737488351232) :
    Calls Tryd.prog 57 #[.string s] w fun e w' => e = .returned (.tuple #[.int .i64 (intV s.data.toList), .bool (intOk s.data.toList)]) ∧ w = w' := by
  have hL : s.data.toList.length = s.size := by simp
  by_cases a : s.size = 0
  · have hno : Hid (intOk s.data.toList = false) := intOk_0 (by rw [hL]; exact a)
    have hz : ((s.size : Int) == 0) = true := by simp [a]
    clear a hL
    go_enter Tryd.func57, Tryd.ntmps57
    go_wp2
    go_ret2
    exact ⟨ret_ib (intV_no hno.out).symm hno.out.symm, rfl⟩
  · have hp : 0 < s.size := by omega
    by_cases b : s.size ≤ 18
    · by_cases c : 1 < s.size ∧ ((s[0]'hp).toNat : Int) = 48
      · have hno : Hid (intOk s.data.toList = false) := intOk_lead (by rw [hL]; exact c.1) (by rw [nth_eq (i := 0) (l := s.data.toList) (by rw [hL]; omega)]; exact c.2)
        have hz : ((s.size : Int) == 0) = false := by rw [beq_eq_false_iff_ne]; omega
        have hg : (1 : Int) < (s.size : Int) := by have := c.1; omega
        have h48 : (((s[0]'hp).toNat : Int) == 48) = true := by simp [c.2]
        clear a hL c
        go_enter Tryd.func57, Tryd.ntmps57
        go_wp2
        go_ret2
        exact ⟨ret_ib (intV_no hno.out).symm hno.out.symm, rfl⟩
      · exact int_core s w hp b (fun h1 h2 => c ⟨h1, h2⟩)
    · have hno : Hid (intOk s.data.toList = false) := intOk_18 (by rw [hL]; omega)
      have hz : ((s.size : Int) == 0) = false := by rw [beq_eq_false_iff_ne]; omega
      have hg : (18 : Int) < (s.size : Int) := by omega
      clear a hL b
      go_enter Tryd.func57, Tryd.ntmps57
      go_wp2
      go_ret2
      exact ⟨ret_ib (intV_no hno.out).symm hno.out.symm, rfl⟩
set_option maxHeartbeats 800000 in
theorem refInt_core (s : ByteArray) (w : World) (h1 : 0 < s.size) (h18 : s.size ≤ 18) (hl : 1 < s.size → ((s[0]'h1).toNat : Int) ≠ 48) :
    Calls Tryd.prog 36 #[.string s] w fun e w' => e = .returned (.tuple #[.int .i64 (intV s.data.toList), .bool (intOk s.data.toList)]) ∧ w = w' := by
  have hL : Hid (s.data.toList.length = s.size) := by show _ = _; simp
  have hz : ((s.size : Int) == 0) = false := by rw [beq_eq_false_iff_ne]; omega
  have hfirst : Hid (1 < s.data.toList.length → nth s.data.toList 0 ≠ 48) := by
    show 1 < s.data.toList.length → nth s.data.toList 0 ≠ 48
    intro h
    rw [nth_eq (i := 0) (l := s.data.toList) (by omega)]
    exact hl (by simpa using h)
  have hg : ((((s[0]'h1).toNat : Int) == 48) = false ∨ ((((s[0]'h1).toNat : Int) == 48) = true ∧ (s.size : Int) ≤ 1)) := by
    by_cases h0 : ((s[0]'h1).toNat : Int) = 48
    · right
      refine ⟨by simp [h0], ?_⟩
      by_cases hh : 1 < s.size
      · exact absurd h0 (hl hh)
      · omega
    · exact .inl (by simp [h0])
  clear hl
  rcases hg with hg | ⟨hg, hg0⟩
  all_goals
    go_enter Tryd.func36, Tryd.ntmps36
    go_wp2
    go_loop [4, 5] (fun n i => ∃ k : Nat, k ≤ s.size ∧ i = .int .i64 k ∧ n = .int .i64 (ival s.data.toList k) ∧ ∀ j, j < k → dvOk (nth s.data.toList j) = true) (fun _ i => s.size - (intOf i).toNat)
    case atStart => exact ⟨0, Nat.zero_le _, rfl, rfl, fun j hj => by omega⟩
    case round =>
      obtain ⟨k, hk, rfl, rfl, hall⟩ := hrel
      by_cases hlt : k < s.size
      · have b1 : (s[k].toNat : Int) ≤ 255 := by have := s[k].toNat_lt; omega
        have iv0 := (ival_bd s.data.toList k).1
        have iv1 := ival_17 s.data.toList (k := k) (by omega)
        have HN : Hid (nth s.data.toList k = (s[k].toNat : Int)) := nth_eq (by simpa using hlt)
        by_cases a : 48 ≤ (s[k].toNat : Int)
        · by_cases b : (s[k].toNat : Int) ≤ 57
          · have HV := dv1 a b
            have HD : Hid (dvN (s[k].toNat : Int) = (s[k].toNat : Int) - 48 ∧ dvOk (s[k].toNat : Int) = true) := HV
            clear HV
            go_wp2
            go_round
            case rel =>
              refine ⟨k + 1, by omega, by go_num, ?_, ?_⟩
              · rw [ival, HN.out, HD.out.1]
                go_num
              · intro j hj
                by_cases hjk : j = k
                · rw [hjk, HN.out]; exact HD.out.2
                · exact hall j (by omega)
            case measure => simp [intOf]; omega
          · have HD : Hid (dvOk (s[k].toNat : Int) = false) := (dv3 (by omega)).2
            go_wp2
            go_ret2
            have hno : intOk s.data.toList = false := intOk_at (k := k) (by rw [hL.out]; exact hlt) (by rw [HN.out]; exact HD.out)
            exact ⟨ret_ib (intV_no hno).symm hno.symm, rfl⟩
        · have HD : Hid (dvOk (s[k].toNat : Int) = false) := (dv3 (by omega)).2
          go_wp2
          go_ret2
          have hno : intOk s.data.toList = false := intOk_at (k := k) (by rw [hL.out]; exact hlt) (by rw [HN.out]; exact HD.out)
          exact ⟨ret_ib (intV_no hno).symm hno.symm, rfl⟩
      · have hkl : k = s.size := by omega
        subst hkl
        have hyes : Hid (intOk s.data.toList = true) := intOk_all (by rw [hL.out]; exact h1) (by rw [hL.out]; exact h18) hfirst.out (by rw [hL.out]; exact hall)
        clear hall
        go_wp2
        go_ret2
        exact ⟨ret_ib (by rw [intV_yes hyes.out, hL.out]) hyes.out.symm, rfl⟩

theorem refInt_any (s : ByteArray) (w : World) (hs : s.size ≤ 140737488351232) :
    Calls Tryd.prog 36 #[.string s] w fun e w' => e = .returned (.tuple #[.int .i64 (intV s.data.toList), .bool (intOk s.data.toList)]) ∧ w = w' := by
  have hL : s.data.toList.length = s.size := by simp
  by_cases a : s.size = 0
  · have hno : Hid (intOk s.data.toList = false) := intOk_0 (by rw [hL]; exact a)
    have hz : ((s.size : Int) == 0) = true := by simp [a]
    clear a hL
    go_enter Tryd.func36, Tryd.ntmps36
    go_wp2
    go_ret2
    exact ⟨ret_ib (intV_no hno.out).symm hno.out.symm, rfl⟩
  · have hp : 0 < s.size := by omega
    by_cases b : s.size ≤ 18
    · by_cases c : 1 < s.size ∧ ((s[0]'hp).toNat : Int) = 48
      · have hno : Hid (intOk s.data.toList = false) := intOk_lead (by rw [hL]; exact c.1) (by rw [nth_eq (i := 0) (l := s.data.toList) (by rw [hL]; omega)]; exact c.2)
        have hz : ((s.size : Int) == 0) = false := by rw [beq_eq_false_iff_ne]; omega
        have hg : (1 : Int) < (s.size : Int) := by have := c.1; omega
        have h48 : (((s[0]'hp).toNat : Int) == 48) = true := by simp [c.2]
        clear a hL c
        go_enter Tryd.func36, Tryd.ntmps36
        go_wp2
        go_ret2
        exact ⟨ret_ib (intV_no hno.out).symm hno.out.symm, rfl⟩
      · exact refInt_core s w hp b (fun h1 h2 => c ⟨h1, h2⟩)
    · have hno : Hid (intOk s.data.toList = false) := intOk_18 (by rw [hL]; omega)
      have hz : ((s.size : Int) == 0) = false := by rw [beq_eq_false_iff_ne]; omega
      have hg : (18 : Int) < (s.size : Int) := by omega
      clear a hL b
      go_enter Tryd.func36, Tryd.ntmps36
      go_wp2
      go_ret2
      exact ⟨ret_ib (intV_no hno.out).symm hno.out.symm, rfl⟩

end Go.Proofs.YtgpjjlkkfddjnaaDoor.En

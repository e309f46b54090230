/-
  The document's Int and Text by their contracts.
-/
import Derived.Test.YtbhiabcgjnfpoaaGreatDoorRun14
import Derived.Lib.ItoaMem
import Derived.Test.YtbhiabcgjnfpoaaGreatDoorRun05
import Derived.Lib.SmallJoins
import Derived.Lib.AppendIntMem
namespace Go.Proofs.YtbhiabcgjnfpoaaGreatDoor.En
open Go.RowKit

set_option maxHeartbeats 800000 in
theorem refInt_core (s : ByteArray) (w : World) (h1 : 0 < s.size) (h18 : s.size ≤ 18) (hl : 1 < s.size → ((s[0]'h1).toNat : Int) ≠ 48) :
    Calls Tryz.prog 99 #[.string s] w fun e w' => e = .returned (.tuple #[.int .i64 (intV s.data.toList), .bool (intOk s.data.toList)]) ∧ w = w' := by
  have hL : Hid (s.data.toList.length = s.size) := by show _ = _; simp
  have hz : ((s.size : Int) == 0) = false := by rw [beq_eq_false_iff_ne]; omega
  have hfirst : Hid (1 < s.data.toList.length → nth s.data.toList 0 ≠ 48) := by
    show 1 < s.data.toList.length → nth s.data.toList 0 ≠ 48
    intro h
    rw [nth_eq (i := 0) (l := s.data.toList) (by omega)]
    exact hl (by simpa using h)
  have hg : ((((s[0]'h1).toNat : Int) == 48) = false ∨ ((((s[0]'h1).toNat : Int) == 48) = true ∧ (s.size : Int) ≤ 1)) := by
    by_cases h0 : ((s[0]'h1).toNat : Int) = 48
    · right
      refine ⟨by simp [h0], ?_⟩
      by_cases hh : 1 < s.size
      · exact absurd h0 (hl hh)
      · omega
    · exact .inl (by simp [h0])
  clear hl
  rcases hg with hg | ⟨hg, hg0⟩
  all_goals
    go_enter Tryz.func99, Tryz.ntmps99
    go_wp2
    go_loop [4, 5] (fun n i => ∃ k : Nat, k ≤ s.size ∧ i = .int .i64 k ∧ n = .int .i64 (ival s.data.toList k) ∧ ∀ j, j < k → dvOk (nth s.data.toList j) = true) (fun _ i => s.size - (intOf i).toNat)
    case atStart => exact ⟨0, Nat.zero_le _, rfl, rfl, fun j hj => by omega⟩
    case round =>
      obtain ⟨k, hk, rfl, rfl, hall⟩ := hrel
      by_cases hlt : k < s.size
      · have b1 : (s[k].toNat : Int) ≤ 255 := by have := s[k].toNat_lt; omega
        have iv0 := (ival_bd s.data.toList k).1
        have iv1 := ival_17 s.data.toList (k := k) (by omega)
        have HN : Hid (nth s.data.toList k = (s[k].toNat : Int)) := nth_eq (by simpa using hlt)
        by_cases a : 48 ≤ (s[k].toNat : Int)
        · by_cases b : (s[k].toNat : Int) ≤ 57
          · have HV := dv1 a b
            have HD : Hid (dvN (s[k].toNat : Int) = (s[k].toNat : Int) - 48 ∧ dvOk (s[k].toNat : Int) = true) := HV
            clear HV
            go_wp2
            go_round
            case rel =>
              refine ⟨k + 1, by omega, by go_num, ?_, ?_⟩
              · rw [ival, HN.out, HD.out.1]
                go_num
              · intro j hj
                by_cases hjk : j = k
                · rw [hjk, HN.out]; exact HD.out.2
                · exact hall j (by omega)
            case measure => simp [intOf]; omega
          · have HD : Hid (dvOk (s[k].toNat : Int) = false) := (dv3 (by omega)).2
            go_wp2
            go_ret2
            have hno : intOk s.data.toList = false := intOk_at (k := k) (by rw [hL.out]; exact hlt) (by rw [HN.out]; exact HD.out)
            exact ⟨ret_ib (intV_no hno).symm hno.symm, rfl⟩
        · have HD : Hid (dvOk (s[k].toNat : Int) = false) := (dv3 (by omega)).2
          go_wp2
          go_ret2
          have hno : intOk s.data.toList = false := intOk_at (k := k) (by rw [hL.out]; exact hlt) (by rw [HN.out]; exact HD.out)
          exact ⟨ret_ib (intV_no hno).symm hno.symm, rfl⟩
      · have hkl : k = s.size := by omega
        subst hkl
        have hyes : Hid (intOk s.data.toList = true) := intOk_all (by rw [hL.out]; exact h1) (by rw [hL.out]; exact h18) hfirst.out (by rw [hL.out]; exact hall)
        clear hall
        go_wp2
        go_ret2
        exact ⟨ret_ib (by rw [intV_yes hyes.out, hL.out]) hyes.out.symm, rfl⟩

theorem refInt_any (s : ByteArray) (w : World) (hs : s.size ≤ 140737488351232) :
    Calls Tryz.prog 99 #[.string s] w fun e w' => e = .returned (.tuple #[.int .i64 (intV s.data.toList), .bool (intOk s.data.toList)]) ∧ w = w' := by
  have hL : s.data.toList.length = s.size := by simp
  by_cases a : s.size = 0
  · have hno : Hid (intOk s.data.toList = false) := intOk_0 (by rw [hL]; exact a)
    have hz : ((s.size : Int) == 0) = true := by simp [a]
    clear a hL
    go_enter Tryz.func99, Tryz.ntmps99
    go_wp2
    go_ret2
    exact ⟨ret_ib (intV_no hno.out).symm hno.out.symm, rfl⟩
  · have hp : 0 < s.size := by omega
    by_cases b : s.size ≤ 18
    · by_cases c : 1 < s.size ∧ ((s[0]'hp).toNat : Int) = 48
      · have hno : Hid (intOk s.data.toList = false) := intOk_lead (by rw [hL]; exact c.1) (by rw [nth_eq (i := 0) (l := s.data.toList) (by rw [hL]; omega)]; exact c.2)
        have hz : ((s.size : Int) == 0) = false := by rw [beq_eq_false_iff_ne]; omega
        have hg : (1 : Int) < (s.size : Int) := by have := c.1; omega
        have h48 : (((s[0]'hp).toNat : Int) == 48) = true := by simp [c.2]
        clear a hL c
        go_enter Tryz.func99, Tryz.ntmps99
        go_wp2
        go_ret2
        exact ⟨ret_ib (intV_no hno.out).symm hno.out.symm, rfl⟩
      · exact refInt_core s w hp b (fun h1 h2 => c ⟨h1, h2⟩)
    · have hno : Hid (intOk s.data.toList = false) := intOk_18 (by rw [hL]; omega)
      have hz : ((s.size : Int) == 0) = false := by rw [beq_eq_false_iff_ne]; omega
      have hg : (18 : Int) < (s.size : Int) := by omega
      clear a hL b
      go_enter Tryz.func99, Tryz.ntmps99
      go_wp2
      go_ret2
      exact ⟨ret_ib (intV_no hno.out).symm hno.out.symm, rfl⟩

theorem hd_dec {v : Nat} (h : v < 10) : UInt8.ofNat (hd (v : Int)).toNat = UInt8.ofNat (48 + v) := by
  have e : (hd (v : Int)).toNat = 48 + v := by unfold hd; rw [if_pos (by omega)]; omega
  rw [e]

set_option maxHeartbeats 800000 in
theorem refText_nat (n : Nat) (w : World) (hn : n ≤ 9223372036854775807) :
    Calls Tryz.prog 37 #[.int .i64 (n : Int)] w fun e w' => e = .returned (.string ⟨(Lib.decDigits n).toArray⟩) ∧ w = w' := by
  go_enter Tryz.func37, Tryz.ntmps37
  go_wp2
  go_loop [0, 3] (fun x s => ∃ (m : Nat) (tl : List UInt8), x = .int .i64 m ∧ s = .string ⟨tl.toArray⟩ ∧ 9 * tl.length + m ≤ n ∧ Lib.decDigits m ++ tl = Lib.decDigits n) (fun x _ => (intOf x).toNat)
  case atStart => exact ⟨n, [], rfl, rfl, by simp, by simp⟩
  case round =>
    obtain ⟨m, tl, rfl, rfl, hb, hd⟩ := hrel
    have HD : Hid (Lib.decDigits m ++ tl = Lib.decDigits n) := hd
    clear hd
    have hs1 : ∀ (x : UInt8) (wx : World), (Op.stringOp .add ⟨#[x]⟩ ⟨tl.toArray⟩).run Tryz.prog wx = .ok (.string ⟨(x :: tl).toArray⟩) wx := fun x wx => by
      rw [run_string_add_sum wx _ _ (by simp [ByteArray.size]; omega)]
      exact congrArg (fun z => Result.ok (Value.string z) wx) (ByteArray.mk_append_mk [x] tl)
    by_cases h9 : 9 < m
    · have HE : Hid (Lib.decDigits m = Lib.decDigits (m / 10) ++ [UInt8.ofNat (48 + m % 10)]) := by
        show _ = _
        rw [Lib.decDigits, dif_neg (by omega)]
      have e1 : ((m : Int) % 10) = ((m % 10 : Nat) : Int) := by omega
      have E1 : Hid (((m : Int) % 10) = ((m % 10 : Nat) : Int)) := e1
      clear e1
      go_wp2_with fail
      refine (digit_int _ _ (by omega) (by omega)).mono ?_
      rintro e w' ⟨rfl, rfl⟩
      go_wp2
      go_round
      case rel =>
        refine ⟨m / 10, UInt8.ofNat (hd ((m : Int) % 10)).toNat :: tl, by go_num, rfl, ?_, ?_⟩
        · simp only [List.length_cons]; omega
        · rw [E1.out, hd_dec (by omega), ← HD.out, HE.out, List.append_assoc]
          rfl
      case measure => simp [intOf]; omega
    · have HE : Hid (Lib.decDigits m = [UInt8.ofNat (48 + m)]) := by
        show _ = _
        rw [Lib.decDigits, dif_pos (by omega)]
      go_wp2_with fail
      refine (digit_int _ _ (by omega) (by omega)).mono ?_
      rintro e w' ⟨rfl, rfl⟩
      go_wp2
      go_ret
      exact ⟨ret_str (by rw [hd_dec (by omega), ← HD.out, HE.out]; rfl), rfl⟩

theorem dec_len (m : Nat) : (Lib.decDigits m).length ≤ m / 9 + 1 := by
  induction m using Nat.strongRecOn with
  | _ m ih =>
    rw [Lib.decDigits]
    split
    · simp
    · have := ih (m / 10) (by omega)
      simp only [List.length_append, List.length_cons, List.length_nil]
      omega
theorem min_digits : Lib.itoa (-9223372036854775808) = [45, 57, 50, 50, 51, 51, 55, 50, 48, 51, 54, 56, 53, 52, 55, 55, 53, 56, 48, 56] := by
  have e : Lib.itoa (-((9223372036854775808 : Nat) : Int)) = 45 :: Lib.decDigits 9223372036854775808 := Lib.itoa_neg _ (by decide)
  have e2 : Lib.decDigits 9223372036854775808 = [57, 50, 50, 51, 51, 55, 50, 48, 51, 54, 56, 53, 52, 55, 55, 53, 56, 48, 56] := by simp [Lib.decDigits]
  rw [e2] at e
  exact e

set_option maxHeartbeats 800000 in
theorem refText_any (n : Int) (w : World) (h0 : -9223372036854775808 ≤ n) (h1 : n ≤ 9223372036854775807) :
    Calls Tryz.prog 37 #[.int .i64 n] w fun e w' => e = .returned (.string ⟨(Lib.itoa n).toArray⟩) ∧ w = w' := by
  by_cases hneg : n < 0
  · by_cases hmin : n = -9223372036854775808
    · have HM : Hid (n = -9223372036854775808) := hmin
      have hq : (n == wrap64 (-n)) = true := by
        rw [hmin, beq_iff_eq]
        unfold wrap64
        omega
      clear hmin h0 h1
      go_enter Tryz.func37, Tryz.ntmps37
      go_wp2
      go_ret
      exact ⟨ret_str (by rw [HM.out, min_digits]), rfl⟩
    · obtain ⟨m, hm⟩ : ∃ m : Nat, -n = (m : Int) := ⟨(-n).toNat, by omega⟩
      obtain rfl : n = -(m : Int) := by omega
      have hm1 : 1 ≤ m := by omega
      have HI : Hid (Lib.itoa (-(m : Int)) = 45 :: Lib.decDigits m) := Lib.itoa_neg m hm1
      have hm2 : (m : Int) ≤ 9223372036854775807 := by omega
      have hlen : (Lib.decDigits m).length ≤ m / 9 + 1 := dec_len m
      have hs1 : ∀ (wx : World), (Op.stringOp .add ⟨#[45]⟩ ⟨(Lib.decDigits m).toArray⟩).run Tryz.prog wx = .ok (.string ⟨(45 :: Lib.decDigits m).toArray⟩) wx := fun wx => by
        rw [run_string_add_sum wx _ _ (by simp [ByteArray.size]; omega)]
        exact congrArg (fun z => Result.ok (Value.string z) wx) (ByteArray.mk_append_mk [45] _)
      have C : Hid (∀ wx, Calls Tryz.prog 37 #[.int .i64 (m : Int)] wx fun e w' => e = .returned (.string ⟨(Lib.decDigits m).toArray⟩) ∧ wx = w') := fun wx => refText_nat m wx (by omega)
      clear hm hmin
      go_enter Tryz.func37, Tryz.ntmps37
      go_wp2_with fail
      refine (C.out _).mono ?_
      rintro e w' ⟨rfl, rfl⟩
      go_wp2
      go_ret
      exact ⟨ret_str (by rw [HI.out]), rfl⟩
  · obtain ⟨m, rfl⟩ := Int.eq_ofNat_of_zero_le (show 0 ≤ n by omega)
    have := refText_nat m w (by omega)
    rw [← Lib.itoa_nonneg] at this
    exact this
end Go.Proofs.YtbhiabcgjnfpoaaGreatDoor.En
/-
  enc.Text by its contract.
-/
namespace Go.Proofs.YtbhiabcgjnfpoaaGreatDoor
open Go.RowKit

def Tab (w : World) : Prop := Lib.TabIs Tryz.prog w "internal/strconv.uint64pow10" .u64 Lib.pow10Tab
theorem tab_global : Tryz.prog.globalNamed "internal/strconv.uint64pow10" = some 1 := by kernel_rfl
theorem Tab.below {w w' : World} (h : Tab w) (hb : Below w.heap.size w w') : Tab w' := Joins.tab_stays tab_global h hb (Nat.le_refl _)

theorem text_any (n : Int) (w : World) (h0 : -9223372036854775808 ≤ n) (h1 : n ≤ 9223372036854775807) (ht : Tab w) :
    Calls Tryz.prog 32 #[.int .i64 n] w fun e w' => e = .returned (.string ⟨(Lib.itoa n).toArray⟩) ∧ Below w.heap.size w w' := by
  have HI : Hid (∀ W, Tab W → Calls Tryz.prog 86 #[.int .i64 n] W fun e w' => e = .returned (.string ⟨(Lib.itoa n).toArray⟩) ∧ Below W.heap.size W w') := fun W hT =>
    (strconv_Itoa n h0 h1 W hT).mono fun _ _ ⟨he, k, os, hw⟩ => ⟨he, by rw [hw]; exact Lib.below_grow _ _ (Nat.le_refl _) k os⟩
  clear h0 h1
  go_enter Tryz.func32, Tryz.ntmps32
  go_wp2_with fail
  refine (HI.out _ ht).mono ?_
  rintro e w1 ⟨rfl, hb1⟩
  go_wp2
  go_ret
  exact ⟨rfl, hb1⟩
end Go.Proofs.YtbhiabcgjnfpoaaGreatDoor

/-
  Numbers as digits with noughts ahead: package when's and the document's.
-/
import Derived.Test.YtbemlmhchpinhaaDoorRefCivil
import Derived.Test.YtbemlmhchpinhaaDoorShelf
import Derived.Lib.ItoaMem
import Derived.Laws.Concat
namespace Go.Proofs.YtbemlmhchpinhaaDoor
open Go.RowKit

def dg (v : Nat) : UInt8 := UInt8.ofNat (48 + v)
def pd2 (n : Nat) : List UInt8 := [dg (n / 10), dg (n % 10)]
def pd4 (n : Nat) : List UInt8 := [dg (n / 1000), dg (n / 100 % 10), dg (n / 10 % 10), dg (n % 10)]

theorem dec_1 {n : Nat} (h : n < 10) : Lib.decDigits n = [dg n] := by rw [Lib.decDigits, dif_pos h]; rfl
theorem dec_2 {n : Nat} (h : n < 100) (h' : 10 ≤ n) : Lib.decDigits n = pd2 n := by
  rw [Lib.decDigits, dif_neg (by omega), dec_1 (by omega)]; rfl
theorem dec_4 {n : Nat} (h : n < 10000) (h' : 1000 ≤ n) : Lib.decDigits n = pd4 n := by
  rw [Lib.decDigits, dif_neg (by omega), Lib.decDigits, dif_neg (by omega), dec_2 (by omega) (by omega)]
  unfold pd2 pd4 dg
  have e1 : n / 10 / 10 / 10 = n / 1000 := by omega
  have e2 : n / 10 / 10 % 10 = n / 100 % 10 := by omega
  rw [e1, e2]
  rfl

def Tab (w : World) : Prop := Lib.TabIs Tryd.prog w "internal/strconv.uint64pow10" .u64 Lib.pow10Tab
theorem tab_global : Tryd.prog.globalNamed "internal/strconv.uint64pow10" = some 0 := by kernel_rfl
theorem Tab.below {w w' : World} (h : Tab w) (hb : Below w.heap.size w w') : Tab w' := Joins.tab_stays tab_global h hb (Nat.le_refl _)
theorem step_below {B : Nat} {w w1 w2 : World} (h : Below B w w1) (hb : Below w1.heap.size w1 w2) (hB : B ≤ w.heap.size) : Below B w w2 :=
  h.trans (hb.mono (by have := h.size; omega))

theorem padded2 (n : Nat) (w : World) (h : n < 100) :
    Calls Tryd.prog 34 #[.int .i64 (n : Int), .int .i64 2] w fun e w' => e = .returned (.string ⟨(pd2 n).toArray⟩) ∧ w = w' := by
  by_cases h1 : n < 10
  · have HE : Hid (pd2 n = [48, dg n]) := by show _ = _; unfold pd2; rw [show n / 10 = 0 by omega, show n % 10 = n by omega]; rfl
    have hs : ∀ wx, (Op.stringOp .add ⟨#[48]⟩ ⟨[dg n].toArray⟩).run Tryd.prog wx = .ok (.string ⟨[48, dg n].toArray⟩) wx := fun wx => run_string_add_lists wx [48] [dg n] (by simp) (by simp)
    have HD := dec_1 h1
    go_enter Tryd.func34, Tryd.ntmps34
    go_wp2_with fail
    refine (itoa_small n h _).mono ?_
    rintro e w' ⟨rfl, rfl⟩
    rw [HD]
    clear HD
    go_wp2
    refine wp_loop_rounds 2 ?_
    rw [rounds_succ]
    go_wp2
    rw [rounds_succ]
    go_wp2
    go_ret
    exact ⟨ret_str (by rw [HE.out]), rfl⟩
  · have HD := dec_2 h (by omega)
    go_enter Tryd.func34, Tryd.ntmps34
    go_wp2_with fail
    refine (itoa_small n h _).mono ?_
    rintro e w' ⟨rfl, rfl⟩
    rw [HD]
    clear HD
    obtain ⟨a, b, he⟩ : ∃ a b, pd2 n = [a, b] := ⟨_, _, rfl⟩
    rw [he]
    go_wp2
    refine wp_loop_rounds 1 ?_
    rw [rounds_succ]
    go_wp2
    go_ret
    exact ⟨ret_str (by rw [he]), rfl⟩
theorem padded4 (n : Nat) (w : World) (h : n < 10000) (h' : 1000 ≤ n) (ht : Tab w) :
    Calls Tryd.prog 34 #[.int .i64 (n : Int), .int .i64 4] w fun e w' => e = .returned (.string ⟨(pd4 n).toArray⟩) ∧ Below w.heap.size w w' := by
  have HD : Lib.itoa n = pd4 n := by rw [Lib.itoa_nonneg]; exact dec_4 h h'
  go_enter Tryd.func34, Tryd.ntmps34
  go_wp2_with fail
  refine (itoa_any n (by omega) (by omega) _ ht).mono ?_
  rintro e w' ⟨rfl, hb⟩
  rw [HD]
  clear HD
  obtain ⟨a, b, c, d, he⟩ : ∃ a b c d, pd4 n = [a, b, c, d] := ⟨_, _, _, _, rfl⟩
  rw [he]
  go_wp2
  refine wp_loop_rounds 1 ?_
  rw [rounds_succ]
  go_wp2
  go_ret
  exact ⟨ret_str (by rw [he]), hb⟩

-- The document's.
def hexText : ByteArray := ⟨#[48, 49, 50, 51, 52, 53, 54, 55, 56, 57, 97, 98, 99, 100, 101, 102]⟩
theorem digit_table : ∀ k : Nat, k < 10 → (hexText.extract k (k + 1)).data = #[dg k] := by decide +kernel
theorem digit_any (k : Nat) (w : World) (h1 : k < 10) :
    Calls Tryd.prog 50 #[.int .i64 (k : Int)] w fun e w' => e = .returned (.string ⟨#[dg k]⟩) ∧ w = w' := by
  have h2 : (k : Int) < 10 := by omega
  go_enter Tryd.func50, Tryd.ntmps50
  go_wp2
  go_ret
  exact ⟨ret_str (congrArg ByteArray.mk (digit_table k h1)), rfl⟩

set_option maxHeartbeats 800000 in
theorem refText_nat (n : Nat) (w : World) (hn : n ≤ 9223372036854775807) :
    Calls Tryd.prog 46 #[.int .i64 (n : Int)] w fun e w' => e = .returned (.string ⟨(Lib.decDigits n).toArray⟩) ∧ w = w' := by
  go_enter Tryd.func46, Tryd.ntmps46
  go_wp2
  go_loop [0, 3] (fun x s => ∃ (m : Nat) (tl : List UInt8), x = .int .i64 m ∧ s = .string ⟨tl.toArray⟩ ∧ 9 * tl.length + m ≤ n ∧ Lib.decDigits m ++ tl = Lib.decDigits n) (fun x _ => (intOf x).toNat)
  case atStart => exact ⟨n, [], rfl, rfl, by simp, by simp⟩
  case round =>
    obtain ⟨m, tl, rfl, rfl, hb, hd⟩ := hrel
    have HD : Hid (Lib.decDigits m ++ tl = Lib.decDigits n) := hd
    clear hd
    have hs1 : ∀ (x : UInt8) (wx : World), (Op.stringOp .add ⟨#[x]⟩ ⟨tl.toArray⟩).run Tryd.prog wx = .ok (.string ⟨(x :: tl).toArray⟩) wx := fun x wx => by
      rw [run_string_add_sum wx _ _ (by simp [ByteArray.size]; omega)]
      exact congrArg (fun z => Result.ok (Value.string z) wx) (ByteArray.mk_append_mk [x] tl)
    by_cases h9 : 9 < m
    · have HE : Hid (Lib.decDigits m = Lib.decDigits (m / 10) ++ [dg (m % 10)]) := by
        show _ = _
        rw [Lib.decDigits, dif_neg (by omega)]
        rfl
      have E1 : Hid (((m : Int) % 10) = ((m % 10 : Nat) : Int)) := by show _ = _; omega
      go_wp2_with fail
      rw [E1.out]
      refine (digit_any (m % 10) _ (by omega)).mono ?_
      rintro e w' ⟨rfl, rfl⟩
      go_wp2
      go_round
      case rel =>
        refine ⟨m / 10, dg (m % 10) :: tl, by go_num, rfl, ?_, ?_⟩
        · simp only [List.length_cons]; omega
        · rw [← HD.out, HE.out, List.append_assoc]
          rfl
      case measure => simp [intOf]; omega
    · have HE : Hid (Lib.decDigits m = [dg m]) := dec_1 (by omega)
      go_wp2_with fail
      refine (digit_any m _ (by omega)).mono ?_
      rintro e w' ⟨rfl, rfl⟩
      go_wp2
      go_ret
      exact ⟨ret_str (by rw [← HD.out, HE.out]; rfl), rfl⟩

theorem wide2 (n : Nat) (w : World) (h : n < 100) :
    Calls Tryd.prog 35 #[.int .i64 (n : Int), .int .i64 2] w fun e w' => e = .returned (.string ⟨(pd2 n).toArray⟩) ∧ w = w' := by
  by_cases h1 : n < 10
  · have HE : Hid (pd2 n = [48, dg n]) := by show _ = _; unfold pd2; rw [show n / 10 = 0 by omega, show n % 10 = n by omega]; rfl
    have hs : ∀ wx, (Op.stringOp .add ⟨#[48]⟩ ⟨[dg n].toArray⟩).run Tryd.prog wx = .ok (.string ⟨[48, dg n].toArray⟩) wx := fun wx => run_string_add_lists wx [48] [dg n] (by simp) (by simp)
    have HD := dec_1 h1
    go_enter Tryd.func35, Tryd.ntmps35
    go_wp2_with fail
    refine (refText_nat n _ (by omega)).mono ?_
    rintro e w' ⟨rfl, rfl⟩
    rw [HD]
    clear HD
    go_wp2
    refine wp_loop_rounds 2 ?_
    rw [rounds_succ]
    go_wp2
    rw [rounds_succ]
    go_wp2
    go_ret
    exact ⟨ret_str (by rw [HE.out]), rfl⟩
  · have HD := dec_2 h (by omega)
    go_enter Tryd.func35, Tryd.ntmps35
    go_wp2_with fail
    refine (refText_nat n _ (by omega)).mono ?_
    rintro e w' ⟨rfl, rfl⟩
    rw [HD]
    clear HD
    obtain ⟨a, b, he⟩ : ∃ a b, pd2 n = [a, b] := ⟨_, _, rfl⟩
    rw [he]
    go_wp2
    refine wp_loop_rounds 1 ?_
    rw [rounds_succ]
    go_wp2
    go_ret
    exact ⟨ret_str (by rw [he]), rfl⟩
theorem wide4 (n : Nat) (w : World) (h : n < 10000) (h' : 1000 ≤ n) :
    Calls Tryd.prog 35 #[.int .i64 (n : Int), .int .i64 4] w fun e w' => e = .returned (.string ⟨(pd4 n).toArray⟩) ∧ w = w' := by
  have HD := dec_4 h h'
  go_enter Tryd.func35, Tryd.ntmps35
  go_wp2_with fail
  refine (refText_nat n _ (by omega)).mono ?_
  rintro e w' ⟨rfl, rfl⟩
  rw [HD]
  clear HD
  obtain ⟨a, b, c, d, he⟩ : ∃ a b c d, pd4 n = [a, b, c, d] := ⟨_, _, _, _, rfl⟩
  rw [he]
  go_wp2
  refine wp_loop_rounds 1 ?_
  rw [rounds_succ]
  go_wp2
  go_ret
  exact ⟨ret_str (by rw [he]), rfl⟩
end Go.Proofs.YtbemlmhchpinhaaDoor

/-
  chars.Token, Value, Trim and Lower, and the document's, by their contracts.
-/
import Derived.Test.YtmodmeabjhaklaaGreatDoorRefSplit
import Derived.Test.YtmodmeabjhaklaaGreatDoorRefEsc
namespace Go.Proofs.YtmodmeabjhaklaaGreatDoor
open Go.RowKit

def signs : List UInt8 := [33, 35, 36, 37, 38, 39, 42, 43, 45, 46, 94, 95, 96, 124, 126]
def tokB (c : Int) : Bool := alnB c || inL signs c
theorem sign_t : ∀ n : Nat, n < 256 → decide (0 ≤ Lib.indexByte signs n.toUInt8) = inL signs (n : Int) := by decide +kernel
theorem enter47 : ∀ args w, (callFunc 88 args).run Tryz.prog w = .ok (.enter 88 args) w := fun args w => Tryz.call88 args w
theorem enter48 : ∀ args w, (callFunc 90 args).run Tryz.prog w = .ok (.enter 90 args) w := fun args w => Tryz.call90 args w

theorem isTokenByte_any (c : Int) (w : World) (h0 : 0 ≤ c) (h1 : c ≤ 255) :
    Calls Tryz.prog 88 #[.int .u8 c] w fun e w' => e = .returned (.bool (tokB c)) ∧ w = w' := by
  obtain ⟨n, rfl⟩ := Int.eq_ofNat_of_zero_le h0
  have HA : Hid (∀ W, Calls Tryz.prog 104 #[.int .u8 (n : Int)] W fun e w' => e = .returned (.bool (alnB (n : Int))) ∧ W = w') := fun W => isLetterOrDigit_any _ W h0 h1
  have HI : Hid (∀ W, Calls Tryz.prog 105 #[.string ⟨#[33, 35, 36, 37, 38, 39, 42, 43, 45, 46, 94, 95, 96, 124, 126]⟩, .int .u8 (n : Int)] W fun e w' => e = .returned (.int .i64 (Lib.indexByte signs n.toUInt8)) ∧ w' = W) := fun W => strings_IndexByte ⟨#[33, 35, 36, 37, 38, 39, 42, 43, 45, 46, 94, 95, 96, 124, 126]⟩ (n : Int) W
  have HS : Hid (decide (0 ≤ Lib.indexByte signs n.toUInt8) = inL signs (n : Int)) := sign_t n (by omega)
  cases ha : alnB (n : Int)
  · have HT : Hid (tokB (n : Int) = inL signs (n : Int)) := by show tokB _ = _; rw [tokB, ha]; rfl
    rw [ha] at HA
    clear ha
    generalize Lib.indexByte signs n.toUInt8 = q at *
    go_enter Tryz.func88, Tryz.ntmps88
    go_wp2_with (first
      | (go_at_call 104; refine (HA.out _).mono ?_; rintro e w' ⟨rfl, rfl⟩)
      | (go_at_call 105; refine (HI.out _).mono ?_; rintro e w' ⟨rfl, rfl⟩))
    all_goals
      go_ret
      exact ⟨ret_bool (by rw [HT.out, ← HS.out]), rfl⟩
  · have HT : Hid (tokB (n : Int) = true) := by show tokB _ = true; rw [tokB, ha]; rfl
    rw [ha] at HA
    clear ha
    go_enter Tryz.func88, Tryz.ntmps88
    go_wp2_with (go_at_call 104; refine (HA.out _).mono ?_; rintro e w' ⟨rfl, rfl⟩)
    go_ret
    exact ⟨ret_bool HT.out.symm, rfl⟩

def tokenB (l : List UInt8) : Bool := decide (0 < l.length) && allB tokB l
theorem token_any (s : ByteArray) (w : World) (hs : s.size ≤ maxLen) :
    Calls Tryz.prog 63 #[.string s] w fun e w' => e = .returned (.bool (tokenB s.data.toList)) ∧ w = w' := by
  have hL : s.data.toList.length = s.size := by simp
  have HE : Hid (∀ W, Calls Tryz.prog 87 #[.string s, .func (.func 88) #[] #[]] W fun e w' => e = .returned (.bool (allB tokB s.data.toList)) ∧ W = w') := fun W => everyByte_any 88 tokB enter47 (fun c W h0 h1 => isTokenByte_any c W h0 h1) s W hs
  have HT : Hid (tokenB s.data.toList = (decide (0 < s.size) && allB tokB s.data.toList)) := by show tokenB _ = _; rw [tokenB, hL]
  clear hL
  by_cases h : s.size = 0
  · obtain rfl : s = ⟨#[]⟩ := by
      obtain ⟨⟨l⟩⟩ := s
      have h' : l.length = 0 := h
      obtain rfl : l = [] := List.eq_nil_of_length_eq_zero h'
      rfl
    go_enter Tryz.func63, Tryz.ntmps63
    go_wp2
    go_ret
    exact ⟨ret_bool rfl, rfl⟩
  · have hne : s.toList.isEmpty = false := by
      rw [Lib.toList_data]
      cases h' : s.data.toList with
      | nil => have := Lib.size_eq s; rw [h', List.length_nil] at this; omega
      | cons _ _ => rfl
    have hp : 0 < s.size := by omega
    go_enter Tryz.func63, Tryz.ntmps63
    go_wp2_with (go_at_call 87; refine (HE.out _).mono ?_; rintro e w' ⟨rfl, rfl⟩)
    go_ret
    exact ⟨ret_bool (by rw [HT.out]; simp [hp]), rfl⟩
theorem value_any (s : ByteArray) (w : World) (hs : s.size ≤ maxLen) :
    Calls Tryz.prog 66 #[.string s] w fun e w' => e = .returned (.bool (allB valB s.data.toList)) ∧ w = w' := by
  go_enter Tryz.func66, Tryz.ntmps66
  go_wp2_with (go_at_call 87; refine (everyByte_any 90 valB enter48 (fun c W h0 h1 => isValueByte_any c W h0 h1) s _ hs).mono ?_; rintro e w' ⟨rfl, rfl⟩)
  go_ret
  exact ⟨rfl, rfl⟩

set_option maxHeartbeats 400000 in
theorem refToken_any (s : ByteArray) (w : World) (hs : s.size ≤ maxLen) :
    Calls Tryz.prog 53 #[.string s] w fun e w' => e = .returned (.bool (tokenB s.data.toList)) ∧ w = w' := by
  unfold maxLen at hs
  have hL : s.data.toList.length = s.size := by simp
  have HL : Hid (tokenB s.data.toList = (decide (0 < s.size) && allB tokB s.data.toList)) := by show tokenB _ = _; rw [tokenB, hL]
  go_enter Tryz.func53, Tryz.ntmps53
  go_wp2
  go_loop [3] (fun i => ∃ k : Nat, k ≤ s.size ∧ i = .int .i64 k ∧ ∀ j (hj : j < s.data.toList.length), j < k → tokB (s.data.toList[j].toNat : Int) = true) (fun i => s.size - (intOf i).toNat)
  case atStart => exact ⟨0, Nat.zero_le _, rfl, fun j hj h => by omega⟩
  case round =>
    obtain ⟨k, hk, rfl, hf⟩ := hrel
    have HF : Hid (∀ j (hj : j < s.data.toList.length), j < k → tokB (s.data.toList[j].toNat : Int) = true) := hf
    clear hf
    by_cases hlt : k < s.size
    · have hkl : k < s.data.toList.length := by omega
      have b1 : (s[k].toNat : Int) ≤ 255 := by have := s[k].toNat_lt; omega
      have HS : Hid (∀ W, Calls Tryz.prog 76 #[.int .u8 (s[k].toNat : Int)] W fun e w' => e = .returned (.bool (alnB (s[k].toNat : Int))) ∧ W = w') := fun W => refAlnum_any _ W (Int.natCast_nonneg _) b1
      have HI : Hid (∀ W, Calls Tryz.prog 77 #[.string ⟨#[33, 35, 36, 37, 38, 39, 42, 43, 45, 46, 94, 95, 96, 124, 126]⟩, .int .u8 (s[k].toNat : Int)] W fun e w' => e = .returned (.bool (inL signs (s[k].toNat : Int))) ∧ W = w') := fun W => refIn_any ⟨#[33, 35, 36, 37, 38, 39, 42, 43, 45, 46, 94, 95, 96, 124, 126]⟩ _ W (by decide)
      clear hL
      cases ha : alnB (s[k].toNat : Int)
      · cases hb : inL signs (s[k].toNat : Int)
        · have HN : Hid (tokenB s.data.toList = false) := by
            show tokenB _ = false
            rw [HL.out, allB_no hkl (show tokB (s[k].toNat : Int) = false by rw [tokB, ha, hb]; rfl)]
            simp
          rw [ha] at HS
          rw [hb] at HI
          clear ha hb
          go_wp2_with (first
            | (go_at_call 76; refine (HS.out _).mono ?_; rintro e w' ⟨rfl, rfl⟩)
            | (go_at_call 77; refine (HI.out _).mono ?_; rintro e w' ⟨rfl, rfl⟩))
          go_ret
          exact ⟨ret_bool HN.out.symm, rfl⟩
        · have HH : Hid (tokB (s.data.toList[k].toNat : Int) = true) := (show tokB (s[k].toNat : Int) = true by rw [tokB, hb]; simp)
          rw [ha] at HS
          rw [hb] at HI
          clear ha hb
          go_wp2_with (first
            | (go_at_call 76; refine (HS.out _).mono ?_; rintro e w' ⟨rfl, rfl⟩)
            | (go_at_call 77; refine (HI.out _).mono ?_; rintro e w' ⟨rfl, rfl⟩))
          go_round
          case rel =>
            refine ⟨k + 1, by omega, by go_num, fun j hj h => ?_⟩
            by_cases e : j = k
            · subst e; exact HH.out
            · exact HF.out j hj (by omega)
          case measure => simp [intOf]; omega
      · have HH : Hid (tokB (s.data.toList[k].toNat : Int) = true) := (show tokB (s[k].toNat : Int) = true by rw [tokB, ha]; rfl)
        rw [ha] at HS
        clear ha
        go_wp2_with (go_at_call 76; refine (HS.out _).mono ?_; rintro e w' ⟨rfl, rfl⟩)
        go_round
        case rel =>
          refine ⟨k + 1, by omega, by go_num, fun j hj h => ?_⟩
          by_cases e : j = k
          · subst e; exact HH.out
          · exact HF.out j hj (by omega)
        case measure => simp [intOf]; omega
    · have HN : Hid (allB tokB s.data.toList = true) := allB_yes (fun j hj => HF.out j hj (by omega))
      clear hL
      go_wp2
      go_ret
      exact ⟨ret_bool (by rw [HL.out, HN.out]; simp), rfl⟩

set_option maxHeartbeats 400000 in
theorem refValue_any (s : ByteArray) (w : World) (hs : s.size ≤ maxLen) :
    Calls Tryz.prog 78 #[.string s] w fun e w' => e = .returned (.bool (allB valB s.data.toList)) ∧ w = w' := by
  unfold maxLen at hs
  have hL : s.data.toList.length = s.size := by simp
  go_enter Tryz.func78, Tryz.ntmps78
  go_wp2
  go_loop [3] (fun i => ∃ k : Nat, k ≤ s.size ∧ i = .int .i64 k ∧ ∀ j (hj : j < s.data.toList.length), j < k → valB (s.data.toList[j].toNat : Int) = true) (fun i => s.size - (intOf i).toNat)
  case atStart => exact ⟨0, Nat.zero_le _, rfl, fun j hj h => by omega⟩
  case round =>
    obtain ⟨k, hk, rfl, hf⟩ := hrel
    have HF : Hid (∀ j (hj : j < s.data.toList.length), j < k → valB (s.data.toList[j].toNat : Int) = true) := hf
    clear hf
    by_cases hlt : k < s.size
    · have hkl : k < s.data.toList.length := by omega
      clear hL
      have HNo : Hid (valB (s[k].toNat : Int) = false → allB valB s.data.toList = false) := fun h => allB_no hkl h
      have HYe : Hid (valB (s[k].toNat : Int) = true → valB (s.data.toList[k].toNat : Int) = true) := fun h => h
      obtain ⟨c, hc⟩ : ∃ c : Int, (s[k].toNat : Int) = c := ⟨_, rfl⟩
      rw [hc] at HNo HYe
      have hcl : c = 9 ∨ ((c != 9) = true ∧ c < 32) ∨ ((c != 9) = true ∧ 32 ≤ c ∧ c = 127) ∨ ((c != 9) = true ∧ 32 ≤ c ∧ (c == 127) = false) := by
        simp
        omega
      rcases hcl with rfl | ⟨h1, h2⟩ | ⟨h1, h2, rfl⟩ | ⟨h1, h2, h3⟩
      · go_wp2
        go_round
        case rel =>
          refine ⟨k + 1, by omega, by go_num, fun j hj h => ?_⟩
          by_cases e : j = k
          · subst e; exact HYe.out (by decide)
          · exact HF.out j hj (by omega)
        case measure => simp [intOf]; omega
      · have HV : Hid (valB c = false) := by
          show valB c = false
          have : c ≠ 9 := by simpa using h1
          simp [valB, this]
          omega
        go_wp2
        go_ret
        exact ⟨ret_bool (HNo.out HV.out).symm, rfl⟩
      · go_wp2
        go_ret
        exact ⟨ret_bool (HNo.out (by decide)).symm, rfl⟩
      · have HV : Hid (valB c = true) := by
          show valB c = true
          have : c ≠ 127 := by simpa using h3
          simp [valB, this]
          omega
        go_wp2
        go_round
        case rel =>
          refine ⟨k + 1, by omega, by go_num, fun j hj h => ?_⟩
          by_cases e : j = k
          · subst e; exact HYe.out HV.out
          · exact HF.out j hj (by omega)
        case measure => simp [intOf]; omega
    · have HN : Hid (allB valB s.data.toList = true) := allB_yes (fun j hj => HF.out j hj (by omega))
      clear hL
      go_wp2
      go_ret
      exact ⟨ret_bool HN.out.symm, rfl⟩
end Go.Proofs.YtmodmeabjhaklaaGreatDoor

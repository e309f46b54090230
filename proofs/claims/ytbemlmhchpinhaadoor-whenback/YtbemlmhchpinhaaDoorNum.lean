/-
  Digits as numbers: package when's and the document's; a month by its name.
-/
import Derived.Test.YtbemlmhchpinhaaDoorTexts
namespace Go.Proofs.YtbemlmhchpinhaaDoor
open Go.RowKit

def dOk (c : UInt8) : Bool := decide (48 ≤ c.toNat ∧ c.toNat ≤ 57)
def nval (l : List UInt8) : Int := l.foldl (fun a c => a * 10 + ((c.toNat : Int) - 48)) 0
def numV (l : List UInt8) : Int := if l.all dOk then nval l else -1
theorem nval_snoc (l : List UInt8) (c : UInt8) : nval (l ++ [c]) = nval l * 10 + ((c.toNat : Int) - 48) := by simp [nval]
theorem nval_bd : ∀ (n : Nat) (l : List UInt8), l.length = n → l.all dOk = true → 0 ≤ nval l ∧ nval l < 10 ^ n
  | 0, l, hl, _ => by
    have : l = [] := List.eq_nil_of_length_eq_zero hl
    subst this; decide
  | n + 1, l, hl, ha => by
    have hne : l ≠ [] := by intro e; subst e; simp at hl
    have hsp : l = l.dropLast ++ [l.getLast hne] := (List.dropLast_concat_getLast hne).symm
    rw [hsp] at ha ⊢
    rw [List.all_append, Bool.and_eq_true] at ha
    have ih := nval_bd n l.dropLast (by simp; omega) ha.1
    have hc : 48 ≤ (l.getLast hne).toNat ∧ (l.getLast hne).toNat ≤ 57 := by simpa [dOk] using ha.2
    rw [nval_snoc, Int.pow_succ]
    omega
theorem nval_small {l : List UInt8} (hl : l.length ≤ 4) (ha : l.all dOk = true) : 0 ≤ nval l ∧ nval l ≤ 9999 := by
  have h := nval_bd l.length l rfl ha
  have : l.length = 0 ∨ l.length = 1 ∨ l.length = 2 ∨ l.length = 3 ∨ l.length = 4 := by omega
  rcases this with e | e | e | e | e <;> rw [e] at h <;> simp at h <;> omega
theorem numV_bd {l : List UInt8} (hl : l.length ≤ 4) : -1 ≤ numV l ∧ numV l ≤ 9999 := by
  unfold numV
  split
  · have := nval_small hl (by assumption); omega
  · omega
theorem numV_no {l : List UInt8} {k : Nat} (hk : k < l.length) (h : dOk l[k] = false) : numV l = -1 := by
  unfold numV
  rw [if_neg]
  intro ha
  rw [List.all_eq_true] at ha
  have := ha l[k] (List.getElem_mem hk)
  rw [h] at this
  exact absurd this (by decide)

/-- One more digit. -/
theorem num_step {s : ByteArray} {k : Nat} (hk : k < s.size) (h0 : 48 ≤ s[k].toNat) (h1 : s[k].toNat ≤ 57) (ha : (s.data.toList.take k).all dOk = true) :
    (s.data.toList.take (k + 1)).all dOk = true ∧ nval (s.data.toList.take (k + 1)) = nval (s.data.toList.take k) * 10 + ((s[k].toNat : Int) - 48) := by
  have hl : k < s.data.toList.length := by simpa using hk
  have e : s.data.toList[k] = s[k] := by simp [ByteArray.getElem_eq_getElem_data]
  have hd : dOk s[k] = true := by simp [dOk, h0, h1]
  refine ⟨?_, ?_⟩
  · rw [List.take_succ_eq_append_getElem hl, List.all_append, ha, e]
    simp [hd]
  · rw [List.take_succ_eq_append_getElem hl, nval_snoc, e]

theorem number_any (s : ByteArray) (w : World) (hs : s.size ≤ 4) :
    Calls Tryd.prog 38 #[.string s] w fun e w' => e = .returned (.int .i64 (numV s.data.toList)) ∧ w = w' := by
  have hL : Hid (s.data.toList.length = s.size) := by show _ = _; simp
  go_enter Tryd.func38, Tryd.ntmps38
  go_wp2
  go_loop [3, 7] (fun n i => ∃ k : Nat, k ≤ s.size ∧ i = .int .i64 k ∧ n = .int .i64 (nval (s.data.toList.take k)) ∧ (s.data.toList.take k).all dOk = true) (fun _ i => s.size - (intOf i).toNat)
  case atStart => exact ⟨0, Nat.zero_le _, rfl, rfl, rfl⟩
  case round =>
    obtain ⟨k, hk, rfl, rfl, hall⟩ := hrel
    by_cases hlt : k < s.size
    · have b1 : (s[k].toNat : Int) ≤ 255 := by have := s[k].toNat_lt; omega
      have iv := nval_small (l := s.data.toList.take k) (by rw [List.length_take]; omega) hall
      by_cases a : 48 ≤ (s[k].toNat : Int)
      · by_cases b : (s[k].toNat : Int) ≤ 57
        · have HS := (show Hid _ from num_step hlt (by omega) (by omega) hall)
          clear hall
          go_wp2
          go_round
          case rel => exact ⟨k + 1, by omega, by go_num, congrArg (Value.int .i64) (by rw [HS.out.2]; try omega), HS.out.1⟩
          case measure => simp [intOf]; omega
        · have HN : Hid (numV s.data.toList = -1) := numV_no (k := k) (by rw [hL.out]; exact hlt) (by simp [dOk, ByteArray.getElem_eq_getElem_data] at b ⊢; omega)
          clear hall
          go_wp2
          go_ret
          exact ⟨ret_int HN.out.symm, rfl⟩
      · have HN : Hid (numV s.data.toList = -1) := numV_no (k := k) (by rw [hL.out]; exact hlt) (by simp [dOk, ByteArray.getElem_eq_getElem_data] at a ⊢; omega)
        clear hall
        go_wp2
        go_ret
        exact ⟨ret_int HN.out.symm, rfl⟩
    · have hkl : k = s.size := by omega
      subst hkl
      have HN : Hid (nval (s.data.toList.take s.size) = numV s.data.toList) := by
        show _ = _
        have e : s.data.toList.take s.size = s.data.toList := List.take_of_length_le (by rw [hL.out]; omega)
        rw [e] at hall ⊢
        unfold numV
        rw [if_pos hall]
      clear hall
      go_wp2
      go_ret
      exact ⟨ret_int HN.out, rfl⟩
theorem refNumber_any (s : ByteArray) (w : World) (hs : s.size ≤ 4) :
    Calls Tryd.prog 40 #[.string s] w fun e w' => e = .returned (.int .i64 (numV s.data.toList)) ∧ w = w' := by
  have hL : Hid (s.data.toList.length = s.size) := by show _ = _; simp
  go_enter Tryd.func40, Tryd.ntmps40
  go_wp2
  go_loop [3, 4] (fun n i => ∃ k : Nat, k ≤ s.size ∧ i = .int .i64 k ∧ n = .int .i64 (nval (s.data.toList.take k)) ∧ (s.data.toList.take k).all dOk = true) (fun _ i => s.size - (intOf i).toNat)
  case atStart => exact ⟨0, Nat.zero_le _, rfl, rfl, rfl⟩
  case round =>
    obtain ⟨k, hk, rfl, rfl, hall⟩ := hrel
    by_cases hlt : k < s.size
    · have b1 : (s[k].toNat : Int) ≤ 255 := by have := s[k].toNat_lt; omega
      have iv := nval_small (l := s.data.toList.take k) (by rw [List.length_take]; omega) hall
      by_cases a : 48 ≤ (s[k].toNat : Int)
      · by_cases b : (s[k].toNat : Int) ≤ 57
        · have HS := (show Hid _ from num_step hlt (by omega) (by omega) hall)
          clear hall
          go_wp2
          go_round
          case rel => exact ⟨k + 1, by omega, by go_num, congrArg (Value.int .i64) (by rw [HS.out.2]; try omega), HS.out.1⟩
          case measure => simp [intOf]; omega
        · have HN : Hid (numV s.data.toList = -1) := numV_no (k := k) (by rw [hL.out]; exact hlt) (by simp [dOk, ByteArray.getElem_eq_getElem_data] at b ⊢; omega)
          clear hall
          go_wp2
          go_ret
          exact ⟨ret_int HN.out.symm, rfl⟩
      · have HN : Hid (numV s.data.toList = -1) := numV_no (k := k) (by rw [hL.out]; exact hlt) (by simp [dOk, ByteArray.getElem_eq_getElem_data] at a ⊢; omega)
        clear hall
        go_wp2
        go_ret
        exact ⟨ret_int HN.out.symm, rfl⟩
    · have hkl : k = s.size := by omega
      subst hkl
      have HN : Hid (nval (s.data.toList.take s.size) = numV s.data.toList) := by
        show _ = _
        have e : s.data.toList.take s.size = s.data.toList := List.take_of_length_le (by rw [hL.out]; omega)
        rw [e] at hall ⊢
        unfold numV
        rw [if_pos hall]
      clear hall
      go_wp2
      go_ret
      exact ⟨ret_int HN.out, rfl⟩

/-- The month of this name; 0 where there is none. -/
def mNam (l : List UInt8) : Nat := (((List.range 12).find? fun i => monL i == l).map (· + 1)).getD 0
theorem mon_inj : ∀ i : Nat, i < 12 → ∀ j : Nat, j < 12 → monL i = monL j → i = j := by decide +kernel
theorem mNam_at {l : List UInt8} {i : Nat} (hi : i < 12) (h : monL i = l) : mNam l = i + 1 := by
  subst h
  revert i
  decide +kernel
theorem mNam_no {l : List UInt8} (h : ∀ i, i < 12 → monL i ≠ l) : mNam l = 0 := by
  unfold mNam
  have : (List.range 12).find? (fun i => monL i == l) = none := by
    rw [List.find?_eq_none]
    intro x hx
    have := h x (by simpa using hx)
    simpa using this
  rw [this]
  rfl
theorem mNam_bd (l : List UInt8) : mNam l ≤ 12 := by
  by_cases h : ∃ i, i < 12 ∧ monL i = l
  · obtain ⟨i, hi, he⟩ := h
    rw [mNam_at hi he]; omega
  · rw [mNam_no (fun i hi he => h ⟨i, hi, he⟩)]; omega

theorem monthNamed_any (s : ByteArray) (w : World) :
    Calls Tryd.prog 41 #[.string s] w fun e w' => e = .returned (.int .i64 (mNam s.data.toList : Int)) ∧ w = w' := by
  go_enter Tryd.func41, Tryd.ntmps41
  go_wp2
  go_loop [3] (fun i => ∃ k : Nat, k ≤ 12 ∧ i = .int .i64 ((k : Int) + 1) ∧ ∀ j, j < k → monL j ≠ s.data.toList) (fun i => 13 - (intOf i).toNat)
  case atStart => exact ⟨0, by omega, rfl, fun j hj => by omega⟩
  case round =>
    obtain ⟨k, hk, rfl, hall⟩ := hrel
    by_cases hlt : k < 12
    · have HA := (show Hid _ from hall)
      obtain ⟨N, eN, zN, cN⟩ := name_ex monthT (k : Int) k rfl hlt (by show _ ≤ 36; omega) (monL k) rfl (mon_len _ hlt)
      have CN := (show Hid _ from cN)
      unfold monthT at CN
      clear cN hall
      by_cases he : N = s
      · have HM : Hid (mNam s.data.toList = k + 1) := mNam_at hlt (by rw [← eN, he])
        have hq : (N.toList == s.toList) = true := by simp only [ByteArray.toList_eq, he, beq_self_eq_true]
        clear eN zN he
        go_wp2_with fail
        refine (CN.out _).mono ?_
        rintro e w' ⟨rfl, rfl⟩
        go_wp2
        go_ret
        exact ⟨ret_int (by rw [HM.out]; rfl), rfl⟩
      · have HA2 : Hid (∀ j, j < k + 1 → monL j ≠ s.data.toList) := by
          intro j hj
          by_cases e : j = k
          · subst e
            rw [← eN]
            intro hh
            exact he (by rw [ba_of hh])
          · exact HA.out j (by omega)
        have hq : (N.toList == s.toList) = false := by
          rw [ByteArray.toList_eq, ByteArray.toList_eq, beq_eq_false_iff_ne]
          intro hh
          exact he (by rw [ba_of hh])
        clear eN zN he HA
        go_wp2_with fail
        refine (CN.out _).mono ?_
        rintro e w' ⟨rfl, rfl⟩
        go_wp2
        go_round
        case rel => exact ⟨k + 1, by omega, by go_num, HA2.out⟩
        case measure => simp [intOf]; omega
    · have hk' : k = 12 := by omega
      subst hk'
      have HM : Hid (mNam s.data.toList = 0) := mNam_no hall
      clear hall
      go_wp2
      go_ret
      exact ⟨ret_int (by rw [HM.out]; rfl), rfl⟩
end Go.Proofs.YtbemlmhchpinhaaDoor

/-
  The parts of the request line: isMethod, isTarget, isVersion.
-/
import Derived.Test.YtmodmeabjhaklaaGreatDoorGtB
namespace Go.Proofs.YtmodmeabjhaklaaGreatDoor
open Go.RowKit

theorem mk_size (l : List UInt8) : (⟨l.toArray⟩ : ByteArray).size = l.length := by simp [ByteArray.size]
theorem mk_get (l : List UInt8) (k : Nat) (h : k < (⟨l.toArray⟩ : ByteArray).size) : (⟨l.toArray⟩ : ByteArray)[k] = l[k]'(by rw [mk_size] at h; exact h) := rfl
theorem mk_list (s : ByteArray) : s = ⟨s.data.toList.toArray⟩ := by simp
theorem mk_ext (l : List UInt8) (a b : Nat) : (⟨l.toArray⟩ : ByteArray).extract a b = ⟨((l.take b).drop a).toArray⟩ := by
  rw [mk_list ((⟨l.toArray⟩ : ByteArray).extract a b)]
  congr 2
  rw [ByteArray.data_extract, Array.toList_extract, List.extract_eq_take_drop, List.drop_take]
theorem isDigit65 (c : Int) (w : World) (_h0 : 0 ≤ c) (_h1 : c ≤ 255) :
    Calls Tryz.prog 65 #[.int .u8 c] w fun e w' => e = .returned (.bool (digB c)) ∧ w = w' := by
  have h : (c < 48) ∨ (48 ≤ c ∧ c ≤ 57) ∨ (48 ≤ c ∧ 57 < c) := by omega
  unfold digB
  rcases h with h | ⟨h, h1⟩ | ⟨h, h1⟩
  · have hd : decide (48 ≤ c ∧ c ≤ 57) = false := decide_eq_false (by omega)
    rw [hd]
    clear hd
    go_enter Tryz.func65, Tryz.ntmps65
    go_wp2
    go_ret
    exact ⟨rfl, rfl⟩
  · have hd : decide (48 ≤ c ∧ c ≤ 57) = true := decide_eq_true (by omega)
    rw [hd]
    clear hd
    go_enter Tryz.func65, Tryz.ntmps65
    go_wp2
    go_ret
    exact ⟨rfl, rfl⟩
  · have hd : decide (48 ≤ c ∧ c ≤ 57) = false := decide_eq_false (by omega)
    rw [hd]
    clear hd
    go_enter Tryz.func65, Tryz.ntmps65
    go_wp2
    go_ret
    exact ⟨ret_bool (decide_eq_false (by omega)), rfl⟩
theorem isMethod_any (l : List UInt8) (w : World) (hs : l.length ≤ 1000000000) :
    Calls Tryz.prog 40 #[.string ⟨l.toArray⟩] w fun e w' => e = .returned (.bool (metB l)) ∧ w = w' := by
  have HT := (show Hid _ from token_any ⟨l.toArray⟩ w (by rw [mk_size]; unfold maxLen; omega))
  have hz := mk_size l
  have HL : Hid (metB l = (decide (l.length ≤ 16) && tokenB l)) := rfl
  by_cases h : l.length ≤ 16
  · have h1 : (l.length : Int) ≤ 16 := by omega
    have HM : Hid (metB l = tokenB l) := by show _ = _; rw [HL.out, decide_eq_true h]; rfl
    clear h HL hz hs
    go_enter Tryz.func40, Tryz.ntmps40
    go_wp2_with (go_at_call 63; refine Calls.mono HT.out ?_; rintro e w' ⟨rfl, rfl⟩)
    go_ret
    rw [HM.out]
    exact ⟨by simp, rfl⟩
  · have h1 : 16 < (l.length : Int) := by omega
    have HM : Hid (metB l = false) := by show _ = _; rw [HL.out, decide_eq_false h]; rfl
    clear h HL HT hz hs
    go_enter Tryz.func40, Tryz.ntmps40
    go_wp2
    go_ret
    rw [HM.out]
    exact ⟨rfl, rfl⟩
theorem all_step {α : Type} (p : α → Bool) {L : List α} {k : Nat} (hk : k < L.length) : (L.take (k + 1)).all p = ((L.take k).all p && p L[k]) := by
  rw [List.take_succ_eq_append_getElem hk, List.all_append]
  simp
theorem all_fail {α : Type} (p : α → Bool) {L : List α} {k : Nat} (hk : k < L.length) (h : p L[k] = false) : L.all p = false := by
  rw [List.all_eq_false]
  exact ⟨L[k], List.getElem_mem hk, by simp [h]⟩
set_option maxHeartbeats 1000000 in
theorem isTarget_any (l : List UInt8) (w : World) (hs : l.length ≤ 1000000000) :
    Calls Tryz.prog 41 #[.string ⟨l.toArray⟩] w fun e w' => e = .returned (.bool (tarB l)) ∧ w = w' := by
  have hz := mk_size l
  have HD : Hid (tarB l = (l.all tarC && decide (0 < l.length))) := rfl
  go_enter Tryz.func41, Tryz.ntmps41
  go_wp2
  go_loop [6] (fun i => ∃ k : Nat, k ≤ l.length ∧ i = .int .i64 k ∧ Hid ((l.take k).all tarC = true)) (fun i => l.length - (intOf i).toNat)
  case atStart => exact ⟨0, Nat.zero_le _, rfl, rfl⟩
  case round =>
    obtain ⟨k, hk, rfl, hall⟩ := hrel
    by_cases hlt : k < l.length
    · have hst := all_step tarC hlt
      have hfl := all_fail tarC hlt
      have hkz : k < (⟨l.toArray⟩ : ByteArray).size := by omega
      have hbd : (l[k]).toNat < 256 := (l[k]).toNat_lt
      have hgk := mk_get l k hkz
      obtain ⟨c, hc⟩ : ∃ c, c = l[k] := ⟨_, rfl⟩
      rw [← hc] at hst hfl hbd hgk
      have HST : Hid ((l.take (k + 1)).all tarC = ((l.take k).all tarC && tarC c) ∧ (tarC c = false → l.all tarC = false)) := ⟨hst, hfl⟩
      clear hc hst hfl
      have hk0 : (0 : Int) ≤ (k : Int) := by omega
      have hk1 : (k : Int) < (l.length : Int) := by omega
      have h3 : ((c.toNat : Int) < 33) ∨ (33 ≤ (c.toNat : Int) ∧ (126 : Int) < (c.toNat : Int)) ∨ (33 ≤ (c.toNat : Int) ∧ (c.toNat : Int) ≤ 126) := by omega
      rcases h3 with h3 | ⟨h3, h4⟩ | ⟨h3, h4⟩
      · have HF : Hid (tarB l = false) := by
          show _ = _
          rw [HD.out, HST.out.2 (by rw [tarC]; exact decide_eq_false (by omega))]
          rfl
        go_wp2
        go_ret
        rw [HF.out]
        exact ⟨rfl, rfl⟩
      · have HF : Hid (tarB l = false) := by
          show _ = _
          rw [HD.out, HST.out.2 (by rw [tarC]; exact decide_eq_false (by omega))]
          rfl
        go_wp2
        go_ret
        rw [HF.out]
        exact ⟨rfl, rfl⟩
      · have HF : Hid ((l.take (k + 1)).all tarC = true) := by
          show _ = _
          rw [HST.out.1, hall.out, tarC, decide_eq_true (by omega)]
          rfl
        go_wp2
        go_round
        case rel => exact ⟨k + 1, by omega, by go_num, HF⟩
        case measure => simp [intOf]; omega
    · obtain rfl : k = l.length := by omega
      have HA : Hid (l.all tarC = true) := by
        have := hall.out
        rw [List.take_length] at this
        exact this
      clear hall
      by_cases h0 : l = []
      · subst h0
        go_wp2
        go_ret
        exact ⟨rfl, rfl⟩
      · have hne : (l == []) = false := by rw [beq_eq_false_iff_ne]; exact h0
        have HF : Hid (tarB l = true) := by
          show _ = _
          rw [HD.out, HA.out, decide_eq_true (List.length_pos_iff.2 h0)]
          rfl
        go_wp2
        go_ret
        rw [HF.out]
        exact ⟨rfl, rfl⟩
end Go.Proofs.YtmodmeabjhaklaaGreatDoor

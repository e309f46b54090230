/-
  Units turned: all of them or none.
-/
import Derived.Test.YtpmjkgpmidejoaaAlCore
namespace Go.Proofs.Ytpmjkgpmidejoaa.Al
open Go.RowKit

set_option maxRecDepth 20000 in
set_option maxHeartbeats 2000000 in
theorem turn_good (w : World) (b : Nat) (L : List Bool) (s k : Nat) (t : Bool) (h : Spc w b L) (hk : 1 ≤ k) (hle : s + k ≤ L.length) (ha : allB L s k t) :
    Calls Try.prog 67 #[.pointer (some ⟨b, 0, none⟩), .int .i64 (s : Int), .int .i64 (k : Int), .bool t] w fun e w' => e = .returned (.int .i64 0) ∧ Spc w' b (putB L s k (!t)) ∧ Kep (fun k => k ≠ b) w w' ∧ w'.heap.size = w.heap.size := by
  have c0 := h.size
  have hl := h.len
  obtain ⟨n, hn⟩ : ∃ n, n = L.length := ⟨_, rfl⟩
  rw [← hn] at c0
  have HN : Hid (n = L.length) := hn
  have HS : Hid (Spc w b L) := h
  have t1 : ¬ (s : Int) < 0 := by omega
  have t2 : ¬ (k : Int) < 1 := by omega
  have t3 : ¬ (n : Int) - (s : Int) < (k : Int) := by omega
  have hs4 : s ≤ 4096 := by omega
  have hk4 : k ≤ 4096 := by omega
  have hn4 : n ≤ 4096 := by omega
  have HA : Hid (allB L s k t) := ha
  have HL : Hid (s + k ≤ L.length) := hle
  clear hn h hl hle ha
  go_enter Try.func67, Try.ntmps67
  go_wp2
  go_loop [28] (fun v => ∃ j : Nat, v = .int .i64 j ∧ j ≤ k) (fun v => k - (intOf v).toNat)
  case atStart => exact ⟨0, rfl, Nat.zero_le _⟩
  case round =>
    obtain ⟨j, rfl, hj⟩ := hrel
    by_cases hlt : j < k
    · have hltI : (j : Int) < (k : Int) := by omega
      have hu : s + j < L.length := by have := HL.out; omega
      have htk := taken_any w b L (s + j) HS.out hu
      have hv : L[s + j] = t := by have := HA.out j hlt; rw [List.getElem?_eq_getElem hu] at this; exact Option.some.inj this
      rw [hv] at htk
      have es : ((s + j : Nat) : Int) = (s : Int) + (j : Int) := by omega
      rw [es] at htk
      clear hv es hu
      go_wp2_with (go_at_call 83; refine Calls.mono htk ?_; rintro e w1 ⟨rfl, rfl⟩)
      go_round
      case rel => exact ⟨j + 1, by go_num, by omega⟩
      case measure => simp [intOf]; omega
    · obtain rfl : j = k := by omega
      have hltI : ¬ (j : Int) < (j : Int) := by omega
      go_wp2
      go_loopw [40] (fun v wr => ∃ i : Nat, v = .int .i64 i ∧ i ≤ j ∧ Spc wr b (putB L s i (!t)) ∧ Kep (fun k => k ≠ b) w wr ∧ wr.heap.size = w.heap.size) (fun v _ => j - (intOf v).toNat)
      case atStart => exact ⟨0, rfl, Nat.zero_le _, by rw [putB_zero]; exact HS.out, Kep.refl _ _, rfl⟩
      case round =>
        obtain ⟨i, rfl, hi, hsp, hkp, hsz⟩ := hrel
        by_cases hlt : i < j
        · have hltI : (i : Int) < (j : Int) := by omega
          have hu : s + i < (putB L s i (!t)).length := by rw [putB_len _ (by have := HL.out; omega)]; have := HL.out; omega
          have hfl := flip_any wr b (putB L s i (!t)) (s + i) hsp hu
          have hv : (putB L s i (!t))[s + i] = t := by
            have h1 := putB_get (!t) (L := L) (s := s) (k := i) (by have := HL.out; omega) (s + i)
            rw [List.getElem?_eq_getElem hu, if_neg (by omega), HA.out i hlt] at h1
            exact Option.some.inj h1
          rw [hv, putB_step (by have := HL.out; omega)] at hfl
          have es : ((s + i : Nat) : Int) = (s : Int) + (i : Int) := by omega
          rw [es] at hfl
          have HK : Hid (Kep (fun k => k ≠ b) w wr ∧ wr.heap.size = w.heap.size) := ⟨hkp, hsz⟩
          clear hv es hu hsp hkp hsz
          go_wp2_with (go_at_call 84; refine Calls.mono hfl ?_; rintro e w1 ⟨⟨v, rfl⟩, q1, q2, q3⟩)
          go_roundw
          case rel => exact ⟨i + 1, by go_num, by omega, q1, HK.out.1.trans q2, q3.trans HK.out.2⟩
          case measure => simp [intOf]; omega
        · obtain rfl : i = j := by omega
          have hltI : ¬ (i : Int) < (i : Int) := by omega
          go_wp2
          go_ret
          exact ⟨rfl, hsp, hkp, hsz⟩

set_option maxRecDepth 20000 in
set_option maxHeartbeats 2000000 in
theorem turn_arg (w : World) (b : Nat) (L : List Bool) (s k : Int) (t : Bool) (h : Spc w b L) (hs : s ≤ 9223372036854775807) (hb : s < 0 ∨ k < 1 ∨ (L.length : Int) - s < k) :
    Calls Try.prog 67 #[.pointer (some ⟨b, 0, none⟩), .int .i64 s, .int .i64 k, .bool t] w fun e w' => e = .returned (.int .i64 1) ∧ w = w' := by
  have c0 := h.size
  have hl := h.len
  obtain ⟨n, hn⟩ : ∃ n, n = L.length := ⟨_, rfl⟩
  rw [← hn] at c0 hb hl
  clear hn h
  by_cases t1 : s < 0
  · clear hb
    go_enter Try.func67, Try.ntmps67
    go_wp2
    go_ret
    exact ⟨rfl, rfl⟩
  · by_cases t2 : k < 1
    · clear hb
      go_enter Try.func67, Try.ntmps67
      go_wp2
      go_ret
      exact ⟨rfl, rfl⟩
    · have t3 : (n : Int) - s < k := by omega
      have t4 : IntKind.i64.wrap ((n : Int) - s) = (n : Int) - s := by rw [IntKind.wrap_i64]; omega
      clear hb
      go_enter Try.func67, Try.ntmps67
      go_wp2
      go_ret
      exact ⟨rfl, rfl⟩

set_option maxRecDepth 20000 in
set_option maxHeartbeats 2000000 in
theorem turn_some (w : World) (b : Nat) (L : List Bool) (s k : Nat) (t : Bool) (h : Spc w b L) (hk : 1 ≤ k) (hle : s + k ≤ L.length) (j0 : Nat) (hj0 : j0 < k) (h1 : allB L s j0 t) (h2 : L[s + j0]? = some (!t)) :
    Calls Try.prog 67 #[.pointer (some ⟨b, 0, none⟩), .int .i64 (s : Int), .int .i64 (k : Int), .bool t] w fun e w' => e = .returned (.int .i64 1) ∧ w = w' := by
  have c0 := h.size
  have hl := h.len
  obtain ⟨n, hn⟩ : ∃ n, n = L.length := ⟨_, rfl⟩
  rw [← hn] at c0
  have HS : Hid (Spc w b L) := h
  have t1 : ¬ (s : Int) < 0 := by omega
  have t2 : ¬ (k : Int) < 1 := by omega
  have t3 : ¬ (n : Int) - (s : Int) < (k : Int) := by omega
  have hs4 : s ≤ 4096 := by omega
  have hk4 : k ≤ 4096 := by omega
  have hn4 : n ≤ 4096 := by omega
  have HA : Hid (allB L s j0 t ∧ L[s + j0]? = some (!t)) := ⟨h1, h2⟩
  have HL : Hid (s + k ≤ L.length) := hle
  clear hn h hl hle h1 h2
  go_enter Try.func67, Try.ntmps67
  go_wp2
  go_loop [28] (fun v => ∃ j : Nat, v = .int .i64 j ∧ j ≤ j0) (fun v => k - (intOf v).toNat)
  case atStart => exact ⟨0, rfl, Nat.zero_le _⟩
  case round =>
    obtain ⟨j, rfl, hj⟩ := hrel
    have hltI : (j : Int) < (k : Int) := by omega
    have hu : s + j < L.length := by have := HL.out; omega
    have htk := taken_any w b L (s + j) HS.out hu
    have es : ((s + j : Nat) : Int) = (s : Int) + (j : Int) := by omega
    by_cases hlt : j < j0
    · have hv : L[s + j] = t := by have := HA.out.1 j hlt; rw [List.getElem?_eq_getElem hu] at this; exact Option.some.inj this
      rw [hv, es] at htk
      clear hv es hu
      go_wp2_with (go_at_call 83; refine Calls.mono htk ?_; rintro e w1 ⟨rfl, rfl⟩)
      go_round
      case rel => exact ⟨j + 1, by go_num, by omega⟩
      case measure => simp [intOf]; omega
    · obtain rfl : j = j0 := by omega
      have hv : L[s + j] = !t := by have := HA.out.2; rw [List.getElem?_eq_getElem hu] at this; exact Option.some.inj this
      rw [hv, es] at htk
      have hne : ((!t) != t) = true := by cases t <;> rfl
      clear hv es hu
      go_wp2_with (go_at_call 83; refine Calls.mono htk ?_; rintro e w1 ⟨rfl, rfl⟩)
      go_ret
      exact ⟨rfl, rfl⟩
theorem allB_first {L : List Bool} {s : Nat} {t : Bool} : ∀ {k : Nat}, s + k ≤ L.length → ¬ allB L s k t → ∃ j, j < k ∧ allB L s j t ∧ L[s + j]? = some (!t)
  | 0, _, h => (h fun _ hi => by omega).elim
  | k + 1, hl, h => by
    by_cases h1 : allB L s k t
    · refine ⟨k, by omega, h1, ?_⟩
      have hu : s + k < L.length := by omega
      rw [List.getElem?_eq_getElem hu]
      by_cases h2 : L[s + k] = t
      · exact (h fun i hi => by
          by_cases e : i = k
          · subst e; rw [List.getElem?_eq_getElem hu, h2]
          · exact h1 i (by omega)).elim
      · cases hx : L[s + k] <;> cases t <;> simp_all
    · obtain ⟨j, h2, h3⟩ := allB_first (k := k) (by omega) h1
      exact ⟨j, by omega, h3⟩

/-- What a turn tells and leaves. -/
theorem turn_any (w : World) (b : Nat) (L : List Bool) (s k : Int) (t : Bool) (h : Spc w b L) (hs : s ≤ 9223372036854775807) :
    Calls Try.prog 67 #[.pointer (some ⟨b, 0, none⟩), .int .i64 s, .int .i64 k, .bool t] w fun e w' =>
      e = .returned (.int .i64 (if turnB L s k t then 0 else 1)) ∧ Spc w' b (if turnB L s k t then putB L s.toNat k.toNat (!t) else L) ∧ Kep (fun k => k ≠ b) w w' ∧ w'.heap.size = w.heap.size := by
  by_cases hb : s < 0 ∨ k < 1 ∨ (L.length : Int) - s < k
  · refine (turn_arg w b L s k t h hs hb).mono ?_
    rintro e w' ⟨rfl, rfl⟩
    have : turnB L s k t = false := by
      rw [Bool.eq_false_iff]
      intro h2
      obtain ⟨a1, a2, a3, _⟩ := turnB_iff.1 h2
      omega
    rw [this]
    exact ⟨rfl, h, Kep.refl _ _, rfl⟩
  · obtain ⟨S, rfl⟩ : ∃ S : Nat, s = (S : Int) := ⟨s.toNat, by omega⟩
    obtain ⟨K, rfl⟩ : ∃ K : Nat, k = (K : Int) := ⟨k.toNat, by omega⟩
    simp only [Int.toNat_natCast]
    by_cases ha : allB L S K t
    · refine (turn_good w b L S K t h (by omega) (by omega) ha).mono ?_
      rintro e w' ⟨rfl, h1, h2⟩
      have : turnB L S K t = true := turnB_iff.2 ⟨by omega, by omega, by omega, by simpa using ha⟩
      rw [this]
      exact ⟨rfl, h1, h2⟩
    · obtain ⟨j, h1, h2, h3⟩ := allB_first (k := K) (by omega) ha
      refine (turn_some w b L S K t h (by omega) (by omega) j h1 h2 h3).mono ?_
      rintro e w' ⟨rfl, rfl⟩
      have : turnB L S K t = false := by
        rw [Bool.eq_false_iff]
        intro h4
        exact ha (by simpa using (turnB_iff.1 h4).2.2.2)
      rw [this]
      exact ⟨rfl, h, Kep.refl _ _, rfl⟩
theorem give_any (w : World) (b : Nat) (L : List Bool) (s k : Int) (h : Spc w b L) (hs : s ≤ 9223372036854775807) :
    Calls Try.prog 44 #[.pointer (some ⟨b, 0, none⟩), .int .i64 s, .int .i64 k] w fun e w' =>
      e = .returned (.int .i64 (if turnB L s k true then 0 else 1)) ∧ Spc w' b (if turnB L s k true then putB L s.toNat k.toNat false else L) ∧ Kep (fun k => k ≠ b) w w' ∧ w'.heap.size = w.heap.size := by
  have ht := turn_any w b L s k true h hs
  obtain ⟨v, hv⟩ : ∃ v : Int, v = (if turnB L s k true then 0 else 1) := ⟨_, rfl⟩
  obtain ⟨L', hL'⟩ : ∃ L', L' = (if turnB L s k true then putB L s.toNat k.toNat false else L) := ⟨_, rfl⟩
  rw [← hv, Bool.not_true, ← hL'] at ht
  rw [← hv, ← hL']
  clear hv hL'
  go_enter Try.func44, Try.ntmps44
  go_wp2_with (go_at_call 67; refine Calls.mono ht ?_; rintro e w1 ⟨rfl, q1⟩)
  go_ret
  exact ⟨rfl, q1⟩
theorem mark_any (w : World) (b : Nat) (L : List Bool) (s k : Int) (h : Spc w b L) (hs : s ≤ 9223372036854775807) :
    Calls Try.prog 38 #[.pointer (some ⟨b, 0, none⟩), .int .i64 s, .int .i64 k] w fun e w' =>
      e = .returned (.int .i64 (if turnB L s k false then 0 else 1)) ∧ Spc w' b (if turnB L s k false then putB L s.toNat k.toNat true else L) ∧ Kep (fun k => k ≠ b) w w' ∧ w'.heap.size = w.heap.size := by
  have ht := turn_any w b L s k false h hs
  obtain ⟨v, hv⟩ : ∃ v : Int, v = (if turnB L s k false then 0 else 1) := ⟨_, rfl⟩
  obtain ⟨L', hL'⟩ : ∃ L', L' = (if turnB L s k false then putB L s.toNat k.toNat true else L) := ⟨_, rfl⟩
  rw [← hv, Bool.not_false, ← hL'] at ht
  rw [← hv, ← hL']
  clear hv hL'
  go_enter Try.func38, Try.ntmps38
  go_wp2_with (go_at_call 67; refine Calls.mono ht ?_; rintro e w1 ⟨rfl, q1⟩)
  go_ret
  exact ⟨rfl, q1⟩
end Go.Proofs.Ytpmjkgpmidejoaa.Al

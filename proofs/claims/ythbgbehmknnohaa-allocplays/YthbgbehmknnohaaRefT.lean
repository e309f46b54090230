/-
  The document's own space: Take, Give, Mark, Free, New.
-/
import Derived.Test.YthbgbehmknnohaaRef
namespace Go.Proofs.Ythbgbehmknnohaa
open Go.RowKit Go.Shelf

theorem takeF_win {L : List Bool} {K i : Nat} (hK : 1 ≤ K) (h1 : winP L K i) (h2 : ∀ a', a' < i → ¬ winP L K a') : takeF L (K : Int) = (((i : Nat) : Int), (0 : Int), putB L i K true) := by
  rw [takeF, if_neg (by omega), Int.toNat_natCast]
  cases hx : takeL K (runsL L) with
  | none => exact (take_none hK hx i h1).elim
  | some x =>
    obtain ⟨q1, q2⟩ := take_some hK hx
    have h3 : ¬ x.1 < i := fun h => h2 _ h q1
    have h4 : ¬ i < x.1 := fun h => q2 _ h h1
    obtain rfl : x.1 = i := by omega
    rfl
theorem takeF_none {L : List Bool} {K : Nat} (hK : 1 ≤ K) (h2 : ∀ a', ¬ winP L K a') : takeF L (K : Int) = (0, 60, L) := by
  rw [takeF, if_neg (by omega), Int.toNat_natCast]
  cases hx : takeL K (runsL L) with
  | none => rfl
  | some x => exact (h2 _ (take_some hK hx).1).elim
theorem turn_win {L : List Bool} {K i : Nat} (hK : 1 ≤ K) : turnB L (i : Int) (K : Int) false = true ↔ winP L K i := by
  rw [turnB_iff]
  constructor
  · rintro ⟨_, _, h3, h4⟩; exact ⟨by omega, by simpa using h4⟩
  · rintro ⟨h3, h4⟩; exact ⟨by omega, by omega, by omega, by simpa using h4⟩

set_option maxRecDepth 20000 in
set_option maxHeartbeats 2000000 in
theorem refTake_any (w : World) (r g : Nat) (L : List Bool) (k : Int) (h : RSp w r g L) :
    Calls Try.prog 10 #[.pointer (some ⟨r, 0, none⟩), .int .i64 k] w fun e w' => e = .returned (.tuple #[.int .i64 (takeF L k).1, .int .i64 (takeF L k).2.1]) ∧ RSp w' r g (takeF L k).2.2 ∧ Kep (fun q => q ≠ g) w w' := by
  by_cases hk : k < 1
  · have hF : takeF L k = (0, 1, L) := by rw [takeF, if_pos hk]
    rw [hF]
    have HS : Hid (RSp w r g L) := h
    clear h hF
    go_enter Try.func10, Try.ntmps10
    go_wp2
    go_ret2
    exact ⟨rfl, HS.out, Kep.refl _ _⟩
  · obtain ⟨K, rfl⟩ : ∃ K : Nat, k = (K : Int) := ⟨k.toNat, by omega⟩
    have hK : 1 ≤ K := by omega
    obtain ⟨T, hT⟩ : ∃ T, T = takeF L (K : Int) := ⟨_, rfl⟩
    rw [← hT]
    have HT : Hid (T = takeF L (K : Int)) := hT
    clear hT
    have HS : Hid (RSp w r g L) := h
    have hall := fun (i : Nat) => all_any w r g L (i : Int) (K : Int) false h
    have HALL : Hid (∀ i : Nat, Calls Try.prog 24 #[.pointer (some ⟨r, 0, none⟩), .int .i64 (i : Int), .int .i64 (K : Int), .bool false] w fun e w' => e = .returned (.bool (turnB L (i : Int) (K : Int) false)) ∧ w = w') := hall
    obtain ⟨hl, a, c, h1, _⟩ := h
    have c0 := box_cell h1
    clear h1 hall
    obtain ⟨n, hn⟩ : ∃ n, n = L.length := ⟨_, rfl⟩
    rw [← hn] at c0 hl
    have HN : Hid (n = L.length) := hn
    clear hn
    go_enter Try.func10, Try.ntmps10
    go_wp2
    go_loop [6] (fun v => ∃ i : Nat, v = .int .i64 i ∧ i ≤ n ∧ ∀ a', a' < i → ¬ winP L K a') (fun v => n - (intOf v).toNat)
    case atStart => exact ⟨0, rfl, Nat.zero_le _, fun _ h => by omega⟩
    case round =>
      obtain ⟨i, rfl, hi, hno⟩ := hrel
      have HNO : Hid (∀ a', a' < i → ¬ winP L K a') := hno
      clear hno
      by_cases hin : i < n
      · have hiI : (i : Int) < (n : Int) := by omega
        have hcl := HALL.out i
        by_cases hw : winP L K i
        · rw [(turn_win hK).2 hw] at hcl
          have hle := hw.1
          have hput := put_any w r g L i K true HS.out hK hle
          have HF : Hid (T = (((i : Nat) : Int), (0 : Int), putB L i K true)) := HT.out.trans (takeF_win hK hw HNO.out)
          clear hw hle
          go_wp2_with (first
            | (go_at_call 24; refine Calls.mono hcl ?_; rintro e w1 ⟨rfl, rfl⟩)
            | (go_at_call 25; refine Calls.mono hput ?_; rintro e w1 ⟨⟨v, rfl⟩, q1, q2⟩))
          go_ret2
          rw [HF.out]
          exact ⟨rfl, q1, q2⟩
        · have hf : turnB L (i : Int) (K : Int) false = false := by
            rw [Bool.eq_false_iff]
            exact fun h => hw ((turn_win hK).1 h)
          rw [hf] at hcl
          have HW : Hid (¬ winP L K i) := hw
          clear hw hf
          go_wp2_with (go_at_call 24; refine Calls.mono hcl ?_; rintro e w1 ⟨rfl, rfl⟩)
          go_round
          case rel =>
            refine ⟨i + 1, by go_num, by omega, fun a' ha => ?_⟩
            by_cases e : a' = i
            · subst e; exact HW.out
            · exact HNO.out a' (by omega)
          case measure => simp [intOf]; omega
      · obtain rfl : i = n := by omega
        have hiI : ¬ (i : Int) < (i : Int) := by omega
        have HF : Hid (T = (0, 60, L)) := HT.out.trans (takeF_none hK fun a' ha => by
          by_cases e : a' < i
          · exact HNO.out a' e ha
          · have := ha.1
            have := HN.out
            omega)
        go_wp2
        go_ret2
        rw [HF.out]
        exact ⟨rfl, HS.out, Kep.refl _ _⟩

set_option maxHeartbeats 2000000 in
theorem refGive_any (w : World) (r g : Nat) (L : List Bool) (s k : Int) (h : RSp w r g L) :
    Calls Try.prog 12 #[.pointer (some ⟨r, 0, none⟩), .int .i64 s, .int .i64 k] w fun e w' =>
      e = .returned (.int .i64 (if turnB L s k true then 0 else 1)) ∧ RSp w' r g (if turnB L s k true then putB L s.toNat k.toNat false else L) ∧ Kep (fun q => q ≠ g) w w' := by
  have hcl := all_any w r g L s k true h
  have HS : Hid (RSp w r g L) := h
  by_cases ht : turnB L s k true = true
  · rw [ht] at hcl
    rw [if_pos ht, if_pos ht]
    obtain ⟨h1, h2, h3, _⟩ := turnB_iff.1 ht
    obtain ⟨S, rfl⟩ : ∃ S : Nat, s = (S : Int) := ⟨s.toNat, by omega⟩
    obtain ⟨K, rfl⟩ : ∃ K : Nat, k = (K : Int) := ⟨k.toNat, by omega⟩
    have hput := put_any w r g L S K false h (by omega) (by omega)
    rw [Int.toNat_natCast, Int.toNat_natCast]
    clear ht h1 h2 h3 h
    go_enter Try.func12, Try.ntmps12
    go_wp2_with (first
      | (go_at_call 24; refine Calls.mono hcl ?_; rintro e w1 ⟨rfl, rfl⟩)
      | (go_at_call 25; refine Calls.mono hput ?_; rintro e w1 ⟨⟨v, rfl⟩, q1, q2⟩))
    go_ret
    exact ⟨rfl, q1, q2⟩
  · have hf : turnB L s k true = false := by simpa using ht
    rw [hf] at hcl
    rw [if_neg ht, if_neg ht]
    clear ht hf h
    go_enter Try.func12, Try.ntmps12
    go_wp2_with (go_at_call 24; refine Calls.mono hcl ?_; rintro e w1 ⟨rfl, rfl⟩)
    go_ret
    exact ⟨rfl, HS.out, Kep.refl _ _⟩

set_option maxHeartbeats 2000000 in
theorem refMark_any (w : World) (r g : Nat) (L : List Bool) (s k : Int) (h : RSp w r g L) :
    Calls Try.prog 14 #[.pointer (some ⟨r, 0, none⟩), .int .i64 s, .int .i64 k] w fun e w' =>
      e = .returned (.int .i64 (if turnB L s k false then 0 else 1)) ∧ RSp w' r g (if turnB L s k false then putB L s.toNat k.toNat true else L) ∧ Kep (fun q => q ≠ g) w w' := by
  have hcl := all_any w r g L s k false h
  have HS : Hid (RSp w r g L) := h
  by_cases ht : turnB L s k false = true
  · rw [ht] at hcl
    rw [if_pos ht, if_pos ht]
    obtain ⟨h1, h2, h3, _⟩ := turnB_iff.1 ht
    obtain ⟨S, rfl⟩ : ∃ S : Nat, s = (S : Int) := ⟨s.toNat, by omega⟩
    obtain ⟨K, rfl⟩ : ∃ K : Nat, k = (K : Int) := ⟨k.toNat, by omega⟩
    have hput := put_any w r g L S K true h (by omega) (by omega)
    rw [Int.toNat_natCast, Int.toNat_natCast]
    clear ht h1 h2 h3 h
    go_enter Try.func14, Try.ntmps14
    go_wp2_with (first
      | (go_at_call 24; refine Calls.mono hcl ?_; rintro e w1 ⟨rfl, rfl⟩)
      | (go_at_call 25; refine Calls.mono hput ?_; rintro e w1 ⟨⟨v, rfl⟩, q1, q2⟩))
    go_ret
    exact ⟨rfl, q1, q2⟩
  · have hf : turnB L s k false = false := by simpa using ht
    rw [hf] at hcl
    rw [if_neg ht, if_neg ht]
    clear ht hf h
    go_enter Try.func14, Try.ntmps14
    go_wp2_with (go_at_call 24; refine Calls.mono hcl ?_; rintro e w1 ⟨rfl, rfl⟩)
    go_ret
    exact ⟨rfl, HS.out, Kep.refl _ _⟩

set_option maxRecDepth 20000 in
set_option maxHeartbeats 2000000 in
theorem refFree_any (w : World) (r g : Nat) (L : List Bool) (h : RSp w r g L) :
    Calls Try.prog 18 #[.pointer (some ⟨r, 0, none⟩)] w fun e w' => e = .returned (.int .i64 ((L.count false : Nat) : Int)) ∧ w = w' := by
  obtain ⟨hl, a, c, h1, h2⟩ := h
  have c0 := box_cell h1
  have HR : Hid ((L = [] ∧ (a = none → c = 0)) ∨ (a = some ⟨g, 0, none⟩ ∧ RRow w g L)) := h2
  clear h1 h2
  obtain ⟨n, hn⟩ : ∃ n, n = L.length := ⟨_, rfl⟩
  rw [← hn] at c0 hl
  have HN : Hid (n = L.length) := hn
  clear hn
  go_enter Try.func18, Try.ntmps18
  go_wp2
  go_loop [3, 4] (fun v x => ∃ j : Nat, v = .int .i64 (((L.take j).count false : Nat) : Int) ∧ x = .int .i64 j ∧ j ≤ n) (fun _ x => n - (intOf x).toNat)
  case atStart => exact ⟨0, rfl, rfl, Nat.zero_le _⟩
  case round =>
    obtain ⟨j, rfl, rfl, hj⟩ := hrel
    by_cases hjl : j < n
    · have hjI : (j : Int) < (n : Int) := by omega
      have hjL : j < L.length := by have := HN.out; omega
      obtain ⟨rfl, hrow⟩ : a = some ⟨g, 0, none⟩ ∧ RRow w g L := HR.out.resolve_left (by rintro ⟨e, _⟩; rw [e] at hjL; simp at hjL)
      have cg := hrow.cell hjL
      have hst := cnt_step hjL
      have hcl : (L.take j).count false ≤ j := Nat.le_trans List.count_le_length (by simp; omega)
      obtain ⟨q, hq⟩ : ∃ q, q = (L.take j).count false := ⟨_, rfl⟩
      rw [← hq] at hst hcl ⊢
      cases hx : L[j] with
      | true =>
        rw [hx] at cg hst
        have HS : Hid ((L.take (j + 1)).count false = q) := (by simp at hst; exact hst)
        clear hst hx hq hrow
        go_wp2
        go_round
        case rel => exact ⟨j + 1, by rw [HS.out], by go_num, by omega⟩
        case measure => simp [intOf]; omega
      | false =>
        rw [hx] at cg hst
        have HS : Hid ((L.take (j + 1)).count false = q + 1) := (by simp at hst; exact hst)
        clear hst hx hq hrow
        go_wp2
        go_round
        case rel => exact ⟨j + 1, by rw [HS.out]; go_num, by go_num, by omega⟩
        case measure => simp [intOf]; omega
    · obtain rfl : j = n := by omega
      have hjI : ¬ (j : Int) < (j : Int) := by omega
      have hta : L.take j = L := by rw [HN.out]; exact List.take_length
      rw [hta]
      clear hta
      go_wp2
      go_ret
      exact ⟨rfl, rfl⟩

theorem refNew_ok (w : World) (n : Nat) (hn : n ≤ 4096) :
    Calls Try.prog 7 #[.int .i64 (n : Int)] w fun e w' => e = .returned (.tuple #[.pointer (some ⟨w.heap.size + 1, 0, none⟩), .int .i64 0]) ∧ RSp w' (w.heap.size + 1) w.heap.size (List.replicate n false) ∧ Below w.heap.size w w' := by
  have t1 : ¬ (n : Int) < 0 := by omega
  have t2 : ¬ (4096 : Int) < (n : Int) := by omega
  have hmk := make_bools w n hn
  go_enter Try.func7, Try.ntmps7
  go_wp2
  go_ret2
  have hb : Below w.heap.size w ((w.alloc (.cells (noA n) 4)).alloc (.cells #[.slice (some ⟨w.heap.size, 0, none⟩) n n] 59)) := ((Below.refl _ w).alloc (Nat.le_refl _) _).alloc (by simp) _
  refine ⟨by simp, ⟨by simpa using hn, some ⟨w.heap.size, 0, none⟩, n, ?_, .inr ⟨rfl, noA n, ?_, fun j hj => ?_⟩⟩, hb⟩
  · have := heap_alloc_new (w.alloc (.cells (noA n) 4)) (.cells #[.slice (some ⟨w.heap.size, 0, none⟩) n n] 59)
    rw [World.size_alloc] at this
    rw [List.length_replicate]
    exact this
  · rw [Below.heap_alloc _ _ _ (by simp)]
    exact heap_alloc_new w _
  · simp only [List.length_replicate] at hj
    simp [noA, hj]
theorem refNew_bad (w : World) (n : Int) (hn : n < 0 ∨ 4096 < n) :
    Calls Try.prog 7 #[.int .i64 n] w fun e w' => e = .returned (.tuple #[.pointer none, .int .i64 1]) ∧ w = w' := by
  by_cases t1 : n < 0
  · clear hn
    go_enter Try.func7, Try.ntmps7
    go_wp2
    go_ret2
    exact ⟨rfl, rfl⟩
  · have t2 : (4096 : Int) < n := by omega
    clear hn
    go_enter Try.func7, Try.ntmps7
    go_wp2
    go_ret2
    exact ⟨rfl, rfl⟩
end Go.Proofs.Ythbgbehmknnohaa

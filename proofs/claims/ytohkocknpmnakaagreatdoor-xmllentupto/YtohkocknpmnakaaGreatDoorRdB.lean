/-
  A reader's names.
-/
import Derived.Test.YtohkocknpmnakaaGreatDoorRdA
namespace Go.Proofs.YtohkocknpmnakaaGreatDoor
open Go.RowKit

theorem dec_ascii (c : UInt8) (r : List UInt8) (h : c.toNat < 128) : decL (c :: r) = (c.toNat, 1) := by
  unfold decL Lib.decodeN
  have : at0 (c :: r) 0 = c.toNat := rfl
  rw [this, if_pos h]
theorem dec_great (c : UInt8) (r : List UInt8) (h : 128 ≤ c.toNat) : 128 ≤ (decL (c :: r)).1 := by
  unfold decL Lib.decodeN
  have : at0 (c :: r) 0 = c.toNat := rfl
  rw [this]
  (repeat' split) <;> simp <;> omega
theorem beginsName_any (c : Int) (w : World) (_h0 : 0 ≤ c) (_h1 : c ≤ 1114111) :
    Calls Tryz.prog 76 #[.int .i32 c] w fun e w' => e = .returned (.bool (letZ c)) ∧ w = w' := by
  go_enter Tryz.func76, Tryz.ntmps76
  go_wp2
  all_goals
    go_ret
    exact ⟨ret_bool (by rw [Bool.eq_iff_iff]; simp [letZ]; try omega), rfl⟩
theorem goesOn_any (c : Int) (w : World) (_h0 : 0 ≤ c) (_h1 : c ≤ 1114111) :
    Calls Tryz.prog 77 #[.int .i32 c] w fun e w' => e = .returned (.bool (goZ c)) ∧ w = w' := by
  go_enter Tryz.func77, Tryz.ntmps77
  go_wp2
  all_goals
    go_ret
    exact ⟨ret_bool (by rw [Bool.eq_iff_iff]; simp [goZ]; try omega), rfl⟩
/-- How much of a name is ahead, at a place. -/
def nmAt (l : List UInt8) (pos : Nat) : Prop := (nmL l).length = pos + (if pos = 0 then (nmL l).length else ((l.drop pos).takeWhile innB).length)
theorem nmAt_let {l : List UInt8} {pos : Nat} {c : UInt8} {r : List UInt8} (h : nmAt l pos) (hd : l.drop pos = c :: r) (hc : letB c = true) : nmAt l (pos + 1) := by
  have hi : innB c = true := by simp only [innB, innZ, Bool.or_eq_true]; exact .inl hc
  have hd1 : l.drop (pos + 1) = r := by rw [← List.drop_drop, hd]; rfl
  unfold nmAt at h ⊢
  rw [if_neg (by omega), hd1]
  by_cases hp : pos = 0
  · subst hp
    simp only [List.drop_zero] at hd
    rw [hd, nmL, if_pos hc]
    simp; omega
  · rw [if_neg hp, hd, List.takeWhile_cons, if_pos hi] at h
    simp at h
    omega
theorem nmAt_go {l : List UInt8} {pos : Nat} {c : UInt8} {r : List UInt8} (h : nmAt l pos) (hp : pos ≠ 0) (hd : l.drop pos = c :: r) (hc : goZ (c.toNat : Int) = true) : nmAt l (pos + 1) := by
  have hi : innB c = true := by simp only [innB, innZ, Bool.or_eq_true]; exact .inr hc
  have hd1 : l.drop (pos + 1) = r := by rw [← List.drop_drop, hd]; rfl
  unfold nmAt at h ⊢
  rw [if_neg (by omega), hd1]
  rw [if_neg hp, hd, List.takeWhile_cons, if_pos hi] at h
  simp at h
  omega
theorem nmAt_stop0 {l : List UInt8} {c : UInt8} {r : List UInt8} (hd : l = c :: r) (hc : letB c = false) : (nmL l).length = 0 := by
  rw [hd, nmL, if_neg (by simp [hc])]
  rfl
theorem nmAt_stop {l : List UInt8} {pos : Nat} {c : UInt8} {r : List UInt8} (h : nmAt l pos) (hp : pos ≠ 0) (hd : l.drop pos = c :: r) (hc : letB c = false) (hg : goZ (c.toNat : Int) = false) : (nmL l).length = pos := by
  have hi : innB c = false := by
    simp only [innB, innZ, Bool.or_eq_false_iff]
    exact ⟨hc, hg⟩
  unfold nmAt at h
  rw [if_neg hp, hd, List.takeWhile_cons, if_neg (by simp [hi])] at h
  simpa using h
theorem nmAt_end {l : List UInt8} (h : nmAt l l.length) : (nmL l).length = l.length := by
  unfold nmAt at h
  by_cases hp : l.length = 0
  · obtain rfl : l = [] := List.eq_nil_of_length_eq_zero hp
    rfl
  · rw [if_neg hp, List.drop_length] at h
    simpa using h

set_option maxHeartbeats 1600000 in
theorem nameSize_any (s : ByteArray) (w : World) (_hs : s.size ≤ maxLen) :
    Calls Tryz.prog 46 #[.string s] w fun e w' => e = .returned (.int .i64 ((nmL s.data.toList).length : Nat)) ∧ Below w.heap.size w w' := by
  unfold maxLen at _hs
  go_enter Tryz.func46, Tryz.ntmps46
  go_wp2
  go_loopg [] s.size (fun gf wx => ∃ pos : Nat, pos ≤ s.size ∧ s.size ≤ pos + gf ∧ wx.heap[w.heap.size]? = some (.stringIter s pos) ∧ Below w.heap.size w wx ∧ nmAt s.data.toList pos)
  case atStart => exact ⟨0, Nat.zero_le _, by omega, World.iter_heap w s 0, (Below.refl _ _).alloc (Nat.le_refl _) _, by simp [nmAt]⟩
  case round =>
    obtain ⟨pos, hps, hfu, hit, hbw, hc⟩ := hrel
    have HC : Hid (nmAt s.data.toList pos) := hc
    clear hc
    by_cases hlt : pos < s.size
    · obtain ⟨g', rfl⟩ : ∃ g', gk = g' + 1 := ⟨gk - 1, by omega⟩
      have hnx : ∀ ty, (Instr.next (.pointer (some ⟨w.heap.size, 0, none⟩)) true ty).run Tryz.prog wr = _ := fun ty => Lib.run_next_any_at wr w.heap.size s pos ty hit hlt
      rw [decode_drop] at hnx
      obtain ⟨c, r, hd⟩ : ∃ c r, s.data.toList.drop pos = c :: r := by
        cases h : s.data.toList.drop pos with
        | nil =>
          have : (s.data.toList.drop pos).length = 0 := by rw [h]; rfl
          simp at this
          omega
        | cons c r => exact ⟨c, r, rfl⟩
      rw [hd] at hnx
      have HD : Hid (s.data.toList.drop pos = c :: r) := hd
      clear hd
      have hit2 := fun K => Lib.iterAt_heap wr w.heap.size s pos (pos + K) hit
      have hbw2 := fun K => Lib.below_iterAt hbw (k := w.heap.size) (Nat.le_refl _) s (pos + K)
      have hrn : (decL (c :: r)).1 ≤ 1114111 := (dec_rune _ _ _ _ _).1
      have hkey : (letZ ((decL (c :: r)).1 : Int) = letB c ∧ goZ ((decL (c :: r)).1 : Int) = goZ (c.toNat : Int) ∧ ((letB c = true ∨ goZ (c.toNat : Int) = true) → (decL (c :: r)).2 = 1)) := by
        by_cases ha : c.toNat < 128
        · rw [dec_ascii c r ha]
          exact ⟨rfl, rfl, fun _ => rfl⟩
        · have := dec_great c r (by omega)
          have h1 : ∀ x : Int, 128 ≤ x → letZ x = false := fun x hx => by simp [letZ]; omega
          have h2 : ∀ x : Int, 128 ≤ x → goZ x = false := fun x hx => by simp [goZ]; omega
          have e1 : letB c = false := h1 _ (by omega)
          have e2 : goZ (c.toNat : Int) = false := h2 _ (by omega)
          exact ⟨by rw [h1 _ (by omega), e1], by rw [h2 _ (by omega), e2], by rw [e1, e2]; simp⟩
      obtain ⟨k1, k2, k3⟩ := hkey
      have HB : Hid (∀ W, Calls Tryz.prog 76 #[.int .i32 ((decL (c :: r)).1 : Int)] W fun e w' => e = .returned (.bool (letB c)) ∧ W = w') := by
        intro W
        rw [← k1]
        exact beginsName_any _ W (by omega) (by omega)
      have HG : Hid (∀ W, Calls Tryz.prog 77 #[.int .i32 ((decL (c :: r)).1 : Int)] W fun e w' => e = .returned (.bool (goZ (c.toNat : Int))) ∧ W = w') := by
        intro W
        rw [← k2]
        exact goesOn_any _ W (by omega) (by omega)
      clear k1 k2 hrn
      obtain ⟨R, hR⟩ : ∃ R, (decL (c :: r)).1 = R := ⟨_, rfl⟩
      obtain ⟨K, hK⟩ : ∃ K, (decL (c :: r)).2 = K := ⟨_, rfl⟩
      rw [hR] at hnx HB HG
      rw [hK] at hnx k3
      clear hR hK
      cases hl : letB c
      · rw [hl] at HB k3
        by_cases hp : pos = 0
        · subst hp
          have HN : Hid ((nmL s.data.toList).length = 0) := nmAt_stop0 (by have := HD.out; simpa using this) hl
          have hb2 := hbw2 K
          rw [Nat.zero_add] at hb2
          clear hl hit2 hbw2 hit HC HD k3
          go_wp2_with (first
            | (go_at_call 76; refine (HB.out _).mono ?_; rintro e w' ⟨rfl, rfl⟩)
            | (go_at_call 77; refine (HG.out _).mono ?_; rintro e w' ⟨rfl, rfl⟩))
          go_ret
          exact ⟨ret_int (by rw [HN.out]; rfl), hb2⟩
        · have hp0 : ((pos : Int) == 0) = false := by rw [beq_eq_false_iff_ne]; omega
          cases hg : goZ (c.toNat : Int)
          · rw [hg] at HG
            have HN : Hid ((nmL s.data.toList).length = pos) := nmAt_stop HC.out hp HD.out hl hg
            have hb2 := hbw2 K
            clear hl hit2 hbw2 hit HC HD k3 hg
            go_wp2_with (first
              | (go_at_call 76; refine (HB.out _).mono ?_; rintro e w' ⟨rfl, rfl⟩)
              | (go_at_call 77; refine (HG.out _).mono ?_; rintro e w' ⟨rfl, rfl⟩))
            go_ret
            exact ⟨ret_int (by rw [HN.out]), hb2⟩
          · rw [hg] at HG
            obtain rfl : K = 1 := k3 (.inr hg)
            have HN : Hid (nmAt s.data.toList (pos + 1)) := nmAt_go HC.out hp HD.out hg
            have hb2 := hbw2 1
            have hi2 := hit2 1
            clear hl hit2 hbw2 hit HC HD k3 hg
            go_wp2_with (first
              | (go_at_call 76; refine (HB.out _).mono ?_; rintro e w' ⟨rfl, rfl⟩)
              | (go_at_call 77; refine (HG.out _).mono ?_; rintro e w' ⟨rfl, rfl⟩))
            go_roundg g'
            case measure => omega
            case rel => exact ⟨pos + 1, by omega, by omega, hi2, hb2, HN.out⟩
      · rw [hl] at HB
        obtain rfl : K = 1 := k3 (.inl hl)
        have HN : Hid (nmAt s.data.toList (pos + 1)) := nmAt_let HC.out HD.out hl
        have hb2 := hbw2 1
        have hi2 := hit2 1
        clear hl hit2 hbw2 hit HC HD k3
        go_wp2_with (first
          | (go_at_call 76; refine (HB.out _).mono ?_; rintro e w' ⟨rfl, rfl⟩)
          | (go_at_call 77; refine (HG.out _).mono ?_; rintro e w' ⟨rfl, rfl⟩))
        go_roundg g'
        case measure => omega
        case rel => exact ⟨pos + 1, by omega, by omega, hi2, hb2, HN.out⟩
    · have hnx : ∀ ty, (Instr.next (.pointer (some ⟨w.heap.size, 0, none⟩)) true ty).run Tryz.prog wr = _ := fun ty => Lib.run_next_end_at wr w.heap.size s pos ty hit hlt
      have HZ : Hid ((nmL s.data.toList).length = s.size) := by
        show _ = _
        have := HC.out
        have e : pos = s.data.toList.length := by simp; have : s.size = s.data.size := rfl; omega
        rw [e] at this
        have := nmAt_end this
        rw [this]
        simp
      clear HC
      go_wp2
      go_ret
      exact ⟨ret_int (by rw [HZ.out]), hbw⟩
theorem nm_le (l : List UInt8) : (nmL l).length ≤ l.length := by
  cases l with
  | nil => simp [nmL]
  | cons c r =>
    simp only [nmL]
    have := (List.takeWhile_sublist (l := r) innB).length_le
    split
    · simp; omega
    · simp
theorem nm_take (l : List UInt8) : l.take (nmL l).length = nmL l := by
  cases l with
  | nil => rfl
  | cons c r =>
    simp only [nmL]
    split
    · simp only [List.length_cons, List.take_succ_cons]
      congr 1
      exact (List.prefix_iff_eq_take.1 (List.takeWhile_prefix _)).symm
    · rfl
set_option maxHeartbeats 800000 in
theorem name_any (p : Nat) (l : List UInt8) (w : World) (h : Rd w p l) (hl : l.length ≤ 65536) :
    Calls Tryz.prog 56 #[.pointer (some ⟨p, 0, none⟩)] w fun e w' => e = .returned (.string ⟨(nmL l).toArray⟩) ∧ Rd w' p (l.drop (nmL l).length) ∧ Md (fun b => b = p) w w' := by
  have c0 := cell_blk h 0
  simp only [List.getElem?_toArray] at c0
  have H := (show Hid (Rd w p l) from h)
  have HT : Hid (Calls Tryz.prog 46 #[.string ⟨l.toArray⟩] w fun e w' => e = .returned (.int .i64 ((nmL l).length : Nat)) ∧ Below w.heap.size w w') := nameSize_any ⟨l.toArray⟩ w (by rw [mk_size]; unfold maxLen; omega)
  have hle := nm_le l
  have hsz : (⟨l.toArray⟩ : ByteArray).size = l.length := mk_size l
  have HE : Hid ((⟨l.toArray⟩ : ByteArray).extract 0 (nmL l).length = ⟨(nmL l).toArray⟩ ∧ (⟨l.toArray⟩ : ByteArray).extract (nmL l).length l.length = ⟨(l.drop (nmL l).length).toArray⟩) := by
    refine ⟨?_, ?_⟩
    · rw [mk_ext, List.drop_zero, nm_take]
    · rw [mk_ext, List.take_length]
  clear h
  generalize hq : (nmL l).length = q at *
  clear hq
  obtain ⟨s, hS⟩ : ∃ s : ByteArray, s = ⟨l.toArray⟩ := ⟨_, rfl⟩
  have HS : Hid (s = ⟨l.toArray⟩) := hS
  rw [← hS] at c0 HT hsz HE
  clear hS
  have hq1 : (q : Int) ≤ (s.size : Int) := by omega
  go_enter Tryz.func56, Tryz.ntmps56
  go_wp2_with fail
  refine HT.out.mono ?_
  rintro e w1 ⟨rfl, hb⟩
  have m1 : Md (fun b => b = p) w w1 := Md.ofBelow hb
  have r1 : Rd w1 p l := (hb.block p (Rd.lt H.out)).trans H.out
  have c1 := cell_blk r1 0
  have f1 := frozen_blk r1 0
  simp only [List.getElem?_toArray] at c1
  rw [show (⟨l.toArray⟩ : ByteArray) = s from HS.out.symm] at c1
  have H1 := (show Hid (Rd w1 p l ∧ Md (fun b => b = p) w w1) from ⟨r1, m1⟩)
  clear m1 r1 hb c0
  go_wp2
  go_ret
  refine ⟨ret_str HE.out.1, ?_, H1.out.2.set (.inl rfl) _ _⟩
  refine (set_blk H1.out.1 0 _).trans ?_
  rw [HE.out.2]
  rfl
end Go.Proofs.YtohkocknpmnakaaGreatDoor

/-
  Names and escapes: the plain mathematics, and the small functions.
-/
import Derived.Test.YtohkocknpmnakaaGreatDoorUn
namespace Go.Proofs.YtohkocknpmnakaaGreatDoor
open Go.RowKit

/-- Is it a name? -/
def nameB (l : List UInt8) : Bool := !l.isEmpty && decide ((nmL l).length = l.length)
theorem tw_all (p : UInt8 → Bool) (l : List UInt8) : (l.takeWhile p).length = l.length ↔ l.all p = true := by
  induction l with
  | nil => simp
  | cons a r ih =>
    by_cases h : p a = true
    · simp [h, ih]
    · simp [h]
theorem nameB_eq (c : UInt8) (r : List UInt8) : nameB (c :: r) = (letB c && (c :: r).all innB) := by
  have ht := tw_all innB r
  rw [Bool.eq_iff_iff]
  have h1 : nameB (c :: r) = true ↔ (nmL (c :: r)).length = (c :: r).length := by
    unfold nameB
    simp
  rw [h1]
  by_cases hc : letB c = true
  · have hi : innB c = true := by simp only [innB, innZ, Bool.or_eq_true]; exact .inl hc
    have e : nmL (c :: r) = c :: r.takeWhile innB := by simp only [nmL]; rw [if_pos hc]
    rw [e]
    simp [ht, hi, hc]
  · have e : nmL (c :: r) = [] := by simp only [nmL]; rw [if_neg hc]
    rw [e]
    simp [hc]
def eoL (R : Int) : List UInt8 := if R = 38 then [38, 97, 109, 112, 59] else if R = 60 then [38, 108, 116, 59] else if R = 62 then [38, 103, 116, 59] else if R = 34 then [38, 113, 117, 111, 116, 59] else if R = 13 then [38, 35, 49, 51, 59] else []
def escB (c : UInt8) : List UInt8 := if eoL (c.toNat : Int) = [] then [c] else eoL (c.toNat : Int)
def escX (l : List UInt8) : List UInt8 := l.flatMap escB
theorem eo_len (R : Int) : (eoL R).length ≤ 6 := by
  unfold eoL
  (repeat' split) <;> simp
theorem eo_great (R : Int) (h : 128 ≤ R) : eoL R = [] := by
  unfold eoL
  rw [if_neg (by omega), if_neg (by omega), if_neg (by omega), if_neg (by omega), if_neg (by omega)]
theorem escB_len (c : UInt8) : (escB c).length ≤ 6 := by
  unfold escB
  split
  · simp
  · exact eo_len _
theorem escX_app (a b : List UInt8) : escX (a ++ b) = escX a ++ escX b := by simp [escX]
theorem escX_len : ∀ l : List UInt8, (escX l).length ≤ 6 * l.length
  | [] => by simp [escX]
  | c :: r => by
    have := escX_len r
    have h := escB_len c
    have e : escX (c :: r) = escB c ++ escX r := by simp [escX]
    rw [e, List.length_append, List.length_cons]
    omega
theorem escX_plain (l : List UInt8) (h : ∀ x ∈ l, eoL (x.toNat : Int) = []) : escX l = l := by
  induction l with
  | nil => rfl
  | cons c r ih =>
    have e : escX (c :: r) = escB c ++ escX r := by simp [escX]
    rw [e, ih (fun x hx => h x (by simp [hx])), escB, if_pos (h c (by simp))]
    rfl
structure EI (m : List UInt8) (pos d : Nat) (bl : List UInt8) : Prop where
  dp : d ≤ pos
  pl : pos ≤ m.length
  bd : bl.length ≤ 6 * d
  eq : escX m = bl ++ ((m.drop d).take (pos - d) ++ escX (m.drop pos))
theorem EI.start (m : List UInt8) : EI m 0 0 [] := ⟨Nat.le_refl _, Nat.zero_le _, Nat.le_refl _, by simp⟩
theorem EI.step {m : List UInt8} {pos d : Nat} {bl r : List UInt8} {c : UInt8} (h : EI m pos d bl) (hd : m.drop pos = c :: r) (hc : eoL ((decL (c :: r)).1 : Int) = []) : EI m (pos + (decL (c :: r)).2) d bl := by
  have hwd := dec_width (c :: r).length (at0 (c :: r) 0) (at0 (c :: r) 1) (at0 (c :: r) 2) (at0 (c :: r) 3) (by simp)
  have hall : ∀ x ∈ (c :: r).take (decL (c :: r)).2, eoL (x.toNat : Int) = [] := by
    intro x hx
    by_cases ha : c.toNat < 128
    · rw [dec_ascii c r ha] at hx hc
      simp at hx
      subst hx
      exact hc
    · have := dec_take c r (by omega) x hx
      exact eo_great _ (by omega)
  have hml : m.length = pos + (c :: r).length := by
    have := congrArg List.length hd
    have := h.pl
    simp only [List.length_drop] at *
    omega
  have hdp := h.dp
  have hwd2 : (decL (c :: r)).2 ≤ (c :: r).length := hwd.2.1
  generalize (decL (c :: r)).2 = K at *
  refine ⟨by omega, by omega, h.bd, ?_⟩
  rw [h.eq]
  have e1 : escX (m.drop pos) = (c :: r).take K ++ escX (m.drop (pos + K)) := by
    have : m.drop (pos + K) = (c :: r).drop K := by rw [← hd, List.drop_drop]
    rw [this, hd]
    conv => lhs; rw [← List.take_append_drop K (c :: r)]
    rw [escX_app, escX_plain _ hall]
  have e2 : (m.drop d).take (pos + K - d) = (m.drop d).take (pos - d) ++ (c :: r).take K := by
    rw [show pos + K - d = (pos - d) + K by omega, List.take_add, List.drop_drop, show d + (pos - d) = pos by omega, hd]
  rw [e1, e2]
  simp
theorem EI.hit {m : List UInt8} {pos d : Nat} {bl r : List UInt8} {c : UInt8} (h : EI m pos d bl) (hd : m.drop pos = c :: r) (hc : eoL (c.toNat : Int) ≠ []) : EI m (pos + 1) (pos + 1) (bl ++ ((m.drop d).take (pos - d) ++ eoL (c.toNat : Int))) := by
  have hml : m.length = pos + (c :: r).length := by
    have := congrArg List.length hd
    have := h.pl
    simp only [List.length_drop] at *
    omega
  have hdp := h.dp
  have hbd := h.bd
  have h6 := eo_len (c.toNat : Int)
  refine ⟨Nat.le_refl _, by simp at hml; omega, ?_, ?_⟩
  · simp only [List.length_append, List.length_take, List.length_drop]
    omega
  · have e1 : m.drop (pos + 1) = r := by rw [← List.drop_drop, hd]; rfl
    have e2 : escX (c :: r) = eoL (c.toNat : Int) ++ escX r := by
      have : escX (c :: r) = escB c ++ escX r := by simp [escX]
      rw [this, escB, if_neg hc]
    rw [h.eq, hd, e2, e1]
    simp
theorem EI.stop {m : List UInt8} {d : Nat} {bl : List UInt8} (h : EI m m.length d bl) : escX m = bl ++ m.drop d := by
  rw [h.eq, List.drop_length, List.take_of_length_le (by simp)]
  simp [escX]

theorem letter_any (c : Int) (w : World) (_h0 : 0 ≤ c) (_h1 : c ≤ 255) :
    Calls Tryz.prog 48 #[.int .u8 c] w fun e w' => e = .returned (.bool (letZ c)) ∧ w = w' := by
  go_enter Tryz.func48, Tryz.ntmps48
  go_wp2
  all_goals
    go_ret
    exact ⟨ret_bool (by rw [Bool.eq_iff_iff]; simp [letZ]; try omega), rfl⟩
set_option maxHeartbeats 400000 in
theorem inner_any (c : Int) (w : World) (h0 : 0 ≤ c) (h1 : c ≤ 255) :
    Calls Tryz.prog 47 #[.int .u8 c] w fun e w' => e = .returned (.bool (innZ c)) ∧ w = w' := by
  have HL := (show Hid (∀ W, Calls Tryz.prog 48 #[.int .u8 c] W fun e w' => e = .returned (.bool (letZ c)) ∧ W = w') from fun W => letter_any c W h0 h1)
  have HI : Hid (innZ c = (letZ c || goZ c)) := rfl
  generalize letZ c = b at *
  cases b
  · go_enter Tryz.func47, Tryz.ntmps47
    go_wp2_with (go_at_call 48; refine (HL.out _).mono ?_; rintro e w' ⟨rfl, rfl⟩)
    all_goals
      go_ret
      exact ⟨ret_bool (by first | (rw [HI.out, Bool.eq_iff_iff]; simp [goZ]; done) | (rw [HI.out, Bool.eq_iff_iff]; simp [goZ]; omega) | decide), rfl⟩
  · go_enter Tryz.func47, Tryz.ntmps47
    go_wp2_with (go_at_call 48; refine (HL.out _).mono ?_; rintro e w' ⟨rfl, rfl⟩)
    all_goals
      go_ret
      exact ⟨ret_bool (by rw [HI.out]; rfl), rfl⟩
theorem name_code (l : List UInt8) (w : World) (hs : l.length ≤ maxLen) :
    Calls Tryz.prog 22 #[.string ⟨l.toArray⟩] w fun e w' => e = .returned (.bool (nameB l)) ∧ Below w.heap.size w w' := by
  have HT : Hid (Calls Tryz.prog 46 #[.string ⟨l.toArray⟩] w fun e w' => e = .returned (.int .i64 ((nmL l).length : Nat)) ∧ Below w.heap.size w w') := nameSize_any ⟨l.toArray⟩ w (by rw [mk_size]; exact hs)
  have hsz : (⟨l.toArray⟩ : ByteArray).size = l.length := mk_size l
  have htl : (⟨l.toArray⟩ : ByteArray).toList = l := by rw [Lib.toList_data]
  obtain ⟨s, hS⟩ : ∃ s : ByteArray, s = ⟨l.toArray⟩ := ⟨_, rfl⟩
  rw [← hS] at HT hsz htl
  rw [← hS]
  clear hS
  cases l with
  | nil =>
    have hse : s.toList.isEmpty = true := by rw [htl]; rfl
    clear htl
    go_enter Tryz.func22, Tryz.ntmps22
    go_wp2_with fail
    go_ret
    exact ⟨rfl, Below.refl _ _⟩
  | cons c r =>
    have hse : s.toList.isEmpty = false := by rw [htl]; rfl
    have HN : Hid (nameB (c :: r) = decide ((nmL (c :: r)).length = (c :: r).length)) := rfl
    generalize nmL (c :: r) = q at *
    generalize nameB (c :: r) = b at *
    generalize (c :: r).length = n at *
    clear htl
    go_enter Tryz.func22, Tryz.ntmps22
    go_wp2_with fail
    refine HT.out.mono ?_
    rintro e w1 ⟨rfl, hb⟩
    go_wp2
    go_ret
    refine ⟨ret_bool ?_, hb⟩
    rw [HN.out, Bool.eq_iff_iff]
    simp
    omega
set_option maxHeartbeats 800000 in
theorem name_ref (l : List UInt8) (w : World) (hs : l.length ≤ maxLen) :
    Calls Tryz.prog 23 #[.string ⟨l.toArray⟩] w fun e w' => e = .returned (.bool (nameB l)) ∧ w = w' := by
  unfold maxLen at hs
  have hsz : (⟨l.toArray⟩ : ByteArray).size = l.length := mk_size l
  have hdl : (⟨l.toArray⟩ : ByteArray).data.toList = l := rfl
  obtain ⟨s, hS⟩ : ∃ s : ByteArray, s = ⟨l.toArray⟩ := ⟨_, rfl⟩
  rw [← hS] at hsz hdl
  rw [← hS]
  have HI := (show Hid (∀ (c : UInt8) W, Calls Tryz.prog 47 #[.int .u8 (c.toNat : Int)] W fun e w' => e = .returned (.bool (innB c)) ∧ W = w') from fun c W => inner_any _ W (by omega) (by have := c.toNat_lt; omega))
  have HL := (show Hid (∀ (c : UInt8) W, Calls Tryz.prog 48 #[.int .u8 (c.toNat : Int)] W fun e w' => e = .returned (.bool (letB c)) ∧ W = w') from fun c W => letter_any _ W (by omega) (by have := c.toNat_lt; omega))
  have HS : Hid (s.data.toList = l ∧ s.size = l.length) := ⟨hdl, hsz⟩
  have hss : s.size ≤ 9223372036854775807 := by omega
  clear hS hdl hsz hs
  go_enter Tryz.func23, Tryz.ntmps23
  go_wp2_with fail
  go_loop [3] (fun i => ∃ k : Nat, k ≤ s.size ∧ i = .int .i64 k ∧ (l.take k).all innB = true) (fun i => s.size - (intOf i).toNat)
  case atStart => exact ⟨0, Nat.zero_le _, rfl, rfl⟩
  case round =>
    obtain ⟨k, hk, rfl, hf⟩ := hrel
    have HF : Hid ((l.take k).all innB = true) := hf
    clear hf
    by_cases hlt : k < s.size
    · have hkl : k < l.length := by rw [← HS.out.2]; exact hlt
      have hsk : s[k] = l[k] := by
        have := HS.out.1
        have e : s[k] = s.data.toList[k]'(by rw [this]; exact hkl) := rfl
        rw [e]
        simp only [this]
      have K := HI.out s[k]
      have HK : Hid (l.take (k + 1) = l.take k ++ [s[k]]) := by
        show _ = _
        rw [hsk]
        exact List.take_succ_eq_append_getElem hkl
      cases hi : innB s[k]
      · have HN : Hid (nameB l = false) := by
          show _ = _
          have hm : ¬ l.all innB = true := by
            intro h
            rw [List.all_eq_true] at h
            have := h l[k] (List.getElem_mem hkl)
            rw [← hsk, hi] at this
            cases this
          cases l with
          | nil => simp at hkl
          | cons c r =>
            rw [nameB_eq]
            simp [hm]
        rw [hi] at K
        clear hi hsk
        go_wp2_with (go_at_call 47; refine (K _).mono ?_; rintro e w' ⟨rfl, rfl⟩)
        go_ret
        exact ⟨ret_bool HN.out.symm, rfl⟩
      · have HN : Hid ((l.take (k + 1)).all innB = true) := by
          show _ = _
          rw [HK.out, List.all_append, HF.out]
          simp [hi]
        rw [hi] at K
        clear hi hsk
        go_wp2_with (go_at_call 47; refine (K _).mono ?_; rintro e w' ⟨rfl, rfl⟩)
        go_round
        case rel => exact ⟨k + 1, by omega, by go_num, HN.out⟩
        case measure => simp [intOf]; omega
    · have hall : l.all innB = true := by
        have := HF.out
        rw [List.take_of_length_le (by rw [← HS.out.2]; omega)] at this
        exact this
      cases l with
      | nil =>
        have h0 : ¬ (0 : Int) < (s.size : Int) := by rw [HS.out.2]; simp
        clear hall
        go_wp2_with fail
        go_ret
        exact ⟨rfl, rfl⟩
      | cons c r =>
        have h0 : (0 : Int) < (s.size : Int) := by rw [HS.out.2]; simp
        have h0n : 0 < s.size := by omega
        have hs0 : s[0] = c := by
          have := HS.out.1
          have e : s[0] = s.data.toList[0]'(by rw [this]; simp) := rfl
          rw [e]
          simp only [this]
          rfl
        have HN : Hid (nameB (c :: r) = letB c) := by
          show _ = _
          rw [nameB_eq, hall, Bool.and_true]
        have K := HL.out s[0]
        rw [hs0] at K
        have hi0 : ((s[0]'h0n).toNat : Int) = (c.toNat : Int) := by rw [hs0]
        clear hall hs0
        go_wp2_with (go_at_call 48; refine (K _).mono ?_; rintro e w' ⟨rfl, rfl⟩)
        go_ret
        exact ⟨ret_bool HN.out.symm, rfl⟩
set_option maxHeartbeats 800000 in
theorem escapeOf_any (R : Int) (w : World) : Calls Tryz.prog 49 #[.int .i32 R] w fun e w' => e = .returned (.string ⟨(eoL R).toArray⟩) ∧ w = w' := by
  have HE : Hid (eoL R = if R = 38 then [38, 97, 109, 112, 59] else if R = 60 then [38, 108, 116, 59] else if R = 62 then [38, 103, 116, 59] else if R = 34 then [38, 113, 117, 111, 116, 59] else if R = 13 then [38, 35, 49, 51, 59] else []) := rfl
  go_enter Tryz.func49, Tryz.ntmps49
  go_wp2
  all_goals
    go_ret
    exact ⟨ret_str (by first | rfl | (rw [HE.out]; simp_all)), rfl⟩
end Go.Proofs.YtohkocknpmnakaaGreatDoor

/-
  strings.ContainsAny of "<&", at any bytes.
-/
import Derived.Test.YtohkocknpmnakaaGreatDoorRdB
import Derived.Laws.Runes
import Derived.Deep.QuietTactic
import Derived.BigQuiet
import Derived.WalkMore
namespace Go.Proofs.YtohkocknpmnakaaGreatDoor
open Go.RowKit

def ltaB (c : UInt8) : Bool := c == 60 || c == 38
theorem lta_toNat (c : UInt8) : decide ((0 : Int) ≤ Lib.indexByte [60, 38] ((c.toNat : Int)).toNat.toUInt8) = ltaB c := by
  have e : ((c.toNat : Int)).toNat.toUInt8 = c := by simp
  rw [e]
  unfold ltaB Lib.indexByte Lib.indexByte Lib.indexByte
  rw [show ((60 : UInt8) == c) = (c == 60) from Bool.beq_comm, show ((38 : UInt8) == c) = (c == 38) from Bool.beq_comm]
  cases (c == 60) <;> cases (c == 38) <;> rfl
set_option maxRecDepth 20000 in
set_option maxHeartbeats 800000 in
theorem indexRune_small (R : Int) (w : World) (h0 : 0 ≤ R) (h1 : R < 128) :
    Calls Tryz.prog 113 #[.string ⟨#[60, 38]⟩, .int .i32 R] w fun e w' => e = .returned (.int .i64 (Lib.indexByte [60, 38] R.toNat.toUInt8)) ∧ w = w' := by
  have hw : IntKind.u8.wrap R = R := by
    simp [IntKind.wrap, IntKind.bits, IntKind.signed]
    omega
  go_enter Tryz.func113, Tryz.ntmps113
  go_wp2_with (go_at_call 80; refine (strings_IndexByte _ _ _).mono ?_; rintro e w' ⟨rfl, rfl⟩)
  go_ret
  exact ⟨rfl, rfl⟩
set_option maxRecDepth 20000 in
set_option maxHeartbeats 1600000 in
theorem indexRune_fffd (w : World) :
    Calls Tryz.prog 113 #[.string ⟨#[60, 38]⟩, .int .i32 65533] w fun e w' => e = .returned (.int .i64 (-1)) ∧ Below w.heap.size w w' := by
  obtain ⟨s, hs⟩ : ∃ s : ByteArray, s = ⟨#[60, 38]⟩ := ⟨_, rfl⟩
  have hsz : s.size = 2 := by rw [hs]; rfl
  have HD : Hid (∀ pos, pos < 2 → ∃ R : Nat, Utf8.decode s pos = (R, 1) ∧ R < 128) := by
    intro pos hp
    rw [decode_drop, hs]
    match pos, hp with
    | 0, _ => exact ⟨60, by rfl, by omega⟩
    | 1, _ => exact ⟨38, by rfl, by omega⟩
  rw [← hs]
  clear hs
  go_enter Tryz.func113, Tryz.ntmps113
  go_wp2
  go_loopg [] s.size (fun gf wx => ∃ pos : Nat, pos ≤ s.size ∧ s.size ≤ pos + gf ∧ wx.heap[w.heap.size]? = some (.stringIter s pos) ∧ Below w.heap.size w wx)
  case atStart => exact ⟨0, Nat.zero_le _, by omega, World.iter_heap w s 0, (Below.refl _ _).alloc (Nat.le_refl _) _⟩
  case round =>
    obtain ⟨pos, hps, hfu, hit, hbw⟩ := hrel
    by_cases hlt : pos < s.size
    · obtain ⟨g', rfl⟩ : ∃ g', gk = g' + 1 := ⟨gk - 1, by omega⟩
      have hnx : ∀ ty, (Instr.next (.pointer (some ⟨w.heap.size, 0, none⟩)) true ty).run Tryz.prog wr = _ := fun ty => Lib.run_next_any_at wr w.heap.size s pos ty hit hlt
      obtain ⟨R, hR, hR1⟩ := HD.out pos (by omega)
      rw [hR] at hnx
      have hi2 := Lib.iterAt_heap wr w.heap.size s pos (pos + 1) hit
      have hb2 := Lib.below_iterAt hbw (k := w.heap.size) (Nat.le_refl _) s (pos + 1)
      have hne : ((R : Int) == 65533) = false := by rw [beq_eq_false_iff_ne]; omega
      clear hR hit
      go_wp2
      go_roundg g'
      case measure => omega
      case rel => exact ⟨pos + 1, by omega, by omega, hi2, hb2⟩
    · have hnx : ∀ ty, (Instr.next (.pointer (some ⟨w.heap.size, 0, none⟩)) true ty).run Tryz.prog wr = _ := fun ty => Lib.run_next_end_at wr w.heap.size s pos ty hit hlt
      go_wp2
      go_ret
      exact ⟨rfl, hbw⟩
set_option maxRecDepth 20000 in
set_option maxHeartbeats 3200000 in
theorem indexRune_big (R : Int) (w : World) (h0 : 128 ≤ R) (h1 : R ≤ 1114111) (hv : Utf8.valid R = true) :
    Calls Tryz.prog 113 #[.string ⟨#[60, 38]⟩, .int .i32 R] w fun e w' => e = .returned (.int .i64 (-1)) ∧ Below w.heap.size w w' := by
  by_cases hf : R = 65533
  · subst hf
    exact indexRune_fffd w
  · have hf' : (R == 65533) = false := by simp [hf]
    have HV : Hid (Calls Tryz.prog 108 #[.int .i32 R] w fun e w' => e = .returned (.bool true) ∧ w' = w) := by
      have := utf8_ValidRune R w
      have e : Lib.validRune R = true := by
        have := validRune_eq R
        rw [hv] at this
        simpa [Go.validRune, Lib.validRune] using this.symm
      rw [e] at this
      exact this
    obtain ⟨e1, e2, e3⟩ := encode_facts R hv h0
    obtain ⟨c, hc⟩ : ∃ c, Utf8.encode R = c := ⟨_, rfl⟩
    have hcv : (convert 21 9 (.int .i32 R)).run Tryz.prog w = .ok (.string c) w := by
      rw [← hc]
      exact run_convert_int_string w 21 9 .i32 R (by rw [Tryz.underlying21]; rfl) Tryz.underlying9
    rw [hc] at e1 e2 e3
    have e3' := e3 (by omega)
    clear e3 hc hv hf
    have hsub : IntKind.i64.wrap ((c.size : Int) - 1) = ((c.size - 1 : Nat) : Int) := by
      rw [show ((c.size : Int) - 1) = ((c.size - 1 : Nat) : Int) by omega]
      exact wrap_small _ (by omega) (by omega)
    go_enter Tryz.func113, Tryz.ntmps113
    go_wp2_with (go_at_call 108; refine HV.out.mono ?_; rintro e w' ⟨rfl, rfl⟩)
    go_step3
    go_wp2
    go_loop [9, 10] (fun i f => i = .int .i64 ((c.size - 1 : Nat) : Int) ∧ f = .int .i64 0) (fun _ _ => 0)
    case atStart => exact ⟨rfl, rfl⟩
    case round =>
      obtain ⟨rfl, rfl⟩ := hrel
      by_cases h2 : c.size = 2
      · have h21 : c.size - 1 = 1 := by omega
        have h1c : 1 < c.size := by omega
        have hcb : 128 ≤ (c[1]'h1c).toNat := by
          have := e3'
          simp only [h21] at this
          exact this
        have h38 : (((⟨#[60, 38]⟩ : ByteArray)[1]'(by decide)).toNat : Int) = 38 := rfl
        have hne : ((((⟨#[60, 38]⟩ : ByteArray)[1]'(by decide)).toNat : Int) != ((c[1]'h1c).toNat : Int)) = true := by
          rw [bne_iff_ne, h38]
          omega
        clear h38
        simp only [h21]
        clear e3' hcb
        go_wp2_with fail
        go_step3
        go_wp2_with fail
        go_quiet (fail)
        generalize hw2 : World.drewN _ _ = w2
        have hB2 : Below w'.heap.size w' w2 := by rw [← hw2]; exact below_drewN (Below.refl _ _) _
        clear hw2
        go_wp2_with fail
        go_quiet ((go_at_call 80; exact Calls.quiet_of_same (strings_IndexByte _ _ _)))
        go_wp2
        rw [Exit.noGoto_ret]
        go_wp2
        rw [Exit.noGoto_ret]
        go_wp2
        go_ret
        exact ⟨rfl, below_drewN hB2 _⟩
      · have hnl : ¬ ((c.size - 1 : Nat) : Int) < 2 := by omega
        go_wp2
        go_ret
        exact ⟨rfl, Below.refl _ _⟩

theorem dec_high (l : List UInt8) (h : 128 ≤ at0 l 0) : ∀ j, j < (decL l).2 → 128 ≤ at0 l j := by
  have key : ∀ (n b0 b1 b2 b3 : Nat), 128 ≤ b0 → (1 < (Lib.decodeN n b0 b1 b2 b3).2 → 128 ≤ b1) ∧ (2 < (Lib.decodeN n b0 b1 b2 b3).2 → 128 ≤ b2) ∧ (3 < (Lib.decodeN n b0 b1 b2 b3).2 → 128 ≤ b3) ∧ (Lib.decodeN n b0 b1 b2 b3).2 ≤ 4 := by
    intro n b0 b1 b2 b3 hb
    unfold Lib.decodeN
    (repeat' split) <;> simp <;> omega
  intro j hj
  obtain ⟨k1, k2, k3, k4⟩ := key l.length (at0 l 0) (at0 l 1) (at0 l 2) (at0 l 3) h
  unfold decL at hj
  match j, hj with
  | 0, _ => exact h
  | 1, hj => exact k1 hj
  | 2, hj => exact k2 hj
  | 3, hj => exact k3 hj
  | j + 4, hj => omega
theorem dec_take (c : UInt8) (r : List UInt8) (h : 128 ≤ c.toNat) : ∀ x ∈ (c :: r).take (decL (c :: r)).2, 128 ≤ x.toNat := by
  intro x hx
  obtain ⟨j, hj, rfl⟩ := List.getElem_of_mem hx
  have hl : j < (decL (c :: r)).2 := by simp at hj; omega
  have hl2 : j < (c :: r).length := by simp at hj ⊢; omega
  have := dec_high (c :: r) h j hl
  unfold at0 at this
  rw [List.getD_eq_getElem?_getD, List.getElem?_eq_getElem hl2] at this
  simpa using this
theorem dec_valid (l : List UInt8) : Utf8.valid ((decL l).1 : Int) = true := by
  rw [validRune_eq]
  have := dec_rune l.length (at0 l 0) (at0 l 1) (at0 l 2) (at0 l 3)
  unfold Go.validRune decL
  rw [decide_eq_true_eq]
  omega
theorem any_take (p : UInt8 → Bool) (l : List UInt8) (k : Nat) (h : ∀ x ∈ l.take k, p x = false) : l.any p = (l.drop k).any p := by
  conv => lhs; rw [← List.take_append_drop k l]
  rw [List.any_append]
  have : (l.take k).any p = false := by
    rw [List.any_eq_false]
    intro x hx
    simp [h x hx]
  rw [this, Bool.false_or]
theorem indexAny_any (l : List UInt8) : decide ((0 : Int) ≤ Lib.indexAny l [60, 38]) = l.any ltaB := by
  induction l with
  | nil => rfl
  | cons c r ih =>
    have hge := Lib.indexAny_ge [60, 38] r
    unfold Lib.indexAny
    have hc : ([60, 38] : List UInt8).contains c = ltaB c := by
      unfold ltaB
      simp only [List.contains_cons, List.contains_nil, Bool.or_false]
    rw [hc, List.any_cons, ← ih]
    cases ltaB c
    · simp only [Bool.false_eq_true, if_false, Bool.false_or]
      by_cases hm : Lib.indexAny r [60, 38] = -1
      · rw [hm]; rfl
      · have : (Lib.indexAny r [60, 38] == -1) = false := by simp [hm]
        rw [this, Bool.eq_iff_iff]
        simp
        omega
    · simp
set_option maxRecDepth 20000 in
set_option maxHeartbeats 3200000 in
theorem indexAny_short (s : ByteArray) (w : World) (hs : s.size ≤ 8) :
    Calls Tryz.prog 114 #[.string s, .string ⟨#[60, 38]⟩] w fun e w' => (∃ i : Int, e = .returned (.int .i64 i) ∧ decide (0 ≤ i) = s.data.toList.any ltaB) ∧ Below w.heap.size w w' := by
  have hsl : ∀ W, Calls Tryz.prog 119 #[.int .i64 (s.size : Int)] W fun e w' => e = .returned (.bool false) ∧ W = w' := by
    intro W
    have h8 : ¬ (8 : Int) < (s.size : Int) := by omega
    go_enter Tryz.func119, Tryz.ntmps119
    go_wp2
    go_ret
    exact ⟨by simp, rfl⟩
  have HSL : Hid (∀ W, Calls Tryz.prog 119 #[.int .i64 (s.size : Int)] W fun e w' => e = .returned (.bool false) ∧ W = w') := hsl
  clear hsl
  go_enter Tryz.func114, Tryz.ntmps114
  go_wp2_with (go_at_call 119; refine (HSL.out _).mono ?_; rintro e w' ⟨rfl, rfl⟩)
  go_loopg [] s.size (fun gf wx => ∃ pos : Nat, pos ≤ s.size ∧ s.size ≤ pos + gf ∧ wx.heap[w.heap.size]? = some (.stringIter s pos) ∧ Below w.heap.size w wx ∧ s.data.toList.any ltaB = (s.data.toList.drop pos).any ltaB)
  case atStart => exact ⟨0, Nat.zero_le _, by omega, World.iter_heap w s 0, (Below.refl _ _).alloc (Nat.le_refl _) _, by simp⟩
  case round =>
    obtain ⟨pos, hps, hfu, hit, hbw, hc⟩ := hrel
    by_cases hlt : pos < s.size
    · obtain ⟨g', rfl⟩ : ∃ g', gk = g' + 1 := ⟨gk - 1, by omega⟩
      have hnx : ∀ ty, (Instr.next (.pointer (some ⟨w.heap.size, 0, none⟩)) true ty).run Tryz.prog wr = _ := fun ty => Lib.run_next_any_at wr w.heap.size s pos ty hit hlt
      rw [decode_drop] at hnx
      obtain ⟨c, r, hd⟩ : ∃ c r, s.data.toList.drop pos = c :: r := by
        cases h : s.data.toList.drop pos with
        | nil =>
          have : (s.data.toList.drop pos).length = 0 := by rw [h]; rfl
          simp at this
          omega
        | cons c r => exact ⟨c, r, rfl⟩
      rw [hd] at hnx hc
      have hlen : (c :: r).length = s.size - pos := by rw [← hd]; simp
      have hdd : ∀ x, s.data.toList.drop (pos + x) = (c :: r).drop x := fun x => by rw [← hd, List.drop_drop]
      clear hd
      have hwd := dec_width (c :: r).length (at0 (c :: r) 0) (at0 (c :: r) 1) (at0 (c :: r) 2) (at0 (c :: r) 3) (by simp)
      have hit2 := Lib.iterAt_heap wr w.heap.size s pos (pos + (decL (c :: r)).2) hit
      have hbw2 := Lib.below_iterAt hbw (k := w.heap.size) (Nat.le_refl _) s (pos + (decL (c :: r)).2)
      by_cases ha : c.toNat < 128
      · have hIR := (show Hid (∀ W, Calls Tryz.prog 113 #[.string ⟨#[60, 38]⟩, .int .i32 (c.toNat : Int)] W fun e w' => e = .returned (.int .i64 (Lib.indexByte [60, 38] ((c.toNat : Int)).toNat.toUInt8)) ∧ W = w') from fun W => indexRune_small _ W (by omega) (by omega))
        have hlt2 := lta_toNat c
        rw [dec_ascii c r ha] at hnx hit2 hbw2
        generalize Lib.indexByte [60, 38] ((c.toNat : Int)).toNat.toUInt8 = J at *
        simp only at hit2 hbw2
        cases hB : ltaB c
        · have HN : Hid (s.data.toList.any ltaB = (s.data.toList.drop (pos + 1)).any ltaB) := by
            show _ = _
            rw [hdd 1, hc, List.any_cons, hB]
            simp
          rw [hB] at hlt2
          have hJ : ¬ (0 : Int) ≤ J := by simpa using hlt2
          clear hlt2 hc hdd hB hwd hit
          go_wp2_with (go_at_call 113; refine (hIR.out _).mono ?_; rintro e w' ⟨rfl, rfl⟩)
          go_roundg g'
          case measure => omega
          case rel => exact ⟨pos + 1, by omega, by omega, hit2, hbw2, HN.out⟩
        · have HN : Hid (s.data.toList.any ltaB = true) := by
            show _ = _
            rw [hc, List.any_cons, hB]
            simp
          rw [hB] at hlt2
          have hJ : (0 : Int) ≤ J := by simpa using hlt2
          clear hlt2 hc hdd hB hwd hit
          go_wp2_with (go_at_call 113; refine (hIR.out _).mono ?_; rintro e w' ⟨rfl, rfl⟩)
          go_ret
          exact ⟨⟨_, rfl, by rw [HN.out]; simp⟩, hbw2⟩
      · have hv := dec_valid (c :: r)
        have hg := dec_great c r (by omega)
        have hrn : (decL (c :: r)).1 ≤ 1114111 := (dec_rune _ _ _ _ _).1
        have hIR := (show Hid (∀ W, Calls Tryz.prog 113 #[.string ⟨#[60, 38]⟩, .int .i32 ((decL (c :: r)).1 : Int)] W fun e w' => e = .returned (.int .i64 (-1)) ∧ Below W.heap.size W w') from fun W => indexRune_big _ W (by omega) (by omega) hv)
        have HN : Hid (s.data.toList.any ltaB = (s.data.toList.drop (pos + (decL (c :: r)).2)).any ltaB) := by
          show _ = _
          rw [hdd, hc]
          refine any_take ltaB (c :: r) _ (fun x hx => ?_)
          have := dec_take c r (by omega) x hx
          unfold ltaB
          rw [Bool.or_eq_false_iff]
          exact ⟨by rw [beq_eq_false_iff_ne]; rintro rfl; simp at this, by rw [beq_eq_false_iff_ne]; rintro rfl; simp at this⟩
        have hK1 : 1 ≤ (decL (c :: r)).2 ∧ (decL (c :: r)).2 ≤ s.size - pos := ⟨hwd.1, by rw [← hlen]; exact hwd.2.1⟩
        clear hc hdd hwd hv hg hrn hit
        generalize (decL (c :: r)).1 = R at *
        generalize (decL (c :: r)).2 = K at *
        go_wp2_with fail
        refine (hIR.out _).mono ?_
        rintro e w2 ⟨rfl, hb3⟩
        have hw := blk_lt hit2
        have hi3 := (hb3.block w.heap.size hw).trans hit2
        have hb4 : Below w.heap.size w w2 := hbw2.trans (hb3.mono (by have := hbw2.size; omega))
        clear hb3
        go_wp2
        go_roundg g'
        case measure => omega
        case rel => exact ⟨pos + K, by omega, by omega, hi3, hb4, HN.out⟩
    · have hnx : ∀ ty, (Instr.next (.pointer (some ⟨w.heap.size, 0, none⟩)) true ty).run Tryz.prog wr = _ := fun ty => Lib.run_next_end_at wr w.heap.size s pos ty hit hlt
      have HZ : Hid (s.data.toList.any ltaB = false) := by
        show _ = _
        rw [hc, List.drop_eq_nil_of_le (by simp; have : s.size = s.data.size := rfl; omega)]
        rfl
      clear hc
      go_wp2
      go_ret
      exact ⟨⟨_, rfl, by rw [HZ.out]; rfl⟩, hbw⟩
set_option maxRecDepth 20000 in
set_option maxHeartbeats 800000 in
theorem containsAny_any (s : ByteArray) (w : World) (hs : s.size ≤ 65536) :
    Calls Tryz.prog 101 #[.string s, .string ⟨#[60, 38]⟩] w fun e w' => e = .returned (.bool (s.data.toList.any ltaB)) ∧ Below w.heap.size w w' := by
  have H : Hid (Calls Tryz.prog 114 #[.string s, .string ⟨#[60, 38]⟩] w fun e w' => (∃ i : Int, e = .returned (.int .i64 i) ∧ decide (0 ≤ i) = s.data.toList.any ltaB) ∧ Below w.heap.size w w') := by
    by_cases h8 : s.size ≤ 8
    · exact indexAny_short s w h8
    · refine (strings_IndexAny_long (zero_of_info (n := 256) (by kernel_rfl)).1 s ⟨#[60, 38]⟩ w (by decide) (by omega) (by omega) (by decide) (ascii_of_all (by decide))).mono ?_
      rintro e w' ⟨rfl, rfl⟩
      exact ⟨⟨_, rfl, indexAny_any _⟩, ((Below.refl _ _).alloc (Nat.le_refl _) _).alloc (by simp) _⟩
  go_enter Tryz.func101, Tryz.ntmps101
  go_wp2_with fail
  refine H.out.mono ?_
  rintro e w' ⟨⟨i, rfl, hi⟩, hb⟩
  have HI : Hid (decide (0 ≤ i) = s.data.toList.any ltaB) := hi
  clear hi
  go_wp2
  go_ret
  exact ⟨ret_bool HI.out, hb⟩
end Go.Proofs.YtohkocknpmnakaaGreatDoor

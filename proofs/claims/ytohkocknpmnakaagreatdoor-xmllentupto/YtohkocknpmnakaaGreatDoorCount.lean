/-
  chars.isStray, Count, Valid, everyCharacter, Legal by their contracts.
-/
import Derived.Test.YtohkocknpmnakaaGreatDoorLeaf
import Derived.Test.YtohkocknpmnakaaGreatDoorDec
import Derived.Test.YtohkocknpmnakaaGreatDoorShelf
import Derived.Lib.OthersKept
import Derived.Deep.LoopGhost
import Derived.Deep.DeepMust
namespace Go.Proofs.YtohkocknpmnakaaGreatDoor
open Go.RowKit

def badL (l : List UInt8) : Bool := decide ((stepL l).2 = 0)
def T (_ : Nat) : Bool := true
theorem hasPrefix_fffd (l : List UInt8) : Lib.hasPrefix l [239, 191, 189] = decide (3 ≤ l.length ∧ at0 l 0 = 239 ∧ at0 l 1 = 191 ∧ at0 l 2 = 189) := by
  have k : ∀ (a : UInt8) (b : Nat), b < 256 → ((UInt8.ofNat b == a) = decide (a.toNat = b)) := fun a b hb => by
    rw [Bool.eq_iff_iff]
    simp only [beq_iff_eq, decide_eq_true_eq]
    constructor
    · rintro rfl
      rw [UInt8.toNat_ofNat', Nat.mod_eq_of_lt hb]
    · intro h
      rw [← h, UInt8.ofNat_toNat]
  match l with
  | [] => rfl
  | [a] => simp [Lib.hasPrefix, List.isPrefixOf]
  | [a, b] => simp [Lib.hasPrefix, List.isPrefixOf]
  | a :: b :: c :: r =>
    have k0 := k a 239 (by decide)
    have k1 := k b 191 (by decide)
    have k2 := k c 189 (by decide)
    show ((239 : UInt8) == a && ((191 : UInt8) == b && ((189 : UInt8) == c && true))) = _
    rw [show (239 : UInt8) = UInt8.ofNat 239 from rfl, show (191 : UInt8) = UInt8.ofNat 191 from rfl, show (189 : UInt8) = UInt8.ofNat 189 from rfl, k0, k1, k2, Bool.eq_iff_iff]
    simp [at0]
theorem stray_eq (l : List UInt8) (hl : l ≠ []) : (decide (((decL l).1 : Int) = 65533) && !Lib.hasPrefix l [239, 191, 189]) = badL l := by
  have hw := dec_width l.length (at0 l 0) (at0 l 1) (at0 l 2) (at0 l 3) (List.length_pos_iff.2 hl)
  rw [hasPrefix_fffd, badL, stepL, Bool.eq_iff_iff]
  by_cases hr : (decL l).1 = 65533
  · have hf := dec_fffd l.length (at0 l 0) (at0 l 1) (at0 l 2) (at0 l 3) hr
    rw [hr]
    by_cases h1 : (decL l).2 = 1
    · rw [if_pos ⟨rfl, h1⟩]
      simp only [Bool.and_eq_true, Bool.not_eq_true', decide_eq_true_eq, decide_eq_false_iff_not, hf.1 h1, not_false_eq_true, and_true]
      simp
    · rw [if_neg (by simp [h1])]
      have h3 : 3 ≤ l.length ∧ at0 l 0 = 239 ∧ at0 l 1 = 191 ∧ at0 l 2 = 189 := Classical.not_not.1 (fun h => h1 (hf.2 h))
      simp only [Bool.and_eq_true, Bool.not_eq_true', decide_eq_true_eq, decide_eq_false_iff_not, h3]
      have : ¬ (decL l).2 = 0 := by unfold decL; omega
      simp [this]
  · rw [if_neg (by simp [hr])]
    have : ¬ (decL l).2 = 0 := by unfold decL; omega
    have h' : ¬ (((decL l).1 : Int) = 65533) := by omega
    simp [h', this]

theorem isStray_any (t : ByteArray) (r : Int) (w : World) :
    Calls Tryz.prog 78 #[.string t, .int .i32 r] w fun e w' => e = .returned (.bool (decide (r = 65533) && !Lib.hasPrefix t.data.toList [239, 191, 189])) ∧ w = w' := by
  by_cases h : r = 65533
  · subst h
    go_enter Tryz.func78, Tryz.ntmps78
    go_wp2_with (go_at_call 87; refine (strings_HasPrefix _ _ _).mono ?_; rintro e w' ⟨rfl, rfl⟩)
    all_goals
      go_ret
      exact ⟨ret_bool (by simp), rfl⟩
  · have h' : (r == 65533) = false := by simp [h]
    go_enter Tryz.func78, Tryz.ntmps78
    go_wp2_with (go_at_call 87; refine (strings_HasPrefix _ _ _).mono ?_; rintro e w' ⟨rfl, rfl⟩)
    all_goals
      go_ret
      exact ⟨ret_bool (by simp [h]), rfl⟩
theorem extract_drop (s : ByteArray) (i : Nat) : (s.extract i s.size).data.toList = s.data.toList.drop i := by
  simp only [ByteArray.data_extract, Array.toList_extract, List.extract_eq_take_drop]
  exact List.take_of_length_le (by simp)
theorem isStray_at (s : ByteArray) (pos : Nat) (hlt : pos < s.size) (w : World) :
    Calls Tryz.prog 78 #[.string (s.extract pos s.size), .int .i32 ((decL (s.data.toList.drop pos)).1 : Int)] w fun e w' => e = .returned (.bool (badL (s.data.toList.drop pos))) ∧ w = w' := by
  refine (isStray_any (s.extract pos s.size) _ w).mono ?_
  rintro e w' ⟨rfl, rfl⟩
  refine ⟨ret_bool ?_, rfl⟩
  rw [extract_drop, stray_eq]
  intro h
  have : (s.data.toList.drop pos).length = 0 := by rw [h]; rfl
  simp at this
  omega
def cntN (l : List UInt8) : Nat := (cntP T l).getD 0
def cntOk (l : List UInt8) : Bool := (cntP T l).isSome

set_option maxHeartbeats 800000 in
theorem every_any (g : Nat) (p : Nat → Bool) (eg : ∀ args w, (callFunc g args).run Tryz.prog w = .ok (.enter g args) w) (hp : ∀ (R : Nat) (W : World), R ≤ 1114111 → Calls Tryz.prog g #[.int .i32 (R : Int)] W fun e w' => e = .returned (.bool (p R)) ∧ W = w') (s : ByteArray) (w : World) (_hs : s.size ≤ maxLen) :
    Calls Tryz.prog 50 #[.string s, .func (.func g) #[] #[]] w fun e w' => e = .returned (.bool (cntP p s.data.toList).isSome) ∧ Below w.heap.size w w' := by
  have hz := _hs
  unfold maxLen at hz
  go_enter Tryz.func50, Tryz.ntmps50
  go_wp2
  go_loopg [] s.size (fun gf wx => ∃ pos k : Nat, pos ≤ s.size ∧ k ≤ pos ∧ s.size ≤ pos + gf ∧ wx.heap[w.heap.size]? = some (.stringIter s pos) ∧ Below w.heap.size w wx ∧ cntP p s.data.toList = (cntP p (s.data.toList.drop pos)).map (· + k))
  case atStart => exact ⟨0, 0, Nat.zero_le _, Nat.le_refl _, by omega, World.iter_heap w s 0, (Below.refl _ _).alloc (Nat.le_refl _) _, by simp⟩
  case round =>
    obtain ⟨pos, k, hps, hk, hfu, hit, hbw, hc⟩ := hrel
    have HC : Hid (cntP p s.data.toList = (cntP p (s.data.toList.drop pos)).map (· + k)) := hc
    clear hc
    by_cases hlt : pos < s.size
    · obtain ⟨g', rfl⟩ : ∃ g', gk = g' + 1 := ⟨gk - 1, by omega⟩
      have hnx : ∀ ty, (Instr.next (.pointer (some ⟨w.heap.size, 0, none⟩)) true ty).run Tryz.prog wr = _ := fun ty => Lib.run_next_any_at wr w.heap.size s pos ty hit hlt
      have hne : s.data.toList.drop pos ≠ [] := by
        intro h
        have : (s.data.toList.drop pos).length = 0 := by rw [h]; rfl
        simp at this
        omega
      have hST := fun W => isStray_at s pos hlt W
      rw [decode_drop] at hnx
      have HST : Hid (∀ W, Calls Tryz.prog 78 #[.string (s.extract pos s.size), .int .i32 ((decL (s.data.toList.drop pos)).1 : Int)] W fun e w' => e = .returned (.bool (badL (s.data.toList.drop pos))) ∧ W = w') := hST
      clear hST
      have hwd := step_le _ hne
      have hit2 := Lib.iterAt_heap wr w.heap.size s pos (pos + (decL (s.data.toList.drop pos)).2) hit
      have hbw2 := Lib.below_iterAt hbw (k := w.heap.size) (Nat.le_refl _) s (pos + (decL (s.data.toList.drop pos)).2)
      have hlen : (s.data.toList.drop pos).length = s.size - pos := by simp
      obtain ⟨l, hl⟩ : ∃ l, l = s.data.toList.drop pos := ⟨_, rfl⟩
      have hdd : ∀ x, s.data.toList.drop (pos + x) = l.drop x := fun x => by rw [hl, List.drop_drop]
      have HDD : Hid (∀ x, s.data.toList.drop (pos + x) = l.drop x) := hdd
      have hC := HC.out
      rw [← hl] at hnx hne HST hwd hit2 hbw2 hlen hC
      clear hdd hl HC
      have HC : Hid (cntP p s.data.toList = (cntP p l).map (· + k)) := hC
      clear hC
      cases hb : badL l
      · have hg : (stepL l).2 ≠ 0 := by simpa [badL] using hb
        obtain ⟨he, hng⟩ := step_good hg
        obtain ⟨R, hR⟩ : ∃ R, (decL l).1 = R := ⟨_, rfl⟩
        have hRl : R ≤ 1114111 := by rw [← hR]; exact (dec_rune _ _ _ _ _).1
        have HP : Hid (∀ W, Calls Tryz.prog g #[.int .i32 (R : Int)] W fun e w' => e = .returned (.bool (p R)) ∧ W = w') := fun W => hp R W hRl
        clear hp
        cases hpr : p R
        · have hcz := cntP_out (p := p) hne (by rw [he, hR]; exact hpr)
          have HZ : Hid (cntP p s.data.toList = none) := by
            have := HC.out
            rw [hcz] at this
            exact this
          rw [hR] at hnx
          rw [hR, hb] at HST
          rw [hpr] at HP
          clear hcz HC hb he hng hg hR hwd
          go_wp2_with (first
            | (go_at_call 78; refine (HST.out _).mono ?_; rintro e w' ⟨rfl, rfl⟩)
            | (go_at_fn g; refine (HP.out _).mono ?_; rintro e w' ⟨rfl, rfl⟩))
          go_ret
          exact ⟨ret_bool (by rw [HZ.out]; rfl), hbw2⟩
        · have hstep := cntP_go (p := p) hne hg (by rw [he, hR]; exact hpr)
          rw [he] at hstep hg hwd
          obtain ⟨K, hK⟩ : ∃ K, (decL l).2 = K := ⟨_, rfl⟩
          rw [hR, hK] at hnx
          rw [hR, hb] at HST
          rw [hpr] at HP
          rw [hK] at hit2 hbw2 hwd hstep hg
          have HSP : Hid (cntP p l = (cntP p (l.drop K)).map (· + 1)) := hstep
          clear hstep he hng hb hR hK
          go_wp2_with (first
            | (go_at_call 78; refine (HST.out _).mono ?_; rintro e w' ⟨rfl, rfl⟩)
            | (go_at_fn g; refine (HP.out _).mono ?_; rintro e w' ⟨rfl, rfl⟩))
          go_roundg g'
          case measure => omega
          case rel =>
            refine ⟨pos + K, k + 1, by omega, by omega, by omega, hit2, hbw2, ?_⟩
            rw [HC.out, HSP.out, HDD.out, Option.map_map]
            congr 1
            funext x
            simp only [Function.comp]
            omega
      · have hz : (stepL l).2 = 0 := by simpa [badL] using hb
        have hcz := cntP_bad (p := p) hne hz
        have HZ : Hid (cntP p s.data.toList = none) := by
          have := HC.out
          rw [hcz] at this
          exact this
        rw [hb] at HST
        clear hcz hz HC hb
        go_wp2_with (go_at_call 78; refine (HST.out _).mono ?_; rintro e w' ⟨rfl, rfl⟩)
        go_ret
        exact ⟨ret_bool (by rw [HZ.out]; rfl), hbw2⟩
    · have hnx : ∀ ty, (Instr.next (.pointer (some ⟨w.heap.size, 0, none⟩)) true ty).run Tryz.prog wr = _ := fun ty => Lib.run_next_end_at wr w.heap.size s pos ty hit hlt
      have HZ : Hid (cntP p s.data.toList = some k) := by
        have := HC.out
        rw [List.drop_eq_nil_of_le (by simp; omega), cntP_nil] at this
        exact (by simpa using this : cntP p s.data.toList = some k)
      clear HC
      go_wp2
      go_ret
      exact ⟨ret_bool (by rw [HZ.out]; rfl), hbw⟩

def xmlP (n : Nat) : Bool := xmlB (n : Int)
def nzP (n : Nat) : Bool := nzB (n : Int)
theorem enter51 : ∀ args w, (callFunc 51 args).run Tryz.prog w = .ok (.enter 51 args) w := fun args w => Tryz.call51 args w
theorem legal_any (s : ByteArray) (w : World) (hs : s.size ≤ maxLen) :
    Calls Tryz.prog 26 #[.string s] w fun e w' => e = .returned (.bool (cntP xmlP s.data.toList).isSome) ∧ Below w.heap.size w w' := by
  go_enter Tryz.func26, Tryz.ntmps26
  go_wp2_with (go_at_call 50; refine (every_any 51 xmlP enter51 (fun R W h => isXML_any R W (by omega) (by omega)) s _ hs).mono ?_; rintro e w' ⟨rfl, hb⟩)
  go_ret
  exact ⟨rfl, hb⟩
def keyB (l : List UInt8) : Bool := decide (1 ≤ l.length ∧ l.length ≤ 1024) && (cntP nzP l).isSome
end Go.Proofs.YtohkocknpmnakaaGreatDoor

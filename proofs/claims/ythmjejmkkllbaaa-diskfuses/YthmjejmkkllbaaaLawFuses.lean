/-
  DiskFuses: the walk.
-/
import Derived.Test.YthmjejmkkllbaaaFuse
namespace Go.Proofs.Ythmjejmkkllbaaa
open Go.RowKit

theorem er_yes {fuse : Int} {k : Nat} (h : fuse < 0 ∨ (k : Int) < fuse) : er fuse k = 0 := by rw [er, if_pos h]
theorem er_no {fuse : Int} {k : Nat} (h : ¬ (fuse < 0 ∨ (k : Int) < fuse)) : er fuse k = 50 := by rw [er, if_neg h]

set_option maxHeartbeats 8000000 in
set_option maxRecDepth 20000 in
theorem fuses_walk (a : Option Addr) (l : List Bool) (cap : Nat) (fuse : Int) (w : World) (hb : Bools w a l) (hl : l.length ≤ 9223372036854775807) (hq : fuse ≤ 9223372036854775807) (hq0 : -9223372036854775808 ≤ fuse) :
    Calls Try.prog 3 #[.slice a l.length cap, .int .i64 fuse] w fun e w' => e = .returned (.bool true) ∧ Below w.heap.size w w' := by
  have hnew := inv_new w
  have HB : Hid (Bools w a l) := hb
  clear hb
  have hli : (l.length : Int) ≤ 9223372036854775807 := by omega
  go_enter Try.func3, Try.ntmps3
  go_wp2_with fail
  refine Calls.mono hnew ?_
  rintro e w1 ⟨d, rfl, hI1⟩
  clear hnew
  by_cases h60 : 60 < l.length
  · have h60i : 60 < (l.length : Int) := by omega
    have haw := awake_any w1
    have HI : Hid (Inv w w1 d (-1) 0) := hI1
    clear hI1 h60
    go_wp2_with (go_at_call 8; refine Calls.mono haw ?_; rintro e w2 ⟨rfl, hb2⟩)
    go_ret
    exact ⟨rfl, HI.out.old.trans (hb2.mono HI.out.old.size)⟩
  · have h60i : ¬ 60 < (l.length : Int) := by omega
    have hfu := inv_fuse hI1 hq
    clear hI1
    go_wp2_with (go_at_call 9; refine Calls.mono hfu ?_; rintro e w2 ⟨rfl, hI2⟩)
    clear hfu
    have HI2 : Hid (Inv w w2 d fuse 0) := hI2
    clear hI2
    go_loopw [7] (fun i wr => ∃ k : Nat, k ≤ l.length ∧ i = .int .i64 k ∧ Inv w wr d fuse k)
      (fun i _ => l.length - (intOf i).toNat)
    case atStart => exact ⟨0, Nat.zero_le _, rfl, HI2.out⟩
    case round =>
      obtain ⟨k, hk, rfl, hI⟩ := hrel
      clear HI2
      by_cases hlt : k < l.length
      · have hIo := hI.old
        have hki : (k : Int) < (l.length : Int) := by omega
        obtain ⟨b, off, rfl, hbl, hcs⟩ : ∃ b off, a = some ⟨b, off, none⟩ ∧ b < w.heap.size ∧ ∀ j (h : j < l.length), w.cell? ⟨b, off + j, none⟩ = some (.bool l[j]) := by
          rcases HB.out with h0 | h0
          · rw [h0] at hlt; simp at hlt
          · exact h0
        have hcell : wr.cell? ⟨b, off + k, none⟩ = some (.bool l[k]) := (hIo.cell (p := ⟨b, off + k, none⟩) hbl).trans (hcs k hlt)
        obtain ⟨v, hv⟩ : ∃ v, v = l[k] := ⟨_, rfl⟩
        rw [← hv] at hcell
        clear hcs hv HB hIo
        rcases (by omega : fuse < 0 ∨ (¬ fuse < 0 ∧ (k : Int) < fuse) ∨ (¬ fuse < 0 ∧ ¬ (k : Int) < fuse)) with hf | ⟨hf, hkf⟩ | ⟨hf, hkf⟩
        · have hE : er fuse k = 0 := er_yes (.inl hf)
          have hD : decide (0 ≤ fuse ∧ fuse < ((k + 1 : Nat) : Int)) = false := decide_eq_false (fun h => by omega)
          cases v with
          | true =>
            have hca := inv_flush hI (by omega)
            rw [hE] at hca
            clear hI
            go_wp2_with (go_at_call 10; refine Calls.mono hca ?_; rintro e w3 ⟨rfl, hI3⟩; have hde := inv_dead hI3; rw [hD] at hde; have HI3 : Hid (Inv w w3 d fuse (k + 1)) := hI3; clear hI3)
            go_wp2_with (go_at_call 13; refine Calls.mono hde ?_; rintro e w5 ⟨rfl, rfl⟩)
            go_roundw
            case rel => exact ⟨k + 1, by omega, by go_num, HI3.out⟩
            case measure => simp [intOf]; omega
          | false =>
            have hse := sector_any 1 (k : Int) wr
            have HI : Hid (Inv w wr d fuse k) := hI
            clear hI
            go_wp2_with fail
            refine Calls.mono hse ?_
            rintro e w3 ⟨rfl, ho3, hb3⟩
            clear hse
            have hca := inv_write (i := (k : Int) % 8) (cap := 256) HI.out (by omega) (by omega) (by omega) (sec_length 1 (k : Int)) hb3 (Nat.le_refl _) (own_bytes ho3)
            rw [hE] at hca
            clear ho3 hb3
            have ha7 := and7 (k : Int)
            go_wp2_with fail
            refine Calls.mono hca ?_
            rintro e w4 ⟨rfl, hI3⟩
            have hde := inv_dead hI3
            rw [hD] at hde
            have HI3 : Hid (Inv w w4 d fuse (k + 1)) := hI3
            clear hI3 hca
            go_wp2_with (go_at_call 13; refine Calls.mono hde ?_; rintro e w5 ⟨rfl, rfl⟩)
            go_roundw
            case rel => exact ⟨k + 1, by omega, by go_num, HI3.out⟩
            case measure => simp [intOf]; omega
        · have hE : er fuse k = 0 := er_yes (.inr hkf)
          have hD : decide (0 ≤ fuse ∧ fuse < ((k + 1 : Nat) : Int)) = false := decide_eq_false (fun h => by omega)
          cases v with
          | true =>
            have hca := inv_flush hI (by omega)
            rw [hE] at hca
            clear hI
            go_wp2_with (go_at_call 10; refine Calls.mono hca ?_; rintro e w3 ⟨rfl, hI3⟩; have hde := inv_dead hI3; rw [hD] at hde; have HI3 : Hid (Inv w w3 d fuse (k + 1)) := hI3; clear hI3)
            go_wp2_with (go_at_call 13; refine Calls.mono hde ?_; rintro e w5 ⟨rfl, rfl⟩)
            go_roundw
            case rel => exact ⟨k + 1, by omega, by go_num, HI3.out⟩
            case measure => simp [intOf]; omega
          | false =>
            have hse := sector_any 1 (k : Int) wr
            have HI : Hid (Inv w wr d fuse k) := hI
            clear hI
            go_wp2_with fail
            refine Calls.mono hse ?_
            rintro e w3 ⟨rfl, ho3, hb3⟩
            clear hse
            have hca := inv_write (i := (k : Int) % 8) (cap := 256) HI.out (by omega) (by omega) (by omega) (sec_length 1 (k : Int)) hb3 (Nat.le_refl _) (own_bytes ho3)
            rw [hE] at hca
            clear ho3 hb3
            have ha7 := and7 (k : Int)
            go_wp2_with fail
            refine Calls.mono hca ?_
            rintro e w4 ⟨rfl, hI3⟩
            have hde := inv_dead hI3
            rw [hD] at hde
            have HI3 : Hid (Inv w w4 d fuse (k + 1)) := hI3
            clear hI3 hca
            go_wp2_with (go_at_call 13; refine Calls.mono hde ?_; rintro e w5 ⟨rfl, rfl⟩)
            go_roundw
            case rel => exact ⟨k + 1, by omega, by go_num, HI3.out⟩
            case measure => simp [intOf]; omega
        · have hE : er fuse k = 50 := er_no (fun h => by omega)
          have hD : decide (0 ≤ fuse ∧ fuse < ((k + 1 : Nat) : Int)) = true := decide_eq_true ⟨by omega, by omega⟩
          cases v with
          | true =>
            have hca := inv_flush hI (by omega)
            rw [hE] at hca
            clear hI
            go_wp2_with (go_at_call 10; refine Calls.mono hca ?_; rintro e w3 ⟨rfl, hI3⟩; have hde := inv_dead hI3; rw [hD] at hde; have HI3 : Hid (Inv w w3 d fuse (k + 1)) := hI3; clear hI3)
            go_wp2_with (go_at_call 13; refine Calls.mono hde ?_; rintro e w5 ⟨rfl, rfl⟩)
            go_roundw
            case rel => exact ⟨k + 1, by omega, by go_num, HI3.out⟩
            case measure => simp [intOf]; omega
          | false =>
            have hse := sector_any 1 (k : Int) wr
            have HI : Hid (Inv w wr d fuse k) := hI
            clear hI
            go_wp2_with fail
            refine Calls.mono hse ?_
            rintro e w3 ⟨rfl, ho3, hb3⟩
            clear hse
            have hca := inv_write (i := (k : Int) % 8) (cap := 256) HI.out (by omega) (by omega) (by omega) (sec_length 1 (k : Int)) hb3 (Nat.le_refl _) (own_bytes ho3)
            rw [hE] at hca
            clear ho3 hb3
            have ha7 := and7 (k : Int)
            go_wp2_with fail
            refine Calls.mono hca ?_
            rintro e w4 ⟨rfl, hI3⟩
            have hde := inv_dead hI3
            rw [hD] at hde
            have HI3 : Hid (Inv w w4 d fuse (k + 1)) := hI3
            clear hI3 hca
            go_wp2_with (go_at_call 13; refine Calls.mono hde ?_; rintro e w5 ⟨rfl, rfl⟩)
            go_roundw
            case rel => exact ⟨k + 1, by omega, by go_num, HI3.out⟩
            case measure => simp [intOf]; omega
      · obtain rfl : k = l.length := by omega
        have hrd := inv_read hI
        by_cases hq2 : 0 ≤ fuse ∧ fuse < (l.length : Int)
        · have hD : decide (0 ≤ fuse ∧ fuse < (l.length : Int)) = true := decide_eq_true hq2
          rw [hD, if_pos rfl] at hrd
          clear hq2
          clear hI
          go_wp2_with fail
          refine Calls.mono hrd ?_
          rintro e w3 ⟨v3, rfl, hI3⟩
          clear hrd
          have hde := inv_dead hI3
          rw [hD] at hde
          have HI3 : Hid (Inv w w3 d fuse l.length) := hI3
          clear hI3 hD
          go_wp2_with (go_at_call 13; refine Calls.mono hde ?_; rintro e w5 ⟨rfl, rfl⟩)
          clear hde
          have hcr := inv_crash HI3.out (by omega)
          refine Calls.mono hcr ?_
          rintro e w4 ⟨rfl, hI4⟩
          clear hcr HI3
          have hrd4 := inv_read hI4
          rw [decide_eq_false (by omega : ¬ (0 ≤ (-1 : Int) ∧ (-1 : Int) < ((0 : Nat) : Int))), if_neg (by decide)] at hrd4
          clear hI4
          go_wp2_with fail
          refine Calls.mono hrd4 ?_
          rintro e w5 ⟨v5, rfl, hI5⟩
          clear hrd4
          have hse := sector_any 2 2 w5
          have HI5 : Hid (Inv w w5 d (-1) 0) := hI5
          clear hI5
          go_wp2_with fail
          refine Calls.mono hse ?_
          rintro e w6 ⟨rfl, ho6, hb6⟩
          clear hse
          have hwr := inv_write (i := 0) (cap := 256) HI5.out (by omega) (by omega) (by omega) (sec_length 2 2) hb6 (Nat.le_refl _) (own_bytes ho6)
          rw [er_yes (.inl (by omega))] at hwr
          clear ho6 hb6
          go_wp2_with fail
          refine Calls.mono hwr ?_
          rintro e w7 ⟨rfl, hI7⟩
          clear hwr HI5
          have hde := inv_dead hI7
          rw [decide_eq_false (by omega : ¬ (0 ≤ (-1 : Int) ∧ (-1 : Int) < ((0 + 1 : Nat) : Int)))] at hde
          have hfl := inv_flush hI7 (by omega)
          rw [er_yes (.inl (by omega))] at hfl
          have hIA : ∀ w8, Inv w w8 d (-1) (0 + 1 + 1) → Calls Try.prog 8 #[] w8 fun e w' => e = .returned (.bool true) ∧ Below w.heap.size w w' := fun w8 h8 => (awake_any w8).mono fun e w' ⟨q1, q2⟩ => ⟨q1, h8.old.trans (q2.mono h8.old.size)⟩
          have HIA := (show Hid _ from hIA)
          clear hI7 hIA
          go_wp2_with (first
            | (go_at_call 13; refine Calls.mono hde ?_; rintro e w8 ⟨rfl, rfl⟩)
            | (go_at_call 10; refine Calls.mono hfl ?_; rintro e w8 ⟨rfl, hI8⟩; have haw := HIA.out w8 hI8; clear hI8)
            | (go_at_call 8; refine Calls.mono haw ?_; rintro e w9 ⟨rfl, hb9⟩))
          go_ret
          exact ⟨rfl, hb9⟩
        · have hD : decide (0 ≤ fuse ∧ fuse < (l.length : Int)) = false := decide_eq_false hq2
          rw [hD, if_neg (by decide)] at hrd
          clear hq2
          clear hI
          go_wp2_with fail
          refine Calls.mono hrd ?_
          rintro e w3 ⟨v3, rfl, hI3⟩
          clear hrd
          have hde := inv_dead hI3
          rw [hD] at hde
          have HI3 : Hid (Inv w w3 d fuse l.length) := hI3
          clear hI3 hD
          go_wp2_with (go_at_call 13; refine Calls.mono hde ?_; rintro e w5 ⟨rfl, rfl⟩)
          clear hde
          have hcr := inv_crash HI3.out (by omega)
          refine Calls.mono hcr ?_
          rintro e w4 ⟨rfl, hI4⟩
          clear hcr HI3
          have hrd4 := inv_read hI4
          rw [decide_eq_false (by omega : ¬ (0 ≤ (-1 : Int) ∧ (-1 : Int) < ((0 : Nat) : Int))), if_neg (by decide)] at hrd4
          clear hI4
          go_wp2_with fail
          refine Calls.mono hrd4 ?_
          rintro e w5 ⟨v5, rfl, hI5⟩
          clear hrd4
          have hse := sector_any 2 2 w5
          have HI5 : Hid (Inv w w5 d (-1) 0) := hI5
          clear hI5
          go_wp2_with fail
          refine Calls.mono hse ?_
          rintro e w6 ⟨rfl, ho6, hb6⟩
          clear hse
          have hwr := inv_write (i := 0) (cap := 256) HI5.out (by omega) (by omega) (by omega) (sec_length 2 2) hb6 (Nat.le_refl _) (own_bytes ho6)
          rw [er_yes (.inl (by omega))] at hwr
          clear ho6 hb6
          go_wp2_with fail
          refine Calls.mono hwr ?_
          rintro e w7 ⟨rfl, hI7⟩
          clear hwr HI5
          have hde := inv_dead hI7
          rw [decide_eq_false (by omega : ¬ (0 ≤ (-1 : Int) ∧ (-1 : Int) < ((0 + 1 : Nat) : Int)))] at hde
          have hfl := inv_flush hI7 (by omega)
          rw [er_yes (.inl (by omega))] at hfl
          have hIA : ∀ w8, Inv w w8 d (-1) (0 + 1 + 1) → Calls Try.prog 8 #[] w8 fun e w' => e = .returned (.bool true) ∧ Below w.heap.size w w' := fun w8 h8 => (awake_any w8).mono fun e w' ⟨q1, q2⟩ => ⟨q1, h8.old.trans (q2.mono h8.old.size)⟩
          have HIA := (show Hid _ from hIA)
          clear hI7 hIA
          go_wp2_with (first
            | (go_at_call 13; refine Calls.mono hde ?_; rintro e w8 ⟨rfl, rfl⟩)
            | (go_at_call 10; refine Calls.mono hfl ?_; rintro e w8 ⟨rfl, hI8⟩; have haw := HIA.out w8 hI8; clear hI8)
            | (go_at_call 8; refine Calls.mono haw ?_; rintro e w9 ⟨rfl, hb9⟩))
          go_ret
          exact ⟨rfl, hb9⟩
end Go.Proofs.Ythmjejmkkllbaaa

/-
  The walk of the statement HashKeys: short keys, and the whole.
-/
import Derived.Test.YtdgoepnopenpkaaLawKeys
namespace Go.Proofs.Ytdgoepnopenpkaa
open Go.RowKit

theorem noughts_snoc (k : List UInt8) (j : Nat) : k ++ noughts (j + 1) = (k ++ noughts j) ++ [0] := by
  rw [List.append_assoc]
  congr 1
  simp [noughts, List.replicate_succ']

set_option maxHeartbeats 4000000 in
theorem hashKeys_short (ka : Option Addr) (key : List UInt8) (kcap : Nat) (a : Option Addr) (b : List UInt8) (cap : Nat) (n : Int) (w : World) (hk1 : key.length ≤ 64) (hkc : key.length ≤ kcap) (hkn : ka = none → kcap = 0) (hkb : Bytes w ka key) (hcap : b.length ≤ cap) (hn : a = none → cap = 0) (hl : b.length ≤ 140737488351232) (hb : Bytes w a b) :
    Calls Try.prog 3 #[.slice ka key.length kcap, .slice a b.length cap, .int .i64 n] w fun e w' => e = .returned (.bool true) ∧ Below w.heap.size w w' := by
  obtain ⟨i0, hi, hz0, hz1, hz2⟩ := info_parts info5
  have HKB : Hid (Bytes w ka key) := hkb
  have HBB : Hid (Bytes w a b) := hb
  have HN : Hid (a = none → cap = 0) := hn
  have HKN : Hid (ka = none → kcap = 0) := hkn
  have hHl := hmacL_length key b
  generalize hH : hmacL key b = H at *
  have HH : Hid (hmacL key b = H) := hH
  have HHL : Hid (H.length = 32) := hHl
  have hO0 : Own (w.alloc (.cells #[] 5)) w.heap.size (.slice (some ⟨w.heap.size, 0, none⟩) 0 0) [] := World.ownsRow_lit w #[] 0 (Nat.le_refl _) (by decide) rfl
  have HO0 : Hid (Own (w.alloc (.cells #[] 5)) w.heap.size (.slice (some ⟨w.heap.size, 0, none⟩) 0 0) []) := hO0
  have HBk : Hid (Bytes (w.alloc (.cells #[] 5)) ka key) := hkb.below ((Below.refl _ w).alloc (Nat.le_refl _) _) (Nat.le_refl _)
  have hB0 : Below w.heap.size w (w.alloc (.cells #[] 5)) := (Below.refl _ w).alloc (Nat.le_refl _) _
  clear hkb hb hn hkn hHl hH hO0
  go_enter Try.func3, Try.ntmps3
  go_wp2_with (at_builtin; refine wpList_append_bytes rfl _ _ rfl w.heap.size (.slice (some ⟨w.heap.size, 0, none⟩) 0 0) [] rfl HO0.out ka key kcap rfl HBk.out HKN.out (by rw [List.length_nil]; omega) (by simp) ?_; intro v1 w1 ho1 hg1)
  have hB1 : Below w.heap.size w w1 := hB0.grown hg1 (by simp) (by intro j hj; simp [Value.ownBlock] at hj; omega)
  rw [List.nil_append] at ho1
  go_loopw [7, 8] (fun v i wr => ∃ j : Nat, i = .int .i64 j ∧ key.length + j ≤ 64 ∧ Own wr w.heap.size v (key ++ noughts j) ∧ Below w.heap.size w wr)
    (fun _ i _ => 64 - (intOf i).toNat)
  case atStart => exact ⟨0, rfl, by omega, by simpa [noughts] using ho1, hB1⟩
  case round =>
    clear ho1 hg1 hB1 HO0 HBk hB0
    obtain ⟨j, rfl, hj, ho, hnx⟩ := hrel
    have hsz := hnx.size
    have hlen : (key ++ noughts j).length = key.length + j := by rw [List.length_append, noughts_length]
    obtain ⟨xk, ck, rfl, hxk, _, hck⟩ := ho.bytes'
    have HXK : Hid (Bytes wr xk (key ++ noughts j)) := hxk
    have hck' : key.length + j ≤ ck := by omega
    have HCK : Hid ((key ++ noughts j).length ≤ ck) := hck
    have HLEN : Hid ((key ++ noughts j).length = key.length + j) := hlen
    have hown : wr.ownsRow w.heap.size 5 1 (.slice xk (key.length + j) ck) (key.length + j) (bcs (key ++ noughts j)) := by
      have : Own wr w.heap.size (.slice xk (key ++ noughts j).length ck) (key ++ noughts j) := ho
      unfold Own at this
      rw [hlen] at this
      exact this
    have HOWN : Hid _ := hown
    rw [hlen]
    clear ho hxk hck hlen hown
    by_cases hcond : (j : Int) < n ∧ key.length + j < 64
    · obtain ⟨h1, h2⟩ := hcond
      have h2' : (key.length : Int) + (j : Int) < 64 := by omega
      have h2'' : ((key.length + j : Nat) : Int) < 64 := by omega
      go_wp2_with (at_builtin; refine wpList_append_own _ rfl (.tmp 42) (.tmp 43) 22 rfl w.heap.size 5 i0 (.int .u8 0) 1 1 Try.underlying22 hi hz0 hz1 hz2 rfl (by decide) _ _ _ rfl (World.ownsRow.alloc HOWN.out _) ⟨wr.heap.size, 0, none⟩ 1 1 [.int .u8 0] rfl rfl (cell_one_new _ _ _) (one_one _ rfl) (by unfold maxLen; omega) (by omega) (by simp; omega) ?_; intro v2 w2 ho2 hg2 _)
      go_roundw
      case rel =>
        refine ⟨j + 1, by go_num, by omega, ?_, ?_⟩
        · rw [noughts_snoc]
          unfold Own
          rw [List.length_append, HLEN.out, bcs_append]
          exact ho2
        · exact (hnx.alloc hsz _).grown hg2 (by simp; omega) (fun i hi' => (World.ownsRow.lt HOWN.out i hi').1)
      case measure => simp [intOf]; omega
    · have HH2 : Hid (hmacL (key ++ noughts j) b = H) := by show _ = _; rw [hmac_noughts key b j hj, HH.out]
      have hgd : ((j : Int) < n → ¬ (((key.length + j : Nat) : Int) < 64)) := fun h1 h2 => hcond ⟨h1, by omega⟩
      have HC : Hid (Below w.heap.size w wr.drew) := hnx.drew
      have HX0 : Hid (Bytes wr.drew xk (key ++ noughts j)) := Bytes.same HXK.out rfl
      have HB : Hid (∀ w', Bytes w' xk (key ++ noughts j) → Bytes w' a b → Calls Try.prog 9 #[.slice xk (key.length + j) ck, .slice a b.length cap] w' fun e w'' => ∃ x c, e = .returned (.slice x 32 c) ∧ Hid (Bytes w'' x H) ∧ Below w'.heap.size w' w'') := fun w' hx hb => by
        have := hmac_32 H xk (key ++ noughts j) ck a b cap w' HH2.out HCK.out (by rw [HLEN.out]; omega) hx hcap HN.out hl hb
        rw [HLEN.out] at this
        exact this
      clear HOWN
      rcases (show (j : Int) < n ∨ n ≤ (j : Int) by omega) with h1 | h1
      · have h2 : ¬ (((key.length + j : Nat) : Int) < 64) := hgd h1
        have h2' : decide ((key.length : Int) + (j : Int) < 64) = false := decide_eq_false (by omega)
        have h2'' : 64 ≤ (key.length : Int) + (j : Int) := by omega
        clear hgd hcond
        go_wp2_with fail
        go_region_with (first
          | (go_at_call_of 9 (Value.slice ka key.length kcap); refine (hmac_32 H ka key kcap a b cap _ HH.out hkc (by omega) (HKB.out.below HC.out (Nat.le_refl _)) hcap HN.out hl (HBB.out.below HC.out (Nat.le_refl _))).mono ?_; rintro e w1 ⟨x1, c1, rfl, hx1, hb1⟩; have cv1 := convert_32 w1 x1 c1 H HHL.out hx1.out; (first | (replace HX0 : Hid (Bytes w1 xk (key ++ noughts j)) := HX0.out.below hb1 (Nat.le_refl _)) | skip); replace HC : Hid (Below w.heap.size w w1) := step_below HC.out hb1 (Nat.le_refl _); clear hb1)
          | (go_at_call 9; refine (HB.out _ HX0.out (HBB.out.below HC.out (Nat.le_refl _))).mono ?_; rintro e w3 ⟨x3, c3, rfl, hx3, hb3⟩; have cv13 := convert_32 w3 x1 c1 H HHL.out (hx1.out.below hb3 (Nat.le_refl _)); have cv3 := convert_32 w3 x3 c3 H HHL.out hx3.out; clear HX0; replace HC : Hid (Below w.heap.size w w3) := step_below HC.out hb3 (Nat.le_refl _); clear hb3)
          | (go_at_call 11; refine (md5_16 a b cap _ hcap (by omega) (HBB.out.below HC.out (Nat.le_refl _))).mono ?_; rintro e w5 ⟨x5, c5, rfl, hx5, hb5⟩; replace HC : Hid (Below w.heap.size w w5) := step_below HC.out hb5 (Nat.le_refl _); clear hb5)
          | (go_at_call 8; refine (awake_any _).mono ?_; rintro e w4 ⟨rfl, hb4⟩; replace HC : Hid (Below w.heap.size w w4) := step_below HC.out hb4 (Nat.le_refl _); clear hb4))
        all_goals
          go_wp2
          go_ret
          exact ⟨rfl, HC.out⟩
      · have h1' : decide ((j : Int) < n) = false := decide_eq_false (by omega)
        clear hgd hcond
        go_wp2_with fail
        go_region_with (first
          | (go_at_call_of 9 (Value.slice ka key.length kcap); refine (hmac_32 H ka key kcap a b cap _ HH.out hkc (by omega) (HKB.out.below HC.out (Nat.le_refl _)) hcap HN.out hl (HBB.out.below HC.out (Nat.le_refl _))).mono ?_; rintro e w1 ⟨x1, c1, rfl, hx1, hb1⟩; have cv1 := convert_32 w1 x1 c1 H HHL.out hx1.out; (first | (replace HX0 : Hid (Bytes w1 xk (key ++ noughts j)) := HX0.out.below hb1 (Nat.le_refl _)) | skip); replace HC : Hid (Below w.heap.size w w1) := step_below HC.out hb1 (Nat.le_refl _); clear hb1)
          | (go_at_call 9; refine (HB.out _ HX0.out (HBB.out.below HC.out (Nat.le_refl _))).mono ?_; rintro e w3 ⟨x3, c3, rfl, hx3, hb3⟩; have cv13 := convert_32 w3 x1 c1 H HHL.out (hx1.out.below hb3 (Nat.le_refl _)); have cv3 := convert_32 w3 x3 c3 H HHL.out hx3.out; clear HX0; replace HC : Hid (Below w.heap.size w w3) := step_below HC.out hb3 (Nat.le_refl _); clear hb3)
          | (go_at_call 11; refine (md5_16 a b cap _ hcap (by omega) (HBB.out.below HC.out (Nat.le_refl _))).mono ?_; rintro e w5 ⟨x5, c5, rfl, hx5, hb5⟩; replace HC : Hid (Below w.heap.size w w5) := step_below HC.out hb5 (Nat.le_refl _); clear hb5)
          | (go_at_call 8; refine (awake_any _).mono ?_; rintro e w4 ⟨rfl, hb4⟩; replace HC : Hid (Below w.heap.size w w4) := step_below HC.out hb4 (Nat.le_refl _); clear hb4))
        all_goals
          go_wp2
          go_ret
          exact ⟨rfl, HC.out⟩

set_option maxHeartbeats 1000000 in
theorem hashKeys_walk (ka : Option Addr) (key : List UInt8) (kcap : Nat) (a : Option Addr) (b : List UInt8) (cap : Nat) (n : Int) (w : World) (hkc : key.length ≤ kcap) (hkn : ka = none → kcap = 0) (hkb : Bytes w ka key) (hcap : b.length ≤ cap) (hn : a = none → cap = 0) (hl : b.length ≤ 140737488351232) (hkl : key.length ≤ 140737488351232) (hb : Bytes w a b) :
    Calls Try.prog 3 #[.slice ka key.length kcap, .slice a b.length cap, .int .i64 n] w fun e w' => e = .returned (.bool true) ∧ Below w.heap.size w w' := by
  by_cases h1 : 2000 < key.length
  · clear hkn hkb hb hn
    go_enter Try.func3, Try.ntmps3
    go_wp2_with fail
    refine (awake_any _).mono ?_
    rintro e w1 ⟨rfl, hb1⟩
    go_wp2
    go_ret
    exact ⟨rfl, hb1⟩
  · by_cases h2 : 64 < key.length
    · exact hashKeys_long ka key kcap a b cap n w h2 (by omega) hkc hkb hcap hn hl hb
    · exact hashKeys_short ka key kcap a b cap n w (by omega) hkc hkn hkb hcap hn hl hb
end Go.Proofs.Ytdgoepnopenpkaa

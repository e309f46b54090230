/-
  The walk of the statement HashKeys out of the contracts of what it calls.
-/
import Derived.Test.YtdgoepnopenpkaaHmac
import Derived.Test.YtdgoepnopenpkaaAwake
import Derived.Deep.RegionWith
namespace Go.Proofs.Ytdgoepnopenpkaa
open Go.RowKit

theorem hmacL_length (k b : List UInt8) : (hmacL k b).length = 32 := rfl
theorem md5L_length (l : List UInt8) : (md5L l).length = 16 := rfl
/-- A long key is told by its sum. -/
theorem hmac_long (k b : List UInt8) (h : 64 < k.length) : hmacL (shaL k) b = hmacL k b := by
  have e : kbL (shaL k) = kbL k := by
    unfold kbL
    rw [if_pos h, if_neg (by rw [shaL_length]; decide)]
  unfold hmacL
  rw [e]
/-- Noughts behind a short key change nothing. -/
theorem hmac_noughts (k b : List UInt8) (j : Nat) (h : k.length + j ≤ 64) : hmacL (k ++ noughts j) b = hmacL k b := by
  have e : kbL (k ++ noughts j) = kbL k := by
    unfold kbL
    rw [if_neg (by rw [List.length_append, noughts_length]; omega), if_neg (by omega), List.append_assoc]
    congr 1
    rw [List.length_append, noughts_length]
    simp only [noughts, List.replicate_append_replicate]
    congr 1
    omega
  unfold hmacL
  rw [e]

theorem hmac_32 (H : List UInt8) (ka : Option Addr) (key : List UInt8) (kcap : Nat) (a : Option Addr) (b : List UInt8) (cap : Nat) (w : World) (hH : hmacL key b = H) (hkc : key.length ≤ kcap) (hkl : key.length ≤ 281474976710656) (hkb : Bytes w ka key) (hcap : b.length ≤ cap) (hn : a = none → cap = 0) (hl : b.length ≤ 140737488351232) (hb : Bytes w a b) :
    Calls Try.prog 9 #[.slice ka key.length kcap, .slice a b.length cap] w fun e w' => ∃ x c, e = .returned (.slice x 32 c) ∧ Hid (Bytes w' x H) ∧ Below w.heap.size w w' := by
  refine (hmac_any ka key kcap a b cap w hkc hkl hkb hcap hn hl hb).mono ?_
  rintro e w' ⟨v, rfl, ho, hb'⟩
  obtain ⟨x, c, rfl, hx⟩ := ho.bytes
  subst hH
  exact ⟨x, c, rfl, hx, hb'⟩
theorem sha_32 (a : Option Addr) (l : List UInt8) (cap : Nat) (w : World) (hcap : l.length ≤ cap) (hl : l.length ≤ 281474976710656) (hb : Bytes w a l) :
    Calls Try.prog 10 #[.slice a l.length cap] w fun e w' => ∃ x c, e = .returned (.slice x 32 c) ∧ Hid (Bytes w' x (shaL l)) ∧ 32 ≤ c ∧ Below w.heap.size w w' := by
  refine (sha_any a l cap w hcap hl hb).mono ?_
  rintro e w' ⟨v, rfl, ho, hb'⟩
  obtain ⟨x, c, rfl, hx, _, hc⟩ := ho.bytes'
  exact ⟨x, c, rfl, hx, hc, hb'⟩
theorem md5_16 (a : Option Addr) (l : List UInt8) (cap : Nat) (w : World) (hcap : l.length ≤ cap) (hl : l.length ≤ 281474976710656) (hb : Bytes w a l) :
    Calls Try.prog 11 #[.slice a l.length cap] w fun e w' => ∃ x c, e = .returned (.slice x 16 c) ∧ Hid (Bytes w' x (md5L l)) ∧ Below w.heap.size w w' := by
  refine (md5_any a l cap w hcap hl hb).mono ?_
  rintro e w' ⟨v, rfl, ho, hb'⟩
  obtain ⟨x, c, rfl, hx⟩ := ho.bytes
  exact ⟨x, c, rfl, hx, hb'⟩
theorem convert_32 (w : World) (x : Option Addr) (c : Nat) (H : List UInt8) (hH : H.length = 32) (h : Bytes w x H) : (convert 22 9 (.slice x 32 c)).run Try.prog w = .ok (.string ⟨H.toArray⟩) w := by
  have := convert_bytes w x c H h
  rw [hH] at this
  exact this
theorem hmac_sum (H : List UInt8) (x : Option Addr) (key : List UInt8) (c : Nat) (a : Option Addr) (b : List UInt8) (cap : Nat) (w : World) (hH : hmacL (shaL key) b = H) (hc : 32 ≤ c) (hx : Bytes w x (shaL key)) (hcap : b.length ≤ cap) (hn : a = none → cap = 0) (hl : b.length ≤ 140737488351232) (hb : Bytes w a b) :
    Calls Try.prog 9 #[.slice x 32 c, .slice a b.length cap] w fun e w' => ∃ x c, e = .returned (.slice x 32 c) ∧ Hid (Bytes w' x H) ∧ Below w.heap.size w w' :=
  hmac_32 H x (shaL key) c a b cap w hH (by rw [shaL_length]; exact hc) (by rw [shaL_length]; decide) hx hcap hn hl hb

set_option maxHeartbeats 4000000 in
theorem hashKeys_long (ka : Option Addr) (key : List UInt8) (kcap : Nat) (a : Option Addr) (b : List UInt8) (cap : Nat) (n : Int) (w : World) (hk1 : 64 < key.length) (hk2 : key.length ≤ 2000) (hkc : key.length ≤ kcap) (hkb : Bytes w ka key) (hcap : b.length ≤ cap) (hn : a = none → cap = 0) (hl : b.length ≤ 140737488351232) (hb : Bytes w a b) :
    Calls Try.prog 3 #[.slice ka key.length kcap, .slice a b.length cap, .int .i64 n] w fun e w' => e = .returned (.bool true) ∧ Below w.heap.size w w' := by
  have HKB : Hid (Bytes w ka key) := hkb
  have HBB : Hid (Bytes w a b) := hb
  have HN : Hid (a = none → cap = 0) := hn
  have hHe := hmac_long key b hk1
  have hHl := hmacL_length key b
  generalize hH : hmacL key b = H at *
  have HH : Hid (hmacL key b = H) := hH
  have HH2 : Hid (hmacL (shaL key) b = H) := hHe
  have HHL : Hid (H.length = 32) := hHl
  have HC : Hid (Below w.heap.size w w.drew) := (Below.refl _ w).drew
  clear hkb hb hn hHe hHl hH
  go_enter Try.func3, Try.ntmps3
  go_wp2_with fail
  go_region_with (first
    | (go_at_call_of 9 (Value.slice ka key.length kcap); refine (hmac_32 H ka key kcap a b cap _ HH.out hkc (by omega) (HKB.out.below HC.out (Nat.le_refl _)) hcap HN.out hl (HBB.out.below HC.out (Nat.le_refl _))).mono ?_; rintro e w1 ⟨x1, c1, rfl, hx1, hb1⟩; have cv1 := convert_32 w1 x1 c1 H HHL.out hx1.out; replace HC : Hid (Below w.heap.size w w1) := step_below HC.out hb1 (Nat.le_refl _); clear hb1)
    | (go_at_call 10; refine (sha_32 ka key kcap _ hkc (by omega) (HKB.out.below HC.out (Nat.le_refl _))).mono ?_; rintro e w2 ⟨x2, c2, rfl, hx2, hc2, hb2⟩; have HX1 : Hid (Bytes w2 x1 H) := hx1.out.below hb2 (Nat.le_refl _); have cv12 := convert_32 w2 x1 c1 H HHL.out HX1.out; replace HC : Hid (Below w.heap.size w w2) := step_below HC.out hb2 (Nat.le_refl _); clear hb2)
    | (go_at_call 9; refine (hmac_sum H x2 key c2 a b cap _ HH2.out hc2 hx2.out hcap HN.out hl (HBB.out.below HC.out (Nat.le_refl _))).mono ?_; rintro e w3 ⟨x3, c3, rfl, hx3, hb3⟩; have cv13 := convert_32 w3 x1 c1 H HHL.out (HX1.out.below hb3 (Nat.le_refl _)); have cv3 := convert_32 w3 x3 c3 H HHL.out hx3.out; replace HC : Hid (Below w.heap.size w w3) := step_below HC.out hb3 (Nat.le_refl _); clear hb3)
    | (go_at_call 8; refine (awake_any _).mono ?_; rintro e w4 ⟨rfl, hb4⟩; replace HC : Hid (Below w.heap.size w w4) := step_below HC.out hb4 (Nat.le_refl _); clear hb4))
  all_goals
    go_wp2
    go_ret
    exact ⟨rfl, HC.out⟩
end Go.Proofs.Ytdgoepnopenpkaa

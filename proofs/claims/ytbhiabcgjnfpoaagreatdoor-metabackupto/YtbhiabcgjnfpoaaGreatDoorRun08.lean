/-
  chars.isAddress, Bucket and Fold by their contracts; 'awake' of the statements' package.
-/
import Derived.Test.YtbhiabcgjnfpoaaGreatDoorRun06
import Derived.Test.YtbhiabcgjnfpoaaGreatDoorRun07
import Derived.LoopN
namespace Go.Proofs.YtbhiabcgjnfpoaaGreatDoor
open Go.RowKit

def addrB (l : List UInt8) : Bool := decide ((splitL 46 l).length = 4) && (splitL 46 l).all (allB digB)
theorem enter77 : ∀ args w, (callFunc 135 args).run Tryz.prog w = .ok (.enter 135 args) w := fun args w => Tryz.call135 args w
theorem enter55 : ∀ args w, (callFunc 126 args).run Tryz.prog w = .ok (.enter 126 args) w := fun args w => Tryz.call126 args w
theorem piece_size {c : UInt8} : ∀ {l : List UInt8} {x : List UInt8}, x ∈ splitL c l → x.length ≤ l.length
  | [], x, h => by simp [splitL] at h; simp [h]
  | a :: r, x, h => by
    unfold splitL at h
    split at h
    · rcases List.mem_cons.1 h with rfl | h
      · simp
      · have := piece_size h; simp; omega
    · have ih := @piece_size c r
      cases hs : splitL c r with
      | nil => exact absurd hs (splitL_ne c r)
      | cons y ys =>
        rw [hs] at h ih
        simp only at h
        rcases List.mem_cons.1 h with rfl | h
        · have := ih (List.mem_cons_self); simp; omega
        · have := ih (List.mem_cons_of_mem _ h); simp; omega

set_option maxHeartbeats 800000 in
theorem isAddress_any (s : ByteArray) (w : World) (hs : s.size < 4294967281) (hm : Mx w) :
    Calls Tryz.prog 129 #[.string s] w fun e w' => e = .returned (.bool (addrB s.data.toList)) ∧ Below w.heap.size w w' := by
  have HSp : Hid (∀ W, Mx W → Calls Tryz.prog 137 #[.string s, .int .u8 46] W fun e w' => ∃ g, e = .returned (.slice (some ⟨g, 0, none⟩) (splitS 46 s).length (splitS 46 s).length) ∧ Strs w' (some ⟨g, 0, none⟩) (splitS 46 s) ∧ Below W.heap.size W w') := fun W hW => split_any s 46 W hs hW
  have HLn : Hid ((splitS 46 s).length = (splitL 46 s.data.toList).length) := by
    show (splitS 46 s).length = _
    rw [splitS, List.length_map]
  have HGt : Hid (∀ j (h : j < (splitS 46 s).length) (h' : j < (splitL 46 s.data.toList).length), (splitS 46 s)[j].data.toList = (splitL 46 s.data.toList)[j]) := fun j h h' => by simp [splitS]
  have HSz : Hid (∀ j (h : j < (splitS 46 s).length), (splitS 46 s)[j].size ≤ s.size) := fun j h => by
    have hL : s.data.toList.length = s.size := by simp
    have h' : j < (splitL 46 s.data.toList).length := by rw [← HLn.out]; exact h
    have e : (splitS 46 s)[j].size = (splitS 46 s)[j].data.toList.length := by simp
    rw [e, HGt.out j h h']
    have := piece_size (List.getElem_mem h')
    omega
  go_enter Tryz.func129, Tryz.ntmps129
  go_wp2_with fail
  refine (HSp.out _ hm).mono ?_
  rintro e w1 ⟨g, rfl, hst, hb1⟩
  generalize hL : splitS 46 s = L at *
  by_cases h4 : L.length = 4
  · obtain ⟨b, off, hbo, hbl, hcs⟩ := hst.at (k := 0) (by omega)
    simp only [Option.some.injEq, Addr.mk.injEq, and_true] at hbo
    obtain ⟨rfl, rfl⟩ := hbo
    have hc0 : ∀ j (h : j < L.length), w1.cell? ⟨g, j, none⟩ = some (.string L[j]) := fun j h => by have := hcs j h; rwa [Nat.zero_add] at this
    have HC : Hid (∀ j (h : j < L.length), w1.cell? ⟨g, j, none⟩ = some (.string L[j])) := hc0
    have H4 : Hid (L.length = 4) := h4
    have HA : Hid (∀ x, addrB s.data.toList = x ↔ (splitL 46 s.data.toList).all (allB digB) = x) := fun x => by
      rw [addrB, ← HLn.out, h4]; simp
    clear hcs hc0 hst hm HSp
    rw [h4]
    go_wp2
    go_loop [13] (fun i => ∃ k : Nat, k ≤ 4 ∧ i = .int .i64 k ∧ ∀ j (hj : j < (splitL 46 s.data.toList).length), j < k → allB digB (splitL 46 s.data.toList)[j] = true) (fun i => 4 - (intOf i).toNat)
    case atStart => exact ⟨0, Nat.zero_le _, rfl, fun j hj h => by omega⟩
    case round =>
      obtain ⟨k, hk, rfl, hf⟩ := hrel
      have HF : Hid (∀ j (hj : j < (splitL 46 s.data.toList).length), j < k → allB digB (splitL 46 s.data.toList)[j] = true) := hf
      clear hf
      by_cases hlt : k < 4
      · have hkL : k < L.length := by omega
        have hkl : k < (splitL 46 s.data.toList).length := by rw [← HLn.out]; exact hkL
        have hcell := HC.out k hkL
        have HE : Hid (∀ W, Calls Tryz.prog 125 #[.string L[k], .func (.func 135) #[] #[]] W fun e w' => e = .returned (.bool (allB digB (splitL 46 s.data.toList)[k])) ∧ W = w') := fun W => by
          have := everyByte_any 135 digB enter77 (fun c W h0 h1 => isDigit_any c W h0 h1) L[k] W (by have := HSz.out k hkL; unfold maxLen; omega)
          rw [HGt.out k hkL hkl] at this
          exact this
        obtain ⟨t, ht⟩ : ∃ t, L[k] = t := ⟨_, rfl⟩
        rw [ht] at hcell HE
        clear ht h4
        cases hd : allB digB (splitL 46 s.data.toList)[k]
        · have HN : Hid ((splitL 46 s.data.toList).all (allB digB) = false) := by
            show _ = false
            rw [List.all_eq_false]
            exact ⟨_, List.getElem_mem hkl, by simp [hd]⟩
          rw [hd] at HE
          clear hd
          go_wp2_with (go_at_call 125; refine (HE.out _).mono ?_; rintro e w' ⟨rfl, rfl⟩)
          go_ret
          exact ⟨ret_bool ((HA.out false).2 HN.out).symm, hb1⟩
        · have HY : Hid (allB digB (splitL 46 s.data.toList)[k] = true) := hd
          rw [hd] at HE
          clear hd
          go_wp2_with (go_at_call 125; refine (HE.out _).mono ?_; rintro e w' ⟨rfl, rfl⟩)
          go_round
          case rel =>
            refine ⟨k + 1, by omega, by go_num, fun j hj h => ?_⟩
            by_cases e : j = k
            · subst e; exact HY.out
            · exact HF.out j hj (by omega)
          case measure => simp [intOf]; omega
      · have HN : Hid ((splitL 46 s.data.toList).all (allB digB) = true) := by
          show _ = true
          rw [List.all_eq_true]
          intro x hx
          obtain ⟨j, hj, rfl⟩ := List.getElem_of_mem hx
          exact HF.out j hj (by have := HLn.out; omega)
        obtain rfl : k = 4 := by omega
        clear h4
        go_wp2
        go_ret
        exact ⟨ret_bool ((HA.out true).2 HN.out).symm, hb1⟩
  · have hn : ((L.length : Int) != 4) = true := by simp; omega
    have HA : Hid (addrB s.data.toList = false) := by
      show addrB _ = false
      rw [addrB, ← HLn.out]; simp [h4]
    clear h4 hst HSp
    go_wp2
    go_ret
    exact ⟨ret_bool HA.out.symm, hb1⟩

def lenB (l : List UInt8) : Bool := decide (3 ≤ l.length ∧ l.length ≤ 63)
def bucketB (l : List UInt8) : Bool := lenB l && (allB bukB l && (lodB (at0 l 0 : Nat) && (lodB (at0 l (l.length - 1) : Nat) && (!Lib.contains l [46, 46] && !addrB l))))
theorem at0_s' {s : ByteArray} {k : Nat} (h : k < s.size) : (at0 s.data.toList k : Int) = (s[k].toNat : Int) := by
  unfold at0
  rw [List.getD_eq_getElem?_getD, List.getElem?_eq_getElem (by simpa using h)]
  rfl

set_option maxHeartbeats 800000 in
theorem bucket_any (s : ByteArray) (w : World) (hs : s.size ≤ maxLen) (hm : Mx w) :
    Calls Tryz.prog 114 #[.string s] w fun e w' => e = .returned (.bool (bucketB s.data.toList)) ∧ Below w.heap.size w w' := by
  have hL : s.data.toList.length = s.size := by simp
  have HL : Hid (lenB s.data.toList = decide (3 ≤ s.size ∧ s.size ≤ 63)) := by show lenB _ = _; rw [lenB, hL]
  have HB : Hid (bucketB s.data.toList = (lenB s.data.toList && (allB bukB s.data.toList && (lodB (at0 s.data.toList 0 : Nat) && (lodB (at0 s.data.toList (s.size - 1) : Nat) && (!Lib.contains s.data.toList [46, 46] && !addrB s.data.toList)))))) := by
    show bucketB _ = _
    rw [bucketB, hL]
  clear hL
  by_cases h3 : 3 ≤ s.size
  · by_cases h63 : s.size ≤ 63
    · have H1 : Hid (lenB s.data.toList = true) := by show _ = true; rw [HL.out]; simp [h3, h63]
      have HE : Hid (∀ W, Calls Tryz.prog 125 #[.string s, .func (.func 126) #[] #[]] W fun e w' => e = .returned (.bool (allB bukB s.data.toList)) ∧ W = w') := fun W => everyByte_any 126 bukB enter55 (fun c W h0 h1 => isBucketByte_any c W h0 h1) s W hs
      cases hb : allB bukB s.data.toList
      · rw [hb] at HE
        have HN : Hid (bucketB s.data.toList = false) := by show _ = false; rw [HB.out, hb]; simp
        clear hb
        go_enter Tryz.func114, Tryz.ntmps114
        go_wp2_with (go_at_call 125; refine (HE.out _).mono ?_; rintro e w' ⟨rfl, rfl⟩)
        go_ret
        exact ⟨ret_bool HN.out.symm, Below.refl _ _⟩
      · rw [hb] at HE
        have H2 : Hid (allB bukB s.data.toList = true) := hb
        clear hb
        have b0 : (s[0].toNat : Int) ≤ 255 := by have := s[0].toNat_lt; omega
        have b1 : (s[s.size - 1].toNat : Int) ≤ 255 := by have := s[s.size - 1].toNat_lt; omega
        have HF : Hid (∀ W, Calls Tryz.prog 127 #[.int .u8 (s[0].toNat : Int)] W fun e w' => e = .returned (.bool (lodB (at0 s.data.toList 0 : Nat))) ∧ W = w') := fun W => by
          rw [at0_s' (by omega)]
          exact isLowerOrDigit_any _ W (Int.natCast_nonneg _) b0
        have HG : Hid (∀ W, Calls Tryz.prog 127 #[.int .u8 (s[s.size - 1].toNat : Int)] W fun e w' => e = .returned (.bool (lodB (at0 s.data.toList (s.size - 1) : Nat))) ∧ W = w') := fun W => by
          rw [at0_s' (by omega)]
          exact isLowerOrDigit_any _ W (Int.natCast_nonneg _) b1
        cases hf : lodB (at0 s.data.toList 0 : Nat)
        · rw [hf] at HF
          have HN : Hid (bucketB s.data.toList = false) := by show _ = false; rw [HB.out, hf]; simp
          clear hf
          go_enter Tryz.func114, Tryz.ntmps114
          go_wp2_with (first
            | (go_at_call 125; refine (HE.out _).mono ?_; rintro e w' ⟨rfl, rfl⟩)
            | (go_at_call 127; refine (HF.out _).mono ?_; rintro e w' ⟨rfl, rfl⟩))
          go_ret
          exact ⟨ret_bool HN.out.symm, Below.refl _ _⟩
        · rw [hf] at HF
          have H3 : Hid (lodB (at0 s.data.toList 0 : Nat) = true) := hf
          clear hf
          cases hg : lodB (at0 s.data.toList (s.size - 1) : Nat)
          · rw [hg] at HG
            have HN : Hid (bucketB s.data.toList = false) := by show _ = false; rw [HB.out, hg]; simp
            clear hg
            go_enter Tryz.func114, Tryz.ntmps114
            go_wp2_with fail
            refine (HE.out _).mono ?_
            rintro e w' ⟨rfl, rfl⟩
            go_wp2_with fail
            refine (HF.out _).mono ?_
            rintro e w' ⟨rfl, rfl⟩
            go_wp2_with fail
            refine (HG.out _).mono ?_
            rintro e w' ⟨rfl, rfl⟩
            go_wp2
            go_ret
            exact ⟨ret_bool HN.out.symm, Below.refl _ _⟩
          · rw [hg] at HG
            have H4 : Hid (bucketB s.data.toList = (!Lib.contains s.data.toList [46, 46] && !addrB s.data.toList)) := by
              show bucketB _ = _
              rw [HB.out, H1.out, H2.out, H3.out, hg]
              simp
            obtain ⟨m, hm1⟩ := hm
            have HC : Hid (Calls Tryz.prog 128 #[.string s, .string ⟨#[46, 46]⟩] w fun e w' => e = .returned (.bool (Lib.contains s.data.toList [46, 46])) ∧ w' = w) := strings_Contains s ⟨#[46, 46]⟩ m w (by omega) hm1
            have HA : Hid (Calls Tryz.prog 129 #[.string s] w fun e w' => e = .returned (.bool (addrB s.data.toList)) ∧ Below w.heap.size w w') := isAddress_any s w (by omega) ⟨m, hm1⟩
            clear hg hm1
            cases hc : Lib.contains s.data.toList [46, 46]
            · rw [hc] at HC H4
              clear hc
              go_enter Tryz.func114, Tryz.ntmps114
              go_wp2_with fail
              refine (HE.out _).mono ?_
              rintro e w' ⟨rfl, rfl⟩
              go_wp2_with fail
              refine (HF.out _).mono ?_
              rintro e w' ⟨rfl, rfl⟩
              go_wp2_with fail
              refine (HG.out _).mono ?_
              rintro e w' ⟨rfl, rfl⟩
              go_wp2_with fail
              refine HC.out.mono ?_
              rintro e w' ⟨rfl, rfl⟩
              go_wp2_with fail
              refine HA.out.mono ?_
              rintro e w' ⟨rfl, hbe⟩
              go_wp2
              go_ret
              exact ⟨ret_bool (by rw [H4.out]; simp), hbe⟩
            · rw [hc] at HC H4
              clear hc
              go_enter Tryz.func114, Tryz.ntmps114
              go_wp2_with fail
              refine (HE.out _).mono ?_
              rintro e w' ⟨rfl, rfl⟩
              go_wp2_with fail
              refine (HF.out _).mono ?_
              rintro e w' ⟨rfl, rfl⟩
              go_wp2_with fail
              refine (HG.out _).mono ?_
              rintro e w' ⟨rfl, rfl⟩
              go_wp2_with fail
              refine HC.out.mono ?_
              rintro e w' ⟨rfl, rfl⟩
              go_wp2
              go_ret
              exact ⟨ret_bool (by rw [H4.out]; simp), Below.refl _ _⟩
    · have HN : Hid (bucketB s.data.toList = false) := by show _ = false; rw [HB.out, HL.out]; simp; omega
      have h63' : ¬ ((s.size : Int) ≤ 63) := by omega
      go_enter Tryz.func114, Tryz.ntmps114
      go_wp2
      go_ret
      exact ⟨ret_bool HN.out.symm, Below.refl _ _⟩
  · have HN : Hid (bucketB s.data.toList = false) := by show _ = false; rw [HB.out, HL.out]; simp; omega
    have h3' : (s.size : Int) < 3 := by omega
    go_enter Tryz.func114, Tryz.ntmps114
    go_wp2
    go_ret
    exact ⟨ret_bool HN.out.symm, Below.refl _ _⟩

end Go.Proofs.YtbhiabcgjnfpoaaGreatDoor
/-
  The document's Step by its contract.
-/
namespace Go.Proofs.YtbhiabcgjnfpoaaGreatDoor
open Go.RowKit

def stepN (n b0 b1 b2 b3 : Nat) : Nat × Nat := if (Lib.decodeN n b0 b1 b2 b3).1 = 65533 ∧ (Lib.decodeN n b0 b1 b2 b3).2 = 1 then (0, 0) else Lib.decodeN n b0 b1 b2 b3
theorem stepL_N (l : List UInt8) : stepL l = stepN l.length (at0 l 0) (at0 l 1) (at0 l 2) (at0 l 3) := rfl

theorem stepN_of (n b0 b1 b2 b3 : Nat) (x : Nat × Nat) (h : (Lib.decodeN n b0 b1 b2 b3 = (65533, 1) ∧ x = (0, 0)) ∨ (Lib.decodeN n b0 b1 b2 b3 = x ∧ (x.1 ≠ 65533 ∨ x.2 ≠ 1))) : stepN n b0 b1 b2 b3 = x := by
  unfold stepN
  rcases h with ⟨h, rfl⟩ | ⟨h, hx⟩
  · rw [h]; rfl
  · rw [h, if_neg (by omega)]
theorem st_ascii {n b0 b1 b2 b3 : Nat} (h : b0 < 128) : stepN n b0 b1 b2 b3 = (b0, 1) :=
  stepN_of _ _ _ _ _ _ (.inr ⟨by unfold Lib.decodeN; rw [if_pos h], .inl (by show b0 ≠ 65533; omega)⟩)
theorem st_none {n b0 b1 b2 b3 : Nat} (h : Lib.decodeN n b0 b1 b2 b3 = (65533, 1)) : stepN n b0 b1 b2 b3 = (0, 0) := stepN_of _ _ _ _ _ _ (.inl ⟨h, rfl⟩)
theorem st_lead {n b0 b1 b2 b3 : Nat} (h : (128 ≤ b0 ∧ b0 < 192) ∨ 248 ≤ b0) (h' : b0 < 256) : stepN n b0 b1 b2 b3 = (0, 0) := by
  apply st_none
  unfold Lib.decodeN
  (repeat' split) <;> first | rfl | (exfalso; omega)
theorem st2_no {n b0 b1 b2 b3 : Nat} (h : 192 ≤ b0) (h' : b0 < 224) (hn : n < 2 ∨ b1 < 128 ∨ 192 ≤ b1) (_h1 : b1 < 256) : stepN n b0 b1 b2 b3 = (0, 0) := by
  apply st_none
  unfold Lib.decodeN
  (repeat' split) <;> first | rfl | (exfalso; omega)
theorem st3_no {n b0 b1 b2 b3 : Nat} (h : 224 ≤ b0) (h' : b0 < 240) (hn : n < 3 ∨ b1 < 128 ∨ 192 ≤ b1 ∨ b2 < 128 ∨ 192 ≤ b2) (_h1 : b1 < 256) (_h2 : b2 < 256) : stepN n b0 b1 b2 b3 = (0, 0) := by
  apply st_none
  unfold Lib.decodeN
  (repeat' split) <;> first | rfl | (exfalso; omega)
theorem st4_no {n b0 b1 b2 b3 : Nat} (h : 240 ≤ b0) (h' : b0 < 248) (hn : n < 4 ∨ b1 < 128 ∨ 192 ≤ b1 ∨ b2 < 128 ∨ 192 ≤ b2 ∨ b3 < 128 ∨ 192 ≤ b3) (_h1 : b1 < 256) (_h2 : b2 < 256) (_h3 : b3 < 256) : stepN n b0 b1 b2 b3 = (0, 0) := by
  apply st_none
  unfold Lib.decodeN
  (repeat' split) <;> first | rfl | (exfalso; omega)
theorem st2_out {n b0 b1 b2 b3 : Nat} (h : 192 ≤ b0) (h' : b0 < 224) (_hn : 2 ≤ n) (k1 : 128 ≤ b1) (k1' : b1 < 192) (hN : 64 * (b0 - 192) + (b1 - 128) < 128) : stepN n b0 b1 b2 b3 = (0, 0) := by
  apply st_none
  unfold Lib.decodeN
  (repeat' split) <;> first | rfl | (exfalso; omega)
theorem st3_out {n b0 b1 b2 b3 : Nat} (h : 224 ≤ b0) (h' : b0 < 240) (_hn : 3 ≤ n) (k1 : 128 ≤ b1) (k1' : b1 < 192) (k2 : 128 ≤ b2) (k2' : b2 < 192) (hN : 64 * (64 * (b0 - 224) + (b1 - 128)) + (b2 - 128) < 2048 ∨ (55296 ≤ 64 * (64 * (b0 - 224) + (b1 - 128)) + (b2 - 128) ∧ 64 * (64 * (b0 - 224) + (b1 - 128)) + (b2 - 128) < 57344)) : stepN n b0 b1 b2 b3 = (0, 0) := by
  apply st_none
  unfold Lib.decodeN
  (repeat' split) <;> first | rfl | (exfalso; omega)
theorem st4_out {n b0 b1 b2 b3 : Nat} (h : 240 ≤ b0) (h' : b0 < 248) (_hn : 4 ≤ n) (k1 : 128 ≤ b1) (k1' : b1 < 192) (k2 : 128 ≤ b2) (k2' : b2 < 192) (k3 : 128 ≤ b3) (k3' : b3 < 192) (hN : 64 * (64 * (64 * (b0 - 240) + (b1 - 128)) + (b2 - 128)) + (b3 - 128) < 65536 ∨ 1114111 < 64 * (64 * (64 * (b0 - 240) + (b1 - 128)) + (b2 - 128)) + (b3 - 128)) : stepN n b0 b1 b2 b3 = (0, 0) := by
  apply st_none
  unfold Lib.decodeN
  (repeat' split) <;> first | rfl | (exfalso; omega)
theorem st2_in {n b0 b1 b2 b3 : Nat} (h : 192 ≤ b0) (h' : b0 < 224) (_hn : 2 ≤ n) (k1 : 128 ≤ b1) (k1' : b1 < 192) (hN : 128 ≤ 64 * (b0 - 192) + (b1 - 128)) : stepN n b0 b1 b2 b3 = (64 * (b0 - 192) + (b1 - 128), 2) := by
  refine stepN_of _ _ _ _ _ _ (.inr ⟨?_, .inr (by simp)⟩)
  unfold Lib.decodeN
  (repeat' split) <;> first | (exfalso; omega) | (apply Prod.ext <;> simp only <;> omega)
theorem st3_in {n b0 b1 b2 b3 : Nat} (h : 224 ≤ b0) (h' : b0 < 240) (_hn : 3 ≤ n) (k1 : 128 ≤ b1) (k1' : b1 < 192) (k2 : 128 ≤ b2) (k2' : b2 < 192) (hN : 2048 ≤ 64 * (64 * (b0 - 224) + (b1 - 128)) + (b2 - 128)) (hS : ¬ (55296 ≤ 64 * (64 * (b0 - 224) + (b1 - 128)) + (b2 - 128) ∧ 64 * (64 * (b0 - 224) + (b1 - 128)) + (b2 - 128) < 57344)) : stepN n b0 b1 b2 b3 = (64 * (64 * (b0 - 224) + (b1 - 128)) + (b2 - 128), 3) := by
  refine stepN_of _ _ _ _ _ _ (.inr ⟨?_, .inr (by simp)⟩)
  unfold Lib.decodeN
  (repeat' split) <;> first | (exfalso; omega) | (apply Prod.ext <;> simp only <;> omega)
theorem st4_in {n b0 b1 b2 b3 : Nat} (h : 240 ≤ b0) (h' : b0 < 248) (_hn : 4 ≤ n) (k1 : 128 ≤ b1) (k1' : b1 < 192) (k2 : 128 ≤ b2) (k2' : b2 < 192) (k3 : 128 ≤ b3) (k3' : b3 < 192) (hN : 65536 ≤ 64 * (64 * (64 * (b0 - 240) + (b1 - 128)) + (b2 - 128)) + (b3 - 128)) (hM : 64 * (64 * (64 * (b0 - 240) + (b1 - 128)) + (b2 - 128)) + (b3 - 128) ≤ 1114111) : stepN n b0 b1 b2 b3 = (64 * (64 * (64 * (b0 - 240) + (b1 - 128)) + (b2 - 128)) + (b3 - 128), 4) := by
  refine stepN_of _ _ _ _ _ _ (.inr ⟨?_, .inr (by simp)⟩)
  unfold Lib.decodeN
  (repeat' split) <;> first | (exfalso; omega) | (apply Prod.ext <;> simp only <;> omega)

theorem at0_s {s : ByteArray} {k : Nat} (h : k < s.size) : at0 s.data.toList k = s[k].toNat := by
  unfold at0
  rw [List.getD_eq_getElem?_getD, List.getElem?_eq_getElem (by simpa using h)]
  rfl

theorem fin_ii {l : List UInt8} {x : Nat × Nat} {a b : Int} (h : stepL l = x) (ha : a = (x.1 : Int)) (hb : b = (x.2 : Int)) : Ending.returned (.tuple #[.int .i64 a, .int .i64 b]) = .returned (.tuple #[.int .i64 ((stepL l).1 : Nat), .int .i64 ((stepL l).2 : Nat)]) := by rw [h, ha, hb]

end Go.Proofs.YtbhiabcgjnfpoaaGreatDoor

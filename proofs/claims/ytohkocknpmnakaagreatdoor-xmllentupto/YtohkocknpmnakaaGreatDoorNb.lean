/-
  numbered, characterOf, reference.
-/
import Derived.Test.YtohkocknpmnakaaGreatDoorNu
namespace Go.Proofs.YtohkocknpmnakaaGreatDoor
open Go.RowKit

/-- A character, or none. -/
def NmR (o : Option Nat) (e : Ending) : Prop :=
  (∃ n, o = some n ∧ e = .returned (.tuple #[.int .i32 (n : Int), .bool true])) ∨ (o = none ∧ e = .returned (.tuple #[.int .i32 0, .bool false]))
set_option maxRecDepth 20000 in
set_option maxHeartbeats 1600000 in
theorem numbered_any (b : Nat) (hb : b = 10 ∨ b = 16) (s : ByteArray) (w : World) (h8 : s.size ≤ 8) (he : Er w) :
    Calls Tryz.prog 94 #[.string s, .int .i64 (b : Int)] w fun e w' => NmR (numN b s.data.toList) e ∧ Below w.heap.size w w' := by
  have hlen : s.data.toList.length = s.size := by simp
  have K := parsePub_any b hb s w h8 he
  have hb16 : b ≤ 16 := by omega
  obtain ⟨O, hO⟩ : ∃ O, O = numN b s.data.toList := ⟨_, rfl⟩
  rw [← hO]
  have HO : Hid (O = numN b s.data.toList) := hO
  have HL : Hid (s.data.toList.length = s.size ∧ b ≤ 16) := ⟨hlen, hb16⟩
  obtain ⟨X, hX⟩ : ∃ X : Int, X = (b : Int) := ⟨_, rfl⟩
  rw [← hX] at K
  rw [← hX]
  clear hX hO hb hb16 hlen he
  by_cases h7 : s.size ≤ 7
  · have h7i : ¬ (7 : Int) < (s.size : Int) := by omega
    go_enter Tryz.func94, Tryz.ntmps94
    go_wp2_with fail
    refine K.mono ?_
    rintro e w1 ⟨hp, hb1⟩
    unfold PbR at hp
    have HB : Hid (Below w.heap.size w w1) := hb1
    clear hb1
    split at hp
    · next hc =>
      obtain ⟨M, rfl⟩ := hp
      have HN : Hid (O = none) := by
        show _ = _
        rw [HO.out]
        unfold numN
        rcases hc with h | h
        · rw [h]; rfl
        · rw [h]; split <;> rfl
      clear hc K
      go_wp2
      go_ret2
      exact ⟨.inr ⟨HN.out, rfl⟩, HB.out⟩
    · next hc =>
      obtain ⟨n, hn, rfl⟩ := hp
      have hnl : n < 268435456 := by
        have := digs_lt b HL.out.2 _ _ _ hn
        have h2 : 16 ^ s.data.toList.length ≤ 16 ^ 7 := Nat.pow_le_pow_right (by omega) (by rw [HL.out.1]; exact h7)
        omega
      have HN : Hid (O = if chN n then some n else none) := by
        show _ = _
        rw [HO.out]
        unfold numN
        have : s.data.toList ≠ [] := fun h => hc (.inl h)
        have hp := List.length_pos_iff.2 this
        rw [if_pos ⟨hp, by rw [HL.out.1]; exact h7⟩, hn]
        rfl
      have HV := (show Hid (∀ W, Calls Tryz.prog 108 #[.int .i32 (n : Int)] W fun e w' => e = .returned (.bool (Lib.validRune (n : Int))) ∧ w' = W) from fun W => utf8_ValidRune _ W)
      have hw : IntKind.i32.wrap (n : Int) = (n : Int) := by
        simp [IntKind.wrap, IntKind.bits, IntKind.signed]
        omega
      clear hc K hn
      by_cases hv : n < 55296 ∨ (57343 < n ∧ n ≤ 1114111)
      · have hvt : Lib.validRune (n : Int) = true := by
          unfold Lib.validRune
          simp
          omega
        rw [hvt] at HV
        have hlg := enc_legal n hv
        have hsz : (Utf8.encode (n : Int)).size ≤ 4 := encode_size_le _
        have hcv : ∀ W, (convert 21 9 (.int .i32 (n : Int))).run Tryz.prog W = .ok (.string (Utf8.encode (n : Int))) W := fun W =>
          run_convert_int_string W 21 9 .i32 n (by rw [Tryz.underlying21]; rfl) Tryz.underlying9
        have HLg := (show Hid (∀ W, Calls Tryz.prog 26 #[.string (Utf8.encode (n : Int))] W fun e w' => e = .returned (.bool (chN n)) ∧ Below W.heap.size W w') from fun W => by
          rw [← hlg]
          exact legal_any _ W (by unfold maxLen; omega))
        clear hlg hvt hv
        generalize Utf8.encode (n : Int) = t at *
        generalize chN n = c at *
        cases c
        · go_wp2_with (go_at_call 108; refine (HV.out _).mono ?_; rintro e w' ⟨rfl, rfl⟩)
          refine (HLg.out _).mono ?_
          rintro e w2 ⟨rfl, hb2⟩
          have HB2 := (show Hid (Below w.heap.size w w2) from HB.out.trans (hb2.mono HB.out.size))
          clear hb2
          go_wp2
          go_ret2
          exact ⟨.inr ⟨HN.out, rfl⟩, HB2.out⟩
        · go_wp2_with (go_at_call 108; refine (HV.out _).mono ?_; rintro e w' ⟨rfl, rfl⟩)
          refine (HLg.out _).mono ?_
          rintro e w2 ⟨rfl, hb2⟩
          have HB2 := (show Hid (Below w.heap.size w w2) from HB.out.trans (hb2.mono HB.out.size))
          clear hb2
          go_wp2
          go_ret2
          exact ⟨.inl ⟨n, HN.out, rfl⟩, HB2.out⟩
      · have hvf : Lib.validRune (n : Int) = false := by
          unfold Lib.validRune
          simp
          omega
        rw [hvf] at HV
        have HN2 : Hid (O = none) := by
          have := HN.out
          rw [if_neg (fun h => hv (ch_valid h))] at this
          exact this
        clear hvf hv
        go_wp2_with (go_at_call 108; refine (HV.out _).mono ?_; rintro e w' ⟨rfl, rfl⟩)
        go_ret2
        exact ⟨.inr ⟨HN2.out, rfl⟩, HB.out⟩
  · have h7i : (7 : Int) < (s.size : Int) := by omega
    have HN : Hid (O = none) := by
      show _ = _
      rw [HO.out]
      unfold numN
      rw [if_neg (by rw [HL.out.1]; omega)]
    go_enter Tryz.func94, Tryz.ntmps94
    go_wp2_with fail
    refine K.mono ?_
    rintro e w1 ⟨hp, hb1⟩
    unfold PbR at hp
    have HB : Hid (Below w.heap.size w w1) := hb1
    clear hb1 K
    split at hp
    · obtain ⟨M, rfl⟩ := hp
      go_wp2
      go_ret2
      exact ⟨.inr ⟨HN.out, rfl⟩, HB.out⟩
    · obtain ⟨n, hn, rfl⟩ := hp
      clear hn
      generalize hW : IntKind.i32.wrap (n : Int) = z
      clear hW
      go_wp2
      go_ret2
      exact ⟨.inr ⟨HN.out, rfl⟩, HB.out⟩

/-- The character of what stands between '&' and ';'. -/
def entN (a : List UInt8) : Option Nat :=
  if a = [97, 109, 112] then some 38 else if a = [108, 116] then some 60 else if a = [103, 116] then some 62 else if a = [113, 117, 111, 116] then some 34 else if a = [97, 112, 111, 115] then some 39
  else match eat [35, 120] a with
  | some ds => numN 16 ds
  | none => (eat [35] a).bind (numN 10)
theorem entL_N (a : List UInt8) : entL a = (entN a).map fun n => Lib.encodeRune (n : Int) := by
  unfold entL entN
  by_cases h1 : a = [97, 109, 112]
  · subst h1; decide
  · rw [if_neg h1, if_neg h1]
    by_cases h2 : a = [108, 116]
    · subst h2; decide
    · rw [if_neg h2, if_neg h2]
      by_cases h3 : a = [103, 116]
      · subst h3; decide
      · rw [if_neg h3, if_neg h3]
        by_cases h4 : a = [113, 117, 111, 116]
        · subst h4; decide
        · rw [if_neg h4, if_neg h4]
          by_cases h5 : a = [97, 112, 111, 115]
          · subst h5; decide
          · rw [if_neg h5, if_neg h5]
            cases eat [35, 120] a with
            | some ds => exact numL_N 16 ds
            | none =>
              cases eat [35] a with
              | none => rfl
              | some ds => exact numL_N 10 ds
theorem cutp_eat (p l : List UInt8) : Lib.hasPrefix l p = (eat p l).isSome ∧ Lib.trimPrefix l p = (eat p l).getD l := by
  unfold eat Lib.trimPrefix
  split
  · next h => exact ⟨by rw [h]; rfl, rfl⟩
  · next h => exact ⟨by simpa using h, rfl⟩
theorem eat_amp (p a : List UInt8) : eat (38 :: p) (38 :: a) = eat p a := by
  unfold eat Lib.hasPrefix
  simp [List.isPrefixOf]
end Go.Proofs.YtohkocknpmnakaaGreatDoor

/-
  A character told by its number.
-/
import Derived.Test.YtohkocknpmnakaaGreatDoorPu
import Derived.Test.YtohkocknpmnakaaGreatDoorStep
namespace Go.Proofs.YtohkocknpmnakaaGreatDoor
open Go.RowKit

/-- The bytes of a character, as numbers. -/
theorem enc_list (n : Nat) (hv : n < 55296 ∨ (57343 < n ∧ n ≤ 1114111)) : (Utf8.encode (n : Int)).data.toList = if n < 128 then [UInt8.ofNat n] else if n < 2048 then [UInt8.ofNat (192 + n / 64), UInt8.ofNat (128 + n % 64)] else if n < 65536 then [UInt8.ofNat (224 + n / 4096), UInt8.ofNat (128 + n / 64 % 64), UInt8.ofNat (128 + n % 64)] else [UInt8.ofNat (240 + n / 262144), UInt8.ofNat (128 + n / 4096 % 64), UInt8.ofNat (128 + n / 64 % 64), UInt8.ofNat (128 + n % 64)] := by
  have h1 : Utf8.valid (n : Int) = true := by
    rw [validRune_eq]
    unfold Go.validRune
    rw [decide_eq_true_eq]
    omega
  unfold Utf8.encode
  simp only [h1, if_true, Int.toNat_natCast]
  split
  · rfl
  · split
    · rfl
    · split <;> rfl
theorem enc_rune (n : Nat) (hv : n < 55296 ∨ (57343 < n ∧ n ≤ 1114111)) : Lib.encodeRune (n : Int) = (Utf8.encode (n : Int)).data.toList := by
  rw [enc_list n hv]
  unfold Lib.encodeRune
  by_cases a : n < 128
  · rw [if_pos a, Lib.encodeRuneZ_one (by omega) (by omega)]
    simp
  · rw [if_neg a]
    by_cases b : n < 2048
    · rw [if_pos b, Lib.encodeRuneZ_two (by omega) (by omega)]
      simp only [List.map_cons, List.map_nil, List.cons.injEq, and_true]
      exact ⟨congrArg UInt8.ofNat (by omega), congrArg UInt8.ofNat (by omega)⟩
    · rw [if_neg b]
      by_cases c : n < 65536
      · rw [if_pos c, Lib.encodeRuneZ_three (by omega)]
        simp only [List.map_cons, List.map_nil, List.cons.injEq, and_true]
        exact ⟨congrArg UInt8.ofNat (by omega), congrArg UInt8.ofNat (by omega), congrArg UInt8.ofNat (by omega)⟩
      · rw [if_neg c, Lib.encodeRuneZ_four (by omega) (by omega)]
        simp only [List.map_cons, List.map_nil, List.cons.injEq, and_true]
        exact ⟨congrArg UInt8.ofNat (by omega), congrArg UInt8.ofNat (by omega), congrArg UInt8.ofNat (by omega), congrArg UInt8.ofNat (by omega)⟩
theorem at0_of (l : List UInt8) (k : Nat) (x : Nat) (h : l[k]? = some (UInt8.ofNat x)) (hx : x < 256) : at0 l k = x := by
  unfold at0
  rw [List.getD_eq_getElem?_getD, h]
  simp
  omega
/-- A character's bytes are read as it. -/
theorem enc_step (n : Nat) (hv : n < 55296 ∨ (57343 < n ∧ n ≤ 1114111)) : stepL (Utf8.encode (n : Int)).data.toList = (n, (Utf8.encode (n : Int)).data.toList.length) := by
  rw [enc_list n hv, stepL_N]
  by_cases a : n < 128
  · rw [if_pos a, at0_of [UInt8.ofNat n] 0 n rfl (by omega), st_ascii a]
    rfl
  · rw [if_neg a]
    by_cases b : n < 2048
    · rw [if_pos b, at0_of _ 0 (192 + n / 64) rfl (by omega), at0_of _ 1 (128 + n % 64) rfl (by omega), st2_in (by omega) (by omega) (by simp) (by omega) (by omega) (by omega)]
      simp only [List.length_cons, List.length_nil, Prod.mk.injEq, and_true]
      omega
    · rw [if_neg b]
      by_cases c : n < 65536
      · rw [if_pos c, at0_of _ 0 (224 + n / 4096) rfl (by omega), at0_of _ 1 (128 + n / 64 % 64) rfl (by omega), at0_of _ 2 (128 + n % 64) rfl (by omega), st3_in (by omega) (by omega) (by simp) (by omega) (by omega) (by omega) (by omega) (by omega) (by omega)]
        simp only [List.length_cons, List.length_nil, Prod.mk.injEq, and_true]
        omega
      · rw [if_neg c, at0_of _ 0 (240 + n / 262144) rfl (by omega), at0_of _ 1 (128 + n / 4096 % 64) rfl (by omega), at0_of _ 2 (128 + n / 64 % 64) rfl (by omega), at0_of _ 3 (128 + n % 64) rfl (by omega), st4_in (by omega) (by omega) (by simp) (by omega) (by omega) (by omega) (by omega) (by omega) (by omega) (by omega) (by omega)]
        simp only [List.length_cons, List.length_nil, Prod.mk.injEq, and_true]
        omega
theorem enc_pos (n : Nat) (hv : n < 55296 ∨ (57343 < n ∧ n ≤ 1114111)) : 1 ≤ (Utf8.encode (n : Int)).data.toList.length := by
  rw [enc_list n hv]
  split
  · simp
  · split
    · simp
    · split <;> simp
theorem ch_xml (n : Nat) (hv : n < 55296 ∨ (57343 < n ∧ n ≤ 1114111)) : xmlP n = chN n := by
  have h1 : xmlP n = true ↔ ((n : Int) = 9 ∨ (n : Int) = 10 ∨ (n : Int) = 13 ∨ (32 ≤ (n : Int) ∧ (n : Int) ≠ 65534 ∧ (n : Int) ≠ 65535)) := by
    unfold xmlP xmlB
    exact decide_eq_true_iff
  have h2 : chN n = true ↔ (n = 9 ∨ n = 10 ∨ n = 13 ∨ (32 ≤ n ∧ n ≤ 55295) ∨ (57344 ≤ n ∧ n ≤ 65533) ∨ (65536 ≤ n ∧ n ≤ 1114111)) := by
    unfold chN
    exact decide_eq_true_iff
  rw [Bool.eq_iff_iff, h1, h2]
  omega
theorem enc_legal (n : Nat) (hv : n < 55296 ∨ (57343 < n ∧ n ≤ 1114111)) : (cntP xmlP (Utf8.encode (n : Int)).data.toList).isSome = chN n := by
  have hs := enc_step n hv
  have hp := enc_pos n hv
  have hx := ch_xml n hv
  generalize (Utf8.encode (n : Int)).data.toList = l at *
  have hne : l ≠ [] := by intro h; rw [h] at hp; simp at hp
  have hst := cntP_step xmlP l hne
  rw [hs] at hst
  simp only [List.drop_length, cntP_nil, hx] at hst
  rw [hst]
  have hl0 : ¬ l.length = 0 := by omega
  generalize chN n = b
  cases b
  · simp
  · simp [hl0]

def numN (b : Nat) (ds : List UInt8) : Option Nat :=
  if 1 ≤ ds.length ∧ ds.length ≤ 7 then (digs b 0 ds).bind fun n => if chN n then some n else none else none
theorem numL_N (b : Nat) (ds : List UInt8) : numL b ds = (numN b ds).map fun n => Lib.encodeRune (n : Int) := by
  unfold numL numN
  split
  · cases digs b 0 ds with
    | none => rfl
    | some n =>
      simp only [Option.bind_some]
      split <;> rfl
  · rfl
theorem digs_lt (b : Nat) (hb : b ≤ 16) : ∀ (l : List UInt8) (n m : Nat), digs b n l = some m → m < (n + 1) * 16 ^ l.length
  | [], n, m, h => by
    simp only [digs, Option.some.injEq] at h
    subst h
    simp
  | c :: r, n, m, h => by
    simp only [digs] at h
    split at h
    · next hd =>
      have := digs_lt b hb r _ m h
      rw [List.length_cons, Nat.pow_succ]
      have hle : b * n + dv c + 1 ≤ (n + 1) * 16 := by
        have : b * n ≤ 16 * n := Nat.mul_le_mul_right n hb
        omega
      have h2 : (b * n + dv c + 1) * 16 ^ r.length ≤ (n + 1) * 16 * 16 ^ r.length := Nat.mul_le_mul_right _ hle
      have h3 : (n + 1) * 16 * 16 ^ r.length = (n + 1) * (16 ^ r.length * 16) := by rw [Nat.mul_assoc, Nat.mul_comm 16]
      omega
    · cases h
theorem ch_valid {n : Nat} (h : chN n = true) : n < 55296 ∨ (57343 < n ∧ n ≤ 1114111) := by
  unfold chN at h
  rw [decide_eq_true_eq] at h
  omega
/-- What ParseUint tells. -/
def PbR (b : Nat) (l : List UInt8) (e : Ending) : Prop :=
  if l = [] ∨ digs b 0 l = none then ∃ N, e = .returned (.tuple #[.int .u64 0, .iface 147 (.pointer (some ⟨N, 0, none⟩))])
  else ∃ n, digs b 0 l = some n ∧ e = .returned (.tuple #[.int .u64 (n : Int), .nilIface])
set_option maxRecDepth 20000 in
set_option maxHeartbeats 1600000 in
theorem parsePub_any (b : Nat) (hb : b = 10 ∨ b = 16) (s : ByteArray) (w : World) (h8 : s.size ≤ 8) (he : Er w) :
    Calls Tryz.prog 107 #[.string s, .int .i64 (b : Int), .int .i64 32] w fun e w' => PbR b s.data.toList e ∧ Below w.heap.size w w' := by
  have hlen : s.data.toList.length = s.size := by simp
  have HT := (show Hid (∀ W, Er W → Calls Tryz.prog 117 #[.string ⟨#[80, 97, 114, 115, 101, 85, 105, 110, 116]⟩, .string s, .int .i64 (b : Int), .int .i64 32, .iface 145 (.int .i64 2)] W fun e w' => ∃ N, e = .returned (.iface 147 (.pointer (some ⟨N, 0, none⟩))) ∧ Below W.heap.size W w') from fun W hW => by
    obtain ⟨ev, h1, h2⟩ := hW
    refine (strconv_toError_syntax _ s (b : Int) 32 ev W (by omega) h1 h2).mono ?_
    rintro e w' ⟨M, h3, -, -, h4⟩
    exact ⟨M, h3, h4⟩)
  have HE : Hid (Er w) := he
  have HI : Hid (Calls Tryz.prog 116 #[.string s, .int .i64 (b : Int), .int .i64 32] w fun e w' => ((∃ n, s.data.toList ≠ [] ∧ digs b 0 s.data.toList = some n ∧ e = .returned (.tuple #[.int .u64 (n : Int), .nilIface])) ∨ ((s.data.toList = [] ∨ digs b 0 s.data.toList = none) ∧ e = .returned (.tuple #[.int .u64 0, .iface 145 (.int .i64 2)]))) ∧ Below w.heap.size w w') := by
    by_cases h1 : 1 ≤ s.size
    · refine (parseUint_any b hb s w h1 h8).mono ?_
      rintro e w' ⟨h2, h3⟩
      refine ⟨?_, h3⟩
      unfold PuR at h2
      split at h2
      · next n hn => exact .inl ⟨n, by intro h; rw [h] at hlen; simp at hlen; omega, hn, h2⟩
      · next hn => exact .inr ⟨.inr hn, h2⟩
    · have hnil : s.data.toList = [] := List.eq_nil_of_length_eq_zero (by omega)
      have hse : s.toList.isEmpty = true := by rw [Lib.toList_data, hnil]; rfl
      have HNL : Hid (s.data.toList = []) := hnil
      clear hnil he HT HE
      go_enter Tryz.func116, Tryz.ntmps116
      go_wp2
      go_ret2
      exact ⟨.inr ⟨.inl HNL.out, rfl⟩, Below.refl _ _⟩
  clear he hb
  obtain ⟨X, hX⟩ : ∃ X : Int, X = (b : Int) := ⟨_, rfl⟩
  rw [← hX] at HT HI
  rw [← hX]
  clear hX
  go_enter Tryz.func107, Tryz.ntmps107
  go_wp2_with fail
  refine HI.out.mono ?_
  rintro e w1 ⟨⟨n, h1, h2, rfl⟩ | ⟨h1, rfl⟩, hb1⟩
  · have H1 := (show Hid (s.data.toList ≠ [] ∧ digs b 0 s.data.toList = some n ∧ Below w.heap.size w w1) from ⟨h1, h2, hb1⟩)
    clear h1 h2 hb1
    go_wp2
    go_ret2
    refine ⟨?_, H1.out.2.2⟩
    unfold PbR
    rw [if_neg (by rw [H1.out.2.1]; simp [H1.out.1])]
    exact ⟨n, H1.out.2.1, rfl⟩
  · have H1 := (show Hid ((s.data.toList = [] ∨ digs b 0 s.data.toList = none) ∧ Below w.heap.size w w1) from ⟨h1, hb1⟩)
    have K := HT.out w1 (HE.out.md (Md.ofBelow (F := fun _ => False) hb1) (fun h => h))
    clear h1 hb1
    go_wp2_with fail
    refine K.mono ?_
    rintro e w2 ⟨M, rfl, hb2⟩
    have H2 := (show Hid (Below w.heap.size w w2) from H1.out.2.trans (hb2.mono (H1.out.2.size)))
    clear hb2 K
    go_wp2
    go_ret2
    refine ⟨?_, H2.out⟩
    unfold PbR
    rw [if_pos H1.out.1]
    exact ⟨M, rfl⟩
end Go.Proofs.YtohkocknpmnakaaGreatDoor

/-
  There and back: decimal digits.
-/
import Derived.Test.YtbhiabcgjnfpoaaGreatDoorRun21
import Derived.Test.YtbhiabcgjnfpoaaGreatDoorRun20
import Derived.Test.YtbhiabcgjnfpoaaGreatDoorPkV
namespace Go.Proofs.YtbhiabcgjnfpoaaGreatDoor.En

theorem dig_bd {c : Nat} (h : c < 10) : nth [UInt8.ofNat (48 + c)] 0 = 48 + (c : Int) := by
  show ((UInt8.ofNat (48 + c)).toNat : Int) = _
  rw [UInt8.toNat_ofNat', Nat.mod_eq_of_lt (by omega)]
  omega
theorem nth_left {x y : List UInt8} {i : Nat} (h : i < x.length) : nth (x ++ y) i = nth x i := by
  rw [nth, nth, List.getD, List.getD, List.getElem?_append_left h]
theorem ival_left {x y : List UInt8} : ∀ k, k ≤ x.length → ival (x ++ y) k = ival x k
  | 0, _ => rfl
  | k + 1, h => by rw [ival, ival, ival_left k (by omega), nth_left (by omega)]
theorem dec_int : ∀ n : Nat, ival (Lib.decDigits n) (Lib.decDigits n).length = (n : Int) ∧ (∀ i, i < (Lib.decDigits n).length → dvOk (nth (Lib.decDigits n) i) = true) ∧ 1 ≤ (Lib.decDigits n).length ∧ (1 < (Lib.decDigits n).length → nth (Lib.decDigits n) 0 ≠ 48) ∧ (∀ m, n < 10 ^ m → 1 ≤ m → (Lib.decDigits n).length ≤ m) ∧ (1 ≤ n → nth (Lib.decDigits n) 0 ≠ 48) := by
  intro n
  induction n using Nat.strongRecOn with
  | _ n ih =>
    by_cases h : n < 10
    · have e : Lib.decDigits n = [UInt8.ofNat (48 + n)] := by rw [Lib.decDigits, dif_pos h]
      have hd := dig_bd h
      rw [e]
      refine ⟨?_, ?_, by simp, by simp, ?_, ?_⟩
      · show ival _ 1 = _
        rw [ival, ival, hd, (dv1 (by omega) (by omega)).1]
        omega
      · intro i hi
        obtain rfl : i = 0 := by simp at hi; omega
        rw [hd]
        exact (dv1 (by omega) (by omega)).2
      · intro m _ hm
        simpa using hm
      · intro h1
        rw [hd]
        omega
    · have e : Lib.decDigits n = Lib.decDigits (n / 10) ++ [UInt8.ofNat (48 + n % 10)] := by rw [Lib.decDigits, dif_neg h]
      obtain ⟨i1, i2, i3, i4, i5, i6⟩ := ih (n / 10) (by omega)
      have hd := dig_bd (c := n % 10) (by omega)
      have hl : (Lib.decDigits n).length = (Lib.decDigits (n / 10)).length + 1 := by rw [e]; simp
      have hlast : nth (Lib.decDigits n) (Lib.decDigits (n / 10)).length = 48 + ((n % 10 : Nat) : Int) := by
        rw [e, ← hd, nth, nth, List.getD, List.getD, List.getElem?_append_right (Nat.le_refl _), Nat.sub_self]
      refine ⟨?_, ?_, by omega, ?_, ?_, ?_⟩
      · rw [hl, ival, hlast, (dv1 (by omega) (by omega)).1]
        rw [e, ival_left _ (Nat.le_refl _), i1]
        omega
      · intro i hi
        by_cases hlt : i < (Lib.decDigits (n / 10)).length
        · rw [e, nth_left hlt]
          exact i2 i hlt
        · obtain rfl : i = (Lib.decDigits (n / 10)).length := by omega
          rw [hlast]
          exact (dv1 (by omega) (by omega)).2
      · intro _
        rw [e, nth_left (by omega)]
        exact i6 (by omega)
      · intro m hm h1
        rw [hl]
        match m, h1 with
        | 1, _ => simp at hm; omega
        | m + 2, _ =>
          have := i5 (m + 1) (by rw [Nat.pow_succ] at hm; omega) (by omega)
          omega
      · intro _
        rw [e, nth_left (by omega)]
        exact i6 (by omega)
theorem int_text (n : Nat) (hn : n < 1000000000000000000) : intOk (Lib.decDigits n) = true ∧ intV (Lib.decDigits n) = (n : Int) := by
  obtain ⟨i1, i2, i3, i4, i5, _⟩ := dec_int n
  have hok : intOk (Lib.decDigits n) = true := intOk_all i3 (i5 18 (by simpa using hn) (by decide)) i4 i2
  exact ⟨hok, by rw [intV_yes hok]; exact i1⟩
end Go.Proofs.YtbhiabcgjnfpoaaGreatDoor.En
/-
  Mathematics: a version that is packed is read back.
-/
namespace Go.Proofs.YtbhiabcgjnfpoaaGreatDoor
open Go.RowKit

theorem stt_pack {L : List ByteArray} (h : ∀ s ∈ L, s.size < 4294967296) : stt (En.packL L) = some L := by
  unfold stt
  rw [(En.uL_pack h).1, (En.uL_pack h).2]
  rfl

theorem tx_back (n : Int) (h0 : 0 ≤ n) (h1 : n < 1000000000000000000) : nuG (tx n) = true ∧ En.intV (tx n).data.toList = n := by
  obtain ⟨k, rfl⟩ := Int.eq_ofNat_of_zero_le h0
  have h := En.int_text k (by omega)
  have e : (tx (k : Int)).data.toList = Lib.decDigits k := by
    show (Lib.itoa (k : Int)).toArray.toList = _
    rw [Lib.itoa_nonneg]
  unfold nuG
  rw [e]
  exact h

theorem tk_num {n : Int} (h0 : 0 ≤ n) (h1 : n < 1000000000000000000) (R : List ByteArray) : tkS nuG (some (tx n :: R)) = some R ∧ nuV (some (tx n :: R)) = n := by
  obtain ⟨a, b⟩ := tx_back n h0 h1
  exact ⟨by show (if nuG (tx n) then some R else none) = _; rw [a]; rfl, b⟩
theorem tk_txt (x : ByteArray) (R : List ByteArray) : tkS T1 (some (x :: R)) = some R ∧ txV (some (x :: R)) = x := ⟨rfl, rfl⟩
theorem tk_flg (b : Bool) (R : List ByteArray) : tkS flOk (some (flF b :: R)) = some R ∧ fgV (some (flF b :: R)) = b := by
  cases b <;> exact ⟨by simp only [tkS, flOk, flF, ByteArray.toList_eq]; rfl, by simp only [fgV, flV, flF, ByteArray.toList_eq]; rfl⟩

theorem rp_back : ∀ (H : List (ByteArray × ByteArray)) (R : List ByteArray), rpS prS H.length (some (prF H ++ R)) = some R ∧ rpV prV prS H.length (some (prF H ++ R)) = H
  | [], _ => ⟨rfl, rfl⟩
  | (x, y) :: H, R => by
    obtain ⟨a, b⟩ := rp_back H R
    exact ⟨a, congrArg ((x, y) :: ·) b⟩
theorem ls_back (H : List (ByteArray × ByteArray)) (R : List ByteArray) (hn : H.length ≤ 1048576) : lsS prS (some ((tx H.length :: prF H) ++ R)) = some R ∧ lsV prV prS (some ((tx H.length :: prF H) ++ R)) = H := by
  obtain ⟨a, b⟩ := tk_num (n := (H.length : Int)) (by omega) (by omega) (prF H ++ R)
  obtain ⟨c, d⟩ := rp_back H R
  unfold lsS lsV
  rw [List.cons_append, a, b, Int.toNat_natCast]
  exact ⟨c, d⟩

/-- What is read of a version's own fields. -/
theorem ver_back (key etag typ : ByteArray) (seq size time start rsz : Int) (nul mar : Bool) (H T : List (ByteArray × ByteArray)) (nH : H.length ≤ 1048576) (nT : T.length ≤ 1048576)
    (b1 : 0 ≤ seq ∧ seq < 1000000000000000000) (b2 : 0 ≤ size ∧ size < 1000000000000000000) (b3 : 0 ≤ time ∧ time < 1000000000000000000) (b4 : 0 ≤ start ∧ start < 1000000000000000000) (b5 : 0 ≤ rsz ∧ rsz < 1000000000000000000)
    (st : Option (List ByteArray)) (hst : st = some (verF key etag typ seq size time start rsz nul mar H T)) :
    vs11 st = some [] ∧ txV st = key ∧ nuV (vs1 st) = seq ∧ fgV (vs2 st) = nul ∧ fgV (vs3 st) = mar ∧ txV (vs4 st) = etag ∧ nuV (vs5 st) = size ∧ nuV (vs6 st) = time ∧ txV (vs7 st) = typ ∧ lsV prV prS (vs8 st) = H ∧ lsV prV prS (vs9 st) = T ∧ nuV (vs10 st) = start ∧ nuV (tkS nuG (vs10 st)) = rsz := by
  have R10 : ∀ z, z = [tx start, tx rsz] → ∀ z9, z9 = (tx T.length :: prF T) ++ z → ∀ z8, z8 = (tx H.length :: prF H) ++ z9 → ∀ st, st = some (key :: tx seq :: flF nul :: flF mar :: etag :: tx size :: tx time :: typ :: z8) → vs11 st = some [] ∧ txV st = key ∧ nuV (vs1 st) = seq ∧ fgV (vs2 st) = nul ∧ fgV (vs3 st) = mar ∧ txV (vs4 st) = etag ∧ nuV (vs5 st) = size ∧ nuV (vs6 st) = time ∧ txV (vs7 st) = typ ∧ lsV prV prS (vs8 st) = H ∧ lsV prV prS (vs9 st) = T ∧ nuV (vs10 st) = start ∧ nuV (tkS nuG (vs10 st)) = rsz := by
    intro z hz z9 hz9 z8 hz8 st hst
    have e1 : vs1 st = some (tx seq :: flF nul :: flF mar :: etag :: tx size :: tx time :: typ :: z8) := by rw [hst]; rfl
    have e2 : vs2 st = some (flF nul :: flF mar :: etag :: tx size :: tx time :: typ :: z8) := by unfold vs2; rw [e1]; exact (tk_num b1.1 b1.2 _).1
    have e3 : vs3 st = some (flF mar :: etag :: tx size :: tx time :: typ :: z8) := by unfold vs3; rw [e2]; exact (tk_flg _ _).1
    have e4 : vs4 st = some (etag :: tx size :: tx time :: typ :: z8) := by unfold vs4; rw [e3]; exact (tk_flg _ _).1
    have e5 : vs5 st = some (tx size :: tx time :: typ :: z8) := by unfold vs5; rw [e4]; rfl
    have e6 : vs6 st = some (tx time :: typ :: z8) := by unfold vs6; rw [e5]; exact (tk_num b2.1 b2.2 _).1
    have e7 : vs7 st = some (typ :: z8) := by unfold vs7; rw [e6]; exact (tk_num b3.1 b3.2 _).1
    have e8 : vs8 st = some z8 := by unfold vs8; rw [e7]; rfl
    have e9 : vs9 st = some z9 := by unfold vs9; rw [e8, hz8]; exact (ls_back H z9 nH).1
    have e10 : vs10 st = some z := by unfold vs10; rw [e9, hz9]; exact (ls_back T z nT).1
    have e11 : tkS nuG (vs10 st) = some [tx rsz] := by rw [e10, hz]; exact (tk_num b4.1 b4.2 _).1
    refine ⟨?_, ?_, ?_, ?_, ?_, ?_, ?_, ?_, ?_, ?_, ?_, ?_, ?_⟩
    · unfold vs11; rw [e11]; exact (tk_num b5.1 b5.2 _).1
    · rw [hst]; rfl
    · rw [e1]; exact (tk_num b1.1 b1.2 _).2
    · rw [e2]; exact (tk_flg _ _).2
    · rw [e3]; exact (tk_flg _ _).2
    · rw [e4]; rfl
    · rw [e5]; exact (tk_num b2.1 b2.2 _).2
    · rw [e6]; exact (tk_num b3.1 b3.2 _).2
    · rw [e7]; rfl
    · rw [e8, hz8]; exact (ls_back H z9 nH).2
    · rw [e9, hz9]; exact (ls_back T z nT).2
    · rw [e10, hz]; exact (tk_num b4.1 b4.2 _).2
    · rw [e11]; exact (tk_num b5.1 b5.2 _).2
  exact R10 _ rfl _ rfl _ rfl st hst
end Go.Proofs.YtbhiabcgjnfpoaaGreatDoor

/-
  The rounds of MD5 in plain terms, and (*md5State).mix by its contract.
-/
import Derived.Test.YtnmffehmjgknkaaGreatDoorWords
import Derived.Test.YtnmffehmjgknkaaGreatDoorCrc
import Derived.BigRegion
namespace Go.Proofs.YtnmffehmjgknkaaGreatDoor
open Go.RowKit

/-- Four bytes as a word, the lowest first. -/
def le4 (l : List UInt8) (k : Nat) : Wd := bw (l.getD k 0) ||| bw (l.getD (k + 1) 0) <<< 8 ||| bw (l.getD (k + 2) 0) <<< 16 ||| bw (l.getD (k + 3) 0) <<< 24
/-- The words of a block, made so far. -/
def mt (l : List UInt8) (k : Nat) : List Wd := (List.range k).map (fun j => le4 l (4 * j)) ++ zeros (16 - k)
theorem mt_length (l : List UInt8) {k : Nat} (h : k ≤ 16) : (mt l k).length = 16 := by simp [mt, zeros]; omega
theorem mt_set (l : List UInt8) {k : Nat} (h : k < 16) : (mt l k).set k (le4 l (4 * k)) = mt l (k + 1) := by
  unfold mt zeros
  rw [List.range_succ, List.map_append, List.set_append_right _ _ (by simp)]
  simp only [List.length_map, List.length_range, Nat.sub_self]
  rw [show 16 - k = (16 - (k + 1)) + 1 from by omega, List.replicate_succ]
  simp

theorem Bytes.getD {w : World} {b off : Nat} {l : List UInt8} (hc : ∀ j (h : j < l.length), w.cell? ⟨b, off + j, none⟩ = some (.int .u8 (l[j].toNat : Int))) {k : Nat} (hk : k < l.length) :
    w.cell? ⟨b, off + k, none⟩ = some (.int .u8 ((l.getD k 0).toNat : Int)) := by
  rw [hc k hk]
  simp [List.getD, hk]

theorem W_bshl (c : UInt8) (k : Nat) (h : k ≤ 24) : (c.toNat : Int) * (2 : Int) ^ k = W (bw c <<< k) := by
  rw [← W_shlm, W_bw]
  have h1 := c.toNat_lt
  have h2 : (2 : Nat) ^ k ≤ 2 ^ 24 := Nat.pow_le_pow_right (by decide) h
  have h3 : c.toNat * 2 ^ k ≤ 255 * 2 ^ 24 := Nat.mul_le_mul (by omega) h2
  have h5 : (c.toNat : Int) * (2 : Int) ^ k = ((c.toNat * 2 ^ k : Nat) : Int) := by simp
  rw [h5]
  generalize c.toNat * 2 ^ k = n at *
  omega
theorem W_le4 (b0 b1 b2 b3 : UInt8) : bits .or .u32 (bits .or .u32 (bits .or .u32 (b0.toNat : Int) ((b1.toNat : Int) * 256)) ((b2.toNat : Int) * 65536)) ((b3.toNat : Int) * 16777216)
    = W (bw b0 ||| bw b1 <<< 8 ||| bw b2 <<< 16 ||| bw b3 <<< 24) := by
  rw [← W_bw b0, show (256 : Int) = (2 : Int) ^ 8 by decide, show (65536 : Int) = (2 : Int) ^ 16 by decide, show (16777216 : Int) = (2 : Int) ^ 24 by decide, W_bshl _ 8 (by decide), W_bshl _ 16 (by decide), W_bshl _ 24 (by decide), W_or, W_or, W_or]

/-- What a round of MD5 makes of the state: its number, the word of the text. -/
def mF (i : Nat) (b c d : Wd) : Wd := if i < 16 then b &&& c ||| d &&& ~~~ b else if i < 32 then b &&& d ||| c &&& ~~~ d else if i < 48 then b ^^^ c ^^^ d else c ^^^ (b ||| ~~~ d)
def mAt (i : Nat) : Nat := if i < 16 then i else if i < 32 then (5 * i + 1) % 16 else if i < 48 then (3 * i + 5) % 16 else 7 * i % 16
def mTurn (i : Nat) : Nat := [7, 12, 17, 22, 5, 9, 14, 20, 4, 11, 16, 23, 6, 10, 15, 21].getD (i / 16 * 4 + i % 4) 0
theorem turn_at (q k : Nat) (hq : q < 4) (h : k / 16 = q) : ([[7, 12, 17, 22], [5, 9, 14, 20], [4, 11, 16, 23], [6, 10, 15, 21]].getD q [0, 0, 0, 0] : List Int).getD (k % 4) 0 = (mTurn k : Int) := by
  unfold mTurn
  rw [h]
  have hr : k % 4 < 4 := Nat.mod_lt _ (by decide)
  generalize k % 4 = r at *
  match q, hq, r, hr with
  | 0, _, 0, _ => rfl
  | 0, _, 1, _ => rfl
  | 0, _, 2, _ => rfl
  | 0, _, 3, _ => rfl
  | 1, _, 0, _ => rfl
  | 1, _, 1, _ => rfl
  | 1, _, 2, _ => rfl
  | 1, _, 3, _ => rfl
  | 2, _, 0, _ => rfl
  | 2, _, 1, _ => rfl
  | 2, _, 2, _ => rfl
  | 2, _, 3, _ => rfl
  | 3, _, 0, _ => rfl
  | 3, _, 1, _ => rfl
  | 3, _, 2, _ => rfl
  | 3, _, 3, _ => rfl
theorem turn_lt (k : Nat) : mTurn k < 32 := by
  unfold mTurn
  generalize k / 16 * 4 + k % 4 = j
  rcases Nat.lt_or_ge j 16 with h | h
  · revert j
    decide +kernel
  · rw [show List.getD _ j 0 = 0 from by simp [List.getD, List.getElem?_eq_none (show ([7, 12, 17, 22, 5, 9, 14, 20, 4, 11, 16, 23, 6, 10, 15, 21] : List Nat).length ≤ j from h)]]
    decide
structure S4 where
  a : Wd
  b : Wd
  c : Wd
  d : Wd
def mRound (T : Nat → Wd) (i : Nat) (s : S4) : S4 := ⟨s.d, s.b + rotl (s.a + mF i s.b s.c s.d + md5K.getD i 0 + T (mAt i)) (mTurn i), s.b, s.c⟩
def mRounds (T : Nat → Wd) : Nat → S4 → S4
  | 0, s => s
  | n + 1, s => mRound T n (mRounds T n s)
/-- What a block makes of the state. -/
def mMix (l : List UInt8) (s : S4) : S4 :=
  ⟨s.a + (mRounds (fun j => le4 l (4 * j)) 64 s).a, s.b + (mRounds (fun j => le4 l (4 * j)) 64 s).b, s.c + (mRounds (fun j => le4 l (4 * j)) 64 s).c, s.d + (mRounds (fun j => le4 l (4 * j)) 64 s).d⟩
theorem mAt_lt (i : Nat) (_h : i < 64) : mAt i < 16 := by
  unfold mAt
  split
  · omega
  · split
    · omega
    · split <;> omega

theorem rotl_same (x : Wd) (s : Nat) (w : World) (hs : s < 32) : Calls Tryz.prog 233 #[.int .u32 (W x), .int .i64 (s : Int)] w fun e w' => e = .returned (.int .u32 (W (rotl x s))) ∧ w' = w :=
  (rotl_pos x s w hs).mono fun _ _ h => ⟨h.1, h.2.symm⟩

end Go.Proofs.YtnmffehmjgknkaaGreatDoor

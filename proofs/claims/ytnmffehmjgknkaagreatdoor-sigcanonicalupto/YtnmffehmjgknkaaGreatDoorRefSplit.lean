/-
  The document's Split, digits and Bucket by their contracts.
-/
import Derived.Test.YtnmffehmjgknkaaGreatDoorQyA
namespace Go.Proofs.YtnmffehmjgknkaaGreatDoor
open Go.RowKit

def consH (cur : List UInt8) : List (List UInt8) → List (List UInt8)
  | [] => [cur]
  | x :: xs => (cur ++ x) :: xs
theorem consH_nil {S : List (List UInt8)} (h : S ≠ []) : consH [] S = S := by
  cases S with
  | nil => exact absurd rfl h
  | cons x xs => rfl
theorem consH_two (a b : List UInt8) (S : List (List UInt8)) (h : S ≠ []) : consH a (consH b S) = consH (a ++ b) S := by
  cases S with
  | nil => exact absurd rfl h
  | cons x xs => simp [consH]
theorem splitL_at {c : UInt8} {l : List UInt8} {k : Nat} (hk : k < l.length) : splitL c (l.drop k) = if l[k] = c then [] :: splitL c (l.drop (k + 1)) else consH [l[k]] (splitL c (l.drop (k + 1))) := by
  rw [List.drop_eq_getElem_cons hk, splitL]
  split
  · rfl
  · cases h : splitL c (l.drop (k + 1)) with
    | nil => exact absurd h (splitL_ne _ _)
    | cons x xs => rfl
def pieceL (l : List UInt8) (f k : Nat) : List UInt8 := (l.drop f).take (k - f)
theorem pieceL_same (l : List UInt8) (k : Nat) : pieceL l k k = [] := by simp [pieceL]
theorem pieceL_snoc {l : List UInt8} {f k : Nat} (hf : f ≤ k) (hk : k < l.length) : pieceL l f (k + 1) = pieceL l f k ++ [l[k]] := by
  unfold pieceL
  rw [show k + 1 - f = (k - f) + 1 from by omega, List.take_succ_eq_append_getElem (by simp; omega)]
  congr 2
  simp only [List.getElem_drop]
  congr 1
  omega
theorem pieceL_end (l : List UInt8) (f : Nat) : pieceL l f l.length = l.drop f := List.take_of_length_le (by simp)
theorem extract_piece (s : ByteArray) (f k : Nat) : s.extract f k = ⟨(pieceL s.data.toList f k).toArray⟩ := by
  obtain ⟨⟨l⟩⟩ := s
  exact ByteArray.extract_mk l f k

set_option maxHeartbeats 1000000 in
theorem refSplit_any (s : ByteArray) (c : UInt8) (w : World) (hs : s.size < 4294967281) :
    Calls Tryz.prog 64 #[.string s, .int .u8 (c.toNat : Int)] w fun e w' => ∃ v, e = .returned v ∧ OwnS w' w.heap.size v (splitS c s) ∧ Below w.heap.size w w' := by
  obtain ⟨i9, hi, hz0, hz1, hz2⟩ := info_parts info9
  have hL : s.data.toList.length = s.size := by simp
  have HL : Hid (s.data.toList.length = s.size) := hL
  clear hL
  go_enter Tryz.func64, Tryz.ntmps64
  go_wp2
  go_loopw [5, 6, 7] (fun v u i wr => ∃ (f k : Nat) (D : List (List UInt8)), f ≤ k ∧ k ≤ s.size ∧ u = .int .i64 f ∧ i = .int .i64 k ∧ D.length ≤ k ∧ OwnS wr w.heap.size v (D.map fun x => ⟨x.toArray⟩) ∧ Below w.heap.size w wr ∧ splitL c s.data.toList = D ++ consH (pieceL s.data.toList f k) (splitL c (s.data.toList.drop k)))
    (fun _ _ i _ => s.size - (intOf i).toNat)
  case atStart => exact ⟨0, 0, [], Nat.le_refl _, Nat.zero_le _, rfl, rfl, Nat.le_refl _, World.ownsRow_nil _ _ _ _, Below.refl _ _, by rw [pieceL_same, consH_nil (splitL_ne _ _)]; simp⟩
  case round =>
    obtain ⟨f, k, D, hfk, hk, rfl, rfl, hDk, hown, hnx, hc⟩ := hrel
    have hsz := hnx.size
    have HC : Hid (splitL c s.data.toList = D ++ consH (pieceL s.data.toList f k) (splitL c (s.data.toList.drop k))) := hc
    have HO : Hid (OwnS wr w.heap.size u5 (D.map fun x => ⟨x.toArray⟩)) := hown
    clear hc hown
    have hDl : (D.map fun x => (⟨x.toArray⟩ : ByteArray)).length ≤ k := by simpa using hDk
    by_cases hlt : k < s.size
    · have hkl : k < s.data.toList.length := by rw [HL.out]; exact hlt
      have HS := splitL_at (c := c) hkl
      have HEx : Hid (s.extract f k = ⟨(pieceL s.data.toList f k).toArray⟩) := extract_piece s f k
      have e0 : s.data.toList[k] = s[k] := rfl
      rw [e0] at HS
      by_cases hh : s[k] = c
      · have hq : ((s[k].toNat : Int) == (c.toNat : Int)) = true := by simp [hh]
        rw [if_pos hh] at HS
        have HU : Hid (splitL c s.data.toList = (D ++ [pieceL s.data.toList f k]) ++ consH (pieceL s.data.toList (k + 1) (k + 1)) (splitL c (s.data.toList.drop (k + 1)))) := by
          show splitL c s.data.toList = _
          rw [HC.out, HS, pieceL_same, consH_nil (splitL_ne _ _)]
          simp [consH]
        clear HS hh e0
        go_wp2_with (at_builtin; refine wpList_append_own _ rfl (.tmp 19) (.tmp 24) 26 rfl w.heap.size 9 i9 (.string ⟨#[]⟩) 1 16 Tryz.underlying26 hi hz0 hz1 hz2 rfl (by decide) _ _ _ rfl (World.ownsRow.alloc HO.out _) ⟨wr.heap.size, 0, none⟩ 1 1 [.string (s.extract f k)] rfl rfl (cell_one_new _ _ _) (one_one _ rfl) (by unfold maxLen; omega) (by omega) (by simp; omega) ?_; intro v1 w1 hown1 hgrow1 _)
        have HR : Hid (OwnS w1 w.heap.size v1 ((D ++ [pieceL s.data.toList f k]).map fun x => ⟨x.toArray⟩)) := by
          show OwnS _ _ _ _
          rw [List.map_append, List.map_singleton, ← HEx.out]
          exact ownS_more hown1
        have hB1 : Below w.heap.size w w1 := (hnx.alloc hsz _).grown hgrow1 (by simp; omega) (fun j hj => (World.ownsRow.lt HO.out j hj).1)
        clear hown1 hgrow1
        go_wp2
        go_roundw
        case rel => exact ⟨k + 1, k + 1, D ++ [pieceL s.data.toList f k], Nat.le_refl _, by omega, by go_num, by go_num, by simp; omega, HR.out, hB1, HU.out⟩
        case measure => simp [intOf]; omega
      · have hq : ((s[k].toNat : Int) == (c.toNat : Int)) = false := by
          have : s[k].toNat ≠ c.toNat := fun h => hh (UInt8.toNat_inj.1 h)
          simp
          omega
        rw [if_neg hh] at HS
        have HU : Hid (splitL c s.data.toList = D ++ consH (pieceL s.data.toList f (k + 1)) (splitL c (s.data.toList.drop (k + 1)))) := by
          show splitL c s.data.toList = _
          rw [HC.out, HS, consH_two _ _ _ (splitL_ne _ _), pieceL_snoc hfk hkl]
          rfl
        clear HS hh e0
        go_wp2
        go_roundw
        case rel => exact ⟨f, k + 1, D, by omega, by omega, rfl, by go_num, by omega, HO.out, hnx, HU.out⟩
        case measure => simp [intOf]; omega
    · obtain rfl : k = s.size := by omega
      have HZ : Hid (splitS c s = (D.map fun x => ⟨x.toArray⟩) ++ [s.extract f s.size]) := by
        show splitS c s = _
        have e1 : s.extract f s.size = ⟨(s.data.toList.drop f).toArray⟩ := by
          rw [extract_piece, ← HL.out, pieceL_end]
        have h := HC.out
        have e2 : pieceL s.data.toList f s.size = s.data.toList.drop f := by rw [← HL.out, pieceL_end]
        rw [List.drop_eq_nil_of_le (by rw [HL.out]; omega), e2] at h
        rw [splitS, h, e1]
        simp [splitL, consH]
      have hfs : (f : Int) ≤ (s.size : Int) := by omega
      clear HC
      go_wp2_with (at_builtin; refine wpList_append_own _ rfl (.tmp 28) (.tmp 32) 26 rfl w.heap.size 9 i9 (.string ⟨#[]⟩) 1 16 Tryz.underlying26 hi hz0 hz1 hz2 rfl (by decide) _ _ _ rfl (World.ownsRow.alloc HO.out _) ⟨wr.heap.size, 0, none⟩ 1 1 [.string (s.extract f s.size)] rfl rfl (cell_one_new _ _ _) (one_one _ rfl) (by unfold maxLen; omega) (by omega) (by simp; omega) ?_; intro v1 w1 hown1 hgrow1 _)
      have HR : Hid (OwnS w1 w.heap.size v1 (splitS c s)) := by
        show OwnS _ _ _ _
        rw [HZ.out]
        exact ownS_more hown1
      have hB1 : Below w.heap.size w w1 := (hnx.alloc hsz _).grown hgrow1 (by simp; omega) (fun j hj => (World.ownsRow.lt HO.out j hj).1)
      clear hown1 hgrow1
      go_wp2
      go_ret
      exact ⟨_, rfl, HR.out, hB1⟩

end Go.Proofs.YtnmffehmjgknkaaGreatDoor

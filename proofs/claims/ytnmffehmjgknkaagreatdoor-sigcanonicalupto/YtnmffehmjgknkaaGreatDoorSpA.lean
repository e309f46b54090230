/-
  strings.Cut, chars.Split (out of the seat of stage 16).
-/
import Derived.Test.YtnmffehmjgknkaaGreatDoorHdA
import Derived.Test.YtnmffehmjgknkaaGreatDoorHtShelf
import Derived.Lib.SplitLaws
import Derived.Lib.IndexBytes
namespace Go.Proofs.YtnmffehmjgknkaaGreatDoor
open Go.RowKit

/-- internal/bytealg.MaxLen holds some int. -/
def Mx (w : World) : Prop := ∃ m : Int, w.cell? ⟨1, 0, none⟩ = some (.int .i64 m)
theorem Mx.pos {w : World} (h : Mx w) : 1 < w.heap.size := by
  obtain ⟨m, hm⟩ := h
  exact block_lt_of_cell hm
theorem Mx.below {w w' : World} (h : Mx w) {B : Nat} (hb : Below B w w') (hB : w.heap.size ≤ B) : Mx w' := by
  have hp := h.pos
  obtain ⟨m, hm⟩ := h
  exact ⟨m, by rw [hb.cell (p := ⟨1, 0, none⟩) (by show 1 < B; omega)]; exact hm⟩

def splitL (c : UInt8) : List UInt8 → List (List UInt8)
  | [] => [[]]
  | a :: r => if a = c then [] :: splitL c r else match splitL c r with
    | [] => [[a]]
    | x :: xs => (a :: x) :: xs
theorem splitL_ne (c : UInt8) (l : List UInt8) : splitL c l ≠ [] := by
  cases l with
  | nil => simp [splitL]
  | cons a r =>
    unfold splitL
    split
    · simp
    · split <;> simp
theorem splitL_miss {c : UInt8} : ∀ {l : List UInt8}, Lib.indexByte l c = -1 → splitL c l = [l]
  | [], _ => rfl
  | a :: r, h => by
    unfold Lib.indexByte at h
    have hge := Lib.indexByte_ge r c
    by_cases e : a = c
    · rw [if_pos (by simp [e])] at h
      omega
    · rw [if_neg (by simp [e])] at h
      have hr : Lib.indexByte r c = -1 := by
        by_cases hm : Lib.indexByte r c = -1
        · exact hm
        · rw [if_neg (by simp [hm])] at h
          omega
      rw [splitL, if_neg e, splitL_miss hr]
theorem splitL_hit {c : UInt8} : ∀ {l : List UInt8} {i : Nat}, Lib.indexByte l c = (i : Int) → splitL c l = l.take i :: splitL c (l.drop (i + 1))
  | [], i, h => by unfold Lib.indexByte at h; omega
  | a :: r, i, h => by
    unfold Lib.indexByte at h
    have hge := Lib.indexByte_ge r c
    by_cases e : a = c
    · rw [if_pos (by simp [e])] at h
      obtain rfl : i = 0 := by omega
      rw [splitL, if_pos e]
      rfl
    · rw [if_neg (by simp [e])] at h
      by_cases hm : Lib.indexByte r c = -1
      · rw [if_pos (by simp [hm])] at h
        omega
      · rw [if_neg (by simp [hm])] at h
        obtain ⟨i', rfl⟩ : ∃ i', i = i' + 1 := ⟨i - 1, by omega⟩
        rw [splitL, if_neg e, splitL_hit (i := i') (by omega)]
        rfl
theorem splitL_length (c : UInt8) : ∀ l : List UInt8, (splitL c l).length = l.count c + 1
  | [] => rfl
  | a :: r => by
    have ih := splitL_length c r
    by_cases e : a = c
    · rw [splitL, if_pos e, List.length_cons, ih, List.count_cons]
      simp [e]
    · rw [splitL, if_neg e, List.count_cons]
      have hb : (a == c) = false := by simp [e]
      rw [hb]
      cases h : splitL c r with
      | nil => exact absurd h (splitL_ne c r)
      | cons x xs => rw [h] at ih; simpa using ih
theorem count_drop {c : UInt8} : ∀ {l : List UInt8} {i : Nat}, Lib.indexByte l c = (i : Int) → l.count c = (l.drop (i + 1)).count c + 1
  | l, i, h => by
    have h1 := splitL_length c l
    have h2 := splitL_length c (l.drop (i + 1))
    rw [splitL_hit h, List.length_cons] at h1
    omega
theorem splitK_one (c : UInt8) : ∀ (k : Nat) (l : List UInt8), l.count c ≤ k → Lib.splitK [c] 0 k l = splitL c l
  | 0, l, h => by
    have hm : Lib.indexByte l c = -1 := by
      have hge := Lib.indexByte_ge l c
      by_cases e : Lib.indexByte l c = -1
      · exact e
      · obtain ⟨i, hi⟩ : ∃ i : Nat, Lib.indexByte l c = (i : Int) := ⟨(Lib.indexByte l c).toNat, by omega⟩
        have := count_drop hi
        omega
    rw [splitL_miss hm]
    rfl
  | k + 1, l, h => by
    unfold Lib.splitK
    rw [Lib.index_one]
    have hge := Lib.indexByte_ge l c
    by_cases e : Lib.indexByte l c = -1
    · rw [if_pos (by simp [e]), splitL_miss e]
    · obtain ⟨i, hi⟩ : ∃ i : Nat, Lib.indexByte l c = (i : Int) := ⟨(Lib.indexByte l c).toNat, by omega⟩
      have hc := count_drop hi
      rw [if_neg (by simp [e]), hi, splitL_hit hi, splitK_one c k _ (by simpa using by omega)]
      rfl
def splitS (c : UInt8) (s : ByteArray) : List ByteArray := (splitL c s.data.toList).map fun x => ⟨x.toArray⟩
theorem splitB_one (c : UInt8) (s : ByteArray) : Lib.splitB ⟨#[c]⟩ 0 (Lib.countB s ⟨#[c]⟩) s = splitS c s := by
  have hcn : Lib.countB s ⟨#[c]⟩ = s.data.toList.count c := Lib.count_one c s.data.toList
  have h := Lib.splitB_data ⟨#[c]⟩ 0 (Lib.countB s ⟨#[c]⟩) s
  have h2 : Lib.splitK [c] 0 (Lib.countB s ⟨#[c]⟩) s.data.toList = splitL c s.data.toList := splitK_one c _ _ (by omega)
  have h3 : (Lib.splitB ⟨#[c]⟩ 0 (Lib.countB s ⟨#[c]⟩) s).map (·.data.toList) = splitL c s.data.toList := h.trans h2
  rw [splitS, ← h3, List.map_map]
  have : ((fun x => (⟨x.toArray⟩ : ByteArray)) ∘ fun (x : ByteArray) => x.data.toList) = id := by
    funext x
    simp
  rw [this, List.map_id]
theorem splitS_length (c : UInt8) (s : ByteArray) : (splitS c s).length = Lib.countB s ⟨#[c]⟩ + 1 := by
  rw [splitS, List.length_map, splitL_length]
  exact congrArg (· + 1) (Lib.count_one c s.data.toList).symm

theorem sep_bytes (w : World) (c : UInt8) : Bytes (w.alloc (.cells #[.int .u8 (c.toNat : Int)] 5)) (some ⟨w.heap.size, 0, none⟩) [c] := by
  refine .inr ⟨w.heap.size, 0, rfl, by simp, fun j hj => ?_⟩
  rw [World.cell?_alloc_mark]
  match j, hj with
  | 0, _ => rfl

set_option maxHeartbeats 400000 in
theorem split_any (s : ByteArray) (c : UInt8) (w : World) (hs : s.size < 4294967281) (hm : Mx w) :
    Calls Tryz.prog 90 #[.string s, .int .u8 (c.toNat : Int)] w fun e w' => ∃ g, e = .returned (.slice (some ⟨g, 0, none⟩) (splitS c s).length (splitS c s).length) ∧ Strs w' (some ⟨g, 0, none⟩) (splitS c s) ∧ Below w.heap.size w w' := by
  have hcv : (convert 23 9 (.slice (some ⟨w.heap.size, 0, none⟩) 1 1)).run Tryz.prog (w.alloc (.cells #[.int .u8 (c.toNat : Int)] 5)) = .ok (.string ⟨#[c]⟩) (w.alloc (.cells #[.int .u8 (c.toNat : Int)] 5)) := convert_bytes (w.alloc (.cells #[.int .u8 (c.toNat : Int)] 5)) (some ⟨w.heap.size, 0, none⟩) 1 [c] (sep_bytes w c)
  have hB0 : Below w.heap.size w (w.alloc (.cells #[.int .u8 (c.toNat : Int)] 5)) := (Below.refl _ _).alloc (Nat.le_refl _) _
  obtain ⟨m, hm1⟩ := hm.below hB0 (Nat.le_refl _)
  have HSp : Hid (Calls Tryz.prog 151 #[.string s, .string ⟨#[c]⟩] (w.alloc (.cells #[.int .u8 (c.toNat : Int)] 5)) fun e w' =>
      e = .returned (.slice (some ⟨(w.alloc (.cells #[.int .u8 (c.toNat : Int)] 5)).heap.size, 0, none⟩) (Lib.countB s ⟨#[c]⟩ + 1) (Lib.countB s ⟨#[c]⟩ + 1)) ∧ w' = (w.alloc (.cells #[.int .u8 (c.toNat : Int)] 5)).alloc (.cells ((Lib.splitB ⟨#[c]⟩ 0 (Lib.countB s ⟨#[c]⟩) s).map Value.string).toArray 9)) :=
    strings_Split s ⟨#[c]⟩ m _ hs hm1 (Nat.le_refl 1)
  have HB : Hid (Lib.splitB ⟨#[c]⟩ 0 (Lib.countB s ⟨#[c]⟩) s = splitS c s) := splitB_one c s
  have HLn : Hid ((splitS c s).length = Lib.countB s ⟨#[c]⟩ + 1) := splitS_length c s
  clear hm hm1
  go_enter Tryz.func90, Tryz.ntmps90
  go_wp2_with (go_at_call 151; refine HSp.out.mono ?_; rintro e w' ⟨rfl, rfl⟩)
  go_ret
  refine ⟨w.heap.size + 1, ?_, ?_, ?_⟩
  · rw [HLn.out]
    simp
  · refine .inr ⟨w.heap.size + 1, 0, rfl, by simp, fun j hj => ?_⟩
    rw [HB.out]
    have := World.cell?_alloc_mark (w.alloc (.cells #[.int .u8 (c.toNat : Int)] 5)) ((splitS c s).map Value.string).toArray 9 (0, 0) j
    rw [show (w.alloc (.cells #[.int .u8 (c.toNat : Int)] 5)).heap.size = w.heap.size + 1 from by simp] at this
    rw [Nat.zero_add, this]
    simp [List.getElem?_eq_getElem hj]
  · exact ((Below.refl _ _).alloc (Nat.le_refl _) _).alloc (by simp) _
theorem mk_size (l : List UInt8) : (⟨l.toArray⟩ : ByteArray).size = l.length := by simp [ByteArray.size]
theorem toB_at (L : List (List UInt8)) (k : Nat) (h : k < (toB L).length) : (toB L)[k] = ⟨(L[k]'(by rw [toB_len] at h; exact h)).toArray⟩ := by simp [toB]
theorem splitS_toB (c : UInt8) (l : List UInt8) : splitS c ⟨l.toArray⟩ = toB (splitL c l) := by simp [splitS, toB]
theorem piece_size {c : UInt8} : ∀ {l : List UInt8} {x : List UInt8}, x ∈ splitL c l → x.length ≤ l.length
  | [], x, h => by simp [splitL] at h; simp [h]
  | a :: r, x, h => by
    unfold splitL at h
    split at h
    · rcases List.mem_cons.1 h with rfl | h
      · simp
      · have := piece_size h; simp; omega
    · have ih := @piece_size c r
      cases hs : splitL c r with
      | nil => exact absurd hs (splitL_ne c r)
      | cons y ys =>
        rw [hs] at h ih
        simp only at h
        rcases List.mem_cons.1 h with rfl | h
        · have := ih (List.mem_cons_self); simp; omega
        · have := ih (List.mem_cons_of_mem _ h); simp; omega

theorem cut_len (s p : List UInt8) : (Lib.cut s p).1.length ≤ s.length ∧ (Lib.cut s p).2.1.length ≤ s.length := by
  unfold Lib.cut
  split
  · simp only [List.length_take, List.length_drop]
    omega
  · simp
theorem drewN_below (w : World) (n : Nat) : Below w.heap.size w (w.drewN n) := by
  induction n with
  | zero => exact Below.refl _ _
  | succ n ih => exact ⟨rfl, rfl, rfl, Nat.le_refl _, fun _ _ => rfl⟩
/-- strings.Cut at a text. -/
theorem cut_any (s p : List UInt8) (w : World) (hs : s.length ≤ 1000000000) (hm : Mx w) :
    Calls Tryz.prog 89 #[.string ⟨s.toArray⟩, .string ⟨p.toArray⟩] w fun e w' => e = .returned (.tuple #[.string ⟨(Lib.cut s p).1.toArray⟩, .string ⟨(Lib.cut s p).2.1.toArray⟩, .bool (Lib.cut s p).2.2]) ∧ Below w.heap.size w w' := by
  obtain ⟨m, hm⟩ := hm
  refine (YtnmffehmjgknkaaGreatDoor.strings_Cut ⟨s.toArray⟩ ⟨p.toArray⟩ m w (by rw [mk_size]; omega) hm).mono ?_
  rintro e w' ⟨rfl, n, rfl⟩
  exact ⟨rfl, drewN_below w n⟩
end Go.Proofs.YtnmffehmjgknkaaGreatDoor

/-
  chars.everyByte, Split, isAddress and Bucket by their contracts.
-/
import Derived.Test.YtmodmeabjhaklaaGreatDoorEsc
import Derived.Test.YtmodmeabjhaklaaGreatDoorShelf
import Derived.Lib.SplitLaws
import Derived.Lib.IndexBytes
namespace Go.Proofs.YtmodmeabjhaklaaGreatDoor
open Go.RowKit

/-- internal/bytealg.MaxLen holds some int. -/
def Mx (w : World) : Prop := ∃ m : Int, w.cell? ⟨0, 0, none⟩ = some (.int .i64 m)
theorem Mx.pos {w : World} (h : Mx w) : 0 < w.heap.size := by
  obtain ⟨m, hm⟩ := h
  exact block_lt_of_cell hm
theorem Mx.below {w w' : World} (h : Mx w) {B : Nat} (hb : Below B w w') (hB : w.heap.size ≤ B) : Mx w' := by
  have hp := h.pos
  obtain ⟨m, hm⟩ := h
  exact ⟨m, by rw [hb.cell (p := ⟨0, 0, none⟩) (by show 0 < B; omega)]; exact hm⟩

def Strs (w : World) (a : Option Addr) (L : List ByteArray) : Prop :=
  L = [] ∨ ∃ b off, a = some ⟨b, off, none⟩ ∧ b < w.heap.size ∧ ∀ j (h : j < L.length), w.cell? ⟨b, off + j, none⟩ = some (.string L[j])
theorem Strs.at {w : World} {a : Option Addr} {L : List ByteArray} (h : Strs w a L) {k : Nat} (hk : k < L.length) :
    ∃ b off, a = some ⟨b, off, none⟩ ∧ b < w.heap.size ∧ ∀ j (h : j < L.length), w.cell? ⟨b, off + j, none⟩ = some (.string L[j]) := by
  rcases h with rfl | h
  · simp at hk
  · exact h
theorem Strs.below {w w' : World} {a : Option Addr} {L : List ByteArray} (h : Strs w a L) {B : Nat} (hb : Below B w w') (hB : w.heap.size ≤ B) : Strs w' a L := by
  rcases h with rfl | ⟨b, off, rfl, hb', hc⟩
  · exact .inl rfl
  · refine .inr ⟨b, off, rfl, by have := hb.size; omega, fun j hj => ?_⟩
    rw [hb.cell (p := ⟨b, off + j, none⟩) (by show b < B; omega)]
    exact hc j hj

def allB (p : Int → Bool) (l : List UInt8) : Bool := l.all fun b => p (b.toNat : Int)
theorem allB_no {p : Int → Bool} {l : List UInt8} {k : Nat} (hk : k < l.length) (h : p (l[k].toNat : Int) = false) : allB p l = false := by
  rw [allB, List.all_eq_false]
  exact ⟨l[k], List.getElem_mem hk, by simp [h]⟩
theorem allB_yes {p : Int → Bool} {l : List UInt8} (h : ∀ j (hj : j < l.length), p (l[j].toNat : Int) = true) : allB p l = true := by
  rw [allB, List.all_eq_true]
  intro x hx
  obtain ⟨j, hj, rfl⟩ := List.getElem_of_mem hx
  exact h j hj

set_option maxHeartbeats 400000 in
theorem everyByte_any (g : Nat) (p : Int → Bool) (eg : ∀ args w, (callFunc g args).run Tryz.prog w = .ok (.enter g args) w) (hp : ∀ (c : Int) (W : World), 0 ≤ c → c ≤ 255 → Calls Tryz.prog g #[.int .u8 c] W fun e w' => e = .returned (.bool (p c)) ∧ W = w') (s : ByteArray) (w : World) (hs : s.size ≤ maxLen) :
    Calls Tryz.prog 87 #[.string s, .func (.func g) #[] #[]] w fun e w' => e = .returned (.bool (allB p s.data.toList)) ∧ w = w' := by
  unfold maxLen at hs
  go_enter Tryz.func87, Tryz.ntmps87
  go_wp2
  go_loop [8] (fun i => ∃ k : Nat, k ≤ s.size ∧ i = .int .i64 k ∧ ∀ j (hj : j < s.data.toList.length), j < k → p (s.data.toList[j].toNat : Int) = true) (fun i => s.size - (intOf i).toNat)
  case atStart => exact ⟨0, Nat.zero_le _, rfl, fun j hj h => by omega⟩
  case round =>
    obtain ⟨k, hk, rfl, hf⟩ := hrel
    have HF : Hid (∀ j (hj : j < s.data.toList.length), j < k → p (s.data.toList[j].toNat : Int) = true) := hf
    clear hf
    by_cases hlt : k < s.size
    · have hlt' : k < s.data.toList.length := by simpa using hlt
      have b1 : (s[k].toNat : Int) ≤ 255 := by have := s[k].toNat_lt; omega
      have HP : Hid (∀ W, Calls Tryz.prog g #[.int .u8 (s[k].toNat : Int)] W fun e w' => e = .returned (.bool (p (s[k].toNat : Int))) ∧ W = w') := fun W => hp _ W (Int.natCast_nonneg _) b1
      clear hp
      cases hh : p (s[k].toNat : Int)
      · have HN : Hid (allB p s.data.toList = false) := allB_no hlt' hh
        rw [hh] at HP
        clear hh
        go_wp2_with (go_at_fn g; refine (HP.out _).mono ?_; rintro e w' ⟨rfl, rfl⟩)
        go_ret
        exact ⟨ret_bool HN.out.symm, rfl⟩
      · have HH : Hid (p (s.data.toList[k].toNat : Int) = true) := hh
        rw [hh] at HP
        clear hh
        go_wp2_with (go_at_fn g; refine (HP.out _).mono ?_; rintro e w' ⟨rfl, rfl⟩)
        go_round
        case rel =>
          refine ⟨k + 1, by omega, by go_num, fun j hj h => ?_⟩
          by_cases e : j = k
          · subst e; exact HH.out
          · exact HF.out j hj (by omega)
        case measure => simp [intOf]; omega
    · have HN : Hid (allB p s.data.toList = true) := allB_yes (fun j hj => HF.out j hj (by simp at hj; have : s.size = s.data.size := rfl; omega))
      go_wp2
      go_ret
      exact ⟨ret_bool HN.out.symm, rfl⟩

/-- What stands between the c's. -/
def splitL (c : UInt8) : List UInt8 → List (List UInt8)
  | [] => [[]]
  | a :: r => if a = c then [] :: splitL c r else match splitL c r with
    | [] => [[a]]
    | x :: xs => (a :: x) :: xs
theorem splitL_ne (c : UInt8) (l : List UInt8) : splitL c l ≠ [] := by
  cases l with
  | nil => simp [splitL]
  | cons a r =>
    unfold splitL
    split
    · simp
    · split <;> simp
theorem splitL_miss {c : UInt8} : ∀ {l : List UInt8}, Lib.indexByte l c = -1 → splitL c l = [l]
  | [], _ => rfl
  | a :: r, h => by
    unfold Lib.indexByte at h
    have hge := Lib.indexByte_ge r c
    by_cases e : a = c
    · rw [if_pos (by simp [e])] at h
      omega
    · rw [if_neg (by simp [e])] at h
      have hr : Lib.indexByte r c = -1 := by
        by_cases hm : Lib.indexByte r c = -1
        · exact hm
        · rw [if_neg (by simp [hm])] at h
          omega
      rw [splitL, if_neg e, splitL_miss hr]
theorem splitL_hit {c : UInt8} : ∀ {l : List UInt8} {i : Nat}, Lib.indexByte l c = (i : Int) → splitL c l = l.take i :: splitL c (l.drop (i + 1))
  | [], i, h => by unfold Lib.indexByte at h; omega
  | a :: r, i, h => by
    unfold Lib.indexByte at h
    have hge := Lib.indexByte_ge r c
    by_cases e : a = c
    · rw [if_pos (by simp [e])] at h
      obtain rfl : i = 0 := by omega
      rw [splitL, if_pos e]
      rfl
    · rw [if_neg (by simp [e])] at h
      by_cases hm : Lib.indexByte r c = -1
      · rw [if_pos (by simp [hm])] at h
        omega
      · rw [if_neg (by simp [hm])] at h
        obtain ⟨i', rfl⟩ : ∃ i', i = i' + 1 := ⟨i - 1, by omega⟩
        rw [splitL, if_neg e, splitL_hit (i := i') (by omega)]
        rfl
theorem splitL_length (c : UInt8) : ∀ l : List UInt8, (splitL c l).length = l.count c + 1
  | [] => rfl
  | a :: r => by
    have ih := splitL_length c r
    by_cases e : a = c
    · rw [splitL, if_pos e, List.length_cons, ih, List.count_cons]
      simp [e]
    · rw [splitL, if_neg e, List.count_cons]
      have hb : (a == c) = false := by simp [e]
      rw [hb]
      cases h : splitL c r with
      | nil => exact absurd h (splitL_ne c r)
      | cons x xs => rw [h] at ih; simpa using ih
theorem count_drop {c : UInt8} : ∀ {l : List UInt8} {i : Nat}, Lib.indexByte l c = (i : Int) → l.count c = (l.drop (i + 1)).count c + 1
  | l, i, h => by
    have h1 := splitL_length c l
    have h2 := splitL_length c (l.drop (i + 1))
    rw [splitL_hit h, List.length_cons] at h1
    omega
theorem splitK_one (c : UInt8) : ∀ (k : Nat) (l : List UInt8), l.count c ≤ k → Lib.splitK [c] 0 k l = splitL c l
  | 0, l, h => by
    have hm : Lib.indexByte l c = -1 := by
      have hge := Lib.indexByte_ge l c
      by_cases e : Lib.indexByte l c = -1
      · exact e
      · obtain ⟨i, hi⟩ : ∃ i : Nat, Lib.indexByte l c = (i : Int) := ⟨(Lib.indexByte l c).toNat, by omega⟩
        have := count_drop hi
        omega
    rw [splitL_miss hm]
    rfl
  | k + 1, l, h => by
    unfold Lib.splitK
    rw [Lib.index_one]
    have hge := Lib.indexByte_ge l c
    by_cases e : Lib.indexByte l c = -1
    · rw [if_pos (by simp [e]), splitL_miss e]
    · obtain ⟨i, hi⟩ : ∃ i : Nat, Lib.indexByte l c = (i : Int) := ⟨(Lib.indexByte l c).toNat, by omega⟩
      have hc := count_drop hi
      rw [if_neg (by simp [e]), hi, splitL_hit hi, splitK_one c k _ (by simpa using by omega)]
      rfl
def splitS (c : UInt8) (s : ByteArray) : List ByteArray := (splitL c s.data.toList).map fun x => ⟨x.toArray⟩
theorem splitB_one (c : UInt8) (s : ByteArray) : Lib.splitB ⟨#[c]⟩ 0 (Lib.countB s ⟨#[c]⟩) s = splitS c s := by
  have hcn : Lib.countB s ⟨#[c]⟩ = s.data.toList.count c := Lib.count_one c s.data.toList
  have h := Lib.splitB_data ⟨#[c]⟩ 0 (Lib.countB s ⟨#[c]⟩) s
  have h2 : Lib.splitK [c] 0 (Lib.countB s ⟨#[c]⟩) s.data.toList = splitL c s.data.toList := splitK_one c _ _ (by omega)
  have h3 : (Lib.splitB ⟨#[c]⟩ 0 (Lib.countB s ⟨#[c]⟩) s).map (·.data.toList) = splitL c s.data.toList := h.trans h2
  rw [splitS, ← h3, List.map_map]
  have : ((fun x => (⟨x.toArray⟩ : ByteArray)) ∘ fun (x : ByteArray) => x.data.toList) = id := by
    funext x
    simp
  rw [this, List.map_id]
theorem splitS_length (c : UInt8) (s : ByteArray) : (splitS c s).length = Lib.countB s ⟨#[c]⟩ + 1 := by
  rw [splitS, List.length_map, splitL_length]
  exact congrArg (· + 1) (Lib.count_one c s.data.toList).symm

theorem sep_bytes (w : World) (c : UInt8) : Bytes (w.alloc (.cells #[.int .u8 (c.toNat : Int)] 5)) (some ⟨w.heap.size, 0, none⟩) [c] := by
  refine .inr ⟨w.heap.size, 0, rfl, by simp, fun j hj => ?_⟩
  rw [World.cell?_alloc_mark]
  match j, hj with
  | 0, _ => rfl

set_option maxHeartbeats 400000 in
theorem split_any (s : ByteArray) (c : UInt8) (w : World) (hs : s.size < 4294967281) (hm : Mx w) :
    Calls Tryz.prog 36 #[.string s, .int .u8 (c.toNat : Int)] w fun e w' => ∃ g, e = .returned (.slice (some ⟨g, 0, none⟩) (splitS c s).length (splitS c s).length) ∧ Strs w' (some ⟨g, 0, none⟩) (splitS c s) ∧ Below w.heap.size w w' := by
  have hcv : (convert 22 9 (.slice (some ⟨w.heap.size, 0, none⟩) 1 1)).run Tryz.prog (w.alloc (.cells #[.int .u8 (c.toNat : Int)] 5)) = .ok (.string ⟨#[c]⟩) (w.alloc (.cells #[.int .u8 (c.toNat : Int)] 5)) := convert_bytes (w.alloc (.cells #[.int .u8 (c.toNat : Int)] 5)) (some ⟨w.heap.size, 0, none⟩) 1 [c] (sep_bytes w c)
  have hB0 : Below w.heap.size w (w.alloc (.cells #[.int .u8 (c.toNat : Int)] 5)) := (Below.refl _ _).alloc (Nat.le_refl _) _
  obtain ⟨m, hm1⟩ := hm.below hB0 (Nat.le_refl _)
  have HSp : Hid (Calls Tryz.prog 61 #[.string s, .string ⟨#[c]⟩] (w.alloc (.cells #[.int .u8 (c.toNat : Int)] 5)) fun e w' =>
      e = .returned (.slice (some ⟨(w.alloc (.cells #[.int .u8 (c.toNat : Int)] 5)).heap.size, 0, none⟩) (Lib.countB s ⟨#[c]⟩ + 1) (Lib.countB s ⟨#[c]⟩ + 1)) ∧ w' = (w.alloc (.cells #[.int .u8 (c.toNat : Int)] 5)).alloc (.cells ((Lib.splitB ⟨#[c]⟩ 0 (Lib.countB s ⟨#[c]⟩) s).map Value.string).toArray 9)) :=
    strings_Split s ⟨#[c]⟩ m _ hs hm1 (Nat.le_refl 1)
  have HB : Hid (Lib.splitB ⟨#[c]⟩ 0 (Lib.countB s ⟨#[c]⟩) s = splitS c s) := splitB_one c s
  have HLn : Hid ((splitS c s).length = Lib.countB s ⟨#[c]⟩ + 1) := splitS_length c s
  clear hm hm1
  go_enter Tryz.func36, Tryz.ntmps36
  go_wp2_with (go_at_call 61; refine HSp.out.mono ?_; rintro e w' ⟨rfl, rfl⟩)
  go_ret
  refine ⟨w.heap.size + 1, ?_, ?_, ?_⟩
  · rw [HLn.out]
    simp
  · refine .inr ⟨w.heap.size + 1, 0, rfl, by simp, fun j hj => ?_⟩
    rw [HB.out]
    have := World.cell?_alloc_mark (w.alloc (.cells #[.int .u8 (c.toNat : Int)] 5)) ((splitS c s).map Value.string).toArray 9 (0, 0) j
    rw [show (w.alloc (.cells #[.int .u8 (c.toNat : Int)] 5)).heap.size = w.heap.size + 1 from by simp] at this
    rw [Nat.zero_add, this]
    simp [List.getElem?_eq_getElem hj]
  · exact ((Below.refl _ _).alloc (Nat.le_refl _) _).alloc (by simp) _
end Go.Proofs.YtmodmeabjhaklaaGreatDoor

/-
  Line ends: two replacements one behind the other make them line feeds.
-/
import Derived.Test.YtohkocknpmnakabGreatDoorXmU
import Derived.Lib.Replace
namespace Go.Proofs.YtohkocknpmnakabGreatDoor

def rpF (old new : List UInt8) : Nat → List UInt8 → List UInt8
  | 0, s => s
  | f + 1, s => if Lib.index s old == -1 then s else s.take (Lib.index s old).toNat ++ new ++ rpF old new f (s.drop ((Lib.index s old).toNat + old.length))
def bb (old new : List UInt8) : Nat → List UInt8 → List UInt8
  | 0, s => s
  | _ + 1, [] => []
  | g + 1, b :: l => if old.isPrefixOf (b :: l) then new ++ bb old new g ((b :: l).drop old.length) else b :: bb old new g l
theorem rep_rpF (old new : List UInt8) : ∀ (f : Nat) (s : List UInt8), Lib.replaceK old new (Lib.countFrom old f s) s = rpF old new f s
  | 0, s => rfl
  | f + 1, s => by
    simp only [rpF, Lib.countFrom]
    by_cases h : Lib.index s old == -1
    · rw [if_pos h, if_pos h]
      rfl
    · rw [if_neg h, if_neg h, Nat.add_comm, Lib.replaceK, if_neg h, rep_rpF old new f]
theorem rpF_bb (old new : List UInt8) (ho : 0 < old.length) : ∀ (g f : Nat) (s : List UInt8), s.length ≤ g → s.length < f → rpF old new f s = bb old new g s
  | 0, f, s, h1, h2 => by
    obtain rfl : s = [] := List.eq_nil_of_length_eq_zero (by omega)
    cases f with
    | zero => rfl
    | succ f =>
      have : Lib.index [] old = -1 := by
        cases old with
        | nil => simp at ho
        | cons a r => rfl
      simp [rpF, this, bb]
  | g + 1, f, [], h1, h2 => by
    cases f with
    | zero => rfl
    | succ f =>
      have : Lib.index [] old = -1 := by
        cases old with
        | nil => simp at ho
        | cons a r => rfl
      simp [rpF, this, bb]
  | g + 1, 0, b :: l, h1, h2 => by simp at h2
  | g + 1, f + 1, b :: l, h1, h2 => by
    simp only [List.length_cons] at h1 h2
    by_cases hp : old.isPrefixOf (b :: l)
    · have hi : Lib.index (b :: l) old = 0 := by unfold Lib.index; rw [if_pos hp]
      have := rpF_bb old new ho g f ((b :: l).drop old.length) (by simp; omega) (by simp; omega)
      simp only [rpF, bb, hi, if_pos hp]
      rw [← this]
      simp
    · have hge := Lib.index_ge l old
      have ih := rpF_bb old new ho g (f + 1) l (by omega) (by omega)
      simp only [bb, if_neg hp]
      rw [← ih]
      have hi : Lib.index (b :: l) old = if Lib.index l old == -1 then -1 else Lib.index l old + 1 := by
        conv => lhs; unfold Lib.index
        rw [if_neg hp]
      simp only [rpF]
      by_cases hm : Lib.index l old = -1
      · rw [hi, hm]
        simp
      · have hb : (Lib.index l old == -1) = false := by simp [hm]
        obtain ⟨i, hi2⟩ : ∃ i : Nat, Lib.index l old = i := ⟨(Lib.index l old).toNat, by omega⟩
        rw [hi, hb, hi2]
        have e1 : ((((i : Int) + 1)) == -1) = false := by rw [beq_eq_false_iff_ne]; omega
        have e2 : ((i : Int) + 1).toNat = i + 1 := by omega
        have e3 : ((i : Int) == -1) = false := by rw [beq_eq_false_iff_ne]; omega
        simp only [Bool.false_eq_true, if_false, e1, e2, Int.toNat_natCast, List.take_succ_cons, List.cons_append]
        rw [show i + 1 + old.length = (i + old.length) + 1 by omega, List.drop_succ_cons]
theorem replaceAll_bb (s old new : List UInt8) (ho : 0 < old.length) (hn : old ≠ new) (g : Nat) (hg : s.length ≤ g) : Lib.replaceAll s old new = bb old new g s := by
  unfold Lib.replaceAll Lib.replace
  rw [if_neg (by simpa using hn)]
  have : Lib.replaceNum s old (-1) = Lib.countFrom old (s.length + 1) s := by
    unfold Lib.replaceNum
    rw [if_pos (.inl (by decide))]
    rfl
  rw [this, rep_rpF]
  exact rpF_bb old new ho g _ s hg (by omega)
theorem bb_len (old : List UInt8) (x : UInt8) (ho : 0 < old.length) : ∀ (g : Nat) (s : List UInt8), s.length ≤ g → (bb old [x] g s).length ≤ s.length
  | 0, s, _ => by simp [bb]
  | g + 1, [], _ => by simp [bb]
  | g + 1, b :: l, h => by
    simp only [List.length_cons] at h
    simp only [bb]
    split
    · have := bb_len old x ho g ((b :: l).drop old.length) (by simp; omega)
      simp only [List.length_append, List.length_cons, List.length_nil, List.length_drop] at this ⊢
      omega
    · have := bb_len old x ho g l (by omega)
      simp only [List.length_cons]
      omega
theorem bb_cr : ∀ (g m : Nat) (s : List UInt8), s.length ≤ g → s.length ≤ m → bb [13] [10] m (bb [13, 10] [10] g s) = crL s
  | 0, m, s, h1, h2 => by
    obtain rfl : s = [] := List.eq_nil_of_length_eq_zero (by omega)
    cases m <;> rfl
  | g + 1, m, [], h1, h2 => by cases m <;> rfl
  | g + 1, 0, b :: l, h1, h2 => by simp at h2
  | g + 1, m + 1, b :: l, h1, h2 => by
    simp only [List.length_cons] at h1 h2
    by_cases hb : b = 13
    · subst hb
      cases l with
      | nil => cases g <;> cases m <;> rfl
      | cons d r =>
        simp only [List.length_cons] at h1 h2
        by_cases hd : d = 10
        · subst hd
          have := bb_cr g m r (by omega) (by omega)
          rw [crL_cr]
          simpa [bb, List.isPrefixOf] using this
        · have hp : ([13, 10] : List UInt8).isPrefixOf (13 :: d :: r) = false := by simp [List.isPrefixOf, Ne.symm hd]
          have := bb_cr g m (d :: r) (by simp; omega) (by simp; omega)
          rw [crL_cr, if_neg (by simp [hd]), ← this]
          simp only [bb, hp, Bool.false_eq_true, if_false]
          simp [List.isPrefixOf]
    · have hp : ([13, 10] : List UInt8).isPrefixOf (b :: l) = false := by simp [List.isPrefixOf, Ne.symm hb]
      have := bb_cr g m l (by omega) (by omega)
      rw [crL_cons hb, ← this]
      simp only [bb, hp, Bool.false_eq_true, if_false]
      simp [List.isPrefixOf, Ne.symm hb]
/-- Both replacements. -/
theorem replace_cr (s : List UInt8) : Lib.replaceAll (Lib.replaceAll s [13, 10] [10]) [13] [10] = crL s := by
  rw [replaceAll_bb s [13, 10] [10] (by decide) (by decide) s.length (Nat.le_refl _)]
  rw [replaceAll_bb _ [13] [10] (by decide) (by decide) s.length (bb_len _ _ (by decide) _ _ (Nat.le_refl _))]
  exact bb_cr _ _ s (Nat.le_refl _) (Nat.le_refl _)
theorem replace_len (s : List UInt8) : (Lib.replaceAll s [13, 10] [10]).length ≤ s.length := by
  rw [replaceAll_bb s [13, 10] [10] (by decide) (by decide) s.length (Nat.le_refl _)]
  exact bb_len _ _ (by decide) _ _ (Nat.le_refl _)
end Go.Proofs.YtohkocknpmnakabGreatDoor

/-
  Both documents of XmlWhite are read alike, whatever texts they hold.
-/
import Derived.Test.YtohkocknpmnakabGreatDoorWhE
import Derived.Test.YtohkocknpmnakabGreatDoorWhL
import Derived.Test.YtohkocknpmnakabGreatDoorAwk
namespace Go.Proofs.YtohkocknpmnakabGreatDoor
open Go.RowKit

def Lg (l : List UInt8) : Bool := (cntP xmlP l).isSome
def asc (c : UInt8) : Bool := decide (c.toNat < 128) && xmlP c.toNat
theorem lg_cons {c : UInt8} (l : List UInt8) (h : asc c = true) : Lg (c :: l) = Lg l := by
  simp only [asc, Bool.and_eq_true, decide_eq_true_eq] at h
  have hd := dec_ascii c l h.1
  have hs : stepL (c :: l) = (c.toNat, 1) := by
    unfold stepL
    rw [hd, if_neg (by intro hh; have := hh.1; simp at this; omega)]
  unfold Lg
  rw [cntP_go (by simp) (by rw [hs]; exact Nat.one_ne_zero) (by rw [hs]; exact h.2), hs]
  simp
theorem lg_mid (l m : List UInt8) {c : UInt8} (h : asc c = true) : Lg (l ++ c :: m) = (Lg l && Lg (c :: m)) := by
  simp only [asc, Bool.and_eq_true, decide_eq_true_eq] at h
  exact legal_app xmlP l m c h.1
theorem lg_nil : Lg [] = true := rfl
theorem ws_asc {c : UInt8} (h : wsB c = true) : asc c = true := by
  have h' : wsZ (c.toNat : Int) = true := h
  simp only [wsZ, decide_eq_true_eq] at h'
  have : c = 32 ∨ c = 9 ∨ c = 10 ∨ c = 13 := by
    rcases h' with h | h | h | h
    · exact .inl (UInt8.toNat_inj.1 (show c.toNat = _ by simp; omega))
    · exact .inr (.inl (UInt8.toNat_inj.1 (show c.toNat = _ by simp; omega)))
    · exact .inr (.inr (.inl (UInt8.toNat_inj.1 (show c.toNat = _ by simp; omega))))
    · exact .inr (.inr (.inr (UInt8.toNat_inj.1 (show c.toNat = _ by simp; omega))))
  rcases this with rfl | rfl | rfl | rfl <;> decide
theorem lg_white : ∀ {w : List UInt8}, whB w = true → Lg w = true
  | [], _ => rfl
  | c :: r, h => by
    simp only [whB, List.all_cons, Bool.and_eq_true] at h
    rw [lg_cons _ (ws_asc h.1)]
    exact lg_white h.2
theorem lg_one (P Q : List UInt8) : Lg (t1L P Q) = (Lg P && Lg Q) := by
  unfold t1L t1B
  simp (disch := decide) only [List.nil_append, List.cons_append, lg_cons, lg_mid, lg_nil, Bool.and_true]
def t2L (w P Q : List UInt8) : List UInt8 := w ++ 60 :: 114 :: (w ++ 32 :: 120 :: 61 :: 39 :: 49 :: 39 :: 62 :: t2B w P Q)
theorem lg_two {w P Q : List UInt8} (hw : whB w = true) : Lg (t2L w P Q) = (Lg P && Lg Q) := by
  have h := lg_white hw
  unfold t2L t2B
  simp (disch := decide) only [List.nil_append, List.cons_append, lg_cons, lg_mid, h, Bool.and_true, Bool.true_and]
theorem escB_lt (c : UInt8) : noLt (escB c) = true := by
  unfold escB
  split
  · next h =>
    unfold noLt
    simp only [List.all_cons, List.all_nil, Bool.and_true, bne_iff_ne]
    rintro rfl
    revert h
    decide
  · unfold eoL
    (repeat' split) <;> first | decide | contradiction
theorem noLt_app (x y : List UInt8) : noLt (x ++ y) = (noLt x && noLt y) := by
  unfold noLt
  rw [List.all_append]
theorem escX_lt : ∀ l : List UInt8, noLt (escX l) = true
  | [] => rfl
  | c :: r => by
    have e : escX (c :: r) = escB c ++ escX r := by simp [escX]
    rw [e, noLt_app, escB_lt, escX_lt r]
    rfl
/-- What both are read as. -/
def resP (P Q : List UInt8) : Option Nod := if (Lg P && Lg Q) = true then (resW P Q).map fun ks => .nd [114] [] ks else none
theorem prs_one (a b : List UInt8) : prsL (t1L (escX a) (escX b)) = resP (escX a) (escX b) := by
  unfold prsL resP
  rw [show (cntP xmlP (t1L (escX a) (escX b))).isSome = Lg (t1L (escX a) (escX b)) from rfl, lg_one, doc_one (escX_lt a) (escX_lt b)]
theorem prs_two {w : List UInt8} (a b : List UInt8) (hw : whB w = true) : prsL (t2L w (escX a) (escX b)) = resP (escX a) (escX b) := by
  unfold prsL resP
  rw [show (cntP xmlP (t2L w (escX a) (escX b))).isSome = Lg (t2L w (escX a) (escX b)) from rfl, lg_two hw]
  unfold t2L
  rw [doc_two hw (escX_lt a) (escX_lt b)]
theorem res_form (P Q : List UInt8) : resP P Q = none ∨ ∃ x y, resP P Q = some (.nd [114] [] [.nd [107] x [], .nd [118] y [], .nd [122] [] []]) := by
  unfold resP resW
  split
  · cases une P with
    | none => exact .inl rfl
    | some x =>
      cases une Q with
      | none => exact .inl rfl
      | some y => exact .inr ⟨x, y, rfl⟩
  · exact .inl rfl
theorem p_none (l : List UInt8) (W : World) (hl : l.length ≤ 65536) (h : prsL l = none) (hm : Mx W) (he : Er W) :
    Calls Tryz.prog 6 #[.string ⟨l.toArray⟩] W fun e w' => e = .returned (.tuple #[.agg #[.string ⟨#[]⟩, .string ⟨#[]⟩, .slice none 0 0], .int .i64 130]) ∧ Below W.heap.size W w' := by
  refine (parse_any l W (by unfold maxLen; omega) hm he).mono ?_
  rintro e w' ⟨hb, h1 | h1 | ⟨-, t, a, c, hp, rfl, hk⟩⟩
  · omega
  · exact ⟨h1.2.2, hb⟩
  · rw [h] at hp; cases hp
theorem p_some (l x y : List UInt8) (W : World) (hl : l.length ≤ 65536) (h : prsL l = some (.nd [114] [] [.nd [107] x [], .nd [118] y [], .nd [122] [] []])) (hm : Mx W) (he : Er W) :
    Calls Tryz.prog 6 #[.string ⟨l.toArray⟩] W fun e w' => ∃ b off c, e = .returned (.tuple #[.agg #[.string ⟨#[114]⟩, .string ⟨#[]⟩, .slice (some ⟨b, off, none⟩) 3 c], .int .i64 0]) ∧ b < w'.heap.size ∧ w'.cell? ⟨b, off + 1, none⟩ = some (.string ⟨x.toArray⟩) ∧ w'.cell? ⟨b, off + 3 + 1, none⟩ = some (.string ⟨y.toArray⟩) ∧ w'.cell? ⟨b, off + 6 + 1, none⟩ = some (.string ⟨#[]⟩) ∧ Below W.heap.size W w' := by
  refine (parse_any l W (by unfold maxLen; omega) hm he).mono ?_
  rintro e w' ⟨hb, h1 | h1 | ⟨-, t, a, c, hp, rfl, hk⟩⟩
  · omega
  · rw [h] at h1; exact absurd h1.2.1 (by simp)
  · rw [h] at hp
    injection hp with hp
    subst hp
    have hk' : Kd (fun b => W.heap.size ≤ b) (15 + 1) w' a [.nd [107] x [], .nd [118] y [], .nd [122] [] []] := hk
    rcases hk' with hk' | ⟨b, off, rfl, -, hlt, hj⟩
    · cases hk'
    · obtain ⟨_, _, -, h0, -⟩ := hj 0 (by simp)
      obtain ⟨_, _, -, h1, -⟩ := hj 1 (by simp)
      obtain ⟨_, _, -, h2, -⟩ := hj 2 (by simp)
      exact ⟨b, off, c, rfl, hlt, by simpa [Nod.tx] using h0, by simpa [Nod.tx] using h1, by simpa [Nod.tx] using h2, hb⟩
theorem and3 (z : Int) : ∃ m : Nat, m < 4 ∧ bits .and .i64 z 3 = (m : Int) := by
  refine ⟨(BitVec.ofInt 64 z &&& BitVec.ofInt 64 3).toNat, ?_, ?_⟩
  · rw [BitVec.toNat_and]
    exact Nat.lt_of_le_of_lt Nat.and_le_right (by decide)
  · have hx : (BitVec.ofInt 64 z &&& BitVec.ofInt 64 3).toNat < 4 := by
      rw [BitVec.toNat_and]
      exact Nat.lt_of_le_of_lt Nat.and_le_right (by decide)
    show IntKind.i64.wrap ((BitVec.ofInt 64 z &&& BitVec.ofInt 64 3).toNat : Int) = _
    generalize (BitVec.ofInt 64 z &&& BitVec.ofInt 64 3).toNat = n at *
    rw [IntKind.wrap_i64]
    omega
theorem cat_ex (A B : ByteArray) (h : A.size + B.size ≤ 100000) :
    ∃ C : ByteArray, C.data.toList = A.data.toList ++ B.data.toList ∧ C.size = A.size + B.size ∧ ∀ wx, (Op.stringOp .add A B).run Tryz.prog wx = .ok (.string C) wx :=
  ⟨A ++ B, by simp, by simp, fun wx => run_string_add_sum wx A B (by omega)⟩
end Go.Proofs.YtohkocknpmnakabGreatDoor

/-
  chars.Fold and the document's by their contracts (out of the seat of stage 3).
-/
import Derived.Test.YtnmffehmjgknkaaGreatDoorChFm
import Derived.Test.YtnmffehmjgknkaaGreatDoorShelfF
import Derived.Test.YtnmffehmjgknkaaGreatDoorShelfJ
namespace Go.Proofs.YtnmffehmjgknkaaGreatDoor.Ch
open Go.RowKit
theorem enterBlk : ∀ args w, (callFunc 159 args).run Tryz.prog w = .ok (.enter 159 args) w := fun args w => Tryz.call159 args w
theorem blk_pred (w : World) : PredAtRunes Tryz.prog 159 #[] blkP w := fun W x hx _ =>
  (isBlank_any (x : Int) W (Int.natCast_nonneg _) (by omega)).mono fun e w' ⟨he, hw⟩ => ⟨he, 0, by subst hw; rfl⟩

set_option maxHeartbeats 800000 in
theorem fold_any (s : ByteArray) (w : World) (hs : s.size ≤ 4294967296) (hl : (foldG s).length ≤ 140737488355328) (hn : (Lib.goFieldsP blkP s).length ≤ 140737488355328) :
    Calls Tryz.prog 97 #[.string s] w fun e w' => e = .returned (.string ⟨(foldG s).toArray⟩) ∧ Below w.heap.size w w' := by
  have HFF : Hid (Calls Tryz.prog 158 #[.string s, .func (.func 159) #[] #[]] w fun e w' => ∃ A, e = .returned (.slice (some ⟨A, 0, none⟩) (Lib.goFieldsP blkP s).length (Lib.goFieldsP blkP s).length) ∧ w.heap.size ≤ A ∧
      w'.ownsRow w.heap.size 9 1 (.slice (some ⟨A, 0, none⟩) (Lib.goFieldsP blkP s).length (Lib.goFieldsP blkP s).length) (Lib.goFieldsP blkP s).length ((Lib.goFieldsP blkP s).map Value.string) ∧ Below w.heap.size w w') := strings_FieldsFunc_runes 159 #[] enterBlk blkP s w hs (blk_pred w)
  have HJ : Hid (∀ (A : Nat) (W : World), (∀ (j : Nat) x, (Lib.goFieldsP blkP s)[j]? = some x → W.cell? ⟨A, 0 + j, none⟩ = some (.string x)) → A < W.heap.size →
      Calls Tryz.prog 38 #[.slice (some ⟨A, 0, none⟩) (Lib.goFieldsP blkP s).length (Lib.goFieldsP blkP s).length, .string ⟨#[32]⟩] W fun e w' => e = .returned (.string ⟨(foldG s).toArray⟩) ∧ Below W.heap.size W w') :=
    fun A W hc hA => strings_Join A 0 _ (Lib.goFieldsP blkP s) ⟨#[32]⟩ W hc hA hn (Nat.le_refl _) hl
  generalize hG : Lib.goFieldsP blkP s = G at *
  clear hl hn hG
  go_enter Tryz.func97, Tryz.ntmps97
  go_wp2_with fail
  refine HFF.out.mono ?_
  rintro e w1 ⟨A, rfl, hA, hown, hb1⟩
  have hlt : A < w1.heap.size := (hown.lt A rfl).2
  have hcs : ∀ (j : Nat) x, G[j]? = some x → w1.cell? ⟨A, 0 + j, none⟩ = some (.string x) := fun j x hj => by
    have hjl : j < G.length := (List.getElem?_eq_some_iff.1 hj).1
    rw [Nat.zero_add, hown.cellAt j (by omega), List.getElem?_map, hj]
    rfl
  have HJ2 := HJ.out A w1 hcs hlt
  clear hown hcs HJ
  go_wp2_with fail
  refine HJ2.mono ?_
  rintro e w2 ⟨rfl, hb2⟩
  go_wp2
  go_ret
  exact ⟨rfl, hb1.trans (hb2.mono hb1.size)⟩


theorem foldS_any (s : ByteArray) (w : World) (hs : s.size ≤ 4294967280) :
    Calls Tryz.prog 97 #[.string s] w fun e w' => e = .returned (.string ⟨(foldL s.data.toList).toArray⟩) ∧ Below w.heap.size w w' := by
  have hL : s.data.toList.length = s.size := by simp
  have h1 := fold_len s.data.toList
  have h2 := fields_len s
  have := fold_any s w (by omega) (by rw [foldG_eq]; omega) (by omega)
  rw [foldG_eq] at this
  exact this

def pb (l : List UInt8) : Nat → Bool
  | 0 => false
  | k + 1 => blk (l.getD k 0)
theorem pb_succ {l : List UInt8} {k : Nat} (h : k < l.length) : pb l (k + 1) = blk l[k] := by
  show blk (l.getD k 0) = _
  rw [List.getD_eq_getElem?_getD, List.getElem?_eq_getElem h]
  rfl
theorem fr_at {l : List UInt8} {k : Nat} (h : k < l.length) : fr (pb l k) (l.drop k) = (if blk l[k] then (if pb l k then [] else [32]) else [l[k]]) ++ fr (pb l (k + 1)) (l.drop (k + 1)) := by
  rw [pb_succ h, List.drop_eq_getElem_cons h, fr]
  cases hb : blk l[k]
  · simp
  · cases pb l k <;> simp

set_option maxHeartbeats 1000000 in
theorem refFold_any (s : ByteArray) (w : World) (hs : s.size ≤ maxLen) :
    Calls Tryz.prog 44 #[.string s] w fun e w' => e = .returned (.string ⟨(foldL s.data.toList).toArray⟩) ∧ w = w' := by
  have HT := refTrim_any s w hs
  unfold maxLen at hs
  have hL : s.data.toList.length = s.size := by simp
  have htl := trim_len s.data.toList
  have HF : Hid (foldL s.data.toList = fr false (trimL s.data.toList)) := fold_trim _
  have hhd := trim_head s.data.toList
  generalize trimL s.data.toList = tl at *
  obtain ⟨t, ht⟩ : ∃ t : ByteArray, t = ⟨tl.toArray⟩ := ⟨_, rfl⟩
  have htt : t.data.toList = tl := by rw [ht]
  have htz : t.size = tl.length := by rw [ht]; rfl
  rw [← ht] at HT
  have hts : t.size ≤ s.size := by omega
  rw [← htt] at HF hhd
  clear ht htt htz hL htl
  have hTL : t.data.toList.length = t.size := by simp
  have HTL : Hid (t.data.toList.length = t.size) := hTL
  clear hTL
  go_enter Tryz.func44, Tryz.ntmps44
  go_wp2_with fail
  refine HT.mono ?_
  rintro e w' ⟨rfl, rfl⟩
  clear HT
  go_wp2
  go_loop [3, 4] (fun v i => ∃ (k : Nat) (acc : List UInt8), k ≤ t.size ∧ i = .int .i64 k ∧ v = .string ⟨acc.toArray⟩ ∧ acc.length ≤ k ∧ fr false t.data.toList = acc ++ fr (pb t.data.toList k) (t.data.toList.drop k)) (fun _ i => t.size - (intOf i).toNat)
  case atStart => exact ⟨0, [], Nat.zero_le _, rfl, rfl, Nat.le_refl _, rfl⟩
  case round =>
    obtain ⟨k, acc, hk, rfl, rfl, hak, hc⟩ := hrel
    have HC : Hid (fr false t.data.toList = acc ++ fr (pb t.data.toList k) (t.data.toList.drop k)) := hc
    clear hc
    by_cases hlt : k < t.size
    · have hkl : k < t.data.toList.length := by rw [HTL.out]; exact hlt
      have HS := fr_at hkl
      have hbl := blk_at hlt
      have HX1 : Hid (t.extract k (k + 1) = ⟨#[t[k]]⟩) := one_of t k hlt
      have hadd : ∀ (x : UInt8) (wx : World), (Op.stringOp .add ⟨acc.toArray⟩ ⟨#[x]⟩).run Tryz.prog wx = .ok (.string ⟨(acc ++ [x]).toArray⟩) wx := fun x wx => by
        rw [run_string_add_sum wx _ _ (by simp [ByteArray.size]; omega)]
        exact congrArg (fun z => Result.ok (Value.string z) wx) (ByteArray.mk_append_mk _ [x])
      have hadd1 : ∀ (wx : World), (Op.stringOp .add ⟨acc.toArray⟩ (t.extract k (k + 1))).run Tryz.prog wx = .ok (.string ⟨(acc ++ [t[k]]).toArray⟩) wx := fun wx => by
        rw [HX1.out]
        exact hadd _ wx
      have hadd2 : ∀ (wx : World), (Op.stringOp .add ⟨acc.toArray⟩ ⟨#[32]⟩).run Tryz.prog wx = .ok (.string ⟨(acc ++ [32]).toArray⟩) wx := fun wx => hadd 32 wx
      clear hadd
      cases hb : blk t.data.toList[k]
      · rw [hb] at HS hbl
        simp only [Bool.false_eq_true, if_false] at HS
        have HU : Hid (fr false t.data.toList = (acc ++ [t[k]]) ++ fr (pb t.data.toList (k + 1)) (t.data.toList.drop (k + 1))) := by
          show fr false t.data.toList = _
          rw [HC.out, HS, List.append_assoc]
          rfl
        have hq : ((t[k].toNat : Int) == 32) = false ∧ ((t[k].toNat : Int) == 9) = false := by
          have := hbl.symm
          simp at this ⊢
          omega
        obtain ⟨q1, q2⟩ := hq
        clear HS hbl hb
        go_wp2
        go_round
        case rel => exact ⟨k + 1, acc ++ [t[k]], by omega, by go_num, rfl, by simp; omega, HU.out⟩
        case measure => simp [intOf]; omega
      · rcases k with _ | k
        · exfalso
          rcases hhd with h | ⟨a, r, h, hb2⟩
          · rw [h] at hkl
            simp at hkl
          · have : t.data.toList[0] = a := by simp [h]
            rw [this, hb2] at hb
            cases hb
        · rw [hb] at HS hbl
          have hkl2 : k < t.data.toList.length := by omega
          rw [pb_succ hkl2] at HS HC
          have hlt2 : k < t.size := by omega
          have hbl2 := blk_at hlt2
          have hq : (t[k + 1].toNat : Int) = 32 ∨ (((t[k + 1].toNat : Int) == 32) = false ∧ (t[k + 1].toNat : Int) = 9) := by
            have := hbl.symm
            simp at this ⊢
            omega
          obtain ⟨c, hcc⟩ : ∃ c : Int, (t[k + 1].toNat : Int) = c := ⟨_, rfl⟩
          obtain ⟨d, hdd⟩ : ∃ d : Int, (t[k].toNat : Int) = d := ⟨_, rfl⟩
          rw [hcc] at hq
          rw [hdd] at hbl2
          cases hb2 : blk t.data.toList[k]
          · rw [hb2] at HS hbl2 HC
            simp only [if_true, Bool.false_eq_true, if_false] at HS
            have HU : Hid (fr false t.data.toList = (acc ++ [32]) ++ fr (pb t.data.toList (k + 1 + 1)) (t.data.toList.drop (k + 1 + 1))) := by
              show fr false t.data.toList = _
              rw [HC.out, HS, List.append_assoc]
            have hq2 : (d == 32) = false ∧ (d == 9) = false := by
              have := hbl2.symm
              simp at this ⊢
              omega
            obtain ⟨q1, q2⟩ := hq2
            clear HS hbl hb hb2 hbl2
            rcases hq with rfl | ⟨h1, rfl⟩
            all_goals
              go_wp2
              go_round
              case rel => exact ⟨k + 2, acc ++ [32], by omega, by go_num, rfl, by simp; omega, HU.out⟩
              case measure => simp [intOf]; omega
          · rw [hb2] at HS hbl2 HC
            simp only [if_true, List.nil_append] at HS
            have HU : Hid (fr false t.data.toList = acc ++ fr (pb t.data.toList (k + 1 + 1)) (t.data.toList.drop (k + 1 + 1))) := by
              show fr false t.data.toList = _
              rw [HC.out, HS]
            have hq2 : d = 32 ∨ ((d == 32) = false ∧ d = 9) := by
              have := hbl2.symm
              simp at this ⊢
              omega
            clear HS hbl hb hb2 hbl2
            rcases hq with rfl | ⟨h1, rfl⟩
            all_goals
              rcases hq2 with rfl | ⟨h2, rfl⟩
              all_goals
                go_wp2
                go_round
                case rel => exact ⟨k + 2, acc, by omega, by go_num, rfl, by omega, HU.out⟩
                case measure => simp [intOf]; omega
    · have HZ : Hid (foldL s.data.toList = acc) := by
        show foldL _ = _
        have := HC.out
        rw [List.drop_eq_nil_of_le (by rw [HTL.out]; omega)] at this
        rw [HF.out, this]
        cases pb t.data.toList k <;> simp [fr]
      clear HC
      go_wp2
      go_ret
      exact ⟨ret_str (by rw [HZ.out]), rfl⟩
end Go.Proofs.YtnmffehmjgknkaaGreatDoor.Ch

/-
  The document's Trim (out of the seat of stage 3).
-/
import Derived.Test.YtnmffehmjgknkaaGreatDoorChRefEsc
import Derived.Shelf.Strings.SlTrimAscii
namespace Go.Proofs.YtnmffehmjgknkaaGreatDoor.Ch
open Go.RowKit
def strLen (v : Value) : Nat := match v with | .string t => t.size | _ => 0
theorem toList_nil {t : ByteArray} (h : t.size = 0) : t.data.toList = [] := by
  have e : t.data.toList.length = t.size := by simp
  exact List.eq_nil_of_length_eq_zero (by omega)
theorem strLen_s (t : ByteArray) : strLen (.string t) = t.size := rfl

theorem extract_drop (s : ByteArray) (i : Nat) : (s.extract i s.size).data.toList = s.data.toList.drop i := by
  simp only [ByteArray.data_extract, Array.toList_extract, List.extract_eq_take_drop]
  exact List.take_of_length_le (by simp)
def pieceL (l : List UInt8) (f k : Nat) : List UInt8 := (l.drop f).take (k - f)
theorem extract_piece (s : ByteArray) (f k : Nat) : s.extract f k = ⟨(pieceL s.data.toList f k).toArray⟩ := by
  obtain ⟨⟨l⟩⟩ := s
  exact ByteArray.extract_mk l f k



def blk (c : UInt8) : Bool := decide (c.toNat = 32) || decide (c.toNat = 9)
def dw (l : List UInt8) : List UInt8 := l.dropWhile blk
def rdw (l : List UInt8) : List UInt8 := (l.reverse.dropWhile blk).reverse
def trimL (l : List UInt8) : List UInt8 := rdw (dw l)
theorem blk_in : (fun c : UInt8 => ([32, 9] : List UInt8).contains c) = blk := by
  funext c
  rw [Bool.eq_iff_iff]
  simp only [List.contains_eq_mem, List.mem_cons, List.mem_nil_iff, or_false, decide_eq_true_eq, blk, Bool.or_eq_true]
  constructor
  · rintro (rfl | rfl)
    · exact .inl rfl
    · exact .inr rfl
  · rintro (h | h)
    · exact .inl (UInt8.toNat_inj.1 (by rw [h]; rfl))
    · exact .inr (UInt8.toNat_inj.1 (by rw [h]; rfl))
theorem dw_yes {a : UInt8} {r : List UInt8} (h : blk a = true) : dw (a :: r) = dw r := by simp [dw, List.dropWhile, h]
theorem dw_no {a : UInt8} {r : List UInt8} (h : blk a = false) : dw (a :: r) = a :: r := by simp [dw, List.dropWhile, h]
theorem rdw_snoc_yes {a : UInt8} {r : List UInt8} (h : blk a = true) : rdw (r ++ [a]) = rdw r := by simp [rdw, h]
theorem rdw_snoc_no {a : UInt8} {r : List UInt8} (h : blk a = false) : rdw (r ++ [a]) = r ++ [a] := by simp [rdw, h]
theorem rdw_cons (a : UInt8) (r : List UInt8) : rdw (a :: r) = if rdw r = [] then (if blk a then [] else [a]) else a :: rdw r := by
  unfold rdw
  rw [List.reverse_cons, List.dropWhile_append]
  cases h : r.reverse.dropWhile blk with
  | nil => simp [List.dropWhile]; cases blk a <;> rfl
  | cons x xs => simp
theorem rdw_dw (l : List UInt8) : dw (rdw l) = rdw (dw l) := by
  induction l with
  | nil => rfl
  | cons a r ih =>
    rw [rdw_cons]
    cases hb : blk a
    · rw [dw_no hb, rdw_cons, hb]
      split
      · exact dw_no hb
      · exact dw_no hb
    · rw [dw_yes hb]
      split
      · rename_i h
        rw [h] at ih
        exact ih
      · rw [dw_yes hb]
        exact ih
theorem trimS_eq (l : List UInt8) : Lib.trimS l [32, 9] = trimL l := by
  unfold Lib.trimS Lib.trimLeftS Lib.trimRightS
  rw [blk_in]
  exact rdw_dw l

theorem blk_at {t : ByteArray} {k : Nat} (h : k < t.size) : blk t.data.toList[k] = (decide ((t[k].toNat : Int) = 32) || decide ((t[k].toNat : Int) = 9)) := by
  show (decide (t[k].toNat = 32) || decide (t[k].toNat = 9)) = _
  rw [Bool.eq_iff_iff]
  simp
  omega
theorem head_tail {t : ByteArray} (h : 0 < t.size) : t.data.toList = t.data.toList[0]'(by simpa using h) :: (t.extract 1 t.size).data.toList := by
  rw [extract_drop]
  have := List.drop_eq_getElem_cons (l := t.data.toList) (i := 0) (by simpa using h)
  simpa using this
theorem init_last {t : ByteArray} (h : 0 < t.size) : t.data.toList = (t.extract 0 (t.size - 1)).data.toList ++ [t.data.toList[t.size - 1]'(by simp; have : t.size = t.data.size := rfl; omega)] := by
  have hL : t.data.toList.length = t.size := by simp
  rw [extract_piece]
  show t.data.toList = pieceL t.data.toList 0 (t.size - 1) ++ _
  unfold pieceL
  rw [List.drop_zero, Nat.sub_zero, ← List.take_succ_eq_append_getElem (by omega)]
  exact (List.take_of_length_le (by omega)).symm

set_option maxHeartbeats 1000000 in
theorem refTrim_any (s : ByteArray) (w : World) (hs : s.size ≤ maxLen) :
    Calls Tryz.prog 105 #[.string s] w fun e w' => e = .returned (.string ⟨(trimL s.data.toList).toArray⟩) ∧ w = w' := by
  unfold maxLen at hs
  go_enter Tryz.func105, Tryz.ntmps105
  go_wp2
  go_loop [0] (fun v => ∃ t : ByteArray, v = .string t ∧ t.size ≤ s.size ∧ dw t.data.toList = dw s.data.toList) (fun v => strLen v)
  case atStart => exact ⟨s, rfl, Nat.le_refl _, rfl⟩
  case round =>
    obtain ⟨t, rfl, htz, hd⟩ := hrel
    have HD : Hid (dw t.data.toList = dw s.data.toList) := hd
    clear hd
    by_cases h0 : 0 < t.size ∧ blk (t.data.toList.getD 0 0) = true
    · obtain ⟨hp, hb⟩ := h0
      have hg : t.data.toList.getD 0 0 = t.data.toList[0]'(by simpa using hp) := by rw [List.getD_eq_getElem?_getD, List.getElem?_eq_getElem (by simpa using hp)]; rfl
      rw [hg] at hb
      have HH := head_tail hp
      have HN : Hid (dw (t.extract 1 t.size).data.toList = dw s.data.toList) := by
        show dw _ = _
        have h := HD.out
        rw [HH, dw_yes hb] at h
        exact h
      rw [blk_at hp] at hb
      have hcl : (t[0].toNat : Int) = 32 ∨ (((t[0].toNat : Int) == 32) = false ∧ (t[0].toNat : Int) = 9) := by
        simp at hb ⊢
        omega
      have hex : Hid ((t.extract 1 t.size).size = t.size - 1) := by show (t.extract 1 t.size).size = _; simp
      have hp1 : 1 ≤ (t.size : Int) := by omega
      clear HH hg hb
      rcases hcl with h | ⟨h, h'⟩
      · have hq : ((t[0].toNat : Int) == 32) = true := by simp [h]
        clear h
        go_wp2
        go_round
        case rel => exact ⟨t.extract 1 t.size, rfl, by rw [hex.out]; omega, HN.out⟩
        case measure => show (t.extract 1 t.size).size < t.size; rw [hex.out]; omega
      · have hq : ((t[0].toNat : Int) == 9) = true := by simp [h']
        clear h'
        go_wp2
        go_round
        case rel => exact ⟨t.extract 1 t.size, rfl, by rw [hex.out]; omega, HN.out⟩
        case measure => show (t.extract 1 t.size).size < t.size; rw [hex.out]; omega
    · have HT : Hid (t.data.toList = dw s.data.toList) := by
        show t.data.toList = _
        rw [← HD.out]
        by_cases hp : 0 < t.size
        · have hb : blk (t.data.toList[0]'(by simpa using hp)) = false := by
            have hg : t.data.toList.getD 0 0 = t.data.toList[0]'(by simpa using hp) := by rw [List.getD_eq_getElem?_getD, List.getElem?_eq_getElem (by simpa using hp)]; rfl
            have : ¬ blk (t.data.toList.getD 0 0) = true := fun h => h0 ⟨hp, h⟩
            rw [hg] at this
            simpa using this
          rw [head_tail hp, dw_no hb]
        · rw [toList_nil (by omega)]
          rfl
      have hcl : (∃ hp : 0 < t.size, (((t[0]'hp).toNat : Int) == 32) = false ∧ (((t[0]'hp).toNat : Int) == 9) = false) ∨ ¬ (0 : Int) < (t.size : Int) := by
        by_cases hp : 0 < t.size
        · left
          have hb : blk (t.data.toList[0]'(by simpa using hp)) = false := by
            have hg : t.data.toList.getD 0 0 = t.data.toList[0]'(by simpa using hp) := by rw [List.getD_eq_getElem?_getD, List.getElem?_eq_getElem (by simpa using hp)]; rfl
            have : ¬ blk (t.data.toList.getD 0 0) = true := fun h => h0 ⟨hp, h⟩
            rw [hg] at this
            simpa using this
          rw [blk_at hp] at hb
          refine ⟨hp, ?_⟩
          simp at hb ⊢
          omega
        · right
          omega
      clear h0 HD
      rcases hcl with ⟨hp, h1, h2⟩ | h1
      all_goals
        go_wp2
        go_loop [0] (fun v => ∃ t' : ByteArray, v = .string t' ∧ t'.size ≤ s.size ∧ rdw t'.data.toList = rdw (dw s.data.toList)) (fun v => strLen v)
        case atStart => exact ⟨t, rfl, htz, by rw [HT.out]⟩
        case round =>
          clear HT htz
          try clear h1 h2 hp
          try clear h1
          obtain ⟨r, rfl, hrz, hd⟩ := hrel
          have HD : Hid (rdw r.data.toList = rdw (dw s.data.toList)) := hd
          clear hd
          by_cases hp : 0 < r.size
          · have HI := init_last hp
            have hbl := blk_at (t := r) (k := r.size - 1) (by omega)
            have hlast : r.size - 1 < r.size := by omega
            obtain ⟨c, hc⟩ : ∃ c : Int, (r[r.size - 1].toNat : Int) = c := ⟨_, rfl⟩
            rw [hc] at hbl
            have hex : Hid ((r.extract 0 (r.size - 1)).size = r.size - 1) := by show (r.extract 0 (r.size - 1)).size = _; simp
            have hp1 : 1 ≤ (r.size : Int) := by omega
            by_cases hb : blk (r.data.toList[r.size - 1]'(by simp; have : r.size = r.data.size := rfl; omega)) = true
            · have HN : Hid (rdw (r.extract 0 (r.size - 1)).data.toList = rdw (dw s.data.toList)) := by
                show rdw _ = _
                have h := HD.out
                rw [HI, rdw_snoc_yes hb] at h
                exact h
              rw [hbl] at hb
              have hcl : c = 32 ∨ ((c == 32) = false ∧ c = 9) := by
                simp at hb ⊢
                omega
              clear HI hbl hb
              rcases hcl with rfl | ⟨h, rfl⟩
              all_goals
                go_wp2
                go_round
                case rel => exact ⟨r.extract 0 (r.size - 1), rfl, by rw [hex.out]; omega, HN.out⟩
                case measure => show (r.extract 0 (r.size - 1)).size < r.size; rw [hex.out]; omega
            · have hb' : blk (r.data.toList[r.size - 1]'(by simp; have : r.size = r.data.size := rfl; omega)) = false := by simpa using hb
              have HR : Hid (r.data.toList = trimL s.data.toList) := by
                show r.data.toList = rdw (dw s.data.toList)
                rw [← HD.out, HI, rdw_snoc_no hb']
              rw [hbl] at hb'
              have hcl : (c == 32) = false ∧ (c == 9) = false := by
                simp at hb' ⊢
                omega
              obtain ⟨q1, q2⟩ := hcl
              clear HI hbl hb hb'
              go_wp2
              go_ret
              exact ⟨ret_str (by rw [← HR.out]), rfl⟩
          · have HR : Hid (r.data.toList = trimL s.data.toList) := by
              show r.data.toList = rdw (dw s.data.toList)
              rw [← HD.out, toList_nil (by omega)]
              rfl
            have hp' : ¬ (0 : Int) < (r.size : Int) := by omega
            go_wp2
            go_ret
            exact ⟨ret_str (by rw [← HR.out]), rfl⟩

end Go.Proofs.YtnmffehmjgknkaaGreatDoor.Ch

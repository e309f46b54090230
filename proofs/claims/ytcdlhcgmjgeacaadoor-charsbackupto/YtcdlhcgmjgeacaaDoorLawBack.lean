/-
  The walk of the statement CharsBack out of the contracts of what it calls.
-/
import Derived.Test.YtcdlhcgmjgeacaaDoorAwake
import Derived.Test.YtcdlhcgmjgeacaaDoorBackMath
import Derived.Test.YtcdlhcgmjgeacaaDoorFold
namespace Go.Proofs.YtcdlhcgmjgeacaaDoor
open Go.RowKit

theorem str_neq (s : ByteArray) : (!s.toList == s.toList) = false := by simp
theorem toArray_back (s : ByteArray) : (⟨s.data.toList.toArray⟩ : ByteArray) = s := by simp

set_option maxRecDepth 20000 in
set_option maxHeartbeats 4000000 in
theorem charsBack_walk (s : ByteArray) (slash : Bool) (c : UInt8) (w : World) (hs : s.size ≤ 1048576) (hm : Mx w) :
    Calls Tryd.prog 7 #[.string s, .bool slash, .int .u8 (c.toNat : Int)] w fun e w' => e = .returned (.bool true) ∧ Below w.heap.size w w' := by
  have hL : s.data.toList.length = s.size := by simp
  have HL : Hid (s.data.toList.length = s.size) := hL
  have hel := escL_len slash s.data.toList
  obtain ⟨E, hE⟩ : ∃ E : ByteArray, E = ⟨(escL slash s.data.toList).toArray⟩ := ⟨_, rfl⟩
  have hEl : E.data.toList = escL slash s.data.toList := by rw [hE]
  have hEz : E.size ≤ 3145728 := by
    have : E.size = E.data.toList.length := by simp
    rw [this, hEl]
    omega
  have HU : Hid (∀ W, Calls Tryd.prog 15 #[.string E] W fun e w' => e = .returned (.tuple #[.string s, .bool true]) ∧ Below W.heap.size W w') := fun W => by
    have h := unescape_any E W (by omega)
    rw [hEl, uneV, uneOk, une_esc] at h
    refine h.mono ?_
    rintro e w' ⟨rfl, hb⟩
    exact ⟨ret_sb (toArray_back s) rfl, hb⟩
  have HES : Hid (∀ W, Calls Tryd.prog 17 #[.string s, .bool slash] W fun e w' => e = .returned (.string E) ∧ Below W.heap.size W w') := fun W => by
    rw [hE]
    exact escape_any s slash W (by omega)
  have HH : Hid (∀ k (h : k < E.size), harm slash E[k] = true) := fun k h => esc_harm slash s.data.toList _ (by rw [← hEl]; exact List.getElem_mem (l := E.data.toList) (n := k) (by simpa using h))
  clear hE hEl hel hL
  have hneq := str_neq s
  go_enter Tryd.func7, Tryd.ntmps7
  go_wp2_with fail
  refine (HES.out _).mono ?_
  rintro e w1 ⟨rfl, B1⟩
  go_wp2_with fail
  refine (HU.out _).mono ?_
  rintro e w2 ⟨rfl, hb2⟩
  have B2 := step_below B1 hb2 (Nat.le_refl _)
  clear B1 hb2 HES HU
  go_wp2
  go_loop [10] (fun i => ∃ k : Nat, k ≤ E.size ∧ i = .int .i64 k) (fun i => E.size - (intOf i).toNat)
  case atStart => exact ⟨0, Nat.zero_le _, rfl⟩
  case round =>
    obtain ⟨k, hk, rfl⟩ := hrel
    by_cases hlt : k < E.size
    · have hcl := harm_class (HH.out k hlt)
      obtain ⟨d, hd⟩ : ∃ d : Int, (E[k].toNat : Int) = d := ⟨_, rfl⟩
      rw [hd] at hcl
      rcases hcl with ⟨h1, h2⟩ | ⟨h1, h2⟩ | ⟨h1, h2⟩ | rfl | rfl | rfl | rfl | rfl | ⟨rfl, rfl⟩
      · go_wp2
        go_round
        case rel => exact ⟨k + 1, by omega, by go_num⟩
        case measure => simp [intOf]; omega
      · have h3 : decide (d ≤ 90) = false := decide_eq_false (by omega)
        go_wp2
        go_round
        case rel => exact ⟨k + 1, by omega, by go_num⟩
        case measure => simp [intOf]; omega
      · have h3 : d < 65 := by omega
        go_wp2
        go_round
        case rel => exact ⟨k + 1, by omega, by go_num⟩
        case measure => simp [intOf]; omega
      all_goals
        go_wp2
        go_round
        case rel => exact ⟨k + 1, by omega, by go_num⟩
        case measure => simp [intOf]; omega
    · clear HH
      go_wp2_with fail
      refine (split_any s c _ (by omega) (hm.below B2 (Nat.le_refl _))).mono ?_
      rintro e w3 ⟨g, rfl, hst, hb3⟩
      have B3 := step_below B2 hb3 (Nat.le_refl _)
      clear B2 hb3
      obtain ⟨g', off, hgo, hgl, hcs⟩ := hst.at (k := 0) (by rw [splitS_length]; omega)
      simp only [Option.some.injEq, Addr.mk.injEq, and_true] at hgo
      obtain ⟨rfl, rfl⟩ := hgo
      have HCS : Hid (∀ j (h : j < (splitS c s).length), w3.cell? ⟨g, j, none⟩ = some (.string (splitS c s)[j])) := fun j h => by have := hcs j h; rwa [Nat.zero_add] at this
      clear hcs hst
      have HLn : Hid ((splitS c s).length = (splitL c s.data.toList).length) := by
        show (splitS c s).length = _
        rw [splitS, List.length_map]
      have hpos : 0 < (splitS c s).length := by rw [splitS_length]; omega
      have hmx : (splitS c s).length ≤ 1048577 := by
        rw [splitS_length]
        have h := Lib.countB_le ⟨#[c]⟩ (Nat.le_refl 1) s.size s (Nat.le_refl _)
        omega
      have HGt : Hid (∀ j (h : j < (splitS c s).length) (h' : j < (splitL c s.data.toList).length), (splitS c s)[j] = ⟨((splitL c s.data.toList)[j]).toArray⟩) := fun j h h' => by simp [splitS]
      have HJ : Hid (jl c (splitL c s.data.toList) = s.data.toList) := jl_split c _
      have HJL : Hid (∀ k, (jl c ((splitL c s.data.toList).take k)).length ≤ 1048576) := fun k => by
        have := jl_take_len c (splitL c s.data.toList) k
        rw [jl_split, HL.out] at this
        omega
      generalize hG : splitS c s = L at *
      generalize hM : splitL c s.data.toList = M at *
      clear hG hM
      go_wp2
      go_loopw [14, 15] (fun v i wr => ∃ k : Nat, k ≤ L.length ∧ i = .int .i64 k ∧ v = .string ⟨(jl c (M.take k)).toArray⟩ ∧ Below w3.heap.size w3 wr) (fun _ i _ => L.length - (intOf i).toNat)
      case atStart => exact ⟨0, Nat.zero_le _, rfl, by simp [jl], Below.refl _ _⟩
      case round =>
        obtain ⟨k, hk, rfl, rfl, hnx⟩ := hrel
        have hsz := hnx.size
        have hjk := HJL.out k
        by_cases hlt2 : k < L.length
        · have hkM : k < M.length := by rw [← HLn.out]; exact hlt2
          have hcell : ∀ o, (wr.alloc o).cell? ⟨g, k, none⟩ = some (.string L[k]) := fun o => by
            have hb := (hnx.alloc hsz o)
            rw [hb.cell (p := ⟨g, k, none⟩) hgl]
            exact HCS.out k hlt2
          have hcell0 : wr.cell? ⟨g, k, none⟩ = some (.string L[k]) := by
            rw [hnx.cell (p := ⟨g, k, none⟩) hgl]
            exact HCS.out k hlt2
          have hlk := HGt.out k hlt2 hkM
          rw [hlk] at hcell hcell0
          rcases k with _ | k
          · have HF : Hid (jl c (M.take 1) = M[0]) := jl_first hkM
            have hadd : ∀ (wx : World), (Op.stringOp .add ⟨#[]⟩ ⟨(M[0]).toArray⟩).run Tryd.prog wx = .ok (.string ⟨(jl c (M.take 1)).toArray⟩) wx := fun wx => by
              have hlen : (M[0]).length ≤ 1048576 := by have := HJL.out 1; rw [HF.out] at this; exact this
              rw [run_string_add_sum wx _ _ (by simp [ByteArray.size]; omega), HF.out]
              exact congrArg (fun z => Result.ok (Value.string z) wx) (ByteArray.mk_append_mk [] _)
            have hjn : (⟨(jl c (M.take 0)).toArray⟩ : ByteArray) = ⟨#[]⟩ := rfl
            rw [hjn]
            clear hjn hjk hlk hcell
            go_wp2
            go_roundw
            case rel => exact ⟨1, by omega, by go_num, rfl, hnx⟩
            case measure => simp [intOf]; omega
          · have HF : Hid (jl c (M.take (k + 2)) = jl c (M.take (k + 1)) ++ [c] ++ M[k + 1]) := jl_next hkM
            have hl2 := HJL.out (k + 2)
            rw [HF.out] at hl2
            simp only [List.length_append, List.length_cons, List.length_nil] at hl2
            generalize jl c (M.take (k + 1)) = A at *
            have hadd1 : ∀ (wx : World), (Op.stringOp .add ⟨A.toArray⟩ ⟨#[c]⟩).run Tryd.prog wx = .ok (.string ⟨(A ++ [c]).toArray⟩) wx := fun wx => by
              rw [run_string_add_sum wx _ _ (by simp [ByteArray.size]; omega)]
              exact congrArg (fun z => Result.ok (Value.string z) wx) (ByteArray.mk_append_mk _ [c])
            have hadd2 : ∀ (wx : World), (Op.stringOp .add ⟨(A ++ [c]).toArray⟩ ⟨(M[k + 1]).toArray⟩).run Tryd.prog wx = .ok (.string ⟨(jl c (M.take (k + 2))).toArray⟩) wx := fun wx => by
              rw [run_string_add_sum wx _ _ (by simp [ByteArray.size]; omega), HF.out]
              exact congrArg (fun z => Result.ok (Value.string z) wx) (ByteArray.mk_append_mk _ _)
            have hcv : (convert 35 9 (.slice (some ⟨wr.heap.size, 0, none⟩) 1 1)).run Tryd.prog (wr.alloc (.cells #[.int .u8 (c.toNat : Int)] 5)) = .ok (.string ⟨#[c]⟩) (wr.alloc (.cells #[.int .u8 (c.toNat : Int)] 5)) := convert_bytes (wr.alloc (.cells #[.int .u8 (c.toNat : Int)] 5)) (some ⟨wr.heap.size, 0, none⟩) 1 [c] (sep_bytes wr c)
            have hcell1 := hcell (.cells #[.int .u8 (c.toNat : Int)] 5)
            clear hjk hlk hcell
            go_wp2
            go_roundw
            case rel => exact ⟨k + 2, by omega, by go_num, rfl, hnx.alloc hsz _⟩
            case measure => simp [intOf]; omega
        · obtain rfl : k = L.length := by omega
          have hjs : (⟨(jl c (M.take L.length)).toArray⟩ : ByteArray) = s := by
            rw [HLn.out, List.take_length, HJ.out]
          rw [hjs]
          have B4 := step_below B3 hnx (Nat.le_refl _)
          clear hjs hjk hnx HCS HGt HJL HJ HLn B3
          go_wp2_with fail
          refine (foldS_any s _ (by omega)).mono ?_
          rintro e w5 ⟨rfl, hb5⟩
          have B5 := step_below B4 hb5 (Nat.le_refl _)
          clear B4 hb5
          have hfl := fold_len s.data.toList
          rw [HL.out] at hfl
          have HFF : Hid (∀ W, Calls Tryd.prog 25 #[.string ⟨(foldL s.data.toList).toArray⟩] W fun e w' => e = .returned (.string ⟨(foldL s.data.toList).toArray⟩) ∧ Below W.heap.size W w') := fun W => by
            have h := foldS_any ⟨(foldL s.data.toList).toArray⟩ W (by show (foldL s.data.toList).length ≤ _; omega)
            have e : (⟨(foldL s.data.toList).toArray⟩ : ByteArray).data.toList = foldL s.data.toList := rfl
            rw [e, fold_idem] at h
            exact h
          clear hfl
          go_wp2_with fail
          refine (HFF.out _).mono ?_
          rintro e w6 ⟨rfl, hb6⟩
          have B6 := step_below B5 hb6 (Nat.le_refl _)
          clear B5 hb6
          go_wp2_with fail
          refine (foldS_any s _ (by omega)).mono ?_
          rintro e w7 ⟨rfl, hb7⟩
          have B7 := step_below B6 hb7 (Nat.le_refl _)
          clear B6 hb7
          go_wp2_with fail
          refine (trim_any s _ (by omega)).mono ?_
          rintro e w8 ⟨rfl, hb8⟩
          have B8 := step_below B7 hb8 (Nat.le_refl _)
          clear B7 hb8
          have htl := trim_len s.data.toList
          rw [HL.out] at htl
          have HTT : Hid (∀ W, Calls Tryd.prog 23 #[.string ⟨(trimL s.data.toList).toArray⟩] W fun e w' => e = .returned (.string ⟨(trimL s.data.toList).toArray⟩) ∧ Below W.heap.size W w') := fun W => by
            have h := trim_any ⟨(trimL s.data.toList).toArray⟩ W (by show (trimL s.data.toList).length ≤ _; omega)
            have e : (⟨(trimL s.data.toList).toArray⟩ : ByteArray).data.toList = trimL s.data.toList := rfl
            rw [e, trimL_idem] at h
            exact h
          clear htl
          go_wp2_with fail
          refine (HTT.out _).mono ?_
          rintro e w9 ⟨rfl, hb9⟩
          have B9 := step_below B8 hb9 (Nat.le_refl _)
          clear B8 hb9
          go_wp2_with fail
          refine (trim_any s _ (by omega)).mono ?_
          rintro e w10 ⟨rfl, hb10⟩
          have B10 := step_below B9 hb10 (Nat.le_refl _)
          clear B9 hb10
          go_wp2_with fail
          refine (awake_any _ (hm.below B10 (Nat.le_refl _))).mono ?_
          rintro e w11 ⟨rfl, hb11⟩
          have B11 := step_below B10 hb11 (Nat.le_refl _)
          clear B10 hb11
          go_wp2
          go_ret
          exact ⟨rfl, B11⟩
end Go.Proofs.YtcdlhcgmjgeacaaDoor

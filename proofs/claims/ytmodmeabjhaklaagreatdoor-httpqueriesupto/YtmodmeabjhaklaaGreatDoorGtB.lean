/-
  asksToClose; the parts of the request line: isMethod, isTarget, isVersion.
-/
import Derived.Test.YtmodmeabjhaklaaGreatDoorGtA
namespace Go.Proofs.YtmodmeabjhaklaaGreatDoor
open Go.RowKit

theorem OwnS.strs' {w : World} {base : Nat} {v : Value} {L : List ByteArray} (h : OwnS w base v L) : ∃ a cap, v = .slice a L.length cap ∧ Strs w a L := h.strs
theorem toB_len (L : List (List UInt8)) : (toB L).length = L.length := by simp [toB]
theorem toB_at (L : List (List UInt8)) (k : Nat) (h : k < (toB L).length) : (toB L)[k] = ⟨(L[k]'(by rw [toB_len] at h; exact h)).toArray⟩ := by simp [toB]
theorem splitS_toB (c : UInt8) (l : List UInt8) : splitS c ⟨l.toArray⟩ = toB (splitL c l) := by simp [splitS, toB]
theorem any_take {α : Type} (p : α → Bool) {L : List α} {k : Nat} (hk : k < L.length) : (L.take (k + 1)).any p = ((L.take k).any p || p L[k]) := by
  rw [List.take_succ_eq_append_getElem hk, List.any_append]
  simp
theorem any_at {α : Type} (p : α → Bool) {L : List α} {k : Nat} (hk : k < L.length) (h : p L[k] = true) : L.any p = true := by
  rw [List.any_eq_true]
  exact ⟨L[k], List.getElem_mem hk, h⟩
theorem dw_len (l : List UInt8) : (dw l).length ≤ l.length := (List.dropWhile_sublist _).length_le
theorem trim_len (l : List UInt8) : (trimL l).length ≤ l.length := by
  rw [trimL, rdw, List.length_reverse]
  refine Nat.le_trans (List.dropWhile_sublist _).length_le ?_
  rw [List.length_reverse]
  exact dw_len l
def clsV (v : List UInt8) : Bool := (splitL 44 v).any fun x => decide (lowL (trimL x) = tClose)
theorem close_eq (hs : List Hd) : closeL hs = (allL hs nConn).any clsV := rfl
/-- All texts of a list of headers are small. -/
def Sm (hs : List Hd) : Prop := ∀ h ∈ hs, h.1.length ≤ 1000000000 ∧ h.2.length ≤ 1000000000
theorem Sm.all {hs : List Hd} (h : Sm hs) (n : List UInt8) : ∀ v ∈ allL hs n, v.length ≤ 1000000000 := by
  intro v hv
  rw [allL, List.mem_map] at hv
  obtain ⟨x, hx, rfl⟩ := hv
  exact (h x ((List.mem_filter.1 hx).1)).2
theorem Sm.get {hs : List Hd} (h : Sm hs) (n : List UInt8) : ((getL hs n).getD []).length ≤ 1000000000 := by
  rw [getL]
  cases hf : hs.find? fun h => h.1 = n with
  | none => simp
  | some x => exact (h x (List.mem_of_find?_eq_some hf)).2
theorem Mx.below' {w w' : World} (h : Mx w) (hb : Below w.heap.size w w') : Mx w' := h.below hb (Nat.le_refl _)

set_option maxRecDepth 20000 in
set_option maxHeartbeats 2000000 in
theorem closes_any (a : Option Addr) (hs : List Hd) (cap : Nat) (w : World) (hH : Hdrs w a hs) (hl : hs.length ≤ 1000000000) (hS : Sm hs) (hm : Mx w) :
    Calls Tryz.prog 71 #[.slice a hs.length cap] w fun e w' => e = .returned (.bool (closeL hs)) ∧ Below w.heap.size w w' := by
  have HA := (show Hid _ from all_any a hs cap nConn w hH hl)
  have HM : Hid (Mx w) := hm
  have HSm : Hid (∀ v ∈ allL hs nConn, v.length ≤ 1000000000) := hS.all nConn
  have hal := all_len hs nConn
  have HC : Hid (closeL hs = (allL hs nConn).any clsV) := close_eq hs
  clear hH hm hS
  go_enter Tryz.func71, Tryz.ntmps71
  go_wp2_with fail
  refine Calls.mono HA.out ?_
  rintro e w1 ⟨v1, rfl, ho1, hb1⟩
  obtain ⟨a1, cap1, rfl, hs1⟩ := ho1.strs
  rw [toB_len]
  generalize hAe : allL hs nConn = A at *
  clear hAe
  have HS1 : Hid (Strs w1 a1 (toB A) ∧ Below w.heap.size w w1) := ⟨hs1, hb1⟩
  clear hs1 hb1 ho1 HA
  go_wp2
  go_loopw [10] (fun i wr => ∃ k : Nat, k ≤ A.length ∧ i = .int .i64 k ∧ Hid ((A.take k).any clsV = false) ∧ Below w.heap.size w wr ∧ Below w1.heap.size w1 wr) (fun i _ => A.length - (intOf i).toNat)
  case atStart => exact ⟨0, Nat.zero_le _, rfl, rfl, HS1.out.2, Below.refl _ _⟩
  case round =>
    obtain ⟨k, hk, rfl, hno, hb, hb'⟩ := hrel
    by_cases hlt : k < A.length
    · rcases (HS1.out.1.below hb' (Nat.le_refl _)) with hnil | ⟨b, off, rfl, hbs, hc⟩
      · have := congrArg List.length hnil
        rw [toB_len] at this
        simp at this
        rw [this] at hlt
        simp at hlt
      · have c1 := hc k (by rw [toB_len]; exact hlt)
        rw [toB_at] at c1
        have hks : (A[k]).length ≤ 1000000000 := HSm.out _ (List.getElem_mem hlt)
        have hany := any_take clsV hlt
        have hat := any_at clsV hlt
        obtain ⟨x, hx⟩ : ∃ x, x = A[k] := ⟨_, rfl⟩
        rw [← hx] at c1 hks hany hat
        clear hx hc
        have hki : (k : Int) < (A.length : Int) := by omega
        have hkk : (0 : Int) ≤ (k : Int) := by omega
        have HSp := (show Hid _ from split_any ⟨x.toArray⟩ 44 wr (by simp [ByteArray.size]; omega) (HM.out.below hb (Nat.le_refl _)))
        have HY : Hid ((A.take (k + 1)).any clsV = ((A.take k).any clsV || clsV x) ∧ (clsV x = true → A.any clsV = true)) := ⟨hany, hat⟩
        clear hany hat
        go_wp2_with fail
        refine Calls.mono HSp.out ?_
        rintro e w2 ⟨g, rfl, hs2, hb2⟩
        rw [splitS_toB] at hs2 ⊢
        rw [toB_len]
        have hcls : clsV x = (splitL 44 x).any fun y => decide (lowL (trimL y) = tClose) := rfl
        have hsp : ∀ y ∈ splitL 44 x, y.length ≤ 1000000000 := fun y hy => by have := piece_size hy; omega
        have hSl : (splitL 44 x).length ≤ 1000000001 := by rw [splitL_length]; have := List.count_le_length (a := (44 : UInt8)) (l := x); omega
        generalize hSe : splitL 44 x = S at *
        clear hSe
        have HS2 : Hid (Strs w2 (some ⟨g, 0, none⟩) (toB S) ∧ Below w.heap.size w w2 ∧ Below w1.heap.size w1 w2 ∧ (clsV x = S.any fun y => decide (lowL (trimL y) = tClose)) ∧ ∀ y ∈ S, y.length ≤ 1000000000) := ⟨hs2, hb.trans (hb2.mono hb.size), hb'.trans (hb2.mono hb'.size), hcls, hsp⟩
        clear hs2 hb2 HSp hcls hsp
        go_wp2
        go_loopw [17] (fun i wr => ∃ j : Nat, j ≤ S.length ∧ i = .int .i64 j ∧ Hid (((S.take j).any fun y => decide (lowL (trimL y) = tClose)) = false) ∧ Below w2.heap.size w2 wr) (fun i _ => S.length - (intOf i).toNat)
        case atStart => exact ⟨0, Nat.zero_le _, rfl, rfl, Below.refl _ _⟩
        case round =>
          obtain ⟨j, hj, rfl, hnj, hbj⟩ := hrel
          by_cases hjt : j < S.length
          · rcases (HS2.out.1.below hbj (Nat.le_refl _)) with hnil | ⟨b2, off2, he2, hbs2, hc2⟩
            · have := congrArg List.length hnil
              rw [toB_len] at this
              simp at this
              rw [this] at hjt
              simp at hjt
            · simp only [Option.some.injEq, Addr.mk.injEq, and_true] at he2
              obtain ⟨rfl, rfl⟩ := he2
              have c2 := hc2 j (by rw [toB_len]; exact hjt)
              rw [toB_at, Nat.zero_add] at c2
              have hys : (S[j]).length ≤ 1000000000 := HS2.out.2.2.2.2 _ (List.getElem_mem hjt)
              have hany := any_take (fun y => decide (lowL (trimL y) = tClose)) hjt
              have hat := any_at (fun y => decide (lowL (trimL y) = tClose)) hjt
              obtain ⟨y, hy⟩ : ∃ y, y = S[j] := ⟨_, rfl⟩
              rw [← hy] at c2 hys hany hat
              clear hy hc2
              have hji : (j : Int) < (S.length : Int) := by omega
              have hjk : (0 : Int) ≤ (j : Int) := by omega
              have HT := (show Hid _ from trim_any ⟨y.toArray⟩ wr (by simp [ByteArray.size]; omega))
              have htl : (trimL y).length ≤ 1000000000 := Nat.le_trans (trim_len y) hys
              have HLw := (show Hid _ from fun W => lower_any ⟨(trimL y).toArray⟩ W (by simp [ByteArray.size]; omega))
              have HY2 : Hid (((S.take (j + 1)).any fun y => decide (lowL (trimL y) = tClose)) = (((S.take j).any fun y => decide (lowL (trimL y) = tClose)) || decide (lowL (trimL y) = tClose)) ∧ (decide (lowL (trimL y) = tClose) = true → (S.any fun y => decide (lowL (trimL y) = tClose)) = true)) := ⟨hany, hat⟩
              clear hany hat
              go_wp2_with fail
              refine Calls.mono HT.out ?_
              rintro e w3 ⟨rfl, hb3⟩
              have HB3 : Hid (Below w2.heap.size w2 w3) := hbj.trans (hb3.mono hbj.size)
              clear hb3 HT
              go_wp2_with fail
              refine Calls.mono (HLw.out _) ?_
              rintro e w4 ⟨rfl, hb4⟩
              have HB4 : Hid (Below w2.heap.size w2 w4) := HB3.out.trans (hb4.mono HB3.out.size)
              clear hb4 HLw
              simp only at *
              by_cases hq : lowL (trimL y) = tClose
              · have heq : (lowL (trimL y) == tClose) = true := by rw [hq]; simp
                have HF : Hid (closeL hs = true) := by
                  show _ = _
                  rw [HC.out]
                  apply HY.out.2
                  rw [HS2.out.2.2.2.1]
                  exact HY2.out.2 (decide_eq_true hq)
                unfold tClose at heq
                go_wp2
                go_ret
                rw [HF.out]
                exact ⟨rfl, HS2.out.2.1.trans (HB4.out.mono HS2.out.2.1.size)⟩
              · have heq : (lowL (trimL y) == tClose) = false := by rw [beq_eq_false_iff_ne]; exact hq
                have HF : Hid (((S.take (j + 1)).any fun y => decide (lowL (trimL y) = tClose)) = false) := by
                  show _ = _
                  rw [HY2.out.1, hnj.out, decide_eq_false hq]
                  rfl
                unfold tClose at heq
                go_wp2
                go_roundw
                case rel => exact ⟨j + 1, by omega, by go_num, HF, HB4.out⟩
                case measure => simp [intOf]; omega
          · obtain rfl : j = S.length := by omega
            have HF : Hid ((A.take (k + 1)).any clsV = false) := by
              show _ = _
              have := hnj.out
              rw [List.take_length] at this
              rw [HY.out.1, hno.out, HS2.out.2.2.2.1, this]
              rfl
            go_wp2
            go_roundw
            case rel => exact ⟨k + 1, by omega, by go_num, HF, HS2.out.2.1.trans (hbj.mono HS2.out.2.1.size), HS2.out.2.2.1.trans (hbj.mono HS2.out.2.2.1.size)⟩
            case measure => simp [intOf]; omega
    · obtain rfl : k = A.length := by omega
      have HF : Hid (closeL hs = false) := by
        show _ = _
        have := hno.out
        rw [List.take_length] at this
        rw [HC.out, this]
      go_wp2
      go_ret
      rw [HF.out]
      exact ⟨rfl, hb⟩
end Go.Proofs.YtmodmeabjhaklaaGreatDoor

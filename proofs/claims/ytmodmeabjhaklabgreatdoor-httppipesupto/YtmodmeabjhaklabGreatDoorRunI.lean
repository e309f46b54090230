/-
  What the document tells of what is not whole; a chunk's size.
-/
import Derived.Test.YtmodmeabjhaklabGreatDoorRunH
import Derived.Deep.Cut
import Derived.Test.YtmodmeabjhaklabGreatDoorRunC
import Derived.Test.YtmodmeabjhaklabGreatDoorRunB
import Derived.Lib.ItoaMem
namespace Go.Proofs.YtmodmeabjhaklabGreatDoor
open Go.RowKit

set_option maxRecDepth 20000 in
set_option maxHeartbeats 1000000 in
theorem leftR_any (p : Nat) (l : List UInt8) (x : Int) (w : World) (hd : DF w p l x) :
    Calls Tryz.prog 20 #[.pointer (some ⟨p, 0, none⟩)] w fun e w' => e = .returned (if x = 0 then moreT else badT x).v ∧ Below w.heap.size w w' := by
  obtain ⟨k, h, n, m, hd⟩ := hd
  obtain ⟨N, hN⟩ : ∃ N, N = w.heap.size := ⟨_, rfl⟩
  obtain ⟨WA, hWA⟩ : ∃ WA, WA = w.alloc (.cells #[.int .i64 0, .int .i64 0, .string ⟨#[]⟩, .string ⟨#[]⟩, .slice none 0 0, .slice none 0 0, .int .i64 0, .bool false, .bool false] 34) := ⟨_, rfl⟩
  have hbA : Below w.heap.size w WA := by rw [hWA]; exact (Below.refl _ _).alloc (Nat.le_refl _) _
  have hnA : WA.heap[N]? = some (.cells #[.int .i64 0, .int .i64 0, .string ⟨#[]⟩, .string ⟨#[]⟩, .slice none 0 0, .slice none 0 0, .int .i64 0, .bool false, .bool false] 34 (0, 0)) := by rw [hWA, hN]; exact heap_alloc_new w _
  have c5 := (hd.below hbA).cell 5 rfl
  have c5w := hd.cell 5 rfl
  have d0 := cell_blk hnA 0
  have g0 := frozen_blk hnA 0
  have d1 := cell_blk hnA 1
  have g1 := frozen_blk hnA 1
  have d2 := cell_blk hnA 2
  have g2 := frozen_blk hnA 2
  have d3 := cell_blk hnA 3
  have g3 := frozen_blk hnA 3
  have d4 := cell_blk hnA 4
  have g4 := frozen_blk hnA 4
  have d5 := cell_blk hnA 5
  have g5 := frozen_blk hnA 5
  have d6 := cell_blk hnA 6
  have g6 := frozen_blk hnA 6
  have d7 := cell_blk hnA 7
  have g7 := frozen_blk hnA 7
  have d8 := cell_blk hnA 8
  have g8 := frozen_blk hnA 8
  simp at d0 d1 d2 d3 d4 d5 d6 d7 d8
  have HB : Hid (Below w.heap.size w WA) := hbA
  have HNe : Hid (N = w.heap.size) := hN
  clear hd hbA hnA
  by_cases hx : x = 0
  · rw [if_pos hx]
    subst hx
    go_enter Tryz.func20, Tryz.ntmps20
    go_upto_region 1 with fail
    rw [← hN, ← hWA]
    clear hN hWA c5w
    go_wp2
    refine bodyPost_ret (v := .agg #[.int .i64 1, .int .i64 0, .string ⟨#[]⟩, .string ⟨#[]⟩, .slice none 0 0, .slice none 0 0, .int .i64 0, .bool false, .bool false]) (by simp [results, Tryz.results20, go_sem, d0, d1, d2, d3, d4, d5, d6, d7, d8]) rfl ?_
    refine ⟨rfl, Md.toBelow HB.out (F := (· = N)) (by
      iterate 9 refine Md.setp ?_ _ _
      exact Md.refl _ _) (fun b hb => by have := HNe.out; omega) (Nat.le_refl _)⟩
  · rw [if_neg hx]
    have hxb : (x == 0) = false := by rw [beq_eq_false_iff_ne]; exact hx
    go_enter Tryz.func20, Tryz.ntmps20
    go_upto_region 1 with fail
    rw [← hN, ← hWA]
    clear hN hWA c5w
    go_wp2
    refine bodyPost_ret (v := .agg #[.int .i64 3, .int .i64 0, .string ⟨#[]⟩, .string ⟨#[]⟩, .slice none 0 0, .slice none 0 0, .int .i64 x, .bool true, .bool false]) (by simp [results, Tryz.results20, go_sem, d0, d1, d2, d3, d4, d5, d6, d7, d8]) rfl ?_
    refine ⟨rfl, Md.toBelow HB.out (F := (· = N)) (by
      iterate 9 refine Md.setp ?_ _ _
      exact Md.refl _ _) (fun b hb => by have := HNe.out; omega) (Nat.le_refl _)⟩
def chkI (s : List UInt8) : Int := match chkL s with | some n => (n : Int) | none => -1
theorem dgN_t : ∀ n : Nat, n < 256 → dgN (n : Int) = if dv n.toUInt8 < 16 then (dv n.toUInt8 : Int) else -1 := by decide +kernel
theorem dgN_of (c : UInt8) : dgN (c.toNat : Int) = if dv c < 16 then (dv c : Int) else -1 := by
  have h := dgN_t c.toNat c.toNat_lt
  rw [show c.toNat.toUInt8 = c by simp] at h
  exact h
theorem pow16 {k : Nat} (h : k ≤ 7) : 16 ^ k ≤ 268435456 := by
  have := Nat.pow_le_pow_right (show 0 < 16 by omega) h
  simpa using this
theorem digs_step {a : List UInt8} {k n : Nat} (hk : k < a.length) : digs 16 n (a.drop k) = if dv a[k] < 16 then digs 16 (16 * n + dv a[k]) (a.drop (k + 1)) else none := by
  rw [List.drop_eq_getElem_cons hk, digs]
set_option maxRecDepth 20000 in
set_option maxHeartbeats 2000000 in
theorem sizeR_any (s : List UInt8) (w : World) (hl : s.length ≤ 1000000000) :
    Calls Tryz.prog 49 #[.string ⟨s.toArray⟩] w fun e w' => e = .returned (.int .i64 (chkI s)) ∧ Below w.heap.size w w' := by
  have HC := (show Hid _ from refCut_any s 59 w hl)
  have hcl := cut_len s [59]
  obtain ⟨R, hR⟩ : ∃ R, R = chkI s := ⟨_, rfl⟩
  rw [← hR]
  have hR2 : R = match (if 1 ≤ (Lib.cut s [59]).1.length ∧ (Lib.cut s [59]).1.length ≤ 8 ∧ allB valB (Lib.cut s [59]).2.1 = true then digs 16 0 (Lib.cut s [59]).1 else none) with | some n => (n : Int) | none => -1 := hR
  clear hR
  generalize (Lib.cut s [59]).2.2 = fd at *
  generalize (Lib.cut s [59]).2.1 = b at *
  generalize (Lib.cut s [59]).1 = a at *
  have HR := (show Hid _ from hR2)
  have HVl := (show Hid (∀ W, Calls Tryz.prog 70 #[.string ⟨b.toArray⟩] W fun e w' => e = .returned (.bool (allB valB b)) ∧ W = w') from fun W => refValue_any ⟨b.toArray⟩ W (by rw [mk_size]; unfold maxLen; omega))
  generalize allB valB b = vb at *
  have ha9 : a.length ≤ 1000000000 := by omega
  clear hR2 hcl
  go_enter Tryz.func49, Tryz.ntmps49
  go_wp2_with fail
  refine Calls.mono HC.out ?_
  rintro e w1 ⟨rfl, hb1⟩
  have HB1 : Hid (Below w.heap.size w w1) := hb1
  clear hb1 HC
  by_cases h1 : a.length < 1
  · have HQ : Hid (R = -1) := by show R = _; rw [HR.out, if_neg (by omega)]
    go_wp2
    go_ret
    rw [HQ.out]
    exact ⟨rfl, HB1.out⟩
  · by_cases h8 : 8 < a.length
    · have HQ : Hid (R = -1) := by show R = _; rw [HR.out, if_neg (by omega)]
      go_wp2
      go_ret
      rw [HQ.out]
      exact ⟨rfl, HB1.out⟩
    · cases vb with
      | false =>
        have HQ : Hid (R = -1) := by show R = _; rw [HR.out, if_neg (by simp)]
        go_wp2_with (go_at_call 70; refine Calls.mono (HVl.out _) ?_; rintro e w' ⟨rfl, rfl⟩)
        go_ret
        rw [HQ.out]
        exact ⟨rfl, HB1.out⟩
      | true =>
        have HR2 : Hid (R = match digs 16 0 a with | some n => (n : Int) | none => -1) := by show R = _; rw [HR.out, if_pos ⟨by omega, by omega, rfl⟩]
        obtain ⟨S, hS⟩ : ∃ S : ByteArray, S = ⟨a.toArray⟩ := ⟨_, rfl⟩
        have hsz : S.size = a.length := by rw [hS, mk_size]
        have hget : ∀ k (h : k < S.size), S[k] = a[k]'(by omega) := by subst hS; intro k h; rfl
        have HSe : Hid (S = ⟨a.toArray⟩) := hS
        rw [← hS]
        clear hS
        go_wp2_with (go_at_call 70; refine Calls.mono (HVl.out _) ?_; rintro e w' ⟨rfl, rfl⟩)
        go_loop [6, 7] (fun v i => ∃ k n : Nat, k ≤ a.length ∧ i = .int .i64 k ∧ v = .int .i64 n ∧ Hid (digs 16 n (a.drop k) = digs 16 0 a) ∧ Hid (n < 16 ^ k)) (fun _ i => a.length - (intOf i).toNat)
        case atStart => exact ⟨0, 0, Nat.zero_le _, rfl, rfl, rfl, by show 0 < _; simp⟩
        case round =>
          obtain ⟨k, n, hk, rfl, rfl, hd, hn⟩ := hrel
          by_cases hlt : k < a.length
          · have hki : (k : Int) < (S.size : Int) := by omega
            have hk0 : (0 : Int) ≤ (k : Int) := by omega
            have hn9 : n ≤ 268435456 := by have := hn.out; have := pow16 (show k ≤ 7 by omega); omega
            have hg := hget k (by omega)
            have hD : dgN (S[k].toNat : Int) = if dv a[k] < 16 then (dv a[k] : Int) else -1 := by rw [hg]; exact dgN_of _
            have b1 : (S[k].toNat : Int) ≤ 255 := by have := S[k].toNat_lt; omega
            have HDg := (show Hid (∀ W, Calls Tryz.prog 71 #[.int .u8 (S[k].toNat : Int)] W fun e w' => e = .returned (.int .i64 (dgN (S[k].toNat : Int))) ∧ W = w') from fun W => refDigit_any _ W (Int.natCast_nonneg _) b1)
            have hst := digs_step (n := n) hlt
            by_cases hdv : dv a[k] < 16
            · rw [if_pos hdv] at hD hst
              rw [hD] at HDg
              have HN : Hid (digs 16 (16 * n + dv a[k]) (a.drop (k + 1)) = digs 16 0 a) := by show _ = _; rw [← hst]; exact hd.out
              have HN2 : Hid (16 * n + dv a[k] < 16 ^ (k + 1)) := by
                show _ < _
                have := hn.out
                rw [Nat.pow_succ]
                omega
              generalize dv a[k] = d at *
              have hd0 : ¬ (d : Int) < 0 := by omega
              clear hget hg hD hst
              go_wp2_with (go_at_call 71; refine Calls.mono (HDg.out _) ?_; rintro e w' ⟨rfl, rfl⟩)
              go_round
              case rel => exact ⟨k + 1, 16 * n + d, by omega, by go_num, by go_num, HN, HN2⟩
              case measure => simp [intOf]; omega
            · rw [if_neg hdv] at hD hst
              rw [hD] at HDg
              have HQ : Hid (R = -1) := by show R = _; rw [HR2.out, ← hd.out, hst]
              clear hget hg hD hst
              go_wp2_with (go_at_call 71; refine Calls.mono (HDg.out _) ?_; rintro e w' ⟨rfl, rfl⟩)
              go_ret
              rw [HQ.out]
              exact ⟨rfl, HB1.out⟩
          · obtain rfl : k = a.length := by omega
            have HQ : Hid (R = (n : Int)) := by
              show R = _
              rw [HR2.out, ← hd.out, List.drop_length, digs]
            have hki : ¬ ((a.length : Int) < (S.size : Int)) := by omega
            clear hget
            go_wp2
            go_ret
            rw [HQ.out]
            exact ⟨rfl, HB1.out⟩
end Go.Proofs.YtmodmeabjhaklabGreatDoor
/-
  The document's look for 'close'.
-/
namespace Go.Proofs.YtmodmeabjhaklabGreatDoor
open Go.RowKit

set_option maxRecDepth 20000 in
set_option maxHeartbeats 2000000 in
theorem closesR_any (a : Option Addr) (hs : List Hd) (cap : Nat) (w : World) (hH : Hdrs w a hs) (hl : hs.length ≤ 1000000000) (hS : Sm hs) :
    Calls Tryz.prog 25 #[.slice a hs.length cap] w fun e w' => e = .returned (.bool (closeL hs)) ∧ Below w.heap.size w w' := by
  have HA := (show Hid _ from refAll_any a hs cap nConn w hH hl)
  have HSm : Hid (∀ v ∈ allL hs nConn, v.length ≤ 1000000000) := hS.all nConn
  have hal := all_len hs nConn
  have HC : Hid (closeL hs = (allL hs nConn).any clsV) := close_eq hs
  clear hH hS
  go_enter Tryz.func25, Tryz.ntmps25
  go_wp2_with fail
  refine Calls.mono HA.out ?_
  rintro e w1 ⟨v1, rfl, ho1, hb1⟩
  obtain ⟨a1, cap1, rfl, hs1⟩ := ho1.strs
  rw [toB_len]
  generalize hAe : allL hs nConn = A at *
  clear hAe
  have HS1 : Hid (Strs w1 a1 (toB A) ∧ Below w.heap.size w w1) := ⟨hs1, hb1⟩
  clear hs1 hb1 ho1 HA
  go_wp2
  go_loopw [4] (fun i wr => ∃ k : Nat, k ≤ A.length ∧ i = .int .i64 k ∧ Hid ((A.take k).any clsV = false) ∧ Below w.heap.size w wr ∧ Below w1.heap.size w1 wr) (fun i _ => A.length - (intOf i).toNat)
  case atStart => exact ⟨0, Nat.zero_le _, rfl, rfl, HS1.out.2, Below.refl _ _⟩
  case round =>
    obtain ⟨k, hk, rfl, hno, hb, hb'⟩ := hrel
    by_cases hlt : k < A.length
    · rcases (HS1.out.1.below hb' (Nat.le_refl _)) with hnil | ⟨b, off, rfl, hbs, hc⟩
      · have := congrArg List.length hnil
        rw [toB_len] at this
        simp at this
        rw [this] at hlt
        simp at hlt
      · have c1 := hc k (by rw [toB_len]; exact hlt)
        rw [toB_at] at c1
        have hks : (A[k]).length ≤ 1000000000 := HSm.out _ (List.getElem_mem hlt)
        have hany := any_take clsV hlt
        have hat := any_at clsV hlt
        obtain ⟨x, hx⟩ : ∃ x, x = A[k] := ⟨_, rfl⟩
        rw [← hx] at c1 hks hany hat
        clear hx hc
        have hki : (k : Int) < (A.length : Int) := by omega
        have hkk : (0 : Int) ≤ (k : Int) := by omega
        have HSp := (show Hid _ from refSplit_any ⟨x.toArray⟩ 44 wr (by simp [ByteArray.size]; omega))
        have HY : Hid ((A.take (k + 1)).any clsV = ((A.take k).any clsV || clsV x) ∧ (clsV x = true → A.any clsV = true)) := ⟨hany, hat⟩
        clear hany hat
        go_wp2_with fail
        refine Calls.mono HSp.out ?_
        rintro e w2 ⟨v2, rfl, ho2, hb2⟩
        rw [splitS_toB] at ho2
        obtain ⟨g, cS, rfl, hs2⟩ := ho2.strs
        rw [toB_len]
        have hcls : clsV x = (splitL 44 x).any fun y => decide (lowL (trimL y) = tClose) := rfl
        have hsp : ∀ y ∈ splitL 44 x, y.length ≤ 1000000000 := fun y hy => by have := piece_size hy; omega
        have hSl : (splitL 44 x).length ≤ 1000000001 := by rw [splitL_length]; have := List.count_le_length (a := (44 : UInt8)) (l := x); omega
        generalize hSe : splitL 44 x = S at *
        clear hSe
        have HS2 : Hid (Strs w2 g (toB S) ∧ Below w.heap.size w w2 ∧ Below w1.heap.size w1 w2 ∧ (clsV x = S.any fun y => decide (lowL (trimL y) = tClose)) ∧ ∀ y ∈ S, y.length ≤ 1000000000) := ⟨hs2, hb.trans (hb2.mono hb.size), hb'.trans (hb2.mono hb'.size), hcls, hsp⟩
        clear hs2 hb2 HSp hcls hsp ho2
        go_wp2
        go_loopw [6] (fun i wr => ∃ j : Nat, j ≤ S.length ∧ i = .int .i64 j ∧ Hid (((S.take j).any fun y => decide (lowL (trimL y) = tClose)) = false) ∧ Below w2.heap.size w2 wr) (fun i _ => S.length - (intOf i).toNat)
        case atStart => exact ⟨0, Nat.zero_le _, rfl, rfl, Below.refl _ _⟩
        case round =>
          obtain ⟨j, hj, rfl, hnj, hbj⟩ := hrel
          by_cases hjt : j < S.length
          · rcases (HS2.out.1.below hbj (Nat.le_refl _)) with hnil | ⟨b2, off2, he2, hbs2, hc2⟩
            · have := congrArg List.length hnil
              rw [toB_len] at this
              simp at this
              rw [this] at hjt
              simp at hjt
            · subst he2
              have c2 := hc2 j (by rw [toB_len]; exact hjt)
              rw [toB_at] at c2
              have hys : (S[j]).length ≤ 1000000000 := HS2.out.2.2.2.2 _ (List.getElem_mem hjt)
              have hany := any_take (fun y => decide (lowL (trimL y) = tClose)) hjt
              have hat := any_at (fun y => decide (lowL (trimL y) = tClose)) hjt
              obtain ⟨y, hy⟩ : ∃ y, y = S[j] := ⟨_, rfl⟩
              rw [← hy] at c2 hys hany hat
              clear hy hc2
              have hji : (j : Int) < (S.length : Int) := by omega
              have hjk : (0 : Int) ≤ (j : Int) := by omega
              have HT := (show Hid _ from refTrim_any ⟨y.toArray⟩ wr (by simp [ByteArray.size]; unfold maxLen; omega))
              have htl : (trimL y).length ≤ 1000000000 := Nat.le_trans (trim_len y) hys
              have HLw := (show Hid _ from fun W => refLower_any ⟨(trimL y).toArray⟩ W (by simp [ByteArray.size]; omega))
              have HY2 : Hid (((S.take (j + 1)).any fun y => decide (lowL (trimL y) = tClose)) = (((S.take j).any fun y => decide (lowL (trimL y) = tClose)) || decide (lowL (trimL y) = tClose)) ∧ (decide (lowL (trimL y) = tClose) = true → (S.any fun y => decide (lowL (trimL y) = tClose)) = true)) := ⟨hany, hat⟩
              clear hany hat
              go_wp2_with fail
              refine Calls.mono HT.out ?_
              rintro e w3 ⟨rfl, rfl⟩
              have HB3 := (show Hid _ from hbj)
              clear HT
              go_wp2_with fail
              refine Calls.mono (HLw.out _) ?_
              rintro e w4 ⟨rfl, hb4⟩
              have HB4 : Hid (Below w2.heap.size w2 w4) := HB3.out.trans (hb4.mono HB3.out.size)
              clear hb4 HLw
              simp only at *
              by_cases hq : lowL (trimL y) = tClose
              · have heq : (lowL (trimL y) == tClose) = true := by rw [hq]; simp
                have HF : Hid (closeL hs = true) := by
                  show _ = _
                  rw [HC.out]
                  apply HY.out.2
                  rw [HS2.out.2.2.2.1]
                  exact HY2.out.2 (decide_eq_true hq)
                unfold tClose at heq
                go_wp2
                go_ret
                rw [HF.out]
                exact ⟨rfl, HS2.out.2.1.trans (HB4.out.mono HS2.out.2.1.size)⟩
              · have heq : (lowL (trimL y) == tClose) = false := by rw [beq_eq_false_iff_ne]; exact hq
                have HF : Hid (((S.take (j + 1)).any fun y => decide (lowL (trimL y) = tClose)) = false) := by
                  show _ = _
                  rw [HY2.out.1, hnj.out, decide_eq_false hq]
                  rfl
                unfold tClose at heq
                go_wp2
                go_roundw
                case rel => exact ⟨j + 1, by omega, by go_num, HF, HB4.out⟩
                case measure => simp [intOf]; omega
          · obtain rfl : j = S.length := by omega
            have HF : Hid ((A.take (k + 1)).any clsV = false) := by
              show _ = _
              have := hnj.out
              rw [List.take_length] at this
              rw [HY.out.1, hno.out, HS2.out.2.2.2.1, this]
              rfl
            go_wp2
            go_roundw
            case rel => exact ⟨k + 1, by omega, by go_num, HF, HS2.out.2.1.trans (hbj.mono HS2.out.2.1.size), HS2.out.2.2.1.trans (hbj.mono HS2.out.2.2.1.size)⟩
            case measure => simp [intOf]; omega
    · obtain rfl : k = A.length := by omega
      have HF : Hid (closeL hs = false) := by
        show _ = _
        have := hno.out
        rw [List.take_length] at this
        rw [HC.out, this]
      go_wp2
      go_ret
      rw [HF.out]
      exact ⟨rfl, hb⟩
end Go.Proofs.YtmodmeabjhaklabGreatDoor
/-
  The document's Int and Text by their contracts.
-/
namespace Go.Proofs.YtmodmeabjhaklabGreatDoor.En
open Go.RowKit

set_option maxHeartbeats 800000 in
theorem refInt_core (s : ByteArray) (w : World) (h1 : 0 < s.size) (h18 : s.size ≤ 18) (hl : 1 < s.size → ((s[0]'h1).toNat : Int) ≠ 48) :
    Calls Tryz.prog 48 #[.string s] w fun e w' => e = .returned (.tuple #[.int .i64 (intV s.data.toList), .bool (intOk s.data.toList)]) ∧ w = w' := by
  have hL : Hid (s.data.toList.length = s.size) := by show _ = _; simp
  have hz : ((s.size : Int) == 0) = false := by rw [beq_eq_false_iff_ne]; omega
  have hfirst : Hid (1 < s.data.toList.length → nth s.data.toList 0 ≠ 48) := by
    show 1 < s.data.toList.length → nth s.data.toList 0 ≠ 48
    intro h
    rw [nth_eq (i := 0) (l := s.data.toList) (by omega)]
    exact hl (by simpa using h)
  have hg : ((((s[0]'h1).toNat : Int) == 48) = false ∨ ((((s[0]'h1).toNat : Int) == 48) = true ∧ (s.size : Int) ≤ 1)) := by
    by_cases h0 : ((s[0]'h1).toNat : Int) = 48
    · right
      refine ⟨by simp [h0], ?_⟩
      by_cases hh : 1 < s.size
      · exact absurd h0 (hl hh)
      · omega
    · exact .inl (by simp [h0])
  clear hl
  rcases hg with hg | ⟨hg, hg0⟩
  all_goals
    go_enter Tryz.func48, Tryz.ntmps48
    go_wp2
    go_loop [4, 5] (fun n i => ∃ k : Nat, k ≤ s.size ∧ i = .int .i64 k ∧ n = .int .i64 (ival s.data.toList k) ∧ ∀ j, j < k → dvOk (nth s.data.toList j) = true) (fun _ i => s.size - (intOf i).toNat)
    case atStart => exact ⟨0, Nat.zero_le _, rfl, rfl, fun j hj => by omega⟩
    case round =>
      obtain ⟨k, hk, rfl, rfl, hall⟩ := hrel
      by_cases hlt : k < s.size
      · have b1 : (s[k].toNat : Int) ≤ 255 := by have := s[k].toNat_lt; omega
        have iv0 := (ival_bd s.data.toList k).1
        have iv1 := ival_17 s.data.toList (k := k) (by omega)
        have HN : Hid (nth s.data.toList k = (s[k].toNat : Int)) := nth_eq (by simpa using hlt)
        by_cases a : 48 ≤ (s[k].toNat : Int)
        · by_cases b : (s[k].toNat : Int) ≤ 57
          · have HV := dv1 a b
            have HD : Hid (dvN (s[k].toNat : Int) = (s[k].toNat : Int) - 48 ∧ dvOk (s[k].toNat : Int) = true) := HV
            clear HV
            go_wp2
            go_round
            case rel =>
              refine ⟨k + 1, by omega, by go_num, ?_, ?_⟩
              · rw [ival, HN.out, HD.out.1]
                go_num
              · intro j hj
                by_cases hjk : j = k
                · rw [hjk, HN.out]; exact HD.out.2
                · exact hall j (by omega)
            case measure => simp [intOf]; omega
          · have HD : Hid (dvOk (s[k].toNat : Int) = false) := (dv3 (by omega)).2
            go_wp2
            go_ret2
            have hno : intOk s.data.toList = false := intOk_at (k := k) (by rw [hL.out]; exact hlt) (by rw [HN.out]; exact HD.out)
            exact ⟨ret_ib (intV_no hno).symm hno.symm, rfl⟩
        · have HD : Hid (dvOk (s[k].toNat : Int) = false) := (dv3 (by omega)).2
          go_wp2
          go_ret2
          have hno : intOk s.data.toList = false := intOk_at (k := k) (by rw [hL.out]; exact hlt) (by rw [HN.out]; exact HD.out)
          exact ⟨ret_ib (intV_no hno).symm hno.symm, rfl⟩
      · have hkl : k = s.size := by omega
        subst hkl
        have hyes : Hid (intOk s.data.toList = true) := intOk_all (by rw [hL.out]; exact h1) (by rw [hL.out]; exact h18) hfirst.out (by rw [hL.out]; exact hall)
        clear hall
        go_wp2
        go_ret2
        exact ⟨ret_ib (by rw [intV_yes hyes.out, hL.out]) hyes.out.symm, rfl⟩

theorem refInt_any (s : ByteArray) (w : World) (hs : s.size ≤ 140737488351232) :
    Calls Tryz.prog 48 #[.string s] w fun e w' => e = .returned (.tuple #[.int .i64 (intV s.data.toList), .bool (intOk s.data.toList)]) ∧ w = w' := by
  have hL : s.data.toList.length = s.size := by simp
  by_cases a : s.size = 0
  · have hno : Hid (intOk s.data.toList = false) := intOk_0 (by rw [hL]; exact a)
    have hz : ((s.size : Int) == 0) = true := by simp [a]
    clear a hL
    go_enter Tryz.func48, Tryz.ntmps48
    go_wp2
    go_ret2
    exact ⟨ret_ib (intV_no hno.out).symm hno.out.symm, rfl⟩
  · have hp : 0 < s.size := by omega
    by_cases b : s.size ≤ 18
    · by_cases c : 1 < s.size ∧ ((s[0]'hp).toNat : Int) = 48
      · have hno : Hid (intOk s.data.toList = false) := intOk_lead (by rw [hL]; exact c.1) (by rw [nth_eq (i := 0) (l := s.data.toList) (by rw [hL]; omega)]; exact c.2)
        have hz : ((s.size : Int) == 0) = false := by rw [beq_eq_false_iff_ne]; omega
        have hg : (1 : Int) < (s.size : Int) := by have := c.1; omega
        have h48 : (((s[0]'hp).toNat : Int) == 48) = true := by simp [c.2]
        clear a hL c
        go_enter Tryz.func48, Tryz.ntmps48
        go_wp2
        go_ret2
        exact ⟨ret_ib (intV_no hno.out).symm hno.out.symm, rfl⟩
      · exact refInt_core s w hp b (fun h1 h2 => c ⟨h1, h2⟩)
    · have hno : Hid (intOk s.data.toList = false) := intOk_18 (by rw [hL]; omega)
      have hz : ((s.size : Int) == 0) = false := by rw [beq_eq_false_iff_ne]; omega
      have hg : (18 : Int) < (s.size : Int) := by omega
      clear a hL b
      go_enter Tryz.func48, Tryz.ntmps48
      go_wp2
      go_ret2
      exact ⟨ret_ib (intV_no hno.out).symm hno.out.symm, rfl⟩

theorem hd_dec {v : Nat} (h : v < 10) : UInt8.ofNat (hd (v : Int)).toNat = UInt8.ofNat (48 + v) := by
  have e : (hd (v : Int)).toNat = 48 + v := by unfold hd; rw [if_pos (by omega)]; omega
  rw [e]

theorem dec_len (m : Nat) : (Lib.decDigits m).length ≤ m / 9 + 1 := by
  induction m using Nat.strongRecOn with
  | _ m ih =>
    rw [Lib.decDigits]
    split
    · simp
    · have := ih (m / 10) (by omega)
      simp only [List.length_append, List.length_cons, List.length_nil]
      omega
theorem min_digits : Lib.itoa (-9223372036854775808) = [45, 57, 50, 50, 51, 51, 55, 50, 48, 51, 54, 56, 53, 52, 55, 55, 53, 56, 48, 56] := by
  have e : Lib.itoa (-((9223372036854775808 : Nat) : Int)) = 45 :: Lib.decDigits 9223372036854775808 := Lib.itoa_neg _ (by decide)
  have e2 : Lib.decDigits 9223372036854775808 = [57, 50, 50, 51, 51, 55, 50, 48, 51, 54, 56, 53, 52, 55, 55, 53, 56, 48, 56] := by simp [Lib.decDigits]
  rw [e2] at e
  exact e

end Go.Proofs.YtmodmeabjhaklabGreatDoor.En
/-
  The document's look at a head as a whole.
-/
namespace Go.Proofs.YtmodmeabjhaklabGreatDoor
open Go.RowKit

/-- What is wrong about a head, by its lists. -/
def fltT (nh : Nat) (T C : List (List UInt8)) (xb : Bool) (xv : List UInt8) : Int :=
  if nh ≠ 1 ∨ (T.head?.isSome ∧ C.head?.isSome) ∨ 1 < T.length then 308
  else if T.head?.isSome ∧ lowL (T.head?.getD []) ≠ tChunked then 335
  else if 1 < C.length ∨ (C.head?.isSome ∧ En.intOk (C.head?.getD []) = false) then 308
  else if 1048576 < En.intV (C.head?.getD []) then 324
  else if xb ∧ lowL xv ≠ tCont then 337
  else 0
theorem flt_T (hs : List Hd) : fltL hs = fltT (allL hs nHost).length (allL hs nTe) (allL hs nCl) (getL hs nEx).isSome ((getL hs nEx).getD []) := by
  unfold fltL fltT
  rw [get_all hs nTe, get_all hs nCl]
/-- The body's length; -1: chunked. -/
def fitL (hs : List Hd) : Int := if fltL hs ≠ 0 then 0 else if (getL hs nTe).isSome then -1 else En.intV ((getL hs nCl).getD [])
def fitT (z : Int) (T C : List (List UInt8)) : Int := if z ≠ 0 then 0 else if T.head?.isSome then -1 else En.intV (C.head?.getD [])
theorem fit_T (hs : List Hd) : fitL hs = fitT (fltL hs) (allL hs nTe) (allL hs nCl) := by
  unfold fitL fitT
  rw [get_all hs nTe, get_all hs nCl]
def fitE (a b : Int) : Ending := .returned (.tuple #[.int .i64 a, .int .i64 b])
set_option maxRecDepth 20000 in
set_option maxHeartbeats 4000000 in
theorem fitR_any (a : Option Addr) (hs : List Hd) (cap : Nat) (w : World) (hH : Hdrs w a hs) (hl : hs.length ≤ 1000000000) (hS : Sm hs) :
    Calls Tryz.prog 22 #[.slice a hs.length cap] w fun e w' => e = fitE (fitL hs) (fltL hs) ∧ Below w.heap.size w w' := by
  have HA : Hid (∀ n W, Below w.heap.size w W → Calls Tryz.prog 46 #[.slice a hs.length cap, .string ⟨n.toArray⟩] W fun e w' => ∃ a' c', e = .returned (.slice a' (allL hs n).length c') ∧ Strs w' a' (toB (allL hs n)) ∧ Below w.heap.size w w' ∧ Below W.heap.size W w') := fun n W hW =>
    (refAll_any a hs cap n W (hH.below hW (Nat.le_refl _)) hl).mono fun e w' ⟨v, h1, h2, h3⟩ => by
      obtain ⟨a', c', h4, h5⟩ := h2.strs
      rw [toB_len] at h4
      exact ⟨a', c', by rw [h1, h4], h5, hW.trans (h3.mono hW.size), h3⟩
  have HG : Hid (∀ W, Below w.heap.size w W → Calls Tryz.prog 24 #[.slice a hs.length cap, .string ⟨nEx.toArray⟩] W fun e w' => e = .returned (.tuple #[.string ⟨((getL hs nEx).getD []).toArray⟩, .bool (getL hs nEx).isSome]) ∧ Below w.heap.size w w') := fun W hW =>
    (refGet_any a hs cap nEx W (hH.below hW (Nat.le_refl _)) hl).mono fun e w' ⟨h1, h2⟩ => ⟨h1, hW.trans (h2.mono hW.size)⟩
  have hlx : ((getL hs nEx).getD []).length ≤ 1000000000 := by
    cases h : getL hs nEx with
    | none => simp
    | some v =>
      rw [get_all] at h
      exact hS.all nEx v (List.mem_of_mem_head? h)
  have hlt : ∀ v ∈ allL hs nTe, v.length ≤ 1000000000 := hS.all nTe
  have hlc : ∀ v ∈ allL hs nCl, v.length ≤ 1000000000 := hS.all nCl
  have HLo : Hid (∀ x : List UInt8, x.length ≤ 1000000000 → ∀ W, Below w.heap.size w W → Calls Tryz.prog 47 #[.string ⟨x.toArray⟩] W fun e w' => e = .returned (.string ⟨(lowL x).toArray⟩) ∧ Below w.heap.size w w') := fun x hx W hW =>
    (refLower_any ⟨x.toArray⟩ W (by rw [mk_size]; omega)).mono fun e w' ⟨h1, h2⟩ => ⟨h1, hW.trans (h2.mono hW.size)⟩
  have hfl := flt_T hs
  have hft := fit_T hs
  obtain ⟨R, hR⟩ : ∃ R, R = fltL hs := ⟨_, rfl⟩
  obtain ⟨Z, hZ⟩ : ∃ Z, Z = fitL hs := ⟨_, rfl⟩
  rw [← hR, ← hZ]
  rw [← hR] at hfl hft
  rw [← hZ] at hft
  have A1 := (show Hid _ from HA.out nTe)
  have A2 := (show Hid _ from HA.out nCl)
  have A3 := (show Hid _ from HA.out nHost)
  have hnh : (allL hs nHost).length ≤ 1000000000 := Nat.le_trans (all_len _ _) hl
  have hnt : (allL hs nTe).length ≤ 1000000000 := Nat.le_trans (all_len _ _) hl
  have hnc : (allL hs nCl).length ≤ 1000000000 := Nat.le_trans (all_len _ _) hl
  generalize (allL hs nHost).length = nh at *
  generalize (getL hs nEx).isSome = xb at *
  generalize (getL hs nEx).getD [] = xv at *
  have L2 := (show Hid _ from HLo.out xv hlx)
  generalize hT : allL hs nTe = T at *
  generalize hC : allL hs nCl = C at *
  have HR := (show Hid _ from hfl)
  have HZ := (show Hid _ from hft)
  have HH : Hid (T = T ∧ C = C) := ⟨rfl, rfl⟩
  clear hR hZ hH hS HA hlx hfl hft hT hC HH
  unfold nTe at A1
  unfold nCl at A2
  unfold nEx at HG
  unfold nHost at A3
  go_enter Tryz.func22, Tryz.ntmps22
  go_wp2_with fail
  refine Calls.mono (A1.out w (Below.refl _ _)) ?_
  rintro e w1 ⟨at_, ct, rfl, hst, hb1, -⟩
  go_wp2_with fail
  refine Calls.mono (A2.out w1 hb1) ?_
  rintro e w2 ⟨ac, cc, rfl, hsc, hb2, hb12⟩
  go_wp2_with fail
  refine Calls.mono (A3.out w2 hb2) ?_
  rintro e w3 ⟨ah, ch, rfl, -, hb3, hb23⟩
  have HST := (show Hid (Strs w3 at_ (toB T)) from hst.below (hb12.trans (hb23.mono hb12.size)) (Nat.le_refl _))
  have HSC := (show Hid (Strs w3 ac (toB C)) from hsc.below hb23 (Nat.le_refl _))
  have HB3 := (show Hid _ from hb3)
  clear hst hsc hb1 hb2 hb12 hb23 hb3 A1 A2 A3
  by_cases h1 : nh = 1
  · have h1i : ((nh : Int) != 1) = false := by rw [h1]; rfl
    match T, C, HR, HZ, HST, HSC, hlt, hlc, hnt, hnc with
    | [], [], HR, HZ, HST, HSC, hlt, hlc, hnt, hnc =>
      have HR2 : Hid (R = if xb ∧ lowL xv ≠ tCont then 337 else 0) := by
        show R = _
        rw [HR.out]
        simp [fltT, h1, show En.intV [] = 0 by rfl]
      have HZ2 : Hid (R = 0 → Z = 0) := fun h => by rw [HZ.out, fitT, h]; simp [show En.intV [] = 0 by rfl]
      have HZ3 : Hid (R ≠ 0 → Z = 0) := fun h => by rw [HZ.out, fitT, if_pos h]
      clear HR HZ h1
      go_wp2_with fail
      refine Calls.mono (HG.out w3 HB3.out) ?_
      rintro e w9 ⟨rfl, hb9⟩
      cases xb with
      | false =>
        have HQ : Hid (R = 0 ∧ Z = 0) := by
          have : R = 0 := by rw [HR2.out]; simp
          exact ⟨this, HZ2.out this⟩
        clear HR2 HZ2 HZ3
        go_wp2
        go_ret2
        rw [HQ.out.1, HQ.out.2]
        exact ⟨rfl, hb9⟩
      | true =>
        by_cases hq : lowL xv = tCont
        · have HQ : Hid (R = 0 ∧ Z = 0) := by
            have : R = 0 := by rw [HR2.out]; simp [hq]
            exact ⟨this, HZ2.out this⟩
          have heq : (lowL xv == tCont) = true := by rw [hq]; rfl
          unfold tCont at heq
          clear HR2 HZ2 HZ3 hq
          go_wp2_with (go_at_call 47; refine Calls.mono (L2.out _ hb9) ?_; rintro e w10 ⟨rfl, hb10⟩)
          go_ret2
          rw [HQ.out.1, HQ.out.2]
          exact ⟨rfl, hb10⟩
        · have HQ : Hid (R = 337 ∧ Z = 0) := by
            have : R = 337 := by rw [HR2.out]; simp [hq]
            exact ⟨this, HZ3.out (by rw [this]; decide)⟩
          have heq : (lowL xv == tCont) = false := by rw [beq_eq_false_iff_ne]; exact hq
          unfold tCont at heq
          clear HR2 HZ2 HZ3 hq
          go_wp2_with (go_at_call 47; refine Calls.mono (L2.out _ hb9) ?_; rintro e w10 ⟨rfl, hb10⟩)
          go_ret2
          rw [HQ.out.1, HQ.out.2]
          exact ⟨rfl, hb10⟩
    | [], [cv], HR, HZ, HST, HSC, hlt, hlc, hnt, hnc =>
      have hcv : cv.length ≤ 1000000000 := hlc cv (by simp)
      have hcell : ∃ b off, ac = some ⟨b, off, none⟩ ∧ w3.cell? ⟨b, off, none⟩ = some (.string ⟨cv.toArray⟩) := by
        rcases HSC.out with hnil | ⟨b, off, h1, h2, h3⟩
        · cases hnil
        · exact ⟨b, off, h1, h3 0 (by simp [toB])⟩
      obtain ⟨b, off, rfl, hcell⟩ := hcell
      have HI := (show Hid (∀ W, Calls Tryz.prog 48 #[.string ⟨cv.toArray⟩] W fun e w' => e = .returned (.tuple #[.int .i64 (En.intV cv), .bool (En.intOk cv)]) ∧ W = w') from fun W => En.refInt_any ⟨cv.toArray⟩ W (by rw [mk_size]; omega))
      have hib := int_bd cv
      have hR : R = if En.intOk cv = false then 308 else if 1048576 < En.intV cv then 324 else if xb ∧ lowL xv ≠ tCont then 337 else 0 := by
        rw [HR.out]
        simp [fltT, h1]
        rfl
      have HZ2' : Hid (R = 0 → Z = En.intV cv) := fun h => by rw [HZ.out, fitT, h]; simp
      have HZ3 : Hid (R ≠ 0 → Z = 0) := fun h => by rw [HZ.out, fitT, if_pos h]
      have HR1 := (show Hid _ from hR)
      clear HR HZ h1 hR
      go_wp2_with fail
      refine Calls.mono (HI.out _) ?_
      rintro e w' ⟨rfl, rfl⟩
      cases hio : En.intOk cv with
      | false =>
        have HQ : Hid (R = 308 ∧ Z = 0) := by
          have : R = 308 := by rw [HR1.out, hio]; rfl
          exact ⟨this, HZ3.out (by rw [this]; decide)⟩
        go_wp2
        go_ret2
        rw [HQ.out.1, HQ.out.2]
        exact ⟨rfl, HB3.out⟩
      | true =>
        rw [hio] at HR1
        generalize En.intV cv = iv at *
        by_cases hbig : 1048576 < iv
        · have HQ : Hid (R = 324 ∧ Z = 0) := by
            have : R = 324 := by rw [HR1.out, if_pos hbig]; rfl
            exact ⟨this, HZ3.out (by rw [this]; decide)⟩
          clear HR1
          go_wp2
          go_ret2
          rw [HQ.out.1, HQ.out.2]
          exact ⟨rfl, HB3.out⟩
        · have HR2 : Hid (R = if xb ∧ lowL xv ≠ tCont then 337 else 0) := by show R = _; rw [HR1.out, if_neg hbig]; rfl
          have HZ2 : Hid (R = 0 → Z = iv) := HZ2'.out
          clear HR1 HZ2'
          go_wp2_with fail
          refine Calls.mono (HG.out w3 HB3.out) ?_
          rintro e w9 ⟨rfl, hb9⟩
          cases xb with
          | false =>
            have HQ : Hid (R = 0 ∧ Z = iv) := by
              have : R = 0 := by rw [HR2.out]; simp
              exact ⟨this, HZ2.out this⟩
            clear HR2 HZ2 HZ3
            go_wp2
            go_ret2
            rw [HQ.out.1, HQ.out.2]
            exact ⟨rfl, hb9⟩
          | true =>
            by_cases hq : lowL xv = tCont
            · have HQ : Hid (R = 0 ∧ Z = iv) := by
                have : R = 0 := by rw [HR2.out]; simp [hq]
                exact ⟨this, HZ2.out this⟩
              have heq : (lowL xv == tCont) = true := by rw [hq]; rfl
              unfold tCont at heq
              clear HR2 HZ2 HZ3 hq
              go_wp2_with (go_at_call 47; refine Calls.mono (L2.out _ hb9) ?_; rintro e w10 ⟨rfl, hb10⟩)
              go_ret2
              rw [HQ.out.1, HQ.out.2]
              exact ⟨rfl, hb10⟩
            · have HQ : Hid (R = 337 ∧ Z = 0) := by
                have : R = 337 := by rw [HR2.out]; simp [hq]
                exact ⟨this, HZ3.out (by rw [this]; decide)⟩
              have heq : (lowL xv == tCont) = false := by rw [beq_eq_false_iff_ne]; exact hq
              unfold tCont at heq
              clear HR2 HZ2 HZ3 hq
              go_wp2_with (go_at_call 47; refine Calls.mono (L2.out _ hb9) ?_; rintro e w10 ⟨rfl, hb10⟩)
              go_ret2
              rw [HQ.out.1, HQ.out.2]
              exact ⟨rfl, hb10⟩
    | [], c1 :: c2 :: cs, HR, HZ, HST, HSC, hlt, hlc, hnt, hnc =>
      have HQ : Hid (R = 308 ∧ Z = 0) := by
        have : R = 308 := by rw [HR.out]; simp [fltT, h1]
        exact ⟨this, by rw [HZ.out, fitT, if_pos (by rw [this]; decide)]⟩
      have hc2 : (1 : Int) < (((c1 :: c2 :: cs : List (List UInt8)).length : Nat) : Int) := by simp only [List.length_cons]; omega
      generalize (c1 :: c2 :: cs : List (List UInt8)).length = nc at *
      clear HR HZ h1
      go_wp2
      go_ret2
      rw [HQ.out.1, HQ.out.2]
      exact ⟨rfl, HB3.out⟩
    | [tv], [], HR, HZ, HST, HSC, hlt, hlc, hnt, hnc =>
      have htv : tv.length ≤ 1000000000 := hlt tv (by simp)
      have hcell : ∃ b off, at_ = some ⟨b, off, none⟩ ∧ w3.cell? ⟨b, off, none⟩ = some (.string ⟨tv.toArray⟩) := by
        rcases HST.out with hnil | ⟨b, off, h1, h2, h3⟩
        · cases hnil
        · exact ⟨b, off, h1, h3 0 (by simp [toB])⟩
      obtain ⟨b, off, rfl, hcell⟩ := hcell
      have L1 := (show Hid _ from HLo.out tv htv)
      by_cases hq : lowL tv = tChunked
      · have HR2 : Hid (R = if xb ∧ lowL xv ≠ tCont then 337 else 0) := by
          show R = _
          rw [HR.out]
          simp [fltT, h1, hq, show En.intV [] = 0 by rfl]
        have HZ2 : Hid (R = 0 → Z = -1) := fun h => by rw [HZ.out, fitT, h]; simp
        have HZ3 : Hid (R ≠ 0 → Z = 0) := fun h => by rw [HZ.out, fitT, if_pos h]
        have heq : (lowL tv == tChunked) = true := by rw [hq]; rfl
        unfold tChunked at heq
        clear HR HZ h1 hq
        go_wp2_with fail
        refine Calls.mono (L1.out w3 HB3.out) ?_
        rintro e w5 ⟨rfl, hb5⟩
        go_wp2_with fail
        refine Calls.mono (HG.out w5 hb5) ?_
        rintro e w9 ⟨rfl, hb9⟩
        cases xb with
        | false =>
          have HQ : Hid (R = 0 ∧ Z = -1) := by
            have : R = 0 := by rw [HR2.out]; simp
            exact ⟨this, HZ2.out this⟩
          clear HR2 HZ2 HZ3
          go_wp2
          go_ret2
          rw [HQ.out.1, HQ.out.2]
          exact ⟨rfl, hb9⟩
        | true =>
          by_cases hq : lowL xv = tCont
          · have HQ : Hid (R = 0 ∧ Z = -1) := by
              have : R = 0 := by rw [HR2.out]; simp [hq]
              exact ⟨this, HZ2.out this⟩
            have heq : (lowL xv == tCont) = true := by rw [hq]; rfl
            unfold tCont at heq
            clear HR2 HZ2 HZ3 hq
            go_wp2_with (go_at_call 47; refine Calls.mono (L2.out _ hb9) ?_; rintro e w10 ⟨rfl, hb10⟩)
            go_ret2
            rw [HQ.out.1, HQ.out.2]
            exact ⟨rfl, hb10⟩
          · have HQ : Hid (R = 337 ∧ Z = 0) := by
              have : R = 337 := by rw [HR2.out]; simp [hq]
              exact ⟨this, HZ3.out (by rw [this]; decide)⟩
            have heq : (lowL xv == tCont) = false := by rw [beq_eq_false_iff_ne]; exact hq
            unfold tCont at heq
            clear HR2 HZ2 HZ3 hq
            go_wp2_with (go_at_call 47; refine Calls.mono (L2.out _ hb9) ?_; rintro e w10 ⟨rfl, hb10⟩)
            go_ret2
            rw [HQ.out.1, HQ.out.2]
            exact ⟨rfl, hb10⟩
      · have HQ : Hid (R = 335 ∧ Z = 0) := by
          have : R = 335 := by rw [HR.out]; simp [fltT, h1, hq]
          exact ⟨this, by rw [HZ.out, fitT, if_pos (by rw [this]; decide)]⟩
        have heq : (lowL tv == tChunked) = false := by rw [beq_eq_false_iff_ne]; exact hq
        unfold tChunked at heq
        clear HR HZ h1 hq
        go_wp2_with (go_at_call 47; refine Calls.mono (L1.out _ HB3.out) ?_; rintro e w10 ⟨rfl, hb10⟩)
        go_ret2
        rw [HQ.out.1, HQ.out.2]
        exact ⟨rfl, hb10⟩
    | [tv], c1 :: cs, HR, HZ, HST, HSC, hlt, hlc, hnt, hnc =>
      have HQ : Hid (R = 308 ∧ Z = 0) := by
        have : R = 308 := by rw [HR.out]; simp [fltT, h1]
        exact ⟨this, by rw [HZ.out, fitT, if_pos (by rw [this]; decide)]⟩
      have hc2 : (0 : Int) < (((c1 :: cs : List (List UInt8)).length : Nat) : Int) := by simp only [List.length_cons]; omega
      generalize (c1 :: cs : List (List UInt8)).length = nc at *
      clear HR HZ h1
      go_wp2
      go_ret2
      rw [HQ.out.1, HQ.out.2]
      exact ⟨rfl, HB3.out⟩
    | t1 :: t2 :: ts, C, HR, HZ, HST, HSC, hlt, hlc, hnt, hnc =>
      have HQ : Hid (R = 308 ∧ Z = 0) := by
        have : R = 308 := by rw [HR.out]; simp [fltT, h1]
        exact ⟨this, by rw [HZ.out, fitT, if_pos (by rw [this]; decide)]⟩
      have hc2 : (1 : Int) < (((t1 :: t2 :: ts : List (List UInt8)).length : Nat) : Int) := by simp only [List.length_cons]; omega
      have hc1 : (0 : Int) < (((t1 :: t2 :: ts : List (List UInt8)).length : Nat) : Int) := by simp only [List.length_cons]; omega
      generalize (t1 :: t2 :: ts : List (List UInt8)).length = nt at *
      generalize C.length = nc at *
      clear HR HZ h1
      go_wp2
      all_goals go_ret2
      all_goals
        rw [HQ.out.1, HQ.out.2]
        exact ⟨rfl, HB3.out⟩
  · have h1i : ((nh : Int) != 1) = true := by rw [bne_iff_ne]; omega
    have HQ : Hid (R = 308 ∧ Z = 0) := by
      have : R = 308 := by rw [HR.out, fltT, if_pos (.inl h1)]
      exact ⟨this, by rw [HZ.out, fitT, if_pos (by rw [this]; decide)]⟩
    clear HR HZ h1
    go_wp2
    go_ret2
    rw [HQ.out.1, HQ.out.2]
    exact ⟨rfl, HB3.out⟩
end Go.Proofs.YtmodmeabjhaklabGreatDoor

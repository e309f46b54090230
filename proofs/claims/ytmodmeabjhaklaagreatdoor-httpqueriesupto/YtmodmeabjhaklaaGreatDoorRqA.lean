/-
  The document's All, Get and Cut.
-/
import Derived.Test.YtmodmeabjhaklaaGreatDoorQry
namespace Go.Proofs.YtmodmeabjhaklaaGreatDoor
open Go.RowKit

set_option maxRecDepth 20000 in
set_option maxHeartbeats 1000000 in
theorem refAll_any (a : Option Addr) (hs : List Hd) (cap : Nat) (n : List UInt8) (w : World) (hH : Hdrs w a hs) (hl : hs.length ≤ 1000000000) :
    Calls Tryz.prog 19 #[.slice a hs.length cap, .string ⟨n.toArray⟩] w fun e w' => ∃ v, e = .returned v ∧ OwnS w' w.heap.size v (toB (allL hs n)) ∧ Below w.heap.size w w' := by
  obtain ⟨i0, hi, hz0, hz1, hz2⟩ := info_parts info9
  have HH : Hid (Hdrs w a hs) := hH
  clear hH
  go_enter Tryz.func19, Tryz.ntmps19
  go_wp2
  go_loopw [5, 6] (fun v i wr => ∃ k : Nat, k ≤ hs.length ∧ i = .int .i64 k ∧ OwnS wr w.heap.size v (toB (allL (hs.take k) n)) ∧ Below w.heap.size w wr) (fun _ i _ => hs.length - (intOf i).toNat)
  case atStart => exact ⟨0, Nat.zero_le _, rfl, World.ownsRow_nil _ _ _ _, Below.refl _ _⟩
  case round =>
    obtain ⟨k, hk, rfl, hown, hb⟩ := hrel
    have hsz := hb.size
    by_cases hlt : k < hs.length
    · rcases HH.out.below hb (Nat.le_refl _) with hnil | ⟨b, off, rfl, hbs, hc⟩
      · rw [hnil] at hlt; simp at hlt
      · obtain ⟨c1, c2⟩ := hc k hlt
        obtain ⟨h, hh⟩ : ∃ h, h = hs[k] := ⟨_, rfl⟩
        rw [← hh] at c1 c2
        have hki : (k : Int) < (hs.length : Int) := by omega
        have hkk : (0 : Int) ≤ (k : Int) := by omega
        have hle : (allL (hs.take k) n).length ≤ k := Nat.le_trans (all_len _ _) (List.length_take_le _ _)
        by_cases he : h.1 = n
        · have HR : Hid (allL (hs.take (k + 1)) n = allL (hs.take k) n ++ [h.2]) := by show _ = _; rw [all_yes hlt (by rw [← hh]; exact he), hh]
          have heq : (h.1 == n) = true := by rw [he]; simp
          have HO : Hid (OwnS wr w.heap.size u5 (toB (allL (hs.take k) n))) := hown
          have hl2 : (toB (allL (hs.take k) n)).length ≤ k := by rw [toB, List.length_map]; exact hle
          clear he hh hc hown
          go_wp2_with (at_builtin; refine wpList_append_own _ rfl (.tmp 20) (.tmp 26) 42 rfl w.heap.size 9 i0 (.string ⟨#[]⟩) 1 16 Tryz.underlying42 hi hz0 hz1 hz2 rfl (by decide) _ _ _ rfl (World.ownsRow.alloc HO.out _) ⟨wr.heap.size, 0, none⟩ 1 1 [.string ⟨h.2.toArray⟩] rfl rfl (cell_one_new _ _ _) (one_one _ rfl) (by unfold maxLen; omega) (by omega) (by simp; omega) ?_; intro v1 w1 hown1 hgrow1 _)
          have HN : Hid (OwnS w1 w.heap.size v1 (toB (allL (hs.take (k + 1)) n))) := by
            show OwnS _ _ _ _
            rw [HR.out, toB, List.map_append]
            exact ownS_more hown1
          have hB1 : Below w.heap.size w w1 := (hb.alloc hsz _).grown hgrow1 (by simp; omega) (fun j hj => (World.ownsRow.lt HO.out j hj).1)
          clear hown1 hgrow1
          go_wp2
          go_roundw
          case rel => exact ⟨k + 1, by omega, by go_num, HN.out, hB1⟩
          case measure => simp [intOf]; omega
        · have HR : Hid (allL (hs.take (k + 1)) n = allL (hs.take k) n) := by show _ = _; rw [all_no hlt (by rw [← hh]; exact he)]
          have heq : (h.1 == n) = false := by rw [beq_eq_false_iff_ne]; exact he
          have HO : Hid (OwnS wr w.heap.size u5 (toB (allL (hs.take k) n))) := hown
          clear he hh hc hown
          go_wp2
          go_roundw
          case rel => exact ⟨k + 1, by omega, by go_num, by rw [HR.out]; exact HO.out, hb⟩
          case measure => simp [intOf]; omega
    · obtain rfl : k = hs.length := by omega
      rw [List.take_length] at hown
      go_wp2
      go_ret
      exact ⟨_, rfl, hown, hb⟩
theorem get_all (hs : List Hd) (n : List UInt8) : getL hs n = (allL hs n).head? := by
  rw [getL, allL, List.head?_map, List.head?_filter]
set_option maxRecDepth 20000 in
set_option maxHeartbeats 1000000 in
theorem refGet_any (a : Option Addr) (hs : List Hd) (cap : Nat) (n : List UInt8) (w : World) (hH : Hdrs w a hs) (hl : hs.length ≤ 1000000000) :
    Calls Tryz.prog 17 #[.slice a hs.length cap, .string ⟨n.toArray⟩] w fun e w' => e = .returned (.tuple #[.string ⟨((getL hs n).getD []).toArray⟩, .bool (getL hs n).isSome]) ∧ Below w.heap.size w w' := by
  have HA := (show Hid _ from refAll_any a hs cap n w hH hl)
  have HG : Hid (getL hs n = (allL hs n).head?) := get_all hs n
  have hal := all_len hs n
  clear hH
  generalize getL hs n = g at *
  generalize allL hs n = A at *
  go_enter Tryz.func17, Tryz.ntmps17
  go_wp2_with fail
  refine Calls.mono HA.out ?_
  rintro e w1 ⟨v, rfl, ho, hb⟩
  obtain ⟨a1, c1, rfl, hs1⟩ := ho.strs
  rw [toB_len]
  cases A with
  | nil =>
    have HN : Hid (g = none) := HG.out
    clear HG HA ho hs1
    simp only [List.length_nil]
    go_wp2
    go_ret2
    rw [HN.out]
    exact ⟨rfl, hb⟩
  | cons x r =>
    have HN : Hid (g = some x) := HG.out
    rcases hs1 with h | ⟨b, off, rfl, hbs, hc⟩
    · simp [toB] at h
    · have c0 := hc 0 (by simp [toB])
      rw [Nat.add_zero] at c0
      have c0' : w1.cell? ⟨b, off, none⟩ = some (.string ⟨x.toArray⟩) := c0
      have hz : (((x :: r).length : Int) == 0) = false := by rw [beq_eq_false_iff_ne, List.length_cons]; omega
      have hz0 : (0 : Int) < ((x :: r).length : Int) := by rw [List.length_cons]; omega
      obtain ⟨m, hm⟩ : ∃ m, m = (x :: r).length := ⟨_, rfl⟩
      rw [← hm] at hz hz0 hal ⊢
      clear hm c0 hc HG HA ho
      go_wp2
      go_ret2
      rw [HN.out]
      exact ⟨rfl, hb⟩
theorem occ_one (m : List UInt8) (c : UInt8) (i : Nat) : Lib.occAt m [c] i = decide (m[i]? = some c) := by
  unfold Lib.occAt
  by_cases h : i < m.length
  · rw [List.drop_eq_getElem_cons h, List.getElem?_eq_getElem h]
    simp only [List.isPrefixOf, Bool.and_true, Option.some.injEq]
    rw [Bool.eq_iff_iff, beq_iff_eq, decide_eq_true_iff]
    exact eq_comm
  · rw [List.drop_eq_nil_of_le (by omega), List.getElem?_eq_none (by omega)]
    simp [List.isPrefixOf]
theorem cut_hit {m : List UInt8} {c : UInt8} {k : Nat} (hk : k < m.length) (hc : m[k] = c) (hno : c ∉ m.take k) : Lib.cut m [c] = (m.take k, m.drop (k + 1), true) := by
  have hi : Lib.index m [c] = (k : Int) := by
    refine Lib.index_first (Nat.le_of_lt hk) ?_ fun j hj => ?_
    · rw [occ_one, List.getElem?_eq_getElem hk, hc]; simp
    · rw [occ_one, List.getElem?_eq_getElem (by omega)]
      apply decide_eq_false
      intro h
      simp only [Option.some.injEq] at h
      apply hno
      rw [← h]
      exact List.mem_take_iff_getElem.2 ⟨j, by omega, rfl⟩
  unfold Lib.cut
  rw [if_pos (by rw [hi]; omega), hi]
  simp
theorem cut_miss {m : List UInt8} {c : UInt8} (hno : c ∉ m) : Lib.cut m [c] = (m, [], false) := by
  have hi : Lib.index m [c] = -1 := by
    refine Lib.index_none fun j _ => ?_
    rw [occ_one]
    apply decide_eq_false
    intro h
    exact hno (List.mem_of_getElem? h)
  unfold Lib.cut
  rw [if_neg (by rw [hi]; omega)]
set_option maxRecDepth 20000 in
set_option maxHeartbeats 1000000 in
theorem refCut_any (m : List UInt8) (c : UInt8) (w : World) (hl : m.length ≤ 1000000000) :
    Calls Tryz.prog 37 #[.string ⟨m.toArray⟩, .int .u8 (c.toNat : Int)] w fun e w' => e = .returned (.tuple #[.string ⟨(Lib.cut m [c]).1.toArray⟩, .string ⟨(Lib.cut m [c]).2.1.toArray⟩, .bool (Lib.cut m [c]).2.2]) ∧ Below w.heap.size w w' := by
  obtain ⟨S, hS⟩ : ∃ S : ByteArray, S = ⟨m.toArray⟩ := ⟨_, rfl⟩
  have hsz : S.size = m.length := by rw [hS, mk_size]
  have hget : ∀ k (h : k < S.size), S[k] = m[k]'(by omega) := by subst hS; intro k h; rfl
  have HX : Hid (∀ a b, S.extract a b = ⟨((m.take b).drop a).toArray⟩) := by subst hS; exact fun a b => mk_ext m a b
  have HS : Hid (S = ⟨m.toArray⟩) := hS
  obtain ⟨n, hn⟩ : ∃ n : Int, n = (c.toNat : Int) := ⟨_, rfl⟩
  have HN : Hid (n = (c.toNat : Int)) := hn
  obtain ⟨O, hO⟩ : ∃ O, O = Value.tuple #[.string ⟨(Lib.cut m [c]).1.toArray⟩, .string ⟨(Lib.cut m [c]).2.1.toArray⟩, .bool (Lib.cut m [c]).2.2] := ⟨_, rfl⟩
  have HO := (show Hid _ from hO)
  rw [← hS, ← hn, ← hO]
  clear hS hn hO
  go_enter Tryz.func37, Tryz.ntmps37
  go_wp2
  go_loop [7] (fun i => ∃ k : Nat, k ≤ m.length ∧ i = .int .i64 k ∧ Hid (c ∉ m.take k)) (fun i => m.length - (intOf i).toNat)
  case atStart => exact ⟨0, Nat.zero_le _, rfl, by show c ∉ _; simp⟩
  case round =>
    obtain ⟨k, hk, rfl, hno⟩ := hrel
    by_cases hlt : k < m.length
    · have hkz : k < S.size := by omega
      have hgk := hget k hkz
      have hki : (k : Int) < (S.size : Int) := by omega
      have hk0 : (0 : Int) ≤ (k : Int) := by omega
      by_cases hc : m[k] = c
      · have hq : ((S[k].toNat : Int) == n) = true := by rw [hgk, hc, HN.out]; simp
        have hv : O = .tuple #[.string ⟨(m.take k).toArray⟩, .string ⟨(m.drop (k + 1)).toArray⟩, .bool true] := by rw [HO.out, cut_hit hlt hc hno.out]
        have HV := (show Hid _ from hv)
        have h1 : (k : Int) ≤ (S.size : Int) := by omega
        have h2 : (k : Int) + 1 ≤ (S.size : Int) := by omega
        clear hget hgk hno hc hv
        go_wp2
        go_quiet (fail)
        go_wp2
        refine bodyPost_ret (results_tmp3 rfl _ _ _) rfl ?_
        refine ⟨?_, drewN_below w _⟩
        rw [HV.out]
        simp [HX.out]
      · have hq : ((S[k].toNat : Int) == n) = false := by
          rw [hgk, HN.out, beq_eq_false_iff_ne]
          intro h
          exact hc (UInt8.toNat.inj (by omega))
        have HNo : Hid (c ∉ m.take (k + 1)) := by
          show c ∉ _
          rw [List.take_succ_eq_append_getElem hlt, List.mem_append]
          rintro (h | h)
          · exact hno.out h
          · simp only [List.mem_singleton] at h
            exact hc h.symm
        clear hget hgk hno hc
        go_wp2
        go_round
        case rel => exact ⟨k + 1, by omega, by go_num, HNo⟩
        case measure => simp [intOf]; omega
    · obtain rfl : k = m.length := by omega
      have hv : O = .tuple #[.string S, .string ⟨#[]⟩, .bool false] := by
        have := hno.out
        rw [List.take_length] at this
        rw [HO.out, cut_miss this, HS.out]
      have hki : ¬ ((m.length : Int) < (S.size : Int)) := by omega
      have HV := (show Hid _ from hv)
      clear hget hno hv
      go_wp2
      refine bodyPost_ret (results_tmp3 rfl _ _ _) rfl ?_
      rw [HV.out]
      exact ⟨rfl, Below.refl _ _⟩
end Go.Proofs.YtmodmeabjhaklaaGreatDoor

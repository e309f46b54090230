/-
  The document's All, Get and Cut.
-/
import Derived.Test.YtnmffehmjgknkaaGreatDoorQyA
namespace Go.Proofs.YtnmffehmjgknkaaGreatDoor
open Go.RowKit

theorem mk_list (s : ByteArray) : s = ⟨s.data.toList.toArray⟩ := by simp
theorem mk_ext (l : List UInt8) (a b : Nat) : (⟨l.toArray⟩ : ByteArray).extract a b = ⟨((l.take b).drop a).toArray⟩ := by
  rw [mk_list ((⟨l.toArray⟩ : ByteArray).extract a b)]
  congr 2
  rw [ByteArray.data_extract, Array.toList_extract, List.extract_eq_take_drop, List.drop_take]
theorem occ_one (m : List UInt8) (c : UInt8) (i : Nat) : Lib.occAt m [c] i = decide (m[i]? = some c) := by
  unfold Lib.occAt
  by_cases h : i < m.length
  · rw [List.drop_eq_getElem_cons h, List.getElem?_eq_getElem h]
    simp only [List.isPrefixOf, Bool.and_true, Option.some.injEq]
    rw [Bool.eq_iff_iff, beq_iff_eq, decide_eq_true_iff]
    exact eq_comm
  · rw [List.drop_eq_nil_of_le (by omega), List.getElem?_eq_none (by omega)]
    simp [List.isPrefixOf]
theorem cut_hit {m : List UInt8} {c : UInt8} {k : Nat} (hk : k < m.length) (hc : m[k] = c) (hno : c ∉ m.take k) : Lib.cut m [c] = (m.take k, m.drop (k + 1), true) := by
  have hi : Lib.index m [c] = (k : Int) := by
    refine Lib.index_first (Nat.le_of_lt hk) ?_ fun j hj => ?_
    · rw [occ_one, List.getElem?_eq_getElem hk, hc]; simp
    · rw [occ_one, List.getElem?_eq_getElem (by omega)]
      apply decide_eq_false
      intro h
      simp only [Option.some.injEq] at h
      apply hno
      rw [← h]
      exact List.mem_take_iff_getElem.2 ⟨j, by omega, rfl⟩
  unfold Lib.cut
  rw [if_pos (by rw [hi]; omega), hi]
  simp
theorem cut_miss {m : List UInt8} {c : UInt8} (hno : c ∉ m) : Lib.cut m [c] = (m, [], false) := by
  have hi : Lib.index m [c] = -1 := by
    refine Lib.index_none fun j _ => ?_
    rw [occ_one]
    apply decide_eq_false
    intro h
    exact hno (List.mem_of_getElem? h)
  unfold Lib.cut
  rw [if_neg (by rw [hi]; omega)]
set_option maxRecDepth 20000 in
set_option maxHeartbeats 1000000 in
theorem refCut_any (m : List UInt8) (c : UInt8) (w : World) (hl : m.length ≤ 1000000000) :
    Calls Tryz.prog 63 #[.string ⟨m.toArray⟩, .int .u8 (c.toNat : Int)] w fun e w' => e = .returned (.tuple #[.string ⟨(Lib.cut m [c]).1.toArray⟩, .string ⟨(Lib.cut m [c]).2.1.toArray⟩, .bool (Lib.cut m [c]).2.2]) ∧ Below w.heap.size w w' := by
  obtain ⟨S, hS⟩ : ∃ S : ByteArray, S = ⟨m.toArray⟩ := ⟨_, rfl⟩
  have hsz : S.size = m.length := by rw [hS, mk_size]
  have hget : ∀ k (h : k < S.size), S[k] = m[k]'(by omega) := by subst hS; intro k h; rfl
  have HX : Hid (∀ a b, S.extract a b = ⟨((m.take b).drop a).toArray⟩) := by subst hS; exact fun a b => mk_ext m a b
  have HS : Hid (S = ⟨m.toArray⟩) := hS
  obtain ⟨n, hn⟩ : ∃ n : Int, n = (c.toNat : Int) := ⟨_, rfl⟩
  have HN : Hid (n = (c.toNat : Int)) := hn
  obtain ⟨O, hO⟩ : ∃ O, O = Value.tuple #[.string ⟨(Lib.cut m [c]).1.toArray⟩, .string ⟨(Lib.cut m [c]).2.1.toArray⟩, .bool (Lib.cut m [c]).2.2] := ⟨_, rfl⟩
  have HO := (show Hid _ from hO)
  rw [← hS, ← hn, ← hO]
  clear hS hn hO
  go_enter Tryz.func63, Tryz.ntmps63
  go_wp2
  go_loop [7] (fun i => ∃ k : Nat, k ≤ m.length ∧ i = .int .i64 k ∧ Hid (c ∉ m.take k)) (fun i => m.length - (intOf i).toNat)
  case atStart => exact ⟨0, Nat.zero_le _, rfl, by show c ∉ _; simp⟩
  case round =>
    obtain ⟨k, hk, rfl, hno⟩ := hrel
    by_cases hlt : k < m.length
    · have hkz : k < S.size := by omega
      have hgk := hget k hkz
      have hki : (k : Int) < (S.size : Int) := by omega
      have hk0 : (0 : Int) ≤ (k : Int) := by omega
      by_cases hc : m[k] = c
      · have hq : ((S[k].toNat : Int) == n) = true := by rw [hgk, hc, HN.out]; simp
        have hv : O = .tuple #[.string ⟨(m.take k).toArray⟩, .string ⟨(m.drop (k + 1)).toArray⟩, .bool true] := by rw [HO.out, cut_hit hlt hc hno.out]
        have HV := (show Hid _ from hv)
        have h1 : (k : Int) ≤ (S.size : Int) := by omega
        have h2 : (k : Int) + 1 ≤ (S.size : Int) := by omega
        clear hget hgk hno hc hv
        go_wp2
        go_quiet (fail)
        go_wp2
        refine bodyPost_ret (results_tmp3 rfl _ _ _) rfl ?_
        refine ⟨?_, drewN_below w _⟩
        rw [HV.out]
        simp [HX.out]
      · have hq : ((S[k].toNat : Int) == n) = false := by
          rw [hgk, HN.out, beq_eq_false_iff_ne]
          intro h
          exact hc (UInt8.toNat.inj (by omega))
        have HNo : Hid (c ∉ m.take (k + 1)) := by
          show c ∉ _
          rw [List.take_succ_eq_append_getElem hlt, List.mem_append]
          rintro (h | h)
          · exact hno.out h
          · simp only [List.mem_singleton] at h
            exact hc h.symm
        clear hget hgk hno hc
        go_wp2
        go_round
        case rel => exact ⟨k + 1, by omega, by go_num, HNo⟩
        case measure => simp [intOf]; omega
    · obtain rfl : k = m.length := by omega
      have hv : O = .tuple #[.string S, .string ⟨#[]⟩, .bool false] := by
        have := hno.out
        rw [List.take_length] at this
        rw [HO.out, cut_miss this, HS.out]
      have hki : ¬ ((m.length : Int) < (S.size : Int)) := by omega
      have HV := (show Hid _ from hv)
      clear hget hno hv
      go_wp2
      refine bodyPost_ret (results_tmp3 rfl _ _ _) rfl ?_
      rw [HV.out]
      exact ⟨rfl, Below.refl _ _⟩
end Go.Proofs.YtnmffehmjgknkaaGreatDoor

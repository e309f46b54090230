/-
  strings.CutPrefix; isVersion.
-/
import Derived.Test.YtmodmeabjhaklaaGreatDoorGtC
import Derived.Test.YtmodmeabjhaklaaGreatDoorShelfD
namespace Go.Proofs.YtmodmeabjhaklaaGreatDoor
open Go.RowKit

theorem hasPrefix73 (s p : ByteArray) (w : World) :
    Calls Tryz.prog 73 #[.string s, .string p] w fun e w' => e = .returned (.bool (Lib.hasPrefix s.data.toList p.data.toList)) ∧ w' = w :=
  Any.stringslite_HasPrefix (ρ := YtmodmeabjhaklaaGreatDoor.lays99_ren) { YtmodmeabjhaklaaGreatDoor.lays99 with } s p w
theorem hp_eq (s p : List UInt8) : Lib.hasPrefix s p = p.isPrefixOf s := rfl
theorem pre_len {s p : List UInt8} (h : p.isPrefixOf s = true) : p.length ≤ s.length ∧ s = p ++ s.drop p.length := by
  rw [List.isPrefixOf_iff_prefix] at h
  obtain ⟨t, rfl⟩ := h
  simp
def cpV (s p : List UInt8) : Value := if p.isPrefixOf s then .tuple #[.string ⟨(s.drop p.length).toArray⟩, .bool true] else .tuple #[.string ⟨s.toArray⟩, .bool false]
theorem cp_yes {s p : List UInt8} (h : p.isPrefixOf s = true) : cpV s p = .tuple #[.string ⟨(s.drop p.length).toArray⟩, .bool true] := by rw [cpV, if_pos h]
theorem cp_no {s p : List UInt8} (h : ¬ p.isPrefixOf s = true) : cpV s p = .tuple #[.string ⟨s.toArray⟩, .bool false] := by rw [cpV, if_neg h]
theorem cutPrefix89 (s p : List UInt8) (w : World) (_hs : s.length ≤ 1000000000) :
    Calls Tryz.prog 89 #[.string ⟨s.toArray⟩, .string ⟨p.toArray⟩] w fun e w' => e = .returned (cpV s p) ∧ Below w.heap.size w w' := by
  have HP := (show Hid _ from hasPrefix73 ⟨s.toArray⟩ ⟨p.toArray⟩ w)
  simp only [hp_eq] at HP
  by_cases h : p.isPrefixOf s = true
  · rw [cp_yes h]
    rw [h] at HP
    have hl := (pre_len h).1
    have hl1 : (p.length : Int) ≤ (s.length : Int) := by omega
    have HE : Hid ((⟨s.toArray⟩ : ByteArray).extract p.length s.length = ⟨(s.drop p.length).toArray⟩) := by
      show _ = _
      rw [mk_ext, List.take_length]
    clear h hl
    go_enter Tryz.func89, Tryz.ntmps89
    go_wp2_with (go_at_call 73; refine Calls.mono HP.out ?_; rintro e w' ⟨rfl, rfl⟩)
    go_ret2
    refine ⟨?_, by first | exact Below.refl _ _ | exact (Below.refl _ _).drew⟩
    simp [HE.out]
  · have h0 : p.isPrefixOf s = false := Bool.eq_false_iff.2 h
    rw [cp_no h]
    rw [h0] at HP
    clear h h0
    go_enter Tryz.func89, Tryz.ntmps89
    go_wp2_with (go_at_call 73; refine Calls.mono HP.out ?_; rintro e w' ⟨rfl, rfl⟩)
    go_ret2
    exact ⟨rfl, Below.refl _ _⟩
theorem cutPrefix_any (s p : List UInt8) (w : World) (hs : s.length ≤ 1000000000) :
    Calls Tryz.prog 64 #[.string ⟨s.toArray⟩, .string ⟨p.toArray⟩] w fun e w' => e = .returned (cpV s p) ∧ Below w.heap.size w w' := by
  have HP := (show Hid _ from cutPrefix89 s p w hs)
  by_cases h : p.isPrefixOf s = true
  · rw [cp_yes h]
    rw [cp_yes h] at HP
    clear h
    go_enter Tryz.func64, Tryz.ntmps64
    go_wp2_with (go_at_call 89; refine Calls.mono HP.out ?_; rintro e w' ⟨rfl, hb⟩)
    go_ret2
    exact ⟨rfl, hb⟩
  · rw [cp_no h]
    rw [cp_no h] at HP
    clear h
    go_enter Tryz.func64, Tryz.ntmps64
    go_wp2_with (go_at_call 89; refine Calls.mono HP.out ?_; rintro e w' ⟨rfl, hb⟩)
    go_ret2
    exact ⟨rfl, hb⟩
theorem ver_of {v r : List UInt8} (hv : v = httpT ++ r) : verB v = (decide (r.length = 3) && digB ((r.getD 0 0).toNat : Int) && decide ((r.getD 1 0).toNat = 46) && digB ((r.getD 2 0).toNat : Int)) := by
  subst hv
  have h1 : httpT.isPrefixOf (httpT ++ r) = true := by rw [List.isPrefixOf_iff_prefix]; exact List.prefix_append _ _
  have h2 : decide ((httpT ++ r).length = 8) = decide (r.length = 3) := by
    apply decide_eq_decide.2
    simp [httpT]
  rw [verB, h1, h2]
  simp [httpT]
set_option maxHeartbeats 2000000 in
set_option maxRecDepth 20000 in
theorem isVersion_any (v : List UInt8) (w : World) (hs : v.length ≤ 1000000000) :
    Calls Tryz.prog 42 #[.string ⟨v.toArray⟩] w fun e w' => e = .returned (.bool (verB v)) ∧ Below w.heap.size w w' := by
  have HC := (show Hid _ from cutPrefix_any v httpT w hs)
  by_cases h : httpT.isPrefixOf v = true
  · rw [cp_yes h] at HC
    obtain ⟨r, hr⟩ : ∃ r, r = v.drop httpT.length := ⟨_, rfl⟩
    have hv := (pre_len h).2
    rw [← hr] at hv HC
    have HV := (show Hid _ from ver_of hv)
    clear h hr hv
    unfold httpT at HC
    by_cases h3 : r.length = 3
    · obtain ⟨S, hS⟩ : ∃ S : ByteArray, S = ⟨r.toArray⟩ := ⟨_, rfl⟩
      have hsz : S.size = 3 := by rw [hS, mk_size, h3]
      have g0 : r.getD 0 0 = S[0] := by subst hS; rw [mk_get]; simp [List.getD, List.getElem?_eq_getElem (show 0 < r.length by omega)]
      have g1 : r.getD 1 0 = S[1] := by subst hS; rw [mk_get]; simp [List.getD, List.getElem?_eq_getElem (show 1 < r.length by omega)]
      have g2 : r.getD 2 0 = S[2] := by subst hS; rw [mk_get]; simp [List.getD, List.getElem?_eq_getElem (show 2 < r.length by omega)]
      rw [g0, g1, g2, decide_eq_true h3] at HV
      rw [← hS] at HC
      clear hS g0 g1 g2 h3
      have ha : (S[0]).toNat < 256 := (S[0]).toNat_lt
      have hc : (S[2]).toNat < 256 := (S[2]).toNat_lt
      have hb : (S[1]).toNat < 256 := (S[1]).toNat_lt
      have HDa := (show Hid _ from fun W => isDigit65 ((S[0]).toNat : Int) W (by omega) (by omega))
      have HDc := (show Hid _ from fun W => isDigit65 ((S[2]).toNat : Int) W (by omega) (by omega))
      generalize digB ((S[0]).toNat : Int) = da at *
      generalize digB ((S[2]).toNat : Int) = dc at *
      have hszi : (S.size : Int) = 3 := by omega
      have hbb : (((S[1]).toNat : Int) == 46) = decide ((S[1]).toNat = 46) := by
        rw [Bool.eq_iff_iff, beq_iff_eq, decide_eq_true_iff]
        omega
      generalize hbd : decide ((S[1]).toNat = 46) = db at *
      clear hbd hb
      go_enter Tryz.func42, Tryz.ntmps42
      go_wp2_with fail
      refine Calls.mono HC.out ?_
      rintro e w1 ⟨rfl, hb1⟩
      have HB : Hid (Below w.heap.size w w1) := hb1
      clear hb1
      cases da
      · go_wp2_with fail
        refine Calls.mono (HDa.out _) ?_
        rintro e w' ⟨rfl, rfl⟩
        go_wp2
        go_ret
        rw [HV.out]
        exact ⟨rfl, HB.out⟩
      · cases db
        · go_wp2_with fail
          refine Calls.mono (HDa.out _) ?_
          rintro e w' ⟨rfl, rfl⟩
          go_wp2
          go_ret
          rw [HV.out]
          exact ⟨by simp, HB.out⟩
        · go_wp2_with fail
          refine Calls.mono (HDa.out _) ?_
          rintro e w' ⟨rfl, rfl⟩
          go_wp2_with fail
          refine Calls.mono (HDc.out _) ?_
          rintro e w' ⟨rfl, rfl⟩
          go_wp2
          go_ret
          rw [HV.out]
          exact ⟨by simp, HB.out⟩
    · have HF : Hid (verB v = false) := by
        show _ = _
        rw [HV.out, decide_eq_false h3]
        rfl
      have h3i : ((r.length : Int) == 3) = false := by rw [beq_eq_false_iff_ne]; omega
      clear h3 HV
      go_enter Tryz.func42, Tryz.ntmps42
      go_wp2_with (go_at_call 64; refine Calls.mono HC.out ?_; rintro e w1 ⟨rfl, hb1⟩)
      go_ret
      rw [HF.out]
      exact ⟨rfl, hb1⟩
  · rw [cp_no h] at HC
    have h0 : httpT.isPrefixOf v = false := Bool.eq_false_iff.2 h
    have HF : Hid (verB v = false) := by
      show _ = _
      rw [verB, h0]
      rfl
    clear h h0
    unfold httpT at HC
    go_enter Tryz.func42, Tryz.ntmps42
    go_wp2_with (go_at_call 64; refine Calls.mono HC.out ?_; rintro e w1 ⟨rfl, hb1⟩)
    go_ret
    rw [HF.out]
    exact ⟨rfl, hb1⟩
end Go.Proofs.YtmodmeabjhaklaaGreatDoor

/-
  A chunk's size out of its line (chunkSize).
-/
import Derived.Test.YtmodmeabjhaklaaGreatDoorPu
namespace Go.Proofs.YtmodmeabjhaklaaGreatDoor
open Go.RowKit

theorem cut_len (s p : List UInt8) : (Lib.cut s p).1.length ≤ s.length ∧ (Lib.cut s p).2.1.length ≤ s.length := by
  unfold Lib.cut
  split
  · simp only [List.length_take, List.length_drop]
    omega
  · simp
theorem drewN_below (w : World) (n : Nat) : Below w.heap.size w (w.drewN n) := by
  induction n with
  | zero => exact Below.refl _ _
  | succ n ih => exact ⟨rfl, rfl, rfl, Nat.le_refl _, fun _ _ => rfl⟩
/-- strings.Cut at a text. -/
theorem cut_any (s p : List UInt8) (w : World) (hs : s.length ≤ 1000000000) (hm : Mx w) :
    Calls Tryz.prog 35 #[.string ⟨s.toArray⟩, .string ⟨p.toArray⟩] w fun e w' => e = .returned (.tuple #[.string ⟨(Lib.cut s p).1.toArray⟩, .string ⟨(Lib.cut s p).2.1.toArray⟩, .bool (Lib.cut s p).2.2]) ∧ Below w.heap.size w w' := by
  obtain ⟨m, hm⟩ := hm
  refine (YtmodmeabjhaklaaGreatDoor.strings_Cut ⟨s.toArray⟩ ⟨p.toArray⟩ m w (by rw [mk_size]; omega) hm).mono ?_
  rintro e w' ⟨rfl, n, rfl⟩
  exact ⟨rfl, drewN_below w n⟩
theorem digs_lt (b : Nat) (hb : b ≤ 16) : ∀ (l : List UInt8) (n m : Nat), digs b n l = some m → m < (n + 1) * 16 ^ l.length
  | [], n, m, h => by
    simp only [digs, Option.some.injEq] at h
    subst h
    simp
  | c :: r, n, m, h => by
    simp only [digs] at h
    split at h
    · next hd =>
      have := digs_lt b hb r _ m h
      rw [List.length_cons, Nat.pow_succ]
      have hle : b * n + dv c + 1 ≤ (n + 1) * 16 := by
        have : b * n ≤ 16 * n := Nat.mul_le_mul_right n hb
        omega
      have h2 : (b * n + dv c + 1) * 16 ^ r.length ≤ (n + 1) * 16 * 16 ^ r.length := Nat.mul_le_mul_right _ hle
      have h3 : (n + 1) * 16 * 16 ^ r.length = (n + 1) * (16 ^ r.length * 16) := by rw [Nat.mul_assoc, Nat.mul_comm 16]
      omega
    · cases h
theorem chk_lt {s : List UInt8} {n : Nat} (h : chkL s = some n) : n < 4294967296 := by
  unfold chkL at h
  split at h
  · next hc =>
    have h1 := digs_lt 16 (by omega) _ _ _ h
    have h2 : (16 : Nat) ^ (Lib.cut s [59]).1.length ≤ 16 ^ 8 := Nat.pow_le_pow_right (by omega) hc.2.1
    have h3 : (16 : Nat) ^ 8 = 4294967296 := by decide
    omega
  · cases h
set_option maxRecDepth 20000 in
set_option maxHeartbeats 1600000 in
theorem chunkSize_any (s : List UInt8) (w : World) (hs : s.length ≤ 1000000000) (hm : Mx w) (he : Er w) :
    Calls Tryz.prog 50 #[.string ⟨s.toArray⟩] w fun e w' => e = .returned (.tuple #[.int .i64 ((chkL s).getD 0 : Nat), .bool (chkL s).isSome]) ∧ Below w.heap.size w w' := by
  have hcl := cut_len s [59]
  have HC := (show Hid _ from cut_any s [59] w hs hm)
  have HK : Hid (chkL s = if 1 ≤ (Lib.cut s [59]).1.length ∧ (Lib.cut s [59]).1.length ≤ 8 ∧ allB valB (Lib.cut s [59]).2.1 = true then digs 16 0 (Lib.cut s [59]).1 else none) := rfl
  have HLT : Hid (∀ n, chkL s = some n → n < 4294967296) := fun n h => chk_lt h
  generalize (Lib.cut s [59]).2.2 = fd at *
  generalize (Lib.cut s [59]).2.1 = B at *
  generalize (Lib.cut s [59]).1 = D at *
  have HP := (show Hid _ from fun W (hW : Er W) => parsePub_any ⟨D.toArray⟩ W (by rw [mk_size]; omega) hW)
  have HV := (show Hid _ from fun W => value_any ⟨B.toArray⟩ W (by rw [mk_size]; unfold maxLen; omega))
  have HE : Hid (Er w) := he
  have hDl : D.length ≤ 1000000000 := by omega
  clear hm he hcl
  go_enter Tryz.func50, Tryz.ntmps50
  go_wp2_with fail
  refine Calls.mono HC.out ?_
  rintro e w1 ⟨rfl, hb1⟩
  have HB1 : Hid (Below w.heap.size w w1) := hb1
  have K := HP.out w1 (HE.out.below hb1 (Nat.le_refl _))
  clear hb1 HC
  go_wp2_with fail
  refine Calls.mono K ?_
  rintro e w2 ⟨⟨x, ev, rfl, x0, x1, hev, hpu⟩, hb2⟩
  try simp only [List.toList_toArray] at hpu
  have HB2 : Hid (Below w.heap.size w w2) := HB1.out.trans (hb2.mono HB1.out.size)
  have HPU := (show Hid _ from hpu)
  clear hb2 K hpu HB1
  rcases hev with rfl | ⟨N, rfl⟩
  · by_cases h8 : D.length ≤ 8
    · have h8i : ¬ (8 : Int) < (D.length : Int) := by omega
      have HVW := HV.out w2
      have hres : Hid (((allB valB B = true) → chkL s = some x.toNat ∧ x < 4294967296) ∧ (allB valB B = false → chkL s = none)) := by
        have hq := HPU.out h8
        rcases hq with ⟨n, h1, h2, _⟩ | ⟨_, h2⟩
        · refine ⟨fun hb => ?_, fun hb => ?_⟩
          · have hD : D ≠ [] := by intro h; rw [h, puN, if_pos rfl] at h1; cases h1
            have h3 : chkL s = some x.toNat := by
              rw [HK.out, if_pos ⟨List.length_pos_iff.2 hD, h8, hb⟩]
              rw [puN, if_neg hD] at h1
              rw [h1, h2]
              simp
            have := HLT.out _ h3
            exact ⟨h3, by omega⟩
          · rw [HK.out, if_neg (by rw [hb]; simp)]
        · exact absurd rfl h2
      try simp only [List.toList_toArray] at HVW
      have HVW2 := (show Hid _ from HVW)
      clear HVW HPU HK HLT HP HV
      generalize allB valB B = vb at *
      cases vb
      · have HN := hres.out.2 rfl
        have HN2 : Hid (chkL s = none) := HN
        clear HN hres h8
        go_wp2_with (go_at_call 66; refine Calls.mono HVW2.out ?_; rintro e w' ⟨rfl, rfl⟩)
        go_ret2
        rw [HN2.out]
        exact ⟨rfl, HB2.out⟩
      · obtain ⟨h3, h4⟩ := hres.out.1 rfl
        have HN2 : Hid (chkL s = some x.toNat) := h3
        clear h3 hres h8
        go_wp2_with (go_at_call 66; refine Calls.mono HVW2.out ?_; rintro e w' ⟨rfl, rfl⟩)
        go_ret2
        rw [HN2.out]
        refine ⟨?_, HB2.out⟩
        have : ((x.toNat : Nat) : Int) = x := by omega
        simp [this]
    · have h8i : (8 : Int) < (D.length : Int) := by omega
      have HN2 : Hid (chkL s = none) := by show _ = _; rw [HK.out, if_neg (by omega)]
      clear h8 HK HLT HP HV HPU
      go_wp2
      go_ret2
      rw [HN2.out]
      exact ⟨rfl, HB2.out⟩
  · have HN2 : Hid (chkL s = none) := by
      show _ = _
      rw [HK.out]
      split
      · next hc =>
        rcases HPU.out hc.2.1 with ⟨n, _, _, h⟩ | ⟨h, _⟩
        · cases h
        · rw [puN, if_neg (by intro h0; rw [h0] at hc; simp at hc)] at h
          exact h
      · rfl
    clear HK HLT HP HV HPU
    go_wp2
    go_ret2
    rw [HN2.out]
    exact ⟨rfl, HB2.out⟩
end Go.Proofs.YtmodmeabjhaklaaGreatDoor

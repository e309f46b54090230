/-
  The document's entity: hexadecimal numbers.
-/
import Derived.Test.YtohkocknpmnakaaGreatDoorRfC
namespace Go.Proofs.YtohkocknpmnakaaGreatDoor
open Go.RowKit

set_option maxRecDepth 20000 in
set_option maxHeartbeats 3200000 in
theorem entity_hex (a : List UInt8) (w : World) (hl : a.length ≤ 281474976710656) (h1 : a ≠ [97, 109, 112]) (h2 : a ≠ [108, 116]) (h3 : a ≠ [103, 116]) (h4 : a ≠ [113, 117, 111, 116]) (h5 : a ≠ [97, 112, 111, 115]) (ds : List UInt8) (hx : eat [35, 120] a = some ds) :
    Calls Tryz.prog 45 #[.string ⟨a.toArray⟩] w fun e w' => e = .returned (entV (numL 16 ds)) ∧ Below w.heap.size w w' := by
  obtain ⟨O, hO⟩ : ∃ O : Option (List UInt8), O = numL 16 ds := ⟨_, rfl⟩
  rw [← hO]
  obtain ⟨s, hs⟩ : ∃ s : ByteArray, s = ⟨a.toArray⟩ := ⟨_, rfl⟩
  have HS : Hid (s = ⟨a.toArray⟩ ∧ s.size = a.length) := ⟨hs, by rw [hs, mk_size]⟩
  have hsl : s.size ≤ 281474976710656 := by rw [HS.out.2]; omega
  have hcmp : ∀ x : List UInt8, (s.toList == x) = decide (a = x) := by
    intro x
    rw [Lib.toList_data, hs, Bool.eq_iff_iff]
    simp
  have q1 := hcmp [97, 109, 112]
  have q2 := hcmp [108, 116]
  have q3 := hcmp [103, 116]
  have q4 := hcmp [113, 117, 111, 116]
  have q5 := hcmp [97, 112, 111, 115]
  have HP := (show Hid (∀ (p : List UInt8) W, p.length ≤ 2 → Calls Tryz.prog 61 #[.string s, .string ⟨p.toArray⟩] W fun e w' => e = .returned (.bool (Lib.hasPrefix a p)) ∧ W = w') from fun p W h => by
    rw [hs]
    exact begins_any a p W hl (by omega))
  rw [← hs]
  clear hcmp hs hl
  simp only [h1, decide_false] at q1
  simp only [h2, decide_false] at q2
  simp only [h3, decide_false] at q3
  simp only [h4, decide_false] at q4
  simp only [h5, decide_false] at q5
  clear h1 h2 h3 h4 h5
  obtain ⟨hp, hds, hln⟩ := eat_pre hx
  have hp1 := HP.out [35, 120]
  rw [hp] at hp1
  have HP1 := (show Hid (∀ W, Calls Tryz.prog 61 #[.string s, .string ⟨#[35, 120]⟩] W fun e w' => e = .returned (.bool true) ∧ W = w') from fun W => hp1 W (by decide))
  clear hp hx hp1 HP
  have ht : s.extract 2 s.size = ⟨ds.toArray⟩ := by
    rw [HS.out.1, mk_ext, mk_size, List.take_length, hds]
    rfl
  obtain ⟨t, htd⟩ : ∃ t : ByteArray, t = ⟨ds.toArray⟩ := ⟨_, rfl⟩
  rw [← htd] at ht
  have HT : Hid (t = ⟨ds.toArray⟩ ∧ t.size = ds.length) := ⟨htd, by rw [htd, mk_size]⟩
  have htl : t.size ≤ 281474976710656 := by rw [HT.out.2]; have := HS.out.2; omega
  have hpi : (2 : Int) ≤ (s.size : Int) := by have := HS.out.2; simp at hln; omega
  have HO : Hid (O = numL 16 ds) := hO
  clear hds htd hO hln
  by_cases hbad : ¬ (1 ≤ t.size ∧ t.size ≤ 7)
  · have HZ : Hid (O = none) := by
      show _ = _
      rw [HO.out, numL, if_neg (by rw [← HT.out.2]; exact hbad)]
    rcases (show t.size = 0 ∨ 7 < t.size by omega) with hz | hz
    · go_enter Tryz.func45, Tryz.ntmps45
      go_wp2_with (go_at_call 61; refine (HP1.out _).mono ?_; rintro e w' ⟨rfl, rfl⟩)
      go_ret2
      exact ⟨by rw [HZ.out]; rfl, Below.refl _ _⟩
    · go_enter Tryz.func45, Tryz.ntmps45
      go_wp2_with (go_at_call 61; refine (HP1.out _).mono ?_; rintro e w' ⟨rfl, rfl⟩)
      go_ret2
      exact ⟨by rw [HZ.out]; rfl, Below.refl _ _⟩
  · have hg : 1 ≤ t.size ∧ t.size ≤ 7 := by omega
    have HO2 : Hid (O = (digs 16 0 ds).bind fun n => if chN n then some (Lib.encodeRune (n : Int)) else none) := by
      show _ = _
      rw [HO.out, numL, if_pos (by rw [← HT.out.2]; exact hg)]
    obtain ⟨hg1, hg7⟩ := hg
    clear hbad HO
    go_enter Tryz.func45, Tryz.ntmps45
    go_wp2_with (go_at_call 61; refine (HP1.out _).mono ?_; rintro e w' ⟨rfl, rfl⟩)
    go_loop [5, 6] (fun v i => ∃ k n : Nat, k ≤ t.size ∧ i = .int .i64 k ∧ v = .int .i64 n ∧ n < 16 ^ k ∧ digs 16 0 (ds.take k) = some n) (fun _ i => t.size - (intOf i).toNat)
    case atStart => exact ⟨0, 0, Nat.zero_le _, rfl, rfl, by simp, rfl⟩
    case round =>
      obtain ⟨k, n, hk, rfl, rfl, hn, hdg⟩ := hrel
      have HDG : Hid (digs 16 0 (ds.take k) = some n) := hdg
      have hn7 : n < 268435456 := Nat.lt_of_lt_of_le hn (by
        have : (16 : Nat) ^ k ≤ 16 ^ 7 := Nat.pow_le_pow_right (by omega) (by omega)
        omega)
      have HNN : Hid (n < 16 ^ k) := hn
      clear hdg hn
      by_cases hlt : k < t.size
      · have hkl : k < ds.length := by rw [← HT.out.2]; exact hlt
        have hsk : (t[k].toNat : Int) = (ds[k].toNat : Int) := by
          have e : ∀ (t : ByteArray) (h : t = ⟨ds.toArray⟩) (hk : k < t.size), t[k] = ds[k] := by
            rintro t rfl hk
            rfl
          rw [e t HT.out.1 hlt]
        have hrest : digs 16 0 ds = (digs 16 0 (ds.take (k + 1))).bind fun m => digs 16 m (ds.drop (k + 1)) := by
          rw [← digs_app, List.take_append_drop]
        have hstep : digs 16 0 (ds.take (k + 1)) = if dv ds[k] < 16 then some (16 * n + dv ds[k]) else none := by
          rw [List.take_succ_eq_append_getElem hkl, digs_app, HDG.out]
          simp only [Option.bind_some, digs]
        obtain ⟨c, hc⟩ : ∃ c, ds[k] = c := ⟨_, rfl⟩
        rw [hc] at hsk hstep
        have KD := (show Hid (∀ W, Calls Tryz.prog 74 #[.int .u8 (c.toNat : Int)] W fun e w' => e = .returned (.int .i64 (dgN (c.toNat : Int))) ∧ W = w') from fun W => refDigit_any _ W (by omega) (by have := c.toNat_lt; omega))
        have hdd := dg_dv c
        generalize dgN (c.toNat : Int) = z at *
        generalize (c.toNat : Int) = cz at *
        by_cases hdb : dv c < 16
        · rw [if_neg (by omega)] at hdd
          rw [if_pos hdb] at hstep
          obtain ⟨d, hd⟩ : ∃ d, dv c = d := ⟨_, rfl⟩
          rw [hd] at hdd hstep hdb
          have HST : Hid (digs 16 0 (ds.take (k + 1)) = some (16 * n + d)) := hstep
          have HNX : Hid (16 * n + d < 16 ^ (k + 1)) := by
            show _ < _
            rw [Nat.pow_succ]
            have := HNN.out
            omega
          subst hdd
          clear hstep hrest hd hc c
          go_wp2_with (go_at_call 74; refine (KD.out _).mono ?_; rintro e w' ⟨rfl, rfl⟩)
          all_goals exact ⟨⟨k + 1, 16 * n + d, by omega, by go_num, by go_num, HNX.out, HST.out⟩, by simp [intOf]; omega⟩
        · rw [if_neg hdb] at hstep
          have HZ : Hid (O = none) := by
            show _ = _
            rw [HO2.out, hrest, hstep]
            rfl
          have hzz : z < 0 ∨ (16 ≤ z ∧ z < 200) := by
            split at hdd
            · omega
            · right
              refine ⟨by omega, ?_⟩
              have : dv c ≤ 99 := by unfold dv; (repeat' split) <;> omega
              omega
          clear hstep hrest hc hdd hdb
          rcases hzz with hz0 | ⟨hz1, hz2⟩
          · go_wp2_with (go_at_call 74; refine (KD.out _).mono ?_; rintro e w' ⟨rfl, rfl⟩)
            go_ret2
            exact ⟨by rw [HZ.out]; rfl, Below.refl _ _⟩
          · go_wp2_with (go_at_call 74; refine (KD.out _).mono ?_; rintro e w' ⟨rfl, rfl⟩)
            go_ret2
            exact ⟨by rw [HZ.out]; rfl, Below.refl _ _⟩
      · have hdn : digs 16 0 ds = some n := by
          have : ds.take k = ds := List.take_of_length_le (by rw [← HT.out.2]; omega)
          rw [← this]
          exact HDG.out
        have KC := (show Hid (∀ W, Calls Tryz.prog 60 #[.int .i64 (n : Int)] W fun e w' => e = .returned (.bool (chN n)) ∧ W = w') from fun W => by
          have := char60 (n : Int) W (by omega) (by omega)
          rw [ch_char] at this
          exact this)
        by_cases hch : chN n = true
        · have HZ : Hid (O = some (Lib.encodeRune (n : Int))) := by
            show _ = _
            rw [HO2.out, hdn]
            simp only [Option.bind_some, if_pos hch]
          have KU := (show Hid (∀ W, Calls Tryz.prog 75 #[.int .i64 (n : Int)] W fun e w' => e = .returned (.string ⟨(Lib.encodeRune (n : Int)).toArray⟩) ∧ Below W.heap.size W w') from fun W => utf8_ref n (ch_valid hch) W)
          rw [hch] at KC
          clear hch hdn
          go_wp2_with (first | (go_at_call 60; refine (KC.out _).mono ?_; rintro e w' ⟨rfl, rfl⟩) | (go_at_call 75; refine (KU.out _).mono ?_; rintro e w' ⟨rfl, hb⟩))
          go_ret2
          exact ⟨by rw [HZ.out]; rfl, hb⟩
        · have HZ : Hid (O = none) := by
            show _ = _
            rw [HO2.out, hdn]
            simp only [Option.bind_some, if_neg hch]
          rw [Bool.not_eq_true] at hch
          rw [hch] at KC
          clear hch hdn
          go_wp2_with (go_at_call 60; refine (KC.out _).mono ?_; rintro e w' ⟨rfl, rfl⟩)
          go_ret2
          exact ⟨by rw [HZ.out]; rfl, Below.refl _ _⟩
end Go.Proofs.YtohkocknpmnakaaGreatDoor

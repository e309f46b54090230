/-
  The reader's steps over texts and digits.
-/
import Derived.Test.YtgpjjlkkfddjnaaDoorRdrB
import Derived.BigQuiet
import Derived.Deep.RegionWith
import Derived.LoopN
namespace Go.Proofs.YtgpjjlkkfddjnaaDoor
open Go.RowKit

theorem dg_no {most n : Nat} {l : List UInt8} (hk : n ≤ dnL most l) (h : ¬ (n < most ∧ ∃ h : n < l.length, isDg l[n] = true)) : dnL most l = n := by
  have := _root_.mt (dnL_at hk).1 h
  omega
theorem dgS_eq {least most k n : Nat} {b : Bool} {s : RS} (hd : dnL most s.1 = k) (hn : max k least = n) (hb : (decide (least ≤ k) || decide (k = s.1.length)) = b) : dgS least most s = tkS n (exS b s) := by
  subst hd hn hb
  rfl
theorem dg_fin {least most k n p B : Nat} {b : Bool} {s : RS} {w w2 w3 : World} (hd : dnL most s.1 = k) (hn : max k least = n) (hb : (decide (least ≤ k) || decide (k = s.1.length)) = b)
    (hr : ∃ a cap, Rx w3 p B a cap (tkS n (exS b s)).2) (hm1 : Md (· = p) w w2) (hm2 : Md (· = p) w2 w3) :
    Ending.returned (.string ⟨(tkS n (exS b s)).1.toArray⟩) = .returned (.string ⟨(dgS least most s).1.toArray⟩) ∧ (∃ a cap, Rx w3 p B a cap (dgS least most s).2) ∧ Md (· = p) w w3 := by
  rw [dgS_eq hd hn hb]
  exact ⟨rfl, hr, hm1.trans hm2⟩
set_option maxRecDepth 20000 in
set_option maxHeartbeats 8000000 in
theorem digits_any (p B : Nat) (a : Option Addr) (cap : Nat) (s : RS) (least most : Nat) (w : World) (h : Rx w p B a cap s) (h1 : least ≤ 100) (h2 : most ≤ 100) (hl : s.1.length ≤ 1000000000) :
    Calls Tryd.prog 38 #[.pointer (some ⟨p, 0, none⟩), .int .i64 (least : Int), .int .i64 (most : Int)] w fun e w' => e = .returned (.string ⟨(dgS least most s).1.toArray⟩) ∧ (∃ a cap, Rx w' p B a cap (dgS least most s).2) ∧ Md (· = p) w w' := by
  have H : Hid (Rx w p B a cap s) := h
  have HK : Hid (dnL most s.1 ≤ most ∧ dnL most s.1 ≤ s.1.length) := dnL_le most s.1
  have HL : Hid (s.1.length ≤ 1000000000) := hl
  have KE := (show Hid (∀ b, Calls Tryd.prog 41 #[.pointer (some ⟨p, 0, none⟩), .bool b] w fun e w' => e = .returned (.tuple #[]) ∧ Rx w' p B a cap (exS b s) ∧ Md (· = p) w w') from fun b => expect_any p B a cap s b w h)
  have c0 : w.cell? ⟨p, 0, none⟩ = some (.slice a s.1.length cap) := (cell_blk h.box 0).trans rfl
  have hcap := h.cap_
  have HBy : Hid (Bytes w a s.1) := h.by_
  clear h
  obtain ⟨l, hL⟩ : ∃ l, l = s.1 := ⟨_, rfl⟩
  rw [← hL] at c0 hl hcap HBy
  have HLS : Hid (l = s.1) := hL
  clear hL
  go_enter Tryd.func38, Tryd.ntmps38
  go_wp2
  go_loopw [7] (fun i wr => ∃ k : Nat, k ≤ dnL most l ∧ i = .int .i64 k ∧ wr = w) (fun i _ => dnL most l - (intOf i).toNat)
  case atStart => exact ⟨0, Nat.zero_le _, rfl, rfl⟩
  case round =>
    obtain ⟨k, hk, rfl, rfl⟩ := hrel
    by_cases hgo : k < most ∧ ∃ h : k < l.length, isDg l[k] = true
    · obtain ⟨hm, hl1, hd⟩ := hgo
      have HK1 : Hid (k + 1 ≤ dnL most l) := (dnL_at hk).2 ⟨hm, hl1, hd⟩
      obtain ⟨b, off, rfl, hbs, hcs⟩ := (HBy.out).at hl1
      have hcell := hcs k hl1
      obtain ⟨c, hc⟩ : ∃ c, c = l[k] := ⟨_, rfl⟩
      rw [← hc] at hd hcell
      have K1 := isDigit_any c wr
      rw [hd] at K1
      clear hcs hc hd
      have hmi : (k : Int) < (most : Int) := by omega
      have hli : (k : Int) < (l.length : Int) := by omega
      have hk0 : (0 : Int) ≤ (k : Int) := by omega
      have hmin : min (most : Int) (l.length : Int) > (k : Int) := by omega
      go_wp2_with (go_at_call 59; refine Calls.mono K1 ?_; rintro e w1 ⟨rfl, rfl⟩)
      all_goals
        go_roundw
        case rel => exact ⟨k + 1, HK1.out, by go_num, by first | rfl | trivial⟩
        case measure => have := HK1.out; simp [intOf]; omega
    · have HD : Hid (dnL most l = k) := dg_no hk hgo
      have HX : Hid (k ≤ most ∧ k ≤ l.length) := by
        have := HK.out
        have := HD.out
        have := HLS.out
        subst this
        show _ ∧ _
        omega
      by_cases hm : k < most
      · by_cases hl1 : k < l.length
        · have hd : isDg l[k] = false := by
            cases h : isDg l[k] with
            | false => rfl
            | true => exact absurd ⟨hm, hl1, h⟩ hgo
          obtain ⟨b, off, rfl, hbs, hcs⟩ := (HBy.out).at hl1
          have hcell := hcs k hl1
          obtain ⟨c, hc⟩ : ∃ c, c = l[k] := ⟨_, rfl⟩
          rw [← hc] at hd hcell
          have K1 := isDigit_any c wr
          rw [hd] at K1
          clear hcs hc hd hgo
          have hmi : (k : Int) < (most : Int) := by omega
          have hli : (k : Int) < (l.length : Int) := by omega
          have hk0 : (0 : Int) ≤ (k : Int) := by omega
          have hmin : min (most : Int) (l.length : Int) > (k : Int) := by omega
          go_wp2_with (go_at_call 59; refine Calls.mono K1 ?_; rintro e w1 ⟨rfl, rfl⟩)
          all_goals
            go_wp2_with (first
              | (go_at_call 41; refine Calls.mono (KE.out _) ?_; rintro e w2 ⟨rfl, hx2, hm2⟩; have HM2 : Hid (Md (· = p) _ w2) := hm2; clear hm2)
              | (go_at_call 40; refine Calls.mono (take_any p B _ cap _ _ _ hx2 (by omega)) ?_; rintro e w3 ⟨⟨da, dc, rfl, hdc, hB, hlo, han⟩, hr, hmd⟩; have hcv := convert_bytes w3 da dc _ hB))
          all_goals
            go_ret
            exact dg_fin (k := k) (by rw [← HLS.out]; exact HD.out) (by omega) (by rw [← HLS.out]; first | (simp; done) | (rw [Bool.eq_iff_iff]; simp; omega)) hr HM2.out hmd
        · have hkl : k = l.length := by have := HX.out; omega
          have hkm : k ≤ most := by omega
          have hli : ¬ (k : Int) < (l.length : Int) := by omega
          clear hl1 hgo
          all_goals
            go_wp2_with (first
              | (go_at_call 41; refine Calls.mono (KE.out _) ?_; rintro e w2 ⟨rfl, hx2, hm2⟩; have HM2 : Hid (Md (· = p) _ w2) := hm2; clear hm2)
              | (go_at_call 40; refine Calls.mono (take_any p B _ cap _ _ _ hx2 (by omega)) ?_; rintro e w3 ⟨⟨da, dc, rfl, hdc, hB, hlo, han⟩, hr, hmd⟩; have hcv := convert_bytes w3 da dc _ hB))
          all_goals
            go_ret
            exact dg_fin (k := k) (by rw [← HLS.out]; exact HD.out) (by omega) (by rw [← HLS.out]; first | (simp; done) | (rw [Bool.eq_iff_iff]; simp; omega)) hr HM2.out hmd
      · have hkm : k = most := by have := HX.out; omega
        have hkl : k ≤ l.length := HX.out.2
        have hmi : ¬ (k : Int) < (most : Int) := by omega
        clear hm hgo
        all_goals
          go_wp2_with (first
            | (go_at_call 41; refine Calls.mono (KE.out _) ?_; rintro e w2 ⟨rfl, hx2, hm2⟩; have HM2 : Hid (Md (· = p) _ w2) := hm2; clear hm2)
            | (go_at_call 40; refine Calls.mono (take_any p B _ cap _ _ _ hx2 (by omega)) ?_; rintro e w3 ⟨⟨da, dc, rfl, hdc, hB, hlo, han⟩, hr, hmd⟩; have hcv := convert_bytes w3 da dc _ hB))
        all_goals
          go_ret
          exact dg_fin (k := k) (by rw [← HLS.out]; exact HD.out) (by omega) (by rw [← HLS.out]; first | (simp; done) | (rw [Bool.eq_iff_iff]; simp; omega)) hr HM2.out hmd
end Go.Proofs.YtgpjjlkkfddjnaaDoor

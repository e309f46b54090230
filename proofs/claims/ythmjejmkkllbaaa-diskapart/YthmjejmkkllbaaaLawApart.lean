/-
  DiskApart: the walk.
-/
import Derived.Test.YthmjejmkkllbaaaTri
import Derived.Test.YthmjejmkkllbaaaOpen
import Derived.Deep.CutRange
import Derived.Deep.RegionWith
import Derived.BigRegion
import Derived.Deep.DeepCutAuto
namespace Go.Proofs.Ythmjejmkkllbaaa
open Go.RowKit

theorem Ints.at {w : World} {a : Option Addr} {l : List Int} (h : Ints w a l) {k : Nat} (hk : k < l.length) : ∃ b off, a = some ⟨b, off, none⟩ ∧ b < w.heap.size ∧ ∀ j (h : j < l.length), w.cell? ⟨b, off + j, none⟩ = some (.int .i64 l[j]) := by
  rcases h with rfl | h
  · simp at hk
  · exact h

theorem str_ne (x : ByteArray) : (x.toList != x.toList) = false := by simp

set_option maxHeartbeats 8000000 in
set_option maxRecDepth 20000 in
theorem apart_walk (a0 a1 : Option Addr) (l0 l1 : List Int) (cap0 cap1 : Nat) (w : World) (hb0 : Ints w a0 l0) (hb1 : Ints w a1 l1) :
    Calls Try.prog 6 #[.slice a0 l0.length cap0, .slice a1 l1.length cap1] w fun e w' => e = .returned (.bool true) ∧ Below w.heap.size w w' := by
  have hnew := dl_new w
  have H0 : Hid (Ints w a0 l0) := hb0
  have H1 : Hid (Ints w a1 l1) := hb1
  clear hb0 hb1
  go_enter Try.func6, Try.ntmps6
  go_wp2_with fail
  refine Calls.mono hnew ?_
  rintro e w1 ⟨d, rfl, hI1⟩
  clear hnew
  have HI1 : Hid (DL w w1 d (fun _ => False) (D.new 8 blank)) := hI1
  clear hI1
  go_wp2
  go_loopw [7] (fun i wr => ∃ k : Nat, k ≤ l0.length ∧ k ≤ 30 ∧ i = .int .i64 k ∧ DL w wr d (fun _ => False) (MW (List.replicate 8 blank) (cf 1 0 l0 k)))
    (fun i _ => 30 - (intOf i).toNat)
  case atStart => exact ⟨0, Nat.zero_le _, by omega, rfl, HI1.out⟩
  case round =>
    obtain ⟨k, hk, hk40, rfl, hI⟩ := hrel
    clear HI1
    by_cases hlt : k < l0.length ∧ k < 30
    · obtain ⟨hlt, h40⟩ := hlt
      obtain ⟨b, off, rfl, hbl, hcs⟩ := H0.out.at hlt
      have hcw : w.cell? ⟨b, off + k, none⟩ = some (.int .i64 l0[k]) := hcs k hlt
      have hcell : wr.cell? ⟨b, off + k, none⟩ = some (.int .i64 l0[k]) := (hI.old.cell (p := ⟨b, off + k, none⟩) hbl).trans hcw
      have hgD : l0.getD k 0 = l0[k] := by simp [List.getD, hlt]
      obtain ⟨v, hv⟩ : ∃ v, v = l0[k] := ⟨_, rfl⟩
      rw [← hv] at hcell hgD
      have hki : (k : Int) < (l0.length : Int) := by omega
      have h40i : (k : Int) < 30 := by omega
      have hse := sector_any 1 (k : Int) wr.drew
      have HSE := (show Hid _ from hse)
      have HI : Hid (DL w wr d (fun _ => False) (MW (List.replicate 8 blank) (cf 1 0 l0 k))) := hI
      have HG := (show Hid (l0.getD k 0 = v) from hgD)
      have HBL : Hid (b < w.heap.size) := hbl
      have hsz := hI.old.size
      obtain ⟨m8, hm8e⟩ : ∃ m8 : Nat, v % 8 = (m8 : Int) := ⟨(v % 8).toNat, by omega⟩
      have HM2 : Hid (v % 8 = (m8 : Int)) := hm8e
      have ha7 := and7 v
      rw [hm8e] at ha7
      clear hm8e hse hI hgD hcs hcw hv hbl
      have hwf : ∀ w2 : World, w2.ownsRow wr.heap.size 5 1 (.slice (some ⟨wr.heap.size, 0, none⟩) 256 256) 256 (bcs (sec 1 (k : Int))) → Below wr.heap.size wr.drew w2 → w2.cell? ⟨b, off + k, none⟩ = some (.int .i64 v) ∧ Calls Try.prog 11 #[.pointer (some ⟨d, 0, none⟩), .int .i64 (m8 : Int), .slice (some ⟨wr.heap.size, 0, none⟩) 256 256] w2 fun e w' => e = .returned (.int .i64 0) ∧ w'.cell? ⟨b, off + k, none⟩ = some (.int .i64 v) ∧ DL w w' d (fun _ => False) (MW (List.replicate 8 blank) (cf 1 0 l0 (k + 1))) := by
        intro w2 ho hb
        have hb' : Below wr.heap.size wr w2 := ⟨hb.os, hb.tape, hb.output, hb.size, hb.block⟩
        have hbl := HBL.out
        refine ⟨(hb'.cell (p := ⟨b, off + k, none⟩) (by show b < _; omega)).trans hcell, ?_⟩
        have hd := dl_write (v % 8) (cap := 256) HI.out (sec_length 1 (k : Int)) hb' (Nat.le_refl _) (own_bytes ho) (by show (cf 1 0 l0 k).length ≤ _; rw [cf_length]; omega)
        rw [show (⟨(sec 1 (k : Int)).toArray⟩ : ByteArray) = secT 1 (k : Int) from rfl, MW_wr _ (by rw [List.length_replicate])] at hd
        rw [HM2.out] at hd
        refine hd.mono ?_
        rintro e w' ⟨rfl, q1, q2⟩
        refine ⟨rfl, ?_, ?_⟩
        · exact (q1.old.cell (p := ⟨b, off + k, none⟩) hbl).trans ((HI.out.old.cell (p := ⟨b, off + k, none⟩) hbl).symm.trans hcell)
        · rw [cf_succ, HG.out, HM2.out, Int.add_zero]
          exact q1
      have HWF := (show Hid _ from hwf)
      clear hwf
      go_wp2
      go_region_held3 (fun w' => w'.cell? ⟨b, off + k, none⟩ = some (.int .i64 v)) (go_keep)
        (first
          | (go_at_call 12; refine Calls.mono HSE.out ?_; rintro e w2 ⟨rfl, ho2, hb2⟩; have s0 : w2.cell? ⟨b, off + k, none⟩ = some (.int .i64 v) := (HWF.out w2 ho2 hb2).1; have hwc := (HWF.out w2 ho2 hb2).2; clear ho2 hb2)
          | (go_at_call 11; refine Calls.mono hwc ?_; rintro e w3 ⟨rfl, s0', hI3⟩))
      have HI3 : Hid (DL w w3 d (fun _ => False) (MW (List.replicate 8 blank) (cf 1 0 l0 (k + 1)))) := hI3
      clear hwc hI3 HWF HSE
      go_wp2
      go_roundw
      case rel => exact ⟨k + 1, by omega, by omega, by go_num, HI3.out⟩
      case measure => simp [intOf]; omega
    · obtain ⟨M, hM⟩ : ∃ M, M = MW (List.replicate 8 blank) (cf 1 0 l0 k) := ⟨_, rfl⟩
      have hMs : M.st = 0 := by rw [hM]; rfl
      have hMl : M.S.length = 8 := by rw [hM]; show (app _ _).length = 8; rw [app_length, List.length_replicate]
      have hMc : M.C.length ≤ 30 := by rw [hM]; show (cf 1 0 l0 k).length ≤ _; rw [cf_length]; exact hk40
      rw [← hM] at hI
      have HI : Hid (DL w wr d (fun _ => False) M) := hI
      have HLT := (show Hid (¬ (k < l0.length ∧ k < 30)) from hlt)
      have HM : Hid (M.st = 0 ∧ M.S.length = 8 ∧ M.C.length ≤ 30) := ⟨hMs, hMl, hMc⟩
      clear hI hlt hM hMs hMl hMc
      go_upto_region 5 with fail
      go_cut [33] (fun s w' => s = .bool false ∧ w' = wr)
      case first =>
        by_cases hc : k < l0.length
        · have hc1 : (k : Int) < (l0.length : Int) := by omega
          have hc2 : ¬ (k : Int) < 30 := by have := HLT.out; omega
          go_wp2
          go_meet
          case rel => exact ⟨rfl, rfl⟩
        · have hc1 : ¬ (k : Int) < (l0.length : Int) := by omega
          go_wp2
          go_meet
          case rel => exact ⟨rfl, rfl⟩
      case rest =>
        obtain ⟨rfl, rfl⟩ := hcut
        have hcp := dl_copy HI.out (by have := HM.out.2.2; omega)
        clear H0 HLT hk hk40
        go_wp2_with fail
        refine Calls.mono hcp ?_
        rintro e w2 ⟨c, rfl, hc2, hb2⟩
        have HC2 : Hid (Dev w2 (fun k => wc.heap.size ≤ k ∧ k < w2.heap.size) c M ∧ Below wc.heap.size wc w2) := ⟨hc2, hb2⟩
        clear hcp hc2 hb2
        have hcp := dl_copy (HI.out.below HC2.out.2) (by have := HM.out.2.2; omega)
        go_wp2_with fail
        refine Calls.mono hcp ?_
        rintro e w3 ⟨v, rfl, hv3, hb3⟩
        have HT3 : Hid (Tri w w3 d c v M M M) := tri_make HI.out HC2.out.1 HC2.out.2 hv3 hb3
        clear hcp hv3 hb3 HC2 HI
        go_wp2
        go_loopw [10] (fun i wr => ∃ k : Nat, k ≤ l1.length ∧ k ≤ 30 ∧ i = .int .i64 k ∧ ∃ Mc, Tri w wr d c v M Mc M ∧ Go1 Mc (30 + k))
          (fun i _ => 30 - (intOf i).toNat)
        case atStart => exact ⟨0, Nat.zero_le _, by omega, rfl, M, HT3.out, HM.out.1, HM.out.2.1, HM.out.2.2⟩
        case round =>
          obtain ⟨k2, hk2, hk240, rfl, Mc, hT, hG1⟩ := hrel
          clear HT3
          by_cases hlt : k2 < l1.length ∧ k2 < 30
          · obtain ⟨hlt, h40⟩ := hlt
            obtain ⟨b, off, rfl, hbl, hcs⟩ := H1.out.at hlt
            have hcw : w.cell? ⟨b, off + k2, none⟩ = some (.int .i64 l1[k2]) := hcs k2 hlt
            have hcell : wr.cell? ⟨b, off + k2, none⟩ = some (.int .i64 l1[k2]) := (hT.old.cell (p := ⟨b, off + k2, none⟩) hbl).trans hcw
            obtain ⟨q, hq⟩ : ∃ q, q = l1[k2] := ⟨_, rfl⟩
            rw [← hq] at hcell
            have hki : (k2 : Int) < (l1.length : Int) := by omega
            have h40i : (k2 : Int) < 30 := by omega
            have hse := sector_any 3 (k2 : Int) wr.drew
            have HSE := (show Hid _ from hse)
            have HT : Hid (Tri w wr d c v M Mc M ∧ Go1 Mc (30 + k2)) := ⟨hT, hG1⟩
            have HBL : Hid (b < w.heap.size) := hbl
            have hsz := hT.old.size
            obtain ⟨m8, hm8e⟩ : ∃ m8 : Nat, q % 8 = (m8 : Int) := ⟨(q % 8).toNat, by omega⟩
            have hm8 : m8 < 8 := by omega
            have ha7 := and7 q
            rw [hm8e] at ha7
            clear hm8e hse hT hG1 hcs hcw hq hbl
            have hwf : ∀ w2 : World, w2.ownsRow wr.heap.size 5 1 (.slice (some ⟨wr.heap.size, 0, none⟩) 256 256) 256 (bcs (sec 3 (k2 : Int))) → Below wr.heap.size wr.drew w2 → w2.cell? ⟨b, off + k2, none⟩ = some (.int .i64 q) ∧ Calls Try.prog 11 #[.pointer (some ⟨c, 0, none⟩), .int .i64 (m8 : Int), .slice (some ⟨wr.heap.size, 0, none⟩) 256 256] w2 fun e w' => e = .returned (.int .i64 0) ∧ w'.cell? ⟨b, off + k2, none⟩ = some (.int .i64 q) ∧ ∃ Mc', Tri w w' d c v M Mc' M ∧ Go1 Mc' (30 + k2 + 1) := by
              intro w2 ho hb
              have hb' : Below wr.heap.size wr w2 := ⟨hb.os, hb.tape, hb.output, hb.size, hb.block⟩
              have hbl := HBL.out
              refine ⟨(hb'.cell (p := ⟨b, off + k2, none⟩) (by show b < _; omega)).trans hcell, ?_⟩
              refine (tri_write (cap := 256) (m8 : Int) HT.out.1 HT.out.2 (by omega) (by omega) (by omega) (sec_length 3 (k2 : Int)) hb' (Nat.le_refl _) (own_bytes ho)).mono ?_
              rintro e w' ⟨rfl, Mc', q1, q2⟩
              exact ⟨rfl, (q1.old.cell (p := ⟨b, off + k2, none⟩) hbl).trans ((HT.out.1.old.cell (p := ⟨b, off + k2, none⟩) hbl).symm.trans hcell), Mc', q1, q2⟩
            have HWF := (show Hid _ from hwf)
            clear hwf
            go_wp2
            go_region_held3 (fun w' => w'.cell? ⟨b, off + k2, none⟩ = some (.int .i64 q)) (go_keep)
              (first
                | (go_at_call 12; refine Calls.mono HSE.out ?_; rintro e w2 ⟨rfl, ho2, hb2⟩; have s0 : w2.cell? ⟨b, off + k2, none⟩ = some (.int .i64 q) := (HWF.out w2 ho2 hb2).1; have hwc := (HWF.out w2 ho2 hb2).2; clear ho2 hb2)
                | (go_at_call 11; refine Calls.mono hwc ?_; rintro e w4 ⟨rfl, s0', Mc', hT4, hG4⟩))
            have HX : Hid (Tri w w4 d c v M Mc' M ∧ Go1 Mc' (30 + k2 + 1)) := ⟨hT4, hG4⟩
            clear hwc hT4 hG4 HWF HSE
            go_wp2
            go_roundw
            case rel => exact ⟨k2 + 1, by omega, by omega, by go_num, Mc', HX.out.1, HX.out.2⟩
            case measure => simp [intOf]; omega
          · have HT : Hid (Tri w wr d c v M Mc M ∧ Go1 Mc (30 + k2)) := ⟨hT, hG1⟩
            have HLT2 := (show Hid (¬ (k2 < l1.length ∧ k2 < 30)) from hlt)
            clear hT hG1 hlt
            go_upto_region 13 with fail
            go_cut [62] (fun s w' => s = .bool false ∧ w' = wr)
            case first =>
              by_cases hc : k2 < l1.length
              · have hc1 : (k2 : Int) < (l1.length : Int) := by omega
                have hc2 : ¬ (k2 : Int) < 30 := by have := HLT2.out; omega
                go_wp2
                go_meet
                case rel => exact ⟨rfl, rfl⟩
              · have hc1 : ¬ (k2 : Int) < (l1.length : Int) := by omega
                go_wp2
                go_meet
                case rel => exact ⟨rfl, rfl⟩
            case rest =>
              obtain ⟨rfl, rfl⟩ := hcut
              have hfu := tri_fuse HT.out.1 HT.out.2
              go_wp2_with fail
              refine Calls.mono hfu ?_
              rintro e w4 ⟨rfl, hT4⟩
              have hfl := tri_flush hT4 HT.out.2 (by omega)
              clear hfu hT4
              go_wp2_with fail
              refine Calls.mono hfl ?_
              rintro e w5 ⟨rfl, hT5⟩
              obtain ⟨Md, hMd⟩ : ∃ Md : D, Md = { Mc with st := 2, k := 0 } := ⟨_, rfl⟩
              rw [← hMd] at hT5
              have hMd2 : Md.st = 2 := by rw [hMd]
              have HT5 : Hid (Tri w w5 d c v M Md M) := hT5
              have HD : Hid (Md.st = 2) := hMd2
              clear hfl hT5 hMd hMd2 HLT2 HT H1 hk2 hk240
              go_wp2
              go_loopw [11] (fun i wr => ∃ s : Nat, s ≤ 8 ∧ i = .int .i64 s ∧ Tri w wr d c v M Md M)
                (fun i _ => 8 - (intOf i).toNat)
              case atStart => exact ⟨0, Nat.zero_le _, rfl, HT5.out⟩
              case round =>
                clear HT5
                obtain ⟨s, hs8, rfl, hT⟩ := hrel
                by_cases hlt : s < 8
                · have hsi : (s : Int) < 8 := by omega
                  have hsl : s < M.S.length := by rw [HM.out.2.1]; exact hlt
                  have hr1 := tri_readD s hT (by rw [HM.out.1]; omega) hsl
                  obtain ⟨x, hx⟩ : ∃ x, x = M.S[s] := ⟨_, rfl⟩
                  rw [← hx] at hr1
                  have HT6 : Hid (Tri w wr d c v M Md M) := hT
                  have HX : Hid (x = M.S[s]) := hx
                  clear hT hx
                  go_wp2_with fail
                  refine Calls.mono hr1 ?_
                  rintro e w6 ⟨g1, c1, rfl, hf1, hg1, hb6⟩
                  have hr2 := tri_readV s (HT6.out.below hb6) (by rw [HM.out.1]; omega) hsl
                  rw [← HX.out] at hr2
                  have H6 : Hid (Fresh w6 g1 x ∧ Below wr.heap.size wr w6) := ⟨hf1, hb6⟩
                  clear hr1 hf1 hg1 hb6
                  go_wp2_with fail
                  refine Calls.mono hr2 ?_
                  rintro e w7 ⟨g2, c2, rfl, hf2, hg2, hb7⟩
                  have hf1 : Fresh w7 g1 x := H6.out.1.other hb7.size (hb7.block g1 H6.out.1.lt)
                  have hcx := convert_bytes w7 (some ⟨g1, 0, none⟩) c1 x.data.toList hf1.bytes
                  have hcy := convert_bytes w7 (some ⟨g2, 0, none⟩) c2 x.data.toList hf2.bytes
                  rw [show x.data.toList.length = x.size from by simp, show (⟨x.data.toList.toArray⟩ : ByteArray) = x from by simp] at hcx hcy
                  have HT7 : Hid (Tri w w7 d c v M Md M) := (HT6.out.below H6.out.2).below hb7
                  have hne := str_ne x
                  clear hr2 hf1 hf2 hg2 hb7 H6 HT6
                  go_wp2
                  go_roundw
                  case rel => exact ⟨s + 1, by omega, by go_num, HT7.out⟩
                  case measure => simp [intOf]; omega
                · have h1 := tri_deadC hT
                  have h2 := tri_deadD hT
                  have h3 := tri_pendD hT
                  have h4 := tri_pendV hT
                  have h5 := awake_any wr
                  rw [decide_eq_true HD.out] at h1
                  rw [decide_eq_false (by rw [HM.out.1]; omega)] at h2
                  have hsi : ¬ (s : Int) < 8 := by omega
                  have HOLD : Hid (Below w.heap.size w wr) := hT.old
                  have hpp : ((M.C.length : Int) == (M.C.length : Int)) = true := by simp
                  clear hT
                  go_wp2_with (first
                    | (go_at_call 13; (with_reducible refine Calls.mono h1 ?_); rintro e w6 ⟨rfl, rfl⟩)
                    | (go_at_call 13; (with_reducible refine Calls.mono h2 ?_); rintro e w6 ⟨rfl, rfl⟩)
                    | (go_at_call 23; (with_reducible refine Calls.mono h3 ?_); rintro e w6 ⟨rfl, rfl⟩)
                    | (go_at_call 23; (with_reducible refine Calls.mono h4 ?_); rintro e w6 ⟨rfl, rfl⟩)
                    | (go_at_call 8; refine Calls.mono h5 ?_; rintro e w6 ⟨rfl, hb6⟩))
                  go_ret
                  exact ⟨rfl, HOLD.out.trans (hb6.mono HOLD.out.size)⟩
end Go.Proofs.Ythmjejmkkllbaaa

/-
  The document's reader of chunks: eat.
-/
import Derived.Test.YtgpjjlkkfddjnaaDoorRrA
import Derived.BigQuiet
namespace Go.Proofs.YtgpjjlkkfddjnaaDoor
open Go.RowKit

/-- The reader stands where s tells. -/
def Rep (w : World) (p B : Nat) (a : Option Addr) (cap : Nat) (l : List UInt8) (s : RS) : Prop := ∃ k, Rr w p B a cap l k s.2 ∧ (s.2 = 0 → l.drop k = s.1)
set_option maxRecDepth 20000 in
set_option maxHeartbeats 4000000 in
theorem eat_any (p B : Nat) (a : Option Addr) (cap : Nat) (l : List UInt8) (s : RS) (t : List UInt8) (w : World) (h : Rep w p B a cap l s) (hl : l.length ≤ 1000000000) (ht : t.length ≤ 100) :
    Calls Tryd.prog 21 #[.pointer (some ⟨p, 0, none⟩), .string ⟨t.toArray⟩] w fun e w' => e = .returned (.tuple #[]) ∧ Rep w' p B a cap l (txS t s) ∧ Md (· = p) w w' := by
  obtain ⟨k0, hr, hd⟩ := h
  have HL := (show Hid (l.length ≤ 1000000000 ∧ t.length ≤ 100) from ⟨hl, ht⟩)
  obtain ⟨TS, hTS⟩ : ∃ TS : ByteArray, TS = ⟨t.toArray⟩ := ⟨_, rfl⟩
  have hTz : TS.size = t.length := by rw [hTS]; show t.toArray.size = _; simp
  have HTS := (show Hid (∀ j (h : j < t.length), ∃ h' : j < TS.size, (TS[j]'h').toNat = t[j].toNat) from fun j h => by
    subst hTS
    exact ⟨by rw [hTz]; exact h, rfl⟩)
  rw [← hTS]
  obtain ⟨r, f⟩ := s
  simp only at hr hd
  have HR := (show Hid (Rr w p B a cap l k0 f ∧ (f = 0 → l.drop k0 = r)) from ⟨hr, hd⟩)
  obtain ⟨c0, c1, c2, f1, f2⟩ := hr.cells
  by_cases hf : f = 0
  · subst hf
    have hdr := hd rfl
    subst hdr
    clear hr hd hTS
    go_enter Tryd.func21, Tryd.ntmps21
    go_wp2_with fail
    go_loopw [4] (fun i wr => ∃ (j k : Nat) (f9 : Int), j ≤ t.length + 1 ∧ i = .int .i64 (j : Int) ∧ Hid (Rr wr p B a cap l k f9 ∧ Md (· = p) w wr ∧ ((f9 = 0 ∧ j ≤ t.length ∧ k = k0 + j ∧ (l.drop k0).take j = t.take j) ∨ (f9 ≠ 0 ∧ f9 = (txS t (l.drop k0, 0)).2)))) (fun i _ => t.length + 1 - (intOf i).toNat)
    case atStart => exact ⟨0, k0, 0, by omega, rfl, ⟨HR.out.1, Md.refl _ _, .inl ⟨rfl, by omega, rfl, by simp⟩⟩⟩
    case round =>
      obtain ⟨j, k, f9, hj, rfl, hi⟩ := hrel
      clear c0 c1 c2 f1 f2
      obtain ⟨c0, c1, c2, f1, f2⟩ := hi.out.1.cells
      have hj9 : (j : Int) < 1000 := by have := HL.out.2; omega
      have hj0 : (0 : Int) ≤ (j : Int) := by omega
      by_cases hf9 : f9 = 0
      · subst hf9
        have hcase : j ≤ t.length ∧ k = k0 + j ∧ (l.drop k0).take j = t.take j := by
          rcases hi.out.2.2 with ⟨-, h⟩ | ⟨h, -⟩
          · exact h
          · exact absurd rfl h
        obtain ⟨hjt, hkk, hpre⟩ := hcase
        have HC := (show Hid (k = k0 + j ∧ (l.drop k0).take j = t.take j) from ⟨hkk, hpre⟩)
        by_cases hlt : j < t.length
        · have hjT : (j : Int) < (TS.size : Int) := by omega
          obtain ⟨hj2, hTj⟩ := HTS.out j hlt
          have hfit := tx_fit (t := t) (l := l.drop k0) (j := j) hlt (by rw [List.length_drop]; have := hi.out.1.kl; omega) hpre
          by_cases hkl : k = l.length
          · have hkli : (k : Int) = (l.length : Int) := by omega
            have HF := (show Hid ((txS t (l.drop k0, 0)).2 = 307) from hfit.1 (by rw [List.length_drop]; omega))
            clear hfit hTj hj2 hkk hpre
            go_wp2_with fail
            go_quiet (fail)
            go_wp2_with fail
            go_roundw
            case rel => exact ⟨j + 1, k, 307, by omega, by go_num, ⟨(hi.out.1.keep (drewN_below wr _)).turn (Md.setp (Md.refl _ _) _ _) hi.out.1.kl (by rw [set_blk (hi.out.1.keep (drewN_below wr _)).box]; rfl), (hi.out.2.1.below (drewN_below wr _)).setp _ _, .inr ⟨by decide, HF.out.symm⟩⟩⟩
            case measure => simp [intOf]; omega
          · have hkl2 : k < l.length := by have := hi.out.1.kl; omega
            have hkli : (k : Int) < (l.length : Int) := by omega
            have hkne : ¬ (k : Int) = (l.length : Int) := by omega
            have hk0 : (0 : Int) ≤ (k : Int) := by omega
            obtain ⟨b, off, rfl, hbs, hcs⟩ := hi.out.1.by_.at hkl2
            have hcell := hcs k hkl2
            have hdj : (l.drop k0)[j]'(by rw [List.length_drop]; omega) = l[k] := by
              rw [List.getElem_drop]
              congr 1
              omega
            have HK := (show Hid (∀ h : j < (l.drop k0).length, (l.drop k0)[j]'h = l[k]) from fun _ => hdj)
            clear hdj hcs hbs
            have h16 : IntKind.i64.wrap ((k : Int) + 1) = ((k + 1 : Nat) : Int) := by have := HL.out.1; rw [IntKind.wrap_i64]; omega
            by_cases heq : l[k] = t[j]
            · have hce : (l[k].toNat : Int) = ((TS[j]'hj2).toNat : Int) := by rw [heq, hTj]
              have HX := (show Hid ((l.drop k0).take (j + 1) = t.take (j + 1)) from by
                show _ = _
                rw [List.take_succ_eq_append_getElem (by rw [List.length_drop]; omega), List.take_succ_eq_append_getElem hlt, HC.out.2, HK.out _, heq])
              have HE := (show Hid (l[k] = t[j]) from heq)
              clear hfit hkk hpre heq
              go_wp2_with fail
              go_quiet (fail)
              go_wp2_with fail
              go_quiet (fail)
              go_wp2_with fail
              go_roundw
              case rel => exact ⟨j + 1, k + 1, 0, by omega, by go_num, ⟨(hi.out.1.keep (drewN_below wr _)).turn (Md.setp (Md.refl _ _) _ _) hkl2 (by rw [set_blk (hi.out.1.keep (drewN_below wr _)).box]; rfl), (hi.out.2.1.below (drewN_below wr _)).setp _ _, .inl ⟨rfl, by omega, by have := HC.out.1; omega, HX.out⟩⟩⟩
              case measure => simp [intOf]; omega
            · have hce : ¬ (l[k].toNat : Int) = ((TS[j]'hj2).toNat : Int) := by
                rw [hTj]
                intro e
                exact heq (UInt8.toNat_inj.1 (by omega))
              have HF := (show Hid ((txS t (l.drop k0, 0)).2 = 308) from hfit.2 (by rw [List.length_drop]; have := HC.out.1; omega) (by rw [HK.out _]; exact heq))
              clear hfit hkk hpre heq
              go_wp2_with fail
              go_quiet (fail)
              go_wp2_with fail
              go_quiet (fail)
              go_wp2_with fail
              go_roundw
              case rel => exact ⟨j + 1, k, 308, by omega, by go_num, ⟨(hi.out.1.keep (drewN_below wr _)).turn (Md.setp (Md.refl _ _) _ _) hi.out.1.kl (by rw [set_blk (hi.out.1.keep (drewN_below wr _)).box]; rfl), (hi.out.2.1.below (drewN_below wr _)).setp _ _, .inr ⟨by decide, HF.out.symm⟩⟩⟩
              case measure => simp [intOf]; omega
        · have hjT : ¬ (j : Int) < (TS.size : Int) := by omega
          have hjt2 : j = t.length := by omega
          have HW := (show Hid (txS t (l.drop k0, 0) = (l.drop k, 0)) from by
            show _ = _
            rw [tx_whole (by have := hpre; rw [hjt2, List.take_length] at this; exact this), List.drop_drop, hkk, hjt2])
          clear hkk hpre hjt2
          go_wp2_with fail
          all_goals
            refine bodyPost_end (results_none rfl _ _ _) rfl ?_
            refine ⟨rfl, ?_, ?_⟩
            · rw [HW.out]
              exact ⟨k, hi.out.1, fun _ => rfl⟩
            · exact hi.out.2.1
      · have hfe : f9 = (txS t (l.drop k0, 0)).2 := by
          rcases hi.out.2.2 with ⟨h, -⟩ | ⟨-, h⟩
          · exact absurd h hf9
          · exact h
        have HW := (show Hid (f9 = (txS t (l.drop k0, 0)).2 ∧ f9 ≠ 0) from ⟨hfe, hf9⟩)
        clear hfe
        by_cases hjT : (j : Int) < (TS.size : Int)
        all_goals
          go_wp2_with fail
          all_goals
            refine bodyPost_end (results_none rfl _ _ _) rfl ?_
            refine ⟨rfl, ⟨k, ?_, fun h => absurd (HW.out.1.trans h) HW.out.2⟩, ?_⟩
            · rw [← HW.out.1]
              exact hi.out.1
            · exact hi.out.2.1
  · have HE := (show Hid (txS t (r, f) = (r, f)) from by
      show _ = _
      rw [txS, exS_fault hf, tkS_fault hf])
    clear hr hd hTS
    by_cases hjT : (0 : Int) < (TS.size : Int)
    all_goals
      go_enter Tryd.func21, Tryd.ntmps21
      go_wp2_with fail
      go_loopw [4] (fun i wr => i = .int .i64 0 ∧ wr = w) (fun i _ => 0)
      case atStart => exact ⟨rfl, rfl⟩
      case round =>
        obtain ⟨rfl, rfl⟩ := hrel
        go_wp2_with fail
        all_goals
          refine bodyPost_end (results_none rfl _ _ _) rfl ?_
          refine ⟨rfl, ?_, ?_⟩
          · rw [HE.out]
            exact ⟨k0, HR.out.1, fun h => absurd h hf⟩
          · exact Md.refl _ _
end Go.Proofs.YtgpjjlkkfddjnaaDoor
